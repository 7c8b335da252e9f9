/- What the program's trees do: Size, Apart, Within, one, Together. -/
import Derived.Deep.RegionHeld3
import Derived.Test.YtogmdaopfnmobaaGreatA10
namespace Go.Proofs.YtogmdaopfnmobaaGreat
open Go.RowKit
theorem ret_bool {a b : Bool} (h : a = b) : Ending.returned (.bool a) = .returned (.bool b) := by rw [h]
def paV (a b : Nat) : Value := .agg #[.int .i64 a, .int .i64 b]
set_option maxHeartbeats 400000 in
theorem size_any (a b : Nat) (w : World) (hab : a ≤ b) (hb : b ≤ 100000) : Calls Tryz.prog 112 #[paV a b] w fun e w' => e = .returned (.int .i64 ((b - a : Nat) : Int)) ∧ Below w.heap.size w w' := by
  have e : (b : Int) - a = ((b - a : Nat) : Int) := by omega
  have E : Hid _ := e
  clear e
  unfold paV
  go_enter Tryz.func112, Tryz.ntmps112
  go_wp2
  go_ret
  exact ⟨by rw [← E.out]; rfl, (Below.refl _ _).alloc (Nat.le_refl _) _⟩
def apB (a b f t : Nat) : Bool := decide (min b t ≤ max a f)
set_option maxHeartbeats 1000000 in
theorem apart_any (a b f t : Nat) (w : World) (_hb : b ≤ 100000) (_ht : t ≤ 100000) : Calls Tryz.prog 140 #[paV a b, paV f t] w fun e w' => e = .returned (.bool (apB a b f t)) ∧ Below w.heap.size w w' := by
  unfold paV
  go_enter Tryz.func140, Tryz.ntmps140
  go_wp2
  all_goals go_ret
  all_goals refine ⟨ret_bool ?_, ((Below.refl _ _).alloc (Nat.le_refl _) _).alloc (by simp) _⟩
  all_goals (simp only [apB, decide_eq_decide]; omega)
def wiB (a b f t : Nat) : Bool := decide (¬ min b t ≤ max a f ∧ f ≤ a ∧ b ≤ t)
set_option maxHeartbeats 1000000 in
set_option maxRecDepth 100000 in
theorem within_any (a b f t : Nat) (w : World) (hb : b ≤ 100000) (ht : t ≤ 100000) : Calls Tryz.prog 107 #[paV a b, paV f t] w fun e w' => e = .returned (.bool (wiB a b f t)) ∧ Below w.heap.size w w' := by
  have HA : ∀ w', Hid (Calls Tryz.prog 140 #[.agg #[.int .i64 a, .int .i64 b], .agg #[.int .i64 f, .int .i64 t]] w' fun e w2 => e = .returned (.bool (apB a b f t)) ∧ Below w'.heap.size w' w2) := fun w' => hid (apart_any a b f t w' hb ht)
  unfold paV
  have ways : ∀ r : Bool, (apB a b f t = true → r = false) → (apB a b f t = false → (f : Int) ≤ a → r = decide ((b : Int) ≤ t)) → (apB a b f t = false → ¬ (f : Int) ≤ a → r = false) → r = wiB a b f t := by
    intro r r1 r2 r3
    cases hp : apB a b f t with
    | true => rw [r1 hp]; simp only [apB, decide_eq_true_eq] at hp; symm; simp only [wiB, decide_eq_false_iff_not]; omega
    | false =>
      simp only [apB, decide_eq_false_iff_not] at hp
      by_cases h : (f : Int) ≤ a
      · rw [r2 (by simp only [apB, decide_eq_false_iff_not]; exact hp) h]; simp only [wiB, decide_eq_decide]; omega
      · rw [r3 (by simp only [apB, decide_eq_false_iff_not]; exact hp) h]; symm; simp only [wiB, decide_eq_false_iff_not]; omega
  have HW : Hid _ := ways
  clear ways
  cases hp : apB a b f t with
  | true =>
    rw [hp] at HA HW
    go_enter Tryz.func107, Tryz.ntmps107
    go_wp2_with fail
    refine (HA _).out.mono ?_
    rintro e w1 ⟨rfl, hb1⟩
    have B1 : Hid (Below w.heap.size w w1) := hid ((((Below.refl _ _).alloc (Nat.le_refl _) _).alloc (by simp) _).trans (hb1.mono (by simp; omega)))
    clear hb1
    go_wp2
    go_ret
    exact ⟨ret_bool (HW.out _ (by simp) (by simp) (by simp)), B1.out⟩
  | false =>
    rw [hp] at HA HW
    by_cases h1 : (f : Int) ≤ a
    · go_enter Tryz.func107, Tryz.ntmps107
      go_wp2_with fail
      refine (HA _).out.mono ?_
      rintro e w1 ⟨rfl, hb1⟩
      have hc1 := oldc hb1
      have z0 : w.heap.size < w1.heap.size := by have := hb1.size; simp at this; omega
      have z1 : w.heap.size + 1 < w1.heap.size := by have := hb1.size; simp at this; omega
      have B1 : Hid (Below w.heap.size w w1) := hid ((((Below.refl _ _).alloc (Nat.le_refl _) _).alloc (by simp) _).trans (hb1.mono (by simp; omega)))
      go_wp2
      go_ret
      exact ⟨ret_bool (HW.out _ (by simp) (by simp) (fun _ h => absurd h1 (by omega))), B1.out⟩
    · go_enter Tryz.func107, Tryz.ntmps107
      go_wp2_with fail
      refine (HA _).out.mono ?_
      rintro e w1 ⟨rfl, hb1⟩
      have hc1 := oldc hb1
      have z0 : w.heap.size < w1.heap.size := by have := hb1.size; simp at this; omega
      have z1 : w.heap.size + 1 < w1.heap.size := by have := hb1.size; simp at this; omega
      have B1 : Hid (Below w.heap.size w w1) := hid ((((Below.refl _ _).alloc (Nat.le_refl _) _).alloc (by simp) _).trans (hb1.mono (by simp; omega)))
      go_wp2
      go_ret
      exact ⟨ret_bool (HW.out _ (by simp) (fun _ h => absurd h (by omega)) (by simp)), B1.out⟩
set_option maxHeartbeats 400000 in
theorem one_any (v : Int) (w : World) : Calls Tryz.prog 115 #[.int .i64 v] w fun e w' => e = .returned (foV (.one v)) ∧ Below w.heap.size w w' := by
  go_enter Tryz.func115, Tryz.ntmps115
  go_wp2
  exact ret_fold1 Tryz.results115 (FoAt.at w w.heap.size rfl (.one v)) rfl ⟨rfl, (Below.refl _ _).alloc (Nat.le_refl _) _⟩
set_option maxHeartbeats 2000000 in
set_option maxRecDepth 100000 in
theorem together_any (c s m x c' s' m' x' : Int) (w : World) (hc : 0 ≤ c ∧ c ≤ 1000000000000000) (hs : 0 ≤ s ∧ s ≤ 1000000000000000) (hc' : 0 ≤ c' ∧ c' ≤ 1000000000000000) (hs' : 0 ≤ s' ∧ s' ≤ 1000000000000000) :
    Calls Tryz.prog 108 #[.agg #[.int .i64 c, .int .i64 s, .int .i64 m, .int .i64 x], .agg #[.int .i64 c', .int .i64 s', .int .i64 m', .int .i64 x']] w fun e w' =>
      e = .returned (foV (tog ⟨c, s, m, x⟩ ⟨c', s', m', x'⟩)) ∧ Below w.heap.size w w' := by
  by_cases h0 : c = 0
  · subst h0
    go_enter Tryz.func108, Tryz.ntmps108
    go_wp2
    all_goals go_region
    all_goals go_wp2
    all_goals refine bodyPost_ret (v := .agg #[.int .i64 c', .int .i64 (s + s'), .int .i64 m', .int .i64 x']) (by simp [results, Tryz.results108, go_sem]) rfl ⟨?_, ?_⟩
    all_goals first | (simp [foV, tog, *]; done) | (repeat (first | exact Below.refl _ _ | refine Below.drew ?_ | refine Below.setCell ?_ (by simp) _ | refine Below.alloc ?_ (by simp; try omega) _))
  · have b0 : (c == 0) = false := by simp [h0]
    by_cases h1 : c' = 0
    · subst h1
      go_enter Tryz.func108, Tryz.ntmps108
      go_wp2
      all_goals go_region
      all_goals go_wp2
      all_goals refine bodyPost_ret (v := .agg #[.int .i64 c, .int .i64 (s + s'), .int .i64 m, .int .i64 x]) (by simp [results, Tryz.results108, go_sem]) rfl ⟨?_, ?_⟩
      all_goals first | (simp [foV, tog, *]; done) | (repeat (first | exact Below.refl _ _ | refine Below.drew ?_ | refine Below.setCell ?_ (by simp) _ | refine Below.alloc ?_ (by simp; try omega) _))
    · have b1 : (c' == 0) = false := by simp [h1]
      go_enter Tryz.func108, Tryz.ntmps108
      go_wp2
      · refine bodyPost_ret (v := .agg #[.int .i64 (c + c'), .int .i64 (s + s'), .int .i64 m', .int .i64 x']) (by simp [results, Tryz.results108, go_sem]) rfl ⟨?_, ?_⟩
        · simp [foV, tog, h0, h1]; omega
        · repeat (first | exact Below.refl _ _ | refine Below.drew ?_ | refine Below.setCell ?_ (by simp) _ | refine Below.alloc ?_ (by simp; try omega) _)
      · refine bodyPost_ret (v := .agg #[.int .i64 (c + c'), .int .i64 (s + s'), .int .i64 m', .int .i64 x]) (by simp [results, Tryz.results108, go_sem]) rfl ⟨?_, ?_⟩
        · simp [foV, tog, h0, h1]; omega
        · repeat (first | exact Below.refl _ _ | refine Below.drew ?_ | refine Below.setCell ?_ (by simp) _ | refine Below.alloc ?_ (by simp; try omega) _)
      · refine bodyPost_ret (v := .agg #[.int .i64 (c + c'), .int .i64 (s + s'), .int .i64 m, .int .i64 x']) (by simp [results, Tryz.results108, go_sem]) rfl ⟨?_, ?_⟩
        · simp [foV, tog, h0, h1]; omega
        · repeat (first | exact Below.refl _ _ | refine Below.drew ?_ | refine Below.setCell ?_ (by simp) _ | refine Below.alloc ?_ (by simp; try omega) _)
      · refine bodyPost_ret (v := .agg #[.int .i64 (c + c'), .int .i64 (s + s'), .int .i64 m, .int .i64 x]) (by simp [results, Tryz.results108, go_sem]) rfl ⟨?_, ?_⟩
        · simp [foV, tog, h0, h1]; omega
        · repeat (first | exact Below.refl _ _ | refine Below.drew ?_ | refine Below.setCell ?_ (by simp) _ | refine Below.alloc ?_ (by simp; try omega) _)
end Go.Proofs.YtogmdaopfnmobaaGreat

