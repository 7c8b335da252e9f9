/- What the program's trees do: Len, Split. -/
import Derived.Test.YtogmdaopfnmobaaGreatA26
import Derived.Test.YtogmdaopfnmobaaGreatA15
namespace Go.Proofs.YtogmdaopfnmobaaGreat
open Go.RowKit
set_option maxHeartbeats 400000 in
theorem len_any (n : Nat) (w : World) (h1 : 1 ≤ n) (hn : n ≤ 63) : Calls Tryz.prog 142 #[.int .u64 n] w fun e w' => e = .returned (.int .i64 ((n.log2 + 1 : Nat) : Int)) ∧ w' = w := by
  have HL : Hid _ := len64_any n h1 hn w
  go_enter Tryz.func142, Tryz.ntmps142
  go_wp2_with fail
  refine Calls.mono (show Calls Tryz.prog 147 _ _ _ from HL.out) ?_
  rintro e w1 ⟨rfl, hw⟩
  rw [hw]
  clear hw w1
  go_wp2
  go_ret
  exact ⟨rfl, rfl⟩
theorem far_set {n g o : Nat} {w w' : World} {v : Value} (h : w'.heap[n]? = w.heap[n]?) (hne : n ≠ g) : (w'.setCell ⟨g, o, none⟩ v).heap[n]? = w.heap[n]? := (Below.heap_setCell _ _ _ _ hne).trans h
theorem far_set' {n g o : Nat} {w : World} {v : Value} {x : Option Obj} (h : w.heap[n]? = x) (hne : n ≠ g) : (w.setCell ⟨g, o, none⟩ v).heap[n]? = x := (Below.heap_setCell _ _ _ _ hne).trans h
theorem far_drew {n : Nat} {w w' : World} (h : w'.heap[n]? = w.heap[n]?) : w'.drew.heap[n]? = w.heap[n]? := h
theorem ret_parts {w : World} {g g' a b c d : Nat} {fn : Func} {R : Ending → World → Prop} {tmps : Array Value} {k j : Nat} (hf : fn.results = #[.cell k 95, .cell j 95])
    (h : w.heap[g]? = some (.cells #[.int .i64 a, .int .i64 b] 95 (0, 0))) (h' : w.heap[g']? = some (.cells #[.int .i64 c, .int .i64 d] 95 (0, 0)))
    (h2 : tmps[k]? = some (.pointer (some ⟨g, 0, none⟩))) (h3 : tmps[j]? = some (.pointer (some ⟨g', 0, none⟩))) (hR : R (.returned (.tuple #[paV a b, paV c d])) w) : bodyPost Tryz.prog fn R .ret ⟨tmps, []⟩ w := by
  have k0 : w.cell? ⟨g, 0, none⟩ = some (.int .i64 a) := by rw [cell_of_row w _ _ _ _ _ h]; rfl
  have k1 : w.cell? ⟨g, 1, none⟩ = some (.int .i64 b) := by rw [cell_of_row w _ _ _ _ _ h]; rfl
  have k2 : w.cell? ⟨g', 0, none⟩ = some (.int .i64 c) := by rw [cell_of_row w _ _ _ _ _ h']; rfl
  have k3 : w.cell? ⟨g', 1, none⟩ = some (.int .i64 d) := by rw [cell_of_row w _ _ _ _ _ h']; rfl
  refine bodyPost_ret (v := .tuple #[paV a b, paV c d]) ?_ rfl hR
  simp [results, hf, go_sem, h2, h3, k0, k1, k2, k3, paV]
set_option maxHeartbeats 2000000 in
set_option maxRecDepth 100000 in
theorem split_any (a b : Nat) (w : World) (h2 : a + 2 ≤ b) (hb : b ≤ 64) : Calls Tryz.prog 120 #[paV a b] w fun e w' => e = .returned (.tuple #[paV a (a + hf (b - a)), paV (a + hf (b - a)) b]) ∧ Below w.heap.size w w' := by
  have HS : ∀ w', Hid (Calls Tryz.prog 112 #[.agg #[.int .i64 a, .int .i64 b]] w' _) := fun w' => hid (size_any a b w' (by omega) (by omega))
  have HL : ∀ w', Hid (Calls Tryz.prog 142 _ w' _) := fun w' => hid (len_any (b - a - 1) w' (by omega) (by omega))
  have hk : hf (b - a) = 2 ^ (b - a - 1).log2 := rfl
  have hk5 : (b - a - 1).log2 ≤ 5 := by
    have := (Nat.log2_lt (n := b - a - 1) (k := 6) (by omega)).2 (by omega)
    omega
  have p := hf_pos (b - a)
  have q := hf_lt (b - a) (by omega)
  obtain ⟨m, hm⟩ : ∃ m, m = b - a := ⟨_, rfl⟩
  rw [← hm] at HS HL hk hk5 p q ⊢
  have hm1 : (m : Int) - 1 = ((m - 1 : Nat) : Int) := by omega
  obtain ⟨m', hm'⟩ : ∃ m', m' = m - 1 := ⟨_, rfl⟩
  rw [← hm'] at HL hk hk5 hm1
  have hmb : m' ≤ 63 := by omega
  obtain ⟨k, hkk⟩ : ∃ k, k = m'.log2 := ⟨_, rfl⟩
  rw [← hkk] at HL hk hk5
  obtain ⟨r, hr⟩ : ∃ r, r = hf m := ⟨_, rfl⟩
  rw [← hr] at hk p q ⊢
  have har : a + r ≤ 64 := by omega
  clear hr hkk hm' hm
  unfold paV
  have hcast : (((k + 1 : Nat) : Int)) - 1 = (k : Int) := by omega
  go_enter Tryz.func120, Tryz.ntmps120
  go_wp2_with fail
  refine (HS _).out.mono ?_
  rintro e w1 ⟨rfl, hb1⟩
  have hc1 := oldc hb1
  have hf1 := oldf hb1
  have z0 : w.heap.size < w1.heap.size := by have := hb1.size; simp at this; omega
  have z1 : w.heap.size + 1 < w1.heap.size := by have := hb1.size; simp at this; omega
  have z2 : w.heap.size + 1 + 1 < w1.heap.size := by have := hb1.size; simp at this; omega
  have B1 : Hid (Below w.heap.size w w1) := hid (((((Below.refl _ _).alloc (Nat.le_refl _) _).alloc (by simp) _).alloc (by simp; omega) _).trans (hb1.mono (by simp; omega)))
  have G1 : Hid (w1.heap[w.heap.size + 1]? = some (.cells #[.int .i64 0, .int .i64 0] 95 (0, 0))) := hid ((hb1.block _ (by simp)).trans (heap_two _ _ _ _ (by simp)))
  have G2 : Hid (w1.heap[w.heap.size + 1 + 1]? = some (.cells #[.int .i64 0, .int .i64 0] 95 (0, 0))) := hid ((hb1.block _ (by simp)).trans (heap_one _ _ _ (by simp)))
  have c0 : w1.cell? ⟨w.heap.size, 0, none⟩ = some (.int .i64 a) := (hb1.cell (p := ⟨w.heap.size, 0, none⟩) (by simp; omega)).trans (by rw [cell_of_row _ _ _ _ _ _ (heap_three w _ _ _ _ rfl)]; rfl)
  have c1 : w1.cell? ⟨w.heap.size, 1, none⟩ = some (.int .i64 b) := (hb1.cell (p := ⟨w.heap.size, 1, none⟩) (by simp; omega)).trans (by rw [cell_of_row _ _ _ _ _ _ (heap_three w _ _ _ _ rfl)]; rfl)
  have e10 : w1.cell? ⟨w.heap.size + 1, 0, none⟩ = some (.int .i64 0) := by rw [cell_of_row w1 _ _ _ _ _ G1.out]; rfl
  have e11 : w1.cell? ⟨w.heap.size + 1, 1, none⟩ = some (.int .i64 0) := by rw [cell_of_row w1 _ _ _ _ _ G1.out]; rfl
  have e20 : w1.cell? ⟨w.heap.size + 1 + 1, 0, none⟩ = some (.int .i64 0) := by rw [cell_of_row w1 _ _ _ _ _ G2.out]; rfl
  have e21 : w1.cell? ⟨w.heap.size + 1 + 1, 1, none⟩ = some (.int .i64 0) := by rw [cell_of_row w1 _ _ _ _ _ G2.out]; rfl
  have f10 : ∀ o, w1.frozen? ⟨w.heap.size + 1, o, none⟩ = false := fun o => by simp [World.frozen?, G1.out]
  have f20 : ∀ o, w1.frozen? ⟨w.heap.size + 1 + 1, o, none⟩ = false := fun o => by simp [World.frozen?, G2.out]
  have KS : ∀ w' : World, w'.heap[w.heap.size]? = w1.heap[w.heap.size]? → w'.cell? ⟨w.heap.size, 0, none⟩ = some (.int .i64 a) ∧ w'.cell? ⟨w.heap.size, 1, none⟩ = some (.int .i64 b) := fun w' h => ⟨(World.cell?_of_block (a := ⟨w.heap.size, 0, none⟩) h).trans c0, (World.cell?_of_block (a := ⟨w.heap.size, 1, none⟩) h).trans c1⟩
  clear hb1 hc1 hf1
  go_wp2_with fail
  refine (HL _).out.mono ?_
  rintro e w2 ⟨rfl, hw2⟩
  rw [hw2]
  clear hw2 w2 HL HS
  have h6 : k = 0 ∨ k = 1 ∨ k = 2 ∨ k = 3 ∨ k = 4 ∨ k = 5 := by omega
  rcases h6 with rfl | rfl | rfl | rfl | rfl | rfl
  · simp at hk
    subst hk
    have wr : IntKind.i64.wrap ((a : Int) + 1) = a + 1 := by rw [IntKind.wrap_i64]; omega
    go_wp2
    go_region_held3 (fun w' => w'.cell? ⟨w.heap.size, 0, none⟩ = some (.int .i64 a) ∧ w'.cell? ⟨w.heap.size, 1, none⟩ = some (.int .i64 b)) (first | exact KS _ (by (repeat (first | (with_reducible rfl) | (with_reducible refine far_drew ?_) | (with_reducible refine far_set ?_ (by omega))))) | go_keep) (fail)
    go_wp2
    have hc : ((a + 1 : Nat) : Int) = (a : Int) + 1 := by omega
    refine ret_parts (a := a) (b := a + 1) (c := a + 1) (d := b) Tryz.results120 ?_ ?_ rfl rfl ⟨rfl, ?_⟩
    · rw [hc]
      exact far_set' (far_set' (heap_set (k := 1) (heap_set (k := 0) G1.out _) _) (by omega)) (by omega)
    · rw [hc]
      exact heap_set (k := 1) (heap_set (k := 0) (far_set' (far_set' G2.out (by omega)) (by omega)) _) _
    · refine Below.drew ?_
      repeat (refine Below.setCell ?_ (by simp; try omega) _)
      exact B1.out
  · simp at hk
    subst hk
    have wr : IntKind.i64.wrap ((a : Int) + 2) = a + 2 := by rw [IntKind.wrap_i64]; omega
    go_wp2
    go_region_held3 (fun w' => w'.cell? ⟨w.heap.size, 0, none⟩ = some (.int .i64 a) ∧ w'.cell? ⟨w.heap.size, 1, none⟩ = some (.int .i64 b)) (first | exact KS _ (by (repeat (first | (with_reducible rfl) | (with_reducible refine far_drew ?_) | (with_reducible refine far_set ?_ (by omega))))) | go_keep) (fail)
    go_wp2
    have hc : ((a + 2 : Nat) : Int) = (a : Int) + 2 := by omega
    refine ret_parts (a := a) (b := a + 2) (c := a + 2) (d := b) Tryz.results120 ?_ ?_ rfl rfl ⟨rfl, ?_⟩
    · rw [hc]
      exact far_set' (far_set' (heap_set (k := 1) (heap_set (k := 0) G1.out _) _) (by omega)) (by omega)
    · rw [hc]
      exact heap_set (k := 1) (heap_set (k := 0) (far_set' (far_set' G2.out (by omega)) (by omega)) _) _
    · refine Below.drew ?_
      repeat (refine Below.setCell ?_ (by simp; try omega) _)
      exact B1.out
  · simp at hk
    subst hk
    have wr : IntKind.i64.wrap ((a : Int) + 4) = a + 4 := by rw [IntKind.wrap_i64]; omega
    go_wp2
    go_region_held3 (fun w' => w'.cell? ⟨w.heap.size, 0, none⟩ = some (.int .i64 a) ∧ w'.cell? ⟨w.heap.size, 1, none⟩ = some (.int .i64 b)) (first | exact KS _ (by (repeat (first | (with_reducible rfl) | (with_reducible refine far_drew ?_) | (with_reducible refine far_set ?_ (by omega))))) | go_keep) (fail)
    go_wp2
    have hc : ((a + 4 : Nat) : Int) = (a : Int) + 4 := by omega
    refine ret_parts (a := a) (b := a + 4) (c := a + 4) (d := b) Tryz.results120 ?_ ?_ rfl rfl ⟨rfl, ?_⟩
    · rw [hc]
      exact far_set' (far_set' (heap_set (k := 1) (heap_set (k := 0) G1.out _) _) (by omega)) (by omega)
    · rw [hc]
      exact heap_set (k := 1) (heap_set (k := 0) (far_set' (far_set' G2.out (by omega)) (by omega)) _) _
    · refine Below.drew ?_
      repeat (refine Below.setCell ?_ (by simp; try omega) _)
      exact B1.out
  · simp at hk
    subst hk
    have wr : IntKind.i64.wrap ((a : Int) + 8) = a + 8 := by rw [IntKind.wrap_i64]; omega
    go_wp2
    go_region_held3 (fun w' => w'.cell? ⟨w.heap.size, 0, none⟩ = some (.int .i64 a) ∧ w'.cell? ⟨w.heap.size, 1, none⟩ = some (.int .i64 b)) (first | exact KS _ (by (repeat (first | (with_reducible rfl) | (with_reducible refine far_drew ?_) | (with_reducible refine far_set ?_ (by omega))))) | go_keep) (fail)
    go_wp2
    have hc : ((a + 8 : Nat) : Int) = (a : Int) + 8 := by omega
    refine ret_parts (a := a) (b := a + 8) (c := a + 8) (d := b) Tryz.results120 ?_ ?_ rfl rfl ⟨rfl, ?_⟩
    · rw [hc]
      exact far_set' (far_set' (heap_set (k := 1) (heap_set (k := 0) G1.out _) _) (by omega)) (by omega)
    · rw [hc]
      exact heap_set (k := 1) (heap_set (k := 0) (far_set' (far_set' G2.out (by omega)) (by omega)) _) _
    · refine Below.drew ?_
      repeat (refine Below.setCell ?_ (by simp; try omega) _)
      exact B1.out
  · simp at hk
    subst hk
    have wr : IntKind.i64.wrap ((a : Int) + 16) = a + 16 := by rw [IntKind.wrap_i64]; omega
    go_wp2
    go_region_held3 (fun w' => w'.cell? ⟨w.heap.size, 0, none⟩ = some (.int .i64 a) ∧ w'.cell? ⟨w.heap.size, 1, none⟩ = some (.int .i64 b)) (first | exact KS _ (by (repeat (first | (with_reducible rfl) | (with_reducible refine far_drew ?_) | (with_reducible refine far_set ?_ (by omega))))) | go_keep) (fail)
    go_wp2
    have hc : ((a + 16 : Nat) : Int) = (a : Int) + 16 := by omega
    refine ret_parts (a := a) (b := a + 16) (c := a + 16) (d := b) Tryz.results120 ?_ ?_ rfl rfl ⟨rfl, ?_⟩
    · rw [hc]
      exact far_set' (far_set' (heap_set (k := 1) (heap_set (k := 0) G1.out _) _) (by omega)) (by omega)
    · rw [hc]
      exact heap_set (k := 1) (heap_set (k := 0) (far_set' (far_set' G2.out (by omega)) (by omega)) _) _
    · refine Below.drew ?_
      repeat (refine Below.setCell ?_ (by simp; try omega) _)
      exact B1.out
  · simp at hk
    subst hk
    have wr : IntKind.i64.wrap ((a : Int) + 32) = a + 32 := by rw [IntKind.wrap_i64]; omega
    go_wp2
    go_region_held3 (fun w' => w'.cell? ⟨w.heap.size, 0, none⟩ = some (.int .i64 a) ∧ w'.cell? ⟨w.heap.size, 1, none⟩ = some (.int .i64 b)) (first | exact KS _ (by (repeat (first | (with_reducible rfl) | (with_reducible refine far_drew ?_) | (with_reducible refine far_set ?_ (by omega))))) | go_keep) (fail)
    go_wp2
    have hc : ((a + 32 : Nat) : Int) = (a : Int) + 32 := by omega
    refine ret_parts (a := a) (b := a + 32) (c := a + 32) (d := b) Tryz.results120 ?_ ?_ rfl rfl ⟨rfl, ?_⟩
    · rw [hc]
      exact far_set' (far_set' (heap_set (k := 1) (heap_set (k := 0) G1.out _) _) (by omega)) (by omega)
    · rw [hc]
      exact heap_set (k := 1) (heap_set (k := 0) (far_set' (far_set' G2.out (by omega)) (by omega)) _) _
    · refine Below.drew ?_
      repeat (refine Below.setCell ?_ (by simp; try omega) _)
      exact B1.out
end Go.Proofs.YtogmdaopfnmobaaGreat

