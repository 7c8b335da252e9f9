/- The law's checks: Check beside Claims, CheckGrown beside Grows. -/
import Derived.Test.YtogmdaopfnmobaaGreatC38
import Derived.Test.YtogmdaopfnmobaaGreatC39
import Derived.Test.YtogmdaopfnmobaaGreatC18
import Derived.Test.YtogmdaopfnmobaaGreatC19
namespace Go.Proofs.YtogmdaopfnmobaaGreat
open Go.RowKit
theorem check_both (tree n f t h0 h1 c s m x : Int) (p : ByteArray) (hs : p.size ≤ maxLen) : ∃ E : Int,
    (∀ w, Calls Tryz.prog 25 #[.int .i64 tree, .agg #[.int .i64 n, .int .u8 h0, .int .u8 h1], .int .i64 f, .int .i64 t, .agg #[.int .i64 c, .int .i64 s, .int .i64 m, .int .i64 x], .string p] w fun e w' => e = .returned (.int .i64 E) ∧ Below w.heap.size w w') ∧
    (∀ w, Calls Tryz.prog 98 #[.int .i64 tree, .agg #[.int .i64 n, .int .u8 h0, .int .u8 h1], .int .i64 f, .int .i64 t, .agg #[.int .i64 c, .int .i64 s, .int .i64 m, .int .i64 x], .string p] w fun e w' => e = .returned (.int .i64 E) ∧ Below w.heap.size w w') := by
  cases hz : szB tree n with
  | false => exact ⟨5, fun w => check_bad tree n f t h0 h1 c s m x p w (.inl hz), fun w => refClaims_no1 tree n f t h0 h1 c s m x p w hz⟩
  | true =>
    have hzz := hz
    simp only [szB, decide_eq_true_eq] at hzz
    cases hr : rgB f t n with
    | false =>
      refine ⟨5, fun w => check_bad tree n f t h0 h1 c s m x p w (.inr hr), fun w => ?_⟩
      have hb : f < 0 ∨ t < f ∨ n < t := by
        have := of_decide_eq_false hr
        omega
      rcases hzz with ⟨rfl, h2⟩ | ⟨rfl, h2⟩
      · exact refClaims_range0 n f t h0 h1 c s m x p w h2 hb
      · exact refClaims_range1 n f t h0 h1 c s m x p w h2 hb
    | true =>
      have hrr := of_decide_eq_true hr
      obtain ⟨N, rfl⟩ : ∃ N : Nat, n = N := ⟨n.toNat, by omega⟩
      obtain ⟨F, rfl⟩ : ∃ F : Nat, f = F := ⟨f.toNat, by omega⟩
      obtain ⟨T, rfl⟩ : ∃ T : Nat, t = T := ⟨t.toNat, by omega⟩
      refine ⟨ckE N F T h0 h1 ⟨c, s, m, x⟩ (readR p.data.toList), fun w => check_good tree N F T h0 h1 c s m x p w hz (by omega) (by omega) (by omega) hs, fun w => ?_⟩
      have hok : ∀ ns, readR p.data.toList = some ns → ∀ d ∈ ns, d.ok = true := fun ns ho => List.all_eq_true.1 (write_read _ _ ho).2.1
      rw [← ckE_clE N F T h0 h1 ⟨c, s, m, x⟩ _ (by omega) hok]
      rcases hzz with ⟨rfl, h2⟩ | ⟨rfl, h2⟩
      · exact refClaims_any0 N F T h0 h1 c s m x p w (by omega) (by omega) (by omega) hs
      · obtain rfl : N = 32 := by omega
        exact refClaims_any1 F T h0 h1 c s m x p w (by omega) (by omega) hs
theorem grown_both (o n a0 a1 b0 b1 : Int) (p : ByteArray) (hs : p.size ≤ maxLen) : ∃ E : Int,
    (∀ w, Calls Tryz.prog 18 #[.agg #[.int .i64 o, .int .u8 a0, .int .u8 a1], .agg #[.int .i64 n, .int .u8 b0, .int .u8 b1], .string p] w fun e w' => e = .returned (.int .i64 E) ∧ Below w.heap.size w w') ∧
    (∀ w, Calls Tryz.prog 41 #[.agg #[.int .i64 o, .int .u8 a0, .int .u8 a1], .agg #[.int .i64 n, .int .u8 b0, .int .u8 b1], .string p] w fun e w' => e = .returned (.int .i64 E) ∧ Below w.heap.size w w') := by
  by_cases hb : o < 1 ∨ n < o ∨ 64 < n
  · exact ⟨5, fun w => checkGrown_range o n a0 a1 b0 b1 p w hb, fun w => refGrows_range o n a0 a1 b0 b1 p w hb⟩
  · obtain ⟨N, rfl⟩ : ∃ N : Nat, n = N := ⟨n.toNat, by omega⟩
    obtain ⟨O, rfl⟩ : ∃ O : Nat, o = O := ⟨o.toNat, by omega⟩
    exact ⟨cgE O N a0 a1 b0 b1 (readR p.data.toList), fun w => checkGrown_good O N a0 a1 b0 b1 p w (by omega) (by omega) (by omega) hs, fun w => refGrows_any O N a0 a1 b0 b1 p w (by omega) (by omega) (by omega) hs⟩
set_option maxHeartbeats 4000000 in
set_option maxRecDepth 100000 in
theorem checks_11 (w : World) (a b c d hs gs f0 f1 f2 f3 : Int) (h0 h1 g0 g1 : Int) (s : ByteArray) (x1 x2 : Option Addr) (y1 z1 y2 z2 : Nat) (hsz : s.size ≤ maxLen) :
    Calls Tryz.prog 53 #[.agg #[.int .i64 11, .int .i64 a, .int .i64 b, .int .i64 c, .int .i64 d, .string s, .int .i64 hs, .int .u8 h0, .int .u8 h1, .int .i64 gs, .int .u8 g0, .int .u8 g1, .int .i64 f0, .int .i64 f1, .int .i64 f2, .int .i64 f3, .slice x1 y1 z1, .slice x2 y2 z2]] w fun e w' => e = .returned (.bool true) ∧ Below w.heap.size w w' := by
  have hB1 : Below w.heap.size w (w.alloc (.cells #[.int .i64 11, .int .i64 a, .int .i64 b, .int .i64 c, .int .i64 d, .string s, .int .i64 hs, .int .u8 h0, .int .u8 h1, .int .i64 gs, .int .u8 g0, .int .u8 g1, .int .i64 f0, .int .i64 f1, .int .i64 f2, .int .i64 f3, .slice x1 y1 z1, .slice x2 y2 z2] 74)) := (Below.refl _ _).alloc (Nat.le_refl _) _
  have HC : Hid (∀ W2, Below (w.heap.size + 1) (w.alloc (.cells #[.int .i64 11, .int .i64 a, .int .i64 b, .int .i64 c, .int .i64 d, .string s, .int .i64 hs, .int .u8 h0, .int .u8 h1, .int .i64 gs, .int .u8 g0, .int .u8 g1, .int .i64 f0, .int .i64 f1, .int .i64 f2, .int .i64 f3, .slice x1 y1 z1, .slice x2 y2 z2] 74)) W2 → (W2.cell? ⟨w.heap.size, 1, none⟩ = some (.int .i64 a) ∧ W2.cell? ⟨w.heap.size, 6, none⟩ = some (.int .i64 hs) ∧ W2.cell? ⟨w.heap.size, 7, none⟩ = some (.int .u8 h0) ∧ W2.cell? ⟨w.heap.size, 8, none⟩ = some (.int .u8 h1) ∧ W2.cell? ⟨w.heap.size, 2, none⟩ = some (.int .i64 b) ∧ W2.cell? ⟨w.heap.size, 3, none⟩ = some (.int .i64 c) ∧ W2.cell? ⟨w.heap.size, 12, none⟩ = some (.int .i64 f0) ∧ W2.cell? ⟨w.heap.size, 13, none⟩ = some (.int .i64 f1) ∧ W2.cell? ⟨w.heap.size, 14, none⟩ = some (.int .i64 f2) ∧ W2.cell? ⟨w.heap.size, 15, none⟩ = some (.int .i64 f3) ∧ W2.cell? ⟨w.heap.size, 5, none⟩ = some (.string s)) ∧ Below w.heap.size w W2) := hid fun W2 hb => by
    have hop := (hb.block w.heap.size (by omega)).trans (heap_one w (.cells #[.int .i64 11, .int .i64 a, .int .i64 b, .int .i64 c, .int .i64 d, .string s, .int .i64 hs, .int .u8 h0, .int .u8 h1, .int .i64 gs, .int .u8 g0, .int .u8 g1, .int .i64 f0, .int .i64 f1, .int .i64 f2, .int .i64 f3, .slice x1 y1 z1, .slice x2 y2 z2] 74) _ rfl)
    exact ⟨⟨by rw [cell_of_row W2 _ _ _ _ _ hop]; rfl, by rw [cell_of_row W2 _ _ _ _ _ hop]; rfl, by rw [cell_of_row W2 _ _ _ _ _ hop]; rfl, by rw [cell_of_row W2 _ _ _ _ _ hop]; rfl, by rw [cell_of_row W2 _ _ _ _ _ hop]; rfl, by rw [cell_of_row W2 _ _ _ _ _ hop]; rfl, by rw [cell_of_row W2 _ _ _ _ _ hop]; rfl, by rw [cell_of_row W2 _ _ _ _ _ hop]; rfl, by rw [cell_of_row W2 _ _ _ _ _ hop]; rfl, by rw [cell_of_row W2 _ _ _ _ _ hop]; rfl, by rw [cell_of_row W2 _ _ _ _ _ hop]; rfl⟩, hB1.trans (hb.mono (by omega))⟩
  obtain ⟨E, hP, hR⟩ := check_both a hs b c h0 h1 f0 f1 f2 f3 s hsz
  have HP := fun w' => hid (hP w')
  have HR := fun w' => hid (hR w')
  clear hB1 hP hR hsz
  go_enter Tryz.func53, Tryz.ntmps53
  go_wp2_with fail
  refine (HP _).out.mono ?_
  rintro e W2 ⟨rfl, hb2⟩
  obtain ⟨hc2, hB2⟩ := HC.out _ (hb2.mono (by simp))
  have HB2 := hid hB2
  have hz2 : w.heap.size ≤ W2.heap.size := hB2.size
  clear hB2 hb2 HP HC
  go_wp2_with fail
  refine (HR _).out.mono ?_
  rintro e W3 ⟨rfl, hb3⟩
  have HB3 := hid (HB2.out.trans (hb3.mono hz2))
  clear hb3 HR HB2 hc2
  go_wp2_with (go_at_call 19; refine (num_any _ _).mono ?_; rintro e4 w4 ⟨rfl, hw4⟩; rw [hw4]; clear hw4 w4)
  go_ret
  exact ⟨rfl, HB3.out⟩
set_option maxHeartbeats 4000000 in
set_option maxRecDepth 100000 in
theorem checks_12 (w : World) (a b c d hs gs f0 f1 f2 f3 : Int) (h0 h1 g0 g1 : Int) (s : ByteArray) (x1 x2 : Option Addr) (y1 z1 y2 z2 : Nat) (hsz : s.size ≤ maxLen) :
    Calls Tryz.prog 53 #[.agg #[.int .i64 12, .int .i64 a, .int .i64 b, .int .i64 c, .int .i64 d, .string s, .int .i64 hs, .int .u8 h0, .int .u8 h1, .int .i64 gs, .int .u8 g0, .int .u8 g1, .int .i64 f0, .int .i64 f1, .int .i64 f2, .int .i64 f3, .slice x1 y1 z1, .slice x2 y2 z2]] w fun e w' => e = .returned (.bool true) ∧ Below w.heap.size w w' := by
  have hB1 : Below w.heap.size w (w.alloc (.cells #[.int .i64 12, .int .i64 a, .int .i64 b, .int .i64 c, .int .i64 d, .string s, .int .i64 hs, .int .u8 h0, .int .u8 h1, .int .i64 gs, .int .u8 g0, .int .u8 g1, .int .i64 f0, .int .i64 f1, .int .i64 f2, .int .i64 f3, .slice x1 y1 z1, .slice x2 y2 z2] 74)) := (Below.refl _ _).alloc (Nat.le_refl _) _
  have HC : Hid (∀ W2, Below (w.heap.size + 1) (w.alloc (.cells #[.int .i64 12, .int .i64 a, .int .i64 b, .int .i64 c, .int .i64 d, .string s, .int .i64 hs, .int .u8 h0, .int .u8 h1, .int .i64 gs, .int .u8 g0, .int .u8 g1, .int .i64 f0, .int .i64 f1, .int .i64 f2, .int .i64 f3, .slice x1 y1 z1, .slice x2 y2 z2] 74)) W2 → (W2.cell? ⟨w.heap.size, 9, none⟩ = some (.int .i64 gs) ∧ W2.cell? ⟨w.heap.size, 10, none⟩ = some (.int .u8 g0) ∧ W2.cell? ⟨w.heap.size, 11, none⟩ = some (.int .u8 g1) ∧ W2.cell? ⟨w.heap.size, 6, none⟩ = some (.int .i64 hs) ∧ W2.cell? ⟨w.heap.size, 7, none⟩ = some (.int .u8 h0) ∧ W2.cell? ⟨w.heap.size, 8, none⟩ = some (.int .u8 h1) ∧ W2.cell? ⟨w.heap.size, 5, none⟩ = some (.string s)) ∧ Below w.heap.size w W2) := hid fun W2 hb => by
    have hop := (hb.block w.heap.size (by omega)).trans (heap_one w (.cells #[.int .i64 12, .int .i64 a, .int .i64 b, .int .i64 c, .int .i64 d, .string s, .int .i64 hs, .int .u8 h0, .int .u8 h1, .int .i64 gs, .int .u8 g0, .int .u8 g1, .int .i64 f0, .int .i64 f1, .int .i64 f2, .int .i64 f3, .slice x1 y1 z1, .slice x2 y2 z2] 74) _ rfl)
    exact ⟨⟨by rw [cell_of_row W2 _ _ _ _ _ hop]; rfl, by rw [cell_of_row W2 _ _ _ _ _ hop]; rfl, by rw [cell_of_row W2 _ _ _ _ _ hop]; rfl, by rw [cell_of_row W2 _ _ _ _ _ hop]; rfl, by rw [cell_of_row W2 _ _ _ _ _ hop]; rfl, by rw [cell_of_row W2 _ _ _ _ _ hop]; rfl, by rw [cell_of_row W2 _ _ _ _ _ hop]; rfl⟩, hB1.trans (hb.mono (by omega))⟩
  obtain ⟨E, hP, hR⟩ := grown_both gs hs g0 g1 h0 h1 s hsz
  have HP := fun w' => hid (hP w')
  have HR := fun w' => hid (hR w')
  clear hB1 hP hR hsz
  go_enter Tryz.func53, Tryz.ntmps53
  go_wp2_with fail
  refine (HP _).out.mono ?_
  rintro e W2 ⟨rfl, hb2⟩
  obtain ⟨hc2, hB2⟩ := HC.out _ (hb2.mono (by simp))
  have HB2 := hid hB2
  have hz2 : w.heap.size ≤ W2.heap.size := hB2.size
  clear hB2 hb2 HP HC
  go_wp2_with fail
  refine (HR _).out.mono ?_
  rintro e W3 ⟨rfl, hb3⟩
  have HB3 := hid (HB2.out.trans (hb3.mono hz2))
  clear hb3 HR HB2 hc2
  go_wp2_with (go_at_call 19; refine (num_any _ _).mono ?_; rintro e4 w4 ⟨rfl, hw4⟩; rw [hw4]; clear hw4 w4)
  go_ret
  exact ⟨rfl, HB3.out⟩
set_option maxHeartbeats 4000000 in
set_option maxRecDepth 100000 in
theorem step_11 (w : World) (A : Nat) (a b c d hs gs f0 f1 f2 f3 : Int) (h0 h1 g0 g1 : Int) (s : ByteArray) (x1 x2 : Option Addr) (y1 z1 y2 z2 : Nat) (hsz : s.size ≤ maxLen) :
    Calls Tryz.prog 21 #[.pointer (some ⟨A, 0, none⟩), .agg #[.int .i64 11, .int .i64 a, .int .i64 b, .int .i64 c, .int .i64 d, .string s, .int .i64 hs, .int .u8 h0, .int .u8 h1, .int .i64 gs, .int .u8 g0, .int .u8 g1, .int .i64 f0, .int .i64 f1, .int .i64 f2, .int .i64 f3, .slice x1 y1 z1, .slice x2 y2 z2]] w fun e w' => e = .returned (.bool true) ∧ Below w.heap.size w w' := by
  have HRn := hid (range_new w 74 [.int .i64 11, .int .i64 a, .int .i64 b, .int .i64 c, .int .i64 d, .string s, .int .i64 hs, .int .u8 h0, .int .u8 h1, .int .i64 gs, .int .u8 g0, .int .u8 g1, .int .i64 f0, .int .i64 f1, .int .i64 f2, .int .i64 f3, .slice x1 y1 z1, .slice x2 y2 z2])
  have HK := fun w' => hid (checks_11 w' a b c d hs gs f0 f1 f2 f3 h0 h1 g0 g1 s x1 x2 y1 z1 y2 z2 hsz)
  clear hsz
  go_enter Tryz.func21, Tryz.ntmps21
  go_wp2_with (refine wpList_load_mid rfl 74 _ rfl w.heap.size 0 rfl [.int .i64 11, .int .i64 a, .int .i64 b, .int .i64 c, .int .i64 d, .string s, .int .i64 hs, .int .u8 h0, .int .u8 h1, .int .i64 gs, .int .u8 g0, .int .u8 g1, .int .i64 f0, .int .i64 f1, .int .i64 f2, .int .i64 f3, .slice x1 y1 z1, .slice x2 y2 z2] _ HRn.out Tryz.underlying74 rfl size_op ?_)
  go_wp2_with fail
  refine (HK _).out.mono ?_
  rintro e w1 ⟨rfl, hb⟩
  have fin := hid (((Below.refl w.heap.size w).alloc (Nat.le_refl _) (.cells #[.int .i64 11, .int .i64 a, .int .i64 b, .int .i64 c, .int .i64 d, .string s, .int .i64 hs, .int .u8 h0, .int .u8 h1, .int .i64 gs, .int .u8 g0, .int .u8 g1, .int .i64 f0, .int .i64 f1, .int .i64 f2, .int .i64 f3, .slice x1 y1 z1, .slice x2 y2 z2] 74)).trans (hb.mono (by simp)))
  clear hb HK HRn
  go_wp2
  go_ret
  exact ⟨rfl, fin.out⟩
set_option maxHeartbeats 4000000 in
set_option maxRecDepth 100000 in
theorem step_12 (w : World) (A : Nat) (a b c d hs gs f0 f1 f2 f3 : Int) (h0 h1 g0 g1 : Int) (s : ByteArray) (x1 x2 : Option Addr) (y1 z1 y2 z2 : Nat) (hsz : s.size ≤ maxLen) :
    Calls Tryz.prog 21 #[.pointer (some ⟨A, 0, none⟩), .agg #[.int .i64 12, .int .i64 a, .int .i64 b, .int .i64 c, .int .i64 d, .string s, .int .i64 hs, .int .u8 h0, .int .u8 h1, .int .i64 gs, .int .u8 g0, .int .u8 g1, .int .i64 f0, .int .i64 f1, .int .i64 f2, .int .i64 f3, .slice x1 y1 z1, .slice x2 y2 z2]] w fun e w' => e = .returned (.bool true) ∧ Below w.heap.size w w' := by
  have HRn := hid (range_new w 74 [.int .i64 12, .int .i64 a, .int .i64 b, .int .i64 c, .int .i64 d, .string s, .int .i64 hs, .int .u8 h0, .int .u8 h1, .int .i64 gs, .int .u8 g0, .int .u8 g1, .int .i64 f0, .int .i64 f1, .int .i64 f2, .int .i64 f3, .slice x1 y1 z1, .slice x2 y2 z2])
  have HK := fun w' => hid (checks_12 w' a b c d hs gs f0 f1 f2 f3 h0 h1 g0 g1 s x1 x2 y1 z1 y2 z2 hsz)
  clear hsz
  go_enter Tryz.func21, Tryz.ntmps21
  go_wp2_with (refine wpList_load_mid rfl 74 _ rfl w.heap.size 0 rfl [.int .i64 12, .int .i64 a, .int .i64 b, .int .i64 c, .int .i64 d, .string s, .int .i64 hs, .int .u8 h0, .int .u8 h1, .int .i64 gs, .int .u8 g0, .int .u8 g1, .int .i64 f0, .int .i64 f1, .int .i64 f2, .int .i64 f3, .slice x1 y1 z1, .slice x2 y2 z2] _ HRn.out Tryz.underlying74 rfl size_op ?_)
  go_wp2_with fail
  refine (HK _).out.mono ?_
  rintro e w1 ⟨rfl, hb⟩
  have fin := hid (((Below.refl w.heap.size w).alloc (Nat.le_refl _) (.cells #[.int .i64 12, .int .i64 a, .int .i64 b, .int .i64 c, .int .i64 d, .string s, .int .i64 hs, .int .u8 h0, .int .u8 h1, .int .i64 gs, .int .u8 g0, .int .u8 g1, .int .i64 f0, .int .i64 f1, .int .i64 f2, .int .i64 f3, .slice x1 y1 z1, .slice x2 y2 z2] 74)).trans (hb.mono (by simp)))
  clear hb HK HRn
  go_wp2
  go_ret
  exact ⟨rfl, fin.out⟩
end Go.Proofs.YtogmdaopfnmobaaGreat

/- Checks: its steps, played. -/
namespace Go.Proofs.YtogmdaopfnmobaaGreat
open Go.RowKit
structure OpC (o : OpV) : Prop where
  sz : o.s.size ≤ maxLen
  nv : ∃ x y z, o.nv = .slice x y z
  iv : ∃ x y z, o.iv = .slice x y z
def CJ (A : Nat) (w2 : World) (_ : Nat) (w : World) : Prop :=
  Kept w2 w [A] ∧ ∃ bv, Inv w A w2.heap.size (.slice none 0 0) (.slice none 0 0) 0 (.slice none 0 0) (.slice none 0 0) bv [] [] [] []
theorem stepCk_any (w : World) (A : Nat) (o : OpV) (ho : OpC o) (h1 : 11 ≤ o.k) (h2 : o.k ≤ 12) :
    Calls Tryz.prog 21 #[.pointer (some ⟨A, 0, none⟩), o.val] w fun e w' => e = .returned (.bool true) ∧ Below w.heap.size w w' := by
  obtain ⟨x1, y1, z1, en⟩ := ho.nv
  obtain ⟨x2, y2, z2, ei⟩ := ho.iv
  have hz := ho.sz
  clear ho
  obtain ⟨k, a, b, c, d, s, hs, h0, h1', gs, g0, g1, f0, f1, f2, f3, nv, iv⟩ := o
  simp only at h1 h2 en ei hz
  subst en ei
  have hk : k = 11 ∨ k = 12 := by omega
  rcases hk with rfl | rfl
  · exact step_11 w A a b c d hs gs f0 f1 f2 f3 h0 h1' g0 g1 s x1 x2 y1 z1 y2 z2 hz
  · exact step_12 w A a b c d hs gs f0 f1 f2 f3 h0 h1' g0 g1 s x1 x2 y1 z1 y2 z2 hz
theorem checks_plan (A : Nat) (w2 : World) (T : List OpV) (N : Nat) (hT : ∀ o ∈ T, 11 ≤ o.k → o.k ≤ 12 → OpC o) : Plan A 11 12 T N w2 (CJ A w2) := by
  refine ⟨?_, ?_, ?_, ?_, ?_, ?_⟩
  · rintro k w o hk ho h1 h3 ⟨hK, bv, hI⟩
    refine (stepCk_any w A o (hT o ho h1 h3) h1 h3).mono ?_
    rintro e w' ⟨he, hb'⟩
    exact ⟨he, hK.trans (Kept.of_below hb' []) (by simp), bv, hI.below hb'⟩
  · rintro k w hk ⟨hK, bv, hI⟩
    refine (settle_any w A _ _ _ 0 _ _ _ [] [] [] [] hI (by simp) (by simp) (by simp)).mono ?_
    rintro e w' ⟨he, hk', bv', m', Bs', hm', hb', hI'⟩
    have hm0 : m' = 0 := by simp at hm'; omega
    have hB0 : Bs' = [] := List.eq_nil_of_length_eq_zero (by simpa using hb')
    subst hm0 hB0
    exact ⟨he, hK.trans hk' (fp_far hI), bv', hI'⟩
  · rintro k w hk ⟨hK, bv, hI⟩
    refine (looks_any w A _ _ 0 _ _ _ [] [] [] [] hI (by simp)).mono ?_
    rintro e w' ⟨he, hb'⟩
    exact ⟨he, hK.trans (Kept.of_below hb' []) (by simp), bv, hI.below hb'⟩
  · rintro k w ⟨hK, bv, hI⟩
    exact ⟨hK, bv, hI⟩
  · rintro k w w' ⟨hK, bv, hI⟩ hb'
    exact ⟨hK.trans (Kept.of_below hb' []) (by simp), bv, hI.below hb'⟩
  · exact fun k w h => h.1
theorem checks_start (w w2 : World) (h : Opened (w.alloc (.cells worldC 70)) w2) : CJ w.heap.size w2 0 w2 := by
  have hA : w2.heap[w.heap.size]? = some (.cells worldC 70 (0, 0)) := by
    rw [h.below.block _ (by simp)]
    exact heap_new _ _ _ _ rfl
  have hs := h.size
  simp at hs
  refine ⟨Kept.refl _ _, .slice none 0 0, ⟨hA, by omega, Nat.le_refl _, World.ownsRow_nil _ _ _ _, World.ownsRow_nil _ _ _ _, World.ownsRow_nil _ _ _ _, rfl, rfl, ?_, ?_, ?_, ?_, ?_, ?_⟩⟩
  · intro i h1; simp at h1
  · intro i h1; simp at h1
  · intro k hk; simp [ob, Value.ownBlock] at hk
  · simp
  · simp
  · intro b hb; simp at hb
theorem openC_ok (n : Nat) : ∀ o ∈ opsL n, OpC o := by
  intro o ho
  simp only [opsL, List.mem_cons, List.not_mem_nil, or_false] at ho
  rcases ho with rfl | rfl | rfl | rfl | rfl | rfl | rfl | rfl | rfl | rfl | rfl | rfl | rfl | rfl | rfl | rfl | rfl | rfl
  all_goals refine ⟨?_, ⟨_, _, _, rfl⟩, ⟨_, _, _, rfl⟩⟩
  all_goals first | (show (0 : Nat) ≤ maxLen; omega) | (show (1 : Nat) ≤ maxLen; unfold maxLen; omega) | (unfold maxLen; decide)
end Go.Proofs.YtogmdaopfnmobaaGreat

