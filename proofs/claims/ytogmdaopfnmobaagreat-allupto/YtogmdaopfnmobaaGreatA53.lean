/- The law's world: a step of the kinds New, and of a store. -/
import Derived.Test.YtogmdaopfnmobaaGreatA40
import Derived.Test.YtogmdaopfnmobaaGreatA19
import Derived.Test.YtogmdaopfnmobaaGreatA11
import Derived.Test.YtogmdaopfnmobaaGreatA52
namespace Go.Proofs.YtogmdaopfnmobaaGreat
open Go.RowKit
def pk (c : Int) (n : Nat) : Nat := ((if c < 0 then -(c + 1) else c) % n).toNat
theorem pk_lt (c : Int) (n : Nat) (h : 0 < n) : pk c n < n := by
  unfold pk
  have h1 := Int.emod_nonneg (if c < 0 then -(c + 1) else c) (b := (n : Int)) (by omega)
  have h2 := Int.emod_lt_of_pos (if c < 0 then -(c + 1) else c) (b := (n : Int)) (by omega)
  omega
theorem ret_int {k : IntKind} {a b : Int} (h : a = b) : Ending.returned (.int k a) = .returned (.int k b) := by rw [h]
set_option maxHeartbeats 1000000 in
theorem pick_any (c : Int) (n : Nat) (w : World) (hn : 0 < n) (hn2 : n ≤ 20000000000000) (hc : -9223372036854775808 ≤ c ∧ c ≤ 9223372036854775807) : Calls Tryz.prog 54 #[.int .i64 c, .int .i64 n] w fun e w' => e = .returned (.int .i64 (pk c n : Nat)) ∧ w' = w := by
  have h1 := Int.emod_nonneg (if c < 0 then -(c + 1) else c) (b := (n : Int)) (by omega)
  have HE : Hid (((pk c n : Nat) : Int) = (if c < 0 then -(c + 1) else c) % n) := hid (by unfold pk; omega)
  have hn0 : (n : Int) ≠ 0 := by omega
  have hn1 : (1 : Int) ≤ n := by omega
  clear h1
  by_cases h0 : c < 0
  · have hd : (0 : Int) ≤ -(c + 1) := by omega
    rw [if_pos h0] at HE
    have w1 : IntKind.i64.wrap (c + 1) = c + 1 := by rw [IntKind.wrap_i64]; omega
    have w2 : IntKind.i64.wrap (-(c + 1)) = -(c + 1) := by rw [IntKind.wrap_i64]; omega
    have HM := hid (Int.tmod_eq_emod_of_nonneg (b := (n : Int)) hd)
    have hm1 := Int.emod_nonneg (-(c + 1)) hn0
    have hm2 := Int.emod_lt_of_pos (-(c + 1)) (b := (n : Int)) (by omega)
    go_enter Tryz.func54, Tryz.ntmps54
    go_wp2
    go_ret
    exact ⟨ret_int (by rw [HE.out, ← HM.out, Int.neg_tmod]), rfl⟩
  · rw [if_neg h0] at HE
    have HM := hid (Int.tmod_eq_emod_of_nonneg (a := c) (b := (n : Int)) (by omega))
    have hm1 := Int.emod_nonneg c hn0
    have hm2 := Int.emod_lt_of_pos c (b := (n : Int)) (by omega)
    go_enter Tryz.func54, Tryz.ntmps54
    go_wp2
    go_ret
    exact ⟨ret_int (by rw [HE.out]), rfl⟩
theorem prs_get (L : List Pr) : ∀ (i j : Nat) (hi : i < L.length) (_ : j < 2), (L.flatMap Pr.cells)[i * 2 + j]? = (L[i]).cells[j]? := by
  induction L with
  | nil => intro i j hi; simp at hi
  | cons d r ih =>
    intro i j hi hj
    have hd : d.cells.length = 2 := rfl
    cases i with
    | zero =>
      simp only [List.flatMap_cons, Nat.zero_mul, Nat.zero_add, List.getElem_cons_zero]
      rw [List.getElem?_append_left (by omega)]
    | succ i =>
      simp only [List.flatMap_cons, List.getElem_cons_succ]
      rw [List.getElem?_append_right (by omega), hd, show (i + 1) * 2 + j - 2 = i * 2 + j from by omega]
      exact ih i j (by simpa using hi) hj
theorem StIn.cells {w : World} {base : Nat} {g cap n : Nat} {Ps : List Pr} (h : StIn w base (.slice (some ⟨g, 0, none⟩) n cap) Ps) (i : Nat) (hi : i < Ps.length) : w.cell? ⟨g, i * 2, none⟩ = some (.pointer (some ⟨(Ps[i]).S, 0, none⟩)) ∧ w.cell? ⟨g, i * 2 + 1, none⟩ = some (.pointer (some ⟨(Ps[i]).R, 0, none⟩)) := by
  have hg : ∀ j u, (Ps[i]).cells[j]? = some u → j < 2 → w.cell? ⟨g, i * 2 + j, none⟩ = some u := fun j u hu hj => by
    have := h.row.cells (g := g) rfl (i * 2 + j) u (by rw [prs_get Ps i j hi hj]; exact hu)
    rw [Addr.add_mid] at this
    simpa using this
  exact ⟨hg 0 _ rfl (by omega), hg 1 _ rfl (by omega)⟩
set_option maxHeartbeats 4000000 in
set_option maxRecDepth 100000 in
theorem step_4 (w : World) (A : Nat) (a b c d hs gs f0 f1 f2 f3 : Int) (h0 h1 g0 g1 : Int) (s : ByteArray) (x1 x2 : Option Addr) (y1 z1 y2 z2 : Nat) (Q : Ending → World → Prop) (hQ : ∀ e w', Q e w' → e = .returned (.bool true))
    (K : ∀ w', Below w.heap.size w w' → Calls Tryz.prog 52 #[.pointer (some ⟨A, 0, none⟩)] w' Q) :
    Calls Tryz.prog 21 #[.pointer (some ⟨A, 0, none⟩), .agg #[.int .i64 4, .int .i64 a, .int .i64 b, .int .i64 c, .int .i64 d, .string s, .int .i64 hs, .int .u8 h0, .int .u8 h1, .int .i64 gs, .int .u8 g0, .int .u8 g1, .int .i64 f0, .int .i64 f1, .int .i64 f2, .int .i64 f3, .slice x1 y1 z1, .slice x2 y2 z2]] w Q := by
  go_enter Tryz.func21, Tryz.ntmps21
  go_wp2_with fail
  refine (K _ ((Below.refl _ _).alloc (Nat.le_refl _) _)).mono ?_
  intro e w1 hp
  obtain rfl := hQ e w1 hp
  have fin := hid hp
  clear hp hQ K
  go_wp2
  exact fin.out
set_option maxHeartbeats 4000000 in
set_option maxRecDepth 100000 in
theorem step_5 (w : World) (A base n cap g : Nat) (Ps : List Pr) (hn : Ps.length = n) (h0n : 0 < n) (hn2 : n ≤ 20000000000000) (hS : StIn w base (.slice (some ⟨g, 0, none⟩) n cap) Ps) (hcA : w.cell? ⟨A, 0, none⟩ = some (.slice (some ⟨g, 0, none⟩) n cap)) (a b c d hs gs f0 f1 f2 f3 : Int) (h0 h1 g0 g1 : Int) (s : ByteArray) (x1 x2 : Option Addr) (y1 z1 y2 z2 : Nat) (ha : -9223372036854775808 ≤ a ∧ a ≤ 9223372036854775807) (Q : Ending → World → Prop) (hQ : ∀ e w', Q e w' → e = .returned (.bool true))
    (K : ∀ w', Below w.heap.size w w' → Calls Tryz.prog 55 #[(Ps[pk a n]'(by rw [hn]; exact pk_lt a n h0n)).val, .agg #[.int .i64 5, .int .i64 a, .int .i64 b, .int .i64 c, .int .i64 d, .string s, .int .i64 hs, .int .u8 h0, .int .u8 h1, .int .i64 gs, .int .u8 g0, .int .u8 g1, .int .i64 f0, .int .i64 f1, .int .i64 f2, .int .i64 f3, .slice x1 y1 z1, .slice x2 y2 z2]] w' Q) :
    Calls Tryz.prog 21 #[.pointer (some ⟨A, 0, none⟩), .agg #[.int .i64 5, .int .i64 a, .int .i64 b, .int .i64 c, .int .i64 d, .string s, .int .i64 hs, .int .u8 h0, .int .u8 h1, .int .i64 gs, .int .u8 g0, .int .u8 g1, .int .i64 f0, .int .i64 f1, .int .i64 f2, .int .i64 f3, .slice x1 y1 z1, .slice x2 y2 z2]] w Q := by
  have hlt := pk_lt a n h0n
  obtain ⟨p, hp⟩ : ∃ p, p = Ps[pk a n]'(by rw [hn]; exact hlt) := ⟨_, rfl⟩
  rw [← hp] at K
  have hcc := hS.cells (pk a n) (by rw [hn]; exact hlt)
  rw [← hp] at hcc
  have HPk := fun w' => hid (pick_any a n w' h0n hn2 ha)
  clear hp hS
  generalize pk a n = i at hlt hcc HPk
  have hi0 : (0 : Int) ≤ (i : Int) := by omega
  have hin : (i : Int) < (n : Int) := by omega
  have hnz : ((n : Int) == 0) = false := by simp; omega
  have hA1 := cell_old (.cells #[.int .i64 5, .int .i64 a, .int .i64 b, .int .i64 c, .int .i64 d, .string s, .int .i64 hs, .int .u8 h0, .int .u8 h1, .int .i64 gs, .int .u8 g0, .int .u8 g1, .int .i64 f0, .int .i64 f1, .int .i64 f2, .int .i64 f3, .slice x1 y1 z1, .slice x2 y2 z2] 74) hcA
  have hc0 := cell_old (.cells #[.int .i64 5, .int .i64 a, .int .i64 b, .int .i64 c, .int .i64 d, .string s, .int .i64 hs, .int .u8 h0, .int .u8 h1, .int .i64 gs, .int .u8 g0, .int .u8 g1, .int .i64 f0, .int .i64 f1, .int .i64 f2, .int .i64 f3, .slice x1 y1 z1, .slice x2 y2 z2] 74) hcc.1
  have hc1 := cell_old (.cells #[.int .i64 5, .int .i64 a, .int .i64 b, .int .i64 c, .int .i64 d, .string s, .int .i64 hs, .int .u8 h0, .int .u8 h1, .int .i64 gs, .int .u8 g0, .int .u8 g1, .int .i64 f0, .int .i64 f1, .int .i64 f2, .int .i64 f3, .slice x1 y1 z1, .slice x2 y2 z2] 74) hcc.2
  clear hcc hcA
  have HRn := hid (range_keep (w' := ((w.alloc (.cells #[.int .i64 5, .int .i64 a, .int .i64 b, .int .i64 c, .int .i64 d, .string s, .int .i64 hs, .int .u8 h0, .int .u8 h1, .int .i64 gs, .int .u8 g0, .int .u8 g1, .int .i64 f0, .int .i64 f1, .int .i64 f2, .int .i64 f3, .slice x1 y1 z1, .slice x2 y2 z2] 74)).alloc (.cells #[.pointer (some ⟨p.S, 0, none⟩), .pointer (some ⟨p.R, 0, none⟩)] 33)).drew) (range_new w 74 [.int .i64 5, .int .i64 a, .int .i64 b, .int .i64 c, .int .i64 d, .string s, .int .i64 hs, .int .u8 h0, .int .u8 h1, .int .i64 gs, .int .u8 g0, .int .u8 g1, .int .i64 f0, .int .i64 f1, .int .i64 f2, .int .i64 f3, .slice x1 y1 z1, .slice x2 y2 z2]) (Below.heap_alloc (w.alloc (.cells #[.int .i64 5, .int .i64 a, .int .i64 b, .int .i64 c, .int .i64 d, .string s, .int .i64 hs, .int .u8 h0, .int .u8 h1, .int .i64 gs, .int .u8 g0, .int .u8 g1, .int .i64 f0, .int .i64 f1, .int .i64 f2, .int .i64 f3, .slice x1 y1 z1, .slice x2 y2 z2] 74)) _ _ (by simp)))
  have HK := hid (K (((w.alloc (.cells #[.int .i64 5, .int .i64 a, .int .i64 b, .int .i64 c, .int .i64 d, .string s, .int .i64 hs, .int .u8 h0, .int .u8 h1, .int .i64 gs, .int .u8 g0, .int .u8 g1, .int .i64 f0, .int .i64 f1, .int .i64 f2, .int .i64 f3, .slice x1 y1 z1, .slice x2 y2 z2] 74)).alloc (.cells #[.pointer (some ⟨p.S, 0, none⟩), .pointer (some ⟨p.R, 0, none⟩)] 33)).drew) (((Below.refl _ _).alloc (Nat.le_refl _) _).alloc (by simp) _).drew)
  clear K
  unfold Pr.val at HK
  go_enter Tryz.func21, Tryz.ntmps21
  go_wp2
  go_region_held3 (fun w' => (w'.cell? ⟨A, 0, none⟩ = some (.slice (some ⟨g, 0, none⟩) n cap) ∧ w'.cell? ⟨w.heap.size, 1, none⟩ = some (.int .i64 a)) ∧ w'.cell? ⟨g, i * 2, none⟩ = some (.pointer (some ⟨p.S, 0, none⟩)) ∧ w'.cell? ⟨g, i * 2 + 1, none⟩ = some (.pointer (some ⟨p.R, 0, none⟩)))
    (go_keep)
    ((go_at_call 54; refine (HPk _).out.mono ?_; rintro e w2 ⟨rfl, hw2⟩; rw [hw2]; clear hw2 w2))
  all_goals clear hA1 hc0 hc1
  all_goals go_wp2_with (refine wpList_load_mid rfl 74 _ rfl w.heap.size 0 rfl [.int .i64 5, .int .i64 a, .int .i64 b, .int .i64 c, .int .i64 d, .string s, .int .i64 hs, .int .u8 h0, .int .u8 h1, .int .i64 gs, .int .u8 g0, .int .u8 g1, .int .i64 f0, .int .i64 f1, .int .i64 f2, .int .i64 f3, .slice x1 y1 z1, .slice x2 y2 z2] _ HRn.out Tryz.underlying74 rfl size_op ?_)
  all_goals go_wp2_with fail
  all_goals refine HK.out.mono ?_
  all_goals intro e w1 hp
  all_goals obtain rfl := hQ e w1 hp
  all_goals have fin := hid hp
  all_goals clear hp hQ HK HRn
  all_goals go_wp2
  all_goals exact fin.out
end Go.Proofs.YtogmdaopfnmobaaGreat

/- The law's world: a step of the kinds of a store, one by one. -/
namespace Go.Proofs.YtogmdaopfnmobaaGreat
open Go.RowKit
set_option maxHeartbeats 4000000 in
set_option maxRecDepth 100000 in
theorem step_6 (w : World) (A base n cap g : Nat) (Ps : List Pr) (hn : Ps.length = n) (h0n : 0 < n) (hn2 : n ≤ 20000000000000) (hS : StIn w base (.slice (some ⟨g, 0, none⟩) n cap) Ps) (hcA : w.cell? ⟨A, 0, none⟩ = some (.slice (some ⟨g, 0, none⟩) n cap)) (a b c d hs gs f0 f1 f2 f3 : Int) (h0 h1 g0 g1 : Int) (s : ByteArray) (x1 x2 : Option Addr) (y1 z1 y2 z2 : Nat) (ha : -9223372036854775808 ≤ a ∧ a ≤ 9223372036854775807) (Q : Ending → World → Prop) (hQ : ∀ e w', Q e w' → e = .returned (.bool true))
    (K : ∀ w', Below w.heap.size w w' → Calls Tryz.prog 55 #[(Ps[pk a n]'(by rw [hn]; exact pk_lt a n h0n)).val, .agg #[.int .i64 6, .int .i64 a, .int .i64 b, .int .i64 c, .int .i64 d, .string s, .int .i64 hs, .int .u8 h0, .int .u8 h1, .int .i64 gs, .int .u8 g0, .int .u8 g1, .int .i64 f0, .int .i64 f1, .int .i64 f2, .int .i64 f3, .slice x1 y1 z1, .slice x2 y2 z2]] w' Q) :
    Calls Tryz.prog 21 #[.pointer (some ⟨A, 0, none⟩), .agg #[.int .i64 6, .int .i64 a, .int .i64 b, .int .i64 c, .int .i64 d, .string s, .int .i64 hs, .int .u8 h0, .int .u8 h1, .int .i64 gs, .int .u8 g0, .int .u8 g1, .int .i64 f0, .int .i64 f1, .int .i64 f2, .int .i64 f3, .slice x1 y1 z1, .slice x2 y2 z2]] w Q := by
  have hlt := pk_lt a n h0n
  obtain ⟨p, hp⟩ : ∃ p, p = Ps[pk a n]'(by rw [hn]; exact hlt) := ⟨_, rfl⟩
  rw [← hp] at K
  have hcc := hS.cells (pk a n) (by rw [hn]; exact hlt)
  rw [← hp] at hcc
  have HPk := fun w' => hid (pick_any a n w' h0n hn2 ha)
  clear hp hS
  generalize pk a n = i at hlt hcc HPk
  have hi0 : (0 : Int) ≤ (i : Int) := by omega
  have hin : (i : Int) < (n : Int) := by omega
  have hnz : ((n : Int) == 0) = false := by simp; omega
  have hA1 := cell_old (.cells #[.int .i64 6, .int .i64 a, .int .i64 b, .int .i64 c, .int .i64 d, .string s, .int .i64 hs, .int .u8 h0, .int .u8 h1, .int .i64 gs, .int .u8 g0, .int .u8 g1, .int .i64 f0, .int .i64 f1, .int .i64 f2, .int .i64 f3, .slice x1 y1 z1, .slice x2 y2 z2] 74) hcA
  have hc0 := cell_old (.cells #[.int .i64 6, .int .i64 a, .int .i64 b, .int .i64 c, .int .i64 d, .string s, .int .i64 hs, .int .u8 h0, .int .u8 h1, .int .i64 gs, .int .u8 g0, .int .u8 g1, .int .i64 f0, .int .i64 f1, .int .i64 f2, .int .i64 f3, .slice x1 y1 z1, .slice x2 y2 z2] 74) hcc.1
  have hc1 := cell_old (.cells #[.int .i64 6, .int .i64 a, .int .i64 b, .int .i64 c, .int .i64 d, .string s, .int .i64 hs, .int .u8 h0, .int .u8 h1, .int .i64 gs, .int .u8 g0, .int .u8 g1, .int .i64 f0, .int .i64 f1, .int .i64 f2, .int .i64 f3, .slice x1 y1 z1, .slice x2 y2 z2] 74) hcc.2
  clear hcc hcA
  have HRn := hid (range_keep (w' := ((w.alloc (.cells #[.int .i64 6, .int .i64 a, .int .i64 b, .int .i64 c, .int .i64 d, .string s, .int .i64 hs, .int .u8 h0, .int .u8 h1, .int .i64 gs, .int .u8 g0, .int .u8 g1, .int .i64 f0, .int .i64 f1, .int .i64 f2, .int .i64 f3, .slice x1 y1 z1, .slice x2 y2 z2] 74)).alloc (.cells #[.pointer (some ⟨p.S, 0, none⟩), .pointer (some ⟨p.R, 0, none⟩)] 33)).drew) (range_new w 74 [.int .i64 6, .int .i64 a, .int .i64 b, .int .i64 c, .int .i64 d, .string s, .int .i64 hs, .int .u8 h0, .int .u8 h1, .int .i64 gs, .int .u8 g0, .int .u8 g1, .int .i64 f0, .int .i64 f1, .int .i64 f2, .int .i64 f3, .slice x1 y1 z1, .slice x2 y2 z2]) (Below.heap_alloc (w.alloc (.cells #[.int .i64 6, .int .i64 a, .int .i64 b, .int .i64 c, .int .i64 d, .string s, .int .i64 hs, .int .u8 h0, .int .u8 h1, .int .i64 gs, .int .u8 g0, .int .u8 g1, .int .i64 f0, .int .i64 f1, .int .i64 f2, .int .i64 f3, .slice x1 y1 z1, .slice x2 y2 z2] 74)) _ _ (by simp)))
  have HK := hid (K (((w.alloc (.cells #[.int .i64 6, .int .i64 a, .int .i64 b, .int .i64 c, .int .i64 d, .string s, .int .i64 hs, .int .u8 h0, .int .u8 h1, .int .i64 gs, .int .u8 g0, .int .u8 g1, .int .i64 f0, .int .i64 f1, .int .i64 f2, .int .i64 f3, .slice x1 y1 z1, .slice x2 y2 z2] 74)).alloc (.cells #[.pointer (some ⟨p.S, 0, none⟩), .pointer (some ⟨p.R, 0, none⟩)] 33)).drew) (((Below.refl _ _).alloc (Nat.le_refl _) _).alloc (by simp) _).drew)
  clear K
  unfold Pr.val at HK
  go_enter Tryz.func21, Tryz.ntmps21
  go_wp2
  go_region_held3 (fun w' => (w'.cell? ⟨A, 0, none⟩ = some (.slice (some ⟨g, 0, none⟩) n cap) ∧ w'.cell? ⟨w.heap.size, 1, none⟩ = some (.int .i64 a)) ∧ w'.cell? ⟨g, i * 2, none⟩ = some (.pointer (some ⟨p.S, 0, none⟩)) ∧ w'.cell? ⟨g, i * 2 + 1, none⟩ = some (.pointer (some ⟨p.R, 0, none⟩)))
    (go_keep)
    ((go_at_call 54; refine (HPk _).out.mono ?_; rintro e w2 ⟨rfl, hw2⟩; rw [hw2]; clear hw2 w2))
  all_goals clear hA1 hc0 hc1
  all_goals go_wp2_with (refine wpList_load_mid rfl 74 _ rfl w.heap.size 0 rfl [.int .i64 6, .int .i64 a, .int .i64 b, .int .i64 c, .int .i64 d, .string s, .int .i64 hs, .int .u8 h0, .int .u8 h1, .int .i64 gs, .int .u8 g0, .int .u8 g1, .int .i64 f0, .int .i64 f1, .int .i64 f2, .int .i64 f3, .slice x1 y1 z1, .slice x2 y2 z2] _ HRn.out Tryz.underlying74 rfl size_op ?_)
  all_goals go_wp2_with fail
  all_goals refine HK.out.mono ?_
  all_goals intro e w1 hp
  all_goals obtain rfl := hQ e w1 hp
  all_goals have fin := hid hp
  all_goals clear hp hQ HK HRn
  all_goals go_wp2
  all_goals exact fin.out
set_option maxHeartbeats 4000000 in
set_option maxRecDepth 100000 in
theorem step_7 (w : World) (A base n cap g : Nat) (Ps : List Pr) (hn : Ps.length = n) (h0n : 0 < n) (hn2 : n ≤ 20000000000000) (hS : StIn w base (.slice (some ⟨g, 0, none⟩) n cap) Ps) (hcA : w.cell? ⟨A, 0, none⟩ = some (.slice (some ⟨g, 0, none⟩) n cap)) (a b c d hs gs f0 f1 f2 f3 : Int) (h0 h1 g0 g1 : Int) (s : ByteArray) (x1 x2 : Option Addr) (y1 z1 y2 z2 : Nat) (ha : -9223372036854775808 ≤ a ∧ a ≤ 9223372036854775807) (Q : Ending → World → Prop) (hQ : ∀ e w', Q e w' → e = .returned (.bool true))
    (K : ∀ w', Below w.heap.size w w' → Calls Tryz.prog 55 #[(Ps[pk a n]'(by rw [hn]; exact pk_lt a n h0n)).val, .agg #[.int .i64 7, .int .i64 a, .int .i64 b, .int .i64 c, .int .i64 d, .string s, .int .i64 hs, .int .u8 h0, .int .u8 h1, .int .i64 gs, .int .u8 g0, .int .u8 g1, .int .i64 f0, .int .i64 f1, .int .i64 f2, .int .i64 f3, .slice x1 y1 z1, .slice x2 y2 z2]] w' Q) :
    Calls Tryz.prog 21 #[.pointer (some ⟨A, 0, none⟩), .agg #[.int .i64 7, .int .i64 a, .int .i64 b, .int .i64 c, .int .i64 d, .string s, .int .i64 hs, .int .u8 h0, .int .u8 h1, .int .i64 gs, .int .u8 g0, .int .u8 g1, .int .i64 f0, .int .i64 f1, .int .i64 f2, .int .i64 f3, .slice x1 y1 z1, .slice x2 y2 z2]] w Q := by
  have hlt := pk_lt a n h0n
  obtain ⟨p, hp⟩ : ∃ p, p = Ps[pk a n]'(by rw [hn]; exact hlt) := ⟨_, rfl⟩
  rw [← hp] at K
  have hcc := hS.cells (pk a n) (by rw [hn]; exact hlt)
  rw [← hp] at hcc
  have HPk := fun w' => hid (pick_any a n w' h0n hn2 ha)
  clear hp hS
  generalize pk a n = i at hlt hcc HPk
  have hi0 : (0 : Int) ≤ (i : Int) := by omega
  have hin : (i : Int) < (n : Int) := by omega
  have hnz : ((n : Int) == 0) = false := by simp; omega
  have hA1 := cell_old (.cells #[.int .i64 7, .int .i64 a, .int .i64 b, .int .i64 c, .int .i64 d, .string s, .int .i64 hs, .int .u8 h0, .int .u8 h1, .int .i64 gs, .int .u8 g0, .int .u8 g1, .int .i64 f0, .int .i64 f1, .int .i64 f2, .int .i64 f3, .slice x1 y1 z1, .slice x2 y2 z2] 74) hcA
  have hc0 := cell_old (.cells #[.int .i64 7, .int .i64 a, .int .i64 b, .int .i64 c, .int .i64 d, .string s, .int .i64 hs, .int .u8 h0, .int .u8 h1, .int .i64 gs, .int .u8 g0, .int .u8 g1, .int .i64 f0, .int .i64 f1, .int .i64 f2, .int .i64 f3, .slice x1 y1 z1, .slice x2 y2 z2] 74) hcc.1
  have hc1 := cell_old (.cells #[.int .i64 7, .int .i64 a, .int .i64 b, .int .i64 c, .int .i64 d, .string s, .int .i64 hs, .int .u8 h0, .int .u8 h1, .int .i64 gs, .int .u8 g0, .int .u8 g1, .int .i64 f0, .int .i64 f1, .int .i64 f2, .int .i64 f3, .slice x1 y1 z1, .slice x2 y2 z2] 74) hcc.2
  clear hcc hcA
  have HRn := hid (range_keep (w' := ((w.alloc (.cells #[.int .i64 7, .int .i64 a, .int .i64 b, .int .i64 c, .int .i64 d, .string s, .int .i64 hs, .int .u8 h0, .int .u8 h1, .int .i64 gs, .int .u8 g0, .int .u8 g1, .int .i64 f0, .int .i64 f1, .int .i64 f2, .int .i64 f3, .slice x1 y1 z1, .slice x2 y2 z2] 74)).alloc (.cells #[.pointer (some ⟨p.S, 0, none⟩), .pointer (some ⟨p.R, 0, none⟩)] 33)).drew) (range_new w 74 [.int .i64 7, .int .i64 a, .int .i64 b, .int .i64 c, .int .i64 d, .string s, .int .i64 hs, .int .u8 h0, .int .u8 h1, .int .i64 gs, .int .u8 g0, .int .u8 g1, .int .i64 f0, .int .i64 f1, .int .i64 f2, .int .i64 f3, .slice x1 y1 z1, .slice x2 y2 z2]) (Below.heap_alloc (w.alloc (.cells #[.int .i64 7, .int .i64 a, .int .i64 b, .int .i64 c, .int .i64 d, .string s, .int .i64 hs, .int .u8 h0, .int .u8 h1, .int .i64 gs, .int .u8 g0, .int .u8 g1, .int .i64 f0, .int .i64 f1, .int .i64 f2, .int .i64 f3, .slice x1 y1 z1, .slice x2 y2 z2] 74)) _ _ (by simp)))
  have HK := hid (K (((w.alloc (.cells #[.int .i64 7, .int .i64 a, .int .i64 b, .int .i64 c, .int .i64 d, .string s, .int .i64 hs, .int .u8 h0, .int .u8 h1, .int .i64 gs, .int .u8 g0, .int .u8 g1, .int .i64 f0, .int .i64 f1, .int .i64 f2, .int .i64 f3, .slice x1 y1 z1, .slice x2 y2 z2] 74)).alloc (.cells #[.pointer (some ⟨p.S, 0, none⟩), .pointer (some ⟨p.R, 0, none⟩)] 33)).drew) (((Below.refl _ _).alloc (Nat.le_refl _) _).alloc (by simp) _).drew)
  clear K
  unfold Pr.val at HK
  go_enter Tryz.func21, Tryz.ntmps21
  go_wp2
  go_region_held3 (fun w' => (w'.cell? ⟨A, 0, none⟩ = some (.slice (some ⟨g, 0, none⟩) n cap) ∧ w'.cell? ⟨w.heap.size, 1, none⟩ = some (.int .i64 a)) ∧ w'.cell? ⟨g, i * 2, none⟩ = some (.pointer (some ⟨p.S, 0, none⟩)) ∧ w'.cell? ⟨g, i * 2 + 1, none⟩ = some (.pointer (some ⟨p.R, 0, none⟩)))
    (go_keep)
    ((go_at_call 54; refine (HPk _).out.mono ?_; rintro e w2 ⟨rfl, hw2⟩; rw [hw2]; clear hw2 w2))
  all_goals clear hA1 hc0 hc1
  all_goals go_wp2_with (refine wpList_load_mid rfl 74 _ rfl w.heap.size 0 rfl [.int .i64 7, .int .i64 a, .int .i64 b, .int .i64 c, .int .i64 d, .string s, .int .i64 hs, .int .u8 h0, .int .u8 h1, .int .i64 gs, .int .u8 g0, .int .u8 g1, .int .i64 f0, .int .i64 f1, .int .i64 f2, .int .i64 f3, .slice x1 y1 z1, .slice x2 y2 z2] _ HRn.out Tryz.underlying74 rfl size_op ?_)
  all_goals go_wp2_with fail
  all_goals refine HK.out.mono ?_
  all_goals intro e w1 hp
  all_goals obtain rfl := hQ e w1 hp
  all_goals have fin := hid hp
  all_goals clear hp hQ HK HRn
  all_goals go_wp2
  all_goals exact fin.out
end Go.Proofs.YtogmdaopfnmobaaGreat

/- The law's world: a step of the kinds of a store, one by one. -/
namespace Go.Proofs.YtogmdaopfnmobaaGreat
open Go.RowKit
set_option maxHeartbeats 4000000 in
set_option maxRecDepth 100000 in
theorem step_8 (w : World) (A base n cap g : Nat) (Ps : List Pr) (hn : Ps.length = n) (h0n : 0 < n) (hn2 : n ≤ 20000000000000) (hS : StIn w base (.slice (some ⟨g, 0, none⟩) n cap) Ps) (hcA : w.cell? ⟨A, 0, none⟩ = some (.slice (some ⟨g, 0, none⟩) n cap)) (a b c d hs gs f0 f1 f2 f3 : Int) (h0 h1 g0 g1 : Int) (s : ByteArray) (x1 x2 : Option Addr) (y1 z1 y2 z2 : Nat) (ha : -9223372036854775808 ≤ a ∧ a ≤ 9223372036854775807) (Q : Ending → World → Prop) (hQ : ∀ e w', Q e w' → e = .returned (.bool true))
    (K : ∀ w', Below w.heap.size w w' → Calls Tryz.prog 56 #[(Ps[pk a n]'(by rw [hn]; exact pk_lt a n h0n)).val, .agg #[.int .i64 8, .int .i64 a, .int .i64 b, .int .i64 c, .int .i64 d, .string s, .int .i64 hs, .int .u8 h0, .int .u8 h1, .int .i64 gs, .int .u8 g0, .int .u8 g1, .int .i64 f0, .int .i64 f1, .int .i64 f2, .int .i64 f3, .slice x1 y1 z1, .slice x2 y2 z2]] w' Q) :
    Calls Tryz.prog 21 #[.pointer (some ⟨A, 0, none⟩), .agg #[.int .i64 8, .int .i64 a, .int .i64 b, .int .i64 c, .int .i64 d, .string s, .int .i64 hs, .int .u8 h0, .int .u8 h1, .int .i64 gs, .int .u8 g0, .int .u8 g1, .int .i64 f0, .int .i64 f1, .int .i64 f2, .int .i64 f3, .slice x1 y1 z1, .slice x2 y2 z2]] w Q := by
  have hlt := pk_lt a n h0n
  obtain ⟨p, hp⟩ : ∃ p, p = Ps[pk a n]'(by rw [hn]; exact hlt) := ⟨_, rfl⟩
  rw [← hp] at K
  have hcc := hS.cells (pk a n) (by rw [hn]; exact hlt)
  rw [← hp] at hcc
  have HPk := fun w' => hid (pick_any a n w' h0n hn2 ha)
  clear hp hS
  generalize pk a n = i at hlt hcc HPk
  have hi0 : (0 : Int) ≤ (i : Int) := by omega
  have hin : (i : Int) < (n : Int) := by omega
  have hnz : ((n : Int) == 0) = false := by simp; omega
  have hA1 := cell_old (.cells #[.int .i64 8, .int .i64 a, .int .i64 b, .int .i64 c, .int .i64 d, .string s, .int .i64 hs, .int .u8 h0, .int .u8 h1, .int .i64 gs, .int .u8 g0, .int .u8 g1, .int .i64 f0, .int .i64 f1, .int .i64 f2, .int .i64 f3, .slice x1 y1 z1, .slice x2 y2 z2] 74) hcA
  have hc0 := cell_old (.cells #[.int .i64 8, .int .i64 a, .int .i64 b, .int .i64 c, .int .i64 d, .string s, .int .i64 hs, .int .u8 h0, .int .u8 h1, .int .i64 gs, .int .u8 g0, .int .u8 g1, .int .i64 f0, .int .i64 f1, .int .i64 f2, .int .i64 f3, .slice x1 y1 z1, .slice x2 y2 z2] 74) hcc.1
  have hc1 := cell_old (.cells #[.int .i64 8, .int .i64 a, .int .i64 b, .int .i64 c, .int .i64 d, .string s, .int .i64 hs, .int .u8 h0, .int .u8 h1, .int .i64 gs, .int .u8 g0, .int .u8 g1, .int .i64 f0, .int .i64 f1, .int .i64 f2, .int .i64 f3, .slice x1 y1 z1, .slice x2 y2 z2] 74) hcc.2
  clear hcc hcA
  have HRn := hid (range_keep (w' := ((w.alloc (.cells #[.int .i64 8, .int .i64 a, .int .i64 b, .int .i64 c, .int .i64 d, .string s, .int .i64 hs, .int .u8 h0, .int .u8 h1, .int .i64 gs, .int .u8 g0, .int .u8 g1, .int .i64 f0, .int .i64 f1, .int .i64 f2, .int .i64 f3, .slice x1 y1 z1, .slice x2 y2 z2] 74)).alloc (.cells #[.pointer (some ⟨p.S, 0, none⟩), .pointer (some ⟨p.R, 0, none⟩)] 33)).drew) (range_new w 74 [.int .i64 8, .int .i64 a, .int .i64 b, .int .i64 c, .int .i64 d, .string s, .int .i64 hs, .int .u8 h0, .int .u8 h1, .int .i64 gs, .int .u8 g0, .int .u8 g1, .int .i64 f0, .int .i64 f1, .int .i64 f2, .int .i64 f3, .slice x1 y1 z1, .slice x2 y2 z2]) (Below.heap_alloc (w.alloc (.cells #[.int .i64 8, .int .i64 a, .int .i64 b, .int .i64 c, .int .i64 d, .string s, .int .i64 hs, .int .u8 h0, .int .u8 h1, .int .i64 gs, .int .u8 g0, .int .u8 g1, .int .i64 f0, .int .i64 f1, .int .i64 f2, .int .i64 f3, .slice x1 y1 z1, .slice x2 y2 z2] 74)) _ _ (by simp)))
  have HK := hid (K (((w.alloc (.cells #[.int .i64 8, .int .i64 a, .int .i64 b, .int .i64 c, .int .i64 d, .string s, .int .i64 hs, .int .u8 h0, .int .u8 h1, .int .i64 gs, .int .u8 g0, .int .u8 g1, .int .i64 f0, .int .i64 f1, .int .i64 f2, .int .i64 f3, .slice x1 y1 z1, .slice x2 y2 z2] 74)).alloc (.cells #[.pointer (some ⟨p.S, 0, none⟩), .pointer (some ⟨p.R, 0, none⟩)] 33)).drew) (((Below.refl _ _).alloc (Nat.le_refl _) _).alloc (by simp) _).drew)
  clear K
  unfold Pr.val at HK
  go_enter Tryz.func21, Tryz.ntmps21
  go_wp2
  go_region_held3 (fun w' => (w'.cell? ⟨A, 0, none⟩ = some (.slice (some ⟨g, 0, none⟩) n cap) ∧ w'.cell? ⟨w.heap.size, 1, none⟩ = some (.int .i64 a)) ∧ w'.cell? ⟨g, i * 2, none⟩ = some (.pointer (some ⟨p.S, 0, none⟩)) ∧ w'.cell? ⟨g, i * 2 + 1, none⟩ = some (.pointer (some ⟨p.R, 0, none⟩)))
    (go_keep)
    ((go_at_call 54; refine (HPk _).out.mono ?_; rintro e w2 ⟨rfl, hw2⟩; rw [hw2]; clear hw2 w2))
  all_goals clear hA1 hc0 hc1
  all_goals go_wp2_with (refine wpList_load_mid rfl 74 _ rfl w.heap.size 0 rfl [.int .i64 8, .int .i64 a, .int .i64 b, .int .i64 c, .int .i64 d, .string s, .int .i64 hs, .int .u8 h0, .int .u8 h1, .int .i64 gs, .int .u8 g0, .int .u8 g1, .int .i64 f0, .int .i64 f1, .int .i64 f2, .int .i64 f3, .slice x1 y1 z1, .slice x2 y2 z2] _ HRn.out Tryz.underlying74 rfl size_op ?_)
  all_goals go_wp2_with fail
  all_goals refine HK.out.mono ?_
  all_goals intro e w1 hp
  all_goals obtain rfl := hQ e w1 hp
  all_goals have fin := hid hp
  all_goals clear hp hQ HK HRn
  all_goals go_wp2
  all_goals exact fin.out
set_option maxHeartbeats 4000000 in
set_option maxRecDepth 100000 in
theorem step_9 (w : World) (A base n cap g : Nat) (Ps : List Pr) (hn : Ps.length = n) (h0n : 0 < n) (hn2 : n ≤ 20000000000000) (hS : StIn w base (.slice (some ⟨g, 0, none⟩) n cap) Ps) (hcA : w.cell? ⟨A, 0, none⟩ = some (.slice (some ⟨g, 0, none⟩) n cap)) (a b c d hs gs f0 f1 f2 f3 : Int) (h0 h1 g0 g1 : Int) (s : ByteArray) (x1 x2 : Option Addr) (y1 z1 y2 z2 : Nat) (ha : -9223372036854775808 ≤ a ∧ a ≤ 9223372036854775807) (Q : Ending → World → Prop) (hQ : ∀ e w', Q e w' → e = .returned (.bool true))
    (K : ∀ w', Below w.heap.size w w' → Calls Tryz.prog 56 #[(Ps[pk a n]'(by rw [hn]; exact pk_lt a n h0n)).val, .agg #[.int .i64 9, .int .i64 a, .int .i64 b, .int .i64 c, .int .i64 d, .string s, .int .i64 hs, .int .u8 h0, .int .u8 h1, .int .i64 gs, .int .u8 g0, .int .u8 g1, .int .i64 f0, .int .i64 f1, .int .i64 f2, .int .i64 f3, .slice x1 y1 z1, .slice x2 y2 z2]] w' Q) :
    Calls Tryz.prog 21 #[.pointer (some ⟨A, 0, none⟩), .agg #[.int .i64 9, .int .i64 a, .int .i64 b, .int .i64 c, .int .i64 d, .string s, .int .i64 hs, .int .u8 h0, .int .u8 h1, .int .i64 gs, .int .u8 g0, .int .u8 g1, .int .i64 f0, .int .i64 f1, .int .i64 f2, .int .i64 f3, .slice x1 y1 z1, .slice x2 y2 z2]] w Q := by
  have hlt := pk_lt a n h0n
  obtain ⟨p, hp⟩ : ∃ p, p = Ps[pk a n]'(by rw [hn]; exact hlt) := ⟨_, rfl⟩
  rw [← hp] at K
  have hcc := hS.cells (pk a n) (by rw [hn]; exact hlt)
  rw [← hp] at hcc
  have HPk := fun w' => hid (pick_any a n w' h0n hn2 ha)
  clear hp hS
  generalize pk a n = i at hlt hcc HPk
  have hi0 : (0 : Int) ≤ (i : Int) := by omega
  have hin : (i : Int) < (n : Int) := by omega
  have hnz : ((n : Int) == 0) = false := by simp; omega
  have hA1 := cell_old (.cells #[.int .i64 9, .int .i64 a, .int .i64 b, .int .i64 c, .int .i64 d, .string s, .int .i64 hs, .int .u8 h0, .int .u8 h1, .int .i64 gs, .int .u8 g0, .int .u8 g1, .int .i64 f0, .int .i64 f1, .int .i64 f2, .int .i64 f3, .slice x1 y1 z1, .slice x2 y2 z2] 74) hcA
  have hc0 := cell_old (.cells #[.int .i64 9, .int .i64 a, .int .i64 b, .int .i64 c, .int .i64 d, .string s, .int .i64 hs, .int .u8 h0, .int .u8 h1, .int .i64 gs, .int .u8 g0, .int .u8 g1, .int .i64 f0, .int .i64 f1, .int .i64 f2, .int .i64 f3, .slice x1 y1 z1, .slice x2 y2 z2] 74) hcc.1
  have hc1 := cell_old (.cells #[.int .i64 9, .int .i64 a, .int .i64 b, .int .i64 c, .int .i64 d, .string s, .int .i64 hs, .int .u8 h0, .int .u8 h1, .int .i64 gs, .int .u8 g0, .int .u8 g1, .int .i64 f0, .int .i64 f1, .int .i64 f2, .int .i64 f3, .slice x1 y1 z1, .slice x2 y2 z2] 74) hcc.2
  clear hcc hcA
  have HRn := hid (range_keep (w' := ((w.alloc (.cells #[.int .i64 9, .int .i64 a, .int .i64 b, .int .i64 c, .int .i64 d, .string s, .int .i64 hs, .int .u8 h0, .int .u8 h1, .int .i64 gs, .int .u8 g0, .int .u8 g1, .int .i64 f0, .int .i64 f1, .int .i64 f2, .int .i64 f3, .slice x1 y1 z1, .slice x2 y2 z2] 74)).alloc (.cells #[.pointer (some ⟨p.S, 0, none⟩), .pointer (some ⟨p.R, 0, none⟩)] 33)).drew) (range_new w 74 [.int .i64 9, .int .i64 a, .int .i64 b, .int .i64 c, .int .i64 d, .string s, .int .i64 hs, .int .u8 h0, .int .u8 h1, .int .i64 gs, .int .u8 g0, .int .u8 g1, .int .i64 f0, .int .i64 f1, .int .i64 f2, .int .i64 f3, .slice x1 y1 z1, .slice x2 y2 z2]) (Below.heap_alloc (w.alloc (.cells #[.int .i64 9, .int .i64 a, .int .i64 b, .int .i64 c, .int .i64 d, .string s, .int .i64 hs, .int .u8 h0, .int .u8 h1, .int .i64 gs, .int .u8 g0, .int .u8 g1, .int .i64 f0, .int .i64 f1, .int .i64 f2, .int .i64 f3, .slice x1 y1 z1, .slice x2 y2 z2] 74)) _ _ (by simp)))
  have HK := hid (K (((w.alloc (.cells #[.int .i64 9, .int .i64 a, .int .i64 b, .int .i64 c, .int .i64 d, .string s, .int .i64 hs, .int .u8 h0, .int .u8 h1, .int .i64 gs, .int .u8 g0, .int .u8 g1, .int .i64 f0, .int .i64 f1, .int .i64 f2, .int .i64 f3, .slice x1 y1 z1, .slice x2 y2 z2] 74)).alloc (.cells #[.pointer (some ⟨p.S, 0, none⟩), .pointer (some ⟨p.R, 0, none⟩)] 33)).drew) (((Below.refl _ _).alloc (Nat.le_refl _) _).alloc (by simp) _).drew)
  clear K
  unfold Pr.val at HK
  go_enter Tryz.func21, Tryz.ntmps21
  go_wp2
  go_region_held3 (fun w' => (w'.cell? ⟨A, 0, none⟩ = some (.slice (some ⟨g, 0, none⟩) n cap) ∧ w'.cell? ⟨w.heap.size, 1, none⟩ = some (.int .i64 a)) ∧ w'.cell? ⟨g, i * 2, none⟩ = some (.pointer (some ⟨p.S, 0, none⟩)) ∧ w'.cell? ⟨g, i * 2 + 1, none⟩ = some (.pointer (some ⟨p.R, 0, none⟩)))
    (go_keep)
    ((go_at_call 54; refine (HPk _).out.mono ?_; rintro e w2 ⟨rfl, hw2⟩; rw [hw2]; clear hw2 w2))
  all_goals clear hA1 hc0 hc1
  all_goals go_wp2_with (refine wpList_load_mid rfl 74 _ rfl w.heap.size 0 rfl [.int .i64 9, .int .i64 a, .int .i64 b, .int .i64 c, .int .i64 d, .string s, .int .i64 hs, .int .u8 h0, .int .u8 h1, .int .i64 gs, .int .u8 g0, .int .u8 g1, .int .i64 f0, .int .i64 f1, .int .i64 f2, .int .i64 f3, .slice x1 y1 z1, .slice x2 y2 z2] _ HRn.out Tryz.underlying74 rfl size_op ?_)
  all_goals go_wp2_with fail
  all_goals refine HK.out.mono ?_
  all_goals intro e w1 hp
  all_goals obtain rfl := hQ e w1 hp
  all_goals have fin := hid hp
  all_goals clear hp hQ HK HRn
  all_goals go_wp2
  all_goals exact fin.out
set_option maxHeartbeats 4000000 in
set_option maxRecDepth 100000 in
theorem step_10 (w : World) (A base n cap g : Nat) (Ps : List Pr) (hn : Ps.length = n) (h0n : 0 < n) (hn2 : n ≤ 20000000000000) (hS : StIn w base (.slice (some ⟨g, 0, none⟩) n cap) Ps) (hcA : w.cell? ⟨A, 0, none⟩ = some (.slice (some ⟨g, 0, none⟩) n cap)) (a b c d hs gs f0 f1 f2 f3 : Int) (h0 h1 g0 g1 : Int) (s : ByteArray) (x1 x2 : Option Addr) (y1 z1 y2 z2 : Nat) (ha : -9223372036854775808 ≤ a ∧ a ≤ 9223372036854775807) (Q : Ending → World → Prop) (hQ : ∀ e w', Q e w' → e = .returned (.bool true))
    (K : ∀ w', Below w.heap.size w w' → Calls Tryz.prog 56 #[(Ps[pk a n]'(by rw [hn]; exact pk_lt a n h0n)).val, .agg #[.int .i64 10, .int .i64 a, .int .i64 b, .int .i64 c, .int .i64 d, .string s, .int .i64 hs, .int .u8 h0, .int .u8 h1, .int .i64 gs, .int .u8 g0, .int .u8 g1, .int .i64 f0, .int .i64 f1, .int .i64 f2, .int .i64 f3, .slice x1 y1 z1, .slice x2 y2 z2]] w' Q) :
    Calls Tryz.prog 21 #[.pointer (some ⟨A, 0, none⟩), .agg #[.int .i64 10, .int .i64 a, .int .i64 b, .int .i64 c, .int .i64 d, .string s, .int .i64 hs, .int .u8 h0, .int .u8 h1, .int .i64 gs, .int .u8 g0, .int .u8 g1, .int .i64 f0, .int .i64 f1, .int .i64 f2, .int .i64 f3, .slice x1 y1 z1, .slice x2 y2 z2]] w Q := by
  have hlt := pk_lt a n h0n
  obtain ⟨p, hp⟩ : ∃ p, p = Ps[pk a n]'(by rw [hn]; exact hlt) := ⟨_, rfl⟩
  rw [← hp] at K
  have hcc := hS.cells (pk a n) (by rw [hn]; exact hlt)
  rw [← hp] at hcc
  have HPk := fun w' => hid (pick_any a n w' h0n hn2 ha)
  clear hp hS
  generalize pk a n = i at hlt hcc HPk
  have hi0 : (0 : Int) ≤ (i : Int) := by omega
  have hin : (i : Int) < (n : Int) := by omega
  have hnz : ((n : Int) == 0) = false := by simp; omega
  have hA1 := cell_old (.cells #[.int .i64 10, .int .i64 a, .int .i64 b, .int .i64 c, .int .i64 d, .string s, .int .i64 hs, .int .u8 h0, .int .u8 h1, .int .i64 gs, .int .u8 g0, .int .u8 g1, .int .i64 f0, .int .i64 f1, .int .i64 f2, .int .i64 f3, .slice x1 y1 z1, .slice x2 y2 z2] 74) hcA
  have hc0 := cell_old (.cells #[.int .i64 10, .int .i64 a, .int .i64 b, .int .i64 c, .int .i64 d, .string s, .int .i64 hs, .int .u8 h0, .int .u8 h1, .int .i64 gs, .int .u8 g0, .int .u8 g1, .int .i64 f0, .int .i64 f1, .int .i64 f2, .int .i64 f3, .slice x1 y1 z1, .slice x2 y2 z2] 74) hcc.1
  have hc1 := cell_old (.cells #[.int .i64 10, .int .i64 a, .int .i64 b, .int .i64 c, .int .i64 d, .string s, .int .i64 hs, .int .u8 h0, .int .u8 h1, .int .i64 gs, .int .u8 g0, .int .u8 g1, .int .i64 f0, .int .i64 f1, .int .i64 f2, .int .i64 f3, .slice x1 y1 z1, .slice x2 y2 z2] 74) hcc.2
  clear hcc hcA
  have HRn := hid (range_keep (w' := ((w.alloc (.cells #[.int .i64 10, .int .i64 a, .int .i64 b, .int .i64 c, .int .i64 d, .string s, .int .i64 hs, .int .u8 h0, .int .u8 h1, .int .i64 gs, .int .u8 g0, .int .u8 g1, .int .i64 f0, .int .i64 f1, .int .i64 f2, .int .i64 f3, .slice x1 y1 z1, .slice x2 y2 z2] 74)).alloc (.cells #[.pointer (some ⟨p.S, 0, none⟩), .pointer (some ⟨p.R, 0, none⟩)] 33)).drew) (range_new w 74 [.int .i64 10, .int .i64 a, .int .i64 b, .int .i64 c, .int .i64 d, .string s, .int .i64 hs, .int .u8 h0, .int .u8 h1, .int .i64 gs, .int .u8 g0, .int .u8 g1, .int .i64 f0, .int .i64 f1, .int .i64 f2, .int .i64 f3, .slice x1 y1 z1, .slice x2 y2 z2]) (Below.heap_alloc (w.alloc (.cells #[.int .i64 10, .int .i64 a, .int .i64 b, .int .i64 c, .int .i64 d, .string s, .int .i64 hs, .int .u8 h0, .int .u8 h1, .int .i64 gs, .int .u8 g0, .int .u8 g1, .int .i64 f0, .int .i64 f1, .int .i64 f2, .int .i64 f3, .slice x1 y1 z1, .slice x2 y2 z2] 74)) _ _ (by simp)))
  have HK := hid (K (((w.alloc (.cells #[.int .i64 10, .int .i64 a, .int .i64 b, .int .i64 c, .int .i64 d, .string s, .int .i64 hs, .int .u8 h0, .int .u8 h1, .int .i64 gs, .int .u8 g0, .int .u8 g1, .int .i64 f0, .int .i64 f1, .int .i64 f2, .int .i64 f3, .slice x1 y1 z1, .slice x2 y2 z2] 74)).alloc (.cells #[.pointer (some ⟨p.S, 0, none⟩), .pointer (some ⟨p.R, 0, none⟩)] 33)).drew) (((Below.refl _ _).alloc (Nat.le_refl _) _).alloc (by simp) _).drew)
  clear K
  unfold Pr.val at HK
  go_enter Tryz.func21, Tryz.ntmps21
  go_wp2
  go_region_held3 (fun w' => (w'.cell? ⟨A, 0, none⟩ = some (.slice (some ⟨g, 0, none⟩) n cap) ∧ w'.cell? ⟨w.heap.size, 1, none⟩ = some (.int .i64 a)) ∧ w'.cell? ⟨g, i * 2, none⟩ = some (.pointer (some ⟨p.S, 0, none⟩)) ∧ w'.cell? ⟨g, i * 2 + 1, none⟩ = some (.pointer (some ⟨p.R, 0, none⟩)))
    (go_keep)
    ((go_at_call 54; refine (HPk _).out.mono ?_; rintro e w2 ⟨rfl, hw2⟩; rw [hw2]; clear hw2 w2))
  all_goals clear hA1 hc0 hc1
  all_goals go_wp2_with (refine wpList_load_mid rfl 74 _ rfl w.heap.size 0 rfl [.int .i64 10, .int .i64 a, .int .i64 b, .int .i64 c, .int .i64 d, .string s, .int .i64 hs, .int .u8 h0, .int .u8 h1, .int .i64 gs, .int .u8 g0, .int .u8 g1, .int .i64 f0, .int .i64 f1, .int .i64 f2, .int .i64 f3, .slice x1 y1 z1, .slice x2 y2 z2] _ HRn.out Tryz.underlying74 rfl size_op ?_)
  all_goals go_wp2_with fail
  all_goals refine HK.out.mono ?_
  all_goals intro e w1 hp
  all_goals obtain rfl := hQ e w1 hp
  all_goals have fin := hid hp
  all_goals clear hp hQ HK HRn
  all_goals go_wp2
  all_goals exact fin.out
end Go.Proofs.YtogmdaopfnmobaaGreat

/- The law's world: a step of a store, whatever it is. -/
namespace Go.Proofs.YtogmdaopfnmobaaGreat
open Go.RowKit
theorem StIn.change {w w' : World} {base : Nat} {sv : Value} {L R : List Pr} {p p' : Pr} (h : StIn w base sv (L ++ p :: R)) (hd : Done w w' base p p') : StIn w' base sv (L ++ p' :: R) ∧ Kept w w' (stFp sv (L ++ p :: R)) ∧ ∀ k ∈ stFp sv (L ++ p' :: R), k ∈ stFp sv (L ++ p :: R) ∨ w.heap.size ≤ k := by
  have hnd := h.nd
  rw [List.flatMap_append, List.flatMap_cons] at hnd
  obtain ⟨n1, n2, n3⟩ := List.nodup_append.1 hnd
  obtain ⟨m1, m2, m3⟩ := List.nodup_append.1 n2
  obtain ⟨q1, q2, q3⟩ := List.nodup_append.1 m2
  have hlt : ∀ k ∈ stFp sv (L ++ p :: R), k < w.heap.size := fun k hk => (h.fp k hk).2
  have inL : ∀ k ∈ L.flatMap Pr.blk, k ∈ stFp sv (L ++ p :: R) := fun k hk => by simp only [stFp, List.flatMap_append, List.mem_append]; exact .inr (.inl hk)
  have inR : ∀ k ∈ R.flatMap Pr.blk, k ∈ stFp sv (L ++ p :: R) := fun k hk => by simp only [stFp, List.flatMap_append, List.flatMap_cons, List.mem_append]; exact .inr (.inr (.inr hk))
  have inp : ∀ k ∈ p.blk, k ∈ stFp sv (L ++ p :: R) := fun k hk => by simp only [stFp, List.flatMap_append, List.flatMap_cons, List.mem_append]; exact .inr (.inr (.inl hk))
  have ins : ∀ k ∈ ob sv, k ∈ stFp sv (L ++ p :: R) := fun k hk => List.mem_append_left _ hk
  have far : ∀ k ∈ stFp sv (L ++ p :: R), k ∉ p.blk → w'.heap[k]? = w.heap[k]? := fun k hk hn => hd.kept.block k (hlt k hk) hn
  have sp : ∀ k ∈ ob sv, k ∉ p.blk := fun k hk c => n3 k hk k (List.mem_append_right _ (List.mem_append_left _ c)) rfl
  have lp : ∀ k ∈ L.flatMap Pr.blk, k ∉ p.blk := fun k hk c => m3 k hk k (List.mem_append_left _ c) rfl
  have rp : ∀ k ∈ R.flatMap Pr.blk, k ∉ p.blk := fun k hk c => q3 k c k hk rfl
  have off : ∀ k ∈ p'.blk, ∀ T : List Nat, (∀ x ∈ T, x ∉ p.blk ∧ x < w.heap.size) → k ∉ T := fun k hk T hT c => by
    rcases hd.new k hk with h1 | h1
    · exact (hT k c).1 h1
    · have := (hT k c).2; omega
  refine ⟨⟨?_, fun q hq => ?_, ?_⟩, ⟨hd.kept.os, hd.kept.tape, hd.kept.output, hd.kept.size, fun k hk hn => hd.kept.block k hk (fun c => hn (inp k c))⟩, fun k hk => ?_⟩
  · have hr := own_keep h.row (w' := w') fun k hk => far k (ins k hk) (sp k hk)
    have e : (L ++ p' :: R).flatMap Pr.cells = (L ++ p :: R).flatMap Pr.cells := by
      simp only [List.flatMap_append, List.flatMap_cons, Pr.cells, hd.eS, hd.eR]
    rw [e]
    have el : (L ++ p' :: R).length = (L ++ p :: R).length := by simp
    rw [el]
    exact hr
  · rcases List.mem_append.1 hq with hq | hq
    · exact (h.each q (by simp [hq])).frame fun k hk => far k (inL k (List.mem_flatMap.2 ⟨q, hq, hk⟩)) (lp k (List.mem_flatMap.2 ⟨q, hq, hk⟩))
    · rcases List.mem_cons.1 hq with rfl | hq
      · exact hd.ok
      · exact (h.each q (by simp [hq])).frame fun k hk => far k (inR k (List.mem_flatMap.2 ⟨q, hq, hk⟩)) (rp k (List.mem_flatMap.2 ⟨q, hq, hk⟩))
  · rw [List.flatMap_append, List.flatMap_cons]
    refine List.nodup_append.2 ⟨n1, List.nodup_append.2 ⟨m1, List.nodup_append.2 ⟨hd.ok.nd, q2, ?_⟩, ?_⟩, ?_⟩
    · intro a ha b hb e
      subst e
      exact off a ha _ (fun x hx => ⟨rp x hx, hlt x (inR x hx)⟩) hb
    · intro a ha b hb e
      subst e
      rcases List.mem_append.1 hb with hb | hb
      · exact off a hb _ (fun x hx => ⟨lp x hx, hlt x (inL x hx)⟩) ha
      · exact m3 a ha a (List.mem_append_right _ hb) rfl
    · intro a ha b hb e
      subst e
      rcases List.mem_append.1 hb with hb | hb
      · exact n3 a ha a (List.mem_append_left _ hb) rfl
      · rcases List.mem_append.1 hb with hb | hb
        · exact off a hb _ (fun x hx => ⟨sp x hx, hlt x (ins x hx)⟩) ha
        · exact n3 a ha a (List.mem_append_right _ (List.mem_append_right _ hb)) rfl
  · simp only [stFp, List.flatMap_append, List.flatMap_cons, List.mem_append] at hk
    rcases hk with hk | hk | hk | hk
    · exact .inl (ins k hk)
    · exact .inl (inL k hk)
    · rcases hd.new k hk with h1 | h1
      · exact .inl (inp k h1)
      · exact .inr h1
    · exact .inl (inR k hk)
def stPost (w : World) (base : Nat) (sv : Value) (Ps : List Pr) (e : Ending) (w' : World) : Prop :=
  e = .returned (.bool true) ∧ ∃ Ps', Ps'.length = Ps.length ∧ StIn w' base sv Ps' ∧ Kept w w' (stFp sv Ps) ∧ ∀ k ∈ stFp sv Ps', k ∈ stFp sv Ps ∨ w.heap.size ≤ k
theorem stPost_before {w w1 w' : World} {base : Nat} {sv : Value} {Ps : List Pr} {e : Ending} (hb : Below w.heap.size w w1) (h : stPost w1 base sv Ps e w') : stPost w base sv Ps e w' := by
  obtain ⟨h1, Ps', h2, h3, h4, h5⟩ := h
  exact ⟨h1, Ps', h2, h3, (Kept.of_below hb _).trans h4 (fun _ hx => .inl hx), fun k hk => (h5 k hk).imp id (fun h => Nat.le_trans hb.size h)⟩
theorem stPost_same {w w' : World} {base : Nat} {sv : Value} {Ps : List Pr} (h : StIn w base sv Ps) (hb : Below w.heap.size w w') : stPost w base sv Ps (.returned (.bool true)) w' := ⟨rfl, Ps, rfl, h.below hb, Kept.of_below hb _, fun _ hk => .inl hk⟩
theorem stPost_change {w w' : World} {base : Nat} {sv : Value} {Ps : List Pr} {p : Pr} {e : Ending} (h : StIn w base sv Ps) (hp : p ∈ Ps) (hc : chgPost w base p e w') : stPost w base sv Ps e w' := by
  obtain ⟨he, p', hd⟩ := hc
  obtain ⟨L, R, rfl⟩ := List.append_of_mem hp
  obtain ⟨h1, h2, h3⟩ := h.change hd
  exact ⟨he, _, by simp, h1, h2, h3⟩
set_option maxHeartbeats 4000000 in
set_option maxRecDepth 100000 in
theorem step_none (w : World) (A : Nat) (ao : Option Addr) (cap : Nat) (hcA : w.cell? ⟨A, 0, none⟩ = some (.slice ao 0 cap)) (k a b c d hs gs f0 f1 f2 f3 : Int) (h0 h1 g0 g1 : Int) (s : ByteArray) (x1 x2 : Option Addr) (y1 z1 y2 z2 : Nat) (hk : 5 ≤ k) (hk2 : k ≠ 11) (hk3 : k ≠ 12) :
    Calls Tryz.prog 21 #[.pointer (some ⟨A, 0, none⟩), .agg #[.int .i64 k, .int .i64 a, .int .i64 b, .int .i64 c, .int .i64 d, .string s, .int .i64 hs, .int .u8 h0, .int .u8 h1, .int .i64 gs, .int .u8 g0, .int .u8 g1, .int .i64 f0, .int .i64 f1, .int .i64 f2, .int .i64 f3, .slice x1 y1 z1, .slice x2 y2 z2]] w fun e w' => e = .returned (.bool true) ∧ Below w.heap.size w w' := by
  have hA1 := cell_old (.cells #[.int .i64 k, .int .i64 a, .int .i64 b, .int .i64 c, .int .i64 d, .string s, .int .i64 hs, .int .u8 h0, .int .u8 h1, .int .i64 gs, .int .u8 g0, .int .u8 g1, .int .i64 f0, .int .i64 f1, .int .i64 f2, .int .i64 f3, .slice x1 y1 z1, .slice x2 y2 z2] 74) hcA
  have e4 : (k == 4) = false := by simp; omega
  have e11 : (k == 11) = false := by simpa using hk2
  have e12 : (k == 12) = false := by simpa using hk3
  have l1 : 1 ≤ k := by omega
  have l3 : ¬ k ≤ 3 := by omega
  clear hk2 hk3
  go_enter Tryz.func21, Tryz.ntmps21
  go_wp2
  go_ret
  exact ⟨rfl, (Below.refl _ _).alloc (Nat.le_refl _) _⟩
structure OpN (o : OpV) : Prop where
  a : -9223372036854775808 ≤ o.a ∧ o.a ≤ 9223372036854775807
  b : (Lit.int .i64 o.b).wf = true
  nv : ∃ x y z, o.nv = .slice x y z
  iv : ∃ x y z, o.iv = .slice x y z
theorem stepSt_any (w : World) (A base : Nat) (sv : Value) (Ps : List Pr) (hcA : w.cell? ⟨A, 0, none⟩ = some sv) (hbs : base ≤ w.heap.size) (hS : StIn w base sv Ps) (hl : Ps.length ≤ 4000000000000) (o : OpV) (ho : OpN o) (h5 : 5 ≤ o.k) (h10 : o.k ≤ 10) :
    Calls Tryz.prog 21 #[.pointer (some ⟨A, 0, none⟩), o.val] w (stPost w base sv Ps) := by
  obtain ⟨x1, y1, z1, en⟩ := ho.nv
  obtain ⟨x2, y2, z2, ei⟩ := ho.iv
  have ha := ho.a
  have hb := ho.b
  clear ho
  obtain ⟨k, a, b, c, d, s, hs, h0, h1, gs, g0, g1, f0, f1, f2, f3, nv, iv⟩ := o
  simp only at h5 h10 en ei ha hb
  subst en ei
  by_cases hn : Ps.length = 0
  · obtain ⟨ao, cap, rfl⟩ := own_shape hS.row
    rw [hn] at hcA
    refine (step_none w A ao cap hcA k a b c d hs gs f0 f1 f2 f3 h0 h1 g0 g1 s x1 x2 y1 z1 y2 z2 h5 (by omega) (by omega)).mono ?_
    rintro e w' ⟨rfl, hb'⟩
    exact stPost_same hS hb'
  · have hpos : 0 < Ps.length := by omega
    have hrow := hS.row
    obtain ⟨n, hne⟩ : ∃ n, Ps.length = n + 1 := ⟨Ps.length - 1, by omega⟩
    rw [hne] at hrow
    obtain ⟨g, cap, rfl⟩ := ownsRow_succ hrow
    rw [← hne] at hcA hS ⊢
    have hm : Ps[pk a Ps.length]'(pk_lt a _ hpos) ∈ Ps := List.getElem_mem _
    have chg : ∀ w', Below w.heap.size w w' → ∀ {e w2}, chgPost w' base (Ps[pk a Ps.length]'(pk_lt a _ hpos)) e w2 → stPost w base (.slice (some ⟨g, 0, none⟩) Ps.length cap) Ps e w2 := fun w' hb' e w2 hc => stPost_before hb' (stPost_change (hS.below hb') hm hc)
    have tel : ∀ w', Below w.heap.size w w' → ∀ {e w2}, (e = .returned (.bool true) ∧ Below w'.heap.size w' w2) → stPost w base (.slice (some ⟨g, 0, none⟩) Ps.length cap) Ps e w2 := fun w' hb' e w2 hc => by
      obtain ⟨rfl, hb2⟩ := hc
      exact stPost_same hS (hb'.trans (hb2.mono hb'.size))
    have hk : k = 5 ∨ k = 6 ∨ k = 7 ∨ k = 8 ∨ k = 9 ∨ k = 10 := by omega
    rcases hk with rfl | rfl | rfl | rfl | rfl | rfl
    · exact step_5 w A base Ps.length cap g Ps rfl hpos (by omega) hS hcA a b c d hs gs f0 f1 f2 f3 h0 h1 g0 g1 s x1 x2 y1 z1 y2 z2 ha _ (fun e w' h => h.1) fun w' hb' =>
        (changes_5 w' base _ ((hS.below hb').each _ hm) (Nat.le_trans hbs hb'.size) a b c d hs gs f0 f1 f2 f3 h0 h1 g0 g1 s x1 x2 y1 z1 y2 z2 hb).mono fun e w2 hc => chg w' hb' hc
    · exact step_6 w A base Ps.length cap g Ps rfl hpos (by omega) hS hcA a b c d hs gs f0 f1 f2 f3 h0 h1 g0 g1 s x1 x2 y1 z1 y2 z2 ha _ (fun e w' h => h.1) fun w' hb' =>
        (changes_6 w' base _ ((hS.below hb').each _ hm) (Nat.le_trans hbs hb'.size) a b c d hs gs f0 f1 f2 f3 h0 h1 g0 g1 s x1 x2 y1 z1 y2 z2 hb).mono fun e w2 hc => chg w' hb' hc
    · exact step_7 w A base Ps.length cap g Ps rfl hpos (by omega) hS hcA a b c d hs gs f0 f1 f2 f3 h0 h1 g0 g1 s x1 x2 y1 z1 y2 z2 ha _ (fun e w' h => h.1) fun w' hb' =>
        (changes_7 w' base _ ((hS.below hb').each _ hm) (Nat.le_trans hbs hb'.size) a b c d hs gs f0 f1 f2 f3 h0 h1 g0 g1 s x1 x2 y1 z1 y2 z2 hb).mono fun e w2 hc => chg w' hb' hc
    · exact step_8 w A base Ps.length cap g Ps rfl hpos (by omega) hS hcA a b c d hs gs f0 f1 f2 f3 h0 h1 g0 g1 s x1 x2 y1 z1 y2 z2 ha _ (fun e w' h => h.1) fun w' hb' =>
        (tells_8 w' base _ ((hS.below hb').each _ hm) a b c d hs gs f0 f1 f2 f3 h0 h1 g0 g1 s x1 x2 y1 z1 y2 z2).mono fun e w2 hc => tel w' hb' hc
    · exact step_9 w A base Ps.length cap g Ps rfl hpos (by omega) hS hcA a b c d hs gs f0 f1 f2 f3 h0 h1 g0 g1 s x1 x2 y1 z1 y2 z2 ha _ (fun e w' h => h.1) fun w' hb' =>
        (tells_9 w' base _ ((hS.below hb').each _ hm) a b c d hs gs f0 f1 f2 f3 h0 h1 g0 g1 s x1 x2 y1 z1 y2 z2).mono fun e w2 hc => tel w' hb' hc
    · exact step_10 w A base Ps.length cap g Ps rfl hpos (by omega) hS hcA a b c d hs gs f0 f1 f2 f3 h0 h1 g0 g1 s x1 x2 y1 z1 y2 z2 ha _ (fun e w' h => h.1) fun w' hb' =>
        (tells_10 w' base _ ((hS.below hb').each _ hm) a b c d hs gs f0 f1 f2 f3 h0 h1 g0 g1 s x1 x2 y1 z1 y2 z2).mono fun e w2 hc => tel w' hb' hc
theorem stepNew_any (w : World) (A base : Nat) (sv : Value) (cs : List Value) (Ps : List Pr) (hA : w.heap[A]? = some (.cells (sv :: cs).toArray 70 (0, 0))) (hAb : A < base) (hbs : base ≤ w.heap.size) (hS : StIn w base sv Ps) (hl : Ps.length ≤ 4000000000000) (o : OpV) (ho : OpN o) (h4 : o.k = 4) :
    Calls Tryz.prog 21 #[.pointer (some ⟨A, 0, none⟩), o.val] w fun e w' => e = .returned (.bool true) ∧ ∃ sv' p, Made w w' A base sv cs Ps sv' p := by
  obtain ⟨x1, y1, z1, en⟩ := ho.nv
  obtain ⟨x2, y2, z2, ei⟩ := ho.iv
  clear ho
  obtain ⟨k, a, b, c, d, s, hs, h0, h1, gs, g0, g1, f0, f1, f2, f3, nv, iv⟩ := o
  simp only at h4 en ei
  subst en ei h4
  refine step_4 w A a b c d hs gs f0 f1 f2 f3 h0 h1 g0 g1 s x1 x2 y1 z1 y2 z2 _ (fun e w' h => h.1) fun w' hb' => ?_
  refine (made_any w' A base sv cs Ps ((hb'.block A (by omega)).trans hA) hAb (Nat.le_trans hbs hb'.size) (hS.below hb') hl).mono ?_
  rintro e w2 ⟨he, sv', p, hm⟩
  exact ⟨he, sv', p, hm.hA, hm.st, (Kept.of_below hb' _).trans hm.kept (fun _ hx => .inl hx), fun k hk => (hm.new k hk).imp id (fun h => Nat.le_trans hb'.size h)⟩
end Go.Proofs.YtogmdaopfnmobaaGreat

/- The law's world: the blocks of its lists and books lie apart from those of its stores. -/
namespace Go.Proofs.YtogmdaopfnmobaaGreat
open Go.RowKit
def HasT (w : World) (k : Nat) (t : TypeId) : Prop := ∃ cs fr, w.heap[k]? = some (.cells cs t fr)
theorem hasT_ne {w : World} {k : Nat} {t t' : TypeId} (h : HasT w k t) (h' : HasT w k t') : t = t' := by
  obtain ⟨cs, fr, h⟩ := h
  obtain ⟨cs', fr', h'⟩ := h'
  rw [h] at h'
  simp at h'
  exact h'.2.1
theorem own_hasT {w : World} {base : Nat} {e : TypeId} {sz n : Nat} {v : Value} {xs : List Value} (h : w.ownsRow base e sz v n xs) {k : Nat} (hk : k ∈ ob v) : HasT w k e := by
  rw [mem_ob] at hk
  rcases h.2 with ⟨rfl, _⟩ | ⟨g, _, _, rfl, _, hg, _⟩
  · simp [Value.ownBlock] at hk
  · simp only [Value.ownBlock, Option.some.injEq] at hk
    subst hk
    exact ⟨_, _, hg⟩
section
variable {w : World} {A base : Nat} {sv lv : Value} {m : Nat} {wv ev bv : Value} {Ws Es : List Value} {Ls : List (List Nd)} {Bs : List Bk}
theorem Inv.types (h : Inv w A base sv lv m wv ev bv Ws Es Ls Bs) : ∀ k ∈ fpOf A wv ev bv Ws Es Bs, ∃ t, HasT w k t ∧ (t = 70 ∨ t = 72 ∨ t = 119 ∨ t = 51) := by
  intro k hk
  unfold fpOf at hk
  simp only [List.mem_cons, List.mem_append, List.mem_flatMap] at hk
  rcases hk with rfl | (((((h1 | h1) | h1) | ⟨v, hv, h1⟩) | ⟨v, hv, h1⟩) | ⟨b, hb, h1⟩)
  · exact ⟨_, ⟨_, _, h.hA⟩, .inl rfl⟩
  · exact ⟨_, own_hasT h.hW h1, .inr (.inl rfl)⟩
  · exact ⟨_, own_hasT h.hE h1, .inr (.inl rfl)⟩
  · exact ⟨_, own_hasT h.hB h1, .inr (.inr (.inl rfl))⟩
  · obtain ⟨i, hi, rfl⟩ := List.getElem_of_mem hv
    exact ⟨_, own_hasT (h.owW i hi (by rw [← h.len1]; exact hi)) h1, .inr (.inr (.inr rfl))⟩
  · obtain ⟨i, hi, rfl⟩ := List.getElem_of_mem hv
    exact ⟨_, own_hasT (h.owE i hi (by rw [← h.len2]; exact hi)) h1, .inr (.inr (.inr rfl))⟩
  · obtain ⟨⟨n0, _, m0⟩, ⟨n1, _, m1⟩, ⟨n2, _, m2⟩, ⟨n3, _, m3⟩, _⟩ := h.bk b hb
    unfold Bk.blocks at h1
    simp only [List.mem_append] at h1
    rcases h1 with ((h1 | h1) | h1) | h1
    · exact ⟨_, own_hasT m0 h1, .inr (.inr (.inr rfl))⟩
    · exact ⟨_, own_hasT m1 h1, .inr (.inr (.inr rfl))⟩
    · exact ⟨_, own_hasT m2 h1, .inr (.inr (.inr rfl))⟩
    · exact ⟨_, own_hasT m3 h1, .inr (.inr (.inr rfl))⟩
end
theorem StIn.types {w : World} {base : Nat} {sv : Value} {Ps : List Pr} (h : StIn w base sv Ps) : ∀ k ∈ stFp sv Ps, (∃ es cl, w.heap[k]? = some (.map es cl)) ∨ ∃ t, HasT w k t ∧ (t = 33 ∨ t = 85 ∨ t = 3 ∨ t = 45 ∨ t = 4) := by
  intro k hk
  rcases List.mem_append.1 hk with hk | hk
  · exact .inr ⟨_, own_hasT h.row hk, .inl rfl⟩
  · obtain ⟨p, hp, hk⟩ := List.mem_flatMap.1 hk
    have ho := h.each p hp
    simp only [Pr.blk, pfp, rfp, List.mem_append, List.mem_cons] at hk
    rcases hk with (rfl | rfl | hk) | (rfl | rfl | rfl | hk)
    · exact .inr ⟨_, ⟨_, _, ho.ps.hS⟩, .inr (.inl rfl)⟩
    · obtain ⟨D, ⟨es, cl, hb, _⟩, _⟩ := ho.ps.hM
      exact .inl ⟨es, cl, hb⟩
    · exact .inr ⟨_, own_hasT ho.ps.hL hk, .inr (.inr (.inl rfl))⟩
    · exact .inr ⟨_, ⟨_, _, ho.rs.hR⟩, .inr (.inr (.inr (.inl rfl)))⟩
    · exact .inr ⟨_, ⟨_, _, ho.rs.hK⟩, .inr (.inr (.inl rfl))⟩
    · exact .inr ⟨_, ⟨_, _, ho.rs.hH⟩, .inr (.inr (.inr (.inr rfl)))⟩
    · exact .inr ⟨_, own_hasT ho.rs.hL hk, .inr (.inr (.inl rfl))⟩
theorem apart {w : World} {A base : Nat} {sv lv : Value} {m : Nat} {wv ev bv : Value} {Ws Es : List Value} {Ls : List (List Nd)} {Bs : List Bk} {Ps : List Pr} (h : Inv w A base sv lv m wv ev bv Ws Es Ls Bs) (hS : StIn w base sv Ps) : ∀ k ∈ fpOf A wv ev bv Ws Es Bs, k ∉ stFp sv Ps := by
  intro k hk c
  obtain ⟨t, ht, ht'⟩ := h.types k hk
  rcases hS.types k c with ⟨es, cl, hm⟩ | ⟨u, hu, hu'⟩
  · obtain ⟨cs, fr, hc⟩ := ht
    rw [hm] at hc; cases hc
  · have e := hasT_ne ht hu
    subst e
    rcases ht' with rfl | rfl | rfl | rfl <;> exact absurd hu' (by decide)
theorem Inv.sv {w w' : World} {A base : Nat} {sv sv' lv : Value} {m : Nat} {wv ev bv : Value} {Ws Es : List Value} {Ls : List (List Nd)} {Bs : List Bk} (h : Inv w A base sv lv m wv ev bv Ws Es Ls Bs) (hA : w'.heap[A]? = some (.cells #[sv', .int .i64 m, wv, ev, bv, lv] 70 (0, 0))) (hs : w.heap.size ≤ w'.heap.size)
    (hf : ∀ k ∈ fpOf A wv ev bv Ws Es Bs, k ≠ A → w'.heap[k]? = w.heap[k]?) : Inv w' A base sv' lv m wv ev bv Ws Es Ls Bs := by
  have hb := h.hbs
  have ne : ∀ k, base ≤ k → k ≠ A := fun k hk c => by have := h.hAb; omega
  have inW : ∀ v ∈ Ws, ∀ k ∈ ob v, base ≤ k → w'.heap[k]? = w.heap[k]? := fun v hv k hk hbk => hf k (by unfold fpOf; simp only [List.mem_cons, List.mem_append, List.mem_flatMap]; exact .inr (.inl (.inl (.inr ⟨v, hv, hk⟩)))) (ne k hbk)
  have inE : ∀ v ∈ Es, ∀ k ∈ ob v, base ≤ k → w'.heap[k]? = w.heap[k]? := fun v hv k hk hbk => hf k (by unfold fpOf; simp only [List.mem_cons, List.mem_append, List.mem_flatMap]; exact .inr (.inl (.inr ⟨v, hv, hk⟩))) (ne k hbk)
  have inB : ∀ b ∈ Bs, ∀ k ∈ b.blocks, base ≤ k → w'.heap[k]? = w.heap[k]? := fun b hb k hk hbk => hf k (by unfold fpOf; simp only [List.mem_cons, List.mem_append, List.mem_flatMap]; exact .inr (.inr ⟨b, hb, hk⟩)) (ne k hbk)
  refine ⟨hA, h.hAb, by omega, own_keep h.hW fun k hk => hf k (by simp [fpOf, hk]) (ne k (own_in h.hW k hk).1), own_keep h.hE fun k hk => hf k (by simp [fpOf, hk]) (ne k (own_in h.hE k hk).1), own_keep h.hB fun k hk => hf k (by simp [fpOf, hk]) (ne k (own_in h.hB k hk).1), h.len1, h.len2,
    fun i h1 h2 => own_keep (h.owW i h1 h2) fun k hk => inW _ (List.getElem_mem h1) k hk (own_in (h.owW i h1 h2) k hk).1, fun i h1 h2 => own_keep (h.owE i h1 h2) fun k hk => inE _ (List.getElem_mem h1) k hk (own_in (h.owE i h1 h2) k hk).1, h.d1, h.d2, h.d3, fun b hb => ?_⟩
  obtain ⟨m0, m1, m2, m3, hk⟩ := h.bk b hb
  have i := inB b hb
  unfold Bk.blocks at i
  exact ⟨marked_keep m0 fun k hk => i k (by simp [hk]) (marked_in m0 hk).1, marked_keep m1 fun k hk => i k (by simp [hk]) (marked_in m1 hk).1, marked_keep m2 fun k hk => i k (by simp [hk]) (marked_in m2 hk).1, marked_keep m3 fun k hk => i k (by simp [hk]) (marked_in m3 hk).1, hk⟩
end Go.Proofs.YtogmdaopfnmobaaGreat

/- Stores: its steps, played. -/
namespace Go.Proofs.YtogmdaopfnmobaaGreat
open Go.RowKit
theorem openN_ok (n : Nat) : ∀ o ∈ opsL n, OpN o := by
  intro o ho
  simp only [opsL, List.mem_cons, List.not_mem_nil, or_false] at ho
  rcases ho with rfl | rfl | rfl | rfl | rfl | rfl | rfl | rfl | rfl | rfl | rfl | rfl | rfl | rfl | rfl | rfl | rfl | rfl
  all_goals refine ⟨?_, ?_, ⟨_, _, _, rfl⟩, ⟨_, _, _, rfl⟩⟩
  all_goals first | decide | (show (-9223372036854775808 : Int) ≤ 0 ∧ (0 : Int) ≤ 9223372036854775807; decide) | (show (Lit.int .i64 0).wf = true; decide)
end Go.Proofs.YtogmdaopfnmobaaGreat

