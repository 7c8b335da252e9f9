/- The law's world: a step of the kinds New, and of a store. -/
import Derived.Test.YtogmdaopfnmobaaGreatP47
import Derived.Test.YtogmdaopfnmobaaGreatP19
namespace Go.Proofs.YtogmdaopfnmobaaGreat
open Go.RowKit

/-- Which of n things a number speaks of. -/
def pk (c : Int) (n : Nat) : Nat := ((if c < 0 then -(c + 1) else c) % n).toNat
theorem pk_lt (c : Int) (n : Nat) (h : 0 < n) : pk c n < n := by
  unfold pk
  have h1 := Int.emod_nonneg (if c < 0 then -(c + 1) else c) (b := (n : Int)) (by omega)
  have h2 := Int.emod_lt_of_pos (if c < 0 then -(c + 1) else c) (b := (n : Int)) (by omega)
  omega
theorem ret_int {k : IntKind} {a b : Int} (h : a = b) : Ending.returned (.int k a) = .returned (.int k b) := by rw [h]
set_option maxHeartbeats 1000000 in
theorem pick_any (c : Int) (n : Nat) (w : World) (hn : 0 < n) (hn2 : n ≤ 20000000) (hc : -9223372036854775808 ≤ c ∧ c ≤ 9223372036854775807) : Calls Tryz.prog 54 #[.int .i64 c, .int .i64 n] w fun e w' => e = .returned (.int .i64 (pk c n : Nat)) ∧ w' = w := by
  have h1 := Int.emod_nonneg (if c < 0 then -(c + 1) else c) (b := (n : Int)) (by omega)
  have HE : Hid (((pk c n : Nat) : Int) = (if c < 0 then -(c + 1) else c) % n) := hid (by unfold pk; omega)
  have hn0 : (n : Int) ≠ 0 := by omega
  have hn1 : (1 : Int) ≤ n := by omega
  clear h1
  by_cases h0 : c < 0
  · have hd : (0 : Int) ≤ -(c + 1) := by omega
    rw [if_pos h0] at HE
    have w1 : IntKind.i64.wrap (c + 1) = c + 1 := by rw [IntKind.wrap_i64]; omega
    have w2 : IntKind.i64.wrap (-(c + 1)) = -(c + 1) := by rw [IntKind.wrap_i64]; omega
    have HM := hid (Int.tmod_eq_emod_of_nonneg (b := (n : Int)) hd)
    have hm1 := Int.emod_nonneg (-(c + 1)) hn0
    have hm2 := Int.emod_lt_of_pos (-(c + 1)) (b := (n : Int)) (by omega)
    go_enter Tryz.func54, Tryz.ntmps54
    go_wp2
    go_ret
    exact ⟨ret_int (by rw [HE.out, ← HM.out, Int.neg_tmod]), rfl⟩
  · rw [if_neg h0] at HE
    have HM := hid (Int.tmod_eq_emod_of_nonneg (a := c) (b := (n : Int)) (by omega))
    have hm1 := Int.emod_nonneg c hn0
    have hm2 := Int.emod_lt_of_pos c (b := (n : Int)) (by omega)
    go_enter Tryz.func54, Tryz.ntmps54
    go_wp2
    go_ret
    exact ⟨ret_int (by rw [HE.out]), rfl⟩

theorem prs_get (L : List Pr) : ∀ (i j : Nat) (hi : i < L.length) (_ : j < 2), (L.flatMap Pr.cells)[i * 2 + j]? = (L[i]).cells[j]? := by
  induction L with
  | nil => intro i j hi; simp at hi
  | cons d r ih =>
    intro i j hi hj
    have hd : d.cells.length = 2 := rfl
    cases i with
    | zero =>
      simp only [List.flatMap_cons, Nat.zero_mul, Nat.zero_add, List.getElem_cons_zero]
      rw [List.getElem?_append_left (by omega)]
    | succ i =>
      simp only [List.flatMap_cons, List.getElem_cons_succ]
      rw [List.getElem?_append_right (by omega), hd, show (i + 1) * 2 + j - 2 = i * 2 + j from by omega]
      exact ih i j (by simpa using hi) hj
theorem StIn.cells {w : World} {base : Nat} {g cap n : Nat} {Ps : List Pr} (h : StIn w base (.slice (some ⟨g, 0, none⟩) n cap) Ps) (i : Nat) (hi : i < Ps.length) : w.cell? ⟨g, i * 2, none⟩ = some (.pointer (some ⟨(Ps[i]).S, 0, none⟩)) ∧ w.cell? ⟨g, i * 2 + 1, none⟩ = some (.pointer (some ⟨(Ps[i]).R, 0, none⟩)) := by
  have hg : ∀ j u, (Ps[i]).cells[j]? = some u → j < 2 → w.cell? ⟨g, i * 2 + j, none⟩ = some u := fun j u hu hj => by
    have := h.row.cells (g := g) rfl (i * 2 + j) u (by rw [prs_get Ps i j hi hj]; exact hu)
    rw [Addr.add_mid] at this
    simpa using this
  exact ⟨hg 0 _ rfl (by omega), hg 1 _ rfl (by omega)⟩

set_option maxHeartbeats 4000000 in
set_option maxRecDepth 100000 in
theorem step_4 (w : World) (A : Nat) (a b c d hs gs f0 f1 f2 f3 : Int) (h0 h1 g0 g1 : Int) (s : ByteArray) (x1 x2 : Option Addr) (y1 z1 y2 z2 : Nat) (Q : Ending → World → Prop) (hQ : ∀ e w', Q e w' → e = .returned (.bool true))
    (K : ∀ w', Below w.heap.size w w' → Calls Tryz.prog 52 #[.pointer (some ⟨A, 0, none⟩)] w' Q) :
    Calls Tryz.prog 21 #[.pointer (some ⟨A, 0, none⟩), .agg #[.int .i64 4, .int .i64 a, .int .i64 b, .int .i64 c, .int .i64 d, .string s, .int .i64 hs, .int .u8 h0, .int .u8 h1, .int .i64 gs, .int .u8 g0, .int .u8 g1, .int .i64 f0, .int .i64 f1, .int .i64 f2, .int .i64 f3, .slice x1 y1 z1, .slice x2 y2 z2]] w Q := by
  go_enter Tryz.func21, Tryz.ntmps21
  go_wp2_with fail
  refine (K _ ((Below.refl _ _).alloc (Nat.le_refl _) _)).mono ?_
  intro e w1 hp
  obtain rfl := hQ e w1 hp
  have fin := hid hp
  clear hp hQ K
  go_wp2
  exact fin.out

set_option maxHeartbeats 4000000 in
set_option maxRecDepth 100000 in
theorem step_5 (w : World) (A base n cap g : Nat) (Ps : List Pr) (hn : Ps.length = n) (h0n : 0 < n) (hn2 : n ≤ 20000000) (hS : StIn w base (.slice (some ⟨g, 0, none⟩) n cap) Ps) (hcA : w.cell? ⟨A, 0, none⟩ = some (.slice (some ⟨g, 0, none⟩) n cap)) (a b c d hs gs f0 f1 f2 f3 : Int) (h0 h1 g0 g1 : Int) (s : ByteArray) (x1 x2 : Option Addr) (y1 z1 y2 z2 : Nat) (ha : -9223372036854775808 ≤ a ∧ a ≤ 9223372036854775807) (Q : Ending → World → Prop) (hQ : ∀ e w', Q e w' → e = .returned (.bool true))
    (K : ∀ w', Below w.heap.size w w' → Calls Tryz.prog 55 #[(Ps[pk a n]'(by rw [hn]; exact pk_lt a n h0n)).val, .agg #[.int .i64 5, .int .i64 a, .int .i64 b, .int .i64 c, .int .i64 d, .string s, .int .i64 hs, .int .u8 h0, .int .u8 h1, .int .i64 gs, .int .u8 g0, .int .u8 g1, .int .i64 f0, .int .i64 f1, .int .i64 f2, .int .i64 f3, .slice x1 y1 z1, .slice x2 y2 z2]] w' Q) :
    Calls Tryz.prog 21 #[.pointer (some ⟨A, 0, none⟩), .agg #[.int .i64 5, .int .i64 a, .int .i64 b, .int .i64 c, .int .i64 d, .string s, .int .i64 hs, .int .u8 h0, .int .u8 h1, .int .i64 gs, .int .u8 g0, .int .u8 g1, .int .i64 f0, .int .i64 f1, .int .i64 f2, .int .i64 f3, .slice x1 y1 z1, .slice x2 y2 z2]] w Q := by
  have hlt := pk_lt a n h0n
  obtain ⟨p, hp⟩ : ∃ p, p = Ps[pk a n]'(by rw [hn]; exact hlt) := ⟨_, rfl⟩
  rw [← hp] at K
  have hcc := hS.cells (pk a n) (by rw [hn]; exact hlt)
  rw [← hp] at hcc
  have HPk := fun w' => hid (pick_any a n w' h0n hn2 ha)
  clear hp hS
  generalize pk a n = i at hlt hcc HPk
  have hi0 : (0 : Int) ≤ (i : Int) := by omega
  have hin : (i : Int) < (n : Int) := by omega
  have hnz : ((n : Int) == 0) = false := by simp; omega
  have hA1 := cell_old (.cells #[.int .i64 5, .int .i64 a, .int .i64 b, .int .i64 c, .int .i64 d, .string s, .int .i64 hs, .int .u8 h0, .int .u8 h1, .int .i64 gs, .int .u8 g0, .int .u8 g1, .int .i64 f0, .int .i64 f1, .int .i64 f2, .int .i64 f3, .slice x1 y1 z1, .slice x2 y2 z2] 74) hcA
  have hc0 := cell_old (.cells #[.int .i64 5, .int .i64 a, .int .i64 b, .int .i64 c, .int .i64 d, .string s, .int .i64 hs, .int .u8 h0, .int .u8 h1, .int .i64 gs, .int .u8 g0, .int .u8 g1, .int .i64 f0, .int .i64 f1, .int .i64 f2, .int .i64 f3, .slice x1 y1 z1, .slice x2 y2 z2] 74) hcc.1
  have hc1 := cell_old (.cells #[.int .i64 5, .int .i64 a, .int .i64 b, .int .i64 c, .int .i64 d, .string s, .int .i64 hs, .int .u8 h0, .int .u8 h1, .int .i64 gs, .int .u8 g0, .int .u8 g1, .int .i64 f0, .int .i64 f1, .int .i64 f2, .int .i64 f3, .slice x1 y1 z1, .slice x2 y2 z2] 74) hcc.2
  clear hcc hcA
  have HRn := hid (range_keep (w' := ((w.alloc (.cells #[.int .i64 5, .int .i64 a, .int .i64 b, .int .i64 c, .int .i64 d, .string s, .int .i64 hs, .int .u8 h0, .int .u8 h1, .int .i64 gs, .int .u8 g0, .int .u8 g1, .int .i64 f0, .int .i64 f1, .int .i64 f2, .int .i64 f3, .slice x1 y1 z1, .slice x2 y2 z2] 74)).alloc (.cells #[.pointer (some ⟨p.S, 0, none⟩), .pointer (some ⟨p.R, 0, none⟩)] 33)).drew) (range_new w 74 [.int .i64 5, .int .i64 a, .int .i64 b, .int .i64 c, .int .i64 d, .string s, .int .i64 hs, .int .u8 h0, .int .u8 h1, .int .i64 gs, .int .u8 g0, .int .u8 g1, .int .i64 f0, .int .i64 f1, .int .i64 f2, .int .i64 f3, .slice x1 y1 z1, .slice x2 y2 z2]) (Below.heap_alloc (w.alloc (.cells #[.int .i64 5, .int .i64 a, .int .i64 b, .int .i64 c, .int .i64 d, .string s, .int .i64 hs, .int .u8 h0, .int .u8 h1, .int .i64 gs, .int .u8 g0, .int .u8 g1, .int .i64 f0, .int .i64 f1, .int .i64 f2, .int .i64 f3, .slice x1 y1 z1, .slice x2 y2 z2] 74)) _ _ (by simp)))
  have HK := hid (K (((w.alloc (.cells #[.int .i64 5, .int .i64 a, .int .i64 b, .int .i64 c, .int .i64 d, .string s, .int .i64 hs, .int .u8 h0, .int .u8 h1, .int .i64 gs, .int .u8 g0, .int .u8 g1, .int .i64 f0, .int .i64 f1, .int .i64 f2, .int .i64 f3, .slice x1 y1 z1, .slice x2 y2 z2] 74)).alloc (.cells #[.pointer (some ⟨p.S, 0, none⟩), .pointer (some ⟨p.R, 0, none⟩)] 33)).drew) (((Below.refl _ _).alloc (Nat.le_refl _) _).alloc (by simp) _).drew)
  clear K
  unfold Pr.val at HK
  go_enter Tryz.func21, Tryz.ntmps21
  go_wp2
  go_region_held3 (fun w' => (w'.cell? ⟨A, 0, none⟩ = some (.slice (some ⟨g, 0, none⟩) n cap) ∧ w'.cell? ⟨w.heap.size, 1, none⟩ = some (.int .i64 a)) ∧ w'.cell? ⟨g, i * 2, none⟩ = some (.pointer (some ⟨p.S, 0, none⟩)) ∧ w'.cell? ⟨g, i * 2 + 1, none⟩ = some (.pointer (some ⟨p.R, 0, none⟩)))
    (go_keep)
    ((go_at_call 54; refine (HPk _).out.mono ?_; rintro e w2 ⟨rfl, hw2⟩; rw [hw2]; clear hw2 w2))
  all_goals clear hA1 hc0 hc1
  all_goals go_wp2_with (refine wpList_load_mid rfl 74 _ rfl w.heap.size 0 rfl [.int .i64 5, .int .i64 a, .int .i64 b, .int .i64 c, .int .i64 d, .string s, .int .i64 hs, .int .u8 h0, .int .u8 h1, .int .i64 gs, .int .u8 g0, .int .u8 g1, .int .i64 f0, .int .i64 f1, .int .i64 f2, .int .i64 f3, .slice x1 y1 z1, .slice x2 y2 z2] _ HRn.out Tryz.underlying74 rfl size_op ?_)
  all_goals go_wp2_with fail
  all_goals refine HK.out.mono ?_
  all_goals intro e w1 hp
  all_goals obtain rfl := hQ e w1 hp
  all_goals have fin := hid hp
  all_goals clear hp hQ HK HRn
  all_goals go_wp2
  all_goals exact fin.out


end Go.Proofs.YtogmdaopfnmobaaGreat

