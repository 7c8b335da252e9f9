/- The law's world: a step of the kinds 13 and 14. -/
import Derived.Test.YtogmdaopfnmobaaGreatA51
import Derived.Test.YtogmdaopfnmobaaGreatA53
import Derived.Test.YtogmdaopfnmobaaGreatA54
namespace Go.Proofs.YtogmdaopfnmobaaGreat
open Go.RowKit
set_option maxHeartbeats 4000000 in
set_option maxRecDepth 100000 in
theorem step_13 (w : World) (A base n cap g : Nat) (Ps : List Pr) (hn : Ps.length = n) (h0n : 0 < n) (hn2 : n ≤ 20000000000000) (hS : StIn w base (.slice (some ⟨g, 0, none⟩) n cap) Ps) (hcA : w.cell? ⟨A, 0, none⟩ = some (.slice (some ⟨g, 0, none⟩) n cap)) (a b c d hs gs f0 f1 f2 f3 : Int) (h0 h1 g0 g1 : Int) (s : ByteArray) (x1 x2 : Option Addr) (y1 z1 y2 z2 : Nat) (ha : -9223372036854775808 ≤ a ∧ a ≤ 9223372036854775807) (Q : Ending → World → Prop) (hQ : ∀ e w', Q e w' → e = .returned (.bool true))
    (K : ∀ w', Below w.heap.size w w' → Calls Tryz.prog 57 #[.pointer (some ⟨A, 0, none⟩), (Ps[pk a n]'(by rw [hn]; exact pk_lt a n h0n)).val, .agg #[.int .i64 13, .int .i64 a, .int .i64 b, .int .i64 c, .int .i64 d, .string s, .int .i64 hs, .int .u8 h0, .int .u8 h1, .int .i64 gs, .int .u8 g0, .int .u8 g1, .int .i64 f0, .int .i64 f1, .int .i64 f2, .int .i64 f3, .slice x1 y1 z1, .slice x2 y2 z2]] w' Q) :
    Calls Tryz.prog 21 #[.pointer (some ⟨A, 0, none⟩), .agg #[.int .i64 13, .int .i64 a, .int .i64 b, .int .i64 c, .int .i64 d, .string s, .int .i64 hs, .int .u8 h0, .int .u8 h1, .int .i64 gs, .int .u8 g0, .int .u8 g1, .int .i64 f0, .int .i64 f1, .int .i64 f2, .int .i64 f3, .slice x1 y1 z1, .slice x2 y2 z2]] w Q := by
  have hlt := pk_lt a n h0n
  obtain ⟨p, hp⟩ : ∃ p, p = Ps[pk a n]'(by rw [hn]; exact hlt) := ⟨_, rfl⟩
  rw [← hp] at K
  have hcc := hS.cells (pk a n) (by rw [hn]; exact hlt)
  rw [← hp] at hcc
  have HPk := fun w' => hid (pick_any a n w' h0n hn2 ha)
  clear hp hS
  generalize pk a n = i at hlt hcc HPk
  have hi0 : (0 : Int) ≤ (i : Int) := by omega
  have hin : (i : Int) < (n : Int) := by omega
  have hnz : ((n : Int) == 0) = false := by simp; omega
  have hA1 := cell_old (.cells #[.int .i64 13, .int .i64 a, .int .i64 b, .int .i64 c, .int .i64 d, .string s, .int .i64 hs, .int .u8 h0, .int .u8 h1, .int .i64 gs, .int .u8 g0, .int .u8 g1, .int .i64 f0, .int .i64 f1, .int .i64 f2, .int .i64 f3, .slice x1 y1 z1, .slice x2 y2 z2] 74) hcA
  have hc0 := cell_old (.cells #[.int .i64 13, .int .i64 a, .int .i64 b, .int .i64 c, .int .i64 d, .string s, .int .i64 hs, .int .u8 h0, .int .u8 h1, .int .i64 gs, .int .u8 g0, .int .u8 g1, .int .i64 f0, .int .i64 f1, .int .i64 f2, .int .i64 f3, .slice x1 y1 z1, .slice x2 y2 z2] 74) hcc.1
  have hc1 := cell_old (.cells #[.int .i64 13, .int .i64 a, .int .i64 b, .int .i64 c, .int .i64 d, .string s, .int .i64 hs, .int .u8 h0, .int .u8 h1, .int .i64 gs, .int .u8 g0, .int .u8 g1, .int .i64 f0, .int .i64 f1, .int .i64 f2, .int .i64 f3, .slice x1 y1 z1, .slice x2 y2 z2] 74) hcc.2
  clear hcc hcA
  have HRn := hid (range_keep (w' := ((w.alloc (.cells #[.int .i64 13, .int .i64 a, .int .i64 b, .int .i64 c, .int .i64 d, .string s, .int .i64 hs, .int .u8 h0, .int .u8 h1, .int .i64 gs, .int .u8 g0, .int .u8 g1, .int .i64 f0, .int .i64 f1, .int .i64 f2, .int .i64 f3, .slice x1 y1 z1, .slice x2 y2 z2] 74)).alloc (.cells #[.pointer (some ⟨p.S, 0, none⟩), .pointer (some ⟨p.R, 0, none⟩)] 33)).drew) (range_new w 74 [.int .i64 13, .int .i64 a, .int .i64 b, .int .i64 c, .int .i64 d, .string s, .int .i64 hs, .int .u8 h0, .int .u8 h1, .int .i64 gs, .int .u8 g0, .int .u8 g1, .int .i64 f0, .int .i64 f1, .int .i64 f2, .int .i64 f3, .slice x1 y1 z1, .slice x2 y2 z2]) (Below.heap_alloc (w.alloc (.cells #[.int .i64 13, .int .i64 a, .int .i64 b, .int .i64 c, .int .i64 d, .string s, .int .i64 hs, .int .u8 h0, .int .u8 h1, .int .i64 gs, .int .u8 g0, .int .u8 g1, .int .i64 f0, .int .i64 f1, .int .i64 f2, .int .i64 f3, .slice x1 y1 z1, .slice x2 y2 z2] 74)) _ _ (by simp)))
  have HK := hid (K (((w.alloc (.cells #[.int .i64 13, .int .i64 a, .int .i64 b, .int .i64 c, .int .i64 d, .string s, .int .i64 hs, .int .u8 h0, .int .u8 h1, .int .i64 gs, .int .u8 g0, .int .u8 g1, .int .i64 f0, .int .i64 f1, .int .i64 f2, .int .i64 f3, .slice x1 y1 z1, .slice x2 y2 z2] 74)).alloc (.cells #[.pointer (some ⟨p.S, 0, none⟩), .pointer (some ⟨p.R, 0, none⟩)] 33)).drew) (((Below.refl _ _).alloc (Nat.le_refl _) _).alloc (by simp) _).drew)
  clear K
  unfold Pr.val at HK
  go_enter Tryz.func21, Tryz.ntmps21
  go_wp2
  go_region_held3 (fun w' => (w'.cell? ⟨A, 0, none⟩ = some (.slice (some ⟨g, 0, none⟩) n cap) ∧ w'.cell? ⟨w.heap.size, 1, none⟩ = some (.int .i64 a)) ∧ w'.cell? ⟨g, i * 2, none⟩ = some (.pointer (some ⟨p.S, 0, none⟩)) ∧ w'.cell? ⟨g, i * 2 + 1, none⟩ = some (.pointer (some ⟨p.R, 0, none⟩)))
    (go_keep)
    ((go_at_call 54; refine (HPk _).out.mono ?_; rintro e w2 ⟨rfl, hw2⟩; rw [hw2]; clear hw2 w2))
  all_goals clear hA1 hc0 hc1
  all_goals go_wp2_with (refine wpList_load_mid rfl 74 _ rfl w.heap.size 0 rfl [.int .i64 13, .int .i64 a, .int .i64 b, .int .i64 c, .int .i64 d, .string s, .int .i64 hs, .int .u8 h0, .int .u8 h1, .int .i64 gs, .int .u8 g0, .int .u8 g1, .int .i64 f0, .int .i64 f1, .int .i64 f2, .int .i64 f3, .slice x1 y1 z1, .slice x2 y2 z2] _ HRn.out Tryz.underlying74 rfl size_op ?_)
  all_goals go_wp2_with fail
  all_goals refine HK.out.mono ?_
  all_goals intro e w1 hp
  all_goals obtain rfl := hQ e w1 hp
  all_goals have fin := hid hp
  all_goals clear hp hQ HK HRn
  all_goals go_wp2
  all_goals exact fin.out
set_option maxHeartbeats 4000000 in
set_option maxRecDepth 100000 in
theorem step_14 (w : World) (A base n cap g : Nat) (Ps : List Pr) (hn : Ps.length = n) (h0n : 0 < n) (hn2 : n ≤ 20000000000000) (hS : StIn w base (.slice (some ⟨g, 0, none⟩) n cap) Ps) (hcA : w.cell? ⟨A, 0, none⟩ = some (.slice (some ⟨g, 0, none⟩) n cap)) (a b c d hs gs f0 f1 f2 f3 : Int) (h0 h1 g0 g1 : Int) (s : ByteArray) (x1 x2 : Option Addr) (y1 z1 y2 z2 : Nat) (ha : -9223372036854775808 ≤ a ∧ a ≤ 9223372036854775807) (Q : Ending → World → Prop) (hQ : ∀ e w', Q e w' → e = .returned (.bool true))
    (K : ∀ w', Below w.heap.size w w' → Calls Tryz.prog 57 #[.pointer (some ⟨A, 0, none⟩), (Ps[pk a n]'(by rw [hn]; exact pk_lt a n h0n)).val, .agg #[.int .i64 14, .int .i64 a, .int .i64 b, .int .i64 c, .int .i64 d, .string s, .int .i64 hs, .int .u8 h0, .int .u8 h1, .int .i64 gs, .int .u8 g0, .int .u8 g1, .int .i64 f0, .int .i64 f1, .int .i64 f2, .int .i64 f3, .slice x1 y1 z1, .slice x2 y2 z2]] w' Q) :
    Calls Tryz.prog 21 #[.pointer (some ⟨A, 0, none⟩), .agg #[.int .i64 14, .int .i64 a, .int .i64 b, .int .i64 c, .int .i64 d, .string s, .int .i64 hs, .int .u8 h0, .int .u8 h1, .int .i64 gs, .int .u8 g0, .int .u8 g1, .int .i64 f0, .int .i64 f1, .int .i64 f2, .int .i64 f3, .slice x1 y1 z1, .slice x2 y2 z2]] w Q := by
  have hlt := pk_lt a n h0n
  obtain ⟨p, hp⟩ : ∃ p, p = Ps[pk a n]'(by rw [hn]; exact hlt) := ⟨_, rfl⟩
  rw [← hp] at K
  have hcc := hS.cells (pk a n) (by rw [hn]; exact hlt)
  rw [← hp] at hcc
  have HPk := fun w' => hid (pick_any a n w' h0n hn2 ha)
  clear hp hS
  generalize pk a n = i at hlt hcc HPk
  have hi0 : (0 : Int) ≤ (i : Int) := by omega
  have hin : (i : Int) < (n : Int) := by omega
  have hnz : ((n : Int) == 0) = false := by simp; omega
  have hA1 := cell_old (.cells #[.int .i64 14, .int .i64 a, .int .i64 b, .int .i64 c, .int .i64 d, .string s, .int .i64 hs, .int .u8 h0, .int .u8 h1, .int .i64 gs, .int .u8 g0, .int .u8 g1, .int .i64 f0, .int .i64 f1, .int .i64 f2, .int .i64 f3, .slice x1 y1 z1, .slice x2 y2 z2] 74) hcA
  have hc0 := cell_old (.cells #[.int .i64 14, .int .i64 a, .int .i64 b, .int .i64 c, .int .i64 d, .string s, .int .i64 hs, .int .u8 h0, .int .u8 h1, .int .i64 gs, .int .u8 g0, .int .u8 g1, .int .i64 f0, .int .i64 f1, .int .i64 f2, .int .i64 f3, .slice x1 y1 z1, .slice x2 y2 z2] 74) hcc.1
  have hc1 := cell_old (.cells #[.int .i64 14, .int .i64 a, .int .i64 b, .int .i64 c, .int .i64 d, .string s, .int .i64 hs, .int .u8 h0, .int .u8 h1, .int .i64 gs, .int .u8 g0, .int .u8 g1, .int .i64 f0, .int .i64 f1, .int .i64 f2, .int .i64 f3, .slice x1 y1 z1, .slice x2 y2 z2] 74) hcc.2
  clear hcc hcA
  have HRn := hid (range_keep (w' := ((w.alloc (.cells #[.int .i64 14, .int .i64 a, .int .i64 b, .int .i64 c, .int .i64 d, .string s, .int .i64 hs, .int .u8 h0, .int .u8 h1, .int .i64 gs, .int .u8 g0, .int .u8 g1, .int .i64 f0, .int .i64 f1, .int .i64 f2, .int .i64 f3, .slice x1 y1 z1, .slice x2 y2 z2] 74)).alloc (.cells #[.pointer (some ⟨p.S, 0, none⟩), .pointer (some ⟨p.R, 0, none⟩)] 33)).drew) (range_new w 74 [.int .i64 14, .int .i64 a, .int .i64 b, .int .i64 c, .int .i64 d, .string s, .int .i64 hs, .int .u8 h0, .int .u8 h1, .int .i64 gs, .int .u8 g0, .int .u8 g1, .int .i64 f0, .int .i64 f1, .int .i64 f2, .int .i64 f3, .slice x1 y1 z1, .slice x2 y2 z2]) (Below.heap_alloc (w.alloc (.cells #[.int .i64 14, .int .i64 a, .int .i64 b, .int .i64 c, .int .i64 d, .string s, .int .i64 hs, .int .u8 h0, .int .u8 h1, .int .i64 gs, .int .u8 g0, .int .u8 g1, .int .i64 f0, .int .i64 f1, .int .i64 f2, .int .i64 f3, .slice x1 y1 z1, .slice x2 y2 z2] 74)) _ _ (by simp)))
  have HK := hid (K (((w.alloc (.cells #[.int .i64 14, .int .i64 a, .int .i64 b, .int .i64 c, .int .i64 d, .string s, .int .i64 hs, .int .u8 h0, .int .u8 h1, .int .i64 gs, .int .u8 g0, .int .u8 g1, .int .i64 f0, .int .i64 f1, .int .i64 f2, .int .i64 f3, .slice x1 y1 z1, .slice x2 y2 z2] 74)).alloc (.cells #[.pointer (some ⟨p.S, 0, none⟩), .pointer (some ⟨p.R, 0, none⟩)] 33)).drew) (((Below.refl _ _).alloc (Nat.le_refl _) _).alloc (by simp) _).drew)
  clear K
  unfold Pr.val at HK
  go_enter Tryz.func21, Tryz.ntmps21
  go_wp2
  go_region_held3 (fun w' => (w'.cell? ⟨A, 0, none⟩ = some (.slice (some ⟨g, 0, none⟩) n cap) ∧ w'.cell? ⟨w.heap.size, 1, none⟩ = some (.int .i64 a)) ∧ w'.cell? ⟨g, i * 2, none⟩ = some (.pointer (some ⟨p.S, 0, none⟩)) ∧ w'.cell? ⟨g, i * 2 + 1, none⟩ = some (.pointer (some ⟨p.R, 0, none⟩)))
    (go_keep)
    ((go_at_call 54; refine (HPk _).out.mono ?_; rintro e w2 ⟨rfl, hw2⟩; rw [hw2]; clear hw2 w2))
  all_goals clear hA1 hc0 hc1
  all_goals go_wp2_with (refine wpList_load_mid rfl 74 _ rfl w.heap.size 0 rfl [.int .i64 14, .int .i64 a, .int .i64 b, .int .i64 c, .int .i64 d, .string s, .int .i64 hs, .int .u8 h0, .int .u8 h1, .int .i64 gs, .int .u8 g0, .int .u8 g1, .int .i64 f0, .int .i64 f1, .int .i64 f2, .int .i64 f3, .slice x1 y1 z1, .slice x2 y2 z2] _ HRn.out Tryz.underlying74 rfl size_op ?_)
  all_goals go_wp2_with fail
  all_goals refine HK.out.mono ?_
  all_goals intro e w1 hp
  all_goals obtain rfl := hQ e w1 hp
  all_goals have fin := hid hp
  all_goals clear hp hQ HK HRn
  all_goals go_wp2
  all_goals exact fin.out
end Go.Proofs.YtogmdaopfnmobaaGreat

/- All: a step of the kinds 13 and 14, whatever the stores. -/
namespace Go.Proofs.YtogmdaopfnmobaaGreat
open Go.RowKit
def OpI (w : World) (fp : List Nat) (o : OpV) : Prop := o.iv = .slice none 0 0 ∨ ∃ (ad : Addr) (cap : Nat) (l : List Int), o.iv = .slice (some ad) l.length cap ∧ l.length ≤ 1048576 ∧ ∀ w', Kept w w' fp → Cells1 w' w'.heap.size (.slice (some ad) l.length cap) (l.map (.int .i64))
theorem ex14_before {w w1 w' : World} {A base : Nat} {sv : Value} {m : Nat} {wv ev bv lv : Value} {LB : List Ib} {e : Ending} (hb : Below w.heap.size w w1) (h : ex14Post w1 A base sv m wv ev bv lv LB e w') : ex14Post w A base sv m wv ev bv lv LB e w' := by
  obtain ⟨h1, h2, lv', v, n, h3, h4, h5, h6⟩ := h
  exact ⟨h1, (Kept.of_below hb _).trans h2 (fun _ hx => .inl hx), lv', v, n, h3, h4, fun k hk => (h5 k hk).imp id (fun h => Nat.le_trans hb.size h), fun k hk => Nat.le_trans hb.size (h6 k hk)⟩
theorem stepEx_any (w : World) (A base : Nat) (sv : Value) (m : Nat) (wv ev bv lv : Value) (Ps : List Pr) (LB : List Ib) (hA : WdAt w A sv m wv ev bv lv) (hAb : A < base) (hbs : base ≤ w.heap.size) (hS : StIn w base sv Ps) (hL : Lnt w base lv LB) (hl : Ps.length ≤ 4000000000000) (hm : m ≤ 20000000) (hbl : LB.length ≤ 20000000)
    (o : OpV) (ho : OpN o) (hz : o.s.size ≤ maxLen) (hi : OpI w (A :: ob lv) o) (hk : o.k = 13 ∨ o.k = 14) :
    Calls Tryz.prog 21 #[.pointer (some ⟨A, 0, none⟩), o.val] w fun e w' => e = .returned (.bool true) ∧ (Below w.heap.size w w' ∨ ex14Post w A base sv m wv ev bv lv LB e w') := by
  have hcA : w.cell? ⟨A, 0, none⟩ = some sv := by rw [cell_of_row w A _ _ _ _ hA]; rfl
  obtain ⟨x1, y1, z1, en⟩ := ho.nv
  obtain ⟨x2, y2, z2, ei⟩ := ho.iv
  have ha := ho.a
  clear ho
  obtain ⟨k, a, b, c, d, s, hs, h0, h1, gs, g0, g1, f0, f1, f2, f3, nv, iv⟩ := o
  simp only [OpI] at hi
  simp only at en ei ha hz hk
  subst en ei
  by_cases hn : Ps.length = 0
  · obtain ⟨ao, cap, rfl⟩ := own_shape hS.row
    rw [hn] at hcA
    refine (step_none w A ao cap hcA k a b c d hs gs f0 f1 f2 f3 h0 h1 g0 g1 s x1 x2 y1 z1 y2 z2 (by omega) (by omega) (by omega)).mono ?_
    rintro e w' ⟨rfl, hb'⟩
    exact ⟨rfl, .inl hb'⟩
  · have hpos : 0 < Ps.length := by omega
    have hrow := hS.row
    obtain ⟨n, hne⟩ : ∃ n, Ps.length = n + 1 := ⟨Ps.length - 1, by omega⟩
    rw [hne] at hrow
    obtain ⟨g, cap, rfl⟩ := ownsRow_succ hrow
    rw [← hne] at hcA hS hA ⊢
    have hmem : Ps[pk a Ps.length]'(pk_lt a _ hpos) ∈ Ps := List.getElem_mem _
    rcases hk with rfl | rfl
    · refine step_13 w A base Ps.length cap g Ps rfl hpos (by omega) hS hcA a b c d hs gs f0 f1 f2 f3 h0 h1 g0 g1 s x1 x2 y1 z1 y2 z2 ha _ (fun e w' h => h.1) fun w' hb' => ?_
      refine (extracts_13 w' A base _ ((hS.below hb').each _ hmem) a b c d hs gs f0 f1 f2 f3 h0 h1 g0 g1 s x1 x2 y1 z1 y2 z2 hz).mono ?_
      rintro e w2 ⟨rfl, hb2⟩
      exact ⟨rfl, .inl (hb'.trans (hb2.mono hb'.size))⟩
    · refine step_14 w A base Ps.length cap g Ps rfl hpos (by omega) hS hcA a b c d hs gs f0 f1 f2 f3 h0 h1 g0 g1 s x1 x2 y1 z1 y2 z2 ha _ (fun e w' h => h.1) fun w' hb' => ?_
      rcases hi with hi | ⟨ad, cp, l, hi, hll, hc⟩
      · simp only [Value.slice.injEq] at hi
        obtain ⟨rfl, rfl, rfl⟩ := hi
        refine (extracts_14n w' A base _ ((hS.below hb').each _ hmem) a b c d hs gs f0 f1 f2 f3 h0 h1 g0 g1 s x1 y1 z1 hz).mono ?_
        rintro e w2 ⟨rfl, hb2⟩
        exact ⟨rfl, .inl (hb'.trans (hb2.mono hb'.size))⟩
      · simp only [Value.slice.injEq] at hi
        obtain ⟨rfl, rfl, rfl⟩ := hi
        refine (extracts_14 w' A base _ ((hS.below hb').each _ hmem) a b c d hs gs f0 f1 f2 f3 h0 h1 g0 g1 s x1 y1 z1 hz ad z2 l _ m wv ev bv lv LB ((hb'.block A hA.lt).trans hA) hAb (Nat.le_trans hbs hb'.size) (hL.below hb') (fun w'' hk' => hc w'' ((Kept.of_below hb' _).trans hk' (fun _ hx => .inl hx))) hll hm hbl).mono ?_
        intro e w2 h
        exact ⟨h.1, .inr (ex14_before hb' h)⟩
end Go.Proofs.YtogmdaopfnmobaaGreat

/- All: its steps, played. -/
namespace Go.Proofs.YtogmdaopfnmobaaGreat
open Go.RowKit
section
variable {w : World} {A base : Nat} {sv lv : Value} {m : Nat} {wv ev bv : Value} {Ws Es : List Value} {Ls : List (List Nd)} {Bs : List Bk}
theorem Lnt.types {LB : List Ib} (h : Lnt w base lv LB) : ∀ k ∈ lnFp lv LB, ∃ t, HasT w k t ∧ (t = 122 ∨ t = 3) := by
  intro k hk
  rcases List.mem_append.1 hk with hk | hk
  · exact ⟨_, own_hasT h.row hk, .inl rfl⟩
  · obtain ⟨b, hb, hk⟩ := List.mem_flatMap.1 hk
    obtain ⟨n, _, ho⟩ := h.each b hb
    exact ⟨_, own_hasT ho hk, .inr rfl⟩
theorem apartL {LB : List Ib} (h : Inv w A base sv lv m wv ev bv Ws Es Ls Bs) (hL : Lnt w base lv LB) : ∀ k ∈ fpOf A wv ev bv Ws Es Bs, k ∉ lnFp lv LB := by
  intro k hk c
  obtain ⟨t, ht, ht'⟩ := h.types k hk
  obtain ⟨u, hu, hu'⟩ := hL.types k c
  have e := hasT_ne ht hu
  subst e
  rcases ht' with rfl | rfl | rfl | rfl <;> exact absurd hu' (by decide)
theorem Inv.world {w' : World} {sv' lv' : Value} {m' : Nat} (h : Inv w A base sv lv m wv ev bv Ws Es Ls Bs) (hA : w'.heap[A]? = some (.cells #[sv', .int .i64 m', wv, ev, bv, lv'] 70 (0, 0))) (hs : w.heap.size ≤ w'.heap.size)
    (hf : ∀ k ∈ fpOf A wv ev bv Ws Es Bs, k ≠ A → w'.heap[k]? = w.heap[k]?) : Inv w' A base sv' lv' m' wv ev bv Ws Es Ls Bs := by
  have hb := h.hbs
  have ne : ∀ k, base ≤ k → k ≠ A := fun k hk c => by have := h.hAb; omega
  have inW : ∀ v ∈ Ws, ∀ k ∈ ob v, base ≤ k → w'.heap[k]? = w.heap[k]? := fun v hv k hk hbk => hf k (by unfold fpOf; simp only [List.mem_cons, List.mem_append, List.mem_flatMap]; exact .inr (.inl (.inl (.inr ⟨v, hv, hk⟩)))) (ne k hbk)
  have inE : ∀ v ∈ Es, ∀ k ∈ ob v, base ≤ k → w'.heap[k]? = w.heap[k]? := fun v hv k hk hbk => hf k (by unfold fpOf; simp only [List.mem_cons, List.mem_append, List.mem_flatMap]; exact .inr (.inl (.inr ⟨v, hv, hk⟩))) (ne k hbk)
  have inB : ∀ b ∈ Bs, ∀ k ∈ b.blocks, base ≤ k → w'.heap[k]? = w.heap[k]? := fun b hb k hk hbk => hf k (by unfold fpOf; simp only [List.mem_cons, List.mem_append, List.mem_flatMap]; exact .inr (.inr ⟨b, hb, hk⟩)) (ne k hbk)
  refine ⟨hA, h.hAb, by omega, own_keep h.hW fun k hk => hf k (by simp [fpOf, hk]) (ne k (own_in h.hW k hk).1), own_keep h.hE fun k hk => hf k (by simp [fpOf, hk]) (ne k (own_in h.hE k hk).1), own_keep h.hB fun k hk => hf k (by simp [fpOf, hk]) (ne k (own_in h.hB k hk).1), h.len1, h.len2,
    fun i h1 h2 => own_keep (h.owW i h1 h2) fun k hk => inW _ (List.getElem_mem h1) k hk (own_in (h.owW i h1 h2) k hk).1, fun i h1 h2 => own_keep (h.owE i h1 h2) fun k hk => inE _ (List.getElem_mem h1) k hk (own_in (h.owE i h1 h2) k hk).1, h.d1, h.d2, h.d3, fun b hb => ?_⟩
  obtain ⟨m0, m1, m2, m3, hk⟩ := h.bk b hb
  have i := inB b hb
  unfold Bk.blocks at i
  exact ⟨marked_keep m0 fun k hk => i k (by simp [hk]) (marked_in m0 hk).1, marked_keep m1 fun k hk => i k (by simp [hk]) (marked_in m1 hk).1, marked_keep m2 fun k hk => i k (by simp [hk]) (marked_in m2 hk).1, marked_keep m3 fun k hk => i k (by simp [hk]) (marked_in m3 hk).1, hk⟩
end
structure OpA (w2 : World) (A : Nat) (o : OpV) : Prop where
  ok : o.k ≤ 3 → 1 ≤ o.k → OpOk w2 [A] o
  n : OpN o
  c : OpC o
  i : OpI w2 [A] o
theorem OpI.later {w2 w : World} {A : Nat} {o : OpV} {fp : List Nat} (h : OpI w2 [A] o) (hk : Kept w2 w [A]) (hf : ∀ x ∈ fp, x ∈ [A] ∨ w2.heap.size ≤ x) : OpI w fp o := by
  rcases h with e | ⟨ad, cap, l, e, hl, hN⟩
  · exact .inl e
  · exact .inr ⟨ad, cap, l, e, hl, fun w' hk' => hN w' (hk.trans hk' hf)⟩
def AJ (A : Nat) (w2 : World) (k : Nat) (w : World) : Prop :=
  Kept w2 w [A] ∧ ∃ m wv ev bv Ws Es Ls Bs sv Ps lv LB, Inv w A w2.heap.size sv lv m wv ev bv Ws Es Ls Bs ∧ StIn w w2.heap.size sv Ps ∧ Lnt w w2.heap.size lv LB ∧ (∀ x ∈ lnFp lv LB, x ∉ stFp sv Ps) ∧ m + Ws.length ≤ 3 * k ∧ Bs.length + Ws.length ≤ 3 * k ∧ (∀ l ∈ Ls, l.length ≤ 2000000) ∧ Ps.length ≤ k ∧ LB.length ≤ k
theorem all_plan (A : Nat) (w2 : World) (T : List OpV) (N : Nat) (hN : N ≤ 2000000) (hT : ∀ o ∈ T, OpA w2 A o) : Plan A 1 14 T N w2 (AJ A w2) := by
  have far : ∀ {w sv Ps}, StIn w w2.heap.size sv Ps → ∀ x ∈ stFp sv Ps, x ∈ [A] ∨ w2.heap.size ≤ x := fun h x hx => .inr (h.fp x hx).1
  have low : ∀ {k w}, AJ A w2 k w → AJ A w2 (k + 1) w := fun ⟨hK, m, wv, ev, bv, Ws, Es, Ls, Bs, sv, Ps, lv, LB, hI, hS, hL, hD, hm, hb, hl, hp, hq⟩ =>
    ⟨hK, m, wv, ev, bv, Ws, Es, Ls, Bs, sv, Ps, lv, LB, hI, hS, hL, hD, by omega, by omega, hl, by omega, by omega⟩
  have bel : ∀ {k w w'}, AJ A w2 k w → Below w.heap.size w w' → AJ A w2 k w' := fun ⟨hK, m, wv, ev, bv, Ws, Es, Ls, Bs, sv, Ps, lv, LB, hI, hS, hL, hD, hm, hb, hl, hp, hq⟩ hb' =>
    ⟨hK.trans (Kept.of_below hb' []) (by simp), m, wv, ev, bv, Ws, Es, Ls, Bs, sv, Ps, lv, LB, hI.below hb', hS.below hb', hL.below hb', hD, hm, hb, hl, hp, hq⟩
  refine ⟨?_, ?_, ?_, ?_, ?_, ?_⟩
  · intro k w o hk ho h1 h3 hJ
    have hJ0 := hJ
    obtain ⟨hK, m, wv, ev, bv, Ws, Es, Ls, Bs, sv, Ps, lv, LB, hI, hS, hL, hD, hm, hb, hl, hp, hq⟩ := hJ
    have hoA := hT o ho
    have lnin : ∀ x ∈ lnFp lv LB, w2.heap.size ≤ x ∧ x < w.heap.size := fun x hx => hL.fp x hx
    have hAb := hI.hAb
    by_cases c3 : o.k ≤ 3
    · refine (step_any w A _ sv lv m wv ev bv Ws Es Ls Bs hI o h1 c3 ((hoA.ok c3 h1).later hK (fp_far hI)) (by omega) (by omega) (by omega)).mono ?_
      rintro e w' ⟨he, hk', m', wv', ev', bv', Ws', Es', Ls', Bs', hI', hm', hb', hw', hl'⟩
      exact ⟨he, hK.trans hk' (fp_far hI), m', wv', ev', bv', Ws', Es', Ls', Bs', sv, Ps, lv, LB, hI', hS.frame fun x hx => hk'.block x (hS.fp x hx).2 (fun c => apart hI hS x c hx), hL.frame fun x hx => hk'.block x (hL.fp x hx).2 (fun c => apartL hI hL x c hx), hD, by omega, by omega, fun l hx => (hl' l hx).elim (hl l) id, by omega, by omega⟩
    by_cases c4 : o.k = 4
    · refine (stepNew_any w A _ sv [.int .i64 m, wv, ev, bv, lv] Ps hI.hA hI.hAb hI.hbs hS (by omega) o hoA.n c4).mono ?_
      rintro e w' ⟨he, sv', p, hmd⟩
      refine ⟨he, hK.trans hmd.kept (fun x hx => ?_), m, wv, ev, bv, Ws, Es, Ls, Bs, sv', Ps ++ [p], lv, LB, hI.sv hmd.hA hmd.kept.size (fun x hx hne => ?_), hmd.st, hL.frame fun x hx => ?_, fun x hx c => ?_, by omega, by omega, hl, by simp; omega, by omega⟩
      · rcases List.mem_cons.1 hx with rfl | hx
        · exact .inl (by simp)
        · exact far hS x (List.mem_append_left _ hx)
      · refine hmd.kept.block x (hI.fp x hx).2 (fun c => ?_)
        rcases List.mem_cons.1 c with rfl | c
        · exact hne rfl
        · exact apart hI hS x hx (List.mem_append_left _ c)
      · refine hmd.kept.block x (lnin x hx).2 (fun c => ?_)
        rcases List.mem_cons.1 c with rfl | c
        · have := (lnin x hx).1; omega
        · exact hD x hx (List.mem_append_left _ c)
      · rcases hmd.new x c with c | c
        · exact hD x hx c
        · have := (lnin x hx).2; omega
    by_cases c10 : o.k ≤ 10
    · refine (stepSt_any w A _ sv Ps hI.cells.1.1 hI.hbs hS (by omega) o hoA.n (by omega) c10).mono ?_
      rintro e w' ⟨he, Ps', hl', hS', hk', hnew⟩
      exact ⟨he, hK.trans hk' (far hS), m, wv, ev, bv, Ws, Es, Ls, Bs, sv, Ps', lv, LB, hI.frame hk'.size (fun x hx => hk'.block x (hI.fp x hx).2 (apart hI hS x hx)), hS', hL.frame fun x hx => hk'.block x (lnin x hx).2 (hD x hx), fun x hx c => by
        rcases hnew x c with c | c
        · exact hD x hx c
        · have := (lnin x hx).2; omega, by omega, by omega, hl, by omega, by omega⟩
    by_cases c12 : o.k ≤ 12
    · refine (stepCk_any w A o hoA.c (by omega) c12).mono ?_
      rintro e w' ⟨he, hb'⟩
      exact ⟨he, low (bel hJ0 hb')⟩
    · refine (stepEx_any w A _ sv m wv ev bv lv Ps LB hI.hA hI.hAb hI.hbs hS hL (by omega) (by omega) (by omega) o hoA.n hoA.c.sz (hoA.i.later hK (fun x hx => ?_)) (by omega)).mono ?_
      · rcases List.mem_cons.1 hx with rfl | hx
        · exact .inl (by simp)
        · exact .inr (lnin x (List.mem_append_left _ hx)).1
      rintro e w' ⟨he, hb' | ⟨_, hk', lv', v, n, hA', hL', hn', hv'⟩⟩
      · exact ⟨he, low (bel hJ0 hb')⟩
      · refine ⟨he, hK.trans hk' (fun x hx => ?_), m + 1, wv, ev, bv, Ws, Es, Ls, Bs, sv, Ps, lv', LB ++ [⟨n, v⟩], hI.world hA' hk'.size (fun x hx hne => hk'.block x (hI.fp x hx).2 (fun c => ?_)), hS.frame fun x hx => hk'.block x (hS.fp x hx).2 (fun c => ?_), hL', fun x hx c => ?_, by omega, by omega, hl, by omega, by simp; omega⟩
        · rcases List.mem_cons.1 hx with rfl | hx
          · exact .inl (by simp)
          · exact .inr (lnin x (List.mem_append_left _ hx)).1
        · rcases List.mem_cons.1 c with rfl | c
          · exact hne rfl
          · exact apartL hI hL x hx (List.mem_append_left _ c)
        · rcases List.mem_cons.1 c with rfl | c
          · have := (hS.fp x hx).1; omega
          · exact hD x (List.mem_append_left _ c) hx
        · have hlt := (hS.fp x c).2
          rcases List.mem_append.1 hx with hx | hx
          · rcases hn' x hx with hx | hx
            · exact hD x (List.mem_append_left _ hx) c
            · omega
          · rw [List.flatMap_append] at hx
            rcases List.mem_append.1 hx with hx | hx
            · exact hD x (List.mem_append_right _ hx) c
            · simp at hx
              have := hv' x hx
              omega
  · rintro k w hk ⟨hK, m, wv, ev, bv, Ws, Es, Ls, Bs, sv, Ps, lv, LB, hI, hS, hL, hD, hm, hb, hl, hp, hq⟩
    refine (settle_any w A _ _ _ m wv ev bv Ws Es Ls Bs hI hl (by omega) (by omega)).mono ?_
    rintro e w' ⟨he, hk', bv', m', Bs', hm', hb', hI'⟩
    exact ⟨he, hK.trans hk' (fp_far hI), m', _, _, bv', [], [], [], Bs', sv, Ps, lv, LB, hI', hS.frame fun x hx => hk'.block x (hS.fp x hx).2 (fun c => apart hI hS x c hx), hL.frame fun x hx => hk'.block x (hL.fp x hx).2 (fun c => apartL hI hL x c hx), hD, by simp; omega, by simp; omega, by simp, hp, hq⟩
  · intro k w hk hJ
    have hJ0 := hJ
    obtain ⟨hK, m, wv, ev, bv, Ws, Es, Ls, Bs, sv, Ps, lv, LB, hI, hS, hL, hD, hm, hb, hl, hp, hq⟩ := hJ
    refine (looksL_any w A _ sv lv m wv ev bv Ws Es Ls Bs LB hI hL (by omega) (by omega)).mono ?_
    rintro e w' ⟨he, hb'⟩
    exact ⟨he, bel hJ0 hb'⟩
  · exact fun k w h => low h
  · exact fun k w w' h hb' => bel h hb'
  · exact fun k w h => h.1
theorem all_start (w w2 : World) (h : Opened (w.alloc (.cells worldC 70)) w2) : AJ w.heap.size w2 0 w2 := by
  have hA : w2.heap[w.heap.size]? = some (.cells worldC 70 (0, 0)) := by
    rw [h.below.block _ (by simp)]
    exact heap_new _ _ _ _ rfl
  have hs := h.size
  simp at hs
  refine ⟨Kept.refl _ _, 0, .slice none 0 0, .slice none 0 0, .slice none 0 0, [], [], [], [], .slice none 0 0, [], .slice none 0 0, [], ⟨hA, by omega, Nat.le_refl _, World.ownsRow_nil _ _ _ _, World.ownsRow_nil _ _ _ _, World.ownsRow_nil _ _ _ _, rfl, rfl, ?_, ?_, ?_, ?_, ?_, ?_⟩, StIn.nil _ _, Lnt.nil _ _, ?_, by simp, by simp, by simp, by simp, by simp⟩
  · intro i h1; simp at h1
  · intro i h1; simp at h1
  · intro k hk; simp [ob, Value.ownBlock] at hk
  · simp
  · simp
  · intro b hb; simp at hb
  · intro x hx; simp [lnFp, ob, Value.ownBlock] at hx
theorem openI_ok (n A : Nat) (w2 : World) : ∀ o ∈ opsL n, OpI w2 [A] o := by
  intro o ho
  simp only [opsL, List.mem_cons, List.not_mem_nil, or_false] at ho
  rcases ho with rfl | rfl | rfl | rfl | rfl | rfl | rfl | rfl | rfl | rfl | rfl | rfl | rfl | rfl | rfl | rfl | rfl | rfl
  all_goals exact .inl rfl
theorem all_run (w : World) (v : Value) (S : List OpV) (hS : Steps w w.heap.size v S) (hn : S.length + 18 ≤ 2000000) (hok : ∀ o ∈ S, ∀ w2, Below w.heap.size w w2 → OpA w2 w.heap.size o) :
    Calls Tryz.prog 8 #[v, .int .i64 1, .int .i64 14] w fun e w' => e = .returned (.bool true) ∧ Below w.heap.size w w' := by
  refine plays_gen w 1 14 v S hS (fun w2 => AJ w.heap.size w2) fun w2 hO => ⟨all_start w w2 hO, all_plan _ _ _ _ hn fun o ho => ?_⟩
  rcases List.mem_append.1 ho with ho | ho
  · exact ⟨fun h3 h1 => open_ok w w2 hO o ho h1 h3, openN_ok _ o ho, openC_ok _ o ho, openI_ok _ _ _ o ho⟩
  · exact hok o ho w2 (((Below.refl _ _).alloc (Nat.le_refl _) _).trans (hO.below.mono (by simp)))
set_option maxHeartbeats 1000000 in
theorem all_law (w : World) (v : Value) (S : List OpV) (hS : Steps w w.heap.size v S) (hn : S.length + 18 ≤ 2000000) (hok : ∀ o ∈ S, ∀ w2, Below w.heap.size w w2 → OpA w2 w.heap.size o) :
    Calls Tryz.prog 7 #[v] w fun e w' => e = .returned (.bool true) ∧ Below w.heap.size w w' := by
  obtain ⟨ao, cap, rfl, _, _⟩ := hS.ex
  have HS := hid hS
  have HK := hid hok
  clear hS hok
  go_enter Tryz.func7, Tryz.ntmps7
  go_wp2_with fail
  refine (all_run w _ S HS.out hn HK.out).mono ?_
  rintro e w1 ⟨rfl, hb⟩
  have fin := hid hb
  clear hb HS HK
  go_wp2
  go_ret
  exact ⟨rfl, fin.out⟩
end Go.Proofs.YtogmdaopfnmobaaGreat

