/- The law's world: a step of the kinds 13 and 14: extracts. -/
import Derived.Test.YtogmdaopfnmobaaGreatA49
import Derived.Test.YtogmdaopfnmobaaGreatA50
import Derived.Test.YtogmdaopfnmobaaGreatA40
namespace Go.Proofs.YtogmdaopfnmobaaGreat
open Go.RowKit Go.Maps
set_option maxHeartbeats 4000000 in
set_option maxRecDepth 100000 in
theorem extracts_13 (w : World) (A base : Nat) (p : Pr) (hp : PrOk w base p) (a b c d hs gs f0 f1 f2 f3 : Int) (h0 h1 g0 g1 : Int) (s : ByteArray) (x1 x2 : Option Addr) (y1 z1 y2 z2 : Nat) (hz : s.size ≤ maxLen) :
    Calls Tryz.prog 57 #[.pointer (some ⟨A, 0, none⟩), p.val, .agg #[.int .i64 13, .int .i64 a, .int .i64 b, .int .i64 c, .int .i64 d, .string s, .int .i64 hs, .int .u8 h0, .int .u8 h1, .int .i64 gs, .int .u8 g0, .int .u8 g1, .int .i64 f0, .int .i64 f1, .int .i64 f2, .int .i64 f3, .slice x1 y1 z1, .slice x2 y2 z2]] w fun e w' => e = .returned (.bool true) ∧ Below w.heap.size w w' := by
  obtain ⟨W1, hW1⟩ : ∃ W, W = (w.alloc (.cells #[.pointer (some ⟨p.S, 0, none⟩), .pointer (some ⟨p.R, 0, none⟩)] 33)).alloc (.cells #[.int .i64 13, .int .i64 a, .int .i64 b, .int .i64 c, .int .i64 d, .string s, .int .i64 hs, .int .u8 h0, .int .u8 h1, .int .i64 gs, .int .u8 g0, .int .u8 g1, .int .i64 f0, .int .i64 f1, .int .i64 f2, .int .i64 f3, .slice x1 y1 z1, .slice x2 y2 z2] 74) := ⟨_, rfl⟩
  have hB1 : Below w.heap.size w W1 := hW1 ▸ ((Below.refl _ _).alloc (Nat.le_refl _) _).alloc (by simp) _
  have hs1 : W1.heap.size = w.heap.size + 2 := by rw [hW1]; simp
  have HC : Hid (∀ W2, Below W1.heap.size W1 W2 → (W2.cell? ⟨w.heap.size, 1, none⟩ = some (.pointer (some ⟨p.R, 0, none⟩)) ∧ W2.cell? ⟨w.heap.size + 1, 2, none⟩ = some (.int .i64 b) ∧ W2.cell? ⟨w.heap.size + 1, 3, none⟩ = some (.int .i64 c) ∧ W2.cell? ⟨w.heap.size + 1, 4, none⟩ = some (.int .i64 d) ∧ W2.cell? ⟨w.heap.size + 1, 5, none⟩ = some (.string s) ∧ W2.cell? ⟨w.heap.size + 1, 12, none⟩ = some (.int .i64 f0) ∧ W2.cell? ⟨w.heap.size + 1, 13, none⟩ = some (.int .i64 f1) ∧ W2.cell? ⟨w.heap.size + 1, 14, none⟩ = some (.int .i64 f2) ∧ W2.cell? ⟨w.heap.size + 1, 15, none⟩ = some (.int .i64 f3)) ∧ Below w.heap.size w W2) := hid fun W2 hb => by
    have hpr : W2.heap[w.heap.size]? = some (.cells #[.pointer (some ⟨p.S, 0, none⟩), .pointer (some ⟨p.R, 0, none⟩)] 33 (0, 0)) := (hb.block w.heap.size (by omega)).trans (hW1 ▸ heap_two w (.cells #[.pointer (some ⟨p.S, 0, none⟩), .pointer (some ⟨p.R, 0, none⟩)] 33) _ _ rfl)
    have hop := (hb.block (w.heap.size + 1) (by omega)).trans (hW1 ▸ heap_one (w.alloc (.cells #[.pointer (some ⟨p.S, 0, none⟩), .pointer (some ⟨p.R, 0, none⟩)] 33)) (.cells #[.int .i64 13, .int .i64 a, .int .i64 b, .int .i64 c, .int .i64 d, .string s, .int .i64 hs, .int .u8 h0, .int .u8 h1, .int .i64 gs, .int .u8 g0, .int .u8 g1, .int .i64 f0, .int .i64 f1, .int .i64 f2, .int .i64 f3, .slice x1 y1 z1, .slice x2 y2 z2] 74) (w.heap.size + 1) (by simp))
    refine ⟨⟨?_, ?_, ?_, ?_, ?_, ?_, ?_, ?_, ?_⟩, hB1.trans (hb.mono (by omega))⟩
    · rw [cell_of_row W2 _ _ _ _ _ hpr]; rfl
    all_goals (rw [cell_of_row W2 _ _ _ _ _ hop]; rfl)
  obtain ⟨XA, XB, X, hex⟩ := exE_any W1 base p (hp.below hB1) b c d f0 f1 f2 f3 s hz
  have HP := hid (hex.ours W1 (Below.refl _ _))
  have HR : ∀ W2, Hid (Below W1.heap.size W1 W2 → Calls Tryz.prog 103 _ W2 _) := fun W2 => hid (hex.docs W2)
  clear hp hB1 hex
  unfold Pr.val
  go_enter Tryz.func57, Tryz.ntmps57
  go_wp2_with fail
  rw [← hW1]
  clear hW1
  refine HP.out.mono ?_
  rintro e W2 ⟨rfl, hb2⟩
  have HB2 := hid hb2
  obtain ⟨hc2, _⟩ := HC.out W2 hb2
  have hz2 : w.heap.size + 2 ≤ W2.heap.size := by have := hb2.size; omega
  clear hb2 HP
  go_wp2_with fail
  refine ((HR W2).out HB2.out).mono ?_
  rintro e W3 ⟨pv, rfl, hb3, ⟨q1, q2, q3, rfl⟩, hcl⟩
  have HCL := hid hcl
  have HB3 := hid (HB2.out.trans (hb3.mono HB2.out.size))
  clear hb3 hcl HR HB2 hc2
  go_wp2_with fail
  refine HCL.out.mono ?_
  rintro e W4 ⟨rfl, hb4⟩
  have HBf := hid (HC.out W4 (HB3.out.trans (hb4.mono HB3.out.size))).2
  clear hb4 HCL HB3 HC
  go_wp2
  go_ret
  exact ⟨rfl, HBf.out⟩
set_option maxHeartbeats 4000000 in
set_option maxRecDepth 100000 in
theorem extracts_14n (w : World) (A base : Nat) (p : Pr) (hp : PrOk w base p) (a b c d hs gs f0 f1 f2 f3 : Int) (h0 h1 g0 g1 : Int) (s : ByteArray) (x1 : Option Addr) (y1 z1 : Nat) (hz : s.size ≤ maxLen) :
    Calls Tryz.prog 57 #[.pointer (some ⟨A, 0, none⟩), p.val, .agg #[.int .i64 14, .int .i64 a, .int .i64 b, .int .i64 c, .int .i64 d, .string s, .int .i64 hs, .int .u8 h0, .int .u8 h1, .int .i64 gs, .int .u8 g0, .int .u8 g1, .int .i64 f0, .int .i64 f1, .int .i64 f2, .int .i64 f3, .slice x1 y1 z1, .slice none 0 0]] w fun e w' => e = .returned (.bool true) ∧ Below w.heap.size w w' := by
  obtain ⟨W1, hW1⟩ : ∃ W, W = (w.alloc (.cells #[.pointer (some ⟨p.S, 0, none⟩), .pointer (some ⟨p.R, 0, none⟩)] 33)).alloc (.cells #[.int .i64 14, .int .i64 a, .int .i64 b, .int .i64 c, .int .i64 d, .string s, .int .i64 hs, .int .u8 h0, .int .u8 h1, .int .i64 gs, .int .u8 g0, .int .u8 g1, .int .i64 f0, .int .i64 f1, .int .i64 f2, .int .i64 f3, .slice x1 y1 z1, .slice none 0 0] 74) := ⟨_, rfl⟩
  have hB1 : Below w.heap.size w W1 := hW1 ▸ ((Below.refl _ _).alloc (Nat.le_refl _) _).alloc (by simp) _
  have hs1 : W1.heap.size = w.heap.size + 2 := by rw [hW1]; simp
  have HC : Hid (∀ W2, Kept W1 W2 [] → (W2.cell? ⟨w.heap.size, 0, none⟩ = some (.pointer (some ⟨p.S, 0, none⟩)) ∧ W2.cell? ⟨w.heap.size, 1, none⟩ = some (.pointer (some ⟨p.R, 0, none⟩)) ∧ W2.cell? ⟨w.heap.size + 1, 5, none⟩ = some (.string s) ∧ W2.cell? ⟨w.heap.size + 1, 17, none⟩ = some (.slice none 0 0)) ∧ w.heap.size + 2 ≤ W2.heap.size) := hid fun W2 hb => by
    have hpr : W2.heap[w.heap.size]? = some (.cells #[.pointer (some ⟨p.S, 0, none⟩), .pointer (some ⟨p.R, 0, none⟩)] 33 (0, 0)) := (hb.block w.heap.size (by omega) (by simp)).trans (hW1 ▸ heap_two w (.cells #[.pointer (some ⟨p.S, 0, none⟩), .pointer (some ⟨p.R, 0, none⟩)] 33) _ _ rfl)
    have hop := (hb.block (w.heap.size + 1) (by omega) (by simp)).trans (hW1 ▸ heap_one (w.alloc (.cells #[.pointer (some ⟨p.S, 0, none⟩), .pointer (some ⟨p.R, 0, none⟩)] 33)) (.cells #[.int .i64 14, .int .i64 a, .int .i64 b, .int .i64 c, .int .i64 d, .string s, .int .i64 hs, .int .u8 h0, .int .u8 h1, .int .i64 gs, .int .u8 g0, .int .u8 g1, .int .i64 f0, .int .i64 f1, .int .i64 f2, .int .i64 f3, .slice x1 y1 z1, .slice none 0 0] 74) (w.heap.size + 1) (by simp))
    refine ⟨⟨?_, ?_, ?_, ?_⟩, by have := hb.size; omega⟩
    · rw [cell_of_row W2 _ _ _ _ _ hpr]; rfl
    · rw [cell_of_row W2 _ _ _ _ _ hpr]; rfl
    all_goals (rw [cell_of_row W2 _ _ _ _ _ hop]; rfl)
  have hnil : ∀ W2 : World, Cells1 W2 W2.heap.size (.slice none 0 0) (([] : List Int).map (.int .i64)) := fun W2 => ⟨none, 0, rfl, fun i hi => by simp at hi⟩
  obtain ⟨XA, XB, X, hex, _⟩ := exB_any W1 base p (hp.below hB1) (.slice none 0 0) [] s (hnil W1) (by simp) hz
  have HLt : ∀ W2, Hid (Calls Tryz.prog 104 #[.slice none 0 0] W2 fun e W3 => e = .returned (.slice none 0 0) ∧ W3 = W2) := fun W2 => hid ((lentInts_any none 0 [] W2 (hnil W2) (by simp)).mono (by
    rintro e W3 (⟨_, he, hw⟩ | ⟨h, _⟩)
    · exact ⟨he, hw⟩
    · exact absurd rfl h))
  have HP := hid (hex.ours W1 (.slice none 0 0) (Below.refl _ _) (hnil W1))
  have HR : ∀ W2, Hid (Below W1.heap.size W1 W2 → Calls Tryz.prog 12 _ W2 _) := fun W2 => hid (hex.docs W2)
  have HB1 := hid hB1
  clear hp hB1 hex hnil
  unfold Pr.val
  go_enter Tryz.func57, Tryz.ntmps57
  go_wp2_with fail
  rw [← hW1]
  clear hW1
  obtain ⟨hc1, hz1'⟩ := HC.out W1 (Kept.refl _ _)
  refine (HLt W1).out.mono ?_
  rintro e W1' ⟨rfl, hw1⟩
  rw [hw1]
  clear hw1 W1' HLt
  go_wp2_with fail
  refine HP.out.mono ?_
  rintro e W2 ⟨rfl, hb2⟩
  have HB2 := hid hb2
  clear hc1 hz1'
  obtain ⟨hc2, hz2⟩ := HC.out W2 (Kept.of_below hb2 _)
  clear hb2 HP
  go_wp2_with fail
  refine ((HR W2).out HB2.out).mono ?_
  rintro e W3 ⟨pv, rfl, hb3, ⟨q1, q2, q3, rfl⟩, _, hcl⟩
  have HCL := hid (hcl W3 (fun _ _ => rfl))
  have HB3 := hid (HB2.out.trans (hb3.mono HB2.out.size))
  clear hb3 hcl HR HB2 hc2 hz2
  obtain ⟨hc3, hz3⟩ := HC.out W3 (Kept.of_below HB3.out _)
  go_wp2_with fail
  refine (wholeI_nil A _ W3).mono ?_
  rintro e W3' ⟨rfl, hw3⟩
  rw [hw3]
  clear hw3 W3' hc3 hz3
  go_wp2_with fail
  refine HCL.out.mono ?_
  rintro e W4 ⟨rfl, hb4⟩
  have HBf := hid (HB1.out.trans ((HB3.out.trans (hb4.mono HB3.out.size)).mono HB1.out.size))
  clear hb4 HCL HB3 HC HB1
  go_wp2
  go_ret
  exact ⟨rfl, HBf.out⟩
def ex14Post (w : World) (A base : Nat) (sv : Value) (m : Nat) (wv ev bv lv : Value) (LB : List Ib) (e : Ending) (w' : World) : Prop :=
  e = .returned (.bool true) ∧ Kept w w' (A :: ob lv) ∧ ∃ lv' v n, WdAt w' A sv ((m + 1 : Nat) : Int) wv ev bv lv' ∧ Lnt w' base lv' (LB ++ [⟨n, v⟩]) ∧ (∀ k ∈ ob lv', k ∈ ob lv ∨ w.heap.size ≤ k) ∧ ∀ k ∈ ob v, w.heap.size ≤ k
set_option maxHeartbeats 4000000 in
set_option maxRecDepth 100000 in
theorem extracts_14 (w : World) (A base : Nat) (p : Pr) (hp : PrOk w base p) (a b c d hs gs f0 f1 f2 f3 : Int) (h0 h1 g0 g1 : Int) (s : ByteArray) (x1 : Option Addr) (y1 z1 : Nat) (hz : s.size ≤ maxLen) (ad : Addr) (z2 : Nat) (l : List Int)
    (sv : Value) (m : Nat) (wv ev bv lv : Value) (LB : List Ib) (hA : WdAt w A sv m wv ev bv lv) (hAb : A < base) (hbs : base ≤ w.heap.size) (hL : Lnt w base lv LB) (hl : ∀ w', Kept w w' (A :: ob lv) → Cells1 w' w'.heap.size (.slice (some ad) l.length z2) (l.map (.int .i64))) (hlen : l.length ≤ 1048576) (hm : m ≤ 20000000) (hbl : LB.length ≤ 20000000) :
    Calls Tryz.prog 57 #[.pointer (some ⟨A, 0, none⟩), p.val, .agg #[.int .i64 14, .int .i64 a, .int .i64 b, .int .i64 c, .int .i64 d, .string s, .int .i64 hs, .int .u8 h0, .int .u8 h1, .int .i64 gs, .int .u8 g0, .int .u8 g1, .int .i64 f0, .int .i64 f1, .int .i64 f2, .int .i64 f3, .slice x1 y1 z1, .slice (some ad) l.length z2]] w (ex14Post w A base sv m wv ev bv lv LB) := by
  have hAl := hA.lt
  have hlvl : ∀ k ∈ ob lv, k < w.heap.size := fun k hk => (own_in hL.row k hk).2
  obtain ⟨W1, hW1⟩ : ∃ W, W = (w.alloc (.cells #[.pointer (some ⟨p.S, 0, none⟩), .pointer (some ⟨p.R, 0, none⟩)] 33)).alloc (.cells #[.int .i64 14, .int .i64 a, .int .i64 b, .int .i64 c, .int .i64 d, .string s, .int .i64 hs, .int .u8 h0, .int .u8 h1, .int .i64 gs, .int .u8 g0, .int .u8 g1, .int .i64 f0, .int .i64 f1, .int .i64 f2, .int .i64 f3, .slice x1 y1 z1, .slice (some ad) l.length z2] 74) := ⟨_, rfl⟩
  have hB1 : Below w.heap.size w W1 := hW1 ▸ ((Below.refl _ _).alloc (Nat.le_refl _) _).alloc (by simp) _
  have hs1 : W1.heap.size = w.heap.size + 2 := by rw [hW1]; simp
  have HC : Hid (∀ W2, Kept W1 W2 (A :: ob lv) → (W2.cell? ⟨w.heap.size, 0, none⟩ = some (.pointer (some ⟨p.S, 0, none⟩)) ∧ W2.cell? ⟨w.heap.size, 1, none⟩ = some (.pointer (some ⟨p.R, 0, none⟩)) ∧ W2.cell? ⟨w.heap.size + 1, 5, none⟩ = some (.string s) ∧ W2.cell? ⟨w.heap.size + 1, 17, none⟩ = some (.slice (some ad) l.length z2)) ∧ w.heap.size + 2 ≤ W2.heap.size) := hid fun W2 hb => by
    have hpr : W2.heap[w.heap.size]? = some (.cells #[.pointer (some ⟨p.S, 0, none⟩), .pointer (some ⟨p.R, 0, none⟩)] 33 (0, 0)) := (hb.block w.heap.size (by omega) (by intro c; rcases List.mem_cons.1 c with c | c; omega; exact absurd (hlvl _ c) (by omega))).trans (hW1 ▸ heap_two w (.cells #[.pointer (some ⟨p.S, 0, none⟩), .pointer (some ⟨p.R, 0, none⟩)] 33) _ _ rfl)
    have hop := (hb.block (w.heap.size + 1) (by omega) (by intro c; rcases List.mem_cons.1 c with c | c; omega; exact absurd (hlvl _ c) (by omega))).trans (hW1 ▸ heap_one (w.alloc (.cells #[.pointer (some ⟨p.S, 0, none⟩), .pointer (some ⟨p.R, 0, none⟩)] 33)) (.cells #[.int .i64 14, .int .i64 a, .int .i64 b, .int .i64 c, .int .i64 d, .string s, .int .i64 hs, .int .u8 h0, .int .u8 h1, .int .i64 gs, .int .u8 g0, .int .u8 g1, .int .i64 f0, .int .i64 f1, .int .i64 f2, .int .i64 f3, .slice x1 y1 z1, .slice (some ad) l.length z2] 74) (w.heap.size + 1) (by simp))
    refine ⟨⟨?_, ?_, ?_, ?_⟩, by have := hb.size; omega⟩
    · rw [cell_of_row W2 _ _ _ _ _ hpr]; rfl
    · rw [cell_of_row W2 _ _ _ _ _ hpr]; rfl
    all_goals (rw [cell_of_row W2 _ _ _ _ _ hop]; rfl)
  have HCe : Hid (∀ W2, Kept W1 W2 (A :: ob lv) → Cells1 W2 W2.heap.size (.slice (some ad) l.length z2) (l.map (.int .i64))) := hid fun W2 hk => hl W2 ((Kept.of_below hB1 _).trans hk (fun x hx => .inl hx))
  obtain ⟨XA, XB, X, hex, _⟩ := exB_any W1 base p (hp.below hB1) (.slice (some ad) l.length z2) l s (HCe.out W1 (Kept.refl _ _)) (by omega) hz
  have HLt := hid (lentInts_any (some ad) z2 l W1 (HCe.out W1 (Kept.refl _ _)) hlen)
  have HEX := hid hex
  have HW := hid (And.intro hA hL)
  have HB1 := hid hB1
  clear hp hB1 hex hl hA hL
  unfold Pr.val
  go_enter Tryz.func57, Tryz.ntmps57
  go_wp2_with fail
  rw [← hW1]
  clear hW1
  obtain ⟨hc1, hz1'⟩ := HC.out W1 (Kept.refl _ _)
  refine HLt.out.mono ?_
  rintro e W2 (⟨hno, _⟩ | ⟨_, g, rfl, hg, hrow, hb2⟩)
  · cases hno
  have HB2 := hid hb2
  have HRow := hid hrow
  have HCl : Hid (Cells1 W2 W2.heap.size (.slice (some ⟨g, 0, none⟩) l.length (l.length + 8)) (l.map (.int .i64))) := hid (by
    have h8 := hrow.cells1 (l.length + 8)
    have := h8.take l.length (by simp)
    rw [← List.map_take, List.take_left' rfl] at this
    exact this)
  clear hc1 hz1' hb2 hrow HLt
  obtain ⟨hc2, hz2⟩ := HC.out W2 (Kept.of_below HB2.out _)
  go_wp2_with fail
  refine (HEX.out.ours W2 _ HB2.out HCl.out).mono ?_
  rintro e W3 ⟨rfl, hb3⟩
  have HB3 := hid (HB2.out.trans (hb3.mono HB2.out.size))
  have HRow3 := hid (HRow.out.below hb3 HRow.out.lt)
  clear hb3 hc2 hz2 HB2 HRow HCl
  obtain ⟨hc3, hz3⟩ := HC.out W3 (Kept.of_below HB3.out _)
  go_wp2_with fail
  refine (HEX.out.docs W3 HB3.out).mono ?_
  rintro e W4 ⟨pv, rfl, hb4, ⟨q1, q2, q3, rfl⟩, hpin, hcl⟩
  have HCL := hid hcl
  have HPI := hid hpin
  have HB4 := hid (HB3.out.trans (hb4.mono HB3.out.size))
  have HRow4 := hid (HRow3.out.below hb4 HRow3.out.lt)
  have s34 : g < W3.heap.size ∧ W3.heap.size ≤ W4.heap.size := ⟨HRow3.out.lt, hb4.size⟩
  clear hb4 hcl hpin HEX hc3 hz3 HRow3
  have s13 := HB3.out.size
  clear HB3
  obtain ⟨hc4, hz4⟩ := HC.out W4 (Kept.of_below HB4.out _)
  have hbw4 : Below w.heap.size w W4 := HB1.out.trans (HB4.out.mono HB1.out.size)
  have hgf : g ∉ lnFp lv LB := fun c => by have := (HW.out.2.fp g c).2; omega
  have HWh := hid (wholeI_any W4 A base sv m wv ev bv lv LB g ad z2 l ((hbw4.block A hAl).trans HW.out.1) hAb (by have := hbw4.size; omega) (HW.out.2.below hbw4) HRow4.out (by omega) hgf (fun w' hk => HCe.out w' ((Kept.of_below HB4.out _).trans hk (fun x hx => by
    rcases List.mem_cons.1 hx with rfl | hx
    · exact .inr (by omega)
    · exact .inl hx))) hlen hm hbl)
  have HBW := hid hbw4
  clear hbw4 HW HRow4 HCe
  go_wp2_with fail
  refine HWh.out.mono ?_
  rintro e W5 ⟨rfl, hk5, lv', hA5, hL5, hn5⟩
  have HCL5 := hid (HCL.out W5 (fun k hk => hk5.block k (HPI.out k hk).2 (by
    have h1 := (HPI.out k hk).1
    intro c
    rcases List.mem_cons.1 c with c | c
    · omega
    · rcases List.mem_cons.1 c with c | c
      · omega
      · have := hlvl k c; omega)))
  have HK5 := hid (And.intro hk5 (And.intro hA5 (And.intro hL5 hn5)))
  clear hk5 hA5 hL5 hn5 HCL HPI HWh hc4 hz4 HC
  go_wp2_with fail
  refine HCL5.out.mono ?_
  rintro e W6 ⟨rfl, hb6⟩
  have HF : Hid (ex14Post w A base sv m wv ev bv lv LB (.returned (.bool true)) W6) := hid (by
    obtain ⟨k1, k2, k3, k4⟩ := HK5.out
    refine ⟨rfl, ?_, lv', _, _, (hb6.block A k2.lt).trans k2, k3.below hb6, fun k hk => (k4 k hk).imp id (fun h => Nat.le_trans HBW.out.size h), fun k hk => ?_⟩
    · refine ((Kept.of_below HBW.out _).trans k1 (fun x hx => ?_)).trans (Kept.of_below hb6 []) (by simp)
      rcases List.mem_cons.1 hx with rfl | hx
      · exact .inr (by omega)
      · exact .inl hx
    · simp [ob, Value.ownBlock] at hk; omega)
  clear hb6 HCL5 HK5 HBW
  go_wp2
  go_ret
  exact HF.out
end Go.Proofs.YtogmdaopfnmobaaGreat

