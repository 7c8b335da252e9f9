/- What the document's own answer does (notaryref): Text, HeadText. -/
import Derived.Test.YtogmdaopfnmobaaGreatP11
namespace Go.Proofs.YtogmdaopfnmobaaGreat
open Go.RowKit

attribute [local go_sem ↓] run_eql_node run_neq_node
set_option maxHeartbeats 2000000 in
set_option maxRecDepth 100000 in
theorem refText_E (w : World) : Calls Tryz.prog 125 #[ndV .E, ndV .E] w fun e w' => e = .returned (.string ⟨#[69]⟩) ∧ Below w.heap.size w w' := by
  simp only [ndV_E]
  go_enter Tryz.func125, Tryz.ntmps125
  go_wp2_with fail
  refine (refEmpty_any _).mono ?_
  rintro e w1 ⟨rfl, hb1⟩
  have hc1 := oldc hb1
  have z0 : w.heap.size < w1.heap.size := by have := hb1.size; simp at this; omega
  have z1 : w.heap.size + 1 < w1.heap.size := by have := hb1.size; simp at this; omega
  have B1 : Hid (Below w.heap.size w w1) := hid (((((Below.refl _ _).alloc (Nat.le_refl _) _).alloc (by simp) _)).trans (hb1.mono (by simp; omega)))
  have he : eqN 0 0 0 0 1 77 0 0 0 0 1 77 = true := rfl
  clear hb1
  go_wp2
  go_ret
  exact ⟨rfl, B1.out.alloc (by omega) _⟩
set_option maxHeartbeats 2000000 in
set_option maxRecDepth 100000 in
theorem refText_N (x y : Nd) (b : Bool) (w : World) (hx : x.ok = true) (hy : y.ok = true) (ex : eqN x.c x.s x.m x.x x.h.toNat x.g.toNat 0 0 0 0 1 77 = b) (ey : b = true → eqN y.c y.s y.m y.x y.h.toNat y.g.toNat 0 0 0 0 1 77 = false) :
    Calls Tryz.prog 125 #[ndV x, ndV y] w fun e w' => e = .returned (.string ⟨((73 : UInt8) :: (x.bytes ++ y.bytes)).toArray⟩) ∧ Below w.heap.size w w' := by
  have HI : ∀ w', Hid (Calls Tryz.prog 127 #[ndV x, ndV y] w' fun e w2 => e = .returned (.string ⟨((73 : UInt8) :: (x.bytes ++ y.bytes)).toArray⟩) ∧ Below w'.heap.size w' w2) := fun w' => hid ((refInner_any x y w' hx hy).mono fun e w2 ⟨t, he, ht, hb⟩ => ⟨by rw [he, str_of ht], hb⟩)
  generalize (⟨((73 : UInt8) :: (x.bytes ++ y.bytes)).toArray⟩ : ByteArray) = T at HI ⊢
  clear hx hy
  obtain ⟨c, s, m, x, h, g⟩ := x
  obtain ⟨c', s', m', x', h', g'⟩ := y
  simp only [ndV] at HI ex ey ⊢
  cases b with
  | false =>
    clear ey
    go_enter Tryz.func125, Tryz.ntmps125
    go_wp2_with fail
    refine (refEmpty_any _).mono ?_
    rintro e w1 ⟨rfl, hb1⟩
    have hc1 := oldc hb1
    have z0 : w.heap.size < w1.heap.size := by have := hb1.size; simp at this; omega
    have z1 : w.heap.size + 1 < w1.heap.size := by have := hb1.size; simp at this; omega
    have B1 : Hid (Below w.heap.size w w1) := hid (((((Below.refl _ _).alloc (Nat.le_refl _) _).alloc (by simp) _)).trans (hb1.mono (by simp; omega)))
    clear hb1
    go_wp2_with fail
    refine (HI _).out.mono ?_
    rintro e w2 ⟨rfl, hb2⟩
    have B2 : Hid (Below w.heap.size w w2) := hid ((B1.out.alloc (by omega) _).trans (hb2.mono (by simp; omega)))
    clear hb2 B1 HI
    go_wp2
    go_ret
    exact ⟨rfl, B2.out⟩
  | true =>
    have ey := ey rfl
    go_enter Tryz.func125, Tryz.ntmps125
    go_wp2_with fail
    refine (refEmpty_any _).mono ?_
    rintro e w1 ⟨rfl, hb1⟩
    have hc1 := oldc hb1
    have z0 : w.heap.size < w1.heap.size := by have := hb1.size; simp at this; omega
    have z1 : w.heap.size + 1 < w1.heap.size := by have := hb1.size; simp at this; omega
    have B1 : Hid (Below w.heap.size w w1) := hid (((((Below.refl _ _).alloc (Nat.le_refl _) _).alloc (by simp) _)).trans (hb1.mono (by simp; omega)))
    clear hb1
    go_wp2_with fail
    refine (HI _).out.mono ?_
    rintro e w2 ⟨rfl, hb2⟩
    have B2 : Hid (Below w.heap.size w w2) := hid ((B1.out.alloc (by omega) _).trans (hb2.mono (by simp; omega)))
    clear hb2 B1 HI
    go_wp2
    go_ret
    exact ⟨rfl, B2.out⟩
theorem refText_any (x y : Nd) (w : World) (hx : x.ok = true) (hy : y.ok = true) :
    Calls Tryz.prog 125 #[ndV x, ndV y] w fun e w' => e = .returned (.string ⟨(abText x y).toArray⟩) ∧ Below w.heap.size w w' := by
  by_cases h : x = .E ∧ y = .E
  · obtain ⟨rfl, rfl⟩ := h
    exact refText_E w
  · unfold abText
    rw [if_neg h]
    refine refText_N x y _ w hx hy (eqN_E x) fun hb => ?_
    rw [eqN_E y]
    simp only [decide_eq_true_eq] at hb
    simp only [decide_eq_false_iff_not]
    exact fun hy => h ⟨hb, hy⟩

set_option maxHeartbeats 2000000 in
set_option maxRecDepth 100000 in
theorem refHeadText_any (n : Nat) (d : Nd) (w : World) (hn : n ≤ 34359738367) (hd : d.ok = true) :
    Calls Tryz.prog 85 #[.int .i64 n, ndV d] w fun e w' => e = .returned (.string ⟨(hdText n d).toArray⟩) ∧ Below w.heap.size w w' := by
  have HN : ∀ w', Hid (Calls Tryz.prog 47 _ w' _) := fun w' => refNum_any n w' hn
  have HB : ∀ w', Hid (Calls Tryz.prog 48 _ w' _) := fun w' => refBytes_nd d w' hd
  have l1 := (num_length n).1
  have l2 := d.bytes_length
  have HT : Hid (∀ t1 t2 : ByteArray, t1.data.toList = num n → t2.data.toList = d.bytes → (⟨#[72]⟩ ++ t1 ++ t2 : ByteArray) = ⟨(hdText n d).toArray⟩) := hid fun t1 t2 e1 e2 => str_of (by rw [app_list, app_list, e1, e2]; simp [hdText])
  unfold ndV
  go_enter Tryz.func85, Tryz.ntmps85
  go_wp2_with fail
  refine (HN _).out.mono ?_
  rintro e w1 ⟨t1, rfl, et1, hb1⟩
  have s1 : t1.size ≤ 7 := by rw [size_list, et1]; exact l1
  have E1 := hid et1
  have hc1 := oldc hb1
  have z0 : w.heap.size < w1.heap.size := by have := hb1.size; simp at this; omega
  have B1 : Hid (Below w.heap.size w w1) := hid (((Below.refl _ _).alloc (Nat.le_refl _) _).trans (hb1.mono (by simp)))
  clear hb1 et1 HN
  go_wp2_with fail
  refine (HB _).out.mono ?_
  rintro e w2 ⟨t2, rfl, et2, hb2⟩
  have s2 : t2.size ≤ 30 := by rw [size_list, et2]; exact l2
  have E2 := hid et2
  have B2 : Hid (Below w.heap.size w w2) := hid (B1.out.trans (hb2.mono (by omega)))
  clear hb2 et2 HB B1 hc1
  go_wp2
  go_ret
  exact ⟨by rw [← HT.out t1 t2 E1.out E2.out]; first | rfl | done, B2.out⟩

end Go.Proofs.YtogmdaopfnmobaaGreat

