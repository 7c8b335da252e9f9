/- What the document's own answer does (notaryref): single, Part, Whole, Root. -/
import Derived.Test.YtogmdaopfnmobaaGreatP10
namespace Go.Proofs.YtogmdaopfnmobaaGreat
open Go.RowKit

/-- A tree of the document's: its values, and which are there. -/
structure TreeIn (w : World) (B : Nat) (vv hv : Value) (vs : List Int) (hs : List Bool) : Prop where
  hv1 : Cells1 w B vv (vs.map (.int .i64))
  hv2 : Cells1 w B hv (hs.map .bool)
  len : hs.length = vs.length
  small : vs.length ≤ 64
  val : ∀ v ∈ vs, 0 ≤ v ∧ v ≤ 1000000
theorem TreeIn.below {w w' : World} {B : Nat} {vv hv : Value} {vs : List Int} {hs : List Bool} (h : TreeIn w B vv hv vs hs) (hb : Below B w w') : TreeIn w' B vv hv vs hs := ⟨h.hv1.below hb, h.hv2.below hb, h.len, h.small, h.val⟩
theorem TreeIn.mono {w : World} {B B' : Nat} {vv hv : Value} {vs : List Int} {hs : List Bool} (h : TreeIn w B vv hv vs hs) (hb : B ≤ B') : TreeIn w B' vv hv vs hs := ⟨h.hv1.mono hb, h.hv2.mono hb, h.len, h.small, h.val⟩

set_option maxHeartbeats 2000000 in
set_option maxRecDepth 100000 in
theorem refSingle_any (tb : Bool) (vv hv : Value) (vs : List Int) (hs : List Bool) (i : Nat) (w : World) (hT : TreeIn w w.heap.size vv hv vs hs) (hi : i < vs.length) :
    Calls Tryz.prog 87 #[.agg #[.bool tb, vv, hv], .int .i64 i] w fun e w' => e = .returned (ndV (lf tb vs hs i)) ∧ Below w.heap.size w w' := by
  have hi2 : i < hs.length := by rw [hT.len]; exact hi
  have hi64 : i < 64 := by have := hT.small; omega
  obtain ⟨a1, p1, rfl, _⟩ := hT.hv1.ex
  obtain ⟨a2, p2, rfl, _⟩ := hT.hv2.ex
  obtain ⟨b1, o1, rfl, hb1, hc1⟩ := hT.hv1.at i (.int .i64 vs[i]) (by simp [hi])
  obtain ⟨b2, o2, rfl, hb2, hc2⟩ := hT.hv2.at i (.bool hs[i]) (by simp [hi2])
  have hval := hT.val _ (List.getElem_mem hi)
  have e1 : hs.getD i false = hs[i] := by simp [hi2]
  have e2 : vs.getD i 0 = vs[i] := by simp [hi]
  unfold lf
  rw [e1, e2]
  simp only [List.length_map]
  have hil : (i : Int) < hs.length := by omega
  have hil2 : (i : Int) < vs.length := by omega
  clear hT e1 e2
  generalize hs[i] = hb at hc2
  obtain ⟨v, hv⟩ : ∃ v : Nat, vs[i] = (v : Int) := Int.eq_ofNat_of_zero_le hval.1
  rw [hv] at hc1 hval ⊢
  clear hv hi hi2
  have hv5 := (num_length v).1
  have hi5 := (num_length i).1
  cases hb with
  | false =>
    simp only [Bool.false_eq_true, if_false]
    rw [ndV_E]
    go_enter Tryz.func87, Tryz.ntmps87
    go_wp2_with fail
    refine (refEmpty_any _).mono ?_
    rintro e w1 ⟨rfl, hbl⟩
    have z1 : w.heap.size + 1 < w1.heap.size := by have := hbl.size; simp at this; omega
    have H6 : Hid (Six w1 (w.heap.size + 1) _ _ _ _ _ _) := (Six.at _ (w.heap.size + 1) (by simp) _ _ _ _ _ _).below hbl (by simp)
    have B1 : Hid (Below w.heap.size w w1) := (((Below.refl _ _).alloc (Nat.le_refl _) _).alloc (by simp) _).trans (hbl.mono (by simp; omega))
    have F6 : ∀ o, w1.frozen? ⟨w.heap.size + 1, o, none⟩ = false := fun o => by simp [World.frozen?, H6.out.eq]
    obtain ⟨k0, k1, k2, k3, k4, k5⟩ := H6.out.cells
    clear hbl
    go_wp2
    refine ret_node1 Tryz.results87 (H6.out.set _ _ _ _ _ _) rfl ⟨rfl, ?_⟩
    repeat (refine Below.setCell ?_ (by simp) _)
    exact B1.out
  | true =>
    simp only [if_true]
    rw [ndV_mk]
    go_enter Tryz.func87, Tryz.ntmps87
    go_wp2_with fail
    refine (refNum_any v _ (by omega)).mono ?_
    rintro e w1 ⟨t1, rfl, et1, hbl⟩
    have s1 : t1.size ≤ 7 := by rw [size_list, et1]; exact hv5
    have z0 : w.heap.size < w1.heap.size := by have := hbl.size; simp at this; omega
    have z1 : w.heap.size + 1 < w1.heap.size := by have := hbl.size; simp at this; omega
    have H6 : Hid (Six w1 (w.heap.size + 1) _ _ _ _ _ _) := (Six.at _ (w.heap.size + 1) (by simp) _ _ _ _ _ _).below hbl (by simp)
    have B1 : Hid (Below w.heap.size w w1) := (((Below.refl _ _).alloc (Nat.le_refl _) _).alloc (by simp) _).trans (hbl.mono (by simp; omega))
    have hq1 := oldc hbl
    have E1 : Hid _ := et1
    clear hbl et1
    cases tb with
    | false =>
      go_wp2_with fail
      refine (refHash_any _ _ (by simp only [size_app, size_byte]; unfold maxLen; omega)).mono ?_
      rintro e w4 ⟨rfl, hb4⟩
      have v2 : w.heap.size + 1 < w4.heap.size := by have := hb4.size; omega
      have H9 : Hid (Six w4 (w.heap.size + 1) _ _ _ _ _ _) := H6.out.below hb4 (by omega)
      have B4 : Hid (Below w.heap.size w w4) := B1.out.trans (hb4.mono (by omega))
      have F9 : ∀ o, w4.frozen? ⟨w.heap.size + 1, o, none⟩ = false := fun o => by simp [World.frozen?, H9.out.eq]
      obtain ⟨k0, k1, k2, k3, k4, k5⟩ := H9.out.cells
      clear hb4 H6 B1 hq1
      have et : lfText false i v = (⟨#[76]⟩ ++ t1 : ByteArray).data.toList := by rw [app_list, E1.out]; simp [lfText]
      have ET : Hid _ := et
      clear et
      go_wp2
      refine ret_node1 Tryz.results87 ((H9.out.set _ _ _ _ _ _).alloc _) rfl ⟨by rw [ET.out]; rfl, ?_⟩
      refine Below.alloc ?_ (by simp; omega) _
      repeat (refine Below.setCell ?_ (by simp) _)
      exact B4.out
    | true =>
      go_wp2_with fail
      refine (refNum_any i _ (by omega)).mono ?_
      rintro e w2 ⟨t2, rfl, et2, hb2⟩
      have s2 : t2.size ≤ 7 := by rw [size_list, et2]; exact hi5
      have y1 : w.heap.size + 1 < w2.heap.size := by have := hb2.size; omega
      have H7 : Hid (Six w2 (w.heap.size + 1) _ _ _ _ _ _) := H6.out.below hb2 (by omega)
      have B2 : Hid (Below w.heap.size w w2) := B1.out.trans (hb2.mono (by omega))
      have E2 : Hid _ := et2
      clear hb2 et2 H6 B1
      go_wp2_with fail
      refine (refNum_any v _ (by omega)).mono ?_
      rintro e w3 ⟨t3, rfl, et3, hb3⟩
      have s3 : t3.size ≤ 7 := by rw [size_list, et3]; exact hv5
      have x1 : w.heap.size + 1 < w3.heap.size := by have := hb3.size; omega
      have H8 : Hid (Six w3 (w.heap.size + 1) _ _ _ _ _ _) := H7.out.below hb3 (by omega)
      have B3 : Hid (Below w.heap.size w w3) := B2.out.trans (hb3.mono (by omega))
      have E3 : Hid _ := et3
      clear hb3 et3 H7 B2
      go_wp2_with fail
      refine (refHash_any _ _ (by simp only [size_app, size_byte]; unfold maxLen; omega)).mono ?_
      rintro e w4 ⟨rfl, hb4⟩
      have v2 : w.heap.size + 1 < w4.heap.size := by have := hb4.size; omega
      have H9 : Hid (Six w4 (w.heap.size + 1) _ _ _ _ _ _) := H8.out.below hb4 (by omega)
      have B4 : Hid (Below w.heap.size w w4) := B3.out.trans (hb4.mono (by omega))
      have F9 : ∀ o, w4.frozen? ⟨w.heap.size + 1, o, none⟩ = false := fun o => by simp [World.frozen?, H9.out.eq]
      obtain ⟨k0, k1, k2, k3, k4, k5⟩ := H9.out.cells
      clear hb4 H8 B3 hq1
      have et : lfText true i v = (⟨#[84]⟩ ++ t2 ++ t3 : ByteArray).data.toList := by rw [app_list, app_list, E2.out, E3.out]; simp [lfText]
      have ET : Hid _ := et
      clear et
      go_wp2
      refine ret_node1 Tryz.results87 ((H9.out.set _ _ _ _ _ _).alloc _) rfl ⟨by rw [ET.out]; rfl, ?_⟩
      refine Below.alloc ?_ (by simp; omega) _
      repeat (refine Below.setCell ?_ (by simp) _)
      exact B4.out

end Go.Proofs.YtogmdaopfnmobaaGreat

/- What the document's own answer does (notaryref): Part, Whole, Root. -/
namespace Go.Proofs.YtogmdaopfnmobaaGreat
open Go.RowKit

set_option maxHeartbeats 2000000 in
set_option maxRecDepth 100000 in
theorem refPart_any (tb : Bool) (vv hv : Value) (vs : List Int) (hs : List Bool) : ∀ (n a b : Nat) (w : World), b - a ≤ n → b ≤ vs.length → TreeIn w w.heap.size vv hv vs hs →
    Calls Tryz.prog 46 #[.agg #[.bool tb, vv, hv], .int .i64 a, .int .i64 b] w fun e w' => e = .returned (ndV (tr (lf tb vs hs) a b)) ∧ Below w.heap.size w w' := by
  intro n
  induction n with
  | zero =>
    intro a b w hn hb hT
    obtain ⟨a1, p1, rfl, _⟩ := hT.hv1.ex
    obtain ⟨a2, p2, rfl, _⟩ := hT.hv2.ex
    rw [tr_none _ _ _ (by omega), ndV_E]
    have hge : (b : Int) ≤ a := by omega
    clear hT
    go_enter Tryz.func46, Tryz.ntmps46
    go_wp2_with fail
    refine (refEmpty_any _).mono ?_
    rintro e w1 ⟨rfl, hbl⟩
    have z1 : w.heap.size + 1 < w1.heap.size := by have := hbl.size; simp at this; omega
    have H6 : Hid (Six w1 (w.heap.size + 1) _ _ _ _ _ _) := (Six.at _ (w.heap.size + 1) (by simp) _ _ _ _ _ _).below hbl (by simp)
    have B1 : Hid (Below w.heap.size w w1) := (((Below.refl _ _).alloc (Nat.le_refl _) _).alloc (by simp) _).trans (hbl.mono (by simp; omega))
    have F6 : ∀ o, w1.frozen? ⟨w.heap.size + 1, o, none⟩ = false := fun o => by simp [World.frozen?, H6.out.eq]
    obtain ⟨k0, k1, k2, k3, k4, k5⟩ := H6.out.cells
    clear hbl
    go_wp2
    refine ret_node1 Tryz.results46 (H6.out.set _ _ _ _ _ _) rfl ⟨rfl, ?_⟩
    repeat (refine Below.setCell ?_ (by simp) _)
    exact B1.out
  | succ n ih =>
    intro a b w hn hb hT
    by_cases h0 : b ≤ a
    · exact (ih a b w (by omega) hb hT)
    have hvs := hT.small
    have HT : Hid _ := hT
    obtain ⟨a1, p1, rfl, _⟩ := hT.hv1.ex
    obtain ⟨a2, p2, rfl, _⟩ := hT.hv2.ex
    simp only [List.length_map] at HT ih ⊢
    clear hT
    have hge : ¬ (b : Int) ≤ a := by omega
    by_cases h1 : b < a + 2
    · obtain rfl : b = a + 1 := by omega
      rw [tr_one]
      clear ih
      have HS : ∀ w', Hid (TreeIn w' w'.heap.size (.slice a1 vs.length p1) (.slice a2 hs.length p2) vs hs → Calls Tryz.prog 87 _ w' _) := fun w' hT' => refSingle_any tb _ _ vs hs a w' hT' (by omega)
      generalize lf tb vs hs a = d at HS
      go_enter Tryz.func46, Tryz.ntmps46
      go_wp2_with fail
      refine ((HS _).out ((HT.out.below (((Below.refl _ _).alloc (Nat.le_refl _) _).alloc (by simp) _)).mono (by simp; omega))).mono ?_
      rintro e w1 ⟨rfl, hbl⟩
      rw [ndV]
      have z1 : w.heap.size + 1 < w1.heap.size := by have := hbl.size; simp at this; omega
      have H6 : Hid (Six w1 (w.heap.size + 1) _ _ _ _ _ _) := (Six.at _ (w.heap.size + 1) (by simp) _ _ _ _ _ _).below hbl (by simp)
      have B1 : Hid (Below w.heap.size w w1) := (((Below.refl _ _).alloc (Nat.le_refl _) _).alloc (by simp) _).trans (hbl.mono (by simp; omega))
      have F6 : ∀ o, w1.frozen? ⟨w.heap.size + 1, o, none⟩ = false := fun o => by simp [World.frozen?, H6.out.eq]
      obtain ⟨k0, k1, k2, k3, k4, k5⟩ := H6.out.cells
      clear hbl
      go_wp2
      refine ret_node1 Tryz.results46 (H6.out.set _ _ _ _ _ _) rfl ⟨rfl, ?_⟩
      repeat (refine Below.setCell ?_ (by simp) _)
      exact B1.out
    · have p := hf_pos (b - a)
      have q := hf_lt (b - a) (by omega)
      rw [tr_two _ a b (by omega)]
      have O1 : Hid _ := tr_ok (tb := tb) (hs := hs) HT.out.val a (a + hf (b - a)) (by omega)
      have O2 : Hid _ := tr_ok (tb := tb) (hs := hs) HT.out.val (a + hf (b - a)) b (by omega)
      have hne : ¬ (b : Int) - a = 1 := by omega
      have hne' : ((b : Int) - a == 1) = false := by simp [hne]
      have hsub : (b : Int) - a = ((b - a : Nat) : Int) := by omega
      obtain ⟨m, hm⟩ : ∃ m, m = b - a := ⟨_, rfl⟩
      rw [← hm] at p q O1 O2 hsub ⊢
      have I1 : ∀ w', Hid (TreeIn w' w'.heap.size (.slice a1 vs.length p1) (.slice a2 hs.length p2) vs hs → Calls Tryz.prog 46 _ w' _) := fun w' hT' => ih a (a + hf m) w' (by omega) (by omega) hT'
      have I2 : ∀ w', Hid (TreeIn w' w'.heap.size (.slice a1 vs.length p1) (.slice a2 hs.length p2) vs hs → Calls Tryz.prog 46 _ w' _) := fun w' hT' => ih (a + hf m) b w' (by omega) (by omega) hT'
      clear ih
      have hm2 : 2 ≤ m := by omega
      have hm3 : m ≤ 64 := by omega
      have hk : hf m < 64 := by omega
      have hab : a + hf m < 64 := by omega
      generalize tr (lf tb vs hs) a (a + hf m) = x at O1 I1
      generalize tr (lf tb vs hs) (a + hf m) b = y at O2 I2
      have HH : ∀ w', Hid (Calls Tryz.prog 88 #[.int .i64 m] w' _) := fun w' => refHalf_any m w' hm2 (by omega)
      generalize hf m = k at p q I1 I2 hk hab HH
      have hcast : ((a + k : Nat) : Int) = (a : Int) + k := by omega
      rw [hcast] at I1 I2
      clear hm hcast hm2
      go_enter Tryz.func46, Tryz.ntmps46
      go_wp2_with fail
      refine (HH _).out.mono ?_
      rintro e w1 ⟨rfl, hb1⟩
      have hc1 := oldc hb1
      have z0 : w.heap.size < w1.heap.size := by have := hb1.size; simp at this; omega
      have z1 : w.heap.size + 1 < w1.heap.size := by have := hb1.size; simp at this; omega
      have B1 : Hid (Below w.heap.size w w1) := (((Below.refl _ _).alloc (Nat.le_refl _) _).alloc (by simp) _).trans (hb1.mono (by simp; omega))
      have H6 : Hid (Six w1 (w.heap.size + 1) _ _ _ _ _ _) := (Six.at _ (w.heap.size + 1) (by simp) _ _ _ _ _ _).below hb1 (by simp)
      clear hb1 HH
      go_wp2_with fail
      refine ((I1 _).out ((HT.out.below B1.out).mono (by omega))).mono ?_
      rintro e w2 ⟨rfl, hb2⟩
      rw [ndV]
      have hc2 := oldc hb2
      have y0 : w.heap.size < w2.heap.size := by have := hb2.size; omega
      have y1 : w.heap.size + 1 < w2.heap.size := by have := hb2.size; omega
      have B2 : Hid (Below w.heap.size w w2) := B1.out.trans (hb2.mono (by omega))
      have H7 : Hid (Six w2 (w.heap.size + 1) _ _ _ _ _ _) := H6.out.below hb2 (by omega)
      clear hb2 I1 B1 H6
      go_wp2_with fail
      refine ((I2 _).out ((HT.out.below (B2.out.alloc (by omega) _)).mono (by simp; omega))).mono ?_
      rintro e w3 ⟨rfl, hb3⟩
      rw [ndV]
      have hc3 := oldc hb3
      have x0 : w.heap.size < w3.heap.size := by have := hb3.size; simp at this; omega
      have x1 : w.heap.size + 1 < w3.heap.size := by have := hb3.size; simp at this; omega
      have x2 : w2.heap.size < w3.heap.size := by have := hb3.size; simp at this; omega
      have B3 : Hid (Below w.heap.size w w3) := (B2.out.alloc (by omega) _).trans (hb3.mono (by simp; omega))
      have H8 : Hid (Six w3 (w.heap.size + 1) _ _ _ _ _ _) := (H7.out.alloc _).below hb3 (by simp; omega)
      clear hb3 I2 B2 H7
      go_wp2_with fail
      refine (show Calls Tryz.prog 89 #[ndV x, ndV y] _ _ from refAbove_any x y _ O1.out O2.out).mono ?_
      rintro e w4 ⟨rfl, hb4⟩
      rw [ndV]
      have v1 : w.heap.size + 1 < w4.heap.size := by have := hb4.size; simp at this; omega
      have B4 : Hid (Below w.heap.size w w4) := (B3.out.alloc (by omega) _).trans (hb4.mono (by simp; omega))
      have H9 : Hid (Six w4 (w.heap.size + 1) _ _ _ _ _ _) := (H8.out.alloc _).below hb4 (by simp; omega)
      have F9 : ∀ o, w4.frozen? ⟨w.heap.size + 1, o, none⟩ = false := fun o => by simp [World.frozen?, H9.out.eq]
      obtain ⟨k0, k1, k2, k3, k4, k5⟩ := H9.out.cells
      clear hb4 B3 H8 hc1 hc2 hc3
      go_wp2
      refine ret_node1 Tryz.results46 (H9.out.set _ _ _ _ _ _) rfl ⟨rfl, ?_⟩
      repeat (refine Below.setCell ?_ (by simp) _)
      exact B4.out

set_option maxHeartbeats 2000000 in
set_option maxRecDepth 100000 in
theorem refWhole_any (tb : Bool) (vv hv : Value) (vs : List Int) (hs : List Bool) (w : World) (hT : TreeIn w w.heap.size vv hv vs hs) :
    Calls Tryz.prog 15 #[.agg #[.bool tb, vv, hv]] w fun e w' => e = .returned (ndV (tr (lf tb vs hs) 0 vs.length)) ∧ Below w.heap.size w w' := by
  have HT : Hid _ := hT
  obtain ⟨a1, p1, rfl, _⟩ := hT.hv1.ex
  obtain ⟨a2, p2, rfl, _⟩ := hT.hv2.ex
  simp only [List.length_map] at HT ⊢
  clear hT
  have HP : ∀ w', Hid (TreeIn w' w'.heap.size (.slice a1 vs.length p1) (.slice a2 hs.length p2) vs hs → Calls Tryz.prog 46 _ w' _) := fun w' hT' => refPart_any tb _ _ vs hs vs.length 0 vs.length w' (by omega) (by omega) hT'
  generalize tr (lf tb vs hs) 0 vs.length = d at HP
  go_enter Tryz.func15, Tryz.ntmps15
  go_wp2_with fail
  refine ((HP _).out ((HT.out.below (((Below.refl _ _).alloc (Nat.le_refl _) _).alloc (by simp) _)).mono (by simp; omega))).mono ?_
  rintro e w1 ⟨rfl, hbl⟩
  rw [ndV]
  have z1 : w.heap.size + 1 < w1.heap.size := by have := hbl.size; simp at this; omega
  have H6 : Hid (Six w1 (w.heap.size + 1) _ _ _ _ _ _) := (Six.at _ (w.heap.size + 1) (by simp) _ _ _ _ _ _).below hbl (by simp)
  have B1 : Hid (Below w.heap.size w w1) := (((Below.refl _ _).alloc (Nat.le_refl _) _).alloc (by simp) _).trans (hbl.mono (by simp; omega))
  have F6 : ∀ o, w1.frozen? ⟨w.heap.size + 1, o, none⟩ = false := fun o => by simp [World.frozen?, H6.out.eq]
  obtain ⟨k0, k1, k2, k3, k4, k5⟩ := H6.out.cells
  clear hbl
  go_wp2
  refine ret_node1 Tryz.results15 (H6.out.set _ _ _ _ _ _) rfl ⟨rfl, ?_⟩
  repeat (refine Below.setCell ?_ (by simp) _)
  exact B1.out

set_option maxHeartbeats 2000000 in
set_option maxRecDepth 100000 in
theorem refRoot_any (n : Nat) (d : Nd) (w : World) (hn : n ≤ 34359738367) (hd : d.ok = true) :
    Calls Tryz.prog 16 #[.int .i64 n, ndV d] w fun e w' => e = .returned (.agg #[.int .u8 ((dg (hdText n d) : Int) / 256), .int .u8 ((dg (hdText n d) : Int) % 256)]) ∧ Below w.heap.size w w' := by
  have HN : ∀ w', Hid (Calls Tryz.prog 47 _ w' _) := fun w' => refNum_any n w' hn
  have HB : ∀ w', Hid (Calls Tryz.prog 48 _ w' _) := fun w' => refBytes_nd d w' hd
  have l1 := (num_length n).1
  have l2 := d.bytes_length
  unfold ndV
  go_enter Tryz.func16, Tryz.ntmps16
  go_wp2_with fail
  refine (HN _).out.mono ?_
  rintro e w1 ⟨t1, rfl, et1, hb1⟩
  have s1 : t1.size ≤ 7 := by rw [size_list, et1]; exact l1
  have E1 : Hid _ := et1
  have hc1 := oldc hb1
  have z0 : w.heap.size < w1.heap.size := by have := hb1.size; simp at this; omega
  have z1 : w.heap.size + 1 < w1.heap.size := by have := hb1.size; simp at this; omega
  have B1 : Hid (Below w.heap.size w w1) := (((Below.refl _ _).alloc (Nat.le_refl _) _).alloc (by simp) _).trans (hb1.mono (by simp; omega))
  have H6 : Hid (w1.heap[w.heap.size + 1]? = some (.cells #[.int .u8 0, .int .u8 0] 49 (0, 0))) := (hb1.block (w.heap.size + 1) (by simp)).trans (by
    have := heap_alloc_new (w.alloc (.cells #[.int .i64 d.c, .int .i64 d.s, .int .i64 d.m, .int .i64 d.x, .int .u8 (d.h.toNat : Int), .int .u8 (d.g.toNat : Int)] 51)) (.cells #[.int .u8 0, .int .u8 0] 49)
    simpa using this)
  clear hb1 et1 HN
  go_wp2_with fail
  refine (HB _).out.mono ?_
  rintro e w2 ⟨t2, rfl, et2, hb2⟩
  have s2 : t2.size ≤ 30 := by rw [size_list, et2]; exact l2
  have E2 : Hid _ := et2
  have y1 : w.heap.size + 1 < w2.heap.size := by have := hb2.size; omega
  have B2 : Hid (Below w.heap.size w w2) := B1.out.trans (hb2.mono (by omega))
  have H7 : Hid (w2.heap[w.heap.size + 1]? = some (.cells #[.int .u8 0, .int .u8 0] 49 (0, 0))) := (hb2.block _ z1).trans H6.out
  clear hb2 et2 HB B1 H6
  go_wp2_with fail
  refine (refHash_any _ _ (by simp only [size_app, size_byte]; unfold maxLen; omega)).mono ?_
  rintro e w4 ⟨rfl, hb4⟩
  have v1 : w.heap.size + 1 < w4.heap.size := by have := hb4.size; omega
  have B4 : Hid (Below w.heap.size w w4) := B2.out.trans (hb4.mono (by omega))
  have h9 : w4.heap[w.heap.size + 1]? = some (.cells #[.int .u8 0, .int .u8 0] 49 (0, 0)) := (hb4.block _ y1).trans H7.out
  have F9 : ∀ o, w4.frozen? ⟨w.heap.size + 1, o, none⟩ = false := fun o => by simp [World.frozen?, h9]
  have k0 : w4.cell? ⟨w.heap.size + 1, 0, none⟩ = some (.int .u8 0) := by rw [cell_of_row w4 _ _ _ _ _ h9]; rfl
  have k1 : w4.cell? ⟨w.heap.size + 1, 1, none⟩ = some (.int .u8 0) := by rw [cell_of_row w4 _ _ _ _ _ h9]; rfl
  have et : hdText n d = (⟨#[72]⟩ ++ t1 ++ t2 : ByteArray).data.toList := by rw [app_list, app_list, E1.out, E2.out]; simp [hdText]
  have ET : Hid _ := et
  clear et hb4 B2 H7 h9 hc1
  go_wp2
  refine bodyPost_ret (v := .agg #[.int .u8 ((dg (hdText n d) : Int) / 256), .int .u8 ((dg (hdText n d) : Int) % 256)]) ?_ rfl ⟨rfl, ?_⟩
  · rw [ET.out]
    simp [results, Tryz.results16, go_sem, k0, k1]
  · repeat (refine Below.setCell ?_ (by simp) _)
    exact B4.out

end Go.Proofs.YtogmdaopfnmobaaGreat

/- What the document's own answer does (notaryref): value, sum, Fold. -/
namespace Go.Proofs.YtogmdaopfnmobaaGreat
open Go.RowKit

set_option maxHeartbeats 400000 in
theorem refValue_any (v : Int) (w : World) (b : Bool) (hb : isVal v = b) : Calls Tryz.prog 39 #[.int .i64 v] w fun e w' => e = .returned (.bool b) ∧ w' = w := by
  by_cases h : 0 ≤ v
  · by_cases h2 : v ≤ 1000000
    · have : b = true := by rw [← hb]; simp [isVal, h, h2]
      subst this
      clear hb
      go_enter Tryz.func39, Tryz.ntmps39
      go_wp2
      go_ret
      exact ⟨rfl, rfl⟩
    · have : b = false := by rw [← hb]; simp [isVal, h2]
      subst this
      clear hb
      go_enter Tryz.func39, Tryz.ntmps39
      go_wp2
      go_ret
      exact ⟨rfl, rfl⟩
  · have : b = false := by rw [← hb]; simp [isVal, h]
    subst this
    clear hb
    go_enter Tryz.func39, Tryz.ntmps39
    go_wp2
    go_ret
    exact ⟨rfl, rfl⟩

set_option maxHeartbeats 400000 in
theorem refSum_any (vv : Value) (vs : List Int) (w : World) (hc : Cells1 w w.heap.size vv (vs.map (.int .i64))) (hv : ∀ v ∈ vs, 0 ≤ v ∧ v ≤ 1000000) (hn : vs.length ≤ 64) :
    Calls Tryz.prog 66 #[vv] w fun e w' => e = .returned (.int .i64 vs.sum) ∧ w' = w := by
  have HC : Hid _ := hc
  obtain ⟨ao, cap, rfl, _⟩ := hc.ex
  simp only [List.length_map] at HC ⊢
  go_enter Tryz.func66, Tryz.ntmps66
  go_wp2
  go_loop [3, 4] (fun n i => ∃ k : Nat, k ≤ vs.length ∧ i = .int .i64 k ∧ n = .int .i64 (vs.take k).sum) (fun _ i => vs.length - (intOf i).toNat)
  case atStart => exact ⟨0, Nat.zero_le _, rfl, rfl⟩
  case round =>
    obtain ⟨k, hk, rfl, rfl⟩ := hrel
    by_cases hlt : k < vs.length
    · obtain ⟨b, off, rfl, hb, hcell⟩ := HC.out.at k (.int .i64 vs[k]) (by simp [hlt])
      have HS : Hid _ := take_succ_sum vs k hlt
      have hb1 := sum_bd (vs.take k) fun v hv' => hv v (List.mem_of_mem_take hv')
      have hb2 := hv _ (List.getElem_mem hlt)
      have hl : (vs.take k).length ≤ 64 := by simp; omega
      generalize (vs.take k).sum = s at HS hb1
      generalize vs[k] = x at HS hb2 hcell
      go_wp2
      go_round
      case rel => exact ⟨k + 1, by omega, by go_num, by rw [HS.out]⟩
      case measure => simp [intOf]; omega
    · have e : vs.take k = vs := List.take_of_length_le (by omega)
      rw [e]
      go_wp2
      go_ret
      exact ⟨rfl, rfl⟩

set_option maxHeartbeats 1000000 in
set_option maxRecDepth 100000 in
theorem refFold_any (tb : Bool) (vv hv : Value) (vs : List Int) (hs : List Bool) (a b : Nat) (w : World) (hT : TreeIn w w.heap.size vv hv vs hs) (hab : a ≤ b) (hb : b ≤ vs.length) :
    Calls Tryz.prog 137 #[.agg #[.bool tb, vv, hv], .int .i64 a, .int .i64 b] w fun e w' => e = .returned (foV (fv (lf tb vs hs) a (b - a))) ∧ Below w.heap.size w w' := by
  have HT : Hid _ := hT
  have HL : Hid _ := hT.len
  have hsm := hT.small
  obtain ⟨a1, p1, rfl, _⟩ := hT.hv1.ex
  obtain ⟨a2, p2, rfl, _⟩ := hT.hv2.ex
  simp only [List.length_map] at HT ⊢
  clear hT
  go_enter Tryz.func137, Tryz.ntmps137
  go_wp2
  have hF : Hid (FoAt (((w.alloc (.cells #[.bool tb, .slice a1 vs.length p1, .slice a2 hs.length p2] 53)).alloc (.cells #[.int .i64 0, .int .i64 0, .int .i64 0, .int .i64 0] 47)).alloc (.cells #[.int .i64 0, .int .i64 0, .int .i64 0, .int .i64 0] 47)) (w.heap.size + 1 + 1) .zero) := FoAt.at _ _ (by simp) .zero
  have hG : Hid (FoAt (((w.alloc (.cells #[.bool tb, .slice a1 vs.length p1, .slice a2 hs.length p2] 53)).alloc (.cells #[.int .i64 0, .int .i64 0, .int .i64 0, .int .i64 0] 47)).alloc (.cells #[.int .i64 0, .int .i64 0, .int .i64 0, .int .i64 0] 47)) (w.heap.size + 1) .zero) := (FoAt.at _ _ (by simp) .zero).alloc _
  obtain ⟨W0, hW0⟩ : ∃ W0, W0 = (((w.alloc (.cells #[.bool tb, .slice a1 vs.length p1, .slice a2 hs.length p2] 53)).alloc (.cells #[.int .i64 0, .int .i64 0, .int .i64 0, .int .i64 0] 47)).alloc (.cells #[.int .i64 0, .int .i64 0, .int .i64 0, .int .i64 0] 47)) := ⟨_, rfl⟩
  have hb0 : Hid (W0.cell? ⟨w.heap.size, 0, none⟩ = some (.bool tb) ∧ W0.cell? ⟨w.heap.size, 1, none⟩ = some (.slice a1 vs.length p1) ∧ W0.cell? ⟨w.heap.size, 2, none⟩ = some (.slice a2 hs.length p2)) := by
    have hh := heap_alloc3 w (.cells #[.bool tb, .slice a1 vs.length p1, .slice a2 hs.length p2] 53) (.cells #[.int .i64 0, .int .i64 0, .int .i64 0, .int .i64 0] 47) (.cells #[.int .i64 0, .int .i64 0, .int .i64 0, .int .i64 0] 47)
    rw [← hW0] at hh
    show _ ∧ _ ∧ _
    refine ⟨?_, ?_, ?_⟩ <;> rw [cell_of_row W0 _ _ _ _ _ hh] <;> rfl
  have hB0 : Hid (Below w.heap.size w W0) := by rw [hW0]; exact (((Below.refl _ _).alloc (Nat.le_refl _) _).alloc (by simp) _).alloc (by simp; omega) _
  have hz0 : W0.heap.size = w.heap.size + 3 := by rw [hW0]; simp
  rw [← hW0] at hF hG ⊢
  clear hW0
  go_loopw [8] (fun i wr => ∃ k : Nat, a ≤ k ∧ k ≤ b ∧ i = .int .i64 k ∧ Hid (FoAt wr (w.heap.size + 1 + 1) (fv (lf tb vs hs) a (k - a)) ∧ FoAt wr (w.heap.size + 1) .zero ∧ Below w.heap.size w wr ∧ wr.heap[w.heap.size]? = W0.heap[w.heap.size]?)) (fun i _ => b - (intOf i).toNat)
  case atStart => exact ⟨a, Nat.le_refl _, hab, rfl, by rw [Nat.sub_self]; exact hF.out, hG.out, hB0.out, rfl⟩
  case round =>
    obtain ⟨k, hk1, hk2, rfl, HR⟩ := hrel
    clear hF hG hB0
    obtain ⟨h1, h2, h3, h4⟩ := HR.out
    have c0 : wr.cell? ⟨w.heap.size, 0, none⟩ = some (.bool tb) := (World.cell?_of_block (a := ⟨w.heap.size, 0, none⟩) h4).trans hb0.out.1
    have c1 : wr.cell? ⟨w.heap.size, 1, none⟩ = some (.slice a1 vs.length p1) := (World.cell?_of_block (a := ⟨w.heap.size, 1, none⟩) h4).trans hb0.out.2.1
    have c2 : wr.cell? ⟨w.heap.size, 2, none⟩ = some (.slice a2 hs.length p2) := (World.cell?_of_block (a := ⟨w.heap.size, 2, none⟩) h4).trans hb0.out.2.2
    have l2 := h1.lt
    by_cases hlt : k < b
    · have hkv : k < vs.length := by omega
      have hkh : k < hs.length := by rw [HL.out]; exact hkv
      obtain ⟨b1, o1, hab1, hb1, d1⟩ := (HT.out.below h3).hv1.at k (.int .i64 vs[k]) (by simp [hkv])
      obtain ⟨b2, o2, hab2, hb2, d2⟩ := (HT.out.below h3).hv2.at k (.bool hs[k]) (by simp [hkh])
      subst hab1 hab2
      have HF : Hid (fv (lf tb vs hs) a (k + 1 - a) = tog (fv (lf tb vs hs) a (k - a)) (lf tb vs hs k).fold) := by
        rw [show k + 1 - a = (k - a) + 1 from by omega, fv, show a + (k - a) = k from by omega]; rfl
      have HG : Hid (lf tb vs hs k = if hs[k] then mkNd (.one vs[k]) (lfText tb k vs[k]) else .E) := by
        show _ = _; unfold lf; simp [hkv, hkh]
      have q := fv_bd (tb := tb) (hs := hs) HT.out.val a (k - a)
      have hgood := fv_good (lf_good (tb := tb) (vs := vs) (hs := hs)) a (k - a)
      have hval := HT.out.val _ (List.getElem_mem hkv)
      have i1 : (k : Int) < hs.length := by omega
      have i2 : (k : Int) < vs.length := by omega
      generalize fv (lf tb vs hs) a (k - a) = z at h1 HF q hgood HR
      generalize lf tb vs hs k = nd at HF HG
      obtain ⟨x, hx⟩ : ∃ x, x = vs[k] := ⟨_, rfl⟩
      rw [← hx] at d1 HG hval
      obtain ⟨hh, hhe⟩ : ∃ hh, hh = hs[k] := ⟨_, rfl⟩
      rw [← hhe] at d2 HG
      clear hx hhe hkv hkh HR
      cases hh with
      | false =>
        go_wp2
        go_roundw
        case rel => exact ⟨k + 1, by omega, by omega, by go_num, by rw [HF.out, HG.out]; simp only [Bool.false_eq_true, if_false]; rw [show Nd.E.fold = .zero from rfl, tog_zero_right hgood]; exact ⟨h1, h2, h3, h4⟩⟩
        case measure => simp [intOf]; omega
      | true =>
        obtain ⟨⟨f0, f1, f2, f3⟩, _⟩ := h1.cells
        go_wp2_with fail
        refine (refTogether_any z.c z.s z.m z.x 1 x x x _ (by omega) (by omega) (by omega) (by omega)).mono ?_
        rw [show tog ⟨z.c, z.s, z.m, z.x⟩ ⟨1, x, x, x⟩ = fv (lf tb vs hs) a (k + 1 - a) from by rw [HF.out, HG.out]; rfl, HF.out]
        generalize tog z nd.fold = z' at HF
        rintro e w1 ⟨rfl, hbl⟩
        rw [foV]
        have l1 : w.heap.size + 1 + 1 < w1.heap.size := by have := hbl.size; omega
        have B1 : Hid (Below w.heap.size w w1) := h3.trans (hbl.mono h3.size)
        have F1 : FoAt w1 (w.heap.size + 1 + 1) z := h1.below hbl l2
        have F2 : Hid (FoAt w1 (w.heap.size + 1) .zero) := h2.below hbl h2.lt
        have F3 : Hid (w1.heap[w.heap.size]? = W0.heap[w.heap.size]?) := (hbl.block _ (by omega)).trans h4
        clear f0 f1 f2 f3 c0 c1 c2 d1 d2 h1 h2 h3 h4 hbl
        obtain ⟨⟨f0, f1, f2, f3⟩, ff⟩ := F1.cells
        have F4 : Hid _ := F1
        clear F1
        go_wp2
        go_roundw
        case rel =>
          refine ⟨k + 1, by omega, by omega, by go_num, hid ⟨?_, ?_, ?_, ?_⟩⟩
          · rw [HF.out]; exact FoAt.set F4.out _
          · exact (((F2.out.far (by omega)).far (by omega)).far (by omega)).far (by omega)
          · repeat (refine Below.setCell ?_ (by simp; omega) _)
            exact B1.out
          · repeat (refine (Below.heap_setCell _ _ _ _ (by simp; omega)).trans ?_)
            exact F3.out
        case measure => simp [intOf]; omega
    · have hk' : k = b := by omega
      subst hk'
      obtain ⟨⟨f0, f1, f2, f3⟩, _⟩ := h1.cells
      obtain ⟨⟨g0, g1, g2, g3⟩, gg⟩ := h2.cells
      obtain ⟨z, hz⟩ : ∃ z, z = fv (lf tb vs hs) a (k - a) := ⟨_, rfl⟩
      rw [← hz] at h1 f0 f1 f2 f3
      have HZ : Hid _ := hz
      have H2 : Hid _ := h2
      have H3 : Hid _ := h3
      clear HR c0 c1 c2 hz h2 h3
      go_wp2
      refine ret_fold1 Tryz.results137 (FoAt.set (show FoAt _ _ _ from H2.out) z) rfl ⟨by rw [HZ.out], ?_⟩
      repeat (refine Below.setCell ?_ (by simp) _)
      exact H3.out

end Go.Proofs.YtogmdaopfnmobaaGreat

/- What the document's own answer does (notaryref): node, Read. -/
namespace Go.Proofs.YtogmdaopfnmobaaGreat
open Go.RowKit

attribute [local go_sem ↓] run_eql_node run_neq_node

theorem rdNum_nil : rdNum [] = none := rfl
theorem rdNode_of4 (l l1 l2 l3 l4 : List UInt8) (a b c d : Nat) (h1 : rdNum l = some (a, l1)) (h2 : rdNum l1 = some (b, l2)) (h3 : rdNum l2 = some (c, l3)) (h4 : rdNum l3 = some (d, l4)) : rdK 4 l = some ([a, b, c, d], l4) := by
  simp [rdK, h1, h2, h3, h4]
theorem rdNode_bad1 (l : List UInt8) (h1 : rdNum l = none) : rdNode l = none := by simp [rdNode, rdK, h1]
theorem rdNode_bad2 (l l1 : List UInt8) (a : Nat) (h1 : rdNum l = some (a, l1)) (h2 : rdNum l1 = none) : rdNode l = none := by simp [rdNode, rdK, h1, h2]
theorem rdNode_bad3 (l l1 l2 : List UInt8) (a b : Nat) (h1 : rdNum l = some (a, l1)) (h2 : rdNum l1 = some (b, l2)) (h3 : rdNum l2 = none) : rdNode l = none := by simp [rdNode, rdK, h1, h2, h3]
theorem rdNode_bad4 (l l1 l2 l3 : List UInt8) (a b c : Nat) (h1 : rdNum l = some (a, l1)) (h2 : rdNum l1 = some (b, l2)) (h3 : rdNum l2 = some (c, l3)) (h4 : rdNum l3 = none) : rdNode l = none := by simp [rdNode, rdK, h1, h2, h3, h4]

/-- Four takes in turn: all four numbers and what is left, or no node. -/
theorem four_takes (l r1 r2 r3 r4 : List UInt8) (a b c d : Int) (h1 : tkOut (rdNum l) a r1) (h2 : tkOut (rdNum r1) b r2) (h3 : tkOut (rdNum r2) c r3) (h4 : tkOut (rdNum r3) d r4) :
    ((0 ≤ a ∧ 0 ≤ b ∧ 0 ≤ c ∧ 0 ≤ d) ∧ rdK 4 l = some ([a.toNat, b.toNat, c.toNat, d.toNat], r4)) ∨ ((a < 0 ∨ b < 0 ∨ c < 0 ∨ d < 0) ∧ rdNode l = none) := by
  rcases h1 with ⟨a0, h1⟩ | ⟨rfl, h1, _⟩
  · rcases h2 with ⟨b0, h2⟩ | ⟨rfl, h2, _⟩
    · rcases h3 with ⟨c0, h3⟩ | ⟨rfl, h3, _⟩
      · rcases h4 with ⟨d0, h4⟩ | ⟨rfl, h4, _⟩
        · exact .inl ⟨⟨a0, b0, c0, d0⟩, rdNode_of4 _ _ _ _ _ _ _ _ _ h1 h2 h3 h4⟩
        · exact .inr ⟨by omega, rdNode_bad4 _ _ _ _ _ _ _ h1 h2 h3 h4⟩
      · exact .inr ⟨by omega, rdNode_bad3 _ _ _ _ _ h1 h2 h3⟩
    · exact .inr ⟨by omega, rdNode_bad2 _ _ _ h1 h2⟩
  · exact .inr ⟨by omega, rdNode_bad1 _ h1⟩

set_option maxHeartbeats 1000000 in
set_option maxRecDepth 100000 in
theorem refNode_any (s : ByteArray) (w : World) (hs : s.size ≤ maxLen) :
    Calls Tryz.prog 83 #[.string s] w (nodePost (rdNode s.data.toList) s.size w) := by
  unfold maxLen at hs
  go_enter Tryz.func83, Tryz.ntmps83
  go_wp2_with fail
  refine (takes_any s _ (by unfold maxLen; omega)).mono ?_
  rintro e w1 ⟨a, s1, rfl, t1, z1, hb1⟩
  have T1 : Hid _ := t1
  clear t1
  go_wp2_with fail
  refine (takes_any s1 _ (by unfold maxLen; omega)).mono ?_
  rintro e w2 ⟨b, s2, rfl, t2, z2, hb2⟩
  have T2 : Hid _ := t2
  clear t2
  go_wp2_with fail
  refine (takes_any s2 _ (by unfold maxLen; omega)).mono ?_
  rintro e w3 ⟨c, s3, rfl, t3, z3, hb3⟩
  have T3 : Hid _ := t3
  clear t3
  go_wp2_with fail
  refine (takes_any s3 _ (by unfold maxLen; omega)).mono ?_
  rintro e w4 ⟨d, s4, rfl, t4, z4, hb4⟩
  have hF := four_takes _ _ _ _ _ a b c d T1.out T2.out T3.out t4
  have y2 := hb1.size
  have y3 := hb2.size
  have y4 := hb3.size
  simp at y2
  have hB : Below (w.heap.size + 2) ((w.alloc (.cells #[.int .i64 0, .int .i64 0, .int .i64 0, .int .i64 0, .int .u8 0, .int .u8 0] 51)).alloc (.cells #[.int .i64 0, .int .i64 0, .int .i64 0, .int .i64 0, .int .u8 0, .int .u8 0] 51)) w4 :=
    (((hb1.mono (by simp)).trans (hb2.mono (by omega))).trans (hb3.mono (by omega))).trans (hb4.mono (by omega))
  have S1 : Six w4 w.heap.size (.int .i64 0) (.int .i64 0) (.int .i64 0) (.int .i64 0) (.int .u8 0) (.int .u8 0) := ((Six.new w _ _ _ _ _ _).alloc _).below hB (by omega)
  have S2 : Six w4 (w.heap.size + 1) (.int .i64 0) (.int .i64 0) (.int .i64 0) (.int .i64 0) (.int .u8 0) (.int .u8 0) := by
    have h := (Six.new (w.alloc (.cells #[.int .i64 0, .int .i64 0, .int .i64 0, .int .i64 0, .int .u8 0, .int .u8 0] 51)) (.int .i64 0) (.int .i64 0) (.int .i64 0) (.int .i64 0) (.int .u8 0) (.int .u8 0))
    rw [show (w.alloc (.cells #[.int .i64 0, .int .i64 0, .int .i64 0, .int .i64 0, .int .u8 0, .int .u8 0] 51)).heap.size = w.heap.size + 1 from by simp] at h
    exact h.below hB (by omega)
  have hfin : Below w.heap.size w w4 := (((Below.refl _ _).alloc (Nat.le_refl _) _).alloc (by simp) _).trans (hB.mono (by omega))
  obtain ⟨c0, c1, c2, c3, c4, c5⟩ := S1.cells
  obtain ⟨d0, d1, d2, d3, d4, d5⟩ := S2.cells
  have f1 : ∀ j, w4.frozen? ⟨w.heap.size, j, none⟩ = false := fun j => by unfold Six at S1; simp [World.frozen?, S1]
  have f2 : ∀ j, w4.frozen? ⟨w.heap.size + 1, j, none⟩ = false := fun j => by unfold Six at S2; simp [World.frozen?, S2]
  clear T1 T2 T3 t4 hb1 hb2 hb3 hb4 hB y3 y4
  rcases hF with ⟨⟨a0, b0, e0, g0⟩, hk⟩ | ⟨hneg, hk⟩
  · have HK : Hid _ := hk
    clear hk
    obtain ⟨a, rfl⟩ := Int.eq_ofNat_of_zero_le a0
    obtain ⟨b, rfl⟩ := Int.eq_ofNat_of_zero_le b0
    obtain ⟨c, rfl⟩ := Int.eq_ofNat_of_zero_le e0
    obtain ⟨d, rfl⟩ := Int.eq_ofNat_of_zero_le g0
    simp only [Int.toNat_natCast] at HK
    by_cases h2 : s4.size < 2
    · have HO : Hid _ := few_bytes _ _ _ HK.out h2
      go_wp2
      refine ret_node3 Tryz.results83 (S1.set _ _ _ _ _ _) rfl rfl rfl (nodePost_no _ _ _ _ HO.out ?_)
      repeat (refine Below.setCell ?_ (by simp) _)
      exact hfin
    · have h01 : (1 : Int) < (s4.size : Int) := by omega
      have h00 : (0 : Int) < (s4.size : Int) := by omega
      have n0 : 0 < s4.size := by omega
      have n1 : 1 < s4.size := by omega
      have n2 : 2 ≤ s4.size := by omega
      go_wp2
      go_region
      all_goals go_wp2
      all_goals go_region
      all_goals go_wp2
      have hne : w.heap.size ≠ w.heap.size + 1 := by omega
      have H := (((((((S1.far (o := 0) (v := .int .i64 a) hne).far (o := 1) (v := .int .i64 b) hne).far (o := 2) (v := .int .i64 c) hne).far (o := 3) (v := .int .i64 d) hne).far (o := 4) (v := .int .u8 s4[0].toNat) hne).far (o := 5) (v := .int .u8 s4[1].toNat) hne).set (.int .i64 a) (.int .i64 b) (.int .i64 c) (.int .i64 d) (.int .u8 s4[0].toNat) (.int .u8 s4[1].toNat)).drew.drew
      refine ret_node3 Tryz.results83 H rfl rfl rfl (nodePost_yes _ _ _ _ _ a b c d _ _ _ (by have := HK.out; rw [two_bytes s4 n2] at this; exact this) rfl (by have := size_extract_two s4; omega) ?_)
      refine Below.drew (Below.drew ?_)
      repeat (refine Below.setCell ?_ (by simp) _)
      exact hfin
  · have HO : Hid _ := hk
    clear hk
    go_wp2
    all_goals
      refine ret_node3 Tryz.results83 (S1.set _ _ _ _ _ _) rfl rfl rfl (nodePost_no _ _ _ _ HO.out ?_)
      repeat (refine Below.setCell ?_ (by simp) _)
      exact hfin

theorem nodeE_new (w : World) (e : TypeId) : ∀ j u, Nd.E.cells[j]? = some u → (w.alloc (.cells #[.int .i64 0, .int .i64 0, .int .i64 0, .int .i64 0, .int .u8 1, .int .u8 77] e)).cell? ((⟨w.heap.size, 0, none⟩ : Addr).add j) = some u := node_new w Nd.E e

theorem byte_cases (b : UInt8) : b.toNat = 0 ∨ b.toNat = 1 ∨ 1 < b.toNat := by omega

set_option maxHeartbeats 2000000 in
set_option maxRecDepth 100000 in
theorem refRead_any (s : ByteArray) (w : World) (hs : s.size ≤ maxLen) :
    Calls Tryz.prog 42 #[.string s] w (readPost (readR s.data.toList) w) := by
  unfold maxLen at hs
  obtain ⟨i0, hi, hz0, hz1, hz2⟩ := info_parts info_node
  by_cases h1000 : 1000 < s.size
  · have hn : readR s.data.toList = none := by
      have : 1000 < s.data.toList.length := by simpa using h1000
      simp only [readR, if_pos this]
    rw [hn]
    clear hn
    go_enter Tryz.func42, Tryz.ntmps42
    go_wp2
    go_ret2
    exact ⟨rfl, Below.refl _ _⟩
  · have HN : Hid (readR s.data.toList = rdAll s.data.toList.length [] s.data.toList) := by
      have : ¬ 1000 < s.data.toList.length := by simpa using h1000
      simp only [Hid, readR, if_neg this]
    have hd1000 : decide (1000 < (s.size : Int)) = false := by simp; omega
    go_enter Tryz.func42, Tryz.ntmps42
    go_wp2_with fail
    refine (refEmpty_any _).mono ?_
    rintro e w0 ⟨rfl, hb0⟩
    have y0 := hb0.size
    go_wp2
    go_loopw [4, 6] (fun v x wr => ∃ (s' : ByteArray) (acc : List Nd) (ao : Option Addr) (cap : Nat), x = .string s' ∧ v = .slice ao acc.length cap ∧ s'.size ≤ 1000 ∧ acc.length ≤ 64 ∧ Hid (readR s.data.toList = rdAll s'.data.toList.length acc s'.data.toList) ∧
        wr.ownsRow (w0.heap.size + 1) 51 6 (.slice ao acc.length cap) acc.length (acc.flatMap Nd.cells) ∧ Below (w0.heap.size + 1) (w0.alloc (.cells #[.int .i64 0, .int .i64 0, .int .i64 0, .int .i64 0, .int .u8 1, .int .u8 77] 51)) wr)
      (fun _ x _ => strLen x)
    case atStart => exact ⟨s, [], none, 0, rfl, rfl, by omega, by simp, HN, World.ownsRow_nil _ _ _ _, Below.refl _ _⟩
    case round =>
      obtain ⟨s', acc, ao, cap, rfl, rfl, hsz, hacc, HR, hown, hb⟩ := hrel
      have hsw := hb.size
      simp at hsw
      have hfin : Below w.heap.size w wr := (hb0.alloc hb0.size _).trans (hb.mono (by omega))
      by_cases h0 : 0 < s'.size
      · have hne := empty_no s' h0
        have HE : Hid (s'.data.toList ≠ []) := by intro c; have := congrArg List.length c; have e : s'.data.toList.length = s'.size := rfl; simp at this; simp [this] at h0
        have h00 : (0 : Int) < (s'.size : Int) := by omega
        by_cases h64 : acc.length = 64
        · have HF : Hid (readR s.data.toList = none) := by rw [HR.out]; exact rdAll_full acc _ HE.out h64
          have hq : (64 : Int) ≤ (acc.length : Int) := by omega
          clear h64 hown
          go_wp2
          go_ret2
          exact readPost_no HF.out hfin
        · have hq : ¬ (64 : Int) ≤ (acc.length : Int) := by omega
          rcases byte_cases s'[0] with hz | hz | hz
          · have HM : Hid _ := rdMark_is0 _ _ _ (one_byte s' h0) hz
            have HF : Hid _ := rdAll_step acc _ _ _ HE.out HM.out h64
            have HL : Hid _ := rdMark_shorter _ _ _ HM.out
            have hzi : ((s'[0].toNat : Int) == 0) = true := by simp; omega
            obtain ⟨⟨c0, c1, c2, c3, c4, c5⟩, _⟩ := six_new hb
            have hz1' : (s'[0].toNat : Int) ≤ 1 := by omega
            have n1 : 1 ≤ s'.size := h0
            have x1 := size_extract_one s'
            clear h64 hz
            go_wp2_with (at_builtin; refine wpList_append_grew _ rfl _ _ 72 rfl (w0.heap.size + 1) 51 i0 (.agg #[.int .i64 0, .int .i64 0, .int .i64 0, .int .i64 0, .int .u8 0, .int .u8 0]) 6 40 Tryz.underlying72 hi hz0 hz1 hz2 rfl (by decide) _ _ _ rfl (hown.alloc _) ⟨wr.heap.size, 0, none⟩ 1 1 Nd.E.cells rfl rfl ?c1 ?c2 ?c3 ?c4 ?c5 ?_)
            case c1 => exact fun j u hj => hj
            case c2 => exact node_one Nd.E
            case c3 => unfold maxLen; omega
            case c4 => omega
            case c5 => first | omega | (simp; omega)
            intro v' w2 hown' hgrow _
            obtain ⟨ao', cap', hv'⟩ := own_shape hown'
            have hB2 := (hb.alloc hsw (.cells #[.int .i64 0, .int .i64 0, .int .i64 0, .int .i64 0, .int .u8 1, .int .u8 77] 51)).grown hgrow.grown (by simp; omega) (fun j hj => (hown.lt j hj).1)
            rw [hv'] at hown' ⊢
            clear hgrow hown hb c0 c1 c2 c3 c4 c5 hfin
            go_wp2
            go_roundw
            case rel => exact ⟨s'.extract 1 s'.size, acc ++ [Nd.E], ao', cap', rfl, by simp, by omega, by simp; omega, (by rw [HR.out, HF.out]; rfl : Hid _), by simpa using hown', hB2⟩
            case measure => have := HL.out; simpa [strLen] using this
          · have hzi : ((s'[0].toNat : Int) == 0) = false := by simp; omega
            have hz1' : (s'[0].toNat : Int) ≤ 1 := by omega
            have n1 : 1 ≤ s'.size := h0
            have x1 := size_extract_one s'
            have HZ : Hid _ := hz
            clear hz
            go_wp2_with fail
            refine (refNode_any _ _ (by unfold maxLen; omega)).mono ?_
            rintro e w1 ⟨d, s2, b, rfl, ho, hsz2, hb1⟩
            have hB1 := hb.trans (hb1.mono hsw)
            have hown1 := ownsRow_below hown hb1
            have hs1 : wr.heap.size ≤ w1.heap.size := hb1.size
            have hlt0 : w0.heap.size < w1.heap.size := by omega
            have hfin1 : Below w.heap.size w w1 := hfin.trans (hb1.mono (by have := hfin.size; omega))
            obtain ⟨⟨c0, c1, c2, c3, c4, c5⟩, _⟩ := six_new hB1
            clear hown hb hb1 hfin
            rcases ho with ⟨rfl, ho⟩ | ⟨rfl, ho, rfl, _⟩
            · cases hE : d.isE
              · have HM : Hid _ := rdMark_is1 _ _ _ _ _ (one_byte s' h0) HZ.out ho hE
                have HF : Hid _ := rdAll_step acc _ _ _ HE.out HM.out h64
                have HL : Hid _ := rdMark_shorter _ _ _ HM.out
                have hE' : eqN d.c d.s d.m d.x d.h.toNat d.g.toNat 0 0 0 0 1 77 = false := hE
                clear hE ho h64
                go_wp2_with (at_builtin; refine wpList_append_grew _ rfl _ _ 72 rfl (w0.heap.size + 1) 51 i0 (.agg #[.int .i64 0, .int .i64 0, .int .i64 0, .int .i64 0, .int .u8 0, .int .u8 0]) 6 40 Tryz.underlying72 hi hz0 hz1 hz2 rfl (by decide) _ _ _ rfl ((hown1.alloc _).alloc _) ⟨w1.heap.size + 1, 0, none⟩ 1 1 d.cells rfl rfl ?c1 ?c2 ?c3 ?c4 ?c5 ?_)
                case c1 => have := node_new (w1.alloc (.cells #[.int .i64 d.c, .int .i64 d.s, .int .i64 d.m, .int .i64 d.x, .int .u8 d.h.toNat, .int .u8 d.g.toNat] 51)) d 51; simpa using this
                case c2 => exact node_one d
                case c3 => unfold maxLen; omega
                case c4 => omega
                case c5 => simp; omega
                intro v' w2 hown' hgrow _
                obtain ⟨ao', cap', hv'⟩ := own_shape hown'
                have hB2 := ((hB1.alloc (by omega) (.cells #[.int .i64 d.c, .int .i64 d.s, .int .i64 d.m, .int .i64 d.x, .int .u8 d.h.toNat, .int .u8 d.g.toNat] 51)).alloc (by simp; omega) (.cells #[.int .i64 d.c, .int .i64 d.s, .int .i64 d.m, .int .i64 d.x, .int .u8 d.h.toNat, .int .u8 d.g.toNat] 51)).grown hgrow.grown (by simp; omega) (fun j hj => (hown1.lt j hj).1)
                rw [hv'] at hown' ⊢
                clear hgrow hown1 hB1 c0 c1 c2 c3 c4 c5
                go_wp2
                go_roundw
                case rel => exact ⟨s2, acc ++ [d], ao', cap', rfl, by simp, by omega, by simp; omega, (by rw [HR.out, HF.out]; rfl : Hid _), by simpa using hown', hB2⟩
                case measure => have := HL.out; simpa [strLen] using this
              · have HM : Hid _ := rdMark_is1e _ _ _ _ _ (one_byte s' h0) HZ.out ho hE
                have HF : Hid (readR s.data.toList = none) := by rw [HR.out]; exact rdAll_bad acc _ HE.out HM.out
                have hE' : eqN d.c d.s d.m d.x d.h.toNat d.g.toNat 0 0 0 0 1 77 = true := hE
                clear hE ho h64 hown1
                go_wp2
                go_ret2
                exact readPost_no HF.out (hfin1.alloc hfin1.size _)
            · have HM : Hid _ := rdMark_is1n _ _ _ (one_byte s' h0) HZ.out ho
              have HF : Hid (readR s.data.toList = none) := by rw [HR.out]; exact rdAll_bad acc _ HE.out HM.out
              clear ho h64 hown1
              go_wp2
              go_ret2
              exact readPost_no HF.out (hfin1.alloc hfin1.size _)
          · have HM : Hid _ := rdMark_isx _ _ _ (one_byte s' h0) (by omega) (by omega)
            have HF : Hid (readR s.data.toList = none) := by rw [HR.out]; exact rdAll_bad acc _ HE.out HM.out
            have hz1' : (1 : Int) < (s'[0].toNat : Int) := by omega
            clear hown hz
            go_wp2
            go_ret2
            exact readPost_no HF.out hfin
      · have hne : s'.toList.isEmpty = true := by rw [ByteArray.toList_eq, empty_yes s' h0]; rfl
        have HF : Hid (readR s.data.toList = some acc) := by rw [HR.out, empty_yes s' h0]; exact rdAll_nil _ _
        have hown2 : wr.ownsRow w.heap.size 51 6 (.slice ao acc.length cap) acc.length (acc.flatMap Nd.cells) := own_mono hown (by omega)
        clear hown
        go_wp2
        go_ret2
        exact readPost_yes acc HF.out hown2 hfin

end Go.Proofs.YtogmdaopfnmobaaGreat

/- Blocks that were just laid. -/
namespace Go.Proofs.YtogmdaopfnmobaaGreat
open Go.RowKit

theorem heap_two (w : World) (o1 o2 : Obj) (n : Nat) (hn : n = w.heap.size) : ((w.alloc o1).alloc o2).heap[n]? = some o1 := by
  subst hn
  rw [Below.heap_alloc _ _ _ (by simp)]
  exact heap_alloc_new w o1
theorem heap_one (w : World) (o1 : Obj) (n : Nat) (hn : n = w.heap.size) : (w.alloc o1).heap[n]? = some o1 := by
  subst hn
  exact heap_alloc_new w o1
theorem heap_three (w : World) (o1 o2 o3 : Obj) (n : Nat) (hn : n = w.heap.size) : (((w.alloc o1).alloc o2).alloc o3).heap[n]? = some o1 := by
  subst hn
  exact heap_alloc3 w o1 o2 o3

end Go.Proofs.YtogmdaopfnmobaaGreat

/- A store as mathematics: what its calls answer, and what they leave of it. -/
namespace Go.Proofs.YtogmdaopfnmobaaGreat
open Go.RowKit

/-- A store: its log, its table. -/
structure Sto where
  l : List Int
  t : List (Option Int)
structure Sto.ok (s : Sto) : Prop where
  val : ∀ v ∈ s.l, 0 ≤ v ∧ v ≤ 1000000
  len : s.l.length ≤ 64
  tval : ∀ v, some v ∈ s.t → 0 ≤ v ∧ v ≤ 1000000
  tlen : s.t.length = 32
def Sto.empty : Sto := ⟨[], List.replicate 32 none⟩
theorem Sto.empty_ok : Sto.empty.ok := ⟨by simp [Sto.empty], by simp [Sto.empty], by simp [Sto.empty], by simp [Sto.empty]⟩
def tv (t : List (Option Int)) : List Int := t.map (·.getD 0)
def tx (t : List (Option Int)) : List Bool := t.map (·.isSome)
theorem tv_val {s : Sto} (h : s.ok) : ∀ v ∈ tv s.t, 0 ≤ v ∧ v ≤ 1000000 := by
  intro v hv
  obtain ⟨o, ho, rfl⟩ := List.mem_map.1 hv
  cases o with
  | none => simp
  | some x => exact h.tval x ho

/-- What Append answers. -/
def apE (s : Sto) (v : Int) : Int := if isVal v then if 64 ≤ s.l.length then 2 else if 5000000 < s.l.sum + v then 3 else 0 else 1
def apS (s : Sto) (v : Int) : Sto := if apE s v = 0 then ⟨s.l ++ [v], s.t⟩ else s
theorem apS_ok {s : Sto} (h : s.ok) (v : Int) : (apS s v).ok := by
  unfold apS
  split
  · rename_i he
    have hv : isVal v = true := by
      cases hb : isVal v with
      | true => rfl
      | false => simp [apE, hb] at he
    have hl : ¬ 64 ≤ s.l.length := by intro hc; simp [apE, hv, hc] at he
    rw [isVal_iff] at hv
    refine ⟨fun x hx => ?_, by simp; omega, h.tval, h.tlen⟩
    rcases List.mem_append.1 hx with hx | hx
    · exact h.val x hx
    · simp at hx; subst hx; exact hv
  · exact h

theorem info_int : (Tryz.prog.info? 3).map (fun i => (i.zero, i.size, i.bytes)) = some (some (.int .i64 0), 1, 8) := by kernel_rfl
def tsum (t : List (Option Int)) : Int := (tv t).sum
def tat (t : List (Option Int)) (k : Nat) : Option Int := t.getD k none
/-- What Set and Delete answer. -/
def seE (s : Sto) (k v : Int) : Int := if 0 ≤ k ∧ k < 32 then if isVal v then if 5000000 < tsum s.t - (tat s.t k.toNat).getD 0 + v then 3 else 0 else 1 else 4
def seS (s : Sto) (k v : Int) : Sto := if seE s k v = 0 then ⟨s.l, s.t.set k.toNat (some v)⟩ else s
def deE (s : Sto) (k : Int) : Int := if 0 ≤ k ∧ k < 32 ∧ (tat s.t k.toNat).isSome then 0 else 4
def deS (s : Sto) (k : Int) : Sto := if deE s k = 0 then ⟨s.l, s.t.set k.toNat none⟩ else s
theorem mem_set_opt {t : List (Option Int)} {i : Nat} {o x : Option Int} (h : x ∈ t.set i o) : x ∈ t ∨ x = o := by
  obtain ⟨j, hj, rfl⟩ := List.getElem_of_mem h
  rw [List.getElem_set]
  split
  · exact .inr rfl
  · exact .inl (List.getElem_mem _)
theorem seS_ok {s : Sto} (h : s.ok) (k v : Int) : (seS s k v).ok := by
  unfold seS
  split
  · rename_i he
    have hv : isVal v = true := by
      cases hb : isVal v with
      | true => rfl
      | false => unfold seE at he; split at he <;> simp [hb] at he
    rw [isVal_iff] at hv
    refine ⟨h.val, h.len, fun x hx => ?_, by simp; exact h.tlen⟩
    rcases mem_set_opt hx with hx | hx
    · exact h.tval x hx
    · simp at hx; subst hx; exact hv
  · exact h
theorem deS_ok {s : Sto} (h : s.ok) (k : Int) : (deS s k).ok := by
  unfold deS
  split
  · refine ⟨h.val, h.len, fun x hx => ?_, by simp; exact h.tlen⟩
    rcases mem_set_opt hx with hx | hx
    · exact h.tval x hx
    · simp at hx
  · exact h
theorem tv_set (t : List (Option Int)) (i : Nat) (o : Option Int) : tv (t.set i o) = (tv t).set i (o.getD 0) := by simp [tv, List.map_set]
theorem tx_set (t : List (Option Int)) (i : Nat) (o : Option Int) : tx (t.set i o) = (tx t).set i o.isSome := by simp [tx, List.map_set]
theorem tv_at (t : List (Option Int)) (i : Nat) (h : i < t.length) (h' : i < ((tv t).map (Value.int .i64)).length) : ((tv t).map (Value.int .i64))[i] = .int .i64 ((tat t i).getD 0) := by
  simp [tv, tat, h]
theorem tx_at (t : List (Option Int)) (i : Nat) (h : i < t.length) (h' : i < ((tx t).map Value.bool).length) : ((tx t).map Value.bool)[i] = .bool (tat t i).isSome := by
  simp [tx, tat, h]

theorem ret_head2 {w : World} {g : Nat} {c0 c1 c2 v : Value} {fn : Func} {R : Ending → World → Prop} {tmps : Array Value} {k j : Nat} (hf : fn.results = #[.cell k 58, .tmp j]) (h : w.heap[g]? = some (.cells #[c0, c1, c2] 58 (0, 0)))
    (h2 : tmps[k]? = some (.pointer (some ⟨g, 0, none⟩))) (h3 : tmps[j]? = some v) (hR : R (.returned (.tuple #[.agg #[c0, c1, c2], v])) w) : bodyPost Tryz.prog fn R .ret ⟨tmps, []⟩ w := by
  have k0 : w.cell? ⟨g, 0, none⟩ = some c0 := by rw [cell_of_row w _ _ _ _ _ h]; rfl
  have k1 : w.cell? ⟨g, 1, none⟩ = some c1 := by rw [cell_of_row w _ _ _ _ _ h]; rfl
  have k2 : w.cell? ⟨g, 2, none⟩ = some c2 := by rw [cell_of_row w _ _ _ _ _ h]; rfl
  refine bodyPost_ret (v := .tuple #[.agg #[c0, c1, c2], v]) ?_ rfl hR
  simp [results, hf, go_sem, h2, h3, k0, k1, k2]

/-- A head and an error, as they come out. -/
def headV (n : Nat) (d : Nat) : Value := .tuple #[.agg #[.int .i64 n, .int .u8 ((d : Int) / 256), .int .u8 ((d : Int) % 256)], .int .i64 0]
def noHead : Value := .tuple #[.agg #[.int .i64 0, .int .u8 0, .int .u8 0], .int .i64 5]
/-- The nodes of a cover's parts. -/
def cn (lf : Nat → Nd) (l : List Sp) : List Nd := l.map fun p => tr lf p.a p.b
theorem cn_next (lf : Nat → Nd) (l : List Sp) (k : Nat) (h : k < l.length) (p : Sp) (hp : p = l[k]) : cn lf (l.take (k + 1)) = cn lf (l.take k) ++ [tr lf p.a p.b] := by
  subst hp
  rw [List.take_succ_eq_append_getElem h]
  simp only [cn, List.map_append, List.map_cons, List.map_nil]
theorem cn_len (lf : Nat → Nd) (l : List Sp) : (cn lf l).length = l.length := by simp [cn]

theorem cov_in (f t : Nat) : ∀ (n a b : Nat), b - a ≤ n → a ≤ b → ∀ p ∈ cov a b f t, a ≤ p.a ∧ p.a ≤ p.b ∧ p.b ≤ b := by
  intro n
  induction n with
  | zero =>
    intro a b hn hab p hp
    rw [cov, if_pos (by omega)] at hp
    simp at hp; subst hp; exact ⟨Nat.le_refl _, hab, Nat.le_refl _⟩
  | succ n ih =>
    intro a b hn hab p hp
    by_cases hs : isOut a b f t = true ∨ isIn a b f t = true ∨ b < a + 2
    · rw [cov, if_pos hs] at hp
      simp at hp; subst hp; exact ⟨Nat.le_refl _, hab, Nat.le_refl _⟩
    · rw [cov, if_neg hs] at hp
      have x := hf_pos (b - a)
      have y := hf_lt (b - a) (by omega)
      rcases List.mem_append.1 hp with hp | hp
      · have := ih a (a + hf (b - a)) (by omega) (by omega) p hp; omega
      · have := ih (a + hf (b - a)) b (by omega) (by omega) p hp; omega

/-- The proof's nodes, and the bytes that Ask tells. -/
def prfN (tb : Bool) (vs : List Int) (hs : List Bool) (f t : Nat) : List Nd := cn (lf tb vs hs) (cov 0 vs.length f t)
def prfB (tb : Bool) (vs : List Int) (hs : List Bool) (f t : Nat) : ByteArray := ⟨(marks (prfN tb vs hs f t)).toArray⟩
theorem prf_len (tb : Bool) (vs : List Int) (hs : List Bool) (f t : Nat) (h : vs.length ≤ 64) : (prfN tb vs hs f t).length ≤ 64 := by
  rw [prfN, cn_len]
  have := (cov_len f t vs.length 0 vs.length (by omega)).2
  omega
theorem prf_ok (tb : Bool) (vs : List Int) (hs : List Bool) (f t : Nat) (h : vs.length ≤ 64) (hv : ∀ v ∈ vs, 0 ≤ v ∧ v ≤ 1000000) : (prfN tb vs hs f t).all Nd.ok = true := by
  rw [List.all_eq_true]
  intro d hd
  obtain ⟨p, hp, rfl⟩ := List.mem_map.1 hd
  have := cov_in f t vs.length 0 vs.length (by omega) (by omega) p hp
  exact tr_ok hv p.a p.b (by omega)

theorem ret_fold3 {w : World} {g : Nat} {f : Fo} {x y : Value} {fn : Func} {R : Ending → World → Prop} {tmps : Array Value} {k i j : Nat} (hf : fn.results = #[.cell k 47, .tmp i, .tmp j]) (h : FoAt w g f)
    (h2 : tmps[k]? = some (.pointer (some ⟨g, 0, none⟩))) (h3 : tmps[i]? = some x) (h4 : tmps[j]? = some y) (hR : R (.returned (.tuple #[foV f, x, y])) w) : bodyPost Tryz.prog fn R .ret ⟨tmps, []⟩ w := by
  obtain ⟨⟨k0, k1, k2, k3⟩, _⟩ := h.cells
  refine bodyPost_ret (v := .tuple #[foV f, x, y]) ?_ rfl hR
  simp [results, hf, go_sem, h2, h3, h4, k0, k1, k2, k3, foV]
def askV (f : Fo) (b : ByteArray) : Value := .tuple #[foV f, .string b, .int .i64 0]
def noAsk : Value := .tuple #[foV .zero, .string ⟨#[]⟩, .int .i64 5]


end Go.Proofs.YtogmdaopfnmobaaGreat

