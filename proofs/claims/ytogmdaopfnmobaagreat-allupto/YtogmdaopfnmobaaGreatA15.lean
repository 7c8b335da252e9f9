/- What the document's own answer does (notaryref): Part, Whole, Root. -/
import Derived.Test.YtogmdaopfnmobaaGreatA10
namespace Go.Proofs.YtogmdaopfnmobaaGreat
open Go.RowKit
set_option maxHeartbeats 2000000 in
set_option maxRecDepth 100000 in
theorem refPart_any (tb : Bool) (vv hv : Value) (vs : List Int) (hs : List Bool) : ∀ (n a b : Nat) (w : World), b - a ≤ n → b ≤ vs.length → TreeIn w w.heap.size vv hv vs hs →
    Calls Tryz.prog 46 #[.agg #[.bool tb, vv, hv], .int .i64 a, .int .i64 b] w fun e w' => e = .returned (ndV (tr (lf tb vs hs) a b)) ∧ Below w.heap.size w w' := by
  intro n
  induction n with
  | zero =>
    intro a b w hn hb hT
    obtain ⟨a1, p1, rfl, _⟩ := hT.hv1.ex
    obtain ⟨a2, p2, rfl, _⟩ := hT.hv2.ex
    rw [tr_none _ _ _ (by omega), ndV_E]
    have hge : (b : Int) ≤ a := by omega
    clear hT
    go_enter Tryz.func46, Tryz.ntmps46
    go_wp2_with fail
    refine (refEmpty_any _).mono ?_
    rintro e w1 ⟨rfl, hbl⟩
    have z1 : w.heap.size + 1 < w1.heap.size := by have := hbl.size; simp at this; omega
    have H6 : Hid (Six w1 (w.heap.size + 1) _ _ _ _ _ _) := (Six.at _ (w.heap.size + 1) (by simp) _ _ _ _ _ _).below hbl (by simp)
    have B1 : Hid (Below w.heap.size w w1) := (((Below.refl _ _).alloc (Nat.le_refl _) _).alloc (by simp) _).trans (hbl.mono (by simp; omega))
    have F6 : ∀ o, w1.frozen? ⟨w.heap.size + 1, o, none⟩ = false := fun o => by simp [World.frozen?, H6.out.eq]
    obtain ⟨k0, k1, k2, k3, k4, k5⟩ := H6.out.cells
    clear hbl
    go_wp2
    refine ret_node1 Tryz.results46 (H6.out.set _ _ _ _ _ _) rfl ⟨rfl, ?_⟩
    repeat (refine Below.setCell ?_ (by simp) _)
    exact B1.out
  | succ n ih =>
    intro a b w hn hb hT
    by_cases h0 : b ≤ a
    · exact (ih a b w (by omega) hb hT)
    have hvs := hT.small
    have HT : Hid _ := hT
    obtain ⟨a1, p1, rfl, _⟩ := hT.hv1.ex
    obtain ⟨a2, p2, rfl, _⟩ := hT.hv2.ex
    simp only [List.length_map] at HT ih ⊢
    clear hT
    have hge : ¬ (b : Int) ≤ a := by omega
    by_cases h1 : b < a + 2
    · obtain rfl : b = a + 1 := by omega
      rw [tr_one]
      clear ih
      have HS : ∀ w', Hid (TreeIn w' w'.heap.size (.slice a1 vs.length p1) (.slice a2 hs.length p2) vs hs → Calls Tryz.prog 87 _ w' _) := fun w' hT' => refSingle_any tb _ _ vs hs a w' hT' (by omega)
      generalize lf tb vs hs a = d at HS
      go_enter Tryz.func46, Tryz.ntmps46
      go_wp2_with fail
      refine ((HS _).out ((HT.out.below (((Below.refl _ _).alloc (Nat.le_refl _) _).alloc (by simp) _)).mono (by simp; omega))).mono ?_
      rintro e w1 ⟨rfl, hbl⟩
      rw [ndV]
      have z1 : w.heap.size + 1 < w1.heap.size := by have := hbl.size; simp at this; omega
      have H6 : Hid (Six w1 (w.heap.size + 1) _ _ _ _ _ _) := (Six.at _ (w.heap.size + 1) (by simp) _ _ _ _ _ _).below hbl (by simp)
      have B1 : Hid (Below w.heap.size w w1) := (((Below.refl _ _).alloc (Nat.le_refl _) _).alloc (by simp) _).trans (hbl.mono (by simp; omega))
      have F6 : ∀ o, w1.frozen? ⟨w.heap.size + 1, o, none⟩ = false := fun o => by simp [World.frozen?, H6.out.eq]
      obtain ⟨k0, k1, k2, k3, k4, k5⟩ := H6.out.cells
      clear hbl
      go_wp2
      refine ret_node1 Tryz.results46 (H6.out.set _ _ _ _ _ _) rfl ⟨rfl, ?_⟩
      repeat (refine Below.setCell ?_ (by simp) _)
      exact B1.out
    · have p := hf_pos (b - a)
      have q := hf_lt (b - a) (by omega)
      rw [tr_two _ a b (by omega)]
      have O1 : Hid _ := tr_ok (tb := tb) (hs := hs) HT.out.val a (a + hf (b - a)) (by omega)
      have O2 : Hid _ := tr_ok (tb := tb) (hs := hs) HT.out.val (a + hf (b - a)) b (by omega)
      have hne : ¬ (b : Int) - a = 1 := by omega
      have hne' : ((b : Int) - a == 1) = false := by simp [hne]
      have hsub : (b : Int) - a = ((b - a : Nat) : Int) := by omega
      obtain ⟨m, hm⟩ : ∃ m, m = b - a := ⟨_, rfl⟩
      rw [← hm] at p q O1 O2 hsub ⊢
      have I1 : ∀ w', Hid (TreeIn w' w'.heap.size (.slice a1 vs.length p1) (.slice a2 hs.length p2) vs hs → Calls Tryz.prog 46 _ w' _) := fun w' hT' => ih a (a + hf m) w' (by omega) (by omega) hT'
      have I2 : ∀ w', Hid (TreeIn w' w'.heap.size (.slice a1 vs.length p1) (.slice a2 hs.length p2) vs hs → Calls Tryz.prog 46 _ w' _) := fun w' hT' => ih (a + hf m) b w' (by omega) (by omega) hT'
      clear ih
      have hm2 : 2 ≤ m := by omega
      have hm3 : m ≤ 64 := by omega
      have hk : hf m < 64 := by omega
      have hab : a + hf m < 64 := by omega
      generalize tr (lf tb vs hs) a (a + hf m) = x at O1 I1
      generalize tr (lf tb vs hs) (a + hf m) b = y at O2 I2
      have HH : ∀ w', Hid (Calls Tryz.prog 88 #[.int .i64 m] w' _) := fun w' => refHalf_any m w' hm2 (by omega)
      generalize hf m = k at p q I1 I2 hk hab HH
      have hcast : ((a + k : Nat) : Int) = (a : Int) + k := by omega
      rw [hcast] at I1 I2
      clear hm hcast hm2
      go_enter Tryz.func46, Tryz.ntmps46
      go_wp2_with fail
      refine (HH _).out.mono ?_
      rintro e w1 ⟨rfl, hb1⟩
      have hc1 := oldc hb1
      have z0 : w.heap.size < w1.heap.size := by have := hb1.size; simp at this; omega
      have z1 : w.heap.size + 1 < w1.heap.size := by have := hb1.size; simp at this; omega
      have B1 : Hid (Below w.heap.size w w1) := (((Below.refl _ _).alloc (Nat.le_refl _) _).alloc (by simp) _).trans (hb1.mono (by simp; omega))
      have H6 : Hid (Six w1 (w.heap.size + 1) _ _ _ _ _ _) := (Six.at _ (w.heap.size + 1) (by simp) _ _ _ _ _ _).below hb1 (by simp)
      clear hb1 HH
      go_wp2_with fail
      refine ((I1 _).out ((HT.out.below B1.out).mono (by omega))).mono ?_
      rintro e w2 ⟨rfl, hb2⟩
      rw [ndV]
      have hc2 := oldc hb2
      have y0 : w.heap.size < w2.heap.size := by have := hb2.size; omega
      have y1 : w.heap.size + 1 < w2.heap.size := by have := hb2.size; omega
      have B2 : Hid (Below w.heap.size w w2) := B1.out.trans (hb2.mono (by omega))
      have H7 : Hid (Six w2 (w.heap.size + 1) _ _ _ _ _ _) := H6.out.below hb2 (by omega)
      clear hb2 I1 B1 H6
      go_wp2_with fail
      refine ((I2 _).out ((HT.out.below (B2.out.alloc (by omega) _)).mono (by simp; omega))).mono ?_
      rintro e w3 ⟨rfl, hb3⟩
      rw [ndV]
      have hc3 := oldc hb3
      have x0 : w.heap.size < w3.heap.size := by have := hb3.size; simp at this; omega
      have x1 : w.heap.size + 1 < w3.heap.size := by have := hb3.size; simp at this; omega
      have x2 : w2.heap.size < w3.heap.size := by have := hb3.size; simp at this; omega
      have B3 : Hid (Below w.heap.size w w3) := (B2.out.alloc (by omega) _).trans (hb3.mono (by simp; omega))
      have H8 : Hid (Six w3 (w.heap.size + 1) _ _ _ _ _ _) := (H7.out.alloc _).below hb3 (by simp; omega)
      clear hb3 I2 B2 H7
      go_wp2_with fail
      refine (show Calls Tryz.prog 89 #[ndV x, ndV y] _ _ from refAbove_any x y _ O1.out O2.out).mono ?_
      rintro e w4 ⟨rfl, hb4⟩
      rw [ndV]
      have v1 : w.heap.size + 1 < w4.heap.size := by have := hb4.size; simp at this; omega
      have B4 : Hid (Below w.heap.size w w4) := (B3.out.alloc (by omega) _).trans (hb4.mono (by simp; omega))
      have H9 : Hid (Six w4 (w.heap.size + 1) _ _ _ _ _ _) := (H8.out.alloc _).below hb4 (by simp; omega)
      have F9 : ∀ o, w4.frozen? ⟨w.heap.size + 1, o, none⟩ = false := fun o => by simp [World.frozen?, H9.out.eq]
      obtain ⟨k0, k1, k2, k3, k4, k5⟩ := H9.out.cells
      clear hb4 B3 H8 hc1 hc2 hc3
      go_wp2
      refine ret_node1 Tryz.results46 (H9.out.set _ _ _ _ _ _) rfl ⟨rfl, ?_⟩
      repeat (refine Below.setCell ?_ (by simp) _)
      exact B4.out
set_option maxHeartbeats 2000000 in
set_option maxRecDepth 100000 in
theorem refWhole_any (tb : Bool) (vv hv : Value) (vs : List Int) (hs : List Bool) (w : World) (hT : TreeIn w w.heap.size vv hv vs hs) :
    Calls Tryz.prog 15 #[.agg #[.bool tb, vv, hv]] w fun e w' => e = .returned (ndV (tr (lf tb vs hs) 0 vs.length)) ∧ Below w.heap.size w w' := by
  have HT : Hid _ := hT
  obtain ⟨a1, p1, rfl, _⟩ := hT.hv1.ex
  obtain ⟨a2, p2, rfl, _⟩ := hT.hv2.ex
  simp only [List.length_map] at HT ⊢
  clear hT
  have HP : ∀ w', Hid (TreeIn w' w'.heap.size (.slice a1 vs.length p1) (.slice a2 hs.length p2) vs hs → Calls Tryz.prog 46 _ w' _) := fun w' hT' => refPart_any tb _ _ vs hs vs.length 0 vs.length w' (by omega) (by omega) hT'
  generalize tr (lf tb vs hs) 0 vs.length = d at HP
  go_enter Tryz.func15, Tryz.ntmps15
  go_wp2_with fail
  refine ((HP _).out ((HT.out.below (((Below.refl _ _).alloc (Nat.le_refl _) _).alloc (by simp) _)).mono (by simp; omega))).mono ?_
  rintro e w1 ⟨rfl, hbl⟩
  rw [ndV]
  have z1 : w.heap.size + 1 < w1.heap.size := by have := hbl.size; simp at this; omega
  have H6 : Hid (Six w1 (w.heap.size + 1) _ _ _ _ _ _) := (Six.at _ (w.heap.size + 1) (by simp) _ _ _ _ _ _).below hbl (by simp)
  have B1 : Hid (Below w.heap.size w w1) := (((Below.refl _ _).alloc (Nat.le_refl _) _).alloc (by simp) _).trans (hbl.mono (by simp; omega))
  have F6 : ∀ o, w1.frozen? ⟨w.heap.size + 1, o, none⟩ = false := fun o => by simp [World.frozen?, H6.out.eq]
  obtain ⟨k0, k1, k2, k3, k4, k5⟩ := H6.out.cells
  clear hbl
  go_wp2
  refine ret_node1 Tryz.results15 (H6.out.set _ _ _ _ _ _) rfl ⟨rfl, ?_⟩
  repeat (refine Below.setCell ?_ (by simp) _)
  exact B1.out
set_option maxHeartbeats 2000000 in
set_option maxRecDepth 100000 in
theorem refRoot_any (n : Nat) (d : Nd) (w : World) (hn : n ≤ 34359738367) (hd : d.ok = true) :
    Calls Tryz.prog 16 #[.int .i64 n, ndV d] w fun e w' => e = .returned (.agg #[.int .u8 ((dg (hdText n d) : Int) / 256), .int .u8 ((dg (hdText n d) : Int) % 256)]) ∧ Below w.heap.size w w' := by
  have HN : ∀ w', Hid (Calls Tryz.prog 47 _ w' _) := fun w' => refNum_any n w' hn
  have HB : ∀ w', Hid (Calls Tryz.prog 48 _ w' _) := fun w' => refBytes_nd d w' hd
  have l1 := (num_length n).1
  have l2 := d.bytes_length
  unfold ndV
  go_enter Tryz.func16, Tryz.ntmps16
  go_wp2_with fail
  refine (HN _).out.mono ?_
  rintro e w1 ⟨t1, rfl, et1, hb1⟩
  have s1 : t1.size ≤ 7 := by rw [size_list, et1]; exact l1
  have E1 : Hid _ := et1
  have hc1 := oldc hb1
  have z0 : w.heap.size < w1.heap.size := by have := hb1.size; simp at this; omega
  have z1 : w.heap.size + 1 < w1.heap.size := by have := hb1.size; simp at this; omega
  have B1 : Hid (Below w.heap.size w w1) := (((Below.refl _ _).alloc (Nat.le_refl _) _).alloc (by simp) _).trans (hb1.mono (by simp; omega))
  have H6 : Hid (w1.heap[w.heap.size + 1]? = some (.cells #[.int .u8 0, .int .u8 0] 49 (0, 0))) := (hb1.block (w.heap.size + 1) (by simp)).trans (by
    have := heap_alloc_new (w.alloc (.cells #[.int .i64 d.c, .int .i64 d.s, .int .i64 d.m, .int .i64 d.x, .int .u8 (d.h.toNat : Int), .int .u8 (d.g.toNat : Int)] 51)) (.cells #[.int .u8 0, .int .u8 0] 49)
    simpa using this)
  clear hb1 et1 HN
  go_wp2_with fail
  refine (HB _).out.mono ?_
  rintro e w2 ⟨t2, rfl, et2, hb2⟩
  have s2 : t2.size ≤ 30 := by rw [size_list, et2]; exact l2
  have E2 : Hid _ := et2
  have y1 : w.heap.size + 1 < w2.heap.size := by have := hb2.size; omega
  have B2 : Hid (Below w.heap.size w w2) := B1.out.trans (hb2.mono (by omega))
  have H7 : Hid (w2.heap[w.heap.size + 1]? = some (.cells #[.int .u8 0, .int .u8 0] 49 (0, 0))) := (hb2.block _ z1).trans H6.out
  clear hb2 et2 HB B1 H6
  go_wp2_with fail
  refine (refHash_any _ _ (by simp only [size_app, size_byte]; unfold maxLen; omega)).mono ?_
  rintro e w4 ⟨rfl, hb4⟩
  have v1 : w.heap.size + 1 < w4.heap.size := by have := hb4.size; omega
  have B4 : Hid (Below w.heap.size w w4) := B2.out.trans (hb4.mono (by omega))
  have h9 : w4.heap[w.heap.size + 1]? = some (.cells #[.int .u8 0, .int .u8 0] 49 (0, 0)) := (hb4.block _ y1).trans H7.out
  have F9 : ∀ o, w4.frozen? ⟨w.heap.size + 1, o, none⟩ = false := fun o => by simp [World.frozen?, h9]
  have k0 : w4.cell? ⟨w.heap.size + 1, 0, none⟩ = some (.int .u8 0) := by rw [cell_of_row w4 _ _ _ _ _ h9]; rfl
  have k1 : w4.cell? ⟨w.heap.size + 1, 1, none⟩ = some (.int .u8 0) := by rw [cell_of_row w4 _ _ _ _ _ h9]; rfl
  have et : hdText n d = (⟨#[72]⟩ ++ t1 ++ t2 : ByteArray).data.toList := by rw [app_list, app_list, E1.out, E2.out]; simp [hdText]
  have ET : Hid _ := et
  clear et hb4 B2 H7 h9 hc1
  go_wp2
  refine bodyPost_ret (v := .agg #[.int .u8 ((dg (hdText n d) : Int) / 256), .int .u8 ((dg (hdText n d) : Int) % 256)]) ?_ rfl ⟨rfl, ?_⟩
  · rw [ET.out]
    simp [results, Tryz.results16, go_sem, k0, k1]
  · repeat (refine Below.setCell ?_ (by simp) _)
    exact B4.out
end Go.Proofs.YtogmdaopfnmobaaGreat

/- What the document's own answer does (notaryref): value, sum, Fold. -/
namespace Go.Proofs.YtogmdaopfnmobaaGreat
open Go.RowKit
set_option maxHeartbeats 400000 in
theorem refValue_any (v : Int) (w : World) (b : Bool) (hb : isVal v = b) : Calls Tryz.prog 39 #[.int .i64 v] w fun e w' => e = .returned (.bool b) ∧ w' = w := by
  by_cases h : 0 ≤ v
  · by_cases h2 : v ≤ 1000000
    · have : b = true := by rw [← hb]; simp [isVal, h, h2]
      subst this
      clear hb
      go_enter Tryz.func39, Tryz.ntmps39
      go_wp2
      go_ret
      exact ⟨rfl, rfl⟩
    · have : b = false := by rw [← hb]; simp [isVal, h2]
      subst this
      clear hb
      go_enter Tryz.func39, Tryz.ntmps39
      go_wp2
      go_ret
      exact ⟨rfl, rfl⟩
  · have : b = false := by rw [← hb]; simp [isVal, h]
    subst this
    clear hb
    go_enter Tryz.func39, Tryz.ntmps39
    go_wp2
    go_ret
    exact ⟨rfl, rfl⟩
set_option maxHeartbeats 400000 in
theorem refSum_any (vv : Value) (vs : List Int) (w : World) (hc : Cells1 w w.heap.size vv (vs.map (.int .i64))) (hv : ∀ v ∈ vs, 0 ≤ v ∧ v ≤ 1000000) (hn : vs.length ≤ 64) :
    Calls Tryz.prog 66 #[vv] w fun e w' => e = .returned (.int .i64 vs.sum) ∧ w' = w := by
  have HC : Hid _ := hc
  obtain ⟨ao, cap, rfl, _⟩ := hc.ex
  simp only [List.length_map] at HC ⊢
  go_enter Tryz.func66, Tryz.ntmps66
  go_wp2
  go_loop [3, 4] (fun n i => ∃ k : Nat, k ≤ vs.length ∧ i = .int .i64 k ∧ n = .int .i64 (vs.take k).sum) (fun _ i => vs.length - (intOf i).toNat)
  case atStart => exact ⟨0, Nat.zero_le _, rfl, rfl⟩
  case round =>
    obtain ⟨k, hk, rfl, rfl⟩ := hrel
    by_cases hlt : k < vs.length
    · obtain ⟨b, off, rfl, hb, hcell⟩ := HC.out.at k (.int .i64 vs[k]) (by simp [hlt])
      have HS : Hid _ := take_succ_sum vs k hlt
      have hb1 := sum_bd (vs.take k) fun v hv' => hv v (List.mem_of_mem_take hv')
      have hb2 := hv _ (List.getElem_mem hlt)
      have hl : (vs.take k).length ≤ 64 := by simp; omega
      generalize (vs.take k).sum = s at HS hb1
      generalize vs[k] = x at HS hb2 hcell
      go_wp2
      go_round
      case rel => exact ⟨k + 1, by omega, by go_num, by rw [HS.out]⟩
      case measure => simp [intOf]; omega
    · have e : vs.take k = vs := List.take_of_length_le (by omega)
      rw [e]
      go_wp2
      go_ret
      exact ⟨rfl, rfl⟩
set_option maxHeartbeats 1000000 in
set_option maxRecDepth 100000 in
theorem refFold_any (tb : Bool) (vv hv : Value) (vs : List Int) (hs : List Bool) (a b : Nat) (w : World) (hT : TreeIn w w.heap.size vv hv vs hs) (hab : a ≤ b) (hb : b ≤ vs.length) :
    Calls Tryz.prog 137 #[.agg #[.bool tb, vv, hv], .int .i64 a, .int .i64 b] w fun e w' => e = .returned (foV (fv (lf tb vs hs) a (b - a))) ∧ Below w.heap.size w w' := by
  have HT : Hid _ := hT
  have HL : Hid _ := hT.len
  have hsm := hT.small
  obtain ⟨a1, p1, rfl, _⟩ := hT.hv1.ex
  obtain ⟨a2, p2, rfl, _⟩ := hT.hv2.ex
  simp only [List.length_map] at HT ⊢
  clear hT
  go_enter Tryz.func137, Tryz.ntmps137
  go_wp2
  have hF : Hid (FoAt (((w.alloc (.cells #[.bool tb, .slice a1 vs.length p1, .slice a2 hs.length p2] 53)).alloc (.cells #[.int .i64 0, .int .i64 0, .int .i64 0, .int .i64 0] 47)).alloc (.cells #[.int .i64 0, .int .i64 0, .int .i64 0, .int .i64 0] 47)) (w.heap.size + 1 + 1) .zero) := FoAt.at _ _ (by simp) .zero
  have hG : Hid (FoAt (((w.alloc (.cells #[.bool tb, .slice a1 vs.length p1, .slice a2 hs.length p2] 53)).alloc (.cells #[.int .i64 0, .int .i64 0, .int .i64 0, .int .i64 0] 47)).alloc (.cells #[.int .i64 0, .int .i64 0, .int .i64 0, .int .i64 0] 47)) (w.heap.size + 1) .zero) := (FoAt.at _ _ (by simp) .zero).alloc _
  obtain ⟨W0, hW0⟩ : ∃ W0, W0 = (((w.alloc (.cells #[.bool tb, .slice a1 vs.length p1, .slice a2 hs.length p2] 53)).alloc (.cells #[.int .i64 0, .int .i64 0, .int .i64 0, .int .i64 0] 47)).alloc (.cells #[.int .i64 0, .int .i64 0, .int .i64 0, .int .i64 0] 47)) := ⟨_, rfl⟩
  have hb0 : Hid (W0.cell? ⟨w.heap.size, 0, none⟩ = some (.bool tb) ∧ W0.cell? ⟨w.heap.size, 1, none⟩ = some (.slice a1 vs.length p1) ∧ W0.cell? ⟨w.heap.size, 2, none⟩ = some (.slice a2 hs.length p2)) := by
    have hh := heap_alloc3 w (.cells #[.bool tb, .slice a1 vs.length p1, .slice a2 hs.length p2] 53) (.cells #[.int .i64 0, .int .i64 0, .int .i64 0, .int .i64 0] 47) (.cells #[.int .i64 0, .int .i64 0, .int .i64 0, .int .i64 0] 47)
    rw [← hW0] at hh
    show _ ∧ _ ∧ _
    refine ⟨?_, ?_, ?_⟩ <;> rw [cell_of_row W0 _ _ _ _ _ hh] <;> rfl
  have hB0 : Hid (Below w.heap.size w W0) := by rw [hW0]; exact (((Below.refl _ _).alloc (Nat.le_refl _) _).alloc (by simp) _).alloc (by simp; omega) _
  have hz0 : W0.heap.size = w.heap.size + 3 := by rw [hW0]; simp
  rw [← hW0] at hF hG ⊢
  clear hW0
  go_loopw [8] (fun i wr => ∃ k : Nat, a ≤ k ∧ k ≤ b ∧ i = .int .i64 k ∧ Hid (FoAt wr (w.heap.size + 1 + 1) (fv (lf tb vs hs) a (k - a)) ∧ FoAt wr (w.heap.size + 1) .zero ∧ Below w.heap.size w wr ∧ wr.heap[w.heap.size]? = W0.heap[w.heap.size]?)) (fun i _ => b - (intOf i).toNat)
  case atStart => exact ⟨a, Nat.le_refl _, hab, rfl, by rw [Nat.sub_self]; exact hF.out, hG.out, hB0.out, rfl⟩
  case round =>
    obtain ⟨k, hk1, hk2, rfl, HR⟩ := hrel
    clear hF hG hB0
    obtain ⟨h1, h2, h3, h4⟩ := HR.out
    have c0 : wr.cell? ⟨w.heap.size, 0, none⟩ = some (.bool tb) := (World.cell?_of_block (a := ⟨w.heap.size, 0, none⟩) h4).trans hb0.out.1
    have c1 : wr.cell? ⟨w.heap.size, 1, none⟩ = some (.slice a1 vs.length p1) := (World.cell?_of_block (a := ⟨w.heap.size, 1, none⟩) h4).trans hb0.out.2.1
    have c2 : wr.cell? ⟨w.heap.size, 2, none⟩ = some (.slice a2 hs.length p2) := (World.cell?_of_block (a := ⟨w.heap.size, 2, none⟩) h4).trans hb0.out.2.2
    have l2 := h1.lt
    by_cases hlt : k < b
    · have hkv : k < vs.length := by omega
      have hkh : k < hs.length := by rw [HL.out]; exact hkv
      obtain ⟨b1, o1, hab1, hb1, d1⟩ := (HT.out.below h3).hv1.at k (.int .i64 vs[k]) (by simp [hkv])
      obtain ⟨b2, o2, hab2, hb2, d2⟩ := (HT.out.below h3).hv2.at k (.bool hs[k]) (by simp [hkh])
      subst hab1 hab2
      have HF : Hid (fv (lf tb vs hs) a (k + 1 - a) = tog (fv (lf tb vs hs) a (k - a)) (lf tb vs hs k).fold) := by
        rw [show k + 1 - a = (k - a) + 1 from by omega, fv, show a + (k - a) = k from by omega]; rfl
      have HG : Hid (lf tb vs hs k = if hs[k] then mkNd (.one vs[k]) (lfText tb k vs[k]) else .E) := by
        show _ = _; unfold lf; simp [hkv, hkh]
      have q := fv_bd (tb := tb) (hs := hs) HT.out.val a (k - a)
      have hgood := fv_good (lf_good (tb := tb) (vs := vs) (hs := hs)) a (k - a)
      have hval := HT.out.val _ (List.getElem_mem hkv)
      have i1 : (k : Int) < hs.length := by omega
      have i2 : (k : Int) < vs.length := by omega
      generalize fv (lf tb vs hs) a (k - a) = z at h1 HF q hgood HR
      generalize lf tb vs hs k = nd at HF HG
      obtain ⟨x, hx⟩ : ∃ x, x = vs[k] := ⟨_, rfl⟩
      rw [← hx] at d1 HG hval
      obtain ⟨hh, hhe⟩ : ∃ hh, hh = hs[k] := ⟨_, rfl⟩
      rw [← hhe] at d2 HG
      clear hx hhe hkv hkh HR
      cases hh with
      | false =>
        go_wp2
        go_roundw
        case rel => exact ⟨k + 1, by omega, by omega, by go_num, by rw [HF.out, HG.out]; simp only [Bool.false_eq_true, if_false]; rw [show Nd.E.fold = .zero from rfl, tog_zero_right hgood]; exact ⟨h1, h2, h3, h4⟩⟩
        case measure => simp [intOf]; omega
      | true =>
        obtain ⟨⟨f0, f1, f2, f3⟩, _⟩ := h1.cells
        go_wp2_with fail
        refine (refTogether_any z.c z.s z.m z.x 1 x x x _ (by omega) (by omega) (by omega) (by omega)).mono ?_
        rw [show tog ⟨z.c, z.s, z.m, z.x⟩ ⟨1, x, x, x⟩ = fv (lf tb vs hs) a (k + 1 - a) from by rw [HF.out, HG.out]; rfl, HF.out]
        generalize tog z nd.fold = z' at HF
        rintro e w1 ⟨rfl, hbl⟩
        rw [foV]
        have l1 : w.heap.size + 1 + 1 < w1.heap.size := by have := hbl.size; omega
        have B1 : Hid (Below w.heap.size w w1) := h3.trans (hbl.mono h3.size)
        have F1 : FoAt w1 (w.heap.size + 1 + 1) z := h1.below hbl l2
        have F2 : Hid (FoAt w1 (w.heap.size + 1) .zero) := h2.below hbl h2.lt
        have F3 : Hid (w1.heap[w.heap.size]? = W0.heap[w.heap.size]?) := (hbl.block _ (by omega)).trans h4
        clear f0 f1 f2 f3 c0 c1 c2 d1 d2 h1 h2 h3 h4 hbl
        obtain ⟨⟨f0, f1, f2, f3⟩, ff⟩ := F1.cells
        have F4 : Hid _ := F1
        clear F1
        go_wp2
        go_roundw
        case rel =>
          refine ⟨k + 1, by omega, by omega, by go_num, hid ⟨?_, ?_, ?_, ?_⟩⟩
          · rw [HF.out]; exact FoAt.set F4.out _
          · exact (((F2.out.far (by omega)).far (by omega)).far (by omega)).far (by omega)
          · repeat (refine Below.setCell ?_ (by simp; omega) _)
            exact B1.out
          · repeat (refine (Below.heap_setCell _ _ _ _ (by simp; omega)).trans ?_)
            exact F3.out
        case measure => simp [intOf]; omega
    · have hk' : k = b := by omega
      subst hk'
      obtain ⟨⟨f0, f1, f2, f3⟩, _⟩ := h1.cells
      obtain ⟨⟨g0, g1, g2, g3⟩, gg⟩ := h2.cells
      obtain ⟨z, hz⟩ : ∃ z, z = fv (lf tb vs hs) a (k - a) := ⟨_, rfl⟩
      rw [← hz] at h1 f0 f1 f2 f3
      have HZ : Hid _ := hz
      have H2 : Hid _ := h2
      have H3 : Hid _ := h3
      clear HR c0 c1 c2 hz h2 h3
      go_wp2
      refine ret_fold1 Tryz.results137 (FoAt.set (show FoAt _ _ _ from H2.out) z) rfl ⟨by rw [HZ.out], ?_⟩
      repeat (refine Below.setCell ?_ (by simp) _)
      exact H3.out
end Go.Proofs.YtogmdaopfnmobaaGreat

/- Blocks that were just laid. -/
namespace Go.Proofs.YtogmdaopfnmobaaGreat
open Go.RowKit
theorem heap_two (w : World) (o1 o2 : Obj) (n : Nat) (hn : n = w.heap.size) : ((w.alloc o1).alloc o2).heap[n]? = some o1 := by
  subst hn
  rw [Below.heap_alloc _ _ _ (by simp)]
  exact heap_alloc_new w o1
theorem heap_one (w : World) (o1 : Obj) (n : Nat) (hn : n = w.heap.size) : (w.alloc o1).heap[n]? = some o1 := by
  subst hn
  exact heap_alloc_new w o1
theorem heap_three (w : World) (o1 o2 o3 : Obj) (n : Nat) (hn : n = w.heap.size) : (((w.alloc o1).alloc o2).alloc o3).heap[n]? = some o1 := by
  subst hn
  exact heap_alloc3 w o1 o2 o3
end Go.Proofs.YtogmdaopfnmobaaGreat

/- A store as mathematics: what its calls answer, and what they leave of it. -/
namespace Go.Proofs.YtogmdaopfnmobaaGreat
open Go.RowKit
structure Sto where
  l : List Int
  t : List (Option Int)
structure Sto.ok (s : Sto) : Prop where
  val : ∀ v ∈ s.l, 0 ≤ v ∧ v ≤ 1000000
  len : s.l.length ≤ 64
  tval : ∀ v, some v ∈ s.t → 0 ≤ v ∧ v ≤ 1000000
  tlen : s.t.length = 32
def Sto.empty : Sto := ⟨[], List.replicate 32 none⟩
theorem Sto.empty_ok : Sto.empty.ok := ⟨by simp [Sto.empty], by simp [Sto.empty], by simp [Sto.empty], by simp [Sto.empty]⟩
def tv (t : List (Option Int)) : List Int := t.map (·.getD 0)
def tx (t : List (Option Int)) : List Bool := t.map (·.isSome)
theorem tv_val {s : Sto} (h : s.ok) : ∀ v ∈ tv s.t, 0 ≤ v ∧ v ≤ 1000000 := by
  intro v hv
  obtain ⟨o, ho, rfl⟩ := List.mem_map.1 hv
  cases o with
  | none => simp
  | some x => exact h.tval x ho
def apE (s : Sto) (v : Int) : Int := if isVal v then if 64 ≤ s.l.length then 2 else if 5000000 < s.l.sum + v then 3 else 0 else 1
def apS (s : Sto) (v : Int) : Sto := if apE s v = 0 then ⟨s.l ++ [v], s.t⟩ else s
theorem apS_ok {s : Sto} (h : s.ok) (v : Int) : (apS s v).ok := by
  unfold apS
  split
  · rename_i he
    have hv : isVal v = true := by
      cases hb : isVal v with
      | true => rfl
      | false => simp [apE, hb] at he
    have hl : ¬ 64 ≤ s.l.length := by intro hc; simp [apE, hv, hc] at he
    rw [isVal_iff] at hv
    refine ⟨fun x hx => ?_, by simp; omega, h.tval, h.tlen⟩
    rcases List.mem_append.1 hx with hx | hx
    · exact h.val x hx
    · simp at hx; subst hx; exact hv
  · exact h
theorem info_int : (Tryz.prog.info? 3).map (fun i => (i.zero, i.size, i.bytes)) = some (some (.int .i64 0), 1, 8) := by kernel_rfl
def tsum (t : List (Option Int)) : Int := (tv t).sum
def tat (t : List (Option Int)) (k : Nat) : Option Int := t.getD k none
def seE (s : Sto) (k v : Int) : Int := if 0 ≤ k ∧ k < 32 then if isVal v then if 5000000 < tsum s.t - (tat s.t k.toNat).getD 0 + v then 3 else 0 else 1 else 4
def seS (s : Sto) (k v : Int) : Sto := if seE s k v = 0 then ⟨s.l, s.t.set k.toNat (some v)⟩ else s
def deE (s : Sto) (k : Int) : Int := if 0 ≤ k ∧ k < 32 ∧ (tat s.t k.toNat).isSome then 0 else 4
def deS (s : Sto) (k : Int) : Sto := if deE s k = 0 then ⟨s.l, s.t.set k.toNat none⟩ else s
theorem mem_set_opt {t : List (Option Int)} {i : Nat} {o x : Option Int} (h : x ∈ t.set i o) : x ∈ t ∨ x = o := by
  obtain ⟨j, hj, rfl⟩ := List.getElem_of_mem h
  rw [List.getElem_set]
  split
  · exact .inr rfl
  · exact .inl (List.getElem_mem _)
theorem seS_ok {s : Sto} (h : s.ok) (k v : Int) : (seS s k v).ok := by
  unfold seS
  split
  · rename_i he
    have hv : isVal v = true := by
      cases hb : isVal v with
      | true => rfl
      | false => unfold seE at he; split at he <;> simp [hb] at he
    rw [isVal_iff] at hv
    refine ⟨h.val, h.len, fun x hx => ?_, by simp; exact h.tlen⟩
    rcases mem_set_opt hx with hx | hx
    · exact h.tval x hx
    · simp at hx; subst hx; exact hv
  · exact h
theorem deS_ok {s : Sto} (h : s.ok) (k : Int) : (deS s k).ok := by
  unfold deS
  split
  · refine ⟨h.val, h.len, fun x hx => ?_, by simp; exact h.tlen⟩
    rcases mem_set_opt hx with hx | hx
    · exact h.tval x hx
    · simp at hx
  · exact h
theorem tv_set (t : List (Option Int)) (i : Nat) (o : Option Int) : tv (t.set i o) = (tv t).set i (o.getD 0) := by simp [tv, List.map_set]
theorem tx_set (t : List (Option Int)) (i : Nat) (o : Option Int) : tx (t.set i o) = (tx t).set i o.isSome := by simp [tx, List.map_set]
theorem tv_at (t : List (Option Int)) (i : Nat) (h : i < t.length) (h' : i < ((tv t).map (Value.int .i64)).length) : ((tv t).map (Value.int .i64))[i] = .int .i64 ((tat t i).getD 0) := by
  simp [tv, tat, h]
theorem tx_at (t : List (Option Int)) (i : Nat) (h : i < t.length) (h' : i < ((tx t).map Value.bool).length) : ((tx t).map Value.bool)[i] = .bool (tat t i).isSome := by
  simp [tx, tat, h]
theorem ret_head2 {w : World} {g : Nat} {c0 c1 c2 v : Value} {fn : Func} {R : Ending → World → Prop} {tmps : Array Value} {k j : Nat} (hf : fn.results = #[.cell k 58, .tmp j]) (h : w.heap[g]? = some (.cells #[c0, c1, c2] 58 (0, 0)))
    (h2 : tmps[k]? = some (.pointer (some ⟨g, 0, none⟩))) (h3 : tmps[j]? = some v) (hR : R (.returned (.tuple #[.agg #[c0, c1, c2], v])) w) : bodyPost Tryz.prog fn R .ret ⟨tmps, []⟩ w := by
  have k0 : w.cell? ⟨g, 0, none⟩ = some c0 := by rw [cell_of_row w _ _ _ _ _ h]; rfl
  have k1 : w.cell? ⟨g, 1, none⟩ = some c1 := by rw [cell_of_row w _ _ _ _ _ h]; rfl
  have k2 : w.cell? ⟨g, 2, none⟩ = some c2 := by rw [cell_of_row w _ _ _ _ _ h]; rfl
  refine bodyPost_ret (v := .tuple #[.agg #[c0, c1, c2], v]) ?_ rfl hR
  simp [results, hf, go_sem, h2, h3, k0, k1, k2]
def headV (n : Nat) (d : Nat) : Value := .tuple #[.agg #[.int .i64 n, .int .u8 ((d : Int) / 256), .int .u8 ((d : Int) % 256)], .int .i64 0]
def noHead : Value := .tuple #[.agg #[.int .i64 0, .int .u8 0, .int .u8 0], .int .i64 5]
def cn (lf : Nat → Nd) (l : List Sp) : List Nd := l.map fun p => tr lf p.a p.b
theorem cn_next (lf : Nat → Nd) (l : List Sp) (k : Nat) (h : k < l.length) (p : Sp) (hp : p = l[k]) : cn lf (l.take (k + 1)) = cn lf (l.take k) ++ [tr lf p.a p.b] := by
  subst hp
  rw [List.take_succ_eq_append_getElem h]
  simp only [cn, List.map_append, List.map_cons, List.map_nil]
theorem cn_len (lf : Nat → Nd) (l : List Sp) : (cn lf l).length = l.length := by simp [cn]
theorem cov_in (f t : Nat) : ∀ (n a b : Nat), b - a ≤ n → a ≤ b → ∀ p ∈ cov a b f t, a ≤ p.a ∧ p.a ≤ p.b ∧ p.b ≤ b := by
  intro n
  induction n with
  | zero =>
    intro a b hn hab p hp
    rw [cov, if_pos (by omega)] at hp
    simp at hp; subst hp; exact ⟨Nat.le_refl _, hab, Nat.le_refl _⟩
  | succ n ih =>
    intro a b hn hab p hp
    by_cases hs : isOut a b f t = true ∨ isIn a b f t = true ∨ b < a + 2
    · rw [cov, if_pos hs] at hp
      simp at hp; subst hp; exact ⟨Nat.le_refl _, hab, Nat.le_refl _⟩
    · rw [cov, if_neg hs] at hp
      have x := hf_pos (b - a)
      have y := hf_lt (b - a) (by omega)
      rcases List.mem_append.1 hp with hp | hp
      · have := ih a (a + hf (b - a)) (by omega) (by omega) p hp; omega
      · have := ih (a + hf (b - a)) b (by omega) (by omega) p hp; omega
def prfN (tb : Bool) (vs : List Int) (hs : List Bool) (f t : Nat) : List Nd := cn (lf tb vs hs) (cov 0 vs.length f t)
def prfB (tb : Bool) (vs : List Int) (hs : List Bool) (f t : Nat) : ByteArray := ⟨(marks (prfN tb vs hs f t)).toArray⟩
theorem prf_len (tb : Bool) (vs : List Int) (hs : List Bool) (f t : Nat) (h : vs.length ≤ 64) : (prfN tb vs hs f t).length ≤ 64 := by
  rw [prfN, cn_len]
  have := (cov_len f t vs.length 0 vs.length (by omega)).2
  omega
theorem prf_ok (tb : Bool) (vs : List Int) (hs : List Bool) (f t : Nat) (h : vs.length ≤ 64) (hv : ∀ v ∈ vs, 0 ≤ v ∧ v ≤ 1000000) : (prfN tb vs hs f t).all Nd.ok = true := by
  rw [List.all_eq_true]
  intro d hd
  obtain ⟨p, hp, rfl⟩ := List.mem_map.1 hd
  have := cov_in f t vs.length 0 vs.length (by omega) (by omega) p hp
  exact tr_ok hv p.a p.b (by omega)
theorem ret_fold3 {w : World} {g : Nat} {f : Fo} {x y : Value} {fn : Func} {R : Ending → World → Prop} {tmps : Array Value} {k i j : Nat} (hf : fn.results = #[.cell k 47, .tmp i, .tmp j]) (h : FoAt w g f)
    (h2 : tmps[k]? = some (.pointer (some ⟨g, 0, none⟩))) (h3 : tmps[i]? = some x) (h4 : tmps[j]? = some y) (hR : R (.returned (.tuple #[foV f, x, y])) w) : bodyPost Tryz.prog fn R .ret ⟨tmps, []⟩ w := by
  obtain ⟨⟨k0, k1, k2, k3⟩, _⟩ := h.cells
  refine bodyPost_ret (v := .tuple #[foV f, x, y]) ?_ rfl hR
  simp [results, hf, go_sem, h2, h3, h4, k0, k1, k2, k3, foV]
def askV (f : Fo) (b : ByteArray) : Value := .tuple #[foV f, .string b, .int .i64 0]
def noAsk : Value := .tuple #[foV .zero, .string ⟨#[]⟩, .int .i64 5]
end Go.Proofs.YtogmdaopfnmobaaGreat

/- What the document's own answer does (notaryref): Text, HeadText. -/
namespace Go.Proofs.YtogmdaopfnmobaaGreat
open Go.RowKit
attribute [local go_sem ↓] run_eql_node run_neq_node
set_option maxHeartbeats 2000000 in
set_option maxRecDepth 100000 in
theorem refText_E (w : World) : Calls Tryz.prog 125 #[ndV .E, ndV .E] w fun e w' => e = .returned (.string ⟨#[69]⟩) ∧ Below w.heap.size w w' := by
  simp only [ndV_E]
  go_enter Tryz.func125, Tryz.ntmps125
  go_wp2_with fail
  refine (refEmpty_any _).mono ?_
  rintro e w1 ⟨rfl, hb1⟩
  have hc1 := oldc hb1
  have z0 : w.heap.size < w1.heap.size := by have := hb1.size; simp at this; omega
  have z1 : w.heap.size + 1 < w1.heap.size := by have := hb1.size; simp at this; omega
  have B1 : Hid (Below w.heap.size w w1) := hid (((((Below.refl _ _).alloc (Nat.le_refl _) _).alloc (by simp) _)).trans (hb1.mono (by simp; omega)))
  have he : eqN 0 0 0 0 1 77 0 0 0 0 1 77 = true := rfl
  clear hb1
  go_wp2
  go_ret
  exact ⟨rfl, B1.out.alloc (by omega) _⟩
set_option maxHeartbeats 2000000 in
set_option maxRecDepth 100000 in
theorem refText_N (x y : Nd) (b : Bool) (w : World) (hx : x.ok = true) (hy : y.ok = true) (ex : eqN x.c x.s x.m x.x x.h.toNat x.g.toNat 0 0 0 0 1 77 = b) (ey : b = true → eqN y.c y.s y.m y.x y.h.toNat y.g.toNat 0 0 0 0 1 77 = false) :
    Calls Tryz.prog 125 #[ndV x, ndV y] w fun e w' => e = .returned (.string ⟨((73 : UInt8) :: (x.bytes ++ y.bytes)).toArray⟩) ∧ Below w.heap.size w w' := by
  have HI : ∀ w', Hid (Calls Tryz.prog 127 #[ndV x, ndV y] w' fun e w2 => e = .returned (.string ⟨((73 : UInt8) :: (x.bytes ++ y.bytes)).toArray⟩) ∧ Below w'.heap.size w' w2) := fun w' => hid ((refInner_any x y w' hx hy).mono fun e w2 ⟨t, he, ht, hb⟩ => ⟨by rw [he, str_of ht], hb⟩)
  generalize (⟨((73 : UInt8) :: (x.bytes ++ y.bytes)).toArray⟩ : ByteArray) = T at HI ⊢
  clear hx hy
  obtain ⟨c, s, m, x, h, g⟩ := x
  obtain ⟨c', s', m', x', h', g'⟩ := y
  simp only [ndV] at HI ex ey ⊢
  cases b with
  | false =>
    clear ey
    go_enter Tryz.func125, Tryz.ntmps125
    go_wp2_with fail
    refine (refEmpty_any _).mono ?_
    rintro e w1 ⟨rfl, hb1⟩
    have hc1 := oldc hb1
    have z0 : w.heap.size < w1.heap.size := by have := hb1.size; simp at this; omega
    have z1 : w.heap.size + 1 < w1.heap.size := by have := hb1.size; simp at this; omega
    have B1 : Hid (Below w.heap.size w w1) := hid (((((Below.refl _ _).alloc (Nat.le_refl _) _).alloc (by simp) _)).trans (hb1.mono (by simp; omega)))
    clear hb1
    go_wp2_with fail
    refine (HI _).out.mono ?_
    rintro e w2 ⟨rfl, hb2⟩
    have B2 : Hid (Below w.heap.size w w2) := hid ((B1.out.alloc (by omega) _).trans (hb2.mono (by simp; omega)))
    clear hb2 B1 HI
    go_wp2
    go_ret
    exact ⟨rfl, B2.out⟩
  | true =>
    have ey := ey rfl
    go_enter Tryz.func125, Tryz.ntmps125
    go_wp2_with fail
    refine (refEmpty_any _).mono ?_
    rintro e w1 ⟨rfl, hb1⟩
    have hc1 := oldc hb1
    have z0 : w.heap.size < w1.heap.size := by have := hb1.size; simp at this; omega
    have z1 : w.heap.size + 1 < w1.heap.size := by have := hb1.size; simp at this; omega
    have B1 : Hid (Below w.heap.size w w1) := hid (((((Below.refl _ _).alloc (Nat.le_refl _) _).alloc (by simp) _)).trans (hb1.mono (by simp; omega)))
    clear hb1
    go_wp2_with fail
    refine (HI _).out.mono ?_
    rintro e w2 ⟨rfl, hb2⟩
    have B2 : Hid (Below w.heap.size w w2) := hid ((B1.out.alloc (by omega) _).trans (hb2.mono (by simp; omega)))
    clear hb2 B1 HI
    go_wp2
    go_ret
    exact ⟨rfl, B2.out⟩
theorem refText_any (x y : Nd) (w : World) (hx : x.ok = true) (hy : y.ok = true) :
    Calls Tryz.prog 125 #[ndV x, ndV y] w fun e w' => e = .returned (.string ⟨(abText x y).toArray⟩) ∧ Below w.heap.size w w' := by
  by_cases h : x = .E ∧ y = .E
  · obtain ⟨rfl, rfl⟩ := h
    exact refText_E w
  · unfold abText
    rw [if_neg h]
    refine refText_N x y _ w hx hy (eqN_E x) fun hb => ?_
    rw [eqN_E y]
    simp only [decide_eq_true_eq] at hb
    simp only [decide_eq_false_iff_not]
    exact fun hy => h ⟨hb, hy⟩
set_option maxHeartbeats 2000000 in
set_option maxRecDepth 100000 in
theorem refHeadText_any (n : Nat) (d : Nd) (w : World) (hn : n ≤ 34359738367) (hd : d.ok = true) :
    Calls Tryz.prog 85 #[.int .i64 n, ndV d] w fun e w' => e = .returned (.string ⟨(hdText n d).toArray⟩) ∧ Below w.heap.size w w' := by
  have HN : ∀ w', Hid (Calls Tryz.prog 47 _ w' _) := fun w' => refNum_any n w' hn
  have HB : ∀ w', Hid (Calls Tryz.prog 48 _ w' _) := fun w' => refBytes_nd d w' hd
  have l1 := (num_length n).1
  have l2 := d.bytes_length
  have HT : Hid (∀ t1 t2 : ByteArray, t1.data.toList = num n → t2.data.toList = d.bytes → (⟨#[72]⟩ ++ t1 ++ t2 : ByteArray) = ⟨(hdText n d).toArray⟩) := hid fun t1 t2 e1 e2 => str_of (by rw [app_list, app_list, e1, e2]; simp [hdText])
  unfold ndV
  go_enter Tryz.func85, Tryz.ntmps85
  go_wp2_with fail
  refine (HN _).out.mono ?_
  rintro e w1 ⟨t1, rfl, et1, hb1⟩
  have s1 : t1.size ≤ 7 := by rw [size_list, et1]; exact l1
  have E1 := hid et1
  have hc1 := oldc hb1
  have z0 : w.heap.size < w1.heap.size := by have := hb1.size; simp at this; omega
  have B1 : Hid (Below w.heap.size w w1) := hid (((Below.refl _ _).alloc (Nat.le_refl _) _).trans (hb1.mono (by simp)))
  clear hb1 et1 HN
  go_wp2_with fail
  refine (HB _).out.mono ?_
  rintro e w2 ⟨t2, rfl, et2, hb2⟩
  have s2 : t2.size ≤ 30 := by rw [size_list, et2]; exact l2
  have E2 := hid et2
  have B2 : Hid (Below w.heap.size w w2) := hid (B1.out.trans (hb2.mono (by omega)))
  clear hb2 et2 HB B1 hc1
  go_wp2
  go_ret
  exact ⟨by rw [← HT.out t1 t2 E1.out E2.out]; first | rfl | done, B2.out⟩
end Go.Proofs.YtogmdaopfnmobaaGreat

