/- What readMarked does. -/
import Derived.Test.YtogmdaopfnmobaaGreatC07
namespace Go.Proofs.YtogmdaopfnmobaaGreat
open Go.RowKit
attribute [local go_sem ↓] run_eql_node run_neq_node
theorem one_byte (s : ByteArray) (h : 0 < s.size) : s.data.toList = s[0] :: (s.extract 1 s.size).data.toList := by
  rw [extract_list, ← drop_cons s 0 h]; rfl
theorem size_extract_one (s : ByteArray) : (s.extract 1 s.size).size ≤ s.size := size_extract_le s 1
set_option maxHeartbeats 1000000 in
set_option maxRecDepth 100000 in
theorem readMarked_zero (s : ByteArray) (w : World) (hs : s.size ≤ maxLen) (h0 : 0 < s.size) (hz : s[0].toNat = 0) :
    Calls Tryz.prog 117 #[.string s] w (nodePost (rdMark s.data.toList) s.size w) := by
  unfold maxLen at hs
  have HM : Hid (rdMark s.data.toList = some (Nd.E, (s.extract 1 s.size).data.toList)) := rdMark_is0 _ _ _ (one_byte s h0) hz
  have hzi : ((s[0].toNat : Int) == 0) = true := by simp; omega
  have h00 : (0 : Int) < (s.size : Int) := by omega
  have n1 : 1 ≤ s.size := h0
  clear hz
  go_enter Tryz.func117, Tryz.ntmps117
  go_wp2
  go_region_with (go_at_call 113; refine (empty_any _).mono ?_; rintro e w1 ⟨rfl, hb⟩; have hc1 := oldc hb; have hf1 := oldf hb; have hz1 : w.heap.size < w1.heap.size := by (have := hb.size; simp at this; omega))
  all_goals
    have hfin : Below w.heap.size w w1 := (((Below.refl _ _).alloc (Nat.le_refl _) _).drew).trans (hb.mono (by simp))
    go_wp2
    have H := (((Six.new w _ _ _ _ _ _).drew).below hb (by simp)).set (.int .i64 0) (.int .i64 0) (.int .i64 0) (.int .i64 0) (.int .u8 1) (.int .u8 77)
    refine ret_node3 Tryz.results117 H rfl rfl rfl ⟨Nd.E, _, true, rfl, .inl ⟨rfl, HM.out⟩, size_extract_one s, ?_⟩
    repeat (refine Below.setCell ?_ (by simp) _)
    exact hfin
set_option maxHeartbeats 1000000 in
set_option maxRecDepth 100000 in
theorem readMarked_one (s : ByteArray) (w : World) (hs : s.size ≤ maxLen) (h0 : 0 < s.size) (hz : s[0].toNat = 1) :
    Calls Tryz.prog 117 #[.string s] w (nodePost (rdMark s.data.toList) s.size w) := by
  unfold maxLen at hs
  have hzi : ((s[0].toNat : Int) == 0) = false := by simp; omega
  have hzj : ((s[0].toNat : Int) == 1) = true := by simp; omega
  have h00 : (0 : Int) < (s.size : Int) := by omega
  have n1 : 1 ≤ s.size := h0
  have hsz1 := size_extract_one s
  go_enter Tryz.func117, Tryz.ntmps117
  go_wp2_with fail
  refine (readNode_any _ _ (by unfold maxLen; omega)).mono ?_
  rintro e w1 ⟨d, s', b, rfl, ho, hsz, hb⟩
  have hc1 := oldc hb
  have hf1 := oldf hb
  have hz1 : w.heap.size < w1.heap.size := by have := hb.size; simp at this; omega
  have hfin1 : Below w.heap.size w w1 := ((Below.refl _ _).alloc (Nat.le_refl _) _).trans (hb.mono (by simp))
  rcases ho with ⟨rfl, ho⟩ | ⟨rfl, ho, rfl, _⟩
  · cases he : d.isE
    · have HO : Hid (rdMark s.data.toList = some (d, s'.data.toList)) := rdMark_is1 _ _ _ _ _ (one_byte s h0) hz ho he
      have he' : eqN d.c d.s d.m d.x d.h.toNat d.g.toNat 0 0 0 0 1 77 = false := he
      clear ho he hz
      go_wp2
      go_region_with (go_at_call 113; refine (empty_any _).mono ?_; rintro e w2 ⟨rfl, hb2⟩; have hc2 := oldc hb2; have hf2 := oldf hb2; have hz2 : w.heap.size < w2.heap.size := by (have := hb2.size; simp at this; omega))
      all_goals
        have hfin : Below w.heap.size w w2 := Below.trans (b := (((((w1.setCell ⟨w.heap.size, 0, none⟩ (.int .i64 d.c)).setCell ⟨w.heap.size, 1, none⟩ (.int .i64 d.s)).setCell ⟨w.heap.size, 2, none⟩ (.int .i64 d.m)).setCell ⟨w.heap.size, 3, none⟩ (.int .i64 d.x)).setCell ⟨w.heap.size, 4, none⟩ (.int .u8 d.h.toNat)).setCell ⟨w.heap.size, 5, none⟩ (.int .u8 d.g.toNat) |>.drew) (by refine Below.drew ?_; (repeat (refine Below.setCell ?_ (by simp) _)); exact hfin1) (hb2.mono (by simp; omega))
        go_wp2
        have H := ((((((Six.new w _ _ _ _ _ _).below hb (by simp)).set (.int .i64 d.c) (.int .i64 d.s) (.int .i64 d.m) (.int .i64 d.x) (.int .u8 d.h.toNat) (.int .u8 d.g.toNat)).drew).below hb2 (by simp; omega))).set (.int .i64 d.c) (.int .i64 d.s) (.int .i64 d.m) (.int .i64 d.x) (.int .u8 d.h.toNat) (.int .u8 d.g.toNat)
        refine ret_node3 Tryz.results117 H rfl rfl rfl ⟨d, s', true, rfl, .inl ⟨rfl, HO.out⟩, Nat.le_trans hsz hsz1, ?_⟩
        repeat (refine Below.setCell ?_ (by simp) _)
        exact hfin
    · have HO : Hid (rdMark s.data.toList = none) := rdMark_is1e _ _ _ _ _ (one_byte s h0) hz ho he
      have he' : eqN d.c d.s d.m d.x d.h.toNat d.g.toNat 0 0 0 0 1 77 = true := he
      clear ho he hz
      go_wp2
      go_region_with (go_at_call 113; refine (empty_any _).mono ?_; rintro e w2 ⟨rfl, hb2⟩; have hc2 := oldc hb2; have hf2 := oldf hb2; have hz2 : w.heap.size < w2.heap.size := by (have := hb2.size; simp at this; omega))
      all_goals
        have hfin : Below w.heap.size w w2 := Below.trans (b := (((((w1.setCell ⟨w.heap.size, 0, none⟩ (.int .i64 d.c)).setCell ⟨w.heap.size, 1, none⟩ (.int .i64 d.s)).setCell ⟨w.heap.size, 2, none⟩ (.int .i64 d.m)).setCell ⟨w.heap.size, 3, none⟩ (.int .i64 d.x)).setCell ⟨w.heap.size, 4, none⟩ (.int .u8 d.h.toNat)).setCell ⟨w.heap.size, 5, none⟩ (.int .u8 d.g.toNat) |>.drew) (by refine Below.drew ?_; (repeat (refine Below.setCell ?_ (by simp) _)); exact hfin1) (hb2.mono (by simp; omega))
        go_wp2
        have H := ((((((Six.new w _ _ _ _ _ _).below hb (by simp)).set (.int .i64 d.c) (.int .i64 d.s) (.int .i64 d.m) (.int .i64 d.x) (.int .u8 d.h.toNat) (.int .u8 d.g.toNat)).drew).below hb2 (by simp; omega))).set (.int .i64 0) (.int .i64 0) (.int .i64 0) (.int .i64 0) (.int .u8 0) (.int .u8 0)
        refine ret_node3 Tryz.results117 H rfl rfl rfl (nodePost_no _ _ _ _ HO.out ?_)
        repeat (refine Below.setCell ?_ (by simp) _)
        exact hfin
  · have HO : Hid (rdMark s.data.toList = none) := rdMark_is1n _ _ _ (one_byte s h0) hz ho
    clear ho hz
    go_wp2
    go_quiet (fail)
    go_wp2
    have H := ((((Six.new w _ _ _ _ _ _).below hb (by simp)).set (.int .i64 0) (.int .i64 0) (.int .i64 0) (.int .i64 0) (.int .u8 0) (.int .u8 0)).below (below_drewN _ nq) (by simp; omega)).set (.int .i64 0) (.int .i64 0) (.int .i64 0) (.int .i64 0) (.int .u8 0) (.int .u8 0)
    refine ret_node3 Tryz.results117 H rfl rfl rfl (nodePost_no _ _ _ _ HO.out ?_)
    · repeat (refine Below.setCell ?_ (by simp) _)
      refine Below.trans (b := (((((w1.setCell ⟨w.heap.size, 0, none⟩ (.int .i64 0)).setCell ⟨w.heap.size, 1, none⟩ (.int .i64 0)).setCell ⟨w.heap.size, 2, none⟩ (.int .i64 0)).setCell ⟨w.heap.size, 3, none⟩ (.int .i64 0)).setCell ⟨w.heap.size, 4, none⟩ (.int .u8 0)).setCell ⟨w.heap.size, 5, none⟩ (.int .u8 0)) ?_ ((below_drewN _ _).mono (by simp; omega))
      repeat (refine Below.setCell ?_ (by simp) _)
      exact hfin1
set_option maxHeartbeats 1000000 in
set_option maxRecDepth 100000 in
theorem readMarked_other (s : ByteArray) (w : World) (hs : s.size ≤ maxLen) (h0 : 0 < s.size) (hz : s[0].toNat ≠ 0) (hy : s[0].toNat ≠ 1) :
    Calls Tryz.prog 117 #[.string s] w (nodePost (rdMark s.data.toList) s.size w) := by
  unfold maxLen at hs
  have HM : rdMark s.data.toList = none := rdMark_isx _ _ _ (one_byte s h0) hz hy
  have hzi : ((s[0].toNat : Int) == 0) = false := by simp; omega
  have hzj : ((s[0].toNat : Int) == 1) = false := by simp; omega
  have h00 : (0 : Int) < (s.size : Int) := by omega
  rw [HM]
  clear HM hz hy
  go_enter Tryz.func117, Tryz.ntmps117
  go_wp2
  refine bodyPost_ret (v := .tuple #[.agg #[.int .i64 0, .int .i64 0, .int .i64 0, .int .i64 0, .int .u8 0, .int .u8 0], .string ⟨#[]⟩, .bool false]) ?_ rfl (nodePost_no _ _ _ _ rfl ?_)
  · simp [results, Tryz.results117, go_sem]
  · repeat (refine Below.setCell ?_ (by simp) _)
    exact (Below.refl _ _).alloc (Nat.le_refl _) _
end Go.Proofs.YtogmdaopfnmobaaGreat

