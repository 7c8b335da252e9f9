/- What the document's own answer does (notaryref): node, Read. -/
import Derived.Test.YtlggbcceoejkkaaGreatRef2
namespace Go.Proofs.YtlggbcceoejkkaaGreat
open Go.RowKit

attribute [local go_sem ↓] run_eql_node run_neq_node

theorem Six.far {w : World} {g b o : Nat} {c0 c1 c2 c3 c4 c5 v : Value} (h : Six w g c0 c1 c2 c3 c4 c5) (hne : g ≠ b) : Six (w.setCell ⟨b, o, none⟩ v) g c0 c1 c2 c3 c4 c5 := by
  unfold Six at h ⊢
  rw [Below.heap_setCell w ⟨b, o, none⟩ v g hne]; exact h
theorem rdNum_nil : rdNum [] = none := rfl
theorem rdNode_of4 (l l1 l2 l3 l4 : List UInt8) (a b c d : Nat) (h1 : rdNum l = some (a, l1)) (h2 : rdNum l1 = some (b, l2)) (h3 : rdNum l2 = some (c, l3)) (h4 : rdNum l3 = some (d, l4)) : rdK 4 l = some ([a, b, c, d], l4) := by
  simp [rdK, h1, h2, h3, h4]
theorem rdNode_bad1 (l : List UInt8) (h1 : rdNum l = none) : rdNode l = none := by simp [rdNode, rdK, h1]
theorem rdNode_bad2 (l l1 : List UInt8) (a : Nat) (h1 : rdNum l = some (a, l1)) (h2 : rdNum l1 = none) : rdNode l = none := by simp [rdNode, rdK, h1, h2]
theorem rdNode_bad3 (l l1 l2 : List UInt8) (a b : Nat) (h1 : rdNum l = some (a, l1)) (h2 : rdNum l1 = some (b, l2)) (h3 : rdNum l2 = none) : rdNode l = none := by simp [rdNode, rdK, h1, h2, h3]
theorem rdNode_bad4 (l l1 l2 l3 : List UInt8) (a b c : Nat) (h1 : rdNum l = some (a, l1)) (h2 : rdNum l1 = some (b, l2)) (h3 : rdNum l2 = some (c, l3)) (h4 : rdNum l3 = none) : rdNode l = none := by simp [rdNode, rdK, h1, h2, h3, h4]

/-- Four takes in turn: all four numbers and what is left, or no node. -/
theorem four_takes (l r1 r2 r3 r4 : List UInt8) (a b c d : Int) (h1 : tkOut (rdNum l) a r1) (h2 : tkOut (rdNum r1) b r2) (h3 : tkOut (rdNum r2) c r3) (h4 : tkOut (rdNum r3) d r4) :
    ((0 ≤ a ∧ 0 ≤ b ∧ 0 ≤ c ∧ 0 ≤ d) ∧ rdK 4 l = some ([a.toNat, b.toNat, c.toNat, d.toNat], r4)) ∨ ((a < 0 ∨ b < 0 ∨ c < 0 ∨ d < 0) ∧ rdNode l = none) := by
  rcases h1 with ⟨a0, h1⟩ | ⟨rfl, h1, _⟩
  · rcases h2 with ⟨b0, h2⟩ | ⟨rfl, h2, _⟩
    · rcases h3 with ⟨c0, h3⟩ | ⟨rfl, h3, _⟩
      · rcases h4 with ⟨d0, h4⟩ | ⟨rfl, h4, _⟩
        · exact .inl ⟨⟨a0, b0, c0, d0⟩, rdNode_of4 _ _ _ _ _ _ _ _ _ h1 h2 h3 h4⟩
        · exact .inr ⟨by omega, rdNode_bad4 _ _ _ _ _ _ _ h1 h2 h3 h4⟩
      · exact .inr ⟨by omega, rdNode_bad3 _ _ _ _ _ h1 h2 h3⟩
    · exact .inr ⟨by omega, rdNode_bad2 _ _ _ h1 h2⟩
  · exact .inr ⟨by omega, rdNode_bad1 _ h1⟩

set_option maxHeartbeats 1000000 in
set_option maxRecDepth 100000 in
theorem refNode_any (s : ByteArray) (w : World) (hs : s.size ≤ maxLen) :
    Calls Tryz.prog 61 #[.string s] w (nodePost (rdNode s.data.toList) s.size w) := by
  unfold maxLen at hs
  go_enter Tryz.func61, Tryz.ntmps61
  go_wp2_with fail
  refine (takes_any s _ (by unfold maxLen; omega)).mono ?_
  rintro e w1 ⟨a, s1, rfl, t1, z1, hb1⟩
  have T1 : Hid _ := t1
  clear t1
  go_wp2_with fail
  refine (takes_any s1 _ (by unfold maxLen; omega)).mono ?_
  rintro e w2 ⟨b, s2, rfl, t2, z2, hb2⟩
  have T2 : Hid _ := t2
  clear t2
  go_wp2_with fail
  refine (takes_any s2 _ (by unfold maxLen; omega)).mono ?_
  rintro e w3 ⟨c, s3, rfl, t3, z3, hb3⟩
  have T3 : Hid _ := t3
  clear t3
  go_wp2_with fail
  refine (takes_any s3 _ (by unfold maxLen; omega)).mono ?_
  rintro e w4 ⟨d, s4, rfl, t4, z4, hb4⟩
  have hF := four_takes _ _ _ _ _ a b c d T1.out T2.out T3.out t4
  have y2 := hb1.size
  have y3 := hb2.size
  have y4 := hb3.size
  simp at y2
  have hB : Below (w.heap.size + 2) ((w.alloc (.cells #[.int .i64 0, .int .i64 0, .int .i64 0, .int .i64 0, .int .u8 0, .int .u8 0] 46)).alloc (.cells #[.int .i64 0, .int .i64 0, .int .i64 0, .int .i64 0, .int .u8 0, .int .u8 0] 46)) w4 :=
    (((hb1.mono (by simp)).trans (hb2.mono (by omega))).trans (hb3.mono (by omega))).trans (hb4.mono (by omega))
  have S1 : Six w4 w.heap.size (.int .i64 0) (.int .i64 0) (.int .i64 0) (.int .i64 0) (.int .u8 0) (.int .u8 0) := ((Six.new w _ _ _ _ _ _).alloc _).below hB (by omega)
  have S2 : Six w4 (w.heap.size + 1) (.int .i64 0) (.int .i64 0) (.int .i64 0) (.int .i64 0) (.int .u8 0) (.int .u8 0) := by
    have h := (Six.new (w.alloc (.cells #[.int .i64 0, .int .i64 0, .int .i64 0, .int .i64 0, .int .u8 0, .int .u8 0] 46)) (.int .i64 0) (.int .i64 0) (.int .i64 0) (.int .i64 0) (.int .u8 0) (.int .u8 0))
    rw [show (w.alloc (.cells #[.int .i64 0, .int .i64 0, .int .i64 0, .int .i64 0, .int .u8 0, .int .u8 0] 46)).heap.size = w.heap.size + 1 from by simp] at h
    exact h.below hB (by omega)
  have hfin : Below w.heap.size w w4 := (((Below.refl _ _).alloc (Nat.le_refl _) _).alloc (by simp) _).trans (hB.mono (by omega))
  obtain ⟨c0, c1, c2, c3, c4, c5⟩ := S1.cells
  obtain ⟨d0, d1, d2, d3, d4, d5⟩ := S2.cells
  have f1 : ∀ j, w4.frozen? ⟨w.heap.size, j, none⟩ = false := fun j => by unfold Six at S1; simp [World.frozen?, S1]
  have f2 : ∀ j, w4.frozen? ⟨w.heap.size + 1, j, none⟩ = false := fun j => by unfold Six at S2; simp [World.frozen?, S2]
  clear T1 T2 T3 t4 hb1 hb2 hb3 hb4 hB y3 y4
  rcases hF with ⟨⟨a0, b0, e0, g0⟩, hk⟩ | ⟨hneg, hk⟩
  · have HK : Hid _ := hk
    clear hk
    obtain ⟨a, rfl⟩ := Int.eq_ofNat_of_zero_le a0
    obtain ⟨b, rfl⟩ := Int.eq_ofNat_of_zero_le b0
    obtain ⟨c, rfl⟩ := Int.eq_ofNat_of_zero_le e0
    obtain ⟨d, rfl⟩ := Int.eq_ofNat_of_zero_le g0
    simp only [Int.toNat_natCast] at HK
    by_cases h2 : s4.size < 2
    · have HO : Hid _ := few_bytes _ _ _ HK.out h2
      go_wp2
      refine ret_node3 Tryz.results61 (S1.set _ _ _ _ _ _) rfl rfl rfl (nodePost_no _ _ _ _ HO.out ?_)
      repeat (refine Below.setCell ?_ (by simp) _)
      exact hfin
    · have h01 : (1 : Int) < (s4.size : Int) := by omega
      have h00 : (0 : Int) < (s4.size : Int) := by omega
      have n0 : 0 < s4.size := by omega
      have n1 : 1 < s4.size := by omega
      have n2 : 2 ≤ s4.size := by omega
      go_wp2
      go_region
      all_goals go_wp2
      all_goals go_region
      all_goals go_wp2
      have hne : w.heap.size ≠ w.heap.size + 1 := by omega
      have H := (((((((S1.far (o := 0) (v := .int .i64 a) hne).far (o := 1) (v := .int .i64 b) hne).far (o := 2) (v := .int .i64 c) hne).far (o := 3) (v := .int .i64 d) hne).far (o := 4) (v := .int .u8 s4[0].toNat) hne).far (o := 5) (v := .int .u8 s4[1].toNat) hne).set (.int .i64 a) (.int .i64 b) (.int .i64 c) (.int .i64 d) (.int .u8 s4[0].toNat) (.int .u8 s4[1].toNat)).drew.drew
      refine ret_node3 Tryz.results61 H rfl rfl rfl (nodePost_yes _ _ _ _ _ a b c d _ _ _ (by have := HK.out; rw [two_bytes s4 n2] at this; exact this) rfl (by have := size_extract_two s4; omega) ?_)
      refine Below.drew (Below.drew ?_)
      repeat (refine Below.setCell ?_ (by simp) _)
      exact hfin
  · have HO : Hid _ := hk
    clear hk
    go_wp2
    all_goals
      refine ret_node3 Tryz.results61 (S1.set _ _ _ _ _ _) rfl rfl rfl (nodePost_no _ _ _ _ HO.out ?_)
      repeat (refine Below.setCell ?_ (by simp) _)
      exact hfin

theorem nodeE_new (w : World) (e : TypeId) : ∀ j u, Nd.E.cells[j]? = some u → (w.alloc (.cells #[.int .i64 0, .int .i64 0, .int .i64 0, .int .i64 0, .int .u8 1, .int .u8 77] e)).cell? ((⟨w.heap.size, 0, none⟩ : Addr).add j) = some u := node_new w Nd.E e

theorem own_mono {w : World} {base base' : Nat} {e : TypeId} {sz n : Nat} {v : Value} {xs : List Value} (h : w.ownsRow base e sz v n xs) (hb : base' ≤ base) : w.ownsRow base' e sz v n xs := by
  refine ⟨h.1, ?_⟩
  rcases h.2 with hn | ⟨g, cap, cur, hv, hg, rest⟩
  · exact .inl hn
  · exact .inr ⟨g, cap, cur, hv, by omega, rest⟩
theorem byte_cases (b : UInt8) : b.toNat = 0 ∨ b.toNat = 1 ∨ 1 < b.toNat := by omega

set_option maxHeartbeats 2000000 in
set_option maxRecDepth 100000 in
theorem refRead_any (s : ByteArray) (w : World) (hs : s.size ≤ maxLen) :
    Calls Tryz.prog 29 #[.string s] w (readPost (readR s.data.toList) w) := by
  unfold maxLen at hs
  obtain ⟨i0, hi, hz0, hz1, hz2⟩ := info_parts info_node
  by_cases h1000 : 1000 < s.size
  · have hn : readR s.data.toList = none := by
      have : 1000 < s.data.toList.length := by simpa using h1000
      simp only [readR, if_pos this]
    rw [hn]
    clear hn
    go_enter Tryz.func29, Tryz.ntmps29
    go_wp2
    go_ret2
    exact ⟨rfl, Below.refl _ _⟩
  · have HN : Hid (readR s.data.toList = rdAll s.data.toList.length [] s.data.toList) := by
      have : ¬ 1000 < s.data.toList.length := by simpa using h1000
      simp only [Hid, readR, if_neg this]
    have hd1000 : decide (1000 < (s.size : Int)) = false := by simp; omega
    go_enter Tryz.func29, Tryz.ntmps29
    go_wp2_with fail
    refine (refEmpty_any _).mono ?_
    rintro e w0 ⟨rfl, hb0⟩
    have y0 := hb0.size
    go_wp2
    go_loopw [4, 6] (fun v x wr => ∃ (s' : ByteArray) (acc : List Nd) (ao : Option Addr) (cap : Nat), x = .string s' ∧ v = .slice ao acc.length cap ∧ s'.size ≤ 1000 ∧ acc.length ≤ 64 ∧ Hid (readR s.data.toList = rdAll s'.data.toList.length acc s'.data.toList) ∧
        wr.ownsRow (w0.heap.size + 1) 46 6 (.slice ao acc.length cap) acc.length (acc.flatMap Nd.cells) ∧ Below (w0.heap.size + 1) (w0.alloc (.cells #[.int .i64 0, .int .i64 0, .int .i64 0, .int .i64 0, .int .u8 1, .int .u8 77] 46)) wr)
      (fun _ x _ => strLen x)
    case atStart => exact ⟨s, [], none, 0, rfl, rfl, by omega, by simp, HN, World.ownsRow_nil _ _ _ _, Below.refl _ _⟩
    case round =>
      obtain ⟨s', acc, ao, cap, rfl, rfl, hsz, hacc, HR, hown, hb⟩ := hrel
      have hsw := hb.size
      simp at hsw
      have hfin : Below w.heap.size w wr := (hb0.alloc hb0.size _).trans (hb.mono (by omega))
      by_cases h0 : 0 < s'.size
      · have hne := empty_no s' h0
        have HE : Hid (s'.data.toList ≠ []) := by intro c; have := congrArg List.length c; have e : s'.data.toList.length = s'.size := rfl; simp at this; simp [this] at h0
        have h00 : (0 : Int) < (s'.size : Int) := by omega
        by_cases h64 : acc.length = 64
        · have HF : Hid (readR s.data.toList = none) := by rw [HR.out]; exact rdAll_full acc _ HE.out h64
          have hq : (64 : Int) ≤ (acc.length : Int) := by omega
          clear h64 hown
          go_wp2
          go_ret2
          exact readPost_no HF.out hfin
        · have hq : ¬ (64 : Int) ≤ (acc.length : Int) := by omega
          rcases byte_cases s'[0] with hz | hz | hz
          · have HM : Hid _ := rdMark_is0 _ _ _ (one_byte s' h0) hz
            have HF : Hid _ := rdAll_step acc _ _ _ HE.out HM.out h64
            have HL : Hid _ := rdMark_shorter _ _ _ HM.out
            have hzi : ((s'[0].toNat : Int) == 0) = true := by simp; omega
            obtain ⟨⟨c0, c1, c2, c3, c4, c5⟩, _⟩ := six_new hb
            have hz1' : (s'[0].toNat : Int) ≤ 1 := by omega
            have n1 : 1 ≤ s'.size := h0
            have x1 := size_extract_one s'
            clear h64 hz
            go_wp2_with (at_builtin; refine wpList_append_grew _ rfl _ _ 39 rfl (w0.heap.size + 1) 46 i0 (.agg #[.int .i64 0, .int .i64 0, .int .i64 0, .int .i64 0, .int .u8 0, .int .u8 0]) 6 40 Tryz.underlying39 hi hz0 hz1 hz2 rfl (by decide) _ _ _ rfl (hown.alloc _) ⟨wr.heap.size, 0, none⟩ 1 1 Nd.E.cells rfl rfl ?c1 ?c2 ?c3 ?c4 ?c5 ?_)
            case c1 => exact fun j u hj => hj
            case c2 => exact node_one Nd.E
            case c3 => unfold maxLen; omega
            case c4 => omega
            case c5 => first | omega | (simp; omega)
            intro v' w2 hown' hgrow _
            obtain ⟨ao', cap', hv'⟩ := own_shape hown'
            have hB2 := (hb.alloc hsw (.cells #[.int .i64 0, .int .i64 0, .int .i64 0, .int .i64 0, .int .u8 1, .int .u8 77] 46)).grown hgrow.grown (by simp; omega) (fun j hj => (hown.lt j hj).1)
            rw [hv'] at hown' ⊢
            clear hgrow hown hb c0 c1 c2 c3 c4 c5 hfin
            go_wp2
            go_roundw
            case rel => exact ⟨s'.extract 1 s'.size, acc ++ [Nd.E], ao', cap', rfl, by simp, by omega, by simp; omega, (by rw [HR.out, HF.out]; rfl : Hid _), by simpa using hown', hB2⟩
            case measure => have := HL.out; simpa [strLen] using this
          · have hzi : ((s'[0].toNat : Int) == 0) = false := by simp; omega
            have hz1' : (s'[0].toNat : Int) ≤ 1 := by omega
            have n1 : 1 ≤ s'.size := h0
            have x1 := size_extract_one s'
            have HZ : Hid _ := hz
            clear hz
            go_wp2_with fail
            refine (refNode_any _ _ (by unfold maxLen; omega)).mono ?_
            rintro e w1 ⟨d, s2, b, rfl, ho, hsz2, hb1⟩
            have hB1 := hb.trans (hb1.mono hsw)
            have hown1 := ownsRow_below hown hb1
            have hs1 : wr.heap.size ≤ w1.heap.size := hb1.size
            have hlt0 : w0.heap.size < w1.heap.size := by omega
            have hfin1 : Below w.heap.size w w1 := hfin.trans (hb1.mono (by have := hfin.size; omega))
            obtain ⟨⟨c0, c1, c2, c3, c4, c5⟩, _⟩ := six_new hB1
            clear hown hb hb1 hfin
            rcases ho with ⟨rfl, ho⟩ | ⟨rfl, ho, rfl, _⟩
            · cases hE : d.isE
              · have HM : Hid _ := rdMark_is1 _ _ _ _ _ (one_byte s' h0) HZ.out ho hE
                have HF : Hid _ := rdAll_step acc _ _ _ HE.out HM.out h64
                have HL : Hid _ := rdMark_shorter _ _ _ HM.out
                have hE' : eqN d.c d.s d.m d.x d.h.toNat d.g.toNat 0 0 0 0 1 77 = false := hE
                clear hE ho h64
                go_wp2_with (at_builtin; refine wpList_append_grew _ rfl _ _ 39 rfl (w0.heap.size + 1) 46 i0 (.agg #[.int .i64 0, .int .i64 0, .int .i64 0, .int .i64 0, .int .u8 0, .int .u8 0]) 6 40 Tryz.underlying39 hi hz0 hz1 hz2 rfl (by decide) _ _ _ rfl ((hown1.alloc _).alloc _) ⟨w1.heap.size + 1, 0, none⟩ 1 1 d.cells rfl rfl ?c1 ?c2 ?c3 ?c4 ?c5 ?_)
                case c1 => have := node_new (w1.alloc (.cells #[.int .i64 d.c, .int .i64 d.s, .int .i64 d.m, .int .i64 d.x, .int .u8 d.h.toNat, .int .u8 d.g.toNat] 46)) d 46; simpa using this
                case c2 => exact node_one d
                case c3 => unfold maxLen; omega
                case c4 => omega
                case c5 => simp; omega
                intro v' w2 hown' hgrow _
                obtain ⟨ao', cap', hv'⟩ := own_shape hown'
                have hB2 := ((hB1.alloc (by omega) (.cells #[.int .i64 d.c, .int .i64 d.s, .int .i64 d.m, .int .i64 d.x, .int .u8 d.h.toNat, .int .u8 d.g.toNat] 46)).alloc (by simp; omega) (.cells #[.int .i64 d.c, .int .i64 d.s, .int .i64 d.m, .int .i64 d.x, .int .u8 d.h.toNat, .int .u8 d.g.toNat] 46)).grown hgrow.grown (by simp; omega) (fun j hj => (hown1.lt j hj).1)
                rw [hv'] at hown' ⊢
                clear hgrow hown1 hB1 c0 c1 c2 c3 c4 c5
                go_wp2
                go_roundw
                case rel => exact ⟨s2, acc ++ [d], ao', cap', rfl, by simp, by omega, by simp; omega, (by rw [HR.out, HF.out]; rfl : Hid _), by simpa using hown', hB2⟩
                case measure => have := HL.out; simpa [strLen] using this
              · have HM : Hid _ := rdMark_is1e _ _ _ _ _ (one_byte s' h0) HZ.out ho hE
                have HF : Hid (readR s.data.toList = none) := by rw [HR.out]; exact rdAll_bad acc _ HE.out HM.out
                have hE' : eqN d.c d.s d.m d.x d.h.toNat d.g.toNat 0 0 0 0 1 77 = true := hE
                clear hE ho h64 hown1
                go_wp2
                go_ret2
                exact readPost_no HF.out (hfin1.alloc hfin1.size _)
            · have HM : Hid _ := rdMark_is1n _ _ _ (one_byte s' h0) HZ.out ho
              have HF : Hid (readR s.data.toList = none) := by rw [HR.out]; exact rdAll_bad acc _ HE.out HM.out
              clear ho h64 hown1
              go_wp2
              go_ret2
              exact readPost_no HF.out (hfin1.alloc hfin1.size _)
          · have HM : Hid _ := rdMark_isx _ _ _ (one_byte s' h0) (by omega) (by omega)
            have HF : Hid (readR s.data.toList = none) := by rw [HR.out]; exact rdAll_bad acc _ HE.out HM.out
            have hz1' : (1 : Int) < (s'[0].toNat : Int) := by omega
            clear hown hz
            go_wp2
            go_ret2
            exact readPost_no HF.out hfin
      · have hne : s'.toList.isEmpty = true := by rw [ByteArray.toList_eq, empty_yes s' h0]; rfl
        have HF : Hid (readR s.data.toList = some acc) := by rw [HR.out, empty_yes s' h0]; exact rdAll_nil _ _
        have hown2 : wr.ownsRow w.heap.size 46 6 (.slice ao acc.length cap) acc.length (acc.flatMap Nd.cells) := own_mono hown (by omega)
        clear hown
        go_wp2
        go_ret2
        exact readPost_yes acc HF.out hown2 hfin

end Go.Proofs.YtlggbcceoejkkaaGreat
