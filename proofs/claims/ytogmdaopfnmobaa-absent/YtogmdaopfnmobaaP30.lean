/- What Absent does. -/
import Derived.Laws.MakeOwn
import Derived.Test.YtogmdaopfnmobaaP29
namespace Go.Proofs.Ytogmdaopfnmobaa
open Go.RowKit Go.Maps

attribute [local go_sem ↓] run_neq_fold
theorem info_boolK : (Try.prog.info? 4).map (fun i => (i.zero, i.size, i.bytes)) = some (some (.bool false), 1, 1) := by kernel_rfl
theorem made_oneK (v : Value) (n : Nat) : madeCells #[v] n = (List.replicate n v).toArray := by
  apply Array.ext
  · simp [size_madeCells]
  · intro i h1 h2
    simp [madeCells, Nat.mod_one]

theorem tat_rep (k : Nat) : tat (List.replicate 32 none) k = none := by
  unfold tat
  rw [List.getD_eq_getElem?_getD, List.getElem?_replicate]; split <;> rfl

set_option maxHeartbeats 8000000 in
set_option maxRecDepth 100000 in
theorem absent_any (v : Value) (l : List Kpt) (fr tt : Int) (w : World) (hl : KpS w w.heap.size v l) (hx : ∀ x ∈ l, (-9223372036854775808 ≤ x.k ∧ x.k ≤ 9223372036854775807) ∧ (-9223372036854775808 ≤ x.v ∧ x.v ≤ 9223372036854775807))
    (hf : -9223372036854775808 ≤ fr ∧ fr ≤ 9223372036854775807) (ht : -9223372036854775808 ≤ tt ∧ tt ≤ 9223372036854775807) :
    Calls Try.prog 6 #[v, .int .i64 fr, .int .i64 tt] w fun e w' => e = .returned (.bool true) ∧ Below w.heap.size w w' := by
  obtain ⟨i0, hi, hz0, hz1, hz2⟩ := info_parts info_boolK
  obtain ⟨j0, hj, hy0, hy1, hy2⟩ := info_parts info_int
  have m1 : ∀ u : World, (Instr.makeSlice 58 (.int .i64 32) (.int .i64 32)).run Try.prog u = .ok (.slice (some ⟨u.heap.size, 0, none⟩) 32 32) (u.alloc (.cells (List.replicate 32 (.bool false)).toArray 4)) := fun u => by
    have h := run_make (P := Try.prog) u 58 4 i0 (.bool false) Try.underlying58 hi hz0 .i64 .i64 32 32 (by omega) (Int.le_refl _) (by rw [hz2]; omega) (by omega)
    simpa [hz1, Value.cells, made_oneK] using h
  have m2 : ∀ u : World, (Instr.makeSlice 38 (.int .i64 32) (.int .i64 32)).run Try.prog u = .ok (.slice (some ⟨u.heap.size, 0, none⟩) 32 32) (u.alloc (.cells (List.replicate 32 (.int .i64 0)).toArray 3)) := fun u => by
    have h := run_make (P := Try.prog) u 38 3 j0 (.int .i64 0) Try.underlying38 hj hy0 .i64 .i64 32 32 (by omega) (Int.le_refl _) (by rw [hy2]; omega) (by omega)
    simpa [hy1, Value.cells, made_oneK] using h
  generalize hLb : (List.replicate 32 (Value.bool false)).toArray = Lb at m1
  generalize hLi : (List.replicate 32 (Value.int .i64 0)).toArray = Li at m2
  have HLb : Hid _ := hLb
  have HLi : Hid _ := hLi
  clear hLb hLi
  obtain ⟨ao, cap, rfl, hmax, hcells⟩ := hl.ex
  have HX := hid hx
  clear hl hx
  go_enter Try.func6, Try.ntmps6
  go_wp2_with fail
  refine (knows_any _).mono ?_
  rintro e w1 ⟨rfl, hb1⟩
  go_wp2_with fail
  refine (new_any _).mono ?_
  rintro e w2 ⟨S, M, rfl, hP, hb2⟩
  have HP := hid hP
  have HB2 := hid (hb1.trans (hb2.mono hb1.size))
  have hs1 := hb1.size
  have hs2 := hb2.size
  clear hP hb1 hb2
  go_wp2_with fail
  have hT0 : Tbs ((w2.alloc (.cells Lb 4)).alloc (.cells Li 3)) w1.heap.size S (List.replicate 32 none) (.slice none 0 0) M w2.heap.size (w2.heap.size + 1) (List.replicate 32 0) := by
    have hlt := HP.out.lt
    refine ⟨HP.out.below (((Below.refl _ _).alloc (Nat.le_refl _) _).alloc (by simp) _), ?_, ?_, by simp, fun k v hv => ?_, ?_, ?_, by omega, hs2, by omega⟩
    · rw [heap_two _ _ _ _ rfl, ← HLb.out]; rfl
    · rw [heap_one _ _ _ (by simp), ← HLi.out]; rfl
    · rw [tat_rep] at hv; cases hv
    · simp only [pfp, ob, Value.ownBlock, List.mem_cons, List.not_mem_nil, or_false]; omega
    · simp only [pfp, ob, Value.ownBlock, List.mem_cons, List.not_mem_nil, or_false]; omega
  have HT0 := hid hT0
  have HB0 : Hid (Below w.heap.size w ((w2.alloc (.cells Lb 4)).alloc (.cells Li 3))) := hid ((HB2.out.alloc (by omega) _).alloc (by simp; omega) _)
  clear hT0 HP HB2 m1 m2
  generalize hgB : w2.heap.size = gB at HT0 ⊢
  generalize hW0 : (w2.alloc (.cells Lb 4)).alloc (.cells Li 3) = W0 at HT0 HB0 ⊢
  clear hgB hW0 HLb HLi hi hz0 hz1 hz2
  go_loopw [11] (fun i wr => ∃ k : Nat, k ≤ l.length ∧ i = .int .i64 k ∧ Hid (∃ t lv vs, Tbs wr w1.heap.size S t lv M gB (gB + 1) vs) ∧ Hid (Below w.heap.size w wr)) (fun i _ => l.length - (intOf i).toNat)
  case atStart => exact ⟨0, Nat.zero_le _, rfl, hid ⟨_, _, _, HT0.out⟩, HB0⟩
  case round =>
    obtain ⟨k, hk, rfl, HT, HB⟩ := hrel
    by_cases hlt : k < l.length
    · obtain ⟨b, off, rfl, hbB, hc0, hc1, hc2⟩ := hcells k hlt
      obtain ⟨t, lv, vs, hT⟩ := HT.out
      obtain ⟨⟨x1, x2, x3⟩, hxe⟩ : ∃ x, x = l[k] := ⟨_, rfl⟩
      have hxx := HX.out _ (List.getElem_mem hlt)
      rw [← hxe] at hc0 hc1 hc2 hxx
      simp only at hc0 hc1 hc2 hxx
      have d0 := (HB.out.cell (p := ⟨b, off + k * 3, none⟩) hbB).trans hc0
      have d1 := (HB.out.cell (p := ⟨b, off + k * 3 + 1, none⟩) hbB).trans hc1
      have d2 := (HB.out.cell (p := ⟨b, off + k * 3 + 2, none⟩) hbB).trans hc2
      obtain ⟨a, ha, HPa⟩ := kpick_nat x1 32 (by decide) (by decide) hxx.1 32 rfl
      have haw : (Lit.int .i64 (a : Int)).wf = true := by simp [Lit.wf, IntKind.min, IntKind.max, IntKind.signed, IntKind.bits]; omega
      clear hcells hc0 hc1 hc2 hxe
      have HT1 := hid hT
      have hsB : w1.heap.size ≤ wr.heap.size := Nat.le_trans hT.bh (Nat.le_of_lt hT.lt.1)
      cases x3 with
      | true =>
        have HD := hid (delete_any wr w1.heap.size S ⟨[], t⟩ lv M a haw hT.st)
        rw [(deS_is t a ha).1, (deS_is t a ha).2] at HD
        have hh := (hT.has a ha).1
        have hsome : ∃ o, o = (tat t a).isSome := ⟨_, rfl⟩
        obtain ⟨o, ho⟩ := hsome
        rw [← ho] at HD hh
        have HO := hid ho
        clear hT ho
        have hz := (HT1.out.has a ha).2
        have HE : ∀ w3 lv3, Hid (Kept wr w3 (pfp S lv M) → PSt w3 w1.heap.size S ⟨[], t.set a none⟩ lv3 M → (∀ k ∈ ob lv3, k ∈ ob lv ∨ wr.heap.size ≤ k) → (∃ t lv vs, Tbs (w3.setCell ⟨gB, a, none⟩ (.bool false)) w1.heap.size S t lv M gB (gB + 1) vs) ∧ Below w.heap.size w (w3.setCell ⟨gB, a, none⟩ (.bool false)) ∧ w3.heap[gB]? = wr.heap[gB]?) := fun w3 lv3 => hid fun h1 h2 h3 =>
          ⟨⟨_, _, _, HT1.out.outs a ha h1 h2 h3⟩, ((HB.out.trans (h1.below HB.out.size (fun j hj => Nat.le_trans hs1 (HT1.out.st.fp j hj).1)))).setCell (by have := HT1.out.bh; simp; omega) _, (HT1.out.moved h1 h3).1.1⟩
        cases o with
        | true =>
          go_wp2_with (first | (go_at_call 14; refine (HPa _).out.mono ?_; rintro e w3 ⟨rfl, hw3⟩; rw [hw3]; clear hw3) | (go_at_call 23; refine HD.out.mono ?_; rintro e w3 ⟨rfl, hk3, lv3, hP3, hn3⟩; have HF := hid ((HE w3 lv3).out hk3 hP3 hn3); have hh3 := (World.cell?_of_block (a := ⟨gB, a, none⟩) HF.out.2.2).trans hh; have hz3 := (World.frozen?_of_block (a := ⟨gB, a, none⟩) HF.out.2.2).trans hz; clear hk3 hP3 hn3 hh hz))
          go_roundw
          case rel => exact ⟨k + 1, by omega, by push_cast; rfl, hid HF.out.1, hid HF.out.2.1⟩
          case measure => simp [intOf]; omega
        | false =>
          go_wp2_with (first | (go_at_call 14; refine (HPa _).out.mono ?_; rintro e w3 ⟨rfl, hw3⟩; rw [hw3]; clear hw3) | (go_at_call 23; refine HD.out.mono ?_; rintro e w3 ⟨rfl, hk3, lv3, hP3, hn3⟩; have HF := hid ((HE w3 lv3).out hk3 hP3 hn3); have hh3 := (World.cell?_of_block (a := ⟨gB, a, none⟩) HF.out.2.2).trans hh; have hz3 := (World.frozen?_of_block (a := ⟨gB, a, none⟩) HF.out.2.2).trans hz; clear hk3 hP3 hn3 hh hz))
          go_roundw
          case rel => exact ⟨k + 1, by omega, by push_cast; rfl, hid HF.out.1, hid HF.out.2.1⟩
          case measure => simp [intOf]; omega
      | false =>
        have hvb := vl_bd x2
        have HVL : ∀ w', Hid (Calls Try.prog 24 #[.int .i64 x2] w' fun e w2 => e = .returned (.int .i64 (vl x2)) ∧ w2 = w') := fun w' => hid (kvalue_any x2 w' hxx.2)
        generalize vl x2 = y at hvb HVL
        have HD := hid (set_any wr w1.heap.size S ⟨[], t⟩ lv M a y haw hT.st)
        have hse := seS_is t a y ha hT.tl hvb (fun k v hv => (hT.va k v hv).2)
        rw [hse.1, hse.2] at HD
        have hh := (hT.has a ha).1
        have hz := (hT.has a ha).2
        have hh1 := (hT.val a ha).1
        have hz1 := (hT.val a ha).2
        have HE : ∀ w3 lv3, Hid (Kept wr w3 (pfp S lv M) → PSt w3 w1.heap.size S ⟨[], t.set a (some y)⟩ lv3 M → (∀ k ∈ ob lv3, k ∈ ob lv ∨ wr.heap.size ≤ k) → (∃ t lv vs, Tbs ((w3.setCell ⟨gB, a, none⟩ (.bool true)).setCell ⟨gB + 1, a, none⟩ (.int .i64 y)) w1.heap.size S t lv M gB (gB + 1) vs) ∧ Below w.heap.size w ((w3.setCell ⟨gB, a, none⟩ (.bool true)).setCell ⟨gB + 1, a, none⟩ (.int .i64 y)) ∧ w3.heap[gB]? = wr.heap[gB]? ∧ w3.heap[gB + 1]? = wr.heap[gB + 1]?) := fun w3 lv3 => hid fun h1 h2 h3 =>
          ⟨⟨_, _, _, HT1.out.ins a ha y hvb h1 h2 h3⟩, (((HB.out.trans (h1.below HB.out.size (fun j hj => Nat.le_trans hs1 (HT1.out.st.fp j hj).1)))).setCell (by have := HT1.out.bh; simp; omega) _).setCell (by have := HT1.out.bh; simp; omega) _, (HT1.out.moved h1 h3).1⟩
        clear hT hse
        go_wp2_with (first | (go_at_call 14; refine (HPa _).out.mono ?_; rintro e w3 ⟨rfl, hw3⟩; rw [hw3]; clear hw3) | (go_at_call 24; refine (HVL _).out.mono ?_; rintro e w3 ⟨rfl, hw3⟩; rw [hw3]; clear hw3) | (go_at_call 25; refine HD.out.mono ?_; rintro e w3 ⟨rfl, hk3, lv3, hP3, hn3⟩; have HF := hid ((HE w3 lv3).out hk3 hP3 hn3); have hh3 := (World.cell?_of_block (a := ⟨gB, a, none⟩) HF.out.2.2.1).trans hh; have hz3 := (World.frozen?_of_block (a := ⟨gB, a, none⟩) HF.out.2.2.1).trans hz; have hh4 := (World.cell?_of_block (a := ⟨gB + 1, a, none⟩) HF.out.2.2.2).trans hh1; have hz4 := (World.frozen?_of_block (a := ⟨gB + 1, a, none⟩) HF.out.2.2.2).trans hz1; clear hk3 hP3 hn3 hh hz hh1 hz1))
        go_roundw
        case rel => exact ⟨k + 1, by omega, by push_cast; rfl, hid HF.out.1, hid HF.out.2.1⟩
        case measure => simp [intOf]; omega
    · obtain ⟨W1, hW1⟩ : ∃ W1, W1 = wr := ⟨_, rfl⟩
      subst hW1
      obtain ⟨t, lv, vs, hT⟩ := HT.out
      have HT1 := hid hT
      have hsB : w1.heap.size ≤ W1.heap.size := Nat.le_trans hT.bh (Nat.le_of_lt hT.lt.1)
      obtain ⟨a, ha, HPa⟩ := kpick_nat fr 33 (by decide) (by decide) hf 33 rfl
      obtain ⟨c, hc, HPc⟩ := kpick_nat tt (32 - a + 1) (by omega) (by omega) ht (32 - (a : Int) + 1) (by omega)
      have hac : a + c ≤ 32 := by omega
      clear HT hcells HX HT0 HB0
      go_wp2_with fail
      refine (HPa _).out.mono ?_
      rintro e w3 ⟨rfl, hw3⟩
      rw [hw3]
      clear hw3 HPa
      go_wp2_with fail
      refine (HPc _).out.mono ?_
      rintro e w3 ⟨rfl, hw3⟩
      rw [hw3]
      clear hw3 HPc
      go_wp2_with fail
      go_loopw [18, 19] (fun lw i wr => ∃ j : Nat, a ≤ j ∧ j ≤ a + c ∧ i = .int .i64 j ∧ wr.ownsRow W1.heap.size 3 1 lw (((t.drop a).take (j - a)).filterMap id).length ((((t.drop a).take (j - a)).filterMap id).map (.int .i64)) ∧ Hid (Below W1.heap.size W1 wr)) (fun _ i _ => a + c - (intOf i).toNat)
      case atStart => exact ⟨a, Nat.le_refl _, by omega, rfl, by simpa using World.ownsRow_nil _ _ _ _, hid (Below.refl _ _)⟩
      case round =>
        obtain ⟨j, hj1, hj2, rfl, hrow, HQ⟩ := hrel
        by_cases hj3 : j < a + c
        · have hTq := HT1.out.below HQ.out
          have hh := (hTq.has j (by omega)).1
          have hv := (hTq.val j (by omega)).1
          have hlen := hTq.tl
          have hva := hTq.va j
          have hns : ((t.drop a).take (j + 1 - a)).filterMap id = ((t.drop a).take (j - a)).filterMap id ++ (tat t j).toList := by
            rw [show j + 1 - a = (j - a) + 1 by omega, List.take_succ_eq_append_getElem (by simp; omega), List.filterMap_append, List.getElem_drop]
            congr 1
            have e : a + (j - a) = j := by omega
            simp only [e, tat, List.getD_eq_getElem?_getD, List.getElem?_eq_getElem (show j < t.length by omega), Option.getD_some]
            cases t[j] <;> rfl
          have hL6 : (((t.drop a).take (j - a)).filterMap id).length ≤ 32 := by
            refine Nat.le_trans (List.length_filterMap_le _ _) ?_
            simp; omega
          have HNS := hid hns
          have hsq := HQ.out.size
          have hj32 : j < 32 := by omega
          clear hns hTq
          generalize ((t.drop a).take (j - a)).filterMap id = L at hrow HNS hL6
          have HROW := hid hrow
          obtain ⟨ao2, cap2, rfl⟩ := own_shape hrow
          clear hrow
          cases e : tat t j with
          | none =>
            rw [e] at hh HNS
            simp only [Option.isSome_none] at hh
            clear e hva hv
            go_wp2_with fail
            go_roundw
            case rel => exact ⟨j + 1, by omega, by omega, by push_cast; rfl, by rw [HNS.out]; simpa using HROW.out, HQ⟩
            case measure => simp [intOf]; omega
          | some y =>
            rw [e] at hh HNS
            simp only [Option.isSome_some] at hh
            rw [(hva y e).1] at hv
            clear e hva
            have hown := HROW.out
            go_wp2_with (at_builtin; refine wpList_append_grew _ rfl _ _ 38 rfl W1.heap.size 3 j0 (.int .i64 0) 1 8 Try.underlying38 hj hy0 hy1 hy2 rfl (by decide) _ _ _ rfl (hown.alloc _) ⟨wr.heap.size, 0, none⟩ 1 1 [.int .i64 y] rfl rfl (cell_one_new _ _ _) (by simp [Value.oneCell']) (by unfold maxLen; omega) (by omega) (by simp; omega) ?_)
            rintro lw' w4 ho4 hg4 _
            have HB4 : Hid (Below W1.heap.size W1 w4) := hid (HQ.out.trans (((Below.refl _ wr).alloc hsq _).trans (hg4.toBelow W1.heap.size (by simp; omega) (fun q hq => (own_in HROW.out q (mem_ob.2 hq)).1))))
            have HO4 := hid (own_cast ho4 rfl (xs' := (L ++ [y]).map (Value.int .i64)) (by simp))
            clear ho4 hg4 hown
            go_wp2_with fail
            go_roundw
            case rel => exact ⟨j + 1, by omega, by omega, by push_cast; rfl, by rw [HNS.out]; simpa using HO4.out, HB4⟩
            case measure => simp [intOf]; omega
        · obtain rfl : j = a + c := by omega
          rw [show a + c - a = c by omega] at hrow
          obtain ⟨W2, hW2⟩ : ∃ W2, W2 = wr := ⟨_, rfl⟩
          subst hW2
          have hT2 := HT1.out.below HQ.out
          have HT2 := hid hT2
          have HB2 : Hid (Below w.heap.size w W2) := hid (HB.out.trans (HQ.out.mono HB.out.size))
          have hs2 := HB2.out.size
          obtain ⟨ao2, cap2, rfl⟩ := own_shape hrow
          have HR2 : Hid (Cells1 W2 W2.heap.size (.slice ao2 (kin t a c).length cap2) ((kin t a c).map (.int .i64))) := hid (own_cells1 hrow)
          have hkl := kin_len t a c
          have HKV := hid (kin_val hT2.st.ok.tval a c)
          have HHD : ∀ w', Hid (Below W2.heap.size W2 w' → Calls Try.prog 15 #[.pointer (some ⟨S, 0, none⟩), .int .i64 1, .int .i64 32] w' _) := fun w' => hid fun hb => tbs_head (hT2.below hb)
          have HAS : ∀ w' (p q : Nat) (B : Int), Hid (Below W2.heap.size W2 w' → p + q ≤ 32 → B = (p : Int) + q → Calls Try.prog 16 #[.pointer (some ⟨S, 0, none⟩), .int .i64 1, .int .i64 p, .int .i64 B] w' _) := fun w' p q B => hid fun hb h1 h2 => tbs_ask (hT2.below hb) p q h1 B h2
          have HCK : ∀ w' (p q : Nat) (B : Int), Hid (p + q ≤ 32 → B = (p : Int) + q → Calls Try.prog 18 #[.int .i64 1, .agg #[.int .i64 32, .int .u8 ((tbD t : Int) / 256), .int .u8 ((tbD t : Int) % 256)], .int .i64 p, .int .i64 B, foV (foA (kin t p q)), .string (prB (tbf t) 32 p (p + q))] w' _) := fun w' p q B => hid fun h1 h2 => tbs_check hT2 p q h1 B h2 w'
          have HFD : ∀ w', Hid (Below W2.heap.size W2 w' → Calls Try.prog 17 #[.slice ao2 (kin t a c).length cap2] w' _) := fun w' => hid fun hb => fold_any _ (kin t a c) w' ((HR2.out.below hb).mono hb.size) HKV.out (by omega)
          have HFI := hid (rfl : ((t.drop a).take c).filterMap id = kin t a c)
          rw [show (((t.drop a).take c).filterMap id) = kin t a c from rfl]
          clear hrow HQ HT1 HB hT2 HR2
          generalize (tbD t : Int) / 256 = d0 at HHD HCK
          generalize (tbD t : Int) % 256 = d1 at HHD HCK
          simp only [askV] at HAS
          have HAS1 := fun w' => HAS w' a c ((a : Int) + c)
          have HCK1 := fun w' => HCK w' a c ((a : Int) + c)
          generalize kin t a c = L at HAS1 HCK1 HFD hkl HKV HFI ⊢
          generalize foA L = F at HAS1 HCK1 HFD
          generalize prB (tbf t) 32 a (a + c) = P at HAS1 HCK1
          obtain ⟨F0, F1, F2, F3⟩ := F
          simp only [foV] at HAS1 HCK1 HFD
          go_wp2_with fail
          refine ((HHD W2).out (Below.refl _ _)).mono ?_
          rintro e w3 ⟨rfl, hb3⟩
          have HB3 := hid hb3
          have hs3 := hb3.size
          clear hb3 HHD
          go_wp2_with fail
          obtain ⟨W3, hW3⟩ : ∃ W, W = w3.alloc (.cells #[.int .i64 32, .int .u8 d0, .int .u8 d1] 44) := ⟨_, rfl⟩
          have hd3 : HdAt W3 w3.heap.size 32 d0 d1 := hW3 ▸ HdAt.at w3 _ rfl _ _ _
          have HW3 : Hid (Below W2.heap.size W2 W3) := hid (hW3 ▸ HB3.out.alloc hs3 _)
          rw [← hW3]
          clear hW3 HB3
          generalize w3.heap.size = g at hs3 hd3 ⊢
          refine ((HAS1 W3).out HW3.out hac trivial).mono ?_
          rintro e w4 ⟨rfl, hb4⟩
          have hd4 := hd3.below hb4 hd3.lt
          have HB4 := hid (HW3.out.trans (hb4.mono HW3.out.size))
          have hs4 := HB4.out.size
          have hg4 := hd4.lt
          clear hd3 hb4 HW3 HAS1
          go_wp2_with fail
          obtain ⟨W4, hW4⟩ : ∃ W, W = w4.alloc (.cells #[.int .i64 F0, .int .i64 F1, .int .i64 F2, .int .i64 F3] 29) := ⟨_, rfl⟩
          have hf4 : FoAt W4 w4.heap.size ⟨F0, F1, F2, F3⟩ := hW4 ▸ FoAt.at w4 _ rfl ⟨F0, F1, F2, F3⟩
          have hd4' : HdAt W4 g 32 d0 d1 := hW4 ▸ hd4.below ((Below.refl _ _).alloc (Nat.le_refl _) _) hg4
          have HW4 : Hid (Below W2.heap.size W2 W4) := hid (hW4 ▸ HB4.out.alloc hs4 _)
          rw [← hW4]
          clear hW4 HB4 hd4
          generalize w4.heap.size = g4 at hs4 hf4 hg4 ⊢
          refine ((HFD W4).out HW4.out).mono ?_
          rintro e w5 ⟨rfl, hb5⟩
          have hd5 := hd4'.below hb5 hd4'.lt
          have hf5 := hf4.below hb5 hf4.lt
          have HB5 := hid (HW4.out.trans (hb5.mono HW4.out.size))
          have hs5 := HB5.out.size
          have hg5 := hd5.lt
          have hl5 := hf5.lt
          clear hd4' hf4 hb5 HW4 HFD
          obtain ⟨hdc, hdz⟩ := hd5.cells
          obtain ⟨hfc, hfz⟩ := hf5.cells
          go_wp2_with fail
          obtain ⟨W5, hW5⟩ : ∃ W, W = w5.alloc (.cells #[.int .i64 F0, .int .i64 F1, .int .i64 F2, .int .i64 F3] 29) := ⟨_, rfl⟩
          have HH5 : Hid (HdAt W5 g 32 d0 d1 ∧ Below W2.heap.size W2 W5) := hid (hW5 ▸ ⟨hd5.below ((Below.refl _ _).alloc (Nat.le_refl _) _) hg5, HB5.out.alloc hs5 _⟩)
          rw [← hW5]
          clear hW5 HB5 hd5 hf5 hdc hdz hfc hfz
          generalize w5.heap.size = g5
          refine ((HCK1 W5).out hac trivial).mono ?_
          rintro e w6 ⟨rfl, hb6⟩
          have HH6 : Hid (HdAt w6 g 32 d0 d1 ∧ Below W2.heap.size W2 w6) := hid ⟨HH5.out.1.below hb6 HH5.out.1.lt, HH5.out.2.trans (hb6.mono HH5.out.2.size)⟩
          clear HH5 hb6 HCK1
          go_wp2_with fail
          obtain ⟨W6, hW6⟩ : ∃ W, W = w6.alloc (.cells #[.int .i64 0, .int .i64 0, .int .i64 0, .int .i64 0] 29) := ⟨_, rfl⟩
          have HH7 : Hid ((HdAt W6 g 32 d0 d1 ∧ FoAt W6 w6.heap.size .zero) ∧ Below W2.heap.size W2 W6) := hid (hW6 ▸ ⟨⟨HH6.out.1.below ((Below.refl _ _).alloc (Nat.le_refl _) _) HH6.out.1.lt, FoAt.at w6 _ rfl .zero⟩, HH6.out.2.alloc HH6.out.2.size _⟩)
          rw [← hW6]
          clear hW6 HH6
          generalize w6.heap.size = g6 at HH7 ⊢
          go_loopw [28] (fun i wr => ∃ q : Nat, q ≤ 32 ∧ i = .int .i64 q ∧ Hid (Below W6.heap.size W6 wr)) (fun i _ => 32 - (intOf i).toNat)
          case atStart => exact ⟨0, by omega, rfl, hid (Below.refl _ _)⟩
          case round =>
            obtain ⟨q, hq, rfl, HQ⟩ := hrel
            by_cases hlt3 : q < 32
            · have HTq := hid (HT2.out.below (HH7.out.2.trans (HQ.out.mono HH7.out.2.size)))
              have HBq : Hid (Below W2.heap.size W2 wr) := hid (HH7.out.2.trans (HQ.out.mono HH7.out.2.size))
              have HAq := hid ((HAS wr q 1 ((q : Int) + 1)).out HBq.out (by omega) (by simp))
              have HCq : ∀ w', Hid _ := fun w' => hid ((HCK w' q 1 ((q : Int) + 1)).out (by omega) (by simp))
              have HKO := hid (kin_one t q (by have := HT2.out.tl; omega))
              have hh := (HTq.out.has q hlt3)
              have hv := (HTq.out.val q hlt3)
              have HVA := hid (HTq.out.va q)
              have hsq := HQ.out.size
              generalize prB (tbf t) 32 q (q + 1) = P at HAq HCq
              rw [HKO.out] at HAq HCq
              cases e : tat t q with
              | none =>
                rw [e] at HAq HCq hh
                have e0 : foA ((none : Option Int).toList) = ⟨0, 0, 0, 0⟩ := rfl
                rw [e0] at HAq HCq
                simp only [foV, Option.isSome_none] at HAq HCq hh
                generalize vs.getD q 0 = z at hv
                have HE := hid e
                clear e HVA
                go_wp2_with fail
                refine HAq.out.mono ?_
                rintro e w7 ⟨rfl, hb7⟩
                have HH8 : Hid ((HdAt w7 g 32 d0 d1 ∧ FoAt w7 g6 .zero) ∧ Below wr.heap.size wr w7) := hid ⟨⟨(HH7.out.1.1.below HQ.out HH7.out.1.1.lt).below hb7 (by have := HH7.out.1.1.lt; omega), (HH7.out.1.2.below HQ.out HH7.out.1.2.lt).below hb7 (by have := HH7.out.1.2.lt; omega)⟩, hb7⟩
                have hs7 := hb7.size
                obtain ⟨hdc, hdz⟩ := HH8.out.1.1.cells
                have hl7 := HH8.out.1.1.lt
                clear hb7 HAq
                go_wp2_with fail
                obtain ⟨W7, hW7⟩ : ∃ W, W = w7.alloc (.cells #[.int .i64 0, .int .i64 0, .int .i64 0, .int .i64 0] 29) := ⟨_, rfl⟩
                have HH9 : Hid (((HdAt W7 g 32 d0 d1 ∧ FoAt W7 g6 .zero) ∧ FoAt W7 w7.heap.size .zero) ∧ Below wr.heap.size wr W7) := hid (hW7 ▸ ⟨⟨⟨HH8.out.1.1.below ((Below.refl _ _).alloc (Nat.le_refl _) _) HH8.out.1.1.lt, HH8.out.1.2.alloc _⟩, FoAt.at w7 _ rfl .zero⟩, HH8.out.2.alloc hs7 _⟩)
                rw [← hW7]
                clear hW7 HH8 hdc hdz hl7
                generalize w7.heap.size = g7 at HH9 hs7 ⊢
                refine (HCq W7).out.mono ?_
                rintro e w8 ⟨rfl, hb8⟩
                have HH10 : Hid (((HdAt w8 g 32 d0 d1 ∧ FoAt w8 g6 .zero) ∧ FoAt w8 g7 .zero) ∧ Below wr.heap.size wr w8) := hid ⟨⟨⟨HH9.out.1.1.1.below hb8 HH9.out.1.1.1.lt, HH9.out.1.1.2.below hb8 HH9.out.1.1.2.lt⟩, HH9.out.1.2.below hb8 HH9.out.1.2.lt⟩, HH9.out.2.trans (hb8.mono HH9.out.2.size)⟩
                have hhc := (HH10.out.2.cell (p := ⟨gB, q, none⟩) HTq.out.lt.1).trans hh.1
                have hvc := (HH10.out.2.cell (p := ⟨gB + 1, q, none⟩) HTq.out.lt.2).trans hv.1
                obtain ⟨hzc, _⟩ := HH10.out.1.1.2.cells
                obtain ⟨hoc, _⟩ := HH10.out.1.2.cells
                simp only [Fo.zero] at hzc hoc
                clear HH9 hb8 HCq hh hv
                go_wp2_with fail
                go_quiet (fail)
                go_wp2_with fail
                go_roundw
                case rel => exact ⟨q + 1, by omega, by push_cast; rfl, hid ((HQ.out.trans (HH10.out.2.mono hsq)).trans ((below_drewN w8 nq).mono (Nat.le_trans hsq HH10.out.2.size)))⟩
                case measure => simp [intOf]; omega
              | some y =>
                rw [e] at HAq HCq hh
                have e0 : foA ((some y : Option Int).toList) = ⟨1, y, y, y⟩ := tog_zero_left _
                rw [e0] at HAq HCq
                simp only [foV, Option.isSome_some] at HAq HCq hh
                rw [(HVA.out y e).1] at hv
                have HE := hid e
                clear e HVA
                go_wp2_with fail
                refine HAq.out.mono ?_
                rintro e w7 ⟨rfl, hb7⟩
                have HH8 : Hid ((HdAt w7 g 32 d0 d1 ∧ FoAt w7 g6 .zero) ∧ Below wr.heap.size wr w7) := hid ⟨⟨(HH7.out.1.1.below HQ.out HH7.out.1.1.lt).below hb7 (by have := HH7.out.1.1.lt; omega), (HH7.out.1.2.below HQ.out HH7.out.1.2.lt).below hb7 (by have := HH7.out.1.2.lt; omega)⟩, hb7⟩
                have hs7 := hb7.size
                obtain ⟨hdc, hdz⟩ := HH8.out.1.1.cells
                have hl7 := HH8.out.1.1.lt
                clear hb7 HAq
                go_wp2_with fail
                obtain ⟨W7, hW7⟩ : ∃ W, W = w7.alloc (.cells #[.int .i64 1, .int .i64 y, .int .i64 y, .int .i64 y] 29) := ⟨_, rfl⟩
                have HH9 : Hid (((HdAt W7 g 32 d0 d1 ∧ FoAt W7 g6 .zero) ∧ FoAt W7 w7.heap.size ⟨1, y, y, y⟩) ∧ Below wr.heap.size wr W7) := hid (hW7 ▸ ⟨⟨⟨HH8.out.1.1.below ((Below.refl _ _).alloc (Nat.le_refl _) _) HH8.out.1.1.lt, HH8.out.1.2.alloc _⟩, FoAt.at w7 _ rfl ⟨1, y, y, y⟩⟩, HH8.out.2.alloc hs7 _⟩)
                rw [← hW7]
                clear hW7 HH8 hdc hdz hl7
                generalize w7.heap.size = g7 at HH9 hs7 ⊢
                refine (HCq W7).out.mono ?_
                rintro e w8 ⟨rfl, hb8⟩
                have HH10 : Hid (((HdAt w8 g 32 d0 d1 ∧ FoAt w8 g6 .zero) ∧ FoAt w8 g7 ⟨1, y, y, y⟩) ∧ Below wr.heap.size wr w8) := hid ⟨⟨⟨HH9.out.1.1.1.below hb8 HH9.out.1.1.1.lt, HH9.out.1.1.2.below hb8 HH9.out.1.1.2.lt⟩, HH9.out.1.2.below hb8 HH9.out.1.2.lt⟩, HH9.out.2.trans (hb8.mono HH9.out.2.size)⟩
                have hhc := (HH10.out.2.cell (p := ⟨gB, q, none⟩) HTq.out.lt.1).trans hh.1
                have hvc := (HH10.out.2.cell (p := ⟨gB + 1, q, none⟩) HTq.out.lt.2).trans hv.1
                obtain ⟨hzc, _⟩ := HH10.out.1.1.2.cells
                obtain ⟨hoc, _⟩ := HH10.out.1.2.cells
                simp only [Fo.zero] at hzc hoc
                clear HH9 hb8 HCq hh hv
                go_wp2_with fail
                go_quiet (fail)
                go_wp2_with fail
                go_roundw
                case rel => exact ⟨q + 1, by omega, by push_cast; rfl, hid ((HQ.out.trans (HH10.out.2.mono hsq)).trans ((below_drewN w8 nq).mono (Nat.le_trans hsq HH10.out.2.size)))⟩
                case measure => simp [intOf]; omega
            · obtain rfl : q = 32 := by omega
              have HBf : Hid (Below w.heap.size w wr) := hid ((HB2.out.trans (HH7.out.2.mono hs2)).trans (HQ.out.mono (Nat.le_trans hs2 HH7.out.2.size)))
              clear HAS HCK HQ HH7 HT2
              go_wp2
              go_ret
              exact ⟨rfl, HBf.out⟩

end Go.Proofs.Ytogmdaopfnmobaa

