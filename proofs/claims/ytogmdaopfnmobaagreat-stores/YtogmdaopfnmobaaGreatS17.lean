/- The walk of plays, of a script however long. -/
import Derived.Test.YtogmdaopfnmobaaGreatS16
import Derived.Test.YtogmdaopfnmobaaGreatS14
namespace Go.Proofs.YtogmdaopfnmobaaGreat
open Go.RowKit
structure StepsB (w : World) (B : Nat) (v : Value) (S : List OpV) : Prop where
  ex : ∃ ao cap, v = .slice ao S.length cap ∧ S.length ≤ 9223372036854775807 ∧ ∀ (i : Nat) (hi : i < S.length), ∃ b off, ao = some ⟨b, off, none⟩ ∧ b < B ∧ w.rangeAt b (off + i * 18) (S[i]).cells ∧ ∀ u ∈ (S[i]).cells, u.oneCell' = true
set_option maxHeartbeats 8000000 in
set_option maxRecDepth 100000 in
theorem plays_big (w : World) (lo up : Int) (v : Value) (S : List OpV) (hS : StepsB w w.heap.size v S) (J : World → Nat → World → Prop)
    (hJ : ∀ w2, Opened (w.alloc (.cells worldC 70)) w2 → J w2 0 w2 ∧ Plan w.heap.size lo up (opsL (w.heap.size + 1) ++ S) (S.length + 18) w2 (J w2)) :
    Calls Tryz.prog 8 #[v, .int .i64 lo, .int .i64 up] w fun e w' => e = .returned (.bool true) ∧ Below w.heap.size w w' := by
  obtain ⟨ao, cap, rfl, hmax, hrows⟩ := hS.ex
  have HJ : Hid _ := hJ
  clear hJ hS
  go_enter Tryz.func8, Tryz.ntmps8
  go_wp2_with fail
  refine (opening_any _).mono ?_
  rintro e w2 ⟨rfl, hO⟩
  obtain ⟨j0, P⟩ := HJ.out w2 hO
  have hw2 : w2.heap.size = w.heap.size + 5 := by rw [hO.size]; simp
  have hops : w2.heap[w.heap.size + 4]? = some (.cells ((opsL (w.heap.size + 1)).flatMap OpV.cells).toArray 74 (0, 0)) := by
    have := hO.ops
    simpa [opsC, Nat.add_assoc] using this
  have hB2 : Below w.heap.size w w2 := ((Below.refl _ _).alloc (Nat.le_refl _) _).trans (hO.below.mono (by simp))
  obtain ⟨g, hg⟩ : ∃ g, g = w.heap.size + 4 := ⟨_, rfl⟩
  have e3 : (w.alloc (.cells #[.slice none 0 0, .int .i64 0, .slice none 0 0, .slice none 0 0, .slice none 0 0, .slice none 0 0] 70)).heap.size + 3 = g := by simp [hg]
  rw [e3]
  rw [← hg] at hops
  have hgA : g ≠ w.heap.size := by omega
  have hg2 : g < w2.heap.size := by omega
  clear hg e3
  have PP : Hid _ := P
  have H2 : Hid (Below w.heap.size w w2) := hB2
  have HO : Hid _ := hops
  clear HJ hO P hB2 hops
  generalize hL : opsL (w.heap.size + 1) = L at PP HO
  have hLl : L.length = 18 := by rw [← hL]; rfl
  clear hL
  have PH : Hid (L.length = 18) := hLl
  clear hLl
  go_wp2
  go_loopw [9] (fun i wr => ∃ k : Nat, k ≤ 18 ∧ i = .int .i64 k ∧ Hid (J w2 k wr)) (fun i _ => 18 - (intOf i).toNat)
  case atStart => exact ⟨0, by omega, rfl, j0⟩
  case round =>
    obtain ⟨k, hk, rfl, HJ⟩ := hrel
    by_cases hlt : k < 18
    · obtain ⟨o, ho⟩ : ∃ o, o = L[k]'(by rw [PH.out]; exact hlt) := ⟨_, rfl⟩
      have hkept := PP.out.kept k wr HJ.out
      have hr : wr.rangeAt g (k * 18) o.cells := by
        rw [ho]
        exact ops_range ((hkept.block _ hg2 (by simp [hgA])).trans HO.out) k _
      have hf := op_first hr
      have HR : Hid _ := hr
      have Ho : Hid (o ∈ L) := by rw [ho]; exact List.getElem_mem _
      clear ho hr hkept
      by_cases h1 : lo ≤ o.k
      · by_cases h2 : o.k ≤ up
        · go_wp2_with (refine wpList_load_mid rfl 74 _ rfl g (k * 18) rfl o.cells _ HR.out Tryz.underlying74 rfl size_op ?_)
          go_wp2_with fail
          refine (PP.out.step k wr o (by omega) (List.mem_append_left _ Ho.out) h1 h2 HJ.out).mono ?_
          rintro e w3 ⟨rfl, hj3⟩
          have HJ3 : Hid _ := hj3
          clear hj3 HJ HR
          go_wp2
          go_roundw
          case rel => exact ⟨k + 1, by omega, by go_num, HJ3⟩
          case measure => simp [intOf]; omega
        · go_wp2
          go_roundw
          case rel => exact ⟨k + 1, by omega, by go_num, PP.out.mono _ _ HJ.out⟩
          case measure => simp [intOf]; omega
      · go_wp2
        go_roundw
        case rel => exact ⟨k + 1, by omega, by go_num, PP.out.mono _ _ HJ.out⟩
        case measure => simp [intOf]; omega
    · have hk' : k = 18 := by omega
      subst hk'
      clear hlt hk
      rw [show ((18 : Nat) : Int) = 18 from rfl]
      go_wp2
      obtain ⟨w3, e3⟩ : ∃ w3, w3 = wr := ⟨_, rfl⟩
      rw [← e3]
      rw [← e3] at HJ
      clear e3 wr HO PH hgA hg2 j0
      go_loopw [11] (fun i wr => ∃ k : Nat, (k ≤ S.length ∧ k ≤ 1152921504606846976) ∧ i = .int .i64 k ∧ Hid (J w2 (k + 18) wr)) (fun i _ => S.length - (intOf i).toNat)
      case atStart => exact ⟨0, by omega, rfl, HJ⟩
      case round =>
        clear HJ
        obtain ⟨k, hk, rfl, HJ⟩ := hrel
        by_cases hlt : k < S.length ∧ k < 1152921504606846976
        · have hkm0 : (k : Int) < (S.length : Int) := by omega
          have hkm : (k : Int) < 1152921504606846976 := by omega
          obtain ⟨b, off, rfl, hb, hr0, hone⟩ := hrows k hlt.1
          have hkept := PP.out.kept _ wr HJ.out
          have hs := hkept.size
          obtain ⟨o, ho⟩ : ∃ o, o = S[k]'hlt.1 := ⟨_, rfl⟩
          rw [← ho] at hr0 hone
          have hr : wr.rangeAt b (off + k * 18) o.cells := range_keep hr0 ((hkept.block _ (by omega) (by simp; omega)).trans (H2.out.block _ hb))
          have Ho : Hid (o ∈ S) := by rw [ho]; exact List.getElem_mem _
          have HR : Hid _ := hr
          have H1 : Hid _ := hone
          have HJ' : Hid (∀ W, W = wr.alloc (.cells o.cells.toArray 74) → J w2 (k + 18) W) := fun W hW => by rw [hW]; exact PP.out.below _ _ _ HJ.out ((Below.refl _ _).alloc (Nat.le_refl _) _)
          clear ho hr0 hkept hr hone hrows HJ
          obtain ⟨q, hq⟩ : ∃ q, Hid (o.k = q) := ⟨_, rfl⟩
          by_cases h1 : q < lo
          case neg =>
            by_cases h2 : up < q
            case neg =>
              go_wp2_with (first | refine wpList_load_mid rfl 74 _ rfl b (off + k * 18) rfl o.cells _ HR.out Tryz.underlying74 rfl size_op ?_ | (refine wpList_store_new rfl 74 _ _ rfl rfl _ o.cells.toArray 74 rfl rfl size_op rfl (all_oneCell_toArray H1.out) ?_; intro W hW; have hf : W.cell? ⟨wr.heap.size, 0, none⟩ = some (.int .i64 q) := (by rw [hW.out, ← hq.out]; exact op_first (range_new _ _ _))) | refine wpList_load_mid rfl 74 _ rfl wr.heap.size 0 rfl o.cells _ (by rw [hW.out]; exact range_new _ _ _) Tryz.underlying74 rfl size_op ?_)
              refine (PP.out.step (k + 18) W o (by omega) (List.mem_append_right _ Ho.out) (by rw [hq.out]; omega) (by rw [hq.out]; omega) (HJ'.out _ hW.out)).mono ?_
              rintro e w4 ⟨rfl, hj4⟩
              have HJ4 : Hid _ := hj4
              clear hj4 HJ' HR H1 hf hW Ho h1 h2
              obtain ⟨r, hr⟩ : ∃ r, Hid (Int.tmod (k : Int) 3 = r) := ⟨_, rfl⟩
              have h3 : r = 2 ∨ r = 0 ∨ r = 1 := by
                have := hr.out
                rw [Int.tmod_eq_emod_of_nonneg (by omega)] at this
                omega
              rcases h3 with rfl | rfl | rfl
              · go_wp2_with (refine wpList_rem3 rfl _ rfl k rfl 2 hr.out ?_)
                refine (PP.out.settle _ _ (by omega) HJ4.out).mono ?_
                rintro e w5 ⟨rfl, hj5⟩
                have HJ5 : Hid _ := hj5
                clear hj5 HJ4
                go_wp2_with fail
                refine (PP.out.looks _ _ (by omega) HJ5.out).mono ?_
                rintro e w6 ⟨rfl, hj6⟩
                have HJ6 : Hid _ := hj6
                clear hj6 HJ5
                go_wp2
                go_roundw
                case rel => exact ⟨k + 1, by omega, by go_num, by rw [Nat.add_right_comm]; exact HJ6.out⟩
                case measure => simp [intOf]; omega
              · go_wp2_with (refine wpList_rem3 rfl _ rfl k rfl 0 hr.out ?_)
                have HJ5 := HJ4
                clear HJ4
                refine (PP.out.looks _ _ (by omega) HJ5.out).mono ?_
                rintro e w6 ⟨rfl, hj6⟩
                have HJ6 : Hid _ := hj6
                clear hj6 HJ5
                go_wp2
                go_roundw
                case rel => exact ⟨k + 1, by omega, by go_num, by rw [Nat.add_right_comm]; exact HJ6.out⟩
                case measure => simp [intOf]; omega
              · go_wp2_with (refine wpList_rem3 rfl _ rfl k rfl 1 hr.out ?_)
                have HJ5 := HJ4
                clear HJ4
                refine (PP.out.looks _ _ (by omega) HJ5.out).mono ?_
                rintro e w6 ⟨rfl, hj6⟩
                have HJ6 : Hid _ := hj6
                clear hj6 HJ5
                go_wp2
                go_roundw
                case rel => exact ⟨k + 1, by omega, by go_num, by rw [Nat.add_right_comm]; exact HJ6.out⟩
                case measure => simp [intOf]; omega
            case pos =>
              go_wp2_with (first | refine wpList_load_mid rfl 74 _ rfl b (off + k * 18) rfl o.cells _ HR.out Tryz.underlying74 rfl size_op ?_ | (refine wpList_store_new rfl 74 _ _ rfl rfl _ o.cells.toArray 74 rfl rfl size_op rfl (all_oneCell_toArray H1.out) ?_; intro W hW; have hf : W.cell? ⟨wr.heap.size, 0, none⟩ = some (.int .i64 q) := (by rw [hW.out, ← hq.out]; exact op_first (range_new _ _ _))))
              go_roundw
              case rel => exact ⟨k + 1, by omega, by go_num, by rw [Nat.add_right_comm]; exact PP.out.mono _ _ (HJ'.out _ hW.out)⟩
              case measure => simp [intOf]; omega
          case pos =>
            go_wp2_with (first | refine wpList_load_mid rfl 74 _ rfl b (off + k * 18) rfl o.cells _ HR.out Tryz.underlying74 rfl size_op ?_ | (refine wpList_store_new rfl 74 _ _ rfl rfl _ o.cells.toArray 74 rfl rfl size_op rfl (all_oneCell_toArray H1.out) ?_; intro W hW; have hf : W.cell? ⟨wr.heap.size, 0, none⟩ = some (.int .i64 q) := (by rw [hW.out, ← hq.out]; exact op_first (range_new _ _ _))))
            go_roundw
            case rel => exact ⟨k + 1, by omega, by go_num, by rw [Nat.add_right_comm]; exact PP.out.mono _ _ (HJ'.out _ hW.out)⟩
            case measure => simp [intOf]; omega
        · have hcl : k = S.length ∨ (k < S.length ∧ k = 1152921504606846976) := by omega
          have hks : k + 18 ≤ S.length + 18 := by omega
          clear hrows hlt hk
          rcases hcl with hk' | ⟨hk1, hk2⟩
          · have hn1 : ¬ (k : Int) < (S.length : Int) := by omega
            go_wp2_with fail
            refine (PP.out.settle _ _ (by omega) HJ.out).mono ?_
            rintro e w5 ⟨rfl, hj5⟩
            have HJ5 : Hid _ := hj5
            clear hj5 HJ
            go_wp2_with fail
            refine (PP.out.looks _ _ (by omega) HJ5.out).mono ?_
            rintro e w6 ⟨rfl, hj6⟩
            have fin : Hid (Below w.heap.size w w6) := (H2.out.trans ((PP.out.kept _ _ hj6).below (by omega) (by simp)))
            clear hj6 HJ5 PP H2
            go_wp2
            go_ret
            exact ⟨rfl, fin.out⟩
          · have hn1 : (k : Int) < (S.length : Int) := by omega
            have hn2 : ¬ (k : Int) < 1152921504606846976 := by omega
            clear hk2
            go_wp2_with fail
            refine (PP.out.settle _ _ (by omega) HJ.out).mono ?_
            rintro e w5 ⟨rfl, hj5⟩
            have HJ5 : Hid _ := hj5
            clear hj5 HJ
            go_wp2_with fail
            refine (PP.out.looks _ _ (by omega) HJ5.out).mono ?_
            rintro e w6 ⟨rfl, hj6⟩
            have fin : Hid (Below w.heap.size w w6) := (H2.out.trans ((PP.out.kept _ _ hj6).below (by omega) (by simp)))
            clear hj6 HJ5 PP H2
            go_wp2
            go_ret
            exact ⟨rfl, fin.out⟩
end Go.Proofs.YtogmdaopfnmobaaGreat

/- Words: its steps, played. -/
namespace Go.Proofs.YtogmdaopfnmobaaGreat
open Go.RowKit
theorem fp_far {w w2 : World} {A : Nat} {sv lv : Value} {m : Nat} {wv ev bv : Value} {Ws Es : List Value} {Ls : List (List Nd)} {Bs : List Bk} (h : Inv w A w2.heap.size sv lv m wv ev bv Ws Es Ls Bs) : ∀ x ∈ fpOf A wv ev bv Ws Es Bs, x ∈ [A] ∨ w2.heap.size ≤ x := fun x hx => by
  rcases (h.fp x hx).1 with rfl | h1
  · exact .inl (by simp)
  · exact .inr h1
end Go.Proofs.YtogmdaopfnmobaaGreat

