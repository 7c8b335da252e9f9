/- What the program's Extract does. -/
import Derived.Test.YtogmdaopfnmobaaGreatA44
import Derived.Test.YtogmdaopfnmobaaGreatA38
import Derived.Test.YtogmdaopfnmobaaGreatA42
import Derived.Test.YtogmdaopfnmobaaGreatA37
namespace Go.Proofs.YtogmdaopfnmobaaGreat
open Go.RowKit Go.Maps
set_option maxRecDepth 100000 in
theorem run_eql_fold (w : World) (c s m x c' s' m' x' : Int) :
    (binOp .eql 47 (.agg #[.int .i64 c, .int .i64 s, .int .i64 m, .int .i64 x]) (.agg #[.int .i64 c', .int .i64 s', .int .i64 m', .int .i64 x'])).run Tryz.prog w = .ok (.bool (decide (c = c' ∧ s = s' ∧ m = m' ∧ x = x'))) w := by
  go_simp
  by_cases a : c = c' <;> by_cases b : s = s' <;> by_cases d : m = m' <;> by_cases e : x = x' <;> simp [a, b, d, e]
attribute [local go_sem ↓] run_eql_fold
def exV (r : Option (List UInt8 × List UInt8)) (e : Int) : Value := match r with
  | some p => .tuple #[.string ⟨p.1.toArray⟩, .string ⟨p.2.toArray⟩, .int .i64 e]
  | none => .tuple #[.string ⟨#[]⟩, .string ⟨#[]⟩, .int .i64 e]
set_option maxHeartbeats 4000000 in
set_option maxRecDepth 100000 in
theorem extract_no (w : World) (S : Nat) (t f u c s m x : Int) (p : ByteArray) (h0 : t ≠ 0) (h1 : t ≠ 1) :
    Calls Tryz.prog 102 #[.pointer (some ⟨S, 0, none⟩), .int .i64 t, .int .i64 f, .int .i64 u, .agg #[.int .i64 c, .int .i64 s, .int .i64 m, .int .i64 x], .string p] w fun e w' => e = .returned (exV none 5) ∧ Below w.heap.size w w' := by
  have HL : ∀ w', Hid (Calls Tryz.prog 49 #[.pointer (some ⟨S, 0, none⟩), .int .i64 t] w' _) := fun w' => hid (look_no w' S t h0 h1)
  go_enter Tryz.func102, Tryz.ntmps102
  go_wp2_with fail
  refine (HL _).out.mono ?_
  rintro e w1 ⟨rfl, rfl⟩
  go_wp2
  exact bodyPost_ret (v := exV none 5) (by simp [results, Tryz.results102, go_sem, exV]) rfl ⟨rfl, (Below.refl _ _).alloc (Nat.le_refl _) _⟩
set_option maxHeartbeats 8000000 in
set_option maxRecDepth 100000 in
theorem extract_gen (w : World) (S : Nat) (t : Int) (n : Nat) (lf : Nat → Nd) (hlf : ∀ i, bd 1 (lf i)) (hg : ∀ i, (lf i).fold.good) (hn : n ≤ 64)
    (hL : ∀ w', Below w.heap.size w w' → Calls Tryz.prog 49 #[.pointer (some ⟨S, 0, none⟩), .int .i64 t] w' (lookPost n lf w'))
    (f u c s m x : Int) (p : ByteArray) (hp : p.size ≤ maxLen) (E : Int) (R : Option (List UInt8 × List UInt8)) (X : Int)
    (hE : ∀ w', Calls Tryz.prog 25 #[.int .i64 t, .agg #[.int .i64 n, .int .u8 ((dg (hdText n (tr lf 0 n)) : Int) / 256), .int .u8 ((dg (hdText n (tr lf 0 n)) : Int) % 256)], .int .i64 f, .int .i64 u, .agg #[.int .i64 c, .int .i64 s, .int .i64 m, .int .i64 x], .string p] w' fun e' w2 => e' = .returned (.int .i64 E) ∧ Below w'.heap.size w' w2)
    (hR : (E ≠ 0 ∧ R = none ∧ X = E) ∨ (E = 0 ∧ ∃ f' u' : Nat, ∃ ns, f = f' ∧ u = u' ∧ f' ≤ u' ∧ u' ≤ n ∧ readR p.data.toList = some ns ∧ rtE n f' u' (readR p.data.toList) = 0 ∧
      ((fv lf f' (u' - f') = ⟨c, s, m, x⟩ ∧ R = none ∧ X = 11) ∨ (fv lf f' (u' - f') ≠ ⟨c, s, m, x⟩ ∧ R = cls (gL ((cov 0 n f' u').zip ns)) (tr lf) n ∧ X = 0)))) :
    Calls Tryz.prog 102 #[.pointer (some ⟨S, 0, none⟩), .int .i64 t, .int .i64 f, .int .i64 u, .agg #[.int .i64 c, .int .i64 s, .int .i64 m, .int .i64 x], .string p] w fun e w' => e = .returned (exV R X) ∧ Below w.heap.size w w' := by
  have hB0 : Below w.heap.size w (w.alloc (.cells #[.int .i64 c, .int .i64 s, .int .i64 m, .int .i64 x] 47)) := (Below.refl _ _).alloc (Nat.le_refl _) _
  have HL := hid (hL _ hB0)
  have HF0 := hid (FoAt.at w _ rfl ⟨c, s, m, x⟩)
  have HHd : ∀ B K w', Hid (Src 111 B K n (plG lf) → K w' → Calls Tryz.prog 35 #[.int .i64 n, cloV 111 B] w' fun e w2 => e = .returned (hdV n (dg (hdText n (tr lf 0 n)))) ∧ Below w'.heap.size w' w2) := fun B K w' => hid fun hS hK => head_any hS hn (Nat.le_refl _) (comes_of hlf n 0 n (by omega) (by omega)) (mid_bd (tr_bd hlf n 0 n (by omega)) (by omega)) w' hK
  have HCk : ∀ w', Hid _ := fun w' => hid (hE w')
  have HU : Hid (∀ a b, a ≤ b → b ≤ n → Comes (plG lf) a b (tr lf a b) ∧ (tr lf a b).mid) := hid fun a b _ hb => ⟨comes_of hlf n a b (by omega) (by omega), mid_bd (tr_bd hlf (b - a) a b (Nat.le_refl _)) (by omega)⟩
  generalize hD : dg (hdText n (tr lf 0 n)) = D at HHd HCk
  clear hD hL hE
  unfold hdV at HHd
  unfold cloV at HHd
  generalize (D : Int) / 256 = d0 at HHd HCk
  generalize (D : Int) % 256 = d1 at HHd HCk
  rcases hR with ⟨hE0, rfl, rfl⟩ | ⟨hE0, f', u', ns, rfl, rfl, hfu, hun, hns, hrt, hR⟩
  · have hEb : (X == 0) = false := by simpa using hE0
    clear hlf hg hp
    go_enter Tryz.func102, Tryz.ntmps102
    go_wp2_with fail
    refine HL.out.mono ?_
    rintro e w1 ⟨B, K, rfl, hS, hK, hb1⟩
    have hf1 := HF0.out.below hb1 (by simp)
    have HS1 := hid (And.intro hS hK)
    have HC1 : Hid (∀ w', Below w1.heap.size w1 w' → (w'.cell? ⟨w.heap.size, 0, none⟩ = some (.int .i64 c) ∧ w'.cell? ⟨w.heap.size, 1, none⟩ = some (.int .i64 s) ∧ w'.cell? ⟨w.heap.size, 2, none⟩ = some (.int .i64 m) ∧ w'.cell? ⟨w.heap.size, 3, none⟩ = some (.int .i64 x)) ∧ Below w.heap.size w w') := hid fun w' hb => ⟨(hf1.below hb hf1.lt).cells.1, (((Below.refl _ _).alloc (Nat.le_refl _) _).trans (hb1.mono (by simp))).trans (hb.mono (by have := hf1.lt; omega))⟩
    have hcc := (HC1.out w1 (Below.refl _ _)).1
    clear hb1 hf1 hS hK HL HF0
    simp only [cloV]
    go_wp2
    go_region_held3 (fun w' => w'.cell? ⟨w.heap.size, 0, none⟩ = some (.int .i64 c) ∧ w'.cell? ⟨w.heap.size, 1, none⟩ = some (.int .i64 s) ∧ w'.cell? ⟨w.heap.size, 2, none⟩ = some (.int .i64 m) ∧ w'.cell? ⟨w.heap.size, 3, none⟩ = some (.int .i64 x))
      (first | exact (HC1.out _ (by (repeat (first | (with_reducible exact hBn) | (with_reducible exact hBa) | (with_reducible exact Below.refl _ _) | (with_reducible apply Below.drew))))).1 | go_keep)
      (first
        | (go_at_call 35; refine ((HHd B K _).out HS1.out.1 (HS1.out.1.keep w1 _ HS1.out.2 (by (repeat (first | (with_reducible exact Below.refl _ _) | (with_reducible apply Below.drew)))))).mono ?_; rintro e wn ⟨rfl, hbn⟩; have hBn : Below w1.heap.size w1 wn := Below.trans (by (repeat (first | (with_reducible exact Below.refl _ _) | (with_reducible apply Below.drew)))) (hbn.mono (by exact Nat.le_refl _)); clear hbn)
        | (go_at_call 25; refine (HCk _).out.mono ?_; rintro e wa ⟨rfl, hba⟩; have hBa : Below w1.heap.size w1 wa := Below.trans (by (repeat (first | (with_reducible exact hBn) | (with_reducible apply Below.drew)))) (hba.mono (by exact hBn.size)); clear hba))
    have HBf := hid (HC1.out wa hBa).2
    clear hBn hBa HC1 hcc HS1 HHd HCk
    go_wp2
    exact bodyPost_ret (v := exV none X) (by simp [results, Tryz.results102, go_sem, exV]) rfl ⟨rfl, HBf.out⟩
  · have hnl : ns.length = (cov 0 n f' u').length ∧ (cm 0 n f' u' ns).ok = true := by
      rw [hns] at hrt
      simp only [rtE] at hrt
      by_cases h1 : ns.length = (cov 0 n f' u').length
      · rw [if_pos h1] at hrt
        by_cases h2 : (cm 0 n f' u' ns).ok = true
        · exact ⟨h1, h2⟩
        · rw [if_neg h2] at hrt; cases hrt
      · rw [if_neg h1] at hrt; cases hrt
    have hcm : Comes (gL ((cov 0 n f' u').zip ns)) 0 n (cm 0 n f' u' ns) := by
      have := comes_cm f' u' n 0 n ns [] [] (by omega) (by omega) hn (by omega) (fun d hd => List.all_eq_true.1 (write_read _ _ hns).2.1 d hd) (fun _ => ⟨rfl, rfl⟩) (by simp) (by simp)
      simpa using this
    have HPv : ∀ B K w', Hid (Src 111 B K n (plG lf) → K w' → Calls Tryz.prog 62 #[.int .i64 n, paV f' u', cloV 111 B] w' fun e w2 => ∃ ao q cap, e = .returned (.tuple #[foV (fv lf f' (u' - f')), .slice ao q cap]) ∧ Below w'.heap.size w' w2) := fun B K w' => hid fun hS hK => by
      have := prove_any 111 B n f' u' K (fun p => tr lf p.a p.b) hS.keep (fun p hp => tr_mid hlf p.a p.b (by have := cov_in f' u' n 0 n (by omega) (by omega) p hp; omega)) hn hun
        (fun p hp W hW => by
          have hpi := cov_in f' u' n 0 n (by omega) (by omega) p hp
          exact node_any hS hn (comes_of hlf n p.a p.b (by omega) (by omega)) W hW hpi.2.1 hpi.2.2) w' hK
      rw [finN_fv hg n f' u' hun] at this
      refine this.mono ?_
      rintro e w2 ⟨v, he, hv, hb⟩
      obtain ⟨ao, c, rfl⟩ := own_shape hv
      exact ⟨ao, _, c, he, hb⟩
    have HRt : ∀ w', Hid (Calls Tryz.prog 37 #[.int .i64 n, paV f' u', .string p] w' fun e w2 => ∃ B M, e = .returned (.tuple #[cloV 118 B, .int .i64 0]) ∧ pfK B M (gL ((cov 0 n f' u').zip ns)) w2 ∧ Below w'.heap.size w' w2) := fun w' => hid (by
      refine (readTree_any n f' u' p w' hn hun hp).mono ?_
      rintro e w2 ⟨hb, h⟩
      rw [if_pos hrt] at h
      obtain ⟨ns', B, M, hns', he, hK⟩ := h
      rw [hns] at hns'
      injection hns' with hns'
      subst hns'
      exact ⟨B, M, he, hK, hb⟩)
    have HCl : ∀ B K B2 M2 w', Hid (Src 111 B K n (plG lf) → K w' → pfK B2 M2 (gL ((cov 0 n f' u').zip ns)) w' → Calls Tryz.prog 38 #[.int .i64 n, cloV 118 B2, cloV 111 B] w' fun e w2 => e = .returned (clV (cls (gL ((cov 0 n f' u').zip ns)) (tr lf) n)) ∧ Below w'.heap.size w' w2) := fun B K B2 M2 w' => hid fun hS hK hP => clash_any (prf_src B2 M2 n _ hn) hS hn (Nat.le_refl _) HU.out hcm (Nd.mid_of_ok hnl.2) w' hP hK
    have HPK : Hid (∀ B2 M2 g w1 w2, pfK B2 M2 g w1 → Below w1.heap.size w1 w2 → pfK B2 M2 g w2) := hid fun B2 M2 g w1 w2 h hb => (prf_src B2 M2 n g hn).keep w1 w2 h hb
    generalize gL ((cov 0 n f' u').zip ns) = gg at HRt HCl hR hcm
    clear hlf hg hp hnl hcm hrt hns
    generalize cls gg (tr lf) n = rr at HCl hR
    generalize fv lf f' (u' - f') = F at HPv hR
    obtain ⟨F0, F1, F2, F3⟩ := F
    subst hE0
    unfold paV foV cloV at HPv
    unfold paV at HRt
    unfold cloV at HRt HCl
    go_enter Tryz.func102, Tryz.ntmps102
    go_wp2_with fail
    refine HL.out.mono ?_
    rintro e w1 ⟨B, K, rfl, hS, hK, hb1⟩
    have hf1 := HF0.out.below hb1 (by simp)
    have HS1 := hid (And.intro hS hK)
    have HC1 : Hid (∀ w', Below w1.heap.size w1 w' → (w'.cell? ⟨w.heap.size, 0, none⟩ = some (.int .i64 c) ∧ w'.cell? ⟨w.heap.size, 1, none⟩ = some (.int .i64 s) ∧ w'.cell? ⟨w.heap.size, 2, none⟩ = some (.int .i64 m) ∧ w'.cell? ⟨w.heap.size, 3, none⟩ = some (.int .i64 x)) ∧ (FoAt w' w.heap.size ⟨c, s, m, x⟩ ∧ K w') ∧ Below w.heap.size w w') := hid fun w' hb => ⟨(hf1.below hb hf1.lt).cells.1, ⟨hf1.below hb hf1.lt, hS.keep w1 w' hK hb⟩, (((Below.refl _ _).alloc (Nat.le_refl _) _).trans (hb1.mono (by simp))).trans (hb.mono (by have := hf1.lt; omega))⟩
    have hcc := (HC1.out w1 (Below.refl _ _)).1
    have hl1 := hf1.lt
    clear hb1 hf1 hS hK HL HF0
    simp only [cloV]
    go_wp2
    go_region_held3 (fun w' => w'.cell? ⟨w.heap.size, 0, none⟩ = some (.int .i64 c) ∧ w'.cell? ⟨w.heap.size, 1, none⟩ = some (.int .i64 s) ∧ w'.cell? ⟨w.heap.size, 2, none⟩ = some (.int .i64 m) ∧ w'.cell? ⟨w.heap.size, 3, none⟩ = some (.int .i64 x))
      (first | exact (HC1.out _ (by (repeat (first | (with_reducible exact hBn) | (with_reducible exact hBa) | (with_reducible exact Below.refl _ _) | (with_reducible apply Below.drew))))).1 | go_keep)
      (first
        | (go_at_call 35; refine ((HHd B K _).out HS1.out.1 (HS1.out.1.keep w1 _ HS1.out.2 (by (repeat (first | (with_reducible exact Below.refl _ _) | (with_reducible apply Below.drew)))))).mono ?_; rintro e wn ⟨rfl, hbn⟩; have hBn : Below w1.heap.size w1 wn := Below.trans (by (repeat (first | (with_reducible exact Below.refl _ _) | (with_reducible apply Below.drew)))) (hbn.mono (by exact Nat.le_refl _)); clear hbn)
        | (go_at_call 25; refine (HCk _).out.mono ?_; rintro e wa ⟨rfl, hba⟩; have hBa : Below w1.heap.size w1 wa := Below.trans (by (repeat (first | (with_reducible exact hBn) | (with_reducible apply Below.drew)))) (hba.mono (by exact hBn.size)); clear hba))
    have HBa := hid hBa
    have hsa := hBa.size
    clear hBn hBa hcc HHd HCk
    go_wp2_with fail
    obtain ⟨W, hW⟩ : ∃ W, W = wa.alloc (.cells #[.int .i64 (f' : Int), .int .i64 (u' : Int)] 95) := ⟨_, rfl⟩
    have HWB : Hid (Below w1.heap.size w1 W) := hid (hW ▸ HBa.out.alloc hsa _)
    have hpW : W.heap[wa.heap.size]? = some (.cells #[.int .i64 (f' : Int), .int .i64 (u' : Int)] 95 (0, 0)) := hW ▸ heap_alloc_new wa _
    have HPW := hid hpW
    rw [← hW]
    clear hW HBa hpW
    generalize wa.heap.size = gp at HPW hsa ⊢
    refine ((HPv B K W).out HS1.out.1 (HC1.out W HWB.out).2.1.2).mono ?_
    rintro e w3 ⟨ao, q, cap, rfl, hb3⟩
    have HB3 := hid (HWB.out.trans (hb3.mono HWB.out.size))
    have hs3 := HB3.out.size
    have hp3 := (hb3.block gp (Array.getElem?_eq_some_iff.1 HPW.out).1).trans HPW.out
    have HP3 := hid hp3
    have hl3 := (Array.getElem?_eq_some_iff.1 hp3).1
    have hf3 := (HC1.out w3 HB3.out).2.1.1
    have HF3 := hid hf3
    obtain ⟨hfc, hfz⟩ := hf3.cells
    clear hb3 hp3 hf3 HPv HWB HPW
    have hlw : w.heap.size < w3.heap.size := by omega
    by_cases hFc : F0 = c ∧ F1 = s ∧ F2 = m ∧ F3 = x
    · have hd : decide (F0 = c ∧ F1 = s ∧ F2 = m ∧ F3 = x) = true := decide_eq_true hFc
      have HX : Hid (R = none ∧ X = 11) := hid (by
        rcases hR with h | h
        · exact h.2
        · exact absurd (by rw [hFc.1, hFc.2.1, hFc.2.2.1, hFc.2.2.2]) h.1)
      clear hR hFc HRt HCl
      go_wp2
      exact bodyPost_ret (v := exV none 11) (by simp [results, Tryz.results102, go_sem, exV]) rfl ⟨by rw [HX.out.1, HX.out.2], ((HC1.out w3 HB3.out).2.2).alloc (by omega) _⟩
    · have hd : decide (F0 = c ∧ F1 = s ∧ F2 = m ∧ F3 = x) = false := decide_eq_false hFc
      have HX : Hid (R = rr ∧ X = 0) := hid (by
        rcases hR with h | h
        · exact absurd (by have := h.1; simp only [Fo.mk.injEq] at this; exact this) hFc
        · exact h.2)
      clear hR hFc
      have hpc : w3.cell? ⟨gp, 0, none⟩ = some (.int .i64 (f' : Int)) ∧ w3.cell? ⟨gp, 1, none⟩ = some (.int .i64 (u' : Int)) := by
        constructor <;> (rw [cell_of_row w3 gp _ _ _ _ HP3.out]; rfl)
      go_wp2_with fail
      refine (HRt _).out.mono ?_
      rintro e w4 ⟨B2, M2, rfl, hP4, hb4⟩
      have HB4 : Hid (Below w1.heap.size w1 w4) := hid ((HB3.out.alloc hs3 _).trans (hb4.mono (by simp; omega)))
      have HP4 := hid hP4
      clear hb4 hP4 HRt hfc hfz hpc
      go_wp2_with fail
      refine ((HCl B K B2 M2 w4).out HS1.out.1 (HC1.out w4 HB4.out).2.1.2 HP4.out).mono ?_
      rintro e w5 ⟨rfl, hb5⟩
      have HB5 := hid (HC1.out w5 (HB4.out.trans (hb5.mono HB4.out.size))).2.2
      clear hb5 HCl HP4 HB4 HS1 HC1
      cases rr with
      | some pq =>
        simp only [clV]
        go_wp2
        exact bodyPost_ret (v := exV (some pq) 0) (by simp [results, Tryz.results102, go_sem, exV]) rfl ⟨by rw [HX.out.1, HX.out.2], HB5.out⟩
      | none =>
        simp only [clV]
        go_wp2
        exact bodyPost_ret (v := exV none 0) (by simp [results, Tryz.results102, go_sem, exV]) rfl ⟨by rw [HX.out.1, HX.out.2], HB5.out⟩
end Go.Proofs.YtogmdaopfnmobaaGreat

/- An honest proof is taken: Check and CheckGrown, as mathematics. -/
namespace Go.Proofs.YtogmdaopfnmobaaGreat
open Go.RowKit
theorem fz_cn (lf : Nat → Nd) (l : List Sp) : fz (l.zip (cn lf l)) = finN (fun p => tr lf p.a p.b) l := by
  have hq : ∀ q ∈ l.zip (cn lf l), (fun p : Sp => tr lf p.a p.b) q.1 = q.2 := fun q hq => by
    obtain ⟨i, hi, e⟩ := List.mem_iff_getElem.1 hq
    rw [← e]
    simp [cn]
  have := finN_fz (nd := fun p => tr lf p.a p.b) (l.zip (cn lf l)) .zero hq
  rw [zip_fst (by simp [cn])] at this
  exact this.symm
end Go.Proofs.YtogmdaopfnmobaaGreat

/- What the program's ExtractGrown does. -/
namespace Go.Proofs.YtogmdaopfnmobaaGreat
open Go.RowKit Go.Maps
theorem ofLog_src (v : Value) (l : List Int) (w : World) (hl : Cells1 w w.heap.size v (l.map (.int .i64))) (hlen : l.length ≤ 64) (hv : ∀ v ∈ l, 0 ≤ v ∧ v ≤ 1000000) :
    Calls Tryz.prog 34 #[v] w fun e w' => ∃ B K, e = .returned (cloV 111 B) ∧ Src 111 B K l.length (plG (lgf l)) ∧ K w' ∧ Below w.heap.size w w' := by
  obtain ⟨ao, cap, hve, hc⟩ := hl.ex
  simp only [List.length_map] at hve
  subst hve
  refine (ofLog_any ao l.length cap w).mono ?_
  rintro e w1 ⟨rfl, rfl⟩
  have hB : Below w.heap.size w ((w.alloc (.cells #[.slice ao l.length cap] 25)).alloc (.cells #[cloV 69 w.heap.size] 117)) := (((Below.refl _ _).alloc (Nat.le_refl _) _).alloc (by simp) _)
  refine ⟨w.heap.size + 1, plK 69 w.heap.size (w.heap.size + 1) (lgK w.heap.size (.slice ao l.length cap) l), rfl, places_src (log_plc _ _ _ hlen hv) hlen _, ⟨⟨?_, hl.below hB⟩, ?_⟩, hB⟩
  · exact (Boxed.new w 25 (.slice ao l.length cap)).alloc (.cells #[cloV 69 w.heap.size] 117)
  · exact heap_one (w.alloc (.cells #[.slice ao l.length cap] 25)) _ _ (by simp)
set_option maxHeartbeats 4000000 in
set_option maxRecDepth 100000 in
theorem extractGrown_range (w : World) (base S : Nat) (s : Sto) (lv : Value) (M : Nat) (h : PSt w base S s lv M) (v : Value) (old : List Int) (p : ByteArray) (hl : Cells1 w w.heap.size v (old.map (.int .i64))) (hm : old.length ≤ 9223372036854775807) (hbad : old.length < 1 ∨ s.l.length < old.length ∨ old.all isVal = false) :
    Calls Tryz.prog 11 #[.pointer (some ⟨S, 0, none⟩), v, .string p] w fun e w' => e = .returned (exV none 5) ∧ Below w.heap.size w w' := by
  obtain ⟨⟨c0, _⟩, _⟩ := h.cells
  obtain ⟨ao1, cap1, rfl⟩ := own_shape h.hL
  have hlen := h.ok.len
  have HAV : ∀ w', Hid (Below w.heap.size w w' → Calls Tryz.prog 33 #[v] w' _) := fun w' => hid fun hb => areValues_any v old w' ((hl.below hb).mono hb.size) hm
  obtain ⟨ao, cap, rfl, _⟩ := hl.ex
  simp only [List.length_map] at HAV ⊢
  clear h hl
  by_cases h1 : old.length < 1
  · go_enter Tryz.func11, Tryz.ntmps11
    go_wp2
    go_quiet (fail)
    go_wp2
    exact bodyPost_ret (v := exV none 5) (by simp [results, Tryz.results11, go_sem, exV]) rfl ⟨rfl, below_drewN w nq⟩
  · by_cases h2 : s.l.length < old.length
    · go_enter Tryz.func11, Tryz.ntmps11
      go_wp2
      go_quiet (fail)
      go_wp2
      exact bodyPost_ret (v := exV none 5) (by simp [results, Tryz.results11, go_sem, exV]) rfl ⟨rfl, below_drewN w nq⟩
    · have h3 : old.all isVal = false := by rcases hbad with h | h | h <;> first | omega | exact h
      rw [h3] at HAV
      clear hbad h3
      go_enter Tryz.func11, Tryz.ntmps11
      go_wp2
      go_quiet (fail)
      go_wp2_with (go_at_call 33; refine ((HAV _).out (below_drewN w nq)).mono ?_; rintro e w1 ⟨rfl, hw1⟩; rw [hw1]; clear hw1 w1)
      exact bodyPost_ret (v := exV none 5) (by simp [results, Tryz.results11, go_sem, exV]) rfl ⟨rfl, below_drewN w nq⟩
set_option maxHeartbeats 8000000 in
set_option maxRecDepth 100000 in
theorem extractGrown_err (w : World) (base S : Nat) (s : Sto) (lv : Value) (M : Nat) (h : PSt w base S s lv M) (v : Value) (old : List Int) (p : ByteArray) (hl : Cells1 w w.heap.size v (old.map (.int .i64))) (ho : ∀ x ∈ old, 0 ≤ x ∧ x ≤ 1000000) (h1 : 1 ≤ old.length) (h2 : old.length ≤ s.l.length) (hp : p.size ≤ maxLen) (E : Int)
    (hE : E = cgE old.length s.l.length ((dg (hdText old.length (tr (lgf old) 0 old.length)) : Int) / 256) ((dg (hdText old.length (tr (lgf old) 0 old.length)) : Int) % 256) ((dg (hdText s.l.length (tr (lgf s.l) 0 s.l.length)) : Int) / 256) ((dg (hdText s.l.length (tr (lgf s.l) 0 s.l.length)) : Int) % 256) (readR p.data.toList))
    (hE0 : E ≠ 0) :
    Calls Tryz.prog 11 #[.pointer (some ⟨S, 0, none⟩), v, .string p] w fun e w' => e = .returned (exV none E) ∧ Below w.heap.size w w' := by
  have hlen := h.ok.len
  have hval := h.ok.val
  have HCS : Hid (∀ w', Below w.heap.size w w' → w'.cell? ⟨S, 0, none⟩ = some lv) := hid fun w' hb => (h.below hb).cells.1.1
  have c0 := HCS.out w (Below.refl _ _)
  have HLg := hid h.log1
  obtain ⟨ao1, cap1, rfl⟩ := own_shape h.hL
  have hSl := h.lt.1
  have HAV : ∀ w', Hid (Below w.heap.size w w' → Calls Tryz.prog 33 #[v] w' fun e w2 => e = .returned (.bool true) ∧ w2 = w') := fun w' => hid fun hb => by
    have := areValues_any v old w' ((hl.below hb).mono hb.size) (by omega)
    rw [List.all_eq_true.2 (fun x hx => (isVal_iff x).2 (ho x hx))] at this
    exact this
  have HO1 : ∀ w', Hid (Below w.heap.size w w' → Calls Tryz.prog 34 #[v] w' _) := fun w' => hid fun hb => ofLog_src v old w' ((hl.below hb).mono hb.size) (by omega) ho
  have HO2 : ∀ w', Hid (Below w.heap.size w w' → Calls Tryz.prog 34 #[.slice ao1 s.l.length cap1] w' _) := fun w' => hid fun hb => ofLog_src _ s.l w' ((HLg.out.below hb).mono hb.size) hlen hval
  have HH1 : ∀ B K w', Hid (Src 111 B K old.length (plG (lgf old)) → K w' → Calls Tryz.prog 35 #[.int .i64 old.length, cloV 111 B] w' fun e w2 => e = .returned (hdV old.length (dg (hdText old.length (tr (lgf old) 0 old.length)))) ∧ Below w'.heap.size w' w2) := fun B K w' => hid fun hS hK => head_any hS (by omega) (Nat.le_refl _) (comes_of (lgf_bd ho) old.length 0 old.length (by omega) (by omega)) (mid_bd (tr_bd (lgf_bd ho) old.length 0 old.length (by omega)) (by omega)) w' hK
  have HH2 : ∀ B K w', Hid (Src 111 B K s.l.length (plG (lgf s.l)) → K w' → Calls Tryz.prog 35 #[.int .i64 s.l.length, cloV 111 B] w' fun e w2 => e = .returned (hdV s.l.length (dg (hdText s.l.length (tr (lgf s.l) 0 s.l.length)))) ∧ Below w'.heap.size w' w2) := fun B K w' => hid fun hS hK => head_any hS hlen (Nat.le_refl _) (comes_of (lgf_bd hval) s.l.length 0 s.l.length (by omega) (by omega)) (mid_bd (tr_bd (lgf_bd hval) s.l.length 0 s.l.length (by omega)) (by omega)) w' hK
  have HCg : ∀ w', Hid (Calls Tryz.prog 18 #[.agg #[.int .i64 old.length, .int .u8 ((dg (hdText old.length (tr (lgf old) 0 old.length)) : Int) / 256), .int .u8 ((dg (hdText old.length (tr (lgf old) 0 old.length)) : Int) % 256)], .agg #[.int .i64 s.l.length, .int .u8 ((dg (hdText s.l.length (tr (lgf s.l) 0 s.l.length)) : Int) / 256), .int .u8 ((dg (hdText s.l.length (tr (lgf s.l) 0 s.l.length)) : Int) % 256)], .string p] w' fun e w2 => e = .returned (.int .i64 E) ∧ Below w'.heap.size w' w2) := fun w' => hid (by
    have := checkGrown_good old.length s.l.length ((dg (hdText old.length (tr (lgf old) 0 old.length)) : Int) / 256) ((dg (hdText old.length (tr (lgf old) 0 old.length)) : Int) % 256) ((dg (hdText s.l.length (tr (lgf s.l) 0 s.l.length)) : Int) / 256) ((dg (hdText s.l.length (tr (lgf s.l) 0 s.l.length)) : Int) % 256) p w' h1 h2 hlen hp
    rw [← hE] at this
    exact this)
  have HOld := hid hl
  obtain ⟨ao, cap, rfl, _⟩ := hl.ex
  simp only [List.length_map] at HAV HO1 HOld ⊢
  simp only [hdV] at HH1 HH2
  unfold cloV at HH1 HH2
  generalize (dg (hdText old.length (tr (lgf old) 0 old.length)) : Int) / 256 = e0 at HH1 HCg
  generalize (dg (hdText old.length (tr (lgf old) 0 old.length)) : Int) % 256 = e1 at HH1 HCg
  generalize (dg (hdText s.l.length (tr (lgf s.l) 0 s.l.length)) : Int) / 256 = d0 at HH2 HCg
  generalize (dg (hdText s.l.length (tr (lgf s.l) 0 s.l.length)) : Int) % 256 = d1 at HH2 HCg
  clear h hl
  have hEb : (E == 0) = false := by simpa using hE0
  clear hE
  go_enter Tryz.func11, Tryz.ntmps11
  go_wp2
  go_quiet (fail)
  go_wp2_with (go_at_call 33; refine ((HAV _).out (below_drewN w nq)).mono ?_; rintro e w1 ⟨rfl, hw1⟩; rw [hw1]; clear hw1 w1)
  obtain ⟨W0, hW0⟩ : ∃ W, W = w.drewN nq := ⟨_, rfl⟩
  have HB0 : Hid (Below w.heap.size w W0) := hid (hW0 ▸ below_drewN w nq)
  rw [← hW0]
  clear hW0 HAV
  have hc0 := HCS.out W0 HB0.out
  have s0 := HB0.out.size
  go_region_held3 (fun w' => w'.cell? ⟨S, 0, none⟩ = some (.slice ao1 s.l.length cap1))
    (first | exact HCS.out _ (HB0.out.trans (Below.mono (by (repeat (first | (with_reducible exact hBb) | (with_reducible exact hBa) | (with_reducible exact Below.refl _ _) | (with_reducible apply Below.drew)))) s0)) | go_keep)
    ((go_at_call 34; first
      | (refine ((HO1 _).out (HB0.out.trans (Below.mono (by (repeat (first | (with_reducible exact Below.refl _ _) | (with_reducible apply Below.drew)))) s0))).mono ?_; rintro e wa ⟨B1, K1, rfl, hS1, hK1, hba⟩; have hBa : Below W0.heap.size W0 wa := Below.trans (by (repeat (first | (with_reducible exact Below.refl _ _) | (with_reducible apply Below.drew)))) (hba.mono (by exact Nat.le_refl _)); clear hba HO1)
      | (refine ((HO2 _).out (HB0.out.trans (Below.mono (by (repeat (first | (with_reducible exact hBa) | (with_reducible apply Below.drew)))) s0))).mono ?_; rintro e wb ⟨B2, K2, rfl, hS2, hK2, hbb⟩; have hBb : Below W0.heap.size W0 wb := Below.trans (by (repeat (first | (with_reducible exact hBa) | (with_reducible apply Below.drew)))) (hbb.mono (by exact hBa.size)); have hK1b : K1 wb := hS1.keep wa wb hK1 (Below.trans (by (repeat (first | (with_reducible exact Below.refl _ _) | (with_reducible apply Below.drew)))) (hbb.mono (by exact Nat.le_refl _))); clear hbb)))
  have HSS := hid (And.intro (And.intro hS1 hS2) (And.intro hK1b hK2))
  have HBb : Hid (Below w.heap.size w wb) := hid (HB0.out.trans (hBb.mono s0))
  have hcb := HCS.out wb HBb.out
  clear hS1 hS2 hK1 hK1b hK2 hBa hBb hc0 HO2 HB0
  simp only [cloV]
  go_wp2_with fail
  refine ((HH1 B1 K1 wb).out HSS.out.1.1 HSS.out.2.1).mono ?_
  rintro e w3 ⟨rfl, hb3⟩
  have HK3 := hid (And.intro (HSS.out.1.1.keep wb w3 HSS.out.2.1 hb3) (HSS.out.1.2.keep wb w3 HSS.out.2.2 hb3))
  have HB3 := hid (HBb.out.trans (hb3.mono HBb.out.size))
  clear hb3 HH1 hcb HBb
  go_wp2_with fail
  refine ((HH2 B2 K2 w3).out HSS.out.1.2 HK3.out.2).mono ?_
  rintro e w4 ⟨rfl, hb4⟩
  have HK4 := hid (And.intro (HSS.out.1.1.keep w3 w4 HK3.out.1 hb4) (HSS.out.1.2.keep w3 w4 HK3.out.2 hb4))
  have HB4 := hid (HB3.out.trans (hb4.mono HB3.out.size))
  clear hb4 HH2 HK3 HB3
  go_wp2_with fail
  refine (HCg w4).out.mono ?_
  rintro e w5 ⟨rfl, hb5⟩
  have HK5 := hid (And.intro (HSS.out.1.1.keep w4 w5 HK4.out.1 hb5) (HSS.out.1.2.keep w4 w5 HK4.out.2 hb5))
  have HB5 := hid (HB4.out.trans (hb5.mono HB4.out.size))
  have hc5 := HCS.out w5 HB5.out
  clear hb5 HCg HK4 HB4
  clear hc5 HK5 HSS HCS
  go_wp2
  exact bodyPost_ret (v := exV none E) (by simp [results, Tryz.results11, go_sem, exV]) rfl ⟨rfl, HB5.out⟩
end Go.Proofs.YtogmdaopfnmobaaGreat

/- What the program's ExtractGrown does where CheckGrown takes the proof. -/
namespace Go.Proofs.YtogmdaopfnmobaaGreat
open Go.RowKit Go.Maps
theorem Cells1.pre {w : World} {B : Nat} {ao : Option Addr} {n cap : Nat} {l : List Value} (h : Cells1 w B (.slice ao n cap) l) (c : Nat) (hac : c ≤ l.length) (hcap : l.length ≤ cap) : Cells1 w B (.slice (if cap = 0 then ao else ao.map (·.add (0 * 1))) c (cap - 0)) (l.take c) := by
  obtain ⟨ao', cap', hv, hc⟩ := h.ex
  simp only [Value.slice.injEq] at hv
  obtain ⟨rfl, rfl, rfl⟩ := hv
  have hlen : (l.take c).length = c := by simp; omega
  refine ⟨if cap = 0 then ao else ao.map (·.add (0 * 1)), cap - 0, by rw [hlen], fun i hi => ?_⟩
  rw [hlen] at hi
  obtain ⟨b, off, ha, hB, hcs⟩ := hc i (by omega)
  subst ha
  by_cases e : cap = 0
  · omega
  · refine ⟨b, off, ?_, hB, ?_⟩
    · rw [if_neg e]; simp [Addr.add]
    · rw [List.getElem_take]; exact hcs
set_option maxRecDepth 100000 in
theorem grun_slice0 (w : World) (ao : Option Addr) (N cap c : Nat) (h : c ≤ cap) :
    (Instr.slice 25 (.slice ao N cap) none (some (.int .i64 (c : Int))) none).run Tryz.prog w = .ok (.slice (if cap = 0 then ao else ao.map (·.add (0 * 1))) c (cap - 0)) w := by
  rw [run_slice_h (P := Tryz.prog) w 25 ao N cap Tryz.underlying25 .i64 c (by omega) (by omega)]
  simp [go_sem]
theorem Src.cut {k B : Nat} {K : World → Prop} {N N' : Nat} {g : Nat → Nat → Option Nd} (h : Src k B K N g) (hN : N' ≤ N) : Src k B K N' g := ⟨h.enters, h.keep, fun a b w hk hab hb => h.call a b w hk hab (by omega)⟩
set_option maxHeartbeats 8000000 in
set_option maxRecDepth 100000 in
theorem extractGrown_ok (w : World) (base S : Nat) (s : Sto) (lv : Value) (M : Nat) (h : PSt w base S s lv M) (v : Value) (old : List Int) (p : ByteArray) (hl : Cells1 w w.heap.size v (old.map (.int .i64))) (ho : ∀ x ∈ old, 0 ≤ x ∧ x ≤ 1000000) (h1 : 1 ≤ old.length) (h2 : old.length ≤ s.l.length) (hp : p.size ≤ maxLen) (R : Option (List UInt8 × List UInt8)) (X : Int) (ns : List Nd) (hns : readR p.data.toList = some ns)
    (hE : (0 : Int) = cgE old.length s.l.length ((dg (hdText old.length (tr (lgf old) 0 old.length)) : Int) / 256) ((dg (hdText old.length (tr (lgf old) 0 old.length)) : Int) % 256) ((dg (hdText s.l.length (tr (lgf s.l) 0 s.l.length)) : Int) / 256) ((dg (hdText s.l.length (tr (lgf s.l) 0 s.l.length)) : Int) % 256) (readR p.data.toList))
    (hR : (old = s.l.take old.length ∧ R = none ∧ X = 11) ∨ (old ≠ s.l.take old.length ∧ R = (cls (gL ((cov 0 s.l.length 0 old.length).zip ns)) (tr (lgf s.l)) s.l.length).or (cls (plG (lgf old)) (tr (lgf s.l)) old.length) ∧ X = 0)) :
    Calls Tryz.prog 11 #[.pointer (some ⟨S, 0, none⟩), v, .string p] w fun e w' => e = .returned (exV R X) ∧ Below w.heap.size w w' := by
  have hlen := h.ok.len
  have hval := h.ok.val
  have HCS : Hid (∀ w', Below w.heap.size w w' → w'.cell? ⟨S, 0, none⟩ = some lv) := hid fun w' hb => (h.below hb).cells.1.1
  have c0 := HCS.out w (Below.refl _ _)
  have HLg := hid h.log1
  obtain ⟨ao1, cap1, rfl, hcp, _⟩ := capP h.hL
  have hSl := h.lt.1
  have HAV : ∀ w', Hid (Below w.heap.size w w' → Calls Tryz.prog 33 #[v] w' fun e w2 => e = .returned (.bool true) ∧ w2 = w') := fun w' => hid fun hb => by
    have := areValues_any v old w' ((hl.below hb).mono hb.size) (by omega)
    rw [List.all_eq_true.2 (fun x hx => (isVal_iff x).2 (ho x hx))] at this
    exact this
  have HO1 : ∀ w', Hid (Below w.heap.size w w' → Calls Tryz.prog 34 #[v] w' _) := fun w' => hid fun hb => ofLog_src v old w' ((hl.below hb).mono hb.size) (by omega) ho
  have HO2 : ∀ w', Hid (Below w.heap.size w w' → Calls Tryz.prog 34 #[.slice ao1 s.l.length cap1] w' _) := fun w' => hid fun hb => ofLog_src _ s.l w' ((HLg.out.below hb).mono hb.size) hlen hval
  have HH1 : ∀ B K w', Hid (Src 111 B K old.length (plG (lgf old)) → K w' → Calls Tryz.prog 35 #[.int .i64 old.length, cloV 111 B] w' fun e w2 => e = .returned (hdV old.length (dg (hdText old.length (tr (lgf old) 0 old.length)))) ∧ Below w'.heap.size w' w2) := fun B K w' => hid fun hS hK => head_any hS (by omega) (Nat.le_refl _) (comes_of (lgf_bd ho) old.length 0 old.length (by omega) (by omega)) (mid_bd (tr_bd (lgf_bd ho) old.length 0 old.length (by omega)) (by omega)) w' hK
  have HH2 : ∀ B K w', Hid (Src 111 B K s.l.length (plG (lgf s.l)) → K w' → Calls Tryz.prog 35 #[.int .i64 s.l.length, cloV 111 B] w' fun e w2 => e = .returned (hdV s.l.length (dg (hdText s.l.length (tr (lgf s.l) 0 s.l.length)))) ∧ Below w'.heap.size w' w2) := fun B K w' => hid fun hS hK => head_any hS hlen (Nat.le_refl _) (comes_of (lgf_bd hval) s.l.length 0 s.l.length (by omega) (by omega)) (mid_bd (tr_bd (lgf_bd hval) s.l.length 0 s.l.length (by omega)) (by omega)) w' hK
  have HCg : ∀ w', Hid (Calls Tryz.prog 18 #[.agg #[.int .i64 old.length, .int .u8 ((dg (hdText old.length (tr (lgf old) 0 old.length)) : Int) / 256), .int .u8 ((dg (hdText old.length (tr (lgf old) 0 old.length)) : Int) % 256)], .agg #[.int .i64 s.l.length, .int .u8 ((dg (hdText s.l.length (tr (lgf s.l) 0 s.l.length)) : Int) / 256), .int .u8 ((dg (hdText s.l.length (tr (lgf s.l) 0 s.l.length)) : Int) % 256)], .string p] w' fun e w2 => e = .returned (.int .i64 0) ∧ Below w'.heap.size w' w2) := fun w' => hid (by
    have := checkGrown_good old.length s.l.length ((dg (hdText old.length (tr (lgf old) 0 old.length)) : Int) / 256) ((dg (hdText old.length (tr (lgf old) 0 old.length)) : Int) % 256) ((dg (hdText s.l.length (tr (lgf s.l) 0 s.l.length)) : Int) / 256) ((dg (hdText s.l.length (tr (lgf s.l) 0 s.l.length)) : Int) % 256) p w' h1 h2 hlen hp
    rw [← hE] at this
    exact this)
  have HOld := hid hl
  obtain ⟨ao, cap, rfl, _⟩ := hl.ex
  simp only [List.length_map] at HAV HO1 HOld ⊢
  simp only [hdV] at HH1 HH2
  unfold cloV at HH1 HH2
  generalize (dg (hdText old.length (tr (lgf old) 0 old.length)) : Int) / 256 = e0 at HH1 HCg
  generalize (dg (hdText old.length (tr (lgf old) 0 old.length)) : Int) % 256 = e1 at HH1 HCg
  generalize (dg (hdText s.l.length (tr (lgf s.l) 0 s.l.length)) : Int) / 256 = d0 at HH2 HCg
  generalize (dg (hdText s.l.length (tr (lgf s.l) 0 s.l.length)) : Int) % 256 = d1 at HH2 HCg
  clear h hl
  have hrt : rtE s.l.length 0 old.length (readR p.data.toList) = 0 := Decidable.byContradiction fun c => c ((cgE_rt c).symm.trans hE.symm)
  clear hE
  have hnl : ns.length = (cov 0 s.l.length 0 old.length).length ∧ (cm 0 s.l.length 0 old.length ns).ok = true := by
    rw [hns] at hrt
    simp only [rtE] at hrt
    by_cases h1 : ns.length = (cov 0 s.l.length 0 old.length).length
    · rw [if_pos h1] at hrt
      by_cases h2 : (cm 0 s.l.length 0 old.length ns).ok = true
      · exact ⟨h1, h2⟩
      · rw [if_neg h2] at hrt; cases hrt
    · rw [if_neg h1] at hrt; cases hrt
  have hcm : Comes (gL ((cov 0 s.l.length 0 old.length).zip ns)) 0 s.l.length (cm 0 s.l.length 0 old.length ns) := by
    have := comes_cm 0 old.length s.l.length 0 s.l.length ns [] [] (by omega) (by omega) hlen (by omega) (fun d hd => List.all_eq_true.1 (write_read _ _ hns).2.1 d hd) (fun _ => ⟨rfl, rfl⟩) (by simp) (by simp)
    simpa using this
  have HU : Hid (∀ a b, a ≤ b → b ≤ s.l.length → Comes (plG (lgf s.l)) a b (tr (lgf s.l) a b) ∧ (tr (lgf s.l) a b).mid) := hid fun a b _ hb => ⟨comes_of (lgf_bd hval) s.l.length a b (by omega) (by omega), mid_bd (tr_bd (lgf_bd hval) (b - a) a b (Nat.le_refl _)) (by omega)⟩
  have HRt : ∀ w', Hid (Calls Tryz.prog 37 #[.int .i64 s.l.length, paV 0 old.length, .string p] w' fun e w2 => ∃ B M, e = .returned (.tuple #[cloV 118 B, .int .i64 0]) ∧ pfK B M (gL ((cov 0 s.l.length 0 old.length).zip ns)) w2 ∧ Below w'.heap.size w' w2) := fun w' => hid (by
    refine (readTree_any s.l.length 0 old.length p w' hlen h2 hp).mono ?_
    rintro e w2 ⟨hb, h⟩
    rw [if_pos hrt] at h
    obtain ⟨ns', B, M, hns', he, hK⟩ := h
    rw [hns] at hns'
    injection hns' with hns'
    subst hns'
    exact ⟨B, M, he, hK, hb⟩)
  have HCl1 : ∀ B K B2 M2 w', Hid (Src 111 B K s.l.length (plG (lgf s.l)) → K w' → pfK B2 M2 (gL ((cov 0 s.l.length 0 old.length).zip ns)) w' → Calls Tryz.prog 38 #[.int .i64 s.l.length, cloV 118 B2, cloV 111 B] w' fun e w2 => e = .returned (clV (cls (gL ((cov 0 s.l.length 0 old.length).zip ns)) (tr (lgf s.l)) s.l.length)) ∧ Below w'.heap.size w' w2) := fun B K B2 M2 w' => hid fun hS hK hP => clash_any (prf_src B2 M2 s.l.length _ hlen) hS hlen (Nat.le_refl _) HU.out hcm (Nd.mid_of_ok hnl.2) w' hP hK
  have HCl2 : ∀ B K B2 K2 w', Hid (Src 111 B K s.l.length (plG (lgf s.l)) → K w' → Src 111 B2 K2 old.length (plG (lgf old)) → K2 w' → Calls Tryz.prog 38 #[.int .i64 old.length, cloV 111 B2, cloV 111 B] w' fun e w2 => e = .returned (clV (cls (plG (lgf old)) (tr (lgf s.l)) old.length)) ∧ Below w'.heap.size w' w2) := fun B K B2 K2 w' => hid fun hS hK hS2 hK2 => clash_any hS2 (Src.cut hS h2) (by omega) (Nat.le_refl _) (fun a b h3 h4 => HU.out a b h3 (by omega)) (comes_of (lgf_bd ho) old.length 0 old.length (by omega) (by omega)) (mid_bd (tr_bd (lgf_bd ho) old.length 0 old.length (by omega)) (by omega)) w' hK2 hK
  obtain ⟨SV, hSV, HSC⟩ : ∃ SV, (∀ w', (Instr.slice 25 (.slice ao1 s.l.length cap1) none (some (.int .i64 (old.length : Int))) none).run Tryz.prog w' = .ok SV w') ∧ Hid (Cells1 w w.heap.size SV ((s.l.take old.length).map (.int .i64))) := by
    refine ⟨.slice (if cap1 = 0 then ao1 else ao1.map (·.add (0 * 1))) old.length (cap1 - 0), fun w' => grun_slice0 w' ao1 _ cap1 old.length (by omega), hid ?_⟩
    have := HLg.out.pre old.length (by simp; omega) (by simp; omega)
    rw [List.map_take]
    exact this
  have HEq : ∀ w', Hid (Below w.heap.size w w' → Calls Tryz.prog 36 #[.slice ao old.length cap, SV] w' fun e w2 => e = .returned (.bool (decide (old = s.l.take old.length))) ∧ Below w'.heap.size w' w2) := fun w' => hid fun hb => equalInts_any _ _ _ _ w' ((HOld.out.below hb).mono hb.size) ((HSC.out.below hb).mono hb.size) (by omega) (by simp; omega)
  generalize gL ((cov 0 s.l.length 0 old.length).zip ns) = gg at HRt HCl1 hR hcm
  generalize cls gg (tr (lgf s.l)) s.l.length = r1 at HCl1 hR
  generalize cls (plG (lgf old)) (tr (lgf s.l)) old.length = r2 at HCl2 hR
  clear hnl hcm hrt hns HU HSC HOld HLg
  simp only [paV, Int.ofNat_zero] at HRt
  unfold cloV at HRt HCl1 HCl2
  go_enter Tryz.func11, Tryz.ntmps11
  go_wp2
  go_quiet (fail)
  go_wp2_with (go_at_call 33; refine ((HAV _).out (below_drewN w nq)).mono ?_; rintro e w1 ⟨rfl, hw1⟩; rw [hw1]; clear hw1 w1)
  obtain ⟨W0, hW0⟩ : ∃ W, W = w.drewN nq := ⟨_, rfl⟩
  have HB0 : Hid (Below w.heap.size w W0) := hid (hW0 ▸ below_drewN w nq)
  rw [← hW0]
  clear hW0 HAV
  have hc0 := HCS.out W0 HB0.out
  have s0 := HB0.out.size
  go_region_held3 (fun w' => w'.cell? ⟨S, 0, none⟩ = some (.slice ao1 s.l.length cap1))
    (first | exact HCS.out _ (HB0.out.trans (Below.mono (by (repeat (first | (with_reducible exact hBb) | (with_reducible exact hBa) | (with_reducible exact Below.refl _ _) | (with_reducible apply Below.drew)))) s0)) | go_keep)
    ((go_at_call 34; first
      | (refine ((HO1 _).out (HB0.out.trans (Below.mono (by (repeat (first | (with_reducible exact Below.refl _ _) | (with_reducible apply Below.drew)))) s0))).mono ?_; rintro e wa ⟨B1, K1, rfl, hS1, hK1, hba⟩; have hBa : Below W0.heap.size W0 wa := Below.trans (by (repeat (first | (with_reducible exact Below.refl _ _) | (with_reducible apply Below.drew)))) (hba.mono (by exact Nat.le_refl _)); clear hba HO1)
      | (refine ((HO2 _).out (HB0.out.trans (Below.mono (by (repeat (first | (with_reducible exact hBa) | (with_reducible apply Below.drew)))) s0))).mono ?_; rintro e wb ⟨B2, K2, rfl, hS2, hK2, hbb⟩; have hBb : Below W0.heap.size W0 wb := Below.trans (by (repeat (first | (with_reducible exact hBa) | (with_reducible apply Below.drew)))) (hbb.mono (by exact hBa.size)); have hK1b : K1 wb := hS1.keep wa wb hK1 (Below.trans (by (repeat (first | (with_reducible exact Below.refl _ _) | (with_reducible apply Below.drew)))) (hbb.mono (by exact Nat.le_refl _))); clear hbb)))
  have HSS := hid (And.intro (And.intro hS1 hS2) (And.intro hK1b hK2))
  have HBb : Hid (Below w.heap.size w wb) := hid (HB0.out.trans (hBb.mono s0))
  have hcb := HCS.out wb HBb.out
  clear hS1 hS2 hK1 hK1b hK2 hBa hBb hc0 HO2 HB0
  simp only [cloV]
  go_wp2_with fail
  refine ((HH1 B1 K1 wb).out HSS.out.1.1 HSS.out.2.1).mono ?_
  rintro e w3 ⟨rfl, hb3⟩
  have HK3 := hid (And.intro (HSS.out.1.1.keep wb w3 HSS.out.2.1 hb3) (HSS.out.1.2.keep wb w3 HSS.out.2.2 hb3))
  have HB3 := hid (HBb.out.trans (hb3.mono HBb.out.size))
  clear hb3 HH1 hcb HBb
  go_wp2_with fail
  refine ((HH2 B2 K2 w3).out HSS.out.1.2 HK3.out.2).mono ?_
  rintro e w4 ⟨rfl, hb4⟩
  have HK4 := hid (And.intro (HSS.out.1.1.keep w3 w4 HK3.out.1 hb4) (HSS.out.1.2.keep w3 w4 HK3.out.2 hb4))
  have HB4 := hid (HB3.out.trans (hb4.mono HB3.out.size))
  clear hb4 HH2 HK3 HB3
  go_wp2_with fail
  refine (HCg w4).out.mono ?_
  rintro e w5 ⟨rfl, hb5⟩
  have HK5 := hid (And.intro (HSS.out.1.1.keep w4 w5 HK4.out.1 hb5) (HSS.out.1.2.keep w4 w5 HK4.out.2 hb5))
  have HB5 := hid (HB4.out.trans (hb5.mono HB4.out.size))
  have hc5 := HCS.out w5 HB5.out
  clear hb5 HCg HK4 HB4
  by_cases hq : old = s.l.take old.length
  · have hd : decide (old = s.l.take old.length) = true := decide_eq_true hq
    have HX : Hid (R = none ∧ X = 11) := hid (by
      rcases hR with h | h
      · exact h.2
      · exact absurd hq h.1)
    rw [hd] at HEq
    clear hR hq hd HCl1 HCl2 HRt
    go_wp2_with fail
    refine ((HEq w5).out HB5.out).mono ?_
    rintro e w6 ⟨rfl, hb6⟩
    have HB6 := hid (HB5.out.trans (hb6.mono HB5.out.size))
    clear hb6 HEq hc5 HK5 HSS HCS HB5 hSV
    go_wp2
    exact bodyPost_ret (v := exV none 11) (by simp [results, Tryz.results11, go_sem, exV]) rfl ⟨by rw [HX.out.1, HX.out.2], HB6.out⟩
  · have hd : decide (old = s.l.take old.length) = false := decide_eq_false hq
    have HX : Hid (R = r1.or r2 ∧ X = 0) := hid (by
      rcases hR with h | h
      · exact absurd h.1 hq
      · exact h.2)
    rw [hd] at HEq
    clear hR hq hd
    go_wp2_with fail
    refine ((HEq w5).out HB5.out).mono ?_
    rintro e w6 ⟨rfl, hb6⟩
    have HK6 := hid (And.intro (HSS.out.1.1.keep w5 w6 HK5.out.1 hb6) (HSS.out.1.2.keep w5 w6 HK5.out.2 hb6))
    have HB6 := hid (HB5.out.trans (hb6.mono HB5.out.size))
    clear hb6 HEq hc5 HK5 HCS HB5 hSV
    go_wp2_with fail
    refine (HRt _).out.mono ?_
    rintro e w7 ⟨B3, M3, rfl, hP7, hb7⟩
    have hb7' : Below w6.heap.size w6 w7 := by
      refine Below.trans ?_ (hb7.mono ?_)
      · first | exact (Below.refl _ _) | exact (Below.refl _ _).alloc (Nat.le_refl _) _
      · first | exact Nat.le_refl _ | simp
    have HK7 := hid (And.intro (HSS.out.1.1.keep w6 w7 HK6.out.1 hb7') (HSS.out.1.2.keep w6 w7 HK6.out.2 hb7'))
    have HB7 := hid (HB6.out.trans (hb7'.mono HB6.out.size))
    have HP7 := hid hP7
    clear hb7 hb7' hP7 HK6 HB6 HRt
    go_wp2_with fail
    refine ((HCl1 B2 K2 B3 M3 w7).out HSS.out.1.2 HK7.out.2 HP7.out).mono ?_
    rintro e w8 ⟨rfl, hb8⟩
    have HK8 := hid (And.intro (HSS.out.1.1.keep w7 w8 HK7.out.1 hb8) (HSS.out.1.2.keep w7 w8 HK7.out.2 hb8))
    have HB8 := hid (HB7.out.trans (hb8.mono HB7.out.size))
    clear hb8 HCl1 HP7 HK7 HB7
    cases r1 with
    | some pq =>
      simp only [clV]
      go_wp2
      exact bodyPost_ret (v := exV (some pq) 0) (by simp [results, Tryz.results11, go_sem, exV]) rfl ⟨by rw [HX.out.1, HX.out.2]; rfl, HB8.out⟩
    | none =>
      simp only [clV]
      go_wp2_with fail
      refine ((HCl2 B2 K2 B1 K1 w8).out HSS.out.1.2 HK8.out.2 HSS.out.1.1 HK8.out.1).mono ?_
      rintro e w9 ⟨rfl, hb9⟩
      have HB9 := hid (HB8.out.trans (hb9.mono HB8.out.size))
      clear hb9 HCl2 HK8 HB8 HSS
      cases r2 with
      | some pq =>
        simp only [clV]
        go_wp2
        exact bodyPost_ret (v := exV (some pq) 0) (by simp [results, Tryz.results11, go_sem, exV]) rfl ⟨by rw [HX.out.1, HX.out.2]; rfl, HB9.out⟩
      | none =>
        simp only [clV]
        go_wp2
        exact bodyPost_ret (v := exV none 0) (by simp [results, Tryz.results11, go_sem, exV]) rfl ⟨by rw [HX.out.1, HX.out.2]; rfl, HB9.out⟩
end Go.Proofs.YtogmdaopfnmobaaGreat

