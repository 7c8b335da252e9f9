/- What the document's own answer does (notaryref): Pairs. -/
import Derived.Test.YtogmdaopfnmobaaP42
namespace Go.Proofs.Ytogmdaopfnmobaa
open Go.RowKit

set_option maxHeartbeats 8000000 in
set_option maxRecDepth 100000 in
theorem refPairs_any (tb : Bool) (a1 : Option Addr) (c1 : Nat) (hv : Value) (vs : List Int) (hs : List Bool) (f t : Nat) (ao : Option Addr) (cp : Nat) (ns : List Nd) (w : World) (hN : Nodes w w.heap.size (.slice ao ns.length cp) ns) (hcp : ns.length ≤ cp) (hcp2 : cp ≤ 9223372036854775807) (hok : ∀ d ∈ ns, d.ok = true)
    (hT : TreeIn w w.heap.size (.slice a1 vs.length c1) hv vs hs) (ht : t ≤ vs.length) (hf : f ≤ t) (hl : (cov 0 vs.length f t).length ≤ ns.length) (hc : (cm 0 vs.length f t ns).ok = true) :
    Calls Try.prog 36 #[.slice ao ns.length cp, .agg #[.bool tb, .slice a1 vs.length c1, hv], .int .i64 f, .int .i64 t] w fun e w' => ∃ pv, e = .returned pv ∧ w'.ownsRow w.heap.size 123 2 pv (prC (tr (lf tb vs hs)) 0 vs.length f t ns ++ [(hdText vs.length (cm 0 vs.length f t ns), hdText vs.length (tr (lf tb vs hs) 0 vs.length))]).length (prRow (prC (tr (lf tb vs hs)) 0 vs.length f t ns ++ [(hdText vs.length (cm 0 vs.length f t ns), hdText vs.length (tr (lf tb vs hs) 0 vs.length))])) ∧ Below w.heap.size w w' := by
  have hsm := hT.small
  have hU := tr_U (lf_bd (tb := tb) (hs := hs) hT.val)
  have HTb : Hid (∀ w', Kept w w' [w.heap.size + 1] → TreeIn w' w'.heap.size (.slice a1 vs.length c1) hv vs hs) := hid fun w' hk => by
    have hb : Below w.heap.size w w' := hk.below (Nat.le_refl _) (by simp)
    exact (hT.below hb).mono hb.size
  have HNV : Hid (NV w w.heap.size (w.heap.size + 1) (.slice ao ns.length cp) ns) := hid ⟨ao, cp, rfl, hcp, hcp2, fun b off e => by
    obtain ⟨ao', cap', hv, _, hc⟩ := hN.ex
    simp only [Value.slice.injEq] at hv
    obtain ⟨rfl, _, rfl⟩ := hv
    by_cases h0 : 0 < ns.length
    · obtain ⟨b', off', ha, hB, _⟩ := hc 0 h0
      rw [e] at ha; simp at ha; omega
    · have := (cov_len f t vs.length 0 vs.length (by omega)).1; omega, hN⟩
  have HAv : ∀ w', Hid (Kept w w' [w.heap.size + 1] → WkAt w' (w.heap.size + 1) (.slice ao ns.length cp) false → NV w' w.heap.size (w.heap.size + 1) (.slice ao ns.length cp) ns → w.heap.size ≤ w'.heap.size → Calls Try.prog 63 #[.pointer (some ⟨w.heap.size + 1, 0, none⟩), .agg #[.bool tb, .slice a1 vs.length c1, hv], .int .i64 0, .int .i64 vs.length, .int .i64 f, .int .i64 t] w' (abPost w.heap.size (w.heap.size + 1) (prC (tr (lf tb vs hs)) 0 vs.length f t ns) (cm 0 vs.length f t ns) (ns.drop (cov 0 vs.length f t).length) false w')) := fun w' => hid fun hk h1 h2 h3 =>
    refAbv_any tb _ hv f t w.heap.size (w.heap.size + 1) (tr (lf tb vs hs)) vs.length ⟨hU.two, fun a b hb => hU.ok a b (by omega)⟩ hsm (by omega) (by omega) w (fun a b w'' _ hb hk' => refPart_any tb _ hv vs hs (b - a) a b w'' (Nat.le_refl _) hb (HTb.out w'' hk')) vs.length 0 vs.length _ ns false w' (by omega) (by omega) (Nat.le_refl _) (by omega) hk h1 h2 h3 hl hok hc
  have HWh : ∀ w', Hid (Kept w w' [w.heap.size + 1] → Calls Try.prog 64 #[.agg #[.bool tb, .slice a1 vs.length c1, hv]] w' fun e w2 => e = .returned (ndV (tr (lf tb vs hs) 0 vs.length)) ∧ Below w'.heap.size w' w2) := fun w' => hid fun hk => refWhole_any tb _ hv vs hs w' (HTb.out w' hk)
  have HT1 : ∀ w', Hid (Calls Try.prog 65 #[.int .i64 vs.length, ndV (cm 0 vs.length f t ns)] w' _) := fun w' => hid (refHeadText_any vs.length _ w' (by omega) hc)
  have HT2 : ∀ w', Hid (Calls Try.prog 65 #[.int .i64 vs.length, ndV (tr (lf tb vs hs) 0 vs.length)] w' _) := fun w' => hid (refHeadText_any vs.length _ w' (by omega) (hU.ok 0 _ (by omega)))
  have hpl := prC_len (U := tr (lf tb vs hs)) (f := f) (t := t) vs.length 0 vs.length ns (by omega)
  generalize prC (tr (lf tb vs hs)) 0 vs.length f t ns = p1 at HAv hpl ⊢
  clear hN hok hT hU hl hc hcp hcp2
  generalize hdText vs.length (cm 0 vs.length f t ns) = P at HT1 ⊢
  generalize hdText vs.length (tr (lf tb vs hs) 0 vs.length) = Q at HT2 ⊢
  generalize cm 0 vs.length f t ns = d at HAv HT1
  generalize tr (lf tb vs hs) 0 vs.length = u at HWh HT2
  generalize ns.drop (cov 0 vs.length f t).length = rs at HAv
  generalize vs.length = n at *
  simp only [ndV] at HT1 HT2 HWh
  go_enter Try.func36, Try.ntmps36
  go_wp2_with fail
  refine ((HAv _).out ?_ ?_ ?_ ?_).mono ?_
  · exact ((Kept.refl _ _).alloc _).alloc _
  · exact heap_one _ _ _ (by simp)
  · refine HNV.out.move fun k h1 h2 => ?_
    rw [Below.heap_alloc _ _ _ (by simp; omega), Below.heap_alloc _ _ _ h1]
  · simp; omega
  rintro e w1 ⟨r1, rfl, hk1, _, ho1⟩
  simp only [ndV]
  have T1 : Hid (TrAt w1 w.heap.size tb (.slice a1 n c1) hv) := hid (TrAt.kept (show TrAt _ _ _ _ _ from heap_two w _ _ _ rfl) hk1 (by omega))
  have K1 : Hid (Kept w w1 [w.heap.size + 1]) := hid ((((Kept.refl _ _).alloc _).alloc _).trans hk1 (fun x hx => .inl hx))
  have O1 := hid ho1
  have s1 : w.heap.size + 2 ≤ w1.heap.size := by have := hk1.size; simp at this; omega
  obtain ⟨ao1, cp1, rfl⟩ := own_shape ho1
  obtain ⟨t0, t1, t2⟩ := T1.out.cells
  have l1 := T1.out.lt
  clear hk1 ho1 HAv HNV HTb
  go_wp2_with fail
  obtain ⟨W1, hW1⟩ : ∃ W, W = w1.alloc (.cells #[.int .i64 d.c, .int .i64 d.s, .int .i64 d.m, .int .i64 d.x, .int .u8 (d.h.toNat : Int), .int .u8 (d.g.toNat : Int)] 33) := ⟨_, rfl⟩
  have hB : Below w1.heap.size w1 W1 := hW1 ▸ (Below.refl _ _).alloc (Nat.le_refl _) _
  have s1' : W1.heap.size = w1.heap.size + 1 := by rw [hW1]; simp
  have X1 : Hid (NdAt W1 w1.heap.size d) := hid (hW1 ▸ nd_new w1 d _ rfl)
  have B1 := hid hB
  rw [← hW1]
  clear hW1 hB t0 t1 t2
  refine ((HWh _).out (K1.out.trans (Kept.of_below B1.out _) (fun x hx => .inl hx))).mono ?_
  rintro e w2 ⟨rfl, hb2⟩
  have B2 : Hid (Below w1.heap.size w1 w2) := hid (B1.out.trans (hb2.mono (by omega)))
  have X2 : Hid (NdAt w2 w1.heap.size d) := hid (nd_below X1.out hb2 (by omega))
  have s2 : W1.heap.size ≤ w2.heap.size := hb2.size
  have T2 : Hid (TrAt w2 w.heap.size tb (.slice a1 n c1) hv) := hid (T1.out.below B2.out l1)
  obtain ⟨t0, t1, t2⟩ := T2.out.cells
  have l2 := T2.out.lt
  clear hb2 HWh X1 B1 T1
  go_wp2_with fail
  obtain ⟨W6, hW6⟩ : ∃ W, W = w2.alloc (.cells #[.int .i64 u.c, .int .i64 u.s, .int .i64 u.m, .int .i64 u.x, .int .u8 (u.h.toNat : Int), .int .u8 (u.g.toNat : Int)] 33) := ⟨_, rfl⟩
  have hB : Below w2.heap.size w2 W6 := hW6 ▸ (Below.refl _ _).alloc (Nat.le_refl _) _
  have hB6 : Below w1.heap.size w1 W6 := B2.out.trans (hB.mono (by omega))
  have s6' : W6.heap.size = w2.heap.size + 1 := by rw [hW6]; simp
  have HIN : Hid ((NdAt W6 w1.heap.size d ∧ NdAt W6 w2.heap.size u) ∧ Below w.heap.size w W6 ∧ W6.ownsRow w.heap.size 123 2 (.slice ao1 p1.length cp1) p1.length (prRow p1) ∧ ∀ k ∈ ob (.slice ao1 p1.length cp1), k < w1.heap.size) := hid
    ⟨⟨nd_below X2.out hB (by omega), hW6 ▸ nd_new w2 u _ rfl⟩, (K1.out.below (Nat.le_refl _) (by simp)).trans (hB6.mono (by omega)), own_mono' (ownsRow_below O1.out hB6) (by simp; omega), fun k hk => (own_in O1.out k hk).2⟩
  have hx6 : w1.heap.size < w2.heap.size ∧ w2.heap.size < W6.heap.size ∧ w.heap.size ≤ W6.heap.size := by omega
  rw [← hW6]
  clear hW6 hB hB6 X2 K1 O1 B2 T2 l2 l1 s1 s1' s2 s6' t0 t1 t2
  generalize w1.heap.size = gx at HIN hx6 ⊢
  generalize w2.heap.size = gy at HIN hx6 ⊢
  have HCS : Hid (∀ w', Below W6.heap.size W6 w' → (w'.cell? ⟨gx, 0, none⟩ = some (.int .i64 d.c) ∧ w'.cell? ⟨gx, 1, none⟩ = some (.int .i64 d.s) ∧ w'.cell? ⟨gx, 2, none⟩ = some (.int .i64 d.m) ∧ w'.cell? ⟨gx, 3, none⟩ = some (.int .i64 d.x) ∧ w'.cell? ⟨gx, 4, none⟩ = some (.int .u8 (d.h.toNat : Int)) ∧ w'.cell? ⟨gx, 5, none⟩ = some (.int .u8 (d.g.toNat : Int))) ∧ (w'.cell? ⟨gy, 0, none⟩ = some (.int .i64 u.c) ∧ w'.cell? ⟨gy, 1, none⟩ = some (.int .i64 u.s) ∧ w'.cell? ⟨gy, 2, none⟩ = some (.int .i64 u.m) ∧ w'.cell? ⟨gy, 3, none⟩ = some (.int .i64 u.x) ∧ w'.cell? ⟨gy, 4, none⟩ = some (.int .u8 (u.h.toNat : Int)) ∧ w'.cell? ⟨gy, 5, none⟩ = some (.int .u8 (u.g.toNat : Int)))) := hid fun w' hb => ⟨(nd_below HIN.out.1.1 hb (by omega)).cells.1, (nd_below HIN.out.1.2 hb (by omega)).cells.1⟩
  have hcs := HCS.out W6 (Below.refl _ _)
  go_region_held3 (fun w' => (w'.cell? ⟨gx, 0, none⟩ = some (.int .i64 d.c) ∧ w'.cell? ⟨gx, 1, none⟩ = some (.int .i64 d.s) ∧ w'.cell? ⟨gx, 2, none⟩ = some (.int .i64 d.m) ∧ w'.cell? ⟨gx, 3, none⟩ = some (.int .i64 d.x) ∧ w'.cell? ⟨gx, 4, none⟩ = some (.int .u8 (d.h.toNat : Int)) ∧ w'.cell? ⟨gx, 5, none⟩ = some (.int .u8 (d.g.toNat : Int))) ∧ (w'.cell? ⟨gy, 0, none⟩ = some (.int .i64 u.c) ∧ w'.cell? ⟨gy, 1, none⟩ = some (.int .i64 u.s) ∧ w'.cell? ⟨gy, 2, none⟩ = some (.int .i64 u.m) ∧ w'.cell? ⟨gy, 3, none⟩ = some (.int .i64 u.x) ∧ w'.cell? ⟨gy, 4, none⟩ = some (.int .u8 (u.h.toNat : Int)) ∧ w'.cell? ⟨gy, 5, none⟩ = some (.int .u8 (u.g.toNat : Int))))
    (first | exact HCS.out _ (by (repeat (first | (with_reducible exact hBn) | (with_reducible exact hBa) | (with_reducible exact Below.refl _ _) | (with_reducible apply Below.drew) | (with_reducible refine Below.alloc ?_ (by first | exact Nat.le_refl _ | exact hBn.size | exact hBa.size) _) | (with_reducible refine Below.setCell ?_ (by first | exact Nat.le_refl _ | exact hBn.size | exact hBa.size) _)))) | go_keep)
    ((go_at_call 65; first
      | (refine (HT1 _).out.mono ?_; rintro e wn ⟨rfl, hbn⟩; have hBn : Below W6.heap.size W6 wn := Below.trans (by (repeat (first | (with_reducible exact Below.refl _ _) | (with_reducible apply Below.drew) | (with_reducible refine Below.alloc ?_ (Nat.le_refl _) _)))) (hbn.mono (by simp)); (first | (have hPn := PrAt.one hbn (by simp)) | (have hPn := PrAt.oneD hbn (by simp)) | (have hPn := PrAt.oneE hbn (by simp)) | skip); clear hbn HT1)
      | (refine (HT2 _).out.mono ?_; rintro e wa ⟨rfl, hba⟩; have hBa : Below W6.heap.size W6 wa := Below.trans (by (repeat (first | (with_reducible exact hBn) | (with_reducible apply Below.drew) | (with_reducible refine Below.alloc ?_ hBn.size _) | exact hBn.size | (with_reducible refine Below.alloc ?_ ?_ _)))) (hba.mono (by have := hBn.size; simp; omega)); (first | (have hPa := hPn.below hba hPn.lt) | (have hPa := hPn.belowD hba hPn.lt) | (have hPa := PrAt.one hba (by simp)) | (have hPa := PrAt.oneD hba (by simp)) | (have hPa := PrAt.oneE hba (by simp)) | skip); (first | (have hPc := hPa.cells) | skip); clear hba)))
  all_goals first
    | (obtain ⟨W7, hW7⟩ : ∃ W, W = wa.alloc (.cells #[.string ⟨P.toArray⟩, .string ⟨Q.toArray⟩] 123) := ⟨_, rfl⟩
       rw [← hW7]
       have H7 : Hid (PrAt W7 wa.heap.size ⟨P.toArray⟩ ⟨Q.toArray⟩ ∧ Below W6.heap.size W6 W7 ∧ W6.heap.size ≤ wa.heap.size) := hid (hW7 ▸ ⟨heap_one wa _ _ rfl, hBa.alloc hBa.size _, hBa.size⟩)
       clear hW7
       generalize wa.heap.size = gp at H7 ⊢)
    | (obtain ⟨W7, hW7⟩ : ∃ W, W = (wa.setCell ⟨wn.heap.size, 0, none⟩ (.string ⟨P.toArray⟩)).setCell ⟨wn.heap.size, 1, none⟩ (.string ⟨Q.toArray⟩) := ⟨_, rfl⟩
       rw [← hW7]
       have H7 : Hid (PrAt W7 wn.heap.size ⟨P.toArray⟩ ⟨Q.toArray⟩ ∧ Below W6.heap.size W6 W7 ∧ W6.heap.size ≤ wn.heap.size) := hid (hW7 ▸ ⟨hPa.set _ _, (hBa.setCell hBn.size _).setCell hBn.size _, hBn.size⟩)
       clear hW7 hPa hPc
       generalize wn.heap.size = gp at H7 ⊢)
    | (obtain ⟨W7, hW7⟩ : ∃ W, W = (wa.setCell ⟨W6.heap.size, 0, none⟩ (.string ⟨P.toArray⟩)).setCell ⟨W6.heap.size, 1, none⟩ (.string ⟨Q.toArray⟩) := ⟨_, rfl⟩
       rw [← hW7]
       have H7 : Hid (PrAt W7 W6.heap.size ⟨P.toArray⟩ ⟨Q.toArray⟩ ∧ Below W6.heap.size W6 W7 ∧ W6.heap.size ≤ W6.heap.size) := hid (hW7 ▸ ⟨hPa.set _ _, (hBa.setCell (Nat.le_refl _) _).setCell (Nat.le_refl _) _, Nat.le_refl _⟩)
       clear hW7 hPa hPc hPn
       obtain ⟨gp, hgp⟩ : ∃ gp, gp = W6.heap.size := ⟨_, rfl⟩
       rw [← hgp]
       have H7 : Hid (PrAt W7 gp ⟨P.toArray⟩ ⟨Q.toArray⟩ ∧ Below W6.heap.size W6 W7 ∧ W6.heap.size ≤ gp) := hid ⟨hgp ▸ H7.out.1, H7.out.2.1, by omega⟩
       clear hgp)
  all_goals
    clear hBn hBa hcs HT2 HCS
    obtain ⟨i0, hi, hz0, hz1, hz2⟩ := info_parts info_pair
    have hs7 : W6.heap.size ≤ W7.heap.size := H7.out.2.1.size
    have hown : W7.ownsRow w.heap.size 123 2 (.slice ao1 p1.length cp1) p1.length (prRow p1) := ownsRow_below HIN.out.2.2.1 H7.out.2.1
    obtain ⟨hpc, hpz⟩ := H7.out.1.cells
    have HB7 : Hid (Below w.heap.size w W7) := hid (HIN.out.2.1.trans (H7.out.2.1.mono (by omega)))
    have HIO : Hid (∀ k ∈ ob (.slice ao1 p1.length cp1), w.heap.size ≤ k) := hid fun k hk => (own_in hown k hk).1
    go_wp2_with (at_builtin; refine wpList_append_grew _ rfl _ _ 83 rfl w.heap.size 123 i0 (.agg #[.string ⟨#[]⟩, .string ⟨#[]⟩]) 2 32 Try.underlying83 hi hz0 hz1 hz2 rfl (by decide) _ _ _ rfl (hown.alloc _) ⟨W7.heap.size, 0, none⟩ 1 1 [.string ⟨P.toArray⟩, .string ⟨Q.toArray⟩] rfl rfl (PrAt.new W7 ⟨P.toArray⟩ ⟨Q.toArray⟩).news (by simp [Value.oneCell']) (by unfold maxLen; omega) (by omega) (by simp; omega) ?_)
    rintro v9 w9 ho9 hg9 _
    have HO9 := hid ho9
    have HB9 : Hid (Below w.heap.size w w9) := hid (HB7.out.trans (((Below.refl _ W7).alloc (by omega) _).trans (hg9.toBelow w.heap.size (by simp; omega) (fun k hk => HIO.out k (mem_ob.2 hk)))))
    clear ho9 hg9 hown
    go_wp2
    go_ret
    exact ⟨v9, rfl, own_cast HO9.out (by simp) (by rw [prRow_append]; rfl), HB9.out⟩

end Go.Proofs.Ytogmdaopfnmobaa

