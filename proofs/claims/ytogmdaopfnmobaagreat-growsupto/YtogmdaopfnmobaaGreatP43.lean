/- What the document's own answer does (notaryref): Pairs. -/
import Derived.Test.YtogmdaopfnmobaaGreatP42
namespace Go.Proofs.YtogmdaopfnmobaaGreat
open Go.RowKit

set_option maxHeartbeats 8000000 in
set_option maxRecDepth 100000 in
theorem refPairs_any (tb : Bool) (a1 : Option Addr) (c1 : Nat) (hv : Value) (vs : List Int) (hs : List Bool) (f t : Nat) (ao : Option Addr) (cp : Nat) (ns : List Nd) (w : World) (hN : Nodes w w.heap.size (.slice ao ns.length cp) ns) (hcp : ns.length ≤ cp) (hcp2 : cp ≤ 9223372036854775807) (hok : ∀ d ∈ ns, d.ok = true)
    (hT : TreeIn w w.heap.size (.slice a1 vs.length c1) hv vs hs) (ht : t ≤ vs.length) (hf : f ≤ t) (hl : (cov 0 vs.length f t).length ≤ ns.length) (hc : (cm 0 vs.length f t ns).ok = true) :
    Calls Tryz.prog 43 #[.slice ao ns.length cp, .agg #[.bool tb, .slice a1 vs.length c1, hv], .int .i64 f, .int .i64 t] w fun e w' => ∃ pv, e = .returned pv ∧ w'.ownsRow w.heap.size 107 2 pv (prC (tr (lf tb vs hs)) 0 vs.length f t ns ++ [(hdText vs.length (cm 0 vs.length f t ns), hdText vs.length (tr (lf tb vs hs) 0 vs.length))]).length (prRow (prC (tr (lf tb vs hs)) 0 vs.length f t ns ++ [(hdText vs.length (cm 0 vs.length f t ns), hdText vs.length (tr (lf tb vs hs) 0 vs.length))])) ∧ Below w.heap.size w w' := by
  have hsm := hT.small
  have hU := tr_U (lf_bd (tb := tb) (hs := hs) hT.val)
  have HTb : Hid (∀ w', Kept w w' [w.heap.size + 1] → TreeIn w' w'.heap.size (.slice a1 vs.length c1) hv vs hs) := hid fun w' hk => by
    have hb : Below w.heap.size w w' := hk.below (Nat.le_refl _) (by simp)
    exact (hT.below hb).mono hb.size
  have HNV : Hid (NV w w.heap.size (w.heap.size + 1) (.slice ao ns.length cp) ns) := hid ⟨ao, cp, rfl, hcp, hcp2, fun b off e => by
    obtain ⟨ao', cap', hv, _, hc⟩ := hN.ex
    simp only [Value.slice.injEq] at hv
    obtain ⟨rfl, _, rfl⟩ := hv
    by_cases h0 : 0 < ns.length
    · obtain ⟨b', off', ha, hB, _⟩ := hc 0 h0
      rw [e] at ha; simp at ha; omega
    · have := (cov_len f t vs.length 0 vs.length (by omega)).1; omega, hN⟩
  have HAv : ∀ w', Hid (Kept w w' [w.heap.size + 1] → WkAt w' (w.heap.size + 1) (.slice ao ns.length cp) false → NV w' w.heap.size (w.heap.size + 1) (.slice ao ns.length cp) ns → w.heap.size ≤ w'.heap.size → Calls Tryz.prog 84 #[.pointer (some ⟨w.heap.size + 1, 0, none⟩), .agg #[.bool tb, .slice a1 vs.length c1, hv], .int .i64 0, .int .i64 vs.length, .int .i64 f, .int .i64 t] w' (abPost w.heap.size (w.heap.size + 1) (prC (tr (lf tb vs hs)) 0 vs.length f t ns) (cm 0 vs.length f t ns) (ns.drop (cov 0 vs.length f t).length) false w')) := fun w' => hid fun hk h1 h2 h3 =>
    refAbv_any tb _ hv f t w.heap.size (w.heap.size + 1) (tr (lf tb vs hs)) vs.length ⟨hU.two, fun a b hb => hU.ok a b (by omega)⟩ hsm (by omega) (by omega) w (fun a b w'' _ hb hk' => refPart_any tb _ hv vs hs (b - a) a b w'' (Nat.le_refl _) hb (HTb.out w'' hk')) vs.length 0 vs.length _ ns false w' (by omega) (by omega) (Nat.le_refl _) (by omega) hk h1 h2 h3 hl hok hc
  have HWh : ∀ w', Hid (Kept w w' [w.heap.size + 1] → Calls Tryz.prog 15 #[.agg #[.bool tb, .slice a1 vs.length c1, hv]] w' fun e w2 => e = .returned (ndV (tr (lf tb vs hs) 0 vs.length)) ∧ Below w'.heap.size w' w2) := fun w' => hid fun hk => refWhole_any tb _ hv vs hs w' (HTb.out w' hk)
  have HT1 : ∀ w', Hid (Calls Tryz.prog 85 #[.int .i64 vs.length, ndV (cm 0 vs.length f t ns)] w' _) := fun w' => hid (refHeadText_any vs.length _ w' (by omega) hc)
  have HT2 : ∀ w', Hid (Calls Tryz.prog 85 #[.int .i64 vs.length, ndV (tr (lf tb vs hs) 0 vs.length)] w' _) := fun w' => hid (refHeadText_any vs.length _ w' (by omega) (hU.ok 0 _ (by omega)))
  have hpl := prC_len (U := tr (lf tb vs hs)) (f := f) (t := t) vs.length 0 vs.length ns (by omega)
  generalize prC (tr (lf tb vs hs)) 0 vs.length f t ns = p1 at HAv hpl ⊢
  clear hN hok hT hU hl hc hcp hcp2
  generalize hdText vs.length (cm 0 vs.length f t ns) = P at HT1 ⊢
  generalize hdText vs.length (tr (lf tb vs hs) 0 vs.length) = Q at HT2 ⊢
  generalize cm 0 vs.length f t ns = d at HAv HT1
  generalize tr (lf tb vs hs) 0 vs.length = u at HWh HT2
  generalize ns.drop (cov 0 vs.length f t).length = rs at HAv
  generalize vs.length = n at *
  simp only [ndV] at HT1 HT2 HWh
  go_enter Tryz.func43, Tryz.ntmps43
  go_wp2_with fail
  refine ((HAv _).out ?_ ?_ ?_ ?_).mono ?_
  · exact ((Kept.refl _ _).alloc _).alloc _
  · exact heap_one _ _ _ (by simp)
  · refine HNV.out.move fun k h1 h2 => ?_
    rw [Below.heap_alloc _ _ _ (by simp; omega), Below.heap_alloc _ _ _ h1]
  · simp; omega
  rintro e w1 ⟨r1, rfl, hk1, _, ho1⟩
  simp only [ndV]
  have T1 : Hid (TrAt w1 w.heap.size tb (.slice a1 n c1) hv) := hid (TrAt.kept (show TrAt _ _ _ _ _ from heap_two w _ _ _ rfl) hk1 (by omega))
  have K1 : Hid (Kept w w1 [w.heap.size + 1]) := hid ((((Kept.refl _ _).alloc _).alloc _).trans hk1 (fun x hx => .inl hx))
  have O1 := hid ho1
  have s1 : w.heap.size + 2 ≤ w1.heap.size := by have := hk1.size; simp at this; omega
  obtain ⟨ao1, cp1, rfl⟩ := own_shape ho1
  obtain ⟨t0, t1, t2⟩ := T1.out.cells
  have l1 := T1.out.lt
  clear hk1 ho1 HAv HNV HTb
  go_wp2_with fail
  obtain ⟨W1, hW1⟩ : ∃ W, W = w1.alloc (.cells #[.int .i64 d.c, .int .i64 d.s, .int .i64 d.m, .int .i64 d.x, .int .u8 (d.h.toNat : Int), .int .u8 (d.g.toNat : Int)] 51) := ⟨_, rfl⟩
  have hB : Below w1.heap.size w1 W1 := hW1 ▸ (Below.refl _ _).alloc (Nat.le_refl _) _
  have s1' : W1.heap.size = w1.heap.size + 1 := by rw [hW1]; simp
  have X1 : Hid (NdAt W1 w1.heap.size d) := hid (hW1 ▸ nd_new w1 d _ rfl)
  have B1 := hid hB
  rw [← hW1]
  clear hW1 hB t0 t1 t2
  refine ((HWh _).out (K1.out.trans (Kept.of_below B1.out _) (fun x hx => .inl hx))).mono ?_
  rintro e w2 ⟨rfl, hb2⟩
  have B2 : Hid (Below w1.heap.size w1 w2) := hid (B1.out.trans (hb2.mono (by omega)))
  have X2 : Hid (NdAt w2 w1.heap.size d) := hid (nd_below X1.out hb2 (by omega))
  have s2 : W1.heap.size ≤ w2.heap.size := hb2.size
  have T2 : Hid (TrAt w2 w.heap.size tb (.slice a1 n c1) hv) := hid (T1.out.below B2.out l1)
  obtain ⟨t0, t1, t2⟩ := T2.out.cells
  have l2 := T2.out.lt
  clear hb2 HWh X1 B1 T1
  go_wp2_with fail
  obtain ⟨W6, hW6⟩ : ∃ W, W = w2.alloc (.cells #[.int .i64 u.c, .int .i64 u.s, .int .i64 u.m, .int .i64 u.x, .int .u8 (u.h.toNat : Int), .int .u8 (u.g.toNat : Int)] 51) := ⟨_, rfl⟩
  have hB : Below w2.heap.size w2 W6 := hW6 ▸ (Below.refl _ _).alloc (Nat.le_refl _) _
  have hB6 : Below w1.heap.size w1 W6 := B2.out.trans (hB.mono (by omega))
  have s6' : W6.heap.size = w2.heap.size + 1 := by rw [hW6]; simp
  have HIN : Hid ((NdAt W6 w1.heap.size d ∧ NdAt W6 w2.heap.size u) ∧ Below w.heap.size w W6 ∧ W6.ownsRow w.heap.size 107 2 (.slice ao1 p1.length cp1) p1.length (prRow p1) ∧ ∀ k ∈ ob (.slice ao1 p1.length cp1), k < w1.heap.size) := hid
    ⟨⟨nd_below X2.out hB (by omega), hW6 ▸ nd_new w2 u _ rfl⟩, (K1.out.below (Nat.le_refl _) (by simp)).trans (hB6.mono (by omega)), own_mono' (ownsRow_below O1.out hB6) (by simp; omega), fun k hk => (own_in O1.out k hk).2⟩
  have hx6 : w1.heap.size < w2.heap.size ∧ w2.heap.size < W6.heap.size ∧ w.heap.size ≤ W6.heap.size := by omega
  rw [← hW6]
  clear hW6 hB hB6 X2 K1 O1 B2 T2 l2 l1 s1 s1' s2 s6' t0 t1 t2
  generalize w1.heap.size = gx at HIN hx6 ⊢
  generalize w2.heap.size = gy at HIN hx6 ⊢
  have HCS : Hid (∀ w', Below W6.heap.size W6 w' → (w'.cell? ⟨gx, 0, none⟩ = some (.int .i64 d.c) ∧ w'.cell? ⟨gx, 1, none⟩ = some (.int .i64 d.s) ∧ w'.cell? ⟨gx, 2, none⟩ = some (.int .i64 d.m) ∧ w'.cell? ⟨gx, 3, none⟩ = some (.int .i64 d.x) ∧ w'.cell? ⟨gx, 4, none⟩ = some (.int .u8 (d.h.toNat : Int)) ∧ w'.cell? ⟨gx, 5, none⟩ = some (.int .u8 (d.g.toNat : Int))) ∧ (w'.cell? ⟨gy, 0, none⟩ = some (.int .i64 u.c) ∧ w'.cell? ⟨gy, 1, none⟩ = some (.int .i64 u.s) ∧ w'.cell? ⟨gy, 2, none⟩ = some (.int .i64 u.m) ∧ w'.cell? ⟨gy, 3, none⟩ = some (.int .i64 u.x) ∧ w'.cell? ⟨gy, 4, none⟩ = some (.int .u8 (u.h.toNat : Int)) ∧ w'.cell? ⟨gy, 5, none⟩ = some (.int .u8 (u.g.toNat : Int)))) := hid fun w' hb => ⟨(nd_below HIN.out.1.1 hb (by omega)).cells.1, (nd_below HIN.out.1.2 hb (by omega)).cells.1⟩
  have hcs := HCS.out W6 (Below.refl _ _)
  go_region_held3 (fun w' => (w'.cell? ⟨gx, 0, none⟩ = some (.int .i64 d.c) ∧ w'.cell? ⟨gx, 1, none⟩ = some (.int .i64 d.s) ∧ w'.cell? ⟨gx, 2, none⟩ = some (.int .i64 d.m) ∧ w'.cell? ⟨gx, 3, none⟩ = some (.int .i64 d.x) ∧ w'.cell? ⟨gx, 4, none⟩ = some (.int .u8 (d.h.toNat : Int)) ∧ w'.cell? ⟨gx, 5, none⟩ = some (.int .u8 (d.g.toNat : Int))) ∧ (w'.cell? ⟨gy, 0, none⟩ = some (.int .i64 u.c) ∧ w'.cell? ⟨gy, 1, none⟩ = some (.int .i64 u.s) ∧ w'.cell? ⟨gy, 2, none⟩ = some (.int .i64 u.m) ∧ w'.cell? ⟨gy, 3, none⟩ = some (.int .i64 u.x) ∧ w'.cell? ⟨gy, 4, none⟩ = some (.int .u8 (u.h.toNat : Int)) ∧ w'.cell? ⟨gy, 5, none⟩ = some (.int .u8 (u.g.toNat : Int))))
    (first | exact HCS.out _ (by (repeat (first | (with_reducible exact hBn) | (with_reducible exact hBa) | (with_reducible exact Below.refl _ _) | (with_reducible apply Below.drew) | (with_reducible refine Below.alloc ?_ (by first | exact Nat.le_refl _ | exact hBn.size | exact hBa.size) _) | (with_reducible refine Below.setCell ?_ (by first | exact Nat.le_refl _ | exact hBn.size | exact hBa.size) _)))) | go_keep)
    ((go_at_call 85; first
      | (refine (HT1 _).out.mono ?_; rintro e wn ⟨rfl, hbn⟩; have hBn : Below W6.heap.size W6 wn := Below.trans (by (repeat (first | (with_reducible exact Below.refl _ _) | (with_reducible apply Below.drew) | (with_reducible refine Below.alloc ?_ (Nat.le_refl _) _)))) (hbn.mono (by simp)); (first | (have hPn := PrAt.one hbn (by simp)) | (have hPn := PrAt.oneD hbn (by simp)) | (have hPn := PrAt.oneE hbn (by simp)) | skip); clear hbn HT1)
      | (refine (HT2 _).out.mono ?_; rintro e wa ⟨rfl, hba⟩; have hBa : Below W6.heap.size W6 wa := Below.trans (by (repeat (first | (with_reducible exact hBn) | (with_reducible apply Below.drew) | (with_reducible refine Below.alloc ?_ hBn.size _) | exact hBn.size | (with_reducible refine Below.alloc ?_ ?_ _)))) (hba.mono (by have := hBn.size; simp; omega)); (first | (have hPa := hPn.below hba hPn.lt) | (have hPa := hPn.belowD hba hPn.lt) | (have hPa := PrAt.one hba (by simp)) | (have hPa := PrAt.oneD hba (by simp)) | (have hPa := PrAt.oneE hba (by simp)) | skip); (first | (have hPc := hPa.cells) | skip); clear hba)))
  all_goals first
    | (obtain ⟨W7, hW7⟩ : ∃ W, W = wa.alloc (.cells #[.string ⟨P.toArray⟩, .string ⟨Q.toArray⟩] 107) := ⟨_, rfl⟩
       rw [← hW7]
       have H7 : Hid (PrAt W7 wa.heap.size ⟨P.toArray⟩ ⟨Q.toArray⟩ ∧ Below W6.heap.size W6 W7 ∧ W6.heap.size ≤ wa.heap.size) := hid (hW7 ▸ ⟨heap_one wa _ _ rfl, hBa.alloc hBa.size _, hBa.size⟩)
       clear hW7
       generalize wa.heap.size = gp at H7 ⊢)
    | (obtain ⟨W7, hW7⟩ : ∃ W, W = (wa.setCell ⟨wn.heap.size, 0, none⟩ (.string ⟨P.toArray⟩)).setCell ⟨wn.heap.size, 1, none⟩ (.string ⟨Q.toArray⟩) := ⟨_, rfl⟩
       rw [← hW7]
       have H7 : Hid (PrAt W7 wn.heap.size ⟨P.toArray⟩ ⟨Q.toArray⟩ ∧ Below W6.heap.size W6 W7 ∧ W6.heap.size ≤ wn.heap.size) := hid (hW7 ▸ ⟨hPa.set _ _, (hBa.setCell hBn.size _).setCell hBn.size _, hBn.size⟩)
       clear hW7 hPa hPc
       generalize wn.heap.size = gp at H7 ⊢)
    | (obtain ⟨W7, hW7⟩ : ∃ W, W = (wa.setCell ⟨W6.heap.size, 0, none⟩ (.string ⟨P.toArray⟩)).setCell ⟨W6.heap.size, 1, none⟩ (.string ⟨Q.toArray⟩) := ⟨_, rfl⟩
       rw [← hW7]
       have H7 : Hid (PrAt W7 W6.heap.size ⟨P.toArray⟩ ⟨Q.toArray⟩ ∧ Below W6.heap.size W6 W7 ∧ W6.heap.size ≤ W6.heap.size) := hid (hW7 ▸ ⟨hPa.set _ _, (hBa.setCell (Nat.le_refl _) _).setCell (Nat.le_refl _) _, Nat.le_refl _⟩)
       clear hW7 hPa hPc hPn
       obtain ⟨gp, hgp⟩ : ∃ gp, gp = W6.heap.size := ⟨_, rfl⟩
       rw [← hgp]
       have H7 : Hid (PrAt W7 gp ⟨P.toArray⟩ ⟨Q.toArray⟩ ∧ Below W6.heap.size W6 W7 ∧ W6.heap.size ≤ gp) := hid ⟨hgp ▸ H7.out.1, H7.out.2.1, by omega⟩
       clear hgp)
  all_goals
    clear hBn hBa hcs HT2 HCS
    obtain ⟨i0, hi, hz0, hz1, hz2⟩ := info_parts info_pair
    have hs7 : W6.heap.size ≤ W7.heap.size := H7.out.2.1.size
    have hown : W7.ownsRow w.heap.size 107 2 (.slice ao1 p1.length cp1) p1.length (prRow p1) := ownsRow_below HIN.out.2.2.1 H7.out.2.1
    obtain ⟨hpc, hpz⟩ := H7.out.1.cells
    have HB7 : Hid (Below w.heap.size w W7) := hid (HIN.out.2.1.trans (H7.out.2.1.mono (by omega)))
    have HIO : Hid (∀ k ∈ ob (.slice ao1 p1.length cp1), w.heap.size ≤ k) := hid fun k hk => (own_in hown k hk).1
    go_wp2_with (at_builtin; refine wpList_append_grew _ rfl _ _ 39 rfl w.heap.size 107 i0 (.agg #[.string ⟨#[]⟩, .string ⟨#[]⟩]) 2 32 Tryz.underlying39 hi hz0 hz1 hz2 rfl (by decide) _ _ _ rfl (hown.alloc _) ⟨W7.heap.size, 0, none⟩ 1 1 [.string ⟨P.toArray⟩, .string ⟨Q.toArray⟩] rfl rfl (PrAt.new W7 ⟨P.toArray⟩ ⟨Q.toArray⟩).news (by simp [Value.oneCell']) (by unfold maxLen; omega) (by omega) (by simp; omega) ?_)
    rintro v9 w9 ho9 hg9 _
    have HO9 := hid ho9
    have HB9 : Hid (Below w.heap.size w w9) := hid (HB7.out.trans (((Below.refl _ W7).alloc (by omega) _).trans (hg9.toBelow w.heap.size (by simp; omega) (fun k hk => HIO.out k (mem_ob.2 hk)))))
    clear ho9 hg9 hown
    go_wp2
    go_ret
    exact ⟨v9, rfl, own_cast HO9.out (by simp) (by rw [prRow_append]; rfl), HB9.out⟩

end Go.Proofs.YtogmdaopfnmobaaGreat

/- What the document's own answer does (notaryref): the pairs of all parts of two trees. -/
namespace Go.Proofs.YtogmdaopfnmobaaGreat
open Go.RowKit

/-- What parts leaves. -/
def ptPost (l : List (List UInt8 × List UInt8)) (w : World) (e : Ending) (w' : World) : Prop :=
  ∃ pv, e = .returned pv ∧ w'.ownsRow w.heap.size 107 2 pv l.length (prRow l) ∧ Below w.heap.size w w'

set_option maxHeartbeats 4000000 in
set_option maxRecDepth 100000 in
theorem refParts_leaf (v1 h1 v2 h2 : Value) (a b : Nat) (w : World) (ha : a ≤ 64) (hb : b ≤ 64) (h : b < a + 2) :
    Calls Tryz.prog 86 #[.agg #[.bool false, v1, h1], .agg #[.bool false, v2, h2], .int .i64 a, .int .i64 b] w (ptPost [] w) := by
  go_enter Tryz.func86, Tryz.ntmps86
  go_wp2
  go_ret
  exact ⟨_, rfl, World.ownsRow_nil _ _ _ _, ((Below.refl _ _).alloc (Nat.le_refl _) _).alloc (by simp) _⟩

set_option maxHeartbeats 8000000 in
set_option maxRecDepth 100000 in
theorem refParts_node (v1 h1 v2 h2 : Value) (a b k : Nat) (x y u v : Nd) (p1 p2 : List (List UInt8 × List UInt8)) (w : World) (hb64 : b ≤ 64) (hab : a + 2 ≤ b) (hk : k < b - a)
    (HH : ∀ w', Hid (Calls Tryz.prog 88 #[.int .i64 ((b - a : Nat) : Int)] w' fun e w2 => e = .returned (.int .i64 k) ∧ Below w'.heap.size w' w2))
    (I1 : ∀ w', Hid (Below w.heap.size w w' → Calls Tryz.prog 86 #[.agg #[.bool false, v1, h1], .agg #[.bool false, v2, h2], .int .i64 a, .int .i64 ((a : Int) + k)] w' (ptPost p1 w')))
    (I2 : ∀ w', Hid (Below w.heap.size w w' → Calls Tryz.prog 86 #[.agg #[.bool false, v1, h1], .agg #[.bool false, v2, h2], .int .i64 ((a : Int) + k), .int .i64 b] w' (ptPost p2 w')))
    (A1 : ∀ w', Hid (Below w.heap.size w w' → Calls Tryz.prog 46 #[.agg #[.bool false, v1, h1], .int .i64 a, .int .i64 ((a : Int) + k)] w' fun e w2 => e = .returned (ndV x) ∧ Below w'.heap.size w' w2))
    (A2 : ∀ w', Hid (Below w.heap.size w w' → Calls Tryz.prog 46 #[.agg #[.bool false, v1, h1], .int .i64 ((a : Int) + k), .int .i64 b] w' fun e w2 => e = .returned (ndV y) ∧ Below w'.heap.size w' w2))
    (A4 : ∀ w', Hid (Below w.heap.size w w' → Calls Tryz.prog 46 #[.agg #[.bool false, v2, h2], .int .i64 a, .int .i64 ((a : Int) + k)] w' fun e w2 => e = .returned (ndV u) ∧ Below w'.heap.size w' w2))
    (A5 : ∀ w', Hid (Below w.heap.size w w' → Calls Tryz.prog 46 #[.agg #[.bool false, v2, h2], .int .i64 ((a : Int) + k), .int .i64 b] w' fun e w2 => e = .returned (ndV v) ∧ Below w'.heap.size w' w2))
    (hx : x.ok = true) (hy : y.ok = true) (hu : u.ok = true) (hvk : v.ok = true) (hpl : p1.length + p2.length ≤ 1000) :
    Calls Tryz.prog 86 #[.agg #[.bool false, v1, h1], .agg #[.bool false, v2, h2], .int .i64 a, .int .i64 b] w (ptPost (p1 ++ p2 ++ [(abText x y, abText u v)]) w) := by
  have hsub : (b : Int) - a = ((b - a : Nat) : Int) := by omega
  obtain ⟨m, hm⟩ : ∃ m, m = b - a := ⟨_, rfl⟩
  rw [← hm] at HH hsub
  have hm64 : m ≤ 64 := by omega
  have hm2 : ¬ (m : Int) < 2 := by omega
  have hk64 : k < 64 := by omega
  have hak : a + k < 64 := by omega
  have hwr : IntKind.i64.wrap ((a : Int) + k) = (a : Int) + k := by simp [IntKind.wrap, IntKind.signed, IntKind.bits]; omega
  clear hm
  have A3 : ∀ w', Hid (Calls Tryz.prog 125 #[ndV x, ndV y] w' _) := fun w' => hid (refText_any x y w' hx hy)
  have A6 : ∀ w', Hid (Calls Tryz.prog 125 #[ndV u, ndV v] w' _) := fun w' => hid (refText_any u v w' hu hvk)
  clear hx hy hu hvk
  generalize abText x y = P at A3 ⊢
  generalize abText u v = Q at A6 ⊢
  simp only [ndV] at A1 A2 A3 A4 A5 A6
  go_enter Tryz.func86, Tryz.ntmps86
  go_wp2_with fail
  refine (HH _).out.mono ?_
  rintro e w2 ⟨rfl, hb2⟩
  have B2 : Hid (Below w.heap.size w w2) := hid ((((Below.refl _ _).alloc (Nat.le_refl _) _).alloc (by simp) _).trans (hb2.mono (by simp; omega)))
  have T2 : Hid (TrAt w2 w.heap.size false v1 h1 ∧ TrAt w2 (w.heap.size + 1) false v2 h2) := hid ⟨TrAt.below (show TrAt _ _ _ _ _ from heap_two w _ _ _ rfl) hb2 (by simp; omega), TrAt.below (show TrAt _ _ _ _ _ from heap_one _ _ _ (by simp)) hb2 (by simp)⟩
  obtain ⟨t0, t1, t2⟩ := T2.out.1.cells
  obtain ⟨q0, q1, q2⟩ := T2.out.2.cells
  have l2 := T2.out.2.lt
  clear hb2 HH
  go_wp2_with fail
  refine ((I1 _).out B2.out).mono ?_
  rintro e w3 ⟨r1, rfl, ho3, hb3⟩
  have B3 : Hid (Below w.heap.size w w3) := hid (B2.out.trans (hb3.mono B2.out.size))
  have T3 : Hid (TrAt w3 w.heap.size false v1 h1 ∧ TrAt w3 (w.heap.size + 1) false v2 h2) := hid ⟨T2.out.1.below hb3 T2.out.1.lt, T2.out.2.below hb3 T2.out.2.lt⟩
  have O3 := hid ho3
  have s3 : w2.heap.size ≤ w3.heap.size := hb3.size
  obtain ⟨ao1, cp1, rfl⟩ := own_shape ho3
  clear hb3 ho3 B2 T2 I1 t0 t1 t2 q0 q1 q2
  obtain ⟨t0, t1, t2⟩ := T3.out.1.cells
  obtain ⟨q0, q1, q2⟩ := T3.out.2.cells
  have l3 := T3.out.2.lt
  go_wp2_with fail
  refine ((I2 _).out B3.out).mono ?_
  rintro e w4 ⟨r2, rfl, ho4, hb4⟩
  have HIN : Hid ((TrAt w4 w.heap.size false v1 h1 ∧ TrAt w4 (w.heap.size + 1) false v2 h2) ∧ Below w.heap.size w w4 ∧ w4.ownsRow w.heap.size 107 2 (.slice ao1 p1.length cp1) p1.length (prRow p1) ∧ w4.ownsRow w.heap.size 107 2 r2 p2.length (prRow p2) ∧ (∀ k ∈ ob (.slice ao1 p1.length cp1), w.heap.size ≤ k ∧ k < w4.heap.size)) := hid
    ⟨⟨T3.out.1.below hb4 T3.out.1.lt, T3.out.2.below hb4 T3.out.2.lt⟩, B3.out.trans (hb4.mono B3.out.size), own_mono' (ownsRow_below O3.out hb4) (by omega), own_mono' ho4 (by omega), fun k hk => by have := own_in O3.out k hk; have := hb4.size; omega⟩
  have s4 : w3.heap.size ≤ w4.heap.size := hb4.size
  obtain ⟨ao2, cp2, rfl⟩ := own_shape ho4
  clear hb4 ho4 B3 T3 O3 I2 t0 t1 t2 q0 q1 q2
  have l4 : w.heap.size + 1 < w4.heap.size := by omega
  clear s3 s4 l2 l3
  have HCS : Hid (∀ w', Below w4.heap.size w4 w' → (w'.cell? ⟨w.heap.size, 0, none⟩ = some (.bool false) ∧ w'.cell? ⟨w.heap.size, 1, none⟩ = some v1 ∧ w'.cell? ⟨w.heap.size, 2, none⟩ = some h1) ∧ (w'.cell? ⟨w.heap.size + 1, 0, none⟩ = some (.bool false) ∧ w'.cell? ⟨w.heap.size + 1, 1, none⟩ = some v2 ∧ w'.cell? ⟨w.heap.size + 1, 2, none⟩ = some h2)) := hid fun w' hb => ⟨(HIN.out.1.1.below hb (by omega)).cells, (HIN.out.1.2.below hb (by omega)).cells⟩
  have HBW : Hid (∀ w', Below w4.heap.size w4 w' → Below w.heap.size w w') := hid fun w' hb => HIN.out.2.1.trans (hb.mono (by omega))
  have hcs := HCS.out w4 (Below.refl _ _)
  go_wp2
  go_region_held3 (fun w' => (w'.cell? ⟨w.heap.size, 0, none⟩ = some (.bool false) ∧ w'.cell? ⟨w.heap.size, 1, none⟩ = some v1 ∧ w'.cell? ⟨w.heap.size, 2, none⟩ = some h1) ∧ (w'.cell? ⟨w.heap.size + 1, 0, none⟩ = some (.bool false) ∧ w'.cell? ⟨w.heap.size + 1, 1, none⟩ = some v2 ∧ w'.cell? ⟨w.heap.size + 1, 2, none⟩ = some h2))
    (first | exact HCS.out _ (by (repeat (first | (with_reducible exact HB6.out) | (with_reducible exact HB5.out) | (with_reducible exact HB4.out) | (with_reducible exact HB3.out) | (with_reducible exact HB2.out) | (with_reducible exact HB1.out) | (with_reducible exact Below.refl _ _) | (with_reducible apply Below.drew) | (with_reducible refine Below.alloc ?_ (by first | exact Nat.le_refl _ | exact z6 | exact z5 | exact z4 | exact z3 | exact z2 | exact z1) _) | (with_reducible refine Below.setCell ?_ (by first | exact Nat.le_refl _ | exact z6 | exact z5 | exact z4 | exact z3 | exact z2 | exact z1) _)))) | go_keep)
    (first
      | (go_at_call 46; first
        | (refine ((A1 _).out (HBW.out _ (by (repeat (first | (with_reducible exact Below.refl _ _) | (with_reducible apply Below.drew) | (with_reducible refine Below.alloc ?_ (Nat.le_refl _) _)))))).mono ?_; rintro e w5 ⟨rfl, hb⟩; have HB1 : Hid (Below w4.heap.size w4 w5) := hid (Below.trans (by (repeat (first | (with_reducible exact Below.refl _ _) | (with_reducible apply Below.drew) | (with_reducible refine Below.alloc ?_ (Nat.le_refl _) _)))) (hb.mono (by first | exact Nat.le_refl _ | simp))); have z1 : w4.heap.size ≤ w5.heap.size := HB1.out.size; (first | (replace hP := hP.below hb hP.lt) | (replace hP := hP.belowD hb hP.lt) | (have hP := PrAt.one hb (by simp)) | (have hP := PrAt.oneD hb (by simp)) | (have hP := PrAt.oneE hb (by simp)) | skip); clear hb A1)
        | (refine ((A2 _).out (HBW.out _ (by (repeat (first | (with_reducible exact HB1.out) | (with_reducible apply Below.drew) | (with_reducible refine Below.alloc ?_ (by exact z1) _)))))).mono ?_; rintro e w6 ⟨rfl, hb⟩; have HB2 : Hid (Below w4.heap.size w4 w6) := hid (Below.trans (by (repeat (first | (with_reducible exact HB1.out) | (with_reducible apply Below.drew) | (with_reducible refine Below.alloc ?_ (by exact z1) _)))) (hb.mono (by first | exact z1 | (simp; omega)))); have z2 : w4.heap.size ≤ w6.heap.size := HB2.out.size; (first | (replace hP := hP.below hb hP.lt) | (replace hP := hP.belowD hb hP.lt) | (have hP := PrAt.one hb (by simp)) | (have hP := PrAt.oneD hb (by simp)) | (have hP := PrAt.oneE hb (by simp)) | skip); clear hb A2)
        | (refine ((A4 _).out (HBW.out _ (by (repeat (first | (with_reducible exact HB3.out) | (with_reducible apply Below.drew) | (with_reducible refine Below.alloc ?_ (by exact z3) _)))))).mono ?_; rintro e w8 ⟨rfl, hb⟩; have HB4 : Hid (Below w4.heap.size w4 w8) := hid (Below.trans (by (repeat (first | (with_reducible exact HB3.out) | (with_reducible apply Below.drew) | (with_reducible refine Below.alloc ?_ (by exact z3) _)))) (hb.mono (by first | exact z3 | (simp; omega)))); have z4 : w4.heap.size ≤ w8.heap.size := HB4.out.size; (first | (replace hP := hP.below hb hP.lt) | (replace hP := hP.belowD hb hP.lt) | (have hP := PrAt.one hb (by simp)) | (have hP := PrAt.oneD hb (by simp)) | (have hP := PrAt.oneE hb (by simp)) | skip); clear hb A4)
        | (refine ((A5 _).out (HBW.out _ (by (repeat (first | (with_reducible exact HB4.out) | (with_reducible apply Below.drew) | (with_reducible refine Below.alloc ?_ (by exact z4) _)))))).mono ?_; rintro e w9 ⟨rfl, hb⟩; have HB5 : Hid (Below w4.heap.size w4 w9) := hid (Below.trans (by (repeat (first | (with_reducible exact HB4.out) | (with_reducible apply Below.drew) | (with_reducible refine Below.alloc ?_ (by exact z4) _)))) (hb.mono (by first | exact z4 | (simp; omega)))); have z5 : w4.heap.size ≤ w9.heap.size := HB5.out.size; (first | (replace hP := hP.below hb hP.lt) | (replace hP := hP.belowD hb hP.lt) | (have hP := PrAt.one hb (by simp)) | (have hP := PrAt.oneD hb (by simp)) | (have hP := PrAt.oneE hb (by simp)) | skip); clear hb A5))
      | (go_at_call 125; first
        | (refine (A3 _).out.mono ?_; rintro e w7 ⟨rfl, hb⟩; have HB3 : Hid (Below w4.heap.size w4 w7) := hid (Below.trans (by (repeat (first | (with_reducible exact HB2.out) | (with_reducible apply Below.drew) | (with_reducible refine Below.alloc ?_ (by exact z2) _)))) (hb.mono (by first | exact z2 | (simp; omega)))); have z3 : w4.heap.size ≤ w7.heap.size := HB3.out.size; (first | (replace hP := hP.below hb hP.lt) | (replace hP := hP.belowD hb hP.lt) | (have hP := PrAt.one hb (by simp)) | (have hP := PrAt.oneD hb (by simp)) | (have hP := PrAt.oneE hb (by simp)) | skip); clear hb A3)
        | (refine (A6 _).out.mono ?_; rintro e w10 ⟨rfl, hb⟩; have HB6 : Hid (Below w4.heap.size w4 w10) := hid (Below.trans (by (repeat (first | (with_reducible exact HB5.out) | (with_reducible apply Below.drew) | (with_reducible refine Below.alloc ?_ (by exact z5) _)))) (hb.mono (by first | exact z5 | (simp; omega)))); have z6 : w4.heap.size ≤ w10.heap.size := HB6.out.size; (first | (replace hP := hP.below hb hP.lt) | (replace hP := hP.belowD hb hP.lt) | (have hP := PrAt.one hb (by simp)) | (have hP := PrAt.oneD hb (by simp)) | (have hP := PrAt.oneE hb (by simp)) | skip); (first | (have hPc := hP.cells) | skip); clear hb A6)))
  all_goals first
    | (obtain ⟨W7, hW7⟩ : ∃ W, W = w10.alloc (.cells #[.string ⟨P.toArray⟩, .string ⟨Q.toArray⟩] 107) := ⟨_, rfl⟩
       rw [← hW7]
       have H7 : Hid (PrAt W7 w10.heap.size ⟨P.toArray⟩ ⟨Q.toArray⟩ ∧ Below w4.heap.size w4 W7 ∧ w4.heap.size ≤ w10.heap.size) := hid (hW7 ▸ ⟨heap_one w10 _ _ rfl, HB6.out.alloc z6 _, z6⟩)
       clear hW7
       generalize w10.heap.size = gp at H7 ⊢)
    | (obtain ⟨W7, hW7⟩ : ∃ W, W = (w10.setCell ⟨w9.heap.size, 0, none⟩ (.string ⟨P.toArray⟩)).setCell ⟨w9.heap.size, 1, none⟩ (.string ⟨Q.toArray⟩) := ⟨_, rfl⟩
       rw [← hW7]
       have H7 : Hid (PrAt W7 w9.heap.size ⟨P.toArray⟩ ⟨Q.toArray⟩ ∧ Below w4.heap.size w4 W7 ∧ w4.heap.size ≤ w9.heap.size) := hid (hW7 ▸ ⟨hP.set _ _, (HB6.out.setCell z5 _).setCell z5 _, z5⟩)
       clear hW7 hP hPc
       generalize w9.heap.size = gp at H7 ⊢)
    | (obtain ⟨W7, hW7⟩ : ∃ W, W = (w10.setCell ⟨w8.heap.size, 0, none⟩ (.string ⟨P.toArray⟩)).setCell ⟨w8.heap.size, 1, none⟩ (.string ⟨Q.toArray⟩) := ⟨_, rfl⟩
       rw [← hW7]
       have H7 : Hid (PrAt W7 w8.heap.size ⟨P.toArray⟩ ⟨Q.toArray⟩ ∧ Below w4.heap.size w4 W7 ∧ w4.heap.size ≤ w8.heap.size) := hid (hW7 ▸ ⟨hP.set _ _, (HB6.out.setCell z4 _).setCell z4 _, z4⟩)
       clear hW7 hP hPc
       generalize w8.heap.size = gp at H7 ⊢)
    | (obtain ⟨W7, hW7⟩ : ∃ W, W = (w10.setCell ⟨w7.heap.size, 0, none⟩ (.string ⟨P.toArray⟩)).setCell ⟨w7.heap.size, 1, none⟩ (.string ⟨Q.toArray⟩) := ⟨_, rfl⟩
       rw [← hW7]
       have H7 : Hid (PrAt W7 w7.heap.size ⟨P.toArray⟩ ⟨Q.toArray⟩ ∧ Below w4.heap.size w4 W7 ∧ w4.heap.size ≤ w7.heap.size) := hid (hW7 ▸ ⟨hP.set _ _, (HB6.out.setCell z3 _).setCell z3 _, z3⟩)
       clear hW7 hP hPc
       generalize w7.heap.size = gp at H7 ⊢)
    | (obtain ⟨W7, hW7⟩ : ∃ W, W = (w10.setCell ⟨w6.heap.size, 0, none⟩ (.string ⟨P.toArray⟩)).setCell ⟨w6.heap.size, 1, none⟩ (.string ⟨Q.toArray⟩) := ⟨_, rfl⟩
       rw [← hW7]
       have H7 : Hid (PrAt W7 w6.heap.size ⟨P.toArray⟩ ⟨Q.toArray⟩ ∧ Below w4.heap.size w4 W7 ∧ w4.heap.size ≤ w6.heap.size) := hid (hW7 ▸ ⟨hP.set _ _, (HB6.out.setCell z2 _).setCell z2 _, z2⟩)
       clear hW7 hP hPc
       generalize w6.heap.size = gp at H7 ⊢)
    | (obtain ⟨W7, hW7⟩ : ∃ W, W = (w10.setCell ⟨w5.heap.size, 0, none⟩ (.string ⟨P.toArray⟩)).setCell ⟨w5.heap.size, 1, none⟩ (.string ⟨Q.toArray⟩) := ⟨_, rfl⟩
       rw [← hW7]
       have H7 : Hid (PrAt W7 w5.heap.size ⟨P.toArray⟩ ⟨Q.toArray⟩ ∧ Below w4.heap.size w4 W7 ∧ w4.heap.size ≤ w5.heap.size) := hid (hW7 ▸ ⟨hP.set _ _, (HB6.out.setCell z1 _).setCell z1 _, z1⟩)
       clear hW7 hP hPc
       generalize w5.heap.size = gp at H7 ⊢)
    | (obtain ⟨W7, hW7⟩ : ∃ W, W = (w10.setCell ⟨w4.heap.size, 0, none⟩ (.string ⟨P.toArray⟩)).setCell ⟨w4.heap.size, 1, none⟩ (.string ⟨Q.toArray⟩) := ⟨_, rfl⟩
       rw [← hW7]
       have H7 : Hid (PrAt W7 w4.heap.size ⟨P.toArray⟩ ⟨Q.toArray⟩ ∧ Below w4.heap.size w4 W7 ∧ w4.heap.size ≤ w4.heap.size) := hid (hW7 ▸ ⟨hP.set _ _, (HB6.out.setCell (Nat.le_refl _) _).setCell (Nat.le_refl _) _, (Nat.le_refl _)⟩)
       clear hW7 hP hPc
       obtain ⟨gp, hgp⟩ : ∃ gp, gp = w4.heap.size := ⟨_, rfl⟩
       rw [← hgp]
       have H7 : Hid (PrAt W7 gp ⟨P.toArray⟩ ⟨Q.toArray⟩ ∧ Below w4.heap.size w4 W7 ∧ w4.heap.size ≤ gp) := hid ⟨hgp ▸ H7.out.1, H7.out.2.1, by omega⟩
       clear hgp)
  all_goals
    clear HB1 HB2 HB3 HB4 HB5 HB6 z1 z2 z3 z4 z5 z6 hcs HCS HBW
    obtain ⟨i0, hi, hz0, hz1, hz2⟩ := info_parts info_pair
    have hs7 : w4.heap.size ≤ W7.heap.size := H7.out.2.1.size
    have hw7 : w.heap.size ≤ W7.heap.size := by omega
    have hgp := H7.out.2.2
    have HO1 : Hid (∀ X : World, (∀ k, k < W7.heap.size → X.heap[k]? = W7.heap[k]?) → X.ownsRow w.heap.size 107 2 (.slice ao1 p1.length cp1) p1.length (prRow p1) ∧ X.ownsRow w.heap.size 107 2 (.slice ao2 p2.length cp2) p2.length (prRow p2)) := hid fun X hX => by
      have a1 := ownsRow_below HIN.out.2.2.1 H7.out.2.1
      have a2 := ownsRow_below HIN.out.2.2.2.1 H7.out.2.1
      exact ⟨own_keep a1 fun k hk => hX k (own_in a1 k hk).2, own_keep a2 fun k hk => hX k (own_in a2 k hk).2⟩
    have HN1 : Hid (∀ k ∈ ob (.slice ao1 p1.length cp1), w.heap.size ≤ k ∧ k < w4.heap.size) := hid HIN.out.2.2.2.2
    have HB7 : Hid (Below w.heap.size w W7) := hid (HIN.out.2.1.trans (H7.out.2.1.mono (by omega)))
    have HC7 : Hid (∀ w', Kept W7 w' (ob (.slice ao1 p1.length cp1)) → (w'.cell? ⟨gp, 0, none⟩ = some (.string ⟨P.toArray⟩) ∧ w'.cell? ⟨gp, 1, none⟩ = some (.string ⟨Q.toArray⟩))) := hid fun w' hk => by
      have cp : PrAt w' gp ⟨P.toArray⟩ ⟨Q.toArray⟩ := (hk.block gp H7.out.1.lt (fun c => by have := HN1.out _ c; omega)).trans H7.out.1
      exact cp.cells.1
    have hcs := HC7.out W7 (Kept.refl _ _)
    have hp1l : p1.length ≤ 1000 := by omega
    have hp2l : p2.length ≤ 1000 := by omega
    clear HIN
    go_wp2
    have HAG : Hid (∀ X : World, Kept W7 X [] → ∀ k, k < W7.heap.size → X.heap[k]? = W7.heap[k]?) := hid fun X h k hk => h.block k hk (by simp)
    go_region_held3 (fun w' => (w'.cell? ⟨gp, 0, none⟩ = some (.string ⟨P.toArray⟩) ∧ w'.cell? ⟨gp, 1, none⟩ = some (.string ⟨Q.toArray⟩)))
      (first | exact HC7.out _ (by (repeat (first | (with_reducible exact hK9) | (with_reducible exact hK8) | (with_reducible exact Kept.refl _ _) | (with_reducible apply Kept.drew) | (with_reducible apply Kept.alloc)))) | go_keep)
      (first
        | (refine step_append_grew _ rfl _ _ 39 rfl w.heap.size 107 i0 (.agg #[.string ⟨#[]⟩, .string ⟨#[]⟩]) 2 32 Tryz.underlying39 hi hz0 hz1 hz2 rfl (by decide) v8 _ _ rfl (by first | exact ho8 | exact ho8.alloc _) _ 1 1 [.string ⟨P.toArray⟩, .string ⟨Q.toArray⟩] rfl rfl (by first | exact hP8.news | exact (PrAt.new w8 ⟨P.toArray⟩ ⟨Q.toArray⟩).news) (by simp [Value.oneCell']) (by unfold maxLen; omega) (by omega) (by (have := hK8.size); first | exact Nat.le_trans hw7 this | (simp; omega)) ?_
           rintro v9 w9 ho9 hg9 _
           have hK9 : Kept W7 w9 (ob (.slice ao1 p1.length cp1)) := Kept.trans (by (repeat (first | (with_reducible exact hK8) | (with_reducible apply Kept.drew) | (with_reducible apply Kept.alloc)))) (kept_grew hg9 (fun k hk => hk)) hOb8
           clear hg9 ho8)
        | (refine step_append_both _ rfl _ _ 39 rfl w.heap.size w.heap.size 107 i0 (.agg #[.string ⟨#[]⟩, .string ⟨#[]⟩]) 2 32 Tryz.underlying39 hi hz0 hz1 hz2 rfl (by decide) _ _ _ _ _ _ rfl rfl (HO1.out _ (HAG.out _ (by (repeat (first | (with_reducible exact Kept.refl _ _) | (with_reducible apply Kept.drew) | (with_reducible apply Kept.alloc)))))).1 (HO1.out _ (HAG.out _ (by (repeat (first | (with_reducible exact Kept.refl _ _) | (with_reducible apply Kept.drew) | (with_reducible apply Kept.alloc)))))).2 (prRow_one _) (by unfold maxLen; omega) (by omega) (by (first | exact hw7 | (simp; omega))) ?_
           rintro v8 w8 ho8 hg8
           have hK8 : Kept W7 w8 (ob (.slice ao1 p1.length cp1)) := Kept.trans (by (repeat (first | (with_reducible exact Kept.refl _ _) | (with_reducible apply Kept.drew) | (with_reducible apply Kept.alloc)))) (kept_grew hg8 (fun k hk => hk)) (fun k hk => .inl hk)
           have hOb8 : ∀ k ∈ ob v8, k ∈ ob (.slice ao1 p1.length cp1) ∨ W7.heap.size ≤ k := (fun k hk => (ob_grew hg8 k hk).imp id (fun h => Nat.le_trans (by first | exact Nat.le_refl _ | (simp; done) | simp) h))
           (first | (have hP8 := (PrAt.new W7 ⟨P.toArray⟩ ⟨Q.toArray⟩).grew hg8 (fun c => by have := HN1.out _ c; omega)) | (have hP8 := (PrAt.new W7.drew ⟨P.toArray⟩ ⟨Q.toArray⟩).grew hg8 (fun c => by have := HN1.out _ c; simp at this; omega)) | (have hP8 := (PrAt.new W7 ⟨P.toArray⟩ ⟨Q.toArray⟩).drew.grew hg8 (fun c => by have := HN1.out _ c; omega)) | skip)
           clear hg8 HO1))
    all_goals
      have HF := hid (And.intro ho9 (HB7.out.trans (hK9.below hw7 (fun k hk => (HN1.out k hk).1))))
      clear ho9 hK9 hK8 hOb8 HC7 HN1 H7 HAG hcs
      (first | clear hP8 | skip)
      go_wp2
      go_ret
      exact ⟨v9, rfl, own_cast HF.out.1 (by simp; try omega) (by rw [prRow_append, prRow_append]; rfl), HF.out.2⟩

end Go.Proofs.YtogmdaopfnmobaaGreat

