/- An honest proof is taken: Check and CheckGrown, as mathematics. -/
import Derived.Test.YtogmdaopfnmobaaP28
import Derived.Test.YtogmdaopfnmobaaP26
import Derived.Test.YtogmdaopfnmobaaP10
namespace Go.Proofs.Ytogmdaopfnmobaa
open Go.RowKit

theorem numB_len : ∀ (k f n : Nat), n < 128 ^ (k + 1) → (numB f n).length ≤ k + 1
  | _, 0, n, _ => by simp [numB]
  | 0, f + 1, n, h => by rw [numB_small _ _ (by simpa using h)]; simp
  | k + 1, f + 1, n, h => by
    by_cases h' : n < 128
    · rw [numB_small _ _ h']; simp
    · rw [numB_big _ _ (by omega)]
      have := numB_len k f (n / 128) (by rw [Nat.div_lt_iff_lt_mul (by omega)]; rw [Nat.pow_succ] at h; exact h)
      simp; omega
theorem mark_bd {d : Nd} (h : bd 64 d) : d.mark.length ≤ 14 := by
  unfold bd at h
  have a := numB_len 0 6 d.c.toNat (by simp; omega)
  have b := numB_len 3 6 d.s.toNat (by have : (128 : Nat) ^ (3 + 1) = 268435456 := rfl; omega)
  have e := numB_len 2 6 d.m.toNat (by have : (128 : Nat) ^ (2 + 1) = 2097152 := rfl; omega)
  have f := numB_len 2 6 d.x.toNat (by have : (128 : Nat) ^ (2 + 1) = 2097152 := rfl; omega)
  unfold Nd.mark
  split
  · simp
  · simp [Nd.bytes, num]; omega
theorem marks_bd : ∀ (l : List Nd), (∀ d ∈ l, bd 64 d) → (marks l).length ≤ 14 * l.length
  | [], _ => by simp [marks]
  | d :: l, h => by
    have := marks_bd l (fun x hx => h x (by simp [hx]))
    have hd := mark_bd (h d (by simp))
    simp [marks] at this ⊢
    omega
/-- The bytes of an honest proof are read as its nodes. -/
theorem prB_read {lf : Nat → Nd} (h : ∀ i, bd 1 (lf i)) {n f t : Nat} (hn : n ≤ 64) : readR (marks (prN lf n f t)) = some (prN lf n f t) ∧ (prN lf n f t).all Nd.ok = true ∧ (prN lf n f t).length = (cov 0 n f t).length := by
  have hl := prN_len lf n f t hn
  have hb : ∀ d ∈ prN lf n f t, bd 64 d := fun d hd => by
    obtain ⟨p, hp, rfl⟩ := List.mem_map.1 hd
    have hpm := cov_mem f t n 0 n (by omega) (by omega) p hp
    exact bd_mono (tr_bd h (p.b - p.a) p.a p.b (Nat.le_refl _)) (by omega)
  have hok : (prN lf n f t).all Nd.ok = true := List.all_eq_true.2 fun d hd => bd_ok (hb d hd) (by omega)
  have hm := marks_bd _ hb
  exact ⟨read_write _ hl hok (by omega), hok, by simp [prN, cn]⟩
theorem fz_cn (lf : Nat → Nd) (l : List Sp) : fz (l.zip (cn lf l)) = finN (fun p => tr lf p.a p.b) l := by
  have hq : ∀ q ∈ l.zip (cn lf l), (fun p : Sp => tr lf p.a p.b) q.1 = q.2 := fun q hq => by
    obtain ⟨i, hi, e⟩ := List.mem_iff_getElem.1 hq
    rw [← e]
    simp [cn]
  have := finN_fz (nd := fun p => tr lf p.a p.b) (l.zip (cn lf l)) .zero hq
  rw [zip_fst (by simp [cn])] at this
  exact this.symm
/-- What Check tells of an honest proof, whatever the claim. -/
theorem ck_honest {lf : Nat → Nd} (h : ∀ i, bd 1 (lf i)) (hg : ∀ i, (lf i).fold.good) {n f t : Nat} (hn : n ≤ 64) (ht : t ≤ n) (claim : Fo) :
    ckE n f t ((dg (hdText n (tr lf 0 n)) : Int) / 256) ((dg (hdText n (tr lf 0 n)) : Int) % 256) claim (readR (marks (prN lf n f t))) = if fv lf f (t - f) = claim then 0 else 10 := by
  obtain ⟨h1, h2, h3⟩ := prB_read h (f := f) (t := t) hn
  rw [h1]
  have hc : cm 0 n f t (prN lf n f t) = tr lf 0 n := by
    have := cm_cn lf f t n 0 n [] (by omega)
    rw [List.append_nil] at this
    exact this
  have hf : fz ((cov 0 n f t).zip (prN lf n f t)) = fv lf f (t - f) := by
    rw [prN, fz_cn, finN_fv hg n f t ht]
  simp only [ckE]
  rw [if_neg (fun c => c h3), hc, hf, if_neg (by rw [tr_mid h 0 n (by omega)]; decide), if_neg (by simp)]
  by_cases e : fv lf f (t - f) = claim
  · rw [if_neg (fun c => c e), if_pos e]
  · rw [if_pos e, if_neg e]
/-- Of a proof that is cut short, or has more behind it: not OK. -/
theorem ck_other {n f t : Nat} {h0 h1 : Int} {claim : Fo} {q : Option (List Nd)} (h : ∀ l, q = some l → l.length ≠ (cov 0 n f t).length) : ckE n f t h0 h1 claim q ≠ 0 := by
  cases q with
  | none => simp [ckE]
  | some l => simp only [ckE]; rw [if_pos (h l rfl)]; decide
theorem cg_other {o n : Nat} {a0 a1 b0 b1 : Int} {q : Option (List Nd)} (h : ∀ l, q = some l → l.length ≠ (cov 0 n 0 o).length) : cgE o n a0 a1 b0 b1 q ≠ 0 := by
  cases q with
  | none => simp [cgE]
  | some l => simp only [cgE]; rw [if_pos (h l rfl)]; decide
/-- What CheckGrown tells of an honest proof. -/
theorem cg_honest {lf : Nat → Nd} (h : ∀ i, bd 1 (lf i)) {o n : Nat} (h1 : 1 ≤ o) (h2 : o ≤ n) (hn : n ≤ 64) :
    cgE o n ((dg (hdText o (tr lf 0 o)) : Int) / 256) ((dg (hdText o (tr lf 0 o)) : Int) % 256) ((dg (hdText n (tr lf 0 n)) : Int) / 256) ((dg (hdText n (tr lf 0 n)) : Int) % 256) (readR (marks (prN lf n 0 o))) = 0 := by
  obtain ⟨e1, e2, e3⟩ := prB_read h (f := 0) (t := o) hn
  rw [e1]
  have hc : cm 0 n 0 o (prN lf n 0 o) = tr lf 0 n := by
    have := cm_cn lf 0 o n 0 n [] (by omega)
    rw [List.append_nil] at this
    exact this
  have hb : bgn 0 n o (prN lf n 0 o) = tr lf 0 o := by
    have := bgn_cn lf o n 0 n [] (by omega) (by omega) h2
    rw [List.append_nil] at this
    exact this
  simp only [cgE]
  rw [if_neg (fun c => c e3), hc, hb, if_neg (by rw [tr_mid h 0 n (by omega)]; decide), if_neg (by simp)]

end Go.Proofs.Ytogmdaopfnmobaa

/- The statements' own sums (notarykeep): the folds of a tree tell the same as adding and comparing. -/
namespace Go.Proofs.Ytogmdaopfnmobaa
open Go.RowKit

theorem fv_lgf (l : List Int) (a : Nat) : ∀ k, a + k ≤ l.length → fv (lgf l) a k = foA ((l.drop a).take k)
  | 0, _ => by simp [foA, fv]
  | k + 1, h => by
    have ih := fv_lgf l a k (by omega)
    have hk : k < (l.drop a).length := by simp; omega
    rw [foA_next _ _ hk, ← ih]
    show tog _ (lgf l (a + k)).fold = _
    rw [lgf, mkNd_fold, List.getElem_drop, List.getD_eq_getElem?_getD, List.getElem?_eq_getElem (by omega)]
    rfl
/-- What lies in a table, in the order of its keys. -/
theorem fv_tbf (t : List (Option Int)) (a : Nat) : ∀ k, a + k ≤ t.length → fv (tbf t) a k = foA (((t.drop a).take k).filterMap id)
  | 0, _ => by simp [foA, fv]
  | k + 1, h => by
    have ih := fv_tbf t a k (by omega)
    have hk : k < (t.drop a).length := by simp; omega
    rw [List.take_succ_eq_append_getElem hk, List.filterMap_append]
    show tog (fv (tbf t) a k) (tbf t (a + k)).fold = _
    rw [ih, List.getElem_drop, tbf, List.getD_eq_getElem?_getD, List.getElem?_eq_getElem (by omega)]
    cases hx : t[a + k] with
    | none =>
      have hg : (foA (((t.drop a).take k).filterMap id)).good := by rw [← ih]; exact fv_good (tbf_good t) a k
      have e : (Nd.E).fold = .zero := rfl
      simp only [Option.getD_some, e, List.filterMap_cons, List.filterMap_nil, id, List.append_nil]
      exact tog_zero_right hg
    | some v => simp only [Option.getD_some, mkNd_fold, List.filterMap_cons, List.filterMap_nil, id, foA_app]

/-- The head of a log as it was is that of the older log. -/
theorem tr_take (l : List Int) (k : Nat) : tr (lgf (l.take k)) 0 k = tr (lgf l) 0 k := by
  refine tr_congr k 0 k (by omega) fun i _ hi => ?_
  simp only [lgf, List.getD_eq_getElem?_getD, List.getElem?_take, if_pos hi]
/-- The bytes of a proof are not none. -/
theorem marks_ne {l : List Nd} (h : 1 ≤ l.length) : marks l ≠ [] := by
  cases l with
  | nil => simp at h
  | cons d r =>
    unfold marks Nd.mark
    simp only [List.map_cons, List.flatten_cons]
    split <;> simp
theorem prB_ne {lf : Nat → Nd} (n f t : Nat) : marks (prN lf n f t) ≠ [] := marks_ne (by rw [prN, cn_len]; exact (cov_len f t n 0 n (by omega)).1)
/-- A byte less, a byte more: not OK. -/
theorem ck_less {lf : Nat → Nd} (h : ∀ i, bd 1 (lf i)) {n f t : Nat} (hn : n ≤ 64) {h0 h1 : Int} {claim : Fo} {u x : List UInt8} (hu : u ++ x = marks (prN lf n f t)) (hx : x ≠ []) : ckE n f t h0 h1 claim (readR u) ≠ 0 := by
  obtain ⟨_, h2, h3⟩ := prB_read h (f := f) (t := t) hn
  refine ck_other fun l hl => ?_
  have := read_cut h2 hu hx hl
  omega
theorem ck_more {lf : Nat → Nd} (h : ∀ i, bd 1 (lf i)) {n f t : Nat} (hn : n ≤ 64) {h0 h1 : Int} {claim : Fo} {x : List UInt8} (hx : x ≠ []) : ckE n f t h0 h1 claim (readR (marks (prN lf n f t) ++ x)) ≠ 0 := by
  obtain ⟨_, h2, h3⟩ := prB_read h (f := f) (t := t) hn
  refine ck_other fun l hl => ?_
  have := read_more h2 hx hl
  omega
theorem cg_less {lf : Nat → Nd} (h : ∀ i, bd 1 (lf i)) {o n : Nat} (hn : n ≤ 64) {a0 a1 b0 b1 : Int} {u x : List UInt8} (hu : u ++ x = marks (prN lf n 0 o)) (hx : x ≠ []) : cgE o n a0 a1 b0 b1 (readR u) ≠ 0 := by
  obtain ⟨_, h2, h3⟩ := prB_read h (f := 0) (t := o) hn
  refine cg_other fun l hl => ?_
  have := read_cut h2 hu hx hl
  omega

end Go.Proofs.Ytogmdaopfnmobaa

/- Small things that Asked, Grown and Absent want. -/
namespace Go.Proofs.Ytogmdaopfnmobaa
open Go.RowKit Go.Maps

/-- pick, of a number of things that is known. -/
theorem kpick_nat (c : Int) (m : Nat) (hm : 0 < m) (hm2 : m ≤ 20000000) (hc : -9223372036854775808 ≤ c ∧ c ≤ 9223372036854775807) (M : Int) (hM : M = m) :
    ∃ a : Nat, a < m ∧ ∀ w', Hid (Calls Try.prog 14 #[.int .i64 c, .int .i64 M] w' fun e w2 => e = .returned (.int .i64 (a : Int)) ∧ w2 = w') := by
  subst hM
  have h1 := up_nn c
  have h2 := Int.emod_nonneg (up c) (b := (m : Int)) (by omega)
  have h3 := Int.emod_lt_of_pos (up c) (b := (m : Int)) (by omega)
  refine ⟨(up c % m).toNat, by omega, fun w' => hid ?_⟩
  have := kpick_any c m w' hm hm2 hc
  rw [show ((up c % m).toNat : Int) = up c % m by omega]
  exact this
/-- A part of a row. -/
theorem Cells1.sub {w : World} {B : Nat} {ao : Option Addr} {n cap : Nat} {l : List Value} (h : Cells1 w B (.slice ao n cap) l) (a c : Nat) (hac : a + c ≤ l.length) (hcap : l.length ≤ cap) : Cells1 w B (.slice (if cap = a then ao else ao.map (·.add (a * 1))) c (cap - a)) ((l.drop a).take c) := by
  obtain ⟨ao', cap', hv, hc⟩ := h.ex
  simp only [Value.slice.injEq] at hv
  obtain ⟨rfl, rfl, rfl⟩ := hv
  have hlen : ((l.drop a).take c).length = c := by simp; omega
  refine ⟨if cap = a then ao else ao.map (·.add (a * 1)), cap - a, by rw [hlen], fun i hi => ?_⟩
  rw [hlen] at hi
  obtain ⟨b, off, ha, hB, hcs⟩ := hc (a + i) (by omega)
  subst ha
  by_cases e : cap = a
  · omega
  · refine ⟨b, off + a, ?_, hB, ?_⟩
    · rw [if_neg e]; simp [Addr.add]
    · rw [List.getElem_take, List.getElem_drop]
      rw [show off + a + i = off + (a + i) by omega]; exact hcs
theorem own_cap {w : World} {base : Nat} {e : TypeId} {sz n : Nat} {v : Value} {xs : List Value} (h : w.ownsRow base e sz v n xs) : ∃ ao cap, v = .slice ao n cap ∧ n ≤ cap ∧ cap ≤ 9223372036854775807 := by
  rcases h.2 with ⟨rfl, rfl⟩ | ⟨g, cap, cur, rfl, _, _, hnc, hcm, _⟩
  · exact ⟨none, 0, rfl, by omega, by omega⟩
  · exact ⟨_, cap, rfl, hnc, by unfold maxLen at hcm; omega⟩
set_option maxRecDepth 100000 in
theorem krun_eql_head (w : World) (n h g : Int) :
    (binOp .eql 44 (.agg #[.int .i64 n, .int .u8 h, .int .u8 g]) (.agg #[.int .i64 n, .int .u8 h, .int .u8 g])).run Try.prog w = .ok (.bool true) w := by
  go_simp
  rw [run_equal_digest]
  simp
/-- A head in memory. -/
def HdAt (w : World) (g : Nat) (n h0 h1 : Int) : Prop := w.heap[g]? = some (.cells #[.int .i64 n, .int .u8 h0, .int .u8 h1] 44 (0, 0))
theorem HdAt.cells {w : World} {g : Nat} {n h0 h1 : Int} (h : HdAt w g n h0 h1) : (w.cell? ⟨g, 0, none⟩ = some (.int .i64 n) ∧ w.cell? ⟨g, 1, none⟩ = some (.int .u8 h0) ∧ w.cell? ⟨g, 2, none⟩ = some (.int .u8 h1)) ∧ ∀ o, w.frozen? ⟨g, o, none⟩ = false := by
  unfold HdAt at h
  refine ⟨⟨?_, ?_, ?_⟩, fun o => by simp [World.frozen?, h]⟩ <;> rw [cell_of_row w g _ _ _ _ h] <;> rfl
theorem HdAt.at (w : World) (g : Nat) (hg : g = w.heap.size) (n h0 h1 : Int) : HdAt (w.alloc (.cells #[.int .i64 n, .int .u8 h0, .int .u8 h1] 44)) g n h0 h1 := by subst hg; exact heap_alloc_new w _
theorem HdAt.below {w w' : World} {B g : Nat} {n h0 h1 : Int} (h : HdAt w g n h0 h1) (hb : Below B w w') (hg : g < B) : HdAt w' g n h0 h1 := (hb.block g hg).trans h
theorem HdAt.lt {w : World} {g : Nat} {n h0 h1 : Int} (h : HdAt w g n h0 h1) : g < w.heap.size := (Array.getElem?_eq_some_iff.1 h).1
theorem cut_list (P : ByteArray) : (P.extract 0 (P.size - 1)).data.toList = P.data.toList.take (P.size - 1) := by
  simp only [ByteArray.data_extract, Array.toList_extract, List.extract_eq_take_drop, List.drop_zero, Nat.sub_zero]
theorem size_cut (P : ByteArray) : (P.extract 0 (P.size - 1)).size ≤ P.size := by rw [size_list, cut_list, size_list, List.length_take]; omega
theorem size_add1 (P : ByteArray) : (P ++ ⟨#[0]⟩ : ByteArray).size = P.size + 1 := by rw [size_list, app_list, List.length_append]; rfl
theorem ck_cut1 {lf : Nat → Nd} (h : ∀ i, bd 1 (lf i)) {n f t : Nat} (hn : n ≤ 64) {h0 h1 : Int} {claim : Fo} {P : ByteArray} (hP : P.data.toList = marks (prN lf n f t)) (hz : 0 < P.size) : ckE n f t h0 h1 claim (readR (P.extract 0 (P.size - 1)).data.toList) ≠ 0 := by
  refine ck_less (x := P.data.toList.drop (P.size - 1)) h hn (by rw [cut_list, List.take_append_drop, hP]) fun e => ?_
  have := congrArg List.length e
  rw [List.length_drop, ← size_list] at this
  simp at this
  omega
theorem cg_cut1 {lf : Nat → Nd} (h : ∀ i, bd 1 (lf i)) {n o : Nat} (hn : n ≤ 64) {a0 a1 b0 b1 : Int} {P : ByteArray} (hP : P.data.toList = marks (prN lf n 0 o)) (hz : 0 < P.size) : cgE o n a0 a1 b0 b1 (readR (P.extract 0 (P.size - 1)).data.toList) ≠ 0 := by
  refine cg_less (x := P.data.toList.drop (P.size - 1)) h hn (by rw [cut_list, List.take_append_drop, hP]) fun e => ?_
  have := congrArg List.length e
  rw [List.length_drop, ← size_list] at this
  simp at this
  omega
theorem ck_add1 {lf : Nat → Nd} (h : ∀ i, bd 1 (lf i)) {n f t : Nat} (hn : n ≤ 64) {h0 h1 : Int} {claim : Fo} {P : ByteArray} (hP : P.data.toList = marks (prN lf n f t)) : ckE n f t h0 h1 claim (readR (P ++ ⟨#[0]⟩ : ByteArray).data.toList) ≠ 0 := by
  rw [app_list, hP]
  exact ck_more h hn (by simp)
set_option maxRecDepth 100000 in
theorem krun_slice (w : World) (ao : Option Addr) (N cap a c : Nat) (h : a + c ≤ cap) :
    (Instr.slice 38 (.slice ao N cap) (some (.int .i64 (a : Int))) (some (.int .i64 ((a : Int) + c))) none).run Try.prog w = .ok (.slice (if cap = a then ao else ao.map (·.add (a * 1))) c (cap - a)) w := by
  rw [run_slice_lh (P := Try.prog) w 38 ao N cap Try.underlying38 .i64 .i64 a ((a : Int) + c) (by omega) (by omega) (by omega)]
  have e : ((a : Int) + c).toNat - a = c := by omega
  simp [go_sem, e]
set_option maxRecDepth 100000 in
theorem krun_slice0 (w : World) (ao : Option Addr) (N cap c : Nat) (h : c ≤ cap) :
    (Instr.slice 38 (.slice ao N cap) none (some (.int .i64 (c : Int))) none).run Try.prog w = .ok (.slice (if cap = 0 then ao else ao.map (·.add (0 * 1))) c (cap - 0)) w := by
  rw [run_slice_h (P := Try.prog) w 38 ao N cap Try.underlying38 .i64 c (by omega) (by omega)]
  simp [go_sem]

end Go.Proofs.Ytogmdaopfnmobaa

/- The statement Absent's own things: a store's table and the two rows that it keeps beside it; the list that is handed in. -/
namespace Go.Proofs.Ytogmdaopfnmobaa
open Go.RowKit Go.Maps

theorem kheap_set {w : World} {g : Nat} {C : List Value} {t : TypeId} {fr : Nat × Nat} {k : Nat} (h : w.heap[g]? = some (.cells C.toArray t fr)) (v : Value) : (w.setCell ⟨g, k, none⟩ v).heap[g]? = some (.cells (C.set k v).toArray t fr) := by
  rw [heap_set h v]
  simp
theorem kfar_set {w : World} {g k : Nat} {v : Value} {l : List Nat} (h : g ∉ l) : ∀ j ∈ l, (w.setCell ⟨g, k, none⟩ v).heap[j]? = w.heap[j]? := fun j hj => Below.heap_setCell _ _ _ _ (fun c => h (by subst c; exact hj))
/-- The program's table, and the statement's own rows of what lies under the keys. -/
structure Tbs (w : World) (base S : Nat) (t : List (Option Int)) (lv : Value) (M hB vB : Nat) (vs : List Int) : Prop where
  st : PSt w base S ⟨[], t⟩ lv M
  hb : w.heap[hB]? = some (.cells ((tx t).map Value.bool).toArray 4 (0, 0))
  vb : w.heap[vB]? = some (.cells (vs.map (Value.int .i64)).toArray 3 (0, 0))
  vl : vs.length = 32
  va : ∀ k v, tat t k = some v → vs.getD k 0 = v ∧ 0 ≤ v ∧ v < 70000
  hf : hB ∉ pfp S lv M
  vf : vB ∉ pfp S lv M
  ne : hB ≠ vB
  bh : base ≤ hB
  bv : base ≤ vB
section
variable {w w' w2 : World} {base S : Nat} {t : List (Option Int)} {lv lv2 : Value} {M hB vB : Nat} {vs : List Int}
theorem Tbs.lt (h : Tbs w base S t lv M hB vB vs) : hB < w.heap.size ∧ vB < w.heap.size := ⟨(Array.getElem?_eq_some_iff.1 h.hb).1, (Array.getElem?_eq_some_iff.1 h.vb).1⟩
theorem Tbs.below (h : Tbs w base S t lv M hB vB vs) (hb : Below w.heap.size w w') : Tbs w' base S t lv M hB vB vs :=
  ⟨h.st.below hb, (hb.block _ h.lt.1).trans h.hb, (hb.block _ h.lt.2).trans h.vb, h.vl, h.va, h.hf, h.vf, h.ne, h.bh, h.bv⟩
theorem Tbs.tl (h : Tbs w base S t lv M hB vB vs) : t.length = 32 := h.st.ok.tlen
theorem Tbs.has (h : Tbs w base S t lv M hB vB vs) (k : Nat) (hk : k < 32) : w.cell? ⟨hB, k, none⟩ = some (.bool (tat t k).isSome) ∧ w.frozen? ⟨hB, k, none⟩ = false := by
  have hb := h.hb
  have hl := h.tl
  refine ⟨?_, by simp [World.frozen?, hb]⟩
  rw [cell_of_row w hB _ _ _ _ hb]
  simp [tx, tat, List.getElem?_eq_getElem (show k < t.length by omega)]
theorem Tbs.val (h : Tbs w base S t lv M hB vB vs) (k : Nat) (hk : k < 32) : w.cell? ⟨vB, k, none⟩ = some (.int .i64 (vs.getD k 0)) ∧ w.frozen? ⟨vB, k, none⟩ = false := by
  have hb := h.vb
  have hl := h.vl
  refine ⟨?_, by simp [World.frozen?, hb]⟩
  rw [cell_of_row w vB _ _ _ _ hb]
  simp [List.getElem?_eq_getElem (show k < vs.length by omega)]
theorem tat_set (t : List (Option Int)) (k j : Nat) (o : Option Int) (hk : k < t.length) : tat (t.set k o) j = if j = k then o else tat t j := by
  unfold tat
  simp only [List.getD_eq_getElem?_getD, List.getElem?_set]
  by_cases e : j = k
  · subst e; simp [hk]
  · rw [if_neg (fun c => e c.symm), if_neg e]
theorem Tbs.moved (h : Tbs w base S t lv M hB vB vs) (hk : Kept w w2 (pfp S lv M)) (hn : ∀ k ∈ ob lv2, k ∈ ob lv ∨ w.heap.size ≤ k) :
    (w2.heap[hB]? = w.heap[hB]? ∧ w2.heap[vB]? = w.heap[vB]?) ∧ hB ∉ pfp S lv2 M ∧ vB ∉ pfp S lv2 M := by
  have hf := h.hf
  have vf := h.vf
  have hl := h.lt
  refine ⟨⟨hk.block _ hl.1 hf, hk.block _ hl.2 vf⟩, fun c => ?_, fun c => ?_⟩
  · simp only [pfp, List.mem_cons, not_or] at hf c
    rcases c with c | c | c
    · exact hf.1 c
    · exact hf.2.1 c
    · rcases hn _ c with c | c
      · exact hf.2.2 c
      · omega
  · simp only [pfp, List.mem_cons, not_or] at vf c
    rcases c with c | c | c
    · exact vf.1 c
    · exact vf.2.1 c
    · rcases hn _ c with c | c
      · exact vf.2.2 c
      · omega
/-- A key is taken out. -/
theorem Tbs.outs (h : Tbs w base S t lv M hB vB vs) (k : Nat) (hk32 : k < 32) (hk : Kept w w2 (pfp S lv M)) (h2 : PSt w2 base S ⟨[], t.set k none⟩ lv2 M) (hn : ∀ k ∈ ob lv2, k ∈ ob lv ∨ w.heap.size ≤ k) :
    Tbs (w2.setCell ⟨hB, k, none⟩ (.bool false)) base S (t.set k none) lv2 M hB vB vs := by
  obtain ⟨⟨e1, e2⟩, f1, f2⟩ := h.moved hk hn
  have hl := h.tl
  refine ⟨h2.frame (kfar_set f1), ?_, ?_, h.vl, fun j v hv => ?_, f1, f2, h.ne, h.bh, h.bv⟩
  · rw [kheap_set (C := (tx t).map Value.bool) (e1.trans h.hb), tx_set, List.map_set]; rfl
  · rw [Below.heap_setCell _ _ _ _ (Ne.symm h.ne)]; exact e2.trans h.vb
  · rw [tat_set t k j none (by omega)] at hv
    by_cases e : j = k
    · rw [if_pos e] at hv; cases hv
    · rw [if_neg e] at hv; exact h.va j v hv
/-- A value is laid under a key. -/
theorem Tbs.ins (h : Tbs w base S t lv M hB vB vs) (k : Nat) (hk32 : k < 32) (v : Int) (hv : 0 ≤ v ∧ v < 70000) (hk : Kept w w2 (pfp S lv M)) (h2 : PSt w2 base S ⟨[], t.set k (some v)⟩ lv2 M) (hn : ∀ k ∈ ob lv2, k ∈ ob lv ∨ w.heap.size ≤ k) :
    Tbs ((w2.setCell ⟨hB, k, none⟩ (.bool true)).setCell ⟨vB, k, none⟩ (.int .i64 v)) base S (t.set k (some v)) lv2 M hB vB (vs.set k v) := by
  obtain ⟨⟨e1, e2⟩, f1, f2⟩ := h.moved hk hn
  have hl := h.tl
  have hvl := h.vl
  refine ⟨h2.frame fun j hj => (kfar_set f2 j hj).trans (kfar_set f1 j hj), ?_, ?_, by simpa using hvl, fun j u hu => ?_, f1, f2, h.ne, h.bh, h.bv⟩
  · rw [Below.heap_setCell _ _ _ _ h.ne, kheap_set (C := (tx t).map Value.bool) (e1.trans h.hb), tx_set, List.map_set]; rfl
  · rw [kheap_set (C := vs.map (Value.int .i64)) ((Below.heap_setCell _ _ _ _ (Ne.symm h.ne)).trans (e2.trans h.vb)), List.map_set]
  · rw [tat_set t k j (some v) (by omega)] at hu
    by_cases e : j = k
    · subst e
      rw [if_pos rfl] at hu
      injection hu with hu
      subst hu
      exact ⟨by simp [show j < vs.length by omega], hv⟩
    · rw [if_neg e] at hu
      have := h.va j u hu
      refine ⟨?_, this.2⟩
      rw [← this.1]
      simp [Ne.symm e]
end
theorem set_none_same {t : List (Option Int)} {k : Nat} (h : tat t k = none) : t.set k none = t := by
  refine List.ext_getElem (by simp) fun i h1 h2 => ?_
  rw [List.getElem_set]
  split
  · rename_i e
    subst e
    simp [tat, List.getElem?_eq_getElem h2] at h
    exact h.symm
  · rfl
theorem deS_is (t : List (Option Int)) (k : Nat) (hk : k < 32) : deS ⟨[], t⟩ k = ⟨[], t.set k none⟩ ∧ deE ⟨[], t⟩ k = if (tat t k).isSome then 0 else 4 := by
  have hE : deE ⟨[], t⟩ k = if (tat t k).isSome then 0 else 4 := by
    unfold deE
    simp only [Int.toNat_natCast]
    by_cases h : (tat t k).isSome = true
    · rw [if_pos ⟨by omega, by omega, h⟩, if_pos h]
    · rw [if_neg (fun c => h c.2.2), if_neg h]
  refine ⟨?_, hE⟩
  unfold deS
  rw [hE]
  by_cases h : (tat t k).isSome = true
  · rw [if_pos h, if_pos rfl, Int.toNat_natCast]
  · rw [if_neg h, if_neg (by decide), set_none_same (by simpa using h)]
theorem tsum_small (t : List (Option Int)) (h : ∀ k v, tat t k = some v → 0 ≤ v ∧ v < 70000) : 0 ≤ tsum t ∧ tsum t ≤ 69999 * t.length := by
  have := sum_small (tv t) (fun v hv => by
    obtain ⟨o, ho, rfl⟩ := List.mem_map.1 hv
    obtain ⟨i, hi, rfl⟩ := List.getElem_of_mem ho
    cases e : t[i] with
    | none => simp
    | some u => exact h i u (by simp [tat, List.getElem?_eq_getElem hi, e]))
  simpa [tsum, tv] using this
theorem seS_is (t : List (Option Int)) (k : Nat) (v : Int) (hk : k < 32) (hl : t.length = 32) (hv : 0 ≤ v ∧ v < 70000) (h : ∀ k v, tat t k = some v → 0 ≤ v ∧ v < 70000) : seS ⟨[], t⟩ k v = ⟨[], t.set k (some v)⟩ ∧ seE ⟨[], t⟩ k v = 0 := by
  have h1 := tsum_small t h
  have h2 : 0 ≤ (tat t k).getD 0 := by
    cases e : tat t k with
    | none => simp
    | some u => exact (h k u e).1
  have hE : seE ⟨[], t⟩ k v = 0 := by
    unfold seE
    simp only [Int.toNat_natCast]
    rw [if_pos (by omega), if_pos ((isVal_iff v).2 (by omega)), if_neg (by omega)]
  refine ⟨?_, hE⟩
  rw [seS, if_pos hE]
  simp

/-- What lies under the keys from a on, c of them. -/
def kin (t : List (Option Int)) (a c : Nat) : List Int := ((t.drop a).take c).filterMap id
/-- The digest of a table's head. -/
def tbD (t : List (Option Int)) : Nat := dg (hdText 32 (tr (tbf t) 0 32))
section
variable {w : World} {base S : Nat} {t : List (Option Int)} {lv : Value} {M hB vB : Nat} {vs : List Int}
theorem tbs_head (h : Tbs w base S t lv M hB vB vs) : Calls Try.prog 15 #[.pointer (some ⟨S, 0, none⟩), .int .i64 1, .int .i64 32] w fun e w' => e = .returned (.tuple #[.agg #[.int .i64 32, .int .u8 ((tbD t : Int) / 256), .int .u8 ((tbD t : Int) % 256)], .int .i64 0]) ∧ Below w.heap.size w w' := by
  have := sHead_any w base S _ lv M 1 32 h.st
  rw [hdA, if_neg (by omega), if_pos ⟨rfl, rfl⟩] at this
  exact this
theorem tbs_ask (h : Tbs w base S t lv M hB vB vs) (a c : Nat) (hac : a + c ≤ 32) (B : Int) (hB' : B = (a : Int) + c) : Calls Try.prog 16 #[.pointer (some ⟨S, 0, none⟩), .int .i64 1, .int .i64 a, .int .i64 B] w fun e w' => e = .returned (askV (foA (kin t a c)) (prB (tbf t) 32 a (a + c))) ∧ Below w.heap.size w w' := by
  subst hB'
  have := ask_any w base S _ lv M 1 a ((a : Int) + c) h.st
  rw [asA, if_neg (by omega), if_pos ⟨rfl, by omega, by omega, by omega⟩, show ((a : Int) + c).toNat = a + c by omega, Int.toNat_natCast, Nat.add_sub_cancel_left] at this
  simp only at this
  rw [fv_tbf t a c (by rw [h.tl]; omega)] at this
  exact this
theorem tbs_check (h : Tbs w base S t lv M hB vB vs) (a c : Nat) (hac : a + c ≤ 32) (B : Int) (hB' : B = (a : Int) + c) (w' : World) : Calls Try.prog 18 #[.int .i64 1, .agg #[.int .i64 32, .int .u8 ((tbD t : Int) / 256), .int .u8 ((tbD t : Int) % 256)], .int .i64 a, .int .i64 B, foV (foA (kin t a c)), .string (prB (tbf t) 32 a (a + c))] w' fun e w2 => e = .returned (.int .i64 0) ∧ Below w'.heap.size w' w2 := by
  subst hB'
  have hbd : ∀ i, bd 1 (tbf t i) := tbf_bd h.st.ok.tval
  have hz : (prB (tbf t) 32 a (a + c)).size ≤ maxLen := by
    rw [size_list]
    show (marks (prN (tbf t) 32 a (a + c))).length ≤ maxLen
    have := marks_bd (prN (tbf t) 32 a (a + c)) (fun d hd => by
      obtain ⟨p, hp, rfl⟩ := List.mem_map.1 hd
      have hpm := cov_mem a (a + c) 32 0 32 (by omega) (by omega) p hp
      exact bd_mono (tr_bd hbd (p.b - p.a) p.a p.b (Nat.le_refl _)) (by omega))
    have := prN_len (tbf t) 32 a (a + c) (by omega)
    unfold maxLen; omega
  have := check_good 1 32 a (a + c) ((tbD t : Int) / 256) ((tbD t : Int) % 256) (foA (kin t a c)).c (foA (kin t a c)).s (foA (kin t a c)).m (foA (kin t a c)).x (prB (tbf t) 32 a (a + c)) w' (decide_eq_true (.inr ⟨rfl, rfl⟩)) (by omega) (by omega) hac hz
  have hh := ck_honest hbd (tbf_good t) (n := 32) (f := a) (t := a + c) (by omega) hac (foA (kin t a c))
  rw [Nat.add_sub_cancel_left, fv_tbf t a c (by rw [h.tl]; omega), show ((t.drop a).take c).filterMap id = kin t a c from rfl, if_pos rfl] at hh
  have he : ckE 32 a (a + c) ((tbD t : Int) / 256) ((tbD t : Int) % 256) (foA (kin t a c)) (readR (prB (tbf t) 32 a (a + c)).data.toList) = 0 := hh
  rw [show ((a + c : Nat) : Int) = (a : Int) + c by push_cast; rfl] at this
  rw [show (⟨(foA (kin t a c)).c, (foA (kin t a c)).s, (foA (kin t a c)).m, (foA (kin t a c)).x⟩ : Fo) = foA (kin t a c) from rfl, he] at this
  exact this
theorem kin_len (t : List (Option Int)) (a c : Nat) : (kin t a c).length ≤ c := Nat.le_trans (List.length_filterMap_le _ _) (by simp; omega)
theorem kin_val (h : ∀ v, some v ∈ t → 0 ≤ v ∧ v ≤ 1000000) (a c : Nat) : ∀ v ∈ kin t a c, 0 ≤ v ∧ v ≤ 1000000 := fun v hv => by
  obtain ⟨o, ho, e⟩ := List.mem_filterMap.1 hv
  simp only [id] at e
  subst e
  exact h v (List.mem_of_mem_drop (List.mem_of_mem_take ho))
theorem kin_one (t : List (Option Int)) (k : Nat) (h : k < t.length) : kin t k 1 = (tat t k).toList := by
  unfold kin
  rw [show (1 : Nat) = 0 + 1 from rfl, List.take_succ_eq_append_getElem (by simp; omega), List.take_zero, List.nil_append, List.getElem_drop]
  simp only [tat, List.getD_eq_getElem?_getD, Nat.add_zero, List.getElem?_eq_getElem h, Option.getD_some]
  cases t[k] <;> rfl
end
/-- A step that is handed in: its key, its value, whether it takes out. -/
structure Kpt where
  k : Int
  v : Int
  o : Bool
/-- A list of such steps, in memory. -/
structure KpS (w : World) (B : Nat) (v : Value) (l : List Kpt) : Prop where
  ex : ∃ ao cap, v = .slice ao l.length cap ∧ l.length ≤ 9223372036854775807 ∧ ∀ i (hi : i < l.length), ∃ b off, ao = some ⟨b, off, none⟩ ∧ b < B ∧ w.cell? ⟨b, off + i * 3, none⟩ = some (.int .i64 l[i].k) ∧ w.cell? ⟨b, off + i * 3 + 1, none⟩ = some (.int .i64 l[i].v) ∧ w.cell? ⟨b, off + i * 3 + 2, none⟩ = some (.bool l[i].o)

end Go.Proofs.Ytogmdaopfnmobaa

