/- An honest proof is taken: Check and CheckGrown, as mathematics. -/
import Derived.Test.YtogmdaopfnmobaaP28
import Derived.Test.YtogmdaopfnmobaaP26
import Derived.Test.YtogmdaopfnmobaaP10
namespace Go.Proofs.Ytogmdaopfnmobaa
open Go.RowKit

theorem numB_len : ∀ (k f n : Nat), n < 128 ^ (k + 1) → (numB f n).length ≤ k + 1
  | _, 0, n, _ => by simp [numB]
  | 0, f + 1, n, h => by rw [numB_small _ _ (by simpa using h)]; simp
  | k + 1, f + 1, n, h => by
    by_cases h' : n < 128
    · rw [numB_small _ _ h']; simp
    · rw [numB_big _ _ (by omega)]
      have := numB_len k f (n / 128) (by rw [Nat.div_lt_iff_lt_mul (by omega)]; rw [Nat.pow_succ] at h; exact h)
      simp; omega
theorem mark_bd {d : Nd} (h : bd 64 d) : d.mark.length ≤ 14 := by
  unfold bd at h
  have a := numB_len 0 6 d.c.toNat (by simp; omega)
  have b := numB_len 3 6 d.s.toNat (by have : (128 : Nat) ^ (3 + 1) = 268435456 := rfl; omega)
  have e := numB_len 2 6 d.m.toNat (by have : (128 : Nat) ^ (2 + 1) = 2097152 := rfl; omega)
  have f := numB_len 2 6 d.x.toNat (by have : (128 : Nat) ^ (2 + 1) = 2097152 := rfl; omega)
  unfold Nd.mark
  split
  · simp
  · simp [Nd.bytes, num]; omega
theorem marks_bd : ∀ (l : List Nd), (∀ d ∈ l, bd 64 d) → (marks l).length ≤ 14 * l.length
  | [], _ => by simp [marks]
  | d :: l, h => by
    have := marks_bd l (fun x hx => h x (by simp [hx]))
    have hd := mark_bd (h d (by simp))
    simp [marks] at this ⊢
    omega
/-- The bytes of an honest proof are read as its nodes. -/
theorem prB_read {lf : Nat → Nd} (h : ∀ i, bd 1 (lf i)) {n f t : Nat} (hn : n ≤ 64) : readR (marks (prN lf n f t)) = some (prN lf n f t) ∧ (prN lf n f t).all Nd.ok = true ∧ (prN lf n f t).length = (cov 0 n f t).length := by
  have hl := prN_len lf n f t hn
  have hb : ∀ d ∈ prN lf n f t, bd 64 d := fun d hd => by
    obtain ⟨p, hp, rfl⟩ := List.mem_map.1 hd
    have hpm := cov_mem f t n 0 n (by omega) (by omega) p hp
    exact bd_mono (tr_bd h (p.b - p.a) p.a p.b (Nat.le_refl _)) (by omega)
  have hok : (prN lf n f t).all Nd.ok = true := List.all_eq_true.2 fun d hd => bd_ok (hb d hd) (by omega)
  have hm := marks_bd _ hb
  exact ⟨read_write _ hl hok (by omega), hok, by simp [prN, cn]⟩
theorem fz_cn (lf : Nat → Nd) (l : List Sp) : fz (l.zip (cn lf l)) = finN (fun p => tr lf p.a p.b) l := by
  have hq : ∀ q ∈ l.zip (cn lf l), (fun p : Sp => tr lf p.a p.b) q.1 = q.2 := fun q hq => by
    obtain ⟨i, hi, e⟩ := List.mem_iff_getElem.1 hq
    rw [← e]
    simp [cn]
  have := finN_fz (nd := fun p => tr lf p.a p.b) (l.zip (cn lf l)) .zero hq
  rw [zip_fst (by simp [cn])] at this
  exact this.symm
/-- What Check tells of an honest proof, whatever the claim. -/
theorem ck_honest {lf : Nat → Nd} (h : ∀ i, bd 1 (lf i)) (hg : ∀ i, (lf i).fold.good) {n f t : Nat} (hn : n ≤ 64) (ht : t ≤ n) (claim : Fo) :
    ckE n f t ((dg (hdText n (tr lf 0 n)) : Int) / 256) ((dg (hdText n (tr lf 0 n)) : Int) % 256) claim (readR (marks (prN lf n f t))) = if fv lf f (t - f) = claim then 0 else 10 := by
  obtain ⟨h1, h2, h3⟩ := prB_read h (f := f) (t := t) hn
  rw [h1]
  have hc : cm 0 n f t (prN lf n f t) = tr lf 0 n := by
    have := cm_cn lf f t n 0 n [] (by omega)
    rw [List.append_nil] at this
    exact this
  have hf : fz ((cov 0 n f t).zip (prN lf n f t)) = fv lf f (t - f) := by
    rw [prN, fz_cn, finN_fv hg n f t ht]
  simp only [ckE]
  rw [if_neg (fun c => c h3), hc, hf, if_neg (by rw [tr_mid h 0 n (by omega)]; decide), if_neg (by simp)]
  by_cases e : fv lf f (t - f) = claim
  · rw [if_neg (fun c => c e), if_pos e]
  · rw [if_pos e, if_neg e]
/-- Of a proof that is cut short, or has more behind it: not OK. -/
theorem ck_other {n f t : Nat} {h0 h1 : Int} {claim : Fo} {q : Option (List Nd)} (h : ∀ l, q = some l → l.length ≠ (cov 0 n f t).length) : ckE n f t h0 h1 claim q ≠ 0 := by
  cases q with
  | none => simp [ckE]
  | some l => simp only [ckE]; rw [if_pos (h l rfl)]; decide
theorem cg_other {o n : Nat} {a0 a1 b0 b1 : Int} {q : Option (List Nd)} (h : ∀ l, q = some l → l.length ≠ (cov 0 n 0 o).length) : cgE o n a0 a1 b0 b1 q ≠ 0 := by
  cases q with
  | none => simp [cgE]
  | some l => simp only [cgE]; rw [if_pos (h l rfl)]; decide
/-- What CheckGrown tells of an honest proof. -/
theorem cg_honest {lf : Nat → Nd} (h : ∀ i, bd 1 (lf i)) {o n : Nat} (h1 : 1 ≤ o) (h2 : o ≤ n) (hn : n ≤ 64) :
    cgE o n ((dg (hdText o (tr lf 0 o)) : Int) / 256) ((dg (hdText o (tr lf 0 o)) : Int) % 256) ((dg (hdText n (tr lf 0 n)) : Int) / 256) ((dg (hdText n (tr lf 0 n)) : Int) % 256) (readR (marks (prN lf n 0 o))) = 0 := by
  obtain ⟨e1, e2, e3⟩ := prB_read h (f := 0) (t := o) hn
  rw [e1]
  have hc : cm 0 n 0 o (prN lf n 0 o) = tr lf 0 n := by
    have := cm_cn lf 0 o n 0 n [] (by omega)
    rw [List.append_nil] at this
    exact this
  have hb : bgn 0 n o (prN lf n 0 o) = tr lf 0 o := by
    have := bgn_cn lf o n 0 n [] (by omega) (by omega) h2
    rw [List.append_nil] at this
    exact this
  simp only [cgE]
  rw [if_neg (fun c => c e3), hc, hb, if_neg (by rw [tr_mid h 0 n (by omega)]; decide), if_neg (by simp)]

end Go.Proofs.Ytogmdaopfnmobaa

/- The statements' own sums (notarykeep): the folds of a tree tell the same as adding and comparing. -/
namespace Go.Proofs.Ytogmdaopfnmobaa
open Go.RowKit

theorem fv_lgf (l : List Int) (a : Nat) : ∀ k, a + k ≤ l.length → fv (lgf l) a k = foA ((l.drop a).take k)
  | 0, _ => by simp [foA, fv]
  | k + 1, h => by
    have ih := fv_lgf l a k (by omega)
    have hk : k < (l.drop a).length := by simp; omega
    rw [foA_next _ _ hk, ← ih]
    show tog _ (lgf l (a + k)).fold = _
    rw [lgf, mkNd_fold, List.getElem_drop, List.getD_eq_getElem?_getD, List.getElem?_eq_getElem (by omega)]
    rfl
/-- What lies in a table, in the order of its keys. -/
theorem fv_tbf (t : List (Option Int)) (a : Nat) : ∀ k, a + k ≤ t.length → fv (tbf t) a k = foA (((t.drop a).take k).filterMap id)
  | 0, _ => by simp [foA, fv]
  | k + 1, h => by
    have ih := fv_tbf t a k (by omega)
    have hk : k < (t.drop a).length := by simp; omega
    rw [List.take_succ_eq_append_getElem hk, List.filterMap_append]
    show tog (fv (tbf t) a k) (tbf t (a + k)).fold = _
    rw [ih, List.getElem_drop, tbf, List.getD_eq_getElem?_getD, List.getElem?_eq_getElem (by omega)]
    cases hx : t[a + k] with
    | none =>
      have hg : (foA (((t.drop a).take k).filterMap id)).good := by rw [← ih]; exact fv_good (tbf_good t) a k
      have e : (Nd.E).fold = .zero := rfl
      simp only [Option.getD_some, e, List.filterMap_cons, List.filterMap_nil, id, List.append_nil]
      exact tog_zero_right hg
    | some v => simp only [Option.getD_some, mkNd_fold, List.filterMap_cons, List.filterMap_nil, id, foA_app]

/-- The head of a log as it was is that of the older log. -/
theorem tr_take (l : List Int) (k : Nat) : tr (lgf (l.take k)) 0 k = tr (lgf l) 0 k := by
  refine tr_congr k 0 k (by omega) fun i _ hi => ?_
  simp only [lgf, List.getD_eq_getElem?_getD, List.getElem?_take, if_pos hi]
/-- The bytes of a proof are not none. -/
theorem marks_ne {l : List Nd} (h : 1 ≤ l.length) : marks l ≠ [] := by
  cases l with
  | nil => simp at h
  | cons d r =>
    unfold marks Nd.mark
    simp only [List.map_cons, List.flatten_cons]
    split <;> simp
theorem prB_ne {lf : Nat → Nd} (n f t : Nat) : marks (prN lf n f t) ≠ [] := marks_ne (by rw [prN, cn_len]; exact (cov_len f t n 0 n (by omega)).1)
/-- A byte less, a byte more: not OK. -/
theorem ck_less {lf : Nat → Nd} (h : ∀ i, bd 1 (lf i)) {n f t : Nat} (hn : n ≤ 64) {h0 h1 : Int} {claim : Fo} {u x : List UInt8} (hu : u ++ x = marks (prN lf n f t)) (hx : x ≠ []) : ckE n f t h0 h1 claim (readR u) ≠ 0 := by
  obtain ⟨_, h2, h3⟩ := prB_read h (f := f) (t := t) hn
  refine ck_other fun l hl => ?_
  have := read_cut h2 hu hx hl
  omega
theorem ck_more {lf : Nat → Nd} (h : ∀ i, bd 1 (lf i)) {n f t : Nat} (hn : n ≤ 64) {h0 h1 : Int} {claim : Fo} {x : List UInt8} (hx : x ≠ []) : ckE n f t h0 h1 claim (readR (marks (prN lf n f t) ++ x)) ≠ 0 := by
  obtain ⟨_, h2, h3⟩ := prB_read h (f := f) (t := t) hn
  refine ck_other fun l hl => ?_
  have := read_more h2 hx hl
  omega
theorem cg_less {lf : Nat → Nd} (h : ∀ i, bd 1 (lf i)) {o n : Nat} (hn : n ≤ 64) {a0 a1 b0 b1 : Int} {u x : List UInt8} (hu : u ++ x = marks (prN lf n 0 o)) (hx : x ≠ []) : cgE o n a0 a1 b0 b1 (readR u) ≠ 0 := by
  obtain ⟨_, h2, h3⟩ := prB_read h (f := 0) (t := o) hn
  refine cg_other fun l hl => ?_
  have := read_cut h2 hu hx hl
  omega

end Go.Proofs.Ytogmdaopfnmobaa

/- Small things that Asked, Grown and Absent want. -/
namespace Go.Proofs.Ytogmdaopfnmobaa
open Go.RowKit Go.Maps

/-- pick, of a number of things that is known. -/
theorem kpick_nat (c : Int) (m : Nat) (hm : 0 < m) (hm2 : m ≤ 20000000) (hc : -9223372036854775808 ≤ c ∧ c ≤ 9223372036854775807) (M : Int) (hM : M = m) :
    ∃ a : Nat, a < m ∧ ∀ w', Hid (Calls Try.prog 14 #[.int .i64 c, .int .i64 M] w' fun e w2 => e = .returned (.int .i64 (a : Int)) ∧ w2 = w') := by
  subst hM
  have h1 := up_nn c
  have h2 := Int.emod_nonneg (up c) (b := (m : Int)) (by omega)
  have h3 := Int.emod_lt_of_pos (up c) (b := (m : Int)) (by omega)
  refine ⟨(up c % m).toNat, by omega, fun w' => hid ?_⟩
  have := kpick_any c m w' hm hm2 hc
  rw [show ((up c % m).toNat : Int) = up c % m by omega]
  exact this
/-- A part of a row. -/
theorem Cells1.sub {w : World} {B : Nat} {ao : Option Addr} {n cap : Nat} {l : List Value} (h : Cells1 w B (.slice ao n cap) l) (a c : Nat) (hac : a + c ≤ l.length) (hcap : l.length ≤ cap) : Cells1 w B (.slice (if cap = a then ao else ao.map (·.add (a * 1))) c (cap - a)) ((l.drop a).take c) := by
  obtain ⟨ao', cap', hv, hc⟩ := h.ex
  simp only [Value.slice.injEq] at hv
  obtain ⟨rfl, rfl, rfl⟩ := hv
  have hlen : ((l.drop a).take c).length = c := by simp; omega
  refine ⟨if cap = a then ao else ao.map (·.add (a * 1)), cap - a, by rw [hlen], fun i hi => ?_⟩
  rw [hlen] at hi
  obtain ⟨b, off, ha, hB, hcs⟩ := hc (a + i) (by omega)
  subst ha
  by_cases e : cap = a
  · omega
  · refine ⟨b, off + a, ?_, hB, ?_⟩
    · rw [if_neg e]; simp [Addr.add]
    · rw [List.getElem_take, List.getElem_drop]
      rw [show off + a + i = off + (a + i) by omega]; exact hcs
theorem own_cap {w : World} {base : Nat} {e : TypeId} {sz n : Nat} {v : Value} {xs : List Value} (h : w.ownsRow base e sz v n xs) : ∃ ao cap, v = .slice ao n cap ∧ n ≤ cap ∧ cap ≤ 9223372036854775807 := by
  rcases h.2 with ⟨rfl, rfl⟩ | ⟨g, cap, cur, rfl, _, _, hnc, hcm, _⟩
  · exact ⟨none, 0, rfl, by omega, by omega⟩
  · exact ⟨_, cap, rfl, hnc, by unfold maxLen at hcm; omega⟩
set_option maxRecDepth 100000 in
theorem krun_eql_head (w : World) (n h g : Int) :
    (binOp .eql 44 (.agg #[.int .i64 n, .int .u8 h, .int .u8 g]) (.agg #[.int .i64 n, .int .u8 h, .int .u8 g])).run Try.prog w = .ok (.bool true) w := by
  go_simp
  rw [run_equal_digest]
  simp
/-- A head in memory. -/
def HdAt (w : World) (g : Nat) (n h0 h1 : Int) : Prop := w.heap[g]? = some (.cells #[.int .i64 n, .int .u8 h0, .int .u8 h1] 44 (0, 0))
theorem HdAt.cells {w : World} {g : Nat} {n h0 h1 : Int} (h : HdAt w g n h0 h1) : (w.cell? ⟨g, 0, none⟩ = some (.int .i64 n) ∧ w.cell? ⟨g, 1, none⟩ = some (.int .u8 h0) ∧ w.cell? ⟨g, 2, none⟩ = some (.int .u8 h1)) ∧ ∀ o, w.frozen? ⟨g, o, none⟩ = false := by
  unfold HdAt at h
  refine ⟨⟨?_, ?_, ?_⟩, fun o => by simp [World.frozen?, h]⟩ <;> rw [cell_of_row w g _ _ _ _ h] <;> rfl
theorem HdAt.at (w : World) (g : Nat) (hg : g = w.heap.size) (n h0 h1 : Int) : HdAt (w.alloc (.cells #[.int .i64 n, .int .u8 h0, .int .u8 h1] 44)) g n h0 h1 := by subst hg; exact heap_alloc_new w _
theorem HdAt.below {w w' : World} {B g : Nat} {n h0 h1 : Int} (h : HdAt w g n h0 h1) (hb : Below B w w') (hg : g < B) : HdAt w' g n h0 h1 := (hb.block g hg).trans h
theorem HdAt.lt {w : World} {g : Nat} {n h0 h1 : Int} (h : HdAt w g n h0 h1) : g < w.heap.size := (Array.getElem?_eq_some_iff.1 h).1
theorem cut_list (P : ByteArray) : (P.extract 0 (P.size - 1)).data.toList = P.data.toList.take (P.size - 1) := by
  simp only [ByteArray.data_extract, Array.toList_extract, List.extract_eq_take_drop, List.drop_zero, Nat.sub_zero]
theorem size_cut (P : ByteArray) : (P.extract 0 (P.size - 1)).size ≤ P.size := by rw [size_list, cut_list, size_list, List.length_take]; omega
theorem size_add1 (P : ByteArray) : (P ++ ⟨#[0]⟩ : ByteArray).size = P.size + 1 := by rw [size_list, app_list, List.length_append]; rfl
theorem ck_cut1 {lf : Nat → Nd} (h : ∀ i, bd 1 (lf i)) {n f t : Nat} (hn : n ≤ 64) {h0 h1 : Int} {claim : Fo} {P : ByteArray} (hP : P.data.toList = marks (prN lf n f t)) (hz : 0 < P.size) : ckE n f t h0 h1 claim (readR (P.extract 0 (P.size - 1)).data.toList) ≠ 0 := by
  refine ck_less (x := P.data.toList.drop (P.size - 1)) h hn (by rw [cut_list, List.take_append_drop, hP]) fun e => ?_
  have := congrArg List.length e
  rw [List.length_drop, ← size_list] at this
  simp at this
  omega
theorem cg_cut1 {lf : Nat → Nd} (h : ∀ i, bd 1 (lf i)) {n o : Nat} (hn : n ≤ 64) {a0 a1 b0 b1 : Int} {P : ByteArray} (hP : P.data.toList = marks (prN lf n 0 o)) (hz : 0 < P.size) : cgE o n a0 a1 b0 b1 (readR (P.extract 0 (P.size - 1)).data.toList) ≠ 0 := by
  refine cg_less (x := P.data.toList.drop (P.size - 1)) h hn (by rw [cut_list, List.take_append_drop, hP]) fun e => ?_
  have := congrArg List.length e
  rw [List.length_drop, ← size_list] at this
  simp at this
  omega
theorem ck_add1 {lf : Nat → Nd} (h : ∀ i, bd 1 (lf i)) {n f t : Nat} (hn : n ≤ 64) {h0 h1 : Int} {claim : Fo} {P : ByteArray} (hP : P.data.toList = marks (prN lf n f t)) : ckE n f t h0 h1 claim (readR (P ++ ⟨#[0]⟩ : ByteArray).data.toList) ≠ 0 := by
  rw [app_list, hP]
  exact ck_more h hn (by simp)
set_option maxRecDepth 100000 in
theorem krun_slice (w : World) (ao : Option Addr) (N cap a c : Nat) (h : a + c ≤ cap) :
    (Instr.slice 38 (.slice ao N cap) (some (.int .i64 (a : Int))) (some (.int .i64 ((a : Int) + c))) none).run Try.prog w = .ok (.slice (if cap = a then ao else ao.map (·.add (a * 1))) c (cap - a)) w := by
  rw [run_slice_lh (P := Try.prog) w 38 ao N cap Try.underlying38 .i64 .i64 a ((a : Int) + c) (by omega) (by omega) (by omega)]
  have e : ((a : Int) + c).toNat - a = c := by omega
  simp [go_sem, e]
set_option maxRecDepth 100000 in
theorem krun_slice0 (w : World) (ao : Option Addr) (N cap c : Nat) (h : c ≤ cap) :
    (Instr.slice 38 (.slice ao N cap) none (some (.int .i64 (c : Int))) none).run Try.prog w = .ok (.slice (if cap = 0 then ao else ao.map (·.add (0 * 1))) c (cap - 0)) w := by
  rw [run_slice_h (P := Try.prog) w 38 ao N cap Try.underlying38 .i64 c (by omega) (by omega)]
  simp [go_sem]

end Go.Proofs.Ytogmdaopfnmobaa

/- What Asked does. -/
namespace Go.Proofs.Ytogmdaopfnmobaa
open Go.RowKit Go.Maps

attribute [local go_sem ↓] run_neq_fold krun_eql_head

set_option maxHeartbeats 4000000 in
set_option maxRecDepth 100000 in
theorem asked_any (v : Value) (xs : List Int) (f t n : Int) (w : World) (hl : Cells1 w w.heap.size v (xs.map (.int .i64))) (hx : ∀ x ∈ xs, -9223372036854775808 ≤ x ∧ x ≤ 9223372036854775807)
    (hf : -9223372036854775808 ≤ f ∧ f ≤ 9223372036854775807) (ht : -9223372036854775808 ≤ t ∧ t ≤ 9223372036854775807) (hn : -9223372036854775808 ≤ n ∧ n ≤ 9223372036854775807) :
    Calls Try.prog 4 #[v, .int .i64 f, .int .i64 t, .int .i64 n] w fun e w' => e = .returned (.bool true) ∧ Below w.heap.size w w' := by
  have HLG : ∀ w', Hid (Below w.heap.size w w' → Calls Try.prog 13 #[v] w' _) := fun w' => hid fun hb => logged_any v xs w' ((hl.below hb).mono hb.size) hx
  have hlb := lgd_bd xs
  have hl6 : (lgd xs).length ≤ 64 := by rw [lgd_len]; omega
  generalize lgd xs = l at HLG hlb hl6
  have hlv : ∀ x ∈ l, 0 ≤ x ∧ x ≤ 1000000 := fun x hx => by have := hlb x hx; omega
  have hbd := lgf_bd hlv
  have hgd := lgf_good l
  obtain ⟨N, hN⟩ : ∃ N, N = l.length := ⟨_, rfl⟩
  obtain ⟨a, ha, HPa⟩ := kpick_nat f (N + 1) (by omega) (by omega) hf (N + 1) (by push_cast; rfl)
  obtain ⟨c, hc, HPc⟩ := kpick_nat t (N - a + 1) (by omega) (by omega) ht (N - a + 1) (by omega)
  obtain ⟨k, hk, HPk⟩ := kpick_nat n (N + 1) (by omega) (by omega) hn (N + 1) (by push_cast; rfl)
  have hb : a + c ≤ N := by omega
  obtain ⟨D, hD⟩ : ∃ D, D = dg (hdText N (tr (lgf l) 0 N)) := ⟨_, rfl⟩
  obtain ⟨K, hK⟩ : ∃ K, K = dg (hdText k (tr (lgf l) 0 k)) := ⟨_, rfl⟩
  obtain ⟨P, hP⟩ : ∃ P, P = prB (lgf l) N a (a + c) := ⟨_, rfl⟩
  have hFe := fv_lgf l a c (by omega)
  have hFb : FoB c (foA ((l.drop a).take c)) := by
    have := foA_bd ((l.drop a).take c) (fun x hx => hlv x (List.mem_of_mem_drop (List.mem_of_mem_take hx)))
    rwa [show ((l.drop a).take c).length = c by simp; omega] at this
  have HFD : ∀ w' v', Hid (Cells1 w' w'.heap.size v' (((l.map (.int .i64)).drop a).take c) → Calls Try.prog 17 #[v'] w' _) := fun w' v' => hid fun h => fold_any v' ((l.drop a).take c) w' (by simpa [List.map_drop, List.map_take] using h) (fun x hx => hlv x (List.mem_of_mem_drop (List.mem_of_mem_take hx))) (by simp; omega)
  obtain ⟨F, hF⟩ : ∃ F, F = foA ((l.drop a).take c) := ⟨_, rfl⟩
  have hPs : P.data.toList = marks (prN (lgf l) N a (a + c)) := by rw [hP]; rfl
  have hPn : P.data.toList ≠ [] := by rw [hPs]; exact prB_ne _ _ _
  have hPz : 0 < P.size := by rw [size_list]; exact List.length_pos_iff.2 hPn
  have hPm : P.size ≤ 1000 := by
    rw [size_list, hPs]
    have := marks_bd (prN (lgf l) N a (a + c)) (fun d hd => by
      obtain ⟨p, hp, rfl⟩ := List.mem_map.1 hd
      have hpm := cov_mem a (a + c) N 0 N (by omega) (by omega) p hp
      exact bd_mono (tr_bd hbd (p.b - p.a) p.a p.b (Nat.le_refl _)) (by omega))
    have := prN_len (lgf l) N a (a + c) (by omega)
    omega
  have HCK : ∀ w' (cl : Fo) (q : ByteArray) (e : Int), Hid (ckE N a (a + c) ((D : Int) / 256) ((D : Int) % 256) cl (readR q.data.toList) = e → q.size ≤ maxLen → Calls Try.prog 18 #[.int .i64 0, .agg #[.int .i64 N, .int .u8 ((D : Int) / 256), .int .u8 ((D : Int) % 256)], .int .i64 a, .int .i64 ((a : Int) + c), .agg #[.int .i64 cl.c, .int .i64 cl.s, .int .i64 cl.m, .int .i64 cl.x], .string q] w' fun e' w2 => e' = .returned (.int .i64 e) ∧ Below w'.heap.size w' w2) := fun w' cl q e => hid fun he hq => by
    have := check_good 0 N a (a + c) ((D : Int) / 256) ((D : Int) % 256) cl.c cl.s cl.m cl.x q w' (decide_eq_true (.inl ⟨rfl, by omega, by omega⟩)) (by omega) (by omega) (by omega) hq
    rw [he, show ((a + c : Nat) : Int) = (a : Int) + c by push_cast; rfl] at this
    exact this
  have hho : ∀ cl, ckE N a (a + c) ((D : Int) / 256) ((D : Int) % 256) cl (readR P.data.toList) = if F = cl then 0 else 10 := fun cl => by
    rw [hPs, hD, ck_honest hbd hgd (by omega) hb cl, Nat.add_sub_cancel_left, hFe, hF]
  have HC1 : ∀ w', Hid (Calls Try.prog 18 #[.int .i64 0, .agg #[.int .i64 N, .int .u8 ((D : Int) / 256), .int .u8 ((D : Int) % 256)], .int .i64 a, .int .i64 ((a : Int) + c), .agg #[.int .i64 F.c, .int .i64 F.s, .int .i64 F.m, .int .i64 F.x], .string P] w' fun e' w2 => e' = .returned (.int .i64 0) ∧ Below w'.heap.size w' w2) := fun w' => hid ((HCK w' F P 0).out (by rw [hho, if_pos rfl]) (by unfold maxLen; omega))
  obtain ⟨G, hG⟩ : ∃ G, G = oth F n := ⟨_, rfl⟩
  have HC2 : ∀ w', Hid (Calls Try.prog 18 #[.int .i64 0, .agg #[.int .i64 N, .int .u8 ((D : Int) / 256), .int .u8 ((D : Int) % 256)], .int .i64 a, .int .i64 ((a : Int) + c), .agg #[.int .i64 G.c, .int .i64 G.s, .int .i64 G.m, .int .i64 G.x], .string P] w' fun e' w2 => e' = .returned (.int .i64 10) ∧ Below w'.heap.size w' w2) := fun w' => hid ((HCK w' G P 10).out (by rw [hho, if_neg (by rw [hG]; exact oth_ne F n)]) (by unfold maxLen; omega))
  obtain ⟨Y, hYe⟩ : ∃ Y, Y = ckE N a (a + c) ((D : Int) / 256) ((D : Int) % 256) F (readR (P.extract 0 (P.size - 1)).data.toList) := ⟨_, rfl⟩
  have hY : (Y == 0) = false := by
    have := ck_cut1 (h0 := (D : Int) / 256) (h1 := (D : Int) % 256) (claim := F) hbd (show N ≤ 64 by omega) hPs hPz
    rw [← hYe] at this
    simpa using this
  have HC3 : ∀ w', Hid (Calls Try.prog 18 #[.int .i64 0, .agg #[.int .i64 N, .int .u8 ((D : Int) / 256), .int .u8 ((D : Int) % 256)], .int .i64 a, .int .i64 ((a : Int) + c), .agg #[.int .i64 F.c, .int .i64 F.s, .int .i64 F.m, .int .i64 F.x], .string (P.extract 0 (P.size - 1))] w' fun e' w2 => e' = .returned (.int .i64 Y) ∧ Below w'.heap.size w' w2) := fun w' => hid ((HCK w' F (P.extract 0 (P.size - 1)) Y).out hYe.symm (by have := size_cut P; unfold maxLen; omega))
  obtain ⟨Q, hQ⟩ : ∃ Q : ByteArray, Q = P ++ ⟨#[0]⟩ := ⟨_, rfl⟩
  have hQs : Q.size ≤ maxLen := by rw [hQ, size_add1]; unfold maxLen; omega
  have hQz : ckE N a (a + c) ((D : Int) / 256) ((D : Int) % 256) F (readR Q.data.toList) ≠ 0 := by
    rw [hQ]
    exact ck_add1 hbd (show N ≤ 64 by omega) hPs
  obtain ⟨Z, hZe⟩ : ∃ Z, Z = ckE N a (a + c) ((D : Int) / 256) ((D : Int) % 256) F (readR Q.data.toList) := ⟨_, rfl⟩
  rw [← hZe] at hQz
  have hZ : (Z == 0) = false := by simpa using hQz
  have HC4 : ∀ w', Hid (Calls Try.prog 18 #[.int .i64 0, .agg #[.int .i64 N, .int .u8 ((D : Int) / 256), .int .u8 ((D : Int) % 256)], .int .i64 a, .int .i64 ((a : Int) + c), .agg #[.int .i64 F.c, .int .i64 F.s, .int .i64 F.m, .int .i64 F.x], .string Q] w' fun e' w2 => e' = .returned (.int .i64 Z) ∧ Below w'.heap.size w' w2) := fun w' => hid ((HCK w' F Q Z).out hZe.symm hQs)
  clear hYe hZe
  rw [← hF] at HFD hFb hFe
  have HOT : ∀ w', Hid (Calls Try.prog 19 #[.agg #[.int .i64 F.c, .int .i64 F.s, .int .i64 F.m, .int .i64 F.x], .int .i64 n] w' fun e w2 => e = .returned (.agg #[.int .i64 G.c, .int .i64 G.s, .int .i64 G.m, .int .i64 G.x]) ∧ Below w'.heap.size w' w2) := fun w' => hid (by
    obtain ⟨b1, b2, b3, b4⟩ := hFb
    have := other_any F.c F.s F.m F.x n w' hn (by omega) (by omega) (by omega) (by omega)
    rw [hG]
    exact this)
  have HLK : ∀ w' v', Hid (Cells1 w' w'.heap.size v' ((l.map (.int .i64)).take k) → Calls Try.prog 13 #[v'] w' fun e w2 => ∃ S lv M lw, e = .returned (.tuple #[.pointer (some ⟨S, 0, none⟩), lw]) ∧ Lgd w2 w'.heap.size S (l.take k) lv M lw ∧ Below w'.heap.size w' w2) := fun w' v' => hid fun h => by
    have hs : ∀ x ∈ l.take k, 0 ≤ x ∧ x < 70000 := fun x hx => hlb x (List.mem_of_mem_take hx)
    have := logged_any v' (l.take k) w' (by simpa [List.map_take] using h) (fun x hx => by have := hs x hx; omega)
    rw [lgd_same hs (by simp; omega)] at this
    exact this
  have HHD : ∀ w0 S lv M lw base (m : Nat) w', Hid (m ≤ N → Lgd w0 base S l lv M lw → Below w0.heap.size w0 w' → Calls Try.prog 15 #[.pointer (some ⟨S, 0, none⟩), .int .i64 0, .int .i64 m] w' fun e w3 => e = .returned (headV m (dg (hdText m (tr (lgf l) 0 m)))) ∧ Below w'.heap.size w' w3) := fun w0 S lv M lw base m w' => hid fun hm h hb => by
    have := sHead_any w' base S _ lv M 0 m (h.below hb).st
    rw [hdA, if_pos ⟨rfl, by omega, by simp only; omega⟩] at this
    exact this
  have HHW : ∀ w0 S lv M lw base w', Hid (Lgd w0 base S (l.take k) lv M lw → Below w0.heap.size w0 w' → Calls Try.prog 15 #[.pointer (some ⟨S, 0, none⟩), .int .i64 0, .int .i64 k] w' fun e w3 => e = .returned (headV k K) ∧ Below w'.heap.size w' w3) := fun w0 S lv M lw base w' => hid fun h hb => by
    have := sHead_any w' base S _ lv M 0 k (h.below hb).st
    rw [hdA, if_pos ⟨rfl, by omega, by simp; omega⟩, Int.toNat_natCast, tr_take, ← hK] at this
    exact this
  have HAS : ∀ w0 S lv M lw base w', Hid (Lgd w0 base S l lv M lw → Below w0.heap.size w0 w' → Calls Try.prog 16 #[.pointer (some ⟨S, 0, none⟩), .int .i64 0, .int .i64 a, .int .i64 ((a : Int) + c)] w' fun e w3 => e = .returned (askV F P) ∧ Below w'.heap.size w' w3) := fun w0 S lv M lw base w' => hid fun h hb => by
    have := ask_any w' base S _ lv M 0 a ((a : Int) + c) (h.below hb).st
    rw [asA, if_pos ⟨rfl, by omega, by omega, by simp only; omega⟩, show ((a : Int) + c).toNat = a + c by omega, Int.toNat_natCast, Nat.add_sub_cancel_left] at this
    simp only [← hN] at this
    rw [hFe, ← hP] at this
    exact this
  have hHD := fun w0 S lv M lw base w' => (HHD w0 S lv M lw base N w')
  have hHk := fun w0 S lv M lw base w' => (HHD w0 S lv M lw base k w')
  simp only [← hD] at hHD
  simp only [← hK] at hHk
  have HD8 : Hid _ := hid (⟨hD, hK⟩ : _ ∧ _)
  have HP8 : Hid (P = _) := hid hP
  have HQ8 : Hid (Q = P ++ ⟨#[0]⟩) := hid hQ
  have hPe := empty_no P hPz
  have hP1 : (1 : Int) ≤ (P.size : Int) := by omega
  have hP2 : (P.size : Int) - 1 ≤ P.size := by omega
  have hP3 : IntKind.i64.wrap ((P.size : Int) - 1) = (P.size : Int) - 1 := by rw [IntKind.wrap_i64]; omega
  have hkN : k ≤ N := by omega
  have hsub := @Cells1.sub
  clear HCK hho hG hF hFe hFb hD hK hP hQ HHD hPs hPn hl hx hQz hQs hbd hgd hlv hlb
  obtain ⟨F0, F1, F2, F3⟩ := F
  obtain ⟨G0, G1, G2, G3⟩ := G
  simp only [headV, askV, foV] at hHD hHk HAS HHW HFD HC1 HC2 HC3 HC4 HOT
  generalize (D : Int) / 256 = d0 at *
  generalize (D : Int) % 256 = d1 at *
  generalize (K : Int) / 256 = k0 at *
  generalize (K : Int) % 256 = k1 at *
  go_enter Try.func4, Try.ntmps4
  go_wp2_with fail
  refine (knows_any _).mono ?_
  rintro e w1 ⟨rfl, hb1⟩
  go_wp2_with fail
  refine ((HLG _).out hb1).mono ?_
  rintro e w2 ⟨S, lv, M, lw, rfl, hL, hb2⟩
  have HB2 := hid (hb1.trans (hb2.mono hb1.size))
  obtain ⟨ao, cap, rfl, hcap, hcapm⟩ := own_cap hL.row
  have HCL := hid (own_cells1 hL.row)
  have HL := hid hL
  have hs2 := HB2.out.size
  rw [← hN] at hcap HCL ⊢
  clear HLG hL hb1 hb2
  have hN6 : N ≤ 64 := by omega
  have HN := hid hN
  clear hN hl6
  go_wp2_with fail
  refine (HPa _).out.mono ?_
  rintro e w3 ⟨rfl, hw3⟩
  rw [hw3]
  clear hw3 HPa
  go_wp2_with fail
  refine (HPc _).out.mono ?_
  rintro e w3 ⟨rfl, hw3⟩
  rw [hw3]
  clear hw3 HPc
  go_wp2_with fail
  refine ((hHD w2 S lv M _ _ _).out (Nat.le_refl _) HL.out (Below.refl _ _)).mono ?_
  rintro e w3 ⟨rfl, hb3⟩
  have HB3 := hid hb3
  have hs3 := hb3.size
  clear hHD hb3
  go_wp2_with fail
  obtain ⟨W3, hW3⟩ : ∃ W, W = w3.alloc (.cells #[.int .i64 (N : Int), .int .u8 d0, .int .u8 d1] 44) := ⟨_, rfl⟩
  have hd3 : HdAt W3 w3.heap.size N d0 d1 := hW3 ▸ HdAt.at w3 _ rfl _ _ _
  have HW3 : Hid (Below w2.heap.size w2 W3) := hid (hW3 ▸ HB3.out.alloc hs3 _)
  rw [← hW3]
  clear hW3 HB3
  generalize w3.heap.size = g at hs3 hd3 ⊢
  refine ((HAS w2 S lv M _ _ _).out HL.out HW3.out).mono ?_
  rintro e w4 ⟨rfl, hb4⟩
  have hd4 := hd3.below hb4 hd3.lt
  have HB4 := hid (HW3.out.trans (hb4.mono HW3.out.size))
  have hs4 := HB4.out.size
  have hg4 := hd4.lt
  clear hd3 hb4 HW3 HAS
  obtain ⟨SV, hSV, HSC⟩ : ∃ SV, (∀ w', (Instr.slice 38 (.slice ao N cap) (some (.int .i64 (a : Int))) (some (.int .i64 ((a : Int) + c))) none).run Try.prog w' = .ok SV w') ∧ Hid (Cells1 w2 w2.heap.size SV (((l.map (.int .i64)).drop a).take c)) := by
    refine ⟨.slice (if cap = a then ao else ao.map (·.add (a * 1))) c (cap - a), fun w' => krun_slice w' ao N cap a c (by omega), hid (HCL.out.sub a c (by simp; have := HN.out; omega) (by simp; have := HN.out; omega))⟩
  go_wp2_with fail
  obtain ⟨W4, hW4⟩ : ∃ W, W = w4.alloc (.cells #[.int .i64 F0, .int .i64 F1, .int .i64 F2, .int .i64 F3] 29) := ⟨_, rfl⟩
  have hf4 : FoAt W4 w4.heap.size ⟨F0, F1, F2, F3⟩ := hW4 ▸ FoAt.at w4 _ rfl ⟨F0, F1, F2, F3⟩
  have hd4' : HdAt W4 g N d0 d1 := hW4 ▸ hd4.below ((Below.refl _ _).alloc (Nat.le_refl _) _) hg4
  have HW4 : Hid (Below w2.heap.size w2 W4) := hid (hW4 ▸ HB4.out.alloc hs4 _)
  rw [← hW4]
  clear hW4 HB4 hd4
  generalize w4.heap.size = g4 at hs4 hf4 hg4 ⊢
  refine ((HFD W4 SV).out ((HSC.out.below HW4.out).mono HW4.out.size)).mono ?_
  rintro e w5 ⟨rfl, hb5⟩
  have hd5 := hd4'.below hb5 hd4'.lt
  have hf5 := hf4.below hb5 hf4.lt
  have HB5 := hid (HW4.out.trans (hb5.mono HW4.out.size))
  have hs5 := HB5.out.size
  have hg5 := hd5.lt
  have hl5 := hf5.lt
  clear hd4' hf4 hb5 HW4 HFD hSV HSC
  obtain ⟨hdc, hdz⟩ := hd5.cells
  obtain ⟨hfc, hfz⟩ := hf5.cells
  go_wp2_with fail
  obtain ⟨W5, hW5⟩ : ∃ W, W = w5.alloc (.cells #[.int .i64 F0, .int .i64 F1, .int .i64 F2, .int .i64 F3] 29) := ⟨_, rfl⟩
  have HH5 : Hid (HdAt W5 g N d0 d1 ∧ FoAt W5 g4 ⟨F0, F1, F2, F3⟩ ∧ Below w2.heap.size w2 W5) := hid (hW5 ▸ ⟨hd5.below ((Below.refl _ _).alloc (Nat.le_refl _) _) hg5, hf5.alloc _, HB5.out.alloc hs5 _⟩)
  rw [← hW5]
  clear hW5 HB5 hd5 hf5 hdc hdz hfc hfz
  generalize w5.heap.size = g5
  refine (HC1 W5).out.mono ?_
  rintro e w6 ⟨rfl, hb6⟩
  have HH6 : Hid (HdAt w6 g N d0 d1 ∧ FoAt w6 g4 ⟨F0, F1, F2, F3⟩ ∧ Below w2.heap.size w2 w6) := hid ⟨HH5.out.1.below hb6 HH5.out.1.lt, HH5.out.2.1.below hb6 HH5.out.2.1.lt, HH5.out.2.2.trans (hb6.mono HH5.out.2.2.size)⟩
  obtain ⟨hfc, hfz⟩ := HH6.out.2.1.cells
  clear HH5 hb6 HC1
  go_wp2_with fail
  refine (HOT w6).out.mono ?_
  rintro e w7 ⟨rfl, hb7⟩
  have HH7 : Hid (HdAt w7 g N d0 d1 ∧ FoAt w7 g4 ⟨F0, F1, F2, F3⟩ ∧ Below w2.heap.size w2 w7) := hid ⟨HH6.out.1.below hb7 HH6.out.1.lt, HH6.out.2.1.below hb7 HH6.out.2.1.lt, HH6.out.2.2.trans (hb7.mono HH6.out.2.2.size)⟩
  obtain ⟨hdc, hdz⟩ := HH7.out.1.cells
  have hl7 := HH7.out.1.lt
  clear HH6 hb7 HOT hfc hfz
  go_wp2_with fail
  obtain ⟨W7, hW7⟩ : ∃ W, W = w7.alloc (.cells #[.int .i64 G0, .int .i64 G1, .int .i64 G2, .int .i64 G3] 29) := ⟨_, rfl⟩
  have HH8 : Hid (HdAt W7 g N d0 d1 ∧ FoAt W7 g4 ⟨F0, F1, F2, F3⟩ ∧ Below w2.heap.size w2 W7) := hid (hW7 ▸ ⟨HH7.out.1.below ((Below.refl _ _).alloc (Nat.le_refl _) _) HH7.out.1.lt, HH7.out.2.1.alloc _, HH7.out.2.2.alloc HH7.out.2.2.size _⟩)
  rw [← hW7]
  clear hW7 HH7 hdc hdz hl7
  generalize w7.heap.size = g7
  refine (HC2 W7).out.mono ?_
  rintro e w8 ⟨rfl, hb8⟩
  have HH9 : Hid (HdAt w8 g N d0 d1 ∧ FoAt w8 g4 ⟨F0, F1, F2, F3⟩ ∧ Below w2.heap.size w2 w8) := hid ⟨HH8.out.1.below hb8 HH8.out.1.lt, HH8.out.2.1.below hb8 HH8.out.2.1.lt, HH8.out.2.2.trans (hb8.mono HH8.out.2.2.size)⟩
  obtain ⟨hfc, hfz⟩ := HH9.out.2.1.cells
  obtain ⟨hdc, hdz⟩ := HH9.out.1.cells
  clear HH8 hb8 HC2
  go_wp2_with fail
  have HCW : ∀ w', Hid (Below w8.heap.size w8 w' → ((w'.cell? ⟨g, 0, none⟩ = some (.int .i64 N) ∧ w'.cell? ⟨g, 1, none⟩ = some (.int .u8 d0) ∧ w'.cell? ⟨g, 2, none⟩ = some (.int .u8 d1)) ∧ (w'.cell? ⟨g4, 0, none⟩ = some (.int .i64 F0) ∧ w'.cell? ⟨g4, 1, none⟩ = some (.int .i64 F1) ∧ w'.cell? ⟨g4, 2, none⟩ = some (.int .i64 F2) ∧ w'.cell? ⟨g4, 3, none⟩ = some (.int .i64 F3))) ∧ Below w2.heap.size w2 w') := fun w' => hid fun hb => ⟨⟨(HH9.out.1.below hb HH9.out.1.lt).cells.1, (HH9.out.2.1.below hb HH9.out.2.1.lt).cells.1⟩, HH9.out.2.2.trans (hb.mono HH9.out.2.2.size)⟩
  have hcw := (HCW w8).out (Below.refl _ _)
  obtain ⟨hcw, _⟩ := hcw
  clear hfc hfz hdc hdz
  go_region_held3 (fun w' => (w'.cell? ⟨g, 0, none⟩ = some (.int .i64 N) ∧ w'.cell? ⟨g, 1, none⟩ = some (.int .u8 d0) ∧ w'.cell? ⟨g, 2, none⟩ = some (.int .u8 d1)) ∧ (w'.cell? ⟨g4, 0, none⟩ = some (.int .i64 F0) ∧ w'.cell? ⟨g4, 1, none⟩ = some (.int .i64 F1) ∧ w'.cell? ⟨g4, 2, none⟩ = some (.int .i64 F2) ∧ w'.cell? ⟨g4, 3, none⟩ = some (.int .i64 F3)))
    (first | exact hcn | go_keep)
    ((go_at_call 18; refine (HC3 _).out.mono ?_; rintro e w9 ⟨rfl, hb9⟩; have hcn := ((HCW w9).out ((Below.refl _ _).drew.trans hb9)).1; have HB9 := hid ((HCW w9).out ((Below.refl _ _).drew.trans hb9)).2; clear hb9))
  obtain ⟨⟨c1, c2, c3⟩, c4, c5, c6, c7⟩ := hcn
  clear HCW HH9 HC3 hcw
  go_wp2_with fail
  rw [← HQ8.out]
  refine (HC4 w9).out.mono ?_
  rintro e w10 ⟨rfl, hb10⟩
  have HB10 := hid (HB9.out.trans (hb10.mono HB9.out.size))
  clear hb10 HB9 HC4 HQ8 c1 c2 c3 c4 c5 c6 c7
  go_wp2_with fail
  refine (HPk _).out.mono ?_
  rintro e w11 ⟨rfl, hw11⟩
  rw [hw11]
  clear hw11 HPk
  obtain ⟨SV, hSV, HSC⟩ : ∃ SV, (∀ w', (Instr.slice 38 (.slice ao N cap) none (some (.int .i64 (k : Int))) none).run Try.prog w' = .ok SV w') ∧ Hid (Cells1 w2 w2.heap.size SV ((l.map (.int .i64)).take k)) := by
    refine ⟨.slice (if cap = 0 then ao else ao.map (·.add (0 * 1))) k (cap - 0), fun w' => krun_slice0 w' ao N cap k (by omega), hid ?_⟩
    have := HCL.out.sub 0 k (by simp; have := HN.out; omega) (by simp; have := HN.out; omega)
    rw [List.drop_zero] at this
    exact this
  go_wp2_with fail
  refine ((HLK w10 SV).out ((HSC.out.below HB10.out).mono HB10.out.size)).mono ?_
  rintro e w11 ⟨S2, lv2, M2, lw2, rfl, hL2, hb11⟩
  have HB11 := hid (HB10.out.trans (hb11.mono HB10.out.size))
  obtain ⟨ao2, cap2, rfl, _, _⟩ := own_cap hL2.row
  have HL2 := hid hL2
  clear hb11 HB10 hL2 HLK hSV HSC
  go_wp2_with fail
  refine ((hHk w2 S lv M _ _ w11).out hkN HL.out HB11.out).mono ?_
  rintro e w12 ⟨rfl, hb12⟩
  have HB12 := hid hb12
  have hs12 := hb12.size
  clear hb12 hHk
  go_wp2_with fail
  obtain ⟨W12, hW12⟩ : ∃ W, W = w12.alloc (.cells #[.int .i64 (k : Int), .int .u8 k0, .int .u8 k1] 44) := ⟨_, rfl⟩
  have HH12 : Hid (HdAt W12 w12.heap.size k k0 k1 ∧ Below w11.heap.size w11 W12) := hid (hW12 ▸ ⟨HdAt.at w12 _ rfl _ _ _, HB12.out.alloc hs12 _⟩)
  rw [← hW12]
  clear hW12 HB12
  generalize w12.heap.size = g12 at HH12 hs12 ⊢
  refine ((HHW w11 S2 lv2 M2 _ _ W12).out HL2.out HH12.out.2).mono ?_
  rintro e w13 ⟨rfl, hb13⟩
  have hd13 := HH12.out.1.below hb13 HH12.out.1.lt
  have HB13 : Hid (Below w.heap.size w w13) := hid (HB2.out.trans (((HB11.out.trans (HH12.out.2.mono HB11.out.size)).trans (hb13.mono (Nat.le_trans HB11.out.size HH12.out.2.size))).mono hs2))
  have hl13 := hd13.lt
  have hs13 := HB13.out.size
  obtain ⟨hdc, hdz⟩ := hd13.cells
  clear hb13 HH12 HHW hd13
  go_wp2
  go_ret
  exact ⟨rfl, HB13.out.alloc hs13 _⟩

end Go.Proofs.Ytogmdaopfnmobaa

