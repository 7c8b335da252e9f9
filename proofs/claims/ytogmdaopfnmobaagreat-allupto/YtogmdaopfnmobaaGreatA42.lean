/- The source of a proof: a map from parts to nodes. -/
import Derived.Maps.OwnOps
import Derived.Maps.OwnIn
import Derived.DeepKeys4
import Derived.Test.YtogmdaopfnmobaaGreatA32
import Derived.Test.YtogmdaopfnmobaaGreatA35
import Derived.Test.YtogmdaopfnmobaaGreatA37
import Derived.Test.YtogmdaopfnmobaaGreatA15
namespace Go.Proofs.YtogmdaopfnmobaaGreat
open Go.RowKit Go.Maps Go.WideMaps
theorem laid_out' : laidOutB Tryz.prog = true := by kernel_rfl
theorem part_row : (95 : TypeId) < Tryz.prog.types.size := of_decide_eq_true (by kernel_rfl)
theorem part_wide : (match Tryz.prog.underlying 95 with | some (.array _ _) | some (.struct _) => true | _ => false) = true := by rw [Tryz.underlying95]
set_option maxRecDepth 100000 in
theorem part_law : KeyLaw Tryz.prog 95 := deep_law_laid laid_out' (m := 2) (by omega) part_row (by kernel_rfl) part_wide
set_option maxRecDepth 100000 in
theorem part_keyed : Keyed Tryz.prog 95 := Keyed.of_law part_law
theorem cells_part : Tryz.prog.cellsOf 95 = 2 := by kernel_rfl
theorem cells_int : Tryz.prog.cellsOf 3 = 1 := by kernel_rfl
theorem part_keyType : Tryz.prog.keyType 95 = true := by kernel_rfl
set_option maxRecDepth 100000 in
theorem part_some (a b : Nat) (ha : a ≤ 1000000) (hb : b ≤ 1000000) : ∃ l, keyOf Tryz.prog 95 (paV a b) = some l := by
  have hf : (paV a b).formed Tryz.prog 95 = true := by simp [paV, Value.formed, Tryz.underlying95, cells_part]
  obtain ⟨k, hk⟩ : ∃ k, Tryz.prog.types.size = k + 1 := ⟨Tryz.prog.types.size - 1, (Nat.succ_pred_eq_of_pos (Nat.lt_of_le_of_lt (Nat.zero_le _) part_row)).symm⟩
  have wa : (Lit.int .i64 (a : Int)).wf = true := WalkArith.wf_i64 (by omega)
  have wb : (Lit.int .i64 (b : Int)).wf = true := WalkArith.wf_i64 (by omega)
  have hl : ∃ ls, Tryz.prog.keyLits (Tryz.prog.types.size + 1) 95 (paV a b).cells.toList = some ls := by
    rw [hk]
    refine ⟨[.int .i64 a, .int .i64 b], ?_⟩
    simp [Program.keyLits, Tryz.underlying95, Tryz.underlying3, cells_part, cells_int, paV, Value.cells, wa, wb]
  obtain ⟨ls, hls⟩ := hl
  refine ⟨.string (keyBytes ls), ?_⟩
  unfold keyOf
  rw [Tryz.underlying95]
  simp only [part_keyType, hf, Bool.and_self, if_true, hls, Option.map_some]
noncomputable def pKey (a b : Nat) : Lit := (keyOf Tryz.prog 95 (paV a b)).getD .nil
theorem pKey_eq (a b : Nat) (ha : a ≤ 1000000) (hb : b ≤ 1000000) : keyOf Tryz.prog 95 (paV a b) = some (pKey a b) := by
  obtain ⟨l, hl⟩ := part_some a b ha hb
  rw [pKey, hl]; rfl
set_option maxRecDepth 100000 in
theorem pKey_inj {a b c d : Nat} (ha : a ≤ 1000000) (hb : b ≤ 1000000) (hc : c ≤ 1000000) (hd : d ≤ 1000000) (h : pKey a b = pKey c d) : a = c ∧ b = d := by
  have := part_keyed.inj (pKey_eq a b ha hb) (by rw [h]; exact pKey_eq c d hc hd)
  simp [paV] at this
  omega
set_option maxRecDepth 100000 in
theorem pKey_lit (a b : Nat) (ha : a ≤ 1000000) (hb : b ≤ 1000000) : WideAt.IsKeyLit (pKey a b) := part_keyed.key (pKey_eq a b ha hb)
theorem ndV_inj {d e : Nd} (h : ndV d = ndV e) : d = e := by
  obtain ⟨c, s, m, x, p, q⟩ := d
  obtain ⟨c', s', m', x', p', q'⟩ := e
  simp only [ndV, Value.agg.injEq] at h
  simp at h
  obtain ⟨rfl, rfl, rfl, rfl, h5, h6⟩ := h
  have : p = p' := UInt8.toNat_inj.1 (by omega)
  have : q = q' := UInt8.toNat_inj.1 (by omega)
  subst_vars
  rfl
open Classical in
noncomputable def ndR (v : Value) : Option (DataW Nd × List MemPlace) := if h : ∃ d, v = ndV d then some (.held h.choose, []) else none
theorem ndR_eq (d : Nd) : ndR (ndV d) = some (.held d, []) := by
  have h : ∃ e, ndV d = ndV e := ⟨d, rfl⟩
  unfold ndR
  rw [dif_pos h]
  rw [← ndV_inj h.choose_spec]
theorem ndR_inv {v : Value} {x : DataW Nd} {ps : List MemPlace} (h : ndR v = some (x, ps)) : ∃ d, v = ndV d ∧ x = .held d := by
  unfold ndR at h
  split at h
  · rename_i hx
    simp at h
    exact ⟨hx.choose, hx.choose_spec, h.1.symm⟩
  · cases h
def gL : List (Sp × Nd) → Nat → Nat → Option Nd
  | [], _, _ => none
  | q :: qs, a, b => match gL qs a b with | some d => some d | none => if q.1.a = a ∧ q.1.b = b then some q.2 else none
theorem gL_append (l r : List (Sp × Nd)) (a b : Nat) : gL (l ++ r) a b = match gL r a b with | some d => some d | none => gL l a b := by
  induction l with
  | nil => simp [gL]; cases gL r a b <;> rfl
  | cons q l ih =>
    simp only [List.cons_append, gL, ih]
    cases gL r a b <;> rfl
theorem gL_snoc (l : List (Sp × Nd)) (p : Sp) (d : Nd) (a b : Nat) : gL (l ++ [(p, d)]) a b = if p.a = a ∧ p.b = b then some d else gL l a b := by
  rw [gL_append]
  simp only [gL]
  by_cases h : p.a = a ∧ p.b = b <;> simp [h]
structure PrfD (D : DataW Nd) (g : Nat → Nat → Option Nd) : Prop where
  has : ∀ a b, a ≤ 64 → b ≤ 64 → Maps.has D (pKey a b) = (g a b).isSome
  at' : ∀ a b d, a ≤ 64 → b ≤ 64 → g a b = some d → ∀ z, D.atKey (pKey a b) z = .held d
  is : IsMap D
set_option maxRecDepth 100000 in
theorem PrfD.put {D : DataW Nd} {qs : List (Sp × Nd)} (h : PrfD D (gL qs)) (p : Sp) (d : Nd) (ha : p.a ≤ 64) (hb : p.b ≤ 64) : PrfD (D.put (pKey p.a p.b) (.held d)) (gL (qs ++ [(p, d)])) := by
  have hl := pKey_lit p.a p.b (by omega) (by omega)
  refine ⟨fun a b h1 h2 => ?_, fun a b e h1 h2 he z => ?_, h.is.put _ _⟩
  · rw [gL_snoc]
    by_cases c : p.a = a ∧ p.b = b
    · rw [if_pos c, ← c.1, ← c.2]; exact has_put_same h.is hl _
    · rw [if_neg c, has_put_other (fun e => c (by have := pKey_inj (by omega) (by omega) (by omega) (by omega) e; omega))]; exact h.has a b h1 h2
  · rw [gL_snoc] at he
    by_cases c : p.a = a ∧ p.b = b
    · rw [if_pos c] at he; cases he; rw [← c.1, ← c.2]; exact atKey_put_same h.is hl _ _
    · rw [if_neg c] at he; rw [atKey_put_other (fun e => c (by have := pKey_inj (by omega) (by omega) (by omega) (by omega) e; omega))]; exact h.at' a b e h1 h2 he z
theorem prf_empty : PrfD (.map []) (gL []) := ⟨fun _ _ _ _ => rfl, fun _ _ _ _ _ h => by simp [gL] at h, isMap_empty⟩
theorem zero_node (w : World) : (zeroValue 51).run Tryz.prog w = .ok (ndV nd0) w := by kernel_rfl
def pfK (B M : Nat) (g : Nat → Nat → Option Nd) (w : World) : Prop := Boxed w B 183 (.map (some M)) ∧ ∃ n D, w.ownsMap Tryz.prog 95 ndR M n D ∧ PrfD D g
set_option maxHeartbeats 2000000 in
set_option maxRecDepth 100000 in
theorem ofProof1_any (B M : Nat) (g : Nat → Nat → Option Nd) (a b : Nat) (w : World) (hK : pfK B M g w) (ha : a ≤ 64) (hb : b ≤ 64) :
    Calls Tryz.prog 118 #[paV a b, .pointer (some ⟨B, 0, none⟩)] w fun e w' => e = .returned (.tuple #[ndV ((g a b).getD nd0), .bool (g a b).isSome]) ∧ Below w.heap.size w w' := by
  obtain ⟨hbx, n, D, hown, hD⟩ := hK
  have hth := hD.has a b ha hb
  have hat : ∀ v ps, ndR v = some (D.atKey (pKey a b) (.held nd0), ps) → v = ndV ((g a b).getD nd0) := fun v ps hv => by
    obtain ⟨d, rfl, e⟩ := ndR_inv hv
    cases hg : g a b with
    | some u =>
      rw [hD.at' a b u ha hb hg] at e
      cases e; rfl
    | none =>
      rw [atKey_of_not_has (by rw [hth, hg]; rfl)] at e
      cases e; rfl
  have HAT := hid hat
  have hkey := pKey_eq a b (by omega) (by omega)
  have hcb := hbx.cell
  have hlt := hbx.lt
  have o1 := hown.alloc (.cells #[.int .i64 a, .int .i64 b] 95)
  have o2 := o1.alloc (.cells #[.int .i64 0, .int .i64 0, .int .i64 0, .int .i64 0, .int .u8 0, .int .u8 0] 51)
  have c2 := cell_old (.cells #[.int .i64 0, .int .i64 0, .int .i64 0, .int .i64 0, .int .u8 0, .int .u8 0] 51) (cell_old (.cells #[.int .i64 a, .int .i64 b] 95) hcb)
  clear hown hD hbx hat o1 hcb
  generalize (g a b).getD nd0 = d at HAT ⊢
  generalize (g a b).isSome = t at hth ⊢
  have hzr := ndR_eq nd0
  unfold paV at hkey ⊢
  go_enter Tryz.func118, Tryz.ntmps118
  go_wp2_with (at_lookup; refine wpList_lookup_own_ok _ rfl _ _ 183 rfl 95 51 part_keyed Tryz.underlying183 ndR (zero_node _) (.held nd0) [] hzr M n D rfl o2 _ _ rfl hkey ?_; intro v ps hv; rw [hth]; obtain rfl := HAT.out v ps hv; clear hv; unfold ndV)
  refine ret_nodeB Tryz.results118 ((Six.at (w.alloc _) (w.heap.size + 1) (by simp) _ _ _ _ _ _).alloc _) rfl rfl ⟨rfl, ?_⟩
  exact (((Below.refl _ _).alloc (Nat.le_refl _) _).alloc (by simp) _).alloc (by simp; omega) _
theorem ownsMapN_below {w w' : World} {k : TypeId} {R : Value → Option (DataW Nd × List MemPlace)} {b n : Nat} {D : DataW Nd} (h : w.ownsMap Tryz.prog k R b n D) (hb : Below w.heap.size w w') : w'.ownsMap Tryz.prog k R b n D :=
  h.kept (row := none) ⟨hb.os, hb.tape, hb.output, hb.size, fun k hk _ => hb.block k hk⟩ (by simp)
theorem pfK.later {B M : Nat} {g : Nat → Nat → Option Nd} {w w' : World} (h : pfK B M g w) (hb : Below w.heap.size w w') : pfK B M g w' := by
  obtain ⟨h1, n, D, h2, h3⟩ := h
  exact ⟨(hb.block B h1.lt).trans h1, n, D, ownsMapN_below h2 hb, h3⟩
theorem prf_src (B M N : Nat) (g : Nat → Nat → Option Nd) (hN : N ≤ 64) : Src 118 B (pfK B M g) N g where
  enters := enters_of Tryz.func118 (by kernel_rfl) rfl
  keep _ _ h hb := h.later hb
  call a b w h hab hb := ofProof1_any B M g a b w h (by omega) (by omega)
end Go.Proofs.YtogmdaopfnmobaaGreat

/- What a proof's nodes come to, as mathematics: worked out by parts, and as the program asks for it. -/
namespace Go.Proofs.YtogmdaopfnmobaaGreat
open Go.RowKit
def cm (a b f t : Nat) (ns : List Nd) : Nd :=
  if isOut a b f t = true ∨ isIn a b f t = true ∨ b < a + 2 then ns.headD .E else ab (cm a (a + hf (b - a)) f t ns) (cm (a + hf (b - a)) b f t (ns.drop (cov a (a + hf (b - a)) f t).length))
termination_by b - a
decreasing_by
  · have := hf_lt (b - a) (by omega); omega
  · have := hf_pos (b - a); omega
theorem cm_one {a b f t : Nat} (ns : List Nd) (h : isOut a b f t = true ∨ isIn a b f t = true ∨ b < a + 2) : cm a b f t ns = ns.headD .E := by rw [cm, if_pos h]
theorem cm_two {a b f t : Nat} (ns : List Nd) (h : ¬ (isOut a b f t = true ∨ isIn a b f t = true ∨ b < a + 2)) : cm a b f t ns = ab (cm a (a + hf (b - a)) f t ns) (cm (a + hf (b - a)) b f t (ns.drop (cov a (a + hf (b - a)) f t).length)) := by rw [cm, if_neg h]
theorem cov_1 {a b f t : Nat} (h : isOut a b f t = true ∨ isIn a b f t = true ∨ b < a + 2) : cov a b f t = [⟨a, b, isIn a b f t⟩] := by rw [cov, if_pos h]
theorem cov_2 {a b f t : Nat} (h : ¬ (isOut a b f t = true ∨ isIn a b f t = true ∨ b < a + 2)) : cov a b f t = cov a (a + hf (b - a)) f t ++ cov (a + hf (b - a)) b f t := by rw [cov, if_neg h]
def nb (n : Nat) (d : Nd) : Prop := (0 ≤ d.c ∧ d.c ≤ 34359738367 * n) ∧ (0 ≤ d.s ∧ d.s ≤ 34359738367 * n) ∧ (0 ≤ d.m ∧ d.m ≤ 34359738367) ∧ (0 ≤ d.x ∧ d.x ≤ 34359738367)
theorem nb_ok {d : Nd} (h : d.ok = true) : nb 1 d := by
  have := (Nd.ok_iff d).1 h
  simp only [isNum_iff] at this
  unfold nb; omega
theorem nb_E : nb 1 .E := nb_ok rfl
theorem nb_ab {n m : Nat} {x y : Nd} (hx : nb n x) (hy : nb m y) : nb (n + m) (ab x y) := by
  have e1 : (ab x y).c = x.c + y.c := congrArg Fo.c (ab_fold x y)
  have e2 : (ab x y).s = x.s + y.s := congrArg Fo.s (ab_fold x y)
  have e3 : (ab x y).m = if x.c = 0 then y.m else if y.c = 0 then x.m else min x.m y.m := congrArg Fo.m (ab_fold x y)
  have e4 : (ab x y).x = if x.c = 0 then y.x else if y.c = 0 then x.x else max x.x y.x := congrArg Fo.x (ab_fold x y)
  unfold nb at hx hy ⊢
  rw [e1, e2, e3, e4]
  refine ⟨by omega, by omega, ?_, ?_⟩
  · by_cases h1 : x.c = 0
    · rw [if_pos h1]; exact hy.2.2.1
    · rw [if_neg h1]
      by_cases h2 : y.c = 0
      · rw [if_pos h2]; exact hx.2.2.1
      · rw [if_neg h2]; omega
  · by_cases h1 : x.c = 0
    · rw [if_pos h1]; exact hy.2.2.2
    · rw [if_neg h1]
      by_cases h2 : y.c = 0
      · rw [if_pos h2]; exact hx.2.2.2
      · rw [if_neg h2]; omega
theorem ok_nb {n : Nat} {d : Nd} (h : nb n d) : d.ok = true ↔ d.c ≤ 34359738367 ∧ d.s ≤ 34359738367 := by
  rw [Nd.ok_iff]
  simp only [isNum_iff]
  unfold nb at h
  omega
theorem mid_nb {n : Nat} {d : Nd} (h : nb n d) (hn : n ≤ 64) : d.mid := by
  unfold nb at h
  unfold Nd.mid
  omega
theorem ab_c (x y : Nd) : (ab x y).c = x.c + y.c := by have := congrArg Fo.c (ab_fold x y); exact this
theorem ab_s (x y : Nd) : (ab x y).s = x.s + y.s := by have := congrArg Fo.s (ab_fold x y); exact this
theorem cm_nb (f t : Nat) : ∀ (n a b : Nat) (ns : List Nd), b - a ≤ n → (∀ d ∈ ns, d.ok = true) → nb (cov a b f t).length (cm a b f t ns) := by
  intro n
  induction n with
  | zero =>
    intro a b ns h hok
    rw [cm_one ns (.inr (.inr (by omega))), cov_1 (.inr (.inr (by omega)))]
    cases ns with
    | nil => exact nb_E
    | cons d r => exact nb_ok (hok d (by simp))
  | succ n ih =>
    intro a b ns h hok
    by_cases hs : isOut a b f t = true ∨ isIn a b f t = true ∨ b < a + 2
    · rw [cm_one ns hs, cov_1 hs]
      cases ns with
      | nil => exact nb_E
      | cons d r => exact nb_ok (hok d (by simp))
    · have p := hf_pos (b - a)
      have q := hf_lt (b - a) (by omega)
      rw [cm_two ns hs, cov_2 hs, List.length_append]
      exact nb_ab (ih a _ ns (by omega) hok) (ih _ b _ (by omega) (fun d hd => hok d (List.mem_of_mem_drop hd)))
theorem gL_none {qs : List (Sp × Nd)} {a b : Nat} (h : ∀ q ∈ qs, ¬ (q.1.a = a ∧ q.1.b = b)) : gL qs a b = none := by
  induction qs with
  | nil => rfl
  | cons q qs ih =>
    simp only [gL, ih (fun x hx => h x (by simp [hx])), if_neg (h q (by simp))]
theorem comes_cm (f t : Nat) : ∀ (n a b : Nat) (ns : List Nd) (pre post : List (Sp × Nd)), b - a ≤ n → a ≤ b → b ≤ 64 → (cov a b f t).length ≤ ns.length → (∀ d ∈ ns, d.ok = true) → (a = b → pre = [] ∧ post = []) → (∀ q ∈ pre, q.1.b ≤ a) → (∀ q ∈ post, b ≤ q.1.a) →
    Comes (gL (pre ++ (cov a b f t).zip ns ++ post)) a b (cm a b f t ns) := by
  intro n
  induction n with
  | zero =>
    intro a b ns pre post h hab hb hl hok h0 hp hq
    obtain ⟨rfl, rfl⟩ := h0 (by omega)
    rw [cm_one ns (.inr (.inr (by omega)))]
    rw [cov_1 (.inr (.inr (by omega)))] at hl ⊢
    cases ns with
    | nil => simp at hl
    | cons d r => exact .known (by simp [gL])
  | succ n ih =>
    intro a b ns pre post h hab hb hl hok h0 hp hq
    by_cases hs : isOut a b f t = true ∨ isIn a b f t = true ∨ b < a + 2
    · rw [cm_one ns hs]
      rw [cov_1 hs] at hl ⊢
      cases ns with
      | nil => simp at hl
      | cons d r =>
        refine .known ?_
        by_cases e : a = b
        · obtain ⟨rfl, rfl⟩ := h0 e
          simp [gL]
        · have hz : gL post a b = none := gL_none (fun q hq' c => by have := hq q hq'; omega)
          rw [gL_append, hz, gL_append]
          simp [gL]
    · have p := hf_pos (b - a)
      have q := hf_lt (b - a) (by omega)
      have hlm := cov_mem f t n a (a + hf (b - a)) (by omega) (by omega)
      have hrm := cov_mem f t n (a + hf (b - a)) b (by omega) (by omega)
      rw [cov_2 hs, List.length_append] at hl
      have hz : (cov a b f t).zip ns = (cov a (a + hf (b - a)) f t).zip (ns.take (cov a (a + hf (b - a)) f t).length) ++ (cov (a + hf (b - a)) b f t).zip (ns.drop (cov a (a + hf (b - a)) f t).length) := by
        rw [cov_2 hs]
        conv => lhs; rw [← List.take_append_drop (cov a (a + hf (b - a)) f t).length ns]
        rw [List.zip_append (by simp; omega)]
      have hzt : (cov a (a + hf (b - a)) f t).zip (ns.take (cov a (a + hf (b - a)) f t).length) = (cov a (a + hf (b - a)) f t).zip ns := by
        have := List.zip_append (l₁ := cov a (a + hf (b - a)) f t) (r₁ := []) (l₂ := ns.take (cov a (a + hf (b - a)) f t).length) (r₂ := ns.drop (cov a (a + hf (b - a)) f t).length) (by simp; omega)
        simp only [List.append_nil, List.take_append_drop, List.zip_nil_left] at this
        exact this.symm
      rw [cm_two ns hs, hz, hzt]
      have key : ∀ qq ∈ pre ++ ((cov a (a + hf (b - a)) f t).zip ns ++ (cov (a + hf (b - a)) b f t).zip (ns.drop (cov a (a + hf (b - a)) f t).length)) ++ post, ¬ (qq.1.a = a ∧ qq.1.b = b) := by
        intro qq hqq c
        simp only [List.mem_append] at hqq
        rcases hqq with (h1 | h1 | h1) | h1
        · have := hp qq h1; omega
        · have := hlm qq.1 (List.of_mem_zip h1).1; omega
        · have := hrm qq.1 (List.of_mem_zip h1).1; omega
        · have := hq qq h1; omega
      refine .above (gL_none key) (by omega) ?_ ?_ (mid_nb (cm_nb f t n a _ ns (by omega) hok) ?_) (mid_nb (cm_nb f t n _ b _ (by omega) (fun d hd => hok d (List.mem_of_mem_drop hd))) ?_)
      · have := ih a (a + hf (b - a)) ns pre ((cov (a + hf (b - a)) b f t).zip (ns.drop (cov a (a + hf (b - a)) f t).length) ++ post) (by omega) (by omega) (by omega) (by omega) hok (fun e => by omega) hp (fun qq h1 => by
          rcases List.mem_append.1 h1 with h1 | h1
          · exact (hrm qq.1 (List.of_mem_zip h1).1).1
          · have := hq qq h1; omega)
        simpa [List.append_assoc] using this
      · have := ih (a + hf (b - a)) b (ns.drop (cov a (a + hf (b - a)) f t).length) (pre ++ (cov a (a + hf (b - a)) f t).zip ns) post (by omega) (by omega) hb (by simp; omega) (fun d hd => hok d (List.mem_of_mem_drop hd)) (fun e => by omega) (fun qq h1 => by
          rcases List.mem_append.1 h1 with h1 | h1
          · have := hp qq h1; omega
          · exact (hlm qq.1 (List.of_mem_zip h1).1).2.2.1) hq
        simpa [List.append_assoc] using this
      · have := (cov_len f t (hf (b - a)) a (a + hf (b - a)) (by omega)).2; omega
      · have := (cov_len f t (b - (a + hf (b - a))) (a + hf (b - a)) b (by omega)).2; omega
end Go.Proofs.YtogmdaopfnmobaaGreat

/- The source of a proof: OfProof. -/
namespace Go.Proofs.YtogmdaopfnmobaaGreat
open Go.RowKit Go.Maps Go.Shelf
attribute [local go_sem] Oper.semAt_some
theorem nodes_tl {w : World} {B b off n cap cap' off' : Nat} {d : Nd} {r : List Nd} (h : Nodes w B (.slice (some ⟨b, off, none⟩) n cap) (d :: r)) (ho : r = [] ∨ off' = off + 6) : Nodes w B (.slice (some ⟨b, off', none⟩) r.length cap') r := by
  obtain ⟨ao, cp, hv, hl, hc⟩ := h.ex
  refine ⟨_, cap', rfl, by simp at hl; omega, fun i hi => ?_⟩
  obtain ⟨b', o', e1, hb, hcs⟩ := hc (i + 1) (by simp; omega)
  simp only [Value.slice.injEq] at hv
  rw [← hv.1] at e1
  simp at e1
  obtain ⟨rfl, rfl⟩ := e1
  rcases ho with rfl | rfl
  · simp at hi
  · refine ⟨b, off + 6, rfl, hb, fun j hj => ?_⟩
    have := hcs j hj
    simp only [List.getElem_cons_succ] at this
    rw [← this]
    congr 2
    omega
theorem nodes_hd {w : World} {B n cap : Nat} {ao : Option Addr} {d : Nd} {r : List Nd} (h : Nodes w B (.slice ao n cap) (d :: r)) : ∃ b off, ao = some ⟨b, off, none⟩ ∧ b < B ∧ (w.cell? ⟨b, off, none⟩ = some (.int .i64 d.c) ∧ w.cell? ⟨b, off + 1, none⟩ = some (.int .i64 d.s) ∧ w.cell? ⟨b, off + 2, none⟩ = some (.int .i64 d.m) ∧ w.cell? ⟨b, off + 3, none⟩ = some (.int .i64 d.x) ∧ w.cell? ⟨b, off + 4, none⟩ = some (.int .u8 (d.h.toNat : Int)) ∧ w.cell? ⟨b, off + 5, none⟩ = some (.int .u8 (d.g.toNat : Int))) := by
  obtain ⟨ao', cp, hv, hl, hc⟩ := h.ex
  obtain ⟨b, off, e1, hb, hcs⟩ := hc 0 (by simp)
  simp only [Value.slice.injEq] at hv
  rw [← hv.1] at e1
  refine ⟨b, off, e1, hb, ?_, ?_, ?_, ?_, ?_, ?_⟩
  · simpa [Nd.cells] using hcs 0 (by omega)
  · simpa [Nd.cells] using hcs 1 (by omega)
  · simpa [Nd.cells] using hcs 2 (by omega)
  · simpa [Nd.cells] using hcs 3 (by omega)
  · simpa [Nd.cells] using hcs 4 (by omega)
  · simpa [Nd.cells] using hcs 5 (by omega)
structure OfI (w : World) (s : Nat) (ns : List Nd) (l : List Sp) (W : World) : Prop where
  len : l.length ≤ ns.length
  nds : ∃ ao cap, Boxed W (s + 1) 72 (.slice ao (ns.drop l.length).length cap) ∧ (ns.drop l.length).length ≤ cap ∧ cap ≤ 9223372036854775807 ∧ Nodes w s (.slice ao (ns.drop l.length).length cap) (ns.drop l.length)
  rf : Boxed W (s + 2) 88 .nilFunc
  rb : Boxed W (s + 3) 4 (.bool false)
  map : ∃ D, W.ownsMap Tryz.prog 95 ndR (s + 4) l.length D ∧ PrfD D (gL (l.zip ns))
  mb : Boxed W (s + 5) 183 (.map (some (s + 4)))
  below : Below s w W
  big : s + 8 ≤ W.heap.size
theorem ofI_own (w : World) (ns : List Nd) (B' : Nat) (hB : w.heap.size + 8 ≤ B') {α : Type} (g : α → List Sp) : OwnFrom B' (fun (ys : α) W => OfI w w.heap.size ns (g ys) W) := fun s X Y row h hg hr => by
  obtain ⟨ao, cap, n1, n2⟩ := h.nds
  obtain ⟨D, m1, m2⟩ := h.map
  exact ⟨h.len, ⟨ao, cap, cells_kept n1 hg hr, n2⟩, cells_kept h.rf hg hr, cells_kept h.rb hg hr, ⟨D, m1.kept hg (fun e => by have := (hr _ e.symm).1; omega), m2⟩, cells_kept h.mb hg hr, ownFrom_below (w₀ := w) (Nat.le_refl _) (Nat.le_trans (by omega) hB) () X Y row h.below hg hr, Nat.le_trans h.big hg.size⟩
theorem OfI.later {w : World} {s : Nat} {ns : List Nd} {l : List Sp} {W W' : World} (h : OfI w s ns l W) (hs : s ≤ W.heap.size) (hb : Below W.heap.size W W') : OfI w s ns l W' := by
  obtain ⟨ao, cap, n1, n2⟩ := h.nds
  obtain ⟨D, m1, m2⟩ := h.map
  exact ⟨h.len, ⟨ao, cap, (hb.block _ n1.lt).trans n1, n2⟩, (hb.block _ h.rf.lt).trans h.rf, (hb.block _ h.rb.lt).trans h.rb, ⟨D, ownsMapN_below m1 hb, m2⟩, (hb.block _ h.mb.lt).trans h.mb, h.below.trans (hb.mono hs), Nat.le_trans h.big hb.size⟩
structure OfX (w : World) (s : Nat) (ns : List Nd) (c : Code) (l : List Sp) (W : World) : Prop where
  ret : c = .ret
  len : l.length = ns.length + 1
  rf : Boxed W (s + 2) 88 .nilFunc
  rb : Boxed W (s + 3) 4 (.bool false)
  below : Below s w W
theorem ofX_own (w : World) (ns : List Nd) (c : Code) (B' : Nat) (hB : w.heap.size ≤ B') {α : Type} (g : α → List Sp) : OwnFrom B' (fun (ys : α) W => OfX w w.heap.size ns c (g ys) W) := fun _ X Y row h hg hr =>
  ⟨h.ret, h.len, cells_kept h.rf hg hr, cells_kept h.rb hg hr, ownFrom_below (w₀ := w) (Nat.le_refl _) hB () X Y row h.below hg hr⟩
theorem OfI.take {w : World} {s : Nat} {ns : List Nd} {l : List Sp} {W w1 : World} {p : Sp} {d : Nd} {r : List Nd} {v' : Value} {D : DataW Nd} {ao : Option Addr} {cap : Nat} (h : OfI w s ns l W) (hdr : ns.drop l.length = d :: r) (hp : p.a ≤ 64 ∧ p.b ≤ 64) (hD : PrfD D (gL (l.zip ns)))
    (hown : w1.ownsMap Tryz.prog 95 ndR (s + 4) (l.length + 1) (D.put (pKey p.a p.b) (.held d))) (hg : W.drew.grownBy w1 (some (s + 4))) (hv : v' = .slice ao r.length cap) (hc1 : r.length ≤ cap) (hc2 : cap ≤ 9223372036854775807) (hN : Nodes w s v' r) :
    OfI w s ns (l ++ [p]) (w1.setCell ⟨s + 1, 0, none⟩ v') ∧ KeepsT 95 W (w1.setCell ⟨s + 1, 0, none⟩ v') ∧ ∀ B, s + 4 < B → KeepsFrom B W (w1.setCell ⟨s + 1, 0, none⟩ v') := by
  obtain ⟨ao0, cap0, n1, n2⟩ := h.nds
  have hlen : l.length < ns.length := by
    have := congrArg List.length hdr
    simp at this
    omega
  have hdr2 : ns.drop (l ++ [p]).length = r := by
    rw [List.length_append, List.length_singleton, ← List.drop_drop, hdr]; rfl
  have hget : ns[l.length] = d := by
    have : (ns.drop l.length)[0]? = some d := by rw [hdr]; rfl
    rw [List.getElem?_drop, Nat.add_zero, List.getElem?_eq_getElem hlen] at this
    simpa using this
  have hz : (l ++ [p]).zip ns = l.zip ns ++ [(p, d)] := by
    have e : ns = ns.take l.length ++ (d :: r) := by rw [← hdr, List.take_append_drop]
    have hl : l.length = (ns.take l.length).length := by simp; omega
    have e1 : l.zip ns = l.zip (ns.take l.length) := by
      conv => lhs; rw [e]
      have := List.zip_append (l₁ := l) (r₁ := []) (r₂ := d :: r) hl
      simpa using this
    rw [e1]
    conv => lhs; rw [e]
    rw [List.zip_append hl]
    simp
  have blk : ∀ {cs : Array Value} {t : TypeId} {k : Nat} {fr : Nat × Nat}, W.heap[k]? = some (.cells cs t fr) → k ≠ s + 1 → (w1.setCell ⟨s + 1, 0, none⟩ v').heap[k]? = some (.cells cs t fr) := fun h0 hne => by
    refine (Below.heap_setCell _ _ _ _ hne).trans ((hg.block _ (Array.getElem?_eq_some_iff.1 h0).1 (fun e => ?_)).trans h0)
    obtain ⟨D', ⟨es, cl, hm, _⟩, _⟩ := h.map
    cases e
    rw [hm] at h0; cases h0
  have hbox : w1.heap[s + 1]? = W.heap[s + 1]? := hg.block _ n1.lt (by simp)
  refine ⟨⟨by simp; omega, ⟨ao, cap, ?_, ?_, hc2, ?_⟩, blk h.rf (by omega), blk h.rb (by omega), ⟨_, ?_, by rw [hz]; exact hD.put p d hp.1 hp.2⟩, blk h.mb (by omega), ?_, ?_⟩, ⟨?_, fun k cs fr h0 => ?_⟩, fun B hB => ?_⟩
  · rw [hdr2, ← hv]
    exact Boxed.set v' (show Boxed w1 (s + 1) _ _ from hbox.trans n1)
  · rw [hdr2]; exact hc1
  · rw [hdr2, ← hv]; exact hN
  · rw [List.length_append, List.length_singleton]
    exact hown.kept (grownBy_setCell' w1 (s + 1) v') (by simp)
  · exact (h.below.drew.grown hg (by show s ≤ W.heap.size; have := h.big; omega) (fun k e => by cases e; omega)).setCell (p := ⟨s + 1, 0, none⟩) (by show s ≤ s + 1; omega) _
  · have := hg.size; have := h.big; simp at *; omega
  · have := hg.size; simp at *; omega
  · refine blk h0 (fun e => ?_)
    subst e
    rw [show W.heap[s + 1]? = _ from n1] at h0
    simp at h0
  · have k := ((KeepsFrom.of_grownBy hg (fun j e => by cases e; exact hB)) : KeepsFrom B W.drew w1).trans ((KeepsOthers.setCell w1 ⟨s + 1, 0, none⟩ v').from _)
    exact ⟨k.size, k.same⟩
end Go.Proofs.YtogmdaopfnmobaaGreat

/- The source of a proof: the walk of OfProof. -/
namespace Go.Proofs.YtogmdaopfnmobaaGreat
open Go.RowKit Go.Maps Go.Shelf
attribute [local go_sem] Oper.semAt_some
def ofPost (ns : List Nd) (L : List Sp) (w : World) (e : Ending) (w' : World) : Prop :=
  if ns.length = L.length then ∃ B M, e = .returned (.tuple #[cloV 118 B, .bool true]) ∧ pfK B M (gL (L.zip ns)) w' ∧ Below w.heap.size w w' else e = .returned (.tuple #[.nilFunc, .bool false]) ∧ Below w.heap.size w w'
set_option maxRecDepth 100000 in
set_option maxHeartbeats 4000000 in
theorem ofProof_any (N f t : Nat) (ao : Option Addr) (cap : Nat) (ns : List Nd) (hN : N ≤ 64) (ht : t ≤ N) (w : World) (hc1 : ns.length ≤ cap) (hc2 : cap ≤ 9223372036854775807) (hn : Nodes w w.heap.size (.slice ao ns.length cap) ns) :
    Calls Tryz.prog 74 #[.int .i64 N, paV f t, .slice ao ns.length cap] w (ofPost ns (cov 0 N f t) w) := by
  refine (callsIn_wide (n := 5)).1 ?_
  have hfn : ∀ k, Fence.wide.fn k := fun _ => trivial
  have hdp : Fence.wide.depth.isSome = false := rfl
  have hmm := @run_makeMap Tryz.prog
  have HC : ∀ w', Hid (Calls Tryz.prog 106 #[.int .i64 N, paV f t] w' _) := fun w' => hid (cover_any N f t w')
  unfold paV at HC ⊢
  refine callsIn_of_wp_marks Tryz.func74 rfl trivial ?_ rfl
  simp only [Tryz.ntmps74, List.size_toArray, List.length_cons, List.length_nil, Nat.reduceAdd, Nat.reduceSub, Array.replicate_succ, Array.replicate_zero, List.push_toArray, List.append_toArray, List.nil_append, List.cons_append]
  gi_wp2
  refine (callsIn_wide.2 (HC _).out).mono ?_
  rintro e w' ⟨rfl, hw'⟩
  gi_wp2
  obtain ⟨W0, hW0⟩ : ∃ W0, W0 = (((((((w.alloc (.cells #[.int .i64 f, .int .i64 t] 95)).alloc (.cells #[.slice ao ns.length cap] 72)).alloc (.cells #[.nilFunc] 88)).alloc (.cells #[.bool false] 4)).alloc (.map #[] 0)).alloc (.cells #[.map (some (w.heap.size + 1 + 1 + 1 + 1))] 183)).alloc (.cells #[.int .i64 N] 3)).alloc (.cells #[.int .i64 f, .int .i64 t] 95) := ⟨_, rfl⟩
  have hsz : W0.heap.size = w.heap.size + 8 := by rw [hW0]; simp
  have hb0 : Below w.heap.size w W0 := by rw [hW0]; exact (((((((((Below.refl _ w).alloc (Nat.le_refl _) _).alloc (by simp) _).alloc (by simp; omega) _).alloc (by simp; omega) _).alloc (by simp; omega) _).alloc (by simp; omega) _).alloc (by simp; omega) _).alloc (by simp; omega) _)
  have hI0 : OfI w w.heap.size ns [] W0 := by
    refine ⟨Nat.zero_le _, ⟨ao, cap, ?_, by simpa using hc1, hc2, by simpa using hn⟩, ?_, ?_, ⟨.map [], ?_, prf_empty⟩, ?_, hb0, by omega⟩
    · rw [hW0]; exact ((((((Boxed.new (w.alloc _) 72 _).alloc _).alloc _).alloc _).alloc _).alloc _).alloc _ |> fun h => by simpa using h
    · rw [hW0]; exact (((((Boxed.new ((w.alloc _).alloc _) 88 _).alloc _).alloc _).alloc _).alloc _).alloc _ |> fun h => by simpa using h
    · rw [hW0]; exact ((((Boxed.new (((w.alloc _).alloc _).alloc _) 4 _).alloc _).alloc _).alloc _).alloc _ |> fun h => by simpa using h
    · rw [hW0]; exact (((World.ownsMap_made ((((w.alloc (.cells #[.int .i64 f, .int .i64 t] 95)).alloc (.cells #[.slice ao ns.length cap] 72)).alloc (.cells #[.nilFunc] 88)).alloc (.cells #[.bool false] 4)) Tryz.prog 95 ndR).alloc (.cells #[.map (some (w.heap.size + 1 + 1 + 1 + 1))] 183)).alloc (.cells #[.int .i64 N] 3)).alloc (.cells #[.int .i64 f, .int .i64 t] 95) |> fun h => by simpa using h
    · rw [hW0]; exact ((Boxed.new (((((w.alloc _).alloc _).alloc _).alloc _).alloc _) 183 _).alloc _).alloc _ |> fun h => by simpa using h
  have hcv : SeqStopsK Fence.wide (5 - 1) Tryz.prog 138 #[.pointer (some ⟨w.heap.size + 6, 0, none⟩), .pointer (some ⟨w.heap.size + 7, 0, none⟩)] (fun x : CvP N f t => #[paV x.1.a x.1.b]) (KeepsT 95)
      (fun ys => ys.map (·.1) = cov 0 N f t) (fun pre => pre.map (·.1) <+: cov 0 N f t) (cov 0 N f t).length W0 := by
    refine cover_stops (w.heap.size + 6) N f t _ W0 hN (by omega) (by omega) ?_ ?_
    · rw [hW0]
      have := ((Boxed.new ((((((w.alloc (.cells #[.int .i64 f, .int .i64 t] 95)).alloc (.cells #[.slice ao ns.length cap] 72)).alloc (.cells #[.nilFunc] 88)).alloc (.cells #[.bool false] 4)).alloc (.map #[] 0)).alloc (.cells #[.map (some (w.heap.size + 1 + 1 + 1 + 1))] 183)) 3 (.int .i64 N)).alloc (.cells #[.int .i64 f, .int .i64 t] 95)).cell
      simpa using this
    · rw [hW0]; exact PaAt.at _ _ (by simp) f t
  unfold covV
  rw [← hW0]
  have HWs := hid hsz
  clear hW0 HC hmm hn hb0 hw'
  refine wpIn_rangeFunc_ownH (F := Fence.wide) (n := 5) rfl (by decide) (gf := 138) (lb := #[.pointer (some ⟨w.heap.size + 6, 0, none⟩), .pointer (some ⟨w.heap.size + 7, 0, none⟩)]) rfl trivial (enters_of Tryz.func138 (by kernel_rfl) rfl)
    hcv (fun h k => h.trans k) (fun W l o o' _ hl ho _ => keepsT_b W l o o' hl ho) (Below.refl _ _) (fun _ => rfl)
    (fun ys W => OfI w w.heap.size ns (ys.map (·.1)) W) (fun c ys W => OfX w w.heap.size ns c (ys.map (·.1)) W) (ofI_own w ns _ (by omega) _) (fun c => ofX_own w ns c _ (by omega) _) hI0
    (fun x a' W => ∃ Bx, w.heap.size + 7 < Bx ∧ PaAt W Bx x.1.a x.1.b ∧ a' = { tmps := #[.int .i64 N, .agg #[.int .i64 f, .int .i64 t], .slice ao ns.length cap, undef, .pointer (some ⟨w.heap.size, 0, none⟩), .pointer (some ⟨w.heap.size + 1, 0, none⟩), .pointer (some ⟨w.heap.size + 1 + 1, 0, none⟩), .pointer (some ⟨w.heap.size + 1 + 1 + 1, 0, none⟩), .pointer (some ⟨w.heap.size + 1 + 1 + 1 + 1 + 1, 0, none⟩), .pointer (some ⟨Bx, 0, none⟩), .map (some (w.heap.size + 1 + 1 + 1 + 1)), .int .i64 N, .agg #[.int .i64 f, .int .i64 t], .func (.func 138) #[] #[.pointer (some ⟨w.heap.size + 1 + 1 + 1 + 1 + 1 + 1, 0, none⟩), .pointer (some ⟨w.heap.size + 1 + 1 + 1 + 1 + 1 + 1 + 1, 0, none⟩)], paV x.1.a x.1.b, undef, undef, undef, undef, undef, undef, undef, undef, undef, undef, undef, undef, undef, undef], defers := [] })
    (fun x a' _ X Y row hs hg hr => by obtain ⟨Bx, h1, h2, h3⟩ := hs; exact ⟨Bx, h1, cells_kept h2 hg hr, h3⟩)
    ?assign ?body ?done ?stop
  case assign =>
    rintro l pre x W Kc hi hKc
    unfold paV
    gi_wp2
    exact hKc _ _ ((KeepsOthers.alloc _ _).from _) ((KeepsT.refl _ _).alloc _) (hi.later hi.below.size ((Below.refl _ _).alloc (Nat.le_refl _) _)) ⟨W.heap.size, by have := hi.big; omega, PaAt.at W _ rfl _ _, rfl⟩
  case body =>
    rintro l pre ⟨p, hp⟩ a' W hl ⟨r, hr⟩ hi ⟨Bx, hBx, hpx, rfl⟩ hlt
    have hfl : ∀ k, (Fence.wide.inRound l).fn k := fun _ => trivial
    have hdl : (Fence.wide.inRound l).depth.isSome = false := rfl
    have hpm := cov_mem f t N 0 N (by omega) (by omega) p hp
    have HL : Hid ((pre ++ [⟨p, hp⟩] : List (CvP N f t)).map (·.1) = pre.map (·.1) ++ [p]) := hid (by simp)
    have HLl : Hid ((pre.map (·.1)).length = pre.length) := hid (by simp)
    generalize pre.map (·.1) = L at hi HL HLl
    obtain ⟨ao', cap', n1, n2, n3, n4⟩ := hi.nds
    have nc := n1.cell
    have cp := hpx.cells
    have cm := hi.mb.cell
    dsimp only at cp ⊢
    unfold paV
    cases hdr : ns.drop L.length with
    | nil =>
      rw [hdr] at nc
      have hbig := hi.big
      have crf := hi.rf.cell
      have frf := hi.rf.frozen
      have crb := hi.rb.cell
      have frb := hi.rb.frozen
      simp only [show w.heap.size + 2 = w.heap.size + 1 + 1 from rfl] at crf frf
      simp only [show w.heap.size + 3 = w.heap.size + 1 + 1 + 1 from rfl] at crb frb
      have HI := hid hi
      have HDR := hid hdr
      clear hi hcv hI0 n1 n4 hpx cp cm hr hdr hpm
      gi_wp2
      refine ⟨((KeepsOthers.setCell _ _ _).trans (KeepsOthers.setCell _ _ _)).from _, ?_⟩
      show OfX w w.heap.size ns .ret ((pre ++ [⟨p, hp⟩] : List (CvP N f t)).map (·.1)) _
      rw [HL.out]
      have hi := HI.out
      have hlen := hi.len
      have hd := congrArg List.length HDR.out
      simp at hd
      refine ⟨rfl, by simp; omega, ?_, ?_, ?_⟩
      · exact (hi.rf.set _).other (by omega) _
      · exact (hi.rb.other (show w.heap.size + 3 ≠ w.heap.size + 2 by omega) _).set _
      · exact (hi.below.setCell (p := ⟨w.heap.size + 2, 0, none⟩) (by show w.heap.size ≤ w.heap.size + 2; omega) _).setCell (p := ⟨w.heap.size + 3, 0, none⟩) (by show w.heap.size ≤ w.heap.size + 3; omega) _
    | cons d r' =>
      rw [hdr] at nc n2 n4
      obtain ⟨b, off, rfl, hbB, hcs⟩ := nodes_hd n4
      have hcW : ∀ o v, w.cell? ⟨b, o, none⟩ = some v → W.cell? ⟨b, o, none⟩ = some v := fun o v h => (hi.below.cell (p := ⟨b, o, none⟩) hbB).trans h
      obtain ⟨k0, k1, k2, k3, k4, k5⟩ := hcs
      replace k0 := hcW _ _ k0
      replace k1 := hcW _ _ k1
      replace k2 := hcW _ _ k2
      replace k3 := hcW _ _ k3
      replace k4 := hcW _ _ k4
      replace k5 := hcW _ _ k5
      obtain ⟨D, m1, m2⟩ := hi.map
      have hLn : L.length < maxLen := by
        have h1 := (cov_len f t N 0 N (by omega)).2
        have := HLl.out
        unfold maxLen
        omega
      obtain ⟨w1, hrun, hown1, hgrow⟩ := m1.drew.update part_keyed Tryz.underlying183 hLn (pKey_eq p.a p.b (by omega) (by omega)) (ndR_eq d)
      have hb1 : w1.heap[w.heap.size + 1]? = W.heap[w.heap.size + 1]? := hgrow.block _ (show w.heap.size + 1 < W.heap.size from n1.lt) (by simp)
      have hc1' : w1.cell? ⟨w.heap.size + 1, 0, none⟩ = some (.slice (some ⟨b, off, none⟩) (r'.length + 1) cap') := (World.cell?_of_block (a := ⟨w.heap.size + 1, 0, none⟩) hb1).trans nc
      have hf1' : w1.frozen? ⟨w.heap.size + 1, 0, none⟩ = false := (World.frozen?_of_block (a := ⟨w.heap.size + 1, 0, none⟩) hb1).trans n1.frozen
      have FIN := fun (v' : Value) (ao2 : Option Addr) (cap2 : Nat) => hid (fun (hv : v' = .slice ao2 r'.length cap2) (h1 : r'.length ≤ cap2) (h2 : cap2 ≤ 9223372036854775807) (h3 : Nodes w w.heap.size v' r') => hi.take (p := p) (v' := v') hdr ⟨by omega, by omega⟩ m2 hown1 hgrow hv h1 h2 h3)
      have F1 := hid ((FIN (.slice (some ⟨b, off + 6, none⟩) r'.length (cap' - 1)) (some ⟨b, off + 6, none⟩) (cap' - 1)).out rfl (by simp at n2; omega) (by omega) (nodes_tl n4 (.inr rfl)))
      have F2 := hid (fun hcap : cap' = 1 => (FIN (.slice (some ⟨b, off, none⟩) r'.length 0) (some ⟨b, off, none⟩) 0).out rfl (by simp at n2; omega) (by omega) (nodes_tl n4 (.inl (List.eq_nil_of_length_eq_zero (by simp at n2; omega)))))
      clear FIN
      have hl2 : (r'.length : Int) + 1 ≤ cap' := by simp at n2; omega
      simp only [List.length_cons] at nc
      unfold paV ndV at hrun
      simp only [show w.heap.size + 4 = w.heap.size + 1 + 1 + 1 + 1 from rfl] at hrun cm
      simp only [show w.heap.size + 5 = w.heap.size + 1 + 1 + 1 + 1 + 1 from rfl] at cm
      have hrl : ((r'.length : Int) + 1 == 0) = false := by simp; omega
      have HKW := hid (show w.heap.size + 4 < W0.heap.size by omega)
      have hmx : Tryz.prog.follows .mixedOrders = true := by kernel_rfl
      clear hi hcv hI0 n1 n4 hpx hr hdr hpm hcW m1 m2 hown1 hgrow hb1 hLn HLl n2 hsz
      gi_wp2
      gi_region_o
      all_goals gi_wp2
      all_goals
        first
        | exact ⟨F1.out.2.2 _ HKW.out, F1.out.2.1, (by show OfI w w.heap.size ns ((pre ++ [⟨p, hp⟩] : List (CvP N f t)).map (·.1)) _; rw [HL.out]; exact F1.out.1)⟩
        | exact ⟨(F2.out (by assumption)).2.2 _ HKW.out, (F2.out (by assumption)).2.1, (by show OfI w w.heap.size ns ((pre ++ [⟨p, hp⟩] : List (CvP N f t)).map (·.1)) _; rw [HL.out]; exact (F2.out (by assumption)).1)⟩
  case done =>
    rintro D ys W hD hys hi hKD
    rw [hys] at hi
    obtain ⟨ao', cap', n1, n2, n3, n4⟩ := hi.nds
    have nc := n1.cell
    have hlen := hi.len
    have HI := hid hi
    have hdl : (ns.drop (cov 0 N f t).length).length = ns.length - (cov 0 N f t).length := by simp
    rw [hdl] at nc
    have crf := hi.rf.cell
    have frf := hi.rf.frozen
    have crb := hi.rb.cell
    have frb := hi.rb.frozen
    simp only [show w.heap.size + 2 = w.heap.size + 1 + 1 from rfl] at crf frf
    simp only [show w.heap.size + 3 = w.heap.size + 1 + 1 + 1 from rfl] at crb frb
    have HKD := hid hKD
    have HD := hid (show w.heap.size + 8 ≤ D by omega)
    by_cases he : ns.length = (cov 0 N f t).length
    · have h0 : ns.length - (cov 0 N f t).length = 0 := by omega
      rw [h0] at nc
      have HE := hid he
      clear hi hcv hI0 n1 n4 hys hKD hD hdl hlen he h0 hsz
      gi_wp2
      have hdk : ((W.setCell ⟨w.heap.size + 1 + 1, 0, none⟩ (.func (.func 118) #[] #[.pointer (some ⟨w.heap.size + 1 + 1 + 1 + 1 + 1, 0, none⟩)])).setCell ⟨w.heap.size + 1 + 1 + 1, 0, none⟩ (.bool true)).heap[D]? = some (.deferred (some [])) := by
        have := HD.out
        exact far_set' (far_set' HKD.out (by omega)) (by omega)
      refine ⟨by simp, .inl ⟨_, _, rfl, run_takeDeferred hdk, ?_⟩⟩
      have hi := HI.out
      obtain ⟨Dm, m1, m2⟩ := hi.map
      have hz := HD.out
      have b2 : Boxed (((W.setCell ⟨w.heap.size + 1 + 1, 0, none⟩ (.func (.func 118) #[] #[.pointer (some ⟨w.heap.size + 1 + 1 + 1 + 1 + 1, 0, none⟩)])).setCell ⟨w.heap.size + 1 + 1 + 1, 0, none⟩ (.bool true)).putObj D (.deferred none)) (w.heap.size + 1 + 1) 88 (.func (.func 118) #[] #[.pointer (some ⟨w.heap.size + 1 + 1 + 1 + 1 + 1, 0, none⟩)]) := (World.putObj_heap_other (by omega)).trans ((hi.rf.set _).other (by omega) _)
      have b3 : Boxed (((W.setCell ⟨w.heap.size + 1 + 1, 0, none⟩ (.func (.func 118) #[] #[.pointer (some ⟨w.heap.size + 1 + 1 + 1 + 1 + 1, 0, none⟩)])).setCell ⟨w.heap.size + 1 + 1 + 1, 0, none⟩ (.bool true)).putObj D (.deferred none)) (w.heap.size + 1 + 1 + 1) 4 (.bool true) := (World.putObj_heap_other (by omega)).trans ((hi.rb.other (show w.heap.size + 3 ≠ w.heap.size + 2 by omega) _).set _)
      have c2 := b2.cell
      have c3 := b3.cell
      refine ⟨.tuple #[.func (.func 118) #[] #[.pointer (some ⟨w.heap.size + 1 + 1 + 1 + 1 + 1, 0, none⟩)], .bool true], ?_, ?_⟩
      · simp [results, Tryz.results74, go_sem, c2, c3]
      · unfold ofPost
        rw [if_pos HE.out]
        have b5 : Boxed (((W.setCell ⟨w.heap.size + 1 + 1, 0, none⟩ (.func (.func 118) #[] #[.pointer (some ⟨w.heap.size + 1 + 1 + 1 + 1 + 1, 0, none⟩)])).setCell ⟨w.heap.size + 1 + 1 + 1, 0, none⟩ (.bool true)).putObj D (.deferred none)) (w.heap.size + 5) 183 (.map (some (w.heap.size + 4))) := (World.putObj_heap_other (by omega)).trans ((hi.mb.other (by omega) _).other (by omega) _)
        refine ⟨w.heap.size + 5, w.heap.size + 4, rfl, ⟨b5, _, Dm, ((m1.kept (grownBy_setCell' _ _ _) (by simp)).kept (grownBy_setCell' _ _ _) (by simp)).kept (grownBy_putObj' _ D _) (by simp; omega), m2⟩, ?_⟩
        refine Below.trans ?_ (belowK_b (w := w) (Nat.le_refl _) _ D _ _ (by omega) hdk rfl rfl)
        exact (hi.below.setCell (p := ⟨w.heap.size + 1 + 1, 0, none⟩) (by show w.heap.size ≤ w.heap.size + 1 + 1; omega) _).setCell (p := ⟨w.heap.size + 1 + 1 + 1, 0, none⟩) (by show w.heap.size ≤ w.heap.size + 1 + 1 + 1; omega) _
    · have hgt : (0 : Int) < ((ns.length - (cov 0 N f t).length : Nat) : Int) := by omega
      have HE := hid he
      clear hi hcv hI0 n1 n4 hys hKD hD hdl hlen he hsz
      generalize ns.length - (cov 0 N f t).length = q at nc hgt
      gi_wp2
      have hdk : ((W.setCell ⟨w.heap.size + 1 + 1, 0, none⟩ .nilFunc).setCell ⟨w.heap.size + 1 + 1 + 1, 0, none⟩ (.bool false)).heap[D]? = some (.deferred (some [])) := by
        have := HD.out
        exact far_set' (far_set' HKD.out (by omega)) (by omega)
      refine ⟨by simp, .inl ⟨_, _, rfl, run_takeDeferred hdk, ?_⟩⟩
      have hi := HI.out
      have hz := HD.out
      have b2 : Boxed (((W.setCell ⟨w.heap.size + 1 + 1, 0, none⟩ .nilFunc).setCell ⟨w.heap.size + 1 + 1 + 1, 0, none⟩ (.bool false)).putObj D (.deferred none)) (w.heap.size + 1 + 1) 88 .nilFunc := (World.putObj_heap_other (by omega)).trans ((hi.rf.set _).other (by omega) _)
      have b3 : Boxed (((W.setCell ⟨w.heap.size + 1 + 1, 0, none⟩ .nilFunc).setCell ⟨w.heap.size + 1 + 1 + 1, 0, none⟩ (.bool false)).putObj D (.deferred none)) (w.heap.size + 1 + 1 + 1) 4 (.bool false) := (World.putObj_heap_other (by omega)).trans ((hi.rb.other (show w.heap.size + 3 ≠ w.heap.size + 2 by omega) _).set _)
      have c2 := b2.cell
      have c3 := b3.cell
      refine ⟨.tuple #[.nilFunc, .bool false], ?_, ?_⟩
      · simp [results, Tryz.results74, go_sem, c2, c3]
      · unfold ofPost
        rw [if_neg HE.out]
        refine ⟨rfl, Below.trans ?_ (belowK_b (w := w) (Nat.le_refl _) _ D _ _ (by omega) hdk rfl rfl)⟩
        exact (hi.below.setCell (p := ⟨w.heap.size + 1 + 1, 0, none⟩) (by show w.heap.size ≤ w.heap.size + 1 + 1; omega) _).setCell (p := ⟨w.heap.size + 1 + 1 + 1, 0, none⟩) (by show w.heap.size ≤ w.heap.size + 1 + 1 + 1; omega) _
  case stop =>
    rintro D c pre W hD hpre hx hKD
    obtain rfl := hx.ret
    have hne : ns.length ≠ (cov 0 N f t).length := by
      have h1 := hx.len
      have h2 := List.IsPrefix.length_le hpre
      omega
    have HX := hid hx
    have HNE := hid hne
    have HKD := hid hKD
    have HD := hid (show w.heap.size + 8 ≤ D by omega)
    clear hcv hI0 hx hne hKD hD hpre hsz
    gi_wp2
    refine ⟨by simp, .inl ⟨_, _, rfl, run_takeDeferred HKD.out, ?_⟩⟩
    have hz := HD.out
    have b2 : Boxed (W.putObj D (.deferred none)) (w.heap.size + 1 + 1) 88 .nilFunc := (World.putObj_heap_other (by omega)).trans HX.out.rf
    have b3 : Boxed (W.putObj D (.deferred none)) (w.heap.size + 1 + 1 + 1) 4 (.bool false) := (World.putObj_heap_other (by omega)).trans HX.out.rb
    have c2 := b2.cell
    have c3 := b3.cell
    refine ⟨.tuple #[.nilFunc, .bool false], ?_, ?_⟩
    · simp [results, Tryz.results74, go_sem, c2, c3]
    · unfold ofPost
      rw [if_neg HNE.out]
      exact ⟨rfl, HX.out.below.trans (belowK_b (w := w) (Nat.le_refl _) _ D _ _ (by omega) HKD.out rfl rfl)⟩
end Go.Proofs.YtogmdaopfnmobaaGreat

/- What a proof's parts come to, one by one; readTree. -/
namespace Go.Proofs.YtogmdaopfnmobaaGreat
open Go.RowKit
theorem cov_pw (f t : Nat) : ∀ (n a b : Nat), b - a ≤ n → a < b → (∀ p ∈ cov a b f t, p.a < p.b) ∧ (cov a b f t).Pairwise (fun p q => p.b ≤ q.a) := by
  intro n
  induction n with
  | zero => intro a b h hab; omega
  | succ n ih =>
    intro a b h hab
    by_cases hs : isOut a b f t = true ∨ isIn a b f t = true ∨ b < a + 2
    · rw [cov_1 hs]; simp [hab]
    · have p := hf_pos (b - a)
      have q := hf_lt (b - a) (by omega)
      rw [cov_2 hs]
      have hl := ih a (a + hf (b - a)) (by omega) (by omega)
      have hr := ih (a + hf (b - a)) b (by omega) (by omega)
      refine ⟨fun x hx => (List.mem_append.1 hx).elim (hl.1 x) (hr.1 x), List.pairwise_append.2 ⟨hl.2, hr.2, fun x hx y hy => ?_⟩⟩
      have h1 := cov_mem f t n a (a + hf (b - a)) (by omega) (by omega) x hx
      have h2 := cov_mem f t n (a + hf (b - a)) b (by omega) (by omega) y hy
      omega
theorem cov_distinct (f t n : Nat) : (cov 0 n f t).Pairwise (fun p q => ¬ (p.a = q.a ∧ p.b = q.b)) := by
  by_cases hn : 0 < n
  · obtain ⟨h1, h2⟩ := cov_pw f t n 0 n (by omega) hn
    refine List.Pairwise.imp_of_mem (fun {p q} hp hq h c => ?_) h2
    have := h1 p hp
    omega
  · rw [cov_1 (.inr (.inr (by omega)))]; simp
theorem gL_mem : ∀ {l : List (Sp × Nd)}, (l.map (·.1)).Pairwise (fun p q => ¬ (p.a = q.a ∧ p.b = q.b)) → ∀ q ∈ l, gL l q.1.a q.1.b = some q.2
  | [], _, q, hq => by simp at hq
  | x :: l, h, q, hq => by
    rw [List.map_cons, List.pairwise_cons] at h
    rcases List.mem_cons.1 hq with rfl | hq
    · have : gL l q.1.a q.1.b = none := gL_none (fun y hy c => h.1 y.1 (List.mem_map.2 ⟨y, hy, rfl⟩) ⟨c.1.symm, c.2.symm⟩)
      simp [gL, this]
    · have := gL_mem h.2 q hq
      simp [gL, this]
def fz (l : List (Sp × Nd)) : Fo := l.foldl (fun z q => if q.1.i then tog z q.2.fold else z) .zero
theorem finN_fz {nd : Sp → Nd} : ∀ (l : List (Sp × Nd)) (z : Fo), (∀ q ∈ l, nd q.1 = q.2) → (l.map (·.1)).foldl (fun z p => if p.i then tog z (nd p).fold else z) z = l.foldl (fun z q => if q.1.i then tog z q.2.fold else z) z
  | [], _, _ => rfl
  | q :: l, z, h => by
    simp only [List.map_cons, List.foldl_cons]
    rw [h q (by simp)]
    exact finN_fz l _ (fun x hx => h x (by simp [hx]))
theorem zip_fst {l : List Sp} {ns : List Nd} (h : ns.length = l.length) : (l.zip ns).map (·.1) = l := List.map_fst_zip (by omega)
def ndP (l : List Sp) (ns : List Nd) (p : Sp) : Nd := (gL (l.zip ns) p.a p.b).getD .E
theorem ndP_mem {n f t : Nat} {ns : List Nd} (h : ns.length = (cov 0 n f t).length) : ∀ q ∈ (cov 0 n f t).zip ns, gL ((cov 0 n f t).zip ns) q.1.a q.1.b = some q.2 ∧ ndP (cov 0 n f t) ns q.1 = q.2 := fun q hq => by
  have := gL_mem (l := (cov 0 n f t).zip ns) (by rw [zip_fst h]; exact cov_distinct f t n) q hq
  exact ⟨this, by rw [ndP, this]; rfl⟩
theorem ndP_comes {n f t : Nat} {ns : List Nd} (h : ns.length = (cov 0 n f t).length) (hok : ∀ d ∈ ns, d.ok = true) : ∀ p ∈ cov 0 n f t, Comes (gL ((cov 0 n f t).zip ns)) p.a p.b (ndP (cov 0 n f t) ns p) ∧ (ndP (cov 0 n f t) ns p).ok = true := fun p hp => by
  have hp' : p ∈ ((cov 0 n f t).zip ns).map (·.1) := by rw [zip_fst h]; exact hp
  obtain ⟨q, hq, rfl⟩ := List.mem_map.1 hp'
  obtain ⟨h1, h2⟩ := ndP_mem h q hq
  rw [h2]
  exact ⟨.known h1, hok _ (List.of_mem_zip hq).2⟩
theorem ndP_fold {n f t : Nat} {ns : List Nd} (h : ns.length = (cov 0 n f t).length) : finN (ndP (cov 0 n f t) ns) (cov 0 n f t) = fz ((cov 0 n f t).zip ns) := by
  have := finN_fz (nd := ndP (cov 0 n f t) ns) ((cov 0 n f t).zip ns) .zero (fun q hq => (ndP_mem h q hq).2)
  rw [zip_fst h] at this
  exact this
theorem capP {w : World} {base : Nat} {e : TypeId} {sz n : Nat} {v : Value} {xs : List Value} (h : w.ownsRow base e sz v n xs) : ∃ ao cap, v = .slice ao n cap ∧ n ≤ cap ∧ cap ≤ 9223372036854775807 := by
  rcases h.2 with ⟨rfl, rfl⟩ | ⟨g, cap, _, rfl, _, _, h1, h2, _⟩
  · exact ⟨none, 0, rfl, by omega, by omega⟩
  · exact ⟨_, cap, rfl, h1, by unfold maxLen at h2; omega⟩
def rtE (n f t : Nat) (o : Option (List Nd)) : Int :=
  match o with
  | none => 7
  | some ns => if ns.length = (cov 0 n f t).length then if (cm 0 n f t ns).ok then 0 else 6 else 8
def rtPost (n f t : Nat) (o : Option (List Nd)) (w : World) (e : Ending) (w' : World) : Prop :=
  Below w.heap.size w w' ∧ if rtE n f t o = 0 then ∃ ns B M, o = some ns ∧ e = .returned (.tuple #[cloV 118 B, .int .i64 0]) ∧ pfK B M (gL ((cov 0 n f t).zip ns)) w' else e = .returned (.tuple #[.nilFunc, .int .i64 (rtE n f t o)])
set_option maxHeartbeats 2000000 in
set_option maxRecDepth 100000 in
theorem readTree_any (n f t : Nat) (p : ByteArray) (w : World) (hn : n ≤ 64) (ht : t ≤ n) (hs : p.size ≤ maxLen) :
    Calls Tryz.prog 37 #[.int .i64 n, paV f t, .string p] w (rtPost n f t (readR p.data.toList) w) := by
  have HR : ∀ w', Hid (Calls Tryz.prog 73 #[.string p] w' (readPost (readR p.data.toList) w')) := fun w' => hid (readProof_any p w' hs)
  have hB0 : Below w.heap.size w (w.alloc (.cells #[.int .i64 f, .int .i64 t] 95)) := (Below.refl _ _).alloc (Nat.le_refl _) _
  cases ho : readR p.data.toList with
  | none =>
    rw [ho] at HR
    have HB0 := hid hB0
    clear hB0
    unfold paV
    go_enter Tryz.func37, Tryz.ntmps37
    go_wp2_with fail
    refine (HR _).out.mono ?_
    rintro e w1 ⟨rfl, hb1⟩
    have HB1 := hid (HB0.out.trans (hb1.mono (by simp)))
    clear hb1 HR HB0
    go_wp2
    go_ret2
    exact ⟨HB1.out, by rw [if_neg (by simp [rtE])]; rfl⟩
  | some ns =>
    rw [ho] at HR
    obtain ⟨hl64, hall, _⟩ := write_read _ _ ho
    have hok : ∀ d ∈ ns, d.ok = true := List.all_eq_true.1 hall
    have HOf : ∀ ao cap w', Hid (w'.ownsRow w.heap.size 51 6 (.slice ao ns.length cap) ns.length (ns.flatMap Nd.cells) → ns.length ≤ cap → cap ≤ 9223372036854775807 → Calls Tryz.prog 74 #[.int .i64 n, paV f t, .slice ao ns.length cap] w' (ofPost ns (cov 0 n f t) w')) := fun ao cap w' => hid fun h1 h2 h3 => ofProof_any n f t ao cap ns hn ht w' h2 h3 (Nodes.own h1 (by omega))
    have hb1 : ∀ w1, Below (w.alloc (.cells #[.int .i64 f, .int .i64 t] 95)).heap.size (w.alloc (.cells #[.int .i64 f, .int .i64 t] 95)) w1 → Below w.heap.size w w1 ∧ PaAt w1 w.heap.size f t := fun w1 hb => ⟨hB0.trans (hb.mono (by simp)), (PaAt.at w _ rfl f t).below hb⟩
    have HB1 := hid hb1
    by_cases hlen : ns.length = (cov 0 n f t).length
    · have hcm := comes_cm f t n 0 n ns [] [] (by omega) (by omega) hn (by omega) hok (fun _ => ⟨rfl, rfl⟩) (by simp) (by simp)
      simp only [List.nil_append, List.append_nil] at hcm
      have HN : ∀ B M w', Hid (pfK B M (gL ((cov 0 n f t).zip ns)) w' → Calls Tryz.prog 76 #[paV 0 n, cloV 118 B] w' fun e w2 => e = .returned (ndV (cm 0 n f t ns)) ∧ Below w'.heap.size w' w2) := fun B M w' => hid fun h => node_any (prf_src B M n _ hn) hn hcm w' h (by omega) (Nat.le_refl _)
      have HE : Hid (rtE n f t (some ns) = if (cm 0 n f t ns).ok then 0 else 6) := hid (by simp only [rtE]; rw [if_pos hlen])
      have HM : ∀ w', Hid (Calls Tryz.prog 75 #[ndV (cm 0 n f t ns)] w' fun e w2 => e = .returned (.bool (cm 0 n f t ns).ok) ∧ Below w'.heap.size w' w2) := fun w' => hid (mayBe_any _ w' _ rfl)
      have HPK : Hid (∀ B M w' w2, pfK B M (gL ((cov 0 n f t).zip ns)) w' → Below w'.heap.size w' w2 → pfK B M (gL ((cov 0 n f t).zip ns)) w2) := hid fun B M w' w2 h1 h2 => h1.later h2
      have HLEN := hid hlen
      clear hb1 hB0 hcm hok hall hlen
      generalize cm 0 n f t ns = d at HN HM HE
      unfold paV ndV at HN
      unfold ndV at HM
      unfold paV at HOf ⊢
      simp only [Int.ofNat_zero] at HN
      go_enter Tryz.func37, Tryz.ntmps37
      go_wp2_with fail
      refine (HR _).out.mono ?_
      rintro e w1 ⟨v, rfl, hown, hb⟩
      obtain ⟨hB1, hP1⟩ := HB1.out w1 hb
      obtain ⟨ao, cap, rfl, hc1, hc2⟩ := capP hown
      have HOW := hid (own_mono hown (show w.heap.size ≤ _ by simp))
      have hpc := hP1.cells
      have HBB := hid hB1
      clear hown hb hB1 hP1 HR HB1
      go_wp2_with fail
      refine ((HOf ao cap w1).out HOW.out hc1 hc2).mono ?_
      intro e w2 hp
      unfold ofPost at hp
      rw [if_pos HLEN.out] at hp
      obtain ⟨B, M, rfl, hK, hb2⟩ := hp
      have HK := hid hK
      have HBC := hid (HBB.out.trans (hb2.mono HBB.out.size))
      clear hb2 HBB HOf HOW hpc hK
      go_wp2_with fail
      refine ((HN B M w2).out HK.out).mono ?_
      rintro e w3 ⟨rfl, hb3⟩
      have HK3 := hid (HPK.out B M w2 w3 HK.out hb3)
      have HBD := hid (HBC.out.trans (hb3.mono HBC.out.size))
      clear hb3 HBC HN HK
      go_wp2_with fail
      refine (HM _).out.mono ?_
      rintro e w4 ⟨rfl, hb4⟩
      have HK4 := hid (HPK.out B M w3 w4 HK3.out hb4)
      have HBE := hid (HBD.out.trans (hb4.mono HBD.out.size))
      clear hb4 HBD HM HK3 HPK
      cases hd : d.ok with
      | true =>
        go_wp2
        go_ret2
        have hE := HE.out
        rw [hd, if_pos rfl] at hE
        exact ⟨HBE.out, by rw [if_pos hE]; exact ⟨ns, B, M, rfl, rfl, HK4.out⟩⟩
      | false =>
        go_wp2
        go_ret2
        have hE := HE.out
        rw [hd, if_neg (by simp)] at hE
        exact ⟨HBE.out, by rw [hE, if_neg (by decide)]; rfl⟩
    · have HE : Hid (rtE n f t (some ns) = 8) := hid (by simp only [rtE]; rw [if_neg hlen])
      have HLEN := hid hlen
      clear hb1 hB0 hok hall hlen
      unfold paV at HOf ⊢
      go_enter Tryz.func37, Tryz.ntmps37
      go_wp2_with fail
      refine (HR _).out.mono ?_
      rintro e w1 ⟨v, rfl, hown, hb⟩
      obtain ⟨hB1, hP1⟩ := HB1.out w1 hb
      obtain ⟨ao, cap, rfl, hc1, hc2⟩ := capP hown
      have HOW := hid (own_mono hown (show w.heap.size ≤ _ by simp))
      have hpc := hP1.cells
      have HBB := hid hB1
      clear hown hb hB1 hP1 HR HB1
      go_wp2_with fail
      refine ((HOf ao cap w1).out HOW.out hc1 hc2).mono ?_
      intro e w2 hp
      unfold ofPost at hp
      rw [if_neg HLEN.out] at hp
      obtain ⟨rfl, hb2⟩ := hp
      have HBC := hid (HBB.out.trans (hb2.mono HBB.out.size))
      clear hb2 HBB HOf HOW hpc
      go_wp2
      go_ret2
      exact ⟨HBC.out, by rw [HE.out, if_neg (by decide)]; rfl⟩
end Go.Proofs.YtogmdaopfnmobaaGreat

/- What a proof's nodes come to for the older log that begins the newer. -/
namespace Go.Proofs.YtogmdaopfnmobaaGreat
open Go.RowKit
def bgz : List (Sp × Nd) → Nd × Bool
  | [] => (.E, true)
  | q :: l => if q.1.i then (if (bgz l).2 then (q.2, false) else (ab q.2 (bgz l).1, false)) else bgz l
def tc (l : List (Sp × Nd)) : Int := (l.map (·.2.c)).sum
def ts (l : List (Sp × Nd)) : Int := (l.map (·.2.s)).sum
theorem nb_up {n m : Nat} {d : Nd} (h : nb n d) (hm : n ≤ m) : nb m d := by unfold nb at *; omega
theorem bgz_nb : ∀ (l : List (Sp × Nd)), (∀ q ∈ l, q.2.ok = true) → nb l.length (bgz l).1 ∧ (bgz l).1.c ≤ tc l ∧ (bgz l).1.s ≤ ts l ∧ 0 ≤ tc l ∧ 0 ≤ ts l
  | [], _ => by
    refine ⟨?_, ?_, ?_, ?_, ?_⟩ <;> simp [nb, bgz, Nd.E, tc, ts]
  | q :: l, h => by
    obtain ⟨i1, i2, i3, i4, i5⟩ := bgz_nb l (fun x hx => h x (by simp [hx]))
    have hq := nb_ok (h q (by simp))
    have ec : tc (q :: l) = q.2.c + tc l := by simp [tc]
    have es : ts (q :: l) = q.2.s + ts l := by simp [ts]
    have hq' := hq
    unfold nb at hq'
    rw [ec, es]
    simp only [bgz, List.length_cons]
    cases q.1.i with
    | false => simp only [Bool.false_eq_true, if_false]; exact ⟨nb_up i1 (by omega), by omega, by omega, by omega, by omega⟩
    | true =>
      cases (bgz l).2 with
      | true => simp only [if_true]; exact ⟨nb_up hq (by omega), by omega, by omega, by omega, by omega⟩
      | false =>
        simp only [if_true, Bool.false_eq_true, if_false]
        refine ⟨by rw [Nat.add_comm]; exact nb_ab hq i1, ?_, ?_, by omega, by omega⟩
        · rw [ab_c]; omega
        · rw [ab_s]; omega
theorem tc_drop (l : List (Sp × Nd)) (h : ∀ q ∈ l, q.2.ok = true) (j : Nat) : tc (l.drop j) ≤ tc l ∧ ts (l.drop j) ≤ ts l := by
  induction l generalizing j with
  | nil => simp
  | cons q l ih =>
    cases j with
    | zero => simp
    | succ j =>
      have := ih (fun x hx => h x (by simp [hx])) j
      have hq := nb_ok (h q (by simp))
      unfold nb at hq
      have ec : tc (q :: l) = q.2.c + tc l := by simp [tc]
      have es : ts (q :: l) = q.2.s + ts l := by simp [ts]
      rw [List.drop_succ_cons, ec, es]
      omega
theorem tc_app (l m : List (Sp × Nd)) : tc (l ++ m) = tc l + tc m ∧ ts (l ++ m) = ts l + ts m := by simp [tc, ts]
theorem zip_cov {a b f t : Nat} (ns : List Nd) (hs : ¬ (isOut a b f t = true ∨ isIn a b f t = true ∨ b < a + 2)) (hl : (cov a (a + hf (b - a)) f t).length ≤ ns.length) : (cov a b f t).zip ns = (cov a (a + hf (b - a)) f t).zip ns ++ (cov (a + hf (b - a)) b f t).zip (ns.drop (cov a (a + hf (b - a)) f t).length) := by
  have hzt : (cov a (a + hf (b - a)) f t).zip (ns.take (cov a (a + hf (b - a)) f t).length) = (cov a (a + hf (b - a)) f t).zip ns := by
    have := List.zip_append (l₁ := cov a (a + hf (b - a)) f t) (r₁ := []) (l₂ := ns.take (cov a (a + hf (b - a)) f t).length) (r₂ := ns.drop (cov a (a + hf (b - a)) f t).length) (by simp; omega)
    simp only [List.append_nil, List.take_append_drop, List.zip_nil_left] at this
    exact this.symm
  rw [← hzt, cov_2 hs]
  conv => lhs; rw [← List.take_append_drop (cov a (a + hf (b - a)) f t).length ns]
  rw [List.zip_append (by simp; omega)]
theorem cm_tc (f t : Nat) : ∀ (n a b : Nat) (ns : List Nd), b - a ≤ n → (cov a b f t).length ≤ ns.length → (cm a b f t ns).c = tc ((cov a b f t).zip ns) ∧ (cm a b f t ns).s = ts ((cov a b f t).zip ns) := by
  intro n
  induction n with
  | zero =>
    intro a b ns h hl
    rw [cm_one ns (.inr (.inr (by omega)))]
    rw [cov_1 (.inr (.inr (by omega)))] at hl ⊢
    cases ns with
    | nil => simp at hl
    | cons d r => simp [tc, ts]
  | succ n ih =>
    intro a b ns h hl
    by_cases hs : isOut a b f t = true ∨ isIn a b f t = true ∨ b < a + 2
    · rw [cm_one ns hs]
      rw [cov_1 hs] at hl ⊢
      cases ns with
      | nil => simp at hl
      | cons d r => simp [tc, ts]
    · have p := hf_pos (b - a)
      have q := hf_lt (b - a) (by omega)
      have hl' := hl
      rw [cov_2 hs, List.length_append] at hl'
      obtain ⟨l1, l2⟩ := ih a (a + hf (b - a)) ns (by omega) (by omega)
      obtain ⟨r1, r2⟩ := ih (a + hf (b - a)) b (ns.drop (cov a (a + hf (b - a)) f t).length) (by omega) (by simp; omega)
      obtain ⟨t1, t2⟩ := tc_app ((cov a (a + hf (b - a)) f t).zip ns) ((cov (a + hf (b - a)) b f t).zip (ns.drop (cov a (a + hf (b - a)) f t).length))
      rw [cm_two ns hs, zip_cov ns hs (by omega), ab_c, ab_s, l1, l2, r1, r2, t1, t2]
      exact ⟨rfl, rfl⟩
theorem bgz_ok {n f t : Nat} {ns : List Nd} (hl : ns.length = (cov 0 n f t).length) (hok : ∀ d ∈ ns, d.ok = true) (hc : (cm 0 n f t ns).ok = true) (j : Nat) : (bgz (((cov 0 n f t).zip ns).drop j)).1.ok = true := by
  have hz : ∀ q ∈ (cov 0 n f t).zip ns, q.2.ok = true := fun q hq => hok _ (List.of_mem_zip hq).2
  obtain ⟨b1, b2, b3, _, _⟩ := bgz_nb (((cov 0 n f t).zip ns).drop j) (fun q hq => hz q (List.mem_of_mem_drop hq))
  have d := tc_drop _ hz j
  obtain ⟨t1, t2⟩ := cm_tc f t n 0 n ns (by omega) (by omega)
  have o := (ok_nb (cm_nb f t n 0 n ns (by omega) hok)).1 hc
  exact (ok_nb b1).2 (by omega)
def bgn (a b o : Nat) (ns : List Nd) : Nd :=
  if b ≤ o ∨ b < a + 2 then ns.headD .E else if o ≤ a + hf (b - a) then bgn a (a + hf (b - a)) o ns else ab (ns.headD .E) (bgn (a + hf (b - a)) b o ns.tail)
termination_by b - a
decreasing_by
  · have := hf_lt (b - a) (by omega); omega
  · have := hf_pos (b - a); omega
theorem bgn_1 {a b o : Nat} (ns : List Nd) (h : b ≤ o ∨ b < a + 2) : bgn a b o ns = ns.headD .E := by rw [bgn, if_pos h]
theorem bgn_2 {a b o : Nat} (ns : List Nd) (h : ¬ (b ≤ o ∨ b < a + 2)) (h2 : o ≤ a + hf (b - a)) : bgn a b o ns = bgn a (a + hf (b - a)) o ns := by rw [bgn, if_neg h, if_pos h2]
theorem bgn_3 {a b o : Nat} (ns : List Nd) (h : ¬ (b ≤ o ∨ b < a + 2)) (h2 : ¬ o ≤ a + hf (b - a)) : bgn a b o ns = ab (ns.headD .E) (bgn (a + hf (b - a)) b o ns.tail) := by rw [bgn, if_neg h, if_neg h2]
theorem cov_inZ {a b o : Nat} (h : a < b) (h2 : b ≤ o) : cov a b 0 o = [⟨a, b, true⟩] := by
  have : isIn a b 0 o = true := decide_eq_true ⟨by omega, by omega, by omega, by omega⟩
  rw [cov_1 (.inr (.inl this)), this]
theorem cov_out {a b o : Nat} (h2 : o ≤ a) : cov a b 0 o = [⟨a, b, false⟩] := by
  have : isOut a b 0 o = true := decide_eq_true (.inr (.inl h2))
  have h3 : isIn a b 0 o = false := decide_eq_false (by omega)
  rw [cov_1 (.inl this), h3]
theorem cov_mid {a b o : Nat} (h : a < o) (h2 : o < b) : ¬ (isOut a b 0 o = true ∨ isIn a b 0 o = true ∨ b < a + 2) := by
  unfold isOut isIn
  simp only [decide_eq_true_eq]
  omega
theorem bgz_out {q : Sp × Nd} {l : List (Sp × Nd)} (h : q.1.i = false) : bgz (q :: l) = bgz l := by simp [bgz, h]
theorem bgz_cov (o : Nat) : ∀ (n a b : Nat) (ns : List Nd) (post : List (Sp × Nd)), b - a ≤ n → a < o → o ≤ b → (cov a b 0 o).length ≤ ns.length → bgz post = (.E, true) → bgz ((cov a b 0 o).zip ns ++ post) = (bgn a b o ns, false) := by
  intro n
  induction n with
  | zero => intro a b ns post h ha ho; omega
  | succ n ih =>
    intro a b ns post h ha ho hl hp
    by_cases e : o = b
    · subst e
      rw [bgn_1 ns (.inl (Nat.le_refl _))]
      rw [cov_inZ ha (Nat.le_refl _)] at hl ⊢
      cases ns with
      | nil => simp at hl
      | cons d r => simp [bgz, hp]
    · have hs := cov_mid ha (show o < b by omega)
      have hb : ¬ (b ≤ o ∨ b < a + 2) := by omega
      have p := hf_pos (b - a)
      have q := hf_lt (b - a) (by omega)
      have hl' := hl
      rw [cov_2 hs, List.length_append] at hl'
      rw [zip_cov ns hs (by omega), List.append_assoc]
      by_cases hk : o ≤ a + hf (b - a)
      · rw [bgn_2 ns hb hk]
        have he : (cov (a + hf (b - a)) b 0 o) = [⟨a + hf (b - a), b, false⟩] := cov_out hk
        refine ih a (a + hf (b - a)) ns _ (by omega) ha hk (by omega) ?_
        rw [he]
        cases ns.drop (cov a (a + hf (b - a)) 0 o).length with
        | nil => simpa using hp
        | cons d r => simp only [List.zip_cons_cons, List.zip_nil_left, List.cons_append, List.nil_append]; rw [bgz_out rfl]; exact hp
      · rw [bgn_3 ns hb hk]
        have he : (cov a (a + hf (b - a)) 0 o) = [⟨a, a + hf (b - a), true⟩] := cov_inZ (by omega) (by omega)
        rw [he] at hl' ⊢
        cases ns with
        | nil => simp at hl'
        | cons d r =>
          have := ih (a + hf (b - a)) b r post (by omega) (by omega) ho (by simp at hl'; omega) hp
          simp only [List.zip_cons_cons, List.zip_nil_left, List.length_cons, List.length_nil, List.drop_succ_cons, List.drop_zero, List.cons_append, List.nil_append, List.headD_cons, List.tail_cons]
          simp only [bgz, this]
          simp
theorem bgz_whole {o n : Nat} {ns : List Nd} (h1 : 1 ≤ o) (h2 : o ≤ n) (hl : ns.length = (cov 0 n 0 o).length) : (bgz ((cov 0 n 0 o).zip ns)).1 = bgn 0 n o ns := by
  have := bgz_cov o n 0 n ns [] (by omega) (by omega) h2 (by omega) rfl
  rw [List.append_nil] at this
  rw [this]
theorem bgn_nb {o a b : Nat} {ns : List Nd} (h1 : a < o) (h2 : o ≤ b) (hl : (cov a b 0 o).length ≤ ns.length) (hok : ∀ d ∈ ns, d.ok = true) : nb (cov a b 0 o).length (bgn a b o ns) := by
  have e := bgz_cov o (b - a) a b ns [] (by omega) h1 h2 hl rfl
  have := (bgz_nb ((cov a b 0 o).zip ns) (fun q hq => hok _ (List.of_mem_zip hq).2)).1
  rw [List.append_nil] at e
  rw [e] at this
  simp only [List.length_zip] at this
  exact nb_up this (by omega)
theorem hf_mid {m k : Nat} (h1 : hf m < k) (h2 : k ≤ m) (hm : 2 ≤ m) : hf k = hf m := by
  have := hf_big m hm
  unfold hf at this h1 ⊢
  have := hf_is k (m - 1).log2 h1 (by omega)
  unfold hf at this
  exact this
theorem comes_bgn (o : Nat) : ∀ (n a b : Nat) (ns : List Nd) (pre post : List (Sp × Nd)), b - a ≤ n → a < o → o ≤ b → b ≤ 64 → (cov a b 0 o).length ≤ ns.length → (∀ d ∈ ns, d.ok = true) → (∀ q ∈ pre, q.1.b ≤ a) → (∀ q ∈ post, b ≤ q.1.a) →
    Comes (gL (pre ++ (cov a b 0 o).zip ns ++ post)) a o (bgn a b o ns) := by
  intro n
  induction n with
  | zero => intro a b ns pre post h ha ho; omega
  | succ n ih =>
    intro a b ns pre post h ha ho hb hl hok hp hq
    by_cases e : o = b
    · subst e
      rw [bgn_1 ns (.inl (Nat.le_refl _))]
      rw [cov_inZ ha (Nat.le_refl _)] at hl ⊢
      cases ns with
      | nil => simp at hl
      | cons d r =>
        refine .known ?_
        have hz : gL post a o = none := gL_none (fun q hq' c => by have := hq q hq'; omega)
        rw [gL_append, hz, gL_append]
        simp [gL]
    · have hs := cov_mid ha (show o < b by omega)
      have hb' : ¬ (b ≤ o ∨ b < a + 2) := by omega
      have p := hf_pos (b - a)
      have q := hf_lt (b - a) (by omega)
      have hlm := cov_mem 0 o n a (a + hf (b - a)) (by omega) (by omega)
      have hrm := cov_mem 0 o n (a + hf (b - a)) b (by omega) (by omega)
      have hl' := hl
      rw [cov_2 hs, List.length_append] at hl'
      rw [zip_cov ns hs (by omega)]
      by_cases hk : o ≤ a + hf (b - a)
      · rw [bgn_2 ns hb' hk]
        have := ih a (a + hf (b - a)) ns pre ((cov (a + hf (b - a)) b 0 o).zip (ns.drop (cov a (a + hf (b - a)) 0 o).length) ++ post) (by omega) ha hk (by omega) (by omega) hok hp (fun qq h1 => by
          rcases List.mem_append.1 h1 with h1 | h1
          · exact (hrm qq.1 (List.of_mem_zip h1).1).1
          · have := hq qq h1; omega)
        simpa [List.append_assoc] using this
      · rw [bgn_3 ns hb' hk]
        have hh : hf (o - a) = hf (b - a) := hf_mid (by omega) (by omega) (by omega)
        have he : (cov a (a + hf (b - a)) 0 o) = [⟨a, a + hf (b - a), true⟩] := cov_inZ (by omega) (by omega)
        have key : ∀ qq ∈ pre ++ ((cov a (a + hf (b - a)) 0 o).zip ns ++ (cov (a + hf (b - a)) b 0 o).zip (ns.drop (cov a (a + hf (b - a)) 0 o).length)) ++ post, ¬ (qq.1.a = a ∧ qq.1.b = o) := by
          intro qq hqq c
          simp only [List.mem_append] at hqq
          rcases hqq with (h1 | h1 | h1) | h1
          · have := hp qq h1; omega
          · have := hlm qq.1 (List.of_mem_zip h1).1; omega
          · have := hrm qq.1 (List.of_mem_zip h1).1; omega
          · have := hq qq h1; omega
        have hnone := gL_none key
        rw [he] at hl' hnone ⊢
        cases ns with
        | nil => simp at hl'
        | cons d r =>
          simp only [List.length_cons, List.length_nil] at hl'
          have hr : ∀ x ∈ r, x.ok = true := fun x hx => hok x (by simp [hx])
          have hnb := bgn_nb (o := o) (a := a + hf (b - a)) (b := b) (ns := r) (by omega) ho (by omega) hr
          have hlen := (cov_len 0 o (b - (a + hf (b - a))) (a + hf (b - a)) b (by omega)).2
          simp only [List.zip_cons_cons, List.zip_nil_left, List.length_cons, List.length_nil, List.drop_succ_cons, List.drop_zero, List.headD_cons, List.tail_cons] at hnone ⊢
          refine .above hnone (by omega) ?_ ?_ (mid_nb (nb_ok (hok d (by simp))) (by omega)) (mid_nb hnb (by omega))
          · rw [hh]
            refine .known ?_
            have hz : gL post a (a + hf (b - a)) = none := gL_none (fun q hq' c => by have := hq q hq'; omega)
            have hz2 : gL ((cov (a + hf (b - a)) b 0 o).zip r) a (a + hf (b - a)) = none := gL_none (fun q hq' c => by have := hrm q.1 (List.of_mem_zip hq').1; omega)
            rw [gL_append, hz, gL_append, gL_append, hz2]
            simp [gL]
          · rw [hh]
            have := ih (a + hf (b - a)) b r (pre ++ [(⟨a, a + hf (b - a), true⟩, d)]) post (by omega) (by omega) ho hb (by omega) hr (fun qq h1 => by
              rcases List.mem_append.1 h1 with h1 | h1
              · have := hp qq h1; omega
              · simp at h1; subst h1; exact Nat.le_refl _) hq
            simpa [List.append_assoc] using this
end Go.Proofs.YtogmdaopfnmobaaGreat

/- An honest proof: what its nodes come to; a text that is cut short. -/
namespace Go.Proofs.YtogmdaopfnmobaaGreat
open Go.RowKit
theorem cn_app (lf : Nat → Nd) (l m : List Sp) : cn lf (l ++ m) = cn lf l ++ cn lf m := by simp [cn]
theorem bgn_cn (lf : Nat → Nd) (o : Nat) : ∀ (n a b : Nat) (rest : List Nd), b - a ≤ n → a < o → o ≤ b → bgn a b o (cn lf (cov a b 0 o) ++ rest) = tr lf a o := by
  intro n
  induction n with
  | zero => intro a b rest h ha ho; omega
  | succ n ih =>
    intro a b rest h ha ho
    by_cases e : o = b
    · subst e
      rw [bgn_1 _ (.inl (Nat.le_refl _)), cov_inZ ha (Nat.le_refl _)]; rfl
    · have hs := cov_mid ha (show o < b by omega)
      have hb : ¬ (b ≤ o ∨ b < a + 2) := by omega
      have p := hf_pos (b - a)
      have q := hf_lt (b - a) (by omega)
      rw [cov_2 hs, cn_app, List.append_assoc]
      by_cases hk : o ≤ a + hf (b - a)
      · rw [bgn_2 _ hb hk]
        exact ih a (a + hf (b - a)) _ (by omega) ha hk
      · have hh : hf (o - a) = hf (b - a) := hf_mid (by omega) (by omega) (by omega)
        rw [bgn_3 _ hb hk, cov_inZ (show a < a + hf (b - a) by omega) (show a + hf (b - a) ≤ o by omega)]
        have := ih (a + hf (b - a)) b rest (by omega) (by omega) ho
        rw [tr_two lf a o (by omega), hh]
        show ab (tr lf a (a + hf (b - a))) (bgn (a + hf (b - a)) b o (cn lf (cov (a + hf (b - a)) b 0 o) ++ rest)) = _
        rw [this]
end Go.Proofs.YtogmdaopfnmobaaGreat

/- Where two trees with one head part, as mathematics: what Clash finds, that it has one digest, and what is so where it finds nothing. -/
namespace Go.Proofs.YtogmdaopfnmobaaGreat
open Go.RowKit
def cmg (g : Nat → Nat → Option Nd) (a b : Nat) : Nd :=
  match g a b with
  | some d => d
  | none => if _h : b < a + 2 then .E else ab (cmg g a (a + hf (b - a))) (cmg g (a + hf (b - a)) b)
termination_by b - a
decreasing_by
  · have := hf_lt (b - a) (by omega); omega
  · have := hf_pos (b - a); omega
section
variable {g : Nat → Nat → Option Nd} {U : Nat → Nat → Nd} {a b : Nat}
theorem cmg_known {d : Nd} (h : g a b = some d) : cmg g a b = d := by rw [cmg, h]
theorem cmg_above (h : g a b = none) (h2 : a + 2 ≤ b) : cmg g a b = ab (cmg g a (a + hf (b - a))) (cmg g (a + hf (b - a)) b) := by rw [cmg, h]; simp only [dif_neg (show ¬ b < a + 2 by omega)]
theorem cmg_small (h : g a b = none) (h2 : b < a + 2) : cmg g a b = .E := by rw [cmg, h]; simp only [dif_pos h2]
theorem Comes.cmg {d : Nd} (h : Comes g a b d) : d = cmg g a b := by
  induction h with
  | known h => rw [cmg_known h]
  | above h h2 _ _ _ _ i1 i2 => rw [cmg_above h h2, ← i1, ← i2]
end
def cld (g : Nat → Nat → Option Nd) (U : Nat → Nat → Nd) (a b : Nat) : Option (List UInt8 × List UInt8) :=
  if _h : (g a b).isSome = true ∨ b < a + 2 then none
  else if abText (cmg g a (a + hf (b - a))) (cmg g (a + hf (b - a)) b) = abText (U a (a + hf (b - a))) (U (a + hf (b - a)) b) then
    match cld g U a (a + hf (b - a)) with
    | some p => some p
    | none => cld g U (a + hf (b - a)) b
  else some (abText (cmg g a (a + hf (b - a))) (cmg g (a + hf (b - a)) b), abText (U a (a + hf (b - a))) (U (a + hf (b - a)) b))
termination_by b - a
decreasing_by
  · have := hf_lt (b - a) (by omega); omega
  · have := hf_pos (b - a); omega
def prs (g : Nat → Nat → Option Nd) (U : Nat → Nat → Nd) (a b : Nat) : List (List UInt8 × List UInt8) :=
  if _h : (g a b).isSome = true ∨ b < a + 2 then []
  else prs g U a (a + hf (b - a)) ++ prs g U (a + hf (b - a)) b ++ [(abText (cmg g a (a + hf (b - a))) (cmg g (a + hf (b - a)) b), abText (U a (a + hf (b - a))) (U (a + hf (b - a)) b))]
termination_by b - a
decreasing_by
  · have := hf_lt (b - a) (by omega); omega
  · have := hf_pos (b - a); omega
section
variable {g : Nat → Nat → Option Nd} {U : Nat → Nat → Nd} {a b : Nat}
theorem cld_known (h : (g a b).isSome = true ∨ b < a + 2) : cld g U a b = none := by rw [cld, dif_pos h]
theorem cld_above (h : g a b = none) (h2 : a + 2 ≤ b) : cld g U a b = if abText (cmg g a (a + hf (b - a))) (cmg g (a + hf (b - a)) b) = abText (U a (a + hf (b - a))) (U (a + hf (b - a)) b) then (cld g U a (a + hf (b - a))).or (cld g U (a + hf (b - a)) b) else some (abText (cmg g a (a + hf (b - a))) (cmg g (a + hf (b - a)) b), abText (U a (a + hf (b - a))) (U (a + hf (b - a)) b)) := by
  rw [cld, dif_neg (by rw [h]; simp; omega)]
  split
  · cases cld g U a (a + hf (b - a)) <;> rfl
  · rfl
theorem prs_known (h : (g a b).isSome = true ∨ b < a + 2) : prs g U a b = [] := by rw [prs, dif_pos h]
theorem prs_above (h : g a b = none) (h2 : a + 2 ≤ b) : prs g U a b = prs g U a (a + hf (b - a)) ++ prs g U (a + hf (b - a)) b ++ [(abText (cmg g a (a + hf (b - a))) (cmg g (a + hf (b - a)) b), abText (U a (a + hf (b - a))) (U (a + hf (b - a)) b))] := by
  rw [prs, dif_neg (by rw [h]; simp; omega)]
end
theorem bytes_inj {x y : Nd} {r s : List UInt8} (hx : x.ok = true) (hy : y.ok = true) (h : x.bytes ++ r = y.bytes ++ s) : x = y ∧ r = s := by
  have a := rdNode_num x hx r
  have b := rdNode_num y hy s
  rw [h, b] at a
  simp only [Option.some.injEq, Prod.mk.injEq] at a
  exact ⟨a.1.symm, a.2.symm⟩
theorem abText_inj {x y u v : Nd} (hx : x.ok = true) (hy : y.ok = true) (hu : u.ok = true) (hv : v.ok = true) (h : abText x y = abText u v) : x = u ∧ y = v := by
  unfold abText at h
  by_cases h1 : x = Nd.E ∧ y = Nd.E
  · by_cases h2 : u = Nd.E ∧ v = Nd.E
    · exact ⟨h1.1.trans h2.1.symm, h1.2.trans h2.2.symm⟩
    · rw [if_pos h1, if_neg h2] at h
      simp at h
  · by_cases h2 : u = Nd.E ∧ v = Nd.E
    · rw [if_neg h1, if_pos h2] at h
      simp at h
    · rw [if_neg h1, if_neg h2] at h
      obtain ⟨e1, e2⟩ := bytes_inj hx hu (List.cons.inj h).2
      exact ⟨e1, (bytes_inj (r := []) (s := []) hy hv (by simpa using e2)).1⟩
theorem hdText_inj {n : Nat} {x u : Nd} (hx : x.ok = true) (hu : u.ok = true) (h : hdText n x = hdText n u) : x = u := by
  unfold hdText at h
  have := List.append_cancel_left (List.cons.inj h).2
  exact (bytes_inj (r := []) (s := []) hx hu (by simpa using this)).1
theorem dg_of {s t : List UInt8} (h1 : (dg s : Int) / 256 = (dg t : Int) / 256) (h2 : (dg s : Int) % 256 = (dg t : Int) % 256) : dg s = dg t := by omega
theorem ab_dg {x y u v : Nd} (h : ab x y = ab u v) : dg (abText x y) = dg (abText u v) := by
  rw [ab_eq, ab_eq] at h
  have h1 := congrArg Nd.h h
  have h2 := congrArg Nd.g h
  have h1' := congrArg (fun z : UInt8 => (z.toNat : Int)) h1
  have h2' := congrArg (fun z : UInt8 => (z.toNat : Int)) h2
  simp only [mkNd, u8_div, u8_mod] at h1' h2'
  exact dg_of h1' h2'
def nn (d : Nd) : Prop := 0 ≤ d.c ∧ 0 ≤ d.s ∧ (0 ≤ d.m ∧ d.m ≤ 34359738367) ∧ (0 ≤ d.x ∧ d.x ≤ 34359738367)
theorem nn_nb {n : Nat} {d : Nd} (h : nb n d) : nn d := by unfold nb at h; unfold nn; omega
theorem nn_ok {d : Nd} (h : d.ok = true) : nn d := nn_nb (nb_ok h)
theorem ok_nn {d : Nd} (h : nn d) : d.ok = true ↔ d.c ≤ 34359738367 ∧ d.s ≤ 34359738367 := by
  rw [Nd.ok_iff]
  simp only [isNum_iff]
  unfold nn at h
  omega
theorem nn_ex {d : Nd} (h : nn d) : nb (d.c.toNat + d.s.toNat) d := by unfold nn at h; unfold nb; omega
theorem nn_ab {x y : Nd} (hx : nn x) (hy : nn y) : nn (ab x y) := nn_nb (nb_ab (nn_ex hx) (nn_ex hy))
theorem ok_ab {x y : Nd} (hx : nn x) (hy : nn y) (h : (ab x y).ok = true) : x.ok = true ∧ y.ok = true := by
  have := (ok_nn (nn_ab hx hy)).1 h
  rw [ab_c, ab_s] at this
  rw [ok_nn hx, ok_nn hy]
  unfold nn at hx hy
  omega
theorem cmg_nn {g : Nat → Nat → Option Nd} (hg : ∀ a b d, g a b = some d → d.ok = true) : ∀ n a b, b - a ≤ n → nn (cmg g a b) := by
  intro n
  induction n with
  | zero =>
    intro a b h
    cases e : g a b with
    | some d => rw [cmg_known e]; exact nn_ok (hg a b d e)
    | none => rw [cmg_small e (by omega)]; exact nn_ok rfl
  | succ n ih =>
    intro a b h
    cases e : g a b with
    | some d => rw [cmg_known e]; exact nn_ok (hg a b d e)
    | none =>
      by_cases h2 : b < a + 2
      · rw [cmg_small e h2]; exact nn_ok rfl
      · have p := hf_pos (b - a)
        have q := hf_lt (b - a) (by omega)
        rw [cmg_above e (by omega)]
        exact nn_ab (ih _ _ (by omega)) (ih _ _ (by omega))
structure TrU (U : Nat → Nat → Nd) (N : Nat) : Prop where
  two : ∀ a b, a + 2 ≤ b → U a b = ab (U a (a + hf (b - a))) (U (a + hf (b - a)) b)
  ok : ∀ a b, b ≤ N → (U a b).ok = true
theorem tr_U {lf : Nat → Nd} (h : ∀ i, bd 1 (lf i)) : TrU (tr lf) 64 := ⟨fun a b h2 => tr_two lf a b h2, fun a b hb => bd_ok (tr_bd h (b - a) a b (Nat.le_refl _)) (by omega)⟩
section
variable {g : Nat → Nat → Option Nd} {U : Nat → Nat → Nd} {N : Nat}
theorem both_below (hg : ∀ a b d, g a b = some d → d.ok = true) (hU : TrU U N) {a b : Nat} (h : g a b = none) (h2 : a + 2 ≤ b) (hb : b ≤ N) (he : cmg g a b = U a b) :
    dg (abText (cmg g a (a + hf (b - a))) (cmg g (a + hf (b - a)) b)) = dg (abText (U a (a + hf (b - a))) (U (a + hf (b - a)) b)) ∧
    (abText (cmg g a (a + hf (b - a))) (cmg g (a + hf (b - a)) b) = abText (U a (a + hf (b - a))) (U (a + hf (b - a)) b) → cmg g a (a + hf (b - a)) = U a (a + hf (b - a)) ∧ cmg g (a + hf (b - a)) b = U (a + hf (b - a)) b) := by
  have q := hf_lt (b - a) (by omega)
  have hok := hU.ok a b hb
  rw [cmg_above h h2] at he
  rw [← he] at hok
  have ho := ok_ab (cmg_nn hg _ _ _ (Nat.le_refl _)) (cmg_nn hg _ _ _ (Nat.le_refl _)) hok
  rw [hU.two a b h2] at he
  exact ⟨ab_dg he, fun ht => abText_inj ho.1 ho.2 (hU.ok _ _ (by omega)) (hU.ok _ _ hb) ht⟩
theorem cld_clash (hg : ∀ a b d, g a b = some d → d.ok = true) (hU : TrU U N) : ∀ n a b, b - a ≤ n → b ≤ N → cmg g a b = U a b → ∀ p, cld g U a b = some p → p.1 ≠ p.2 ∧ dg p.1 = dg p.2 := by
  intro n
  induction n with
  | zero => intro a b h _ _ p hp; rw [cld_known (.inr (by omega))] at hp; cases hp
  | succ n ih =>
    intro a b h hb he p hp
    cases e : g a b with
    | some d => rw [cld_known (.inl (by rw [e]; rfl))] at hp; cases hp
    | none =>
      by_cases h2 : b < a + 2
      · rw [cld_known (.inr h2)] at hp; cases hp
      · have x := hf_pos (b - a)
        have y := hf_lt (b - a) (by omega)
        obtain ⟨h3, h4⟩ := both_below hg hU e (by omega) hb he
        rw [cld_above e (by omega)] at hp
        by_cases ht : abText (cmg g a (a + hf (b - a))) (cmg g (a + hf (b - a)) b) = abText (U a (a + hf (b - a))) (U (a + hf (b - a)) b)
        · rw [if_pos ht] at hp
          obtain ⟨e1, e2⟩ := h4 ht
          cases hc : cld g U a (a + hf (b - a)) with
          | some q => rw [hc] at hp; injection hp with hp; subst hp; exact ih _ _ (by omega) (by omega) e1 _ hc
          | none => rw [hc] at hp; exact ih _ _ (by omega) hb e2 _ hp
        · rw [if_neg ht] at hp
          injection hp with hp
          subst hp
          exact ⟨ht, h3⟩
theorem cld_in : ∀ n a b, b - a ≤ n → ∀ p, cld g U a b = some p → p ∈ prs g U a b := by
  intro n
  induction n with
  | zero => intro a b h p hp; rw [cld_known (.inr (by omega))] at hp; cases hp
  | succ n ih =>
    intro a b h p hp
    cases e : g a b with
    | some d => rw [cld_known (.inl (by rw [e]; rfl))] at hp; cases hp
    | none =>
      by_cases h2 : b < a + 2
      · rw [cld_known (.inr h2)] at hp; cases hp
      · have x := hf_pos (b - a)
        have y := hf_lt (b - a) (by omega)
        rw [cld_above e (by omega)] at hp
        rw [prs_above e (by omega)]
        simp only [List.mem_append, List.mem_singleton]
        by_cases ht : abText (cmg g a (a + hf (b - a))) (cmg g (a + hf (b - a)) b) = abText (U a (a + hf (b - a))) (U (a + hf (b - a)) b)
        · rw [if_pos ht] at hp
          cases hc : cld g U a (a + hf (b - a)) with
          | some q => rw [hc] at hp; injection hp with hp; subst hp; exact .inl (.inl (ih _ _ (by omega) _ hc))
          | none => rw [hc] at hp; exact .inl (.inr (ih _ _ (by omega) _ hp))
        · rw [if_neg ht] at hp
          injection hp with hp
          exact .inr hp.symm
theorem cld_none (hg : ∀ a b d, g a b = some d → d.ok = true) (hU : TrU U N) {a b : Nat} (h : g a b = none) (h2 : a + 2 ≤ b) (hb : b ≤ N) (he : cmg g a b = U a b) (hn : cld g U a b = none) :
    (cmg g a (a + hf (b - a)) = U a (a + hf (b - a)) ∧ cld g U a (a + hf (b - a)) = none) ∧ (cmg g (a + hf (b - a)) b = U (a + hf (b - a)) b ∧ cld g U (a + hf (b - a)) b = none) := by
  obtain ⟨_, h4⟩ := both_below hg hU h h2 hb he
  rw [cld_above h h2] at hn
  by_cases ht : abText (cmg g a (a + hf (b - a))) (cmg g (a + hf (b - a)) b) = abText (U a (a + hf (b - a))) (U (a + hf (b - a)) b)
  · rw [if_pos ht] at hn
    obtain ⟨e1, e2⟩ := h4 ht
    cases hc : cld g U a (a + hf (b - a)) with
    | some q => rw [hc] at hn; cases hn
    | none => rw [hc] at hn; exact ⟨⟨e1, rfl⟩, e2, hn⟩
  · rw [if_neg ht] at hn; cases hn
end
end Go.Proofs.YtogmdaopfnmobaaGreat

