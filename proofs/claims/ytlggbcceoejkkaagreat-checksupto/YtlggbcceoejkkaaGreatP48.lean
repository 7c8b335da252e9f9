/- The source of a proof: a map from parts to nodes. -/
import Derived.Maps.OwnOps
import Derived.Maps.OwnIn
import Derived.DeepKeys4
import Derived.Test.YtlggbcceoejkkaaGreatP40
import Derived.Test.YtlggbcceoejkkaaGreatP42
import Derived.Test.YtlggbcceoejkkaaGreatP47
namespace Go.Proofs.YtlggbcceoejkkaaGreat
open Go.RowKit Go.Maps Go.WideMaps

theorem laid_out' : laidOutB Tryz.prog = true := by kernel_rfl
theorem part_row : (112 : TypeId) < Tryz.prog.types.size := of_decide_eq_true (by kernel_rfl)
theorem part_wide : (match Tryz.prog.underlying 112 with | some (.array _ _) | some (.struct _) => true | _ => false) = true := by rw [Tryz.underlying112]
set_option maxRecDepth 100000 in
theorem part_law : KeyLaw Tryz.prog 112 := deep_law_laid laid_out' (m := 2) (by omega) part_row (by kernel_rfl) part_wide
set_option maxRecDepth 100000 in
theorem part_keyed : Keyed Tryz.prog 112 := Keyed.of_law part_law
theorem cells_part : Tryz.prog.cellsOf 112 = 2 := by kernel_rfl
theorem cells_int : Tryz.prog.cellsOf 3 = 1 := by kernel_rfl
theorem part_keyType : Tryz.prog.keyType 112 = true := by kernel_rfl
set_option maxRecDepth 100000 in
theorem part_some (a b : Nat) (ha : a ≤ 1000000) (hb : b ≤ 1000000) : ∃ l, keyOf Tryz.prog 112 (paV a b) = some l := by
  have hf : (paV a b).formed Tryz.prog 112 = true := by simp [paV, Value.formed, Tryz.underlying112, cells_part]
  obtain ⟨k, hk⟩ : ∃ k, Tryz.prog.types.size = k + 1 := ⟨Tryz.prog.types.size - 1, (Nat.succ_pred_eq_of_pos (Nat.lt_of_le_of_lt (Nat.zero_le _) part_row)).symm⟩
  have wa : (Lit.int .i64 (a : Int)).wf = true := WalkArith.wf_i64 (by omega)
  have wb : (Lit.int .i64 (b : Int)).wf = true := WalkArith.wf_i64 (by omega)
  have hl : ∃ ls, Tryz.prog.keyLits (Tryz.prog.types.size + 1) 112 (paV a b).cells.toList = some ls := by
    rw [hk]
    refine ⟨[.int .i64 a, .int .i64 b], ?_⟩
    simp [Program.keyLits, Tryz.underlying112, Tryz.underlying3, cells_part, cells_int, paV, Value.cells, wa, wb]
  obtain ⟨ls, hls⟩ := hl
  refine ⟨.string (keyBytes ls), ?_⟩
  unfold keyOf
  rw [Tryz.underlying112]
  simp only [part_keyType, hf, Bool.and_self, if_true, hls, Option.map_some]
/-- What a part reads as, as a key. -/
noncomputable def pKey (a b : Nat) : Lit := (keyOf Tryz.prog 112 (paV a b)).getD .nil
theorem pKey_eq (a b : Nat) (ha : a ≤ 1000000) (hb : b ≤ 1000000) : keyOf Tryz.prog 112 (paV a b) = some (pKey a b) := by
  obtain ⟨l, hl⟩ := part_some a b ha hb
  rw [pKey, hl]; rfl
set_option maxRecDepth 100000 in
theorem pKey_inj {a b c d : Nat} (ha : a ≤ 1000000) (hb : b ≤ 1000000) (hc : c ≤ 1000000) (hd : d ≤ 1000000) (h : pKey a b = pKey c d) : a = c ∧ b = d := by
  have := part_keyed.inj (pKey_eq a b ha hb) (by rw [h]; exact pKey_eq c d hc hd)
  simp [paV] at this
  omega
set_option maxRecDepth 100000 in
theorem pKey_lit (a b : Nat) (ha : a ≤ 1000000) (hb : b ≤ 1000000) : WideAt.IsKeyLit (pKey a b) := part_keyed.key (pKey_eq a b ha hb)

theorem ndV_inj {d e : Nd} (h : ndV d = ndV e) : d = e := by
  obtain ⟨c, s, m, x, p, q⟩ := d
  obtain ⟨c', s', m', x', p', q'⟩ := e
  simp only [ndV, Value.agg.injEq] at h
  simp at h
  obtain ⟨rfl, rfl, rfl, rfl, h5, h6⟩ := h
  have : p = p' := UInt8.toNat_inj.1 (by omega)
  have : q = q' := UInt8.toNat_inj.1 (by omega)
  subst_vars
  rfl
open Classical in
/-- How a node reads, as a map's element. -/
noncomputable def ndR (v : Value) : Option (DataW Nd × List MemPlace) := if h : ∃ d, v = ndV d then some (.held h.choose, []) else none
theorem ndR_eq (d : Nd) : ndR (ndV d) = some (.held d, []) := by
  have h : ∃ e, ndV d = ndV e := ⟨d, rfl⟩
  unfold ndR
  rw [dif_pos h]
  rw [← ndV_inj h.choose_spec]
theorem ndR_inv {v : Value} {x : DataW Nd} {ps : List MemPlace} (h : ndR v = some (x, ps)) : ∃ d, v = ndV d ∧ x = .held d := by
  unfold ndR at h
  split at h
  · rename_i hx
    simp at h
    exact ⟨hx.choose, hx.choose_spec, h.1.symm⟩
  · cases h
/-- What the proof's parts come to, the last one that was laid there. -/
def gL : List (Sp × Nd) → Nat → Nat → Option Nd
  | [], _, _ => none
  | q :: qs, a, b => match gL qs a b with | some d => some d | none => if q.1.a = a ∧ q.1.b = b then some q.2 else none
theorem gL_append (l r : List (Sp × Nd)) (a b : Nat) : gL (l ++ r) a b = match gL r a b with | some d => some d | none => gL l a b := by
  induction l with
  | nil => simp [gL]; cases gL r a b <;> rfl
  | cons q l ih =>
    simp only [List.cons_append, gL, ih]
    cases gL r a b <;> rfl
theorem gL_snoc (l : List (Sp × Nd)) (p : Sp) (d : Nd) (a b : Nat) : gL (l ++ [(p, d)]) a b = if p.a = a ∧ p.b = b then some d else gL l a b := by
  rw [gL_append]
  simp only [gL]
  by_cases h : p.a = a ∧ p.b = b <;> simp [h]
/-- A map that reads so. -/
structure PrfD (D : DataW Nd) (g : Nat → Nat → Option Nd) : Prop where
  has : ∀ a b, a ≤ 64 → b ≤ 64 → Maps.has D (pKey a b) = (g a b).isSome
  at' : ∀ a b d, a ≤ 64 → b ≤ 64 → g a b = some d → ∀ z, D.atKey (pKey a b) z = .held d
  is : IsMap D
set_option maxRecDepth 100000 in
theorem PrfD.put {D : DataW Nd} {qs : List (Sp × Nd)} (h : PrfD D (gL qs)) (p : Sp) (d : Nd) (ha : p.a ≤ 64) (hb : p.b ≤ 64) : PrfD (D.put (pKey p.a p.b) (.held d)) (gL (qs ++ [(p, d)])) := by
  have hl := pKey_lit p.a p.b (by omega) (by omega)
  refine ⟨fun a b h1 h2 => ?_, fun a b e h1 h2 he z => ?_, h.is.put _ _⟩
  · rw [gL_snoc]
    by_cases c : p.a = a ∧ p.b = b
    · rw [if_pos c, ← c.1, ← c.2]; exact has_put_same h.is hl _
    · rw [if_neg c, has_put_other (fun e => c (by have := pKey_inj (by omega) (by omega) (by omega) (by omega) e; omega))]; exact h.has a b h1 h2
  · rw [gL_snoc] at he
    by_cases c : p.a = a ∧ p.b = b
    · rw [if_pos c] at he; cases he; rw [← c.1, ← c.2]; exact atKey_put_same h.is hl _ _
    · rw [if_neg c] at he; rw [atKey_put_other (fun e => c (by have := pKey_inj (by omega) (by omega) (by omega) (by omega) e; omega))]; exact h.at' a b e h1 h2 he z
theorem prf_empty : PrfD (.map []) (gL []) := ⟨fun _ _ _ _ => rfl, fun _ _ _ _ _ h => by simp [gL] at h, isMap_empty⟩
theorem zero_node (w : World) : (zeroValue 46).run Tryz.prog w = .ok (ndV nd0) w := by kernel_rfl

/-- The map lies in a box. -/
def pfK (B M : Nat) (g : Nat → Nat → Option Nd) (w : World) : Prop := Boxed w B 180 (.map (some M)) ∧ ∃ n D, w.ownsMap Tryz.prog 112 ndR M n D ∧ PrfD D g

set_option maxHeartbeats 2000000 in
set_option maxRecDepth 100000 in
theorem ofProof1_any (B M : Nat) (g : Nat → Nat → Option Nd) (a b : Nat) (w : World) (hK : pfK B M g w) (ha : a ≤ 64) (hb : b ≤ 64) :
    Calls Tryz.prog 117 #[paV a b, .pointer (some ⟨B, 0, none⟩)] w fun e w' => e = .returned (.tuple #[ndV ((g a b).getD nd0), .bool (g a b).isSome]) ∧ Below w.heap.size w w' := by
  obtain ⟨hbx, n, D, hown, hD⟩ := hK
  have hth := hD.has a b ha hb
  have hat : ∀ v ps, ndR v = some (D.atKey (pKey a b) (.held nd0), ps) → v = ndV ((g a b).getD nd0) := fun v ps hv => by
    obtain ⟨d, rfl, e⟩ := ndR_inv hv
    cases hg : g a b with
    | some u =>
      rw [hD.at' a b u ha hb hg] at e
      cases e; rfl
    | none =>
      rw [atKey_of_not_has (by rw [hth, hg]; rfl)] at e
      cases e; rfl
  have HAT := hid hat
  have hkey := pKey_eq a b (by omega) (by omega)
  have hcb := hbx.cell
  have hlt := hbx.lt
  have o1 := hown.alloc (.cells #[.int .i64 a, .int .i64 b] 112)
  have o2 := o1.alloc (.cells #[.int .i64 0, .int .i64 0, .int .i64 0, .int .i64 0, .int .u8 0, .int .u8 0] 46)
  have c2 := cell_old (.cells #[.int .i64 0, .int .i64 0, .int .i64 0, .int .i64 0, .int .u8 0, .int .u8 0] 46) (cell_old (.cells #[.int .i64 a, .int .i64 b] 112) hcb)
  clear hown hD hbx hat o1 hcb
  generalize (g a b).getD nd0 = d at HAT ⊢
  generalize (g a b).isSome = t at hth ⊢
  have hzr := ndR_eq nd0
  unfold paV at hkey ⊢
  go_enter Tryz.func117, Tryz.ntmps117
  go_wp2_with (at_lookup; refine wpList_lookup_own_ok _ rfl _ _ 180 rfl 112 46 part_keyed Tryz.underlying180 ndR (zero_node _) (.held nd0) [] hzr M n D rfl o2 _ _ rfl hkey ?_; intro v ps hv; rw [hth]; obtain rfl := HAT.out v ps hv; clear hv; unfold ndV)
  refine ret_nodeB Tryz.results117 ((Six.at (w.alloc _) (w.heap.size + 1) (by simp) _ _ _ _ _ _).alloc _) rfl rfl ⟨rfl, ?_⟩
  exact (((Below.refl _ _).alloc (Nat.le_refl _) _).alloc (by simp) _).alloc (by simp; omega) _
theorem ownsMapN_below {w w' : World} {k : TypeId} {R : Value → Option (DataW Nd × List MemPlace)} {b n : Nat} {D : DataW Nd} (h : w.ownsMap Tryz.prog k R b n D) (hb : Below w.heap.size w w') : w'.ownsMap Tryz.prog k R b n D :=
  h.kept (row := none) ⟨hb.os, hb.tape, hb.output, hb.size, fun k hk _ => hb.block k hk⟩ (by simp)
theorem pfK.later {B M : Nat} {g : Nat → Nat → Option Nd} {w w' : World} (h : pfK B M g w) (hb : Below w.heap.size w w') : pfK B M g w' := by
  obtain ⟨h1, n, D, h2, h3⟩ := h
  exact ⟨(hb.block B h1.lt).trans h1, n, D, ownsMapN_below h2 hb, h3⟩
theorem prf_src (B M N : Nat) (g : Nat → Nat → Option Nd) (hN : N ≤ 64) : Src 117 B (pfK B M g) N g where
  enters := enters_of Tryz.func117 (by kernel_rfl) rfl
  keep _ _ h hb := h.later hb
  call a b w h hab hb := ofProof1_any B M g a b w h (by omega) (by omega)

end Go.Proofs.YtlggbcceoejkkaaGreat

/- What a proof's nodes come to, as mathematics: worked out by parts, and as the program asks for it. -/
namespace Go.Proofs.YtlggbcceoejkkaaGreat
open Go.RowKit

/-- What the nodes come to for the places from a on and ahead of b. -/
def cm (a b f t : Nat) (ns : List Nd) : Nd :=
  if isOut a b f t = true ∨ isIn a b f t = true ∨ b < a + 2 then ns.headD .E else ab (cm a (a + hf (b - a)) f t ns) (cm (a + hf (b - a)) b f t (ns.drop (cov a (a + hf (b - a)) f t).length))
termination_by b - a
decreasing_by
  · have := hf_lt (b - a) (by omega); omega
  · have := hf_pos (b - a); omega
theorem cm_one {a b f t : Nat} (ns : List Nd) (h : isOut a b f t = true ∨ isIn a b f t = true ∨ b < a + 2) : cm a b f t ns = ns.headD .E := by rw [cm, if_pos h]
theorem cm_two {a b f t : Nat} (ns : List Nd) (h : ¬ (isOut a b f t = true ∨ isIn a b f t = true ∨ b < a + 2)) : cm a b f t ns = ab (cm a (a + hf (b - a)) f t ns) (cm (a + hf (b - a)) b f t (ns.drop (cov a (a + hf (b - a)) f t).length)) := by rw [cm, if_neg h]
theorem cov_1 {a b f t : Nat} (h : isOut a b f t = true ∨ isIn a b f t = true ∨ b < a + 2) : cov a b f t = [⟨a, b, isIn a b f t⟩] := by rw [cov, if_pos h]
theorem cov_2 {a b f t : Nat} (h : ¬ (isOut a b f t = true ∨ isIn a b f t = true ∨ b < a + 2)) : cov a b f t = cov a (a + hf (b - a)) f t ++ cov (a + hf (b - a)) b f t := by rw [cov, if_neg h]

/-- At most n nodes' worth. -/
def nb (n : Nat) (d : Nd) : Prop := (0 ≤ d.c ∧ d.c ≤ 34359738367 * n) ∧ (0 ≤ d.s ∧ d.s ≤ 34359738367 * n) ∧ (0 ≤ d.m ∧ d.m ≤ 34359738367) ∧ (0 ≤ d.x ∧ d.x ≤ 34359738367)
theorem nb_ok {d : Nd} (h : d.ok = true) : nb 1 d := by
  have := (Nd.ok_iff d).1 h
  simp only [isNum_iff] at this
  unfold nb; omega
theorem nb_E : nb 1 .E := nb_ok rfl
theorem nb_ab {n m : Nat} {x y : Nd} (hx : nb n x) (hy : nb m y) : nb (n + m) (ab x y) := by
  have e1 : (ab x y).c = x.c + y.c := congrArg Fo.c (ab_fold x y)
  have e2 : (ab x y).s = x.s + y.s := congrArg Fo.s (ab_fold x y)
  have e3 : (ab x y).m = if x.c = 0 then y.m else if y.c = 0 then x.m else min x.m y.m := congrArg Fo.m (ab_fold x y)
  have e4 : (ab x y).x = if x.c = 0 then y.x else if y.c = 0 then x.x else max x.x y.x := congrArg Fo.x (ab_fold x y)
  unfold nb at hx hy ⊢
  rw [e1, e2, e3, e4]
  refine ⟨by omega, by omega, ?_, ?_⟩
  · by_cases h1 : x.c = 0
    · rw [if_pos h1]; exact hy.2.2.1
    · rw [if_neg h1]
      by_cases h2 : y.c = 0
      · rw [if_pos h2]; exact hx.2.2.1
      · rw [if_neg h2]; omega
  · by_cases h1 : x.c = 0
    · rw [if_pos h1]; exact hy.2.2.2
    · rw [if_neg h1]
      by_cases h2 : y.c = 0
      · rw [if_pos h2]; exact hx.2.2.2
      · rw [if_neg h2]; omega
theorem ok_nb {n : Nat} {d : Nd} (h : nb n d) : d.ok = true ↔ d.c ≤ 34359738367 ∧ d.s ≤ 34359738367 := by
  rw [Nd.ok_iff]
  simp only [isNum_iff]
  unfold nb at h
  omega
theorem mid_nb {n : Nat} {d : Nd} (h : nb n d) (hn : n ≤ 64) : d.mid := by
  unfold nb at h
  unfold Nd.mid
  omega
theorem ab_c (x y : Nd) : (ab x y).c = x.c + y.c := by have := congrArg Fo.c (ab_fold x y); exact this
theorem ab_s (x y : Nd) : (ab x y).s = x.s + y.s := by have := congrArg Fo.s (ab_fold x y); exact this
/-- The numbers of what the nodes come to. -/
theorem cm_nb (f t : Nat) : ∀ (n a b : Nat) (ns : List Nd), b - a ≤ n → (∀ d ∈ ns, d.ok = true) → nb (cov a b f t).length (cm a b f t ns) := by
  intro n
  induction n with
  | zero =>
    intro a b ns h hok
    rw [cm_one ns (.inr (.inr (by omega))), cov_1 (.inr (.inr (by omega)))]
    cases ns with
    | nil => exact nb_E
    | cons d r => exact nb_ok (hok d (by simp))
  | succ n ih =>
    intro a b ns h hok
    by_cases hs : isOut a b f t = true ∨ isIn a b f t = true ∨ b < a + 2
    · rw [cm_one ns hs, cov_1 hs]
      cases ns with
      | nil => exact nb_E
      | cons d r => exact nb_ok (hok d (by simp))
    · have p := hf_pos (b - a)
      have q := hf_lt (b - a) (by omega)
      rw [cm_two ns hs, cov_2 hs, List.length_append]
      exact nb_ab (ih a _ ns (by omega) hok) (ih _ b _ (by omega) (fun d hd => hok d (List.mem_of_mem_drop hd)))

theorem gL_none {qs : List (Sp × Nd)} {a b : Nat} (h : ∀ q ∈ qs, ¬ (q.1.a = a ∧ q.1.b = b)) : gL qs a b = none := by
  induction qs with
  | nil => rfl
  | cons q qs ih =>
    simp only [gL, ih (fun x hx => h x (by simp [hx])), if_neg (h q (by simp))]
/-- By the parts that are known, a part comes to what its nodes come to. -/
theorem comes_cm (f t : Nat) : ∀ (n a b : Nat) (ns : List Nd) (pre post : List (Sp × Nd)), b - a ≤ n → a ≤ b → b ≤ 64 → (cov a b f t).length ≤ ns.length → (∀ d ∈ ns, d.ok = true) → (a = b → pre = [] ∧ post = []) → (∀ q ∈ pre, q.1.b ≤ a) → (∀ q ∈ post, b ≤ q.1.a) →
    Comes (gL (pre ++ (cov a b f t).zip ns ++ post)) a b (cm a b f t ns) := by
  intro n
  induction n with
  | zero =>
    intro a b ns pre post h hab hb hl hok h0 hp hq
    obtain ⟨rfl, rfl⟩ := h0 (by omega)
    rw [cm_one ns (.inr (.inr (by omega)))]
    rw [cov_1 (.inr (.inr (by omega)))] at hl ⊢
    cases ns with
    | nil => simp at hl
    | cons d r => exact .known (by simp [gL])
  | succ n ih =>
    intro a b ns pre post h hab hb hl hok h0 hp hq
    by_cases hs : isOut a b f t = true ∨ isIn a b f t = true ∨ b < a + 2
    · rw [cm_one ns hs]
      rw [cov_1 hs] at hl ⊢
      cases ns with
      | nil => simp at hl
      | cons d r =>
        refine .known ?_
        by_cases e : a = b
        · obtain ⟨rfl, rfl⟩ := h0 e
          simp [gL]
        · have hz : gL post a b = none := gL_none (fun q hq' c => by have := hq q hq'; omega)
          rw [gL_append, hz, gL_append]
          simp [gL]
    · have p := hf_pos (b - a)
      have q := hf_lt (b - a) (by omega)
      have hlm := cov_mem f t n a (a + hf (b - a)) (by omega) (by omega)
      have hrm := cov_mem f t n (a + hf (b - a)) b (by omega) (by omega)
      rw [cov_2 hs, List.length_append] at hl
      have hz : (cov a b f t).zip ns = (cov a (a + hf (b - a)) f t).zip (ns.take (cov a (a + hf (b - a)) f t).length) ++ (cov (a + hf (b - a)) b f t).zip (ns.drop (cov a (a + hf (b - a)) f t).length) := by
        rw [cov_2 hs]
        conv => lhs; rw [← List.take_append_drop (cov a (a + hf (b - a)) f t).length ns]
        rw [List.zip_append (by simp; omega)]
      have hzt : (cov a (a + hf (b - a)) f t).zip (ns.take (cov a (a + hf (b - a)) f t).length) = (cov a (a + hf (b - a)) f t).zip ns := by
        have := List.zip_append (l₁ := cov a (a + hf (b - a)) f t) (r₁ := []) (l₂ := ns.take (cov a (a + hf (b - a)) f t).length) (r₂ := ns.drop (cov a (a + hf (b - a)) f t).length) (by simp; omega)
        simp only [List.append_nil, List.take_append_drop, List.zip_nil_left] at this
        exact this.symm
      rw [cm_two ns hs, hz, hzt]
      have key : ∀ qq ∈ pre ++ ((cov a (a + hf (b - a)) f t).zip ns ++ (cov (a + hf (b - a)) b f t).zip (ns.drop (cov a (a + hf (b - a)) f t).length)) ++ post, ¬ (qq.1.a = a ∧ qq.1.b = b) := by
        intro qq hqq c
        simp only [List.mem_append] at hqq
        rcases hqq with (h1 | h1 | h1) | h1
        · have := hp qq h1; omega
        · have := hlm qq.1 (List.of_mem_zip h1).1; omega
        · have := hrm qq.1 (List.of_mem_zip h1).1; omega
        · have := hq qq h1; omega
      refine .above (gL_none key) (by omega) ?_ ?_ (mid_nb (cm_nb f t n a _ ns (by omega) hok) ?_) (mid_nb (cm_nb f t n _ b _ (by omega) (fun d hd => hok d (List.mem_of_mem_drop hd))) ?_)
      · have := ih a (a + hf (b - a)) ns pre ((cov (a + hf (b - a)) b f t).zip (ns.drop (cov a (a + hf (b - a)) f t).length) ++ post) (by omega) (by omega) (by omega) (by omega) hok (fun e => by omega) hp (fun qq h1 => by
          rcases List.mem_append.1 h1 with h1 | h1
          · exact (hrm qq.1 (List.of_mem_zip h1).1).1
          · have := hq qq h1; omega)
        simpa [List.append_assoc] using this
      · have := ih (a + hf (b - a)) b (ns.drop (cov a (a + hf (b - a)) f t).length) (pre ++ (cov a (a + hf (b - a)) f t).zip ns) post (by omega) (by omega) hb (by simp; omega) (fun d hd => hok d (List.mem_of_mem_drop hd)) (fun e => by omega) (fun qq h1 => by
          rcases List.mem_append.1 h1 with h1 | h1
          · have := hp qq h1; omega
          · exact (hlm qq.1 (List.of_mem_zip h1).1).2.2.1) hq
        simpa [List.append_assoc] using this
      · have := (cov_len f t (hf (b - a)) a (a + hf (b - a)) (by omega)).2; omega
      · have := (cov_len f t (b - (a + hf (b - a))) (a + hf (b - a)) b (by omega)).2; omega

end Go.Proofs.YtlggbcceoejkkaaGreat

/- The source of a proof: OfProof. -/
namespace Go.Proofs.YtlggbcceoejkkaaGreat
open Go.RowKit Go.Maps Go.Shelf
attribute [local go_sem] Oper.semAt_some

theorem nodes_tl {w : World} {B b off n cap cap' off' : Nat} {d : Nd} {r : List Nd} (h : Nodes w B (.slice (some ⟨b, off, none⟩) n cap) (d :: r)) (ho : r = [] ∨ off' = off + 6) : Nodes w B (.slice (some ⟨b, off', none⟩) r.length cap') r := by
  obtain ⟨ao, cp, hv, hl, hc⟩ := h.ex
  refine ⟨_, cap', rfl, by simp at hl; omega, fun i hi => ?_⟩
  obtain ⟨b', o', e1, hb, hcs⟩ := hc (i + 1) (by simp; omega)
  simp only [Value.slice.injEq] at hv
  rw [← hv.1] at e1
  simp at e1
  obtain ⟨rfl, rfl⟩ := e1
  rcases ho with rfl | rfl
  · simp at hi
  · refine ⟨b, off + 6, rfl, hb, fun j hj => ?_⟩
    have := hcs j hj
    simp only [List.getElem_cons_succ] at this
    rw [← this]
    congr 2
    omega
theorem nodes_hd {w : World} {B n cap : Nat} {ao : Option Addr} {d : Nd} {r : List Nd} (h : Nodes w B (.slice ao n cap) (d :: r)) : ∃ b off, ao = some ⟨b, off, none⟩ ∧ b < B ∧ (w.cell? ⟨b, off, none⟩ = some (.int .i64 d.c) ∧ w.cell? ⟨b, off + 1, none⟩ = some (.int .i64 d.s) ∧ w.cell? ⟨b, off + 2, none⟩ = some (.int .i64 d.m) ∧ w.cell? ⟨b, off + 3, none⟩ = some (.int .i64 d.x) ∧ w.cell? ⟨b, off + 4, none⟩ = some (.int .u8 (d.h.toNat : Int)) ∧ w.cell? ⟨b, off + 5, none⟩ = some (.int .u8 (d.g.toNat : Int))) := by
  obtain ⟨ao', cp, hv, hl, hc⟩ := h.ex
  obtain ⟨b, off, e1, hb, hcs⟩ := hc 0 (by simp)
  simp only [Value.slice.injEq] at hv
  rw [← hv.1] at e1
  refine ⟨b, off, e1, hb, ?_, ?_, ?_, ?_, ?_, ?_⟩
  · simpa [Nd.cells] using hcs 0 (by omega)
  · simpa [Nd.cells] using hcs 1 (by omega)
  · simpa [Nd.cells] using hcs 2 (by omega)
  · simpa [Nd.cells] using hcs 3 (by omega)
  · simpa [Nd.cells] using hcs 4 (by omega)
  · simpa [Nd.cells] using hcs 5 (by omega)

/-- What OfProof leaves between two rounds. -/
structure OfI (w : World) (s : Nat) (ns : List Nd) (l : List Sp) (W : World) : Prop where
  len : l.length ≤ ns.length
  nds : ∃ ao cap, Boxed W (s + 1) 39 (.slice ao (ns.drop l.length).length cap) ∧ (ns.drop l.length).length ≤ cap ∧ cap ≤ 9223372036854775807 ∧ Nodes w s (.slice ao (ns.drop l.length).length cap) (ns.drop l.length)
  rf : Boxed W (s + 2) 114 .nilFunc
  rb : Boxed W (s + 3) 4 (.bool false)
  map : ∃ D, W.ownsMap Tryz.prog 112 ndR (s + 4) l.length D ∧ PrfD D (gL (l.zip ns))
  mb : Boxed W (s + 5) 180 (.map (some (s + 4)))
  below : Below s w W
  big : s + 8 ≤ W.heap.size
theorem ofI_own (w : World) (ns : List Nd) (B' : Nat) (hB : w.heap.size + 8 ≤ B') {α : Type} (g : α → List Sp) : OwnFrom B' (fun (ys : α) W => OfI w w.heap.size ns (g ys) W) := fun s X Y row h hg hr => by
  obtain ⟨ao, cap, n1, n2⟩ := h.nds
  obtain ⟨D, m1, m2⟩ := h.map
  exact ⟨h.len, ⟨ao, cap, cells_kept n1 hg hr, n2⟩, cells_kept h.rf hg hr, cells_kept h.rb hg hr, ⟨D, m1.kept hg (fun e => by have := (hr _ e.symm).1; omega), m2⟩, cells_kept h.mb hg hr, ownFrom_below (w₀ := w) (Nat.le_refl _) (Nat.le_trans (by omega) hB) () X Y row h.below hg hr, Nat.le_trans h.big hg.size⟩
theorem OfI.later {w : World} {s : Nat} {ns : List Nd} {l : List Sp} {W W' : World} (h : OfI w s ns l W) (hs : s ≤ W.heap.size) (hb : Below W.heap.size W W') : OfI w s ns l W' := by
  obtain ⟨ao, cap, n1, n2⟩ := h.nds
  obtain ⟨D, m1, m2⟩ := h.map
  exact ⟨h.len, ⟨ao, cap, (hb.block _ n1.lt).trans n1, n2⟩, (hb.block _ h.rf.lt).trans h.rf, (hb.block _ h.rb.lt).trans h.rb, ⟨D, ownsMapN_below m1 hb, m2⟩, (hb.block _ h.mb.lt).trans h.mb, h.below.trans (hb.mono hs), Nat.le_trans h.big hb.size⟩
/-- A round that has found no node. -/
structure OfX (w : World) (s : Nat) (ns : List Nd) (c : Code) (l : List Sp) (W : World) : Prop where
  ret : c = .ret
  len : l.length = ns.length + 1
  rf : Boxed W (s + 2) 114 .nilFunc
  rb : Boxed W (s + 3) 4 (.bool false)
  below : Below s w W
theorem ofX_own (w : World) (ns : List Nd) (c : Code) (B' : Nat) (hB : w.heap.size ≤ B') {α : Type} (g : α → List Sp) : OwnFrom B' (fun (ys : α) W => OfX w w.heap.size ns c (g ys) W) := fun _ X Y row h hg hr =>
  ⟨h.ret, h.len, cells_kept h.rf hg hr, cells_kept h.rb hg hr, ownFrom_below (w₀ := w) (Nat.le_refl _) hB () X Y row h.below hg hr⟩
/-- A round that has taken a node. -/
theorem OfI.take {w : World} {s : Nat} {ns : List Nd} {l : List Sp} {W w1 : World} {p : Sp} {d : Nd} {r : List Nd} {v' : Value} {D : DataW Nd} {ao : Option Addr} {cap : Nat} (h : OfI w s ns l W) (hdr : ns.drop l.length = d :: r) (hp : p.a ≤ 64 ∧ p.b ≤ 64) (hD : PrfD D (gL (l.zip ns)))
    (hown : w1.ownsMap Tryz.prog 112 ndR (s + 4) (l.length + 1) (D.put (pKey p.a p.b) (.held d))) (hg : W.drew.grownBy w1 (some (s + 4))) (hv : v' = .slice ao r.length cap) (hc1 : r.length ≤ cap) (hc2 : cap ≤ 9223372036854775807) (hN : Nodes w s v' r) :
    OfI w s ns (l ++ [p]) (w1.setCell ⟨s + 1, 0, none⟩ v') ∧ KeepsT 112 W (w1.setCell ⟨s + 1, 0, none⟩ v') ∧ ∀ B, s + 4 < B → KeepsFrom B W (w1.setCell ⟨s + 1, 0, none⟩ v') := by
  obtain ⟨ao0, cap0, n1, n2⟩ := h.nds
  have hlen : l.length < ns.length := by
    have := congrArg List.length hdr
    simp at this
    omega
  have hdr2 : ns.drop (l ++ [p]).length = r := by
    rw [List.length_append, List.length_singleton, ← List.drop_drop, hdr]; rfl
  have hget : ns[l.length] = d := by
    have : (ns.drop l.length)[0]? = some d := by rw [hdr]; rfl
    rw [List.getElem?_drop, Nat.add_zero, List.getElem?_eq_getElem hlen] at this
    simpa using this
  have hz : (l ++ [p]).zip ns = l.zip ns ++ [(p, d)] := by
    have e : ns = ns.take l.length ++ (d :: r) := by rw [← hdr, List.take_append_drop]
    have hl : l.length = (ns.take l.length).length := by simp; omega
    have e1 : l.zip ns = l.zip (ns.take l.length) := by
      conv => lhs; rw [e]
      have := List.zip_append (l₁ := l) (r₁ := []) (r₂ := d :: r) hl
      simpa using this
    rw [e1]
    conv => lhs; rw [e]
    rw [List.zip_append hl]
    simp
  have blk : ∀ {cs : Array Value} {t : TypeId} {k : Nat} {fr : Nat × Nat}, W.heap[k]? = some (.cells cs t fr) → k ≠ s + 1 → (w1.setCell ⟨s + 1, 0, none⟩ v').heap[k]? = some (.cells cs t fr) := fun h0 hne => by
    refine (Below.heap_setCell _ _ _ _ hne).trans ((hg.block _ (Array.getElem?_eq_some_iff.1 h0).1 (fun e => ?_)).trans h0)
    obtain ⟨D', ⟨es, cl, hm, _⟩, _⟩ := h.map
    cases e
    rw [hm] at h0; cases h0
  have hbox : w1.heap[s + 1]? = W.heap[s + 1]? := hg.block _ n1.lt (by simp)
  refine ⟨⟨by simp; omega, ⟨ao, cap, ?_, ?_, hc2, ?_⟩, blk h.rf (by omega), blk h.rb (by omega), ⟨_, ?_, by rw [hz]; exact hD.put p d hp.1 hp.2⟩, blk h.mb (by omega), ?_, ?_⟩, ⟨?_, fun k cs fr h0 => ?_⟩, fun B hB => ?_⟩
  · rw [hdr2, ← hv]
    exact Boxed.set v' (show Boxed w1 (s + 1) _ _ from hbox.trans n1)
  · rw [hdr2]; exact hc1
  · rw [hdr2, ← hv]; exact hN
  · rw [List.length_append, List.length_singleton]
    exact hown.kept (grownBy_setCell' w1 (s + 1) v') (by simp)
  · exact (h.below.drew.grown hg (by show s ≤ W.heap.size; have := h.big; omega) (fun k e => by cases e; omega)).setCell (p := ⟨s + 1, 0, none⟩) (by show s ≤ s + 1; omega) _
  · have := hg.size; have := h.big; simp at *; omega
  · have := hg.size; simp at *; omega
  · refine blk h0 (fun e => ?_)
    subst e
    rw [show W.heap[s + 1]? = _ from n1] at h0
    simp at h0
  · have k := ((KeepsFrom.of_grownBy hg (fun j e => by cases e; exact hB)) : KeepsFrom B W.drew w1).trans ((KeepsOthers.setCell w1 ⟨s + 1, 0, none⟩ v').from _)
    exact ⟨k.size, k.same⟩

end Go.Proofs.YtlggbcceoejkkaaGreat

