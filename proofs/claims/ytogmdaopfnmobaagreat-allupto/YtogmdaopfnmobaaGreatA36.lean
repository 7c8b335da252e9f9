/- What sum does: over the values of a table. -/
import Derived.Sort.MapsRangeIn
import Derived.Maps.OwnSet
import Derived.Test.YtogmdaopfnmobaaGreatA35
namespace Go.Proofs.YtogmdaopfnmobaaGreat
open Go.RowKit Go.Shelf Go.Maps
attribute [local go_sem] Oper.semAt_some
def tget (t : List (Option Int)) (k : Int) : Option Int := if 0 ≤ k then t.getD k.toNat none else none
structure TabD (D : DataW Unit) (t : List (Option Int)) : Prop where
  has : ∀ k, Maps.has D (.int .i64 k) = (tget t k).isSome
  at' : ∀ k v, tget t k = some v → ∀ z, D.atKey (.int .i64 k) z = .lit (.int .i64 v)
  tidy : Tidy D
  sz : Maps.size D = t.countP (·.isSome)
def TabM (w : World) (M : Nat) (t : List (Option Int)) : Prop := ∃ D : DataW Unit, w.ownsMap Tryz.prog 3 (plainElem Tryz.prog 3) M 32 D ∧ TabD D t
theorem ownsMap_exact {w : World} {k : TypeId} {R : Value → Option (DataW Unit × List MemPlace)} {b n m : Nat} {D : DataW Unit} (h : w.ownsMap Tryz.prog k R b n D) (hm : Maps.size D ≤ m) : w.ownsMap Tryz.prog k R b m D := by
  obtain ⟨es, clock, hb, F, hs, rfl⟩ := h
  rw [size_eq, length_sorted, List.length_map] at hm
  exact ⟨es, clock, hb, F, by simpa using hm, rfl⟩
theorem int_lit (k : Int) : WideAt.IsKeyLit (.int .i64 k) := trivial
theorem tget_set {t : List (Option Int)} {i : Nat} {o : Option Int} (hi : i < t.length) (k : Int) : tget (t.set i o) k = if k = i then o else tget t k := by
  unfold tget
  by_cases h0 : 0 ≤ k
  · rw [if_pos h0, if_pos h0]
    simp only [List.getD_eq_getElem?_getD, List.getElem?_set]
    by_cases e : k = i
    · subst e; simp [hi]
    · rw [if_neg e, if_neg (by omega)]
  · rw [if_neg h0, if_neg h0, if_neg (by omega)]
theorem tget_at {t : List (Option Int)} {i : Nat} : tget t (i : Int) = t.getD i none := by simp [tget]
theorem count_set : ∀ (t : List (Option Int)) (i : Nat) (_hi : i < t.length) (o : Option Int), (t.set i o).countP (·.isSome) + (if (t.getD i none).isSome then 1 else 0) = t.countP (·.isSome) + (if o.isSome then 1 else 0)
  | [], i, hi, _ => by simp at hi
  | a :: t, 0, _, o => by simp only [List.set_cons_zero, List.countP_cons, List.getD_cons_zero]; omega
  | a :: t, i + 1, hi, o => by
    have := count_set t i (by simpa using hi) o
    simp only [List.set_cons_succ, List.countP_cons, List.getD_cons_succ]
    omega
theorem TabD.put {D : DataW Unit} {t : List (Option Int)} (h : TabD D t) (i : Nat) (hi : i < t.length) (v : Int) : TabD (D.put (.int .i64 (i : Int)) (.lit (.int .i64 v))) (t.set i (some v)) := by
  refine ⟨fun k => ?_, fun k u hu z => ?_, h.tidy.put (int_lit _) _, ?_⟩
  · rw [tget_set hi]
    by_cases e : k = i
    · subst e; rw [if_pos rfl]; exact has_put_same h.tidy.isMap (int_lit _) _
    · rw [if_neg e, has_put_other (fun e' => e (by cases e'; rfl))]; exact h.has k
  · rw [tget_set hi] at hu
    by_cases e : k = i
    · subst e; rw [if_pos rfl] at hu; cases hu; exact atKey_put_same h.tidy.isMap (int_lit _) _ _
    · rw [if_neg e] at hu; rw [atKey_put_other (fun e' => e (by cases e'; rfl))]; exact h.at' k u hu z
  · rw [size_put h.tidy, h.has, tget_at, h.sz]
    have := count_set t i hi (some v)
    simp only [Option.isSome_some, if_true] at this
    split <;> rename_i hc <;> simp only [hc] at this <;> simp at this <;> omega
theorem TabD.del {D : DataW Unit} {t : List (Option Int)} (h : TabD D t) (i : Nat) (hi : i < t.length) : TabD (D.del (.int .i64 (i : Int))) (t.set i none) := by
  refine ⟨fun k => ?_, fun k u hu z => ?_, h.tidy.del _, ?_⟩
  · rw [tget_set hi]
    by_cases e : k = i
    · subst e; rw [if_pos rfl]; exact has_del_same
    · rw [if_neg e, has_del_other (fun e' => e (by cases e'; rfl))]; exact h.has k
  · rw [tget_set hi] at hu
    by_cases e : k = i
    · subst e; rw [if_pos rfl] at hu; cases hu
    · rw [if_neg e] at hu; rw [atKey_del_other (fun e' => e (by cases e'; rfl))]; exact h.at' k u hu z
  · have h1 := size_del (k := .int .i64 (i : Int)) h.tidy
    have h2 := count_set t i hi none
    rw [h.has, tget_at, h.sz] at h1
    simp only [Option.isSome_none] at h2
    split at h1 <;> rename_i hc <;> simp only [hc] at h2 <;> simp at h2 <;> omega
theorem int_key : Keyed Tryz.prog 3 := int_keyed Tryz.underlying3
theorem key_inv {v : Value} {kl : Lit} (h : keyOf Tryz.prog 3 v = some kl) : ∃ x, v = .int .i64 x ∧ kl = .int .i64 x := by
  rw [keyOf_int Tryz.underlying3] at h
  cases v <;> simp [mapKey, Tryz.underlying3] at h
  obtain ⟨⟨rfl, _⟩, rfl⟩ := h
  exact ⟨_, rfl, rfl⟩
theorem int_ne {x y : Int} (h : x ≠ y) : (Lit.int .i64 x).sameKey (.int .i64 y) = false := sameKey_ne (fun e => h (by cases e; rfl))
theorem int_same (x : Int) : (Lit.int .i64 x).sameKey (.int .i64 x) = true := by simp [Lit.sameKey]
structure Ents (t : List (Option Int)) (left : Lit → Bool) (ps : List (Int × V6)) : Prop where
  nd : (ps.map (·.1)).Nodup
  all : ∀ p ∈ ps, tget t p.1 = some p.2.1
  mem : ∀ k, k ∈ ps.map (·.1) ↔ (tget t k).isSome = true ∧ left (.int .i64 k) = false
theorem perm_sum {l r : List Int} (h : l.Perm r) : l.sum = r.sum := by
  induction h with
  | nil => rfl
  | cons x _ ih => simp [ih]
  | swap x y l => simp; omega
  | trans _ _ h1 h2 => exact h1.trans h2
theorem tget_nat {t : List (Option Int)} {k : Int} (h : (tget t k).isSome = true) : 0 ≤ k ∧ k.toNat < t.length ∧ t.getD k.toNat none = tget t k := by
  unfold tget at h ⊢
  by_cases h0 : 0 ≤ k
  · rw [if_pos h0] at h ⊢
    refine ⟨h0, ?_, rfl⟩
    by_cases hl : k.toNat < t.length
    · exact hl
    · rw [List.getD_eq_getElem?_getD, List.getElem?_eq_none (by omega)] at h; simp at h
  · rw [if_neg h0] at h; simp at h
theorem Ents.perm {t : List (Option Int)} {left : Lit → Bool} {ps : List (Int × V6)} (h : Ents t left ps) : (ps.map fun p => p.1.toNat).Perm ((List.range t.length).filter fun i => (t.getD i none).isSome && !left (.int .i64 (i : Int))) := by
  have hp : ∀ p ∈ ps, (tget t p.1).isSome = true := fun p hp => by rw [h.all p hp]; rfl
  refine (List.perm_ext_iff_of_nodup ?_ (List.nodup_range.filter _)).2 fun i => ?_
  · have := h.nd
    clear h
    induction ps with
    | nil => simp
    | cons p ps ih =>
      simp only [List.map_cons, List.nodup_cons] at this ⊢
      refine ⟨fun hm => this.1 ?_, ih (fun q hq => hp q (by simp [hq])) this.2⟩
      obtain ⟨q, hq, e⟩ := List.mem_map.1 hm
      have h1 := tget_nat (hp p (by simp))
      have h2 := tget_nat (hp q (by simp [hq]))
      exact List.mem_map.2 ⟨q, hq, by omega⟩
  · have hm := h.mem i
    rw [List.mem_filter, List.mem_range]
    have e : tget t (i : Int) = t.getD i none := by simp [tget]
    rw [e] at hm
    constructor
    · intro hi
      obtain ⟨p, hpm, rfl⟩ := List.mem_map.1 hi
      have h1 := tget_nat (hp p hpm)
      have h2 := hm.1 (List.mem_map.2 ⟨p, hpm, by omega⟩)
      exact ⟨h1.2.1, by rw [h2.1, h2.2]; rfl⟩
    · rintro ⟨_, h2⟩
      simp only [Bool.and_eq_true, Bool.not_eq_true'] at h2
      obtain ⟨p, hpm, e2⟩ := List.mem_map.1 (hm.2 h2)
      exact List.mem_map.2 ⟨p, hpm, by omega⟩
theorem Ents.len {t : List (Option Int)} {left : Lit → Bool} {ps : List (Int × V6)} (h : Ents t left ps) : ps.length ≤ t.length := by
  have := h.perm.length_eq
  have h2 := List.length_filter_le (fun i => (t.getD i none).isSome && !left (.int .i64 (i : Int))) (List.range t.length)
  simp at this h2
  omega
theorem sum_filter (f : Nat → Int) (q : Nat → Bool) (h : ∀ i, q i = false → f i = 0) (l : List Nat) : ((l.filter q).map f).sum = (l.map f).sum := by
  induction l with
  | nil => rfl
  | cons x l ih =>
    by_cases hx : q x = true
    · simp [hx, ih]
    · have : q x = false := by simpa using hx
      simp [this, ih, h x this]
theorem Ents.sum {t : List (Option Int)} {ps : List (Int × V6)} (h : Ents t (fun _ => false) ps) : sumV (ps.map (·.2)) = (t.map (·.getD 0)).sum := by
  have e1 : (ps.map (·.2)).map (·.1) = (ps.map fun p => p.1.toNat).map fun i => (t.getD i none).getD 0 := by
    simp only [List.map_map]
    refine List.map_congr_left fun p hp => ?_
    have h1 := tget_nat (t := t) (k := p.1) (by rw [h.all p hp]; rfl)
    show p.2.1 = (t.getD p.1.toNat none).getD 0
    rw [h1.2.2, h.all p hp]; rfl
  unfold sumV
  rw [e1, perm_sum (h.perm.map _), sum_filter]
  · congr 1
    refine List.ext_getElem (by simp) fun i h1 h2 => ?_
    simp only [List.length_map] at h2
    simp [h2]
  · intro i hi
    have : (t.getD i none).isSome = false := by simpa using hi
    cases ho : t.getD i none with
    | none => rfl
    | some v => rw [ho] at this; simp at this
set_option maxRecDepth 100000 in
set_option maxHeartbeats 2000000 in
theorem mapVals_in (n l Bm b : Nat) (D : DataW Unit) (t : List (Option Int)) (hD : TabD D t) (hval : ∀ k v, tget t k = some v → 0 ≤ v ∧ v ≤ 1000000) (htl : t.length ≤ 32) (J Jx : List V6 → World → Prop)
    (hY : ∀ pre x W, J pre W → pre.length < 64 → YieldAt Fence.wide (n - 1) Tryz.prog l #[.int .i64 x.1] W fun e W' => (e = .returned (.bool true) ∧ J (pre ++ [x]) W' ∧ KeepsWalks W W') ∨ (e = .returned (.bool false) ∧ Jx (pre ++ [x]) W'))
    (W : World) (hJ : AbidesFrom W.heap.size J) (hm : W.cell? ⟨Bm, 0, none⟩ = some (.map (some b))) (hown : W.ownsMap Tryz.prog 3 (plainElem Tryz.prog 3) b 32 D) (h0 : J [] W) :
    CallsIn Fence.wide n Tryz.prog 110 #[.func (.yield l) #[] #[], .pointer (some ⟨Bm, 0, none⟩)] W fun e W' => (∃ v, e = .returned v) ∧ ((∃ ys, (∃ ps, Ents t (fun _ => false) ps ∧ ys = ps.map (·.2)) ∧ J ys W') ∨ (∃ pre, True ∧ Jx pre W')) := by
  have hfn : ∀ k, Fence.wide.fn k := fun _ => trivial
  have hdp : Fence.wide.depth.isSome = false := rfl
  refine callsIn_of_wp Tryz.func110 rfl trivial ?_ rfl
  simp only [Tryz.ntmps110, List.size_toArray, List.length_cons, List.length_nil, Nat.reduceAdd, Nat.reduceSub, Array.replicate_succ, Array.replicate_zero, List.push_toArray, List.append_toArray, List.nil_append, List.cons_append]
  gi_wp2_with (first
    | (gi_at_range; refine wpListIn_range_own _ rfl _ 83 rfl 3 3 int_key Tryz.underlying83 _ b 32 _ rfl hown ?_; intro w0 hrg0 hg0 hs0)
    | gi_in)
  go_frame
  gi_loopw [4] (fun _ wr => ∃ (left : Lit → Bool) (cnt : Nat) (ps : List (Int × V6)), wr.ranges Tryz.prog 3 (plainElem Tryz.prog 3) b W.heap.size 32 D left cnt ∧ Ents t left ps ∧ J (ps.map (·.2)) wr)
    (fun _ wr => wr.rangeLeft b W.heap.size)
  case atStart =>
    refine ⟨_, _, [], hrg0, ⟨by simp, by simp, fun k => ?_⟩, hJ [] W w0 none h0 hg0 (fun r e => by cases e)⟩
    simp [← hD.has]
  case round =>
    obtain ⟨left, cnt, ps, hrg, hE, hJs⟩ := hrel
    gi_wp2_with (first
      | (gi_at_next; refine wpListIn_next_ranges _ rfl _ rfl 3 int_key (plainElem Tryz.prog 3) (Value.int .i64) (Value.int .i64) (fun key kl hk => by obtain ⟨x, hx, _⟩ := key_inv hk; exact ⟨x, hx⟩) (fun v y hv => by obtain ⟨c, rfl, _⟩ := plainElem_int_inv Tryz.underlying3 hv; exact ⟨c, rfl⟩) b W.heap.size 32 _ _ _ rfl hrg ?_ ?_)
      | gi_in)
    · intro hc0 hl0
      gi_wp2
      go_end0
      exact ⟨⟨_, rfl⟩, .inl ⟨_, ⟨ps, ⟨hE.nd, hE.all, fun k => by rw [hE.mem, hl0]⟩, rfl⟩, hJs⟩⟩
    · intro x c kl yd yp w2 cnt2 hkey hlk hv hat hrg2 hlt hg2 hs2 hen
      obtain ⟨x', ex, rfl⟩ := key_inv hkey
      obtain rfl : x = x' := by simpa using ex
      obtain ⟨c', ec, ez, _⟩ := plainElem_int_inv Tryz.underlying3 hv
      obtain rfl : c = c' := by simpa using ec
      have hth : (tget t x).isSome = true := by rw [← hD.has]; exact has_true_of_atKey hat
      obtain ⟨v, hv'⟩ := Option.isSome_iff_exists.1 hth
      have hcv : c = v := by
        have h1 := hD.at' x v hv' (.lit (.int .i64 0))
        rw [hat, (Prod.mk.inj ez).1] at h1
        simpa using h1
      subst hcv
      have hE2 : Ents t (fun z => left z && !z.sameKey (.int .i64 x)) (ps ++ [(x, ⟨c, hval x c hv'⟩)]) := by
        have hnx : x ∉ ps.map (·.1) := fun h => by have := ((hE.mem x).1 h).2; rw [hlk] at this; cases this
        refine ⟨?_, fun p hp => ?_, fun k => ?_⟩
        · rw [List.map_append, List.nodup_append]
          refine ⟨hE.nd, by simp, fun a ha b hb => ?_⟩
          simp at hb; subst hb
          exact fun e => hnx (e ▸ ha)
        · rcases List.mem_append.1 hp with h | h
          · exact hE.all p h
          · simp at h; subst h; exact hv'
        · rw [List.map_append, List.mem_append, hE.mem]
          by_cases e : k = x
          · subst e; simp [hth, int_same]
          · have e2 := int_ne e
            simp [e, e2]
      have hJ2 : J (ps.map (·.2)) w2 := hJ _ wr w2 (some W.heap.size) hJs hg2 (fun r e => by cases e; exact ⟨Nat.le_refl _, hrg.iter_walk⟩)
      obtain ⟨fn, tmps, assign, body, hy, hR⟩ := hY (ps.map (·.2)) ⟨c, hval x c hv'⟩ w2 hJ2 (by have := hE.len; simp; omega)
      dsimp only at hy
      clear hs2
      gi_wp2
      refine hR.mono ?_
      rintro e W3 (⟨rfl, hJ3, hk3⟩ | ⟨rfl, hJx3⟩)
      · gi_wp2
        have hrg3 := hrg2.of_walks hk3
        go_roundw
        case rel => exact ⟨_, cnt2, ps ++ [(x, ⟨c, hval x c hv'⟩)], hrg3, hE2, by simpa using hJ3⟩
        case measure => rw [hrg3.left_eq, hrg.left_eq]; exact hlt
      · gi_wp2
        refine bodyPost_ret (results_none rfl _ _ _) rfl ?_
        exact ⟨⟨_, rfl⟩, .inr ⟨_, trivial, hJx3⟩⟩
theorem ownsMap_below {w w' : World} {k : TypeId} {R : Value → Option (DataW Unit × List MemPlace)} {b n : Nat} {D : DataW Unit} (h : w.ownsMap Tryz.prog k R b n D) (hb : Below w.heap.size w w') : w'.ownsMap Tryz.prog k R b n D :=
  h.kept (row := none) ⟨hb.os, hb.tape, hb.output, hb.size, fun k hk _ => hb.block k hk⟩ (by simp)
theorem mapVals_stops (n Bm b : Nat) (t : List (Option Int)) (hval : ∀ k v, tget t k = some v → 0 ≤ v ∧ v ≤ 1000000) (htl : t.length ≤ 32) (w : World) (hBm : Bm < w.heap.size) (hm : w.cell? ⟨Bm, 0, none⟩ = some (.map (some b))) (hT : TabM w b t) :
    SeqStopsK Fence.wide n Tryz.prog 110 #[.pointer (some ⟨Bm, 0, none⟩)] (fun x : V6 => #[Value.int .i64 x.1]) KeepsWalks (fun ys => sumV ys = (t.map (·.getD 0)).sum) (fun _ => True) 64 w := fun l J Jx W hW hJ _ hY h0 => by
  obtain ⟨D, hown, hD⟩ := hT
  refine (mapVals_in n l Bm b D t hD hval htl J Jx hY W hJ ((hW.cell (p := ⟨Bm, 0, none⟩) hBm).trans hm) (ownsMap_below hown hW) h0).mono ?_
  rintro e W' ⟨he, ⟨ys, ⟨ps, hE, rfl⟩, hj⟩ | h⟩
  · exact ⟨he, .inl ⟨_, hE.sum, hj⟩⟩
  · exact ⟨he, .inr h⟩
set_option maxHeartbeats 1000000 in
theorem mapVals_any (mb : Option Nat) (w : World) :
    Calls Tryz.prog 67 #[.map mb] w fun e w' => e = .returned (.func (.func 110) #[] #[.pointer (some ⟨w.heap.size, 0, none⟩)]) ∧ w' = w.alloc (.cells #[.map mb] 83) := by
  go_enter Tryz.func67, Tryz.ntmps67
  go_wp2
  go_ret
  exact ⟨rfl, rfl⟩
theorem sum_slice (B : Nat) (n₀ : Nat) (sv : Value) (zs : List V6) (hlen : zs.length ≤ 64) (w : World) (hB : B < w.heap.size) (hn₀ : n₀ ≤ w.heap.size) (hc : w.cell? ⟨B, 0, none⟩ = some sv) (hI : Cells1 w n₀ sv (zs.map fun x => .int .i64 x.1)) :
    Calls Tryz.prog 64 #[.func (.func 109) #[] #[.pointer (some ⟨B, 0, none⟩)]] w fun e w' => e = .returned (.int .i64 (sumV zs)) ∧ Below w.heap.size w w' := by
  refine (sum_any _ B (Below n₀) (fun ys => ys = zs) (fun _ => True) zs.length hlen w (enters_of Tryz.func109 (by kernel_rfl) rfl)
    (fun W hW => sliceVals_stops 4 B n₀ sv zs hlen W (Nat.lt_of_lt_of_le hB hW.size) (Nat.le_trans hn₀ hW.size) ((hW.cell (p := ⟨B, 0, none⟩) hB).trans hc) (hI.below (hW.mono hn₀)))
    belowK_t (belowK_b hn₀) (fun W v => (Below.refl _ W).setCell (p := ⟨w.heap.size, 0, none⟩) hn₀ v)).mono ?_
  rintro e w' ⟨xs, rfl, he, hb⟩
  exact ⟨he, hb⟩
theorem sum_map (B b : Nat) (t : List (Option Int)) (hval : ∀ k v, tget t k = some v → 0 ≤ v ∧ v ≤ 1000000) (htl : t.length ≤ 32) (w : World) (hB : B < w.heap.size) (hc : w.cell? ⟨B, 0, none⟩ = some (.map (some b))) (hT : TabM w b t) :
    Calls Tryz.prog 64 #[.func (.func 110) #[] #[.pointer (some ⟨B, 0, none⟩)]] w fun e w' => e = .returned (.int .i64 (t.map (·.getD 0)).sum) ∧ Below w.heap.size w w' := by
  refine (sum_any _ B KeepsWalks (fun ys => sumV ys = (t.map (·.getD 0)).sum) (fun _ => True) 64 (by decide) w (enters_of Tryz.func110 (by kernel_rfl) rfl)
    (fun W hW => mapVals_stops 4 B b t hval htl W (Nat.lt_of_lt_of_le hB hW.size) ((hW.cell (p := ⟨B, 0, none⟩) hB).trans hc) (by obtain ⟨D, h1, h2⟩ := hT; exact ⟨D, ownsMap_below h1 hW, h2⟩))
    walksK_t walksK_b (fun W v => KeepsWalks.setCell W _ v)).mono ?_
  rintro e w' ⟨xs, hx, he, hb⟩
  exact ⟨by rw [← hx]; exact he, hb⟩
end Go.Proofs.YtogmdaopfnmobaaGreat

