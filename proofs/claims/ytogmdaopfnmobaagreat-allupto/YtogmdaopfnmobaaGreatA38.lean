/- The program's store: New, Append. -/
import Derived.Maps.AppendAt
import Derived.Test.YtogmdaopfnmobaaGreatA37
namespace Go.Proofs.YtogmdaopfnmobaaGreat
open Go.RowKit Go.Maps
def pchPost (base S : Nat) (s' : Sto) (n : Int) (lv : Value) (M : Nat) (w : World) (e : Ending) (w' : World) : Prop :=
  e = .returned (.int .i64 n) ∧ Kept w w' (pfp S lv M) ∧ ∃ lv', PSt w' base S s' lv' M ∧ ∀ k ∈ ob lv', k ∈ ob lv ∨ w.heap.size ≤ k
theorem pch_before {base S : Nat} {s' : Sto} {n : Int} {lv : Value} {M : Nat} {w w1 w' : World} {e : Ending} (hb : Below w.heap.size w w1) (h : pchPost base S s' n lv M w1 e w') : pchPost base S s' n lv M w e w' := by
  obtain ⟨h1, h2, lv', h3, h4⟩ := h
  refine ⟨h1, (Kept.of_below hb _).trans h2 (fun x hx => .inl hx), lv', h3, fun k hk => ?_⟩
  rcases h4 k hk with h | h
  · exact .inl h
  · exact .inr (Nat.le_trans hb.size h)
theorem pch_same {base S : Nat} {s : Sto} {n : Int} {lv : Value} {M : Nat} {w w' : World} (h : PSt w base S s lv M) (hb : Below w.heap.size w w') : pchPost base S s n lv M w (.returned (.int .i64 n)) w' :=
  ⟨rfl, Kept.of_below hb _, lv, h.below hb, fun _ hk => .inl hk⟩
theorem blk_grew {W w' : World} {v x : Value} {N : Nat} (h : Grew W v w' x) (hN : N ≤ W.heap.size) : ∀ j ∈ ob x, j ∈ ob v ∨ N ≤ j := fun j hj => by
  rcases h.blk with e | ⟨k, e, hk⟩
  · left; rw [mem_ob, ← e]; exact mem_ob.1 hj
  · right; rw [mem_ob, e] at hj; simp at hj; omega
theorem PSt.apart {w : World} {base S : Nat} {s : Sto} {lv : Value} {M : Nat} (h : PSt w base S s lv M) : S ∉ ob lv ∧ M ∉ ob lv ∧ S ≠ M := by
  obtain ⟨D, ⟨es, clock, hb, _⟩, _⟩ := h.hM
  refine ⟨fun c => blk_row h.hS (by decide) h.hL (mem_ob.1 c).symm, fun c => ?_, fun c => ?_⟩
  · rcases h.hL.2 with ⟨rfl, _⟩ | ⟨g, cap, cur, rfl, _, hgg, _⟩
    · simp [ob, Value.ownBlock] at c
    · simp [ob, Value.ownBlock] at c
      subst c
      rw [hb] at hgg
      simp at hgg
  · have := h.hS
    rw [c, hb] at this
    simp at this
theorem pap_fin {w w3 : World} {base S : Nat} {s : Sto} {lv lv' : Value} {M : Nat} {v : Int} {o : Obj} (h : PSt w base S s lv M) (ho : w3.ownsRow base 3 1 lv' (s.l.length + 1) (s.l.map (.int .i64) ++ [.int .i64 v])) (hg : Grew (w.alloc o) lv w3 lv') (hE : apE s v = 0) :
    pchPost base S (apS s v) (apE s v) lv M w (.returned (.int .i64 0)) (w3.setCell ⟨S, 0, none⟩ lv') := by
  have hl := h.lt
  obtain ⟨hSo, hMo, hSM⟩ := h.apart
  have old : ∀ k, k < w.heap.size → k ∉ ob lv → w3.heap[k]? = w.heap[k]? := fun k hk hn => (hg.grown.block k (by simp; omega) (fun c => hn (mem_ob.2 c.symm))).trans (Below.heap_alloc _ _ _ hk)
  have hs3 : w.heap.size ≤ w3.heap.size := by have := hg.grown.size; simp at this; omega
  have hnew : ∀ k ∈ ob lv', k ∈ ob lv ∨ w.heap.size ≤ k := blk_grew hg (by simp)
  have hS' : S ∉ ob lv' := fun c => by rcases hnew S c with c | c; exact hSo c; omega
  refine ⟨by rw [hE], ?_, lv', ⟨?_, ?_, ?_, h.bS, h.bM, apS_ok h.ok v⟩, hnew⟩
  · exact ⟨(hg.grown.os).trans rfl, (hg.grown.tape).trans rfl, (hg.grown.output).trans rfl, by simp [World.setCell]; exact hs3, fun k hk hn => by
      simp only [pfp, List.mem_cons, not_or] at hn
      exact (Below.heap_setCell _ _ _ _ hn.1).trans (old k hk hn.2.2)⟩
  · rw [heap_set ((old S hl.1 hSo).trans h.hS)]; rfl
  · rw [apS, if_pos hE]
    have : w3.ownsRow base 3 1 lv' (s.l ++ [v]).length ((s.l ++ [v]).map (.int .i64)) := by simpa using ho
    exact own_keep this fun k hk => Below.heap_setCell _ _ _ _ (fun c => hS' (by subst c; exact hk))
  · rw [apS, if_pos hE]; exact h.hM.frame ((Below.heap_setCell _ _ _ _ (Ne.symm hSM)).trans (old M hl.2 hMo))
def pnewPost (w : World) (e : Ending) (w' : World) : Prop := ∃ S M, e = .returned (.pointer (some ⟨S, 0, none⟩)) ∧ PSt w' w.heap.size S .empty (.slice none 0 0) M ∧ Below w.heap.size w w'
theorem tab_empty : TabD (.map [] : DataW Unit) (List.replicate 32 none) := by
  have hg : ∀ k, tget (List.replicate 32 (none : Option Int)) k = none := fun k => by
    unfold tget
    split
    · rw [List.getD_eq_getElem?_getD, List.getElem?_replicate]; split <;> rfl
    · rfl
  refine ⟨fun k => by rw [hg]; rfl, fun k v hv => absurd hv (by rw [hg]; simp), tidy_empty, ?_⟩
  simp [Maps.size]
set_option maxHeartbeats 1000000 in
theorem new_any (w : World) : Calls Tryz.prog 24 #[] w (pnewPost w) := by
  have hmm := @run_makeMap Tryz.prog
  go_enter Tryz.func24, Tryz.ntmps24
  go_wp2
  go_ret
  refine ⟨w.heap.size + 1, w.heap.size, rfl, ⟨?_, World.ownsRow_nil _ _ _ _, ⟨.map [], ?_, tab_empty⟩, by omega, Nat.le_refl _, Sto.empty_ok⟩, ?_⟩
  · exact heap_one (w.alloc (.map #[] 0)) _ _ (by simp)
  · exact ((World.ownsMap_made w Tryz.prog 3 (plainElem Tryz.prog 3)).mono (by decide)).alloc _
  · exact ((Below.refl _ _).alloc (Nat.le_refl _) _).alloc (by simp) _
def lgV (s : Sto) (h : s.ok) : List V6 := s.l.pmap (fun v h => ⟨v, h⟩) h.val
theorem lgV_map (s : Sto) (h : s.ok) : (lgV s h).map (·.1) = s.l := by simp [lgV, List.map_pmap]
theorem lgV_sum (s : Sto) (h : s.ok) : sumV (lgV s h) = s.l.sum := by rw [sumV, lgV_map]
theorem lgV_len (s : Sto) (h : s.ok) : (lgV s h).length = s.l.length := by simp [lgV]
theorem lgV_vals (s : Sto) (h : s.ok) : (lgV s h).map (fun x => Value.int .i64 x.1) = s.l.map (.int .i64) := by
  have := congrArg (List.map (Value.int .i64)) (lgV_map s h)
  rw [List.map_map] at this
  exact this
set_option maxHeartbeats 2000000 in
set_option maxRecDepth 100000 in
theorem append_any (w : World) (base S : Nat) (s : Sto) (lv : Value) (M : Nat) (v : Int) (h : PSt w base S s lv M) (hb : base ≤ w.heap.size) :
    Calls Tryz.prog 27 #[.pointer (some ⟨S, 0, none⟩), .int .i64 v] w (pchPost base S (apS s v) (apE s v) lv M w) := by
  have HS := hid h
  obtain ⟨⟨c0, _⟩, hfz⟩ := h.cells
  have hlog := h.log1
  have hok := h.ok
  have hlen := h.ok.len
  obtain ⟨ao, cap, rfl⟩ := own_shape h.hL
  have hSl := h.lt.1
  clear h
  have keep : ∀ n, apE s v = n → n ≠ 0 → ∀ w', Hid (Below w.heap.size w w' → pchPost base S (apS s v) (apE s v) (.slice ao s.l.length cap) M w (.returned (.int .i64 n)) w') := fun n hn h0 w' => hid fun hb => by
    rw [apS, if_neg (by rw [hn]; exact h0), hn]
    exact pch_same HS.out hb
  cases hv : isVal v with
  | false =>
    have K1 := keep 1 (by simp [apE, hv]) (by omega)
    go_enter Tryz.func27, Tryz.ntmps27
    go_wp2_with (go_at_call 63; refine (isValue_any _ _).mono ?_; rintro e w1 ⟨rfl, hw1⟩; rw [hv, hw1]; clear hw1 w1)
    go_ret
    exact (K1 _).out (Below.refl _ _)
  | true =>
    have hvb := (isVal_iff v).1 hv
    by_cases h64 : s.l.length = 64
    · have K1 := keep 2 (by simp [apE, hv]; omega) (by omega)
      have h64' : ((s.l.length : Int) == 64) = true := by simp; omega
      go_enter Tryz.func27, Tryz.ntmps27
      go_wp2_with (go_at_call 63; refine (isValue_any _ _).mono ?_; rintro e w1 ⟨rfl, hw1⟩; rw [hv, hw1]; clear hw1 w1)
      go_ret
      exact (K1 _).out (Below.refl _ _)
    · have h64' : ((s.l.length : Int) == 64) = false := by simp; omega
      have hl64 : ¬ 64 ≤ s.l.length := by omega
      have hsb := sum_bd s.l hok.val
      have hsum := lgV_sum s hok
      have HSm : ∀ w1, Hid (Below w.heap.size w w1 → w1.cell? ⟨w.heap.size, 0, none⟩ = some (.slice ao s.l.length cap) → w.heap.size < w1.heap.size → Calls Tryz.prog 64 #[.func (.func 109) #[] #[.pointer (some ⟨w.heap.size, 0, none⟩)]] w1 fun e w2 => e = .returned (.int .i64 s.l.sum) ∧ Below w1.heap.size w1 w2) := fun w1 => hid fun hb1 hc1 hlt => by
        have := sum_slice w.heap.size w.heap.size (.slice ao s.l.length cap) (lgV s hok) (by rw [lgV_len]; exact hlen) w1 hlt (Nat.le_of_lt hlt) hc1 (by rw [lgV_vals]; exact hlog.below hb1)
        rw [hsum] at this
        exact this
      have hb0 : Below w.heap.size w (w.alloc (.cells #[.slice ao s.l.length cap] 25)) := (Below.refl _ _).alloc (Nat.le_refl _) _
      have hcb := (Boxed.new w 25 (.slice ao s.l.length cap)).cell
      have HS1 := hid ((HSm _).out hb0 hcb (by simp))
      clear HSm hcb hlog
      have HB0 := hid hb0
      clear hb0 hsum
      by_cases h3 : 5000000 < s.l.sum + v
      · have K1 := keep 3 (by simp [apE, hv, hl64, h3]) (by omega)
        clear keep hok
        generalize s.l.sum = q at HS1 hsb h3
        go_enter Tryz.func27, Tryz.ntmps27
        go_wp2_with (first | (go_at_call 63; refine (isValue_any _ _).mono ?_; rintro e w1 ⟨rfl, hw1⟩; rw [hv, hw1]; clear hw1 w1) | (go_at_call 65; refine (sliceVals_any _ _ _ _).mono ?_; rintro e w1 ⟨rfl, hw1⟩; rw [hw1]; clear hw1 w1) | (go_at_call 64; refine HS1.out.mono ?_; rintro e w2 ⟨rfl, hb2⟩))
        go_ret
        exact (K1 _).out (HB0.out.trans (hb2.mono (by simp)))
      · have hE : apE s v = 0 := by simp [apE, hv, hl64, h3]
        obtain ⟨i0, hi, hz0, hz1, hz2⟩ := info_parts info_int
        have h3' : s.l.sum + v ≤ 5000000 := by omega
        clear keep hok
        generalize s.l.sum = q at HS1 hsb h3 h3'
        go_enter Tryz.func27, Tryz.ntmps27
        go_wp2_with (first | (go_at_call 63; refine (isValue_any _ _).mono ?_; rintro e w1 ⟨rfl, hw1⟩; rw [hv, hw1]; clear hw1 w1) | (go_at_call 65; refine (sliceVals_any _ _ _ _).mono ?_; rintro e w1 ⟨rfl, hw1⟩; rw [hw1]; clear hw1 w1) | (go_at_call 64; refine HS1.out.mono ?_; clear HS1; rintro e w2 ⟨rfl, hb2⟩; have hB2 := HB0.out.trans (hb2.mono (by simp)); have hP2 := HS.out.below hB2; have hc2 := hP2.cells; have hown := hP2.hL; have hap := hP2.apart; have hSl2 := hP2.lt.1; have hbs2 : base ≤ w2.heap.size := Nat.le_trans hb hB2.size) | (at_builtin; refine wpList_append_grew _ rfl _ _ 25 rfl base 3 i0 (.int .i64 0) 1 8 Tryz.underlying25 hi hz0 hz1 hz2 rfl (by decide) _ _ _ rfl (hown.alloc _) ⟨w2.heap.size, 0, none⟩ 1 1 [.int .i64 v] rfl rfl (cell_one_new _ _ _) (by simp [Value.oneCell']) (by unfold maxLen; omega) (by omega) (by simp; omega) ?_))
        rintro lv' w3 ho3 hg3 _
        obtain ⟨ao3, cap3, rfl⟩ := own_shape ho3
        have HF := hid (pch_before hB2 (pap_fin hP2 ho3 hg3 hE))
        have hb3 : w3.heap[S]? = w2.heap[S]? := (hg3.grown.block S (by simp; omega) (fun c => hap.1 (mem_ob.2 c.symm))).trans (Below.heap_alloc _ _ _ hSl2)
        have c3 : w3.cell? ⟨S, 0, none⟩ = some (.slice ao s.l.length cap) := (World.cell?_of_block (a := ⟨S, 0, none⟩) hb3).trans hc2.1.1
        have f3 : w3.frozen? ⟨S, 0, none⟩ = false := (World.frozen?_of_block (a := ⟨S, 0, none⟩) hb3).trans (hc2.2 0)
        clear ho3 hg3 hb3 hP2 hown hap hc2 hb2 hB2
        go_wp2
        go_ret
        exact HF.out
end Go.Proofs.YtogmdaopfnmobaaGreat

/- The program's store: Set, Delete. -/
namespace Go.Proofs.YtogmdaopfnmobaaGreat
open Go.RowKit Go.Maps
theorem tget_tat {t : List (Option Int)} {k : Int} (h : 0 ≤ k) : tget t k = tat t k.toNat := by rw [tget, if_pos h]; rfl
theorem TabD.zero {D : DataW Unit} {t : List (Option Int)} (h : TabD D t) (k : Int) : D.atKey (.int .i64 k) (.lit (.int .i64 0)) = .lit (.int .i64 ((tget t k).getD 0)) := by
  cases ho : tget t k with
  | some v => exact h.at' k v ho _
  | none => exact atKey_of_not_has (by rw [h.has, ho]; rfl) _
theorem TabM.look {w : World} {M : Nat} {t : List (Option Int)} (h : TabM w M t) (k : Int) (hk : (Lit.int .i64 k).wf = true) : (Instr.lookup 83 (.map (some M)) (.int .i64 k) false).run Tryz.prog w = .ok (.int .i64 ((tget t k).getD 0)) w := by
  obtain ⟨D, hown, hD⟩ := h
  obtain ⟨c, hrun, hat, _⟩ := hown.lookup_int int_key Tryz.underlying83 Tryz.underlying3 (zero_int _) (keyOf_int_mk Tryz.underlying3 hk)
  rw [hD.zero] at hat
  obtain rfl : (tget t k).getD 0 = c := by simpa using hat
  exact hrun
theorem ptab_fin {w w3 : World} {base S : Nat} {s : Sto} {lv : Value} {M : Nat} {i : Nat} {o : Option Int} {D' : DataW Unit} {n : Nat} {r : Int} (h : PSt w base S s lv M) (hg : w.grownBy w3 (some M)) (hown : w3.ownsMap Tryz.prog 3 (plainElem Tryz.prog 3) M n D') (hD : TabD D' (s.t.set i o)) (hok : Sto.ok ⟨s.l, s.t.set i o⟩) :
    pchPost base S ⟨s.l, s.t.set i o⟩ r lv M w (.returned (.int .i64 r)) w3 := by
  obtain ⟨hSo, hMo, hSM⟩ := h.apart
  have hl := h.lt
  have old : ∀ k, k < w.heap.size → k ≠ M → w3.heap[k]? = w.heap[k]? := fun k hk hn => hg.block k hk (fun c => hn (by cases c; rfl))
  refine ⟨rfl, ⟨hg.os, hg.tape, hg.output, hg.size, fun k hk hn => old k hk (fun c => hn (by subst c; simp [pfp]))⟩, lv, ⟨(old S hl.1 hSM).trans h.hS, own_keep h.hL fun k hk => old k (own_in h.hL k hk).2 (fun c => hMo (by rw [← c]; exact hk)), ⟨D', ownsMap_exact hown ?_, hD⟩, h.bS, h.bM, hok⟩, fun _ hk => .inl hk⟩
  rw [hD.sz]
  have := List.countP_le_length (p := fun x : Option Int => x.isSome) (l := s.t.set i o)
  simp at this
  have := h.ok.tlen
  omega
set_option maxHeartbeats 2000000 in
set_option maxRecDepth 100000 in
theorem delete_any (w : World) (base S : Nat) (s : Sto) (lv : Value) (M : Nat) (k : Int) (hk : (Lit.int .i64 k).wf = true) (h : PSt w base S s lv M) :
    Calls Tryz.prog 29 #[.pointer (some ⟨S, 0, none⟩), .int .i64 k] w (pchPost base S (deS s k) (deE s k) lv M w) := by
  have HS := hid h
  obtain ⟨⟨_, c1⟩, hfz⟩ := h.cells
  obtain ⟨D, hown, hD⟩ := h.hM
  have htl := h.ok.tlen
  have hkey : keyOf Tryz.prog 3 (.int .i64 k) = some (.int .i64 k) := keyOf_int_mk Tryz.underlying3 hk
  have hth := hD.has k
  have HOK := hid (deS_ok h.ok k)
  clear h
  cases ho : (tget s.t k).isSome with
  | false =>
    have hE : deE s k = 4 := by
      unfold deE
      rw [if_neg]
      rintro ⟨h0, _, h2⟩
      rw [tget_tat h0] at ho
      rw [ho] at h2; cases h2
    have K1 := hid (show pchPost base S (deS s k) (deE s k) lv M w (.returned (.int .i64 4)) w by
      rw [hE, deS, if_neg (by rw [hE]; decide)]; exact pch_same HS.out (Below.refl _ _))
    rw [ho] at hth
    clear HOK hE
    go_enter Tryz.func29, Tryz.ntmps29
    go_wp2_with (at_lookup; refine wpList_lookup_own_ok_int _ rfl _ _ 83 rfl 3 3 .i64 int_key Tryz.underlying83 Tryz.underlying3 (zero_int _) M 32 D rfl hown _ _ rfl hkey ?_; intro c hat hwc; rw [hth])
    go_ret
    exact K1.out
  | true =>
    have hn := tget_nat ho
    have hE : deE s k = 0 := by
      unfold deE
      rw [if_pos ⟨hn.1, by omega, by rw [← tget_tat hn.1]; exact ho⟩]
    have HN := hid hn
    have HE := hid hE
    obtain ⟨i, hi⟩ : ∃ i : Nat, k = i := ⟨k.toNat, by omega⟩
    have HI := hid hi
    rw [ho] at hth
    clear hE hn hi
    go_enter Tryz.func29, Tryz.ntmps29
    go_wp2_with (first | (at_lookup; refine wpList_lookup_own_ok_int _ rfl _ _ 83 rfl 3 3 .i64 int_key Tryz.underlying83 Tryz.underlying3 (zero_int _) M 32 D rfl hown _ _ rfl hkey ?_; intro c hat hwc; rw [hth]) | (at_delete; refine wpList_delete_own _ rfl _ _ 83 3 rfl 3 int_key Tryz.underlying83 _ M 32 D rfl hown _ _ rfl hkey ?_; intro w1 hown1 hturn1))
    go_ret
    have hE := HE.out
    have hi := HI.out
    have hn := HN.out
    rw [hE]
    have hdS : deS s k = ⟨s.l, s.t.set i none⟩ := by rw [deS, if_pos hE, hi]; rfl
    have hok := HOK.out
    rw [hdS] at hok ⊢
    refine ptab_fin HS.out hturn1.grown hown1 ?_ hok
    rw [hi]
    exact hD.del i (by omega)
set_option maxHeartbeats 4000000 in
set_option maxRecDepth 100000 in
theorem set_any (w : World) (base S : Nat) (s : Sto) (lv : Value) (M : Nat) (k v : Int) (hk : (Lit.int .i64 k).wf = true) (h : PSt w base S s lv M) :
    Calls Tryz.prog 31 #[.pointer (some ⟨S, 0, none⟩), .int .i64 k, .int .i64 v] w (pchPost base S (seS s k v) (seE s k v) lv M w) := by
  have HS := hid h
  obtain ⟨⟨_, c1⟩, hfz⟩ := h.cells
  have HOK := hid (seS_ok h.ok k v)
  have hok := h.ok
  clear h
  have keep : ∀ n, seE s k v = n → n ≠ 0 → ∀ w', Hid (Below w.heap.size w w' → pchPost base S (seS s k v) (seE s k v) lv M w (.returned (.int .i64 n)) w') := fun n hn h0 w' => hid fun hb => by
    rw [seS, if_neg (by rw [hn]; exact h0), hn]
    exact pch_same HS.out hb
  by_cases h0 : k < 0
  · have K1 := keep 4 (by unfold seE; rw [if_neg (by omega)]) (by omega)
    clear keep
    go_enter Tryz.func31, Tryz.ntmps31
    go_wp2
    go_ret
    exact (K1 _).out (Below.refl _ _)
  by_cases h32 : 32 ≤ k
  · have K1 := keep 4 (by unfold seE; rw [if_neg (by omega)]) (by omega)
    clear keep
    go_enter Tryz.func31, Tryz.ntmps31
    go_wp2
    go_ret
    exact (K1 _).out (Below.refl _ _)
  cases hv : isVal v with
  | false =>
    have K1 := keep 1 (by unfold seE; rw [if_pos (by omega), hv]; rfl) (by omega)
    clear keep
    go_enter Tryz.func31, Tryz.ntmps31
    go_wp2_with (go_at_call 63; refine (isValue_any _ _).mono ?_; rintro e w1 ⟨rfl, hw1⟩; rw [hv, hw1]; clear hw1 w1)
    go_ret
    exact (K1 _).out (Below.refl _ _)
  | true =>
    have hvb := (isVal_iff v).1 hv
    have htv := sum_bd (tv s.t) (tv_val hok)
    have htl : (tv s.t).length = 32 := by simp [tv, hok.tlen]
    have hvl : ∀ k v, tget s.t k = some v → 0 ≤ v ∧ v ≤ 1000000 := fun k v hkv => by
      have hn := tget_nat (t := s.t) (k := k) (by rw [hkv]; rfl)
      refine hok.tval v ?_
      rw [hkv, List.getD_eq_getElem?_getD, List.getElem?_eq_getElem hn.2.1] at hn
      have := hn.2.2
      simp at this
      rw [← this]; exact List.getElem_mem _
    have hcb : 0 ≤ (tget s.t k).getD 0 ∧ (tget s.t k).getD 0 ≤ 1000000 := by
      cases ho : tget s.t k with
      | none => simp
      | some u => exact hvl k u ho
    have hE0 : seE s k v = if 5000000 < (tv s.t).sum - (tget s.t k).getD 0 + v then 3 else 0 := by
      unfold seE
      rw [if_pos (by omega), hv, if_pos rfl, tget_tat (by omega)]; rfl
    have HCS : Hid (∀ w', Below w.heap.size w w' → w'.cell? ⟨S, 1, none⟩ = some (.map (some M)) ∧ (Instr.lookup 83 (.map (some M)) (.int .i64 k) false).run Tryz.prog w' = .ok (.int .i64 ((tget s.t k).getD 0)) w') := hid fun w' hb => ⟨(HS.out.below hb).cells.1.2, (HS.out.below hb).hM.look k hk⟩
    have HSm : ∀ w1, Hid (Below w.heap.size w w1 → w1.cell? ⟨w.heap.size, 0, none⟩ = some (.map (some M)) → w.heap.size < w1.heap.size → Calls Tryz.prog 64 #[.func (.func 110) #[] #[.pointer (some ⟨w.heap.size, 0, none⟩)]] w1 fun e w2 => e = .returned (.int .i64 (tv s.t).sum) ∧ Below w1.heap.size w1 w2) := fun w1 => hid fun hb1 hc1 hlt => sum_map w.heap.size M s.t hvl (by rw [hok.tlen]; decide) w1 hlt hc1 (HS.out.below hb1).hM
    have hcn := HCS.out w (Below.refl _ _)
    have htl2 := hok.tlen
    have HBx : Hid (∀ X : World, Below w.heap.size w X → X.heap.size = w.heap.size → (X.alloc (.cells #[.map (some M)] 83)).cell? ⟨w.heap.size, 0, none⟩ = some (.map (some M))) := hid fun X _ hs => by rw [← hs]; exact (Boxed.new X 83 (.map (some M))).cell
    have hmv := mapVals_any (some M)
    have HMV : ∀ X, Hid _ := fun X => hid (hmv X)
    have HVX : Hid (∀ wv, wv = w.drew.alloc (.cells #[.map (some M)] 83) → Below w.heap.size w wv ∧ wv.cell? ⟨w.heap.size, 0, none⟩ = some (.map (some M)) ∧ w.heap.size < wv.heap.size) := hid fun wv e => by subst e; exact ⟨((Below.refl _ _).drew).alloc (Nat.le_refl _) _, HBx.out _ (Below.refl _ _).drew rfl, by simp⟩
    have HTr : Hid (∀ wv ws : World, Below w.heap.size w wv → w.heap.size < wv.heap.size → Below wv.heap.size wv ws → Below w.heap.size w ws) := hid fun wv ws h1 h2 h3 => h1.trans (h3.mono (Nat.le_of_lt h2))
    clear hvl hmv
    generalize hc : (tget s.t k).getD 0 = c at HCS hE0 hcb hcn
    generalize hq : (tv s.t).sum = q at HSm hE0 htv
    clear hc hq
    rw [htl] at htv
    have hq0 : 0 ≤ q := htv.1
    have hq1 : q ≤ 32000000 := by have := htv.2; omega
    have wr1 : IntKind.i64.wrap (q - c) = q - c := by rw [IntKind.wrap_i64]; omega
    have wr2 : IntKind.i64.wrap (q - c + v) = q - c + v := by rw [IntKind.wrap_i64]; omega
    clear htv htl
    by_cases h3 : 5000000 < q - c + v
    · have K1 := keep 3 (by rw [hE0, if_pos h3]) (by omega)
      clear keep hE0 hok HOK
      go_enter Tryz.func31, Tryz.ntmps31
      go_wp2_with (go_at_call 63; refine (isValue_any _ _).mono ?_; rintro e w1 ⟨rfl, hw1⟩; rw [hv, hw1]; clear hw1 w1)
      go_region_held3 (fun w' => w'.cell? ⟨S, 1, none⟩ = some (.map (some M)) ∧ (Instr.lookup 83 (.map (some M)) (.int .i64 k) false).run Tryz.prog w' = .ok (.int .i64 c) w')
        (first | exact HCS.out _ hBs | exact HCS.out _ hBv | exact HCS.out _ (Below.refl _ _) | exact HCS.out _ (Below.refl _ _).drew | go_keep)
        (first
          | (go_at_call 67; refine (HMV _).out.mono ?_; rintro e wv ⟨rfl, hwv⟩; obtain ⟨hBv, hcv, hsv⟩ := HVX.out _ hwv; clear hwv)
          | (go_at_call 64; refine ((HSm _).out hBv hcv hsv).mono ?_; rintro e ws ⟨rfl, hbs⟩; have hBs := HTr.out _ _ hBv hsv hbs; clear hbs))
      all_goals go_wp2
      all_goals go_ret
      all_goals exact (K1 _).out hBs
    · have hE := hid (show seE s k v = 0 by rw [hE0, if_neg h3])
      have h3' : q - c + v ≤ 5000000 := by omega
      have hkey : keyOf Tryz.prog 3 (.int .i64 k) = some (.int .i64 k) := keyOf_int_mk Tryz.underlying3 hk
      have HWF := hid (WalkArith.wf_i64 (n := v) (by omega))
      have HMM : Hid (∀ w', Below w.heap.size w w' → ∃ D : DataW Unit, w'.ownsMap Tryz.prog 3 (plainElem Tryz.prog 3) M 32 D ∧ TabD D s.t) := hid fun w' hb => (HS.out.below hb).hM
      clear keep hE0 hok h3
      go_enter Tryz.func31, Tryz.ntmps31
      go_wp2_with (go_at_call 63; refine (isValue_any _ _).mono ?_; rintro e w1 ⟨rfl, hw1⟩; rw [hv, hw1]; clear hw1 w1)
      go_region_held3 (fun w' => w'.cell? ⟨S, 1, none⟩ = some (.map (some M)) ∧ (Instr.lookup 83 (.map (some M)) (.int .i64 k) false).run Tryz.prog w' = .ok (.int .i64 c) w')
        (first | exact HCS.out _ hBs | exact HCS.out _ hBv | exact HCS.out _ (Below.refl _ _) | exact HCS.out _ (Below.refl _ _).drew | go_keep)
        (first
          | (go_at_call 67; refine (HMV _).out.mono ?_; rintro e wv ⟨rfl, hwv⟩; obtain ⟨hBv, hcv, hsv⟩ := HVX.out _ hwv; clear hwv)
          | (go_at_call 64; refine ((HSm _).out hBv hcv hsv).mono ?_; rintro e ws ⟨rfl, hbs⟩; have hBs := HTr.out _ _ hBv hsv hbs; clear hbs))
      all_goals (obtain ⟨D, hown, hD⟩ := HMM.out ws hBs)
      all_goals go_wp2_with (at_mapUpdate; refine wpList_mapUpdate_own _ rfl _ _ _ 83 rfl 3 3 int_key Tryz.underlying83 _ M 32 _ rfl hown (by unfold maxLen; omega) _ _ _ rfl rfl hkey _ [] (plainElem_int Tryz.underlying3 HWF.out) ?_; intro w1 hown1 hgrow1)
      all_goals go_ret
      all_goals
        have hE' := hE.out
        obtain ⟨i, hi⟩ : ∃ i : Nat, k = i := ⟨k.toNat, by omega⟩
        rw [hE']
        have hsS : seS s k v = ⟨s.l, s.t.set i (some v)⟩ := by rw [seS, if_pos hE', hi]; rfl
        have hok := HOK.out
        rw [hsS] at hok ⊢
        refine pch_before hBs (ptab_fin (HS.out.below hBs) hgrow1 hown1 ?_ hok)
        rw [hi]
        exact hD.put i (by omega) v
end Go.Proofs.YtogmdaopfnmobaaGreat

/- The program's store: Head, Ask, Grown. -/
namespace Go.Proofs.YtogmdaopfnmobaaGreat
open Go.RowKit Go.Maps
theorem mid_bd {n : Nat} {d : Nd} (h : bd n d) (hn : n ≤ 1000) : d.mid := Nd.mid_of_ok (bd_ok h hn)
theorem tr_mid {lf : Nat → Nd} (h : ∀ i, bd 1 (lf i)) (a b : Nat) (hb : b ≤ 1000) : (tr lf a b).ok = true := bd_ok (tr_bd h (b - a) a b (Nat.le_refl _)) (by omega)
def cut (n : Nat) (lf : Nat → Nd) (i : Nat) : Nd := if i < n then lf i else .E
theorem comes_of {lf : Nat → Nd} (h : ∀ i, bd 1 (lf i)) : ∀ n a b, b - a ≤ n → b ≤ 1000 → Comes (plG lf) a b (tr lf a b) := by
  intro n
  induction n with
  | zero => intro a b hn _; rw [tr_none lf a b (by omega)]; exact .known (by rw [plG, if_pos (by omega)])
  | succ n ih =>
    intro a b hn hb
    by_cases h0 : b ≤ a
    · rw [tr_none lf a b h0]; exact .known (by rw [plG, if_pos h0])
    by_cases h1 : b < a + 2
    · obtain rfl : b = a + 1 := by omega
      rw [tr_one]; exact .known (by rw [plG, if_neg (by omega), if_pos (by omega)])
    · have p := hf_pos (b - a)
      have q := hf_lt (b - a) (by omega)
      rw [tr_two lf a b (by omega)]
      exact .above (by rw [plG, if_neg h0, if_neg h1]) (by omega) (ih a _ (by omega) (by omega)) (ih _ b (by omega) hb) (Nd.mid_of_ok (tr_mid h _ _ (by omega))) (Nd.mid_of_ok (tr_mid h _ _ hb))
set_option maxHeartbeats 2000000 in
set_option maxRecDepth 100000 in
theorem head_ok (w : World) (S : Nat) (t : Int) (n N : Nat) (lf : Nat → Nd) (hlf : ∀ i, bd 1 (lf i)) (hN : N ≤ 64) (hn : n ≤ N) (hz : szB t n = true) (hL : ∀ w', Below w.heap.size w w' → Calls Tryz.prog 49 #[.pointer (some ⟨S, 0, none⟩), .int .i64 t] w' (lookPost N lf w')) :
    Calls Tryz.prog 17 #[.pointer (some ⟨S, 0, none⟩), .int .i64 t, .int .i64 n] w fun e w' => e = .returned (headV n (dg (hdText n (tr lf 0 n)))) ∧ Below w.heap.size w w' := by
  have HL := hid (hL _ ((Below.refl _ _).alloc (Nat.le_refl _) (.cells #[.int .i64 0, .int .u8 0, .int .u8 0] 58)))
  have hc := comes_of hlf n 0 n (by omega) (by omega)
  have hd := Nd.mid_of_ok (tr_mid hlf 0 n (by omega))
  generalize tr lf 0 n = d at hc hd ⊢
  have HH : ∀ B K w', Hid (Src 111 B K N (plG lf) → K w' → Calls Tryz.prog 35 #[.int .i64 n, cloV 111 B] w' fun e w2 => e = .returned (hdV n (dg (hdText n d))) ∧ Below w'.heap.size w' w2) := fun B K w' => hid fun hS hK => head_any hS hN hn hc hd w' hK
  generalize dg (hdText n d) = D at HH ⊢
  clear hL hc hd
  unfold headV
  unfold hdV at HH
  go_enter Tryz.func17, Tryz.ntmps17
  go_wp2_with fail
  refine HL.out.mono ?_
  rintro e w1 ⟨B, K, rfl, hS, hK, hb1⟩
  have HS := hid (And.intro hS hK)
  have h3 : w1.heap[w.heap.size]? = some (.cells #[.int .i64 0, .int .u8 0, .int .u8 0] 58 (0, 0)) := (hb1.block w.heap.size (by simp)).trans (heap_alloc_new w _)
  have hz1 : w.heap.size < w1.heap.size := by have := hb1.size; simp at this; omega
  have H3 := hid h3
  have HB1 := hid (((Below.refl _ _).alloc (Nat.le_refl _) _).trans (hb1.mono (by simp)) : Below w.heap.size w w1)
  clear hb1 hS hK h3 HL
  have hle : ((n : Int) ≤ N) := by omega
  go_wp2_with (go_at_call 50; refine (isSize_any _ _ _).mono ?_; rintro e w2 ⟨rfl, hw2⟩; rw [hz, hw2]; clear hw2 w2)
  refine ((HH B K _).out HS.out.1 HS.out.2).mono ?_
  rintro e w3 ⟨rfl, hb3⟩
  have h4 : w3.heap[w.heap.size]? = some (.cells #[.int .i64 0, .int .u8 0, .int .u8 0] 58 (0, 0)) := (hb3.block w.heap.size hz1).trans H3.out
  have H4 := hid h4
  have HB3 := hid (HB1.out.trans (hb3.mono (Nat.le_of_lt hz1)) : Below w.heap.size w w3)
  have hcl : w3.cell? ⟨w.heap.size, 0, none⟩ = some (.int .i64 0) ∧ w3.cell? ⟨w.heap.size, 1, none⟩ = some (.int .u8 0) ∧ w3.cell? ⟨w.heap.size, 2, none⟩ = some (.int .u8 0) := ⟨by rw [cell_of_row w3 _ _ _ _ _ h4]; rfl, by rw [cell_of_row w3 _ _ _ _ _ h4]; rfl, by rw [cell_of_row w3 _ _ _ _ _ h4]; rfl⟩
  have hfz : ∀ o, w3.frozen? ⟨w.heap.size, o, none⟩ = false := fun o => by simp [World.frozen?, h4]
  clear hb3 h4 H3 HB1 HS HH
  go_wp2
  refine ret_head2 Tryz.results17 (put3 H4.out _ _ _) rfl rfl ⟨rfl, ?_⟩
  repeat (refine Below.setCell ?_ (by simp) _)
  exact HB3.out
set_option maxHeartbeats 2000000 in
set_option maxRecDepth 100000 in
theorem head_no (w : World) (S : Nat) (t n N : Int) (hz : szB t n = false ∨ N < n) (hL : ∀ w', Below w.heap.size w w' → Calls Tryz.prog 49 #[.pointer (some ⟨S, 0, none⟩), .int .i64 t] w' fun e w2 => ∃ f b, e = .returned (.tuple #[.int .i64 N, f, .bool b]) ∧ Below w'.heap.size w' w2) :
    Calls Tryz.prog 17 #[.pointer (some ⟨S, 0, none⟩), .int .i64 t, .int .i64 n] w fun e w' => e = .returned noHead ∧ Below w.heap.size w w' := by
  have HL := hid (hL _ ((Below.refl _ _).alloc (Nat.le_refl _) (.cells #[.int .i64 0, .int .u8 0, .int .u8 0] 58)))
  clear hL
  unfold noHead
  cases hb : szB t n with
  | false =>
    clear hz
    go_enter Tryz.func17, Tryz.ntmps17
    go_wp2_with fail
    refine HL.out.mono ?_
    rintro e w1 ⟨f, b, rfl, hb1⟩
    have h3 : w1.heap[w.heap.size]? = some (.cells #[.int .i64 0, .int .u8 0, .int .u8 0] 58 (0, 0)) := (hb1.block w.heap.size (by simp)).trans (heap_alloc_new w _)
    have H3 := hid h3
    have HB1 := hid (((Below.refl _ _).alloc (Nat.le_refl _) _).trans (hb1.mono (by simp)) : Below w.heap.size w w1)
    have hcl : w1.cell? ⟨w.heap.size, 0, none⟩ = some (.int .i64 0) ∧ w1.cell? ⟨w.heap.size, 1, none⟩ = some (.int .u8 0) ∧ w1.cell? ⟨w.heap.size, 2, none⟩ = some (.int .u8 0) := ⟨by rw [cell_of_row w1 _ _ _ _ _ h3]; rfl, by rw [cell_of_row w1 _ _ _ _ _ h3]; rfl, by rw [cell_of_row w1 _ _ _ _ _ h3]; rfl⟩
    have hfz : ∀ o, w1.frozen? ⟨w.heap.size, o, none⟩ = false := fun o => by simp [World.frozen?, h3]
    clear hb1 HL h3
    go_wp2_with (go_at_call 50; refine (isSize_any _ _ _).mono ?_; rintro e w2 ⟨rfl, hw2⟩; rw [hb, hw2]; clear hw2 w2)
    refine ret_head2 Tryz.results17 (put3 H3.out _ _ _) rfl rfl ⟨rfl, ?_⟩
    repeat (refine Below.setCell ?_ (by simp) _)
    exact HB1.out
  | true =>
    have hlt : N < n := by rcases hz with h | h; rw [hb] at h; cases h; exact h
    clear hz
    go_enter Tryz.func17, Tryz.ntmps17
    go_wp2_with fail
    refine HL.out.mono ?_
    rintro e w1 ⟨f, b, rfl, hb1⟩
    have h3 : w1.heap[w.heap.size]? = some (.cells #[.int .i64 0, .int .u8 0, .int .u8 0] 58 (0, 0)) := (hb1.block w.heap.size (by simp)).trans (heap_alloc_new w _)
    have H3 := hid h3
    have HB1 := hid (((Below.refl _ _).alloc (Nat.le_refl _) _).trans (hb1.mono (by simp)) : Below w.heap.size w w1)
    have hcl : w1.cell? ⟨w.heap.size, 0, none⟩ = some (.int .i64 0) ∧ w1.cell? ⟨w.heap.size, 1, none⟩ = some (.int .u8 0) ∧ w1.cell? ⟨w.heap.size, 2, none⟩ = some (.int .u8 0) := ⟨by rw [cell_of_row w1 _ _ _ _ _ h3]; rfl, by rw [cell_of_row w1 _ _ _ _ _ h3]; rfl, by rw [cell_of_row w1 _ _ _ _ _ h3]; rfl⟩
    have hfz : ∀ o, w1.frozen? ⟨w.heap.size, o, none⟩ = false := fun o => by simp [World.frozen?, h3]
    clear hb1 HL h3
    go_wp2_with (go_at_call 50; refine (isSize_any _ _ _).mono ?_; rintro e w2 ⟨rfl, hw2⟩; rw [hb, hw2]; clear hw2 w2)
    refine ret_head2 Tryz.results17 (put3 H3.out _ _ _) rfl rfl ⟨rfl, ?_⟩
    repeat (refine Below.setCell ?_ (by simp) _)
    exact HB1.out
def hdA (s : Sto) (t n : Int) : Value :=
  if t = 0 ∧ 0 ≤ n ∧ n ≤ s.l.length then headV n.toNat (dg (hdText n.toNat (tr (lgf s.l) 0 n.toNat))) else if t = 1 ∧ n = 32 then headV 32 (dg (hdText 32 (tr (tbf s.t) 0 32))) else noHead
theorem sHead_any (w : World) (base S : Nat) (s : Sto) (lv : Value) (M : Nat) (t n : Int) (h : PSt w base S s lv M) :
    Calls Tryz.prog 17 #[.pointer (some ⟨S, 0, none⟩), .int .i64 t, .int .i64 n] w fun e w' => e = .returned (hdA s t n) ∧ Below w.heap.size w w' := by
  have hlen := h.ok.len
  unfold hdA
  by_cases h0 : t = 0
  · subst h0
    by_cases hn : 0 ≤ n ∧ n ≤ s.l.length
    · rw [if_pos ⟨rfl, hn⟩]
      obtain ⟨m, rfl⟩ : ∃ m : Nat, n = m := ⟨n.toNat, by omega⟩
      exact head_ok w S 0 m s.l.length (lgf s.l) (lgf_bd h.ok.val) hlen (by omega) (decide_eq_true (.inl ⟨rfl, by omega, by omega⟩)) (fun w' hb => look_log w' base S s lv M (h.below hb))
    · rw [if_neg (by omega), if_neg (by omega)]
      refine head_no w S 0 n s.l.length ?_ (fun w' hb => (look_log w' base S s lv M (h.below hb)).mono fun e w2 ⟨B, K, he, _, _, hb⟩ => ⟨_, _, he, hb⟩)
      by_cases hh : n < 0
      · exact .inl (by simp only [szB, decide_eq_false_iff_not]; omega)
      · exact .inr (by omega)
  · rw [if_neg (by omega)]
    by_cases h1 : t = 1
    · subst h1
      by_cases hn : n = 32
      · subst hn
        rw [if_pos ⟨rfl, rfl⟩]
        exact head_ok w S 1 32 32 (tbf s.t) (tbf_bd h.ok.tval) (by decide) (by decide) (by decide) (fun w' hb => look_tab w' base S s lv M (h.below hb))
      · rw [if_neg (by omega)]
        exact head_no w S 1 n 32 (.inl (by simp only [szB, decide_eq_false_iff_not]; omega)) (fun w' hb => (look_tab w' base S s lv M (h.below hb)).mono fun e w2 ⟨B, K, he, _, _, hb⟩ => ⟨_, _, he, hb⟩)
    · rw [if_neg (by omega)]
      exact head_no w S t n 0 (.inl (by simp only [szB, decide_eq_false_iff_not]; omega)) (fun w' hb => (look_no w' S t h0 h1).mono fun e w2 ⟨he, hw⟩ => ⟨_, _, he, by rw [hw]; exact Below.refl _ _⟩)
def prN (lf : Nat → Nd) (n f t : Nat) : List Nd := cn lf (cov 0 n f t)
def prB (lf : Nat → Nd) (n f t : Nat) : ByteArray := ⟨(marks (prN lf n f t)).toArray⟩
theorem prN_len (lf : Nat → Nd) (n f t : Nat) (h : n ≤ 64) : (prN lf n f t).length ≤ 64 := by
  rw [prN, cn_len]
  have := (cov_len f t n 0 n (by omega)).2
  omega
theorem prN_ok {lf : Nat → Nd} (hlf : ∀ i, bd 1 (lf i)) (n f t : Nat) (h : n ≤ 64) : (prN lf n f t).all Nd.ok = true := by
  rw [List.all_eq_true]
  intro d hd
  obtain ⟨p, hp, rfl⟩ := List.mem_map.1 hd
  have := cov_in f t n 0 n (by omega) (by omega) p hp
  exact tr_mid hlf p.a p.b (by omega)
theorem finN_fv {lf : Nat → Nd} (hg : ∀ i, (lf i).fold.good) (n f t : Nat) (ht : t ≤ n) : finN (fun p => tr lf p.a p.b) (cov 0 n f t) = fv lf f (t - f) := cover_fold hg n f t ht
set_option maxHeartbeats 2000000 in
set_option maxRecDepth 100000 in
theorem ask_ok (w : World) (S : Nat) (t : Int) (f u N : Nat) (lf : Nat → Nd) (hlf : ∀ i, bd 1 (lf i)) (hg : ∀ i, (lf i).fold.good) (hN : N ≤ 64) (hfu : f ≤ u) (hu : u ≤ N) (hL : ∀ w', Below w.heap.size w w' → Calls Tryz.prog 49 #[.pointer (some ⟨S, 0, none⟩), .int .i64 t] w' (lookPost N lf w')) :
    Calls Tryz.prog 133 #[.pointer (some ⟨S, 0, none⟩), .int .i64 t, .int .i64 f, .int .i64 u] w fun e w' => e = .returned (askV (fv lf f (u - f)) (prB lf N f u)) ∧ Below w.heap.size w w' := by
  have HL := hid (hL _ ((Below.refl _ _).alloc (Nat.le_refl _) (.cells #[.int .i64 0, .int .i64 0, .int .i64 0, .int .i64 0] 47)))
  have HP : ∀ B K w', Hid (Src 111 B K N (plG lf) → K w' → Calls Tryz.prog 62 #[.int .i64 N, paV f u, cloV 111 B] w' fun e w2 => ∃ ao c, e = .returned (.tuple #[foV (fv lf f (u - f)), .slice ao (prN lf N f u).length c]) ∧ w2.ownsRow w'.heap.size 51 6 (.slice ao (prN lf N f u).length c) (prN lf N f u).length ((prN lf N f u).flatMap Nd.cells) ∧ Below w'.heap.size w' w2) := fun B K w' => hid fun hS hK => by
    have := prove_any 111 B N f u K (fun p => tr lf p.a p.b) hS.keep (fun p hp => tr_mid hlf p.a p.b (by have := cov_in f u N 0 N (by omega) (by omega) p hp; omega)) hN hu
      (fun p hp W hW => by
        have hpi := cov_in f u N 0 N (by omega) (by omega) p hp
        exact node_any hS hN (comes_of hlf N p.a p.b (by omega) (by omega)) W hW hpi.2.1 hpi.2.2) w' hK
    rw [finN_fv hg N f u hu] at this
    refine this.mono ?_
    rintro e w2 ⟨v, he, hv, hb⟩
    have e1 : (cov 0 N f u).map (fun p => tr lf p.a p.b) = prN lf N f u := rfl
    rw [e1] at hv
    have e2 : (cov 0 N f u).length = (prN lf N f u).length := by rw [prN, cn_len]
    rw [e2] at hv
    obtain ⟨ao, c, rfl⟩ := own_shape hv
    exact ⟨ao, c, he, hv, hb⟩
  have HW : ∀ ao c base w', Hid (w'.ownsRow base 51 6 (.slice ao (prN lf N f u).length c) (prN lf N f u).length ((prN lf N f u).flatMap Nd.cells) → Calls Tryz.prog 130 #[.slice ao (prN lf N f u).length c] w' fun e w2 => e = .returned (.tuple #[.string (prB lf N f u), .int .i64 0]) ∧ Below w'.heap.size w' w2) := fun ao c base w' => hid fun ho => by
    have hl := prN_len lf N f u hN
    have hok := prN_ok hlf N f u hN
    have := write_any _ _ w' (Nodes.own ho (by omega))
    rw [writeB, if_pos ⟨hl, hok⟩, writeE, if_neg (by omega), if_pos hok] at this
    exact this
  clear hL hlf hg
  generalize prB lf N f u = pb at HW ⊢
  generalize fv lf f (u - f) = F at HP ⊢
  generalize prN lf N f u = l at HP HW
  unfold paV foV at HP
  unfold askV foV
  have hr : rgB f u N = true := decide_eq_true ⟨by omega, by omega, by omega⟩
  go_enter Tryz.func133, Tryz.ntmps133
  go_wp2_with fail
  refine HL.out.mono ?_
  rintro e w1 ⟨B, K, rfl, hS, hK, hb1⟩
  have HS := hid (And.intro hS hK)
  have h3 : FoAt w1 w.heap.size .zero := (FoAt.at w _ rfl .zero).below hb1 (by simp)
  have hz1 : w.heap.size < w1.heap.size := by have := hb1.size; simp at this; omega
  have H3 := hid h3
  have HB1 := hid (((Below.refl _ _).alloc (Nat.le_refl _) _).trans (hb1.mono (by simp)) : Below w.heap.size w w1)
  clear hb1 hS hK h3 HL
  go_wp2_with (go_at_call 61; refine (isRange_any _ _ _ _).mono ?_; rintro e w2 ⟨rfl, hw2⟩; rw [hr, hw2]; clear hw2 w2)
  refine ((HP B K _).out HS.out.1 HS.out.2).mono ?_
  rintro e w3 ⟨ao, c, rfl, ho3, hb3⟩
  have h4 := H3.out.below hb3 hz1
  have H4 := hid h4
  have HB3 := hid (HB1.out.trans (hb3.mono (Nat.le_of_lt hz1)) : Below w.heap.size w w3)
  have HO3 := hid ho3
  have hz3 : w.heap.size < w3.heap.size := Nat.lt_of_lt_of_le hz1 hb3.size
  clear hb3 h4 H3 HB1 HS HP ho3
  go_wp2_with fail
  refine ((HW _ _ _ _).out (HO3.out.alloc _)).mono ?_
  rintro e w5 ⟨rfl, hb5⟩
  have hF5 : FoAt w5 w3.heap.size F := (FoAt.at w3 _ rfl F).below hb5 (by simp)
  have hR5 : FoAt w5 w.heap.size .zero := (H4.out.alloc (.cells #[.int .i64 F.c, .int .i64 F.s, .int .i64 F.m, .int .i64 F.x] 47)).below hb5 (by simp; omega)
  have cF := hF5.cells
  have cR := hR5.cells
  simp only [Fo.zero] at cR
  have HR5 := hid hR5
  have HB5 := hid ((HB3.out.alloc HB3.out.size _).trans (hb5.mono (by simp; omega)) : Below w.heap.size w w5)
  clear hb5 hF5 hR5 H4 HB3 HO3 HW
  go_wp2
  refine ret_fold3 Tryz.results133 (HR5.out.set F) rfl rfl rfl ⟨rfl, ?_⟩
  repeat (refine Below.setCell ?_ (by simp) _)
  exact HB5.out
set_option maxHeartbeats 2000000 in
set_option maxRecDepth 100000 in
theorem ask_no (w : World) (S : Nat) (t f u N : Int) (b : Bool) (hz : b = false ∨ rgB f u N = false) (hL : ∀ w', Below w.heap.size w w' → Calls Tryz.prog 49 #[.pointer (some ⟨S, 0, none⟩), .int .i64 t] w' fun e w2 => ∃ f, e = .returned (.tuple #[.int .i64 N, f, .bool b]) ∧ Below w'.heap.size w' w2) :
    Calls Tryz.prog 133 #[.pointer (some ⟨S, 0, none⟩), .int .i64 t, .int .i64 f, .int .i64 u] w fun e w' => e = .returned noAsk ∧ Below w.heap.size w w' := by
  have HL := hid (hL _ ((Below.refl _ _).alloc (Nat.le_refl _) (.cells #[.int .i64 0, .int .i64 0, .int .i64 0, .int .i64 0] 47)))
  clear hL
  unfold noAsk foV
  simp only [Fo.zero]
  cases hb : b with
  | false =>
    subst hb
    clear hz
    go_enter Tryz.func133, Tryz.ntmps133
    go_wp2_with fail
    refine HL.out.mono ?_
    rintro e w1 ⟨ff, rfl, hb1⟩
    have h3 : FoAt w1 w.heap.size .zero := (FoAt.at w _ rfl .zero).below hb1 (by simp)
    have H3 := hid h3
    have cR := h3.cells
    simp only [Fo.zero] at cR
    have HB1 := hid (((Below.refl _ _).alloc (Nat.le_refl _) _).trans (hb1.mono (by simp)) : Below w.heap.size w w1)
    clear hb1 HL h3
    go_wp2
    refine ret_fold3 Tryz.results133 (H3.out.set .zero) rfl rfl rfl ⟨rfl, ?_⟩
    repeat (refine Below.setCell ?_ (by simp) _)
    exact HB1.out
  | true =>
    subst hb
    have hr : rgB f u N = false := by rcases hz with h | h; cases h; exact h
    clear hz
    go_enter Tryz.func133, Tryz.ntmps133
    go_wp2_with fail
    refine HL.out.mono ?_
    rintro e w1 ⟨ff, rfl, hb1⟩
    have h3 : FoAt w1 w.heap.size .zero := (FoAt.at w _ rfl .zero).below hb1 (by simp)
    have H3 := hid h3
    have cR := h3.cells
    simp only [Fo.zero] at cR
    have HB1 := hid (((Below.refl _ _).alloc (Nat.le_refl _) _).trans (hb1.mono (by simp)) : Below w.heap.size w w1)
    clear hb1 HL h3
    go_wp2_with (go_at_call 61; refine (isRange_any _ _ _ _).mono ?_; rintro e w2 ⟨rfl, hw2⟩; rw [hr, hw2]; clear hw2 w2)
    refine ret_fold3 Tryz.results133 (H3.out.set .zero) rfl rfl rfl ⟨rfl, ?_⟩
    repeat (refine Below.setCell ?_ (by simp) _)
    exact HB1.out
theorem lgf_good (l : List Int) (i : Nat) : (lgf l i).fold.good := by unfold lgf; rw [mkNd_fold]; exact good_one _
theorem tbf_good (t : List (Option Int)) (i : Nat) : (tbf t i).fold.good := by
  unfold tbf
  split
  · rw [mkNd_fold]; exact good_one _
  · exact good_zero
def asA (s : Sto) (t f u : Int) : Value :=
  if t = 0 ∧ 0 ≤ f ∧ f ≤ u ∧ u ≤ s.l.length then askV (fv (lgf s.l) f.toNat (u.toNat - f.toNat)) (prB (lgf s.l) s.l.length f.toNat u.toNat)
  else if t = 1 ∧ 0 ≤ f ∧ f ≤ u ∧ u ≤ 32 then askV (fv (tbf s.t) f.toNat (u.toNat - f.toNat)) (prB (tbf s.t) 32 f.toNat u.toNat) else noAsk
theorem ask_any (w : World) (base S : Nat) (s : Sto) (lv : Value) (M : Nat) (t f u : Int) (h : PSt w base S s lv M) :
    Calls Tryz.prog 133 #[.pointer (some ⟨S, 0, none⟩), .int .i64 t, .int .i64 f, .int .i64 u] w fun e w' => e = .returned (asA s t f u) ∧ Below w.heap.size w w' := by
  have hlen := h.ok.len
  unfold asA
  by_cases h0 : t = 0
  · subst h0
    by_cases hn : 0 ≤ f ∧ f ≤ u ∧ u ≤ s.l.length
    · rw [if_pos ⟨rfl, hn⟩]
      obtain ⟨f', rfl⟩ : ∃ m : Nat, f = m := ⟨f.toNat, by omega⟩
      obtain ⟨u', rfl⟩ : ∃ m : Nat, u = m := ⟨u.toNat, by omega⟩
      exact ask_ok w S 0 f' u' s.l.length (lgf s.l) (lgf_bd h.ok.val) (lgf_good _) hlen (by omega) (by omega) (fun w' hb => look_log w' base S s lv M (h.below hb))
    · rw [if_neg (by omega), if_neg (by omega)]
      exact ask_no w S 0 f u s.l.length true (.inr (decide_eq_false hn)) (fun w' hb => (look_log w' base S s lv M (h.below hb)).mono fun e w2 ⟨B, K, he, _, _, hb⟩ => ⟨_, he, hb⟩)
  · rw [if_neg (by omega)]
    by_cases h1 : t = 1
    · subst h1
      by_cases hn : 0 ≤ f ∧ f ≤ u ∧ u ≤ 32
      · rw [if_pos ⟨rfl, hn⟩]
        obtain ⟨f', rfl⟩ : ∃ m : Nat, f = m := ⟨f.toNat, by omega⟩
        obtain ⟨u', rfl⟩ : ∃ m : Nat, u = m := ⟨u.toNat, by omega⟩
        exact ask_ok w S 1 f' u' 32 (tbf s.t) (tbf_bd h.ok.tval) (tbf_good _) (by decide) (by omega) (by omega) (fun w' hb => look_tab w' base S s lv M (h.below hb))
      · rw [if_neg (by omega)]
        exact ask_no w S 1 f u 32 true (.inr (decide_eq_false hn)) (fun w' hb => (look_tab w' base S s lv M (h.below hb)).mono fun e w2 ⟨B, K, he, _, _, hb⟩ => ⟨_, he, hb⟩)
    · rw [if_neg (by omega)]
      exact ask_no w S t f u 0 false (.inl rfl) (fun w' hb => (look_no w' S t h0 h1).mono fun e w2 ⟨he, hw⟩ => ⟨_, he, by rw [hw]; exact Below.refl _ _⟩)
def grA (s : Sto) (n : Int) : Value := if 1 ≤ n ∧ n ≤ s.l.length then .tuple #[.string (prB (lgf s.l) s.l.length 0 n.toNat), .int .i64 0] else .tuple #[.string ⟨#[]⟩, .int .i64 5]
set_option maxHeartbeats 2000000 in
set_option maxRecDepth 100000 in
theorem grown_any (w : World) (base S : Nat) (s : Sto) (lv : Value) (M : Nat) (n : Int) (h : PSt w base S s lv M) :
    Calls Tryz.prog 100 #[.pointer (some ⟨S, 0, none⟩), .int .i64 n] w fun e w' => e = .returned (grA s n) ∧ Below w.heap.size w w' := by
  have HA := hid (ask_any w base S s lv M 0 0 n h)
  have HG : Hid (∃ f q e, asA s 0 0 n = .tuple #[foV f, .string q, .int .i64 e] ∧ (1 ≤ n → grA s n = .tuple #[.string q, .int .i64 e])) := hid (by
    unfold asA grA askV noAsk
    by_cases hn : 0 ≤ n ∧ n ≤ s.l.length
    · rw [if_pos (by omega)]
      exact ⟨_, _, _, rfl, fun h1 => by rw [if_pos (by omega)]; rfl⟩
    · rw [if_neg (by omega), if_neg (by omega)]
      exact ⟨_, _, _, rfl, fun h1 => by rw [if_neg (by omega)]⟩)
  clear h
  by_cases h1 : n < 1
  · have hg : grA s n = .tuple #[.string ⟨#[]⟩, .int .i64 5] := by rw [grA, if_neg (by omega)]
    rw [hg]
    clear HA HG hg
    go_enter Tryz.func100, Tryz.ntmps100
    go_wp2
    go_ret2
    exact ⟨rfl, Below.refl _ _⟩
  · obtain ⟨f, q, e, h2, h3⟩ := HG.out
    rw [h3 (by omega)]
    rw [h2] at HA
    clear h2 h3 HG
    unfold foV at HA
    go_enter Tryz.func100, Tryz.ntmps100
    go_wp2_with fail
    refine HA.out.mono ?_
    rintro e' w1 ⟨rfl, hb1⟩
    go_wp2
    go_ret2
    exact ⟨rfl, hb1.alloc hb1.size _⟩
end Go.Proofs.YtogmdaopfnmobaaGreat

