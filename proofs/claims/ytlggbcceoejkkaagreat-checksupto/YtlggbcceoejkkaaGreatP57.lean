/- The law's world: its stores; New. -/
import Derived.Test.YtlggbcceoejkkaaGreatP56
namespace Go.Proofs.YtlggbcceoejkkaaGreat
open Go.RowKit

def Pr.cells (p : Pr) : List Value := [.pointer (some ⟨p.S, 0, none⟩), .pointer (some ⟨p.R, 0, none⟩)]
/-- The stores of the law's world. -/
structure StIn (w : World) (base : Nat) (sv : Value) (Ps : List Pr) : Prop where
  row : w.ownsRow base 50 2 sv Ps.length (Ps.flatMap Pr.cells)
  each : ∀ p ∈ Ps, PrOk w base p
  nd : (ob sv ++ Ps.flatMap Pr.blk).Nodup
def stFp (sv : Value) (Ps : List Pr) : List Nat := ob sv ++ Ps.flatMap Pr.blk
theorem StIn.fp {w : World} {base : Nat} {sv : Value} {Ps : List Pr} (h : StIn w base sv Ps) : ∀ k ∈ stFp sv Ps, base ≤ k ∧ k < w.heap.size := fun k hk => by
  rcases List.mem_append.1 hk with hk | hk
  · exact own_in h.row k hk
  · obtain ⟨p, hp, hk⟩ := List.mem_flatMap.1 hk
    exact (h.each p hp).fp k hk
theorem StIn.frame {w w' : World} {base : Nat} {sv : Value} {Ps : List Pr} (h : StIn w base sv Ps) (hf : ∀ k ∈ stFp sv Ps, w'.heap[k]? = w.heap[k]?) : StIn w' base sv Ps :=
  ⟨own_keep h.row fun k hk => hf k (List.mem_append_left _ hk), fun p hp => (h.each p hp).frame fun k hk => hf k (List.mem_append_right _ (List.mem_flatMap.2 ⟨p, hp, hk⟩)), h.nd⟩
theorem StIn.below {w w' : World} {base : Nat} {sv : Value} {Ps : List Pr} (h : StIn w base sv Ps) (hb : Below w.heap.size w w') : StIn w' base sv Ps := h.frame fun k hk => hb.block k (h.fp k hk).2
theorem StIn.nil (w : World) (base : Nat) : StIn w base (.slice none 0 0) [] := ⟨World.ownsRow_nil _ _ _ _, by simp, by simp [ob, Value.ownBlock]⟩

theorem PSt.mono {w : World} {base base' S : Nat} {s : Sto} {lv : Value} {M : Nat} (h : PSt w base S s lv M) (hb : base' ≤ base) : PSt w base' S s lv M := ⟨h.hS, own_mono h.hL hb, h.hM, Nat.le_trans hb h.bS, Nat.le_trans hb h.bM, h.ok⟩
theorem RSt.mono {w : World} {base base' R : Nat} {s : Sto} {lv : Value} {K H : Nat} (h : RSt w base R s lv K H) (hb : base' ≤ base) : RSt w base' R s lv K H := ⟨h.hR, own_mono h.hL hb, h.hK, h.hH, h.kl, Nat.le_trans hb h.bR, Nat.le_trans hb h.bK, Nat.le_trans hb h.bH, h.ok⟩
theorem RSt.own_nd {w : World} {base R : Nat} {s : Sto} {lv : Value} {K H : Nat} (h : RSt w base R s lv K H) : (rfp R lv K H).Nodup := by
  have hRo : R ∉ ob lv := fun c => blk_row h.hR (by decide) h.hL (mem_ob.1 c).symm
  have hHo : H ∉ ob lv := fun c => blk_row (show w.heap[H]? = _ from h.hH) (by decide) h.hL (mem_ob.1 c).symm
  have hRK : R ≠ K := fun c => by have h1 := h.hR; have h2 := h.hK; unfold Row at h2; rw [c, h2] at h1; simp at h1
  have hRH : R ≠ H := fun c => by have h1 := h.hR; have h2 := h.hH; unfold Row at h2; rw [c, h2] at h1; simp at h1
  have hKH : K ≠ H := fun c => by have h1 := h.hK; have h2 := h.hH; unfold Row at h1 h2; rw [c, h2] at h1; simp at h1
  simp only [rfp, List.nodup_cons, List.mem_cons, not_or]
  exact ⟨⟨hRK, hRH, hRo⟩, ⟨hKH, h.kl⟩, hHo, ob_one _⟩
theorem PSt.own_nd {w : World} {base S : Nat} {s : Sto} {lv : Value} {M : Nat} (h : PSt w base S s lv M) : (pfp S lv M).Nodup := by
  obtain ⟨a1, a2, a3⟩ := h.apart
  simp only [pfp, List.nodup_cons, List.mem_cons, not_or]
  exact ⟨⟨a3, a1⟩, a2, ob_one _⟩

/-- Behind New. -/
structure Made (w w' : World) (A base : Nat) (sv : Value) (cs : List Value) (Ps : List Pr) (sv' : Value) (p : Pr) : Prop where
  hA : w'.heap[A]? = some (.cells (sv' :: cs).toArray 31 (0, 0))
  st : StIn w' base sv' (Ps ++ [p])
  kept : Kept w w' (A :: ob sv)
  new : ∀ k ∈ stFp sv' (Ps ++ [p]), k ∈ stFp sv Ps ∨ w.heap.size ≤ k
theorem info_pair : (Tryz.prog.info? 50).map (fun i => (i.zero, i.size, i.bytes)) = some (some (.agg #[.pointer none, .pointer none]), 2, 16) := by kernel_rfl
theorem pair_new (w : World) (p : Pr) (e : TypeId) : ∀ j u, p.cells[j]? = some u → (w.alloc (.cells #[.pointer (some ⟨p.S, 0, none⟩), .pointer (some ⟨p.R, 0, none⟩)] e)).cell? ((⟨w.heap.size, 0, none⟩ : Addr).add j) = some u := by
  intro j u hj
  have e1 : (⟨w.heap.size, 0, none⟩ : Addr).add j = ⟨w.heap.size, j, none⟩ := by unfold Addr.add; split <;> simp_all
  rw [e1, cell_of_row _ _ j _ _ _ (heap_alloc_new w _)]
  simpa [Pr.cells] using hj
theorem pair_one (p : Pr) : ∀ u ∈ p.cells, u.oneCell' = true := by
  intro u hu
  simp only [Pr.cells, List.mem_cons, List.not_mem_nil, or_false] at hu
  rcases hu with rfl | rfl <;> rfl

theorem made_fin {w w2 w3 : World} {A base : Nat} {sv sv' : Value} {cs : List Value} {Ps : List Pr} {p : Pr} {o : Obj} (hA : w.heap[A]? = some (.cells (sv :: cs).toArray 31 (0, 0))) (hAb : A < base) (hbs : base ≤ w.heap.size) (h : StIn w base sv Ps) (hb2 : Below w.heap.size w w2)
    (hp : PrOk w2 base p) (hpn : ∀ k ∈ p.blk, w.heap.size ≤ k) (ho : w3.ownsRow base 50 2 sv' (Ps.length + 1) (Ps.flatMap Pr.cells ++ p.cells)) (hg : Grew (w2.alloc o) sv w3 sv') :
    Made w (w3.setCell ⟨A, 0, none⟩ sv') A base sv cs Ps sv' p := by
  have hAw : A < w.heap.size := by omega
  have hs2 := hb2.size
  have hs3 : w2.heap.size ≤ w3.heap.size := by have := hg.grown.size; simp at this; omega
  have hnew : ∀ k ∈ ob sv', k ∈ ob sv ∨ w2.heap.size ≤ k := blk_grew hg (by simp)
  have old2 : ∀ k, k < w2.heap.size → k ∉ ob sv → w3.heap[k]? = w2.heap[k]? := fun k hk hn => (hg.grown.block k (by simp; omega) (fun c => hn (mem_ob.2 c.symm))).trans (Below.heap_alloc _ _ _ hk)
  have old : ∀ k, k < w.heap.size → k ∉ ob sv → k ≠ A → (w3.setCell ⟨A, 0, none⟩ sv').heap[k]? = w.heap[k]? := fun k hk hn hne => (Below.heap_setCell _ _ _ _ hne).trans ((old2 k (by omega) hn).trans (hb2.block k hk))
  have hAo : A ∉ ob sv := fun c => by have := (own_in h.row A c).1; omega
  have hnd := List.nodup_append.1 h.nd
  have hdis : ∀ k ∈ Ps.flatMap Pr.blk, k ∉ ob sv := fun k hk c => hnd.2.2 k c k hk rfl
  have hlt : ∀ k ∈ Ps.flatMap Pr.blk, base ≤ k ∧ k < w.heap.size := fun k hk => h.fp k (List.mem_append_right _ hk)
  refine ⟨?_, ⟨?_, fun q hq => ?_, ?_⟩, ⟨(hg.grown.os).trans hb2.os, (hg.grown.tape).trans hb2.tape, (hg.grown.output).trans hb2.output, by simp [World.setCell]; omega, fun k hk hn => ?_⟩, fun k hk => ?_⟩
  · rw [heap_set (((old2 A (by omega) hAo).trans (hb2.block A hAw)).trans hA)]; simp
  · have : w3.ownsRow base 50 2 sv' (Ps ++ [p]).length ((Ps ++ [p]).flatMap Pr.cells) := by simpa using ho
    exact own_keep this fun k hk => Below.heap_setCell _ _ _ _ (fun c => by have := (own_in this k hk).1; subst c; show False; omega)
  · rcases List.mem_append.1 hq with hq | hq
    · refine (h.each q hq).frame fun k hk => ?_
      have hk' : k ∈ Ps.flatMap Pr.blk := List.mem_flatMap.2 ⟨q, hq, hk⟩
      exact old k (hlt k hk').2 (hdis k hk') (by have := (hlt k hk').1; omega)
    · simp only [List.mem_singleton] at hq
      subst hq
      refine hp.frame fun k hk => ?_
      have := hpn k hk
      exact (Below.heap_setCell _ _ _ _ (by show k ≠ A; omega)).trans (old2 k (hp.fp k hk).2 (fun c => by have := (own_in h.row k c).2; omega))
  · rw [List.flatMap_append, ← List.append_assoc]
    refine List.nodup_append.2 ⟨List.nodup_append.2 ⟨ob_one _, hnd.2.1, ?_⟩, by simpa using hp.nd, ?_⟩
    · intro a ha b hb e
      subst e
      rcases hnew a ha with c | c
      · exact hdis a hb c
      · have := (hlt a hb).2; omega
    · intro a ha b hb e
      subst e
      have hb' : a ∈ p.blk := by simpa using hb
      rcases List.mem_append.1 ha with c | c
      · rcases hnew a c with c | c
        · have h1 := (own_in h.row a c).2; have := hpn a hb'; omega
        · have := (hp.fp a hb').2; omega
      · have h1 := (hlt a c).2; have := hpn a hb'; omega
  · simp only [List.mem_cons, not_or] at hn
    exact old k hk hn.2 hn.1
  · unfold stFp at hk ⊢
    rw [List.flatMap_append] at hk
    rcases List.mem_append.1 hk with hk | hk
    · rcases hnew k hk with c | c
      · exact .inl (List.mem_append_left _ c)
      · exact .inr (by omega)
    · rcases List.mem_append.1 hk with hk | hk
      · exact .inl (List.mem_append_right _ hk)
      · exact .inr (hpn k (by simpa using hk))

set_option maxHeartbeats 2000000 in
set_option maxRecDepth 100000 in
theorem made_any (w : World) (A base : Nat) (sv : Value) (cs : List Value) (Ps : List Pr) (hA : w.heap[A]? = some (.cells (sv :: cs).toArray 31 (0, 0))) (hAb : A < base) (hbs : base ≤ w.heap.size) (h : StIn w base sv Ps) (hl : Ps.length ≤ 4000000) :
    Calls Tryz.prog 12 #[.pointer (some ⟨A, 0, none⟩)] w fun e w' => e = .returned (.bool true) ∧ ∃ sv' p, Made w w' A base sv cs Ps sv' p := by
  obtain ⟨ao, cap, rfl⟩ := own_shape h.row
  have HS := hid h
  have HA := hid hA
  clear h hA
  obtain ⟨i0, hi, hz0, hz1, hz2⟩ := info_parts info_pair
  go_enter Tryz.func12, Tryz.ntmps12
  go_wp2_with fail
  refine (new_any _).mono ?_
  rintro e w1 ⟨S, M, rfl, hP, hb1⟩
  have HP := hid hP
  have HB1 := hid hb1
  clear hP hb1
  go_wp2_with fail
  refine (refNew_any _).mono ?_
  rintro e w2 ⟨R, K, H, rfl, hR, hb2⟩
  have hb1 := HB1.out
  have hB2 : Below w.heap.size w w2 := hb1.trans (hb2.mono hb1.size)
  have hp : PrOk w2 base ⟨S, M, R, K, H, .empty, .slice none 0 0, .slice none 0 0⟩ := by
    refine ⟨(HP.out.below hb2).mono hbs, hR.mono (Nat.le_trans hbs hb1.size), List.nodup_append.2 ⟨(HP.out).own_nd, hR.own_nd, ?_⟩⟩
    intro a ha b hb e
    subst e
    have h1 := (HP.out.fp a ha).2
    have h2 := (hR.fp a hb).1
    omega
  have hpn : ∀ k ∈ Pr.blk ⟨S, M, R, K, H, .empty, .slice none 0 0, .slice none 0 0⟩, w.heap.size ≤ k := fun k hk => by
    rcases List.mem_append.1 hk with hk | hk
    · exact (HP.out.fp k hk).1
    · exact Nat.le_trans hb1.size (hR.fp k hk).1
  obtain ⟨p, hpe⟩ : ∃ p : Pr, p = ⟨S, M, R, K, H, .empty, .slice none 0 0, .slice none 0 0⟩ := ⟨_, rfl⟩
  have e1 : S = p.S := by rw [hpe]
  have e2 : R = p.R := by rw [hpe]
  rw [← hpe] at hp hpn
  rw [e1, e2]
  have hA2 : w2.heap[A]? = some (.cells (Value.slice ao Ps.length cap :: cs).toArray 31 (0, 0)) := (hB2.block A (by omega)).trans HA.out
  have c0 : w2.cell? ⟨A, 0, none⟩ = some (.slice ao Ps.length cap) := by rw [cell_of_row w2 _ _ _ _ _ hA2]; rfl
  have f0 : w2.frozen? ⟨A, 0, none⟩ = false := by simp [World.frozen?, hA2]
  have hown := (HS.out.below hB2).row
  have fin : ∀ sv' w3 o, Hid (w3.ownsRow base 50 2 sv' (Ps.length + 1) (Ps.flatMap Pr.cells ++ p.cells) → Grew (w2.alloc o) (.slice ao Ps.length cap) w3 sv' → Made w (w3.setCell ⟨A, 0, none⟩ sv') A base (.slice ao Ps.length cap) cs Ps sv' p) := fun sv' w3 o => hid fun h1 h2 => made_fin HA.out hAb hbs HS.out hB2 hp hpn h1 h2
  have hAl : A < w2.heap.size := by have := hB2.size; omega
  have hAo : some A ≠ (Value.slice ao Ps.length cap).ownBlock := fun c => by have := (own_in HS.out.row A (mem_ob.2 c.symm)).1; omega
  have hbs2 : base ≤ w2.heap.size := Nat.le_trans hbs hB2.size
  clear e1 e2 hpe hp hpn HP hR hb2 hb1 hB2 HB1 hA2 HA HS
  go_wp2_with (at_builtin; refine wpList_append_grew _ rfl _ _ 26 rfl base 50 i0 (.agg #[.pointer none, .pointer none]) 2 16 Tryz.underlying26 hi hz0 hz1 hz2 rfl (by decide) _ _ _ rfl (hown.alloc _) ⟨w2.heap.size, 0, none⟩ 1 1 p.cells rfl rfl (pair_new w2 p _) (pair_one p) (by unfold maxLen; omega) (by omega) (by simp; omega) ?_)
  rintro sv' w3 ho3 hg3 _
  obtain ⟨ao3, cap3, rfl⟩ := own_shape ho3
  have HF := hid ((fin _ w3 _).out ho3 hg3)
  have hb3 : w3.heap[A]? = w2.heap[A]? := (hg3.grown.block A (by simp; omega) hAo).trans (Below.heap_alloc _ _ _ hAl)
  have c3 : w3.cell? ⟨A, 0, none⟩ = some (.slice ao Ps.length cap) := (World.cell?_of_block (a := ⟨A, 0, none⟩) hb3).trans c0
  have f3 : w3.frozen? ⟨A, 0, none⟩ = false := (World.frozen?_of_block (a := ⟨A, 0, none⟩) hb3).trans f0
  clear ho3 hg3 hb3 fin hown c0 f0
  go_wp2
  go_ret
  exact ⟨rfl, _, p, HF.out⟩

end Go.Proofs.YtlggbcceoejkkaaGreat

