/- A store of the program beside the document's: what changes do. -/
import Derived.Test.YtogmdaopfnmobaaGreatP34
import Derived.Test.YtogmdaopfnmobaaGreatP36
namespace Go.Proofs.YtogmdaopfnmobaaGreat
open Go.RowKit

/-- A pair of stores. -/
structure Pr where
  S : Nat
  M : Nat
  R : Nat
  K : Nat
  H : Nat
  s : Sto
  lv : Value
  rl : Value
def Pr.blk (p : Pr) : List Nat := pfp p.S p.lv p.M ++ rfp p.R p.rl p.K p.H
def Pr.val (p : Pr) : Value := .agg #[.pointer (some ⟨p.S, 0, none⟩), .pointer (some ⟨p.R, 0, none⟩)]
structure PrOk (w : World) (base : Nat) (p : Pr) : Prop where
  ps : PSt w base p.S p.s p.lv p.M
  rs : RSt w base p.R p.s p.rl p.K p.H
  nd : p.blk.Nodup
theorem PrOk.fp {w : World} {base : Nat} {p : Pr} (h : PrOk w base p) : ∀ k ∈ p.blk, base ≤ k ∧ k < w.heap.size := fun k hk => by
  rcases List.mem_append.1 hk with hk | hk
  · exact h.ps.fp k hk
  · exact h.rs.fp k hk
theorem PrOk.frame {w w' : World} {base : Nat} {p : Pr} (h : PrOk w base p) (hf : ∀ k ∈ p.blk, w'.heap[k]? = w.heap[k]?) : PrOk w' base p :=
  ⟨h.ps.frame fun k hk => hf k (List.mem_append_left _ hk), h.rs.frame fun k hk => hf k (List.mem_append_right _ hk), h.nd⟩
theorem PrOk.below {w w' : World} {base : Nat} {p : Pr} (h : PrOk w base p) (hb : Below w.heap.size w w') : PrOk w' base p := h.frame fun k hk => hb.block k (h.fp k hk).2
theorem ob_one (v : Value) : (ob v).Nodup := by unfold ob; split <;> simp

/-- Behind the program's change. -/
structure Mid (W1 W2 : World) (base : Nat) (p : Pr) (s' : Sto) (lv' : Value) : Prop where
  ps : PSt W2 base p.S s' lv' p.M
  rs : RSt W2 base p.R p.s p.rl p.K p.H
  kept : Kept W1 W2 p.blk
  new : ∀ k ∈ ob lv', k ∈ ob p.lv ∨ W1.heap.size ≤ k
theorem pair_mid {W1 W2 : World} {base : Nat} {p : Pr} {s' : Sto} {n : Int} {e : Ending} (h : PrOk W1 base p) (hc : pchPost base p.S s' n p.lv p.M W1 e W2) : e = .returned (.int .i64 n) ∧ ∃ lv', Mid W1 W2 base p s' lv' := by
  obtain ⟨he, hk, lv', h1, h2⟩ := hc
  refine ⟨he, lv', h1, h.rs.frame fun k hk' => hk.block k (h.rs.fp k hk').2 (fun c => ?_), ⟨hk.os, hk.tape, hk.output, hk.size, fun k hk1 hk2 => hk.block k hk1 (fun c => hk2 (List.mem_append_left _ c))⟩, h2⟩
  exact (List.nodup_append.1 h.nd).2.2 k c k hk' rfl
/-- Behind both. -/
structure Done (W1 W3 : World) (base : Nat) (p p' : Pr) : Prop where
  ok : PrOk W3 base p'
  eS : p'.S = p.S
  eR : p'.R = p.R
  kept : Kept W1 W3 p.blk
  new : ∀ k ∈ p'.blk, k ∈ p.blk ∨ W1.heap.size ≤ k
theorem pair_done {W1 W2 W3 : World} {base : Nat} {p : Pr} {s' : Sto} {lv' : Value} {n : Int} {e : Ending} (h : PrOk W1 base p) (hm : Mid W1 W2 base p s' lv') (hc : chPost base p.R p.s s' n p.rl p.K p.H W2 e W3) : e = .returned (.int .i64 n) ∧ ∃ p', Done W1 W3 base p p' ∧ p'.s = s' := by
  obtain ⟨he, hk, rl', h1, h2⟩ := hc
  have hnd := List.nodup_append.1 h.nd
  have hrl : ∀ k ∈ rfp p.R p.rl p.K p.H, k < W1.heap.size := fun k hk => (h.rs.fp k hk).2
  have hpl : ∀ k ∈ pfp p.S lv' p.M, k ∈ pfp p.S p.lv p.M ∨ W1.heap.size ≤ k := fun k hk => by
    simp only [pfp, List.mem_cons] at hk ⊢
    rcases hk with e | e | hk
    · exact .inl (.inl e)
    · exact .inl (.inr (.inl e))
    · rcases hm.new k hk with h | h
      · exact .inl (.inr (.inr h))
      · exact .inr h
  have hdis : ∀ k ∈ pfp p.S lv' p.M, k ∉ rfp p.R p.rl p.K p.H := fun k hk c => by
    rcases hpl k hk with h3 | h3
    · exact hnd.2.2 k h3 k c rfl
    · have := hrl k c; omega
  have hps : PSt W3 base p.S s' lv' p.M := hm.ps.frame fun k hk' => hk.block k (hm.ps.fp k hk').2 (hdis k hk')
  have hrn : ∀ k ∈ rfp p.R rl' p.K p.H, k ∈ rfp p.R p.rl p.K p.H ∨ W2.heap.size ≤ k := fun k hk => by
    simp only [rfp, List.mem_cons] at hk ⊢
    rcases hk with e | e | e | hk
    · exact .inl (.inl e)
    · exact .inl (.inr (.inl e))
    · exact .inl (.inr (.inr (.inl e)))
    · rcases h2 k hk with h | h
      · exact .inl (.inr (.inr (.inr h)))
      · exact .inr h
  refine ⟨he, { p with s := s', lv := lv', rl := rl' }, ⟨⟨hps, h1, ?_⟩, rfl, rfl, ?_, ?_⟩, rfl⟩
  · refine List.nodup_append.2 ⟨?_, ?_, ?_⟩
    · obtain ⟨a1, a2, a3⟩ := hps.apart
      simp only [pfp, List.nodup_cons, List.mem_cons, not_or]
      exact ⟨⟨a3, a1⟩, a2, ob_one _⟩
    · have hrr := hnd.2.1
      simp only [rfp, List.nodup_cons, List.mem_cons, not_or] at hrr ⊢
      have hlt := hm.rs.lt
      have nw : ∀ k, k < W2.heap.size → k ∉ ob p.rl → k ∉ ob rl' := fun k hk hn c => by
        rcases h2 k c with h | h
        · exact hn h
        · omega
      exact ⟨⟨hrr.1.1, hrr.1.2.1, nw _ hlt.1 hrr.1.2.2⟩, ⟨hrr.2.1.1, nw _ hlt.2.1 hrr.2.1.2⟩, nw _ hlt.2.2 hrr.2.2.1, ob_one _⟩
    · intro a ha b hb e
      subst e
      rcases hrn a hb with h3 | h3
      · exact hdis a ha h3
      · have := (hm.ps.fp a ha).2; omega
  · refine hm.kept.trans ⟨hk.os, hk.tape, hk.output, hk.size, fun k h3 h4 => hk.block k h3 (fun c => h4 (List.mem_append_right _ c))⟩ (fun x hx => .inl hx)
  · intro k hk'
    rcases List.mem_append.1 hk' with h3 | h3
    · rcases hpl k h3 with h | h
      · exact .inl (List.mem_append_left _ h)
      · exact .inr h
    · rcases hrn k h3 with h | h
      · exact .inl (List.mem_append_right _ h)
      · exact .inr (Nat.le_trans hm.kept.size h)

set_option maxHeartbeats 400000 in
theorem num_any (n : Int) (w : World) : Calls Tryz.prog 19 #[.int .i64 n] w fun e w' => e = .returned (.int .i64 n) ∧ w' = w := by
  go_enter Tryz.func19, Tryz.ntmps19
  go_wp2
  go_ret
  exact ⟨rfl, rfl⟩

end Go.Proofs.YtogmdaopfnmobaaGreat

