/- A store of the program beside the document's: what changes do. -/
import Derived.Test.YtogmdaopfnmobaaGreatS35
import Derived.Test.YtogmdaopfnmobaaGreatS14
namespace Go.Proofs.YtogmdaopfnmobaaGreat
open Go.RowKit
structure Pr where
  S : Nat
  M : Nat
  R : Nat
  K : Nat
  H : Nat
  s : Sto
  lv : Value
  rl : Value
def Pr.blk (p : Pr) : List Nat := pfp p.S p.lv p.M ++ rfp p.R p.rl p.K p.H
def Pr.val (p : Pr) : Value := .agg #[.pointer (some ⟨p.S, 0, none⟩), .pointer (some ⟨p.R, 0, none⟩)]
structure PrOk (w : World) (base : Nat) (p : Pr) : Prop where
  ps : PSt w base p.S p.s p.lv p.M
  rs : RSt w base p.R p.s p.rl p.K p.H
  nd : p.blk.Nodup
theorem PrOk.fp {w : World} {base : Nat} {p : Pr} (h : PrOk w base p) : ∀ k ∈ p.blk, base ≤ k ∧ k < w.heap.size := fun k hk => by
  rcases List.mem_append.1 hk with hk | hk
  · exact h.ps.fp k hk
  · exact h.rs.fp k hk
theorem PrOk.frame {w w' : World} {base : Nat} {p : Pr} (h : PrOk w base p) (hf : ∀ k ∈ p.blk, w'.heap[k]? = w.heap[k]?) : PrOk w' base p :=
  ⟨h.ps.frame fun k hk => hf k (List.mem_append_left _ hk), h.rs.frame fun k hk => hf k (List.mem_append_right _ hk), h.nd⟩
theorem PrOk.below {w w' : World} {base : Nat} {p : Pr} (h : PrOk w base p) (hb : Below w.heap.size w w') : PrOk w' base p := h.frame fun k hk => hb.block k (h.fp k hk).2
theorem ob_one (v : Value) : (ob v).Nodup := by unfold ob; split <;> simp
structure Mid (W1 W2 : World) (base : Nat) (p : Pr) (s' : Sto) (lv' : Value) : Prop where
  ps : PSt W2 base p.S s' lv' p.M
  rs : RSt W2 base p.R p.s p.rl p.K p.H
  kept : Kept W1 W2 p.blk
  new : ∀ k ∈ ob lv', k ∈ ob p.lv ∨ W1.heap.size ≤ k
theorem pair_mid {W1 W2 : World} {base : Nat} {p : Pr} {s' : Sto} {n : Int} {e : Ending} (h : PrOk W1 base p) (hc : pchPost base p.S s' n p.lv p.M W1 e W2) : e = .returned (.int .i64 n) ∧ ∃ lv', Mid W1 W2 base p s' lv' := by
  obtain ⟨he, hk, lv', h1, h2⟩ := hc
  refine ⟨he, lv', h1, h.rs.frame fun k hk' => hk.block k (h.rs.fp k hk').2 (fun c => ?_), ⟨hk.os, hk.tape, hk.output, hk.size, fun k hk1 hk2 => hk.block k hk1 (fun c => hk2 (List.mem_append_left _ c))⟩, h2⟩
  exact (List.nodup_append.1 h.nd).2.2 k c k hk' rfl
structure Done (W1 W3 : World) (base : Nat) (p p' : Pr) : Prop where
  ok : PrOk W3 base p'
  eS : p'.S = p.S
  eR : p'.R = p.R
  kept : Kept W1 W3 p.blk
  new : ∀ k ∈ p'.blk, k ∈ p.blk ∨ W1.heap.size ≤ k
theorem pair_done {W1 W2 W3 : World} {base : Nat} {p : Pr} {s' : Sto} {lv' : Value} {n : Int} {e : Ending} (h : PrOk W1 base p) (hm : Mid W1 W2 base p s' lv') (hc : chPost base p.R p.s s' n p.rl p.K p.H W2 e W3) : e = .returned (.int .i64 n) ∧ ∃ p', Done W1 W3 base p p' ∧ p'.s = s' := by
  obtain ⟨he, hk, rl', h1, h2⟩ := hc
  have hnd := List.nodup_append.1 h.nd
  have hrl : ∀ k ∈ rfp p.R p.rl p.K p.H, k < W1.heap.size := fun k hk => (h.rs.fp k hk).2
  have hpl : ∀ k ∈ pfp p.S lv' p.M, k ∈ pfp p.S p.lv p.M ∨ W1.heap.size ≤ k := fun k hk => by
    simp only [pfp, List.mem_cons] at hk ⊢
    rcases hk with e | e | hk
    · exact .inl (.inl e)
    · exact .inl (.inr (.inl e))
    · rcases hm.new k hk with h | h
      · exact .inl (.inr (.inr h))
      · exact .inr h
  have hdis : ∀ k ∈ pfp p.S lv' p.M, k ∉ rfp p.R p.rl p.K p.H := fun k hk c => by
    rcases hpl k hk with h3 | h3
    · exact hnd.2.2 k h3 k c rfl
    · have := hrl k c; omega
  have hps : PSt W3 base p.S s' lv' p.M := hm.ps.frame fun k hk' => hk.block k (hm.ps.fp k hk').2 (hdis k hk')
  have hrn : ∀ k ∈ rfp p.R rl' p.K p.H, k ∈ rfp p.R p.rl p.K p.H ∨ W2.heap.size ≤ k := fun k hk => by
    simp only [rfp, List.mem_cons] at hk ⊢
    rcases hk with e | e | e | hk
    · exact .inl (.inl e)
    · exact .inl (.inr (.inl e))
    · exact .inl (.inr (.inr (.inl e)))
    · rcases h2 k hk with h | h
      · exact .inl (.inr (.inr (.inr h)))
      · exact .inr h
  refine ⟨he, { p with s := s', lv := lv', rl := rl' }, ⟨⟨hps, h1, ?_⟩, rfl, rfl, ?_, ?_⟩, rfl⟩
  · refine List.nodup_append.2 ⟨?_, ?_, ?_⟩
    · obtain ⟨a1, a2, a3⟩ := hps.apart
      simp only [pfp, List.nodup_cons, List.mem_cons, not_or]
      exact ⟨⟨a3, a1⟩, a2, ob_one _⟩
    · have hrr := hnd.2.1
      simp only [rfp, List.nodup_cons, List.mem_cons, not_or] at hrr ⊢
      have hlt := hm.rs.lt
      have nw : ∀ k, k < W2.heap.size → k ∉ ob p.rl → k ∉ ob rl' := fun k hk hn c => by
        rcases h2 k c with h | h
        · exact hn h
        · omega
      exact ⟨⟨hrr.1.1, hrr.1.2.1, nw _ hlt.1 hrr.1.2.2⟩, ⟨hrr.2.1.1, nw _ hlt.2.1 hrr.2.1.2⟩, nw _ hlt.2.2 hrr.2.2.1, ob_one _⟩
    · intro a ha b hb e
      subst e
      rcases hrn a hb with h3 | h3
      · exact hdis a ha h3
      · have := (hm.ps.fp a ha).2; omega
  · refine hm.kept.trans ⟨hk.os, hk.tape, hk.output, hk.size, fun k h3 h4 => hk.block k h3 (fun c => h4 (List.mem_append_right _ c))⟩ (fun x hx => .inl hx)
  · intro k hk'
    rcases List.mem_append.1 hk' with h3 | h3
    · rcases hpl k h3 with h | h
      · exact .inl (List.mem_append_left _ h)
      · exact .inr h
    · rcases hrn k h3 with h | h
      · exact .inl (List.mem_append_right _ h)
      · exact .inr (Nat.le_trans hm.kept.size h)
set_option maxHeartbeats 400000 in
theorem num_any (n : Int) (w : World) : Calls Tryz.prog 19 #[.int .i64 n] w fun e w' => e = .returned (.int .i64 n) ∧ w' = w := by
  go_enter Tryz.func19, Tryz.ntmps19
  go_wp2
  go_ret
  exact ⟨rfl, rfl⟩
end Go.Proofs.YtogmdaopfnmobaaGreat

/- A store of the program beside the document's: Append, Set, Delete. -/
namespace Go.Proofs.YtogmdaopfnmobaaGreat
open Go.RowKit
theorem Done.before {w W1 W3 : World} {base : Nat} {p p' : Pr} (hb : Below w.heap.size w W1) (h : Done W1 W3 base p p') : Done w W3 base p p' :=
  ⟨h.ok, h.eS, h.eR, (Kept.of_below hb _).trans h.kept (fun _ hx => .inl hx), fun k hk => (h.new k hk).imp id (fun h => Nat.le_trans hb.size h)⟩
def chgPost (w : World) (base : Nat) (p : Pr) (e : Ending) (w' : World) : Prop := e = .returned (.bool true) ∧ ∃ p', Done w w' base p p'
set_option maxHeartbeats 4000000 in
set_option maxRecDepth 100000 in
theorem changes_5 (w : World) (base : Nat) (p : Pr) (hp : PrOk w base p) (hb : base ≤ w.heap.size) (a b c d hs gs f0 f1 f2 f3 : Int) (h0 h1 g0 g1 : Int) (s : ByteArray) (x1 x2 : Option Addr) (y1 z1 y2 z2 : Nat) (_hwf : (Lit.int .i64 b).wf = true) :
    Calls Tryz.prog 55 #[p.val, .agg #[.int .i64 5, .int .i64 a, .int .i64 b, .int .i64 c, .int .i64 d, .string s, .int .i64 hs, .int .u8 h0, .int .u8 h1, .int .i64 gs, .int .u8 g0, .int .u8 g1, .int .i64 f0, .int .i64 f1, .int .i64 f2, .int .i64 f3, .slice x1 y1 z1, .slice x2 y2 z2]] w (chgPost w base p) := by
  have hB1 : Below w.heap.size w ((w.alloc (.cells #[.pointer (some ⟨p.S, 0, none⟩), .pointer (some ⟨p.R, 0, none⟩)] 33)).alloc (.cells #[.int .i64 5, .int .i64 a, .int .i64 b, .int .i64 c, .int .i64 d, .string s, .int .i64 hs, .int .u8 h0, .int .u8 h1, .int .i64 gs, .int .u8 g0, .int .u8 g1, .int .i64 f0, .int .i64 f1, .int .i64 f2, .int .i64 f3, .slice x1 y1 z1, .slice x2 y2 z2] 74)) := ((Below.refl _ _).alloc (Nat.le_refl _) _).alloc (by simp) _
  obtain ⟨W1, hW1⟩ : ∃ W1, W1 = (w.alloc (.cells #[.pointer (some ⟨p.S, 0, none⟩), .pointer (some ⟨p.R, 0, none⟩)] 33)).alloc (.cells #[.int .i64 5, .int .i64 a, .int .i64 b, .int .i64 c, .int .i64 d, .string s, .int .i64 hs, .int .u8 h0, .int .u8 h1, .int .i64 gs, .int .u8 g0, .int .u8 g1, .int .i64 f0, .int .i64 f1, .int .i64 f2, .int .i64 f3, .slice x1 y1 z1, .slice x2 y2 z2] 74) := ⟨_, rfl⟩
  have hp1 : PrOk W1 base p := by rw [hW1]; exact hp.below hB1
  have hz1 : W1.heap.size = w.heap.size + 2 := by rw [hW1]; simp
  have hpr : W1.heap[w.heap.size]? = some (.cells #[.pointer (some ⟨p.S, 0, none⟩), .pointer (some ⟨p.R, 0, none⟩)] 33 (0, 0)) := by rw [hW1]; exact heap_two w _ _ _ rfl
  have hop : W1.heap[w.heap.size + 1]? = some (.cells #[.int .i64 5, .int .i64 a, .int .i64 b, .int .i64 c, .int .i64 d, .string s, .int .i64 hs, .int .u8 h0, .int .u8 h1, .int .i64 gs, .int .u8 g0, .int .u8 g1, .int .i64 f0, .int .i64 f1, .int .i64 f2, .int .i64 f3, .slice x1 y1 z1, .slice x2 y2 z2] 74 (0, 0)) := by rw [hW1]; exact heap_one _ _ _ (by simp)
  have HA := hid (append_any W1 base p.S p.s p.lv p.M b hp1.ps (by omega))
  have HM : Hid (∀ e W2, pchPost base p.S (apS p.s b) (apE p.s b) p.lv p.M W1 e W2 → e = .returned (.int .i64 (apE p.s b)) ∧ (W2.heap[w.heap.size]? = some (.cells #[.pointer (some ⟨p.S, 0, none⟩), .pointer (some ⟨p.R, 0, none⟩)] 33 (0, 0)) ∧ W2.heap[w.heap.size + 1]? = some (.cells #[.int .i64 5, .int .i64 a, .int .i64 b, .int .i64 c, .int .i64 d, .string s, .int .i64 hs, .int .u8 h0, .int .u8 h1, .int .i64 gs, .int .u8 g0, .int .u8 g1, .int .i64 f0, .int .i64 f1, .int .i64 f2, .int .i64 f3, .slice x1 y1 z1, .slice x2 y2 z2] 74 (0, 0))) ∧
      Calls Tryz.prog 28 #[.pointer (some ⟨p.R, 0, none⟩), .int .i64 b] W2 fun e' W3 => e' = .returned (.int .i64 (apE p.s b)) ∧ chgPost w base p (.returned (.bool true)) W3) := hid fun e W2 hc => by
    obtain ⟨he, lv', hm⟩ := pair_mid hp1 hc
    have hn : ∀ k, w.heap.size ≤ k → k ∉ p.blk := fun k hk c => by have := (hp.fp k c).2; omega
    refine ⟨he, ⟨(hm.kept.block _ (by omega) (hn _ (Nat.le_refl _))).trans hpr, (hm.kept.block _ (by omega) (hn _ (by omega))).trans hop⟩, ?_⟩
    refine (refAppend_any W2 base p.R p.s p.rl p.K p.H b hm.rs (by have := hm.kept.size; omega)).mono ?_
    intro e' W3 hc'
    obtain ⟨he', p', hd, _⟩ := pair_done hp1 hm hc'
    exact ⟨he', rfl, p', Done.before (by rw [hW1]; exact hB1) hd⟩
  clear hp hp1 hB1 hpr hop hz1
  unfold Pr.val
  rw [hW1] at HA HM
  clear hW1 W1
  generalize apE p.s b = E at HA HM
  generalize apS p.s b = S' at HA HM
  go_enter Tryz.func55, Tryz.ntmps55
  go_wp2_with fail
  refine HA.out.mono ?_
  intro e W2 hc
  obtain ⟨rfl, ⟨hpr, hop⟩, HR⟩ := HM.out e W2 hc
  have HR := hid HR
  have c0 : W2.cell? ⟨w.heap.size, 1, none⟩ = some (.pointer (some ⟨p.R, 0, none⟩)) := by rw [cell_of_row W2 _ _ _ _ _ hpr]; rfl
  have c1 : W2.cell? ⟨w.heap.size + 1, 2, none⟩ = some (.int .i64 b) := by rw [cell_of_row W2 _ _ _ _ _ hop]; rfl
  have c2 : W2.cell? ⟨w.heap.size + 1, 3, none⟩ = some (.int .i64 c) := by rw [cell_of_row W2 _ _ _ _ _ hop]; rfl
  clear hc HM HA hpr hop
  go_wp2_with fail
  refine HR.out.mono ?_
  rintro e' W3 ⟨rfl, hd⟩
  have HD := hid hd
  clear hd HR c0 c1 c2
  go_wp2_with (go_at_call 19; refine (num_any _ _).mono ?_; rintro e4 w4 ⟨rfl, hw4⟩; rw [hw4]; clear hw4 w4)
  go_ret
  exact HD.out
set_option maxHeartbeats 4000000 in
set_option maxRecDepth 100000 in
theorem changes_6 (w : World) (base : Nat) (p : Pr) (hp : PrOk w base p) (_hb : base ≤ w.heap.size) (a b c d hs gs f0 f1 f2 f3 : Int) (h0 h1 g0 g1 : Int) (s : ByteArray) (x1 x2 : Option Addr) (y1 z1 y2 z2 : Nat) (hwf : (Lit.int .i64 b).wf = true) :
    Calls Tryz.prog 55 #[p.val, .agg #[.int .i64 6, .int .i64 a, .int .i64 b, .int .i64 c, .int .i64 d, .string s, .int .i64 hs, .int .u8 h0, .int .u8 h1, .int .i64 gs, .int .u8 g0, .int .u8 g1, .int .i64 f0, .int .i64 f1, .int .i64 f2, .int .i64 f3, .slice x1 y1 z1, .slice x2 y2 z2]] w (chgPost w base p) := by
  have hB1 : Below w.heap.size w ((w.alloc (.cells #[.pointer (some ⟨p.S, 0, none⟩), .pointer (some ⟨p.R, 0, none⟩)] 33)).alloc (.cells #[.int .i64 6, .int .i64 a, .int .i64 b, .int .i64 c, .int .i64 d, .string s, .int .i64 hs, .int .u8 h0, .int .u8 h1, .int .i64 gs, .int .u8 g0, .int .u8 g1, .int .i64 f0, .int .i64 f1, .int .i64 f2, .int .i64 f3, .slice x1 y1 z1, .slice x2 y2 z2] 74)) := ((Below.refl _ _).alloc (Nat.le_refl _) _).alloc (by simp) _
  obtain ⟨W1, hW1⟩ : ∃ W1, W1 = (w.alloc (.cells #[.pointer (some ⟨p.S, 0, none⟩), .pointer (some ⟨p.R, 0, none⟩)] 33)).alloc (.cells #[.int .i64 6, .int .i64 a, .int .i64 b, .int .i64 c, .int .i64 d, .string s, .int .i64 hs, .int .u8 h0, .int .u8 h1, .int .i64 gs, .int .u8 g0, .int .u8 g1, .int .i64 f0, .int .i64 f1, .int .i64 f2, .int .i64 f3, .slice x1 y1 z1, .slice x2 y2 z2] 74) := ⟨_, rfl⟩
  have hp1 : PrOk W1 base p := by rw [hW1]; exact hp.below hB1
  have hz1 : W1.heap.size = w.heap.size + 2 := by rw [hW1]; simp
  have hpr : W1.heap[w.heap.size]? = some (.cells #[.pointer (some ⟨p.S, 0, none⟩), .pointer (some ⟨p.R, 0, none⟩)] 33 (0, 0)) := by rw [hW1]; exact heap_two w _ _ _ rfl
  have hop : W1.heap[w.heap.size + 1]? = some (.cells #[.int .i64 6, .int .i64 a, .int .i64 b, .int .i64 c, .int .i64 d, .string s, .int .i64 hs, .int .u8 h0, .int .u8 h1, .int .i64 gs, .int .u8 g0, .int .u8 g1, .int .i64 f0, .int .i64 f1, .int .i64 f2, .int .i64 f3, .slice x1 y1 z1, .slice x2 y2 z2] 74 (0, 0)) := by rw [hW1]; exact heap_one _ _ _ (by simp)
  have HA := hid (set_any W1 base p.S p.s p.lv p.M b c hwf hp1.ps)
  have HM : Hid (∀ e W2, pchPost base p.S (seS p.s b c) (seE p.s b c) p.lv p.M W1 e W2 → e = .returned (.int .i64 (seE p.s b c)) ∧ (W2.heap[w.heap.size]? = some (.cells #[.pointer (some ⟨p.S, 0, none⟩), .pointer (some ⟨p.R, 0, none⟩)] 33 (0, 0)) ∧ W2.heap[w.heap.size + 1]? = some (.cells #[.int .i64 6, .int .i64 a, .int .i64 b, .int .i64 c, .int .i64 d, .string s, .int .i64 hs, .int .u8 h0, .int .u8 h1, .int .i64 gs, .int .u8 g0, .int .u8 g1, .int .i64 f0, .int .i64 f1, .int .i64 f2, .int .i64 f3, .slice x1 y1 z1, .slice x2 y2 z2] 74 (0, 0))) ∧
      Calls Tryz.prog 32 #[.pointer (some ⟨p.R, 0, none⟩), .int .i64 b, .int .i64 c] W2 fun e' W3 => e' = .returned (.int .i64 (seE p.s b c)) ∧ chgPost w base p (.returned (.bool true)) W3) := hid fun e W2 hc => by
    obtain ⟨he, lv', hm⟩ := pair_mid hp1 hc
    have hn : ∀ k, w.heap.size ≤ k → k ∉ p.blk := fun k hk c => by have := (hp.fp k c).2; omega
    refine ⟨he, ⟨(hm.kept.block _ (by omega) (hn _ (Nat.le_refl _))).trans hpr, (hm.kept.block _ (by omega) (hn _ (by omega))).trans hop⟩, ?_⟩
    refine (refSet_any W2 base p.R p.s p.rl p.K p.H b c hm.rs).mono ?_
    intro e' W3 hc'
    obtain ⟨he', p', hd, _⟩ := pair_done hp1 hm hc'
    exact ⟨he', rfl, p', Done.before (by rw [hW1]; exact hB1) hd⟩
  clear hp hp1 hB1 hpr hop hz1
  unfold Pr.val
  rw [hW1] at HA HM
  clear hW1 W1 hwf
  generalize seE p.s b c = E at HA HM
  generalize seS p.s b c = S' at HA HM
  go_enter Tryz.func55, Tryz.ntmps55
  go_wp2_with fail
  refine HA.out.mono ?_
  intro e W2 hc
  obtain ⟨rfl, ⟨hpr, hop⟩, HR⟩ := HM.out e W2 hc
  have HR := hid HR
  have c0 : W2.cell? ⟨w.heap.size, 1, none⟩ = some (.pointer (some ⟨p.R, 0, none⟩)) := by rw [cell_of_row W2 _ _ _ _ _ hpr]; rfl
  have c1 : W2.cell? ⟨w.heap.size + 1, 2, none⟩ = some (.int .i64 b) := by rw [cell_of_row W2 _ _ _ _ _ hop]; rfl
  have c2 : W2.cell? ⟨w.heap.size + 1, 3, none⟩ = some (.int .i64 c) := by rw [cell_of_row W2 _ _ _ _ _ hop]; rfl
  clear hc HM HA hpr hop
  go_wp2_with fail
  refine HR.out.mono ?_
  rintro e' W3 ⟨rfl, hd⟩
  have HD := hid hd
  clear hd HR c0 c1 c2
  go_wp2_with (go_at_call 19; refine (num_any _ _).mono ?_; rintro e4 w4 ⟨rfl, hw4⟩; rw [hw4]; clear hw4 w4)
  go_ret
  exact HD.out
set_option maxHeartbeats 4000000 in
set_option maxRecDepth 100000 in
theorem changes_7 (w : World) (base : Nat) (p : Pr) (hp : PrOk w base p) (_hb : base ≤ w.heap.size) (a b c d hs gs f0 f1 f2 f3 : Int) (h0 h1 g0 g1 : Int) (s : ByteArray) (x1 x2 : Option Addr) (y1 z1 y2 z2 : Nat) (hwf : (Lit.int .i64 b).wf = true) :
    Calls Tryz.prog 55 #[p.val, .agg #[.int .i64 7, .int .i64 a, .int .i64 b, .int .i64 c, .int .i64 d, .string s, .int .i64 hs, .int .u8 h0, .int .u8 h1, .int .i64 gs, .int .u8 g0, .int .u8 g1, .int .i64 f0, .int .i64 f1, .int .i64 f2, .int .i64 f3, .slice x1 y1 z1, .slice x2 y2 z2]] w (chgPost w base p) := by
  have hB1 : Below w.heap.size w ((w.alloc (.cells #[.pointer (some ⟨p.S, 0, none⟩), .pointer (some ⟨p.R, 0, none⟩)] 33)).alloc (.cells #[.int .i64 7, .int .i64 a, .int .i64 b, .int .i64 c, .int .i64 d, .string s, .int .i64 hs, .int .u8 h0, .int .u8 h1, .int .i64 gs, .int .u8 g0, .int .u8 g1, .int .i64 f0, .int .i64 f1, .int .i64 f2, .int .i64 f3, .slice x1 y1 z1, .slice x2 y2 z2] 74)) := ((Below.refl _ _).alloc (Nat.le_refl _) _).alloc (by simp) _
  obtain ⟨W1, hW1⟩ : ∃ W1, W1 = (w.alloc (.cells #[.pointer (some ⟨p.S, 0, none⟩), .pointer (some ⟨p.R, 0, none⟩)] 33)).alloc (.cells #[.int .i64 7, .int .i64 a, .int .i64 b, .int .i64 c, .int .i64 d, .string s, .int .i64 hs, .int .u8 h0, .int .u8 h1, .int .i64 gs, .int .u8 g0, .int .u8 g1, .int .i64 f0, .int .i64 f1, .int .i64 f2, .int .i64 f3, .slice x1 y1 z1, .slice x2 y2 z2] 74) := ⟨_, rfl⟩
  have hp1 : PrOk W1 base p := by rw [hW1]; exact hp.below hB1
  have hz1 : W1.heap.size = w.heap.size + 2 := by rw [hW1]; simp
  have hpr : W1.heap[w.heap.size]? = some (.cells #[.pointer (some ⟨p.S, 0, none⟩), .pointer (some ⟨p.R, 0, none⟩)] 33 (0, 0)) := by rw [hW1]; exact heap_two w _ _ _ rfl
  have hop : W1.heap[w.heap.size + 1]? = some (.cells #[.int .i64 7, .int .i64 a, .int .i64 b, .int .i64 c, .int .i64 d, .string s, .int .i64 hs, .int .u8 h0, .int .u8 h1, .int .i64 gs, .int .u8 g0, .int .u8 g1, .int .i64 f0, .int .i64 f1, .int .i64 f2, .int .i64 f3, .slice x1 y1 z1, .slice x2 y2 z2] 74 (0, 0)) := by rw [hW1]; exact heap_one _ _ _ (by simp)
  have HA := hid (delete_any W1 base p.S p.s p.lv p.M b hwf hp1.ps)
  have HM : Hid (∀ e W2, pchPost base p.S (deS p.s b) (deE p.s b) p.lv p.M W1 e W2 → e = .returned (.int .i64 (deE p.s b)) ∧ (W2.heap[w.heap.size]? = some (.cells #[.pointer (some ⟨p.S, 0, none⟩), .pointer (some ⟨p.R, 0, none⟩)] 33 (0, 0)) ∧ W2.heap[w.heap.size + 1]? = some (.cells #[.int .i64 7, .int .i64 a, .int .i64 b, .int .i64 c, .int .i64 d, .string s, .int .i64 hs, .int .u8 h0, .int .u8 h1, .int .i64 gs, .int .u8 g0, .int .u8 g1, .int .i64 f0, .int .i64 f1, .int .i64 f2, .int .i64 f3, .slice x1 y1 z1, .slice x2 y2 z2] 74 (0, 0))) ∧
      Calls Tryz.prog 30 #[.pointer (some ⟨p.R, 0, none⟩), .int .i64 b] W2 fun e' W3 => e' = .returned (.int .i64 (deE p.s b)) ∧ chgPost w base p (.returned (.bool true)) W3) := hid fun e W2 hc => by
    obtain ⟨he, lv', hm⟩ := pair_mid hp1 hc
    have hn : ∀ k, w.heap.size ≤ k → k ∉ p.blk := fun k hk c => by have := (hp.fp k c).2; omega
    refine ⟨he, ⟨(hm.kept.block _ (by omega) (hn _ (Nat.le_refl _))).trans hpr, (hm.kept.block _ (by omega) (hn _ (by omega))).trans hop⟩, ?_⟩
    refine (refDelete_any W2 base p.R p.s p.rl p.K p.H b hm.rs).mono ?_
    intro e' W3 hc'
    obtain ⟨he', p', hd, _⟩ := pair_done hp1 hm hc'
    exact ⟨he', rfl, p', Done.before (by rw [hW1]; exact hB1) hd⟩
  clear hp hp1 hB1 hpr hop hz1
  unfold Pr.val
  rw [hW1] at HA HM
  clear hW1 W1 hwf
  generalize deE p.s b = E at HA HM
  generalize deS p.s b = S' at HA HM
  go_enter Tryz.func55, Tryz.ntmps55
  go_wp2_with fail
  refine HA.out.mono ?_
  intro e W2 hc
  obtain ⟨rfl, ⟨hpr, hop⟩, HR⟩ := HM.out e W2 hc
  have HR := hid HR
  have c0 : W2.cell? ⟨w.heap.size, 1, none⟩ = some (.pointer (some ⟨p.R, 0, none⟩)) := by rw [cell_of_row W2 _ _ _ _ _ hpr]; rfl
  have c1 : W2.cell? ⟨w.heap.size + 1, 2, none⟩ = some (.int .i64 b) := by rw [cell_of_row W2 _ _ _ _ _ hop]; rfl
  have c2 : W2.cell? ⟨w.heap.size + 1, 3, none⟩ = some (.int .i64 c) := by rw [cell_of_row W2 _ _ _ _ _ hop]; rfl
  clear hc HM HA hpr hop
  go_wp2_with fail
  refine HR.out.mono ?_
  rintro e' W3 ⟨rfl, hd⟩
  have HD := hid hd
  clear hd HR c0 c1 c2
  go_wp2_with (go_at_call 19; refine (num_any _ _).mono ?_; rintro e4 w4 ⟨rfl, hw4⟩; rw [hw4]; clear hw4 w4)
  go_ret
  exact HD.out
end Go.Proofs.YtogmdaopfnmobaaGreat

/- A store of the program beside the document's: Head, Ask, Grown. -/
namespace Go.Proofs.YtogmdaopfnmobaaGreat
open Go.RowKit
set_option maxRecDepth 100000 in
theorem run_eql_head (w : World) (n h g : Int) :
    (binOp .eql 58 (.agg #[.int .i64 n, .int .u8 h, .int .u8 g]) (.agg #[.int .i64 n, .int .u8 h, .int .u8 g])).run Tryz.prog w = .ok (.bool true) w := by
  go_simp
  rw [run_equal_digest]
  simp
attribute [local go_sem ↓] run_eql_head
theorem hdA_shape (s : Sto) (t n : Int) : ∃ m h g e : Int, hdA s t n = .tuple #[.agg #[.int .i64 m, .int .u8 h, .int .u8 g], .int .i64 e] := by
  unfold hdA headV noHead
  split
  · exact ⟨_, _, _, _, rfl⟩
  · split <;> exact ⟨_, _, _, _, rfl⟩
theorem asA_shape (s : Sto) (t f u : Int) : ∃ (c q m x : Int) (b : ByteArray) (e : Int), asA s t f u = .tuple #[.agg #[.int .i64 c, .int .i64 q, .int .i64 m, .int .i64 x], .string b, .int .i64 e] := by
  unfold asA askV noAsk foV
  split
  · exact ⟨_, _, _, _, _, _, rfl⟩
  · split <;> exact ⟨_, _, _, _, _, _, rfl⟩
theorem grA_shape (s : Sto) (n : Int) : ∃ (b : ByteArray) (e : Int), grA s n = .tuple #[.string b, .int .i64 e] := by
  unfold grA
  split <;> exact ⟨_, _, rfl⟩
set_option maxHeartbeats 4000000 in
set_option maxRecDepth 100000 in
theorem tells_8 (w : World) (base : Nat) (p : Pr) (hp : PrOk w base p) (a b c d hs gs f0 f1 f2 f3 : Int) (h0 h1 g0 g1 : Int) (s : ByteArray) (x1 x2 : Option Addr) (y1 z1 y2 z2 : Nat) :
    Calls Tryz.prog 56 #[p.val, .agg #[.int .i64 8, .int .i64 a, .int .i64 b, .int .i64 c, .int .i64 d, .string s, .int .i64 hs, .int .u8 h0, .int .u8 h1, .int .i64 gs, .int .u8 g0, .int .u8 g1, .int .i64 f0, .int .i64 f1, .int .i64 f2, .int .i64 f3, .slice x1 y1 z1, .slice x2 y2 z2]] w fun e w' => e = .returned (.bool true) ∧ Below w.heap.size w w' := by
  have hB1 : Below w.heap.size w ((w.alloc (.cells #[.pointer (some ⟨p.S, 0, none⟩), .pointer (some ⟨p.R, 0, none⟩)] 33)).alloc (.cells #[.int .i64 8, .int .i64 a, .int .i64 b, .int .i64 c, .int .i64 d, .string s, .int .i64 hs, .int .u8 h0, .int .u8 h1, .int .i64 gs, .int .u8 g0, .int .u8 g1, .int .i64 f0, .int .i64 f1, .int .i64 f2, .int .i64 f3, .slice x1 y1 z1, .slice x2 y2 z2] 74)) := ((Below.refl _ _).alloc (Nat.le_refl _) _).alloc (by simp) _
  have HC : Hid (∀ W2, Below (w.heap.size + 2) ((w.alloc (.cells #[.pointer (some ⟨p.S, 0, none⟩), .pointer (some ⟨p.R, 0, none⟩)] 33)).alloc (.cells #[.int .i64 8, .int .i64 a, .int .i64 b, .int .i64 c, .int .i64 d, .string s, .int .i64 hs, .int .u8 h0, .int .u8 h1, .int .i64 gs, .int .u8 g0, .int .u8 g1, .int .i64 f0, .int .i64 f1, .int .i64 f2, .int .i64 f3, .slice x1 y1 z1, .slice x2 y2 z2] 74)) W2 → (W2.cell? ⟨w.heap.size, 1, none⟩ = some (.pointer (some ⟨p.R, 0, none⟩)) ∧ W2.cell? ⟨w.heap.size + 1, 2, none⟩ = some (.int .i64 b) ∧ W2.cell? ⟨w.heap.size + 1, 3, none⟩ = some (.int .i64 c) ∧ W2.cell? ⟨w.heap.size + 1, 4, none⟩ = some (.int .i64 d)) ∧ Below w.heap.size w W2) := hid fun W2 hb => by
    have hpr := (hb.block w.heap.size (by omega)).trans (heap_two w (.cells #[.pointer (some ⟨p.S, 0, none⟩), .pointer (some ⟨p.R, 0, none⟩)] 33) _ _ rfl)
    have hop := (hb.block (w.heap.size + 1) (by omega)).trans (heap_one (w.alloc (.cells #[.pointer (some ⟨p.S, 0, none⟩), .pointer (some ⟨p.R, 0, none⟩)] 33)) (.cells #[.int .i64 8, .int .i64 a, .int .i64 b, .int .i64 c, .int .i64 d, .string s, .int .i64 hs, .int .u8 h0, .int .u8 h1, .int .i64 gs, .int .u8 g0, .int .u8 g1, .int .i64 f0, .int .i64 f1, .int .i64 f2, .int .i64 f3, .slice x1 y1 z1, .slice x2 y2 z2] 74) _ (by simp))
    exact ⟨⟨by rw [cell_of_row W2 _ _ _ _ _ hpr]; rfl, by rw [cell_of_row W2 _ _ _ _ _ hop]; rfl, by rw [cell_of_row W2 _ _ _ _ _ hop]; rfl, by rw [cell_of_row W2 _ _ _ _ _ hop]; rfl⟩, hB1.trans (hb.mono (by omega))⟩
  have HP := hid (sHead_any _ base p.S p.s p.lv p.M b c (hp.below hB1).ps)
  have HR : ∀ W2, Hid (Below w.heap.size w W2 → Calls Tryz.prog 40 #[.pointer (some ⟨p.R, 0, none⟩), .int .i64 b, .int .i64 c] W2 _) := fun W2 => hid fun hb => rHead_any W2 base p.R p.s p.rl p.K p.H b c (hp.below hb).rs
  obtain ⟨m, q0, q1, e0, hsh⟩ := hdA_shape p.s b c
  rw [hsh] at HP HR
  clear hp hB1 hsh
  unfold Pr.val
  go_enter Tryz.func56, Tryz.ntmps56
  go_wp2_with fail
  refine HP.out.mono ?_
  rintro e W2 ⟨rfl, hb2⟩
  have hb2' := hb2.alloc hb2.size (.cells #[.int .i64 m, .int .u8 q0, .int .u8 q1] 58)
  obtain ⟨hc2, hB2⟩ := HC.out _ (hb2'.mono (by simp))
  have hz2 : w.heap.size + 2 ≤ W2.heap.size := by have := hb2.size; simp at this; omega
  clear hb2 hb2'
  have HB2 := hid hB2
  have h2 : (W2.alloc (.cells #[.int .i64 m, .int .u8 q0, .int .u8 q1] 58)).heap[W2.heap.size]? = some (.cells #[.int .i64 m, .int .u8 q0, .int .u8 q1] 58 (0, 0)) := heap_alloc_new _ _
  have H2 := hid h2
  clear hB2 h2 HP HC
  go_wp2_with fail
  refine ((HR _).out HB2.out).mono ?_
  rintro e W3 ⟨rfl, hb3⟩
  have h3 := (hb3.block W2.heap.size (by simp)).trans H2.out
  have h3c : W3.cell? ⟨W2.heap.size, 0, none⟩ = some (.int .i64 m) ∧ W3.cell? ⟨W2.heap.size, 1, none⟩ = some (.int .u8 q0) ∧ W3.cell? ⟨W2.heap.size, 2, none⟩ = some (.int .u8 q1) := ⟨by rw [cell_of_row W3 _ _ _ _ _ h3]; rfl, by rw [cell_of_row W3 _ _ _ _ _ h3]; rfl, by rw [cell_of_row W3 _ _ _ _ _ h3]; rfl⟩
  have z3 : W2.heap.size < W3.heap.size := by have := hb3.size; simp at this; omega
  have h4c := And.intro (cell_old (.cells #[.int .i64 m, .int .u8 q0, .int .u8 q1] 58) h3c.1) (And.intro (cell_old (.cells #[.int .i64 m, .int .u8 q0, .int .u8 q1] 58) h3c.2.1) (cell_old (.cells #[.int .i64 m, .int .u8 q0, .int .u8 q1] 58) h3c.2.2))
  have HB3 := hid (HB2.out.trans (hb3.mono (by simp; omega)))
  clear hb3 h3 HR H2 HB2 hc2
  go_wp2_with (go_at_call 19; refine (num_any _ _).mono ?_; rintro e4 w4 ⟨rfl, hw4⟩; rw [hw4]; clear hw4 w4)
  go_ret
  exact ⟨rfl, HB3.out.alloc HB3.out.size _⟩
set_option maxHeartbeats 4000000 in
set_option maxRecDepth 100000 in
theorem tells_10 (w : World) (base : Nat) (p : Pr) (hp : PrOk w base p) (a b c d hs gs f0 f1 f2 f3 : Int) (h0 h1 g0 g1 : Int) (s : ByteArray) (x1 x2 : Option Addr) (y1 z1 y2 z2 : Nat) :
    Calls Tryz.prog 56 #[p.val, .agg #[.int .i64 10, .int .i64 a, .int .i64 b, .int .i64 c, .int .i64 d, .string s, .int .i64 hs, .int .u8 h0, .int .u8 h1, .int .i64 gs, .int .u8 g0, .int .u8 g1, .int .i64 f0, .int .i64 f1, .int .i64 f2, .int .i64 f3, .slice x1 y1 z1, .slice x2 y2 z2]] w fun e w' => e = .returned (.bool true) ∧ Below w.heap.size w w' := by
  have hB1 : Below w.heap.size w ((w.alloc (.cells #[.pointer (some ⟨p.S, 0, none⟩), .pointer (some ⟨p.R, 0, none⟩)] 33)).alloc (.cells #[.int .i64 10, .int .i64 a, .int .i64 b, .int .i64 c, .int .i64 d, .string s, .int .i64 hs, .int .u8 h0, .int .u8 h1, .int .i64 gs, .int .u8 g0, .int .u8 g1, .int .i64 f0, .int .i64 f1, .int .i64 f2, .int .i64 f3, .slice x1 y1 z1, .slice x2 y2 z2] 74)) := ((Below.refl _ _).alloc (Nat.le_refl _) _).alloc (by simp) _
  have HC : Hid (∀ W2, Below (w.heap.size + 2) ((w.alloc (.cells #[.pointer (some ⟨p.S, 0, none⟩), .pointer (some ⟨p.R, 0, none⟩)] 33)).alloc (.cells #[.int .i64 10, .int .i64 a, .int .i64 b, .int .i64 c, .int .i64 d, .string s, .int .i64 hs, .int .u8 h0, .int .u8 h1, .int .i64 gs, .int .u8 g0, .int .u8 g1, .int .i64 f0, .int .i64 f1, .int .i64 f2, .int .i64 f3, .slice x1 y1 z1, .slice x2 y2 z2] 74)) W2 → (W2.cell? ⟨w.heap.size, 1, none⟩ = some (.pointer (some ⟨p.R, 0, none⟩)) ∧ W2.cell? ⟨w.heap.size + 1, 2, none⟩ = some (.int .i64 b) ∧ W2.cell? ⟨w.heap.size + 1, 3, none⟩ = some (.int .i64 c) ∧ W2.cell? ⟨w.heap.size + 1, 4, none⟩ = some (.int .i64 d)) ∧ Below w.heap.size w W2) := hid fun W2 hb => by
    have hpr := (hb.block w.heap.size (by omega)).trans (heap_two w (.cells #[.pointer (some ⟨p.S, 0, none⟩), .pointer (some ⟨p.R, 0, none⟩)] 33) _ _ rfl)
    have hop := (hb.block (w.heap.size + 1) (by omega)).trans (heap_one (w.alloc (.cells #[.pointer (some ⟨p.S, 0, none⟩), .pointer (some ⟨p.R, 0, none⟩)] 33)) (.cells #[.int .i64 10, .int .i64 a, .int .i64 b, .int .i64 c, .int .i64 d, .string s, .int .i64 hs, .int .u8 h0, .int .u8 h1, .int .i64 gs, .int .u8 g0, .int .u8 g1, .int .i64 f0, .int .i64 f1, .int .i64 f2, .int .i64 f3, .slice x1 y1 z1, .slice x2 y2 z2] 74) _ (by simp))
    exact ⟨⟨by rw [cell_of_row W2 _ _ _ _ _ hpr]; rfl, by rw [cell_of_row W2 _ _ _ _ _ hop]; rfl, by rw [cell_of_row W2 _ _ _ _ _ hop]; rfl, by rw [cell_of_row W2 _ _ _ _ _ hop]; rfl⟩, hB1.trans (hb.mono (by omega))⟩
  have HP := hid (grown_any _ base p.S p.s p.lv p.M b (hp.below hB1).ps)
  have HR : ∀ W2, Hid (Below w.heap.size w W2 → Calls Tryz.prog 101 #[.pointer (some ⟨p.R, 0, none⟩), .int .i64 b] W2 _) := fun W2 => hid fun hb => rGrown_any W2 base p.R p.s p.rl p.K p.H b (hp.below hb).rs
  obtain ⟨q0, e0, hsh⟩ := grA_shape p.s b
  rw [hsh] at HP HR
  clear hp hB1 hsh
  unfold Pr.val
  go_enter Tryz.func56, Tryz.ntmps56
  go_wp2_with fail
  refine HP.out.mono ?_
  rintro e W2 ⟨rfl, hb2⟩
  obtain ⟨hc2, hB2⟩ := HC.out _ (hb2.mono (by simp))
  have HB2 := hid hB2
  have hz2 : w.heap.size ≤ W2.heap.size := hB2.size
  clear hB2 hb2 HP HC
  go_wp2_with fail
  refine ((HR _).out HB2.out).mono ?_
  rintro e W3 ⟨rfl, hb3⟩
  have HB3 := hid (HB2.out.trans (hb3.mono hz2))
  clear hb3 HR HB2 hc2
  go_wp2_with (go_at_call 19; refine (num_any _ _).mono ?_; rintro e4 w4 ⟨rfl, hw4⟩; rw [hw4]; clear hw4 w4)
  go_ret
  exact ⟨rfl, HB3.out⟩
set_option maxHeartbeats 4000000 in
set_option maxRecDepth 100000 in
theorem asked_any (w : World) (base : Nat) (p : Pr) (hp : PrOk w base p) (k : Int) (a b c d hs gs f0 f1 f2 f3 : Int) (h0 h1 g0 g1 : Int) (s : ByteArray) (x1 x2 : Option Addr) (y1 z1 y2 z2 : Nat) :
    Calls Tryz.prog 99 #[p.val, .agg #[.int .i64 k, .int .i64 a, .int .i64 b, .int .i64 c, .int .i64 d, .string s, .int .i64 hs, .int .u8 h0, .int .u8 h1, .int .i64 gs, .int .u8 g0, .int .u8 g1, .int .i64 f0, .int .i64 f1, .int .i64 f2, .int .i64 f3, .slice x1 y1 z1, .slice x2 y2 z2]] w fun e w' => e = .returned (.bool true) ∧ Below w.heap.size w w' := by
  have hB1 : Below w.heap.size w ((w.alloc (.cells #[.pointer (some ⟨p.S, 0, none⟩), .pointer (some ⟨p.R, 0, none⟩)] 33)).alloc (.cells #[.int .i64 k, .int .i64 a, .int .i64 b, .int .i64 c, .int .i64 d, .string s, .int .i64 hs, .int .u8 h0, .int .u8 h1, .int .i64 gs, .int .u8 g0, .int .u8 g1, .int .i64 f0, .int .i64 f1, .int .i64 f2, .int .i64 f3, .slice x1 y1 z1, .slice x2 y2 z2] 74)) := ((Below.refl _ _).alloc (Nat.le_refl _) _).alloc (by simp) _
  have HC : Hid (∀ W2, Below (w.heap.size + 2) ((w.alloc (.cells #[.pointer (some ⟨p.S, 0, none⟩), .pointer (some ⟨p.R, 0, none⟩)] 33)).alloc (.cells #[.int .i64 k, .int .i64 a, .int .i64 b, .int .i64 c, .int .i64 d, .string s, .int .i64 hs, .int .u8 h0, .int .u8 h1, .int .i64 gs, .int .u8 g0, .int .u8 g1, .int .i64 f0, .int .i64 f1, .int .i64 f2, .int .i64 f3, .slice x1 y1 z1, .slice x2 y2 z2] 74)) W2 → (W2.cell? ⟨w.heap.size, 1, none⟩ = some (.pointer (some ⟨p.R, 0, none⟩)) ∧ W2.cell? ⟨w.heap.size + 1, 2, none⟩ = some (.int .i64 b) ∧ W2.cell? ⟨w.heap.size + 1, 3, none⟩ = some (.int .i64 c) ∧ W2.cell? ⟨w.heap.size + 1, 4, none⟩ = some (.int .i64 d)) ∧ Below w.heap.size w W2) := hid fun W2 hb => by
    have hpr := (hb.block w.heap.size (by omega)).trans (heap_two w (.cells #[.pointer (some ⟨p.S, 0, none⟩), .pointer (some ⟨p.R, 0, none⟩)] 33) _ _ rfl)
    have hop := (hb.block (w.heap.size + 1) (by omega)).trans (heap_one (w.alloc (.cells #[.pointer (some ⟨p.S, 0, none⟩), .pointer (some ⟨p.R, 0, none⟩)] 33)) (.cells #[.int .i64 k, .int .i64 a, .int .i64 b, .int .i64 c, .int .i64 d, .string s, .int .i64 hs, .int .u8 h0, .int .u8 h1, .int .i64 gs, .int .u8 g0, .int .u8 g1, .int .i64 f0, .int .i64 f1, .int .i64 f2, .int .i64 f3, .slice x1 y1 z1, .slice x2 y2 z2] 74) _ (by simp))
    exact ⟨⟨by rw [cell_of_row W2 _ _ _ _ _ hpr]; rfl, by rw [cell_of_row W2 _ _ _ _ _ hop]; rfl, by rw [cell_of_row W2 _ _ _ _ _ hop]; rfl, by rw [cell_of_row W2 _ _ _ _ _ hop]; rfl⟩, hB1.trans (hb.mono (by omega))⟩
  have HP := hid (ask_any _ base p.S p.s p.lv p.M b c d (hp.below hB1).ps)
  have HR : ∀ W2, Hid (Below w.heap.size w W2 → Calls Tryz.prog 134 #[.pointer (some ⟨p.R, 0, none⟩), .int .i64 b, .int .i64 c, .int .i64 d] W2 _) := fun W2 => hid fun hb => rAsk_any W2 base p.R p.s p.rl p.K p.H b c d (hp.below hb).rs
  obtain ⟨c', q, m, x, bb, e0, hsh⟩ := asA_shape p.s b c d
  rw [hsh] at HP HR
  clear hp hB1 hsh
  unfold Pr.val
  go_enter Tryz.func99, Tryz.ntmps99
  go_wp2_with fail
  refine HP.out.mono ?_
  rintro e W2 ⟨rfl, hb2⟩
  have hb2' := hb2.alloc hb2.size (.cells #[.int .i64 c', .int .i64 q, .int .i64 m, .int .i64 x] 47)
  obtain ⟨hc2, hB2⟩ := HC.out _ (hb2'.mono (by simp))
  have hz2 : w.heap.size + 2 ≤ W2.heap.size := by have := hb2.size; simp at this; omega
  clear hb2 hb2'
  have HB2 := hid hB2
  have H2 := hid (FoAt.at W2 _ rfl ⟨c', q, m, x⟩)
  clear hB2 HP HC
  go_wp2_with fail
  refine ((HR _).out HB2.out).mono ?_
  rintro e W3 ⟨rfl, hb3⟩
  have h3 := H2.out.below hb3 (by simp)
  have h3c := h3.cells
  have h4c := (h3.alloc (.cells #[.int .i64 c', .int .i64 q, .int .i64 m, .int .i64 x] 47)).cells
  have z3 : W2.heap.size < W3.heap.size := by have := hb3.size; simp at this; omega
  have HB3 := hid (HB2.out.trans (hb3.mono (by simp; omega)))
  clear hb3 h3 HR H2 HB2 hc2
  go_wp2_with (go_at_call 19; refine (num_any _ _).mono ?_; rintro e4 w4 ⟨rfl, hw4⟩; rw [hw4]; clear hw4 w4)
  go_ret
  exact ⟨rfl, HB3.out.alloc HB3.out.size _⟩
set_option maxHeartbeats 4000000 in
set_option maxRecDepth 100000 in
theorem tells_9 (w : World) (base : Nat) (p : Pr) (hp : PrOk w base p) (a b c d hs gs f0 f1 f2 f3 : Int) (h0 h1 g0 g1 : Int) (s : ByteArray) (x1 x2 : Option Addr) (y1 z1 y2 z2 : Nat) :
    Calls Tryz.prog 56 #[p.val, .agg #[.int .i64 9, .int .i64 a, .int .i64 b, .int .i64 c, .int .i64 d, .string s, .int .i64 hs, .int .u8 h0, .int .u8 h1, .int .i64 gs, .int .u8 g0, .int .u8 g1, .int .i64 f0, .int .i64 f1, .int .i64 f2, .int .i64 f3, .slice x1 y1 z1, .slice x2 y2 z2]] w fun e w' => e = .returned (.bool true) ∧ Below w.heap.size w w' := by
  have hB1 : Below w.heap.size w ((w.alloc (.cells #[.pointer (some ⟨p.S, 0, none⟩), .pointer (some ⟨p.R, 0, none⟩)] 33)).alloc (.cells #[.int .i64 9, .int .i64 a, .int .i64 b, .int .i64 c, .int .i64 d, .string s, .int .i64 hs, .int .u8 h0, .int .u8 h1, .int .i64 gs, .int .u8 g0, .int .u8 g1, .int .i64 f0, .int .i64 f1, .int .i64 f2, .int .i64 f3, .slice x1 y1 z1, .slice x2 y2 z2] 74)) := ((Below.refl _ _).alloc (Nat.le_refl _) _).alloc (by simp) _
  have HA := hid (asked_any _ base p (hp.below hB1) 9 a b c d hs gs f0 f1 f2 f3 h0 h1 g0 g1 s x1 x2 y1 z1 y2 z2)
  have HB1 := hid hB1
  have HRn := hid (range_new (w.alloc (.cells #[.pointer (some ⟨p.S, 0, none⟩), .pointer (some ⟨p.R, 0, none⟩)] 33)) 74 [.int .i64 9, .int .i64 a, .int .i64 b, .int .i64 c, .int .i64 d, .string s, .int .i64 hs, .int .u8 h0, .int .u8 h1, .int .i64 gs, .int .u8 g0, .int .u8 g1, .int .i64 f0, .int .i64 f1, .int .i64 f2, .int .i64 f3, .slice x1 y1 z1, .slice x2 y2 z2])
  rw [World.size_alloc] at HRn
  clear hp hB1
  unfold Pr.val at HA ⊢
  go_enter Tryz.func56, Tryz.ntmps56
  go_wp2_with (refine wpList_load_mid rfl 74 _ rfl (w.heap.size + 1) 0 rfl [.int .i64 9, .int .i64 a, .int .i64 b, .int .i64 c, .int .i64 d, .string s, .int .i64 hs, .int .u8 h0, .int .u8 h1, .int .i64 gs, .int .u8 g0, .int .u8 g1, .int .i64 f0, .int .i64 f1, .int .i64 f2, .int .i64 f3, .slice x1 y1 z1, .slice x2 y2 z2] _ HRn.out Tryz.underlying74 rfl size_op ?_)
  go_wp2_with fail
  refine HA.out.mono ?_
  rintro e W2 ⟨rfl, hb2⟩
  have HB2 := hid (HB1.out.trans (hb2.mono (by simp; omega)))
  clear hb2 HA HRn HB1
  go_wp2
  go_ret
  exact ⟨rfl, HB2.out⟩
end Go.Proofs.YtogmdaopfnmobaaGreat

/- The law's world: its stores; New. -/
namespace Go.Proofs.YtogmdaopfnmobaaGreat
open Go.RowKit
def Pr.cells (p : Pr) : List Value := [.pointer (some ⟨p.S, 0, none⟩), .pointer (some ⟨p.R, 0, none⟩)]
structure StIn (w : World) (base : Nat) (sv : Value) (Ps : List Pr) : Prop where
  row : w.ownsRow base 33 2 sv Ps.length (Ps.flatMap Pr.cells)
  each : ∀ p ∈ Ps, PrOk w base p
  nd : (ob sv ++ Ps.flatMap Pr.blk).Nodup
def stFp (sv : Value) (Ps : List Pr) : List Nat := ob sv ++ Ps.flatMap Pr.blk
theorem StIn.fp {w : World} {base : Nat} {sv : Value} {Ps : List Pr} (h : StIn w base sv Ps) : ∀ k ∈ stFp sv Ps, base ≤ k ∧ k < w.heap.size := fun k hk => by
  rcases List.mem_append.1 hk with hk | hk
  · exact own_in h.row k hk
  · obtain ⟨p, hp, hk⟩ := List.mem_flatMap.1 hk
    exact (h.each p hp).fp k hk
theorem StIn.frame {w w' : World} {base : Nat} {sv : Value} {Ps : List Pr} (h : StIn w base sv Ps) (hf : ∀ k ∈ stFp sv Ps, w'.heap[k]? = w.heap[k]?) : StIn w' base sv Ps :=
  ⟨own_keep h.row fun k hk => hf k (List.mem_append_left _ hk), fun p hp => (h.each p hp).frame fun k hk => hf k (List.mem_append_right _ (List.mem_flatMap.2 ⟨p, hp, hk⟩)), h.nd⟩
theorem StIn.below {w w' : World} {base : Nat} {sv : Value} {Ps : List Pr} (h : StIn w base sv Ps) (hb : Below w.heap.size w w') : StIn w' base sv Ps := h.frame fun k hk => hb.block k (h.fp k hk).2
theorem StIn.nil (w : World) (base : Nat) : StIn w base (.slice none 0 0) [] := ⟨World.ownsRow_nil _ _ _ _, by simp, by simp [ob, Value.ownBlock]⟩
theorem PSt.mono {w : World} {base base' S : Nat} {s : Sto} {lv : Value} {M : Nat} (h : PSt w base S s lv M) (hb : base' ≤ base) : PSt w base' S s lv M := ⟨h.hS, own_mono h.hL hb, h.hM, Nat.le_trans hb h.bS, Nat.le_trans hb h.bM, h.ok⟩
theorem RSt.mono {w : World} {base base' R : Nat} {s : Sto} {lv : Value} {K H : Nat} (h : RSt w base R s lv K H) (hb : base' ≤ base) : RSt w base' R s lv K H := ⟨h.hR, own_mono h.hL hb, h.hK, h.hH, h.kl, Nat.le_trans hb h.bR, Nat.le_trans hb h.bK, Nat.le_trans hb h.bH, h.ok⟩
theorem RSt.own_nd {w : World} {base R : Nat} {s : Sto} {lv : Value} {K H : Nat} (h : RSt w base R s lv K H) : (rfp R lv K H).Nodup := by
  have hRo : R ∉ ob lv := fun c => blk_row h.hR (by decide) h.hL (mem_ob.1 c).symm
  have hHo : H ∉ ob lv := fun c => blk_row (show w.heap[H]? = _ from h.hH) (by decide) h.hL (mem_ob.1 c).symm
  have hRK : R ≠ K := fun c => by have h1 := h.hR; have h2 := h.hK; unfold Row at h2; rw [c, h2] at h1; simp at h1
  have hRH : R ≠ H := fun c => by have h1 := h.hR; have h2 := h.hH; unfold Row at h2; rw [c, h2] at h1; simp at h1
  have hKH : K ≠ H := fun c => by have h1 := h.hK; have h2 := h.hH; unfold Row at h1 h2; rw [c, h2] at h1; simp at h1
  simp only [rfp, List.nodup_cons, List.mem_cons, not_or]
  exact ⟨⟨hRK, hRH, hRo⟩, ⟨hKH, h.kl⟩, hHo, ob_one _⟩
theorem PSt.own_nd {w : World} {base S : Nat} {s : Sto} {lv : Value} {M : Nat} (h : PSt w base S s lv M) : (pfp S lv M).Nodup := by
  obtain ⟨a1, a2, a3⟩ := h.apart
  simp only [pfp, List.nodup_cons, List.mem_cons, not_or]
  exact ⟨⟨a3, a1⟩, a2, ob_one _⟩
structure Made (w w' : World) (A base : Nat) (sv : Value) (cs : List Value) (Ps : List Pr) (sv' : Value) (p : Pr) : Prop where
  hA : w'.heap[A]? = some (.cells (sv' :: cs).toArray 70 (0, 0))
  st : StIn w' base sv' (Ps ++ [p])
  kept : Kept w w' (A :: ob sv)
  new : ∀ k ∈ stFp sv' (Ps ++ [p]), k ∈ stFp sv Ps ∨ w.heap.size ≤ k
theorem info_prL : (Tryz.prog.info? 33).map (fun i => (i.zero, i.size, i.bytes)) = some (some (.agg #[.pointer none, .pointer none]), 2, 16) := by kernel_rfl
theorem pair_new (w : World) (p : Pr) (e : TypeId) : ∀ j u, p.cells[j]? = some u → (w.alloc (.cells #[.pointer (some ⟨p.S, 0, none⟩), .pointer (some ⟨p.R, 0, none⟩)] e)).cell? ((⟨w.heap.size, 0, none⟩ : Addr).add j) = some u := by
  intro j u hj
  have e1 : (⟨w.heap.size, 0, none⟩ : Addr).add j = ⟨w.heap.size, j, none⟩ := by unfold Addr.add; split <;> simp_all
  rw [e1, cell_of_row _ _ j _ _ _ (heap_alloc_new w _)]
  simpa [Pr.cells] using hj
theorem pair_one (p : Pr) : ∀ u ∈ p.cells, u.oneCell' = true := by
  intro u hu
  simp only [Pr.cells, List.mem_cons, List.not_mem_nil, or_false] at hu
  rcases hu with rfl | rfl <;> rfl
theorem made_fin {w w2 w3 : World} {A base : Nat} {sv sv' : Value} {cs : List Value} {Ps : List Pr} {p : Pr} {o : Obj} (hA : w.heap[A]? = some (.cells (sv :: cs).toArray 70 (0, 0))) (hAb : A < base) (hbs : base ≤ w.heap.size) (h : StIn w base sv Ps) (hb2 : Below w.heap.size w w2)
    (hp : PrOk w2 base p) (hpn : ∀ k ∈ p.blk, w.heap.size ≤ k) (ho : w3.ownsRow base 33 2 sv' (Ps.length + 1) (Ps.flatMap Pr.cells ++ p.cells)) (hg : Grew (w2.alloc o) sv w3 sv') :
    Made w (w3.setCell ⟨A, 0, none⟩ sv') A base sv cs Ps sv' p := by
  have hAw : A < w.heap.size := by omega
  have hs2 := hb2.size
  have hs3 : w2.heap.size ≤ w3.heap.size := by have := hg.grown.size; simp at this; omega
  have hnew : ∀ k ∈ ob sv', k ∈ ob sv ∨ w2.heap.size ≤ k := blk_grew hg (by simp)
  have old2 : ∀ k, k < w2.heap.size → k ∉ ob sv → w3.heap[k]? = w2.heap[k]? := fun k hk hn => (hg.grown.block k (by simp; omega) (fun c => hn (mem_ob.2 c.symm))).trans (Below.heap_alloc _ _ _ hk)
  have old : ∀ k, k < w.heap.size → k ∉ ob sv → k ≠ A → (w3.setCell ⟨A, 0, none⟩ sv').heap[k]? = w.heap[k]? := fun k hk hn hne => (Below.heap_setCell _ _ _ _ hne).trans ((old2 k (by omega) hn).trans (hb2.block k hk))
  have hAo : A ∉ ob sv := fun c => by have := (own_in h.row A c).1; omega
  have hnd := List.nodup_append.1 h.nd
  have hdis : ∀ k ∈ Ps.flatMap Pr.blk, k ∉ ob sv := fun k hk c => hnd.2.2 k c k hk rfl
  have hlt : ∀ k ∈ Ps.flatMap Pr.blk, base ≤ k ∧ k < w.heap.size := fun k hk => h.fp k (List.mem_append_right _ hk)
  refine ⟨?_, ⟨?_, fun q hq => ?_, ?_⟩, ⟨(hg.grown.os).trans hb2.os, (hg.grown.tape).trans hb2.tape, (hg.grown.output).trans hb2.output, by simp [World.setCell]; omega, fun k hk hn => ?_⟩, fun k hk => ?_⟩
  · rw [heap_set (((old2 A (by omega) hAo).trans (hb2.block A hAw)).trans hA)]; simp
  · have : w3.ownsRow base 33 2 sv' (Ps ++ [p]).length ((Ps ++ [p]).flatMap Pr.cells) := by simpa using ho
    exact own_keep this fun k hk => Below.heap_setCell _ _ _ _ (fun c => by have := (own_in this k hk).1; subst c; show False; omega)
  · rcases List.mem_append.1 hq with hq | hq
    · refine (h.each q hq).frame fun k hk => ?_
      have hk' : k ∈ Ps.flatMap Pr.blk := List.mem_flatMap.2 ⟨q, hq, hk⟩
      exact old k (hlt k hk').2 (hdis k hk') (by have := (hlt k hk').1; omega)
    · simp only [List.mem_singleton] at hq
      subst hq
      refine hp.frame fun k hk => ?_
      have := hpn k hk
      exact (Below.heap_setCell _ _ _ _ (by show k ≠ A; omega)).trans (old2 k (hp.fp k hk).2 (fun c => by have := (own_in h.row k c).2; omega))
  · rw [List.flatMap_append, ← List.append_assoc]
    refine List.nodup_append.2 ⟨List.nodup_append.2 ⟨ob_one _, hnd.2.1, ?_⟩, by simpa using hp.nd, ?_⟩
    · intro a ha b hb e
      subst e
      rcases hnew a ha with c | c
      · exact hdis a hb c
      · have := (hlt a hb).2; omega
    · intro a ha b hb e
      subst e
      have hb' : a ∈ p.blk := by simpa using hb
      rcases List.mem_append.1 ha with c | c
      · rcases hnew a c with c | c
        · have h1 := (own_in h.row a c).2; have := hpn a hb'; omega
        · have := (hp.fp a hb').2; omega
      · have h1 := (hlt a c).2; have := hpn a hb'; omega
  · simp only [List.mem_cons, not_or] at hn
    exact old k hk hn.2 hn.1
  · unfold stFp at hk ⊢
    rw [List.flatMap_append] at hk
    rcases List.mem_append.1 hk with hk | hk
    · rcases hnew k hk with c | c
      · exact .inl (List.mem_append_left _ c)
      · exact .inr (by omega)
    · rcases List.mem_append.1 hk with hk | hk
      · exact .inl (List.mem_append_right _ hk)
      · exact .inr (hpn k (by simpa using hk))
set_option maxHeartbeats 2000000 in
set_option maxRecDepth 100000 in
theorem made_any (w : World) (A base : Nat) (sv : Value) (cs : List Value) (Ps : List Pr) (hA : w.heap[A]? = some (.cells (sv :: cs).toArray 70 (0, 0))) (hAb : A < base) (hbs : base ≤ w.heap.size) (h : StIn w base sv Ps) (hl : Ps.length ≤ 4000000000000) :
    Calls Tryz.prog 52 #[.pointer (some ⟨A, 0, none⟩)] w fun e w' => e = .returned (.bool true) ∧ ∃ sv' p, Made w w' A base sv cs Ps sv' p := by
  obtain ⟨ao, cap, rfl⟩ := own_shape h.row
  have HS := hid h
  have HA := hid hA
  clear h hA
  obtain ⟨i0, hi, hz0, hz1, hz2⟩ := info_parts info_prL
  go_enter Tryz.func52, Tryz.ntmps52
  go_wp2_with fail
  refine (new_any _).mono ?_
  rintro e w1 ⟨S, M, rfl, hP, hb1⟩
  have HP := hid hP
  have HB1 := hid hb1
  clear hP hb1
  go_wp2_with fail
  refine (refNew_any _).mono ?_
  rintro e w2 ⟨R, K, H, rfl, hR, hb2⟩
  have hb1 := HB1.out
  have hB2 : Below w.heap.size w w2 := hb1.trans (hb2.mono hb1.size)
  have hp : PrOk w2 base ⟨S, M, R, K, H, .empty, .slice none 0 0, .slice none 0 0⟩ := by
    refine ⟨(HP.out.below hb2).mono hbs, hR.mono (Nat.le_trans hbs hb1.size), List.nodup_append.2 ⟨(HP.out).own_nd, hR.own_nd, ?_⟩⟩
    intro a ha b hb e
    subst e
    have h1 := (HP.out.fp a ha).2
    have h2 := (hR.fp a hb).1
    omega
  have hpn : ∀ k ∈ Pr.blk ⟨S, M, R, K, H, .empty, .slice none 0 0, .slice none 0 0⟩, w.heap.size ≤ k := fun k hk => by
    rcases List.mem_append.1 hk with hk | hk
    · exact (HP.out.fp k hk).1
    · exact Nat.le_trans hb1.size (hR.fp k hk).1
  obtain ⟨p, hpe⟩ : ∃ p : Pr, p = ⟨S, M, R, K, H, .empty, .slice none 0 0, .slice none 0 0⟩ := ⟨_, rfl⟩
  have e1 : S = p.S := by rw [hpe]
  have e2 : R = p.R := by rw [hpe]
  rw [← hpe] at hp hpn
  rw [e1, e2]
  have hA2 : w2.heap[A]? = some (.cells (Value.slice ao Ps.length cap :: cs).toArray 70 (0, 0)) := (hB2.block A (by omega)).trans HA.out
  have c0 : w2.cell? ⟨A, 0, none⟩ = some (.slice ao Ps.length cap) := by rw [cell_of_row w2 _ _ _ _ _ hA2]; rfl
  have f0 : w2.frozen? ⟨A, 0, none⟩ = false := by simp [World.frozen?, hA2]
  have hown := (HS.out.below hB2).row
  have fin : ∀ sv' w3 o, Hid (w3.ownsRow base 33 2 sv' (Ps.length + 1) (Ps.flatMap Pr.cells ++ p.cells) → Grew (w2.alloc o) (.slice ao Ps.length cap) w3 sv' → Made w (w3.setCell ⟨A, 0, none⟩ sv') A base (.slice ao Ps.length cap) cs Ps sv' p) := fun sv' w3 o => hid fun h1 h2 => made_fin HA.out hAb hbs HS.out hB2 hp hpn h1 h2
  have hAl : A < w2.heap.size := by have := hB2.size; omega
  have hAo : some A ≠ (Value.slice ao Ps.length cap).ownBlock := fun c => by have := (own_in HS.out.row A (mem_ob.2 c.symm)).1; omega
  have hbs2 : base ≤ w2.heap.size := Nat.le_trans hbs hB2.size
  clear e1 e2 hpe hp hpn HP hR hb2 hb1 hB2 HB1 hA2 HA HS
  go_wp2_with (at_builtin; refine wpList_append_grew _ rfl _ _ 65 rfl base 33 i0 (.agg #[.pointer none, .pointer none]) 2 16 Tryz.underlying65 hi hz0 hz1 hz2 rfl (by decide) _ _ _ rfl (hown.alloc _) ⟨w2.heap.size, 0, none⟩ 1 1 p.cells rfl rfl (pair_new w2 p _) (pair_one p) (by unfold maxLen; omega) (by omega) (by simp; omega) ?_)
  rintro sv' w3 ho3 hg3 _
  obtain ⟨ao3, cap3, rfl⟩ := own_shape ho3
  have HF := hid ((fin _ w3 _).out ho3 hg3)
  have hb3 : w3.heap[A]? = w2.heap[A]? := (hg3.grown.block A (by simp; omega) hAo).trans (Below.heap_alloc _ _ _ hAl)
  have c3 : w3.cell? ⟨A, 0, none⟩ = some (.slice ao Ps.length cap) := (World.cell?_of_block (a := ⟨A, 0, none⟩) hb3).trans c0
  have f3 : w3.frozen? ⟨A, 0, none⟩ = false := (World.frozen?_of_block (a := ⟨A, 0, none⟩) hb3).trans f0
  clear ho3 hg3 hb3 fin hown c0 f0
  go_wp2
  go_ret
  exact ⟨rfl, _, p, HF.out⟩
end Go.Proofs.YtogmdaopfnmobaaGreat

