/- Words: its steps, played. -/
import Derived.Test.YtogmdaopfnmobaaGreatA19
import Derived.Test.YtogmdaopfnmobaaGreatA17
namespace Go.Proofs.YtogmdaopfnmobaaGreat
open Go.RowKit
theorem fp_far {w w2 : World} {A : Nat} {sv lv : Value} {m : Nat} {wv ev bv : Value} {Ws Es : List Value} {Ls : List (List Nd)} {Bs : List Bk} (h : Inv w A w2.heap.size sv lv m wv ev bv Ws Es Ls Bs) : ∀ x ∈ fpOf A wv ev bv Ws Es Bs, x ∈ [A] ∨ w2.heap.size ≤ x := fun x hx => by
  rcases (h.fp x hx).1 with rfl | h1
  · exact .inl (by simp)
  · exact .inr h1
theorem OpOk.later {w2 w : World} {A : Nat} {o : OpV} {fp : List Nat} (h : OpOk w2 [A] o) (hk : Kept w2 w [A]) (hf : ∀ x ∈ fp, x ∈ [A] ∨ w2.heap.size ≤ x) : OpOk w fp o :=
  ⟨h.sz, h.iv, by
    rcases h.nv with e | ⟨ad, cap, l, e, hl, hN⟩
    · exact .inl e
    · exact .inr ⟨ad, cap, l, e, hl, fun w' hk' => hN w' (hk.trans hk' hf)⟩⟩
theorem lit_nodes {w' : World} {g : Nat} {c : Int} (h : w'.heap[g]? = some (.cells #[.int .i64 c, .int .i64 0, .int .i64 0, .int .i64 0, .int .u8 0, .int .u8 0] 51 (0, 0))) : Nodes w' w'.heap.size (.slice (some ⟨g, 0, none⟩) 1 1) [⟨c, 0, 0, 0, 0, 0⟩] := by
  refine ⟨_, 1, rfl, by simp, fun i hi => ⟨g, 0, rfl, (Array.getElem?_eq_some_iff.1 h).1, fun j hj => ?_⟩⟩
  have hi0 : i = 0 := by simp at hi; omega
  subst hi0
  rw [cell_of_row w' g _ _ _ _ h]
  have : j = 0 ∨ j = 1 ∨ j = 2 ∨ j = 3 ∨ j = 4 ∨ j = 5 := by omega
  rcases this with rfl | rfl | rfl | rfl | rfl | rfl <;> rfl
theorem open_ok (w w2 : World) (h : Opened (w.alloc (.cells worldC 70)) w2) : ∀ o ∈ opsL (w.heap.size + 1), 1 ≤ o.k → o.k ≤ 3 → OpOk w2 [w.heap.size] o := by
  have hs := h.size
  have h1 := h.one
  have h2 := h.two
  simp at hs h1 h2
  have nil : ∀ s : ByteArray, s.size ≤ maxLen → ∀ k a b c d hs gs f0 f1 f2 f3 h0 h1 g0 g1 : Int, OpOk w2 [w.heap.size] ⟨k, a, b, c, d, s, hs, h0, h1, gs, g0, g1, f0, f1, f2, f3, .slice none 0 0, .slice none 0 0⟩ := fun s hz _ _ _ _ _ _ _ _ _ _ _ _ _ _ _ => ⟨hz, ⟨_, _, _, rfl⟩, .inl rfl⟩
  have lst : ∀ (g : Nat) (q : Int), w2.heap[g]? = some (.cells #[.int .i64 q, .int .i64 0, .int .i64 0, .int .i64 0, .int .u8 0, .int .u8 0] 51 (0, 0)) → g ≠ w.heap.size → OpOk w2 [w.heap.size] { O0 with k := 2, nv := .slice (some ⟨g, 0, none⟩) 1 1 } := fun g q hg hne =>
    ⟨by show (0 : Nat) ≤ maxLen; omega, ⟨_, _, _, rfl⟩, .inr ⟨_, 1, [⟨q, 0, 0, 0, 0, 0⟩], rfl, by simp, fun w' hk => lit_nodes ((hk.block g (Array.getElem?_eq_some_iff.1 hg).1 (by simp [hne])).trans hg)⟩⟩
  intro o ho h1k h3k
  simp only [opsL, List.mem_cons, List.not_mem_nil, or_false] at ho
  rcases ho with rfl | rfl | rfl | rfl | rfl | rfl | rfl | rfl | rfl | rfl | rfl | rfl | rfl | rfl | rfl | rfl | rfl | rfl
  · exact nil _ (by simp [maxLen]; decide) _ _ _ _ _ _ _ _ _ _ _ _ _ _ _
  · exact lst _ _ h1 (by omega)
  · exact lst _ _ h2 (by omega)
  · exact nil _ (by simp [maxLen]; decide) _ _ _ _ _ _ _ _ _ _ _ _ _ _ _
  · exact nil _ (by simp [maxLen]; decide) _ _ _ _ _ _ _ _ _ _ _ _ _ _ _
  all_goals exact absurd h3k (by simp)
end Go.Proofs.YtogmdaopfnmobaaGreat

