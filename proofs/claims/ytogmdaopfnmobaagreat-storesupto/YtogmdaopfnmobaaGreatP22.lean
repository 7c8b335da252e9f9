/- Words: its steps, played. -/
import Derived.Test.YtogmdaopfnmobaaGreatP19
import Derived.Test.YtogmdaopfnmobaaGreatP17
namespace Go.Proofs.YtogmdaopfnmobaaGreat
open Go.RowKit

/-- What holds behind k steps of the kinds 1 to 3. -/
def WJ (A : Nat) (w2 : World) (k : Nat) (w : World) : Prop :=
  Kept w2 w [A] ∧ ∃ m wv ev bv Ws Es Ls Bs, Inv w A w2.heap.size (.slice none 0 0) (.slice none 0 0) m wv ev bv Ws Es Ls Bs ∧ m + Ws.length ≤ 3 * k ∧ Bs.length + Ws.length ≤ 3 * k ∧ ∀ l ∈ Ls, l.length ≤ 2000000

theorem fp_far {w w2 : World} {A : Nat} {sv lv : Value} {m : Nat} {wv ev bv : Value} {Ws Es : List Value} {Ls : List (List Nd)} {Bs : List Bk} (h : Inv w A w2.heap.size sv lv m wv ev bv Ws Es Ls Bs) : ∀ x ∈ fpOf A wv ev bv Ws Es Bs, x ∈ [A] ∨ w2.heap.size ≤ x := fun x hx => by
  rcases (h.fp x hx).1 with rfl | h1
  · exact .inl (by simp)
  · exact .inr h1

theorem OpOk.later {w2 w : World} {A : Nat} {o : OpV} {fp : List Nat} (h : OpOk w2 [A] o) (hk : Kept w2 w [A]) (hf : ∀ x ∈ fp, x ∈ [A] ∨ w2.heap.size ≤ x) : OpOk w fp o :=
  ⟨h.sz, h.iv, by
    rcases h.nv with e | ⟨ad, cap, l, e, hl, hN⟩
    · exact .inl e
    · exact .inr ⟨ad, cap, l, e, hl, fun w' hk' => hN w' (hk.trans hk' hf)⟩⟩

theorem words_plan (A : Nat) (w2 : World) (T : List OpV) (N : Nat) (hN : N ≤ 2000000) (hT : ∀ o ∈ T, 1 ≤ o.k → o.k ≤ 3 → OpOk w2 [A] o) : Plan A 1 3 T N w2 (WJ A w2) := by
  refine ⟨?_, ?_, ?_, ?_, ?_, ?_⟩
  · rintro k w o hk ho h1 h3 ⟨hK, m, wv, ev, bv, Ws, Es, Ls, Bs, hI, hm, hb, hl⟩
    refine (step_any w A _ _ _ m wv ev bv Ws Es Ls Bs hI o h1 h3 ((hT o ho h1 h3).later hK (fp_far hI)) (by omega) (by omega) (by omega)).mono ?_
    rintro e w' ⟨he, hk', m', wv', ev', bv', Ws', Es', Ls', Bs', hI', hm', hb', hw', hl'⟩
    exact ⟨he, hK.trans hk' (fp_far hI), m', wv', ev', bv', Ws', Es', Ls', Bs', hI', by omega, by omega, fun l hx => (hl' l hx).elim (hl l) id⟩
  · rintro k w hk ⟨hK, m, wv, ev, bv, Ws, Es, Ls, Bs, hI, hm, hb, hl⟩
    refine (settle_any w A _ _ _ m wv ev bv Ws Es Ls Bs hI hl (by omega) (by omega)).mono ?_
    rintro e w' ⟨he, hk', bv', m', Bs', hm', hb', hI'⟩
    exact ⟨he, hK.trans hk' (fp_far hI), m', _, _, bv', [], [], [], Bs', hI', by simp; omega, by simp; omega, by simp⟩
  · rintro k w hk ⟨hK, m, wv, ev, bv, Ws, Es, Ls, Bs, hI, hm, hb, hl⟩
    refine (looks_any w A _ _ m wv ev bv Ws Es Ls Bs hI (by omega)).mono ?_
    rintro e w' ⟨he, hb'⟩
    exact ⟨he, hK.trans (Kept.of_below hb' []) (by simp), m, wv, ev, bv, Ws, Es, Ls, Bs, hI.below hb', hm, hb, hl⟩
  · rintro k w ⟨hK, m, wv, ev, bv, Ws, Es, Ls, Bs, hI, hm, hb, hl⟩
    exact ⟨hK, m, wv, ev, bv, Ws, Es, Ls, Bs, hI, by omega, by omega, hl⟩
  · rintro k w w' ⟨hK, m, wv, ev, bv, Ws, Es, Ls, Bs, hI, hm, hb, hl⟩ hb'
    exact ⟨hK.trans (Kept.of_below hb' []) (by simp), m, wv, ev, bv, Ws, Es, Ls, Bs, hI.below hb', hm, hb, hl⟩
  · exact fun k w h => h.1

theorem words_start (w w2 : World) (h : Opened (w.alloc (.cells worldC 70)) w2) : WJ w.heap.size w2 0 w2 := by
  have hA : w2.heap[w.heap.size]? = some (.cells worldC 70 (0, 0)) := by
    rw [h.below.block _ (by simp)]
    exact heap_new _ _ _ _ rfl
  have hs := h.size
  simp at hs
  refine ⟨Kept.refl _ _, 0, .slice none 0 0, .slice none 0 0, .slice none 0 0, [], [], [], [], ⟨hA, by omega, Nat.le_refl _, World.ownsRow_nil _ _ _ _, World.ownsRow_nil _ _ _ _, World.ownsRow_nil _ _ _ _, rfl, rfl, ?_, ?_, ?_, ?_, ?_, ?_⟩, by simp, by simp, by simp⟩
  · intro i h1; simp at h1
  · intro i h1; simp at h1
  · intro k hk; simp [ob, Value.ownBlock] at hk
  · simp
  · simp
  · intro b hb; simp at hb

/-- The opening's own lists. -/
theorem lit_nodes {w' : World} {g : Nat} {c : Int} (h : w'.heap[g]? = some (.cells #[.int .i64 c, .int .i64 0, .int .i64 0, .int .i64 0, .int .u8 0, .int .u8 0] 51 (0, 0))) : Nodes w' w'.heap.size (.slice (some ⟨g, 0, none⟩) 1 1) [⟨c, 0, 0, 0, 0, 0⟩] := by
  refine ⟨_, 1, rfl, by simp, fun i hi => ⟨g, 0, rfl, (Array.getElem?_eq_some_iff.1 h).1, fun j hj => ?_⟩⟩
  have hi0 : i = 0 := by simp at hi; omega
  subst hi0
  rw [cell_of_row w' g _ _ _ _ h]
  have : j = 0 ∨ j = 1 ∨ j = 2 ∨ j = 3 ∨ j = 4 ∨ j = 5 := by omega
  rcases this with rfl | rfl | rfl | rfl | rfl | rfl <;> rfl

theorem open_ok (w w2 : World) (h : Opened (w.alloc (.cells worldC 70)) w2) : ∀ o ∈ opsL (w.heap.size + 1), 1 ≤ o.k → o.k ≤ 3 → OpOk w2 [w.heap.size] o := by
  have hs := h.size
  have h1 := h.one
  have h2 := h.two
  simp at hs h1 h2
  have nil : ∀ s : ByteArray, s.size ≤ maxLen → ∀ k a b c d hs gs f0 f1 f2 f3 h0 h1 g0 g1 : Int, OpOk w2 [w.heap.size] ⟨k, a, b, c, d, s, hs, h0, h1, gs, g0, g1, f0, f1, f2, f3, .slice none 0 0, .slice none 0 0⟩ := fun s hz _ _ _ _ _ _ _ _ _ _ _ _ _ _ _ => ⟨hz, ⟨_, _, _, rfl⟩, .inl rfl⟩
  have lst : ∀ (g : Nat) (q : Int), w2.heap[g]? = some (.cells #[.int .i64 q, .int .i64 0, .int .i64 0, .int .i64 0, .int .u8 0, .int .u8 0] 51 (0, 0)) → g ≠ w.heap.size → OpOk w2 [w.heap.size] { O0 with k := 2, nv := .slice (some ⟨g, 0, none⟩) 1 1 } := fun g q hg hne =>
    ⟨by show (0 : Nat) ≤ maxLen; omega, ⟨_, _, _, rfl⟩, .inr ⟨_, 1, [⟨q, 0, 0, 0, 0, 0⟩], rfl, by simp, fun w' hk => lit_nodes ((hk.block g (Array.getElem?_eq_some_iff.1 hg).1 (by simp [hne])).trans hg)⟩⟩
  intro o ho h1k h3k
  simp only [opsL, List.mem_cons, List.not_mem_nil, or_false] at ho
  rcases ho with rfl | rfl | rfl | rfl | rfl | rfl | rfl | rfl | rfl | rfl | rfl | rfl | rfl | rfl | rfl | rfl | rfl | rfl
  · exact nil _ (by simp [maxLen]; decide) _ _ _ _ _ _ _ _ _ _ _ _ _ _ _
  · exact lst _ _ h1 (by omega)
  · exact lst _ _ h2 (by omega)
  · exact nil _ (by simp [maxLen]; decide) _ _ _ _ _ _ _ _ _ _ _ _ _ _ _
  · exact nil _ (by simp [maxLen]; decide) _ _ _ _ _ _ _ _ _ _ _ _ _ _ _
  all_goals exact absurd h3k (by simp)

theorem words_run (w : World) (v : Value) (S : List OpV) (hS : Steps w w.heap.size v S) (hn : S.length + 18 ≤ 2000000) (hok : ∀ o ∈ S, ∀ w2, Below w.heap.size w w2 → OpOk w2 [w.heap.size] o) :
    Calls Tryz.prog 8 #[v, .int .i64 1, .int .i64 3] w fun e w' => e = .returned (.bool true) ∧ Below w.heap.size w w' := by
  refine plays_gen w 1 3 v S hS (fun w2 => WJ w.heap.size w2) fun w2 hO => ⟨words_start w w2 hO, words_plan _ _ _ _ hn fun o ho h1 h3 => ?_⟩
  rcases List.mem_append.1 ho with ho | ho
  · exact open_ok w w2 hO o ho h1 h3
  · exact hok o ho w2 (((Below.refl _ _).alloc (Nat.le_refl _) _).trans (hO.below.mono (by simp)))

set_option maxHeartbeats 1000000 in
theorem words_law (w : World) (v : Value) (S : List OpV) (hS : Steps w w.heap.size v S) (hn : S.length + 18 ≤ 2000000) (hok : ∀ o ∈ S, ∀ w2, Below w.heap.size w w2 → OpOk w2 [w.heap.size] o) :
    Calls Tryz.prog 3 #[v] w fun e w' => e = .returned (.bool true) ∧ Below w.heap.size w w' := by
  obtain ⟨ao, cap, rfl, _, _⟩ := hS.ex
  have HS : Hid (Steps _ _ _ _) := hS
  have HK : Hid _ := hok
  clear hS hok
  go_enter Tryz.func3, Tryz.ntmps3
  go_wp2_with fail
  refine (words_run w _ S HS.out hn HK.out).mono ?_
  rintro e w1 ⟨rfl, hb⟩
  have fin : Hid _ := hb
  clear hb HS HK
  go_wp2
  go_ret
  exact ⟨rfl, fin.out⟩

end Go.Proofs.YtogmdaopfnmobaaGreat

