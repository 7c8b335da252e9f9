/- Stores: its steps, played. -/
import Derived.Test.YtogmdaopfnmobaaGreatP22
import Derived.Test.YtogmdaopfnmobaaGreatP43
namespace Go.Proofs.YtogmdaopfnmobaaGreat
open Go.RowKit

/-- What holds behind k steps of the kinds 4 to 10. -/
def SJ (A : Nat) (w2 : World) (k : Nat) (w : World) : Prop :=
  Kept w2 w [A] ∧ ∃ bv sv Ps, Inv w A w2.heap.size sv (.slice none 0 0) 0 (.slice none 0 0) (.slice none 0 0) bv [] [] [] [] ∧ StIn w w2.heap.size sv Ps ∧ Ps.length ≤ k

theorem stores_plan (A : Nat) (w2 : World) (T : List OpV) (N : Nat) (hN : N ≤ 2000000) (hT : ∀ o ∈ T, 4 ≤ o.k → o.k ≤ 10 → OpN o) : Plan A 4 10 T N w2 (SJ A w2) := by
  have far : ∀ {w sv Ps}, StIn w w2.heap.size sv Ps → ∀ x ∈ stFp sv Ps, x ∈ [A] ∨ w2.heap.size ≤ x := fun h x hx => .inr (h.fp x hx).1
  refine ⟨?_, ?_, ?_, ?_, ?_, ?_⟩
  · rintro k w o hk ho h1 h3 ⟨hK, bv, sv, Ps, hI, hS, hl⟩
    by_cases h4 : o.k = 4
    · refine (stepNew_any w A _ sv [.int .i64 0, .slice none 0 0, .slice none 0 0, bv, .slice none 0 0] Ps hI.hA hI.hAb hI.hbs hS (by omega) o (hT o ho h1 h3) h4).mono ?_
      rintro e w' ⟨he, sv', p, hm⟩
      refine ⟨he, hK.trans hm.kept (fun x hx => ?_), bv, sv', Ps ++ [p], hI.sv hm.hA hm.kept.size (fun k hk hne => ?_), hm.st, by simp; omega⟩
      · rcases List.mem_cons.1 hx with rfl | hx
        · exact .inl (by simp)
        · exact far hS x (List.mem_append_left _ hx)
      · refine hm.kept.block k (hI.fp k hk).2 (fun c => ?_)
        rcases List.mem_cons.1 c with rfl | c
        · exact hne rfl
        · exact apart hI hS k hk (List.mem_append_left _ c)
    · refine (stepSt_any w A _ sv Ps hI.cells.1.1 hI.hbs hS (by omega) o (hT o ho h1 h3) (by omega) h3).mono ?_
      rintro e w' ⟨he, Ps', hl', hS', hk', _⟩
      exact ⟨he, hK.trans hk' (far hS), bv, sv, Ps', hI.frame hk'.size (fun k hk => hk'.block k (hI.fp k hk).2 (apart hI hS k hk)), hS', by omega⟩
  · rintro k w hk ⟨hK, bv, sv, Ps, hI, hS, hl⟩
    refine (settle_any w A _ _ _ 0 _ _ _ [] [] [] [] hI (by simp) (by simp) (by simp)).mono ?_
    rintro e w' ⟨he, hk', bv', m', Bs', hm', hb', hI'⟩
    have hm0 : m' = 0 := by simp at hm'; omega
    have hB0 : Bs' = [] := List.eq_nil_of_length_eq_zero (by simpa using hb')
    subst hm0 hB0
    exact ⟨he, hK.trans hk' (fp_far hI), bv', sv, Ps, hI', hS.frame fun x hx => hk'.block x (hS.fp x hx).2 (fun c => apart hI hS x c hx), hl⟩
  · rintro k w hk ⟨hK, bv, sv, Ps, hI, hS, hl⟩
    refine (looks_any w A _ _ 0 _ _ _ [] [] [] [] hI (by simp)).mono ?_
    rintro e w' ⟨he, hb'⟩
    exact ⟨he, hK.trans (Kept.of_below hb' []) (by simp), bv, sv, Ps, hI.below hb', hS.below hb', hl⟩
  · rintro k w ⟨hK, bv, sv, Ps, hI, hS, hl⟩
    exact ⟨hK, bv, sv, Ps, hI, hS, by omega⟩
  · rintro k w w' ⟨hK, bv, sv, Ps, hI, hS, hl⟩ hb'
    exact ⟨hK.trans (Kept.of_below hb' []) (by simp), bv, sv, Ps, hI.below hb', hS.below hb', hl⟩
  · exact fun k w h => h.1

theorem stores_start (w w2 : World) (h : Opened (w.alloc (.cells worldC 70)) w2) : SJ w.heap.size w2 0 w2 := by
  have hA : w2.heap[w.heap.size]? = some (.cells worldC 70 (0, 0)) := by
    rw [h.below.block _ (by simp)]
    exact heap_new _ _ _ _ rfl
  have hs := h.size
  simp at hs
  refine ⟨Kept.refl _ _, .slice none 0 0, .slice none 0 0, [], ⟨hA, by omega, Nat.le_refl _, World.ownsRow_nil _ _ _ _, World.ownsRow_nil _ _ _ _, World.ownsRow_nil _ _ _ _, rfl, rfl, ?_, ?_, ?_, ?_, ?_, ?_⟩, StIn.nil _ _, by simp⟩
  · intro i h1; simp at h1
  · intro i h1; simp at h1
  · intro k hk; simp [ob, Value.ownBlock] at hk
  · simp
  · simp
  · intro b hb; simp at hb
theorem openN_ok (n : Nat) : ∀ o ∈ opsL n, OpN o := by
  intro o ho
  simp only [opsL, List.mem_cons, List.not_mem_nil, or_false] at ho
  rcases ho with rfl | rfl | rfl | rfl | rfl | rfl | rfl | rfl | rfl | rfl | rfl | rfl | rfl | rfl | rfl | rfl | rfl | rfl
  all_goals refine ⟨?_, ?_, ⟨_, _, _, rfl⟩, ⟨_, _, _, rfl⟩⟩
  all_goals first | decide | (show (-9223372036854775808 : Int) ≤ 0 ∧ (0 : Int) ≤ 9223372036854775807; decide) | (show (Lit.int .i64 0).wf = true; decide)
theorem stores_run (w : World) (v : Value) (S : List OpV) (hS : Steps w w.heap.size v S) (hn : S.length + 18 ≤ 2000000) (hok : ∀ o ∈ S, OpN o) :
    Calls Tryz.prog 8 #[v, .int .i64 4, .int .i64 10] w fun e w' => e = .returned (.bool true) ∧ Below w.heap.size w w' := by
  refine plays_gen w 4 10 v S hS (fun w2 => SJ w.heap.size w2) fun w2 hO => ⟨stores_start w w2 hO, stores_plan _ _ _ _ hn fun o ho _ _ => ?_⟩
  rcases List.mem_append.1 ho with ho | ho
  · exact openN_ok _ o ho
  · exact hok o ho
set_option maxHeartbeats 1000000 in
theorem stores_law (w : World) (v : Value) (S : List OpV) (hS : Steps w w.heap.size v S) (hn : S.length + 18 ≤ 2000000) (hok : ∀ o ∈ S, OpN o) :
    Calls Tryz.prog 4 #[v] w fun e w' => e = .returned (.bool true) ∧ Below w.heap.size w w' := by
  obtain ⟨ao, cap, rfl, _, _⟩ := hS.ex
  have HS := hid hS
  have HK := hid hok
  clear hS hok
  go_enter Tryz.func4, Tryz.ntmps4
  go_wp2_with fail
  refine (stores_run w _ S HS.out hn HK.out).mono ?_
  rintro e w1 ⟨rfl, hb⟩
  have fin := hid hb
  clear hb HS HK
  go_wp2
  go_ret
  exact ⟨rfl, fin.out⟩

end Go.Proofs.YtogmdaopfnmobaaGreat

