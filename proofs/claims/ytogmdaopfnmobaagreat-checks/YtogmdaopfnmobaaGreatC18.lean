/- The walk of plays, of whatever kinds of steps. -/
import Derived.Deep.WholeRow
import Derived.Test.YtogmdaopfnmobaaGreatC17
namespace Go.Proofs.YtogmdaopfnmobaaGreat
open Go.RowKit
theorem range_keep {w w' : World} {b o : Nat} {C : List Value} (h : w.rangeAt b o C) (hb : w'.heap[b]? = w.heap[b]?) : w'.rangeAt b o C := by
  intro j v hv
  have := h j v hv
  simpa [World.cell?, hb] using this
theorem opv_len (o : OpV) : o.cells.length = 18 := rfl
theorem ops_get (L : List OpV) : ∀ (i j : Nat) (hi : i < L.length) (_ : j < 18), (L.flatMap OpV.cells)[i * 18 + j]? = (L[i]).cells[j]? := by
  induction L with
  | nil => intro i j hi; simp at hi
  | cons d r ih =>
    intro i j hi hj
    have hd : d.cells.length = 18 := rfl
    cases i with
    | zero =>
      simp only [List.flatMap_cons, Nat.zero_mul, Nat.zero_add, List.getElem_cons_zero]
      rw [List.getElem?_append_left (by omega)]
    | succ i =>
      simp only [List.flatMap_cons, List.getElem_cons_succ]
      rw [List.getElem?_append_right (by omega), hd, show (i + 1) * 18 + j - 18 = i * 18 + j from by omega]
      exact ih i j (by simpa using hi) hj
theorem ops_range {w : World} {g : Nat} {t : TypeId} {L : List OpV} (h : w.heap[g]? = some (.cells (L.flatMap OpV.cells).toArray t (0, 0))) (i : Nat) (hi : i < L.length) : w.rangeAt g (i * 18) (L[i]).cells := by
  intro j v hv
  have hj : j < 18 := by have := (List.getElem?_eq_some_iff.1 hv).1; rwa [opv_len] at this
  rw [cell_of_row w g _ _ _ _ h]
  rw [← hv, ← ops_get L i j hi hj]
  simp
theorem op_first {w : World} {g o : Nat} {p : OpV} (h : w.rangeAt g o p.cells) : w.cell? ⟨g, o, none⟩ = some (.int .i64 p.k) := h 0 _ rfl
theorem wpList_store_new {P : Program} {ops : Array Oper} {rest : List Oper} {o : Oper} {a : Act} {w : World} {Q : Exit → Act → World → Prop} (hgd : o.guard = none) (ty : TypeId) (x y : Operand) (ho : o.op = .store ty x y) (hd : o.dst = none)
    (c c' : Array Value) (t : TypeId) (hx : a.eval x = .pointer (some ⟨w.heap.size, 0, none⟩)) (hy : a.eval y = .agg c') (hi : (P.info? ty).map (·.size) = some c'.size) (hsz : c.size = c'.size) (h1 : c'.all (·.oneCell') = true)
    (h : ∀ W, Hid (W = w.alloc (.cells c' t)) → wpList P ops Q rest a W) : wpList P ops Q (o :: rest) a (w.alloc (.cells c t)) := by
  refine wpList_store_rowTo hgd ty x y ho hd w.heap.size c' hx hy t c (heap_alloc_last w _) hi hsz h1 ?_
  rw [World.setRow_alloc_new]
  exact h _ rfl
theorem wpList_rem3 {ops : Array Oper} {rest : List Oper} {o : Oper} {a : Act} {w : World} {Q : Exit → Act → World → Prop} (hgd : o.guard = none) (x : Operand) (ho : o.op = .binOp .rem 3 x (.const (.int .i64 3)) 3)
    (k : Nat) (hx : a.eval x = .int .i64 k) (r : Int) (hr : Int.tmod (k : Int) 3 = r) (h : wpList Tryz.prog ops Q rest (a.put o.dst (.int .i64 r)) w) : wpList Tryz.prog ops Q (o :: rest) a w :=
  wpList_plain hgd fun _ hK => by
    subst hr
    have e3 : a.eval (.const (.int .i64 3)) = .int .i64 3 := rfl
    unfold Oper.wp execOp
    simp only [ho, hx, e3, Sem.run_bind]
    exact hK _ _ h
structure Plan (A : Nat) (lo up : Int) (T : List OpV) (N : Nat) (w2 : World) (J : Nat → World → Prop) : Prop where
  step : ∀ k w o, k < N → o ∈ T → lo ≤ o.k → o.k ≤ up → J k w → Calls Tryz.prog 21 #[.pointer (some ⟨A, 0, none⟩), o.val] w fun e w' => e = .returned (.bool true) ∧ J (k + 1) w'
  settle : ∀ k w, k ≤ N → J k w → Calls Tryz.prog 22 #[.pointer (some ⟨A, 0, none⟩)] w fun e w' => e = .returned (.bool true) ∧ J k w'
  looks : ∀ k w, k ≤ N → J k w → Calls Tryz.prog 23 #[.pointer (some ⟨A, 0, none⟩)] w fun e w' => e = .returned (.bool true) ∧ J k w'
  mono : ∀ k w, J k w → J (k + 1) w
  below : ∀ k w w', J k w → Below w.heap.size w w' → J k w'
  kept : ∀ k w, J k w → Kept w2 w [A]
def worldC : Array Value := #[.slice none 0 0, .int .i64 0, .slice none 0 0, .slice none 0 0, .slice none 0 0, .slice none 0 0]
end Go.Proofs.YtogmdaopfnmobaaGreat

