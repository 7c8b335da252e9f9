/- The steps that are played ahead of every script. -/
import Derived.Great.Walk
import Derived.Test.YtogmdaopfnmobaaGreatA17
namespace Go.Proofs.YtogmdaopfnmobaaGreat
open Go.RowKit
def O0 : OpV := ⟨0, 0, 0, 0, 0, ⟨#[]⟩, 0, 0, 0, 0, 0, 0, 0, 0, 0, 0, .slice none 0 0, .slice none 0 0⟩
def opsL (n : Nat) : List OpV :=
  [{ O0 with k := 1, s := ⟨#[69]⟩ }, { O0 with k := 2, nv := .slice (some ⟨n + 1, 0, none⟩) 1 1 }, { O0 with k := 2, nv := .slice (some ⟨n + 2, 0, none⟩) 1 1 }, { O0 with k := 3, s := ⟨#[0]⟩ }, { O0 with k := 3, s := ⟨#[2]⟩ },
   { O0 with k := 4 }, { O0 with k := 5, b := 5 }, { O0 with k := 5, b := 3 }, { O0 with k := 5, b := -1 }, { O0 with k := 8, c := 2 }, { O0 with k := 9, c := 0, d := 1 }, { O0 with k := 9, c := 1, d := 0 }, { O0 with k := 10, b := 1 },
   { O0 with k := 11, hs := 1, c := 1, s := ⟨#[0]⟩ }, { O0 with k := 11, hs := 1, c := 2 }, { O0 with k := 12, gs := 1, hs := 1, s := ⟨#[0]⟩ }, { O0 with k := 13, c := -1 }, { O0 with k := 14 }]
def opsC (n : Nat) : List Value := (opsL n).flatMap OpV.cells
theorem wp_buildSliceTo {o : Oper} {a : Act} {w : World} {K : Act → World → Prop} {Q : Exit → Act → World → Prop} (t e : TypeId) (len : Nat) (parts : Array (Nat × Operand)) (ho : o.op = .buildSlice t len parts)
    (hu : Tryz.prog.underlying t = some (.slice e)) (cells : Array Value)
    (hf : Tryz.prog.builtSlice e len (parts.map fun (i, x) => (i, a.eval x)).toList = some cells)
    (h : K (a.put o.dst (.slice (some ⟨w.heap.size, 0, none⟩) len len)) (w.alloc (.cells cells e))) : o.wp Tryz.prog a w K Q := by
  unfold Program.builtSlice at hf
  cases hie : Tryz.prog.info? e with
  | none => simp [hie] at hf
  | some ie =>
    simp only [hie] at hf
    cases hz : ie.zero with
    | none => simp [hz] at hf
    | some z =>
      simp only [hz] at hf
      by_cases hc : len * ie.size > 2 ^ 24 ∨ len * ie.size = 0
      · simp [hc] at hf
      · rw [if_neg hc] at hf
        exact wp_buildSlice t e len parts ho cells ie z hu hie hz (fun h' => hc (Or.inl h')) (fun h' => hc (Or.inr h')) hf h
structure Opened (w w' : World) : Prop where
  below : Below w.heap.size w w'
  size : w'.heap.size = w.heap.size + 4
  one : w'.heap[w.heap.size + 1]? = some (.cells #[.int .i64 1, .int .i64 0, .int .i64 0, .int .i64 0, .int .u8 0, .int .u8 0] 51 (0, 0))
  two : w'.heap[w.heap.size + 2]? = some (.cells #[.int .i64 (-1), .int .i64 0, .int .i64 0, .int .i64 0, .int .u8 0, .int .u8 0] 51 (0, 0))
  ops : w'.heap[w.heap.size + 3]? = some (.cells (opsC w.heap.size).toArray 74 (0, 0))
theorem heap_new (w : World) (C : Array Value) (t : TypeId) (n : Nat) (hn : n = w.heap.size) : (w.alloc (.cells C t)).heap[n]? = some (.cells C t (0, 0)) := by
  subst hn
  show (w.heap.push _)[w.heap.size]? = _
  simp
theorem opened_of (w : World) (C0 : Array Value) (t0 : TypeId) : Opened w ((((w.alloc (.cells C0 t0)).alloc (.cells #[.int .i64 1, .int .i64 0, .int .i64 0, .int .i64 0, .int .u8 0, .int .u8 0] 51)).alloc
      (.cells #[.int .i64 (-1), .int .i64 0, .int .i64 0, .int .i64 0, .int .u8 0, .int .u8 0] 51)).alloc (.cells (opsC w.heap.size).toArray 74)) := by
  refine ⟨?_, by simp, ?_, ?_, ?_⟩
  · refine Below.alloc (Below.alloc (Below.alloc ((Below.refl _ _).alloc (Nat.le_refl _) _) ?_ _) ?_ _) ?_ _ <;> (simp; try omega)
  · rw [Below.heap_alloc _ _ _ (by simp), Below.heap_alloc _ _ _ (by simp)]
    exact heap_new _ _ _ _ (by simp)
  · rw [Below.heap_alloc _ _ _ (by simp)]
    exact heap_new _ _ _ _ (by simp)
  · exact heap_new _ _ _ _ (by simp)
set_option maxHeartbeats 8000000 in
set_option maxRecDepth 100000 in
theorem opening_any (w : World) : Calls Tryz.prog 20 #[] w fun e w' => e = .returned (.slice (some ⟨w.heap.size + 3, 0, none⟩) 18 18) ∧ Opened w w' := by
  go_enter Tryz.func20, Tryz.ntmps20
  go_wp2
  refine wp_buildSliceTo 22 74 18 _ rfl Tryz.underlying22 (opsC w.heap.size).toArray (by kernel_rfl) ?_
  rename_i h
  refine h _ _ ?_
  clear h
  have e : (((w.alloc (.cells #[.int .i64 1, .int .u8 0, .int .u8 0] 58)).alloc (.cells #[.int .i64 1, .int .i64 0, .int .i64 0, .int .i64 0, .int .u8 0, .int .u8 0] 51)).alloc
      (.cells #[.int .i64 (-1), .int .i64 0, .int .i64 0, .int .i64 0, .int .u8 0, .int .u8 0] 51)).heap.size = w.heap.size + 3 := by simp
  rw [e]
  generalize hC : (opsC w.heap.size).toArray = C
  go_wp2
  go_ret
  refine ⟨rfl, ?_⟩
  subst hC
  exact opened_of w _ _
end Go.Proofs.YtogmdaopfnmobaaGreat

