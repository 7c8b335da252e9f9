/- What readNumber does. -/
import Derived.Deep.QuietTactic
import Derived.BigQuiet
import Derived.Test.YtogmdaopfnmobaaGreatS06
import Derived.Test.YtogmdaopfnmobaaGreatS02
namespace Go.Proofs.YtogmdaopfnmobaaGreat
open Go.RowKit
theorem below_drewN (w : World) (n : Nat) : Below w.heap.size w (w.drewN n) := ⟨rfl, rfl, rfl, Nat.le_refl _, fun _ _ => rfl⟩
end Go.Proofs.YtogmdaopfnmobaaGreat

/- What readNode does. -/
namespace Go.Proofs.YtogmdaopfnmobaaGreat
open Go.RowKit
attribute [local go_sem ↓] run_eql_node run_neq_node
theorem heap_set {w : World} {F k : Nat} {C : Array Value} {t : TypeId} {fr : Nat × Nat} (h : w.heap[F]? = some (.cells C t fr)) (v : Value) : (w.setCell ⟨F, k, none⟩ v).heap[F]? = some (.cells (C.setIfInBounds k v) t fr) := by
  simp [World.setCell, Array.getElem?_modify, h]
def Six (w : World) (g : Nat) (c0 c1 c2 c3 c4 c5 : Value) : Prop := w.heap[g]? = some (.cells #[c0, c1, c2, c3, c4, c5] 51 (0, 0))
section
variable {w : World} {g : Nat} {c0 c1 c2 c3 c4 c5 : Value}
theorem Six.set0 (h : Six w g c0 c1 c2 c3 c4 c5) (v : Value) : Six (w.setCell ⟨g, 0, none⟩ v) g v c1 c2 c3 c4 c5 := heap_set (k := 0) h v
theorem Six.set1 (h : Six w g c0 c1 c2 c3 c4 c5) (v : Value) : Six (w.setCell ⟨g, 1, none⟩ v) g c0 v c2 c3 c4 c5 := heap_set (k := 1) h v
theorem Six.set2 (h : Six w g c0 c1 c2 c3 c4 c5) (v : Value) : Six (w.setCell ⟨g, 2, none⟩ v) g c0 c1 v c3 c4 c5 := heap_set (k := 2) h v
theorem Six.set3 (h : Six w g c0 c1 c2 c3 c4 c5) (v : Value) : Six (w.setCell ⟨g, 3, none⟩ v) g c0 c1 c2 v c4 c5 := heap_set (k := 3) h v
theorem Six.set4 (h : Six w g c0 c1 c2 c3 c4 c5) (v : Value) : Six (w.setCell ⟨g, 4, none⟩ v) g c0 c1 c2 c3 v c5 := heap_set (k := 4) h v
theorem Six.set5 (h : Six w g c0 c1 c2 c3 c4 c5) (v : Value) : Six (w.setCell ⟨g, 5, none⟩ v) g c0 c1 c2 c3 c4 v := heap_set (k := 5) h v
theorem Six.set (h : Six w g c0 c1 c2 c3 c4 c5) (d0 d1 d2 d3 d4 d5 : Value) :
    Six ((((((w.setCell ⟨g, 0, none⟩ d0).setCell ⟨g, 1, none⟩ d1).setCell ⟨g, 2, none⟩ d2).setCell ⟨g, 3, none⟩ d3).setCell ⟨g, 4, none⟩ d4).setCell ⟨g, 5, none⟩ d5) g d0 d1 d2 d3 d4 d5 :=
  (((((h.set0 d0).set1 d1).set2 d2).set3 d3).set4 d4).set5 d5
theorem Six.drew (h : Six w g c0 c1 c2 c3 c4 c5) : Six w.drew g c0 c1 c2 c3 c4 c5 := h
theorem Six.below {w' : World} {B : Nat} (h : Six w g c0 c1 c2 c3 c4 c5) (hb : Below B w w') (hg : g < B) : Six w' g c0 c1 c2 c3 c4 c5 := by
  unfold Six at h ⊢
  rw [hb.block g hg]; exact h
theorem Six.new (w : World) (c0 c1 c2 c3 c4 c5 : Value) : Six (w.alloc (.cells #[c0, c1, c2, c3, c4, c5] 51)) w.heap.size c0 c1 c2 c3 c4 c5 := heap_alloc_new w _
theorem Six.cells (h : Six w g c0 c1 c2 c3 c4 c5) : (w.cell? ⟨g, 0, none⟩ = some c0 ∧ w.cell? ⟨g, 1, none⟩ = some c1 ∧ w.cell? ⟨g, 2, none⟩ = some c2 ∧
    w.cell? ⟨g, 3, none⟩ = some c3 ∧ w.cell? ⟨g, 4, none⟩ = some c4 ∧ w.cell? ⟨g, 5, none⟩ = some c5) := by
  refine ⟨?_, ?_, ?_, ?_, ?_, ?_⟩ <;> rw [cell_of_row w g _ _ _ _ h] <;> rfl
end
theorem six_new {w w1 : World} {c0 c1 c2 c3 c4 c5 : Value} {t : TypeId} (hB : Below (w.heap.size + 1) (w.alloc (.cells #[c0, c1, c2, c3, c4, c5] t)) w1) :
    (w1.cell? ⟨w.heap.size, 0, none⟩ = some c0 ∧ w1.cell? ⟨w.heap.size, 1, none⟩ = some c1 ∧ w1.cell? ⟨w.heap.size, 2, none⟩ = some c2 ∧
    w1.cell? ⟨w.heap.size, 3, none⟩ = some c3 ∧ w1.cell? ⟨w.heap.size, 4, none⟩ = some c4 ∧ w1.cell? ⟨w.heap.size, 5, none⟩ = some c5) ∧ ∀ j, w1.frozen? ⟨w.heap.size, j, none⟩ = false := by
  refine ⟨⟨?_, ?_, ?_, ?_, ?_, ?_⟩, fun j => ?_⟩
  case refine_7 => rw [hB.frozen (p := ⟨w.heap.size, j, none⟩) (by simp)]; simp
  all_goals rw [hB.cell (by simp)]; simp
theorem below_new {w w1 : World} {o : Obj} (hB : Below (w.heap.size + 1) (w.alloc o) w1) : Below w.heap.size w w1 := ((Below.refl _ _).alloc (Nat.le_refl _) _).trans (hB.mono (by omega))
end Go.Proofs.YtogmdaopfnmobaaGreat

/- What ReadProof does. -/
namespace Go.Proofs.YtogmdaopfnmobaaGreat
open Go.RowKit
theorem info_node : (Tryz.prog.info? 51).map (fun i => (i.zero, i.size, i.bytes)) = some (some (.agg #[.int .i64 0, .int .i64 0, .int .i64 0, .int .i64 0, .int .u8 0, .int .u8 0]), 6, 40) := by kernel_rfl
theorem node_new (w : World) (d : Nd) (e : TypeId) : ∀ j u, d.cells[j]? = some u → (w.alloc (.cells #[.int .i64 d.c, .int .i64 d.s, .int .i64 d.m, .int .i64 d.x, .int .u8 d.h.toNat, .int .u8 d.g.toNat] e)).cell? ((⟨w.heap.size, 0, none⟩ : Addr).add j) = some u := by
  intro j u hj
  have e1 : (⟨w.heap.size, 0, none⟩ : Addr).add j = ⟨w.heap.size, j, none⟩ := by unfold Addr.add; split <;> simp_all
  rw [e1, cell_of_row _ _ j _ _ _ (heap_alloc_new w _)]
  simpa [Nd.cells] using hj
theorem node_one (d : Nd) : ∀ u ∈ d.cells, u.oneCell' = true := by
  intro u hu
  simp only [Nd.cells, List.mem_cons, List.not_mem_nil, or_false] at hu
  rcases hu with rfl | rfl | rfl | rfl | rfl | rfl <;> rfl
theorem own_shape {w : World} {base : Nat} {e : TypeId} {sz n : Nat} {v : Value} {xs : List Value} (h : w.ownsRow base e sz v n xs) : ∃ ao cap, v = .slice ao n cap := by
  rcases h.2 with ⟨rfl, rfl⟩ | ⟨g, cap, _, rfl, _⟩
  · exact ⟨none, 0, rfl⟩
  · exact ⟨_, cap, rfl⟩
end Go.Proofs.YtogmdaopfnmobaaGreat

