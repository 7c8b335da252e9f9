/- The load of a whole step. -/
import Derived.Deep.MidRow
import Derived.Test.YtogmdaopfnmobaaGreatP35
namespace Go.Proofs.YtogmdaopfnmobaaGreat
open Go.RowKit

theorem size_op : (Tryz.prog.info? 74).map (·.size) = some 18 := by kernel_rfl

/-- The whole of a step, read from a new block. -/
theorem load_op (w : World) (t : TypeId) (c0 c1 c2 c3 c4 c5 c6 c7 c8 c9 c10 c11 c12 c13 c14 c15 c16 c17 : Value) :
    (Instr.loadAt 74 (.pointer (some ⟨w.heap.size, 0, none⟩))).run Tryz.prog (w.alloc (.cells #[c0, c1, c2, c3, c4, c5, c6, c7, c8, c9, c10, c11, c12, c13, c14, c15, c16, c17] t)) =
      .ok (.agg #[c0, c1, c2, c3, c4, c5, c6, c7, c8, c9, c10, c11, c12, c13, c14, c15, c16, c17]) (w.alloc (.cells #[c0, c1, c2, c3, c4, c5, c6, c7, c8, c9, c10, c11, c12, c13, c14, c15, c16, c17] t)) := by
  refine run_loadAt_mid _ _ _ _ [c0, c1, c2, c3, c4, c5, c6, c7, c8, c9, c10, c11, c12, c13, c14, c15, c16, c17] _ ?_ Tryz.underlying74 rfl size_op
  intro j v hv
  have := block_new w #[c0, c1, c2, c3, c4, c5, c6, c7, c8, c9, c10, c11, c12, c13, c14, c15, c16, c17] t j v hv
  rwa [Addr.add_mid] at this

theorem range_new (w : World) (t : TypeId) (C : List Value) : (w.alloc (.cells C.toArray t)).rangeAt w.heap.size 0 C := by
  intro j v hv
  have := block_new w C.toArray t j v hv
  rwa [Addr.add_mid] at this

end Go.Proofs.YtogmdaopfnmobaaGreat

