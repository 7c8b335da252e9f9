/- The load of a whole step. -/
import Derived.Deep.MidRow
import Derived.Test.YtogmdaopfnmobaaGreatS13
namespace Go.Proofs.YtogmdaopfnmobaaGreat
open Go.RowKit
theorem size_op : (Tryz.prog.info? 74).map (·.size) = some 18 := by kernel_rfl
theorem range_new (w : World) (t : TypeId) (C : List Value) : (w.alloc (.cells C.toArray t)).rangeAt w.heap.size 0 C := by
  intro j v hv
  have := block_new w C.toArray t j v hv
  rwa [Addr.add_mid] at this
end Go.Proofs.YtogmdaopfnmobaaGreat

