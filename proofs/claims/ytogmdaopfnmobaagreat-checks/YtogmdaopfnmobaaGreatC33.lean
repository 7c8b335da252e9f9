/- What the program's trees do: the source that knows the node of each place. -/
import Derived.Laws.EntriesVeiled
import Derived.Test.YtogmdaopfnmobaaGreatC31
namespace Go.Proofs.YtogmdaopfnmobaaGreat
open Go.RowKit
theorem ret_nodeB {w : World} {g : Nat} {c0 c1 c2 c3 c4 c5 v : Value} {fn : Func} {R : Ending → World → Prop} {tmps : Array Value} {k j : Nat} (hf : fn.results = #[.cell k 51, .tmp j]) (h : Six w g c0 c1 c2 c3 c4 c5)
    (h2 : tmps[k]? = some (.pointer (some ⟨g, 0, none⟩))) (h3 : tmps[j]? = some v) (hR : R (.returned (.tuple #[.agg #[c0, c1, c2, c3, c4, c5], v])) w) : bodyPost Tryz.prog fn R .ret ⟨tmps, []⟩ w := by
  obtain ⟨k0, k1, k2, k3, k4, k5⟩ := h.cells
  refine bodyPost_ret (v := .tuple #[.agg #[c0, c1, c2, c3, c4, c5], v]) ?_ rfl hR
  simp [results, hf, go_sem, h2, h3, k0, k1, k2, k3, k4, k5]
end Go.Proofs.YtogmdaopfnmobaaGreat

