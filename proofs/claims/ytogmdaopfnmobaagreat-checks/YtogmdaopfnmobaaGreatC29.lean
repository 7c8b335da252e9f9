/- What the program's trees do: aboveText, whatever the nodes. -/
import Derived.Test.YtogmdaopfnmobaaGreatC27
import Derived.Test.YtogmdaopfnmobaaGreatC28
namespace Go.Proofs.YtogmdaopfnmobaaGreat
open Go.RowKit
theorem aboveText_any (x y : Nd) (w : World) (hx : x.mid) (hy : y.mid) :
    Calls Tryz.prog 122 #[ndV x, ndV y] w fun e w' => e = .returned (.string ⟨(abText x y).toArray⟩) ∧ Below w.heap.size w w' := by
  by_cases ex : x = .E
  · subst ex
    by_cases ey : y = .E
    · subst ey
      exact aboveText_E w
    · rw [abText, if_neg (fun h => ey h.2)]
      exact aboveText_N2 y w hy (by rw [eqN_E]; simp [ey])
  · rw [abText, if_neg (fun h => ex h.1)]
    exact aboveText_N1 x y w hx hy (by rw [eqN_E]; simp [ex])
theorem abText_length (x y : Nd) : (abText x y).length ≤ 61 := by
  have := x.bytes_length
  have := y.bytes_length
  unfold abText
  split <;> simp
  omega
end Go.Proofs.YtogmdaopfnmobaaGreat

