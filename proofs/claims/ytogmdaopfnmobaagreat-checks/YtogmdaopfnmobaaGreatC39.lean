/- A store of the program beside the document's: what changes do. -/
import Derived.Maps.AppendAt
import Derived.Test.YtogmdaopfnmobaaGreatC20
import Derived.Test.YtogmdaopfnmobaaGreatC14
import Derived.Test.YtogmdaopfnmobaaGreatC10
import Derived.Test.YtogmdaopfnmobaaGreatC35
import Derived.Test.YtogmdaopfnmobaaGreatC16
namespace Go.Proofs.YtogmdaopfnmobaaGreat
open Go.RowKit
set_option maxHeartbeats 400000 in
theorem num_any (n : Int) (w : World) : Calls Tryz.prog 19 #[.int .i64 n] w fun e w' => e = .returned (.int .i64 n) ∧ w' = w := by
  go_enter Tryz.func19, Tryz.ntmps19
  go_wp2
  go_ret
  exact ⟨rfl, rfl⟩
end Go.Proofs.YtogmdaopfnmobaaGreat

