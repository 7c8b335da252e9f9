/- What the document's own store answers, in the words in which the program's answers are told. -/
import Derived.Test.YtogmdaopfnmobaaP17
import Derived.Test.YtogmdaopfnmobaaP33
namespace Go.Proofs.Ytogmdaopfnmobaa
open Go.RowKit

theorem fv_congr {f g : Nat → Nd} (a : Nat) : ∀ n, (∀ i, i < n → f (a + i) = g (a + i)) → fv f a n = fv g a n
  | 0, _ => rfl
  | n + 1, h => by
    show tog (fv f a n) (f (a + n)).fold = tog (fv g a n) (g (a + n)).fold
    rw [fv_congr a n (fun i hi => h i (by omega)), h n (by omega)]
theorem prN_congr {f g : Nat → Nd} (n a b : Nat) (h : ∀ i, i < n → f i = g i) : cn f (cov 0 n a b) = prN g n a b := by
  unfold prN cn
  refine List.map_congr_left fun p hp => ?_
  have := cov_in a b n 0 n (by omega) (by omega) p hp
  exact tr_congr _ p.a p.b (Nat.le_refl _) (fun i _ h2 => h i (by omega))
theorem tb_fun (t : List (Option Int)) : lf true (tv t) (tx t) = tbf t := funext fun i => tbf_lf i

end Go.Proofs.Ytogmdaopfnmobaa

