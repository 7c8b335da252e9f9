/- Two nodes by '==' and '!='. -/
import Derived.Test.YtogmdaopfnmobaaGreatRows
import Derived.WalkKit
import Derived.WalkSpells
import Derived.WalkLawsBesides
import Derived.ChangeKeysEq
import Derived.Test.YtogmdaopfnmobaaGreatS02
namespace Go.Proofs.YtogmdaopfnmobaaGreat
open Go.RowKit
theorem cells_u8 : Tryz.prog.cellsOf 5 = 1 := by kernel_rfl
theorem info_u8' : (Tryz.prog.info? 5).map (fun i => (i.zero, i.size, i.bytes)) = some (some (.int .u8 0), 1, 1) := by kernel_rfl
set_option maxRecDepth 100000 in
theorem run_equal_digest (w : World) (h g h' g' : Int) :
    (Op.equalIn 9999 49 (.agg #[.int .u8 h, .int .u8 g]) (.agg #[.int .u8 h', .int .u8 g'])).run Tryz.prog w = .ok (decide (h = h') && decide (g = g')) w := by
  obtain ⟨i0, hi, _, _, _⟩ := info_parts info_u8'
  rw [run_equalIn_array w 9998 _ _ Tryz.underlying49 hi, cells_u8]
  simp [List.range, List.range.loop, Op.eqItems, go_sem]
  by_cases a : h = h' <;> by_cases b : g = g' <;> simp [a, b]
set_option maxRecDepth 100000 in
theorem run_eql_node (w : World) (c s m x h g c' s' m' x' h' g' : Int) :
    (binOp .eql 51 (.agg #[.int .i64 c, .int .i64 s, .int .i64 m, .int .i64 x, .int .u8 h, .int .u8 g]) (.agg #[.int .i64 c', .int .i64 s', .int .i64 m', .int .i64 x', .int .u8 h', .int .u8 g'])).run Tryz.prog w
      = .ok (.bool (eqN c s m x h g c' s' m' x' h' g')) w := by
  unfold eqN
  go_simp
  rw [run_equal_digest]
  by_cases a : c = c' <;> by_cases b : s = s' <;> by_cases d : m = m' <;> by_cases e : x = x' <;> by_cases i : h = h' <;> by_cases j : g = g' <;> simp [a, b, d, e, i, j]
set_option maxRecDepth 100000 in
theorem run_neq_node (w : World) (c s m x h g c' s' m' x' h' g' : Int) :
    (binOp .neq 51 (.agg #[.int .i64 c, .int .i64 s, .int .i64 m, .int .i64 x, .int .u8 h, .int .u8 g]) (.agg #[.int .i64 c', .int .i64 s', .int .i64 m', .int .i64 x', .int .u8 h', .int .u8 g'])).run Tryz.prog w
      = .ok (.bool (!eqN c s m x h g c' s' m' x' h' g')) w := by
  unfold eqN
  go_simp
  rw [run_equal_digest]
  by_cases a : c = c' <;> by_cases b : s = s' <;> by_cases d : m = m' <;> by_cases e : x = x' <;> by_cases i : h = h' <;> by_cases j : g = g' <;> simp [a, b, d, e, i, j]
end Go.Proofs.YtogmdaopfnmobaaGreat

