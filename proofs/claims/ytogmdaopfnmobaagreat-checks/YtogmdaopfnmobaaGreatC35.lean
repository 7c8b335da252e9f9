/- What the program's trees do: the sources of a log and of a table. -/
import Derived.Maps.OwnOps
import Derived.Sort.MapsRangeIn
import Derived.Maps.OwnSet
import Derived.Test.YtogmdaopfnmobaaGreatC33
import Derived.Test.YtogmdaopfnmobaaGreatC32
import Derived.Test.YtogmdaopfnmobaaGreatC10
import Derived.Test.YtogmdaopfnmobaaGreatC34
namespace Go.Proofs.YtogmdaopfnmobaaGreat
open Go.RowKit Go.Maps
theorem cell_old {w : World} {b off : Nat} {v : Value} (o : Obj) (h : w.cell? ⟨b, off, none⟩ = some v) : (w.alloc o).cell? ⟨b, off, none⟩ = some v := cell_kept h (World.grownBy_alloc w o none) (fun r e => by cases e)
end Go.Proofs.YtogmdaopfnmobaaGreat

/- The program's store: what it is in memory; the small questions. -/
namespace Go.Proofs.YtogmdaopfnmobaaGreat
open Go.RowKit Go.Maps
section
variable {w w' : World} {base S : Nat} {s : Sto} {lv : Value} {M : Nat}
end
def szB (t n : Int) : Bool := decide ((t = 0 ∧ 0 ≤ n ∧ n ≤ 64) ∨ (t = 1 ∧ n = 32))
def rgB (f t n : Int) : Bool := decide (0 ≤ f ∧ f ≤ t ∧ t ≤ n)
set_option maxHeartbeats 1000000 in
theorem isRange_any (f t n : Int) (w : World) : Calls Tryz.prog 61 #[.int .i64 f, .int .i64 t, .int .i64 n] w fun e w' => e = .returned (.bool (rgB f t n)) ∧ w' = w := by
  obtain ⟨b, hb⟩ : ∃ b, b = rgB f t n := ⟨_, rfl⟩
  rw [← hb]
  have HB : Hid (b = rgB f t n) := hb
  clear hb
  go_enter Tryz.func61, Tryz.ntmps61
  go_wp2
  all_goals go_ret
  all_goals refine ⟨ret_bool ?_, rfl⟩
  all_goals rw [HB.out]
  · rw [rgB, decide_eq_decide]; omega
  · symm; simp only [rgB, decide_eq_false_iff_not]; omega
  · symm; simp only [rgB, decide_eq_false_iff_not]; omega
set_option maxHeartbeats 1000000 in
theorem isSize_any (t n : Int) (w : World) : Calls Tryz.prog 50 #[.int .i64 t, .int .i64 n] w fun e w' => e = .returned (.bool (szB t n)) ∧ w' = w := by
  by_cases h0 : t = 0
  · subst h0
    have e : szB 0 n = decide (0 ≤ n ∧ n ≤ 64) := by rw [szB, decide_eq_decide]; omega
    have HB : Hid (szB 0 n = decide (0 ≤ n ∧ n ≤ 64)) := e
    clear e
    go_enter Tryz.func50, Tryz.ntmps50
    go_wp2
    all_goals go_ret
    all_goals refine ⟨ret_bool ?_, rfl⟩
    all_goals rw [HB.out]
    · rw [decide_eq_decide]; omega
    · symm; simp only [decide_eq_false_iff_not]; omega
  · by_cases h1 : t = 1
    · subst h1
      have e : szB 1 n = decide (n = 32) := by rw [szB, decide_eq_decide]; omega
      have HB : Hid (szB 1 n = decide (n = 32)) := e
      clear e
      by_cases h2 : n = 32
      · subst h2
        go_enter Tryz.func50, Tryz.ntmps50
        go_wp2
        go_ret
        exact ⟨rfl, rfl⟩
      · have h2' : (n == 32) = false := by simpa using h2
        go_enter Tryz.func50, Tryz.ntmps50
        go_wp2
        go_ret
        refine ⟨ret_bool ?_, rfl⟩
        rw [HB.out]; simp [h2]
    · have e : szB t n = false := by simp only [szB, decide_eq_false_iff_not]; omega
      have HB : Hid (szB t n = false) := e
      have h0' : (t == 0) = false := by simpa using h0
      have h1' : (t == 1) = false := by simpa using h1
      clear e
      go_enter Tryz.func50, Tryz.ntmps50
      go_wp2
      go_ret
      exact ⟨ret_bool HB.out.symm, rfl⟩
end Go.Proofs.YtogmdaopfnmobaaGreat

