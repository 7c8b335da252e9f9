/- What readNumber does. -/
import Derived.Test.YtlggbcceoejkkaaGreatWalk4
import Derived.Test.YtlggbcceoejkkaaGreatMath2
import Derived.Deep.QuietTactic
import Derived.BigQuiet
namespace Go.Proofs.YtlggbcceoejkkaaGreat
open Go.RowKit

/-- What is told of a number off the front of a text. -/
def rdOut (o : Option (Nat × List UInt8)) (n : Nat) (r : List UInt8) (b : Bool) : Prop := (b = true ∧ o = some (n, r)) ∨ (b = false ∧ o = none ∧ n = 0 ∧ r = [])

theorem drop_cons (s : ByteArray) (k : Nat) (h : k < s.size) : s.data.toList.drop k = s[k] :: s.data.toList.drop (k + 1) := by
  rw [List.drop_eq_getElem_cons (by simpa using h)]; rfl
theorem extract_list (s : ByteArray) (k : Nat) : (s.extract k s.size).data.toList = s.data.toList.drop k := by
  simp [ByteArray.data_extract, Array.toList_extract, List.extract_eq_take_drop]
  rw [List.take_of_length_le]
  simp

/-- What readNumber leaves. -/
def numPost (s : ByteArray) (w : World) (e : Ending) (w' : World) : Prop :=
  ∃ (n : Nat) (s' : ByteArray) (b : Bool), e = .returned (.tuple #[.int .i64 n, .string s', .bool b]) ∧ rdOut (rdNum s.data.toList) n s'.data.toList b ∧ s'.size ≤ s.size ∧ Below w.heap.size w w'

theorem size_extract_le (s : ByteArray) (k : Nat) : (s.extract k s.size).size ≤ s.size := by
  simp [ByteArray.size_extract]

theorem below_drewN (w : World) (n : Nat) : Below w.heap.size w (w.drewN n) := ⟨rfl, rfl, rfl, Nat.le_refl _, fun _ _ => rfl⟩

theorem num_rel (s : ByteArray) (k acc : Nat) (hz : k < s.size) (h5 : k < 5) (hac : acc < 128 ^ k) (HR : rdNum s.data.toList = rdN (4 - k) (k + 1) (acc + s[k].toNat % 128 * 128 ^ k) (s.data.toList.drop (k + 1)))
    (v i : Int) (hv : v = ((acc + s[k].toNat % 128 * 128 ^ k : Nat) : Int)) (hi : i = ((k + 1 : Nat) : Int)) :
    ∃ k' acc' : Nat, k' ≤ 5 ∧ k' ≤ s.size ∧ Value.int .i64 i = .int .i64 k' ∧ Value.int .i64 v = .int .i64 acc' ∧ acc' ≤ 34359738367 ∧ Hid (acc' < 128 ^ k') ∧ Hid (rdNum s.data.toList = rdN (5 - k') k' acc' (s.data.toList.drop k')) := by
  have hlt : acc + s[k].toNat % 128 * 128 ^ k < 128 ^ (k + 1) := by
    have h1 : s[k].toNat % 128 * 128 ^ k ≤ 127 * 128 ^ k := Nat.mul_le_mul_right _ (by omega)
    rw [Nat.pow_succ]; omega
  have hle : 128 ^ (k + 1) ≤ 128 ^ 5 := Nat.pow_le_pow_right (by omega) (by omega)
  refine ⟨k + 1, acc + s[k].toNat % 128 * 128 ^ k, by omega, by omega, by rw [hi], by rw [hv], ?_, hlt, ?_⟩
  · have : (128 : Nat) ^ 5 = 34359738368 := by decide
    omega
  · rw [show 5 - (k + 1) = 4 - k from by omega]; exact HR

theorem num_ret (s : ByteArray) (w w' : World) (k acc : Nat) (hz : k < s.size) (h128 : ¬ 128 ≤ s[k].toNat) (hb : Below w.heap.size w w') (HR : rdNum s.data.toList = some (acc + s[k].toNat * 128 ^ k, s.data.toList.drop (k + 1)))
    (v : Int) (hv : v = ((acc + s[k].toNat % 128 * 128 ^ k : Nat) : Int)) : numPost s w (.returned (.tuple #[.int .i64 v, .string (s.extract (k + 1) s.size), .bool true])) w' := by
  have e : s[k].toNat % 128 = s[k].toNat := by omega
  rw [e] at hv
  exact ⟨_, _, true, by rw [hv], .inl ⟨rfl, by rw [extract_list]; exact HR⟩, size_extract_le s _, hb⟩

set_option maxHeartbeats 1000000 in
set_option maxRecDepth 100000 in
theorem readNumber_any (s : ByteArray) (w : World) (hs : s.size ≤ maxLen) :
    Calls Tryz.prog 132 #[.string s] w (numPost s w) := by
  unfold maxLen at hs
  go_enter Tryz.func132, Tryz.ntmps132
  go_wp2
  all_goals
    go_loop [2, 9] (fun n i => ∃ k acc : Nat, k ≤ 5 ∧ k ≤ s.size ∧ i = .int .i64 k ∧ n = .int .i64 acc ∧ acc ≤ 34359738367 ∧ Hid (acc < 128 ^ k) ∧ Hid (rdNum s.data.toList = rdN (5 - k) k acc (s.data.toList.drop k))) (fun _ i => 5 - (intOf i).toNat)
    case atStart => exact ⟨0, 0, by omega, by omega, rfl, rfl, by omega, by simp [Hid], by simp [Hid, rdNum]⟩
    case round =>
      obtain ⟨k, acc, hk5, hks, rfl, rfl, hacc, HA, HR⟩ := hrel
      by_cases hlt : k < 5 ∧ k < s.size
      · obtain ⟨h5, hz⟩ := hlt
        rw [drop_cons s k hz] at HR
        have hb256 : (s[k].toNat : Int) < 256 := by have := s[k].toNat_lt; omega
        have hkk : k = 0 ∨ k = 1 ∨ k = 2 ∨ k = 3 ∨ k = 4 := by omega
        have hac := HA.out
        by_cases h128 : 128 ≤ s[k].toNat
        · rw [show 5 - k = (4 - k) + 1 from by omega, rdN_more _ _ _ _ _ h128] at HR
          rcases hkk with rfl | rfl | rfl | rfl | rfl
          all_goals simp at hac
          all_goals go_wp2
          all_goals go_round
          all_goals first | exact num_rel s _ acc hz h5 HA.out HR _ _ (by first | omega | (simp [hac]; done)) (by omega) | (simp [intOf]; done)
        · by_cases hz0 : s[k].toNat = 0 ∧ 0 < k
          · rw [show 5 - k = (4 - k) + 1 from by omega, rdN_zero _ _ _ _ _ hz0.1 hz0.2] at HR
            obtain ⟨hq, hk0⟩ := hz0
            have hqi : ((s[k].toNat : Int) == 0) = true := by simp; omega
            clear hq
            rcases hkk with rfl | rfl | rfl | rfl | rfl
            · omega
            all_goals simp at hac
            all_goals go_wp2
            all_goals go_ret3
            all_goals exact ⟨0, ⟨#[]⟩, false, rfl, .inr ⟨rfl, HR, rfl, rfl⟩, Nat.zero_le _, Below.refl _ _⟩
          · rw [show 5 - k = (4 - k) + 1 from by omega, rdN_last _ _ _ _ _ h128 hz0] at HR
            by_cases hq : s[k].toNat = 0
            · have hk0 : k = 0 := by omega
              subst hk0
              have hqi : ((s[0].toNat : Int) == 0) = true := by simp; omega
              simp at hac
              go_wp2
              go_quiet (fail)
              go_wp2
              go_ret3
              exact num_ret s w _ 0 acc hz h128 (below_drewN w _) HR _ (by first | omega | (simp [hac]; done))
            · have hqi : ((s[k].toNat : Int) == 0) = false := by simp; omega
              clear hz0 hq
              rcases hkk with rfl | rfl | rfl | rfl | rfl
              all_goals simp at hac
              all_goals go_wp2
              all_goals go_quiet (fail)
              all_goals go_wp2
              all_goals go_ret3
              all_goals exact num_ret s w _ _ acc hz h128 (below_drewN w _) HR _ (by first | omega | (simp [hac]; done))
      · have hn : rdNum s.data.toList = none := by
          rw [HR.out]
          by_cases e : k = 5
          · subst e; rfl
          · have : s.data.toList.drop k = [] := List.drop_of_length_le (by simp; omega)
            rw [this]
            obtain ⟨j, hj⟩ : ∃ j, 5 - k = j + 1 := ⟨4 - k, by omega⟩
            rw [hj]; rfl
        have HN : Hid _ := hn
        clear hn
        go_wp2
        go_ret3
        exact ⟨0, ⟨#[]⟩, false, rfl, .inr ⟨rfl, HN.out, rfl, rfl⟩, Nat.zero_le _, Below.refl _ _⟩

end Go.Proofs.YtlggbcceoejkkaaGreat
