/- What lawful, same and knows do. -/
import Derived.Test.YtlggbcceoejkkaaGen
namespace Go.Proofs.Ytlggbcceoejkkaa
open Go.RowKit

attribute [local go_sem ↓] run_eql_node run_neq_node


set_option maxHeartbeats 1000000 in
set_option maxRecDepth 100000 in
theorem lawful_any (c s m x h g : Int) (w : World) (b : Bool) (hb : (isNum c && isNum s && isNum m && isNum x) = b) :
    Calls Try.prog 9 #[.agg #[.int .i64 c, .int .i64 s, .int .i64 m, .int .i64 x, .int .u8 h, .int .u8 g]] w fun e w' => e = .returned (.bool b) ∧ Below w.heap.size w w' := by
  have fin : ∀ o1 o2, Below w.heap.size w ((w.alloc o1).alloc o2) := fun o1 o2 => ((Below.refl _ _).alloc (Nat.le_refl _) _).alloc (by simp) _
  go_enter Try.func9, Try.ntmps9
  go_wp2
  go_loop [4] (fun i => ∃ k : Nat, k ≤ 4 ∧ i = .int .i64 k ∧ Hid (∀ v ∈ [c, s, m, x].take k, isNum v = true)) (fun i => 4 - (intOf i).toNat)
  case atStart => exact ⟨0, by omega, rfl, by simp [Hid]⟩
  case round =>
    obtain ⟨k, hk, rfl, HA⟩ := hrel
    by_cases hlt : k < 4
    · have hkk : k = 0 ∨ k = 1 ∨ k = 2 ∨ k = 3 := by omega
      rcases hkk with rfl | rfl | rfl | rfl
      · by_cases h0 : c < 0
        · go_wp2
          go_ret
          exact ⟨by rw [← hb, lawful_no c s m x c (by simp) (.inl h0)]; rfl, fin _ _⟩
        · by_cases h1 : 34359738367 < c
          · go_wp2
            go_ret
            exact ⟨by rw [← hb, lawful_no c s m x c (by simp) (.inr h1)]; rfl, fin _ _⟩
          · go_wp2
            go_round
            case rel => exact ⟨1, by omega, rfl, lawful_next [c, s, m, x] 0 c (by simp) HA.out (by omega) (by omega)⟩
            case measure => simp [intOf]
      · by_cases h0 : s < 0
        · go_wp2
          go_ret
          exact ⟨by rw [← hb, lawful_no c s m x s (by simp) (.inl h0)]; rfl, fin _ _⟩
        · by_cases h1 : 34359738367 < s
          · go_wp2
            go_ret
            exact ⟨by rw [← hb, lawful_no c s m x s (by simp) (.inr h1)]; rfl, fin _ _⟩
          · go_wp2
            go_round
            case rel => exact ⟨2, by omega, rfl, lawful_next [c, s, m, x] 1 s (by simp) HA.out (by omega) (by omega)⟩
            case measure => simp [intOf]
      · by_cases h0 : m < 0
        · go_wp2
          go_ret
          exact ⟨by rw [← hb, lawful_no c s m x m (by simp) (.inl h0)]; rfl, fin _ _⟩
        · by_cases h1 : 34359738367 < m
          · go_wp2
            go_ret
            exact ⟨by rw [← hb, lawful_no c s m x m (by simp) (.inr h1)]; rfl, fin _ _⟩
          · go_wp2
            go_round
            case rel => exact ⟨3, by omega, rfl, lawful_next [c, s, m, x] 2 m (by simp) HA.out (by omega) (by omega)⟩
            case measure => simp [intOf]
      · by_cases h0 : x < 0
        · go_wp2
          go_ret
          exact ⟨by rw [← hb, lawful_no c s m x x (by simp) (.inl h0)]; rfl, fin _ _⟩
        · by_cases h1 : 34359738367 < x
          · go_wp2
            go_ret
            exact ⟨by rw [← hb, lawful_no c s m x x (by simp) (.inr h1)]; rfl, fin _ _⟩
          · go_wp2
            go_round
            case rel => exact ⟨4, by omega, rfl, lawful_next [c, s, m, x] 3 x (by simp) HA.out (by omega) (by omega)⟩
            case measure => simp [intOf]
    · have hk4 : k = 4 := by omega
      subst hk4
      have HB : Hid (b = true) := by
        rw [← hb]
        have h := HA.out
        simp at h
        show (isNum c && isNum s && isNum m && isNum x) = true
        simp [h]
      go_wp2
      go_ret
      exact ⟨by rw [HB.out]; rfl, fin _ _⟩

set_option maxHeartbeats 1000000 in
set_option maxRecDepth 100000 in
theorem same_any (v v2 : Value) (l l2 : List Nd) (w : World) (h1 : Nodes w w.heap.size v l) (h2 : Nodes w w.heap.size v2 l2) (he : l = l2) :
    Calls Try.prog 11 #[v, v2] w fun e w' => e = .returned (.bool true) ∧ Below w.heap.size w w' := by
  subst he
  obtain ⟨ao, cap, rfl, hmax, hc1⟩ := h1.ex
  obtain ⟨ao2, cap2, rfl, _, hc2⟩ := h2.ex
  clear h1 h2
  go_enter Try.func11, Try.ntmps11
  go_wp2
  go_loopw [5] (fun i wr => ∃ k : Nat, k ≤ l.length ∧ i = .int .i64 k ∧ Below w.heap.size w wr) (fun i _ => l.length - (intOf i).toNat)
  case atStart => exact ⟨0, Nat.zero_le _, rfl, Below.refl _ _⟩
  case round =>
    obtain ⟨k, hk, rfl, hb⟩ := hrel
    by_cases hlt : k < l.length
    · obtain ⟨b, off, rfl, hbB, hcs⟩ := hc1 k hlt
      obtain ⟨b', off', rfl, hbB', hcs'⟩ := hc2 k hlt
      obtain ⟨d, hd⟩ : ∃ d, d = l[k] := ⟨_, rfl⟩
      rw [← hd] at hcs hcs'
      obtain ⟨k0, k1, k2, k3, k4, k5⟩ := six hb hbB hcs
      obtain ⟨j0, j1, j2, j3, j4, j5⟩ := six hb hbB' hcs'
      have heq := (eqNd d d).2 rfl
      clear hd hcs hcs' hc1 hc2
      go_wp2
      go_quiet (fail)
      go_wp2
      go_roundw
      case rel => exact ⟨k + 1, by omega, by go_num, hb.trans ((below_drewN wr nq).mono hb.size)⟩
      case measure => simp [intOf]; omega
    · go_wp2
      go_ret
      exact ⟨rfl, hb⟩

theorem nodes_lit (w : World) : Nodes (w.alloc (.cells #[.int .i64 1, .int .i64 300, .int .i64 0, .int .i64 300, .int .u8 7, .int .u8 8] 33)) (w.heap.size + 1) (.slice (some ⟨w.heap.size, 0, none⟩) 1 1) [⟨1, 300, 0, 300, 7, 8⟩] := by
  refine ⟨_, 1, rfl, by simp, fun i hi => ⟨w.heap.size, 0, rfl, by omega, fun j hj => ?_⟩⟩
  have hi0 : i = 0 := by simp at hi; exact hi
  subst hi0
  rw [cell_of_row _ _ _ _ _ _ (heap_alloc_new w _)]
  match j, hj with
  | 0, _ => rfl
  | 1, _ => rfl
  | 2, _ => rfl
  | 3, _ => rfl
  | 4, _ => rfl
  | 5, _ => rfl

set_option maxHeartbeats 1000000 in
set_option maxRecDepth 100000 in
theorem knows_any (w : World) : Calls Try.prog 7 #[] w fun e w' => e = .returned (.bool true) ∧ Below w.heap.size w w' := by
  have HK := Write_any _ _ _ ((nodes_lit w).mono (by simp : w.heap.size + 1 ≤ (w.alloc (.cells #[.int .i64 1, .int .i64 300, .int .i64 0, .int .i64 300, .int .u8 7, .int .u8 8] 33)).heap.size))
  have h1 : writeB [⟨1, 300, 0, 300, 7, 8⟩] = [1, 1, 172, 2, 0, 172, 2, 7, 8] := by decide
  have h2 : writeE [⟨1, 300, 0, 300, 7, 8⟩] = 0 := by decide
  rw [h1, h2] at HK
  clear h1 h2
  go_enter Try.func7, Try.ntmps7
  go_wp2_with fail
  refine HK.mono ?_
  rintro e w1 ⟨rfl, hb⟩
  have hB : Below w.heap.size w w1 := ((Below.refl _ _).alloc (Nat.le_refl _) _).trans (hb.mono (by simp))
  clear HK hb
  go_wp2
  go_ret
  exact ⟨rfl, hB⟩

end Go.Proofs.Ytlggbcceoejkkaa
