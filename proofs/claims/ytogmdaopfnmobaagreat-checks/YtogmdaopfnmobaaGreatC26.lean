/- What the program's trees do: logNode, keyNode. -/
import Derived.Test.YtogmdaopfnmobaaGreatC22
import Derived.Test.YtogmdaopfnmobaaGreatC25
namespace Go.Proofs.YtogmdaopfnmobaaGreat
open Go.RowKit
theorem conv_const (w : World) (b : Int) : (convert 159 159 (.slice (some ⟨w.heap.size, 0, none⟩) 1 1)).run Tryz.prog (w.alloc (.cells #[.int .u8 b] 5)) = .ok (.slice (some ⟨w.heap.size, 0, none⟩) 1 1) (w.alloc (.cells #[.int .u8 b] 5 (1, 2))) :=
  Lib.run_convert_bytes_const (P := Tryz.prog) w 159 5 #[.int .u8 b] 1 1 Tryz.underlying159 Tryz.underlying5
theorem full_const (w : World) (b : UInt8) (n : Nat) (hn : n = w.heap.size) : Full (w.alloc (.cells #[.int .u8 b.toNat] 5 (1, 2))) (.slice (some ⟨n, 0, none⟩) 1 1) [B b] := by
  subst hn
  exact ⟨w.heap.size, (1, 2), rfl, heap_alloc_new w _⟩
end Go.Proofs.YtogmdaopfnmobaaGreat

/- What the program's trees do: aboveText. -/
namespace Go.Proofs.YtogmdaopfnmobaaGreat
open Go.RowKit
attribute [local go_sem ↓] run_eql_node run_neq_node
set_option maxHeartbeats 2000000 in
set_option maxRecDepth 100000 in
theorem aboveText_E (w : World) : Calls Tryz.prog 122 #[ndV .E, ndV .E] w fun e w' => e = .returned (.string ⟨#[69]⟩) ∧ Below w.heap.size w w' := by
  rw [ndV_E]
  have hq : eqN 0 0 0 0 1 77 0 0 0 0 1 77 = true := rfl
  go_enter Tryz.func122, Tryz.ntmps122
  go_wp2
  obtain ⟨W, hW⟩ : ∃ W, W = (w.alloc (.cells #[.int .i64 0, .int .i64 0, .int .i64 0, .int .i64 0, .int .u8 1, .int .u8 77] 51)).alloc (.cells #[.int .i64 0, .int .i64 0, .int .i64 0, .int .i64 0, .int .u8 1, .int .u8 77] 51) := ⟨_, rfl⟩
  have hWz : W.heap.size = w.heap.size + 2 := by rw [hW]; simp
  have HWB : Hid (Below w.heap.size w W) := hid (by rw [hW]; exact ((Below.refl _ _).alloc (Nat.le_refl _) _).alloc (by simp) _)
  have hx6 : Six W w.heap.size (.int .i64 0) (.int .i64 0) (.int .i64 0) (.int .i64 0) (.int .u8 1) (.int .u8 77) := by rw [hW]; exact (Six.at w w.heap.size rfl _ _ _ _ _ _).alloc _
  have hy6 : Six W (w.heap.size + 1) (.int .i64 0) (.int .i64 0) (.int .i64 0) (.int .i64 0) (.int .u8 1) (.int .u8 77) := by rw [hW]; exact Six.at _ (w.heap.size + 1) (by simp) _ _ _ _ _ _
  have HCS : Hid (∀ w', Below W.heap.size W w' → (w'.cell? ⟨w.heap.size, 0, none⟩ = some (.int .i64 0) ∧ w'.cell? ⟨w.heap.size, 1, none⟩ = some (.int .i64 0) ∧ w'.cell? ⟨w.heap.size, 2, none⟩ = some (.int .i64 0) ∧ w'.cell? ⟨w.heap.size, 3, none⟩ = some (.int .i64 0) ∧ w'.cell? ⟨w.heap.size, 4, none⟩ = some (.int .u8 1) ∧ w'.cell? ⟨w.heap.size, 5, none⟩ = some (.int .u8 77)) ∧ w'.cell? ⟨w.heap.size + 1, 0, none⟩ = some (.int .i64 0) ∧ w'.cell? ⟨w.heap.size + 1, 1, none⟩ = some (.int .i64 0) ∧ w'.cell? ⟨w.heap.size + 1, 2, none⟩ = some (.int .i64 0) ∧ w'.cell? ⟨w.heap.size + 1, 3, none⟩ = some (.int .i64 0) ∧ w'.cell? ⟨w.heap.size + 1, 4, none⟩ = some (.int .u8 1) ∧ w'.cell? ⟨w.heap.size + 1, 5, none⟩ = some (.int .u8 77)) := hid fun w' hb => ⟨(hx6.below hb (by omega)).cells, (hy6.below hb (by omega)).cells⟩
  have HX6 : Hid (Six W w.heap.size (.int .i64 0) (.int .i64 0) (.int .i64 0) (.int .i64 0) (.int .u8 1) (.int .u8 77)) := hx6
  have HY6 : Hid (Six W (w.heap.size + 1) (.int .i64 0) (.int .i64 0) (.int .i64 0) (.int .i64 0) (.int .u8 1) (.int .u8 77)) := hy6
  rw [← hW]
  clear hW hx6 hy6
  go_region_held3 (fun w' => (w'.cell? ⟨w.heap.size, 0, none⟩ = some (.int .i64 0) ∧ w'.cell? ⟨w.heap.size, 1, none⟩ = some (.int .i64 0) ∧ w'.cell? ⟨w.heap.size, 2, none⟩ = some (.int .i64 0) ∧ w'.cell? ⟨w.heap.size, 3, none⟩ = some (.int .i64 0) ∧ w'.cell? ⟨w.heap.size, 4, none⟩ = some (.int .u8 1) ∧ w'.cell? ⟨w.heap.size, 5, none⟩ = some (.int .u8 77)) ∧ w'.cell? ⟨w.heap.size + 1, 0, none⟩ = some (.int .i64 0) ∧ w'.cell? ⟨w.heap.size + 1, 1, none⟩ = some (.int .i64 0) ∧ w'.cell? ⟨w.heap.size + 1, 2, none⟩ = some (.int .i64 0) ∧ w'.cell? ⟨w.heap.size + 1, 3, none⟩ = some (.int .i64 0) ∧ w'.cell? ⟨w.heap.size + 1, 4, none⟩ = some (.int .u8 1) ∧ w'.cell? ⟨w.heap.size + 1, 5, none⟩ = some (.int .u8 77))
    (first | exact HCS.out _ (by (repeat (first | (with_reducible exact hB1) | (with_reducible exact Below.refl _ _) | (with_reducible apply Below.drew)))) | go_keep)
    (first | (go_at_call 113; refine (empty_any _).mono ?_; rintro e w1 ⟨rfl, hb1⟩; have hB1 : Below W.heap.size W w1 := Below.trans (by (repeat (first | (with_reducible exact hB1) | (with_reducible exact Below.refl _ _) | (with_reducible apply Below.drew)))) (hb1.mono (by first | exact hB1.size | exact Nat.le_refl _)); clear hb1))
  go_wp2
  go_ret
  exact ⟨rfl, HWB.out.trans (hB1.mono (by omega))⟩
theorem appendNode_fullN (v : Value) (xs : List Value) (d : Nd) (w : World) (hF : Full w v xs) (hd : d.mid) (hsz : xs.length ≤ 800000) : Calls Tryz.prog 116 #[v, ndV d] w (fullPost w xs d.bytes) := by
  cases d with
  | mk c s m x h g =>
    obtain ⟨a1, a2, a3, a4⟩ := hd
    simp only at a1 a2 a3 a4
    obtain ⟨c, rfl⟩ := Int.eq_ofNat_of_zero_le a1.1
    obtain ⟨s, rfl⟩ := Int.eq_ofNat_of_zero_le a2.1
    obtain ⟨m, rfl⟩ := Int.eq_ofNat_of_zero_le a3.1
    obtain ⟨x, rfl⟩ := Int.eq_ofNat_of_zero_le a4.1
    exact appendNode_full v xs c s m x h g w hF (by omega) (by omega) (by omega) (by omega) hsz
theorem appendNode_ownN (base : Nat) (v : Value) (n0 : Nat) (xs : List Value) (d : Nd) (w : World) (ho : w.ownsRow base 5 1 v n0 xs) (hd : d.mid) (hsz : n0 ≤ 800000) (hb : base ≤ w.heap.size) : Calls Tryz.prog 116 #[v, ndV d] w fun e w' => ∃ v', e = .returned v' ∧ w'.ownsRow base 5 1 v' (n0 + d.bytes.length) (xs ++ d.bytes.map B) ∧ Grew w v w' v' := by
  cases d with
  | mk c s m x h g =>
    obtain ⟨a1, a2, a3, a4⟩ := hd
    simp only at a1 a2 a3 a4
    obtain ⟨c, rfl⟩ := Int.eq_ofNat_of_zero_le a1.1
    obtain ⟨s, rfl⟩ := Int.eq_ofNat_of_zero_le a2.1
    obtain ⟨m, rfl⟩ := Int.eq_ofNat_of_zero_le a3.1
    obtain ⟨x, rfl⟩ := Int.eq_ofNat_of_zero_le a4.1
    exact appendNode_any base v n0 xs c s m x h g w ho (by omega) (by omega) (by omega) (by omega) (by omega) hb
end Go.Proofs.YtogmdaopfnmobaaGreat

