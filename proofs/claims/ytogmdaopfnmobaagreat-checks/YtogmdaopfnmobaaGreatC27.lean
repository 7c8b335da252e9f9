/- What the program's trees do: aboveText, where the first node is not empty. -/
import Derived.Test.YtogmdaopfnmobaaGreatC26
namespace Go.Proofs.YtogmdaopfnmobaaGreat
open Go.RowKit
attribute [local go_sem ↓] run_eql_node run_neq_node
set_option maxHeartbeats 40000000 in
set_option maxRecDepth 100000 in
theorem aboveText_N1 (x y : Nd) (w : World) (hx : x.mid) (hy : y.mid) (ex : eqN x.c x.s x.m x.x x.h.toNat x.g.toNat 0 0 0 0 1 77 = false) :
    Calls Tryz.prog 122 #[ndV x, ndV y] w fun e w' => e = .returned (.string ⟨(73 :: (x.bytes ++ y.bytes)).toArray⟩) ∧ Below w.heap.size w w' := by
  have lx := x.bytes_length
  have ly := y.bytes_length
  have HA1 : ∀ w' n, Hid (Full w' (.slice (some ⟨n, 0, none⟩) 1 1) [B 73] → Calls Tryz.prog 116 #[.slice (some ⟨n, 0, none⟩) 1 1, ndV x] w' (fullPost w' [B 73] x.bytes)) := fun w' n => hid fun h => appendNode_fullN _ _ x w' h hx (by simp)
  have HA2 : ∀ w' v base n0 xs, Hid (w'.ownsRow base 5 1 v n0 xs → n0 ≤ 800000 → base ≤ w'.heap.size → Calls Tryz.prog 116 #[v, ndV y] w' _) := fun w' v base n0 xs => hid fun h h1 h2 => appendNode_ownN base v n0 xs y w' h hy h1 h2
  unfold ndV at HA1 HA2 ⊢
  clear hx hy
  go_enter Tryz.func122, Tryz.ntmps122
  go_wp2
  obtain ⟨W, hW⟩ : ∃ W, W = (w.alloc (.cells #[.int .i64 x.c, .int .i64 x.s, .int .i64 x.m, .int .i64 x.x, .int .u8 (x.h.toNat : Int), .int .u8 (x.g.toNat : Int)] 51)).alloc (.cells #[.int .i64 y.c, .int .i64 y.s, .int .i64 y.m, .int .i64 y.x, .int .u8 (y.h.toNat : Int), .int .u8 (y.g.toNat : Int)] 51) := ⟨_, rfl⟩
  have hWz : W.heap.size = w.heap.size + 2 := by rw [hW]; simp
  have HWB : Hid (Below w.heap.size w W) := hid (by rw [hW]; exact ((Below.refl _ _).alloc (Nat.le_refl _) _).alloc (by simp) _)
  have hx6 : Six W w.heap.size (.int .i64 x.c) (.int .i64 x.s) (.int .i64 x.m) (.int .i64 x.x) (.int .u8 (x.h.toNat : Int)) (.int .u8 (x.g.toNat : Int)) := by rw [hW]; exact (Six.at w w.heap.size rfl _ _ _ _ _ _).alloc _
  have hy6 : Six W (w.heap.size + 1) (.int .i64 y.c) (.int .i64 y.s) (.int .i64 y.m) (.int .i64 y.x) (.int .u8 (y.h.toNat : Int)) (.int .u8 (y.g.toNat : Int)) := by rw [hW]; exact Six.at _ (w.heap.size + 1) (by simp) _ _ _ _ _ _
  have HCS : Hid (∀ w', Below W.heap.size W w' → (w'.cell? ⟨w.heap.size, 0, none⟩ = some (.int .i64 x.c) ∧ w'.cell? ⟨w.heap.size, 1, none⟩ = some (.int .i64 x.s) ∧ w'.cell? ⟨w.heap.size, 2, none⟩ = some (.int .i64 x.m) ∧ w'.cell? ⟨w.heap.size, 3, none⟩ = some (.int .i64 x.x) ∧ w'.cell? ⟨w.heap.size, 4, none⟩ = some (.int .u8 (x.h.toNat : Int)) ∧ w'.cell? ⟨w.heap.size, 5, none⟩ = some (.int .u8 (x.g.toNat : Int))) ∧ w'.cell? ⟨w.heap.size + 1, 0, none⟩ = some (.int .i64 y.c) ∧ w'.cell? ⟨w.heap.size + 1, 1, none⟩ = some (.int .i64 y.s) ∧ w'.cell? ⟨w.heap.size + 1, 2, none⟩ = some (.int .i64 y.m) ∧ w'.cell? ⟨w.heap.size + 1, 3, none⟩ = some (.int .i64 y.x) ∧ w'.cell? ⟨w.heap.size + 1, 4, none⟩ = some (.int .u8 (y.h.toNat : Int)) ∧ w'.cell? ⟨w.heap.size + 1, 5, none⟩ = some (.int .u8 (y.g.toNat : Int))) := hid fun w' hb => ⟨(hx6.below hb (by omega)).cells, (hy6.below hb (by omega)).cells⟩
  have HX6 : Hid (Six W w.heap.size (.int .i64 x.c) (.int .i64 x.s) (.int .i64 x.m) (.int .i64 x.x) (.int .u8 (x.h.toNat : Int)) (.int .u8 (x.g.toNat : Int))) := hx6
  have HY6 : Hid (Six W (w.heap.size + 1) (.int .i64 y.c) (.int .i64 y.s) (.int .i64 y.m) (.int .i64 y.x) (.int .u8 (y.h.toNat : Int)) (.int .u8 (y.g.toNat : Int))) := hy6
  rw [← hW]
  clear hW hx6 hy6
  obtain ⟨⟨x0, x1, x2, x3, x4, x5⟩, y0, y1, y2, y3, y4, y5⟩ := HCS.out W (Below.refl _ _)
  go_region_with (go_at_call 113; refine (empty_any _).mono ?_; rintro e w1 ⟨rfl, hb1⟩; have hc1 := oldc hb1; have hB1 : Below W.heap.size W w1 := Below.trans (by (repeat (first | (with_reducible exact Below.refl _ _) | (with_reducible apply Below.drew)))) (hb1.mono (Nat.le_refl _)))
  all_goals
    have hcc : (convert 159 159 (.slice (some ⟨w1.heap.size, 0, none⟩) 1 1)).run Tryz.prog (w1.alloc (.cells #[.int .u8 73] 5)).drew = .ok (.slice (some ⟨w1.heap.size, 0, none⟩) 1 1) (w1.alloc (.cells #[.int .u8 73] 5 (1, 2))).drew := conv_const w1.drew 73
    have l1 : w.heap.size + 2 ≤ w1.heap.size := by have := hB1.size; omega
    clear x0 x1 x2 x3 x4 x5 y0 y1 y2 y3 y4 y5 hc1 hb1
    obtain ⟨⟨x0, x1, x2, x3, x4, x5⟩, y0, y1, y2, y3, y4, y5⟩ := HCS.out w1 hB1
    have z0 : w.heap.size < w1.heap.size := by omega
    have z1 : w.heap.size + 1 < w1.heap.size := by omega
    go_wp2
    go_region_with (first | (go_at_call 116; refine ((HA1 _ _).out (full_const w1.drew 73 _ rfl)).mono ?_; clear HA1; rintro e w2 ⟨v1, rfl, hown1, hb2⟩; have hB2 : Below W.heap.size W w2 := Below.trans (hB1.drew.alloc hB1.size _) (hb2.mono (by (simp; (have := hB1.size); (try simp at this); omega))); have hk2 := HCS.out w2 hB2) | (go_at_call 116; refine ((HA2 _ _ _ _ _).out hown1 (by simp; omega) ?_).mono ?_; (have := hb2.size; omega); clear HA2; rintro e w3 ⟨v3, rfl, hown3, hg3⟩; have hB3 : Below W.heap.size W w3 := hB2.grown hg3.grown hB2.size (fun k hk => (by (have := (hown1.lt k hk).1); (simp at this); (have := hB1.size); omega)); have hst := run_string_own w3 _ v3 (73 :: (x.bytes ++ y.bytes)) (own_cast hown3 (by (simp; omega)) (by simp))))
    all_goals go_wp2
    all_goals go_ret
    all_goals exact ⟨rfl, HWB.out.trans (hB3.mono (by omega))⟩
end Go.Proofs.YtogmdaopfnmobaaGreat

