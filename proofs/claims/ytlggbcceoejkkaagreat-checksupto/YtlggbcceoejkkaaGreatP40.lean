/- What the program's trees do: headText. -/
import Derived.Test.YtlggbcceoejkkaaGreatP31
namespace Go.Proofs.YtlggbcceoejkkaaGreat
open Go.RowKit

set_option maxHeartbeats 4000000 in
set_option maxRecDepth 100000 in
theorem headText_any (n : Nat) (d : Nd) (w : World) (hn : n ≤ 281474976710656) (hd : d.mid) :
    Calls Tryz.prog 97 #[.int .i64 n, ndV d] w fun e w' => e = .returned (.string ⟨(hdText n d).toArray⟩) ∧ Below w.heap.size w w' := by
  have ld := d.bytes_length
  have ln := (num_length n).1
  have HA1 : ∀ w' k, Hid (Full w' (.slice (some ⟨k, 0, none⟩) 1 1) [B 72] → Calls Tryz.prog 120 #[.slice (some ⟨k, 0, none⟩) 1 1, .int .i64 n] w' (fullPost w' [B 72] (num n))) := fun w' k => hid fun h => appendNumber_full _ _ n w' h hn (by simp)
  have HA2 : ∀ w' v base n0 xs, Hid (w'.ownsRow base 5 1 v n0 xs → n0 ≤ 800000 → base ≤ w'.heap.size → Calls Tryz.prog 115 #[v, ndV d] w' _) := fun w' v base n0 xs => hid fun h h1 h2 => appendNode_ownN base v n0 xs d w' h hd h1 h2
  unfold ndV at HA2 ⊢
  clear hn hd
  go_enter Tryz.func97, Tryz.ntmps97
  go_wp2
  obtain ⟨W, hW⟩ : ∃ W, W = w.alloc (.cells #[.int .i64 d.c, .int .i64 d.s, .int .i64 d.m, .int .i64 d.x, .int .u8 (d.h.toNat : Int), .int .u8 (d.g.toNat : Int)] 46) := ⟨_, rfl⟩
  have hWz : W.heap.size = w.heap.size + 1 := by rw [hW]; simp
  have HWB : Hid (Below w.heap.size w W) := hid (by rw [hW]; exact (Below.refl _ _).alloc (Nat.le_refl _) _)
  have hx6 : Six W w.heap.size (.int .i64 d.c) (.int .i64 d.s) (.int .i64 d.m) (.int .i64 d.x) (.int .u8 (d.h.toNat : Int)) (.int .u8 (d.g.toNat : Int)) := by rw [hW]; exact Six.at w w.heap.size rfl _ _ _ _ _ _
  have HCS : Hid (∀ w', Below W.heap.size W w' → (w'.cell? ⟨w.heap.size, 0, none⟩ = some (.int .i64 d.c) ∧ w'.cell? ⟨w.heap.size, 1, none⟩ = some (.int .i64 d.s) ∧ w'.cell? ⟨w.heap.size, 2, none⟩ = some (.int .i64 d.m) ∧ w'.cell? ⟨w.heap.size, 3, none⟩ = some (.int .i64 d.x) ∧ w'.cell? ⟨w.heap.size, 4, none⟩ = some (.int .u8 (d.h.toNat : Int)) ∧ w'.cell? ⟨w.heap.size, 5, none⟩ = some (.int .u8 (d.g.toNat : Int)))) := hid fun w' hb => (hx6.below hb (by omega)).cells
  have z0 : w.heap.size < W.heap.size := by omega
  rw [← hW]
  clear hW hx6 hWz
  obtain ⟨x0, x1, x2, x3, x4, x5⟩ := HCS.out W (Below.refl _ _)
  have hcc : (convert 153 153 (.slice (some ⟨W.heap.size, 0, none⟩) 1 1)).run Tryz.prog (W.alloc (.cells #[.int .u8 72] 5)).drew = .ok (.slice (some ⟨W.heap.size, 0, none⟩) 1 1) (W.alloc (.cells #[.int .u8 72] 5 (1, 2))).drew := conv_const W.drew 72
  go_region_with (first | (go_at_call 120; refine ((HA1 _ _).out (full_const W.drew 72 _ rfl)).mono ?_; clear HA1; rintro e w2 ⟨v1, rfl, hown1, hb2⟩; have hB2 : Below W.heap.size W w2 := Below.trans ((Below.refl _ _).drew.alloc (Nat.le_refl _) _) (hb2.mono (by (simp))); have hk2 := HCS.out w2 hB2) | (go_at_call 115; refine ((HA2 _ _ _ _ _).out hown1 (by simp; omega) ?_).mono ?_; (have := hb2.size; omega); clear HA2; rintro e w3 ⟨v3, rfl, hown3, hg3⟩; have hB3 : Below W.heap.size W w3 := hB2.grown hg3.grown hB2.size (fun k hk => (by (have := (hown1.lt k hk).1); (simp at this); omega)); have hst := run_string_own w3 _ v3 (hdText n d) (own_cast hown3 (by (simp [hdText]; omega)) (by simp [hdText]))))
  all_goals go_wp2
  all_goals go_ret
  all_goals exact ⟨rfl, HWB.out.trans (hB3.mono (by omega))⟩

end Go.Proofs.YtlggbcceoejkkaaGreat

