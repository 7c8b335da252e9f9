/- What the program's trees do: above. -/
import Derived.Test.YtogmdaopfnmobaaGreatA30
namespace Go.Proofs.YtogmdaopfnmobaaGreat
open Go.RowKit
set_option maxHeartbeats 4000000 in
set_option maxRecDepth 100000 in
theorem above_any (x y : Nd) (w : World) (hx : x.mid) (hy : y.mid) :
    Calls Tryz.prog 121 #[ndV x, ndV y] w fun e w' => e = .returned (ndV (ab x y)) ∧ Below w.heap.size w w' := by
  rw [ab_eq, ndV_mk]
  have HT : ∀ w', Hid (Calls Tryz.prog 108 #[.agg #[.int .i64 x.c, .int .i64 x.s, .int .i64 x.m, .int .i64 x.x], .agg #[.int .i64 y.c, .int .i64 y.s, .int .i64 y.m, .int .i64 y.x]] w' fun e w2 => e = .returned (foV (tog x.fold y.fold)) ∧ Below w'.heap.size w' w2) := fun w' => hid (together_any _ _ _ _ _ _ _ _ w' ⟨hx.1.1, by have := hx.1.2; omega⟩ ⟨hx.2.1.1, by have := hx.2.1.2; omega⟩ ⟨hy.1.1, by have := hy.1.2; omega⟩ ⟨hy.2.1.1, by have := hy.2.1.2; omega⟩)
  have HAT : ∀ w', Hid (Calls Tryz.prog 122 #[ndV x, ndV y] w' fun e w2 => e = .returned (.string ⟨(abText x y).toArray⟩) ∧ Below w'.heap.size w' w2) := fun w' => hid (aboveText_any x y w' hx hy)
  have hT : (⟨(abText x y).toArray⟩ : ByteArray).size ≤ maxLen := by rw [size_list]; have := abText_length x y; simp; unfold maxLen; omega
  have HOf : ∀ w', Hid (Calls Tryz.prog 71 #[.string ⟨(abText x y).toArray⟩] w' fun e w2 => e = .returned (.agg #[.int .u8 ((dg (abText x y) : Int) / 256), .int .u8 ((dg (abText x y) : Int) % 256)]) ∧ Below w'.heap.size w' w2) := fun w' => hid (by
    have := of_any ⟨(abText x y).toArray⟩ w' hT
    simpa using this)
  clear hx hy hT
  generalize abText x y = T at HAT HOf ⊢
  generalize tog x.fold y.fold = F at HT ⊢
  simp only [foV] at HT
  simp only [ndV] at HAT ⊢
  generalize (⟨T.toArray⟩ : ByteArray) = Ts at HAT HOf
  go_enter Tryz.func121, Tryz.ntmps121
  go_wp2
  obtain ⟨W, hW⟩ : ∃ W, W = ((w.alloc (.cells #[.int .i64 x.c, .int .i64 x.s, .int .i64 x.m, .int .i64 x.x, .int .u8 (x.h.toNat : Int), .int .u8 (x.g.toNat : Int)] 51)).alloc (.cells #[.int .i64 y.c, .int .i64 y.s, .int .i64 y.m, .int .i64 y.x, .int .u8 (y.h.toNat : Int), .int .u8 (y.g.toNat : Int)] 51)).alloc (.cells #[.int .i64 0, .int .i64 0, .int .i64 0, .int .i64 0, .int .u8 0, .int .u8 0] 51) := ⟨_, rfl⟩
  have hWz : W.heap.size = w.heap.size + 3 := by rw [hW]; simp
  have HWB : Hid (Below w.heap.size w W) := hid (by rw [hW]; exact (((Below.refl _ _).alloc (Nat.le_refl _) _).alloc (by simp) _).alloc (by simp; omega) _)
  have hx6 : Six W w.heap.size (.int .i64 x.c) (.int .i64 x.s) (.int .i64 x.m) (.int .i64 x.x) (.int .u8 (x.h.toNat : Int)) (.int .u8 (x.g.toNat : Int)) := by rw [hW]; exact ((Six.at w w.heap.size rfl _ _ _ _ _ _).alloc _).alloc _
  have hy6 : Six W (w.heap.size + 1) (.int .i64 y.c) (.int .i64 y.s) (.int .i64 y.m) (.int .i64 y.x) (.int .u8 (y.h.toNat : Int)) (.int .u8 (y.g.toNat : Int)) := by rw [hW]; exact (Six.at _ (w.heap.size + 1) (by simp) _ _ _ _ _ _).alloc _
  have h6 : Six W (w.heap.size + 1 + 1) (.int .i64 0) (.int .i64 0) (.int .i64 0) (.int .i64 0) (.int .u8 0) (.int .u8 0) := by rw [hW]; exact Six.at _ (w.heap.size + 1 + 1) (by simp) _ _ _ _ _ _
  have H6 : Hid (Six W (w.heap.size + 1 + 1) (.int .i64 0) (.int .i64 0) (.int .i64 0) (.int .i64 0) (.int .u8 0) (.int .u8 0)) := h6
  have l0 : w.heap.size + 1 + 1 < W.heap.size := by omega
  have HCS : Hid (∀ w', Below (w.heap.size + 1 + 1) W w' → (w'.cell? ⟨w.heap.size, 0, none⟩ = some (.int .i64 x.c) ∧ w'.cell? ⟨w.heap.size, 1, none⟩ = some (.int .i64 x.s) ∧ w'.cell? ⟨w.heap.size, 2, none⟩ = some (.int .i64 x.m) ∧ w'.cell? ⟨w.heap.size, 3, none⟩ = some (.int .i64 x.x) ∧ w'.cell? ⟨w.heap.size, 4, none⟩ = some (.int .u8 (x.h.toNat : Int)) ∧ w'.cell? ⟨w.heap.size, 5, none⟩ = some (.int .u8 (x.g.toNat : Int))) ∧ w'.cell? ⟨w.heap.size + 1, 0, none⟩ = some (.int .i64 y.c) ∧ w'.cell? ⟨w.heap.size + 1, 1, none⟩ = some (.int .i64 y.s) ∧ w'.cell? ⟨w.heap.size + 1, 2, none⟩ = some (.int .i64 y.m) ∧ w'.cell? ⟨w.heap.size + 1, 3, none⟩ = some (.int .i64 y.x) ∧ w'.cell? ⟨w.heap.size + 1, 4, none⟩ = some (.int .u8 (y.h.toNat : Int)) ∧ w'.cell? ⟨w.heap.size + 1, 5, none⟩ = some (.int .u8 (y.g.toNat : Int))) := hid fun w' hb => ⟨(hx6.below hb (by omega)).cells, (hy6.below hb (by omega)).cells⟩
  have HRS : Hid (∀ w', Below W.heap.size W w' → (w'.cell? ⟨w.heap.size + 1 + 1, 0, none⟩ = some (.int .i64 0) ∧ w'.cell? ⟨w.heap.size + 1 + 1, 1, none⟩ = some (.int .i64 0) ∧ w'.cell? ⟨w.heap.size + 1 + 1, 2, none⟩ = some (.int .i64 0) ∧ w'.cell? ⟨w.heap.size + 1 + 1, 3, none⟩ = some (.int .i64 0) ∧ w'.cell? ⟨w.heap.size + 1 + 1, 4, none⟩ = some (.int .u8 0) ∧ w'.cell? ⟨w.heap.size + 1 + 1, 5, none⟩ = some (.int .u8 0)) ∧ (∀ o, w'.frozen? ⟨w.heap.size + 1 + 1, o, none⟩ = false)) := hid fun w' hb => ⟨(h6.below hb l0).cells, fun o => by simp [World.frozen?, (h6.below hb l0).eq]⟩
  rw [← hW]
  clear hW hx6 hy6 h6
  go_region_held3 (fun w' => (w'.cell? ⟨w.heap.size, 0, none⟩ = some (.int .i64 x.c) ∧ w'.cell? ⟨w.heap.size, 1, none⟩ = some (.int .i64 x.s) ∧ w'.cell? ⟨w.heap.size, 2, none⟩ = some (.int .i64 x.m) ∧ w'.cell? ⟨w.heap.size, 3, none⟩ = some (.int .i64 x.x) ∧ w'.cell? ⟨w.heap.size, 4, none⟩ = some (.int .u8 (x.h.toNat : Int)) ∧ w'.cell? ⟨w.heap.size, 5, none⟩ = some (.int .u8 (x.g.toNat : Int))) ∧ w'.cell? ⟨w.heap.size + 1, 0, none⟩ = some (.int .i64 y.c) ∧ w'.cell? ⟨w.heap.size + 1, 1, none⟩ = some (.int .i64 y.s) ∧ w'.cell? ⟨w.heap.size + 1, 2, none⟩ = some (.int .i64 y.m) ∧ w'.cell? ⟨w.heap.size + 1, 3, none⟩ = some (.int .i64 y.x) ∧ w'.cell? ⟨w.heap.size + 1, 4, none⟩ = some (.int .u8 (y.h.toNat : Int)) ∧ w'.cell? ⟨w.heap.size + 1, 5, none⟩ = some (.int .u8 (y.g.toNat : Int)))
    (first | exact HCS.out _ (by (repeat (first | (with_reducible exact hBt.mono (Nat.le_of_lt l0)) | (with_reducible exact hBa.mono (Nat.le_of_lt l0)) | (with_reducible exact hBo.mono (Nat.le_of_lt l0)) | (with_reducible exact Below.refl _ _) | (with_reducible apply Below.drew) | (with_reducible refine Below.setCell ?_ (by simp) _)))) | go_keep)
    (first
      | (go_at_call 108; refine (HT _).out.mono ?_; rintro e wt ⟨rfl, hbt⟩; have hBt : Below W.heap.size W wt := Below.trans (by (repeat (first | (with_reducible exact hBa) | (with_reducible exact hBo) | (with_reducible exact Below.refl _ _) | (with_reducible apply Below.drew)))) (hbt.mono (by first | exact hBo.size | exact hBa.size | exact Nat.le_refl _)); have hct := HRS.out wt hBt; clear hbt)
      | (go_at_call 122; refine (HAT _).out.mono ?_; rintro e wa ⟨rfl, hba⟩; have hBa : Below W.heap.size W wa := Below.trans (by (repeat (first | (with_reducible exact hBt) | (with_reducible exact Below.refl _ _) | (with_reducible apply Below.drew)))) (hba.mono (by first | exact hBt.size | exact Nat.le_refl _)); clear hba)
      | (go_at_call 71; refine (HOf _).out.mono ?_; rintro e wo ⟨rfl, hbo⟩; have hBo : Below W.heap.size W wo := Below.trans (by (repeat (first | (with_reducible exact hBt) | (with_reducible exact hBa) | (with_reducible exact Below.refl _ _) | (with_reducible apply Below.drew)))) (hbo.mono (by first | exact hBt.size | exact hBa.size)); have hco := HRS.out wo hBo; clear hbo))
  all_goals go_wp2
  all_goals first
    | (refine ret_node1 Tryz.results121 ((H6.out.below hBo l0).set _ _ _ _ _ _) rfl ⟨rfl, ?_⟩; (repeat (refine Below.setCell ?_ (by simp <;> omega) _)); exact HWB.out.trans (hBo.mono (by omega)))
    | (refine ret_node1 Tryz.results121 ((H6.out.below hBt l0).set _ _ _ _ _ _) rfl ⟨rfl, ?_⟩; (repeat (refine Below.setCell ?_ (by simp <;> omega) _)); exact HWB.out.trans (hBt.mono (by omega)))
end Go.Proofs.YtogmdaopfnmobaaGreat

