/- What the program's trees do: logNode, keyNode. -/
import Derived.Test.YtogmdaopfnmobaaGreatA23
import Derived.Test.YtogmdaopfnmobaaGreatA24
namespace Go.Proofs.YtogmdaopfnmobaaGreat
open Go.RowKit
theorem conv_const (w : World) (b : Int) : (convert 159 159 (.slice (some ⟨w.heap.size, 0, none⟩) 1 1)).run Tryz.prog (w.alloc (.cells #[.int .u8 b] 5)) = .ok (.slice (some ⟨w.heap.size, 0, none⟩) 1 1) (w.alloc (.cells #[.int .u8 b] 5 (1, 2))) :=
  Lib.run_convert_bytes_const (P := Tryz.prog) w 159 5 #[.int .u8 b] 1 1 Tryz.underlying159 Tryz.underlying5
theorem full_const (w : World) (b : UInt8) (n : Nat) (hn : n = w.heap.size) : Full (w.alloc (.cells #[.int .u8 b.toNat] 5 (1, 2))) (.slice (some ⟨n, 0, none⟩) 1 1) [B b] := by
  subst hn
  exact ⟨w.heap.size, (1, 2), rfl, heap_alloc_new w _⟩
set_option maxHeartbeats 2000000 in
set_option maxRecDepth 100000 in
theorem logNode_any (v : Nat) (w : World) (hv : v ≤ 1000000) : Calls Tryz.prog 70 #[.int .i64 v] w fun e w' => e = .returned (ndV (mkNd (.one v) (76 :: num v))) ∧ Below w.heap.size w w' := by
  rw [ndV_mk]
  have l1 := (num_length v).1
  have hcc := conv_const (w.alloc (.cells #[.int .i64 0, .int .i64 0, .int .i64 0, .int .i64 0, .int .u8 0, .int .u8 0] 51)) 76
  rw [World.size_alloc] at hcc
  go_enter Tryz.func70, Tryz.ntmps70
  go_wp2_with fail
  refine (appendNumber_full _ [B 76] v _ (full_const _ 76 _ (by simp)) (by omega) (by simp)).mono ?_
  rintro e w1 ⟨v1, rfl, hown1, hb1⟩
  obtain ⟨ao1, c1, rfl⟩ := own_shape hown1
  have B1 : Hid (Below w.heap.size w w1) := hid ((((Below.refl _ _).alloc (Nat.le_refl _) _).alloc (by simp) _).trans (hb1.mono (by simp; omega)))
  have h6 : Six w1 w.heap.size _ _ _ _ _ _ := ((Six.at w w.heap.size rfl (.int .i64 0) (.int .i64 0) (.int .i64 0) (.int .i64 0) (.int .u8 0) (.int .u8 0)).alloc _).below hb1 (by simp; omega)
  have H6 : Hid (Six w1 w.heap.size _ _ _ _ _ _) := h6
  have ho : w1.ownsRow (w.heap.size + 1 + 1) 5 1 (.slice ao1 (1 + (num v).length) c1) (76 :: num v).length ((76 :: num v).map B) := by
    have := hown1
    simp only [World.size_alloc] at this
    refine own_cast this ?_ ?_ <;> simp
    omega
  have HO : Hid (w1.ownsRow (w.heap.size + 1 + 1) 5 1 (.slice ao1 (1 + (num v).length) c1) (76 :: num v).length ((76 :: num v).map B)) := ho
  have l0 : w.heap.size < w1.heap.size := (Array.getElem?_eq_some_iff.1 h6.eq).1
  have hst : ∀ w', Kept w1 w' [w.heap.size] → (convert 159 9 (.slice ao1 (1 + (num v).length) c1)).run Tryz.prog w' = .ok (.string ⟨(76 :: num v).toArray⟩) w' := fun w' hk => run_string_own w' _ _ _ (own_keep HO.out fun k hk' => hk.block k (own_in HO.out k hk').2 (by have := (own_in HO.out k hk').1; simp; omega))
  have hT : (⟨(76 :: num v).toArray⟩ : ByteArray).size ≤ maxLen := by rw [size_list]; simp; unfold maxLen; omega
  have HOf : ∀ w', Hid (Calls Tryz.prog 71 #[.string ⟨(76 :: num v).toArray⟩] w' fun e w2 => e = .returned (.agg #[.int .u8 ((dg (76 :: num v) : Int) / 256), .int .u8 ((dg (76 :: num v) : Int) % 256)]) ∧ Below w'.heap.size w' w2) := fun w' => hid (by
    have := of_any ⟨(76 :: num v).toArray⟩ w' hT
    simpa using this)
  obtain ⟨T, hTe⟩ : ∃ T, T = 76 :: num v := ⟨_, rfl⟩
  rw [← hTe] at hst HO
  simp only [← hTe] at HOf
  have HTe : Hid _ := hTe
  clear hTe
  generalize (⟨T.toArray⟩ : ByteArray) = Ts at hst HOf
  have KS : ∀ w', Kept w1 w' [w.heap.size] → (convert 159 9 (.slice ao1 (1 + (num v).length) c1)).run Tryz.prog w' = .ok (.string Ts) w' := hst
  have CS : ∀ w', Below w1.heap.size w1 w' → (w'.cell? ⟨w.heap.size, 0, none⟩ = some (.int .i64 0) ∧ w'.cell? ⟨w.heap.size, 1, none⟩ = some (.int .i64 0) ∧ w'.cell? ⟨w.heap.size, 2, none⟩ = some (.int .i64 0) ∧ w'.cell? ⟨w.heap.size, 3, none⟩ = some (.int .i64 0) ∧ w'.cell? ⟨w.heap.size, 4, none⟩ = some (.int .u8 0) ∧ w'.cell? ⟨w.heap.size, 5, none⟩ = some (.int .u8 0)) ∧ (∀ o, w'.frozen? ⟨w.heap.size, o, none⟩ = false) := fun w' hb' =>
    have h6' := H6.out.below hb' l0
    ⟨h6'.cells, fun o => by simp [World.frozen?, h6'.eq]⟩
  have HCS : Hid _ := CS
  clear CS
  clear hown1 hb1 h6 ho hcc hst hT
  go_wp2
  go_region_held3 (fun w' => (convert 159 9 (.slice ao1 (1 + (num v).length) c1)).run Tryz.prog w' = .ok (.string Ts) w')
    (first | exact KS _ (by (repeat (first | (with_reducible exact Kept.of_below hBo _) | (with_reducible exact Kept.of_below hBf _) | (with_reducible exact Kept.refl _ _) | (with_reducible apply Kept.drew) | (with_reducible refine Kept.setCell ?_ (.inl (by simp)) _)))) | go_keep)
    (first | (go_at_call 115; refine (one_any _ _).mono ?_; rintro e w2 ⟨rfl, hb2⟩; rw [foV]; have hBo : Below w1.heap.size w1 w2 := Below.trans (by (repeat (first | (with_reducible exact hBf) | (with_reducible exact Below.refl _ _) | (with_reducible apply Below.drew)))) (hb2.mono (by first | exact hBf.size | simp)); have hco := HCS.out w2 hBo; clear hb2) | (go_at_call 71; refine (HOf _).out.mono ?_; rintro e w3 ⟨rfl, hb3⟩; have hBf : Below w1.heap.size w1 w3 := Below.trans (by (repeat (first | (with_reducible exact hBo) | (with_reducible exact Below.refl _ _) | (with_reducible apply Below.drew)))) (hb3.mono (by first | exact hBo.size | simp)); have hcf := HCS.out w3 hBf; clear hb3))
  go_wp2
  have hR : Ending.returned (.agg #[.int .i64 (Fo.one v).c, .int .i64 (Fo.one v).s, .int .i64 (Fo.one v).m, .int .i64 (Fo.one v).x, .int .u8 ((dg T : Int) / 256), .int .u8 ((dg T : Int) % 256)]) = .returned (.agg #[.int .i64 (Fo.one v).c, .int .i64 (Fo.one v).s, .int .i64 (Fo.one v).m, .int .i64 (Fo.one v).x, .int .u8 ((dg (76 :: num v) : Int) / 256), .int .u8 ((dg (76 :: num v) : Int) % 256)]) := by rw [HTe.out]
  refine ret_node1 Tryz.results70 ((H6.out.below hBf l0).set _ _ _ _ _ _) rfl ⟨hR, ?_⟩
  repeat (refine Below.setCell ?_ (by simp) _)
  exact B1.out.trans (hBf.mono (by omega))
set_option maxHeartbeats 2000000 in
set_option maxRecDepth 100000 in
theorem keyNode_any (kk v : Nat) (w : World) (hk : kk ≤ 1000000) (hv : v ≤ 1000000) : Calls Tryz.prog 129 #[.int .i64 kk, .int .i64 v] w fun e w' => e = .returned (ndV (mkNd (.one v) (84 :: (num kk ++ num v)))) ∧ Below w.heap.size w w' := by
  rw [ndV_mk]
  have l1 := (num_length v).1
  have l2 := (num_length kk).1
  have hcc := conv_const (w.alloc (.cells #[.int .i64 0, .int .i64 0, .int .i64 0, .int .i64 0, .int .u8 0, .int .u8 0] 51)) 84
  rw [World.size_alloc] at hcc
  go_enter Tryz.func129, Tryz.ntmps129
  go_wp2_with fail
  refine (appendNumber_full _ [B 84] kk _ (full_const _ 84 _ (by simp)) (by omega) (by simp)).mono ?_
  rintro e w0 ⟨v0, rfl, hown0, hb0⟩
  have hown0' : w0.ownsRow (w.heap.size + 1 + 1) 5 1 v0 (1 + (num kk).length) ([B 84] ++ (num kk).map B) := by
    have := hown0
    simp only [World.size_alloc] at this
    exact this
  have z0 : w.heap.size + 1 + 1 ≤ w0.heap.size := by have := hb0.size; simp at this; omega
  have hB0 : Below w.heap.size w w0 := (((Below.refl _ _).alloc (Nat.le_refl _) _).alloc (by simp) _).trans (hb0.mono (by simp; omega))
  have h60 : Six w0 w.heap.size _ _ _ _ _ _ := ((Six.at w w.heap.size rfl (.int .i64 0) (.int .i64 0) (.int .i64 0) (.int .i64 0) (.int .u8 0) (.int .u8 0)).alloc _).below hb0 (by simp; omega)
  have HB0 : Hid (Below w.heap.size w w0) := hB0
  have H60 : Hid (Six w0 w.heap.size _ _ _ _ _ _) := h60
  clear hown0 hb0 hB0 h60
  go_wp2_with fail
  refine (appendNumber_any (w.heap.size + 1 + 1) _ _ _ v _ hown0' (by omega) (by omega) z0).mono ?_
  rintro e w1 ⟨v1, rfl, hown1, hg1⟩
  obtain ⟨ao1, c1, rfl⟩ := own_shape hown1
  have hne : some w.heap.size ≠ v0.ownBlock := fun c => by have := (hown0'.lt _ c.symm).1; omega
  have B1 : Hid (Below w.heap.size w w1) := hid (HB0.out.grown hg1.grown HB0.out.size (fun k hk => by have := (hown0'.lt k hk).1; omega))
  have h6 : Six w1 w.heap.size _ _ _ _ _ _ := (hg1.grown.block _ (by omega) hne).trans H60.out
  have H6 : Hid (Six w1 w.heap.size _ _ _ _ _ _) := h6
  have ho : w1.ownsRow (w.heap.size + 1 + 1) 5 1 (.slice ao1 (1 + (num kk).length + (num v).length) c1) (84 :: (num kk ++ num v)).length ((84 :: (num kk ++ num v)).map B) := by
    refine own_cast hown1 ?_ ?_ <;> simp
    omega
  have HO : Hid (w1.ownsRow (w.heap.size + 1 + 1) 5 1 (.slice ao1 (1 + (num kk).length + (num v).length) c1) (84 :: (num kk ++ num v)).length ((84 :: (num kk ++ num v)).map B)) := ho
  have l0 : w.heap.size < w1.heap.size := (Array.getElem?_eq_some_iff.1 h6.eq).1
  have hst : ∀ w', Kept w1 w' [w.heap.size] → (convert 159 9 (.slice ao1 (1 + (num kk).length + (num v).length) c1)).run Tryz.prog w' = .ok (.string ⟨(84 :: (num kk ++ num v)).toArray⟩) w' := fun w' hk => run_string_own w' _ _ _ (own_keep HO.out fun k hk' => hk.block k (own_in HO.out k hk').2 (by have := (own_in HO.out k hk').1; simp; omega))
  have hT : (⟨(84 :: (num kk ++ num v)).toArray⟩ : ByteArray).size ≤ maxLen := by rw [size_list]; simp; unfold maxLen; omega
  have HOf : ∀ w', Hid (Calls Tryz.prog 71 #[.string ⟨(84 :: (num kk ++ num v)).toArray⟩] w' fun e w2 => e = .returned (.agg #[.int .u8 ((dg (84 :: (num kk ++ num v)) : Int) / 256), .int .u8 ((dg (84 :: (num kk ++ num v)) : Int) % 256)]) ∧ Below w'.heap.size w' w2) := fun w' => hid (by
    have := of_any ⟨(84 :: (num kk ++ num v)).toArray⟩ w' hT
    simpa using this)
  obtain ⟨T, hTe⟩ : ∃ T, T = 84 :: (num kk ++ num v) := ⟨_, rfl⟩
  rw [← hTe] at hst HO
  simp only [← hTe] at HOf
  have HTe : Hid _ := hTe
  clear hTe
  generalize (⟨T.toArray⟩ : ByteArray) = Ts at hst HOf
  have KS : ∀ w', Kept w1 w' [w.heap.size] → (convert 159 9 (.slice ao1 (1 + (num kk).length + (num v).length) c1)).run Tryz.prog w' = .ok (.string Ts) w' := hst
  have CS : ∀ w', Below w1.heap.size w1 w' → (w'.cell? ⟨w.heap.size, 0, none⟩ = some (.int .i64 0) ∧ w'.cell? ⟨w.heap.size, 1, none⟩ = some (.int .i64 0) ∧ w'.cell? ⟨w.heap.size, 2, none⟩ = some (.int .i64 0) ∧ w'.cell? ⟨w.heap.size, 3, none⟩ = some (.int .i64 0) ∧ w'.cell? ⟨w.heap.size, 4, none⟩ = some (.int .u8 0) ∧ w'.cell? ⟨w.heap.size, 5, none⟩ = some (.int .u8 0)) ∧ (∀ o, w'.frozen? ⟨w.heap.size, o, none⟩ = false) := fun w' hb' =>
    have h6' := H6.out.below hb' l0
    ⟨h6'.cells, fun o => by simp [World.frozen?, h6'.eq]⟩
  have HCS : Hid _ := CS
  clear CS
  clear hown1 hg1 h6 ho hcc hst hT hown0' hne
  go_wp2
  go_region_held3 (fun w' => (convert 159 9 (.slice ao1 (1 + (num kk).length + (num v).length) c1)).run Tryz.prog w' = .ok (.string Ts) w')
    (first | exact KS _ (by (repeat (first | (with_reducible exact Kept.of_below hBo _) | (with_reducible exact Kept.of_below hBf _) | (with_reducible exact Kept.refl _ _) | (with_reducible apply Kept.drew) | (with_reducible refine Kept.setCell ?_ (.inl (by simp)) _)))) | go_keep)
    (first | (go_at_call 115; refine (one_any _ _).mono ?_; rintro e w2 ⟨rfl, hb2⟩; rw [foV]; have hBo : Below w1.heap.size w1 w2 := Below.trans (by (repeat (first | (with_reducible exact hBf) | (with_reducible exact Below.refl _ _) | (with_reducible apply Below.drew)))) (hb2.mono (by first | exact hBf.size | simp)); have hco := HCS.out w2 hBo; clear hb2) | (go_at_call 71; refine (HOf _).out.mono ?_; rintro e w3 ⟨rfl, hb3⟩; have hBf : Below w1.heap.size w1 w3 := Below.trans (by (repeat (first | (with_reducible exact hBo) | (with_reducible exact Below.refl _ _) | (with_reducible apply Below.drew)))) (hb3.mono (by first | exact hBo.size | simp)); have hcf := HCS.out w3 hBf; clear hb3))
  go_wp2
  have hR : Ending.returned (.agg #[.int .i64 (Fo.one v).c, .int .i64 (Fo.one v).s, .int .i64 (Fo.one v).m, .int .i64 (Fo.one v).x, .int .u8 ((dg T : Int) / 256), .int .u8 ((dg T : Int) % 256)]) = .returned (.agg #[.int .i64 (Fo.one v).c, .int .i64 (Fo.one v).s, .int .i64 (Fo.one v).m, .int .i64 (Fo.one v).x, .int .u8 ((dg (84 :: (num kk ++ num v)) : Int) / 256), .int .u8 ((dg (84 :: (num kk ++ num v)) : Int) % 256)]) := by rw [HTe.out]
  refine ret_node1 Tryz.results129 ((H6.out.below hBf l0).set _ _ _ _ _ _) rfl ⟨hR, ?_⟩
  repeat (refine Below.setCell ?_ (by simp) _)
  exact B1.out.trans (hBf.mono (by omega))
end Go.Proofs.YtogmdaopfnmobaaGreat

/- What the program's trees do: aboveText. -/
namespace Go.Proofs.YtogmdaopfnmobaaGreat
open Go.RowKit
attribute [local go_sem ↓] run_eql_node run_neq_node
set_option maxHeartbeats 2000000 in
set_option maxRecDepth 100000 in
theorem aboveText_E (w : World) : Calls Tryz.prog 122 #[ndV .E, ndV .E] w fun e w' => e = .returned (.string ⟨#[69]⟩) ∧ Below w.heap.size w w' := by
  rw [ndV_E]
  have hq : eqN 0 0 0 0 1 77 0 0 0 0 1 77 = true := rfl
  go_enter Tryz.func122, Tryz.ntmps122
  go_wp2
  obtain ⟨W, hW⟩ : ∃ W, W = (w.alloc (.cells #[.int .i64 0, .int .i64 0, .int .i64 0, .int .i64 0, .int .u8 1, .int .u8 77] 51)).alloc (.cells #[.int .i64 0, .int .i64 0, .int .i64 0, .int .i64 0, .int .u8 1, .int .u8 77] 51) := ⟨_, rfl⟩
  have hWz : W.heap.size = w.heap.size + 2 := by rw [hW]; simp
  have HWB : Hid (Below w.heap.size w W) := hid (by rw [hW]; exact ((Below.refl _ _).alloc (Nat.le_refl _) _).alloc (by simp) _)
  have hx6 : Six W w.heap.size (.int .i64 0) (.int .i64 0) (.int .i64 0) (.int .i64 0) (.int .u8 1) (.int .u8 77) := by rw [hW]; exact (Six.at w w.heap.size rfl _ _ _ _ _ _).alloc _
  have hy6 : Six W (w.heap.size + 1) (.int .i64 0) (.int .i64 0) (.int .i64 0) (.int .i64 0) (.int .u8 1) (.int .u8 77) := by rw [hW]; exact Six.at _ (w.heap.size + 1) (by simp) _ _ _ _ _ _
  have HCS : Hid (∀ w', Below W.heap.size W w' → (w'.cell? ⟨w.heap.size, 0, none⟩ = some (.int .i64 0) ∧ w'.cell? ⟨w.heap.size, 1, none⟩ = some (.int .i64 0) ∧ w'.cell? ⟨w.heap.size, 2, none⟩ = some (.int .i64 0) ∧ w'.cell? ⟨w.heap.size, 3, none⟩ = some (.int .i64 0) ∧ w'.cell? ⟨w.heap.size, 4, none⟩ = some (.int .u8 1) ∧ w'.cell? ⟨w.heap.size, 5, none⟩ = some (.int .u8 77)) ∧ w'.cell? ⟨w.heap.size + 1, 0, none⟩ = some (.int .i64 0) ∧ w'.cell? ⟨w.heap.size + 1, 1, none⟩ = some (.int .i64 0) ∧ w'.cell? ⟨w.heap.size + 1, 2, none⟩ = some (.int .i64 0) ∧ w'.cell? ⟨w.heap.size + 1, 3, none⟩ = some (.int .i64 0) ∧ w'.cell? ⟨w.heap.size + 1, 4, none⟩ = some (.int .u8 1) ∧ w'.cell? ⟨w.heap.size + 1, 5, none⟩ = some (.int .u8 77)) := hid fun w' hb => ⟨(hx6.below hb (by omega)).cells, (hy6.below hb (by omega)).cells⟩
  have HX6 : Hid (Six W w.heap.size (.int .i64 0) (.int .i64 0) (.int .i64 0) (.int .i64 0) (.int .u8 1) (.int .u8 77)) := hx6
  have HY6 : Hid (Six W (w.heap.size + 1) (.int .i64 0) (.int .i64 0) (.int .i64 0) (.int .i64 0) (.int .u8 1) (.int .u8 77)) := hy6
  rw [← hW]
  clear hW hx6 hy6
  go_region_held3 (fun w' => (w'.cell? ⟨w.heap.size, 0, none⟩ = some (.int .i64 0) ∧ w'.cell? ⟨w.heap.size, 1, none⟩ = some (.int .i64 0) ∧ w'.cell? ⟨w.heap.size, 2, none⟩ = some (.int .i64 0) ∧ w'.cell? ⟨w.heap.size, 3, none⟩ = some (.int .i64 0) ∧ w'.cell? ⟨w.heap.size, 4, none⟩ = some (.int .u8 1) ∧ w'.cell? ⟨w.heap.size, 5, none⟩ = some (.int .u8 77)) ∧ w'.cell? ⟨w.heap.size + 1, 0, none⟩ = some (.int .i64 0) ∧ w'.cell? ⟨w.heap.size + 1, 1, none⟩ = some (.int .i64 0) ∧ w'.cell? ⟨w.heap.size + 1, 2, none⟩ = some (.int .i64 0) ∧ w'.cell? ⟨w.heap.size + 1, 3, none⟩ = some (.int .i64 0) ∧ w'.cell? ⟨w.heap.size + 1, 4, none⟩ = some (.int .u8 1) ∧ w'.cell? ⟨w.heap.size + 1, 5, none⟩ = some (.int .u8 77))
    (first | exact HCS.out _ (by (repeat (first | (with_reducible exact hB1) | (with_reducible exact Below.refl _ _) | (with_reducible apply Below.drew)))) | go_keep)
    (first | (go_at_call 113; refine (empty_any _).mono ?_; rintro e w1 ⟨rfl, hb1⟩; have hB1 : Below W.heap.size W w1 := Below.trans (by (repeat (first | (with_reducible exact hB1) | (with_reducible exact Below.refl _ _) | (with_reducible apply Below.drew)))) (hb1.mono (by first | exact hB1.size | exact Nat.le_refl _)); clear hb1))
  go_wp2
  go_ret
  exact ⟨rfl, HWB.out.trans (hB1.mono (by omega))⟩
theorem appendNode_fullN (v : Value) (xs : List Value) (d : Nd) (w : World) (hF : Full w v xs) (hd : d.mid) (hsz : xs.length ≤ 800000) : Calls Tryz.prog 116 #[v, ndV d] w (fullPost w xs d.bytes) := by
  cases d with
  | mk c s m x h g =>
    obtain ⟨a1, a2, a3, a4⟩ := hd
    simp only at a1 a2 a3 a4
    obtain ⟨c, rfl⟩ := Int.eq_ofNat_of_zero_le a1.1
    obtain ⟨s, rfl⟩ := Int.eq_ofNat_of_zero_le a2.1
    obtain ⟨m, rfl⟩ := Int.eq_ofNat_of_zero_le a3.1
    obtain ⟨x, rfl⟩ := Int.eq_ofNat_of_zero_le a4.1
    exact appendNode_full v xs c s m x h g w hF (by omega) (by omega) (by omega) (by omega) hsz
theorem appendNode_ownN (base : Nat) (v : Value) (n0 : Nat) (xs : List Value) (d : Nd) (w : World) (ho : w.ownsRow base 5 1 v n0 xs) (hd : d.mid) (hsz : n0 ≤ 800000) (hb : base ≤ w.heap.size) : Calls Tryz.prog 116 #[v, ndV d] w fun e w' => ∃ v', e = .returned v' ∧ w'.ownsRow base 5 1 v' (n0 + d.bytes.length) (xs ++ d.bytes.map B) ∧ Grew w v w' v' := by
  cases d with
  | mk c s m x h g =>
    obtain ⟨a1, a2, a3, a4⟩ := hd
    simp only at a1 a2 a3 a4
    obtain ⟨c, rfl⟩ := Int.eq_ofNat_of_zero_le a1.1
    obtain ⟨s, rfl⟩ := Int.eq_ofNat_of_zero_le a2.1
    obtain ⟨m, rfl⟩ := Int.eq_ofNat_of_zero_le a3.1
    obtain ⟨x, rfl⟩ := Int.eq_ofNat_of_zero_le a4.1
    exact appendNode_any base v n0 xs c s m x h g w ho (by omega) (by omega) (by omega) (by omega) (by omega) hb
end Go.Proofs.YtogmdaopfnmobaaGreat

