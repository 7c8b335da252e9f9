/- What the program's trees do: the source that knows the node of each place. -/
import Derived.Laws.EntriesVeiled
import Derived.Test.YtogmdaopfnmobaaGreatA32
namespace Go.Proofs.YtogmdaopfnmobaaGreat
open Go.RowKit
structure Plc (k B : Nat) (K : World → Prop) (N : Nat) (lf : Nat → Nd) : Prop where
  enters : ∀ (args : Array Value) (w : World), (callFunc k args).run Tryz.prog w = .ok (.enter k args) w
  keep : ∀ w w', K w → Below w.heap.size w w' → K w'
  call : ∀ i w, K w → i < N → Calls Tryz.prog k #[.int .i64 i, .pointer (some ⟨B, 0, none⟩)] w fun e w' => e = .returned (ndV (lf i)) ∧ Below w.heap.size w w'
def plG (lf : Nat → Nd) (a b : Nat) : Option Nd := if b ≤ a then some .E else if b < a + 2 then some (lf a) else none
def plK (k Bv B : Nat) (K : World → Prop) (w : World) : Prop := K w ∧ w.heap[B]? = some (.cells #[cloV k Bv] 117 (0, 0))
theorem ret_nodeB {w : World} {g : Nat} {c0 c1 c2 c3 c4 c5 v : Value} {fn : Func} {R : Ending → World → Prop} {tmps : Array Value} {k j : Nat} (hf : fn.results = #[.cell k 51, .tmp j]) (h : Six w g c0 c1 c2 c3 c4 c5)
    (h2 : tmps[k]? = some (.pointer (some ⟨g, 0, none⟩))) (h3 : tmps[j]? = some v) (hR : R (.returned (.tuple #[.agg #[c0, c1, c2, c3, c4, c5], v])) w) : bodyPost Tryz.prog fn R .ret ⟨tmps, []⟩ w := by
  obtain ⟨k0, k1, k2, k3, k4, k5⟩ := h.cells
  refine bodyPost_ret (v := .tuple #[.agg #[c0, c1, c2, c3, c4, c5], v]) ?_ rfl hR
  simp [results, hf, go_sem, h2, h3, k0, k1, k2, k3, k4, k5]
set_option maxHeartbeats 4000000 in
set_option maxRecDepth 100000 in
theorem places_known {kk Bv B N : Nat} {K : World → Prop} {lf : Nat → Nd} (hP : Plc kk Bv K N lf) (a : Nat) (w : World) (hK : plK kk Bv B K w) (ha : a < N) (hN : N ≤ 64) :
    Calls Tryz.prog 111 #[paV a (a + 1), .pointer (some ⟨B, 0, none⟩)] w fun e w' => e = .returned (.tuple #[ndV (lf a), .bool true]) ∧ Below w.heap.size w w' := by
  have HC : ∀ w', Hid (K w' → Calls Tryz.prog kk #[.int .i64 a, .pointer (some ⟨Bv, 0, none⟩)] w' fun e w2 => e = .returned (ndV (lf a)) ∧ Below w'.heap.size w' w2) := fun w' => hid fun h => hP.call a w' h ha
  have HZ : ∀ w', Hid (Calls Tryz.prog 112 #[paV a (a + 1)] w' fun e w2 => e = .returned (.int .i64 1) ∧ Below w'.heap.size w' w2) := fun w' => hid (by
    have := size_any a (a + 1) w' (by omega) (by omega)
    rw [show a + 1 - a = 1 from by omega] at this
    exact this)
  have HK : Hid (∀ w', Below w.heap.size w w' → K w') := hid fun w' h => hP.keep w w' hK.1 h
  have he := hP.enters
  have hbx := hK.2
  have hlt : B < w.heap.size := (Array.getElem?_eq_some_iff.1 hbx).1
  have HBX : Hid (∀ w', Below w.heap.size w w' → w'.cell? ⟨B, 0, none⟩ = some (cloV kk Bv)) := hid fun w' h => by
    rw [cell_of_row w' B _ _ _ _ ((h.block B hlt).trans hbx)]; rfl
  clear hP hK hbx ha hN
  generalize lf a = d at HC ⊢
  unfold paV at HZ
  unfold ndV at HC
  unfold cloV at HBX
  unfold paV ndV
  generalize a + 1 = b at HZ ⊢
  go_enter Tryz.func111, Tryz.ntmps111
  go_wp2_with fail
  refine (HZ _).out.mono ?_
  rintro e w1 ⟨rfl, hb1⟩
  have h6 : Six w1 (w.heap.size + 1) (.int .i64 0) (.int .i64 0) (.int .i64 0) (.int .i64 0) (.int .u8 0) (.int .u8 0) := (Six.at (w.alloc _) (w.heap.size + 1) (by simp) _ _ _ _ _ _).below hb1 (by simp)
  have hc1 := oldc hb1
  have z0 : w.heap.size < w1.heap.size := by have := hb1.size; simp at this; omega
  have z1 : w.heap.size + 1 < w1.heap.size := by have := hb1.size; simp at this; omega
  have HB1 : Hid (Below w.heap.size w w1) := hid ((((Below.refl _ _).alloc (Nat.le_refl _) _).alloc (by simp) _).trans (hb1.mono (by simp; omega)))
  have H61 : Hid (Six w1 (w.heap.size + 1) (.int .i64 0) (.int .i64 0) (.int .i64 0) (.int .i64 0) (.int .u8 0) (.int .u8 0)) := h6
  have hcl := HBX.out w1 HB1.out
  clear hb1 h6 HZ
  go_wp2_with fail
  refine ((HC _).out (HK.out _ HB1.out)).mono ?_
  rintro e w2 ⟨rfl, hb2⟩
  have h62 : Six w2 (w.heap.size + 1) (.int .i64 0) (.int .i64 0) (.int .i64 0) (.int .i64 0) (.int .u8 0) (.int .u8 0) := H61.out.below hb2 z1
  have hz := h62.cells
  have hzf : ∀ o, w2.frozen? ⟨w.heap.size + 1, o, none⟩ = false := fun o => by simp [World.frozen?, h62.eq]
  have H6 : Hid (Six w2 (w.heap.size + 1) (.int .i64 0) (.int .i64 0) (.int .i64 0) (.int .i64 0) (.int .u8 0) (.int .u8 0)) := h62
  have HB2 : Hid (Below w.heap.size w w2) := hid (HB1.out.trans (hb2.mono HB1.out.size))
  clear hb2 h62 hc1 he HC HK HBX
  go_wp2
  refine ret_nodeB Tryz.results111 (H6.out.set _ _ _ _ _ _) rfl rfl ⟨rfl, ?_⟩
  repeat (refine Below.setCell ?_ (by simp <;> omega) _)
  exact HB2.out
set_option maxHeartbeats 4000000 in
set_option maxRecDepth 100000 in
theorem places_empty (a B : Nat) (w : World) (ha : a ≤ 64) :
    Calls Tryz.prog 111 #[paV a a, .pointer (some ⟨B, 0, none⟩)] w fun e w' => e = .returned (.tuple #[ndV .E, .bool true]) ∧ Below w.heap.size w w' := by
  have HZ : ∀ w', Hid (Calls Tryz.prog 112 #[paV a a] w' fun e w2 => e = .returned (.int .i64 0) ∧ Below w'.heap.size w' w2) := fun w' => hid (by
    have := size_any a a w' (by omega) (by omega)
    rw [show a - a = 0 from by omega] at this
    exact this)
  rw [ndV_E]
  unfold paV at HZ ⊢
  go_enter Tryz.func111, Tryz.ntmps111
  go_wp2_with fail
  refine (HZ _).out.mono ?_
  rintro e w1 ⟨rfl, hb1⟩
  have h6 : Six w1 (w.heap.size + 1) (.int .i64 0) (.int .i64 0) (.int .i64 0) (.int .i64 0) (.int .u8 0) (.int .u8 0) := (Six.at (w.alloc _) (w.heap.size + 1) (by simp) _ _ _ _ _ _).below hb1 (by simp)
  have z1 : w.heap.size + 1 < w1.heap.size := by have := hb1.size; simp at this; omega
  have HB1 : Hid (Below w.heap.size w w1) := hid ((((Below.refl _ _).alloc (Nat.le_refl _) _).alloc (by simp) _).trans (hb1.mono (by simp; omega)))
  have H61 : Hid (Six w1 (w.heap.size + 1) (.int .i64 0) (.int .i64 0) (.int .i64 0) (.int .i64 0) (.int .u8 0) (.int .u8 0)) := h6
  clear hb1 h6 HZ
  go_wp2_with fail
  refine (empty_any _).mono ?_
  rintro e w2 ⟨rfl, hb2⟩
  have h62 : Six w2 (w.heap.size + 1) (.int .i64 0) (.int .i64 0) (.int .i64 0) (.int .i64 0) (.int .u8 0) (.int .u8 0) := H61.out.below hb2 z1
  have hz := h62.cells
  have hzf : ∀ o, w2.frozen? ⟨w.heap.size + 1, o, none⟩ = false := fun o => by simp [World.frozen?, h62.eq]
  have H6 : Hid (Six w2 (w.heap.size + 1) (.int .i64 0) (.int .i64 0) (.int .i64 0) (.int .i64 0) (.int .u8 0) (.int .u8 0)) := h62
  have HB2 : Hid (Below w.heap.size w w2) := hid (HB1.out.trans (hb2.mono HB1.out.size))
  clear hb2 h62
  go_wp2
  refine ret_nodeB Tryz.results111 (H6.out.set _ _ _ _ _ _) rfl rfl ⟨rfl, ?_⟩
  repeat (refine Below.setCell ?_ (by simp <;> omega) _)
  exact HB2.out
set_option maxHeartbeats 4000000 in
set_option maxRecDepth 100000 in
theorem places_more (a b B : Nat) (w : World) (hab : a + 2 ≤ b) (hb : b ≤ 64) :
    Calls Tryz.prog 111 #[paV a b, .pointer (some ⟨B, 0, none⟩)] w fun e w' => e = .returned (.tuple #[ndV nd0, .bool false]) ∧ Below w.heap.size w w' := by
  obtain ⟨n, hn⟩ : ∃ n, n = b - a := ⟨_, rfl⟩
  have HZ : ∀ w', Hid (Calls Tryz.prog 112 #[paV a b] w' fun e w2 => e = .returned (.int .i64 n) ∧ Below w'.heap.size w' w2) := fun w' => hid (by
    have := size_any a b w' (by omega) (by omega)
    rw [← hn] at this
    exact this)
  have n0 : ((n : Int) == 0) = false := by simp; omega
  have n1 : ((n : Int) == 1) = false := by simp; omega
  clear hn hab hb
  unfold paV at HZ ⊢
  rw [show ndV nd0 = .agg #[.int .i64 0, .int .i64 0, .int .i64 0, .int .i64 0, .int .u8 0, .int .u8 0] from rfl]
  go_enter Tryz.func111, Tryz.ntmps111
  go_wp2_with fail
  refine (HZ _).out.mono ?_
  rintro e w1 ⟨rfl, hb1⟩
  have h6 : Six w1 (w.heap.size + 1) (.int .i64 0) (.int .i64 0) (.int .i64 0) (.int .i64 0) (.int .u8 0) (.int .u8 0) := (Six.at (w.alloc _) (w.heap.size + 1) (by simp) _ _ _ _ _ _).below hb1 (by simp)
  have hz := h6.cells
  have hzf : ∀ o, w1.frozen? ⟨w.heap.size + 1, o, none⟩ = false := fun o => by simp [World.frozen?, h6.eq]
  have HB1 : Hid (Below w.heap.size w w1) := hid ((((Below.refl _ _).alloc (Nat.le_refl _) _).alloc (by simp) _).trans (hb1.mono (by simp; omega)))
  have H6 : Hid (Six w1 (w.heap.size + 1) (.int .i64 0) (.int .i64 0) (.int .i64 0) (.int .i64 0) (.int .u8 0) (.int .u8 0)) := h6
  clear hb1 h6 HZ
  go_wp2
  refine ret_nodeB Tryz.results111 (H6.out.set _ _ _ _ _ _) rfl rfl ⟨rfl, ?_⟩
  repeat (refine Below.setCell ?_ (by simp <;> omega) _)
  exact HB1.out
theorem places_src {kk Bv N : Nat} {K : World → Prop} {lf : Nat → Nd} (hP : Plc kk Bv K N lf) (hN : N ≤ 64) (B : Nat) : Src 111 B (plK kk Bv B K) N (plG lf) where
  enters := enters_of Tryz.func111 (by kernel_rfl) rfl
  keep w w' h hb := ⟨hP.keep w w' h.1 hb, (hb.block B (Array.getElem?_eq_some_iff.1 h.2).1).trans h.2⟩
  call a b w h hab hb := by
    by_cases h0 : a = b
    · subst h0
      rw [show plG lf a a = some .E from by rw [plG, if_pos (Nat.le_refl _)]]
      exact places_empty a B w (by omega)
    · by_cases h1 : b = a + 1
      · subst h1
        rw [show plG lf a (a + 1) = some (lf a) from by rw [plG, if_neg (by omega), if_pos (by omega)]]
        exact places_known hP a w h (by omega) hN
      · rw [show plG lf a b = none from by rw [plG, if_neg (by omega), if_neg (by omega)]]
        exact places_more a b B w (by omega) (by omega)
end Go.Proofs.YtogmdaopfnmobaaGreat

