/- What the program's trees do: Node, whatever the source. -/
import Derived.Shelf.Abstract
import Derived.Test.YtogmdaopfnmobaaGreatS23
import Derived.Test.YtogmdaopfnmobaaGreatS27
namespace Go.Proofs.YtogmdaopfnmobaaGreat
open Go.RowKit
def nd0 : Nd := ⟨0, 0, 0, 0, 0, 0⟩
def cloV (k B : Nat) : Value := .func (.func k) #[] #[.pointer (some ⟨B, 0, none⟩)]
structure Src (k B : Nat) (K : World → Prop) (N : Nat) (g : Nat → Nat → Option Nd) : Prop where
  enters : ∀ (args : Array Value) (w : World), (callFunc k args).run Tryz.prog w = .ok (.enter k args) w
  keep : ∀ w w', K w → Below w.heap.size w w' → K w'
  call : ∀ a b w, K w → a ≤ b → b ≤ N → Calls Tryz.prog k #[paV a b, .pointer (some ⟨B, 0, none⟩)] w fun e w' => e = .returned (.tuple #[ndV ((g a b).getD nd0), .bool (g a b).isSome]) ∧ Below w.heap.size w w'
inductive Comes (g : Nat → Nat → Option Nd) : Nat → Nat → Nd → Prop
  | known {a b : Nat} {d : Nd} : g a b = some d → Comes g a b d
  | above {a b : Nat} {x y : Nd} : g a b = none → a + 2 ≤ b → Comes g a (a + hf (b - a)) x → Comes g (a + hf (b - a)) b y → x.mid → y.mid → Comes g a b (ab x y)
set_option maxHeartbeats 4000000 in
set_option maxRecDepth 100000 in
theorem node_known {k B N a b : Nat} {K : World → Prop} {g : Nat → Nat → Option Nd} {d : Nd} (hS : Src k B K N g) (hg : g a b = some d) (w : World) (hK : K w) (hab : a ≤ b) (hb : b ≤ N) :
    Calls Tryz.prog 76 #[paV a b, cloV k B] w fun e w' => e = .returned (ndV d) ∧ Below w.heap.size w w' := by
  have HC : ∀ w', Hid (K w' → Calls Tryz.prog k #[paV a b, .pointer (some ⟨B, 0, none⟩)] w' fun e w2 => e = .returned (.tuple #[ndV d, .bool true]) ∧ Below w'.heap.size w' w2) := fun w' => hid fun h => by
    have := hS.call a b w' h hab hb
    rw [hg] at this
    exact this
  have HK : Hid (∀ w', Below w.heap.size w w' → K w') := hid fun w' h => hS.keep w w' hK h
  have he := hS.enters
  clear hg hS hK hab hb
  unfold paV ndV at HC
  unfold paV ndV cloV
  go_enter Tryz.func76, Tryz.ntmps76
  go_wp2_with fail
  refine ((HC _).out (HK.out _ (((Below.refl _ _).alloc (Nat.le_refl _) _).alloc (by simp) _))).mono ?_
  rintro e w1 ⟨rfl, hb1⟩
  have h6 : Six w1 (w.heap.size + 1) (.int .i64 0) (.int .i64 0) (.int .i64 0) (.int .i64 0) (.int .u8 0) (.int .u8 0) := (Six.at (w.alloc _) (w.heap.size + 1) (by simp) _ _ _ _ _ _).below hb1 (by simp)
  have H6 : Hid (Six w1 (w.heap.size + 1) (.int .i64 0) (.int .i64 0) (.int .i64 0) (.int .i64 0) (.int .u8 0) (.int .u8 0)) := h6
  have hz := h6.cells
  have hzf : ∀ o, w1.frozen? ⟨w.heap.size + 1, o, none⟩ = false := fun o => by simp [World.frozen?, h6.eq]
  have z1 : w.heap.size + 1 < w1.heap.size := by have := hb1.size; simp at this; omega
  have HB1 : Hid (Below w.heap.size w w1) := hid ((((Below.refl _ _).alloc (Nat.le_refl _) _).alloc (by simp) _).trans (hb1.mono (by simp; omega)))
  clear hb1 h6 he HC HK
  go_wp2
  refine ret_node1 Tryz.results76 ((H6.out.set _ _ _ _ _ _).alloc _) rfl ⟨rfl, ?_⟩
  refine Below.alloc ?_ (by have := HB1.out.size; simp; omega) _
  repeat (refine Below.setCell ?_ (by simp <;> omega) _)
  exact HB1.out
set_option maxHeartbeats 4000000 in
set_option maxRecDepth 100000 in
theorem node_above {k B N a b : Nat} {K : World → Prop} {g : Nat → Nat → Option Nd} {x y : Nd} (hS : Src k B K N g) (hg : g a b = none) (h2 : a + 2 ≤ b) (hN : N ≤ 64) (hx : x.mid) (hy : y.mid)
    (ihx : ∀ w, K w → Calls Tryz.prog 76 #[paV a (a + hf (b - a)), cloV k B] w fun e w' => e = .returned (ndV x) ∧ Below w.heap.size w w')
    (ihy : ∀ w, K w → Calls Tryz.prog 76 #[paV (a + hf (b - a)) b, cloV k B] w fun e w' => e = .returned (ndV y) ∧ Below w.heap.size w w')
    (w : World) (hK : K w) (hb : b ≤ N) :
    Calls Tryz.prog 76 #[paV a b, cloV k B] w fun e w' => e = .returned (ndV (ab x y)) ∧ Below w.heap.size w w' := by
  have HC : ∀ w', Hid (K w' → Calls Tryz.prog k #[paV a b, .pointer (some ⟨B, 0, none⟩)] w' fun e w2 => e = .returned (.tuple #[ndV nd0, .bool false]) ∧ Below w'.heap.size w' w2) := fun w' => hid fun h => by
    have := hS.call a b w' h (by omega) hb
    rw [hg] at this
    exact this
  have HSp : ∀ w', Hid (Calls Tryz.prog 120 #[paV a b] w' fun e w2 => e = .returned (.tuple #[paV a (a + hf (b - a)), paV (a + hf (b - a)) b]) ∧ Below w'.heap.size w' w2) := fun w' => hid (split_any a b w' h2 (by omega))
  have HK : Hid (∀ w', Below w.heap.size w w' → K w') := hid fun w' h => hS.keep w w' hK h
  have HAb : ∀ w', Hid (Calls Tryz.prog 121 #[ndV x, ndV y] w' fun e w2 => e = .returned (ndV (ab x y)) ∧ Below w'.heap.size w' w2) := fun w' => hid (above_any x y w' hx hy)
  have he := hS.enters
  generalize ab x y = z at HAb ⊢
  generalize a + hf (b - a) = m at ihx ihy HSp
  have HN : ∀ a' b' d' w', Hid ((a' = a ∧ b' = m ∧ d' = x) ∨ (a' = m ∧ b' = b ∧ d' = y) → K w' → Calls Tryz.prog 76 #[paV a' b', cloV k B] w' fun e w2 => e = .returned (ndV d') ∧ Below w'.heap.size w' w2) := fun a' b' d' w' => hid fun h hk => by
    rcases h with ⟨rfl, rfl, rfl⟩ | ⟨rfl, rfl, rfl⟩
    · exact ihx w' hk
    · exact ihy w' hk
  clear hg hS hK hb h2 hN hx hy ihx ihy
  unfold paV ndV at HC HN
  simp only [nd0, UInt8.toNat_zero] at HC
  unfold paV at HSp
  unfold ndV at HAb
  unfold cloV at HN
  unfold paV ndV cloV
  go_enter Tryz.func76, Tryz.ntmps76
  go_wp2_with fail
  refine ((HC _).out (HK.out _ (((Below.refl _ _).alloc (Nat.le_refl _) _).alloc (by simp) _))).mono ?_
  rintro e w1 ⟨rfl, hb1⟩
  have h6 : Six w1 (w.heap.size + 1) (.int .i64 0) (.int .i64 0) (.int .i64 0) (.int .i64 0) (.int .u8 0) (.int .u8 0) := (Six.at (w.alloc _) (w.heap.size + 1) (by simp) _ _ _ _ _ _).below hb1 (by simp)
  have hc1 := oldc hb1
  have z0 : w.heap.size < w1.heap.size := by have := hb1.size; simp at this; omega
  have z1 : w.heap.size + 1 < w1.heap.size := by have := hb1.size; simp at this; omega
  have HB1 : Hid (Below w.heap.size w w1) := hid ((((Below.refl _ _).alloc (Nat.le_refl _) _).alloc (by simp) _).trans (hb1.mono (by simp; omega)))
  have H61 : Hid (Six w1 (w.heap.size + 1) (.int .i64 0) (.int .i64 0) (.int .i64 0) (.int .i64 0) (.int .u8 0) (.int .u8 0)) := h6
  clear hb1 h6 he HC
  go_wp2_with fail
  refine (HSp _).out.mono ?_
  rintro e w2 ⟨rfl, hb2⟩
  have z2 : w1.heap.size < w2.heap.size := by have := hb2.size; simp at this; omega
  have h62 : Six w2 (w.heap.size + 1) (.int .i64 0) (.int .i64 0) (.int .i64 0) (.int .i64 0) (.int .u8 0) (.int .u8 0) := (H61.out.alloc _).below hb2 (by simp; omega)
  have HB2 : Hid (Below w.heap.size w w2) := hid ((HB1.out.alloc HB1.out.size _).trans (hb2.mono (by simp; omega)))
  have H62 : Hid (Six w2 (w.heap.size + 1) (.int .i64 0) (.int .i64 0) (.int .i64 0) (.int .i64 0) (.int .u8 0) (.int .u8 0)) := h62
  clear hb2 h62 hc1 HSp H61 HB1
  go_wp2
  obtain ⟨W, hW⟩ : ∃ W, W = (w2.alloc (.cells #[.int .i64 a, .int .i64 m] 95)).alloc (.cells #[.int .i64 m, .int .i64 b] 95) := ⟨_, rfl⟩
  have hWz : W.heap.size = w2.heap.size + 2 := by rw [hW]; simp
  have hp0 : W.heap[w2.heap.size]? = some (.cells #[.int .i64 a, .int .i64 m] 95) := by rw [hW]; exact heap_two w2 _ _ _ rfl
  have hp1 : W.heap[w2.heap.size + 1]? = some (.cells #[.int .i64 m, .int .i64 b] 95) := by rw [hW]; exact heap_one _ _ _ (by simp)
  have h6 : Six W (w.heap.size + 1) (.int .i64 0) (.int .i64 0) (.int .i64 0) (.int .i64 0) (.int .u8 0) (.int .u8 0) := by rw [hW]; exact (H62.out.alloc _).alloc _
  have HWB : Hid (Below w.heap.size w W) := hid (by rw [hW]; exact (HB2.out.alloc HB2.out.size _).alloc (by have := HB2.out.size; simp; omega) _)
  have H6 : Hid (Six W (w.heap.size + 1) (.int .i64 0) (.int .i64 0) (.int .i64 0) (.int .i64 0) (.int .u8 0) (.int .u8 0)) := h6
  have l0 : w.heap.size + 1 < W.heap.size := by omega
  have HCS : Hid (∀ w', Kept W w' [w.heap.size + 1] → (w'.cell? ⟨w2.heap.size, 0, none⟩ = some (.int .i64 a) ∧ w'.cell? ⟨w2.heap.size, 1, none⟩ = some (.int .i64 m)) ∧ w'.cell? ⟨w2.heap.size + 1, 0, none⟩ = some (.int .i64 m) ∧ w'.cell? ⟨w2.heap.size + 1, 1, none⟩ = some (.int .i64 b)) := hid fun w' hk => by
    have e0 := (hk.block w2.heap.size (by omega) (by simp; omega)).trans hp0
    have e1 := (hk.block (w2.heap.size + 1) (by omega) (by simp; omega)).trans hp1
    refine ⟨⟨?_, ?_⟩, ?_, ?_⟩ <;> first | (rw [cell_of_row w' _ _ _ _ _ e0]; rfl) | (rw [cell_of_row w' _ _ _ _ _ e1]; rfl)
  have HRS : Hid (∀ w', Below W.heap.size W w' → (w'.cell? ⟨w.heap.size + 1, 0, none⟩ = some (.int .i64 0) ∧ w'.cell? ⟨w.heap.size + 1, 1, none⟩ = some (.int .i64 0) ∧ w'.cell? ⟨w.heap.size + 1, 2, none⟩ = some (.int .i64 0) ∧ w'.cell? ⟨w.heap.size + 1, 3, none⟩ = some (.int .i64 0) ∧ w'.cell? ⟨w.heap.size + 1, 4, none⟩ = some (.int .u8 0) ∧ w'.cell? ⟨w.heap.size + 1, 5, none⟩ = some (.int .u8 0)) ∧ (∀ o, w'.frozen? ⟨w.heap.size + 1, o, none⟩ = false)) := hid fun w' hb => ⟨(h6.below hb l0).cells, fun o => by simp [World.frozen?, (h6.below hb l0).eq]⟩
  have HKW : Hid (∀ w', Below W.heap.size W w' → K w') := hid fun w' hb => HK.out w' (HWB.out.trans (hb.mono (by omega)))
  rw [← hW]
  clear hW hp0 hp1 h6 hWz HB2 H62 HK
  go_region_held3 (fun w' => (w'.cell? ⟨w2.heap.size, 0, none⟩ = some (.int .i64 a) ∧ w'.cell? ⟨w2.heap.size, 1, none⟩ = some (.int .i64 m)) ∧ w'.cell? ⟨w2.heap.size + 1, 0, none⟩ = some (.int .i64 m) ∧ w'.cell? ⟨w2.heap.size + 1, 1, none⟩ = some (.int .i64 b))
    (first | exact HCS.out _ (by (repeat (first | (with_reducible exact Kept.of_below hBn _) | (with_reducible exact Kept.of_below hBa _) | (with_reducible exact Kept.refl _ _) | (with_reducible apply Kept.drew) | (with_reducible refine Kept.setCell ?_ (.inl (by simp)) _)))) | go_keep)
    (first
      | (go_at_call 76; refine ((HN _ _ _ _).out (by first | exact .inl ⟨rfl, rfl, rfl⟩ | exact .inr ⟨rfl, rfl, rfl⟩) (HKW.out _ (by (repeat (first | (with_reducible exact hBn) | (with_reducible exact Below.refl _ _) | (with_reducible apply Below.drew)))))).mono ?_; rintro e wn ⟨rfl, hbn⟩; have hBn : Below W.heap.size W wn := Below.trans (by (repeat (first | (with_reducible exact hBn) | (with_reducible exact Below.refl _ _) | (with_reducible apply Below.drew)))) (hbn.mono (by first | exact hBn.size | exact Nat.le_refl _)); clear hbn)
      | (go_at_call 121; refine (HAb _).out.mono ?_; rintro e wa ⟨rfl, hba⟩; have hBa : Below W.heap.size W wa := Below.trans (by (repeat (first | (with_reducible exact hBn) | (with_reducible exact Below.refl _ _) | (with_reducible apply Below.drew)))) (hba.mono (by first | exact hBn.size | exact Nat.le_refl _)); have hca := HRS.out wa hBa; clear hba))
  go_wp2
  refine ret_node1 Tryz.results76 ((H6.out.below hBa l0).set _ _ _ _ _ _) rfl ⟨rfl, ?_⟩
  repeat (refine Below.setCell ?_ (by simp <;> omega) _)
  exact HWB.out.trans (hBa.mono (by omega))
theorem node_any {k B N : Nat} {K : World → Prop} {g : Nat → Nat → Option Nd} (hS : Src k B K N g) (hN : N ≤ 64) {a b : Nat} {d : Nd} (hc : Comes g a b d) : ∀ w, K w → a ≤ b → b ≤ N →
    Calls Tryz.prog 76 #[paV a b, cloV k B] w fun e w' => e = .returned (ndV d) ∧ Below w.heap.size w w' := by
  induction hc with
  | known hg => intro w hK hab hb; exact node_known hS hg w hK hab hb
  | @above a b x y hg h2 _ _ hx hy ihx ihy =>
    intro w hK hab hb
    have p := hf_pos (b - a)
    have q := hf_lt (b - a) (by omega)
    exact node_above hS hg h2 hN hx hy (fun w' hk => ihx w' hk (by omega) (by omega)) (fun w' hk => ihy w' hk (by omega) hb) w hK hb
end Go.Proofs.YtogmdaopfnmobaaGreat

