/- What AppendNode, appendMarked and MayBe do. -/
import Derived.RegionCalls
import Derived.Deep.RegionWith
import Derived.Deep.RegionLaw
import Derived.BigQuiet
import Derived.Test.YtogmdaopfnmobaaGreatA03
namespace Go.Proofs.YtogmdaopfnmobaaGreat
open Go.RowKit
theorem boxed {w w1 : World} {v v1 : Value} {base : Nat} {e t : TypeId} {sz n : Nat} {xs : List Value} {c0 c1 c2 c3 c4 c5 : Value} (hown : w.ownsRow base e sz v n xs)
    (h : Grew (w.alloc (.cells #[c0, c1, c2, c3, c4, c5] t)) v w1 v1) :
    w1.cell? ⟨w.heap.size, 0, none⟩ = some c0 ∧ w1.cell? ⟨w.heap.size, 1, none⟩ = some c1 ∧ w1.cell? ⟨w.heap.size, 2, none⟩ = some c2 ∧
    w1.cell? ⟨w.heap.size, 3, none⟩ = some c3 ∧ w1.cell? ⟨w.heap.size, 4, none⟩ = some c4 ∧ w1.cell? ⟨w.heap.size, 5, none⟩ = some c5 := by
  have hne : some w.heap.size ≠ v.ownBlock := by
    intro c
    have := (hown.lt _ c.symm).2
    omega
  refine ⟨?_, ?_, ?_, ?_, ?_, ?_⟩ <;> exact h.grown.cell (by simp) hne
theorem two_new (w : World) (b c : UInt8) (e : TypeId) : ∀ j u, [B b, B c][j]? = some u → (w.alloc (.cells #[.int .u8 b.toNat, .int .u8 c.toNat] e)).cell? ((⟨w.heap.size, 0, none⟩ : Addr).add j) = some u := by
  intro j u hj
  match j, hj with
  | 0, hj => simp at hj; subst hj; simp [Addr.add, B]
  | 1, hj => simp at hj; subst hj; simp [Addr.add, B]
set_option maxHeartbeats 1000000 in
set_option maxRecDepth 100000 in
theorem appendNode_any (base : Nat) (v : Value) (n0 : Nat) (xs : List Value) (c s m x : Nat) (h g : UInt8) (w : World) (hown0 : w.ownsRow base 5 1 v n0 xs)
    (hc : c ≤ 281474976710656) (hs : s ≤ 281474976710656) (hm : m ≤ 281474976710656) (hx : x ≤ 281474976710656) (hsz : n0 ≤ 900000) (hbase : base ≤ w.heap.size) :
    Calls Tryz.prog 116 #[v, .agg #[.int .i64 c, .int .i64 s, .int .i64 m, .int .i64 x, .int .u8 h.toNat, .int .u8 g.toNat]] w fun e w' => ∃ v', e = .returned v' ∧
      w'.ownsRow base 5 1 v' (n0 + (num c ++ num s ++ num m ++ num x ++ [h, g]).length) (xs ++ (num c ++ num s ++ num m ++ num x ++ [h, g]).map B) ∧ Grew w v w' v' := by
  obtain ⟨i0, hi, hz0, hz1, hz2⟩ := info_parts info_u8
  have l1 := (num_length c).1
  have l2 := (num_length s).1
  have l3 := (num_length m).1
  have l4 := (num_length x).1
  go_enter Tryz.func116, Tryz.ntmps116
  go_wp2_with fail
  refine (appendNumber_any base _ _ _ _ _ (hown0.alloc _) hc (by omega) (by simp; omega)).mono ?_
  rintro e w1 ⟨v1, rfl, hown1, hg1⟩
  obtain ⟨k0, k1, k2, k3, k4, k5⟩ := boxed hown0 hg1
  have hb1 := hg1.grown.size
  simp at hb1
  go_wp2_with fail
  refine (appendNumber_any base _ _ _ _ _ hown1 hs (by omega) (by omega)).mono ?_
  rintro e w2 ⟨v2, rfl, hown2, hg2⟩
  have hG2 := hg1.trans hg2
  clear hg1 hg2 hown1 k0 k1 k2 k3 k4 k5
  obtain ⟨k0, k1, k2, k3, k4, k5⟩ := boxed hown0 hG2
  have hb2 := hG2.grown.size
  simp at hb2
  clear hb1
  go_wp2_with fail
  refine (appendNumber_any base _ _ _ _ _ hown2 hm (by omega) (by omega)).mono ?_
  rintro e w3 ⟨v3, rfl, hown3, hg3⟩
  have hG3 := hG2.trans hg3
  clear hG2 hg3 hown2 k0 k1 k2 k3 k4 k5
  obtain ⟨k0, k1, k2, k3, k4, k5⟩ := boxed hown0 hG3
  have hb3 := hG3.grown.size
  simp at hb3
  clear hb2
  go_wp2_with fail
  refine (appendNumber_any base _ _ _ _ _ hown3 hx (by omega) (by omega)).mono ?_
  rintro e w4 ⟨v4, rfl, hown4, hg4⟩
  have hG4 := hG3.trans hg4
  clear hG3 hg4 hown3 k0 k1 k2 k3 k4 k5
  obtain ⟨k0, k1, k2, k3, k4, k5⟩ := boxed hown0 hG4
  have hb4 := hG4.grown.size
  simp at hb4
  clear hb3
  go_wp2_with (at_builtin; refine wpList_append_grew _ rfl _ _ 159 rfl base 5 i0 (.int .u8 0) 1 1 Tryz.underlying159 hi hz0 hz1 hz2 rfl (by decide) _ _ _ rfl (hown4.alloc _) ⟨w4.heap.size, 0, none⟩ 2 2 [B h, B g] rfl rfl ?d1 ?d2 ?d3 ?d4 ?d5 ?_)
  case d1 => exact two_new _ _ _ _
  case d2 => exact B_one [h, g]
  case d3 => unfold maxLen; omega
  case d4 => omega
  case d5 => simp; omega
  intro v' w5 hown' hgrow _
  have R := (((Grew.refl w v).alloc _).trans (hG4.alloc _)).trans hgrow
  clear hgrow hown4 hG4 hown0
  go_wp2
  go_ret
  refine ⟨v', rfl, ?_, R⟩
  simpa [Nat.add_assoc, List.append_assoc] using hown'
end Go.Proofs.YtogmdaopfnmobaaGreat

