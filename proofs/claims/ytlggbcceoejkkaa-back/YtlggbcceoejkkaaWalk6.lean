/- What readNode does. -/
import Derived.Test.YtlggbcceoejkkaaWalk5
namespace Go.Proofs.Ytlggbcceoejkkaa
open Go.RowKit

attribute [local go_sem ↓] run_eql_node run_neq_node

def outN (o : Option (Nd × List UInt8)) (d : Nd) (r : List UInt8) (b : Bool) : Prop := (b = true ∧ o = some (d, r)) ∨ (b = false ∧ o = none ∧ d = ⟨0, 0, 0, 0, 0, 0⟩ ∧ r = [])

/-- What readNode leaves. -/
def nodePost (o : Option (Nd × List UInt8)) (n : Nat) (w : World) (e : Ending) (w' : World) : Prop :=
  ∃ (d : Nd) (s' : ByteArray) (b : Bool), e = .returned (.tuple #[.agg #[.int .i64 d.c, .int .i64 d.s, .int .i64 d.m, .int .i64 d.x, .int .u8 (d.h.toNat : Int), .int .u8 (d.g.toNat : Int)], .string s', .bool b]) ∧ outN o d s'.data.toList b ∧ s'.size ≤ n ∧ Below w.heap.size w w'

theorem nodePost_no (o : Option (Nd × List UInt8)) (n : Nat) (w w' : World) (h : o = none) (hb : Below w.heap.size w w') :
    nodePost o n w (.returned (.tuple #[.agg #[.int .i64 0, .int .i64 0, .int .i64 0, .int .i64 0, .int .u8 0, .int .u8 0], .string ⟨#[]⟩, .bool false])) w' :=
  ⟨⟨0, 0, 0, 0, 0, 0⟩, ⟨#[]⟩, false, rfl, .inr ⟨rfl, h, rfl, rfl⟩, Nat.zero_le _, hb⟩

/-- A block of four numbers. -/
def Four (w : World) (F : Nat) (a0 a1 a2 a3 : Nat) : Prop := w.heap[F]? = some (.cells #[.int .i64 a0, .int .i64 a1, .int .i64 a2, .int .i64 a3] 116 (0, 0))

theorem Four.cells {w : World} {F a0 a1 a2 a3 : Nat} (h : Four w F a0 a1 a2 a3) :
    w.cell? ⟨F, 0, none⟩ = some (.int .i64 a0) ∧ w.cell? ⟨F, 1, none⟩ = some (.int .i64 a1) ∧ w.cell? ⟨F, 2, none⟩ = some (.int .i64 a2) ∧ w.cell? ⟨F, 3, none⟩ = some (.int .i64 a3) := by
  refine ⟨?_, ?_, ?_, ?_⟩ <;> rw [cell_of_row w F _ _ _ _ h] <;> rfl
theorem Four.live {w : World} {F a0 a1 a2 a3 : Nat} (h : Four w F a0 a1 a2 a3) (j : Nat) : w.frozen? ⟨F, j, none⟩ = false := by
  unfold Four at h
  simp [World.frozen?, h]
theorem Four.below {w w' : World} {F a0 a1 a2 a3 : Nat} (h : Four w F a0 a1 a2 a3) (hb : Below w.heap.size w w') : Four w' F a0 a1 a2 a3 := by
  unfold Four at h ⊢
  rw [hb.block F (Array.getElem?_eq_some_iff.1 h).1]; exact h
theorem heap_set {w : World} {F k : Nat} {C : Array Value} {t : TypeId} {fr : Nat × Nat} (h : w.heap[F]? = some (.cells C t fr)) (v : Value) : (w.setCell ⟨F, k, none⟩ v).heap[F]? = some (.cells (C.setIfInBounds k v) t fr) := by
  simp [World.setCell, Array.getElem?_modify, h]

/-- A node's block. -/
def Six (w : World) (g : Nat) (c0 c1 c2 c3 c4 c5 : Value) : Prop := w.heap[g]? = some (.cells #[c0, c1, c2, c3, c4, c5] 33 (0, 0))
section
variable {w : World} {g : Nat} {c0 c1 c2 c3 c4 c5 : Value}
theorem Six.set0 (h : Six w g c0 c1 c2 c3 c4 c5) (v : Value) : Six (w.setCell ⟨g, 0, none⟩ v) g v c1 c2 c3 c4 c5 := heap_set (k := 0) h v
theorem Six.set1 (h : Six w g c0 c1 c2 c3 c4 c5) (v : Value) : Six (w.setCell ⟨g, 1, none⟩ v) g c0 v c2 c3 c4 c5 := heap_set (k := 1) h v
theorem Six.set2 (h : Six w g c0 c1 c2 c3 c4 c5) (v : Value) : Six (w.setCell ⟨g, 2, none⟩ v) g c0 c1 v c3 c4 c5 := heap_set (k := 2) h v
theorem Six.set3 (h : Six w g c0 c1 c2 c3 c4 c5) (v : Value) : Six (w.setCell ⟨g, 3, none⟩ v) g c0 c1 c2 v c4 c5 := heap_set (k := 3) h v
theorem Six.set4 (h : Six w g c0 c1 c2 c3 c4 c5) (v : Value) : Six (w.setCell ⟨g, 4, none⟩ v) g c0 c1 c2 c3 v c5 := heap_set (k := 4) h v
theorem Six.set5 (h : Six w g c0 c1 c2 c3 c4 c5) (v : Value) : Six (w.setCell ⟨g, 5, none⟩ v) g c0 c1 c2 c3 c4 v := heap_set (k := 5) h v
theorem Six.set (h : Six w g c0 c1 c2 c3 c4 c5) (d0 d1 d2 d3 d4 d5 : Value) :
    Six ((((((w.setCell ⟨g, 0, none⟩ d0).setCell ⟨g, 1, none⟩ d1).setCell ⟨g, 2, none⟩ d2).setCell ⟨g, 3, none⟩ d3).setCell ⟨g, 4, none⟩ d4).setCell ⟨g, 5, none⟩ d5) g d0 d1 d2 d3 d4 d5 :=
  (((((h.set0 d0).set1 d1).set2 d2).set3 d3).set4 d4).set5 d5
theorem Six.drew (h : Six w g c0 c1 c2 c3 c4 c5) : Six w.drew g c0 c1 c2 c3 c4 c5 := h
theorem Six.below {w' : World} {B : Nat} (h : Six w g c0 c1 c2 c3 c4 c5) (hb : Below B w w') (hg : g < B) : Six w' g c0 c1 c2 c3 c4 c5 := by
  unfold Six at h ⊢
  rw [hb.block g hg]; exact h
theorem Six.new (w : World) (c0 c1 c2 c3 c4 c5 : Value) : Six (w.alloc (.cells #[c0, c1, c2, c3, c4, c5] 33)) w.heap.size c0 c1 c2 c3 c4 c5 := heap_alloc_new w _
theorem Six.cells (h : Six w g c0 c1 c2 c3 c4 c5) : (w.cell? ⟨g, 0, none⟩ = some c0 ∧ w.cell? ⟨g, 1, none⟩ = some c1 ∧ w.cell? ⟨g, 2, none⟩ = some c2 ∧
    w.cell? ⟨g, 3, none⟩ = some c3 ∧ w.cell? ⟨g, 4, none⟩ = some c4 ∧ w.cell? ⟨g, 5, none⟩ = some c5) := by
  refine ⟨?_, ?_, ?_, ?_, ?_, ?_⟩ <;> rw [cell_of_row w g _ _ _ _ h] <;> rfl
/-- The end of a call whose first result is a node in memory. -/
theorem ret_node3 {fn : Func} {R : Ending → World → Prop} {tmps : Array Value} {x y : Value} (hf : fn.results = #[.cell 2 33, .tmp 3, .tmp 4]) (h : Six w g c0 c1 c2 c3 c4 c5)
    (h2 : tmps[2]? = some (.pointer (some ⟨g, 0, none⟩))) (h3 : tmps[3]? = some x) (h4 : tmps[4]? = some y) (hR : R (.returned (.tuple #[.agg #[c0, c1, c2, c3, c4, c5], x, y])) w) :
    bodyPost Try.prog fn R .ret ⟨tmps, []⟩ w := by
  obtain ⟨k0, k1, k2, k3, k4, k5⟩ := h.cells
  refine bodyPost_ret (v := .tuple #[.agg #[c0, c1, c2, c3, c4, c5], x, y]) ?_ rfl hR
  simp [results, hf, go_sem, h2, h3, h4, k0, k1, k2, k3, k4, k5]
end

theorem six_new {w w1 : World} {c0 c1 c2 c3 c4 c5 : Value} {t : TypeId} (hB : Below (w.heap.size + 1) (w.alloc (.cells #[c0, c1, c2, c3, c4, c5] t)) w1) :
    (w1.cell? ⟨w.heap.size, 0, none⟩ = some c0 ∧ w1.cell? ⟨w.heap.size, 1, none⟩ = some c1 ∧ w1.cell? ⟨w.heap.size, 2, none⟩ = some c2 ∧
    w1.cell? ⟨w.heap.size, 3, none⟩ = some c3 ∧ w1.cell? ⟨w.heap.size, 4, none⟩ = some c4 ∧ w1.cell? ⟨w.heap.size, 5, none⟩ = some c5) ∧ ∀ j, w1.frozen? ⟨w.heap.size, j, none⟩ = false := by
  refine ⟨⟨?_, ?_, ?_, ?_, ?_, ?_⟩, fun j => ?_⟩
  case refine_7 => rw [hB.frozen (p := ⟨w.heap.size, j, none⟩) (by simp)]; simp
  all_goals rw [hB.cell (by simp)]; simp
theorem below_new {w w1 : World} {o : Obj} (hB : Below (w.heap.size + 1) (w.alloc o) w1) : Below w.heap.size w w1 := ((Below.refl _ _).alloc (Nat.le_refl _) _).trans (hB.mono (by omega))
theorem nodePost_yes (l r : List UInt8) (n : Nat) (w w' : World) (a b c d : Nat) (h g : UInt8) (s' : ByteArray) (hk : rdK 4 l = some ([a, b, c, d], h :: g :: r)) (hr : s'.data.toList = r) (hn : s'.size ≤ n) (hb : Below w.heap.size w w') :
    nodePost (rdNode l) n w (.returned (.tuple #[.agg #[.int .i64 a, .int .i64 b, .int .i64 c, .int .i64 d, .int .u8 (h.toNat : Int), .int .u8 (g.toNat : Int)], .string s', .bool true])) w' :=
  ⟨⟨a, b, c, d, h, g⟩, s', true, rfl, .inl ⟨rfl, by rw [hr]; simp [rdNode, hk, nodeOf]⟩, hn, hb⟩
theorem size_extract_two (s : ByteArray) : (s.extract 2 s.size).size ≤ s.size := size_extract_le s 2
theorem two_bytes (s : ByteArray) (h : 2 ≤ s.size) : s.data.toList = s[0] :: s[1] :: (s.extract 2 s.size).data.toList := by
  rw [extract_list, ← drop_cons s 1 (by omega), ← drop_cons s 0 (by omega)]; rfl
theorem few_bytes (l : List UInt8) (s : ByteArray) (qs : List Nat) (h : rdK 4 l = some (qs, s.data.toList)) (hs : s.size < 2) : rdNode l = none := by
  have hl : s.data.toList.length < 2 := by simpa using hs
  simp only [rdNode, h, Option.bind_some]
  match s.data.toList, hl with
  | [], _ => unfold nodeOf; split <;> simp_all
  | [_], _ => unfold nodeOf; split <;> simp_all

theorem four_new (w : World) (o : Obj) : Four ((w.alloc o).alloc (.cells #[.int .i64 0, .int .i64 0, .int .i64 0, .int .i64 0] 116)) (w.heap.size + 1) 0 0 0 0 := by
  have h := heap_alloc_new (w.alloc o) (.cells #[.int .i64 0, .int .i64 0, .int .i64 0, .int .i64 0] 116)
  rw [show (w.alloc o).heap.size = w.heap.size + 1 from by simp] at h
  exact h

theorem rdNode_four (l r : List UInt8) (a b c d : Nat) (h : rdK 4 l = some ([a, b, c, d], r)) : rdNode l = nodeOf [a, b, c, d] r := by simp [rdNode, h]
theorem rdNode_stop (k : Nat) (l r : List UInt8) (qs : List Nat) (hk : k < 4) (h : rdK k l = some (qs, r)) (h' : rdNum r = none) : rdNode l = none := by
  simp [rdNode, rdK_stop k l r qs h h' 4 hk]

set_option maxHeartbeats 1000000 in
set_option maxRecDepth 100000 in
theorem readNode_any (s : ByteArray) (w : World) (hs : s.size ≤ maxLen) :
    Calls Try.prog 54 #[.string s] w (nodePost (rdNode s.data.toList) s.size w) := by
  unfold maxLen at hs
  go_enter Try.func54, Try.ntmps54
  go_wp2
  go_loopw [0, 7] (fun x i wr => ∃ (k : Nat) (s' : ByteArray) (a0 a1 a2 a3 : Nat) (qs : List Nat), k ≤ 4 ∧ i = .int .i64 k ∧ x = .string s' ∧ s'.size ≤ s.size ∧ Hid (qs = [a0, a1, a2, a3].take k) ∧ Hid (rdK k s.data.toList = some (qs, s'.data.toList)) ∧
      Four wr (w.heap.size + 1) a0 a1 a2 a3 ∧ Below (w.heap.size + 1) (w.alloc (.cells #[.int .i64 0, .int .i64 0, .int .i64 0, .int .i64 0, .int .u8 0, .int .u8 0] 33)) wr)
      (fun _ i _ => 4 - (intOf i).toNat)
  case atStart =>
    refine ⟨0, s, 0, 0, 0, 0, [], by omega, rfl, rfl, Nat.le_refl _, rfl, rfl, ?_, ?_⟩
    · exact four_new w _
    · exact (Below.refl _ _).alloc (by simp) _
  case round =>
    obtain ⟨k, s', a0, a1, a2, a3, qs, hk, rfl, rfl, hsz, HA, HR, hF, hB⟩ := hrel
    have hsz2 := hB.size
    simp at hsz2
    by_cases hlt : k < 4
    · go_wp2_with fail
      refine (readNumber_any s' _ (by unfold maxLen; omega)).mono ?_
      rintro e w1 ⟨n, s2, b, rfl, ho, hsz3, hb⟩
      have hF1 := hF.below hb
      have hB1 : Below (w.heap.size + 1) (w.alloc (.cells #[.int .i64 0, .int .i64 0, .int .i64 0, .int .i64 0, .int .u8 0, .int .u8 0] 33)) w1 := hB.trans (hb.mono hsz2)
      obtain ⟨c0, c1, c2, c3⟩ := hF1.cells
      have hlv := hF1.live
      have hkk : k = 0 ∨ k = 1 ∨ k = 2 ∨ k = 3 := by omega
      rcases ho with ⟨rfl, ho⟩ | ⟨rfl, ho, rfl, _⟩
      · have HO : Hid _ := ho
        clear ho hb hF hB
        rcases hkk with rfl | rfl | rfl | rfl
        · go_wp2
          go_roundw
          case rel => exact ⟨1, s2, n, a1, a2, a3, [n], by omega, rfl, rfl, by omega, rfl, (by have := rdK_step 0 _ _ _ _ _ HR.out HO.out; rw [HA.out] at this; simpa [Hid] using this), (by have := heap_set (k := 0) hF1 (.int .i64 n); simpa [Four] using this), hB1.setCell (by simp) _⟩
          case measure => simp [intOf]
        · go_wp2
          go_roundw
          case rel => exact ⟨2, s2, a0, n, a2, a3, [a0, n], by omega, rfl, rfl, by omega, rfl, (by have := rdK_step 1 _ _ _ _ _ HR.out HO.out; rw [HA.out] at this; simpa [Hid] using this), (by have := heap_set (k := 1) hF1 (.int .i64 n); simpa [Four] using this), hB1.setCell (by simp) _⟩
          case measure => simp [intOf]
        · go_wp2
          go_roundw
          case rel => exact ⟨3, s2, a0, a1, n, a3, [a0, a1, n], by omega, rfl, rfl, by omega, rfl, (by have := rdK_step 2 _ _ _ _ _ HR.out HO.out; rw [HA.out] at this; simpa [Hid] using this), (by have := heap_set (k := 2) hF1 (.int .i64 n); simpa [Four] using this), hB1.setCell (by simp) _⟩
          case measure => simp [intOf]
        · go_wp2
          go_roundw
          case rel => exact ⟨4, s2, a0, a1, a2, n, [a0, a1, a2, n], by omega, rfl, rfl, by omega, rfl, (by have := rdK_step 3 _ _ _ _ _ HR.out HO.out; rw [HA.out] at this; simpa [Hid] using this), (by have := heap_set (k := 3) hF1 (.int .i64 n); simpa [Four] using this), hB1.setCell (by simp) _⟩
          case measure => simp [intOf]
      · have HO : Hid _ := rdNode_stop k _ _ _ hlt HR.out ho
        have hfin := below_new hB1
        obtain ⟨⟨d0, d1, d2, d3, d4, d5⟩, hlv2⟩ := six_new hB1
        clear ho hb hF hB
        rcases hkk with rfl | rfl | rfl | rfl
        all_goals go_wp2
        all_goals refine bodyPost_ret (v := .tuple #[.agg #[.int .i64 0, .int .i64 0, .int .i64 0, .int .i64 0, .int .u8 0, .int .u8 0], .string ⟨#[]⟩, .bool false]) ?_ rfl (nodePost_no _ _ _ _ HO.out ?_)
        all_goals first | (simp [results, Try.results54, go_sem, d0, d1, d2, d3, d4, d5]; done) | (repeat (refine Below.setCell ?_ (by simp) _)); exact hfin
    · have hk4 : k = 4 := by omega
      subst hk4
      have hfin := below_new hB
      obtain ⟨⟨d0, d1, d2, d3, d4, d5⟩, hlv2⟩ := six_new hB
      obtain ⟨c0, c1, c2, c3⟩ := hF.cells
      by_cases hl2 : s'.size < 2
      · have HO : Hid _ := few_bytes _ _ _ HR.out hl2
        go_wp2
        refine bodyPost_ret (v := .tuple #[.agg #[.int .i64 0, .int .i64 0, .int .i64 0, .int .i64 0, .int .u8 0, .int .u8 0], .string ⟨#[]⟩, .bool false]) ?_ rfl (nodePost_no _ _ _ _ HO.out ?_)
        all_goals first | (simp [results, Try.results54, go_sem, d0, d1, d2, d3, d4, d5]; done) | (repeat (refine Below.setCell ?_ (by simp) _)); exact hfin
      · have h01 : (1 : Int) < (s'.size : Int) := by omega
        have h00 : (0 : Int) < (s'.size : Int) := by omega
        have n0 : 0 < s'.size := by omega
        have n1 : 1 < s'.size := by omega
        have n2 : 2 ≤ s'.size := by omega
        go_wp2
        go_region
        all_goals go_wp2
        all_goals go_region
        all_goals go_wp2
        have H := ((((Six.new w _ _ _ _ _ _).below hB (by omega)).set (.int .i64 a0) (.int .i64 a1) (.int .i64 a2) (.int .i64 a3) (.int .u8 s'[0].toNat) (.int .u8 s'[1].toNat)).set (.int .i64 a0) (.int .i64 a1) (.int .i64 a2) (.int .i64 a3) (.int .u8 s'[0].toNat) (.int .u8 s'[1].toNat)).drew.drew
        refine ret_node3 Try.results54 H rfl rfl rfl (nodePost_yes _ _ _ _ _ a0 a1 a2 a3 _ _ _ (by have := HR.out; rw [HA.out, two_bytes s' n2] at this; simpa using this) rfl (by have := size_extract_two s'; omega) ?_)
        refine Below.drew (Below.drew ?_)
        repeat (refine Below.setCell ?_ (by simp) _)
        exact hfin

end Go.Proofs.Ytlggbcceoejkkaa
