/- What readNumber does. -/
import Derived.Deep.QuietTactic
import Derived.BigQuiet
import Derived.Test.YtogmdaopfnmobaaGreatC06
import Derived.Test.YtogmdaopfnmobaaGreatC02
namespace Go.Proofs.YtogmdaopfnmobaaGreat
open Go.RowKit
def rdOut (o : Option (Nat × List UInt8)) (n : Nat) (r : List UInt8) (b : Bool) : Prop := (b = true ∧ o = some (n, r)) ∨ (b = false ∧ o = none ∧ n = 0 ∧ r = [])
theorem drop_cons (s : ByteArray) (k : Nat) (h : k < s.size) : s.data.toList.drop k = s[k] :: s.data.toList.drop (k + 1) := by
  rw [List.drop_eq_getElem_cons (by simpa using h)]; rfl
theorem extract_list (s : ByteArray) (k : Nat) : (s.extract k s.size).data.toList = s.data.toList.drop k := by
  simp [ByteArray.data_extract, Array.toList_extract, List.extract_eq_take_drop]
  rw [List.take_of_length_le]
  simp
def numPost (s : ByteArray) (w : World) (e : Ending) (w' : World) : Prop :=
  ∃ (n : Nat) (s' : ByteArray) (b : Bool), e = .returned (.tuple #[.int .i64 n, .string s', .bool b]) ∧ rdOut (rdNum s.data.toList) n s'.data.toList b ∧ s'.size ≤ s.size ∧ Below w.heap.size w w'
theorem size_extract_le (s : ByteArray) (k : Nat) : (s.extract k s.size).size ≤ s.size := by
  simp [ByteArray.size_extract]
theorem below_drewN (w : World) (n : Nat) : Below w.heap.size w (w.drewN n) := ⟨rfl, rfl, rfl, Nat.le_refl _, fun _ _ => rfl⟩
theorem num_rel (s : ByteArray) (k acc : Nat) (hz : k < s.size) (h5 : k < 5) (hac : acc < 128 ^ k) (HR : rdNum s.data.toList = rdN (4 - k) (k + 1) (acc + s[k].toNat % 128 * 128 ^ k) (s.data.toList.drop (k + 1)))
    (v i : Int) (hv : v = ((acc + s[k].toNat % 128 * 128 ^ k : Nat) : Int)) (hi : i = ((k + 1 : Nat) : Int)) :
    ∃ k' acc' : Nat, k' ≤ 5 ∧ k' ≤ s.size ∧ Value.int .i64 i = .int .i64 k' ∧ Value.int .i64 v = .int .i64 acc' ∧ acc' ≤ 34359738367 ∧ Hid (acc' < 128 ^ k') ∧ Hid (rdNum s.data.toList = rdN (5 - k') k' acc' (s.data.toList.drop k')) := by
  have hlt : acc + s[k].toNat % 128 * 128 ^ k < 128 ^ (k + 1) := by
    have h1 : s[k].toNat % 128 * 128 ^ k ≤ 127 * 128 ^ k := Nat.mul_le_mul_right _ (by omega)
    rw [Nat.pow_succ]; omega
  have hle : 128 ^ (k + 1) ≤ 128 ^ 5 := Nat.pow_le_pow_right (by omega) (by omega)
  refine ⟨k + 1, acc + s[k].toNat % 128 * 128 ^ k, by omega, by omega, by rw [hi], by rw [hv], ?_, hlt, ?_⟩
  · have : (128 : Nat) ^ 5 = 34359738368 := by decide
    omega
  · rw [show 5 - (k + 1) = 4 - k from by omega]; exact HR
theorem num_ret (s : ByteArray) (w w' : World) (k acc : Nat) (hz : k < s.size) (h128 : ¬ 128 ≤ s[k].toNat) (hb : Below w.heap.size w w') (HR : rdNum s.data.toList = some (acc + s[k].toNat * 128 ^ k, s.data.toList.drop (k + 1)))
    (v : Int) (hv : v = ((acc + s[k].toNat % 128 * 128 ^ k : Nat) : Int)) : numPost s w (.returned (.tuple #[.int .i64 v, .string (s.extract (k + 1) s.size), .bool true])) w' := by
  have e : s[k].toNat % 128 = s[k].toNat := by omega
  rw [e] at hv
  exact ⟨_, _, true, by rw [hv], .inl ⟨rfl, by rw [extract_list]; exact HR⟩, size_extract_le s _, hb⟩
set_option maxHeartbeats 1000000 in
set_option maxRecDepth 100000 in
theorem readNumber_any (s : ByteArray) (w : World) (hs : s.size ≤ maxLen) :
    Calls Tryz.prog 145 #[.string s] w (numPost s w) := by
  unfold maxLen at hs
  go_enter Tryz.func145, Tryz.ntmps145
  go_wp2
  all_goals
    go_loop [2, 9] (fun n i => ∃ k acc : Nat, k ≤ 5 ∧ k ≤ s.size ∧ i = .int .i64 k ∧ n = .int .i64 acc ∧ acc ≤ 34359738367 ∧ Hid (acc < 128 ^ k) ∧ Hid (rdNum s.data.toList = rdN (5 - k) k acc (s.data.toList.drop k))) (fun _ i => 5 - (intOf i).toNat)
    case atStart => exact ⟨0, 0, by omega, by omega, rfl, rfl, by omega, by simp [Hid], by simp [Hid, rdNum]⟩
    case round =>
      obtain ⟨k, acc, hk5, hks, rfl, rfl, hacc, HA, HR⟩ := hrel
      by_cases hlt : k < 5 ∧ k < s.size
      · obtain ⟨h5, hz⟩ := hlt
        rw [drop_cons s k hz] at HR
        have hb256 : (s[k].toNat : Int) < 256 := by have := s[k].toNat_lt; omega
        have hkk : k = 0 ∨ k = 1 ∨ k = 2 ∨ k = 3 ∨ k = 4 := by omega
        have hac := HA.out
        by_cases h128 : 128 ≤ s[k].toNat
        · rw [show 5 - k = (4 - k) + 1 from by omega, rdN_more _ _ _ _ _ h128] at HR
          rcases hkk with rfl | rfl | rfl | rfl | rfl
          all_goals simp at hac
          all_goals go_wp2
          all_goals go_round
          all_goals first | exact num_rel s _ acc hz h5 HA.out HR _ _ (by first | omega | (simp [hac]; done)) (by omega) | (simp [intOf]; done)
        · by_cases hz0 : s[k].toNat = 0 ∧ 0 < k
          · rw [show 5 - k = (4 - k) + 1 from by omega, rdN_zero _ _ _ _ _ hz0.1 hz0.2] at HR
            obtain ⟨hq, hk0⟩ := hz0
            have hqi : ((s[k].toNat : Int) == 0) = true := by simp; omega
            clear hq
            rcases hkk with rfl | rfl | rfl | rfl | rfl
            · omega
            all_goals simp at hac
            all_goals go_wp2
            all_goals go_ret3
            all_goals exact ⟨0, ⟨#[]⟩, false, rfl, .inr ⟨rfl, HR, rfl, rfl⟩, Nat.zero_le _, Below.refl _ _⟩
          · rw [show 5 - k = (4 - k) + 1 from by omega, rdN_last _ _ _ _ _ h128 hz0] at HR
            by_cases hq : s[k].toNat = 0
            · have hk0 : k = 0 := by omega
              subst hk0
              have hqi : ((s[0].toNat : Int) == 0) = true := by simp; omega
              simp at hac
              go_wp2
              go_quiet (fail)
              go_wp2
              go_ret3
              exact num_ret s w _ 0 acc hz h128 (below_drewN w _) HR _ (by first | omega | (simp [hac]; done))
            · have hqi : ((s[k].toNat : Int) == 0) = false := by simp; omega
              clear hz0 hq
              rcases hkk with rfl | rfl | rfl | rfl | rfl
              all_goals simp at hac
              all_goals go_wp2
              all_goals go_quiet (fail)
              all_goals go_wp2
              all_goals go_ret3
              all_goals exact num_ret s w _ _ acc hz h128 (below_drewN w _) HR _ (by first | omega | (simp [hac]; done))
      · have hn : rdNum s.data.toList = none := by
          rw [HR.out]
          by_cases e : k = 5
          · subst e; rfl
          · have : s.data.toList.drop k = [] := List.drop_of_length_le (by simp; omega)
            rw [this]
            obtain ⟨j, hj⟩ : ∃ j, 5 - k = j + 1 := ⟨4 - k, by omega⟩
            rw [hj]; rfl
        have HN : Hid _ := hn
        clear hn
        go_wp2
        go_ret3
        exact ⟨0, ⟨#[]⟩, false, rfl, .inr ⟨rfl, HN.out, rfl, rfl⟩, Nat.zero_le _, Below.refl _ _⟩
end Go.Proofs.YtogmdaopfnmobaaGreat

/- What readNode does. -/
namespace Go.Proofs.YtogmdaopfnmobaaGreat
open Go.RowKit
attribute [local go_sem ↓] run_eql_node run_neq_node
def outN (o : Option (Nd × List UInt8)) (d : Nd) (r : List UInt8) (b : Bool) : Prop := (b = true ∧ o = some (d, r)) ∨ (b = false ∧ o = none ∧ d = ⟨0, 0, 0, 0, 0, 0⟩ ∧ r = [])
def nodePost (o : Option (Nd × List UInt8)) (n : Nat) (w : World) (e : Ending) (w' : World) : Prop :=
  ∃ (d : Nd) (s' : ByteArray) (b : Bool), e = .returned (.tuple #[.agg #[.int .i64 d.c, .int .i64 d.s, .int .i64 d.m, .int .i64 d.x, .int .u8 (d.h.toNat : Int), .int .u8 (d.g.toNat : Int)], .string s', .bool b]) ∧ outN o d s'.data.toList b ∧ s'.size ≤ n ∧ Below w.heap.size w w'
theorem nodePost_no (o : Option (Nd × List UInt8)) (n : Nat) (w w' : World) (h : o = none) (hb : Below w.heap.size w w') :
    nodePost o n w (.returned (.tuple #[.agg #[.int .i64 0, .int .i64 0, .int .i64 0, .int .i64 0, .int .u8 0, .int .u8 0], .string ⟨#[]⟩, .bool false])) w' :=
  ⟨⟨0, 0, 0, 0, 0, 0⟩, ⟨#[]⟩, false, rfl, .inr ⟨rfl, h, rfl, rfl⟩, Nat.zero_le _, hb⟩
def Four (w : World) (F : Nat) (a0 a1 a2 a3 : Nat) : Prop := w.heap[F]? = some (.cells #[.int .i64 a0, .int .i64 a1, .int .i64 a2, .int .i64 a3] 201 (0, 0))
theorem Four.cells {w : World} {F a0 a1 a2 a3 : Nat} (h : Four w F a0 a1 a2 a3) :
    w.cell? ⟨F, 0, none⟩ = some (.int .i64 a0) ∧ w.cell? ⟨F, 1, none⟩ = some (.int .i64 a1) ∧ w.cell? ⟨F, 2, none⟩ = some (.int .i64 a2) ∧ w.cell? ⟨F, 3, none⟩ = some (.int .i64 a3) := by
  refine ⟨?_, ?_, ?_, ?_⟩ <;> rw [cell_of_row w F _ _ _ _ h] <;> rfl
theorem Four.live {w : World} {F a0 a1 a2 a3 : Nat} (h : Four w F a0 a1 a2 a3) (j : Nat) : w.frozen? ⟨F, j, none⟩ = false := by
  unfold Four at h
  simp [World.frozen?, h]
theorem Four.below {w w' : World} {F a0 a1 a2 a3 : Nat} (h : Four w F a0 a1 a2 a3) (hb : Below w.heap.size w w') : Four w' F a0 a1 a2 a3 := by
  unfold Four at h ⊢
  rw [hb.block F (Array.getElem?_eq_some_iff.1 h).1]; exact h
theorem heap_set {w : World} {F k : Nat} {C : Array Value} {t : TypeId} {fr : Nat × Nat} (h : w.heap[F]? = some (.cells C t fr)) (v : Value) : (w.setCell ⟨F, k, none⟩ v).heap[F]? = some (.cells (C.setIfInBounds k v) t fr) := by
  simp [World.setCell, Array.getElem?_modify, h]
def Six (w : World) (g : Nat) (c0 c1 c2 c3 c4 c5 : Value) : Prop := w.heap[g]? = some (.cells #[c0, c1, c2, c3, c4, c5] 51 (0, 0))
section
variable {w : World} {g : Nat} {c0 c1 c2 c3 c4 c5 : Value}
theorem Six.set0 (h : Six w g c0 c1 c2 c3 c4 c5) (v : Value) : Six (w.setCell ⟨g, 0, none⟩ v) g v c1 c2 c3 c4 c5 := heap_set (k := 0) h v
theorem Six.set1 (h : Six w g c0 c1 c2 c3 c4 c5) (v : Value) : Six (w.setCell ⟨g, 1, none⟩ v) g c0 v c2 c3 c4 c5 := heap_set (k := 1) h v
theorem Six.set2 (h : Six w g c0 c1 c2 c3 c4 c5) (v : Value) : Six (w.setCell ⟨g, 2, none⟩ v) g c0 c1 v c3 c4 c5 := heap_set (k := 2) h v
theorem Six.set3 (h : Six w g c0 c1 c2 c3 c4 c5) (v : Value) : Six (w.setCell ⟨g, 3, none⟩ v) g c0 c1 c2 v c4 c5 := heap_set (k := 3) h v
theorem Six.set4 (h : Six w g c0 c1 c2 c3 c4 c5) (v : Value) : Six (w.setCell ⟨g, 4, none⟩ v) g c0 c1 c2 c3 v c5 := heap_set (k := 4) h v
theorem Six.set5 (h : Six w g c0 c1 c2 c3 c4 c5) (v : Value) : Six (w.setCell ⟨g, 5, none⟩ v) g c0 c1 c2 c3 c4 v := heap_set (k := 5) h v
theorem Six.set (h : Six w g c0 c1 c2 c3 c4 c5) (d0 d1 d2 d3 d4 d5 : Value) :
    Six ((((((w.setCell ⟨g, 0, none⟩ d0).setCell ⟨g, 1, none⟩ d1).setCell ⟨g, 2, none⟩ d2).setCell ⟨g, 3, none⟩ d3).setCell ⟨g, 4, none⟩ d4).setCell ⟨g, 5, none⟩ d5) g d0 d1 d2 d3 d4 d5 :=
  (((((h.set0 d0).set1 d1).set2 d2).set3 d3).set4 d4).set5 d5
theorem Six.drew (h : Six w g c0 c1 c2 c3 c4 c5) : Six w.drew g c0 c1 c2 c3 c4 c5 := h
theorem Six.below {w' : World} {B : Nat} (h : Six w g c0 c1 c2 c3 c4 c5) (hb : Below B w w') (hg : g < B) : Six w' g c0 c1 c2 c3 c4 c5 := by
  unfold Six at h ⊢
  rw [hb.block g hg]; exact h
theorem Six.new (w : World) (c0 c1 c2 c3 c4 c5 : Value) : Six (w.alloc (.cells #[c0, c1, c2, c3, c4, c5] 51)) w.heap.size c0 c1 c2 c3 c4 c5 := heap_alloc_new w _
theorem Six.cells (h : Six w g c0 c1 c2 c3 c4 c5) : (w.cell? ⟨g, 0, none⟩ = some c0 ∧ w.cell? ⟨g, 1, none⟩ = some c1 ∧ w.cell? ⟨g, 2, none⟩ = some c2 ∧
    w.cell? ⟨g, 3, none⟩ = some c3 ∧ w.cell? ⟨g, 4, none⟩ = some c4 ∧ w.cell? ⟨g, 5, none⟩ = some c5) := by
  refine ⟨?_, ?_, ?_, ?_, ?_, ?_⟩ <;> rw [cell_of_row w g _ _ _ _ h] <;> rfl
theorem ret_node3 {fn : Func} {R : Ending → World → Prop} {tmps : Array Value} {x y : Value} (hf : fn.results = #[.cell 2 51, .tmp 3, .tmp 4]) (h : Six w g c0 c1 c2 c3 c4 c5)
    (h2 : tmps[2]? = some (.pointer (some ⟨g, 0, none⟩))) (h3 : tmps[3]? = some x) (h4 : tmps[4]? = some y) (hR : R (.returned (.tuple #[.agg #[c0, c1, c2, c3, c4, c5], x, y])) w) :
    bodyPost Tryz.prog fn R .ret ⟨tmps, []⟩ w := by
  obtain ⟨k0, k1, k2, k3, k4, k5⟩ := h.cells
  refine bodyPost_ret (v := .tuple #[.agg #[c0, c1, c2, c3, c4, c5], x, y]) ?_ rfl hR
  simp [results, hf, go_sem, h2, h3, h4, k0, k1, k2, k3, k4, k5]
end
theorem six_new {w w1 : World} {c0 c1 c2 c3 c4 c5 : Value} {t : TypeId} (hB : Below (w.heap.size + 1) (w.alloc (.cells #[c0, c1, c2, c3, c4, c5] t)) w1) :
    (w1.cell? ⟨w.heap.size, 0, none⟩ = some c0 ∧ w1.cell? ⟨w.heap.size, 1, none⟩ = some c1 ∧ w1.cell? ⟨w.heap.size, 2, none⟩ = some c2 ∧
    w1.cell? ⟨w.heap.size, 3, none⟩ = some c3 ∧ w1.cell? ⟨w.heap.size, 4, none⟩ = some c4 ∧ w1.cell? ⟨w.heap.size, 5, none⟩ = some c5) ∧ ∀ j, w1.frozen? ⟨w.heap.size, j, none⟩ = false := by
  refine ⟨⟨?_, ?_, ?_, ?_, ?_, ?_⟩, fun j => ?_⟩
  case refine_7 => rw [hB.frozen (p := ⟨w.heap.size, j, none⟩) (by simp)]; simp
  all_goals rw [hB.cell (by simp)]; simp
theorem below_new {w w1 : World} {o : Obj} (hB : Below (w.heap.size + 1) (w.alloc o) w1) : Below w.heap.size w w1 := ((Below.refl _ _).alloc (Nat.le_refl _) _).trans (hB.mono (by omega))
theorem nodePost_yes (l r : List UInt8) (n : Nat) (w w' : World) (a b c d : Nat) (h g : UInt8) (s' : ByteArray) (hk : rdK 4 l = some ([a, b, c, d], h :: g :: r)) (hr : s'.data.toList = r) (hn : s'.size ≤ n) (hb : Below w.heap.size w w') :
    nodePost (rdNode l) n w (.returned (.tuple #[.agg #[.int .i64 a, .int .i64 b, .int .i64 c, .int .i64 d, .int .u8 (h.toNat : Int), .int .u8 (g.toNat : Int)], .string s', .bool true])) w' :=
  ⟨⟨a, b, c, d, h, g⟩, s', true, rfl, .inl ⟨rfl, by rw [hr]; simp [rdNode, hk, nodeOf]⟩, hn, hb⟩
theorem size_extract_two (s : ByteArray) : (s.extract 2 s.size).size ≤ s.size := size_extract_le s 2
theorem two_bytes (s : ByteArray) (h : 2 ≤ s.size) : s.data.toList = s[0] :: s[1] :: (s.extract 2 s.size).data.toList := by
  rw [extract_list, ← drop_cons s 1 (by omega), ← drop_cons s 0 (by omega)]; rfl
theorem few_bytes (l : List UInt8) (s : ByteArray) (qs : List Nat) (h : rdK 4 l = some (qs, s.data.toList)) (hs : s.size < 2) : rdNode l = none := by
  have hl : s.data.toList.length < 2 := by simpa using hs
  simp only [rdNode, h, Option.bind_some]
  match s.data.toList, hl with
  | [], _ => unfold nodeOf; split <;> simp_all
  | [_], _ => unfold nodeOf; split <;> simp_all
theorem four_new (w : World) (o : Obj) : Four ((w.alloc o).alloc (.cells #[.int .i64 0, .int .i64 0, .int .i64 0, .int .i64 0] 201)) (w.heap.size + 1) 0 0 0 0 := by
  have h := heap_alloc_new (w.alloc o) (.cells #[.int .i64 0, .int .i64 0, .int .i64 0, .int .i64 0] 201)
  rw [show (w.alloc o).heap.size = w.heap.size + 1 from by simp] at h
  exact h
theorem rdNode_stop (k : Nat) (l r : List UInt8) (qs : List Nat) (hk : k < 4) (h : rdK k l = some (qs, r)) (h' : rdNum r = none) : rdNode l = none := by
  simp [rdNode, rdK_stop k l r qs h h' 4 hk]
set_option maxHeartbeats 1000000 in
set_option maxRecDepth 100000 in
theorem readNode_any (s : ByteArray) (w : World) (hs : s.size ≤ maxLen) :
    Calls Tryz.prog 141 #[.string s] w (nodePost (rdNode s.data.toList) s.size w) := by
  unfold maxLen at hs
  go_enter Tryz.func141, Tryz.ntmps141
  go_wp2
  go_loopw [0, 7] (fun x i wr => ∃ (k : Nat) (s' : ByteArray) (a0 a1 a2 a3 : Nat) (qs : List Nat), k ≤ 4 ∧ i = .int .i64 k ∧ x = .string s' ∧ s'.size ≤ s.size ∧ Hid (qs = [a0, a1, a2, a3].take k) ∧ Hid (rdK k s.data.toList = some (qs, s'.data.toList)) ∧
      Four wr (w.heap.size + 1) a0 a1 a2 a3 ∧ Below (w.heap.size + 1) (w.alloc (.cells #[.int .i64 0, .int .i64 0, .int .i64 0, .int .i64 0, .int .u8 0, .int .u8 0] 51)) wr)
      (fun _ i _ => 4 - (intOf i).toNat)
  case atStart =>
    refine ⟨0, s, 0, 0, 0, 0, [], by omega, rfl, rfl, Nat.le_refl _, rfl, rfl, ?_, ?_⟩
    · exact four_new w _
    · exact (Below.refl _ _).alloc (by simp) _
  case round =>
    obtain ⟨k, s', a0, a1, a2, a3, qs, hk, rfl, rfl, hsz, HA, HR, hF, hB⟩ := hrel
    have hsz2 := hB.size
    simp at hsz2
    by_cases hlt : k < 4
    · go_wp2_with fail
      refine (readNumber_any s' _ (by unfold maxLen; omega)).mono ?_
      rintro e w1 ⟨n, s2, b, rfl, ho, hsz3, hb⟩
      have hF1 := hF.below hb
      have hB1 : Below (w.heap.size + 1) (w.alloc (.cells #[.int .i64 0, .int .i64 0, .int .i64 0, .int .i64 0, .int .u8 0, .int .u8 0] 51)) w1 := hB.trans (hb.mono hsz2)
      obtain ⟨c0, c1, c2, c3⟩ := hF1.cells
      have hlv := hF1.live
      have hkk : k = 0 ∨ k = 1 ∨ k = 2 ∨ k = 3 := by omega
      rcases ho with ⟨rfl, ho⟩ | ⟨rfl, ho, rfl, _⟩
      · have HO : Hid _ := ho
        clear ho hb hF hB
        rcases hkk with rfl | rfl | rfl | rfl
        · go_wp2
          go_roundw
          case rel => exact ⟨1, s2, n, a1, a2, a3, [n], by omega, rfl, rfl, by omega, rfl, (by have := rdK_step 0 _ _ _ _ _ HR.out HO.out; rw [HA.out] at this; simpa [Hid] using this), (by have := heap_set (k := 0) hF1 (.int .i64 n); simpa [Four] using this), hB1.setCell (by simp) _⟩
          case measure => simp [intOf]
        · go_wp2
          go_roundw
          case rel => exact ⟨2, s2, a0, n, a2, a3, [a0, n], by omega, rfl, rfl, by omega, rfl, (by have := rdK_step 1 _ _ _ _ _ HR.out HO.out; rw [HA.out] at this; simpa [Hid] using this), (by have := heap_set (k := 1) hF1 (.int .i64 n); simpa [Four] using this), hB1.setCell (by simp) _⟩
          case measure => simp [intOf]
        · go_wp2
          go_roundw
          case rel => exact ⟨3, s2, a0, a1, n, a3, [a0, a1, n], by omega, rfl, rfl, by omega, rfl, (by have := rdK_step 2 _ _ _ _ _ HR.out HO.out; rw [HA.out] at this; simpa [Hid] using this), (by have := heap_set (k := 2) hF1 (.int .i64 n); simpa [Four] using this), hB1.setCell (by simp) _⟩
          case measure => simp [intOf]
        · go_wp2
          go_roundw
          case rel => exact ⟨4, s2, a0, a1, a2, n, [a0, a1, a2, n], by omega, rfl, rfl, by omega, rfl, (by have := rdK_step 3 _ _ _ _ _ HR.out HO.out; rw [HA.out] at this; simpa [Hid] using this), (by have := heap_set (k := 3) hF1 (.int .i64 n); simpa [Four] using this), hB1.setCell (by simp) _⟩
          case measure => simp [intOf]
      · have HO : Hid _ := rdNode_stop k _ _ _ hlt HR.out ho
        have hfin := below_new hB1
        obtain ⟨⟨d0, d1, d2, d3, d4, d5⟩, hlv2⟩ := six_new hB1
        clear ho hb hF hB
        rcases hkk with rfl | rfl | rfl | rfl
        all_goals go_wp2
        all_goals refine bodyPost_ret (v := .tuple #[.agg #[.int .i64 0, .int .i64 0, .int .i64 0, .int .i64 0, .int .u8 0, .int .u8 0], .string ⟨#[]⟩, .bool false]) ?_ rfl (nodePost_no _ _ _ _ HO.out ?_)
        all_goals first | (simp [results, Tryz.results141, go_sem, d0, d1, d2, d3, d4, d5]; done) | (repeat (refine Below.setCell ?_ (by simp) _)); exact hfin
    · have hk4 : k = 4 := by omega
      subst hk4
      have hfin := below_new hB
      obtain ⟨⟨d0, d1, d2, d3, d4, d5⟩, hlv2⟩ := six_new hB
      obtain ⟨c0, c1, c2, c3⟩ := hF.cells
      by_cases hl2 : s'.size < 2
      · have HO : Hid _ := few_bytes _ _ _ HR.out hl2
        go_wp2
        refine bodyPost_ret (v := .tuple #[.agg #[.int .i64 0, .int .i64 0, .int .i64 0, .int .i64 0, .int .u8 0, .int .u8 0], .string ⟨#[]⟩, .bool false]) ?_ rfl (nodePost_no _ _ _ _ HO.out ?_)
        all_goals first | (simp [results, Tryz.results141, go_sem, d0, d1, d2, d3, d4, d5]; done) | (repeat (refine Below.setCell ?_ (by simp) _)); exact hfin
      · have h01 : (1 : Int) < (s'.size : Int) := by omega
        have h00 : (0 : Int) < (s'.size : Int) := by omega
        have n0 : 0 < s'.size := by omega
        have n1 : 1 < s'.size := by omega
        have n2 : 2 ≤ s'.size := by omega
        go_wp2
        go_region
        all_goals go_wp2
        all_goals go_region
        all_goals go_wp2
        have H := ((((Six.new w _ _ _ _ _ _).below hB (by omega)).set (.int .i64 a0) (.int .i64 a1) (.int .i64 a2) (.int .i64 a3) (.int .u8 s'[0].toNat) (.int .u8 s'[1].toNat)).set (.int .i64 a0) (.int .i64 a1) (.int .i64 a2) (.int .i64 a3) (.int .u8 s'[0].toNat) (.int .u8 s'[1].toNat)).drew.drew
        refine ret_node3 Tryz.results141 H rfl rfl rfl (nodePost_yes _ _ _ _ _ a0 a1 a2 a3 _ _ _ (by have := HR.out; rw [HA.out, two_bytes s' n2] at this; simpa using this) rfl (by have := size_extract_two s'; omega) ?_)
        refine Below.drew (Below.drew ?_)
        repeat (refine Below.setCell ?_ (by simp) _)
        exact hfin
end Go.Proofs.YtogmdaopfnmobaaGreat

