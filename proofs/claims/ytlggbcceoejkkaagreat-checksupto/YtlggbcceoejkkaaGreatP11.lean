/- What the document's own answer does (notaryref): Write, takes. -/
import Derived.Test.YtlggbcceoejkkaaGreatP10
import Derived.Test.YtlggbcceoejkkaaGreatP02
namespace Go.Proofs.YtlggbcceoejkkaaGreat
open Go.RowKit

attribute [local go_sem ↓] run_eql_node run_neq_node

theorem ret_we {a b : ByteArray} {i j : Int} (h : a = b) (hi : i = j) : Ending.returned (.tuple #[.string a, .int .i64 i]) = .returned (.tuple #[.string b, .int .i64 j]) := by rw [h, hi]

theorem size_app (a b : ByteArray) : (a ++ b).size = a.size + b.size := by simp
theorem size_byte (b : UInt8) : (⟨#[b]⟩ : ByteArray).size = 1 := rfl
theorem mark_E (d : Nd) (h : d.isE = true) : d.mark = [0] := by simp [Nd.mark, h]
theorem mark_N (d : Nd) (h : d.isE = false) : d.mark = 1 :: d.bytes := by simp [Nd.mark, h]

/-- Bytes of a node that may be. -/
theorem refBytes_nd (d : Nd) (w : World) (hd : d.ok = true) :
    Calls Tryz.prog 59 #[.agg #[.int .i64 d.c, .int .i64 d.s, .int .i64 d.m, .int .i64 d.x, .int .u8 (d.h.toNat : Int), .int .u8 (d.g.toNat : Int)]] w fun e w' => ∃ t : ByteArray, e = .returned (.string t) ∧ t.data.toList = d.bytes ∧ Below w.heap.size w w' := by
  cases d with
  | mk c s m x h g =>
    obtain ⟨a1, a2, a3, a4⟩ := (Nd.ok_iff _).1 hd
    simp only [isNum_iff] at a1 a2 a3 a4
    obtain ⟨c, rfl⟩ := Int.eq_ofNat_of_zero_le a1.1
    obtain ⟨s, rfl⟩ := Int.eq_ofNat_of_zero_le a2.1
    obtain ⟨m, rfl⟩ := Int.eq_ofNat_of_zero_le a3.1
    obtain ⟨x, rfl⟩ := Int.eq_ofNat_of_zero_le a4.1
    exact refBytes_any c s m x h g w (by omega) (by omega) (by omega) (by omega)

set_option maxHeartbeats 1000000 in
set_option maxRecDepth 100000 in
theorem refWrite_any (v : Value) (l : List Nd) (w : World) (hl : Nodes w w.heap.size v l) :
    Calls Tryz.prog 25 #[v] w fun e w' => e = .returned (.tuple #[.string ⟨(writeB l).toArray⟩, .int .i64 (writeE l)]) ∧ Below w.heap.size w w' := by
  obtain ⟨ao, cap, rfl, hmax, hcells⟩ := hl.ex
  clear hl
  by_cases h64 : 64 < l.length
  · obtain ⟨r1, r2⟩ := write_many l h64
    rw [r1, r2]
    clear r1 r2 hcells
    go_enter Tryz.func25, Tryz.ntmps25
    go_wp2
    go_ret2
    exact ⟨rfl, Below.refl _ _⟩
  · have hd64 : decide (64 < (l.length : Int)) = false := by simp; omega
    go_enter Tryz.func25, Tryz.ntmps25
    go_wp2
    go_loopw [4, 5] (fun s i wr => ∃ (k : Nat) (t : ByteArray), k ≤ l.length ∧ i = .int .i64 k ∧ s = .string t ∧ t.size ≤ 31 * k ∧ Hid ((l.take k).all Nd.ok = true) ∧ Hid (t.data.toList = marks (l.take k)) ∧ Below w.heap.size w wr)
      (fun _ i _ => l.length - (intOf i).toNat)
    case atStart => exact ⟨0, ⟨#[]⟩, Nat.zero_le _, rfl, rfl, by decide, rfl, rfl, Below.refl _ _⟩
    case round =>
      obtain ⟨k, t, hk, rfl, rfl, htz, HA, HT, hb⟩ := hrel
      by_cases hlt : k < l.length
      · obtain ⟨b, off, rfl, hbB, hcs⟩ := hcells k hlt
        obtain ⟨d, hd⟩ : ∃ d, d = l[k] := ⟨_, rfl⟩
        rw [← hd] at hcs
        obtain ⟨k0, k1, k2, k3, k4, k5⟩ := six hb hbB hcs
        have HD : Hid _ := hd
        have HC : Hid _ := hcs
        clear hcs hd hcells
        go_wp2_with fail
        cases hok : d.ok
        · refine (refMayBe_any _ _ _ _ _ _ _ false hok).mono ?_
          rintro e w1 ⟨rfl, hb1⟩
          have HR : Hid _ := write_bad l h64 k hlt (by rw [← HD.out]; exact hok)
          have fin : Below w.heap.size w w1 := hb.trans (hb1.mono hb.size)
          go_wp2
          go_ret2
          exact ⟨by rw [HR.out.1, HR.out.2]; rfl, fin⟩
        · refine (refMayBe_any _ _ _ _ _ _ _ true hok).mono ?_
          rintro e w1 ⟨rfl, hb1⟩
          have hB1 : Below w.heap.size w w1 := hb.trans (hb1.mono hb.size)
          clear hb1 hb k0 k1 k2 k3 k4 k5
          go_wp2_with fail
          refine (refEmpty_any _).mono ?_
          rintro e w2 ⟨rfl, hb2⟩
          have hB2 : Below w.heap.size w w2 := hB1.trans (hb2.mono hB1.size)
          clear hb2 hB1
          have hs2 := hB2.size
          obtain ⟨k0, k1, k2, k3, k4, k5⟩ := six hB2 hbB HC.out
          have hne : b < w2.heap.size := by omega
          have HS : Hid _ := d.mark_length.1
          have HK : Hid (marks (l.take (k + 1)) = marks (l.take k) ++ d.mark) := by rw [take_snoc' l k hlt, ← HD.out, marks_snoc]; rfl
          have HA2 : Hid _ := all_snoc l k hlt HA.out (by rw [← HD.out]; exact hok)
          cases hE : d.isE
          · have hE' : eqN d.c d.s d.m d.x d.h.toNat d.g.toNat 0 0 0 0 1 77 = false := hE
            have HM : Hid _ := mark_N d hE
            clear hE
            go_wp2
            go_quiet (fail)
            go_wp2_with fail
            refine (refBytes_nd d _ hok).mono ?_
            rintro e w3 ⟨t3, rfl, e3, hb3⟩
            have z3 : t3.size ≤ 30 := by rw [size_list, e3]; exact d.bytes_length
            have HE3 : Hid _ := e3
            have hB3 : Below w.heap.size w w3 := (hB2.alloc hs2 _).trans (Below.trans (b := (w2.alloc (.cells #[.int .i64 0, .int .i64 0, .int .i64 0, .int .i64 0, .int .u8 1, .int .u8 77] 46)).drewN nq) ((below_drewN _ nq).mono (by simp; omega)) (hb3.mono (by simp; omega)))
            clear hb3 e3 hB2 k0 k1 k2 k3 k4 k5
            go_wp2
            go_roundw
            case rel => exact ⟨k + 1, t ++ ⟨#[1]⟩ ++ t3, by omega, by go_num, rfl, by rw [size_app, size_app, size_byte]; omega, HA2, (by rw [HK.out, HM.out, app_list, app_list, HT.out, HE3.out]; simp [Hid]), hB3⟩
            case measure => simp [intOf]; omega
          · have hE' : eqN d.c d.s d.m d.x d.h.toNat d.g.toNat 0 0 0 0 1 77 = true := hE
            have HM : Hid _ := mark_E d hE
            clear hE
            go_wp2
            go_quiet (fail)
            go_wp2
            have hB3 : Below w.heap.size w ((w2.alloc (.cells #[.int .i64 0, .int .i64 0, .int .i64 0, .int .i64 0, .int .u8 1, .int .u8 77] 46)).drewN nq) := (hB2.alloc hs2 _).trans ((below_drewN _ nq).mono (by simp; omega))
            go_roundw
            case rel => exact ⟨k + 1, t ++ ⟨#[0]⟩, by omega, by go_num, rfl, by rw [size_app, size_byte]; omega, HA2, (by rw [HK.out, HM.out, app_list, HT.out]; simp [Hid]), hB3⟩
            case measure => simp [intOf]; omega
      · have hkl : l.take k = l := List.take_of_length_le (by omega)
        have HA' := HA.out
        have HT' := HT.out
        rw [hkl] at HT' HA'
        have HR : Hid _ := write_good l h64 HA'
        have HTT : Hid _ := HT'
        clear HA HA' hcells hkl HT HT'
        go_wp2
        go_ret2
        exact ⟨ret_we (by rw [HR.out.1]; exact str_of HTT.out) HR.out.2.symm, hb⟩

/-- What takes leaves. -/
def tkOut (o : Option (Nat × List UInt8)) (n : Int) (r : List UInt8) : Prop := (0 ≤ n ∧ o = some (n.toNat, r)) ∨ (n = -1 ∧ o = none ∧ r = [])
def takesPost (s : ByteArray) (w : World) (e : Ending) (w' : World) : Prop :=
  ∃ (n : Int) (s' : ByteArray), e = .returned (.tuple #[.int .i64 n, .string s']) ∧ tkOut (rdNum s.data.toList) n s'.data.toList ∧ s'.size ≤ s.size ∧ Below w.heap.size w w'

theorem takes_rel (s : ByteArray) (k acc : Nat) (hz : k < s.size) (h5 : k < 5) (hac : acc < 128 ^ k) (HR : rdNum s.data.toList = rdN (4 - k) (k + 1) (acc + s[k].toNat % 128 * 128 ^ k) (s.data.toList.drop (k + 1)))
    (v i u : Int) (hv : v = ((acc + s[k].toNat % 128 * 128 ^ k : Nat) : Int)) (hi : i = ((k + 1 : Nat) : Int)) (hu : u = ((128 ^ (k + 1) : Nat) : Int)) :
    ∃ k' acc' : Nat, k' ≤ 5 ∧ k' ≤ s.size ∧ Value.int .i64 i = .int .i64 k' ∧ Value.int .i64 v = .int .i64 acc' ∧ Value.int .i64 u = .int .i64 ((128 ^ k' : Nat) : Int) ∧ acc' ≤ 34359738367 ∧ Hid (acc' < 128 ^ k') ∧ Hid (rdNum s.data.toList = rdN (5 - k') k' acc' (s.data.toList.drop k')) := by
  obtain ⟨k', acc', h1, h2, h3, h4, h5', h6, h7⟩ := num_rel s k acc hz h5 hac HR v i hv hi
  have hk : k' = k + 1 := by
    injection h3 with _ e
    omega
  subst hk
  exact ⟨k + 1, acc', h1, h2, h3, h4, by rw [hu], h5', h6, h7⟩
theorem takes_ret (s : ByteArray) (w w' : World) (k acc : Nat) (hz : k < s.size) (h128 : ¬ 128 ≤ s[k].toNat) (hb : Below w.heap.size w w') (HR : rdNum s.data.toList = some (acc + s[k].toNat * 128 ^ k, s.data.toList.drop (k + 1)))
    (v : Int) (hv : v = ((acc + s[k].toNat % 128 * 128 ^ k : Nat) : Int)) : takesPost s w (.returned (.tuple #[.int .i64 v, .string (s.extract (k + 1) s.size)])) w' := by
  have e : s[k].toNat % 128 = s[k].toNat := by omega
  rw [e] at hv
  exact ⟨_, _, by rw [hv], .inl ⟨by omega, by rw [extract_list, Int.toNat_natCast]; exact HR⟩, size_extract_le s _, hb⟩

set_option maxHeartbeats 1000000 in
set_option maxRecDepth 100000 in
theorem takes_any (s : ByteArray) (w : World) (hs : s.size ≤ maxLen) :
    Calls Tryz.prog 94 #[.string s] w (takesPost s w) := by
  unfold maxLen at hs
  go_enter Tryz.func94, Tryz.ntmps94
  go_wp2
  go_loop [4, 5, 6] (fun n u i => ∃ k acc : Nat, k ≤ 5 ∧ k ≤ s.size ∧ i = .int .i64 k ∧ n = .int .i64 acc ∧ u = .int .i64 ((128 ^ k : Nat) : Int) ∧ acc ≤ 34359738367 ∧ Hid (acc < 128 ^ k) ∧ Hid (rdNum s.data.toList = rdN (5 - k) k acc (s.data.toList.drop k))) (fun _ _ i => 5 - (intOf i).toNat)
  case atStart => exact ⟨0, 0, by omega, by omega, rfl, rfl, rfl, by omega, by simp [Hid], by simp [Hid, rdNum]⟩
  case round =>
    obtain ⟨k, acc, hk5, hks, rfl, rfl, rfl, hacc, HA, HR⟩ := hrel
    by_cases hlt : k < 5 ∧ k < s.size
    · obtain ⟨h5, hz⟩ := hlt
      rw [drop_cons s k hz] at HR
      have hb256 : (s[k].toNat : Int) < 256 := by have := s[k].toNat_lt; omega
      have hkk : k = 0 ∨ k = 1 ∨ k = 2 ∨ k = 3 ∨ k = 4 := by omega
      have hac := HA.out
      by_cases h128 : 128 ≤ s[k].toNat
      · rw [show 5 - k = (4 - k) + 1 from by omega, rdN_more _ _ _ _ _ h128] at HR
        rcases hkk with rfl | rfl | rfl | rfl | rfl
        all_goals simp at hac
        all_goals go_wp2
        all_goals go_round
        all_goals first | exact takes_rel s _ acc hz h5 HA.out HR _ _ _ (by first | omega | (simp [hac]; done)) (by omega) (by omega) | (simp [intOf]; done)
      · by_cases hz0 : s[k].toNat = 0 ∧ 0 < k
        · rw [show 5 - k = (4 - k) + 1 from by omega, rdN_zero _ _ _ _ _ hz0.1 hz0.2] at HR
          obtain ⟨hq, hk0⟩ := hz0
          have hqi : ((s[k].toNat : Int) == 0) = true := by simp; omega
          clear hq
          rcases hkk with rfl | rfl | rfl | rfl | rfl
          · omega
          all_goals simp at hac
          all_goals go_wp2
          all_goals go_ret2
          all_goals exact ⟨-1, ⟨#[]⟩, rfl, .inr ⟨rfl, HR, rfl⟩, Nat.zero_le _, Below.refl _ _⟩
        · rw [show 5 - k = (4 - k) + 1 from by omega, rdN_last _ _ _ _ _ h128 hz0] at HR
          by_cases hq : s[k].toNat = 0
          · have hk0 : k = 0 := by omega
            subst hk0
            have hqi : ((s[0].toNat : Int) == 0) = true := by simp; omega
            simp at hac
            go_wp2
            go_quiet (fail)
            go_wp2
            go_ret2
            exact takes_ret s w _ 0 acc hz h128 (below_drewN w _) HR _ (by first | omega | (simp [hac]; done))
          · have hqi : ((s[k].toNat : Int) == 0) = false := by simp; omega
            clear hz0 hq
            rcases hkk with rfl | rfl | rfl | rfl | rfl
            all_goals simp at hac
            all_goals go_wp2
            all_goals go_quiet (fail)
            all_goals go_wp2
            all_goals go_ret2
            all_goals exact takes_ret s w _ _ acc hz h128 (below_drewN w _) HR _ (by first | omega | (simp [hac]; done))
    · have hn : rdNum s.data.toList = none := by
        rw [HR.out]
        by_cases e : k = 5
        · subst e; rfl
        · have : s.data.toList.drop k = [] := List.drop_of_length_le (by simp; omega)
          rw [this]
          obtain ⟨j, hj⟩ : ∃ j, 5 - k = j + 1 := ⟨4 - k, by omega⟩
          rw [hj]; rfl
      have HN : Hid _ := hn
      clear hn
      by_cases hks' : k < s.size
      · go_wp2
        go_ret2
        exact ⟨-1, ⟨#[]⟩, rfl, .inr ⟨rfl, HN.out, rfl⟩, Nat.zero_le _, Below.refl _ _⟩
      · go_wp2
        go_ret2
        exact ⟨-1, ⟨#[]⟩, rfl, .inr ⟨rfl, HN.out, rfl⟩, Nat.zero_le _, Below.refl _ _⟩

end Go.Proofs.YtlggbcceoejkkaaGreat

/- What the document's own answer does (notaryref): node, Read. -/
namespace Go.Proofs.YtlggbcceoejkkaaGreat
open Go.RowKit

attribute [local go_sem ↓] run_eql_node run_neq_node

theorem rdNum_nil : rdNum [] = none := rfl
theorem rdNode_of4 (l l1 l2 l3 l4 : List UInt8) (a b c d : Nat) (h1 : rdNum l = some (a, l1)) (h2 : rdNum l1 = some (b, l2)) (h3 : rdNum l2 = some (c, l3)) (h4 : rdNum l3 = some (d, l4)) : rdK 4 l = some ([a, b, c, d], l4) := by
  simp [rdK, h1, h2, h3, h4]
theorem rdNode_bad1 (l : List UInt8) (h1 : rdNum l = none) : rdNode l = none := by simp [rdNode, rdK, h1]
theorem rdNode_bad2 (l l1 : List UInt8) (a : Nat) (h1 : rdNum l = some (a, l1)) (h2 : rdNum l1 = none) : rdNode l = none := by simp [rdNode, rdK, h1, h2]
theorem rdNode_bad3 (l l1 l2 : List UInt8) (a b : Nat) (h1 : rdNum l = some (a, l1)) (h2 : rdNum l1 = some (b, l2)) (h3 : rdNum l2 = none) : rdNode l = none := by simp [rdNode, rdK, h1, h2, h3]
theorem rdNode_bad4 (l l1 l2 l3 : List UInt8) (a b c : Nat) (h1 : rdNum l = some (a, l1)) (h2 : rdNum l1 = some (b, l2)) (h3 : rdNum l2 = some (c, l3)) (h4 : rdNum l3 = none) : rdNode l = none := by simp [rdNode, rdK, h1, h2, h3, h4]

/-- Four takes in turn: all four numbers and what is left, or no node. -/
theorem four_takes (l r1 r2 r3 r4 : List UInt8) (a b c d : Int) (h1 : tkOut (rdNum l) a r1) (h2 : tkOut (rdNum r1) b r2) (h3 : tkOut (rdNum r2) c r3) (h4 : tkOut (rdNum r3) d r4) :
    ((0 ≤ a ∧ 0 ≤ b ∧ 0 ≤ c ∧ 0 ≤ d) ∧ rdK 4 l = some ([a.toNat, b.toNat, c.toNat, d.toNat], r4)) ∨ ((a < 0 ∨ b < 0 ∨ c < 0 ∨ d < 0) ∧ rdNode l = none) := by
  rcases h1 with ⟨a0, h1⟩ | ⟨rfl, h1, _⟩
  · rcases h2 with ⟨b0, h2⟩ | ⟨rfl, h2, _⟩
    · rcases h3 with ⟨c0, h3⟩ | ⟨rfl, h3, _⟩
      · rcases h4 with ⟨d0, h4⟩ | ⟨rfl, h4, _⟩
        · exact .inl ⟨⟨a0, b0, c0, d0⟩, rdNode_of4 _ _ _ _ _ _ _ _ _ h1 h2 h3 h4⟩
        · exact .inr ⟨by omega, rdNode_bad4 _ _ _ _ _ _ _ h1 h2 h3 h4⟩
      · exact .inr ⟨by omega, rdNode_bad3 _ _ _ _ _ h1 h2 h3⟩
    · exact .inr ⟨by omega, rdNode_bad2 _ _ _ h1 h2⟩
  · exact .inr ⟨by omega, rdNode_bad1 _ h1⟩

set_option maxHeartbeats 1000000 in
set_option maxRecDepth 100000 in
theorem refNode_any (s : ByteArray) (w : World) (hs : s.size ≤ maxLen) :
    Calls Tryz.prog 61 #[.string s] w (nodePost (rdNode s.data.toList) s.size w) := by
  unfold maxLen at hs
  go_enter Tryz.func61, Tryz.ntmps61
  go_wp2_with fail
  refine (takes_any s _ (by unfold maxLen; omega)).mono ?_
  rintro e w1 ⟨a, s1, rfl, t1, z1, hb1⟩
  have T1 : Hid _ := t1
  clear t1
  go_wp2_with fail
  refine (takes_any s1 _ (by unfold maxLen; omega)).mono ?_
  rintro e w2 ⟨b, s2, rfl, t2, z2, hb2⟩
  have T2 : Hid _ := t2
  clear t2
  go_wp2_with fail
  refine (takes_any s2 _ (by unfold maxLen; omega)).mono ?_
  rintro e w3 ⟨c, s3, rfl, t3, z3, hb3⟩
  have T3 : Hid _ := t3
  clear t3
  go_wp2_with fail
  refine (takes_any s3 _ (by unfold maxLen; omega)).mono ?_
  rintro e w4 ⟨d, s4, rfl, t4, z4, hb4⟩
  have hF := four_takes _ _ _ _ _ a b c d T1.out T2.out T3.out t4
  have y2 := hb1.size
  have y3 := hb2.size
  have y4 := hb3.size
  simp at y2
  have hB : Below (w.heap.size + 2) ((w.alloc (.cells #[.int .i64 0, .int .i64 0, .int .i64 0, .int .i64 0, .int .u8 0, .int .u8 0] 46)).alloc (.cells #[.int .i64 0, .int .i64 0, .int .i64 0, .int .i64 0, .int .u8 0, .int .u8 0] 46)) w4 :=
    (((hb1.mono (by simp)).trans (hb2.mono (by omega))).trans (hb3.mono (by omega))).trans (hb4.mono (by omega))
  have S1 : Six w4 w.heap.size (.int .i64 0) (.int .i64 0) (.int .i64 0) (.int .i64 0) (.int .u8 0) (.int .u8 0) := ((Six.new w _ _ _ _ _ _).alloc _).below hB (by omega)
  have S2 : Six w4 (w.heap.size + 1) (.int .i64 0) (.int .i64 0) (.int .i64 0) (.int .i64 0) (.int .u8 0) (.int .u8 0) := by
    have h := (Six.new (w.alloc (.cells #[.int .i64 0, .int .i64 0, .int .i64 0, .int .i64 0, .int .u8 0, .int .u8 0] 46)) (.int .i64 0) (.int .i64 0) (.int .i64 0) (.int .i64 0) (.int .u8 0) (.int .u8 0))
    rw [show (w.alloc (.cells #[.int .i64 0, .int .i64 0, .int .i64 0, .int .i64 0, .int .u8 0, .int .u8 0] 46)).heap.size = w.heap.size + 1 from by simp] at h
    exact h.below hB (by omega)
  have hfin : Below w.heap.size w w4 := (((Below.refl _ _).alloc (Nat.le_refl _) _).alloc (by simp) _).trans (hB.mono (by omega))
  obtain ⟨c0, c1, c2, c3, c4, c5⟩ := S1.cells
  obtain ⟨d0, d1, d2, d3, d4, d5⟩ := S2.cells
  have f1 : ∀ j, w4.frozen? ⟨w.heap.size, j, none⟩ = false := fun j => by unfold Six at S1; simp [World.frozen?, S1]
  have f2 : ∀ j, w4.frozen? ⟨w.heap.size + 1, j, none⟩ = false := fun j => by unfold Six at S2; simp [World.frozen?, S2]
  clear T1 T2 T3 t4 hb1 hb2 hb3 hb4 hB y3 y4
  rcases hF with ⟨⟨a0, b0, e0, g0⟩, hk⟩ | ⟨hneg, hk⟩
  · have HK : Hid _ := hk
    clear hk
    obtain ⟨a, rfl⟩ := Int.eq_ofNat_of_zero_le a0
    obtain ⟨b, rfl⟩ := Int.eq_ofNat_of_zero_le b0
    obtain ⟨c, rfl⟩ := Int.eq_ofNat_of_zero_le e0
    obtain ⟨d, rfl⟩ := Int.eq_ofNat_of_zero_le g0
    simp only [Int.toNat_natCast] at HK
    by_cases h2 : s4.size < 2
    · have HO : Hid _ := few_bytes _ _ _ HK.out h2
      go_wp2
      refine ret_node3 Tryz.results61 (S1.set _ _ _ _ _ _) rfl rfl rfl (nodePost_no _ _ _ _ HO.out ?_)
      repeat (refine Below.setCell ?_ (by simp) _)
      exact hfin
    · have h01 : (1 : Int) < (s4.size : Int) := by omega
      have h00 : (0 : Int) < (s4.size : Int) := by omega
      have n0 : 0 < s4.size := by omega
      have n1 : 1 < s4.size := by omega
      have n2 : 2 ≤ s4.size := by omega
      go_wp2
      go_region
      all_goals go_wp2
      all_goals go_region
      all_goals go_wp2
      have hne : w.heap.size ≠ w.heap.size + 1 := by omega
      have H := (((((((S1.far (o := 0) (v := .int .i64 a) hne).far (o := 1) (v := .int .i64 b) hne).far (o := 2) (v := .int .i64 c) hne).far (o := 3) (v := .int .i64 d) hne).far (o := 4) (v := .int .u8 s4[0].toNat) hne).far (o := 5) (v := .int .u8 s4[1].toNat) hne).set (.int .i64 a) (.int .i64 b) (.int .i64 c) (.int .i64 d) (.int .u8 s4[0].toNat) (.int .u8 s4[1].toNat)).drew.drew
      refine ret_node3 Tryz.results61 H rfl rfl rfl (nodePost_yes _ _ _ _ _ a b c d _ _ _ (by have := HK.out; rw [two_bytes s4 n2] at this; exact this) rfl (by have := size_extract_two s4; omega) ?_)
      refine Below.drew (Below.drew ?_)
      repeat (refine Below.setCell ?_ (by simp) _)
      exact hfin
  · have HO : Hid _ := hk
    clear hk
    go_wp2
    all_goals
      refine ret_node3 Tryz.results61 (S1.set _ _ _ _ _ _) rfl rfl rfl (nodePost_no _ _ _ _ HO.out ?_)
      repeat (refine Below.setCell ?_ (by simp) _)
      exact hfin

theorem nodeE_new (w : World) (e : TypeId) : ∀ j u, Nd.E.cells[j]? = some u → (w.alloc (.cells #[.int .i64 0, .int .i64 0, .int .i64 0, .int .i64 0, .int .u8 1, .int .u8 77] e)).cell? ((⟨w.heap.size, 0, none⟩ : Addr).add j) = some u := node_new w Nd.E e

theorem byte_cases (b : UInt8) : b.toNat = 0 ∨ b.toNat = 1 ∨ 1 < b.toNat := by omega

set_option maxHeartbeats 2000000 in
set_option maxRecDepth 100000 in
theorem refRead_any (s : ByteArray) (w : World) (hs : s.size ≤ maxLen) :
    Calls Tryz.prog 29 #[.string s] w (readPost (readR s.data.toList) w) := by
  unfold maxLen at hs
  obtain ⟨i0, hi, hz0, hz1, hz2⟩ := info_parts info_node
  by_cases h1000 : 1000 < s.size
  · have hn : readR s.data.toList = none := by
      have : 1000 < s.data.toList.length := by simpa using h1000
      simp only [readR, if_pos this]
    rw [hn]
    clear hn
    go_enter Tryz.func29, Tryz.ntmps29
    go_wp2
    go_ret2
    exact ⟨rfl, Below.refl _ _⟩
  · have HN : Hid (readR s.data.toList = rdAll s.data.toList.length [] s.data.toList) := by
      have : ¬ 1000 < s.data.toList.length := by simpa using h1000
      simp only [Hid, readR, if_neg this]
    have hd1000 : decide (1000 < (s.size : Int)) = false := by simp; omega
    go_enter Tryz.func29, Tryz.ntmps29
    go_wp2_with fail
    refine (refEmpty_any _).mono ?_
    rintro e w0 ⟨rfl, hb0⟩
    have y0 := hb0.size
    go_wp2
    go_loopw [4, 6] (fun v x wr => ∃ (s' : ByteArray) (acc : List Nd) (ao : Option Addr) (cap : Nat), x = .string s' ∧ v = .slice ao acc.length cap ∧ s'.size ≤ 1000 ∧ acc.length ≤ 64 ∧ Hid (readR s.data.toList = rdAll s'.data.toList.length acc s'.data.toList) ∧
        wr.ownsRow (w0.heap.size + 1) 46 6 (.slice ao acc.length cap) acc.length (acc.flatMap Nd.cells) ∧ Below (w0.heap.size + 1) (w0.alloc (.cells #[.int .i64 0, .int .i64 0, .int .i64 0, .int .i64 0, .int .u8 1, .int .u8 77] 46)) wr)
      (fun _ x _ => strLen x)
    case atStart => exact ⟨s, [], none, 0, rfl, rfl, by omega, by simp, HN, World.ownsRow_nil _ _ _ _, Below.refl _ _⟩
    case round =>
      obtain ⟨s', acc, ao, cap, rfl, rfl, hsz, hacc, HR, hown, hb⟩ := hrel
      have hsw := hb.size
      simp at hsw
      have hfin : Below w.heap.size w wr := (hb0.alloc hb0.size _).trans (hb.mono (by omega))
      by_cases h0 : 0 < s'.size
      · have hne := empty_no s' h0
        have HE : Hid (s'.data.toList ≠ []) := by intro c; have := congrArg List.length c; have e : s'.data.toList.length = s'.size := rfl; simp at this; simp [this] at h0
        have h00 : (0 : Int) < (s'.size : Int) := by omega
        by_cases h64 : acc.length = 64
        · have HF : Hid (readR s.data.toList = none) := by rw [HR.out]; exact rdAll_full acc _ HE.out h64
          have hq : (64 : Int) ≤ (acc.length : Int) := by omega
          clear h64 hown
          go_wp2
          go_ret2
          exact readPost_no HF.out hfin
        · have hq : ¬ (64 : Int) ≤ (acc.length : Int) := by omega
          rcases byte_cases s'[0] with hz | hz | hz
          · have HM : Hid _ := rdMark_is0 _ _ _ (one_byte s' h0) hz
            have HF : Hid _ := rdAll_step acc _ _ _ HE.out HM.out h64
            have HL : Hid _ := rdMark_shorter _ _ _ HM.out
            have hzi : ((s'[0].toNat : Int) == 0) = true := by simp; omega
            obtain ⟨⟨c0, c1, c2, c3, c4, c5⟩, _⟩ := six_new hb
            have hz1' : (s'[0].toNat : Int) ≤ 1 := by omega
            have n1 : 1 ≤ s'.size := h0
            have x1 := size_extract_one s'
            clear h64 hz
            go_wp2_with (at_builtin; refine wpList_append_grew _ rfl _ _ 39 rfl (w0.heap.size + 1) 46 i0 (.agg #[.int .i64 0, .int .i64 0, .int .i64 0, .int .i64 0, .int .u8 0, .int .u8 0]) 6 40 Tryz.underlying39 hi hz0 hz1 hz2 rfl (by decide) _ _ _ rfl (hown.alloc _) ⟨wr.heap.size, 0, none⟩ 1 1 Nd.E.cells rfl rfl ?c1 ?c2 ?c3 ?c4 ?c5 ?_)
            case c1 => exact fun j u hj => hj
            case c2 => exact node_one Nd.E
            case c3 => unfold maxLen; omega
            case c4 => omega
            case c5 => first | omega | (simp; omega)
            intro v' w2 hown' hgrow _
            obtain ⟨ao', cap', hv'⟩ := own_shape hown'
            have hB2 := (hb.alloc hsw (.cells #[.int .i64 0, .int .i64 0, .int .i64 0, .int .i64 0, .int .u8 1, .int .u8 77] 46)).grown hgrow.grown (by simp; omega) (fun j hj => (hown.lt j hj).1)
            rw [hv'] at hown' ⊢
            clear hgrow hown hb c0 c1 c2 c3 c4 c5 hfin
            go_wp2
            go_roundw
            case rel => exact ⟨s'.extract 1 s'.size, acc ++ [Nd.E], ao', cap', rfl, by simp, by omega, by simp; omega, (by rw [HR.out, HF.out]; rfl : Hid _), by simpa using hown', hB2⟩
            case measure => have := HL.out; simpa [strLen] using this
          · have hzi : ((s'[0].toNat : Int) == 0) = false := by simp; omega
            have hz1' : (s'[0].toNat : Int) ≤ 1 := by omega
            have n1 : 1 ≤ s'.size := h0
            have x1 := size_extract_one s'
            have HZ : Hid _ := hz
            clear hz
            go_wp2_with fail
            refine (refNode_any _ _ (by unfold maxLen; omega)).mono ?_
            rintro e w1 ⟨d, s2, b, rfl, ho, hsz2, hb1⟩
            have hB1 := hb.trans (hb1.mono hsw)
            have hown1 := ownsRow_below hown hb1
            have hs1 : wr.heap.size ≤ w1.heap.size := hb1.size
            have hlt0 : w0.heap.size < w1.heap.size := by omega
            have hfin1 : Below w.heap.size w w1 := hfin.trans (hb1.mono (by have := hfin.size; omega))
            obtain ⟨⟨c0, c1, c2, c3, c4, c5⟩, _⟩ := six_new hB1
            clear hown hb hb1 hfin
            rcases ho with ⟨rfl, ho⟩ | ⟨rfl, ho, rfl, _⟩
            · cases hE : d.isE
              · have HM : Hid _ := rdMark_is1 _ _ _ _ _ (one_byte s' h0) HZ.out ho hE
                have HF : Hid _ := rdAll_step acc _ _ _ HE.out HM.out h64
                have HL : Hid _ := rdMark_shorter _ _ _ HM.out
                have hE' : eqN d.c d.s d.m d.x d.h.toNat d.g.toNat 0 0 0 0 1 77 = false := hE
                clear hE ho h64
                go_wp2_with (at_builtin; refine wpList_append_grew _ rfl _ _ 39 rfl (w0.heap.size + 1) 46 i0 (.agg #[.int .i64 0, .int .i64 0, .int .i64 0, .int .i64 0, .int .u8 0, .int .u8 0]) 6 40 Tryz.underlying39 hi hz0 hz1 hz2 rfl (by decide) _ _ _ rfl ((hown1.alloc _).alloc _) ⟨w1.heap.size + 1, 0, none⟩ 1 1 d.cells rfl rfl ?c1 ?c2 ?c3 ?c4 ?c5 ?_)
                case c1 => have := node_new (w1.alloc (.cells #[.int .i64 d.c, .int .i64 d.s, .int .i64 d.m, .int .i64 d.x, .int .u8 d.h.toNat, .int .u8 d.g.toNat] 46)) d 46; simpa using this
                case c2 => exact node_one d
                case c3 => unfold maxLen; omega
                case c4 => omega
                case c5 => simp; omega
                intro v' w2 hown' hgrow _
                obtain ⟨ao', cap', hv'⟩ := own_shape hown'
                have hB2 := ((hB1.alloc (by omega) (.cells #[.int .i64 d.c, .int .i64 d.s, .int .i64 d.m, .int .i64 d.x, .int .u8 d.h.toNat, .int .u8 d.g.toNat] 46)).alloc (by simp; omega) (.cells #[.int .i64 d.c, .int .i64 d.s, .int .i64 d.m, .int .i64 d.x, .int .u8 d.h.toNat, .int .u8 d.g.toNat] 46)).grown hgrow.grown (by simp; omega) (fun j hj => (hown1.lt j hj).1)
                rw [hv'] at hown' ⊢
                clear hgrow hown1 hB1 c0 c1 c2 c3 c4 c5
                go_wp2
                go_roundw
                case rel => exact ⟨s2, acc ++ [d], ao', cap', rfl, by simp, by omega, by simp; omega, (by rw [HR.out, HF.out]; rfl : Hid _), by simpa using hown', hB2⟩
                case measure => have := HL.out; simpa [strLen] using this
              · have HM : Hid _ := rdMark_is1e _ _ _ _ _ (one_byte s' h0) HZ.out ho hE
                have HF : Hid (readR s.data.toList = none) := by rw [HR.out]; exact rdAll_bad acc _ HE.out HM.out
                have hE' : eqN d.c d.s d.m d.x d.h.toNat d.g.toNat 0 0 0 0 1 77 = true := hE
                clear hE ho h64 hown1
                go_wp2
                go_ret2
                exact readPost_no HF.out (hfin1.alloc hfin1.size _)
            · have HM : Hid _ := rdMark_is1n _ _ _ (one_byte s' h0) HZ.out ho
              have HF : Hid (readR s.data.toList = none) := by rw [HR.out]; exact rdAll_bad acc _ HE.out HM.out
              clear ho h64 hown1
              go_wp2
              go_ret2
              exact readPost_no HF.out (hfin1.alloc hfin1.size _)
          · have HM : Hid _ := rdMark_isx _ _ _ (one_byte s' h0) (by omega) (by omega)
            have HF : Hid (readR s.data.toList = none) := by rw [HR.out]; exact rdAll_bad acc _ HE.out HM.out
            have hz1' : (1 : Int) < (s'[0].toNat : Int) := by omega
            clear hown hz
            go_wp2
            go_ret2
            exact readPost_no HF.out hfin
      · have hne : s'.toList.isEmpty = true := by rw [ByteArray.toList_eq, empty_yes s' h0]; rfl
        have HF : Hid (readR s.data.toList = some acc) := by rw [HR.out, empty_yes s' h0]; exact rdAll_nil _ _
        have hown2 : wr.ownsRow w.heap.size 46 6 (.slice ao acc.length cap) acc.length (acc.flatMap Nd.cells) := own_mono hown (by omega)
        clear hown
        go_wp2
        go_ret2
        exact readPost_yes acc HF.out hown2 hfin

end Go.Proofs.YtlggbcceoejkkaaGreat

/- What the document's own answer does (notaryref): half, Together. -/
namespace Go.Proofs.YtlggbcceoejkkaaGreat
open Go.RowKit

set_option maxHeartbeats 400000 in
theorem refHalf_any (n : Nat) (w : World) (h2 : 2 ≤ n) (hn : n ≤ 1000000) :
    Calls Tryz.prog 101 #[.int .i64 n] w fun e w' => e = .returned (.int .i64 (hf n)) ∧ Below w.heap.size w w' := by
  go_enter Tryz.func101, Tryz.ntmps101
  go_wp2
  go_loop [3] (fun k => ∃ p : Nat, k = .int .i64 p ∧ p < n ∧ 1 ≤ p ∧ Hid (∃ j, p = 2 ^ j)) (fun k => n - (intOf k).toNat)
  case atStart => exact ⟨1, rfl, by omega, by omega, 0, rfl⟩
  case round =>
    obtain ⟨p, rfl, hp, hp1, HJ⟩ := hrel
    by_cases hlt : 2 * (p : Int) < n
    · go_wp2
      go_round
      case rel => exact ⟨2 * p, by go_num, by omega, by omega, by obtain ⟨j, e⟩ := HJ.out; exact ⟨j + 1, by rw [e, Nat.pow_succ]; omega⟩⟩
      case measure => simp [intOf]; omega
    · have e : p = hf n := by obtain ⟨j, e⟩ := HJ.out; rw [hf_is n j (by omega) (by omega), e]
      subst e
      go_wp2
      go_ret
      exact ⟨rfl, Below.refl _ _⟩

set_option maxHeartbeats 2000000 in
set_option maxRecDepth 100000 in
theorem refTogether_any (c s m x c' s' m' x' : Int) (w : World) (hc : 0 ≤ c ∧ c ≤ 1000000000000000) (hs : 0 ≤ s ∧ s ≤ 1000000000000000) (hc' : 0 ≤ c' ∧ c' ≤ 1000000000000000) (hs' : 0 ≤ s' ∧ s' ≤ 1000000000000000) :
    Calls Tryz.prog 103 #[.agg #[.int .i64 c, .int .i64 s, .int .i64 m, .int .i64 x], .agg #[.int .i64 c', .int .i64 s', .int .i64 m', .int .i64 x']] w fun e w' =>
      e = .returned (foV (tog ⟨c, s, m, x⟩ ⟨c', s', m', x'⟩)) ∧ Below w.heap.size w w' := by
  by_cases h0 : c = 0
  · subst h0
    go_enter Tryz.func103, Tryz.ntmps103
    go_wp2
    refine bodyPost_ret (v := .agg #[.int .i64 c', .int .i64 (s + s'), .int .i64 m', .int .i64 x']) (by simp [results, Tryz.results103, go_sem]) rfl ⟨?_, ?_⟩
    · simp [foV, tog, *]; try omega
    · repeat (first | exact Below.refl _ _ | refine Below.setCell ?_ (by simp) _ | refine Below.alloc ?_ (by simp; try omega) _)
  · have b0 : (c == 0) = false := by simp [h0]
    by_cases h1 : c' = 0
    · subst h1
      go_enter Tryz.func103, Tryz.ntmps103
      go_wp2
      refine bodyPost_ret (v := .agg #[.int .i64 c, .int .i64 (s + s'), .int .i64 m, .int .i64 x]) (by simp [results, Tryz.results103, go_sem]) rfl ⟨?_, ?_⟩
      · simp [foV, tog, *]; try omega
      · repeat (first | exact Below.refl _ _ | refine Below.setCell ?_ (by simp) _ | refine Below.alloc ?_ (by simp; try omega) _)
    · have b1 : (c' != 0) = true := by simp [h1]
      by_cases h2 : m' < m
      · by_cases h3 : x < x'
        · go_enter Tryz.func103, Tryz.ntmps103
          go_wp2
          refine bodyPost_ret (v := .agg #[.int .i64 (c + c'), .int .i64 (s + s'), .int .i64 m', .int .i64 x']) (by simp [results, Tryz.results103, go_sem]) rfl ⟨?_, ?_⟩
          · simp [foV, tog, *]; try omega
          · repeat (first | exact Below.refl _ _ | refine Below.setCell ?_ (by simp) _ | refine Below.alloc ?_ (by simp; try omega) _)
        · go_enter Tryz.func103, Tryz.ntmps103
          go_wp2
          refine bodyPost_ret (v := .agg #[.int .i64 (c + c'), .int .i64 (s + s'), .int .i64 m', .int .i64 x]) (by simp [results, Tryz.results103, go_sem]) rfl ⟨?_, ?_⟩
          · simp [foV, tog, *]; try omega
          · repeat (first | exact Below.refl _ _ | refine Below.setCell ?_ (by simp) _ | refine Below.alloc ?_ (by simp; try omega) _)
      · by_cases h3 : x < x'
        · go_enter Tryz.func103, Tryz.ntmps103
          go_wp2
          refine bodyPost_ret (v := .agg #[.int .i64 (c + c'), .int .i64 (s + s'), .int .i64 m, .int .i64 x']) (by simp [results, Tryz.results103, go_sem]) rfl ⟨?_, ?_⟩
          · simp [foV, tog, *]; try omega
          · repeat (first | exact Below.refl _ _ | refine Below.setCell ?_ (by simp) _ | refine Below.alloc ?_ (by simp; try omega) _)
        · go_enter Tryz.func103, Tryz.ntmps103
          go_wp2
          refine bodyPost_ret (v := .agg #[.int .i64 (c + c'), .int .i64 (s + s'), .int .i64 m, .int .i64 x]) (by simp [results, Tryz.results103, go_sem]) rfl ⟨?_, ?_⟩
          · simp [foV, tog, *]; try omega
          · repeat (first | exact Below.refl _ _ | refine Below.setCell ?_ (by simp) _ | refine Below.alloc ?_ (by simp; try omega) _)

end Go.Proofs.YtlggbcceoejkkaaGreat

