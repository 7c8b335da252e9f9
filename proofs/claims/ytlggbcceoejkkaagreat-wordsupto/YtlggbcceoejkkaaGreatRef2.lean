/- What the document's own answer does (notaryref): Write, takes. -/
import Derived.Test.YtlggbcceoejkkaaGreatRef1
namespace Go.Proofs.YtlggbcceoejkkaaGreat
open Go.RowKit

attribute [local go_sem ↓] run_eql_node run_neq_node

theorem ret_we {a b : ByteArray} {i j : Int} (h : a = b) (hi : i = j) : Ending.returned (.tuple #[.string a, .int .i64 i]) = .returned (.tuple #[.string b, .int .i64 j]) := by rw [h, hi]

theorem size_app (a b : ByteArray) : (a ++ b).size = a.size + b.size := by simp
theorem size_byte (b : UInt8) : (⟨#[b]⟩ : ByteArray).size = 1 := rfl
theorem mark_E (d : Nd) (h : d.isE = true) : d.mark = [0] := by simp [Nd.mark, h]
theorem mark_N (d : Nd) (h : d.isE = false) : d.mark = 1 :: d.bytes := by simp [Nd.mark, h]

/-- Bytes of a node that may be. -/
theorem refBytes_nd (d : Nd) (w : World) (hd : d.ok = true) :
    Calls Tryz.prog 59 #[.agg #[.int .i64 d.c, .int .i64 d.s, .int .i64 d.m, .int .i64 d.x, .int .u8 (d.h.toNat : Int), .int .u8 (d.g.toNat : Int)]] w fun e w' => ∃ t : ByteArray, e = .returned (.string t) ∧ t.data.toList = d.bytes ∧ Below w.heap.size w w' := by
  cases d with
  | mk c s m x h g =>
    obtain ⟨a1, a2, a3, a4⟩ := (Nd.ok_iff _).1 hd
    simp only [isNum_iff] at a1 a2 a3 a4
    obtain ⟨c, rfl⟩ := Int.eq_ofNat_of_zero_le a1.1
    obtain ⟨s, rfl⟩ := Int.eq_ofNat_of_zero_le a2.1
    obtain ⟨m, rfl⟩ := Int.eq_ofNat_of_zero_le a3.1
    obtain ⟨x, rfl⟩ := Int.eq_ofNat_of_zero_le a4.1
    exact refBytes_any c s m x h g w (by omega) (by omega) (by omega) (by omega)

set_option maxHeartbeats 1000000 in
set_option maxRecDepth 100000 in
theorem refWrite_any (v : Value) (l : List Nd) (w : World) (hl : Nodes w w.heap.size v l) :
    Calls Tryz.prog 25 #[v] w fun e w' => e = .returned (.tuple #[.string ⟨(writeB l).toArray⟩, .int .i64 (writeE l)]) ∧ Below w.heap.size w w' := by
  obtain ⟨ao, cap, rfl, hmax, hcells⟩ := hl.ex
  clear hl
  by_cases h64 : 64 < l.length
  · obtain ⟨r1, r2⟩ := write_many l h64
    rw [r1, r2]
    clear r1 r2 hcells
    go_enter Tryz.func25, Tryz.ntmps25
    go_wp2
    go_ret2
    exact ⟨rfl, Below.refl _ _⟩
  · have hd64 : decide (64 < (l.length : Int)) = false := by simp; omega
    go_enter Tryz.func25, Tryz.ntmps25
    go_wp2
    go_loopw [4, 5] (fun s i wr => ∃ (k : Nat) (t : ByteArray), k ≤ l.length ∧ i = .int .i64 k ∧ s = .string t ∧ t.size ≤ 23 * k ∧ Hid ((l.take k).all Nd.ok = true) ∧ Hid (t.data.toList = marks (l.take k)) ∧ Below w.heap.size w wr)
      (fun _ i _ => l.length - (intOf i).toNat)
    case atStart => exact ⟨0, ⟨#[]⟩, Nat.zero_le _, rfl, rfl, by decide, rfl, rfl, Below.refl _ _⟩
    case round =>
      obtain ⟨k, t, hk, rfl, rfl, htz, HA, HT, hb⟩ := hrel
      by_cases hlt : k < l.length
      · obtain ⟨b, off, rfl, hbB, hcs⟩ := hcells k hlt
        obtain ⟨d, hd⟩ : ∃ d, d = l[k] := ⟨_, rfl⟩
        rw [← hd] at hcs
        obtain ⟨k0, k1, k2, k3, k4, k5⟩ := six hb hbB hcs
        have HD : Hid _ := hd
        have HC : Hid _ := hcs
        clear hcs hd hcells
        go_wp2_with fail
        cases hok : d.ok
        · refine (refMayBe_any _ _ _ _ _ _ _ false hok).mono ?_
          rintro e w1 ⟨rfl, hb1⟩
          have HR : Hid _ := write_bad l h64 k hlt (by rw [← HD.out]; exact hok)
          have fin : Below w.heap.size w w1 := hb.trans (hb1.mono hb.size)
          go_wp2
          go_ret2
          exact ⟨by rw [HR.out.1, HR.out.2]; rfl, fin⟩
        · refine (refMayBe_any _ _ _ _ _ _ _ true hok).mono ?_
          rintro e w1 ⟨rfl, hb1⟩
          have hB1 : Below w.heap.size w w1 := hb.trans (hb1.mono hb.size)
          clear hb1 hb k0 k1 k2 k3 k4 k5
          go_wp2_with fail
          refine (refEmpty_any _).mono ?_
          rintro e w2 ⟨rfl, hb2⟩
          have hB2 : Below w.heap.size w w2 := hB1.trans (hb2.mono hB1.size)
          clear hb2 hB1
          have hs2 := hB2.size
          obtain ⟨k0, k1, k2, k3, k4, k5⟩ := six hB2 hbB HC.out
          have hne : b < w2.heap.size := by omega
          have HS : Hid _ := d.mark_length.1
          have HK : Hid (marks (l.take (k + 1)) = marks (l.take k) ++ d.mark) := by rw [take_snoc' l k hlt, ← HD.out, marks_snoc]; rfl
          have HA2 : Hid _ := all_snoc l k hlt HA.out (by rw [← HD.out]; exact hok)
          cases hE : d.isE
          · have hE' : eqN d.c d.s d.m d.x d.h.toNat d.g.toNat 0 0 0 0 1 77 = false := hE
            have HM : Hid _ := mark_N d hE
            clear hE
            go_wp2
            go_quiet (fail)
            go_wp2_with fail
            refine (refBytes_nd d _ hok).mono ?_
            rintro e w3 ⟨t3, rfl, e3, hb3⟩
            have z3 : t3.size ≤ 22 := by rw [size_list, e3]; exact d.bytes_length
            have HE3 : Hid _ := e3
            have hB3 : Below w.heap.size w w3 := (hB2.alloc hs2 _).trans (Below.trans (b := (w2.alloc (.cells #[.int .i64 0, .int .i64 0, .int .i64 0, .int .i64 0, .int .u8 1, .int .u8 77] 46)).drewN nq) ((below_drewN _ nq).mono (by simp; omega)) (hb3.mono (by simp; omega)))
            clear hb3 e3 hB2 k0 k1 k2 k3 k4 k5
            go_wp2
            go_roundw
            case rel => exact ⟨k + 1, t ++ ⟨#[1]⟩ ++ t3, by omega, by go_num, rfl, by rw [size_app, size_app, size_byte]; omega, HA2, (by rw [HK.out, HM.out, app_list, app_list, HT.out, HE3.out]; simp [Hid]), hB3⟩
            case measure => simp [intOf]; omega
          · have hE' : eqN d.c d.s d.m d.x d.h.toNat d.g.toNat 0 0 0 0 1 77 = true := hE
            have HM : Hid _ := mark_E d hE
            clear hE
            go_wp2
            go_quiet (fail)
            go_wp2
            have hB3 : Below w.heap.size w ((w2.alloc (.cells #[.int .i64 0, .int .i64 0, .int .i64 0, .int .i64 0, .int .u8 1, .int .u8 77] 46)).drewN nq) := (hB2.alloc hs2 _).trans ((below_drewN _ nq).mono (by simp; omega))
            go_roundw
            case rel => exact ⟨k + 1, t ++ ⟨#[0]⟩, by omega, by go_num, rfl, by rw [size_app, size_byte]; omega, HA2, (by rw [HK.out, HM.out, app_list, HT.out]; simp [Hid]), hB3⟩
            case measure => simp [intOf]; omega
      · have hkl : l.take k = l := List.take_of_length_le (by omega)
        have HA' := HA.out
        have HT' := HT.out
        rw [hkl] at HT' HA'
        have HR : Hid _ := write_good l h64 HA'
        have HTT : Hid _ := HT'
        clear HA HA' hcells hkl HT HT'
        go_wp2
        go_ret2
        exact ⟨ret_we (by rw [HR.out.1]; exact str_of HTT.out) HR.out.2.symm, hb⟩

/-- What takes leaves. -/
def tkOut (o : Option (Nat × List UInt8)) (n : Int) (r : List UInt8) : Prop := (0 ≤ n ∧ o = some (n.toNat, r)) ∨ (n = -1 ∧ o = none ∧ r = [])
def takesPost (s : ByteArray) (w : World) (e : Ending) (w' : World) : Prop :=
  ∃ (n : Int) (s' : ByteArray), e = .returned (.tuple #[.int .i64 n, .string s']) ∧ tkOut (rdNum s.data.toList) n s'.data.toList ∧ s'.size ≤ s.size ∧ Below w.heap.size w w'

theorem takes_rel (s : ByteArray) (k acc : Nat) (hz : k < s.size) (h5 : k < 5) (hac : acc < 128 ^ k) (HR : rdNum s.data.toList = rdN (4 - k) (k + 1) (acc + s[k].toNat % 128 * 128 ^ k) (s.data.toList.drop (k + 1)))
    (v i u : Int) (hv : v = ((acc + s[k].toNat % 128 * 128 ^ k : Nat) : Int)) (hi : i = ((k + 1 : Nat) : Int)) (hu : u = ((128 ^ (k + 1) : Nat) : Int)) :
    ∃ k' acc' : Nat, k' ≤ 5 ∧ k' ≤ s.size ∧ Value.int .i64 i = .int .i64 k' ∧ Value.int .i64 v = .int .i64 acc' ∧ Value.int .i64 u = .int .i64 ((128 ^ k' : Nat) : Int) ∧ acc' ≤ 34359738367 ∧ Hid (acc' < 128 ^ k') ∧ Hid (rdNum s.data.toList = rdN (5 - k') k' acc' (s.data.toList.drop k')) := by
  obtain ⟨k', acc', h1, h2, h3, h4, h5', h6, h7⟩ := num_rel s k acc hz h5 hac HR v i hv hi
  have hk : k' = k + 1 := by
    injection h3 with _ e
    omega
  subst hk
  exact ⟨k + 1, acc', h1, h2, h3, h4, by rw [hu], h5', h6, h7⟩
theorem takes_ret (s : ByteArray) (w w' : World) (k acc : Nat) (hz : k < s.size) (h128 : ¬ 128 ≤ s[k].toNat) (hb : Below w.heap.size w w') (HR : rdNum s.data.toList = some (acc + s[k].toNat * 128 ^ k, s.data.toList.drop (k + 1)))
    (v : Int) (hv : v = ((acc + s[k].toNat % 128 * 128 ^ k : Nat) : Int)) : takesPost s w (.returned (.tuple #[.int .i64 v, .string (s.extract (k + 1) s.size)])) w' := by
  have e : s[k].toNat % 128 = s[k].toNat := by omega
  rw [e] at hv
  exact ⟨_, _, by rw [hv], .inl ⟨by omega, by rw [extract_list, Int.toNat_natCast]; exact HR⟩, size_extract_le s _, hb⟩

set_option maxHeartbeats 1000000 in
set_option maxRecDepth 100000 in
theorem takes_any (s : ByteArray) (w : World) (hs : s.size ≤ maxLen) :
    Calls Tryz.prog 94 #[.string s] w (takesPost s w) := by
  unfold maxLen at hs
  go_enter Tryz.func94, Tryz.ntmps94
  go_wp2
  go_loop [4, 5, 6] (fun n u i => ∃ k acc : Nat, k ≤ 5 ∧ k ≤ s.size ∧ i = .int .i64 k ∧ n = .int .i64 acc ∧ u = .int .i64 ((128 ^ k : Nat) : Int) ∧ acc ≤ 34359738367 ∧ Hid (acc < 128 ^ k) ∧ Hid (rdNum s.data.toList = rdN (5 - k) k acc (s.data.toList.drop k))) (fun _ _ i => 5 - (intOf i).toNat)
  case atStart => exact ⟨0, 0, by omega, by omega, rfl, rfl, rfl, by omega, by simp [Hid], by simp [Hid, rdNum]⟩
  case round =>
    obtain ⟨k, acc, hk5, hks, rfl, rfl, rfl, hacc, HA, HR⟩ := hrel
    by_cases hlt : k < 5 ∧ k < s.size
    · obtain ⟨h5, hz⟩ := hlt
      rw [drop_cons s k hz] at HR
      have hb256 : (s[k].toNat : Int) < 256 := by have := s[k].toNat_lt; omega
      have hkk : k = 0 ∨ k = 1 ∨ k = 2 ∨ k = 3 ∨ k = 4 := by omega
      have hac := HA.out
      by_cases h128 : 128 ≤ s[k].toNat
      · rw [show 5 - k = (4 - k) + 1 from by omega, rdN_more _ _ _ _ _ h128] at HR
        rcases hkk with rfl | rfl | rfl | rfl | rfl
        all_goals simp at hac
        all_goals go_wp2
        all_goals go_round
        all_goals first | exact takes_rel s _ acc hz h5 HA.out HR _ _ _ (by first | omega | (simp [hac]; done)) (by omega) (by omega) | (simp [intOf]; done)
      · by_cases hz0 : s[k].toNat = 0 ∧ 0 < k
        · rw [show 5 - k = (4 - k) + 1 from by omega, rdN_zero _ _ _ _ _ hz0.1 hz0.2] at HR
          obtain ⟨hq, hk0⟩ := hz0
          have hqi : ((s[k].toNat : Int) == 0) = true := by simp; omega
          clear hq
          rcases hkk with rfl | rfl | rfl | rfl | rfl
          · omega
          all_goals simp at hac
          all_goals go_wp2
          all_goals go_ret2
          all_goals exact ⟨-1, ⟨#[]⟩, rfl, .inr ⟨rfl, HR, rfl⟩, Nat.zero_le _, Below.refl _ _⟩
        · rw [show 5 - k = (4 - k) + 1 from by omega, rdN_last _ _ _ _ _ h128 hz0] at HR
          by_cases hq : s[k].toNat = 0
          · have hk0 : k = 0 := by omega
            subst hk0
            have hqi : ((s[0].toNat : Int) == 0) = true := by simp; omega
            simp at hac
            go_wp2
            go_quiet (fail)
            go_wp2
            go_ret2
            exact takes_ret s w _ 0 acc hz h128 (below_drewN w _) HR _ (by first | omega | (simp [hac]; done))
          · have hqi : ((s[k].toNat : Int) == 0) = false := by simp; omega
            clear hz0 hq
            rcases hkk with rfl | rfl | rfl | rfl | rfl
            all_goals simp at hac
            all_goals go_wp2
            all_goals go_quiet (fail)
            all_goals go_wp2
            all_goals go_ret2
            all_goals exact takes_ret s w _ _ acc hz h128 (below_drewN w _) HR _ (by first | omega | (simp [hac]; done))
    · have hn : rdNum s.data.toList = none := by
        rw [HR.out]
        by_cases e : k = 5
        · subst e; rfl
        · have : s.data.toList.drop k = [] := List.drop_of_length_le (by simp; omega)
          rw [this]
          obtain ⟨j, hj⟩ : ∃ j, 5 - k = j + 1 := ⟨4 - k, by omega⟩
          rw [hj]; rfl
      have HN : Hid _ := hn
      clear hn
      by_cases hks' : k < s.size
      · go_wp2
        go_ret2
        exact ⟨-1, ⟨#[]⟩, rfl, .inr ⟨rfl, HN.out, rfl⟩, Nat.zero_le _, Below.refl _ _⟩
      · go_wp2
        go_ret2
        exact ⟨-1, ⟨#[]⟩, rfl, .inr ⟨rfl, HN.out, rfl⟩, Nat.zero_le _, Below.refl _ _⟩

end Go.Proofs.YtlggbcceoejkkaaGreat
