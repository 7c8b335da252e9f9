/- What Back does. -/
import Derived.Test.YtlggbcceoejkkaaWalk9
namespace Go.Proofs.Ytlggbcceoejkkaa
open Go.RowKit

set_option maxHeartbeats 2000000 in
set_option maxRecDepth 100000 in
theorem back_any (v : Value) (l : List Nd) (raw : ByteArray) (w : World) (hl : Nodes w w.heap.size v l) (hraw : raw.size ≤ maxLen) :
    Calls Try.prog 3 #[v, .string raw] w fun e w' => e = .returned (.bool true) ∧ Below w.heap.size w w' := by
  obtain ⟨ao, cap, rfl, hmax, hcells⟩ := hl.ex
  go_enter Try.func3, Try.ntmps3
  go_wp2_with fail
  refine (knows_any _).mono ?_
  rintro e w1 ⟨rfl, hb1⟩
  go_wp2_with fail
  refine (Write_any _ l _ ((hl.below hb1).mono hb1.size)).mono ?_
  rintro e w2 ⟨rfl, hb2⟩
  have hB2 : Below w.heap.size w w2 := hb1.trans (hb2.mono hb1.size)
  clear hb1 hb2
  go_wp2_with fail
  go_loopw [8, 9] (fun g i wr => ∃ k : Nat, k ≤ l.length ∧ i = .int .i64 k ∧ g = .bool (goodAt l k) ∧ Below w.heap.size w wr) (fun _ i _ => l.length - (intOf i).toNat)
  case atStart => exact ⟨0, Nat.zero_le _, rfl, by rw [goodAt_zero], hB2⟩
  case round =>
    obtain ⟨k, hk, rfl, rfl, hb⟩ := hrel
    by_cases hlt : k < l.length
    · obtain ⟨b, off, rfl, hbB, hcs⟩ := hcells k hlt
      obtain ⟨d, hd⟩ : ∃ d, d = l[k] := ⟨_, rfl⟩
      rw [← hd] at hcs
      obtain ⟨k0, k1, k2, k3, k4, k5⟩ := six hb hbB hcs
      have HG : Hid (goodAt l (k + 1) = (goodAt l k && d.ok)) := by rw [hd]; exact goodAt_next l k hlt
      clear hcs hd hcells hl
      cases hg : goodAt l k
      all_goals
        go_wp2_with fail
        refine (lawful_any _ _ _ _ _ _ _ d.ok rfl).mono ?_
        rintro e w3 ⟨rfl, hb3⟩
        have hB3 : Below w.heap.size w w3 := hb.trans (hb3.mono hb.size)
        clear hb3 hb
        go_wp2
        go_roundw
        case rel => exact ⟨k + 1, by omega, by go_num, by rw [HG.out, hg]; rfl, hB3⟩
        case measure => simp [intOf]; omega
    · have hkl : k = l.length := by omega
      have HG : Hid (goodAt l k = l.all Nd.ok) := by rw [hkl]; exact goodAt_all l
      clear hkl hcells
      have q25 : ∀ (w : World) (a : Option Addr) (n c n' c' : Nat), (binOp .eql 22 (.slice a n c) (.slice none n' c')).run Try.prog w = .ok (.bool a.isNone) w := fun w a n c n' c' => Lib.run_eql_slice_nil w _ _ a n c n' c' Try.underlying22
      by_cases h64 : 64 < l.length
      · obtain ⟨r1, r2⟩ := write_many l h64
        clear HG
        go_wp2_with fail
        refine (Read_any raw _ hraw).mono ?_
        intro e w6 hp
        cases hr : readR raw.data.toList with
        | none =>
          rw [hr] at hp
          obtain ⟨rfl, hb6⟩ := hp
          have hB6 : Below w.heap.size w w6 := hb.trans (hb6.mono hb.size)
          clear hr hb6
          go_wp2
          go_ret
          exact ⟨rfl, hB6⟩
        | some l' =>
          rw [hr] at hp
          obtain ⟨v', rfl, ho, hb6⟩ := hp
          obtain ⟨a1, a2, a3⟩ := write_read _ _ hr
          have hB6 : Below w.heap.size w w6 := hb.trans (hb6.mono hb.size)
          have K := Write_any _ l' _ (Nodes.own ho (by omega))
          obtain ⟨r1, r2⟩ := write_good l' (by omega) a2
          have r3 : (⟨(writeB l').toArray⟩ : ByteArray) = raw := by rw [r1, a3]
          rw [r3, r2] at K
          clear hr hb6 ho a1 a2 a3 r1 r2 r3
          go_wp2_with fail
          refine K.mono ?_
          rintro e w7 ⟨rfl, hb7⟩
          have hB7 : Below w.heap.size w w7 := hB6.trans (hb7.mono hB6.size)
          clear K hb7 hB6
          go_wp2
          go_ret
          exact ⟨rfl, hB7⟩
      · cases hall : l.all Nd.ok
        · obtain ⟨j, hj, hbad⟩ := all_bad l hall
          obtain ⟨r1, r2⟩ := write_bad l h64 j hj hbad
          have hG := HG.out
          rw [hall] at hG
          clear hbad hj HG hall
          go_wp2_with fail
          refine (Read_any raw _ hraw).mono ?_
          intro e w6 hp
          cases hr : readR raw.data.toList with
          | none =>
            rw [hr] at hp
            obtain ⟨rfl, hb6⟩ := hp
            have hB6 : Below w.heap.size w w6 := hb.trans (hb6.mono hb.size)
            clear hr hb6
            go_wp2
            go_ret
            exact ⟨rfl, hB6⟩
          | some l' =>
            rw [hr] at hp
            obtain ⟨v', rfl, ho, hb6⟩ := hp
            obtain ⟨a1, a2, a3⟩ := write_read _ _ hr
            have hB6 : Below w.heap.size w w6 := hb.trans (hb6.mono hb.size)
            have K := Write_any _ l' _ (Nodes.own ho (by omega))
            obtain ⟨r1, r2⟩ := write_good l' (by omega) a2
            have r3 : (⟨(writeB l').toArray⟩ : ByteArray) = raw := by rw [r1, a3]
            rw [r3, r2] at K
            clear hr hb6 ho a1 a2 a3 r1 r2 r3
            go_wp2_with fail
            refine K.mono ?_
            rintro e w7 ⟨rfl, hb7⟩
            have hB7 : Below w.heap.size w w7 := hB6.trans (hb7.mono hB6.size)
            clear K hb7 hB6
            go_wp2
            go_ret
            exact ⟨rfl, hB7⟩
        · obtain ⟨r1, r2⟩ := write_good l h64 hall
          have hG := HG.out
          rw [hall] at hG
          have hN := (hl.below hb).mono hb.size
          by_cases h1000 : (marks l).length ≤ 1000
          · have K := Read_any ⟨(marks l).toArray⟩ wr (by unfold maxLen; have := str_size (marks l); omega)
            have e0 : (⟨(marks l).toArray⟩ : ByteArray).data.toList = marks l := by simp
            rw [e0, read_write l (by omega) hall h1000] at K
            clear HG hall e0 hl
            go_wp2_with fail
            refine K.mono ?_
            rintro e w3 ⟨v3, rfl, ho3, hb3⟩
            have N3 := Nodes.own ho3 (by omega)
            have N1 := (hN.below hb3).mono hb3.size
            have hB3 : Below w.heap.size w w3 := hb.trans (hb3.mono hb.size)
            clear K ho3 hb3 hN
            go_wp2_with fail
            refine (same_any _ _ l l _ N3 N1 rfl).mono ?_
            rintro e w4 ⟨rfl, hb4⟩
            have hB4 : Below w.heap.size w w4 := hB3.trans (hb4.mono hB3.size)
            clear hb4 hB3 N1 N3
            go_wp2_with fail
            refine (Read_any raw _ hraw).mono ?_
            intro e w6 hp
            cases hr : readR raw.data.toList with
            | none =>
              rw [hr] at hp
              obtain ⟨rfl, hb6⟩ := hp
              have hB6 : Below w.heap.size w w6 := hB4.trans (hb6.mono hB4.size)
              clear hr hb6
              go_wp2
              go_ret
              exact ⟨rfl, hB6⟩
            | some l' =>
              rw [hr] at hp
              obtain ⟨v', rfl, ho, hb6⟩ := hp
              obtain ⟨a1, a2, a3⟩ := write_read _ _ hr
              have hB6 : Below w.heap.size w w6 := hB4.trans (hb6.mono hB4.size)
              have K := Write_any _ l' _ (Nodes.own ho (by omega))
              obtain ⟨r1, r2⟩ := write_good l' (by omega) a2
              have r3 : (⟨(writeB l').toArray⟩ : ByteArray) = raw := by rw [r1, a3]
              rw [r3, r2] at K
              clear hr hb6 ho a1 a2 a3 r1 r2 r3
              go_wp2_with fail
              refine K.mono ?_
              rintro e w7 ⟨rfl, hb7⟩
              have hB7 : Below w.heap.size w w7 := hB6.trans (hb7.mono hB6.size)
              clear K hb7 hB6
              go_wp2
              go_ret
              exact ⟨rfl, hB7⟩
          · clear HG hall hl hN
            go_wp2_with fail
            refine (Read_any raw _ hraw).mono ?_
            intro e w6 hp
            cases hr : readR raw.data.toList with
            | none =>
              rw [hr] at hp
              obtain ⟨rfl, hb6⟩ := hp
              have hB6 : Below w.heap.size w w6 := hb.trans (hb6.mono hb.size)
              clear hr hb6
              go_wp2
              go_ret
              exact ⟨rfl, hB6⟩
            | some l' =>
              rw [hr] at hp
              obtain ⟨v', rfl, ho, hb6⟩ := hp
              obtain ⟨a1, a2, a3⟩ := write_read _ _ hr
              have hB6 : Below w.heap.size w w6 := hb.trans (hb6.mono hb.size)
              have K := Write_any _ l' _ (Nodes.own ho (by omega))
              obtain ⟨r1, r2⟩ := write_good l' (by omega) a2
              have r3 : (⟨(writeB l').toArray⟩ : ByteArray) = raw := by rw [r1, a3]
              rw [r3, r2] at K
              clear hr hb6 ho a1 a2 a3 r1 r2 r3
              go_wp2_with fail
              refine K.mono ?_
              rintro e w7 ⟨rfl, hb7⟩
              have hB7 : Below w.heap.size w w7 := hB6.trans (hb7.mono hB6.size)
              clear K hb7 hB6
              go_wp2
              go_ret
              exact ⟨rfl, hB7⟩

end Go.Proofs.Ytlggbcceoejkkaa
