/- What WriteProof does. -/
import Derived.Test.YtlggbcceoejkkaaGreatWalk3
namespace Go.Proofs.YtlggbcceoejkkaaGreat
open Go.RowKit

/-- The slice v reads, in w, as the nodes l; what it reads lies in blocks below B. -/
structure Nodes (w : World) (B : Nat) (v : Value) (l : List Nd) : Prop where
  ex : ∃ ao cap, v = .slice ao l.length cap ∧ l.length ≤ 9223372036854775807 ∧ ∀ i (hi : i < l.length), ∃ b off, ao = some ⟨b, off, none⟩ ∧ b < B ∧ ∀ j (hj : j < 6), w.cell? ⟨b, off + i * 6 + j, none⟩ = some ((l[i]).cells[j]'(by simp [Nd.cells]; omega))

/-- The six cells of a node, in a later world. -/
theorem six {w wr : World} {b off i B : Nat} {d : Nd} (hb : Below B w wr) (hbB : b < B) (h : ∀ j (hj : j < 6), w.cell? ⟨b, off + i * 6 + j, none⟩ = some (d.cells[j]'(by simp [Nd.cells]; omega))) :
    wr.cell? ⟨b, off + i * 6, none⟩ = some (.int .i64 d.c) ∧ wr.cell? ⟨b, off + i * 6 + 1, none⟩ = some (.int .i64 d.s) ∧ wr.cell? ⟨b, off + i * 6 + 2, none⟩ = some (.int .i64 d.m) ∧
    wr.cell? ⟨b, off + i * 6 + 3, none⟩ = some (.int .i64 d.x) ∧ wr.cell? ⟨b, off + i * 6 + 4, none⟩ = some (.int .u8 d.h.toNat) ∧ wr.cell? ⟨b, off + i * 6 + 5, none⟩ = some (.int .u8 d.g.toNat) := by
  have k : ∀ j (hj : j < 6), wr.cell? ⟨b, off + i * 6 + j, none⟩ = some (d.cells[j]'(by simp [Nd.cells]; omega)) := fun j hj => (hb.cell (p := ⟨b, off + i * 6 + j, none⟩) hbB).trans (h j hj)
  exact ⟨k 0 (by omega), k 1 (by omega), k 2 (by omega), k 3 (by omega), k 4 (by omega), k 5 (by omega)⟩

/-- 'string(b)' of a row of the call's own. -/
theorem run_string_own (w : World) (base : Nat) (v : Value) (l : List UInt8) (h : w.ownsRow base 5 1 v l.length (l.map B)) :
    (convert 153 9 v).run Tryz.prog w = .ok (.string ⟨l.toArray⟩) w := by
  rcases h.2 with ⟨rfl, h0⟩ | ⟨g, cap, cur, rfl, _, hg, _, _, _, ht⟩
  · have : l = [] := List.eq_nil_of_length_eq_zero h0
    subst this
    exact run_convert_bytes_nil w 153 5 Tryz.underlying153 Tryz.underlying5 0 0 9 Tryz.underlying9
  · refine run_convert_bytes_back w 153 9 5 ⟨g, 0, none⟩ cap l Tryz.underlying153 Tryz.underlying5 Tryz.underlying9 fun j hj => ?_
    exact h.cells (g := g) rfl j _ (by simp [hj, B])

set_option maxHeartbeats 1000000 in
set_option maxRecDepth 100000 in
theorem write_any (v : Value) (l : List Nd) (w : World) (hl : Nodes w w.heap.size v l) :
    Calls Tryz.prog 56 #[v] w fun e w' => e = .returned (.tuple #[.string ⟨(writeB l).toArray⟩, .int .i64 (writeE l)]) ∧ Below w.heap.size w w' := by
  obtain ⟨ao, cap, rfl, hmax, hcells⟩ := hl.ex
  clear hl
  by_cases h64 : 64 < l.length
  · obtain ⟨r1, r2⟩ := write_many l h64
    rw [r1, r2]
    clear r1 r2 hcells
    go_enter Tryz.func56, Tryz.ntmps56
    go_wp2
    go_ret2
    exact ⟨rfl, Below.refl _ _⟩
  · have hd64 : decide (64 < (l.length : Int)) = false := by simp; omega
    go_enter Tryz.func56, Tryz.ntmps56
    go_wp2
    go_loopw [4, 12] (fun s i wr => ∃ k : Nat, k ≤ l.length ∧ i = .int .i64 k ∧ Hid ((l.take k).all Nd.ok = true) ∧ wr.ownsRow w.heap.size 5 1 s (marks (l.take k)).length ((marks (l.take k)).map B) ∧ Below w.heap.size w wr)
      (fun _ i _ => l.length - (intOf i).toNat)
    case atStart => exact ⟨0, Nat.zero_le _, rfl, rfl, World.ownsRow_nil _ _ _ _, Below.refl _ _⟩
    case round =>
      obtain ⟨k, hk, rfl, HA, hown, hb⟩ := hrel
      by_cases hlt : k < l.length
      · obtain ⟨b, off, rfl, hbB, hcs⟩ := hcells k hlt
        obtain ⟨d, hd⟩ : ∃ d, d = l[k] := ⟨_, rfl⟩
        rw [← hd] at hcs
        obtain ⟨k0, k1, k2, k3, k4, k5⟩ := six hb hbB hcs
        have HD : Hid _ := hd
        clear hcs hd
        go_wp2_with fail
        cases hok : d.ok
        · refine (mayBe_any d _ _ hok).mono ?_
          rintro e w1 ⟨rfl, hb1⟩
          have HR : Hid _ := write_bad l h64 k hlt (by rw [← HD.out]; exact hok)
          have fin : Below w.heap.size w w1 := (hb.alloc hb.size _).trans (hb1.mono (by have := hb.size; simp; omega))
          go_wp2
          go_ret2
          exact ⟨by rw [HR.out.1, HR.out.2]; rfl, fin⟩
        · refine (mayBe_any d _ _ hok).mono ?_
          rintro e w1 ⟨rfl, hb1⟩
          have hc1 := oldc hb1
          have hown1 := ownsRow_below (hown.alloc _) hb1
          have hml := marks_length (l.take k)
          have hll : (l.take k).length ≤ 64 := by simp; omega
          have hB1 : Below w.heap.size w w1 := (hb.alloc hb.size _).trans (hb1.mono (by have := hb.size; simp; omega))
          have hs1 := hB1.size
          go_wp2_with fail
          refine (mark_any w.heap.size _ _ _ d _ hown1 hok (by omega) hs1).mono ?_
          rintro e w2 ⟨v2, rfl, hown2, hg2⟩
          have hB2 : Below w.heap.size w w2 := hB1.grown hg2.grown hs1 (fun j hj => (hown1.lt j hj).1)
          clear hg2 hown1 hc1 hb1 hB1 hb hown
          go_wp2
          go_roundw
          case rel => exact ⟨k + 1, by omega, by go_num, all_snoc l k hlt HA.out (by rw [← HD.out]; exact hok), by rw [take_snoc' l k hlt, ← HD.out, marks_snoc]; simpa using hown2, hB2⟩
          case measure => simp [intOf]; omega
      · have hkl : l.take k = l := List.take_of_length_le (by omega)
        have HA' := HA.out
        rw [hkl] at hown HA'
        have HR : Hid _ := write_good l h64 HA'
        have hcv := run_string_own wr w.heap.size _ _ hown
        clear HA HA' hcells hkl hown
        go_wp2
        go_ret2
        exact ⟨by rw [HR.out.1, HR.out.2]; rfl, hb⟩

theorem Write_any (v : Value) (l : List Nd) (w : World) (hl : Nodes w w.heap.size v l) :
    Calls Tryz.prog 24 #[v] w fun e w' => e = .returned (.tuple #[.string ⟨(writeB l).toArray⟩, .int .i64 (writeE l)]) ∧ Below w.heap.size w w' := by
  go_enter Tryz.func24, Tryz.ntmps24
  go_wp2_with fail
  refine (write_any v l w hl).mono ?_
  rintro e w1 ⟨rfl, hb⟩
  go_wp2
  go_ret2
  exact ⟨rfl, hb⟩

end Go.Proofs.YtlggbcceoejkkaaGreat
