/- What appendMarked and MayBe do. -/
import Derived.Deep.RegionHeld3
import Derived.Test.YtogmdaopfnmobaaGreatS04
import Derived.Test.YtogmdaopfnmobaaGreatS05
namespace Go.Proofs.YtogmdaopfnmobaaGreat
open Go.RowKit
attribute [local go_sem ↓] run_eql_node run_neq_node
set_option maxHeartbeats 1000000 in
set_option maxRecDepth 100000 in
theorem mark_empty (base : Nat) (v : Value) (n0 : Nat) (xs : List Value) (c s m x h g : Int) (w : World) (hown0 : w.ownsRow base 5 1 v n0 xs)
    (he : eqN c s m x h g 0 0 0 0 1 77 = true) (hsz : n0 ≤ 800000) (hbase : base ≤ w.heap.size) :
    Calls Tryz.prog 143 #[v, .agg #[.int .i64 c, .int .i64 s, .int .i64 m, .int .i64 x, .int .u8 h, .int .u8 g]] w fun e w' => ∃ v', e = .returned v' ∧
      w'.ownsRow base 5 1 v' (n0 + 1) (xs ++ [0].map B) ∧ Grew w v w' v' := by
  obtain ⟨i0, hi, hz0, hz1, hz2⟩ := info_parts info_u8
  go_enter Tryz.func143, Tryz.ntmps143
  go_wp2
  go_region_with (go_at_call 113; refine (empty_any _).mono ?_; rintro e w1 ⟨rfl, hb⟩; have hc1 := oldc hb)
  all_goals
    have hown1 := ownsRow_below ((hown0.alloc _).drew) hb
    have hg1 := (((Grew.refl w v).alloc _).drew).below hb
    have hb1 := hb.size
    simp at hb1
    clear hc1 hb hown0
    go_wp2_with (at_builtin; refine wpList_append_grew _ rfl _ _ 159 rfl base 5 i0 (.int .u8 0) 1 1 Tryz.underlying159 hi hz0 hz1 hz2 rfl (by decide) _ _ _ rfl (hown1.alloc _) ⟨w1.heap.size, 0, none⟩ 1 1 [B 0] rfl rfl ?_ ?_ ?_ ?_ ?_ ?_)
    · exact one_new _ _ _ _ rfl
    · exact B_one [0]
    · unfold maxLen; omega
    · omega
    · simp; omega
    intro v' w2 hown' hgrow _
    have R := (hg1.alloc _).trans hgrow
    clear hgrow hown1 hg1
    go_wp2
    go_ret
    exact ⟨v', rfl, by simpa using hown', R⟩
set_option maxHeartbeats 1000000 in
set_option maxRecDepth 100000 in
theorem mark_full (base : Nat) (v : Value) (n0 : Nat) (xs : List Value) (c s m x : Nat) (h g : UInt8) (w : World) (hown0 : w.ownsRow base 5 1 v n0 xs)
    (he : eqN c s m x h.toNat g.toNat 0 0 0 0 1 77 = false)
    (hc : c ≤ 34359738367) (hs : s ≤ 34359738367) (hm : m ≤ 34359738367) (hx : x ≤ 34359738367) (hsz : n0 ≤ 800000) (hbase : base ≤ w.heap.size) :
    Calls Tryz.prog 143 #[v, .agg #[.int .i64 c, .int .i64 s, .int .i64 m, .int .i64 x, .int .u8 h.toNat, .int .u8 g.toNat]] w fun e w' => ∃ v', e = .returned v' ∧
      w'.ownsRow base 5 1 v' (n0 + (1 :: (num c ++ num s ++ num m ++ num x ++ [h, g])).length) (xs ++ (1 :: (num c ++ num s ++ num m ++ num x ++ [h, g])).map B) ∧ Grew w v w' v' := by
  obtain ⟨i0, hi, hz0, hz1, hz2⟩ := info_parts info_u8
  go_enter Tryz.func143, Tryz.ntmps143
  go_wp2
  go_region_with (go_at_call 113; refine (empty_any _).mono ?_; rintro e w1 ⟨rfl, hb⟩; have hc1 := oldc hb)
  all_goals
    have hown1 := ownsRow_below ((hown0.alloc _).drew) hb
    have hg1 := (((Grew.refl (w.alloc (.cells #[.int .i64 c, .int .i64 s, .int .i64 m, .int .i64 x, .int .u8 h.toNat, .int .u8 g.toNat] 51)) v)).drew).below hb
    have hb1 := hb.size
    simp at hb1
    obtain ⟨k0, k1, k2, k3, k4, k5⟩ := boxed hown0 hg1
    clear hc1 hb
    go_wp2
    go_region_held3 (fun w' => w'.cell? ⟨w.heap.size, 0, none⟩ = some (.int .i64 c) ∧ w'.cell? ⟨w.heap.size, 1, none⟩ = some (.int .i64 s) ∧ w'.cell? ⟨w.heap.size, 2, none⟩ = some (.int .i64 m) ∧ w'.cell? ⟨w.heap.size, 3, none⟩ = some (.int .i64 x) ∧ w'.cell? ⟨w.heap.size, 4, none⟩ = some (.int .u8 h.toNat) ∧ w'.cell? ⟨w.heap.size, 5, none⟩ = some (.int .u8 g.toNat)) (first | go_keep | exact boxed hown0 (((hg1.drew).alloc _).trans hgrow) | exact boxed hown0 ((((hg1.drew).alloc _).trans hgrow).trans hg3)) (first | (refine step_append_grew _ (by rfl) _ _ 159 (by rfl) base 5 i0 (.int .u8 0) 1 1 Tryz.underlying159 hi hz0 hz1 hz2 rfl (by decide) _ _ _ (by rfl) ((hown1.drew).alloc _) ⟨w1.heap.size, 0, none⟩ 1 1 [B 1] (by rfl) (by rfl) (one_new _ _ _ _ rfl) (B_one [1]) (by unfold maxLen; omega) (by omega) (by simp; omega) ?_; intro v' w2 hown' hgrow _) | (go_at_call 116; refine (appendNode_any base _ _ _ _ _ _ _ _ _ _ hown' (Nat.le_trans hc (by decide)) (Nat.le_trans hs (by decide)) (Nat.le_trans hm (by decide)) (Nat.le_trans hx (by decide)) (by omega) ?_).mono ?_; (have := hgrow.grown.size; simp at this; omega); rintro e w3 ⟨v3, rfl, hown3, hg3⟩))
    have R := (((Grew.refl w v).alloc _).trans (((hg1.drew).alloc _).trans hgrow)).trans hg3
    clear hgrow hg3 hg1 hown' hown1 hown0
    go_wp2
    go_ret
    refine ⟨v3, rfl, ?_, R⟩
    exact own_cast hown3 (by simp; omega) (by simp)
def Nd.val (d : Nd) : Value := .agg #[.int .i64 d.c, .int .i64 d.s, .int .i64 d.m, .int .i64 d.x, .int .u8 (d.h.toNat : Int), .int .u8 (d.g.toNat : Int)]
def Nd.cells (d : Nd) : List Value := [.int .i64 d.c, .int .i64 d.s, .int .i64 d.m, .int .i64 d.x, .int .u8 (d.h.toNat : Int), .int .u8 (d.g.toNat : Int)]
theorem mark_any (base : Nat) (v : Value) (n0 : Nat) (xs : List Value) (d : Nd) (w : World) (hown0 : w.ownsRow base 5 1 v n0 xs) (hd : d.ok = true) (hsz : n0 ≤ 800000) (hbase : base ≤ w.heap.size) :
    Calls Tryz.prog 143 #[v, .agg #[.int .i64 d.c, .int .i64 d.s, .int .i64 d.m, .int .i64 d.x, .int .u8 (d.h.toNat : Int), .int .u8 (d.g.toNat : Int)]] w fun e w' => ∃ v', e = .returned v' ∧ w'.ownsRow base 5 1 v' (n0 + d.mark.length) (xs ++ d.mark.map B) ∧ Grew w v w' v' := by
  by_cases he : d.isE = true
  · have hm : d.mark = [0] := by simp [Nd.mark, he]
    rw [hm]
    exact mark_empty base v n0 xs _ _ _ _ _ _ w hown0 he hsz hbase
  · have he' : d.isE = false := by simpa using he
    have hm : d.mark = 1 :: d.bytes := by simp [Nd.mark, he']
    rw [hm]
    cases d with
    | mk c s m x h g =>
      obtain ⟨a1, a2, a3, a4⟩ := (Nd.ok_iff _).1 hd
      simp only [isNum_iff] at a1 a2 a3 a4
      obtain ⟨c, rfl⟩ := Int.eq_ofNat_of_zero_le a1.1
      obtain ⟨s, rfl⟩ := Int.eq_ofNat_of_zero_le a2.1
      obtain ⟨m, rfl⟩ := Int.eq_ofNat_of_zero_le a3.1
      obtain ⟨x, rfl⟩ := Int.eq_ofNat_of_zero_le a4.1
      exact mark_full base v n0 xs c s m x h g w hown0 he' (by omega) (by omega) (by omega) (by omega) hsz hbase
set_option maxHeartbeats 1000000 in
set_option maxRecDepth 100000 in
theorem mayBe_core (c s m x h g : Int) (w : World) (b : Bool) (hb : (isNum c && isNum s && isNum m && isNum x) = b) :
    Calls Tryz.prog 75 #[.agg #[.int .i64 c, .int .i64 s, .int .i64 m, .int .i64 x, .int .u8 h, .int .u8 g]] w fun e w' => e = .returned (.bool b) ∧ Below w.heap.size w w' := by
  have fin : ∀ o1 o2, Below w.heap.size w ((w.alloc o1).alloc o2) := fun o1 o2 => ((Below.refl _ _).alloc (Nat.le_refl _) _).alloc (by simp) _
  go_enter Tryz.func75, Tryz.ntmps75
  cases h1 : isNum c
  · go_wp2_with fail
    refine (isNumber_any _ _ _ h1).mono ?_
    rintro e w' ⟨rfl, rfl⟩
    go_wp2
    go_ret
    exact ⟨by rw [← hb]; simp [h1], fin _ _⟩
  · go_wp2_with fail
    refine (isNumber_any _ _ _ h1).mono ?_
    rintro e w' ⟨rfl, rfl⟩
    cases h2 : isNum s
    · go_wp2_with fail
      refine (isNumber_any _ _ _ h2).mono ?_
      rintro e w' ⟨rfl, rfl⟩
      go_wp2
      go_ret
      exact ⟨by rw [← hb]; simp [h2], fin _ _⟩
    · go_wp2_with fail
      refine (isNumber_any _ _ _ h2).mono ?_
      rintro e w' ⟨rfl, rfl⟩
      cases h3 : isNum m
      · go_wp2_with fail
        refine (isNumber_any _ _ _ h3).mono ?_
        rintro e w' ⟨rfl, rfl⟩
        go_wp2
        go_ret
        exact ⟨by rw [← hb]; simp [h3], fin _ _⟩
      · go_wp2_with fail
        refine (isNumber_any _ _ _ h3).mono ?_
        rintro e w' ⟨rfl, rfl⟩
        go_wp2_with fail
        refine (isNumber_any _ _ _ rfl).mono ?_
        rintro e w' ⟨rfl, rfl⟩
        go_wp2
        go_ret
        exact ⟨by rw [← hb]; simp [h1, h2, h3], fin _ _⟩
theorem mayBe_any (d : Nd) (w : World) (b : Bool) (hb : d.ok = b) : Calls Tryz.prog 75 #[.agg #[.int .i64 d.c, .int .i64 d.s, .int .i64 d.m, .int .i64 d.x, .int .u8 (d.h.toNat : Int), .int .u8 (d.g.toNat : Int)]] w fun e w' => e = .returned (.bool b) ∧ Below w.heap.size w w' :=
  mayBe_core _ _ _ _ _ _ w b hb
end Go.Proofs.YtogmdaopfnmobaaGreat

/- What WriteProof does. -/
namespace Go.Proofs.YtogmdaopfnmobaaGreat
open Go.RowKit
structure Nodes (w : World) (B : Nat) (v : Value) (l : List Nd) : Prop where
  ex : ∃ ao cap, v = .slice ao l.length cap ∧ l.length ≤ 9223372036854775807 ∧ ∀ i (hi : i < l.length), ∃ b off, ao = some ⟨b, off, none⟩ ∧ b < B ∧ ∀ j (hj : j < 6), w.cell? ⟨b, off + i * 6 + j, none⟩ = some ((l[i]).cells[j]'(by simp [Nd.cells]; omega))
theorem six {w wr : World} {b off i B : Nat} {d : Nd} (hb : Below B w wr) (hbB : b < B) (h : ∀ j (hj : j < 6), w.cell? ⟨b, off + i * 6 + j, none⟩ = some (d.cells[j]'(by simp [Nd.cells]; omega))) :
    wr.cell? ⟨b, off + i * 6, none⟩ = some (.int .i64 d.c) ∧ wr.cell? ⟨b, off + i * 6 + 1, none⟩ = some (.int .i64 d.s) ∧ wr.cell? ⟨b, off + i * 6 + 2, none⟩ = some (.int .i64 d.m) ∧
    wr.cell? ⟨b, off + i * 6 + 3, none⟩ = some (.int .i64 d.x) ∧ wr.cell? ⟨b, off + i * 6 + 4, none⟩ = some (.int .u8 d.h.toNat) ∧ wr.cell? ⟨b, off + i * 6 + 5, none⟩ = some (.int .u8 d.g.toNat) := by
  have k : ∀ j (hj : j < 6), wr.cell? ⟨b, off + i * 6 + j, none⟩ = some (d.cells[j]'(by simp [Nd.cells]; omega)) := fun j hj => (hb.cell (p := ⟨b, off + i * 6 + j, none⟩) hbB).trans (h j hj)
  exact ⟨k 0 (by omega), k 1 (by omega), k 2 (by omega), k 3 (by omega), k 4 (by omega), k 5 (by omega)⟩
theorem run_string_own (w : World) (base : Nat) (v : Value) (l : List UInt8) (h : w.ownsRow base 5 1 v l.length (l.map B)) :
    (convert 159 9 v).run Tryz.prog w = .ok (.string ⟨l.toArray⟩) w := by
  rcases h.2 with ⟨rfl, h0⟩ | ⟨g, cap, cur, rfl, _, hg, _, _, _, ht⟩
  · have : l = [] := List.eq_nil_of_length_eq_zero h0
    subst this
    exact run_convert_bytes_nil w 159 5 Tryz.underlying159 Tryz.underlying5 0 0 9 Tryz.underlying9
  · refine run_convert_bytes_back w 159 9 5 ⟨g, 0, none⟩ cap l Tryz.underlying159 Tryz.underlying5 Tryz.underlying9 fun j hj => ?_
    exact h.cells (g := g) rfl j _ (by simp [hj, B])
set_option maxHeartbeats 1000000 in
set_option maxRecDepth 100000 in
theorem write_any (v : Value) (l : List Nd) (w : World) (hl : Nodes w w.heap.size v l) :
    Calls Tryz.prog 130 #[v] w fun e w' => e = .returned (.tuple #[.string ⟨(writeB l).toArray⟩, .int .i64 (writeE l)]) ∧ Below w.heap.size w w' := by
  obtain ⟨ao, cap, rfl, hmax, hcells⟩ := hl.ex
  clear hl
  by_cases h64 : 64 < l.length
  · obtain ⟨r1, r2⟩ := write_many l h64
    rw [r1, r2]
    clear r1 r2 hcells
    go_enter Tryz.func130, Tryz.ntmps130
    go_wp2
    go_ret2
    exact ⟨rfl, Below.refl _ _⟩
  · have hd64 : decide (64 < (l.length : Int)) = false := by simp; omega
    go_enter Tryz.func130, Tryz.ntmps130
    go_wp2
    go_loopw [4, 12] (fun s i wr => ∃ k : Nat, k ≤ l.length ∧ i = .int .i64 k ∧ Hid ((l.take k).all Nd.ok = true) ∧ wr.ownsRow w.heap.size 5 1 s (marks (l.take k)).length ((marks (l.take k)).map B) ∧ Below w.heap.size w wr)
      (fun _ i _ => l.length - (intOf i).toNat)
    case atStart => exact ⟨0, Nat.zero_le _, rfl, rfl, World.ownsRow_nil _ _ _ _, Below.refl _ _⟩
    case round =>
      obtain ⟨k, hk, rfl, HA, hown, hb⟩ := hrel
      by_cases hlt : k < l.length
      · obtain ⟨b, off, rfl, hbB, hcs⟩ := hcells k hlt
        obtain ⟨d, hd⟩ : ∃ d, d = l[k] := ⟨_, rfl⟩
        rw [← hd] at hcs
        obtain ⟨k0, k1, k2, k3, k4, k5⟩ := six hb hbB hcs
        have HD : Hid _ := hd
        clear hcs hd
        go_wp2_with fail
        cases hok : d.ok
        · refine (mayBe_any d _ _ hok).mono ?_
          rintro e w1 ⟨rfl, hb1⟩
          have HR : Hid _ := write_bad l h64 k hlt (by rw [← HD.out]; exact hok)
          have fin : Below w.heap.size w w1 := (hb.alloc hb.size _).trans (hb1.mono (by have := hb.size; simp; omega))
          go_wp2
          go_ret2
          exact ⟨by rw [HR.out.1, HR.out.2]; rfl, fin⟩
        · refine (mayBe_any d _ _ hok).mono ?_
          rintro e w1 ⟨rfl, hb1⟩
          have hc1 := oldc hb1
          have hown1 := ownsRow_below (hown.alloc _) hb1
          have hml := marks_length (l.take k)
          have hll : (l.take k).length ≤ 64 := by simp; omega
          have hB1 : Below w.heap.size w w1 := (hb.alloc hb.size _).trans (hb1.mono (by have := hb.size; simp; omega))
          have hs1 := hB1.size
          go_wp2_with fail
          refine (mark_any w.heap.size _ _ _ d _ hown1 hok (by omega) hs1).mono ?_
          rintro e w2 ⟨v2, rfl, hown2, hg2⟩
          have hB2 : Below w.heap.size w w2 := hB1.grown hg2.grown hs1 (fun j hj => (hown1.lt j hj).1)
          clear hg2 hown1 hc1 hb1 hB1 hb hown
          go_wp2
          go_roundw
          case rel => exact ⟨k + 1, by omega, by go_num, all_snoc l k hlt HA.out (by rw [← HD.out]; exact hok), by rw [take_snoc' l k hlt, ← HD.out, marks_snoc]; simpa using hown2, hB2⟩
          case measure => simp [intOf]; omega
      · have hkl : l.take k = l := List.take_of_length_le (by omega)
        have HA' := HA.out
        rw [hkl] at hown HA'
        have HR : Hid _ := write_good l h64 HA'
        have hcv := run_string_own wr w.heap.size _ _ hown
        clear HA HA' hcells hkl hown
        go_wp2
        go_ret2
        exact ⟨by rw [HR.out.1, HR.out.2]; rfl, hb⟩
end Go.Proofs.YtogmdaopfnmobaaGreat

