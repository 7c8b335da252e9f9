/- What appendMarked and MayBe do. -/
import Derived.Test.YtlggbcceoejkkaaWalk2
import Derived.Test.YtlggbcceoejkkaaEq
import Derived.Deep.RegionHeld3
namespace Go.Proofs.Ytlggbcceoejkkaa
open Go.RowKit

attribute [local go_sem ↓] run_eql_node run_neq_node

set_option maxHeartbeats 1000000 in
set_option maxRecDepth 100000 in
theorem mark_empty (base : Nat) (v : Value) (n0 : Nat) (xs : List Value) (c s m x h g : Int) (w : World) (hown0 : w.ownsRow base 5 1 v n0 xs)
    (he : eqN c s m x h g 0 0 0 0 1 77 = true) (hsz : n0 ≤ 800000) (hbase : base ≤ w.heap.size) :
    Calls Try.prog 38 #[v, .agg #[.int .i64 c, .int .i64 s, .int .i64 m, .int .i64 x, .int .u8 h, .int .u8 g]] w fun e w' => ∃ v', e = .returned v' ∧
      w'.ownsRow base 5 1 v' (n0 + 1) (xs ++ [0].map B) ∧ Grew w v w' v' := by
  obtain ⟨i0, hi, hz0, hz1, hz2⟩ := info_parts info_u8
  go_enter Try.func38, Try.ntmps38
  go_wp2
  go_region_with (go_at_call 52; refine (empty_any _).mono ?_; rintro e w1 ⟨rfl, hb⟩; have hc1 := oldc hb)
  all_goals
    have hown1 := ownsRow_below ((hown0.alloc _).drew) hb
    have hg1 := (((Grew.refl w v).alloc _).drew).below hb
    have hb1 := hb.size
    simp at hb1
    clear hc1 hb hown0
    go_wp2_with (at_builtin; refine wpList_append_grew _ rfl _ _ 87 rfl base 5 i0 (.int .u8 0) 1 1 Try.underlying87 hi hz0 hz1 hz2 rfl (by decide) _ _ _ rfl (hown1.alloc _) ⟨w1.heap.size, 0, none⟩ 1 1 [B 0] rfl rfl ?_ ?_ ?_ ?_ ?_ ?_)
    · exact one_new _ _ _ _ rfl
    · exact B_one [0]
    · unfold maxLen; omega
    · omega
    · simp; omega
    intro v' w2 hown' hgrow _
    have R := (hg1.alloc _).trans hgrow
    clear hgrow hown1 hg1
    go_wp2
    go_ret
    exact ⟨v', rfl, by simpa using hown', R⟩

set_option maxHeartbeats 1000000 in
set_option maxRecDepth 100000 in
theorem mark_full (base : Nat) (v : Value) (n0 : Nat) (xs : List Value) (c s m x : Nat) (h g : UInt8) (w : World) (hown0 : w.ownsRow base 5 1 v n0 xs)
    (he : eqN c s m x h.toNat g.toNat 0 0 0 0 1 77 = false)
    (hc : c ≤ 34359738367) (hs : s ≤ 34359738367) (hm : m ≤ 34359738367) (hx : x ≤ 34359738367) (hsz : n0 ≤ 800000) (hbase : base ≤ w.heap.size) :
    Calls Try.prog 38 #[v, .agg #[.int .i64 c, .int .i64 s, .int .i64 m, .int .i64 x, .int .u8 h.toNat, .int .u8 g.toNat]] w fun e w' => ∃ v', e = .returned v' ∧
      w'.ownsRow base 5 1 v' (n0 + (1 :: (num c ++ num s ++ num m ++ num x ++ [h, g])).length) (xs ++ (1 :: (num c ++ num s ++ num m ++ num x ++ [h, g])).map B) ∧ Grew w v w' v' := by
  obtain ⟨i0, hi, hz0, hz1, hz2⟩ := info_parts info_u8
  go_enter Try.func38, Try.ntmps38
  go_wp2
  go_region_with (go_at_call 52; refine (empty_any _).mono ?_; rintro e w1 ⟨rfl, hb⟩; have hc1 := oldc hb)
  all_goals
    have hown1 := ownsRow_below ((hown0.alloc _).drew) hb
    have hg1 := (((Grew.refl (w.alloc (.cells #[.int .i64 c, .int .i64 s, .int .i64 m, .int .i64 x, .int .u8 h.toNat, .int .u8 g.toNat] 33)) v)).drew).below hb
    have hb1 := hb.size
    simp at hb1
    obtain ⟨k0, k1, k2, k3, k4, k5⟩ := boxed hown0 hg1
    clear hc1 hb
    go_wp2
    go_region_held3 (fun w' => w'.cell? ⟨w.heap.size, 0, none⟩ = some (.int .i64 c) ∧ w'.cell? ⟨w.heap.size, 1, none⟩ = some (.int .i64 s) ∧ w'.cell? ⟨w.heap.size, 2, none⟩ = some (.int .i64 m) ∧ w'.cell? ⟨w.heap.size, 3, none⟩ = some (.int .i64 x) ∧ w'.cell? ⟨w.heap.size, 4, none⟩ = some (.int .u8 h.toNat) ∧ w'.cell? ⟨w.heap.size, 5, none⟩ = some (.int .u8 g.toNat)) (first | go_keep | exact boxed hown0 (((hg1.drew).alloc _).trans hgrow) | exact boxed hown0 ((((hg1.drew).alloc _).trans hgrow).trans hg3)) (first | (refine step_append_grew _ (by rfl) _ _ 87 (by rfl) base 5 i0 (.int .u8 0) 1 1 Try.underlying87 hi hz0 hz1 hz2 rfl (by decide) _ _ _ (by rfl) ((hown1.drew).alloc _) ⟨w1.heap.size, 0, none⟩ 1 1 [B 1] (by rfl) (by rfl) (one_new _ _ _ _ rfl) (B_one [1]) (by unfold maxLen; omega) (by omega) (by simp; omega) ?_; intro v' w2 hown' hgrow _) | (go_at_call 53; refine (appendNode_any base _ _ _ _ _ _ _ _ _ _ hown' hc hs hm hx (by omega) ?_).mono ?_; (have := hgrow.grown.size; simp at this; omega); rintro e w3 ⟨v3, rfl, hown3, hg3⟩))
    have R := (((Grew.refl w v).alloc _).trans (((hg1.drew).alloc _).trans hgrow)).trans hg3
    clear hgrow hg3 hg1 hown' hown1 hown0
    go_wp2
    go_ret
    refine ⟨v3, rfl, ?_, R⟩
    exact own_cast hown3 (by simp; omega) (by simp)

/-- A node as a value. -/
def Nd.val (d : Nd) : Value := .agg #[.int .i64 d.c, .int .i64 d.s, .int .i64 d.m, .int .i64 d.x, .int .u8 (d.h.toNat : Int), .int .u8 (d.g.toNat : Int)]
def Nd.cells (d : Nd) : List Value := [.int .i64 d.c, .int .i64 d.s, .int .i64 d.m, .int .i64 d.x, .int .u8 (d.h.toNat : Int), .int .u8 (d.g.toNat : Int)]

theorem mark_any (base : Nat) (v : Value) (n0 : Nat) (xs : List Value) (d : Nd) (w : World) (hown0 : w.ownsRow base 5 1 v n0 xs) (hd : d.ok = true) (hsz : n0 ≤ 800000) (hbase : base ≤ w.heap.size) :
    Calls Try.prog 38 #[v, .agg #[.int .i64 d.c, .int .i64 d.s, .int .i64 d.m, .int .i64 d.x, .int .u8 (d.h.toNat : Int), .int .u8 (d.g.toNat : Int)]] w fun e w' => ∃ v', e = .returned v' ∧ w'.ownsRow base 5 1 v' (n0 + d.mark.length) (xs ++ d.mark.map B) ∧ Grew w v w' v' := by
  by_cases he : d.isE = true
  · have hm : d.mark = [0] := by simp [Nd.mark, he]
    rw [hm]
    exact mark_empty base v n0 xs _ _ _ _ _ _ w hown0 he hsz hbase
  · have he' : d.isE = false := by simpa using he
    have hm : d.mark = 1 :: d.bytes := by simp [Nd.mark, he']
    rw [hm]
    cases d with
    | mk c s m x h g =>
      obtain ⟨a1, a2, a3, a4⟩ := (Nd.ok_iff _).1 hd
      simp only [isNum_iff] at a1 a2 a3 a4
      obtain ⟨c, rfl⟩ := Int.eq_ofNat_of_zero_le a1.1
      obtain ⟨s, rfl⟩ := Int.eq_ofNat_of_zero_le a2.1
      obtain ⟨m, rfl⟩ := Int.eq_ofNat_of_zero_le a3.1
      obtain ⟨x, rfl⟩ := Int.eq_ofNat_of_zero_le a4.1
      exact mark_full base v n0 xs c s m x h g w hown0 he' (by omega) (by omega) (by omega) (by omega) hsz hbase

set_option maxHeartbeats 1000000 in
set_option maxRecDepth 100000 in
theorem mayBe_core (c s m x h g : Int) (w : World) (b : Bool) (hb : (isNum c && isNum s && isNum m && isNum x) = b) :
    Calls Try.prog 37 #[.agg #[.int .i64 c, .int .i64 s, .int .i64 m, .int .i64 x, .int .u8 h, .int .u8 g]] w fun e w' => e = .returned (.bool b) ∧ Below w.heap.size w w' := by
  have fin : ∀ o1 o2, Below w.heap.size w ((w.alloc o1).alloc o2) := fun o1 o2 => ((Below.refl _ _).alloc (Nat.le_refl _) _).alloc (by simp) _
  go_enter Try.func37, Try.ntmps37
  cases h1 : isNum c
  · go_wp2_with fail
    refine (isNumber_any _ _ _ h1).mono ?_
    rintro e w' ⟨rfl, rfl⟩
    go_wp2
    go_ret
    exact ⟨by rw [← hb]; simp [h1], fin _ _⟩
  · go_wp2_with fail
    refine (isNumber_any _ _ _ h1).mono ?_
    rintro e w' ⟨rfl, rfl⟩
    cases h2 : isNum s
    · go_wp2_with fail
      refine (isNumber_any _ _ _ h2).mono ?_
      rintro e w' ⟨rfl, rfl⟩
      go_wp2
      go_ret
      exact ⟨by rw [← hb]; simp [h2], fin _ _⟩
    · go_wp2_with fail
      refine (isNumber_any _ _ _ h2).mono ?_
      rintro e w' ⟨rfl, rfl⟩
      cases h3 : isNum m
      · go_wp2_with fail
        refine (isNumber_any _ _ _ h3).mono ?_
        rintro e w' ⟨rfl, rfl⟩
        go_wp2
        go_ret
        exact ⟨by rw [← hb]; simp [h3], fin _ _⟩
      · go_wp2_with fail
        refine (isNumber_any _ _ _ h3).mono ?_
        rintro e w' ⟨rfl, rfl⟩
        go_wp2_with fail
        refine (isNumber_any _ _ _ rfl).mono ?_
        rintro e w' ⟨rfl, rfl⟩
        go_wp2
        go_ret
        exact ⟨by rw [← hb]; simp [h1, h2, h3], fin _ _⟩

theorem mayBe_any (d : Nd) (w : World) (b : Bool) (hb : d.ok = b) : Calls Try.prog 37 #[.agg #[.int .i64 d.c, .int .i64 d.s, .int .i64 d.m, .int .i64 d.x, .int .u8 (d.h.toNat : Int), .int .u8 (d.g.toNat : Int)]] w fun e w' => e = .returned (.bool b) ∧ Below w.heap.size w w' :=
  mayBe_core _ _ _ _ _ _ w b hb

end Go.Proofs.Ytlggbcceoejkkaa
