/- What one step of kind Hash, Write or Read does (words of the law's world). -/
import Derived.Test.YtlggbcceoejkkaaGreatSettle2
namespace Go.Proofs.YtlggbcceoejkkaaGreat
open Go.RowKit

theorem run_eql_digest (w : World) (h g h' g' : Int) :
    (binOp .eql 34 (.agg #[.int .u8 h, .int .u8 g]) (.agg #[.int .u8 h', .int .u8 g'])).run Tryz.prog w = .ok (.bool (decide (h = h') && decide (g = g'))) w := by
  obtain ⟨i0, hi, _, _, _⟩ := info_parts info_u8'
  rw [run_eql_struct, run_equalIn_array w 9999 _ _ Tryz.underlying34 hi, cells_u8]
  simp [List.range, List.range.loop, Op.eqItems, go_sem]
  by_cases a : h = h' <;> by_cases b : g = g' <;> simp [a, b]

theorem Hash_any (s : ByteArray) (w : World) (hs : s.size ≤ maxLen) :
    Calls Tryz.prog 21 #[.string s] w fun e w' => e = .returned (.agg #[.int .u8 ((dg s.data.toList : Int) / 256), .int .u8 ((dg s.data.toList : Int) % 256)]) ∧ Below w.heap.size w w' := by
  go_enter Tryz.func21, Tryz.ntmps21
  go_wp2_with fail
  refine (of_any s _ hs).mono ?_
  rintro e w1 ⟨rfl, hb⟩
  have hc := oldc hb
  have hf := oldf hb
  go_wp2
  refine bodyPost_ret (v := .agg #[.int .u8 ((dg s.data.toList : Int) / 256), .int .u8 ((dg s.data.toList : Int) % 256)]) (by simp [results, Tryz.results21, go_sem, hc]) rfl ⟨rfl, ?_⟩
  repeat (refine Below.setCell ?_ (by simp) _)
  exact ((Below.refl _ _).alloc (Nat.le_refl _) _).trans (hb.mono (by simp))

/-- What a step leaves. -/
def wordsPost (w : World) (A base : Nat) (sv lv : Value) (m : Nat) (wv ev bv : Value) (Ws Es : List Value) (Ls : List (List Nd)) (Bs : List Bk) (e : Ending) (w' : World) : Prop :=
  e = .returned (.bool true) ∧ Kept w w' (fpOf A wv ev bv Ws Es Bs) ∧ ∃ m' wv' ev' bv' Ws' Es' Ls' Bs', Inv w' A base sv lv m' wv' ev' bv' Ws' Es' Ls' Bs' ∧ m' ≤ m + 1 ∧ Bs'.length ≤ Bs.length + 1 ∧ Ws'.length ≤ Ws.length + 2 ∧ ∀ l ∈ Ls', l ∈ Ls ∨ l.length ≤ 2000000

attribute [local go_sem ↓] run_eql_digest

set_option maxHeartbeats 2000000 in
set_option maxRecDepth 100000 in
theorem words_hash (w : World) (A base : Nat) (sv lv : Value) (m : Nat) (wv ev bv : Value) (Ws Es : List Value) (Ls : List (List Nd)) (Bs : List Bk) (hI : Inv w A base sv lv m wv ev bv Ws Es Ls Bs)
    (a b c d hs gs f0 f1 f2 f3 : Int) (h0 h1 g0 g1 : Int) (s : ByteArray) (nv iv : Value) (hsz : s.size ≤ maxLen) (hnv : ∃ x y z, nv = .slice x y z) (hiv : ∃ x y z, iv = .slice x y z) :
    Calls Tryz.prog 11 #[.pointer (some ⟨A, 0, none⟩), .agg #[.int .i64 1, .int .i64 a, .int .i64 b, .int .i64 c, .int .i64 d, .string s, .int .i64 hs, .int .u8 h0, .int .u8 h1, .int .i64 gs, .int .u8 g0, .int .u8 g1, .int .i64 f0, .int .i64 f1, .int .i64 f2, .int .i64 f3, nv, iv]] w
      (wordsPost w A base sv lv m wv ev bv Ws Es Ls Bs) := by
  obtain ⟨x1, y1, z1, rfl⟩ := hnv
  obtain ⟨x2, y2, z2, rfl⟩ := hiv
  go_enter Tryz.func11, Tryz.ntmps11
  go_wp2_with fail
  refine (Hash_any s _ hsz).mono ?_
  rintro e w1 ⟨rfl, hb1⟩
  have hc1 := oldc hb1
  have z1' : w.heap.size < w1.heap.size := by have := hb1.size; simp at this; omega
  go_wp2_with fail
  refine (refHash_any s _ hsz).mono ?_
  rintro e w2 ⟨rfl, hb2⟩
  have hc2 := oldc hb2
  have z2' : w1.heap.size < w2.heap.size := by have := hb2.size; simp at this; omega
  have B2 : Below w.heap.size w w2 := ((((Below.refl _ _).alloc (Nat.le_refl _) _).trans (hb1.mono (by simp))).alloc (by omega) _).trans (hb2.mono (by simp; omega))
  go_wp2
  go_ret
  exact ⟨by simp, Kept.of_below (B2.alloc (by omega) _) _, m, wv, ev, bv, Ws, Es, Ls, Bs, hI.below (B2.alloc (by omega) _), by omega, by omega, by omega, fun l hl => .inl hl⟩

end Go.Proofs.YtlggbcceoejkkaaGreat
