/- What looks of the law's world does. -/
import Derived.Test.YtlggbcceoejkkaaGreatKeep
namespace Go.Proofs.YtlggbcceoejkkaaGreat
open Go.RowKit

theorem nodes_own {w : World} {base : Nat} {v : Value} {l : List Nd} (h : w.ownsRow base 46 6 v l.length (l.flatMap Nd.cells)) (hl : l.length ≤ 9000000) : Nodes w w.heap.size v l := by
  constructor
  rcases h.2 with ⟨rfl, h0⟩ | ⟨g, cap, cur, rfl, _, hg, _⟩
  · exact ⟨none, 0, by rw [h0], by omega, fun i hi => by omega⟩
  · obtain ⟨rest, hb, _⟩ := Blk.of h rfl
    refine ⟨_, cap, rfl, by omega, fun i hi => ⟨g, 0, rfl, hb.lt, fun j hj => ?_⟩⟩
    rw [Nat.zero_add, hb.cell hi hj, List.getElem?_eq_getElem]

theorem bcells_len (b : Bk) : b.cells.length = 10 := rfl
theorem brow_get (L : List Bk) : ∀ (i j : Nat) (hi : i < L.length) (_ : j < 10), (L.flatMap Bk.cells)[i * 10 + j]? = (L[i]).cells[j]? := by
  induction L with
  | nil => intro i j hi; simp at hi
  | cons d r ih =>
    intro i j hi hj
    cases i with
    | zero =>
      simp only [List.flatMap_cons, Nat.zero_mul, Nat.zero_add, List.getElem_cons_zero]
      rw [List.getElem?_append_left (by rw [bcells_len]; omega)]
    | succ i =>
      simp only [List.flatMap_cons, List.getElem_cons_succ]
      rw [List.getElem?_append_right (by rw [bcells_len]; omega), bcells_len, show (i + 1) * 10 + j - 10 = i * 10 + j from by omega]
      exact ih i j (by simpa using hi) hj
/-- The ten cells of a book. -/
theorem book_cells {w : World} {base : Nat} {bv : Value} {Bs : List Bk} (h : w.ownsRow base 56 10 bv Bs.length (Bs.flatMap Bk.cells)) {k : Nat} {b : Bk} (hk : k < Bs.length) (hb : b = Bs[k]) : ∃ g cap, bv = .slice (some ⟨g, 0, none⟩) Bs.length cap ∧ g < w.heap.size ∧
    (w.cell? ⟨g, k * 10, none⟩ = some (.int .i64 (-1)) ∧ w.cell? ⟨g, k * 10 + 1, none⟩ = some (.int .i64 b.m) ∧ w.cell? ⟨g, k * 10 + 2, none⟩ = some (.int .i64 0) ∧ w.cell? ⟨g, k * 10 + 3, none⟩ = some (.int .i64 0) ∧ w.cell? ⟨g, k * 10 + 4, none⟩ = some (.int .u8 0) ∧
    w.cell? ⟨g, k * 10 + 5, none⟩ = some (.int .u8 0) ∧ w.cell? ⟨g, k * 10 + 6, none⟩ = some b.x0 ∧ w.cell? ⟨g, k * 10 + 7, none⟩ = some b.x1 ∧ w.cell? ⟨g, k * 10 + 8, none⟩ = some b.x2 ∧ w.cell? ⟨g, k * 10 + 9, none⟩ = some b.x3) := by
  subst hb
  rcases h.2 with ⟨rfl, h0⟩ | ⟨g, cap, cur, rfl, _, hg, _⟩
  · omega
  · have key : ∀ j, j < 10 → w.cell? ⟨g, k * 10 + j, none⟩ = (Bs[k]).cells[j]? := fun j hj => by
      have hu : ∃ u, (Bs[k]).cells[j]? = some u := ⟨_, List.getElem?_eq_getElem (by rw [bcells_len]; exact hj)⟩
      obtain ⟨u, hu⟩ := hu
      have := h.cells (g := g) rfl (k * 10 + j) u (by rw [brow_get Bs k j hk hj]; exact hu)
      rw [WideShapes.add_plain, Nat.zero_add] at this
      rw [this, hu]
    exact ⟨g, cap, rfl, (Array.getElem?_eq_some_iff.1 hg).1, key 0 (by omega), key 1 (by omega), key 2 (by omega), key 3 (by omega), key 4 (by omega), key 5 (by omega), key 6 (by omega), key 7 (by omega), key 8 (by omega), key 9 (by omega)⟩

theorem marked_shape {w : World} {base : Nat} {v : Value} {m : Int} (h : Marked w base v m) : ∃ a n c, v = .slice a n c := by
  obtain ⟨n, _, h⟩ := h
  obtain ⟨a, c, e⟩ := own_shape h
  exact ⟨a, n, c, e⟩
theorem all_marked {w w' : World} {base : Nat} {v : Value} {m : Int} (h : Marked w base v m) (hb : Below w.heap.size w w') :
    Calls Tryz.prog 20 #[v, .agg #[.int .i64 (-1), .int .i64 m, .int .i64 0, .int .i64 0, .int .u8 0, .int .u8 0]] w' fun e w'' => e = .returned (.bool true) ∧ Below w'.heap.size w' w'' := by
  obtain ⟨n, hn, h⟩ := h
  have h' := ownsRow_below h hb
  have e : (List.replicate n (Mk m)).length = n := by simp
  rw [← e] at h'
  rw [e] at h'
  exact all_any v m (List.replicate n (Mk m)) w' (nodes_own (by rw [e]; exact h') (by rw [e]; omega)) (fun d hd => (List.mem_replicate.1 hd).2)

set_option maxHeartbeats 2000000 in
set_option maxRecDepth 100000 in
theorem looks_any (w : World) (A base : Nat) (sv : Value) (m : Nat) (wv ev bv : Value) (Ws Es : List Value) (Ls : List (List Nd)) (Bs : List Bk) (hI : Inv w A base sv (.slice none 0 0) m wv ev bv Ws Es Ls Bs) (hbl : Bs.length ≤ 20000000) :
    Calls Tryz.prog 10 #[.pointer (some ⟨A, 0, none⟩)] w fun e w' => e = .returned (.bool true) ∧ Below w.heap.size w w' := by
  obtain ⟨ao, cap, rfl⟩ := own_shape hI.hB
  have hAl := (hI.fp A (by simp [fpOf])).2
  go_enter Tryz.func10, Tryz.ntmps10
  go_wp2
  go_loopw [3] (fun i wr => ∃ k : Nat, k ≤ Bs.length ∧ i = .int .i64 k ∧ Below w.heap.size w wr) (fun i _ => Bs.length - (intOf i).toNat)
  case atStart => exact ⟨0, Nat.zero_le _, rfl, Below.refl _ _⟩
  case round =>
    obtain ⟨k, hk, rfl, hb⟩ := hrel
    have hIr := hI.below hb
    have hs := hb.size
    obtain ⟨⟨_, _, _, _, c4, c5⟩, _⟩ := hIr.cells
    by_cases hlt : k < Bs.length
    · obtain ⟨b, hbk⟩ : ∃ b, b = Bs[k] := ⟨_, rfl⟩
      obtain ⟨m0, m1, m2, m3, _⟩ := hI.bk b (by rw [hbk]; exact List.getElem_mem hlt)
      obtain ⟨g, cap', hv, hgl, d0, d1, d2, d3, d4, d5, d6, d7, d8, d9⟩ := book_cells hIr.hB hlt hbk
      simp only [Value.slice.injEq, true_and] at hv
      obtain ⟨rfl, rfl⟩ := hv
      obtain ⟨a0, n0, p0, e0⟩ := marked_shape m0
      obtain ⟨a1, n1, p1, e1⟩ := marked_shape m1
      obtain ⟨a2, n2, p2, e2⟩ := marked_shape m2
      obtain ⟨a3, n3, p3, e3⟩ := marked_shape m3
      rw [e0] at d6 m0
      rw [e1] at d7 m1
      rw [e2] at d8 m2
      rw [e3] at d9 m3
      clear hbk hI hIr c5 e0 e1 e2 e3
      go_wp2_with fail
      refine (all_marked m0 (hb.alloc hs _)).mono ?_
      rintro e w1 ⟨rfl, hb1⟩
      have q1 := oldc hb1
      have r1 : wr.heap.size < w1.heap.size := by have := hb1.size; simp at this; omega
      have B1 : Below w.heap.size w w1 := (hb.alloc hs _).trans (hb1.mono (by simp; omega))
      go_wp2_with fail
      refine (all_marked m1 B1).mono ?_
      rintro e w2 ⟨rfl, hb2⟩
      have q2 := oldc hb2
      have r2 : wr.heap.size < w2.heap.size := by have := hb2.size; omega
      have B2 : Below w.heap.size w w2 := B1.trans (hb2.mono B1.size)
      go_wp2_with fail
      refine (all_marked m2 B2).mono ?_
      rintro e w3 ⟨rfl, hb3⟩
      have q3 := oldc hb3
      have r3 : wr.heap.size < w3.heap.size := by have := hb3.size; omega
      have B3 : Below w.heap.size w w3 := B2.trans (hb3.mono B2.size)
      go_wp2_with fail
      refine (all_marked m3 B3).mono ?_
      rintro e w4 ⟨rfl, hb4⟩
      have B4 : Below w.heap.size w w4 := B3.trans (hb4.mono B3.size)
      clear q1 q2 q3 hb1 hb2 hb3 hb4 B1 B2 B3 d0 d1 d2 d3 d4 d5 d6 d7 d8 d9 m0 m1 m2 m3
      go_wp2
      go_roundw
      case rel => exact ⟨k + 1, by omega, by go_num, B4⟩
      case measure => simp [intOf]; omega
    · clear hI hIr
      go_wp2
      go_loopw [9] (fun i wq => i = .int .i64 0 ∧ wq = wr) (fun _ _ => 0)
      case atStart => exact ⟨rfl, rfl⟩
      case round =>
        obtain ⟨rfl, rfl⟩ := hrel
        go_wp2
        go_ret
        exact ⟨rfl, hb⟩

end Go.Proofs.YtlggbcceoejkkaaGreat
