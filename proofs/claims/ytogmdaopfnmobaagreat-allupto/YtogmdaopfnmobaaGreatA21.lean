/- A script that is handed in, as the walks want it. -/
import Derived.Test.YtogmdaopfnmobaaGreatA19
import Derived.Test.YtogmdaopfnmobaaGreatA20
namespace Go.Proofs.YtogmdaopfnmobaaGreat
open Go.ChangeShapes Go.WideShapes Go.ChangeAt Go.RowKit Go.Deep
theorem cells_op : Tryz.prog.cellsOf 74 = 18 := by kernel_rfl
theorem cells_str : Tryz.prog.cellsOf 9 = 1 := by kernel_rfl
theorem cells_head : Tryz.prog.cellsOf 58 = 3 := by kernel_rfl
theorem cells_ns : Tryz.prog.cellsOf 72 = 1 := by kernel_rfl
theorem cells_is : Tryz.prog.cellsOf 25 = 1 := by kernel_rfl
def I64 (n : Int) : Prop := -9223372036854775808 ≤ n ∧ n ≤ 9223372036854775807
def U8 (n : Int) : Prop := 0 ≤ n ∧ n ≤ 255
theorem i64_of {n : Int} (h : (Lit.int .i64 n).wf = true) : I64 n := by simpa [I64, Lit.wf, IntKind.min, IntKind.max, IntKind.signed, IntKind.bits] using h
theorem u8_of {n : Int} (h : (Lit.int .u8 n).wf = true) : U8 n := by simpa [U8, Lit.wf, IntKind.min, IntKind.max, IntKind.signed, IntKind.bits] using h
structure OpWf (o : OpV) : Prop where
  k : I64 o.k
  a : I64 o.a
  b : I64 o.b
  c : I64 o.c
  d : I64 o.d
  s : o.s.size ≤ maxLen
  hs : I64 o.hs
  h0 : U8 o.h0
  h1 : U8 o.h1
  gs : I64 o.gs
  g0 : U8 o.g0
  g1 : U8 o.g1
  f0 : I64 o.f0
  f1 : I64 o.f1
  f2 : I64 o.f2
  f3 : I64 o.f3
section
variable {H : Type} {enc : TypeId × Value → H} {W : World} {base : Nat} {spare : Nat → Bool} {held : Bool}
theorem head_read {fuel : Nat} {c0 c1 c2 : Value} {x : DataW H × List MemPlace} (h : DataW.trod enc Tryz.prog W base spare held fuel 58 [c0, c1, c2] = some x) :
    ∃ a b c, c0 = .int .i64 a ∧ c1 = .int .u8 b ∧ c2 = .int .u8 c ∧ I64 a ∧ U8 b ∧ U8 c := by
  obtain ⟨y0, y1, n, _, hl, h0, h1⟩ := trod_struct2 Tryz.underlying58 h
  simp only [cells_int, cells_digest] at h0 h1
  obtain ⟨ys, m', _, _, _, hys, hg⟩ := DataW.trod_array Tryz.underlying49 h1
  match ys, hys with
  | [z0, z1], _ =>
    have j0 := hg 0 (by omega)
    have j1 := hg 1 (by omega)
    clear hg
    simp [cells_byte] at j0 j1 h0
    obtain ⟨a0, e0, _, w0⟩ := DataW.trod_int Tryz.underlying3 h0
    obtain ⟨a4, e4, _, w4⟩ := DataW.trod_int Tryz.underlying5 j0
    obtain ⟨a5, e5, _, w5⟩ := DataW.trod_int Tryz.underlying5 j1
    simp at e0 e4 e5
    exact ⟨a0, a4, a5, e0, e4, e5, i64_of w0, u8_of w4, u8_of w5⟩
theorem fold_read {fuel : Nat} {c0 c1 c2 c3 : Value} {x : DataW H × List MemPlace} (h : DataW.trod enc Tryz.prog W base spare held fuel 47 [c0, c1, c2, c3] = some x) :
    ∃ a b c d, c0 = .int .i64 a ∧ c1 = .int .i64 b ∧ c2 = .int .i64 c ∧ c3 = .int .i64 d ∧ I64 a ∧ I64 b ∧ I64 c ∧ I64 d := by
  obtain ⟨xs, m, _, _, _, hxs, hf⟩ := DataW.trod_struct Tryz.underlying47 h
  match xs, hxs with
  | [x0, x1, x2, x3], _ =>
    have g0 := hf 0 _ rfl
    have g1 := hf 1 _ rfl
    have g2 := hf 2 _ rfl
    have g3 := hf 3 _ rfl
    clear hf
    simp [cells_int] at g0 g1 g2 g3
    obtain ⟨a0, e0, _, w0⟩ := DataW.trod_int Tryz.underlying3 g0
    obtain ⟨a1, e1, _, w1⟩ := DataW.trod_int Tryz.underlying3 g1
    obtain ⟨a2, e2, _, w2⟩ := DataW.trod_int Tryz.underlying3 g2
    obtain ⟨a3, e3, _, w3⟩ := DataW.trod_int Tryz.underlying3 g3
    simp at e0 e1 e2 e3
    exact ⟨a0, a1, a2, a3, e0, e1, e2, e3, i64_of w0, i64_of w1, i64_of w2, i64_of w3⟩
set_option maxHeartbeats 1000000 in
set_option maxRecDepth 100000 in
theorem op_read {fuel : Nat} {cs : List Value} {x : DataW H × List MemPlace} (h : DataW.trod enc Tryz.prog W base spare held fuel 74 cs = some x) :
    ∃ o : OpV, cs = o.cells ∧ OpWf o ∧ (∃ n y, DataW.trod enc Tryz.prog W base spare held n 72 [o.nv] = some y ∧ Rows.uptoBulk y.1 ≤ Rows.uptoBulk x.1) ∧
      (∃ n y, DataW.trod enc Tryz.prog W base spare held n 25 [o.iv] = some y ∧ Rows.uptoBulk y.1 ≤ Rows.uptoBulk x.1) ∧ o.s.size + 1 ≤ Rows.uptoBulk x.1 := by
  obtain ⟨xs, n, _, hx, hl, hxs, hf⟩ := DataW.trod_struct Tryz.underlying74 h
  rw [cells_op] at hl
  match cs, hl with
  | [c0, c1, c2, c3, c4, c5, c6, c7, c8, c9, c10, c11, c12, c13, c14, c15, c16, c17], _ =>
    match xs, hxs with
    | [x0, x1, x2, x3, x4, x5, x6, x7, x8, x9, x10], _ =>
      have g0 := hf 0 _ rfl
      have g1 := hf 1 _ rfl
      have g2 := hf 2 _ rfl
      have g3 := hf 3 _ rfl
      have g4 := hf 4 _ rfl
      have g5 := hf 5 _ rfl
      have g6 := hf 6 _ rfl
      have g7 := hf 7 _ rfl
      have g8 := hf 8 _ rfl
      have g9 := hf 9 _ rfl
      have g10 := hf 10 _ rfl
      clear hf
      simp [cells_int, cells_str, cells_head, cells_fold, cells_ns, cells_is] at g0 g1 g2 g3 g4 g5 g6 g7 g8 g9 g10
      obtain ⟨a0, e0, _, w0⟩ := DataW.trod_int Tryz.underlying3 g0
      obtain ⟨a1, e1, _, w1⟩ := DataW.trod_int Tryz.underlying3 g1
      obtain ⟨a2, e2, _, w2⟩ := DataW.trod_int Tryz.underlying3 g2
      obtain ⟨a3, e3, _, w3⟩ := DataW.trod_int Tryz.underlying3 g3
      obtain ⟨a4, e4, _, w4⟩ := DataW.trod_int Tryz.underlying3 g4
      obtain ⟨s, e5, d5, w5⟩ := DataW.trod_string Tryz.underlying9 g5
      obtain ⟨p0, p1, p2, q0, q1, q2, r0, r1, r2⟩ := head_read g6
      obtain ⟨p3, p4, p5, q3, q4, q5, r3, r4, r5⟩ := head_read g7
      obtain ⟨p6, p7, p8, p9, q6, q7, q8, q9, r6, r7, r8, r9⟩ := fold_read g8
      simp at e0 e1 e2 e3 e4 e5
      subst e0 e1 e2 e3 e4 e5 q0 q1 q2 q3 q4 q5 q6 q7 q8 q9
      have hb : ∀ y ∈ [x0, x1, x2, x3, x4, x5, x6, x7, x8, x9, x10], Rows.uptoBulk y.1 ≤ Rows.uptoBulk x.1 := fun y hy => by
        rw [hx]
        simp only [Rows.uptoBulk]
        have := bulk_part (List.mem_map_of_mem (f := (·.1)) hy)
        omega
      refine ⟨⟨a0, a1, a2, a3, a4, s, p0, p1, p2, p3, p4, p5, p6, p7, p8, p9, c16, c17⟩, rfl, ⟨i64_of w0, i64_of w1, i64_of w2, i64_of w3, i64_of w4, w5, r0, r1, r2, r3, r4, r5, r6, r7, r8, r9⟩, ⟨n, x9, g9, hb _ (by simp)⟩, ⟨n, x10, g10, hb _ (by simp)⟩, ?_⟩
      have := hb x5 (by simp)
      rw [d5] at this
      simp only [Rows.uptoBulk] at this
      have e : s.data.toList.length = s.size := by rw [Array.length_toList]; rfl
      show s.size + 1 ≤ _
      omega
structure OpIn (W : World) (B : Nat) (o : OpV) : Prop where
  wf : OpWf o
  nv : o.nv = .slice none 0 0 ∨ ∃ ad cap l, o.nv = .slice (some ad) l.length cap ∧ l.length ≤ B ∧ Nodes W W.heap.size o.nv l
  iv : ∃ x y z, o.iv = .slice x y z
  sz : o.s.size ≤ B
  il : o.iv = .slice none 0 0 ∨ ∃ (ad : Addr) (cap : Nat) (l : List Int), o.iv = .slice (some ad) l.length cap ∧ l.length ≤ B ∧ Cells1 W W.heap.size o.iv (l.map (.int .i64))
theorem list_in {fuel : Nat} {v : Value} {y : DataW H × List MemPlace} (h : DataW.trod enc Tryz.prog W 0 (fun _ => true) true fuel 72 [v] = some y) :
    v = .slice none 0 0 ∨ ∃ ad cap l, v = .slice (some ad) l.length cap ∧ l.length ≤ Rows.uptoBulk y.1 ∧ Nodes W W.heap.size v l := by
  rcases open_slice Tryz.underlying72 h with ⟨hcs, _⟩ | ⟨a, len', cap', m, n, D, Pl, hcs, _, hl, hm, hmm, hx, _⟩
  · simp at hcs; exact .inl hcs
  · right
    simp at hcs
    subst hcs
    obtain ⟨l, hN⟩ := nodes_read h
    have hll : len' = l.length := by
      obtain ⟨ao, cap, hv, _⟩ := hN.ex
      simp at hv
      exact hv.2.1
    subst hll
    refine ⟨a, cap', l, rfl, ?_, hN⟩
    rw [hx]
    simp only [Rows.uptoBulk]
    have := bulk_len ((List.range l.length).map D)
    simp at this
    omega
theorem ints_inB {fuel : Nat} {v : Value} {y : DataW H × List MemPlace} (h : DataW.trod enc Tryz.prog W 0 (fun _ => true) true fuel 25 [v] = some y) :
    v = .slice none 0 0 ∨ ∃ (ad : Addr) (cap : Nat) (l : List Int), v = .slice (some ad) l.length cap ∧ l.length ≤ Rows.uptoBulk y.1 ∧ Cells1 W W.heap.size v (l.map (.int .i64)) := by
  rcases open_slice Tryz.underlying25 h with ⟨hcs, _⟩ | ⟨a, len', cap', m, n, D, Pl, hcs, _, hl, hm, hmm, hx, _⟩
  · simp at hcs; exact .inl hcs
  · right
    simp at hcs
    subst hcs
    obtain ⟨l, hN, _⟩ := ints_read h
    have hll : len' = l.length := by
      obtain ⟨ao, cap, hv, _⟩ := hN.ex
      simp at hv
      exact hv.2.1
    subst hll
    refine ⟨a, cap', l, rfl, ?_, hN⟩
    rw [hx]
    simp only [Rows.uptoBulk]
    have := bulk_len ((List.range l.length).map D)
    simp at this
    omega
theorem ints_in {fuel : Nat} {v : Value} {y : DataW H × List MemPlace} (h : DataW.trod enc Tryz.prog W base spare held fuel 25 [v] = some y) : ∃ a b c, v = .slice a b c := by
  rcases open_slice Tryz.underlying25 h with ⟨hcs, _⟩ | ⟨a, len', cap', m, n, D, Pl, hcs, _⟩
  · simp at hcs; exact ⟨_, _, _, hcs⟩
  · simp at hcs; exact ⟨_, _, _, hcs⟩
set_option maxRecDepth 100000 in
theorem script_read {fuel : Nat} {ao : Option Addr} {len cap : Nat} {x : DataW H × List MemPlace} (h : DataW.trod enc Tryz.prog W 0 (fun _ => true) true fuel 22 [.slice ao len cap] = some x) (hB : Rows.uptoBulk x.1 ≤ 1048576) :
    ∃ S : List OpV, Steps W W.heap.size (.slice ao len cap) S ∧ S.length ≤ 1048576 ∧ ∀ o ∈ S, OpIn W 1048576 o := by
  rcases open_slice Tryz.underlying22 h with ⟨hcs, _⟩ | ⟨a, len', cap', m, n, D, Pl, hcs, _, hl, hm, hmm, hxx, hx⟩
  · simp at hcs
    obtain ⟨rfl, rfl, rfl⟩ := hcs
    exact ⟨[], ⟨none, 0, rfl, by simp, fun i hi => by simp at hi⟩, by simp, by simp⟩
  · simp at hcs
    obtain ⟨rfl, rfl, rfl⟩ := hcs
    simp only [if_true] at hmm
    subst hmm
    have hlen : len ≤ 1048576 ∧ ∀ i, i < len → Rows.uptoBulk (D i) ≤ 1048576 := by
      rw [hxx] at hB
      simp only [Rows.uptoBulk] at hB
      have h1 := bulk_len ((List.range len).map D)
      simp at h1
      exact ⟨by omega, fun i hi => by have := bulk_part (List.mem_map_of_mem (f := D) (List.mem_range.2 hi)); omega⟩
    have hd : ∀ i, i < len → ∃ o : OpV, W.cells? 0 (a.add (i * 18)) 18 = some o.cells ∧ OpIn W 1048576 o := fun i hi => by
      obtain ⟨cs, h1, h2⟩ := hx i (by omega)
      rw [cells_op] at h1
      obtain ⟨o, rfl, hwf, ⟨_, y, hy, hyb⟩, ⟨_, z, hz, hzb⟩, hsz⟩ := op_read h2
      have hDi := hlen.2 i hi
      refine ⟨o, h1, hwf, ?_, ints_in hz, by simp only at hsz; omega, ?_⟩
      · rcases list_in hy with e | ⟨ad, cp, l, e, hlb, hN⟩
        · exact .inl e
        · exact .inr ⟨ad, cp, l, e, by simp only at hyb; omega, hN⟩
      · rcases ints_inB hz with e | ⟨ad, cp, l, e, hlb, hN⟩
        · exact .inl e
        · exact .inr ⟨ad, cp, l, e, by simp only at hzb; omega, hN⟩
    have hinh : Inhabited OpV := ⟨O0⟩
    obtain ⟨f, hf⟩ := choose_lt hd
    refine ⟨(List.range len).map f, ⟨some a, _, by simp; rfl, by simp; omega, fun i hi => ?_⟩, by simp; exact hlen.1, fun o ho => ?_⟩
    · have hi' : i < len := by simpa using hi
      have hc := (World.cells?_some (hf i hi').1).2.2
      have hc0 := (World.cells?_some (hf 0 (by omega)).1).2.2 0 (by omega)
      obtain ⟨b, off, spot⟩ := a
      have e0 : ((⟨b, off, spot⟩ : Addr).add (0 * 18)).add 0 = ⟨b, off, spot⟩ := by simp [Addr.add]
      rw [e0] at hc0
      have hc1 : W.cell? ⟨b, off, spot⟩ = some (.int .i64 (f 0).k) := hc0
      have hspot : spot = none := World.cell?_spot hc1
      subst hspot
      refine ⟨b, off, rfl, World.block_lt_of_cell? W _ hc1, fun j v hv => ?_, fun u hu => ?_⟩
      · have hj : j < 18 := by have := (List.getElem?_eq_some_iff.1 hv).1; rwa [opv_len] at this
        have := hc j hj
        rw [add_plain, add_plain] at this
        rw [this, ← hv]
        simp
      · obtain ⟨wf, nv, ⟨x1, y1, z1, ei⟩, _⟩ := (hf i hi').2
        have en : ∃ x y z, (f i).nv = .slice x y z := by
          rcases nv with e | ⟨_, _, _, e, _⟩
          · exact ⟨_, _, _, e⟩
          · exact ⟨_, _, _, e⟩
        obtain ⟨x2, y2, z2, en⟩ := en
        simp only [List.getElem_map, List.getElem_range, OpV.cells, ei, en, List.mem_cons, List.not_mem_nil, or_false] at hu
        rcases hu with rfl | rfl | rfl | rfl | rfl | rfl | rfl | rfl | rfl | rfl | rfl | rfl | rfl | rfl | rfl | rfl | rfl | rfl <;> rfl
    · obtain ⟨i, hi, rfl⟩ := List.mem_map.1 ho
      exact (hf i (List.mem_range.1 hi)).2
end
end Go.Proofs.YtogmdaopfnmobaaGreat

