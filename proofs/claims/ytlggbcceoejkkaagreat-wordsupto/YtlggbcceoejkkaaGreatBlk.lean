/- Blocks that hold rows of nodes: what a store does, what is read; an append keeps what was there. -/
import Derived.Test.YtlggbcceoejkkaaGreatRef3
import Derived.Laws.CopyOwn
namespace Go.Proofs.YtlggbcceoejkkaaGreat
open Go.RowKit

/-- The block g holds the nodes L, then other cells. -/
def Blk (w : World) (g : Nat) (L : List Nd) (rest : List Value) : Prop := w.heap[g]? = some (.cells (L.flatMap Nd.cells ++ rest).toArray 46 (0, 0))

theorem cells_len (d : Nd) : d.cells.length = 6 := rfl
theorem row_len (L : List Nd) : (L.flatMap Nd.cells).length = L.length * 6 := by
  induction L with
  | nil => rfl
  | cons d r ih => simp only [List.flatMap_cons, List.length_append, cells_len, ih, List.length_cons]; omega
theorem row_get (L : List Nd) : ∀ (i j : Nat) (hi : i < L.length) (_ : j < 6), (L.flatMap Nd.cells)[i * 6 + j]? = (L[i]).cells[j]? := by
  induction L with
  | nil => intro i j hi; simp at hi
  | cons d r ih =>
    intro i j hi hj
    cases i with
    | zero =>
      simp only [List.flatMap_cons, Nat.zero_mul, Nat.zero_add, List.getElem_cons_zero]
      rw [List.getElem?_append_left (by rw [cells_len]; omega)]
    | succ i =>
      simp only [List.flatMap_cons, List.getElem_cons_succ]
      rw [List.getElem?_append_right (by rw [cells_len]; omega), cells_len, show (i + 1) * 6 + j - 6 = i * 6 + j from by omega]
      exact ih i j (by simpa using hi) hj
theorem row_take (L : List Nd) : ∀ k, (L.flatMap Nd.cells).take (k * 6) = (L.take k).flatMap Nd.cells := by
  induction L with
  | nil => intro k; simp
  | cons d r ih =>
    intro k
    cases k with
    | zero => simp
    | succ k =>
      simp only [List.flatMap_cons, List.take_succ_cons]
      rw [List.take_append, cells_len, show (k + 1) * 6 - 6 = k * 6 from by omega, ih k, List.take_of_length_le (by rw [cells_len]; omega)]

theorem row_set6 (L : List Nd) (d : Nd) : ∀ (i : Nat) (_ : i < L.length) (rest : List Value),
    ((((((L.flatMap Nd.cells ++ rest).set (i * 6) (.int .i64 d.c)).set (i * 6 + 1) (.int .i64 d.s)).set (i * 6 + 2) (.int .i64 d.m)).set (i * 6 + 3) (.int .i64 d.x)).set (i * 6 + 4) (.int .u8 d.h.toNat)).set (i * 6 + 5) (.int .u8 d.g.toNat) = (L.set i d).flatMap Nd.cells ++ rest := by
  induction L with
  | nil => intro i hi; simp at hi
  | cons e r ih =>
    intro i hi rest
    cases i with
    | zero => simp [Nd.cells]
    | succ i =>
      have h := ih i (by simpa using hi) rest
      have e6 : e.cells = [.int .i64 e.c, .int .i64 e.s, .int .i64 e.m, .int .i64 e.x, .int .u8 (e.h.toNat : Int), .int .u8 (e.g.toNat : Int)] := rfl
      simp only [List.flatMap_cons, List.set_cons_succ, e6, List.cons_append, List.nil_append]
      rw [show (i + 1) * 6 = i * 6 + 6 from by omega]
      simp only [Nat.add_assoc]
      simp only [Nat.reduceAdd]
      simp only [List.set_cons_succ, ← h]

section
variable {w : World} {g : Nat} {L : List Nd} {rest : List Value}

theorem Blk.lt (h : Blk w g L rest) : g < w.heap.size := (Array.getElem?_eq_some_iff.1 h).1
theorem Blk.cell (h : Blk w g L rest) {i j : Nat} (hi : i < L.length) (hj : j < 6) : w.cell? ⟨g, i * 6 + j, none⟩ = (L[i]).cells[j]? := by
  rw [cell_of_row w g _ _ _ _ h]
  simp only [List.getElem?_toArray]
  rw [List.getElem?_append_left (by rw [row_len]; omega), row_get L i j hi hj]
theorem Blk.six (h : Blk w g L rest) {i : Nat} {d : Nd} (hi : i < L.length) (hd : d = L[i]) :
    w.cell? ⟨g, i * 6, none⟩ = some (.int .i64 d.c) ∧ w.cell? ⟨g, i * 6 + 1, none⟩ = some (.int .i64 d.s) ∧ w.cell? ⟨g, i * 6 + 2, none⟩ = some (.int .i64 d.m) ∧
    w.cell? ⟨g, i * 6 + 3, none⟩ = some (.int .i64 d.x) ∧ w.cell? ⟨g, i * 6 + 4, none⟩ = some (.int .u8 d.h.toNat) ∧ w.cell? ⟨g, i * 6 + 5, none⟩ = some (.int .u8 d.g.toNat) := by
  subst hd
  exact ⟨h.cell (j := 0) hi (by omega), h.cell (j := 1) hi (by omega), h.cell (j := 2) hi (by omega), h.cell (j := 3) hi (by omega), h.cell (j := 4) hi (by omega), h.cell (j := 5) hi (by omega)⟩
theorem Blk.live (h : Blk w g L rest) (j : Nat) : w.frozen? ⟨g, j, none⟩ = false := by
  unfold Blk at h
  simp [World.frozen?, h]
theorem heap_set' {C : List Value} {t : TypeId} {fr : Nat × Nat} {k : Nat} (h : w.heap[g]? = some (.cells C.toArray t fr)) (v : Value) : (w.setCell ⟨g, k, none⟩ v).heap[g]? = some (.cells (C.set k v).toArray t fr) := by
  rw [heap_set h v]
  simp
theorem Blk.store (h : Blk w g L rest) {i : Nat} (hi : i < L.length) (d : Nd) :
    Blk ((((((w.setCell ⟨g, i * 6, none⟩ (.int .i64 d.c)).setCell ⟨g, i * 6 + 1, none⟩ (.int .i64 d.s)).setCell ⟨g, i * 6 + 2, none⟩ (.int .i64 d.m)).setCell ⟨g, i * 6 + 3, none⟩ (.int .i64 d.x)).setCell ⟨g, i * 6 + 4, none⟩ (.int .u8 d.h.toNat)).setCell ⟨g, i * 6 + 5, none⟩ (.int .u8 d.g.toNat)) g (L.set i d) rest := by
  unfold Blk at h ⊢
  rw [← row_set6 L d i hi rest]
  exact heap_set' (heap_set' (heap_set' (heap_set' (heap_set' (heap_set' h _) _) _) _) _) _
theorem Blk.below {w' : World} {B : Nat} (h : Blk w g L rest) (hb : Below B w w') (hg : g < B) : Blk w' g L rest := by
  unfold Blk at h ⊢
  rw [hb.block g hg]; exact h
theorem Blk.block {w' : World} (h : Blk w g L rest) (hb : w'.heap[g]? = w.heap[g]?) : Blk w' g L rest := by
  unfold Blk at h ⊢
  rw [hb]; exact h
theorem Blk.drew (h : Blk w g L rest) : Blk w.drew g L rest := h
theorem Blk.alloc (h : Blk w g L rest) (o : Obj) : Blk (w.alloc o) g L rest := h.block (Below.heap_alloc w o g h.lt)

/-- An own row of nodes, as a block. -/
theorem Blk.of {base n cap : Nat} (h : w.ownsRow base 46 6 (.slice (some ⟨g, 0, none⟩) n cap) n (L.flatMap Nd.cells)) (_hL : L.length = n) : ∃ rest, Blk w g L rest ∧ rest.length + n * 6 = cap * 6 ∧ n ≤ cap ∧ cap ≤ maxLen ∧ base ≤ g := by
  rcases h.2 with ⟨hc, _⟩ | ⟨g', cap', cur, hv, hb, hg, hnc, hcm, hcs, ht⟩
  · simp at hc
  · simp only [Value.slice.injEq, Option.some.injEq, Addr.mk.injEq, true_and, and_true] at hv
    obtain ⟨rfl, rfl⟩ := hv
    refine ⟨cur.toList.drop (n * 6), ?_, ?_, hnc, hcm, hb⟩
    · unfold Blk
      rw [← ht, List.take_append_drop]
      simpa using hg
    · simp only [List.length_drop, Array.length_toList, hcs]
      omega
/-- And back: any prefix of it. -/
theorem Blk.own {base cap n : Nat} (h : Blk w g L rest) (hr : rest.length + L.length * 6 = cap * 6) (hn : n ≤ L.length) (hcm : cap ≤ maxLen) (hb : base ≤ g) :
    w.ownsRow base 46 6 (.slice (some ⟨g, 0, none⟩) n cap) n ((L.take n).flatMap Nd.cells) := by
  refine ⟨by rw [row_len]; simp; omega, .inr ⟨g, cap, _, rfl, hb, h, by omega, hcm, by simp only [List.size_toArray, List.length_append, row_len]; omega, ?_⟩⟩
  show List.take _ (L.flatMap Nd.cells ++ rest) = _
  rw [List.take_append_of_le_length (by rw [row_len]; omega), row_take]
end

/-- Behind an append what the slice had before is still its own. -/
theorem append_keeps {P : Program} (w w' : World) (base : Nat) (t ty e : TypeId) (i : TypeInfo) (z : Value) (size bytes : Nat) (ht : P.underlying t = some (.slice e)) (hi : P.info? e = some i) (hz : i.zero = some z)
    (hsize : i.size = size) (hby : i.bytes = bytes) (hsz : 0 < size)
    (v v' : Value) (n : Nat) (xs : List Value) (hown : w.ownsRow base e size v n xs)
    (a : Addr) (m c : Nat) (news : List Value) (hl : news.length = m * size) (hnews : ∀ j u, news[j]? = some u → w.cell? (a.add j) = some u) (h1 : ∀ u ∈ news, u.oneCell' = true)
    (h63 : n + m ≤ maxLen) (hbytes : (n + m) * bytes ≤ 140737488355328)
    (hr : (Builtin.append_ #[t, t] ty #[v, .slice (some a) m c]).run P w = .ok v' w') : w'.ownsRow base e size v n xs := by
  subst hsize
  subst hby
  have hsmall : n + m ≤ 9223372036854775807 := by simp only [maxLen] at h63; omega
  rcases hown.2 with ⟨rfl, rfl⟩ | ⟨g, cap, cur, rfl, hbg, hgg, hnc, hcm, hcs, htake⟩
  · exact ⟨hown.1, .inl ⟨rfl, rfl⟩⟩
  · by_cases hroom : n + m ≤ cap
    · have hfit : n * i.size + news.length ≤ cur.size := by rw [hl, hcs, ← Nat.add_mul]; exact Nat.mul_le_mul_right _ hroom
      have hr2 := run_append_room (P := P) w t ty e i ht hi g n cap cur hgg a m c news hl hnews h1 hroom hfit
      rw [hr] at hr2
      injection hr2 with e1 e2
      subst e2
      refine ⟨hown.1, .inr ⟨g, cap, _, rfl, hbg, setRow_heap w g cur _ e _ hgg, hnc, hcm, ?_, ?_⟩⟩
      · simp only [List.size_toArray, List.length_append, List.length_take, List.length_drop, Array.length_toList]
        omega
      · simp only [List.append_assoc]
        rw [List.take_append_of_le_length (by simp; omega), List.take_take, Nat.min_self]
        exact htake
    · have holds : ∀ j u, xs[j]? = some u → w.cell? ((⟨g, 0, none⟩ : Addr).add j) = some u := hown.cells (g := g) rfl
      have hr2 := run_append_grow (P := P) w t ty e i z ht hi hz ⟨g, 0, none⟩ n cap xs hown.1 holds a m c news hl hnews (by omega) (by omega) (growslice_fits (by omega) hbytes)
      rw [hr] at hr2
      injection hr2 with e1 e2
      subst e2
      exact (hown.drew).alloc _

end Go.Proofs.YtlggbcceoejkkaaGreat
