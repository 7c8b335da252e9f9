/- Blocks that hold rows of nodes: what a store does, what is read; an append keeps what was there. -/
import Derived.Laws.CopyOwn
import Derived.Test.YtogmdaopfnmobaaP11
namespace Go.Proofs.Ytogmdaopfnmobaa
open Go.RowKit

/-- The block g holds the nodes L, then other cells. -/
def Blk (w : World) (g : Nat) (L : List Nd) (rest : List Value) : Prop := w.heap[g]? = some (.cells (L.flatMap Nd.cells ++ rest).toArray 33 (0, 0))

theorem cells_len (d : Nd) : d.cells.length = 6 := rfl
theorem row_len (L : List Nd) : (L.flatMap Nd.cells).length = L.length * 6 := by
  induction L with
  | nil => rfl
  | cons d r ih => simp only [List.flatMap_cons, List.length_append, cells_len, ih, List.length_cons]; omega
theorem row_get (L : List Nd) : ∀ (i j : Nat) (hi : i < L.length) (_ : j < 6), (L.flatMap Nd.cells)[i * 6 + j]? = (L[i]).cells[j]? := by
  induction L with
  | nil => intro i j hi; simp at hi
  | cons d r ih =>
    intro i j hi hj
    cases i with
    | zero =>
      simp only [List.flatMap_cons, Nat.zero_mul, Nat.zero_add, List.getElem_cons_zero]
      rw [List.getElem?_append_left (by rw [cells_len]; omega)]
    | succ i =>
      simp only [List.flatMap_cons, List.getElem_cons_succ]
      rw [List.getElem?_append_right (by rw [cells_len]; omega), cells_len, show (i + 1) * 6 + j - 6 = i * 6 + j from by omega]
      exact ih i j (by simpa using hi) hj
theorem row_take (L : List Nd) : ∀ k, (L.flatMap Nd.cells).take (k * 6) = (L.take k).flatMap Nd.cells := by
  induction L with
  | nil => intro k; simp
  | cons d r ih =>
    intro k
    cases k with
    | zero => simp
    | succ k =>
      simp only [List.flatMap_cons, List.take_succ_cons]
      rw [List.take_append, cells_len, show (k + 1) * 6 - 6 = k * 6 from by omega, ih k, List.take_of_length_le (by rw [cells_len]; omega)]

theorem row_set6 (L : List Nd) (d : Nd) : ∀ (i : Nat) (_ : i < L.length) (rest : List Value),
    ((((((L.flatMap Nd.cells ++ rest).set (i * 6) (.int .i64 d.c)).set (i * 6 + 1) (.int .i64 d.s)).set (i * 6 + 2) (.int .i64 d.m)).set (i * 6 + 3) (.int .i64 d.x)).set (i * 6 + 4) (.int .u8 d.h.toNat)).set (i * 6 + 5) (.int .u8 d.g.toNat) = (L.set i d).flatMap Nd.cells ++ rest := by
  induction L with
  | nil => intro i hi; simp at hi
  | cons e r ih =>
    intro i hi rest
    cases i with
    | zero => simp [Nd.cells]
    | succ i =>
      have h := ih i (by simpa using hi) rest
      have e6 : e.cells = [.int .i64 e.c, .int .i64 e.s, .int .i64 e.m, .int .i64 e.x, .int .u8 (e.h.toNat : Int), .int .u8 (e.g.toNat : Int)] := rfl
      simp only [List.flatMap_cons, List.set_cons_succ, e6, List.cons_append, List.nil_append]
      rw [show (i + 1) * 6 = i * 6 + 6 from by omega]
      simp only [Nat.add_assoc]
      simp only [Nat.reduceAdd]
      simp only [List.set_cons_succ, ← h]

section
variable {w : World} {g : Nat} {L : List Nd} {rest : List Value}

theorem Blk.lt (h : Blk w g L rest) : g < w.heap.size := (Array.getElem?_eq_some_iff.1 h).1
theorem Blk.cell (h : Blk w g L rest) {i j : Nat} (hi : i < L.length) (hj : j < 6) : w.cell? ⟨g, i * 6 + j, none⟩ = (L[i]).cells[j]? := by
  rw [cell_of_row w g _ _ _ _ h]
  simp only [List.getElem?_toArray]
  rw [List.getElem?_append_left (by rw [row_len]; omega), row_get L i j hi hj]
theorem Blk.six (h : Blk w g L rest) {i : Nat} {d : Nd} (hi : i < L.length) (hd : d = L[i]) :
    w.cell? ⟨g, i * 6, none⟩ = some (.int .i64 d.c) ∧ w.cell? ⟨g, i * 6 + 1, none⟩ = some (.int .i64 d.s) ∧ w.cell? ⟨g, i * 6 + 2, none⟩ = some (.int .i64 d.m) ∧
    w.cell? ⟨g, i * 6 + 3, none⟩ = some (.int .i64 d.x) ∧ w.cell? ⟨g, i * 6 + 4, none⟩ = some (.int .u8 d.h.toNat) ∧ w.cell? ⟨g, i * 6 + 5, none⟩ = some (.int .u8 d.g.toNat) := by
  subst hd
  exact ⟨h.cell (j := 0) hi (by omega), h.cell (j := 1) hi (by omega), h.cell (j := 2) hi (by omega), h.cell (j := 3) hi (by omega), h.cell (j := 4) hi (by omega), h.cell (j := 5) hi (by omega)⟩
theorem Blk.live (h : Blk w g L rest) (j : Nat) : w.frozen? ⟨g, j, none⟩ = false := by
  unfold Blk at h
  simp [World.frozen?, h]
theorem heap_set' {C : List Value} {t : TypeId} {fr : Nat × Nat} {k : Nat} (h : w.heap[g]? = some (.cells C.toArray t fr)) (v : Value) : (w.setCell ⟨g, k, none⟩ v).heap[g]? = some (.cells (C.set k v).toArray t fr) := by
  rw [heap_set h v]
  simp
theorem Blk.store (h : Blk w g L rest) {i : Nat} (hi : i < L.length) (d : Nd) :
    Blk ((((((w.setCell ⟨g, i * 6, none⟩ (.int .i64 d.c)).setCell ⟨g, i * 6 + 1, none⟩ (.int .i64 d.s)).setCell ⟨g, i * 6 + 2, none⟩ (.int .i64 d.m)).setCell ⟨g, i * 6 + 3, none⟩ (.int .i64 d.x)).setCell ⟨g, i * 6 + 4, none⟩ (.int .u8 d.h.toNat)).setCell ⟨g, i * 6 + 5, none⟩ (.int .u8 d.g.toNat)) g (L.set i d) rest := by
  unfold Blk at h ⊢
  rw [← row_set6 L d i hi rest]
  exact heap_set' (heap_set' (heap_set' (heap_set' (heap_set' (heap_set' h _) _) _) _) _) _
theorem Blk.below {w' : World} {B : Nat} (h : Blk w g L rest) (hb : Below B w w') (hg : g < B) : Blk w' g L rest := by
  unfold Blk at h ⊢
  rw [hb.block g hg]; exact h
theorem Blk.block {w' : World} (h : Blk w g L rest) (hb : w'.heap[g]? = w.heap[g]?) : Blk w' g L rest := by
  unfold Blk at h ⊢
  rw [hb]; exact h
theorem Blk.drew (h : Blk w g L rest) : Blk w.drew g L rest := h
theorem Blk.alloc (h : Blk w g L rest) (o : Obj) : Blk (w.alloc o) g L rest := h.block (Below.heap_alloc w o g h.lt)

/-- An own row of nodes, as a block. -/
theorem Blk.of {base n cap : Nat} (h : w.ownsRow base 33 6 (.slice (some ⟨g, 0, none⟩) n cap) n (L.flatMap Nd.cells)) (_hL : L.length = n) : ∃ rest, Blk w g L rest ∧ rest.length + n * 6 = cap * 6 ∧ n ≤ cap ∧ cap ≤ maxLen ∧ base ≤ g := by
  rcases h.2 with ⟨hc, _⟩ | ⟨g', cap', cur, hv, hb, hg, hnc, hcm, hcs, ht⟩
  · simp at hc
  · simp only [Value.slice.injEq, Option.some.injEq, Addr.mk.injEq, true_and, and_true] at hv
    obtain ⟨rfl, rfl⟩ := hv
    refine ⟨cur.toList.drop (n * 6), ?_, ?_, hnc, hcm, hb⟩
    · unfold Blk
      rw [← ht, List.take_append_drop]
      simpa using hg
    · simp only [List.length_drop, Array.length_toList, hcs]
      omega
/-- And back: any prefix of it. -/
theorem Blk.own {base cap n : Nat} (h : Blk w g L rest) (hr : rest.length + L.length * 6 = cap * 6) (hn : n ≤ L.length) (hcm : cap ≤ maxLen) (hb : base ≤ g) :
    w.ownsRow base 33 6 (.slice (some ⟨g, 0, none⟩) n cap) n ((L.take n).flatMap Nd.cells) := by
  refine ⟨by rw [row_len]; simp; omega, .inr ⟨g, cap, _, rfl, hb, h, by omega, hcm, by simp only [List.size_toArray, List.length_append, row_len]; omega, ?_⟩⟩
  show List.take _ (L.flatMap Nd.cells ++ rest) = _
  rw [List.take_append_of_le_length (by rw [row_len]; omega), row_take]
end

/-- Behind an append what the slice had before is still its own. -/
theorem append_keeps {P : Program} (w w' : World) (base : Nat) (t ty e : TypeId) (i : TypeInfo) (z : Value) (size bytes : Nat) (ht : P.underlying t = some (.slice e)) (hi : P.info? e = some i) (hz : i.zero = some z)
    (hsize : i.size = size) (hby : i.bytes = bytes) (hsz : 0 < size)
    (v v' : Value) (n : Nat) (xs : List Value) (hown : w.ownsRow base e size v n xs)
    (a : Addr) (m c : Nat) (news : List Value) (hl : news.length = m * size) (hnews : ∀ j u, news[j]? = some u → w.cell? (a.add j) = some u) (h1 : ∀ u ∈ news, u.oneCell' = true)
    (h63 : n + m ≤ maxLen) (hbytes : (n + m) * bytes ≤ 140737488355328)
    (hr : (Builtin.append_ #[t, t] ty #[v, .slice (some a) m c]).run P w = .ok v' w') : w'.ownsRow base e size v n xs := by
  subst hsize
  subst hby
  have hsmall : n + m ≤ 9223372036854775807 := by simp only [maxLen] at h63; omega
  rcases hown.2 with ⟨rfl, rfl⟩ | ⟨g, cap, cur, rfl, hbg, hgg, hnc, hcm, hcs, htake⟩
  · exact ⟨hown.1, .inl ⟨rfl, rfl⟩⟩
  · by_cases hroom : n + m ≤ cap
    · have hfit : n * i.size + news.length ≤ cur.size := by rw [hl, hcs, ← Nat.add_mul]; exact Nat.mul_le_mul_right _ hroom
      have hr2 := run_append_room (P := P) w t ty e i ht hi g n cap cur hgg a m c news hl hnews h1 hroom hfit
      rw [hr] at hr2
      injection hr2 with e1 e2
      subst e2
      refine ⟨hown.1, .inr ⟨g, cap, _, rfl, hbg, setRow_heap w g cur _ e _ hgg, hnc, hcm, ?_, ?_⟩⟩
      · simp only [List.size_toArray, List.length_append, List.length_take, List.length_drop, Array.length_toList]
        omega
      · simp only [List.append_assoc]
        rw [List.take_append_of_le_length (by simp; omega), List.take_take, Nat.min_self]
        exact htake
    · have holds : ∀ j u, xs[j]? = some u → w.cell? ((⟨g, 0, none⟩ : Addr).add j) = some u := hown.cells (g := g) rfl
      have hr2 := run_append_grow (P := P) w t ty e i z ht hi hz ⟨g, 0, none⟩ n cap xs hown.1 holds a m c news hl hnews (by omega) (by omega) (growslice_fits (by omega) hbytes)
      rw [hr] at hr2
      injection hr2 with e1 e2
      subst e2
      exact (hown.drew).alloc _

end Go.Proofs.Ytogmdaopfnmobaa

/- What far, num, sameNodes, all and lentNodes of the law's own package do. -/
namespace Go.Proofs.Ytogmdaopfnmobaa
end Go.Proofs.Ytogmdaopfnmobaa

/- What the law's own world holds: the lists that wait, what they were, the books. -/
namespace Go.Proofs.Ytogmdaopfnmobaa
end Go.Proofs.Ytogmdaopfnmobaa

/- What the document's own answer does (notaryref): Cover. -/
namespace Go.Proofs.Ytogmdaopfnmobaa
open Go.RowKit

def Sp.cells (p : Sp) : List Value := [.int .i64 p.a, .int .i64 p.b, .bool p.i]
def spRow (l : List Sp) : List Value := l.flatMap Sp.cells
theorem spRow_len (l : List Sp) : (spRow l).length = l.length * 3 := by
  unfold spRow
  induction l with
  | nil => rfl
  | cons p r ih => rw [List.flatMap_cons, List.length_append, ih]; simp [Sp.cells]; omega
theorem spRow_one (l : List Sp) : ∀ u ∈ spRow l, u.oneCell' = true := by
  intro u hu
  obtain ⟨p, _, hp⟩ := List.mem_flatMap.1 hu
  simp only [Sp.cells, List.mem_cons, List.not_mem_nil, or_false] at hp
  rcases hp with rfl | rfl | rfl <;> rfl
theorem spRow_append (l r : List Sp) : spRow (l ++ r) = spRow l ++ spRow r := by simp [spRow]
theorem info_span : (Try.prog.info? 150).map (fun i => (i.zero, i.size, i.bytes)) = some (some (.agg #[.int .i64 0, .int .i64 0, .bool false]), 3, 24) := by kernel_rfl
/-- What Cover leaves. -/
def covPost (l : List Sp) (w : World) (e : Ending) (w' : World) : Prop := ∃ g cap, e = .returned (.slice (some ⟨g, 0, none⟩) l.length cap) ∧ w'.ownsRow w.heap.size 150 3 (.slice (some ⟨g, 0, none⟩) l.length cap) l.length (spRow l) ∧ Below w.heap.size w w'

theorem cov_new (w : World) (p : Sp) (n : Nat) (hn : n = w.heap.size) : (w.alloc (.cells #[.int .i64 p.a, .int .i64 p.b, .bool p.i] 150)).ownsRow w.heap.size 150 3 (.slice (some ⟨n, 0, none⟩) 1 1) 1 (spRow [p]) := by
  subst hn
  exact ⟨rfl, .inr ⟨w.heap.size, 1, _, rfl, Nat.le_refl _, heap_alloc_new w _, Nat.le_refl _, by unfold maxLen; omega, rfl, rfl⟩⟩

theorem cov_fin {w w3 w4 : World} {ao : Option Addr} {p4 g2 p2 : Nat} {x y : List Sp} (ho : w4.ownsRow w.heap.size 150 3 (.slice ao (x.length + y.length) p4) (x.length + y.length) (spRow x ++ spRow y))
    (hg : Grew w3 (.slice (some ⟨g2, 0, none⟩) x.length p2) w4 (.slice ao (x.length + y.length) p4)) (hB : Below w.heap.size w w3) (hgw : w.heap.size ≤ g2) (hx : 1 ≤ x.length) : covPost (x ++ y) w (.returned (.slice ao (x.length + y.length) p4)) w4 := by
  have hb4 : Below w.heap.size w w4 := hB.grown hg.grown hB.size (fun k e => by cases e; exact hgw)
  have ho' := ho
  rcases ho.2 with ⟨_, h0⟩ | ⟨g, cap, cur, e, _⟩
  · omega
  · simp only [Value.slice.injEq] at e
    obtain ⟨rfl, _, rfl⟩ := e
    refine ⟨g, p4, by simp, ?_, hb4⟩
    rw [spRow_append, List.length_append]
    exact ho'

set_option maxHeartbeats 4000000 in
set_option maxRecDepth 100000 in
theorem refCover_leaf (a b f t : Nat) (w : World) (hab : a ≤ b) (hs : a < b ∨ t ≤ a) (ho : isOut a b f t = true ∨ isIn a b f t = true) :
    Calls Try.prog 54 #[.int .i64 a, .int .i64 b, .int .i64 f, .int .i64 t] w (covPost (cov a b f t) w) := by
  rw [cov_one a b f t ho]
  by_cases h1 : (t : Int) ≤ f
  · rw [show isIn a b f t = false from by simp [isIn]; omega]
    have h1' : ¬ (f : Int) < t := by omega
    clear ho hs
    by_cases g1 : (f : Int) ≤ a
    · by_cases g2 : (b : Int) ≤ t
      · go_enter Try.func54, Try.ntmps54
        go_wp2
        go_ret
        exact ⟨_, _, rfl, cov_new w ⟨a, b, false⟩ _ rfl, (Below.refl _ _).alloc (Nat.le_refl _) _⟩
      · go_enter Try.func54, Try.ntmps54
        go_wp2
        go_ret
        exact ⟨_, _, rfl, cov_new w ⟨a, b, false⟩ _ rfl, (Below.refl _ _).alloc (Nat.le_refl _) _⟩
    · go_enter Try.func54, Try.ntmps54
      go_wp2
      go_ret
      exact ⟨_, _, rfl, cov_new w ⟨a, b, false⟩ _ rfl, (Below.refl _ _).alloc (Nat.le_refl _) _⟩
  · have h1' : (f : Int) < t := by omega
    by_cases h2 : (t : Int) ≤ a
    · rw [show isIn a b f t = false from by simp [isIn]; omega]
      have g1 : (f : Int) ≤ a := by omega
      clear ho hs
      by_cases g2 : (b : Int) ≤ t
      · have g3 : ¬ (a : Int) < b := by omega
        go_enter Try.func54, Try.ntmps54
        go_wp2
        go_ret
        exact ⟨_, _, rfl, cov_new w ⟨a, b, false⟩ _ rfl, (Below.refl _ _).alloc (Nat.le_refl _) _⟩
      · go_enter Try.func54, Try.ntmps54
        go_wp2
        go_ret
        exact ⟨_, _, rfl, cov_new w ⟨a, b, false⟩ _ rfl, (Below.refl _ _).alloc (Nat.le_refl _) _⟩
    · have h0 : (a : Int) < b := by omega
      by_cases h3 : (b : Int) ≤ f
      · rw [show isIn a b f t = false from by simp [isIn]; omega]
        have g1 : ¬ (f : Int) ≤ a := by omega
        clear ho hs
        go_enter Try.func54, Try.ntmps54
        go_wp2
        go_ret
        exact ⟨_, _, rfl, cov_new w ⟨a, b, false⟩ _ rfl, (Below.refl _ _).alloc (Nat.le_refl _) _⟩
      · have hin : isIn a b f t = true := ho.resolve_left (by simp [isOut]; omega)
        rw [hin]
        have g : f ≤ a ∧ b ≤ t ∧ f < t ∧ a < b := by simpa [isIn] using hin
        have g1 : (f : Int) ≤ a := by omega
        have g2 : (b : Int) ≤ t := by omega
        clear ho hs hin g
        go_enter Try.func54, Try.ntmps54
        go_wp2
        go_ret
        exact ⟨_, _, rfl, cov_new w ⟨a, b, true⟩ _ rfl, (Below.refl _ _).alloc (Nat.le_refl _) _⟩

set_option maxHeartbeats 4000000 in
set_option maxRecDepth 100000 in
theorem refCover_any (f t : Nat) (hf64 : f ≤ 64) (ht64 : t ≤ 64) : ∀ (n a b : Nat) (w : World), b - a ≤ n → a ≤ b → b ≤ 64 → (a < b ∨ t ≤ a) →
    Calls Try.prog 54 #[.int .i64 a, .int .i64 b, .int .i64 f, .int .i64 t] w (covPost (cov a b f t) w) := by
  obtain ⟨i0, hi, hz0, hz1, hz2⟩ := info_parts info_span
  intro n
  induction n with
  | zero =>
    intro a b w hn hab hb64 hs
    exact refCover_leaf a b f t w hab hs (.inl (by simp [isOut]; omega))
  | succ n ih =>
    intro a b w hn hab hb64 hs
    by_cases ho : isOut a b f t = true ∨ isIn a b f t = true
    · exact refCover_leaf a b f t w hab hs ho
    have ho1 : ¬ (t ≤ f ∨ t ≤ a ∨ b ≤ f) := fun h => ho (.inl (by simpa [isOut] using h))
    have ho2 : ¬ (f ≤ a ∧ b ≤ t ∧ f < t ∧ a < b) := fun h => ho (.inr (by simpa [isIn] using h))
    have hb2 : a + 2 ≤ b := by omega
    rw [cov_two a b f t (by simpa using fun h => ho (.inl h)) (by simpa using fun h => ho (.inr h)) hb2]
    have p := hf_pos (b - a)
    have q := hf_lt (b - a) (by omega)
    have h1 : ¬ (t : Int) ≤ f := by omega
    have h2 : ¬ (t : Int) ≤ a := by omega
    have h3 : ¬ (b : Int) ≤ f := by omega
    have h4 : (f : Int) < t := by omega
    have h5 : (a : Int) < b := by omega
    have hsub : (b : Int) - a = ((b - a : Nat) : Int) := by omega
    obtain ⟨m, hm⟩ : ∃ m, m = b - a := ⟨_, rfl⟩
    rw [← hm] at p q hsub ⊢
    have I1 : ∀ w', Hid (Calls Try.prog 54 #[.int .i64 a, .int .i64 ((a + hf m : Nat) : Int), .int .i64 f, .int .i64 t] w' (covPost (cov a (a + hf m) f t) w')) := fun w' => ih a (a + hf m) w' (by omega) (by omega) (by omega) (by omega)
    have I2 : ∀ w', Hid (Calls Try.prog 54 #[.int .i64 ((a + hf m : Nat) : Int), .int .i64 b, .int .i64 f, .int .i64 t] w' (covPost (cov (a + hf m) b f t) w')) := fun w' => ih (a + hf m) b w' (by omega) (by omega) (by omega) (by omega)
    have L1 := cov_len f t m a (a + hf m) (by omega)
    have L2 := cov_len f t m (a + hf m) b (by omega)
    have HH : ∀ w', Hid (Calls Try.prog 83 #[.int .i64 m] w' _) := fun w' => refHalf_any m w' (by omega) (by omega)
    generalize cov a (a + hf m) f t = x at I1 L1
    generalize cov (a + hf m) b f t = y at I2 L2
    generalize hf m = k at p q I1 I2 HH L1 L2
    have hcast : ((a + k : Nat) : Int) = (a : Int) + k := by omega
    rw [hcast] at I1 I2
    have Lx1 : 1 ≤ x.length := by omega
    have Lx2 : x.length ≤ 64 := by omega
    have Ly2 : y.length ≤ 64 := by omega
    have hak : a + k ≤ 64 := by omega
    clear hm hcast ih ho ho1 L1 L2 hs
    by_cases g1 : (f : Int) ≤ a
    · have g2 : ¬ (b : Int) ≤ t := by omega
      clear ho2
      go_enter Try.func54, Try.ntmps54
      go_wp2_with fail
      refine (HH _).out.mono ?_
      rintro e w1 ⟨rfl, hb1⟩
      clear HH
      go_wp2_with fail
      refine (I1 _).out.mono ?_
      rintro e w2 ⟨g2, p2, rfl, hr2, hb2⟩
      have B2 : Hid (Below w.heap.size w w2) := hb1.trans (hb2.mono hb1.size)
      have R2 : Hid (w2.ownsRow w.heap.size 150 3 _ x.length (spRow x)) := own_mono hr2 hb1.size
      have hgw : w.heap.size ≤ g2 := (own_in R2.out g2 (mem_ob.2 rfl)).1
      clear hb1 hb2 hr2 I1
      go_wp2_with fail
      refine (I2 _).out.mono ?_
      rintro e w3 ⟨g3, p3, rfl, hr3, hb3⟩
      have B3 : Hid (Below w.heap.size w w3) := B2.out.trans (hb3.mono B2.out.size)
      have R3 : w3.ownsRow w.heap.size 150 3 (.slice (some ⟨g2, 0, none⟩) x.length p2) x.length (spRow x) := own_keep R2.out fun k hk => hb3.block k (own_in R2.out k hk).2
      have N3 := hr3.cells (g := g3) rfl
      have z3 := B3.out.size
      clear hb3 hr3 I2 B2 R2
      go_wp2_with (at_builtin; refine wpList_append_grew _ rfl _ _ 114 rfl w.heap.size 150 i0 (.agg #[.int .i64 0, .int .i64 0, .bool false]) 3 24 Try.underlying114 hi hz0 hz1 hz2 rfl (by decide) _ _ _ rfl R3 ⟨g3, 0, none⟩ y.length p3 (spRow y) rfl (spRow_len y) N3 (spRow_one y) (by unfold maxLen; omega) (by omega) z3 ?_)
      rintro v' w4 ho4 hg4 hnil
      obtain ⟨ao4, p4, rfl⟩ : ∃ ao4 p4, v' = .slice ao4 (x.length + y.length) p4 := own_shape ho4
      have fin : Hid (covPost (x ++ y) w (.returned (.slice ao4 (x.length + y.length) p4)) w4) := cov_fin ho4 hg4 B3.out hgw Lx1
      clear ho4 hg4 hnil R3 N3 z3 B3
      go_wp2
      go_ret
      exact fin.out
    · clear ho2
      go_enter Try.func54, Try.ntmps54
      go_wp2_with fail
      refine (HH _).out.mono ?_
      rintro e w1 ⟨rfl, hb1⟩
      clear HH
      go_wp2_with fail
      refine (I1 _).out.mono ?_
      rintro e w2 ⟨g2, p2, rfl, hr2, hb2⟩
      have B2 : Hid (Below w.heap.size w w2) := hb1.trans (hb2.mono hb1.size)
      have R2 : Hid (w2.ownsRow w.heap.size 150 3 _ x.length (spRow x)) := own_mono hr2 hb1.size
      have hgw : w.heap.size ≤ g2 := (own_in R2.out g2 (mem_ob.2 rfl)).1
      clear hb1 hb2 hr2 I1
      go_wp2_with fail
      refine (I2 _).out.mono ?_
      rintro e w3 ⟨g3, p3, rfl, hr3, hb3⟩
      have B3 : Hid (Below w.heap.size w w3) := B2.out.trans (hb3.mono B2.out.size)
      have R3 : w3.ownsRow w.heap.size 150 3 (.slice (some ⟨g2, 0, none⟩) x.length p2) x.length (spRow x) := own_keep R2.out fun k hk => hb3.block k (own_in R2.out k hk).2
      have N3 := hr3.cells (g := g3) rfl
      have z3 := B3.out.size
      clear hb3 hr3 I2 B2 R2
      go_wp2_with (at_builtin; refine wpList_append_grew _ rfl _ _ 114 rfl w.heap.size 150 i0 (.agg #[.int .i64 0, .int .i64 0, .bool false]) 3 24 Try.underlying114 hi hz0 hz1 hz2 rfl (by decide) _ _ _ rfl R3 ⟨g3, 0, none⟩ y.length p3 (spRow y) rfl (spRow_len y) N3 (spRow_one y) (by unfold maxLen; omega) (by omega) z3 ?_)
      rintro v' w4 ho4 hg4 hnil
      obtain ⟨ao4, p4, rfl⟩ : ∃ ao4 p4, v' = .slice ao4 (x.length + y.length) p4 := own_shape ho4
      have fin : Hid (covPost (x ++ y) w (.returned (.slice ao4 (x.length + y.length) p4)) w4) := cov_fin ho4 hg4 B3.out hgw Lx1
      clear ho4 hg4 hnil R3 N3 z3 B3
      go_wp2
      go_ret
      exact fin.out

end Go.Proofs.Ytogmdaopfnmobaa

