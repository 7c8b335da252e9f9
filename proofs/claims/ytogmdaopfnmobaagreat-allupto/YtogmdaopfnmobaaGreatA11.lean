/- Blocks that hold rows of nodes: what a store does, what is read; an append keeps what was there. -/
import Derived.Laws.CopyOwn
import Derived.Test.YtogmdaopfnmobaaGreatA10
namespace Go.Proofs.YtogmdaopfnmobaaGreat
open Go.RowKit
def Blk (w : World) (g : Nat) (L : List Nd) (rest : List Value) : Prop := w.heap[g]? = some (.cells (L.flatMap Nd.cells ++ rest).toArray 51 (0, 0))
theorem cells_len (d : Nd) : d.cells.length = 6 := rfl
theorem row_len (L : List Nd) : (L.flatMap Nd.cells).length = L.length * 6 := by
  induction L with
  | nil => rfl
  | cons d r ih => simp only [List.flatMap_cons, List.length_append, cells_len, ih, List.length_cons]; omega
theorem row_get (L : List Nd) : ∀ (i j : Nat) (hi : i < L.length) (_ : j < 6), (L.flatMap Nd.cells)[i * 6 + j]? = (L[i]).cells[j]? := by
  induction L with
  | nil => intro i j hi; simp at hi
  | cons d r ih =>
    intro i j hi hj
    cases i with
    | zero =>
      simp only [List.flatMap_cons, Nat.zero_mul, Nat.zero_add, List.getElem_cons_zero]
      rw [List.getElem?_append_left (by rw [cells_len]; omega)]
    | succ i =>
      simp only [List.flatMap_cons, List.getElem_cons_succ]
      rw [List.getElem?_append_right (by rw [cells_len]; omega), cells_len, show (i + 1) * 6 + j - 6 = i * 6 + j from by omega]
      exact ih i j (by simpa using hi) hj
theorem row_take (L : List Nd) : ∀ k, (L.flatMap Nd.cells).take (k * 6) = (L.take k).flatMap Nd.cells := by
  induction L with
  | nil => intro k; simp
  | cons d r ih =>
    intro k
    cases k with
    | zero => simp
    | succ k =>
      simp only [List.flatMap_cons, List.take_succ_cons]
      rw [List.take_append, cells_len, show (k + 1) * 6 - 6 = k * 6 from by omega, ih k, List.take_of_length_le (by rw [cells_len]; omega)]
theorem row_set6 (L : List Nd) (d : Nd) : ∀ (i : Nat) (_ : i < L.length) (rest : List Value),
    ((((((L.flatMap Nd.cells ++ rest).set (i * 6) (.int .i64 d.c)).set (i * 6 + 1) (.int .i64 d.s)).set (i * 6 + 2) (.int .i64 d.m)).set (i * 6 + 3) (.int .i64 d.x)).set (i * 6 + 4) (.int .u8 d.h.toNat)).set (i * 6 + 5) (.int .u8 d.g.toNat) = (L.set i d).flatMap Nd.cells ++ rest := by
  induction L with
  | nil => intro i hi; simp at hi
  | cons e r ih =>
    intro i hi rest
    cases i with
    | zero => simp [Nd.cells]
    | succ i =>
      have h := ih i (by simpa using hi) rest
      have e6 : e.cells = [.int .i64 e.c, .int .i64 e.s, .int .i64 e.m, .int .i64 e.x, .int .u8 (e.h.toNat : Int), .int .u8 (e.g.toNat : Int)] := rfl
      simp only [List.flatMap_cons, List.set_cons_succ, e6, List.cons_append, List.nil_append]
      rw [show (i + 1) * 6 = i * 6 + 6 from by omega]
      simp only [Nat.add_assoc]
      simp only [Nat.reduceAdd]
      simp only [List.set_cons_succ, ← h]
section
variable {w : World} {g : Nat} {L : List Nd} {rest : List Value}
theorem Blk.lt (h : Blk w g L rest) : g < w.heap.size := (Array.getElem?_eq_some_iff.1 h).1
theorem Blk.cell (h : Blk w g L rest) {i j : Nat} (hi : i < L.length) (hj : j < 6) : w.cell? ⟨g, i * 6 + j, none⟩ = (L[i]).cells[j]? := by
  rw [cell_of_row w g _ _ _ _ h]
  simp only [List.getElem?_toArray]
  rw [List.getElem?_append_left (by rw [row_len]; omega), row_get L i j hi hj]
theorem Blk.six (h : Blk w g L rest) {i : Nat} {d : Nd} (hi : i < L.length) (hd : d = L[i]) :
    w.cell? ⟨g, i * 6, none⟩ = some (.int .i64 d.c) ∧ w.cell? ⟨g, i * 6 + 1, none⟩ = some (.int .i64 d.s) ∧ w.cell? ⟨g, i * 6 + 2, none⟩ = some (.int .i64 d.m) ∧
    w.cell? ⟨g, i * 6 + 3, none⟩ = some (.int .i64 d.x) ∧ w.cell? ⟨g, i * 6 + 4, none⟩ = some (.int .u8 d.h.toNat) ∧ w.cell? ⟨g, i * 6 + 5, none⟩ = some (.int .u8 d.g.toNat) := by
  subst hd
  exact ⟨h.cell (j := 0) hi (by omega), h.cell (j := 1) hi (by omega), h.cell (j := 2) hi (by omega), h.cell (j := 3) hi (by omega), h.cell (j := 4) hi (by omega), h.cell (j := 5) hi (by omega)⟩
theorem Blk.live (h : Blk w g L rest) (j : Nat) : w.frozen? ⟨g, j, none⟩ = false := by
  unfold Blk at h
  simp [World.frozen?, h]
theorem heap_set' {C : List Value} {t : TypeId} {fr : Nat × Nat} {k : Nat} (h : w.heap[g]? = some (.cells C.toArray t fr)) (v : Value) : (w.setCell ⟨g, k, none⟩ v).heap[g]? = some (.cells (C.set k v).toArray t fr) := by
  rw [heap_set h v]
  simp
theorem Blk.store (h : Blk w g L rest) {i : Nat} (hi : i < L.length) (d : Nd) :
    Blk ((((((w.setCell ⟨g, i * 6, none⟩ (.int .i64 d.c)).setCell ⟨g, i * 6 + 1, none⟩ (.int .i64 d.s)).setCell ⟨g, i * 6 + 2, none⟩ (.int .i64 d.m)).setCell ⟨g, i * 6 + 3, none⟩ (.int .i64 d.x)).setCell ⟨g, i * 6 + 4, none⟩ (.int .u8 d.h.toNat)).setCell ⟨g, i * 6 + 5, none⟩ (.int .u8 d.g.toNat)) g (L.set i d) rest := by
  unfold Blk at h ⊢
  rw [← row_set6 L d i hi rest]
  exact heap_set' (heap_set' (heap_set' (heap_set' (heap_set' (heap_set' h _) _) _) _) _) _
theorem Blk.below {w' : World} {B : Nat} (h : Blk w g L rest) (hb : Below B w w') (hg : g < B) : Blk w' g L rest := by
  unfold Blk at h ⊢
  rw [hb.block g hg]; exact h
theorem Blk.block {w' : World} (h : Blk w g L rest) (hb : w'.heap[g]? = w.heap[g]?) : Blk w' g L rest := by
  unfold Blk at h ⊢
  rw [hb]; exact h
theorem Blk.drew (h : Blk w g L rest) : Blk w.drew g L rest := h
theorem Blk.alloc (h : Blk w g L rest) (o : Obj) : Blk (w.alloc o) g L rest := h.block (Below.heap_alloc w o g h.lt)
theorem Blk.of {base n cap : Nat} (h : w.ownsRow base 51 6 (.slice (some ⟨g, 0, none⟩) n cap) n (L.flatMap Nd.cells)) (_hL : L.length = n) : ∃ rest, Blk w g L rest ∧ rest.length + n * 6 = cap * 6 ∧ n ≤ cap ∧ cap ≤ maxLen ∧ base ≤ g := by
  rcases h.2 with ⟨hc, _⟩ | ⟨g', cap', cur, hv, hb, hg, hnc, hcm, hcs, ht⟩
  · simp at hc
  · simp only [Value.slice.injEq, Option.some.injEq, Addr.mk.injEq, true_and, and_true] at hv
    obtain ⟨rfl, rfl⟩ := hv
    refine ⟨cur.toList.drop (n * 6), ?_, ?_, hnc, hcm, hb⟩
    · unfold Blk
      rw [← ht, List.take_append_drop]
      simpa using hg
    · simp only [List.length_drop, Array.length_toList, hcs]
      omega
theorem Blk.own {base cap n : Nat} (h : Blk w g L rest) (hr : rest.length + L.length * 6 = cap * 6) (hn : n ≤ L.length) (hcm : cap ≤ maxLen) (hb : base ≤ g) :
    w.ownsRow base 51 6 (.slice (some ⟨g, 0, none⟩) n cap) n ((L.take n).flatMap Nd.cells) := by
  refine ⟨by rw [row_len]; simp; omega, .inr ⟨g, cap, _, rfl, hb, h, by omega, hcm, by simp only [List.size_toArray, List.length_append, row_len]; omega, ?_⟩⟩
  show List.take _ (L.flatMap Nd.cells ++ rest) = _
  rw [List.take_append_of_le_length (by rw [row_len]; omega), row_take]
end
theorem append_keeps {P : Program} (w w' : World) (base : Nat) (t ty e : TypeId) (i : TypeInfo) (z : Value) (size bytes : Nat) (ht : P.underlying t = some (.slice e)) (hi : P.info? e = some i) (hz : i.zero = some z)
    (hsize : i.size = size) (hby : i.bytes = bytes) (hsz : 0 < size)
    (v v' : Value) (n : Nat) (xs : List Value) (hown : w.ownsRow base e size v n xs)
    (a : Addr) (m c : Nat) (news : List Value) (hl : news.length = m * size) (hnews : ∀ j u, news[j]? = some u → w.cell? (a.add j) = some u) (h1 : ∀ u ∈ news, u.oneCell' = true)
    (h63 : n + m ≤ maxLen) (hbytes : (n + m) * bytes ≤ 140737488355328)
    (hr : (Builtin.append_ #[t, t] ty #[v, .slice (some a) m c]).run P w = .ok v' w') : w'.ownsRow base e size v n xs := by
  subst hsize
  subst hby
  have hsmall : n + m ≤ 9223372036854775807 := by simp only [maxLen] at h63; omega
  rcases hown.2 with ⟨rfl, rfl⟩ | ⟨g, cap, cur, rfl, hbg, hgg, hnc, hcm, hcs, htake⟩
  · exact ⟨hown.1, .inl ⟨rfl, rfl⟩⟩
  · by_cases hroom : n + m ≤ cap
    · have hfit : n * i.size + news.length ≤ cur.size := by rw [hl, hcs, ← Nat.add_mul]; exact Nat.mul_le_mul_right _ hroom
      have hr2 := run_append_room (P := P) w t ty e i ht hi g n cap cur hgg a m c news hl hnews h1 hroom hfit
      rw [hr] at hr2
      injection hr2 with e1 e2
      subst e2
      refine ⟨hown.1, .inr ⟨g, cap, _, rfl, hbg, setRow_heap w g cur _ e _ hgg, hnc, hcm, ?_, ?_⟩⟩
      · simp only [List.size_toArray, List.length_append, List.length_take, List.length_drop, Array.length_toList]
        omega
      · simp only [List.append_assoc]
        rw [List.take_append_of_le_length (by simp; omega), List.take_take, Nat.min_self]
        exact htake
    · have holds : ∀ j u, xs[j]? = some u → w.cell? ((⟨g, 0, none⟩ : Addr).add j) = some u := hown.cells (g := g) rfl
      have hr2 := run_append_grow (P := P) w t ty e i z ht hi hz ⟨g, 0, none⟩ n cap xs hown.1 holds a m c news hl hnews (by omega) (by omega) (growslice_fits (by omega) hbytes)
      rw [hr] at hr2
      injection hr2 with e1 e2
      subst e2
      exact (hown.drew).alloc _
end Go.Proofs.YtogmdaopfnmobaaGreat

/- What far, num, sameNodes, all and lentNodes of the law's own package do. -/
namespace Go.Proofs.YtogmdaopfnmobaaGreat
open Go.RowKit
attribute [local go_sem ↓] run_eql_node run_neq_node
def Mk (n : Int) : Nd := ⟨-1, n, 0, 0, 0, 0⟩
def Z0 : Nd := ⟨0, 0, 0, 0, 0, 0⟩
set_option maxHeartbeats 400000 in
theorem far_any (n : Int) (w : World) :
    Calls Tryz.prog 59 #[.int .i64 n] w fun e w' => e = .returned (.agg #[.int .i64 (-1), .int .i64 n, .int .i64 0, .int .i64 0, .int .u8 0, .int .u8 0]) ∧ Below w.heap.size w w' := by
  go_enter Tryz.func59, Tryz.ntmps59
  go_wp2
  refine bodyPost_ret (v := .agg #[.int .i64 (-1), .int .i64 n, .int .i64 0, .int .i64 0, .int .u8 0, .int .u8 0]) (by simp [results, Tryz.results59, go_sem]) rfl ⟨rfl, ?_⟩
  repeat (refine Below.setCell ?_ (by simp) _)
  exact (Below.refl _ _).alloc (Nat.le_refl _) _
set_option maxHeartbeats 400000 in
theorem numE_any (n : Int) (w : World) : Calls Tryz.prog 19 #[.int .i64 n] w fun e w' => e = .returned (.int .i64 n) ∧ w' = w := by
  go_enter Tryz.func19, Tryz.ntmps19
  go_wp2
  go_ret
  exact ⟨rfl, rfl⟩
set_option maxHeartbeats 1000000 in
set_option maxRecDepth 100000 in
theorem sameNodes_any (v v2 : Value) (l : List Nd) (w : World) (B : Nat) (h1 : Nodes w B v l) (h2 : Nodes w B v2 l) :
    Calls Tryz.prog 58 #[v, v2] w fun e w' => e = .returned (.bool true) ∧ ∃ n, w' = w.drewN n := by
  obtain ⟨ao, cap, rfl, hmax, hc1⟩ := h1.ex
  obtain ⟨ao2, cap2, rfl, _, hc2⟩ := h2.ex
  clear h1 h2
  go_enter Tryz.func58, Tryz.ntmps58
  go_wp2
  go_loopw [5] (fun i wr => ∃ k n : Nat, k ≤ l.length ∧ i = .int .i64 k ∧ wr = w.drewN n) (fun i _ => l.length - (intOf i).toNat)
  case atStart => exact ⟨0, 0, Nat.zero_le _, rfl, rfl⟩
  case round =>
    obtain ⟨k, n, hk, rfl, rfl⟩ := hrel
    by_cases hlt : k < l.length
    · obtain ⟨b, off, rfl, hbB, hcs⟩ := hc1 k hlt
      obtain ⟨b', off', rfl, hbB', hcs'⟩ := hc2 k hlt
      obtain ⟨d, hd⟩ : ∃ d, d = l[k] := ⟨_, rfl⟩
      rw [← hd] at hcs hcs'
      obtain ⟨k0, k1, k2, k3, k4, k5⟩ := six (wr := w) (Below.refl B w) hbB hcs
      obtain ⟨j0, j1, j2, j3, j4, j5⟩ := six (wr := w) (Below.refl B w) hbB' hcs'
      have heq := (eqNd d d).2 rfl
      clear hd hcs hcs' hc1 hc2
      go_wp2
      go_quiet (fail)
      go_wp2
      go_roundw
      case rel => exact ⟨k + 1, n + nq, by omega, by go_num, rfl⟩
      case measure => simp [intOf]; omega
    · go_wp2
      go_ret
      exact ⟨rfl, n, rfl⟩
set_option maxHeartbeats 1000000 in
set_option maxRecDepth 100000 in
theorem all_any (v : Value) (m : Int) (l : List Nd) (w : World) (h1 : Nodes w w.heap.size v l) (ha : ∀ d ∈ l, d = Mk m) :
    Calls Tryz.prog 60 #[v, .agg #[.int .i64 (-1), .int .i64 m, .int .i64 0, .int .i64 0, .int .u8 0, .int .u8 0]] w fun e w' => e = .returned (.bool true) ∧ Below w.heap.size w w' := by
  obtain ⟨ao, cap, rfl, hmax, hc1⟩ := h1.ex
  clear h1
  go_enter Tryz.func60, Tryz.ntmps60
  go_wp2
  go_loopw [5] (fun i wr => ∃ k : Nat, k ≤ l.length ∧ i = .int .i64 k ∧ Below (w.heap.size + 1) (w.alloc (.cells #[.int .i64 (-1), .int .i64 m, .int .i64 0, .int .i64 0, .int .u8 0, .int .u8 0] 51)) wr) (fun i _ => l.length - (intOf i).toNat)
  case atStart => exact ⟨0, Nat.zero_le _, rfl, Below.refl _ _⟩
  case round =>
    obtain ⟨k, hk, rfl, hb⟩ := hrel
    have hfin := below_new hb
    by_cases hlt : k < l.length
    · obtain ⟨b, off, rfl, hbB, hcs⟩ := hc1 k hlt
      have hd := ha _ (List.getElem_mem hlt)
      rw [hd] at hcs
      obtain ⟨k0, k1, k2, k3, k4, k5⟩ := six hfin hbB hcs
      obtain ⟨⟨j0, j1, j2, j3, j4, j5⟩, _⟩ := six_new hb
      have heq : eqN (-1) m 0 0 0 0 (-1) m 0 0 0 0 = true := by simp [eqN]
      clear hd hcs hc1
      simp only [Mk] at k0 k1 k2 k3 k4 k5
      go_wp2
      go_quiet (fail)
      go_wp2
      go_roundw
      case rel => exact ⟨k + 1, by omega, by go_num, hb.trans ((below_drewN wr nq).mono (by have := hb.size; simp at this; omega))⟩
      case measure => simp [intOf]; omega
    · go_wp2
      go_ret
      exact ⟨rfl, hfin⟩
theorem made_row (N : Nat) : (madeCells #[.int .i64 0, .int .i64 0, .int .i64 0, .int .i64 0, .int .u8 0, .int .u8 0] (N * 6)).toList = (List.replicate N Z0).flatMap Nd.cells := by
  apply List.ext_getElem?
  intro i
  by_cases hi : i < N * 6
  · have e : i = i / 6 * 6 + i % 6 := by omega
    have h6 : i % 6 < 6 := Nat.mod_lt _ (by omega)
    have hL : i / 6 < (List.replicate N Z0).length := by simp; omega
    have hr := row_get (List.replicate N Z0) (i / 6) (i % 6) hL h6
    rw [← e] at hr
    rw [hr]
    simp only [List.getElem_replicate]
    have hl : (madeCells #[.int .i64 0, .int .i64 0, .int .i64 0, .int .i64 0, .int .u8 0, .int .u8 0] (N * 6)).toList[i]? = some (#[(.int .i64 0 : Value), .int .i64 0, .int .i64 0, .int .i64 0, .int .u8 0, .int .u8 0][i % 6]!) := by
      simp [madeCells, hi]
    rw [hl]
    match i % 6, h6 with
    | 0, _ => rfl
    | 1, _ => rfl
    | 2, _ => rfl
    | 3, _ => rfl
    | 4, _ => rfl
    | 5, _ => rfl
  · rw [List.getElem?_eq_none (by simp [size_madeCells]; omega), List.getElem?_eq_none (by rw [row_len]; simp; omega)]
theorem run_copy_nodes (w : World) (ty : TypeId) (g dLen dCap n sCap : Nat) (ao : Option Addr) (l L : List Nd) (hL : Blk w g (l ++ L) []) (hn : l.length = n) (hd : n ≤ dLen) (K : List Nd) (hK : K.length = n)
    (hs : ∃ a, ao = some a ∧ ∀ j v, (K.flatMap Nd.cells)[j]? = some v → w.cell? (a.add j) = some v) :
    (Builtin.copy_ #[72, 72] ty #[.slice (some ⟨g, 0, none⟩) dLen dCap, .slice ao n sCap]).run Tryz.prog w = .ok (goInt n) (w.setRow g ((K ++ L).flatMap Nd.cells).toArray) := by
  obtain ⟨a, rfl, hsrc⟩ := hs
  obtain ⟨i0, hi, hz0, hz1, hz2⟩ := info_parts info_node
  have hm : Nat.min n dLen = n := Nat.min_eq_left hd
  have hone : ∀ v ∈ K.flatMap Nd.cells, v.oneCell' = true := by
    intro v hv
    obtain ⟨d, _, hd'⟩ := List.mem_flatMap.1 hv
    exact node_one d v hd'
  have hf := run_firstCells_some (P := Tryz.prog) w 6 n a n sCap (K.flatMap Nd.cells) (by rw [row_len, hK]) hsrc
  have hst := run_storeCells_at Tryz.prog g 0 51 (K.flatMap Nd.cells) 0 _ w hL (by simp only [List.size_toArray, List.append_nil, row_len, List.length_append]; omega) hone
  have hrow : List.take 0 ((l ++ L).flatMap Nd.cells ++ []) ++ K.flatMap Nd.cells ++ List.drop (0 + (K.flatMap Nd.cells).length) ((l ++ L).flatMap Nd.cells ++ []) = (K ++ L).flatMap Nd.cells := by
    simp only [List.append_nil, List.take_zero, List.nil_append, Nat.zero_add, List.flatMap_append]
    rw [List.drop_left' (by rw [row_len, row_len, hn, hK])]
  have hst3 : Sem.run Tryz.prog (storeCells ⟨g, 0, none⟩ (K.flatMap Nd.cells)) w = Result.ok () (w.setRow g ((K ++ L).flatMap Nd.cells).toArray) := by
    rw [← hrow]; exact hst
  simp only [List.flatMap_append] at hst3
  simp [Builtin.copy_, run_underlying Tryz.underlying72, Builtin.lenOf, sizeOf, typeInfo, hi, hz1, hm, hf, hst3]
theorem set_mid (l : List Nd) (x z : Nd) (a b : Nat) : (l ++ List.replicate a x ++ List.replicate (b + 1) z).set (l.length + a) x = l ++ List.replicate (a + 1) x ++ List.replicate b z := by
  rw [List.set_append_right _ _ (by simp), List.length_append, List.length_replicate, Nat.sub_self, List.replicate_succ, List.set_cons_zero, List.replicate_succ', List.append_assoc, List.append_assoc, List.append_assoc]
  rfl
def lentPost (ao : Option Addr) (l : List Nd) (w : World) (e : Ending) (w' : World) : Prop :=
  (ao = none ∧ e = .returned (.slice none 0 0) ∧ w' = w) ∨
  (ao ≠ none ∧ ∃ g, e = .returned (.slice (some ⟨g, 0, none⟩) l.length (l.length + 8)) ∧ w.heap.size ≤ g ∧ Blk w' g (l ++ List.replicate 8 (Mk 0)) [] ∧ Below w.heap.size w w')
set_option maxHeartbeats 1000000 in
set_option maxRecDepth 100000 in
theorem lent_any (ao : Option Addr) (n cap : Nat) (l : List Nd) (w : World) (hl : Nodes w w.heap.size (.slice ao n cap) l) (hlen : l.length ≤ 2000000) :
    Calls Tryz.prog 92 #[.slice ao n cap] w (lentPost ao l w) := by
  have q25 : ∀ (w : World) (a : Option Addr) (n c n' c' : Nat), (binOp .eql 72 (.slice a n c) (.slice none n' c')).run Tryz.prog w = .ok (.bool a.isNone) w := fun w a n c n' c' => Lib.run_eql_slice_nil w _ _ a n c n' c' Tryz.underlying72
  obtain ⟨ao', cap', hv, hmax, hcells⟩ := hl.ex
  simp only [Value.slice.injEq] at hv
  obtain ⟨rfl, rfl, rfl⟩ := hv
  cases ao with
  | none =>
    go_enter Tryz.func92, Tryz.ntmps92
    go_wp2
    go_ret
    exact .inl ⟨rfl, rfl, rfl⟩
  | some a =>
    obtain ⟨i0, hi, hz0, hz1, hz2⟩ := info_parts info_node
    have hsrc : ∀ j v, (l.flatMap Nd.cells)[j]? = some v → w.cell? (a.add j) = some v := by
      intro j v hj
      have hjl : j < l.length * 6 := by have := (List.getElem?_eq_some_iff.1 hj).1; rw [row_len] at this; exact this
      obtain ⟨b, off, ha, hB, hcs⟩ := hcells (j / 6) (by omega)
      simp only [Option.some.injEq] at ha
      subst ha
      have hc := hcs (j % 6) (Nat.mod_lt _ (by omega))
      rw [WideShapes.add_plain]
      have e : j / 6 * 6 + j % 6 = j := by omega
      rw [Nat.add_assoc, e] at hc
      rw [hc, ← hj]
      have hr := row_get l (j / 6) (j % 6) (by omega) (Nat.mod_lt _ (by omega))
      rw [e] at hr
      rw [hr, List.getElem?_eq_getElem]
    have hc8 : ((l.length + 8 : Nat) : Int) = (l.length : Int) + 8 := by omega
    have HS : Hid _ := hsrc
    clear hl hcells hsrc
    go_enter Tryz.func92, Tryz.ntmps92
    go_wp2_with (at_make; refine wpList_make_full _ rfl _ _ 72 rfl w.heap.size 51 i0 (.agg #[.int .i64 0, .int .i64 0, .int .i64 0, .int .i64 0, .int .u8 0, .int .u8 0]) 6 Tryz.underlying72 hi hz0 hz1 .i64 .i64 _ _ (l.length + 8) rfl rfl (by omega) (by omega) (by rw [hz2]; omega) (by unfold maxLen; omega) (Nat.le_refl _) ?_)
    intro w1 hown1 hgr1
    rw [made_row] at hown1
    obtain ⟨rest, hbk, hrl, _, _, hbs⟩ := Blk.of hown1 (by simp)
    have hrest : rest = [] := List.eq_nil_of_length_eq_zero (by omega)
    subst hrest
    have hsp : List.replicate (l.length + 8) Z0 = List.replicate l.length Z0 ++ List.replicate 8 Z0 := List.replicate_append_replicate.symm
    rw [hsp] at hbk
    have hcp := fun ty => run_copy_nodes w1 ty w.heap.size (l.length + 8) (l.length + 8) l.length cap (some a) (List.replicate l.length Z0) (List.replicate 8 Z0) hbk (by simp) (by omega) l rfl ⟨a, rfl, fun j v hj => hgr1.cell (HS.out j v hj) (by simp)⟩
    have hbk2 : Blk (w1.setRow w.heap.size ((l ++ List.replicate 8 Z0).flatMap Nd.cells).toArray) w.heap.size (l ++ List.replicate 8 Z0) [] := by
      unfold Blk
      rw [List.append_nil]
      exact setRow_heap w1 w.heap.size _ _ _ _ hbk
    have hB2 : Below w.heap.size w (w1.setRow w.heap.size ((l ++ List.replicate 8 Z0).flatMap Nd.cells).toArray) :=
      ((Below.refl _ _).grown hgr1 (Nat.le_refl _) (fun k hk => by simp at hk)).trans ⟨rfl, rfl, rfl, by simp [World.setRow], fun k hk => setRow_other _ _ _ _ (by omega)⟩
    obtain ⟨W2, hW2⟩ : ∃ W2, W2 = w1.setRow w.heap.size ((l ++ List.replicate 8 Z0).flatMap Nd.cells).toArray := ⟨_, rfl⟩
    rw [← hW2] at hcp hbk2 hB2
    clear hW2 hbk hown1 hgr1 hsp HS hrl
    go_wp2
    go_loopw [5] (fun i wr => ∃ a b : Nat, a + b = 8 ∧ i = .int .i64 ((l.length + a : Nat) : Int) ∧ Blk wr w.heap.size (l ++ List.replicate a (Mk 0) ++ List.replicate b Z0) [] ∧ Below w.heap.size w wr) (fun i _ => l.length + 8 - (intOf i).toNat)
    case atStart => exact ⟨0, 8, rfl, rfl, by simpa using hbk2, hB2⟩
    case round =>
      obtain ⟨a', b', hab, rfl, hbk, hB⟩ := hrel
      clear hcp hbk2 hB2
      by_cases hlt : a' < 8
      · obtain ⟨b', rfl⟩ : ∃ c, b' = c + 1 := ⟨b' - 1, by omega⟩
        have hB' := hB.size
        go_wp2_with fail
        refine (far_any _ _).mono ?_
        rintro e w3 ⟨rfl, hb3⟩
        have hB3 : Below w.heap.size w w3 := hB.trans (hb3.mono hB.size)
        have hbk3 := hbk.below hb3 hbk.lt
        have hidx : l.length + a' < (l ++ List.replicate a' (Mk 0) ++ List.replicate (b' + 1) Z0).length := by simp
        obtain ⟨k0, k1, k2, k3, k4, k5⟩ := hbk3.six hidx rfl
        have hlv := hbk3.live
        have hst := hbk3.store hidx (Mk 0)
        rw [set_mid] at hst
        clear k0 k1 k2 k3 k4 k5 hlv
        obtain ⟨k0, k1, k2, k3, k4, k5⟩ := hbk3.six hidx rfl
        have hlv := hbk3.live
        go_wp2
        go_roundw
        case rel =>
          refine ⟨a' + 1, b', by omega, by go_num, hst, ?_⟩
          repeat (refine Below.setCell ?_ (by simp) _)
          exact hB3
        case measure => simp [intOf]; omega
      · have ha8 : a' = 8 := by omega
        have hb0 : b' = 0 := by omega
        subst ha8; subst hb0
        go_wp2
        go_ret
        exact .inr ⟨by simp, w.heap.size, rfl, Nat.le_refl _, by simpa using hbk, hB⟩
end Go.Proofs.YtogmdaopfnmobaaGreat

/- What the law's own world holds: the lists that wait, what they were, the books. -/
namespace Go.Proofs.YtogmdaopfnmobaaGreat
open Go.RowKit
structure Bk where
  m : Int
  x0 : Value
  x1 : Value
  x2 : Value
  x3 : Value
def Bk.cells (b : Bk) : List Value := (Mk b.m).cells ++ [b.x0, b.x1, b.x2, b.x3]
def Bk.blocks (b : Bk) : List Nat := ob b.x0 ++ ob b.x1 ++ ob b.x2 ++ ob b.x3
def Marked (w : World) (base : Nat) (v : Value) (m : Int) : Prop := ∃ n, n ≤ 4000000 ∧ w.ownsRow base 51 6 v n ((List.replicate n (Mk m)).flatMap Nd.cells)
theorem own_apart {w : World} {base base' : Nat} {e e' : TypeId} {sz sz' n n' : Nat} {v v' : Value} {xs xs' : List Value} (h : w.ownsRow base e sz v n xs) (h' : w.ownsRow base' e' sz' v' n' xs') (hne : e ≠ e') : ∀ k ∈ ob v, k ∉ ob v' := by
  intro k hk hk'
  rw [mem_ob] at hk hk'
  rcases h.2 with ⟨rfl, _⟩ | ⟨g, _, _, rfl, _, hg, _⟩
  · simp [Value.ownBlock] at hk
  · rcases h'.2 with ⟨rfl, _⟩ | ⟨g', _, _, rfl, _, hg', _⟩
    · simp [Value.ownBlock] at hk'
    · simp only [Value.ownBlock, Option.some.injEq] at hk hk'
      subst hk; subst hk'
      rw [hg] at hg'
      simp only [Option.some.injEq, Obj.cells.injEq] at hg'
      exact hne hg'.2.1
structure Inv (w : World) (A base : Nat) (sv lv : Value) (m : Nat) (wv ev bv : Value) (Ws Es : List Value) (Ls : List (List Nd)) (Bs : List Bk) : Prop where
  hA : w.heap[A]? = some (.cells #[sv, .int .i64 m, wv, ev, bv, lv] 70 (0, 0))
  hAb : A < base
  hbs : base ≤ w.heap.size
  hW : w.ownsRow base 72 1 wv Ws.length Ws
  hE : w.ownsRow base 72 1 ev Es.length Es
  hB : w.ownsRow base 119 10 bv Bs.length (Bs.flatMap Bk.cells)
  len1 : Ws.length = Ls.length
  len2 : Es.length = Ls.length
  owW : ∀ (i : Nat) (h1 : i < Ws.length) (h2 : i < Ls.length), w.ownsRow base 51 6 Ws[i] (Ls[i]).length ((Ls[i]).flatMap Nd.cells)
  owE : ∀ (i : Nat) (h1 : i < Es.length) (h2 : i < Ls.length), w.ownsRow base 51 6 Es[i] (Ls[i]).length ((Ls[i]).flatMap Nd.cells)
  d1 : ∀ k ∈ ob wv, k ∉ ob ev
  d2 : (Ws.flatMap ob).Nodup
  d3 : ∀ k ∈ Ws.flatMap ob, k ∉ Es.flatMap ob
  bk : ∀ b ∈ Bs, Marked w base b.x0 b.m ∧ Marked w base b.x1 b.m ∧ Marked w base b.x2 b.m ∧ Marked w base b.x3 b.m ∧ ∀ k ∈ b.blocks, k ∉ Ws.flatMap ob
def fpOf (A : Nat) (wv ev bv : Value) (Ws Es : List Value) (Bs : List Bk) : List Nat := A :: (ob wv ++ ob ev ++ ob bv ++ Ws.flatMap ob ++ Es.flatMap ob ++ Bs.flatMap Bk.blocks)
section
variable {w : World} {A base : Nat} {sv lv : Value} {m : Nat} {wv ev bv : Value} {Ws Es : List Value} {Ls : List (List Nd)} {Bs : List Bk}
theorem marked_in {v : Value} {k : Nat} {n : Int} (h : Marked w base v n) (hk : k ∈ ob v) : base ≤ k ∧ k < w.heap.size := by
  obtain ⟨_, _, h⟩ := h
  exact own_in h k hk
theorem Inv.fp (h : Inv w A base sv lv m wv ev bv Ws Es Ls Bs) : ∀ k ∈ fpOf A wv ev bv Ws Es Bs, (k = A ∨ base ≤ k) ∧ k < w.heap.size := by
  intro k hk
  unfold fpOf at hk
  simp only [List.mem_cons, List.mem_append, List.mem_flatMap] at hk
  have hs := h.hbs
  have hab := h.hAb
  rcases hk with rfl | (((((h1 | h1) | h1) | ⟨v, hv, h1⟩) | ⟨v, hv, h1⟩) | ⟨b, hb, h1⟩)
  · exact ⟨.inl rfl, by omega⟩
  · have := own_in h.hW k h1; exact ⟨.inr this.1, this.2⟩
  · have := own_in h.hE k h1; exact ⟨.inr this.1, this.2⟩
  · have := own_in h.hB k h1; exact ⟨.inr this.1, this.2⟩
  · obtain ⟨i, hi, rfl⟩ := List.getElem_of_mem hv
    have := own_in (h.owW i hi (by rw [← h.len1]; exact hi)) k h1
    exact ⟨.inr this.1, this.2⟩
  · obtain ⟨i, hi, rfl⟩ := List.getElem_of_mem hv
    have := own_in (h.owE i hi (by rw [← h.len2]; exact hi)) k h1
    exact ⟨.inr this.1, this.2⟩
  · obtain ⟨m0, m1, m2, m3, _⟩ := h.bk b hb
    unfold Bk.blocks at h1
    simp only [List.mem_append] at h1
    rcases h1 with ((h1 | h1) | h1) | h1
    · have := marked_in m0 h1; exact ⟨.inr this.1, this.2⟩
    · have := marked_in m1 h1; exact ⟨.inr this.1, this.2⟩
    · have := marked_in m2 h1; exact ⟨.inr this.1, this.2⟩
    · have := marked_in m3 h1; exact ⟨.inr this.1, this.2⟩
theorem marked_keep {w' : World} {v : Value} {n : Int} (h : Marked w base v n) (hb : ∀ k ∈ ob v, w'.heap[k]? = w.heap[k]?) : Marked w' base v n := by
  obtain ⟨j, hj, h⟩ := h
  exact ⟨j, hj, own_keep h hb⟩
theorem Inv.frame {w' : World} (h : Inv w A base sv lv m wv ev bv Ws Es Ls Bs) (hs : w.heap.size ≤ w'.heap.size) (hf : ∀ k ∈ fpOf A wv ev bv Ws Es Bs, w'.heap[k]? = w.heap[k]?) : Inv w' A base sv lv m wv ev bv Ws Es Ls Bs := by
  have hb := h.hbs
  have inW : ∀ v ∈ Ws, ∀ k ∈ ob v, w'.heap[k]? = w.heap[k]? := fun v hv k hk => hf k (by unfold fpOf; simp only [List.mem_cons, List.mem_append, List.mem_flatMap]; exact .inr (.inl (.inl (.inr ⟨v, hv, hk⟩))))
  have inE : ∀ v ∈ Es, ∀ k ∈ ob v, w'.heap[k]? = w.heap[k]? := fun v hv k hk => hf k (by unfold fpOf; simp only [List.mem_cons, List.mem_append, List.mem_flatMap]; exact .inr (.inl (.inr ⟨v, hv, hk⟩)))
  have inB : ∀ b ∈ Bs, ∀ k ∈ b.blocks, w'.heap[k]? = w.heap[k]? := fun b hb k hk => hf k (by unfold fpOf; simp only [List.mem_cons, List.mem_append, List.mem_flatMap]; exact .inr (.inr ⟨b, hb, hk⟩))
  refine ⟨by rw [hf A (by simp [fpOf])]; exact h.hA, h.hAb, by omega, own_keep h.hW fun k hk => hf k (by simp [fpOf, hk]), own_keep h.hE fun k hk => hf k (by simp [fpOf, hk]), own_keep h.hB fun k hk => hf k (by simp [fpOf, hk]), h.len1, h.len2,
    fun i h1 h2 => own_keep (h.owW i h1 h2) (inW _ (List.getElem_mem h1)), fun i h1 h2 => own_keep (h.owE i h1 h2) (inE _ (List.getElem_mem h1)), h.d1, h.d2, h.d3, fun b hb => ?_⟩
  obtain ⟨m0, m1, m2, m3, hk⟩ := h.bk b hb
  have i := inB b hb
  unfold Bk.blocks at i
  exact ⟨marked_keep m0 fun k hk => i k (by simp [hk]), marked_keep m1 fun k hk => i k (by simp [hk]), marked_keep m2 fun k hk => i k (by simp [hk]), marked_keep m3 fun k hk => i k (by simp [hk]), hk⟩
theorem Inv.below {w' : World} (h : Inv w A base sv lv m wv ev bv Ws Es Ls Bs) (hb : Below w.heap.size w w') : Inv w' A base sv lv m wv ev bv Ws Es Ls Bs :=
  h.frame hb.size fun k hk => hb.block k (h.fp k hk).2
theorem Inv.cells (h : Inv w A base sv lv m wv ev bv Ws Es Ls Bs) : (w.cell? ⟨A, 0, none⟩ = some sv ∧ w.cell? ⟨A, 1, none⟩ = some (.int .i64 m) ∧ w.cell? ⟨A, 2, none⟩ = some wv ∧ w.cell? ⟨A, 3, none⟩ = some ev ∧ w.cell? ⟨A, 4, none⟩ = some bv ∧ w.cell? ⟨A, 5, none⟩ = some lv) ∧ ∀ j, w.frozen? ⟨A, j, none⟩ = false := by
  have hA := h.hA
  refine ⟨⟨?_, ?_, ?_, ?_, ?_, ?_⟩, fun j => by simp [World.frozen?, hA]⟩ <;> rw [cell_of_row w A _ _ _ _ hA] <;> rfl
theorem Inv.book {w3 : World} {bv3 : Value} {b : Bk} (h : Inv w A base sv lv m wv ev bv Ws Es Ls Bs) (hg : Grew w bv w3 bv3) (ho : w3.ownsRow base 119 10 bv3 (Bs.length + 1) (Bs.flatMap Bk.cells ++ b.cells))
    (hb : Marked w base b.x0 b.m ∧ Marked w base b.x1 b.m ∧ Marked w base b.x2 b.m ∧ Marked w base b.x3 b.m ∧ ∀ k ∈ b.blocks, k ∉ Ws.flatMap ob) :
    Inv (w3.setCell ⟨A, 4, none⟩ bv3) A base sv lv m wv ev bv3 Ws Es Ls (Bs ++ [b]) := by
  have hab := h.hAb
  have hbs := h.hbs
  have hAne : some A ≠ bv.ownBlock := fun c => by have := own_in h.hB A (mem_ob.2 c.symm); omega
  have hA3 : w3.heap[A]? = w.heap[A]? := hg.grown.block A (by omega) hAne
  have old : ∀ k, k < w.heap.size → k ∉ ob bv → base ≤ k → (w3.setCell ⟨A, 4, none⟩ bv3).heap[k]? = w.heap[k]? := fun k hk hn hbk =>
    (Below.heap_setCell _ _ _ _ (by show k ≠ A; omega)).trans (hg.grown.block k hk (fun c => hn (mem_ob.2 c.symm)))
  have keep : ∀ {x : Value} {e : TypeId} {sz n : Nat} {xs : List Value}, w.ownsRow base e sz x n xs → e ≠ 119 → (w3.setCell ⟨A, 4, none⟩ bv3).ownsRow base e sz x n xs := fun hx hne =>
    own_keep hx fun k hk => old k (own_in hx k hk).2 (own_apart hx h.hB hne k hk) (own_in hx k hk).1
  have keepM : ∀ {x : Value} {n : Int}, Marked w base x n → Marked (w3.setCell ⟨A, 4, none⟩ bv3) base x n := fun ⟨j, hj, hx⟩ => ⟨j, hj, keep hx (by decide)⟩
  refine ⟨?_, hab, ?_, keep h.hW (by decide), keep h.hE (by decide), ?_, h.len1, h.len2, fun i h1 h2 => keep (h.owW i h1 h2) (by decide), fun i h1 h2 => keep (h.owE i h1 h2) (by decide), h.d1, h.d2, h.d3, ?_⟩
  · rw [heap_set (hA3.trans h.hA)]; rfl
  · have := hg.grown.size; simp [World.setCell]; omega
  · have e : (Bs ++ [b]).length = Bs.length + 1 := by simp
    have e2 : (Bs ++ [b]).flatMap Bk.cells = Bs.flatMap Bk.cells ++ b.cells := by simp
    rw [e, e2]
    exact own_keep ho fun k hk => Below.heap_setCell _ _ _ _ (by have := own_in ho k hk; show k ≠ A; omega)
  · intro x hx
    rw [List.mem_append] at hx
    rcases hx with hx | hx
    · obtain ⟨m0, m1, m2, m3, hq⟩ := h.bk x hx
      exact ⟨keepM m0, keepM m1, keepM m2, keepM m3, hq⟩
    · simp only [List.mem_cons, List.not_mem_nil, or_false] at hx
      subst hx
      obtain ⟨m0, m1, m2, m3, hq⟩ := hb
      exact ⟨keepM m0, keepM m1, keepM m2, keepM m3, hq⟩
theorem ob_nodup (v : Value) : (ob v).Nodup := by
  unfold ob
  cases v.ownBlock <;> simp
theorem mem_fp_W {v : Value} {k : Nat} (hv : v ∈ Ws) (hk : k ∈ ob v) : k ∈ fpOf A wv ev bv Ws Es Bs := by
  unfold fpOf; simp only [List.mem_cons, List.mem_append, List.mem_flatMap]; exact .inr (.inl (.inl (.inr ⟨v, hv, hk⟩)))
theorem mem_fp_E {v : Value} {k : Nat} (hv : v ∈ Es) (hk : k ∈ ob v) : k ∈ fpOf A wv ev bv Ws Es Bs := by
  unfold fpOf; simp only [List.mem_cons, List.mem_append, List.mem_flatMap]; exact .inr (.inl (.inr ⟨v, hv, hk⟩))
theorem mem_fp_B {b : Bk} {k : Nat} (hb : b ∈ Bs) (hk : k ∈ b.blocks) : k ∈ fpOf A wv ev bv Ws Es Bs := by
  unfold fpOf; simp only [List.mem_cons, List.mem_append, List.mem_flatMap]; exact .inr (.inr ⟨b, hb, hk⟩)
theorem Inv.keep {w' : World} (h : Inv w A base sv lv m wv ev bv Ws Es Ls Bs) (v u wv' ev' : Value) (l : List Nd)
    (hA' : w'.heap[A]? = some (.cells #[sv, .int .i64 m, wv', ev', bv, lv] 70 (0, 0))) (hs : w.heap.size ≤ w'.heap.size)
    (hk : ∀ k, k < w.heap.size → k ≠ A → k ∉ ob wv → k ∉ ob ev → w'.heap[k]? = w.heap[k]?)
    (hW' : w'.ownsRow base 72 1 wv' (Ws.length + 1) (Ws ++ [v])) (hE' : w'.ownsRow base 72 1 ev' (Es.length + 1) (Es ++ [u]))
    (hv : w'.ownsRow base 51 6 v l.length (l.flatMap Nd.cells)) (hu : w'.ownsRow base 51 6 u l.length (l.flatMap Nd.cells))
    (hdis : ∀ k ∈ ob wv', k ∉ ob ev') (hvf : ∀ k ∈ ob v, k ∉ fpOf A wv ev bv Ws Es Bs) (huf : ∀ k ∈ ob u, w.heap.size ≤ k) (hvl : ∀ k ∈ ob v, k < w.heap.size) :
    Inv w' A base sv lv m wv' ev' bv (Ws ++ [v]) (Es ++ [u]) (Ls ++ [l]) Bs := by
  have hab := h.hAb
  have hbs := h.hbs
  have keep : ∀ {x : Value} {e : TypeId} {sz n : Nat} {xs : List Value}, w.ownsRow base e sz x n xs → e ≠ 72 → w'.ownsRow base e sz x n xs := fun hx hne =>
    own_keep hx fun k hk' => hk k (own_in hx k hk').2 (by have := own_in hx k hk'; omega) (own_apart hx h.hW hne k hk') (own_apart hx h.hE hne k hk')
  have keepM : ∀ {x : Value} {n : Int}, Marked w base x n → Marked w' base x n := fun ⟨j, hj, hx⟩ => ⟨j, hj, keep hx (by decide)⟩
  have inW : ∀ k ∈ Ws.flatMap ob, k ∈ fpOf A wv ev bv Ws Es Bs := fun k hk' => by obtain ⟨x, hx, hk'⟩ := List.mem_flatMap.1 hk'; exact mem_fp_W hx hk'
  have inE : ∀ k ∈ Es.flatMap ob, k ∈ fpOf A wv ev bv Ws Es Bs := fun k hk' => by obtain ⟨x, hx, hk'⟩ := List.mem_flatMap.1 hk'; exact mem_fp_E hx hk'
  refine ⟨hA', hab, by omega, by simpa using hW', by simpa using hE', keep h.hB (by decide), by simp [h.len1], by simp [h.len2], ?_, ?_, hdis, ?_, ?_, ?_⟩
  · intro i h1 h2
    by_cases hi : i < Ws.length
    · have hi2 : i < Ls.length := by rw [← h.len1]; exact hi
      have := keep (h.owW i hi hi2) (by decide)
      simpa [List.getElem_append_left hi, List.getElem_append_left hi2] using this
    · have hi1 : i = Ws.length := by simp at h1; omega
      subst hi1
      have e1 : (Ws ++ [v])[Ws.length] = v := by simp
      have e2 : (Ls ++ [l])[Ws.length] = l := by simp [h.len1]
      rw [e1, e2]; exact hv
  · intro i h1 h2
    by_cases hi : i < Es.length
    · have hi2 : i < Ls.length := by rw [← h.len2]; exact hi
      have := keep (h.owE i hi hi2) (by decide)
      simpa [List.getElem_append_left hi, List.getElem_append_left hi2] using this
    · have hi1 : i = Es.length := by simp at h1; omega
      subst hi1
      have e1 : (Es ++ [u])[Es.length] = u := by simp
      have e2 : (Ls ++ [l])[Es.length] = l := by simp [h.len2]
      rw [e1, e2]; exact hu
  · simp only [List.flatMap_append, List.flatMap_cons, List.flatMap_nil, List.append_nil]
    rw [List.nodup_append]
    exact ⟨h.d2, ob_nodup v, fun a ha b hb e => hvf b hb (by rw [← e]; exact inW a ha)⟩
  · intro k hk1 hk2
    simp only [List.flatMap_append, List.flatMap_cons, List.flatMap_nil, List.append_nil, List.mem_append] at hk1 hk2
    rcases hk1 with hk1 | hk1
    · rcases hk2 with hk2 | hk2
      · exact h.d3 k hk1 hk2
      · have := (h.fp k (inW k hk1)).2; have := huf k hk2; omega
    · rcases hk2 with hk2 | hk2
      · exact hvf k hk1 (inE k hk2)
      · have := hvl k hk1; have := huf k hk2; omega
  · intro b hb
    obtain ⟨m0, m1, m2, m3, hq⟩ := h.bk b hb
    refine ⟨keepM m0, keepM m1, keepM m2, keepM m3, fun k hk1 hk2 => ?_⟩
    simp only [List.flatMap_append, List.flatMap_cons, List.flatMap_nil, List.append_nil, List.mem_append] at hk2
    rcases hk2 with hk2 | hk2
    · exact hq k hk1 hk2
    · exact hvf k hk2 (mem_fp_B hb hk1)
end
end Go.Proofs.YtogmdaopfnmobaaGreat

