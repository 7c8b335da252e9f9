/- What is said of rows of nodes, for all laws. -/
import Derived.Lib.SliceRun
import Derived.Test.YtogmdaopfnmobaaP09
import Derived.Test.YtogmdaopfnmobaaP02
import Derived.Test.YtogmdaopfnmobaaP05
namespace Go.Proofs.Ytogmdaopfnmobaa
open Go.RowKit

/-- A row of the call's own reads as its nodes. -/
theorem Nodes.own {w : World} {base : Nat} {v : Value} {l : List Nd} (h : w.ownsRow base 33 6 v l.length (l.flatMap Nd.cells)) (hl : l.length ≤ 1000) : Nodes w w.heap.size v l := by
  constructor
  have hfl : ∀ (l : List Nd) (i j : Nat) (hi : i < l.length) (hj : j < 6), (l.flatMap Nd.cells)[i * 6 + j]? = some ((l[i]).cells[j]'(by simp [Nd.cells]; omega)) := by
    intro l
    induction l with
    | nil => intro i j hi; simp at hi
    | cons d r ih =>
      intro i j hi hj
      have hd : d.cells.length = 6 := rfl
      cases i with
      | zero =>
        simp only [List.flatMap_cons, Nat.zero_mul, Nat.zero_add, List.getElem_cons_zero]
        rw [List.getElem?_append_left (by omega), List.getElem?_eq_getElem]
      | succ i =>
        simp only [List.flatMap_cons, List.getElem_cons_succ]
        rw [List.getElem?_append_right (by omega), hd, show (i + 1) * 6 + j - 6 = i * 6 + j from by omega]
        exact ih i j (by simpa using hi) hj
  rcases h.2 with ⟨rfl, h0⟩ | ⟨g, cap, cur, rfl, _, hg, _, _, _, ht⟩
  · exact ⟨none, 0, by rw [h0], by omega, fun i hi => by omega⟩
  · refine ⟨_, cap, rfl, by omega, fun i hi => ⟨g, 0, rfl, (Array.getElem?_eq_some_iff.1 hg).1, fun j hj => ?_⟩⟩
    have := h.cells (g := g) rfl (i * 6 + j) _ (hfl l i j hi hj)
    rw [← this]
    unfold Addr.add
    split
    · simp_all
    · simp

theorem Nodes.below {w w' : World} {B : Nat} {v : Value} {l : List Nd} (h : Nodes w B v l) (hb : Below B w w') : Nodes w' B v l := by
  obtain ⟨ao, cap, hv, hm, hc⟩ := h.ex
  refine ⟨ao, cap, hv, hm, fun i hi => ?_⟩
  obtain ⟨b, off, ha, hB, hcs⟩ := hc i hi
  exact ⟨b, off, ha, hB, fun j hj => (hb.cell (p := ⟨b, off + i * 6 + j, none⟩) hB).trans (hcs j hj)⟩
theorem Nodes.mono {w : World} {B B' : Nat} {v : Value} {l : List Nd} (h : Nodes w B v l) (hb : B ≤ B') : Nodes w B' v l := by
  obtain ⟨ao, cap, hv, hm, hc⟩ := h.ex
  refine ⟨ao, cap, hv, hm, fun i hi => ?_⟩
  obtain ⟨b, off, ha, hB, hcs⟩ := hc i hi
  exact ⟨b, off, ha, by omega, hcs⟩

theorem lawful_no (c s m x v : Int) (hv : v ∈ [c, s, m, x]) (h : v < 0 ∨ 34359738367 < v) : (isNum c && isNum s && isNum m && isNum x) = false := by
  have hf : isNum v = false := by
    cases e : isNum v
    · rfl
    · rw [isNum_iff] at e; omega
  simp only [List.mem_cons, List.not_mem_nil, or_false] at hv
  rcases hv with rfl | rfl | rfl | rfl <;> simp [hf]
theorem lawful_next (l : List Int) (k : Nat) (v : Int) (hk : l[k]? = some v) (ha : ∀ u ∈ l.take k, isNum u = true) (h0 : 0 ≤ v) (h1 : v ≤ 34359738367) : ∀ u ∈ l.take (k + 1), isNum u = true := by
  rw [List.take_add_one, hk]
  intro u hu
  rw [List.mem_append] at hu
  rcases hu with hu | hu
  · exact ha u hu
  · simp at hu; subst hu; rw [isNum_iff]; exact ⟨h0, h1⟩

theorem eqNd (d e : Nd) : eqN d.c d.s d.m d.x d.h.toNat d.g.toNat e.c e.s e.m e.x e.h.toNat e.g.toNat = true ↔ d = e := by
  rw [eqN_true]
  cases d; cases e
  simp only [Nd.mk.injEq, ← UInt8.toNat_inj]
  omega


def goodAt (l : List Nd) (k : Nat) : Bool := (l.take k).all Nd.ok
theorem goodAt_zero (l : List Nd) : goodAt l 0 = true := by simp [goodAt]
theorem goodAt_next (l : List Nd) (k : Nat) (h : k < l.length) : goodAt l (k + 1) = (goodAt l k && (l[k]).ok) := by
  unfold goodAt
  rw [take_snoc' l k h, List.all_append]
  simp
theorem goodAt_all (l : List Nd) : goodAt l l.length = l.all Nd.ok := by simp [goodAt]

theorem str_size (l : List UInt8) : (⟨l.toArray⟩ : ByteArray).size = l.length := by
  show l.toArray.size = _
  simp
theorem all_bad (l : List Nd) (h : l.all Nd.ok = false) : ∃ (j : Nat) (hj : j < l.length), (l[j]).ok = false := by
  rw [List.all_eq_false] at h
  obtain ⟨d, hd, hb⟩ := h
  obtain ⟨j, hj, e⟩ := List.getElem_of_mem hd
  exact ⟨j, hj, by rw [e]; simpa using hb⟩

end Go.Proofs.Ytogmdaopfnmobaa

/- Nodes, folds and rows as values and in memory: what the walks of the program and of the document share. -/
namespace Go.Proofs.Ytogmdaopfnmobaa
open Go.RowKit

theorem Six.alloc {w : World} {g : Nat} {c0 c1 c2 c3 c4 c5 : Value} (h : Six w g c0 c1 c2 c3 c4 c5) (o : Obj) : Six (w.alloc o) g c0 c1 c2 c3 c4 c5 := by
  unfold Six at h ⊢
  rw [Below.heap_alloc w o g (Array.getElem?_eq_some_iff.1 h).1]; exact h
/-- The end of a call whose one result is a node in memory. -/
theorem ret_node1 {w : World} {g : Nat} {c0 c1 c2 c3 c4 c5 : Value} {fn : Func} {R : Ending → World → Prop} {tmps : Array Value} {k : Nat} (hf : fn.results = #[.cell k 33]) (h : Six w g c0 c1 c2 c3 c4 c5)
    (h2 : tmps[k]? = some (.pointer (some ⟨g, 0, none⟩))) (hR : R (.returned (.agg #[c0, c1, c2, c3, c4, c5])) w) : bodyPost Try.prog fn R .ret ⟨tmps, []⟩ w := by
  obtain ⟨k0, k1, k2, k3, k4, k5⟩ := h.cells
  refine bodyPost_ret (v := .agg #[c0, c1, c2, c3, c4, c5]) ?_ rfl hR
  simp [results, hf, go_sem, h2, k0, k1, k2, k3, k4, k5]
theorem app_list (s t : ByteArray) : (s ++ t).data.toList = s.data.toList ++ t.data.toList := by simp
theorem size_list (s : ByteArray) : s.size = s.data.toList.length := rfl
theorem str_of {t : ByteArray} {l : List UInt8} (h : t.data.toList = l) : t = ⟨l.toArray⟩ := by
  subst h
  simp
theorem hf_is (n j : Nat) (h1 : 2 ^ j < n) (h2 : n ≤ 2 * 2 ^ j) : hf n = 2 ^ j := by
  have := Nat.two_pow_pos j
  have e : (n - 1).log2 = j := (Nat.log2_eq_iff (by omega)).2 ⟨by omega, by rw [Nat.pow_succ]; omega⟩
  rw [hf, e]
/-- A fold, as a value. -/
def foV (f : Fo) : Value := .agg #[.int .i64 f.c, .int .i64 f.s, .int .i64 f.m, .int .i64 f.x]
/-- A node, as a value. -/
def ndV (d : Nd) : Value := .agg #[.int .i64 d.c, .int .i64 d.s, .int .i64 d.m, .int .i64 d.x, .int .u8 (d.h.toNat : Int), .int .u8 (d.g.toNat : Int)]
theorem u8_div (t : List UInt8) : ((UInt8.ofNat (dg t / 256)).toNat : Int) = (dg t : Int) / 256 := by
  have := dg_lt t
  rw [UInt8.toNat_ofNat_of_lt' (by have : UInt8.size = 256 := rfl; omega)]; omega
theorem u8_mod (t : List UInt8) : ((UInt8.ofNat (dg t % 256)).toNat : Int) = (dg t : Int) % 256 := by
  rw [UInt8.toNat_ofNat_of_lt' (by have : UInt8.size = 256 := rfl; omega)]; omega
theorem ndV_mk (f : Fo) (t : List UInt8) : ndV (mkNd f t) = .agg #[.int .i64 f.c, .int .i64 f.s, .int .i64 f.m, .int .i64 f.x, .int .u8 ((dg t : Int) / 256), .int .u8 ((dg t : Int) % 256)] := by
  simp only [ndV, mkNd, u8_div, u8_mod]
theorem ndV_E : ndV .E = .agg #[.int .i64 0, .int .i64 0, .int .i64 0, .int .i64 0, .int .u8 1, .int .u8 77] := rfl
theorem eqN_E (d : Nd) : eqN d.c d.s d.m d.x d.h.toNat d.g.toNat 0 0 0 0 1 77 = decide (d = .E) := by
  by_cases h : d = .E
  · rw [h]; rfl
  · have := mt (Nd.isE_iff d).1 h
    simp only [Nd.isE, Bool.not_eq_true] at this
    rw [this]; simp [h]
theorem Six.at (w : World) (n : Nat) (hn : n = w.heap.size) (c0 c1 c2 c3 c4 c5 : Value) : Six (w.alloc (.cells #[c0, c1, c2, c3, c4, c5] 33)) n c0 c1 c2 c3 c4 c5 := by
  subst hn
  exact Six.new w c0 c1 c2 c3 c4 c5
theorem Six.eq {w : World} {g : Nat} {c0 c1 c2 c3 c4 c5 : Value} (h : Six w g c0 c1 c2 c3 c4 c5) : w.heap[g]? = some (.cells #[c0, c1, c2, c3, c4, c5] 33 (0, 0)) := h
/-- A slice whose elements are one cell each. -/
structure Cells1 (w : World) (B : Nat) (v : Value) (l : List Value) : Prop where
  ex : ∃ ao cap, v = .slice ao l.length cap ∧ ∀ (i : Nat) (hi : i < l.length), ∃ b off, ao = some ⟨b, off, none⟩ ∧ b < B ∧ w.cell? ⟨b, off + i, none⟩ = some l[i]
theorem Cells1.below {w w' : World} {B : Nat} {v : Value} {l : List Value} (h : Cells1 w B v l) (hb : Below B w w') : Cells1 w' B v l := by
  obtain ⟨ao, cap, hv, hc⟩ := h.ex
  refine ⟨ao, cap, hv, fun i hi => ?_⟩
  obtain ⟨b, off, ha, hB, hcs⟩ := hc i hi
  exact ⟨b, off, ha, hB, (hb.cell (p := ⟨b, off + i, none⟩) hB).trans hcs⟩
theorem Cells1.mono {w : World} {B B' : Nat} {v : Value} {l : List Value} (h : Cells1 w B v l) (hb : B ≤ B') : Cells1 w B' v l := by
  obtain ⟨ao, cap, hv, hc⟩ := h.ex
  refine ⟨ao, cap, hv, fun i hi => ?_⟩
  obtain ⟨b, off, ha, hB, hcs⟩ := hc i hi
  exact ⟨b, off, ha, by omega, hcs⟩
theorem Cells1.at {w : World} {B : Nat} {ao : Option Addr} {n cap : Nat} {l : List Value} (h : Cells1 w B (.slice ao n cap) l) (i : Nat) (u : Value) (hu : l[i]? = some u) : ∃ b off, ao = some ⟨b, off, none⟩ ∧ b < B ∧ w.cell? ⟨b, off + i, none⟩ = some u := by
  obtain ⟨ao', cap', hv, hc⟩ := h.ex
  simp at hv
  obtain ⟨hi, e⟩ := List.getElem?_eq_some_iff.1 hu
  obtain ⟨b, off, ha, hB, hcs⟩ := hc i hi
  exact ⟨b, off, by rw [hv.1]; exact ha, hB, by rw [hcs, e]⟩
/-- The text and the node of a place. -/
def lfText (tb : Bool) (i : Nat) (v : Int) : List UInt8 := if tb then 84 :: (num i ++ num v.toNat) else 76 :: num v.toNat
def lf (tb : Bool) (vs : List Int) (hs : List Bool) (i : Nat) : Nd := if hs.getD i false then mkNd (.one (vs.getD i 0)) (lfText tb i (vs.getD i 0)) else .E
/-- A node of at most n small values. -/
def bd (n : Nat) (d : Nd) : Prop := (0 ≤ d.c ∧ d.c ≤ n) ∧ (0 ≤ d.s ∧ d.s ≤ 1000000 * n) ∧ (0 ≤ d.m ∧ d.m ≤ 1000000) ∧ (0 ≤ d.x ∧ d.x ≤ 1000000)
theorem bd_E (n : Nat) : bd n .E := by refine ⟨⟨?_, ?_⟩, ⟨?_, ?_⟩, ⟨?_, ?_⟩, ⟨?_, ?_⟩⟩ <;> simp [Nd.E]; omega
theorem bd_mono {n m : Nat} {d : Nd} (h : bd n d) (hn : n ≤ m) : bd m d := by
  obtain ⟨⟨a, b⟩, ⟨c, e⟩, f, g⟩ := h
  exact ⟨⟨a, by omega⟩, ⟨c, by omega⟩, f, g⟩
theorem bd_ok {n : Nat} {d : Nd} (h : bd n d) (hn : n ≤ 1000) : d.ok = true := by
  obtain ⟨⟨a, b⟩, ⟨c, e⟩, ⟨f, g⟩, ⟨i, j⟩⟩ := h
  rw [Nd.ok_iff]
  simp only [isNum_iff]
  omega
theorem bd_ab {n m : Nat} {x y : Nd} (hx : bd n x) (hy : bd m y) : bd (n + m) (ab x y) := by
  obtain ⟨⟨a, b⟩, ⟨c, e⟩, ⟨f, g⟩, ⟨i, j⟩⟩ := hx
  obtain ⟨⟨a', b'⟩, ⟨c', e'⟩, ⟨f', g'⟩, ⟨i', j'⟩⟩ := hy
  rw [ab_eq]
  simp only [bd, mkNd, tog, Nd.fold]
  refine ⟨⟨by omega, by omega⟩, ⟨by omega, by omega⟩, ?_, ?_⟩
  · by_cases p : x.c = 0 <;> by_cases q : y.c = 0 <;> simp [p, q] <;> omega
  · by_cases p : x.c = 0 <;> by_cases q : y.c = 0 <;> simp [p, q] <;> omega
theorem tr_bd {lf : Nat → Nd} (h : ∀ i, bd 1 (lf i)) : ∀ (n a b : Nat), b - a ≤ n → bd (b - a) (tr lf a b) := by
  intro n
  induction n with
  | zero => intro a b hn; rw [tr_none lf a b (by omega)]; exact bd_E _
  | succ n ih =>
    intro a b hn
    by_cases h0 : b ≤ a
    · rw [tr_none lf a b h0]; exact bd_E _
    by_cases h1 : b < a + 2
    · obtain rfl : b = a + 1 := by omega
      rw [tr_one]; exact bd_mono (h a) (by omega)
    · have p := hf_pos (b - a)
      have q := hf_lt (b - a) (by omega)
      rw [tr_two lf a b (by omega)]
      exact bd_mono (bd_ab (ih a _ (by omega)) (ih _ b (by omega))) (by omega)
theorem bd_one (v : Int) (t : List UInt8) (h : 0 ≤ v ∧ v ≤ 1000000) : bd 1 (mkNd (.one v) t) := by
  refine ⟨⟨?_, ?_⟩, ⟨?_, ?_⟩, ⟨?_, ?_⟩, ⟨?_, ?_⟩⟩ <;> simp [mkNd, Fo.one] <;> omega
theorem lf_bd {tb : Bool} {vs : List Int} {hs : List Bool} (h : ∀ v ∈ vs, 0 ≤ v ∧ v ≤ 1000000) (i : Nat) : bd 1 (lf tb vs hs i) := by
  unfold lf
  split
  · refine bd_one _ _ ?_
    by_cases hi : i < vs.length
    · have := h _ (List.getElem_mem hi)
      simpa [hi] using this
    · simp [List.getElem?_eq_none (Nat.le_of_not_lt hi)]
  · exact bd_E _
theorem tr_ok {tb : Bool} {vs : List Int} {hs : List Bool} (h : ∀ v ∈ vs, 0 ≤ v ∧ v ≤ 1000000) (a b : Nat) (hb : b ≤ 1000) : (tr (lf tb vs hs) a b).ok = true := bd_ok (tr_bd (lf_bd h) (b - a) a b (Nat.le_refl _)) (by omega)
/-- The text of a head. -/
def hdText (n : Nat) (d : Nd) : List UInt8 := 72 :: (num n ++ d.bytes)
theorem cov_len (f t : Nat) : ∀ n a b, b - a ≤ n → 1 ≤ (cov a b f t).length ∧ (cov a b f t).length ≤ max 1 (b - a) := by
  intro n
  induction n with
  | zero => intro a b h; rw [cov, if_pos (by omega)]; simp; omega
  | succ n ih =>
    intro a b h
    by_cases hs : isOut a b f t = true ∨ isIn a b f t = true ∨ b < a + 2
    · rw [cov, if_pos hs]; simp; omega
    · rw [cov, if_neg hs]
      have p := hf_pos (b - a)
      have q := hf_lt (b - a) (by omega)
      have h1 := ih a (a + hf (b - a)) (by omega)
      have h2 := ih (a + hf (b - a)) b (by omega)
      rw [List.length_append]
      omega
def isVal (v : Int) : Bool := decide (0 ≤ v ∧ v ≤ 1000000)
theorem isVal_iff (v : Int) : isVal v = true ↔ 0 ≤ v ∧ v ≤ 1000000 := by simp [isVal]
theorem take_succ_sum (l : List Int) (k : Nat) (h : k < l.length) : (l.take (k + 1)).sum = (l.take k).sum + l[k] := by
  rw [List.take_succ_eq_append_getElem h, List.sum_append]; simp
theorem sum_bd (l : List Int) (h : ∀ v ∈ l, 0 ≤ v ∧ v ≤ 1000000) : 0 ≤ l.sum ∧ l.sum ≤ 1000000 * l.length := by
  induction l with
  | nil => simp
  | cons a r ih =>
    have h1 := h a (by simp)
    have h2 := ih fun v hv => h v (by simp [hv])
    simp only [List.sum_cons, List.length_cons]
    omega
/-- FoAt cells of a fold. -/
def FoAt (w : World) (g : Nat) (f : Fo) : Prop := w.heap[g]? = some (.cells #[.int .i64 f.c, .int .i64 f.s, .int .i64 f.m, .int .i64 f.x] 29 (0, 0))
theorem FoAt.cells {w : World} {g : Nat} {f : Fo} (h : FoAt w g f) : (w.cell? ⟨g, 0, none⟩ = some (.int .i64 f.c) ∧ w.cell? ⟨g, 1, none⟩ = some (.int .i64 f.s) ∧ w.cell? ⟨g, 2, none⟩ = some (.int .i64 f.m) ∧ w.cell? ⟨g, 3, none⟩ = some (.int .i64 f.x)) ∧ ∀ o, w.frozen? ⟨g, o, none⟩ = false := by
  unfold FoAt at h
  refine ⟨⟨?_, ?_, ?_, ?_⟩, fun o => by simp [World.frozen?, h]⟩ <;> rw [cell_of_row w g _ _ _ _ h] <;> rfl
theorem FoAt.below {w w' : World} {B g : Nat} {f : Fo} (h : FoAt w g f) (hb : Below B w w') (hg : g < B) : FoAt w' g f := (hb.block g hg).trans h
theorem FoAt.set {w : World} {g : Nat} {f : Fo} (h : FoAt w g f) (d : Fo) : FoAt ((((w.setCell ⟨g, 0, none⟩ (.int .i64 d.c)).setCell ⟨g, 1, none⟩ (.int .i64 d.s)).setCell ⟨g, 2, none⟩ (.int .i64 d.m)).setCell ⟨g, 3, none⟩ (.int .i64 d.x)) g d :=
  heap_set (k := 3) (heap_set (k := 2) (heap_set (k := 1) (heap_set (k := 0) h _) _) _) _
theorem FoAt.alloc {w : World} {g : Nat} {f : Fo} (h : FoAt w g f) (o : Obj) : FoAt (w.alloc o) g f := by
  unfold FoAt at h ⊢
  rw [Below.heap_alloc w o g (Array.getElem?_eq_some_iff.1 h).1]; exact h
theorem FoAt.at (w : World) (n : Nat) (hn : n = w.heap.size) (f : Fo) : FoAt (w.alloc (.cells #[.int .i64 f.c, .int .i64 f.s, .int .i64 f.m, .int .i64 f.x] 29)) n f := by
  subst hn; exact heap_alloc_new w _
theorem FoAt.far {w : World} {g b o : Nat} {f : Fo} {v : Value} (h : FoAt w g f) (hne : g ≠ b) : FoAt (w.setCell ⟨b, o, none⟩ v) g f := (Below.heap_setCell _ _ _ _ hne).trans h
theorem heap_alloc3 (w : World) (o0 o1 o2 : Obj) : (((w.alloc o0).alloc o1).alloc o2).heap[w.heap.size]? = some o0 := by
  rw [Below.heap_alloc _ _ _ (by simp; omega), Below.heap_alloc _ _ _ (by simp)]
  exact heap_alloc_new w o0
theorem ret_fold1 {w : World} {g : Nat} {f : Fo} {fn : Func} {R : Ending → World → Prop} {tmps : Array Value} {k : Nat} (hf : fn.results = #[.cell k 29]) (h : FoAt w g f)
    (h2 : tmps[k]? = some (.pointer (some ⟨g, 0, none⟩))) (hR : R (.returned (foV f)) w) : bodyPost Try.prog fn R .ret ⟨tmps, []⟩ w := by
  obtain ⟨⟨k0, k1, k2, k3⟩, _⟩ := h.cells
  refine bodyPost_ret (v := foV f) ?_ rfl hR
  simp [results, hf, go_sem, h2, k0, k1, k2, k3, foV]
theorem hid {p : Prop} (h : p) : Hid p := h
theorem FoAt.lt {w : World} {g : Nat} {f : Fo} (h : FoAt w g f) : g < w.heap.size := (Array.getElem?_eq_some_iff.1 h).1
theorem fv_bd {tb : Bool} {vs : List Int} {hs : List Bool} (h : ∀ v ∈ vs, 0 ≤ v ∧ v ≤ 1000000) (a n : Nat) : (0 ≤ (fv (lf tb vs hs) a n).c ∧ (fv (lf tb vs hs) a n).c ≤ n) ∧ (0 ≤ (fv (lf tb vs hs) a n).s ∧ (fv (lf tb vs hs) a n).s ≤ 1000000 * n) := by
  induction n with
  | zero => simp [fv, Fo.zero]
  | succ n ih =>
    obtain ⟨⟨a1, a2⟩, ⟨a3, a4⟩, _⟩ := lf_bd (tb := tb) (hs := hs) h (a + n)
    simp only [fv, tog, Nd.fold]
    omega
theorem lf_good {tb : Bool} {vs : List Int} {hs : List Bool} (i : Nat) : (lf tb vs hs i).fold.good := by
  unfold lf
  split
  · exact good_one _
  · exact good_zero
/-- The block that a slice has for its own. -/
def ob (v : Value) : List Nat := match v.ownBlock with | some k => [k] | none => []
theorem mem_ob {v : Value} {k : Nat} : k ∈ ob v ↔ v.ownBlock = some k := by
  unfold ob
  cases h : v.ownBlock <;> simp [eq_comm]
/-- What has turned: nothing outside these blocks. -/
structure Kept (w w' : World) (fp : List Nat) : Prop where
  os : w'.os = w.os
  tape : w'.tape = w.tape
  output : w'.output = w.output
  size : w.heap.size ≤ w'.heap.size
  block : ∀ k, k < w.heap.size → k ∉ fp → w'.heap[k]? = w.heap[k]?
theorem Kept.refl (w : World) (fp : List Nat) : Kept w w fp := ⟨rfl, rfl, rfl, Nat.le_refl _, fun _ _ _ => rfl⟩
theorem Kept.trans {w w1 w2 : World} {fp fp' : List Nat} (h : Kept w w1 fp) (k : Kept w1 w2 fp') (hf : ∀ x ∈ fp', x ∈ fp ∨ w.heap.size ≤ x) : Kept w w2 fp :=
  ⟨k.os.trans h.os, k.tape.trans h.tape, k.output.trans h.output, Nat.le_trans h.size k.size, fun i hi hn => (k.block i (Nat.lt_of_lt_of_le hi h.size) (fun c => by rcases hf i c with h1 | h1; exact hn h1; omega)).trans (h.block i hi hn)⟩
theorem Kept.of_below {w w' : World} (h : Below w.heap.size w w') (fp : List Nat) : Kept w w' fp := ⟨h.os, h.tape, h.output, h.size, fun k hk _ => h.block k hk⟩
theorem Kept.of_grown {w w' : World} {row : Option Nat} {fp : List Nat} (h : w.grownBy w' row) (hr : ∀ k, row = some k → k ∈ fp) : Kept w w' fp :=
  ⟨h.os, h.tape, h.output, h.size, fun k hk hn => h.block k hk (fun c => hn (hr k c.symm))⟩
theorem Kept.setCell {w w' : World} {fp : List Nat} (h : Kept w w' fp) {p : Addr} (hp : p.block ∈ fp ∨ w.heap.size ≤ p.block) (u : Value) : Kept w (w'.setCell p u) fp :=
  ⟨h.os, h.tape, h.output, by have := h.size; simpa [World.setCell] using this, fun k hk hn => (Below.heap_setCell _ _ _ _ (fun c => by subst c; rcases hp with h1 | h1; exact hn h1; omega)).trans (h.block k hk hn)⟩
theorem Kept.alloc {w w' : World} {fp : List Nat} (h : Kept w w' fp) (o : Obj) : Kept w (w'.alloc o) fp :=
  ⟨h.os, h.tape, h.output, by have := h.size; simp; omega, fun k hk hn => (Below.heap_alloc _ _ _ (by have := h.size; omega)).trans (h.block k hk hn)⟩
theorem Kept.drew {w w' : World} {fp : List Nat} (h : Kept w w' fp) : Kept w w'.drew fp := ⟨h.os, h.tape, h.output, h.size, h.block⟩
theorem Kept.below {w w' : World} {fp : List Nat} {B : Nat} (h : Kept w w' fp) (hB : B ≤ w.heap.size) (hf : ∀ k ∈ fp, B ≤ k) : Below B w w' :=
  ⟨h.os, h.tape, h.output, h.size, fun k hk => h.block k (by omega) (fun c => by have := hf k c; omega)⟩
/-- An own row stays where its block stays. -/
theorem own_keep {w w' : World} {base : Nat} {e : TypeId} {sz n : Nat} {v : Value} {xs : List Value} (h : w.ownsRow base e sz v n xs) (hb : ∀ k ∈ ob v, w'.heap[k]? = w.heap[k]?) : w'.ownsRow base e sz v n xs := by
  refine ⟨h.1, ?_⟩
  rcases h.2 with hn | ⟨g, cap, cur, rfl, hg, hgg, rest⟩
  · exact .inl hn
  · exact .inr ⟨g, cap, cur, rfl, hg, by rw [hb g (by simp [ob, Value.ownBlock])]; exact hgg, rest⟩
theorem own_in {w : World} {base : Nat} {e : TypeId} {sz n : Nat} {v : Value} {xs : List Value} (h : w.ownsRow base e sz v n xs) : ∀ k ∈ ob v, base ≤ k ∧ k < w.heap.size := fun k hk => h.lt k (mem_ob.1 hk)
theorem Six.far {w : World} {g b o : Nat} {c0 c1 c2 c3 c4 c5 v : Value} (h : Six w g c0 c1 c2 c3 c4 c5) (hne : g ≠ b) : Six (w.setCell ⟨b, o, none⟩ v) g c0 c1 c2 c3 c4 c5 := by
  unfold Six at h ⊢
  rw [Below.heap_setCell w ⟨b, o, none⟩ v g hne]; exact h
theorem own_mono {w : World} {base base' : Nat} {e : TypeId} {sz n : Nat} {v : Value} {xs : List Value} (h : w.ownsRow base e sz v n xs) (hb : base' ≤ base) : w.ownsRow base' e sz v n xs := by
  refine ⟨h.1, ?_⟩
  rcases h.2 with hn | ⟨g, cap, cur, hv, hg, rest⟩
  · exact .inl hn
  · exact .inr ⟨g, cap, cur, hv, by omega, rest⟩

end Go.Proofs.Ytogmdaopfnmobaa

/- The statements' own helpers (notarykeep): value, pick. -/
namespace Go.Proofs.Ytogmdaopfnmobaa
open Go.RowKit

/-- A number that is not negative. -/
def up (c : Int) : Int := if c < 0 then -(c + 1) else c
theorem up_nn (c : Int) : 0 ≤ up c := by unfold up; split <;> omega
theorem ret_intK {k : IntKind} {a b : Int} (h : a = b) : Ending.returned (.int k a) = .returned (.int k b) := by rw [h]
set_option maxHeartbeats 1000000 in
theorem kpick_any (c : Int) (n : Nat) (w : World) (hn : 0 < n) (hn2 : n ≤ 20000000) (hc : -9223372036854775808 ≤ c ∧ c ≤ 9223372036854775807) : Calls Try.prog 14 #[.int .i64 c, .int .i64 n] w fun e w' => e = .returned (.int .i64 (up c % n)) ∧ w' = w := by
  have hn0 : (n : Int) ≠ 0 := by omega
  have hn1 : (1 : Int) ≤ n := by omega
  by_cases h0 : c < 0
  · have hd : (0 : Int) ≤ -(c + 1) := by omega
    have HE : Hid (up c = -(c + 1)) := hid (by unfold up; rw [if_pos h0])
    have w1 : IntKind.i64.wrap (c + 1) = c + 1 := by rw [IntKind.wrap_i64]; omega
    have w2 : IntKind.i64.wrap (-(c + 1)) = -(c + 1) := by rw [IntKind.wrap_i64]; omega
    have HM := hid (Int.tmod_eq_emod_of_nonneg (b := (n : Int)) hd)
    have hm1 := Int.emod_nonneg (-(c + 1)) hn0
    have hm2 := Int.emod_lt_of_pos (-(c + 1)) (b := (n : Int)) (by omega)
    go_enter Try.func14, Try.ntmps14
    go_wp2
    go_ret
    exact ⟨ret_intK (by rw [HE.out, ← HM.out, Int.neg_tmod]), rfl⟩
  · have HE : Hid (up c = c) := hid (by unfold up; rw [if_neg h0])
    have hm1 := Int.emod_nonneg c hn0
    have hm2 := Int.emod_lt_of_pos c (b := (n : Int)) (by omega)
    go_enter Try.func14, Try.ntmps14
    go_wp2
    go_ret
    exact ⟨ret_intK (by rw [HE.out]), rfl⟩
set_option maxHeartbeats 1000000 in
theorem kvalue_any (c : Int) (w : World) (hc : -9223372036854775808 ≤ c ∧ c ≤ 9223372036854775807) : Calls Try.prog 24 #[.int .i64 c] w fun e w' => e = .returned (.int .i64 (up c % 70000)) ∧ w' = w := by
  by_cases h0 : c < 0
  · have hd : (0 : Int) ≤ -(c + 1) := by omega
    have HE : Hid (up c = -(c + 1)) := hid (by unfold up; rw [if_pos h0])
    have w1 : IntKind.i64.wrap (c + 1) = c + 1 := by rw [IntKind.wrap_i64]; omega
    have w2 : IntKind.i64.wrap (-(c + 1)) = -(c + 1) := by rw [IntKind.wrap_i64]; omega
    have HM := hid (Int.tmod_eq_emod_of_nonneg (b := (70000 : Int)) hd)
    have hm1 := Int.emod_nonneg (-(c + 1)) (b := (70000 : Int)) (by decide)
    have hm2 := Int.emod_lt_of_pos (-(c + 1)) (b := (70000 : Int)) (by decide)
    go_enter Try.func24, Try.ntmps24
    go_wp2
    go_ret
    exact ⟨ret_intK (by rw [HE.out, ← HM.out, Int.neg_tmod]), rfl⟩
  · have HE : Hid (up c = c) := hid (by unfold up; rw [if_neg h0])
    have hm1 := Int.emod_nonneg c (b := (70000 : Int)) (by decide)
    have hm2 := Int.emod_lt_of_pos c (b := (70000 : Int)) (by decide)
    go_enter Try.func24, Try.ntmps24
    go_wp2
    go_ret
    exact ⟨ret_intK (by rw [HE.out]), rfl⟩

end Go.Proofs.Ytogmdaopfnmobaa

/- The statements' own sums (notarykeep), as mathematics: what adding and comparing tell of some values. -/
namespace Go.Proofs.Ytogmdaopfnmobaa
open Go.RowKit

/-- The fold of some values, by adding and comparing. -/
def foA (l : List Int) : Fo := l.foldl (fun f v => tog f (.one v)) .zero
theorem foA_app (l : List Int) (v : Int) : foA (l ++ [v]) = tog (foA l) (.one v) := by simp [foA]
theorem foA_next (l : List Int) (k : Nat) (h : k < l.length) : foA (l.take (k + 1)) = tog (foA (l.take k)) (.one l[k]) := by
  rw [List.take_succ_eq_append_getElem h, foA_app]
/-- What is sure of the fold of some small values. -/
structure FoB (n : Nat) (f : Fo) : Prop where
  c : f.c = n
  s : 0 ≤ f.s ∧ f.s ≤ 1000000 * n
  m : 0 ≤ f.m ∧ f.m ≤ 1000000
  x : 0 ≤ f.x ∧ f.x ≤ 1000000
theorem FoB.next {n : Nat} {f : Fo} (h : FoB n f) (v : Int) (hv : 0 ≤ v ∧ v ≤ 1000000) : FoB (n + 1) (tog f (.one v)) := by
  obtain ⟨h1, h2, h3, h4⟩ := h
  refine ⟨by simp [tog, Fo.one]; omega, by simp [tog, Fo.one]; omega, ?_, ?_⟩
  · have e : (tog f (.one v)).m = if f.c = 0 then v else min f.m v := by simp [tog, Fo.one]
    rw [e]; split <;> omega
  · have e : (tog f (.one v)).x = if f.c = 0 then v else max f.x v := by simp [tog, Fo.one]
    rw [e]; split <;> omega
theorem foA_bd (l : List Int) (h : ∀ v ∈ l, 0 ≤ v ∧ v ≤ 1000000) : FoB l.length (foA l) := by
  suffices H : ∀ k, k ≤ l.length → FoB k (foA (l.take k)) by simpa using H l.length (Nat.le_refl _)
  intro k
  induction k with
  | zero => intro _; exact ⟨by simp [foA, Fo.zero], by simp [foA, Fo.zero], by simp [foA, Fo.zero], by simp [foA, Fo.zero]⟩
  | succ k ih => intro hk; rw [foA_next l k hk]; exact (ih (by omega)).next _ (h _ (List.getElem_mem hk))
/-- One step of adding and comparing. -/
theorem tog_first (f : Fo) (v : Int) (h : f.c = 0) (hs : f.s = 0) : tog f (.one v) = ⟨1, v, v, v⟩ := by simp [tog, Fo.one, h, hs]
theorem tog_later (f : Fo) (v : Int) (h : f.c ≠ 0) : tog f (.one v) = ⟨f.c + 1, f.s + v, if v < f.m then v else f.m, if f.x < v then v else f.x⟩ := by
  have e1 : min f.m v = if v < f.m then v else f.m := by split <;> omega
  have e2 : max f.x v = if f.x < v then v else f.x := by split <;> omega
  simp [tog, Fo.one, h, e1, e2]
/-- A raw number as a small value. -/
def vl (x : Int) : Int := up x % 70000
theorem vl_bd (x : Int) : 0 ≤ vl x ∧ vl x < 70000 := by unfold vl; have := up_nn x; omega
theorem vl_same {x : Int} (h : 0 ≤ x ∧ x < 70000) : vl x = x := by unfold vl up; rw [if_neg (by omega)]; omega
/-- The values that logged appends. -/
def lgd (xs : List Int) : List Int := (xs.take 64).map vl
theorem lgd_len (xs : List Int) : (lgd xs).length = min 64 xs.length := by simp [lgd]
theorem lgd_bd (xs : List Int) : ∀ v ∈ lgd xs, 0 ≤ v ∧ v < 70000 := by
  intro v hv
  obtain ⟨x, _, rfl⟩ := List.mem_map.1 hv
  exact vl_bd x
theorem lgd_same {l : List Int} (h : ∀ v ∈ l, 0 ≤ v ∧ v < 70000) (hl : l.length ≤ 64) : lgd l = l := by
  rw [lgd, List.take_of_length_le hl]
  exact (List.map_congr_left fun v hv => vl_same (h v hv)).trans (List.map_id _)
theorem sum_small (l : List Int) (h : ∀ v ∈ l, 0 ≤ v ∧ v < 70000) : 0 ≤ l.sum ∧ l.sum ≤ 69999 * l.length := by
  induction l with
  | nil => simp
  | cons a r ih =>
    have h1 := h a (by simp)
    have h2 := ih fun v hv => h v (by simp [hv])
    simp only [List.sum_cons, List.length_cons]
    omega

end Go.Proofs.Ytogmdaopfnmobaa

/- Blocks that were just laid. -/
namespace Go.Proofs.Ytogmdaopfnmobaa
open Go.RowKit

theorem heap_two (w : World) (o1 o2 : Obj) (n : Nat) (hn : n = w.heap.size) : ((w.alloc o1).alloc o2).heap[n]? = some o1 := by
  subst hn
  rw [Below.heap_alloc _ _ _ (by simp)]
  exact heap_alloc_new w o1
theorem heap_one (w : World) (o1 : Obj) (n : Nat) (hn : n = w.heap.size) : (w.alloc o1).heap[n]? = some o1 := by
  subst hn
  exact heap_alloc_new w o1
theorem heap_three (w : World) (o1 o2 o3 : Obj) (n : Nat) (hn : n = w.heap.size) : (((w.alloc o1).alloc o2).alloc o3).heap[n]? = some o1 := by
  subst hn
  exact heap_alloc3 w o1 o2 o3

end Go.Proofs.Ytogmdaopfnmobaa

/- A store as mathematics: what its calls answer, and what they leave of it. -/
namespace Go.Proofs.Ytogmdaopfnmobaa
open Go.RowKit

/-- A store: its log, its table. -/
structure Sto where
  l : List Int
  t : List (Option Int)
structure Sto.ok (s : Sto) : Prop where
  val : ∀ v ∈ s.l, 0 ≤ v ∧ v ≤ 1000000
  len : s.l.length ≤ 64
  tval : ∀ v, some v ∈ s.t → 0 ≤ v ∧ v ≤ 1000000
  tlen : s.t.length = 32
def Sto.empty : Sto := ⟨[], List.replicate 32 none⟩
theorem Sto.empty_ok : Sto.empty.ok := ⟨by simp [Sto.empty], by simp [Sto.empty], by simp [Sto.empty], by simp [Sto.empty]⟩
def tv (t : List (Option Int)) : List Int := t.map (·.getD 0)
def tx (t : List (Option Int)) : List Bool := t.map (·.isSome)
theorem tv_val {s : Sto} (h : s.ok) : ∀ v ∈ tv s.t, 0 ≤ v ∧ v ≤ 1000000 := by
  intro v hv
  obtain ⟨o, ho, rfl⟩ := List.mem_map.1 hv
  cases o with
  | none => simp
  | some x => exact h.tval x ho

/-- What Append answers. -/
def apE (s : Sto) (v : Int) : Int := if isVal v then if 64 ≤ s.l.length then 2 else if 5000000 < s.l.sum + v then 3 else 0 else 1
def apS (s : Sto) (v : Int) : Sto := if apE s v = 0 then ⟨s.l ++ [v], s.t⟩ else s
theorem apS_ok {s : Sto} (h : s.ok) (v : Int) : (apS s v).ok := by
  unfold apS
  split
  · rename_i he
    have hv : isVal v = true := by
      cases hb : isVal v with
      | true => rfl
      | false => simp [apE, hb] at he
    have hl : ¬ 64 ≤ s.l.length := by intro hc; simp [apE, hv, hc] at he
    rw [isVal_iff] at hv
    refine ⟨fun x hx => ?_, by simp; omega, h.tval, h.tlen⟩
    rcases List.mem_append.1 hx with hx | hx
    · exact h.val x hx
    · simp at hx; subst hx; exact hv
  · exact h

theorem info_int : (Try.prog.info? 3).map (fun i => (i.zero, i.size, i.bytes)) = some (some (.int .i64 0), 1, 8) := by kernel_rfl
def tsum (t : List (Option Int)) : Int := (tv t).sum
def tat (t : List (Option Int)) (k : Nat) : Option Int := t.getD k none
/-- What Set and Delete answer. -/
def seE (s : Sto) (k v : Int) : Int := if 0 ≤ k ∧ k < 32 then if isVal v then if 5000000 < tsum s.t - (tat s.t k.toNat).getD 0 + v then 3 else 0 else 1 else 4
def seS (s : Sto) (k v : Int) : Sto := if seE s k v = 0 then ⟨s.l, s.t.set k.toNat (some v)⟩ else s
def deE (s : Sto) (k : Int) : Int := if 0 ≤ k ∧ k < 32 ∧ (tat s.t k.toNat).isSome then 0 else 4
def deS (s : Sto) (k : Int) : Sto := if deE s k = 0 then ⟨s.l, s.t.set k.toNat none⟩ else s
theorem mem_set_opt {t : List (Option Int)} {i : Nat} {o x : Option Int} (h : x ∈ t.set i o) : x ∈ t ∨ x = o := by
  obtain ⟨j, hj, rfl⟩ := List.getElem_of_mem h
  rw [List.getElem_set]
  split
  · exact .inr rfl
  · exact .inl (List.getElem_mem _)
theorem seS_ok {s : Sto} (h : s.ok) (k v : Int) : (seS s k v).ok := by
  unfold seS
  split
  · rename_i he
    have hv : isVal v = true := by
      cases hb : isVal v with
      | true => rfl
      | false => unfold seE at he; split at he <;> simp [hb] at he
    rw [isVal_iff] at hv
    refine ⟨h.val, h.len, fun x hx => ?_, by simp; exact h.tlen⟩
    rcases mem_set_opt hx with hx | hx
    · exact h.tval x hx
    · simp at hx; subst hx; exact hv
  · exact h
theorem deS_ok {s : Sto} (h : s.ok) (k : Int) : (deS s k).ok := by
  unfold deS
  split
  · refine ⟨h.val, h.len, fun x hx => ?_, by simp; exact h.tlen⟩
    rcases mem_set_opt hx with hx | hx
    · exact h.tval x hx
    · simp at hx
  · exact h
theorem tv_set (t : List (Option Int)) (i : Nat) (o : Option Int) : tv (t.set i o) = (tv t).set i (o.getD 0) := by simp [tv, List.map_set]
theorem tx_set (t : List (Option Int)) (i : Nat) (o : Option Int) : tx (t.set i o) = (tx t).set i o.isSome := by simp [tx, List.map_set]
theorem tv_at (t : List (Option Int)) (i : Nat) (h : i < t.length) (h' : i < ((tv t).map (Value.int .i64)).length) : ((tv t).map (Value.int .i64))[i] = .int .i64 ((tat t i).getD 0) := by
  simp [tv, tat, h]
theorem tx_at (t : List (Option Int)) (i : Nat) (h : i < t.length) (h' : i < ((tx t).map Value.bool).length) : ((tx t).map Value.bool)[i] = .bool (tat t i).isSome := by
  simp [tx, tat, h]

theorem ret_head2 {w : World} {g : Nat} {c0 c1 c2 v : Value} {fn : Func} {R : Ending → World → Prop} {tmps : Array Value} {k j : Nat} (hf : fn.results = #[.cell k 44, .tmp j]) (h : w.heap[g]? = some (.cells #[c0, c1, c2] 44 (0, 0)))
    (h2 : tmps[k]? = some (.pointer (some ⟨g, 0, none⟩))) (h3 : tmps[j]? = some v) (hR : R (.returned (.tuple #[.agg #[c0, c1, c2], v])) w) : bodyPost Try.prog fn R .ret ⟨tmps, []⟩ w := by
  have k0 : w.cell? ⟨g, 0, none⟩ = some c0 := by rw [cell_of_row w _ _ _ _ _ h]; rfl
  have k1 : w.cell? ⟨g, 1, none⟩ = some c1 := by rw [cell_of_row w _ _ _ _ _ h]; rfl
  have k2 : w.cell? ⟨g, 2, none⟩ = some c2 := by rw [cell_of_row w _ _ _ _ _ h]; rfl
  refine bodyPost_ret (v := .tuple #[.agg #[c0, c1, c2], v]) ?_ rfl hR
  simp [results, hf, go_sem, h2, h3, k0, k1, k2]

/-- A head and an error, as they come out. -/
def headV (n : Nat) (d : Nat) : Value := .tuple #[.agg #[.int .i64 n, .int .u8 ((d : Int) / 256), .int .u8 ((d : Int) % 256)], .int .i64 0]
def noHead : Value := .tuple #[.agg #[.int .i64 0, .int .u8 0, .int .u8 0], .int .i64 5]
/-- The nodes of a cover's parts. -/
def cn (lf : Nat → Nd) (l : List Sp) : List Nd := l.map fun p => tr lf p.a p.b
theorem cn_next (lf : Nat → Nd) (l : List Sp) (k : Nat) (h : k < l.length) (p : Sp) (hp : p = l[k]) : cn lf (l.take (k + 1)) = cn lf (l.take k) ++ [tr lf p.a p.b] := by
  subst hp
  rw [List.take_succ_eq_append_getElem h]
  simp only [cn, List.map_append, List.map_cons, List.map_nil]
theorem cn_len (lf : Nat → Nd) (l : List Sp) : (cn lf l).length = l.length := by simp [cn]

theorem cov_in (f t : Nat) : ∀ (n a b : Nat), b - a ≤ n → a ≤ b → ∀ p ∈ cov a b f t, a ≤ p.a ∧ p.a ≤ p.b ∧ p.b ≤ b := by
  intro n
  induction n with
  | zero =>
    intro a b hn hab p hp
    rw [cov, if_pos (by omega)] at hp
    simp at hp; subst hp; exact ⟨Nat.le_refl _, hab, Nat.le_refl _⟩
  | succ n ih =>
    intro a b hn hab p hp
    by_cases hs : isOut a b f t = true ∨ isIn a b f t = true ∨ b < a + 2
    · rw [cov, if_pos hs] at hp
      simp at hp; subst hp; exact ⟨Nat.le_refl _, hab, Nat.le_refl _⟩
    · rw [cov, if_neg hs] at hp
      have x := hf_pos (b - a)
      have y := hf_lt (b - a) (by omega)
      rcases List.mem_append.1 hp with hp | hp
      · have := ih a (a + hf (b - a)) (by omega) (by omega) p hp; omega
      · have := ih (a + hf (b - a)) b (by omega) (by omega) p hp; omega

/-- The proof's nodes, and the bytes that Ask tells. -/
def prfN (tb : Bool) (vs : List Int) (hs : List Bool) (f t : Nat) : List Nd := cn (lf tb vs hs) (cov 0 vs.length f t)
def prfB (tb : Bool) (vs : List Int) (hs : List Bool) (f t : Nat) : ByteArray := ⟨(marks (prfN tb vs hs f t)).toArray⟩
theorem prf_len (tb : Bool) (vs : List Int) (hs : List Bool) (f t : Nat) (h : vs.length ≤ 64) : (prfN tb vs hs f t).length ≤ 64 := by
  rw [prfN, cn_len]
  have := (cov_len f t vs.length 0 vs.length (by omega)).2
  omega
theorem prf_ok (tb : Bool) (vs : List Int) (hs : List Bool) (f t : Nat) (h : vs.length ≤ 64) (hv : ∀ v ∈ vs, 0 ≤ v ∧ v ≤ 1000000) : (prfN tb vs hs f t).all Nd.ok = true := by
  rw [List.all_eq_true]
  intro d hd
  obtain ⟨p, hp, rfl⟩ := List.mem_map.1 hd
  have := cov_in f t vs.length 0 vs.length (by omega) (by omega) p hp
  exact tr_ok hv p.a p.b (by omega)

theorem ret_fold3 {w : World} {g : Nat} {f : Fo} {x y : Value} {fn : Func} {R : Ending → World → Prop} {tmps : Array Value} {k i j : Nat} (hf : fn.results = #[.cell k 29, .tmp i, .tmp j]) (h : FoAt w g f)
    (h2 : tmps[k]? = some (.pointer (some ⟨g, 0, none⟩))) (h3 : tmps[i]? = some x) (h4 : tmps[j]? = some y) (hR : R (.returned (.tuple #[foV f, x, y])) w) : bodyPost Try.prog fn R .ret ⟨tmps, []⟩ w := by
  obtain ⟨⟨k0, k1, k2, k3⟩, _⟩ := h.cells
  refine bodyPost_ret (v := .tuple #[foV f, x, y]) ?_ rfl hR
  simp [results, hf, go_sem, h2, h3, h4, k0, k1, k2, k3, foV]
def askV (f : Fo) (b : ByteArray) : Value := .tuple #[foV f, .string b, .int .i64 0]
def noAsk : Value := .tuple #[foV .zero, .string ⟨#[]⟩, .int .i64 5]


end Go.Proofs.Ytogmdaopfnmobaa

/- The statements' own helpers (notarykeep): fold, other. -/
namespace Go.Proofs.Ytogmdaopfnmobaa
open Go.RowKit

theorem fo_eq {w : World} {g : Nat} {f d : Fo} (h : FoAt w g f) (e : f = d) : FoAt w g d := e ▸ h
theorem FoAt.heap {w : World} {g : Nat} {f : Fo} (h : FoAt w g f) : w.heap[g]? = some (.cells #[.int .i64 f.c, .int .i64 f.s, .int .i64 f.m, .int .i64 f.x] 29 (0, 0)) := h
theorem FoAt.set0 {w : World} {g : Nat} {c s m x v : Int} (h : FoAt w g ⟨c, s, m, x⟩) : FoAt (w.setCell ⟨g, 0, none⟩ (.int .i64 v)) g ⟨v, s, m, x⟩ := by
  unfold FoAt at h ⊢; rw [heap_set h]; rfl
theorem FoAt.set1 {w : World} {g : Nat} {c s m x v : Int} (h : FoAt w g ⟨c, s, m, x⟩) : FoAt (w.setCell ⟨g, 1, none⟩ (.int .i64 v)) g ⟨c, v, m, x⟩ := by
  unfold FoAt at h ⊢; rw [heap_set h]; rfl
theorem FoAt.set2 {w : World} {g : Nat} {c s m x v : Int} (h : FoAt w g ⟨c, s, m, x⟩) : FoAt (w.setCell ⟨g, 2, none⟩ (.int .i64 v)) g ⟨c, s, v, x⟩ := by
  unfold FoAt at h ⊢; rw [heap_set h]; rfl
theorem FoAt.set3 {w : World} {g : Nat} {c s m x v : Int} (h : FoAt w g ⟨c, s, m, x⟩) : FoAt (w.setCell ⟨g, 3, none⟩ (.int .i64 v)) g ⟨c, s, m, v⟩ := by
  unfold FoAt at h ⊢; rw [heap_set h]; rfl
theorem FoAt.drew {w : World} {g : Nat} {f : Fo} (h : FoAt w g f) : FoAt w.drew g f := h

set_option maxHeartbeats 4000000 in
set_option maxRecDepth 100000 in
theorem fold_any (v : Value) (l : List Int) (w : World) (hl : Cells1 w w.heap.size v (l.map (.int .i64))) (hv : ∀ x ∈ l, 0 ≤ x ∧ x ≤ 1000000) (h64 : l.length ≤ 64) :
    Calls Try.prog 17 #[v] w fun e w' => e = .returned (foV (foA l)) ∧ Below w.heap.size w w' := by
  obtain ⟨ao, cap, rfl, hc⟩ := hl.ex
  simp only [List.length_map] at hc ⊢
  clear hl
  have HV := hid hv
  clear hv
  go_enter Try.func17, Try.ntmps17
  go_wp2
  go_loopw [4] (fun i wr => ∃ k : Nat, k ≤ l.length ∧ i = .int .i64 k ∧ FoAt wr (w.heap.size + 1) (foA (l.take k)) ∧ Hid (FoAt wr w.heap.size .zero) ∧ Hid (Below w.heap.size w wr)) (fun i _ => l.length - (intOf i).toNat)
  case atStart => exact ⟨0, Nat.zero_le _, rfl, FoAt.at _ _ (by simp) .zero, hid ((FoAt.at w _ rfl .zero).alloc _), hid (((Below.refl _ _).alloc (Nat.le_refl _) _).alloc (by simp) _)⟩
  case round =>
    obtain ⟨k, hk, rfl, hF, HR, HB⟩ := hrel
    by_cases hlt : k < l.length
    · obtain ⟨b, off, rfl, hbB, hcs⟩ := hc k (by simpa using hlt)
      have hx := HV.out _ (List.getElem_mem hlt)
      have HN := hid (foA_next l k hlt)
      have hbd : FoB k (foA (l.take k)) := by
        have := foA_bd (l.take k) (fun x hx => HV.out x (List.mem_of_mem_take hx))
        rwa [List.length_take, Nat.min_eq_left hk] at this
      have hcx : wr.cell? ⟨b, off + k, none⟩ = some (.int .i64 l[k]) := by
        have := (HB.out.cell (p := ⟨b, off + k, none⟩) hbB).trans hcs
        simpa using this
      generalize l[k] = x at HN hx hcx
      generalize foA (l.take k) = f at hF HN hbd
      obtain ⟨c, s, m, y⟩ := f
      obtain ⟨b1, b2, b3, b4⟩ := hbd
      simp only at b1 b2 b3 b4
      subst b1
      obtain ⟨⟨f0, f1, f2, f3⟩, hfz⟩ := hF.cells
      have HF := hid hF
      have hne : b ≠ w.heap.size + 1 := by omega
      clear hcs hc hF
      have HZ : ∀ o u, Hid (∀ w', FoAt w' w.heap.size .zero → FoAt (w'.setCell ⟨w.heap.size + 1, o, none⟩ u) w.heap.size .zero) := fun o u => hid fun w' h => h.far (by omega)
      by_cases h0 : k = 0
      · have hk0 : ((k : Int) == 0) = true := by simp [h0]
        have hcx0 : wr.cell? ⟨b, off, none⟩ = some (.int .i64 x) := by simpa [h0] using hcx
        obtain rfl : s = 0 := by subst h0; simp at b2; omega
        have f00 : wr.cell? ⟨w.heap.size + 1, 0, none⟩ = some (.int .i64 0) := by simpa [h0] using f0
        have HN1 := hid (tog_first ⟨k, 0, m, y⟩ x (by simp [h0]) rfl)
        clear hcx f0
        go_wp2
        all_goals go_roundw
        case rel =>
          refine ⟨1, by omega, rfl, fo_eq HF.out.set2.set3.set0.set1 (by have := HN.out; rw [HN1.out, h0] at this; simpa using this.symm), hid ?_, hid ?_⟩
          · exact (HZ _ _).out _ ((HZ _ _).out _ ((HZ _ _).out _ ((HZ _ _).out _ HR.out)))
          · repeat (refine Below.setCell ?_ (by simp) _)
            exact HB.out
        case measure => simp [intOf, h0]; omega
      · have hk0 : ((k : Int) == 0) = false := by simpa using h0
        have HN1 := hid (tog_later ⟨k, s, m, y⟩ x (by simpa using h0))
        simp only at HN1
        by_cases h1 : x < m
        · by_cases h2 : y < x
          · have HS : Hid (foA (l.take (k + 1)) = ⟨k + 1, s + x, x, x⟩) := hid (by rw [HN.out, HN1.out, if_pos h1, if_pos h2])
            go_wp2
            go_roundw
            case rel =>
              refine ⟨k + 1, by omega, by push_cast; rfl, fo_eq HF.out.set2.set3.set0.set1 HS.out.symm, hid ?_, hid ?_⟩
              · exact ((HZ _ _).out _ ((HZ _ _).out _ ((HZ _ _).out _ ((HZ _ _).out _ HR.out))))
              · repeat (refine Below.setCell ?_ (by simp) _)
                exact HB.out
            case measure => simp [intOf]; omega
          · have HS : Hid (foA (l.take (k + 1)) = ⟨k + 1, s + x, x, y⟩) := hid (by rw [HN.out, HN1.out, if_pos h1, if_neg h2])
            go_wp2
            go_roundw
            case rel =>
              refine ⟨k + 1, by omega, by push_cast; rfl, fo_eq HF.out.set2.set0.set1 HS.out.symm, hid ?_, hid ?_⟩
              · exact ((HZ _ _).out _ ((HZ _ _).out _ ((HZ _ _).out _ HR.out)))
              · repeat (refine Below.setCell ?_ (by simp) _)
                exact HB.out
            case measure => simp [intOf]; omega
        · by_cases h2 : y < x
          · have HS : Hid (foA (l.take (k + 1)) = ⟨k + 1, s + x, m, x⟩) := hid (by rw [HN.out, HN1.out, if_neg h1, if_pos h2])
            go_wp2
            go_roundw
            case rel =>
              refine ⟨k + 1, by omega, by push_cast; rfl, fo_eq HF.out.set3.set0.set1 HS.out.symm, hid ?_, hid ?_⟩
              · exact ((HZ _ _).out _ ((HZ _ _).out _ ((HZ _ _).out _ HR.out)))
              · repeat (refine Below.setCell ?_ (by simp) _)
                exact HB.out
            case measure => simp [intOf]; omega
          · have HS : Hid (foA (l.take (k + 1)) = ⟨k + 1, s + x, m, y⟩) := hid (by rw [HN.out, HN1.out, if_neg h1, if_neg h2])
            go_wp2
            go_roundw
            case rel =>
              refine ⟨k + 1, by omega, by push_cast; rfl, fo_eq HF.out.set0.set1 HS.out.symm, hid ?_, hid ?_⟩
              · exact ((HZ _ _).out _ ((HZ _ _).out _ HR.out))
              · repeat (refine Below.setCell ?_ (by simp) _)
                exact HB.out
            case measure => simp [intOf]; omega
    · have hkl : k = l.length := by omega
      subst hkl
      rw [List.take_length] at hF
      obtain ⟨hcf, hfz⟩ := hF.cells
      obtain ⟨hcr, hfr⟩ := HR.out.cells
      clear hF
      go_wp2
      refine ret_fold1 Try.results17 (HR.out.set (foA l)) rfl ⟨rfl, ?_⟩
      repeat (refine Below.setCell ?_ (by simp) _)
      exact HB.out

/-- A fold that is not f. -/
def oth (f : Fo) (n : Int) : Fo := if up n % 4 = 0 then ⟨f.c + 1, f.s, f.m, f.x⟩ else if up n % 4 = 1 then ⟨f.c, f.s + 1, f.m, f.x⟩ else if up n % 4 = 2 then ⟨f.c, f.s, f.m + 1, f.x⟩ else ⟨f.c, f.s, f.m, f.x + 1⟩
theorem oth_ne (f : Fo) (n : Int) : f ≠ oth f n := by
  intro h
  unfold oth at h
  split at h
  · have := congrArg Fo.c h; simp at this; omega
  · split at h
    · have := congrArg Fo.s h; simp at this; omega
    · split at h
      · have := congrArg Fo.m h; simp at this; omega
      · have := congrArg Fo.x h; simp at this; omega
set_option maxHeartbeats 4000000 in
set_option maxRecDepth 100000 in
theorem other_any (c s m x : Int) (n : Int) (w : World) (hn : -9223372036854775808 ≤ n ∧ n ≤ 9223372036854775807) (b1 : 0 ≤ c ∧ c ≤ 1000000000) (b2 : 0 ≤ s ∧ s ≤ 1000000000) (b3 : 0 ≤ m ∧ m ≤ 1000000000) (b4 : 0 ≤ x ∧ x ≤ 1000000000) :
    Calls Try.prog 19 #[.agg #[.int .i64 c, .int .i64 s, .int .i64 m, .int .i64 x], .int .i64 n] w fun e w' => e = .returned (foV (oth ⟨c, s, m, x⟩ n)) ∧ Below w.heap.size w w' := by
  have HP : ∀ w', Hid (Calls Try.prog 14 #[.int .i64 n, .int .i64 4] w' fun e w2 => e = .returned (.int .i64 (up n % 4)) ∧ w2 = w') := fun w' => hid (kpick_any n 4 w' (by decide) (by decide) hn)
  have hu := up_nn n
  obtain ⟨q, hq⟩ : ∃ q, q = up n % 4 := ⟨_, rfl⟩
  have hq4 : q = 0 ∨ q = 1 ∨ q = 2 ∨ q = 3 := by omega
  have HO : Hid (oth ⟨c, s, m, x⟩ n = if q = 0 then ⟨c + 1, s, m, x⟩ else if q = 1 then ⟨c, s + 1, m, x⟩ else if q = 2 then ⟨c, s, m + 1, x⟩ else ⟨c, s, m, x + 1⟩) := hid (by rw [hq]; rfl)
  rw [← hq] at HP
  clear hu hq hn
  rcases hq4 with rfl | rfl | rfl | rfl
  · have HE : Hid (oth ⟨c, s, m, x⟩ n = ⟨c + 1, s, m, x⟩) := hid (by rw [HO.out]; rfl)
    clear HO
    go_enter Try.func19, Try.ntmps19
    go_wp2_with (go_at_call 14; refine (HP _).out.mono ?_; rintro e w1 ⟨rfl, hw1⟩; rw [hw1]; clear hw1 w1)
    exact ret_fold1 Try.results19 (FoAt.at (w.alloc _) _ (by simp) ⟨c + 1, s, m, x⟩) rfl ⟨by rw [HE.out], ((Below.refl _ _).alloc (Nat.le_refl _) _).alloc (by simp) _⟩
  · have HE : Hid (oth ⟨c, s, m, x⟩ n = ⟨c, s + 1, m, x⟩) := hid (by rw [HO.out]; rfl)
    clear HO
    go_enter Try.func19, Try.ntmps19
    go_wp2_with (go_at_call 14; refine (HP _).out.mono ?_; rintro e w1 ⟨rfl, hw1⟩; rw [hw1]; clear hw1 w1)
    exact ret_fold1 Try.results19 (FoAt.at (w.alloc _) _ (by simp) ⟨c, s + 1, m, x⟩) rfl ⟨by rw [HE.out], ((Below.refl _ _).alloc (Nat.le_refl _) _).alloc (by simp) _⟩
  · have HE : Hid (oth ⟨c, s, m, x⟩ n = ⟨c, s, m + 1, x⟩) := hid (by rw [HO.out]; rfl)
    clear HO
    go_enter Try.func19, Try.ntmps19
    go_wp2_with (go_at_call 14; refine (HP _).out.mono ?_; rintro e w1 ⟨rfl, hw1⟩; rw [hw1]; clear hw1 w1)
    exact ret_fold1 Try.results19 (FoAt.at (w.alloc _) _ (by simp) ⟨c, s, m + 1, x⟩) rfl ⟨by rw [HE.out], ((Below.refl _ _).alloc (Nat.le_refl _) _).alloc (by simp) _⟩
  · have HE : Hid (oth ⟨c, s, m, x⟩ n = ⟨c, s, m, x + 1⟩) := hid (by rw [HO.out]; rfl)
    clear HO
    go_enter Try.func19, Try.ntmps19
    go_wp2_with (go_at_call 14; refine (HP _).out.mono ?_; rintro e w1 ⟨rfl, hw1⟩; rw [hw1]; clear hw1 w1)
    exact ret_fold1 Try.results19 (FoAt.at (w.alloc _) _ (by simp) ⟨c, s, m, x + 1⟩) rfl ⟨by rw [HE.out], ((Below.refl _ _).alloc (Nat.le_refl _) _).alloc (by simp) _⟩

end Go.Proofs.Ytogmdaopfnmobaa

/- What lawful, same and knows do. -/
namespace Go.Proofs.Ytogmdaopfnmobaa
open Go.RowKit

attribute [local go_sem ↓] run_eql_node run_neq_node


set_option maxHeartbeats 1000000 in
set_option maxRecDepth 100000 in
theorem lawful_any (c s m x h g : Int) (w : World) (b : Bool) (hb : (isNum c && isNum s && isNum m && isNum x) = b) :
    Calls Try.prog 10 #[.agg #[.int .i64 c, .int .i64 s, .int .i64 m, .int .i64 x, .int .u8 h, .int .u8 g]] w fun e w' => e = .returned (.bool b) ∧ Below w.heap.size w w' := by
  have fin : ∀ o1 o2, Below w.heap.size w ((w.alloc o1).alloc o2) := fun o1 o2 => ((Below.refl _ _).alloc (Nat.le_refl _) _).alloc (by simp) _
  go_enter Try.func10, Try.ntmps10
  go_wp2
  go_loop [4] (fun i => ∃ k : Nat, k ≤ 4 ∧ i = .int .i64 k ∧ Hid (∀ v ∈ [c, s, m, x].take k, isNum v = true)) (fun i => 4 - (intOf i).toNat)
  case atStart => exact ⟨0, by omega, rfl, by simp [Hid]⟩
  case round =>
    obtain ⟨k, hk, rfl, HA⟩ := hrel
    by_cases hlt : k < 4
    · have hkk : k = 0 ∨ k = 1 ∨ k = 2 ∨ k = 3 := by omega
      rcases hkk with rfl | rfl | rfl | rfl
      · by_cases h0 : c < 0
        · go_wp2
          go_ret
          exact ⟨by rw [← hb, lawful_no c s m x c (by simp) (.inl h0)]; rfl, fin _ _⟩
        · by_cases h1 : 34359738367 < c
          · go_wp2
            go_ret
            exact ⟨by rw [← hb, lawful_no c s m x c (by simp) (.inr h1)]; rfl, fin _ _⟩
          · go_wp2
            go_round
            case rel => exact ⟨1, by omega, rfl, lawful_next [c, s, m, x] 0 c (by simp) HA.out (by omega) (by omega)⟩
            case measure => simp [intOf]
      · by_cases h0 : s < 0
        · go_wp2
          go_ret
          exact ⟨by rw [← hb, lawful_no c s m x s (by simp) (.inl h0)]; rfl, fin _ _⟩
        · by_cases h1 : 34359738367 < s
          · go_wp2
            go_ret
            exact ⟨by rw [← hb, lawful_no c s m x s (by simp) (.inr h1)]; rfl, fin _ _⟩
          · go_wp2
            go_round
            case rel => exact ⟨2, by omega, rfl, lawful_next [c, s, m, x] 1 s (by simp) HA.out (by omega) (by omega)⟩
            case measure => simp [intOf]
      · by_cases h0 : m < 0
        · go_wp2
          go_ret
          exact ⟨by rw [← hb, lawful_no c s m x m (by simp) (.inl h0)]; rfl, fin _ _⟩
        · by_cases h1 : 34359738367 < m
          · go_wp2
            go_ret
            exact ⟨by rw [← hb, lawful_no c s m x m (by simp) (.inr h1)]; rfl, fin _ _⟩
          · go_wp2
            go_round
            case rel => exact ⟨3, by omega, rfl, lawful_next [c, s, m, x] 2 m (by simp) HA.out (by omega) (by omega)⟩
            case measure => simp [intOf]
      · by_cases h0 : x < 0
        · go_wp2
          go_ret
          exact ⟨by rw [← hb, lawful_no c s m x x (by simp) (.inl h0)]; rfl, fin _ _⟩
        · by_cases h1 : 34359738367 < x
          · go_wp2
            go_ret
            exact ⟨by rw [← hb, lawful_no c s m x x (by simp) (.inr h1)]; rfl, fin _ _⟩
          · go_wp2
            go_round
            case rel => exact ⟨4, by omega, rfl, lawful_next [c, s, m, x] 3 x (by simp) HA.out (by omega) (by omega)⟩
            case measure => simp [intOf]
    · have hk4 : k = 4 := by omega
      subst hk4
      have HB : Hid (b = true) := by
        rw [← hb]
        have h := HA.out
        simp at h
        show (isNum c && isNum s && isNum m && isNum x) = true
        simp [h]
      go_wp2
      go_ret
      exact ⟨by rw [HB.out]; rfl, fin _ _⟩

set_option maxHeartbeats 1000000 in
set_option maxRecDepth 100000 in
theorem same_any (v v2 : Value) (l l2 : List Nd) (w : World) (h1 : Nodes w w.heap.size v l) (h2 : Nodes w w.heap.size v2 l2) (he : l = l2) :
    Calls Try.prog 12 #[v, v2] w fun e w' => e = .returned (.bool true) ∧ Below w.heap.size w w' := by
  subst he
  obtain ⟨ao, cap, rfl, hmax, hc1⟩ := h1.ex
  obtain ⟨ao2, cap2, rfl, _, hc2⟩ := h2.ex
  clear h1 h2
  go_enter Try.func12, Try.ntmps12
  go_wp2
  go_loopw [5] (fun i wr => ∃ k : Nat, k ≤ l.length ∧ i = .int .i64 k ∧ Below w.heap.size w wr) (fun i _ => l.length - (intOf i).toNat)
  case atStart => exact ⟨0, Nat.zero_le _, rfl, Below.refl _ _⟩
  case round =>
    obtain ⟨k, hk, rfl, hb⟩ := hrel
    by_cases hlt : k < l.length
    · obtain ⟨b, off, rfl, hbB, hcs⟩ := hc1 k hlt
      obtain ⟨b', off', rfl, hbB', hcs'⟩ := hc2 k hlt
      obtain ⟨d, hd⟩ : ∃ d, d = l[k] := ⟨_, rfl⟩
      rw [← hd] at hcs hcs'
      obtain ⟨k0, k1, k2, k3, k4, k5⟩ := six hb hbB hcs
      obtain ⟨j0, j1, j2, j3, j4, j5⟩ := six hb hbB' hcs'
      have heq := (eqNd d d).2 rfl
      clear hd hcs hcs' hc1 hc2
      go_wp2
      go_quiet (fail)
      go_wp2
      go_roundw
      case rel => exact ⟨k + 1, by omega, by go_num, hb.trans ((below_drewN wr nq).mono hb.size)⟩
      case measure => simp [intOf]; omega
    · go_wp2
      go_ret
      exact ⟨rfl, hb⟩

theorem nodes_lit (w : World) : Nodes (w.alloc (.cells #[.int .i64 1, .int .i64 300, .int .i64 0, .int .i64 300, .int .u8 7, .int .u8 8] 33)) (w.heap.size + 1) (.slice (some ⟨w.heap.size, 0, none⟩) 1 1) [⟨1, 300, 0, 300, 7, 8⟩] := by
  refine ⟨_, 1, rfl, by simp, fun i hi => ⟨w.heap.size, 0, rfl, by omega, fun j hj => ?_⟩⟩
  have hi0 : i = 0 := by simp at hi; exact hi
  subst hi0
  rw [cell_of_row _ _ _ _ _ _ (heap_alloc_new w _)]
  match j, hj with
  | 0, _ => rfl
  | 1, _ => rfl
  | 2, _ => rfl
  | 3, _ => rfl
  | 4, _ => rfl
  | 5, _ => rfl

set_option maxHeartbeats 1000000 in
set_option maxRecDepth 100000 in
theorem knows_any (w : World) : Calls Try.prog 8 #[] w fun e w' => e = .returned (.bool true) ∧ Below w.heap.size w w' := by
  have HK := Write_any _ _ _ ((nodes_lit w).mono (by simp : w.heap.size + 1 ≤ (w.alloc (.cells #[.int .i64 1, .int .i64 300, .int .i64 0, .int .i64 300, .int .u8 7, .int .u8 8] 33)).heap.size))
  have h1 : writeB [⟨1, 300, 0, 300, 7, 8⟩] = [1, 1, 172, 2, 0, 172, 2, 7, 8] := by decide
  have h2 : writeE [⟨1, 300, 0, 300, 7, 8⟩] = 0 := by decide
  rw [h1, h2] at HK
  clear h1 h2
  go_enter Try.func8, Try.ntmps8
  go_wp2_with fail
  refine HK.mono ?_
  rintro e w1 ⟨rfl, hb⟩
  have hB : Below w.heap.size w w1 := ((Below.refl _ _).alloc (Nat.le_refl _) _).trans (hb.mono (by simp))
  clear HK hb
  go_wp2
  go_ret
  exact ⟨rfl, hB⟩

end Go.Proofs.Ytogmdaopfnmobaa

