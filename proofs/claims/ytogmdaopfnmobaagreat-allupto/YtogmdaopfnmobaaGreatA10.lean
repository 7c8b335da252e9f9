/- What is said of rows of nodes, for all laws. -/
import Derived.Lib.SliceRun
import Derived.Test.YtogmdaopfnmobaaGreatA09
import Derived.Test.YtogmdaopfnmobaaGreatA02
namespace Go.Proofs.YtogmdaopfnmobaaGreat
open Go.RowKit
theorem Nodes.own {w : World} {base : Nat} {v : Value} {l : List Nd} (h : w.ownsRow base 51 6 v l.length (l.flatMap Nd.cells)) (hl : l.length ≤ 1000) : Nodes w w.heap.size v l := by
  constructor
  have hfl : ∀ (l : List Nd) (i j : Nat) (hi : i < l.length) (hj : j < 6), (l.flatMap Nd.cells)[i * 6 + j]? = some ((l[i]).cells[j]'(by simp [Nd.cells]; omega)) := by
    intro l
    induction l with
    | nil => intro i j hi; simp at hi
    | cons d r ih =>
      intro i j hi hj
      have hd : d.cells.length = 6 := rfl
      cases i with
      | zero =>
        simp only [List.flatMap_cons, Nat.zero_mul, Nat.zero_add, List.getElem_cons_zero]
        rw [List.getElem?_append_left (by omega), List.getElem?_eq_getElem]
      | succ i =>
        simp only [List.flatMap_cons, List.getElem_cons_succ]
        rw [List.getElem?_append_right (by omega), hd, show (i + 1) * 6 + j - 6 = i * 6 + j from by omega]
        exact ih i j (by simpa using hi) hj
  rcases h.2 with ⟨rfl, h0⟩ | ⟨g, cap, cur, rfl, _, hg, _, _, _, ht⟩
  · exact ⟨none, 0, by rw [h0], by omega, fun i hi => by omega⟩
  · refine ⟨_, cap, rfl, by omega, fun i hi => ⟨g, 0, rfl, (Array.getElem?_eq_some_iff.1 hg).1, fun j hj => ?_⟩⟩
    have := h.cells (g := g) rfl (i * 6 + j) _ (hfl l i j hi hj)
    rw [← this]
    unfold Addr.add
    split
    · simp_all
    · simp
theorem Nodes.below {w w' : World} {B : Nat} {v : Value} {l : List Nd} (h : Nodes w B v l) (hb : Below B w w') : Nodes w' B v l := by
  obtain ⟨ao, cap, hv, hm, hc⟩ := h.ex
  refine ⟨ao, cap, hv, hm, fun i hi => ?_⟩
  obtain ⟨b, off, ha, hB, hcs⟩ := hc i hi
  exact ⟨b, off, ha, hB, fun j hj => (hb.cell (p := ⟨b, off + i * 6 + j, none⟩) hB).trans (hcs j hj)⟩
theorem Nodes.mono {w : World} {B B' : Nat} {v : Value} {l : List Nd} (h : Nodes w B v l) (hb : B ≤ B') : Nodes w B' v l := by
  obtain ⟨ao, cap, hv, hm, hc⟩ := h.ex
  refine ⟨ao, cap, hv, hm, fun i hi => ?_⟩
  obtain ⟨b, off, ha, hB, hcs⟩ := hc i hi
  exact ⟨b, off, ha, by omega, hcs⟩
theorem eqNd (d e : Nd) : eqN d.c d.s d.m d.x d.h.toNat d.g.toNat e.c e.s e.m e.x e.h.toNat e.g.toNat = true ↔ d = e := by
  rw [eqN_true]
  cases d; cases e
  simp only [Nd.mk.injEq, ← UInt8.toNat_inj]
  omega
end Go.Proofs.YtogmdaopfnmobaaGreat

/- Nodes, folds and rows as values and in memory: what the walks of the program and of the document share. -/
namespace Go.Proofs.YtogmdaopfnmobaaGreat
open Go.RowKit
theorem Six.alloc {w : World} {g : Nat} {c0 c1 c2 c3 c4 c5 : Value} (h : Six w g c0 c1 c2 c3 c4 c5) (o : Obj) : Six (w.alloc o) g c0 c1 c2 c3 c4 c5 := by
  unfold Six at h ⊢
  rw [Below.heap_alloc w o g (Array.getElem?_eq_some_iff.1 h).1]; exact h
theorem ret_node1 {w : World} {g : Nat} {c0 c1 c2 c3 c4 c5 : Value} {fn : Func} {R : Ending → World → Prop} {tmps : Array Value} {k : Nat} (hf : fn.results = #[.cell k 51]) (h : Six w g c0 c1 c2 c3 c4 c5)
    (h2 : tmps[k]? = some (.pointer (some ⟨g, 0, none⟩))) (hR : R (.returned (.agg #[c0, c1, c2, c3, c4, c5])) w) : bodyPost Tryz.prog fn R .ret ⟨tmps, []⟩ w := by
  obtain ⟨k0, k1, k2, k3, k4, k5⟩ := h.cells
  refine bodyPost_ret (v := .agg #[c0, c1, c2, c3, c4, c5]) ?_ rfl hR
  simp [results, hf, go_sem, h2, k0, k1, k2, k3, k4, k5]
theorem app_list (s t : ByteArray) : (s ++ t).data.toList = s.data.toList ++ t.data.toList := by simp
theorem size_list (s : ByteArray) : s.size = s.data.toList.length := rfl
theorem str_of {t : ByteArray} {l : List UInt8} (h : t.data.toList = l) : t = ⟨l.toArray⟩ := by
  subst h
  simp
theorem hf_is (n j : Nat) (h1 : 2 ^ j < n) (h2 : n ≤ 2 * 2 ^ j) : hf n = 2 ^ j := by
  have := Nat.two_pow_pos j
  have e : (n - 1).log2 = j := (Nat.log2_eq_iff (by omega)).2 ⟨by omega, by rw [Nat.pow_succ]; omega⟩
  rw [hf, e]
def foV (f : Fo) : Value := .agg #[.int .i64 f.c, .int .i64 f.s, .int .i64 f.m, .int .i64 f.x]
def ndV (d : Nd) : Value := .agg #[.int .i64 d.c, .int .i64 d.s, .int .i64 d.m, .int .i64 d.x, .int .u8 (d.h.toNat : Int), .int .u8 (d.g.toNat : Int)]
theorem u8_div (t : List UInt8) : ((UInt8.ofNat (dg t / 256)).toNat : Int) = (dg t : Int) / 256 := by
  have := dg_lt t
  rw [UInt8.toNat_ofNat_of_lt' (by have : UInt8.size = 256 := rfl; omega)]; omega
theorem u8_mod (t : List UInt8) : ((UInt8.ofNat (dg t % 256)).toNat : Int) = (dg t : Int) % 256 := by
  rw [UInt8.toNat_ofNat_of_lt' (by have : UInt8.size = 256 := rfl; omega)]; omega
theorem ndV_mk (f : Fo) (t : List UInt8) : ndV (mkNd f t) = .agg #[.int .i64 f.c, .int .i64 f.s, .int .i64 f.m, .int .i64 f.x, .int .u8 ((dg t : Int) / 256), .int .u8 ((dg t : Int) % 256)] := by
  simp only [ndV, mkNd, u8_div, u8_mod]
theorem ndV_E : ndV .E = .agg #[.int .i64 0, .int .i64 0, .int .i64 0, .int .i64 0, .int .u8 1, .int .u8 77] := rfl
theorem eqN_E (d : Nd) : eqN d.c d.s d.m d.x d.h.toNat d.g.toNat 0 0 0 0 1 77 = decide (d = .E) := by
  by_cases h : d = .E
  · rw [h]; rfl
  · have := mt (Nd.isE_iff d).1 h
    simp only [Nd.isE, Bool.not_eq_true] at this
    rw [this]; simp [h]
theorem Six.at (w : World) (n : Nat) (hn : n = w.heap.size) (c0 c1 c2 c3 c4 c5 : Value) : Six (w.alloc (.cells #[c0, c1, c2, c3, c4, c5] 51)) n c0 c1 c2 c3 c4 c5 := by
  subst hn
  exact Six.new w c0 c1 c2 c3 c4 c5
theorem Six.eq {w : World} {g : Nat} {c0 c1 c2 c3 c4 c5 : Value} (h : Six w g c0 c1 c2 c3 c4 c5) : w.heap[g]? = some (.cells #[c0, c1, c2, c3, c4, c5] 51 (0, 0)) := h
structure Cells1 (w : World) (B : Nat) (v : Value) (l : List Value) : Prop where
  ex : ∃ ao cap, v = .slice ao l.length cap ∧ ∀ (i : Nat) (hi : i < l.length), ∃ b off, ao = some ⟨b, off, none⟩ ∧ b < B ∧ w.cell? ⟨b, off + i, none⟩ = some l[i]
theorem Cells1.below {w w' : World} {B : Nat} {v : Value} {l : List Value} (h : Cells1 w B v l) (hb : Below B w w') : Cells1 w' B v l := by
  obtain ⟨ao, cap, hv, hc⟩ := h.ex
  refine ⟨ao, cap, hv, fun i hi => ?_⟩
  obtain ⟨b, off, ha, hB, hcs⟩ := hc i hi
  exact ⟨b, off, ha, hB, (hb.cell (p := ⟨b, off + i, none⟩) hB).trans hcs⟩
theorem Cells1.mono {w : World} {B B' : Nat} {v : Value} {l : List Value} (h : Cells1 w B v l) (hb : B ≤ B') : Cells1 w B' v l := by
  obtain ⟨ao, cap, hv, hc⟩ := h.ex
  refine ⟨ao, cap, hv, fun i hi => ?_⟩
  obtain ⟨b, off, ha, hB, hcs⟩ := hc i hi
  exact ⟨b, off, ha, by omega, hcs⟩
theorem Cells1.at {w : World} {B : Nat} {ao : Option Addr} {n cap : Nat} {l : List Value} (h : Cells1 w B (.slice ao n cap) l) (i : Nat) (u : Value) (hu : l[i]? = some u) : ∃ b off, ao = some ⟨b, off, none⟩ ∧ b < B ∧ w.cell? ⟨b, off + i, none⟩ = some u := by
  obtain ⟨ao', cap', hv, hc⟩ := h.ex
  simp at hv
  obtain ⟨hi, e⟩ := List.getElem?_eq_some_iff.1 hu
  obtain ⟨b, off, ha, hB, hcs⟩ := hc i hi
  exact ⟨b, off, by rw [hv.1]; exact ha, hB, by rw [hcs, e]⟩
def lfText (tb : Bool) (i : Nat) (v : Int) : List UInt8 := if tb then 84 :: (num i ++ num v.toNat) else 76 :: num v.toNat
def lf (tb : Bool) (vs : List Int) (hs : List Bool) (i : Nat) : Nd := if hs.getD i false then mkNd (.one (vs.getD i 0)) (lfText tb i (vs.getD i 0)) else .E
def bd (n : Nat) (d : Nd) : Prop := (0 ≤ d.c ∧ d.c ≤ n) ∧ (0 ≤ d.s ∧ d.s ≤ 1000000 * n) ∧ (0 ≤ d.m ∧ d.m ≤ 1000000) ∧ (0 ≤ d.x ∧ d.x ≤ 1000000)
theorem bd_E (n : Nat) : bd n .E := by refine ⟨⟨?_, ?_⟩, ⟨?_, ?_⟩, ⟨?_, ?_⟩, ⟨?_, ?_⟩⟩ <;> simp [Nd.E]; omega
theorem bd_mono {n m : Nat} {d : Nd} (h : bd n d) (hn : n ≤ m) : bd m d := by
  obtain ⟨⟨a, b⟩, ⟨c, e⟩, f, g⟩ := h
  exact ⟨⟨a, by omega⟩, ⟨c, by omega⟩, f, g⟩
theorem bd_ok {n : Nat} {d : Nd} (h : bd n d) (hn : n ≤ 1000) : d.ok = true := by
  obtain ⟨⟨a, b⟩, ⟨c, e⟩, ⟨f, g⟩, ⟨i, j⟩⟩ := h
  rw [Nd.ok_iff]
  simp only [isNum_iff]
  omega
theorem bd_ab {n m : Nat} {x y : Nd} (hx : bd n x) (hy : bd m y) : bd (n + m) (ab x y) := by
  obtain ⟨⟨a, b⟩, ⟨c, e⟩, ⟨f, g⟩, ⟨i, j⟩⟩ := hx
  obtain ⟨⟨a', b'⟩, ⟨c', e'⟩, ⟨f', g'⟩, ⟨i', j'⟩⟩ := hy
  rw [ab_eq]
  simp only [bd, mkNd, tog, Nd.fold]
  refine ⟨⟨by omega, by omega⟩, ⟨by omega, by omega⟩, ?_, ?_⟩
  · by_cases p : x.c = 0 <;> by_cases q : y.c = 0 <;> simp [p, q] <;> omega
  · by_cases p : x.c = 0 <;> by_cases q : y.c = 0 <;> simp [p, q] <;> omega
theorem tr_bd {lf : Nat → Nd} (h : ∀ i, bd 1 (lf i)) : ∀ (n a b : Nat), b - a ≤ n → bd (b - a) (tr lf a b) := by
  intro n
  induction n with
  | zero => intro a b hn; rw [tr_none lf a b (by omega)]; exact bd_E _
  | succ n ih =>
    intro a b hn
    by_cases h0 : b ≤ a
    · rw [tr_none lf a b h0]; exact bd_E _
    by_cases h1 : b < a + 2
    · obtain rfl : b = a + 1 := by omega
      rw [tr_one]; exact bd_mono (h a) (by omega)
    · have p := hf_pos (b - a)
      have q := hf_lt (b - a) (by omega)
      rw [tr_two lf a b (by omega)]
      exact bd_mono (bd_ab (ih a _ (by omega)) (ih _ b (by omega))) (by omega)
theorem bd_one (v : Int) (t : List UInt8) (h : 0 ≤ v ∧ v ≤ 1000000) : bd 1 (mkNd (.one v) t) := by
  refine ⟨⟨?_, ?_⟩, ⟨?_, ?_⟩, ⟨?_, ?_⟩, ⟨?_, ?_⟩⟩ <;> simp [mkNd, Fo.one] <;> omega
theorem lf_bd {tb : Bool} {vs : List Int} {hs : List Bool} (h : ∀ v ∈ vs, 0 ≤ v ∧ v ≤ 1000000) (i : Nat) : bd 1 (lf tb vs hs i) := by
  unfold lf
  split
  · refine bd_one _ _ ?_
    by_cases hi : i < vs.length
    · have := h _ (List.getElem_mem hi)
      simpa [hi] using this
    · simp [List.getElem?_eq_none (Nat.le_of_not_lt hi)]
  · exact bd_E _
theorem tr_ok {tb : Bool} {vs : List Int} {hs : List Bool} (h : ∀ v ∈ vs, 0 ≤ v ∧ v ≤ 1000000) (a b : Nat) (hb : b ≤ 1000) : (tr (lf tb vs hs) a b).ok = true := bd_ok (tr_bd (lf_bd h) (b - a) a b (Nat.le_refl _)) (by omega)
def hdText (n : Nat) (d : Nd) : List UInt8 := 72 :: (num n ++ d.bytes)
theorem cov_len (f t : Nat) : ∀ n a b, b - a ≤ n → 1 ≤ (cov a b f t).length ∧ (cov a b f t).length ≤ max 1 (b - a) := by
  intro n
  induction n with
  | zero => intro a b h; rw [cov, if_pos (by omega)]; simp; omega
  | succ n ih =>
    intro a b h
    by_cases hs : isOut a b f t = true ∨ isIn a b f t = true ∨ b < a + 2
    · rw [cov, if_pos hs]; simp; omega
    · rw [cov, if_neg hs]
      have p := hf_pos (b - a)
      have q := hf_lt (b - a) (by omega)
      have h1 := ih a (a + hf (b - a)) (by omega)
      have h2 := ih (a + hf (b - a)) b (by omega)
      rw [List.length_append]
      omega
def isVal (v : Int) : Bool := decide (0 ≤ v ∧ v ≤ 1000000)
theorem isVal_iff (v : Int) : isVal v = true ↔ 0 ≤ v ∧ v ≤ 1000000 := by simp [isVal]
theorem take_succ_sum (l : List Int) (k : Nat) (h : k < l.length) : (l.take (k + 1)).sum = (l.take k).sum + l[k] := by
  rw [List.take_succ_eq_append_getElem h, List.sum_append]; simp
theorem sum_bd (l : List Int) (h : ∀ v ∈ l, 0 ≤ v ∧ v ≤ 1000000) : 0 ≤ l.sum ∧ l.sum ≤ 1000000 * l.length := by
  induction l with
  | nil => simp
  | cons a r ih =>
    have h1 := h a (by simp)
    have h2 := ih fun v hv => h v (by simp [hv])
    simp only [List.sum_cons, List.length_cons]
    omega
def FoAt (w : World) (g : Nat) (f : Fo) : Prop := w.heap[g]? = some (.cells #[.int .i64 f.c, .int .i64 f.s, .int .i64 f.m, .int .i64 f.x] 47 (0, 0))
theorem FoAt.cells {w : World} {g : Nat} {f : Fo} (h : FoAt w g f) : (w.cell? ⟨g, 0, none⟩ = some (.int .i64 f.c) ∧ w.cell? ⟨g, 1, none⟩ = some (.int .i64 f.s) ∧ w.cell? ⟨g, 2, none⟩ = some (.int .i64 f.m) ∧ w.cell? ⟨g, 3, none⟩ = some (.int .i64 f.x)) ∧ ∀ o, w.frozen? ⟨g, o, none⟩ = false := by
  unfold FoAt at h
  refine ⟨⟨?_, ?_, ?_, ?_⟩, fun o => by simp [World.frozen?, h]⟩ <;> rw [cell_of_row w g _ _ _ _ h] <;> rfl
theorem FoAt.below {w w' : World} {B g : Nat} {f : Fo} (h : FoAt w g f) (hb : Below B w w') (hg : g < B) : FoAt w' g f := (hb.block g hg).trans h
theorem FoAt.set {w : World} {g : Nat} {f : Fo} (h : FoAt w g f) (d : Fo) : FoAt ((((w.setCell ⟨g, 0, none⟩ (.int .i64 d.c)).setCell ⟨g, 1, none⟩ (.int .i64 d.s)).setCell ⟨g, 2, none⟩ (.int .i64 d.m)).setCell ⟨g, 3, none⟩ (.int .i64 d.x)) g d :=
  heap_set (k := 3) (heap_set (k := 2) (heap_set (k := 1) (heap_set (k := 0) h _) _) _) _
theorem FoAt.alloc {w : World} {g : Nat} {f : Fo} (h : FoAt w g f) (o : Obj) : FoAt (w.alloc o) g f := by
  unfold FoAt at h ⊢
  rw [Below.heap_alloc w o g (Array.getElem?_eq_some_iff.1 h).1]; exact h
theorem FoAt.at (w : World) (n : Nat) (hn : n = w.heap.size) (f : Fo) : FoAt (w.alloc (.cells #[.int .i64 f.c, .int .i64 f.s, .int .i64 f.m, .int .i64 f.x] 47)) n f := by
  subst hn; exact heap_alloc_new w _
theorem FoAt.far {w : World} {g b o : Nat} {f : Fo} {v : Value} (h : FoAt w g f) (hne : g ≠ b) : FoAt (w.setCell ⟨b, o, none⟩ v) g f := (Below.heap_setCell _ _ _ _ hne).trans h
theorem heap_alloc3 (w : World) (o0 o1 o2 : Obj) : (((w.alloc o0).alloc o1).alloc o2).heap[w.heap.size]? = some o0 := by
  rw [Below.heap_alloc _ _ _ (by simp; omega), Below.heap_alloc _ _ _ (by simp)]
  exact heap_alloc_new w o0
theorem ret_fold1 {w : World} {g : Nat} {f : Fo} {fn : Func} {R : Ending → World → Prop} {tmps : Array Value} {k : Nat} (hf : fn.results = #[.cell k 47]) (h : FoAt w g f)
    (h2 : tmps[k]? = some (.pointer (some ⟨g, 0, none⟩))) (hR : R (.returned (foV f)) w) : bodyPost Tryz.prog fn R .ret ⟨tmps, []⟩ w := by
  obtain ⟨⟨k0, k1, k2, k3⟩, _⟩ := h.cells
  refine bodyPost_ret (v := foV f) ?_ rfl hR
  simp [results, hf, go_sem, h2, k0, k1, k2, k3, foV]
theorem hid {p : Prop} (h : p) : Hid p := h
theorem FoAt.lt {w : World} {g : Nat} {f : Fo} (h : FoAt w g f) : g < w.heap.size := (Array.getElem?_eq_some_iff.1 h).1
theorem fv_bd {tb : Bool} {vs : List Int} {hs : List Bool} (h : ∀ v ∈ vs, 0 ≤ v ∧ v ≤ 1000000) (a n : Nat) : (0 ≤ (fv (lf tb vs hs) a n).c ∧ (fv (lf tb vs hs) a n).c ≤ n) ∧ (0 ≤ (fv (lf tb vs hs) a n).s ∧ (fv (lf tb vs hs) a n).s ≤ 1000000 * n) := by
  induction n with
  | zero => simp [fv, Fo.zero]
  | succ n ih =>
    obtain ⟨⟨a1, a2⟩, ⟨a3, a4⟩, _⟩ := lf_bd (tb := tb) (hs := hs) h (a + n)
    simp only [fv, tog, Nd.fold]
    omega
theorem lf_good {tb : Bool} {vs : List Int} {hs : List Bool} (i : Nat) : (lf tb vs hs i).fold.good := by
  unfold lf
  split
  · exact good_one _
  · exact good_zero
def ob (v : Value) : List Nat := match v.ownBlock with | some k => [k] | none => []
theorem mem_ob {v : Value} {k : Nat} : k ∈ ob v ↔ v.ownBlock = some k := by
  unfold ob
  cases h : v.ownBlock <;> simp [eq_comm]
structure Kept (w w' : World) (fp : List Nat) : Prop where
  os : w'.os = w.os
  tape : w'.tape = w.tape
  output : w'.output = w.output
  size : w.heap.size ≤ w'.heap.size
  block : ∀ k, k < w.heap.size → k ∉ fp → w'.heap[k]? = w.heap[k]?
theorem Kept.refl (w : World) (fp : List Nat) : Kept w w fp := ⟨rfl, rfl, rfl, Nat.le_refl _, fun _ _ _ => rfl⟩
theorem Kept.trans {w w1 w2 : World} {fp fp' : List Nat} (h : Kept w w1 fp) (k : Kept w1 w2 fp') (hf : ∀ x ∈ fp', x ∈ fp ∨ w.heap.size ≤ x) : Kept w w2 fp :=
  ⟨k.os.trans h.os, k.tape.trans h.tape, k.output.trans h.output, Nat.le_trans h.size k.size, fun i hi hn => (k.block i (Nat.lt_of_lt_of_le hi h.size) (fun c => by rcases hf i c with h1 | h1; exact hn h1; omega)).trans (h.block i hi hn)⟩
theorem Kept.of_below {w w' : World} (h : Below w.heap.size w w') (fp : List Nat) : Kept w w' fp := ⟨h.os, h.tape, h.output, h.size, fun k hk _ => h.block k hk⟩
theorem Kept.of_grown {w w' : World} {row : Option Nat} {fp : List Nat} (h : w.grownBy w' row) (hr : ∀ k, row = some k → k ∈ fp) : Kept w w' fp :=
  ⟨h.os, h.tape, h.output, h.size, fun k hk hn => h.block k hk (fun c => hn (hr k c.symm))⟩
theorem Kept.setCell {w w' : World} {fp : List Nat} (h : Kept w w' fp) {p : Addr} (hp : p.block ∈ fp ∨ w.heap.size ≤ p.block) (u : Value) : Kept w (w'.setCell p u) fp :=
  ⟨h.os, h.tape, h.output, by have := h.size; simpa [World.setCell] using this, fun k hk hn => (Below.heap_setCell _ _ _ _ (fun c => by subst c; rcases hp with h1 | h1; exact hn h1; omega)).trans (h.block k hk hn)⟩
theorem Kept.alloc {w w' : World} {fp : List Nat} (h : Kept w w' fp) (o : Obj) : Kept w (w'.alloc o) fp :=
  ⟨h.os, h.tape, h.output, by have := h.size; simp; omega, fun k hk hn => (Below.heap_alloc _ _ _ (by have := h.size; omega)).trans (h.block k hk hn)⟩
theorem Kept.drew {w w' : World} {fp : List Nat} (h : Kept w w' fp) : Kept w w'.drew fp := ⟨h.os, h.tape, h.output, h.size, h.block⟩
theorem Kept.below {w w' : World} {fp : List Nat} {B : Nat} (h : Kept w w' fp) (hB : B ≤ w.heap.size) (hf : ∀ k ∈ fp, B ≤ k) : Below B w w' :=
  ⟨h.os, h.tape, h.output, h.size, fun k hk => h.block k (by omega) (fun c => by have := hf k c; omega)⟩
theorem own_keep {w w' : World} {base : Nat} {e : TypeId} {sz n : Nat} {v : Value} {xs : List Value} (h : w.ownsRow base e sz v n xs) (hb : ∀ k ∈ ob v, w'.heap[k]? = w.heap[k]?) : w'.ownsRow base e sz v n xs := by
  refine ⟨h.1, ?_⟩
  rcases h.2 with hn | ⟨g, cap, cur, rfl, hg, hgg, rest⟩
  · exact .inl hn
  · exact .inr ⟨g, cap, cur, rfl, hg, by rw [hb g (by simp [ob, Value.ownBlock])]; exact hgg, rest⟩
theorem own_in {w : World} {base : Nat} {e : TypeId} {sz n : Nat} {v : Value} {xs : List Value} (h : w.ownsRow base e sz v n xs) : ∀ k ∈ ob v, base ≤ k ∧ k < w.heap.size := fun k hk => h.lt k (mem_ob.1 hk)
theorem Six.far {w : World} {g b o : Nat} {c0 c1 c2 c3 c4 c5 v : Value} (h : Six w g c0 c1 c2 c3 c4 c5) (hne : g ≠ b) : Six (w.setCell ⟨b, o, none⟩ v) g c0 c1 c2 c3 c4 c5 := by
  unfold Six at h ⊢
  rw [Below.heap_setCell w ⟨b, o, none⟩ v g hne]; exact h
theorem own_mono {w : World} {base base' : Nat} {e : TypeId} {sz n : Nat} {v : Value} {xs : List Value} (h : w.ownsRow base e sz v n xs) (hb : base' ≤ base) : w.ownsRow base' e sz v n xs := by
  refine ⟨h.1, ?_⟩
  rcases h.2 with hn | ⟨g, cap, cur, hv, hg, rest⟩
  · exact .inl hn
  · exact .inr ⟨g, cap, cur, hv, by omega, rest⟩
end Go.Proofs.YtogmdaopfnmobaaGreat

/- What the document's own answer does (notaryref): Hash, MayBe, Empty, Num. -/
namespace Go.Proofs.YtogmdaopfnmobaaGreat
open Go.RowKit
set_option maxHeartbeats 400000 in
theorem refHash_any (s : ByteArray) (w : World) (hs : s.size ≤ maxLen) :
    Calls Tryz.prog 45 #[.string s] w fun e w' => e = .returned (.agg #[.int .u8 ((dg s.data.toList : Int) / 256), .int .u8 ((dg s.data.toList : Int) % 256)]) ∧ Below w.heap.size w w' := by
  unfold maxLen at hs
  go_enter Tryz.func45, Tryz.ntmps45
  go_wp2
  go_loop [3, 4] (fun n i => ∃ k : Nat, k ≤ s.size ∧ i = .int .i64 k ∧ n = .int .i64 (dg (s.data.toList.take k))) (fun _ i => s.size - (intOf i).toNat)
  case atStart => exact ⟨0, Nat.zero_le _, rfl, rfl⟩
  case round =>
    obtain ⟨k, hk, rfl, rfl⟩ := hrel
    have hd := dg_lt (s.data.toList.take k)
    by_cases hlt : k < s.size
    · have HS : Hid (dg (s.data.toList.take (k + 1)) = (dg (s.data.toList.take k) * 263 + s[k].toNat + 1) % 65521) := by rw [take_snoc s k hlt, dg_snoc]; rfl
      have hb : (s[k].toNat : Int) < 256 := by have := s[k].toNat_lt; omega
      go_wp2
      go_round
      case rel => exact ⟨k + 1, by omega, by go_num, by rw [HS.out]; go_num⟩
      case measure => simp [intOf]; omega
    · have he : s.data.toList.take k = s.data.toList := List.take_of_length_le (by simp; omega)
      rw [he] at hd ⊢
      go_wp2
      exact bodyPost_ret (v := .agg #[.int .u8 ((dg s.data.toList : Int) / 256), .int .u8 ((dg s.data.toList : Int) % 256)]) (by simp [results, Tryz.results45, go_sem]) rfl ⟨rfl, (Below.refl _ _).alloc (Nat.le_refl _) _⟩
set_option maxHeartbeats 400000 in
theorem refEmpty_any (w : World) :
    Calls Tryz.prog 82 #[] w fun e w' => e = .returned (.agg #[.int .i64 0, .int .i64 0, .int .i64 0, .int .i64 0, .int .u8 1, .int .u8 77]) ∧ Below w.heap.size w w' := by
  go_enter Tryz.func82, Tryz.ntmps82
  go_wp2_with fail
  refine (refHash_any _ _ (by decide)).mono ?_
  rintro e w1 ⟨rfl, hb⟩
  have hc := oldc hb
  have hf := oldf hb
  have hz : w.heap.size < w1.heap.size := by have := hb.size; simp at this; omega
  have hd : dg [69] = 333 := by decide
  go_wp2
  refine ret_node1 Tryz.results82 ((((Six.new w _ _ _ _ _ _).below hb (by simp)).set (.int .i64 0) (.int .i64 0) (.int .i64 0) (.int .i64 0) (.int .u8 1) (.int .u8 77)).alloc _) rfl ⟨rfl, ?_⟩
  refine Below.alloc ?_ (by simp; omega) _
  repeat (refine Below.setCell ?_ (by simp) _)
  exact ((Below.refl _ _).alloc (Nat.le_refl _) _).trans (hb.mono (by simp))
set_option maxHeartbeats 400000 in
theorem refNumber_any (n : Int) (w : World) (b : Bool) (hb : isNum n = b) :
    Calls Tryz.prog 144 #[.int .i64 n] w fun e w' => e = .returned (.bool b) ∧ w' = w := by
  subst hb
  by_cases h : 0 ≤ n
  · go_enter Tryz.func144, Tryz.ntmps144
    go_wp2
    go_ret
    exact ⟨by simp [isNum, h], rfl⟩
  · go_enter Tryz.func144, Tryz.ntmps144
    go_wp2
    go_ret
    exact ⟨by simp [isNum]; omega, rfl⟩
set_option maxHeartbeats 1000000 in
set_option maxRecDepth 100000 in
theorem refMayBe_any (c s m x h g : Int) (w : World) (b : Bool) (hb : (isNum c && isNum s && isNum m && isNum x) = b) :
    Calls Tryz.prog 131 #[.agg #[.int .i64 c, .int .i64 s, .int .i64 m, .int .i64 x, .int .u8 h, .int .u8 g]] w fun e w' => e = .returned (.bool b) ∧ Below w.heap.size w w' := by
  have fin : ∀ o1, Below w.heap.size w (w.alloc o1) := fun o1 => (Below.refl _ _).alloc (Nat.le_refl _) _
  go_enter Tryz.func131, Tryz.ntmps131
  cases h1 : isNum c
  · go_wp2_with fail
    refine (refNumber_any _ _ _ h1).mono ?_
    rintro e w' ⟨rfl, rfl⟩
    go_wp2
    go_ret
    exact ⟨by rw [← hb]; simp [h1], fin _⟩
  · go_wp2_with fail
    refine (refNumber_any _ _ _ h1).mono ?_
    rintro e w' ⟨rfl, rfl⟩
    cases h2 : isNum s
    · go_wp2_with fail
      refine (refNumber_any _ _ _ h2).mono ?_
      rintro e w' ⟨rfl, rfl⟩
      go_wp2
      go_ret
      exact ⟨by rw [← hb]; simp [h2], fin _⟩
    · go_wp2_with fail
      refine (refNumber_any _ _ _ h2).mono ?_
      rintro e w' ⟨rfl, rfl⟩
      cases h3 : isNum m
      · go_wp2_with fail
        refine (refNumber_any _ _ _ h3).mono ?_
        rintro e w' ⟨rfl, rfl⟩
        go_wp2
        go_ret
        exact ⟨by rw [← hb]; simp [h3], fin _⟩
      · go_wp2_with fail
        refine (refNumber_any _ _ _ h3).mono ?_
        rintro e w' ⟨rfl, rfl⟩
        go_wp2_with fail
        refine (refNumber_any _ _ _ rfl).mono ?_
        rintro e w' ⟨rfl, rfl⟩
        go_wp2
        go_ret
        exact ⟨by rw [← hb]; simp [h1, h2, h3], fin _⟩
theorem run_str1 (W : World) (x : Int) :
    (convert 159 9 (.slice (some ⟨W.heap.size, 0, none⟩) 1 1)).run Tryz.prog (W.alloc (.cells #[.int .u8 x] 5)) = .ok (.string (strOfNums [x])) (W.alloc (.cells #[.int .u8 x] 5)) := by
  refine run_convert_bytes_arg _ 159 5 Tryz.underlying159 Tryz.underlying5 W.heap.size 0 1 1 [x] rfl (fun i hi => ?_) 9 Tryz.underlying9
  have : i = 0 := by omega
  subst this
  simp
theorem run_str2 (W : World) (x y : Int) :
    (convert 159 9 (.slice (some ⟨W.heap.size, 0, none⟩) 2 2)).run Tryz.prog (W.alloc (.cells #[.int .u8 x, .int .u8 y] 5)) = .ok (.string (strOfNums [x, y])) (W.alloc (.cells #[.int .u8 x, .int .u8 y] 5)) := by
  refine run_convert_bytes_arg _ 159 5 Tryz.underlying159 Tryz.underlying5 W.heap.size 0 2 2 [x, y] rfl (fun i hi => ?_) 9 Tryz.underlying9
  have : i = 0 ∨ i = 1 := by omega
  rcases this with rfl | rfl <;> simp
theorem num_step' (f m : Nat) (h : 128 ≤ m) (hm : m < 128 ^ (f + 1)) : ∃ g, f = g + 1 ∧ numB f m = (strOfNums [128 + (m : Int) % 128]).data.toList ++ numB g (m / 128) ∧ m / 128 < 128 ^ (g + 1) := by
  cases f with
  | zero => simp at hm; omega
  | succ g =>
    refine ⟨g, rfl, ?_, by rw [Nat.pow_succ] at hm; exact Nat.div_lt_of_lt_mul (by rw [Nat.mul_comm]; exact hm)⟩
    rw [numB_big g m h, strOfNums_data]
    have e : (128 + (m : Int) % 128).toNat = m % 128 + 128 := by omega
    simp only [List.map_cons, List.map_nil, e, List.cons_append, List.nil_append]
theorem num_last' (f m : Nat) (h : m < 128) : numB f m = (strOfNums [(m : Int)]).data.toList := by
  rw [numB_small f m h, strOfNums_data]; simp
set_option maxHeartbeats 400000 in
set_option maxRecDepth 100000 in
theorem refNum_any (n : Nat) (w : World) (hn : n ≤ 34359738367) :
    Calls Tryz.prog 47 #[.int .i64 n] w fun e w' => ∃ t : ByteArray, e = .returned (.string t) ∧ t.data.toList = num n ∧ Below w.heap.size w w' := by
  have hst := run_str1
  have hsn : ∀ x, (strOfNums [x]).size = 1 := fun x => strOfNums_size [x]
  go_enter Tryz.func47, Tryz.ntmps47
  go_wp2
  go_loopw [0, 3] (fun i s wr => ∃ (t : ByteArray) (m f : Nat), i = .int .i64 m ∧ s = .string t ∧ m ≤ 34359738367 ∧ t.size ≤ 6 ∧ Hid (m < 128 ^ (f + 1)) ∧ Hid (num n = t.data.toList ++ numB f m) ∧ Hid (t.size + f = 6) ∧ Below w.heap.size w wr)
    (fun i _ _ => (intOf i).toNat)
  case atStart => exact ⟨⟨#[]⟩, n, 6, rfl, rfl, hn, by decide, (by show n < 128 ^ 7; omega), rfl, rfl, Below.refl _ _⟩
  case round =>
    obtain ⟨t, m, f, rfl, rfl, hm2, ht, HM, HN, HL, hb⟩ := hrel
    by_cases hlt : 128 ≤ m
    · obtain ⟨g, rfl, h2, h3⟩ := num_step' f m hlt HM.out
      have H2 : Hid _ := h2
      have H3 : Hid _ := h3
      clear h2 h3
      go_wp2
      go_roundw
      case rel => exact ⟨t ++ strOfNums [128 + (m : Int) % 128], m / 128, g, by go_num, rfl, by omega, by have := HL.out; simp [hsn]; omega, H3.out, (by rw [HN.out, H2.out, app_list, List.append_assoc]; rfl : Hid _), (by have := HL.out; simp [Hid, hsn]; omega), hb.alloc hb.size _⟩
      case measure => simp [intOf]; omega
    · have H2 : Hid _ := num_last' f m (by omega)
      go_wp2
      go_ret
      exact ⟨t ++ strOfNums [(m : Int)], rfl, by rw [app_list, HN.out, H2.out], hb.alloc hb.size _⟩
set_option maxHeartbeats 1000000 in
set_option maxRecDepth 100000 in
theorem refBytes_any (c s m x : Nat) (h g : UInt8) (w : World) (hc : c ≤ 34359738367) (hs : s ≤ 34359738367) (hm : m ≤ 34359738367) (hx : x ≤ 34359738367) :
    Calls Tryz.prog 48 #[.agg #[.int .i64 c, .int .i64 s, .int .i64 m, .int .i64 x, .int .u8 h.toNat, .int .u8 g.toNat]] w fun e w' => ∃ t : ByteArray, e = .returned (.string t) ∧ t.data.toList = num c ++ num s ++ num m ++ num x ++ [h, g] ∧ Below w.heap.size w w' := by
  have hst := run_str2
  have hsn : ∀ x y, (strOfNums [x, y]).size = 2 := fun x y => strOfNums_size [x, y]
  have l1 := (num_length c).1
  have l2 := (num_length s).1
  have l3 := (num_length m).1
  have l4 := (num_length x).1
  go_enter Tryz.func48, Tryz.ntmps48
  go_wp2_with fail
  refine (refNum_any _ _ hc).mono ?_
  rintro e w1 ⟨t1, rfl, e1, hb1⟩
  have z1 : t1.size ≤ 7 := by rw [size_list, e1]; exact l1
  have hC1 := oldc hb1
  have E1 : Hid _ := e1
  clear e1
  have hz1 : w.heap.size < w1.heap.size := by have := hb1.size; simp at this; omega
  go_wp2_with fail
  refine (refNum_any _ _ hs).mono ?_
  rintro e w2 ⟨t2, rfl, e2, hb2⟩
  have z2 : t2.size ≤ 7 := by rw [size_list, e2]; exact l2
  have hC2 := oldc hb2
  have E2 : Hid _ := e2
  clear e2
  have hz2 : w.heap.size < w2.heap.size := by have := hb2.size; omega
  go_wp2_with fail
  refine (refNum_any _ _ hm).mono ?_
  rintro e w3 ⟨t3, rfl, e3, hb3⟩
  have z3 : t3.size ≤ 7 := by rw [size_list, e3]; exact l3
  have hC3 := oldc hb3
  have E3 : Hid _ := e3
  clear e3
  have hz3 : w.heap.size < w3.heap.size := by have := hb3.size; omega
  go_wp2_with fail
  refine (refNum_any _ _ hx).mono ?_
  rintro e w4 ⟨t4, rfl, e4, hb4⟩
  have z4 : t4.size ≤ 7 := by rw [size_list, e4]; exact l4
  have hC4 := oldc hb4
  have E4 : Hid _ := e4
  clear e4
  have hz4 : w.heap.size < w4.heap.size := by have := hb4.size; omega
  have fin : Below w.heap.size w w4 := (((((Below.refl _ _).alloc (Nat.le_refl _) _).trans (hb1.mono (by simp))).trans (hb2.mono (by omega))).trans (hb3.mono (by omega))).trans (hb4.mono (by omega))
  clear hb1 hb2 hb3 hb4
  go_wp2
  go_ret
  refine ⟨_, rfl, ?_, fin.alloc (by omega) _⟩
  simp only [app_list, E1.out, E2.out, E3.out, E4.out, strOfNums_data]
  simp
end Go.Proofs.YtogmdaopfnmobaaGreat

/- What the document's own answer does (notaryref): Write, takes. -/
namespace Go.Proofs.YtogmdaopfnmobaaGreat
open Go.RowKit
attribute [local go_sem ↓] run_eql_node run_neq_node
theorem ret_we {a b : ByteArray} {i j : Int} (h : a = b) (hi : i = j) : Ending.returned (.tuple #[.string a, .int .i64 i]) = .returned (.tuple #[.string b, .int .i64 j]) := by rw [h, hi]
theorem size_app (a b : ByteArray) : (a ++ b).size = a.size + b.size := by simp
theorem size_byte (b : UInt8) : (⟨#[b]⟩ : ByteArray).size = 1 := rfl
theorem mark_E (d : Nd) (h : d.isE = true) : d.mark = [0] := by simp [Nd.mark, h]
theorem mark_N (d : Nd) (h : d.isE = false) : d.mark = 1 :: d.bytes := by simp [Nd.mark, h]
theorem refBytes_nd (d : Nd) (w : World) (hd : d.ok = true) :
    Calls Tryz.prog 48 #[.agg #[.int .i64 d.c, .int .i64 d.s, .int .i64 d.m, .int .i64 d.x, .int .u8 (d.h.toNat : Int), .int .u8 (d.g.toNat : Int)]] w fun e w' => ∃ t : ByteArray, e = .returned (.string t) ∧ t.data.toList = d.bytes ∧ Below w.heap.size w w' := by
  cases d with
  | mk c s m x h g =>
    obtain ⟨a1, a2, a3, a4⟩ := (Nd.ok_iff _).1 hd
    simp only [isNum_iff] at a1 a2 a3 a4
    obtain ⟨c, rfl⟩ := Int.eq_ofNat_of_zero_le a1.1
    obtain ⟨s, rfl⟩ := Int.eq_ofNat_of_zero_le a2.1
    obtain ⟨m, rfl⟩ := Int.eq_ofNat_of_zero_le a3.1
    obtain ⟨x, rfl⟩ := Int.eq_ofNat_of_zero_le a4.1
    exact refBytes_any c s m x h g w (by omega) (by omega) (by omega) (by omega)
set_option maxHeartbeats 1000000 in
set_option maxRecDepth 100000 in
theorem refWrite_any (v : Value) (l : List Nd) (w : World) (hl : Nodes w w.heap.size v l) :
    Calls Tryz.prog 94 #[v] w fun e w' => e = .returned (.tuple #[.string ⟨(writeB l).toArray⟩, .int .i64 (writeE l)]) ∧ Below w.heap.size w w' := by
  obtain ⟨ao, cap, rfl, hmax, hcells⟩ := hl.ex
  clear hl
  by_cases h64 : 64 < l.length
  · obtain ⟨r1, r2⟩ := write_many l h64
    rw [r1, r2]
    clear r1 r2 hcells
    go_enter Tryz.func94, Tryz.ntmps94
    go_wp2
    go_ret2
    exact ⟨rfl, Below.refl _ _⟩
  · have hd64 : decide (64 < (l.length : Int)) = false := by simp; omega
    go_enter Tryz.func94, Tryz.ntmps94
    go_wp2
    go_loopw [4, 5] (fun s i wr => ∃ (k : Nat) (t : ByteArray), k ≤ l.length ∧ i = .int .i64 k ∧ s = .string t ∧ t.size ≤ 31 * k ∧ Hid ((l.take k).all Nd.ok = true) ∧ Hid (t.data.toList = marks (l.take k)) ∧ Below w.heap.size w wr)
      (fun _ i _ => l.length - (intOf i).toNat)
    case atStart => exact ⟨0, ⟨#[]⟩, Nat.zero_le _, rfl, rfl, by decide, rfl, rfl, Below.refl _ _⟩
    case round =>
      obtain ⟨k, t, hk, rfl, rfl, htz, HA, HT, hb⟩ := hrel
      by_cases hlt : k < l.length
      · obtain ⟨b, off, rfl, hbB, hcs⟩ := hcells k hlt
        obtain ⟨d, hd⟩ : ∃ d, d = l[k] := ⟨_, rfl⟩
        rw [← hd] at hcs
        obtain ⟨k0, k1, k2, k3, k4, k5⟩ := six hb hbB hcs
        have HD : Hid _ := hd
        have HC : Hid _ := hcs
        clear hcs hd hcells
        go_wp2_with fail
        cases hok : d.ok
        · refine (refMayBe_any _ _ _ _ _ _ _ false hok).mono ?_
          rintro e w1 ⟨rfl, hb1⟩
          have HR : Hid _ := write_bad l h64 k hlt (by rw [← HD.out]; exact hok)
          have fin : Below w.heap.size w w1 := hb.trans (hb1.mono hb.size)
          go_wp2
          go_ret2
          exact ⟨by rw [HR.out.1, HR.out.2]; rfl, fin⟩
        · refine (refMayBe_any _ _ _ _ _ _ _ true hok).mono ?_
          rintro e w1 ⟨rfl, hb1⟩
          have hB1 : Below w.heap.size w w1 := hb.trans (hb1.mono hb.size)
          clear hb1 hb k0 k1 k2 k3 k4 k5
          go_wp2_with fail
          refine (refEmpty_any _).mono ?_
          rintro e w2 ⟨rfl, hb2⟩
          have hB2 : Below w.heap.size w w2 := hB1.trans (hb2.mono hB1.size)
          clear hb2 hB1
          have hs2 := hB2.size
          obtain ⟨k0, k1, k2, k3, k4, k5⟩ := six hB2 hbB HC.out
          have hne : b < w2.heap.size := by omega
          have HS : Hid _ := d.mark_length.1
          have HK : Hid (marks (l.take (k + 1)) = marks (l.take k) ++ d.mark) := by rw [take_snoc' l k hlt, ← HD.out, marks_snoc]; rfl
          have HA2 : Hid _ := all_snoc l k hlt HA.out (by rw [← HD.out]; exact hok)
          cases hE : d.isE
          · have hE' : eqN d.c d.s d.m d.x d.h.toNat d.g.toNat 0 0 0 0 1 77 = false := hE
            have HM : Hid _ := mark_N d hE
            clear hE
            go_wp2
            go_quiet (fail)
            go_wp2_with fail
            refine (refBytes_nd d _ hok).mono ?_
            rintro e w3 ⟨t3, rfl, e3, hb3⟩
            have z3 : t3.size ≤ 30 := by rw [size_list, e3]; exact d.bytes_length
            have HE3 : Hid _ := e3
            have hB3 : Below w.heap.size w w3 := (hB2.alloc hs2 _).trans (Below.trans (b := (w2.alloc (.cells #[.int .i64 0, .int .i64 0, .int .i64 0, .int .i64 0, .int .u8 1, .int .u8 77] 51)).drewN nq) ((below_drewN _ nq).mono (by simp; omega)) (hb3.mono (by simp; omega)))
            clear hb3 e3 hB2 k0 k1 k2 k3 k4 k5
            go_wp2
            go_roundw
            case rel => exact ⟨k + 1, t ++ ⟨#[1]⟩ ++ t3, by omega, by go_num, rfl, by rw [size_app, size_app, size_byte]; omega, HA2, (by rw [HK.out, HM.out, app_list, app_list, HT.out, HE3.out]; simp [Hid]), hB3⟩
            case measure => simp [intOf]; omega
          · have hE' : eqN d.c d.s d.m d.x d.h.toNat d.g.toNat 0 0 0 0 1 77 = true := hE
            have HM : Hid _ := mark_E d hE
            clear hE
            go_wp2
            go_quiet (fail)
            go_wp2
            have hB3 : Below w.heap.size w ((w2.alloc (.cells #[.int .i64 0, .int .i64 0, .int .i64 0, .int .i64 0, .int .u8 1, .int .u8 77] 51)).drewN nq) := (hB2.alloc hs2 _).trans ((below_drewN _ nq).mono (by simp; omega))
            go_roundw
            case rel => exact ⟨k + 1, t ++ ⟨#[0]⟩, by omega, by go_num, rfl, by rw [size_app, size_byte]; omega, HA2, (by rw [HK.out, HM.out, app_list, HT.out]; simp [Hid]), hB3⟩
            case measure => simp [intOf]; omega
      · have hkl : l.take k = l := List.take_of_length_le (by omega)
        have HA' := HA.out
        have HT' := HT.out
        rw [hkl] at HT' HA'
        have HR : Hid _ := write_good l h64 HA'
        have HTT : Hid _ := HT'
        clear HA HA' hcells hkl HT HT'
        go_wp2
        go_ret2
        exact ⟨ret_we (by rw [HR.out.1]; exact str_of HTT.out) HR.out.2.symm, hb⟩
def tkOut (o : Option (Nat × List UInt8)) (n : Int) (r : List UInt8) : Prop := (0 ≤ n ∧ o = some (n.toNat, r)) ∨ (n = -1 ∧ o = none ∧ r = [])
def takesPost (s : ByteArray) (w : World) (e : Ending) (w' : World) : Prop :=
  ∃ (n : Int) (s' : ByteArray), e = .returned (.tuple #[.int .i64 n, .string s']) ∧ tkOut (rdNum s.data.toList) n s'.data.toList ∧ s'.size ≤ s.size ∧ Below w.heap.size w w'
theorem takes_rel (s : ByteArray) (k acc : Nat) (hz : k < s.size) (h5 : k < 5) (hac : acc < 128 ^ k) (HR : rdNum s.data.toList = rdN (4 - k) (k + 1) (acc + s[k].toNat % 128 * 128 ^ k) (s.data.toList.drop (k + 1)))
    (v i u : Int) (hv : v = ((acc + s[k].toNat % 128 * 128 ^ k : Nat) : Int)) (hi : i = ((k + 1 : Nat) : Int)) (hu : u = ((128 ^ (k + 1) : Nat) : Int)) :
    ∃ k' acc' : Nat, k' ≤ 5 ∧ k' ≤ s.size ∧ Value.int .i64 i = .int .i64 k' ∧ Value.int .i64 v = .int .i64 acc' ∧ Value.int .i64 u = .int .i64 ((128 ^ k' : Nat) : Int) ∧ acc' ≤ 34359738367 ∧ Hid (acc' < 128 ^ k') ∧ Hid (rdNum s.data.toList = rdN (5 - k') k' acc' (s.data.toList.drop k')) := by
  obtain ⟨k', acc', h1, h2, h3, h4, h5', h6, h7⟩ := num_rel s k acc hz h5 hac HR v i hv hi
  have hk : k' = k + 1 := by
    injection h3 with _ e
    omega
  subst hk
  exact ⟨k + 1, acc', h1, h2, h3, h4, by rw [hu], h5', h6, h7⟩
theorem takes_ret (s : ByteArray) (w w' : World) (k acc : Nat) (hz : k < s.size) (h128 : ¬ 128 ≤ s[k].toNat) (hb : Below w.heap.size w w') (HR : rdNum s.data.toList = some (acc + s[k].toNat * 128 ^ k, s.data.toList.drop (k + 1)))
    (v : Int) (hv : v = ((acc + s[k].toNat % 128 * 128 ^ k : Nat) : Int)) : takesPost s w (.returned (.tuple #[.int .i64 v, .string (s.extract (k + 1) s.size)])) w' := by
  have e : s[k].toNat % 128 = s[k].toNat := by omega
  rw [e] at hv
  exact ⟨_, _, by rw [hv], .inl ⟨by omega, by rw [extract_list, Int.toNat_natCast]; exact HR⟩, size_extract_le s _, hb⟩
set_option maxHeartbeats 1000000 in
set_option maxRecDepth 100000 in
theorem takes_any (s : ByteArray) (w : World) (hs : s.size ≤ maxLen) :
    Calls Tryz.prog 124 #[.string s] w (takesPost s w) := by
  unfold maxLen at hs
  go_enter Tryz.func124, Tryz.ntmps124
  go_wp2
  go_loop [4, 5, 6] (fun n u i => ∃ k acc : Nat, k ≤ 5 ∧ k ≤ s.size ∧ i = .int .i64 k ∧ n = .int .i64 acc ∧ u = .int .i64 ((128 ^ k : Nat) : Int) ∧ acc ≤ 34359738367 ∧ Hid (acc < 128 ^ k) ∧ Hid (rdNum s.data.toList = rdN (5 - k) k acc (s.data.toList.drop k))) (fun _ _ i => 5 - (intOf i).toNat)
  case atStart => exact ⟨0, 0, by omega, by omega, rfl, rfl, rfl, by omega, by simp [Hid], by simp [Hid, rdNum]⟩
  case round =>
    obtain ⟨k, acc, hk5, hks, rfl, rfl, rfl, hacc, HA, HR⟩ := hrel
    by_cases hlt : k < 5 ∧ k < s.size
    · obtain ⟨h5, hz⟩ := hlt
      rw [drop_cons s k hz] at HR
      have hb256 : (s[k].toNat : Int) < 256 := by have := s[k].toNat_lt; omega
      have hkk : k = 0 ∨ k = 1 ∨ k = 2 ∨ k = 3 ∨ k = 4 := by omega
      have hac := HA.out
      by_cases h128 : 128 ≤ s[k].toNat
      · rw [show 5 - k = (4 - k) + 1 from by omega, rdN_more _ _ _ _ _ h128] at HR
        rcases hkk with rfl | rfl | rfl | rfl | rfl
        all_goals simp at hac
        all_goals go_wp2
        all_goals go_round
        all_goals first | exact takes_rel s _ acc hz h5 HA.out HR _ _ _ (by first | omega | (simp [hac]; done)) (by omega) (by omega) | (simp [intOf]; done)
      · by_cases hz0 : s[k].toNat = 0 ∧ 0 < k
        · rw [show 5 - k = (4 - k) + 1 from by omega, rdN_zero _ _ _ _ _ hz0.1 hz0.2] at HR
          obtain ⟨hq, hk0⟩ := hz0
          have hqi : ((s[k].toNat : Int) == 0) = true := by simp; omega
          clear hq
          rcases hkk with rfl | rfl | rfl | rfl | rfl
          · omega
          all_goals simp at hac
          all_goals go_wp2
          all_goals go_ret2
          all_goals exact ⟨-1, ⟨#[]⟩, rfl, .inr ⟨rfl, HR, rfl⟩, Nat.zero_le _, Below.refl _ _⟩
        · rw [show 5 - k = (4 - k) + 1 from by omega, rdN_last _ _ _ _ _ h128 hz0] at HR
          by_cases hq : s[k].toNat = 0
          · have hk0 : k = 0 := by omega
            subst hk0
            have hqi : ((s[0].toNat : Int) == 0) = true := by simp; omega
            simp at hac
            go_wp2
            go_quiet (fail)
            go_wp2
            go_ret2
            exact takes_ret s w _ 0 acc hz h128 (below_drewN w _) HR _ (by first | omega | (simp [hac]; done))
          · have hqi : ((s[k].toNat : Int) == 0) = false := by simp; omega
            clear hz0 hq
            rcases hkk with rfl | rfl | rfl | rfl | rfl
            all_goals simp at hac
            all_goals go_wp2
            all_goals go_quiet (fail)
            all_goals go_wp2
            all_goals go_ret2
            all_goals exact takes_ret s w _ _ acc hz h128 (below_drewN w _) HR _ (by first | omega | (simp [hac]; done))
    · have hn : rdNum s.data.toList = none := by
        rw [HR.out]
        by_cases e : k = 5
        · subst e; rfl
        · have : s.data.toList.drop k = [] := List.drop_of_length_le (by simp; omega)
          rw [this]
          obtain ⟨j, hj⟩ : ∃ j, 5 - k = j + 1 := ⟨4 - k, by omega⟩
          rw [hj]; rfl
      have HN : Hid _ := hn
      clear hn
      by_cases hks' : k < s.size
      · go_wp2
        go_ret2
        exact ⟨-1, ⟨#[]⟩, rfl, .inr ⟨rfl, HN.out, rfl⟩, Nat.zero_le _, Below.refl _ _⟩
      · go_wp2
        go_ret2
        exact ⟨-1, ⟨#[]⟩, rfl, .inr ⟨rfl, HN.out, rfl⟩, Nat.zero_le _, Below.refl _ _⟩
end Go.Proofs.YtogmdaopfnmobaaGreat

/- What the document's own answer does (notaryref): node, Read. -/
namespace Go.Proofs.YtogmdaopfnmobaaGreat
open Go.RowKit
attribute [local go_sem ↓] run_eql_node run_neq_node
theorem rdNode_of4 (l l1 l2 l3 l4 : List UInt8) (a b c d : Nat) (h1 : rdNum l = some (a, l1)) (h2 : rdNum l1 = some (b, l2)) (h3 : rdNum l2 = some (c, l3)) (h4 : rdNum l3 = some (d, l4)) : rdK 4 l = some ([a, b, c, d], l4) := by
  simp [rdK, h1, h2, h3, h4]
theorem rdNode_bad1 (l : List UInt8) (h1 : rdNum l = none) : rdNode l = none := by simp [rdNode, rdK, h1]
theorem rdNode_bad2 (l l1 : List UInt8) (a : Nat) (h1 : rdNum l = some (a, l1)) (h2 : rdNum l1 = none) : rdNode l = none := by simp [rdNode, rdK, h1, h2]
theorem rdNode_bad3 (l l1 l2 : List UInt8) (a b : Nat) (h1 : rdNum l = some (a, l1)) (h2 : rdNum l1 = some (b, l2)) (h3 : rdNum l2 = none) : rdNode l = none := by simp [rdNode, rdK, h1, h2, h3]
theorem rdNode_bad4 (l l1 l2 l3 : List UInt8) (a b c : Nat) (h1 : rdNum l = some (a, l1)) (h2 : rdNum l1 = some (b, l2)) (h3 : rdNum l2 = some (c, l3)) (h4 : rdNum l3 = none) : rdNode l = none := by simp [rdNode, rdK, h1, h2, h3, h4]
theorem four_takes (l r1 r2 r3 r4 : List UInt8) (a b c d : Int) (h1 : tkOut (rdNum l) a r1) (h2 : tkOut (rdNum r1) b r2) (h3 : tkOut (rdNum r2) c r3) (h4 : tkOut (rdNum r3) d r4) :
    ((0 ≤ a ∧ 0 ≤ b ∧ 0 ≤ c ∧ 0 ≤ d) ∧ rdK 4 l = some ([a.toNat, b.toNat, c.toNat, d.toNat], r4)) ∨ ((a < 0 ∨ b < 0 ∨ c < 0 ∨ d < 0) ∧ rdNode l = none) := by
  rcases h1 with ⟨a0, h1⟩ | ⟨rfl, h1, _⟩
  · rcases h2 with ⟨b0, h2⟩ | ⟨rfl, h2, _⟩
    · rcases h3 with ⟨c0, h3⟩ | ⟨rfl, h3, _⟩
      · rcases h4 with ⟨d0, h4⟩ | ⟨rfl, h4, _⟩
        · exact .inl ⟨⟨a0, b0, c0, d0⟩, rdNode_of4 _ _ _ _ _ _ _ _ _ h1 h2 h3 h4⟩
        · exact .inr ⟨by omega, rdNode_bad4 _ _ _ _ _ _ _ h1 h2 h3 h4⟩
      · exact .inr ⟨by omega, rdNode_bad3 _ _ _ _ _ h1 h2 h3⟩
    · exact .inr ⟨by omega, rdNode_bad2 _ _ _ h1 h2⟩
  · exact .inr ⟨by omega, rdNode_bad1 _ h1⟩
set_option maxHeartbeats 1000000 in
set_option maxRecDepth 100000 in
theorem refNode_any (s : ByteArray) (w : World) (hs : s.size ≤ maxLen) :
    Calls Tryz.prog 83 #[.string s] w (nodePost (rdNode s.data.toList) s.size w) := by
  unfold maxLen at hs
  go_enter Tryz.func83, Tryz.ntmps83
  go_wp2_with fail
  refine (takes_any s _ (by unfold maxLen; omega)).mono ?_
  rintro e w1 ⟨a, s1, rfl, t1, z1, hb1⟩
  have T1 : Hid _ := t1
  clear t1
  go_wp2_with fail
  refine (takes_any s1 _ (by unfold maxLen; omega)).mono ?_
  rintro e w2 ⟨b, s2, rfl, t2, z2, hb2⟩
  have T2 : Hid _ := t2
  clear t2
  go_wp2_with fail
  refine (takes_any s2 _ (by unfold maxLen; omega)).mono ?_
  rintro e w3 ⟨c, s3, rfl, t3, z3, hb3⟩
  have T3 : Hid _ := t3
  clear t3
  go_wp2_with fail
  refine (takes_any s3 _ (by unfold maxLen; omega)).mono ?_
  rintro e w4 ⟨d, s4, rfl, t4, z4, hb4⟩
  have hF := four_takes _ _ _ _ _ a b c d T1.out T2.out T3.out t4
  have y2 := hb1.size
  have y3 := hb2.size
  have y4 := hb3.size
  simp at y2
  have hB : Below (w.heap.size + 2) ((w.alloc (.cells #[.int .i64 0, .int .i64 0, .int .i64 0, .int .i64 0, .int .u8 0, .int .u8 0] 51)).alloc (.cells #[.int .i64 0, .int .i64 0, .int .i64 0, .int .i64 0, .int .u8 0, .int .u8 0] 51)) w4 :=
    (((hb1.mono (by simp)).trans (hb2.mono (by omega))).trans (hb3.mono (by omega))).trans (hb4.mono (by omega))
  have S1 : Six w4 w.heap.size (.int .i64 0) (.int .i64 0) (.int .i64 0) (.int .i64 0) (.int .u8 0) (.int .u8 0) := ((Six.new w _ _ _ _ _ _).alloc _).below hB (by omega)
  have S2 : Six w4 (w.heap.size + 1) (.int .i64 0) (.int .i64 0) (.int .i64 0) (.int .i64 0) (.int .u8 0) (.int .u8 0) := by
    have h := (Six.new (w.alloc (.cells #[.int .i64 0, .int .i64 0, .int .i64 0, .int .i64 0, .int .u8 0, .int .u8 0] 51)) (.int .i64 0) (.int .i64 0) (.int .i64 0) (.int .i64 0) (.int .u8 0) (.int .u8 0))
    rw [show (w.alloc (.cells #[.int .i64 0, .int .i64 0, .int .i64 0, .int .i64 0, .int .u8 0, .int .u8 0] 51)).heap.size = w.heap.size + 1 from by simp] at h
    exact h.below hB (by omega)
  have hfin : Below w.heap.size w w4 := (((Below.refl _ _).alloc (Nat.le_refl _) _).alloc (by simp) _).trans (hB.mono (by omega))
  obtain ⟨c0, c1, c2, c3, c4, c5⟩ := S1.cells
  obtain ⟨d0, d1, d2, d3, d4, d5⟩ := S2.cells
  have f1 : ∀ j, w4.frozen? ⟨w.heap.size, j, none⟩ = false := fun j => by unfold Six at S1; simp [World.frozen?, S1]
  have f2 : ∀ j, w4.frozen? ⟨w.heap.size + 1, j, none⟩ = false := fun j => by unfold Six at S2; simp [World.frozen?, S2]
  clear T1 T2 T3 t4 hb1 hb2 hb3 hb4 hB y3 y4
  rcases hF with ⟨⟨a0, b0, e0, g0⟩, hk⟩ | ⟨hneg, hk⟩
  · have HK : Hid _ := hk
    clear hk
    obtain ⟨a, rfl⟩ := Int.eq_ofNat_of_zero_le a0
    obtain ⟨b, rfl⟩ := Int.eq_ofNat_of_zero_le b0
    obtain ⟨c, rfl⟩ := Int.eq_ofNat_of_zero_le e0
    obtain ⟨d, rfl⟩ := Int.eq_ofNat_of_zero_le g0
    simp only [Int.toNat_natCast] at HK
    by_cases h2 : s4.size < 2
    · have HO : Hid _ := few_bytes _ _ _ HK.out h2
      go_wp2
      refine ret_node3 Tryz.results83 (S1.set _ _ _ _ _ _) rfl rfl rfl (nodePost_no _ _ _ _ HO.out ?_)
      repeat (refine Below.setCell ?_ (by simp) _)
      exact hfin
    · have h01 : (1 : Int) < (s4.size : Int) := by omega
      have h00 : (0 : Int) < (s4.size : Int) := by omega
      have n0 : 0 < s4.size := by omega
      have n1 : 1 < s4.size := by omega
      have n2 : 2 ≤ s4.size := by omega
      go_wp2
      go_region
      all_goals go_wp2
      all_goals go_region
      all_goals go_wp2
      have hne : w.heap.size ≠ w.heap.size + 1 := by omega
      have H := (((((((S1.far (o := 0) (v := .int .i64 a) hne).far (o := 1) (v := .int .i64 b) hne).far (o := 2) (v := .int .i64 c) hne).far (o := 3) (v := .int .i64 d) hne).far (o := 4) (v := .int .u8 s4[0].toNat) hne).far (o := 5) (v := .int .u8 s4[1].toNat) hne).set (.int .i64 a) (.int .i64 b) (.int .i64 c) (.int .i64 d) (.int .u8 s4[0].toNat) (.int .u8 s4[1].toNat)).drew.drew
      refine ret_node3 Tryz.results83 H rfl rfl rfl (nodePost_yes _ _ _ _ _ a b c d _ _ _ (by have := HK.out; rw [two_bytes s4 n2] at this; exact this) rfl (by have := size_extract_two s4; omega) ?_)
      refine Below.drew (Below.drew ?_)
      repeat (refine Below.setCell ?_ (by simp) _)
      exact hfin
  · have HO : Hid _ := hk
    clear hk
    go_wp2
    all_goals
      refine ret_node3 Tryz.results83 (S1.set _ _ _ _ _ _) rfl rfl rfl (nodePost_no _ _ _ _ HO.out ?_)
      repeat (refine Below.setCell ?_ (by simp) _)
      exact hfin
theorem byte_cases (b : UInt8) : b.toNat = 0 ∨ b.toNat = 1 ∨ 1 < b.toNat := by omega
set_option maxHeartbeats 2000000 in
set_option maxRecDepth 100000 in
theorem refRead_any (s : ByteArray) (w : World) (hs : s.size ≤ maxLen) :
    Calls Tryz.prog 42 #[.string s] w (readPost (readR s.data.toList) w) := by
  unfold maxLen at hs
  obtain ⟨i0, hi, hz0, hz1, hz2⟩ := info_parts info_node
  by_cases h1000 : 1000 < s.size
  · have hn : readR s.data.toList = none := by
      have : 1000 < s.data.toList.length := by simpa using h1000
      simp only [readR, if_pos this]
    rw [hn]
    clear hn
    go_enter Tryz.func42, Tryz.ntmps42
    go_wp2
    go_ret2
    exact ⟨rfl, Below.refl _ _⟩
  · have HN : Hid (readR s.data.toList = rdAll s.data.toList.length [] s.data.toList) := by
      have : ¬ 1000 < s.data.toList.length := by simpa using h1000
      simp only [Hid, readR, if_neg this]
    have hd1000 : decide (1000 < (s.size : Int)) = false := by simp; omega
    go_enter Tryz.func42, Tryz.ntmps42
    go_wp2_with fail
    refine (refEmpty_any _).mono ?_
    rintro e w0 ⟨rfl, hb0⟩
    have y0 := hb0.size
    go_wp2
    go_loopw [4, 6] (fun v x wr => ∃ (s' : ByteArray) (acc : List Nd) (ao : Option Addr) (cap : Nat), x = .string s' ∧ v = .slice ao acc.length cap ∧ s'.size ≤ 1000 ∧ acc.length ≤ 64 ∧ Hid (readR s.data.toList = rdAll s'.data.toList.length acc s'.data.toList) ∧
        wr.ownsRow (w0.heap.size + 1) 51 6 (.slice ao acc.length cap) acc.length (acc.flatMap Nd.cells) ∧ Below (w0.heap.size + 1) (w0.alloc (.cells #[.int .i64 0, .int .i64 0, .int .i64 0, .int .i64 0, .int .u8 1, .int .u8 77] 51)) wr)
      (fun _ x _ => strLen x)
    case atStart => exact ⟨s, [], none, 0, rfl, rfl, by omega, by simp, HN, World.ownsRow_nil _ _ _ _, Below.refl _ _⟩
    case round =>
      obtain ⟨s', acc, ao, cap, rfl, rfl, hsz, hacc, HR, hown, hb⟩ := hrel
      have hsw := hb.size
      simp at hsw
      have hfin : Below w.heap.size w wr := (hb0.alloc hb0.size _).trans (hb.mono (by omega))
      by_cases h0 : 0 < s'.size
      · have hne := empty_no s' h0
        have HE : Hid (s'.data.toList ≠ []) := by intro c; have := congrArg List.length c; have e : s'.data.toList.length = s'.size := rfl; simp at this; simp [this] at h0
        have h00 : (0 : Int) < (s'.size : Int) := by omega
        by_cases h64 : acc.length = 64
        · have HF : Hid (readR s.data.toList = none) := by rw [HR.out]; exact rdAll_full acc _ HE.out h64
          have hq : (64 : Int) ≤ (acc.length : Int) := by omega
          clear h64 hown
          go_wp2
          go_ret2
          exact readPost_no HF.out hfin
        · have hq : ¬ (64 : Int) ≤ (acc.length : Int) := by omega
          rcases byte_cases s'[0] with hz | hz | hz
          · have HM : Hid _ := rdMark_is0 _ _ _ (one_byte s' h0) hz
            have HF : Hid _ := rdAll_step acc _ _ _ HE.out HM.out h64
            have HL : Hid _ := rdMark_shorter _ _ _ HM.out
            have hzi : ((s'[0].toNat : Int) == 0) = true := by simp; omega
            obtain ⟨⟨c0, c1, c2, c3, c4, c5⟩, _⟩ := six_new hb
            have hz1' : (s'[0].toNat : Int) ≤ 1 := by omega
            have n1 : 1 ≤ s'.size := h0
            have x1 := size_extract_one s'
            clear h64 hz
            go_wp2_with (at_builtin; refine wpList_append_grew _ rfl _ _ 72 rfl (w0.heap.size + 1) 51 i0 (.agg #[.int .i64 0, .int .i64 0, .int .i64 0, .int .i64 0, .int .u8 0, .int .u8 0]) 6 40 Tryz.underlying72 hi hz0 hz1 hz2 rfl (by decide) _ _ _ rfl (hown.alloc _) ⟨wr.heap.size, 0, none⟩ 1 1 Nd.E.cells rfl rfl ?c1 ?c2 ?c3 ?c4 ?c5 ?_)
            case c1 => exact fun j u hj => hj
            case c2 => exact node_one Nd.E
            case c3 => unfold maxLen; omega
            case c4 => omega
            case c5 => first | omega | (simp; omega)
            intro v' w2 hown' hgrow _
            obtain ⟨ao', cap', hv'⟩ := own_shape hown'
            have hB2 := (hb.alloc hsw (.cells #[.int .i64 0, .int .i64 0, .int .i64 0, .int .i64 0, .int .u8 1, .int .u8 77] 51)).grown hgrow.grown (by simp; omega) (fun j hj => (hown.lt j hj).1)
            rw [hv'] at hown' ⊢
            clear hgrow hown hb c0 c1 c2 c3 c4 c5 hfin
            go_wp2
            go_roundw
            case rel => exact ⟨s'.extract 1 s'.size, acc ++ [Nd.E], ao', cap', rfl, by simp, by omega, by simp; omega, (by rw [HR.out, HF.out]; rfl : Hid _), by simpa using hown', hB2⟩
            case measure => have := HL.out; simpa [strLen] using this
          · have hzi : ((s'[0].toNat : Int) == 0) = false := by simp; omega
            have hz1' : (s'[0].toNat : Int) ≤ 1 := by omega
            have n1 : 1 ≤ s'.size := h0
            have x1 := size_extract_one s'
            have HZ : Hid _ := hz
            clear hz
            go_wp2_with fail
            refine (refNode_any _ _ (by unfold maxLen; omega)).mono ?_
            rintro e w1 ⟨d, s2, b, rfl, ho, hsz2, hb1⟩
            have hB1 := hb.trans (hb1.mono hsw)
            have hown1 := ownsRow_below hown hb1
            have hs1 : wr.heap.size ≤ w1.heap.size := hb1.size
            have hlt0 : w0.heap.size < w1.heap.size := by omega
            have hfin1 : Below w.heap.size w w1 := hfin.trans (hb1.mono (by have := hfin.size; omega))
            obtain ⟨⟨c0, c1, c2, c3, c4, c5⟩, _⟩ := six_new hB1
            clear hown hb hb1 hfin
            rcases ho with ⟨rfl, ho⟩ | ⟨rfl, ho, rfl, _⟩
            · cases hE : d.isE
              · have HM : Hid _ := rdMark_is1 _ _ _ _ _ (one_byte s' h0) HZ.out ho hE
                have HF : Hid _ := rdAll_step acc _ _ _ HE.out HM.out h64
                have HL : Hid _ := rdMark_shorter _ _ _ HM.out
                have hE' : eqN d.c d.s d.m d.x d.h.toNat d.g.toNat 0 0 0 0 1 77 = false := hE
                clear hE ho h64
                go_wp2_with (at_builtin; refine wpList_append_grew _ rfl _ _ 72 rfl (w0.heap.size + 1) 51 i0 (.agg #[.int .i64 0, .int .i64 0, .int .i64 0, .int .i64 0, .int .u8 0, .int .u8 0]) 6 40 Tryz.underlying72 hi hz0 hz1 hz2 rfl (by decide) _ _ _ rfl ((hown1.alloc _).alloc _) ⟨w1.heap.size + 1, 0, none⟩ 1 1 d.cells rfl rfl ?c1 ?c2 ?c3 ?c4 ?c5 ?_)
                case c1 => have := node_new (w1.alloc (.cells #[.int .i64 d.c, .int .i64 d.s, .int .i64 d.m, .int .i64 d.x, .int .u8 d.h.toNat, .int .u8 d.g.toNat] 51)) d 51; simpa using this
                case c2 => exact node_one d
                case c3 => unfold maxLen; omega
                case c4 => omega
                case c5 => simp; omega
                intro v' w2 hown' hgrow _
                obtain ⟨ao', cap', hv'⟩ := own_shape hown'
                have hB2 := ((hB1.alloc (by omega) (.cells #[.int .i64 d.c, .int .i64 d.s, .int .i64 d.m, .int .i64 d.x, .int .u8 d.h.toNat, .int .u8 d.g.toNat] 51)).alloc (by simp; omega) (.cells #[.int .i64 d.c, .int .i64 d.s, .int .i64 d.m, .int .i64 d.x, .int .u8 d.h.toNat, .int .u8 d.g.toNat] 51)).grown hgrow.grown (by simp; omega) (fun j hj => (hown1.lt j hj).1)
                rw [hv'] at hown' ⊢
                clear hgrow hown1 hB1 c0 c1 c2 c3 c4 c5
                go_wp2
                go_roundw
                case rel => exact ⟨s2, acc ++ [d], ao', cap', rfl, by simp, by omega, by simp; omega, (by rw [HR.out, HF.out]; rfl : Hid _), by simpa using hown', hB2⟩
                case measure => have := HL.out; simpa [strLen] using this
              · have HM : Hid _ := rdMark_is1e _ _ _ _ _ (one_byte s' h0) HZ.out ho hE
                have HF : Hid (readR s.data.toList = none) := by rw [HR.out]; exact rdAll_bad acc _ HE.out HM.out
                have hE' : eqN d.c d.s d.m d.x d.h.toNat d.g.toNat 0 0 0 0 1 77 = true := hE
                clear hE ho h64 hown1
                go_wp2
                go_ret2
                exact readPost_no HF.out (hfin1.alloc hfin1.size _)
            · have HM : Hid _ := rdMark_is1n _ _ _ (one_byte s' h0) HZ.out ho
              have HF : Hid (readR s.data.toList = none) := by rw [HR.out]; exact rdAll_bad acc _ HE.out HM.out
              clear ho h64 hown1
              go_wp2
              go_ret2
              exact readPost_no HF.out (hfin1.alloc hfin1.size _)
          · have HM : Hid _ := rdMark_isx _ _ _ (one_byte s' h0) (by omega) (by omega)
            have HF : Hid (readR s.data.toList = none) := by rw [HR.out]; exact rdAll_bad acc _ HE.out HM.out
            have hz1' : (1 : Int) < (s'[0].toNat : Int) := by omega
            clear hown hz
            go_wp2
            go_ret2
            exact readPost_no HF.out hfin
      · have hne : s'.toList.isEmpty = true := by rw [ByteArray.toList_eq, empty_yes s' h0]; rfl
        have HF : Hid (readR s.data.toList = some acc) := by rw [HR.out, empty_yes s' h0]; exact rdAll_nil _ _
        have hown2 : wr.ownsRow w.heap.size 51 6 (.slice ao acc.length cap) acc.length (acc.flatMap Nd.cells) := own_mono hown (by omega)
        clear hown
        go_wp2
        go_ret2
        exact readPost_yes acc HF.out hown2 hfin
end Go.Proofs.YtogmdaopfnmobaaGreat

/- What the document's own answer does (notaryref): half, Together. -/
namespace Go.Proofs.YtogmdaopfnmobaaGreat
open Go.RowKit
set_option maxHeartbeats 400000 in
theorem refHalf_any (n : Nat) (w : World) (h2 : 2 ≤ n) (hn : n ≤ 1000000) :
    Calls Tryz.prog 88 #[.int .i64 n] w fun e w' => e = .returned (.int .i64 (hf n)) ∧ Below w.heap.size w w' := by
  go_enter Tryz.func88, Tryz.ntmps88
  go_wp2
  go_loop [3] (fun k => ∃ p : Nat, k = .int .i64 p ∧ p < n ∧ 1 ≤ p ∧ Hid (∃ j, p = 2 ^ j)) (fun k => n - (intOf k).toNat)
  case atStart => exact ⟨1, rfl, by omega, by omega, 0, rfl⟩
  case round =>
    obtain ⟨p, rfl, hp, hp1, HJ⟩ := hrel
    by_cases hlt : 2 * (p : Int) < n
    · go_wp2
      go_round
      case rel => exact ⟨2 * p, by go_num, by omega, by omega, by obtain ⟨j, e⟩ := HJ.out; exact ⟨j + 1, by rw [e, Nat.pow_succ]; omega⟩⟩
      case measure => simp [intOf]; omega
    · have e : p = hf n := by obtain ⟨j, e⟩ := HJ.out; rw [hf_is n j (by omega) (by omega), e]
      subst e
      go_wp2
      go_ret
      exact ⟨rfl, Below.refl _ _⟩
set_option maxHeartbeats 2000000 in
set_option maxRecDepth 100000 in
theorem refTogether_any (c s m x c' s' m' x' : Int) (w : World) (hc : 0 ≤ c ∧ c ≤ 1000000000000000) (hs : 0 ≤ s ∧ s ≤ 1000000000000000) (hc' : 0 ≤ c' ∧ c' ≤ 1000000000000000) (hs' : 0 ≤ s' ∧ s' ≤ 1000000000000000) :
    Calls Tryz.prog 126 #[.agg #[.int .i64 c, .int .i64 s, .int .i64 m, .int .i64 x], .agg #[.int .i64 c', .int .i64 s', .int .i64 m', .int .i64 x']] w fun e w' =>
      e = .returned (foV (tog ⟨c, s, m, x⟩ ⟨c', s', m', x'⟩)) ∧ Below w.heap.size w w' := by
  by_cases h0 : c = 0
  · subst h0
    go_enter Tryz.func126, Tryz.ntmps126
    go_wp2
    refine bodyPost_ret (v := .agg #[.int .i64 c', .int .i64 (s + s'), .int .i64 m', .int .i64 x']) (by simp [results, Tryz.results126, go_sem]) rfl ⟨?_, ?_⟩
    · simp [foV, tog, *]; try omega
    · repeat (first | exact Below.refl _ _ | refine Below.setCell ?_ (by simp) _ | refine Below.alloc ?_ (by simp; try omega) _)
  · have b0 : (c == 0) = false := by simp [h0]
    by_cases h1 : c' = 0
    · subst h1
      go_enter Tryz.func126, Tryz.ntmps126
      go_wp2
      refine bodyPost_ret (v := .agg #[.int .i64 c, .int .i64 (s + s'), .int .i64 m, .int .i64 x]) (by simp [results, Tryz.results126, go_sem]) rfl ⟨?_, ?_⟩
      · simp [foV, tog, *]; try omega
      · repeat (first | exact Below.refl _ _ | refine Below.setCell ?_ (by simp) _ | refine Below.alloc ?_ (by simp; try omega) _)
    · have b1 : (c' != 0) = true := by simp [h1]
      by_cases h2 : m' < m
      · by_cases h3 : x < x'
        · go_enter Tryz.func126, Tryz.ntmps126
          go_wp2
          refine bodyPost_ret (v := .agg #[.int .i64 (c + c'), .int .i64 (s + s'), .int .i64 m', .int .i64 x']) (by simp [results, Tryz.results126, go_sem]) rfl ⟨?_, ?_⟩
          · simp [foV, tog, *]; try omega
          · repeat (first | exact Below.refl _ _ | refine Below.setCell ?_ (by simp) _ | refine Below.alloc ?_ (by simp; try omega) _)
        · go_enter Tryz.func126, Tryz.ntmps126
          go_wp2
          refine bodyPost_ret (v := .agg #[.int .i64 (c + c'), .int .i64 (s + s'), .int .i64 m', .int .i64 x]) (by simp [results, Tryz.results126, go_sem]) rfl ⟨?_, ?_⟩
          · simp [foV, tog, *]; try omega
          · repeat (first | exact Below.refl _ _ | refine Below.setCell ?_ (by simp) _ | refine Below.alloc ?_ (by simp; try omega) _)
      · by_cases h3 : x < x'
        · go_enter Tryz.func126, Tryz.ntmps126
          go_wp2
          refine bodyPost_ret (v := .agg #[.int .i64 (c + c'), .int .i64 (s + s'), .int .i64 m, .int .i64 x']) (by simp [results, Tryz.results126, go_sem]) rfl ⟨?_, ?_⟩
          · simp [foV, tog, *]; try omega
          · repeat (first | exact Below.refl _ _ | refine Below.setCell ?_ (by simp) _ | refine Below.alloc ?_ (by simp; try omega) _)
        · go_enter Tryz.func126, Tryz.ntmps126
          go_wp2
          refine bodyPost_ret (v := .agg #[.int .i64 (c + c'), .int .i64 (s + s'), .int .i64 m, .int .i64 x]) (by simp [results, Tryz.results126, go_sem]) rfl ⟨?_, ?_⟩
          · simp [foV, tog, *]; try omega
          · repeat (first | exact Below.refl _ _ | refine Below.setCell ?_ (by simp) _ | refine Below.alloc ?_ (by simp; try omega) _)
end Go.Proofs.YtogmdaopfnmobaaGreat

/- What the document's own answer does (notaryref): Inner, Above. -/
namespace Go.Proofs.YtogmdaopfnmobaaGreat
open Go.RowKit
attribute [local go_sem ↓] run_eql_node run_neq_node
set_option maxHeartbeats 1000000 in
set_option maxRecDepth 100000 in
theorem refInner_any (x y : Nd) (w : World) (hx : x.ok = true) (hy : y.ok = true) :
    Calls Tryz.prog 127 #[ndV x, ndV y] w fun e w' => ∃ t : ByteArray, e = .returned (.string t) ∧ t.data.toList = 73 :: (x.bytes ++ y.bytes) ∧ Below w.heap.size w w' := by
  unfold ndV
  have lx := x.bytes_length
  have ly := y.bytes_length
  go_enter Tryz.func127, Tryz.ntmps127
  go_wp2_with fail
  refine (refBytes_nd x _ hx).mono ?_
  rintro e w1 ⟨t1, rfl, e1, hb1⟩
  have z1 : t1.size ≤ 30 := by rw [size_list, e1]; exact lx
  have hc1 := oldc hb1
  have E1 : Hid _ := e1
  clear e1
  have hz1 : w.heap.size + 2 ≤ w1.heap.size := by have := hb1.size; simp at this; omega
  go_wp2_with fail
  refine (refBytes_nd y _ hy).mono ?_
  rintro e w2 ⟨t2, rfl, e2, hb2⟩
  have z2 : t2.size ≤ 30 := by rw [size_list, e2]; exact ly
  have E2 : Hid _ := e2
  clear e2
  have fin : Hid (Below w.heap.size w w2) := ((((Below.refl _ _).alloc (Nat.le_refl _) _).alloc (by simp) _).trans (hb1.mono (by simp; omega))).trans (hb2.mono (by omega))
  clear hb1 hb2 hc1
  go_wp2
  go_ret
  refine ⟨_, rfl, ?_, fin.out⟩
  simp only [app_list, E1.out, E2.out]
  simp
set_option maxHeartbeats 2000000 in
set_option maxRecDepth 100000 in
theorem refAbove_E (w : World) : Calls Tryz.prog 89 #[ndV .E, ndV .E] w fun e w' => e = .returned (ndV .E) ∧ Below w.heap.size w w' := by
  rw [ndV_E]
  have hq : eqN 0 0 0 0 1 77 0 0 0 0 1 77 = true := rfl
  go_enter Tryz.func89, Tryz.ntmps89
  go_wp2_with fail
  refine (refEmpty_any _).mono ?_
  rintro e w1 ⟨rfl, hb1⟩
  have hc1 := oldc hb1
  have hf1 := oldf hb1
  have z0 : w.heap.size < w1.heap.size := by have := hb1.size; simp at this; omega
  have z1 : w.heap.size + 1 < w1.heap.size := by have := hb1.size; simp at this; omega
  have z2 : w.heap.size + 1 + 1 < w1.heap.size := by have := hb1.size; simp at this; omega
  have H6 : Hid (Six w1 (w.heap.size + 1 + 1) _ _ _ _ _ _) := (Six.at _ (w.heap.size + 1 + 1) (by simp) _ _ _ _ _ _).below hb1 (by simp)
  go_wp2
  refine ret_node1 Tryz.results89 ((H6.out.set (.int .i64 0) (.int .i64 0) (.int .i64 0) (.int .i64 0) (.int .u8 1) (.int .u8 77)).alloc _) rfl ⟨rfl, ?_⟩
  refine Below.alloc ?_ (by simp; omega) _
  repeat (refine Below.setCell ?_ (by simp; omega) _)
  exact ((((Below.refl _ _).alloc (Nat.le_refl _) _).alloc (by simp) _).alloc (by simp; omega) _).trans (hb1.mono (by simp; omega))
set_option maxHeartbeats 2000000 in
set_option maxRecDepth 100000 in
theorem refAbove_N (x y : Nd) (b : Bool) (w : World) (hx : x.ok = true) (hy : y.ok = true) (ex : eqN x.c x.s x.m x.x x.h.toNat x.g.toNat 0 0 0 0 1 77 = b) (ey : b = true → eqN y.c y.s y.m y.x y.h.toNat y.g.toNat 0 0 0 0 1 77 = false) :
    Calls Tryz.prog 89 #[ndV x, ndV y] w fun e w' => e = .returned (ndV (mkNd (tog x.fold y.fold) (73 :: (x.bytes ++ y.bytes)))) ∧ Below w.heap.size w w' := by
  have H1 : Hid (x.ok = true) := hx
  have H2 : Hid (y.ok = true) := hy
  have bx := (Nd.ok_iff x).1 hx
  have by' := (Nd.ok_iff y).1 hy
  simp only [isNum_iff] at bx by'
  have HT : ∀ w', Hid (Calls Tryz.prog 126 #[.agg #[.int .i64 x.c, .int .i64 x.s, .int .i64 x.m, .int .i64 x.x], .agg #[.int .i64 y.c, .int .i64 y.s, .int .i64 y.m, .int .i64 y.x]] w' fun e w2 =>
      e = .returned (foV (tog x.fold y.fold)) ∧ Below w'.heap.size w' w2) := fun w' => refTogether_any x.c x.s x.m x.x y.c y.s y.m y.x w' (by omega) (by omega) (by omega) (by omega)
  have HR : ∀ t : List UInt8, Hid (ndV (mkNd (tog x.fold y.fold) t) = _) := fun t => ndV_mk (tog x.fold y.fold) t
  rw [(HR _).out]
  clear hx hy bx by' HR
  have lx := x.bytes_length
  have ly := y.bytes_length
  generalize tog x.fold y.fold = f at HT
  have HI : ∀ w', Hid (Calls Tryz.prog 127 #[ndV x, ndV y] w' fun e w2 => ∃ t : ByteArray, e = .returned (.string t) ∧ t.data.toList = 73 :: (x.bytes ++ y.bytes) ∧ Below w'.heap.size w' w2) := fun w' => refInner_any x y w' H1.out H2.out
  clear H1 H2
  generalize hT : (73 : UInt8) :: (x.bytes ++ y.bytes) = T at HI
  have lT : T.length ≤ 61 := by rw [← hT]; simp; omega
  clear hT lx ly
  obtain ⟨c, s, m, x, h, g⟩ := x
  obtain ⟨c', s', m', x', h', g'⟩ := y
  simp only [ndV] at HI ex ey ⊢
  cases b with
  | false =>
    clear ey
    go_enter Tryz.func89, Tryz.ntmps89
    go_wp2_with fail
    refine (refEmpty_any _).mono ?_
    rintro e w1 ⟨rfl, hb1⟩
    have hc1 := oldc hb1
    have z0 : w.heap.size < w1.heap.size := by have := hb1.size; simp at this; omega
    have z1 : w.heap.size + 1 < w1.heap.size := by have := hb1.size; simp at this; omega
    have z2 : w.heap.size + 1 + 1 < w1.heap.size := by have := hb1.size; simp at this; omega
    have H6 : Hid (Six w1 (w.heap.size + 1 + 1) _ _ _ _ _ _) := (Six.at _ (w.heap.size + 1 + 1) (by simp) _ _ _ _ _ _).below hb1 (by simp)
    have B1 : Hid (Below w.heap.size w w1) := ((((Below.refl _ _).alloc (Nat.le_refl _) _).alloc (by simp) _).alloc (by simp; omega) _).trans (hb1.mono (by simp; omega))
    clear hb1
    go_wp2_with fail
    refine (HT _).out.mono ?_
    rintro e w2 ⟨rfl, hb2⟩
    rw [foV]
    have hc2 := oldc hb2
    have y0 : w.heap.size < w2.heap.size := by have := hb2.size; simp at this; omega
    have y1 : w.heap.size + 1 < w2.heap.size := by have := hb2.size; simp at this; omega
    have y2 : w.heap.size + 1 + 1 < w2.heap.size := by have := hb2.size; simp at this; omega
    have H7 : Hid (Six w2 (w.heap.size + 1 + 1) _ _ _ _ _ _) := (H6.out.alloc _).below hb2 (by simp; omega)
    have B2 : Hid (Below w.heap.size w w2) := (B1.out.alloc (by omega) _).trans (hb2.mono (by simp; omega))
    clear hb2 H6 B1 HT
    go_wp2_with fail
    refine (HI _).out.mono ?_
    rintro e w3 ⟨t, rfl, et, hb3⟩
    have hc3 := oldc hb3
    have x0 : w.heap.size < w3.heap.size := by have := hb3.size; simp at this; omega
    have x2 : w.heap.size + 1 + 1 < w3.heap.size := by have := hb3.size; simp at this; omega
    have x3 : w2.heap.size < w3.heap.size := by have := hb3.size; simp at this; omega
    have H8 : Hid (Six w3 (w.heap.size + 1 + 1) _ _ _ _ _ _) := (H7.out.alloc _).below hb3 (by simp; omega)
    have B3 : Hid (Below w.heap.size w w3) := (B2.out.alloc (by omega) _).trans (hb3.mono (by simp; omega))
    have lt : t.size ≤ maxLen := by rw [size_list, et]; unfold maxLen; omega
    have ET : Hid _ := et
    clear hb3 H7 B2 HI et
    go_wp2_with fail
    refine (refHash_any t _ lt).mono ?_
    rw [ET.out]
    rintro e w4 ⟨rfl, hb4⟩
    have hc4 := oldc hb4
    have v0 : w2.heap.size < w4.heap.size := by have := hb4.size; omega
    have v2 : w.heap.size + 1 + 1 < w4.heap.size := by have := hb4.size; omega
    have H9 : Hid (Six w4 (w.heap.size + 1 + 1) _ _ _ _ _ _) := H8.out.below hb4 (by omega)
    have B4 : Hid (Below w.heap.size w w4) := B3.out.trans (hb4.mono (by omega))
    have F9 : ∀ o, w4.frozen? ⟨w.heap.size + 1 + 1, o, none⟩ = false := fun o => by simp [World.frozen?, H9.out.eq]
    clear hb4 H8 B3
    go_wp2
    refine ret_node1 Tryz.results89 ((H9.out.set _ _ _ _ _ _).alloc _) rfl ⟨rfl, ?_⟩
    refine Below.alloc ?_ (by simp; omega) _
    repeat (refine Below.setCell ?_ (by simp; omega) _)
    exact B4.out
  | true =>
    have ey' := ey rfl
    clear ey
    go_enter Tryz.func89, Tryz.ntmps89
    go_wp2_with fail
    refine (refEmpty_any _).mono ?_
    rintro e w1 ⟨rfl, hb1⟩
    have hc1 := oldc hb1
    have z0 : w.heap.size < w1.heap.size := by have := hb1.size; simp at this; omega
    have z1 : w.heap.size + 1 < w1.heap.size := by have := hb1.size; simp at this; omega
    have z2 : w.heap.size + 1 + 1 < w1.heap.size := by have := hb1.size; simp at this; omega
    have H6 : Hid (Six w1 (w.heap.size + 1 + 1) _ _ _ _ _ _) := (Six.at _ (w.heap.size + 1 + 1) (by simp) _ _ _ _ _ _).below hb1 (by simp)
    have B1 : Hid (Below w.heap.size w w1) := ((((Below.refl _ _).alloc (Nat.le_refl _) _).alloc (by simp) _).alloc (by simp; omega) _).trans (hb1.mono (by simp; omega))
    clear hb1
    go_wp2_with fail
    refine (HT _).out.mono ?_
    rintro e w2 ⟨rfl, hb2⟩
    rw [foV]
    have hc2 := oldc hb2
    have y0 : w.heap.size < w2.heap.size := by have := hb2.size; simp at this; omega
    have y1 : w.heap.size + 1 < w2.heap.size := by have := hb2.size; simp at this; omega
    have y2 : w.heap.size + 1 + 1 < w2.heap.size := by have := hb2.size; simp at this; omega
    have H7 : Hid (Six w2 (w.heap.size + 1 + 1) _ _ _ _ _ _) := (H6.out.alloc _).below hb2 (by simp; omega)
    have B2 : Hid (Below w.heap.size w w2) := (B1.out.alloc (by omega) _).trans (hb2.mono (by simp; omega))
    clear hb2 H6 B1 HT
    go_wp2_with fail
    refine (HI _).out.mono ?_
    rintro e w3 ⟨t, rfl, et, hb3⟩
    have hc3 := oldc hb3
    have x0 : w.heap.size < w3.heap.size := by have := hb3.size; simp at this; omega
    have x2 : w.heap.size + 1 + 1 < w3.heap.size := by have := hb3.size; simp at this; omega
    have x3 : w2.heap.size < w3.heap.size := by have := hb3.size; simp at this; omega
    have H8 : Hid (Six w3 (w.heap.size + 1 + 1) _ _ _ _ _ _) := (H7.out.alloc _).below hb3 (by simp; omega)
    have B3 : Hid (Below w.heap.size w w3) := (B2.out.alloc (by omega) _).trans (hb3.mono (by simp; omega))
    have lt : t.size ≤ maxLen := by rw [size_list, et]; unfold maxLen; omega
    have ET : Hid _ := et
    clear hb3 H7 B2 HI et
    go_wp2_with fail
    refine (refHash_any t _ lt).mono ?_
    rw [ET.out]
    rintro e w4 ⟨rfl, hb4⟩
    have hc4 := oldc hb4
    have v0 : w2.heap.size < w4.heap.size := by have := hb4.size; omega
    have v2 : w.heap.size + 1 + 1 < w4.heap.size := by have := hb4.size; omega
    have H9 : Hid (Six w4 (w.heap.size + 1 + 1) _ _ _ _ _ _) := H8.out.below hb4 (by omega)
    have B4 : Hid (Below w.heap.size w w4) := B3.out.trans (hb4.mono (by omega))
    have F9 : ∀ o, w4.frozen? ⟨w.heap.size + 1 + 1, o, none⟩ = false := fun o => by simp [World.frozen?, H9.out.eq]
    clear hb4 H8 B3
    go_wp2
    refine ret_node1 Tryz.results89 ((H9.out.set _ _ _ _ _ _).alloc _) rfl ⟨rfl, ?_⟩
    refine Below.alloc ?_ (by simp; omega) _
    repeat (refine Below.setCell ?_ (by simp; omega) _)
    exact B4.out
theorem refAbove_any (x y : Nd) (w : World) (hx : x.ok = true) (hy : y.ok = true) :
    Calls Tryz.prog 89 #[ndV x, ndV y] w fun e w' => e = .returned (ndV (ab x y)) ∧ Below w.heap.size w w' := by
  by_cases h : x = .E ∧ y = .E
  · obtain ⟨rfl, rfl⟩ := h
    exact refAbove_E w
  · unfold ab
    rw [if_neg h]
    refine refAbove_N x y _ w hx hy (eqN_E x) fun hb => ?_
    rw [eqN_E y]
    simp only [decide_eq_true_eq] at hb
    simp only [decide_eq_false_iff_not]
    exact fun hy => h ⟨hb, hy⟩
end Go.Proofs.YtogmdaopfnmobaaGreat

/- What the document's own answer does (notaryref): single, Part, Whole, Root. -/
namespace Go.Proofs.YtogmdaopfnmobaaGreat
open Go.RowKit
structure TreeIn (w : World) (B : Nat) (vv hv : Value) (vs : List Int) (hs : List Bool) : Prop where
  hv1 : Cells1 w B vv (vs.map (.int .i64))
  hv2 : Cells1 w B hv (hs.map .bool)
  len : hs.length = vs.length
  small : vs.length ≤ 64
  val : ∀ v ∈ vs, 0 ≤ v ∧ v ≤ 1000000
theorem TreeIn.below {w w' : World} {B : Nat} {vv hv : Value} {vs : List Int} {hs : List Bool} (h : TreeIn w B vv hv vs hs) (hb : Below B w w') : TreeIn w' B vv hv vs hs := ⟨h.hv1.below hb, h.hv2.below hb, h.len, h.small, h.val⟩
theorem TreeIn.mono {w : World} {B B' : Nat} {vv hv : Value} {vs : List Int} {hs : List Bool} (h : TreeIn w B vv hv vs hs) (hb : B ≤ B') : TreeIn w B' vv hv vs hs := ⟨h.hv1.mono hb, h.hv2.mono hb, h.len, h.small, h.val⟩
set_option maxHeartbeats 2000000 in
set_option maxRecDepth 100000 in
theorem refSingle_any (tb : Bool) (vv hv : Value) (vs : List Int) (hs : List Bool) (i : Nat) (w : World) (hT : TreeIn w w.heap.size vv hv vs hs) (hi : i < vs.length) :
    Calls Tryz.prog 87 #[.agg #[.bool tb, vv, hv], .int .i64 i] w fun e w' => e = .returned (ndV (lf tb vs hs i)) ∧ Below w.heap.size w w' := by
  have hi2 : i < hs.length := by rw [hT.len]; exact hi
  have hi64 : i < 64 := by have := hT.small; omega
  obtain ⟨a1, p1, rfl, _⟩ := hT.hv1.ex
  obtain ⟨a2, p2, rfl, _⟩ := hT.hv2.ex
  obtain ⟨b1, o1, rfl, hb1, hc1⟩ := hT.hv1.at i (.int .i64 vs[i]) (by simp [hi])
  obtain ⟨b2, o2, rfl, hb2, hc2⟩ := hT.hv2.at i (.bool hs[i]) (by simp [hi2])
  have hval := hT.val _ (List.getElem_mem hi)
  have e1 : hs.getD i false = hs[i] := by simp [hi2]
  have e2 : vs.getD i 0 = vs[i] := by simp [hi]
  unfold lf
  rw [e1, e2]
  simp only [List.length_map]
  have hil : (i : Int) < hs.length := by omega
  have hil2 : (i : Int) < vs.length := by omega
  clear hT e1 e2
  generalize hs[i] = hb at hc2
  obtain ⟨v, hv⟩ : ∃ v : Nat, vs[i] = (v : Int) := Int.eq_ofNat_of_zero_le hval.1
  rw [hv] at hc1 hval ⊢
  clear hv hi hi2
  have hv5 := (num_length v).1
  have hi5 := (num_length i).1
  cases hb with
  | false =>
    simp only [Bool.false_eq_true, if_false]
    rw [ndV_E]
    go_enter Tryz.func87, Tryz.ntmps87
    go_wp2_with fail
    refine (refEmpty_any _).mono ?_
    rintro e w1 ⟨rfl, hbl⟩
    have z1 : w.heap.size + 1 < w1.heap.size := by have := hbl.size; simp at this; omega
    have H6 : Hid (Six w1 (w.heap.size + 1) _ _ _ _ _ _) := (Six.at _ (w.heap.size + 1) (by simp) _ _ _ _ _ _).below hbl (by simp)
    have B1 : Hid (Below w.heap.size w w1) := (((Below.refl _ _).alloc (Nat.le_refl _) _).alloc (by simp) _).trans (hbl.mono (by simp; omega))
    have F6 : ∀ o, w1.frozen? ⟨w.heap.size + 1, o, none⟩ = false := fun o => by simp [World.frozen?, H6.out.eq]
    obtain ⟨k0, k1, k2, k3, k4, k5⟩ := H6.out.cells
    clear hbl
    go_wp2
    refine ret_node1 Tryz.results87 (H6.out.set _ _ _ _ _ _) rfl ⟨rfl, ?_⟩
    repeat (refine Below.setCell ?_ (by simp) _)
    exact B1.out
  | true =>
    simp only [if_true]
    rw [ndV_mk]
    go_enter Tryz.func87, Tryz.ntmps87
    go_wp2_with fail
    refine (refNum_any v _ (by omega)).mono ?_
    rintro e w1 ⟨t1, rfl, et1, hbl⟩
    have s1 : t1.size ≤ 7 := by rw [size_list, et1]; exact hv5
    have z0 : w.heap.size < w1.heap.size := by have := hbl.size; simp at this; omega
    have z1 : w.heap.size + 1 < w1.heap.size := by have := hbl.size; simp at this; omega
    have H6 : Hid (Six w1 (w.heap.size + 1) _ _ _ _ _ _) := (Six.at _ (w.heap.size + 1) (by simp) _ _ _ _ _ _).below hbl (by simp)
    have B1 : Hid (Below w.heap.size w w1) := (((Below.refl _ _).alloc (Nat.le_refl _) _).alloc (by simp) _).trans (hbl.mono (by simp; omega))
    have hq1 := oldc hbl
    have E1 : Hid _ := et1
    clear hbl et1
    cases tb with
    | false =>
      go_wp2_with fail
      refine (refHash_any _ _ (by simp only [size_app, size_byte]; unfold maxLen; omega)).mono ?_
      rintro e w4 ⟨rfl, hb4⟩
      have v2 : w.heap.size + 1 < w4.heap.size := by have := hb4.size; omega
      have H9 : Hid (Six w4 (w.heap.size + 1) _ _ _ _ _ _) := H6.out.below hb4 (by omega)
      have B4 : Hid (Below w.heap.size w w4) := B1.out.trans (hb4.mono (by omega))
      have F9 : ∀ o, w4.frozen? ⟨w.heap.size + 1, o, none⟩ = false := fun o => by simp [World.frozen?, H9.out.eq]
      obtain ⟨k0, k1, k2, k3, k4, k5⟩ := H9.out.cells
      clear hb4 H6 B1 hq1
      have et : lfText false i v = (⟨#[76]⟩ ++ t1 : ByteArray).data.toList := by rw [app_list, E1.out]; simp [lfText]
      have ET : Hid _ := et
      clear et
      go_wp2
      refine ret_node1 Tryz.results87 ((H9.out.set _ _ _ _ _ _).alloc _) rfl ⟨by rw [ET.out]; rfl, ?_⟩
      refine Below.alloc ?_ (by simp; omega) _
      repeat (refine Below.setCell ?_ (by simp) _)
      exact B4.out
    | true =>
      go_wp2_with fail
      refine (refNum_any i _ (by omega)).mono ?_
      rintro e w2 ⟨t2, rfl, et2, hb2⟩
      have s2 : t2.size ≤ 7 := by rw [size_list, et2]; exact hi5
      have y1 : w.heap.size + 1 < w2.heap.size := by have := hb2.size; omega
      have H7 : Hid (Six w2 (w.heap.size + 1) _ _ _ _ _ _) := H6.out.below hb2 (by omega)
      have B2 : Hid (Below w.heap.size w w2) := B1.out.trans (hb2.mono (by omega))
      have E2 : Hid _ := et2
      clear hb2 et2 H6 B1
      go_wp2_with fail
      refine (refNum_any v _ (by omega)).mono ?_
      rintro e w3 ⟨t3, rfl, et3, hb3⟩
      have s3 : t3.size ≤ 7 := by rw [size_list, et3]; exact hv5
      have x1 : w.heap.size + 1 < w3.heap.size := by have := hb3.size; omega
      have H8 : Hid (Six w3 (w.heap.size + 1) _ _ _ _ _ _) := H7.out.below hb3 (by omega)
      have B3 : Hid (Below w.heap.size w w3) := B2.out.trans (hb3.mono (by omega))
      have E3 : Hid _ := et3
      clear hb3 et3 H7 B2
      go_wp2_with fail
      refine (refHash_any _ _ (by simp only [size_app, size_byte]; unfold maxLen; omega)).mono ?_
      rintro e w4 ⟨rfl, hb4⟩
      have v2 : w.heap.size + 1 < w4.heap.size := by have := hb4.size; omega
      have H9 : Hid (Six w4 (w.heap.size + 1) _ _ _ _ _ _) := H8.out.below hb4 (by omega)
      have B4 : Hid (Below w.heap.size w w4) := B3.out.trans (hb4.mono (by omega))
      have F9 : ∀ o, w4.frozen? ⟨w.heap.size + 1, o, none⟩ = false := fun o => by simp [World.frozen?, H9.out.eq]
      obtain ⟨k0, k1, k2, k3, k4, k5⟩ := H9.out.cells
      clear hb4 H8 B3 hq1
      have et : lfText true i v = (⟨#[84]⟩ ++ t2 ++ t3 : ByteArray).data.toList := by rw [app_list, app_list, E2.out, E3.out]; simp [lfText]
      have ET : Hid _ := et
      clear et
      go_wp2
      refine ret_node1 Tryz.results87 ((H9.out.set _ _ _ _ _ _).alloc _) rfl ⟨by rw [ET.out]; rfl, ?_⟩
      refine Below.alloc ?_ (by simp; omega) _
      repeat (refine Below.setCell ?_ (by simp) _)
      exact B4.out
end Go.Proofs.YtogmdaopfnmobaaGreat

