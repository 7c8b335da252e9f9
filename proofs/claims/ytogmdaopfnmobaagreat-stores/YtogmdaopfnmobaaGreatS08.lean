/- What is said of rows of nodes, for all laws. -/
import Derived.Lib.SliceRun
import Derived.Test.YtogmdaopfnmobaaGreatS07
import Derived.Test.YtogmdaopfnmobaaGreatS02
namespace Go.Proofs.YtogmdaopfnmobaaGreat
open Go.RowKit
theorem Nodes.own {w : World} {base : Nat} {v : Value} {l : List Nd} (h : w.ownsRow base 51 6 v l.length (l.flatMap Nd.cells)) (hl : l.length ≤ 1000) : Nodes w w.heap.size v l := by
  constructor
  have hfl : ∀ (l : List Nd) (i j : Nat) (hi : i < l.length) (hj : j < 6), (l.flatMap Nd.cells)[i * 6 + j]? = some ((l[i]).cells[j]'(by simp [Nd.cells]; omega)) := by
    intro l
    induction l with
    | nil => intro i j hi; simp at hi
    | cons d r ih =>
      intro i j hi hj
      have hd : d.cells.length = 6 := rfl
      cases i with
      | zero =>
        simp only [List.flatMap_cons, Nat.zero_mul, Nat.zero_add, List.getElem_cons_zero]
        rw [List.getElem?_append_left (by omega), List.getElem?_eq_getElem]
      | succ i =>
        simp only [List.flatMap_cons, List.getElem_cons_succ]
        rw [List.getElem?_append_right (by omega), hd, show (i + 1) * 6 + j - 6 = i * 6 + j from by omega]
        exact ih i j (by simpa using hi) hj
  rcases h.2 with ⟨rfl, h0⟩ | ⟨g, cap, cur, rfl, _, hg, _, _, _, ht⟩
  · exact ⟨none, 0, by rw [h0], by omega, fun i hi => by omega⟩
  · refine ⟨_, cap, rfl, by omega, fun i hi => ⟨g, 0, rfl, (Array.getElem?_eq_some_iff.1 hg).1, fun j hj => ?_⟩⟩
    have := h.cells (g := g) rfl (i * 6 + j) _ (hfl l i j hi hj)
    rw [← this]
    unfold Addr.add
    split
    · simp_all
    · simp
theorem Nodes.below {w w' : World} {B : Nat} {v : Value} {l : List Nd} (h : Nodes w B v l) (hb : Below B w w') : Nodes w' B v l := by
  obtain ⟨ao, cap, hv, hm, hc⟩ := h.ex
  refine ⟨ao, cap, hv, hm, fun i hi => ?_⟩
  obtain ⟨b, off, ha, hB, hcs⟩ := hc i hi
  exact ⟨b, off, ha, hB, fun j hj => (hb.cell (p := ⟨b, off + i * 6 + j, none⟩) hB).trans (hcs j hj)⟩
theorem Nodes.mono {w : World} {B B' : Nat} {v : Value} {l : List Nd} (h : Nodes w B v l) (hb : B ≤ B') : Nodes w B' v l := by
  obtain ⟨ao, cap, hv, hm, hc⟩ := h.ex
  refine ⟨ao, cap, hv, hm, fun i hi => ?_⟩
  obtain ⟨b, off, ha, hB, hcs⟩ := hc i hi
  exact ⟨b, off, ha, by omega, hcs⟩
theorem eqNd (d e : Nd) : eqN d.c d.s d.m d.x d.h.toNat d.g.toNat e.c e.s e.m e.x e.h.toNat e.g.toNat = true ↔ d = e := by
  rw [eqN_true]
  cases d; cases e
  simp only [Nd.mk.injEq, ← UInt8.toNat_inj]
  omega
end Go.Proofs.YtogmdaopfnmobaaGreat

/- Nodes, folds and rows as values and in memory: what the walks of the program and of the document share. -/
namespace Go.Proofs.YtogmdaopfnmobaaGreat
open Go.RowKit
theorem Six.alloc {w : World} {g : Nat} {c0 c1 c2 c3 c4 c5 : Value} (h : Six w g c0 c1 c2 c3 c4 c5) (o : Obj) : Six (w.alloc o) g c0 c1 c2 c3 c4 c5 := by
  unfold Six at h ⊢
  rw [Below.heap_alloc w o g (Array.getElem?_eq_some_iff.1 h).1]; exact h
theorem ret_node1 {w : World} {g : Nat} {c0 c1 c2 c3 c4 c5 : Value} {fn : Func} {R : Ending → World → Prop} {tmps : Array Value} {k : Nat} (hf : fn.results = #[.cell k 51]) (h : Six w g c0 c1 c2 c3 c4 c5)
    (h2 : tmps[k]? = some (.pointer (some ⟨g, 0, none⟩))) (hR : R (.returned (.agg #[c0, c1, c2, c3, c4, c5])) w) : bodyPost Tryz.prog fn R .ret ⟨tmps, []⟩ w := by
  obtain ⟨k0, k1, k2, k3, k4, k5⟩ := h.cells
  refine bodyPost_ret (v := .agg #[c0, c1, c2, c3, c4, c5]) ?_ rfl hR
  simp [results, hf, go_sem, h2, k0, k1, k2, k3, k4, k5]
theorem app_list (s t : ByteArray) : (s ++ t).data.toList = s.data.toList ++ t.data.toList := by simp
theorem size_list (s : ByteArray) : s.size = s.data.toList.length := rfl
theorem str_of {t : ByteArray} {l : List UInt8} (h : t.data.toList = l) : t = ⟨l.toArray⟩ := by
  subst h
  simp
theorem hf_is (n j : Nat) (h1 : 2 ^ j < n) (h2 : n ≤ 2 * 2 ^ j) : hf n = 2 ^ j := by
  have := Nat.two_pow_pos j
  have e : (n - 1).log2 = j := (Nat.log2_eq_iff (by omega)).2 ⟨by omega, by rw [Nat.pow_succ]; omega⟩
  rw [hf, e]
def foV (f : Fo) : Value := .agg #[.int .i64 f.c, .int .i64 f.s, .int .i64 f.m, .int .i64 f.x]
def ndV (d : Nd) : Value := .agg #[.int .i64 d.c, .int .i64 d.s, .int .i64 d.m, .int .i64 d.x, .int .u8 (d.h.toNat : Int), .int .u8 (d.g.toNat : Int)]
theorem u8_div (t : List UInt8) : ((UInt8.ofNat (dg t / 256)).toNat : Int) = (dg t : Int) / 256 := by
  have := dg_lt t
  rw [UInt8.toNat_ofNat_of_lt' (by have : UInt8.size = 256 := rfl; omega)]; omega
theorem u8_mod (t : List UInt8) : ((UInt8.ofNat (dg t % 256)).toNat : Int) = (dg t : Int) % 256 := by
  rw [UInt8.toNat_ofNat_of_lt' (by have : UInt8.size = 256 := rfl; omega)]; omega
theorem ndV_mk (f : Fo) (t : List UInt8) : ndV (mkNd f t) = .agg #[.int .i64 f.c, .int .i64 f.s, .int .i64 f.m, .int .i64 f.x, .int .u8 ((dg t : Int) / 256), .int .u8 ((dg t : Int) % 256)] := by
  simp only [ndV, mkNd, u8_div, u8_mod]
theorem ndV_E : ndV .E = .agg #[.int .i64 0, .int .i64 0, .int .i64 0, .int .i64 0, .int .u8 1, .int .u8 77] := rfl
theorem eqN_E (d : Nd) : eqN d.c d.s d.m d.x d.h.toNat d.g.toNat 0 0 0 0 1 77 = decide (d = .E) := by
  by_cases h : d = .E
  · rw [h]; rfl
  · have := mt (Nd.isE_iff d).1 h
    simp only [Nd.isE, Bool.not_eq_true] at this
    rw [this]; simp [h]
theorem Six.at (w : World) (n : Nat) (hn : n = w.heap.size) (c0 c1 c2 c3 c4 c5 : Value) : Six (w.alloc (.cells #[c0, c1, c2, c3, c4, c5] 51)) n c0 c1 c2 c3 c4 c5 := by
  subst hn
  exact Six.new w c0 c1 c2 c3 c4 c5
theorem Six.eq {w : World} {g : Nat} {c0 c1 c2 c3 c4 c5 : Value} (h : Six w g c0 c1 c2 c3 c4 c5) : w.heap[g]? = some (.cells #[c0, c1, c2, c3, c4, c5] 51 (0, 0)) := h
structure Cells1 (w : World) (B : Nat) (v : Value) (l : List Value) : Prop where
  ex : ∃ ao cap, v = .slice ao l.length cap ∧ ∀ (i : Nat) (hi : i < l.length), ∃ b off, ao = some ⟨b, off, none⟩ ∧ b < B ∧ w.cell? ⟨b, off + i, none⟩ = some l[i]
theorem Cells1.below {w w' : World} {B : Nat} {v : Value} {l : List Value} (h : Cells1 w B v l) (hb : Below B w w') : Cells1 w' B v l := by
  obtain ⟨ao, cap, hv, hc⟩ := h.ex
  refine ⟨ao, cap, hv, fun i hi => ?_⟩
  obtain ⟨b, off, ha, hB, hcs⟩ := hc i hi
  exact ⟨b, off, ha, hB, (hb.cell (p := ⟨b, off + i, none⟩) hB).trans hcs⟩
theorem Cells1.mono {w : World} {B B' : Nat} {v : Value} {l : List Value} (h : Cells1 w B v l) (hb : B ≤ B') : Cells1 w B' v l := by
  obtain ⟨ao, cap, hv, hc⟩ := h.ex
  refine ⟨ao, cap, hv, fun i hi => ?_⟩
  obtain ⟨b, off, ha, hB, hcs⟩ := hc i hi
  exact ⟨b, off, ha, by omega, hcs⟩
theorem Cells1.at {w : World} {B : Nat} {ao : Option Addr} {n cap : Nat} {l : List Value} (h : Cells1 w B (.slice ao n cap) l) (i : Nat) (u : Value) (hu : l[i]? = some u) : ∃ b off, ao = some ⟨b, off, none⟩ ∧ b < B ∧ w.cell? ⟨b, off + i, none⟩ = some u := by
  obtain ⟨ao', cap', hv, hc⟩ := h.ex
  simp at hv
  obtain ⟨hi, e⟩ := List.getElem?_eq_some_iff.1 hu
  obtain ⟨b, off, ha, hB, hcs⟩ := hc i hi
  exact ⟨b, off, by rw [hv.1]; exact ha, hB, by rw [hcs, e]⟩
def lfText (tb : Bool) (i : Nat) (v : Int) : List UInt8 := if tb then 84 :: (num i ++ num v.toNat) else 76 :: num v.toNat
def lf (tb : Bool) (vs : List Int) (hs : List Bool) (i : Nat) : Nd := if hs.getD i false then mkNd (.one (vs.getD i 0)) (lfText tb i (vs.getD i 0)) else .E
def bd (n : Nat) (d : Nd) : Prop := (0 ≤ d.c ∧ d.c ≤ n) ∧ (0 ≤ d.s ∧ d.s ≤ 1000000 * n) ∧ (0 ≤ d.m ∧ d.m ≤ 1000000) ∧ (0 ≤ d.x ∧ d.x ≤ 1000000)
theorem bd_E (n : Nat) : bd n .E := by refine ⟨⟨?_, ?_⟩, ⟨?_, ?_⟩, ⟨?_, ?_⟩, ⟨?_, ?_⟩⟩ <;> simp [Nd.E]; omega
theorem bd_mono {n m : Nat} {d : Nd} (h : bd n d) (hn : n ≤ m) : bd m d := by
  obtain ⟨⟨a, b⟩, ⟨c, e⟩, f, g⟩ := h
  exact ⟨⟨a, by omega⟩, ⟨c, by omega⟩, f, g⟩
theorem bd_ok {n : Nat} {d : Nd} (h : bd n d) (hn : n ≤ 1000) : d.ok = true := by
  obtain ⟨⟨a, b⟩, ⟨c, e⟩, ⟨f, g⟩, ⟨i, j⟩⟩ := h
  rw [Nd.ok_iff]
  simp only [isNum_iff]
  omega
theorem bd_ab {n m : Nat} {x y : Nd} (hx : bd n x) (hy : bd m y) : bd (n + m) (ab x y) := by
  obtain ⟨⟨a, b⟩, ⟨c, e⟩, ⟨f, g⟩, ⟨i, j⟩⟩ := hx
  obtain ⟨⟨a', b'⟩, ⟨c', e'⟩, ⟨f', g'⟩, ⟨i', j'⟩⟩ := hy
  rw [ab_eq]
  simp only [bd, mkNd, tog, Nd.fold]
  refine ⟨⟨by omega, by omega⟩, ⟨by omega, by omega⟩, ?_, ?_⟩
  · by_cases p : x.c = 0 <;> by_cases q : y.c = 0 <;> simp [p, q] <;> omega
  · by_cases p : x.c = 0 <;> by_cases q : y.c = 0 <;> simp [p, q] <;> omega
theorem tr_bd {lf : Nat → Nd} (h : ∀ i, bd 1 (lf i)) : ∀ (n a b : Nat), b - a ≤ n → bd (b - a) (tr lf a b) := by
  intro n
  induction n with
  | zero => intro a b hn; rw [tr_none lf a b (by omega)]; exact bd_E _
  | succ n ih =>
    intro a b hn
    by_cases h0 : b ≤ a
    · rw [tr_none lf a b h0]; exact bd_E _
    by_cases h1 : b < a + 2
    · obtain rfl : b = a + 1 := by omega
      rw [tr_one]; exact bd_mono (h a) (by omega)
    · have p := hf_pos (b - a)
      have q := hf_lt (b - a) (by omega)
      rw [tr_two lf a b (by omega)]
      exact bd_mono (bd_ab (ih a _ (by omega)) (ih _ b (by omega))) (by omega)
theorem bd_one (v : Int) (t : List UInt8) (h : 0 ≤ v ∧ v ≤ 1000000) : bd 1 (mkNd (.one v) t) := by
  refine ⟨⟨?_, ?_⟩, ⟨?_, ?_⟩, ⟨?_, ?_⟩, ⟨?_, ?_⟩⟩ <;> simp [mkNd, Fo.one] <;> omega
theorem lf_bd {tb : Bool} {vs : List Int} {hs : List Bool} (h : ∀ v ∈ vs, 0 ≤ v ∧ v ≤ 1000000) (i : Nat) : bd 1 (lf tb vs hs i) := by
  unfold lf
  split
  · refine bd_one _ _ ?_
    by_cases hi : i < vs.length
    · have := h _ (List.getElem_mem hi)
      simpa [hi] using this
    · simp [List.getElem?_eq_none (Nat.le_of_not_lt hi)]
  · exact bd_E _
theorem tr_ok {tb : Bool} {vs : List Int} {hs : List Bool} (h : ∀ v ∈ vs, 0 ≤ v ∧ v ≤ 1000000) (a b : Nat) (hb : b ≤ 1000) : (tr (lf tb vs hs) a b).ok = true := bd_ok (tr_bd (lf_bd h) (b - a) a b (Nat.le_refl _)) (by omega)
def hdText (n : Nat) (d : Nd) : List UInt8 := 72 :: (num n ++ d.bytes)
theorem cov_len (f t : Nat) : ∀ n a b, b - a ≤ n → 1 ≤ (cov a b f t).length ∧ (cov a b f t).length ≤ max 1 (b - a) := by
  intro n
  induction n with
  | zero => intro a b h; rw [cov, if_pos (by omega)]; simp; omega
  | succ n ih =>
    intro a b h
    by_cases hs : isOut a b f t = true ∨ isIn a b f t = true ∨ b < a + 2
    · rw [cov, if_pos hs]; simp; omega
    · rw [cov, if_neg hs]
      have p := hf_pos (b - a)
      have q := hf_lt (b - a) (by omega)
      have h1 := ih a (a + hf (b - a)) (by omega)
      have h2 := ih (a + hf (b - a)) b (by omega)
      rw [List.length_append]
      omega
def isVal (v : Int) : Bool := decide (0 ≤ v ∧ v ≤ 1000000)
theorem isVal_iff (v : Int) : isVal v = true ↔ 0 ≤ v ∧ v ≤ 1000000 := by simp [isVal]
theorem take_succ_sum (l : List Int) (k : Nat) (h : k < l.length) : (l.take (k + 1)).sum = (l.take k).sum + l[k] := by
  rw [List.take_succ_eq_append_getElem h, List.sum_append]; simp
theorem sum_bd (l : List Int) (h : ∀ v ∈ l, 0 ≤ v ∧ v ≤ 1000000) : 0 ≤ l.sum ∧ l.sum ≤ 1000000 * l.length := by
  induction l with
  | nil => simp
  | cons a r ih =>
    have h1 := h a (by simp)
    have h2 := ih fun v hv => h v (by simp [hv])
    simp only [List.sum_cons, List.length_cons]
    omega
def FoAt (w : World) (g : Nat) (f : Fo) : Prop := w.heap[g]? = some (.cells #[.int .i64 f.c, .int .i64 f.s, .int .i64 f.m, .int .i64 f.x] 47 (0, 0))
theorem FoAt.cells {w : World} {g : Nat} {f : Fo} (h : FoAt w g f) : (w.cell? ⟨g, 0, none⟩ = some (.int .i64 f.c) ∧ w.cell? ⟨g, 1, none⟩ = some (.int .i64 f.s) ∧ w.cell? ⟨g, 2, none⟩ = some (.int .i64 f.m) ∧ w.cell? ⟨g, 3, none⟩ = some (.int .i64 f.x)) ∧ ∀ o, w.frozen? ⟨g, o, none⟩ = false := by
  unfold FoAt at h
  refine ⟨⟨?_, ?_, ?_, ?_⟩, fun o => by simp [World.frozen?, h]⟩ <;> rw [cell_of_row w g _ _ _ _ h] <;> rfl
theorem FoAt.below {w w' : World} {B g : Nat} {f : Fo} (h : FoAt w g f) (hb : Below B w w') (hg : g < B) : FoAt w' g f := (hb.block g hg).trans h
theorem FoAt.set {w : World} {g : Nat} {f : Fo} (h : FoAt w g f) (d : Fo) : FoAt ((((w.setCell ⟨g, 0, none⟩ (.int .i64 d.c)).setCell ⟨g, 1, none⟩ (.int .i64 d.s)).setCell ⟨g, 2, none⟩ (.int .i64 d.m)).setCell ⟨g, 3, none⟩ (.int .i64 d.x)) g d :=
  heap_set (k := 3) (heap_set (k := 2) (heap_set (k := 1) (heap_set (k := 0) h _) _) _) _
theorem FoAt.alloc {w : World} {g : Nat} {f : Fo} (h : FoAt w g f) (o : Obj) : FoAt (w.alloc o) g f := by
  unfold FoAt at h ⊢
  rw [Below.heap_alloc w o g (Array.getElem?_eq_some_iff.1 h).1]; exact h
theorem FoAt.at (w : World) (n : Nat) (hn : n = w.heap.size) (f : Fo) : FoAt (w.alloc (.cells #[.int .i64 f.c, .int .i64 f.s, .int .i64 f.m, .int .i64 f.x] 47)) n f := by
  subst hn; exact heap_alloc_new w _
theorem FoAt.far {w : World} {g b o : Nat} {f : Fo} {v : Value} (h : FoAt w g f) (hne : g ≠ b) : FoAt (w.setCell ⟨b, o, none⟩ v) g f := (Below.heap_setCell _ _ _ _ hne).trans h
theorem heap_alloc3 (w : World) (o0 o1 o2 : Obj) : (((w.alloc o0).alloc o1).alloc o2).heap[w.heap.size]? = some o0 := by
  rw [Below.heap_alloc _ _ _ (by simp; omega), Below.heap_alloc _ _ _ (by simp)]
  exact heap_alloc_new w o0
theorem ret_fold1 {w : World} {g : Nat} {f : Fo} {fn : Func} {R : Ending → World → Prop} {tmps : Array Value} {k : Nat} (hf : fn.results = #[.cell k 47]) (h : FoAt w g f)
    (h2 : tmps[k]? = some (.pointer (some ⟨g, 0, none⟩))) (hR : R (.returned (foV f)) w) : bodyPost Tryz.prog fn R .ret ⟨tmps, []⟩ w := by
  obtain ⟨⟨k0, k1, k2, k3⟩, _⟩ := h.cells
  refine bodyPost_ret (v := foV f) ?_ rfl hR
  simp [results, hf, go_sem, h2, k0, k1, k2, k3, foV]
theorem hid {p : Prop} (h : p) : Hid p := h
theorem FoAt.lt {w : World} {g : Nat} {f : Fo} (h : FoAt w g f) : g < w.heap.size := (Array.getElem?_eq_some_iff.1 h).1
theorem fv_bd {tb : Bool} {vs : List Int} {hs : List Bool} (h : ∀ v ∈ vs, 0 ≤ v ∧ v ≤ 1000000) (a n : Nat) : (0 ≤ (fv (lf tb vs hs) a n).c ∧ (fv (lf tb vs hs) a n).c ≤ n) ∧ (0 ≤ (fv (lf tb vs hs) a n).s ∧ (fv (lf tb vs hs) a n).s ≤ 1000000 * n) := by
  induction n with
  | zero => simp [fv, Fo.zero]
  | succ n ih =>
    obtain ⟨⟨a1, a2⟩, ⟨a3, a4⟩, _⟩ := lf_bd (tb := tb) (hs := hs) h (a + n)
    simp only [fv, tog, Nd.fold]
    omega
theorem lf_good {tb : Bool} {vs : List Int} {hs : List Bool} (i : Nat) : (lf tb vs hs i).fold.good := by
  unfold lf
  split
  · exact good_one _
  · exact good_zero
def ob (v : Value) : List Nat := match v.ownBlock with | some k => [k] | none => []
theorem mem_ob {v : Value} {k : Nat} : k ∈ ob v ↔ v.ownBlock = some k := by
  unfold ob
  cases h : v.ownBlock <;> simp [eq_comm]
structure Kept (w w' : World) (fp : List Nat) : Prop where
  os : w'.os = w.os
  tape : w'.tape = w.tape
  output : w'.output = w.output
  size : w.heap.size ≤ w'.heap.size
  block : ∀ k, k < w.heap.size → k ∉ fp → w'.heap[k]? = w.heap[k]?
theorem Kept.refl (w : World) (fp : List Nat) : Kept w w fp := ⟨rfl, rfl, rfl, Nat.le_refl _, fun _ _ _ => rfl⟩
theorem Kept.trans {w w1 w2 : World} {fp fp' : List Nat} (h : Kept w w1 fp) (k : Kept w1 w2 fp') (hf : ∀ x ∈ fp', x ∈ fp ∨ w.heap.size ≤ x) : Kept w w2 fp :=
  ⟨k.os.trans h.os, k.tape.trans h.tape, k.output.trans h.output, Nat.le_trans h.size k.size, fun i hi hn => (k.block i (Nat.lt_of_lt_of_le hi h.size) (fun c => by rcases hf i c with h1 | h1; exact hn h1; omega)).trans (h.block i hi hn)⟩
theorem Kept.of_below {w w' : World} (h : Below w.heap.size w w') (fp : List Nat) : Kept w w' fp := ⟨h.os, h.tape, h.output, h.size, fun k hk _ => h.block k hk⟩
theorem Kept.of_grown {w w' : World} {row : Option Nat} {fp : List Nat} (h : w.grownBy w' row) (hr : ∀ k, row = some k → k ∈ fp) : Kept w w' fp :=
  ⟨h.os, h.tape, h.output, h.size, fun k hk hn => h.block k hk (fun c => hn (hr k c.symm))⟩
theorem Kept.setCell {w w' : World} {fp : List Nat} (h : Kept w w' fp) {p : Addr} (hp : p.block ∈ fp ∨ w.heap.size ≤ p.block) (u : Value) : Kept w (w'.setCell p u) fp :=
  ⟨h.os, h.tape, h.output, by have := h.size; simpa [World.setCell] using this, fun k hk hn => (Below.heap_setCell _ _ _ _ (fun c => by subst c; rcases hp with h1 | h1; exact hn h1; omega)).trans (h.block k hk hn)⟩
theorem Kept.alloc {w w' : World} {fp : List Nat} (h : Kept w w' fp) (o : Obj) : Kept w (w'.alloc o) fp :=
  ⟨h.os, h.tape, h.output, by have := h.size; simp; omega, fun k hk hn => (Below.heap_alloc _ _ _ (by have := h.size; omega)).trans (h.block k hk hn)⟩
theorem Kept.drew {w w' : World} {fp : List Nat} (h : Kept w w' fp) : Kept w w'.drew fp := ⟨h.os, h.tape, h.output, h.size, h.block⟩
theorem Kept.below {w w' : World} {fp : List Nat} {B : Nat} (h : Kept w w' fp) (hB : B ≤ w.heap.size) (hf : ∀ k ∈ fp, B ≤ k) : Below B w w' :=
  ⟨h.os, h.tape, h.output, h.size, fun k hk => h.block k (by omega) (fun c => by have := hf k c; omega)⟩
theorem own_keep {w w' : World} {base : Nat} {e : TypeId} {sz n : Nat} {v : Value} {xs : List Value} (h : w.ownsRow base e sz v n xs) (hb : ∀ k ∈ ob v, w'.heap[k]? = w.heap[k]?) : w'.ownsRow base e sz v n xs := by
  refine ⟨h.1, ?_⟩
  rcases h.2 with hn | ⟨g, cap, cur, rfl, hg, hgg, rest⟩
  · exact .inl hn
  · exact .inr ⟨g, cap, cur, rfl, hg, by rw [hb g (by simp [ob, Value.ownBlock])]; exact hgg, rest⟩
theorem own_in {w : World} {base : Nat} {e : TypeId} {sz n : Nat} {v : Value} {xs : List Value} (h : w.ownsRow base e sz v n xs) : ∀ k ∈ ob v, base ≤ k ∧ k < w.heap.size := fun k hk => h.lt k (mem_ob.1 hk)
theorem Six.far {w : World} {g b o : Nat} {c0 c1 c2 c3 c4 c5 v : Value} (h : Six w g c0 c1 c2 c3 c4 c5) (hne : g ≠ b) : Six (w.setCell ⟨b, o, none⟩ v) g c0 c1 c2 c3 c4 c5 := by
  unfold Six at h ⊢
  rw [Below.heap_setCell w ⟨b, o, none⟩ v g hne]; exact h
theorem own_mono {w : World} {base base' : Nat} {e : TypeId} {sz n : Nat} {v : Value} {xs : List Value} (h : w.ownsRow base e sz v n xs) (hb : base' ≤ base) : w.ownsRow base' e sz v n xs := by
  refine ⟨h.1, ?_⟩
  rcases h.2 with hn | ⟨g, cap, cur, hv, hg, rest⟩
  · exact .inl hn
  · exact .inr ⟨g, cap, cur, hv, by omega, rest⟩
end Go.Proofs.YtogmdaopfnmobaaGreat

/- What the document's own answer does (notaryref): Hash, MayBe, Empty, Num. -/
namespace Go.Proofs.YtogmdaopfnmobaaGreat
open Go.RowKit
set_option maxHeartbeats 400000 in
theorem refHash_any (s : ByteArray) (w : World) (hs : s.size ≤ maxLen) :
    Calls Tryz.prog 45 #[.string s] w fun e w' => e = .returned (.agg #[.int .u8 ((dg s.data.toList : Int) / 256), .int .u8 ((dg s.data.toList : Int) % 256)]) ∧ Below w.heap.size w w' := by
  unfold maxLen at hs
  go_enter Tryz.func45, Tryz.ntmps45
  go_wp2
  go_loop [3, 4] (fun n i => ∃ k : Nat, k ≤ s.size ∧ i = .int .i64 k ∧ n = .int .i64 (dg (s.data.toList.take k))) (fun _ i => s.size - (intOf i).toNat)
  case atStart => exact ⟨0, Nat.zero_le _, rfl, rfl⟩
  case round =>
    obtain ⟨k, hk, rfl, rfl⟩ := hrel
    have hd := dg_lt (s.data.toList.take k)
    by_cases hlt : k < s.size
    · have HS : Hid (dg (s.data.toList.take (k + 1)) = (dg (s.data.toList.take k) * 263 + s[k].toNat + 1) % 65521) := by rw [take_snoc s k hlt, dg_snoc]; rfl
      have hb : (s[k].toNat : Int) < 256 := by have := s[k].toNat_lt; omega
      go_wp2
      go_round
      case rel => exact ⟨k + 1, by omega, by go_num, by rw [HS.out]; go_num⟩
      case measure => simp [intOf]; omega
    · have he : s.data.toList.take k = s.data.toList := List.take_of_length_le (by simp; omega)
      rw [he] at hd ⊢
      go_wp2
      exact bodyPost_ret (v := .agg #[.int .u8 ((dg s.data.toList : Int) / 256), .int .u8 ((dg s.data.toList : Int) % 256)]) (by simp [results, Tryz.results45, go_sem]) rfl ⟨rfl, (Below.refl _ _).alloc (Nat.le_refl _) _⟩
set_option maxHeartbeats 400000 in
theorem refEmpty_any (w : World) :
    Calls Tryz.prog 82 #[] w fun e w' => e = .returned (.agg #[.int .i64 0, .int .i64 0, .int .i64 0, .int .i64 0, .int .u8 1, .int .u8 77]) ∧ Below w.heap.size w w' := by
  go_enter Tryz.func82, Tryz.ntmps82
  go_wp2_with fail
  refine (refHash_any _ _ (by decide)).mono ?_
  rintro e w1 ⟨rfl, hb⟩
  have hc := oldc hb
  have hf := oldf hb
  have hz : w.heap.size < w1.heap.size := by have := hb.size; simp at this; omega
  have hd : dg [69] = 333 := by decide
  go_wp2
  refine ret_node1 Tryz.results82 ((((Six.new w _ _ _ _ _ _).below hb (by simp)).set (.int .i64 0) (.int .i64 0) (.int .i64 0) (.int .i64 0) (.int .u8 1) (.int .u8 77)).alloc _) rfl ⟨rfl, ?_⟩
  refine Below.alloc ?_ (by simp; omega) _
  repeat (refine Below.setCell ?_ (by simp) _)
  exact ((Below.refl _ _).alloc (Nat.le_refl _) _).trans (hb.mono (by simp))
set_option maxHeartbeats 400000 in
theorem refNumber_any (n : Int) (w : World) (b : Bool) (hb : isNum n = b) :
    Calls Tryz.prog 144 #[.int .i64 n] w fun e w' => e = .returned (.bool b) ∧ w' = w := by
  subst hb
  by_cases h : 0 ≤ n
  · go_enter Tryz.func144, Tryz.ntmps144
    go_wp2
    go_ret
    exact ⟨by simp [isNum, h], rfl⟩
  · go_enter Tryz.func144, Tryz.ntmps144
    go_wp2
    go_ret
    exact ⟨by simp [isNum]; omega, rfl⟩
set_option maxHeartbeats 1000000 in
set_option maxRecDepth 100000 in
theorem refMayBe_any (c s m x h g : Int) (w : World) (b : Bool) (hb : (isNum c && isNum s && isNum m && isNum x) = b) :
    Calls Tryz.prog 131 #[.agg #[.int .i64 c, .int .i64 s, .int .i64 m, .int .i64 x, .int .u8 h, .int .u8 g]] w fun e w' => e = .returned (.bool b) ∧ Below w.heap.size w w' := by
  have fin : ∀ o1, Below w.heap.size w (w.alloc o1) := fun o1 => (Below.refl _ _).alloc (Nat.le_refl _) _
  go_enter Tryz.func131, Tryz.ntmps131
  cases h1 : isNum c
  · go_wp2_with fail
    refine (refNumber_any _ _ _ h1).mono ?_
    rintro e w' ⟨rfl, rfl⟩
    go_wp2
    go_ret
    exact ⟨by rw [← hb]; simp [h1], fin _⟩
  · go_wp2_with fail
    refine (refNumber_any _ _ _ h1).mono ?_
    rintro e w' ⟨rfl, rfl⟩
    cases h2 : isNum s
    · go_wp2_with fail
      refine (refNumber_any _ _ _ h2).mono ?_
      rintro e w' ⟨rfl, rfl⟩
      go_wp2
      go_ret
      exact ⟨by rw [← hb]; simp [h2], fin _⟩
    · go_wp2_with fail
      refine (refNumber_any _ _ _ h2).mono ?_
      rintro e w' ⟨rfl, rfl⟩
      cases h3 : isNum m
      · go_wp2_with fail
        refine (refNumber_any _ _ _ h3).mono ?_
        rintro e w' ⟨rfl, rfl⟩
        go_wp2
        go_ret
        exact ⟨by rw [← hb]; simp [h3], fin _⟩
      · go_wp2_with fail
        refine (refNumber_any _ _ _ h3).mono ?_
        rintro e w' ⟨rfl, rfl⟩
        go_wp2_with fail
        refine (refNumber_any _ _ _ rfl).mono ?_
        rintro e w' ⟨rfl, rfl⟩
        go_wp2
        go_ret
        exact ⟨by rw [← hb]; simp [h1, h2, h3], fin _⟩
theorem run_str1 (W : World) (x : Int) :
    (convert 159 9 (.slice (some ⟨W.heap.size, 0, none⟩) 1 1)).run Tryz.prog (W.alloc (.cells #[.int .u8 x] 5)) = .ok (.string (strOfNums [x])) (W.alloc (.cells #[.int .u8 x] 5)) := by
  refine run_convert_bytes_arg _ 159 5 Tryz.underlying159 Tryz.underlying5 W.heap.size 0 1 1 [x] rfl (fun i hi => ?_) 9 Tryz.underlying9
  have : i = 0 := by omega
  subst this
  simp
theorem run_str2 (W : World) (x y : Int) :
    (convert 159 9 (.slice (some ⟨W.heap.size, 0, none⟩) 2 2)).run Tryz.prog (W.alloc (.cells #[.int .u8 x, .int .u8 y] 5)) = .ok (.string (strOfNums [x, y])) (W.alloc (.cells #[.int .u8 x, .int .u8 y] 5)) := by
  refine run_convert_bytes_arg _ 159 5 Tryz.underlying159 Tryz.underlying5 W.heap.size 0 2 2 [x, y] rfl (fun i hi => ?_) 9 Tryz.underlying9
  have : i = 0 ∨ i = 1 := by omega
  rcases this with rfl | rfl <;> simp
theorem num_step' (f m : Nat) (h : 128 ≤ m) (hm : m < 128 ^ (f + 1)) : ∃ g, f = g + 1 ∧ numB f m = (strOfNums [128 + (m : Int) % 128]).data.toList ++ numB g (m / 128) ∧ m / 128 < 128 ^ (g + 1) := by
  cases f with
  | zero => simp at hm; omega
  | succ g =>
    refine ⟨g, rfl, ?_, by rw [Nat.pow_succ] at hm; exact Nat.div_lt_of_lt_mul (by rw [Nat.mul_comm]; exact hm)⟩
    rw [numB_big g m h, strOfNums_data]
    have e : (128 + (m : Int) % 128).toNat = m % 128 + 128 := by omega
    simp only [List.map_cons, List.map_nil, e, List.cons_append, List.nil_append]
theorem num_last' (f m : Nat) (h : m < 128) : numB f m = (strOfNums [(m : Int)]).data.toList := by
  rw [numB_small f m h, strOfNums_data]; simp
set_option maxHeartbeats 400000 in
set_option maxRecDepth 100000 in
theorem refNum_any (n : Nat) (w : World) (hn : n ≤ 34359738367) :
    Calls Tryz.prog 47 #[.int .i64 n] w fun e w' => ∃ t : ByteArray, e = .returned (.string t) ∧ t.data.toList = num n ∧ Below w.heap.size w w' := by
  have hst := run_str1
  have hsn : ∀ x, (strOfNums [x]).size = 1 := fun x => strOfNums_size [x]
  go_enter Tryz.func47, Tryz.ntmps47
  go_wp2
  go_loopw [0, 3] (fun i s wr => ∃ (t : ByteArray) (m f : Nat), i = .int .i64 m ∧ s = .string t ∧ m ≤ 34359738367 ∧ t.size ≤ 6 ∧ Hid (m < 128 ^ (f + 1)) ∧ Hid (num n = t.data.toList ++ numB f m) ∧ Hid (t.size + f = 6) ∧ Below w.heap.size w wr)
    (fun i _ _ => (intOf i).toNat)
  case atStart => exact ⟨⟨#[]⟩, n, 6, rfl, rfl, hn, by decide, (by show n < 128 ^ 7; omega), rfl, rfl, Below.refl _ _⟩
  case round =>
    obtain ⟨t, m, f, rfl, rfl, hm2, ht, HM, HN, HL, hb⟩ := hrel
    by_cases hlt : 128 ≤ m
    · obtain ⟨g, rfl, h2, h3⟩ := num_step' f m hlt HM.out
      have H2 : Hid _ := h2
      have H3 : Hid _ := h3
      clear h2 h3
      go_wp2
      go_roundw
      case rel => exact ⟨t ++ strOfNums [128 + (m : Int) % 128], m / 128, g, by go_num, rfl, by omega, by have := HL.out; simp [hsn]; omega, H3.out, (by rw [HN.out, H2.out, app_list, List.append_assoc]; rfl : Hid _), (by have := HL.out; simp [Hid, hsn]; omega), hb.alloc hb.size _⟩
      case measure => simp [intOf]; omega
    · have H2 : Hid _ := num_last' f m (by omega)
      go_wp2
      go_ret
      exact ⟨t ++ strOfNums [(m : Int)], rfl, by rw [app_list, HN.out, H2.out], hb.alloc hb.size _⟩
set_option maxHeartbeats 1000000 in
set_option maxRecDepth 100000 in
theorem refBytes_any (c s m x : Nat) (h g : UInt8) (w : World) (hc : c ≤ 34359738367) (hs : s ≤ 34359738367) (hm : m ≤ 34359738367) (hx : x ≤ 34359738367) :
    Calls Tryz.prog 48 #[.agg #[.int .i64 c, .int .i64 s, .int .i64 m, .int .i64 x, .int .u8 h.toNat, .int .u8 g.toNat]] w fun e w' => ∃ t : ByteArray, e = .returned (.string t) ∧ t.data.toList = num c ++ num s ++ num m ++ num x ++ [h, g] ∧ Below w.heap.size w w' := by
  have hst := run_str2
  have hsn : ∀ x y, (strOfNums [x, y]).size = 2 := fun x y => strOfNums_size [x, y]
  have l1 := (num_length c).1
  have l2 := (num_length s).1
  have l3 := (num_length m).1
  have l4 := (num_length x).1
  go_enter Tryz.func48, Tryz.ntmps48
  go_wp2_with fail
  refine (refNum_any _ _ hc).mono ?_
  rintro e w1 ⟨t1, rfl, e1, hb1⟩
  have z1 : t1.size ≤ 7 := by rw [size_list, e1]; exact l1
  have hC1 := oldc hb1
  have E1 : Hid _ := e1
  clear e1
  have hz1 : w.heap.size < w1.heap.size := by have := hb1.size; simp at this; omega
  go_wp2_with fail
  refine (refNum_any _ _ hs).mono ?_
  rintro e w2 ⟨t2, rfl, e2, hb2⟩
  have z2 : t2.size ≤ 7 := by rw [size_list, e2]; exact l2
  have hC2 := oldc hb2
  have E2 : Hid _ := e2
  clear e2
  have hz2 : w.heap.size < w2.heap.size := by have := hb2.size; omega
  go_wp2_with fail
  refine (refNum_any _ _ hm).mono ?_
  rintro e w3 ⟨t3, rfl, e3, hb3⟩
  have z3 : t3.size ≤ 7 := by rw [size_list, e3]; exact l3
  have hC3 := oldc hb3
  have E3 : Hid _ := e3
  clear e3
  have hz3 : w.heap.size < w3.heap.size := by have := hb3.size; omega
  go_wp2_with fail
  refine (refNum_any _ _ hx).mono ?_
  rintro e w4 ⟨t4, rfl, e4, hb4⟩
  have z4 : t4.size ≤ 7 := by rw [size_list, e4]; exact l4
  have hC4 := oldc hb4
  have E4 : Hid _ := e4
  clear e4
  have hz4 : w.heap.size < w4.heap.size := by have := hb4.size; omega
  have fin : Below w.heap.size w w4 := (((((Below.refl _ _).alloc (Nat.le_refl _) _).trans (hb1.mono (by simp))).trans (hb2.mono (by omega))).trans (hb3.mono (by omega))).trans (hb4.mono (by omega))
  clear hb1 hb2 hb3 hb4
  go_wp2
  go_ret
  refine ⟨_, rfl, ?_, fin.alloc (by omega) _⟩
  simp only [app_list, E1.out, E2.out, E3.out, E4.out, strOfNums_data]
  simp
end Go.Proofs.YtogmdaopfnmobaaGreat

/- What the document's own answer does (notaryref): Write, takes. -/
namespace Go.Proofs.YtogmdaopfnmobaaGreat
open Go.RowKit
attribute [local go_sem ↓] run_eql_node run_neq_node
theorem ret_we {a b : ByteArray} {i j : Int} (h : a = b) (hi : i = j) : Ending.returned (.tuple #[.string a, .int .i64 i]) = .returned (.tuple #[.string b, .int .i64 j]) := by rw [h, hi]
theorem size_app (a b : ByteArray) : (a ++ b).size = a.size + b.size := by simp
theorem size_byte (b : UInt8) : (⟨#[b]⟩ : ByteArray).size = 1 := rfl
theorem mark_E (d : Nd) (h : d.isE = true) : d.mark = [0] := by simp [Nd.mark, h]
theorem mark_N (d : Nd) (h : d.isE = false) : d.mark = 1 :: d.bytes := by simp [Nd.mark, h]
theorem refBytes_nd (d : Nd) (w : World) (hd : d.ok = true) :
    Calls Tryz.prog 48 #[.agg #[.int .i64 d.c, .int .i64 d.s, .int .i64 d.m, .int .i64 d.x, .int .u8 (d.h.toNat : Int), .int .u8 (d.g.toNat : Int)]] w fun e w' => ∃ t : ByteArray, e = .returned (.string t) ∧ t.data.toList = d.bytes ∧ Below w.heap.size w w' := by
  cases d with
  | mk c s m x h g =>
    obtain ⟨a1, a2, a3, a4⟩ := (Nd.ok_iff _).1 hd
    simp only [isNum_iff] at a1 a2 a3 a4
    obtain ⟨c, rfl⟩ := Int.eq_ofNat_of_zero_le a1.1
    obtain ⟨s, rfl⟩ := Int.eq_ofNat_of_zero_le a2.1
    obtain ⟨m, rfl⟩ := Int.eq_ofNat_of_zero_le a3.1
    obtain ⟨x, rfl⟩ := Int.eq_ofNat_of_zero_le a4.1
    exact refBytes_any c s m x h g w (by omega) (by omega) (by omega) (by omega)
set_option maxHeartbeats 1000000 in
set_option maxRecDepth 100000 in
theorem refWrite_any (v : Value) (l : List Nd) (w : World) (hl : Nodes w w.heap.size v l) :
    Calls Tryz.prog 94 #[v] w fun e w' => e = .returned (.tuple #[.string ⟨(writeB l).toArray⟩, .int .i64 (writeE l)]) ∧ Below w.heap.size w w' := by
  obtain ⟨ao, cap, rfl, hmax, hcells⟩ := hl.ex
  clear hl
  by_cases h64 : 64 < l.length
  · obtain ⟨r1, r2⟩ := write_many l h64
    rw [r1, r2]
    clear r1 r2 hcells
    go_enter Tryz.func94, Tryz.ntmps94
    go_wp2
    go_ret2
    exact ⟨rfl, Below.refl _ _⟩
  · have hd64 : decide (64 < (l.length : Int)) = false := by simp; omega
    go_enter Tryz.func94, Tryz.ntmps94
    go_wp2
    go_loopw [4, 5] (fun s i wr => ∃ (k : Nat) (t : ByteArray), k ≤ l.length ∧ i = .int .i64 k ∧ s = .string t ∧ t.size ≤ 31 * k ∧ Hid ((l.take k).all Nd.ok = true) ∧ Hid (t.data.toList = marks (l.take k)) ∧ Below w.heap.size w wr)
      (fun _ i _ => l.length - (intOf i).toNat)
    case atStart => exact ⟨0, ⟨#[]⟩, Nat.zero_le _, rfl, rfl, by decide, rfl, rfl, Below.refl _ _⟩
    case round =>
      obtain ⟨k, t, hk, rfl, rfl, htz, HA, HT, hb⟩ := hrel
      by_cases hlt : k < l.length
      · obtain ⟨b, off, rfl, hbB, hcs⟩ := hcells k hlt
        obtain ⟨d, hd⟩ : ∃ d, d = l[k] := ⟨_, rfl⟩
        rw [← hd] at hcs
        obtain ⟨k0, k1, k2, k3, k4, k5⟩ := six hb hbB hcs
        have HD : Hid _ := hd
        have HC : Hid _ := hcs
        clear hcs hd hcells
        go_wp2_with fail
        cases hok : d.ok
        · refine (refMayBe_any _ _ _ _ _ _ _ false hok).mono ?_
          rintro e w1 ⟨rfl, hb1⟩
          have HR : Hid _ := write_bad l h64 k hlt (by rw [← HD.out]; exact hok)
          have fin : Below w.heap.size w w1 := hb.trans (hb1.mono hb.size)
          go_wp2
          go_ret2
          exact ⟨by rw [HR.out.1, HR.out.2]; rfl, fin⟩
        · refine (refMayBe_any _ _ _ _ _ _ _ true hok).mono ?_
          rintro e w1 ⟨rfl, hb1⟩
          have hB1 : Below w.heap.size w w1 := hb.trans (hb1.mono hb.size)
          clear hb1 hb k0 k1 k2 k3 k4 k5
          go_wp2_with fail
          refine (refEmpty_any _).mono ?_
          rintro e w2 ⟨rfl, hb2⟩
          have hB2 : Below w.heap.size w w2 := hB1.trans (hb2.mono hB1.size)
          clear hb2 hB1
          have hs2 := hB2.size
          obtain ⟨k0, k1, k2, k3, k4, k5⟩ := six hB2 hbB HC.out
          have hne : b < w2.heap.size := by omega
          have HS : Hid _ := d.mark_length.1
          have HK : Hid (marks (l.take (k + 1)) = marks (l.take k) ++ d.mark) := by rw [take_snoc' l k hlt, ← HD.out, marks_snoc]; rfl
          have HA2 : Hid _ := all_snoc l k hlt HA.out (by rw [← HD.out]; exact hok)
          cases hE : d.isE
          · have hE' : eqN d.c d.s d.m d.x d.h.toNat d.g.toNat 0 0 0 0 1 77 = false := hE
            have HM : Hid _ := mark_N d hE
            clear hE
            go_wp2
            go_quiet (fail)
            go_wp2_with fail
            refine (refBytes_nd d _ hok).mono ?_
            rintro e w3 ⟨t3, rfl, e3, hb3⟩
            have z3 : t3.size ≤ 30 := by rw [size_list, e3]; exact d.bytes_length
            have HE3 : Hid _ := e3
            have hB3 : Below w.heap.size w w3 := (hB2.alloc hs2 _).trans (Below.trans (b := (w2.alloc (.cells #[.int .i64 0, .int .i64 0, .int .i64 0, .int .i64 0, .int .u8 1, .int .u8 77] 51)).drewN nq) ((below_drewN _ nq).mono (by simp; omega)) (hb3.mono (by simp; omega)))
            clear hb3 e3 hB2 k0 k1 k2 k3 k4 k5
            go_wp2
            go_roundw
            case rel => exact ⟨k + 1, t ++ ⟨#[1]⟩ ++ t3, by omega, by go_num, rfl, by rw [size_app, size_app, size_byte]; omega, HA2, (by rw [HK.out, HM.out, app_list, app_list, HT.out, HE3.out]; simp [Hid]), hB3⟩
            case measure => simp [intOf]; omega
          · have hE' : eqN d.c d.s d.m d.x d.h.toNat d.g.toNat 0 0 0 0 1 77 = true := hE
            have HM : Hid _ := mark_E d hE
            clear hE
            go_wp2
            go_quiet (fail)
            go_wp2
            have hB3 : Below w.heap.size w ((w2.alloc (.cells #[.int .i64 0, .int .i64 0, .int .i64 0, .int .i64 0, .int .u8 1, .int .u8 77] 51)).drewN nq) := (hB2.alloc hs2 _).trans ((below_drewN _ nq).mono (by simp; omega))
            go_roundw
            case rel => exact ⟨k + 1, t ++ ⟨#[0]⟩, by omega, by go_num, rfl, by rw [size_app, size_byte]; omega, HA2, (by rw [HK.out, HM.out, app_list, HT.out]; simp [Hid]), hB3⟩
            case measure => simp [intOf]; omega
      · have hkl : l.take k = l := List.take_of_length_le (by omega)
        have HA' := HA.out
        have HT' := HT.out
        rw [hkl] at HT' HA'
        have HR : Hid _ := write_good l h64 HA'
        have HTT : Hid _ := HT'
        clear HA HA' hcells hkl HT HT'
        go_wp2
        go_ret2
        exact ⟨ret_we (by rw [HR.out.1]; exact str_of HTT.out) HR.out.2.symm, hb⟩
end Go.Proofs.YtogmdaopfnmobaaGreat

/- What the document's own answer does (notaryref): half, Together. -/
namespace Go.Proofs.YtogmdaopfnmobaaGreat
open Go.RowKit
set_option maxHeartbeats 400000 in
theorem refHalf_any (n : Nat) (w : World) (h2 : 2 ≤ n) (hn : n ≤ 1000000) :
    Calls Tryz.prog 88 #[.int .i64 n] w fun e w' => e = .returned (.int .i64 (hf n)) ∧ Below w.heap.size w w' := by
  go_enter Tryz.func88, Tryz.ntmps88
  go_wp2
  go_loop [3] (fun k => ∃ p : Nat, k = .int .i64 p ∧ p < n ∧ 1 ≤ p ∧ Hid (∃ j, p = 2 ^ j)) (fun k => n - (intOf k).toNat)
  case atStart => exact ⟨1, rfl, by omega, by omega, 0, rfl⟩
  case round =>
    obtain ⟨p, rfl, hp, hp1, HJ⟩ := hrel
    by_cases hlt : 2 * (p : Int) < n
    · go_wp2
      go_round
      case rel => exact ⟨2 * p, by go_num, by omega, by omega, by obtain ⟨j, e⟩ := HJ.out; exact ⟨j + 1, by rw [e, Nat.pow_succ]; omega⟩⟩
      case measure => simp [intOf]; omega
    · have e : p = hf n := by obtain ⟨j, e⟩ := HJ.out; rw [hf_is n j (by omega) (by omega), e]
      subst e
      go_wp2
      go_ret
      exact ⟨rfl, Below.refl _ _⟩
set_option maxHeartbeats 2000000 in
set_option maxRecDepth 100000 in
theorem refTogether_any (c s m x c' s' m' x' : Int) (w : World) (hc : 0 ≤ c ∧ c ≤ 1000000000000000) (hs : 0 ≤ s ∧ s ≤ 1000000000000000) (hc' : 0 ≤ c' ∧ c' ≤ 1000000000000000) (hs' : 0 ≤ s' ∧ s' ≤ 1000000000000000) :
    Calls Tryz.prog 126 #[.agg #[.int .i64 c, .int .i64 s, .int .i64 m, .int .i64 x], .agg #[.int .i64 c', .int .i64 s', .int .i64 m', .int .i64 x']] w fun e w' =>
      e = .returned (foV (tog ⟨c, s, m, x⟩ ⟨c', s', m', x'⟩)) ∧ Below w.heap.size w w' := by
  by_cases h0 : c = 0
  · subst h0
    go_enter Tryz.func126, Tryz.ntmps126
    go_wp2
    refine bodyPost_ret (v := .agg #[.int .i64 c', .int .i64 (s + s'), .int .i64 m', .int .i64 x']) (by simp [results, Tryz.results126, go_sem]) rfl ⟨?_, ?_⟩
    · simp [foV, tog, *]; try omega
    · repeat (first | exact Below.refl _ _ | refine Below.setCell ?_ (by simp) _ | refine Below.alloc ?_ (by simp; try omega) _)
  · have b0 : (c == 0) = false := by simp [h0]
    by_cases h1 : c' = 0
    · subst h1
      go_enter Tryz.func126, Tryz.ntmps126
      go_wp2
      refine bodyPost_ret (v := .agg #[.int .i64 c, .int .i64 (s + s'), .int .i64 m, .int .i64 x]) (by simp [results, Tryz.results126, go_sem]) rfl ⟨?_, ?_⟩
      · simp [foV, tog, *]; try omega
      · repeat (first | exact Below.refl _ _ | refine Below.setCell ?_ (by simp) _ | refine Below.alloc ?_ (by simp; try omega) _)
    · have b1 : (c' != 0) = true := by simp [h1]
      by_cases h2 : m' < m
      · by_cases h3 : x < x'
        · go_enter Tryz.func126, Tryz.ntmps126
          go_wp2
          refine bodyPost_ret (v := .agg #[.int .i64 (c + c'), .int .i64 (s + s'), .int .i64 m', .int .i64 x']) (by simp [results, Tryz.results126, go_sem]) rfl ⟨?_, ?_⟩
          · simp [foV, tog, *]; try omega
          · repeat (first | exact Below.refl _ _ | refine Below.setCell ?_ (by simp) _ | refine Below.alloc ?_ (by simp; try omega) _)
        · go_enter Tryz.func126, Tryz.ntmps126
          go_wp2
          refine bodyPost_ret (v := .agg #[.int .i64 (c + c'), .int .i64 (s + s'), .int .i64 m', .int .i64 x]) (by simp [results, Tryz.results126, go_sem]) rfl ⟨?_, ?_⟩
          · simp [foV, tog, *]; try omega
          · repeat (first | exact Below.refl _ _ | refine Below.setCell ?_ (by simp) _ | refine Below.alloc ?_ (by simp; try omega) _)
      · by_cases h3 : x < x'
        · go_enter Tryz.func126, Tryz.ntmps126
          go_wp2
          refine bodyPost_ret (v := .agg #[.int .i64 (c + c'), .int .i64 (s + s'), .int .i64 m, .int .i64 x']) (by simp [results, Tryz.results126, go_sem]) rfl ⟨?_, ?_⟩
          · simp [foV, tog, *]; try omega
          · repeat (first | exact Below.refl _ _ | refine Below.setCell ?_ (by simp) _ | refine Below.alloc ?_ (by simp; try omega) _)
        · go_enter Tryz.func126, Tryz.ntmps126
          go_wp2
          refine bodyPost_ret (v := .agg #[.int .i64 (c + c'), .int .i64 (s + s'), .int .i64 m, .int .i64 x]) (by simp [results, Tryz.results126, go_sem]) rfl ⟨?_, ?_⟩
          · simp [foV, tog, *]; try omega
          · repeat (first | exact Below.refl _ _ | refine Below.setCell ?_ (by simp) _ | refine Below.alloc ?_ (by simp; try omega) _)
end Go.Proofs.YtogmdaopfnmobaaGreat

/- What the document's own answer does (notaryref): Inner, Above. -/
namespace Go.Proofs.YtogmdaopfnmobaaGreat
open Go.RowKit
attribute [local go_sem ↓] run_eql_node run_neq_node
set_option maxHeartbeats 1000000 in
set_option maxRecDepth 100000 in
theorem refInner_any (x y : Nd) (w : World) (hx : x.ok = true) (hy : y.ok = true) :
    Calls Tryz.prog 127 #[ndV x, ndV y] w fun e w' => ∃ t : ByteArray, e = .returned (.string t) ∧ t.data.toList = 73 :: (x.bytes ++ y.bytes) ∧ Below w.heap.size w w' := by
  unfold ndV
  have lx := x.bytes_length
  have ly := y.bytes_length
  go_enter Tryz.func127, Tryz.ntmps127
  go_wp2_with fail
  refine (refBytes_nd x _ hx).mono ?_
  rintro e w1 ⟨t1, rfl, e1, hb1⟩
  have z1 : t1.size ≤ 30 := by rw [size_list, e1]; exact lx
  have hc1 := oldc hb1
  have E1 : Hid _ := e1
  clear e1
  have hz1 : w.heap.size + 2 ≤ w1.heap.size := by have := hb1.size; simp at this; omega
  go_wp2_with fail
  refine (refBytes_nd y _ hy).mono ?_
  rintro e w2 ⟨t2, rfl, e2, hb2⟩
  have z2 : t2.size ≤ 30 := by rw [size_list, e2]; exact ly
  have E2 : Hid _ := e2
  clear e2
  have fin : Hid (Below w.heap.size w w2) := ((((Below.refl _ _).alloc (Nat.le_refl _) _).alloc (by simp) _).trans (hb1.mono (by simp; omega))).trans (hb2.mono (by omega))
  clear hb1 hb2 hc1
  go_wp2
  go_ret
  refine ⟨_, rfl, ?_, fin.out⟩
  simp only [app_list, E1.out, E2.out]
  simp
set_option maxHeartbeats 2000000 in
set_option maxRecDepth 100000 in
theorem refAbove_E (w : World) : Calls Tryz.prog 89 #[ndV .E, ndV .E] w fun e w' => e = .returned (ndV .E) ∧ Below w.heap.size w w' := by
  rw [ndV_E]
  have hq : eqN 0 0 0 0 1 77 0 0 0 0 1 77 = true := rfl
  go_enter Tryz.func89, Tryz.ntmps89
  go_wp2_with fail
  refine (refEmpty_any _).mono ?_
  rintro e w1 ⟨rfl, hb1⟩
  have hc1 := oldc hb1
  have hf1 := oldf hb1
  have z0 : w.heap.size < w1.heap.size := by have := hb1.size; simp at this; omega
  have z1 : w.heap.size + 1 < w1.heap.size := by have := hb1.size; simp at this; omega
  have z2 : w.heap.size + 1 + 1 < w1.heap.size := by have := hb1.size; simp at this; omega
  have H6 : Hid (Six w1 (w.heap.size + 1 + 1) _ _ _ _ _ _) := (Six.at _ (w.heap.size + 1 + 1) (by simp) _ _ _ _ _ _).below hb1 (by simp)
  go_wp2
  refine ret_node1 Tryz.results89 ((H6.out.set (.int .i64 0) (.int .i64 0) (.int .i64 0) (.int .i64 0) (.int .u8 1) (.int .u8 77)).alloc _) rfl ⟨rfl, ?_⟩
  refine Below.alloc ?_ (by simp; omega) _
  repeat (refine Below.setCell ?_ (by simp; omega) _)
  exact ((((Below.refl _ _).alloc (Nat.le_refl _) _).alloc (by simp) _).alloc (by simp; omega) _).trans (hb1.mono (by simp; omega))
set_option maxHeartbeats 2000000 in
set_option maxRecDepth 100000 in
theorem refAbove_N (x y : Nd) (b : Bool) (w : World) (hx : x.ok = true) (hy : y.ok = true) (ex : eqN x.c x.s x.m x.x x.h.toNat x.g.toNat 0 0 0 0 1 77 = b) (ey : b = true → eqN y.c y.s y.m y.x y.h.toNat y.g.toNat 0 0 0 0 1 77 = false) :
    Calls Tryz.prog 89 #[ndV x, ndV y] w fun e w' => e = .returned (ndV (mkNd (tog x.fold y.fold) (73 :: (x.bytes ++ y.bytes)))) ∧ Below w.heap.size w w' := by
  have H1 : Hid (x.ok = true) := hx
  have H2 : Hid (y.ok = true) := hy
  have bx := (Nd.ok_iff x).1 hx
  have by' := (Nd.ok_iff y).1 hy
  simp only [isNum_iff] at bx by'
  have HT : ∀ w', Hid (Calls Tryz.prog 126 #[.agg #[.int .i64 x.c, .int .i64 x.s, .int .i64 x.m, .int .i64 x.x], .agg #[.int .i64 y.c, .int .i64 y.s, .int .i64 y.m, .int .i64 y.x]] w' fun e w2 =>
      e = .returned (foV (tog x.fold y.fold)) ∧ Below w'.heap.size w' w2) := fun w' => refTogether_any x.c x.s x.m x.x y.c y.s y.m y.x w' (by omega) (by omega) (by omega) (by omega)
  have HR : ∀ t : List UInt8, Hid (ndV (mkNd (tog x.fold y.fold) t) = _) := fun t => ndV_mk (tog x.fold y.fold) t
  rw [(HR _).out]
  clear hx hy bx by' HR
  have lx := x.bytes_length
  have ly := y.bytes_length
  generalize tog x.fold y.fold = f at HT
  have HI : ∀ w', Hid (Calls Tryz.prog 127 #[ndV x, ndV y] w' fun e w2 => ∃ t : ByteArray, e = .returned (.string t) ∧ t.data.toList = 73 :: (x.bytes ++ y.bytes) ∧ Below w'.heap.size w' w2) := fun w' => refInner_any x y w' H1.out H2.out
  clear H1 H2
  generalize hT : (73 : UInt8) :: (x.bytes ++ y.bytes) = T at HI
  have lT : T.length ≤ 61 := by rw [← hT]; simp; omega
  clear hT lx ly
  obtain ⟨c, s, m, x, h, g⟩ := x
  obtain ⟨c', s', m', x', h', g'⟩ := y
  simp only [ndV] at HI ex ey ⊢
  cases b with
  | false =>
    clear ey
    go_enter Tryz.func89, Tryz.ntmps89
    go_wp2_with fail
    refine (refEmpty_any _).mono ?_
    rintro e w1 ⟨rfl, hb1⟩
    have hc1 := oldc hb1
    have z0 : w.heap.size < w1.heap.size := by have := hb1.size; simp at this; omega
    have z1 : w.heap.size + 1 < w1.heap.size := by have := hb1.size; simp at this; omega
    have z2 : w.heap.size + 1 + 1 < w1.heap.size := by have := hb1.size; simp at this; omega
    have H6 : Hid (Six w1 (w.heap.size + 1 + 1) _ _ _ _ _ _) := (Six.at _ (w.heap.size + 1 + 1) (by simp) _ _ _ _ _ _).below hb1 (by simp)
    have B1 : Hid (Below w.heap.size w w1) := ((((Below.refl _ _).alloc (Nat.le_refl _) _).alloc (by simp) _).alloc (by simp; omega) _).trans (hb1.mono (by simp; omega))
    clear hb1
    go_wp2_with fail
    refine (HT _).out.mono ?_
    rintro e w2 ⟨rfl, hb2⟩
    rw [foV]
    have hc2 := oldc hb2
    have y0 : w.heap.size < w2.heap.size := by have := hb2.size; simp at this; omega
    have y1 : w.heap.size + 1 < w2.heap.size := by have := hb2.size; simp at this; omega
    have y2 : w.heap.size + 1 + 1 < w2.heap.size := by have := hb2.size; simp at this; omega
    have H7 : Hid (Six w2 (w.heap.size + 1 + 1) _ _ _ _ _ _) := (H6.out.alloc _).below hb2 (by simp; omega)
    have B2 : Hid (Below w.heap.size w w2) := (B1.out.alloc (by omega) _).trans (hb2.mono (by simp; omega))
    clear hb2 H6 B1 HT
    go_wp2_with fail
    refine (HI _).out.mono ?_
    rintro e w3 ⟨t, rfl, et, hb3⟩
    have hc3 := oldc hb3
    have x0 : w.heap.size < w3.heap.size := by have := hb3.size; simp at this; omega
    have x2 : w.heap.size + 1 + 1 < w3.heap.size := by have := hb3.size; simp at this; omega
    have x3 : w2.heap.size < w3.heap.size := by have := hb3.size; simp at this; omega
    have H8 : Hid (Six w3 (w.heap.size + 1 + 1) _ _ _ _ _ _) := (H7.out.alloc _).below hb3 (by simp; omega)
    have B3 : Hid (Below w.heap.size w w3) := (B2.out.alloc (by omega) _).trans (hb3.mono (by simp; omega))
    have lt : t.size ≤ maxLen := by rw [size_list, et]; unfold maxLen; omega
    have ET : Hid _ := et
    clear hb3 H7 B2 HI et
    go_wp2_with fail
    refine (refHash_any t _ lt).mono ?_
    rw [ET.out]
    rintro e w4 ⟨rfl, hb4⟩
    have hc4 := oldc hb4
    have v0 : w2.heap.size < w4.heap.size := by have := hb4.size; omega
    have v2 : w.heap.size + 1 + 1 < w4.heap.size := by have := hb4.size; omega
    have H9 : Hid (Six w4 (w.heap.size + 1 + 1) _ _ _ _ _ _) := H8.out.below hb4 (by omega)
    have B4 : Hid (Below w.heap.size w w4) := B3.out.trans (hb4.mono (by omega))
    have F9 : ∀ o, w4.frozen? ⟨w.heap.size + 1 + 1, o, none⟩ = false := fun o => by simp [World.frozen?, H9.out.eq]
    clear hb4 H8 B3
    go_wp2
    refine ret_node1 Tryz.results89 ((H9.out.set _ _ _ _ _ _).alloc _) rfl ⟨rfl, ?_⟩
    refine Below.alloc ?_ (by simp; omega) _
    repeat (refine Below.setCell ?_ (by simp; omega) _)
    exact B4.out
  | true =>
    have ey' := ey rfl
    clear ey
    go_enter Tryz.func89, Tryz.ntmps89
    go_wp2_with fail
    refine (refEmpty_any _).mono ?_
    rintro e w1 ⟨rfl, hb1⟩
    have hc1 := oldc hb1
    have z0 : w.heap.size < w1.heap.size := by have := hb1.size; simp at this; omega
    have z1 : w.heap.size + 1 < w1.heap.size := by have := hb1.size; simp at this; omega
    have z2 : w.heap.size + 1 + 1 < w1.heap.size := by have := hb1.size; simp at this; omega
    have H6 : Hid (Six w1 (w.heap.size + 1 + 1) _ _ _ _ _ _) := (Six.at _ (w.heap.size + 1 + 1) (by simp) _ _ _ _ _ _).below hb1 (by simp)
    have B1 : Hid (Below w.heap.size w w1) := ((((Below.refl _ _).alloc (Nat.le_refl _) _).alloc (by simp) _).alloc (by simp; omega) _).trans (hb1.mono (by simp; omega))
    clear hb1
    go_wp2_with fail
    refine (HT _).out.mono ?_
    rintro e w2 ⟨rfl, hb2⟩
    rw [foV]
    have hc2 := oldc hb2
    have y0 : w.heap.size < w2.heap.size := by have := hb2.size; simp at this; omega
    have y1 : w.heap.size + 1 < w2.heap.size := by have := hb2.size; simp at this; omega
    have y2 : w.heap.size + 1 + 1 < w2.heap.size := by have := hb2.size; simp at this; omega
    have H7 : Hid (Six w2 (w.heap.size + 1 + 1) _ _ _ _ _ _) := (H6.out.alloc _).below hb2 (by simp; omega)
    have B2 : Hid (Below w.heap.size w w2) := (B1.out.alloc (by omega) _).trans (hb2.mono (by simp; omega))
    clear hb2 H6 B1 HT
    go_wp2_with fail
    refine (HI _).out.mono ?_
    rintro e w3 ⟨t, rfl, et, hb3⟩
    have hc3 := oldc hb3
    have x0 : w.heap.size < w3.heap.size := by have := hb3.size; simp at this; omega
    have x2 : w.heap.size + 1 + 1 < w3.heap.size := by have := hb3.size; simp at this; omega
    have x3 : w2.heap.size < w3.heap.size := by have := hb3.size; simp at this; omega
    have H8 : Hid (Six w3 (w.heap.size + 1 + 1) _ _ _ _ _ _) := (H7.out.alloc _).below hb3 (by simp; omega)
    have B3 : Hid (Below w.heap.size w w3) := (B2.out.alloc (by omega) _).trans (hb3.mono (by simp; omega))
    have lt : t.size ≤ maxLen := by rw [size_list, et]; unfold maxLen; omega
    have ET : Hid _ := et
    clear hb3 H7 B2 HI et
    go_wp2_with fail
    refine (refHash_any t _ lt).mono ?_
    rw [ET.out]
    rintro e w4 ⟨rfl, hb4⟩
    have hc4 := oldc hb4
    have v0 : w2.heap.size < w4.heap.size := by have := hb4.size; omega
    have v2 : w.heap.size + 1 + 1 < w4.heap.size := by have := hb4.size; omega
    have H9 : Hid (Six w4 (w.heap.size + 1 + 1) _ _ _ _ _ _) := H8.out.below hb4 (by omega)
    have B4 : Hid (Below w.heap.size w w4) := B3.out.trans (hb4.mono (by omega))
    have F9 : ∀ o, w4.frozen? ⟨w.heap.size + 1 + 1, o, none⟩ = false := fun o => by simp [World.frozen?, H9.out.eq]
    clear hb4 H8 B3
    go_wp2
    refine ret_node1 Tryz.results89 ((H9.out.set _ _ _ _ _ _).alloc _) rfl ⟨rfl, ?_⟩
    refine Below.alloc ?_ (by simp; omega) _
    repeat (refine Below.setCell ?_ (by simp; omega) _)
    exact B4.out
theorem refAbove_any (x y : Nd) (w : World) (hx : x.ok = true) (hy : y.ok = true) :
    Calls Tryz.prog 89 #[ndV x, ndV y] w fun e w' => e = .returned (ndV (ab x y)) ∧ Below w.heap.size w w' := by
  by_cases h : x = .E ∧ y = .E
  · obtain ⟨rfl, rfl⟩ := h
    exact refAbove_E w
  · unfold ab
    rw [if_neg h]
    refine refAbove_N x y _ w hx hy (eqN_E x) fun hb => ?_
    rw [eqN_E y]
    simp only [decide_eq_true_eq] at hb
    simp only [decide_eq_false_iff_not]
    exact fun hy => h ⟨hb, hy⟩
end Go.Proofs.YtogmdaopfnmobaaGreat

/- What the document's own answer does (notaryref): single, Part, Whole, Root. -/
namespace Go.Proofs.YtogmdaopfnmobaaGreat
open Go.RowKit
structure TreeIn (w : World) (B : Nat) (vv hv : Value) (vs : List Int) (hs : List Bool) : Prop where
  hv1 : Cells1 w B vv (vs.map (.int .i64))
  hv2 : Cells1 w B hv (hs.map .bool)
  len : hs.length = vs.length
  small : vs.length ≤ 64
  val : ∀ v ∈ vs, 0 ≤ v ∧ v ≤ 1000000
theorem TreeIn.below {w w' : World} {B : Nat} {vv hv : Value} {vs : List Int} {hs : List Bool} (h : TreeIn w B vv hv vs hs) (hb : Below B w w') : TreeIn w' B vv hv vs hs := ⟨h.hv1.below hb, h.hv2.below hb, h.len, h.small, h.val⟩
theorem TreeIn.mono {w : World} {B B' : Nat} {vv hv : Value} {vs : List Int} {hs : List Bool} (h : TreeIn w B vv hv vs hs) (hb : B ≤ B') : TreeIn w B' vv hv vs hs := ⟨h.hv1.mono hb, h.hv2.mono hb, h.len, h.small, h.val⟩
set_option maxHeartbeats 2000000 in
set_option maxRecDepth 100000 in
theorem refSingle_any (tb : Bool) (vv hv : Value) (vs : List Int) (hs : List Bool) (i : Nat) (w : World) (hT : TreeIn w w.heap.size vv hv vs hs) (hi : i < vs.length) :
    Calls Tryz.prog 87 #[.agg #[.bool tb, vv, hv], .int .i64 i] w fun e w' => e = .returned (ndV (lf tb vs hs i)) ∧ Below w.heap.size w w' := by
  have hi2 : i < hs.length := by rw [hT.len]; exact hi
  have hi64 : i < 64 := by have := hT.small; omega
  obtain ⟨a1, p1, rfl, _⟩ := hT.hv1.ex
  obtain ⟨a2, p2, rfl, _⟩ := hT.hv2.ex
  obtain ⟨b1, o1, rfl, hb1, hc1⟩ := hT.hv1.at i (.int .i64 vs[i]) (by simp [hi])
  obtain ⟨b2, o2, rfl, hb2, hc2⟩ := hT.hv2.at i (.bool hs[i]) (by simp [hi2])
  have hval := hT.val _ (List.getElem_mem hi)
  have e1 : hs.getD i false = hs[i] := by simp [hi2]
  have e2 : vs.getD i 0 = vs[i] := by simp [hi]
  unfold lf
  rw [e1, e2]
  simp only [List.length_map]
  have hil : (i : Int) < hs.length := by omega
  have hil2 : (i : Int) < vs.length := by omega
  clear hT e1 e2
  generalize hs[i] = hb at hc2
  obtain ⟨v, hv⟩ : ∃ v : Nat, vs[i] = (v : Int) := Int.eq_ofNat_of_zero_le hval.1
  rw [hv] at hc1 hval ⊢
  clear hv hi hi2
  have hv5 := (num_length v).1
  have hi5 := (num_length i).1
  cases hb with
  | false =>
    simp only [Bool.false_eq_true, if_false]
    rw [ndV_E]
    go_enter Tryz.func87, Tryz.ntmps87
    go_wp2_with fail
    refine (refEmpty_any _).mono ?_
    rintro e w1 ⟨rfl, hbl⟩
    have z1 : w.heap.size + 1 < w1.heap.size := by have := hbl.size; simp at this; omega
    have H6 : Hid (Six w1 (w.heap.size + 1) _ _ _ _ _ _) := (Six.at _ (w.heap.size + 1) (by simp) _ _ _ _ _ _).below hbl (by simp)
    have B1 : Hid (Below w.heap.size w w1) := (((Below.refl _ _).alloc (Nat.le_refl _) _).alloc (by simp) _).trans (hbl.mono (by simp; omega))
    have F6 : ∀ o, w1.frozen? ⟨w.heap.size + 1, o, none⟩ = false := fun o => by simp [World.frozen?, H6.out.eq]
    obtain ⟨k0, k1, k2, k3, k4, k5⟩ := H6.out.cells
    clear hbl
    go_wp2
    refine ret_node1 Tryz.results87 (H6.out.set _ _ _ _ _ _) rfl ⟨rfl, ?_⟩
    repeat (refine Below.setCell ?_ (by simp) _)
    exact B1.out
  | true =>
    simp only [if_true]
    rw [ndV_mk]
    go_enter Tryz.func87, Tryz.ntmps87
    go_wp2_with fail
    refine (refNum_any v _ (by omega)).mono ?_
    rintro e w1 ⟨t1, rfl, et1, hbl⟩
    have s1 : t1.size ≤ 7 := by rw [size_list, et1]; exact hv5
    have z0 : w.heap.size < w1.heap.size := by have := hbl.size; simp at this; omega
    have z1 : w.heap.size + 1 < w1.heap.size := by have := hbl.size; simp at this; omega
    have H6 : Hid (Six w1 (w.heap.size + 1) _ _ _ _ _ _) := (Six.at _ (w.heap.size + 1) (by simp) _ _ _ _ _ _).below hbl (by simp)
    have B1 : Hid (Below w.heap.size w w1) := (((Below.refl _ _).alloc (Nat.le_refl _) _).alloc (by simp) _).trans (hbl.mono (by simp; omega))
    have hq1 := oldc hbl
    have E1 : Hid _ := et1
    clear hbl et1
    cases tb with
    | false =>
      go_wp2_with fail
      refine (refHash_any _ _ (by simp only [size_app, size_byte]; unfold maxLen; omega)).mono ?_
      rintro e w4 ⟨rfl, hb4⟩
      have v2 : w.heap.size + 1 < w4.heap.size := by have := hb4.size; omega
      have H9 : Hid (Six w4 (w.heap.size + 1) _ _ _ _ _ _) := H6.out.below hb4 (by omega)
      have B4 : Hid (Below w.heap.size w w4) := B1.out.trans (hb4.mono (by omega))
      have F9 : ∀ o, w4.frozen? ⟨w.heap.size + 1, o, none⟩ = false := fun o => by simp [World.frozen?, H9.out.eq]
      obtain ⟨k0, k1, k2, k3, k4, k5⟩ := H9.out.cells
      clear hb4 H6 B1 hq1
      have et : lfText false i v = (⟨#[76]⟩ ++ t1 : ByteArray).data.toList := by rw [app_list, E1.out]; simp [lfText]
      have ET : Hid _ := et
      clear et
      go_wp2
      refine ret_node1 Tryz.results87 ((H9.out.set _ _ _ _ _ _).alloc _) rfl ⟨by rw [ET.out]; rfl, ?_⟩
      refine Below.alloc ?_ (by simp; omega) _
      repeat (refine Below.setCell ?_ (by simp) _)
      exact B4.out
    | true =>
      go_wp2_with fail
      refine (refNum_any i _ (by omega)).mono ?_
      rintro e w2 ⟨t2, rfl, et2, hb2⟩
      have s2 : t2.size ≤ 7 := by rw [size_list, et2]; exact hi5
      have y1 : w.heap.size + 1 < w2.heap.size := by have := hb2.size; omega
      have H7 : Hid (Six w2 (w.heap.size + 1) _ _ _ _ _ _) := H6.out.below hb2 (by omega)
      have B2 : Hid (Below w.heap.size w w2) := B1.out.trans (hb2.mono (by omega))
      have E2 : Hid _ := et2
      clear hb2 et2 H6 B1
      go_wp2_with fail
      refine (refNum_any v _ (by omega)).mono ?_
      rintro e w3 ⟨t3, rfl, et3, hb3⟩
      have s3 : t3.size ≤ 7 := by rw [size_list, et3]; exact hv5
      have x1 : w.heap.size + 1 < w3.heap.size := by have := hb3.size; omega
      have H8 : Hid (Six w3 (w.heap.size + 1) _ _ _ _ _ _) := H7.out.below hb3 (by omega)
      have B3 : Hid (Below w.heap.size w w3) := B2.out.trans (hb3.mono (by omega))
      have E3 : Hid _ := et3
      clear hb3 et3 H7 B2
      go_wp2_with fail
      refine (refHash_any _ _ (by simp only [size_app, size_byte]; unfold maxLen; omega)).mono ?_
      rintro e w4 ⟨rfl, hb4⟩
      have v2 : w.heap.size + 1 < w4.heap.size := by have := hb4.size; omega
      have H9 : Hid (Six w4 (w.heap.size + 1) _ _ _ _ _ _) := H8.out.below hb4 (by omega)
      have B4 : Hid (Below w.heap.size w w4) := B3.out.trans (hb4.mono (by omega))
      have F9 : ∀ o, w4.frozen? ⟨w.heap.size + 1, o, none⟩ = false := fun o => by simp [World.frozen?, H9.out.eq]
      obtain ⟨k0, k1, k2, k3, k4, k5⟩ := H9.out.cells
      clear hb4 H8 B3 hq1
      have et : lfText true i v = (⟨#[84]⟩ ++ t2 ++ t3 : ByteArray).data.toList := by rw [app_list, app_list, E2.out, E3.out]; simp [lfText]
      have ET : Hid _ := et
      clear et
      go_wp2
      refine ret_node1 Tryz.results87 ((H9.out.set _ _ _ _ _ _).alloc _) rfl ⟨by rw [ET.out]; rfl, ?_⟩
      refine Below.alloc ?_ (by simp; omega) _
      repeat (refine Below.setCell ?_ (by simp) _)
      exact B4.out
end Go.Proofs.YtogmdaopfnmobaaGreat

/- What the document's own answer does (notaryref): Part, Whole, Root. -/
namespace Go.Proofs.YtogmdaopfnmobaaGreat
open Go.RowKit
set_option maxHeartbeats 2000000 in
set_option maxRecDepth 100000 in
theorem refPart_any (tb : Bool) (vv hv : Value) (vs : List Int) (hs : List Bool) : ∀ (n a b : Nat) (w : World), b - a ≤ n → b ≤ vs.length → TreeIn w w.heap.size vv hv vs hs →
    Calls Tryz.prog 46 #[.agg #[.bool tb, vv, hv], .int .i64 a, .int .i64 b] w fun e w' => e = .returned (ndV (tr (lf tb vs hs) a b)) ∧ Below w.heap.size w w' := by
  intro n
  induction n with
  | zero =>
    intro a b w hn hb hT
    obtain ⟨a1, p1, rfl, _⟩ := hT.hv1.ex
    obtain ⟨a2, p2, rfl, _⟩ := hT.hv2.ex
    rw [tr_none _ _ _ (by omega), ndV_E]
    have hge : (b : Int) ≤ a := by omega
    clear hT
    go_enter Tryz.func46, Tryz.ntmps46
    go_wp2_with fail
    refine (refEmpty_any _).mono ?_
    rintro e w1 ⟨rfl, hbl⟩
    have z1 : w.heap.size + 1 < w1.heap.size := by have := hbl.size; simp at this; omega
    have H6 : Hid (Six w1 (w.heap.size + 1) _ _ _ _ _ _) := (Six.at _ (w.heap.size + 1) (by simp) _ _ _ _ _ _).below hbl (by simp)
    have B1 : Hid (Below w.heap.size w w1) := (((Below.refl _ _).alloc (Nat.le_refl _) _).alloc (by simp) _).trans (hbl.mono (by simp; omega))
    have F6 : ∀ o, w1.frozen? ⟨w.heap.size + 1, o, none⟩ = false := fun o => by simp [World.frozen?, H6.out.eq]
    obtain ⟨k0, k1, k2, k3, k4, k5⟩ := H6.out.cells
    clear hbl
    go_wp2
    refine ret_node1 Tryz.results46 (H6.out.set _ _ _ _ _ _) rfl ⟨rfl, ?_⟩
    repeat (refine Below.setCell ?_ (by simp) _)
    exact B1.out
  | succ n ih =>
    intro a b w hn hb hT
    by_cases h0 : b ≤ a
    · exact (ih a b w (by omega) hb hT)
    have hvs := hT.small
    have HT : Hid _ := hT
    obtain ⟨a1, p1, rfl, _⟩ := hT.hv1.ex
    obtain ⟨a2, p2, rfl, _⟩ := hT.hv2.ex
    simp only [List.length_map] at HT ih ⊢
    clear hT
    have hge : ¬ (b : Int) ≤ a := by omega
    by_cases h1 : b < a + 2
    · obtain rfl : b = a + 1 := by omega
      rw [tr_one]
      clear ih
      have HS : ∀ w', Hid (TreeIn w' w'.heap.size (.slice a1 vs.length p1) (.slice a2 hs.length p2) vs hs → Calls Tryz.prog 87 _ w' _) := fun w' hT' => refSingle_any tb _ _ vs hs a w' hT' (by omega)
      generalize lf tb vs hs a = d at HS
      go_enter Tryz.func46, Tryz.ntmps46
      go_wp2_with fail
      refine ((HS _).out ((HT.out.below (((Below.refl _ _).alloc (Nat.le_refl _) _).alloc (by simp) _)).mono (by simp; omega))).mono ?_
      rintro e w1 ⟨rfl, hbl⟩
      rw [ndV]
      have z1 : w.heap.size + 1 < w1.heap.size := by have := hbl.size; simp at this; omega
      have H6 : Hid (Six w1 (w.heap.size + 1) _ _ _ _ _ _) := (Six.at _ (w.heap.size + 1) (by simp) _ _ _ _ _ _).below hbl (by simp)
      have B1 : Hid (Below w.heap.size w w1) := (((Below.refl _ _).alloc (Nat.le_refl _) _).alloc (by simp) _).trans (hbl.mono (by simp; omega))
      have F6 : ∀ o, w1.frozen? ⟨w.heap.size + 1, o, none⟩ = false := fun o => by simp [World.frozen?, H6.out.eq]
      obtain ⟨k0, k1, k2, k3, k4, k5⟩ := H6.out.cells
      clear hbl
      go_wp2
      refine ret_node1 Tryz.results46 (H6.out.set _ _ _ _ _ _) rfl ⟨rfl, ?_⟩
      repeat (refine Below.setCell ?_ (by simp) _)
      exact B1.out
    · have p := hf_pos (b - a)
      have q := hf_lt (b - a) (by omega)
      rw [tr_two _ a b (by omega)]
      have O1 : Hid _ := tr_ok (tb := tb) (hs := hs) HT.out.val a (a + hf (b - a)) (by omega)
      have O2 : Hid _ := tr_ok (tb := tb) (hs := hs) HT.out.val (a + hf (b - a)) b (by omega)
      have hne : ¬ (b : Int) - a = 1 := by omega
      have hne' : ((b : Int) - a == 1) = false := by simp [hne]
      have hsub : (b : Int) - a = ((b - a : Nat) : Int) := by omega
      obtain ⟨m, hm⟩ : ∃ m, m = b - a := ⟨_, rfl⟩
      rw [← hm] at p q O1 O2 hsub ⊢
      have I1 : ∀ w', Hid (TreeIn w' w'.heap.size (.slice a1 vs.length p1) (.slice a2 hs.length p2) vs hs → Calls Tryz.prog 46 _ w' _) := fun w' hT' => ih a (a + hf m) w' (by omega) (by omega) hT'
      have I2 : ∀ w', Hid (TreeIn w' w'.heap.size (.slice a1 vs.length p1) (.slice a2 hs.length p2) vs hs → Calls Tryz.prog 46 _ w' _) := fun w' hT' => ih (a + hf m) b w' (by omega) (by omega) hT'
      clear ih
      have hm2 : 2 ≤ m := by omega
      have hm3 : m ≤ 64 := by omega
      have hk : hf m < 64 := by omega
      have hab : a + hf m < 64 := by omega
      generalize tr (lf tb vs hs) a (a + hf m) = x at O1 I1
      generalize tr (lf tb vs hs) (a + hf m) b = y at O2 I2
      have HH : ∀ w', Hid (Calls Tryz.prog 88 #[.int .i64 m] w' _) := fun w' => refHalf_any m w' hm2 (by omega)
      generalize hf m = k at p q I1 I2 hk hab HH
      have hcast : ((a + k : Nat) : Int) = (a : Int) + k := by omega
      rw [hcast] at I1 I2
      clear hm hcast hm2
      go_enter Tryz.func46, Tryz.ntmps46
      go_wp2_with fail
      refine (HH _).out.mono ?_
      rintro e w1 ⟨rfl, hb1⟩
      have hc1 := oldc hb1
      have z0 : w.heap.size < w1.heap.size := by have := hb1.size; simp at this; omega
      have z1 : w.heap.size + 1 < w1.heap.size := by have := hb1.size; simp at this; omega
      have B1 : Hid (Below w.heap.size w w1) := (((Below.refl _ _).alloc (Nat.le_refl _) _).alloc (by simp) _).trans (hb1.mono (by simp; omega))
      have H6 : Hid (Six w1 (w.heap.size + 1) _ _ _ _ _ _) := (Six.at _ (w.heap.size + 1) (by simp) _ _ _ _ _ _).below hb1 (by simp)
      clear hb1 HH
      go_wp2_with fail
      refine ((I1 _).out ((HT.out.below B1.out).mono (by omega))).mono ?_
      rintro e w2 ⟨rfl, hb2⟩
      rw [ndV]
      have hc2 := oldc hb2
      have y0 : w.heap.size < w2.heap.size := by have := hb2.size; omega
      have y1 : w.heap.size + 1 < w2.heap.size := by have := hb2.size; omega
      have B2 : Hid (Below w.heap.size w w2) := B1.out.trans (hb2.mono (by omega))
      have H7 : Hid (Six w2 (w.heap.size + 1) _ _ _ _ _ _) := H6.out.below hb2 (by omega)
      clear hb2 I1 B1 H6
      go_wp2_with fail
      refine ((I2 _).out ((HT.out.below (B2.out.alloc (by omega) _)).mono (by simp; omega))).mono ?_
      rintro e w3 ⟨rfl, hb3⟩
      rw [ndV]
      have hc3 := oldc hb3
      have x0 : w.heap.size < w3.heap.size := by have := hb3.size; simp at this; omega
      have x1 : w.heap.size + 1 < w3.heap.size := by have := hb3.size; simp at this; omega
      have x2 : w2.heap.size < w3.heap.size := by have := hb3.size; simp at this; omega
      have B3 : Hid (Below w.heap.size w w3) := (B2.out.alloc (by omega) _).trans (hb3.mono (by simp; omega))
      have H8 : Hid (Six w3 (w.heap.size + 1) _ _ _ _ _ _) := (H7.out.alloc _).below hb3 (by simp; omega)
      clear hb3 I2 B2 H7
      go_wp2_with fail
      refine (show Calls Tryz.prog 89 #[ndV x, ndV y] _ _ from refAbove_any x y _ O1.out O2.out).mono ?_
      rintro e w4 ⟨rfl, hb4⟩
      rw [ndV]
      have v1 : w.heap.size + 1 < w4.heap.size := by have := hb4.size; simp at this; omega
      have B4 : Hid (Below w.heap.size w w4) := (B3.out.alloc (by omega) _).trans (hb4.mono (by simp; omega))
      have H9 : Hid (Six w4 (w.heap.size + 1) _ _ _ _ _ _) := (H8.out.alloc _).below hb4 (by simp; omega)
      have F9 : ∀ o, w4.frozen? ⟨w.heap.size + 1, o, none⟩ = false := fun o => by simp [World.frozen?, H9.out.eq]
      obtain ⟨k0, k1, k2, k3, k4, k5⟩ := H9.out.cells
      clear hb4 B3 H8 hc1 hc2 hc3
      go_wp2
      refine ret_node1 Tryz.results46 (H9.out.set _ _ _ _ _ _) rfl ⟨rfl, ?_⟩
      repeat (refine Below.setCell ?_ (by simp) _)
      exact B4.out
set_option maxHeartbeats 2000000 in
set_option maxRecDepth 100000 in
theorem refWhole_any (tb : Bool) (vv hv : Value) (vs : List Int) (hs : List Bool) (w : World) (hT : TreeIn w w.heap.size vv hv vs hs) :
    Calls Tryz.prog 15 #[.agg #[.bool tb, vv, hv]] w fun e w' => e = .returned (ndV (tr (lf tb vs hs) 0 vs.length)) ∧ Below w.heap.size w w' := by
  have HT : Hid _ := hT
  obtain ⟨a1, p1, rfl, _⟩ := hT.hv1.ex
  obtain ⟨a2, p2, rfl, _⟩ := hT.hv2.ex
  simp only [List.length_map] at HT ⊢
  clear hT
  have HP : ∀ w', Hid (TreeIn w' w'.heap.size (.slice a1 vs.length p1) (.slice a2 hs.length p2) vs hs → Calls Tryz.prog 46 _ w' _) := fun w' hT' => refPart_any tb _ _ vs hs vs.length 0 vs.length w' (by omega) (by omega) hT'
  generalize tr (lf tb vs hs) 0 vs.length = d at HP
  go_enter Tryz.func15, Tryz.ntmps15
  go_wp2_with fail
  refine ((HP _).out ((HT.out.below (((Below.refl _ _).alloc (Nat.le_refl _) _).alloc (by simp) _)).mono (by simp; omega))).mono ?_
  rintro e w1 ⟨rfl, hbl⟩
  rw [ndV]
  have z1 : w.heap.size + 1 < w1.heap.size := by have := hbl.size; simp at this; omega
  have H6 : Hid (Six w1 (w.heap.size + 1) _ _ _ _ _ _) := (Six.at _ (w.heap.size + 1) (by simp) _ _ _ _ _ _).below hbl (by simp)
  have B1 : Hid (Below w.heap.size w w1) := (((Below.refl _ _).alloc (Nat.le_refl _) _).alloc (by simp) _).trans (hbl.mono (by simp; omega))
  have F6 : ∀ o, w1.frozen? ⟨w.heap.size + 1, o, none⟩ = false := fun o => by simp [World.frozen?, H6.out.eq]
  obtain ⟨k0, k1, k2, k3, k4, k5⟩ := H6.out.cells
  clear hbl
  go_wp2
  refine ret_node1 Tryz.results15 (H6.out.set _ _ _ _ _ _) rfl ⟨rfl, ?_⟩
  repeat (refine Below.setCell ?_ (by simp) _)
  exact B1.out
set_option maxHeartbeats 2000000 in
set_option maxRecDepth 100000 in
theorem refRoot_any (n : Nat) (d : Nd) (w : World) (hn : n ≤ 34359738367) (hd : d.ok = true) :
    Calls Tryz.prog 16 #[.int .i64 n, ndV d] w fun e w' => e = .returned (.agg #[.int .u8 ((dg (hdText n d) : Int) / 256), .int .u8 ((dg (hdText n d) : Int) % 256)]) ∧ Below w.heap.size w w' := by
  have HN : ∀ w', Hid (Calls Tryz.prog 47 _ w' _) := fun w' => refNum_any n w' hn
  have HB : ∀ w', Hid (Calls Tryz.prog 48 _ w' _) := fun w' => refBytes_nd d w' hd
  have l1 := (num_length n).1
  have l2 := d.bytes_length
  unfold ndV
  go_enter Tryz.func16, Tryz.ntmps16
  go_wp2_with fail
  refine (HN _).out.mono ?_
  rintro e w1 ⟨t1, rfl, et1, hb1⟩
  have s1 : t1.size ≤ 7 := by rw [size_list, et1]; exact l1
  have E1 : Hid _ := et1
  have hc1 := oldc hb1
  have z0 : w.heap.size < w1.heap.size := by have := hb1.size; simp at this; omega
  have z1 : w.heap.size + 1 < w1.heap.size := by have := hb1.size; simp at this; omega
  have B1 : Hid (Below w.heap.size w w1) := (((Below.refl _ _).alloc (Nat.le_refl _) _).alloc (by simp) _).trans (hb1.mono (by simp; omega))
  have H6 : Hid (w1.heap[w.heap.size + 1]? = some (.cells #[.int .u8 0, .int .u8 0] 49 (0, 0))) := (hb1.block (w.heap.size + 1) (by simp)).trans (by
    have := heap_alloc_new (w.alloc (.cells #[.int .i64 d.c, .int .i64 d.s, .int .i64 d.m, .int .i64 d.x, .int .u8 (d.h.toNat : Int), .int .u8 (d.g.toNat : Int)] 51)) (.cells #[.int .u8 0, .int .u8 0] 49)
    simpa using this)
  clear hb1 et1 HN
  go_wp2_with fail
  refine (HB _).out.mono ?_
  rintro e w2 ⟨t2, rfl, et2, hb2⟩
  have s2 : t2.size ≤ 30 := by rw [size_list, et2]; exact l2
  have E2 : Hid _ := et2
  have y1 : w.heap.size + 1 < w2.heap.size := by have := hb2.size; omega
  have B2 : Hid (Below w.heap.size w w2) := B1.out.trans (hb2.mono (by omega))
  have H7 : Hid (w2.heap[w.heap.size + 1]? = some (.cells #[.int .u8 0, .int .u8 0] 49 (0, 0))) := (hb2.block _ z1).trans H6.out
  clear hb2 et2 HB B1 H6
  go_wp2_with fail
  refine (refHash_any _ _ (by simp only [size_app, size_byte]; unfold maxLen; omega)).mono ?_
  rintro e w4 ⟨rfl, hb4⟩
  have v1 : w.heap.size + 1 < w4.heap.size := by have := hb4.size; omega
  have B4 : Hid (Below w.heap.size w w4) := B2.out.trans (hb4.mono (by omega))
  have h9 : w4.heap[w.heap.size + 1]? = some (.cells #[.int .u8 0, .int .u8 0] 49 (0, 0)) := (hb4.block _ y1).trans H7.out
  have F9 : ∀ o, w4.frozen? ⟨w.heap.size + 1, o, none⟩ = false := fun o => by simp [World.frozen?, h9]
  have k0 : w4.cell? ⟨w.heap.size + 1, 0, none⟩ = some (.int .u8 0) := by rw [cell_of_row w4 _ _ _ _ _ h9]; rfl
  have k1 : w4.cell? ⟨w.heap.size + 1, 1, none⟩ = some (.int .u8 0) := by rw [cell_of_row w4 _ _ _ _ _ h9]; rfl
  have et : hdText n d = (⟨#[72]⟩ ++ t1 ++ t2 : ByteArray).data.toList := by rw [app_list, app_list, E1.out, E2.out]; simp [hdText]
  have ET : Hid _ := et
  clear et hb4 B2 H7 h9 hc1
  go_wp2
  refine bodyPost_ret (v := .agg #[.int .u8 ((dg (hdText n d) : Int) / 256), .int .u8 ((dg (hdText n d) : Int) % 256)]) ?_ rfl ⟨rfl, ?_⟩
  · rw [ET.out]
    simp [results, Tryz.results16, go_sem, k0, k1]
  · repeat (refine Below.setCell ?_ (by simp) _)
    exact B4.out
end Go.Proofs.YtogmdaopfnmobaaGreat

/- What the document's own answer does (notaryref): value, sum, Fold. -/
namespace Go.Proofs.YtogmdaopfnmobaaGreat
open Go.RowKit
set_option maxHeartbeats 400000 in
theorem refValue_any (v : Int) (w : World) (b : Bool) (hb : isVal v = b) : Calls Tryz.prog 39 #[.int .i64 v] w fun e w' => e = .returned (.bool b) ∧ w' = w := by
  by_cases h : 0 ≤ v
  · by_cases h2 : v ≤ 1000000
    · have : b = true := by rw [← hb]; simp [isVal, h, h2]
      subst this
      clear hb
      go_enter Tryz.func39, Tryz.ntmps39
      go_wp2
      go_ret
      exact ⟨rfl, rfl⟩
    · have : b = false := by rw [← hb]; simp [isVal, h2]
      subst this
      clear hb
      go_enter Tryz.func39, Tryz.ntmps39
      go_wp2
      go_ret
      exact ⟨rfl, rfl⟩
  · have : b = false := by rw [← hb]; simp [isVal, h]
    subst this
    clear hb
    go_enter Tryz.func39, Tryz.ntmps39
    go_wp2
    go_ret
    exact ⟨rfl, rfl⟩
set_option maxHeartbeats 400000 in
theorem refSum_any (vv : Value) (vs : List Int) (w : World) (hc : Cells1 w w.heap.size vv (vs.map (.int .i64))) (hv : ∀ v ∈ vs, 0 ≤ v ∧ v ≤ 1000000) (hn : vs.length ≤ 64) :
    Calls Tryz.prog 66 #[vv] w fun e w' => e = .returned (.int .i64 vs.sum) ∧ w' = w := by
  have HC : Hid _ := hc
  obtain ⟨ao, cap, rfl, _⟩ := hc.ex
  simp only [List.length_map] at HC ⊢
  go_enter Tryz.func66, Tryz.ntmps66
  go_wp2
  go_loop [3, 4] (fun n i => ∃ k : Nat, k ≤ vs.length ∧ i = .int .i64 k ∧ n = .int .i64 (vs.take k).sum) (fun _ i => vs.length - (intOf i).toNat)
  case atStart => exact ⟨0, Nat.zero_le _, rfl, rfl⟩
  case round =>
    obtain ⟨k, hk, rfl, rfl⟩ := hrel
    by_cases hlt : k < vs.length
    · obtain ⟨b, off, rfl, hb, hcell⟩ := HC.out.at k (.int .i64 vs[k]) (by simp [hlt])
      have HS : Hid _ := take_succ_sum vs k hlt
      have hb1 := sum_bd (vs.take k) fun v hv' => hv v (List.mem_of_mem_take hv')
      have hb2 := hv _ (List.getElem_mem hlt)
      have hl : (vs.take k).length ≤ 64 := by simp; omega
      generalize (vs.take k).sum = s at HS hb1
      generalize vs[k] = x at HS hb2 hcell
      go_wp2
      go_round
      case rel => exact ⟨k + 1, by omega, by go_num, by rw [HS.out]⟩
      case measure => simp [intOf]; omega
    · have e : vs.take k = vs := List.take_of_length_le (by omega)
      rw [e]
      go_wp2
      go_ret
      exact ⟨rfl, rfl⟩
set_option maxHeartbeats 1000000 in
set_option maxRecDepth 100000 in
theorem refFold_any (tb : Bool) (vv hv : Value) (vs : List Int) (hs : List Bool) (a b : Nat) (w : World) (hT : TreeIn w w.heap.size vv hv vs hs) (hab : a ≤ b) (hb : b ≤ vs.length) :
    Calls Tryz.prog 137 #[.agg #[.bool tb, vv, hv], .int .i64 a, .int .i64 b] w fun e w' => e = .returned (foV (fv (lf tb vs hs) a (b - a))) ∧ Below w.heap.size w w' := by
  have HT : Hid _ := hT
  have HL : Hid _ := hT.len
  have hsm := hT.small
  obtain ⟨a1, p1, rfl, _⟩ := hT.hv1.ex
  obtain ⟨a2, p2, rfl, _⟩ := hT.hv2.ex
  simp only [List.length_map] at HT ⊢
  clear hT
  go_enter Tryz.func137, Tryz.ntmps137
  go_wp2
  have hF : Hid (FoAt (((w.alloc (.cells #[.bool tb, .slice a1 vs.length p1, .slice a2 hs.length p2] 53)).alloc (.cells #[.int .i64 0, .int .i64 0, .int .i64 0, .int .i64 0] 47)).alloc (.cells #[.int .i64 0, .int .i64 0, .int .i64 0, .int .i64 0] 47)) (w.heap.size + 1 + 1) .zero) := FoAt.at _ _ (by simp) .zero
  have hG : Hid (FoAt (((w.alloc (.cells #[.bool tb, .slice a1 vs.length p1, .slice a2 hs.length p2] 53)).alloc (.cells #[.int .i64 0, .int .i64 0, .int .i64 0, .int .i64 0] 47)).alloc (.cells #[.int .i64 0, .int .i64 0, .int .i64 0, .int .i64 0] 47)) (w.heap.size + 1) .zero) := (FoAt.at _ _ (by simp) .zero).alloc _
  obtain ⟨W0, hW0⟩ : ∃ W0, W0 = (((w.alloc (.cells #[.bool tb, .slice a1 vs.length p1, .slice a2 hs.length p2] 53)).alloc (.cells #[.int .i64 0, .int .i64 0, .int .i64 0, .int .i64 0] 47)).alloc (.cells #[.int .i64 0, .int .i64 0, .int .i64 0, .int .i64 0] 47)) := ⟨_, rfl⟩
  have hb0 : Hid (W0.cell? ⟨w.heap.size, 0, none⟩ = some (.bool tb) ∧ W0.cell? ⟨w.heap.size, 1, none⟩ = some (.slice a1 vs.length p1) ∧ W0.cell? ⟨w.heap.size, 2, none⟩ = some (.slice a2 hs.length p2)) := by
    have hh := heap_alloc3 w (.cells #[.bool tb, .slice a1 vs.length p1, .slice a2 hs.length p2] 53) (.cells #[.int .i64 0, .int .i64 0, .int .i64 0, .int .i64 0] 47) (.cells #[.int .i64 0, .int .i64 0, .int .i64 0, .int .i64 0] 47)
    rw [← hW0] at hh
    show _ ∧ _ ∧ _
    refine ⟨?_, ?_, ?_⟩ <;> rw [cell_of_row W0 _ _ _ _ _ hh] <;> rfl
  have hB0 : Hid (Below w.heap.size w W0) := by rw [hW0]; exact (((Below.refl _ _).alloc (Nat.le_refl _) _).alloc (by simp) _).alloc (by simp; omega) _
  have hz0 : W0.heap.size = w.heap.size + 3 := by rw [hW0]; simp
  rw [← hW0] at hF hG ⊢
  clear hW0
  go_loopw [8] (fun i wr => ∃ k : Nat, a ≤ k ∧ k ≤ b ∧ i = .int .i64 k ∧ Hid (FoAt wr (w.heap.size + 1 + 1) (fv (lf tb vs hs) a (k - a)) ∧ FoAt wr (w.heap.size + 1) .zero ∧ Below w.heap.size w wr ∧ wr.heap[w.heap.size]? = W0.heap[w.heap.size]?)) (fun i _ => b - (intOf i).toNat)
  case atStart => exact ⟨a, Nat.le_refl _, hab, rfl, by rw [Nat.sub_self]; exact hF.out, hG.out, hB0.out, rfl⟩
  case round =>
    obtain ⟨k, hk1, hk2, rfl, HR⟩ := hrel
    clear hF hG hB0
    obtain ⟨h1, h2, h3, h4⟩ := HR.out
    have c0 : wr.cell? ⟨w.heap.size, 0, none⟩ = some (.bool tb) := (World.cell?_of_block (a := ⟨w.heap.size, 0, none⟩) h4).trans hb0.out.1
    have c1 : wr.cell? ⟨w.heap.size, 1, none⟩ = some (.slice a1 vs.length p1) := (World.cell?_of_block (a := ⟨w.heap.size, 1, none⟩) h4).trans hb0.out.2.1
    have c2 : wr.cell? ⟨w.heap.size, 2, none⟩ = some (.slice a2 hs.length p2) := (World.cell?_of_block (a := ⟨w.heap.size, 2, none⟩) h4).trans hb0.out.2.2
    have l2 := h1.lt
    by_cases hlt : k < b
    · have hkv : k < vs.length := by omega
      have hkh : k < hs.length := by rw [HL.out]; exact hkv
      obtain ⟨b1, o1, hab1, hb1, d1⟩ := (HT.out.below h3).hv1.at k (.int .i64 vs[k]) (by simp [hkv])
      obtain ⟨b2, o2, hab2, hb2, d2⟩ := (HT.out.below h3).hv2.at k (.bool hs[k]) (by simp [hkh])
      subst hab1 hab2
      have HF : Hid (fv (lf tb vs hs) a (k + 1 - a) = tog (fv (lf tb vs hs) a (k - a)) (lf tb vs hs k).fold) := by
        rw [show k + 1 - a = (k - a) + 1 from by omega, fv, show a + (k - a) = k from by omega]; rfl
      have HG : Hid (lf tb vs hs k = if hs[k] then mkNd (.one vs[k]) (lfText tb k vs[k]) else .E) := by
        show _ = _; unfold lf; simp [hkv, hkh]
      have q := fv_bd (tb := tb) (hs := hs) HT.out.val a (k - a)
      have hgood := fv_good (lf_good (tb := tb) (vs := vs) (hs := hs)) a (k - a)
      have hval := HT.out.val _ (List.getElem_mem hkv)
      have i1 : (k : Int) < hs.length := by omega
      have i2 : (k : Int) < vs.length := by omega
      generalize fv (lf tb vs hs) a (k - a) = z at h1 HF q hgood HR
      generalize lf tb vs hs k = nd at HF HG
      obtain ⟨x, hx⟩ : ∃ x, x = vs[k] := ⟨_, rfl⟩
      rw [← hx] at d1 HG hval
      obtain ⟨hh, hhe⟩ : ∃ hh, hh = hs[k] := ⟨_, rfl⟩
      rw [← hhe] at d2 HG
      clear hx hhe hkv hkh HR
      cases hh with
      | false =>
        go_wp2
        go_roundw
        case rel => exact ⟨k + 1, by omega, by omega, by go_num, by rw [HF.out, HG.out]; simp only [Bool.false_eq_true, if_false]; rw [show Nd.E.fold = .zero from rfl, tog_zero_right hgood]; exact ⟨h1, h2, h3, h4⟩⟩
        case measure => simp [intOf]; omega
      | true =>
        obtain ⟨⟨f0, f1, f2, f3⟩, _⟩ := h1.cells
        go_wp2_with fail
        refine (refTogether_any z.c z.s z.m z.x 1 x x x _ (by omega) (by omega) (by omega) (by omega)).mono ?_
        rw [show tog ⟨z.c, z.s, z.m, z.x⟩ ⟨1, x, x, x⟩ = fv (lf tb vs hs) a (k + 1 - a) from by rw [HF.out, HG.out]; rfl, HF.out]
        generalize tog z nd.fold = z' at HF
        rintro e w1 ⟨rfl, hbl⟩
        rw [foV]
        have l1 : w.heap.size + 1 + 1 < w1.heap.size := by have := hbl.size; omega
        have B1 : Hid (Below w.heap.size w w1) := h3.trans (hbl.mono h3.size)
        have F1 : FoAt w1 (w.heap.size + 1 + 1) z := h1.below hbl l2
        have F2 : Hid (FoAt w1 (w.heap.size + 1) .zero) := h2.below hbl h2.lt
        have F3 : Hid (w1.heap[w.heap.size]? = W0.heap[w.heap.size]?) := (hbl.block _ (by omega)).trans h4
        clear f0 f1 f2 f3 c0 c1 c2 d1 d2 h1 h2 h3 h4 hbl
        obtain ⟨⟨f0, f1, f2, f3⟩, ff⟩ := F1.cells
        have F4 : Hid _ := F1
        clear F1
        go_wp2
        go_roundw
        case rel =>
          refine ⟨k + 1, by omega, by omega, by go_num, hid ⟨?_, ?_, ?_, ?_⟩⟩
          · rw [HF.out]; exact FoAt.set F4.out _
          · exact (((F2.out.far (by omega)).far (by omega)).far (by omega)).far (by omega)
          · repeat (refine Below.setCell ?_ (by simp; omega) _)
            exact B1.out
          · repeat (refine (Below.heap_setCell _ _ _ _ (by simp; omega)).trans ?_)
            exact F3.out
        case measure => simp [intOf]; omega
    · have hk' : k = b := by omega
      subst hk'
      obtain ⟨⟨f0, f1, f2, f3⟩, _⟩ := h1.cells
      obtain ⟨⟨g0, g1, g2, g3⟩, gg⟩ := h2.cells
      obtain ⟨z, hz⟩ : ∃ z, z = fv (lf tb vs hs) a (k - a) := ⟨_, rfl⟩
      rw [← hz] at h1 f0 f1 f2 f3
      have HZ : Hid _ := hz
      have H2 : Hid _ := h2
      have H3 : Hid _ := h3
      clear HR c0 c1 c2 hz h2 h3
      go_wp2
      refine ret_fold1 Tryz.results137 (FoAt.set (show FoAt _ _ _ from H2.out) z) rfl ⟨by rw [HZ.out], ?_⟩
      repeat (refine Below.setCell ?_ (by simp) _)
      exact H3.out
end Go.Proofs.YtogmdaopfnmobaaGreat

/- Blocks that were just laid. -/
namespace Go.Proofs.YtogmdaopfnmobaaGreat
open Go.RowKit
theorem heap_two (w : World) (o1 o2 : Obj) (n : Nat) (hn : n = w.heap.size) : ((w.alloc o1).alloc o2).heap[n]? = some o1 := by
  subst hn
  rw [Below.heap_alloc _ _ _ (by simp)]
  exact heap_alloc_new w o1
theorem heap_one (w : World) (o1 : Obj) (n : Nat) (hn : n = w.heap.size) : (w.alloc o1).heap[n]? = some o1 := by
  subst hn
  exact heap_alloc_new w o1
theorem heap_three (w : World) (o1 o2 o3 : Obj) (n : Nat) (hn : n = w.heap.size) : (((w.alloc o1).alloc o2).alloc o3).heap[n]? = some o1 := by
  subst hn
  exact heap_alloc3 w o1 o2 o3
end Go.Proofs.YtogmdaopfnmobaaGreat

/- A store as mathematics: what its calls answer, and what they leave of it. -/
namespace Go.Proofs.YtogmdaopfnmobaaGreat
open Go.RowKit
structure Sto where
  l : List Int
  t : List (Option Int)
structure Sto.ok (s : Sto) : Prop where
  val : ∀ v ∈ s.l, 0 ≤ v ∧ v ≤ 1000000
  len : s.l.length ≤ 64
  tval : ∀ v, some v ∈ s.t → 0 ≤ v ∧ v ≤ 1000000
  tlen : s.t.length = 32
def Sto.empty : Sto := ⟨[], List.replicate 32 none⟩
theorem Sto.empty_ok : Sto.empty.ok := ⟨by simp [Sto.empty], by simp [Sto.empty], by simp [Sto.empty], by simp [Sto.empty]⟩
def tv (t : List (Option Int)) : List Int := t.map (·.getD 0)
def tx (t : List (Option Int)) : List Bool := t.map (·.isSome)
theorem tv_val {s : Sto} (h : s.ok) : ∀ v ∈ tv s.t, 0 ≤ v ∧ v ≤ 1000000 := by
  intro v hv
  obtain ⟨o, ho, rfl⟩ := List.mem_map.1 hv
  cases o with
  | none => simp
  | some x => exact h.tval x ho
def apE (s : Sto) (v : Int) : Int := if isVal v then if 64 ≤ s.l.length then 2 else if 5000000 < s.l.sum + v then 3 else 0 else 1
def apS (s : Sto) (v : Int) : Sto := if apE s v = 0 then ⟨s.l ++ [v], s.t⟩ else s
theorem apS_ok {s : Sto} (h : s.ok) (v : Int) : (apS s v).ok := by
  unfold apS
  split
  · rename_i he
    have hv : isVal v = true := by
      cases hb : isVal v with
      | true => rfl
      | false => simp [apE, hb] at he
    have hl : ¬ 64 ≤ s.l.length := by intro hc; simp [apE, hv, hc] at he
    rw [isVal_iff] at hv
    refine ⟨fun x hx => ?_, by simp; omega, h.tval, h.tlen⟩
    rcases List.mem_append.1 hx with hx | hx
    · exact h.val x hx
    · simp at hx; subst hx; exact hv
  · exact h
theorem info_int : (Tryz.prog.info? 3).map (fun i => (i.zero, i.size, i.bytes)) = some (some (.int .i64 0), 1, 8) := by kernel_rfl
def tsum (t : List (Option Int)) : Int := (tv t).sum
def tat (t : List (Option Int)) (k : Nat) : Option Int := t.getD k none
def seE (s : Sto) (k v : Int) : Int := if 0 ≤ k ∧ k < 32 then if isVal v then if 5000000 < tsum s.t - (tat s.t k.toNat).getD 0 + v then 3 else 0 else 1 else 4
def seS (s : Sto) (k v : Int) : Sto := if seE s k v = 0 then ⟨s.l, s.t.set k.toNat (some v)⟩ else s
def deE (s : Sto) (k : Int) : Int := if 0 ≤ k ∧ k < 32 ∧ (tat s.t k.toNat).isSome then 0 else 4
def deS (s : Sto) (k : Int) : Sto := if deE s k = 0 then ⟨s.l, s.t.set k.toNat none⟩ else s
theorem mem_set_opt {t : List (Option Int)} {i : Nat} {o x : Option Int} (h : x ∈ t.set i o) : x ∈ t ∨ x = o := by
  obtain ⟨j, hj, rfl⟩ := List.getElem_of_mem h
  rw [List.getElem_set]
  split
  · exact .inr rfl
  · exact .inl (List.getElem_mem _)
theorem seS_ok {s : Sto} (h : s.ok) (k v : Int) : (seS s k v).ok := by
  unfold seS
  split
  · rename_i he
    have hv : isVal v = true := by
      cases hb : isVal v with
      | true => rfl
      | false => unfold seE at he; split at he <;> simp [hb] at he
    rw [isVal_iff] at hv
    refine ⟨h.val, h.len, fun x hx => ?_, by simp; exact h.tlen⟩
    rcases mem_set_opt hx with hx | hx
    · exact h.tval x hx
    · simp at hx; subst hx; exact hv
  · exact h
theorem deS_ok {s : Sto} (h : s.ok) (k : Int) : (deS s k).ok := by
  unfold deS
  split
  · refine ⟨h.val, h.len, fun x hx => ?_, by simp; exact h.tlen⟩
    rcases mem_set_opt hx with hx | hx
    · exact h.tval x hx
    · simp at hx
  · exact h
theorem tv_set (t : List (Option Int)) (i : Nat) (o : Option Int) : tv (t.set i o) = (tv t).set i (o.getD 0) := by simp [tv, List.map_set]
theorem tx_set (t : List (Option Int)) (i : Nat) (o : Option Int) : tx (t.set i o) = (tx t).set i o.isSome := by simp [tx, List.map_set]
theorem tv_at (t : List (Option Int)) (i : Nat) (h : i < t.length) (h' : i < ((tv t).map (Value.int .i64)).length) : ((tv t).map (Value.int .i64))[i] = .int .i64 ((tat t i).getD 0) := by
  simp [tv, tat, h]
theorem tx_at (t : List (Option Int)) (i : Nat) (h : i < t.length) (h' : i < ((tx t).map Value.bool).length) : ((tx t).map Value.bool)[i] = .bool (tat t i).isSome := by
  simp [tx, tat, h]
theorem ret_head2 {w : World} {g : Nat} {c0 c1 c2 v : Value} {fn : Func} {R : Ending → World → Prop} {tmps : Array Value} {k j : Nat} (hf : fn.results = #[.cell k 58, .tmp j]) (h : w.heap[g]? = some (.cells #[c0, c1, c2] 58 (0, 0)))
    (h2 : tmps[k]? = some (.pointer (some ⟨g, 0, none⟩))) (h3 : tmps[j]? = some v) (hR : R (.returned (.tuple #[.agg #[c0, c1, c2], v])) w) : bodyPost Tryz.prog fn R .ret ⟨tmps, []⟩ w := by
  have k0 : w.cell? ⟨g, 0, none⟩ = some c0 := by rw [cell_of_row w _ _ _ _ _ h]; rfl
  have k1 : w.cell? ⟨g, 1, none⟩ = some c1 := by rw [cell_of_row w _ _ _ _ _ h]; rfl
  have k2 : w.cell? ⟨g, 2, none⟩ = some c2 := by rw [cell_of_row w _ _ _ _ _ h]; rfl
  refine bodyPost_ret (v := .tuple #[.agg #[c0, c1, c2], v]) ?_ rfl hR
  simp [results, hf, go_sem, h2, h3, k0, k1, k2]
def headV (n : Nat) (d : Nat) : Value := .tuple #[.agg #[.int .i64 n, .int .u8 ((d : Int) / 256), .int .u8 ((d : Int) % 256)], .int .i64 0]
def noHead : Value := .tuple #[.agg #[.int .i64 0, .int .u8 0, .int .u8 0], .int .i64 5]
def cn (lf : Nat → Nd) (l : List Sp) : List Nd := l.map fun p => tr lf p.a p.b
theorem cn_next (lf : Nat → Nd) (l : List Sp) (k : Nat) (h : k < l.length) (p : Sp) (hp : p = l[k]) : cn lf (l.take (k + 1)) = cn lf (l.take k) ++ [tr lf p.a p.b] := by
  subst hp
  rw [List.take_succ_eq_append_getElem h]
  simp only [cn, List.map_append, List.map_cons, List.map_nil]
theorem cn_len (lf : Nat → Nd) (l : List Sp) : (cn lf l).length = l.length := by simp [cn]
theorem cov_in (f t : Nat) : ∀ (n a b : Nat), b - a ≤ n → a ≤ b → ∀ p ∈ cov a b f t, a ≤ p.a ∧ p.a ≤ p.b ∧ p.b ≤ b := by
  intro n
  induction n with
  | zero =>
    intro a b hn hab p hp
    rw [cov, if_pos (by omega)] at hp
    simp at hp; subst hp; exact ⟨Nat.le_refl _, hab, Nat.le_refl _⟩
  | succ n ih =>
    intro a b hn hab p hp
    by_cases hs : isOut a b f t = true ∨ isIn a b f t = true ∨ b < a + 2
    · rw [cov, if_pos hs] at hp
      simp at hp; subst hp; exact ⟨Nat.le_refl _, hab, Nat.le_refl _⟩
    · rw [cov, if_neg hs] at hp
      have x := hf_pos (b - a)
      have y := hf_lt (b - a) (by omega)
      rcases List.mem_append.1 hp with hp | hp
      · have := ih a (a + hf (b - a)) (by omega) (by omega) p hp; omega
      · have := ih (a + hf (b - a)) b (by omega) (by omega) p hp; omega
def prfN (tb : Bool) (vs : List Int) (hs : List Bool) (f t : Nat) : List Nd := cn (lf tb vs hs) (cov 0 vs.length f t)
def prfB (tb : Bool) (vs : List Int) (hs : List Bool) (f t : Nat) : ByteArray := ⟨(marks (prfN tb vs hs f t)).toArray⟩
theorem prf_len (tb : Bool) (vs : List Int) (hs : List Bool) (f t : Nat) (h : vs.length ≤ 64) : (prfN tb vs hs f t).length ≤ 64 := by
  rw [prfN, cn_len]
  have := (cov_len f t vs.length 0 vs.length (by omega)).2
  omega
theorem prf_ok (tb : Bool) (vs : List Int) (hs : List Bool) (f t : Nat) (h : vs.length ≤ 64) (hv : ∀ v ∈ vs, 0 ≤ v ∧ v ≤ 1000000) : (prfN tb vs hs f t).all Nd.ok = true := by
  rw [List.all_eq_true]
  intro d hd
  obtain ⟨p, hp, rfl⟩ := List.mem_map.1 hd
  have := cov_in f t vs.length 0 vs.length (by omega) (by omega) p hp
  exact tr_ok hv p.a p.b (by omega)
theorem ret_fold3 {w : World} {g : Nat} {f : Fo} {x y : Value} {fn : Func} {R : Ending → World → Prop} {tmps : Array Value} {k i j : Nat} (hf : fn.results = #[.cell k 47, .tmp i, .tmp j]) (h : FoAt w g f)
    (h2 : tmps[k]? = some (.pointer (some ⟨g, 0, none⟩))) (h3 : tmps[i]? = some x) (h4 : tmps[j]? = some y) (hR : R (.returned (.tuple #[foV f, x, y])) w) : bodyPost Tryz.prog fn R .ret ⟨tmps, []⟩ w := by
  obtain ⟨⟨k0, k1, k2, k3⟩, _⟩ := h.cells
  refine bodyPost_ret (v := .tuple #[foV f, x, y]) ?_ rfl hR
  simp [results, hf, go_sem, h2, h3, h4, k0, k1, k2, k3, foV]
def askV (f : Fo) (b : ByteArray) : Value := .tuple #[foV f, .string b, .int .i64 0]
def noAsk : Value := .tuple #[foV .zero, .string ⟨#[]⟩, .int .i64 5]
end Go.Proofs.YtogmdaopfnmobaaGreat

