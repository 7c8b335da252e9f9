/- What the document's own answer does (notaryref): the pairs of texts of the parts above a cover's: one part. -/
import Derived.Laws.OwnMore
import Derived.Test.YtogmdaopfnmobaaGreatA41
import Derived.Test.YtogmdaopfnmobaaGreatA15
import Derived.Test.YtogmdaopfnmobaaGreatA42
namespace Go.Proofs.YtogmdaopfnmobaaGreat
open Go.RowKit
def prCells (p : List UInt8 × List UInt8) : List Value := [.string ⟨p.1.toArray⟩, .string ⟨p.2.toArray⟩]
def prRow (l : List (List UInt8 × List UInt8)) : List Value := l.flatMap prCells
theorem prRow_len (l : List (List UInt8 × List UInt8)) : (prRow l).length = l.length * 2 := by
  induction l with
  | nil => rfl
  | cons p r ih => simp only [prRow, List.flatMap_cons, List.length_append, List.length_cons] at ih ⊢; rw [ih]; simp [prCells]; omega
theorem prRow_one (l : List (List UInt8 × List UInt8)) : ∀ u ∈ prRow l, u.oneCell' = true := by
  intro u hu
  obtain ⟨p, _, hp⟩ := List.mem_flatMap.1 hu
  simp only [prCells, List.mem_cons, List.not_mem_nil, or_false] at hp
  rcases hp with rfl | rfl <;> rfl
theorem prRow_append (l r : List (List UInt8 × List UInt8)) : prRow (l ++ r) = prRow l ++ prRow r := by simp [prRow]
theorem info_pair : (Tryz.prog.info? 107).map (fun i => (i.zero, i.size, i.bytes)) = some (some (.agg #[.string ⟨#[]⟩, .string ⟨#[]⟩]), 2, 32) := by kernel_rfl
theorem run_append_both {P : Program} (w : World) (base base2 : Nat) (t ty e : TypeId) (i : TypeInfo) (z : Value) (size bytes : Nat) (ht : P.underlying t = some (.slice e)) (hi : P.info? e = some i) (hz : i.zero = some z)
    (hsize : i.size = size) (hby : i.bytes = bytes) (hzs : z.cells.size = size) (hsz : 0 < size)
    (v r : Value) (n m : Nat) (xs ys : List Value) (hown : w.ownsRow base e size v n xs) (hr : w.ownsRow base2 e size r m ys) (h1 : ∀ u ∈ ys, u.oneCell' = true)
    (h63 : n + m ≤ maxLen) (hbytes : (n + m) * bytes ≤ 140737488355328) (hbase : base ≤ w.heap.size) :
    ∃ v' w', (Builtin.append_ #[t, t] ty #[v, r]).run P w = .ok v' w' ∧ w'.ownsRow base e size v' (n + m) (xs ++ ys) ∧ Grew w v w' v' := by
  have hl := hr.1
  rcases hr.2 with ⟨rfl, rfl⟩ | ⟨g, cap, cur, rfl, _, _, _⟩
  · have hy : ys = [] := List.eq_nil_of_length_eq_zero (by simpa using hl)
    subst hy
    exact ⟨v, w, run_append_owned_none w base t ty e i size ht hi v n xs hown, by simpa using hown, Grew.refl w v⟩
  · obtain ⟨v', w', h2, h3, h4, _⟩ := run_append_grew (P := P) w base t ty e i z size bytes ht hi hz hsize hby hzs hsz v n xs hown ⟨g, 0, none⟩ m cap ys hl (hr.cells (g := g) rfl) h1 h63 hbytes hbase
    exact ⟨v', w', h2, h3, h4⟩
theorem step_append_both {P : Program} (w : World) {ops : Array Oper} {o : Oper} {a : Act} {K : Act → World → Prop} {Q : Exit → Act → World → Prop} {E : Prop} (hgd : o.guard = none) (s x : Operand) (t : TypeId)
    (ho : o.op = .call { callee := .builtin .append, args := #[s, x], argTypes := #[t, t] })
    (base base2 : Nat) (e : TypeId) (i : TypeInfo) (z : Value) (size bytes : Nat) (ht : P.underlying t = some (.slice e)) (hi : P.info? e = some i) (hz : i.zero = some z)
    (hsize : i.size = size) (hby : i.bytes = bytes) (hzs : z.cells.size = size) (hsz : 0 < size)
    (v r : Value) (n m : Nat) (xs ys : List Value) (hs : a.eval s = v) (hx : a.eval x = r) (hown : w.ownsRow base e size v n xs) (hr : w.ownsRow base2 e size r m ys) (h1 : ∀ u ∈ ys, u.oneCell' = true)
    (h63 : n + m ≤ maxLen) (hbytes : (n + m) * bytes ≤ 140737488355328) (hbase : base ≤ w.heap.size)
    (h : ∀ v' w', w'.ownsRow base e size v' (n + m) (xs ++ ys) → Grew w v w' v' → K (a.put o.dst v') w') :
    if Region.wanted o (yielded ops a.tmps) = true then Oper.wp P o a w K Q else E := by
  have hw : Region.wanted o (yielded ops a.tmps) = true := by simp [Region.wanted, hgd]
  rw [if_pos hw]
  obtain ⟨v', w', hrun, h2, h3⟩ := run_append_both (P := P) w base base2 t o.type e i z size bytes ht hi hz hsize hby hzs hsz v r n m xs ys hown hr h1 h63 hbytes hbase
  unfold Oper.wp execOp
  simp only [ho, resolve, invoke, builtin, Sem.run_bind, Sem.run_pure, Result.andThen_ok, List.map_toArray, List.map_cons, List.map_nil, hs, hx, hrun]
  exact h v' w' h2 h3
theorem ret_pn {w : World} {g : Nat} {c0 c1 c2 c3 c4 c5 v : Value} {fn : Func} {R : Ending → World → Prop} {tmps : Array Value} {k j : Nat} (hf : fn.results = #[.tmp j, .cell k 51]) (h : Six w g c0 c1 c2 c3 c4 c5)
    (h2 : tmps[k]? = some (.pointer (some ⟨g, 0, none⟩))) (h3 : tmps[j]? = some v) (hR : R (.returned (.tuple #[v, .agg #[c0, c1, c2, c3, c4, c5]])) w) : bodyPost Tryz.prog fn R .ret ⟨tmps, []⟩ w := by
  obtain ⟨k0, k1, k2, k3, k4, k5⟩ := h.cells
  refine bodyPost_ret (v := .tuple #[v, .agg #[c0, c1, c2, c3, c4, c5]]) ?_ rfl hR
  simp [results, hf, go_sem, h2, h3, k0, k1, k2, k3, k4, k5]
theorem six_drew {w : World} {g : Nat} {c0 c1 c2 c3 c4 c5 : Value} (h : Six w g c0 c1 c2 c3 c4 c5) : Six w.drew g c0 c1 c2 c3 c4 c5 := h
theorem wk_drew {w : World} {G : Nat} {v : Value} {bad : Bool} (h : WkAt w G v bad) : WkAt w.drew G v bad := h
def abPost (Bd G : Nat) (l : List (List UInt8 × List UInt8)) (d : Nd) (rest : List Nd) (bad : Bool) (w : World) (e : Ending) (w' : World) : Prop :=
  ∃ pv, e = .returned (.tuple #[pv, ndV d]) ∧ Kept w w' [G] ∧ (∃ v, WkAt w' G v bad ∧ NV w' Bd G v rest) ∧ w'.ownsRow w.heap.size 107 2 pv l.length (prRow l)
set_option maxHeartbeats 4000000 in
set_option maxRecDepth 100000 in
theorem refAbv_leaf (tb : Bool) (vv hv : Value) (a b f t Bd G : Nat) (v : Value) (ns : List Nd) (bad : Bool) (w : World) (hA : WkAt w G v bad) (hV : NV w Bd G v ns) (hBd : Bd ≤ w.heap.size) (h1 : 1 ≤ ns.length) (hf64 : f ≤ 64) (ht64 : t ≤ 64) (hab : a ≤ b) (hb64 : b ≤ 64) (hs : a < b ∨ t ≤ a) (ho : isOut a b f t = true ∨ isIn a b f t = true) :
    Calls Tryz.prog 84 #[.pointer (some ⟨G, 0, none⟩), .agg #[.bool tb, vv, hv], .int .i64 a, .int .i64 b, .int .i64 f, .int .i64 t] w (abPost Bd G [] (ns.headD .E) ns.tail bad w) := by
  have HCv : ∀ w', Hid (Calls Tryz.prog 79 #[.int .i64 a, .int .i64 b, .int .i64 f, .int .i64 t] w' (covPost (cov a b f t) w')) := fun w' => hid (refCover_any f t hf64 ht64 b a b w' (by omega) hab hb64 hs)
  rw [cov_one a b f t ho] at HCv
  cases ns with
  | nil => simp at h1
  | cons d r =>
    have HV : Hid (NV w Bd G v (d :: r)) := hV
    obtain ⟨ao, cp, rfl, hc1, hc2, hc3, hN⟩ := hV.ex
    obtain ⟨bb, off, hao, hbB', e0, e1, e2, e3, e4, e5⟩ := rnodes_six hN (k := 0) (d := d) (by simp) (by simp)
    subst hao
    have hbB : bb < w.heap.size := by omega
    have hne := hc3 bb off rfl
    simp only [List.length_cons] at hc1 HV ⊢
    have hl1 : (1 : Int) ≤ ((r.length + 1 : Nat) : Int) := by omega
    have HA : Hid (WkAt w G (.slice (some ⟨bb, off, none⟩) (r.length + 1) cp) bad) := hA
    have hGl := hA.lt
    clear hA hc3 hN ho hs
    simp only [List.headD_cons, List.tail_cons]
    by_cases hcp : cp = 1
    · subst hcp
      obtain rfl : r = [] := List.eq_nil_of_length_eq_zero (by omega)
      simp only [List.length_nil, Nat.zero_add] at HA HV hl1 ⊢
      go_enter Tryz.func84, Tryz.ntmps84
      go_wp2_with fail
      refine (HCv _).out.mono ?_
      rintro e w1 ⟨g1, p1, rfl, _, hb1⟩
      have hB1 : Below w.heap.size w w1 := (((Below.refl _ _).alloc (Nat.le_refl _) _).alloc (by simp) _).trans (hb1.mono (by simp; omega))
      have hZ : Hid (Z6 w1 (w.heap.size + 1)) := hid ((Six.at (w.alloc _) (w.heap.size + 1) (by simp) _ _ _ _ _ _).below hb1 (by simp))
      have hA1 : WkAt w1 G (.slice (some ⟨bb, off, none⟩) 1 1) bad := (hB1.block G hGl).trans HA.out
      obtain ⟨⟨k0, k1⟩, kf⟩ := hA1.cells
      have z0 : G < w1.heap.size := hA1.lt
      have zb : bb < w1.heap.size := by have := hB1.size; omega
      have z1 : w.heap.size + 1 < w1.heap.size := by have := hb1.size; simp at this; omega
      have c0 : w1.cell? ⟨bb, off, none⟩ = some (.int .i64 d.c) := (hB1.cell (p := ⟨bb, off, none⟩) hbB).trans (by simpa using e0)
      have c1 : w1.cell? ⟨bb, off + 1, none⟩ = some (.int .i64 d.s) := (hB1.cell (p := ⟨bb, off + 1, none⟩) hbB).trans (by simpa using e1)
      have c2 : w1.cell? ⟨bb, off + 2, none⟩ = some (.int .i64 d.m) := (hB1.cell (p := ⟨bb, off + 2, none⟩) hbB).trans (by simpa using e2)
      have c3 : w1.cell? ⟨bb, off + 3, none⟩ = some (.int .i64 d.x) := (hB1.cell (p := ⟨bb, off + 3, none⟩) hbB).trans (by simpa using e3)
      have c4 : w1.cell? ⟨bb, off + 4, none⟩ = some (.int .u8 (d.h.toNat : Int)) := (hB1.cell (p := ⟨bb, off + 4, none⟩) hbB).trans (by simpa using e4)
      have c5 : w1.cell? ⟨bb, off + 5, none⟩ = some (.int .u8 (d.g.toNat : Int)) := (hB1.cell (p := ⟨bb, off + 5, none⟩) hbB).trans (by simpa using e5)
      have HB1 : Hid (Below w.heap.size w w1) := hB1
      have HA1 : Hid (WkAt w1 G (.slice (some ⟨bb, off, none⟩) 1 1) bad) := hA1
      have h6 : Six _ _ _ _ _ _ _ _ := hZ.out
      obtain ⟨s0, s1, s2, s3, s4, s5⟩ := h6.cells
      have sf : ∀ o, w1.frozen? ⟨w.heap.size + 1, o, none⟩ = false := fun o => by simp [World.frozen?, h6.eq]
      have hGn : G ≠ w.heap.size + 1 := by omega
      clear hb1 hB1 hA1 HCv e0 e1 e2 e3 e4 e5 h6
      go_wp2
      go_region
      all_goals go_wp2
      refine ret_pn Tryz.results84 (six_drew (((Six.far hZ.out (Ne.symm hGn)).set _ _ _ _ _ _).alloc _)) rfl rfl ⟨_, rfl, ?_, ⟨.slice (some ⟨bb, off, none⟩) 0 0, ?_, ?_⟩, World.ownsRow_nil _ _ _ _⟩
      · refine (Kept.alloc ?_ _).drew
        iterate 6 (refine Kept.setCell ?_ (.inr (by simp)) _)
        exact (Kept.of_below HB1.out _).setCell (.inl (by simp)) _
      · refine wk_drew ?_
        unfold WkAt
        rw [Below.heap_alloc _ _ _ (by simp; omega)]
        iterate 6 (refine (Below.heap_setCell _ _ _ _ hGn).trans ?_)
        exact heap_set (k := 0) HA1.out _
      · exact ⟨_, 0, rfl, Nat.le_refl _, by omega, fun b' off' e => by simp at e; obtain ⟨rfl, _⟩ := e; exact hne, ⟨_, 0, rfl, by simp, fun i hi => by simp at hi⟩⟩
    · have hcp2 : 2 ≤ cp := by omega
      go_enter Tryz.func84, Tryz.ntmps84
      go_wp2_with fail
      refine (HCv _).out.mono ?_
      rintro e w1 ⟨g1, p1, rfl, _, hb1⟩
      have hB1 : Below w.heap.size w w1 := (((Below.refl _ _).alloc (Nat.le_refl _) _).alloc (by simp) _).trans (hb1.mono (by simp; omega))
      have hZ : Hid (Z6 w1 (w.heap.size + 1)) := hid ((Six.at (w.alloc _) (w.heap.size + 1) (by simp) _ _ _ _ _ _).below hb1 (by simp))
      have hA1 : WkAt w1 G (.slice (some ⟨bb, off, none⟩) (r.length + 1) cp) bad := (hB1.block G hGl).trans HA.out
      obtain ⟨⟨k0, k1⟩, kf⟩ := hA1.cells
      have z0 : G < w1.heap.size := hA1.lt
      have zb : bb < w1.heap.size := by have := hB1.size; omega
      have z1 : w.heap.size + 1 < w1.heap.size := by have := hb1.size; simp at this; omega
      have c0 : w1.cell? ⟨bb, off, none⟩ = some (.int .i64 d.c) := (hB1.cell (p := ⟨bb, off, none⟩) hbB).trans (by simpa using e0)
      have c1 : w1.cell? ⟨bb, off + 1, none⟩ = some (.int .i64 d.s) := (hB1.cell (p := ⟨bb, off + 1, none⟩) hbB).trans (by simpa using e1)
      have c2 : w1.cell? ⟨bb, off + 2, none⟩ = some (.int .i64 d.m) := (hB1.cell (p := ⟨bb, off + 2, none⟩) hbB).trans (by simpa using e2)
      have c3 : w1.cell? ⟨bb, off + 3, none⟩ = some (.int .i64 d.x) := (hB1.cell (p := ⟨bb, off + 3, none⟩) hbB).trans (by simpa using e3)
      have c4 : w1.cell? ⟨bb, off + 4, none⟩ = some (.int .u8 (d.h.toNat : Int)) := (hB1.cell (p := ⟨bb, off + 4, none⟩) hbB).trans (by simpa using e4)
      have c5 : w1.cell? ⟨bb, off + 5, none⟩ = some (.int .u8 (d.g.toNat : Int)) := (hB1.cell (p := ⟨bb, off + 5, none⟩) hbB).trans (by simpa using e5)
      have HB1 : Hid (Below w.heap.size w w1) := hB1
      have HA1 : Hid (WkAt w1 G (.slice (some ⟨bb, off, none⟩) (r.length + 1) cp) bad) := hA1
      have h6 : Six _ _ _ _ _ _ _ _ := hZ.out
      obtain ⟨s0, s1, s2, s3, s4, s5⟩ := h6.cells
      have sf : ∀ o, w1.frozen? ⟨w.heap.size + 1, o, none⟩ = false := fun o => by simp [World.frozen?, h6.eq]
      have hGn : G ≠ w.heap.size + 1 := by omega
      clear hb1 hB1 hA1 HCv e0 e1 e2 e3 e4 e5 h6
      go_wp2
      go_region
      all_goals go_wp2
      refine ret_pn Tryz.results84 (six_drew (((Six.far hZ.out (Ne.symm hGn)).set _ _ _ _ _ _).alloc _)) rfl rfl ⟨_, rfl, ?_, ⟨.slice (some ⟨bb, off + 6, none⟩) r.length (cp - 1), ?_, ?_⟩, World.ownsRow_nil _ _ _ _⟩
      · refine (Kept.alloc ?_ _).drew
        iterate 6 (refine Kept.setCell ?_ (.inr (by simp)) _)
        exact (Kept.of_below HB1.out _).setCell (.inl (by simp)) _
      · refine wk_drew ?_
        unfold WkAt
        rw [Below.heap_alloc _ _ _ (by simp; omega)]
        iterate 6 (refine (Below.heap_setCell _ _ _ _ hGn).trans ?_)
        exact heap_set (k := 0) HA1.out _
      · refine (NV.tail HV.out).kept (G := G) ?_ hBd
        refine (Kept.alloc ?_ _).drew
        iterate 6 (refine Kept.setCell ?_ (.inr (by simp)) _)
        exact (Kept.of_below HB1.out _).setCell (.inl (by simp)) _
end Go.Proofs.YtogmdaopfnmobaaGreat

/- What the document's own answer does (notaryref): the pairs of texts of the parts above a cover's: a part of two. -/
namespace Go.Proofs.YtogmdaopfnmobaaGreat
open Go.RowKit
theorem nd_kept {w w' : World} {G g : Nat} {d : Nd} (h : NdAt w g d) (hk : Kept w w' [G]) (hne : g ≠ G) : NdAt w' g d := kept_six h hk hne
theorem nd_below {w w' : World} {B g : Nat} {d : Nd} (h : NdAt w g d) (hb : Below B w w') (hg : g < B) : NdAt w' g d := Six.below h hb hg
theorem nd_new (w : World) (d : Nd) (g : Nat) (hg : g = w.heap.size) : NdAt (w.alloc (.cells #[.int .i64 d.c, .int .i64 d.s, .int .i64 d.m, .int .i64 d.x, .int .u8 (d.h.toNat : Int), .int .u8 (d.g.toNat : Int)] 51)) g d := Six.at w g hg _ _ _ _ _ _
theorem z_below {w w' : World} {B g : Nat} (h : Z6 w g) (hb : Below B w w') (hg : g < B) : Z6 w' g := Six.below h hb hg
theorem z_kept {w w' : World} {G g : Nat} (h : Z6 w g) (hk : Kept w w' [G]) (hne : g ≠ G) : Z6 w' g := kept_six h hk hne
theorem z_lt {w : World} {g : Nat} (h : Z6 w g) : g < w.heap.size := (Array.getElem?_eq_some_iff.1 (show Six _ _ _ _ _ _ _ _ from h).eq).1
def PrAt (w : World) (g : Nat) (p q : ByteArray) : Prop := w.heap[g]? = some (.cells #[.string p, .string q] 107 (0, 0))
theorem PrAt.cells {w : World} {g : Nat} {p q : ByteArray} (h : PrAt w g p q) : (w.cell? ⟨g, 0, none⟩ = some (.string p) ∧ w.cell? ⟨g, 1, none⟩ = some (.string q)) ∧ ∀ o, w.frozen? ⟨g, o, none⟩ = false := by
  unfold PrAt at h
  refine ⟨⟨?_, ?_⟩, fun o => by simp [World.frozen?, h]⟩ <;> rw [cell_of_row w g _ _ _ _ h] <;> rfl
theorem PrAt.lt {w : World} {g : Nat} {p q : ByteArray} (h : PrAt w g p q) : g < w.heap.size := (Array.getElem?_eq_some_iff.1 h).1
theorem PrAt.set {w : World} {g : Nat} {p q : ByteArray} (h : PrAt w g p q) (p' q' : ByteArray) : PrAt ((w.setCell ⟨g, 0, none⟩ (.string p')).setCell ⟨g, 1, none⟩ (.string q')) g p' q' := heap_set (k := 1) (heap_set (k := 0) h _) _
theorem PrAt.one {w w' : World} {n : Nat} (hb : Below n (w.alloc (.cells #[.string ⟨#[]⟩, .string ⟨#[]⟩] 107)) w') (hn : w.heap.size < n) : PrAt w' w.heap.size ⟨#[]⟩ ⟨#[]⟩ := (hb.block w.heap.size hn).trans (heap_one w _ _ rfl)
theorem PrAt.oneD {w w' : World} {n : Nat} (hb : Below n (w.alloc (.cells #[.string ⟨#[]⟩, .string ⟨#[]⟩] 107)).drew w') (hn : w.heap.size < n) : PrAt w' w.heap.size ⟨#[]⟩ ⟨#[]⟩ := (hb.block w.heap.size hn).trans (heap_one w _ _ rfl)
theorem PrAt.oneE {w w' : World} {n : Nat} (hb : Below n (w.drew.alloc (.cells #[.string ⟨#[]⟩, .string ⟨#[]⟩] 107)) w') (hn : w.heap.size < n) : PrAt w' w.heap.size ⟨#[]⟩ ⟨#[]⟩ := (hb.block w.heap.size hn).trans (heap_one w.drew _ _ rfl)
theorem PrAt.below {w w' : World} {B g : Nat} {p q : ByteArray} (h : PrAt w g p q) (hb : Below B w w') (hg : g < B) : PrAt w' g p q := (hb.block g hg).trans h
theorem PrAt.belowD {w w' : World} {B g : Nat} {p q : ByteArray} (h : PrAt w g p q) (hb : Below B w.drew w') (hg : g < B) : PrAt w' g p q := (hb.block g hg).trans h
theorem PrAt.news {w : World} {g : Nat} {p q : ByteArray} (h : PrAt w g p q) : ∀ j u, [Value.string p, Value.string q][j]? = some u → w.cell? ((⟨g, 0, none⟩ : Addr).add j) = some u := by
  intro j u hj
  have e1 : (⟨g, 0, none⟩ : Addr).add j = ⟨g, j, none⟩ := by unfold Addr.add; split <;> simp_all
  rw [e1, cell_of_row w g j _ _ _ h]
  simpa using hj
theorem PrAt.new (w : World) (p q : ByteArray) : PrAt (w.alloc (.cells #[.string p, .string q] 107)) w.heap.size p q := heap_one w _ _ rfl
theorem PrAt.drew {w : World} {g : Nat} {p q : ByteArray} (h : PrAt w g p q) : PrAt w.drew g p q := h
theorem PrAt.grew {w w' : World} {g : Nat} {p q : ByteArray} {v v' : Value} (h : PrAt w g p q) (hg : Grew w v w' v') (hn : g ∉ ob v) : PrAt w' g p q := (hg.grown.block g h.lt (fun c => hn (mem_ob.2 c.symm))).trans h
theorem kept_cons {w w' : World} {k : Nat} {fp : List Nat} (h : Kept w w' fp) : Kept w w' (k :: fp) := ⟨h.os, h.tape, h.output, h.size, fun j hj hn => h.block j hj (fun c => hn (List.mem_cons_of_mem _ c))⟩
theorem kept_grew {w w' : World} {v v' : Value} {fp : List Nat} (hg : Grew w v w' v') (hf : ∀ k ∈ ob v, k ∈ fp) : Kept w w' fp := Kept.of_grown hg.grown fun k hk => hf k (mem_ob.2 hk)
theorem ob_grew {w w' : World} {v v' : Value} (hg : Grew w v w' v') : ∀ k ∈ ob v', k ∈ ob v ∨ w.heap.size ≤ k := fun k hk => by
  rcases hg.blk with e | ⟨j, e, hj⟩
  · left; rw [mem_ob, ← e]; exact mem_ob.1 hk
  · right; rw [mem_ob, e] at hk; injection hk with hk; omega
def TrAt (w : World) (g : Nat) (tb : Bool) (vv hv : Value) : Prop := w.heap[g]? = some (.cells #[.bool tb, vv, hv] 53 (0, 0))
theorem TrAt.cells {w : World} {g : Nat} {tb : Bool} {vv hv : Value} (h : TrAt w g tb vv hv) : w.cell? ⟨g, 0, none⟩ = some (.bool tb) ∧ w.cell? ⟨g, 1, none⟩ = some vv ∧ w.cell? ⟨g, 2, none⟩ = some hv := by
  unfold TrAt at h
  refine ⟨?_, ?_, ?_⟩ <;> rw [cell_of_row w g _ _ _ _ h] <;> rfl
theorem TrAt.lt {w : World} {g : Nat} {tb : Bool} {vv hv : Value} (h : TrAt w g tb vv hv) : g < w.heap.size := (Array.getElem?_eq_some_iff.1 h).1
theorem TrAt.below {w w' : World} {B g : Nat} {tb : Bool} {vv hv : Value} (h : TrAt w g tb vv hv) (hb : Below B w w') (hg : g < B) : TrAt w' g tb vv hv := (hb.block g hg).trans h
theorem TrAt.kept {w w' : World} {G g : Nat} {tb : Bool} {vv hv : Value} (h : TrAt w g tb vv hv) (hk : Kept w w' [G]) (hne : g ≠ G) : TrAt w' g tb vv hv := (hk.block g h.lt (by simp; exact hne)).trans h
structure AbIn (w W : World) (Bd G : Nat) (bad : Bool) (rest : List Nd) (p1 p2 : List (List UInt8 × List UInt8)) (r1 r2 : Value) (gx gy gu gv : Nat) (x y u v : Nd) : Prop where
  z : Z6 W (w.heap.size + 1)
  x : NdAt W gx x
  y : NdAt W gy y
  u : NdAt W gu u
  v : NdAt W gv v
  k : Kept w W [G]
  wk : ∃ q, WkAt W G q bad ∧ NV W Bd G q rest
  o1 : W.ownsRow w.heap.size 107 2 r1 p1.length (prRow p1)
  o2 : W.ownsRow w.heap.size 107 2 r2 p2.length (prRow p2)
  n1 : ∀ k ∈ ob r1, w.heap.size + 1 < k ∧ k < gx
  n2 : ∀ k ∈ ob r2, gx < k ∧ k < gy
  nx : w.heap.size + 1 < gx ∧ gx < gy ∧ gy < gu ∧ gu < gv
set_option maxHeartbeats 8000000 in
set_option maxRecDepth 100000 in
theorem refAbv_node (tb : Bool) (vv hv : Value) (a b f t Bd G k : Nat) (q0 : Value) (ns ns1 ns2 : List Nd) (bad : Bool) (x y u v : Nd) (p1 p2 : List (List UInt8 × List UInt8)) (L : List Sp) (w : World) (hA : WkAt w G q0 bad) (hV : NV w Bd G q0 ns) (hBd : Bd ≤ w.heap.size) (hb64 : b ≤ 64) (hab : a + 2 ≤ b) (hk : k < b - a) (hL : 2 ≤ L.length)
    (HCv : ∀ w', Hid (Calls Tryz.prog 79 #[.int .i64 a, .int .i64 b, .int .i64 f, .int .i64 t] w' (covPost L w')))
    (HH : ∀ w', Hid (Calls Tryz.prog 88 #[.int .i64 ((b - a : Nat) : Int)] w' fun e w2 => e = .returned (.int .i64 k) ∧ Below w'.heap.size w' w2))
    (I1 : ∀ w', Hid (Kept w w' [G] → WkAt w' G q0 bad → NV w' Bd G q0 ns → Bd ≤ w'.heap.size → Calls Tryz.prog 84 #[.pointer (some ⟨G, 0, none⟩), .agg #[.bool tb, vv, hv], .int .i64 a, .int .i64 ((a : Int) + k), .int .i64 f, .int .i64 t] w' (abPost Bd G p1 x ns1 bad w')))
    (I2 : ∀ w' q, Hid (Kept w w' [G] → WkAt w' G q bad → NV w' Bd G q ns1 → Bd ≤ w'.heap.size → Calls Tryz.prog 84 #[.pointer (some ⟨G, 0, none⟩), .agg #[.bool tb, vv, hv], .int .i64 ((a : Int) + k), .int .i64 b, .int .i64 f, .int .i64 t] w' (abPost Bd G p2 y ns2 bad w')))
    (HP1 : ∀ w', Hid (Kept w w' [G] → Calls Tryz.prog 46 #[.agg #[.bool tb, vv, hv], .int .i64 a, .int .i64 ((a : Int) + k)] w' fun e w2 => e = .returned (ndV u) ∧ Below w'.heap.size w' w2))
    (HP2 : ∀ w', Hid (Kept w w' [G] → Calls Tryz.prog 46 #[.agg #[.bool tb, vv, hv], .int .i64 ((a : Int) + k), .int .i64 b] w' fun e w2 => e = .returned (ndV v) ∧ Below w'.heap.size w' w2))
    (hx : x.ok = true) (hy : y.ok = true) (hu : u.ok = true) (hvk : v.ok = true) (hpl : p1.length + p2.length ≤ 1000) :
    Calls Tryz.prog 84 #[.pointer (some ⟨G, 0, none⟩), .agg #[.bool tb, vv, hv], .int .i64 a, .int .i64 b, .int .i64 f, .int .i64 t] w (abPost Bd G (p1 ++ p2 ++ [(abText x y, abText u v)]) (ab x y) ns2 bad w) := by
  have HA := hid hA
  have HV := hid hV
  have hGl := hA.lt
  have hGn : G ≠ w.heap.size + 1 := by omega
  have hl2 : ((L.length : Int) == 1) = false := by simp; omega
  have hsub : (b : Int) - a = ((b - a : Nat) : Int) := by omega
  clear hA hV
  obtain ⟨m, hm⟩ : ∃ m, m = b - a := ⟨_, rfl⟩
  rw [← hm] at HH hsub
  have hm64 : m ≤ 64 := by omega
  have hk64 : k < 64 := by omega
  have hak : a + k < 64 := by omega
  clear hm
  have HT1 : ∀ w', Hid (Calls Tryz.prog 125 #[ndV x, ndV y] w' _) := fun w' => hid (refText_any x y w' hx hy)
  have HT2 : ∀ w', Hid (Calls Tryz.prog 125 #[ndV u, ndV v] w' _) := fun w' => hid (refText_any u v w' hu hvk)
  have HAb : ∀ w', Hid (Calls Tryz.prog 89 #[ndV x, ndV y] w' _) := fun w' => hid (refAbove_any x y w' hx hy)
  clear hx hy hu hvk
  generalize abText x y = P at HT1 ⊢
  generalize abText u v = Q at HT2 ⊢
  generalize ab x y = z at HAb ⊢
  simp only [ndV] at HT1 HT2 HAb HP1 HP2
  go_enter Tryz.func84, Tryz.ntmps84
  go_wp2_with fail
  refine (HCv _).out.mono ?_
  rintro e w1 ⟨g1, c1, rfl, _, hb1⟩
  have B1 : Hid (Below w.heap.size w w1) := hid ((((Below.refl _ _).alloc (Nat.le_refl _) _).alloc (by simp) _).trans (hb1.mono (by simp; omega)))
  have Z1 : Hid (Z6 w1 (w.heap.size + 1)) := hid ((Six.at (w.alloc _) (w.heap.size + 1) (by simp) _ _ _ _ _ _).below hb1 (by simp))
  have T1 : Hid (TrAt w1 w.heap.size tb vv hv) := hid (TrAt.below (show TrAt _ _ _ _ _ from heap_two w _ _ _ rfl) hb1 (by simp; omega))
  clear hb1 HCv
  go_wp2_with fail
  refine (HH _).out.mono ?_
  rintro e w2 ⟨rfl, hb2⟩
  have B2 : Hid (Below w.heap.size w w2) := hid (B1.out.trans (hb2.mono B1.out.size))
  have Z2 : Hid (Z6 w2 (w.heap.size + 1)) := hid (z_below Z1.out hb2 (z_lt Z1.out))
  have T2 : Hid (TrAt w2 w.heap.size tb vv hv) := hid (T1.out.below hb2 T1.out.lt)
  obtain ⟨t0, t1, t2⟩ := T2.out.cells
  have l2 := T2.out.lt
  clear hb2 HH B1 Z1 T1
  go_wp2_with fail
  refine ((I1 _).out (Kept.of_below B2.out _) ((B2.out.block G hGl).trans HA.out) (HV.out.kept (Kept.of_below B2.out _) hBd) (by have := B2.out.size; omega)).mono ?_
  rintro e w3 ⟨r1, rfl, hk3, ⟨q3, hA3, hV3⟩, ho3⟩
  simp only [ndV]
  have K3 : Hid (Kept w w3 [G]) := hid ((Kept.of_below B2.out _).trans hk3 (fun x hx => .inl hx))
  have A3 := hid hA3
  have V3 := hid hV3
  have Z3 : Hid (Z6 w3 (w.heap.size + 1)) := hid (z_kept Z2.out hk3 (Ne.symm hGn))
  have T3 : Hid (TrAt w3 w.heap.size tb vv hv) := hid (T2.out.kept hk3 (by omega))
  have O3 : Hid (w3.ownsRow w2.heap.size 107 2 r1 p1.length (prRow p1)) := hid ho3
  have s3 : w2.heap.size ≤ w3.heap.size := hk3.size
  obtain ⟨ao1, cp1, rfl⟩ := own_shape ho3
  have hz2 := z_lt Z2.out
  clear hk3 hA3 hV3 ho3 B2 Z2 T2 I1 t0 t1 t2 HA HV
  obtain ⟨t0, t1, t2⟩ := T3.out.cells
  have l3 := T3.out.lt
  have g3 := A3.out.lt
  go_wp2_with fail
  obtain ⟨W3, hW3⟩ : ∃ W, W = w3.alloc (.cells #[.int .i64 x.c, .int .i64 x.s, .int .i64 x.m, .int .i64 x.x, .int .u8 (x.h.toNat : Int), .int .u8 (x.g.toNat : Int)] 51) := ⟨_, rfl⟩
  have hB : Below w3.heap.size w3 W3 := hW3 ▸ (Below.refl _ _).alloc (Nat.le_refl _) _
  have KB := Kept.of_below hB [G]
  have K3' : Hid (Kept w W3 [G]) := hid (K3.out.trans KB (fun x hx => .inl hx))
  have A3' : Hid (WkAt W3 G q3 bad) := hid ((hB.block G g3).trans A3.out)
  have V3' : Hid (NV W3 Bd G q3 ns1) := hid (V3.out.kept KB (by omega))
  have Z3' : Hid (Z6 W3 (w.heap.size + 1)) := hid (z_below Z3.out hB (z_lt Z3.out))
  have T3' : Hid (TrAt W3 w.heap.size tb vv hv) := hid (T3.out.below hB l3)
  have O3' : Hid (W3.ownsRow w2.heap.size 107 2 (.slice ao1 p1.length cp1) p1.length (prRow p1)) := hid (ownsRow_below O3.out hB)
  have X3' : Hid (NdAt W3 w3.heap.size x) := hid (hW3 ▸ nd_new w3 x _ rfl)
  have F3 : Hid (∀ j ∈ ob (.slice ao1 p1.length cp1), w2.heap.size ≤ j ∧ j < w3.heap.size) := hid fun j hj => own_in O3.out j hj
  have s3' : W3.heap.size = w3.heap.size + 1 := by rw [hW3]; simp
  rw [← hW3]
  clear hW3 hB KB K3 A3 V3 Z3 T3 O3 t0 t1 t2
  refine ((I2 _ q3).out K3'.out A3'.out V3'.out (by omega)).mono ?_
  rintro e w4 ⟨r2, rfl, hk4, ⟨q4, hA4, hV4⟩, ho4⟩
  simp only [ndV]
  have K4 : Hid (Kept w w4 [G]) := hid (K3'.out.trans hk4 (fun x hx => .inl hx))
  have A4 := hid hA4
  have V4 := hid hV4
  have Z4 : Hid (Z6 w4 (w.heap.size + 1)) := hid (z_kept Z3'.out hk4 (Ne.symm hGn))
  have T4 : Hid (TrAt w4 w.heap.size tb vv hv) := hid (T3'.out.kept hk4 (by omega))
  have X4 : Hid (NdAt w4 w3.heap.size x) := hid (nd_kept X3'.out hk4 (by omega))
  have O4 : Hid (w4.ownsRow w2.heap.size 107 2 (.slice ao1 p1.length cp1) p1.length (prRow p1)) := hid (own_keep O3'.out fun j hj => hk4.block j (own_in O3'.out j hj).2 (by simp; have := (F3.out j hj).1; omega))
  have O4b := hid ho4
  have s4 : W3.heap.size ≤ w4.heap.size := hk4.size
  obtain ⟨ao2, cp2, rfl⟩ := own_shape ho4
  have F4 : Hid (∀ j ∈ ob (.slice ao2 p2.length cp2), W3.heap.size ≤ j ∧ j < w4.heap.size) := hid fun j hj => own_in ho4 j hj
  clear hk4 hA4 hV4 ho4 K3' A3' V3' Z3' T3' O3' X3' I2
  obtain ⟨t0, t1, t2⟩ := T4.out.cells
  have l4 := T4.out.lt
  have g4 := A4.out.lt
  go_wp2_with fail
  obtain ⟨W4, hW4⟩ : ∃ W, W = w4.alloc (.cells #[.int .i64 y.c, .int .i64 y.s, .int .i64 y.m, .int .i64 y.x, .int .u8 (y.h.toNat : Int), .int .u8 (y.g.toNat : Int)] 51) := ⟨_, rfl⟩
  have hB : Below w4.heap.size w4 W4 := hW4 ▸ (Below.refl _ _).alloc (Nat.le_refl _) _
  have s4' : W4.heap.size = w4.heap.size + 1 := by rw [hW4]; simp
  have Y4 : Hid (NdAt W4 w4.heap.size y) := hid (hW4 ▸ nd_new w4 y _ rfl)
  have B4 := hid hB
  rw [← hW4]
  clear hW4 hB t0 t1 t2
  refine ((HP1 _).out (K4.out.trans (Kept.of_below B4.out _) (fun x hx => .inl hx))).mono ?_
  rintro e w5 ⟨rfl, hb5⟩
  have B5 : Hid (Below w4.heap.size w4 w5) := hid (B4.out.trans (hb5.mono (by omega)))
  have Y5 : Hid (NdAt w5 w4.heap.size y) := hid (nd_below Y4.out hb5 (by omega))
  have s5 : W4.heap.size ≤ w5.heap.size := hb5.size
  clear hb5 HP1 Y4 B4
  obtain ⟨t0, t1, t2⟩ := (T4.out.below B5.out l4).cells
  have l5 : w.heap.size < w5.heap.size := by omega
  go_wp2_with fail
  obtain ⟨W5, hW5⟩ : ∃ W, W = w5.alloc (.cells #[.int .i64 u.c, .int .i64 u.s, .int .i64 u.m, .int .i64 u.x, .int .u8 (u.h.toNat : Int), .int .u8 (u.g.toNat : Int)] 51) := ⟨_, rfl⟩
  have hB : Below w5.heap.size w5 W5 := hW5 ▸ (Below.refl _ _).alloc (Nat.le_refl _) _
  have s5' : W5.heap.size = w5.heap.size + 1 := by rw [hW5]; simp
  have U5 : Hid (NdAt W5 w5.heap.size u) := hid (hW5 ▸ nd_new w5 u _ rfl)
  have B5' : Hid (Below w4.heap.size w4 W5) := hid (B5.out.trans (hB.mono (by omega)))
  have Y5' : Hid (NdAt W5 w4.heap.size y) := hid (nd_below Y5.out hB (by omega))
  rw [← hW5]
  clear hW5 hB t0 t1 t2 B5 Y5
  refine ((HP2 _).out (K4.out.trans (Kept.of_below B5'.out _) (fun x hx => .inl hx))).mono ?_
  rintro e w6 ⟨rfl, hb6⟩
  have B6 : Hid (Below w4.heap.size w4 w6) := hid (B5'.out.trans (hb6.mono (by omega)))
  have Y6 : Hid (NdAt w6 w4.heap.size y) := hid (nd_below Y5'.out hb6 (by omega))
  have U6 : Hid (NdAt w6 w5.heap.size u) := hid (nd_below U5.out hb6 (by omega))
  have s6 : W5.heap.size ≤ w6.heap.size := hb6.size
  clear hb6 HP2 U5 Y5' B5'
  go_wp2_with fail
  obtain ⟨W6, hW6⟩ : ∃ W, W = w6.alloc (.cells #[.int .i64 v.c, .int .i64 v.s, .int .i64 v.m, .int .i64 v.x, .int .u8 (v.h.toNat : Int), .int .u8 (v.g.toNat : Int)] 51) := ⟨_, rfl⟩
  have hB : Below w6.heap.size w6 W6 := hW6 ▸ (Below.refl _ _).alloc (Nat.le_refl _) _
  have hB6 : Below w4.heap.size w4 W6 := B6.out.trans (hB.mono (by omega))
  have KB := Kept.of_below hB6 [G]
  have s6' : W6.heap.size = w6.heap.size + 1 := by rw [hW6]; simp
  have HIN : Hid (AbIn w W6 Bd G bad ns2 p1 p2 (.slice ao1 p1.length cp1) (.slice ao2 p2.length cp2) w3.heap.size w4.heap.size w5.heap.size w6.heap.size x y u v) := hid
    { z := z_below Z4.out hB6 (by omega)
      x := nd_below X4.out hB6 (by omega)
      y := nd_below Y6.out hB (by omega)
      u := nd_below U6.out hB (by omega)
      v := hW6 ▸ nd_new w6 v _ rfl
      k := K4.out.trans KB (fun x hx => .inl hx)
      wk := ⟨q4, (hB6.block G g4).trans A4.out, V4.out.kept KB (by omega)⟩
      o1 := own_mono' (ownsRow_below O4.out hB6) (by omega)
      o2 := own_mono' (ownsRow_below O4b.out hB6) (by omega)
      n1 := fun j hj => by have := F3.out j hj; omega
      n2 := fun j hj => by have := F4.out j hj; omega
      nx := by omega }
  have hx6 : w6.heap.size < W6.heap.size := by omega
  rw [← hW6]
  clear hW6 hB hB6 KB Z4 X4 Y6 U6 K4 A4 V4 O4 O4b F3 F4 B6 T4 l4 l5 l3 l2 g3 g4 s3 s3' s4 s4' s5 s5' s6 s6' hz2
  generalize w3.heap.size = gx at HIN ⊢
  generalize w4.heap.size = gy at HIN ⊢
  generalize w5.heap.size = gu at HIN ⊢
  generalize w6.heap.size = gv at HIN hx6 ⊢
  have HCS : Hid (∀ w', Below W6.heap.size W6 w' → (w'.cell? ⟨gx, 0, none⟩ = some (.int .i64 x.c) ∧ w'.cell? ⟨gx, 1, none⟩ = some (.int .i64 x.s) ∧ w'.cell? ⟨gx, 2, none⟩ = some (.int .i64 x.m) ∧ w'.cell? ⟨gx, 3, none⟩ = some (.int .i64 x.x) ∧ w'.cell? ⟨gx, 4, none⟩ = some (.int .u8 (x.h.toNat : Int)) ∧ w'.cell? ⟨gx, 5, none⟩ = some (.int .u8 (x.g.toNat : Int))) ∧ (w'.cell? ⟨gy, 0, none⟩ = some (.int .i64 y.c) ∧ w'.cell? ⟨gy, 1, none⟩ = some (.int .i64 y.s) ∧ w'.cell? ⟨gy, 2, none⟩ = some (.int .i64 y.m) ∧ w'.cell? ⟨gy, 3, none⟩ = some (.int .i64 y.x) ∧ w'.cell? ⟨gy, 4, none⟩ = some (.int .u8 (y.h.toNat : Int)) ∧ w'.cell? ⟨gy, 5, none⟩ = some (.int .u8 (y.g.toNat : Int))) ∧ (w'.cell? ⟨gu, 0, none⟩ = some (.int .i64 u.c) ∧ w'.cell? ⟨gu, 1, none⟩ = some (.int .i64 u.s) ∧ w'.cell? ⟨gu, 2, none⟩ = some (.int .i64 u.m) ∧ w'.cell? ⟨gu, 3, none⟩ = some (.int .i64 u.x) ∧ w'.cell? ⟨gu, 4, none⟩ = some (.int .u8 (u.h.toNat : Int)) ∧ w'.cell? ⟨gu, 5, none⟩ = some (.int .u8 (u.g.toNat : Int))) ∧ (w'.cell? ⟨gv, 0, none⟩ = some (.int .i64 v.c) ∧ w'.cell? ⟨gv, 1, none⟩ = some (.int .i64 v.s) ∧ w'.cell? ⟨gv, 2, none⟩ = some (.int .i64 v.m) ∧ w'.cell? ⟨gv, 3, none⟩ = some (.int .i64 v.x) ∧ w'.cell? ⟨gv, 4, none⟩ = some (.int .u8 (v.h.toNat : Int)) ∧ w'.cell? ⟨gv, 5, none⟩ = some (.int .u8 (v.g.toNat : Int)))) := hid fun w' hb => by
    have hn := HIN.out.nx
    exact ⟨(nd_below HIN.out.x hb (by omega)).cells.1, (nd_below HIN.out.y hb (by omega)).cells.1, (nd_below HIN.out.u hb (by omega)).cells.1, (nd_below HIN.out.v hb (by omega)).cells.1⟩
  have hcs := HCS.out W6 (Below.refl _ _)
  go_region_held3 (fun w' => (w'.cell? ⟨gx, 0, none⟩ = some (.int .i64 x.c) ∧ w'.cell? ⟨gx, 1, none⟩ = some (.int .i64 x.s) ∧ w'.cell? ⟨gx, 2, none⟩ = some (.int .i64 x.m) ∧ w'.cell? ⟨gx, 3, none⟩ = some (.int .i64 x.x) ∧ w'.cell? ⟨gx, 4, none⟩ = some (.int .u8 (x.h.toNat : Int)) ∧ w'.cell? ⟨gx, 5, none⟩ = some (.int .u8 (x.g.toNat : Int))) ∧ (w'.cell? ⟨gy, 0, none⟩ = some (.int .i64 y.c) ∧ w'.cell? ⟨gy, 1, none⟩ = some (.int .i64 y.s) ∧ w'.cell? ⟨gy, 2, none⟩ = some (.int .i64 y.m) ∧ w'.cell? ⟨gy, 3, none⟩ = some (.int .i64 y.x) ∧ w'.cell? ⟨gy, 4, none⟩ = some (.int .u8 (y.h.toNat : Int)) ∧ w'.cell? ⟨gy, 5, none⟩ = some (.int .u8 (y.g.toNat : Int))) ∧ (w'.cell? ⟨gu, 0, none⟩ = some (.int .i64 u.c) ∧ w'.cell? ⟨gu, 1, none⟩ = some (.int .i64 u.s) ∧ w'.cell? ⟨gu, 2, none⟩ = some (.int .i64 u.m) ∧ w'.cell? ⟨gu, 3, none⟩ = some (.int .i64 u.x) ∧ w'.cell? ⟨gu, 4, none⟩ = some (.int .u8 (u.h.toNat : Int)) ∧ w'.cell? ⟨gu, 5, none⟩ = some (.int .u8 (u.g.toNat : Int))) ∧ (w'.cell? ⟨gv, 0, none⟩ = some (.int .i64 v.c) ∧ w'.cell? ⟨gv, 1, none⟩ = some (.int .i64 v.s) ∧ w'.cell? ⟨gv, 2, none⟩ = some (.int .i64 v.m) ∧ w'.cell? ⟨gv, 3, none⟩ = some (.int .i64 v.x) ∧ w'.cell? ⟨gv, 4, none⟩ = some (.int .u8 (v.h.toNat : Int)) ∧ w'.cell? ⟨gv, 5, none⟩ = some (.int .u8 (v.g.toNat : Int))))
    (first | exact HCS.out _ (by (repeat (first | (with_reducible exact hBn) | (with_reducible exact hBa) | (with_reducible exact Below.refl _ _) | (with_reducible apply Below.drew) | (with_reducible refine Below.alloc ?_ (by first | exact Nat.le_refl _ | exact hBn.size | exact hBa.size) _) | (with_reducible refine Below.setCell ?_ (by first | exact Nat.le_refl _ | exact hBn.size | exact hBa.size) _)))) | go_keep)
    ((go_at_call 125; first
      | (refine (HT1 _).out.mono ?_; rintro e wn ⟨rfl, hbn⟩; have hBn : Below W6.heap.size W6 wn := Below.trans (by (repeat (first | (with_reducible exact Below.refl _ _) | (with_reducible apply Below.drew) | (with_reducible refine Below.alloc ?_ (Nat.le_refl _) _)))) (hbn.mono (by simp)); (first | (have hPn := PrAt.one hbn (by simp)) | (have hPn := PrAt.oneD hbn (by simp)) | (have hPn := PrAt.oneE hbn (by simp)) | skip); clear hbn HT1)
      | (refine (HT2 _).out.mono ?_; rintro e wa ⟨rfl, hba⟩; have hBa : Below W6.heap.size W6 wa := Below.trans (by (repeat (first | (with_reducible exact hBn) | (with_reducible apply Below.drew) | (with_reducible refine Below.alloc ?_ hBn.size _) | exact hBn.size | (with_reducible refine Below.alloc ?_ ?_ _)))) (hba.mono (by have := hBn.size; simp; omega)); (first | (have hPa := hPn.below hba hPn.lt) | (have hPa := hPn.belowD hba hPn.lt) | (have hPa := PrAt.one hba (by simp)) | (have hPa := PrAt.oneD hba (by simp)) | (have hPa := PrAt.oneE hba (by simp)) | skip); (first | (have hPc := hPa.cells) | skip); clear hba)))
  all_goals first
    | (obtain ⟨W7, hW7⟩ : ∃ W, W = wa.alloc (.cells #[.string ⟨P.toArray⟩, .string ⟨Q.toArray⟩] 107) := ⟨_, rfl⟩
       rw [← hW7]
       have H7 : Hid (PrAt W7 wa.heap.size ⟨P.toArray⟩ ⟨Q.toArray⟩ ∧ Below W6.heap.size W6 W7 ∧ W6.heap.size ≤ wa.heap.size) := hid (hW7 ▸ ⟨heap_one wa _ _ rfl, hBa.alloc hBa.size _, hBa.size⟩)
       clear hW7
       generalize wa.heap.size = gp at H7 ⊢)
    | (obtain ⟨W7, hW7⟩ : ∃ W, W = (wa.setCell ⟨wn.heap.size, 0, none⟩ (.string ⟨P.toArray⟩)).setCell ⟨wn.heap.size, 1, none⟩ (.string ⟨Q.toArray⟩) := ⟨_, rfl⟩
       rw [← hW7]
       have H7 : Hid (PrAt W7 wn.heap.size ⟨P.toArray⟩ ⟨Q.toArray⟩ ∧ Below W6.heap.size W6 W7 ∧ W6.heap.size ≤ wn.heap.size) := hid (hW7 ▸ ⟨hPa.set _ _, (hBa.setCell hBn.size _).setCell hBn.size _, hBn.size⟩)
       clear hW7 hPa hPc
       generalize wn.heap.size = gp at H7 ⊢)
    | (obtain ⟨W7, hW7⟩ : ∃ W, W = (wa.setCell ⟨W6.heap.size, 0, none⟩ (.string ⟨P.toArray⟩)).setCell ⟨W6.heap.size, 1, none⟩ (.string ⟨Q.toArray⟩) := ⟨_, rfl⟩
       rw [← hW7]
       have H7 : Hid (PrAt W7 W6.heap.size ⟨P.toArray⟩ ⟨Q.toArray⟩ ∧ Below W6.heap.size W6 W7 ∧ W6.heap.size ≤ W6.heap.size) := hid (hW7 ▸ ⟨hPa.set _ _, (hBa.setCell (Nat.le_refl _) _).setCell (Nat.le_refl _) _, Nat.le_refl _⟩)
       clear hW7 hPa hPc hPn
       obtain ⟨gp, hgp⟩ : ∃ gp, gp = W6.heap.size := ⟨_, rfl⟩
       rw [← hgp]
       have H7 : Hid (PrAt W7 gp ⟨P.toArray⟩ ⟨Q.toArray⟩ ∧ Below W6.heap.size W6 W7 ∧ W6.heap.size ≤ gp) := hid ⟨hgp ▸ H7.out.1, H7.out.2.1, by omega⟩
       clear hgp)
  all_goals
    clear hBn hBa hcs HT2 HCS
    obtain ⟨i0, hi, hz0, hz1, hz2⟩ := info_parts info_pair
    have hn := HIN.out.nx
    have hs7 : W6.heap.size ≤ W7.heap.size := H7.out.2.1.size
    have hw7 : w.heap.size ≤ W7.heap.size := by omega
    have hgp := H7.out.2.2
    have HO1 : Hid (∀ X : World, (∀ k, k < W7.heap.size → X.heap[k]? = W7.heap[k]?) → X.ownsRow w.heap.size 107 2 (.slice ao1 p1.length cp1) p1.length (prRow p1) ∧ X.ownsRow w.heap.size 107 2 (.slice ao2 p2.length cp2) p2.length (prRow p2)) := hid fun X hX => by
      have a1 := ownsRow_below HIN.out.o1 H7.out.2.1
      have a2 := ownsRow_below HIN.out.o2 H7.out.2.1
      exact ⟨own_keep a1 fun k hk => hX k (own_in a1 k hk).2, own_keep a2 fun k hk => hX k (own_in a2 k hk).2⟩
    have HN1 : Hid (∀ k ∈ ob (.slice ao1 p1.length cp1), w.heap.size + 1 < k ∧ k < gx) := hid HIN.out.n1
    have HC7 : Hid (∀ w', Kept W7 w' ((w.heap.size + 1) :: ob (.slice ao1 p1.length cp1)) → (w'.cell? ⟨gx, 0, none⟩ = some (.int .i64 x.c) ∧ w'.cell? ⟨gx, 1, none⟩ = some (.int .i64 x.s) ∧ w'.cell? ⟨gx, 2, none⟩ = some (.int .i64 x.m) ∧ w'.cell? ⟨gx, 3, none⟩ = some (.int .i64 x.x) ∧ w'.cell? ⟨gx, 4, none⟩ = some (.int .u8 (x.h.toNat : Int)) ∧ w'.cell? ⟨gx, 5, none⟩ = some (.int .u8 (x.g.toNat : Int))) ∧ (w'.cell? ⟨gy, 0, none⟩ = some (.int .i64 y.c) ∧ w'.cell? ⟨gy, 1, none⟩ = some (.int .i64 y.s) ∧ w'.cell? ⟨gy, 2, none⟩ = some (.int .i64 y.m) ∧ w'.cell? ⟨gy, 3, none⟩ = some (.int .i64 y.x) ∧ w'.cell? ⟨gy, 4, none⟩ = some (.int .u8 (y.h.toNat : Int)) ∧ w'.cell? ⟨gy, 5, none⟩ = some (.int .u8 (y.g.toNat : Int))) ∧ (w'.cell? ⟨gp, 0, none⟩ = some (.string ⟨P.toArray⟩) ∧ w'.cell? ⟨gp, 1, none⟩ = some (.string ⟨Q.toArray⟩))) := hid fun w' hk => by
      have far : ∀ k, (k = gx ∨ k = gy ∨ k = gp) → k ∉ (w.heap.size + 1) :: ob (.slice ao1 p1.length cp1) := fun k h c => by
        rcases List.mem_cons.1 c with c | c
        · omega
        · have := HN1.out k c; omega
      have hl := H7.out.1.lt
      have bx := (nd_below HIN.out.x H7.out.2.1 (by omega))
      have by' := (nd_below HIN.out.y H7.out.2.1 (by omega))
      have cx : NdAt w' gx x := (hk.block gx bx.lt (far gx (.inl rfl))).trans bx
      have cy : NdAt w' gy y := (hk.block gy by'.lt (far gy (.inr (.inl rfl)))).trans by'
      have cp : PrAt w' gp ⟨P.toArray⟩ ⟨Q.toArray⟩ := (hk.block gp hl (far gp (.inr (.inr rfl)))).trans H7.out.1
      exact ⟨cx.cells.1, cy.cells.1, cp.cells.1⟩
    have hcs := HC7.out W7 (Kept.refl _ _)
    have HZ7 : Hid (Z6 W7 (w.heap.size + 1)) := hid (z_below HIN.out.z H7.out.2.1 (by omega))
    have hp1l : p1.length ≤ 1000 := by omega
    have hp2l : p2.length ≤ 1000 := by omega
    go_wp2
    have HAG : Hid (∀ X : World, Kept W7 X [] → ∀ k, k < W7.heap.size → X.heap[k]? = W7.heap[k]?) := hid fun X h k hk => h.block k hk (by simp)
    go_region_held3 (fun w' => (w'.cell? ⟨gx, 0, none⟩ = some (.int .i64 x.c) ∧ w'.cell? ⟨gx, 1, none⟩ = some (.int .i64 x.s) ∧ w'.cell? ⟨gx, 2, none⟩ = some (.int .i64 x.m) ∧ w'.cell? ⟨gx, 3, none⟩ = some (.int .i64 x.x) ∧ w'.cell? ⟨gx, 4, none⟩ = some (.int .u8 (x.h.toNat : Int)) ∧ w'.cell? ⟨gx, 5, none⟩ = some (.int .u8 (x.g.toNat : Int))) ∧ (w'.cell? ⟨gy, 0, none⟩ = some (.int .i64 y.c) ∧ w'.cell? ⟨gy, 1, none⟩ = some (.int .i64 y.s) ∧ w'.cell? ⟨gy, 2, none⟩ = some (.int .i64 y.m) ∧ w'.cell? ⟨gy, 3, none⟩ = some (.int .i64 y.x) ∧ w'.cell? ⟨gy, 4, none⟩ = some (.int .u8 (y.h.toNat : Int)) ∧ w'.cell? ⟨gy, 5, none⟩ = some (.int .u8 (y.g.toNat : Int))) ∧ (w'.cell? ⟨gp, 0, none⟩ = some (.string ⟨P.toArray⟩) ∧ w'.cell? ⟨gp, 1, none⟩ = some (.string ⟨Q.toArray⟩)))
      (first | exact HC7.out _ (by (repeat (first | (with_reducible exact kept_cons hK10) | (with_reducible exact kept_cons hK9) | (with_reducible exact kept_cons hK8) | (with_reducible exact Kept.refl _ _) | (with_reducible apply Kept.drew) | (with_reducible apply Kept.alloc) | (with_reducible refine Kept.setCell ?_ (.inl (by simp)) _)))) | go_keep)
      (first
        | (go_at_call 89; refine (HAb _).out.mono ?_; rintro e w10 ⟨rfl, hb10⟩
           have hK10 : Kept W7 w10 (ob (.slice ao1 p1.length cp1)) := Kept.trans (by (repeat (first | (with_reducible exact hK9) | (with_reducible apply Kept.drew) | (with_reducible apply Kept.alloc)))) (Kept.of_below hb10 []) (by simp)
           have ho10 := ownsRow_below ho9 hb10
           have hz10 : Z6 w10 (w.heap.size + 1) := (hK10.block _ (z_lt HZ7.out) (fun c => by have := HN1.out _ c; omega)).trans HZ7.out
           have hZc : Six _ _ _ _ _ _ _ _ := hz10
           obtain ⟨y0, y1, y2, y3, y4, y5⟩ := hZc.cells
           have yf : ∀ o, w10.frozen? ⟨w.heap.size + 1, o, none⟩ = false := (fun o => by simp [World.frozen?, hZc.eq])
           clear hb10 hZc ho9 HAb)
        | (refine step_append_grew _ rfl _ _ 39 rfl w.heap.size 107 i0 (.agg #[.string ⟨#[]⟩, .string ⟨#[]⟩]) 2 32 Tryz.underlying39 hi hz0 hz1 hz2 rfl (by decide) v8 _ _ rfl (by first | exact ho8 | exact ho8.alloc _) _ 1 1 [.string ⟨P.toArray⟩, .string ⟨Q.toArray⟩] rfl rfl (by first | exact hP8.news | exact (PrAt.new w8 ⟨P.toArray⟩ ⟨Q.toArray⟩).news) (by simp [Value.oneCell']) (by unfold maxLen; omega) (by omega) (by (have := hK8.size); first | exact Nat.le_trans hw7 this | (simp; omega)) ?_
           rintro v9 w9 ho9 hg9 _
           have hK9 : Kept W7 w9 (ob (.slice ao1 p1.length cp1)) := Kept.trans (by (repeat (first | (with_reducible exact hK8) | (with_reducible apply Kept.drew) | (with_reducible apply Kept.alloc)))) (kept_grew hg9 (fun k hk => hk)) hOb8
           have hOb9 : ∀ k ∈ ob v9, k ∈ ob (.slice ao1 p1.length cp1) ∨ W7.heap.size ≤ k := (fun k hk => by
             rcases ob_grew hg9 k hk with h | h
             · exact hOb8 k h
             · (have := hK8.size); right; first | omega | (simp at h; omega))
           clear hg9 ho8)
        | (refine step_append_both _ rfl _ _ 39 rfl w.heap.size w.heap.size 107 i0 (.agg #[.string ⟨#[]⟩, .string ⟨#[]⟩]) 2 32 Tryz.underlying39 hi hz0 hz1 hz2 rfl (by decide) _ _ _ _ _ _ rfl rfl (HO1.out _ (HAG.out _ (by (repeat (first | (with_reducible exact Kept.refl _ _) | (with_reducible apply Kept.drew) | (with_reducible apply Kept.alloc)))))).1 (HO1.out _ (HAG.out _ (by (repeat (first | (with_reducible exact Kept.refl _ _) | (with_reducible apply Kept.drew) | (with_reducible apply Kept.alloc)))))).2 (prRow_one _) (by unfold maxLen; omega) (by omega) (by (first | exact hw7 | (simp; omega))) ?_
           rintro v8 w8 ho8 hg8
           have hK8 : Kept W7 w8 (ob (.slice ao1 p1.length cp1)) := Kept.trans (by (repeat (first | (with_reducible exact Kept.refl _ _) | (with_reducible apply Kept.drew) | (with_reducible apply Kept.alloc)))) (kept_grew hg8 (fun k hk => hk)) (fun k hk => .inl hk)
           have hOb8 : ∀ k ∈ ob v8, k ∈ ob (.slice ao1 p1.length cp1) ∨ W7.heap.size ≤ k := (fun k hk => (ob_grew hg8 k hk).imp id (fun h => Nat.le_trans (by first | exact Nat.le_refl _ | (simp; done) | simp) h))
           (first | (have hP8 := (PrAt.new W7 ⟨P.toArray⟩ ⟨Q.toArray⟩).grew hg8 (fun c => by have := HN1.out _ c; omega)) | (have hP8 := (PrAt.new W7.drew ⟨P.toArray⟩ ⟨Q.toArray⟩).grew hg8 (fun c => by have := HN1.out _ c; simp at this; omega)) | (have hP8 := (PrAt.new W7 ⟨P.toArray⟩ ⟨Q.toArray⟩).drew.grew hg8 (fun c => by have := HN1.out _ c; omega)) | skip)
           clear hg8 HO1))
    all_goals
      have HF : Hid (∃ q, (WkAt w10 G q bad ∧ NV w10 Bd G q ns2) ∧ Kept w w10 [G]) := hid (by
        obtain ⟨q, h1, h2⟩ := HIN.out.wk
        have kk : Kept W6 w10 (ob (.slice ao1 p1.length cp1)) := (Kept.of_below H7.out.2.1 _).trans hK10 (fun k hk => .inl hk)
        have hG : G ∉ ob (.slice ao1 p1.length cp1) := fun c => by have := HN1.out _ c; omega
        refine ⟨q, ⟨(kk.block G h1.lt hG).trans h1, h2.move fun k hk1 hk2 => kk.block k (by have := HIN.out.k.size; omega) (fun c => by have := HN1.out _ c; omega)⟩, HIN.out.k.trans kk (fun k hk => .inr (by have := HN1.out k hk; omega))⟩)
      have HOw := hid ho10
      have HZ := hid hz10
      have HOb := hid hOb9
      have hG1 : G ≠ w.heap.size + 1 := hGn
      clear ho10 hz10 hOb9 hOb8 hK8 hK9 hK10 hcs HC7 HAG HIN H7 HZ7 hi hz0 hz1 hz2
      go_wp2
      obtain ⟨q, ⟨hw1, hv1⟩, hk1⟩ := HF.out
      refine ret_pn Tryz.results84 (Six.set HZ.out _ _ _ _ _ _) rfl rfl ⟨v9, rfl, ?_, ⟨q, ?_, ?_⟩, ?_⟩
      · iterate 6 (refine Kept.setCell ?_ (.inr (by simp)) _)
        exact hk1
      · unfold WkAt
        iterate 6 (refine (Below.heap_setCell _ _ _ _ hG1).trans ?_)
        exact hw1
      · refine hv1.move fun k h1 h2 => ?_
        iterate 6 (refine (Below.heap_setCell _ _ _ _ (show k ≠ w.heap.size + 1 by omega)).trans ?_)
        rfl
      · have ho := own_cast HOw.out (n' := (p1 ++ p2 ++ [(P, Q)]).length) (xs' := prRow (p1 ++ p2 ++ [(P, Q)])) (by simp; omega) (by rw [prRow_append, prRow_append]; rfl)
        refine own_keep ho fun k hk => ?_
        have hne : k ≠ w.heap.size + 1 := by
          rcases HOb.out k hk with h | h
          · have := HN1.out k h; omega
          · omega
        iterate 6 (refine (Below.heap_setCell _ _ _ _ hne).trans ?_)
        rfl
end Go.Proofs.YtogmdaopfnmobaaGreat

/- What the document's own answer does (notaryref): the pairs of texts of the parts above a cover's, all parts. -/
namespace Go.Proofs.YtogmdaopfnmobaaGreat
open Go.RowKit
def prC (U : Nat → Nat → Nd) (a b f t : Nat) (ns : List Nd) : List (List UInt8 × List UInt8) :=
  if isOut a b f t = true ∨ isIn a b f t = true ∨ b < a + 2 then []
  else prC U a (a + hf (b - a)) f t ns ++ prC U (a + hf (b - a)) b f t (ns.drop (cov a (a + hf (b - a)) f t).length) ++ [(abText (cm a (a + hf (b - a)) f t ns) (cm (a + hf (b - a)) b f t (ns.drop (cov a (a + hf (b - a)) f t).length)), abText (U a (a + hf (b - a))) (U (a + hf (b - a)) b))]
termination_by b - a
decreasing_by
  · have := hf_lt (b - a) (by omega); omega
  · have := hf_pos (b - a); omega
section
variable {U : Nat → Nat → Nd} {a b f t : Nat}
theorem prC_one (ns : List Nd) (h : isOut a b f t = true ∨ isIn a b f t = true ∨ b < a + 2) : prC U a b f t ns = [] := by rw [prC, if_pos h]
theorem prC_two (ns : List Nd) (h : ¬ (isOut a b f t = true ∨ isIn a b f t = true ∨ b < a + 2)) : prC U a b f t ns = prC U a (a + hf (b - a)) f t ns ++ prC U (a + hf (b - a)) b f t (ns.drop (cov a (a + hf (b - a)) f t).length) ++ [(abText (cm a (a + hf (b - a)) f t ns) (cm (a + hf (b - a)) b f t (ns.drop (cov a (a + hf (b - a)) f t).length)), abText (U a (a + hf (b - a))) (U (a + hf (b - a)) b))] := by rw [prC, if_neg h]
end
theorem prC_len {U : Nat → Nat → Nd} {f t : Nat} : ∀ (n a b : Nat) (ns : List Nd), b - a ≤ n → (prC U a b f t ns).length ≤ b - a - 1 := by
  intro n
  induction n with
  | zero => intro a b ns h; rw [prC_one ns (.inr (.inr (by omega)))]; simp
  | succ n ih =>
    intro a b ns h
    by_cases hs : isOut a b f t = true ∨ isIn a b f t = true ∨ b < a + 2
    · rw [prC_one ns hs]; simp
    · have p := hf_pos (b - a)
      have q := hf_lt (b - a) (by omega)
      have h1 := ih a (a + hf (b - a)) ns (by omega)
      have h2 := ih (a + hf (b - a)) b (ns.drop (cov a (a + hf (b - a)) f t).length) (by omega)
      rw [prC_two ns hs]
      simp only [List.length_append, List.length_singleton]
      omega
theorem cm_nn (f t : Nat) (n a b : Nat) (ns : List Nd) (h : b - a ≤ n) (hok : ∀ d ∈ ns, d.ok = true) : nn (cm a b f t ns) := nn_nb (cm_nb f t n a b ns h hok)
theorem refAbv_any (tb : Bool) (vv hv : Value) (f t Bd G : Nat) (U : Nat → Nat → Nd) (N : Nat) (hU : TrU U N) (hN : N ≤ 64) (hf64 : f ≤ 64) (ht64 : t ≤ 64) (w0 : World)
    (HP : ∀ a b w', a ≤ b → b ≤ N → Kept w0 w' [G] → Calls Tryz.prog 46 #[.agg #[.bool tb, vv, hv], .int .i64 a, .int .i64 b] w' fun e w2 => e = .returned (ndV (U a b)) ∧ Below w'.heap.size w' w2) :
    ∀ (n a b : Nat) (v : Value) (ns : List Nd) (bad : Bool) (w : World), b - a ≤ n → a ≤ b → b ≤ N → (a < b ∨ t ≤ a) → Kept w0 w [G] → WkAt w G v bad → NV w Bd G v ns → Bd ≤ w.heap.size → (cov a b f t).length ≤ ns.length → (∀ d ∈ ns, d.ok = true) → (cm a b f t ns).ok = true →
    Calls Tryz.prog 84 #[.pointer (some ⟨G, 0, none⟩), .agg #[.bool tb, vv, hv], .int .i64 a, .int .i64 b, .int .i64 f, .int .i64 t] w (abPost Bd G (prC U a b f t ns) (cm a b f t ns) (ns.drop (cov a b f t).length) bad w) := by
  intro n
  induction n with
  | zero =>
    intro a b v ns bad w hn hab hb hs hk0 hA hV hBd hl hok hc
    have ho : isOut a b f t = true := by simp [isOut]; omega
    rw [cm_one ns (.inl ho), prC_one ns (.inl ho)]
    rw [cov_one a b f t (.inl ho)] at hl ⊢
    have := refAbv_leaf tb vv hv a b f t Bd G v ns bad w hA hV hBd (by simpa using hl) hf64 ht64 hab (by omega) hs (.inl ho)
    simpa using this
  | succ n ih =>
    intro a b v ns bad w hn hab hb hs hk0 hA hV hBd hl hok hc
    by_cases ho : isOut a b f t = true ∨ isIn a b f t = true
    · have ho' : isOut a b f t = true ∨ isIn a b f t = true ∨ b < a + 2 := ho.elim .inl fun h => .inr (.inl h)
      rw [cm_one ns ho', prC_one ns ho']
      rw [cov_one a b f t ho] at hl ⊢
      have := refAbv_leaf tb vv hv a b f t Bd G v ns bad w hA hV hBd (by simpa using hl) hf64 ht64 hab (by omega) hs ho
      simpa using this
    have ho1 : ¬ (t ≤ f ∨ t ≤ a ∨ b ≤ f) := fun h => ho (.inl (by simpa [isOut] using h))
    have ho2 : ¬ (f ≤ a ∧ b ≤ t ∧ f < t ∧ a < b) := fun h => ho (.inr (by simpa [isIn] using h))
    have hb2 : a + 2 ≤ b := by omega
    have hsx : ¬ (isOut a b f t = true ∨ isIn a b f t = true ∨ b < a + 2) := fun h => by
      rcases h with h | h | h
      · exact ho (.inl h)
      · exact ho (.inr h)
      · omega
    have p := hf_pos (b - a)
    have q := hf_lt (b - a) (by omega)
    have hcov := cov_2 hsx
    have L1 := cov_len f t (b - a) a (a + hf (b - a)) (by omega)
    have L2 := cov_len f t (b - a) (a + hf (b - a)) b (by omega)
    have hl' : (cov a (a + hf (b - a)) f t).length + (cov (a + hf (b - a)) b f t).length ≤ ns.length := by rw [hcov, List.length_append] at hl; exact hl
    have hok1 : ∀ d ∈ ns.drop (cov a (a + hf (b - a)) f t).length, d.ok = true := fun d hd => hok d (List.mem_of_mem_drop hd)
    rw [cm_two ns hsx] at hc ⊢
    have hcc := ok_ab (cm_nn f t (b - a) _ _ _ (by omega) hok) (cm_nn f t (b - a) _ _ _ (by omega) hok1) hc
    rw [prC_two ns hsx, hcov, List.length_append, ← List.drop_drop]
    have hcast : ((a + hf (b - a) : Nat) : Int) = (a : Int) + hf (b - a) := by omega
    have pl1 := prC_len (U := U) (f := f) (t := t) (b - a) a (a + hf (b - a)) ns (by omega)
    have pl2 := prC_len (U := U) (f := f) (t := t) (b - a) (a + hf (b - a)) b (ns.drop (cov a (a + hf (b - a)) f t).length) (by omega)
    refine refAbv_node tb vv hv a b f t Bd G (hf (b - a)) v ns (ns.drop (cov a (a + hf (b - a)) f t).length) _ bad _ _ _ _ _ _ (cov a b f t) w hA hV hBd (by omega) hb2 q (by rw [hcov, List.length_append]; omega)
      (fun w' => hid (refCover_any f t hf64 ht64 b a b w' (by omega) hab (by omega) hs))
      (fun w' => hid (refHalf_any (b - a) w' (by omega) (by omega))) ?_ ?_ ?_ ?_ hcc.1 hcc.2 (hU.ok _ _ (by omega)) (hU.ok _ _ hb) (by omega)
    · intro w'
      refine hid fun hk hA' hV' hBd' => ?_
      rw [← hcast]
      exact ih a (a + hf (b - a)) v ns bad w' (by omega) (by omega) (by omega) (by omega) (hk0.trans hk (fun x hx => .inl hx)) hA' hV' hBd' (by omega) hok hcc.1
    · intro w' v'
      refine hid fun hk hA' hV' hBd' => ?_
      rw [← hcast]
      exact ih (a + hf (b - a)) b v' _ bad w' (by omega) (by omega) (by omega) (by omega) (hk0.trans hk (fun x hx => .inl hx)) hA' hV' hBd' (by rw [List.length_drop]; omega) hok1 hcc.2
    · intro w'
      refine hid fun hk => ?_
      rw [← hcast]
      exact HP a (a + hf (b - a)) w' (by omega) (by omega) (hk0.trans hk (fun x hx => .inl hx))
    · intro w'
      refine hid fun hk => ?_
      rw [← hcast]
      exact HP (a + hf (b - a)) b w' (by omega) hb (hk0.trans hk (fun x hx => .inl hx))
end Go.Proofs.YtogmdaopfnmobaaGreat

/- What the document's own answer does (notaryref): Pairs. -/
namespace Go.Proofs.YtogmdaopfnmobaaGreat
open Go.RowKit
set_option maxHeartbeats 8000000 in
set_option maxRecDepth 100000 in
theorem refPairs_any (tb : Bool) (a1 : Option Addr) (c1 : Nat) (hv : Value) (vs : List Int) (hs : List Bool) (f t : Nat) (ao : Option Addr) (cp : Nat) (ns : List Nd) (w : World) (hN : Nodes w w.heap.size (.slice ao ns.length cp) ns) (hcp : ns.length ≤ cp) (hcp2 : cp ≤ 9223372036854775807) (hok : ∀ d ∈ ns, d.ok = true)
    (hT : TreeIn w w.heap.size (.slice a1 vs.length c1) hv vs hs) (ht : t ≤ vs.length) (hf : f ≤ t) (hl : (cov 0 vs.length f t).length ≤ ns.length) (hc : (cm 0 vs.length f t ns).ok = true) :
    Calls Tryz.prog 43 #[.slice ao ns.length cp, .agg #[.bool tb, .slice a1 vs.length c1, hv], .int .i64 f, .int .i64 t] w fun e w' => ∃ pv, e = .returned pv ∧ w'.ownsRow w.heap.size 107 2 pv (prC (tr (lf tb vs hs)) 0 vs.length f t ns ++ [(hdText vs.length (cm 0 vs.length f t ns), hdText vs.length (tr (lf tb vs hs) 0 vs.length))]).length (prRow (prC (tr (lf tb vs hs)) 0 vs.length f t ns ++ [(hdText vs.length (cm 0 vs.length f t ns), hdText vs.length (tr (lf tb vs hs) 0 vs.length))])) ∧ Below w.heap.size w w' := by
  have hsm := hT.small
  have hU := tr_U (lf_bd (tb := tb) (hs := hs) hT.val)
  have HTb : Hid (∀ w', Kept w w' [w.heap.size + 1] → TreeIn w' w'.heap.size (.slice a1 vs.length c1) hv vs hs) := hid fun w' hk => by
    have hb : Below w.heap.size w w' := hk.below (Nat.le_refl _) (by simp)
    exact (hT.below hb).mono hb.size
  have HNV : Hid (NV w w.heap.size (w.heap.size + 1) (.slice ao ns.length cp) ns) := hid ⟨ao, cp, rfl, hcp, hcp2, fun b off e => by
    obtain ⟨ao', cap', hv, _, hc⟩ := hN.ex
    simp only [Value.slice.injEq] at hv
    obtain ⟨rfl, _, rfl⟩ := hv
    by_cases h0 : 0 < ns.length
    · obtain ⟨b', off', ha, hB, _⟩ := hc 0 h0
      rw [e] at ha; simp at ha; omega
    · have := (cov_len f t vs.length 0 vs.length (by omega)).1; omega, hN⟩
  have HAv : ∀ w', Hid (Kept w w' [w.heap.size + 1] → WkAt w' (w.heap.size + 1) (.slice ao ns.length cp) false → NV w' w.heap.size (w.heap.size + 1) (.slice ao ns.length cp) ns → w.heap.size ≤ w'.heap.size → Calls Tryz.prog 84 #[.pointer (some ⟨w.heap.size + 1, 0, none⟩), .agg #[.bool tb, .slice a1 vs.length c1, hv], .int .i64 0, .int .i64 vs.length, .int .i64 f, .int .i64 t] w' (abPost w.heap.size (w.heap.size + 1) (prC (tr (lf tb vs hs)) 0 vs.length f t ns) (cm 0 vs.length f t ns) (ns.drop (cov 0 vs.length f t).length) false w')) := fun w' => hid fun hk h1 h2 h3 =>
    refAbv_any tb _ hv f t w.heap.size (w.heap.size + 1) (tr (lf tb vs hs)) vs.length ⟨hU.two, fun a b hb => hU.ok a b (by omega)⟩ hsm (by omega) (by omega) w (fun a b w'' _ hb hk' => refPart_any tb _ hv vs hs (b - a) a b w'' (Nat.le_refl _) hb (HTb.out w'' hk')) vs.length 0 vs.length _ ns false w' (by omega) (by omega) (Nat.le_refl _) (by omega) hk h1 h2 h3 hl hok hc
  have HWh : ∀ w', Hid (Kept w w' [w.heap.size + 1] → Calls Tryz.prog 15 #[.agg #[.bool tb, .slice a1 vs.length c1, hv]] w' fun e w2 => e = .returned (ndV (tr (lf tb vs hs) 0 vs.length)) ∧ Below w'.heap.size w' w2) := fun w' => hid fun hk => refWhole_any tb _ hv vs hs w' (HTb.out w' hk)
  have HT1 : ∀ w', Hid (Calls Tryz.prog 85 #[.int .i64 vs.length, ndV (cm 0 vs.length f t ns)] w' _) := fun w' => hid (refHeadText_any vs.length _ w' (by omega) hc)
  have HT2 : ∀ w', Hid (Calls Tryz.prog 85 #[.int .i64 vs.length, ndV (tr (lf tb vs hs) 0 vs.length)] w' _) := fun w' => hid (refHeadText_any vs.length _ w' (by omega) (hU.ok 0 _ (by omega)))
  have hpl := prC_len (U := tr (lf tb vs hs)) (f := f) (t := t) vs.length 0 vs.length ns (by omega)
  generalize prC (tr (lf tb vs hs)) 0 vs.length f t ns = p1 at HAv hpl ⊢
  clear hN hok hT hU hl hc hcp hcp2
  generalize hdText vs.length (cm 0 vs.length f t ns) = P at HT1 ⊢
  generalize hdText vs.length (tr (lf tb vs hs) 0 vs.length) = Q at HT2 ⊢
  generalize cm 0 vs.length f t ns = d at HAv HT1
  generalize tr (lf tb vs hs) 0 vs.length = u at HWh HT2
  generalize ns.drop (cov 0 vs.length f t).length = rs at HAv
  generalize vs.length = n at *
  simp only [ndV] at HT1 HT2 HWh
  go_enter Tryz.func43, Tryz.ntmps43
  go_wp2_with fail
  refine ((HAv _).out ?_ ?_ ?_ ?_).mono ?_
  · exact ((Kept.refl _ _).alloc _).alloc _
  · exact heap_one _ _ _ (by simp)
  · refine HNV.out.move fun k h1 h2 => ?_
    rw [Below.heap_alloc _ _ _ (by simp; omega), Below.heap_alloc _ _ _ h1]
  · simp; omega
  rintro e w1 ⟨r1, rfl, hk1, _, ho1⟩
  simp only [ndV]
  have T1 : Hid (TrAt w1 w.heap.size tb (.slice a1 n c1) hv) := hid (TrAt.kept (show TrAt _ _ _ _ _ from heap_two w _ _ _ rfl) hk1 (by omega))
  have K1 : Hid (Kept w w1 [w.heap.size + 1]) := hid ((((Kept.refl _ _).alloc _).alloc _).trans hk1 (fun x hx => .inl hx))
  have O1 := hid ho1
  have s1 : w.heap.size + 2 ≤ w1.heap.size := by have := hk1.size; simp at this; omega
  obtain ⟨ao1, cp1, rfl⟩ := own_shape ho1
  obtain ⟨t0, t1, t2⟩ := T1.out.cells
  have l1 := T1.out.lt
  clear hk1 ho1 HAv HNV HTb
  go_wp2_with fail
  obtain ⟨W1, hW1⟩ : ∃ W, W = w1.alloc (.cells #[.int .i64 d.c, .int .i64 d.s, .int .i64 d.m, .int .i64 d.x, .int .u8 (d.h.toNat : Int), .int .u8 (d.g.toNat : Int)] 51) := ⟨_, rfl⟩
  have hB : Below w1.heap.size w1 W1 := hW1 ▸ (Below.refl _ _).alloc (Nat.le_refl _) _
  have s1' : W1.heap.size = w1.heap.size + 1 := by rw [hW1]; simp
  have X1 : Hid (NdAt W1 w1.heap.size d) := hid (hW1 ▸ nd_new w1 d _ rfl)
  have B1 := hid hB
  rw [← hW1]
  clear hW1 hB t0 t1 t2
  refine ((HWh _).out (K1.out.trans (Kept.of_below B1.out _) (fun x hx => .inl hx))).mono ?_
  rintro e w2 ⟨rfl, hb2⟩
  have B2 : Hid (Below w1.heap.size w1 w2) := hid (B1.out.trans (hb2.mono (by omega)))
  have X2 : Hid (NdAt w2 w1.heap.size d) := hid (nd_below X1.out hb2 (by omega))
  have s2 : W1.heap.size ≤ w2.heap.size := hb2.size
  have T2 : Hid (TrAt w2 w.heap.size tb (.slice a1 n c1) hv) := hid (T1.out.below B2.out l1)
  obtain ⟨t0, t1, t2⟩ := T2.out.cells
  have l2 := T2.out.lt
  clear hb2 HWh X1 B1 T1
  go_wp2_with fail
  obtain ⟨W6, hW6⟩ : ∃ W, W = w2.alloc (.cells #[.int .i64 u.c, .int .i64 u.s, .int .i64 u.m, .int .i64 u.x, .int .u8 (u.h.toNat : Int), .int .u8 (u.g.toNat : Int)] 51) := ⟨_, rfl⟩
  have hB : Below w2.heap.size w2 W6 := hW6 ▸ (Below.refl _ _).alloc (Nat.le_refl _) _
  have hB6 : Below w1.heap.size w1 W6 := B2.out.trans (hB.mono (by omega))
  have s6' : W6.heap.size = w2.heap.size + 1 := by rw [hW6]; simp
  have HIN : Hid ((NdAt W6 w1.heap.size d ∧ NdAt W6 w2.heap.size u) ∧ Below w.heap.size w W6 ∧ W6.ownsRow w.heap.size 107 2 (.slice ao1 p1.length cp1) p1.length (prRow p1) ∧ ∀ k ∈ ob (.slice ao1 p1.length cp1), k < w1.heap.size) := hid
    ⟨⟨nd_below X2.out hB (by omega), hW6 ▸ nd_new w2 u _ rfl⟩, (K1.out.below (Nat.le_refl _) (by simp)).trans (hB6.mono (by omega)), own_mono' (ownsRow_below O1.out hB6) (by simp; omega), fun k hk => (own_in O1.out k hk).2⟩
  have hx6 : w1.heap.size < w2.heap.size ∧ w2.heap.size < W6.heap.size ∧ w.heap.size ≤ W6.heap.size := by omega
  rw [← hW6]
  clear hW6 hB hB6 X2 K1 O1 B2 T2 l2 l1 s1 s1' s2 s6' t0 t1 t2
  generalize w1.heap.size = gx at HIN hx6 ⊢
  generalize w2.heap.size = gy at HIN hx6 ⊢
  have HCS : Hid (∀ w', Below W6.heap.size W6 w' → (w'.cell? ⟨gx, 0, none⟩ = some (.int .i64 d.c) ∧ w'.cell? ⟨gx, 1, none⟩ = some (.int .i64 d.s) ∧ w'.cell? ⟨gx, 2, none⟩ = some (.int .i64 d.m) ∧ w'.cell? ⟨gx, 3, none⟩ = some (.int .i64 d.x) ∧ w'.cell? ⟨gx, 4, none⟩ = some (.int .u8 (d.h.toNat : Int)) ∧ w'.cell? ⟨gx, 5, none⟩ = some (.int .u8 (d.g.toNat : Int))) ∧ (w'.cell? ⟨gy, 0, none⟩ = some (.int .i64 u.c) ∧ w'.cell? ⟨gy, 1, none⟩ = some (.int .i64 u.s) ∧ w'.cell? ⟨gy, 2, none⟩ = some (.int .i64 u.m) ∧ w'.cell? ⟨gy, 3, none⟩ = some (.int .i64 u.x) ∧ w'.cell? ⟨gy, 4, none⟩ = some (.int .u8 (u.h.toNat : Int)) ∧ w'.cell? ⟨gy, 5, none⟩ = some (.int .u8 (u.g.toNat : Int)))) := hid fun w' hb => ⟨(nd_below HIN.out.1.1 hb (by omega)).cells.1, (nd_below HIN.out.1.2 hb (by omega)).cells.1⟩
  have hcs := HCS.out W6 (Below.refl _ _)
  go_region_held3 (fun w' => (w'.cell? ⟨gx, 0, none⟩ = some (.int .i64 d.c) ∧ w'.cell? ⟨gx, 1, none⟩ = some (.int .i64 d.s) ∧ w'.cell? ⟨gx, 2, none⟩ = some (.int .i64 d.m) ∧ w'.cell? ⟨gx, 3, none⟩ = some (.int .i64 d.x) ∧ w'.cell? ⟨gx, 4, none⟩ = some (.int .u8 (d.h.toNat : Int)) ∧ w'.cell? ⟨gx, 5, none⟩ = some (.int .u8 (d.g.toNat : Int))) ∧ (w'.cell? ⟨gy, 0, none⟩ = some (.int .i64 u.c) ∧ w'.cell? ⟨gy, 1, none⟩ = some (.int .i64 u.s) ∧ w'.cell? ⟨gy, 2, none⟩ = some (.int .i64 u.m) ∧ w'.cell? ⟨gy, 3, none⟩ = some (.int .i64 u.x) ∧ w'.cell? ⟨gy, 4, none⟩ = some (.int .u8 (u.h.toNat : Int)) ∧ w'.cell? ⟨gy, 5, none⟩ = some (.int .u8 (u.g.toNat : Int))))
    (first | exact HCS.out _ (by (repeat (first | (with_reducible exact hBn) | (with_reducible exact hBa) | (with_reducible exact Below.refl _ _) | (with_reducible apply Below.drew) | (with_reducible refine Below.alloc ?_ (by first | exact Nat.le_refl _ | exact hBn.size | exact hBa.size) _) | (with_reducible refine Below.setCell ?_ (by first | exact Nat.le_refl _ | exact hBn.size | exact hBa.size) _)))) | go_keep)
    ((go_at_call 85; first
      | (refine (HT1 _).out.mono ?_; rintro e wn ⟨rfl, hbn⟩; have hBn : Below W6.heap.size W6 wn := Below.trans (by (repeat (first | (with_reducible exact Below.refl _ _) | (with_reducible apply Below.drew) | (with_reducible refine Below.alloc ?_ (Nat.le_refl _) _)))) (hbn.mono (by simp)); (first | (have hPn := PrAt.one hbn (by simp)) | (have hPn := PrAt.oneD hbn (by simp)) | (have hPn := PrAt.oneE hbn (by simp)) | skip); clear hbn HT1)
      | (refine (HT2 _).out.mono ?_; rintro e wa ⟨rfl, hba⟩; have hBa : Below W6.heap.size W6 wa := Below.trans (by (repeat (first | (with_reducible exact hBn) | (with_reducible apply Below.drew) | (with_reducible refine Below.alloc ?_ hBn.size _) | exact hBn.size | (with_reducible refine Below.alloc ?_ ?_ _)))) (hba.mono (by have := hBn.size; simp; omega)); (first | (have hPa := hPn.below hba hPn.lt) | (have hPa := hPn.belowD hba hPn.lt) | (have hPa := PrAt.one hba (by simp)) | (have hPa := PrAt.oneD hba (by simp)) | (have hPa := PrAt.oneE hba (by simp)) | skip); (first | (have hPc := hPa.cells) | skip); clear hba)))
  all_goals first
    | (obtain ⟨W7, hW7⟩ : ∃ W, W = wa.alloc (.cells #[.string ⟨P.toArray⟩, .string ⟨Q.toArray⟩] 107) := ⟨_, rfl⟩
       rw [← hW7]
       have H7 : Hid (PrAt W7 wa.heap.size ⟨P.toArray⟩ ⟨Q.toArray⟩ ∧ Below W6.heap.size W6 W7 ∧ W6.heap.size ≤ wa.heap.size) := hid (hW7 ▸ ⟨heap_one wa _ _ rfl, hBa.alloc hBa.size _, hBa.size⟩)
       clear hW7
       generalize wa.heap.size = gp at H7 ⊢)
    | (obtain ⟨W7, hW7⟩ : ∃ W, W = (wa.setCell ⟨wn.heap.size, 0, none⟩ (.string ⟨P.toArray⟩)).setCell ⟨wn.heap.size, 1, none⟩ (.string ⟨Q.toArray⟩) := ⟨_, rfl⟩
       rw [← hW7]
       have H7 : Hid (PrAt W7 wn.heap.size ⟨P.toArray⟩ ⟨Q.toArray⟩ ∧ Below W6.heap.size W6 W7 ∧ W6.heap.size ≤ wn.heap.size) := hid (hW7 ▸ ⟨hPa.set _ _, (hBa.setCell hBn.size _).setCell hBn.size _, hBn.size⟩)
       clear hW7 hPa hPc
       generalize wn.heap.size = gp at H7 ⊢)
    | (obtain ⟨W7, hW7⟩ : ∃ W, W = (wa.setCell ⟨W6.heap.size, 0, none⟩ (.string ⟨P.toArray⟩)).setCell ⟨W6.heap.size, 1, none⟩ (.string ⟨Q.toArray⟩) := ⟨_, rfl⟩
       rw [← hW7]
       have H7 : Hid (PrAt W7 W6.heap.size ⟨P.toArray⟩ ⟨Q.toArray⟩ ∧ Below W6.heap.size W6 W7 ∧ W6.heap.size ≤ W6.heap.size) := hid (hW7 ▸ ⟨hPa.set _ _, (hBa.setCell (Nat.le_refl _) _).setCell (Nat.le_refl _) _, Nat.le_refl _⟩)
       clear hW7 hPa hPc hPn
       obtain ⟨gp, hgp⟩ : ∃ gp, gp = W6.heap.size := ⟨_, rfl⟩
       rw [← hgp]
       have H7 : Hid (PrAt W7 gp ⟨P.toArray⟩ ⟨Q.toArray⟩ ∧ Below W6.heap.size W6 W7 ∧ W6.heap.size ≤ gp) := hid ⟨hgp ▸ H7.out.1, H7.out.2.1, by omega⟩
       clear hgp)
  all_goals
    clear hBn hBa hcs HT2 HCS
    obtain ⟨i0, hi, hz0, hz1, hz2⟩ := info_parts info_pair
    have hs7 : W6.heap.size ≤ W7.heap.size := H7.out.2.1.size
    have hown : W7.ownsRow w.heap.size 107 2 (.slice ao1 p1.length cp1) p1.length (prRow p1) := ownsRow_below HIN.out.2.2.1 H7.out.2.1
    obtain ⟨hpc, hpz⟩ := H7.out.1.cells
    have HB7 : Hid (Below w.heap.size w W7) := hid (HIN.out.2.1.trans (H7.out.2.1.mono (by omega)))
    have HIO : Hid (∀ k ∈ ob (.slice ao1 p1.length cp1), w.heap.size ≤ k) := hid fun k hk => (own_in hown k hk).1
    go_wp2_with (at_builtin; refine wpList_append_grew _ rfl _ _ 39 rfl w.heap.size 107 i0 (.agg #[.string ⟨#[]⟩, .string ⟨#[]⟩]) 2 32 Tryz.underlying39 hi hz0 hz1 hz2 rfl (by decide) _ _ _ rfl (hown.alloc _) ⟨W7.heap.size, 0, none⟩ 1 1 [.string ⟨P.toArray⟩, .string ⟨Q.toArray⟩] rfl rfl (PrAt.new W7 ⟨P.toArray⟩ ⟨Q.toArray⟩).news (by simp [Value.oneCell']) (by unfold maxLen; omega) (by omega) (by simp; omega) ?_)
    rintro v9 w9 ho9 hg9 _
    have HO9 := hid ho9
    have HB9 : Hid (Below w.heap.size w w9) := hid (HB7.out.trans (((Below.refl _ W7).alloc (by omega) _).trans (hg9.toBelow w.heap.size (by simp; omega) (fun k hk => HIO.out k (mem_ob.2 hk)))))
    clear ho9 hg9 hown
    go_wp2
    go_ret
    exact ⟨v9, rfl, own_cast HO9.out (by simp) (by rw [prRow_append]; rfl), HB9.out⟩
end Go.Proofs.YtogmdaopfnmobaaGreat

/- What the document's own answer does (notaryref): the pairs of all parts of two trees. -/
namespace Go.Proofs.YtogmdaopfnmobaaGreat
open Go.RowKit
def ptPost (l : List (List UInt8 × List UInt8)) (w : World) (e : Ending) (w' : World) : Prop :=
  ∃ pv, e = .returned pv ∧ w'.ownsRow w.heap.size 107 2 pv l.length (prRow l) ∧ Below w.heap.size w w'
set_option maxHeartbeats 4000000 in
set_option maxRecDepth 100000 in
theorem refParts_leaf (v1 h1 v2 h2 : Value) (a b : Nat) (w : World) (ha : a ≤ 64) (hb : b ≤ 64) (h : b < a + 2) :
    Calls Tryz.prog 86 #[.agg #[.bool false, v1, h1], .agg #[.bool false, v2, h2], .int .i64 a, .int .i64 b] w (ptPost [] w) := by
  go_enter Tryz.func86, Tryz.ntmps86
  go_wp2
  go_ret
  exact ⟨_, rfl, World.ownsRow_nil _ _ _ _, ((Below.refl _ _).alloc (Nat.le_refl _) _).alloc (by simp) _⟩
set_option maxHeartbeats 8000000 in
set_option maxRecDepth 100000 in
theorem refParts_node (v1 h1 v2 h2 : Value) (a b k : Nat) (x y u v : Nd) (p1 p2 : List (List UInt8 × List UInt8)) (w : World) (hb64 : b ≤ 64) (hab : a + 2 ≤ b) (hk : k < b - a)
    (HH : ∀ w', Hid (Calls Tryz.prog 88 #[.int .i64 ((b - a : Nat) : Int)] w' fun e w2 => e = .returned (.int .i64 k) ∧ Below w'.heap.size w' w2))
    (I1 : ∀ w', Hid (Below w.heap.size w w' → Calls Tryz.prog 86 #[.agg #[.bool false, v1, h1], .agg #[.bool false, v2, h2], .int .i64 a, .int .i64 ((a : Int) + k)] w' (ptPost p1 w')))
    (I2 : ∀ w', Hid (Below w.heap.size w w' → Calls Tryz.prog 86 #[.agg #[.bool false, v1, h1], .agg #[.bool false, v2, h2], .int .i64 ((a : Int) + k), .int .i64 b] w' (ptPost p2 w')))
    (A1 : ∀ w', Hid (Below w.heap.size w w' → Calls Tryz.prog 46 #[.agg #[.bool false, v1, h1], .int .i64 a, .int .i64 ((a : Int) + k)] w' fun e w2 => e = .returned (ndV x) ∧ Below w'.heap.size w' w2))
    (A2 : ∀ w', Hid (Below w.heap.size w w' → Calls Tryz.prog 46 #[.agg #[.bool false, v1, h1], .int .i64 ((a : Int) + k), .int .i64 b] w' fun e w2 => e = .returned (ndV y) ∧ Below w'.heap.size w' w2))
    (A4 : ∀ w', Hid (Below w.heap.size w w' → Calls Tryz.prog 46 #[.agg #[.bool false, v2, h2], .int .i64 a, .int .i64 ((a : Int) + k)] w' fun e w2 => e = .returned (ndV u) ∧ Below w'.heap.size w' w2))
    (A5 : ∀ w', Hid (Below w.heap.size w w' → Calls Tryz.prog 46 #[.agg #[.bool false, v2, h2], .int .i64 ((a : Int) + k), .int .i64 b] w' fun e w2 => e = .returned (ndV v) ∧ Below w'.heap.size w' w2))
    (hx : x.ok = true) (hy : y.ok = true) (hu : u.ok = true) (hvk : v.ok = true) (hpl : p1.length + p2.length ≤ 1000) :
    Calls Tryz.prog 86 #[.agg #[.bool false, v1, h1], .agg #[.bool false, v2, h2], .int .i64 a, .int .i64 b] w (ptPost (p1 ++ p2 ++ [(abText x y, abText u v)]) w) := by
  have hsub : (b : Int) - a = ((b - a : Nat) : Int) := by omega
  obtain ⟨m, hm⟩ : ∃ m, m = b - a := ⟨_, rfl⟩
  rw [← hm] at HH hsub
  have hm64 : m ≤ 64 := by omega
  have hm2 : ¬ (m : Int) < 2 := by omega
  have hk64 : k < 64 := by omega
  have hak : a + k < 64 := by omega
  have hwr : IntKind.i64.wrap ((a : Int) + k) = (a : Int) + k := by simp [IntKind.wrap, IntKind.signed, IntKind.bits]; omega
  clear hm
  have A3 : ∀ w', Hid (Calls Tryz.prog 125 #[ndV x, ndV y] w' _) := fun w' => hid (refText_any x y w' hx hy)
  have A6 : ∀ w', Hid (Calls Tryz.prog 125 #[ndV u, ndV v] w' _) := fun w' => hid (refText_any u v w' hu hvk)
  clear hx hy hu hvk
  generalize abText x y = P at A3 ⊢
  generalize abText u v = Q at A6 ⊢
  simp only [ndV] at A1 A2 A3 A4 A5 A6
  go_enter Tryz.func86, Tryz.ntmps86
  go_wp2_with fail
  refine (HH _).out.mono ?_
  rintro e w2 ⟨rfl, hb2⟩
  have B2 : Hid (Below w.heap.size w w2) := hid ((((Below.refl _ _).alloc (Nat.le_refl _) _).alloc (by simp) _).trans (hb2.mono (by simp; omega)))
  have T2 : Hid (TrAt w2 w.heap.size false v1 h1 ∧ TrAt w2 (w.heap.size + 1) false v2 h2) := hid ⟨TrAt.below (show TrAt _ _ _ _ _ from heap_two w _ _ _ rfl) hb2 (by simp; omega), TrAt.below (show TrAt _ _ _ _ _ from heap_one _ _ _ (by simp)) hb2 (by simp)⟩
  obtain ⟨t0, t1, t2⟩ := T2.out.1.cells
  obtain ⟨q0, q1, q2⟩ := T2.out.2.cells
  have l2 := T2.out.2.lt
  clear hb2 HH
  go_wp2_with fail
  refine ((I1 _).out B2.out).mono ?_
  rintro e w3 ⟨r1, rfl, ho3, hb3⟩
  have B3 : Hid (Below w.heap.size w w3) := hid (B2.out.trans (hb3.mono B2.out.size))
  have T3 : Hid (TrAt w3 w.heap.size false v1 h1 ∧ TrAt w3 (w.heap.size + 1) false v2 h2) := hid ⟨T2.out.1.below hb3 T2.out.1.lt, T2.out.2.below hb3 T2.out.2.lt⟩
  have O3 := hid ho3
  have s3 : w2.heap.size ≤ w3.heap.size := hb3.size
  obtain ⟨ao1, cp1, rfl⟩ := own_shape ho3
  clear hb3 ho3 B2 T2 I1 t0 t1 t2 q0 q1 q2
  obtain ⟨t0, t1, t2⟩ := T3.out.1.cells
  obtain ⟨q0, q1, q2⟩ := T3.out.2.cells
  have l3 := T3.out.2.lt
  go_wp2_with fail
  refine ((I2 _).out B3.out).mono ?_
  rintro e w4 ⟨r2, rfl, ho4, hb4⟩
  have HIN : Hid ((TrAt w4 w.heap.size false v1 h1 ∧ TrAt w4 (w.heap.size + 1) false v2 h2) ∧ Below w.heap.size w w4 ∧ w4.ownsRow w.heap.size 107 2 (.slice ao1 p1.length cp1) p1.length (prRow p1) ∧ w4.ownsRow w.heap.size 107 2 r2 p2.length (prRow p2) ∧ (∀ k ∈ ob (.slice ao1 p1.length cp1), w.heap.size ≤ k ∧ k < w4.heap.size)) := hid
    ⟨⟨T3.out.1.below hb4 T3.out.1.lt, T3.out.2.below hb4 T3.out.2.lt⟩, B3.out.trans (hb4.mono B3.out.size), own_mono' (ownsRow_below O3.out hb4) (by omega), own_mono' ho4 (by omega), fun k hk => by have := own_in O3.out k hk; have := hb4.size; omega⟩
  have s4 : w3.heap.size ≤ w4.heap.size := hb4.size
  obtain ⟨ao2, cp2, rfl⟩ := own_shape ho4
  clear hb4 ho4 B3 T3 O3 I2 t0 t1 t2 q0 q1 q2
  have l4 : w.heap.size + 1 < w4.heap.size := by omega
  clear s3 s4 l2 l3
  have HCS : Hid (∀ w', Below w4.heap.size w4 w' → (w'.cell? ⟨w.heap.size, 0, none⟩ = some (.bool false) ∧ w'.cell? ⟨w.heap.size, 1, none⟩ = some v1 ∧ w'.cell? ⟨w.heap.size, 2, none⟩ = some h1) ∧ (w'.cell? ⟨w.heap.size + 1, 0, none⟩ = some (.bool false) ∧ w'.cell? ⟨w.heap.size + 1, 1, none⟩ = some v2 ∧ w'.cell? ⟨w.heap.size + 1, 2, none⟩ = some h2)) := hid fun w' hb => ⟨(HIN.out.1.1.below hb (by omega)).cells, (HIN.out.1.2.below hb (by omega)).cells⟩
  have HBW : Hid (∀ w', Below w4.heap.size w4 w' → Below w.heap.size w w') := hid fun w' hb => HIN.out.2.1.trans (hb.mono (by omega))
  have hcs := HCS.out w4 (Below.refl _ _)
  go_wp2
  go_region_held3 (fun w' => (w'.cell? ⟨w.heap.size, 0, none⟩ = some (.bool false) ∧ w'.cell? ⟨w.heap.size, 1, none⟩ = some v1 ∧ w'.cell? ⟨w.heap.size, 2, none⟩ = some h1) ∧ (w'.cell? ⟨w.heap.size + 1, 0, none⟩ = some (.bool false) ∧ w'.cell? ⟨w.heap.size + 1, 1, none⟩ = some v2 ∧ w'.cell? ⟨w.heap.size + 1, 2, none⟩ = some h2))
    (first | exact HCS.out _ (by (repeat (first | (with_reducible exact HB6.out) | (with_reducible exact HB5.out) | (with_reducible exact HB4.out) | (with_reducible exact HB3.out) | (with_reducible exact HB2.out) | (with_reducible exact HB1.out) | (with_reducible exact Below.refl _ _) | (with_reducible apply Below.drew) | (with_reducible refine Below.alloc ?_ (by first | exact Nat.le_refl _ | exact z6 | exact z5 | exact z4 | exact z3 | exact z2 | exact z1) _) | (with_reducible refine Below.setCell ?_ (by first | exact Nat.le_refl _ | exact z6 | exact z5 | exact z4 | exact z3 | exact z2 | exact z1) _)))) | go_keep)
    (first
      | (go_at_call 46; first
        | (refine ((A1 _).out (HBW.out _ (by (repeat (first | (with_reducible exact Below.refl _ _) | (with_reducible apply Below.drew) | (with_reducible refine Below.alloc ?_ (Nat.le_refl _) _)))))).mono ?_; rintro e w5 ⟨rfl, hb⟩; have HB1 : Hid (Below w4.heap.size w4 w5) := hid (Below.trans (by (repeat (first | (with_reducible exact Below.refl _ _) | (with_reducible apply Below.drew) | (with_reducible refine Below.alloc ?_ (Nat.le_refl _) _)))) (hb.mono (by first | exact Nat.le_refl _ | simp))); have z1 : w4.heap.size ≤ w5.heap.size := HB1.out.size; (first | (replace hP := hP.below hb hP.lt) | (replace hP := hP.belowD hb hP.lt) | (have hP := PrAt.one hb (by simp)) | (have hP := PrAt.oneD hb (by simp)) | (have hP := PrAt.oneE hb (by simp)) | skip); clear hb A1)
        | (refine ((A2 _).out (HBW.out _ (by (repeat (first | (with_reducible exact HB1.out) | (with_reducible apply Below.drew) | (with_reducible refine Below.alloc ?_ (by exact z1) _)))))).mono ?_; rintro e w6 ⟨rfl, hb⟩; have HB2 : Hid (Below w4.heap.size w4 w6) := hid (Below.trans (by (repeat (first | (with_reducible exact HB1.out) | (with_reducible apply Below.drew) | (with_reducible refine Below.alloc ?_ (by exact z1) _)))) (hb.mono (by first | exact z1 | (simp; omega)))); have z2 : w4.heap.size ≤ w6.heap.size := HB2.out.size; (first | (replace hP := hP.below hb hP.lt) | (replace hP := hP.belowD hb hP.lt) | (have hP := PrAt.one hb (by simp)) | (have hP := PrAt.oneD hb (by simp)) | (have hP := PrAt.oneE hb (by simp)) | skip); clear hb A2)
        | (refine ((A4 _).out (HBW.out _ (by (repeat (first | (with_reducible exact HB3.out) | (with_reducible apply Below.drew) | (with_reducible refine Below.alloc ?_ (by exact z3) _)))))).mono ?_; rintro e w8 ⟨rfl, hb⟩; have HB4 : Hid (Below w4.heap.size w4 w8) := hid (Below.trans (by (repeat (first | (with_reducible exact HB3.out) | (with_reducible apply Below.drew) | (with_reducible refine Below.alloc ?_ (by exact z3) _)))) (hb.mono (by first | exact z3 | (simp; omega)))); have z4 : w4.heap.size ≤ w8.heap.size := HB4.out.size; (first | (replace hP := hP.below hb hP.lt) | (replace hP := hP.belowD hb hP.lt) | (have hP := PrAt.one hb (by simp)) | (have hP := PrAt.oneD hb (by simp)) | (have hP := PrAt.oneE hb (by simp)) | skip); clear hb A4)
        | (refine ((A5 _).out (HBW.out _ (by (repeat (first | (with_reducible exact HB4.out) | (with_reducible apply Below.drew) | (with_reducible refine Below.alloc ?_ (by exact z4) _)))))).mono ?_; rintro e w9 ⟨rfl, hb⟩; have HB5 : Hid (Below w4.heap.size w4 w9) := hid (Below.trans (by (repeat (first | (with_reducible exact HB4.out) | (with_reducible apply Below.drew) | (with_reducible refine Below.alloc ?_ (by exact z4) _)))) (hb.mono (by first | exact z4 | (simp; omega)))); have z5 : w4.heap.size ≤ w9.heap.size := HB5.out.size; (first | (replace hP := hP.below hb hP.lt) | (replace hP := hP.belowD hb hP.lt) | (have hP := PrAt.one hb (by simp)) | (have hP := PrAt.oneD hb (by simp)) | (have hP := PrAt.oneE hb (by simp)) | skip); clear hb A5))
      | (go_at_call 125; first
        | (refine (A3 _).out.mono ?_; rintro e w7 ⟨rfl, hb⟩; have HB3 : Hid (Below w4.heap.size w4 w7) := hid (Below.trans (by (repeat (first | (with_reducible exact HB2.out) | (with_reducible apply Below.drew) | (with_reducible refine Below.alloc ?_ (by exact z2) _)))) (hb.mono (by first | exact z2 | (simp; omega)))); have z3 : w4.heap.size ≤ w7.heap.size := HB3.out.size; (first | (replace hP := hP.below hb hP.lt) | (replace hP := hP.belowD hb hP.lt) | (have hP := PrAt.one hb (by simp)) | (have hP := PrAt.oneD hb (by simp)) | (have hP := PrAt.oneE hb (by simp)) | skip); clear hb A3)
        | (refine (A6 _).out.mono ?_; rintro e w10 ⟨rfl, hb⟩; have HB6 : Hid (Below w4.heap.size w4 w10) := hid (Below.trans (by (repeat (first | (with_reducible exact HB5.out) | (with_reducible apply Below.drew) | (with_reducible refine Below.alloc ?_ (by exact z5) _)))) (hb.mono (by first | exact z5 | (simp; omega)))); have z6 : w4.heap.size ≤ w10.heap.size := HB6.out.size; (first | (replace hP := hP.below hb hP.lt) | (replace hP := hP.belowD hb hP.lt) | (have hP := PrAt.one hb (by simp)) | (have hP := PrAt.oneD hb (by simp)) | (have hP := PrAt.oneE hb (by simp)) | skip); (first | (have hPc := hP.cells) | skip); clear hb A6)))
  all_goals first
    | (obtain ⟨W7, hW7⟩ : ∃ W, W = w10.alloc (.cells #[.string ⟨P.toArray⟩, .string ⟨Q.toArray⟩] 107) := ⟨_, rfl⟩
       rw [← hW7]
       have H7 : Hid (PrAt W7 w10.heap.size ⟨P.toArray⟩ ⟨Q.toArray⟩ ∧ Below w4.heap.size w4 W7 ∧ w4.heap.size ≤ w10.heap.size) := hid (hW7 ▸ ⟨heap_one w10 _ _ rfl, HB6.out.alloc z6 _, z6⟩)
       clear hW7
       generalize w10.heap.size = gp at H7 ⊢)
    | (obtain ⟨W7, hW7⟩ : ∃ W, W = (w10.setCell ⟨w9.heap.size, 0, none⟩ (.string ⟨P.toArray⟩)).setCell ⟨w9.heap.size, 1, none⟩ (.string ⟨Q.toArray⟩) := ⟨_, rfl⟩
       rw [← hW7]
       have H7 : Hid (PrAt W7 w9.heap.size ⟨P.toArray⟩ ⟨Q.toArray⟩ ∧ Below w4.heap.size w4 W7 ∧ w4.heap.size ≤ w9.heap.size) := hid (hW7 ▸ ⟨hP.set _ _, (HB6.out.setCell z5 _).setCell z5 _, z5⟩)
       clear hW7 hP hPc
       generalize w9.heap.size = gp at H7 ⊢)
    | (obtain ⟨W7, hW7⟩ : ∃ W, W = (w10.setCell ⟨w8.heap.size, 0, none⟩ (.string ⟨P.toArray⟩)).setCell ⟨w8.heap.size, 1, none⟩ (.string ⟨Q.toArray⟩) := ⟨_, rfl⟩
       rw [← hW7]
       have H7 : Hid (PrAt W7 w8.heap.size ⟨P.toArray⟩ ⟨Q.toArray⟩ ∧ Below w4.heap.size w4 W7 ∧ w4.heap.size ≤ w8.heap.size) := hid (hW7 ▸ ⟨hP.set _ _, (HB6.out.setCell z4 _).setCell z4 _, z4⟩)
       clear hW7 hP hPc
       generalize w8.heap.size = gp at H7 ⊢)
    | (obtain ⟨W7, hW7⟩ : ∃ W, W = (w10.setCell ⟨w7.heap.size, 0, none⟩ (.string ⟨P.toArray⟩)).setCell ⟨w7.heap.size, 1, none⟩ (.string ⟨Q.toArray⟩) := ⟨_, rfl⟩
       rw [← hW7]
       have H7 : Hid (PrAt W7 w7.heap.size ⟨P.toArray⟩ ⟨Q.toArray⟩ ∧ Below w4.heap.size w4 W7 ∧ w4.heap.size ≤ w7.heap.size) := hid (hW7 ▸ ⟨hP.set _ _, (HB6.out.setCell z3 _).setCell z3 _, z3⟩)
       clear hW7 hP hPc
       generalize w7.heap.size = gp at H7 ⊢)
    | (obtain ⟨W7, hW7⟩ : ∃ W, W = (w10.setCell ⟨w6.heap.size, 0, none⟩ (.string ⟨P.toArray⟩)).setCell ⟨w6.heap.size, 1, none⟩ (.string ⟨Q.toArray⟩) := ⟨_, rfl⟩
       rw [← hW7]
       have H7 : Hid (PrAt W7 w6.heap.size ⟨P.toArray⟩ ⟨Q.toArray⟩ ∧ Below w4.heap.size w4 W7 ∧ w4.heap.size ≤ w6.heap.size) := hid (hW7 ▸ ⟨hP.set _ _, (HB6.out.setCell z2 _).setCell z2 _, z2⟩)
       clear hW7 hP hPc
       generalize w6.heap.size = gp at H7 ⊢)
    | (obtain ⟨W7, hW7⟩ : ∃ W, W = (w10.setCell ⟨w5.heap.size, 0, none⟩ (.string ⟨P.toArray⟩)).setCell ⟨w5.heap.size, 1, none⟩ (.string ⟨Q.toArray⟩) := ⟨_, rfl⟩
       rw [← hW7]
       have H7 : Hid (PrAt W7 w5.heap.size ⟨P.toArray⟩ ⟨Q.toArray⟩ ∧ Below w4.heap.size w4 W7 ∧ w4.heap.size ≤ w5.heap.size) := hid (hW7 ▸ ⟨hP.set _ _, (HB6.out.setCell z1 _).setCell z1 _, z1⟩)
       clear hW7 hP hPc
       generalize w5.heap.size = gp at H7 ⊢)
    | (obtain ⟨W7, hW7⟩ : ∃ W, W = (w10.setCell ⟨w4.heap.size, 0, none⟩ (.string ⟨P.toArray⟩)).setCell ⟨w4.heap.size, 1, none⟩ (.string ⟨Q.toArray⟩) := ⟨_, rfl⟩
       rw [← hW7]
       have H7 : Hid (PrAt W7 w4.heap.size ⟨P.toArray⟩ ⟨Q.toArray⟩ ∧ Below w4.heap.size w4 W7 ∧ w4.heap.size ≤ w4.heap.size) := hid (hW7 ▸ ⟨hP.set _ _, (HB6.out.setCell (Nat.le_refl _) _).setCell (Nat.le_refl _) _, (Nat.le_refl _)⟩)
       clear hW7 hP hPc
       obtain ⟨gp, hgp⟩ : ∃ gp, gp = w4.heap.size := ⟨_, rfl⟩
       rw [← hgp]
       have H7 : Hid (PrAt W7 gp ⟨P.toArray⟩ ⟨Q.toArray⟩ ∧ Below w4.heap.size w4 W7 ∧ w4.heap.size ≤ gp) := hid ⟨hgp ▸ H7.out.1, H7.out.2.1, by omega⟩
       clear hgp)
  all_goals
    clear HB1 HB2 HB3 HB4 HB5 HB6 z1 z2 z3 z4 z5 z6 hcs HCS HBW
    obtain ⟨i0, hi, hz0, hz1, hz2⟩ := info_parts info_pair
    have hs7 : w4.heap.size ≤ W7.heap.size := H7.out.2.1.size
    have hw7 : w.heap.size ≤ W7.heap.size := by omega
    have hgp := H7.out.2.2
    have HO1 : Hid (∀ X : World, (∀ k, k < W7.heap.size → X.heap[k]? = W7.heap[k]?) → X.ownsRow w.heap.size 107 2 (.slice ao1 p1.length cp1) p1.length (prRow p1) ∧ X.ownsRow w.heap.size 107 2 (.slice ao2 p2.length cp2) p2.length (prRow p2)) := hid fun X hX => by
      have a1 := ownsRow_below HIN.out.2.2.1 H7.out.2.1
      have a2 := ownsRow_below HIN.out.2.2.2.1 H7.out.2.1
      exact ⟨own_keep a1 fun k hk => hX k (own_in a1 k hk).2, own_keep a2 fun k hk => hX k (own_in a2 k hk).2⟩
    have HN1 : Hid (∀ k ∈ ob (.slice ao1 p1.length cp1), w.heap.size ≤ k ∧ k < w4.heap.size) := hid HIN.out.2.2.2.2
    have HB7 : Hid (Below w.heap.size w W7) := hid (HIN.out.2.1.trans (H7.out.2.1.mono (by omega)))
    have HC7 : Hid (∀ w', Kept W7 w' (ob (.slice ao1 p1.length cp1)) → (w'.cell? ⟨gp, 0, none⟩ = some (.string ⟨P.toArray⟩) ∧ w'.cell? ⟨gp, 1, none⟩ = some (.string ⟨Q.toArray⟩))) := hid fun w' hk => by
      have cp : PrAt w' gp ⟨P.toArray⟩ ⟨Q.toArray⟩ := (hk.block gp H7.out.1.lt (fun c => by have := HN1.out _ c; omega)).trans H7.out.1
      exact cp.cells.1
    have hcs := HC7.out W7 (Kept.refl _ _)
    have hp1l : p1.length ≤ 1000 := by omega
    have hp2l : p2.length ≤ 1000 := by omega
    clear HIN
    go_wp2
    have HAG : Hid (∀ X : World, Kept W7 X [] → ∀ k, k < W7.heap.size → X.heap[k]? = W7.heap[k]?) := hid fun X h k hk => h.block k hk (by simp)
    go_region_held3 (fun w' => (w'.cell? ⟨gp, 0, none⟩ = some (.string ⟨P.toArray⟩) ∧ w'.cell? ⟨gp, 1, none⟩ = some (.string ⟨Q.toArray⟩)))
      (first | exact HC7.out _ (by (repeat (first | (with_reducible exact hK9) | (with_reducible exact hK8) | (with_reducible exact Kept.refl _ _) | (with_reducible apply Kept.drew) | (with_reducible apply Kept.alloc)))) | go_keep)
      (first
        | (refine step_append_grew _ rfl _ _ 39 rfl w.heap.size 107 i0 (.agg #[.string ⟨#[]⟩, .string ⟨#[]⟩]) 2 32 Tryz.underlying39 hi hz0 hz1 hz2 rfl (by decide) v8 _ _ rfl (by first | exact ho8 | exact ho8.alloc _) _ 1 1 [.string ⟨P.toArray⟩, .string ⟨Q.toArray⟩] rfl rfl (by first | exact hP8.news | exact (PrAt.new w8 ⟨P.toArray⟩ ⟨Q.toArray⟩).news) (by simp [Value.oneCell']) (by unfold maxLen; omega) (by omega) (by (have := hK8.size); first | exact Nat.le_trans hw7 this | (simp; omega)) ?_
           rintro v9 w9 ho9 hg9 _
           have hK9 : Kept W7 w9 (ob (.slice ao1 p1.length cp1)) := Kept.trans (by (repeat (first | (with_reducible exact hK8) | (with_reducible apply Kept.drew) | (with_reducible apply Kept.alloc)))) (kept_grew hg9 (fun k hk => hk)) hOb8
           clear hg9 ho8)
        | (refine step_append_both _ rfl _ _ 39 rfl w.heap.size w.heap.size 107 i0 (.agg #[.string ⟨#[]⟩, .string ⟨#[]⟩]) 2 32 Tryz.underlying39 hi hz0 hz1 hz2 rfl (by decide) _ _ _ _ _ _ rfl rfl (HO1.out _ (HAG.out _ (by (repeat (first | (with_reducible exact Kept.refl _ _) | (with_reducible apply Kept.drew) | (with_reducible apply Kept.alloc)))))).1 (HO1.out _ (HAG.out _ (by (repeat (first | (with_reducible exact Kept.refl _ _) | (with_reducible apply Kept.drew) | (with_reducible apply Kept.alloc)))))).2 (prRow_one _) (by unfold maxLen; omega) (by omega) (by (first | exact hw7 | (simp; omega))) ?_
           rintro v8 w8 ho8 hg8
           have hK8 : Kept W7 w8 (ob (.slice ao1 p1.length cp1)) := Kept.trans (by (repeat (first | (with_reducible exact Kept.refl _ _) | (with_reducible apply Kept.drew) | (with_reducible apply Kept.alloc)))) (kept_grew hg8 (fun k hk => hk)) (fun k hk => .inl hk)
           have hOb8 : ∀ k ∈ ob v8, k ∈ ob (.slice ao1 p1.length cp1) ∨ W7.heap.size ≤ k := (fun k hk => (ob_grew hg8 k hk).imp id (fun h => Nat.le_trans (by first | exact Nat.le_refl _ | (simp; done) | simp) h))
           (first | (have hP8 := (PrAt.new W7 ⟨P.toArray⟩ ⟨Q.toArray⟩).grew hg8 (fun c => by have := HN1.out _ c; omega)) | (have hP8 := (PrAt.new W7.drew ⟨P.toArray⟩ ⟨Q.toArray⟩).grew hg8 (fun c => by have := HN1.out _ c; simp at this; omega)) | (have hP8 := (PrAt.new W7 ⟨P.toArray⟩ ⟨Q.toArray⟩).drew.grew hg8 (fun c => by have := HN1.out _ c; omega)) | skip)
           clear hg8 HO1))
    all_goals
      have HF := hid (And.intro ho9 (HB7.out.trans (hK9.below hw7 (fun k hk => (HN1.out k hk).1))))
      clear ho9 hK9 hK8 hOb8 HC7 HN1 H7 HAG hcs
      (first | clear hP8 | skip)
      go_wp2
      go_ret
      exact ⟨v9, rfl, own_cast HF.out.1 (by simp; try omega) (by rw [prRow_append, prRow_append]; rfl), HF.out.2⟩
end Go.Proofs.YtogmdaopfnmobaaGreat

