/- What the document's own answer does (notaryref): LogOf, nodes. -/
import Derived.Laws.MakeOwn
import Derived.Deep.RegionHeld3
import Derived.Test.YtogmdaopfnmobaaGreatP11
import Derived.Test.YtogmdaopfnmobaaGreatP12
import Derived.Test.YtogmdaopfnmobaaGreatP15
namespace Go.Proofs.YtogmdaopfnmobaaGreat
open Go.RowKit

theorem info_bool : (Tryz.prog.info? 4).map (fun i => (i.zero, i.size, i.bytes)) = some (some (.bool false), 1, 1) := by kernel_rfl
theorem made_one (v : Value) (n : Nat) : madeCells #[v] n = (List.replicate n v).toArray := by
  apply Array.ext
  · simp [size_madeCells]
  · intro i h1 h2
    simp [madeCells, Nat.mod_one]

/-- A row of one-cell elements, whole. -/
def Row (w : World) (g : Nat) (t : TypeId) (L : List Value) : Prop := w.heap[g]? = some (.cells L.toArray t (0, 0))
theorem Row.cell {w : World} {g : Nat} {t : TypeId} {L : List Value} (h : Row w g t L) (i : Nat) (hi : i < L.length) : w.cell? ⟨g, i, none⟩ = some L[i] := by
  rw [cell_of_row w g _ _ _ _ h]; simp [hi]
theorem Row.frozen {w : World} {g : Nat} {t : TypeId} {L : List Value} (h : Row w g t L) (i : Nat) : w.frozen? ⟨g, i, none⟩ = false := by
  unfold Row at h; simp [World.frozen?, h]
theorem Row.set {w : World} {g : Nat} {t : TypeId} {L : List Value} (h : Row w g t L) (i : Nat) (v : Value) : Row (w.setCell ⟨g, i, none⟩ v) g t (L.set i v) := by
  unfold Row at h ⊢
  have := heap_set (k := i) h v
  simpa using this
theorem Row.below {w w' : World} {B g : Nat} {t : TypeId} {L : List Value} (h : Row w g t L) (hb : Below B w w') (hg : g < B) : Row w' g t L := (hb.block g hg).trans h
theorem Row.lt {w : World} {g : Nat} {t : TypeId} {L : List Value} (h : Row w g t L) : g < w.heap.size := (Array.getElem?_eq_some_iff.1 h).1
theorem Row.cells1 {w : World} {g : Nat} {t : TypeId} {L : List Value} (h : Row w g t L) (cap : Nat) : Cells1 w w.heap.size (.slice (some ⟨g, 0, none⟩) L.length cap) L :=
  ⟨_, cap, rfl, fun i hi => ⟨g, 0, rfl, h.lt, by rw [Nat.zero_add]; exact h.cell i hi⟩⟩

theorem ret_tree1 {w : World} {g : Nat} {c0 c1 c2 : Value} {fn : Func} {R : Ending → World → Prop} {tmps : Array Value} {k : Nat} (hf : fn.results = #[.cell k 53]) (h : w.heap[g]? = some (.cells #[c0, c1, c2] 53 (0, 0)))
    (h2 : tmps[k]? = some (.pointer (some ⟨g, 0, none⟩))) (hR : R (.returned (.agg #[c0, c1, c2])) w) : bodyPost Tryz.prog fn R .ret ⟨tmps, []⟩ w := by
  have k0 : w.cell? ⟨g, 0, none⟩ = some c0 := by rw [cell_of_row w _ _ _ _ _ h]; rfl
  have k1 : w.cell? ⟨g, 1, none⟩ = some c1 := by rw [cell_of_row w _ _ _ _ _ h]; rfl
  have k2 : w.cell? ⟨g, 2, none⟩ = some c2 := by rw [cell_of_row w _ _ _ _ _ h]; rfl
  refine bodyPost_ret (v := .agg #[c0, c1, c2]) ?_ rfl hR
  simp [results, hf, go_sem, h2, k0, k1, k2]
theorem set3 {w : World} {g : Nat} {c0 c1 c2 : Value} {t : TypeId} (h : w.heap[g]? = some (.cells #[c0, c1, c2] t (0, 0))) (d0 d1 d2 : Value) :
    (((w.setCell ⟨g, 0, none⟩ d0).setCell ⟨g, 1, none⟩ d1).setCell ⟨g, 2, none⟩ d2).heap[g]? = some (.cells #[d0, d1, d2] t (0, 0)) := heap_set (k := 2) (heap_set (k := 1) (heap_set (k := 0) h _) _) _

def logPost (v : Value) (vs : List Int) (w : World) (e : Ending) (w' : World) : Prop :=
  (∃ g, e = .returned (.agg #[.bool false, v, .slice (some ⟨g, 0, none⟩) vs.length vs.length]) ∧ w.heap.size ≤ g ∧ TreeIn w' w'.heap.size v (.slice (some ⟨g, 0, none⟩) vs.length vs.length) vs (List.replicate vs.length true)) ∧ Below w.heap.size w w'
theorem fill_next (n k : Nat) (h : k < n) : (List.replicate k (Value.bool true) ++ List.replicate (n - k) (Value.bool false)).set k (.bool true) = List.replicate (k + 1) (Value.bool true) ++ List.replicate (n - (k + 1)) (Value.bool false) := by
  rw [List.set_append, if_neg (by simp)]
  simp only [List.length_replicate, Nat.sub_self]
  rw [show n - k = (n - (k + 1)) + 1 from by omega, List.replicate_succ, List.set_cons_zero, List.replicate_succ', List.append_assoc]
  rfl

set_option maxHeartbeats 1000000 in
set_option maxRecDepth 100000 in
theorem refLogOf_any (v : Value) (vs : List Int) (w : World) (hc : Cells1 w w.heap.size v (vs.map (.int .i64))) (hv : ∀ v ∈ vs, 0 ≤ v ∧ v ≤ 1000000) (hn : vs.length ≤ 64) :
    Calls Tryz.prog 14 #[v] w (logPost v vs w) := by
  have HC : Hid _ := hc
  have HV : Hid _ := hv
  obtain ⟨ao, cap, rfl, _⟩ := hc.ex
  simp only [List.length_map] at HC ⊢
  clear hc hv
  obtain ⟨i0, hi, hz0, hz1, hz2⟩ := info_parts info_bool
  have hmk : ∀ u : World, (Instr.makeSlice 43 (.int .i64 (vs.length : Int)) (.int .i64 (vs.length : Int))).run Tryz.prog u =
      .ok (.slice (some ⟨u.heap.size, 0, none⟩) vs.length vs.length) (u.alloc (.cells (List.replicate vs.length (.bool false)).toArray 4)) := fun u => by
    have h := run_make (P := Tryz.prog) u 43 4 i0 (.bool false) Tryz.underlying43 hi hz0 .i64 .i64 (vs.length : Int) (vs.length : Int) (by omega) (Int.le_refl _) (by rw [hz2]; omega) (by omega)
    have e : ((vs.length : Int)).toNat = vs.length := by omega
    rw [e] at h
    simpa [hz1, Value.cells, made_one] using h
  go_enter Tryz.func14, Tryz.ntmps14
  go_wp2
  have hR : Hid (Row ((w.alloc (.cells #[.bool false, .slice none 0 0, .slice none 0 0] 53)).alloc (.cells (List.replicate vs.length (.bool false)).toArray 4)) (w.heap.size + 1) 4 (List.replicate vs.length (.bool false))) := by
    have := heap_alloc_new (w.alloc (.cells #[.bool false, .slice none 0 0, .slice none 0 0] 53)) (.cells (List.replicate vs.length (.bool false)).toArray 4)
    rw [World.size_alloc] at this
    exact hid this
  have hG : Hid (((w.alloc (.cells #[.bool false, .slice none 0 0, .slice none 0 0] 53)).alloc (.cells (List.replicate vs.length (.bool false)).toArray 4)).heap[w.heap.size]? = some (.cells #[.bool false, .slice none 0 0, .slice none 0 0] 53 (0, 0))) := hid (by
    rw [Below.heap_alloc _ _ _ (by simp)]; exact heap_alloc_new w _)
  have hB : Hid (Below w.heap.size w ((w.alloc (.cells #[.bool false, .slice none 0 0, .slice none 0 0] 53)).alloc (.cells (List.replicate vs.length (.bool false)).toArray 4))) := hid (((Below.refl _ _).alloc (Nat.le_refl _) _).alloc (by simp) _)
  clear hmk
  go_loopw [4] (fun i wr => ∃ k : Nat, k ≤ vs.length ∧ i = .int .i64 k ∧ Hid (Row wr (w.heap.size + 1) 4 (List.replicate k (.bool true) ++ List.replicate (vs.length - k) (.bool false)) ∧ wr.heap[w.heap.size]? = some (.cells #[.bool false, .slice none 0 0, .slice none 0 0] 53 (0, 0)) ∧ Below w.heap.size w wr)) (fun i _ => vs.length - (intOf i).toNat)
  case atStart => exact ⟨0, Nat.zero_le _, rfl, hid ⟨by simpa using hR.out, hG.out, hB.out⟩⟩
  case round =>
    clear hR hG hB
    obtain ⟨k, hk, rfl, HR⟩ := hrel
    by_cases hlt : k < vs.length
    · have c1 := HR.out.1.cell k (by simp; omega)
      have f1 := HR.out.1.frozen k
      have i1 : (k : Int) < vs.length := by omega
      go_wp2
      go_roundw
      case rel =>
        refine ⟨k + 1, by omega, by go_num, hid ⟨?_, ?_, ?_⟩⟩
        · rw [← fill_next _ _ hlt]; exact HR.out.1.set k _
        · exact (Below.heap_setCell _ _ _ _ (by simp)).trans HR.out.2.1
        · exact HR.out.2.2.setCell (by simp) _
      case measure => simp [intOf]; omega
    · have hk' : k = vs.length := by omega
      subst hk'
      have hg := HR.out.2.1
      have c0 : wr.cell? ⟨w.heap.size, 0, none⟩ = some (.bool false) := by rw [cell_of_row wr _ _ _ _ _ hg]; rfl
      have c1 : wr.cell? ⟨w.heap.size, 1, none⟩ = some (.slice none 0 0) := by rw [cell_of_row wr _ _ _ _ _ hg]; rfl
      have c2 : wr.cell? ⟨w.heap.size, 2, none⟩ = some (.slice none 0 0) := by rw [cell_of_row wr _ _ _ _ _ hg]; rfl
      have ff : ∀ o, wr.frozen? ⟨w.heap.size, o, none⟩ = false := fun o => by simp [World.frozen?, hg]
      clear hg
      go_wp2
      refine ret_tree1 Tryz.results14 (set3 HR.out.2.1 _ _ _) rfl ⟨⟨_, rfl, by omega, ?_⟩, ?_⟩
      · have hb : Below w.heap.size w (((wr.setCell ⟨w.heap.size, 0, none⟩ (.bool false)).setCell ⟨w.heap.size, 1, none⟩ (.slice ao vs.length cap)).setCell ⟨w.heap.size, 2, none⟩ (.slice (some ⟨w.heap.size + 1, 0, none⟩) vs.length vs.length)) := by
          repeat (refine Below.setCell ?_ (by simp) _)
          exact HR.out.2.2
        refine ⟨(HC.out.below hb).mono hb.size, ?_, by simp, hn, HV.out⟩
        have hrow : Row (((wr.setCell ⟨w.heap.size, 0, none⟩ (.bool false)).setCell ⟨w.heap.size, 1, none⟩ (.slice ao vs.length cap)).setCell ⟨w.heap.size, 2, none⟩ (.slice (some ⟨w.heap.size + 1, 0, none⟩) vs.length vs.length)) (w.heap.size + 1) 4 ((List.replicate vs.length true).map .bool) := by
          unfold Row
          repeat (refine (Below.heap_setCell _ _ _ _ (by simp)).trans ?_)
          have := HR.out.1
          unfold Row at this
          rw [this]
          simp
        have := hrow.cells1 vs.length
        simpa using this
      · repeat (refine Below.setCell ?_ (by simp) _)
        exact HR.out.2.2

end Go.Proofs.YtogmdaopfnmobaaGreat

/- What the document's own answer does (notaryref): nodes. -/
namespace Go.Proofs.YtogmdaopfnmobaaGreat
open Go.RowKit

theorem spRow_get (l : List Sp) : ∀ (i j : Nat) (hi : i < l.length) (_ : j < 3), (spRow l)[i * 3 + j]? = (l[i]).cells[j]? := by
  induction l with
  | nil => intro i j hi; simp at hi
  | cons d r ih =>
    intro i j hi hj
    have hd : d.cells.length = 3 := rfl
    cases i with
    | zero =>
      simp only [spRow, List.flatMap_cons, Nat.zero_mul, Nat.zero_add, List.getElem_cons_zero]
      rw [List.getElem?_append_left (by omega)]
    | succ i =>
      simp only [spRow, List.flatMap_cons, List.getElem_cons_succ]
      rw [List.getElem?_append_right (by omega), hd, show (i + 1) * 3 + j - 3 = i * 3 + j from by omega]
      exact ih i j (by simpa using hi) hj
theorem span_cells {w : World} {base g cap n : Nat} {l : List Sp} (h : w.ownsRow base 188 3 (.slice (some ⟨g, 0, none⟩) n cap) n (spRow l)) (k : Nat) (hk : k < l.length) (p : Sp) (hp : p = l[k]) :
    w.cell? ⟨g, k * 3, none⟩ = some (.int .i64 p.a) ∧ w.cell? ⟨g, k * 3 + 1, none⟩ = some (.int .i64 p.b) ∧ w.cell? ⟨g, k * 3 + 2, none⟩ = some (.bool p.i) := by
  subst hp
  have hc := h.cells (g := g) rfl
  have f : ∀ j u, j < 3 → (l[k]).cells[j]? = some u → w.cell? ⟨g, k * 3 + j, none⟩ = some u := fun j u hj hu => by
    have := hc (k * 3 + j) u (by rw [spRow_get l k j hk hj]; exact hu)
    rw [Addr.add_mid, Nat.zero_add] at this
    exact this
  exact ⟨f 0 _ (by omega) rfl, f 1 _ (by omega) rfl, f 2 _ (by omega) rfl⟩

def nodesPost (l : List Nd) (w : World) (e : Ending) (w' : World) : Prop := ∃ ao c, e = .returned (.slice ao l.length c) ∧ w'.ownsRow w.heap.size 51 6 (.slice ao l.length c) l.length (l.flatMap Nd.cells) ∧ Below w.heap.size w w'

set_option maxHeartbeats 2000000 in
set_option maxRecDepth 100000 in
theorem refNodes_any (tb : Bool) (vv hv : Value) (vs : List Int) (hs : List Bool) (l : List Sp) (base g cap : Nat) (w : World) (hT : TreeIn w w.heap.size vv hv vs hs) (hc : w.ownsRow base 188 3 (.slice (some ⟨g, 0, none⟩) l.length cap) l.length (spRow l))
    (hl : ∀ p ∈ l, p.b ≤ vs.length) (hn : l.length ≤ 100) :
    Calls Tryz.prog 135 #[.agg #[.bool tb, vv, hv], .slice (some ⟨g, 0, none⟩) l.length cap] w (nodesPost (cn (lf tb vs hs) l) w) := by
  obtain ⟨i0, hi, hz0, hz1, hz2⟩ := info_parts info_node
  have HT : Hid _ := hT
  have HC : Hid (w.ownsRow base 188 3 (.slice (some ⟨g, 0, none⟩) l.length cap) l.length (spRow l)) := hc
  have hg := (own_in hc g (mem_ob.2 rfl)).2
  obtain ⟨a1, p1, rfl, _⟩ := hT.hv1.ex
  obtain ⟨a2, p2, rfl, _⟩ := hT.hv2.ex
  simp only [List.length_map] at HT ⊢
  clear hT hc
  have HL : Hid _ := hl
  clear hl
  go_enter Tryz.func135, Tryz.ntmps135
  go_wp2
  obtain ⟨W0, hW0⟩ : ∃ W0, W0 = w.alloc (.cells #[.bool tb, .slice a1 vs.length p1, .slice a2 hs.length p2] 53) := ⟨_, rfl⟩
  have hb0 : Hid (W0.heap[w.heap.size]? = some (.cells #[.bool tb, .slice a1 vs.length p1, .slice a2 hs.length p2] 53 (0, 0))) := hid (by rw [hW0]; exact heap_alloc_new w _)
  have hB0 : Hid (Below w.heap.size w W0) := hid (by rw [hW0]; exact (Below.refl _ _).alloc (Nat.le_refl _) _)
  have hz : W0.heap.size = w.heap.size + 1 := by rw [hW0]; simp
  have HZ : Hid _ := hz
  rw [← hW0]
  clear hW0 hz
  go_loopw [5, 6] (fun v i wr => ∃ (k : Nat) (ao : Option Addr) (c : Nat), k ≤ l.length ∧ i = .int .i64 k ∧ v = .slice ao k c ∧ Hid (wr.ownsRow (w.heap.size + 1) 51 6 (.slice ao k c) k ((cn (lf tb vs hs) (l.take k)).flatMap Nd.cells) ∧ Below (w.heap.size + 1) W0 wr)) (fun _ i _ => l.length - (intOf i).toNat)
  case atStart => exact ⟨0, none, 0, Nat.zero_le _, rfl, rfl, hid ⟨World.ownsRow_nil _ _ _ _, Below.refl _ _⟩⟩
  case round =>
    obtain ⟨k, ao, c, hk, rfl, rfl, HR⟩ := hrel
    obtain ⟨hown, hbw⟩ := HR.out
    have hB : Below w.heap.size w wr := hB0.out.trans (hbw.mono (by omega))
    by_cases hlt : k < l.length
    · obtain ⟨p, hp⟩ : ∃ p, p = l[k] := ⟨_, rfl⟩
      have hrow : wr.heap[w.heap.size]? = some (.cells #[.bool tb, .slice a1 vs.length p1, .slice a2 hs.length p2] 53 (0, 0)) := (hbw.block _ (by omega)).trans hb0.out
      have c0 : wr.cell? ⟨w.heap.size, 0, none⟩ = some (.bool tb) := by rw [cell_of_row wr _ _ _ _ _ hrow]; rfl
      have c1 : wr.cell? ⟨w.heap.size, 1, none⟩ = some (.slice a1 vs.length p1) := by rw [cell_of_row wr _ _ _ _ _ hrow]; rfl
      have c2 : wr.cell? ⟨w.heap.size, 2, none⟩ = some (.slice a2 hs.length p2) := by rw [cell_of_row wr _ _ _ _ _ hrow]; rfl
      obtain ⟨d0, d1, _⟩ := span_cells (own_keep HC.out fun j hj => hB.block j (own_in HC.out j hj).2) k hlt p hp
      have hpb : p.b ≤ vs.length := HL.out p (by rw [hp]; exact List.getElem_mem hlt)
      have HN : Hid _ := cn_next (lf tb vs hs) l k hlt p hp
      have i1 : (k : Int) < l.length := by omega
      have hsz : w.heap.size < wr.heap.size := by have := hbw.size; have := HZ.out; omega
      have hgz : g < wr.heap.size := by omega
      have HP : ∀ w', Hid (TreeIn w' w'.heap.size (.slice a1 vs.length p1) (.slice a2 hs.length p2) vs hs → Calls Tryz.prog 46 #[.agg #[.bool tb, .slice a1 vs.length p1, .slice a2 hs.length p2], .int .i64 p.a, .int .i64 p.b] w' _) := fun w' hT' => refPart_any tb _ _ vs hs p.b p.a p.b w' (by omega) hpb hT'
      have HTr : ∀ w', Hid (Below wr.heap.size wr w' → TreeIn w' w'.heap.size (.slice a1 vs.length p1) (.slice a2 hs.length p2) vs hs) := fun w' hb' => ((HT.out.below hB).below (hb'.mono (by have := hB.size; omega))).mono (by have := hB.size; have := hb'.size; omega)
      generalize tr (lf tb vs hs) p.a p.b = d at HP HN
      have HP' : Hid _ := hp
      have Hown : Hid (wr.ownsRow (w.heap.size + 1) 51 6 (.slice ao k c) k ((cn (lf tb vs hs) (l.take k)).flatMap Nd.cells)) := hown
      have Hbw : Hid _ := hbw
      clear hp hrow hown hbw HR hpb
      have KS : ∀ w', Below wr.heap.size wr w' → w'.cell? ⟨w.heap.size, 0, none⟩ = some (.bool tb) ∧ w'.cell? ⟨w.heap.size, 1, none⟩ = some (.slice a1 vs.length p1) ∧ w'.cell? ⟨w.heap.size, 2, none⟩ = some (.slice a2 hs.length p2) ∧ w'.cell? ⟨g, k * 3, none⟩ = some (.int .i64 p.a) ∧ w'.cell? ⟨g, k * 3 + 1, none⟩ = some (.int .i64 p.b) := fun w' hB1 => ⟨(hB1.cell (p := ⟨w.heap.size, 0, none⟩) hsz).trans c0, (hB1.cell (p := ⟨w.heap.size, 1, none⟩) hsz).trans c1, (hB1.cell (p := ⟨w.heap.size, 2, none⟩) hsz).trans c2, (hB1.cell (p := ⟨g, k * 3, none⟩) hgz).trans d0, (hB1.cell (p := ⟨g, k * 3 + 1, none⟩) hgz).trans d1⟩
      go_wp2
      go_region_held3 (fun w' => w'.cell? ⟨w.heap.size, 0, none⟩ = some (.bool tb) ∧ w'.cell? ⟨w.heap.size, 1, none⟩ = some (.slice a1 vs.length p1) ∧ w'.cell? ⟨w.heap.size, 2, none⟩ = some (.slice a2 hs.length p2) ∧ w'.cell? ⟨g, k * 3, none⟩ = some (.int .i64 p.a) ∧ w'.cell? ⟨g, k * 3 + 1, none⟩ = some (.int .i64 p.b)) (first | exact KS _ (by (repeat (first | (with_reducible exact hB1) | (with_reducible exact Below.refl _ _) | (with_reducible apply Below.drew) | (with_reducible refine Below.setCell ?_ (by simp) _) | (with_reducible refine Below.alloc ?_ (by first | exact hB1.size | simp) _)))) | go_keep) (first | (go_at_call 46; refine ((HP _).out ((HTr _).out ?_)).mono ?_; (repeat (first | (with_reducible exact Below.refl _ _) | (with_reducible apply Below.drew) | (with_reducible refine Below.alloc ?_ (by simp) _))); rintro e w1 ⟨rfl, hb1⟩; rw [ndV]; have hc1 := oldc hb1; have hf1 := oldf hb1; have hzz := hb1.size; have hB1 : Below wr.heap.size wr w1 := Below.trans (by (repeat (first | (with_reducible exact Below.refl _ _) | (with_reducible apply Below.drew) | (with_reducible refine Below.alloc ?_ (by simp) _)))) (hb1.mono (by simp))))
      · have hS : Six (w1.alloc (.cells #[.int .i64 d.c, .int .i64 d.s, .int .i64 d.m, .int .i64 d.x, .int .u8 (d.h.toNat : Int), .int .u8 (d.g.toNat : Int)] 51)) w1.heap.size (.int .i64 d.c) (.int .i64 d.s) (.int .i64 d.m) (.int .i64 d.x) (.int .u8 (d.h.toNat : Int)) (.int .u8 (d.g.toNat : Int)) := Six.new w1 _ _ _ _ _ _
        have hBW : Below wr.heap.size wr (w1.alloc (.cells #[.int .i64 d.c, .int .i64 d.s, .int .i64 d.m, .int .i64 d.x, .int .u8 (d.h.toNat : Int), .int .u8 (d.g.toNat : Int)] 51)) := by
          (repeat (first | (with_reducible exact hB1) | (with_reducible refine Below.setCell ?_ (by simp) _) | (with_reducible refine Below.alloc ?_ hB1.size _)))
        generalize w1.alloc (.cells #[.int .i64 d.c, .int .i64 d.s, .int .i64 d.m, .int .i64 d.x, .int .u8 (d.h.toNat : Int), .int .u8 (d.g.toNat : Int)] 51) = W2 at hS hBW ⊢
        clear c0 c1 c2 d0 d1 KS hc1 hf1 hb1 hB1 HP HTr hzz
        obtain ⟨k0, k1, k2, k3, k4, k5⟩ := hS.cells
        have hown2 : W2.ownsRow (w.heap.size + 1) 51 6 (.slice ao k c) k ((cn (lf tb vs hs) (l.take k)).flatMap Nd.cells) := own_keep Hown.out fun j hj => hBW.block j (own_in Hown.out j hj).2
        have hbw2 : Below (w.heap.size + 1) W0 W2 := Hbw.out.trans (hBW.mono (by omega))
        have hz2' : w.heap.size + 1 ≤ W2.heap.size := by have := hBW.size; omega
        have fin : ∀ v' w3, Hid (w3.ownsRow (w.heap.size + 1) 51 6 v' (k + 1) ((cn (lf tb vs hs) (l.take k)).flatMap Nd.cells ++ d.cells) → Grew (W2.alloc (.cells d.cells.toArray 51)) (.slice ao k c) w3 v' → w3.ownsRow (w.heap.size + 1) 51 6 v' (k + 1) ((cn (lf tb vs hs) (l.take (k + 1))).flatMap Nd.cells) ∧ Below (w.heap.size + 1) W0 w3) := fun v' w3 ho hg => ⟨by rw [HN.out]; simpa using ho, (hbw2.alloc hz2' _).grown hg.grown (by simp; omega) (fun j hj => (hown2.lt j hj).1)⟩
        clear hS hBW Hown Hbw hbw2
        go_wp2_with (at_builtin; refine wpList_append_grew _ rfl _ _ 72 rfl (w.heap.size + 1) 51 i0 (.agg #[.int .i64 0, .int .i64 0, .int .i64 0, .int .i64 0, .int .u8 0, .int .u8 0]) 6 40 Tryz.underlying72 hi hz0 hz1 hz2 rfl (by decide) _ _ _ rfl (hown2.alloc _) ⟨W2.heap.size, 0, none⟩ 1 1 d.cells rfl rfl (node_new W2 d _) (node_one d) (by unfold maxLen; omega) (by omega) (by simp; omega) ?_)
        rintro v' w3 ho3 hg3 _
        have HF := (fin v' w3).out ho3 hg3
        obtain ⟨ao', cap', rfl⟩ := own_shape ho3
        have HF' : Hid _ := HF
        clear ho3 hg3 HF fin hown2 k0 k1 k2 k3 k4 k5
        go_wp2
        go_roundw
        case rel => exact ⟨k + 1, ao', cap', by omega, by go_num, rfl, HF'⟩
        case measure => simp [intOf]; omega
      · have hS : Six ((((((w1.setCell ⟨wr.heap.size, 0, none⟩ (.int .i64 d.c)).setCell ⟨wr.heap.size, 1, none⟩ (.int .i64 d.s)).setCell ⟨wr.heap.size, 2, none⟩ (.int .i64 d.m)).setCell ⟨wr.heap.size, 3, none⟩ (.int .i64 d.x)).setCell ⟨wr.heap.size, 4, none⟩ (.int .u8 (d.h.toNat : Int))).setCell ⟨wr.heap.size, 5, none⟩ (.int .u8 (d.g.toNat : Int))) wr.heap.size (.int .i64 d.c) (.int .i64 d.s) (.int .i64 d.m) (.int .i64 d.x) (.int .u8 (d.h.toNat : Int)) (.int .u8 (d.g.toNat : Int)) := ((Six.at wr.drew wr.heap.size rfl _ _ _ _ _ _).below hb1 (by simp)).set _ _ _ _ _ _
        have hBW : Below wr.heap.size wr ((((((w1.setCell ⟨wr.heap.size, 0, none⟩ (.int .i64 d.c)).setCell ⟨wr.heap.size, 1, none⟩ (.int .i64 d.s)).setCell ⟨wr.heap.size, 2, none⟩ (.int .i64 d.m)).setCell ⟨wr.heap.size, 3, none⟩ (.int .i64 d.x)).setCell ⟨wr.heap.size, 4, none⟩ (.int .u8 (d.h.toNat : Int))).setCell ⟨wr.heap.size, 5, none⟩ (.int .u8 (d.g.toNat : Int))) := by
          (repeat (first | (with_reducible exact hB1) | (with_reducible refine Below.setCell ?_ (by simp) _) | (with_reducible refine Below.alloc ?_ hB1.size _)))
        generalize (((((w1.setCell ⟨wr.heap.size, 0, none⟩ (.int .i64 d.c)).setCell ⟨wr.heap.size, 1, none⟩ (.int .i64 d.s)).setCell ⟨wr.heap.size, 2, none⟩ (.int .i64 d.m)).setCell ⟨wr.heap.size, 3, none⟩ (.int .i64 d.x)).setCell ⟨wr.heap.size, 4, none⟩ (.int .u8 (d.h.toNat : Int))).setCell ⟨wr.heap.size, 5, none⟩ (.int .u8 (d.g.toNat : Int)) = W2 at hS hBW ⊢
        clear c0 c1 c2 d0 d1 KS hc1 hf1 hb1 hB1 HP HTr hzz
        obtain ⟨k0, k1, k2, k3, k4, k5⟩ := hS.cells
        have hown2 : W2.ownsRow (w.heap.size + 1) 51 6 (.slice ao k c) k ((cn (lf tb vs hs) (l.take k)).flatMap Nd.cells) := own_keep Hown.out fun j hj => hBW.block j (own_in Hown.out j hj).2
        have hbw2 : Below (w.heap.size + 1) W0 W2 := Hbw.out.trans (hBW.mono (by omega))
        have hz2' : w.heap.size + 1 ≤ W2.heap.size := by have := hBW.size; omega
        have fin : ∀ v' w3, Hid (w3.ownsRow (w.heap.size + 1) 51 6 v' (k + 1) ((cn (lf tb vs hs) (l.take k)).flatMap Nd.cells ++ d.cells) → Grew (W2.alloc (.cells d.cells.toArray 51)) (.slice ao k c) w3 v' → w3.ownsRow (w.heap.size + 1) 51 6 v' (k + 1) ((cn (lf tb vs hs) (l.take (k + 1))).flatMap Nd.cells) ∧ Below (w.heap.size + 1) W0 w3) := fun v' w3 ho hg => ⟨by rw [HN.out]; simpa using ho, (hbw2.alloc hz2' _).grown hg.grown (by simp; omega) (fun j hj => (hown2.lt j hj).1)⟩
        clear hS hBW Hown Hbw hbw2
        go_wp2_with (at_builtin; refine wpList_append_grew _ rfl _ _ 72 rfl (w.heap.size + 1) 51 i0 (.agg #[.int .i64 0, .int .i64 0, .int .i64 0, .int .i64 0, .int .u8 0, .int .u8 0]) 6 40 Tryz.underlying72 hi hz0 hz1 hz2 rfl (by decide) _ _ _ rfl (hown2.alloc _) ⟨W2.heap.size, 0, none⟩ 1 1 d.cells rfl rfl (node_new W2 d _) (node_one d) (by unfold maxLen; omega) (by omega) (by simp; omega) ?_)
        rintro v' w3 ho3 hg3 _
        have HF := (fin v' w3).out ho3 hg3
        obtain ⟨ao', cap', rfl⟩ := own_shape ho3
        have HF' : Hid _ := HF
        clear ho3 hg3 HF fin hown2 k0 k1 k2 k3 k4 k5
        go_wp2
        go_roundw
        case rel => exact ⟨k + 1, ao', cap', by omega, by go_num, rfl, HF'⟩
        case measure => simp [intOf]; omega
    · have hk' : k = l.length := by omega
      subst hk'
      have HF : Hid (nodesPost (cn (lf tb vs hs) l) w (.returned (.slice ao l.length c)) wr) := hid (by
        refine ⟨ao, c, by rw [cn_len], ?_, hB⟩
        have := own_mono hown (Nat.le_succ w.heap.size)
        rw [List.take_length] at this
        rw [cn_len]
        exact this)
      clear hown hbw hB HR
      go_wp2
      go_ret
      exact HF.out

end Go.Proofs.YtogmdaopfnmobaaGreat

/- What the document's own answer does (notaryref): the store: New, Append. -/
namespace Go.Proofs.YtogmdaopfnmobaaGreat
open Go.RowKit

/-- The document's store, in memory. -/
structure RSt (w : World) (base R : Nat) (s : Sto) (lv : Value) (K H : Nat) : Prop where
  hR : w.heap[R]? = some (.cells #[lv, .slice (some ⟨K, 0, none⟩) 32 32, .slice (some ⟨H, 0, none⟩) 32 32] 45 (0, 0))
  hL : w.ownsRow base 3 1 lv s.l.length (s.l.map (.int .i64))
  hK : Row w K 3 ((tv s.t).map (.int .i64))
  hH : Row w H 4 ((tx s.t).map .bool)
  kl : K ∉ ob lv
  bR : base ≤ R
  bK : base ≤ K
  bH : base ≤ H
  ok : s.ok
def rfp (R : Nat) (lv : Value) (K H : Nat) : List Nat := R :: K :: H :: ob lv

theorem RSt.cells {w : World} {base R : Nat} {s : Sto} {lv : Value} {K H : Nat} (h : RSt w base R s lv K H) : (w.cell? ⟨R, 0, none⟩ = some lv ∧ w.cell? ⟨R, 1, none⟩ = some (.slice (some ⟨K, 0, none⟩) 32 32) ∧ w.cell? ⟨R, 2, none⟩ = some (.slice (some ⟨H, 0, none⟩) 32 32)) ∧ ∀ o, w.frozen? ⟨R, o, none⟩ = false := by
  have hR := h.hR
  refine ⟨⟨?_, ?_, ?_⟩, fun o => by simp [World.frozen?, hR]⟩ <;> rw [cell_of_row w R _ _ _ _ hR] <;> rfl
theorem RSt.lt {w : World} {base R : Nat} {s : Sto} {lv : Value} {K H : Nat} (h : RSt w base R s lv K H) : R < w.heap.size ∧ K < w.heap.size ∧ H < w.heap.size := ⟨(Array.getElem?_eq_some_iff.1 h.hR).1, h.hK.lt, h.hH.lt⟩
theorem RSt.frame {w w' : World} {base R : Nat} {s : Sto} {lv : Value} {K H : Nat} (h : RSt w base R s lv K H) (hf : ∀ k ∈ rfp R lv K H, w'.heap[k]? = w.heap[k]?) : RSt w' base R s lv K H :=
  ⟨(hf R (by simp [rfp])).trans h.hR, own_keep h.hL fun k hk => hf k (by simp [rfp, hk]), (hf K (by simp [rfp])).trans h.hK, (hf H (by simp [rfp])).trans h.hH, h.kl, h.bR, h.bK, h.bH, h.ok⟩
theorem RSt.fp {w : World} {base R : Nat} {s : Sto} {lv : Value} {K H : Nat} (h : RSt w base R s lv K H) : ∀ k ∈ rfp R lv K H, base ≤ k ∧ k < w.heap.size := by
  intro k hk
  simp only [rfp, List.mem_cons] at hk
  obtain ⟨a, b, c⟩ := h.lt
  rcases hk with rfl | rfl | rfl | hk
  · exact ⟨h.bR, a⟩
  · exact ⟨h.bK, b⟩
  · exact ⟨h.bH, c⟩
  · exact own_in h.hL k hk
theorem RSt.below {w w' : World} {base R : Nat} {s : Sto} {lv : Value} {K H : Nat} (h : RSt w base R s lv K H) (hb : Below w.heap.size w w') : RSt w' base R s lv K H := h.frame fun k hk => hb.block k (h.fp k hk).2
theorem RSt.log1 {w : World} {base R : Nat} {s : Sto} {lv : Value} {K H : Nat} (h : RSt w base R s lv K H) : Cells1 w w.heap.size lv (s.l.map (.int .i64)) := by
  obtain ⟨ao, cap, rfl⟩ := own_shape h.hL
  refine ⟨ao, cap, by simp, fun i hi => ?_⟩
  rcases h.hL.2 with ⟨e, h0⟩ | ⟨g, cap', cur, e, _, hg, _⟩
  · simp at hi; omega
  · simp only [Value.slice.injEq] at e
    obtain ⟨rfl, _, rfl⟩ := e
    refine ⟨g, 0, rfl, (Array.getElem?_eq_some_iff.1 hg).1, ?_⟩
    have := h.hL.cells (g := g) rfl i _ (List.getElem?_eq_getElem hi)
    rw [Addr.add_mid] at this
    exact this

/-- What a change of a store leaves. -/
def chPost (base R : Nat) (_s s' : Sto) (n : Int) (lv : Value) (K H : Nat) (w : World) (e : Ending) (w' : World) : Prop :=
  e = .returned (.int .i64 n) ∧ Kept w w' (rfp R lv K H) ∧ ∃ lv', RSt w' base R s' lv' K H ∧ ∀ k ∈ ob lv', k ∈ ob lv ∨ w.heap.size ≤ k

theorem rblock_new (w : World) (C : Array Value) (t : TypeId) : ∀ j u, C.toList[j]? = some u → (w.alloc (.cells C t)).cell? ((⟨w.heap.size, 0, none⟩ : Addr).add j) = some u := by
  intro j u hj
  have e1 : (⟨w.heap.size, 0, none⟩ : Addr).add j = ⟨w.heap.size, j, none⟩ := by unfold Addr.add; split <;> simp_all
  rw [e1, cell_of_row _ _ j _ _ _ (heap_alloc_new w _)]
  simpa using hj
theorem rblk_of {W w' : World} {v x : Value} {N : Nat} (h : Grew W v w' x) (hN : N ≤ W.heap.size) : ∀ j ∈ ob x, j ∈ ob v ∨ N ≤ j := fun j hj => by
  rcases h.blk with e | ⟨k, e, hk⟩
  · left; rw [mem_ob, ← e]; exact mem_ob.1 hj
  · right; rw [mem_ob, e] at hj; simp at hj; omega
theorem int_new (w : World) (v : Int) (e : TypeId) : ∀ j u, [Value.int .i64 v][j]? = some u → (w.alloc (.cells #[.int .i64 v] e)).cell? ((⟨w.heap.size, 0, none⟩ : Addr).add j) = some u := by
  intro j u hj
  have := rblock_new w #[.int .i64 v] e j u hj
  exact this

theorem ap_fin {w w3 : World} {base R : Nat} {s : Sto} {lv lv' : Value} {K H : Nat} {v : Int} {o : Obj} (h : RSt w base R s lv K H) (ho : w3.ownsRow base 3 1 lv' (s.l.length + 1) (s.l.map (.int .i64) ++ [.int .i64 v])) (hg : Grew (w.alloc o) lv w3 lv') (hE : apE s v = 0) :
    chPost base R s (apS s v) (apE s v) lv K H w (.returned (.int .i64 0)) (w3.setCell ⟨R, 0, none⟩ lv') := by
  have hl := h.lt
  have hRo : R ∉ ob lv := fun c => by
    rcases h.hL.2 with ⟨rfl, _⟩ | ⟨g, cap, cur, rfl, _, hgg, _⟩
    · simp [ob, Value.ownBlock] at c
    · simp [ob, Value.ownBlock] at c
      subst c
      rw [h.hR] at hgg
      simp at hgg
  have hHo : H ∉ ob lv := fun c => by
    rcases h.hL.2 with ⟨rfl, _⟩ | ⟨g, cap, cur, rfl, _, hgg, _⟩
    · simp [ob, Value.ownBlock] at c
    · simp [ob, Value.ownBlock] at c
      subst c
      have := h.hH
      unfold Row at this
      rw [this] at hgg
      simp at hgg
  have hRK : R ≠ K := fun c => by have h1 := h.hR; have h2 := h.hK; unfold Row at h2; rw [c, h2] at h1; simp at h1
  have hRH : R ≠ H := fun c => by have h1 := h.hR; have h2 := h.hH; unfold Row at h2; rw [c, h2] at h1; simp at h1
  have old : ∀ k, k < w.heap.size → k ∉ ob lv → w3.heap[k]? = w.heap[k]? := fun k hk hn => (hg.grown.block k (by simp; omega) (fun c => hn (mem_ob.2 c.symm))).trans (Below.heap_alloc _ _ _ hk)
  have hs3 : w.heap.size ≤ w3.heap.size := by have := hg.grown.size; simp at this; omega
  have hnew : ∀ k ∈ ob lv', k ∈ ob lv ∨ w.heap.size ≤ k := rblk_of hg (by simp)
  have hR' : R ∉ ob lv' := fun c => by rcases hnew R c with c | c; exact hRo c; omega
  refine ⟨by rw [hE], ?_, lv', ⟨?_, ?_, ?_, ?_, ?_, h.bR, h.bK, h.bH, apS_ok h.ok v⟩, hnew⟩
  · exact ⟨(hg.grown.os).trans rfl, (hg.grown.tape).trans rfl, (hg.grown.output).trans rfl, by simp [World.setCell]; exact hs3, fun k hk hn => by
      simp only [rfp, List.mem_cons, not_or] at hn
      exact (Below.heap_setCell _ _ _ _ hn.1).trans (old k hk hn.2.2.2)⟩
  · rw [heap_set ((old R hl.1 hRo).trans h.hR)]; rfl
  · rw [apS, if_pos hE]
    have : w3.ownsRow base 3 1 lv' (s.l ++ [v]).length ((s.l ++ [v]).map (.int .i64)) := by simpa using ho
    exact own_keep this fun k hk => Below.heap_setCell _ _ _ _ (fun c => hR' (by subst c; exact hk))
  · rw [apS, if_pos hE]; exact (Below.heap_setCell _ _ _ _ (Ne.symm hRK)).trans ((old K hl.2.1 h.kl).trans h.hK)
  · rw [apS, if_pos hE]; exact (Below.heap_setCell _ _ _ _ (Ne.symm hRH)).trans ((old H hl.2.2 hHo).trans h.hH)
  · exact fun c => by rcases hnew K c with c | c; exact h.kl c; omega

set_option maxHeartbeats 1000000 in
set_option maxRecDepth 100000 in
theorem refAppend_any (w : World) (base R : Nat) (s : Sto) (lv : Value) (K H : Nat) (v : Int) (h : RSt w base R s lv K H) (hb : base ≤ w.heap.size) :
    Calls Tryz.prog 28 #[.pointer (some ⟨R, 0, none⟩), .int .i64 v] w (chPost base R s (apS s v) (apE s v) lv K H w) := by
  have HS : Hid _ := h
  obtain ⟨⟨c0, _, _⟩, hfz⟩ := h.cells
  have hlog := h.log1
  have hlen := h.ok.len
  have hval := h.ok.val
  obtain ⟨ao, cap, rfl⟩ := own_shape h.hL
  have hRl := h.lt.1
  clear h
  have keep : ∀ n, apE s v = n → n ≠ 0 → Hid (chPost base R s (apS s v) (apE s v) (.slice ao s.l.length cap) K H w (.returned (.int .i64 n)) w) := fun n hn h0 => by
    refine hid ⟨by rw [hn], Kept.refl _ _, _, ?_, fun k hk => .inl hk⟩
    rw [apS, if_neg (by rw [hn]; exact h0)]
    exact HS.out
  cases hv : isVal v with
  | false =>
    have K1 := keep 1 (by simp [apE, hv]) (by omega)
    go_enter Tryz.func28, Tryz.ntmps28
    go_wp2_with (go_at_call 39; refine (refValue_any _ _ false hv).mono ?_; rintro e w1 ⟨rfl, hw1⟩; rw [hw1]; clear hw1 w1)
    go_ret
    exact K1.out
  | true =>
    have hvb := (isVal_iff v).1 hv
    by_cases h64 : (64 : Int) ≤ s.l.length
    · have K1 := keep 2 (by simp [apE, hv]; omega) (by omega)
      go_enter Tryz.func28, Tryz.ntmps28
      go_wp2_with (go_at_call 39; refine (refValue_any _ _ true hv).mono ?_; rintro e w1 ⟨rfl, hw1⟩; rw [hw1]; clear hw1 w1)
      go_ret
      exact K1.out
    · have hsb := sum_bd s.l hval
      have hl64 : ¬ 64 ≤ s.l.length := by omega
      by_cases h3 : 5000000 < s.l.sum + v
      · have K1 := keep 3 (by simp [apE, hv, hl64, h3]) (by omega)
        go_enter Tryz.func28, Tryz.ntmps28
        go_wp2_with (first | (go_at_call 39; refine (refValue_any _ _ true hv).mono ?_; rintro e w1 ⟨rfl, hw1⟩; rw [hw1]; clear hw1 w1) | (go_at_call 66; refine (refSum_any _ s.l _ hlog hval hlen).mono ?_; rintro e w1 ⟨rfl, hw1⟩; rw [hw1]; clear hw1 w1))
        go_ret
        exact K1.out
      · have hE : apE s v = 0 := by simp [apE, hv, hl64, h3]
        have hown : w.ownsRow base 3 1 (.slice ao s.l.length cap) s.l.length (s.l.map (.int .i64)) := HS.out.hL
        obtain ⟨i0, hi, hz0, hz1, hz2⟩ := info_parts info_int
        have fin : ∀ lv' w3, Hid (w3.ownsRow base 3 1 lv' (s.l.length + 1) (s.l.map (.int .i64) ++ [.int .i64 v]) → Grew (w.alloc (.cells #[.int .i64 v] 3)) (.slice ao s.l.length cap) w3 lv' → chPost base R s (apS s v) (apE s v) (.slice ao s.l.length cap) K H w (.returned (.int .i64 0)) (w3.setCell ⟨R, 0, none⟩ lv')) := fun lv' w3 => hid fun ho hg => ap_fin HS.out ho hg hE
        have hRo : some R ≠ (Value.slice ao s.l.length cap).ownBlock := fun c => by
          rcases hown.2 with ⟨e, _⟩ | ⟨g, cap', cur, e, _, hgg, _⟩
          · rw [e] at c; simp [Value.ownBlock] at c
          · rw [e] at c
            simp [Value.ownBlock] at c
            subst c
            rw [HS.out.hR] at hgg
            simp at hgg
        clear keep
        go_enter Tryz.func28, Tryz.ntmps28
        go_wp2_with (first | (go_at_call 39; refine (refValue_any _ _ true hv).mono ?_; rintro e w1 ⟨rfl, hw1⟩; rw [hw1]; clear hw1 w1) | (go_at_call 66; refine (refSum_any _ s.l _ hlog hval hlen).mono ?_; rintro e w1 ⟨rfl, hw1⟩; rw [hw1]; clear hw1 w1) | (at_builtin; refine wpList_append_grew _ rfl _ _ 25 rfl base 3 i0 (.int .i64 0) 1 8 Tryz.underlying25 hi hz0 hz1 hz2 rfl (by decide) _ _ _ rfl (hown.alloc _) ⟨w.heap.size, 0, none⟩ 1 1 [.int .i64 v] rfl rfl (int_new w v _) (by simp [Value.oneCell']) (by unfold maxLen; omega) (by omega) (by simp; omega) ?_))
        rintro lv' w3 ho3 hg3 _
        obtain ⟨ao3, cap3, rfl⟩ := own_shape ho3
        have HF : Hid _ := (fin _ w3).out ho3 hg3
        have hb3 : w3.heap[R]? = w.heap[R]? := (hg3.grown.block R (by simp; omega) hRo).trans (Below.heap_alloc _ _ _ hRl)
        have c3 : w3.cell? ⟨R, 0, none⟩ = some (.slice ao s.l.length cap) := (World.cell?_of_block (a := ⟨R, 0, none⟩) hb3).trans c0
        have f3 : w3.frozen? ⟨R, 0, none⟩ = false := (World.frozen?_of_block (a := ⟨R, 0, none⟩) hb3).trans (hfz 0)
        clear ho3 hg3 hb3 fin
        go_wp2
        go_ret
        exact HF.out

end Go.Proofs.YtogmdaopfnmobaaGreat

/- What the document's own answer does (notaryref): the store: Set, Delete, New. -/
namespace Go.Proofs.YtogmdaopfnmobaaGreat
open Go.RowKit

/-- Two stores into the table. -/
theorem tab_fin {w : World} {base R : Nat} {s : Sto} {lv : Value} {K H : Nat} (h : RSt w base R s lv K H) (i : Nat) (o : Option Int) (hok : Sto.ok ⟨s.l, s.t.set i o⟩) :
    RSt ((w.setCell ⟨K, i, none⟩ (.int .i64 (o.getD 0))).setCell ⟨H, i, none⟩ (.bool o.isSome)) base R ⟨s.l, s.t.set i o⟩ lv K H ∧ Kept w ((w.setCell ⟨K, i, none⟩ (.int .i64 (o.getD 0))).setCell ⟨H, i, none⟩ (.bool o.isSome)) (rfp R lv K H) := by
  have hHo : H ∉ ob lv := fun c => by
    rcases h.hL.2 with ⟨rfl, _⟩ | ⟨g, cap, cur, rfl, _, hgg, _⟩
    · simp [ob, Value.ownBlock] at c
    · simp [ob, Value.ownBlock] at c
      subst c
      have := h.hH
      unfold Row at this
      rw [this] at hgg
      simp at hgg
  have hRK : R ≠ K := fun c => by have h1 := h.hR; have h2 := h.hK; unfold Row at h2; rw [c, h2] at h1; simp at h1
  have hRH : R ≠ H := fun c => by have h1 := h.hR; have h2 := h.hH; unfold Row at h2; rw [c, h2] at h1; simp at h1
  have hKH : K ≠ H := fun c => by have h1 := h.hK; have h2 := h.hH; unfold Row at h1 h2; rw [c, h2] at h1; simp at h1
  refine ⟨⟨?_, ?_, ?_, ?_, h.kl, h.bR, h.bK, h.bH, hok⟩, ?_⟩
  · exact (Below.heap_setCell _ _ _ _ hRH).trans ((Below.heap_setCell _ _ _ _ hRK).trans h.hR)
  · exact own_keep h.hL fun k hk => (Below.heap_setCell _ _ _ _ (fun c => hHo (by subst c; exact hk))).trans (Below.heap_setCell _ _ _ _ (fun c => h.kl (by subst c; exact hk)))
  · have := h.hK.set i (.int .i64 (o.getD 0))
    rw [← List.map_set, ← tv_set] at this
    exact (Below.heap_setCell _ _ _ _ hKH).trans this
  · have h2 : Row (w.setCell ⟨K, i, none⟩ (.int .i64 (o.getD 0))) H 4 ((tx s.t).map .bool) := (Below.heap_setCell _ _ _ _ (Ne.symm hKH)).trans h.hH
    have := h2.set i (.bool o.isSome)
    rw [← List.map_set, ← tx_set] at this
    exact this
  · exact ((Kept.refl w _).setCell (.inl (by simp [rfp])) _).setCell (.inl (by simp [rfp])) _

set_option maxHeartbeats 1000000 in
set_option maxRecDepth 100000 in
theorem refDelete_any (w : World) (base R : Nat) (s : Sto) (lv : Value) (K H : Nat) (k : Int) (h : RSt w base R s lv K H) :
    Calls Tryz.prog 30 #[.pointer (some ⟨R, 0, none⟩), .int .i64 k] w (chPost base R s (deS s k) (deE s k) lv K H w) := by
  have HS : Hid _ := h
  obtain ⟨⟨c0, c1, c2⟩, hfz⟩ := h.cells
  have hRl := h.lt.1
  have keep : deE s k = 4 → Hid (chPost base R s (deS s k) (deE s k) lv K H w (.returned (.int .i64 4)) w) := fun hn => by
    refine hid ⟨by rw [hn], Kept.refl _ _, _, ?_, fun k hk => .inl hk⟩
    rw [deS, if_neg (by rw [hn]; omega)]
    exact HS.out
  by_cases h0 : k < 0
  · have K1 := keep (by simp [deE]; omega)
    clear keep h
    go_enter Tryz.func30, Tryz.ntmps30
    go_wp2
    go_ret
    exact K1.out
  · by_cases h1 : 32 ≤ k
    · have K1 := keep (by simp [deE]; omega)
      clear keep h
      go_enter Tryz.func30, Tryz.ntmps30
      go_wp2
      go_ret
      exact K1.out
    · obtain ⟨i, rfl⟩ : ∃ i : Nat, k = (i : Int) := Int.eq_ofNat_of_zero_le (by omega)
      have hi : i < 32 := by omega
      have hit : i < s.t.length := by rw [h.ok.tlen]; exact hi
      have d1 := h.hK.cell i (by simp [tv]; exact hit)
      rw [tv_at s.t i hit] at d1
      have d2 := h.hH.cell i (by simp [tx]; exact hit)
      rw [tx_at s.t i hit] at d2
      have f1 := h.hK.frozen i
      have f2 := h.hH.frozen i
      have hKH : K ≠ H := fun c => by have h1 := h.hK; have h2 := h.hH; unfold Row at h1 h2; rw [c, h2] at h1; simp at h1
      cases hb : (tat s.t i).isSome with
      | false =>
        rw [hb] at d2
        have K1 := keep (by simp [deE, hb])
        clear keep h
        go_enter Tryz.func30, Tryz.ntmps30
        go_wp2
        go_ret
        exact K1.out
      | true =>
        rw [hb] at d2
        have hE : deE s i = 0 := by simp [deE, hb]; omega
        have fin : Hid (chPost base R s (deS s i) (deE s i) lv K H w (.returned (.int .i64 0)) ((w.setCell ⟨K, i, none⟩ (.int .i64 0)).setCell ⟨H, i, none⟩ (.bool false))) := by
          have hok : Sto.ok ⟨s.l, s.t.set i none⟩ := by have := deS_ok h.ok i; rw [deS, if_pos hE] at this; simpa using this
          have := tab_fin h i none hok
          refine hid ⟨by rw [hE], this.2, lv, ?_, fun k hk => .inl hk⟩
          rw [deS, if_pos hE]
          simpa using this.1
        have hRK : R ≠ K := fun c => by have h1 := h.hR; have h2 := h.hK; unfold Row at h2; rw [c, h2] at h1; simp at h1
        have q2 : (w.setCell ⟨K, i, none⟩ (.int .i64 0)).cell? ⟨R, 2, none⟩ = some (.slice (some ⟨H, 0, none⟩) 32 32) := (World.cell?_of_block (a := ⟨R, 2, none⟩) (Below.heap_setCell _ _ _ _ hRK)).trans c2
        have q3 : (w.setCell ⟨K, i, none⟩ (.int .i64 0)).cell? ⟨H, i, none⟩ = some (.bool true) := (World.cell?_of_block (a := ⟨H, i, none⟩) (Below.heap_setCell _ _ _ _ (Ne.symm hKH))).trans d2
        have q4 : (w.setCell ⟨K, i, none⟩ (.int .i64 0)).frozen? ⟨H, i, none⟩ = false := (World.frozen?_of_block (a := ⟨H, i, none⟩) (Below.heap_setCell _ _ _ _ (Ne.symm hKH))).trans f2
        clear keep h hE
        go_enter Tryz.func30, Tryz.ntmps30
        go_wp2
        go_ret
        exact fin.out

set_option maxHeartbeats 2000000 in
set_option maxRecDepth 100000 in
theorem refSet_any (w : World) (base R : Nat) (s : Sto) (lv : Value) (K H : Nat) (k v : Int) (h : RSt w base R s lv K H) :
    Calls Tryz.prog 32 #[.pointer (some ⟨R, 0, none⟩), .int .i64 k, .int .i64 v] w (chPost base R s (seS s k v) (seE s k v) lv K H w) := by
  have HS : Hid _ := h
  obtain ⟨⟨c0, c1, c2⟩, hfz⟩ := h.cells
  have hRl := h.lt.1
  have keep : ∀ n w', seE s k v = n → n ≠ 0 → Below w.heap.size w w' → Hid (chPost base R s (seS s k v) (seE s k v) lv K H w (.returned (.int .i64 n)) w') := fun n w' hn h0 hb => by
    refine hid ⟨by rw [hn], Kept.of_below hb _, _, ?_, fun k hk => .inl hk⟩
    rw [seS, if_neg (by rw [hn]; exact h0)]
    exact HS.out.below hb
  by_cases h0 : k < 0
  · have K1 := keep 4 w (by simp [seE]; omega) (by omega) (Below.refl _ _)
    clear keep h
    go_enter Tryz.func32, Tryz.ntmps32
    go_wp2
    go_ret
    exact K1.out
  · by_cases h1 : 32 ≤ k
    · have K1 := keep 4 w (by simp [seE]; omega) (by omega) (Below.refl _ _)
      clear keep h
      go_enter Tryz.func32, Tryz.ntmps32
      go_wp2
      go_ret
      exact K1.out
    · obtain ⟨i, rfl⟩ : ∃ i : Nat, k = (i : Int) := Int.eq_ofNat_of_zero_le (by omega)
      have hi : i < 32 := by omega
      have hin : (0 : Int) ≤ i ∧ (i : Int) < 32 := by omega
      cases hv : isVal v with
      | false =>
        have K1 := keep 1 w (by rw [seE, if_pos hin]; simp [hv]) (by omega) (Below.refl _ _)
        clear keep h
        go_enter Tryz.func32, Tryz.ntmps32
        go_wp2_with (go_at_call 39; refine (refValue_any _ _ false hv).mono ?_; rintro e w1 ⟨rfl, hw1⟩; rw [hw1]; clear hw1 w1)
        go_ret
        exact K1.out
      | true =>
        have hvb := (isVal_iff v).1 hv
        have hit : i < s.t.length := by rw [h.ok.tlen]; exact hi
        have d1 := h.hK.cell i (by simp [tv]; exact hit)
        rw [tv_at s.t i hit] at d1
        have d2 := h.hH.cell i (by simp [tx]; exact hit)
        rw [tx_at s.t i hit] at d2
        have f1 := h.hK.frozen i
        have f2 := h.hH.frozen i
        have hcells : Cells1 w w.heap.size (.slice (some ⟨K, 0, none⟩) 32 32) ((tv s.t).map (.int .i64)) := by
          have := h.hK.cells1 32
          simpa [tv, h.ok.tlen] using this
        have hvals := tv_val h.ok
        have hlen : (tv s.t).length ≤ 64 := by simp [tv, h.ok.tlen]
        have hsb := sum_bd _ hvals
        have hx : 0 ≤ (tat s.t i).getD 0 ∧ (tat s.t i).getD 0 ≤ 1000000 := by
          have := hvals ((tat s.t i).getD 0) (by
            have : (tat s.t i) ∈ s.t := by simp [tat, hit]
            exact List.mem_map_of_mem (f := fun o : Option Int => o.getD 0) this)
          exact this
        have hl32 : (tv s.t).length = 32 := by simp [tv, h.ok.tlen]
        have hsum : (tv s.t).sum = tsum s.t := rfl
        have HSum : Hid _ := hsum
        have hsb' : 0 ≤ tsum s.t ∧ tsum s.t ≤ 32000000 := by rw [← hsum]; omega
        have HC : Hid _ := hcells
        have HV : Hid _ := hvals
        have HLn : Hid _ := hlen
        have hu : seE s i v = if 5000000 < tsum s.t - (tat s.t i).getD 0 + v then 3 else 0 := by rw [seE, if_pos hin]; simp [hv]
        have hb0 : tat s.t i = (tat s.t i) := rfl
        generalize hY : tsum s.t = y at hu hsb' HSum
        generalize hX : (tat s.t i).getD 0 = x at d1 hx hu
        clear hsb hsum hcells hvals hlen hl32 hb0 hX hY
        have wr1 : IntKind.i64.wrap (y - x) = y - x := by rw [IntKind.wrap_i64]; omega
        have wr2 : IntKind.i64.wrap (y - x + v) = y - x + v := by rw [IntKind.wrap_i64]; omega
        by_cases h3 : 5000000 < y - x + v
        · have K1 := keep 3 w.drew (by rw [hu, if_pos h3]) (by omega) (Below.refl _ _).drew
          clear keep h hu
          go_enter Tryz.func32, Tryz.ntmps32
          go_wp2_with (go_at_call 39; refine (refValue_any _ _ true hv).mono ?_; rintro e w1 ⟨rfl, hw1⟩; rw [hw1]; clear hw1 w1)
          go_region_held3 (fun w' => w'.cell? ⟨R, 1, none⟩ = some (.slice (some ⟨K, 0, none⟩) 32 32) ∧ w'.cell? ⟨K, i, none⟩ = some (.int .i64 x)) (go_keep) (first | (go_at_call 66; refine (refSum_any _ (tv s.t) _ ?_ HV.out HLn.out).mono ?_; (first | exact HC.out | exact HC.out.below (Below.drew (Below.refl _ _))); rintro e w1 ⟨rfl, hw1⟩; rw [hw1, HSum.out]; clear hw1 w1))
          go_wp2
          go_ret
          exact K1.out
        · have hE : seE s i v = 0 := by rw [hu, if_neg h3]
          have fin : Hid (chPost base R s (seS s i v) (seE s i v) lv K H w (.returned (.int .i64 0)) ((w.drew.setCell ⟨K, i, none⟩ (.int .i64 v)).setCell ⟨H, i, none⟩ (.bool true))) := by
            have hok : Sto.ok ⟨s.l, s.t.set i (some v)⟩ := by have := seS_ok h.ok i v; rw [seS, if_pos hE] at this; simpa using this
            have hd := h.below (Below.refl w.heap.size w).drew
            have := tab_fin hd i (some v) hok
            refine hid ⟨by rw [hE], (Kept.of_below (Below.refl w.heap.size w).drew _).trans this.2 (fun x hx => .inl hx), lv, ?_, fun k hk => .inl hk⟩
            rw [seS, if_pos hE]
            simpa using this.1
          have hKH : K ≠ H := fun c => by have h1 := h.hK; have h2 := h.hH; unfold Row at h1 h2; rw [c, h2] at h1; simp at h1
          have hRK : R ≠ K := fun c => by have h1 := h.hR; have h2 := h.hK; unfold Row at h2; rw [c, h2] at h1; simp at h1
          have q2 : (w.drew.setCell ⟨K, i, none⟩ (.int .i64 v)).cell? ⟨R, 2, none⟩ = some (.slice (some ⟨H, 0, none⟩) 32 32) := (World.cell?_of_block (a := ⟨R, 2, none⟩) (Below.heap_setCell _ _ _ _ hRK)).trans c2
          have q3 : (w.drew.setCell ⟨K, i, none⟩ (.int .i64 v)).cell? ⟨H, i, none⟩ = some (.bool (tat s.t i).isSome) := (World.cell?_of_block (a := ⟨H, i, none⟩) (Below.heap_setCell _ _ _ _ (Ne.symm hKH))).trans d2
          have q4 : (w.drew.setCell ⟨K, i, none⟩ (.int .i64 v)).frozen? ⟨H, i, none⟩ = false := (World.frozen?_of_block (a := ⟨H, i, none⟩) (Below.heap_setCell _ _ _ _ (Ne.symm hKH))).trans f2
          clear keep h hu hE
          go_enter Tryz.func32, Tryz.ntmps32
          go_wp2_with (go_at_call 39; refine (refValue_any _ _ true hv).mono ?_; rintro e w1 ⟨rfl, hw1⟩; rw [hw1]; clear hw1 w1)
          go_region_held3 (fun w' => w'.cell? ⟨R, 1, none⟩ = some (.slice (some ⟨K, 0, none⟩) 32 32) ∧ w'.cell? ⟨K, i, none⟩ = some (.int .i64 x)) (go_keep) (first | (go_at_call 66; refine (refSum_any _ (tv s.t) _ ?_ HV.out HLn.out).mono ?_; (first | exact HC.out | exact HC.out.below (Below.drew (Below.refl _ _))); rintro e w1 ⟨rfl, hw1⟩; rw [hw1, HSum.out]; clear hw1 w1))
          go_wp2
          go_ret
          exact fin.out

end Go.Proofs.YtogmdaopfnmobaaGreat

/- What the document's own answer does (notaryref): the store: New, Size, Tree. -/
namespace Go.Proofs.YtogmdaopfnmobaaGreat
open Go.RowKit

def newPost (w : World) (e : Ending) (w' : World) : Prop := ∃ R K H, e = .returned (.pointer (some ⟨R, 0, none⟩)) ∧ RSt w' w.heap.size R .empty (.slice none 0 0) K H ∧ Below w.heap.size w w'

theorem new_fin {w' : World} {base R K H : Nat} (hR : w'.heap[R]? = some (.cells #[.slice none 0 0, .slice (some ⟨K, 0, none⟩) 32 32, .slice (some ⟨H, 0, none⟩) 32 32] 45 (0, 0)))
    (hK : Row w' K 3 (List.replicate 32 (.int .i64 0))) (hH : Row w' H 4 (List.replicate 32 (.bool false))) (b1 : base ≤ R) (b2 : base ≤ K) (b3 : base ≤ H) : RSt w' base R .empty (.slice none 0 0) K H :=
  ⟨hR, World.ownsRow_nil _ _ _ _, by simpa [Sto.empty, tv] using hK, by simpa [Sto.empty, tx] using hH, by simp [ob, Value.ownBlock], b1, b2, b3, Sto.empty_ok⟩

set_option maxHeartbeats 1000000 in
set_option maxRecDepth 100000 in
theorem refNew_any (w : World) : Calls Tryz.prog 26 #[] w (newPost w) := by
  obtain ⟨i0, hi, hz0, hz1, hz2⟩ := info_parts info_bool
  obtain ⟨j0, hj, hy0, hy1, hy2⟩ := info_parts info_int
  have m1 : ∀ u : World, (Instr.makeSlice 43 (.int .i64 32) (.int .i64 32)).run Tryz.prog u = .ok (.slice (some ⟨u.heap.size, 0, none⟩) 32 32) (u.alloc (.cells (List.replicate 32 (.bool false)).toArray 4)) := fun u => by
    have h := run_make (P := Tryz.prog) u 43 4 i0 (.bool false) Tryz.underlying43 hi hz0 .i64 .i64 32 32 (by omega) (Int.le_refl _) (by rw [hz2]; omega) (by omega)
    simpa [hz1, Value.cells, made_one] using h
  have m2 : ∀ u : World, (Instr.makeSlice 25 (.int .i64 32) (.int .i64 32)).run Tryz.prog u = .ok (.slice (some ⟨u.heap.size, 0, none⟩) 32 32) (u.alloc (.cells (List.replicate 32 (.int .i64 0)).toArray 3)) := fun u => by
    have h := run_make (P := Tryz.prog) u 25 3 j0 (.int .i64 0) Tryz.underlying25 hj hy0 .i64 .i64 32 32 (by omega) (Int.le_refl _) (by rw [hy2]; omega) (by omega)
    simpa [hy1, Value.cells, made_one] using h
  generalize hLb : (List.replicate 32 (Value.bool false)).toArray = Lb at m1
  generalize hLi : (List.replicate 32 (Value.int .i64 0)).toArray = Li at m2
  have HLb : Hid _ := hLb
  have HLi : Hid _ := hLi
  clear hLb hLi
  go_enter Tryz.func26, Tryz.ntmps26
  go_wp2
  go_region
  · go_wp2
    go_ret
    refine ⟨w.heap.size + 1 + 1, w.heap.size, w.heap.size + 1, rfl, new_fin (heap_one _ _ _ (by simp)) (by rw [← HLi.out]; exact heap_three w _ _ _ _ rfl) (by rw [← HLb.out]; exact heap_two _ _ _ _ (by simp)) (by omega) (by omega) (by omega), ?_⟩
    refine Below.drew ?_
    refine Below.alloc (Below.alloc ((Below.refl _ _).alloc (Nat.le_refl _) _) ?_ _) ?_ _ <;> simp <;> omega
  · go_wp2
    go_ret
    refine ⟨w.heap.size + 1 + 1, w.heap.size + 1, w.heap.size, rfl, new_fin (heap_one _ _ _ (by simp)) (by rw [← HLi.out]; exact heap_two _ _ _ _ (by simp)) (by rw [← HLb.out]; exact heap_three w _ _ _ _ rfl) (by omega) (by omega) (by omega), ?_⟩
    refine Below.drew ?_
    refine Below.alloc (Below.alloc ((Below.refl _ _).alloc (Nat.le_refl _) _) ?_ _) ?_ _ <;> simp <;> omega

set_option maxHeartbeats 1000000 in
theorem refSize_any (w : World) (base R : Nat) (s : Sto) (lv : Value) (K H : Nat) (t : Int) (h : RSt w base R s lv K H) :
    Calls Tryz.prog 136 #[.pointer (some ⟨R, 0, none⟩), .int .i64 t] w fun e w' => e = .returned (.int .i64 (if t = 0 then (s.l.length : Int) else 32)) ∧ w' = w := by
  obtain ⟨⟨c0, c1, c2⟩, hfz⟩ := h.cells
  obtain ⟨ao, cap, rfl⟩ := own_shape h.hL
  by_cases h0 : t = 0
  · subst h0
    rw [if_pos rfl]
    clear h
    go_enter Tryz.func136, Tryz.ntmps136
    go_wp2
    go_ret
    exact ⟨rfl, rfl⟩
  · rw [if_neg h0]
    have h0' : (t == 0) = false := by simp [h0]
    clear h
    go_enter Tryz.func136, Tryz.ntmps136
    go_wp2
    go_ret
    exact ⟨rfl, rfl⟩

end Go.Proofs.YtogmdaopfnmobaaGreat

