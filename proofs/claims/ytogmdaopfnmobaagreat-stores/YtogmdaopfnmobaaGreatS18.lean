/- What the document's own answer does (notaryref): LogOf, nodes. -/
import Derived.Laws.MakeOwn
import Derived.Deep.RegionHeld3
import Derived.Test.YtogmdaopfnmobaaGreatS08
import Derived.Test.YtogmdaopfnmobaaGreatS13
import Derived.Test.YtogmdaopfnmobaaGreatS12
namespace Go.Proofs.YtogmdaopfnmobaaGreat
open Go.RowKit
theorem info_bool : (Tryz.prog.info? 4).map (fun i => (i.zero, i.size, i.bytes)) = some (some (.bool false), 1, 1) := by kernel_rfl
theorem made_one (v : Value) (n : Nat) : madeCells #[v] n = (List.replicate n v).toArray := by
  apply Array.ext
  · simp [size_madeCells]
  · intro i h1 h2
    simp [madeCells, Nat.mod_one]
def Row (w : World) (g : Nat) (t : TypeId) (L : List Value) : Prop := w.heap[g]? = some (.cells L.toArray t (0, 0))
theorem Row.cell {w : World} {g : Nat} {t : TypeId} {L : List Value} (h : Row w g t L) (i : Nat) (hi : i < L.length) : w.cell? ⟨g, i, none⟩ = some L[i] := by
  rw [cell_of_row w g _ _ _ _ h]; simp [hi]
theorem Row.frozen {w : World} {g : Nat} {t : TypeId} {L : List Value} (h : Row w g t L) (i : Nat) : w.frozen? ⟨g, i, none⟩ = false := by
  unfold Row at h; simp [World.frozen?, h]
theorem Row.set {w : World} {g : Nat} {t : TypeId} {L : List Value} (h : Row w g t L) (i : Nat) (v : Value) : Row (w.setCell ⟨g, i, none⟩ v) g t (L.set i v) := by
  unfold Row at h ⊢
  have := heap_set (k := i) h v
  simpa using this
theorem Row.below {w w' : World} {B g : Nat} {t : TypeId} {L : List Value} (h : Row w g t L) (hb : Below B w w') (hg : g < B) : Row w' g t L := (hb.block g hg).trans h
theorem Row.lt {w : World} {g : Nat} {t : TypeId} {L : List Value} (h : Row w g t L) : g < w.heap.size := (Array.getElem?_eq_some_iff.1 h).1
theorem Row.cells1 {w : World} {g : Nat} {t : TypeId} {L : List Value} (h : Row w g t L) (cap : Nat) : Cells1 w w.heap.size (.slice (some ⟨g, 0, none⟩) L.length cap) L :=
  ⟨_, cap, rfl, fun i hi => ⟨g, 0, rfl, h.lt, by rw [Nat.zero_add]; exact h.cell i hi⟩⟩
theorem ret_tree1 {w : World} {g : Nat} {c0 c1 c2 : Value} {fn : Func} {R : Ending → World → Prop} {tmps : Array Value} {k : Nat} (hf : fn.results = #[.cell k 53]) (h : w.heap[g]? = some (.cells #[c0, c1, c2] 53 (0, 0)))
    (h2 : tmps[k]? = some (.pointer (some ⟨g, 0, none⟩))) (hR : R (.returned (.agg #[c0, c1, c2])) w) : bodyPost Tryz.prog fn R .ret ⟨tmps, []⟩ w := by
  have k0 : w.cell? ⟨g, 0, none⟩ = some c0 := by rw [cell_of_row w _ _ _ _ _ h]; rfl
  have k1 : w.cell? ⟨g, 1, none⟩ = some c1 := by rw [cell_of_row w _ _ _ _ _ h]; rfl
  have k2 : w.cell? ⟨g, 2, none⟩ = some c2 := by rw [cell_of_row w _ _ _ _ _ h]; rfl
  refine bodyPost_ret (v := .agg #[c0, c1, c2]) ?_ rfl hR
  simp [results, hf, go_sem, h2, k0, k1, k2]
theorem set3 {w : World} {g : Nat} {c0 c1 c2 : Value} {t : TypeId} (h : w.heap[g]? = some (.cells #[c0, c1, c2] t (0, 0))) (d0 d1 d2 : Value) :
    (((w.setCell ⟨g, 0, none⟩ d0).setCell ⟨g, 1, none⟩ d1).setCell ⟨g, 2, none⟩ d2).heap[g]? = some (.cells #[d0, d1, d2] t (0, 0)) := heap_set (k := 2) (heap_set (k := 1) (heap_set (k := 0) h _) _) _
def logPost (v : Value) (vs : List Int) (w : World) (e : Ending) (w' : World) : Prop :=
  (∃ g, e = .returned (.agg #[.bool false, v, .slice (some ⟨g, 0, none⟩) vs.length vs.length]) ∧ w.heap.size ≤ g ∧ TreeIn w' w'.heap.size v (.slice (some ⟨g, 0, none⟩) vs.length vs.length) vs (List.replicate vs.length true)) ∧ Below w.heap.size w w'
theorem fill_next (n k : Nat) (h : k < n) : (List.replicate k (Value.bool true) ++ List.replicate (n - k) (Value.bool false)).set k (.bool true) = List.replicate (k + 1) (Value.bool true) ++ List.replicate (n - (k + 1)) (Value.bool false) := by
  rw [List.set_append, if_neg (by simp)]
  simp only [List.length_replicate, Nat.sub_self]
  rw [show n - k = (n - (k + 1)) + 1 from by omega, List.replicate_succ, List.set_cons_zero, List.replicate_succ', List.append_assoc]
  rfl
set_option maxHeartbeats 1000000 in
set_option maxRecDepth 100000 in
theorem refLogOf_any (v : Value) (vs : List Int) (w : World) (hc : Cells1 w w.heap.size v (vs.map (.int .i64))) (hv : ∀ v ∈ vs, 0 ≤ v ∧ v ≤ 1000000) (hn : vs.length ≤ 64) :
    Calls Tryz.prog 14 #[v] w (logPost v vs w) := by
  have HC : Hid _ := hc
  have HV : Hid _ := hv
  obtain ⟨ao, cap, rfl, _⟩ := hc.ex
  simp only [List.length_map] at HC ⊢
  clear hc hv
  obtain ⟨i0, hi, hz0, hz1, hz2⟩ := info_parts info_bool
  have hmk : ∀ u : World, (Instr.makeSlice 43 (.int .i64 (vs.length : Int)) (.int .i64 (vs.length : Int))).run Tryz.prog u =
      .ok (.slice (some ⟨u.heap.size, 0, none⟩) vs.length vs.length) (u.alloc (.cells (List.replicate vs.length (.bool false)).toArray 4)) := fun u => by
    have h := run_make (P := Tryz.prog) u 43 4 i0 (.bool false) Tryz.underlying43 hi hz0 .i64 .i64 (vs.length : Int) (vs.length : Int) (by omega) (Int.le_refl _) (by rw [hz2]; omega) (by omega)
    have e : ((vs.length : Int)).toNat = vs.length := by omega
    rw [e] at h
    simpa [hz1, Value.cells, made_one] using h
  go_enter Tryz.func14, Tryz.ntmps14
  go_wp2
  have hR : Hid (Row ((w.alloc (.cells #[.bool false, .slice none 0 0, .slice none 0 0] 53)).alloc (.cells (List.replicate vs.length (.bool false)).toArray 4)) (w.heap.size + 1) 4 (List.replicate vs.length (.bool false))) := by
    have := heap_alloc_new (w.alloc (.cells #[.bool false, .slice none 0 0, .slice none 0 0] 53)) (.cells (List.replicate vs.length (.bool false)).toArray 4)
    rw [World.size_alloc] at this
    exact hid this
  have hG : Hid (((w.alloc (.cells #[.bool false, .slice none 0 0, .slice none 0 0] 53)).alloc (.cells (List.replicate vs.length (.bool false)).toArray 4)).heap[w.heap.size]? = some (.cells #[.bool false, .slice none 0 0, .slice none 0 0] 53 (0, 0))) := hid (by
    rw [Below.heap_alloc _ _ _ (by simp)]; exact heap_alloc_new w _)
  have hB : Hid (Below w.heap.size w ((w.alloc (.cells #[.bool false, .slice none 0 0, .slice none 0 0] 53)).alloc (.cells (List.replicate vs.length (.bool false)).toArray 4))) := hid (((Below.refl _ _).alloc (Nat.le_refl _) _).alloc (by simp) _)
  clear hmk
  go_loopw [4] (fun i wr => ∃ k : Nat, k ≤ vs.length ∧ i = .int .i64 k ∧ Hid (Row wr (w.heap.size + 1) 4 (List.replicate k (.bool true) ++ List.replicate (vs.length - k) (.bool false)) ∧ wr.heap[w.heap.size]? = some (.cells #[.bool false, .slice none 0 0, .slice none 0 0] 53 (0, 0)) ∧ Below w.heap.size w wr)) (fun i _ => vs.length - (intOf i).toNat)
  case atStart => exact ⟨0, Nat.zero_le _, rfl, hid ⟨by simpa using hR.out, hG.out, hB.out⟩⟩
  case round =>
    clear hR hG hB
    obtain ⟨k, hk, rfl, HR⟩ := hrel
    by_cases hlt : k < vs.length
    · have c1 := HR.out.1.cell k (by simp; omega)
      have f1 := HR.out.1.frozen k
      have i1 : (k : Int) < vs.length := by omega
      go_wp2
      go_roundw
      case rel =>
        refine ⟨k + 1, by omega, by go_num, hid ⟨?_, ?_, ?_⟩⟩
        · rw [← fill_next _ _ hlt]; exact HR.out.1.set k _
        · exact (Below.heap_setCell _ _ _ _ (by simp)).trans HR.out.2.1
        · exact HR.out.2.2.setCell (by simp) _
      case measure => simp [intOf]; omega
    · have hk' : k = vs.length := by omega
      subst hk'
      have hg := HR.out.2.1
      have c0 : wr.cell? ⟨w.heap.size, 0, none⟩ = some (.bool false) := by rw [cell_of_row wr _ _ _ _ _ hg]; rfl
      have c1 : wr.cell? ⟨w.heap.size, 1, none⟩ = some (.slice none 0 0) := by rw [cell_of_row wr _ _ _ _ _ hg]; rfl
      have c2 : wr.cell? ⟨w.heap.size, 2, none⟩ = some (.slice none 0 0) := by rw [cell_of_row wr _ _ _ _ _ hg]; rfl
      have ff : ∀ o, wr.frozen? ⟨w.heap.size, o, none⟩ = false := fun o => by simp [World.frozen?, hg]
      clear hg
      go_wp2
      refine ret_tree1 Tryz.results14 (set3 HR.out.2.1 _ _ _) rfl ⟨⟨_, rfl, by omega, ?_⟩, ?_⟩
      · have hb : Below w.heap.size w (((wr.setCell ⟨w.heap.size, 0, none⟩ (.bool false)).setCell ⟨w.heap.size, 1, none⟩ (.slice ao vs.length cap)).setCell ⟨w.heap.size, 2, none⟩ (.slice (some ⟨w.heap.size + 1, 0, none⟩) vs.length vs.length)) := by
          repeat (refine Below.setCell ?_ (by simp) _)
          exact HR.out.2.2
        refine ⟨(HC.out.below hb).mono hb.size, ?_, by simp, hn, HV.out⟩
        have hrow : Row (((wr.setCell ⟨w.heap.size, 0, none⟩ (.bool false)).setCell ⟨w.heap.size, 1, none⟩ (.slice ao vs.length cap)).setCell ⟨w.heap.size, 2, none⟩ (.slice (some ⟨w.heap.size + 1, 0, none⟩) vs.length vs.length)) (w.heap.size + 1) 4 ((List.replicate vs.length true).map .bool) := by
          unfold Row
          repeat (refine (Below.heap_setCell _ _ _ _ (by simp)).trans ?_)
          have := HR.out.1
          unfold Row at this
          rw [this]
          simp
        have := hrow.cells1 vs.length
        simpa using this
      · repeat (refine Below.setCell ?_ (by simp) _)
        exact HR.out.2.2
end Go.Proofs.YtogmdaopfnmobaaGreat

/- What the document's own answer does (notaryref): nodes. -/
namespace Go.Proofs.YtogmdaopfnmobaaGreat
open Go.RowKit
theorem spRow_get (l : List Sp) : ∀ (i j : Nat) (hi : i < l.length) (_ : j < 3), (spRow l)[i * 3 + j]? = (l[i]).cells[j]? := by
  induction l with
  | nil => intro i j hi; simp at hi
  | cons d r ih =>
    intro i j hi hj
    have hd : d.cells.length = 3 := rfl
    cases i with
    | zero =>
      simp only [spRow, List.flatMap_cons, Nat.zero_mul, Nat.zero_add, List.getElem_cons_zero]
      rw [List.getElem?_append_left (by omega)]
    | succ i =>
      simp only [spRow, List.flatMap_cons, List.getElem_cons_succ]
      rw [List.getElem?_append_right (by omega), hd, show (i + 1) * 3 + j - 3 = i * 3 + j from by omega]
      exact ih i j (by simpa using hi) hj
theorem span_cells {w : World} {base g cap n : Nat} {l : List Sp} (h : w.ownsRow base 188 3 (.slice (some ⟨g, 0, none⟩) n cap) n (spRow l)) (k : Nat) (hk : k < l.length) (p : Sp) (hp : p = l[k]) :
    w.cell? ⟨g, k * 3, none⟩ = some (.int .i64 p.a) ∧ w.cell? ⟨g, k * 3 + 1, none⟩ = some (.int .i64 p.b) ∧ w.cell? ⟨g, k * 3 + 2, none⟩ = some (.bool p.i) := by
  subst hp
  have hc := h.cells (g := g) rfl
  have f : ∀ j u, j < 3 → (l[k]).cells[j]? = some u → w.cell? ⟨g, k * 3 + j, none⟩ = some u := fun j u hj hu => by
    have := hc (k * 3 + j) u (by rw [spRow_get l k j hk hj]; exact hu)
    rw [Addr.add_mid, Nat.zero_add] at this
    exact this
  exact ⟨f 0 _ (by omega) rfl, f 1 _ (by omega) rfl, f 2 _ (by omega) rfl⟩
def nodesPost (l : List Nd) (w : World) (e : Ending) (w' : World) : Prop := ∃ ao c, e = .returned (.slice ao l.length c) ∧ w'.ownsRow w.heap.size 51 6 (.slice ao l.length c) l.length (l.flatMap Nd.cells) ∧ Below w.heap.size w w'
set_option maxHeartbeats 2000000 in
set_option maxRecDepth 100000 in
theorem refNodes_any (tb : Bool) (vv hv : Value) (vs : List Int) (hs : List Bool) (l : List Sp) (base g cap : Nat) (w : World) (hT : TreeIn w w.heap.size vv hv vs hs) (hc : w.ownsRow base 188 3 (.slice (some ⟨g, 0, none⟩) l.length cap) l.length (spRow l))
    (hl : ∀ p ∈ l, p.b ≤ vs.length) (hn : l.length ≤ 100) :
    Calls Tryz.prog 135 #[.agg #[.bool tb, vv, hv], .slice (some ⟨g, 0, none⟩) l.length cap] w (nodesPost (cn (lf tb vs hs) l) w) := by
  obtain ⟨i0, hi, hz0, hz1, hz2⟩ := info_parts info_node
  have HT : Hid _ := hT
  have HC : Hid (w.ownsRow base 188 3 (.slice (some ⟨g, 0, none⟩) l.length cap) l.length (spRow l)) := hc
  have hg := (own_in hc g (mem_ob.2 rfl)).2
  obtain ⟨a1, p1, rfl, _⟩ := hT.hv1.ex
  obtain ⟨a2, p2, rfl, _⟩ := hT.hv2.ex
  simp only [List.length_map] at HT ⊢
  clear hT hc
  have HL : Hid _ := hl
  clear hl
  go_enter Tryz.func135, Tryz.ntmps135
  go_wp2
  obtain ⟨W0, hW0⟩ : ∃ W0, W0 = w.alloc (.cells #[.bool tb, .slice a1 vs.length p1, .slice a2 hs.length p2] 53) := ⟨_, rfl⟩
  have hb0 : Hid (W0.heap[w.heap.size]? = some (.cells #[.bool tb, .slice a1 vs.length p1, .slice a2 hs.length p2] 53 (0, 0))) := hid (by rw [hW0]; exact heap_alloc_new w _)
  have hB0 : Hid (Below w.heap.size w W0) := hid (by rw [hW0]; exact (Below.refl _ _).alloc (Nat.le_refl _) _)
  have hz : W0.heap.size = w.heap.size + 1 := by rw [hW0]; simp
  have HZ : Hid _ := hz
  rw [← hW0]
  clear hW0 hz
  go_loopw [5, 6] (fun v i wr => ∃ (k : Nat) (ao : Option Addr) (c : Nat), k ≤ l.length ∧ i = .int .i64 k ∧ v = .slice ao k c ∧ Hid (wr.ownsRow (w.heap.size + 1) 51 6 (.slice ao k c) k ((cn (lf tb vs hs) (l.take k)).flatMap Nd.cells) ∧ Below (w.heap.size + 1) W0 wr)) (fun _ i _ => l.length - (intOf i).toNat)
  case atStart => exact ⟨0, none, 0, Nat.zero_le _, rfl, rfl, hid ⟨World.ownsRow_nil _ _ _ _, Below.refl _ _⟩⟩
  case round =>
    obtain ⟨k, ao, c, hk, rfl, rfl, HR⟩ := hrel
    obtain ⟨hown, hbw⟩ := HR.out
    have hB : Below w.heap.size w wr := hB0.out.trans (hbw.mono (by omega))
    by_cases hlt : k < l.length
    · obtain ⟨p, hp⟩ : ∃ p, p = l[k] := ⟨_, rfl⟩
      have hrow : wr.heap[w.heap.size]? = some (.cells #[.bool tb, .slice a1 vs.length p1, .slice a2 hs.length p2] 53 (0, 0)) := (hbw.block _ (by omega)).trans hb0.out
      have c0 : wr.cell? ⟨w.heap.size, 0, none⟩ = some (.bool tb) := by rw [cell_of_row wr _ _ _ _ _ hrow]; rfl
      have c1 : wr.cell? ⟨w.heap.size, 1, none⟩ = some (.slice a1 vs.length p1) := by rw [cell_of_row wr _ _ _ _ _ hrow]; rfl
      have c2 : wr.cell? ⟨w.heap.size, 2, none⟩ = some (.slice a2 hs.length p2) := by rw [cell_of_row wr _ _ _ _ _ hrow]; rfl
      obtain ⟨d0, d1, _⟩ := span_cells (own_keep HC.out fun j hj => hB.block j (own_in HC.out j hj).2) k hlt p hp
      have hpb : p.b ≤ vs.length := HL.out p (by rw [hp]; exact List.getElem_mem hlt)
      have HN : Hid _ := cn_next (lf tb vs hs) l k hlt p hp
      have i1 : (k : Int) < l.length := by omega
      have hsz : w.heap.size < wr.heap.size := by have := hbw.size; have := HZ.out; omega
      have hgz : g < wr.heap.size := by omega
      have HP : ∀ w', Hid (TreeIn w' w'.heap.size (.slice a1 vs.length p1) (.slice a2 hs.length p2) vs hs → Calls Tryz.prog 46 #[.agg #[.bool tb, .slice a1 vs.length p1, .slice a2 hs.length p2], .int .i64 p.a, .int .i64 p.b] w' _) := fun w' hT' => refPart_any tb _ _ vs hs p.b p.a p.b w' (by omega) hpb hT'
      have HTr : ∀ w', Hid (Below wr.heap.size wr w' → TreeIn w' w'.heap.size (.slice a1 vs.length p1) (.slice a2 hs.length p2) vs hs) := fun w' hb' => ((HT.out.below hB).below (hb'.mono (by have := hB.size; omega))).mono (by have := hB.size; have := hb'.size; omega)
      generalize tr (lf tb vs hs) p.a p.b = d at HP HN
      have HP' : Hid _ := hp
      have Hown : Hid (wr.ownsRow (w.heap.size + 1) 51 6 (.slice ao k c) k ((cn (lf tb vs hs) (l.take k)).flatMap Nd.cells)) := hown
      have Hbw : Hid _ := hbw
      clear hp hrow hown hbw HR hpb
      have KS : ∀ w', Below wr.heap.size wr w' → w'.cell? ⟨w.heap.size, 0, none⟩ = some (.bool tb) ∧ w'.cell? ⟨w.heap.size, 1, none⟩ = some (.slice a1 vs.length p1) ∧ w'.cell? ⟨w.heap.size, 2, none⟩ = some (.slice a2 hs.length p2) ∧ w'.cell? ⟨g, k * 3, none⟩ = some (.int .i64 p.a) ∧ w'.cell? ⟨g, k * 3 + 1, none⟩ = some (.int .i64 p.b) := fun w' hB1 => ⟨(hB1.cell (p := ⟨w.heap.size, 0, none⟩) hsz).trans c0, (hB1.cell (p := ⟨w.heap.size, 1, none⟩) hsz).trans c1, (hB1.cell (p := ⟨w.heap.size, 2, none⟩) hsz).trans c2, (hB1.cell (p := ⟨g, k * 3, none⟩) hgz).trans d0, (hB1.cell (p := ⟨g, k * 3 + 1, none⟩) hgz).trans d1⟩
      go_wp2
      go_region_held3 (fun w' => w'.cell? ⟨w.heap.size, 0, none⟩ = some (.bool tb) ∧ w'.cell? ⟨w.heap.size, 1, none⟩ = some (.slice a1 vs.length p1) ∧ w'.cell? ⟨w.heap.size, 2, none⟩ = some (.slice a2 hs.length p2) ∧ w'.cell? ⟨g, k * 3, none⟩ = some (.int .i64 p.a) ∧ w'.cell? ⟨g, k * 3 + 1, none⟩ = some (.int .i64 p.b)) (first | exact KS _ (by (repeat (first | (with_reducible exact hB1) | (with_reducible exact Below.refl _ _) | (with_reducible apply Below.drew) | (with_reducible refine Below.setCell ?_ (by simp) _) | (with_reducible refine Below.alloc ?_ (by first | exact hB1.size | simp) _)))) | go_keep) (first | (go_at_call 46; refine ((HP _).out ((HTr _).out ?_)).mono ?_; (repeat (first | (with_reducible exact Below.refl _ _) | (with_reducible apply Below.drew) | (with_reducible refine Below.alloc ?_ (by simp) _))); rintro e w1 ⟨rfl, hb1⟩; rw [ndV]; have hc1 := oldc hb1; have hf1 := oldf hb1; have hzz := hb1.size; have hB1 : Below wr.heap.size wr w1 := Below.trans (by (repeat (first | (with_reducible exact Below.refl _ _) | (with_reducible apply Below.drew) | (with_reducible refine Below.alloc ?_ (by simp) _)))) (hb1.mono (by simp))))
      · have hS : Six (w1.alloc (.cells #[.int .i64 d.c, .int .i64 d.s, .int .i64 d.m, .int .i64 d.x, .int .u8 (d.h.toNat : Int), .int .u8 (d.g.toNat : Int)] 51)) w1.heap.size (.int .i64 d.c) (.int .i64 d.s) (.int .i64 d.m) (.int .i64 d.x) (.int .u8 (d.h.toNat : Int)) (.int .u8 (d.g.toNat : Int)) := Six.new w1 _ _ _ _ _ _
        have hBW : Below wr.heap.size wr (w1.alloc (.cells #[.int .i64 d.c, .int .i64 d.s, .int .i64 d.m, .int .i64 d.x, .int .u8 (d.h.toNat : Int), .int .u8 (d.g.toNat : Int)] 51)) := by
          (repeat (first | (with_reducible exact hB1) | (with_reducible refine Below.setCell ?_ (by simp) _) | (with_reducible refine Below.alloc ?_ hB1.size _)))
        generalize w1.alloc (.cells #[.int .i64 d.c, .int .i64 d.s, .int .i64 d.m, .int .i64 d.x, .int .u8 (d.h.toNat : Int), .int .u8 (d.g.toNat : Int)] 51) = W2 at hS hBW ⊢
        clear c0 c1 c2 d0 d1 KS hc1 hf1 hb1 hB1 HP HTr hzz
        obtain ⟨k0, k1, k2, k3, k4, k5⟩ := hS.cells
        have hown2 : W2.ownsRow (w.heap.size + 1) 51 6 (.slice ao k c) k ((cn (lf tb vs hs) (l.take k)).flatMap Nd.cells) := own_keep Hown.out fun j hj => hBW.block j (own_in Hown.out j hj).2
        have hbw2 : Below (w.heap.size + 1) W0 W2 := Hbw.out.trans (hBW.mono (by omega))
        have hz2' : w.heap.size + 1 ≤ W2.heap.size := by have := hBW.size; omega
        have fin : ∀ v' w3, Hid (w3.ownsRow (w.heap.size + 1) 51 6 v' (k + 1) ((cn (lf tb vs hs) (l.take k)).flatMap Nd.cells ++ d.cells) → Grew (W2.alloc (.cells d.cells.toArray 51)) (.slice ao k c) w3 v' → w3.ownsRow (w.heap.size + 1) 51 6 v' (k + 1) ((cn (lf tb vs hs) (l.take (k + 1))).flatMap Nd.cells) ∧ Below (w.heap.size + 1) W0 w3) := fun v' w3 ho hg => ⟨by rw [HN.out]; simpa using ho, (hbw2.alloc hz2' _).grown hg.grown (by simp; omega) (fun j hj => (hown2.lt j hj).1)⟩
        clear hS hBW Hown Hbw hbw2
        go_wp2_with (at_builtin; refine wpList_append_grew _ rfl _ _ 72 rfl (w.heap.size + 1) 51 i0 (.agg #[.int .i64 0, .int .i64 0, .int .i64 0, .int .i64 0, .int .u8 0, .int .u8 0]) 6 40 Tryz.underlying72 hi hz0 hz1 hz2 rfl (by decide) _ _ _ rfl (hown2.alloc _) ⟨W2.heap.size, 0, none⟩ 1 1 d.cells rfl rfl (node_new W2 d _) (node_one d) (by unfold maxLen; omega) (by omega) (by simp; omega) ?_)
        rintro v' w3 ho3 hg3 _
        have HF := (fin v' w3).out ho3 hg3
        obtain ⟨ao', cap', rfl⟩ := own_shape ho3
        have HF' : Hid _ := HF
        clear ho3 hg3 HF fin hown2 k0 k1 k2 k3 k4 k5
        go_wp2
        go_roundw
        case rel => exact ⟨k + 1, ao', cap', by omega, by go_num, rfl, HF'⟩
        case measure => simp [intOf]; omega
      · have hS : Six ((((((w1.setCell ⟨wr.heap.size, 0, none⟩ (.int .i64 d.c)).setCell ⟨wr.heap.size, 1, none⟩ (.int .i64 d.s)).setCell ⟨wr.heap.size, 2, none⟩ (.int .i64 d.m)).setCell ⟨wr.heap.size, 3, none⟩ (.int .i64 d.x)).setCell ⟨wr.heap.size, 4, none⟩ (.int .u8 (d.h.toNat : Int))).setCell ⟨wr.heap.size, 5, none⟩ (.int .u8 (d.g.toNat : Int))) wr.heap.size (.int .i64 d.c) (.int .i64 d.s) (.int .i64 d.m) (.int .i64 d.x) (.int .u8 (d.h.toNat : Int)) (.int .u8 (d.g.toNat : Int)) := ((Six.at wr.drew wr.heap.size rfl _ _ _ _ _ _).below hb1 (by simp)).set _ _ _ _ _ _
        have hBW : Below wr.heap.size wr ((((((w1.setCell ⟨wr.heap.size, 0, none⟩ (.int .i64 d.c)).setCell ⟨wr.heap.size, 1, none⟩ (.int .i64 d.s)).setCell ⟨wr.heap.size, 2, none⟩ (.int .i64 d.m)).setCell ⟨wr.heap.size, 3, none⟩ (.int .i64 d.x)).setCell ⟨wr.heap.size, 4, none⟩ (.int .u8 (d.h.toNat : Int))).setCell ⟨wr.heap.size, 5, none⟩ (.int .u8 (d.g.toNat : Int))) := by
          (repeat (first | (with_reducible exact hB1) | (with_reducible refine Below.setCell ?_ (by simp) _) | (with_reducible refine Below.alloc ?_ hB1.size _)))
        generalize (((((w1.setCell ⟨wr.heap.size, 0, none⟩ (.int .i64 d.c)).setCell ⟨wr.heap.size, 1, none⟩ (.int .i64 d.s)).setCell ⟨wr.heap.size, 2, none⟩ (.int .i64 d.m)).setCell ⟨wr.heap.size, 3, none⟩ (.int .i64 d.x)).setCell ⟨wr.heap.size, 4, none⟩ (.int .u8 (d.h.toNat : Int))).setCell ⟨wr.heap.size, 5, none⟩ (.int .u8 (d.g.toNat : Int)) = W2 at hS hBW ⊢
        clear c0 c1 c2 d0 d1 KS hc1 hf1 hb1 hB1 HP HTr hzz
        obtain ⟨k0, k1, k2, k3, k4, k5⟩ := hS.cells
        have hown2 : W2.ownsRow (w.heap.size + 1) 51 6 (.slice ao k c) k ((cn (lf tb vs hs) (l.take k)).flatMap Nd.cells) := own_keep Hown.out fun j hj => hBW.block j (own_in Hown.out j hj).2
        have hbw2 : Below (w.heap.size + 1) W0 W2 := Hbw.out.trans (hBW.mono (by omega))
        have hz2' : w.heap.size + 1 ≤ W2.heap.size := by have := hBW.size; omega
        have fin : ∀ v' w3, Hid (w3.ownsRow (w.heap.size + 1) 51 6 v' (k + 1) ((cn (lf tb vs hs) (l.take k)).flatMap Nd.cells ++ d.cells) → Grew (W2.alloc (.cells d.cells.toArray 51)) (.slice ao k c) w3 v' → w3.ownsRow (w.heap.size + 1) 51 6 v' (k + 1) ((cn (lf tb vs hs) (l.take (k + 1))).flatMap Nd.cells) ∧ Below (w.heap.size + 1) W0 w3) := fun v' w3 ho hg => ⟨by rw [HN.out]; simpa using ho, (hbw2.alloc hz2' _).grown hg.grown (by simp; omega) (fun j hj => (hown2.lt j hj).1)⟩
        clear hS hBW Hown Hbw hbw2
        go_wp2_with (at_builtin; refine wpList_append_grew _ rfl _ _ 72 rfl (w.heap.size + 1) 51 i0 (.agg #[.int .i64 0, .int .i64 0, .int .i64 0, .int .i64 0, .int .u8 0, .int .u8 0]) 6 40 Tryz.underlying72 hi hz0 hz1 hz2 rfl (by decide) _ _ _ rfl (hown2.alloc _) ⟨W2.heap.size, 0, none⟩ 1 1 d.cells rfl rfl (node_new W2 d _) (node_one d) (by unfold maxLen; omega) (by omega) (by simp; omega) ?_)
        rintro v' w3 ho3 hg3 _
        have HF := (fin v' w3).out ho3 hg3
        obtain ⟨ao', cap', rfl⟩ := own_shape ho3
        have HF' : Hid _ := HF
        clear ho3 hg3 HF fin hown2 k0 k1 k2 k3 k4 k5
        go_wp2
        go_roundw
        case rel => exact ⟨k + 1, ao', cap', by omega, by go_num, rfl, HF'⟩
        case measure => simp [intOf]; omega
    · have hk' : k = l.length := by omega
      subst hk'
      have HF : Hid (nodesPost (cn (lf tb vs hs) l) w (.returned (.slice ao l.length c)) wr) := hid (by
        refine ⟨ao, c, by rw [cn_len], ?_, hB⟩
        have := own_mono hown (Nat.le_succ w.heap.size)
        rw [List.take_length] at this
        rw [cn_len]
        exact this)
      clear hown hbw hB HR
      go_wp2
      go_ret
      exact HF.out
end Go.Proofs.YtogmdaopfnmobaaGreat

/- What the document's own answer does (notaryref): the store: New, Append. -/
namespace Go.Proofs.YtogmdaopfnmobaaGreat
open Go.RowKit
structure RSt (w : World) (base R : Nat) (s : Sto) (lv : Value) (K H : Nat) : Prop where
  hR : w.heap[R]? = some (.cells #[lv, .slice (some ⟨K, 0, none⟩) 32 32, .slice (some ⟨H, 0, none⟩) 32 32] 45 (0, 0))
  hL : w.ownsRow base 3 1 lv s.l.length (s.l.map (.int .i64))
  hK : Row w K 3 ((tv s.t).map (.int .i64))
  hH : Row w H 4 ((tx s.t).map .bool)
  kl : K ∉ ob lv
  bR : base ≤ R
  bK : base ≤ K
  bH : base ≤ H
  ok : s.ok
def rfp (R : Nat) (lv : Value) (K H : Nat) : List Nat := R :: K :: H :: ob lv
theorem RSt.cells {w : World} {base R : Nat} {s : Sto} {lv : Value} {K H : Nat} (h : RSt w base R s lv K H) : (w.cell? ⟨R, 0, none⟩ = some lv ∧ w.cell? ⟨R, 1, none⟩ = some (.slice (some ⟨K, 0, none⟩) 32 32) ∧ w.cell? ⟨R, 2, none⟩ = some (.slice (some ⟨H, 0, none⟩) 32 32)) ∧ ∀ o, w.frozen? ⟨R, o, none⟩ = false := by
  have hR := h.hR
  refine ⟨⟨?_, ?_, ?_⟩, fun o => by simp [World.frozen?, hR]⟩ <;> rw [cell_of_row w R _ _ _ _ hR] <;> rfl
theorem RSt.lt {w : World} {base R : Nat} {s : Sto} {lv : Value} {K H : Nat} (h : RSt w base R s lv K H) : R < w.heap.size ∧ K < w.heap.size ∧ H < w.heap.size := ⟨(Array.getElem?_eq_some_iff.1 h.hR).1, h.hK.lt, h.hH.lt⟩
theorem RSt.frame {w w' : World} {base R : Nat} {s : Sto} {lv : Value} {K H : Nat} (h : RSt w base R s lv K H) (hf : ∀ k ∈ rfp R lv K H, w'.heap[k]? = w.heap[k]?) : RSt w' base R s lv K H :=
  ⟨(hf R (by simp [rfp])).trans h.hR, own_keep h.hL fun k hk => hf k (by simp [rfp, hk]), (hf K (by simp [rfp])).trans h.hK, (hf H (by simp [rfp])).trans h.hH, h.kl, h.bR, h.bK, h.bH, h.ok⟩
theorem RSt.fp {w : World} {base R : Nat} {s : Sto} {lv : Value} {K H : Nat} (h : RSt w base R s lv K H) : ∀ k ∈ rfp R lv K H, base ≤ k ∧ k < w.heap.size := by
  intro k hk
  simp only [rfp, List.mem_cons] at hk
  obtain ⟨a, b, c⟩ := h.lt
  rcases hk with rfl | rfl | rfl | hk
  · exact ⟨h.bR, a⟩
  · exact ⟨h.bK, b⟩
  · exact ⟨h.bH, c⟩
  · exact own_in h.hL k hk
theorem RSt.below {w w' : World} {base R : Nat} {s : Sto} {lv : Value} {K H : Nat} (h : RSt w base R s lv K H) (hb : Below w.heap.size w w') : RSt w' base R s lv K H := h.frame fun k hk => hb.block k (h.fp k hk).2
theorem RSt.log1 {w : World} {base R : Nat} {s : Sto} {lv : Value} {K H : Nat} (h : RSt w base R s lv K H) : Cells1 w w.heap.size lv (s.l.map (.int .i64)) := by
  obtain ⟨ao, cap, rfl⟩ := own_shape h.hL
  refine ⟨ao, cap, by simp, fun i hi => ?_⟩
  rcases h.hL.2 with ⟨e, h0⟩ | ⟨g, cap', cur, e, _, hg, _⟩
  · simp at hi; omega
  · simp only [Value.slice.injEq] at e
    obtain ⟨rfl, _, rfl⟩ := e
    refine ⟨g, 0, rfl, (Array.getElem?_eq_some_iff.1 hg).1, ?_⟩
    have := h.hL.cells (g := g) rfl i _ (List.getElem?_eq_getElem hi)
    rw [Addr.add_mid] at this
    exact this
def chPost (base R : Nat) (_s s' : Sto) (n : Int) (lv : Value) (K H : Nat) (w : World) (e : Ending) (w' : World) : Prop :=
  e = .returned (.int .i64 n) ∧ Kept w w' (rfp R lv K H) ∧ ∃ lv', RSt w' base R s' lv' K H ∧ ∀ k ∈ ob lv', k ∈ ob lv ∨ w.heap.size ≤ k
theorem rblock_new (w : World) (C : Array Value) (t : TypeId) : ∀ j u, C.toList[j]? = some u → (w.alloc (.cells C t)).cell? ((⟨w.heap.size, 0, none⟩ : Addr).add j) = some u := by
  intro j u hj
  have e1 : (⟨w.heap.size, 0, none⟩ : Addr).add j = ⟨w.heap.size, j, none⟩ := by unfold Addr.add; split <;> simp_all
  rw [e1, cell_of_row _ _ j _ _ _ (heap_alloc_new w _)]
  simpa using hj
theorem rblk_of {W w' : World} {v x : Value} {N : Nat} (h : Grew W v w' x) (hN : N ≤ W.heap.size) : ∀ j ∈ ob x, j ∈ ob v ∨ N ≤ j := fun j hj => by
  rcases h.blk with e | ⟨k, e, hk⟩
  · left; rw [mem_ob, ← e]; exact mem_ob.1 hj
  · right; rw [mem_ob, e] at hj; simp at hj; omega
theorem int_new (w : World) (v : Int) (e : TypeId) : ∀ j u, [Value.int .i64 v][j]? = some u → (w.alloc (.cells #[.int .i64 v] e)).cell? ((⟨w.heap.size, 0, none⟩ : Addr).add j) = some u := by
  intro j u hj
  have := rblock_new w #[.int .i64 v] e j u hj
  exact this
theorem ap_fin {w w3 : World} {base R : Nat} {s : Sto} {lv lv' : Value} {K H : Nat} {v : Int} {o : Obj} (h : RSt w base R s lv K H) (ho : w3.ownsRow base 3 1 lv' (s.l.length + 1) (s.l.map (.int .i64) ++ [.int .i64 v])) (hg : Grew (w.alloc o) lv w3 lv') (hE : apE s v = 0) :
    chPost base R s (apS s v) (apE s v) lv K H w (.returned (.int .i64 0)) (w3.setCell ⟨R, 0, none⟩ lv') := by
  have hl := h.lt
  have hRo : R ∉ ob lv := fun c => by
    rcases h.hL.2 with ⟨rfl, _⟩ | ⟨g, cap, cur, rfl, _, hgg, _⟩
    · simp [ob, Value.ownBlock] at c
    · simp [ob, Value.ownBlock] at c
      subst c
      rw [h.hR] at hgg
      simp at hgg
  have hHo : H ∉ ob lv := fun c => by
    rcases h.hL.2 with ⟨rfl, _⟩ | ⟨g, cap, cur, rfl, _, hgg, _⟩
    · simp [ob, Value.ownBlock] at c
    · simp [ob, Value.ownBlock] at c
      subst c
      have := h.hH
      unfold Row at this
      rw [this] at hgg
      simp at hgg
  have hRK : R ≠ K := fun c => by have h1 := h.hR; have h2 := h.hK; unfold Row at h2; rw [c, h2] at h1; simp at h1
  have hRH : R ≠ H := fun c => by have h1 := h.hR; have h2 := h.hH; unfold Row at h2; rw [c, h2] at h1; simp at h1
  have old : ∀ k, k < w.heap.size → k ∉ ob lv → w3.heap[k]? = w.heap[k]? := fun k hk hn => (hg.grown.block k (by simp; omega) (fun c => hn (mem_ob.2 c.symm))).trans (Below.heap_alloc _ _ _ hk)
  have hs3 : w.heap.size ≤ w3.heap.size := by have := hg.grown.size; simp at this; omega
  have hnew : ∀ k ∈ ob lv', k ∈ ob lv ∨ w.heap.size ≤ k := rblk_of hg (by simp)
  have hR' : R ∉ ob lv' := fun c => by rcases hnew R c with c | c; exact hRo c; omega
  refine ⟨by rw [hE], ?_, lv', ⟨?_, ?_, ?_, ?_, ?_, h.bR, h.bK, h.bH, apS_ok h.ok v⟩, hnew⟩
  · exact ⟨(hg.grown.os).trans rfl, (hg.grown.tape).trans rfl, (hg.grown.output).trans rfl, by simp [World.setCell]; exact hs3, fun k hk hn => by
      simp only [rfp, List.mem_cons, not_or] at hn
      exact (Below.heap_setCell _ _ _ _ hn.1).trans (old k hk hn.2.2.2)⟩
  · rw [heap_set ((old R hl.1 hRo).trans h.hR)]; rfl
  · rw [apS, if_pos hE]
    have : w3.ownsRow base 3 1 lv' (s.l ++ [v]).length ((s.l ++ [v]).map (.int .i64)) := by simpa using ho
    exact own_keep this fun k hk => Below.heap_setCell _ _ _ _ (fun c => hR' (by subst c; exact hk))
  · rw [apS, if_pos hE]; exact (Below.heap_setCell _ _ _ _ (Ne.symm hRK)).trans ((old K hl.2.1 h.kl).trans h.hK)
  · rw [apS, if_pos hE]; exact (Below.heap_setCell _ _ _ _ (Ne.symm hRH)).trans ((old H hl.2.2 hHo).trans h.hH)
  · exact fun c => by rcases hnew K c with c | c; exact h.kl c; omega
set_option maxHeartbeats 1000000 in
set_option maxRecDepth 100000 in
theorem refAppend_any (w : World) (base R : Nat) (s : Sto) (lv : Value) (K H : Nat) (v : Int) (h : RSt w base R s lv K H) (hb : base ≤ w.heap.size) :
    Calls Tryz.prog 28 #[.pointer (some ⟨R, 0, none⟩), .int .i64 v] w (chPost base R s (apS s v) (apE s v) lv K H w) := by
  have HS : Hid _ := h
  obtain ⟨⟨c0, _, _⟩, hfz⟩ := h.cells
  have hlog := h.log1
  have hlen := h.ok.len
  have hval := h.ok.val
  obtain ⟨ao, cap, rfl⟩ := own_shape h.hL
  have hRl := h.lt.1
  clear h
  have keep : ∀ n, apE s v = n → n ≠ 0 → Hid (chPost base R s (apS s v) (apE s v) (.slice ao s.l.length cap) K H w (.returned (.int .i64 n)) w) := fun n hn h0 => by
    refine hid ⟨by rw [hn], Kept.refl _ _, _, ?_, fun k hk => .inl hk⟩
    rw [apS, if_neg (by rw [hn]; exact h0)]
    exact HS.out
  cases hv : isVal v with
  | false =>
    have K1 := keep 1 (by simp [apE, hv]) (by omega)
    go_enter Tryz.func28, Tryz.ntmps28
    go_wp2_with (go_at_call 39; refine (refValue_any _ _ false hv).mono ?_; rintro e w1 ⟨rfl, hw1⟩; rw [hw1]; clear hw1 w1)
    go_ret
    exact K1.out
  | true =>
    have hvb := (isVal_iff v).1 hv
    by_cases h64 : (64 : Int) ≤ s.l.length
    · have K1 := keep 2 (by simp [apE, hv]; omega) (by omega)
      go_enter Tryz.func28, Tryz.ntmps28
      go_wp2_with (go_at_call 39; refine (refValue_any _ _ true hv).mono ?_; rintro e w1 ⟨rfl, hw1⟩; rw [hw1]; clear hw1 w1)
      go_ret
      exact K1.out
    · have hsb := sum_bd s.l hval
      have hl64 : ¬ 64 ≤ s.l.length := by omega
      by_cases h3 : 5000000 < s.l.sum + v
      · have K1 := keep 3 (by simp [apE, hv, hl64, h3]) (by omega)
        go_enter Tryz.func28, Tryz.ntmps28
        go_wp2_with (first | (go_at_call 39; refine (refValue_any _ _ true hv).mono ?_; rintro e w1 ⟨rfl, hw1⟩; rw [hw1]; clear hw1 w1) | (go_at_call 66; refine (refSum_any _ s.l _ hlog hval hlen).mono ?_; rintro e w1 ⟨rfl, hw1⟩; rw [hw1]; clear hw1 w1))
        go_ret
        exact K1.out
      · have hE : apE s v = 0 := by simp [apE, hv, hl64, h3]
        have hown : w.ownsRow base 3 1 (.slice ao s.l.length cap) s.l.length (s.l.map (.int .i64)) := HS.out.hL
        obtain ⟨i0, hi, hz0, hz1, hz2⟩ := info_parts info_int
        have fin : ∀ lv' w3, Hid (w3.ownsRow base 3 1 lv' (s.l.length + 1) (s.l.map (.int .i64) ++ [.int .i64 v]) → Grew (w.alloc (.cells #[.int .i64 v] 3)) (.slice ao s.l.length cap) w3 lv' → chPost base R s (apS s v) (apE s v) (.slice ao s.l.length cap) K H w (.returned (.int .i64 0)) (w3.setCell ⟨R, 0, none⟩ lv')) := fun lv' w3 => hid fun ho hg => ap_fin HS.out ho hg hE
        have hRo : some R ≠ (Value.slice ao s.l.length cap).ownBlock := fun c => by
          rcases hown.2 with ⟨e, _⟩ | ⟨g, cap', cur, e, _, hgg, _⟩
          · rw [e] at c; simp [Value.ownBlock] at c
          · rw [e] at c
            simp [Value.ownBlock] at c
            subst c
            rw [HS.out.hR] at hgg
            simp at hgg
        clear keep
        go_enter Tryz.func28, Tryz.ntmps28
        go_wp2_with (first | (go_at_call 39; refine (refValue_any _ _ true hv).mono ?_; rintro e w1 ⟨rfl, hw1⟩; rw [hw1]; clear hw1 w1) | (go_at_call 66; refine (refSum_any _ s.l _ hlog hval hlen).mono ?_; rintro e w1 ⟨rfl, hw1⟩; rw [hw1]; clear hw1 w1) | (at_builtin; refine wpList_append_grew _ rfl _ _ 25 rfl base 3 i0 (.int .i64 0) 1 8 Tryz.underlying25 hi hz0 hz1 hz2 rfl (by decide) _ _ _ rfl (hown.alloc _) ⟨w.heap.size, 0, none⟩ 1 1 [.int .i64 v] rfl rfl (int_new w v _) (by simp [Value.oneCell']) (by unfold maxLen; omega) (by omega) (by simp; omega) ?_))
        rintro lv' w3 ho3 hg3 _
        obtain ⟨ao3, cap3, rfl⟩ := own_shape ho3
        have HF : Hid _ := (fin _ w3).out ho3 hg3
        have hb3 : w3.heap[R]? = w.heap[R]? := (hg3.grown.block R (by simp; omega) hRo).trans (Below.heap_alloc _ _ _ hRl)
        have c3 : w3.cell? ⟨R, 0, none⟩ = some (.slice ao s.l.length cap) := (World.cell?_of_block (a := ⟨R, 0, none⟩) hb3).trans c0
        have f3 : w3.frozen? ⟨R, 0, none⟩ = false := (World.frozen?_of_block (a := ⟨R, 0, none⟩) hb3).trans (hfz 0)
        clear ho3 hg3 hb3 fin
        go_wp2
        go_ret
        exact HF.out
end Go.Proofs.YtogmdaopfnmobaaGreat

/- What the document's own answer does (notaryref): the store: Set, Delete, New. -/
namespace Go.Proofs.YtogmdaopfnmobaaGreat
open Go.RowKit
theorem tab_fin {w : World} {base R : Nat} {s : Sto} {lv : Value} {K H : Nat} (h : RSt w base R s lv K H) (i : Nat) (o : Option Int) (hok : Sto.ok ⟨s.l, s.t.set i o⟩) :
    RSt ((w.setCell ⟨K, i, none⟩ (.int .i64 (o.getD 0))).setCell ⟨H, i, none⟩ (.bool o.isSome)) base R ⟨s.l, s.t.set i o⟩ lv K H ∧ Kept w ((w.setCell ⟨K, i, none⟩ (.int .i64 (o.getD 0))).setCell ⟨H, i, none⟩ (.bool o.isSome)) (rfp R lv K H) := by
  have hHo : H ∉ ob lv := fun c => by
    rcases h.hL.2 with ⟨rfl, _⟩ | ⟨g, cap, cur, rfl, _, hgg, _⟩
    · simp [ob, Value.ownBlock] at c
    · simp [ob, Value.ownBlock] at c
      subst c
      have := h.hH
      unfold Row at this
      rw [this] at hgg
      simp at hgg
  have hRK : R ≠ K := fun c => by have h1 := h.hR; have h2 := h.hK; unfold Row at h2; rw [c, h2] at h1; simp at h1
  have hRH : R ≠ H := fun c => by have h1 := h.hR; have h2 := h.hH; unfold Row at h2; rw [c, h2] at h1; simp at h1
  have hKH : K ≠ H := fun c => by have h1 := h.hK; have h2 := h.hH; unfold Row at h1 h2; rw [c, h2] at h1; simp at h1
  refine ⟨⟨?_, ?_, ?_, ?_, h.kl, h.bR, h.bK, h.bH, hok⟩, ?_⟩
  · exact (Below.heap_setCell _ _ _ _ hRH).trans ((Below.heap_setCell _ _ _ _ hRK).trans h.hR)
  · exact own_keep h.hL fun k hk => (Below.heap_setCell _ _ _ _ (fun c => hHo (by subst c; exact hk))).trans (Below.heap_setCell _ _ _ _ (fun c => h.kl (by subst c; exact hk)))
  · have := h.hK.set i (.int .i64 (o.getD 0))
    rw [← List.map_set, ← tv_set] at this
    exact (Below.heap_setCell _ _ _ _ hKH).trans this
  · have h2 : Row (w.setCell ⟨K, i, none⟩ (.int .i64 (o.getD 0))) H 4 ((tx s.t).map .bool) := (Below.heap_setCell _ _ _ _ (Ne.symm hKH)).trans h.hH
    have := h2.set i (.bool o.isSome)
    rw [← List.map_set, ← tx_set] at this
    exact this
  · exact ((Kept.refl w _).setCell (.inl (by simp [rfp])) _).setCell (.inl (by simp [rfp])) _
set_option maxHeartbeats 1000000 in
set_option maxRecDepth 100000 in
theorem refDelete_any (w : World) (base R : Nat) (s : Sto) (lv : Value) (K H : Nat) (k : Int) (h : RSt w base R s lv K H) :
    Calls Tryz.prog 30 #[.pointer (some ⟨R, 0, none⟩), .int .i64 k] w (chPost base R s (deS s k) (deE s k) lv K H w) := by
  have HS : Hid _ := h
  obtain ⟨⟨c0, c1, c2⟩, hfz⟩ := h.cells
  have hRl := h.lt.1
  have keep : deE s k = 4 → Hid (chPost base R s (deS s k) (deE s k) lv K H w (.returned (.int .i64 4)) w) := fun hn => by
    refine hid ⟨by rw [hn], Kept.refl _ _, _, ?_, fun k hk => .inl hk⟩
    rw [deS, if_neg (by rw [hn]; omega)]
    exact HS.out
  by_cases h0 : k < 0
  · have K1 := keep (by simp [deE]; omega)
    clear keep h
    go_enter Tryz.func30, Tryz.ntmps30
    go_wp2
    go_ret
    exact K1.out
  · by_cases h1 : 32 ≤ k
    · have K1 := keep (by simp [deE]; omega)
      clear keep h
      go_enter Tryz.func30, Tryz.ntmps30
      go_wp2
      go_ret
      exact K1.out
    · obtain ⟨i, rfl⟩ : ∃ i : Nat, k = (i : Int) := Int.eq_ofNat_of_zero_le (by omega)
      have hi : i < 32 := by omega
      have hit : i < s.t.length := by rw [h.ok.tlen]; exact hi
      have d1 := h.hK.cell i (by simp [tv]; exact hit)
      rw [tv_at s.t i hit] at d1
      have d2 := h.hH.cell i (by simp [tx]; exact hit)
      rw [tx_at s.t i hit] at d2
      have f1 := h.hK.frozen i
      have f2 := h.hH.frozen i
      have hKH : K ≠ H := fun c => by have h1 := h.hK; have h2 := h.hH; unfold Row at h1 h2; rw [c, h2] at h1; simp at h1
      cases hb : (tat s.t i).isSome with
      | false =>
        rw [hb] at d2
        have K1 := keep (by simp [deE, hb])
        clear keep h
        go_enter Tryz.func30, Tryz.ntmps30
        go_wp2
        go_ret
        exact K1.out
      | true =>
        rw [hb] at d2
        have hE : deE s i = 0 := by simp [deE, hb]; omega
        have fin : Hid (chPost base R s (deS s i) (deE s i) lv K H w (.returned (.int .i64 0)) ((w.setCell ⟨K, i, none⟩ (.int .i64 0)).setCell ⟨H, i, none⟩ (.bool false))) := by
          have hok : Sto.ok ⟨s.l, s.t.set i none⟩ := by have := deS_ok h.ok i; rw [deS, if_pos hE] at this; simpa using this
          have := tab_fin h i none hok
          refine hid ⟨by rw [hE], this.2, lv, ?_, fun k hk => .inl hk⟩
          rw [deS, if_pos hE]
          simpa using this.1
        have hRK : R ≠ K := fun c => by have h1 := h.hR; have h2 := h.hK; unfold Row at h2; rw [c, h2] at h1; simp at h1
        have q2 : (w.setCell ⟨K, i, none⟩ (.int .i64 0)).cell? ⟨R, 2, none⟩ = some (.slice (some ⟨H, 0, none⟩) 32 32) := (World.cell?_of_block (a := ⟨R, 2, none⟩) (Below.heap_setCell _ _ _ _ hRK)).trans c2
        have q3 : (w.setCell ⟨K, i, none⟩ (.int .i64 0)).cell? ⟨H, i, none⟩ = some (.bool true) := (World.cell?_of_block (a := ⟨H, i, none⟩) (Below.heap_setCell _ _ _ _ (Ne.symm hKH))).trans d2
        have q4 : (w.setCell ⟨K, i, none⟩ (.int .i64 0)).frozen? ⟨H, i, none⟩ = false := (World.frozen?_of_block (a := ⟨H, i, none⟩) (Below.heap_setCell _ _ _ _ (Ne.symm hKH))).trans f2
        clear keep h hE
        go_enter Tryz.func30, Tryz.ntmps30
        go_wp2
        go_ret
        exact fin.out
set_option maxHeartbeats 2000000 in
set_option maxRecDepth 100000 in
theorem refSet_any (w : World) (base R : Nat) (s : Sto) (lv : Value) (K H : Nat) (k v : Int) (h : RSt w base R s lv K H) :
    Calls Tryz.prog 32 #[.pointer (some ⟨R, 0, none⟩), .int .i64 k, .int .i64 v] w (chPost base R s (seS s k v) (seE s k v) lv K H w) := by
  have HS : Hid _ := h
  obtain ⟨⟨c0, c1, c2⟩, hfz⟩ := h.cells
  have hRl := h.lt.1
  have keep : ∀ n w', seE s k v = n → n ≠ 0 → Below w.heap.size w w' → Hid (chPost base R s (seS s k v) (seE s k v) lv K H w (.returned (.int .i64 n)) w') := fun n w' hn h0 hb => by
    refine hid ⟨by rw [hn], Kept.of_below hb _, _, ?_, fun k hk => .inl hk⟩
    rw [seS, if_neg (by rw [hn]; exact h0)]
    exact HS.out.below hb
  by_cases h0 : k < 0
  · have K1 := keep 4 w (by simp [seE]; omega) (by omega) (Below.refl _ _)
    clear keep h
    go_enter Tryz.func32, Tryz.ntmps32
    go_wp2
    go_ret
    exact K1.out
  · by_cases h1 : 32 ≤ k
    · have K1 := keep 4 w (by simp [seE]; omega) (by omega) (Below.refl _ _)
      clear keep h
      go_enter Tryz.func32, Tryz.ntmps32
      go_wp2
      go_ret
      exact K1.out
    · obtain ⟨i, rfl⟩ : ∃ i : Nat, k = (i : Int) := Int.eq_ofNat_of_zero_le (by omega)
      have hi : i < 32 := by omega
      have hin : (0 : Int) ≤ i ∧ (i : Int) < 32 := by omega
      cases hv : isVal v with
      | false =>
        have K1 := keep 1 w (by rw [seE, if_pos hin]; simp [hv]) (by omega) (Below.refl _ _)
        clear keep h
        go_enter Tryz.func32, Tryz.ntmps32
        go_wp2_with (go_at_call 39; refine (refValue_any _ _ false hv).mono ?_; rintro e w1 ⟨rfl, hw1⟩; rw [hw1]; clear hw1 w1)
        go_ret
        exact K1.out
      | true =>
        have hvb := (isVal_iff v).1 hv
        have hit : i < s.t.length := by rw [h.ok.tlen]; exact hi
        have d1 := h.hK.cell i (by simp [tv]; exact hit)
        rw [tv_at s.t i hit] at d1
        have d2 := h.hH.cell i (by simp [tx]; exact hit)
        rw [tx_at s.t i hit] at d2
        have f1 := h.hK.frozen i
        have f2 := h.hH.frozen i
        have hcells : Cells1 w w.heap.size (.slice (some ⟨K, 0, none⟩) 32 32) ((tv s.t).map (.int .i64)) := by
          have := h.hK.cells1 32
          simpa [tv, h.ok.tlen] using this
        have hvals := tv_val h.ok
        have hlen : (tv s.t).length ≤ 64 := by simp [tv, h.ok.tlen]
        have hsb := sum_bd _ hvals
        have hx : 0 ≤ (tat s.t i).getD 0 ∧ (tat s.t i).getD 0 ≤ 1000000 := by
          have := hvals ((tat s.t i).getD 0) (by
            have : (tat s.t i) ∈ s.t := by simp [tat, hit]
            exact List.mem_map_of_mem (f := fun o : Option Int => o.getD 0) this)
          exact this
        have hl32 : (tv s.t).length = 32 := by simp [tv, h.ok.tlen]
        have hsum : (tv s.t).sum = tsum s.t := rfl
        have HSum : Hid _ := hsum
        have hsb' : 0 ≤ tsum s.t ∧ tsum s.t ≤ 32000000 := by rw [← hsum]; omega
        have HC : Hid _ := hcells
        have HV : Hid _ := hvals
        have HLn : Hid _ := hlen
        have hu : seE s i v = if 5000000 < tsum s.t - (tat s.t i).getD 0 + v then 3 else 0 := by rw [seE, if_pos hin]; simp [hv]
        have hb0 : tat s.t i = (tat s.t i) := rfl
        generalize hY : tsum s.t = y at hu hsb' HSum
        generalize hX : (tat s.t i).getD 0 = x at d1 hx hu
        clear hsb hsum hcells hvals hlen hl32 hb0 hX hY
        have wr1 : IntKind.i64.wrap (y - x) = y - x := by rw [IntKind.wrap_i64]; omega
        have wr2 : IntKind.i64.wrap (y - x + v) = y - x + v := by rw [IntKind.wrap_i64]; omega
        by_cases h3 : 5000000 < y - x + v
        · have K1 := keep 3 w.drew (by rw [hu, if_pos h3]) (by omega) (Below.refl _ _).drew
          clear keep h hu
          go_enter Tryz.func32, Tryz.ntmps32
          go_wp2_with (go_at_call 39; refine (refValue_any _ _ true hv).mono ?_; rintro e w1 ⟨rfl, hw1⟩; rw [hw1]; clear hw1 w1)
          go_region_held3 (fun w' => w'.cell? ⟨R, 1, none⟩ = some (.slice (some ⟨K, 0, none⟩) 32 32) ∧ w'.cell? ⟨K, i, none⟩ = some (.int .i64 x)) (go_keep) (first | (go_at_call 66; refine (refSum_any _ (tv s.t) _ ?_ HV.out HLn.out).mono ?_; (first | exact HC.out | exact HC.out.below (Below.drew (Below.refl _ _))); rintro e w1 ⟨rfl, hw1⟩; rw [hw1, HSum.out]; clear hw1 w1))
          go_wp2
          go_ret
          exact K1.out
        · have hE : seE s i v = 0 := by rw [hu, if_neg h3]
          have fin : Hid (chPost base R s (seS s i v) (seE s i v) lv K H w (.returned (.int .i64 0)) ((w.drew.setCell ⟨K, i, none⟩ (.int .i64 v)).setCell ⟨H, i, none⟩ (.bool true))) := by
            have hok : Sto.ok ⟨s.l, s.t.set i (some v)⟩ := by have := seS_ok h.ok i v; rw [seS, if_pos hE] at this; simpa using this
            have hd := h.below (Below.refl w.heap.size w).drew
            have := tab_fin hd i (some v) hok
            refine hid ⟨by rw [hE], (Kept.of_below (Below.refl w.heap.size w).drew _).trans this.2 (fun x hx => .inl hx), lv, ?_, fun k hk => .inl hk⟩
            rw [seS, if_pos hE]
            simpa using this.1
          have hKH : K ≠ H := fun c => by have h1 := h.hK; have h2 := h.hH; unfold Row at h1 h2; rw [c, h2] at h1; simp at h1
          have hRK : R ≠ K := fun c => by have h1 := h.hR; have h2 := h.hK; unfold Row at h2; rw [c, h2] at h1; simp at h1
          have q2 : (w.drew.setCell ⟨K, i, none⟩ (.int .i64 v)).cell? ⟨R, 2, none⟩ = some (.slice (some ⟨H, 0, none⟩) 32 32) := (World.cell?_of_block (a := ⟨R, 2, none⟩) (Below.heap_setCell _ _ _ _ hRK)).trans c2
          have q3 : (w.drew.setCell ⟨K, i, none⟩ (.int .i64 v)).cell? ⟨H, i, none⟩ = some (.bool (tat s.t i).isSome) := (World.cell?_of_block (a := ⟨H, i, none⟩) (Below.heap_setCell _ _ _ _ (Ne.symm hKH))).trans d2
          have q4 : (w.drew.setCell ⟨K, i, none⟩ (.int .i64 v)).frozen? ⟨H, i, none⟩ = false := (World.frozen?_of_block (a := ⟨H, i, none⟩) (Below.heap_setCell _ _ _ _ (Ne.symm hKH))).trans f2
          clear keep h hu hE
          go_enter Tryz.func32, Tryz.ntmps32
          go_wp2_with (go_at_call 39; refine (refValue_any _ _ true hv).mono ?_; rintro e w1 ⟨rfl, hw1⟩; rw [hw1]; clear hw1 w1)
          go_region_held3 (fun w' => w'.cell? ⟨R, 1, none⟩ = some (.slice (some ⟨K, 0, none⟩) 32 32) ∧ w'.cell? ⟨K, i, none⟩ = some (.int .i64 x)) (go_keep) (first | (go_at_call 66; refine (refSum_any _ (tv s.t) _ ?_ HV.out HLn.out).mono ?_; (first | exact HC.out | exact HC.out.below (Below.drew (Below.refl _ _))); rintro e w1 ⟨rfl, hw1⟩; rw [hw1, HSum.out]; clear hw1 w1))
          go_wp2
          go_ret
          exact fin.out
end Go.Proofs.YtogmdaopfnmobaaGreat

/- What the document's own answer does (notaryref): the store: New, Size, Tree. -/
namespace Go.Proofs.YtogmdaopfnmobaaGreat
open Go.RowKit
def newPost (w : World) (e : Ending) (w' : World) : Prop := ∃ R K H, e = .returned (.pointer (some ⟨R, 0, none⟩)) ∧ RSt w' w.heap.size R .empty (.slice none 0 0) K H ∧ Below w.heap.size w w'
theorem new_fin {w' : World} {base R K H : Nat} (hR : w'.heap[R]? = some (.cells #[.slice none 0 0, .slice (some ⟨K, 0, none⟩) 32 32, .slice (some ⟨H, 0, none⟩) 32 32] 45 (0, 0)))
    (hK : Row w' K 3 (List.replicate 32 (.int .i64 0))) (hH : Row w' H 4 (List.replicate 32 (.bool false))) (b1 : base ≤ R) (b2 : base ≤ K) (b3 : base ≤ H) : RSt w' base R .empty (.slice none 0 0) K H :=
  ⟨hR, World.ownsRow_nil _ _ _ _, by simpa [Sto.empty, tv] using hK, by simpa [Sto.empty, tx] using hH, by simp [ob, Value.ownBlock], b1, b2, b3, Sto.empty_ok⟩
set_option maxHeartbeats 1000000 in
set_option maxRecDepth 100000 in
theorem refNew_any (w : World) : Calls Tryz.prog 26 #[] w (newPost w) := by
  obtain ⟨i0, hi, hz0, hz1, hz2⟩ := info_parts info_bool
  obtain ⟨j0, hj, hy0, hy1, hy2⟩ := info_parts info_int
  have m1 : ∀ u : World, (Instr.makeSlice 43 (.int .i64 32) (.int .i64 32)).run Tryz.prog u = .ok (.slice (some ⟨u.heap.size, 0, none⟩) 32 32) (u.alloc (.cells (List.replicate 32 (.bool false)).toArray 4)) := fun u => by
    have h := run_make (P := Tryz.prog) u 43 4 i0 (.bool false) Tryz.underlying43 hi hz0 .i64 .i64 32 32 (by omega) (Int.le_refl _) (by rw [hz2]; omega) (by omega)
    simpa [hz1, Value.cells, made_one] using h
  have m2 : ∀ u : World, (Instr.makeSlice 25 (.int .i64 32) (.int .i64 32)).run Tryz.prog u = .ok (.slice (some ⟨u.heap.size, 0, none⟩) 32 32) (u.alloc (.cells (List.replicate 32 (.int .i64 0)).toArray 3)) := fun u => by
    have h := run_make (P := Tryz.prog) u 25 3 j0 (.int .i64 0) Tryz.underlying25 hj hy0 .i64 .i64 32 32 (by omega) (Int.le_refl _) (by rw [hy2]; omega) (by omega)
    simpa [hy1, Value.cells, made_one] using h
  generalize hLb : (List.replicate 32 (Value.bool false)).toArray = Lb at m1
  generalize hLi : (List.replicate 32 (Value.int .i64 0)).toArray = Li at m2
  have HLb : Hid _ := hLb
  have HLi : Hid _ := hLi
  clear hLb hLi
  go_enter Tryz.func26, Tryz.ntmps26
  go_wp2
  go_region
  · go_wp2
    go_ret
    refine ⟨w.heap.size + 1 + 1, w.heap.size, w.heap.size + 1, rfl, new_fin (heap_one _ _ _ (by simp)) (by rw [← HLi.out]; exact heap_three w _ _ _ _ rfl) (by rw [← HLb.out]; exact heap_two _ _ _ _ (by simp)) (by omega) (by omega) (by omega), ?_⟩
    refine Below.drew ?_
    refine Below.alloc (Below.alloc ((Below.refl _ _).alloc (Nat.le_refl _) _) ?_ _) ?_ _ <;> simp <;> omega
  · go_wp2
    go_ret
    refine ⟨w.heap.size + 1 + 1, w.heap.size + 1, w.heap.size, rfl, new_fin (heap_one _ _ _ (by simp)) (by rw [← HLi.out]; exact heap_two _ _ _ _ (by simp)) (by rw [← HLb.out]; exact heap_three w _ _ _ _ rfl) (by omega) (by omega) (by omega), ?_⟩
    refine Below.drew ?_
    refine Below.alloc (Below.alloc ((Below.refl _ _).alloc (Nat.le_refl _) _) ?_ _) ?_ _ <;> simp <;> omega
set_option maxHeartbeats 1000000 in
theorem refSize_any (w : World) (base R : Nat) (s : Sto) (lv : Value) (K H : Nat) (t : Int) (h : RSt w base R s lv K H) :
    Calls Tryz.prog 136 #[.pointer (some ⟨R, 0, none⟩), .int .i64 t] w fun e w' => e = .returned (.int .i64 (if t = 0 then (s.l.length : Int) else 32)) ∧ w' = w := by
  obtain ⟨⟨c0, c1, c2⟩, hfz⟩ := h.cells
  obtain ⟨ao, cap, rfl⟩ := own_shape h.hL
  by_cases h0 : t = 0
  · subst h0
    rw [if_pos rfl]
    clear h
    go_enter Tryz.func136, Tryz.ntmps136
    go_wp2
    go_ret
    exact ⟨rfl, rfl⟩
  · rw [if_neg h0]
    have h0' : (t == 0) = false := by simp [h0]
    clear h
    go_enter Tryz.func136, Tryz.ntmps136
    go_wp2
    go_ret
    exact ⟨rfl, rfl⟩
end Go.Proofs.YtogmdaopfnmobaaGreat

/- What the document's own answer does (notaryref): the store: Tree. -/
namespace Go.Proofs.YtogmdaopfnmobaaGreat
open Go.RowKit
theorem ret_tree2 {w : World} {g : Nat} {c0 c1 c2 v : Value} {fn : Func} {R : Ending → World → Prop} {tmps : Array Value} {k j : Nat} (hf : fn.results = #[.cell k 53, .tmp j]) (h : w.heap[g]? = some (.cells #[c0, c1, c2] 53 (0, 0)))
    (h2 : tmps[k]? = some (.pointer (some ⟨g, 0, none⟩))) (h3 : tmps[j]? = some v) (hR : R (.returned (.tuple #[.agg #[c0, c1, c2], v])) w) : bodyPost Tryz.prog fn R .ret ⟨tmps, []⟩ w := by
  have k0 : w.cell? ⟨g, 0, none⟩ = some c0 := by rw [cell_of_row w _ _ _ _ _ h]; rfl
  have k1 : w.cell? ⟨g, 1, none⟩ = some c1 := by rw [cell_of_row w _ _ _ _ _ h]; rfl
  have k2 : w.cell? ⟨g, 2, none⟩ = some c2 := by rw [cell_of_row w _ _ _ _ _ h]; rfl
  refine bodyPost_ret (v := .tuple #[.agg #[c0, c1, c2], v]) ?_ rfl hR
  simp [results, hf, go_sem, h2, h3, k0, k1, k2]
def treePost (tb : Bool) (vs : List Int) (hs : List Bool) (w : World) (e : Ending) (w' : World) : Prop :=
  ∃ a1 c1 a2 n2 c2, e = .returned (.tuple #[.agg #[.bool tb, .slice a1 vs.length c1, .slice a2 n2 c2], .bool true]) ∧ TreeIn w' w'.heap.size (.slice a1 vs.length c1) (.slice a2 n2 c2) vs hs ∧ Below w.heap.size w w'
theorem Cells1.take {w : World} {B : Nat} {ao : Option Addr} {n cap : Nat} {l : List Value} (h : Cells1 w B (.slice ao n cap) l) (k : Nat) (hk : k ≤ l.length) : Cells1 w B (.slice ao k cap) (l.take k) := by
  obtain ⟨ao', cap', hv, hc⟩ := h.ex
  simp only [Value.slice.injEq] at hv
  obtain ⟨rfl, _, rfl⟩ := hv
  refine ⟨ao, cap, by simp; omega, fun i hi => ?_⟩
  have hi' : i < l.length := by simp at hi; omega
  obtain ⟨b, off, ha, hB, hcs⟩ := hc i hi'
  exact ⟨b, off, ha, hB, by rw [hcs, List.getElem_take]⟩
theorem Cells1.far {w : World} {B : Nat} {v : Value} {l : List Value} {g o : Nat} {u : Value} (h : Cells1 w B v l) (hg : ∀ ao n c, v = .slice ao n c → ∀ b off, ao = some ⟨b, off, none⟩ → b ≠ g) : Cells1 (w.setCell ⟨g, o, none⟩ u) B v l := by
  obtain ⟨ao, cap, hv, hc⟩ := h.ex
  refine ⟨ao, cap, hv, fun i hi => ?_⟩
  obtain ⟨b, off, ha, hB, hcs⟩ := hc i hi
  exact ⟨b, off, ha, hB, (World.cell?_of_block (a := ⟨b, off + i, none⟩) (Below.heap_setCell _ _ _ _ (hg _ _ _ hv b off ha))).trans hcs⟩
set_option maxHeartbeats 1000000 in
set_option maxRecDepth 100000 in
theorem refTree_log (w : World) (base R : Nat) (s : Sto) (lv : Value) (K H : Nat) (n : Nat) (h : RSt w base R s lv K H) (hn : n ≤ s.l.length) :
    Calls Tryz.prog 78 #[.pointer (some ⟨R, 0, none⟩), .int .i64 0, .int .i64 n] w (treePost false (s.l.take n) (List.replicate n true) w) := by
  have HS : Hid _ := h
  obtain ⟨⟨c0, c1, c2⟩, hfz⟩ := h.cells
  have hRl := h.lt.1
  have hlen := h.ok.len
  have hlog := h.log1
  have hown := h.hL
  obtain ⟨ao, cap, rfl⟩ := own_shape h.hL
  have hl1 := hlog.take n (by simpa using hn)
  rw [← List.map_take] at hl1
  have hcap : n ≤ cap := by
    rcases hown.2 with ⟨e, h0⟩ | ⟨g, cap', cur, e, _, _, hnc, _⟩
    · omega
    · simp at e; omega
  have hcm : cap ≤ maxLen := by
    rcases hown.2 with ⟨e, h0⟩ | ⟨g, cap', cur, e, _, _, hnc, hcm, _⟩
    · simp at e; unfold maxLen; omega
    · simp at e; omega
  have HC : ∀ w', Hid (Below w.heap.size w w' → Calls Tryz.prog 14 #[.slice ao n cap] w' (logPost (.slice ao n cap) (s.l.take n) w')) := fun w' => hid fun hb =>
    refLogOf_any _ _ w' ((hl1.below hb).mono hb.size) (fun v hv => HS.out.ok.val v (List.mem_of_mem_take hv)) (by simp; omega)
  have HL1 : Hid _ := hl1
  clear h hown hlog hl1
  go_enter Tryz.func78, Tryz.ntmps78
  go_wp2_with fail
  refine ((HC _).out ((Below.refl _ _).alloc (Nat.le_refl _) _)).mono ?_
  rintro e w1 ⟨⟨g, rfl, hgw, hT⟩, hb1⟩
  have hgn : g ≠ w.heap.size := by simp at hgw; omega
  have hg : w1.heap[w.heap.size]? = some (.cells #[.bool false, .slice none 0 0, .slice none 0 0] 53 (0, 0)) := (hb1.block _ (by simp)).trans (heap_alloc_new w _)
  have B1 : Hid (Below w.heap.size w w1) := hid (((Below.refl _ _).alloc (Nat.le_refl _) _).trans (hb1.mono (by simp)))
  have HG : Hid _ := hg
  have k0 : w1.cell? ⟨w.heap.size, 0, none⟩ = some (.bool false) := by rw [cell_of_row w1 _ _ _ _ _ hg]; rfl
  have k1 : w1.cell? ⟨w.heap.size, 1, none⟩ = some (.slice none 0 0) := by rw [cell_of_row w1 _ _ _ _ _ hg]; rfl
  have k2 : w1.cell? ⟨w.heap.size, 2, none⟩ = some (.slice none 0 0) := by rw [cell_of_row w1 _ _ _ _ _ hg]; rfl
  have ff : ∀ o, w1.frozen? ⟨w.heap.size, o, none⟩ = false := fun o => by simp [World.frozen?, hg]
  have hlt : w.heap.size < w1.heap.size := (Array.getElem?_eq_some_iff.1 hg).1
  have hlt' : (s.l.take n).length = n := by simp; omega
  rw [hlt'] at hT ⊢
  have HT : Hid _ := hT
  clear hb1 hT hg HC hgw hlt'
  go_wp2
  refine ret_tree2 Tryz.results78 (set3 HG.out _ _ _) rfl rfl ?_
  have hlt' : (s.l.take n).length = n := by simp; omega
  refine ⟨ao, cap, some ⟨g, 0, none⟩, n, n, by rw [hlt']; rfl, ?_, ?_⟩
  · rw [hlt']
    have hB : Below w.heap.size w (((w1.setCell ⟨w.heap.size, 0, none⟩ (.bool false)).setCell ⟨w.heap.size, 1, none⟩ (.slice ao n cap)).setCell ⟨w.heap.size, 2, none⟩ (.slice (some ⟨g, 0, none⟩) n n)) := by
      repeat (refine Below.setCell ?_ (by simp) _)
      exact B1.out
    have hT := HT.out
    have hz : w1.heap.size ≤ (((w1.setCell ⟨w.heap.size, 0, none⟩ (.bool false)).setCell ⟨w.heap.size, 1, none⟩ (.slice ao n cap)).setCell ⟨w.heap.size, 2, none⟩ (.slice (some ⟨g, 0, none⟩) n n)).heap.size := by simp [World.setCell]
    refine ⟨(HL1.out.below hB).mono hB.size, Cells1.mono (Cells1.far (Cells1.far (Cells1.far hT.hv2 ?_) ?_) ?_) hz, hT.len, hT.small, hT.val⟩ <;>
    · intro ao' n' c' e b off e'
      simp only [Value.slice.injEq] at e
      rw [← e.1] at e'
      simp at e'
      omega
  · repeat (refine Below.setCell ?_ (by simp) _)
    exact B1.out
set_option maxHeartbeats 1000000 in
set_option maxRecDepth 100000 in
theorem refTree_tab (w : World) (base R : Nat) (s : Sto) (lv : Value) (K H : Nat) (h : RSt w base R s lv K H) :
    Calls Tryz.prog 78 #[.pointer (some ⟨R, 0, none⟩), .int .i64 1, .int .i64 32] w (treePost true (tv s.t) (tx s.t) w) := by
  have HS : Hid _ := h
  obtain ⟨⟨c0, c1, c2⟩, hfz⟩ := h.cells
  have hRl := h.lt.1
  have ne1 := World.new_ne w ⟨R, 1, none⟩ (by rw [c1])
  clear h
  go_enter Tryz.func78, Tryz.ntmps78
  go_wp2
  go_region_held3 (fun w' => w'.cell? ⟨R, 1, none⟩ = some (.slice (some ⟨K, 0, none⟩) 32 32) ∧ w'.cell? ⟨R, 2, none⟩ = some (.slice (some ⟨H, 0, none⟩) 32 32)) (go_keep) (fail)
  go_wp2
  refine ret_tree2 Tryz.results78 (heap_alloc_new w _) rfl rfl ?_
  have hB : Below w.heap.size w (w.alloc (.cells #[.bool true, .slice (some ⟨K, 0, none⟩) 32 32, .slice (some ⟨H, 0, none⟩) 32 32] 53)).drew := ((Below.refl _ _).alloc (Nat.le_refl _) _).drew
  have hr := HS.out.below hB
  have l1 : (tv s.t).length = 32 := by simp [tv, HS.out.ok.tlen]
  have l2 : (tx s.t).length = 32 := by simp [tx, HS.out.ok.tlen]
  have e1 := hr.hK.cells1 32
  have e2 := hr.hH.cells1 32
  rw [List.length_map, l1] at e1
  rw [List.length_map, l2] at e2
  exact ⟨some ⟨K, 0, none⟩, 32, some ⟨H, 0, none⟩, 32, 32, by rw [l1]; rfl, by rw [l1]; exact ⟨e1, e2, by rw [l1, l2], by omega, tv_val HS.out.ok⟩, hB⟩
def noTree : Value := .tuple #[.agg #[.bool false, .slice none 0 0, .slice none 0 0], .bool false]
set_option maxHeartbeats 1000000 in
set_option maxRecDepth 100000 in
theorem refTree_no (w : World) (base R : Nat) (s : Sto) (lv : Value) (K H : Nat) (t n : Int) (h : RSt w base R s lv K H) (h0 : t = 0 → n < 0 ∨ s.l.length < n) (h1 : t = 1 → n ≠ 32) :
    Calls Tryz.prog 78 #[.pointer (some ⟨R, 0, none⟩), .int .i64 t, .int .i64 n] w fun e w' => e = .returned noTree ∧ Below w.heap.size w w' := by
  obtain ⟨⟨c0, c1, c2⟩, hfz⟩ := h.cells
  have hRl := h.lt.1
  obtain ⟨ao, cap, rfl⟩ := own_shape h.hL
  clear h
  by_cases e0 : t = 0
  · subst e0
    rcases h0 rfl with hn | hn
    · clear h0 h1
      go_enter Tryz.func78, Tryz.ntmps78
      go_wp2
      refine ret_tree2 Tryz.results78 (heap_alloc_new w _) rfl rfl ⟨rfl, ?_⟩
      exact (Below.refl _ _).alloc (Nat.le_refl _) _
    · have hn' : ¬ n ≤ (s.l.length : Int) := by omega
      have hn0 : 0 ≤ n := by omega
      clear h0 h1
      go_enter Tryz.func78, Tryz.ntmps78
      go_wp2
      refine ret_tree2 Tryz.results78 (heap_alloc_new w _) rfl rfl ⟨rfl, ?_⟩
      exact (Below.refl _ _).alloc (Nat.le_refl _) _
  · have b0 : (t == 0) = false := by simp [e0]
    by_cases e1 : t = 1
    · subst e1
      have b1 : (n == 32) = false := by simp [h1 rfl]
      clear h0 h1
      go_enter Tryz.func78, Tryz.ntmps78
      go_wp2
      refine ret_tree2 Tryz.results78 (heap_alloc_new w _) rfl rfl ⟨rfl, ?_⟩
      exact (Below.refl _ _).alloc (Nat.le_refl _) _
    · have b1 : (t == 1) = false := by simp [e1]
      clear h0 h1
      go_enter Tryz.func78, Tryz.ntmps78
      go_wp2
      refine ret_tree2 Tryz.results78 (heap_alloc_new w _) rfl rfl ⟨rfl, ?_⟩
      exact (Below.refl _ _).alloc (Nat.le_refl _) _
end Go.Proofs.YtogmdaopfnmobaaGreat

/- What the document's own answer does (notaryref): the store: Head. -/
namespace Go.Proofs.YtogmdaopfnmobaaGreat
open Go.RowKit
set_option maxHeartbeats 2000000 in
set_option maxRecDepth 100000 in
theorem refHead_ok (w : World) (R : Nat) (t : Int) (n : Nat) (tb : Bool) (vs : List Int) (hs : List Bool) (hTr : ∀ w', Below w.heap.size w w' → Calls Tryz.prog 78 #[.pointer (some ⟨R, 0, none⟩), .int .i64 t, .int .i64 n] w' (treePost tb vs hs w')) (hn : vs.length = n) (hn64 : n ≤ 64) (hval : ∀ v ∈ vs, 0 ≤ v ∧ v ≤ 1000000) :
    Calls Tryz.prog 40 #[.pointer (some ⟨R, 0, none⟩), .int .i64 t, .int .i64 n] w fun e w' => e = .returned (headV n (dg (hdText n (tr (lf tb vs hs) 0 n)))) ∧ Below w.heap.size w w' := by
  subst hn
  have HT : Hid _ := hTr
  clear hTr
  have HO : Hid _ := tr_ok (tb := tb) (hs := hs) hval 0 vs.length (by omega)
  have HW : ∀ vv hv w', Hid (TreeIn w' w'.heap.size vv hv vs hs → Calls Tryz.prog 15 _ w' _) := fun vv hv w' => hid fun h => refWhole_any tb vv hv vs hs w' h
  have HRt : ∀ w', Hid (Calls Tryz.prog 16 #[.int .i64 (vs.length : Int), ndV (tr (lf tb vs hs) 0 vs.length)] w' _) := fun w' => hid (refRoot_any vs.length _ w' (by omega) HO.out)
  generalize tr (lf tb vs hs) 0 vs.length = d at HO HW HRt
  go_enter Tryz.func40, Tryz.ntmps40
  go_wp2_with fail
  refine (HT.out _ ((Below.refl _ _).alloc (Nat.le_refl _) _)).mono ?_
  rintro e w1 ⟨a1, p1, a2, n2, p2, rfl, hT1, hb1⟩
  have hg1 : w1.heap[w.heap.size]? = some (.cells #[.int .i64 0, .int .u8 0, .int .u8 0] 58 (0, 0)) := (hb1.block _ (by simp)).trans (heap_alloc_new w _)
  have HG1 : Hid _ := hg1
  have B1 : Hid (Below w.heap.size w w1) := hid (((Below.refl _ _).alloc (Nat.le_refl _) _).trans (hb1.mono (by simp)))
  have HT1 : Hid _ := hT1
  have l1 : w.heap.size < w1.heap.size := (Array.getElem?_eq_some_iff.1 hg1).1
  clear hb1 hg1 hT1 HT
  go_wp2_with fail
  refine ((HW _ _ _).out ((HT1.out.below ((Below.refl _ _).alloc (Nat.le_refl _) _)).mono (by simp))).mono ?_
  rintro e w2 ⟨rfl, hb2⟩
  rw [ndV]
  have B2 : Hid (Below w.heap.size w w2) := hid ((B1.out.alloc (by omega) _).trans (hb2.mono (by simp; omega)))
  have HG2 : Hid (w2.heap[w.heap.size]? = some (.cells #[.int .i64 0, .int .u8 0, .int .u8 0] 58 (0, 0))) := hid ((hb2.block _ (by simp; omega)).trans ((Below.heap_alloc _ _ _ l1).trans HG1.out))
  have l2 : w.heap.size < w2.heap.size := by have := hb2.size; simp at this; omega
  clear hb2 HG1 B1 HT1 HW
  go_wp2_with fail
  refine (show Calls Tryz.prog 16 #[.int .i64 (vs.length : Int), ndV d] _ _ from (HRt _).out).mono ?_
  obtain ⟨q, hq⟩ : ∃ q, q = dg (hdText vs.length d) := ⟨_, rfl⟩
  rw [← hq]
  have HQ : Hid _ := hq
  clear hq
  rintro e w3 ⟨rfl, hb3⟩
  have B3 : Hid (Below w.heap.size w w3) := hid ((B2.out.alloc (by omega) _).trans (hb3.mono (by simp; omega)))
  have hg3 : w3.heap[w.heap.size]? = some (.cells #[.int .i64 0, .int .u8 0, .int .u8 0] 58 (0, 0)) := (hb3.block _ (by simp; omega)).trans ((Below.heap_alloc _ _ _ l2).trans HG2.out)
  have HG3 : Hid _ := hg3
  have l3 : w.heap.size < w3.heap.size := (Array.getElem?_eq_some_iff.1 hg3).1
  have k0 : w3.cell? ⟨w.heap.size, 0, none⟩ = some (.int .i64 0) := by rw [cell_of_row w3 _ _ _ _ _ hg3]; rfl
  have k1 : w3.cell? ⟨w.heap.size, 1, none⟩ = some (.int .u8 0) := by rw [cell_of_row w3 _ _ _ _ _ hg3]; rfl
  have k2 : w3.cell? ⟨w.heap.size, 2, none⟩ = some (.int .u8 0) := by rw [cell_of_row w3 _ _ _ _ _ hg3]; rfl
  have ff : ∀ o, w3.frozen? ⟨w.heap.size, o, none⟩ = false := fun o => by simp [World.frozen?, hg3]
  clear hb3 hg3 HG2 B2 HRt
  go_wp2
  refine ret_head2 Tryz.results40 ((Below.heap_alloc _ _ _ (by simp; omega)).trans (set3 HG3.out _ _ _)) rfl rfl ⟨by rw [← HQ.out]; rfl, ?_⟩
  refine Below.alloc ?_ (by simp; omega) _
  repeat (refine Below.setCell ?_ (by simp) _)
  exact B3.out
set_option maxHeartbeats 1000000 in
set_option maxRecDepth 100000 in
theorem refHead_no (w : World) (R : Nat) (t n : Int) (hTr : ∀ w', Below w.heap.size w w' → Calls Tryz.prog 78 #[.pointer (some ⟨R, 0, none⟩), .int .i64 t, .int .i64 n] w' fun e w2 => e = .returned noTree ∧ Below w'.heap.size w' w2) :
    Calls Tryz.prog 40 #[.pointer (some ⟨R, 0, none⟩), .int .i64 t, .int .i64 n] w fun e w' => e = .returned noHead ∧ Below w.heap.size w w' := by
  have HT : Hid _ := hTr
  clear hTr
  go_enter Tryz.func40, Tryz.ntmps40
  go_wp2_with fail
  refine (HT.out _ ((Below.refl _ _).alloc (Nat.le_refl _) _)).mono ?_
  rintro e w1 ⟨rfl, hb1⟩
  rw [noTree]
  have hg3 : w1.heap[w.heap.size]? = some (.cells #[.int .i64 0, .int .u8 0, .int .u8 0] 58 (0, 0)) := (hb1.block _ (by simp)).trans (heap_alloc_new w _)
  have HG3 : Hid _ := hg3
  have B3 : Hid (Below w.heap.size w w1) := hid (((Below.refl _ _).alloc (Nat.le_refl _) _).trans (hb1.mono (by simp)))
  have l3 : w.heap.size < w1.heap.size := (Array.getElem?_eq_some_iff.1 hg3).1
  have k0 : w1.cell? ⟨w.heap.size, 0, none⟩ = some (.int .i64 0) := by rw [cell_of_row w1 _ _ _ _ _ hg3]; rfl
  have k1 : w1.cell? ⟨w.heap.size, 1, none⟩ = some (.int .u8 0) := by rw [cell_of_row w1 _ _ _ _ _ hg3]; rfl
  have k2 : w1.cell? ⟨w.heap.size, 2, none⟩ = some (.int .u8 0) := by rw [cell_of_row w1 _ _ _ _ _ hg3]; rfl
  have ff : ∀ o, w1.frozen? ⟨w.heap.size, o, none⟩ = false := fun o => by simp [World.frozen?, hg3]
  clear hb1 hg3 HT
  go_wp2
  refine ret_head2 Tryz.results40 ((Below.heap_alloc _ _ _ (by simp; omega)).trans (set3 HG3.out _ _ _)) rfl rfl ⟨rfl, ?_⟩
  refine Below.alloc ?_ (by simp; omega) _
  repeat (refine Below.setCell ?_ (by simp) _)
  exact B3.out
end Go.Proofs.YtogmdaopfnmobaaGreat

/- What the document's own answer does (notaryref): the store: Ask, Grown. -/
namespace Go.Proofs.YtogmdaopfnmobaaGreat
open Go.RowKit
theorem write_prf (tb : Bool) (vs : List Int) (hs : List Bool) (f t : Nat) (h : vs.length ≤ 64) (hv : ∀ v ∈ vs, 0 ≤ v ∧ v ≤ 1000000) (w : World) (ao : Option Addr) (c base : Nat) (ho : w.ownsRow base 51 6 (.slice ao (prfN tb vs hs f t).length c) (prfN tb vs hs f t).length ((prfN tb vs hs f t).flatMap Nd.cells)) :
    Calls Tryz.prog 94 #[.slice ao (prfN tb vs hs f t).length c] w fun e w' => e = .returned (.tuple #[.string (prfB tb vs hs f t), .int .i64 0]) ∧ Below w.heap.size w w' := by
  have hl := prf_len tb vs hs f t h
  have hok := prf_ok tb vs hs f t h hv
  have := refWrite_any _ _ w (Nodes.own ho (by omega))
  rw [writeB, if_pos ⟨hl, hok⟩, writeE, if_neg (by omega), if_pos hok] at this
  exact this
set_option maxHeartbeats 2000000 in
set_option maxRecDepth 100000 in
theorem refAsk_ok (w : World) (R : Nat) (t : Int) (n f u : Nat) (tb : Bool) (vs : List Int) (hs : List Bool) (hSz : ∀ w', Below w.heap.size w w' → Calls Tryz.prog 136 #[.pointer (some ⟨R, 0, none⟩), .int .i64 t] w' fun e w2 => e = .returned (.int .i64 n) ∧ w2 = w')
    (hTr : ∀ w', Below w.heap.size w w' → Calls Tryz.prog 78 #[.pointer (some ⟨R, 0, none⟩), .int .i64 t, .int .i64 n] w' (treePost tb vs hs w')) (hn : vs.length = n) (hn64 : n ≤ 64) (hval : ∀ v ∈ vs, 0 ≤ v ∧ v ≤ 1000000) (hfu : f ≤ u) (hun : u ≤ n) :
    Calls Tryz.prog 134 #[.pointer (some ⟨R, 0, none⟩), .int .i64 t, .int .i64 f, .int .i64 u] w fun e w' => e = .returned (askV (fv (lf tb vs hs) f (u - f)) (prfB tb vs hs f u)) ∧ Below w.heap.size w w' := by
  subst hn
  have HZ : Hid _ := hSz
  have HT : Hid _ := hTr
  clear hTr hSz
  have HCv : ∀ w', Hid (Calls Tryz.prog 79 #[.int .i64 0, .int .i64 (vs.length : Int), .int .i64 f, .int .i64 u] w' (covPost (cov 0 vs.length f u) w')) := fun w' => hid (refCover_any f u (by omega) (by omega) vs.length 0 vs.length w' (by omega) (by omega) hn64 (by omega))
  have HF : ∀ vv hv w', Hid (TreeIn w' w'.heap.size vv hv vs hs → Calls Tryz.prog 137 #[.agg #[.bool tb, vv, hv], .int .i64 f, .int .i64 u] w' _) := fun vv hv w' => hid fun h => refFold_any tb vv hv vs hs f u w' h hfu hun
  have HN : ∀ vv hv base g cap w', Hid (TreeIn w' w'.heap.size vv hv vs hs → w'.ownsRow base 188 3 (.slice (some ⟨g, 0, none⟩) (cov 0 vs.length f u).length cap) (cov 0 vs.length f u).length (spRow (cov 0 vs.length f u)) → Calls Tryz.prog 135 #[.agg #[.bool tb, vv, hv], .slice (some ⟨g, 0, none⟩) (cov 0 vs.length f u).length cap] w' (nodesPost (prfN tb vs hs f u) w')) := fun vv hv base g cap w' => hid fun h ho =>
    refNodes_any tb vv hv vs hs _ base g cap w' h ho (fun p hp => (cov_in f u vs.length 0 vs.length (by omega) (by omega) p hp).2.2) (by have := (cov_len f u vs.length 0 vs.length (by omega)).2; omega)
  have HWr := write_prf tb vs hs f u hn64 hval
  have HW : ∀ ao c base w', Hid (w'.ownsRow base 51 6 (.slice ao (prfN tb vs hs f u).length c) (prfN tb vs hs f u).length ((prfN tb vs hs f u).flatMap Nd.cells) → Calls Tryz.prog 94 #[.slice ao (prfN tb vs hs f u).length c] w' _) := fun ao c base w' => hid fun ho => HWr w' ao c base ho
  clear HWr
  generalize hC : cov 0 vs.length f u = C at HCv HN
  generalize prfN tb vs hs f u = P at HN HW
  generalize prfB tb vs hs f u = Bt at HW
  generalize fv (lf tb vs hs) f (u - f) = z at HF
  clear hC
  have i1 : ¬ (f : Int) < 0 := by omega
  have i2 : ¬ (u : Int) < f := by omega
  have i3 : ¬ (vs.length : Int) < u := by omega
  go_enter Tryz.func134, Tryz.ntmps134
  go_wp2_with fail
  refine (HZ.out _ ((Below.refl _ _).alloc (Nat.le_refl _) _)).mono ?_
  rintro e w0 ⟨rfl, hw0⟩
  rw [hw0]
  clear hw0 w0 HZ
  go_wp2_with fail
  refine (HT.out _ ((Below.refl _ _).alloc (Nat.le_refl _) _)).mono ?_
  rintro e w1 ⟨a1, p1, a2, n2, p2, rfl, hT1, hb1⟩
  have hg1 : FoAt w1 w.heap.size .zero := (FoAt.at w w.heap.size rfl .zero).below hb1 (by simp)
  have HG1 : Hid (FoAt w1 w.heap.size .zero) := hg1
  have B1 : Hid (Below w.heap.size w w1) := hid (((Below.refl _ _).alloc (Nat.le_refl _) _).trans (hb1.mono (by simp)))
  have HT1 : Hid _ := hT1
  have l1 : w.heap.size < w1.heap.size := hg1.lt
  clear hb1 hg1 hT1 HT
  go_wp2_with fail
  refine (HCv _).out.mono ?_
  rintro e w2 ⟨g2, p2', rfl, ho2, hb2⟩
  have hc2 := oldc hb2
  have l2 : w1.heap.size < w2.heap.size := by have := hb2.size; simp at this; omega
  have B2 : Hid (Below w1.heap.size w1 w2) := hid (((Below.refl _ _).alloc (Nat.le_refl _) _).trans (hb2.mono (by simp)))
  have HO2 : Hid (w2.ownsRow _ 188 3 (.slice (some ⟨g2, 0, none⟩) C.length p2') C.length (spRow C)) := ho2
  clear hb2 ho2 HCv
  go_wp2_with fail
  refine ((HN _ _ _ _ _ _).out ((HT1.out.below B2.out).mono (by omega)) HO2.out).mono ?_
  rintro e w3 ⟨ao3, c3, rfl, ho3, hb3⟩
  have hc3 := oldc hb3
  have l3 : w1.heap.size < w3.heap.size := by have := hb3.size; omega
  have B3 : Hid (Below w1.heap.size w1 w3) := hid (B2.out.trans (hb3.mono (by omega)))
  have HO3 : Hid (w3.ownsRow _ 51 6 (.slice ao3 P.length c3) P.length (P.flatMap Nd.cells)) := ho3
  clear hb3 ho3 HN HO2 B2
  go_wp2_with fail
  refine ((HW _ _ _ _).out HO3.out).mono ?_
  rintro e w4 ⟨rfl, hb4⟩
  have hc4 := oldc hb4
  have l4 : w1.heap.size < w4.heap.size := by have := hb4.size; omega
  have B4 : Hid (Below w1.heap.size w1 w4) := hid (B3.out.trans (hb4.mono (by omega)))
  clear hb4 HO3 B3 HW
  go_wp2_with fail
  refine ((HF _ _ _).out ((HT1.out.below B4.out).mono (by omega))).mono ?_
  rintro e w5 ⟨rfl, hb5⟩
  rw [foV]
  have l5 : w.heap.size < w5.heap.size := by have := hb5.size; omega
  have B5 : Hid (Below w1.heap.size w1 w5) := hid (B4.out.trans (hb5.mono (by omega)))
  have hg5 : FoAt w5 w.heap.size .zero := HG1.out.below B5.out l1
  have HG5 : Hid (FoAt w5 w.heap.size .zero) := hg5
  obtain ⟨⟨k0, k1, k2, k3⟩, ff⟩ := hg5.cells
  clear hb5 HF B4 HG1 hg5 hc2 hc3 hc4
  go_wp2
  refine ret_fold3 Tryz.results134 (FoAt.set (show FoAt _ _ _ from HG5.out) z) rfl rfl rfl ⟨rfl, ?_⟩
  repeat (refine Below.setCell ?_ (by simp) _)
  exact B1.out.trans (B5.out.mono (by omega))
set_option maxHeartbeats 2000000 in
set_option maxRecDepth 100000 in
theorem refAsk_no1 (w : World) (R : Nat) (t n f u : Int) (hSz : ∀ w', Below w.heap.size w w' → Calls Tryz.prog 136 #[.pointer (some ⟨R, 0, none⟩), .int .i64 t] w' fun e w2 => e = .returned (.int .i64 n) ∧ w2 = w')
    (hTr : ∀ w', Below w.heap.size w w' → Calls Tryz.prog 78 #[.pointer (some ⟨R, 0, none⟩), .int .i64 t, .int .i64 n] w' fun e w2 => e = .returned noTree ∧ Below w'.heap.size w' w2) :
    Calls Tryz.prog 134 #[.pointer (some ⟨R, 0, none⟩), .int .i64 t, .int .i64 f, .int .i64 u] w fun e w' => e = .returned noAsk ∧ Below w.heap.size w w' := by
  have HZ : Hid _ := hSz
  have HT : Hid _ := hTr
  clear hTr hSz
  go_enter Tryz.func134, Tryz.ntmps134
  go_wp2_with fail
  refine (HZ.out _ ((Below.refl _ _).alloc (Nat.le_refl _) _)).mono ?_
  rintro e w0 ⟨rfl, hw0⟩
  rw [hw0]
  clear hw0 w0 HZ
  go_wp2_with fail
  refine (HT.out _ ((Below.refl _ _).alloc (Nat.le_refl _) _)).mono ?_
  rintro e w1 ⟨rfl, hb1⟩; rw [noTree]
  have hg1 : FoAt w1 w.heap.size .zero := (FoAt.at w w.heap.size rfl .zero).below hb1 (by simp)
  have HG1 : Hid (FoAt w1 w.heap.size .zero) := hg1
  have B1 : Hid (Below w.heap.size w w1) := hid (((Below.refl _ _).alloc (Nat.le_refl _) _).trans (hb1.mono (by simp)))
  have l1 : w.heap.size < w1.heap.size := hg1.lt
  obtain ⟨⟨k0, k1, k2, k3⟩, ff⟩ := hg1.cells
  clear hb1 hg1 HT
  go_wp2
  refine ret_fold3 Tryz.results134 (FoAt.alloc (FoAt.set (show FoAt _ _ _ from HG1.out) .zero) _) rfl rfl rfl ⟨rfl, ?_⟩
  refine Below.alloc ?_ (by simp; omega) _
  repeat (refine Below.setCell ?_ (by simp) _)
  exact B1.out
set_option maxHeartbeats 2000000 in
set_option maxRecDepth 100000 in
theorem refAsk_no2 (w : World) (R : Nat) (t n f u : Int) (tb : Bool) (vs : List Int) (hs : List Bool) (hSz : ∀ w', Below w.heap.size w w' → Calls Tryz.prog 136 #[.pointer (some ⟨R, 0, none⟩), .int .i64 t] w' fun e w2 => e = .returned (.int .i64 n) ∧ w2 = w')
    (hTr : ∀ w', Below w.heap.size w w' → Calls Tryz.prog 78 #[.pointer (some ⟨R, 0, none⟩), .int .i64 t, .int .i64 n] w' (treePost tb vs hs w')) (hbad : f < 0 ∨ u < f ∨ n < u) :
    Calls Tryz.prog 134 #[.pointer (some ⟨R, 0, none⟩), .int .i64 t, .int .i64 f, .int .i64 u] w fun e w' => e = .returned noAsk ∧ Below w.heap.size w w' := by
  have HZ : Hid _ := hSz
  have HT : Hid _ := hTr
  clear hTr hSz
  by_cases c1 : f < 0
  · clear hbad
    go_enter Tryz.func134, Tryz.ntmps134
    go_wp2_with fail
    refine (HZ.out _ ((Below.refl _ _).alloc (Nat.le_refl _) _)).mono ?_
    rintro e w0 ⟨rfl, hw0⟩
    rw [hw0]
    clear hw0 w0 HZ
    go_wp2_with fail
    refine (HT.out _ ((Below.refl _ _).alloc (Nat.le_refl _) _)).mono ?_
    rintro e w1 ⟨a1, p1, a2, n2, p2, rfl, _, hb1⟩
    have hg1 : FoAt w1 w.heap.size .zero := (FoAt.at w w.heap.size rfl .zero).below hb1 (by simp)
    have HG1 : Hid (FoAt w1 w.heap.size .zero) := hg1
    have B1 : Hid (Below w.heap.size w w1) := hid (((Below.refl _ _).alloc (Nat.le_refl _) _).trans (hb1.mono (by simp)))
    have l1 : w.heap.size < w1.heap.size := hg1.lt
    obtain ⟨⟨k0, k1, k2, k3⟩, ff⟩ := hg1.cells
    clear hb1 hg1 HT
    go_wp2
    refine ret_fold3 Tryz.results134 (FoAt.alloc (FoAt.set (show FoAt _ _ _ from HG1.out) .zero) _) rfl rfl rfl ⟨rfl, ?_⟩
    refine Below.alloc ?_ (by simp; omega) _
    repeat (refine Below.setCell ?_ (by simp) _)
    exact B1.out
  · by_cases c2 : u < f
    · clear hbad
      go_enter Tryz.func134, Tryz.ntmps134
      go_wp2_with fail
      refine (HZ.out _ ((Below.refl _ _).alloc (Nat.le_refl _) _)).mono ?_
      rintro e w0 ⟨rfl, hw0⟩
      rw [hw0]
      clear hw0 w0 HZ
      go_wp2_with fail
      refine (HT.out _ ((Below.refl _ _).alloc (Nat.le_refl _) _)).mono ?_
      rintro e w1 ⟨a1, p1, a2, n2, p2, rfl, _, hb1⟩
      have hg1 : FoAt w1 w.heap.size .zero := (FoAt.at w w.heap.size rfl .zero).below hb1 (by simp)
      have HG1 : Hid (FoAt w1 w.heap.size .zero) := hg1
      have B1 : Hid (Below w.heap.size w w1) := hid (((Below.refl _ _).alloc (Nat.le_refl _) _).trans (hb1.mono (by simp)))
      have l1 : w.heap.size < w1.heap.size := hg1.lt
      obtain ⟨⟨k0, k1, k2, k3⟩, ff⟩ := hg1.cells
      clear hb1 hg1 HT
      go_wp2
      refine ret_fold3 Tryz.results134 (FoAt.alloc (FoAt.set (show FoAt _ _ _ from HG1.out) .zero) _) rfl rfl rfl ⟨rfl, ?_⟩
      refine Below.alloc ?_ (by simp; omega) _
      repeat (refine Below.setCell ?_ (by simp) _)
      exact B1.out
    · have c3 : n < u := by omega
      clear hbad
      go_enter Tryz.func134, Tryz.ntmps134
      go_wp2_with fail
      refine (HZ.out _ ((Below.refl _ _).alloc (Nat.le_refl _) _)).mono ?_
      rintro e w0 ⟨rfl, hw0⟩
      rw [hw0]
      clear hw0 w0 HZ
      go_wp2_with fail
      refine (HT.out _ ((Below.refl _ _).alloc (Nat.le_refl _) _)).mono ?_
      rintro e w1 ⟨a1, p1, a2, n2, p2, rfl, _, hb1⟩
      have hg1 : FoAt w1 w.heap.size .zero := (FoAt.at w w.heap.size rfl .zero).below hb1 (by simp)
      have HG1 : Hid (FoAt w1 w.heap.size .zero) := hg1
      have B1 : Hid (Below w.heap.size w w1) := hid (((Below.refl _ _).alloc (Nat.le_refl _) _).trans (hb1.mono (by simp)))
      have l1 : w.heap.size < w1.heap.size := hg1.lt
      obtain ⟨⟨k0, k1, k2, k3⟩, ff⟩ := hg1.cells
      clear hb1 hg1 HT
      go_wp2
      refine ret_fold3 Tryz.results134 (FoAt.alloc (FoAt.set (show FoAt _ _ _ from HG1.out) .zero) _) rfl rfl rfl ⟨rfl, ?_⟩
      refine Below.alloc ?_ (by simp; omega) _
      repeat (refine Below.setCell ?_ (by simp) _)
      exact B1.out
end Go.Proofs.YtogmdaopfnmobaaGreat

/- What the document's own answer does (notaryref): the store: Grown. -/
namespace Go.Proofs.YtogmdaopfnmobaaGreat
open Go.RowKit
set_option maxHeartbeats 2000000 in
set_option maxRecDepth 100000 in
theorem refGrown_no (w : World) (base R : Nat) (s : Sto) (lv : Value) (K H : Nat) (n : Int) (h : RSt w base R s lv K H) (hbad : n < 1 ∨ s.l.length < n) :
    Calls Tryz.prog 101 #[.pointer (some ⟨R, 0, none⟩), .int .i64 n] w fun e w' => e = .returned (.tuple #[.string ⟨#[]⟩, .int .i64 5]) ∧ Below w.heap.size w w' := by
  obtain ⟨⟨c0, c1, c2⟩, hfz⟩ := h.cells
  obtain ⟨ao, cap, rfl⟩ := own_shape h.hL
  clear h
  by_cases h1 : n < 1
  · clear hbad
    go_enter Tryz.func101, Tryz.ntmps101
    go_wp2
    go_ret2
    exact ⟨rfl, Below.refl _ _⟩
  · have h2 : (s.l.length : Int) < n := by omega
    clear hbad
    go_enter Tryz.func101, Tryz.ntmps101
    go_wp2
    go_ret2
    exact ⟨rfl, Below.refl _ _⟩
set_option maxHeartbeats 2000000 in
set_option maxRecDepth 100000 in
theorem refGrown_ok (w : World) (base R : Nat) (s : Sto) (lv : Value) (K H : Nat) (n : Nat) (h : RSt w base R s lv K H) (h1 : 1 ≤ n) (h2 : n ≤ s.l.length) :
    Calls Tryz.prog 101 #[.pointer (some ⟨R, 0, none⟩), .int .i64 n] w fun e w' => e = .returned (.tuple #[.string (prfB false s.l (List.replicate s.l.length true) 0 n), .int .i64 0]) ∧ Below w.heap.size w w' := by
  have hlen := h.ok.len
  have hval := h.ok.val
  have HLg : ∀ w', Hid (Below w.heap.size w w' → Calls Tryz.prog 14 #[lv] w' (logPost lv s.l w')) := fun w' => hid fun hb => refLogOf_any lv s.l w' ((h.log1.below hb).mono hb.size) hval hlen
  obtain ⟨⟨c0, c1, c2⟩, hfz⟩ := h.cells
  have hRl := h.lt.1
  obtain ⟨ao, cap, rfl⟩ := own_shape h.hL
  clear h
  generalize hvs : s.l = vs at *
  clear hvs
  have HCv : ∀ w', Hid (Calls Tryz.prog 79 #[.int .i64 0, .int .i64 (vs.length : Int), .int .i64 0, .int .i64 n] w' (covPost (cov 0 vs.length 0 n) w')) := fun w' => hid (refCover_any 0 n (by omega) (by omega) vs.length 0 vs.length w' (by omega) (by omega) hlen (by omega))
  obtain ⟨hs, hhs⟩ : ∃ hs, hs = List.replicate vs.length true := ⟨_, rfl⟩
  have HH : Hid _ := hhs
  rw [← hhs]
  clear hhs
  have HN : ∀ vv hv base g cap w', Hid (TreeIn w' w'.heap.size vv hv vs hs → w'.ownsRow base 188 3 (.slice (some ⟨g, 0, none⟩) (cov 0 vs.length 0 n).length cap) (cov 0 vs.length 0 n).length (spRow (cov 0 vs.length 0 n)) → Calls Tryz.prog 135 #[.agg #[.bool false, vv, hv], .slice (some ⟨g, 0, none⟩) (cov 0 vs.length 0 n).length cap] w' (nodesPost (prfN false vs hs 0 n) w')) := fun vv hv base g cap w' => hid fun h ho =>
    refNodes_any false vv hv vs hs _ base g cap w' h ho (fun p hp => (cov_in 0 n vs.length 0 vs.length (by omega) (by omega) p hp).2.2) (by have := (cov_len 0 n vs.length 0 vs.length (by omega)).2; omega)
  have HWr := write_prf false vs hs 0 n hlen hval
  have HW : ∀ ao c base w', Hid (w'.ownsRow base 51 6 (.slice ao (prfN false vs hs 0 n).length c) (prfN false vs hs 0 n).length ((prfN false vs hs 0 n).flatMap Nd.cells) → Calls Tryz.prog 94 #[.slice ao (prfN false vs hs 0 n).length c] w' _) := fun ao c base w' => hid fun ho => HWr w' ao c base ho
  clear HWr
  generalize hC : cov 0 vs.length 0 n = C at HCv HN
  generalize prfN false vs hs 0 n = P at HN HW
  generalize prfB false vs hs 0 n = Bt at HW
  clear hC
  have i1 : ¬ (n : Int) < 1 := by omega
  have i3 : ¬ (vs.length : Int) < n := by omega
  go_enter Tryz.func101, Tryz.ntmps101
  go_wp2_with fail
  refine ((HLg _).out (Below.refl _ _)).mono ?_
  rintro e w1 ⟨⟨g, rfl, _, hT1⟩, hb1⟩
  rw [← HH.out] at hT1
  have HT1 : Hid _ := hT1
  have hc1 := oldc hb1
  have B1 : Hid (Below w.heap.size w w1) := hb1
  have l1 : R < w1.heap.size := by have := hb1.size; omega
  clear hb1 hT1 HLg
  go_wp2_with fail
  refine (HCv _).out.mono ?_
  rintro e w2 ⟨g2, p2', rfl, ho2, hb2⟩
  have hc2 := oldc hb2
  have l2 : w1.heap.size < w2.heap.size := by have := hb2.size; simp at this; omega
  have B2 : Hid (Below w1.heap.size w1 w2) := hid (((Below.refl _ _).alloc (Nat.le_refl _) _).trans (hb2.mono (by simp)))
  have HO2 : Hid (w2.ownsRow _ 188 3 (.slice (some ⟨g2, 0, none⟩) C.length p2') C.length (spRow C)) := ho2
  clear hb2 ho2 HCv
  go_wp2_with fail
  refine ((HN _ _ _ _ _ _).out ((HT1.out.below B2.out).mono (by omega)) HO2.out).mono ?_
  rintro e w3 ⟨ao3, c3, rfl, ho3, hb3⟩
  have B3 : Hid (Below w1.heap.size w1 w3) := hid (B2.out.trans (hb3.mono (by omega)))
  have HO3 : Hid (w3.ownsRow _ 51 6 (.slice ao3 P.length c3) P.length (P.flatMap Nd.cells)) := ho3
  have l3 : w1.heap.size < w3.heap.size := by have := hb3.size; omega
  clear hb3 ho3 HN HO2 B2
  go_wp2_with fail
  refine ((HW _ _ _ _).out HO3.out).mono ?_
  rintro e w4 ⟨rfl, hb4⟩
  have fin : Hid (Below w.heap.size w w4) := hid (B1.out.trans ((B3.out.trans (hb4.mono (by omega))).mono B1.out.size))
  clear hb4 HO3 B3 HW hc1 hc2
  go_wp2
  go_ret2
  exact ⟨rfl, fin.out⟩
end Go.Proofs.YtogmdaopfnmobaaGreat

