/- What the document's own answer does (notaryref): the store: Tree. -/
import Derived.Test.YtogmdaopfnmobaaGreatP16
namespace Go.Proofs.YtogmdaopfnmobaaGreat
open Go.RowKit

theorem ret_tree2 {w : World} {g : Nat} {c0 c1 c2 v : Value} {fn : Func} {R : Ending → World → Prop} {tmps : Array Value} {k j : Nat} (hf : fn.results = #[.cell k 53, .tmp j]) (h : w.heap[g]? = some (.cells #[c0, c1, c2] 53 (0, 0)))
    (h2 : tmps[k]? = some (.pointer (some ⟨g, 0, none⟩))) (h3 : tmps[j]? = some v) (hR : R (.returned (.tuple #[.agg #[c0, c1, c2], v])) w) : bodyPost Tryz.prog fn R .ret ⟨tmps, []⟩ w := by
  have k0 : w.cell? ⟨g, 0, none⟩ = some c0 := by rw [cell_of_row w _ _ _ _ _ h]; rfl
  have k1 : w.cell? ⟨g, 1, none⟩ = some c1 := by rw [cell_of_row w _ _ _ _ _ h]; rfl
  have k2 : w.cell? ⟨g, 2, none⟩ = some c2 := by rw [cell_of_row w _ _ _ _ _ h]; rfl
  refine bodyPost_ret (v := .tuple #[.agg #[c0, c1, c2], v]) ?_ rfl hR
  simp [results, hf, go_sem, h2, h3, k0, k1, k2]

def treePost (tb : Bool) (vs : List Int) (hs : List Bool) (w : World) (e : Ending) (w' : World) : Prop :=
  ∃ a1 c1 a2 n2 c2, e = .returned (.tuple #[.agg #[.bool tb, .slice a1 vs.length c1, .slice a2 n2 c2], .bool true]) ∧ TreeIn w' w'.heap.size (.slice a1 vs.length c1) (.slice a2 n2 c2) vs hs ∧ Below w.heap.size w w'

theorem Cells1.take {w : World} {B : Nat} {ao : Option Addr} {n cap : Nat} {l : List Value} (h : Cells1 w B (.slice ao n cap) l) (k : Nat) (hk : k ≤ l.length) : Cells1 w B (.slice ao k cap) (l.take k) := by
  obtain ⟨ao', cap', hv, hc⟩ := h.ex
  simp only [Value.slice.injEq] at hv
  obtain ⟨rfl, _, rfl⟩ := hv
  refine ⟨ao, cap, by simp; omega, fun i hi => ?_⟩
  have hi' : i < l.length := by simp at hi; omega
  obtain ⟨b, off, ha, hB, hcs⟩ := hc i hi'
  exact ⟨b, off, ha, hB, by rw [hcs, List.getElem_take]⟩

/-- A tree stays where its cells stay. -/
theorem Cells1.far {w : World} {B : Nat} {v : Value} {l : List Value} {g o : Nat} {u : Value} (h : Cells1 w B v l) (hg : ∀ ao n c, v = .slice ao n c → ∀ b off, ao = some ⟨b, off, none⟩ → b ≠ g) : Cells1 (w.setCell ⟨g, o, none⟩ u) B v l := by
  obtain ⟨ao, cap, hv, hc⟩ := h.ex
  refine ⟨ao, cap, hv, fun i hi => ?_⟩
  obtain ⟨b, off, ha, hB, hcs⟩ := hc i hi
  exact ⟨b, off, ha, hB, (World.cell?_of_block (a := ⟨b, off + i, none⟩) (Below.heap_setCell _ _ _ _ (hg _ _ _ hv b off ha))).trans hcs⟩

set_option maxHeartbeats 1000000 in
set_option maxRecDepth 100000 in
theorem refTree_log (w : World) (base R : Nat) (s : Sto) (lv : Value) (K H : Nat) (n : Nat) (h : RSt w base R s lv K H) (hn : n ≤ s.l.length) :
    Calls Tryz.prog 78 #[.pointer (some ⟨R, 0, none⟩), .int .i64 0, .int .i64 n] w (treePost false (s.l.take n) (List.replicate n true) w) := by
  have HS : Hid _ := h
  obtain ⟨⟨c0, c1, c2⟩, hfz⟩ := h.cells
  have hRl := h.lt.1
  have hlen := h.ok.len
  have hlog := h.log1
  have hown := h.hL
  obtain ⟨ao, cap, rfl⟩ := own_shape h.hL
  have hl1 := hlog.take n (by simpa using hn)
  rw [← List.map_take] at hl1
  have hcap : n ≤ cap := by
    rcases hown.2 with ⟨e, h0⟩ | ⟨g, cap', cur, e, _, _, hnc, _⟩
    · omega
    · simp at e; omega
  have hcm : cap ≤ maxLen := by
    rcases hown.2 with ⟨e, h0⟩ | ⟨g, cap', cur, e, _, _, hnc, hcm, _⟩
    · simp at e; unfold maxLen; omega
    · simp at e; omega
  have HC : ∀ w', Hid (Below w.heap.size w w' → Calls Tryz.prog 14 #[.slice ao n cap] w' (logPost (.slice ao n cap) (s.l.take n) w')) := fun w' => hid fun hb =>
    refLogOf_any _ _ w' ((hl1.below hb).mono hb.size) (fun v hv => HS.out.ok.val v (List.mem_of_mem_take hv)) (by simp; omega)
  have HL1 : Hid _ := hl1
  clear h hown hlog hl1
  go_enter Tryz.func78, Tryz.ntmps78
  go_wp2_with fail
  refine ((HC _).out ((Below.refl _ _).alloc (Nat.le_refl _) _)).mono ?_
  rintro e w1 ⟨⟨g, rfl, hgw, hT⟩, hb1⟩
  have hgn : g ≠ w.heap.size := by simp at hgw; omega
  have hg : w1.heap[w.heap.size]? = some (.cells #[.bool false, .slice none 0 0, .slice none 0 0] 53 (0, 0)) := (hb1.block _ (by simp)).trans (heap_alloc_new w _)
  have B1 : Hid (Below w.heap.size w w1) := hid (((Below.refl _ _).alloc (Nat.le_refl _) _).trans (hb1.mono (by simp)))
  have HG : Hid _ := hg
  have k0 : w1.cell? ⟨w.heap.size, 0, none⟩ = some (.bool false) := by rw [cell_of_row w1 _ _ _ _ _ hg]; rfl
  have k1 : w1.cell? ⟨w.heap.size, 1, none⟩ = some (.slice none 0 0) := by rw [cell_of_row w1 _ _ _ _ _ hg]; rfl
  have k2 : w1.cell? ⟨w.heap.size, 2, none⟩ = some (.slice none 0 0) := by rw [cell_of_row w1 _ _ _ _ _ hg]; rfl
  have ff : ∀ o, w1.frozen? ⟨w.heap.size, o, none⟩ = false := fun o => by simp [World.frozen?, hg]
  have hlt : w.heap.size < w1.heap.size := (Array.getElem?_eq_some_iff.1 hg).1
  have hlt' : (s.l.take n).length = n := by simp; omega
  rw [hlt'] at hT ⊢
  have HT : Hid _ := hT
  clear hb1 hT hg HC hgw hlt'
  go_wp2
  refine ret_tree2 Tryz.results78 (set3 HG.out _ _ _) rfl rfl ?_
  have hlt' : (s.l.take n).length = n := by simp; omega
  refine ⟨ao, cap, some ⟨g, 0, none⟩, n, n, by rw [hlt']; rfl, ?_, ?_⟩
  · rw [hlt']
    have hB : Below w.heap.size w (((w1.setCell ⟨w.heap.size, 0, none⟩ (.bool false)).setCell ⟨w.heap.size, 1, none⟩ (.slice ao n cap)).setCell ⟨w.heap.size, 2, none⟩ (.slice (some ⟨g, 0, none⟩) n n)) := by
      repeat (refine Below.setCell ?_ (by simp) _)
      exact B1.out
    have hT := HT.out
    have hz : w1.heap.size ≤ (((w1.setCell ⟨w.heap.size, 0, none⟩ (.bool false)).setCell ⟨w.heap.size, 1, none⟩ (.slice ao n cap)).setCell ⟨w.heap.size, 2, none⟩ (.slice (some ⟨g, 0, none⟩) n n)).heap.size := by simp [World.setCell]
    refine ⟨(HL1.out.below hB).mono hB.size, Cells1.mono (Cells1.far (Cells1.far (Cells1.far hT.hv2 ?_) ?_) ?_) hz, hT.len, hT.small, hT.val⟩ <;>
    · intro ao' n' c' e b off e'
      simp only [Value.slice.injEq] at e
      rw [← e.1] at e'
      simp at e'
      omega
  · repeat (refine Below.setCell ?_ (by simp) _)
    exact B1.out

set_option maxHeartbeats 1000000 in
set_option maxRecDepth 100000 in
theorem refTree_tab (w : World) (base R : Nat) (s : Sto) (lv : Value) (K H : Nat) (h : RSt w base R s lv K H) :
    Calls Tryz.prog 78 #[.pointer (some ⟨R, 0, none⟩), .int .i64 1, .int .i64 32] w (treePost true (tv s.t) (tx s.t) w) := by
  have HS : Hid _ := h
  obtain ⟨⟨c0, c1, c2⟩, hfz⟩ := h.cells
  have hRl := h.lt.1
  have ne1 := World.new_ne w ⟨R, 1, none⟩ (by rw [c1])
  clear h
  go_enter Tryz.func78, Tryz.ntmps78
  go_wp2
  go_region_held3 (fun w' => w'.cell? ⟨R, 1, none⟩ = some (.slice (some ⟨K, 0, none⟩) 32 32) ∧ w'.cell? ⟨R, 2, none⟩ = some (.slice (some ⟨H, 0, none⟩) 32 32)) (go_keep) (fail)
  go_wp2
  refine ret_tree2 Tryz.results78 (heap_alloc_new w _) rfl rfl ?_
  have hB : Below w.heap.size w (w.alloc (.cells #[.bool true, .slice (some ⟨K, 0, none⟩) 32 32, .slice (some ⟨H, 0, none⟩) 32 32] 53)).drew := ((Below.refl _ _).alloc (Nat.le_refl _) _).drew
  have hr := HS.out.below hB
  have l1 : (tv s.t).length = 32 := by simp [tv, HS.out.ok.tlen]
  have l2 : (tx s.t).length = 32 := by simp [tx, HS.out.ok.tlen]
  have e1 := hr.hK.cells1 32
  have e2 := hr.hH.cells1 32
  rw [List.length_map, l1] at e1
  rw [List.length_map, l2] at e2
  exact ⟨some ⟨K, 0, none⟩, 32, some ⟨H, 0, none⟩, 32, 32, by rw [l1]; rfl, by rw [l1]; exact ⟨e1, e2, by rw [l1, l2], by omega, tv_val HS.out.ok⟩, hB⟩

def noTree : Value := .tuple #[.agg #[.bool false, .slice none 0 0, .slice none 0 0], .bool false]

set_option maxHeartbeats 1000000 in
set_option maxRecDepth 100000 in
theorem refTree_no (w : World) (base R : Nat) (s : Sto) (lv : Value) (K H : Nat) (t n : Int) (h : RSt w base R s lv K H) (h0 : t = 0 → n < 0 ∨ s.l.length < n) (h1 : t = 1 → n ≠ 32) :
    Calls Tryz.prog 78 #[.pointer (some ⟨R, 0, none⟩), .int .i64 t, .int .i64 n] w fun e w' => e = .returned noTree ∧ Below w.heap.size w w' := by
  obtain ⟨⟨c0, c1, c2⟩, hfz⟩ := h.cells
  have hRl := h.lt.1
  obtain ⟨ao, cap, rfl⟩ := own_shape h.hL
  clear h
  by_cases e0 : t = 0
  · subst e0
    rcases h0 rfl with hn | hn
    · clear h0 h1
      go_enter Tryz.func78, Tryz.ntmps78
      go_wp2
      refine ret_tree2 Tryz.results78 (heap_alloc_new w _) rfl rfl ⟨rfl, ?_⟩
      exact (Below.refl _ _).alloc (Nat.le_refl _) _
    · have hn' : ¬ n ≤ (s.l.length : Int) := by omega
      have hn0 : 0 ≤ n := by omega
      clear h0 h1
      go_enter Tryz.func78, Tryz.ntmps78
      go_wp2
      refine ret_tree2 Tryz.results78 (heap_alloc_new w _) rfl rfl ⟨rfl, ?_⟩
      exact (Below.refl _ _).alloc (Nat.le_refl _) _
  · have b0 : (t == 0) = false := by simp [e0]
    by_cases e1 : t = 1
    · subst e1
      have b1 : (n == 32) = false := by simp [h1 rfl]
      clear h0 h1
      go_enter Tryz.func78, Tryz.ntmps78
      go_wp2
      refine ret_tree2 Tryz.results78 (heap_alloc_new w _) rfl rfl ⟨rfl, ?_⟩
      exact (Below.refl _ _).alloc (Nat.le_refl _) _
    · have b1 : (t == 1) = false := by simp [e1]
      clear h0 h1
      go_enter Tryz.func78, Tryz.ntmps78
      go_wp2
      refine ret_tree2 Tryz.results78 (heap_alloc_new w _) rfl rfl ⟨rfl, ?_⟩
      exact (Below.refl _ _).alloc (Nat.le_refl _) _

end Go.Proofs.YtogmdaopfnmobaaGreat

/- What the document's own answer does (notaryref): the store: Head. -/
namespace Go.Proofs.YtogmdaopfnmobaaGreat
open Go.RowKit


set_option maxHeartbeats 2000000 in
set_option maxRecDepth 100000 in
theorem refHead_ok (w : World) (R : Nat) (t : Int) (n : Nat) (tb : Bool) (vs : List Int) (hs : List Bool) (hTr : ∀ w', Below w.heap.size w w' → Calls Tryz.prog 78 #[.pointer (some ⟨R, 0, none⟩), .int .i64 t, .int .i64 n] w' (treePost tb vs hs w')) (hn : vs.length = n) (hn64 : n ≤ 64) (hval : ∀ v ∈ vs, 0 ≤ v ∧ v ≤ 1000000) :
    Calls Tryz.prog 40 #[.pointer (some ⟨R, 0, none⟩), .int .i64 t, .int .i64 n] w fun e w' => e = .returned (headV n (dg (hdText n (tr (lf tb vs hs) 0 n)))) ∧ Below w.heap.size w w' := by
  subst hn
  have HT : Hid _ := hTr
  clear hTr
  have HO : Hid _ := tr_ok (tb := tb) (hs := hs) hval 0 vs.length (by omega)
  have HW : ∀ vv hv w', Hid (TreeIn w' w'.heap.size vv hv vs hs → Calls Tryz.prog 15 _ w' _) := fun vv hv w' => hid fun h => refWhole_any tb vv hv vs hs w' h
  have HRt : ∀ w', Hid (Calls Tryz.prog 16 #[.int .i64 (vs.length : Int), ndV (tr (lf tb vs hs) 0 vs.length)] w' _) := fun w' => hid (refRoot_any vs.length _ w' (by omega) HO.out)
  generalize tr (lf tb vs hs) 0 vs.length = d at HO HW HRt
  go_enter Tryz.func40, Tryz.ntmps40
  go_wp2_with fail
  refine (HT.out _ ((Below.refl _ _).alloc (Nat.le_refl _) _)).mono ?_
  rintro e w1 ⟨a1, p1, a2, n2, p2, rfl, hT1, hb1⟩
  have hg1 : w1.heap[w.heap.size]? = some (.cells #[.int .i64 0, .int .u8 0, .int .u8 0] 58 (0, 0)) := (hb1.block _ (by simp)).trans (heap_alloc_new w _)
  have HG1 : Hid _ := hg1
  have B1 : Hid (Below w.heap.size w w1) := hid (((Below.refl _ _).alloc (Nat.le_refl _) _).trans (hb1.mono (by simp)))
  have HT1 : Hid _ := hT1
  have l1 : w.heap.size < w1.heap.size := (Array.getElem?_eq_some_iff.1 hg1).1
  clear hb1 hg1 hT1 HT
  go_wp2_with fail
  refine ((HW _ _ _).out ((HT1.out.below ((Below.refl _ _).alloc (Nat.le_refl _) _)).mono (by simp))).mono ?_
  rintro e w2 ⟨rfl, hb2⟩
  rw [ndV]
  have B2 : Hid (Below w.heap.size w w2) := hid ((B1.out.alloc (by omega) _).trans (hb2.mono (by simp; omega)))
  have HG2 : Hid (w2.heap[w.heap.size]? = some (.cells #[.int .i64 0, .int .u8 0, .int .u8 0] 58 (0, 0))) := hid ((hb2.block _ (by simp; omega)).trans ((Below.heap_alloc _ _ _ l1).trans HG1.out))
  have l2 : w.heap.size < w2.heap.size := by have := hb2.size; simp at this; omega
  clear hb2 HG1 B1 HT1 HW
  go_wp2_with fail
  refine (show Calls Tryz.prog 16 #[.int .i64 (vs.length : Int), ndV d] _ _ from (HRt _).out).mono ?_
  obtain ⟨q, hq⟩ : ∃ q, q = dg (hdText vs.length d) := ⟨_, rfl⟩
  rw [← hq]
  have HQ : Hid _ := hq
  clear hq
  rintro e w3 ⟨rfl, hb3⟩
  have B3 : Hid (Below w.heap.size w w3) := hid ((B2.out.alloc (by omega) _).trans (hb3.mono (by simp; omega)))
  have hg3 : w3.heap[w.heap.size]? = some (.cells #[.int .i64 0, .int .u8 0, .int .u8 0] 58 (0, 0)) := (hb3.block _ (by simp; omega)).trans ((Below.heap_alloc _ _ _ l2).trans HG2.out)
  have HG3 : Hid _ := hg3
  have l3 : w.heap.size < w3.heap.size := (Array.getElem?_eq_some_iff.1 hg3).1
  have k0 : w3.cell? ⟨w.heap.size, 0, none⟩ = some (.int .i64 0) := by rw [cell_of_row w3 _ _ _ _ _ hg3]; rfl
  have k1 : w3.cell? ⟨w.heap.size, 1, none⟩ = some (.int .u8 0) := by rw [cell_of_row w3 _ _ _ _ _ hg3]; rfl
  have k2 : w3.cell? ⟨w.heap.size, 2, none⟩ = some (.int .u8 0) := by rw [cell_of_row w3 _ _ _ _ _ hg3]; rfl
  have ff : ∀ o, w3.frozen? ⟨w.heap.size, o, none⟩ = false := fun o => by simp [World.frozen?, hg3]
  clear hb3 hg3 HG2 B2 HRt
  go_wp2
  refine ret_head2 Tryz.results40 ((Below.heap_alloc _ _ _ (by simp; omega)).trans (set3 HG3.out _ _ _)) rfl rfl ⟨by rw [← HQ.out]; rfl, ?_⟩
  refine Below.alloc ?_ (by simp; omega) _
  repeat (refine Below.setCell ?_ (by simp) _)
  exact B3.out

set_option maxHeartbeats 1000000 in
set_option maxRecDepth 100000 in
theorem refHead_no (w : World) (R : Nat) (t n : Int) (hTr : ∀ w', Below w.heap.size w w' → Calls Tryz.prog 78 #[.pointer (some ⟨R, 0, none⟩), .int .i64 t, .int .i64 n] w' fun e w2 => e = .returned noTree ∧ Below w'.heap.size w' w2) :
    Calls Tryz.prog 40 #[.pointer (some ⟨R, 0, none⟩), .int .i64 t, .int .i64 n] w fun e w' => e = .returned noHead ∧ Below w.heap.size w w' := by
  have HT : Hid _ := hTr
  clear hTr
  go_enter Tryz.func40, Tryz.ntmps40
  go_wp2_with fail
  refine (HT.out _ ((Below.refl _ _).alloc (Nat.le_refl _) _)).mono ?_
  rintro e w1 ⟨rfl, hb1⟩
  rw [noTree]
  have hg3 : w1.heap[w.heap.size]? = some (.cells #[.int .i64 0, .int .u8 0, .int .u8 0] 58 (0, 0)) := (hb1.block _ (by simp)).trans (heap_alloc_new w _)
  have HG3 : Hid _ := hg3
  have B3 : Hid (Below w.heap.size w w1) := hid (((Below.refl _ _).alloc (Nat.le_refl _) _).trans (hb1.mono (by simp)))
  have l3 : w.heap.size < w1.heap.size := (Array.getElem?_eq_some_iff.1 hg3).1
  have k0 : w1.cell? ⟨w.heap.size, 0, none⟩ = some (.int .i64 0) := by rw [cell_of_row w1 _ _ _ _ _ hg3]; rfl
  have k1 : w1.cell? ⟨w.heap.size, 1, none⟩ = some (.int .u8 0) := by rw [cell_of_row w1 _ _ _ _ _ hg3]; rfl
  have k2 : w1.cell? ⟨w.heap.size, 2, none⟩ = some (.int .u8 0) := by rw [cell_of_row w1 _ _ _ _ _ hg3]; rfl
  have ff : ∀ o, w1.frozen? ⟨w.heap.size, o, none⟩ = false := fun o => by simp [World.frozen?, hg3]
  clear hb1 hg3 HT
  go_wp2
  refine ret_head2 Tryz.results40 ((Below.heap_alloc _ _ _ (by simp; omega)).trans (set3 HG3.out _ _ _)) rfl rfl ⟨rfl, ?_⟩
  refine Below.alloc ?_ (by simp; omega) _
  repeat (refine Below.setCell ?_ (by simp) _)
  exact B3.out

end Go.Proofs.YtogmdaopfnmobaaGreat

/- What the document's own answer does (notaryref): the store: Ask, Grown. -/
namespace Go.Proofs.YtogmdaopfnmobaaGreat
open Go.RowKit

/-- Fold, Cover and nodes of a tree, and the bytes. -/
theorem write_prf (tb : Bool) (vs : List Int) (hs : List Bool) (f t : Nat) (h : vs.length ≤ 64) (hv : ∀ v ∈ vs, 0 ≤ v ∧ v ≤ 1000000) (w : World) (ao : Option Addr) (c base : Nat) (ho : w.ownsRow base 51 6 (.slice ao (prfN tb vs hs f t).length c) (prfN tb vs hs f t).length ((prfN tb vs hs f t).flatMap Nd.cells)) :
    Calls Tryz.prog 94 #[.slice ao (prfN tb vs hs f t).length c] w fun e w' => e = .returned (.tuple #[.string (prfB tb vs hs f t), .int .i64 0]) ∧ Below w.heap.size w w' := by
  have hl := prf_len tb vs hs f t h
  have hok := prf_ok tb vs hs f t h hv
  have := refWrite_any _ _ w (Nodes.own ho (by omega))
  rw [writeB, if_pos ⟨hl, hok⟩, writeE, if_neg (by omega), if_pos hok] at this
  exact this

set_option maxHeartbeats 2000000 in
set_option maxRecDepth 100000 in
theorem refAsk_ok (w : World) (R : Nat) (t : Int) (n f u : Nat) (tb : Bool) (vs : List Int) (hs : List Bool) (hSz : ∀ w', Below w.heap.size w w' → Calls Tryz.prog 136 #[.pointer (some ⟨R, 0, none⟩), .int .i64 t] w' fun e w2 => e = .returned (.int .i64 n) ∧ w2 = w')
    (hTr : ∀ w', Below w.heap.size w w' → Calls Tryz.prog 78 #[.pointer (some ⟨R, 0, none⟩), .int .i64 t, .int .i64 n] w' (treePost tb vs hs w')) (hn : vs.length = n) (hn64 : n ≤ 64) (hval : ∀ v ∈ vs, 0 ≤ v ∧ v ≤ 1000000) (hfu : f ≤ u) (hun : u ≤ n) :
    Calls Tryz.prog 134 #[.pointer (some ⟨R, 0, none⟩), .int .i64 t, .int .i64 f, .int .i64 u] w fun e w' => e = .returned (askV (fv (lf tb vs hs) f (u - f)) (prfB tb vs hs f u)) ∧ Below w.heap.size w w' := by
  subst hn
  have HZ : Hid _ := hSz
  have HT : Hid _ := hTr
  clear hTr hSz
  have HCv : ∀ w', Hid (Calls Tryz.prog 79 #[.int .i64 0, .int .i64 (vs.length : Int), .int .i64 f, .int .i64 u] w' (covPost (cov 0 vs.length f u) w')) := fun w' => hid (refCover_any f u (by omega) (by omega) vs.length 0 vs.length w' (by omega) (by omega) hn64 (by omega))
  have HF : ∀ vv hv w', Hid (TreeIn w' w'.heap.size vv hv vs hs → Calls Tryz.prog 137 #[.agg #[.bool tb, vv, hv], .int .i64 f, .int .i64 u] w' _) := fun vv hv w' => hid fun h => refFold_any tb vv hv vs hs f u w' h hfu hun
  have HN : ∀ vv hv base g cap w', Hid (TreeIn w' w'.heap.size vv hv vs hs → w'.ownsRow base 188 3 (.slice (some ⟨g, 0, none⟩) (cov 0 vs.length f u).length cap) (cov 0 vs.length f u).length (spRow (cov 0 vs.length f u)) → Calls Tryz.prog 135 #[.agg #[.bool tb, vv, hv], .slice (some ⟨g, 0, none⟩) (cov 0 vs.length f u).length cap] w' (nodesPost (prfN tb vs hs f u) w')) := fun vv hv base g cap w' => hid fun h ho =>
    refNodes_any tb vv hv vs hs _ base g cap w' h ho (fun p hp => (cov_in f u vs.length 0 vs.length (by omega) (by omega) p hp).2.2) (by have := (cov_len f u vs.length 0 vs.length (by omega)).2; omega)
  have HWr := write_prf tb vs hs f u hn64 hval
  have HW : ∀ ao c base w', Hid (w'.ownsRow base 51 6 (.slice ao (prfN tb vs hs f u).length c) (prfN tb vs hs f u).length ((prfN tb vs hs f u).flatMap Nd.cells) → Calls Tryz.prog 94 #[.slice ao (prfN tb vs hs f u).length c] w' _) := fun ao c base w' => hid fun ho => HWr w' ao c base ho
  clear HWr
  generalize hC : cov 0 vs.length f u = C at HCv HN
  generalize prfN tb vs hs f u = P at HN HW
  generalize prfB tb vs hs f u = Bt at HW
  generalize fv (lf tb vs hs) f (u - f) = z at HF
  clear hC
  have i1 : ¬ (f : Int) < 0 := by omega
  have i2 : ¬ (u : Int) < f := by omega
  have i3 : ¬ (vs.length : Int) < u := by omega
  go_enter Tryz.func134, Tryz.ntmps134
  go_wp2_with fail
  refine (HZ.out _ ((Below.refl _ _).alloc (Nat.le_refl _) _)).mono ?_
  rintro e w0 ⟨rfl, hw0⟩
  rw [hw0]
  clear hw0 w0 HZ
  go_wp2_with fail
  refine (HT.out _ ((Below.refl _ _).alloc (Nat.le_refl _) _)).mono ?_
  rintro e w1 ⟨a1, p1, a2, n2, p2, rfl, hT1, hb1⟩
  have hg1 : FoAt w1 w.heap.size .zero := (FoAt.at w w.heap.size rfl .zero).below hb1 (by simp)
  have HG1 : Hid (FoAt w1 w.heap.size .zero) := hg1
  have B1 : Hid (Below w.heap.size w w1) := hid (((Below.refl _ _).alloc (Nat.le_refl _) _).trans (hb1.mono (by simp)))
  have HT1 : Hid _ := hT1
  have l1 : w.heap.size < w1.heap.size := hg1.lt
  clear hb1 hg1 hT1 HT
  go_wp2_with fail
  refine (HCv _).out.mono ?_
  rintro e w2 ⟨g2, p2', rfl, ho2, hb2⟩
  have hc2 := oldc hb2
  have l2 : w1.heap.size < w2.heap.size := by have := hb2.size; simp at this; omega
  have B2 : Hid (Below w1.heap.size w1 w2) := hid (((Below.refl _ _).alloc (Nat.le_refl _) _).trans (hb2.mono (by simp)))
  have HO2 : Hid (w2.ownsRow _ 188 3 (.slice (some ⟨g2, 0, none⟩) C.length p2') C.length (spRow C)) := ho2
  clear hb2 ho2 HCv
  go_wp2_with fail
  refine ((HN _ _ _ _ _ _).out ((HT1.out.below B2.out).mono (by omega)) HO2.out).mono ?_
  rintro e w3 ⟨ao3, c3, rfl, ho3, hb3⟩
  have hc3 := oldc hb3
  have l3 : w1.heap.size < w3.heap.size := by have := hb3.size; omega
  have B3 : Hid (Below w1.heap.size w1 w3) := hid (B2.out.trans (hb3.mono (by omega)))
  have HO3 : Hid (w3.ownsRow _ 51 6 (.slice ao3 P.length c3) P.length (P.flatMap Nd.cells)) := ho3
  clear hb3 ho3 HN HO2 B2
  go_wp2_with fail
  refine ((HW _ _ _ _).out HO3.out).mono ?_
  rintro e w4 ⟨rfl, hb4⟩
  have hc4 := oldc hb4
  have l4 : w1.heap.size < w4.heap.size := by have := hb4.size; omega
  have B4 : Hid (Below w1.heap.size w1 w4) := hid (B3.out.trans (hb4.mono (by omega)))
  clear hb4 HO3 B3 HW
  go_wp2_with fail
  refine ((HF _ _ _).out ((HT1.out.below B4.out).mono (by omega))).mono ?_
  rintro e w5 ⟨rfl, hb5⟩
  rw [foV]
  have l5 : w.heap.size < w5.heap.size := by have := hb5.size; omega
  have B5 : Hid (Below w1.heap.size w1 w5) := hid (B4.out.trans (hb5.mono (by omega)))
  have hg5 : FoAt w5 w.heap.size .zero := HG1.out.below B5.out l1
  have HG5 : Hid (FoAt w5 w.heap.size .zero) := hg5
  obtain ⟨⟨k0, k1, k2, k3⟩, ff⟩ := hg5.cells
  clear hb5 HF B4 HG1 hg5 hc2 hc3 hc4
  go_wp2
  refine ret_fold3 Tryz.results134 (FoAt.set (show FoAt _ _ _ from HG5.out) z) rfl rfl rfl ⟨rfl, ?_⟩
  repeat (refine Below.setCell ?_ (by simp) _)
  exact B1.out.trans (B5.out.mono (by omega))

set_option maxHeartbeats 2000000 in
set_option maxRecDepth 100000 in
theorem refAsk_no1 (w : World) (R : Nat) (t n f u : Int) (hSz : ∀ w', Below w.heap.size w w' → Calls Tryz.prog 136 #[.pointer (some ⟨R, 0, none⟩), .int .i64 t] w' fun e w2 => e = .returned (.int .i64 n) ∧ w2 = w')
    (hTr : ∀ w', Below w.heap.size w w' → Calls Tryz.prog 78 #[.pointer (some ⟨R, 0, none⟩), .int .i64 t, .int .i64 n] w' fun e w2 => e = .returned noTree ∧ Below w'.heap.size w' w2) :
    Calls Tryz.prog 134 #[.pointer (some ⟨R, 0, none⟩), .int .i64 t, .int .i64 f, .int .i64 u] w fun e w' => e = .returned noAsk ∧ Below w.heap.size w w' := by
  have HZ : Hid _ := hSz
  have HT : Hid _ := hTr
  clear hTr hSz
  go_enter Tryz.func134, Tryz.ntmps134
  go_wp2_with fail
  refine (HZ.out _ ((Below.refl _ _).alloc (Nat.le_refl _) _)).mono ?_
  rintro e w0 ⟨rfl, hw0⟩
  rw [hw0]
  clear hw0 w0 HZ
  go_wp2_with fail
  refine (HT.out _ ((Below.refl _ _).alloc (Nat.le_refl _) _)).mono ?_
  rintro e w1 ⟨rfl, hb1⟩; rw [noTree]
  have hg1 : FoAt w1 w.heap.size .zero := (FoAt.at w w.heap.size rfl .zero).below hb1 (by simp)
  have HG1 : Hid (FoAt w1 w.heap.size .zero) := hg1
  have B1 : Hid (Below w.heap.size w w1) := hid (((Below.refl _ _).alloc (Nat.le_refl _) _).trans (hb1.mono (by simp)))
  have l1 : w.heap.size < w1.heap.size := hg1.lt
  obtain ⟨⟨k0, k1, k2, k3⟩, ff⟩ := hg1.cells
  clear hb1 hg1 HT
  go_wp2
  refine ret_fold3 Tryz.results134 (FoAt.alloc (FoAt.set (show FoAt _ _ _ from HG1.out) .zero) _) rfl rfl rfl ⟨rfl, ?_⟩
  refine Below.alloc ?_ (by simp; omega) _
  repeat (refine Below.setCell ?_ (by simp) _)
  exact B1.out

set_option maxHeartbeats 2000000 in
set_option maxRecDepth 100000 in
theorem refAsk_no2 (w : World) (R : Nat) (t n f u : Int) (tb : Bool) (vs : List Int) (hs : List Bool) (hSz : ∀ w', Below w.heap.size w w' → Calls Tryz.prog 136 #[.pointer (some ⟨R, 0, none⟩), .int .i64 t] w' fun e w2 => e = .returned (.int .i64 n) ∧ w2 = w')
    (hTr : ∀ w', Below w.heap.size w w' → Calls Tryz.prog 78 #[.pointer (some ⟨R, 0, none⟩), .int .i64 t, .int .i64 n] w' (treePost tb vs hs w')) (hbad : f < 0 ∨ u < f ∨ n < u) :
    Calls Tryz.prog 134 #[.pointer (some ⟨R, 0, none⟩), .int .i64 t, .int .i64 f, .int .i64 u] w fun e w' => e = .returned noAsk ∧ Below w.heap.size w w' := by
  have HZ : Hid _ := hSz
  have HT : Hid _ := hTr
  clear hTr hSz
  by_cases c1 : f < 0
  · clear hbad
    go_enter Tryz.func134, Tryz.ntmps134
    go_wp2_with fail
    refine (HZ.out _ ((Below.refl _ _).alloc (Nat.le_refl _) _)).mono ?_
    rintro e w0 ⟨rfl, hw0⟩
    rw [hw0]
    clear hw0 w0 HZ
    go_wp2_with fail
    refine (HT.out _ ((Below.refl _ _).alloc (Nat.le_refl _) _)).mono ?_
    rintro e w1 ⟨a1, p1, a2, n2, p2, rfl, _, hb1⟩
    have hg1 : FoAt w1 w.heap.size .zero := (FoAt.at w w.heap.size rfl .zero).below hb1 (by simp)
    have HG1 : Hid (FoAt w1 w.heap.size .zero) := hg1
    have B1 : Hid (Below w.heap.size w w1) := hid (((Below.refl _ _).alloc (Nat.le_refl _) _).trans (hb1.mono (by simp)))
    have l1 : w.heap.size < w1.heap.size := hg1.lt
    obtain ⟨⟨k0, k1, k2, k3⟩, ff⟩ := hg1.cells
    clear hb1 hg1 HT
    go_wp2
    refine ret_fold3 Tryz.results134 (FoAt.alloc (FoAt.set (show FoAt _ _ _ from HG1.out) .zero) _) rfl rfl rfl ⟨rfl, ?_⟩
    refine Below.alloc ?_ (by simp; omega) _
    repeat (refine Below.setCell ?_ (by simp) _)
    exact B1.out
  · by_cases c2 : u < f
    · clear hbad
      go_enter Tryz.func134, Tryz.ntmps134
      go_wp2_with fail
      refine (HZ.out _ ((Below.refl _ _).alloc (Nat.le_refl _) _)).mono ?_
      rintro e w0 ⟨rfl, hw0⟩
      rw [hw0]
      clear hw0 w0 HZ
      go_wp2_with fail
      refine (HT.out _ ((Below.refl _ _).alloc (Nat.le_refl _) _)).mono ?_
      rintro e w1 ⟨a1, p1, a2, n2, p2, rfl, _, hb1⟩
      have hg1 : FoAt w1 w.heap.size .zero := (FoAt.at w w.heap.size rfl .zero).below hb1 (by simp)
      have HG1 : Hid (FoAt w1 w.heap.size .zero) := hg1
      have B1 : Hid (Below w.heap.size w w1) := hid (((Below.refl _ _).alloc (Nat.le_refl _) _).trans (hb1.mono (by simp)))
      have l1 : w.heap.size < w1.heap.size := hg1.lt
      obtain ⟨⟨k0, k1, k2, k3⟩, ff⟩ := hg1.cells
      clear hb1 hg1 HT
      go_wp2
      refine ret_fold3 Tryz.results134 (FoAt.alloc (FoAt.set (show FoAt _ _ _ from HG1.out) .zero) _) rfl rfl rfl ⟨rfl, ?_⟩
      refine Below.alloc ?_ (by simp; omega) _
      repeat (refine Below.setCell ?_ (by simp) _)
      exact B1.out
    · have c3 : n < u := by omega
      clear hbad
      go_enter Tryz.func134, Tryz.ntmps134
      go_wp2_with fail
      refine (HZ.out _ ((Below.refl _ _).alloc (Nat.le_refl _) _)).mono ?_
      rintro e w0 ⟨rfl, hw0⟩
      rw [hw0]
      clear hw0 w0 HZ
      go_wp2_with fail
      refine (HT.out _ ((Below.refl _ _).alloc (Nat.le_refl _) _)).mono ?_
      rintro e w1 ⟨a1, p1, a2, n2, p2, rfl, _, hb1⟩
      have hg1 : FoAt w1 w.heap.size .zero := (FoAt.at w w.heap.size rfl .zero).below hb1 (by simp)
      have HG1 : Hid (FoAt w1 w.heap.size .zero) := hg1
      have B1 : Hid (Below w.heap.size w w1) := hid (((Below.refl _ _).alloc (Nat.le_refl _) _).trans (hb1.mono (by simp)))
      have l1 : w.heap.size < w1.heap.size := hg1.lt
      obtain ⟨⟨k0, k1, k2, k3⟩, ff⟩ := hg1.cells
      clear hb1 hg1 HT
      go_wp2
      refine ret_fold3 Tryz.results134 (FoAt.alloc (FoAt.set (show FoAt _ _ _ from HG1.out) .zero) _) rfl rfl rfl ⟨rfl, ?_⟩
      refine Below.alloc ?_ (by simp; omega) _
      repeat (refine Below.setCell ?_ (by simp) _)
      exact B1.out

end Go.Proofs.YtogmdaopfnmobaaGreat

/- What the document's own answer does (notaryref): the store: Grown. -/
namespace Go.Proofs.YtogmdaopfnmobaaGreat
open Go.RowKit

set_option maxHeartbeats 2000000 in
set_option maxRecDepth 100000 in
theorem refGrown_no (w : World) (base R : Nat) (s : Sto) (lv : Value) (K H : Nat) (n : Int) (h : RSt w base R s lv K H) (hbad : n < 1 ∨ s.l.length < n) :
    Calls Tryz.prog 101 #[.pointer (some ⟨R, 0, none⟩), .int .i64 n] w fun e w' => e = .returned (.tuple #[.string ⟨#[]⟩, .int .i64 5]) ∧ Below w.heap.size w w' := by
  obtain ⟨⟨c0, c1, c2⟩, hfz⟩ := h.cells
  obtain ⟨ao, cap, rfl⟩ := own_shape h.hL
  clear h
  by_cases h1 : n < 1
  · clear hbad
    go_enter Tryz.func101, Tryz.ntmps101
    go_wp2
    go_ret2
    exact ⟨rfl, Below.refl _ _⟩
  · have h2 : (s.l.length : Int) < n := by omega
    clear hbad
    go_enter Tryz.func101, Tryz.ntmps101
    go_wp2
    go_ret2
    exact ⟨rfl, Below.refl _ _⟩

set_option maxHeartbeats 2000000 in
set_option maxRecDepth 100000 in
theorem refGrown_ok (w : World) (base R : Nat) (s : Sto) (lv : Value) (K H : Nat) (n : Nat) (h : RSt w base R s lv K H) (h1 : 1 ≤ n) (h2 : n ≤ s.l.length) :
    Calls Tryz.prog 101 #[.pointer (some ⟨R, 0, none⟩), .int .i64 n] w fun e w' => e = .returned (.tuple #[.string (prfB false s.l (List.replicate s.l.length true) 0 n), .int .i64 0]) ∧ Below w.heap.size w w' := by
  have hlen := h.ok.len
  have hval := h.ok.val
  have HLg : ∀ w', Hid (Below w.heap.size w w' → Calls Tryz.prog 14 #[lv] w' (logPost lv s.l w')) := fun w' => hid fun hb => refLogOf_any lv s.l w' ((h.log1.below hb).mono hb.size) hval hlen
  obtain ⟨⟨c0, c1, c2⟩, hfz⟩ := h.cells
  have hRl := h.lt.1
  obtain ⟨ao, cap, rfl⟩ := own_shape h.hL
  clear h
  generalize hvs : s.l = vs at *
  clear hvs
  have HCv : ∀ w', Hid (Calls Tryz.prog 79 #[.int .i64 0, .int .i64 (vs.length : Int), .int .i64 0, .int .i64 n] w' (covPost (cov 0 vs.length 0 n) w')) := fun w' => hid (refCover_any 0 n (by omega) (by omega) vs.length 0 vs.length w' (by omega) (by omega) hlen (by omega))
  obtain ⟨hs, hhs⟩ : ∃ hs, hs = List.replicate vs.length true := ⟨_, rfl⟩
  have HH : Hid _ := hhs
  rw [← hhs]
  clear hhs
  have HN : ∀ vv hv base g cap w', Hid (TreeIn w' w'.heap.size vv hv vs hs → w'.ownsRow base 188 3 (.slice (some ⟨g, 0, none⟩) (cov 0 vs.length 0 n).length cap) (cov 0 vs.length 0 n).length (spRow (cov 0 vs.length 0 n)) → Calls Tryz.prog 135 #[.agg #[.bool false, vv, hv], .slice (some ⟨g, 0, none⟩) (cov 0 vs.length 0 n).length cap] w' (nodesPost (prfN false vs hs 0 n) w')) := fun vv hv base g cap w' => hid fun h ho =>
    refNodes_any false vv hv vs hs _ base g cap w' h ho (fun p hp => (cov_in 0 n vs.length 0 vs.length (by omega) (by omega) p hp).2.2) (by have := (cov_len 0 n vs.length 0 vs.length (by omega)).2; omega)
  have HWr := write_prf false vs hs 0 n hlen hval
  have HW : ∀ ao c base w', Hid (w'.ownsRow base 51 6 (.slice ao (prfN false vs hs 0 n).length c) (prfN false vs hs 0 n).length ((prfN false vs hs 0 n).flatMap Nd.cells) → Calls Tryz.prog 94 #[.slice ao (prfN false vs hs 0 n).length c] w' _) := fun ao c base w' => hid fun ho => HWr w' ao c base ho
  clear HWr
  generalize hC : cov 0 vs.length 0 n = C at HCv HN
  generalize prfN false vs hs 0 n = P at HN HW
  generalize prfB false vs hs 0 n = Bt at HW
  clear hC
  have i1 : ¬ (n : Int) < 1 := by omega
  have i3 : ¬ (vs.length : Int) < n := by omega
  go_enter Tryz.func101, Tryz.ntmps101
  go_wp2_with fail
  refine ((HLg _).out (Below.refl _ _)).mono ?_
  rintro e w1 ⟨⟨g, rfl, _, hT1⟩, hb1⟩
  rw [← HH.out] at hT1
  have HT1 : Hid _ := hT1
  have hc1 := oldc hb1
  have B1 : Hid (Below w.heap.size w w1) := hb1
  have l1 : R < w1.heap.size := by have := hb1.size; omega
  clear hb1 hT1 HLg
  go_wp2_with fail
  refine (HCv _).out.mono ?_
  rintro e w2 ⟨g2, p2', rfl, ho2, hb2⟩
  have hc2 := oldc hb2
  have l2 : w1.heap.size < w2.heap.size := by have := hb2.size; simp at this; omega
  have B2 : Hid (Below w1.heap.size w1 w2) := hid (((Below.refl _ _).alloc (Nat.le_refl _) _).trans (hb2.mono (by simp)))
  have HO2 : Hid (w2.ownsRow _ 188 3 (.slice (some ⟨g2, 0, none⟩) C.length p2') C.length (spRow C)) := ho2
  clear hb2 ho2 HCv
  go_wp2_with fail
  refine ((HN _ _ _ _ _ _).out ((HT1.out.below B2.out).mono (by omega)) HO2.out).mono ?_
  rintro e w3 ⟨ao3, c3, rfl, ho3, hb3⟩
  have B3 : Hid (Below w1.heap.size w1 w3) := hid (B2.out.trans (hb3.mono (by omega)))
  have HO3 : Hid (w3.ownsRow _ 51 6 (.slice ao3 P.length c3) P.length (P.flatMap Nd.cells)) := ho3
  have l3 : w1.heap.size < w3.heap.size := by have := hb3.size; omega
  clear hb3 ho3 HN HO2 B2
  go_wp2_with fail
  refine ((HW _ _ _ _).out HO3.out).mono ?_
  rintro e w4 ⟨rfl, hb4⟩
  have fin : Hid (Below w.heap.size w w4) := hid (B1.out.trans ((B3.out.trans (hb4.mono (by omega))).mono B1.out.size))
  clear hb4 HO3 B3 HW hc1 hc2
  go_wp2
  go_ret2
  exact ⟨rfl, fin.out⟩

end Go.Proofs.YtogmdaopfnmobaaGreat

/- What the document's own answer does (notaryref): Folded. -/
namespace Go.Proofs.YtogmdaopfnmobaaGreat
open Go.RowKit

theorem rnodes_six {w : World} {B : Nat} {ao : Option Addr} {n cap : Nat} {l : List Nd} {k : Nat} {d : Nd} (h : Nodes w B (.slice ao n cap) l) (hk : k < l.length) (hd : d = l[k]) : ∃ b off, ao = some ⟨b, off, none⟩ ∧ b < B ∧
    w.cell? ⟨b, off + k * 6, none⟩ = some (.int .i64 d.c) ∧ w.cell? ⟨b, off + k * 6 + 1, none⟩ = some (.int .i64 d.s) ∧ w.cell? ⟨b, off + k * 6 + 2, none⟩ = some (.int .i64 d.m) ∧
    w.cell? ⟨b, off + k * 6 + 3, none⟩ = some (.int .i64 d.x) ∧ w.cell? ⟨b, off + k * 6 + 4, none⟩ = some (.int .u8 d.h.toNat) ∧ w.cell? ⟨b, off + k * 6 + 5, none⟩ = some (.int .u8 d.g.toNat) := by
  obtain ⟨ao', cap', hv, _, hc⟩ := h.ex
  simp only [Value.slice.injEq] at hv
  obtain ⟨rfl, rfl, rfl⟩ := hv
  obtain ⟨b, off, ha, hB, hcs⟩ := hc k hk
  subst hd
  exact ⟨b, off, ha, hB, six (Below.refl B w) hB hcs⟩

/-- The nodes whose parts lie in the range, put together: the first k. -/
def fld (l : List Sp) (ns : List Nd) : Nat → Fo
  | 0 => .zero
  | k + 1 => if ((l[k]?.map (·.i)).getD false) then tog (fld l ns k) ((ns[k]?.getD .E).fold) else fld l ns k
theorem fld_bd (l : List Sp) (ns : List Nd) (h : ∀ d ∈ ns, d.ok = true) (k : Nat) : (0 ≤ (fld l ns k).c ∧ (fld l ns k).c ≤ 34359738367 * k) ∧ (0 ≤ (fld l ns k).s ∧ (fld l ns k).s ≤ 34359738367 * k) := by
  induction k with
  | zero => simp [fld, Fo.zero]
  | succ k ih =>
    have hd : (0 ≤ (ns[k]?.getD .E).c ∧ (ns[k]?.getD .E).c ≤ 34359738367) ∧ (0 ≤ (ns[k]?.getD .E).s ∧ (ns[k]?.getD .E).s ≤ 34359738367) := by
      by_cases hk : k < ns.length
      · have := (Nd.ok_iff _).1 (h _ (List.getElem_mem hk))
        simp only [isNum_iff] at this
        simp [hk]; omega
      · simp [List.getElem?_eq_none (Nat.le_of_not_lt hk), Nd.E]
    simp only [fld]
    split
    · simp only [tog, Nd.fold]; omega
    · omega

set_option maxHeartbeats 2000000 in
set_option maxRecDepth 100000 in
theorem refFolded_any (l : List Sp) (ns : List Nd) (base g cap : Nat) (v : Value) (w : World) (hc : w.ownsRow base 188 3 (.slice (some ⟨g, 0, none⟩) l.length cap) l.length (spRow l)) (hN : Nodes w w.heap.size v ns) (hlen : ns.length = l.length) (hn : l.length ≤ 1000) (hok : ∀ d ∈ ns, d.ok = true) :
    Calls Tryz.prog 132 #[.slice (some ⟨g, 0, none⟩) l.length cap, v] w fun e w' => e = .returned (foV (fld l ns l.length)) ∧ Below w.heap.size w w' := by
  have HC : Hid (w.ownsRow base 188 3 (.slice (some ⟨g, 0, none⟩) l.length cap) l.length (spRow l)) := hc
  have HN : Hid (Nodes w w.heap.size v ns) := hN
  have hg := (own_in hc g (mem_ob.2 rfl)).2
  obtain ⟨ao, cp, rfl, _, _⟩ := hN.ex
  have HL : Hid _ := hlen
  have HOk : Hid _ := hok
  clear hc hN hlen hok
  go_enter Tryz.func132, Tryz.ntmps132
  go_wp2
  obtain ⟨W0, hW0⟩ : ∃ W0, W0 = (w.alloc (.cells #[.int .i64 0, .int .i64 0, .int .i64 0, .int .i64 0] 47)).alloc (.cells #[.int .i64 0, .int .i64 0, .int .i64 0, .int .i64 0] 47) := ⟨_, rfl⟩
  have hF1 : Hid (FoAt W0 (w.heap.size + 1) .zero) := hid (by rw [hW0]; exact FoAt.at _ _ (by simp) .zero)
  have hF0 : Hid (FoAt W0 w.heap.size .zero) := hid (by rw [hW0]; exact (FoAt.at w _ rfl .zero).alloc _)
  have hB0 : Hid (Below w.heap.size w W0) := hid (by rw [hW0]; exact ((Below.refl _ _).alloc (Nat.le_refl _) _).alloc (by simp) _)
  rw [← hW0]
  clear hW0
  go_loopw [6] (fun i wr => ∃ k : Nat, k ≤ l.length ∧ i = .int .i64 k ∧ Hid (FoAt wr (w.heap.size + 1) (fld l ns k) ∧ FoAt wr w.heap.size .zero ∧ Below w.heap.size w wr)) (fun i _ => l.length - (intOf i).toNat)
  case atStart => exact ⟨0, Nat.zero_le _, rfl, hid ⟨hF1.out, hF0.out, hB0.out⟩⟩
  case round =>
    clear hF1 hF0 hB0
    obtain ⟨k, hk, rfl, HR⟩ := hrel
    obtain ⟨h1, h2, h3⟩ := HR.out
    have l2 := h1.lt
    by_cases hlt : k < l.length
    · obtain ⟨p, hp⟩ : ∃ p, p = l[k] := ⟨_, rfl⟩
      obtain ⟨_, _, d2⟩ := span_cells (own_keep HC.out fun j hj => h3.block j (own_in HC.out j hj).2) k hlt p hp
      have hkn : k < ns.length := by rw [HL.out]; exact hlt
      obtain ⟨d, hd⟩ : ∃ d, d = ns[k] := ⟨_, rfl⟩
      obtain ⟨b, off, hab, hbB, e0, e1, e2, e3, _, _⟩ := rnodes_six (HN.out.below h3) hkn hd
      subst hab
      have i1 : (k : Int) < l.length := by omega
      have i2 : (k : Int) < ns.length := by omega
      have q := fld_bd l ns HOk.out k
      have hdo := (Nd.ok_iff d).1 (HOk.out d (by rw [hd]; exact List.getElem_mem hkn))
      simp only [isNum_iff] at hdo
      have HF : Hid (fld l ns (k + 1) = if p.i then tog (fld l ns k) d.fold else fld l ns k) := hid (by simp [fld, hlt, hkn, hp, hd])
      have hgz : g < wr.heap.size := by have := h3.size; omega
      have hbz : b < wr.heap.size := by have := h3.size; omega
      generalize fld l ns k = z at h1 HF q HR
      cases hi : p.i with
      | false =>
        rw [hi] at d2
        have HFf : Hid (fld l ns (k + 1) = z) := hid (by rw [HF.out, hi]; simp)
        clear hi HF hd hp HR
        have H1 : Hid (FoAt wr (w.heap.size + 1) z ∧ FoAt wr w.heap.size .zero ∧ Below w.heap.size w wr) := ⟨h1, h2, h3⟩
        clear h1 h2 h3
        go_wp2
        go_roundw
        case rel => exact ⟨k + 1, by omega, by go_num, by rw [HFf.out]; exact H1⟩
        case measure => simp [intOf]; omega
      | true =>
        rw [hi] at d2
        have HFt : Hid (fld l ns (k + 1) = tog z d.fold) := hid (by rw [HF.out, hi]; simp)
        clear hi HF hd hp HR
        obtain ⟨⟨f0, f1, f2, f3⟩, ff⟩ := h1.cells
        have H1 : Hid (FoAt wr (w.heap.size + 1) z) := h1
        have H2 : Hid (FoAt wr w.heap.size .zero) := h2
        have H3 : Hid (Below w.heap.size w wr) := h3
        have HT : ∀ w', Hid (Calls Tryz.prog 126 #[.agg #[.int .i64 z.c, .int .i64 z.s, .int .i64 z.m, .int .i64 z.x], .agg #[.int .i64 d.c, .int .i64 d.s, .int .i64 d.m, .int .i64 d.x]] w' fun e w2 => e = .returned (foV (tog z d.fold)) ∧ Below w'.heap.size w' w2) := fun w' => hid (refTogether_any z.c z.s z.m z.x d.c d.s d.m d.x w' (by omega) (by omega) (by omega) (by omega))
        generalize tog z d.fold = z' at HT HFt
        clear h1 h2 h3
        go_wp2
        go_region_with (go_at_call 126; refine (HT _).out.mono ?_; rintro e w1 ⟨rfl, hb1⟩; rw [foV]; have h1' : FoAt w1 (w.heap.size + 1) z := (hb1.block (w.heap.size + 1) l2).trans H1.out; obtain ⟨⟨g0, g1, g2, g3⟩, gg⟩ := h1'.cells; have H1' : Hid (FoAt w1 (w.heap.size + 1) z) := h1'; clear h1')
        all_goals
          have B1 : Hid (Below w.heap.size w w1) := hid (H3.out.drew.trans (hb1.mono (show w.heap.size ≤ wr.heap.size from H3.out.size)))
          have G1 : Hid (FoAt w1 w.heap.size .zero) := hid ((hb1.block w.heap.size (show w.heap.size < wr.heap.size by omega)).trans H2.out)
          clear hb1 f0 f1 f2 f3 ff d2 e0 e1 e2 e3
          go_wp2
          go_roundw
          case rel =>
            refine ⟨k + 1, by omega, by go_num, hid ⟨?_, ?_, ?_⟩⟩
            · rw [HFt.out]; exact FoAt.set H1'.out _
            · exact (((G1.out.far (by omega)).far (by omega)).far (by omega)).far (by omega)
            · repeat (refine Below.setCell ?_ (by simp) _)
              exact B1.out
          case measure => simp [intOf]; omega
    · have hk' : k = l.length := by omega
      subst hk'
      obtain ⟨⟨f0, f1, f2, f3⟩, _⟩ := h1.cells
      obtain ⟨⟨g0, g1, g2, g3⟩, gg⟩ := h2.cells
      obtain ⟨z, hz⟩ : ∃ z, z = fld l ns l.length := ⟨_, rfl⟩
      rw [← hz] at h1 f0 f1 f2 f3
      have HZ : Hid _ := hz
      have H2 : Hid (FoAt wr w.heap.size .zero) := h2
      have H3 : Hid (Below w.heap.size w wr) := h3
      clear HR hz h2 h3
      go_wp2
      refine ret_fold1 Tryz.results132 (FoAt.set (show FoAt _ _ _ from H2.out) z) rfl ⟨by rw [HZ.out], ?_⟩
      repeat (refine Below.setCell ?_ (by simp) _)
      exact H3.out

end Go.Proofs.YtogmdaopfnmobaaGreat

/- What the document's own answer does (notaryref): Beginning. -/
namespace Go.Proofs.YtogmdaopfnmobaaGreat
open Go.RowKit

/-- The node of the beginning, from the last k parts on: is it still the first? -/
def bg (l : List Sp) (ns : List Nd) : Nat → Nd × Bool
  | 0 => (.E, true)
  | k + 1 => if ((l[l.length - (k + 1)]?.map (·.i)).getD false) then (if (bg l ns k).2 then (ns[l.length - (k + 1)]?.getD .E, false) else (ab (ns[l.length - (k + 1)]?.getD .E) (bg l ns k).1, false)) else bg l ns k

def NdAt (w : World) (g : Nat) (d : Nd) : Prop := Six w g (.int .i64 d.c) (.int .i64 d.s) (.int .i64 d.m) (.int .i64 d.x) (.int .u8 (d.h.toNat : Int)) (.int .u8 (d.g.toNat : Int))

theorem NdAt.cells {w : World} {g : Nat} {d : Nd} (h : NdAt w g d) : (w.cell? ⟨g, 0, none⟩ = some (.int .i64 d.c) ∧ w.cell? ⟨g, 1, none⟩ = some (.int .i64 d.s) ∧ w.cell? ⟨g, 2, none⟩ = some (.int .i64 d.m) ∧ w.cell? ⟨g, 3, none⟩ = some (.int .i64 d.x) ∧ w.cell? ⟨g, 4, none⟩ = some (.int .u8 (d.h.toNat : Int)) ∧ w.cell? ⟨g, 5, none⟩ = some (.int .u8 (d.g.toNat : Int))) ∧ ∀ o, w.frozen? ⟨g, o, none⟩ = false := by
  have h' : Six _ _ _ _ _ _ _ _ := h
  exact ⟨h'.cells, fun o => by simp [World.frozen?, h'.eq]⟩
theorem NdAt.lt {w : World} {g : Nat} {d : Nd} (h : NdAt w g d) : g < w.heap.size := (Array.getElem?_eq_some_iff.1 (show Six _ _ _ _ _ _ _ _ from h).eq).1
theorem NdAt.set {w : World} {g : Nat} {d : Nd} (h : NdAt w g d) (e : Nd) : NdAt ((((((w.setCell ⟨g, 0, none⟩ (.int .i64 e.c)).setCell ⟨g, 1, none⟩ (.int .i64 e.s)).setCell ⟨g, 2, none⟩ (.int .i64 e.m)).setCell ⟨g, 3, none⟩ (.int .i64 e.x)).setCell ⟨g, 4, none⟩ (.int .u8 (e.h.toNat : Int))).setCell ⟨g, 5, none⟩ (.int .u8 (e.g.toNat : Int))) g e := Six.set h _ _ _ _ _ _

def Z6 (w : World) (g : Nat) : Prop := Six w g (.int .i64 0) (.int .i64 0) (.int .i64 0) (.int .i64 0) (.int .u8 0) (.int .u8 0)

set_option maxHeartbeats 4000000 in
set_option maxRecDepth 100000 in
theorem refBeginning_any (l : List Sp) (ns : List Nd) (base g cap : Nat) (v : Value) (w : World) (hc : w.ownsRow base 188 3 (.slice (some ⟨g, 0, none⟩) l.length cap) l.length (spRow l)) (hN : Nodes w w.heap.size v ns) (hlen : ns.length = l.length) (hn : l.length ≤ 1000) (hok : ∀ d ∈ ns, d.ok = true) (hbo : ∀ k, k ≤ l.length → (bg l ns k).1.ok = true) :
    Calls Tryz.prog 81 #[.slice (some ⟨g, 0, none⟩) l.length cap, v] w fun e w' => e = .returned (ndV (bg l ns l.length).1) ∧ Below w.heap.size w w' := by
  have HC : Hid (w.ownsRow base 188 3 (.slice (some ⟨g, 0, none⟩) l.length cap) l.length (spRow l)) := hc
  have HN : Hid (Nodes w w.heap.size v ns) := hN
  have hg := (own_in hc g (mem_ob.2 rfl)).2
  obtain ⟨ao, cp, rfl, _, _⟩ := hN.ex
  have HL : Hid _ := hlen
  have HOk : Hid _ := hok
  have HBo : Hid _ := hbo
  clear hc hN hlen hok hbo
  go_enter Tryz.func81, Tryz.ntmps81
  go_wp2_with fail
  refine (refEmpty_any _).mono ?_
  rintro e w1 ⟨rfl, hb1⟩
  have l1 : w.heap.size < w1.heap.size := by have := hb1.size; simp at this; omega
  have hZ : Hid (Z6 w1 w.heap.size) := hid ((Six.at w w.heap.size rfl _ _ _ _ _ _).below hb1 (by simp))
  have hB1 : Hid (Below w.heap.size w w1) := hid (((Below.refl _ _).alloc (Nat.le_refl _) _).trans (hb1.mono (by simp)))
  clear hb1
  go_wp2
  obtain ⟨N, hNe⟩ : ∃ N, N = w1.heap.size := ⟨_, rfl⟩
  rw [← hNe]
  obtain ⟨W0, hW0⟩ : ∃ W0, W0 = w1.alloc (.cells #[.int .i64 0, .int .i64 0, .int .i64 0, .int .i64 0, .int .u8 1, .int .u8 77] 51) := ⟨_, rfl⟩
  have hF1 : Hid (NdAt W0 N .E) := hid (by rw [hW0]; exact Six.at w1 N hNe _ _ _ _ _ _)
  have hF0 : Hid (Z6 W0 w.heap.size) := hid (by rw [hW0]; exact hZ.out.alloc _)
  have hB0 : Hid (Below w.heap.size w W0) := hid (by rw [hW0]; exact hB1.out.alloc (by omega) _)
  have hNw : w.heap.size < N := by omega
  rw [← hW0]
  clear hW0 hZ hB1 hNe l1
  go_loopw [6, 7] (fun f i wr => ∃ k : Nat, k ≤ l.length ∧ i = .int .i64 ((l.length : Int) - 1 - k) ∧ f = .bool (bg l ns k).2 ∧ Hid (NdAt wr N (bg l ns k).1 ∧ Z6 wr w.heap.size ∧ Below w.heap.size w wr)) (fun _ i _ => (intOf i + 1).toNat)
  case atStart => exact ⟨0, Nat.zero_le _, by simp, rfl, hid ⟨hF1.out, hF0.out, hB0.out⟩⟩
  case round =>
    clear hF1 hF0 hB0
    obtain ⟨k, hk, rfl, rfl, HR⟩ := hrel
    obtain ⟨h1, h2, h3⟩ := HR.out
    have l2 := h1.lt
    by_cases hlt : k < l.length
    · obtain ⟨j, hj⟩ : ∃ j, j = l.length - (k + 1) := ⟨_, rfl⟩
      have hjl : j < l.length := by omega
      have hji : (l.length : Int) - 1 - k = (j : Int) := by omega
      obtain ⟨p, hp⟩ : ∃ p, p = l[j] := ⟨_, rfl⟩
      obtain ⟨_, _, d2⟩ := span_cells (own_keep HC.out fun i hi => h3.block i (own_in HC.out i hi).2) j hjl p hp
      have hkn : j < ns.length := by rw [HL.out]; exact hjl
      obtain ⟨d, hd⟩ : ∃ d, d = ns[j] := ⟨_, rfl⟩
      obtain ⟨b, off, hab, hbB, e0, e1, e2, e3, e4, e5⟩ := rnodes_six (HN.out.below h3) hkn hd
      subst hab
      have i1 : (j : Int) < l.length := by omega
      have i2 : (j : Int) < ns.length := by omega
      have hdo := HOk.out d (by rw [hd]; exact List.getElem_mem hkn)
      have HDo : Hid (d.ok = true) := hdo
      have HZo : Hid ((bg l ns k).1.ok = true) := HBo.out k hk
      have HF : Hid (bg l ns (k + 1) = if p.i then (if (bg l ns k).2 then (d, false) else (ab d (bg l ns k).1, false)) else bg l ns k) := hid (by rw [bg, ← hj]; simp [hjl, hkn, hp, hd])
      have hgz : g < wr.heap.size := by have := h3.size; omega
      have hbz : b < wr.heap.size := by have := h3.size; omega
      have hnx : ((j : Int) - 1) = (l.length : Int) - 1 - ((k + 1 : Nat) : Int) := by omega
      have HNX : Hid _ := hnx
      rw [hji]
      have H1 : Hid (NdAt wr N (bg l ns k).1) := h1
      have H2 : Hid (Z6 wr w.heap.size) := h2
      have H3 : Hid (Below w.heap.size w wr) := h3
      obtain ⟨z, hz⟩ : ∃ z, z = bg l ns k := ⟨_, rfl⟩
      rw [← hz] at H1 HF HZo ⊢
      clear hz h1 h2 h3 hp hd hdo HR hj hji hnx
      cases hi : p.i with
      | false =>
        rw [hi] at d2
        have HFf : Hid (bg l ns (k + 1) = z) := hid (by rw [HF.out, hi]; simp)
        clear hi HF
        go_wp2
        go_roundw
        case rel => exact ⟨k + 1, by omega, by rw [← HNX.out], by rw [HFf.out], by rw [HFf.out]; exact hid ⟨H1.out, H2.out, H3.out⟩⟩
        case measure => simp [intOf]
      | true =>
        rw [hi] at d2
        cases hf : z.2 with
        | true =>
          have HFf : Hid (bg l ns (k + 1) = (d, false)) := hid (by rw [HF.out, hi, hf]; simp)
          clear hi HF
          obtain ⟨⟨f0, f1, f2, f3, f4, f5⟩, ff⟩ := NdAt.cells H1.out
          go_wp2
          go_roundw
          case rel =>
            refine ⟨k + 1, by omega, by rw [← HNX.out], by rw [HFf.out], ?_⟩
            rw [HFf.out]
            refine hid ⟨NdAt.set H1.out d, ?_, ?_⟩
            · exact (((((H2.out.far (by omega)).far (by omega)).far (by omega)).far (by omega)).far (by omega)).far (by omega)
            · repeat (refine Below.setCell ?_ (by simp; omega) _)
              exact H3.out
          case measure => simp [intOf]
        | false =>
          have HFf : Hid (bg l ns (k + 1) = (ab d z.1, false)) := hid (by rw [HF.out, hi, hf]; simp)
          clear hi HF
          obtain ⟨⟨f0, f1, f2, f3, f4, f5⟩, ff⟩ := NdAt.cells H1.out
          have HA : ∀ w', Hid (Calls Tryz.prog 89 #[ndV d, ndV z.1] w' _) := fun w' => hid (refAbove_any d z.1 w' HDo.out HZo.out)
          generalize ab d z.1 = q at HA HFf
          go_wp2
          go_region_with (go_at_call 89; refine (show Calls Tryz.prog 89 #[ndV d, ndV z.1] _ _ from (HA _).out).mono ?_; rintro e w2 ⟨rfl, hb2⟩; rw [ndV]; have h1' : NdAt w2 N z.1 := (hb2.block N l2).trans H1.out; obtain ⟨⟨g0, g1, g2, g3, g4, g5⟩, gg⟩ := NdAt.cells h1'; have H1' : Hid (NdAt w2 N z.1) := h1'; clear h1')
          all_goals
            have B1 : Hid (Below w.heap.size w w2) := hid (H3.out.drew.trans (hb2.mono (show w.heap.size ≤ wr.heap.size from H3.out.size)))
            have G1 : Hid (Z6 w2 w.heap.size) := hid ((hb2.block w.heap.size (show w.heap.size < wr.heap.size by omega)).trans H2.out)
            clear hb2 f0 f1 f2 f3 f4 f5 ff d2 e0 e1 e2 e3 e4 e5
            go_wp2
            go_roundw
            case rel =>
              refine ⟨k + 1, by omega, by rw [← HNX.out], by rw [HFf.out], ?_⟩
              rw [HFf.out]
              refine hid ⟨NdAt.set H1'.out q, ?_, ?_⟩
              · exact (((((G1.out.far (by omega)).far (by omega)).far (by omega)).far (by omega)).far (by omega)).far (by omega)
              · repeat (refine Below.setCell ?_ (by simp; omega) _)
                exact B1.out
            case measure => simp [intOf]
    · have hk' : k = l.length := by omega
      subst hk'
      have hneg : (l.length : Int) - 1 - l.length = -1 := by omega
      rw [hneg]
      obtain ⟨⟨f0, f1, f2, f3, f4, f5⟩, _⟩ := NdAt.cells h1
      have h2' : Six _ _ _ _ _ _ _ _ := h2
      obtain ⟨g0, g1, g2, g3, g4, g5⟩ := h2'.cells
      have gg : ∀ o, wr.frozen? ⟨w.heap.size, o, none⟩ = false := fun o => by simp [World.frozen?, h2'.eq]
      obtain ⟨z, hz⟩ : ∃ z, z = bg l ns l.length := ⟨_, rfl⟩
      rw [← hz] at h1 f0 f1 f2 f3 f4 f5 ⊢
      have HZ : Hid _ := hz
      have H2 : Hid (Z6 wr w.heap.size) := h2
      have H3 : Hid (Below w.heap.size w wr) := h3
      clear HR hz h2 h3 h2' hneg
      go_wp2
      refine ret_node1 Tryz.results81 (Six.set H2.out _ _ _ _ _ _) rfl ⟨by rw [← HZ.out]; rfl, ?_⟩
      repeat (refine Below.setCell ?_ (by simp) _)
      exact H3.out

end Go.Proofs.YtogmdaopfnmobaaGreat

/- What the document's own answer does (notaryref): what a proof's nodes come to, as mathematics. -/
namespace Go.Proofs.YtogmdaopfnmobaaGreat
open Go.RowKit

/-- What is worked out of a proof's nodes for the places from a on and ahead of b: the node, the nodes that are left, whether a node may not be. -/
def wk (a b f t : Nat) (ns : List Nd) (bad : Bool) : Nd × List Nd × Bool :=
  if isOut a b f t = true ∨ isIn a b f t = true ∨ b < a + 2 then (ns.headD .E, ns.tail, bad)
  else
    let r1 := wk a (a + hf (b - a)) f t ns bad
    let r2 := wk (a + hf (b - a)) b f t r1.2.1 r1.2.2
    if r2.2.2 then (r1.1, r2.2.1, true) else (ab r1.1 r2.1, r2.2.1, !(ab r1.1 r2.1).ok)
termination_by b - a
decreasing_by
  · have := hf_lt (b - a) (by omega); omega
  · have := hf_pos (b - a); omega
theorem wk_one (a b f t : Nat) (ns : List Nd) (bad : Bool) (h : isOut a b f t = true ∨ isIn a b f t = true ∨ b < a + 2) : wk a b f t ns bad = (ns.headD .E, ns.tail, bad) := by rw [wk, if_pos h]
theorem wk_two (a b f t : Nat) (ns : List Nd) (bad : Bool) (h : ¬ (isOut a b f t = true ∨ isIn a b f t = true ∨ b < a + 2)) : wk a b f t ns bad =
    if (wk (a + hf (b - a)) b f t (wk a (a + hf (b - a)) f t ns bad).2.1 (wk a (a + hf (b - a)) f t ns bad).2.2).2.2 then ((wk a (a + hf (b - a)) f t ns bad).1, (wk (a + hf (b - a)) b f t (wk a (a + hf (b - a)) f t ns bad).2.1 (wk a (a + hf (b - a)) f t ns bad).2.2).2.1, true)
    else (ab (wk a (a + hf (b - a)) f t ns bad).1 (wk (a + hf (b - a)) b f t (wk a (a + hf (b - a)) f t ns bad).2.1 (wk a (a + hf (b - a)) f t ns bad).2.2).1, (wk (a + hf (b - a)) b f t (wk a (a + hf (b - a)) f t ns bad).2.1 (wk a (a + hf (b - a)) f t ns bad).2.2).2.1, !(ab (wk a (a + hf (b - a)) f t ns bad).1 (wk (a + hf (b - a)) b f t (wk a (a + hf (b - a)) f t ns bad).2.1 (wk a (a + hf (b - a)) f t ns bad).2.2).1).ok) := by
  rw [wk, if_neg h]
/-- As many nodes are taken as the cover has parts. -/
theorem wk_rest (f t : Nat) : ∀ (n a b : Nat) (ns : List Nd) (bad : Bool), b - a ≤ n → (wk a b f t ns bad).2.1 = ns.drop (cov a b f t).length := by
  intro n
  induction n with
  | zero => intro a b ns bad h; rw [wk_one _ _ _ _ _ _ (by omega), cov, if_pos (by omega)]; simp
  | succ n ih =>
    intro a b ns bad h
    by_cases hs : isOut a b f t = true ∨ isIn a b f t = true ∨ b < a + 2
    · rw [wk_one _ _ _ _ _ _ hs, cov, if_pos hs]; simp
    · have p := hf_pos (b - a)
      have q := hf_lt (b - a) (by omega)
      rw [wk_two _ _ _ _ _ _ hs, cov, if_neg hs, List.length_append]
      have e1 := ih a (a + hf (b - a)) ns bad (by omega)
      have e2 := ih (a + hf (b - a)) b (wk a (a + hf (b - a)) f t ns bad).2.1 (wk a (a + hf (b - a)) f t ns bad).2.2 (by omega)
      split <;> (simp only; rw [e2, e1, List.drop_drop])
/-- Where nothing is bad, all that is worked out may be. -/
theorem wk_ok (f t : Nat) : ∀ (n a b : Nat) (ns : List Nd) (bad : Bool), b - a ≤ n → (∀ d ∈ ns, d.ok = true) → (wk a b f t ns bad).2.2 = false → (wk a b f t ns bad).1.ok = true ∧ bad = false := by
  intro n
  induction n with
  | zero =>
    intro a b ns bad h hok hb
    rw [wk_one _ _ _ _ _ _ (by omega)] at hb ⊢
    refine ⟨?_, hb⟩
    cases ns with
    | nil => rfl
    | cons d r => exact hok d (by simp)
  | succ n ih =>
    intro a b ns bad h hok hb
    by_cases hs : isOut a b f t = true ∨ isIn a b f t = true ∨ b < a + 2
    · rw [wk_one _ _ _ _ _ _ hs] at hb ⊢
      refine ⟨?_, hb⟩
      cases ns with
      | nil => rfl
      | cons d r => exact hok d (by simp)
    · have p := hf_pos (b - a)
      have q := hf_lt (b - a) (by omega)
      rw [wk_two _ _ _ _ _ _ hs] at hb ⊢
      have e1 := wk_rest f t n a (a + hf (b - a)) ns bad (by omega)
      generalize hr1 : wk a (a + hf (b - a)) f t ns bad = r1 at hb e1 ⊢
      generalize hr2 : wk (a + hf (b - a)) b f t r1.2.1 r1.2.2 = r2 at hb ⊢
      cases h2 : r2.2.2 with
      | true => simp [h2] at hb
      | false =>
        simp only [h2, Bool.false_eq_true, if_false] at hb ⊢
        have i2 := ih (a + hf (b - a)) b r1.2.1 r1.2.2 (by omega) (by rw [e1]; exact fun d hd => hok d (List.mem_of_mem_drop hd)) (by rw [hr2]; exact h2)
        have i1 := ih a (a + hf (b - a)) ns bad (by omega) hok (by rw [hr1]; exact i2.2)
        exact ⟨by simpa using hb, i1.2⟩

end Go.Proofs.YtogmdaopfnmobaaGreat

