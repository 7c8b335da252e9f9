/- What the document's own answer does (notaryref): the store: Tree. -/
import Derived.Test.YtogmdaopfnmobaaP16
namespace Go.Proofs.Ytogmdaopfnmobaa
open Go.RowKit

theorem ret_tree2 {w : World} {g : Nat} {c0 c1 c2 v : Value} {fn : Func} {R : Ending → World → Prop} {tmps : Array Value} {k j : Nat} (hf : fn.results = #[.cell k 76, .tmp j]) (h : w.heap[g]? = some (.cells #[c0, c1, c2] 76 (0, 0)))
    (h2 : tmps[k]? = some (.pointer (some ⟨g, 0, none⟩))) (h3 : tmps[j]? = some v) (hR : R (.returned (.tuple #[.agg #[c0, c1, c2], v])) w) : bodyPost Try.prog fn R .ret ⟨tmps, []⟩ w := by
  have k0 : w.cell? ⟨g, 0, none⟩ = some c0 := by rw [cell_of_row w _ _ _ _ _ h]; rfl
  have k1 : w.cell? ⟨g, 1, none⟩ = some c1 := by rw [cell_of_row w _ _ _ _ _ h]; rfl
  have k2 : w.cell? ⟨g, 2, none⟩ = some c2 := by rw [cell_of_row w _ _ _ _ _ h]; rfl
  refine bodyPost_ret (v := .tuple #[.agg #[c0, c1, c2], v]) ?_ rfl hR
  simp [results, hf, go_sem, h2, h3, k0, k1, k2]

def treePost (tb : Bool) (vs : List Int) (hs : List Bool) (w : World) (e : Ending) (w' : World) : Prop :=
  ∃ a1 c1 a2 n2 c2, e = .returned (.tuple #[.agg #[.bool tb, .slice a1 vs.length c1, .slice a2 n2 c2], .bool true]) ∧ TreeIn w' w'.heap.size (.slice a1 vs.length c1) (.slice a2 n2 c2) vs hs ∧ Below w.heap.size w w'

theorem Cells1.take {w : World} {B : Nat} {ao : Option Addr} {n cap : Nat} {l : List Value} (h : Cells1 w B (.slice ao n cap) l) (k : Nat) (hk : k ≤ l.length) : Cells1 w B (.slice ao k cap) (l.take k) := by
  obtain ⟨ao', cap', hv, hc⟩ := h.ex
  simp only [Value.slice.injEq] at hv
  obtain ⟨rfl, _, rfl⟩ := hv
  refine ⟨ao, cap, by simp; omega, fun i hi => ?_⟩
  have hi' : i < l.length := by simp at hi; omega
  obtain ⟨b, off, ha, hB, hcs⟩ := hc i hi'
  exact ⟨b, off, ha, hB, by rw [hcs, List.getElem_take]⟩

/-- A tree stays where its cells stay. -/
theorem Cells1.far {w : World} {B : Nat} {v : Value} {l : List Value} {g o : Nat} {u : Value} (h : Cells1 w B v l) (hg : ∀ ao n c, v = .slice ao n c → ∀ b off, ao = some ⟨b, off, none⟩ → b ≠ g) : Cells1 (w.setCell ⟨g, o, none⟩ u) B v l := by
  obtain ⟨ao, cap, hv, hc⟩ := h.ex
  refine ⟨ao, cap, hv, fun i hi => ?_⟩
  obtain ⟨b, off, ha, hB, hcs⟩ := hc i hi
  exact ⟨b, off, ha, hB, (World.cell?_of_block (a := ⟨b, off + i, none⟩) (Below.heap_setCell _ _ _ _ (hg _ _ _ hv b off ha))).trans hcs⟩

set_option maxHeartbeats 1000000 in
set_option maxRecDepth 100000 in
theorem refTree_log (w : World) (base R : Nat) (s : Sto) (lv : Value) (K H : Nat) (n : Nat) (h : RSt w base R s lv K H) (hn : n ≤ s.l.length) :
    Calls Try.prog 32 #[.pointer (some ⟨R, 0, none⟩), .int .i64 0, .int .i64 n] w (treePost false (s.l.take n) (List.replicate n true) w) := by
  have HS : Hid _ := h
  obtain ⟨⟨c0, c1, c2⟩, hfz⟩ := h.cells
  have hRl := h.lt.1
  have hlen := h.ok.len
  have hlog := h.log1
  have hown := h.hL
  obtain ⟨ao, cap, rfl⟩ := own_shape h.hL
  have hl1 := hlog.take n (by simpa using hn)
  rw [← List.map_take] at hl1
  have hcap : n ≤ cap := by
    rcases hown.2 with ⟨e, h0⟩ | ⟨g, cap', cur, e, _, _, hnc, _⟩
    · omega
    · simp at e; omega
  have hcm : cap ≤ maxLen := by
    rcases hown.2 with ⟨e, h0⟩ | ⟨g, cap', cur, e, _, _, hnc, hcm, _⟩
    · simp at e; unfold maxLen; omega
    · simp at e; omega
  have HC : ∀ w', Hid (Below w.heap.size w w' → Calls Try.prog 58 #[.slice ao n cap] w' (logPost (.slice ao n cap) (s.l.take n) w')) := fun w' => hid fun hb =>
    refLogOf_any _ _ w' ((hl1.below hb).mono hb.size) (fun v hv => HS.out.ok.val v (List.mem_of_mem_take hv)) (by simp; omega)
  have HL1 : Hid _ := hl1
  clear h hown hlog hl1
  go_enter Try.func32, Try.ntmps32
  go_wp2_with fail
  refine ((HC _).out ((Below.refl _ _).alloc (Nat.le_refl _) _)).mono ?_
  rintro e w1 ⟨⟨g, rfl, hgw, hT⟩, hb1⟩
  have hgn : g ≠ w.heap.size := by simp at hgw; omega
  have hg : w1.heap[w.heap.size]? = some (.cells #[.bool false, .slice none 0 0, .slice none 0 0] 76 (0, 0)) := (hb1.block _ (by simp)).trans (heap_alloc_new w _)
  have B1 : Hid (Below w.heap.size w w1) := hid (((Below.refl _ _).alloc (Nat.le_refl _) _).trans (hb1.mono (by simp)))
  have HG : Hid _ := hg
  have k0 : w1.cell? ⟨w.heap.size, 0, none⟩ = some (.bool false) := by rw [cell_of_row w1 _ _ _ _ _ hg]; rfl
  have k1 : w1.cell? ⟨w.heap.size, 1, none⟩ = some (.slice none 0 0) := by rw [cell_of_row w1 _ _ _ _ _ hg]; rfl
  have k2 : w1.cell? ⟨w.heap.size, 2, none⟩ = some (.slice none 0 0) := by rw [cell_of_row w1 _ _ _ _ _ hg]; rfl
  have ff : ∀ o, w1.frozen? ⟨w.heap.size, o, none⟩ = false := fun o => by simp [World.frozen?, hg]
  have hlt : w.heap.size < w1.heap.size := (Array.getElem?_eq_some_iff.1 hg).1
  have hlt' : (s.l.take n).length = n := by simp; omega
  rw [hlt'] at hT ⊢
  have HT : Hid _ := hT
  clear hb1 hT hg HC hgw hlt'
  go_wp2
  refine ret_tree2 Try.results32 (set3 HG.out _ _ _) rfl rfl ?_
  have hlt' : (s.l.take n).length = n := by simp; omega
  refine ⟨ao, cap, some ⟨g, 0, none⟩, n, n, by rw [hlt']; rfl, ?_, ?_⟩
  · rw [hlt']
    have hB : Below w.heap.size w (((w1.setCell ⟨w.heap.size, 0, none⟩ (.bool false)).setCell ⟨w.heap.size, 1, none⟩ (.slice ao n cap)).setCell ⟨w.heap.size, 2, none⟩ (.slice (some ⟨g, 0, none⟩) n n)) := by
      repeat (refine Below.setCell ?_ (by simp) _)
      exact B1.out
    have hT := HT.out
    have hz : w1.heap.size ≤ (((w1.setCell ⟨w.heap.size, 0, none⟩ (.bool false)).setCell ⟨w.heap.size, 1, none⟩ (.slice ao n cap)).setCell ⟨w.heap.size, 2, none⟩ (.slice (some ⟨g, 0, none⟩) n n)).heap.size := by simp [World.setCell]
    refine ⟨(HL1.out.below hB).mono hB.size, Cells1.mono (Cells1.far (Cells1.far (Cells1.far hT.hv2 ?_) ?_) ?_) hz, hT.len, hT.small, hT.val⟩ <;>
    · intro ao' n' c' e b off e'
      simp only [Value.slice.injEq] at e
      rw [← e.1] at e'
      simp at e'
      omega
  · repeat (refine Below.setCell ?_ (by simp) _)
    exact B1.out

set_option maxHeartbeats 1000000 in
set_option maxRecDepth 100000 in
theorem refTree_tab (w : World) (base R : Nat) (s : Sto) (lv : Value) (K H : Nat) (h : RSt w base R s lv K H) :
    Calls Try.prog 32 #[.pointer (some ⟨R, 0, none⟩), .int .i64 1, .int .i64 32] w (treePost true (tv s.t) (tx s.t) w) := by
  have HS : Hid _ := h
  obtain ⟨⟨c0, c1, c2⟩, hfz⟩ := h.cells
  have hRl := h.lt.1
  have ne1 := World.new_ne w ⟨R, 1, none⟩ (by rw [c1])
  clear h
  go_enter Try.func32, Try.ntmps32
  go_wp2
  go_region_held3 (fun w' => w'.cell? ⟨R, 1, none⟩ = some (.slice (some ⟨K, 0, none⟩) 32 32) ∧ w'.cell? ⟨R, 2, none⟩ = some (.slice (some ⟨H, 0, none⟩) 32 32)) (go_keep) (fail)
  go_wp2
  refine ret_tree2 Try.results32 (heap_alloc_new w _) rfl rfl ?_
  have hB : Below w.heap.size w (w.alloc (.cells #[.bool true, .slice (some ⟨K, 0, none⟩) 32 32, .slice (some ⟨H, 0, none⟩) 32 32] 76)).drew := ((Below.refl _ _).alloc (Nat.le_refl _) _).drew
  have hr := HS.out.below hB
  have l1 : (tv s.t).length = 32 := by simp [tv, HS.out.ok.tlen]
  have l2 : (tx s.t).length = 32 := by simp [tx, HS.out.ok.tlen]
  have e1 := hr.hK.cells1 32
  have e2 := hr.hH.cells1 32
  rw [List.length_map, l1] at e1
  rw [List.length_map, l2] at e2
  exact ⟨some ⟨K, 0, none⟩, 32, some ⟨H, 0, none⟩, 32, 32, by rw [l1]; rfl, by rw [l1]; exact ⟨e1, e2, by rw [l1, l2], by omega, tv_val HS.out.ok⟩, hB⟩

def noTree : Value := .tuple #[.agg #[.bool false, .slice none 0 0, .slice none 0 0], .bool false]

set_option maxHeartbeats 1000000 in
set_option maxRecDepth 100000 in
theorem refTree_no (w : World) (base R : Nat) (s : Sto) (lv : Value) (K H : Nat) (t n : Int) (h : RSt w base R s lv K H) (h0 : t = 0 → n < 0 ∨ s.l.length < n) (h1 : t = 1 → n ≠ 32) :
    Calls Try.prog 32 #[.pointer (some ⟨R, 0, none⟩), .int .i64 t, .int .i64 n] w fun e w' => e = .returned noTree ∧ Below w.heap.size w w' := by
  obtain ⟨⟨c0, c1, c2⟩, hfz⟩ := h.cells
  have hRl := h.lt.1
  obtain ⟨ao, cap, rfl⟩ := own_shape h.hL
  clear h
  by_cases e0 : t = 0
  · subst e0
    rcases h0 rfl with hn | hn
    · clear h0 h1
      go_enter Try.func32, Try.ntmps32
      go_wp2
      refine ret_tree2 Try.results32 (heap_alloc_new w _) rfl rfl ⟨rfl, ?_⟩
      exact (Below.refl _ _).alloc (Nat.le_refl _) _
    · have hn' : ¬ n ≤ (s.l.length : Int) := by omega
      have hn0 : 0 ≤ n := by omega
      clear h0 h1
      go_enter Try.func32, Try.ntmps32
      go_wp2
      refine ret_tree2 Try.results32 (heap_alloc_new w _) rfl rfl ⟨rfl, ?_⟩
      exact (Below.refl _ _).alloc (Nat.le_refl _) _
  · have b0 : (t == 0) = false := by simp [e0]
    by_cases e1 : t = 1
    · subst e1
      have b1 : (n == 32) = false := by simp [h1 rfl]
      clear h0 h1
      go_enter Try.func32, Try.ntmps32
      go_wp2
      refine ret_tree2 Try.results32 (heap_alloc_new w _) rfl rfl ⟨rfl, ?_⟩
      exact (Below.refl _ _).alloc (Nat.le_refl _) _
    · have b1 : (t == 1) = false := by simp [e1]
      clear h0 h1
      go_enter Try.func32, Try.ntmps32
      go_wp2
      refine ret_tree2 Try.results32 (heap_alloc_new w _) rfl rfl ⟨rfl, ?_⟩
      exact (Below.refl _ _).alloc (Nat.le_refl _) _

end Go.Proofs.Ytogmdaopfnmobaa

/- What the document's own answer does (notaryref): the store: Head. -/
namespace Go.Proofs.Ytogmdaopfnmobaa
open Go.RowKit


end Go.Proofs.Ytogmdaopfnmobaa

/- What the document's own answer does (notaryref): the store: Ask, Grown. -/
namespace Go.Proofs.Ytogmdaopfnmobaa
open Go.RowKit

end Go.Proofs.Ytogmdaopfnmobaa

/- What the document's own answer does (notaryref): the store: Grown. -/
namespace Go.Proofs.Ytogmdaopfnmobaa
open Go.RowKit

end Go.Proofs.Ytogmdaopfnmobaa

/- What the document's own answer does (notaryref): Folded. -/
namespace Go.Proofs.Ytogmdaopfnmobaa
open Go.RowKit

theorem rnodes_six {w : World} {B : Nat} {ao : Option Addr} {n cap : Nat} {l : List Nd} {k : Nat} {d : Nd} (h : Nodes w B (.slice ao n cap) l) (hk : k < l.length) (hd : d = l[k]) : ∃ b off, ao = some ⟨b, off, none⟩ ∧ b < B ∧
    w.cell? ⟨b, off + k * 6, none⟩ = some (.int .i64 d.c) ∧ w.cell? ⟨b, off + k * 6 + 1, none⟩ = some (.int .i64 d.s) ∧ w.cell? ⟨b, off + k * 6 + 2, none⟩ = some (.int .i64 d.m) ∧
    w.cell? ⟨b, off + k * 6 + 3, none⟩ = some (.int .i64 d.x) ∧ w.cell? ⟨b, off + k * 6 + 4, none⟩ = some (.int .u8 d.h.toNat) ∧ w.cell? ⟨b, off + k * 6 + 5, none⟩ = some (.int .u8 d.g.toNat) := by
  obtain ⟨ao', cap', hv, _, hc⟩ := h.ex
  simp only [Value.slice.injEq] at hv
  obtain ⟨rfl, rfl, rfl⟩ := hv
  obtain ⟨b, off, ha, hB, hcs⟩ := hc k hk
  subst hd
  exact ⟨b, off, ha, hB, six (Below.refl B w) hB hcs⟩

/-- The nodes whose parts lie in the range, put together: the first k. -/
def fld (l : List Sp) (ns : List Nd) : Nat → Fo
  | 0 => .zero
  | k + 1 => if ((l[k]?.map (·.i)).getD false) then tog (fld l ns k) ((ns[k]?.getD .E).fold) else fld l ns k
theorem fld_bd (l : List Sp) (ns : List Nd) (h : ∀ d ∈ ns, d.ok = true) (k : Nat) : (0 ≤ (fld l ns k).c ∧ (fld l ns k).c ≤ 34359738367 * k) ∧ (0 ≤ (fld l ns k).s ∧ (fld l ns k).s ≤ 34359738367 * k) := by
  induction k with
  | zero => simp [fld, Fo.zero]
  | succ k ih =>
    have hd : (0 ≤ (ns[k]?.getD .E).c ∧ (ns[k]?.getD .E).c ≤ 34359738367) ∧ (0 ≤ (ns[k]?.getD .E).s ∧ (ns[k]?.getD .E).s ≤ 34359738367) := by
      by_cases hk : k < ns.length
      · have := (Nd.ok_iff _).1 (h _ (List.getElem_mem hk))
        simp only [isNum_iff] at this
        simp [hk]; omega
      · simp [List.getElem?_eq_none (Nat.le_of_not_lt hk), Nd.E]
    simp only [fld]
    split
    · simp only [tog, Nd.fold]; omega
    · omega

set_option maxHeartbeats 2000000 in
set_option maxRecDepth 100000 in
theorem refFolded_any (l : List Sp) (ns : List Nd) (base g cap : Nat) (v : Value) (w : World) (hc : w.ownsRow base 150 3 (.slice (some ⟨g, 0, none⟩) l.length cap) l.length (spRow l)) (hN : Nodes w w.heap.size v ns) (hlen : ns.length = l.length) (hn : l.length ≤ 1000) (hok : ∀ d ∈ ns, d.ok = true) :
    Calls Try.prog 57 #[.slice (some ⟨g, 0, none⟩) l.length cap, v] w fun e w' => e = .returned (foV (fld l ns l.length)) ∧ Below w.heap.size w w' := by
  have HC : Hid (w.ownsRow base 150 3 (.slice (some ⟨g, 0, none⟩) l.length cap) l.length (spRow l)) := hc
  have HN : Hid (Nodes w w.heap.size v ns) := hN
  have hg := (own_in hc g (mem_ob.2 rfl)).2
  obtain ⟨ao, cp, rfl, _, _⟩ := hN.ex
  have HL : Hid _ := hlen
  have HOk : Hid _ := hok
  clear hc hN hlen hok
  go_enter Try.func57, Try.ntmps57
  go_wp2
  obtain ⟨W0, hW0⟩ : ∃ W0, W0 = (w.alloc (.cells #[.int .i64 0, .int .i64 0, .int .i64 0, .int .i64 0] 29)).alloc (.cells #[.int .i64 0, .int .i64 0, .int .i64 0, .int .i64 0] 29) := ⟨_, rfl⟩
  have hF1 : Hid (FoAt W0 (w.heap.size + 1) .zero) := hid (by rw [hW0]; exact FoAt.at _ _ (by simp) .zero)
  have hF0 : Hid (FoAt W0 w.heap.size .zero) := hid (by rw [hW0]; exact (FoAt.at w _ rfl .zero).alloc _)
  have hB0 : Hid (Below w.heap.size w W0) := hid (by rw [hW0]; exact ((Below.refl _ _).alloc (Nat.le_refl _) _).alloc (by simp) _)
  rw [← hW0]
  clear hW0
  go_loopw [6] (fun i wr => ∃ k : Nat, k ≤ l.length ∧ i = .int .i64 k ∧ Hid (FoAt wr (w.heap.size + 1) (fld l ns k) ∧ FoAt wr w.heap.size .zero ∧ Below w.heap.size w wr)) (fun i _ => l.length - (intOf i).toNat)
  case atStart => exact ⟨0, Nat.zero_le _, rfl, hid ⟨hF1.out, hF0.out, hB0.out⟩⟩
  case round =>
    clear hF1 hF0 hB0
    obtain ⟨k, hk, rfl, HR⟩ := hrel
    obtain ⟨h1, h2, h3⟩ := HR.out
    have l2 := h1.lt
    by_cases hlt : k < l.length
    · obtain ⟨p, hp⟩ : ∃ p, p = l[k] := ⟨_, rfl⟩
      obtain ⟨_, _, d2⟩ := span_cells (own_keep HC.out fun j hj => h3.block j (own_in HC.out j hj).2) k hlt p hp
      have hkn : k < ns.length := by rw [HL.out]; exact hlt
      obtain ⟨d, hd⟩ : ∃ d, d = ns[k] := ⟨_, rfl⟩
      obtain ⟨b, off, hab, hbB, e0, e1, e2, e3, _, _⟩ := rnodes_six (HN.out.below h3) hkn hd
      subst hab
      have i1 : (k : Int) < l.length := by omega
      have i2 : (k : Int) < ns.length := by omega
      have q := fld_bd l ns HOk.out k
      have hdo := (Nd.ok_iff d).1 (HOk.out d (by rw [hd]; exact List.getElem_mem hkn))
      simp only [isNum_iff] at hdo
      have HF : Hid (fld l ns (k + 1) = if p.i then tog (fld l ns k) d.fold else fld l ns k) := hid (by simp [fld, hlt, hkn, hp, hd])
      have hgz : g < wr.heap.size := by have := h3.size; omega
      have hbz : b < wr.heap.size := by have := h3.size; omega
      generalize fld l ns k = z at h1 HF q HR
      cases hi : p.i with
      | false =>
        rw [hi] at d2
        have HFf : Hid (fld l ns (k + 1) = z) := hid (by rw [HF.out, hi]; simp)
        clear hi HF hd hp HR
        have H1 : Hid (FoAt wr (w.heap.size + 1) z ∧ FoAt wr w.heap.size .zero ∧ Below w.heap.size w wr) := ⟨h1, h2, h3⟩
        clear h1 h2 h3
        go_wp2
        go_roundw
        case rel => exact ⟨k + 1, by omega, by go_num, by rw [HFf.out]; exact H1⟩
        case measure => simp [intOf]; omega
      | true =>
        rw [hi] at d2
        have HFt : Hid (fld l ns (k + 1) = tog z d.fold) := hid (by rw [HF.out, hi]; simp)
        clear hi HF hd hp HR
        obtain ⟨⟨f0, f1, f2, f3⟩, ff⟩ := h1.cells
        have H1 : Hid (FoAt wr (w.heap.size + 1) z) := h1
        have H2 : Hid (FoAt wr w.heap.size .zero) := h2
        have H3 : Hid (Below w.heap.size w wr) := h3
        have HT : ∀ w', Hid (Calls Try.prog 59 #[.agg #[.int .i64 z.c, .int .i64 z.s, .int .i64 z.m, .int .i64 z.x], .agg #[.int .i64 d.c, .int .i64 d.s, .int .i64 d.m, .int .i64 d.x]] w' fun e w2 => e = .returned (foV (tog z d.fold)) ∧ Below w'.heap.size w' w2) := fun w' => hid (refTogether_any z.c z.s z.m z.x d.c d.s d.m d.x w' (by omega) (by omega) (by omega) (by omega))
        generalize tog z d.fold = z' at HT HFt
        clear h1 h2 h3
        go_wp2
        go_region_with (go_at_call 59; refine (HT _).out.mono ?_; rintro e w1 ⟨rfl, hb1⟩; rw [foV]; have h1' : FoAt w1 (w.heap.size + 1) z := (hb1.block (w.heap.size + 1) l2).trans H1.out; obtain ⟨⟨g0, g1, g2, g3⟩, gg⟩ := h1'.cells; have H1' : Hid (FoAt w1 (w.heap.size + 1) z) := h1'; clear h1')
        all_goals
          have B1 : Hid (Below w.heap.size w w1) := hid (H3.out.drew.trans (hb1.mono (show w.heap.size ≤ wr.heap.size from H3.out.size)))
          have G1 : Hid (FoAt w1 w.heap.size .zero) := hid ((hb1.block w.heap.size (show w.heap.size < wr.heap.size by omega)).trans H2.out)
          clear hb1 f0 f1 f2 f3 ff d2 e0 e1 e2 e3
          go_wp2
          go_roundw
          case rel =>
            refine ⟨k + 1, by omega, by go_num, hid ⟨?_, ?_, ?_⟩⟩
            · rw [HFt.out]; exact FoAt.set H1'.out _
            · exact (((G1.out.far (by omega)).far (by omega)).far (by omega)).far (by omega)
            · repeat (refine Below.setCell ?_ (by simp) _)
              exact B1.out
          case measure => simp [intOf]; omega
    · have hk' : k = l.length := by omega
      subst hk'
      obtain ⟨⟨f0, f1, f2, f3⟩, _⟩ := h1.cells
      obtain ⟨⟨g0, g1, g2, g3⟩, gg⟩ := h2.cells
      obtain ⟨z, hz⟩ : ∃ z, z = fld l ns l.length := ⟨_, rfl⟩
      rw [← hz] at h1 f0 f1 f2 f3
      have HZ : Hid _ := hz
      have H2 : Hid (FoAt wr w.heap.size .zero) := h2
      have H3 : Hid (Below w.heap.size w wr) := h3
      clear HR hz h2 h3
      go_wp2
      refine ret_fold1 Try.results57 (FoAt.set (show FoAt _ _ _ from H2.out) z) rfl ⟨by rw [HZ.out], ?_⟩
      repeat (refine Below.setCell ?_ (by simp) _)
      exact H3.out

end Go.Proofs.Ytogmdaopfnmobaa

/- What the document's own answer does (notaryref): Beginning. -/
namespace Go.Proofs.Ytogmdaopfnmobaa
open Go.RowKit

/-- The node of the beginning, from the last k parts on: is it still the first? -/
def bg (l : List Sp) (ns : List Nd) : Nat → Nd × Bool
  | 0 => (.E, true)
  | k + 1 => if ((l[l.length - (k + 1)]?.map (·.i)).getD false) then (if (bg l ns k).2 then (ns[l.length - (k + 1)]?.getD .E, false) else (ab (ns[l.length - (k + 1)]?.getD .E) (bg l ns k).1, false)) else bg l ns k

def NdAt (w : World) (g : Nat) (d : Nd) : Prop := Six w g (.int .i64 d.c) (.int .i64 d.s) (.int .i64 d.m) (.int .i64 d.x) (.int .u8 (d.h.toNat : Int)) (.int .u8 (d.g.toNat : Int))

theorem NdAt.cells {w : World} {g : Nat} {d : Nd} (h : NdAt w g d) : (w.cell? ⟨g, 0, none⟩ = some (.int .i64 d.c) ∧ w.cell? ⟨g, 1, none⟩ = some (.int .i64 d.s) ∧ w.cell? ⟨g, 2, none⟩ = some (.int .i64 d.m) ∧ w.cell? ⟨g, 3, none⟩ = some (.int .i64 d.x) ∧ w.cell? ⟨g, 4, none⟩ = some (.int .u8 (d.h.toNat : Int)) ∧ w.cell? ⟨g, 5, none⟩ = some (.int .u8 (d.g.toNat : Int))) ∧ ∀ o, w.frozen? ⟨g, o, none⟩ = false := by
  have h' : Six _ _ _ _ _ _ _ _ := h
  exact ⟨h'.cells, fun o => by simp [World.frozen?, h'.eq]⟩
theorem NdAt.lt {w : World} {g : Nat} {d : Nd} (h : NdAt w g d) : g < w.heap.size := (Array.getElem?_eq_some_iff.1 (show Six _ _ _ _ _ _ _ _ from h).eq).1
theorem NdAt.set {w : World} {g : Nat} {d : Nd} (h : NdAt w g d) (e : Nd) : NdAt ((((((w.setCell ⟨g, 0, none⟩ (.int .i64 e.c)).setCell ⟨g, 1, none⟩ (.int .i64 e.s)).setCell ⟨g, 2, none⟩ (.int .i64 e.m)).setCell ⟨g, 3, none⟩ (.int .i64 e.x)).setCell ⟨g, 4, none⟩ (.int .u8 (e.h.toNat : Int))).setCell ⟨g, 5, none⟩ (.int .u8 (e.g.toNat : Int))) g e := Six.set h _ _ _ _ _ _

def Z6 (w : World) (g : Nat) : Prop := Six w g (.int .i64 0) (.int .i64 0) (.int .i64 0) (.int .i64 0) (.int .u8 0) (.int .u8 0)

end Go.Proofs.Ytogmdaopfnmobaa

/- What the document's own answer does (notaryref): what a proof's nodes come to, as mathematics. -/
namespace Go.Proofs.Ytogmdaopfnmobaa
open Go.RowKit

/-- What is worked out of a proof's nodes for the places from a on and ahead of b: the node, the nodes that are left, whether a node may not be. -/
def wk (a b f t : Nat) (ns : List Nd) (bad : Bool) : Nd × List Nd × Bool :=
  if isOut a b f t = true ∨ isIn a b f t = true ∨ b < a + 2 then (ns.headD .E, ns.tail, bad)
  else
    let r1 := wk a (a + hf (b - a)) f t ns bad
    let r2 := wk (a + hf (b - a)) b f t r1.2.1 r1.2.2
    if r2.2.2 then (r1.1, r2.2.1, true) else (ab r1.1 r2.1, r2.2.1, !(ab r1.1 r2.1).ok)
termination_by b - a
decreasing_by
  · have := hf_lt (b - a) (by omega); omega
  · have := hf_pos (b - a); omega
theorem wk_one (a b f t : Nat) (ns : List Nd) (bad : Bool) (h : isOut a b f t = true ∨ isIn a b f t = true ∨ b < a + 2) : wk a b f t ns bad = (ns.headD .E, ns.tail, bad) := by rw [wk, if_pos h]
theorem wk_two (a b f t : Nat) (ns : List Nd) (bad : Bool) (h : ¬ (isOut a b f t = true ∨ isIn a b f t = true ∨ b < a + 2)) : wk a b f t ns bad =
    if (wk (a + hf (b - a)) b f t (wk a (a + hf (b - a)) f t ns bad).2.1 (wk a (a + hf (b - a)) f t ns bad).2.2).2.2 then ((wk a (a + hf (b - a)) f t ns bad).1, (wk (a + hf (b - a)) b f t (wk a (a + hf (b - a)) f t ns bad).2.1 (wk a (a + hf (b - a)) f t ns bad).2.2).2.1, true)
    else (ab (wk a (a + hf (b - a)) f t ns bad).1 (wk (a + hf (b - a)) b f t (wk a (a + hf (b - a)) f t ns bad).2.1 (wk a (a + hf (b - a)) f t ns bad).2.2).1, (wk (a + hf (b - a)) b f t (wk a (a + hf (b - a)) f t ns bad).2.1 (wk a (a + hf (b - a)) f t ns bad).2.2).2.1, !(ab (wk a (a + hf (b - a)) f t ns bad).1 (wk (a + hf (b - a)) b f t (wk a (a + hf (b - a)) f t ns bad).2.1 (wk a (a + hf (b - a)) f t ns bad).2.2).1).ok) := by
  rw [wk, if_neg h]
/-- As many nodes are taken as the cover has parts. -/
theorem wk_rest (f t : Nat) : ∀ (n a b : Nat) (ns : List Nd) (bad : Bool), b - a ≤ n → (wk a b f t ns bad).2.1 = ns.drop (cov a b f t).length := by
  intro n
  induction n with
  | zero => intro a b ns bad h; rw [wk_one _ _ _ _ _ _ (by omega), cov, if_pos (by omega)]; simp
  | succ n ih =>
    intro a b ns bad h
    by_cases hs : isOut a b f t = true ∨ isIn a b f t = true ∨ b < a + 2
    · rw [wk_one _ _ _ _ _ _ hs, cov, if_pos hs]; simp
    · have p := hf_pos (b - a)
      have q := hf_lt (b - a) (by omega)
      rw [wk_two _ _ _ _ _ _ hs, cov, if_neg hs, List.length_append]
      have e1 := ih a (a + hf (b - a)) ns bad (by omega)
      have e2 := ih (a + hf (b - a)) b (wk a (a + hf (b - a)) f t ns bad).2.1 (wk a (a + hf (b - a)) f t ns bad).2.2 (by omega)
      split <;> (simp only; rw [e2, e1, List.drop_drop])
/-- Where nothing is bad, all that is worked out may be. -/
theorem wk_ok (f t : Nat) : ∀ (n a b : Nat) (ns : List Nd) (bad : Bool), b - a ≤ n → (∀ d ∈ ns, d.ok = true) → (wk a b f t ns bad).2.2 = false → (wk a b f t ns bad).1.ok = true ∧ bad = false := by
  intro n
  induction n with
  | zero =>
    intro a b ns bad h hok hb
    rw [wk_one _ _ _ _ _ _ (by omega)] at hb ⊢
    refine ⟨?_, hb⟩
    cases ns with
    | nil => rfl
    | cons d r => exact hok d (by simp)
  | succ n ih =>
    intro a b ns bad h hok hb
    by_cases hs : isOut a b f t = true ∨ isIn a b f t = true ∨ b < a + 2
    · rw [wk_one _ _ _ _ _ _ hs] at hb ⊢
      refine ⟨?_, hb⟩
      cases ns with
      | nil => rfl
      | cons d r => exact hok d (by simp)
    · have p := hf_pos (b - a)
      have q := hf_lt (b - a) (by omega)
      rw [wk_two _ _ _ _ _ _ hs] at hb ⊢
      have e1 := wk_rest f t n a (a + hf (b - a)) ns bad (by omega)
      generalize hr1 : wk a (a + hf (b - a)) f t ns bad = r1 at hb e1 ⊢
      generalize hr2 : wk (a + hf (b - a)) b f t r1.2.1 r1.2.2 = r2 at hb ⊢
      cases h2 : r2.2.2 with
      | true => simp [h2] at hb
      | false =>
        simp only [h2, Bool.false_eq_true, if_false] at hb ⊢
        have i2 := ih (a + hf (b - a)) b r1.2.1 r1.2.2 (by omega) (by rw [e1]; exact fun d hd => hok d (List.mem_of_mem_drop hd)) (by rw [hr2]; exact h2)
        have i1 := ih a (a + hf (b - a)) ns bad (by omega) hok (by rw [hr1]; exact i2.2)
        exact ⟨by simpa using hb, i1.2⟩

end Go.Proofs.Ytogmdaopfnmobaa

