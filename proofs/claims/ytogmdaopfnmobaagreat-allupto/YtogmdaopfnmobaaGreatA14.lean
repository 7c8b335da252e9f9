/- What settle of the law's world does: the walk. -/
import Derived.Test.YtogmdaopfnmobaaGreatA13
namespace Go.Proofs.YtogmdaopfnmobaaGreat
open Go.RowKit
theorem list_cell {w : World} {base : Nat} {v : Value} {Ws : List Value} (h : w.ownsRow base 72 1 v Ws.length Ws) {k : Nat} {x : Value} (hk : k < Ws.length) (hx : x = Ws[k]) : ∃ g cap, v = .slice (some ⟨g, 0, none⟩) Ws.length cap ∧ g < w.heap.size ∧ w.cell? ⟨g, k, none⟩ = some x := by
  subst hx
  rcases h.2 with ⟨rfl, h0⟩ | ⟨g, cap, cur, rfl, _, hg, _⟩
  · omega
  · have := h.cells (g := g) rfl k Ws[k] (by simp [hk])
    rw [WideShapes.add_plain, Nat.zero_add] at this
    exact ⟨g, cap, rfl, (Array.getElem?_eq_some_iff.1 hg).1, this⟩
theorem nodes_heap {w w' : World} {B : Nat} {v : Value} {l : List Nd} (h : Nodes w B v l) (e : w'.heap = w.heap) : Nodes w' B v l := by
  obtain ⟨ao, cap, hv, hm, hc⟩ := h.ex
  refine ⟨ao, cap, hv, hm, fun i hi => ?_⟩
  obtain ⟨b, off, ha, hB, hcs⟩ := hc i hi
  exact ⟨b, off, ha, hB, fun j hj => (World.cell?_of_block (w := w) (w' := w') (a := ⟨b, off + i * 6 + j, none⟩) (by rw [e])).trans (hcs j hj)⟩
theorem marks_more (n : Nat) (d : Nd) : (List.replicate (n + 1) d).flatMap Nd.cells = (List.replicate n d).flatMap Nd.cells ++ d.cells := by
  rw [List.replicate_succ', List.flatMap_append]
  simp
theorem marks_more2 (n : Nat) (d : Nd) : (List.replicate (n + 2) d).flatMap Nd.cells = (List.replicate n d).flatMap Nd.cells ++ (d.cells ++ d.cells) := by
  rw [marks_more (n + 1), marks_more n, List.append_assoc]
theorem marks_more3 (n : Nat) (d : Nd) : (List.replicate (n + 3) d).flatMap Nd.cells = (List.replicate n d).flatMap Nd.cells ++ (d.cells ++ (d.cells ++ d.cells)) := by
  rw [marks_more (n + 2), marks_more2 n, List.append_assoc, List.append_assoc]
theorem setCell_size (w : World) (a : Addr) (u : Value) : (w.setCell a u).heap.size = w.heap.size := by simp [World.setCell]
theorem two_one (d : Nd) : ∀ u ∈ d.cells ++ d.cells, u.oneCell' = true := by
  intro u hu
  rw [List.mem_append] at hu
  rcases hu with hu | hu <;> exact node_one d u hu
theorem three_one (d : Nd) : ∀ u ∈ d.cells ++ (d.cells ++ d.cells), u.oneCell' = true := by
  intro u hu
  rw [List.mem_append] at hu
  rcases hu with hu | hu
  · exact node_one d u hu
  · exact two_one d u hu
theorem blk_of {W w' : World} {v x : Value} {N : Nat} (h : Grew W v w' x) (hN : N ≤ W.heap.size) : ∀ j ∈ ob x, j ∈ ob v ∨ N ≤ j := fun j hj => by
  rcases h.blk with e | ⟨k, e, hk⟩
  · left; rw [mem_ob, ← e]; exact mem_ob.1 hj
  · right; rw [mem_ob, e] at hj; simp at hj; omega
structure St (W0 : World) (v : Value) (n base mb bb M : Nat) (y1 y2 y3 : Value) (W : World) : Prop where
  own : W.ownsRow base 51 6 v n ((List.replicate n (Mk (M : Int))).flatMap Nd.cells)
  ten : W.heap[bb]? = some (.cells #[.int .i64 (-1), .int .i64 M, .int .i64 0, .int .i64 0, .int .u8 0, .int .u8 0, v, y1, y2, y3] 119 (0, 0))
  six : Six W mb (.int .i64 (-1)) (.int .i64 M) (.int .i64 0) (.int .i64 0) (.int .u8 0) (.int .u8 0)
  kept : Kept W0 W (ob v)
  vin : ∀ j ∈ ob v, j < W0.heap.size
  mbv : mb ∉ ob v
  mbl : mb < W0.heap.size
  bbl : W0.heap.size ≤ bb
section
variable {W0 W w' : World} {v y1 y2 y3 x : Value} {n base mb bb M : Nat}
theorem St.bbv (h : St W0 v n base mb bb M y1 y2 y3 W) : bb ∉ ob v := fun c => by have := h.vin bb c; have := h.bbl; omega
theorem St.block (h : St W0 v n base mb bb M y1 y2 y3 W) (hs : W.heap.size ≤ w'.heap.size) (hos : w'.os = W.os) (ht : w'.tape = W.tape) (ho : w'.output = W.output) (hb : ∀ j, j < W.heap.size → j ∉ ob v → w'.heap[j]? = W.heap[j]?)
    (hown : w'.ownsRow base 51 6 v n ((List.replicate n (Mk (M : Int))).flatMap Nd.cells)) : St W0 v n base mb bb M y1 y2 y3 w' := by
  have hsz := h.kept.size
  have hmb := h.mbl
  refine ⟨hown, ?_, ?_, ⟨hos.trans h.kept.os, ht.trans h.kept.tape, ho.trans h.kept.output, by omega, fun k hk hn => (hb k (by omega) hn).trans (h.kept.block k hk hn)⟩, h.vin, h.mbv, h.mbl, h.bbl⟩
  · rw [hb bb (Array.getElem?_eq_some_iff.1 h.ten).1 h.bbv]; exact h.ten
  · have h6 := h.six
    unfold Six at h6 ⊢
    rw [hb mb (by omega) h.mbv]; exact h6
theorem St.alloc (h : St W0 v n base mb bb M y1 y2 y3 W) (o : Obj) : St W0 v n base mb bb M y1 y2 y3 (W.alloc o) :=
  h.block (by simp) rfl rfl rfl (fun j hj _ => Below.heap_alloc _ _ _ hj) (h.own.alloc o)
theorem St.more (h : St W0 v n base mb bb M y1 y2 y3 W) (hm : More W v w' x) (hv : w'.ownsRow base 51 6 v n ((List.replicate n (Mk (M : Int))).flatMap Nd.cells)) : St W0 v n base mb bb M y1 y2 y3 w' :=
  h.block hm.grew.grown.size hm.grew.grown.os hm.grew.grown.tape hm.grew.grown.output (fun j hj hn => hm.grew.grown.block j hj (fun c => hn (mem_ob.2 c.symm))) hv
theorem St.cells (h : St W0 v n base mb bb M y1 y2 y3 W) : (W.cell? ⟨bb, 7, none⟩ = some y1 ∧ W.cell? ⟨bb, 8, none⟩ = some y2 ∧ W.cell? ⟨bb, 9, none⟩ = some y3) ∧ ∀ j, W.frozen? ⟨bb, j, none⟩ = false := by
  have ht := h.ten
  refine ⟨⟨?_, ?_, ?_⟩, fun j => by simp [World.frozen?, ht]⟩ <;> rw [cell_of_row W bb _ _ _ _ ht] <;> rfl
theorem own_ten {e : TypeId} {sz k : Nat} {xs : List Value} {C : Array Value} {u : Value} {i : Nat} (hx : W.ownsRow base e sz x k xs) (ht : W.heap[bb]? = some (.cells C 119 (0, 0))) (hne : e ≠ 119) : (W.setCell ⟨bb, i, none⟩ u).ownsRow base e sz x k xs :=
  own_keep hx fun j hj => Below.heap_setCell _ _ _ _ (fun c => by
    rw [mem_ob] at hj
    rcases hx.2 with ⟨rfl, _⟩ | ⟨g, _, _, rfl, _, hg, _⟩
    · simp [Value.ownBlock] at hj
    · simp only [Value.ownBlock, Option.some.injEq] at hj
      subst hj
      cases c
      rw [ht] at hg
      simp only [Option.some.injEq, Obj.cells.injEq] at hg
      exact hne hg.2.1.symm)
theorem St.set (h : St W0 v n base mb bb M y1 y2 y3 W) (i : Nat) (u z1 z2 z3 : Value) (hz : (#[.int .i64 (-1), .int .i64 (M : Int), .int .i64 0, .int .i64 0, .int .u8 0, .int .u8 0, v, y1, y2, y3] : Array Value).setIfInBounds i u = #[.int .i64 (-1), .int .i64 M, .int .i64 0, .int .i64 0, .int .u8 0, .int .u8 0, v, z1, z2, z3]) :
    St W0 v n base mb bb M z1 z2 z3 (W.setCell ⟨bb, i, none⟩ u) := by
  have hbb := h.bbl
  have hmb := h.mbl
  refine ⟨own_ten h.own h.ten (by decide), by rw [heap_set h.ten, hz], ?_, h.kept.setCell (.inr hbb) _, h.vin, h.mbv, h.mbl, h.bbl⟩
  have h6 := h.six
  unfold Six at h6 ⊢
  rw [Below.heap_setCell _ _ _ _ (by show mb ≠ bb; omega)]; exact h6
end
theorem settle_fin {w wo w1 wi W9 w10 : World} {A base : Nat} {sv lv : Value} {m M : Nat} {wv ev bv bv0 bv3 v : Value} {Ws Es : List Value} {Ls : List (List Nd)} {Bs Bs0 : List Bk} {q : Nat} {o1 o2 : Obj} {b : Bk}
    (hJ : Inv2 wo A base sv lv m wv ev bv Ws Ls Bs q) (hq : q < Ws.length) (hX : v = Ws[q]) (hK : Kept w wo (fpOf A wv ev bv0 Ws Es Bs0)) (hbv : ∀ j ∈ ob bv, j ∈ ob bv0 ∨ w.heap.size ≤ j)
    (hA9 : W9.heap[A]? = some (.cells #[sv, .int .i64 M, wv, ev, bv, lv] 70 (0, 0))) (K2 : Kept wo w1 (A :: ob v)) (hKt : Kept (w1.alloc o1) wi (ob v)) (k9 : Kept wi W9 (ob v))
    (hgr : Grew (W9.drew.alloc o2) bv w10 bv3) (hown : w10.ownsRow base 119 10 bv3 (Bs.length + 1) (Bs.flatMap Bk.cells ++ b.cells))
    (hmk : Marked W9 base b.x0 b.m ∧ Marked W9 base b.x1 b.m ∧ Marked W9 base b.x2 b.m ∧ Marked W9 base b.x3 b.m) (hblk : ∀ j ∈ b.blocks, j ∈ ob v ∨ wi.heap.size ≤ j) :
    Inv2 (w10.setCell ⟨A, 4, none⟩ bv3) A base sv lv M wv ev bv3 Ws Ls (Bs ++ [b]) (q + 1) ∧ (∀ j ∈ ob bv3, j ∈ ob bv0 ∨ w.heap.size ≤ j) ∧ Kept w (w10.setCell ⟨A, 4, none⟩ bv3) (fpOf A wv ev bv0 Ws Es Bs0) := by
  have s2 := K2.size
  have s3 : w1.heap.size + 1 ≤ wi.heap.size := by have := hKt.size; simpa using this
  have s9 := k9.size
  have s0 := hK.size
  have hq2 : q < Ls.length := by rw [← hJ.len1]; exact hq
  have hdrop : Ws.drop q = Ws[q] :: Ws.drop (q + 1) := List.drop_eq_getElem_cons hq
  have hJ9 : Inv2 W9 A base sv lv M wv ev bv Ws Ls Bs (q + 1) := hJ.frame hq hA9 (by omega) fun j hj hjA hjn => by
    rw [← hX] at hjn
    have q1 := K2.block j hj (by simp only [List.mem_cons, not_or]; exact ⟨hjA, hjn⟩)
    have q2 := hKt.block j (by simp; omega) hjn
    have q3 := k9.block j (by omega) hjn
    exact q3.trans (q2.trans ((Below.heap_alloc _ _ _ (by omega)).trans q1))
  have hBb : Below W9.heap.size W9 (W9.drew.alloc o2) := Below.alloc (Below.drew (Below.refl _ _)) (Nat.le_refl _) _
  have km : ∀ {x : Value} {n : Int}, Marked W9 base x n → Marked (W9.drew.alloc o2) base x n := fun ⟨j, hj, hx⟩ => ⟨j, hj, ownsRow_below hx hBb⟩
  obtain ⟨m0, m1, m2, m3⟩ := hmk
  refine ⟨(hJ9.below hBb).book hgr hown ⟨km m0, km m1, km m2, km m3, ?_⟩, ?_, ?_⟩
  · intro j hj c
    obtain ⟨y, hy, hjy⟩ := List.mem_flatMap.1 c
    have hd := hJ.d2
    rw [hdrop, List.flatMap_cons, List.nodup_append] at hd
    rcases hblk j hj with h | h
    · rw [hX] at h
      exact hd.2.2 j h j c rfl
    · obtain ⟨i, hi, e⟩ := List.mem_drop_iff_getElem.1 hy
      have ho := hJ.owW (q + 1 + i) (by omega) (by rw [← hJ.len1]; omega) (by omega)
      rw [e] at ho
      have := (own_in ho j hjy).2
      omega
  · intro j hj
    rcases blk_of hgr (show w.heap.size ≤ _ by simp; omega) j hj with h | h
    · exact hbv j h
    · exact .inr h
  · have hAf : A ∈ fpOf A wv ev bv0 Ws Es Bs0 := by simp [fpOf]
    have hvf : ∀ j ∈ ob v, j ∈ fpOf A wv ev bv0 Ws Es Bs0 := fun j hj => mem_fp_W (List.getElem_mem hq) (by rw [← hX]; exact hj)
    have t1 := hK.trans K2 (fun x hx => by rcases List.mem_cons.1 hx with h | h; exact .inl (h ▸ hAf); exact .inl (hvf x h))
    have t2 := (t1.alloc o1).trans hKt (fun x hx => .inl (hvf x hx))
    have t3 := t2.trans k9 (fun x hx => .inl (hvf x hx))
    have t4 := ((t3.drew).alloc o2).trans (Kept.of_grown (fp := ob bv) hgr.grown fun k hk => mem_ob.2 hk) (fun x hx => by
      rcases hbv x hx with h | h
      · left; simp [fpOf, h]
      · exact .inr h)
    exact t4.setCell (.inl hAf) _
def settlePost (w : World) (A base : Nat) (sv lv : Value) (m : Nat) (wv ev bv : Value) (Ws Es : List Value) (Bs : List Bk) (e : Ending) (w' : World) : Prop :=
  e = .returned (.bool true) ∧ Kept w w' (fpOf A wv ev bv Ws Es Bs) ∧ ∃ bv' m' Bs', m' = m + Ws.length ∧ Bs'.length = Bs.length + Ws.length ∧ Inv w' A base sv lv m' (.slice none 0 0) (.slice none 0 0) bv' [] [] [] Bs'
set_option maxHeartbeats 4000000 in
set_option maxRecDepth 100000 in
theorem settle_any (w : World) (A base : Nat) (sv lv : Value) (m : Nat) (wv ev bv : Value) (Ws Es : List Value) (Ls : List (List Nd)) (Bs : List Bk) (hI : Inv w A base sv lv m wv ev bv Ws Es Ls Bs)
    (hll : ∀ l ∈ Ls, l.length ≤ 2000000) (hm : m + Ws.length ≤ 20000000) (hbl : Bs.length + Ws.length ≤ 20000000) :
    Calls Tryz.prog 22 #[.pointer (some ⟨A, 0, none⟩)] w (settlePost w A base sv lv m wv ev bv Ws Es Bs) := by
  obtain ⟨aw, cw, rfl⟩ := own_shape hI.hW
  obtain ⟨ae, ce, rfl⟩ := own_shape hI.hE
  obtain ⟨⟨c0, c1, c2, c3, c4, c5⟩, hlv⟩ := hI.cells
  go_enter Tryz.func22, Tryz.ntmps22
  go_wp2
  go_loopw [3, 4] (fun ok i wr => ∃ k : Nat, k ≤ Ws.length ∧ ok = .bool true ∧ i = .int .i64 k ∧ Hid (∃ n, wr = w.drewN n)) (fun _ i _ => Ws.length - (intOf i).toNat)
  case atStart => exact ⟨0, Nat.zero_le _, rfl, rfl, ⟨0, rfl⟩⟩
  case round =>
    obtain ⟨k, hk, rfl, rfl, HW⟩ := hrel
    have hbr : Below w.heap.size w wr := by obtain ⟨n, e⟩ := HW.out; rw [e]; exact below_drewN w n
    have hIr := hI.below hbr
    have HI : Hid _ := hI
    have HB : Hid _ := hbr
    clear c0 c1 c2 c3 c4 c5 hlv hI hbr
    obtain ⟨⟨c0, c1, c2, c3, c4, c5⟩, hlv⟩ := hIr.cells
    by_cases hlt : k < Ws.length
    · have hk2 : k < Ls.length := by rw [← hIr.len1]; exact hlt
      have hk3 : k < Es.length := by rw [hIr.len2]; exact hk2
      have N1 := nodes_own (hIr.owW k hlt hk2) (by have := hll _ (List.getElem_mem hk2); omega)
      have N2 := nodes_own (hIr.owE k hk3 hk2) (by have := hll _ (List.getElem_mem hk2); omega)
      obtain ⟨x1, hx1⟩ : ∃ x, x = Ws[k] := ⟨_, rfl⟩
      obtain ⟨x2, hx2⟩ : ∃ x, x = Es[k] := ⟨_, rfl⟩
      obtain ⟨g1, p1, e1, l1, d1⟩ := list_cell hIr.hW hlt hx1
      obtain ⟨g2, p2, e2, l2, d2⟩ := list_cell hIr.hE hk3 hx2
      rw [← hx1] at N1
      rw [← hx2] at N2
      simp only [Value.slice.injEq, true_and] at e1 e2
      obtain ⟨rfl, rfl⟩ := e1
      obtain ⟨rfl, rfl⟩ := e2
      obtain ⟨b1, q1, rfl, _, _⟩ := N1.ex
      obtain ⟨b2, q2, rfl, _, _⟩ := N2.ex
      have hee : (Es.length : Int) = (Ws.length : Int) := by rw [hIr.len1, hIr.len2]
      have hi1 : (k : Int) < (Ws.length : Int) := by omega
      have hi2 : (k : Int) < (Es.length : Int) := by omega
      clear hIr hx1 hx2 hll hee
      go_wp2
      go_quiet ((go_at_call 58; exact Calls.quiet_of (sameNodes_any _ _ _ _ wr.heap.size (by exact nodes_heap N1 rfl) (by exact nodes_heap N2 rfl))))
      go_wp2
      go_roundw
      case rel => exact ⟨k + 1, by omega, rfl, by go_num, (by obtain ⟨n, e⟩ := HW.out; exact ⟨n + nq, by rw [e, World.drewN_drewN]⟩)⟩
      case measure => simp [intOf]; omega
    · have hI0 := hIr.begin
      have hK0 : Kept w wr (fpOf A (.slice aw Ws.length cw) (.slice ae Es.length ce) bv Ws Es Bs) := Kept.of_below HB.out _
      have hlens : Hid _ := hIr.len1
      have hkk : k = Ws.length := by omega
      subst hkk
      clear hIr c0 c1 c3 c4 c5 hlv
      go_wp2
      clear c2
      go_loopw [6] (fun i wr => ∃ (k : Nat) (Bs' : List Bk) (bv' : Value), k ≤ Ws.length ∧ i = .int .i64 k ∧ Inv2 wr A base sv lv (m + k) (.slice aw Ws.length cw) (.slice ae Es.length ce) bv' Ws Ls Bs' k ∧ Bs'.length = Bs.length + k ∧
          (∀ j ∈ ob bv', j ∈ ob bv ∨ w.heap.size ≤ j) ∧ Kept w wr (fpOf A (.slice aw Ws.length cw) (.slice ae Es.length ce) bv Ws Es Bs)) (fun i _ => Ws.length - (intOf i).toNat)
      case atStart => exact ⟨0, Bs, bv, Nat.zero_le _, rfl, hI0, rfl, fun j hj => .inl hj, hK0⟩
      case round =>
        obtain ⟨q, Bs', bv', hq, rfl, hJ, hBl, hbv, hK⟩ := hrel
        have HBl : Hid _ := hBl
        have hbq : Bs'.length ≤ 20000000 := by omega
        have hbq1 : q < Ws.length → Bs'.length + 1 ≤ 20000000 := by omega
        clear hBl
        clear hI0 hK0
        obtain ⟨⟨c0, c1, c2, c3, c4, c5⟩, hlv⟩ := hJ.cells
        by_cases hql : q < Ws.length
        · have hq2 : q < Ls.length := by rw [← hlens.out]; exact hql
          have hv := hJ.owW q hql hq2 (Nat.le_refl _)
          have hln := hll _ (List.getElem_mem hq2)
          obtain ⟨l, hl⟩ : ∃ l, l = Ls[q] := ⟨_, rfl⟩
          obtain ⟨x1, hx1⟩ : ∃ x, x = Ws[q] := ⟨_, rfl⟩
          obtain ⟨g1, p1, e1, l1, d1⟩ := list_cell hJ.hW hql hx1
          rw [← hx1, ← hl] at hv
          rw [← hl] at hln
          simp only [Value.slice.injEq, true_and] at e1
          obtain ⟨rfl, rfl⟩ := e1
          obtain ⟨av, cv, rfl⟩ := own_shape hv
          obtain ⟨M, hM⟩ : ∃ M, M = m + q + 1 := ⟨_, rfl⟩
          have HM : Hid _ := hM
          have HMi : Hid ((m : Int) + (q : Int) + 1 = (M : Int)) := by show _ = _; omega
          have hmq : m + q ≤ 20000000 := by omega
          have HX : Hid _ := hx1
          have HL : Hid _ := hl
          have hi1 : (q : Int) < (Ws.length : Int) := by omega
          have hAl : A < wr.heap.size := by have := hJ.hAb; have := hJ.hbs; omega
          clear hx1 hl hM hll
          go_wp2_with fail
          rw [HMi.out]
          have hAb := hJ.hAb
          have hbs := hJ.hbs
          have hvin := own_in hv
          have hAv : A ∉ ob (.slice av l.length cv) := fun c => by have := hvin A c; omega
          have hA1 : (wr.setCell ⟨A, 1, none⟩ (.int .i64 M)).heap[A]? = some (.cells #[sv, .int .i64 M, .slice (some ⟨g1, 0, none⟩) Ws.length cw, .slice ae Es.length ce, bv', lv] 70 (0, 0)) := by rw [heap_set hJ.hA]; rfl
          have K1 : Kept wr (wr.setCell ⟨A, 1, none⟩ (.int .i64 M)) (A :: ob (.slice av l.length cv)) := (Kept.refl _ _).setCell (.inl (by simp)) _
          have sz1 : (wr.setCell ⟨A, 1, none⟩ (.int .i64 M)).heap.size = wr.heap.size := by simp [World.setCell]
          refine (far_any _ _).mono ?_
          rintro e w1 ⟨rfl, hb1⟩
          have s1 : wr.heap.size ≤ w1.heap.size := by have := hb1.size; omega
          have hA2 := (hb1.block A (by omega)).trans hA1
          have K2 : Kept wr w1 (A :: ob (.slice av l.length cv)) := K1.trans (Kept.of_below hb1 []) (by simp)
          have hv1 : w1.ownsRow base 51 6 (.slice av l.length cv) l.length (l.flatMap Nd.cells) := own_keep hv fun j hj => (hb1.block j (by have := hvin j hj; omega)).trans (Below.heap_setCell _ _ _ _ (by have := hvin j hj; show j ≠ A; omega))
          clear hb1 K1 hA1 sz1 d1 c0 c1 c2 c3 c4 c5 hlv
          go_wp2
          go_loopw [9] (fun i wq => ∃ t : Nat, t ≤ l.length ∧ i = .int .i64 t ∧ wq.ownsRow base 51 6 (.slice av l.length cv) l.length ((List.replicate t (Mk (M : Int)) ++ l.drop t).flatMap Nd.cells) ∧
              Kept (w1.alloc (.cells #[.int .i64 (-1), .int .i64 M, .int .i64 0, .int .i64 0, .int .u8 0, .int .u8 0] 51)) wq (ob (.slice av l.length cv))) (fun i _ => l.length - (intOf i).toNat)
          case atStart => exact ⟨0, Nat.zero_le _, rfl, by simpa using hv1.alloc _, Kept.refl _ _⟩
          case round =>
            obtain ⟨t, ht, rfl, hvt, hKt⟩ := hrel
            have hbx : w1.heap.size ∉ ob (.slice av l.length cv) := fun c => by have := hvin _ c; omega
            have S1 : Six wr w1.heap.size (.int .i64 (-1)) (.int .i64 M) (.int .i64 0) (.int .i64 0) (.int .u8 0) (.int .u8 0) := by
              have h := Six.new w1 (.int .i64 (-1)) (.int .i64 M) (.int .i64 0) (.int .i64 0) (.int .u8 0) (.int .u8 0)
              unfold Six at h ⊢
              rw [hKt.block _ (by simp) hbx]; exact h
            obtain ⟨b0, b1, b2, b3, b4, b5⟩ := S1.cells
            by_cases htl : t < l.length
            · rcases hvt.2 with ⟨e, h0⟩ | ⟨g, cap', cur, e, _⟩
              · omega
              · simp only [Value.slice.injEq, true_and] at e
                obtain ⟨rfl, rfl⟩ := e
                obtain ⟨rest, hbk, hrl, hnc, hcm, hbb⟩ := Blk.of hvt (by simp; omega)
                have hidx : t < (List.replicate t (Mk (M : Int)) ++ l.drop t).length := by simp; omega
                obtain ⟨f0, f1, f2, f3, f4, f5⟩ := hbk.six hidx rfl
                have hlv := hbk.live
                have hst := hbk.store hidx (Mk (M : Int))
                rw [mark_next l _ t htl] at hst
                have hgne : g ≠ w1.heap.size := fun c => hbx (by simp [ob, Value.ownBlock, c])
                have hti : (t : Int) < (l.length : Int) := by omega
                go_wp2
                go_roundw
                case rel =>
                  refine ⟨t + 1, by omega, by go_num, ?_, ?_⟩
                  · have h := hst.own (base := base) (cap := cv) (n := l.length) (by simp; omega) (by simp; omega) hcm hbb
                    rwa [List.take_of_length_le (by simp; omega)] at h
                  · repeat (refine Kept.setCell ?_ (.inl (by simp [ob, Value.ownBlock])) _)
                    exact hKt
                case measure => simp [intOf]; omega
            · have htt : t = l.length := by omega
              subst htt
              rw [List.drop_of_length_le (Nat.le_refl _), List.append_nil] at hvt
              obtain ⟨j0, hj, hy0, hy1, hy2⟩ := info_parts info_node
              have s3 : w1.heap.size + 1 ≤ wr.heap.size := by have := hKt.size; simpa using this
              have s3' : w1.heap.size < wr.heap.size := by omega
              have hbb : base ≤ wr.heap.size := by omega
              have hvi := own_in hvt
              go_wp2_with (at_builtin; refine wpList_append_more _ rfl _ _ 72 rfl base 51 j0 (.agg #[.int .i64 0, .int .i64 0, .int .i64 0, .int .i64 0, .int .u8 0, .int .u8 0]) 6 40 Tryz.underlying72 hj hy0 hy1 hy2 rfl (by decide) _ _ _ rfl ((hvt.alloc _).alloc _) ⟨wr.heap.size + 1, 0, none⟩ 1 1 (Mk (M : Int)).cells rfl rfl ?_ (node_one _) ?_ ?_ ?_ ?_)
              · have := node_new (wr.alloc (.cells #[.int .i64 (-1), .int .i64 M, .int .i64 0, .int .i64 0, .int .u8 0, .int .u8 0, .slice av l.length cv, .slice none 0 0, .slice none 0 0, .slice none 0 0] 119)) (Mk (M : Int)) 51
                simpa [Mk] using this
              · unfold maxLen; omega
              · omega
              · simp; omega
              intro x1 w4 hx1 hm1 hv4
              rw [← marks_more] at hx1
              obtain ⟨a1, c1, rfl⟩ := own_shape hx1
              have hb1x := blk_of hm1.grew (show wr.heap.size ≤ _ by simp; omega)
              have T0 : St wr (.slice av l.length cv) l.length base w1.heap.size wr.heap.size M (.slice none 0 0) (.slice none 0 0) (.slice none 0 0) (wr.alloc (.cells #[.int .i64 (-1), .int .i64 M, .int .i64 0, .int .i64 0, .int .u8 0, .int .u8 0, .slice av l.length cv, .slice none 0 0, .slice none 0 0, .slice none 0 0] 119)) :=
                ⟨hvt.alloc _, heap_alloc_new _ _, S1.alloc _, (Kept.refl _ _).alloc _, fun j hj => (hvi j hj).2, hbx, s3', Nat.le_refl _⟩
              have T1 := (T0.alloc (.cells #[.int .i64 (-1), .int .i64 M, .int .i64 0, .int .i64 0, .int .u8 0, .int .u8 0] 51)).more hm1 hv4
              obtain ⟨⟨t7, _, _⟩, tz⟩ := T1.cells
              have U1 := T1.set 7 (.slice a1 (l.length + 1) c1) (.slice a1 (l.length + 1) c1) (.slice none 0 0) (.slice none 0 0) rfl
              have hx1' := own_ten (i := 7) (u := .slice a1 (l.length + 1) c1) hx1 T1.ten (by decide)
              have s5 : wr.heap.size < w4.heap.size := (Array.getElem?_eq_some_iff.1 T1.ten).1
              have s5' : w1.heap.size < w4.heap.size := by omega
              obtain ⟨u0, u1, u2, u3, u4, u5⟩ := T1.six.cells
              clear hx1 hm1 hv4 T1 T0 hvt S1 b0 b1 b2 b3 b4 b5
              go_wp2_with (at_builtin; refine wpList_append_more _ rfl _ _ 72 rfl base 51 j0 (.agg #[.int .i64 0, .int .i64 0, .int .i64 0, .int .i64 0, .int .u8 0, .int .u8 0]) 6 40 Tryz.underlying72 hj hy0 hy1 hy2 rfl (by decide) _ _ _ rfl (U1.own.alloc _) ⟨w4.heap.size, 0, none⟩ 2 2 ((Mk (M : Int)).cells ++ (Mk (M : Int)).cells) rfl rfl ?_ (two_one _) ?_ ?_ ?_ ?_)
              · intro jj uu hj2
                have := block_new (w4.setCell ⟨wr.heap.size, 7, none⟩ (.slice a1 (l.length + 1) c1)) #[.int .i64 (-1), .int .i64 M, .int .i64 0, .int .i64 0, .int .u8 0, .int .u8 0, .int .i64 (-1), .int .i64 M, .int .i64 0, .int .i64 0, .int .u8 0, .int .u8 0] 51 jj uu hj2
                rw [setCell_size] at this
                exact this
              · unfold maxLen; omega
              · omega
              · simp [World.setCell]; omega
              intro x2 w6 hx2 hm2 hv6
              rw [← marks_more2] at hx2
              obtain ⟨a2, c2, rfl⟩ := own_shape hx2
              clear u0 u1 u2 u3 u4 u5 t7 tz
              have hb2x := blk_of hm2.grew (show wr.heap.size ≤ _ by simp [World.setCell]; omega)
              have hx1'' := marks_stay (j := 1) (j' := 2) (hx1'.alloc _) (U1.own.alloc _) hm2 hx2 hv6 (by omega)
              have T2 := (U1.alloc (.cells #[.int .i64 (-1), .int .i64 M, .int .i64 0, .int .i64 0, .int .u8 0, .int .u8 0, .int .i64 (-1), .int .i64 M, .int .i64 0, .int .i64 0, .int .u8 0, .int .u8 0] 51)).more hm2 hv6
              obtain ⟨⟨_, t8, _⟩, tz⟩ := T2.cells
              have U2 := T2.set 8 (.slice a2 (l.length + 2) c2) (.slice a1 (l.length + 1) c1) (.slice a2 (l.length + 2) c2) (.slice none 0 0) rfl
              have X1 := own_ten (i := 8) (u := .slice a2 (l.length + 2) c2) hx1'' T2.ten (by decide)
              have X2 := own_ten (i := 8) (u := .slice a2 (l.length + 2) c2) hx2 T2.ten (by decide)
              have s7 : wr.heap.size < w6.heap.size := (Array.getElem?_eq_some_iff.1 T2.ten).1
              have s7' : w1.heap.size < w6.heap.size := by omega
              obtain ⟨u0, u1, u2, u3, u4, u5⟩ := T2.six.cells
              clear hx2 hm2 hv6 T2 U1 hx1' hx1'' s5 s5'
              go_wp2_with (at_builtin; refine wpList_append_more _ rfl _ _ 72 rfl base 51 j0 (.agg #[.int .i64 0, .int .i64 0, .int .i64 0, .int .i64 0, .int .u8 0, .int .u8 0]) 6 40 Tryz.underlying72 hj hy0 hy1 hy2 rfl (by decide) _ _ _ rfl (U2.own.alloc _) ⟨w6.heap.size, 0, none⟩ 3 3 ((Mk (M : Int)).cells ++ ((Mk (M : Int)).cells ++ (Mk (M : Int)).cells)) rfl rfl ?_ (three_one _) ?_ ?_ ?_ ?_)
              · intro jj uu hj2
                have := block_new (w6.setCell ⟨wr.heap.size, 8, none⟩ (.slice a2 (l.length + 2) c2)) #[.int .i64 (-1), .int .i64 M, .int .i64 0, .int .i64 0, .int .u8 0, .int .u8 0, .int .i64 (-1), .int .i64 M, .int .i64 0, .int .i64 0, .int .u8 0, .int .u8 0, .int .i64 (-1), .int .i64 M, .int .i64 0, .int .i64 0, .int .u8 0, .int .u8 0] 51 jj uu hj2
                rw [setCell_size] at this
                exact this
              · unfold maxLen; omega
              · omega
              · simp [World.setCell]; omega
              intro x3 w8 hx3 hm3 hv8
              rw [← marks_more3] at hx3
              obtain ⟨a3, c3, rfl⟩ := own_shape hx3
              clear u0 u1 u2 u3 u4 u5 t8 tz
              have hb3x := blk_of hm3.grew (show wr.heap.size ≤ _ by simp [World.setCell]; omega)
              have Y1 := marks_stay (j := 1) (j' := 3) (X1.alloc _) (U2.own.alloc _) hm3 hx3 hv8 (by omega)
              have Y2 := marks_stay (j := 2) (j' := 3) (X2.alloc _) (U2.own.alloc _) hm3 hx3 hv8 (by omega)
              have T3 := (U2.alloc (.cells #[.int .i64 (-1), .int .i64 M, .int .i64 0, .int .i64 0, .int .u8 0, .int .u8 0, .int .i64 (-1), .int .i64 M, .int .i64 0, .int .i64 0, .int .u8 0, .int .u8 0, .int .i64 (-1), .int .i64 M, .int .i64 0, .int .i64 0, .int .u8 0, .int .u8 0] 51)).more hm3 hv8
              obtain ⟨⟨_, _, t9⟩, tz⟩ := T3.cells
              have U3 := T3.set 9 (.slice a3 (l.length + 3) c3) (.slice a1 (l.length + 1) c1) (.slice a2 (l.length + 2) c2) (.slice a3 (l.length + 3) c3) rfl
              have Z1 := own_ten (i := 9) (u := .slice a3 (l.length + 3) c3) Y1 T3.ten (by decide)
              have Z2 := own_ten (i := 9) (u := .slice a3 (l.length + 3) c3) Y2 T3.ten (by decide)
              have Z3 := own_ten (i := 9) (u := .slice a3 (l.length + 3) c3) hx3 T3.ten (by decide)
              clear hx3 hm3 hv8 T3 U2 X1 X2 Y1 Y2 s7 s7'
              go_wp2
              obtain ⟨W9, hW9⟩ : ∃ W9, W9 = w8.setCell ⟨wr.heap.size, 9, none⟩ (.slice a3 (l.length + 3) c3) := ⟨_, rfl⟩
              rw [← hW9] at U3 Z1 Z2 Z3 ⊢
              clear hW9 t9 tz
              have k9 := U3.kept
              have s9 : wr.heap.size < W9.heap.size := (Array.getElem?_eq_some_iff.1 U3.ten).1
              have hA9 := (k9.block A (by omega) hAv).trans ((hKt.block A (by simp; omega) hAv).trans ((Below.heap_alloc _ _ _ (by omega)).trans hA2))
              have A9 : A < W9.heap.size := by omega
              have c4 : W9.cell? ⟨A, 4, none⟩ = some bv' := by rw [cell_of_row W9 A _ _ _ _ hA9]; rfl
              have zA : ∀ j, W9.frozen? ⟨A, j, none⟩ = false := fun j => by simp [World.frozen?, hA9]
              have ten := U3.ten
              have e0 : W9.cell? ⟨wr.heap.size, 0, none⟩ = some (.int .i64 (-1)) := by rw [cell_of_row W9 _ _ _ _ _ ten]; rfl
              have e1 : W9.cell? ⟨wr.heap.size, 1, none⟩ = some (.int .i64 M) := by rw [cell_of_row W9 _ _ _ _ _ ten]; rfl
              have e2 : W9.cell? ⟨wr.heap.size, 2, none⟩ = some (.int .i64 0) := by rw [cell_of_row W9 _ _ _ _ _ ten]; rfl
              have e3 : W9.cell? ⟨wr.heap.size, 3, none⟩ = some (.int .i64 0) := by rw [cell_of_row W9 _ _ _ _ _ ten]; rfl
              have e4 : W9.cell? ⟨wr.heap.size, 4, none⟩ = some (.int .u8 0) := by rw [cell_of_row W9 _ _ _ _ _ ten]; rfl
              have e5 : W9.cell? ⟨wr.heap.size, 5, none⟩ = some (.int .u8 0) := by rw [cell_of_row W9 _ _ _ _ _ ten]; rfl
              have e6 : W9.cell? ⟨wr.heap.size, 6, none⟩ = some (.slice av l.length cv) := by rw [cell_of_row W9 _ _ _ _ _ ten]; rfl
              have e7 : W9.cell? ⟨wr.heap.size, 7, none⟩ = some (.slice a1 (l.length + 1) c1) := by rw [cell_of_row W9 _ _ _ _ _ ten]; rfl
              have e8 : W9.cell? ⟨wr.heap.size, 8, none⟩ = some (.slice a2 (l.length + 2) c2) := by rw [cell_of_row W9 _ _ _ _ _ ten]; rfl
              have e9 : W9.cell? ⟨wr.heap.size, 9, none⟩ = some (.slice a3 (l.length + 3) c3) := by rw [cell_of_row W9 _ _ _ _ _ ten]; rfl
              clear ten
              obtain ⟨i0, hi, hz0, hz1, hz2⟩ := info_parts info_book
              have hIB : W9.ownsRow base 119 10 bv' Bs'.length (Bs'.flatMap Bk.cells) := own_keep hJ.hB fun j hj => by
                have hin := own_in hJ.hB j hj
                have hjv : j ∉ ob (.slice av l.length cv) := own_apart hJ.hB hv (by decide) j hj
                have y1 := K2.block j hin.2 (by simp only [List.mem_cons, not_or]; exact ⟨by omega, hjv⟩)
                have y2 := hKt.block j (by simp; omega) hjv
                have y3 := k9.block j (by omega) hjv
                exact y3.trans (y2.trans ((Below.heap_alloc _ _ _ (by omega)).trans y1))
              have hneB : some A ≠ bv'.ownBlock := fun c => by have := own_in hIB A (mem_ob.2 c.symm); omega
              have hbq2 := hbq1 hql
              have b9 : base ≤ W9.heap.size := by omega
              have W9r : wr.heap.size < W9.heap.size := s9
              go_region_law (refine step_append_grew _ (by rfl) _ _ 67 (by rfl) base 119 i0 (.agg #[.int .i64 0, .int .i64 0, .int .i64 0, .int .i64 0, .int .u8 0, .int .u8 0, .slice none 0 0, .slice none 0 0, .slice none 0 0, .slice none 0 0]) 10 136 Tryz.underlying67 hi hz0 hz1 hz2 rfl (by decide) _ _ _ (by rfl) (hIB.drew.alloc _) ⟨W9.heap.size, 0, none⟩ 1 1 (Bk.mk M (.slice av l.length cv) (.slice a1 (l.length + 1) c1) (.slice a2 (l.length + 2) c2) (.slice a3 (l.length + 3) c3)).cells (by rfl) (by rfl) (block_new _ _ _) (bk_one _ _ _ _ _ rfl rfl rfl rfl) (by unfold maxLen; omega) (by omega) (by simp; omega) ?_; intro bv3 w10 hown10 hgr10 _; obtain ⟨ao3, cap3, rfl⟩ := own_shape hown10; have hA10 : w10.heap[A]? = W9.heap[A]? := (hgr10.grown.block A (by simp; omega) hneB).trans (Below.heap_alloc _ _ _ A9); have g4 : w10.cell? ⟨A, 4, none⟩ = some bv' := (World.cell?_of_block (a := ⟨A, 4, none⟩) hA10).trans c4; have gz : w10.frozen? ⟨A, 4, none⟩ = false := (World.frozen?_of_block (a := ⟨A, 4, none⟩) hA10).trans (zA 4))
              all_goals
                have fin := settle_fin (b := Bk.mk M (.slice av l.length cv) (.slice a1 (l.length + 1) c1) (.slice a2 (l.length + 2) c2) (.slice a3 (l.length + 3) c3)) hJ hql HX.out hK hbv hA9 K2 hKt k9 hgr10 hown10
                  ⟨⟨l.length, by omega, U3.own⟩, ⟨l.length + 1, by omega, Z1⟩, ⟨l.length + 2, by omega, Z2⟩, ⟨l.length + 3, by omega, Z3⟩⟩ (fun j hj => by
                    simp only [Bk.blocks, List.mem_append] at hj
                    rcases hj with ((hj | hj) | hj) | hj
                    · exact .inl hj
                    · exact hb1x j hj
                    · exact hb2x j hj
                    · exact hb3x j hj)
                clear hgr10 hown10 U3 Z1 Z2 Z3 hIB e0 e1 e2 e3 e4 e5 e6 e7 e8 e9 c4 zA g4 gz hA10 hA9 k9 hKt K2 hJ hK
                go_wp2
                go_roundw
                case rel => exact ⟨q + 1, _, _, by omega, by go_num, (by have h := fin.1; rw [HM.out] at h; exact h), (by have := HBl.out; simp; omega), fin.2.1, fin.2.2⟩
                case measure => simp [intOf]; omega
        · have hqq : q = Ws.length := by omega
          subst hqq
          have hD := hJ.done
          have hK3 := (hK.setCell (p := ⟨A, 2, none⟩) (.inl (by simp [fpOf])) (.slice none 0 0)).setCell (p := ⟨A, 3, none⟩) (.inl (by simp [fpOf])) (.slice none 0 0)
          clear hJ hK
          go_wp2
          go_ret
          exact ⟨rfl, hK3, bv', m + Ws.length, Bs', rfl, HBl.out, hD⟩
end Go.Proofs.YtogmdaopfnmobaaGreat

