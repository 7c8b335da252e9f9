/- What wholeNodes of the law's world does. -/
import Derived.Test.YtogmdaopfnmobaaGreatA11
namespace Go.Proofs.YtogmdaopfnmobaaGreat
open Go.RowKit
attribute [local go_sem ↓] run_eql_node run_neq_node
theorem info_book : (Tryz.prog.info? 119).map (fun i => (i.zero, i.size, i.bytes)) = some (some (.agg #[.int .i64 0, .int .i64 0, .int .i64 0, .int .i64 0, .int .u8 0, .int .u8 0, .slice none 0 0, .slice none 0 0, .slice none 0 0, .slice none 0 0]), 10, 136) := by kernel_rfl
theorem nil_marked (w : World) (base : Nat) (m : Int) : Marked w base (.slice none 0 0) m := ⟨0, by omega, World.ownsRow_nil _ _ _ _⟩
section
variable {w : World} {A base : Nat} {sv lv : Value} {m : Nat} {wv ev bv : Value} {Ws Es : List Value} {Ls : List (List Nd)} {Bs : List Bk}
theorem Inv.cellFar (h : Inv w A base sv lv m wv ev bv Ws Es Ls Bs) {g o : Nat} (hg : g ∉ fpOf A wv ev bv Ws Es Bs) (v : Value) : Inv (w.setCell ⟨g, o, none⟩ v) A base sv lv m wv ev bv Ws Es Ls Bs :=
  h.frame (by simp [World.setCell]) fun k hk => Below.heap_setCell _ _ _ _ (fun c => hg (by cases c; exact hk))
theorem Inv.alloc (h : Inv w A base sv lv m wv ev bv Ws Es Ls Bs) (o : Obj) : Inv (w.alloc o) A base sv lv m wv ev bv Ws Es Ls Bs :=
  h.below ((Below.refl _ _).alloc (Nat.le_refl _) _)
theorem Inv.mark (h : Inv w A base sv lv m wv ev bv Ws Es Ls Bs) (v : Nat) : Inv (w.setCell ⟨A, 1, none⟩ (.int .i64 v)) A base sv lv v wv ev bv Ws Es Ls Bs := by
  have hk : ∀ k, k ≠ A → (w.setCell ⟨A, 1, none⟩ (.int .i64 v)).heap[k]? = w.heap[k]? := fun k hk => Below.heap_setCell _ _ _ _ hk
  have hab := h.hAb
  have ne : ∀ {x : Value} {e : TypeId} {sz n : Nat} {xs : List Value}, w.ownsRow base e sz x n xs → (w.setCell ⟨A, 1, none⟩ (.int .i64 v)).ownsRow base e sz x n xs := fun ho => own_keep ho fun k hk' => hk k (by have := own_in ho k hk'; omega)
  refine ⟨by rw [heap_set h.hA]; rfl, h.hAb, by have := h.hbs; simpa [World.setCell] using this, ne h.hW, ne h.hE, ne h.hB, h.len1, h.len2, fun i h1 h2 => ne (h.owW i h1 h2), fun i h1 h2 => ne (h.owE i h1 h2), h.d1, h.d2, h.d3, fun b hb => ?_⟩
  obtain ⟨⟨n0, z0, m0⟩, ⟨n1, z1, m1⟩, ⟨n2, z2, m2⟩, ⟨n3, z3, m3⟩, hq⟩ := h.bk b hb
  exact ⟨⟨n0, z0, ne m0⟩, ⟨n1, z1, ne m1⟩, ⟨n2, z2, ne m2⟩, ⟨n3, z3, ne m3⟩, hq⟩
end
theorem mark_next (l : List Nd) (x : Nd) (k : Nat) (h : k < l.length) : (List.replicate k x ++ l.drop k).set k x = List.replicate (k + 1) x ++ l.drop (k + 1) := by
  rw [List.set_append_right _ _ (by simp), List.length_replicate, Nat.sub_self, List.drop_eq_getElem_cons h, List.set_cons_zero, List.replicate_succ', List.append_assoc]
  rfl
theorem mark_at (l : List Nd) (x : Nd) (k : Nat) (h : k < l.length) : (List.replicate k x ++ l.drop k)[k]'(by simp; omega) = l[k] := by
  rw [List.getElem_append_right (by simp)]
  simp
theorem nodes_six {w : World} {B : Nat} {ao : Option Addr} {n cap : Nat} {l : List Nd} {k : Nat} {d : Nd} (h : Nodes w B (.slice ao n cap) l) (hk : k < l.length) (hd : d = l[k]) : ∃ b off, ao = some ⟨b, off, none⟩ ∧ b < B ∧
    w.cell? ⟨b, off + k * 6, none⟩ = some (.int .i64 d.c) ∧ w.cell? ⟨b, off + k * 6 + 1, none⟩ = some (.int .i64 d.s) ∧ w.cell? ⟨b, off + k * 6 + 2, none⟩ = some (.int .i64 d.m) ∧
    w.cell? ⟨b, off + k * 6 + 3, none⟩ = some (.int .i64 d.x) ∧ w.cell? ⟨b, off + k * 6 + 4, none⟩ = some (.int .u8 d.h.toNat) ∧ w.cell? ⟨b, off + k * 6 + 5, none⟩ = some (.int .u8 d.g.toNat) := by
  obtain ⟨ao', cap', hv, _, hc⟩ := h.ex
  simp only [Value.slice.injEq] at hv
  obtain ⟨rfl, rfl, rfl⟩ := hv
  obtain ⟨b, off, ha, hB, hcs⟩ := hc k hk
  subst hd
  exact ⟨b, off, ha, hB, six (Below.refl B w) hB hcs⟩
set_option maxHeartbeats 400000 in
theorem whole_nil (A : Nat) (v : Value) (w : World) : Calls Tryz.prog 95 #[.pointer (some ⟨A, 0, none⟩), v, .slice none 0 0] w fun e w' => e = .returned (.bool true) ∧ w' = w := by
  have q25 : ∀ (w : World) (a : Option Addr) (n c n' c' : Nat), (binOp .eql 72 (.slice a n c) (.slice none n' c')).run Tryz.prog w = .ok (.bool a.isNone) w := fun w a n c n' c' => Lib.run_eql_slice_nil w _ _ a n c n' c' Tryz.underlying72
  go_enter Tryz.func95, Tryz.ntmps95
  go_wp2
  go_ret
  exact ⟨rfl, rfl⟩
theorem block_new (w : World) (C : Array Value) (t : TypeId) : ∀ j u, C.toList[j]? = some u → (w.alloc (.cells C t)).cell? ((⟨w.heap.size, 0, none⟩ : Addr).add j) = some u := by
  intro j u hj
  have e1 : (⟨w.heap.size, 0, none⟩ : Addr).add j = ⟨w.heap.size, j, none⟩ := by unfold Addr.add; split <;> simp_all
  rw [e1, cell_of_row _ _ j _ _ _ (heap_alloc_new w _)]
  simpa using hj
theorem bk_one (m : Int) (a b c d : Value) (ha : a.oneCell' = true) (hb : b.oneCell' = true) (hc : c.oneCell' = true) (hd : d.oneCell' = true) : ∀ u ∈ (Bk.mk m a b c d).cells, u.oneCell' = true := by
  intro u hu
  unfold Bk.cells at hu
  rw [List.mem_append] at hu
  rcases hu with hu | hu
  · exact node_one _ u hu
  · simp only [List.mem_cons, List.not_mem_nil, or_false] at hu
    rcases hu with rfl | rfl | rfl | rfl <;> assumption
theorem held_grew {wr w2 w3 : World} {A : Nat} {o : Obj} {bv bv3 x y : Value} {i j : Nat} (hb2 : Below wr.drew.heap.size wr.drew w2) (hgr3 : Grew (w2.alloc o) bv w3 bv3) (hAl : A < wr.heap.size) (hne : some A ≠ bv.ownBlock)
    (c1 : wr.cell? ⟨A, i, none⟩ = some x) (c4 : wr.cell? ⟨A, j, none⟩ = some y) (hz : wr.frozen? ⟨A, j, none⟩ = false) : w3.cell? ⟨A, i, none⟩ = some x ∧ w3.cell? ⟨A, j, none⟩ = some y ∧ w3.frozen? ⟨A, j, none⟩ = false := by
  have h2 : A < w2.heap.size := Nat.lt_of_lt_of_le hAl hb2.size
  have hb : w3.heap[A]? = wr.heap[A]? := (hgr3.grown.block A (by simp; omega) hne).trans ((Below.heap_alloc _ _ _ h2).trans (hb2.block A hAl))
  exact ⟨(World.cell?_of_block (a := ⟨A, i, none⟩) hb).trans c1, (World.cell?_of_block (a := ⟨A, j, none⟩) hb).trans c4, (World.frozen?_of_block (a := ⟨A, j, none⟩) hb).trans hz⟩
theorem step_far {ops : Array Oper} {o : Oper} {a : Act} {w : World} {K : Act → World → Prop} {Q : Exit → Act → World → Prop} {E : Prop} (hgd : o.guard = none) (x : Operand)
    (ho : o.op = .call { callee := .value (.func 59), args := #[x], argTypes := #[3] }) (n : Int) (hx : a.eval x = .int .i64 n)
    (h : ∀ w', Below w.heap.size w w' → K (a.put o.dst (.agg #[.int .i64 (-1), .int .i64 n, .int .i64 0, .int .i64 0, .int .u8 0, .int .u8 0])) w') :
    if Region.wanted o (yielded ops a.tmps) = true then Oper.wp Tryz.prog o a w K Q else E := by
  have hw : Region.wanted o (yielded ops a.tmps) = true := by simp [Region.wanted, hgd]
  rw [if_pos hw]
  unfold Oper.wp
  have hrun : (execOp a.eval o).run Tryz.prog w = .ok (.enter 59 #[.int .i64 n]) w := by
    simp [execOp, ho, go_sem]
    simpa [go_sem] using hx
  rw [hrun, Oper.upon_enter]
  refine (far_any n w).mono fun e w' hr => ?_
  obtain ⟨rfl, hb⟩ := hr
  exact h w' hb
def wholePost (w : World) (A base : Nat) (sv lv : Value) (m : Nat) (wv ev bv : Value) (Ws Es : List Value) (Ls : List (List Nd)) (Bs : List Bk) (g n : Nat) (e : Ending) (w' : World) : Prop :=
  e = .returned (.bool true) ∧ Kept w w' (g :: fpOf A wv ev bv Ws Es Bs) ∧ Blk w' g (List.replicate (n + 8) (Mk ((m + 1 : Nat) : Int))) [] ∧
  ∃ bv', Inv w' A base sv lv (m + 1) wv ev bv' Ws Es Ls (Bs ++ [⟨((m + 1 : Nat) : Int), .slice (some ⟨g, 0, none⟩) (n + 8) (n + 8), .slice none 0 0, .slice none 0 0, .slice none 0 0⟩])
set_option maxHeartbeats 2000000 in
set_option maxRecDepth 100000 in
theorem whole_any (w : World) (A base : Nat) (sv lv : Value) (m : Nat) (wv ev bv : Value) (Ws Es : List Value) (Ls : List (List Nd)) (Bs : List Bk) (g : Nat) (a : Addr) (cap : Nat) (l : List Nd)
    (hI : Inv w A base sv lv m wv ev bv Ws Es Ls Bs) (hg : Blk w g (l ++ List.replicate 8 (Mk 0)) []) (hgb : base ≤ g) (hgf : g ∉ fpOf A wv ev bv Ws Es Bs)
    (hl : ∀ w', Kept w w' (g :: fpOf A wv ev bv Ws Es Bs) → Nodes w' w'.heap.size (.slice (some a) l.length cap) l) (hlen : l.length ≤ 2000000) (hm : m ≤ 20000000) (hbl : Bs.length ≤ 20000000) :
    Calls Tryz.prog 95 #[.pointer (some ⟨A, 0, none⟩), .slice (some ⟨g, 0, none⟩) l.length (l.length + 8), .slice (some a) l.length cap] w (wholePost w A base sv lv m wv ev bv Ws Es Ls Bs g l.length) := by
  have q25 : ∀ (w : World) (a : Option Addr) (n c n' c' : Nat), (binOp .eql 72 (.slice a n c) (.slice none n' c')).run Tryz.prog w = .ok (.bool a.isNone) w := fun w a n c n' c' => Lib.run_eql_slice_nil w _ _ a n c n' c' Tryz.underlying72
  have hgA : g ≠ A := fun c => hgf (by simp [fpOf, c])
  obtain ⟨⟨c0, c1, c2, c3, c4, c5⟩, hlv⟩ := hI.cells
  go_enter Tryz.func95, Tryz.ntmps95
  go_wp2
  obtain ⟨M, hM⟩ : ∃ M, M = m + 1 := ⟨_, rfl⟩
  have HMi : Hid ((m : Int) + 1 = (M : Int)) := by show _ = _; omega
  have HMM : Hid _ := hM
  obtain ⟨LL, hLL⟩ : ∃ LL, LL = l ++ List.replicate 8 (Mk 0) := ⟨_, rfl⟩
  have hLn : LL.length = l.length + 8 := by rw [hLL]; simp
  have HLn : Hid _ := hLn
  have HLL : Hid _ := hLL
  rw [← hLL] at hg
  have hI1 := hI.mark M
  have hK1 : Kept w (w.setCell ⟨A, 1, none⟩ (.int .i64 M)) (g :: fpOf A wv ev bv Ws Es Bs) := (Kept.refl _ _).setCell (.inl (by simp [fpOf])) _
  have hg1 : Blk (w.setCell ⟨A, 1, none⟩ (.int .i64 M)) g LL [] := hg.block (Below.heap_setCell _ _ _ _ hgA)
  clear hLL hM hLn c0 c1 c2 c3 c4 c5 hlv hI hg
  go_loopw [9, 10] (fun ok i wr => ∃ k : Nat, k ≤ l.length + 8 ∧ i = .int .i64 k ∧ ok = .bool true ∧ Blk wr g (List.replicate k (Mk (M : Int)) ++ LL.drop k) [] ∧ Inv wr A base sv lv M wv ev bv Ws Es Ls Bs ∧ Kept w wr (g :: fpOf A wv ev bv Ws Es Bs))
    (fun _ i _ => l.length + 8 - (intOf i).toNat)
  case atStart => exact ⟨0, Nat.zero_le _, rfl, rfl, by rw [HMi.out]; simpa using hg1, by rw [HMi.out]; exact hI1, by rw [HMi.out]; exact hK1⟩
  case round =>
    obtain ⟨k, hk, rfl, rfl, hbk, hI, hK⟩ := hrel
    clear hg1 hI1 hK1
    have hgl := hbk.lt
    have hAl := (hI.fp A (by simp [fpOf])).2
    by_cases hlt : k < l.length + 8
    · have hkL : k < LL.length := by rw [HLn.out]; exact hlt
      obtain ⟨d, hd⟩ : ∃ d, d = LL[k] := ⟨_, rfl⟩
      go_wp2_with fail
      refine (far_any _ _).mono ?_
      rintro e w1 ⟨rfl, hb1⟩
      have hI1 := hI.below hb1
      have hbk1 := hbk.below hb1 hgl
      have hK1 := hK.trans (Kept.of_below hb1 []) (by simp)
      have hs1 := hb1.size
      have hidx : k < (List.replicate k (Mk (M : Int)) ++ LL.drop k).length := by simp; omega
      obtain ⟨f0, f1, f2, f3, f4, f5⟩ := hbk1.six (d := d) hidx (by rw [mark_at LL _ k hkL]; exact hd)
      obtain ⟨⟨_, c1, _, _, _, _⟩, _⟩ := hI1.cells
      have hdd := (eqNd d d).2 rfl
      have gl1 : g < w1.heap.size := by omega
      have al1 : A < w1.heap.size := by omega
      have HD : Hid _ := hd
      clear hd hI hbk hK hb1
      by_cases hkl : k < l.length
      · have hdl : d = l[k] := by rw [HD.out]; simp only [HLL.out]; rw [List.getElem_append_left hkl]
        obtain ⟨b, off, hab, hbB, e0, e1, e2, e3, e4, e5⟩ := nodes_six (hl w1 hK1) hkl hdl
        injection hab with hab
        subst hab
        have HL : Hid _ := hl
        clear hl hdl
        go_wp2
        go_quiet (fail)
        go_wp2_with fail
        refine (far_any _ _).mono ?_
        rintro e w2 ⟨rfl, hb2⟩
        have hB12 : Below w1.heap.size w1 w2 := Below.trans (b := (w1.alloc (.cells #[.int .i64 d.c, .int .i64 d.s, .int .i64 d.m, .int .i64 d.x, .int .u8 d.h.toNat, .int .u8 d.g.toNat] 51)).drewN nq) (((Below.refl _ _).alloc (Nat.le_refl _) _).trans ((below_drewN _ nq).mono (by simp))) (hb2.mono (by simp))
        have hbk2 := hbk1.below hB12 gl1
        have hI2 := hI1.below hB12
        have hK2 := hK1.trans (Kept.of_below hB12 []) (by simp)
        have hst := hbk2.store hidx (Mk (M : Int))
        rw [mark_next LL _ k hkL] at hst
        clear f0 f1 f2 f3 f4 f5 c1 hb2 hB12 hbk1 hI1 hK1
        obtain ⟨f0, f1, f2, f3, f4, f5⟩ := hbk2.six hidx rfl
        have hlv := hbk2.live
        go_wp2
        go_roundw
        case rel =>
          refine ⟨k + 1, by omega, by go_num, rfl, hst, ?_, ?_⟩
          · repeat (refine Inv.cellFar ?_ hgf _)
            exact hI2
          · repeat (refine Kept.setCell ?_ (.inl (by simp)) _)
            exact hK2
        case measure => simp [intOf]; omega
      · have hdl : d = Mk 0 := by rw [HD.out]; simp only [HLL.out]; rw [List.getElem_append_right (by omega), List.getElem_replicate]
        have HL : Hid _ := hl
        clear hl
        rw [hdl] at f0 f1 f2 f3 f4 f5 hdd
        simp only [Mk] at f0 f1 f2 f3 f4 f5 hdd
        have hdd2 : eqN (-1) 0 0 0 0 0 (-1) 0 0 0 0 0 = true := by simp [eqN]
        clear hdl hdd
        go_wp2
        go_quiet (fail)
        go_wp2_with fail
        refine (far_any _ _).mono ?_
        rintro e w2 ⟨rfl, hb2⟩
        have hB12 : Below w1.heap.size w1 w2 := Below.trans (b := (w1.alloc (.cells #[.int .i64 (-1), .int .i64 0, .int .i64 0, .int .i64 0, .int .u8 0, .int .u8 0] 51)).drewN nq) (((Below.refl _ _).alloc (Nat.le_refl _) _).trans ((below_drewN _ nq).mono (by simp))) (hb2.mono (by simp))
        have hbk2 := hbk1.below hB12 gl1
        have hI2 := hI1.below hB12
        have hK2 := hK1.trans (Kept.of_below hB12 []) (by simp)
        have hst := hbk2.store hidx (Mk (M : Int))
        rw [mark_next LL _ k hkL] at hst
        clear f0 f1 f2 f3 f4 f5 c1 hb2 hB12 hbk1 hI1 hK1
        obtain ⟨f0, f1, f2, f3, f4, f5⟩ := hbk2.six hidx rfl
        have hlv := hbk2.live
        go_wp2
        go_roundw
        case rel =>
          refine ⟨k + 1, by omega, by go_num, rfl, hst, ?_, ?_⟩
          · repeat (refine Inv.cellFar ?_ hgf _)
            exact hI2
          · repeat (refine Kept.setCell ?_ (.inl (by simp)) _)
            exact hK2
        case measure => simp [intOf]; omega
    · have hkk : k = l.length + 8 := by omega
      have hLd : LL.drop k = [] := List.drop_of_length_le (by rw [HLn.out]; omega)
      rw [hLd, List.append_nil] at hbk
      subst hkk
      obtain ⟨⟨c0, c1, c2, c3, c4, c5⟩, hlv⟩ := hI.cells
      obtain ⟨i0, hi, hz0, hz1, hz2⟩ := info_parts info_book
      have hnA := World.new_ne wr ⟨A, 4, none⟩ c4
      have hnB := World.new_ne wr ⟨A, 1, none⟩ c1
      have HL : Hid _ := hl
      clear hl hLd
      go_wp2
      have hne4 : some A ≠ bv.ownBlock := fun c => by have := own_in hI.hB A (mem_ob.2 c.symm); have := hI.hAb; omega
      have hz4 := hlv 4
      go_region_law (first | (refine step_append_grew _ (by rfl) _ _ 67 (by rfl) base 119 i0 (.agg #[.int .i64 0, .int .i64 0, .int .i64 0, .int .i64 0, .int .u8 0, .int .u8 0, .slice none 0 0, .slice none 0 0, .slice none 0 0, .slice none 0 0]) 10 136 Tryz.underlying67 hi hz0 hz1 hz2 rfl (by decide) _ _ _ (by rfl) ((ownsRow_below hI.hB.drew hb2).alloc _) ⟨w2.heap.size, 0, none⟩ 1 1 (Bk.mk M (.slice (some ⟨g, 0, none⟩) (l.length + 8) (l.length + 8)) (.slice none 0 0) (.slice none 0 0) (.slice none 0 0)).cells (by rfl) (by rfl) (block_new _ _ _) (bk_one _ _ _ _ _ rfl rfl rfl rfl) (by unfold maxLen; omega) (by omega) (by have := hb2.size; have := hI.hbs; simp at *; omega) ?_; intro bv3 w3 hown3 hgr3 _; obtain ⟨ao3, cap3, rfl⟩ := own_shape hown3; obtain ⟨e1, e4, ez⟩ := held_grew hb2 hgr3 hAl hne4 c1 c4 hz4) | (refine step_far (by rfl) _ (by rfl) _ (by rfl) ?_; intro w2 hb2; have ha2 : A < w2.heap.size := Nat.lt_of_lt_of_le hAl hb2.size; have g1 : w2.cell? ⟨A, 1, none⟩ = some (.int .i64 M) := (hb2.cell (p := ⟨A, 1, none⟩) hAl).trans c1; have g4 : w2.cell? ⟨A, 4, none⟩ = some bv := (hb2.cell (p := ⟨A, 4, none⟩) hAl).trans c4))
      all_goals
        have hAb := hI.hAb
        have hW1 : Below wr.heap.size wr (w2.alloc (.cells #[.int .i64 (-1), .int .i64 M, .int .i64 0, .int .i64 0, .int .u8 0, .int .u8 0, .slice (some ⟨g, 0, none⟩) (l.length + 8) (l.length + 8), .slice none 0 0, .slice none 0 0, .slice none 0 0] 119)) :=
          Below.alloc (Below.trans (b := wr.drew) (Below.drew (Below.refl _ _)) hb2) (by have := hb2.size; exact this) _
        have hI2 := hI.below hW1
        have hbk2 := hbk.below hW1 hgl
        have hgbv : g ∉ ob bv := fun c => hgf (by simp [fpOf, c])
        have hbk3 : Blk w3 g (List.replicate (l.length + 8) (Mk (M : Int))) [] := hbk2.block (hgr3.grown.block g hbk2.lt (fun c => hgbv (mem_ob.2 c.symm)))
        have hbk4 := hbk3.block (w' := w3.setCell ⟨A, 4, none⟩ (.slice ao3 (Bs.length + 1) cap3)) (Below.heap_setCell _ _ _ _ hgA)
        have hmk : Marked (w2.alloc (.cells #[.int .i64 (-1), .int .i64 M, .int .i64 0, .int .i64 0, .int .u8 0, .int .u8 0, .slice (some ⟨g, 0, none⟩) (l.length + 8) (l.length + 8), .slice none 0 0, .slice none 0 0, .slice none 0 0] 119)) base (.slice (some ⟨g, 0, none⟩) (l.length + 8) (l.length + 8)) M := by
          refine ⟨l.length + 8, by omega, ?_⟩
          have := hbk2.own (base := base) (cap := l.length + 8) (n := l.length + 8) (by simp) (by simp) (by unfold maxLen; omega) hgb
          rwa [List.take_of_length_le (by simp)] at this
        have hI3 := hI2.book (b := Bk.mk M (.slice (some ⟨g, 0, none⟩) (l.length + 8) (l.length + 8)) (.slice none 0 0) (.slice none 0 0) (.slice none 0 0)) hgr3 hown3 ⟨hmk, nil_marked _ _ _, nil_marked _ _ _, nil_marked _ _ _, by
          intro k hk c
          simp only [Bk.blocks, ob, Value.ownBlock, List.append_nil, List.mem_cons, List.not_mem_nil, or_false] at hk
          subst hk
          exact hgf (by simp only [fpOf, List.mem_cons, List.mem_append]; exact .inr (.inl (.inl (.inr c))))⟩
        have hK3 : Kept w (w3.setCell ⟨A, 4, none⟩ (.slice ao3 (Bs.length + 1) cap3)) (g :: fpOf A wv ev bv Ws Es Bs) :=
          ((hK.trans (Kept.of_below hW1 []) (by simp)).trans (Kept.of_grown (fp := ob bv) hgr3.grown fun k hk => mem_ob.2 hk) (fun x hx => .inl (by simp [fpOf, hx]))).setCell (.inl (by simp [fpOf])) _
        clear hown3 hgr3 hbk3 hbk2 hI2 hmk hbk hI hK hb2 hW1
        go_wp2
        go_ret
        have hMM := HMM.out
        subst hMM
        exact ⟨rfl, hK3, hbk4, _, hI3⟩
end Go.Proofs.YtogmdaopfnmobaaGreat

