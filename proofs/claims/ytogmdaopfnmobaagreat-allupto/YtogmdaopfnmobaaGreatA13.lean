/- What keep of the law's world does. -/
import Derived.Test.YtogmdaopfnmobaaGreatA12
namespace Go.Proofs.YtogmdaopfnmobaaGreat
open Go.RowKit
theorem info_list : (Tryz.prog.info? 72).map (fun i => (i.zero, i.size, i.bytes)) = some (some (.slice none 0 0), 1, 24) := by kernel_rfl
theorem row_one (l : List Nd) : ∀ u ∈ l.flatMap Nd.cells, u.oneCell' = true := by
  intro v hv
  obtain ⟨d, _, hd'⟩ := List.mem_flatMap.1 hv
  exact node_one d v hd'
theorem one_slice (a : Option Addr) (n c : Nat) : ∀ u ∈ [Value.slice a n c], u.oneCell' = true := by
  intro u hu; simp at hu; subst hu; rfl
theorem run_append_copy (w : World) (ty : TypeId) (base : Nat) (ao : Option Addr) (n cap : Nat) (l : List Nd) (hv : w.ownsRow base 51 6 (.slice ao n cap) n (l.flatMap Nd.cells)) (hn : l.length = n) (hlen : l.length ≤ 2000000) (hb : base ≤ w.heap.size) :
    ∃ u w2, (Builtin.append_ #[72, 72] ty #[.slice none 0 0, .slice ao n cap]).run Tryz.prog w = .ok u w2 ∧ w2.ownsRow base 51 6 u n (l.flatMap Nd.cells) ∧ Grew w (.slice none 0 0) w2 u := by
  obtain ⟨j0, hj, hy0, hy1, hy2⟩ := info_parts info_node
  rcases hv.2 with ⟨e, h0⟩ | ⟨g, cap', cur, e, hg, hgg, hnc, hcm, hcs, ht⟩
  · simp only [Value.slice.injEq] at e
    obtain ⟨rfl, rfl, rfl⟩ := e
    have hl : l = [] := List.eq_nil_of_length_eq_zero hn
    subst hl
    refine ⟨.slice none 0 0, w, ?_, World.ownsRow_nil _ _ _ _, Grew.refl _ _⟩
    simp [Builtin.append_, run_underlying Tryz.underlying72, sizeOf, typeInfo, hj, Builtin.lenOf, Builtin.firstCells]
  · simp only [Value.slice.injEq] at e
    obtain ⟨rfl, _, rfl⟩ := e
    obtain ⟨v', w', hr, ho, hgr, _⟩ := run_append_grew (P := Tryz.prog) w base 72 ty 51 j0 (.agg #[.int .i64 0, .int .i64 0, .int .i64 0, .int .i64 0, .int .u8 0, .int .u8 0]) 6 40 Tryz.underlying72 hj hy0 hy1 hy2 rfl (by decide) (.slice none 0 0) 0 [] (World.ownsRow_nil _ _ _ _) ⟨g, 0, none⟩ n cap (l.flatMap Nd.cells) (by rw [row_len, hn]) (hv.cells (g := g) rfl) (row_one l) (by unfold maxLen; omega) (by omega) hb
    simp only [Nat.zero_add, List.nil_append] at ho
    exact ⟨v', w', hr, ho, hgr⟩
theorem step_append_copy {ops : Array Oper} {o : Oper} {a : Act} {w : World} {K : Act → World → Prop} {Q : Exit → Act → World → Prop} {E : Prop} (hgd : o.guard = none) (s x : Operand)
    (ho : o.op = .call { callee := .builtin .append, args := #[s, x], argTypes := #[72, 72] }) (hs : a.eval s = .slice none 0 0)
    (base : Nat) (ao : Option Addr) (n cap : Nat) (l : List Nd) (hx : a.eval x = .slice ao n cap) (hv : w.ownsRow base 51 6 (.slice ao n cap) n (l.flatMap Nd.cells)) (hn : l.length = n) (hlen : l.length ≤ 2000000) (hb : base ≤ w.heap.size)
    (h : ∀ u w', w'.ownsRow base 51 6 u n (l.flatMap Nd.cells) → Grew w (.slice none 0 0) w' u → K (a.put o.dst u) w') :
    if Region.wanted o (yielded ops a.tmps) = true then Oper.wp Tryz.prog o a w K Q else E := by
  have hw : Region.wanted o (yielded ops a.tmps) = true := by simp [Region.wanted, hgd]
  rw [if_pos hw]
  obtain ⟨u, w2, hr, h2, h3⟩ := run_append_copy w o.type base ao n cap l hv hn hlen hb
  unfold Oper.wp execOp
  simp only [ho, resolve, invoke, builtin, Sem.run_bind, Sem.run_pure, Result.andThen_ok, List.map_toArray, List.map_cons, List.map_nil, hs, hx, hr]
  exact h u w2 h2 h3
def keepPost (w : World) (A base : Nat) (sv lv : Value) (m : Nat) (wv ev bv : Value) (Ws Es : List Value) (Ls : List (List Nd)) (Bs : List Bk) (v : Value) (l : List Nd) (e : Ending) (w' : World) : Prop :=
  e = .returned (.tuple #[]) ∧ Kept w w' (fpOf A wv ev bv Ws Es Bs) ∧ ∃ wv' ev' u, Inv w' A base sv lv m wv' ev' bv (Ws ++ [v]) (Es ++ [u]) (Ls ++ [l]) Bs ∧ ∀ k ∈ fpOf A wv' ev' bv (Ws ++ [v]) (Es ++ [u]) Bs, k ∈ fpOf A wv ev bv Ws Es Bs ∨ k ∈ ob v ∨ w.heap.size ≤ k
theorem keep_fin {w W1 w2 w3 : World} {A base : Nat} {sv lv : Value} {m : Nat} {wv ev bv wv1 u ev3 : Value} {Ws Es : List Value} {Ls : List (List Nd)} {Bs : List Bk} {ao : Option Addr} {n cap : Nat} {l : List Nd} {o : Obj}
    (hI : Inv w A base sv lv m wv ev bv Ws Es Ls Bs) (hn : l.length = n) (hvf : ∀ k ∈ ob (.slice ao n cap), k ∉ fpOf A wv ev bv Ws Es Bs) (hgin : ∀ k ∈ ob (.slice ao n cap), base ≤ k ∧ k < w.heap.size)
    (hA2 : W1.heap[A]? = some (.cells #[sv, .int .i64 m, wv1, ev, bv, lv] 70 (0, 0))) (blk2 : ∀ k, k < w.heap.size → k ≠ A → k ∉ ob wv → W1.heap[k]? = w.heap[k]?) (hsz2 : w.heap.size + 1 ≤ W1.heap.size) (hos : W1.os = w.os ∧ W1.tape = w.tape ∧ W1.output = w.output)
    (hv2 : W1.ownsRow base 51 6 (.slice ao n cap) n (l.flatMap Nd.cells)) (_hE2 : W1.ownsRow base 72 1 ev Es.length Es)
    (hown2 : W1.ownsRow base 72 1 wv1 (Ws.length + 1) (Ws ++ [.slice ao n cap])) (hwvN : ∀ k ∈ ob wv1, k ∈ ob wv ∨ w.heap.size ≤ k)
    (hu : w2.ownsRow base 51 6 u n (l.flatMap Nd.cells)) (hgu : Grew W1.drew (.slice none 0 0) w2 u) (s2 : W1.heap.size ≤ w2.heap.size)
    (hown3 : w3.ownsRow base 72 1 ev3 (Es.length + 1) (Es ++ [u])) (hgr3 : Grew (w2.alloc o) ev w3 ev3) :
    Kept w (w3.setCell ⟨A, 3, none⟩ ev3) (fpOf A wv ev bv Ws Es Bs) ∧ Inv (w3.setCell ⟨A, 3, none⟩ ev3) A base sv lv m wv1 ev3 bv (Ws ++ [.slice ao n cap]) (Es ++ [u]) (Ls ++ [l]) Bs ∧
      ∀ k ∈ fpOf A wv1 ev3 bv (Ws ++ [.slice ao n cap]) (Es ++ [u]) Bs, k ∈ fpOf A wv ev bv Ws Es Bs ∨ k ∈ ob (.slice ao n cap) ∨ w.heap.size ≤ k := by
  have hAb := hI.hAb
  have hbs := hI.hbs
  have evin := own_in hI.hE
  have hAev : A ∉ ob ev := fun c => by have := evin A c; omega
  have b3 : ∀ k, k < W1.heap.size → k ∉ ob ev → w3.heap[k]? = W1.heap[k]? := fun k hk hne =>
    (hgr3.grown.block k (by simp; omega) (fun c => hne (mem_ob.2 c.symm))).trans ((Below.heap_alloc _ _ _ (by omega)).trans (hgu.grown.block k hk (by simp [Value.ownBlock])))
  have b4 : ∀ k, k ≠ A → (w3.setCell ⟨A, 3, none⟩ ev3).heap[k]? = w3.heap[k]? := fun k hk => Below.heap_setCell _ _ _ _ hk
  have s3 : w2.heap.size + 1 ≤ w3.heap.size := by have := hgr3.grown.size; simpa using this
  have s4 : (w3.setCell ⟨A, 3, none⟩ ev3).heap.size = w3.heap.size := by simp [World.setCell]
  have wvev : ∀ k ∈ ob wv1, k ∉ ob ev := fun k hk c => by
    rcases hwvN k hk with h | h
    · exact hI.d1 k h c
    · have := (evin k c).2; omega
  have gev : ∀ k ∈ ob (.slice ao n cap), k ∉ ob ev := fun k hk c => hvf k hk (by simp [fpOf, c])
  have uin : ∀ k ∈ ob u, W1.heap.size ≤ k := fun k hk => by
    rcases hgu.blk with e | ⟨q, e, hq⟩
    · rw [mem_ob, e] at hk; simp [Value.ownBlock] at hk
    · rw [mem_ob, e] at hk; simp at hk; subst hk; exact hq
  refine ⟨⟨?_, ?_, ?_, by omega, ?_⟩, ?_, ?_⟩
  · exact hgr3.grown.os.trans (hgu.grown.os.trans hos.1)
  · exact hgr3.grown.tape.trans (hgu.grown.tape.trans hos.2.1)
  · exact hgr3.grown.output.trans (hgu.grown.output.trans hos.2.2)
  · intro k hk hn'
    simp only [fpOf, List.mem_cons, List.mem_append, not_or] at hn'
    obtain ⟨n1, ⟨⟨⟨⟨n2, n3⟩, _⟩, _⟩, _⟩, _⟩ := hn'
    rw [b4 k n1, b3 k (by omega) n3, blk2 k hk n1 n2]
  · refine hI.keep _ u wv1 ev3 l ?_ (by omega) ?_ ?_ ?_ ?_ ?_ ?_ ?_ ?_ ?_
    · rw [heap_set ((b3 A (by omega) hAev).trans hA2)]; rfl
    · intro k hk n1 n2 n3
      rw [b4 k n1, b3 k (by omega) n3, blk2 k hk n1 n2]
    · exact own_keep hown2 fun k hk => by rw [b4 k (by have := own_in hown2 k hk; omega), b3 k (own_in hown2 k hk).2 (wvev k hk)]
    · exact own_keep hown3 fun k hk => b4 k (by have := own_in hown3 k hk; omega)
    · rw [hn]
      exact own_keep hv2 fun k hk => by
        have := hgin k hk
        rw [b4 _ (by omega), b3 _ (by omega) (gev k hk)]
    · rw [hn]
      exact own_keep hu fun k hk => by
        have hin := own_in hu k hk
        have hge := uin k hk
        rw [b4 k (by omega)]
        exact (hgr3.grown.block k (by simp; omega) (fun c => by have := (evin k (mem_ob.2 c.symm)).2; omega)).trans (Below.heap_alloc _ _ _ (by omega))
    · intro k hk hk3
      have hlt := (own_in hown2 k hk).2
      rcases hgr3.blk with e | ⟨q, e, hq⟩
      · rw [mem_ob, e] at hk3; exact wvev k hk (mem_ob.2 hk3)
      · rw [mem_ob, e] at hk3; simp at hk3; subst hk3; simp at hq; omega
    · exact hvf
    · intro k hk; have := uin k hk; omega
    · exact fun k hk => (hgin k hk).2
  · intro k hk
    simp only [fpOf, List.mem_cons, List.mem_append, List.flatMap_append, List.flatMap_cons, List.flatMap_nil, List.append_nil] at hk ⊢
    rcases hk with h | (((((h | h) | h) | (h | h)) | (h | h)) | h)
    · exact .inl (.inl h)
    · rcases hwvN k h with h' | h'
      · exact .inl (.inr (.inl (.inl (.inl (.inl (.inl h'))))))
      · exact .inr (.inr h')
    · rcases hgr3.blk with e | ⟨q, e, hq⟩
      · exact .inl (.inr (.inl (.inl (.inl (.inl (.inr (by rw [mem_ob, ← e]; exact mem_ob.1 h)))))))
      · right; right; rw [mem_ob, e] at h; simp at h; simp at hq; omega
    · exact .inl (.inr (.inl (.inl (.inl (.inr h)))))
    · exact .inl (.inr (.inl (.inl (.inr h))))
    · exact .inr (.inl h)
    · exact .inl (.inr (.inl (.inr h)))
    · have := uin k h; exact .inr (.inr (by omega))
    · exact .inl (.inr (.inr h))
set_option maxHeartbeats 2000000 in
set_option maxRecDepth 100000 in
theorem keep_any (w : World) (A base : Nat) (sv lv : Value) (m : Nat) (wv ev bv : Value) (Ws Es : List Value) (Ls : List (List Nd)) (Bs : List Bk) (ao : Option Addr) (n cap : Nat) (l : List Nd)
    (hI : Inv w A base sv lv m wv ev bv Ws Es Ls Bs) (hv : w.ownsRow base 51 6 (.slice ao n cap) n (l.flatMap Nd.cells)) (hn : l.length = n) (hvf : ∀ k ∈ ob (.slice ao n cap), k ∉ fpOf A wv ev bv Ws Es Bs)
    (hlen : l.length ≤ 2000000) (hwl : Ws.length ≤ 20000000) :
    Calls Tryz.prog 97 #[.pointer (some ⟨A, 0, none⟩), .slice ao n cap] w (keepPost w A base sv lv m wv ev bv Ws Es Ls Bs (.slice ao n cap) l) := by
  obtain ⟨⟨c0, c1, c2, c3, c4, c5⟩, hlv⟩ := hI.cells
  obtain ⟨i0, hi, hz0, hz1, hz2⟩ := info_parts info_list
  have hAb := hI.hAb
  have hbs := hI.hbs
  have hne2 : some A ≠ wv.ownBlock := fun c => by have := own_in hI.hW A (mem_ob.2 c.symm); omega
  go_enter Tryz.func97, Tryz.ntmps97
  go_wp2_with (at_builtin; refine wpList_append_grew _ rfl _ _ 66 rfl base 72 i0 (.slice none 0 0) 1 24 Tryz.underlying66 hi hz0 hz1 hz2 rfl (by decide) _ _ _ rfl (hI.hW.alloc _) ⟨w.heap.size, 0, none⟩ 1 1 [.slice ao n cap] rfl rfl ?c1 ?c2 ?c3 ?c4 ?c5 ?_)
  case c1 => exact block_new w #[.slice ao n cap] _
  case c2 => intro u hu; simp at hu; subst hu; rfl
  case c3 => unfold maxLen; omega
  case c4 => omega
  case c5 => simp; omega
  intro wv1 w1 hown1 hgr1 _
  obtain ⟨ao1, cap1, rfl⟩ := own_shape hown1
  have hsz1 : w.heap.size + 1 ≤ w1.heap.size := by have := hgr1.grown.size; simpa using this
  have blk1 : ∀ k, k < w.heap.size → k ∉ ob wv → w1.heap[k]? = w.heap[k]? := fun k hk hn => (hgr1.grown.block k (by simp; omega) (fun c => hn (mem_ob.2 c.symm))).trans (Below.heap_alloc _ _ _ hk)
  have hAwv : A ∉ ob wv := fun c => hne2 (mem_ob.1 c).symm
  have hA1 : w1.heap[A]? = some (.cells #[sv, .int .i64 m, wv, ev, bv, lv] 70 (0, 0)) := (blk1 A (by omega) hAwv).trans hI.hA
  have e2 : w1.cell? ⟨A, 2, none⟩ = some wv := by rw [cell_of_row w1 A _ _ _ _ hA1]; rfl
  have ez : ∀ j, w1.frozen? ⟨A, j, none⟩ = false := fun j => by simp [World.frozen?, hA1]
  go_wp2
  obtain ⟨W1, hW1⟩ : ∃ W1, W1 = w1.setCell ⟨A, 2, none⟩ (.slice ao1 (Ws.length + 1) cap1) := ⟨_, rfl⟩
  rw [← hW1]
  have hA2 : W1.heap[A]? = some (.cells #[sv, .int .i64 m, .slice ao1 (Ws.length + 1) cap1, ev, bv, lv] 70 (0, 0)) := by rw [hW1, heap_set hA1]; rfl
  have blk2 : ∀ k, k < w.heap.size → k ≠ A → k ∉ ob wv → W1.heap[k]? = w.heap[k]? := fun k hk hkA hn => by rw [hW1]; exact (Below.heap_setCell _ _ _ _ hkA).trans (blk1 k hk hn)
  have hsz2 : w.heap.size + 1 ≤ W1.heap.size := by rw [hW1]; simpa [World.setCell] using hsz1
  have hos : W1.os = w.os ∧ W1.tape = w.tape ∧ W1.output = w.output := by rw [hW1]; exact ⟨hgr1.grown.os, hgr1.grown.tape, hgr1.grown.output⟩
  have hgA : ∀ k, base ≤ k → k ≠ A := fun k hk => by omega
  have hgin := own_in hv
  have hv2 : W1.ownsRow base 51 6 (.slice ao n cap) n (l.flatMap Nd.cells) := own_keep hv fun k hk => blk2 k (hgin k hk).2 (hgA k (hgin k hk).1) (fun c => hvf k hk (by simp [fpOf, c]))
  have hE2 : W1.ownsRow base 72 1 ev Es.length Es := own_keep hI.hE fun k hk => blk2 k (own_in hI.hE k hk).2 (hgA k (own_in hI.hE k hk).1) (fun c => hI.d1 k c hk)
  have hown2 : W1.ownsRow base 72 1 (.slice ao1 (Ws.length + 1) cap1) (Ws.length + 1) (Ws ++ [.slice ao n cap]) := own_keep hown1 fun k hk => by rw [hW1]; exact Below.heap_setCell _ _ _ _ (hgA k (own_in hown1 k hk).1)
  have hin2 : ∀ k ∈ ob (.slice ao1 (Ws.length + 1) cap1), k < W1.heap.size := fun k hk => (own_in hown2 k hk).2
  have f3 : W1.cell? ⟨A, 3, none⟩ = some ev := by rw [cell_of_row W1 A _ _ _ _ hA2]; rfl
  have fz : ∀ j, W1.frozen? ⟨A, j, none⟩ = false := fun j => by simp [World.frozen?, hA2]
  have hAW : A < W1.heap.size := by omega
  have hwvN : ∀ k ∈ ob (.slice ao1 (Ws.length + 1) cap1), k ∈ ob wv ∨ w.heap.size ≤ k := fun k hk => by
    rcases hgr1.blk with e | ⟨q, e, hq⟩
    · left; rw [mem_ob, ← e]; exact mem_ob.1 hk
    · right; rw [mem_ob, e] at hk; simp at hk; simp at hq; omega
  have hAev : some A ≠ ev.ownBlock := fun c => by have := own_in hI.hE A (mem_ob.2 c.symm); omega
  clear hW1 e2 ez hA1 blk1 hgr1 hown1 c0 c1 c2 c3 c4 c5 hlv hsz1
  go_region_law (first | (refine step_append_copy (by rfl) (.const (.slice none 0 0)) (.tmp 19) (by rfl) (by rfl) base ao n cap l (by rfl) hv2.drew hn hlen (by show base ≤ W1.heap.size; omega) ?_; intro u w2 hu hgu; obtain ⟨ao2, cap2, rfl⟩ := own_shape hu; have b2 : ∀ k, k < W1.heap.size → w2.heap[k]? = W1.heap[k]? := (fun k hk => hgu.grown.block k hk (by simp [Value.ownBlock])); have s2 : W1.heap.size ≤ w2.heap.size := hgu.grown.size; have a2 : A < w2.heap.size := Nat.lt_of_lt_of_le hAW s2; have g3 : w2.cell? ⟨A, 3, none⟩ = some ev := (World.cell?_of_block (a := ⟨A, 3, none⟩) (b2 A hAW)).trans f3) | (refine step_append_grew _ (by rfl) (.tmp 18) (.tmp 21) 66 (by rfl) base 72 i0 (.slice none 0 0) 1 24 Tryz.underlying66 hi hz0 hz1 hz2 rfl (by decide) ev Es.length Es (by rfl) ((own_keep hE2 (fun k hk => b2 k (own_in hE2 k hk).2)).alloc _) ⟨w2.heap.size, 0, none⟩ 1 1 [.slice ao2 n cap2] (by rfl) (by rfl) (block_new _ _ _) (one_slice _ _ _) (by have := hI.len1; have := hI.len2; unfold maxLen; omega) (by have := hI.len1; have := hI.len2; omega) (by show base ≤ (w2.alloc _).heap.size; simp; omega) ?_; intro ev3 w3 hown3 hgr3 _; obtain ⟨ao3, cap3, rfl⟩ := own_shape hown3; have h3 : w3.heap[A]? = W1.heap[A]? := (hgr3.grown.block A (by simp; omega) hAev).trans ((Below.heap_alloc _ _ _ a2).trans (b2 A hAW)); have k3 : w3.cell? ⟨A, 3, none⟩ = some ev := (World.cell?_of_block (a := ⟨A, 3, none⟩) h3).trans f3; have z3 : w3.frozen? ⟨A, 3, none⟩ = false := (World.frozen?_of_block (a := ⟨A, 3, none⟩) h3).trans (fz 3)))
  all_goals
    have fin := keep_fin hI hn hvf hgin hA2 blk2 hsz2 hos hv2 hE2 hown2 hwvN hu hgu s2 hown3 hgr3
    clear hown3 hgr3 hu hgu b2 hown2 hE2 hv2 blk2 hA2
    go_end0
    exact ⟨rfl, fin.1, _, _, _, fin.2.1, fin.2.2⟩
end Go.Proofs.YtogmdaopfnmobaaGreat

/- What looks of the law's world does. -/
namespace Go.Proofs.YtogmdaopfnmobaaGreat
open Go.RowKit
theorem nodes_own {w : World} {base : Nat} {v : Value} {l : List Nd} (h : w.ownsRow base 51 6 v l.length (l.flatMap Nd.cells)) (hl : l.length ≤ 9000000) : Nodes w w.heap.size v l := by
  constructor
  rcases h.2 with ⟨rfl, h0⟩ | ⟨g, cap, cur, rfl, _, hg, _⟩
  · exact ⟨none, 0, by rw [h0], by omega, fun i hi => by omega⟩
  · obtain ⟨rest, hb, _⟩ := Blk.of h rfl
    refine ⟨_, cap, rfl, by omega, fun i hi => ⟨g, 0, rfl, hb.lt, fun j hj => ?_⟩⟩
    rw [Nat.zero_add, hb.cell hi hj, List.getElem?_eq_getElem]
theorem bcells_len (b : Bk) : b.cells.length = 10 := rfl
theorem brow_get (L : List Bk) : ∀ (i j : Nat) (hi : i < L.length) (_ : j < 10), (L.flatMap Bk.cells)[i * 10 + j]? = (L[i]).cells[j]? := by
  induction L with
  | nil => intro i j hi; simp at hi
  | cons d r ih =>
    intro i j hi hj
    cases i with
    | zero =>
      simp only [List.flatMap_cons, Nat.zero_mul, Nat.zero_add, List.getElem_cons_zero]
      rw [List.getElem?_append_left (by rw [bcells_len]; omega)]
    | succ i =>
      simp only [List.flatMap_cons, List.getElem_cons_succ]
      rw [List.getElem?_append_right (by rw [bcells_len]; omega), bcells_len, show (i + 1) * 10 + j - 10 = i * 10 + j from by omega]
      exact ih i j (by simpa using hi) hj
theorem book_cells {w : World} {base : Nat} {bv : Value} {Bs : List Bk} (h : w.ownsRow base 119 10 bv Bs.length (Bs.flatMap Bk.cells)) {k : Nat} {b : Bk} (hk : k < Bs.length) (hb : b = Bs[k]) : ∃ g cap, bv = .slice (some ⟨g, 0, none⟩) Bs.length cap ∧ g < w.heap.size ∧
    (w.cell? ⟨g, k * 10, none⟩ = some (.int .i64 (-1)) ∧ w.cell? ⟨g, k * 10 + 1, none⟩ = some (.int .i64 b.m) ∧ w.cell? ⟨g, k * 10 + 2, none⟩ = some (.int .i64 0) ∧ w.cell? ⟨g, k * 10 + 3, none⟩ = some (.int .i64 0) ∧ w.cell? ⟨g, k * 10 + 4, none⟩ = some (.int .u8 0) ∧
    w.cell? ⟨g, k * 10 + 5, none⟩ = some (.int .u8 0) ∧ w.cell? ⟨g, k * 10 + 6, none⟩ = some b.x0 ∧ w.cell? ⟨g, k * 10 + 7, none⟩ = some b.x1 ∧ w.cell? ⟨g, k * 10 + 8, none⟩ = some b.x2 ∧ w.cell? ⟨g, k * 10 + 9, none⟩ = some b.x3) := by
  subst hb
  rcases h.2 with ⟨rfl, h0⟩ | ⟨g, cap, cur, rfl, _, hg, _⟩
  · omega
  · have key : ∀ j, j < 10 → w.cell? ⟨g, k * 10 + j, none⟩ = (Bs[k]).cells[j]? := fun j hj => by
      have hu : ∃ u, (Bs[k]).cells[j]? = some u := ⟨_, List.getElem?_eq_getElem (by rw [bcells_len]; exact hj)⟩
      obtain ⟨u, hu⟩ := hu
      have := h.cells (g := g) rfl (k * 10 + j) u (by rw [brow_get Bs k j hk hj]; exact hu)
      rw [WideShapes.add_plain, Nat.zero_add] at this
      rw [this, hu]
    exact ⟨g, cap, rfl, (Array.getElem?_eq_some_iff.1 hg).1, key 0 (by omega), key 1 (by omega), key 2 (by omega), key 3 (by omega), key 4 (by omega), key 5 (by omega), key 6 (by omega), key 7 (by omega), key 8 (by omega), key 9 (by omega)⟩
theorem marked_shape {w : World} {base : Nat} {v : Value} {m : Int} (h : Marked w base v m) : ∃ a n c, v = .slice a n c := by
  obtain ⟨n, _, h⟩ := h
  obtain ⟨a, c, e⟩ := own_shape h
  exact ⟨a, n, c, e⟩
theorem all_marked {w w' : World} {base : Nat} {v : Value} {m : Int} (h : Marked w base v m) (hb : Below w.heap.size w w') :
    Calls Tryz.prog 60 #[v, .agg #[.int .i64 (-1), .int .i64 m, .int .i64 0, .int .i64 0, .int .u8 0, .int .u8 0]] w' fun e w'' => e = .returned (.bool true) ∧ Below w'.heap.size w' w'' := by
  obtain ⟨n, hn, h⟩ := h
  have h' := ownsRow_below h hb
  have e : (List.replicate n (Mk m)).length = n := by simp
  rw [← e] at h'
  rw [e] at h'
  exact all_any v m (List.replicate n (Mk m)) w' (nodes_own (by rw [e]; exact h') (by rw [e]; omega)) (fun d hd => (List.mem_replicate.1 hd).2)
end Go.Proofs.YtogmdaopfnmobaaGreat

/- An append, and what is still there behind it: for slices that are appended to again and again from one beginning. -/
namespace Go.Proofs.YtogmdaopfnmobaaGreat
open Go.RowKit
structure More (w : World) (v : Value) (w' : World) (v' : Value) : Prop where
  grew : Grew w v w' v'
  new : v'.ownBlock = v.ownBlock ∨ ∀ k, k < w.heap.size → w'.heap[k]? = w.heap[k]?
section
variable {P : Program} (w : World)
theorem run_append_more (base : Nat) (t ty e : TypeId) (i : TypeInfo) (z : Value) (size bytes : Nat) (ht : P.underlying t = some (.slice e)) (hi : P.info? e = some i) (hz : i.zero = some z)
    (hsize : i.size = size) (hby : i.bytes = bytes) (hzs : z.cells.size = size) (hsz : 0 < size)
    (v : Value) (n : Nat) (xs : List Value) (hown : w.ownsRow base e size v n xs)
    (a : Addr) (m c : Nat) (news : List Value) (hl : news.length = m * size) (hnews : ∀ j u, news[j]? = some u → w.cell? (a.add j) = some u) (h1 : ∀ u ∈ news, u.oneCell' = true)
    (h63 : n + m ≤ maxLen) (hbytes : (n + m) * bytes ≤ 140737488355328) (hbase : base ≤ w.heap.size) :
    ∃ v' w', (Builtin.append_ #[t, t] ty #[v, .slice (some a) m c]).run P w = .ok v' w' ∧ w'.ownsRow base e size v' (n + m) (xs ++ news) ∧ More w v w' v' ∧ w'.ownsRow base e size v n xs := by
  obtain ⟨v', w', hr, ho, hg, hn⟩ := run_append_grew (P := P) w base t ty e i z size bytes ht hi hz hsize hby hzs hsz v n xs hown a m c news hl hnews h1 h63 hbytes hbase
  refine ⟨v', w', hr, ho, ⟨hg, ?_⟩, append_keeps w w' base t ty e i z size bytes ht hi hz hsize hby hsz v v' n xs hown a m c news hl hnews h1 h63 hbytes hr⟩
  subst hsize
  subst hby
  have hsmall : n + m ≤ 9223372036854775807 := by simp only [maxLen] at h63; omega
  rcases hown.2 with ⟨rfl, rfl⟩ | ⟨g, cap, cur, rfl, hbg, hgg, hnc, hcm, hcs, htake⟩
  · by_cases hm : m = 0
    · left; rw [hn.2 ⟨rfl, hm⟩]
    · have hr2 := run_append_nil (P := P) w t ty e i z ht hi hz a m c news hl hnews (by omega) (by omega) (by have hb := hbytes; simp only [Nat.zero_add] at hb; omega)
      rw [hr] at hr2
      injection hr2 with e1 e2
      right; intro k hk
      rw [e2]
      exact Below.heap_alloc w.drew _ k hk
  · by_cases hroom : n + m ≤ cap
    · have hfit : n * i.size + news.length ≤ cur.size := by rw [hl, hcs, ← Nat.add_mul]; exact Nat.mul_le_mul_right _ hroom
      have hr2 := run_append_room (P := P) w t ty e i ht hi g n cap cur hgg a m c news hl hnews h1 hroom hfit
      rw [hr] at hr2
      injection hr2 with e1 e2
      left; rw [e1]; simp [Value.ownBlock]
    · have holds : ∀ j u, xs[j]? = some u → w.cell? ((⟨g, 0, none⟩ : Addr).add j) = some u := hown.cells (g := g) rfl
      have hr2 := run_append_grow (P := P) w t ty e i z ht hi hz ⟨g, 0, none⟩ n cap xs hown.1 holds a m c news hl hnews (by omega) (by omega) (growslice_fits (by omega) hbytes)
      rw [hr] at hr2
      injection hr2 with e1 e2
      right; intro k hk
      rw [e2]
      exact Below.heap_alloc w.drew _ k hk
theorem wpList_append_more {ops : Array Oper} {rest : List Oper} {o : Oper} {a : Act} {Q : Exit → Act → World → Prop} (hgd : o.guard = none) (s x : Operand) (t : TypeId)
    (ho : o.op = .call { callee := .builtin .append, args := #[s, x], argTypes := #[t, t] })
    (base : Nat) (e : TypeId) (i : TypeInfo) (z : Value) (size bytes : Nat) (ht : P.underlying t = some (.slice e)) (hi : P.info? e = some i) (hz : i.zero = some z)
    (hsize : i.size = size) (hby : i.bytes = bytes) (hzs : z.cells.size = size) (hsz : 0 < size)
    (v : Value) (n : Nat) (xs : List Value) (hs : a.eval s = v) (hown : w.ownsRow base e size v n xs)
    (ad : Addr) (m c : Nat) (news : List Value) (hx : a.eval x = .slice (some ad) m c) (hl : news.length = m * size) (hnews : ∀ j u, news[j]? = some u → w.cell? (ad.add j) = some u) (h1 : ∀ u ∈ news, u.oneCell' = true)
    (h63 : n + m ≤ maxLen) (hbytes : (n + m) * bytes ≤ 140737488355328) (hbase : base ≤ w.heap.size)
    (h : ∀ v' w', w'.ownsRow base e size v' (n + m) (xs ++ news) → More w v w' v' → w'.ownsRow base e size v n xs → wpList P ops Q rest (a.put o.dst v') w') : wpList P ops Q (o :: rest) a w :=
  wpList_plain hgd fun _ hK => by
    obtain ⟨v', w', hr, h2, h3, h4⟩ := run_append_more (P := P) w base t o.type e i z size bytes ht hi hz hsize hby hzs hsz v n xs hown ad m c news hl hnews h1 h63 hbytes hbase
    unfold Oper.wp execOp
    simp only [ho, resolve, invoke, builtin, Sem.run_bind, Sem.run_pure, Result.andThen_ok, List.map_toArray, List.map_cons, List.map_nil, hs, hx, hr]
    exact hK _ _ (h v' w' h2 h3 h4)
end
theorem own_cap {w : World} {base g n n' c c' : Nat} {xs xs' : List Value} (h : w.ownsRow base 51 6 (.slice (some ⟨g, 0, none⟩) n c) n xs) (h' : w.ownsRow base 51 6 (.slice (some ⟨g, 0, none⟩) n' c') n' xs') : c = c' := by
  rcases h.2 with ⟨e, _⟩ | ⟨g1, c1, cur, e, _, hg, _, _, hs, _⟩
  · simp at e
  · rcases h'.2 with ⟨e', _⟩ | ⟨g2, c2, cur', e', _, hg', _, _, hs', _⟩
    · simp at e'
    · simp only [Value.slice.injEq, Option.some.injEq, Addr.mk.injEq, true_and, and_true] at e e'
      obtain ⟨rfl, rfl⟩ := e
      obtain ⟨rfl, rfl⟩ := e'
      rw [hg] at hg'
      simp only [Option.some.injEq, Obj.cells.injEq] at hg'
      rw [← hg'.1] at hs'
      omega
theorem marks_stay {w w' : World} {base n j j' : Nat} {v x y : Value} {d : Nd} (hx : w.ownsRow base 51 6 x (n + j) ((List.replicate (n + j) d).flatMap Nd.cells)) (hv : w.ownsRow base 51 6 v n ((List.replicate n d).flatMap Nd.cells))
    (hm : More w v w' y) (hy : w'.ownsRow base 51 6 y (n + j') ((List.replicate (n + j') d).flatMap Nd.cells)) (hv' : w'.ownsRow base 51 6 v n ((List.replicate n d).flatMap Nd.cells)) (hjj : j ≤ j') :
    w'.ownsRow base 51 6 x (n + j) ((List.replicate (n + j) d).flatMap Nd.cells) := by
  by_cases hsame : x.ownBlock = v.ownBlock
  · rcases hm.new with hyb | hold
    · rcases hx.2 with ⟨rfl, h0⟩ | ⟨g, c, cur, rfl, _, hg, _⟩
      · exact ⟨hx.1, .inl ⟨rfl, h0⟩⟩
      · rcases hv.2 with ⟨rfl, h0⟩ | ⟨g2, c2, cur2, rfl, _, hg2, _⟩
        · simp [Value.ownBlock] at hsame
        · rcases hy.2 with ⟨rfl, h0⟩ | ⟨g3, c3, cur3, rfl, hb3, hg3, _⟩
          · simp [Value.ownBlock] at hyb
          · simp only [Value.ownBlock, Option.some.injEq] at hsame hyb
            subst hsame; subst hyb
            have e1 := own_cap hx hv
            have e2 := own_cap hy hv'
            have ec : c = c3 := e1.trans e2.symm
            obtain ⟨rest, hbk, hr, hnc, hcm, hbb⟩ := Blk.of hy (by simp)
            have h := hbk.own (base := base) (cap := c3) (n := n + j) (by simpa using hr) (by simp; omega) hcm hbb
            rw [ec]
            simpa [List.take_replicate, Nat.min_eq_left (show n + j ≤ n + j' by omega)] using h
    · exact own_keep hx fun k hk => hold k (own_in hx k hk).2
  · exact own_keep hx fun k hk => hm.grew.grown.block k (own_in hx k hk).2 (fun c => hsame ((mem_ob.1 hk).trans c))
end Go.Proofs.YtogmdaopfnmobaaGreat

/- What settle of the law's world does. -/
namespace Go.Proofs.YtogmdaopfnmobaaGreat
open Go.RowKit
structure Inv2 (w : World) (A base : Nat) (sv lv : Value) (m : Nat) (wv ev bv : Value) (Ws : List Value) (Ls : List (List Nd)) (Bs : List Bk) (k : Nat) : Prop where
  hA : w.heap[A]? = some (.cells #[sv, .int .i64 m, wv, ev, bv, lv] 70 (0, 0))
  hAb : A < base
  hbs : base ≤ w.heap.size
  hW : w.ownsRow base 72 1 wv Ws.length Ws
  hB : w.ownsRow base 119 10 bv Bs.length (Bs.flatMap Bk.cells)
  len1 : Ws.length = Ls.length
  owW : ∀ (i : Nat) (h1 : i < Ws.length) (h2 : i < Ls.length), k ≤ i → w.ownsRow base 51 6 Ws[i] (Ls[i]).length ((Ls[i]).flatMap Nd.cells)
  d2 : ((Ws.drop k).flatMap ob).Nodup
  bk : ∀ b ∈ Bs, Marked w base b.x0 b.m ∧ Marked w base b.x1 b.m ∧ Marked w base b.x2 b.m ∧ Marked w base b.x3 b.m ∧ ∀ j ∈ b.blocks, j ∉ (Ws.drop k).flatMap ob
section
variable {w : World} {A base : Nat} {sv lv : Value} {m : Nat} {wv ev bv : Value} {Ws Es : List Value} {Ls : List (List Nd)} {Bs : List Bk} {k : Nat}
theorem Inv.begin (h : Inv w A base sv lv m wv ev bv Ws Es Ls Bs) : Inv2 w A base sv lv m wv ev bv Ws Ls Bs 0 :=
  ⟨h.hA, h.hAb, h.hbs, h.hW, h.hB, h.len1, fun i h1 h2 _ => h.owW i h1 h2, by simpa using h.d2, fun b hb => by simpa using h.bk b hb⟩
theorem Inv2.frame {w' : World} {m' : Nat} (h : Inv2 w A base sv lv m wv ev bv Ws Ls Bs k) (hk : k < Ws.length)
    (hA' : w'.heap[A]? = some (.cells #[sv, .int .i64 m', wv, ev, bv, lv] 70 (0, 0))) (hs : w.heap.size ≤ w'.heap.size)
    (hf : ∀ j, j < w.heap.size → j ≠ A → j ∉ ob Ws[k] → w'.heap[j]? = w.heap[j]?) : Inv2 w' A base sv lv m' wv ev bv Ws Ls Bs (k + 1) := by
  have hab := h.hAb
  have hbs := h.hbs
  have hk2 : k < Ls.length := by rw [← h.len1]; exact hk
  have hv := h.owW k hk hk2 (Nat.le_refl _)
  have hdrop : Ws.drop k = Ws[k] :: Ws.drop (k + 1) := List.drop_eq_getElem_cons hk
  have hnd := h.d2
  rw [hdrop, List.flatMap_cons, List.nodup_append] at hnd
  have keep : ∀ {x : Value} {e : TypeId} {sz n : Nat} {xs : List Value}, w.ownsRow base e sz x n xs → (∀ j ∈ ob x, j ∉ ob Ws[k]) → w'.ownsRow base e sz x n xs := fun hx hne =>
    own_keep hx fun j hj => hf j (own_in hx j hj).2 (by have := own_in hx j hj; omega) (hne j hj)
  refine ⟨hA', hab, by omega, keep h.hW (own_apart h.hW hv (by decide)), keep h.hB (own_apart h.hB hv (by decide)), h.len1, ?_, hnd.2.1, ?_⟩
  · intro i h1 h2 hi
    have hx := h.owW i h1 h2 (by omega)
    refine keep hx fun j hj c => hnd.2.2 j c j ?_ rfl
    rw [List.mem_flatMap]
    refine ⟨Ws[i], ?_, hj⟩
    rw [List.mem_drop_iff_getElem]
    exact ⟨i - (k + 1), by omega, by congr 1; omega⟩
  · intro b hb
    obtain ⟨m0, m1, m2, m3, hq⟩ := h.bk b hb
    have hq' : ∀ j ∈ b.blocks, j ∉ ob Ws[k] := fun j hj c => hq j hj (by rw [hdrop, List.flatMap_cons, List.mem_append]; exact .inl c)
    have km : ∀ {x : Value}, Marked w base x b.m → (∀ j ∈ ob x, j ∈ b.blocks) → Marked w' base x b.m := fun ⟨j, hj, hx⟩ hin => ⟨j, hj, keep hx fun i hi => hq' i (hin i hi)⟩
    refine ⟨km m0 fun j hj => by simp [Bk.blocks, hj], km m1 fun j hj => by simp [Bk.blocks, hj], km m2 fun j hj => by simp [Bk.blocks, hj], km m3 fun j hj => by simp [Bk.blocks, hj], fun j hj c => hq j hj ?_⟩
    rw [hdrop, List.flatMap_cons, List.mem_append]
    exact .inr c
theorem Inv2.book {w3 : World} {bv3 : Value} {b : Bk} (h : Inv2 w A base sv lv m wv ev bv Ws Ls Bs k) (hg : Grew w bv w3 bv3) (ho : w3.ownsRow base 119 10 bv3 (Bs.length + 1) (Bs.flatMap Bk.cells ++ b.cells))
    (hb : Marked w base b.x0 b.m ∧ Marked w base b.x1 b.m ∧ Marked w base b.x2 b.m ∧ Marked w base b.x3 b.m ∧ ∀ j ∈ b.blocks, j ∉ (Ws.drop k).flatMap ob) :
    Inv2 (w3.setCell ⟨A, 4, none⟩ bv3) A base sv lv m wv ev bv3 Ws Ls (Bs ++ [b]) k := by
  have hab := h.hAb
  have hbs := h.hbs
  have hAne : some A ≠ bv.ownBlock := fun c => by have := own_in h.hB A (mem_ob.2 c.symm); omega
  have hA3 : w3.heap[A]? = w.heap[A]? := hg.grown.block A (by omega) hAne
  have old : ∀ j, j < w.heap.size → j ∉ ob bv → base ≤ j → (w3.setCell ⟨A, 4, none⟩ bv3).heap[j]? = w.heap[j]? := fun j hj hn hbk =>
    (Below.heap_setCell _ _ _ _ (by show j ≠ A; omega)).trans (hg.grown.block j hj (fun c => hn (mem_ob.2 c.symm)))
  have keep : ∀ {x : Value} {e : TypeId} {sz n : Nat} {xs : List Value}, w.ownsRow base e sz x n xs → e ≠ 119 → (w3.setCell ⟨A, 4, none⟩ bv3).ownsRow base e sz x n xs := fun hx hne =>
    own_keep hx fun j hj => old j (own_in hx j hj).2 (own_apart hx h.hB hne j hj) (own_in hx j hj).1
  have keepM : ∀ {x : Value} {n : Int}, Marked w base x n → Marked (w3.setCell ⟨A, 4, none⟩ bv3) base x n := fun ⟨j, hj, hx⟩ => ⟨j, hj, keep hx (by decide)⟩
  refine ⟨?_, hab, ?_, keep h.hW (by decide), ?_, h.len1, fun i h1 h2 hi => keep (h.owW i h1 h2 hi) (by decide), h.d2, ?_⟩
  · rw [heap_set (hA3.trans h.hA)]; rfl
  · have := hg.grown.size; simp [World.setCell]; omega
  · have e : (Bs ++ [b]).length = Bs.length + 1 := by simp
    have e2 : (Bs ++ [b]).flatMap Bk.cells = Bs.flatMap Bk.cells ++ b.cells := by simp
    rw [e, e2]
    exact own_keep ho fun j hj => Below.heap_setCell _ _ _ _ (by have := own_in ho j hj; show j ≠ A; omega)
  · intro x hx
    rw [List.mem_append] at hx
    rcases hx with hx | hx
    · obtain ⟨m0, m1, m2, m3, hq⟩ := h.bk x hx
      exact ⟨keepM m0, keepM m1, keepM m2, keepM m3, hq⟩
    · simp only [List.mem_cons, List.not_mem_nil, or_false] at hx
      subst hx
      obtain ⟨m0, m1, m2, m3, hq⟩ := hb
      exact ⟨keepM m0, keepM m1, keepM m2, keepM m3, hq⟩
theorem Inv2.done (h : Inv2 w A base sv lv m wv ev bv Ws Ls Bs Ws.length) :
    Inv ((w.setCell ⟨A, 2, none⟩ (.slice none 0 0)).setCell ⟨A, 3, none⟩ (.slice none 0 0)) A base sv lv m (.slice none 0 0) (.slice none 0 0) bv [] [] [] Bs := by
  have hab := h.hAb
  have hk : ∀ j, j ≠ A → ((w.setCell ⟨A, 2, none⟩ (.slice none 0 0)).setCell ⟨A, 3, none⟩ (.slice none 0 0)).heap[j]? = w.heap[j]? := fun j hj => (Below.heap_setCell _ _ _ _ hj).trans (Below.heap_setCell _ _ _ _ hj)
  have keep : ∀ {x : Value} {e : TypeId} {sz n : Nat} {xs : List Value}, w.ownsRow base e sz x n xs → ((w.setCell ⟨A, 2, none⟩ (.slice none 0 0)).setCell ⟨A, 3, none⟩ (.slice none 0 0)).ownsRow base e sz x n xs := fun hx => own_keep hx fun j hj => hk j (by have := own_in hx j hj; omega)
  have keepM : ∀ {x : Value} {n : Int}, Marked w base x n → Marked ((w.setCell ⟨A, 2, none⟩ (.slice none 0 0)).setCell ⟨A, 3, none⟩ (.slice none 0 0)) base x n := fun ⟨j, hj, hx⟩ => ⟨j, hj, keep hx⟩
  refine ⟨by rw [heap_set (heap_set h.hA _)]; rfl, hab, by have := h.hbs; simpa [World.setCell] using this, World.ownsRow_nil _ _ _ _, World.ownsRow_nil _ _ _ _, keep h.hB, rfl, rfl, fun i h1 => by simp at h1, fun i h1 => by simp at h1, by simp [ob, Value.ownBlock], by simp, by simp, fun b hb => ?_⟩
  obtain ⟨m0, m1, m2, m3, _⟩ := h.bk b hb
  exact ⟨keepM m0, keepM m1, keepM m2, keepM m3, by simp⟩
theorem Inv2.below {w' : World} (h : Inv2 w A base sv lv m wv ev bv Ws Ls Bs k) (hb : Below w.heap.size w w') : Inv2 w' A base sv lv m wv ev bv Ws Ls Bs k := by
  have keep : ∀ {x : Value} {e : TypeId} {sz n : Nat} {xs : List Value}, w.ownsRow base e sz x n xs → w'.ownsRow base e sz x n xs := fun hx => ownsRow_below hx hb
  have keepM : ∀ {x : Value} {n : Int}, Marked w base x n → Marked w' base x n := fun ⟨j, hj, hx⟩ => ⟨j, hj, keep hx⟩
  have hbs := h.hbs
  have hab := h.hAb
  refine ⟨by rw [hb.block A (by omega)]; exact h.hA, hab, by have := hb.size; omega, keep h.hW, keep h.hB, h.len1, fun i h1 h2 hi => keep (h.owW i h1 h2 hi), h.d2, fun b hb' => ?_⟩
  obtain ⟨m0, m1, m2, m3, hq⟩ := h.bk b hb'
  exact ⟨keepM m0, keepM m1, keepM m2, keepM m3, hq⟩
theorem Inv2.cells (h : Inv2 w A base sv lv m wv ev bv Ws Ls Bs k) : (w.cell? ⟨A, 0, none⟩ = some sv ∧ w.cell? ⟨A, 1, none⟩ = some (.int .i64 m) ∧ w.cell? ⟨A, 2, none⟩ = some wv ∧ w.cell? ⟨A, 3, none⟩ = some ev ∧ w.cell? ⟨A, 4, none⟩ = some bv ∧ w.cell? ⟨A, 5, none⟩ = some lv) ∧ ∀ j, w.frozen? ⟨A, j, none⟩ = false := by
  have hA := h.hA
  refine ⟨⟨?_, ?_, ?_, ?_, ?_, ?_⟩, fun j => by simp [World.frozen?, hA]⟩ <;> rw [cell_of_row w A _ _ _ _ hA] <;> rfl
end
end Go.Proofs.YtogmdaopfnmobaaGreat

