/- What keep of the law's world does. -/
import Derived.Test.YtlggbcceoejkkaaGreatWhole
namespace Go.Proofs.YtlggbcceoejkkaaGreat
open Go.RowKit

theorem info_list : (Tryz.prog.info? 39).map (fun i => (i.zero, i.size, i.bytes)) = some (some (.slice none 0 0), 1, 24) := by kernel_rfl

theorem row_one (l : List Nd) : ∀ u ∈ l.flatMap Nd.cells, u.oneCell' = true := by
  intro v hv
  obtain ⟨d, _, hd'⟩ := List.mem_flatMap.1 hv
  exact node_one d v hd'
theorem one_slice (a : Option Addr) (n c : Nat) : ∀ u ∈ [Value.slice a n c], u.oneCell' = true := by
  intro u hu; simp at hu; subst hu; rfl

/-- 'append([]api.Node(nil), l...)' of an own list, as one step of a region. -/
theorem run_append_copy (w : World) (ty : TypeId) (base : Nat) (ao : Option Addr) (n cap : Nat) (l : List Nd) (hv : w.ownsRow base 46 6 (.slice ao n cap) n (l.flatMap Nd.cells)) (hn : l.length = n) (hlen : l.length ≤ 2000000) (hb : base ≤ w.heap.size) :
    ∃ u w2, (Builtin.append_ #[39, 39] ty #[.slice none 0 0, .slice ao n cap]).run Tryz.prog w = .ok u w2 ∧ w2.ownsRow base 46 6 u n (l.flatMap Nd.cells) ∧ Grew w (.slice none 0 0) w2 u := by
  obtain ⟨j0, hj, hy0, hy1, hy2⟩ := info_parts info_node
  rcases hv.2 with ⟨e, h0⟩ | ⟨g, cap', cur, e, hg, hgg, hnc, hcm, hcs, ht⟩
  · simp only [Value.slice.injEq] at e
    obtain ⟨rfl, rfl, rfl⟩ := e
    have hl : l = [] := List.eq_nil_of_length_eq_zero hn
    subst hl
    refine ⟨.slice none 0 0, w, ?_, World.ownsRow_nil _ _ _ _, Grew.refl _ _⟩
    simp [Builtin.append_, run_underlying Tryz.underlying39, sizeOf, typeInfo, hj, Builtin.lenOf, Builtin.firstCells]
  · simp only [Value.slice.injEq] at e
    obtain ⟨rfl, _, rfl⟩ := e
    obtain ⟨v', w', hr, ho, hgr, _⟩ := run_append_grew (P := Tryz.prog) w base 39 ty 46 j0 (.agg #[.int .i64 0, .int .i64 0, .int .i64 0, .int .i64 0, .int .u8 0, .int .u8 0]) 6 40 Tryz.underlying39 hj hy0 hy1 hy2 rfl (by decide) (.slice none 0 0) 0 [] (World.ownsRow_nil _ _ _ _) ⟨g, 0, none⟩ n cap (l.flatMap Nd.cells) (by rw [row_len, hn]) (hv.cells (g := g) rfl) (row_one l) (by unfold maxLen; omega) (by omega) hb
    simp only [Nat.zero_add, List.nil_append] at ho
    exact ⟨v', w', hr, ho, hgr⟩
theorem step_append_copy {ops : Array Oper} {o : Oper} {a : Act} {w : World} {K : Act → World → Prop} {Q : Exit → Act → World → Prop} {E : Prop} (hgd : o.guard = none) (s x : Operand)
    (ho : o.op = .call { callee := .builtin .append, args := #[s, x], argTypes := #[39, 39] }) (hs : a.eval s = .slice none 0 0)
    (base : Nat) (ao : Option Addr) (n cap : Nat) (l : List Nd) (hx : a.eval x = .slice ao n cap) (hv : w.ownsRow base 46 6 (.slice ao n cap) n (l.flatMap Nd.cells)) (hn : l.length = n) (hlen : l.length ≤ 2000000) (hb : base ≤ w.heap.size)
    (h : ∀ u w', w'.ownsRow base 46 6 u n (l.flatMap Nd.cells) → Grew w (.slice none 0 0) w' u → K (a.put o.dst u) w') :
    if Region.wanted o (yielded ops a.tmps) = true then Oper.wp Tryz.prog o a w K Q else E := by
  have hw : Region.wanted o (yielded ops a.tmps) = true := by simp [Region.wanted, hgd]
  rw [if_pos hw]
  obtain ⟨u, w2, hr, h2, h3⟩ := run_append_copy w o.type base ao n cap l hv hn hlen hb
  unfold Oper.wp execOp
  simp only [ho, resolve, invoke, builtin, Sem.run_bind, Sem.run_pure, Result.andThen_ok, List.map_toArray, List.map_cons, List.map_nil, hs, hx, hr]
  exact h u w2 h2 h3

/-- What keep leaves. -/
def keepPost (w : World) (A base : Nat) (sv lv : Value) (m : Nat) (wv ev bv : Value) (Ws Es : List Value) (Ls : List (List Nd)) (Bs : List Bk) (v : Value) (l : List Nd) (e : Ending) (w' : World) : Prop :=
  e = .returned (.tuple #[]) ∧ Kept w w' (fpOf A wv ev bv Ws Es Bs) ∧ ∃ wv' ev' u, Inv w' A base sv lv m wv' ev' bv (Ws ++ [v]) (Es ++ [u]) (Ls ++ [l]) Bs ∧ ∀ k ∈ fpOf A wv' ev' bv (Ws ++ [v]) (Es ++ [u]) Bs, k ∈ fpOf A wv ev bv Ws Es Bs ∨ k ∈ ob v ∨ w.heap.size ≤ k

/-- The pieces of keep put together. -/
theorem keep_fin {w W1 w2 w3 : World} {A base : Nat} {sv lv : Value} {m : Nat} {wv ev bv wv1 u ev3 : Value} {Ws Es : List Value} {Ls : List (List Nd)} {Bs : List Bk} {ao : Option Addr} {n cap : Nat} {l : List Nd} {o : Obj}
    (hI : Inv w A base sv lv m wv ev bv Ws Es Ls Bs) (hn : l.length = n) (hvf : ∀ k ∈ ob (.slice ao n cap), k ∉ fpOf A wv ev bv Ws Es Bs) (hgin : ∀ k ∈ ob (.slice ao n cap), base ≤ k ∧ k < w.heap.size)
    (hA2 : W1.heap[A]? = some (.cells #[sv, .int .i64 m, wv1, ev, bv, lv] 31 (0, 0))) (blk2 : ∀ k, k < w.heap.size → k ≠ A → k ∉ ob wv → W1.heap[k]? = w.heap[k]?) (hsz2 : w.heap.size + 1 ≤ W1.heap.size) (hos : W1.os = w.os ∧ W1.tape = w.tape ∧ W1.output = w.output)
    (hv2 : W1.ownsRow base 46 6 (.slice ao n cap) n (l.flatMap Nd.cells)) (_hE2 : W1.ownsRow base 39 1 ev Es.length Es)
    (hown2 : W1.ownsRow base 39 1 wv1 (Ws.length + 1) (Ws ++ [.slice ao n cap])) (hwvN : ∀ k ∈ ob wv1, k ∈ ob wv ∨ w.heap.size ≤ k)
    (hu : w2.ownsRow base 46 6 u n (l.flatMap Nd.cells)) (hgu : Grew W1.drew (.slice none 0 0) w2 u) (s2 : W1.heap.size ≤ w2.heap.size)
    (hown3 : w3.ownsRow base 39 1 ev3 (Es.length + 1) (Es ++ [u])) (hgr3 : Grew (w2.alloc o) ev w3 ev3) :
    Kept w (w3.setCell ⟨A, 3, none⟩ ev3) (fpOf A wv ev bv Ws Es Bs) ∧ Inv (w3.setCell ⟨A, 3, none⟩ ev3) A base sv lv m wv1 ev3 bv (Ws ++ [.slice ao n cap]) (Es ++ [u]) (Ls ++ [l]) Bs ∧
      ∀ k ∈ fpOf A wv1 ev3 bv (Ws ++ [.slice ao n cap]) (Es ++ [u]) Bs, k ∈ fpOf A wv ev bv Ws Es Bs ∨ k ∈ ob (.slice ao n cap) ∨ w.heap.size ≤ k := by
  have hAb := hI.hAb
  have hbs := hI.hbs
  have evin := own_in hI.hE
  have hAev : A ∉ ob ev := fun c => by have := evin A c; omega
  have b3 : ∀ k, k < W1.heap.size → k ∉ ob ev → w3.heap[k]? = W1.heap[k]? := fun k hk hne =>
    (hgr3.grown.block k (by simp; omega) (fun c => hne (mem_ob.2 c.symm))).trans ((Below.heap_alloc _ _ _ (by omega)).trans (hgu.grown.block k hk (by simp [Value.ownBlock])))
  have b4 : ∀ k, k ≠ A → (w3.setCell ⟨A, 3, none⟩ ev3).heap[k]? = w3.heap[k]? := fun k hk => Below.heap_setCell _ _ _ _ hk
  have s3 : w2.heap.size + 1 ≤ w3.heap.size := by have := hgr3.grown.size; simpa using this
  have s4 : (w3.setCell ⟨A, 3, none⟩ ev3).heap.size = w3.heap.size := by simp [World.setCell]
  have wvev : ∀ k ∈ ob wv1, k ∉ ob ev := fun k hk c => by
    rcases hwvN k hk with h | h
    · exact hI.d1 k h c
    · have := (evin k c).2; omega
  have gev : ∀ k ∈ ob (.slice ao n cap), k ∉ ob ev := fun k hk c => hvf k hk (by simp [fpOf, c])
  have uin : ∀ k ∈ ob u, W1.heap.size ≤ k := fun k hk => by
    rcases hgu.blk with e | ⟨q, e, hq⟩
    · rw [mem_ob, e] at hk; simp [Value.ownBlock] at hk
    · rw [mem_ob, e] at hk; simp at hk; subst hk; exact hq
  refine ⟨⟨?_, ?_, ?_, by omega, ?_⟩, ?_, ?_⟩
  · exact hgr3.grown.os.trans (hgu.grown.os.trans hos.1)
  · exact hgr3.grown.tape.trans (hgu.grown.tape.trans hos.2.1)
  · exact hgr3.grown.output.trans (hgu.grown.output.trans hos.2.2)
  · intro k hk hn'
    simp only [fpOf, List.mem_cons, List.mem_append, not_or] at hn'
    obtain ⟨n1, ⟨⟨⟨⟨n2, n3⟩, _⟩, _⟩, _⟩, _⟩ := hn'
    rw [b4 k n1, b3 k (by omega) n3, blk2 k hk n1 n2]
  · refine hI.keep _ u wv1 ev3 l ?_ (by omega) ?_ ?_ ?_ ?_ ?_ ?_ ?_ ?_ ?_
    · rw [heap_set ((b3 A (by omega) hAev).trans hA2)]; rfl
    · intro k hk n1 n2 n3
      rw [b4 k n1, b3 k (by omega) n3, blk2 k hk n1 n2]
    · exact own_keep hown2 fun k hk => by rw [b4 k (by have := own_in hown2 k hk; omega), b3 k (own_in hown2 k hk).2 (wvev k hk)]
    · exact own_keep hown3 fun k hk => b4 k (by have := own_in hown3 k hk; omega)
    · rw [hn]
      exact own_keep hv2 fun k hk => by
        have := hgin k hk
        rw [b4 _ (by omega), b3 _ (by omega) (gev k hk)]
    · rw [hn]
      exact own_keep hu fun k hk => by
        have hin := own_in hu k hk
        have hge := uin k hk
        rw [b4 k (by omega)]
        exact (hgr3.grown.block k (by simp; omega) (fun c => by have := (evin k (mem_ob.2 c.symm)).2; omega)).trans (Below.heap_alloc _ _ _ (by omega))
    · intro k hk hk3
      have hlt := (own_in hown2 k hk).2
      rcases hgr3.blk with e | ⟨q, e, hq⟩
      · rw [mem_ob, e] at hk3; exact wvev k hk (mem_ob.2 hk3)
      · rw [mem_ob, e] at hk3; simp at hk3; subst hk3; simp at hq; omega
    · exact hvf
    · intro k hk; have := uin k hk; omega
    · exact fun k hk => (hgin k hk).2
  · intro k hk
    simp only [fpOf, List.mem_cons, List.mem_append, List.flatMap_append, List.flatMap_cons, List.flatMap_nil, List.append_nil] at hk ⊢
    rcases hk with h | (((((h | h) | h) | (h | h)) | (h | h)) | h)
    · exact .inl (.inl h)
    · rcases hwvN k h with h' | h'
      · exact .inl (.inr (.inl (.inl (.inl (.inl (.inl h'))))))
      · exact .inr (.inr h')
    · rcases hgr3.blk with e | ⟨q, e, hq⟩
      · exact .inl (.inr (.inl (.inl (.inl (.inl (.inr (by rw [mem_ob, ← e]; exact mem_ob.1 h)))))))
      · right; right; rw [mem_ob, e] at h; simp at h; simp at hq; omega
    · exact .inl (.inr (.inl (.inl (.inl (.inr h)))))
    · exact .inl (.inr (.inl (.inl (.inr h))))
    · exact .inr (.inl h)
    · exact .inl (.inr (.inl (.inr h)))
    · have := uin k h; exact .inr (.inr (by omega))
    · exact .inl (.inr (.inr h))

set_option maxHeartbeats 2000000 in
set_option maxRecDepth 100000 in
theorem keep_any (w : World) (A base : Nat) (sv lv : Value) (m : Nat) (wv ev bv : Value) (Ws Es : List Value) (Ls : List (List Nd)) (Bs : List Bk) (ao : Option Addr) (n cap : Nat) (l : List Nd)
    (hI : Inv w A base sv lv m wv ev bv Ws Es Ls Bs) (hv : w.ownsRow base 46 6 (.slice ao n cap) n (l.flatMap Nd.cells)) (hn : l.length = n) (hvf : ∀ k ∈ ob (.slice ao n cap), k ∉ fpOf A wv ev bv Ws Es Bs)
    (hlen : l.length ≤ 2000000) (hwl : Ws.length ≤ 20000000) :
    Calls Tryz.prog 30 #[.pointer (some ⟨A, 0, none⟩), .slice ao n cap] w (keepPost w A base sv lv m wv ev bv Ws Es Ls Bs (.slice ao n cap) l) := by
  obtain ⟨⟨c0, c1, c2, c3, c4, c5⟩, hlv⟩ := hI.cells
  obtain ⟨i0, hi, hz0, hz1, hz2⟩ := info_parts info_list
  have hAb := hI.hAb
  have hbs := hI.hbs
  have hne2 : some A ≠ wv.ownBlock := fun c => by have := own_in hI.hW A (mem_ob.2 c.symm); omega
  go_enter Tryz.func30, Tryz.ntmps30
  go_wp2_with (at_builtin; refine wpList_append_grew _ rfl _ _ 27 rfl base 39 i0 (.slice none 0 0) 1 24 Tryz.underlying27 hi hz0 hz1 hz2 rfl (by decide) _ _ _ rfl (hI.hW.alloc _) ⟨w.heap.size, 0, none⟩ 1 1 [.slice ao n cap] rfl rfl ?c1 ?c2 ?c3 ?c4 ?c5 ?_)
  case c1 => exact block_new w #[.slice ao n cap] _
  case c2 => intro u hu; simp at hu; subst hu; rfl
  case c3 => unfold maxLen; omega
  case c4 => omega
  case c5 => simp; omega
  intro wv1 w1 hown1 hgr1 _
  obtain ⟨ao1, cap1, rfl⟩ := own_shape hown1
  have hsz1 : w.heap.size + 1 ≤ w1.heap.size := by have := hgr1.grown.size; simpa using this
  have blk1 : ∀ k, k < w.heap.size → k ∉ ob wv → w1.heap[k]? = w.heap[k]? := fun k hk hn => (hgr1.grown.block k (by simp; omega) (fun c => hn (mem_ob.2 c.symm))).trans (Below.heap_alloc _ _ _ hk)
  have hAwv : A ∉ ob wv := fun c => hne2 (mem_ob.1 c).symm
  have hA1 : w1.heap[A]? = some (.cells #[sv, .int .i64 m, wv, ev, bv, lv] 31 (0, 0)) := (blk1 A (by omega) hAwv).trans hI.hA
  have e2 : w1.cell? ⟨A, 2, none⟩ = some wv := by rw [cell_of_row w1 A _ _ _ _ hA1]; rfl
  have ez : ∀ j, w1.frozen? ⟨A, j, none⟩ = false := fun j => by simp [World.frozen?, hA1]
  go_wp2
  obtain ⟨W1, hW1⟩ : ∃ W1, W1 = w1.setCell ⟨A, 2, none⟩ (.slice ao1 (Ws.length + 1) cap1) := ⟨_, rfl⟩
  rw [← hW1]
  have hA2 : W1.heap[A]? = some (.cells #[sv, .int .i64 m, .slice ao1 (Ws.length + 1) cap1, ev, bv, lv] 31 (0, 0)) := by rw [hW1, heap_set hA1]; rfl
  have blk2 : ∀ k, k < w.heap.size → k ≠ A → k ∉ ob wv → W1.heap[k]? = w.heap[k]? := fun k hk hkA hn => by rw [hW1]; exact (Below.heap_setCell _ _ _ _ hkA).trans (blk1 k hk hn)
  have hsz2 : w.heap.size + 1 ≤ W1.heap.size := by rw [hW1]; simpa [World.setCell] using hsz1
  have hos : W1.os = w.os ∧ W1.tape = w.tape ∧ W1.output = w.output := by rw [hW1]; exact ⟨hgr1.grown.os, hgr1.grown.tape, hgr1.grown.output⟩
  have hgA : ∀ k, base ≤ k → k ≠ A := fun k hk => by omega
  have hgin := own_in hv
  have hv2 : W1.ownsRow base 46 6 (.slice ao n cap) n (l.flatMap Nd.cells) := own_keep hv fun k hk => blk2 k (hgin k hk).2 (hgA k (hgin k hk).1) (fun c => hvf k hk (by simp [fpOf, c]))
  have hE2 : W1.ownsRow base 39 1 ev Es.length Es := own_keep hI.hE fun k hk => blk2 k (own_in hI.hE k hk).2 (hgA k (own_in hI.hE k hk).1) (fun c => hI.d1 k c hk)
  have hown2 : W1.ownsRow base 39 1 (.slice ao1 (Ws.length + 1) cap1) (Ws.length + 1) (Ws ++ [.slice ao n cap]) := own_keep hown1 fun k hk => by rw [hW1]; exact Below.heap_setCell _ _ _ _ (hgA k (own_in hown1 k hk).1)
  have hin2 : ∀ k ∈ ob (.slice ao1 (Ws.length + 1) cap1), k < W1.heap.size := fun k hk => (own_in hown2 k hk).2
  have f3 : W1.cell? ⟨A, 3, none⟩ = some ev := by rw [cell_of_row W1 A _ _ _ _ hA2]; rfl
  have fz : ∀ j, W1.frozen? ⟨A, j, none⟩ = false := fun j => by simp [World.frozen?, hA2]
  have hAW : A < W1.heap.size := by omega
  have hwvN : ∀ k ∈ ob (.slice ao1 (Ws.length + 1) cap1), k ∈ ob wv ∨ w.heap.size ≤ k := fun k hk => by
    rcases hgr1.blk with e | ⟨q, e, hq⟩
    · left; rw [mem_ob, ← e]; exact mem_ob.1 hk
    · right; rw [mem_ob, e] at hk; simp at hk; simp at hq; omega
  have hAev : some A ≠ ev.ownBlock := fun c => by have := own_in hI.hE A (mem_ob.2 c.symm); omega
  clear hW1 e2 ez hA1 blk1 hgr1 hown1 c0 c1 c2 c3 c4 c5 hlv hsz1
  go_region_law (first | (refine step_append_copy (by rfl) (.const (.slice none 0 0)) (.tmp 19) (by rfl) (by rfl) base ao n cap l (by rfl) hv2.drew hn hlen (by show base ≤ W1.heap.size; omega) ?_; intro u w2 hu hgu; obtain ⟨ao2, cap2, rfl⟩ := own_shape hu; have b2 : ∀ k, k < W1.heap.size → w2.heap[k]? = W1.heap[k]? := (fun k hk => hgu.grown.block k hk (by simp [Value.ownBlock])); have s2 : W1.heap.size ≤ w2.heap.size := hgu.grown.size; have a2 : A < w2.heap.size := Nat.lt_of_lt_of_le hAW s2; have g3 : w2.cell? ⟨A, 3, none⟩ = some ev := (World.cell?_of_block (a := ⟨A, 3, none⟩) (b2 A hAW)).trans f3) | (refine step_append_grew _ (by rfl) (.tmp 18) (.tmp 21) 27 (by rfl) base 39 i0 (.slice none 0 0) 1 24 Tryz.underlying27 hi hz0 hz1 hz2 rfl (by decide) ev Es.length Es (by rfl) ((own_keep hE2 (fun k hk => b2 k (own_in hE2 k hk).2)).alloc _) ⟨w2.heap.size, 0, none⟩ 1 1 [.slice ao2 n cap2] (by rfl) (by rfl) (block_new _ _ _) (one_slice _ _ _) (by have := hI.len1; have := hI.len2; unfold maxLen; omega) (by have := hI.len1; have := hI.len2; omega) (by show base ≤ (w2.alloc _).heap.size; simp; omega) ?_; intro ev3 w3 hown3 hgr3 _; obtain ⟨ao3, cap3, rfl⟩ := own_shape hown3; have h3 : w3.heap[A]? = W1.heap[A]? := (hgr3.grown.block A (by simp; omega) hAev).trans ((Below.heap_alloc _ _ _ a2).trans (b2 A hAW)); have k3 : w3.cell? ⟨A, 3, none⟩ = some ev := (World.cell?_of_block (a := ⟨A, 3, none⟩) h3).trans f3; have z3 : w3.frozen? ⟨A, 3, none⟩ = false := (World.frozen?_of_block (a := ⟨A, 3, none⟩) h3).trans (fz 3)))
  all_goals
    have fin := keep_fin hI hn hvf hgin hA2 blk2 hsz2 hos hv2 hE2 hown2 hwvN hu hgu s2 hown3 hgr3
    clear hown3 hgr3 hu hgu b2 hown2 hE2 hv2 blk2 hA2
    go_end0
    exact ⟨rfl, fin.1, _, _, _, fin.2.1, fin.2.2⟩

end Go.Proofs.YtlggbcceoejkkaaGreat
