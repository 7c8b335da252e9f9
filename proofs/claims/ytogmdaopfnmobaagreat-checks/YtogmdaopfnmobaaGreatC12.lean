/- What wholeNodes of the law's world does. -/
import Derived.Test.YtogmdaopfnmobaaGreatC11
namespace Go.Proofs.YtogmdaopfnmobaaGreat
open Go.RowKit
attribute [local go_sem ↓] run_eql_node run_neq_node
theorem info_book : (Tryz.prog.info? 119).map (fun i => (i.zero, i.size, i.bytes)) = some (some (.agg #[.int .i64 0, .int .i64 0, .int .i64 0, .int .i64 0, .int .u8 0, .int .u8 0, .slice none 0 0, .slice none 0 0, .slice none 0 0, .slice none 0 0]), 10, 136) := by kernel_rfl
section
variable {w : World} {A base : Nat} {sv lv : Value} {m : Nat} {wv ev bv : Value} {Ws Es : List Value} {Ls : List (List Nd)} {Bs : List Bk}
theorem Inv.alloc (h : Inv w A base sv lv m wv ev bv Ws Es Ls Bs) (o : Obj) : Inv (w.alloc o) A base sv lv m wv ev bv Ws Es Ls Bs :=
  h.below ((Below.refl _ _).alloc (Nat.le_refl _) _)
theorem Inv.mark (h : Inv w A base sv lv m wv ev bv Ws Es Ls Bs) (v : Nat) : Inv (w.setCell ⟨A, 1, none⟩ (.int .i64 v)) A base sv lv v wv ev bv Ws Es Ls Bs := by
  have hk : ∀ k, k ≠ A → (w.setCell ⟨A, 1, none⟩ (.int .i64 v)).heap[k]? = w.heap[k]? := fun k hk => Below.heap_setCell _ _ _ _ hk
  have hab := h.hAb
  have ne : ∀ {x : Value} {e : TypeId} {sz n : Nat} {xs : List Value}, w.ownsRow base e sz x n xs → (w.setCell ⟨A, 1, none⟩ (.int .i64 v)).ownsRow base e sz x n xs := fun ho => own_keep ho fun k hk' => hk k (by have := own_in ho k hk'; omega)
  refine ⟨by rw [heap_set h.hA]; rfl, h.hAb, by have := h.hbs; simpa [World.setCell] using this, ne h.hW, ne h.hE, ne h.hB, h.len1, h.len2, fun i h1 h2 => ne (h.owW i h1 h2), fun i h1 h2 => ne (h.owE i h1 h2), h.d1, h.d2, h.d3, fun b hb => ?_⟩
  obtain ⟨⟨n0, z0, m0⟩, ⟨n1, z1, m1⟩, ⟨n2, z2, m2⟩, ⟨n3, z3, m3⟩, hq⟩ := h.bk b hb
  exact ⟨⟨n0, z0, ne m0⟩, ⟨n1, z1, ne m1⟩, ⟨n2, z2, ne m2⟩, ⟨n3, z3, ne m3⟩, hq⟩
end
theorem mark_next (l : List Nd) (x : Nd) (k : Nat) (h : k < l.length) : (List.replicate k x ++ l.drop k).set k x = List.replicate (k + 1) x ++ l.drop (k + 1) := by
  rw [List.set_append_right _ _ (by simp), List.length_replicate, Nat.sub_self, List.drop_eq_getElem_cons h, List.set_cons_zero, List.replicate_succ', List.append_assoc]
  rfl
theorem block_new (w : World) (C : Array Value) (t : TypeId) : ∀ j u, C.toList[j]? = some u → (w.alloc (.cells C t)).cell? ((⟨w.heap.size, 0, none⟩ : Addr).add j) = some u := by
  intro j u hj
  have e1 : (⟨w.heap.size, 0, none⟩ : Addr).add j = ⟨w.heap.size, j, none⟩ := by unfold Addr.add; split <;> simp_all
  rw [e1, cell_of_row _ _ j _ _ _ (heap_alloc_new w _)]
  simpa using hj
theorem bk_one (m : Int) (a b c d : Value) (ha : a.oneCell' = true) (hb : b.oneCell' = true) (hc : c.oneCell' = true) (hd : d.oneCell' = true) : ∀ u ∈ (Bk.mk m a b c d).cells, u.oneCell' = true := by
  intro u hu
  unfold Bk.cells at hu
  rw [List.mem_append] at hu
  rcases hu with hu | hu
  · exact node_one _ u hu
  · simp only [List.mem_cons, List.not_mem_nil, or_false] at hu
    rcases hu with rfl | rfl | rfl | rfl <;> assumption
end Go.Proofs.YtogmdaopfnmobaaGreat

