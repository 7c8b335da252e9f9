/- What settle of the law's world does. -/
import Derived.Test.YtlggbcceoejkkaaGreatMore
namespace Go.Proofs.YtlggbcceoejkkaaGreat
open Go.RowKit

/-- The law's world in the midst of settle: the first k lists have become books. -/
structure Inv2 (w : World) (A base : Nat) (sv lv : Value) (m : Nat) (wv ev bv : Value) (Ws : List Value) (Ls : List (List Nd)) (Bs : List Bk) (k : Nat) : Prop where
  hA : w.heap[A]? = some (.cells #[sv, .int .i64 m, wv, ev, bv, lv] 31 (0, 0))
  hAb : A < base
  hbs : base ≤ w.heap.size
  hW : w.ownsRow base 39 1 wv Ws.length Ws
  hB : w.ownsRow base 56 10 bv Bs.length (Bs.flatMap Bk.cells)
  len1 : Ws.length = Ls.length
  owW : ∀ (i : Nat) (h1 : i < Ws.length) (h2 : i < Ls.length), k ≤ i → w.ownsRow base 46 6 Ws[i] (Ls[i]).length ((Ls[i]).flatMap Nd.cells)
  d2 : ((Ws.drop k).flatMap ob).Nodup
  bk : ∀ b ∈ Bs, Marked w base b.x0 b.m ∧ Marked w base b.x1 b.m ∧ Marked w base b.x2 b.m ∧ Marked w base b.x3 b.m ∧ ∀ j ∈ b.blocks, j ∉ (Ws.drop k).flatMap ob

section
variable {w : World} {A base : Nat} {sv lv : Value} {m : Nat} {wv ev bv : Value} {Ws Es : List Value} {Ls : List (List Nd)} {Bs : List Bk} {k : Nat}

theorem Inv.begin (h : Inv w A base sv lv m wv ev bv Ws Es Ls Bs) : Inv2 w A base sv lv m wv ev bv Ws Ls Bs 0 :=
  ⟨h.hA, h.hAb, h.hbs, h.hW, h.hB, h.len1, fun i h1 h2 _ => h.owW i h1 h2, by simpa using h.d2, fun b hb => by simpa using h.bk b hb⟩

/-- The blocks that settle may write. -/
def fp2 (A : Nat) (bv : Value) (Ws : List Value) : List Nat := A :: (ob bv ++ Ws.flatMap ob)

/-- It stays where nothing turns but one list's own block (the k-th), the count, or new blocks. -/
theorem Inv2.frame {w' : World} {m' : Nat} (h : Inv2 w A base sv lv m wv ev bv Ws Ls Bs k) (hk : k < Ws.length)
    (hA' : w'.heap[A]? = some (.cells #[sv, .int .i64 m', wv, ev, bv, lv] 31 (0, 0))) (hs : w.heap.size ≤ w'.heap.size)
    (hf : ∀ j, j < w.heap.size → j ≠ A → j ∉ ob Ws[k] → w'.heap[j]? = w.heap[j]?) : Inv2 w' A base sv lv m' wv ev bv Ws Ls Bs (k + 1) := by
  have hab := h.hAb
  have hbs := h.hbs
  have hk2 : k < Ls.length := by rw [← h.len1]; exact hk
  have hv := h.owW k hk hk2 (Nat.le_refl _)
  have hdrop : Ws.drop k = Ws[k] :: Ws.drop (k + 1) := List.drop_eq_getElem_cons hk
  have hnd := h.d2
  rw [hdrop, List.flatMap_cons, List.nodup_append] at hnd
  have keep : ∀ {x : Value} {e : TypeId} {sz n : Nat} {xs : List Value}, w.ownsRow base e sz x n xs → (∀ j ∈ ob x, j ∉ ob Ws[k]) → w'.ownsRow base e sz x n xs := fun hx hne =>
    own_keep hx fun j hj => hf j (own_in hx j hj).2 (by have := own_in hx j hj; omega) (hne j hj)
  refine ⟨hA', hab, by omega, keep h.hW (own_apart h.hW hv (by decide)), keep h.hB (own_apart h.hB hv (by decide)), h.len1, ?_, hnd.2.1, ?_⟩
  · intro i h1 h2 hi
    have hx := h.owW i h1 h2 (by omega)
    refine keep hx fun j hj c => hnd.2.2 j c j ?_ rfl
    rw [List.mem_flatMap]
    refine ⟨Ws[i], ?_, hj⟩
    rw [List.mem_drop_iff_getElem]
    exact ⟨i - (k + 1), by omega, by congr 1; omega⟩
  · intro b hb
    obtain ⟨m0, m1, m2, m3, hq⟩ := h.bk b hb
    have hq' : ∀ j ∈ b.blocks, j ∉ ob Ws[k] := fun j hj c => hq j hj (by rw [hdrop, List.flatMap_cons, List.mem_append]; exact .inl c)
    have km : ∀ {x : Value}, Marked w base x b.m → (∀ j ∈ ob x, j ∈ b.blocks) → Marked w' base x b.m := fun ⟨j, hj, hx⟩ hin => ⟨j, hj, keep hx fun i hi => hq' i (hin i hi)⟩
    refine ⟨km m0 fun j hj => by simp [Bk.blocks, hj], km m1 fun j hj => by simp [Bk.blocks, hj], km m2 fun j hj => by simp [Bk.blocks, hj], km m3 fun j hj => by simp [Bk.blocks, hj], fun j hj c => hq j hj ?_⟩
    rw [hdrop, List.flatMap_cons, List.mem_append]
    exact .inr c

/-- One book more, in the midst of settle. -/
theorem Inv2.book {w3 : World} {bv3 : Value} {b : Bk} (h : Inv2 w A base sv lv m wv ev bv Ws Ls Bs k) (hg : Grew w bv w3 bv3) (ho : w3.ownsRow base 56 10 bv3 (Bs.length + 1) (Bs.flatMap Bk.cells ++ b.cells))
    (hb : Marked w base b.x0 b.m ∧ Marked w base b.x1 b.m ∧ Marked w base b.x2 b.m ∧ Marked w base b.x3 b.m ∧ ∀ j ∈ b.blocks, j ∉ (Ws.drop k).flatMap ob) :
    Inv2 (w3.setCell ⟨A, 4, none⟩ bv3) A base sv lv m wv ev bv3 Ws Ls (Bs ++ [b]) k := by
  have hab := h.hAb
  have hbs := h.hbs
  have hAne : some A ≠ bv.ownBlock := fun c => by have := own_in h.hB A (mem_ob.2 c.symm); omega
  have hA3 : w3.heap[A]? = w.heap[A]? := hg.grown.block A (by omega) hAne
  have old : ∀ j, j < w.heap.size → j ∉ ob bv → base ≤ j → (w3.setCell ⟨A, 4, none⟩ bv3).heap[j]? = w.heap[j]? := fun j hj hn hbk =>
    (Below.heap_setCell _ _ _ _ (by show j ≠ A; omega)).trans (hg.grown.block j hj (fun c => hn (mem_ob.2 c.symm)))
  have keep : ∀ {x : Value} {e : TypeId} {sz n : Nat} {xs : List Value}, w.ownsRow base e sz x n xs → e ≠ 56 → (w3.setCell ⟨A, 4, none⟩ bv3).ownsRow base e sz x n xs := fun hx hne =>
    own_keep hx fun j hj => old j (own_in hx j hj).2 (own_apart hx h.hB hne j hj) (own_in hx j hj).1
  have keepM : ∀ {x : Value} {n : Int}, Marked w base x n → Marked (w3.setCell ⟨A, 4, none⟩ bv3) base x n := fun ⟨j, hj, hx⟩ => ⟨j, hj, keep hx (by decide)⟩
  refine ⟨?_, hab, ?_, keep h.hW (by decide), ?_, h.len1, fun i h1 h2 hi => keep (h.owW i h1 h2 hi) (by decide), h.d2, ?_⟩
  · rw [heap_set (hA3.trans h.hA)]; rfl
  · have := hg.grown.size; simp [World.setCell]; omega
  · have e : (Bs ++ [b]).length = Bs.length + 1 := by simp
    have e2 : (Bs ++ [b]).flatMap Bk.cells = Bs.flatMap Bk.cells ++ b.cells := by simp
    rw [e, e2]
    exact own_keep ho fun j hj => Below.heap_setCell _ _ _ _ (by have := own_in ho j hj; show j ≠ A; omega)
  · intro x hx
    rw [List.mem_append] at hx
    rcases hx with hx | hx
    · obtain ⟨m0, m1, m2, m3, hq⟩ := h.bk x hx
      exact ⟨keepM m0, keepM m1, keepM m2, keepM m3, hq⟩
    · simp only [List.mem_cons, List.not_mem_nil, or_false] at hx
      subst hx
      obtain ⟨m0, m1, m2, m3, hq⟩ := hb
      exact ⟨keepM m0, keepM m1, keepM m2, keepM m3, hq⟩

/-- The end: no list waits any more. -/
theorem Inv2.done (h : Inv2 w A base sv lv m wv ev bv Ws Ls Bs Ws.length) :
    Inv ((w.setCell ⟨A, 2, none⟩ (.slice none 0 0)).setCell ⟨A, 3, none⟩ (.slice none 0 0)) A base sv lv m (.slice none 0 0) (.slice none 0 0) bv [] [] [] Bs := by
  have hab := h.hAb
  have hk : ∀ j, j ≠ A → ((w.setCell ⟨A, 2, none⟩ (.slice none 0 0)).setCell ⟨A, 3, none⟩ (.slice none 0 0)).heap[j]? = w.heap[j]? := fun j hj => (Below.heap_setCell _ _ _ _ hj).trans (Below.heap_setCell _ _ _ _ hj)
  have keep : ∀ {x : Value} {e : TypeId} {sz n : Nat} {xs : List Value}, w.ownsRow base e sz x n xs → ((w.setCell ⟨A, 2, none⟩ (.slice none 0 0)).setCell ⟨A, 3, none⟩ (.slice none 0 0)).ownsRow base e sz x n xs := fun hx => own_keep hx fun j hj => hk j (by have := own_in hx j hj; omega)
  have keepM : ∀ {x : Value} {n : Int}, Marked w base x n → Marked ((w.setCell ⟨A, 2, none⟩ (.slice none 0 0)).setCell ⟨A, 3, none⟩ (.slice none 0 0)) base x n := fun ⟨j, hj, hx⟩ => ⟨j, hj, keep hx⟩
  refine ⟨by rw [heap_set (heap_set h.hA _)]; rfl, hab, by have := h.hbs; simpa [World.setCell] using this, World.ownsRow_nil _ _ _ _, World.ownsRow_nil _ _ _ _, keep h.hB, rfl, rfl, fun i h1 => by simp at h1, fun i h1 => by simp at h1, by simp [ob, Value.ownBlock], by simp, by simp, fun b hb => ?_⟩
  obtain ⟨m0, m1, m2, m3, _⟩ := h.bk b hb
  exact ⟨keepM m0, keepM m1, keepM m2, keepM m3, by simp⟩
theorem Inv2.below {w' : World} (h : Inv2 w A base sv lv m wv ev bv Ws Ls Bs k) (hb : Below w.heap.size w w') : Inv2 w' A base sv lv m wv ev bv Ws Ls Bs k := by
  have keep : ∀ {x : Value} {e : TypeId} {sz n : Nat} {xs : List Value}, w.ownsRow base e sz x n xs → w'.ownsRow base e sz x n xs := fun hx => ownsRow_below hx hb
  have keepM : ∀ {x : Value} {n : Int}, Marked w base x n → Marked w' base x n := fun ⟨j, hj, hx⟩ => ⟨j, hj, keep hx⟩
  have hbs := h.hbs
  have hab := h.hAb
  refine ⟨by rw [hb.block A (by omega)]; exact h.hA, hab, by have := hb.size; omega, keep h.hW, keep h.hB, h.len1, fun i h1 h2 hi => keep (h.owW i h1 h2 hi), h.d2, fun b hb' => ?_⟩
  obtain ⟨m0, m1, m2, m3, hq⟩ := h.bk b hb'
  exact ⟨keepM m0, keepM m1, keepM m2, keepM m3, hq⟩
theorem Inv2.cells (h : Inv2 w A base sv lv m wv ev bv Ws Ls Bs k) : (w.cell? ⟨A, 0, none⟩ = some sv ∧ w.cell? ⟨A, 1, none⟩ = some (.int .i64 m) ∧ w.cell? ⟨A, 2, none⟩ = some wv ∧ w.cell? ⟨A, 3, none⟩ = some ev ∧ w.cell? ⟨A, 4, none⟩ = some bv ∧ w.cell? ⟨A, 5, none⟩ = some lv) ∧ ∀ j, w.frozen? ⟨A, j, none⟩ = false := by
  have hA := h.hA
  refine ⟨⟨?_, ?_, ?_, ?_, ?_, ?_⟩, fun j => by simp [World.frozen?, hA]⟩ <;> rw [cell_of_row w A _ _ _ _ hA] <;> rfl
end

end Go.Proofs.YtlggbcceoejkkaaGreat
