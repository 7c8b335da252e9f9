/- What the law's own world holds: the lists that wait, what they were, the books. -/
import Derived.Test.YtlggbcceoejkkaaGreatLent
namespace Go.Proofs.YtlggbcceoejkkaaGreat
open Go.RowKit

/-- The block that a slice has for its own. -/
def ob (v : Value) : List Nat := match v.ownBlock with | some k => [k] | none => []
theorem mem_ob {v : Value} {k : Nat} : k ∈ ob v ↔ v.ownBlock = some k := by
  unfold ob
  cases h : v.ownBlock <;> simp [eq_comm]

/-- A book of the law's. -/
structure Bk where
  m : Int
  x0 : Value
  x1 : Value
  x2 : Value
  x3 : Value
def Bk.cells (b : Bk) : List Value := (Mk b.m).cells ++ [b.x0, b.x1, b.x2, b.x3]
def Bk.blocks (b : Bk) : List Nat := ob b.x0 ++ ob b.x1 ++ ob b.x2 ++ ob b.x3

def Marked (w : World) (base : Nat) (v : Value) (m : Int) : Prop := ∃ n, n ≤ 4000000 ∧ w.ownsRow base 46 6 v n ((List.replicate n (Mk m)).flatMap Nd.cells)

/-- What has turned: nothing outside these blocks. -/
structure Kept (w w' : World) (fp : List Nat) : Prop where
  os : w'.os = w.os
  tape : w'.tape = w.tape
  output : w'.output = w.output
  size : w.heap.size ≤ w'.heap.size
  block : ∀ k, k < w.heap.size → k ∉ fp → w'.heap[k]? = w.heap[k]?

theorem Kept.refl (w : World) (fp : List Nat) : Kept w w fp := ⟨rfl, rfl, rfl, Nat.le_refl _, fun _ _ _ => rfl⟩
theorem Kept.trans {w w1 w2 : World} {fp fp' : List Nat} (h : Kept w w1 fp) (k : Kept w1 w2 fp') (hf : ∀ x ∈ fp', x ∈ fp ∨ w.heap.size ≤ x) : Kept w w2 fp :=
  ⟨k.os.trans h.os, k.tape.trans h.tape, k.output.trans h.output, Nat.le_trans h.size k.size, fun i hi hn => (k.block i (Nat.lt_of_lt_of_le hi h.size) (fun c => by rcases hf i c with h1 | h1; exact hn h1; omega)).trans (h.block i hi hn)⟩
theorem Kept.of_below {w w' : World} (h : Below w.heap.size w w') (fp : List Nat) : Kept w w' fp := ⟨h.os, h.tape, h.output, h.size, fun k hk _ => h.block k hk⟩
theorem Kept.of_grown {w w' : World} {row : Option Nat} {fp : List Nat} (h : w.grownBy w' row) (hr : ∀ k, row = some k → k ∈ fp) : Kept w w' fp :=
  ⟨h.os, h.tape, h.output, h.size, fun k hk hn => h.block k hk (fun c => hn (hr k c.symm))⟩
theorem Kept.setCell {w w' : World} {fp : List Nat} (h : Kept w w' fp) {p : Addr} (hp : p.block ∈ fp ∨ w.heap.size ≤ p.block) (u : Value) : Kept w (w'.setCell p u) fp :=
  ⟨h.os, h.tape, h.output, by have := h.size; simpa [World.setCell] using this, fun k hk hn => (Below.heap_setCell _ _ _ _ (fun c => by subst c; rcases hp with h1 | h1; exact hn h1; omega)).trans (h.block k hk hn)⟩
theorem Kept.alloc {w w' : World} {fp : List Nat} (h : Kept w w' fp) (o : Obj) : Kept w (w'.alloc o) fp :=
  ⟨h.os, h.tape, h.output, by have := h.size; simp; omega, fun k hk hn => (Below.heap_alloc _ _ _ (by have := h.size; omega)).trans (h.block k hk hn)⟩
theorem Kept.drew {w w' : World} {fp : List Nat} (h : Kept w w' fp) : Kept w w'.drew fp := ⟨h.os, h.tape, h.output, h.size, h.block⟩
theorem Kept.below {w w' : World} {fp : List Nat} {B : Nat} (h : Kept w w' fp) (hB : B ≤ w.heap.size) (hf : ∀ k ∈ fp, B ≤ k) : Below B w w' :=
  ⟨h.os, h.tape, h.output, h.size, fun k hk => h.block k (by omega) (fun c => by have := hf k c; omega)⟩

/-- An own row stays where its block stays. -/
theorem own_keep {w w' : World} {base : Nat} {e : TypeId} {sz n : Nat} {v : Value} {xs : List Value} (h : w.ownsRow base e sz v n xs) (hb : ∀ k ∈ ob v, w'.heap[k]? = w.heap[k]?) : w'.ownsRow base e sz v n xs := by
  refine ⟨h.1, ?_⟩
  rcases h.2 with hn | ⟨g, cap, cur, rfl, hg, hgg, rest⟩
  · exact .inl hn
  · exact .inr ⟨g, cap, cur, rfl, hg, by rw [hb g (by simp [ob, Value.ownBlock])]; exact hgg, rest⟩
theorem own_in {w : World} {base : Nat} {e : TypeId} {sz n : Nat} {v : Value} {xs : List Value} (h : w.ownsRow base e sz v n xs) : ∀ k ∈ ob v, base ≤ k ∧ k < w.heap.size := fun k hk => h.lt k (mem_ob.1 hk)
/-- Rows of different element types lie in different blocks. -/
theorem own_apart {w : World} {base base' : Nat} {e e' : TypeId} {sz sz' n n' : Nat} {v v' : Value} {xs xs' : List Value} (h : w.ownsRow base e sz v n xs) (h' : w.ownsRow base' e' sz' v' n' xs') (hne : e ≠ e') : ∀ k ∈ ob v, k ∉ ob v' := by
  intro k hk hk'
  rw [mem_ob] at hk hk'
  rcases h.2 with ⟨rfl, _⟩ | ⟨g, _, _, rfl, _, hg, _⟩
  · simp [Value.ownBlock] at hk
  · rcases h'.2 with ⟨rfl, _⟩ | ⟨g', _, _, rfl, _, hg', _⟩
    · simp [Value.ownBlock] at hk'
    · simp only [Value.ownBlock, Option.some.injEq] at hk hk'
      subst hk; subst hk'
      rw [hg] at hg'
      simp only [Option.some.injEq, Obj.cells.injEq] at hg'
      exact hne hg'.2.1

/-- The law's world: its own block A, the rows from base on. -/
structure Inv (w : World) (A base : Nat) (sv lv : Value) (m : Nat) (wv ev bv : Value) (Ws Es : List Value) (Ls : List (List Nd)) (Bs : List Bk) : Prop where
  hA : w.heap[A]? = some (.cells #[sv, .int .i64 m, wv, ev, bv, lv] 31 (0, 0))
  hAb : A < base
  hbs : base ≤ w.heap.size
  hW : w.ownsRow base 39 1 wv Ws.length Ws
  hE : w.ownsRow base 39 1 ev Es.length Es
  hB : w.ownsRow base 56 10 bv Bs.length (Bs.flatMap Bk.cells)
  len1 : Ws.length = Ls.length
  len2 : Es.length = Ls.length
  owW : ∀ (i : Nat) (h1 : i < Ws.length) (h2 : i < Ls.length), w.ownsRow base 46 6 Ws[i] (Ls[i]).length ((Ls[i]).flatMap Nd.cells)
  owE : ∀ (i : Nat) (h1 : i < Es.length) (h2 : i < Ls.length), w.ownsRow base 46 6 Es[i] (Ls[i]).length ((Ls[i]).flatMap Nd.cells)
  d1 : ∀ k ∈ ob wv, k ∉ ob ev
  d2 : (Ws.flatMap ob).Nodup
  d3 : ∀ k ∈ Ws.flatMap ob, k ∉ Es.flatMap ob
  bk : ∀ b ∈ Bs, Marked w base b.x0 b.m ∧ Marked w base b.x1 b.m ∧ Marked w base b.x2 b.m ∧ Marked w base b.x3 b.m ∧ ∀ k ∈ b.blocks, k ∉ Ws.flatMap ob

def fpOf (A : Nat) (wv ev bv : Value) (Ws Es : List Value) (Bs : List Bk) : List Nat := A :: (ob wv ++ ob ev ++ ob bv ++ Ws.flatMap ob ++ Es.flatMap ob ++ Bs.flatMap Bk.blocks)

section
variable {w : World} {A base : Nat} {sv lv : Value} {m : Nat} {wv ev bv : Value} {Ws Es : List Value} {Ls : List (List Nd)} {Bs : List Bk}

theorem marked_in {v : Value} {k : Nat} {n : Int} (h : Marked w base v n) (hk : k ∈ ob v) : base ≤ k ∧ k < w.heap.size := by
  obtain ⟨_, _, h⟩ := h
  exact own_in h k hk
theorem Inv.fp (h : Inv w A base sv lv m wv ev bv Ws Es Ls Bs) : ∀ k ∈ fpOf A wv ev bv Ws Es Bs, (k = A ∨ base ≤ k) ∧ k < w.heap.size := by
  intro k hk
  unfold fpOf at hk
  simp only [List.mem_cons, List.mem_append, List.mem_flatMap] at hk
  have hs := h.hbs
  have hab := h.hAb
  rcases hk with rfl | (((((h1 | h1) | h1) | ⟨v, hv, h1⟩) | ⟨v, hv, h1⟩) | ⟨b, hb, h1⟩)
  · exact ⟨.inl rfl, by omega⟩
  · have := own_in h.hW k h1; exact ⟨.inr this.1, this.2⟩
  · have := own_in h.hE k h1; exact ⟨.inr this.1, this.2⟩
  · have := own_in h.hB k h1; exact ⟨.inr this.1, this.2⟩
  · obtain ⟨i, hi, rfl⟩ := List.getElem_of_mem hv
    have := own_in (h.owW i hi (by rw [← h.len1]; exact hi)) k h1
    exact ⟨.inr this.1, this.2⟩
  · obtain ⟨i, hi, rfl⟩ := List.getElem_of_mem hv
    have := own_in (h.owE i hi (by rw [← h.len2]; exact hi)) k h1
    exact ⟨.inr this.1, this.2⟩
  · obtain ⟨m0, m1, m2, m3, _⟩ := h.bk b hb
    unfold Bk.blocks at h1
    simp only [List.mem_append] at h1
    rcases h1 with ((h1 | h1) | h1) | h1
    · have := marked_in m0 h1; exact ⟨.inr this.1, this.2⟩
    · have := marked_in m1 h1; exact ⟨.inr this.1, this.2⟩
    · have := marked_in m2 h1; exact ⟨.inr this.1, this.2⟩
    · have := marked_in m3 h1; exact ⟨.inr this.1, this.2⟩

theorem marked_keep {w' : World} {v : Value} {n : Int} (h : Marked w base v n) (hb : ∀ k ∈ ob v, w'.heap[k]? = w.heap[k]?) : Marked w' base v n := by
  obtain ⟨j, hj, h⟩ := h
  exact ⟨j, hj, own_keep h hb⟩

/-- It stays where its blocks stay. -/
theorem Inv.frame {w' : World} (h : Inv w A base sv lv m wv ev bv Ws Es Ls Bs) (hs : w.heap.size ≤ w'.heap.size) (hf : ∀ k ∈ fpOf A wv ev bv Ws Es Bs, w'.heap[k]? = w.heap[k]?) : Inv w' A base sv lv m wv ev bv Ws Es Ls Bs := by
  have hb := h.hbs
  have inW : ∀ v ∈ Ws, ∀ k ∈ ob v, w'.heap[k]? = w.heap[k]? := fun v hv k hk => hf k (by unfold fpOf; simp only [List.mem_cons, List.mem_append, List.mem_flatMap]; exact .inr (.inl (.inl (.inr ⟨v, hv, hk⟩))))
  have inE : ∀ v ∈ Es, ∀ k ∈ ob v, w'.heap[k]? = w.heap[k]? := fun v hv k hk => hf k (by unfold fpOf; simp only [List.mem_cons, List.mem_append, List.mem_flatMap]; exact .inr (.inl (.inr ⟨v, hv, hk⟩)))
  have inB : ∀ b ∈ Bs, ∀ k ∈ b.blocks, w'.heap[k]? = w.heap[k]? := fun b hb k hk => hf k (by unfold fpOf; simp only [List.mem_cons, List.mem_append, List.mem_flatMap]; exact .inr (.inr ⟨b, hb, hk⟩))
  refine ⟨by rw [hf A (by simp [fpOf])]; exact h.hA, h.hAb, by omega, own_keep h.hW fun k hk => hf k (by simp [fpOf, hk]), own_keep h.hE fun k hk => hf k (by simp [fpOf, hk]), own_keep h.hB fun k hk => hf k (by simp [fpOf, hk]), h.len1, h.len2,
    fun i h1 h2 => own_keep (h.owW i h1 h2) (inW _ (List.getElem_mem h1)), fun i h1 h2 => own_keep (h.owE i h1 h2) (inE _ (List.getElem_mem h1)), h.d1, h.d2, h.d3, fun b hb => ?_⟩
  obtain ⟨m0, m1, m2, m3, hk⟩ := h.bk b hb
  have i := inB b hb
  unfold Bk.blocks at i
  exact ⟨marked_keep m0 fun k hk => i k (by simp [hk]), marked_keep m1 fun k hk => i k (by simp [hk]), marked_keep m2 fun k hk => i k (by simp [hk]), marked_keep m3 fun k hk => i k (by simp [hk]), hk⟩
theorem Inv.below {w' : World} (h : Inv w A base sv lv m wv ev bv Ws Es Ls Bs) (hb : Below w.heap.size w w') : Inv w' A base sv lv m wv ev bv Ws Es Ls Bs :=
  h.frame hb.size fun k hk => hb.block k (h.fp k hk).2
/-- The six cells of the world's own block. -/
theorem Inv.cells (h : Inv w A base sv lv m wv ev bv Ws Es Ls Bs) : (w.cell? ⟨A, 0, none⟩ = some sv ∧ w.cell? ⟨A, 1, none⟩ = some (.int .i64 m) ∧ w.cell? ⟨A, 2, none⟩ = some wv ∧ w.cell? ⟨A, 3, none⟩ = some ev ∧ w.cell? ⟨A, 4, none⟩ = some bv ∧ w.cell? ⟨A, 5, none⟩ = some lv) ∧ ∀ j, w.frozen? ⟨A, j, none⟩ = false := by
  have hA := h.hA
  refine ⟨⟨?_, ?_, ?_, ?_, ?_, ?_⟩, fun j => by simp [World.frozen?, hA]⟩ <;> rw [cell_of_row w A _ _ _ _ hA] <;> rfl
/-- One book more. -/
theorem Inv.book {w3 : World} {bv3 : Value} {b : Bk} (h : Inv w A base sv lv m wv ev bv Ws Es Ls Bs) (hg : Grew w bv w3 bv3) (ho : w3.ownsRow base 56 10 bv3 (Bs.length + 1) (Bs.flatMap Bk.cells ++ b.cells))
    (hb : Marked w base b.x0 b.m ∧ Marked w base b.x1 b.m ∧ Marked w base b.x2 b.m ∧ Marked w base b.x3 b.m ∧ ∀ k ∈ b.blocks, k ∉ Ws.flatMap ob) :
    Inv (w3.setCell ⟨A, 4, none⟩ bv3) A base sv lv m wv ev bv3 Ws Es Ls (Bs ++ [b]) := by
  have hab := h.hAb
  have hbs := h.hbs
  have hAne : some A ≠ bv.ownBlock := fun c => by have := own_in h.hB A (mem_ob.2 c.symm); omega
  have hA3 : w3.heap[A]? = w.heap[A]? := hg.grown.block A (by omega) hAne
  have old : ∀ k, k < w.heap.size → k ∉ ob bv → base ≤ k → (w3.setCell ⟨A, 4, none⟩ bv3).heap[k]? = w.heap[k]? := fun k hk hn hbk =>
    (Below.heap_setCell _ _ _ _ (by show k ≠ A; omega)).trans (hg.grown.block k hk (fun c => hn (mem_ob.2 c.symm)))
  have keep : ∀ {x : Value} {e : TypeId} {sz n : Nat} {xs : List Value}, w.ownsRow base e sz x n xs → e ≠ 56 → (w3.setCell ⟨A, 4, none⟩ bv3).ownsRow base e sz x n xs := fun hx hne =>
    own_keep hx fun k hk => old k (own_in hx k hk).2 (own_apart hx h.hB hne k hk) (own_in hx k hk).1
  have keepM : ∀ {x : Value} {n : Int}, Marked w base x n → Marked (w3.setCell ⟨A, 4, none⟩ bv3) base x n := fun ⟨j, hj, hx⟩ => ⟨j, hj, keep hx (by decide)⟩
  refine ⟨?_, hab, ?_, keep h.hW (by decide), keep h.hE (by decide), ?_, h.len1, h.len2, fun i h1 h2 => keep (h.owW i h1 h2) (by decide), fun i h1 h2 => keep (h.owE i h1 h2) (by decide), h.d1, h.d2, h.d3, ?_⟩
  · rw [heap_set (hA3.trans h.hA)]; rfl
  · have := hg.grown.size; simp [World.setCell]; omega
  · have e : (Bs ++ [b]).length = Bs.length + 1 := by simp
    have e2 : (Bs ++ [b]).flatMap Bk.cells = Bs.flatMap Bk.cells ++ b.cells := by simp
    rw [e, e2]
    exact own_keep ho fun k hk => Below.heap_setCell _ _ _ _ (by have := own_in ho k hk; show k ≠ A; omega)
  · intro x hx
    rw [List.mem_append] at hx
    rcases hx with hx | hx
    · obtain ⟨m0, m1, m2, m3, hq⟩ := h.bk x hx
      exact ⟨keepM m0, keepM m1, keepM m2, keepM m3, hq⟩
    · simp only [List.mem_cons, List.not_mem_nil, or_false] at hx
      subst hx
      obtain ⟨m0, m1, m2, m3, hq⟩ := hb
      exact ⟨keepM m0, keepM m1, keepM m2, keepM m3, hq⟩
theorem ob_nodup (v : Value) : (ob v).Nodup := by
  unfold ob
  cases v.ownBlock <;> simp
theorem mem_fp_W {v : Value} {k : Nat} (hv : v ∈ Ws) (hk : k ∈ ob v) : k ∈ fpOf A wv ev bv Ws Es Bs := by
  unfold fpOf; simp only [List.mem_cons, List.mem_append, List.mem_flatMap]; exact .inr (.inl (.inl (.inr ⟨v, hv, hk⟩)))
theorem mem_fp_E {v : Value} {k : Nat} (hv : v ∈ Es) (hk : k ∈ ob v) : k ∈ fpOf A wv ev bv Ws Es Bs := by
  unfold fpOf; simp only [List.mem_cons, List.mem_append, List.mem_flatMap]; exact .inr (.inl (.inr ⟨v, hv, hk⟩))
theorem mem_fp_B {b : Bk} {k : Nat} (hb : b ∈ Bs) (hk : k ∈ b.blocks) : k ∈ fpOf A wv ev bv Ws Es Bs := by
  unfold fpOf; simp only [List.mem_cons, List.mem_append, List.mem_flatMap]; exact .inr (.inr ⟨b, hb, hk⟩)

/-- A list more that waits. -/
theorem Inv.keep {w' : World} (h : Inv w A base sv lv m wv ev bv Ws Es Ls Bs) (v u wv' ev' : Value) (l : List Nd)
    (hA' : w'.heap[A]? = some (.cells #[sv, .int .i64 m, wv', ev', bv, lv] 31 (0, 0))) (hs : w.heap.size ≤ w'.heap.size)
    (hk : ∀ k, k < w.heap.size → k ≠ A → k ∉ ob wv → k ∉ ob ev → w'.heap[k]? = w.heap[k]?)
    (hW' : w'.ownsRow base 39 1 wv' (Ws.length + 1) (Ws ++ [v])) (hE' : w'.ownsRow base 39 1 ev' (Es.length + 1) (Es ++ [u]))
    (hv : w'.ownsRow base 46 6 v l.length (l.flatMap Nd.cells)) (hu : w'.ownsRow base 46 6 u l.length (l.flatMap Nd.cells))
    (hdis : ∀ k ∈ ob wv', k ∉ ob ev') (hvf : ∀ k ∈ ob v, k ∉ fpOf A wv ev bv Ws Es Bs) (huf : ∀ k ∈ ob u, w.heap.size ≤ k) (hvl : ∀ k ∈ ob v, k < w.heap.size) :
    Inv w' A base sv lv m wv' ev' bv (Ws ++ [v]) (Es ++ [u]) (Ls ++ [l]) Bs := by
  have hab := h.hAb
  have hbs := h.hbs
  have keep : ∀ {x : Value} {e : TypeId} {sz n : Nat} {xs : List Value}, w.ownsRow base e sz x n xs → e ≠ 39 → w'.ownsRow base e sz x n xs := fun hx hne =>
    own_keep hx fun k hk' => hk k (own_in hx k hk').2 (by have := own_in hx k hk'; omega) (own_apart hx h.hW hne k hk') (own_apart hx h.hE hne k hk')
  have keepM : ∀ {x : Value} {n : Int}, Marked w base x n → Marked w' base x n := fun ⟨j, hj, hx⟩ => ⟨j, hj, keep hx (by decide)⟩
  have inW : ∀ k ∈ Ws.flatMap ob, k ∈ fpOf A wv ev bv Ws Es Bs := fun k hk' => by obtain ⟨x, hx, hk'⟩ := List.mem_flatMap.1 hk'; exact mem_fp_W hx hk'
  have inE : ∀ k ∈ Es.flatMap ob, k ∈ fpOf A wv ev bv Ws Es Bs := fun k hk' => by obtain ⟨x, hx, hk'⟩ := List.mem_flatMap.1 hk'; exact mem_fp_E hx hk'
  refine ⟨hA', hab, by omega, by simpa using hW', by simpa using hE', keep h.hB (by decide), by simp [h.len1], by simp [h.len2], ?_, ?_, hdis, ?_, ?_, ?_⟩
  · intro i h1 h2
    by_cases hi : i < Ws.length
    · have hi2 : i < Ls.length := by rw [← h.len1]; exact hi
      have := keep (h.owW i hi hi2) (by decide)
      simpa [List.getElem_append_left hi, List.getElem_append_left hi2] using this
    · have hi1 : i = Ws.length := by simp at h1; omega
      subst hi1
      have e1 : (Ws ++ [v])[Ws.length] = v := by simp
      have e2 : (Ls ++ [l])[Ws.length] = l := by simp [h.len1]
      rw [e1, e2]; exact hv
  · intro i h1 h2
    by_cases hi : i < Es.length
    · have hi2 : i < Ls.length := by rw [← h.len2]; exact hi
      have := keep (h.owE i hi hi2) (by decide)
      simpa [List.getElem_append_left hi, List.getElem_append_left hi2] using this
    · have hi1 : i = Es.length := by simp at h1; omega
      subst hi1
      have e1 : (Es ++ [u])[Es.length] = u := by simp
      have e2 : (Ls ++ [l])[Es.length] = l := by simp [h.len2]
      rw [e1, e2]; exact hu
  · simp only [List.flatMap_append, List.flatMap_cons, List.flatMap_nil, List.append_nil]
    rw [List.nodup_append]
    exact ⟨h.d2, ob_nodup v, fun a ha b hb e => hvf b hb (by rw [← e]; exact inW a ha)⟩
  · intro k hk1 hk2
    simp only [List.flatMap_append, List.flatMap_cons, List.flatMap_nil, List.append_nil, List.mem_append] at hk1 hk2
    rcases hk1 with hk1 | hk1
    · rcases hk2 with hk2 | hk2
      · exact h.d3 k hk1 hk2
      · have := (h.fp k (inW k hk1)).2; have := huf k hk2; omega
    · rcases hk2 with hk2 | hk2
      · exact hvf k hk1 (inE k hk2)
      · have := hvl k hk1; have := huf k hk2; omega
  · intro b hb
    obtain ⟨m0, m1, m2, m3, hq⟩ := h.bk b hb
    refine ⟨keepM m0, keepM m1, keepM m2, keepM m3, fun k hk1 hk2 => ?_⟩
    simp only [List.flatMap_append, List.flatMap_cons, List.flatMap_nil, List.append_nil, List.mem_append] at hk2
    rcases hk2 with hk2 | hk2
    · exact hq k hk1 hk2
    · exact hvf k hk2 (mem_fp_B hb hk1)
end

end Go.Proofs.YtlggbcceoejkkaaGreat
