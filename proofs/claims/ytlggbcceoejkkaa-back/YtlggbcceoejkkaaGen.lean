/- What is said of rows of nodes, for all laws. -/
import Derived.Test.YtlggbcceoejkkaaWalk8
import Derived.Lib.SliceRun
namespace Go.Proofs.Ytlggbcceoejkkaa
open Go.RowKit

/-- A row of the call's own reads as its nodes. -/
theorem Nodes.own {w : World} {base : Nat} {v : Value} {l : List Nd} (h : w.ownsRow base 33 6 v l.length (l.flatMap Nd.cells)) (hl : l.length ≤ 1000) : Nodes w w.heap.size v l := by
  constructor
  have hfl : ∀ (l : List Nd) (i j : Nat) (hi : i < l.length) (hj : j < 6), (l.flatMap Nd.cells)[i * 6 + j]? = some ((l[i]).cells[j]'(by simp [Nd.cells]; omega)) := by
    intro l
    induction l with
    | nil => intro i j hi; simp at hi
    | cons d r ih =>
      intro i j hi hj
      have hd : d.cells.length = 6 := rfl
      cases i with
      | zero =>
        simp only [List.flatMap_cons, Nat.zero_mul, Nat.zero_add, List.getElem_cons_zero]
        rw [List.getElem?_append_left (by omega), List.getElem?_eq_getElem]
      | succ i =>
        simp only [List.flatMap_cons, List.getElem_cons_succ]
        rw [List.getElem?_append_right (by omega), hd, show (i + 1) * 6 + j - 6 = i * 6 + j from by omega]
        exact ih i j (by simpa using hi) hj
  rcases h.2 with ⟨rfl, h0⟩ | ⟨g, cap, cur, rfl, _, hg, _, _, _, ht⟩
  · exact ⟨none, 0, by rw [h0], by omega, fun i hi => by omega⟩
  · refine ⟨_, cap, rfl, by omega, fun i hi => ⟨g, 0, rfl, (Array.getElem?_eq_some_iff.1 hg).1, fun j hj => ?_⟩⟩
    have := h.cells (g := g) rfl (i * 6 + j) _ (hfl l i j hi hj)
    rw [← this]
    unfold Addr.add
    split
    · simp_all
    · simp

theorem Nodes.below {w w' : World} {B : Nat} {v : Value} {l : List Nd} (h : Nodes w B v l) (hb : Below B w w') : Nodes w' B v l := by
  obtain ⟨ao, cap, hv, hm, hc⟩ := h.ex
  refine ⟨ao, cap, hv, hm, fun i hi => ?_⟩
  obtain ⟨b, off, ha, hB, hcs⟩ := hc i hi
  exact ⟨b, off, ha, hB, fun j hj => (hb.cell (p := ⟨b, off + i * 6 + j, none⟩) hB).trans (hcs j hj)⟩
theorem Nodes.mono {w : World} {B B' : Nat} {v : Value} {l : List Nd} (h : Nodes w B v l) (hb : B ≤ B') : Nodes w B' v l := by
  obtain ⟨ao, cap, hv, hm, hc⟩ := h.ex
  refine ⟨ao, cap, hv, hm, fun i hi => ?_⟩
  obtain ⟨b, off, ha, hB, hcs⟩ := hc i hi
  exact ⟨b, off, ha, by omega, hcs⟩

theorem lawful_no (c s m x v : Int) (hv : v ∈ [c, s, m, x]) (h : v < 0 ∨ 34359738367 < v) : (isNum c && isNum s && isNum m && isNum x) = false := by
  have hf : isNum v = false := by
    cases e : isNum v
    · rfl
    · rw [isNum_iff] at e; omega
  simp only [List.mem_cons, List.not_mem_nil, or_false] at hv
  rcases hv with rfl | rfl | rfl | rfl <;> simp [hf]
theorem lawful_next (l : List Int) (k : Nat) (v : Int) (hk : l[k]? = some v) (ha : ∀ u ∈ l.take k, isNum u = true) (h0 : 0 ≤ v) (h1 : v ≤ 34359738367) : ∀ u ∈ l.take (k + 1), isNum u = true := by
  rw [List.take_add_one, hk]
  intro u hu
  rw [List.mem_append] at hu
  rcases hu with hu | hu
  · exact ha u hu
  · simp at hu; subst hu; rw [isNum_iff]; exact ⟨h0, h1⟩

theorem eqNd (d e : Nd) : eqN d.c d.s d.m d.x d.h.toNat d.g.toNat e.c e.s e.m e.x e.h.toNat e.g.toNat = true ↔ d = e := by
  rw [eqN_true]
  cases d; cases e
  simp only [Nd.mk.injEq, ← UInt8.toNat_inj]
  omega


def goodAt (l : List Nd) (k : Nat) : Bool := (l.take k).all Nd.ok
theorem goodAt_zero (l : List Nd) : goodAt l 0 = true := by simp [goodAt]
theorem goodAt_next (l : List Nd) (k : Nat) (h : k < l.length) : goodAt l (k + 1) = (goodAt l k && (l[k]).ok) := by
  unfold goodAt
  rw [take_snoc' l k h, List.all_append]
  simp
theorem goodAt_all (l : List Nd) : goodAt l l.length = l.all Nd.ok := by simp [goodAt]

theorem str_size (l : List UInt8) : (⟨l.toArray⟩ : ByteArray).size = l.length := by
  show l.toArray.size = _
  simp
theorem all_bad (l : List Nd) (h : l.all Nd.ok = false) : ∃ (j : Nat) (hj : j < l.length), (l[j]).ok = false := by
  rw [List.all_eq_false] at h
  obtain ⟨d, hd, hb⟩ := h
  obtain ⟨j, hj, e⟩ := List.getElem_of_mem hd
  exact ⟨j, hj, by rw [e]; simpa using hb⟩

end Go.Proofs.Ytlggbcceoejkkaa
