/- What the document and the program work out of a proof is one. -/
import Derived.Test.YtogmdaopfnmobaaP47
import Derived.Test.YtogmdaopfnmobaaP44
namespace Go.Proofs.Ytogmdaopfnmobaa
open Go.RowKit

/-- What is bad stays bad. -/
theorem wk_bad (f t : Nat) : ∀ (n a b : Nat) (ns : List Nd), b - a ≤ n → (wk a b f t ns true).2.2 = true := by
  intro n
  induction n with
  | zero => intro a b ns h; rw [wk_one _ _ _ _ _ _ (by omega)]
  | succ n ih =>
    intro a b ns h
    by_cases hs : isOut a b f t = true ∨ isIn a b f t = true ∨ b < a + 2
    · rw [wk_one _ _ _ _ _ _ hs]
    · have p := hf_pos (b - a)
      have q := hf_lt (b - a) (by omega)
      rw [wk_two _ _ _ _ _ _ hs]
      have e1 := ih a (a + hf (b - a)) ns (by omega)
      rw [e1, ih _ b _ (by omega)]
      rfl
theorem wk_cm (f t : Nat) : ∀ (n a b : Nat) (ns : List Nd), b - a ≤ n → b ≤ 64 → (∀ d ∈ ns, d.ok = true) → (wk a b f t ns false).2.2 = !(cm a b f t ns).ok ∧ ((cm a b f t ns).ok = true → (wk a b f t ns false).1 = cm a b f t ns) := by
  intro n
  induction n with
  | zero =>
    intro a b ns h hb hok
    have hs : isOut a b f t = true ∨ isIn a b f t = true ∨ b < a + 2 := .inr (.inr (by omega))
    rw [wk_one _ _ _ _ _ _ hs, cm_one ns hs]
    refine ⟨?_, fun _ => rfl⟩
    cases ns with
    | nil => rfl
    | cons d r => simp [hok d (by simp)]
  | succ n ih =>
    intro a b ns h hb hok
    by_cases hs : isOut a b f t = true ∨ isIn a b f t = true ∨ b < a + 2
    · rw [wk_one _ _ _ _ _ _ hs, cm_one ns hs]
      refine ⟨?_, fun _ => rfl⟩
      cases ns with
      | nil => rfl
      | cons d r => simp [hok d (by simp)]
    · have p := hf_pos (b - a)
      have q := hf_lt (b - a) (by omega)
      have hdo : ∀ d ∈ ns.drop (cov a (a + hf (b - a)) f t).length, d.ok = true := fun d hd => hok d (List.mem_of_mem_drop hd)
      obtain ⟨l1, l2⟩ := ih a (a + hf (b - a)) ns (by omega) (by omega) hok
      obtain ⟨r1, r2⟩ := ih (a + hf (b - a)) b (ns.drop (cov a (a + hf (b - a)) f t).length) (by omega) hb hdo
      have er := wk_rest f t n a (a + hf (b - a)) ns false (by omega)
      have nl := cm_nb f t n a (a + hf (b - a)) ns (by omega) hok
      have nr := cm_nb f t n (a + hf (b - a)) b _ (by omega) hdo
      have nab := nb_ab nl nr
      rw [wk_two _ _ _ _ _ _ hs, cm_two ns hs, er, l1]
      have hmono : ∀ {x y : Nd}, (ab (cm a (a + hf (b - a)) f t ns) (cm (a + hf (b - a)) b f t (ns.drop (cov a (a + hf (b - a)) f t).length))).ok = true → (cm a (a + hf (b - a)) f t ns).ok = true ∧ (cm (a + hf (b - a)) b f t (ns.drop (cov a (a + hf (b - a)) f t).length)).ok = true := fun {x y} h => by
        have h1 := (ok_nb nab).1 h
        rw [ab_c, ab_s] at h1
        unfold nb at nl nr
        exact ⟨(ok_nb (cm_nb f t n a (a + hf (b - a)) ns (by omega) hok)).2 (by omega), (ok_nb (cm_nb f t n (a + hf (b - a)) b _ (by omega) hdo)).2 (by omega)⟩
      cases hL : (cm a (a + hf (b - a)) f t ns).ok with
      | false =>
        have e2 := wk_bad f t n (a + hf (b - a)) b (ns.drop (cov a (a + hf (b - a)) f t).length) (by omega)
        have hno : (ab (cm a (a + hf (b - a)) f t ns) (cm (a + hf (b - a)) b f t (ns.drop (cov a (a + hf (b - a)) f t).length))).ok = false := by
          cases hc : (ab (cm a (a + hf (b - a)) f t ns) (cm (a + hf (b - a)) b f t (ns.drop (cov a (a + hf (b - a)) f t).length))).ok with
          | false => rfl
          | true => have := (hmono (x := .E) (y := .E) hc).1; rw [hL] at this; cases this
        simp only [Bool.not_false, e2, if_true, hno]
        exact ⟨trivial, fun h => by cases h⟩
      | true =>
        simp only [Bool.not_true, r1]
        cases hR : (cm (a + hf (b - a)) b f t (ns.drop (cov a (a + hf (b - a)) f t).length)).ok with
        | false =>
          have hno : (ab (cm a (a + hf (b - a)) f t ns) (cm (a + hf (b - a)) b f t (ns.drop (cov a (a + hf (b - a)) f t).length))).ok = false := by
            cases hc : (ab (cm a (a + hf (b - a)) f t ns) (cm (a + hf (b - a)) b f t (ns.drop (cov a (a + hf (b - a)) f t).length))).ok with
            | false => rfl
            | true => have := (hmono (x := .E) (y := .E) hc).2; rw [hR] at this; cases this
          simp only [Bool.not_false, if_true, hno]
          exact ⟨trivial, fun h => by cases h⟩
        | true =>
          simp only [Bool.not_true, Bool.false_eq_true, if_false]
          rw [l2 hL, r2 hR]
          exact ⟨rfl, fun _ => rfl⟩

theorem fld_take (l : List Sp) (ns : List Nd) (hl : ns.length = l.length) (k : Nat) (hk : k ≤ l.length) : fld l ns k = fz ((l.zip ns).take k) := by
  induction k with
  | zero => rfl
  | succ k ih =>
    have h1 : k < l.length := by omega
    have h2 : k < ns.length := by omega
    have e : (l.zip ns).take (k + 1) = (l.zip ns).take k ++ [(l[k], ns[k])] := by
      rw [List.take_succ_eq_append_getElem (by simp; omega)]; simp
    have i := ih (by omega)
    unfold fz at i ⊢
    rw [e, List.foldl_append, ← i]
    simp [fld, h1, h2]
theorem fld_fz (l : List Sp) (ns : List Nd) (hl : ns.length = l.length) : fld l ns l.length = fz (l.zip ns) := by
  rw [fld_take l ns hl _ (Nat.le_refl _), List.take_of_length_le (by simp; omega)]
/-- What Check tells is what Claims does. -/
theorem ckE_clE (n f t : Nat) (h0 h1 : Int) (claim : Fo) (o : Option (List Nd)) (hn : n ≤ 64) (hok : ∀ ns, o = some ns → ∀ d ∈ ns, d.ok = true) : clE n f t h0 h1 claim o = ckE n f t h0 h1 claim o := by
  cases o with
  | none => rfl
  | some ns =>
    simp only [clE, ckE]
    by_cases hl : ns.length = (cov 0 n f t).length
    · have hl' : ¬ (ns.length ≠ (cov 0 n f t).length) := fun c => c hl
      rw [if_neg hl', if_neg hl', fld_fz _ _ hl]
      obtain ⟨h1, h2⟩ := wk_cm f t n 0 n ns (by omega) hn (hok ns rfl)
      rw [h1]
      cases hc : (cm 0 n f t ns).ok with
      | false => rfl
      | true => rw [h2 hc]; simp
    · rw [if_pos hl, if_pos hl]

end Go.Proofs.Ytogmdaopfnmobaa

