/- What a proof's nodes come to for the older log that begins the newer. -/
import Derived.Test.YtogmdaopfnmobaaGreatP40
import Derived.Test.YtogmdaopfnmobaaGreatP11
import Derived.Test.YtogmdaopfnmobaaGreatP28
namespace Go.Proofs.YtogmdaopfnmobaaGreat
open Go.RowKit

/-- The nodes whose parts lie in the range, put together from the right; is it still the first? -/
def bgz : List (Sp × Nd) → Nd × Bool
  | [] => (.E, true)
  | q :: l => if q.1.i then (if (bgz l).2 then (q.2, false) else (ab q.2 (bgz l).1, false)) else bgz l
def tc (l : List (Sp × Nd)) : Int := (l.map (·.2.c)).sum
def ts (l : List (Sp × Nd)) : Int := (l.map (·.2.s)).sum
theorem nb_up {n m : Nat} {d : Nd} (h : nb n d) (hm : n ≤ m) : nb m d := by unfold nb at *; omega
theorem bgz_nb : ∀ (l : List (Sp × Nd)), (∀ q ∈ l, q.2.ok = true) → nb l.length (bgz l).1 ∧ (bgz l).1.c ≤ tc l ∧ (bgz l).1.s ≤ ts l ∧ 0 ≤ tc l ∧ 0 ≤ ts l
  | [], _ => by
    refine ⟨?_, ?_, ?_, ?_, ?_⟩ <;> simp [nb, bgz, Nd.E, tc, ts]
  | q :: l, h => by
    obtain ⟨i1, i2, i3, i4, i5⟩ := bgz_nb l (fun x hx => h x (by simp [hx]))
    have hq := nb_ok (h q (by simp))
    have ec : tc (q :: l) = q.2.c + tc l := by simp [tc]
    have es : ts (q :: l) = q.2.s + ts l := by simp [ts]
    have hq' := hq
    unfold nb at hq'
    rw [ec, es]
    simp only [bgz, List.length_cons]
    cases q.1.i with
    | false => simp only [Bool.false_eq_true, if_false]; exact ⟨nb_up i1 (by omega), by omega, by omega, by omega, by omega⟩
    | true =>
      cases (bgz l).2 with
      | true => simp only [if_true]; exact ⟨nb_up hq (by omega), by omega, by omega, by omega, by omega⟩
      | false =>
        simp only [if_true, Bool.false_eq_true, if_false]
        refine ⟨by rw [Nat.add_comm]; exact nb_ab hq i1, ?_, ?_, by omega, by omega⟩
        · rw [ab_c]; omega
        · rw [ab_s]; omega
theorem tc_drop (l : List (Sp × Nd)) (h : ∀ q ∈ l, q.2.ok = true) (j : Nat) : tc (l.drop j) ≤ tc l ∧ ts (l.drop j) ≤ ts l := by
  induction l generalizing j with
  | nil => simp
  | cons q l ih =>
    cases j with
    | zero => simp
    | succ j =>
      have := ih (fun x hx => h x (by simp [hx])) j
      have hq := nb_ok (h q (by simp))
      unfold nb at hq
      have ec : tc (q :: l) = q.2.c + tc l := by simp [tc]
      have es : ts (q :: l) = q.2.s + ts l := by simp [ts]
      rw [List.drop_succ_cons, ec, es]
      omega
theorem tc_app (l m : List (Sp × Nd)) : tc (l ++ m) = tc l + tc m ∧ ts (l ++ m) = ts l + ts m := by simp [tc, ts]
theorem zip_cov {a b f t : Nat} (ns : List Nd) (hs : ¬ (isOut a b f t = true ∨ isIn a b f t = true ∨ b < a + 2)) (hl : (cov a (a + hf (b - a)) f t).length ≤ ns.length) : (cov a b f t).zip ns = (cov a (a + hf (b - a)) f t).zip ns ++ (cov (a + hf (b - a)) b f t).zip (ns.drop (cov a (a + hf (b - a)) f t).length) := by
  have hzt : (cov a (a + hf (b - a)) f t).zip (ns.take (cov a (a + hf (b - a)) f t).length) = (cov a (a + hf (b - a)) f t).zip ns := by
    have := List.zip_append (l₁ := cov a (a + hf (b - a)) f t) (r₁ := []) (l₂ := ns.take (cov a (a + hf (b - a)) f t).length) (r₂ := ns.drop (cov a (a + hf (b - a)) f t).length) (by simp; omega)
    simp only [List.append_nil, List.take_append_drop, List.zip_nil_left] at this
    exact this.symm
  rw [← hzt, cov_2 hs]
  conv => lhs; rw [← List.take_append_drop (cov a (a + hf (b - a)) f t).length ns]
  rw [List.zip_append (by simp; omega)]
/-- The whole's count and sum are those of the nodes. -/
theorem cm_tc (f t : Nat) : ∀ (n a b : Nat) (ns : List Nd), b - a ≤ n → (cov a b f t).length ≤ ns.length → (cm a b f t ns).c = tc ((cov a b f t).zip ns) ∧ (cm a b f t ns).s = ts ((cov a b f t).zip ns) := by
  intro n
  induction n with
  | zero =>
    intro a b ns h hl
    rw [cm_one ns (.inr (.inr (by omega)))]
    rw [cov_1 (.inr (.inr (by omega)))] at hl ⊢
    cases ns with
    | nil => simp at hl
    | cons d r => simp [tc, ts]
  | succ n ih =>
    intro a b ns h hl
    by_cases hs : isOut a b f t = true ∨ isIn a b f t = true ∨ b < a + 2
    · rw [cm_one ns hs]
      rw [cov_1 hs] at hl ⊢
      cases ns with
      | nil => simp at hl
      | cons d r => simp [tc, ts]
    · have p := hf_pos (b - a)
      have q := hf_lt (b - a) (by omega)
      have hl' := hl
      rw [cov_2 hs, List.length_append] at hl'
      obtain ⟨l1, l2⟩ := ih a (a + hf (b - a)) ns (by omega) (by omega)
      obtain ⟨r1, r2⟩ := ih (a + hf (b - a)) b (ns.drop (cov a (a + hf (b - a)) f t).length) (by omega) (by simp; omega)
      obtain ⟨t1, t2⟩ := tc_app ((cov a (a + hf (b - a)) f t).zip ns) ((cov (a + hf (b - a)) b f t).zip (ns.drop (cov a (a + hf (b - a)) f t).length))
      rw [cm_two ns hs, zip_cov ns hs (by omega), ab_c, ab_s, l1, l2, r1, r2, t1, t2]
      exact ⟨rfl, rfl⟩
/-- Whatever is put together of a proof that may be, may be. -/
theorem bgz_ok {n f t : Nat} {ns : List Nd} (hl : ns.length = (cov 0 n f t).length) (hok : ∀ d ∈ ns, d.ok = true) (hc : (cm 0 n f t ns).ok = true) (j : Nat) : (bgz (((cov 0 n f t).zip ns).drop j)).1.ok = true := by
  have hz : ∀ q ∈ (cov 0 n f t).zip ns, q.2.ok = true := fun q hq => hok _ (List.of_mem_zip hq).2
  obtain ⟨b1, b2, b3, _, _⟩ := bgz_nb (((cov 0 n f t).zip ns).drop j) (fun q hq => hz q (List.mem_of_mem_drop hq))
  have d := tc_drop _ hz j
  obtain ⟨t1, t2⟩ := cm_tc f t n 0 n ns (by omega) (by omega)
  have o := (ok_nb (cm_nb f t n 0 n ns (by omega) hok)).1 hc
  exact (ok_nb b1).2 (by omega)

/-- What the nodes come to for the places from a on and ahead of o. -/
def bgn (a b o : Nat) (ns : List Nd) : Nd :=
  if b ≤ o ∨ b < a + 2 then ns.headD .E else if o ≤ a + hf (b - a) then bgn a (a + hf (b - a)) o ns else ab (ns.headD .E) (bgn (a + hf (b - a)) b o ns.tail)
termination_by b - a
decreasing_by
  · have := hf_lt (b - a) (by omega); omega
  · have := hf_pos (b - a); omega
theorem bgn_1 {a b o : Nat} (ns : List Nd) (h : b ≤ o ∨ b < a + 2) : bgn a b o ns = ns.headD .E := by rw [bgn, if_pos h]
theorem bgn_2 {a b o : Nat} (ns : List Nd) (h : ¬ (b ≤ o ∨ b < a + 2)) (h2 : o ≤ a + hf (b - a)) : bgn a b o ns = bgn a (a + hf (b - a)) o ns := by rw [bgn, if_neg h, if_pos h2]
theorem bgn_3 {a b o : Nat} (ns : List Nd) (h : ¬ (b ≤ o ∨ b < a + 2)) (h2 : ¬ o ≤ a + hf (b - a)) : bgn a b o ns = ab (ns.headD .E) (bgn (a + hf (b - a)) b o ns.tail) := by rw [bgn, if_neg h, if_neg h2]
theorem cov_inZ {a b o : Nat} (h : a < b) (h2 : b ≤ o) : cov a b 0 o = [⟨a, b, true⟩] := by
  have : isIn a b 0 o = true := decide_eq_true ⟨by omega, by omega, by omega, by omega⟩
  rw [cov_1 (.inr (.inl this)), this]
theorem cov_out {a b o : Nat} (h2 : o ≤ a) : cov a b 0 o = [⟨a, b, false⟩] := by
  have : isOut a b 0 o = true := decide_eq_true (.inr (.inl h2))
  have h3 : isIn a b 0 o = false := decide_eq_false (by omega)
  rw [cov_1 (.inl this), h3]
theorem cov_mid {a b o : Nat} (h : a < o) (h2 : o < b) : ¬ (isOut a b 0 o = true ∨ isIn a b 0 o = true ∨ b < a + 2) := by
  unfold isOut isIn
  simp only [decide_eq_true_eq]
  omega
theorem bgz_out {q : Sp × Nd} {l : List (Sp × Nd)} (h : q.1.i = false) : bgz (q :: l) = bgz l := by simp [bgz, h]
theorem bgz_cov (o : Nat) : ∀ (n a b : Nat) (ns : List Nd) (post : List (Sp × Nd)), b - a ≤ n → a < o → o ≤ b → (cov a b 0 o).length ≤ ns.length → bgz post = (.E, true) → bgz ((cov a b 0 o).zip ns ++ post) = (bgn a b o ns, false) := by
  intro n
  induction n with
  | zero => intro a b ns post h ha ho; omega
  | succ n ih =>
    intro a b ns post h ha ho hl hp
    by_cases e : o = b
    · subst e
      rw [bgn_1 ns (.inl (Nat.le_refl _))]
      rw [cov_inZ ha (Nat.le_refl _)] at hl ⊢
      cases ns with
      | nil => simp at hl
      | cons d r => simp [bgz, hp]
    · have hs := cov_mid ha (show o < b by omega)
      have hb : ¬ (b ≤ o ∨ b < a + 2) := by omega
      have p := hf_pos (b - a)
      have q := hf_lt (b - a) (by omega)
      have hl' := hl
      rw [cov_2 hs, List.length_append] at hl'
      rw [zip_cov ns hs (by omega), List.append_assoc]
      by_cases hk : o ≤ a + hf (b - a)
      · rw [bgn_2 ns hb hk]
        have he : (cov (a + hf (b - a)) b 0 o) = [⟨a + hf (b - a), b, false⟩] := cov_out hk
        refine ih a (a + hf (b - a)) ns _ (by omega) ha hk (by omega) ?_
        rw [he]
        cases ns.drop (cov a (a + hf (b - a)) 0 o).length with
        | nil => simpa using hp
        | cons d r => simp only [List.zip_cons_cons, List.zip_nil_left, List.cons_append, List.nil_append]; rw [bgz_out rfl]; exact hp
      · rw [bgn_3 ns hb hk]
        have he : (cov a (a + hf (b - a)) 0 o) = [⟨a, a + hf (b - a), true⟩] := cov_inZ (by omega) (by omega)
        rw [he] at hl' ⊢
        cases ns with
        | nil => simp at hl'
        | cons d r =>
          have := ih (a + hf (b - a)) b r post (by omega) (by omega) ho (by simp at hl'; omega) hp
          simp only [List.zip_cons_cons, List.zip_nil_left, List.length_cons, List.length_nil, List.drop_succ_cons, List.drop_zero, List.cons_append, List.nil_append, List.headD_cons, List.tail_cons]
          simp only [bgz, this]
          simp
theorem bgz_whole {o n : Nat} {ns : List Nd} (h1 : 1 ≤ o) (h2 : o ≤ n) (hl : ns.length = (cov 0 n 0 o).length) : (bgz ((cov 0 n 0 o).zip ns)).1 = bgn 0 n o ns := by
  have := bgz_cov o n 0 n ns [] (by omega) (by omega) h2 (by omega) rfl
  rw [List.append_nil] at this
  rw [this]
theorem bgn_nb {o a b : Nat} {ns : List Nd} (h1 : a < o) (h2 : o ≤ b) (hl : (cov a b 0 o).length ≤ ns.length) (hok : ∀ d ∈ ns, d.ok = true) : nb (cov a b 0 o).length (bgn a b o ns) := by
  have e := bgz_cov o (b - a) a b ns [] (by omega) h1 h2 hl rfl
  have := (bgz_nb ((cov a b 0 o).zip ns) (fun q hq => hok _ (List.of_mem_zip hq).2)).1
  rw [List.append_nil] at e
  rw [e] at this
  simp only [List.length_zip] at this
  exact nb_up this (by omega)
theorem hf_mid {m k : Nat} (h1 : hf m < k) (h2 : k ≤ m) (hm : 2 ≤ m) : hf k = hf m := by
  have := hf_big m hm
  unfold hf at this h1 ⊢
  have := hf_is k (m - 1).log2 h1 (by omega)
  unfold hf at this
  exact this
/-- By the parts that are known, the older log comes to that. -/
theorem comes_bgn (o : Nat) : ∀ (n a b : Nat) (ns : List Nd) (pre post : List (Sp × Nd)), b - a ≤ n → a < o → o ≤ b → b ≤ 64 → (cov a b 0 o).length ≤ ns.length → (∀ d ∈ ns, d.ok = true) → (∀ q ∈ pre, q.1.b ≤ a) → (∀ q ∈ post, b ≤ q.1.a) →
    Comes (gL (pre ++ (cov a b 0 o).zip ns ++ post)) a o (bgn a b o ns) := by
  intro n
  induction n with
  | zero => intro a b ns pre post h ha ho; omega
  | succ n ih =>
    intro a b ns pre post h ha ho hb hl hok hp hq
    by_cases e : o = b
    · subst e
      rw [bgn_1 ns (.inl (Nat.le_refl _))]
      rw [cov_inZ ha (Nat.le_refl _)] at hl ⊢
      cases ns with
      | nil => simp at hl
      | cons d r =>
        refine .known ?_
        have hz : gL post a o = none := gL_none (fun q hq' c => by have := hq q hq'; omega)
        rw [gL_append, hz, gL_append]
        simp [gL]
    · have hs := cov_mid ha (show o < b by omega)
      have hb' : ¬ (b ≤ o ∨ b < a + 2) := by omega
      have p := hf_pos (b - a)
      have q := hf_lt (b - a) (by omega)
      have hlm := cov_mem 0 o n a (a + hf (b - a)) (by omega) (by omega)
      have hrm := cov_mem 0 o n (a + hf (b - a)) b (by omega) (by omega)
      have hl' := hl
      rw [cov_2 hs, List.length_append] at hl'
      rw [zip_cov ns hs (by omega)]
      by_cases hk : o ≤ a + hf (b - a)
      · rw [bgn_2 ns hb' hk]
        have := ih a (a + hf (b - a)) ns pre ((cov (a + hf (b - a)) b 0 o).zip (ns.drop (cov a (a + hf (b - a)) 0 o).length) ++ post) (by omega) ha hk (by omega) (by omega) hok hp (fun qq h1 => by
          rcases List.mem_append.1 h1 with h1 | h1
          · exact (hrm qq.1 (List.of_mem_zip h1).1).1
          · have := hq qq h1; omega)
        simpa [List.append_assoc] using this
      · rw [bgn_3 ns hb' hk]
        have hh : hf (o - a) = hf (b - a) := hf_mid (by omega) (by omega) (by omega)
        have he : (cov a (a + hf (b - a)) 0 o) = [⟨a, a + hf (b - a), true⟩] := cov_inZ (by omega) (by omega)
        have key : ∀ qq ∈ pre ++ ((cov a (a + hf (b - a)) 0 o).zip ns ++ (cov (a + hf (b - a)) b 0 o).zip (ns.drop (cov a (a + hf (b - a)) 0 o).length)) ++ post, ¬ (qq.1.a = a ∧ qq.1.b = o) := by
          intro qq hqq c
          simp only [List.mem_append] at hqq
          rcases hqq with (h1 | h1 | h1) | h1
          · have := hp qq h1; omega
          · have := hlm qq.1 (List.of_mem_zip h1).1; omega
          · have := hrm qq.1 (List.of_mem_zip h1).1; omega
          · have := hq qq h1; omega
        have hnone := gL_none key
        rw [he] at hl' hnone ⊢
        cases ns with
        | nil => simp at hl'
        | cons d r =>
          simp only [List.length_cons, List.length_nil] at hl'
          have hr : ∀ x ∈ r, x.ok = true := fun x hx => hok x (by simp [hx])
          have hnb := bgn_nb (o := o) (a := a + hf (b - a)) (b := b) (ns := r) (by omega) ho (by omega) hr
          have hlen := (cov_len 0 o (b - (a + hf (b - a))) (a + hf (b - a)) b (by omega)).2
          simp only [List.zip_cons_cons, List.zip_nil_left, List.length_cons, List.length_nil, List.drop_succ_cons, List.drop_zero, List.headD_cons, List.tail_cons] at hnone ⊢
          refine .above hnone (by omega) ?_ ?_ (mid_nb (nb_ok (hok d (by simp))) (by omega)) (mid_nb hnb (by omega))
          · rw [hh]
            refine .known ?_
            have hz : gL post a (a + hf (b - a)) = none := gL_none (fun q hq' c => by have := hq q hq'; omega)
            have hz2 : gL ((cov (a + hf (b - a)) b 0 o).zip r) a (a + hf (b - a)) = none := gL_none (fun q hq' c => by have := hrm q.1 (List.of_mem_zip hq').1; omega)
            rw [gL_append, hz, gL_append, gL_append, hz2]
            simp [gL]
          · rw [hh]
            have := ih (a + hf (b - a)) b r (pre ++ [(⟨a, a + hf (b - a), true⟩, d)]) post (by omega) (by omega) ho hb (by omega) hr (fun qq h1 => by
              rcases List.mem_append.1 h1 with h1 | h1
              · have := hp qq h1; omega
              · simp at h1; subst h1; exact Nat.le_refl _) hq
            simpa [List.append_assoc] using this

end Go.Proofs.YtogmdaopfnmobaaGreat

/- An honest proof: what its nodes come to; a text that is cut short. -/
namespace Go.Proofs.YtogmdaopfnmobaaGreat
open Go.RowKit

theorem cn_app (lf : Nat → Nd) (l m : List Sp) : cn lf (l ++ m) = cn lf l ++ cn lf m := by simp [cn]
/-- The nodes of a tree's cover come to the tree's own node. -/
theorem cm_cn (lf : Nat → Nd) (f t : Nat) : ∀ (n a b : Nat) (rest : List Nd), b - a ≤ n → cm a b f t (cn lf (cov a b f t) ++ rest) = tr lf a b := by
  intro n
  induction n with
  | zero => intro a b rest h; rw [cov_1 (.inr (.inr (by omega))), cm_one _ (.inr (.inr (by omega)))]; rfl
  | succ n ih =>
    intro a b rest h
    by_cases hs : isOut a b f t = true ∨ isIn a b f t = true ∨ b < a + 2
    · rw [cov_1 hs, cm_one _ hs]; rfl
    · have p := hf_pos (b - a)
      have q := hf_lt (b - a) (by omega)
      rw [cov_2 hs, cm_two _ hs, cn_app, List.append_assoc, ih a (a + hf (b - a)) _ (by omega)]
      have hl : (cov a (a + hf (b - a)) f t).length = (cn lf (cov a (a + hf (b - a)) f t)).length := by simp [cn]
      rw [hl, List.drop_left, ih _ b _ (by omega), ← tr_two lf a b (by omega)]
/-- And for the older tree to the older tree's. -/
theorem bgn_cn (lf : Nat → Nd) (o : Nat) : ∀ (n a b : Nat) (rest : List Nd), b - a ≤ n → a < o → o ≤ b → bgn a b o (cn lf (cov a b 0 o) ++ rest) = tr lf a o := by
  intro n
  induction n with
  | zero => intro a b rest h ha ho; omega
  | succ n ih =>
    intro a b rest h ha ho
    by_cases e : o = b
    · subst e
      rw [bgn_1 _ (.inl (Nat.le_refl _)), cov_inZ ha (Nat.le_refl _)]; rfl
    · have hs := cov_mid ha (show o < b by omega)
      have hb : ¬ (b ≤ o ∨ b < a + 2) := by omega
      have p := hf_pos (b - a)
      have q := hf_lt (b - a) (by omega)
      rw [cov_2 hs, cn_app, List.append_assoc]
      by_cases hk : o ≤ a + hf (b - a)
      · rw [bgn_2 _ hb hk]
        exact ih a (a + hf (b - a)) _ (by omega) ha hk
      · have hh : hf (o - a) = hf (b - a) := hf_mid (by omega) (by omega) (by omega)
        rw [bgn_3 _ hb hk, cov_inZ (show a < a + hf (b - a) by omega) (show a + hf (b - a) ≤ o by omega)]
        have := ih (a + hf (b - a)) b rest (by omega) (by omega) ho
        rw [tr_two lf a o (by omega), hh]
        show ab (tr lf a (a + hf (b - a))) (bgn (a + hf (b - a)) b o (cn lf (cov (a + hf (b - a)) b 0 o) ++ rest)) = _
        rw [this]
/-- A proof's text that lies ahead of another's, and is not all of it, has another number of nodes. -/
theorem marks_cut : ∀ (l m : List Nd) (x : List UInt8), l.all Nd.ok = true → m.all Nd.ok = true → marks l ++ x = marks m → x ≠ [] → l.length < m.length
  | [], [], x, _, _, h, hx => by simp [marks] at h; exact absurd h hx
  | [], _ :: _, _, _, _, _, _ => by simp
  | d :: l, [], x, h1, _, h, _ => by
    have := rdMark_mark d (by simp at h1; exact h1.1) (marks l ++ x)
    have e : d.mark ++ (marks l ++ x) = [] := by simpa [marks] using h
    rw [e] at this
    simp [rdMark] at this
  | d :: l, e :: m, x, h1, h2, h, hx => by
    simp only [List.all_cons, Bool.and_eq_true] at h1 h2
    have a := rdMark_mark d h1.1 (marks l ++ x)
    have b := rdMark_mark e h2.1 (marks m)
    have c : d.mark ++ (marks l ++ x) = e.mark ++ marks m := by simpa [marks] using h
    rw [c, b] at a
    simp only [Option.some.injEq, Prod.mk.injEq] at a
    have := marks_cut l m x h1.2 h2.2 a.2.symm hx
    simp; omega
/-- A text that is cut short, or that has more behind it, is no proof with as many nodes. -/
theorem read_cut {l m : List Nd} {t x : List UInt8} (hm : m.all Nd.ok = true) (h : t ++ x = marks m) (hx : x ≠ []) (hr : readR t = some l) : l.length < m.length := by
  obtain ⟨_, h2, h3⟩ := write_read _ _ hr
  exact marks_cut l m x h2 hm (by rw [h3]; exact h) hx
theorem read_more {l m : List Nd} {x : List UInt8} (hm : m.all Nd.ok = true) (hx : x ≠ []) (hr : readR (marks m ++ x) = some l) : m.length < l.length := by
  obtain ⟨_, h2, h3⟩ := write_read _ _ hr
  exact marks_cut m l x hm h2 h3.symm hx

end Go.Proofs.YtogmdaopfnmobaaGreat

/- Where two trees with one head part, as mathematics: what Clash finds, that it has one digest, and what is so where it finds nothing. -/
namespace Go.Proofs.YtogmdaopfnmobaaGreat
open Go.RowKit

/-- What a part comes to, by the parts that are known. -/
def cmg (g : Nat → Nat → Option Nd) (a b : Nat) : Nd :=
  match g a b with
  | some d => d
  | none => if _h : b < a + 2 then .E else ab (cmg g a (a + hf (b - a))) (cmg g (a + hf (b - a)) b)
termination_by b - a
decreasing_by
  · have := hf_lt (b - a) (by omega); omega
  · have := hf_pos (b - a); omega
section
variable {g : Nat → Nat → Option Nd} {U : Nat → Nat → Nd} {a b : Nat}
theorem cmg_known {d : Nd} (h : g a b = some d) : cmg g a b = d := by rw [cmg, h]
theorem cmg_above (h : g a b = none) (h2 : a + 2 ≤ b) : cmg g a b = ab (cmg g a (a + hf (b - a))) (cmg g (a + hf (b - a)) b) := by rw [cmg, h]; simp only [dif_neg (show ¬ b < a + 2 by omega)]
theorem cmg_small (h : g a b = none) (h2 : b < a + 2) : cmg g a b = .E := by rw [cmg, h]; simp only [dif_pos h2]
theorem Comes.cmg {d : Nd} (h : Comes g a b d) : d = cmg g a b := by
  induction h with
  | known h => rw [cmg_known h]
  | above h h2 _ _ _ _ i1 i2 => rw [cmg_above h h2, ← i1, ← i2]
end
/-- What Clash finds below a part. -/
def cld (g : Nat → Nat → Option Nd) (U : Nat → Nat → Nd) (a b : Nat) : Option (List UInt8 × List UInt8) :=
  if _h : (g a b).isSome = true ∨ b < a + 2 then none
  else if abText (cmg g a (a + hf (b - a))) (cmg g (a + hf (b - a)) b) = abText (U a (a + hf (b - a))) (U (a + hf (b - a)) b) then
    match cld g U a (a + hf (b - a)) with
    | some p => some p
    | none => cld g U (a + hf (b - a)) b
  else some (abText (cmg g a (a + hf (b - a))) (cmg g (a + hf (b - a)) b), abText (U a (a + hf (b - a))) (U (a + hf (b - a)) b))
termination_by b - a
decreasing_by
  · have := hf_lt (b - a) (by omega); omega
  · have := hf_pos (b - a); omega
/-- The pairs of texts of the parts above those that are known. -/
def prs (g : Nat → Nat → Option Nd) (U : Nat → Nat → Nd) (a b : Nat) : List (List UInt8 × List UInt8) :=
  if _h : (g a b).isSome = true ∨ b < a + 2 then []
  else prs g U a (a + hf (b - a)) ++ prs g U (a + hf (b - a)) b ++ [(abText (cmg g a (a + hf (b - a))) (cmg g (a + hf (b - a)) b), abText (U a (a + hf (b - a))) (U (a + hf (b - a)) b))]
termination_by b - a
decreasing_by
  · have := hf_lt (b - a) (by omega); omega
  · have := hf_pos (b - a); omega
section
variable {g : Nat → Nat → Option Nd} {U : Nat → Nat → Nd} {a b : Nat}
theorem cld_known (h : (g a b).isSome = true ∨ b < a + 2) : cld g U a b = none := by rw [cld, dif_pos h]
theorem cld_above (h : g a b = none) (h2 : a + 2 ≤ b) : cld g U a b = if abText (cmg g a (a + hf (b - a))) (cmg g (a + hf (b - a)) b) = abText (U a (a + hf (b - a))) (U (a + hf (b - a)) b) then (cld g U a (a + hf (b - a))).or (cld g U (a + hf (b - a)) b) else some (abText (cmg g a (a + hf (b - a))) (cmg g (a + hf (b - a)) b), abText (U a (a + hf (b - a))) (U (a + hf (b - a)) b)) := by
  rw [cld, dif_neg (by rw [h]; simp; omega)]
  split
  · cases cld g U a (a + hf (b - a)) <;> rfl
  · rfl
theorem prs_known (h : (g a b).isSome = true ∨ b < a + 2) : prs g U a b = [] := by rw [prs, dif_pos h]
theorem prs_above (h : g a b = none) (h2 : a + 2 ≤ b) : prs g U a b = prs g U a (a + hf (b - a)) ++ prs g U (a + hf (b - a)) b ++ [(abText (cmg g a (a + hf (b - a))) (cmg g (a + hf (b - a)) b), abText (U a (a + hf (b - a))) (U (a + hf (b - a)) b))] := by
  rw [prs, dif_neg (by rw [h]; simp; omega)]
end
theorem bytes_inj {x y : Nd} {r s : List UInt8} (hx : x.ok = true) (hy : y.ok = true) (h : x.bytes ++ r = y.bytes ++ s) : x = y ∧ r = s := by
  have a := rdNode_num x hx r
  have b := rdNode_num y hy s
  rw [h, b] at a
  simp only [Option.some.injEq, Prod.mk.injEq] at a
  exact ⟨a.1.symm, a.2.symm⟩
theorem abText_inj {x y u v : Nd} (hx : x.ok = true) (hy : y.ok = true) (hu : u.ok = true) (hv : v.ok = true) (h : abText x y = abText u v) : x = u ∧ y = v := by
  unfold abText at h
  by_cases h1 : x = Nd.E ∧ y = Nd.E
  · by_cases h2 : u = Nd.E ∧ v = Nd.E
    · exact ⟨h1.1.trans h2.1.symm, h1.2.trans h2.2.symm⟩
    · rw [if_pos h1, if_neg h2] at h
      simp at h
  · by_cases h2 : u = Nd.E ∧ v = Nd.E
    · rw [if_neg h1, if_pos h2] at h
      simp at h
    · rw [if_neg h1, if_neg h2] at h
      obtain ⟨e1, e2⟩ := bytes_inj hx hu (List.cons.inj h).2
      exact ⟨e1, (bytes_inj (r := []) (s := []) hy hv (by simpa using e2)).1⟩
theorem hdText_inj {n : Nat} {x u : Nd} (hx : x.ok = true) (hu : u.ok = true) (h : hdText n x = hdText n u) : x = u := by
  unfold hdText at h
  have := List.append_cancel_left (List.cons.inj h).2
  exact (bytes_inj (r := []) (s := []) hx hu (by simpa using this)).1
theorem dg_of {s t : List UInt8} (h1 : (dg s : Int) / 256 = (dg t : Int) / 256) (h2 : (dg s : Int) % 256 = (dg t : Int) % 256) : dg s = dg t := by omega
theorem ab_dg {x y u v : Nd} (h : ab x y = ab u v) : dg (abText x y) = dg (abText u v) := by
  rw [ab_eq, ab_eq] at h
  have h1 := congrArg Nd.h h
  have h2 := congrArg Nd.g h
  have h1' := congrArg (fun z : UInt8 => (z.toNat : Int)) h1
  have h2' := congrArg (fun z : UInt8 => (z.toNat : Int)) h2
  simp only [mkNd, u8_div, u8_mod] at h1' h2'
  exact dg_of h1' h2'
/-- A node whose numbers are not negative. -/
def nn (d : Nd) : Prop := 0 ≤ d.c ∧ 0 ≤ d.s ∧ (0 ≤ d.m ∧ d.m ≤ 34359738367) ∧ (0 ≤ d.x ∧ d.x ≤ 34359738367)
theorem nn_nb {n : Nat} {d : Nd} (h : nb n d) : nn d := by unfold nb at h; unfold nn; omega
theorem nn_ok {d : Nd} (h : d.ok = true) : nn d := nn_nb (nb_ok h)
theorem ok_nn {d : Nd} (h : nn d) : d.ok = true ↔ d.c ≤ 34359738367 ∧ d.s ≤ 34359738367 := by
  rw [Nd.ok_iff]
  simp only [isNum_iff]
  unfold nn at h
  omega
theorem nn_ex {d : Nd} (h : nn d) : nb (d.c.toNat + d.s.toNat) d := by unfold nn at h; unfold nb; omega
theorem nn_ab {x y : Nd} (hx : nn x) (hy : nn y) : nn (ab x y) := nn_nb (nb_ab (nn_ex hx) (nn_ex hy))
theorem ok_ab {x y : Nd} (hx : nn x) (hy : nn y) (h : (ab x y).ok = true) : x.ok = true ∧ y.ok = true := by
  have := (ok_nn (nn_ab hx hy)).1 h
  rw [ab_c, ab_s] at this
  rw [ok_nn hx, ok_nn hy]
  unfold nn at hx hy
  omega
theorem cmg_nn {g : Nat → Nat → Option Nd} (hg : ∀ a b d, g a b = some d → d.ok = true) : ∀ n a b, b - a ≤ n → nn (cmg g a b) := by
  intro n
  induction n with
  | zero =>
    intro a b h
    cases e : g a b with
    | some d => rw [cmg_known e]; exact nn_ok (hg a b d e)
    | none => rw [cmg_small e (by omega)]; exact nn_ok rfl
  | succ n ih =>
    intro a b h
    cases e : g a b with
    | some d => rw [cmg_known e]; exact nn_ok (hg a b d e)
    | none =>
      by_cases h2 : b < a + 2
      · rw [cmg_small e h2]; exact nn_ok rfl
      · have p := hf_pos (b - a)
        have q := hf_lt (b - a) (by omega)
        rw [cmg_above e (by omega)]
        exact nn_ab (ih _ _ (by omega)) (ih _ _ (by omega))
/-- What is sure of the tree as it is. -/
structure TrU (U : Nat → Nat → Nd) (N : Nat) : Prop where
  two : ∀ a b, a + 2 ≤ b → U a b = ab (U a (a + hf (b - a))) (U (a + hf (b - a)) b)
  ok : ∀ a b, b ≤ N → (U a b).ok = true
theorem tr_U {lf : Nat → Nd} (h : ∀ i, bd 1 (lf i)) : TrU (tr lf) 64 := ⟨fun a b h2 => tr_two lf a b h2, fun a b hb => bd_ok (tr_bd h (b - a) a b (Nat.le_refl _)) (by omega)⟩
section
variable {g : Nat → Nat → Option Nd} {U : Nat → Nat → Nd} {N : Nat}
/-- The nodes of one part, where both have one node there and the texts are the same. -/
theorem both_below (hg : ∀ a b d, g a b = some d → d.ok = true) (hU : TrU U N) {a b : Nat} (h : g a b = none) (h2 : a + 2 ≤ b) (hb : b ≤ N) (he : cmg g a b = U a b) :
    dg (abText (cmg g a (a + hf (b - a))) (cmg g (a + hf (b - a)) b)) = dg (abText (U a (a + hf (b - a))) (U (a + hf (b - a)) b)) ∧
    (abText (cmg g a (a + hf (b - a))) (cmg g (a + hf (b - a)) b) = abText (U a (a + hf (b - a))) (U (a + hf (b - a)) b) → cmg g a (a + hf (b - a)) = U a (a + hf (b - a)) ∧ cmg g (a + hf (b - a)) b = U (a + hf (b - a)) b) := by
  have q := hf_lt (b - a) (by omega)
  have hok := hU.ok a b hb
  rw [cmg_above h h2] at he
  rw [← he] at hok
  have ho := ok_ab (cmg_nn hg _ _ _ (Nat.le_refl _)) (cmg_nn hg _ _ _ (Nat.le_refl _)) hok
  rw [hU.two a b h2] at he
  exact ⟨ab_dg he, fun ht => abText_inj ho.1 ho.2 (hU.ok _ _ (by omega)) (hU.ok _ _ hb) ht⟩
/-- What is found differs and has one digest. -/
theorem cld_clash (hg : ∀ a b d, g a b = some d → d.ok = true) (hU : TrU U N) : ∀ n a b, b - a ≤ n → b ≤ N → cmg g a b = U a b → ∀ p, cld g U a b = some p → p.1 ≠ p.2 ∧ dg p.1 = dg p.2 := by
  intro n
  induction n with
  | zero => intro a b h _ _ p hp; rw [cld_known (.inr (by omega))] at hp; cases hp
  | succ n ih =>
    intro a b h hb he p hp
    cases e : g a b with
    | some d => rw [cld_known (.inl (by rw [e]; rfl))] at hp; cases hp
    | none =>
      by_cases h2 : b < a + 2
      · rw [cld_known (.inr h2)] at hp; cases hp
      · have x := hf_pos (b - a)
        have y := hf_lt (b - a) (by omega)
        obtain ⟨h3, h4⟩ := both_below hg hU e (by omega) hb he
        rw [cld_above e (by omega)] at hp
        by_cases ht : abText (cmg g a (a + hf (b - a))) (cmg g (a + hf (b - a)) b) = abText (U a (a + hf (b - a))) (U (a + hf (b - a)) b)
        · rw [if_pos ht] at hp
          obtain ⟨e1, e2⟩ := h4 ht
          cases hc : cld g U a (a + hf (b - a)) with
          | some q => rw [hc] at hp; injection hp with hp; subst hp; exact ih _ _ (by omega) (by omega) e1 _ hc
          | none => rw [hc] at hp; exact ih _ _ (by omega) hb e2 _ hp
        · rw [if_neg ht] at hp
          injection hp with hp
          subst hp
          exact ⟨ht, h3⟩
/-- It is one of the pairs. -/
theorem cld_in : ∀ n a b, b - a ≤ n → ∀ p, cld g U a b = some p → p ∈ prs g U a b := by
  intro n
  induction n with
  | zero => intro a b h p hp; rw [cld_known (.inr (by omega))] at hp; cases hp
  | succ n ih =>
    intro a b h p hp
    cases e : g a b with
    | some d => rw [cld_known (.inl (by rw [e]; rfl))] at hp; cases hp
    | none =>
      by_cases h2 : b < a + 2
      · rw [cld_known (.inr h2)] at hp; cases hp
      · have x := hf_pos (b - a)
        have y := hf_lt (b - a) (by omega)
        rw [cld_above e (by omega)] at hp
        rw [prs_above e (by omega)]
        simp only [List.mem_append, List.mem_singleton]
        by_cases ht : abText (cmg g a (a + hf (b - a))) (cmg g (a + hf (b - a)) b) = abText (U a (a + hf (b - a))) (U (a + hf (b - a)) b)
        · rw [if_pos ht] at hp
          cases hc : cld g U a (a + hf (b - a)) with
          | some q => rw [hc] at hp; injection hp with hp; subst hp; exact .inl (.inl (ih _ _ (by omega) _ hc))
          | none => rw [hc] at hp; exact .inl (.inr (ih _ _ (by omega) _ hp))
        · rw [if_neg ht] at hp
          injection hp with hp
          exact .inr hp.symm
/-- Where nothing is found, the parts below agree too. -/
theorem cld_none (hg : ∀ a b d, g a b = some d → d.ok = true) (hU : TrU U N) {a b : Nat} (h : g a b = none) (h2 : a + 2 ≤ b) (hb : b ≤ N) (he : cmg g a b = U a b) (hn : cld g U a b = none) :
    (cmg g a (a + hf (b - a)) = U a (a + hf (b - a)) ∧ cld g U a (a + hf (b - a)) = none) ∧ (cmg g (a + hf (b - a)) b = U (a + hf (b - a)) b ∧ cld g U (a + hf (b - a)) b = none) := by
  obtain ⟨_, h4⟩ := both_below hg hU h h2 hb he
  rw [cld_above h h2] at hn
  by_cases ht : abText (cmg g a (a + hf (b - a))) (cmg g (a + hf (b - a)) b) = abText (U a (a + hf (b - a))) (U (a + hf (b - a)) b)
  · rw [if_pos ht] at hn
    obtain ⟨e1, e2⟩ := h4 ht
    cases hc : cld g U a (a + hf (b - a)) with
    | some q => rw [hc] at hn; cases hn
    | none => rw [hc] at hn; exact ⟨⟨e1, rfl⟩, e2, hn⟩
  · rw [if_neg ht] at hn; cases hn
end

end Go.Proofs.YtogmdaopfnmobaaGreat

/- What the program's trees do: clashDown. -/
namespace Go.Proofs.YtogmdaopfnmobaaGreat
open Go.RowKit

/-- What Clash tells. -/
def clV : Option (List UInt8 × List UInt8) → Value
  | some p => .tuple #[.string ⟨p.1.toArray⟩, .string ⟨p.2.toArray⟩, .bool true]
  | none => .tuple #[.string ⟨#[]⟩, .string ⟨#[]⟩, .bool false]
section
variable {k B N a b : Nat} {K : World → Prop} {g : Nat → Nat → Option Nd} {k' B' : Nat} {K' : World → Prop} {g' : Nat → Nat → Option Nd}

set_option maxHeartbeats 4000000 in
set_option maxRecDepth 100000 in
theorem clashDown_known {d : Nd} (hS : Src k B K N g) (hg : g a b = some d) (w : World) (hK : K w) (hab : a ≤ b) (hb : b ≤ N) :
    Calls Tryz.prog 77 #[paV a b, cloV k B, cloV k' B'] w fun e w' => e = .returned (clV none) ∧ Below w.heap.size w w' := by
  have HC : ∀ w', Hid (K w' → Calls Tryz.prog k #[paV a b, .pointer (some ⟨B, 0, none⟩)] w' fun e w2 => e = .returned (.tuple #[ndV d, .bool true]) ∧ Below w'.heap.size w' w2) := fun w' => hid fun h => by
    have := hS.call a b w' h hab hb
    rw [hg] at this
    exact this
  have HK : Hid (∀ w', Below w.heap.size w w' → K w') := hid fun w' h => hS.keep w w' hK h
  have he := hS.enters
  clear hg hS hK hab hb
  unfold paV ndV at HC
  unfold paV cloV
  go_enter Tryz.func77, Tryz.ntmps77
  go_wp2_with fail
  refine ((HC _).out (HK.out _ ((Below.refl _ _).alloc (Nat.le_refl _) _))).mono ?_
  rintro e w1 ⟨rfl, hb1⟩
  have HB1 : Hid (Below w.heap.size w w1) := hid (((Below.refl _ _).alloc (Nat.le_refl _) _).trans (hb1.mono (by simp)))
  clear hb1 he HC HK
  go_wp2
  exact bodyPost_ret (v := clV none) (by simp [results, Tryz.results77, go_sem, clV]) rfl ⟨rfl, HB1.out.alloc HB1.out.size _⟩

set_option maxHeartbeats 8000000 in
set_option maxRecDepth 100000 in
theorem clashDown_above {x y u v : Nd} {rl rr : Option (List UInt8 × List UInt8)} (hS : Src k B K N g) (hS' : Src k' B' K' N g') (hg : g a b = none) (h2 : a + 2 ≤ b) (hN : N ≤ 64) (hx : x.mid) (hy : y.mid) (hu : u.mid) (hv : v.mid)
    (ihx : ∀ w, K w → Calls Tryz.prog 76 #[paV a (a + hf (b - a)), cloV k B] w fun e w' => e = .returned (ndV x) ∧ Below w.heap.size w w')
    (ihy : ∀ w, K w → Calls Tryz.prog 76 #[paV (a + hf (b - a)) b, cloV k B] w fun e w' => e = .returned (ndV y) ∧ Below w.heap.size w w')
    (ihu : ∀ w, K' w → Calls Tryz.prog 76 #[paV a (a + hf (b - a)), cloV k' B'] w fun e w' => e = .returned (ndV u) ∧ Below w.heap.size w w')
    (ihv : ∀ w, K' w → Calls Tryz.prog 76 #[paV (a + hf (b - a)) b, cloV k' B'] w fun e w' => e = .returned (ndV v) ∧ Below w.heap.size w w')
    (ihl : ∀ w, K w → K' w → Calls Tryz.prog 77 #[paV a (a + hf (b - a)), cloV k B, cloV k' B'] w fun e w' => e = .returned (clV rl) ∧ Below w.heap.size w w')
    (ihr : ∀ w, K w → K' w → Calls Tryz.prog 77 #[paV (a + hf (b - a)) b, cloV k B, cloV k' B'] w fun e w' => e = .returned (clV rr) ∧ Below w.heap.size w w')
    (w : World) (hK : K w) (hK' : K' w) (hb : b ≤ N) :
    Calls Tryz.prog 77 #[paV a b, cloV k B, cloV k' B'] w fun e w' => e = .returned (clV (if abText x y = abText u v then rl.or rr else some (abText x y, abText u v))) ∧ Below w.heap.size w w' := by
  have HC : ∀ w', Hid (K w' → Calls Tryz.prog k #[paV a b, .pointer (some ⟨B, 0, none⟩)] w' fun e w2 => e = .returned (.tuple #[ndV nd0, .bool false]) ∧ Below w'.heap.size w' w2) := fun w' => hid fun h => by
    have := hS.call a b w' h (by omega) hb
    rw [hg] at this
    exact this
  have HSp : ∀ w', Hid (Calls Tryz.prog 120 #[paV a b] w' fun e w2 => e = .returned (.tuple #[paV a (a + hf (b - a)), paV (a + hf (b - a)) b]) ∧ Below w'.heap.size w' w2) := fun w' => hid (split_any a b w' h2 (by omega))
  have HK : Hid (∀ w', Below w.heap.size w w' → K w' ∧ K' w') := hid fun w' h => ⟨hS.keep w w' hK h, hS'.keep w w' hK' h⟩
  have HT1 : ∀ w', Hid (Calls Tryz.prog 122 #[ndV x, ndV y] w' fun e w2 => e = .returned (.string ⟨(abText x y).toArray⟩) ∧ Below w'.heap.size w' w2) := fun w' => hid (aboveText_any x y w' hx hy)
  have HT2 : ∀ w', Hid (Calls Tryz.prog 122 #[ndV u, ndV v] w' fun e w2 => e = .returned (.string ⟨(abText u v).toArray⟩) ∧ Below w'.heap.size w' w2) := fun w' => hid (aboveText_any u v w' hu hv)
  have he := hS.enters
  generalize abText x y = P at HT1 ⊢
  generalize abText u v = Q at HT2 ⊢
  generalize a + hf (b - a) = m at ihx ihy ihu ihv ihl ihr HSp
  have HN1 : ∀ a' b' d' w', Hid ((a' = a ∧ b' = m ∧ d' = x) ∨ (a' = m ∧ b' = b ∧ d' = y) → K w' → Calls Tryz.prog 76 #[paV a' b', cloV k B] w' fun e w2 => e = .returned (ndV d') ∧ Below w'.heap.size w' w2) := fun a' b' d' w' => hid fun h hk => by
    rcases h with ⟨rfl, rfl, rfl⟩ | ⟨rfl, rfl, rfl⟩
    · exact ihx w' hk
    · exact ihy w' hk
  have HN2 : ∀ a' b' d' w', Hid ((a' = a ∧ b' = m ∧ d' = u) ∨ (a' = m ∧ b' = b ∧ d' = v) → K' w' → Calls Tryz.prog 76 #[paV a' b', cloV k' B'] w' fun e w2 => e = .returned (ndV d') ∧ Below w'.heap.size w' w2) := fun a' b' d' w' => hid fun h hk => by
    rcases h with ⟨rfl, rfl, rfl⟩ | ⟨rfl, rfl, rfl⟩
    · exact ihu w' hk
    · exact ihv w' hk
  have HDl : ∀ w', Hid _ := fun w' => hid (ihl w')
  have HDr : ∀ w', Hid _ := fun w' => hid (ihr w')
  clear hg hS hS' hK hK' hb h2 hN hx hy hu hv ihx ihy ihu ihv ihl ihr
  obtain ⟨R, hR⟩ : ∃ R, R = (if P = Q then rl.or rr else some (P, Q)) := ⟨_, rfl⟩
  rw [← hR]
  have HR := hid hR
  clear hR
  unfold paV ndV at HC HN1 HN2
  simp only [nd0, UInt8.toNat_zero] at HC
  unfold paV at HSp HDl HDr
  unfold ndV at HT1 HT2
  unfold cloV at HN1 HN2 HDl HDr
  unfold paV cloV
  go_enter Tryz.func77, Tryz.ntmps77
  go_wp2_with fail
  refine ((HC _).out (HK.out _ ((Below.refl _ _).alloc (Nat.le_refl _) _)).1).mono ?_
  rintro e w1 ⟨rfl, hb1⟩
  have hc1 := oldc hb1
  have z0 : w.heap.size < w1.heap.size := by have := hb1.size; simp at this; omega
  have HB1 : Hid (Below w.heap.size w w1) := hid (((Below.refl _ _).alloc (Nat.le_refl _) _).trans (hb1.mono (by simp)))
  clear hb1 he HC
  go_wp2_with fail
  refine (HSp _).out.mono ?_
  rintro e w2 ⟨rfl, hb2⟩
  have HB2 : Hid (Below w.heap.size w w2) := hid ((HB1.out.alloc HB1.out.size _).trans (hb2.mono (by simp; omega)))
  have z2 := HB2.out.size
  clear hb2 hc1 HSp HB1 z0
  go_wp2
  obtain ⟨W, hW⟩ : ∃ W, W = (w2.alloc (.cells #[.int .i64 a, .int .i64 m] 95)).alloc (.cells #[.int .i64 m, .int .i64 b] 95) := ⟨_, rfl⟩
  have hWz : W.heap.size = w2.heap.size + 2 := by rw [hW]; simp
  have hp0 : W.heap[w2.heap.size]? = some (.cells #[.int .i64 a, .int .i64 m] 95) := by rw [hW]; exact heap_two w2 _ _ _ rfl
  have hp1 : W.heap[w2.heap.size + 1]? = some (.cells #[.int .i64 m, .int .i64 b] 95) := by rw [hW]; exact heap_one _ _ _ (by simp)
  have HWB : Hid (Below w.heap.size w W) := hid (by rw [hW]; exact (HB2.out.alloc HB2.out.size _).alloc (by have := HB2.out.size; simp; omega) _)
  have HCS : Hid (∀ w', Below W.heap.size W w' → ((w'.cell? ⟨w2.heap.size, 0, none⟩ = some (.int .i64 a) ∧ w'.cell? ⟨w2.heap.size, 1, none⟩ = some (.int .i64 m)) ∧ w'.cell? ⟨w2.heap.size + 1, 0, none⟩ = some (.int .i64 m) ∧ w'.cell? ⟨w2.heap.size + 1, 1, none⟩ = some (.int .i64 b))) := hid fun w' hk => by
    have e0 := (hk.block w2.heap.size (by omega)).trans hp0
    have e1 := (hk.block (w2.heap.size + 1) (by omega)).trans hp1
    refine ⟨⟨?_, ?_⟩, ?_, ?_⟩ <;> first | (rw [cell_of_row w' _ _ _ _ _ e0]; rfl) | (rw [cell_of_row w' _ _ _ _ _ e1]; rfl)
  have HKW : Hid (∀ w', Below W.heap.size W w' → K w' ∧ K' w') := hid fun w' hb => HK.out w' (HWB.out.trans (hb.mono (by omega)))
  have hWs : w.heap.size ≤ W.heap.size := by omega
  rw [← hW]
  have hcw := HCS.out W (Below.refl _ _)
  clear hW hp0 hp1 hWz HB2 HK z2
  generalize w2.heap.size = g2 at HCS hcw ⊢
  go_region_held3 (fun w' => (w'.cell? ⟨g2, 0, none⟩ = some (.int .i64 a) ∧ w'.cell? ⟨g2, 1, none⟩ = some (.int .i64 m)) ∧ w'.cell? ⟨g2 + 1, 0, none⟩ = some (.int .i64 m) ∧ w'.cell? ⟨g2 + 1, 1, none⟩ = some (.int .i64 b))
    (first | exact HCS.out _ (by (repeat (first | (with_reducible exact hBn) | (with_reducible exact hBa) | (with_reducible exact Below.refl _ _) | (with_reducible apply Below.drew)))) | go_keep)
    (first
      | (go_at_call 76; refine ((HN1 _ _ _ _).out (by first | exact .inl ⟨rfl, rfl, rfl⟩ | exact .inr ⟨rfl, rfl, rfl⟩) (HKW.out _ (by (repeat (first | (with_reducible exact hBn) | (with_reducible exact Below.refl _ _) | (with_reducible apply Below.drew))))).1).mono ?_; rintro e wn ⟨rfl, hbn⟩; have hBn : Below W.heap.size W wn := Below.trans (by (repeat (first | (with_reducible exact hBn) | (with_reducible exact Below.refl _ _) | (with_reducible apply Below.drew)))) (hbn.mono (by first | exact hBn.size | exact Nat.le_refl _)); clear hbn)
      | (go_at_call 122; refine (HT1 _).out.mono ?_; rintro e wa ⟨rfl, hba⟩; have hBa : Below W.heap.size W wa := Below.trans (by (repeat (first | (with_reducible exact hBn) | (with_reducible exact Below.refl _ _) | (with_reducible apply Below.drew)))) (hba.mono (by first | exact hBn.size | exact Nat.le_refl _)); clear hba))
  clear hBn hcw HN1 HT1
  obtain ⟨V, hV⟩ : ∃ V, V = wa := ⟨_, rfl⟩
  rw [← hV] at hBa ⊢
  clear hV
  have HCV : Hid (∀ w', Below V.heap.size V w' → ((w'.cell? ⟨g2, 0, none⟩ = some (.int .i64 a) ∧ w'.cell? ⟨g2, 1, none⟩ = some (.int .i64 m)) ∧ w'.cell? ⟨g2 + 1, 0, none⟩ = some (.int .i64 m) ∧ w'.cell? ⟨g2 + 1, 1, none⟩ = some (.int .i64 b)) ∧ (K w' ∧ K' w') ∧ Below w.heap.size w w') := hid fun w' hb => ⟨HCS.out w' (hBa.trans (hb.mono hBa.size)), HKW.out w' (hBa.trans (hb.mono hBa.size)), HWB.out.trans ((hBa.trans (hb.mono hBa.size)).mono hWs)⟩
  have hcv := (HCV.out V (Below.refl _ _)).1
  clear HCS HKW HWB hBa
  go_wp2
  go_region_held3 (fun w' => (w'.cell? ⟨g2, 0, none⟩ = some (.int .i64 a) ∧ w'.cell? ⟨g2, 1, none⟩ = some (.int .i64 m)) ∧ w'.cell? ⟨g2 + 1, 0, none⟩ = some (.int .i64 m) ∧ w'.cell? ⟨g2 + 1, 1, none⟩ = some (.int .i64 b))
    (first | exact (HCV.out _ (by (repeat (first | (with_reducible exact hBn) | (with_reducible exact hBa) | (with_reducible exact Below.refl _ _) | (with_reducible apply Below.drew))))).1 | go_keep)
    (first
      | (go_at_call 76; refine ((HN2 _ _ _ _).out (by first | exact .inl ⟨rfl, rfl, rfl⟩ | exact .inr ⟨rfl, rfl, rfl⟩) (HCV.out _ (by (repeat (first | (with_reducible exact hBn) | (with_reducible exact Below.refl _ _) | (with_reducible apply Below.drew))))).2.1.2).mono ?_; rintro e wn ⟨rfl, hbn⟩; have hBn : Below V.heap.size V wn := Below.trans (by (repeat (first | (with_reducible exact hBn) | (with_reducible exact Below.refl _ _) | (with_reducible apply Below.drew)))) (hbn.mono (by first | exact hBn.size | exact Nat.le_refl _)); clear hbn)
      | (go_at_call 122; refine (HT2 _).out.mono ?_; rintro e wa ⟨rfl, hba⟩; have hBa : Below V.heap.size V wa := Below.trans (by (repeat (first | (with_reducible exact hBn) | (with_reducible exact Below.refl _ _) | (with_reducible apply Below.drew)))) (hba.mono (by first | exact hBn.size | exact Nat.le_refl _)); clear hba))
  clear hBn hcv HN2 HT2
  have HCA : Hid (∀ w', Below wa.heap.size wa w' → ((w'.cell? ⟨g2, 0, none⟩ = some (.int .i64 a) ∧ w'.cell? ⟨g2, 1, none⟩ = some (.int .i64 m)) ∧ w'.cell? ⟨g2 + 1, 0, none⟩ = some (.int .i64 m) ∧ w'.cell? ⟨g2 + 1, 1, none⟩ = some (.int .i64 b)) ∧ (K w' ∧ K' w') ∧ Below w.heap.size w w') := hid fun w' hb => HCV.out w' (hBa.trans (hb.mono hBa.size))
  have hca := (HCA.out wa (Below.refl _ _)).1
  clear HCV hBa
  by_cases hPQ : P = Q
  · subst hPQ
    have HR1 : Hid (R = rl.or rr) := hid (by rw [HR.out, if_pos rfl])
    go_wp2_with fail
    refine ((HDl wa).out (HCA.out wa (Below.refl _ _)).2.1.1 (HCA.out wa (Below.refl _ _)).2.1.2).mono ?_
    rintro e w5 ⟨rfl, hb5⟩
    have HC5 := hid (HCA.out w5 hb5).2
    obtain ⟨⟨_, _⟩, q1, q2⟩ := (HCA.out w5 hb5).1
    clear hb5 HCA hca HR HDl
    cases rl with
    | some p =>
      have HR2 : Hid (R = some p) := hid HR1.out
      simp only [clV]
      go_wp2
      exact bodyPost_ret (v := clV (some p)) (by simp [results, Tryz.results77, go_sem, clV]) rfl ⟨by rw [HR2.out], HC5.out.2⟩
    | none =>
      have HR2 : Hid (R = rr) := hid HR1.out
      simp only [clV]
      go_wp2_with fail
      refine ((HDr w5).out HC5.out.1.1 HC5.out.1.2).mono ?_
      rintro e w6 ⟨rfl, hb6⟩
      have HB6 := hid (HC5.out.2.trans (hb6.mono HC5.out.2.size))
      clear hb6 HC5 HR1 HDr q1 q2
      cases rr with
      | some p =>
        simp only [clV]
        go_wp2
        exact bodyPost_ret (v := clV (some p)) (by simp [results, Tryz.results77, go_sem, clV]) rfl ⟨by rw [HR2.out], HB6.out⟩
      | none =>
        simp only [clV]
        go_wp2
        exact bodyPost_ret (v := clV none) (by simp [results, Tryz.results77, go_sem, clV]) rfl ⟨by rw [HR2.out], HB6.out⟩
  · have HR1 : Hid (R = some (P, Q)) := hid (by rw [HR.out, if_neg hPQ])
    have hne : (P == Q) = false := by simpa using hPQ
    have HB5 := hid (HCA.out wa (Below.refl _ _)).2.2
    clear HR HCA hca HDl HDr
    go_wp2
    exact bodyPost_ret (v := clV (some (P, Q))) (by simp [results, Tryz.results77, go_sem, clV]) rfl ⟨by rw [HR1.out], HB5.out⟩

/-- clashDown: what is found below a part. -/
theorem clashDown_any {U : Nat → Nat → Nd} (hS : Src k B K N g) (hS' : Src k' B' K' N g') (hN : N ≤ 64) (hU : ∀ a b, a ≤ b → b ≤ N → Comes g' a b (U a b) ∧ (U a b).mid) {d : Nd} (hc : Comes g a b d) : ∀ w, K w → K' w → a ≤ b → b ≤ N →
    Calls Tryz.prog 77 #[paV a b, cloV k B, cloV k' B'] w fun e w' => e = .returned (clV (cld g U a b)) ∧ Below w.heap.size w w' := by
  induction hc with
  | known hg => intro w hK hK' hab hb; rw [cld_known (.inl (by rw [hg]; rfl))]; exact clashDown_known hS hg w hK hab hb
  | @above a b x y hg h2 hcx hcy hx hy ihx ihy =>
    intro w hK hK' hab hb
    have p := hf_pos (b - a)
    have q := hf_lt (b - a) (by omega)
    have hu := hU a (a + hf (b - a)) (by omega) (by omega)
    have hv := hU (a + hf (b - a)) b (by omega) hb
    rw [cld_above hg h2, ← hcx.cmg, ← hcy.cmg]
    exact clashDown_above hS hS' hg h2 hN hx hy hu.2 hv.2 (fun w' hk => node_any hS hN hcx w' hk (by omega) (by omega)) (fun w' hk => node_any hS hN hcy w' hk (by omega) hb)
      (fun w' hk => node_any hS' hN hu.1 w' hk (by omega) (by omega)) (fun w' hk => node_any hS' hN hv.1 w' hk (by omega) hb)
      (fun w' h1 h2 => ihx w' h1 h2 (by omega) (by omega)) (fun w' h1 h2 => ihy w' h1 h2 (by omega) hb) w hK hK' hb

/-- What Clash tells of two trees. -/
def cls (g : Nat → Nat → Option Nd) (U : Nat → Nat → Nd) (n : Nat) : Option (List UInt8 × List UInt8) :=
  if hdText n (cmg g 0 n) = hdText n (U 0 n) then cld g U 0 n else some (hdText n (cmg g 0 n), hdText n (U 0 n))

set_option maxHeartbeats 4000000 in
set_option maxRecDepth 100000 in
theorem clash_any {U : Nat → Nat → Nd} {n : Nat} (hS : Src k B K N g) (hS' : Src k' B' K' N g') (hN : N ≤ 64) (hn : n ≤ N) (hU : ∀ a b, a ≤ b → b ≤ N → Comes g' a b (U a b) ∧ (U a b).mid) {d : Nd} (hc : Comes g 0 n d) (hd : d.mid) (w : World) (hK : K w) (hK' : K' w) :
    Calls Tryz.prog 38 #[.int .i64 n, cloV k B, cloV k' B'] w fun e w' => e = .returned (clV (cls g U n)) ∧ Below w.heap.size w w' := by
  have HH1 : ∀ w', Hid (K w' → Calls Tryz.prog 72 #[.int .i64 n, cloV k B] w' fun e w2 => e = .returned (.string ⟨(hdText n d).toArray⟩) ∧ Below w'.heap.size w' w2) := fun w' => hid fun h => headText_any hS hN hn hc hd w' h
  have HH2 : ∀ w', Hid (K' w' → Calls Tryz.prog 72 #[.int .i64 n, cloV k' B'] w' fun e w2 => e = .returned (.string ⟨(hdText n (U 0 n)).toArray⟩) ∧ Below w'.heap.size w' w2) := fun w' => hid fun h => headText_any hS' hN hn (hU 0 n (by omega) hn).1 (hU 0 n (by omega) hn).2 w' h
  have HD : ∀ w', Hid (K w' → K' w' → Calls Tryz.prog 77 #[paV 0 n, cloV k B, cloV k' B'] w' fun e w2 => e = .returned (clV (cld g U 0 n)) ∧ Below w'.heap.size w' w2) := fun w' => hid fun h1 h2 => clashDown_any hS hS' hN hU hc w' h1 h2 (by omega) hn
  have HK : Hid (∀ w', Below w.heap.size w w' → K w' ∧ K' w') := hid fun w' h => ⟨hS.keep w w' hK h, hS'.keep w w' hK' h⟩
  obtain ⟨R, hR⟩ : ∃ R, R = cls g U n := ⟨_, rfl⟩
  rw [← hR]
  unfold cls at hR
  rw [← hc.cmg] at hR
  have HR := hid hR
  clear hR hS hS' hN hn hU hc hd hK hK'
  generalize hdText n d = P at HH1 HR
  generalize hdText n (U 0 n) = Q at HH2 HR
  generalize cld g U 0 n = r at HD HR
  simp only [paV, Int.ofNat_zero] at HD
  unfold cloV at HH1 HH2 HD ⊢
  go_enter Tryz.func38, Tryz.ntmps38
  go_wp2_with fail
  refine ((HH1 w).out (HK.out w (Below.refl _ _)).1).mono ?_
  rintro e w1 ⟨rfl, hb1⟩
  go_wp2_with fail
  refine ((HH2 w1).out (HK.out w1 hb1).2).mono ?_
  rintro e w2 ⟨rfl, hb2⟩
  have HB2 := hid (hb1.trans (hb2.mono hb1.size))
  clear hb1 hb2 HH1 HH2
  by_cases hPQ : P = Q
  · subst hPQ
    have HR1 : Hid (R = r) := hid (by rw [HR.out, if_pos rfl])
    go_wp2_with fail
    refine ((HD w2).out (HK.out w2 HB2.out).1 (HK.out w2 HB2.out).2).mono ?_
    rintro e w3 ⟨rfl, hb3⟩
    have HB3 := hid (HB2.out.trans (hb3.mono HB2.out.size))
    clear hb3 HD HK HR
    cases r with
    | some p =>
      simp only [clV]
      go_wp2
      exact bodyPost_ret (v := clV (some p)) (by simp [results, Tryz.results38, go_sem, clV]) rfl ⟨by rw [HR1.out], HB3.out⟩
    | none =>
      simp only [clV]
      go_wp2
      exact bodyPost_ret (v := clV none) (by simp [results, Tryz.results38, go_sem, clV]) rfl ⟨by rw [HR1.out], HB3.out⟩
  · have HR1 : Hid (R = some (P, Q)) := hid (by rw [HR.out, if_neg hPQ])
    have hne : (P == Q) = false := by simpa using hPQ
    clear HR HK HD
    go_wp2
    exact bodyPost_ret (v := clV (some (P, Q))) (by simp [results, Tryz.results38, go_sem, clV]) rfl ⟨by rw [HR1.out], HB2.out⟩
end

end Go.Proofs.YtogmdaopfnmobaaGreat

