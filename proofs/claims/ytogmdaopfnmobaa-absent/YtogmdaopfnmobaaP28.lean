/- What a proof's nodes come to for the older log that begins the newer. -/
import Derived.Test.YtogmdaopfnmobaaP27
import Derived.Test.YtogmdaopfnmobaaP10
import Derived.Test.YtogmdaopfnmobaaP05
namespace Go.Proofs.Ytogmdaopfnmobaa
open Go.RowKit

/-- The nodes whose parts lie in the range, put together from the right; is it still the first? -/
def bgz : List (Sp × Nd) → Nd × Bool
  | [] => (.E, true)
  | q :: l => if q.1.i then (if (bgz l).2 then (q.2, false) else (ab q.2 (bgz l).1, false)) else bgz l
def tc (l : List (Sp × Nd)) : Int := (l.map (·.2.c)).sum
def ts (l : List (Sp × Nd)) : Int := (l.map (·.2.s)).sum
theorem nb_up {n m : Nat} {d : Nd} (h : nb n d) (hm : n ≤ m) : nb m d := by unfold nb at *; omega
theorem bgz_nb : ∀ (l : List (Sp × Nd)), (∀ q ∈ l, q.2.ok = true) → nb l.length (bgz l).1 ∧ (bgz l).1.c ≤ tc l ∧ (bgz l).1.s ≤ ts l ∧ 0 ≤ tc l ∧ 0 ≤ ts l
  | [], _ => by
    refine ⟨?_, ?_, ?_, ?_, ?_⟩ <;> simp [nb, bgz, Nd.E, tc, ts]
  | q :: l, h => by
    obtain ⟨i1, i2, i3, i4, i5⟩ := bgz_nb l (fun x hx => h x (by simp [hx]))
    have hq := nb_ok (h q (by simp))
    have ec : tc (q :: l) = q.2.c + tc l := by simp [tc]
    have es : ts (q :: l) = q.2.s + ts l := by simp [ts]
    have hq' := hq
    unfold nb at hq'
    rw [ec, es]
    simp only [bgz, List.length_cons]
    cases q.1.i with
    | false => simp only [Bool.false_eq_true, if_false]; exact ⟨nb_up i1 (by omega), by omega, by omega, by omega, by omega⟩
    | true =>
      cases (bgz l).2 with
      | true => simp only [if_true]; exact ⟨nb_up hq (by omega), by omega, by omega, by omega, by omega⟩
      | false =>
        simp only [if_true, Bool.false_eq_true, if_false]
        refine ⟨by rw [Nat.add_comm]; exact nb_ab hq i1, ?_, ?_, by omega, by omega⟩
        · rw [ab_c]; omega
        · rw [ab_s]; omega
theorem tc_drop (l : List (Sp × Nd)) (h : ∀ q ∈ l, q.2.ok = true) (j : Nat) : tc (l.drop j) ≤ tc l ∧ ts (l.drop j) ≤ ts l := by
  induction l generalizing j with
  | nil => simp
  | cons q l ih =>
    cases j with
    | zero => simp
    | succ j =>
      have := ih (fun x hx => h x (by simp [hx])) j
      have hq := nb_ok (h q (by simp))
      unfold nb at hq
      have ec : tc (q :: l) = q.2.c + tc l := by simp [tc]
      have es : ts (q :: l) = q.2.s + ts l := by simp [ts]
      rw [List.drop_succ_cons, ec, es]
      omega
theorem tc_app (l m : List (Sp × Nd)) : tc (l ++ m) = tc l + tc m ∧ ts (l ++ m) = ts l + ts m := by simp [tc, ts]
theorem zip_cov {a b f t : Nat} (ns : List Nd) (hs : ¬ (isOut a b f t = true ∨ isIn a b f t = true ∨ b < a + 2)) (hl : (cov a (a + hf (b - a)) f t).length ≤ ns.length) : (cov a b f t).zip ns = (cov a (a + hf (b - a)) f t).zip ns ++ (cov (a + hf (b - a)) b f t).zip (ns.drop (cov a (a + hf (b - a)) f t).length) := by
  have hzt : (cov a (a + hf (b - a)) f t).zip (ns.take (cov a (a + hf (b - a)) f t).length) = (cov a (a + hf (b - a)) f t).zip ns := by
    have := List.zip_append (l₁ := cov a (a + hf (b - a)) f t) (r₁ := []) (l₂ := ns.take (cov a (a + hf (b - a)) f t).length) (r₂ := ns.drop (cov a (a + hf (b - a)) f t).length) (by simp; omega)
    simp only [List.append_nil, List.take_append_drop, List.zip_nil_left] at this
    exact this.symm
  rw [← hzt, cov_2 hs]
  conv => lhs; rw [← List.take_append_drop (cov a (a + hf (b - a)) f t).length ns]
  rw [List.zip_append (by simp; omega)]
/-- The whole's count and sum are those of the nodes. -/
theorem cm_tc (f t : Nat) : ∀ (n a b : Nat) (ns : List Nd), b - a ≤ n → (cov a b f t).length ≤ ns.length → (cm a b f t ns).c = tc ((cov a b f t).zip ns) ∧ (cm a b f t ns).s = ts ((cov a b f t).zip ns) := by
  intro n
  induction n with
  | zero =>
    intro a b ns h hl
    rw [cm_one ns (.inr (.inr (by omega)))]
    rw [cov_1 (.inr (.inr (by omega)))] at hl ⊢
    cases ns with
    | nil => simp at hl
    | cons d r => simp [tc, ts]
  | succ n ih =>
    intro a b ns h hl
    by_cases hs : isOut a b f t = true ∨ isIn a b f t = true ∨ b < a + 2
    · rw [cm_one ns hs]
      rw [cov_1 hs] at hl ⊢
      cases ns with
      | nil => simp at hl
      | cons d r => simp [tc, ts]
    · have p := hf_pos (b - a)
      have q := hf_lt (b - a) (by omega)
      have hl' := hl
      rw [cov_2 hs, List.length_append] at hl'
      obtain ⟨l1, l2⟩ := ih a (a + hf (b - a)) ns (by omega) (by omega)
      obtain ⟨r1, r2⟩ := ih (a + hf (b - a)) b (ns.drop (cov a (a + hf (b - a)) f t).length) (by omega) (by simp; omega)
      obtain ⟨t1, t2⟩ := tc_app ((cov a (a + hf (b - a)) f t).zip ns) ((cov (a + hf (b - a)) b f t).zip (ns.drop (cov a (a + hf (b - a)) f t).length))
      rw [cm_two ns hs, zip_cov ns hs (by omega), ab_c, ab_s, l1, l2, r1, r2, t1, t2]
      exact ⟨rfl, rfl⟩
/-- Whatever is put together of a proof that may be, may be. -/
theorem bgz_ok {n f t : Nat} {ns : List Nd} (hl : ns.length = (cov 0 n f t).length) (hok : ∀ d ∈ ns, d.ok = true) (hc : (cm 0 n f t ns).ok = true) (j : Nat) : (bgz (((cov 0 n f t).zip ns).drop j)).1.ok = true := by
  have hz : ∀ q ∈ (cov 0 n f t).zip ns, q.2.ok = true := fun q hq => hok _ (List.of_mem_zip hq).2
  obtain ⟨b1, b2, b3, _, _⟩ := bgz_nb (((cov 0 n f t).zip ns).drop j) (fun q hq => hz q (List.mem_of_mem_drop hq))
  have d := tc_drop _ hz j
  obtain ⟨t1, t2⟩ := cm_tc f t n 0 n ns (by omega) (by omega)
  have o := (ok_nb (cm_nb f t n 0 n ns (by omega) hok)).1 hc
  exact (ok_nb b1).2 (by omega)

/-- What the nodes come to for the places from a on and ahead of o. -/
def bgn (a b o : Nat) (ns : List Nd) : Nd :=
  if b ≤ o ∨ b < a + 2 then ns.headD .E else if o ≤ a + hf (b - a) then bgn a (a + hf (b - a)) o ns else ab (ns.headD .E) (bgn (a + hf (b - a)) b o ns.tail)
termination_by b - a
decreasing_by
  · have := hf_lt (b - a) (by omega); omega
  · have := hf_pos (b - a); omega
theorem bgn_1 {a b o : Nat} (ns : List Nd) (h : b ≤ o ∨ b < a + 2) : bgn a b o ns = ns.headD .E := by rw [bgn, if_pos h]
theorem bgn_2 {a b o : Nat} (ns : List Nd) (h : ¬ (b ≤ o ∨ b < a + 2)) (h2 : o ≤ a + hf (b - a)) : bgn a b o ns = bgn a (a + hf (b - a)) o ns := by rw [bgn, if_neg h, if_pos h2]
theorem bgn_3 {a b o : Nat} (ns : List Nd) (h : ¬ (b ≤ o ∨ b < a + 2)) (h2 : ¬ o ≤ a + hf (b - a)) : bgn a b o ns = ab (ns.headD .E) (bgn (a + hf (b - a)) b o ns.tail) := by rw [bgn, if_neg h, if_neg h2]
theorem cov_inZ {a b o : Nat} (h : a < b) (h2 : b ≤ o) : cov a b 0 o = [⟨a, b, true⟩] := by
  have : isIn a b 0 o = true := decide_eq_true ⟨by omega, by omega, by omega, by omega⟩
  rw [cov_1 (.inr (.inl this)), this]
theorem cov_out {a b o : Nat} (h2 : o ≤ a) : cov a b 0 o = [⟨a, b, false⟩] := by
  have : isOut a b 0 o = true := decide_eq_true (.inr (.inl h2))
  have h3 : isIn a b 0 o = false := decide_eq_false (by omega)
  rw [cov_1 (.inl this), h3]
theorem cov_mid {a b o : Nat} (h : a < o) (h2 : o < b) : ¬ (isOut a b 0 o = true ∨ isIn a b 0 o = true ∨ b < a + 2) := by
  unfold isOut isIn
  simp only [decide_eq_true_eq]
  omega
theorem bgz_out {q : Sp × Nd} {l : List (Sp × Nd)} (h : q.1.i = false) : bgz (q :: l) = bgz l := by simp [bgz, h]
theorem bgz_cov (o : Nat) : ∀ (n a b : Nat) (ns : List Nd) (post : List (Sp × Nd)), b - a ≤ n → a < o → o ≤ b → (cov a b 0 o).length ≤ ns.length → bgz post = (.E, true) → bgz ((cov a b 0 o).zip ns ++ post) = (bgn a b o ns, false) := by
  intro n
  induction n with
  | zero => intro a b ns post h ha ho; omega
  | succ n ih =>
    intro a b ns post h ha ho hl hp
    by_cases e : o = b
    · subst e
      rw [bgn_1 ns (.inl (Nat.le_refl _))]
      rw [cov_inZ ha (Nat.le_refl _)] at hl ⊢
      cases ns with
      | nil => simp at hl
      | cons d r => simp [bgz, hp]
    · have hs := cov_mid ha (show o < b by omega)
      have hb : ¬ (b ≤ o ∨ b < a + 2) := by omega
      have p := hf_pos (b - a)
      have q := hf_lt (b - a) (by omega)
      have hl' := hl
      rw [cov_2 hs, List.length_append] at hl'
      rw [zip_cov ns hs (by omega), List.append_assoc]
      by_cases hk : o ≤ a + hf (b - a)
      · rw [bgn_2 ns hb hk]
        have he : (cov (a + hf (b - a)) b 0 o) = [⟨a + hf (b - a), b, false⟩] := cov_out hk
        refine ih a (a + hf (b - a)) ns _ (by omega) ha hk (by omega) ?_
        rw [he]
        cases ns.drop (cov a (a + hf (b - a)) 0 o).length with
        | nil => simpa using hp
        | cons d r => simp only [List.zip_cons_cons, List.zip_nil_left, List.cons_append, List.nil_append]; rw [bgz_out rfl]; exact hp
      · rw [bgn_3 ns hb hk]
        have he : (cov a (a + hf (b - a)) 0 o) = [⟨a, a + hf (b - a), true⟩] := cov_inZ (by omega) (by omega)
        rw [he] at hl' ⊢
        cases ns with
        | nil => simp at hl'
        | cons d r =>
          have := ih (a + hf (b - a)) b r post (by omega) (by omega) ho (by simp at hl'; omega) hp
          simp only [List.zip_cons_cons, List.zip_nil_left, List.length_cons, List.length_nil, List.drop_succ_cons, List.drop_zero, List.cons_append, List.nil_append, List.headD_cons, List.tail_cons]
          simp only [bgz, this]
          simp
theorem bgz_whole {o n : Nat} {ns : List Nd} (h1 : 1 ≤ o) (h2 : o ≤ n) (hl : ns.length = (cov 0 n 0 o).length) : (bgz ((cov 0 n 0 o).zip ns)).1 = bgn 0 n o ns := by
  have := bgz_cov o n 0 n ns [] (by omega) (by omega) h2 (by omega) rfl
  rw [List.append_nil] at this
  rw [this]
theorem bgn_nb {o a b : Nat} {ns : List Nd} (h1 : a < o) (h2 : o ≤ b) (hl : (cov a b 0 o).length ≤ ns.length) (hok : ∀ d ∈ ns, d.ok = true) : nb (cov a b 0 o).length (bgn a b o ns) := by
  have e := bgz_cov o (b - a) a b ns [] (by omega) h1 h2 hl rfl
  have := (bgz_nb ((cov a b 0 o).zip ns) (fun q hq => hok _ (List.of_mem_zip hq).2)).1
  rw [List.append_nil] at e
  rw [e] at this
  simp only [List.length_zip] at this
  exact nb_up this (by omega)
theorem hf_mid {m k : Nat} (h1 : hf m < k) (h2 : k ≤ m) (hm : 2 ≤ m) : hf k = hf m := by
  have := hf_big m hm
  unfold hf at this h1 ⊢
  have := hf_is k (m - 1).log2 h1 (by omega)
  unfold hf at this
  exact this
/-- By the parts that are known, the older log comes to that. -/
theorem comes_bgn (o : Nat) : ∀ (n a b : Nat) (ns : List Nd) (pre post : List (Sp × Nd)), b - a ≤ n → a < o → o ≤ b → b ≤ 64 → (cov a b 0 o).length ≤ ns.length → (∀ d ∈ ns, d.ok = true) → (∀ q ∈ pre, q.1.b ≤ a) → (∀ q ∈ post, b ≤ q.1.a) →
    Comes (gL (pre ++ (cov a b 0 o).zip ns ++ post)) a o (bgn a b o ns) := by
  intro n
  induction n with
  | zero => intro a b ns pre post h ha ho; omega
  | succ n ih =>
    intro a b ns pre post h ha ho hb hl hok hp hq
    by_cases e : o = b
    · subst e
      rw [bgn_1 ns (.inl (Nat.le_refl _))]
      rw [cov_inZ ha (Nat.le_refl _)] at hl ⊢
      cases ns with
      | nil => simp at hl
      | cons d r =>
        refine .known ?_
        have hz : gL post a o = none := gL_none (fun q hq' c => by have := hq q hq'; omega)
        rw [gL_append, hz, gL_append]
        simp [gL]
    · have hs := cov_mid ha (show o < b by omega)
      have hb' : ¬ (b ≤ o ∨ b < a + 2) := by omega
      have p := hf_pos (b - a)
      have q := hf_lt (b - a) (by omega)
      have hlm := cov_mem 0 o n a (a + hf (b - a)) (by omega) (by omega)
      have hrm := cov_mem 0 o n (a + hf (b - a)) b (by omega) (by omega)
      have hl' := hl
      rw [cov_2 hs, List.length_append] at hl'
      rw [zip_cov ns hs (by omega)]
      by_cases hk : o ≤ a + hf (b - a)
      · rw [bgn_2 ns hb' hk]
        have := ih a (a + hf (b - a)) ns pre ((cov (a + hf (b - a)) b 0 o).zip (ns.drop (cov a (a + hf (b - a)) 0 o).length) ++ post) (by omega) ha hk (by omega) (by omega) hok hp (fun qq h1 => by
          rcases List.mem_append.1 h1 with h1 | h1
          · exact (hrm qq.1 (List.of_mem_zip h1).1).1
          · have := hq qq h1; omega)
        simpa [List.append_assoc] using this
      · rw [bgn_3 ns hb' hk]
        have hh : hf (o - a) = hf (b - a) := hf_mid (by omega) (by omega) (by omega)
        have he : (cov a (a + hf (b - a)) 0 o) = [⟨a, a + hf (b - a), true⟩] := cov_inZ (by omega) (by omega)
        have key : ∀ qq ∈ pre ++ ((cov a (a + hf (b - a)) 0 o).zip ns ++ (cov (a + hf (b - a)) b 0 o).zip (ns.drop (cov a (a + hf (b - a)) 0 o).length)) ++ post, ¬ (qq.1.a = a ∧ qq.1.b = o) := by
          intro qq hqq c
          simp only [List.mem_append] at hqq
          rcases hqq with (h1 | h1 | h1) | h1
          · have := hp qq h1; omega
          · have := hlm qq.1 (List.of_mem_zip h1).1; omega
          · have := hrm qq.1 (List.of_mem_zip h1).1; omega
          · have := hq qq h1; omega
        have hnone := gL_none key
        rw [he] at hl' hnone ⊢
        cases ns with
        | nil => simp at hl'
        | cons d r =>
          simp only [List.length_cons, List.length_nil] at hl'
          have hr : ∀ x ∈ r, x.ok = true := fun x hx => hok x (by simp [hx])
          have hnb := bgn_nb (o := o) (a := a + hf (b - a)) (b := b) (ns := r) (by omega) ho (by omega) hr
          have hlen := (cov_len 0 o (b - (a + hf (b - a))) (a + hf (b - a)) b (by omega)).2
          simp only [List.zip_cons_cons, List.zip_nil_left, List.length_cons, List.length_nil, List.drop_succ_cons, List.drop_zero, List.headD_cons, List.tail_cons] at hnone ⊢
          refine .above hnone (by omega) ?_ ?_ (mid_nb (nb_ok (hok d (by simp))) (by omega)) (mid_nb hnb (by omega))
          · rw [hh]
            refine .known ?_
            have hz : gL post a (a + hf (b - a)) = none := gL_none (fun q hq' c => by have := hq q hq'; omega)
            have hz2 : gL ((cov (a + hf (b - a)) b 0 o).zip r) a (a + hf (b - a)) = none := gL_none (fun q hq' c => by have := hrm q.1 (List.of_mem_zip hq').1; omega)
            rw [gL_append, hz, gL_append, gL_append, hz2]
            simp [gL]
          · rw [hh]
            have := ih (a + hf (b - a)) b r (pre ++ [(⟨a, a + hf (b - a), true⟩, d)]) post (by omega) (by omega) ho hb (by omega) hr (fun qq h1 => by
              rcases List.mem_append.1 h1 with h1 | h1
              · have := hp qq h1; omega
              · simp at h1; subst h1; exact Nat.le_refl _) hq
            simpa [List.append_assoc] using this

end Go.Proofs.Ytogmdaopfnmobaa

/- An honest proof: what its nodes come to; a text that is cut short. -/
namespace Go.Proofs.Ytogmdaopfnmobaa
open Go.RowKit

theorem cn_app (lf : Nat → Nd) (l m : List Sp) : cn lf (l ++ m) = cn lf l ++ cn lf m := by simp [cn]
/-- The nodes of a tree's cover come to the tree's own node. -/
theorem cm_cn (lf : Nat → Nd) (f t : Nat) : ∀ (n a b : Nat) (rest : List Nd), b - a ≤ n → cm a b f t (cn lf (cov a b f t) ++ rest) = tr lf a b := by
  intro n
  induction n with
  | zero => intro a b rest h; rw [cov_1 (.inr (.inr (by omega))), cm_one _ (.inr (.inr (by omega)))]; rfl
  | succ n ih =>
    intro a b rest h
    by_cases hs : isOut a b f t = true ∨ isIn a b f t = true ∨ b < a + 2
    · rw [cov_1 hs, cm_one _ hs]; rfl
    · have p := hf_pos (b - a)
      have q := hf_lt (b - a) (by omega)
      rw [cov_2 hs, cm_two _ hs, cn_app, List.append_assoc, ih a (a + hf (b - a)) _ (by omega)]
      have hl : (cov a (a + hf (b - a)) f t).length = (cn lf (cov a (a + hf (b - a)) f t)).length := by simp [cn]
      rw [hl, List.drop_left, ih _ b _ (by omega), ← tr_two lf a b (by omega)]
/-- And for the older tree to the older tree's. -/
theorem bgn_cn (lf : Nat → Nd) (o : Nat) : ∀ (n a b : Nat) (rest : List Nd), b - a ≤ n → a < o → o ≤ b → bgn a b o (cn lf (cov a b 0 o) ++ rest) = tr lf a o := by
  intro n
  induction n with
  | zero => intro a b rest h ha ho; omega
  | succ n ih =>
    intro a b rest h ha ho
    by_cases e : o = b
    · subst e
      rw [bgn_1 _ (.inl (Nat.le_refl _)), cov_inZ ha (Nat.le_refl _)]; rfl
    · have hs := cov_mid ha (show o < b by omega)
      have hb : ¬ (b ≤ o ∨ b < a + 2) := by omega
      have p := hf_pos (b - a)
      have q := hf_lt (b - a) (by omega)
      rw [cov_2 hs, cn_app, List.append_assoc]
      by_cases hk : o ≤ a + hf (b - a)
      · rw [bgn_2 _ hb hk]
        exact ih a (a + hf (b - a)) _ (by omega) ha hk
      · have hh : hf (o - a) = hf (b - a) := hf_mid (by omega) (by omega) (by omega)
        rw [bgn_3 _ hb hk, cov_inZ (show a < a + hf (b - a) by omega) (show a + hf (b - a) ≤ o by omega)]
        have := ih (a + hf (b - a)) b rest (by omega) (by omega) ho
        rw [tr_two lf a o (by omega), hh]
        show ab (tr lf a (a + hf (b - a))) (bgn (a + hf (b - a)) b o (cn lf (cov (a + hf (b - a)) b 0 o) ++ rest)) = _
        rw [this]
/-- A proof's text that lies ahead of another's, and is not all of it, has another number of nodes. -/
theorem marks_cut : ∀ (l m : List Nd) (x : List UInt8), l.all Nd.ok = true → m.all Nd.ok = true → marks l ++ x = marks m → x ≠ [] → l.length < m.length
  | [], [], x, _, _, h, hx => by simp [marks] at h; exact absurd h hx
  | [], _ :: _, _, _, _, _, _ => by simp
  | d :: l, [], x, h1, _, h, _ => by
    have := rdMark_mark d (by simp at h1; exact h1.1) (marks l ++ x)
    have e : d.mark ++ (marks l ++ x) = [] := by simpa [marks] using h
    rw [e] at this
    simp [rdMark] at this
  | d :: l, e :: m, x, h1, h2, h, hx => by
    simp only [List.all_cons, Bool.and_eq_true] at h1 h2
    have a := rdMark_mark d h1.1 (marks l ++ x)
    have b := rdMark_mark e h2.1 (marks m)
    have c : d.mark ++ (marks l ++ x) = e.mark ++ marks m := by simpa [marks] using h
    rw [c, b] at a
    simp only [Option.some.injEq, Prod.mk.injEq] at a
    have := marks_cut l m x h1.2 h2.2 a.2.symm hx
    simp; omega
/-- A text that is cut short, or that has more behind it, is no proof with as many nodes. -/
theorem read_cut {l m : List Nd} {t x : List UInt8} (hm : m.all Nd.ok = true) (h : t ++ x = marks m) (hx : x ≠ []) (hr : readR t = some l) : l.length < m.length := by
  obtain ⟨_, h2, h3⟩ := write_read _ _ hr
  exact marks_cut l m x h2 hm (by rw [h3]; exact h) hx
theorem read_more {l m : List Nd} {x : List UInt8} (hm : m.all Nd.ok = true) (hx : x ≠ []) (hr : readR (marks m ++ x) = some l) : m.length < l.length := by
  obtain ⟨_, h2, h3⟩ := write_read _ _ hr
  exact marks_cut m l x hm h2 h3.symm hx

end Go.Proofs.Ytogmdaopfnmobaa

/- What Check does. -/
namespace Go.Proofs.Ytogmdaopfnmobaa
open Go.RowKit
attribute [local go_sem ↓] run_neq_digest

set_option maxRecDepth 100000 in
theorem run_neq_fold (w : World) (c s m x c' s' m' x' : Int) :
    (binOp .neq 29 (.agg #[.int .i64 c, .int .i64 s, .int .i64 m, .int .i64 x]) (.agg #[.int .i64 c', .int .i64 s', .int .i64 m', .int .i64 x'])).run Try.prog w = .ok (.bool (!decide (c = c' ∧ s = s' ∧ m = m' ∧ x = x'))) w := by
  go_simp
  by_cases a : c = c' <;> by_cases b : s = s' <;> by_cases d : m = m' <;> by_cases e : x = x' <;> simp [a, b, d, e]
attribute [local go_sem ↓] run_neq_fold
set_option maxRecDepth 100000 in
theorem run_field_root (w : World) (n a b : Int) : (Instr.field 44 (.agg #[.int .i64 n, .int .u8 a, .int .u8 b]) 1).run Try.prog w = .ok (.agg #[.int .u8 a, .int .u8 b]) w := by
  unfold Instr.field
  simp [go_sem, asAgg]
attribute [local go_sem ↓] run_field_root
/-- What Check answers, where the head and the range may be. -/
def ckE (n f t : Nat) (h0 h1 : Int) (claim : Fo) (o : Option (List Nd)) : Int :=
  match o with
  | none => 7
  | some ns =>
    if ns.length ≠ (cov 0 n f t).length then 8
    else if (cm 0 n f t ns).ok = false then 6
    else if (dg (hdText n (cm 0 n f t ns)) : Int) / 256 ≠ h0 ∨ (dg (hdText n (cm 0 n f t ns)) : Int) % 256 ≠ h1 then 9
    else if fz ((cov 0 n f t).zip ns) ≠ claim then 10
    else 0
theorem ckE_rt {n f t : Nat} {h0 h1 : Int} {claim : Fo} {o : Option (List Nd)} (h : rtE n f t o ≠ 0) : ckE n f t h0 h1 claim o = rtE n f t o := by
  unfold ckE rtE at *
  cases o with
  | none => rfl
  | some ns =>
    simp only at h ⊢
    by_cases hl : ns.length = (cov 0 n f t).length
    · rw [if_pos hl] at h ⊢
      cases ho : (cm 0 n f t ns).ok with
      | true => rw [ho] at h; simp at h
      | false => simp [hl]
    · simp [hl]

set_option maxHeartbeats 2000000 in
set_option maxRecDepth 100000 in
theorem check_bad (tree n f t h0 h1 : Int) (c s m x : Int) (p : ByteArray) (w : World) (h : szB tree n = false ∨ rgB f t n = false) :
    Calls Try.prog 18 #[.int .i64 tree, .agg #[.int .i64 n, .int .u8 h0, .int .u8 h1], .int .i64 f, .int .i64 t, .agg #[.int .i64 c, .int .i64 s, .int .i64 m, .int .i64 x], .string p] w fun e w' => e = .returned (.int .i64 5) ∧ Below w.heap.size w w' := by
  cases hz : szB tree n with
  | false =>
    clear h
    go_enter Try.func18, Try.ntmps18
    go_wp2_with (go_at_call 41; refine (isSize_any _ _ _).mono ?_; rintro e w2 ⟨rfl, hw2⟩; rw [hz, hw2]; clear hw2 w2)
    go_ret
    exact ⟨rfl, ((Below.refl _ _).alloc (Nat.le_refl _) _).alloc (by simp) _⟩
  | true =>
    have hr : rgB f t n = false := by rcases h with h | h; rw [hz] at h; cases h; exact h
    clear h
    go_enter Try.func18, Try.ntmps18
    go_wp2_with (first | (go_at_call 41; refine (isSize_any _ _ _).mono ?_; rintro e w2 ⟨rfl, hw2⟩; rw [hz, hw2]; clear hw2 w2) | (go_at_call 43; refine (isRange_any _ _ _ _).mono ?_; rintro e w2 ⟨rfl, hw2⟩; rw [hr, hw2]; clear hw2 w2))
    go_ret
    exact ⟨rfl, ((Below.refl _ _).alloc (Nat.le_refl _) _).alloc (by simp) _⟩

set_option maxHeartbeats 4000000 in
set_option maxRecDepth 100000 in
theorem check_good (tree : Int) (n f t : Nat) (h0 h1 : Int) (c s m x : Int) (p : ByteArray) (w : World) (hz : szB tree n = true) (hn : n ≤ 64) (hft : f ≤ t) (htn : t ≤ n) (hs : p.size ≤ maxLen) :
    Calls Try.prog 18 #[.int .i64 tree, .agg #[.int .i64 n, .int .u8 h0, .int .u8 h1], .int .i64 f, .int .i64 t, .agg #[.int .i64 c, .int .i64 s, .int .i64 m, .int .i64 x], .string p] w fun e w' => e = .returned (.int .i64 (ckE n f t h0 h1 ⟨c, s, m, x⟩ (readR p.data.toList))) ∧ Below w.heap.size w w' := by
  have hr : rgB f t n = true := decide_eq_true ⟨by omega, by omega, by omega⟩
  obtain ⟨W1, hW1⟩ : ∃ W1, W1 = ((w.alloc (.cells #[.int .i64 n, .int .u8 h0, .int .u8 h1] 44)).alloc (.cells #[.int .i64 c, .int .i64 s, .int .i64 m, .int .i64 x] 29)).alloc (.cells #[.int .i64 f, .int .i64 t] 96) := ⟨_, rfl⟩
  have hz1 : W1.heap.size = w.heap.size + 3 := by rw [hW1]; simp
  have hB1 : Below w.heap.size w W1 := by rw [hW1]; exact ((((Below.refl _ _).alloc (Nat.le_refl _) _).alloc (by simp) _).alloc (by simp; omega) _)
  have hh1 : W1.heap[w.heap.size]? = some (.cells #[.int .i64 n, .int .u8 h0, .int .u8 h1] 44 (0, 0)) := by rw [hW1]; exact heap_three w _ _ _ _ rfl
  have hf1 : FoAt W1 (w.heap.size + 1) ⟨c, s, m, x⟩ := by rw [hW1]; exact (FoAt.at (w.alloc _) _ (by simp) ⟨c, s, m, x⟩).alloc _
  have hp1 : PaAt W1 (w.heap.size + 1 + 1) f t := by rw [hW1]; exact PaAt.at _ _ (by simp) f t
  have HCS : Hid (∀ w', Below W1.heap.size W1 w' → (w'.cell? ⟨w.heap.size, 0, none⟩ = some (.int .i64 n) ∧ w'.cell? ⟨w.heap.size, 1, none⟩ = some (.int .u8 h0) ∧ w'.cell? ⟨w.heap.size, 2, none⟩ = some (.int .u8 h1)) ∧ (w'.cell? ⟨w.heap.size + 1 + 1, 0, none⟩ = some (.int .i64 f) ∧ w'.cell? ⟨w.heap.size + 1 + 1, 1, none⟩ = some (.int .i64 t)) ∧ FoAt w' (w.heap.size + 1) ⟨c, s, m, x⟩ ∧ Below w.heap.size w w') := hid fun w' hb => by
    have e := (hb.block w.heap.size (by omega)).trans hh1
    exact ⟨⟨by rw [cell_of_row w' _ _ _ _ _ e]; rfl, by rw [cell_of_row w' _ _ _ _ _ e]; rfl, by rw [cell_of_row w' _ _ _ _ _ e]; rfl⟩, (hp1.below hb).cells, hf1.below hb (by omega), hB1.trans (hb.mono (by omega))⟩
  have HRT := hid (readTree_any n f t p W1 hn htn hs)
  have HOK : Hid (∀ ns, readR p.data.toList = some ns → ∀ d ∈ ns, d.ok = true) := hid fun ns ho => List.all_eq_true.1 (write_read _ _ ho).2.1
  generalize readR p.data.toList = o at HRT HOK ⊢
  by_cases h0e : rtE n f t o = 0
  · obtain ⟨ns, ho⟩ : ∃ ns, o = some ns := by
      cases o with
      | none => simp [rtE] at h0e
      | some ns => exact ⟨ns, rfl⟩
    subst ho
    have hok := HOK.out ns rfl
    have hlen : ns.length = (cov 0 n f t).length := by
      by_cases hl : ns.length = (cov 0 n f t).length
      · exact hl
      · simp [rtE, hl] at h0e
    have hcok : (cm 0 n f t ns).ok = true := by
      cases hc : (cm 0 n f t ns).ok with
      | true => rfl
      | false => simp [rtE, hlen, hc] at h0e
    have hcm := comes_cm f t n 0 n ns [] [] (by omega) (by omega) hn (by omega) hok (fun _ => ⟨rfl, rfl⟩) (by simp) (by simp)
    simp only [List.nil_append, List.append_nil] at hcm
    have hE : ckE n f t h0 h1 ⟨c, s, m, x⟩ (some ns) = if (dg (hdText n (cm 0 n f t ns)) : Int) / 256 ≠ h0 ∨ (dg (hdText n (cm 0 n f t ns)) : Int) % 256 ≠ h1 then 9 else if fz ((cov 0 n f t).zip ns) ≠ ⟨c, s, m, x⟩ then 10 else 0 := by
      simp only [ckE]
      rw [if_neg (by simpa using hlen), if_neg (by simp [hcok])]
    have HH : ∀ B M w', Hid (pfK B M (gL ((cov 0 n f t).zip ns)) w' → Calls Try.prog 42 #[.int .i64 n, cloV 107 B] w' fun e w2 => e = .returned (hdV n (dg (hdText n (cm 0 n f t ns)))) ∧ Below w'.heap.size w' w2) := fun B M w' => hid fun h => head_any (prf_src B M n _ hn) hn (Nat.le_refl _) hcm (Nd.mid_of_ok hcok) w' h
    have HP : ∀ B M w', Hid (pfK B M (gL ((cov 0 n f t).zip ns)) w' → Calls Try.prog 44 #[.int .i64 n, paV f t, cloV 107 B] w' fun e w2 => ∃ ao q cap, e = .returned (.tuple #[foV (fz ((cov 0 n f t).zip ns)), .slice ao q cap]) ∧ Below w'.heap.size w' w2) := fun B M w' => hid fun h => by
      have := prove_any 107 B n f t (pfK B M (gL ((cov 0 n f t).zip ns))) (ndP (cov 0 n f t) ns) (fun _ _ h hb => h.later hb) (fun p hp => (ndP_comes hlen hok p hp).2) hn htn
        (fun p hp W hW => by
          have hpm := cov_mem f t n 0 n (by omega) (by omega) p hp
          exact node_any (prf_src B M n _ hn) hn (ndP_comes hlen hok p hp).1 W hW hpm.2.1 hpm.2.2.1) w' h
      rw [ndP_fold hlen] at this
      refine this.mono ?_
      rintro e w2 ⟨v, he, hv, hb⟩
      obtain ⟨ao, cap, rfl⟩ := own_shape hv
      exact ⟨ao, _, cap, he, hb⟩
    have HPK : Hid (∀ B M w' w2, pfK B M (gL ((cov 0 n f t).zip ns)) w' → Below w'.heap.size w' w2 → pfK B M (gL ((cov 0 n f t).zip ns)) w2) := hid fun B M w' w2 h1 h2 => h1.later h2
    have HH0 := hid h0e
    rw [hE]
    rw [hW1] at HRT HCS
    clear hh1 hf1 hp1 hB1 hz1 hW1 h0e hE hcm hcok hlen hok HOK
    generalize dg (hdText n (cm 0 n f t ns)) = D at HH ⊢
    generalize fz ((cov 0 n f t).zip ns) = F at HP ⊢
    unfold paV at HRT
    unfold paV foV at HP
    unfold hdV at HH
    by_cases hd : (D : Int) / 256 = h0 ∧ (D : Int) % 256 = h1
    · have hd1 : decide ((D : Int) / 256 = h0) = true := decide_eq_true hd.1
      have hd2 : decide ((D : Int) % 256 = h1) = true := decide_eq_true hd.2
      rw [if_neg (by rintro (a | a); exact a hd.1; exact a hd.2)]
      clear hd
      by_cases hF : F.c = c ∧ F.s = s ∧ F.m = m ∧ F.x = x
      · have hFd : decide (F.c = c ∧ F.s = s ∧ F.m = m ∧ F.x = x) = true := decide_eq_true hF
        rw [if_neg (by intro a; apply a; obtain ⟨F1, F2, F3, F4⟩ := F; simp only at hF; obtain ⟨rfl, rfl, rfl, rfl⟩ := hF; rfl)]
        clear hF
        go_enter Try.func18, Try.ntmps18
        go_wp2_with (first | (go_at_call 41; refine (isSize_any _ _ _).mono ?_; rintro e w2 ⟨rfl, hw2⟩; rw [hz, hw2]; clear hw2 w2) | (go_at_call 43; refine (isRange_any _ _ _ _).mono ?_; rintro e w2 ⟨rfl, hw2⟩; rw [hr, hw2]; clear hw2 w2))
        refine HRT.out.mono ?_
        rintro e w2 ⟨hb2, hp⟩
        rw [if_pos HH0.out] at hp
        obtain ⟨ns', B, M, hns, rfl, hK⟩ := hp
        obtain rfl : ns = ns' := by simpa using hns
        have HK := hid hK
        have HC2 := hid (HCS.out w2 hb2)
        have HCW : Hid (∀ w', Below w2.heap.size w2 w' → (w'.cell? ⟨w.heap.size, 0, none⟩ = some (.int .i64 n) ∧ w'.cell? ⟨w.heap.size, 1, none⟩ = some (.int .u8 h0) ∧ w'.cell? ⟨w.heap.size, 2, none⟩ = some (.int .u8 h1)) ∧ (w'.cell? ⟨w.heap.size + 1 + 1, 0, none⟩ = some (.int .i64 f) ∧ w'.cell? ⟨w.heap.size + 1 + 1, 1, none⟩ = some (.int .i64 t)) ∧ FoAt w' (w.heap.size + 1) ⟨c, s, m, x⟩ ∧ Below w.heap.size w w') := hid fun w' hb => HCS.out w' (hb2.trans (hb.mono hb2.size))
        have hc2 := HC2.out.1
        clear hb2 HCS HRT hK hns HC2
        go_wp2
        go_region_held3 (fun w' => w'.cell? ⟨w.heap.size, 0, none⟩ = some (.int .i64 n) ∧ w'.cell? ⟨w.heap.size, 1, none⟩ = some (.int .u8 h0) ∧ w'.cell? ⟨w.heap.size, 2, none⟩ = some (.int .u8 h1))
          (first | exact hcn | go_keep)
          ((go_at_call 42; refine ((HH B M _).out (HPK.out B M w2 _ HK.out (Below.refl _ _).drew)).mono ?_; rintro e w3 ⟨rfl, hb3⟩; have hcn := (HCW.out w3 ((Below.refl _ _).drew.trans hb3)).1; have HB3 := hid ((Below.refl w2.heap.size w2).drew.trans hb3); clear hb3))
        all_goals
          have hcr := (HCW.out w3 HB3.out).2.1
          clear HH hc2
          go_wp2_with fail
          refine ((HP B M w3).out (HPK.out B M w2 w3 HK.out HB3.out)).mono ?_
          rintro e w4 ⟨ao, q, cap, rfl, hb4⟩
          have hB4 := HB3.out.trans (hb4.mono HB3.out.size)
          have hfa := (HCW.out w4 hB4).2.2.1
          have hf4 := (hfa.alloc (.cells #[.int .i64 F.c, .int .i64 F.s, .int .i64 F.m, .int .i64 F.x] 29)).cells
          have hlt4 := hfa.lt
          have HB4 := hid (HCW.out w4 hB4).2.2.2
          clear hb4 hB4 hfa HP HPK HK HCW hcn hcr HB3
          go_wp2
          go_ret
          exact ⟨rfl, HB4.out.alloc HB4.out.size _⟩
      · have hFd : decide (F.c = c ∧ F.s = s ∧ F.m = m ∧ F.x = x) = false := decide_eq_false hF
        rw [if_pos (by intro a; apply hF; rw [a]; exact ⟨rfl, rfl, rfl, rfl⟩)]
        clear hF
        go_enter Try.func18, Try.ntmps18
        go_wp2_with (first | (go_at_call 41; refine (isSize_any _ _ _).mono ?_; rintro e w2 ⟨rfl, hw2⟩; rw [hz, hw2]; clear hw2 w2) | (go_at_call 43; refine (isRange_any _ _ _ _).mono ?_; rintro e w2 ⟨rfl, hw2⟩; rw [hr, hw2]; clear hw2 w2))
        refine HRT.out.mono ?_
        rintro e w2 ⟨hb2, hp⟩
        rw [if_pos HH0.out] at hp
        obtain ⟨ns', B, M, hns, rfl, hK⟩ := hp
        obtain rfl : ns = ns' := by simpa using hns
        have HK := hid hK
        have HC2 := hid (HCS.out w2 hb2)
        have HCW : Hid (∀ w', Below w2.heap.size w2 w' → (w'.cell? ⟨w.heap.size, 0, none⟩ = some (.int .i64 n) ∧ w'.cell? ⟨w.heap.size, 1, none⟩ = some (.int .u8 h0) ∧ w'.cell? ⟨w.heap.size, 2, none⟩ = some (.int .u8 h1)) ∧ (w'.cell? ⟨w.heap.size + 1 + 1, 0, none⟩ = some (.int .i64 f) ∧ w'.cell? ⟨w.heap.size + 1 + 1, 1, none⟩ = some (.int .i64 t)) ∧ FoAt w' (w.heap.size + 1) ⟨c, s, m, x⟩ ∧ Below w.heap.size w w') := hid fun w' hb => HCS.out w' (hb2.trans (hb.mono hb2.size))
        have hc2 := HC2.out.1
        clear hb2 HCS HRT hK hns HC2
        go_wp2
        go_region_held3 (fun w' => w'.cell? ⟨w.heap.size, 0, none⟩ = some (.int .i64 n) ∧ w'.cell? ⟨w.heap.size, 1, none⟩ = some (.int .u8 h0) ∧ w'.cell? ⟨w.heap.size, 2, none⟩ = some (.int .u8 h1))
          (first | exact hcn | go_keep)
          ((go_at_call 42; refine ((HH B M _).out (HPK.out B M w2 _ HK.out (Below.refl _ _).drew)).mono ?_; rintro e w3 ⟨rfl, hb3⟩; have hcn := (HCW.out w3 ((Below.refl _ _).drew.trans hb3)).1; have HB3 := hid ((Below.refl w2.heap.size w2).drew.trans hb3); clear hb3))
        all_goals
          have hcr := (HCW.out w3 HB3.out).2.1
          clear HH hc2
          go_wp2_with fail
          refine ((HP B M w3).out (HPK.out B M w2 w3 HK.out HB3.out)).mono ?_
          rintro e w4 ⟨ao, q, cap, rfl, hb4⟩
          have hB4 := HB3.out.trans (hb4.mono HB3.out.size)
          have hfa := (HCW.out w4 hB4).2.2.1
          have hf4 := (hfa.alloc (.cells #[.int .i64 F.c, .int .i64 F.s, .int .i64 F.m, .int .i64 F.x] 29)).cells
          have hlt4 := hfa.lt
          have HB4 := hid (HCW.out w4 hB4).2.2.2
          clear hb4 hB4 hfa HP HPK HK HCW hcn hcr HB3
          go_wp2
          go_ret
          exact ⟨rfl, HB4.out.alloc HB4.out.size _⟩
    · have hd' : (decide ((D : Int) / 256 = h0) && decide ((D : Int) % 256 = h1)) = false := by simpa [Bool.and_eq_false_iff] using fun a => fun b => hd ⟨a, b⟩
      rw [if_pos (by by_cases a : (D : Int) / 256 = h0; exact .inr (fun b => hd ⟨a, b⟩); exact .inl a)]
      clear hd HP
      go_enter Try.func18, Try.ntmps18
      go_wp2_with (first | (go_at_call 41; refine (isSize_any _ _ _).mono ?_; rintro e w2 ⟨rfl, hw2⟩; rw [hz, hw2]; clear hw2 w2) | (go_at_call 43; refine (isRange_any _ _ _ _).mono ?_; rintro e w2 ⟨rfl, hw2⟩; rw [hr, hw2]; clear hw2 w2))
      refine HRT.out.mono ?_
      rintro e w2 ⟨hb2, hp⟩
      rw [if_pos HH0.out] at hp
      obtain ⟨ns', B, M, hns, rfl, hK⟩ := hp
      obtain rfl : ns = ns' := by simpa using hns
      have HK := hid hK
      have HC2 := hid (HCS.out w2 hb2)
      have HCW : Hid (∀ w', Below w2.heap.size w2 w' → (w'.cell? ⟨w.heap.size, 0, none⟩ = some (.int .i64 n) ∧ w'.cell? ⟨w.heap.size, 1, none⟩ = some (.int .u8 h0) ∧ w'.cell? ⟨w.heap.size, 2, none⟩ = some (.int .u8 h1)) ∧ Below w.heap.size w w') := hid fun w' hb => ⟨(HCS.out w' (hb2.trans (hb.mono hb2.size))).1, (HCS.out w' (hb2.trans (hb.mono hb2.size))).2.2.2⟩
      have hc2 := HC2.out.1
      clear hb2 HCS HRT hK hns
      go_wp2
      go_region_held3 (fun w' => w'.cell? ⟨w.heap.size, 0, none⟩ = some (.int .i64 n) ∧ w'.cell? ⟨w.heap.size, 1, none⟩ = some (.int .u8 h0) ∧ w'.cell? ⟨w.heap.size, 2, none⟩ = some (.int .u8 h1))
        (first | exact hcn | go_keep)
        ((go_at_call 42; refine ((HH B M _).out (HPK.out B M w2 _ HK.out (Below.refl _ _).drew)).mono ?_; rintro e w3 ⟨rfl, hb3⟩; have hcn := (HCW.out w3 ((Below.refl _ _).drew.trans hb3)).1; have hBn := (HCW.out w3 ((Below.refl _ _).drew.trans hb3)).2; clear hb3))
      all_goals go_wp2
      all_goals go_ret
      all_goals exact ⟨rfl, hBn⟩
  · have HCK := hid (ckE_rt (h0 := h0) (h1 := h1) (claim := ⟨c, s, m, x⟩) h0e)
    have hne : (rtE n f t o == 0) = false := by simpa using h0e
    have HH0 := hid h0e
    rw [hW1] at HRT HCS
    clear hh1 hf1 hp1 hB1 hz1 hW1 h0e
    unfold paV at HRT
    go_enter Try.func18, Try.ntmps18
    go_wp2_with (first | (go_at_call 41; refine (isSize_any _ _ _).mono ?_; rintro e w2 ⟨rfl, hw2⟩; rw [hz, hw2]; clear hw2 w2) | (go_at_call 43; refine (isRange_any _ _ _ _).mono ?_; rintro e w2 ⟨rfl, hw2⟩; rw [hr, hw2]; clear hw2 w2))
    refine HRT.out.mono ?_
    rintro e w2 ⟨hb2, hp⟩
    rw [if_neg HH0.out] at hp
    subst hp
    have HB := hid (HCS.out w2 hb2).2.2.2
    clear hb2 HCS HRT
    go_wp2
    go_ret
    exact ⟨by rw [HCK.out]; rfl, HB.out⟩

end Go.Proofs.Ytogmdaopfnmobaa

/- What CheckGrown does. -/
namespace Go.Proofs.Ytogmdaopfnmobaa
open Go.RowKit
attribute [local go_sem ↓] run_neq_digest
attribute [local go_sem ↓] run_field_root

theorem heap_twoA (w : World) (o1 o2 : Obj) (n : Nat) (hn : n = w.heap.size) : ((w.alloc o1).alloc o2).heap[n]? = some o1 := by
  subst hn
  have : w.heap.size < (w.heap.push o1).size := by simp
  show ((w.heap.push o1).push o2)[w.heap.size]? = _
  rw [Array.getElem?_push, if_neg (by simp), Array.getElem?_push, if_pos rfl]
theorem heap_twoB (w : World) (o1 o2 : Obj) (n : Nat) (hn : n = w.heap.size) : ((w.alloc o1).alloc o2).heap[n + 1]? = some o2 := by
  subst hn
  show ((w.heap.push o1).push o2)[w.heap.size + 1]? = _
  rw [Array.getElem?_push, if_pos (by simp)]
/-- What CheckGrown answers, where the sizes may be. -/
def cgE (o n : Nat) (a0 a1 b0 b1 : Int) (q : Option (List Nd)) : Int :=
  match q with
  | none => 7
  | some ns =>
    if ns.length ≠ (cov 0 n 0 o).length then 8
    else if (cm 0 n 0 o ns).ok = false then 6
    else if ((dg (hdText n (cm 0 n 0 o ns)) : Int) / 256 ≠ b0 ∨ (dg (hdText n (cm 0 n 0 o ns)) : Int) % 256 ≠ b1) ∨ ((dg (hdText o (bgn 0 n o ns)) : Int) / 256 ≠ a0 ∨ (dg (hdText o (bgn 0 n o ns)) : Int) % 256 ≠ a1) then 9
    else 0
theorem cgE_rt {o n : Nat} {a0 a1 b0 b1 : Int} {q : Option (List Nd)} (h : rtE n 0 o q ≠ 0) : cgE o n a0 a1 b0 b1 q = rtE n 0 o q := by
  unfold cgE rtE at *
  cases q with
  | none => rfl
  | some ns =>
    simp only at h ⊢
    by_cases hl : ns.length = (cov 0 n 0 o).length
    · rw [if_pos hl] at h ⊢
      rw [if_neg (fun c => c hl)]
      cases hc : (cm 0 n 0 o ns).ok with
      | true => rw [hc] at h; simp at h
      | false => simp
    · rw [if_neg hl, if_pos hl]
set_option maxHeartbeats 2000000 in
set_option maxRecDepth 100000 in
theorem checkGrown_range (o n a0 a1 b0 b1 : Int) (p : ByteArray) (w : World) (hbad : o < 1 ∨ n < o ∨ 64 < n) :
    Calls Try.prog 21 #[.agg #[.int .i64 o, .int .u8 a0, .int .u8 a1], .agg #[.int .i64 n, .int .u8 b0, .int .u8 b1], .string p] w fun e w' => e = .returned (.int .i64 5) ∧ Below w.heap.size w w' := by
  have fin : ∀ o1 o2, Below w.heap.size w ((w.alloc o1).alloc o2) := fun o1 o2 => ((Below.refl _ _).alloc (Nat.le_refl _) _).alloc (by simp) _
  by_cases c1 : o < 1
  · clear hbad
    go_enter Try.func21, Try.ntmps21
    go_wp2
    go_ret
    exact ⟨rfl, fin _ _⟩
  · by_cases c2 : n < o
    · clear hbad
      go_enter Try.func21, Try.ntmps21
      go_wp2
      go_ret
      exact ⟨rfl, fin _ _⟩
    · have c3 : 64 < n := by omega
      clear hbad
      go_enter Try.func21, Try.ntmps21
      go_wp2
      go_ret
      exact ⟨rfl, fin _ _⟩

set_option maxHeartbeats 4000000 in
set_option maxRecDepth 100000 in
theorem checkGrown_good (o n : Nat) (a0 a1 b0 b1 : Int) (p : ByteArray) (w : World) (h1 : 1 ≤ o) (h2 : o ≤ n) (h3 : n ≤ 64) (hs : p.size ≤ maxLen) :
    Calls Try.prog 21 #[.agg #[.int .i64 o, .int .u8 a0, .int .u8 a1], .agg #[.int .i64 n, .int .u8 b0, .int .u8 b1], .string p] w fun e w' => e = .returned (.int .i64 (cgE o n a0 a1 b0 b1 (readR p.data.toList))) ∧ Below w.heap.size w w' := by
  have n0 : ¬ (o : Int) < 1 := by omega
  have n1 : ¬ (n : Int) < o := by omega
  have n2 : ¬ 64 < (n : Int) := by omega
  obtain ⟨W1, hW1⟩ : ∃ W1, W1 = (w.alloc (.cells #[.int .i64 o, .int .u8 a0, .int .u8 a1] 44)).alloc (.cells #[.int .i64 n, .int .u8 b0, .int .u8 b1] 44) := ⟨_, rfl⟩
  have hz1 : W1.heap.size = w.heap.size + 2 := by rw [hW1]; simp
  have hB1 : Below w.heap.size w W1 := by rw [hW1]; exact (((Below.refl _ _).alloc (Nat.le_refl _) _).alloc (by simp) _)
  have hh0 : W1.heap[w.heap.size]? = some (.cells #[.int .i64 o, .int .u8 a0, .int .u8 a1] 44 (0, 0)) := by rw [hW1]; exact heap_twoA w _ _ _ rfl
  have hh1 : W1.heap[w.heap.size + 1]? = some (.cells #[.int .i64 n, .int .u8 b0, .int .u8 b1] 44 (0, 0)) := by rw [hW1]; exact heap_twoB w _ _ _ rfl
  have HCS : Hid (∀ w', Below W1.heap.size W1 w' → (w'.cell? ⟨w.heap.size, 0, none⟩ = some (.int .i64 o) ∧ w'.cell? ⟨w.heap.size, 1, none⟩ = some (.int .u8 a0) ∧ w'.cell? ⟨w.heap.size, 2, none⟩ = some (.int .u8 a1) ∧ w'.cell? ⟨w.heap.size + 1, 0, none⟩ = some (.int .i64 n) ∧ w'.cell? ⟨w.heap.size + 1, 1, none⟩ = some (.int .u8 b0) ∧ w'.cell? ⟨w.heap.size + 1, 2, none⟩ = some (.int .u8 b1)) ∧ Below w.heap.size w w') := hid fun w' hb => by
    have e := (hb.block w.heap.size (by omega)).trans hh0
    have e' := (hb.block (w.heap.size + 1) (by omega)).trans hh1
    exact ⟨⟨by rw [cell_of_row w' _ _ _ _ _ e]; rfl, by rw [cell_of_row w' _ _ _ _ _ e]; rfl, by rw [cell_of_row w' _ _ _ _ _ e]; rfl, by rw [cell_of_row w' _ _ _ _ _ e']; rfl, by rw [cell_of_row w' _ _ _ _ _ e']; rfl, by rw [cell_of_row w' _ _ _ _ _ e']; rfl⟩, hB1.trans (hb.mono (by omega))⟩
  have HRT := hid (readTree_any n 0 o p W1 h3 h2 hs)
  have HOK : Hid (∀ ns, readR p.data.toList = some ns → ∀ d ∈ ns, d.ok = true) := hid fun ns ho => List.all_eq_true.1 (write_read _ _ ho).2.1
  generalize readR p.data.toList = q at HRT HOK ⊢
  by_cases h0e : rtE n 0 o q = 0
  · obtain ⟨ns, ho⟩ : ∃ ns, q = some ns := by
      cases q with
      | none => simp [rtE] at h0e
      | some ns => exact ⟨ns, rfl⟩
    subst ho
    have hok := HOK.out ns rfl
    have hlen : ns.length = (cov 0 n 0 o).length := by
      by_cases hl : ns.length = (cov 0 n 0 o).length
      · exact hl
      · simp [rtE, hl] at h0e
    have hcok : (cm 0 n 0 o ns).ok = true := by
      cases hc : (cm 0 n 0 o ns).ok with
      | true => rfl
      | false => simp [rtE, hlen, hc] at h0e
    have hbok : (bgn 0 n o ns).ok = true := by
      have := bgz_ok hlen hok hcok 0
      rw [List.drop_zero, bgz_whole h1 h2 hlen] at this
      exact this
    have hcm := comes_cm 0 o n 0 n ns [] [] (by omega) (by omega) h3 (by omega) hok (fun _ => ⟨rfl, rfl⟩) (by simp) (by simp)
    have hcb := comes_bgn o n 0 n ns [] [] (by omega) (by omega) h2 h3 (by omega) hok (by simp) (by simp)
    simp only [List.nil_append, List.append_nil] at hcm hcb
    have hE : cgE o n a0 a1 b0 b1 (some ns) = if ((dg (hdText n (cm 0 n 0 o ns)) : Int) / 256 ≠ b0 ∨ (dg (hdText n (cm 0 n 0 o ns)) : Int) % 256 ≠ b1) ∨ ((dg (hdText o (bgn 0 n o ns)) : Int) / 256 ≠ a0 ∨ (dg (hdText o (bgn 0 n o ns)) : Int) % 256 ≠ a1) then 9 else 0 := by
      simp only [cgE]
      rw [if_neg (by simpa using hlen), if_neg (by simp [hcok])]
    have HH : ∀ B M w', Hid (pfK B M (gL ((cov 0 n 0 o).zip ns)) w' → Calls Try.prog 42 #[.int .i64 n, cloV 107 B] w' fun e w2 => e = .returned (hdV n (dg (hdText n (cm 0 n 0 o ns)))) ∧ Below w'.heap.size w' w2) := fun B M w' => hid fun h => head_any (prf_src B M n _ h3) h3 (Nat.le_refl _) hcm (Nd.mid_of_ok hcok) w' h
    have HG : ∀ B M w', Hid (pfK B M (gL ((cov 0 n 0 o).zip ns)) w' → Calls Try.prog 42 #[.int .i64 o, cloV 107 B] w' fun e w2 => e = .returned (hdV o (dg (hdText o (bgn 0 n o ns)))) ∧ Below w'.heap.size w' w2) := fun B M w' => hid fun h => head_any (prf_src B M n _ h3) h3 h2 hcb (Nd.mid_of_ok hbok) w' h
    have HPK : Hid (∀ B M w' w2, pfK B M (gL ((cov 0 n 0 o).zip ns)) w' → Below w'.heap.size w' w2 → pfK B M (gL ((cov 0 n 0 o).zip ns)) w2) := hid fun B M w' w2 h1 h2 => h1.later h2
    have HH0 := hid h0e
    rw [hE]
    rw [hW1] at HRT HCS
    clear hh0 hh1 hB1 hz1 hW1 h0e hE hcm hcb hcok hbok hlen hok HOK
    generalize dg (hdText n (cm 0 n 0 o ns)) = D at HH ⊢
    generalize dg (hdText o (bgn 0 n o ns)) = G at HG ⊢
    unfold paV at HRT
    unfold hdV at HH HG
    by_cases hd : (D : Int) / 256 = b0 ∧ (D : Int) % 256 = b1
    · have hd1 : decide ((D : Int) / 256 = b0) = true := decide_eq_true hd.1
      have hd2 : decide ((D : Int) % 256 = b1) = true := decide_eq_true hd.2
      by_cases hg : (G : Int) / 256 = a0 ∧ (G : Int) % 256 = a1
      · have hg1 : decide ((G : Int) / 256 = a0) = true := decide_eq_true hg.1
        have hg2 : decide ((G : Int) % 256 = a1) = true := decide_eq_true hg.2
        rw [if_neg (by rintro ((x | x) | (x | x)); exact x hd.1; exact x hd.2; exact x hg.1; exact x hg.2)]
        clear hd hg
        go_enter Try.func21, Try.ntmps21
        go_wp2_with fail
        refine HRT.out.mono ?_
        rintro e w2 ⟨hb2, hp⟩
        rw [if_pos HH0.out] at hp
        obtain ⟨ns', B, M, hns, rfl, hK⟩ := hp
        obtain rfl : ns = ns' := by simpa using hns
        have HK := hid hK
        have HCW : Hid (∀ w', Below w2.heap.size w2 w' → (w'.cell? ⟨w.heap.size, 0, none⟩ = some (.int .i64 o) ∧ w'.cell? ⟨w.heap.size, 1, none⟩ = some (.int .u8 a0) ∧ w'.cell? ⟨w.heap.size, 2, none⟩ = some (.int .u8 a1) ∧ w'.cell? ⟨w.heap.size + 1, 0, none⟩ = some (.int .i64 n) ∧ w'.cell? ⟨w.heap.size + 1, 1, none⟩ = some (.int .u8 b0) ∧ w'.cell? ⟨w.heap.size + 1, 2, none⟩ = some (.int .u8 b1)) ∧ Below w.heap.size w w') := hid fun w' hb => HCS.out w' (hb2.trans (hb.mono hb2.size))
        have hc2 := (HCS.out w2 hb2).1
        clear hb2 HCS HRT hK hns
        go_wp2
        go_region_held3 (fun w' => w'.cell? ⟨w.heap.size, 0, none⟩ = some (.int .i64 o) ∧ w'.cell? ⟨w.heap.size, 1, none⟩ = some (.int .u8 a0) ∧ w'.cell? ⟨w.heap.size, 2, none⟩ = some (.int .u8 a1) ∧ w'.cell? ⟨w.heap.size + 1, 0, none⟩ = some (.int .i64 n) ∧ w'.cell? ⟨w.heap.size + 1, 1, none⟩ = some (.int .u8 b0) ∧ w'.cell? ⟨w.heap.size + 1, 2, none⟩ = some (.int .u8 b1))
          (first | exact hcm | exact hcn | go_keep)
          (first
            | (have HBx := HB3; go_at_call 42; refine ((HG B M w3).out (HPK.out B M w2 w3 HK.out HB3.out)).mono ?_; rintro e w4 ⟨rfl, hb4⟩; have hcm := (HCW.out w4 (HB3.out.trans (hb4.mono HB3.out.size))).1; have hBm := (HCW.out w4 (HB3.out.trans (hb4.mono HB3.out.size))).2; clear hb4)
            | (go_at_call 42; refine ((HH B M _).out (HPK.out B M w2 _ HK.out (Below.refl _ _).drew)).mono ?_; rintro e w3 ⟨rfl, hb3⟩; have hcn := (HCW.out w3 ((Below.refl _ _).drew.trans hb3)).1; have HB3 := hid ((Below.refl w2.heap.size w2).drew.trans hb3); clear hb3))
        all_goals go_wp2
        all_goals go_ret
        all_goals exact ⟨rfl, hBm⟩
      · have hg' : (decide ((G : Int) / 256 = a0) && decide ((G : Int) % 256 = a1)) = false := by simpa [Bool.and_eq_false_iff] using fun x => fun y => hg ⟨x, y⟩
        rw [if_pos (.inr (by by_cases x : (G : Int) / 256 = a0; exact .inr (fun y => hg ⟨x, y⟩); exact .inl x))]
        clear hd hg
        go_enter Try.func21, Try.ntmps21
        go_wp2_with fail
        refine HRT.out.mono ?_
        rintro e w2 ⟨hb2, hp⟩
        rw [if_pos HH0.out] at hp
        obtain ⟨ns', B, M, hns, rfl, hK⟩ := hp
        obtain rfl : ns = ns' := by simpa using hns
        have HK := hid hK
        have HCW : Hid (∀ w', Below w2.heap.size w2 w' → (w'.cell? ⟨w.heap.size, 0, none⟩ = some (.int .i64 o) ∧ w'.cell? ⟨w.heap.size, 1, none⟩ = some (.int .u8 a0) ∧ w'.cell? ⟨w.heap.size, 2, none⟩ = some (.int .u8 a1) ∧ w'.cell? ⟨w.heap.size + 1, 0, none⟩ = some (.int .i64 n) ∧ w'.cell? ⟨w.heap.size + 1, 1, none⟩ = some (.int .u8 b0) ∧ w'.cell? ⟨w.heap.size + 1, 2, none⟩ = some (.int .u8 b1)) ∧ Below w.heap.size w w') := hid fun w' hb => HCS.out w' (hb2.trans (hb.mono hb2.size))
        have hc2 := (HCS.out w2 hb2).1
        clear hb2 HCS HRT hK hns
        go_wp2
        go_region_held3 (fun w' => w'.cell? ⟨w.heap.size, 0, none⟩ = some (.int .i64 o) ∧ w'.cell? ⟨w.heap.size, 1, none⟩ = some (.int .u8 a0) ∧ w'.cell? ⟨w.heap.size, 2, none⟩ = some (.int .u8 a1) ∧ w'.cell? ⟨w.heap.size + 1, 0, none⟩ = some (.int .i64 n) ∧ w'.cell? ⟨w.heap.size + 1, 1, none⟩ = some (.int .u8 b0) ∧ w'.cell? ⟨w.heap.size + 1, 2, none⟩ = some (.int .u8 b1))
          (first | exact hcm | exact hcn | go_keep)
          (first
            | (have HBx := HB3; go_at_call 42; refine ((HG B M w3).out (HPK.out B M w2 w3 HK.out HB3.out)).mono ?_; rintro e w4 ⟨rfl, hb4⟩; have hcm := (HCW.out w4 (HB3.out.trans (hb4.mono HB3.out.size))).1; have hBm := (HCW.out w4 (HB3.out.trans (hb4.mono HB3.out.size))).2; clear hb4)
            | (go_at_call 42; refine ((HH B M _).out (HPK.out B M w2 _ HK.out (Below.refl _ _).drew)).mono ?_; rintro e w3 ⟨rfl, hb3⟩; have hcn := (HCW.out w3 ((Below.refl _ _).drew.trans hb3)).1; have HB3 := hid ((Below.refl w2.heap.size w2).drew.trans hb3); clear hb3))
        all_goals go_wp2
        all_goals go_ret
        all_goals exact ⟨rfl, hBm⟩
    · have hd' : (decide ((D : Int) / 256 = b0) && decide ((D : Int) % 256 = b1)) = false := by simpa [Bool.and_eq_false_iff] using fun x => fun y => hd ⟨x, y⟩
      rw [if_pos (.inl (by by_cases x : (D : Int) / 256 = b0; exact .inr (fun y => hd ⟨x, y⟩); exact .inl x))]
      clear hd HG
      go_enter Try.func21, Try.ntmps21
      go_wp2_with fail
      refine HRT.out.mono ?_
      rintro e w2 ⟨hb2, hp⟩
      rw [if_pos HH0.out] at hp
      obtain ⟨ns', B, M, hns, rfl, hK⟩ := hp
      obtain rfl : ns = ns' := by simpa using hns
      have HK := hid hK
      have HCW : Hid (∀ w', Below w2.heap.size w2 w' → (w'.cell? ⟨w.heap.size, 0, none⟩ = some (.int .i64 o) ∧ w'.cell? ⟨w.heap.size, 1, none⟩ = some (.int .u8 a0) ∧ w'.cell? ⟨w.heap.size, 2, none⟩ = some (.int .u8 a1) ∧ w'.cell? ⟨w.heap.size + 1, 0, none⟩ = some (.int .i64 n) ∧ w'.cell? ⟨w.heap.size + 1, 1, none⟩ = some (.int .u8 b0) ∧ w'.cell? ⟨w.heap.size + 1, 2, none⟩ = some (.int .u8 b1)) ∧ Below w.heap.size w w') := hid fun w' hb => HCS.out w' (hb2.trans (hb.mono hb2.size))
      have hc2 := (HCS.out w2 hb2).1
      clear hb2 HCS HRT hK hns
      go_wp2
      refine wp_region_held_drew (S := fun w' => w'.cell? ⟨w.heap.size, 0, none⟩ = some (.int .i64 o) ∧ w'.cell? ⟨w.heap.size, 1, none⟩ = some (.int .u8 a0) ∧ w'.cell? ⟨w.heap.size, 2, none⟩ = some (.int .u8 a1) ∧ w'.cell? ⟨w.heap.size + 1, 0, none⟩ = some (.int .i64 n) ∧ w'.cell? ⟨w.heap.size + 1, 1, none⟩ = some (.int .u8 b0) ∧ w'.cell? ⟨w.heap.size + 1, 2, none⟩ = some (.int .u8 b1)) (by kernel_rfl) ?_ (fun hHeld => ?_)
      · exact (HCW.out _ (Below.refl _ _).drew).1
      refine wpAnyH_take (i := 0) (oi := _) (v := ?_) rfl (by kernel_rfl) (by kernel_rfl) (by kernel_rfl) (fun _ _ _ h => h) (Or.inl ⟨by rfl, ?_⟩) (by assumption) ?_
      rotate_left
      ·
        intro w' hSw
        try dsimp only at hSw
        go_simp
        try with_reducible rfl
      change wpAnyH _ _ _ _ _ _ _ (Act.put _ (some 37) _) _
      simp only [Act.put, List.setIfInBounds_toArray, List.set_cons_zero, List.set_cons_succ]
      refine wpAnyH_take (i := 2) (oi := _) (v := ?_) rfl (by kernel_rfl) (by kernel_rfl) (by kernel_rfl) (fun _ _ _ h => h) (Or.inl ⟨by rfl, ?_⟩) (by assumption) ?_
      rotate_left
      ·
        intro w' hSw
        try dsimp only at hSw
        go_simp
        try with_reducible rfl
      change wpAnyH _ _ _ _ _ _ _ (Act.put _ (some 39) _) _
      simp only [Act.put, List.setIfInBounds_toArray, List.set_cons_zero, List.set_cons_succ]
      refine wpAnyH_take (i := 5) (oi := _) (v := ?_) rfl (by kernel_rfl) (by kernel_rfl) (by kernel_rfl) (fun _ _ _ h => h) (Or.inl ⟨by rfl, ?_⟩) (by assumption) ?_
      rotate_left
      ·
        intro w' hSw
        try dsimp only at hSw
        go_simp
        try with_reducible rfl
      change wpAnyH _ _ _ _ _ _ _ (Act.put _ (some 42) _) _
      simp only [Act.put, List.setIfInBounds_toArray, List.set_cons_zero, List.set_cons_succ]
      refine wpAnyH_take (i := 1) (oi := _) (v := ?_) rfl (by kernel_rfl) (by kernel_rfl) (by kernel_rfl) (fun _ _ _ h => h) (Or.inl ⟨by rfl, ?_⟩) (by assumption) ?_
      rotate_left
      ·
        intro w' hSw
        try dsimp only at hSw
        go_simp
        try with_reducible rfl
      change wpAnyH _ _ _ _ _ _ _ (Act.put _ (some 38) _) _
      simp only [Act.put, List.setIfInBounds_toArray, List.set_cons_zero, List.set_cons_succ]
      refine wpAnyH_take (i := 6) (oi := _) (v := ?_) rfl (by kernel_rfl) (by kernel_rfl) (by kernel_rfl) (fun _ _ _ h => h) (Or.inl ⟨by rfl, ?_⟩) (by assumption) ?_
      rotate_left
      ·
        intro w' hSw
        try dsimp only at hSw
        go_simp
        try with_reducible rfl
      change wpAnyH _ _ _ _ _ _ _ (Act.put _ (some 43) _) _
      simp only [Act.put, List.setIfInBounds_toArray, List.set_cons_zero, List.set_cons_succ]
      refine wpAnyH_ready (rs := [3]) (by kernel_rfl) (by simp) ?_
      refine AllReadyH.cons (o := _) rfl (fun K hK => ?_) AllReadyH.nil
      go_simp
      go_at_call 42
      refine ((HH B M _).out (HPK.out B M w2 _ HK.out (Below.refl _ _).drew)).mono ?_
      rintro e w3 ⟨rfl, hb3⟩
      have hcn := (HCW.out w3 ((Below.refl _ _).drew.trans hb3)).1
      have hBm := (HCW.out w3 ((Below.refl _ _).drew.trans hb3)).2
      clear hb3
      refine hK.out _ _ hcn (fun hHeld => ?_)
      clear hK K
      refine wpAnyH_take (i := 4) (oi := _) (v := ?_) rfl (by kernel_rfl) (by kernel_rfl) (by kernel_rfl) (fun _ _ _ h => h) (Or.inl ⟨by rfl, ?_⟩) (by assumption) ?_
      rotate_left
      ·
        intro w' hSw
        try dsimp only at hSw
        go_simp
        try with_reducible rfl
      change wpAnyH _ _ _ _ _ _ _ (Act.put _ (some 41) _) _
      simp only [Act.put, List.setIfInBounds_toArray, List.set_cons_zero, List.set_cons_succ]
      refine wpAnyH_take (i := 7) (oi := _) (v := ?_) rfl (by kernel_rfl) (by kernel_rfl) (by kernel_rfl) (fun _ _ _ h => h) (Or.inl ⟨by rfl, ?_⟩) (by assumption) ?_
      rotate_left
      ·
        intro w' hSw
        try dsimp only at hSw
        go_simp
        try with_reducible rfl
      change wpAnyH _ _ _ _ _ _ _ (Act.put _ (some 44) _) _
      simp only [Act.put, List.setIfInBounds_toArray, List.set_cons_zero, List.set_cons_succ]
      refine wpAnyH_take (i := 8) (oi := _) (v := ?_) rfl (by kernel_rfl) (by kernel_rfl) (by kernel_rfl) (fun _ _ _ h => h) (Or.inl ⟨by rfl, ?_⟩) (by assumption) ?_
      rotate_left
      ·
        intro w' hSw
        try dsimp only at hSw
        go_simp
        try with_reducible rfl
      change wpAnyH _ _ _ _ _ _ _ (Act.put _ (some 45) _) _
      simp only [Act.put, List.setIfInBounds_toArray, List.set_cons_zero, List.set_cons_succ]
      refine wpAnyH_take (i := 9) (oi := _) (v := undef) rfl (by kernel_rfl) (by kernel_rfl) (by kernel_rfl) (fun _ _ _ h => h) (Or.inr ⟨by rfl, rfl⟩) (by assumption) ?_
      change wpAnyH _ _ _ _ _ _ _ (Act.put _ (some 46) _) _
      simp only [Act.put, List.setIfInBounds_toArray, List.set_cons_zero, List.set_cons_succ]
      refine wpAnyH_take (i := 11) (oi := _) (v := undef) rfl (by kernel_rfl) (by kernel_rfl) (by kernel_rfl) (fun _ _ _ h => h) (Or.inr ⟨by rfl, rfl⟩) (by assumption) ?_
      change wpAnyH _ _ _ _ _ _ _ (Act.put _ (some 48) _) _
      simp only [Act.put, List.setIfInBounds_toArray, List.set_cons_zero, List.set_cons_succ]
      refine wpAnyH_take (i := 14) (oi := _) (v := undef) rfl (by kernel_rfl) (by kernel_rfl) (by kernel_rfl) (fun _ _ _ h => h) (Or.inr ⟨by rfl, rfl⟩) (by assumption) ?_
      change wpAnyH _ _ _ _ _ _ _ (Act.put _ (some 51) _) _
      simp only [Act.put, List.setIfInBounds_toArray, List.set_cons_zero, List.set_cons_succ]
      refine wpAnyH_take (i := 10) (oi := _) (v := undef) rfl (by kernel_rfl) (by kernel_rfl) (by kernel_rfl) (fun _ _ _ h => h) (Or.inr ⟨by rfl, rfl⟩) (by assumption) ?_
      change wpAnyH _ _ _ _ _ _ _ (Act.put _ (some 47) _) _
      simp only [Act.put, List.setIfInBounds_toArray, List.set_cons_zero, List.set_cons_succ]
      refine wpAnyH_take (i := 15) (oi := _) (v := undef) rfl (by kernel_rfl) (by kernel_rfl) (by kernel_rfl) (fun _ _ _ h => h) (Or.inr ⟨by rfl, rfl⟩) (by assumption) ?_
      change wpAnyH _ _ _ _ _ _ _ (Act.put _ (some 52) _) _
      simp only [Act.put, List.setIfInBounds_toArray, List.set_cons_zero, List.set_cons_succ]
      refine wpAnyH_take (i := 12) (oi := _) (v := undef) rfl (by kernel_rfl) (by kernel_rfl) (by kernel_rfl) (fun _ _ _ h => h) (Or.inr ⟨by rfl, rfl⟩) (by assumption) ?_
      change wpAnyH _ _ _ _ _ _ _ (Act.put _ (some 49) _) _
      simp only [Act.put, List.setIfInBounds_toArray, List.set_cons_zero, List.set_cons_succ]
      refine wpAnyH_take (i := 13) (oi := _) (v := undef) rfl (by kernel_rfl) (by kernel_rfl) (by kernel_rfl) (fun _ _ _ h => h) (Or.inr ⟨by rfl, rfl⟩) (by assumption) ?_
      change wpAnyH _ _ _ _ _ _ _ (Act.put _ (some 50) _) _
      simp only [Act.put, List.setIfInBounds_toArray, List.set_cons_zero, List.set_cons_succ]
      refine wpAnyH_take (i := 16) (oi := _) (v := undef) rfl (by kernel_rfl) (by kernel_rfl) (by kernel_rfl) (fun _ _ _ h => h) (Or.inr ⟨by rfl, rfl⟩) (by assumption) ?_
      change wpAnyH _ _ _ _ _ _ _ (Act.put _ (some 53) _) _
      simp only [Act.put, List.setIfInBounds_toArray, List.set_cons_zero, List.set_cons_succ]
      refine wpAnyH_take (i := 17) (oi := _) (v := ?_) rfl (by kernel_rfl) (by kernel_rfl) (by kernel_rfl) (fun _ _ _ h => h) (Or.inl ⟨by rfl, ?_⟩) (by assumption) ?_
      rotate_left
      ·
        intro w' hSw
        try dsimp only at hSw
        go_simp
        try with_reducible rfl
      change wpAnyH _ _ _ _ _ _ _ (Act.put _ (some 54) _) _
      simp only [Act.put, List.setIfInBounds_toArray, List.set_cons_zero, List.set_cons_succ]
      refine wpAnyH_done (by kernel_rfl) ?_ _
      go_wp2
      go_ret
      exact ⟨rfl, hBm⟩
  · have HCK := hid (cgE_rt (a0 := a0) (a1 := a1) (b0 := b0) (b1 := b1) h0e)
    have hne : (rtE n 0 o q == 0) = false := by simpa using h0e
    have HH0 := hid h0e
    rw [hW1] at HRT HCS
    clear hh0 hh1 hB1 hz1 hW1 h0e
    unfold paV at HRT
    go_enter Try.func21, Try.ntmps21
    go_wp2_with fail
    refine HRT.out.mono ?_
    rintro e w2 ⟨hb2, hp⟩
    rw [if_neg HH0.out] at hp
    subst hp
    have HB := hid (HCS.out w2 hb2).2
    clear hb2 HCS HRT
    go_wp2
    go_ret
    exact ⟨by rw [HCK.out]; rfl, HB.out⟩

end Go.Proofs.Ytogmdaopfnmobaa

