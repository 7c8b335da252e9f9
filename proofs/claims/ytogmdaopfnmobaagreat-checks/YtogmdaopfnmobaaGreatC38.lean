/- What the document and the program work out of a proof is one. -/
import Derived.Test.YtogmdaopfnmobaaGreatC21
import Derived.Test.YtogmdaopfnmobaaGreatC36
import Derived.Test.YtogmdaopfnmobaaGreatC20
import Derived.Test.YtogmdaopfnmobaaGreatC37
namespace Go.Proofs.YtogmdaopfnmobaaGreat
open Go.RowKit
theorem wk_bad (f t : Nat) : ∀ (n a b : Nat) (ns : List Nd), b - a ≤ n → (wk a b f t ns true).2.2 = true := by
  intro n
  induction n with
  | zero => intro a b ns h; rw [wk_one _ _ _ _ _ _ (by omega)]
  | succ n ih =>
    intro a b ns h
    by_cases hs : isOut a b f t = true ∨ isIn a b f t = true ∨ b < a + 2
    · rw [wk_one _ _ _ _ _ _ hs]
    · have p := hf_pos (b - a)
      have q := hf_lt (b - a) (by omega)
      rw [wk_two _ _ _ _ _ _ hs]
      have e1 := ih a (a + hf (b - a)) ns (by omega)
      rw [e1, ih _ b _ (by omega)]
      rfl
theorem wk_cm (f t : Nat) : ∀ (n a b : Nat) (ns : List Nd), b - a ≤ n → b ≤ 64 → (∀ d ∈ ns, d.ok = true) → (wk a b f t ns false).2.2 = !(cm a b f t ns).ok ∧ ((cm a b f t ns).ok = true → (wk a b f t ns false).1 = cm a b f t ns) := by
  intro n
  induction n with
  | zero =>
    intro a b ns h hb hok
    have hs : isOut a b f t = true ∨ isIn a b f t = true ∨ b < a + 2 := .inr (.inr (by omega))
    rw [wk_one _ _ _ _ _ _ hs, cm_one ns hs]
    refine ⟨?_, fun _ => rfl⟩
    cases ns with
    | nil => rfl
    | cons d r => simp [hok d (by simp)]
  | succ n ih =>
    intro a b ns h hb hok
    by_cases hs : isOut a b f t = true ∨ isIn a b f t = true ∨ b < a + 2
    · rw [wk_one _ _ _ _ _ _ hs, cm_one ns hs]
      refine ⟨?_, fun _ => rfl⟩
      cases ns with
      | nil => rfl
      | cons d r => simp [hok d (by simp)]
    · have p := hf_pos (b - a)
      have q := hf_lt (b - a) (by omega)
      have hdo : ∀ d ∈ ns.drop (cov a (a + hf (b - a)) f t).length, d.ok = true := fun d hd => hok d (List.mem_of_mem_drop hd)
      obtain ⟨l1, l2⟩ := ih a (a + hf (b - a)) ns (by omega) (by omega) hok
      obtain ⟨r1, r2⟩ := ih (a + hf (b - a)) b (ns.drop (cov a (a + hf (b - a)) f t).length) (by omega) hb hdo
      have er := wk_rest f t n a (a + hf (b - a)) ns false (by omega)
      have nl := cm_nb f t n a (a + hf (b - a)) ns (by omega) hok
      have nr := cm_nb f t n (a + hf (b - a)) b _ (by omega) hdo
      have nab := nb_ab nl nr
      rw [wk_two _ _ _ _ _ _ hs, cm_two ns hs, er, l1]
      have hmono : ∀ {x y : Nd}, (ab (cm a (a + hf (b - a)) f t ns) (cm (a + hf (b - a)) b f t (ns.drop (cov a (a + hf (b - a)) f t).length))).ok = true → (cm a (a + hf (b - a)) f t ns).ok = true ∧ (cm (a + hf (b - a)) b f t (ns.drop (cov a (a + hf (b - a)) f t).length)).ok = true := fun {x y} h => by
        have h1 := (ok_nb nab).1 h
        rw [ab_c, ab_s] at h1
        unfold nb at nl nr
        exact ⟨(ok_nb (cm_nb f t n a (a + hf (b - a)) ns (by omega) hok)).2 (by omega), (ok_nb (cm_nb f t n (a + hf (b - a)) b _ (by omega) hdo)).2 (by omega)⟩
      cases hL : (cm a (a + hf (b - a)) f t ns).ok with
      | false =>
        have e2 := wk_bad f t n (a + hf (b - a)) b (ns.drop (cov a (a + hf (b - a)) f t).length) (by omega)
        have hno : (ab (cm a (a + hf (b - a)) f t ns) (cm (a + hf (b - a)) b f t (ns.drop (cov a (a + hf (b - a)) f t).length))).ok = false := by
          cases hc : (ab (cm a (a + hf (b - a)) f t ns) (cm (a + hf (b - a)) b f t (ns.drop (cov a (a + hf (b - a)) f t).length))).ok with
          | false => rfl
          | true => have := (hmono (x := .E) (y := .E) hc).1; rw [hL] at this; cases this
        simp only [Bool.not_false, e2, if_true, hno]
        exact ⟨trivial, fun h => by cases h⟩
      | true =>
        simp only [Bool.not_true, r1]
        cases hR : (cm (a + hf (b - a)) b f t (ns.drop (cov a (a + hf (b - a)) f t).length)).ok with
        | false =>
          have hno : (ab (cm a (a + hf (b - a)) f t ns) (cm (a + hf (b - a)) b f t (ns.drop (cov a (a + hf (b - a)) f t).length))).ok = false := by
            cases hc : (ab (cm a (a + hf (b - a)) f t ns) (cm (a + hf (b - a)) b f t (ns.drop (cov a (a + hf (b - a)) f t).length))).ok with
            | false => rfl
            | true => have := (hmono (x := .E) (y := .E) hc).2; rw [hR] at this; cases this
          simp only [Bool.not_false, if_true, hno]
          exact ⟨trivial, fun h => by cases h⟩
        | true =>
          simp only [Bool.not_true, Bool.false_eq_true, if_false]
          rw [l2 hL, r2 hR]
          exact ⟨rfl, fun _ => rfl⟩
theorem fld_take (l : List Sp) (ns : List Nd) (hl : ns.length = l.length) (k : Nat) (hk : k ≤ l.length) : fld l ns k = fz ((l.zip ns).take k) := by
  induction k with
  | zero => rfl
  | succ k ih =>
    have h1 : k < l.length := by omega
    have h2 : k < ns.length := by omega
    have e : (l.zip ns).take (k + 1) = (l.zip ns).take k ++ [(l[k], ns[k])] := by
      rw [List.take_succ_eq_append_getElem (by simp; omega)]; simp
    have i := ih (by omega)
    unfold fz at i ⊢
    rw [e, List.foldl_append, ← i]
    simp [fld, h1, h2]
theorem fld_fz (l : List Sp) (ns : List Nd) (hl : ns.length = l.length) : fld l ns l.length = fz (l.zip ns) := by
  rw [fld_take l ns hl _ (Nat.le_refl _), List.take_of_length_le (by simp; omega)]
theorem ckE_clE (n f t : Nat) (h0 h1 : Int) (claim : Fo) (o : Option (List Nd)) (hn : n ≤ 64) (hok : ∀ ns, o = some ns → ∀ d ∈ ns, d.ok = true) : clE n f t h0 h1 claim o = ckE n f t h0 h1 claim o := by
  cases o with
  | none => rfl
  | some ns =>
    simp only [clE, ckE]
    by_cases hl : ns.length = (cov 0 n f t).length
    · have hl' : ¬ (ns.length ≠ (cov 0 n f t).length) := fun c => c hl
      rw [if_neg hl', if_neg hl', fld_fz _ _ hl]
      obtain ⟨h1, h2⟩ := wk_cm f t n 0 n ns (by omega) hn (hok ns rfl)
      rw [h1]
      cases hc : (cm 0 n f t ns).ok with
      | false => rfl
      | true => rw [h2 hc]; simp
    · rw [if_pos hl, if_pos hl]
end Go.Proofs.YtogmdaopfnmobaaGreat

/- What the document puts together of a proof for the older log, by lists. -/
namespace Go.Proofs.YtogmdaopfnmobaaGreat
open Go.RowKit
theorem bg_bgz (l : List Sp) (ns : List Nd) (hl : ns.length = l.length) (k : Nat) (hk : k ≤ l.length) : bg l ns k = bgz ((l.zip ns).drop (l.length - k)) := by
  induction k with
  | zero => rw [Nat.sub_zero, List.drop_of_length_le (by simp; omega)]; rfl
  | succ k ih =>
    have h1 : l.length - (k + 1) < l.length := by omega
    have h2 : l.length - (k + 1) < ns.length := by omega
    have e : (l.zip ns).drop (l.length - (k + 1)) = (l[l.length - (k + 1)], ns[l.length - (k + 1)]) :: (l.zip ns).drop (l.length - k) := by
      rw [List.drop_eq_getElem_cons (by simp; omega)]
      have : l.length - (k + 1) + 1 = l.length - k := by omega
      rw [this]
      simp
    rw [e]
    simp only [bg, bgz]
    rw [ih (by omega)]
    simp [h1, h2]
theorem bg_whole {o n : Nat} {ns : List Nd} (h1 : 1 ≤ o) (h2 : o ≤ n) (hl : ns.length = (cov 0 n 0 o).length) : (bg (cov 0 n 0 o) ns (cov 0 n 0 o).length).1 = bgn 0 n o ns := by
  rw [bg_bgz _ _ hl _ (Nat.le_refl _), Nat.sub_self, List.drop_zero, bgz_whole h1 h2 hl]
theorem bg_ok {o n : Nat} {ns : List Nd} (hl : ns.length = (cov 0 n 0 o).length) (hok : ∀ d ∈ ns, d.ok = true) (hc : (cm 0 n 0 o ns).ok = true) (k : Nat) (hk : k ≤ (cov 0 n 0 o).length) : (bg (cov 0 n 0 o) ns k).1.ok = true := by
  rw [bg_bgz _ _ hl _ hk]
  exact bgz_ok hl hok hc _
end Go.Proofs.YtogmdaopfnmobaaGreat

/- What the document's own answer does (notaryref): Grows, where the nodes may be. -/
namespace Go.Proofs.YtogmdaopfnmobaaGreat
open Go.RowKit
attribute [local go_sem ↓] run_neq_digest
set_option maxHeartbeats 4000000 in
set_option maxRecDepth 100000 in
theorem refGrows_end (o n : Nat) (a0 a1 b0 b1 : Int) (p : ByteArray) (w : World) (h1 : 1 ≤ o) (h2 : o ≤ n) (h3 : n ≤ 64) (hs : p.size ≤ maxLen) (ns : List Nd) (hr : readR p.data.toList = some ns) (hl : ns.length = (cov 0 n 0 o).length) (hb : (wk 0 n 0 o ns false).2.2 = false) :
    Calls Tryz.prog 41 #[.agg #[.int .i64 o, .int .u8 a0, .int .u8 a1], .agg #[.int .i64 n, .int .u8 b0, .int .u8 b1], .string p] w fun e w' => e = .returned (.int .i64 (if ((dg (hdText n (wk 0 n 0 o ns false).1) : Int) / 256 ≠ b0 ∨ (dg (hdText n (wk 0 n 0 o ns false).1) : Int) % 256 ≠ b1) ∨ ((dg (hdText o (bgn 0 n o ns)) : Int) / 256 ≠ a0 ∨ (dg (hdText o (bgn 0 n o ns)) : Int) % 256 ≠ a1) then 9 else 0)) ∧ Below w.heap.size w w' := by
  have HR : ∀ w', Hid (Calls Tryz.prog 42 #[.string p] w' (readPost (some ns) w')) := fun w' => hid (hr ▸ refRead_any p w' hs)
  have HCv : ∀ w', Hid (Calls Tryz.prog 79 #[.int .i64 0, .int .i64 n, .int .i64 0, .int .i64 o] w' (covPost (cov 0 n 0 o) w')) := fun w' => hid (refCover_any 0 o (by omega) (by omega) n 0 n w' (by omega) (by omega) (by omega) (by omega))
  obtain ⟨hn64, hok, _⟩ := write_read _ _ hr
  have hoks : ∀ d ∈ ns, d.ok = true := fun d hd => List.all_eq_true.mp hok d hd
  have hok2 := (wk_ok 0 o n 0 n ns false (by omega) hoks hb).1
  have hcmok : (cm 0 n 0 o ns).ok = true := by
    have := (wk_cm 0 o n 0 n ns (by omega) h3 hoks).1
    rw [hb] at this
    simpa using this.symm
  have hbok : (bgn 0 n o ns).ok = true := by
    have := bgz_ok hl hoks hcmok 0
    rw [List.drop_zero, bgz_whole h1 h2 hl] at this
    exact this
  have HCm : ∀ ao cp w', Hid (Nodes w' w'.heap.size (.slice ao ns.length cp) ns → ns.length ≤ cp → cp ≤ 9223372036854775807 → Calls Tryz.prog 80 #[.slice ao ns.length cp, .int .i64 n, .int .i64 0, .int .i64 o] w' _) := fun ao cp w' => hid fun h1' h2' h3' => refComes_any n 0 o ao cp ns w' h1' h2' h3' hoks (by omega) h2 (by omega) (by omega)
  have hcl := (cov_len 0 o n 0 n (by omega)).2
  have HBg : ∀ base g cap v w', Hid (w'.ownsRow base 188 3 (.slice (some ⟨g, 0, none⟩) (cov 0 n 0 o).length cap) (cov 0 n 0 o).length (spRow (cov 0 n 0 o)) → Nodes w' w'.heap.size v ns → Calls Tryz.prog 81 #[.slice (some ⟨g, 0, none⟩) (cov 0 n 0 o).length cap, v] w' fun e w2 => e = .returned (ndV (bgn 0 n o ns)) ∧ Below w'.heap.size w' w2) := fun base g cap v w' => hid fun x y => by
    have := refBeginning_any (cov 0 n 0 o) ns base g cap v w' x y hl (by omega) hoks (fun k hk => bg_ok hl hoks hcmok k hk)
    rw [bg_whole h1 h2 hl] at this
    exact this
  generalize wk 0 n 0 o ns false = r at HCm hb hok2 ⊢
  obtain ⟨d, rs, bd⟩ := r
  simp only at HCm hb hok2 ⊢
  subst hb
  generalize bgn 0 n o ns = m at HBg hbok ⊢
  have HRt : ∀ w', Hid (Calls Tryz.prog 16 #[.int .i64 n, ndV d] w' _) := fun w' => hid (refRoot_any n d w' (by omega) hok2)
  have HRo : ∀ w', Hid (Calls Tryz.prog 16 #[.int .i64 o, ndV m] w' _) := fun w' => hid (refRoot_any o m w' (by omega) hbok)
  generalize (dg (hdText n d) : Int) = D at HRt ⊢
  generalize (dg (hdText o m) : Int) = G at HRo ⊢
  obtain ⟨R, hR⟩ : ∃ R : Int, R = if (D / 256 ≠ b0 ∨ D % 256 ≠ b1) ∨ (G / 256 ≠ a0 ∨ G % 256 ≠ a1) then 9 else 0 := ⟨_, rfl⟩
  rw [← hR]
  have HRx := hid hR
  clear hR
  generalize cov 0 n 0 o = C at HCv hl HBg
  have hl2 : ((ns.length : Int) != (C.length : Int)) = false := by simp; omega
  clear hr hs hl hok hok2 hoks hcmok hbok hcl
  have n0 : ¬ (o : Int) < 1 := by omega
  have n1 : ¬ (n : Int) < o := by omega
  have n2 : ¬ 64 < (n : Int) := by omega
  go_enter Tryz.func41, Tryz.ntmps41
  go_wp2_with fail
  refine (HR _).out.mono ?_
  rintro e w1 ⟨v1, rfl, ho1, hb1⟩
  have HN1 : Hid (Nodes w1 w1.heap.size v1 ns) := hid (Nodes.own ho1 (by omega))
  obtain ⟨q1, p1, rfl, hp1, hp2⟩ := own_shape2 ho1
  have hc1 := oldc hb1
  have l1 : w.heap.size + 2 ≤ w1.heap.size := by have := hb1.size; simp at this; omega
  have l1a : w.heap.size < w1.heap.size := by omega
  have l1b : w.heap.size + 1 < w1.heap.size := by omega
  have B1 : Hid (Below w.heap.size w w1) := hid ((((Below.refl _ _).alloc (Nat.le_refl _) _).alloc (by simp) _).trans (hb1.mono (by simp; omega)))
  clear hb1 HR ho1
  go_wp2_with fail
  refine (HCv _).out.mono ?_
  rintro e w2 ⟨g2, p2, rfl, ho2, hb2⟩
  have hc2 := oldc hb2
  have l2 : w1.heap.size ≤ w2.heap.size := hb2.size
  have l2a : w.heap.size < w2.heap.size := by omega
  have l2b : w.heap.size + 1 < w2.heap.size := by omega
  have B2 : Hid (Below w.heap.size w w2) := hid (B1.out.trans (hb2.mono (by omega)))
  have HN2 : Hid (Nodes w2 w2.heap.size (.slice q1 ns.length p1) ns) := hid ((HN1.out.below hb2).mono (by omega))
  have HO2 : Hid (w2.ownsRow w1.heap.size 188 3 (.slice (some ⟨g2, 0, none⟩) C.length p2) C.length (spRow C)) := hid ho2
  clear hb2 HCv ho2 B1 HN1
  go_wp2_with fail
  refine ((HCm _ _ _).out HN2.out hp1 hp2).mono ?_
  rintro e w3 ⟨rfl, hb3⟩
  have B3 : Hid (Below w.heap.size w w3) := hid (B2.out.trans (hb3.mono (by omega)))
  have hc3 := oldc hb3
  have l3 : w2.heap.size ≤ w3.heap.size := hb3.size
  have l3a : w.heap.size < w3.heap.size := by omega
  have l3b : w.heap.size + 1 < w3.heap.size := by omega
  have HN3 : Hid (Nodes w3 w3.heap.size (.slice q1 ns.length p1) ns) := hid ((HN2.out.below hb3).mono (by omega))
  have HO3 : Hid (w3.ownsRow w1.heap.size 188 3 (.slice (some ⟨g2, 0, none⟩) C.length p2) C.length (spRow C)) := hid (own_keep HO2.out fun i hi => hb3.block i (own_in HO2.out i hi).2)
  clear hb3 HCm B2 HN2 HO2
  rw [ndV]
  have HBx : Hid (∀ obj, Calls Tryz.prog 81 #[.slice (some ⟨g2, 0, none⟩) C.length p2, .slice q1 ns.length p1] (w3.alloc obj) fun e w2 => e = .returned (ndV m) ∧ Below (w3.alloc obj).heap.size (w3.alloc obj) w2) := hid fun obj => by
    have hbA : Below w3.heap.size w3 (w3.alloc obj) := (Below.refl _ _).alloc (Nat.le_refl _) _
    exact (HBg w1.heap.size g2 p2 _ (w3.alloc obj)).out (own_keep HO3.out fun i hi => hbA.block i (own_in HO3.out i hi).2) ((HN3.out.below hbA).mono (by simp))
  clear HBg HO3 HN3
  go_wp2_with fail
  refine (HBx.out _).mono ?_
  rintro e w4 ⟨rfl, hb4⟩
  have l4 : w3.heap.size < w4.heap.size := by have := hb4.size; simp at this; omega
  have hc4 := oldc (((Below.refl w3.heap.size w3).alloc (Nat.le_refl _) _).trans (hb4.mono (by simp)))
  have hn4 := ((Six.at w3 w3.heap.size rfl (.int .i64 d.c) (.int .i64 d.s) (.int .i64 d.m) (.int .i64 d.x) (.int .u8 (d.h.toNat : Int)) (.int .u8 (d.g.toNat : Int))).below hb4 (by simp)).cells
  have l4a : w.heap.size < w4.heap.size := by omega
  have l4b : w.heap.size + 1 < w4.heap.size := by omega
  have B4 : Hid (Below w.heap.size w w4) := hid ((B3.out.alloc B3.out.size _).trans (hb4.mono (by simp; omega)))
  clear hb4 HBx B3
  rw [ndV]
  go_wp2_with fail
  refine (show Calls Tryz.prog 16 #[.int .i64 n, ndV d] _ _ from (HRt _).out).mono ?_
  rintro e w5 ⟨rfl, hb5⟩
  have l5 : w4.heap.size < w5.heap.size := by have := hb5.size; simp at this; omega
  have hc5 := oldc (((Below.refl w4.heap.size w4).alloc (Nat.le_refl _) _).trans (hb5.mono (by simp)))
  have hn5 := ((Six.at w4 w4.heap.size rfl (.int .i64 m.c) (.int .i64 m.s) (.int .i64 m.m) (.int .i64 m.x) (.int .u8 (m.h.toNat : Int)) (.int .u8 (m.g.toNat : Int))).below hb5 (by simp)).cells
  have l5a : w.heap.size < w5.heap.size := by omega
  have l5b : w.heap.size + 1 < w5.heap.size := by omega
  have B5 : Hid (Below w.heap.size w w5) := hid ((B4.out.alloc B4.out.size _).trans (hb5.mono (by simp; omega)))
  clear hb5 HRt B4 hn4
  go_wp2_with fail
  refine (show Calls Tryz.prog 16 #[.int .i64 o, ndV m] _ _ from (HRo _).out).mono ?_
  rintro e w6 ⟨rfl, hb6⟩
  have l6 : w5.heap.size < w6.heap.size := by have := hb6.size; simp at this; omega
  have hd6 := oldc hb6 w5.heap.size 0 (by simp)
  have hd7 := oldc hb6 w5.heap.size 1 (by simp)
  have hc6 := oldc (((Below.refl w5.heap.size w5).alloc (Nat.le_refl _) _).trans (hb6.mono (by simp)))
  have l6a : w.heap.size < w6.heap.size := by omega
  have l6b : w.heap.size + 1 < w6.heap.size := by omega
  have B6 : Hid (Below w.heap.size w w6) := hid ((B5.out.alloc B5.out.size _).trans (hb6.mono (by simp; omega)))
  clear hb6 HRo B5 hn5
  by_cases hd : D / 256 = b0 ∧ D % 256 = b1
  · have hd1 : decide (D / 256 = b0) = true := decide_eq_true hd.1
    have hd2 : decide (D % 256 = b1) = true := decide_eq_true hd.2
    by_cases hg : G / 256 = a0 ∧ G % 256 = a1
    · have hg1 : decide (G / 256 = a0) = true := decide_eq_true hg.1
      have hg2 : decide (G % 256 = a1) = true := decide_eq_true hg.2
      have HV : Hid (R = 0) := hid (by rw [HRx.out, if_neg (by rintro ((x | x) | (x | x)); exact x hd.1; exact x hd.2; exact x hg.1; exact x hg.2)])
      clear hd hg
      go_wp2
      go_ret
      exact ⟨by rw [HV.out]; rfl, B6.out.alloc B6.out.size _⟩
    · have hg' : (decide (G / 256 = a0) && decide (G % 256 = a1)) = false := by simpa [Bool.and_eq_false_iff] using fun x => fun y => hg ⟨x, y⟩
      have HV : Hid (R = 9) := hid (by rw [HRx.out, if_pos (.inr (by by_cases x : G / 256 = a0; exact .inr (fun y => hg ⟨x, y⟩); exact .inl x))])
      clear hd hg
      go_wp2
      go_ret
      exact ⟨by rw [HV.out]; rfl, B6.out.alloc B6.out.size _⟩
  · have hd' : (decide (D / 256 = b0) && decide (D % 256 = b1)) = false := by simpa [Bool.and_eq_false_iff] using fun x => fun y => hd ⟨x, y⟩
    have HV : Hid (R = 9) := hid (by rw [HRx.out, if_pos (.inl (by by_cases x : D / 256 = b0; exact .inr (fun y => hd ⟨x, y⟩); exact .inl x))])
    clear hd
    go_wp2
    go_ret
    exact ⟨by rw [HV.out]; rfl, B6.out.alloc B6.out.size _⟩
end Go.Proofs.YtogmdaopfnmobaaGreat

/- What the document's own answer does (notaryref): Grows, all together. -/
namespace Go.Proofs.YtogmdaopfnmobaaGreat
open Go.RowKit
theorem refGrows_any (o n : Nat) (a0 a1 b0 b1 : Int) (p : ByteArray) (w : World) (h1 : 1 ≤ o) (h2 : o ≤ n) (h3 : n ≤ 64) (hs : p.size ≤ maxLen) :
    Calls Tryz.prog 41 #[.agg #[.int .i64 o, .int .u8 a0, .int .u8 a1], .agg #[.int .i64 n, .int .u8 b0, .int .u8 b1], .string p] w fun e w' => e = .returned (.int .i64 (cgE o n a0 a1 b0 b1 (readR p.data.toList))) ∧ Below w.heap.size w w' := by
  cases hr : readR p.data.toList with
  | none => exact refGrows_bad o n a0 a1 b0 b1 p w h1 h2 h3 hs hr
  | some ns =>
    have hoks : ∀ d ∈ ns, d.ok = true := List.all_eq_true.1 (write_read _ _ hr).2.1
    by_cases hl : ns.length = (cov 0 n 0 o).length
    · obtain ⟨k1, k2⟩ := wk_cm 0 o n 0 n ns (by omega) h3 hoks
      cases hc : (cm 0 n 0 o ns).ok with
      | false =>
        have e : cgE o n a0 a1 b0 b1 (some ns) = 6 := by simp [cgE, hl, hc]
        rw [e]
        exact refGrows_node o n a0 a1 b0 b1 p w h1 h2 h3 hs ns hr hl (by rw [k1, hc]; rfl)
      | true =>
        have := refGrows_end o n a0 a1 b0 b1 p w h1 h2 h3 hs ns hr hl (by rw [k1, hc]; rfl)
        rw [k2 hc] at this
        have e : cgE o n a0 a1 b0 b1 (some ns) = if ((dg (hdText n (cm 0 n 0 o ns)) : Int) / 256 ≠ b0 ∨ (dg (hdText n (cm 0 n 0 o ns)) : Int) % 256 ≠ b1) ∨ ((dg (hdText o (bgn 0 n o ns)) : Int) / 256 ≠ a0 ∨ (dg (hdText o (bgn 0 n o ns)) : Int) % 256 ≠ a1) then 9 else 0 := by
          simp only [cgE]
          rw [if_neg (fun c => c hl), if_neg (by simp [hc])]
        rw [e]
        exact this
    · have e : cgE o n a0 a1 b0 b1 (some ns) = 8 := by simp [cgE, hl]
      rw [e]
      exact refGrows_count o n a0 a1 b0 b1 p w h1 h2 h3 hs ns hr hl
end Go.Proofs.YtogmdaopfnmobaaGreat

