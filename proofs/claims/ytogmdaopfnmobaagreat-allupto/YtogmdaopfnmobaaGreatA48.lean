/- The statements' own judge of two texts (notarylaw): clash. -/
import Derived.Test.YtogmdaopfnmobaaGreatA43
import Derived.Test.YtogmdaopfnmobaaGreatA45
import Derived.Test.YtogmdaopfnmobaaGreatA44
import Derived.Test.YtogmdaopfnmobaaGreatA39
import Derived.Test.YtogmdaopfnmobaaGreatA47
namespace Go.Proofs.YtogmdaopfnmobaaGreat
open Go.RowKit
set_option maxRecDepth 100000 in
theorem srun_eql_digest (w : World) (h g h' g' : Int) :
    (binOp .eql 49 (.agg #[.int .u8 h, .int .u8 g]) (.agg #[.int .u8 h', .int .u8 g'])).run Tryz.prog w = .ok (.bool (decide (h = h') && decide (g = g'))) w := by
  go_simp
  rw [run_equal_digest0]
  rfl
attribute [local go_sem ↓] srun_eql_digest
set_option maxHeartbeats 1000000 in
theorem snum_any (e : Int) (w : World) : Calls Tryz.prog 19 #[.int .i64 e] w fun r w' => r = .returned (.int .i64 e) ∧ w' = w := by
  go_enter Tryz.func19, Tryz.ntmps19
  go_wp2
  all_goals go_ret
  all_goals exact ⟨rfl, rfl⟩
set_option maxHeartbeats 2000000 in
set_option maxRecDepth 100000 in
theorem clash_err (f : Int) (w : World) (hf : f ≠ 0) (v : Value) :
    Calls Tryz.prog 13 #[.string ⟨#[]⟩, .string ⟨#[]⟩, .int .i64 f, .int .i64 f, v] w fun e w' => e = .returned (.bool true) ∧ Below w.heap.size w w' := by
  have hf' : (f == 0) = false := by simpa using hf
  go_enter Tryz.func13, Tryz.ntmps13
  go_wp2_with (go_at_call 19; refine (snum_any _ _).mono ?_; rintro e w1 ⟨rfl, hw1⟩; rw [hw1]; clear hw1 w1)
  go_ret
  exact ⟨rfl, Below.refl _ _⟩
theorem prRow_get (l : List (List UInt8 × List UInt8)) : ∀ (i j : Nat) (hi : i < l.length) (_ : j < 2), (prRow l)[i * 2 + j]? = (prCells l[i])[j]? := by
  induction l with
  | nil => intro i j hi; simp at hi
  | cons p r ih =>
    intro i j hi hj
    have e : prRow (p :: r) = prCells p ++ prRow r := by simp [prRow]
    have hl : (prCells p).length = 2 := rfl
    rw [e]
    cases i with
    | zero => rw [List.getElem?_append_left (by rw [hl]; omega)]; simp
    | succ i =>
      rw [List.getElem?_append_right (by rw [hl]; omega), hl, show (i + 1) * 2 + j - 2 = i * 2 + j by omega, ih i j (by simpa using hi) hj]
      simp
theorem pair_cells {w : World} {base g cap n : Nat} {l : List (List UInt8 × List UInt8)} (h : w.ownsRow base 107 2 (.slice (some ⟨g, 0, none⟩) n cap) n (prRow l)) (k : Nat) (hk : k < l.length) (p : List UInt8 × List UInt8) (hp : p = l[k]) :
    w.cell? ⟨g, k * 2, none⟩ = some (.string ⟨p.1.toArray⟩) ∧ w.cell? ⟨g, k * 2 + 1, none⟩ = some (.string ⟨p.2.toArray⟩) := by
  have hn : n = l.length := by have := h.1; rw [prRow_len] at this; omega
  subst hp
  have e0 := h.cellAt (k * 2 + 0) (by omega)
  have e1 := h.cellAt (k * 2 + 1) (by omega)
  rw [prRow_get l k 0 hk (by omega)] at e0
  rw [prRow_get l k 1 hk (by omega)] at e1
  exact ⟨e0, e1⟩
theorem in_next (l : List (List UInt8 × List UInt8)) (x : List UInt8 × List UInt8) (k : Nat) (h : k < l.length) : decide (x ∈ l.take (k + 1)) = (decide (x ∈ l.take k) || decide (l[k] = x)) := by
  have e : x ∈ l.take (k + 1) ↔ x ∈ l.take k ∨ l[k] = x := by
    rw [List.take_succ_eq_append_getElem h, List.mem_append, List.mem_singleton]
    exact ⟨fun h => h.imp id Eq.symm, fun h => h.imp id Eq.symm⟩
  by_cases h1 : x ∈ l.take k
  · rw [decide_eq_true h1, decide_eq_true (e.2 (.inl h1))]; rfl
  · by_cases h2 : l[k] = x
    · rw [decide_eq_true h2, decide_eq_true (e.2 (.inr h2)), Bool.or_true]
    · rw [decide_eq_false h1, decide_eq_false h2, decide_eq_false (fun c => (e.1 c).elim h1 h2)]; rfl
set_option maxHeartbeats 4000000 in
set_option maxRecDepth 100000 in
theorem clash_ok (P Q : List UInt8) (l : List (List UInt8 × List UInt8)) (base g cap : Nat) (w : World) (ho : w.ownsRow base 107 2 (.slice (some ⟨g, 0, none⟩) l.length cap) l.length (prRow l)) (hl : l.length ≤ 1000) (hPQ : P ≠ Q) (hd : dg P = dg Q) (hin : (P, Q) ∈ l) (hP : P.length ≤ 1000) (hQ : Q.length ≤ 1000) :
    Calls Tryz.prog 13 #[.string ⟨P.toArray⟩, .string ⟨Q.toArray⟩, .int .i64 0, .int .i64 0, .slice (some ⟨g, 0, none⟩) l.length cap] w fun e w' => e = .returned (.bool true) ∧ Below w.heap.size w w' := by
  have HH1 : ∀ w', Hid (Calls Tryz.prog 45 #[.string ⟨P.toArray⟩] w' _) := fun w' => hid (refHash_any ⟨P.toArray⟩ w' (by rw [size_list]; simp; unfold maxLen; omega))
  have HH2 : ∀ w', Hid (Calls Tryz.prog 45 #[.string ⟨Q.toArray⟩] w' _) := fun w' => hid (refHash_any ⟨Q.toArray⟩ w' (by rw [size_list]; simp; unfold maxLen; omega))
  have e1 : (⟨P.toArray⟩ : ByteArray).data.toList = P := by simp
  have e2 : (⟨Q.toArray⟩ : ByteArray).data.toList = Q := by simp
  rw [e1, hd] at HH1
  rw [e2] at HH2
  generalize (dg Q : Int) / 256 = d0 at HH1 HH2
  generalize (dg Q : Int) % 256 = d1 at HH1 HH2
  have HIN := hid hin
  have hne : (P == Q) = false := by simpa using hPQ
  clear e1 e2 hd hin hPQ hP hQ
  have HO := hid ho
  clear ho
  go_enter Tryz.func13, Tryz.ntmps13
  go_wp2_with (go_at_call 19; refine (snum_any _ _).mono ?_; rintro e w1 ⟨rfl, hw1⟩; rw [hw1]; clear hw1 w1)
  go_loopw [11, 12] (fun b i wr => ∃ k : Nat, k ≤ l.length ∧ i = .int .i64 k ∧ b = .bool (decide ((P, Q) ∈ l.take k)) ∧ wr = w) (fun _ i _ => l.length - (intOf i).toNat)
  case atStart => exact ⟨0, Nat.zero_le _, rfl, by simp, rfl⟩
  case round =>
    obtain ⟨k, hk, rfl, rfl, rfl⟩ := hrel
    by_cases hlt : k < l.length
    · obtain ⟨x, hx⟩ : ∃ x, x = l[k] := ⟨_, rfl⟩
      obtain ⟨q0, q1⟩ := pair_cells HO.out k hlt x hx
      have HNx := hid (in_next l (P, Q) k hlt)
      rw [← hx] at HNx
      clear hx
      obtain ⟨x1, x2⟩ := x
      simp only at q0 q1
      cases hb : decide ((P, Q) ∈ l.take k) with
      | true =>
        rw [hb] at HNx
        have HN : Hid (decide ((P, Q) ∈ l.take (k + 1)) = true) := hid (by rw [HNx.out]; rfl)
        clear HNx hb
        go_wp2
        go_roundw
        case rel => exact ⟨k + 1, by omega, by push_cast; rfl, by rw [HN.out], trivial⟩
        case measure => simp [intOf]; omega
      | false =>
        rw [hb] at HNx
        by_cases h1 : x1 = P
        · subst h1
          by_cases h2 : x2 = Q
          · subst h2
            have HN : Hid (decide ((x1, x2) ∈ l.take (k + 1)) = true) := hid (by rw [HNx.out]; simp)
            clear HNx hb
            go_wp2
            go_roundw
            case rel => exact ⟨k + 1, by omega, by push_cast; rfl, by rw [HN.out], trivial⟩
            case measure => simp [intOf]; omega
          · have h2' : (x2 == Q) = false := by simpa using h2
            have HN : Hid (decide ((x1, Q) ∈ l.take (k + 1)) = false) := hid (by rw [HNx.out]; simp [h2])
            clear HNx hb
            go_wp2
            go_roundw
            case rel => exact ⟨k + 1, by omega, by push_cast; rfl, by rw [HN.out], trivial⟩
            case measure => simp [intOf]; omega
        · have h1' : (x1 == P) = false := by simpa using h1
          have HN : Hid (decide ((P, Q) ∈ l.take (k + 1)) = false) := hid (by rw [HNx.out]; simp [h1])
          clear HNx hb
          go_wp2
          go_roundw
          case rel => exact ⟨k + 1, by omega, by push_cast; rfl, by rw [HN.out], trivial⟩
          case measure => simp [intOf]; omega
    · obtain rfl : k = l.length := by omega
      have hb : decide ((P, Q) ∈ l.take l.length) = true := by rw [List.take_length]; simpa using HIN.out
      rw [hb]
      clear hb
      go_wp2_with fail
      refine (HH1 _).out.mono ?_
      rintro e w2 ⟨rfl, hb2⟩
      have H2 : Hid (Below wr.heap.size wr w2) := hid hb2
      have hs2 := hb2.size
      clear hb2 HH1
      go_wp2_with fail
      refine (HH2 _).out.mono ?_
      rintro e w3 ⟨rfl, hb3⟩
      have hc3 : w3.heap[w2.heap.size]? = some (.cells #[.int .u8 d0, .int .u8 d1] 49 (0, 0)) := (hb3.block _ (by simp)).trans (heap_one w2 _ _ rfl)
      have k0 : w3.cell? ⟨w2.heap.size, 0, none⟩ = some (.int .u8 d0) := by rw [cell_of_row w3 _ _ _ _ _ hc3]; rfl
      have k1 : w3.cell? ⟨w2.heap.size, 1, none⟩ = some (.int .u8 d1) := by rw [cell_of_row w3 _ _ _ _ _ hc3]; rfl
      have l3 : w2.heap.size < w3.heap.size := (Array.getElem?_eq_some_iff.1 hc3).1
      have H3 : Hid (Below wr.heap.size wr w3) := hid ((H2.out.alloc hs2 _).trans (hb3.mono (by simp; omega)))
      clear hb3 hc3 HH2
      go_wp2
      go_ret
      exact ⟨rfl, H3.out.alloc (by omega) _⟩
end Go.Proofs.YtogmdaopfnmobaaGreat

/- Whoever takes a wrong answer for right has been shown two texts with one digest: as mathematics. -/
namespace Go.Proofs.YtogmdaopfnmobaaGreat
open Go.RowKit
theorem gL_ok {qs : List (Sp × Nd)} (h : ∀ q ∈ qs, q.2.ok = true) : ∀ a b d, gL qs a b = some d → d.ok = true := by
  intro a b d
  induction qs with
  | nil => intro h'; simp [gL] at h'
  | cons q qs ih =>
    intro h'
    simp only [gL] at h'
    cases e : gL qs a b with
    | some d' =>
      rw [e] at h'
      simp only [Option.some.injEq] at h'
      subst h'
      exact ih (fun x hx => h x (by simp [hx])) e
    | none =>
      rw [e] at h'
      by_cases hc : q.1.a = a ∧ q.1.b = b
      · rw [if_pos hc] at h'
        simp only [Option.some.injEq] at h'
        subst h'
        exact h q (by simp)
      · rw [if_neg hc] at h'; cases h'
theorem cov_clash {lf : Nat → Nd} (hlf : ∀ i, bd 1 (lf i)) (f t : Nat) (g : Nat → Nat → Option Nd) (hg : ∀ a b d, g a b = some d → d.ok = true) : ∀ (n a b : Nat) (ns : List Nd) (pre post : List (Sp × Nd)), b - a ≤ n → a ≤ b → b ≤ 64 → (cov a b f t).length ≤ ns.length → (∀ d ∈ ns, d.ok = true) → (a = b → pre = [] ∧ post = []) → (∀ q ∈ pre, q.1.b ≤ a) → (∀ q ∈ post, b ≤ q.1.a) →
    g = gL (pre ++ (cov a b f t).zip ns ++ post) → prs g (tr lf) a b = prC (tr lf) a b f t ns ∧ (cm a b f t ns = tr lf a b → cld g (tr lf) a b = none → ns.take (cov a b f t).length = cn lf (cov a b f t)) := by
  intro n
  induction n with
  | zero =>
    intro a b ns pre post h hab hb hl hok h0 hp hq hgg
    have hs : isOut a b f t = true ∨ isIn a b f t = true ∨ b < a + 2 := .inr (.inr (by omega))
    refine ⟨by rw [prs_known (.inr (by omega)), prC_one ns hs], fun hc _ => ?_⟩
    rw [cm_one ns hs] at hc
    rw [cov_1 hs] at hl ⊢
    cases ns with
    | nil => simp at hl
    | cons d r => simpa [cn] using hc
  | succ n ih =>
    intro a b ns pre post h hab hb hl hok h0 hp hq hgg
    by_cases hs : isOut a b f t = true ∨ isIn a b f t = true ∨ b < a + 2
    · have hkn : (g a b).isSome = true := by
        have := comes_cm f t (b - a) a b ns pre post (Nat.le_refl _) hab hb hl hok h0 hp hq
        rw [← hgg] at this
        generalize cm a b f t ns = dd at this
        cases this with
        | known hk => rw [hk]; rfl
        | above hn2 h2 h3 h4 h5 h6 =>
          rw [hgg] at hn2
          rw [cov_1 hs] at hl hn2
          cases ns with
          | nil => simp at hl
          | cons d r =>
            exfalso
            have e : a ≠ b := by omega
            have hz : gL post a b = none := gL_none (fun q hq' c => by have := hq q hq'; omega)
            rw [gL_append, hz, gL_append] at hn2
            simp [gL] at hn2
      refine ⟨by rw [prs_known (.inl hkn), prC_one ns hs], fun hc _ => ?_⟩
      rw [cm_one ns hs] at hc
      rw [cov_1 hs] at hl ⊢
      cases ns with
      | nil => simp at hl
      | cons d r => simpa [cn] using hc
    · have p := hf_pos (b - a)
      have q := hf_lt (b - a) (by omega)
      have hlm := cov_mem f t n a (a + hf (b - a)) (by omega) (by omega)
      have hrm := cov_mem f t n (a + hf (b - a)) b (by omega) (by omega)
      have hl' := hl
      rw [cov_2 hs, List.length_append] at hl'
      have hok1 : ∀ d ∈ ns.drop (cov a (a + hf (b - a)) f t).length, d.ok = true := fun d hd => hok d (List.mem_of_mem_drop hd)
      have hz := zip_cov ns hs (by omega)
      have c0 := comes_cm f t (b - a) a b ns pre post (Nat.le_refl _) hab hb hl hok h0 hp hq
      have key : g a b = none := by
        rw [hgg, hz]
        refine gL_none fun qq hqq c => ?_
        simp only [List.mem_append] at hqq
        rcases hqq with (h1 | h1 | h1) | h1
        · have := hp qq h1; omega
        · have := hlm qq.1 (List.of_mem_zip h1).1; omega
        · have := hrm qq.1 (List.of_mem_zip h1).1; omega
        · have := hq qq h1; omega
      have g1 : g = gL (pre ++ (cov a (a + hf (b - a)) f t).zip ns ++ ((cov (a + hf (b - a)) b f t).zip (ns.drop (cov a (a + hf (b - a)) f t).length) ++ post)) := by rw [hgg, hz]; simp [List.append_assoc]
      have g2 : g = gL (pre ++ (cov a (a + hf (b - a)) f t).zip ns ++ (cov (a + hf (b - a)) b f t).zip (ns.drop (cov a (a + hf (b - a)) f t).length) ++ post) := by rw [hgg, hz]; simp [List.append_assoc]
      have q1 : ∀ qq ∈ (cov (a + hf (b - a)) b f t).zip (ns.drop (cov a (a + hf (b - a)) f t).length) ++ post, a + hf (b - a) ≤ qq.1.a := fun qq h1 => by
        rcases List.mem_append.1 h1 with h1 | h1
        · exact (hrm qq.1 (List.of_mem_zip h1).1).1
        · have := hq qq h1; omega
      have q2 : ∀ qq ∈ pre ++ (cov a (a + hf (b - a)) f t).zip ns, qq.1.b ≤ a + hf (b - a) := fun qq h1 => by
        rcases List.mem_append.1 h1 with h1 | h1
        · have := hp qq h1; omega
        · exact (hlm qq.1 (List.of_mem_zip h1).1).2.2.1
      obtain ⟨i1, j1⟩ := ih a (a + hf (b - a)) ns pre _ (by omega) (by omega) (by omega) (by omega) hok (fun e => by omega) hp q1 g1
      obtain ⟨i2, j2⟩ := ih (a + hf (b - a)) b (ns.drop (cov a (a + hf (b - a)) f t).length) (pre ++ (cov a (a + hf (b - a)) f t).zip ns) post (by omega) (by omega) hb (by simp; omega) hok1 (fun e => by omega) q2 hq g2
      have m1 : cmg g a (a + hf (b - a)) = cm a (a + hf (b - a)) f t ns := by
        have := comes_cm f t n a (a + hf (b - a)) ns pre _ (by omega) (by omega) (by omega) (by omega) hok (fun e => by omega) hp q1
        rw [← g1] at this
        exact this.cmg.symm
      have m2 : cmg g (a + hf (b - a)) b = cm (a + hf (b - a)) b f t (ns.drop (cov a (a + hf (b - a)) f t).length) := by
        have := comes_cm f t n (a + hf (b - a)) b (ns.drop (cov a (a + hf (b - a)) f t).length) (pre ++ (cov a (a + hf (b - a)) f t).zip ns) post (by omega) (by omega) hb (by simp; omega) hok1 (fun e => by omega) q2 hq
        rw [← g2] at this
        exact this.cmg.symm
      refine ⟨by rw [prs_above key (by omega), prC_two ns hs, i1, i2, m1, m2], fun hc hn => ?_⟩
      have he : cmg g a b = tr lf a b := by rw [← hc, hgg]; exact c0.cmg.symm
      obtain ⟨⟨a1, a2⟩, b1, b2⟩ := cld_none hg (tr_U hlf) key (by omega) hb he hn
      rw [m1] at a1
      rw [m2] at b1
      have k1 := j1 a1 a2
      have k2 := j2 b1 b2
      rw [cov_2 hs, List.length_append, List.take_add, k1, k2]
      simp [cn]
theorem sound_math {lf : Nat → Nd} (hlf : ∀ i, bd 1 (lf i)) (hgd : ∀ i, (lf i).fold.good) {n f u : Nat} (hn : n ≤ 64) (hun : u ≤ n) {claim : Fo} {ns : List Nd} (hok : ∀ d ∈ ns, d.ok = true)
    (hE : ckE n f u ((dg (hdText n (tr lf 0 n)) : Int) / 256) ((dg (hdText n (tr lf 0 n)) : Int) % 256) claim (some ns) = 0) (hne : fv lf f (u - f) ≠ claim) :
    (ns.length = (cov 0 n f u).length ∧ (cm 0 n f u ns).ok = true) ∧ ∃ P Q, cls (gL ((cov 0 n f u).zip ns)) (tr lf) n = some (P, Q) ∧ P ≠ Q ∧ dg P = dg Q ∧ (P, Q) ∈ prC (tr lf) 0 n f u ns ++ [(hdText n (cm 0 n f u ns), hdText n (tr lf 0 n))] := by
  simp only [ckE] at hE
  by_cases hl : ns.length = (cov 0 n f u).length
  case neg => rw [if_pos hl] at hE; cases hE
  rw [if_neg (fun c => c hl)] at hE
  cases hc : (cm 0 n f u ns).ok with
  | false => rw [hc, if_pos rfl] at hE; cases hE
  | true =>
    rw [hc, if_neg (by decide)] at hE
    by_cases hd : (dg (hdText n (cm 0 n f u ns)) : Int) / 256 ≠ (dg (hdText n (tr lf 0 n)) : Int) / 256 ∨ (dg (hdText n (cm 0 n f u ns)) : Int) % 256 ≠ (dg (hdText n (tr lf 0 n)) : Int) % 256
    · rw [if_pos hd] at hE; cases hE
    rw [if_neg hd] at hE
    have hdg : dg (hdText n (cm 0 n f u ns)) = dg (hdText n (tr lf 0 n)) := by
      refine dg_of ?_ ?_
      · exact Decidable.byContradiction fun c => hd (.inl c)
      · exact Decidable.byContradiction fun c => hd (.inr c)
    have hfz : fz ((cov 0 n f u).zip ns) = claim := by
      by_cases h : fz ((cov 0 n f u).zip ns) ≠ claim
      · rw [if_pos h] at hE; cases hE
      · exact Decidable.byContradiction h
    have hgo := gL_ok (qs := (cov 0 n f u).zip ns) (fun q hq => hok _ (List.of_mem_zip hq).2)
    have hcg : cmg (gL ((cov 0 n f u).zip ns)) 0 n = cm 0 n f u ns := by
      have := comes_cm f u n 0 n ns [] [] (by omega) (by omega) hn (by omega) hok (fun _ => ⟨rfl, rfl⟩) (by simp) (by simp)
      simp only [List.nil_append, List.append_nil] at this
      exact this.cmg.symm
    obtain ⟨i1, i2⟩ := cov_clash hlf f u (gL ((cov 0 n f u).zip ns)) hgo n 0 n ns [] [] (by omega) (by omega) hn (by omega) hok (fun _ => ⟨rfl, rfl⟩) (by simp) (by simp) (by simp)
    refine ⟨⟨hl, rfl⟩, ?_⟩
    unfold cls
    rw [hcg]
    by_cases ht : hdText n (cm 0 n f u ns) = hdText n (tr lf 0 n)
    · rw [if_pos ht]
      have he := hdText_inj hc (tr_mid hlf 0 n (by omega)) ht
      cases hcl : cld (gL ((cov 0 n f u).zip ns)) (tr lf) 0 n with
      | some pq =>
        obtain ⟨h1, h2⟩ := cld_clash hgo (tr_U hlf) n 0 n (by omega) hn (hcg.trans he) pq hcl
        have h3 := cld_in n 0 n (by omega) pq hcl
        rw [i1] at h3
        exact ⟨pq.1, pq.2, rfl, h1, h2, List.mem_append_left _ h3⟩
      | none =>
        exfalso
        have h1 := i2 he hcl
        rw [← hl, List.take_length] at h1
        rw [h1, fz_cn, finN_fv hgd n f u hun] at hfz
        exact hne hfz
    · rw [if_neg ht]
      exact ⟨_, _, rfl, ht, hdg, List.mem_append_right _ (by simp)⟩
end Go.Proofs.YtogmdaopfnmobaaGreat

/- Whoever takes another log for the beginning of this one has been shown two texts with one digest: as mathematics. -/
namespace Go.Proofs.YtogmdaopfnmobaaGreat
open Go.RowKit
def prT (T U : Nat → Nat → Nd) (a b : Nat) : List (List UInt8 × List UInt8) :=
  if _h : b < a + 2 then []
  else prT T U a (a + hf (b - a)) ++ prT T U (a + hf (b - a)) b ++ [(abText (T a (a + hf (b - a))) (T (a + hf (b - a)) b), abText (U a (a + hf (b - a))) (U (a + hf (b - a)) b))]
termination_by b - a
decreasing_by
  · have := hf_lt (b - a) (by omega); omega
  · have := hf_pos (b - a); omega
theorem prT_one {T U : Nat → Nat → Nd} {a b : Nat} (h : b < a + 2) : prT T U a b = [] := by rw [prT, dif_pos h]
theorem prT_two {T U : Nat → Nat → Nd} {a b : Nat} (h : ¬ b < a + 2) : prT T U a b = prT T U a (a + hf (b - a)) ++ prT T U (a + hf (b - a)) b ++ [(abText (T a (a + hf (b - a))) (T (a + hf (b - a)) b), abText (U a (a + hf (b - a))) (U (a + hf (b - a)) b))] := by rw [prT, dif_neg h]
theorem plG_big {lf : Nat → Nd} {a b : Nat} (h : ¬ b < a + 2) : plG lf a b = none := by
  unfold plG
  rw [if_neg (by omega), if_neg (by omega)]
theorem plG_ok {lf : Nat → Nd} (h : ∀ i, bd 1 (lf i)) : ∀ a b d, plG lf a b = some d → d.ok = true := by
  intro a b d hd
  unfold plG at hd
  split at hd
  · injection hd with hd; subst hd; rfl
  · split at hd
    · injection hd with hd; subst hd; exact bd_ok (h a) (by omega)
    · cases hd
theorem plG_cmg {lf : Nat → Nd} (h : ∀ i, bd 1 (lf i)) (a b : Nat) (hb : b ≤ 1000) : cmg (plG lf) a b = tr lf a b := (comes_of h (b - a) a b (Nat.le_refl _) hb).cmg.symm
theorem prs_prT {lf : Nat → Nd} (h : ∀ i, bd 1 (lf i)) (U : Nat → Nat → Nd) : ∀ n a b, b - a ≤ n → b ≤ 1000 → prs (plG lf) U a b = prT (tr lf) U a b := by
  intro n
  induction n with
  | zero => intro a b hn _; rw [prs_known (.inr (by omega)), prT_one (by omega)]
  | succ n ih =>
    intro a b hn hb
    by_cases h2 : b < a + 2
    · rw [prs_known (.inr h2), prT_one h2]
    · have p := hf_pos (b - a)
      have q := hf_lt (b - a) (by omega)
      rw [prs_above (plG_big h2) (by omega), prT_two h2, ih _ _ (by omega) (by omega), ih _ _ (by omega) hb, plG_cmg h _ _ (by omega), plG_cmg h _ _ hb]
theorem logs_same {lf lf2 : Nat → Nd} (h : ∀ i, bd 1 (lf i)) (h2 : ∀ i, bd 1 (lf2 i)) : ∀ n a b, b - a ≤ n → b ≤ 64 → tr lf a b = tr lf2 a b → cld (plG lf) (tr lf2) a b = none → ∀ i, a ≤ i → i < b → lf i = lf2 i := by
  intro n
  induction n with
  | zero => intro a b hn _ _ _ i h3 h4; omega
  | succ n ih =>
    intro a b hn hb he hc i h3 h4
    by_cases h5 : b < a + 2
    · obtain rfl : b = a + 1 := by omega
      obtain rfl : i = a := by omega
      rw [tr_one, tr_one] at he
      exact he
    · have p := hf_pos (b - a)
      have q := hf_lt (b - a) (by omega)
      obtain ⟨⟨a1, a2⟩, b1, b2⟩ := cld_none (plG_ok h) (tr_U h2) (plG_big h5) (by omega) hb ((plG_cmg h a b (by omega)).trans he) hc
      rw [plG_cmg h _ _ (by omega)] at a1 b1
      by_cases h6 : i < a + hf (b - a)
      · exact ih a (a + hf (b - a)) (by omega) (by omega) a1 a2 i h3 h6
      · exact ih (a + hf (b - a)) b (by omega) hb b1 b2 i (by omega) h4
theorem lgf_inj {l l2 : List Int} {i : Nat} (h : lgf l i = lgf l2 i) : l.getD i 0 = l2.getD i 0 := by
  have := congrArg (fun d : Nd => d.s) h
  simpa [lgf, mkNd, Fo.one] using this
theorem grows_math {l old : List Int} (hl : ∀ v ∈ l, 0 ≤ v ∧ v ≤ 1000000) (ho : ∀ v ∈ old, 0 ≤ v ∧ v ≤ 1000000) (h1 : 1 ≤ old.length) (h2 : old.length ≤ l.length) (hn : l.length ≤ 64) {ns : List Nd} (hok : ∀ d ∈ ns, d.ok = true)
    (hE : cgE old.length l.length ((dg (hdText old.length (tr (lgf old) 0 old.length)) : Int) / 256) ((dg (hdText old.length (tr (lgf old) 0 old.length)) : Int) % 256) ((dg (hdText l.length (tr (lgf l) 0 l.length)) : Int) / 256) ((dg (hdText l.length (tr (lgf l) 0 l.length)) : Int) % 256) (some ns) = 0) (hne : old ≠ l.take old.length) :
    (ns.length = (cov 0 l.length 0 old.length).length ∧ (cm 0 l.length 0 old.length ns).ok = true) ∧
    ((∃ P Q, cls (gL ((cov 0 l.length 0 old.length).zip ns)) (tr (lgf l)) l.length = some (P, Q) ∧ P ≠ Q ∧ dg P = dg Q ∧ (P, Q) ∈ prC (tr (lgf l)) 0 l.length 0 old.length ns ++ [(hdText l.length (cm 0 l.length 0 old.length ns), hdText l.length (tr (lgf l) 0 l.length))]) ∨
     (cls (gL ((cov 0 l.length 0 old.length).zip ns)) (tr (lgf l)) l.length = none ∧ ∃ P Q, cls (plG (lgf old)) (tr (lgf l)) old.length = some (P, Q) ∧ P ≠ Q ∧ dg P = dg Q ∧ (P, Q) ∈ prT (tr (lgf old)) (tr (lgf l)) 0 old.length ++ [(hdText old.length (tr (lgf old) 0 old.length), hdText old.length (tr (lgf l) 0 old.length))])) := by
  have hlf := lgf_bd hl
  have hlo := lgf_bd ho
  generalize hN : l.length = n at *
  generalize hO : old.length = o at *
  simp only [cgE] at hE
  by_cases hlen : ns.length = (cov 0 n 0 o).length
  case neg => rw [if_pos hlen] at hE; cases hE
  rw [if_neg (fun c => c hlen)] at hE
  cases hc : (cm 0 n 0 o ns).ok with
  | false => rw [hc, if_pos rfl] at hE; cases hE
  | true =>
    rw [hc, if_neg (by decide)] at hE
    have hdd : ((dg (hdText n (cm 0 n 0 o ns)) : Int) / 256 = (dg (hdText n (tr (lgf l) 0 n)) : Int) / 256 ∧ (dg (hdText n (cm 0 n 0 o ns)) : Int) % 256 = (dg (hdText n (tr (lgf l) 0 n)) : Int) % 256) ∧ ((dg (hdText o (bgn 0 n o ns)) : Int) / 256 = (dg (hdText o (tr (lgf old) 0 o)) : Int) / 256 ∧ (dg (hdText o (bgn 0 n o ns)) : Int) % 256 = (dg (hdText o (tr (lgf old) 0 o)) : Int) % 256) := by
      refine Decidable.byContradiction fun c => ?_
      rw [if_pos (by omega)] at hE
      cases hE
    have hdg := dg_of hdd.1.1 hdd.1.2
    have hdo := dg_of hdd.2.1 hdd.2.2
    have hgo := gL_ok (qs := (cov 0 n 0 o).zip ns) (fun q hq => hok _ (List.of_mem_zip hq).2)
    have hcg : cmg (gL ((cov 0 n 0 o).zip ns)) 0 n = cm 0 n 0 o ns := by
      have := comes_cm 0 o n 0 n ns [] [] (by omega) (by omega) hn (by omega) hok (fun _ => ⟨rfl, rfl⟩) (by simp) (by simp)
      simp only [List.nil_append, List.append_nil] at this
      exact this.cmg.symm
    obtain ⟨i1, i2⟩ := cov_clash hlf 0 o (gL ((cov 0 n 0 o).zip ns)) hgo n 0 n ns [] [] (by omega) (by omega) hn (by omega) hok (fun _ => ⟨rfl, rfl⟩) (by simp) (by simp) (by simp)
    refine ⟨⟨hlen, rfl⟩, ?_⟩
    by_cases ht : hdText n (cm 0 n 0 o ns) = hdText n (tr (lgf l) 0 n)
    · have he := hdText_inj hc (tr_mid hlf 0 n (by omega)) ht
      have hcls : cls (gL ((cov 0 n 0 o).zip ns)) (tr (lgf l)) n = cld (gL ((cov 0 n 0 o).zip ns)) (tr (lgf l)) 0 n := by unfold cls; rw [hcg, if_pos ht]
      rw [hcls]
      cases hcl : cld (gL ((cov 0 n 0 o).zip ns)) (tr (lgf l)) 0 n with
      | some pq =>
        obtain ⟨h3, h4⟩ := cld_clash hgo (tr_U hlf) n 0 n (by omega) hn (hcg.trans he) pq hcl
        have h5 := cld_in n 0 n (by omega) pq hcl
        rw [i1] at h5
        exact .inl ⟨pq.1, pq.2, rfl, h3, h4, List.mem_append_left _ h5⟩
      | none =>
        right
        refine ⟨rfl, ?_⟩
        have h3 := i2 he hcl
        rw [← hlen, List.take_length] at h3
        have hb : bgn 0 n o ns = tr (lgf l) 0 o := by
          have := bgn_cn (lgf l) o n 0 n [] (by omega) (by omega) h2
          rw [List.append_nil, ← h3] at this
          exact this
        rw [hb] at hdo
        have hcg2 : cmg (plG (lgf old)) 0 o = tr (lgf old) 0 o := plG_cmg hlo 0 o (by omega)
        unfold cls
        rw [hcg2]
        by_cases ht2 : hdText o (tr (lgf old) 0 o) = hdText o (tr (lgf l) 0 o)
        · rw [if_pos ht2]
          have he2 := hdText_inj (tr_mid hlo 0 o (by omega)) (tr_mid hlf 0 o (by omega)) ht2
          cases hc2 : cld (plG (lgf old)) (tr (lgf l)) 0 o with
          | some pq =>
            obtain ⟨h4, h5⟩ := cld_clash (plG_ok hlo) (tr_U hlf) o 0 o (by omega) (by omega) (hcg2.trans he2) pq hc2
            have h6 := cld_in o 0 o (by omega) pq hc2
            rw [prs_prT hlo _ o 0 o (by omega) (by omega)] at h6
            exact ⟨pq.1, pq.2, rfl, h4, h5, List.mem_append_left _ h6⟩
          | none =>
            exfalso
            apply hne
            have hs := logs_same hlo hlf o 0 o (by omega) (by omega) he2 hc2
            refine List.ext_getElem (by simp; omega) fun i h3 h4 => ?_
            have := lgf_inj (hs i (by omega) (by omega))
            rw [List.getD_eq_getElem?_getD, List.getD_eq_getElem?_getD, List.getElem?_eq_getElem h3, List.getElem?_eq_getElem (by omega)] at this
            simpa using this
        · rw [if_neg ht2]
          exact ⟨_, _, rfl, ht2, hdo.symm, List.mem_append_right _ (by simp)⟩
    · left
      unfold cls
      rw [hcg, if_neg ht]
      exact ⟨_, _, rfl, ht, hdg, List.mem_append_right _ (by simp)⟩
end Go.Proofs.YtogmdaopfnmobaaGreat

/- What the document's own answer does (notaryref): ExtractGrown, where the older log may not be. -/
namespace Go.Proofs.YtogmdaopfnmobaaGreat
open Go.RowKit
theorem same_next {l l2 : List Int} {k : Nat} (h : k < l.length) (h2 : k < l2.length) : decide (l.take (k + 1) = l2.take (k + 1)) = (decide (l.take k = l2.take k) && decide (l[k] = l2[k])) := by
  have e : l.take (k + 1) = l2.take (k + 1) ↔ l.take k = l2.take k ∧ l[k] = l2[k] := by
    rw [List.take_succ_eq_append_getElem h, List.take_succ_eq_append_getElem h2]
    constructor
    · intro hh
      have := List.append_inj hh (by simp; omega)
      exact ⟨this.1, by simpa using this.2⟩
    · rintro ⟨a, b⟩
      rw [a, b]
  by_cases h1 : l.take k = l2.take k
  · by_cases h3 : l[k] = l2[k]
    · rw [decide_eq_true h1, decide_eq_true h3, decide_eq_true (e.2 ⟨h1, h3⟩)]; rfl
    · rw [decide_eq_true h1, decide_eq_false h3, decide_eq_false (fun c => h3 (e.1 c).2)]; rfl
  · rw [decide_eq_false h1, decide_eq_false (fun c => h1 (e.1 c).1)]; rfl
set_option maxHeartbeats 4000000 in
set_option maxRecDepth 100000 in
theorem refExG_range (w : World) (base R : Nat) (s : Sto) (lv : Value) (K H : Nat) (h : RSt w base R s lv K H) (v : Value) (old : List Int) (p : ByteArray) (hl : Cells1 w w.heap.size v (old.map (.int .i64))) (hm : old.length ≤ 9223372036854775807) (hbad : old.length < 1 ∨ s.l.length < old.length ∨ old.all isVal = false) :
    Calls Tryz.prog 12 #[.pointer (some ⟨R, 0, none⟩), v, .string p] w fun e w' => e = .returned (.tuple #[.slice none 0 0, .int .i64 5]) ∧ Below w.heap.size w w' := by
  obtain ⟨⟨c0, c1, c2⟩, hfz⟩ := h.cells
  have hlg := h.log1
  have hRl := h.lt.1
  obtain ⟨ao1, cap1, rfl⟩ := own_shape h.hL
  have hlen := h.ok.len
  obtain ⟨ao, cap, rfl, hc⟩ := hl.ex
  obtain ⟨ao1', cap1', hve, hc2⟩ := hlg.ex
  simp only [List.length_map] at hve hc hc2 ⊢
  simp only [Value.slice.injEq] at hve
  obtain ⟨rfl, _, rfl⟩ := hve
  clear h hl hlg
  by_cases h1 : old.length < 1
  · go_enter Tryz.func12, Tryz.ntmps12
    go_wp2
    go_ret2
    exact ⟨rfl, Below.refl _ _⟩
  · by_cases h2 : s.l.length < old.length
    · go_enter Tryz.func12, Tryz.ntmps12
      go_wp2
      go_ret2
      exact ⟨rfl, Below.refl _ _⟩
    · have h3 : old.all isVal = false := by rcases hbad with h | h | h <;> first | omega | exact h
      have HA := hid h3
      clear hbad h3
      go_enter Tryz.func12, Tryz.ntmps12
      go_wp2
      go_loopw [8, 9] (fun b i wr => ∃ k : Nat, k ≤ old.length ∧ i = .int .i64 k ∧ b = .bool (decide (old.take k = s.l.take k)) ∧ Hid (∀ x ∈ old.take k, isVal x = true) ∧ Hid (Below w.heap.size w wr)) (fun _ i _ => old.length - (intOf i).toNat)
      case atStart => exact ⟨0, Nat.zero_le _, rfl, by simp, hid (by simp), hid (Below.refl _ _)⟩
      case round =>
        obtain ⟨k, hk, rfl, rfl, HV, HBl⟩ := hrel
        have cR := (HBl.out.cell (p := ⟨R, 0, none⟩) hRl).trans c0
        by_cases hlt : k < old.length
        · have hlt2 : k < s.l.length := by omega
          obtain ⟨b, off, rfl, hbB, hcs⟩ := hc k (by simpa using hlt)
          obtain ⟨b2, off2, rfl, hbB2, hcs2⟩ := hc2 k (by simpa using hlt2)
          have hcx : wr.cell? ⟨b, off + k, none⟩ = some (.int .i64 old[k]) := by simpa using (HBl.out.cell (p := ⟨b, off + k, none⟩) hbB).trans hcs
          have hcx2 : wr.cell? ⟨b2, off2 + k, none⟩ = some (.int .i64 s.l[k]) := by simpa using (HBl.out.cell (p := ⟨b2, off2 + k, none⟩) hbB2).trans hcs2
          have HNx := hid (same_next hlt hlt2)
          have HN : Hid (isVal old[k] = true → ∀ x ∈ old.take (k + 1), isVal x = true) := hid fun h x hx => by
            rw [List.take_succ_eq_append_getElem hlt, List.mem_append, List.mem_singleton] at hx
            rcases hx with hx | rfl
            · exact HV.out x hx
            · exact h
          generalize old[k] = x at hcx HN HNx
          generalize s.l[k] = y at hcx2 HNx
          clear hcs hcs2 hc hc2 HV
          cases hv : isVal x with
          | false =>
            clear HN HNx
            go_wp2_with (go_at_call 39; refine (refValue_any _ _ false hv).mono ?_; rintro e w1 ⟨rfl, hw1⟩; rw [hw1]; clear hw1 w1)
            go_ret2
            exact ⟨rfl, HBl.out⟩
          | true =>
            have HN1 := hid (HN.out hv)
            clear HN
            cases hb : decide (old.take k = s.l.take k) with
            | false =>
              rw [hb] at HNx
              go_wp2_with (go_at_call 39; refine (refValue_any _ _ true hv).mono ?_; rintro e w1 ⟨rfl, hw1⟩; rw [hw1]; clear hw1 w1)
              go_quiet (fail)
              go_wp2
              go_roundw
              case rel => exact ⟨k + 1, by omega, by push_cast; rfl, by rw [HNx.out]; rfl, HN1, hid (HBl.out.trans ((below_drewN wr nq).mono HBl.out.size))⟩
              case measure => simp [intOf]; omega
            | true =>
              rw [hb] at HNx
              by_cases hxy : x = y
              · subst hxy
                go_wp2_with (go_at_call 39; refine (refValue_any _ _ true hv).mono ?_; rintro e w1 ⟨rfl, hw1⟩; rw [hw1]; clear hw1 w1)
                go_quiet (fail)
                go_wp2
                go_roundw
                case rel => exact ⟨k + 1, by omega, by push_cast; rfl, by rw [HNx.out]; simp, HN1, hid (HBl.out.trans ((below_drewN wr nq).mono HBl.out.size))⟩
                case measure => simp [intOf]; omega
              · have hxy' : (x == y) = false := by simpa using hxy
                go_wp2_with (go_at_call 39; refine (refValue_any _ _ true hv).mono ?_; rintro e w1 ⟨rfl, hw1⟩; rw [hw1]; clear hw1 w1)
                go_quiet (fail)
                go_wp2
                go_roundw
                case rel => exact ⟨k + 1, by omega, by push_cast; rfl, by rw [HNx.out]; simp [hxy], HN1, hid (HBl.out.trans ((below_drewN wr nq).mono HBl.out.size))⟩
                case measure => simp [intOf]; omega
        · obtain rfl : k = old.length := by omega
          have := HV.out
          rw [List.take_length, ← List.all_eq_true] at this
          rw [HA.out] at this
          cases this
end Go.Proofs.YtogmdaopfnmobaaGreat

/- What the document's own answer does (notaryref): the pairs of all parts of two trees, and of their heads: Both. -/
namespace Go.Proofs.YtogmdaopfnmobaaGreat
open Go.RowKit
theorem prT_len {T U : Nat → Nat → Nd} : ∀ (n a b : Nat), b - a ≤ n → (prT T U a b).length ≤ b - a - 1 := by
  intro n
  induction n with
  | zero => intro a b h; rw [prT_one (by omega)]; simp
  | succ n ih =>
    intro a b h
    by_cases h2 : b < a + 2
    · rw [prT_one h2]; simp
    · have p := hf_pos (b - a)
      have q := hf_lt (b - a) (by omega)
      have i1 := ih a (a + hf (b - a)) (by omega)
      have i2 := ih (a + hf (b - a)) b (by omega)
      rw [prT_two h2]
      simp only [List.length_append, List.length_singleton]
      omega
theorem prT_congr {T U V X : Nat → Nat → Nd} {N : Nat} (h1 : ∀ a b, a ≤ b → b ≤ N → T a b = V a b) (h2 : ∀ a b, a ≤ b → b ≤ N → U a b = X a b) : ∀ (n a b : Nat), b - a ≤ n → a ≤ b → b ≤ N → prT T U a b = prT V X a b := by
  intro n
  induction n with
  | zero => intro a b hn _ _; rw [prT_one (by omega), prT_one (by omega)]
  | succ n ih =>
    intro a b hn hab hb
    by_cases h3 : b < a + 2
    · rw [prT_one h3, prT_one h3]
    · have p := hf_pos (b - a)
      have q := hf_lt (b - a) (by omega)
      rw [prT_two h3, prT_two h3, ih a (a + hf (b - a)) (by omega) (by omega) (by omega), ih (a + hf (b - a)) b (by omega) (by omega) hb, h1 a (a + hf (b - a)) (by omega) (by omega), h1 (a + hf (b - a)) b (by omega) hb, h2 a (a + hf (b - a)) (by omega) (by omega), h2 (a + hf (b - a)) b (by omega) hb]
theorem refParts_any (v1 h1 v2 h2 : Value) (T U : Nat → Nat → Nd) (N : Nat) (hT : ∀ a b, b ≤ N → (T a b).ok = true) (hU : ∀ a b, b ≤ N → (U a b).ok = true) (hN : N ≤ 64) (w0 : World)
    (HP1 : ∀ a b w', a ≤ b → b ≤ N → Below w0.heap.size w0 w' → Calls Tryz.prog 46 #[.agg #[.bool false, v1, h1], .int .i64 a, .int .i64 b] w' fun e w2 => e = .returned (ndV (T a b)) ∧ Below w'.heap.size w' w2)
    (HP2 : ∀ a b w', a ≤ b → b ≤ N → Below w0.heap.size w0 w' → Calls Tryz.prog 46 #[.agg #[.bool false, v2, h2], .int .i64 a, .int .i64 b] w' fun e w2 => e = .returned (ndV (U a b)) ∧ Below w'.heap.size w' w2) :
    ∀ (n a b : Nat) (w : World), b - a ≤ n → a ≤ b → b ≤ N → Below w0.heap.size w0 w → Calls Tryz.prog 86 #[.agg #[.bool false, v1, h1], .agg #[.bool false, v2, h2], .int .i64 a, .int .i64 b] w (ptPost (prT T U a b) w) := by
  intro n
  induction n with
  | zero =>
    intro a b w hn hab hb hk
    rw [prT_one (by omega)]
    exact refParts_leaf v1 h1 v2 h2 a b w (by omega) (by omega) (by omega)
  | succ n ih =>
    intro a b w hn hab hb hk0
    by_cases hs : b < a + 2
    · rw [prT_one hs]
      exact refParts_leaf v1 h1 v2 h2 a b w (by omega) (by omega) hs
    · have p := hf_pos (b - a)
      have q := hf_lt (b - a) (by omega)
      have hcast : ((a + hf (b - a) : Nat) : Int) = (a : Int) + hf (b - a) := by omega
      have pl1 := prT_len (T := T) (U := U) (b - a) a (a + hf (b - a)) (by omega)
      have pl2 := prT_len (T := T) (U := U) (b - a) (a + hf (b - a)) b (by omega)
      have hbt : ∀ w', Below w.heap.size w w' → Below w0.heap.size w0 w' := fun w' hb' => hk0.trans (hb'.mono hk0.size)
      rw [prT_two hs]
      refine refParts_node v1 h1 v2 h2 a b (hf (b - a)) _ _ _ _ _ _ w (by omega) (by omega) q (fun w' => hid (refHalf_any (b - a) w' (by omega) (by omega))) ?_ ?_ ?_ ?_ ?_ ?_ (hT _ _ (by omega)) (hT _ _ hb) (hU _ _ (by omega)) (hU _ _ hb) (by omega)
      · intro w'
        refine hid fun hk => ?_
        rw [← hcast]
        exact ih a (a + hf (b - a)) w' (by omega) (by omega) (by omega) (hbt w' hk)
      · intro w'
        refine hid fun hk => ?_
        rw [← hcast]
        exact ih (a + hf (b - a)) b w' (by omega) (by omega) hb (hbt w' hk)
      · intro w'
        refine hid fun hk => ?_
        rw [← hcast]
        exact HP1 a (a + hf (b - a)) w' (by omega) (by omega) (hbt w' hk)
      · intro w'
        refine hid fun hk => ?_
        rw [← hcast]
        exact HP1 (a + hf (b - a)) b w' (by omega) hb (hbt w' hk)
      · intro w'
        refine hid fun hk => ?_
        rw [← hcast]
        exact HP2 a (a + hf (b - a)) w' (by omega) (by omega) (hbt w' hk)
      · intro w'
        refine hid fun hk => ?_
        rw [← hcast]
        exact HP2 (a + hf (b - a)) b w' (by omega) hb (hbt w' hk)
set_option maxHeartbeats 8000000 in
set_option maxRecDepth 100000 in
theorem refBoth_any (a1 : Option Addr) (c1 : Nat) (hv1 vv2 hv2 : Value) (vs us : List Int) (hs1 hs2 : List Bool) (w : World) (hT1 : TreeIn w w.heap.size (.slice a1 vs.length c1) hv1 vs hs1) (hT2 : TreeIn w w.heap.size vv2 hv2 us hs2) (hlen : us.length = vs.length) :
    Calls Tryz.prog 44 #[.agg #[.bool false, .slice a1 vs.length c1, hv1], .agg #[.bool false, vv2, hv2]] w (ptPost (prT (tr (lf false vs hs1)) (tr (lf false us hs2)) 0 vs.length ++ [(hdText vs.length (tr (lf false vs hs1) 0 vs.length), hdText vs.length (tr (lf false us hs2) 0 vs.length))]) w) := by
  have hsm := hT1.small
  have hU1 := tr_U (lf_bd (tb := false) (hs := hs1) hT1.val)
  have hU2 := tr_U (lf_bd (tb := false) (hs := hs2) hT2.val)
  have HTb : Hid (∀ w', Below w.heap.size w w' → TreeIn w' w'.heap.size (.slice a1 vs.length c1) hv1 vs hs1 ∧ TreeIn w' w'.heap.size vv2 hv2 us hs2) := hid fun w' hb => ⟨(hT1.below hb).mono hb.size, (hT2.below hb).mono hb.size⟩
  have HPt : ∀ w', Hid (Below w.heap.size w w' → Calls Tryz.prog 86 #[.agg #[.bool false, .slice a1 vs.length c1, hv1], .agg #[.bool false, vv2, hv2], .int .i64 0, .int .i64 vs.length] w' (ptPost (prT (tr (lf false vs hs1)) (tr (lf false us hs2)) 0 vs.length) w')) := fun w' => hid fun hb =>
    refParts_any _ hv1 vv2 hv2 (tr (lf false vs hs1)) (tr (lf false us hs2)) vs.length (fun a b h => hU1.ok a b (by omega)) (fun a b h => hU2.ok a b (by omega)) hsm w (fun a b w'' _ hb' hk => refPart_any false _ hv1 vs hs1 (b - a) a b w'' (Nat.le_refl _) hb' (HTb.out w'' hk).1) (fun a b w'' _ hb' hk => refPart_any false vv2 hv2 us hs2 (b - a) a b w'' (Nat.le_refl _) (by omega) (HTb.out w'' hk).2) vs.length 0 vs.length w' (by omega) (by omega) (Nat.le_refl _) hb
  have A1 : ∀ w', Hid (Below w.heap.size w w' → Calls Tryz.prog 15 #[.agg #[.bool false, .slice a1 vs.length c1, hv1]] w' fun e w2 => e = .returned (ndV (tr (lf false vs hs1) 0 vs.length)) ∧ Below w'.heap.size w' w2) := fun w' => hid fun hk => refWhole_any false _ hv1 vs hs1 w' (HTb.out w' hk).1
  have A3 : ∀ w', Hid (Below w.heap.size w w' → Calls Tryz.prog 15 #[.agg #[.bool false, vv2, hv2]] w' fun e w2 => e = .returned (ndV (tr (lf false us hs2) 0 vs.length)) ∧ Below w'.heap.size w' w2) := fun w' => hid fun hk => hlen ▸ refWhole_any false vv2 hv2 us hs2 w' (HTb.out w' hk).2
  have A2 : ∀ w', Hid (Calls Tryz.prog 85 #[.int .i64 vs.length, ndV (tr (lf false vs hs1) 0 vs.length)] w' _) := fun w' => hid (refHeadText_any vs.length _ w' (by omega) (hU1.ok 0 _ (by omega)))
  have A4 : ∀ w', Hid (Calls Tryz.prog 85 #[.int .i64 vs.length, ndV (tr (lf false us hs2) 0 vs.length)] w' _) := fun w' => hid (refHeadText_any vs.length _ w' (by omega) (hU2.ok 0 _ (by omega)))
  have hpl := prT_len (T := tr (lf false vs hs1)) (U := tr (lf false us hs2)) vs.length 0 vs.length (by omega)
  generalize prT (tr (lf false vs hs1)) (tr (lf false us hs2)) 0 vs.length = p1 at HPt hpl ⊢
  generalize hdText vs.length (tr (lf false vs hs1) 0 vs.length) = P at A2 ⊢
  generalize hdText vs.length (tr (lf false us hs2) 0 vs.length) = Q at A4 ⊢
  generalize tr (lf false vs hs1) 0 vs.length = d at A1 A2
  generalize tr (lf false us hs2) 0 vs.length = u at A3 A4
  clear hT1 hT2 hU1 hU2 HTb hlen
  generalize vs.length = n at *
  simp only [ndV] at A1 A2 A3 A4
  go_enter Tryz.func44, Tryz.ntmps44
  go_wp2_with fail
  obtain ⟨W3, hW3⟩ : ∃ W, W = (w.alloc (.cells #[.bool false, .slice a1 n c1, hv1] 53)).alloc (.cells #[.bool false, vv2, hv2] 53) := ⟨_, rfl⟩
  have B3 : Hid (Below w.heap.size w W3) := hid (hW3 ▸ ((Below.refl _ _).alloc (Nat.le_refl _) _).alloc (by simp) _)
  have T3 : Hid (TrAt W3 w.heap.size false (.slice a1 n c1) hv1 ∧ TrAt W3 (w.heap.size + 1) false vv2 hv2) := hid (hW3 ▸ ⟨heap_two w _ _ _ rfl, heap_one _ _ _ (by simp)⟩)
  have s3 : W3.heap.size = w.heap.size + 2 := by rw [hW3]; simp
  rw [← hW3]
  clear hW3
  refine ((HPt W3).out B3.out).mono ?_
  rintro e W4 ⟨r1, rfl, ho4, hb4⟩
  have HIN : Hid ((TrAt W4 w.heap.size false (.slice a1 n c1) hv1 ∧ TrAt W4 (w.heap.size + 1) false vv2 hv2) ∧ Below w.heap.size w W4 ∧ W4.ownsRow w.heap.size 107 2 r1 p1.length (prRow p1)) := hid
    ⟨⟨T3.out.1.below hb4 T3.out.1.lt, T3.out.2.below hb4 T3.out.2.lt⟩, B3.out.trans (hb4.mono (by omega)), own_mono' ho4 (by omega)⟩
  have l4 : w.heap.size + 1 < W4.heap.size := by have := hb4.size; omega
  obtain ⟨ao1, cp1, rfl⟩ := own_shape ho4
  clear hb4 ho4 B3 T3 HPt s3
  have HCS : Hid (∀ w', Below W4.heap.size W4 w' → (w'.cell? ⟨w.heap.size, 0, none⟩ = some (.bool false) ∧ w'.cell? ⟨w.heap.size, 1, none⟩ = some (.slice a1 n c1) ∧ w'.cell? ⟨w.heap.size, 2, none⟩ = some hv1) ∧ (w'.cell? ⟨w.heap.size + 1, 0, none⟩ = some (.bool false) ∧ w'.cell? ⟨w.heap.size + 1, 1, none⟩ = some vv2 ∧ w'.cell? ⟨w.heap.size + 1, 2, none⟩ = some hv2)) := hid fun w' hb => ⟨(HIN.out.1.1.below hb (by omega)).cells, (HIN.out.1.2.below hb (by omega)).cells⟩
  have HBW : Hid (∀ w', Below W4.heap.size W4 w' → Below w.heap.size w w') := hid fun w' hb => HIN.out.2.1.trans (hb.mono (by omega))
  have hcs := HCS.out W4 (Below.refl _ _)
  go_wp2
  go_region_held3 (fun w' => (w'.cell? ⟨w.heap.size, 0, none⟩ = some (.bool false) ∧ w'.cell? ⟨w.heap.size, 1, none⟩ = some (.slice a1 n c1) ∧ w'.cell? ⟨w.heap.size, 2, none⟩ = some hv1) ∧ (w'.cell? ⟨w.heap.size + 1, 0, none⟩ = some (.bool false) ∧ w'.cell? ⟨w.heap.size + 1, 1, none⟩ = some vv2 ∧ w'.cell? ⟨w.heap.size + 1, 2, none⟩ = some hv2))
    (first | exact HCS.out _ (by (repeat (first | (with_reducible exact HB4.out) | (with_reducible exact HB3.out) | (with_reducible exact HB2.out) | (with_reducible exact HB1.out) | (with_reducible exact Below.refl _ _) | (with_reducible apply Below.drew) | (with_reducible refine Below.alloc ?_ (by first | exact Nat.le_refl _ | exact z4 | exact z3 | exact z2 | exact z1) _) | (with_reducible refine Below.setCell ?_ (by first | exact Nat.le_refl _ | exact z4 | exact z3 | exact z2 | exact z1) _)))) | go_keep)
    (first
      | (go_at_call 15; first
        | (refine ((A1 _).out (HBW.out _ (by (repeat (first | (with_reducible exact Below.refl _ _) | (with_reducible apply Below.drew) | (with_reducible refine Below.alloc ?_ (Nat.le_refl _) _)))))).mono ?_; rintro e w5 ⟨rfl, hb⟩; have HB1 : Hid (Below W4.heap.size W4 w5) := hid (Below.trans (by (repeat (first | (with_reducible exact Below.refl _ _) | (with_reducible apply Below.drew) | (with_reducible refine Below.alloc ?_ (Nat.le_refl _) _)))) (hb.mono (by first | exact Nat.le_refl _ | simp))); have z1 : W4.heap.size ≤ w5.heap.size := HB1.out.size; (first | (replace hP := hP.below hb hP.lt) | (replace hP := hP.belowD hb hP.lt) | (have hP := PrAt.one hb (by simp)) | (have hP := PrAt.oneD hb (by simp)) | (have hP := PrAt.oneE hb (by simp)) | skip); clear hb A1)
        | (refine ((A3 _).out (HBW.out _ (by (repeat (first | (with_reducible exact HB2.out) | (with_reducible apply Below.drew) | (with_reducible refine Below.alloc ?_ (by exact z2) _)))))).mono ?_; rintro e w7 ⟨rfl, hb⟩; have HB3 : Hid (Below W4.heap.size W4 w7) := hid (Below.trans (by (repeat (first | (with_reducible exact HB2.out) | (with_reducible apply Below.drew) | (with_reducible refine Below.alloc ?_ (by exact z2) _)))) (hb.mono (by first | exact z2 | (simp; omega)))); have z3 : W4.heap.size ≤ w7.heap.size := HB3.out.size; (first | (replace hP := hP.below hb hP.lt) | (replace hP := hP.belowD hb hP.lt) | (have hP := PrAt.one hb (by simp)) | (have hP := PrAt.oneD hb (by simp)) | (have hP := PrAt.oneE hb (by simp)) | skip); clear hb A3))
      | (go_at_call 85; first
        | (refine (A2 _).out.mono ?_; rintro e w6 ⟨rfl, hb⟩; have HB2 : Hid (Below W4.heap.size W4 w6) := hid (Below.trans (by (repeat (first | (with_reducible exact HB1.out) | (with_reducible apply Below.drew) | (with_reducible refine Below.alloc ?_ (by exact z1) _)))) (hb.mono (by first | exact z1 | (simp; omega)))); have z2 : W4.heap.size ≤ w6.heap.size := HB2.out.size; (first | (replace hP := hP.below hb hP.lt) | (replace hP := hP.belowD hb hP.lt) | (have hP := PrAt.one hb (by simp)) | (have hP := PrAt.oneD hb (by simp)) | (have hP := PrAt.oneE hb (by simp)) | skip); clear hb A2)
        | (refine (A4 _).out.mono ?_; rintro e w8 ⟨rfl, hb⟩; have HB4 : Hid (Below W4.heap.size W4 w8) := hid (Below.trans (by (repeat (first | (with_reducible exact HB3.out) | (with_reducible apply Below.drew) | (with_reducible refine Below.alloc ?_ (by exact z3) _)))) (hb.mono (by first | exact z3 | (simp; omega)))); have z4 : W4.heap.size ≤ w8.heap.size := HB4.out.size; (first | (replace hP := hP.below hb hP.lt) | (replace hP := hP.belowD hb hP.lt) | (have hP := PrAt.one hb (by simp)) | (have hP := PrAt.oneD hb (by simp)) | (have hP := PrAt.oneE hb (by simp)) | skip); (first | (have hPc := hP.cells) | skip); clear hb A4)))
  all_goals first
    | (obtain ⟨W7, hW7⟩ : ∃ W, W = w8.alloc (.cells #[.string ⟨P.toArray⟩, .string ⟨Q.toArray⟩] 107) := ⟨_, rfl⟩
       rw [← hW7]
       have H7 : Hid (PrAt W7 w8.heap.size ⟨P.toArray⟩ ⟨Q.toArray⟩ ∧ Below W4.heap.size W4 W7 ∧ W4.heap.size ≤ w8.heap.size) := hid (hW7 ▸ ⟨heap_one w8 _ _ rfl, HB4.out.alloc z4 _, z4⟩)
       clear hW7
       generalize w8.heap.size = gp at H7 ⊢)
    | (obtain ⟨W7, hW7⟩ : ∃ W, W = (w8.setCell ⟨w7.heap.size, 0, none⟩ (.string ⟨P.toArray⟩)).setCell ⟨w7.heap.size, 1, none⟩ (.string ⟨Q.toArray⟩) := ⟨_, rfl⟩
       rw [← hW7]
       have H7 : Hid (PrAt W7 w7.heap.size ⟨P.toArray⟩ ⟨Q.toArray⟩ ∧ Below W4.heap.size W4 W7 ∧ W4.heap.size ≤ w7.heap.size) := hid (hW7 ▸ ⟨hP.set _ _, (HB4.out.setCell z3 _).setCell z3 _, z3⟩)
       clear hW7 hP hPc
       generalize w7.heap.size = gp at H7 ⊢)
    | (obtain ⟨W7, hW7⟩ : ∃ W, W = (w8.setCell ⟨w6.heap.size, 0, none⟩ (.string ⟨P.toArray⟩)).setCell ⟨w6.heap.size, 1, none⟩ (.string ⟨Q.toArray⟩) := ⟨_, rfl⟩
       rw [← hW7]
       have H7 : Hid (PrAt W7 w6.heap.size ⟨P.toArray⟩ ⟨Q.toArray⟩ ∧ Below W4.heap.size W4 W7 ∧ W4.heap.size ≤ w6.heap.size) := hid (hW7 ▸ ⟨hP.set _ _, (HB4.out.setCell z2 _).setCell z2 _, z2⟩)
       clear hW7 hP hPc
       generalize w6.heap.size = gp at H7 ⊢)
    | (obtain ⟨W7, hW7⟩ : ∃ W, W = (w8.setCell ⟨w5.heap.size, 0, none⟩ (.string ⟨P.toArray⟩)).setCell ⟨w5.heap.size, 1, none⟩ (.string ⟨Q.toArray⟩) := ⟨_, rfl⟩
       rw [← hW7]
       have H7 : Hid (PrAt W7 w5.heap.size ⟨P.toArray⟩ ⟨Q.toArray⟩ ∧ Below W4.heap.size W4 W7 ∧ W4.heap.size ≤ w5.heap.size) := hid (hW7 ▸ ⟨hP.set _ _, (HB4.out.setCell z1 _).setCell z1 _, z1⟩)
       clear hW7 hP hPc
       generalize w5.heap.size = gp at H7 ⊢)
    | (obtain ⟨W7, hW7⟩ : ∃ W, W = (w8.setCell ⟨W4.heap.size, 0, none⟩ (.string ⟨P.toArray⟩)).setCell ⟨W4.heap.size, 1, none⟩ (.string ⟨Q.toArray⟩) := ⟨_, rfl⟩
       rw [← hW7]
       have H7 : Hid (PrAt W7 W4.heap.size ⟨P.toArray⟩ ⟨Q.toArray⟩ ∧ Below W4.heap.size W4 W7 ∧ W4.heap.size ≤ W4.heap.size) := hid (hW7 ▸ ⟨hP.set _ _, (HB4.out.setCell (Nat.le_refl _) _).setCell (Nat.le_refl _) _, (Nat.le_refl _)⟩)
       clear hW7 hP hPc
       obtain ⟨gp, hgp⟩ : ∃ gp, gp = W4.heap.size := ⟨_, rfl⟩
       rw [← hgp]
       have H7 : Hid (PrAt W7 gp ⟨P.toArray⟩ ⟨Q.toArray⟩ ∧ Below W4.heap.size W4 W7 ∧ W4.heap.size ≤ gp) := hid ⟨hgp ▸ H7.out.1, H7.out.2.1, by omega⟩
       clear hgp)
  all_goals
    clear HB1 z1 HB2 z2 HB3 z3 HB4 z4 hcs HCS HBW
    obtain ⟨i0, hi, hz0, hz1, hz2⟩ := info_parts info_pair
    have hs7 : W4.heap.size ≤ W7.heap.size := H7.out.2.1.size
    have hown : W7.ownsRow w.heap.size 107 2 (.slice ao1 p1.length cp1) p1.length (prRow p1) := ownsRow_below HIN.out.2.2 H7.out.2.1
    obtain ⟨hpc, hpz⟩ := H7.out.1.cells
    have HB7 : Hid (Below w.heap.size w W7) := hid (HIN.out.2.1.trans (H7.out.2.1.mono (by omega)))
    have HIO : Hid (∀ k ∈ ob (.slice ao1 p1.length cp1), w.heap.size ≤ k) := hid fun k hk => (own_in hown k hk).1
    go_wp2_with (at_builtin; refine wpList_append_grew _ rfl _ _ 39 rfl w.heap.size 107 i0 (.agg #[.string ⟨#[]⟩, .string ⟨#[]⟩]) 2 32 Tryz.underlying39 hi hz0 hz1 hz2 rfl (by decide) _ _ _ rfl (hown.alloc _) ⟨W7.heap.size, 0, none⟩ 1 1 [.string ⟨P.toArray⟩, .string ⟨Q.toArray⟩] rfl rfl (PrAt.new W7 ⟨P.toArray⟩ ⟨Q.toArray⟩).news (by simp [Value.oneCell']) (by unfold maxLen; omega) (by omega) (by simp; omega) ?_)
    rintro v9 w9 ho9 hg9 _
    have HO9 := hid ho9
    have HB9 : Hid (Below w.heap.size w w9) := hid (HB7.out.trans (((Below.refl _ W7).alloc (by omega) _).trans (hg9.toBelow w.heap.size (by simp; omega) (fun k hk => HIO.out k (mem_ob.2 hk)))))
    clear ho9 hg9 hown
    go_wp2
    go_ret
    exact ⟨v9, rfl, own_cast HO9.out (by simp) (by rw [prRow_append]; rfl), HB9.out⟩
end Go.Proofs.YtogmdaopfnmobaaGreat

