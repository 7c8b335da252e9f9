/- The statements' own judge of two texts (notarylaw): clash. -/
import Derived.Test.YtogmdaopfnmobaaP43
import Derived.Test.YtogmdaopfnmobaaP45
import Derived.Test.YtogmdaopfnmobaaP42
import Derived.Test.YtogmdaopfnmobaaP41
import Derived.Test.YtogmdaopfnmobaaP44
namespace Go.Proofs.Ytogmdaopfnmobaa
open Go.RowKit

set_option maxRecDepth 100000 in
theorem srun_eql_digest (w : World) (h g h' g' : Int) :
    (binOp .eql 31 (.agg #[.int .u8 h, .int .u8 g]) (.agg #[.int .u8 h', .int .u8 g'])).run Try.prog w = .ok (.bool (decide (h = h') && decide (g = g'))) w := by
  go_simp
  rw [run_equal_digest0]
  rfl
attribute [local go_sem ↓] srun_eql_digest
set_option maxHeartbeats 1000000 in
theorem snum_any (e : Int) (w : World) : Calls Try.prog 30 #[.int .i64 e] w fun r w' => r = .returned (.int .i64 e) ∧ w' = w := by
  go_enter Try.func30, Try.ntmps30
  go_wp2
  all_goals go_ret
  all_goals exact ⟨rfl, rfl⟩
set_option maxHeartbeats 2000000 in
set_option maxRecDepth 100000 in
/-- With an error: no texts. -/
theorem clash_err (f : Int) (w : World) (hf : f ≠ 0) (v : Value) :
    Calls Try.prog 34 #[.string ⟨#[]⟩, .string ⟨#[]⟩, .int .i64 f, .int .i64 f, v] w fun e w' => e = .returned (.bool true) ∧ Below w.heap.size w w' := by
  have hf' : (f == 0) = false := by simpa using hf
  go_enter Try.func34, Try.ntmps34
  go_wp2_with (go_at_call 30; refine (snum_any _ _).mono ?_; rintro e w1 ⟨rfl, hw1⟩; rw [hw1]; clear hw1 w1)
  go_ret
  exact ⟨rfl, Below.refl _ _⟩

theorem prRow_get (l : List (List UInt8 × List UInt8)) : ∀ (i j : Nat) (hi : i < l.length) (_ : j < 2), (prRow l)[i * 2 + j]? = (prCells l[i])[j]? := by
  induction l with
  | nil => intro i j hi; simp at hi
  | cons p r ih =>
    intro i j hi hj
    have e : prRow (p :: r) = prCells p ++ prRow r := by simp [prRow]
    have hl : (prCells p).length = 2 := rfl
    rw [e]
    cases i with
    | zero => rw [List.getElem?_append_left (by rw [hl]; omega)]; simp
    | succ i =>
      rw [List.getElem?_append_right (by rw [hl]; omega), hl, show (i + 1) * 2 + j - 2 = i * 2 + j by omega, ih i j (by simpa using hi) hj]
      simp
theorem pair_cells {w : World} {base g cap n : Nat} {l : List (List UInt8 × List UInt8)} (h : w.ownsRow base 123 2 (.slice (some ⟨g, 0, none⟩) n cap) n (prRow l)) (k : Nat) (hk : k < l.length) (p : List UInt8 × List UInt8) (hp : p = l[k]) :
    w.cell? ⟨g, k * 2, none⟩ = some (.string ⟨p.1.toArray⟩) ∧ w.cell? ⟨g, k * 2 + 1, none⟩ = some (.string ⟨p.2.toArray⟩) := by
  have hn : n = l.length := by have := h.1; rw [prRow_len] at this; omega
  subst hp
  have e0 := h.cellAt (k * 2 + 0) (by omega)
  have e1 := h.cellAt (k * 2 + 1) (by omega)
  rw [prRow_get l k 0 hk (by omega)] at e0
  rw [prRow_get l k 1 hk (by omega)] at e1
  exact ⟨e0, e1⟩
theorem in_next (l : List (List UInt8 × List UInt8)) (x : List UInt8 × List UInt8) (k : Nat) (h : k < l.length) : decide (x ∈ l.take (k + 1)) = (decide (x ∈ l.take k) || decide (l[k] = x)) := by
  have e : x ∈ l.take (k + 1) ↔ x ∈ l.take k ∨ l[k] = x := by
    rw [List.take_succ_eq_append_getElem h, List.mem_append, List.mem_singleton]
    exact ⟨fun h => h.imp id Eq.symm, fun h => h.imp id Eq.symm⟩
  by_cases h1 : x ∈ l.take k
  · rw [decide_eq_true h1, decide_eq_true (e.2 (.inl h1))]; rfl
  · by_cases h2 : l[k] = x
    · rw [decide_eq_true h2, decide_eq_true (e.2 (.inr h2)), Bool.or_true]
    · rw [decide_eq_false h1, decide_eq_false h2, decide_eq_false (fun c => (e.1 c).elim h1 h2)]; rfl
set_option maxHeartbeats 4000000 in
set_option maxRecDepth 100000 in
/-- Two different texts with one digest, one of the pairs. -/
theorem clash_ok (P Q : List UInt8) (l : List (List UInt8 × List UInt8)) (base g cap : Nat) (w : World) (ho : w.ownsRow base 123 2 (.slice (some ⟨g, 0, none⟩) l.length cap) l.length (prRow l)) (hl : l.length ≤ 1000) (hPQ : P ≠ Q) (hd : dg P = dg Q) (hin : (P, Q) ∈ l) (hP : P.length ≤ 1000) (hQ : Q.length ≤ 1000) :
    Calls Try.prog 34 #[.string ⟨P.toArray⟩, .string ⟨Q.toArray⟩, .int .i64 0, .int .i64 0, .slice (some ⟨g, 0, none⟩) l.length cap] w fun e w' => e = .returned (.bool true) ∧ Below w.heap.size w w' := by
  have HH1 : ∀ w', Hid (Calls Try.prog 60 #[.string ⟨P.toArray⟩] w' _) := fun w' => hid (refHash_any ⟨P.toArray⟩ w' (by rw [size_list]; simp; unfold maxLen; omega))
  have HH2 : ∀ w', Hid (Calls Try.prog 60 #[.string ⟨Q.toArray⟩] w' _) := fun w' => hid (refHash_any ⟨Q.toArray⟩ w' (by rw [size_list]; simp; unfold maxLen; omega))
  have e1 : (⟨P.toArray⟩ : ByteArray).data.toList = P := by simp
  have e2 : (⟨Q.toArray⟩ : ByteArray).data.toList = Q := by simp
  rw [e1, hd] at HH1
  rw [e2] at HH2
  generalize (dg Q : Int) / 256 = d0 at HH1 HH2
  generalize (dg Q : Int) % 256 = d1 at HH1 HH2
  have HIN := hid hin
  have hne : (P == Q) = false := by simpa using hPQ
  clear e1 e2 hd hin hPQ hP hQ
  have HO := hid ho
  clear ho
  go_enter Try.func34, Try.ntmps34
  go_wp2_with (go_at_call 30; refine (snum_any _ _).mono ?_; rintro e w1 ⟨rfl, hw1⟩; rw [hw1]; clear hw1 w1)
  go_loopw [11, 12] (fun b i wr => ∃ k : Nat, k ≤ l.length ∧ i = .int .i64 k ∧ b = .bool (decide ((P, Q) ∈ l.take k)) ∧ wr = w) (fun _ i _ => l.length - (intOf i).toNat)
  case atStart => exact ⟨0, Nat.zero_le _, rfl, by simp, rfl⟩
  case round =>
    obtain ⟨k, hk, rfl, rfl, rfl⟩ := hrel
    by_cases hlt : k < l.length
    · obtain ⟨x, hx⟩ : ∃ x, x = l[k] := ⟨_, rfl⟩
      obtain ⟨q0, q1⟩ := pair_cells HO.out k hlt x hx
      have HNx := hid (in_next l (P, Q) k hlt)
      rw [← hx] at HNx
      clear hx
      obtain ⟨x1, x2⟩ := x
      simp only at q0 q1
      cases hb : decide ((P, Q) ∈ l.take k) with
      | true =>
        rw [hb] at HNx
        have HN : Hid (decide ((P, Q) ∈ l.take (k + 1)) = true) := hid (by rw [HNx.out]; rfl)
        clear HNx hb
        go_wp2
        go_roundw
        case rel => exact ⟨k + 1, by omega, by push_cast; rfl, by rw [HN.out], trivial⟩
        case measure => simp [intOf]; omega
      | false =>
        rw [hb] at HNx
        by_cases h1 : x1 = P
        · subst h1
          by_cases h2 : x2 = Q
          · subst h2
            have HN : Hid (decide ((x1, x2) ∈ l.take (k + 1)) = true) := hid (by rw [HNx.out]; simp)
            clear HNx hb
            go_wp2
            go_roundw
            case rel => exact ⟨k + 1, by omega, by push_cast; rfl, by rw [HN.out], trivial⟩
            case measure => simp [intOf]; omega
          · have h2' : (x2 == Q) = false := by simpa using h2
            have HN : Hid (decide ((x1, Q) ∈ l.take (k + 1)) = false) := hid (by rw [HNx.out]; simp [h2])
            clear HNx hb
            go_wp2
            go_roundw
            case rel => exact ⟨k + 1, by omega, by push_cast; rfl, by rw [HN.out], trivial⟩
            case measure => simp [intOf]; omega
        · have h1' : (x1 == P) = false := by simpa using h1
          have HN : Hid (decide ((P, Q) ∈ l.take (k + 1)) = false) := hid (by rw [HNx.out]; simp [h1])
          clear HNx hb
          go_wp2
          go_roundw
          case rel => exact ⟨k + 1, by omega, by push_cast; rfl, by rw [HN.out], trivial⟩
          case measure => simp [intOf]; omega
    · obtain rfl : k = l.length := by omega
      have hb : decide ((P, Q) ∈ l.take l.length) = true := by rw [List.take_length]; simpa using HIN.out
      rw [hb]
      clear hb
      go_wp2_with fail
      refine (HH1 _).out.mono ?_
      rintro e w2 ⟨rfl, hb2⟩
      have H2 : Hid (Below wr.heap.size wr w2) := hid hb2
      have hs2 := hb2.size
      clear hb2 HH1
      go_wp2_with fail
      refine (HH2 _).out.mono ?_
      rintro e w3 ⟨rfl, hb3⟩
      have hc3 : w3.heap[w2.heap.size]? = some (.cells #[.int .u8 d0, .int .u8 d1] 31 (0, 0)) := (hb3.block _ (by simp)).trans (heap_one w2 _ _ rfl)
      have k0 : w3.cell? ⟨w2.heap.size, 0, none⟩ = some (.int .u8 d0) := by rw [cell_of_row w3 _ _ _ _ _ hc3]; rfl
      have k1 : w3.cell? ⟨w2.heap.size, 1, none⟩ = some (.int .u8 d1) := by rw [cell_of_row w3 _ _ _ _ _ hc3]; rfl
      have l3 : w2.heap.size < w3.heap.size := (Array.getElem?_eq_some_iff.1 hc3).1
      have H3 : Hid (Below wr.heap.size wr w3) := hid ((H2.out.alloc hs2 _).trans (hb3.mono (by simp; omega)))
      clear hb3 hc3 HH2
      go_wp2
      go_ret
      exact ⟨rfl, H3.out.alloc (by omega) _⟩

end Go.Proofs.Ytogmdaopfnmobaa

/- Whoever takes a wrong answer for right has been shown two texts with one digest: as mathematics. -/
namespace Go.Proofs.Ytogmdaopfnmobaa
open Go.RowKit

theorem gL_ok {qs : List (Sp × Nd)} (h : ∀ q ∈ qs, q.2.ok = true) : ∀ a b d, gL qs a b = some d → d.ok = true := by
  intro a b d
  induction qs with
  | nil => intro h'; simp [gL] at h'
  | cons q qs ih =>
    intro h'
    simp only [gL] at h'
    cases e : gL qs a b with
    | some d' =>
      rw [e] at h'
      simp only [Option.some.injEq] at h'
      subst h'
      exact ih (fun x hx => h x (by simp [hx])) e
    | none =>
      rw [e] at h'
      by_cases hc : q.1.a = a ∧ q.1.b = b
      · rw [if_pos hc] at h'
        simp only [Option.some.injEq] at h'
        subst h'
        exact h q (by simp)
      · rw [if_neg hc] at h'; cases h'
/-- The pairs that Clash looks at are the document's; where it finds nothing, the cover's nodes are the tree's own. -/
theorem cov_clash {lf : Nat → Nd} (hlf : ∀ i, bd 1 (lf i)) (f t : Nat) (g : Nat → Nat → Option Nd) (hg : ∀ a b d, g a b = some d → d.ok = true) : ∀ (n a b : Nat) (ns : List Nd) (pre post : List (Sp × Nd)), b - a ≤ n → a ≤ b → b ≤ 64 → (cov a b f t).length ≤ ns.length → (∀ d ∈ ns, d.ok = true) → (a = b → pre = [] ∧ post = []) → (∀ q ∈ pre, q.1.b ≤ a) → (∀ q ∈ post, b ≤ q.1.a) →
    g = gL (pre ++ (cov a b f t).zip ns ++ post) → prs g (tr lf) a b = prC (tr lf) a b f t ns ∧ (cm a b f t ns = tr lf a b → cld g (tr lf) a b = none → ns.take (cov a b f t).length = cn lf (cov a b f t)) := by
  intro n
  induction n with
  | zero =>
    intro a b ns pre post h hab hb hl hok h0 hp hq hgg
    have hs : isOut a b f t = true ∨ isIn a b f t = true ∨ b < a + 2 := .inr (.inr (by omega))
    refine ⟨by rw [prs_known (.inr (by omega)), prC_one ns hs], fun hc _ => ?_⟩
    rw [cm_one ns hs] at hc
    rw [cov_1 hs] at hl ⊢
    cases ns with
    | nil => simp at hl
    | cons d r => simpa [cn] using hc
  | succ n ih =>
    intro a b ns pre post h hab hb hl hok h0 hp hq hgg
    by_cases hs : isOut a b f t = true ∨ isIn a b f t = true ∨ b < a + 2
    · have hkn : (g a b).isSome = true := by
        have := comes_cm f t (b - a) a b ns pre post (Nat.le_refl _) hab hb hl hok h0 hp hq
        rw [← hgg] at this
        generalize cm a b f t ns = dd at this
        cases this with
        | known hk => rw [hk]; rfl
        | above hn2 h2 h3 h4 h5 h6 =>
          rw [hgg] at hn2
          rw [cov_1 hs] at hl hn2
          cases ns with
          | nil => simp at hl
          | cons d r =>
            exfalso
            have e : a ≠ b := by omega
            have hz : gL post a b = none := gL_none (fun q hq' c => by have := hq q hq'; omega)
            rw [gL_append, hz, gL_append] at hn2
            simp [gL] at hn2
      refine ⟨by rw [prs_known (.inl hkn), prC_one ns hs], fun hc _ => ?_⟩
      rw [cm_one ns hs] at hc
      rw [cov_1 hs] at hl ⊢
      cases ns with
      | nil => simp at hl
      | cons d r => simpa [cn] using hc
    · have p := hf_pos (b - a)
      have q := hf_lt (b - a) (by omega)
      have hlm := cov_mem f t n a (a + hf (b - a)) (by omega) (by omega)
      have hrm := cov_mem f t n (a + hf (b - a)) b (by omega) (by omega)
      have hl' := hl
      rw [cov_2 hs, List.length_append] at hl'
      have hok1 : ∀ d ∈ ns.drop (cov a (a + hf (b - a)) f t).length, d.ok = true := fun d hd => hok d (List.mem_of_mem_drop hd)
      have hz := zip_cov ns hs (by omega)
      have c0 := comes_cm f t (b - a) a b ns pre post (Nat.le_refl _) hab hb hl hok h0 hp hq
      have key : g a b = none := by
        rw [hgg, hz]
        refine gL_none fun qq hqq c => ?_
        simp only [List.mem_append] at hqq
        rcases hqq with (h1 | h1 | h1) | h1
        · have := hp qq h1; omega
        · have := hlm qq.1 (List.of_mem_zip h1).1; omega
        · have := hrm qq.1 (List.of_mem_zip h1).1; omega
        · have := hq qq h1; omega
      have g1 : g = gL (pre ++ (cov a (a + hf (b - a)) f t).zip ns ++ ((cov (a + hf (b - a)) b f t).zip (ns.drop (cov a (a + hf (b - a)) f t).length) ++ post)) := by rw [hgg, hz]; simp [List.append_assoc]
      have g2 : g = gL (pre ++ (cov a (a + hf (b - a)) f t).zip ns ++ (cov (a + hf (b - a)) b f t).zip (ns.drop (cov a (a + hf (b - a)) f t).length) ++ post) := by rw [hgg, hz]; simp [List.append_assoc]
      have q1 : ∀ qq ∈ (cov (a + hf (b - a)) b f t).zip (ns.drop (cov a (a + hf (b - a)) f t).length) ++ post, a + hf (b - a) ≤ qq.1.a := fun qq h1 => by
        rcases List.mem_append.1 h1 with h1 | h1
        · exact (hrm qq.1 (List.of_mem_zip h1).1).1
        · have := hq qq h1; omega
      have q2 : ∀ qq ∈ pre ++ (cov a (a + hf (b - a)) f t).zip ns, qq.1.b ≤ a + hf (b - a) := fun qq h1 => by
        rcases List.mem_append.1 h1 with h1 | h1
        · have := hp qq h1; omega
        · exact (hlm qq.1 (List.of_mem_zip h1).1).2.2.1
      obtain ⟨i1, j1⟩ := ih a (a + hf (b - a)) ns pre _ (by omega) (by omega) (by omega) (by omega) hok (fun e => by omega) hp q1 g1
      obtain ⟨i2, j2⟩ := ih (a + hf (b - a)) b (ns.drop (cov a (a + hf (b - a)) f t).length) (pre ++ (cov a (a + hf (b - a)) f t).zip ns) post (by omega) (by omega) hb (by simp; omega) hok1 (fun e => by omega) q2 hq g2
      have m1 : cmg g a (a + hf (b - a)) = cm a (a + hf (b - a)) f t ns := by
        have := comes_cm f t n a (a + hf (b - a)) ns pre _ (by omega) (by omega) (by omega) (by omega) hok (fun e => by omega) hp q1
        rw [← g1] at this
        exact this.cmg.symm
      have m2 : cmg g (a + hf (b - a)) b = cm (a + hf (b - a)) b f t (ns.drop (cov a (a + hf (b - a)) f t).length) := by
        have := comes_cm f t n (a + hf (b - a)) b (ns.drop (cov a (a + hf (b - a)) f t).length) (pre ++ (cov a (a + hf (b - a)) f t).zip ns) post (by omega) (by omega) hb (by simp; omega) hok1 (fun e => by omega) q2 hq
        rw [← g2] at this
        exact this.cmg.symm
      refine ⟨by rw [prs_above key (by omega), prC_two ns hs, i1, i2, m1, m2], fun hc hn => ?_⟩
      have he : cmg g a b = tr lf a b := by rw [← hc, hgg]; exact c0.cmg.symm
      obtain ⟨⟨a1, a2⟩, b1, b2⟩ := cld_none hg (tr_U hlf) key (by omega) hb he hn
      rw [m1] at a1
      rw [m2] at b1
      have k1 := j1 a1 a2
      have k2 := j2 b1 b2
      rw [cov_2 hs, List.length_append, List.take_add, k1, k2]
      simp [cn]
/-- THE TOP PROMISE, as mathematics. -/
theorem sound_math {lf : Nat → Nd} (hlf : ∀ i, bd 1 (lf i)) (hgd : ∀ i, (lf i).fold.good) {n f u : Nat} (hn : n ≤ 64) (hun : u ≤ n) {claim : Fo} {ns : List Nd} (hok : ∀ d ∈ ns, d.ok = true)
    (hE : ckE n f u ((dg (hdText n (tr lf 0 n)) : Int) / 256) ((dg (hdText n (tr lf 0 n)) : Int) % 256) claim (some ns) = 0) (hne : fv lf f (u - f) ≠ claim) :
    (ns.length = (cov 0 n f u).length ∧ (cm 0 n f u ns).ok = true) ∧ ∃ P Q, cls (gL ((cov 0 n f u).zip ns)) (tr lf) n = some (P, Q) ∧ P ≠ Q ∧ dg P = dg Q ∧ (P, Q) ∈ prC (tr lf) 0 n f u ns ++ [(hdText n (cm 0 n f u ns), hdText n (tr lf 0 n))] := by
  simp only [ckE] at hE
  by_cases hl : ns.length = (cov 0 n f u).length
  case neg => rw [if_pos hl] at hE; cases hE
  rw [if_neg (fun c => c hl)] at hE
  cases hc : (cm 0 n f u ns).ok with
  | false => rw [hc, if_pos rfl] at hE; cases hE
  | true =>
    rw [hc, if_neg (by decide)] at hE
    by_cases hd : (dg (hdText n (cm 0 n f u ns)) : Int) / 256 ≠ (dg (hdText n (tr lf 0 n)) : Int) / 256 ∨ (dg (hdText n (cm 0 n f u ns)) : Int) % 256 ≠ (dg (hdText n (tr lf 0 n)) : Int) % 256
    · rw [if_pos hd] at hE; cases hE
    rw [if_neg hd] at hE
    have hdg : dg (hdText n (cm 0 n f u ns)) = dg (hdText n (tr lf 0 n)) := by
      refine dg_of ?_ ?_
      · exact Decidable.byContradiction fun c => hd (.inl c)
      · exact Decidable.byContradiction fun c => hd (.inr c)
    have hfz : fz ((cov 0 n f u).zip ns) = claim := by
      by_cases h : fz ((cov 0 n f u).zip ns) ≠ claim
      · rw [if_pos h] at hE; cases hE
      · exact Decidable.byContradiction h
    have hgo := gL_ok (qs := (cov 0 n f u).zip ns) (fun q hq => hok _ (List.of_mem_zip hq).2)
    have hcg : cmg (gL ((cov 0 n f u).zip ns)) 0 n = cm 0 n f u ns := by
      have := comes_cm f u n 0 n ns [] [] (by omega) (by omega) hn (by omega) hok (fun _ => ⟨rfl, rfl⟩) (by simp) (by simp)
      simp only [List.nil_append, List.append_nil] at this
      exact this.cmg.symm
    obtain ⟨i1, i2⟩ := cov_clash hlf f u (gL ((cov 0 n f u).zip ns)) hgo n 0 n ns [] [] (by omega) (by omega) hn (by omega) hok (fun _ => ⟨rfl, rfl⟩) (by simp) (by simp) (by simp)
    refine ⟨⟨hl, rfl⟩, ?_⟩
    unfold cls
    rw [hcg]
    by_cases ht : hdText n (cm 0 n f u ns) = hdText n (tr lf 0 n)
    · rw [if_pos ht]
      have he := hdText_inj hc (tr_mid hlf 0 n (by omega)) ht
      cases hcl : cld (gL ((cov 0 n f u).zip ns)) (tr lf) 0 n with
      | some pq =>
        obtain ⟨h1, h2⟩ := cld_clash hgo (tr_U hlf) n 0 n (by omega) hn (hcg.trans he) pq hcl
        have h3 := cld_in n 0 n (by omega) pq hcl
        rw [i1] at h3
        exact ⟨pq.1, pq.2, rfl, h1, h2, List.mem_append_left _ h3⟩
      | none =>
        exfalso
        have h1 := i2 he hcl
        rw [← hl, List.take_length] at h1
        rw [h1, fz_cn, finN_fv hgd n f u hun] at hfz
        exact hne hfz
    · rw [if_neg ht]
      exact ⟨_, _, rfl, ht, hdg, List.mem_append_right _ (by simp)⟩

end Go.Proofs.Ytogmdaopfnmobaa

