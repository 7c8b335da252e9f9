/- The plain mathematics of the document: digests, numbers in bytes, nodes and proofs as lists of bytes. -/
namespace Go.Proofs.YtogmdaopfnmobaaGreat
def dgStep (n : Nat) (b : UInt8) : Nat := (n * 263 + b.toNat + 1) % 65521
def dg (l : List UInt8) : Nat := l.foldl dgStep 1
theorem dgStep_lt (n : Nat) (b : UInt8) : dgStep n b < 65521 := Nat.mod_lt _ (by omega)
theorem dg_snoc (l : List UInt8) (c : UInt8) : dg (l ++ [c]) = dgStep (dg l) c := by unfold dg; rw [List.foldl_append]; rfl
theorem foldl_dg_lt (l : List UInt8) : ∀ n, n < 65521 → l.foldl dgStep n < 65521 := by
  induction l with
  | nil => intro n h; exact h
  | cons b r ih => intro n _; exact ih _ (dgStep_lt n b)
theorem dg_lt (l : List UInt8) : dg l < 65521 := foldl_dg_lt l 1 (by omega)
def isNum (n : Int) : Bool := decide (0 ≤ n ∧ n ≤ 34359738367)
theorem isNum_iff (n : Int) : isNum n = true ↔ 0 ≤ n ∧ n ≤ 34359738367 := by simp [isNum]
def numB : Nat → Nat → List UInt8
  | 0, n => [UInt8.ofNat n]
  | f + 1, n => if n < 128 then [UInt8.ofNat n] else UInt8.ofNat (n % 128 + 128) :: numB f (n / 128)
def num (n : Nat) : List UInt8 := numB 6 n
theorem numB_small (f n : Nat) (h : n < 128) : numB f n = [UInt8.ofNat n] := by cases f <;> simp [numB, h]
theorem numB_big (f n : Nat) (h : 128 ≤ n) : numB (f + 1) n = UInt8.ofNat (n % 128 + 128) :: numB f (n / 128) := by
  have h' : ¬ n < 128 := by omega
  simp [numB, h']
theorem numB_length (f : Nat) : ∀ n, (numB f n).length ≤ f + 1 ∧ 1 ≤ (numB f n).length := by
  induction f with
  | zero => intro n; simp [numB]
  | succ f ih => intro n; by_cases h : n < 128 <;> simp [numB, h]; have := ih (n / 128); omega
theorem num_length (n : Nat) : (num n).length ≤ 7 ∧ 1 ≤ (num n).length := numB_length 6 n
theorem numB_less (f : Nat) : ∀ n, n < 128 ^ (f + 1) → numB (f + 1) n = numB f n := by
  induction f with
  | zero => intro n h; simp at h; simp [numB, h]
  | succ f ih =>
    intro n h
    by_cases hn : n < 128
    · rw [numB_small _ n hn, numB_small _ n hn]
    · rw [numB_big _ n (by omega), numB_big _ n (by omega), ih (n / 128) (by rw [Nat.pow_succ] at h; exact Nat.div_lt_of_lt_mul (by rw [Nat.mul_comm]; exact h))]
theorem num_four (n : Nat) (h : n ≤ 34359738367) : num n = numB 4 n := by
  rw [num, numB_less 5 n (by have : (128 : Nat) ^ 6 = 4398046511104 := rfl; omega), numB_less 4 n (by have : (128 : Nat) ^ 5 = 34359738368 := rfl; omega)]
def eqN (c s m x h g c' s' m' x' h' g' : Int) : Bool := decide (c = c' ∧ s = s' ∧ m = m' ∧ x = x' ∧ h = h' ∧ g = g')
theorem eqN_true {c s m x h g c' s' m' x' h' g' : Int} : eqN c s m x h g c' s' m' x' h' g' = true ↔ (c = c' ∧ s = s' ∧ m = m' ∧ x = x' ∧ h = h' ∧ g = g') := by simp [eqN]
structure Nd where
  c : Int
  s : Int
  m : Int
  x : Int
  h : UInt8
  g : UInt8
def Nd.ok (d : Nd) : Bool := isNum d.c && isNum d.s && isNum d.m && isNum d.x
def Nd.mid (d : Nd) : Prop := (0 ≤ d.c ∧ d.c ≤ 281474976710656) ∧ (0 ≤ d.s ∧ d.s ≤ 281474976710656) ∧ (0 ≤ d.m ∧ d.m ≤ 281474976710656) ∧ (0 ≤ d.x ∧ d.x ≤ 281474976710656)
def Nd.isE (d : Nd) : Bool := eqN d.c d.s d.m d.x d.h.toNat d.g.toNat 0 0 0 0 1 77
def Nd.E : Nd := ⟨0, 0, 0, 0, 1, 77⟩
def Nd.bytes (d : Nd) : List UInt8 := num d.c.toNat ++ num d.s.toNat ++ num d.m.toNat ++ num d.x.toNat ++ [d.h, d.g]
def Nd.mark (d : Nd) : List UInt8 := if d.isE then [0] else 1 :: d.bytes
def marks (l : List Nd) : List UInt8 := (l.map Nd.mark).flatten
theorem Nd.ok_iff (d : Nd) : d.ok = true ↔ isNum d.c = true ∧ isNum d.s = true ∧ isNum d.m = true ∧ isNum d.x = true := by simp [Nd.ok, and_assoc]
theorem Nd.mid_of_ok {d : Nd} (h : d.ok = true) : d.mid := by
  obtain ⟨a, b, c, e⟩ := (Nd.ok_iff d).1 h
  simp only [isNum_iff] at a b c e
  exact ⟨⟨a.1, by omega⟩, ⟨b.1, by omega⟩, ⟨c.1, by omega⟩, e.1, by omega⟩
theorem Nd.isE_iff (d : Nd) : d.isE = true ↔ d = Nd.E := by
  unfold Nd.isE
  rw [eqN_true]
  cases d with
  | mk c s m x h g =>
    simp only [Nd.E, Nd.mk.injEq]
    constructor
    · rintro ⟨a, b, e, f, i, j⟩
      exact ⟨a, b, e, f, UInt8.toNat_inj.1 (by have : h.toNat = 1 := by omega
                                               rw [this]; rfl), UInt8.toNat_inj.1 (by have : g.toNat = 77 := by omega
                                                                                      rw [this]; rfl)⟩
    · rintro ⟨a, b, e, f, i, j⟩
      subst i; subst j
      exact ⟨a, b, e, f, rfl, rfl⟩
theorem Nd.bytes_length (d : Nd) : d.bytes.length ≤ 30 := by
  have a := num_length d.c.toNat
  have b := num_length d.s.toNat
  have e := num_length d.m.toNat
  have f := num_length d.x.toNat
  simp [Nd.bytes]; omega
theorem Nd.mark_length (d : Nd) : d.mark.length ≤ 31 ∧ 1 ≤ d.mark.length := by
  have := d.bytes_length
  unfold Nd.mark; split <;> simp; omega
end Go.Proofs.YtogmdaopfnmobaaGreat

/- The plain mathematics of reading: numbers, nodes and proofs are read in one way alone. -/
namespace Go.Proofs.YtogmdaopfnmobaaGreat
def rdN : Nat → Nat → Nat → List UInt8 → Option (Nat × List UInt8)
  | 0, _, _, _ => none
  | _ + 1, _, _, [] => none
  | f + 1, i, acc, b :: r => if 128 ≤ b.toNat then rdN f (i + 1) (acc + b.toNat % 128 * 128 ^ i) r else if b.toNat = 0 ∧ 0 < i then none else some (acc + b.toNat * 128 ^ i, r)
def rdNum (l : List UInt8) : Option (Nat × List UInt8) := rdN 5 0 0 l
theorem rdN_more (f i acc : Nat) (b : UInt8) (r : List UInt8) (h : 128 ≤ b.toNat) : rdN (f + 1) i acc (b :: r) = rdN f (i + 1) (acc + b.toNat % 128 * 128 ^ i) r := by simp [rdN, h]
theorem rdN_zero (f i acc : Nat) (b : UInt8) (r : List UInt8) (h : b.toNat = 0) (hi : 0 < i) : rdN (f + 1) i acc (b :: r) = none := by simp [rdN, h, hi]
theorem rdN_last (f i acc : Nat) (b : UInt8) (r : List UInt8) (h : ¬ 128 ≤ b.toNat) (hz : ¬ (b.toNat = 0 ∧ 0 < i)) : rdN (f + 1) i acc (b :: r) = some (acc + b.toNat * 128 ^ i, r) := by
  simp only [rdN, if_neg h, if_neg hz]
theorem rdN_inv (f : Nat) : ∀ (i acc n : Nat) (l r : List UInt8), rdN (f + 1) i acc l = some (n, r) → ∃ m, m < 128 ^ (f + 1) ∧ n = acc + m * 128 ^ i ∧ l = numB f m ++ r ∧ (0 < i → m ≠ 0) := by
  induction f with
  | zero =>
    intro i acc n l r h
    cases l with
    | nil => simp [rdN] at h
    | cons b t =>
      by_cases hb : 128 ≤ b.toNat
      · rw [rdN_more _ _ _ _ _ hb] at h; simp [rdN] at h
      · by_cases hz : b.toNat = 0 ∧ 0 < i
        · rw [rdN_zero _ _ _ _ _ hz.1 hz.2] at h; simp at h
        · rw [rdN_last _ _ _ _ _ hb hz] at h
          simp only [Option.some.injEq, Prod.mk.injEq] at h
          exact ⟨b.toNat, by simp; omega, h.1.symm, by rw [numB_small 0 _ (by omega), h.2]; simp, fun hi e => hz ⟨e, hi⟩⟩
  | succ g ih =>
    intro i acc n l r h
    cases l with
    | nil => simp [rdN] at h
    | cons b t =>
      by_cases hb : 128 ≤ b.toNat
      · rw [rdN_more _ _ _ _ _ hb] at h
        obtain ⟨m, hm, hn, ht, hne⟩ := ih _ _ _ _ _ h
        have hb256 := b.toNat_lt
        have hm0 := hne (by omega)
        refine ⟨b.toNat % 128 + 128 * m, ?_, ?_, ?_, by intro _; omega⟩
        · rw [Nat.pow_succ]; omega
        · rw [hn, Nat.pow_succ, Nat.add_assoc, Nat.mul_comm (128 ^ i) 128, ← Nat.mul_assoc, ← Nat.add_mul]
          congr 2
          omega
        · have e1 : (b.toNat % 128 + 128 * m) % 128 + 128 = b.toNat := by omega
          have e2 : (b.toNat % 128 + 128 * m) / 128 = m := by omega
          rw [numB_big g _ (by omega), e1, e2, ht]
          simp
      · by_cases hz : b.toNat = 0 ∧ 0 < i
        · rw [rdN_zero _ _ _ _ _ hz.1 hz.2] at h; simp at h
        · rw [rdN_last _ _ _ _ _ hb hz] at h
          simp only [Option.some.injEq, Prod.mk.injEq] at h
          have hp : 128 ≤ 128 ^ (g + 1 + 1) := by rw [Nat.pow_succ]; have := Nat.pow_pos (n := g + 1) (show 0 < 128 by omega); omega
          exact ⟨b.toNat, by omega, h.1.symm, by rw [numB_small _ _ (by omega), h.2]; simp, fun hi e => hz ⟨e, hi⟩⟩
theorem rdNum_inv (l r : List UInt8) (n : Nat) (h : rdNum l = some (n, r)) : n ≤ 34359738367 ∧ l = num n ++ r := by
  obtain ⟨m, hm, hn, hl, _⟩ := rdN_inv 4 0 0 n l r h
  have hm' : m < 34359738368 := hm
  have : n = m := by simpa using hn
  subst this
  exact ⟨by omega, by rw [num_four n (by omega)]; exact hl⟩
def rdK : Nat → List UInt8 → Option (List Nat × List UInt8)
  | 0, l => some ([], l)
  | k + 1, l => (rdK k l).bind fun p => (rdNum p.2).map fun q => (p.1 ++ [q.1], q.2)
theorem rdK_step (k : Nat) (l r r' : List UInt8) (as : List Nat) (n : Nat) (h : rdK k l = some (as, r)) (h' : rdNum r = some (n, r')) : rdK (k + 1) l = some (as ++ [n], r') := by simp [rdK, h, h']
theorem rdK_stop (k : Nat) (l r : List UInt8) (as : List Nat) (h : rdK k l = some (as, r)) (h' : rdNum r = none) : ∀ j, k < j → rdK j l = none := by
  intro j hj
  induction j with
  | zero => omega
  | succ j ih =>
    by_cases e : j = k
    · subst e; simp [rdK, h, h']
    · simp [rdK, ih (by omega)]
def nodeOf : List Nat → List UInt8 → Option (Nd × List UInt8)
  | [a, b, c, d], h :: g :: r => some (⟨a, b, c, d, h, g⟩, r)
  | _, _ => none
def rdNode (l : List UInt8) : Option (Nd × List UInt8) := (rdK 4 l).bind fun p => nodeOf p.1 p.2
def rdMark : List UInt8 → Option (Nd × List UInt8)
  | [] => none
  | b :: r => if b.toNat = 0 then some (Nd.E, r) else if b.toNat = 1 then (rdNode r).bind fun p => if p.1.isE = true then none else some p else none
theorem rdMark_is0 (l t : List UInt8) (b : UInt8) (h : l = b :: t) (hb : b.toNat = 0) : rdMark l = some (Nd.E, t) := by subst h; simp [rdMark, hb]
theorem rdMark_is1 (l t r : List UInt8) (b : UInt8) (d : Nd) (h : l = b :: t) (hb : b.toNat = 1) (ho : rdNode t = some (d, r)) (he : d.isE = false) : rdMark l = some (d, r) := by subst h; simp [rdMark, hb, ho, he]
theorem rdMark_is1e (l t r : List UInt8) (b : UInt8) (d : Nd) (h : l = b :: t) (hb : b.toNat = 1) (ho : rdNode t = some (d, r)) (he : d.isE = true) : rdMark l = none := by subst h; simp [rdMark, hb, ho, he]
theorem rdMark_is1n (l t : List UInt8) (b : UInt8) (h : l = b :: t) (hb : b.toNat = 1) (ho : rdNode t = none) : rdMark l = none := by subst h; simp [rdMark, hb, ho]
theorem rdMark_isx (l t : List UInt8) (b : UInt8) (h : l = b :: t) (h0 : b.toNat ≠ 0) (h1 : b.toNat ≠ 1) : rdMark l = none := by subst h; simp [rdMark, h0, h1]
theorem rdNode_inv (l r : List UInt8) (d : Nd) (h : rdNode l = some (d, r)) : d.ok = true ∧ l = d.bytes ++ r := by
  simp only [rdNode, rdK, Option.bind_eq_some_iff, Option.map_eq_some_iff, Option.some.injEq, Prod.exists] at h
  obtain ⟨as, t4, ⟨as3, t3, ⟨as2, t2, ⟨as1, t1, ⟨as0, t0, e0, n1, q1, f1, e1⟩, n2, q2, f2, e2⟩, n3, q3, f3, e3⟩, n4, q4, f4, e4⟩, hn⟩ := h
  simp only [Prod.mk.injEq] at e0 e1 e2 e3 e4
  obtain ⟨rfl, rfl⟩ := e0
  obtain ⟨rfl, rfl⟩ := e1
  obtain ⟨rfl, rfl⟩ := e2
  obtain ⟨rfl, rfl⟩ := e3
  obtain ⟨rfl, rfl⟩ := e4
  simp only [List.nil_append, List.cons_append] at hn
  obtain ⟨i1, rfl⟩ := rdNum_inv _ _ _ f1
  obtain ⟨i2, rfl⟩ := rdNum_inv _ _ _ f2
  obtain ⟨i3, rfl⟩ := rdNum_inv _ _ _ f3
  obtain ⟨i4, rfl⟩ := rdNum_inv _ _ _ f4
  match q4, hn with
  | h :: g :: r', hn =>
    simp only [nodeOf, Option.some.injEq, Prod.mk.injEq] at hn
    obtain ⟨rfl, rfl⟩ := hn
    refine ⟨?_, by simp [Nd.bytes]⟩
    rw [Nd.ok_iff]
    simp only [isNum_iff]
    omega
  | [], hn => simp [nodeOf] at hn
  | [_], hn => simp [nodeOf] at hn
theorem rdMark_inv (l r : List UInt8) (d : Nd) (h : rdMark l = some (d, r)) : d.ok = true ∧ l = d.mark ++ r := by
  cases l with
  | nil => simp [rdMark] at h
  | cons b t =>
    simp only [rdMark] at h
    by_cases h0 : b.toNat = 0
    · rw [if_pos h0] at h
      simp only [Option.some.injEq, Prod.mk.injEq] at h
      obtain ⟨rfl, rfl⟩ := h
      have hb : b = 0 := UInt8.toNat_inj.1 (by rw [h0]; rfl)
      subst hb
      exact ⟨by decide, rfl⟩
    · rw [if_neg h0] at h
      by_cases h1 : b.toNat = 1
      · rw [if_pos h1] at h
        simp only [Option.bind_eq_some_iff] at h
        obtain ⟨p, hp, h⟩ := h
        by_cases he : p.1.isE = true
        · simp [he] at h
        · simp only [he, Bool.false_eq_true, if_false, Option.some.injEq] at h
          subst h
          obtain ⟨ho, ht⟩ := rdNode_inv t r d hp
          have hb : b = 1 := UInt8.toNat_inj.1 (by rw [h1]; rfl)
          subst hb
          exact ⟨ho, by simp only [Nd.mark]; simp [he, ht]⟩
      · rw [if_neg h1] at h; simp at h
theorem rdMark_shorter (l r : List UInt8) (d : Nd) (h : rdMark l = some (d, r)) : r.length < l.length := by
  obtain ⟨_, rfl⟩ := rdMark_inv l r d h
  have := d.mark_length
  simp; omega
def rdAll : Nat → List Nd → List UInt8 → Option (List Nd)
  | _, acc, [] => some acc
  | 0, _, _ :: _ => none
  | f + 1, acc, b :: t => (rdMark (b :: t)).bind fun p => if acc.length = 64 then none else rdAll f (acc ++ [p.1]) p.2
def readR (l : List UInt8) : Option (List Nd) := if 1000 < l.length then none else rdAll l.length [] l
theorem rdAll_nil (f : Nat) (acc : List Nd) : rdAll f acc [] = some acc := by cases f <;> rfl
theorem rdAll_fuel (n : Nat) : ∀ (f g : Nat) (acc : List Nd) (l : List UInt8), l.length ≤ n → l.length ≤ f → l.length ≤ g → rdAll f acc l = rdAll g acc l := by
  induction n with
  | zero =>
    intro f g acc l h _ _
    have : l = [] := List.eq_nil_of_length_eq_zero (by omega)
    subst this; rw [rdAll_nil, rdAll_nil]
  | succ n ih =>
    intro f g acc l h hf hg
    cases l with
    | nil => rw [rdAll_nil, rdAll_nil]
    | cons b t =>
      simp only [List.length_cons] at h hf hg
      match f, g, hf, hg with
      | f + 1, g + 1, hf, hg =>
        simp only [rdAll]
        cases hm : rdMark (b :: t) with
        | none => rfl
        | some p =>
          have := rdMark_shorter (b :: t) p.2 p.1 hm
          simp only [List.length_cons] at this
          simp only [Option.bind_some]
          split
          · rfl
          · exact ih f g _ _ (by omega) (by omega) (by omega)
theorem rdAll_step (acc : List Nd) (l r : List UInt8) (d : Nd) (hl : l ≠ []) (h : rdMark l = some (d, r)) (ha : acc.length ≠ 64) : rdAll l.length acc l = rdAll r.length (acc ++ [d]) r := by
  cases l with
  | nil => exact absurd rfl hl
  | cons b t =>
    have := rdMark_shorter _ _ _ h
    simp only [List.length_cons] at this ⊢
    simp only [rdAll, h, Option.bind_some, if_neg ha]
    exact rdAll_fuel t.length _ _ _ _ (by omega) (by omega) (Nat.le_refl _)
theorem rdAll_bad (acc : List Nd) (l : List UInt8) (hl : l ≠ []) (h : rdMark l = none) : rdAll l.length acc l = none := by
  cases l with
  | nil => exact absurd rfl hl
  | cons b t => simp [rdAll, h]
theorem rdAll_full (acc : List Nd) (l : List UInt8) (hl : l ≠ []) (ha : acc.length = 64) : rdAll l.length acc l = none := by
  cases l with
  | nil => exact absurd rfl hl
  | cons b t =>
    simp only [List.length_cons, rdAll]
    cases rdMark (b :: t) <;> simp [ha]
theorem rdAll_inv (n : Nat) : ∀ (l : List UInt8) (acc out : List Nd), l.length ≤ n → rdAll l.length acc l = some out → acc.length ≤ 64 → ∃ ds, out = acc ++ ds ∧ out.length ≤ 64 ∧ ds.all Nd.ok = true ∧ l = marks ds := by
  induction n with
  | zero =>
    intro l acc out h ho ha
    have : l = [] := List.eq_nil_of_length_eq_zero (by omega)
    subst this
    simp only [rdAll_nil, Option.some.injEq] at ho
    subst ho
    exact ⟨[], by simp, ha, by simp, by simp [marks]⟩
  | succ n ih =>
    intro l acc out h ho ha
    by_cases hl : l = []
    · subst hl
      simp only [rdAll_nil, Option.some.injEq] at ho
      subst ho
      exact ⟨[], by simp, ha, by simp, by simp [marks]⟩
    · by_cases h64 : acc.length = 64
      · rw [rdAll_full acc l hl h64] at ho; simp at ho
      · cases hm : rdMark l with
        | none => rw [rdAll_bad acc l hl hm] at ho; simp at ho
        | some p =>
          have hm' : rdMark l = some (p.1, p.2) := hm
          rw [rdAll_step acc l p.2 p.1 hl hm' h64] at ho
          have hs := rdMark_shorter _ _ _ hm'
          obtain ⟨hok, hlm⟩ := rdMark_inv _ _ _ hm'
          obtain ⟨ds, e1, e2, e3, e4⟩ := ih p.2 (acc ++ [p.1]) out (by omega) ho (by simp; omega)
          exact ⟨p.1 :: ds, by simp [e1], e2, by simp [hok, e3], by rw [hlm, e4]; simp [marks]⟩
theorem write_read (raw : List UInt8) (l : List Nd) (h : readR raw = some l) : l.length ≤ 64 ∧ l.all Nd.ok = true ∧ marks l = raw := by
  unfold readR at h
  split at h
  · simp at h
  · obtain ⟨ds, e1, e2, e3, e4⟩ := rdAll_inv raw.length raw [] l (Nat.le_refl _) h (by simp)
    simp only [List.nil_append] at e1
    subst e1
    exact ⟨e2, e3, e4.symm⟩
end Go.Proofs.YtogmdaopfnmobaaGreat

/- The plain mathematics of the trees: halves, folds, nodes above, covers. -/
namespace Go.Proofs.YtogmdaopfnmobaaGreat
def hf (n : Nat) : Nat := 2 ^ (n - 1).log2
theorem hf_pos (n : Nat) : 0 < hf n := Nat.pos_of_ne_zero (by simp [hf])
theorem hf_lt (n : Nat) (h : 2 ≤ n) : hf n < n := by
  have := Nat.log2_self_le (n := n - 1) (by omega)
  unfold hf
  omega
theorem hf_big (n : Nat) (h : 2 ≤ n) : n ≤ 2 * hf n := by
  have := Nat.lt_log2_self (n := n - 1)
  rw [Nat.pow_succ] at this
  unfold hf
  omega
@[ext] structure Fo where
  c : Int
  s : Int
  m : Int
  x : Int
deriving DecidableEq
def Fo.zero : Fo := ⟨0, 0, 0, 0⟩
def Fo.one (v : Int) : Fo := ⟨1, v, v, v⟩
def tog (a b : Fo) : Fo := ⟨a.c + b.c, a.s + b.s, if a.c = 0 then b.m else if b.c = 0 then a.m else min a.m b.m, if a.c = 0 then b.x else if b.c = 0 then a.x else max a.x b.x⟩
def Nd.fold (d : Nd) : Fo := ⟨d.c, d.s, d.m, d.x⟩
def mkNd (f : Fo) (text : List UInt8) : Nd := ⟨f.c, f.s, f.m, f.x, UInt8.ofNat (dg text / 256), UInt8.ofNat (dg text % 256)⟩
instance : DecidableEq Nd := fun a b => if h : a.c = b.c ∧ a.s = b.s ∧ a.m = b.m ∧ a.x = b.x ∧ a.h = b.h ∧ a.g = b.g then .isTrue (by cases a; cases b; simp_all) else .isFalse (by rintro rfl; simp at h)
def abText (x y : Nd) : List UInt8 := if x = Nd.E ∧ y = Nd.E then [69] else 73 :: (x.bytes ++ y.bytes)
def ab (x y : Nd) : Nd := if x = Nd.E ∧ y = Nd.E then Nd.E else mkNd (tog x.fold y.fold) (73 :: (x.bytes ++ y.bytes))
theorem ab_eq (x y : Nd) : ab x y = mkNd (tog x.fold y.fold) (abText x y) := by
  unfold ab abText
  by_cases h : x = Nd.E ∧ y = Nd.E
  · rw [if_pos h, if_pos h, h.1, h.2]; rfl
  · rw [if_neg h, if_neg h]
theorem ab_fold (x y : Nd) : (ab x y).fold = tog x.fold y.fold := by rw [ab_eq]; rfl
structure Sp where
  a : Nat
  b : Nat
  i : Bool
def isIn (a b f t : Nat) : Bool := decide (f ≤ a ∧ b ≤ t ∧ f < t ∧ a < b)
def isOut (a b f t : Nat) : Bool := decide (t ≤ f ∨ t ≤ a ∨ b ≤ f)
def cov (a b f t : Nat) : List Sp :=
  if isOut a b f t = true ∨ isIn a b f t = true ∨ b < a + 2 then [⟨a, b, isIn a b f t⟩] else cov a (a + hf (b - a)) f t ++ cov (a + hf (b - a)) b f t
termination_by b - a
decreasing_by
  · have := hf_lt (b - a) (by omega); omega
  · have := hf_pos (b - a); omega
theorem cov_one (a b f t : Nat) (h : isOut a b f t = true ∨ isIn a b f t = true) : cov a b f t = [⟨a, b, isIn a b f t⟩] := by
  rw [cov, if_pos (by rcases h with h | h <;> simp [h])]
theorem cov_two (a b f t : Nat) (ho : isOut a b f t = false) (hi : isIn a b f t = false) (h : a + 2 ≤ b) : cov a b f t = cov a (a + hf (b - a)) f t ++ cov (a + hf (b - a)) b f t := by
  rw [cov, if_neg (by simp [ho, hi]; omega)]
end Go.Proofs.YtogmdaopfnmobaaGreat

