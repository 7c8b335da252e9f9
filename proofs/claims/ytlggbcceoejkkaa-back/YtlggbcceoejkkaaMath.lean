/- The plain mathematics of the document: digests, numbers in bytes, nodes and proofs as lists of bytes. -/
namespace Go.Proofs.Ytlggbcceoejkkaa

/-- The digest's number of a text. -/
def dgStep (n : Nat) (b : UInt8) : Nat := (n * 263 + b.toNat + 1) % 65521
def dg (l : List UInt8) : Nat := l.foldl dgStep 1

theorem dgStep_lt (n : Nat) (b : UInt8) : dgStep n b < 65521 := Nat.mod_lt _ (by omega)
theorem dg_snoc (l : List UInt8) (c : UInt8) : dg (l ++ [c]) = dgStep (dg l) c := by unfold dg; rw [List.foldl_append]; rfl
theorem foldl_dg_lt (l : List UInt8) : ∀ n, n < 65521 → l.foldl dgStep n < 65521 := by
  induction l with
  | nil => intro n h; exact h
  | cons b r ih => intro n _; exact ih _ (dgStep_lt n b)
theorem dg_lt (l : List UInt8) : dg l < 65521 := foldl_dg_lt l 1 (by omega)

/-- The numbers that have bytes. -/
def isNum (n : Int) : Bool := decide (0 ≤ n ∧ n ≤ 34359738367)
theorem isNum_iff (n : Int) : isNum n = true ↔ 0 ≤ n ∧ n ≤ 34359738367 := by simp [isNum]

/-- A number in bytes (of at most f + 1 bytes). -/
def numB : Nat → Nat → List UInt8
  | 0, n => [UInt8.ofNat n]
  | f + 1, n => if n < 128 then [UInt8.ofNat n] else UInt8.ofNat (n % 128 + 128) :: numB f (n / 128)
def num (n : Nat) : List UInt8 := numB 4 n

theorem numB_small (f n : Nat) (h : n < 128) : numB f n = [UInt8.ofNat n] := by cases f <;> simp [numB, h]
theorem numB_big (f n : Nat) (h : 128 ≤ n) : numB (f + 1) n = UInt8.ofNat (n % 128 + 128) :: numB f (n / 128) := by
  have h' : ¬ n < 128 := by omega
  simp [numB, h']
theorem numB_length (f : Nat) : ∀ n, (numB f n).length ≤ f + 1 ∧ 1 ≤ (numB f n).length := by
  induction f with
  | zero => intro n; simp [numB]
  | succ f ih => intro n; by_cases h : n < 128 <;> simp [numB, h]; have := ih (n / 128); omega
theorem num_length (n : Nat) : (num n).length ≤ 5 ∧ 1 ≤ (num n).length := numB_length 4 n

/-- Are they the same node? -/
def eqN (c s m x h g c' s' m' x' h' g' : Int) : Bool := decide (c = c' ∧ s = s' ∧ m = m' ∧ x = x' ∧ h = h' ∧ g = g')
theorem eqN_true {c s m x h g c' s' m' x' h' g' : Int} : eqN c s m x h g c' s' m' x' h' g' = true ↔ (c = c' ∧ s = s' ∧ m = m' ∧ x = x' ∧ h = h' ∧ g = g') := by simp [eqN]

/-- A node. -/
structure Nd where
  c : Int
  s : Int
  m : Int
  x : Int
  h : UInt8
  g : UInt8

def Nd.ok (d : Nd) : Bool := isNum d.c && isNum d.s && isNum d.m && isNum d.x
def Nd.isE (d : Nd) : Bool := eqN d.c d.s d.m d.x d.h.toNat d.g.toNat 0 0 0 0 1 77
def Nd.E : Nd := ⟨0, 0, 0, 0, 1, 77⟩
def Nd.bytes (d : Nd) : List UInt8 := num d.c.toNat ++ num d.s.toNat ++ num d.m.toNat ++ num d.x.toNat ++ [d.h, d.g]
/-- A node of a proof, in bytes. -/
def Nd.mark (d : Nd) : List UInt8 := if d.isE then [0] else 1 :: d.bytes
def marks (l : List Nd) : List UInt8 := (l.map Nd.mark).flatten

theorem Nd.ok_iff (d : Nd) : d.ok = true ↔ isNum d.c = true ∧ isNum d.s = true ∧ isNum d.m = true ∧ isNum d.x = true := by simp [Nd.ok, and_assoc]
theorem Nd.isE_iff (d : Nd) : d.isE = true ↔ d = Nd.E := by
  unfold Nd.isE
  rw [eqN_true]
  cases d with
  | mk c s m x h g =>
    simp only [Nd.E, Nd.mk.injEq]
    constructor
    · rintro ⟨a, b, e, f, i, j⟩
      exact ⟨a, b, e, f, UInt8.toNat_inj.1 (by have : h.toNat = 1 := by omega
                                               rw [this]; rfl), UInt8.toNat_inj.1 (by have : g.toNat = 77 := by omega
                                                                                      rw [this]; rfl)⟩
    · rintro ⟨a, b, e, f, i, j⟩
      subst i; subst j
      exact ⟨a, b, e, f, rfl, rfl⟩
theorem Nd.bytes_length (d : Nd) : d.bytes.length ≤ 22 := by
  have a := num_length d.c.toNat
  have b := num_length d.s.toNat
  have e := num_length d.m.toNat
  have f := num_length d.x.toNat
  simp [Nd.bytes]; omega
theorem Nd.mark_length (d : Nd) : d.mark.length ≤ 23 ∧ 1 ≤ d.mark.length := by
  have := d.bytes_length
  unfold Nd.mark; split <;> simp; omega
theorem marks_snoc (l : List Nd) (d : Nd) : marks (l ++ [d]) = marks l ++ d.mark := by simp [marks]
theorem marks_length (l : List Nd) : (marks l).length ≤ 23 * l.length := by
  induction l with
  | nil => simp [marks]
  | cons d r ih =>
    have := d.mark_length
    simp only [marks, List.map_cons, List.flatten_cons, List.length_append, List.length_cons] at ih ⊢
    omega

/-- What Write tells: the bytes, the error. -/
def writeB (l : List Nd) : List UInt8 := if l.length ≤ 64 ∧ l.all Nd.ok = true then marks l else []
def writeE (l : List Nd) : Int := if 64 < l.length then 8 else if l.all Nd.ok then 0 else 6

theorem take_snoc' (l : List Nd) (k : Nat) (h : k < l.length) : l.take (k + 1) = l.take k ++ [l[k]] := List.take_succ_eq_append_getElem h
theorem all_snoc (l : List Nd) (k : Nat) (h : k < l.length) (ha : (l.take k).all Nd.ok = true) (hd : (l[k]).ok = true) : (l.take (k + 1)).all Nd.ok = true := by
  rw [take_snoc' l k h, List.all_append, ha]; simp [hd]
theorem write_many (l : List Nd) (h : 64 < l.length) : writeB l = [] ∧ writeE l = 8 := by
  have h' : ¬ l.length ≤ 64 := by omega
  simp [writeB, writeE, h, h']
theorem write_bad (l : List Nd) (h : ¬ 64 < l.length) (k : Nat) (hk : k < l.length) (hb : (l[k]).ok = false) : writeB l = [] ∧ writeE l = 6 := by
  have hall : l.all Nd.ok = false := by
    rw [List.all_eq_false]
    exact ⟨l[k], List.getElem_mem hk, by simp [hb]⟩
  simp [writeB, writeE, h, hall]
theorem write_good (l : List Nd) (h : ¬ 64 < l.length) (ha : l.all Nd.ok = true) : writeB l = marks l ∧ writeE l = 0 := by
  have h' : l.length ≤ 64 := by omega
  simp [writeB, writeE, h, h', ha]

end Go.Proofs.Ytlggbcceoejkkaa
