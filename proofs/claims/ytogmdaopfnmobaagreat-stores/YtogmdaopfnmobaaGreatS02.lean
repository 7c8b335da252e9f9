/- The plain mathematics of the document: digests, numbers in bytes, nodes and proofs as lists of bytes. -/
namespace Go.Proofs.YtogmdaopfnmobaaGreat
def dgStep (n : Nat) (b : UInt8) : Nat := (n * 263 + b.toNat + 1) % 65521
def dg (l : List UInt8) : Nat := l.foldl dgStep 1
theorem dgStep_lt (n : Nat) (b : UInt8) : dgStep n b < 65521 := Nat.mod_lt _ (by omega)
theorem dg_snoc (l : List UInt8) (c : UInt8) : dg (l ++ [c]) = dgStep (dg l) c := by unfold dg; rw [List.foldl_append]; rfl
theorem foldl_dg_lt (l : List UInt8) : ∀ n, n < 65521 → l.foldl dgStep n < 65521 := by
  induction l with
  | nil => intro n h; exact h
  | cons b r ih => intro n _; exact ih _ (dgStep_lt n b)
theorem dg_lt (l : List UInt8) : dg l < 65521 := foldl_dg_lt l 1 (by omega)
def isNum (n : Int) : Bool := decide (0 ≤ n ∧ n ≤ 34359738367)
theorem isNum_iff (n : Int) : isNum n = true ↔ 0 ≤ n ∧ n ≤ 34359738367 := by simp [isNum]
def numB : Nat → Nat → List UInt8
  | 0, n => [UInt8.ofNat n]
  | f + 1, n => if n < 128 then [UInt8.ofNat n] else UInt8.ofNat (n % 128 + 128) :: numB f (n / 128)
def num (n : Nat) : List UInt8 := numB 6 n
theorem numB_small (f n : Nat) (h : n < 128) : numB f n = [UInt8.ofNat n] := by cases f <;> simp [numB, h]
theorem numB_big (f n : Nat) (h : 128 ≤ n) : numB (f + 1) n = UInt8.ofNat (n % 128 + 128) :: numB f (n / 128) := by
  have h' : ¬ n < 128 := by omega
  simp [numB, h']
theorem numB_length (f : Nat) : ∀ n, (numB f n).length ≤ f + 1 ∧ 1 ≤ (numB f n).length := by
  induction f with
  | zero => intro n; simp [numB]
  | succ f ih => intro n; by_cases h : n < 128 <;> simp [numB, h]; have := ih (n / 128); omega
theorem num_length (n : Nat) : (num n).length ≤ 7 ∧ 1 ≤ (num n).length := numB_length 6 n
def eqN (c s m x h g c' s' m' x' h' g' : Int) : Bool := decide (c = c' ∧ s = s' ∧ m = m' ∧ x = x' ∧ h = h' ∧ g = g')
theorem eqN_true {c s m x h g c' s' m' x' h' g' : Int} : eqN c s m x h g c' s' m' x' h' g' = true ↔ (c = c' ∧ s = s' ∧ m = m' ∧ x = x' ∧ h = h' ∧ g = g') := by simp [eqN]
structure Nd where
  c : Int
  s : Int
  m : Int
  x : Int
  h : UInt8
  g : UInt8
def Nd.ok (d : Nd) : Bool := isNum d.c && isNum d.s && isNum d.m && isNum d.x
def Nd.mid (d : Nd) : Prop := (0 ≤ d.c ∧ d.c ≤ 281474976710656) ∧ (0 ≤ d.s ∧ d.s ≤ 281474976710656) ∧ (0 ≤ d.m ∧ d.m ≤ 281474976710656) ∧ (0 ≤ d.x ∧ d.x ≤ 281474976710656)
def Nd.isE (d : Nd) : Bool := eqN d.c d.s d.m d.x d.h.toNat d.g.toNat 0 0 0 0 1 77
def Nd.E : Nd := ⟨0, 0, 0, 0, 1, 77⟩
def Nd.bytes (d : Nd) : List UInt8 := num d.c.toNat ++ num d.s.toNat ++ num d.m.toNat ++ num d.x.toNat ++ [d.h, d.g]
def Nd.mark (d : Nd) : List UInt8 := if d.isE then [0] else 1 :: d.bytes
def marks (l : List Nd) : List UInt8 := (l.map Nd.mark).flatten
theorem Nd.ok_iff (d : Nd) : d.ok = true ↔ isNum d.c = true ∧ isNum d.s = true ∧ isNum d.m = true ∧ isNum d.x = true := by simp [Nd.ok, and_assoc]
theorem Nd.mid_of_ok {d : Nd} (h : d.ok = true) : d.mid := by
  obtain ⟨a, b, c, e⟩ := (Nd.ok_iff d).1 h
  simp only [isNum_iff] at a b c e
  exact ⟨⟨a.1, by omega⟩, ⟨b.1, by omega⟩, ⟨c.1, by omega⟩, e.1, by omega⟩
theorem Nd.isE_iff (d : Nd) : d.isE = true ↔ d = Nd.E := by
  unfold Nd.isE
  rw [eqN_true]
  cases d with
  | mk c s m x h g =>
    simp only [Nd.E, Nd.mk.injEq]
    constructor
    · rintro ⟨a, b, e, f, i, j⟩
      exact ⟨a, b, e, f, UInt8.toNat_inj.1 (by have : h.toNat = 1 := by omega
                                               rw [this]; rfl), UInt8.toNat_inj.1 (by have : g.toNat = 77 := by omega
                                                                                      rw [this]; rfl)⟩
    · rintro ⟨a, b, e, f, i, j⟩
      subst i; subst j
      exact ⟨a, b, e, f, rfl, rfl⟩
theorem Nd.bytes_length (d : Nd) : d.bytes.length ≤ 30 := by
  have a := num_length d.c.toNat
  have b := num_length d.s.toNat
  have e := num_length d.m.toNat
  have f := num_length d.x.toNat
  simp [Nd.bytes]; omega
theorem Nd.mark_length (d : Nd) : d.mark.length ≤ 31 ∧ 1 ≤ d.mark.length := by
  have := d.bytes_length
  unfold Nd.mark; split <;> simp; omega
theorem marks_snoc (l : List Nd) (d : Nd) : marks (l ++ [d]) = marks l ++ d.mark := by simp [marks]
theorem marks_length (l : List Nd) : (marks l).length ≤ 31 * l.length := by
  induction l with
  | nil => simp [marks]
  | cons d r ih =>
    have := d.mark_length
    simp only [marks, List.map_cons, List.flatten_cons, List.length_append, List.length_cons] at ih ⊢
    omega
def writeB (l : List Nd) : List UInt8 := if l.length ≤ 64 ∧ l.all Nd.ok = true then marks l else []
def writeE (l : List Nd) : Int := if 64 < l.length then 8 else if l.all Nd.ok then 0 else 6
theorem take_snoc' (l : List Nd) (k : Nat) (h : k < l.length) : l.take (k + 1) = l.take k ++ [l[k]] := List.take_succ_eq_append_getElem h
theorem all_snoc (l : List Nd) (k : Nat) (h : k < l.length) (ha : (l.take k).all Nd.ok = true) (hd : (l[k]).ok = true) : (l.take (k + 1)).all Nd.ok = true := by
  rw [take_snoc' l k h, List.all_append, ha]; simp [hd]
theorem write_many (l : List Nd) (h : 64 < l.length) : writeB l = [] ∧ writeE l = 8 := by
  have h' : ¬ l.length ≤ 64 := by omega
  simp [writeB, writeE, h, h']
theorem write_bad (l : List Nd) (h : ¬ 64 < l.length) (k : Nat) (hk : k < l.length) (hb : (l[k]).ok = false) : writeB l = [] ∧ writeE l = 6 := by
  have hall : l.all Nd.ok = false := by
    rw [List.all_eq_false]
    exact ⟨l[k], List.getElem_mem hk, by simp [hb]⟩
  simp [writeB, writeE, h, hall]
theorem write_good (l : List Nd) (h : ¬ 64 < l.length) (ha : l.all Nd.ok = true) : writeB l = marks l ∧ writeE l = 0 := by
  have h' : l.length ≤ 64 := by omega
  simp [writeB, writeE, h, h', ha]
end Go.Proofs.YtogmdaopfnmobaaGreat

/- The plain mathematics of the trees: halves, folds, nodes above, covers. -/
namespace Go.Proofs.YtogmdaopfnmobaaGreat
def hf (n : Nat) : Nat := 2 ^ (n - 1).log2
theorem hf_pos (n : Nat) : 0 < hf n := Nat.pos_of_ne_zero (by simp [hf])
theorem hf_lt (n : Nat) (h : 2 ≤ n) : hf n < n := by
  have := Nat.log2_self_le (n := n - 1) (by omega)
  unfold hf
  omega
@[ext] structure Fo where
  c : Int
  s : Int
  m : Int
  x : Int
deriving DecidableEq
def Fo.zero : Fo := ⟨0, 0, 0, 0⟩
def Fo.one (v : Int) : Fo := ⟨1, v, v, v⟩
def tog (a b : Fo) : Fo := ⟨a.c + b.c, a.s + b.s, if a.c = 0 then b.m else if b.c = 0 then a.m else min a.m b.m, if a.c = 0 then b.x else if b.c = 0 then a.x else max a.x b.x⟩
def Fo.good (f : Fo) : Prop := 0 ≤ f.c ∧ (f.c = 0 → f = .zero)
theorem good_zero : Fo.zero.good := ⟨by simp [Fo.zero], fun _ => rfl⟩
theorem good_one (v : Int) : (Fo.one v).good := ⟨by simp [Fo.one], fun h => by simp [Fo.one] at h⟩
theorem tog_zero_left (b : Fo) : tog .zero b = b := by
  simp [tog, Fo.zero]
theorem tog_zero_right {a : Fo} (h : a.good) : tog a .zero = a := by
  by_cases hc : a.c = 0
  · rw [h.2 hc]; rfl
  · simp [tog, Fo.zero, hc]
theorem tog_good {a b : Fo} (ha : a.good) (hb : b.good) : (tog a b).good := by
  refine ⟨by have := ha.1; have := hb.1; simp [tog]; omega, fun h => ?_⟩
  have h1 : a.c = 0 := by have := ha.1; have := hb.1; simp [tog] at h; omega
  have h2 : b.c = 0 := by have := ha.1; have := hb.1; simp [tog] at h; omega
  rw [ha.2 h1, hb.2 h2]; rfl
theorem tog_assoc {a b d : Fo} (ha : a.good) (hb : b.good) (hd : d.good) : tog (tog a b) d = tog a (tog b d) := by
  by_cases ea : a.c = 0
  · rw [ha.2 ea, tog_zero_left, tog_zero_left]
  by_cases eb : b.c = 0
  · rw [hb.2 eb, tog_zero_left, tog_zero_right ha]
  by_cases ed : d.c = 0
  · rw [hd.2 ed, tog_zero_right hb, tog_zero_right (tog_good ha hb)]
  have h1 := ha.1
  have h2 := hb.1
  have h3 := hd.1
  have e1 : ¬ a.c + b.c = 0 := by omega
  have e2 : ¬ b.c + d.c = 0 := by omega
  simp only [tog, if_neg ea, if_neg eb, if_neg ed, if_neg e1, if_neg e2, Fo.mk.injEq]
  refine ⟨by omega, by omega, by omega, by omega⟩
def Nd.fold (d : Nd) : Fo := ⟨d.c, d.s, d.m, d.x⟩
def mkNd (f : Fo) (text : List UInt8) : Nd := ⟨f.c, f.s, f.m, f.x, UInt8.ofNat (dg text / 256), UInt8.ofNat (dg text % 256)⟩
theorem mkNd_fold (f : Fo) (t : List UInt8) : (mkNd f t).fold = f := rfl
instance : DecidableEq Nd := fun a b => if h : a.c = b.c ∧ a.s = b.s ∧ a.m = b.m ∧ a.x = b.x ∧ a.h = b.h ∧ a.g = b.g then .isTrue (by cases a; cases b; simp_all) else .isFalse (by rintro rfl; simp at h)
def abText (x y : Nd) : List UInt8 := if x = Nd.E ∧ y = Nd.E then [69] else 73 :: (x.bytes ++ y.bytes)
def ab (x y : Nd) : Nd := if x = Nd.E ∧ y = Nd.E then Nd.E else mkNd (tog x.fold y.fold) (73 :: (x.bytes ++ y.bytes))
theorem ab_eq (x y : Nd) : ab x y = mkNd (tog x.fold y.fold) (abText x y) := by
  unfold ab abText
  by_cases h : x = Nd.E ∧ y = Nd.E
  · rw [if_pos h, if_pos h, h.1, h.2]; rfl
  · rw [if_neg h, if_neg h]
theorem ab_fold (x y : Nd) : (ab x y).fold = tog x.fold y.fold := by rw [ab_eq]; rfl
def tr (lf : Nat → Nd) (a b : Nat) : Nd :=
  if b ≤ a then Nd.E else if _h : b < a + 2 then lf a else ab (tr lf a (a + hf (b - a))) (tr lf (a + hf (b - a)) b)
termination_by b - a
decreasing_by
  · have := hf_lt (b - a) (by omega); omega
  · have := hf_pos (b - a); omega
theorem tr_none (lf : Nat → Nd) (a b : Nat) (h : b ≤ a) : tr lf a b = Nd.E := by rw [tr, if_pos h]
theorem tr_one (lf : Nat → Nd) (a : Nat) : tr lf a (a + 1) = lf a := by rw [tr, if_neg (by omega), dif_pos (by omega)]
theorem tr_two (lf : Nat → Nd) (a b : Nat) (h : a + 2 ≤ b) : tr lf a b = ab (tr lf a (a + hf (b - a))) (tr lf (a + hf (b - a)) b) := by rw [tr, if_neg (by omega), dif_neg (by omega)]
def fv (lf : Nat → Nd) (a : Nat) : Nat → Fo
  | 0 => .zero
  | n + 1 => tog (fv lf a n) (lf (a + n)).fold
theorem fv_good {lf : Nat → Nd} (h : ∀ i, (lf i).fold.good) (a n : Nat) : (fv lf a n).good := by
  induction n with
  | zero => exact good_zero
  | succ n ih => exact tog_good ih (h _)
theorem fv_add {lf : Nat → Nd} (h : ∀ i, (lf i).fold.good) (a n k : Nat) : fv lf a (n + k) = tog (fv lf a n) (fv lf (a + n) k) := by
  induction k with
  | zero => exact (tog_zero_right (fv_good h a n)).symm
  | succ k ih =>
    show tog (fv lf a (n + k)) (lf (a + (n + k))).fold = tog (fv lf a n) (tog (fv lf (a + n) k) (lf (a + n + k)).fold)
    rw [ih, tog_assoc (fv_good h _ _) (fv_good h _ _) (h _), Nat.add_assoc]
theorem tr_fold {lf : Nat → Nd} (h : ∀ i, (lf i).fold.good) : ∀ (n a b : Nat), b - a ≤ n → a ≤ b → (tr lf a b).fold = fv lf a (b - a) := by
  intro n
  induction n with
  | zero =>
    intro a b hn hab
    rw [tr_none lf a b (by omega), show b - a = 0 from by omega]; rfl
  | succ n ih =>
    intro a b hn hab
    by_cases h0 : b ≤ a
    · rw [tr_none lf a b h0, show b - a = 0 from by omega]; rfl
    by_cases h1 : b < a + 2
    · obtain rfl : b = a + 1 := by omega
      rw [tr_one, show a + 1 - a = 1 from by omega]
      exact (tog_zero_left _).symm
    · have p := hf_pos (b - a)
      have q := hf_lt (b - a) (by omega)
      rw [tr_two lf a b (by omega), ab_fold, ih a _ (by omega) (by omega), ih _ b (by omega) (by omega), show a + hf (b - a) - a = hf (b - a) from by omega, ← fv_add h]
      congr 1
      omega
structure Sp where
  a : Nat
  b : Nat
  i : Bool
def isIn (a b f t : Nat) : Bool := decide (f ≤ a ∧ b ≤ t ∧ f < t ∧ a < b)
def isOut (a b f t : Nat) : Bool := decide (t ≤ f ∨ t ≤ a ∨ b ≤ f)
def cov (a b f t : Nat) : List Sp :=
  if isOut a b f t = true ∨ isIn a b f t = true ∨ b < a + 2 then [⟨a, b, isIn a b f t⟩] else cov a (a + hf (b - a)) f t ++ cov (a + hf (b - a)) b f t
termination_by b - a
decreasing_by
  · have := hf_lt (b - a) (by omega); omega
  · have := hf_pos (b - a); omega
theorem cov_one (a b f t : Nat) (h : isOut a b f t = true ∨ isIn a b f t = true) : cov a b f t = [⟨a, b, isIn a b f t⟩] := by
  rw [cov, if_pos (by rcases h with h | h <;> simp [h])]
theorem cov_two (a b f t : Nat) (ho : isOut a b f t = false) (hi : isIn a b f t = false) (h : a + 2 ≤ b) : cov a b f t = cov a (a + hf (b - a)) f t ++ cov (a + hf (b - a)) b f t := by
  rw [cov, if_neg (by simp [ho, hi]; omega)]
def fins (lf : Nat → Nd) (l : List Sp) (z : Fo) : Fo := l.foldl (fun z p => if p.i then tog z (tr lf p.a p.b).fold else z) z
theorem fins_append (lf : Nat → Nd) (l r : List Sp) (z : Fo) : fins lf (l ++ r) z = fins lf r (fins lf l z) := by unfold fins; rw [List.foldl_append]
theorem cov_fold {lf : Nat → Nd} (h : ∀ i, (lf i).fold.good) : ∀ (n a b f t : Nat), b - a ≤ n → a ≤ b → ∀ z : Fo, z.good → fins lf (cov a b f t) z = tog z (fv lf (max a f) (min b t - max a f)) := by
  intro n
  induction n with
  | zero =>
    intro a b f t hn hab z hz
    rw [cov, if_pos (by omega), show min b t - max a f = 0 from by omega]
    have hi : isIn a b f t = false := by simp [isIn]; omega
    simp [fins, hi, fv, tog_zero_right hz]
  | succ n ih =>
    intro a b f t hn hab z hz
    by_cases hi : isIn a b f t = true
    · rw [cov_one _ _ _ _ (.inr hi)]
      simp only [fins, List.foldl_cons, List.foldl_nil, hi, if_true]
      simp only [isIn, decide_eq_true_eq] at hi
      rw [tr_fold h (b - a) a b (Nat.le_refl _) hab, show max a f = a from by omega, show min b t - a = b - a from by omega]
    · have hi' : isIn a b f t = false := by simpa using hi
      by_cases ho : isOut a b f t = true
      · rw [cov_one _ _ _ _ (.inl ho)]
        simp only [isOut, decide_eq_true_eq] at ho
        rw [show min b t - max a f = 0 from by omega]
        simp [fins, hi', fv, tog_zero_right hz]
      · have ho' : isOut a b f t = false := by simpa using ho
        by_cases hs : b < a + 2
        · rw [cov, if_pos (.inr (.inr hs))]
          simp only [isIn, isOut, decide_eq_true_eq] at hi ho
          rw [show min b t - max a f = 0 from by omega]
          simp [fins, hi', fv, tog_zero_right hz]
        · have p := hf_pos (b - a)
          have q := hf_lt (b - a) (by omega)
          rw [cov_two _ _ _ _ ho' hi' (by omega), fins_append, ih a _ f t (by omega) (by omega) z hz, ih _ b f t (by omega) (by omega) _ (tog_good hz (fv_good h _ _)), tog_assoc hz (fv_good h _ _) (fv_good h _ _)]
          congr 1
          simp only [isIn, isOut, decide_eq_true_eq] at hi ho
          generalize hm : a + hf (b - a) = k
          have hk1 : a < k := by omega
          have hk2 : k < b := by omega
          rcases Nat.lt_or_ge k t with h1 | h1
          · rcases Nat.lt_or_ge f k with h2 | h2
            · rw [show min b t - max a f = (min k t - max a f) + (min b t - max k f) from by omega, fv_add h, show max a f + (min k t - max a f) = max k f from by omega]
            · rw [show min k t - max a f = 0 from by omega, show max k f = max a f from by omega]
              exact tog_zero_left _
          · rw [show min b t - max k f = 0 from by omega, show min k t = min b t from by omega]
            exact tog_zero_right (fv_good h _ _)
theorem cover_fold {lf : Nat → Nd} (h : ∀ i, (lf i).fold.good) (n f t : Nat) (ht : t ≤ n) : fins lf (cov 0 n f t) .zero = fv lf f (t - f) := by
  rw [cov_fold h n 0 n f t (by omega) (by omega) _ good_zero, tog_zero_left, show max 0 f = f from by omega, show min n t = t from by omega]
end Go.Proofs.YtogmdaopfnmobaaGreat

