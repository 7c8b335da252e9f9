/- One step of the law's world (kinds Hash, Write, Read). -/
import Derived.Test.YtogmdaopfnmobaaGreatS12
import Derived.Test.YtogmdaopfnmobaaGreatS08
import Derived.Test.YtogmdaopfnmobaaGreatS09
namespace Go.Proofs.YtogmdaopfnmobaaGreat
open Go.RowKit
structure OpV where
  k : Int
  a : Int
  b : Int
  c : Int
  d : Int
  s : ByteArray
  hs : Int
  h0 : Int
  h1 : Int
  gs : Int
  g0 : Int
  g1 : Int
  f0 : Int
  f1 : Int
  f2 : Int
  f3 : Int
  nv : Value
  iv : Value
def OpV.cells (o : OpV) : List Value := [.int .i64 o.k, .int .i64 o.a, .int .i64 o.b, .int .i64 o.c, .int .i64 o.d, .string o.s, .int .i64 o.hs, .int .u8 o.h0, .int .u8 o.h1, .int .i64 o.gs, .int .u8 o.g0, .int .u8 o.g1, .int .i64 o.f0, .int .i64 o.f1, .int .i64 o.f2, .int .i64 o.f3, o.nv, o.iv]
def OpV.val (o : OpV) : Value := .agg #[.int .i64 o.k, .int .i64 o.a, .int .i64 o.b, .int .i64 o.c, .int .i64 o.d, .string o.s, .int .i64 o.hs, .int .u8 o.h0, .int .u8 o.h1, .int .i64 o.gs, .int .u8 o.g0, .int .u8 o.g1, .int .i64 o.f0, .int .i64 o.f1, .int .i64 o.f2, .int .i64 o.f3, o.nv, o.iv]
end Go.Proofs.YtogmdaopfnmobaaGreat

/- What the document's own answer does (notaryref): Cover. -/
namespace Go.Proofs.YtogmdaopfnmobaaGreat
open Go.RowKit
def Sp.cells (p : Sp) : List Value := [.int .i64 p.a, .int .i64 p.b, .bool p.i]
def spRow (l : List Sp) : List Value := l.flatMap Sp.cells
theorem spRow_len (l : List Sp) : (spRow l).length = l.length * 3 := by
  unfold spRow
  induction l with
  | nil => rfl
  | cons p r ih => rw [List.flatMap_cons, List.length_append, ih]; simp [Sp.cells]; omega
theorem spRow_one (l : List Sp) : ∀ u ∈ spRow l, u.oneCell' = true := by
  intro u hu
  obtain ⟨p, _, hp⟩ := List.mem_flatMap.1 hu
  simp only [Sp.cells, List.mem_cons, List.not_mem_nil, or_false] at hp
  rcases hp with rfl | rfl | rfl <;> rfl
theorem spRow_append (l r : List Sp) : spRow (l ++ r) = spRow l ++ spRow r := by simp [spRow]
theorem info_span : (Tryz.prog.info? 188).map (fun i => (i.zero, i.size, i.bytes)) = some (some (.agg #[.int .i64 0, .int .i64 0, .bool false]), 3, 24) := by kernel_rfl
def covPost (l : List Sp) (w : World) (e : Ending) (w' : World) : Prop := ∃ g cap, e = .returned (.slice (some ⟨g, 0, none⟩) l.length cap) ∧ w'.ownsRow w.heap.size 188 3 (.slice (some ⟨g, 0, none⟩) l.length cap) l.length (spRow l) ∧ Below w.heap.size w w'
theorem cov_new (w : World) (p : Sp) (n : Nat) (hn : n = w.heap.size) : (w.alloc (.cells #[.int .i64 p.a, .int .i64 p.b, .bool p.i] 188)).ownsRow w.heap.size 188 3 (.slice (some ⟨n, 0, none⟩) 1 1) 1 (spRow [p]) := by
  subst hn
  exact ⟨rfl, .inr ⟨w.heap.size, 1, _, rfl, Nat.le_refl _, heap_alloc_new w _, Nat.le_refl _, by unfold maxLen; omega, rfl, rfl⟩⟩
theorem cov_fin {w w3 w4 : World} {ao : Option Addr} {p4 g2 p2 : Nat} {x y : List Sp} (ho : w4.ownsRow w.heap.size 188 3 (.slice ao (x.length + y.length) p4) (x.length + y.length) (spRow x ++ spRow y))
    (hg : Grew w3 (.slice (some ⟨g2, 0, none⟩) x.length p2) w4 (.slice ao (x.length + y.length) p4)) (hB : Below w.heap.size w w3) (hgw : w.heap.size ≤ g2) (hx : 1 ≤ x.length) : covPost (x ++ y) w (.returned (.slice ao (x.length + y.length) p4)) w4 := by
  have hb4 : Below w.heap.size w w4 := hB.grown hg.grown hB.size (fun k e => by cases e; exact hgw)
  have ho' := ho
  rcases ho.2 with ⟨_, h0⟩ | ⟨g, cap, cur, e, _⟩
  · omega
  · simp only [Value.slice.injEq] at e
    obtain ⟨rfl, _, rfl⟩ := e
    refine ⟨g, p4, by simp, ?_, hb4⟩
    rw [spRow_append, List.length_append]
    exact ho'
set_option maxHeartbeats 4000000 in
set_option maxRecDepth 100000 in
theorem refCover_leaf (a b f t : Nat) (w : World) (hab : a ≤ b) (hs : a < b ∨ t ≤ a) (ho : isOut a b f t = true ∨ isIn a b f t = true) :
    Calls Tryz.prog 79 #[.int .i64 a, .int .i64 b, .int .i64 f, .int .i64 t] w (covPost (cov a b f t) w) := by
  rw [cov_one a b f t ho]
  by_cases h1 : (t : Int) ≤ f
  · rw [show isIn a b f t = false from by simp [isIn]; omega]
    have h1' : ¬ (f : Int) < t := by omega
    clear ho hs
    by_cases g1 : (f : Int) ≤ a
    · by_cases g2 : (b : Int) ≤ t
      · go_enter Tryz.func79, Tryz.ntmps79
        go_wp2
        go_ret
        exact ⟨_, _, rfl, cov_new w ⟨a, b, false⟩ _ rfl, (Below.refl _ _).alloc (Nat.le_refl _) _⟩
      · go_enter Tryz.func79, Tryz.ntmps79
        go_wp2
        go_ret
        exact ⟨_, _, rfl, cov_new w ⟨a, b, false⟩ _ rfl, (Below.refl _ _).alloc (Nat.le_refl _) _⟩
    · go_enter Tryz.func79, Tryz.ntmps79
      go_wp2
      go_ret
      exact ⟨_, _, rfl, cov_new w ⟨a, b, false⟩ _ rfl, (Below.refl _ _).alloc (Nat.le_refl _) _⟩
  · have h1' : (f : Int) < t := by omega
    by_cases h2 : (t : Int) ≤ a
    · rw [show isIn a b f t = false from by simp [isIn]; omega]
      have g1 : (f : Int) ≤ a := by omega
      clear ho hs
      by_cases g2 : (b : Int) ≤ t
      · have g3 : ¬ (a : Int) < b := by omega
        go_enter Tryz.func79, Tryz.ntmps79
        go_wp2
        go_ret
        exact ⟨_, _, rfl, cov_new w ⟨a, b, false⟩ _ rfl, (Below.refl _ _).alloc (Nat.le_refl _) _⟩
      · go_enter Tryz.func79, Tryz.ntmps79
        go_wp2
        go_ret
        exact ⟨_, _, rfl, cov_new w ⟨a, b, false⟩ _ rfl, (Below.refl _ _).alloc (Nat.le_refl _) _⟩
    · have h0 : (a : Int) < b := by omega
      by_cases h3 : (b : Int) ≤ f
      · rw [show isIn a b f t = false from by simp [isIn]; omega]
        have g1 : ¬ (f : Int) ≤ a := by omega
        clear ho hs
        go_enter Tryz.func79, Tryz.ntmps79
        go_wp2
        go_ret
        exact ⟨_, _, rfl, cov_new w ⟨a, b, false⟩ _ rfl, (Below.refl _ _).alloc (Nat.le_refl _) _⟩
      · have hin : isIn a b f t = true := ho.resolve_left (by simp [isOut]; omega)
        rw [hin]
        have g : f ≤ a ∧ b ≤ t ∧ f < t ∧ a < b := by simpa [isIn] using hin
        have g1 : (f : Int) ≤ a := by omega
        have g2 : (b : Int) ≤ t := by omega
        clear ho hs hin g
        go_enter Tryz.func79, Tryz.ntmps79
        go_wp2
        go_ret
        exact ⟨_, _, rfl, cov_new w ⟨a, b, true⟩ _ rfl, (Below.refl _ _).alloc (Nat.le_refl _) _⟩
set_option maxHeartbeats 4000000 in
set_option maxRecDepth 100000 in
theorem refCover_any (f t : Nat) (hf64 : f ≤ 64) (ht64 : t ≤ 64) : ∀ (n a b : Nat) (w : World), b - a ≤ n → a ≤ b → b ≤ 64 → (a < b ∨ t ≤ a) →
    Calls Tryz.prog 79 #[.int .i64 a, .int .i64 b, .int .i64 f, .int .i64 t] w (covPost (cov a b f t) w) := by
  obtain ⟨i0, hi, hz0, hz1, hz2⟩ := info_parts info_span
  intro n
  induction n with
  | zero =>
    intro a b w hn hab hb64 hs
    exact refCover_leaf a b f t w hab hs (.inl (by simp [isOut]; omega))
  | succ n ih =>
    intro a b w hn hab hb64 hs
    by_cases ho : isOut a b f t = true ∨ isIn a b f t = true
    · exact refCover_leaf a b f t w hab hs ho
    have ho1 : ¬ (t ≤ f ∨ t ≤ a ∨ b ≤ f) := fun h => ho (.inl (by simpa [isOut] using h))
    have ho2 : ¬ (f ≤ a ∧ b ≤ t ∧ f < t ∧ a < b) := fun h => ho (.inr (by simpa [isIn] using h))
    have hb2 : a + 2 ≤ b := by omega
    rw [cov_two a b f t (by simpa using fun h => ho (.inl h)) (by simpa using fun h => ho (.inr h)) hb2]
    have p := hf_pos (b - a)
    have q := hf_lt (b - a) (by omega)
    have h1 : ¬ (t : Int) ≤ f := by omega
    have h2 : ¬ (t : Int) ≤ a := by omega
    have h3 : ¬ (b : Int) ≤ f := by omega
    have h4 : (f : Int) < t := by omega
    have h5 : (a : Int) < b := by omega
    have hsub : (b : Int) - a = ((b - a : Nat) : Int) := by omega
    obtain ⟨m, hm⟩ : ∃ m, m = b - a := ⟨_, rfl⟩
    rw [← hm] at p q hsub ⊢
    have I1 : ∀ w', Hid (Calls Tryz.prog 79 #[.int .i64 a, .int .i64 ((a + hf m : Nat) : Int), .int .i64 f, .int .i64 t] w' (covPost (cov a (a + hf m) f t) w')) := fun w' => ih a (a + hf m) w' (by omega) (by omega) (by omega) (by omega)
    have I2 : ∀ w', Hid (Calls Tryz.prog 79 #[.int .i64 ((a + hf m : Nat) : Int), .int .i64 b, .int .i64 f, .int .i64 t] w' (covPost (cov (a + hf m) b f t) w')) := fun w' => ih (a + hf m) b w' (by omega) (by omega) (by omega) (by omega)
    have L1 := cov_len f t m a (a + hf m) (by omega)
    have L2 := cov_len f t m (a + hf m) b (by omega)
    have HH : ∀ w', Hid (Calls Tryz.prog 88 #[.int .i64 m] w' _) := fun w' => refHalf_any m w' (by omega) (by omega)
    generalize cov a (a + hf m) f t = x at I1 L1
    generalize cov (a + hf m) b f t = y at I2 L2
    generalize hf m = k at p q I1 I2 HH L1 L2
    have hcast : ((a + k : Nat) : Int) = (a : Int) + k := by omega
    rw [hcast] at I1 I2
    have Lx1 : 1 ≤ x.length := by omega
    have Lx2 : x.length ≤ 64 := by omega
    have Ly2 : y.length ≤ 64 := by omega
    have hak : a + k ≤ 64 := by omega
    clear hm hcast ih ho ho1 L1 L2 hs
    by_cases g1 : (f : Int) ≤ a
    · have g2 : ¬ (b : Int) ≤ t := by omega
      clear ho2
      go_enter Tryz.func79, Tryz.ntmps79
      go_wp2_with fail
      refine (HH _).out.mono ?_
      rintro e w1 ⟨rfl, hb1⟩
      clear HH
      go_wp2_with fail
      refine (I1 _).out.mono ?_
      rintro e w2 ⟨g2, p2, rfl, hr2, hb2⟩
      have B2 : Hid (Below w.heap.size w w2) := hb1.trans (hb2.mono hb1.size)
      have R2 : Hid (w2.ownsRow w.heap.size 188 3 _ x.length (spRow x)) := own_mono hr2 hb1.size
      have hgw : w.heap.size ≤ g2 := (own_in R2.out g2 (mem_ob.2 rfl)).1
      clear hb1 hb2 hr2 I1
      go_wp2_with fail
      refine (I2 _).out.mono ?_
      rintro e w3 ⟨g3, p3, rfl, hr3, hb3⟩
      have B3 : Hid (Below w.heap.size w w3) := B2.out.trans (hb3.mono B2.out.size)
      have R3 : w3.ownsRow w.heap.size 188 3 (.slice (some ⟨g2, 0, none⟩) x.length p2) x.length (spRow x) := own_keep R2.out fun k hk => hb3.block k (own_in R2.out k hk).2
      have N3 := hr3.cells (g := g3) rfl
      have z3 := B3.out.size
      clear hb3 hr3 I2 B2 R2
      go_wp2_with (at_builtin; refine wpList_append_grew _ rfl _ _ 144 rfl w.heap.size 188 i0 (.agg #[.int .i64 0, .int .i64 0, .bool false]) 3 24 Tryz.underlying144 hi hz0 hz1 hz2 rfl (by decide) _ _ _ rfl R3 ⟨g3, 0, none⟩ y.length p3 (spRow y) rfl (spRow_len y) N3 (spRow_one y) (by unfold maxLen; omega) (by omega) z3 ?_)
      rintro v' w4 ho4 hg4 hnil
      obtain ⟨ao4, p4, rfl⟩ : ∃ ao4 p4, v' = .slice ao4 (x.length + y.length) p4 := own_shape ho4
      have fin : Hid (covPost (x ++ y) w (.returned (.slice ao4 (x.length + y.length) p4)) w4) := cov_fin ho4 hg4 B3.out hgw Lx1
      clear ho4 hg4 hnil R3 N3 z3 B3
      go_wp2
      go_ret
      exact fin.out
    · clear ho2
      go_enter Tryz.func79, Tryz.ntmps79
      go_wp2_with fail
      refine (HH _).out.mono ?_
      rintro e w1 ⟨rfl, hb1⟩
      clear HH
      go_wp2_with fail
      refine (I1 _).out.mono ?_
      rintro e w2 ⟨g2, p2, rfl, hr2, hb2⟩
      have B2 : Hid (Below w.heap.size w w2) := hb1.trans (hb2.mono hb1.size)
      have R2 : Hid (w2.ownsRow w.heap.size 188 3 _ x.length (spRow x)) := own_mono hr2 hb1.size
      have hgw : w.heap.size ≤ g2 := (own_in R2.out g2 (mem_ob.2 rfl)).1
      clear hb1 hb2 hr2 I1
      go_wp2_with fail
      refine (I2 _).out.mono ?_
      rintro e w3 ⟨g3, p3, rfl, hr3, hb3⟩
      have B3 : Hid (Below w.heap.size w w3) := B2.out.trans (hb3.mono B2.out.size)
      have R3 : w3.ownsRow w.heap.size 188 3 (.slice (some ⟨g2, 0, none⟩) x.length p2) x.length (spRow x) := own_keep R2.out fun k hk => hb3.block k (own_in R2.out k hk).2
      have N3 := hr3.cells (g := g3) rfl
      have z3 := B3.out.size
      clear hb3 hr3 I2 B2 R2
      go_wp2_with (at_builtin; refine wpList_append_grew _ rfl _ _ 144 rfl w.heap.size 188 i0 (.agg #[.int .i64 0, .int .i64 0, .bool false]) 3 24 Tryz.underlying144 hi hz0 hz1 hz2 rfl (by decide) _ _ _ rfl R3 ⟨g3, 0, none⟩ y.length p3 (spRow y) rfl (spRow_len y) N3 (spRow_one y) (by unfold maxLen; omega) (by omega) z3 ?_)
      rintro v' w4 ho4 hg4 hnil
      obtain ⟨ao4, p4, rfl⟩ : ∃ ao4 p4, v' = .slice ao4 (x.length + y.length) p4 := own_shape ho4
      have fin : Hid (covPost (x ++ y) w (.returned (.slice ao4 (x.length + y.length) p4)) w4) := cov_fin ho4 hg4 B3.out hgw Lx1
      clear ho4 hg4 hnil R3 N3 z3 B3
      go_wp2
      go_ret
      exact fin.out
end Go.Proofs.YtogmdaopfnmobaaGreat

