/- What the program's trees do: the cover, as an iterator. -/
import Derived.RangeFuncNested
import Derived.RangeFuncBound
import Derived.RangeFuncCalls
import Derived.RangeFuncLeaves
import Derived.Shelf.Abstract
import Derived.Shelf.RegionOpen
import Derived.WalkKit
import Derived.OwnWalkIn
import Derived.TacticsInMore
import Derived.LoopNIn
import Derived.LoopIn
import Derived.Test.YtlggbcceoejkkaaGreatP33
namespace Go.Proofs.YtlggbcceoejkkaaGreat
open Go.RowKit Go.Shelf
attribute [local go_sem] Oper.semAt_some

theorem yield_any {F : Fence} (hd : F.depth = none) {m : Nat} (m' : Nat) {P : Program} {l : Nat} {args : Array Value} {W : World} {R : Ending → World → Prop} (h : YieldAt F m P l args W R) : YieldAt F m' P l args W R := by
  obtain ⟨fn, tmps, assign, body, hy, hR⟩ := h
  exact ⟨fn, tmps, assign, body, hy, hR.1, fun c cs _ => hR.2 c cs (fun d h => by rw [hd] at h; cases h)⟩
/-- The blocks of one type lie as they lay. -/
structure KeepsT (t : TypeId) (W W' : World) : Prop where
  size : W.heap.size ≤ W'.heap.size
  same : ∀ (k : Nat) (cs : Array Value) (fr : Nat × Nat), W.heap[k]? = some (.cells cs t fr) → W'.heap[k]? = some (.cells cs t fr)
theorem KeepsT.refl (t : TypeId) (W : World) : KeepsT t W W := ⟨Nat.le_refl _, fun _ _ _ h => h⟩
theorem KeepsT.trans {t : TypeId} {A B C : World} (h : KeepsT t A B) (k : KeepsT t B C) : KeepsT t A C := ⟨Nat.le_trans h.size k.size, fun i cs fr e => k.same i cs fr (h.same i cs fr e)⟩
theorem KeepsT.of_below {t : TypeId} {W W' : World} (h : Below W.heap.size W W') : KeepsT t W W' := ⟨h.size, fun k _ _ e => (h.block k (Array.getElem?_eq_some_iff.1 e).1).trans e⟩
theorem KeepsT.alloc {t : TypeId} {W W' : World} (h : KeepsT t W W') (o : Obj) : KeepsT t W (W'.alloc o) := h.trans (.of_below ((Below.refl _ _).alloc (Nat.le_refl _) _))
/-- Another world of the same making: J stands there. -/
theorem abides_below {β : Type} {B : Nat} {J : β → World → Prop} (h : AbidesFrom B J) {s : β} {W W' : World} (hs : J s W) (hb : Below W.heap.size W W') : J s W' :=
  h s W W' none hs ⟨hb.os, hb.tape, hb.output, hb.size, fun k hk _ => hb.block k hk⟩ (fun r e => by cases e)
/-- A part lies in a block of its own. -/
def PaAt (w : World) (g a b : Nat) : Prop := w.heap[g]? = some (.cells #[.int .i64 a, .int .i64 b] 112 (0, 0))
theorem PaAt.cells {w : World} {g a b : Nat} (h : PaAt w g a b) : w.cell? ⟨g, 0, none⟩ = some (.int .i64 a) ∧ w.cell? ⟨g, 1, none⟩ = some (.int .i64 b) := by
  constructor <;> (rw [cell_of_row w g _ _ _ _ h]; rfl)
theorem PaAt.keeps {w w' : World} {g a b : Nat} (h : PaAt w g a b) (hk : KeepsT 112 w w') : PaAt w' g a b := hk.same _ _ _ h
theorem PaAt.below {w w' : World} {g a b : Nat} (h : PaAt w g a b) (hb : Below w.heap.size w w') : PaAt w' g a b := h.keeps (.of_below hb)
theorem PaAt.at (w : World) (n : Nat) (hn : n = w.heap.size) (a b : Nat) : PaAt (w.alloc (.cells #[.int .i64 a, .int .i64 b] 112)) n a b := by
  subst hn
  exact heap_alloc_new w _
theorem PaAt.alloc {w : World} {g a b : Nat} (h : PaAt w g a b) (o : Obj) : PaAt (w.alloc o) g a b := h.below ((Below.refl _ _).alloc (Nat.le_refl _) _)
/-- What the program takes for apart or within is a part of the cover. -/
theorem cov_leaf {a b f t : Nat} (h : apB a b f t = true ∨ wiB a b f t = true) : cov a b f t = [⟨a, b, isIn a b f t⟩] := by
  by_cases hb : b < a + 2
  · rw [cov, if_pos (.inr (.inr hb))]
  · refine cov_one _ _ _ _ ?_
    simp only [apB, wiB, isOut, isIn, decide_eq_true_eq] at h ⊢
    omega
theorem cov_split {a b f t : Nat} (hab : a ≤ b) (h1 : apB a b f t = false) (h2 : wiB a b f t = false) : a + 2 ≤ b ∧ cov a b f t = cov a (a + hf (b - a)) f t ++ cov (a + hf (b - a)) b f t := by
  simp only [apB, wiB, decide_eq_false_iff_not] at h1 h2
  have h3 : a + 2 ≤ b := by omega
  exact ⟨h3, cov_two _ _ _ _ (by simp only [isOut, decide_eq_false_iff_not]; omega) (by simp only [isIn, decide_eq_false_iff_not]; omega) h3⟩
theorem wiB_in (a b f t : Nat) : wiB a b f t = isIn a b f t := by
  simp only [wiB, isIn, decide_eq_decide]; omega

/-- What coverPart does: the cover's parts, one by one; or some of them, a round having said that it wants no more. -/
def cvPost (J Jx : List Sp → World → Prop) (pre L : List Sp) (W : World) (e : Ending) (W' : World) : Prop :=
  (e = .returned (.bool true) ∧ J (pre ++ L) W' ∧ KeepsT 112 W W') ∨ (e = .returned (.bool false) ∧ ∃ q, q <+: L ∧ Jx (pre ++ q) W')

/-- A round for one part. -/
abbrev cvYield (N : Nat) (J Jx : List Sp → World → Prop) (l : Nat) (x : Sp) : Prop := ∀ pre W, J pre W → pre.length < N → YieldAt Fence.wide 0 Tryz.prog l #[paV x.a x.b] W fun e W' =>
      (e = .returned (.bool true) ∧ J (pre ++ [x]) W' ∧ KeepsT 112 W W') ∨ (e = .returned (.bool false) ∧ Jx (pre ++ [x]) W')

set_option maxRecDepth 100000 in
set_option maxHeartbeats 4000000 in
theorem coverPart_apart (l B f t a b n : Nat) (J Jx : List Sp → World → Prop) (hJ : AbidesFrom B J)
    (pre : List Sp) {N : Nat} (hN : pre.length < N) (hY : cvYield N J Jx l ⟨a, b, isIn a b f t⟩)
    (hb : b ≤ 64) (ht : t ≤ 64) (h : apB a b f t = true) (W : World) (h0 : J pre W) :
    CallsIn Fence.wide n Tryz.prog 122 #[paV a b, paV f t, .func (.yield l) #[] #[]] W (cvPost J Jx pre (cov a b f t) W) := by
  have HA : ∀ w', Hid (Calls Tryz.prog 123 #[.agg #[.int .i64 a, .int .i64 b], .agg #[.int .i64 f, .int .i64 t]] w' fun e w2 => e = .returned (.bool true) ∧ Below w'.heap.size w' w2) := fun w' => hid (by have := apart_any a b f t w' (by omega) (by omega); rw [h] at this; exact this)
  have HL : Hid _ := cov_leaf (a := a) (b := b) (f := f) (t := t) (.inl h)
  have HJ : Hid (∀ W', Below W.heap.size W W' → J pre W') := hid fun W' hb => abides_below hJ h0 hb
  have HY : ∀ W', Hid (J pre W' → YieldAt Fence.wide (n - 1) Tryz.prog l #[paV a b] W' _) := fun W' => hid fun h => yield_any rfl (n - 1) (hY pre W' h hN)
  have hfn : ∀ k, Fence.wide.fn k := fun _ => trivial
  have hdp : Fence.wide.depth.isSome = false := rfl
  clear h hJ hY h0 hN
  unfold paV at HY ⊢
  refine callsIn_of_wp Tryz.func122 rfl trivial ?_ rfl
  simp only [Tryz.ntmps122, List.size_toArray, List.length_cons, List.length_nil, Nat.reduceAdd, Nat.reduceSub, Array.replicate_succ, Array.replicate_zero, List.push_toArray, List.append_toArray, List.nil_append, List.cons_append]
  gi_wp2
  refine (callsIn_wide.2 (HA _).out).mono ?_
  rintro e w1 ⟨rfl, hb1⟩
  have hB1 : Below W.heap.size W w1 := (((Below.refl _ _).alloc (Nat.le_refl _) _).alloc (by simp) _).trans (hb1.mono (by simp; omega))
  have hc1 := oldc hb1
  obtain ⟨fn, tmps, assign, body, hy, hR⟩ := (HY w1).out (HJ.out w1 hB1)
  have HB1 := hid (hB1)
  clear hb1 hB1 HA HY HJ
  gi_wp2
  refine hR.mono ?_
  clear hR
  rintro e W2 (⟨rfl, hJ2, hk2⟩ | ⟨rfl, hx2⟩)
  · gi_wp2
    go_ret
    exact .inl ⟨rfl, by rw [HL.out]; exact hJ2, (KeepsT.of_below HB1.out).trans hk2⟩
  · gi_wp2
    go_ret
    exact .inr ⟨rfl, _, by rw [HL.out]; exact List.prefix_refl _, hx2⟩

set_option maxRecDepth 100000 in
set_option maxHeartbeats 4000000 in
theorem coverPart_within (l B f t a b n : Nat) (J Jx : List Sp → World → Prop) (hJ : AbidesFrom B J)
    (pre : List Sp) {N : Nat} (hN : pre.length < N) (hY : cvYield N J Jx l ⟨a, b, isIn a b f t⟩)
    (hb : b ≤ 64) (ht : t ≤ 64) (h : apB a b f t = false) (h' : wiB a b f t = true) (W : World) (h0 : J pre W) :
    CallsIn Fence.wide n Tryz.prog 122 #[paV a b, paV f t, .func (.yield l) #[] #[]] W (cvPost J Jx pre (cov a b f t) W) := by
  have HA : ∀ w', Hid (Calls Tryz.prog 123 #[.agg #[.int .i64 a, .int .i64 b], .agg #[.int .i64 f, .int .i64 t]] w' fun e w2 => e = .returned (.bool false) ∧ Below w'.heap.size w' w2) := fun w' => hid (by have := apart_any a b f t w' (by omega) (by omega); rw [h] at this; exact this)
  have HW : ∀ w', Hid (Calls Tryz.prog 99 #[.agg #[.int .i64 a, .int .i64 b], .agg #[.int .i64 f, .int .i64 t]] w' fun e w2 => e = .returned (.bool true) ∧ Below w'.heap.size w' w2) := fun w' => hid (by have := within_any a b f t w' (by omega) (by omega); rw [h'] at this; exact this)
  have HL : Hid _ := cov_leaf (a := a) (b := b) (f := f) (t := t) (.inr h')
  have HJ : Hid (∀ W', Below W.heap.size W W' → J pre W') := hid fun W' hb => abides_below hJ h0 hb
  have HY : ∀ W', Hid (J pre W' → YieldAt Fence.wide (n - 1) Tryz.prog l #[paV a b] W' _) := fun W' => hid fun h => yield_any rfl (n - 1) (hY pre W' h hN)
  have hfn : ∀ k, Fence.wide.fn k := fun _ => trivial
  have hdp : Fence.wide.depth.isSome = false := rfl
  clear h hJ hY h0 hN h'
  unfold paV at HY ⊢
  refine callsIn_of_wp Tryz.func122 rfl trivial ?_ rfl
  simp only [Tryz.ntmps122, List.size_toArray, List.length_cons, List.length_nil, Nat.reduceAdd, Nat.reduceSub, Array.replicate_succ, Array.replicate_zero, List.push_toArray, List.append_toArray, List.nil_append, List.cons_append]
  gi_wp2
  refine (callsIn_wide.2 (HA _).out).mono ?_
  rintro e w1 ⟨rfl, hb1⟩
  have hB1 : Below W.heap.size W w1 := (((Below.refl _ _).alloc (Nat.le_refl _) _).alloc (by simp) _).trans (hb1.mono (by simp; omega))
  have hc1 := oldc hb1
  have hs1 : W.heap.size + 1 + 1 ≤ w1.heap.size := by have := hb1.size; simp at this; omega
  have HB1 := hid (hB1)
  clear hb1 hB1 HA
  gi_wp2
  refine (callsIn_wide.2 (HW _).out).mono ?_
  rintro e w2 ⟨rfl, hb2⟩
  have hB2 : Below W.heap.size W w2 := HB1.out.trans (hb2.mono (by omega))
  have hc2 := oldc hb2
  have z0 : W.heap.size < w1.heap.size := by omega
  obtain ⟨fn, tmps, assign, body, hy, hR⟩ := (HY w2).out (HJ.out w2 hB2)
  have HB2 := hid (hB2)
  clear hb2 hB2 HB1 HW HY HJ
  gi_wp2
  refine hR.mono ?_
  clear hR
  rintro e W2 (⟨rfl, hJ2, hk2⟩ | ⟨rfl, hx2⟩)
  · gi_wp2
    go_ret
    exact .inl ⟨rfl, by rw [HL.out]; exact hJ2, (KeepsT.of_below HB2.out).trans hk2⟩
  · gi_wp2
    go_ret
    exact .inr ⟨rfl, _, by rw [HL.out]; exact List.prefix_refl _, hx2⟩

set_option maxRecDepth 100000 in
set_option maxHeartbeats 4000000 in
theorem coverPart_split (l B f t a b n m : Nat) (L1 L2 : List Sp) (J Jx : List Sp → World → Prop) (hJ : AbidesFrom B J) (pre : List Sp)
    (ih1 : ∀ W, J pre W → CallsIn Fence.wide (n - 1) Tryz.prog 122 #[paV a m, paV f t, .func (.yield l) #[] #[]] W (cvPost J Jx pre L1 W))
    (ih2 : ∀ W, J (pre ++ L1) W → CallsIn Fence.wide (n - 1) Tryz.prog 122 #[paV m b, paV f t, .func (.yield l) #[] #[]] W (cvPost J Jx (pre ++ L1) L2 W))
    (hb : b ≤ 64) (ht : t ≤ 64) (h : apB a b f t = false) (h' : wiB a b f t = false) (hab : a + 2 ≤ b) (hm : m = a + hf (b - a)) (W : World) (h0 : J pre W) :
    CallsIn Fence.wide n Tryz.prog 122 #[paV a b, paV f t, .func (.yield l) #[] #[]] W (cvPost J Jx pre (L1 ++ L2) W) := by
  have HA : ∀ w', Hid (Calls Tryz.prog 123 #[.agg #[.int .i64 a, .int .i64 b], .agg #[.int .i64 f, .int .i64 t]] w' fun e w2 => e = .returned (.bool false) ∧ Below w'.heap.size w' w2) := fun w' => hid (by have := apart_any a b f t w' (by omega) (by omega); rw [h] at this; exact this)
  have HW : ∀ w', Hid (Calls Tryz.prog 99 #[.agg #[.int .i64 a, .int .i64 b], .agg #[.int .i64 f, .int .i64 t]] w' fun e w2 => e = .returned (.bool false) ∧ Below w'.heap.size w' w2) := fun w' => hid (by have := within_any a b f t w' (by omega) (by omega); rw [h'] at this; exact this)
  have HS : ∀ w', Hid (Calls Tryz.prog 118 #[.agg #[.int .i64 a, .int .i64 b]] w' fun e w2 => e = .returned (.tuple #[.agg #[.int .i64 a, .int .i64 m], .agg #[.int .i64 m, .int .i64 b]]) ∧ Below w'.heap.size w' w2) := fun w' => hid (by have := split_any a b w' hab hb; rw [← hm] at this; exact this)
  have HJ : Hid (∀ W', Below W.heap.size W W' → J pre W') := hid fun W' hb => abides_below hJ h0 hb
  have hfn : ∀ k, Fence.wide.fn k := fun _ => trivial
  have hdp : Fence.wide.depth.isSome = false := rfl
  have HI1 : ∀ W', Hid _ := fun W' => hid (ih1 W')
  have HI2 : ∀ W', Hid _ := fun W' => hid (ih2 W')
  clear h hJ h0 h' hab hm ih1 ih2
  unfold paV at HI1 HI2 ⊢
  refine callsIn_of_wp Tryz.func122 rfl trivial ?_ rfl
  simp only [Tryz.ntmps122, List.size_toArray, List.length_cons, List.length_nil, Nat.reduceAdd, Nat.reduceSub, Array.replicate_succ, Array.replicate_zero, List.push_toArray, List.append_toArray, List.nil_append, List.cons_append]
  gi_wp2
  refine (callsIn_wide.2 (HA _).out).mono ?_
  rintro e w1 ⟨rfl, hb1⟩
  have hB1 : Below W.heap.size W w1 := (((Below.refl _ _).alloc (Nat.le_refl _) _).alloc (by simp) _).trans (hb1.mono (by simp; omega))
  have hc1 := oldc hb1
  have hs1 : W.heap.size + 1 + 1 ≤ w1.heap.size := by have := hb1.size; simp at this; omega
  have hr1 : PaAt w1 (W.heap.size + 1) f t := (PaAt.at _ (W.heap.size + 1) (by simp) f t).below hb1
  have HR1 := hid (hr1)
  have HB1 := hid (hB1)
  clear hb1 hB1 HA hr1
  gi_wp2
  refine (callsIn_wide.2 (HW _).out).mono ?_
  rintro e w2 ⟨rfl, hb2⟩
  have hB2 : Below W.heap.size W w2 := HB1.out.trans (hb2.mono (by omega))
  have hc2 := oldc hb2
  have z0 : W.heap.size < w1.heap.size := by omega
  have HR2 := hid (HR1.out.below hb2)
  have HB2 := hid (hB2)
  have hs2 : w1.heap.size ≤ w2.heap.size := hb2.size
  clear hb2 hB2 HB1 HR1 HW
  gi_wp2
  refine (callsIn_wide.2 (HS _).out).mono ?_
  rintro e w3 ⟨rfl, hb3⟩
  have hB3 : Below W.heap.size W w3 := HB2.out.trans (hb3.mono (by omega))
  have hr3 := HR2.out.below hb3
  have HR3 := hid (hr3)
  have HB3 := hid (hB3)
  have hs3 : w2.heap.size ≤ w3.heap.size := hb3.size
  have hrc := hr3.cells
  have z3 : W.heap.size + 1 < w3.heap.size := by omega
  have HB4 := hid (HB3.out.alloc HB3.out.size (.cells #[.int .i64 a, .int .i64 m] 112))
  have HB5 := hid (HB4.out.alloc HB4.out.size (.cells #[.int .i64 m, .int .i64 b] 112))
  have HR5 := hid ((HR3.out.alloc (.cells #[.int .i64 a, .int .i64 m] 112)).alloc (.cells #[.int .i64 m, .int .i64 b] 112))
  have HP5 := hid (PaAt.at (w3.alloc (.cells #[.int .i64 a, .int .i64 m] 112)) (w3.heap.size + 1) (by simp) m b)
  have hr5 := HR5.out.cells
  clear hb3 hB3 HB2 HR2 HS hr3 hc1 hc2
  gi_wp2
  refine ((HI1 _).out (HJ.out _ HB5.out)).mono ?_
  rintro e w6 (⟨rfl, hJ6, hk6⟩ | ⟨rfl, q, hq, hx6⟩)
  · have hp6 := (HP5.out.keeps hk6).cells
    have hr6 := (HR5.out.keeps hk6).cells
    have HK6 := hid ((KeepsT.of_below (t := 112) HB5.out).trans hk6)
    clear HI1 HJ HP5 HR5 HB5 HB4 HB3 HR3 hrc hk6
    have HJ6 := hid hJ6
    clear hJ6
    gi_wp2
    refine ((HI2 _).out HJ6.out).mono ?_
    clear HI2
    rintro e w7 (⟨rfl, hJ7, hk7⟩ | ⟨rfl, q, hq, hx7⟩)
    · gi_wp2
      go_ret
      exact .inl ⟨rfl, by rw [← List.append_assoc]; exact hJ7, HK6.out.trans hk7⟩
    · gi_wp2
      go_ret
      refine .inr ⟨rfl, L1 ++ q, List.prefix_append_right_inj _ |>.2 hq, by rw [← List.append_assoc]; exact hx7⟩
  · clear HI1 HI2 HJ HP5 HR5 HB5 HB4 HB3 HR3 hrc
    gi_wp2
    go_ret
    exact .inr ⟨rfl, q, hq.trans (List.prefix_append _ _), hx6⟩

/-- The cover's parts, one by one. -/
theorem coverPart_in (l B f t N : Nat) (J Jx : List Sp → World → Prop) (hJ : AbidesFrom B J) (ht : t ≤ 64) :
    ∀ (k a b n : Nat) (pre : List Sp) (W : World), b - a ≤ k → a ≤ b → b ≤ 64 → (∀ x ∈ cov a b f t, cvYield N J Jx l x) → pre.length + (cov a b f t).length ≤ N → J pre W →
    CallsIn Fence.wide n Tryz.prog 122 #[paV a b, paV f t, .func (.yield l) #[] #[]] W (cvPost J Jx pre (cov a b f t) W) := by
  intro k
  induction k with
  | zero =>
    intro a b n pre W hk hab hb hY hN h0
    have h : apB a b f t = true := by simp only [apB, decide_eq_true_eq]; omega
    exact coverPart_apart l B f t a b n J Jx hJ pre (by rw [cov_leaf (.inl h)] at hN; simp at hN; omega) (hY _ (by rw [cov_leaf (.inl h)]; simp)) hb ht h W h0
  | succ k ih =>
    intro a b n pre W hk hab hb hY hN h0
    by_cases h : apB a b f t = true
    · exact coverPart_apart l B f t a b n J Jx hJ pre (by rw [cov_leaf (.inl h)] at hN; simp at hN; omega) (hY _ (by rw [cov_leaf (.inl h)]; simp)) hb ht h W h0
    by_cases h' : wiB a b f t = true
    · exact coverPart_within l B f t a b n J Jx hJ pre (by rw [cov_leaf (.inr h')] at hN; simp at hN; omega) (hY _ (by rw [cov_leaf (.inr h')]; simp)) hb ht (by simpa using h) h' W h0
    obtain ⟨h2, hc⟩ := cov_split hab (by simpa using h) (by simpa using h')
    have p := hf_pos (b - a)
    have q := hf_lt (b - a) (by omega)
    rw [hc] at hY hN ⊢
    rw [List.length_append] at hN
    exact coverPart_split l B f t a b n (a + hf (b - a)) _ _ J Jx hJ pre
      (fun W1 h1 => ih a _ (n - 1) pre W1 (by omega) (by omega) (by omega) (fun x hx => hY x (by simp [hx])) (by omega) h1)
      (fun W1 h1 => ih _ b (n - 1) _ W1 (by omega) (by omega) hb (fun x hx => hY x (by simp [hx])) (by rw [List.length_append]; omega) h1)
      hb ht (by simpa using h) (by simpa using h') h2 rfl W h0

end Go.Proofs.YtlggbcceoejkkaaGreat

/- What the program's trees do: Cover, a range over which takes the cover's parts one by one. -/
namespace Go.Proofs.YtlggbcceoejkkaaGreat
open Go.RowKit Go.Shelf
attribute [local go_sem] Oper.semAt_some

/-- The parts of a cover. -/
abbrev CvP (n f t : Nat) : Type := { p : Sp // p ∈ cov 0 n f t }
/-- What Cover tells. -/
def covV (B : Nat) : Value := .func (.func 121) #[] #[.pointer (some ⟨B, 0, none⟩), .pointer (some ⟨B + 1, 0, none⟩)]

set_option maxRecDepth 100000 in
set_option maxHeartbeats 1000000 in
theorem cover_any (n f t : Nat) (w : World) : Calls Tryz.prog 98 #[.int .i64 n, paV f t] w fun e w' => e = .returned (covV w.heap.size) ∧ w' = (w.alloc (.cells #[.int .i64 n] 3)).alloc (.cells #[.int .i64 f, .int .i64 t] 112) := by
  unfold paV covV
  go_enter Tryz.func98, Tryz.ntmps98
  go_wp2
  go_ret
  exact ⟨rfl, rfl⟩

set_option maxRecDepth 100000 in
set_option maxHeartbeats 1000000 in
theorem cover1_in (l B N f t n : Nat) (J Jx : List Sp → World → Prop) (W : World) (hn : N ≤ 64) (ht : t ≤ 64) (hJ : AbidesFrom W.heap.size J) (h0 : W.cell? ⟨B, 0, none⟩ = some (.int .i64 N)) (h1 : PaAt W (B + 1) f t)
    (hY : ∀ x ∈ cov 0 N f t, cvYield (cov 0 N f t).length J Jx l x) (hJ0 : J [] W) :
    CallsIn Fence.wide n Tryz.prog 121 #[.func (.yield l) #[] #[], .pointer (some ⟨B, 0, none⟩), .pointer (some ⟨B + 1, 0, none⟩)] W fun e W' => (∃ v, e = .returned v) ∧
      (J (cov 0 N f t) W' ∨ ∃ q, q <+: cov 0 N f t ∧ Jx q W') := by
  have hp := hid (coverPart_in l W.heap.size f t _ J Jx hJ ht N 0 N (n - 1) [] W (by omega) (by omega) hn hY (by simp) hJ0)
  have hc := h1.cells
  have hfn : ∀ k, Fence.wide.fn k := fun _ => trivial
  have hdp : Fence.wide.depth.isSome = false := rfl
  clear hY hJ0 hJ h1
  unfold paV at hp
  refine callsIn_of_wp Tryz.func121 rfl trivial ?_ rfl
  simp only [Tryz.ntmps121, List.size_toArray, List.length_cons, List.length_nil, Nat.reduceAdd, Nat.reduceSub, Array.replicate_succ, Array.replicate_zero, List.push_toArray, List.append_toArray, List.nil_append, List.cons_append]
  gi_wp2
  refine hp.out.mono ?_
  clear hp
  rintro e W1 (⟨rfl, hJ1, _⟩ | ⟨rfl, q, hq, hx⟩)
  · gi_wp2
    go_end0
    exact ⟨⟨_, rfl⟩, .inl hJ1⟩
  · gi_wp2
    go_end0
    exact ⟨⟨_, rfl⟩, .inr ⟨q, hq, hx⟩⟩

/-- A range over Cover's answer. -/
theorem cover_stops (B N f t n : Nat) (w : World) (hn : N ≤ 64) (ht : t ≤ 64) (hB : B + 1 < w.heap.size) (h0 : w.cell? ⟨B, 0, none⟩ = some (.int .i64 N)) (h1 : PaAt w (B + 1) f t) :
    SeqStopsK Fence.wide n Tryz.prog 121 #[.pointer (some ⟨B, 0, none⟩), .pointer (some ⟨B + 1, 0, none⟩)] (fun x : CvP N f t => #[paV x.1.a x.1.b]) (KeepsT 112)
      (fun ys => ys.map (·.1) = cov 0 N f t) (fun pre => pre.map (·.1) <+: cov 0 N f t) (cov 0 N f t).length w := fun l J Jx W hW hJ hJx hY hJ0 => by
  have := cover1_in l B N f t n (fun pre W' => ∃ ys : List (CvP N f t), ys.map (·.1) = pre ∧ J ys W') (fun pre W' => ∃ ys : List (CvP N f t), ys.map (·.1) = pre ∧ Jx ys W') W hn ht
    (fun s A C row hs hg hr => by obtain ⟨ys, e, hs⟩ := hs; exact ⟨ys, e, hJ ys A C row hs hg hr⟩)
    ((hW.cell (p := ⟨B, 0, none⟩) (by show B < _; omega)).trans h0) (h1.below hW)
    (fun x hx pre W' hpre hlen => by
      obtain ⟨ys, e, hs⟩ := hpre
      refine yield_any rfl 0 (YieldAt.mono (hY ys ⟨x, hx⟩ W' hs (by rw [← e] at hlen; simpa using hlen)) ?_)
      rintro e' W'' (⟨he, hj, hk⟩ | ⟨he, hx'⟩)
      · exact .inl ⟨he, ⟨ys ++ [⟨x, hx⟩], by simp [e], hj⟩, hk⟩
      · exact .inr ⟨he, ys ++ [⟨x, hx⟩], by simp [e], hx'⟩)
    ⟨[], rfl, hJ0⟩
  refine this.mono ?_
  rintro e W' ⟨hv, (⟨ys, hys, hj⟩ | ⟨q, hq, ys, hys, hj⟩)⟩
  · exact ⟨hv, .inl ⟨ys, hys, hj⟩⟩
  · exact ⟨hv, .inr ⟨ys, by show ys.map (·.1) <+: _; rw [hys]; exact hq, hj⟩⟩

end Go.Proofs.YtlggbcceoejkkaaGreat

