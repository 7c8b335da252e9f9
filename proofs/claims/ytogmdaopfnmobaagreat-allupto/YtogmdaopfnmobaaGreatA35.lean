/- What the program's trees do: the cover, as an iterator. -/
import Derived.RangeFuncNested
import Derived.RangeFuncBound
import Derived.RangeFuncCalls
import Derived.RangeFuncLeaves
import Derived.Shelf.Abstract
import Derived.Shelf.RegionOpen
import Derived.WalkKit
import Derived.OwnWalkIn
import Derived.TacticsInMore
import Derived.LoopNIn
import Derived.LoopIn
import Derived.Test.YtogmdaopfnmobaaGreatA27
namespace Go.Proofs.YtogmdaopfnmobaaGreat
open Go.RowKit Go.Shelf
attribute [local go_sem] Oper.semAt_some
theorem yield_any {F : Fence} (hd : F.depth = none) {m : Nat} (m' : Nat) {P : Program} {l : Nat} {args : Array Value} {W : World} {R : Ending → World → Prop} (h : YieldAt F m P l args W R) : YieldAt F m' P l args W R := by
  obtain ⟨fn, tmps, assign, body, hy, hR⟩ := h
  exact ⟨fn, tmps, assign, body, hy, hR.1, fun c cs _ => hR.2 c cs (fun d h => by rw [hd] at h; cases h)⟩
structure KeepsT (t : TypeId) (W W' : World) : Prop where
  size : W.heap.size ≤ W'.heap.size
  same : ∀ (k : Nat) (cs : Array Value) (fr : Nat × Nat), W.heap[k]? = some (.cells cs t fr) → W'.heap[k]? = some (.cells cs t fr)
theorem KeepsT.refl (t : TypeId) (W : World) : KeepsT t W W := ⟨Nat.le_refl _, fun _ _ _ h => h⟩
theorem KeepsT.trans {t : TypeId} {A B C : World} (h : KeepsT t A B) (k : KeepsT t B C) : KeepsT t A C := ⟨Nat.le_trans h.size k.size, fun i cs fr e => k.same i cs fr (h.same i cs fr e)⟩
theorem KeepsT.of_below {t : TypeId} {W W' : World} (h : Below W.heap.size W W') : KeepsT t W W' := ⟨h.size, fun k _ _ e => (h.block k (Array.getElem?_eq_some_iff.1 e).1).trans e⟩
theorem KeepsT.alloc {t : TypeId} {W W' : World} (h : KeepsT t W W') (o : Obj) : KeepsT t W (W'.alloc o) := h.trans (.of_below ((Below.refl _ _).alloc (Nat.le_refl _) _))
theorem abides_below {β : Type} {B : Nat} {J : β → World → Prop} (h : AbidesFrom B J) {s : β} {W W' : World} (hs : J s W) (hb : Below W.heap.size W W') : J s W' :=
  h s W W' none hs ⟨hb.os, hb.tape, hb.output, hb.size, fun k hk _ => hb.block k hk⟩ (fun r e => by cases e)
def PaAt (w : World) (g a b : Nat) : Prop := w.heap[g]? = some (.cells #[.int .i64 a, .int .i64 b] 95 (0, 0))
theorem PaAt.cells {w : World} {g a b : Nat} (h : PaAt w g a b) : w.cell? ⟨g, 0, none⟩ = some (.int .i64 a) ∧ w.cell? ⟨g, 1, none⟩ = some (.int .i64 b) := by
  constructor <;> (rw [cell_of_row w g _ _ _ _ h]; rfl)
theorem PaAt.keeps {w w' : World} {g a b : Nat} (h : PaAt w g a b) (hk : KeepsT 95 w w') : PaAt w' g a b := hk.same _ _ _ h
theorem PaAt.below {w w' : World} {g a b : Nat} (h : PaAt w g a b) (hb : Below w.heap.size w w') : PaAt w' g a b := h.keeps (.of_below hb)
theorem PaAt.at (w : World) (n : Nat) (hn : n = w.heap.size) (a b : Nat) : PaAt (w.alloc (.cells #[.int .i64 a, .int .i64 b] 95)) n a b := by
  subst hn
  exact heap_alloc_new w _
theorem PaAt.alloc {w : World} {g a b : Nat} (h : PaAt w g a b) (o : Obj) : PaAt (w.alloc o) g a b := h.below ((Below.refl _ _).alloc (Nat.le_refl _) _)
theorem cov_leaf {a b f t : Nat} (h : apB a b f t = true ∨ wiB a b f t = true) : cov a b f t = [⟨a, b, isIn a b f t⟩] := by
  by_cases hb : b < a + 2
  · rw [cov, if_pos (.inr (.inr hb))]
  · refine cov_one _ _ _ _ ?_
    simp only [apB, wiB, isOut, isIn, decide_eq_true_eq] at h ⊢
    omega
theorem cov_split {a b f t : Nat} (hab : a ≤ b) (h1 : apB a b f t = false) (h2 : wiB a b f t = false) : a + 2 ≤ b ∧ cov a b f t = cov a (a + hf (b - a)) f t ++ cov (a + hf (b - a)) b f t := by
  simp only [apB, wiB, decide_eq_false_iff_not] at h1 h2
  have h3 : a + 2 ≤ b := by omega
  exact ⟨h3, cov_two _ _ _ _ (by simp only [isOut, decide_eq_false_iff_not]; omega) (by simp only [isIn, decide_eq_false_iff_not]; omega) h3⟩
theorem wiB_in (a b f t : Nat) : wiB a b f t = isIn a b f t := by
  simp only [wiB, isIn, decide_eq_decide]; omega
def cvPost (J Jx : List Sp → World → Prop) (pre L : List Sp) (W : World) (e : Ending) (W' : World) : Prop :=
  (e = .returned (.bool true) ∧ J (pre ++ L) W' ∧ KeepsT 95 W W') ∨ (e = .returned (.bool false) ∧ ∃ q, q <+: L ∧ Jx (pre ++ q) W')
abbrev cvYield (N : Nat) (J Jx : List Sp → World → Prop) (l : Nat) (x : Sp) : Prop := ∀ pre W, J pre W → pre.length < N → YieldAt Fence.wide 0 Tryz.prog l #[paV x.a x.b] W fun e W' =>
      (e = .returned (.bool true) ∧ J (pre ++ [x]) W' ∧ KeepsT 95 W W') ∨ (e = .returned (.bool false) ∧ Jx (pre ++ [x]) W')
set_option maxRecDepth 100000 in
set_option maxHeartbeats 4000000 in
theorem coverPart_apart (l B f t a b n : Nat) (J Jx : List Sp → World → Prop) (hJ : AbidesFrom B J)
    (pre : List Sp) {N : Nat} (hN : pre.length < N) (hY : cvYield N J Jx l ⟨a, b, isIn a b f t⟩)
    (hb : b ≤ 64) (ht : t ≤ 64) (h : apB a b f t = true) (W : World) (h0 : J pre W) :
    CallsIn Fence.wide n Tryz.prog 139 #[paV a b, paV f t, .func (.yield l) #[] #[]] W (cvPost J Jx pre (cov a b f t) W) := by
  have HA : ∀ w', Hid (Calls Tryz.prog 140 #[.agg #[.int .i64 a, .int .i64 b], .agg #[.int .i64 f, .int .i64 t]] w' fun e w2 => e = .returned (.bool true) ∧ Below w'.heap.size w' w2) := fun w' => hid (by have := apart_any a b f t w' (by omega) (by omega); rw [h] at this; exact this)
  have HL : Hid _ := cov_leaf (a := a) (b := b) (f := f) (t := t) (.inl h)
  have HJ : Hid (∀ W', Below W.heap.size W W' → J pre W') := hid fun W' hb => abides_below hJ h0 hb
  have HY : ∀ W', Hid (J pre W' → YieldAt Fence.wide (n - 1) Tryz.prog l #[paV a b] W' _) := fun W' => hid fun h => yield_any rfl (n - 1) (hY pre W' h hN)
  have hfn : ∀ k, Fence.wide.fn k := fun _ => trivial
  have hdp : Fence.wide.depth.isSome = false := rfl
  clear h hJ hY h0 hN
  unfold paV at HY ⊢
  refine callsIn_of_wp Tryz.func139 rfl trivial ?_ rfl
  simp only [Tryz.ntmps139, List.size_toArray, List.length_cons, List.length_nil, Nat.reduceAdd, Nat.reduceSub, Array.replicate_succ, Array.replicate_zero, List.push_toArray, List.append_toArray, List.nil_append, List.cons_append]
  gi_wp2
  refine (callsIn_wide.2 (HA _).out).mono ?_
  rintro e w1 ⟨rfl, hb1⟩
  have hB1 : Below W.heap.size W w1 := (((Below.refl _ _).alloc (Nat.le_refl _) _).alloc (by simp) _).trans (hb1.mono (by simp; omega))
  have hc1 := oldc hb1
  obtain ⟨fn, tmps, assign, body, hy, hR⟩ := (HY w1).out (HJ.out w1 hB1)
  have HB1 := hid (hB1)
  clear hb1 hB1 HA HY HJ
  gi_wp2
  refine hR.mono ?_
  clear hR
  rintro e W2 (⟨rfl, hJ2, hk2⟩ | ⟨rfl, hx2⟩)
  · gi_wp2
    go_ret
    exact .inl ⟨rfl, by rw [HL.out]; exact hJ2, (KeepsT.of_below HB1.out).trans hk2⟩
  · gi_wp2
    go_ret
    exact .inr ⟨rfl, _, by rw [HL.out]; exact List.prefix_refl _, hx2⟩
set_option maxRecDepth 100000 in
set_option maxHeartbeats 4000000 in
theorem coverPart_within (l B f t a b n : Nat) (J Jx : List Sp → World → Prop) (hJ : AbidesFrom B J)
    (pre : List Sp) {N : Nat} (hN : pre.length < N) (hY : cvYield N J Jx l ⟨a, b, isIn a b f t⟩)
    (hb : b ≤ 64) (ht : t ≤ 64) (h : apB a b f t = false) (h' : wiB a b f t = true) (W : World) (h0 : J pre W) :
    CallsIn Fence.wide n Tryz.prog 139 #[paV a b, paV f t, .func (.yield l) #[] #[]] W (cvPost J Jx pre (cov a b f t) W) := by
  have HA : ∀ w', Hid (Calls Tryz.prog 140 #[.agg #[.int .i64 a, .int .i64 b], .agg #[.int .i64 f, .int .i64 t]] w' fun e w2 => e = .returned (.bool false) ∧ Below w'.heap.size w' w2) := fun w' => hid (by have := apart_any a b f t w' (by omega) (by omega); rw [h] at this; exact this)
  have HW : ∀ w', Hid (Calls Tryz.prog 107 #[.agg #[.int .i64 a, .int .i64 b], .agg #[.int .i64 f, .int .i64 t]] w' fun e w2 => e = .returned (.bool true) ∧ Below w'.heap.size w' w2) := fun w' => hid (by have := within_any a b f t w' (by omega) (by omega); rw [h'] at this; exact this)
  have HL : Hid _ := cov_leaf (a := a) (b := b) (f := f) (t := t) (.inr h')
  have HJ : Hid (∀ W', Below W.heap.size W W' → J pre W') := hid fun W' hb => abides_below hJ h0 hb
  have HY : ∀ W', Hid (J pre W' → YieldAt Fence.wide (n - 1) Tryz.prog l #[paV a b] W' _) := fun W' => hid fun h => yield_any rfl (n - 1) (hY pre W' h hN)
  have hfn : ∀ k, Fence.wide.fn k := fun _ => trivial
  have hdp : Fence.wide.depth.isSome = false := rfl
  clear h hJ hY h0 hN h'
  unfold paV at HY ⊢
  refine callsIn_of_wp Tryz.func139 rfl trivial ?_ rfl
  simp only [Tryz.ntmps139, List.size_toArray, List.length_cons, List.length_nil, Nat.reduceAdd, Nat.reduceSub, Array.replicate_succ, Array.replicate_zero, List.push_toArray, List.append_toArray, List.nil_append, List.cons_append]
  gi_wp2
  refine (callsIn_wide.2 (HA _).out).mono ?_
  rintro e w1 ⟨rfl, hb1⟩
  have hB1 : Below W.heap.size W w1 := (((Below.refl _ _).alloc (Nat.le_refl _) _).alloc (by simp) _).trans (hb1.mono (by simp; omega))
  have hc1 := oldc hb1
  have hs1 : W.heap.size + 1 + 1 ≤ w1.heap.size := by have := hb1.size; simp at this; omega
  have HB1 := hid (hB1)
  clear hb1 hB1 HA
  gi_wp2
  refine (callsIn_wide.2 (HW _).out).mono ?_
  rintro e w2 ⟨rfl, hb2⟩
  have hB2 : Below W.heap.size W w2 := HB1.out.trans (hb2.mono (by omega))
  have hc2 := oldc hb2
  have z0 : W.heap.size < w1.heap.size := by omega
  obtain ⟨fn, tmps, assign, body, hy, hR⟩ := (HY w2).out (HJ.out w2 hB2)
  have HB2 := hid (hB2)
  clear hb2 hB2 HB1 HW HY HJ
  gi_wp2
  refine hR.mono ?_
  clear hR
  rintro e W2 (⟨rfl, hJ2, hk2⟩ | ⟨rfl, hx2⟩)
  · gi_wp2
    go_ret
    exact .inl ⟨rfl, by rw [HL.out]; exact hJ2, (KeepsT.of_below HB2.out).trans hk2⟩
  · gi_wp2
    go_ret
    exact .inr ⟨rfl, _, by rw [HL.out]; exact List.prefix_refl _, hx2⟩
set_option maxRecDepth 100000 in
set_option maxHeartbeats 4000000 in
theorem coverPart_split (l B f t a b n m : Nat) (L1 L2 : List Sp) (J Jx : List Sp → World → Prop) (hJ : AbidesFrom B J) (pre : List Sp)
    (ih1 : ∀ W, J pre W → CallsIn Fence.wide (n - 1) Tryz.prog 139 #[paV a m, paV f t, .func (.yield l) #[] #[]] W (cvPost J Jx pre L1 W))
    (ih2 : ∀ W, J (pre ++ L1) W → CallsIn Fence.wide (n - 1) Tryz.prog 139 #[paV m b, paV f t, .func (.yield l) #[] #[]] W (cvPost J Jx (pre ++ L1) L2 W))
    (hb : b ≤ 64) (ht : t ≤ 64) (h : apB a b f t = false) (h' : wiB a b f t = false) (hab : a + 2 ≤ b) (hm : m = a + hf (b - a)) (W : World) (h0 : J pre W) :
    CallsIn Fence.wide n Tryz.prog 139 #[paV a b, paV f t, .func (.yield l) #[] #[]] W (cvPost J Jx pre (L1 ++ L2) W) := by
  have HA : ∀ w', Hid (Calls Tryz.prog 140 #[.agg #[.int .i64 a, .int .i64 b], .agg #[.int .i64 f, .int .i64 t]] w' fun e w2 => e = .returned (.bool false) ∧ Below w'.heap.size w' w2) := fun w' => hid (by have := apart_any a b f t w' (by omega) (by omega); rw [h] at this; exact this)
  have HW : ∀ w', Hid (Calls Tryz.prog 107 #[.agg #[.int .i64 a, .int .i64 b], .agg #[.int .i64 f, .int .i64 t]] w' fun e w2 => e = .returned (.bool false) ∧ Below w'.heap.size w' w2) := fun w' => hid (by have := within_any a b f t w' (by omega) (by omega); rw [h'] at this; exact this)
  have HS : ∀ w', Hid (Calls Tryz.prog 120 #[.agg #[.int .i64 a, .int .i64 b]] w' fun e w2 => e = .returned (.tuple #[.agg #[.int .i64 a, .int .i64 m], .agg #[.int .i64 m, .int .i64 b]]) ∧ Below w'.heap.size w' w2) := fun w' => hid (by have := split_any a b w' hab hb; rw [← hm] at this; exact this)
  have HJ : Hid (∀ W', Below W.heap.size W W' → J pre W') := hid fun W' hb => abides_below hJ h0 hb
  have hfn : ∀ k, Fence.wide.fn k := fun _ => trivial
  have hdp : Fence.wide.depth.isSome = false := rfl
  have HI1 : ∀ W', Hid _ := fun W' => hid (ih1 W')
  have HI2 : ∀ W', Hid _ := fun W' => hid (ih2 W')
  clear h hJ h0 h' hab hm ih1 ih2
  unfold paV at HI1 HI2 ⊢
  refine callsIn_of_wp Tryz.func139 rfl trivial ?_ rfl
  simp only [Tryz.ntmps139, List.size_toArray, List.length_cons, List.length_nil, Nat.reduceAdd, Nat.reduceSub, Array.replicate_succ, Array.replicate_zero, List.push_toArray, List.append_toArray, List.nil_append, List.cons_append]
  gi_wp2
  refine (callsIn_wide.2 (HA _).out).mono ?_
  rintro e w1 ⟨rfl, hb1⟩
  have hB1 : Below W.heap.size W w1 := (((Below.refl _ _).alloc (Nat.le_refl _) _).alloc (by simp) _).trans (hb1.mono (by simp; omega))
  have hc1 := oldc hb1
  have hs1 : W.heap.size + 1 + 1 ≤ w1.heap.size := by have := hb1.size; simp at this; omega
  have hr1 : PaAt w1 (W.heap.size + 1) f t := (PaAt.at _ (W.heap.size + 1) (by simp) f t).below hb1
  have HR1 := hid (hr1)
  have HB1 := hid (hB1)
  clear hb1 hB1 HA hr1
  gi_wp2
  refine (callsIn_wide.2 (HW _).out).mono ?_
  rintro e w2 ⟨rfl, hb2⟩
  have hB2 : Below W.heap.size W w2 := HB1.out.trans (hb2.mono (by omega))
  have hc2 := oldc hb2
  have z0 : W.heap.size < w1.heap.size := by omega
  have HR2 := hid (HR1.out.below hb2)
  have HB2 := hid (hB2)
  have hs2 : w1.heap.size ≤ w2.heap.size := hb2.size
  clear hb2 hB2 HB1 HR1 HW
  gi_wp2
  refine (callsIn_wide.2 (HS _).out).mono ?_
  rintro e w3 ⟨rfl, hb3⟩
  have hB3 : Below W.heap.size W w3 := HB2.out.trans (hb3.mono (by omega))
  have hr3 := HR2.out.below hb3
  have HR3 := hid (hr3)
  have HB3 := hid (hB3)
  have hs3 : w2.heap.size ≤ w3.heap.size := hb3.size
  have hrc := hr3.cells
  have z3 : W.heap.size + 1 < w3.heap.size := by omega
  have HB4 := hid (HB3.out.alloc HB3.out.size (.cells #[.int .i64 a, .int .i64 m] 95))
  have HB5 := hid (HB4.out.alloc HB4.out.size (.cells #[.int .i64 m, .int .i64 b] 95))
  have HR5 := hid ((HR3.out.alloc (.cells #[.int .i64 a, .int .i64 m] 95)).alloc (.cells #[.int .i64 m, .int .i64 b] 95))
  have HP5 := hid (PaAt.at (w3.alloc (.cells #[.int .i64 a, .int .i64 m] 95)) (w3.heap.size + 1) (by simp) m b)
  have hr5 := HR5.out.cells
  clear hb3 hB3 HB2 HR2 HS hr3 hc1 hc2
  gi_wp2
  refine ((HI1 _).out (HJ.out _ HB5.out)).mono ?_
  rintro e w6 (⟨rfl, hJ6, hk6⟩ | ⟨rfl, q, hq, hx6⟩)
  · have hp6 := (HP5.out.keeps hk6).cells
    have hr6 := (HR5.out.keeps hk6).cells
    have HK6 := hid ((KeepsT.of_below (t := 95) HB5.out).trans hk6)
    clear HI1 HJ HP5 HR5 HB5 HB4 HB3 HR3 hrc hk6
    have HJ6 := hid hJ6
    clear hJ6
    gi_wp2
    refine ((HI2 _).out HJ6.out).mono ?_
    clear HI2
    rintro e w7 (⟨rfl, hJ7, hk7⟩ | ⟨rfl, q, hq, hx7⟩)
    · gi_wp2
      go_ret
      exact .inl ⟨rfl, by rw [← List.append_assoc]; exact hJ7, HK6.out.trans hk7⟩
    · gi_wp2
      go_ret
      refine .inr ⟨rfl, L1 ++ q, List.prefix_append_right_inj _ |>.2 hq, by rw [← List.append_assoc]; exact hx7⟩
  · clear HI1 HI2 HJ HP5 HR5 HB5 HB4 HB3 HR3 hrc
    gi_wp2
    go_ret
    exact .inr ⟨rfl, q, hq.trans (List.prefix_append _ _), hx6⟩
theorem coverPart_in (l B f t N : Nat) (J Jx : List Sp → World → Prop) (hJ : AbidesFrom B J) (ht : t ≤ 64) :
    ∀ (k a b n : Nat) (pre : List Sp) (W : World), b - a ≤ k → a ≤ b → b ≤ 64 → (∀ x ∈ cov a b f t, cvYield N J Jx l x) → pre.length + (cov a b f t).length ≤ N → J pre W →
    CallsIn Fence.wide n Tryz.prog 139 #[paV a b, paV f t, .func (.yield l) #[] #[]] W (cvPost J Jx pre (cov a b f t) W) := by
  intro k
  induction k with
  | zero =>
    intro a b n pre W hk hab hb hY hN h0
    have h : apB a b f t = true := by simp only [apB, decide_eq_true_eq]; omega
    exact coverPart_apart l B f t a b n J Jx hJ pre (by rw [cov_leaf (.inl h)] at hN; simp at hN; omega) (hY _ (by rw [cov_leaf (.inl h)]; simp)) hb ht h W h0
  | succ k ih =>
    intro a b n pre W hk hab hb hY hN h0
    by_cases h : apB a b f t = true
    · exact coverPart_apart l B f t a b n J Jx hJ pre (by rw [cov_leaf (.inl h)] at hN; simp at hN; omega) (hY _ (by rw [cov_leaf (.inl h)]; simp)) hb ht h W h0
    by_cases h' : wiB a b f t = true
    · exact coverPart_within l B f t a b n J Jx hJ pre (by rw [cov_leaf (.inr h')] at hN; simp at hN; omega) (hY _ (by rw [cov_leaf (.inr h')]; simp)) hb ht (by simpa using h) h' W h0
    obtain ⟨h2, hc⟩ := cov_split hab (by simpa using h) (by simpa using h')
    have p := hf_pos (b - a)
    have q := hf_lt (b - a) (by omega)
    rw [hc] at hY hN ⊢
    rw [List.length_append] at hN
    exact coverPart_split l B f t a b n (a + hf (b - a)) _ _ J Jx hJ pre
      (fun W1 h1 => ih a _ (n - 1) pre W1 (by omega) (by omega) (by omega) (fun x hx => hY x (by simp [hx])) (by omega) h1)
      (fun W1 h1 => ih _ b (n - 1) _ W1 (by omega) (by omega) hb (fun x hx => hY x (by simp [hx])) (by rw [List.length_append]; omega) h1)
      hb ht (by simpa using h) (by simpa using h') h2 rfl W h0
end Go.Proofs.YtogmdaopfnmobaaGreat

/- What the program's trees do: Cover, a range over which takes the cover's parts one by one. -/
namespace Go.Proofs.YtogmdaopfnmobaaGreat
open Go.RowKit Go.Shelf
attribute [local go_sem] Oper.semAt_some
abbrev CvP (n f t : Nat) : Type := { p : Sp // p ∈ cov 0 n f t }
def covV (B : Nat) : Value := .func (.func 138) #[] #[.pointer (some ⟨B, 0, none⟩), .pointer (some ⟨B + 1, 0, none⟩)]
set_option maxRecDepth 100000 in
set_option maxHeartbeats 1000000 in
theorem cover_any (n f t : Nat) (w : World) : Calls Tryz.prog 106 #[.int .i64 n, paV f t] w fun e w' => e = .returned (covV w.heap.size) ∧ w' = (w.alloc (.cells #[.int .i64 n] 3)).alloc (.cells #[.int .i64 f, .int .i64 t] 95) := by
  unfold paV covV
  go_enter Tryz.func106, Tryz.ntmps106
  go_wp2
  go_ret
  exact ⟨rfl, rfl⟩
set_option maxRecDepth 100000 in
set_option maxHeartbeats 1000000 in
theorem cover1_in (l B N f t n : Nat) (J Jx : List Sp → World → Prop) (W : World) (hn : N ≤ 64) (ht : t ≤ 64) (hJ : AbidesFrom W.heap.size J) (h0 : W.cell? ⟨B, 0, none⟩ = some (.int .i64 N)) (h1 : PaAt W (B + 1) f t)
    (hY : ∀ x ∈ cov 0 N f t, cvYield (cov 0 N f t).length J Jx l x) (hJ0 : J [] W) :
    CallsIn Fence.wide n Tryz.prog 138 #[.func (.yield l) #[] #[], .pointer (some ⟨B, 0, none⟩), .pointer (some ⟨B + 1, 0, none⟩)] W fun e W' => (∃ v, e = .returned v) ∧
      (J (cov 0 N f t) W' ∨ ∃ q, q <+: cov 0 N f t ∧ Jx q W') := by
  have hp := hid (coverPart_in l W.heap.size f t _ J Jx hJ ht N 0 N (n - 1) [] W (by omega) (by omega) hn hY (by simp) hJ0)
  have hc := h1.cells
  have hfn : ∀ k, Fence.wide.fn k := fun _ => trivial
  have hdp : Fence.wide.depth.isSome = false := rfl
  clear hY hJ0 hJ h1
  unfold paV at hp
  refine callsIn_of_wp Tryz.func138 rfl trivial ?_ rfl
  simp only [Tryz.ntmps138, List.size_toArray, List.length_cons, List.length_nil, Nat.reduceAdd, Nat.reduceSub, Array.replicate_succ, Array.replicate_zero, List.push_toArray, List.append_toArray, List.nil_append, List.cons_append]
  gi_wp2
  refine hp.out.mono ?_
  clear hp
  rintro e W1 (⟨rfl, hJ1, _⟩ | ⟨rfl, q, hq, hx⟩)
  · gi_wp2
    go_end0
    exact ⟨⟨_, rfl⟩, .inl hJ1⟩
  · gi_wp2
    go_end0
    exact ⟨⟨_, rfl⟩, .inr ⟨q, hq, hx⟩⟩
theorem cover_stops (B N f t n : Nat) (w : World) (hn : N ≤ 64) (ht : t ≤ 64) (hB : B + 1 < w.heap.size) (h0 : w.cell? ⟨B, 0, none⟩ = some (.int .i64 N)) (h1 : PaAt w (B + 1) f t) :
    SeqStopsK Fence.wide n Tryz.prog 138 #[.pointer (some ⟨B, 0, none⟩), .pointer (some ⟨B + 1, 0, none⟩)] (fun x : CvP N f t => #[paV x.1.a x.1.b]) (KeepsT 95)
      (fun ys => ys.map (·.1) = cov 0 N f t) (fun pre => pre.map (·.1) <+: cov 0 N f t) (cov 0 N f t).length w := fun l J Jx W hW hJ hJx hY hJ0 => by
  have := cover1_in l B N f t n (fun pre W' => ∃ ys : List (CvP N f t), ys.map (·.1) = pre ∧ J ys W') (fun pre W' => ∃ ys : List (CvP N f t), ys.map (·.1) = pre ∧ Jx ys W') W hn ht
    (fun s A C row hs hg hr => by obtain ⟨ys, e, hs⟩ := hs; exact ⟨ys, e, hJ ys A C row hs hg hr⟩)
    ((hW.cell (p := ⟨B, 0, none⟩) (by show B < _; omega)).trans h0) (h1.below hW)
    (fun x hx pre W' hpre hlen => by
      obtain ⟨ys, e, hs⟩ := hpre
      refine yield_any rfl 0 (YieldAt.mono (hY ys ⟨x, hx⟩ W' hs (by rw [← e] at hlen; simpa using hlen)) ?_)
      rintro e' W'' (⟨he, hj, hk⟩ | ⟨he, hx'⟩)
      · exact .inl ⟨he, ⟨ys ++ [⟨x, hx⟩], by simp [e], hj⟩, hk⟩
      · exact .inr ⟨he, ys ++ [⟨x, hx⟩], by simp [e], hx'⟩)
    ⟨[], rfl, hJ0⟩
  refine this.mono ?_
  rintro e W' ⟨hv, (⟨ys, hys, hj⟩ | ⟨q, hq, ys, hys, hj⟩)⟩
  · exact ⟨hv, .inl ⟨ys, hys, hj⟩⟩
  · exact ⟨hv, .inr ⟨ys, by show ys.map (·.1) <+: _; rw [hys]; exact hq, hj⟩⟩
end Go.Proofs.YtogmdaopfnmobaaGreat

/- What sum does: over the values of a slice. -/
namespace Go.Proofs.YtogmdaopfnmobaaGreat
open Go.RowKit Go.Shelf
attribute [local go_sem] Oper.semAt_some
abbrev V6 : Type := { x : Int // 0 ≤ x ∧ x ≤ 1000000 }
def sumV (l : List V6) : Int := (l.map (·.1)).sum
theorem sumV_snoc (l : List V6) (x : V6) : sumV (l ++ [x]) = sumV l + x.1 := by simp [sumV]
theorem sumV_bd (l : List V6) : 0 ≤ sumV l ∧ sumV l ≤ 1000000 * l.length := by
  have := sum_bd (l.map (·.1)) (fun v hv => by obtain ⟨x, _, rfl⟩ := List.mem_map.1 hv; exact x.2)
  simpa [sumV] using this
set_option maxRecDepth 100000 in
set_option maxHeartbeats 2000000 in
theorem sliceVals_in (n l Bs n₀ : Nat) (ao : Option Addr) (cap : Nat) (zs : List V6) (hlen : zs.length ≤ 64) (J Jx : List V6 → World → Prop)
    (hY : ∀ pre x W, J pre W → pre.length < zs.length → YieldAt Fence.wide (n - 1) Tryz.prog l #[.int .i64 x.1] W fun e W' => (e = .returned (.bool true) ∧ J (pre ++ [x]) W' ∧ Below n₀ W W') ∨ (e = .returned (.bool false) ∧ Jx (pre ++ [x]) W'))
    (W : World) (hBs : W.cell? ⟨Bs, 0, none⟩ = some (.slice ao zs.length cap)) (hI : Cells1 W n₀ (.slice ao zs.length cap) (zs.map fun x => .int .i64 x.1)) (h0 : J [] W) :
    CallsIn Fence.wide n Tryz.prog 109 #[.func (.yield l) #[] #[], .pointer (some ⟨Bs, 0, none⟩)] W fun e W' => (∃ v, e = .returned v) ∧ ((∃ ys, ys = zs ∧ J ys W') ∨ (∃ pre, True ∧ Jx pre W')) := by
  have hfn : ∀ k, Fence.wide.fn k := fun _ => trivial
  have hdp : Fence.wide.depth.isSome = false := rfl
  refine callsIn_of_wp Tryz.func109 rfl trivial ?_ rfl
  simp only [Tryz.ntmps109, List.size_toArray, List.length_cons, List.length_nil, Nat.reduceAdd, Nat.reduceSub, Array.replicate_succ, Array.replicate_zero, List.push_toArray, List.append_toArray, List.nil_append, List.cons_append]
  gi_wp2
  gi_loopw [7] (fun i wr => ∃ k : Nat, k ≤ zs.length ∧ i = .int .i64 k ∧ J (zs.take k) wr ∧ Below n₀ W wr) (fun i _ => zs.length - (intOf i).toNat)
  case atStart => exact ⟨0, Nat.zero_le _, rfl, by simpa using h0, Below.refl _ _⟩
  case round =>
    obtain ⟨k, hk, rfl, hJs, hnx⟩ := hrel
    by_cases hlt : k < zs.length
    · obtain ⟨b, off, rfl, hb, hc⟩ := hI.at k (.int .i64 (zs[k]).1) (by simp [hlt])
      have hcx : wr.cell? ⟨b, off + k, none⟩ = some (.int .i64 (zs[k]).1) := (hnx.cell (p := ⟨b, off + k, none⟩) hb).trans hc
      have HT : Hid (zs.take (k + 1) = zs.take k ++ [zs[k]]) := hid (List.take_succ_eq_append_getElem hlt)
      obtain ⟨fn, tmps, assign, body, hy, hR⟩ := hY _ (zs[k]) wr hJs (by simp; omega)
      generalize zs[k] = x at hcx hy hR HT
      clear hc
      gi_wp2
      refine hR.mono ?_
      rintro e W3 (⟨rfl, hJ3, hk3⟩ | ⟨rfl, hJx3⟩)
      · gi_wp2
        go_roundw
        case rel => exact ⟨k + 1, by omega, by simp, by rw [HT.out]; exact hJ3, hnx.trans hk3⟩
        case measure => simp [intOf]; omega
      · gi_wp2
        refine bodyPost_ret (results_none rfl _ _ _) rfl ?_
        exact ⟨⟨_, rfl⟩, .inr ⟨_, trivial, hJx3⟩⟩
    · have HT : Hid (zs.take k = zs) := hid (List.take_of_length_le (by omega))
      gi_wp2
      go_end0
      exact ⟨⟨_, rfl⟩, .inl ⟨_, HT.out, hJs⟩⟩
theorem sliceVals_stops (n Bs n₀ : Nat) (sv : Value) (zs : List V6) (hlen : zs.length ≤ 64) (w : World) (hBs : Bs < w.heap.size) (hn₀ : n₀ ≤ w.heap.size)
    (hc : w.cell? ⟨Bs, 0, none⟩ = some sv) (hI : Cells1 w n₀ sv (zs.map fun x => .int .i64 x.1)) :
    SeqStopsK Fence.wide n Tryz.prog 109 #[.pointer (some ⟨Bs, 0, none⟩)] (fun x : V6 => #[Value.int .i64 x.1]) (Below n₀) (fun ys => ys = zs) (fun _ => True) zs.length w := fun l J Jx W hW _ _ hY h0 => by
  obtain ⟨ao, cap, rfl, _⟩ := hI.ex
  rw [List.length_map] at hI hc
  exact sliceVals_in n l Bs n₀ ao cap zs hlen J Jx hY W ((hW.cell (p := ⟨Bs, 0, none⟩) hBs).trans hc) (hI.below (hW.mono hn₀)) h0
set_option maxHeartbeats 1000000 in
theorem sliceVals_any (ao : Option Addr) (len cap : Nat) (w : World) :
    Calls Tryz.prog 65 #[.slice ao len cap] w fun e w' => e = .returned (.func (.func 109) #[] #[.pointer (some ⟨w.heap.size, 0, none⟩)]) ∧ w' = w.alloc (.cells #[.slice ao len cap] 25) := by
  go_enter Tryz.func65, Tryz.ntmps65
  go_wp2
  go_ret
  exact ⟨rfl, rfl⟩
set_option maxRecDepth 100000 in
set_option maxHeartbeats 2000000 in
theorem sum_any (gf B : Nat) (Kp : World → World → Prop) (S Sp : List V6 → Prop) (N : Nat) (hN : N ≤ 64) (w : World) (eg : ∀ args w, (callFunc gf args).run Tryz.prog w = .ok (.enter gf args) w)
    (hseq : ∀ W, Below w.heap.size w W → SeqStopsK Fence.wide 4 Tryz.prog gf #[.pointer (some ⟨B, 0, none⟩)] (fun x : V6 => #[Value.int .i64 x.1]) Kp S Sp N W)
    (hKt : ∀ {A B C : World}, Kp A B → Kp B C → Kp A C) (hKb : ∀ (W : World) (l : Nat) (o o' : Obj), w.heap.size ≤ l → W.heap[l]? = some o → o.isCells = false → o.isWalk = false → Kp W (W.putObj l o'))
    (hKs : ∀ (W : World) (v : Value), Kp W (W.setCell ⟨w.heap.size, 0, none⟩ v)) :
    Calls Tryz.prog 64 #[.func (.func gf) #[] #[.pointer (some ⟨B, 0, none⟩)]] w fun e w' => ∃ xs, S xs ∧ e = .returned (.int .i64 (sumV xs)) ∧ Below w.heap.size w w' := by
  refine (callsIn_wide (n := 5)).1 ?_
  have hfn : ∀ k, Fence.wide.fn k := fun _ => trivial
  have hdp : Fence.wide.depth.isSome = false := rfl
  refine callsIn_of_wp_marks Tryz.func64 rfl trivial ?_ rfl
  simp only [Tryz.ntmps64, List.size_toArray, List.length_cons, List.length_nil, Nat.reduceAdd, Nat.reduceSub, Array.replicate_succ, Array.replicate_zero, List.push_toArray, List.append_toArray, List.nil_append, List.cons_append]
  gi_wp2
  have bN := Boxed.new w 3 (.int .i64 0)
  have hB0 : Below w.heap.size w (w.alloc (.cells #[.int .i64 0] 3)) := (Below.refl _ w).alloc (Nat.le_refl _) _
  refine wpIn_rangeFunc_ownG (F := Fence.wide) (n := 5) rfl (by decide) (gf := gf) (lb := #[.pointer (some ⟨B, 0, none⟩)]) rfl trivial eg
    (hseq _ hB0) (fun h k => hKt h k) (fun W l o o' hl h1 h2 h3 => hKb W l o o' (by simp at hl; omega) h1 h2 h3) (Below.refl _ _) (fun _ => rfl)
    (fun ys W => Boxed W w.heap.size 3 (.int .i64 (sumV ys)) ∧ Below w.heap.size w W) (fun _ _ _ => False)
    (OwnFrom.and (Own.from (boxed_own _ _ _) _) (ownFrom_below (Nat.le_refl _) (by simp)))
    (fun _ _ _ _ _ hs _ _ => hs) ⟨bN, hB0⟩
    (fun x => { tmps := #[.func (.func gf) #[] #[.pointer (some ⟨B, 0, none⟩)], undef, .int .i64 0, .pointer (some ⟨w.heap.size, 0, none⟩), .int .i64 x.1, .func (.func gf) #[] #[.pointer (some ⟨B, 0, none⟩)], .int .i64 x.1, undef, undef, undef, undef], defers := [] }) ?assign ?body ?done ?stop
  case assign =>
    intro l x W K hK
    gi_wp2
    exact hK
  case body =>
    rintro l pre x W ⟨hb, hB⟩ hlt
    have hc := hb.cell
    have hf := hb.frozen
    have hs := sumV_bd pre
    have hx := x.2
    gi_wp2
    refine ⟨(KeepsOthers.setCell _ _ _).from _, hKs _ _, ?_, hB.setCell (by simp) _⟩
    show Boxed _ _ _ (.int .i64 (sumV (pre ++ [x])))
    rw [sumV_snoc]
    exact hb.set _
  case done =>
    rintro D ys W hD hS ⟨hb, hB⟩ hK
    have hc := hb.cell
    gi_wp2
    refine ⟨by simp, .inl ⟨_, _, rfl, run_takeDeferred hK, ?_⟩⟩
    exact ⟨_, results_tmp rfl _ _ _, ys, hS, rfl, hB.trans (belowK_b (w := w) (Nat.le_refl _) W D _ _ (by simp at hD; omega) hK rfl rfl)⟩
  case stop =>
    rintro D c pre W _ _ h _
    exact h.elim
end Go.Proofs.YtogmdaopfnmobaaGreat

/- What the program's trees do: Prove, whatever the source. -/
namespace Go.Proofs.YtogmdaopfnmobaaGreat
open Go.RowKit Go.Shelf
attribute [local go_sem] Oper.semAt_some
def finN (nd : Sp → Nd) (l : List Sp) : Fo := l.foldl (fun z p => if p.i then tog z (nd p).fold else z) .zero
theorem finN_snoc (nd : Sp → Nd) (l : List Sp) (p : Sp) : finN nd (l ++ [p]) = if p.i then tog (finN nd l) (nd p).fold else finN nd l := by simp [finN]
theorem finN_bd {nd : Sp → Nd} : ∀ {l : List Sp}, (∀ p ∈ l, (nd p).ok = true) → (0 ≤ (finN nd l).c ∧ (finN nd l).c ≤ 34359738367 * l.length) ∧ (0 ≤ (finN nd l).s ∧ (finN nd l).s ≤ 34359738367 * l.length) := by
  intro l
  rw [← List.reverse_reverse l]
  generalize l.reverse = r
  induction r with
  | nil => intro _; simp [finN, Fo.zero]
  | cons p r ih =>
    intro h
    rw [List.reverse_cons] at h ⊢
    have := ih (fun q hq => h q (by simp [hq]))
    have hp := (Nd.ok_iff _).1 (h p (by simp))
    simp only [isNum_iff] at hp
    rw [finN_snoc, List.length_append, List.length_singleton]
    split
    · simp only [tog, Nd.fold]; omega
    · omega
theorem blk_row {W : World} {B : Nat} {cs : Array Value} {t e : TypeId} {fr : Nat × Nat} (h : W.heap[B]? = some (.cells cs t fr)) (hte : t ≠ e) {base size k : Nat} {v : Value} {xs : List Value} (hr : W.ownsRow base e size v k xs) : some B ≠ v.ownBlock := by
  rcases hr.2 with ⟨rfl, _⟩ | ⟨g, cap, cur, rfl, _, hgb, _⟩
  · simp [Value.ownBlock]
  · intro e'
    obtain rfl : B = g := by simpa [Value.ownBlock] using e'
    have := h.symm.trans hgb
    simp at this
    exact hte this.2.1
theorem blk_kept {W W' : World} {B : Nat} {cs : Array Value} {t e : TypeId} {fr : Nat × Nat} (h : W.heap[B]? = some (.cells cs t fr)) (hte : t ≠ e) {base size k : Nat} {v : Value} {xs : List Value} (hr : W.ownsRow base e size v k xs) (hg : W.grownBy W' v.ownBlock) : W'.heap[B]? = some (.cells cs t fr) :=
  (hg.block B (Array.getElem?_eq_some_iff.1 h).1 (blk_row h hte hr)).trans h
theorem keepsT_b {t : TypeId} (W : World) (l : Nat) (o o' : Obj) (hl : W.heap[l]? = some o) (ho : o.isCells = false) : KeepsT t W (W.putObj l o') :=
  ⟨by simp [World.putObj], fun k cs fr h => by
    by_cases e : k = l
    · subst e; rw [h] at hl; cases hl; cases ho
    · exact (World.putObj_heap_other (by omega)).trans h⟩
structure PvI (w : World) (s k B f t : Nat) (nd : Sp → Nd) (l : List Sp) (W : World) : Prop where
  r : PaAt W s f t
  src : Boxed W (s + 1) 88 (.func (.func k) #[] #[.pointer (some ⟨B, 0, none⟩)])
  res : FoAt W (s + 2) .zero
  fo : FoAt W (s + 3) (finN nd l)
  row : ∃ v, Boxed W (s + 4) 72 v ∧ W.ownsRow s 51 6 v l.length ((l.map nd).flatMap Nd.cells)
  below : Below s w W
  big : s + 7 ≤ W.heap.size
theorem cells_kept {W W' : World} {row : Option Nat} {B b : Nat} {cs : Array Value} {t : TypeId} {fr : Nat × Nat} (h : W.heap[b]? = some (.cells cs t fr)) (hg : W.grownBy W' row) (hr : ∀ r, row = some r → B ≤ r ∧ ∃ o : Obj, W.heap[r]? = some o ∧ o.isCells = false) : W'.heap[b]? = some (.cells cs t fr) := by
  refine (hg.block b (Array.getElem?_eq_some_iff.1 h).1 (fun e => ?_)).trans h
  obtain ⟨_, o, ho, hc⟩ := hr b e.symm
  rw [h] at ho; cases ho; cases hc
theorem pvI_own (w : World) (k B f t : Nat) (nd : Sp → Nd) (B' : Nat) (hB : w.heap.size ≤ B') {α : Type} (g : α → List Sp) : OwnFrom B' (fun (ys : α) W => PvI w w.heap.size k B f t nd (g ys) W) := fun s X Y row h hg hr =>
  ⟨cells_kept h.r hg hr, cells_kept h.src hg hr, cells_kept h.res hg hr, cells_kept h.fo hg hr, holdsRow_own w.heap.size (w.heap.size + 4) 72 51 6 (fun l => l.length) (fun l => (l.map nd).flatMap Nd.cells) (fun _ _ => True) (g s) X Y row (by obtain ⟨v, h1, h2⟩ := h.row; exact ⟨v, h1, h2, trivial⟩) hg (fun r e => (hr r e).2) |> fun ⟨v, h1, h2, _⟩ => ⟨v, h1, h2⟩,
   ownFrom_below (w₀ := w) (Nat.le_refl _) hB () X Y row h.below hg hr, Nat.le_trans h.big hg.size⟩
theorem PvI.later {w : World} {s k B f t : Nat} {nd : Sp → Nd} {l : List Sp} {W W' : World} (h : PvI w s k B f t nd l W) (hs : s ≤ W.heap.size) (hb : Below W.heap.size W W') : PvI w s k B f t nd l W' := by
  obtain ⟨v, h1, h2⟩ := h.row
  exact ⟨h.r.below hb, (hb.block _ h.src.lt).trans h.src, h.res.below hb h.res.lt, h.fo.below hb h.fo.lt, ⟨v, (hb.block _ h1.lt).trans h1, ownsRow_below h2 hb⟩, h.below.trans (hb.mono hs), Nat.le_trans h.big hb.size⟩
structure PvA (w : World) (s k B f t : Nat) (nd : Sp → Nd) (l : List Sp) (p : Sp) (g : Nat) (U U3 : World) : Prop where
  r : PaAt U3 s f t
  src : Boxed U3 (s + 1) 88 (.func (.func k) #[] #[.pointer (some ⟨B, 0, none⟩)])
  res : FoAt U3 (s + 2) .zero
  fo : FoAt U3 (s + 3) (finN nd l)
  row : ∃ v, Boxed U3 (s + 4) 72 v ∧ U3.ownsRow s 51 6 v (l ++ [p]).length (((l ++ [p]).map nd).flatMap Nd.cells)
  below : Below s w U3
  big : s + 7 ≤ U3.heap.size
  keeps : KeepsT 95 U U3
  others : KeepsOthers U U3
theorem PvA.later {w : World} {s k B f t : Nat} {nd : Sp → Nd} {l : List Sp} {p : Sp} {g : Nat} {U W W' : World} (h : PvA w s k B f t nd l p g U W) (hs : s ≤ W.heap.size) (hb : Below W.heap.size W W') : PvA w s k B f t nd l p g U W' := by
  obtain ⟨v, h1, h2⟩ := h.row
  exact ⟨h.r.below hb, (hb.block _ h.src.lt).trans h.src, h.res.below hb h.res.lt, h.fo.below hb h.fo.lt, ⟨v, (hb.block _ h1.lt).trans h1, ownsRow_below h2 hb⟩, h.below.trans (hb.mono hs), Nat.le_trans h.big hb.size, h.keeps.trans (.of_below hb), h.others.trans ⟨hb.size, fun k o hk _ => (hb.block k (Array.getElem?_eq_some_iff.1 hk).1).trans hk⟩⟩
theorem PvA.put {w : World} {s k B f t : Nat} {nd : Sp → Nd} {l : List Sp} {p : Sp} {g : Nat} {U W : World} (h : PvA w s k B f t nd l p g U W) (F : Fo) (hF : F = finN nd (l ++ [p])) :
    PvI w s k B f t nd (l ++ [p]) ((((W.setCell ⟨s + 3, 0, none⟩ (.int .i64 F.c)).setCell ⟨s + 3, 1, none⟩ (.int .i64 F.s)).setCell ⟨s + 3, 2, none⟩ (.int .i64 F.m)).setCell ⟨s + 3, 3, none⟩ (.int .i64 F.x)) := by
  subst hF
  have far : ∀ {cs : Array Value} {tt : TypeId} {b : Nat}, b ≠ s + 3 → W.heap[b]? = some (.cells cs tt (0, 0)) → ((((W.setCell ⟨s + 3, 0, none⟩ (.int .i64 (finN nd (l ++ [p])).c)).setCell ⟨s + 3, 1, none⟩ (.int .i64 (finN nd (l ++ [p])).s)).setCell ⟨s + 3, 2, none⟩ (.int .i64 (finN nd (l ++ [p])).m)).setCell ⟨s + 3, 3, none⟩ (.int .i64 (finN nd (l ++ [p])).x)).heap[b]? = some (.cells cs tt (0, 0)) :=
    fun hne h0 => far_set' (far_set' (far_set' (far_set' h0 hne) hne) hne) hne
  obtain ⟨v, h1, h2⟩ := h.row
  refine ⟨far (by omega) h.r, far (by omega) h.src, far (by omega) h.res, h.fo.set _, ⟨v, far (by omega) h1, own_keep h2 (fun b hb => ?_)⟩, (((h.below.setCell (by show s ≤ s + 3; omega) _).setCell (by show s ≤ s + 3; omega) _).setCell (by show s ≤ s + 3; omega) _).setCell (by show s ≤ s + 3; omega) _, by simpa using h.big⟩
  have hne : b ≠ s + 3 := fun e => blk_row h.fo (by decide) h2 (by rw [e] at hb; exact (mem_ob.1 hb).symm)
  exact far_set (far_set (far_set (far_set rfl hne) hne) hne) hne
theorem PvI.appended {w : World} {s k B f t : Nat} {nd : Sp → Nd} {l : List Sp} {p : Sp} {U w2 : World} {v v' : Value} {tmp : Obj} (h : PvI w s k B f t nd l U) (hv : Boxed U (s + 4) 72 v) (hrow : U.ownsRow s 51 6 v l.length ((l.map nd).flatMap Nd.cells))
    (hown : w2.ownsRow s 51 6 v' (l.length + 1) ((l.map nd).flatMap Nd.cells ++ (nd p).cells)) (hgrow : (U.alloc tmp).grownBy w2 v.ownBlock) : Boxed w2 (s + 4) 72 v ∧ PvA w s k B f t nd l p 0 U (w2.setCell ⟨s + 4, 0, none⟩ v') := by
  obtain ⟨hv1, hv2, hr2, hk2, hb2⟩ := hv.appended (by decide) hrow (by have := h.big; omega) (by omega) hown hgrow
  have old : ∀ {cs : Array Value} {tt : TypeId} {b : Nat} {fr : Nat × Nat}, b ≠ s + 4 → tt ≠ 51 → U.heap[b]? = some (.cells cs tt fr) → (w2.setCell ⟨s + 4, 0, none⟩ v').heap[b]? = some (.cells cs tt fr) :=
    fun hne hte h0 => far_set' (blk_kept ((Below.heap_alloc _ _ _ (Array.getElem?_eq_some_iff.1 h0).1).trans h0) hte (hrow.alloc tmp) hgrow) hne
  refine ⟨hv1, old (by omega) (by decide) h.r, old (by omega) (by decide) h.src, old (by omega) (by decide) h.res, old (by omega) (by decide) h.fo, ⟨v', hv2, own_cast hr2 (by simp) (by simp)⟩, h.below.trans hb2, Nat.le_trans h.big hk2.size, ⟨hk2.size, fun b cs fr h0 => ?_⟩, hk2⟩
  by_cases e : b = s + 4
  · subst e
    have := (show U.heap[s + 4]? = _ from hv).symm.trans h0
    simp at this
  · exact old e (by decide) h0
theorem cov_mem (f t : Nat) : ∀ (n a b : Nat), b - a ≤ n → a ≤ b → ∀ p ∈ cov a b f t, a ≤ p.a ∧ p.a ≤ p.b ∧ p.b ≤ b ∧ p.i = isIn p.a p.b f t := by
  intro n
  induction n with
  | zero =>
    intro a b hn hab p hp
    rw [cov, if_pos (by omega)] at hp
    simp at hp
    subst hp
    exact ⟨by simp, hab, Nat.le_refl _, rfl⟩
  | succ n ih =>
    intro a b hn hab p hp
    by_cases h : isOut a b f t = true ∨ isIn a b f t = true ∨ b < a + 2
    · rw [cov, if_pos h] at hp
      simp at hp
      subst hp
      exact ⟨by simp, hab, Nat.le_refl _, rfl⟩
    · rw [cov, if_neg h] at hp
      have p' := hf_pos (b - a)
      have q := hf_lt (b - a) (by omega)
      rcases List.mem_append.1 hp with hp | hp
      · obtain ⟨h1, h2, h3, h4⟩ := ih a _ (by omega) (by omega) p hp
        exact ⟨by omega, h2, by omega, h4⟩
      · obtain ⟨h1, h2, h3, h4⟩ := ih _ b (by omega) (by omega) p hp
        exact ⟨by omega, h2, by omega, h4⟩
set_option maxRecDepth 100000 in
set_option maxHeartbeats 4000000 in
theorem prove_any (k B N f t : Nat) (K : World → Prop) (nd : Sp → Nd) (hK : ∀ w w', K w → Below w.heap.size w w' → K w') (hok : ∀ p ∈ cov 0 N f t, (nd p).ok = true) (hN : N ≤ 64) (ht : t ≤ N)
    (HN : ∀ p ∈ cov 0 N f t, ∀ W, K W → Calls Tryz.prog 76 #[paV p.a p.b, .func (.func k) #[] #[.pointer (some ⟨B, 0, none⟩)]] W fun e W' => e = .returned (ndV (nd p)) ∧ Below W.heap.size W W')
    (w : World) (h0 : K w) :
    Calls Tryz.prog 62 #[.int .i64 N, paV f t, .func (.func k) #[] #[.pointer (some ⟨B, 0, none⟩)]] w fun e w' => ∃ v, e = .returned (.tuple #[foV (finN nd (cov 0 N f t)), v]) ∧ w'.ownsRow w.heap.size 51 6 v (cov 0 N f t).length (((cov 0 N f t).map nd).flatMap Nd.cells) ∧ Below w.heap.size w w' := by
  refine (callsIn_wide (n := 5)).1 ?_
  have hfn : ∀ k, Fence.wide.fn k := fun _ => trivial
  have hdp : Fence.wide.depth.isSome = false := rfl
  have HC : ∀ w', Hid (Calls Tryz.prog 106 #[.int .i64 N, paV f t] w' _) := fun w' => hid (cover_any N f t w')
  unfold paV at HC ⊢
  refine callsIn_of_wp_marks Tryz.func62 rfl trivial ?_ rfl
  simp only [Tryz.ntmps62, List.size_toArray, List.length_cons, List.length_nil, Nat.reduceAdd, Nat.reduceSub, Array.replicate_succ, Array.replicate_zero, List.push_toArray, List.append_toArray, List.nil_append, List.cons_append]
  gi_wp2
  refine (callsIn_wide.2 (HC _).out).mono ?_
  rintro e w' ⟨rfl, hw'⟩
  gi_wp2
  obtain ⟨W0, hW0⟩ : ∃ W0, W0 = ((((((w.alloc (.cells #[.int .i64 f, .int .i64 t] 95)).alloc (.cells #[.func (.func k) #[] #[.pointer (some ⟨B, 0, none⟩)]] 88)).alloc (.cells #[.int .i64 0, .int .i64 0, .int .i64 0, .int .i64 0] 47)).alloc (.cells #[.int .i64 0, .int .i64 0, .int .i64 0, .int .i64 0] 47)).alloc (.cells #[.slice none 0 0] 72)).alloc (.cells #[.int .i64 N] 3)).alloc (.cells #[.int .i64 f, .int .i64 t] 95) := ⟨_, rfl⟩
  have hsz : W0.heap.size = w.heap.size + 7 := by rw [hW0]; simp
  have hI0 : PvI w w.heap.size k B f t nd [] W0 := by
    rw [hW0]
    refine ⟨((((((PaAt.at w _ rfl f t).alloc _).alloc _).alloc _).alloc _).alloc _).alloc _, ?_, ?_, ?_, ⟨_, ?_, World.ownsRow_nil _ _ _ _⟩, ?_, ?_⟩
    · exact (((((Boxed.new (w.alloc _) 88 _).alloc _).alloc _).alloc _).alloc _).alloc _ |> fun h => by simpa using h
    · exact ((((FoAt.at ((w.alloc _).alloc _) (w.heap.size + 2) (by simp) .zero).alloc _).alloc _).alloc _).alloc _
    · exact (((FoAt.at (((w.alloc _).alloc _).alloc _) (w.heap.size + 3) (by simp) .zero).alloc _).alloc _).alloc _
    · exact ((Boxed.new ((((w.alloc _).alloc _).alloc _).alloc _) 72 _).alloc _).alloc _ |> fun h => by simpa using h
    · exact ((((((((Below.refl _ w).alloc (Nat.le_refl _) _).alloc (by simp) _).alloc (by simp; omega) _).alloc (by simp; omega) _).alloc (by simp; omega) _).alloc (by simp; omega) _).alloc (by simp; omega) _)
    · simp
  have hcv : SeqStopsK Fence.wide (5 - 1) Tryz.prog 138 #[.pointer (some ⟨w.heap.size + 5, 0, none⟩), .pointer (some ⟨w.heap.size + 6, 0, none⟩)] (fun x : CvP N f t => #[paV x.1.a x.1.b]) (KeepsT 95)
      (fun ys => ys.map (·.1) = cov 0 N f t) (fun pre => pre.map (·.1) <+: cov 0 N f t) (cov 0 N f t).length W0 := by
    refine cover_stops (w.heap.size + 5) N f t _ W0 hN (by omega) (by omega) ?_ ?_
    · rw [hW0]
      have := ((Boxed.new (((((w.alloc (.cells #[.int .i64 f, .int .i64 t] 95)).alloc (.cells #[.func (.func k) #[] #[.pointer (some ⟨B, 0, none⟩)]] 88)).alloc (.cells #[.int .i64 0, .int .i64 0, .int .i64 0, .int .i64 0] 47)).alloc (.cells #[.int .i64 0, .int .i64 0, .int .i64 0, .int .i64 0] 47)).alloc (.cells #[.slice none 0 0] 72)) 3 (.int .i64 N)).alloc (.cells #[.int .i64 f, .int .i64 t] 95)).cell
      simpa using this
    · rw [hW0]; exact PaAt.at _ _ (by simp) f t
  unfold covV
  rw [← hW0]
  clear hW0 HC
  refine wpIn_rangeFunc_ownH (F := Fence.wide) (n := 5) rfl (by decide) (gf := 138) (lb := #[.pointer (some ⟨w.heap.size + 5, 0, none⟩), .pointer (some ⟨w.heap.size + 6, 0, none⟩)]) rfl trivial (enters_of Tryz.func138 (by kernel_rfl) rfl)
    hcv (fun h k => h.trans k) (fun W l o o' _ hl ho _ => keepsT_b W l o o' hl ho) (Below.refl _ _) (fun _ => rfl)
    (fun ys W => PvI w w.heap.size k B f t nd (ys.map (·.1)) W) (fun _ _ _ => False) (pvI_own w k B f t nd _ (by omega) _) (fun _ _ _ _ _ hs _ _ => hs) hI0
    (fun x a' W => ∃ Bx, w.heap.size + 6 < Bx ∧ PaAt W Bx x.1.a x.1.b ∧ a' = { tmps := #[.int .i64 N, .agg #[.int .i64 f, .int .i64 t], .func (.func k) #[] #[.pointer (some ⟨B, 0, none⟩)], undef, .pointer (some ⟨w.heap.size, 0, none⟩), .pointer (some ⟨w.heap.size + 1, 0, none⟩), .pointer (some ⟨w.heap.size + 1 + 1, 0, none⟩), .slice none 0 0, .pointer (some ⟨w.heap.size + 1 + 1 + 1, 0, none⟩), .pointer (some ⟨w.heap.size + 1 + 1 + 1 + 1, 0, none⟩), .pointer (some ⟨Bx, 0, none⟩), undef, .int .i64 N, .agg #[.int .i64 f, .int .i64 t], .func (.func 138) #[] #[.pointer (some ⟨w.heap.size + 1 + 1 + 1 + 1 + 1, 0, none⟩), .pointer (some ⟨w.heap.size + 1 + 1 + 1 + 1 + 1 + 1, 0, none⟩)], paV x.1.a x.1.b, undef, undef, undef, undef, undef, undef, undef, undef, undef, undef, undef, undef, undef, undef, undef, undef], defers := [] })
    (fun x a' _ X Y row hs hg hr => by obtain ⟨Bx, h1, h2, h3⟩ := hs; exact ⟨Bx, h1, cells_kept h2 hg hr, h3⟩)
    ?assign ?body ?done ?stop
  case assign =>
    rintro l pre x W Kc hi hKc
    unfold paV
    gi_wp2
    exact hKc _ _ ((KeepsOthers.alloc _ _).from _) ((KeepsT.refl _ _).alloc _) (hi.later hi.below.size ((Below.refl _ _).alloc (Nat.le_refl _) _)) ⟨W.heap.size, by have := hi.big; omega, PaAt.at W _ rfl _ _, rfl⟩
  case body =>
    rintro l pre ⟨p, hp⟩ a' W hl ⟨r, hr⟩ hi ⟨Bx, hBx, hpx, rfl⟩ hlt
    have hfl : ∀ k, (Fence.wide.inRound l).fn k := fun _ => trivial
    have hdl : (Fence.wide.inRound l).depth.isSome = false := rfl
    have HN1 : ∀ W', Hid (K W' → Calls Tryz.prog 76 #[paV p.a p.b, .func (.func k) #[] #[.pointer (some ⟨B, 0, none⟩)]] W' _) := fun W' => hid (HN p hp W')
    have hKW := hid (hK w W h0 hi.below)
    have cs := hi.src.cell
    have cp := hpx.cells
    have hLo : ∀ q ∈ pre.map (·.1), (nd q).ok = true := fun q hq => by
      obtain ⟨y, _, rfl⟩ := List.mem_map.1 hq
      exact hok _ y.2
    have hLl : (pre.map (·.1)).length < 64 + 1 := by
      have := (cov_len f t N 0 N (by omega)).2
      rw [List.length_map]; omega
    have HL : Hid ((pre ++ [⟨p, hp⟩] : List (CvP N f t)).map (·.1) = pre.map (·.1) ++ [p]) := hid (by simp)
    generalize pre.map (·.1) = L at hi hLo hLl HL
    have hfb := finN_bd hLo
    have hpo := (Nd.ok_iff _).1 (hok p hp)
    simp only [isNum_iff] at hpo
    have HT : ∀ w', Hid (Calls Tryz.prog 108 #[.agg #[.int .i64 (finN nd L).c, .int .i64 (finN nd L).s, .int .i64 (finN nd L).m, .int .i64 (finN nd L).x], .agg #[.int .i64 (nd p).c, .int .i64 (nd p).s, .int .i64 (nd p).m, .int .i64 (nd p).x]] w' fun e w2 => e = .returned (foV (tog (finN nd L) (nd p).fold)) ∧ Below w'.heap.size w' w2) := fun w' => hid (together_any _ _ _ _ _ _ _ _ w' ⟨hfb.1.1, by omega⟩ ⟨hfb.2.1, by omega⟩ ⟨hpo.1.1, by omega⟩ ⟨hpo.2.1.1, by omega⟩)
    have hpm := cov_mem f t N 0 N (by omega) (by omega) p hp
    have hpi : p.i = wiB p.a p.b f t := by rw [wiB_in]; exact hpm.2.2.2
    have HF : Hid (finN nd (L ++ [p]) = if p.i then tog (finN nd L) (nd p).fold else finN nd L) := hid (finN_snoc nd L p)
    have hpb : p.b ≤ 64 := Nat.le_trans hpm.2.2.1 hN
    have HW : ∀ w', Hid (Calls Tryz.prog 107 #[.agg #[.int .i64 p.a, .int .i64 p.b], .agg #[.int .i64 f, .int .i64 t]] w' fun e w2 => e = .returned (.bool p.i) ∧ Below w'.heap.size w' w2) := fun w' => hid (by rw [hpi]; exact within_any p.a p.b f t w' (by omega) (by omega))
    dsimp only at cp ⊢
    unfold paV ndV at HN1
    unfold paV
    obtain ⟨i0, hi0, hz0, hz1, hz2⟩ := info_parts info_node
    clear hLo hfb hpo hpi hcv hI0 HN hK hok hr hpb hpm
    gi_wp2
    refine (CallsIn.inRound l (callsIn_wide.2 ((HN1 _).out hKW.out))).mono ?_
    rintro e w1 ⟨rfl, hb1⟩
    have hi1 := hi.later hi.below.size hb1
    have hpx1 := hpx.below hb1
    have HKW1 := hid (KeepsT.of_below (t := 95) hb1)
    have HKO1 : Hid (KeepsOthers W w1) := hid ⟨hb1.size, fun k o hk _ => (hb1.block k (Array.getElem?_eq_some_iff.1 hk).1).trans hk⟩
    clear HN1 hKW cs cp hb1 hi hpx
    obtain ⟨U, hU⟩ : ∃ U, U = w1.alloc (.cells #[.int .i64 (nd p).c, .int .i64 (nd p).s, .int .i64 (nd p).m, .int .i64 (nd p).x, .int .u8 ((nd p).h.toNat : Int), .int .u8 ((nd p).g.toNat : Int)] 51) := ⟨_, rfl⟩
    have hiU : PvI w w.heap.size k B f t nd L U := by rw [hU]; exact hi1.later hi1.below.size ((Below.refl _ _).alloc (Nat.le_refl _) _)
    have h6U : Six U w1.heap.size (.int .i64 (nd p).c) (.int .i64 (nd p).s) (.int .i64 (nd p).m) (.int .i64 (nd p).x) (.int .u8 ((nd p).h.toNat : Int)) (.int .u8 ((nd p).g.toNat : Int)) := by rw [hU]; exact Six.at w1 _ rfl _ _ _ _ _ _
    obtain ⟨v, hv0, hrow0⟩ := hi1.row
    have hv : Boxed U (w.heap.size + 4) 72 v := by rw [hU]; exact hv0.alloc _
    have hrow : U.ownsRow w.heap.size 51 6 v L.length ((L.map nd).flatMap Nd.cells) := by rw [hU]; exact hrow0.alloc _
    have HVN : Hid (some w1.heap.size ≠ v.ownBlock) := hid fun e => by have := (hrow0.lt _ e.symm).2; omega
    have hvc := hv.cell
    have h6c := h6U.cells
    rw [hU] at hvc h6c
    have HRU := hid hrow
    have HNW := hid (node_new U (nd p) 51)
    have HSU : Hid (w.heap.size + 7 ≤ U.heap.size) := hid hiU.big
    have hUz : U.heap.size = w1.heap.size + 1 := by rw [hU]; simp
    rw [hUz] at HNW HSU
    rw [hU] at HRU HNW
    gi_wp2_with (gi_at_builtin; refine wpListIn_append_own _ rfl _ _ 72 rfl w.heap.size 51 i0 (.agg #[.int .i64 0, .int .i64 0, .int .i64 0, .int .i64 0, .int .u8 0, .int .u8 0]) 6 40 Tryz.underlying72 hi0 hz0 hz1 hz2 rfl (by decide) _ _ _ rfl (HRU.out.alloc _) ⟨w1.heap.size + 1, 0, none⟩ 1 1 (nd p).cells rfl rfl HNW.out (node_one _) (by unfold maxLen; omega) (by omega) (by have := HSU.out; simp; omega) ?_; intro v' w2 hown2 hgrow2 _; obtain ⟨g', cap', rfl⟩ := ownsRow_succ hown2; rw [← hU] at hgrow2; obtain ⟨hv1, hA⟩ := hiU.appended (p := p) hv hrow hown2 hgrow2; have hc1 := hv1.cell; have hf1 := hv1.frozen; have ca := hA.r.cells; have cq := ((hpx1.alloc _).keeps (by rw [← hU]; exact hA.keeps)).cells; have h6A := far_set' (o := 0) (v := .slice (some ⟨g', 0, none⟩) (L.length + 1) cap') ((hgrow2.block _ (by simp; omega) HVN.out).trans ((Below.heap_alloc _ _ _ (by omega)).trans h6U)) (show w1.heap.size ≠ w.heap.size + 4 by have := hv0.lt; omega); clear HRU HNW hvc h6c; clear hrow)
    obtain ⟨U3, hU3⟩ : ∃ U3, U3 = w2.setCell ⟨w.heap.size + 4, 0, none⟩ (.slice (some ⟨g', 0, none⟩) (L.length + 1) cap') := ⟨_, rfl⟩
    rw [← hU3] at hA h6A
    have HKU := hid (HKW1.out.trans ((KeepsT.of_below (t := 95) (show Below w1.heap.size w1 U by rw [hU]; exact (Below.refl _ _).alloc (Nat.le_refl _) _)).trans hA.keeps))
    have HOU := hid (HKO1.out.trans ((show KeepsOthers w1 U by rw [hU]; exact KeepsOthers.alloc _ _).trans hA.others))
    simp only [show w.heap.size + 1 + 1 + 1 + 1 = w.heap.size + 4 from rfl]
    rw [← hU3]
    clear hown2 hgrow2 hv1 hv hv0 hrow0 hiU hi1 hpx1 h6U hU hU3 hc1 hf1 ca cq HVN HSU hUz HKW1 HKO1
    refine (CallsIn.inRound l (callsIn_wide.2 (HW _).out)).mono ?_
    rintro e w3 ⟨rfl, hb3⟩
    have hA3 := hA.later hA.below.size hb3
    have h63 : Six w3 w1.heap.size _ _ _ _ _ _ := Six.below h6A hb3 (Array.getElem?_eq_some_iff.1 h6A).1
    have HK3 := hid (HKU.out.trans (KeepsT.of_below hb3))
    have HO3 : Hid (KeepsOthers W w3) := hid (HOU.out.trans ⟨hb3.size, fun k o hk _ => (hb3.block k (Array.getElem?_eq_some_iff.1 hk).1).trans hk⟩)
    clear hA h6A HKU HOU hb3 HW
    cases hpi : p.i with
    | false =>
      gi_wp2
      refine ⟨HO3.out.from _, HK3.out, ?_⟩
      show PvI w w.heap.size k B f t nd ((pre ++ [⟨p, hp⟩] : List (CvP N f t)).map (·.1)) _
      rw [HL.out]
      refine ⟨hA3.r, hA3.src, hA3.res, ?_, hA3.row, hA3.below, hA3.big⟩
      rw [HF.out, hpi, if_neg (by simp)]
      exact hA3.fo
    | true =>
      have cf := hA3.fo.cells
      have c6 := h63.cells
      simp only [show w.heap.size + 3 = w.heap.size + 1 + 1 + 1 from rfl] at cf
      gi_wp2
      refine (CallsIn.inRound l (callsIn_wide.2 (HT _).out)).mono ?_
      rintro e w4 ⟨rfl, hb4⟩
      have hA4 := hA3.later hA3.below.size hb4
      have HK4 := hid (HK3.out.trans (KeepsT.of_below hb4))
      have HO4 : Hid (KeepsOthers W w4) := hid (HO3.out.trans ⟨hb4.size, fun k o hk _ => (hb4.block k (Array.getElem?_eq_some_iff.1 hk).1).trans hk⟩)
      have cf4 := hA4.fo.cells
      simp only [show w.heap.size + 3 = w.heap.size + 1 + 1 + 1 from rfl] at cf4
      have HP4 := hid (hA4.put (tog (finN nd L) (nd p).fold) (by rw [HF.out, hpi, if_pos rfl]))
      have HKF : Hid (KeepsT 95 W ((((w4.setCell ⟨w.heap.size + 3, 0, none⟩ (.int .i64 (tog (finN nd L) (nd p).fold).c)).setCell ⟨w.heap.size + 3, 1, none⟩ (.int .i64 (tog (finN nd L) (nd p).fold).s)).setCell ⟨w.heap.size + 3, 2, none⟩ (.int .i64 (tog (finN nd L) (nd p).fold).m)).setCell ⟨w.heap.size + 3, 3, none⟩ (.int .i64 (tog (finN nd L) (nd p).fold).x))) := hid (HK4.out.trans ⟨by simp, fun b cs fr h0 => by
        have hne : b ≠ w.heap.size + 3 := fun e => by
          subst e
          have := (show w4.heap[w.heap.size + 3]? = _ from hA4.fo).symm.trans h0
          simp at this
        exact far_set' (far_set' (far_set' (far_set' h0 hne) hne) hne) hne⟩)
      clear hA3 h63 cf c6 HT hb4 HK3 HO3 HF
      unfold foV
      generalize tog (finN nd L) (nd p).fold = F at HP4 HKF
      gi_wp2
      refine ⟨(HO4.out.trans ((((KeepsOthers.setCell _ _ _).trans (KeepsOthers.setCell _ _ _)).trans (KeepsOthers.setCell _ _ _)).trans (KeepsOthers.setCell _ _ _))).from _, HKF.out, ?_⟩
      show PvI w w.heap.size k B f t nd ((pre ++ [⟨p, hp⟩] : List (CvP N f t)).map (·.1)) _
      rw [HL.out]
      exact HP4.out
  case done =>
    rintro D ys W hD hys hi hKD
    rw [hys] at hi
    obtain ⟨v, hv, hrow⟩ := hi.row
    have HR := hid hrow
    obtain ⟨ao, cap, rfl⟩ := own_shape hrow
    have hvc := hv.cell
    have cr := hi.res.cells
    have cf := hi.fo.cells
    simp only [show w.heap.size + 4 = w.heap.size + 1 + 1 + 1 + 1 from rfl] at hvc
    simp only [show w.heap.size + 3 = w.heap.size + 1 + 1 + 1 from rfl] at cf
    simp only [show w.heap.size + 2 = w.heap.size + 1 + 1 from rfl] at cr
    obtain ⟨F, hF⟩ : ∃ F, F = finN nd (cov 0 N f t) := ⟨_, rfl⟩
    have HF := hid hF
    rw [← hF] at cf
    clear hF
    have HB := hid hi.below
    have H4 := hid hi.res
    have hD' := hid hD
    have HKD := hid hKD
    clear hrow hv hcv hI0 HN hK hok hys hD hKD hi
    simp only [Fo.zero] at cr
    have hmx : Tryz.prog.follows .mixedOrders = true := by kernel_rfl
    gi_wp2
    gi_region
    all_goals gi_wp2
    all_goals
      have hdk : ((((W.setCell ⟨w.heap.size + 1 + 1, 0, none⟩ (.int .i64 F.c)).setCell ⟨w.heap.size + 1 + 1, 1, none⟩ (.int .i64 F.s)).setCell ⟨w.heap.size + 1 + 1, 2, none⟩ (.int .i64 F.m)).setCell ⟨w.heap.size + 1 + 1, 3, none⟩ (.int .i64 F.x)).drew.heap[D]? = some (.deferred (some [])) := by
        have hne : D ≠ w.heap.size + 1 + 1 := by have := hD'.out; omega
        exact far_set' (far_set' (far_set' (far_set' HKD.out hne) hne) hne) hne
      refine ⟨by simp, .inl ⟨_, _, rfl, run_takeDeferred hdk, ?_⟩⟩
      have hne : w.heap.size + 1 + 1 ≠ D := by have := hD'.out; omega
      have hfo : FoAt (((((W.setCell ⟨w.heap.size + 1 + 1, 0, none⟩ (.int .i64 F.c)).setCell ⟨w.heap.size + 1 + 1, 1, none⟩ (.int .i64 F.s)).setCell ⟨w.heap.size + 1 + 1, 2, none⟩ (.int .i64 F.m)).setCell ⟨w.heap.size + 1 + 1, 3, none⟩ (.int .i64 F.x)).drew.putObj D (.deferred none)) (w.heap.size + 1 + 1) F := (World.putObj_heap_other hne).trans (H4.out.set F)
      have cF := hfo.cells
      refine ⟨.tuple #[foV F, .slice ao (cov 0 N f t).length cap], ?_, _, by rw [HF.out], ?_, ?_⟩
      · simp [results, Tryz.results62, go_sem, cF, foV]
      · refine ownsRow_putObj (own_keep HR.out (fun b hb => ?_)) _ hdk rfl
        have hbn : b ≠ w.heap.size + 1 + 1 := fun e => blk_row H4.out (by decide) HR.out (by rw [e] at hb; exact (mem_ob.1 hb).symm)
        exact far_set (far_set (far_set (far_set rfl hbn) hbn) hbn) hbn
      · refine Below.trans ?_ (belowK_b (w := w) (Nat.le_refl _) _ D _ _ (by have := hD'.out; omega) hdk rfl rfl)
        exact ((((HB.out.setCell (by show w.heap.size ≤ w.heap.size + 1 + 1; omega) _).setCell (by show w.heap.size ≤ w.heap.size + 1 + 1; omega) _).setCell (by show w.heap.size ≤ w.heap.size + 1 + 1; omega) _).setCell (by show w.heap.size ≤ w.heap.size + 1 + 1; omega) _).drew
  case stop =>
    rintro D c pre W _ _ h _
    exact h.elim
end Go.Proofs.YtogmdaopfnmobaaGreat

