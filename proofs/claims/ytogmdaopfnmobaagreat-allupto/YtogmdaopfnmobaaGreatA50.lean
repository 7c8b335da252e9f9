/- Numbers that are handed in (notarylaw): lentInts. -/
import Derived.Laws.CopyRow
import Derived.Test.YtogmdaopfnmobaaGreatA22
import Derived.Test.YtogmdaopfnmobaaGreatA13
namespace Go.Proofs.YtogmdaopfnmobaaGreat
open Go.RowKit
theorem info_intA : (Tryz.prog.info? 3).map (fun i => (i.zero, i.size, i.bytes)) = some (some (.int .i64 0), 1, 8) := by kernel_rfl
theorem setI_mid (l : List Int) (x z : Int) (a b : Nat) : ((l ++ List.replicate a x ++ List.replicate (b + 1) z).map (Value.int .i64)).set (l.length + a) (.int .i64 x) = (l ++ List.replicate (a + 1) x ++ List.replicate b z).map (.int .i64) := by
  rw [← List.map_set, List.set_append_right _ _ (by simp), List.length_append, List.length_replicate, Nat.sub_self, List.replicate_succ, List.set_cons_zero, List.replicate_succ', List.append_assoc, List.append_assoc, List.append_assoc]
  rfl
def lentIPost (ao : Option Addr) (l : List Int) (w : World) (e : Ending) (w' : World) : Prop :=
  (ao = none ∧ e = .returned (.slice none 0 0) ∧ w' = w) ∨
  (ao ≠ none ∧ ∃ g, e = .returned (.slice (some ⟨g, 0, none⟩) l.length (l.length + 8)) ∧ w.heap.size ≤ g ∧ Row w' g 3 ((l ++ List.replicate 8 77).map (.int .i64)) ∧ Below w.heap.size w w')
set_option maxHeartbeats 2000000 in
set_option maxRecDepth 100000 in
theorem lentInts_any (ao : Option Addr) (cap : Nat) (l : List Int) (w : World) (hl : Cells1 w w.heap.size (.slice ao l.length cap) (l.map (.int .i64))) (hlen : l.length ≤ 1048576) :
    Calls Tryz.prog 104 #[.slice ao l.length cap] w (lentIPost ao l w) := by
  have q25 : ∀ (w : World) (a : Option Addr) (n c n' c' : Nat), (binOp .eql 25 (.slice a n c) (.slice none n' c')).run Tryz.prog w = .ok (.bool a.isNone) w := fun w a n c n' c' => Lib.run_eql_slice_nil w _ _ a n c n' c' Tryz.underlying25
  cases ao with
  | none =>
    go_enter Tryz.func104, Tryz.ntmps104
    go_wp2
    go_ret
    exact .inl ⟨rfl, rfl, rfl⟩
  | some a =>
    obtain ⟨i0, hi, hz0, hz1, hz2⟩ := info_parts info_intA
    have hsrc : ∀ j v, (l.map (Value.int .i64))[j]? = some v → w.cell? (a.add j) = some v := by
      intro j v hj
      obtain ⟨ao', cap', hv, hc⟩ := hl.ex
      simp only [Value.slice.injEq] at hv
      obtain ⟨rfl, _, rfl⟩ := hv
      have hjl := (List.getElem?_eq_some_iff.1 hj).1
      obtain ⟨b, off, ha, hB, hcs⟩ := hc j hjl
      simp only [Option.some.injEq] at ha
      subst ha
      rw [WideShapes.add_plain, hcs, ← hj, List.getElem?_eq_getElem hjl]
    have hmk : ∀ u : World, (Instr.makeSlice 25 (.int .i64 ((l.length : Int) + 8)) (.int .i64 ((l.length : Int) + 8))).run Tryz.prog u =
        .ok (.slice (some ⟨u.heap.size, 0, none⟩) (l.length + 8) (l.length + 8)) (u.alloc (.cells (List.replicate (l.length + 8) (.int .i64 0)).toArray 3)) := fun u => by
      have h := run_make (P := Tryz.prog) u 25 3 i0 (.int .i64 0) Tryz.underlying25 hi hz0 .i64 .i64 ((l.length : Int) + 8) ((l.length : Int) + 8) (by omega) (Int.le_refl _) (by rw [hz2]; omega) (by omega)
      have e : ((l.length : Int) + 8).toNat = l.length + 8 := by omega
      rw [e] at h
      simpa [hz1, Value.cells, made_one] using h
    have hrow0 : (w.alloc (.cells (List.replicate (l.length + 8) (.int .i64 0)).toArray 3)).heap[w.heap.size]? = some (.cells (List.replicate (l.length + 8) (.int .i64 0)).toArray 3 (0, 0)) := heap_alloc_new w _
    have hcp : ∀ ty, (Builtin.copy_ #[25, 25] ty #[.slice (some ⟨w.heap.size, 0, none⟩) (l.length + 8) (l.length + 8), .slice (some a) l.length cap]).run Tryz.prog (w.alloc (.cells (List.replicate (l.length + 8) (.int .i64 0)).toArray 3)) =
        .ok (goInt l.length) ((w.alloc (.cells (List.replicate (l.length + 8) (.int .i64 0)).toArray 3)).setRow w.heap.size ((l ++ List.replicate 8 0).map (Value.int .i64)).toArray) := fun ty => by
      have := run_copy_row (P := Tryz.prog) (w.alloc (.cells (List.replicate (l.length + 8) (.int .i64 0)).toArray 3)) 25 25 ty 3 w.heap.size 0 (l.length + 8) (l.length + 8) a l.length cap _ 3 (l.map (.int .i64)) Tryz.underlying25 (by rw [hi]; simp [hz1]) hrow0 (by simp) (fun j v hj => by
        have h1 := hsrc j v hj
        exact (Below.cell ((Below.refl w.heap.size w).alloc (Nat.le_refl _) _) (World.block_lt_of_cell? w _ h1)).trans h1) (by simp) (fun v hv => by obtain ⟨x, _, rfl⟩ := List.mem_map.1 hv; rfl)
      rw [this]
      congr 2
      · simp
      · congr 1
        simp only [List.take_zero, List.nil_append, Nat.zero_add, List.length_map, List.drop_replicate, List.map_append, List.map_replicate]
        rw [show l.length + 8 - l.length = 8 by omega]
    obtain ⟨W2, hW2⟩ : ∃ W2, W2 = (w.alloc (.cells (List.replicate (l.length + 8) (.int .i64 0)).toArray 3)).setRow w.heap.size ((l ++ List.replicate 8 0).map (Value.int .i64)).toArray := ⟨_, rfl⟩
    have hR2 : Hid (Row W2 w.heap.size 3 ((l ++ List.replicate 8 0).map (.int .i64)) ∧ Below w.heap.size w W2) := hid (by
      rw [hW2]
      exact ⟨setRow_heap _ w.heap.size _ _ _ _ hrow0, ((Below.refl _ _).alloc (Nat.le_refl _) _).trans ⟨rfl, rfl, rfl, by simp [World.setRow], fun k hk => setRow_other _ _ _ _ (by omega)⟩⟩)
    rw [← hW2] at hcp
    simp only [List.toArray_replicate] at hcp
    clear hW2 hrow0 hsrc hl
    go_enter Tryz.func104, Tryz.ntmps104
    go_wp2
    clear hcp hmk
    go_loopw [5] (fun i wr => ∃ a b : Nat, a + b = 8 ∧ i = .int .i64 ((l.length + a : Nat) : Int) ∧ Hid (Row wr w.heap.size 3 ((l ++ List.replicate a 77 ++ List.replicate b 0).map (.int .i64)) ∧ Below w.heap.size w wr)) (fun i _ => l.length + 8 - (intOf i).toNat)
    case atStart => exact ⟨0, 8, rfl, rfl, hid ⟨by simpa using hR2.out.1, hR2.out.2⟩⟩
    case round =>
      obtain ⟨a', b', hab, rfl, HR⟩ := hrel
      clear hR2
      by_cases hlt : a' < 8
      · obtain ⟨b', rfl⟩ : ∃ c, b' = c + 1 := ⟨b' - 1, by omega⟩
        have c1 := HR.out.1.cell (l.length + a') (by simp)
        have f1 := HR.out.1.frozen (l.length + a')
        go_wp2
        go_roundw
        case rel =>
          refine ⟨a' + 1, b', by omega, by go_num, hid ⟨?_, ?_⟩⟩
          · rw [← setI_mid]; exact HR.out.1.set _ _
          · exact HR.out.2.setCell (Nat.le_refl _) _
        case measure => simp [intOf]; omega
      · have ha8 : a' = 8 := by omega
        have hb0 : b' = 0 := by omega
        subst ha8; subst hb0
        go_wp2
        go_ret
        exact .inr ⟨by simp, w.heap.size, rfl, Nat.le_refl _, by simpa using HR.out.1, HR.out.2⟩
end Go.Proofs.YtogmdaopfnmobaaGreat

/- Numbers that are handed in (notarylaw): wholeInts. -/
namespace Go.Proofs.YtogmdaopfnmobaaGreat
open Go.RowKit
structure Ib where
  m : Int
  v : Value
def Ib.cells (b : Ib) : List Value := [.int .i64 b.m, b.v]
theorem info_ib : (Tryz.prog.info? 122).map (fun i => (i.zero, i.size, i.bytes)) = some (some (.agg #[.int .i64 0, .slice none 0 0]), 2, 32) := by kernel_rfl
def MarkI (w : World) (base : Nat) (v : Value) (m : Int) : Prop := ∃ n, n ≤ 4000000 ∧ w.ownsRow base 3 1 v n (List.replicate n (.int .i64 m))
structure Lnt (w : World) (base : Nat) (lv : Value) (Bs : List Ib) : Prop where
  row : w.ownsRow base 122 2 lv Bs.length (Bs.flatMap Ib.cells)
  each : ∀ b ∈ Bs, MarkI w base b.v b.m
def lnFp (lv : Value) (Bs : List Ib) : List Nat := ob lv ++ Bs.flatMap fun b => ob b.v
theorem Lnt.fp {w : World} {base : Nat} {lv : Value} {Bs : List Ib} (h : Lnt w base lv Bs) : ∀ k ∈ lnFp lv Bs, base ≤ k ∧ k < w.heap.size := fun k hk => by
  rcases List.mem_append.1 hk with hk | hk
  · exact own_in h.row k hk
  · obtain ⟨b, hb, hk⟩ := List.mem_flatMap.1 hk
    obtain ⟨n, _, ho⟩ := h.each b hb
    exact own_in ho k hk
theorem Lnt.frame {w w' : World} {base : Nat} {lv : Value} {Bs : List Ib} (h : Lnt w base lv Bs) (hf : ∀ k ∈ lnFp lv Bs, w'.heap[k]? = w.heap[k]?) : Lnt w' base lv Bs :=
  ⟨own_keep h.row fun k hk => hf k (List.mem_append_left _ hk), fun b hb => by
    obtain ⟨n, hn, ho⟩ := h.each b hb
    exact ⟨n, hn, own_keep ho fun k hk => hf k (List.mem_append_right _ (List.mem_flatMap.2 ⟨b, hb, hk⟩))⟩⟩
theorem Lnt.below {w w' : World} {base : Nat} {lv : Value} {Bs : List Ib} (h : Lnt w base lv Bs) (hb : Below w.heap.size w w') : Lnt w' base lv Bs := h.frame fun k hk => hb.block k (h.fp k hk).2
theorem Lnt.nil (w : World) (base : Nat) : Lnt w base (.slice none 0 0) [] := ⟨World.ownsRow_nil _ _ _ _, by simp⟩
def WdAt (w : World) (A : Nat) (sv : Value) (m : Int) (wv ev bv lv : Value) : Prop := w.heap[A]? = some (.cells #[sv, .int .i64 m, wv, ev, bv, lv] 70 (0, 0))
theorem WdAt.cells {w : World} {A : Nat} {sv : Value} {m : Int} {wv ev bv lv : Value} (h : WdAt w A sv m wv ev bv lv) : (w.cell? ⟨A, 1, none⟩ = some (.int .i64 m) ∧ w.cell? ⟨A, 5, none⟩ = some lv) ∧ ∀ o, w.frozen? ⟨A, o, none⟩ = false := by
  unfold WdAt at h
  refine ⟨⟨?_, ?_⟩, fun o => by simp [World.frozen?, h]⟩ <;> rw [cell_of_row w A _ _ _ _ h] <;> rfl
theorem WdAt.lt {w : World} {A : Nat} {sv : Value} {m : Int} {wv ev bv lv : Value} (h : WdAt w A sv m wv ev bv lv) : A < w.heap.size := (Array.getElem?_eq_some_iff.1 h).1
theorem WdAt.mark {w : World} {A : Nat} {sv : Value} {m : Int} {wv ev bv lv : Value} (h : WdAt w A sv m wv ev bv lv) (x : Int) : WdAt (w.setCell ⟨A, 1, none⟩ (.int .i64 x)) A sv x wv ev bv lv := heap_set (k := 1) h _
theorem WdAt.lent {w : World} {A : Nat} {sv : Value} {m : Int} {wv ev bv lv : Value} (h : WdAt w A sv m wv ev bv lv) (v : Value) : WdAt (w.setCell ⟨A, 5, none⟩ v) A sv m wv ev bv v := heap_set (k := 5) h _
theorem WdAt.far {w : World} {A g o : Nat} {sv : Value} {m : Int} {wv ev bv lv : Value} {x : Value} (h : WdAt w A sv m wv ev bv lv) (hne : g ≠ A) : WdAt (w.setCell ⟨g, o, none⟩ x) A sv m wv ev bv lv := (Below.heap_setCell _ _ _ _ (fun c => hne c.symm)).trans h
theorem markI_next (l : List Int) (x : Int) (k : Nat) (h : k < l.length) : ((List.replicate k x ++ l.drop k).map (Value.int .i64)).set k (.int .i64 x) = (List.replicate (k + 1) x ++ l.drop (k + 1)).map (.int .i64) := by
  rw [← List.map_set, List.set_append_right _ _ (by simp), List.length_replicate, Nat.sub_self, List.drop_eq_getElem_cons h, List.set_cons_zero, List.replicate_succ', List.append_assoc]
  rfl
theorem markI_at (l : List Int) (x : Int) (k : Nat) (h : k < l.length) : ((List.replicate k x ++ l.drop k).map (Value.int .i64))[k]'(by simp; omega) = .int .i64 l[k] := by
  rw [List.getElem_map, List.getElem_append_right (by simp)]
  simp
set_option maxHeartbeats 400000 in
theorem wholeI_nil (A : Nat) (v : Value) (w : World) : Calls Tryz.prog 105 #[.pointer (some ⟨A, 0, none⟩), v, .slice none 0 0] w fun e w' => e = .returned (.bool true) ∧ w' = w := by
  have q25 : ∀ (w : World) (a : Option Addr) (n c n' c' : Nat), (binOp .eql 25 (.slice a n c) (.slice none n' c')).run Tryz.prog w = .ok (.bool a.isNone) w := fun w a n c n' c' => Lib.run_eql_slice_nil w _ _ a n c n' c' Tryz.underlying25
  go_enter Tryz.func105, Tryz.ntmps105
  go_wp2
  go_ret
  exact ⟨rfl, rfl⟩
def wholeIPost (w : World) (A base : Nat) (sv : Value) (m : Nat) (wv ev bv lv : Value) (Bs : List Ib) (g n : Nat) (e : Ending) (w' : World) : Prop :=
  e = .returned (.bool true) ∧ Kept w w' (g :: A :: ob lv) ∧ ∃ lv', WdAt w' A sv ((m + 1 : Nat) : Int) wv ev bv lv' ∧ Lnt w' base lv' (Bs ++ [⟨-((m + 1 : Nat) : Int), .slice (some ⟨g, 0, none⟩) (n + 8) (n + 8)⟩]) ∧ ∀ k ∈ ob lv', k ∈ ob lv ∨ w.heap.size ≤ k
theorem wholeI_fin {w wr X w3 : World} {A base g n M m : Nat} {sv wv ev bv lv lv3 : Value} {Bs : List Ib} (hK : Kept w wr (g :: A :: ob lv)) (hW : WdAt wr A sv M wv ev bv lv) (hL : Lnt wr base lv Bs) (hR : Row wr g 3 ((List.replicate (n + 8) (-(M : Int))).map (.int .i64))) (hX : Below wr.heap.size wr X)
    (hown : w3.ownsRow base 122 2 lv3 (Bs.length + 1) (Bs.flatMap Ib.cells ++ [.int .i64 (-(M : Int)), .slice (some ⟨g, 0, none⟩) (n + 8) (n + 8)])) (hgr : Grew X lv w3 lv3) (hAb : A < base) (hgb : base ≤ g) (hgf : g ∉ lnFp lv Bs) (hn : n ≤ 1048576) (hM : M = m + 1) :
    wholeIPost w A base sv m wv ev bv lv Bs g n (.returned (.bool true)) (w3.setCell ⟨A, 5, none⟩ lv3) := by
  subst hM
  have hgA : g ≠ A := by omega
  have hAl := hW.lt
  have hgl := hR.lt
  have hneA : some A ≠ lv.ownBlock := fun c => by have := own_in hL.row A (mem_ob.2 c.symm); omega
  have old : ∀ k, k < wr.heap.size → k ∉ ob lv → w3.heap[k]? = wr.heap[k]? := fun k hk hn => (hgr.grown.block k (by have := hX.size; omega) (fun c => hn (mem_ob.2 c.symm))).trans (hX.block k hk)
  have hA3 : w3.heap[A]? = wr.heap[A]? := old A hAl (fun c => hneA (mem_ob.1 c).symm)
  have hg3 : w3.heap[g]? = wr.heap[g]? := old g hgl (fun c => hgf (List.mem_append_left _ c))
  have hW3 : WdAt w3 A sv ((m + 1 : Nat) : Int) wv ev bv lv := hA3.trans hW
  have far : ∀ k, base ≤ k → (w3.setCell ⟨A, 5, none⟩ lv3).heap[k]? = w3.heap[k]? := fun k hk => Below.heap_setCell _ _ _ _ (by intro c; simp at c; omega)
  refine ⟨rfl, ?_, lv3, hW3.lent _, ⟨?_, ?_⟩, ?_⟩
  · exact ((hK.trans (Kept.of_below hX []) (by simp)).trans (Kept.of_grown (fp := ob lv) hgr.grown fun k hk => mem_ob.2 hk) (fun x hx => .inl (by simp [hx]))).setCell (.inl (by simp)) _
  · refine own_cast (own_keep hown fun k hk => far k (own_in hown k hk).1) (by simp) (by simp [Ib.cells])
  · intro b hb
    rcases List.mem_append.1 hb with hb | hb
    · obtain ⟨j, hj, ho⟩ := hL.each b hb
      refine ⟨j, hj, own_keep ho fun k hk => ?_⟩
      have h1 := own_in ho k hk
      rw [far k h1.1]
      exact old k h1.2 (own_apart ho hL.row (by decide) k hk)
    · simp only [List.mem_singleton] at hb
      subst hb
      refine ⟨n + 8, by omega, ⟨by simp, .inr ⟨g, n + 8, ((List.replicate (n + 8) (-((m + 1 : Nat) : Int))).map (Value.int .i64)).toArray, rfl, hgb, ((far g hgb).trans hg3).trans hR, Nat.le_refl _, by unfold maxLen; omega, ?_, ?_⟩⟩⟩
      · simp
      · simp
  · intro k hk
    rcases hgr.blk with e | ⟨j, e, hj⟩
    · left; rw [mem_ob, ← e]; exact mem_ob.1 hk
    · right; rw [mem_ob, e] at hk; injection hk with hk; have := hX.size; have := hK.size; omega
set_option maxHeartbeats 4000000 in
set_option maxRecDepth 100000 in
theorem wholeI_any (w : World) (A base : Nat) (sv : Value) (m : Nat) (wv ev bv lv : Value) (Bs : List Ib) (g : Nat) (a : Addr) (cap : Nat) (l : List Int)
    (hA : WdAt w A sv m wv ev bv lv) (hAb : A < base) (hbs : base ≤ w.heap.size) (hL : Lnt w base lv Bs) (hg : Row w g 3 ((l ++ List.replicate 8 77).map (.int .i64))) (hgb : base ≤ g) (hgf : g ∉ lnFp lv Bs)
    (hl : ∀ w', Kept w w' (g :: A :: ob lv) → Cells1 w' w'.heap.size (.slice (some a) l.length cap) (l.map (.int .i64))) (hlen : l.length ≤ 1048576) (hm : m ≤ 20000000) (hbl : Bs.length ≤ 20000000) :
    Calls Tryz.prog 105 #[.pointer (some ⟨A, 0, none⟩), .slice (some ⟨g, 0, none⟩) l.length (l.length + 8), .slice (some a) l.length cap] w (wholeIPost w A base sv m wv ev bv lv Bs g l.length) := by
  have q25 : ∀ (w : World) (a : Option Addr) (n c n' c' : Nat), (binOp .eql 25 (.slice a n c) (.slice none n' c')).run Tryz.prog w = .ok (.bool a.isNone) w := fun w a n c n' c' => Lib.run_eql_slice_nil w _ _ a n c n' c' Tryz.underlying25
  have hgA : g ≠ A := by omega
  obtain ⟨⟨c1, c5⟩, hfz⟩ := hA.cells
  obtain ⟨M, hM⟩ : ∃ M, M = m + 1 := ⟨_, rfl⟩
  have HMi : Hid ((m : Int) + 1 = (M : Int)) := hid (by omega)
  have HMM := hid hM
  have hwm : wrap64 (-(M : Int)) = -(M : Int) := by unfold wrap64; omega
  have hwm2 : IntKind.i64.wrap (-(M : Int)) = -(M : Int) := by simp [IntKind.wrap, IntKind.signed, IntKind.bits]; omega
  obtain ⟨LL, hLL⟩ : ∃ LL, LL = l ++ List.replicate 8 (77 : Int) := ⟨_, rfl⟩
  have hLn : LL.length = l.length + 8 := by rw [hLL]; simp
  have HLL := hid hLL
  have HLn := hid hLn
  rw [← hLL] at hg
  have H0 : Hid (WdAt (w.setCell ⟨A, 1, none⟩ (.int .i64 M)) A sv M wv ev bv lv ∧ Kept w (w.setCell ⟨A, 1, none⟩ (.int .i64 M)) (g :: A :: ob lv) ∧ Row (w.setCell ⟨A, 1, none⟩ (.int .i64 M)) g 3 (LL.map (.int .i64)) ∧ Lnt (w.setCell ⟨A, 1, none⟩ (.int .i64 M)) base lv Bs) := hid
    ⟨hA.mark _, (Kept.refl _ _).setCell (.inl (by simp)) _, (Below.heap_setCell _ _ _ _ hgA).trans hg, hL.frame fun k hk => Below.heap_setCell _ _ _ _ (by have := (hL.fp k hk).1; intro c; simp at c; omega)⟩
  have HL := hid hL
  have HC := hid hl
  clear hLL hLn hA hg hL hl hM
  go_enter Tryz.func105, Tryz.ntmps105
  go_wp2
  rw [HMi.out]
  obtain ⟨W0, hW0⟩ : ∃ W, W = w.setCell ⟨A, 1, none⟩ (.int .i64 M) := ⟨_, rfl⟩
  rw [← hW0] at H0 ⊢
  clear hW0 c1 c5 hfz
  go_loopw [9, 10] (fun ok i wr => ∃ k : Nat, k ≤ l.length + 8 ∧ i = .int .i64 k ∧ ok = .bool true ∧ Hid (WdAt wr A sv M wv ev bv lv ∧ Kept w wr (g :: A :: ob lv) ∧ Row wr g 3 ((List.replicate k (-(M : Int)) ++ LL.drop k).map (.int .i64)) ∧ Lnt wr base lv Bs))
    (fun _ i _ => l.length + 8 - (intOf i).toNat)
  case atStart => exact ⟨0, Nat.zero_le _, rfl, rfl, hid ⟨H0.out.1, H0.out.2.1, by simpa using H0.out.2.2.1, H0.out.2.2.2⟩⟩
  case round =>
    obtain ⟨k, hk, rfl, rfl, HR⟩ := hrel
    clear H0
    obtain ⟨⟨c1, c5⟩, hfz⟩ := HR.out.1.cells
    have hAl := HR.out.1.lt
    have hgl := HR.out.2.2.1.lt
    by_cases hlt : k < l.length + 8
    · have hkL : k < LL.length := by rw [HLn.out]; exact hlt
      have f0 := HR.out.2.2.1.cell k (by simp; omega)
      rw [markI_at LL _ k hkL] at f0
      have ff := HR.out.2.2.1.frozen k
      have HNx : Hid (∀ x, x = -(M : Int) → Row (wr.setCell ⟨g, k, none⟩ (.int .i64 x)) g 3 ((List.replicate (k + 1) (-(M : Int)) ++ LL.drop (k + 1)).map (.int .i64)) ∧ WdAt (wr.setCell ⟨g, k, none⟩ (.int .i64 x)) A sv M wv ev bv lv ∧ Kept w (wr.setCell ⟨g, k, none⟩ (.int .i64 x)) (g :: A :: ob lv) ∧ Lnt (wr.setCell ⟨g, k, none⟩ (.int .i64 x)) base lv Bs) := hid fun x hx => by
        subst hx
        refine ⟨by rw [← markI_next LL _ k hkL]; exact HR.out.2.2.1.set k _, HR.out.1.far hgA, HR.out.2.1.setCell (.inl (by simp)) _, HR.out.2.2.2.frame fun j hj => Below.heap_setCell _ _ _ _ (fun c => hgf (by cases c; exact hj))⟩
      by_cases hkl : k < l.length
      · have hx : LL[k] = l[k] := by simp only [HLL.out]; rw [List.getElem_append_left hkl]
        rw [hx] at f0
        obtain ⟨ao', cap', hv, hc⟩ := (HC.out wr HR.out.2.1).ex
        simp only [Value.slice.injEq] at hv
        obtain ⟨rfl, -, rfl⟩ := hv
        obtain ⟨b, off, hab, hbB, hcs⟩ := hc k (by simpa using hkl)
        have hcx : wr.cell? ⟨b, off + k, none⟩ = some (.int .i64 l[k]) := by simpa using hcs
        injection hab with hab
        subst hab
        generalize l[k] = x at f0 hcx
        clear hc hcs hx c5 HR
        go_wp2
        go_roundw
        case rel =>
          obtain ⟨r1, r2, r3, r4⟩ := HNx.out _ rfl
          exact ⟨k + 1, by omega, by go_num, rfl, hid ⟨r2, r3, r1, r4⟩⟩
        case measure => simp [intOf]; omega
      · have hx : LL[k] = 77 := by simp only [HLL.out]; rw [List.getElem_append_right (by omega), List.getElem_replicate]
        rw [hx] at f0
        clear hx c5 HR
        go_wp2
        go_roundw
        case rel =>
          obtain ⟨r1, r2, r3, r4⟩ := HNx.out _ rfl
          exact ⟨k + 1, by omega, by go_num, rfl, hid ⟨r2, r3, r1, r4⟩⟩
        case measure => simp [intOf]; omega
    · obtain rfl : k = l.length + 8 := by omega
      have hLd : LL.drop (l.length + 8) = [] := List.drop_of_length_le (by rw [HLn.out]; omega)
      have hrow := HR.out.2.2.1
      rw [hLd, List.append_nil] at hrow
      have HRow := hid hrow
      clear hLd hrow
      obtain ⟨ao, cp, rfl⟩ := own_shape HR.out.2.2.2.row
      obtain ⟨i0, hi, hz0, hz1, hz2⟩ := info_parts info_ib
      have hbw : base ≤ wr.heap.size := Nat.le_trans hbs HR.out.2.1.size
      have hne5 : some A ≠ (Value.slice ao Bs.length cp).ownBlock := fun c => by have := own_in HR.out.2.2.2.row A (mem_ob.2 c.symm); omega
      have HNW := hid (block_new wr #[.int .i64 (-(M : Int)), .slice (some ⟨g, 0, none⟩) (l.length + 8) (l.length + 8)] 122)
      go_wp2
      go_region_law
        (first | (refine step_append_grew _ (by rfl) _ _ 68 rfl base 122 i0 (.agg #[.int .i64 0, .slice none 0 0]) 2 32 Tryz.underlying68 hi hz0 hz1 hz2 rfl (by decide) _ _ _ rfl (by first | exact HR.out.2.2.2.row.alloc _ | exact HR.out.2.2.2.row.drew.alloc _ | exact (HR.out.2.2.2.row.alloc _).drew) ⟨wr.heap.size, 0, none⟩ 1 1 [.int .i64 (-(M : Int)), .slice (some ⟨g, 0, none⟩) (l.length + 8) (l.length + 8)] rfl rfl (by exact HNW.out) (by simp [Value.oneCell']) (by unfold maxLen; omega) (by omega) (by simp; omega) ?_; intro lv3 w3 hown3 hgr3 _; obtain ⟨ao3, cap3, rfl⟩ := own_shape hown3; have hA3 : w3.heap[A]? = wr.heap[A]? := (hgr3.grown.block A (by simp; omega) hne5).trans (by first | exact Below.heap_alloc _ _ _ hAl | rfl); have e5 : w3.cell? ⟨A, 5, none⟩ = some (.slice ao Bs.length cp) := ((World.cell?_of_block (a := ⟨A, 5, none⟩) hA3).trans c5); have ef : w3.frozen? ⟨A, 5, none⟩ = false := ((World.frozen?_of_block (a := ⟨A, 5, none⟩) hA3).trans (hfz 5))))
      all_goals
        have HF := hid (wholeI_fin (m := m) HR.out.2.1 HR.out.1 HR.out.2.2.2 HRow.out (by first | exact (Below.refl _ _).alloc (Nat.le_refl _) _ | exact ((Below.refl _ _).alloc (Nat.le_refl _) _).drew | exact ((Below.refl _ _).drew).alloc (Nat.le_refl _) _) hown3 hgr3 hAb hgb hgf hlen HMM.out)
        clear hown3 hgr3 hA3 e5 ef HR HRow HNW
        go_wp2
        go_ret
        exact HF.out
end Go.Proofs.YtogmdaopfnmobaaGreat

/- What looks of the law's world does, with numbers that were lent. -/
namespace Go.Proofs.YtogmdaopfnmobaaGreat
open Go.RowKit
theorem ib_len (b : Ib) : b.cells.length = 2 := rfl
theorem ibrow_get (L : List Ib) : ∀ (i j : Nat) (hi : i < L.length) (_ : j < 2), (L.flatMap Ib.cells)[i * 2 + j]? = (L[i]).cells[j]? := by
  induction L with
  | nil => intro i j hi; simp at hi
  | cons d r ih =>
    intro i j hi hj
    cases i with
    | zero =>
      simp only [List.flatMap_cons, Nat.zero_mul, Nat.zero_add, List.getElem_cons_zero]
      rw [List.getElem?_append_left (by rw [ib_len]; omega)]
    | succ i =>
      simp only [List.flatMap_cons, List.getElem_cons_succ]
      rw [List.getElem?_append_right (by rw [ib_len]; omega), ib_len, show (i + 1) * 2 + j - 2 = i * 2 + j from by omega]
      exact ih i j (by simpa using hi) hj
theorem ib_cells {w : World} {base : Nat} {lv : Value} {L : List Ib} (h : w.ownsRow base 122 2 lv L.length (L.flatMap Ib.cells)) {k : Nat} {b : Ib} (hk : k < L.length) (hb : b = L[k]) : ∃ g cap, lv = .slice (some ⟨g, 0, none⟩) L.length cap ∧ g < w.heap.size ∧
    w.cell? ⟨g, k * 2, none⟩ = some (.int .i64 b.m) ∧ w.cell? ⟨g, k * 2 + 1, none⟩ = some b.v := by
  subst hb
  rcases h.2 with ⟨rfl, h0⟩ | ⟨g, cap, cur, rfl, _, hg, _⟩
  · omega
  · have key : ∀ j, j < 2 → w.cell? ⟨g, k * 2 + j, none⟩ = (L[k]).cells[j]? := fun j hj => by
      have hu : ∃ u, (L[k]).cells[j]? = some u := ⟨_, List.getElem?_eq_getElem (by rw [ib_len]; exact hj)⟩
      obtain ⟨u, hu⟩ := hu
      have := h.cells (g := g) rfl (k * 2 + j) u (by rw [ibrow_get L k j hk hj]; exact hu)
      rw [WideShapes.add_plain, Nat.zero_add] at this
      rw [this, hu]
    exact ⟨g, cap, rfl, (Array.getElem?_eq_some_iff.1 hg).1, key 0 (by omega), key 1 (by omega)⟩
theorem mark_cell {w : World} {base n : Nat} {v : Value} {m : Int} (h : w.ownsRow base 3 1 v n (List.replicate n (.int .i64 m))) (i : Nat) (hi : i < n) : ∃ g cap, v = .slice (some ⟨g, 0, none⟩) n cap ∧ g < w.heap.size ∧ w.cell? ⟨g, i, none⟩ = some (.int .i64 m) := by
  rcases h.2 with ⟨rfl, h0⟩ | ⟨g, cap, cur, rfl, _, hg, _⟩
  · omega
  · have := h.cellAt i (by omega)
    rw [List.getElem?_replicate, if_pos hi] at this
    exact ⟨g, cap, rfl, (Array.getElem?_eq_some_iff.1 hg).1, this⟩
set_option maxHeartbeats 4000000 in
set_option maxRecDepth 100000 in
theorem looksL_any (w : World) (A base : Nat) (sv lv : Value) (m : Nat) (wv ev bv : Value) (Ws Es : List Value) (Ls : List (List Nd)) (Bs : List Bk) (LB : List Ib) (hI : Inv w A base sv lv m wv ev bv Ws Es Ls Bs) (hL : Lnt w base lv LB) (hbl : Bs.length ≤ 20000000) (hll : LB.length ≤ 20000000) :
    Calls Tryz.prog 23 #[.pointer (some ⟨A, 0, none⟩)] w fun e w' => e = .returned (.bool true) ∧ Below w.heap.size w w' := by
  obtain ⟨ao, cap, rfl⟩ := own_shape hI.hB
  have hAl := (hI.fp A (by simp [fpOf])).2
  have HL := hid hL
  obtain ⟨aL, cL, rfl⟩ := own_shape hL.row
  clear hL
  go_enter Tryz.func23, Tryz.ntmps23
  go_wp2
  go_loopw [3] (fun i wr => ∃ k : Nat, k ≤ Bs.length ∧ i = .int .i64 k ∧ Below w.heap.size w wr) (fun i _ => Bs.length - (intOf i).toNat)
  case atStart => exact ⟨0, Nat.zero_le _, rfl, Below.refl _ _⟩
  case round =>
    obtain ⟨k, hk, rfl, hb⟩ := hrel
    have hIr := hI.below hb
    have hs := hb.size
    obtain ⟨⟨_, _, _, _, c4, c5⟩, _⟩ := hIr.cells
    by_cases hlt : k < Bs.length
    · obtain ⟨b, hbk⟩ : ∃ b, b = Bs[k] := ⟨_, rfl⟩
      obtain ⟨m0, m1, m2, m3, _⟩ := hI.bk b (by rw [hbk]; exact List.getElem_mem hlt)
      obtain ⟨g, cap', hv, hgl, d0, d1, d2, d3, d4, d5, d6, d7, d8, d9⟩ := book_cells hIr.hB hlt hbk
      simp only [Value.slice.injEq, true_and] at hv
      obtain ⟨rfl, rfl⟩ := hv
      obtain ⟨a0, n0, p0, e0⟩ := marked_shape m0
      obtain ⟨a1, n1, p1, e1⟩ := marked_shape m1
      obtain ⟨a2, n2, p2, e2⟩ := marked_shape m2
      obtain ⟨a3, n3, p3, e3⟩ := marked_shape m3
      rw [e0] at d6 m0
      rw [e1] at d7 m1
      rw [e2] at d8 m2
      rw [e3] at d9 m3
      clear hbk hI hIr c5 e0 e1 e2 e3
      go_wp2_with fail
      refine (all_marked m0 (hb.alloc hs _)).mono ?_
      rintro e w1 ⟨rfl, hb1⟩
      have q1 := oldc hb1
      have r1 : wr.heap.size < w1.heap.size := by have := hb1.size; simp at this; omega
      have B1 : Below w.heap.size w w1 := (hb.alloc hs _).trans (hb1.mono (by simp; omega))
      go_wp2_with fail
      refine (all_marked m1 B1).mono ?_
      rintro e w2 ⟨rfl, hb2⟩
      have q2 := oldc hb2
      have r2 : wr.heap.size < w2.heap.size := by have := hb2.size; omega
      have B2 : Below w.heap.size w w2 := B1.trans (hb2.mono B1.size)
      go_wp2_with fail
      refine (all_marked m2 B2).mono ?_
      rintro e w3 ⟨rfl, hb3⟩
      have q3 := oldc hb3
      have r3 : wr.heap.size < w3.heap.size := by have := hb3.size; omega
      have B3 : Below w.heap.size w w3 := B2.trans (hb3.mono B2.size)
      go_wp2_with fail
      refine (all_marked m3 B3).mono ?_
      rintro e w4 ⟨rfl, hb4⟩
      have B4 : Below w.heap.size w w4 := B3.trans (hb4.mono B3.size)
      clear q1 q2 q3 hb1 hb2 hb3 hb4 B1 B2 B3 d0 d1 d2 d3 d4 d5 d6 d7 d8 d9 m0 m1 m2 m3
      go_wp2
      go_roundw
      case rel => exact ⟨k + 1, by omega, by go_num, B4⟩
      case measure => simp [intOf]; omega
    · have HI := hid hI
      have HB := hid hb
      clear hI hIr
      go_wp2
      clear hb c4 c5
      go_loopw [9] (fun i wq => ∃ j : Nat, j ≤ LB.length ∧ i = .int .i64 j ∧ Hid (Below w.heap.size w wq)) (fun i _ => LB.length - (intOf i).toNat)
      case atStart => exact ⟨0, Nat.zero_le _, rfl, HB⟩
      case round =>
        obtain ⟨j, hj, rfl, HQ⟩ := hrel
        obtain ⟨⟨_, _, _, _, _, c5⟩, _⟩ := (HI.out.below HQ.out).cells
        have hq := HQ.out.size
        by_cases hjl : j < LB.length
        · obtain ⟨b, hbk⟩ : ∃ b, b = LB[j] := ⟨_, rfl⟩
          have hLq := HL.out.below HQ.out
          obtain ⟨n, hn, hown⟩ := hLq.each b (by rw [hbk]; exact List.getElem_mem hjl)
          obtain ⟨g, cap', hv, hgl, d0, d1⟩ := ib_cells hLq.row hjl hbk
          simp only [Value.slice.injEq, true_and] at hv
          obtain ⟨rfl, rfl⟩ := hv
          obtain ⟨ab, cb, eb⟩ := own_shape hown
          rw [eb] at d1 hown
          have HOw := hid hown
          clear hbk hLq eb hown
          go_wp2
          obtain ⟨W1, hW1⟩ : ∃ W, W = wr.alloc (.cells #[.int .i64 b.m, .slice ab n cb] 122) := ⟨_, rfl⟩
          have HW1 : Hid (W1.heap[wr.heap.size]? = some (.cells #[.int .i64 b.m, .slice ab n cb] 122 (0, 0)) ∧ Below w.heap.size w W1 ∧ W1.ownsRow base 3 1 (.slice ab n cb) n (List.replicate n (.int .i64 b.m))) := hid (hW1 ▸ ⟨heap_alloc_new wr _, HQ.out.alloc hq _, HOw.out.alloc _⟩)
          rw [← hW1]
          clear hW1 d0 d1 c5 HOw HQ hgl
          generalize wr.heap.size = gb at HW1 hq ⊢
          generalize b.m = mk at HW1
          go_loopw [11] (fun i wzz => ∃ z : Nat, z ≤ n ∧ i = .int .i64 z ∧ Hid (Below W1.heap.size W1 wzz)) (fun i _ => n - (intOf i).toNat)
          case atStart => exact ⟨0, Nat.zero_le _, rfl, hid (Below.refl _ _)⟩
          case round =>
            obtain ⟨z, hz, rfl, HZ⟩ := hrel
            have hgz := (HZ.out.block gb (Array.getElem?_eq_some_iff.1 HW1.out.1).1).trans HW1.out.1
            have e0 : wr.cell? ⟨gb, 0, none⟩ = some (.int .i64 mk) := by rw [cell_of_row wr _ _ _ _ _ hgz]; rfl
            have e1 : wr.cell? ⟨gb, 1, none⟩ = some (.slice ab n cb) := by rw [cell_of_row wr _ _ _ _ _ hgz]; rfl
            have hoz := ownsRow_below HW1.out.2.2 HZ.out
            clear hgz
            by_cases hzn : z < n
            · obtain ⟨g', cap'', hv', hgl', f0⟩ := mark_cell hoz z hzn
              simp only [Value.slice.injEq, true_and] at hv'
              obtain ⟨rfl, rfl⟩ := hv'
              clear hoz
              go_wp2
              go_quiet (fail)
              go_wp2
              go_roundw
              case rel => exact ⟨z + 1, by omega, by go_num, hid (HZ.out.trans ((below_drewN wr nq).mono HZ.out.size))⟩
              case measure => simp [intOf]; omega
            · have HF := hid (HW1.out.2.1.trans (HZ.out.mono HW1.out.2.1.size))
              clear hoz HW1 HZ
              go_wp2
              go_roundw
              case rel => exact ⟨j + 1, by omega, by go_num, HF⟩
              case measure => simp [intOf]; omega
        · clear HL HI
          go_wp2
          go_ret
          exact ⟨rfl, HQ.out⟩
end Go.Proofs.YtogmdaopfnmobaaGreat

