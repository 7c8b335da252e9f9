/- What far, num, sameNodes, all and lentNodes of the law's own package do. -/
import Derived.Test.YtlggbcceoejkkaaGreatBlk
namespace Go.Proofs.YtlggbcceoejkkaaGreat
open Go.RowKit

attribute [local go_sem ↓] run_eql_node run_neq_node

/-- The caller's mark. -/
def Mk (n : Int) : Nd := ⟨-1, n, 0, 0, 0, 0⟩
def Z0 : Nd := ⟨0, 0, 0, 0, 0, 0⟩

set_option maxHeartbeats 400000 in
theorem far_any (n : Int) (w : World) :
    Calls Tryz.prog 19 #[.int .i64 n] w fun e w' => e = .returned (.agg #[.int .i64 (-1), .int .i64 n, .int .i64 0, .int .i64 0, .int .u8 0, .int .u8 0]) ∧ Below w.heap.size w w' := by
  go_enter Tryz.func19, Tryz.ntmps19
  go_wp2
  refine bodyPost_ret (v := .agg #[.int .i64 (-1), .int .i64 n, .int .i64 0, .int .i64 0, .int .u8 0, .int .u8 0]) (by simp [results, Tryz.results19, go_sem]) rfl ⟨rfl, ?_⟩
  repeat (refine Below.setCell ?_ (by simp) _)
  exact (Below.refl _ _).alloc (Nat.le_refl _) _

set_option maxHeartbeats 400000 in
theorem numE_any (n : Int) (w : World) : Calls Tryz.prog 27 #[.int .i64 n] w fun e w' => e = .returned (.int .i64 n) ∧ w' = w := by
  go_enter Tryz.func27, Tryz.ntmps27
  go_wp2
  go_ret
  exact ⟨rfl, rfl⟩

set_option maxHeartbeats 1000000 in
set_option maxRecDepth 100000 in
theorem sameNodes_any (v v2 : Value) (l : List Nd) (w : World) (B : Nat) (h1 : Nodes w B v l) (h2 : Nodes w B v2 l) :
    Calls Tryz.prog 18 #[v, v2] w fun e w' => e = .returned (.bool true) ∧ ∃ n, w' = w.drewN n := by
  obtain ⟨ao, cap, rfl, hmax, hc1⟩ := h1.ex
  obtain ⟨ao2, cap2, rfl, _, hc2⟩ := h2.ex
  clear h1 h2
  go_enter Tryz.func18, Tryz.ntmps18
  go_wp2
  go_loopw [5] (fun i wr => ∃ k n : Nat, k ≤ l.length ∧ i = .int .i64 k ∧ wr = w.drewN n) (fun i _ => l.length - (intOf i).toNat)
  case atStart => exact ⟨0, 0, Nat.zero_le _, rfl, rfl⟩
  case round =>
    obtain ⟨k, n, hk, rfl, rfl⟩ := hrel
    by_cases hlt : k < l.length
    · obtain ⟨b, off, rfl, hbB, hcs⟩ := hc1 k hlt
      obtain ⟨b', off', rfl, hbB', hcs'⟩ := hc2 k hlt
      obtain ⟨d, hd⟩ : ∃ d, d = l[k] := ⟨_, rfl⟩
      rw [← hd] at hcs hcs'
      obtain ⟨k0, k1, k2, k3, k4, k5⟩ := six (wr := w) (Below.refl B w) hbB hcs
      obtain ⟨j0, j1, j2, j3, j4, j5⟩ := six (wr := w) (Below.refl B w) hbB' hcs'
      have heq := (eqNd d d).2 rfl
      clear hd hcs hcs' hc1 hc2
      go_wp2
      go_quiet (fail)
      go_wp2
      go_roundw
      case rel => exact ⟨k + 1, n + nq, by omega, by go_num, rfl⟩
      case measure => simp [intOf]; omega
    · go_wp2
      go_ret
      exact ⟨rfl, n, rfl⟩

set_option maxHeartbeats 1000000 in
set_option maxRecDepth 100000 in
theorem all_any (v : Value) (m : Int) (l : List Nd) (w : World) (h1 : Nodes w w.heap.size v l) (ha : ∀ d ∈ l, d = Mk m) :
    Calls Tryz.prog 20 #[v, .agg #[.int .i64 (-1), .int .i64 m, .int .i64 0, .int .i64 0, .int .u8 0, .int .u8 0]] w fun e w' => e = .returned (.bool true) ∧ Below w.heap.size w w' := by
  obtain ⟨ao, cap, rfl, hmax, hc1⟩ := h1.ex
  clear h1
  go_enter Tryz.func20, Tryz.ntmps20
  go_wp2
  go_loopw [5] (fun i wr => ∃ k : Nat, k ≤ l.length ∧ i = .int .i64 k ∧ Below (w.heap.size + 1) (w.alloc (.cells #[.int .i64 (-1), .int .i64 m, .int .i64 0, .int .i64 0, .int .u8 0, .int .u8 0] 46)) wr) (fun i _ => l.length - (intOf i).toNat)
  case atStart => exact ⟨0, Nat.zero_le _, rfl, Below.refl _ _⟩
  case round =>
    obtain ⟨k, hk, rfl, hb⟩ := hrel
    have hfin := below_new hb
    by_cases hlt : k < l.length
    · obtain ⟨b, off, rfl, hbB, hcs⟩ := hc1 k hlt
      have hd := ha _ (List.getElem_mem hlt)
      rw [hd] at hcs
      obtain ⟨k0, k1, k2, k3, k4, k5⟩ := six hfin hbB hcs
      obtain ⟨⟨j0, j1, j2, j3, j4, j5⟩, _⟩ := six_new hb
      have heq : eqN (-1) m 0 0 0 0 (-1) m 0 0 0 0 = true := by simp [eqN]
      clear hd hcs hc1
      simp only [Mk] at k0 k1 k2 k3 k4 k5
      go_wp2
      go_quiet (fail)
      go_wp2
      go_roundw
      case rel => exact ⟨k + 1, by omega, by go_num, hb.trans ((below_drewN wr nq).mono (by have := hb.size; simp at this; omega))⟩
      case measure => simp [intOf]; omega
    · go_wp2
      go_ret
      exact ⟨rfl, hfin⟩

/-! ### lentNodes -/

theorem made_row (N : Nat) : (madeCells #[.int .i64 0, .int .i64 0, .int .i64 0, .int .i64 0, .int .u8 0, .int .u8 0] (N * 6)).toList = (List.replicate N Z0).flatMap Nd.cells := by
  apply List.ext_getElem?
  intro i
  by_cases hi : i < N * 6
  · have e : i = i / 6 * 6 + i % 6 := by omega
    have h6 : i % 6 < 6 := Nat.mod_lt _ (by omega)
    have hL : i / 6 < (List.replicate N Z0).length := by simp; omega
    have hr := row_get (List.replicate N Z0) (i / 6) (i % 6) hL h6
    rw [← e] at hr
    rw [hr]
    simp only [List.getElem_replicate]
    have hl : (madeCells #[.int .i64 0, .int .i64 0, .int .i64 0, .int .i64 0, .int .u8 0, .int .u8 0] (N * 6)).toList[i]? = some (#[(.int .i64 0 : Value), .int .i64 0, .int .i64 0, .int .i64 0, .int .u8 0, .int .u8 0][i % 6]!) := by
      simp [madeCells, hi]
    rw [hl]
    match i % 6, h6 with
    | 0, _ => rfl
    | 1, _ => rfl
    | 2, _ => rfl
    | 3, _ => rfl
    | 4, _ => rfl
    | 5, _ => rfl
  · rw [List.getElem?_eq_none (by simp [size_madeCells]; omega), List.getElem?_eq_none (by rw [row_len]; simp; omega)]

/-- 'copy' of a list of nodes over the head of a block of nodes. -/
theorem run_copy_nodes (w : World) (ty : TypeId) (g dLen dCap n sCap : Nat) (ao : Option Addr) (l L : List Nd) (hL : Blk w g (l ++ L) []) (hn : l.length = n) (hd : n ≤ dLen) (K : List Nd) (hK : K.length = n)
    (hs : ∃ a, ao = some a ∧ ∀ j v, (K.flatMap Nd.cells)[j]? = some v → w.cell? (a.add j) = some v) :
    (Builtin.copy_ #[39, 39] ty #[.slice (some ⟨g, 0, none⟩) dLen dCap, .slice ao n sCap]).run Tryz.prog w = .ok (goInt n) (w.setRow g ((K ++ L).flatMap Nd.cells).toArray) := by
  obtain ⟨a, rfl, hsrc⟩ := hs
  obtain ⟨i0, hi, hz0, hz1, hz2⟩ := info_parts info_node
  have hm : Nat.min n dLen = n := Nat.min_eq_left hd
  have hone : ∀ v ∈ K.flatMap Nd.cells, v.oneCell' = true := by
    intro v hv
    obtain ⟨d, _, hd'⟩ := List.mem_flatMap.1 hv
    exact node_one d v hd'
  have hf := run_firstCells_some (P := Tryz.prog) w 6 n a n sCap (K.flatMap Nd.cells) (by rw [row_len, hK]) hsrc
  have hst := run_storeCells_at Tryz.prog g 0 46 (K.flatMap Nd.cells) 0 _ w hL (by simp only [List.size_toArray, List.append_nil, row_len, List.length_append]; omega) hone
  have hrow : List.take 0 ((l ++ L).flatMap Nd.cells ++ []) ++ K.flatMap Nd.cells ++ List.drop (0 + (K.flatMap Nd.cells).length) ((l ++ L).flatMap Nd.cells ++ []) = (K ++ L).flatMap Nd.cells := by
    simp only [List.append_nil, List.take_zero, List.nil_append, Nat.zero_add, List.flatMap_append]
    rw [List.drop_left' (by rw [row_len, row_len, hn, hK])]
  have hst3 : Sem.run Tryz.prog (storeCells ⟨g, 0, none⟩ (K.flatMap Nd.cells)) w = Result.ok () (w.setRow g ((K ++ L).flatMap Nd.cells).toArray) := by
    rw [← hrow]; exact hst
  simp only [List.flatMap_append] at hst3
  simp [Builtin.copy_, run_underlying Tryz.underlying39, Builtin.lenOf, sizeOf, typeInfo, hi, hz1, hm, hf, hst3]

theorem set_mid (l : List Nd) (x z : Nd) (a b : Nat) : (l ++ List.replicate a x ++ List.replicate (b + 1) z).set (l.length + a) x = l ++ List.replicate (a + 1) x ++ List.replicate b z := by
  rw [List.set_append_right _ _ (by simp), List.length_append, List.length_replicate, Nat.sub_self, List.replicate_succ, List.set_cons_zero, List.replicate_succ', List.append_assoc, List.append_assoc, List.append_assoc]
  rfl

/-- What lentNodes leaves. -/
def lentPost (ao : Option Addr) (l : List Nd) (w : World) (e : Ending) (w' : World) : Prop :=
  (ao = none ∧ e = .returned (.slice none 0 0) ∧ w' = w) ∨
  (ao ≠ none ∧ ∃ g, e = .returned (.slice (some ⟨g, 0, none⟩) l.length (l.length + 8)) ∧ w.heap.size ≤ g ∧ Blk w' g (l ++ List.replicate 8 (Mk 0)) [] ∧ Below w.heap.size w w')

set_option maxHeartbeats 1000000 in
set_option maxRecDepth 100000 in
theorem lent_any (ao : Option Addr) (n cap : Nat) (l : List Nd) (w : World) (hl : Nodes w w.heap.size (.slice ao n cap) l) (hlen : l.length ≤ 2000000) :
    Calls Tryz.prog 23 #[.slice ao n cap] w (lentPost ao l w) := by
  have q25 : ∀ (w : World) (a : Option Addr) (n c n' c' : Nat), (binOp .eql 39 (.slice a n c) (.slice none n' c')).run Tryz.prog w = .ok (.bool a.isNone) w := fun w a n c n' c' => Lib.run_eql_slice_nil w _ _ a n c n' c' Tryz.underlying39
  obtain ⟨ao', cap', hv, hmax, hcells⟩ := hl.ex
  simp only [Value.slice.injEq] at hv
  obtain ⟨rfl, rfl, rfl⟩ := hv
  cases ao with
  | none =>
    go_enter Tryz.func23, Tryz.ntmps23
    go_wp2
    go_ret
    exact .inl ⟨rfl, rfl, rfl⟩
  | some a =>
    obtain ⟨i0, hi, hz0, hz1, hz2⟩ := info_parts info_node
    have hsrc : ∀ j v, (l.flatMap Nd.cells)[j]? = some v → w.cell? (a.add j) = some v := by
      intro j v hj
      have hjl : j < l.length * 6 := by have := (List.getElem?_eq_some_iff.1 hj).1; rw [row_len] at this; exact this
      obtain ⟨b, off, ha, hB, hcs⟩ := hcells (j / 6) (by omega)
      simp only [Option.some.injEq] at ha
      subst ha
      have hc := hcs (j % 6) (Nat.mod_lt _ (by omega))
      rw [WideShapes.add_plain]
      have e : j / 6 * 6 + j % 6 = j := by omega
      rw [Nat.add_assoc, e] at hc
      rw [hc, ← hj]
      have hr := row_get l (j / 6) (j % 6) (by omega) (Nat.mod_lt _ (by omega))
      rw [e] at hr
      rw [hr, List.getElem?_eq_getElem]
    have hc8 : ((l.length + 8 : Nat) : Int) = (l.length : Int) + 8 := by omega
    have HS : Hid _ := hsrc
    clear hl hcells hsrc
    go_enter Tryz.func23, Tryz.ntmps23
    go_wp2_with (at_make; refine wpList_make_full _ rfl _ _ 39 rfl w.heap.size 46 i0 (.agg #[.int .i64 0, .int .i64 0, .int .i64 0, .int .i64 0, .int .u8 0, .int .u8 0]) 6 Tryz.underlying39 hi hz0 hz1 .i64 .i64 _ _ (l.length + 8) rfl rfl (by omega) (by omega) (by rw [hz2]; omega) (by unfold maxLen; omega) (Nat.le_refl _) ?_)
    intro w1 hown1 hgr1
    rw [made_row] at hown1
    obtain ⟨rest, hbk, hrl, _, _, hbs⟩ := Blk.of hown1 (by simp)
    have hrest : rest = [] := List.eq_nil_of_length_eq_zero (by omega)
    subst hrest
    have hsp : List.replicate (l.length + 8) Z0 = List.replicate l.length Z0 ++ List.replicate 8 Z0 := List.replicate_append_replicate.symm
    rw [hsp] at hbk
    have hcp := fun ty => run_copy_nodes w1 ty w.heap.size (l.length + 8) (l.length + 8) l.length cap (some a) (List.replicate l.length Z0) (List.replicate 8 Z0) hbk (by simp) (by omega) l rfl ⟨a, rfl, fun j v hj => hgr1.cell (HS.out j v hj) (by simp)⟩
    have hbk2 : Blk (w1.setRow w.heap.size ((l ++ List.replicate 8 Z0).flatMap Nd.cells).toArray) w.heap.size (l ++ List.replicate 8 Z0) [] := by
      unfold Blk
      rw [List.append_nil]
      exact setRow_heap w1 w.heap.size _ _ _ _ hbk
    have hB2 : Below w.heap.size w (w1.setRow w.heap.size ((l ++ List.replicate 8 Z0).flatMap Nd.cells).toArray) :=
      ((Below.refl _ _).grown hgr1 (Nat.le_refl _) (fun k hk => by simp at hk)).trans ⟨rfl, rfl, rfl, by simp [World.setRow], fun k hk => setRow_other _ _ _ _ (by omega)⟩
    obtain ⟨W2, hW2⟩ : ∃ W2, W2 = w1.setRow w.heap.size ((l ++ List.replicate 8 Z0).flatMap Nd.cells).toArray := ⟨_, rfl⟩
    rw [← hW2] at hcp hbk2 hB2
    clear hW2 hbk hown1 hgr1 hsp HS hrl
    go_wp2
    go_loopw [5] (fun i wr => ∃ a b : Nat, a + b = 8 ∧ i = .int .i64 ((l.length + a : Nat) : Int) ∧ Blk wr w.heap.size (l ++ List.replicate a (Mk 0) ++ List.replicate b Z0) [] ∧ Below w.heap.size w wr) (fun i _ => l.length + 8 - (intOf i).toNat)
    case atStart => exact ⟨0, 8, rfl, rfl, by simpa using hbk2, hB2⟩
    case round =>
      obtain ⟨a', b', hab, rfl, hbk, hB⟩ := hrel
      clear hcp hbk2 hB2
      by_cases hlt : a' < 8
      · obtain ⟨b', rfl⟩ : ∃ c, b' = c + 1 := ⟨b' - 1, by omega⟩
        have hB' := hB.size
        go_wp2_with fail
        refine (far_any _ _).mono ?_
        rintro e w3 ⟨rfl, hb3⟩
        have hB3 : Below w.heap.size w w3 := hB.trans (hb3.mono hB.size)
        have hbk3 := hbk.below hb3 hbk.lt
        have hidx : l.length + a' < (l ++ List.replicate a' (Mk 0) ++ List.replicate (b' + 1) Z0).length := by simp
        obtain ⟨k0, k1, k2, k3, k4, k5⟩ := hbk3.six hidx rfl
        have hlv := hbk3.live
        have hst := hbk3.store hidx (Mk 0)
        rw [set_mid] at hst
        clear k0 k1 k2 k3 k4 k5 hlv
        obtain ⟨k0, k1, k2, k3, k4, k5⟩ := hbk3.six hidx rfl
        have hlv := hbk3.live
        go_wp2
        go_roundw
        case rel =>
          refine ⟨a' + 1, b', by omega, by go_num, hst, ?_⟩
          repeat (refine Below.setCell ?_ (by simp) _)
          exact hB3
        case measure => simp [intOf]; omega
      · have ha8 : a' = 8 := by omega
        have hb0 : b' = 0 := by omega
        subst ha8; subst hb0
        go_wp2
        go_ret
        exact .inr ⟨by simp, w.heap.size, rfl, Nat.le_refl _, by simpa using hbk, hB⟩

end Go.Proofs.YtlggbcceoejkkaaGreat
