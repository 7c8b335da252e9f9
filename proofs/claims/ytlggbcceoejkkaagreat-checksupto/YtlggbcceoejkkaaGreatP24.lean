/- What the document's own answer does (notaryref): value, sum, Fold. -/
import Derived.Test.YtlggbcceoejkkaaGreatP16
import Derived.Test.YtlggbcceoejkkaaGreatP10
namespace Go.Proofs.YtlggbcceoejkkaaGreat
open Go.RowKit

set_option maxHeartbeats 400000 in
theorem refValue_any (v : Int) (w : World) (b : Bool) (hb : isVal v = b) : Calls Tryz.prog 75 #[.int .i64 v] w fun e w' => e = .returned (.bool b) ∧ w' = w := by
  by_cases h : 0 ≤ v
  · by_cases h2 : v ≤ 1000000
    · have : b = true := by rw [← hb]; simp [isVal, h, h2]
      subst this
      clear hb
      go_enter Tryz.func75, Tryz.ntmps75
      go_wp2
      go_ret
      exact ⟨rfl, rfl⟩
    · have : b = false := by rw [← hb]; simp [isVal, h2]
      subst this
      clear hb
      go_enter Tryz.func75, Tryz.ntmps75
      go_wp2
      go_ret
      exact ⟨rfl, rfl⟩
  · have : b = false := by rw [← hb]; simp [isVal, h]
    subst this
    clear hb
    go_enter Tryz.func75, Tryz.ntmps75
    go_wp2
    go_ret
    exact ⟨rfl, rfl⟩

set_option maxHeartbeats 400000 in
theorem refSum_any (vv : Value) (vs : List Int) (w : World) (hc : Cells1 w w.heap.size vv (vs.map (.int .i64))) (hv : ∀ v ∈ vs, 0 ≤ v ∧ v ≤ 1000000) (hn : vs.length ≤ 64) :
    Calls Tryz.prog 76 #[vv] w fun e w' => e = .returned (.int .i64 vs.sum) ∧ w' = w := by
  have HC : Hid _ := hc
  obtain ⟨ao, cap, rfl, _⟩ := hc.ex
  simp only [List.length_map] at HC ⊢
  go_enter Tryz.func76, Tryz.ntmps76
  go_wp2
  go_loop [3, 4] (fun n i => ∃ k : Nat, k ≤ vs.length ∧ i = .int .i64 k ∧ n = .int .i64 (vs.take k).sum) (fun _ i => vs.length - (intOf i).toNat)
  case atStart => exact ⟨0, Nat.zero_le _, rfl, rfl⟩
  case round =>
    obtain ⟨k, hk, rfl, rfl⟩ := hrel
    by_cases hlt : k < vs.length
    · obtain ⟨b, off, rfl, hb, hcell⟩ := HC.out.at k (.int .i64 vs[k]) (by simp [hlt])
      have HS : Hid _ := take_succ_sum vs k hlt
      have hb1 := sum_bd (vs.take k) fun v hv' => hv v (List.mem_of_mem_take hv')
      have hb2 := hv _ (List.getElem_mem hlt)
      have hl : (vs.take k).length ≤ 64 := by simp; omega
      generalize (vs.take k).sum = s at HS hb1
      generalize vs[k] = x at HS hb2 hcell
      go_wp2
      go_round
      case rel => exact ⟨k + 1, by omega, by go_num, by rw [HS.out]⟩
      case measure => simp [intOf]; omega
    · have e : vs.take k = vs := List.take_of_length_le (by omega)
      rw [e]
      go_wp2
      go_ret
      exact ⟨rfl, rfl⟩

set_option maxHeartbeats 1000000 in
set_option maxRecDepth 100000 in
theorem refFold_any (tb : Bool) (vv hv : Value) (vs : List Int) (hs : List Bool) (a b : Nat) (w : World) (hT : TreeIn w w.heap.size vv hv vs hs) (hab : a ≤ b) (hb : b ≤ vs.length) :
    Calls Tryz.prog 86 #[.agg #[.bool tb, vv, hv], .int .i64 a, .int .i64 b] w fun e w' => e = .returned (foV (fv (lf tb vs hs) a (b - a))) ∧ Below w.heap.size w w' := by
  have HT : Hid _ := hT
  have HL : Hid _ := hT.len
  have hsm := hT.small
  obtain ⟨a1, p1, rfl, _⟩ := hT.hv1.ex
  obtain ⟨a2, p2, rfl, _⟩ := hT.hv2.ex
  simp only [List.length_map] at HT ⊢
  clear hT
  go_enter Tryz.func86, Tryz.ntmps86
  go_wp2
  have hF : Hid (FoAt (((w.alloc (.cells #[.bool tb, .slice a1 vs.length p1, .slice a2 hs.length p2] 138)).alloc (.cells #[.int .i64 0, .int .i64 0, .int .i64 0, .int .i64 0] 38)).alloc (.cells #[.int .i64 0, .int .i64 0, .int .i64 0, .int .i64 0] 38)) (w.heap.size + 1 + 1) .zero) := FoAt.at _ _ (by simp) .zero
  have hG : Hid (FoAt (((w.alloc (.cells #[.bool tb, .slice a1 vs.length p1, .slice a2 hs.length p2] 138)).alloc (.cells #[.int .i64 0, .int .i64 0, .int .i64 0, .int .i64 0] 38)).alloc (.cells #[.int .i64 0, .int .i64 0, .int .i64 0, .int .i64 0] 38)) (w.heap.size + 1) .zero) := (FoAt.at _ _ (by simp) .zero).alloc _
  obtain ⟨W0, hW0⟩ : ∃ W0, W0 = (((w.alloc (.cells #[.bool tb, .slice a1 vs.length p1, .slice a2 hs.length p2] 138)).alloc (.cells #[.int .i64 0, .int .i64 0, .int .i64 0, .int .i64 0] 38)).alloc (.cells #[.int .i64 0, .int .i64 0, .int .i64 0, .int .i64 0] 38)) := ⟨_, rfl⟩
  have hb0 : Hid (W0.cell? ⟨w.heap.size, 0, none⟩ = some (.bool tb) ∧ W0.cell? ⟨w.heap.size, 1, none⟩ = some (.slice a1 vs.length p1) ∧ W0.cell? ⟨w.heap.size, 2, none⟩ = some (.slice a2 hs.length p2)) := by
    have hh := heap_alloc3 w (.cells #[.bool tb, .slice a1 vs.length p1, .slice a2 hs.length p2] 138) (.cells #[.int .i64 0, .int .i64 0, .int .i64 0, .int .i64 0] 38) (.cells #[.int .i64 0, .int .i64 0, .int .i64 0, .int .i64 0] 38)
    rw [← hW0] at hh
    show _ ∧ _ ∧ _
    refine ⟨?_, ?_, ?_⟩ <;> rw [cell_of_row W0 _ _ _ _ _ hh] <;> rfl
  have hB0 : Hid (Below w.heap.size w W0) := by rw [hW0]; exact (((Below.refl _ _).alloc (Nat.le_refl _) _).alloc (by simp) _).alloc (by simp; omega) _
  have hz0 : W0.heap.size = w.heap.size + 3 := by rw [hW0]; simp
  rw [← hW0] at hF hG ⊢
  clear hW0
  go_loopw [8] (fun i wr => ∃ k : Nat, a ≤ k ∧ k ≤ b ∧ i = .int .i64 k ∧ Hid (FoAt wr (w.heap.size + 1 + 1) (fv (lf tb vs hs) a (k - a)) ∧ FoAt wr (w.heap.size + 1) .zero ∧ Below w.heap.size w wr ∧ wr.heap[w.heap.size]? = W0.heap[w.heap.size]?)) (fun i _ => b - (intOf i).toNat)
  case atStart => exact ⟨a, Nat.le_refl _, hab, rfl, by rw [Nat.sub_self]; exact hF.out, hG.out, hB0.out, rfl⟩
  case round =>
    obtain ⟨k, hk1, hk2, rfl, HR⟩ := hrel
    clear hF hG hB0
    obtain ⟨h1, h2, h3, h4⟩ := HR.out
    have c0 : wr.cell? ⟨w.heap.size, 0, none⟩ = some (.bool tb) := (World.cell?_of_block (a := ⟨w.heap.size, 0, none⟩) h4).trans hb0.out.1
    have c1 : wr.cell? ⟨w.heap.size, 1, none⟩ = some (.slice a1 vs.length p1) := (World.cell?_of_block (a := ⟨w.heap.size, 1, none⟩) h4).trans hb0.out.2.1
    have c2 : wr.cell? ⟨w.heap.size, 2, none⟩ = some (.slice a2 hs.length p2) := (World.cell?_of_block (a := ⟨w.heap.size, 2, none⟩) h4).trans hb0.out.2.2
    have l2 := h1.lt
    by_cases hlt : k < b
    · have hkv : k < vs.length := by omega
      have hkh : k < hs.length := by rw [HL.out]; exact hkv
      obtain ⟨b1, o1, hab1, hb1, d1⟩ := (HT.out.below h3).hv1.at k (.int .i64 vs[k]) (by simp [hkv])
      obtain ⟨b2, o2, hab2, hb2, d2⟩ := (HT.out.below h3).hv2.at k (.bool hs[k]) (by simp [hkh])
      subst hab1 hab2
      have HF : Hid (fv (lf tb vs hs) a (k + 1 - a) = tog (fv (lf tb vs hs) a (k - a)) (lf tb vs hs k).fold) := by
        rw [show k + 1 - a = (k - a) + 1 from by omega, fv, show a + (k - a) = k from by omega]; rfl
      have HG : Hid (lf tb vs hs k = if hs[k] then mkNd (.one vs[k]) (lfText tb k vs[k]) else .E) := by
        show _ = _; unfold lf; simp [hkv, hkh]
      have q := fv_bd (tb := tb) (hs := hs) HT.out.val a (k - a)
      have hgood := fv_good (lf_good (tb := tb) (vs := vs) (hs := hs)) a (k - a)
      have hval := HT.out.val _ (List.getElem_mem hkv)
      have i1 : (k : Int) < hs.length := by omega
      have i2 : (k : Int) < vs.length := by omega
      generalize fv (lf tb vs hs) a (k - a) = z at h1 HF q hgood HR
      generalize lf tb vs hs k = nd at HF HG
      obtain ⟨x, hx⟩ : ∃ x, x = vs[k] := ⟨_, rfl⟩
      rw [← hx] at d1 HG hval
      obtain ⟨hh, hhe⟩ : ∃ hh, hh = hs[k] := ⟨_, rfl⟩
      rw [← hhe] at d2 HG
      clear hx hhe hkv hkh HR
      cases hh with
      | false =>
        go_wp2
        go_roundw
        case rel => exact ⟨k + 1, by omega, by omega, by go_num, by rw [HF.out, HG.out]; simp only [Bool.false_eq_true, if_false]; rw [show Nd.E.fold = .zero from rfl, tog_zero_right hgood]; exact ⟨h1, h2, h3, h4⟩⟩
        case measure => simp [intOf]; omega
      | true =>
        obtain ⟨⟨f0, f1, f2, f3⟩, _⟩ := h1.cells
        go_wp2_with fail
        refine (refTogether_any z.c z.s z.m z.x 1 x x x _ (by omega) (by omega) (by omega) (by omega)).mono ?_
        rw [show tog ⟨z.c, z.s, z.m, z.x⟩ ⟨1, x, x, x⟩ = fv (lf tb vs hs) a (k + 1 - a) from by rw [HF.out, HG.out]; rfl, HF.out]
        generalize tog z nd.fold = z' at HF
        rintro e w1 ⟨rfl, hbl⟩
        rw [foV]
        have l1 : w.heap.size + 1 + 1 < w1.heap.size := by have := hbl.size; omega
        have B1 : Hid (Below w.heap.size w w1) := h3.trans (hbl.mono h3.size)
        have F1 : FoAt w1 (w.heap.size + 1 + 1) z := h1.below hbl l2
        have F2 : Hid (FoAt w1 (w.heap.size + 1) .zero) := h2.below hbl h2.lt
        have F3 : Hid (w1.heap[w.heap.size]? = W0.heap[w.heap.size]?) := (hbl.block _ (by omega)).trans h4
        clear f0 f1 f2 f3 c0 c1 c2 d1 d2 h1 h2 h3 h4 hbl
        obtain ⟨⟨f0, f1, f2, f3⟩, ff⟩ := F1.cells
        have F4 : Hid _ := F1
        clear F1
        go_wp2
        go_roundw
        case rel =>
          refine ⟨k + 1, by omega, by omega, by go_num, hid ⟨?_, ?_, ?_, ?_⟩⟩
          · rw [HF.out]; exact FoAt.set F4.out _
          · exact (((F2.out.far (by omega)).far (by omega)).far (by omega)).far (by omega)
          · repeat (refine Below.setCell ?_ (by simp; omega) _)
            exact B1.out
          · repeat (refine (Below.heap_setCell _ _ _ _ (by simp; omega)).trans ?_)
            exact F3.out
        case measure => simp [intOf]; omega
    · have hk' : k = b := by omega
      subst hk'
      obtain ⟨⟨f0, f1, f2, f3⟩, _⟩ := h1.cells
      obtain ⟨⟨g0, g1, g2, g3⟩, gg⟩ := h2.cells
      obtain ⟨z, hz⟩ : ∃ z, z = fv (lf tb vs hs) a (k - a) := ⟨_, rfl⟩
      rw [← hz] at h1 f0 f1 f2 f3
      have HZ : Hid _ := hz
      have H2 : Hid _ := h2
      have H3 : Hid _ := h3
      clear HR c0 c1 c2 hz h2 h3
      go_wp2
      refine ret_fold1 Tryz.results86 (FoAt.set (show FoAt _ _ _ from H2.out) z) rfl ⟨by rw [HZ.out], ?_⟩
      repeat (refine Below.setCell ?_ (by simp) _)
      exact H3.out

end Go.Proofs.YtlggbcceoejkkaaGreat

/- Blocks that were just laid. -/
namespace Go.Proofs.YtlggbcceoejkkaaGreat
open Go.RowKit

theorem heap_two (w : World) (o1 o2 : Obj) (n : Nat) (hn : n = w.heap.size) : ((w.alloc o1).alloc o2).heap[n]? = some o1 := by
  subst hn
  rw [Below.heap_alloc _ _ _ (by simp)]
  exact heap_alloc_new w o1
theorem heap_one (w : World) (o1 : Obj) (n : Nat) (hn : n = w.heap.size) : (w.alloc o1).heap[n]? = some o1 := by
  subst hn
  exact heap_alloc_new w o1
theorem heap_three (w : World) (o1 o2 o3 : Obj) (n : Nat) (hn : n = w.heap.size) : (((w.alloc o1).alloc o2).alloc o3).heap[n]? = some o1 := by
  subst hn
  exact heap_alloc3 w o1 o2 o3

end Go.Proofs.YtlggbcceoejkkaaGreat

/- A store as mathematics: what its calls answer, and what they leave of it. -/
namespace Go.Proofs.YtlggbcceoejkkaaGreat
open Go.RowKit

/-- A store: its log, its table. -/
structure Sto where
  l : List Int
  t : List (Option Int)
structure Sto.ok (s : Sto) : Prop where
  val : ∀ v ∈ s.l, 0 ≤ v ∧ v ≤ 1000000
  len : s.l.length ≤ 64
  tval : ∀ v, some v ∈ s.t → 0 ≤ v ∧ v ≤ 1000000
  tlen : s.t.length = 32
def Sto.empty : Sto := ⟨[], List.replicate 32 none⟩
theorem Sto.empty_ok : Sto.empty.ok := ⟨by simp [Sto.empty], by simp [Sto.empty], by simp [Sto.empty], by simp [Sto.empty]⟩
def tv (t : List (Option Int)) : List Int := t.map (·.getD 0)
def tx (t : List (Option Int)) : List Bool := t.map (·.isSome)
theorem tv_val {s : Sto} (h : s.ok) : ∀ v ∈ tv s.t, 0 ≤ v ∧ v ≤ 1000000 := by
  intro v hv
  obtain ⟨o, ho, rfl⟩ := List.mem_map.1 hv
  cases o with
  | none => simp
  | some x => exact h.tval x ho

/-- What Append answers. -/
def apE (s : Sto) (v : Int) : Int := if isVal v then if 64 ≤ s.l.length then 2 else if 5000000 < s.l.sum + v then 3 else 0 else 1
def apS (s : Sto) (v : Int) : Sto := if apE s v = 0 then ⟨s.l ++ [v], s.t⟩ else s
theorem apS_ok {s : Sto} (h : s.ok) (v : Int) : (apS s v).ok := by
  unfold apS
  split
  · rename_i he
    have hv : isVal v = true := by
      cases hb : isVal v with
      | true => rfl
      | false => simp [apE, hb] at he
    have hl : ¬ 64 ≤ s.l.length := by intro hc; simp [apE, hv, hc] at he
    rw [isVal_iff] at hv
    refine ⟨fun x hx => ?_, by simp; omega, h.tval, h.tlen⟩
    rcases List.mem_append.1 hx with hx | hx
    · exact h.val x hx
    · simp at hx; subst hx; exact hv
  · exact h

theorem info_int : (Tryz.prog.info? 3).map (fun i => (i.zero, i.size, i.bytes)) = some (some (.int .i64 0), 1, 8) := by kernel_rfl
def tsum (t : List (Option Int)) : Int := (tv t).sum
def tat (t : List (Option Int)) (k : Nat) : Option Int := t.getD k none
/-- What Set and Delete answer. -/
def seE (s : Sto) (k v : Int) : Int := if 0 ≤ k ∧ k < 32 then if isVal v then if 5000000 < tsum s.t - (tat s.t k.toNat).getD 0 + v then 3 else 0 else 1 else 4
def seS (s : Sto) (k v : Int) : Sto := if seE s k v = 0 then ⟨s.l, s.t.set k.toNat (some v)⟩ else s
def deE (s : Sto) (k : Int) : Int := if 0 ≤ k ∧ k < 32 ∧ (tat s.t k.toNat).isSome then 0 else 4
def deS (s : Sto) (k : Int) : Sto := if deE s k = 0 then ⟨s.l, s.t.set k.toNat none⟩ else s
theorem mem_set_opt {t : List (Option Int)} {i : Nat} {o x : Option Int} (h : x ∈ t.set i o) : x ∈ t ∨ x = o := by
  obtain ⟨j, hj, rfl⟩ := List.getElem_of_mem h
  rw [List.getElem_set]
  split
  · exact .inr rfl
  · exact .inl (List.getElem_mem _)
theorem seS_ok {s : Sto} (h : s.ok) (k v : Int) : (seS s k v).ok := by
  unfold seS
  split
  · rename_i he
    have hv : isVal v = true := by
      cases hb : isVal v with
      | true => rfl
      | false => unfold seE at he; split at he <;> simp [hb] at he
    rw [isVal_iff] at hv
    refine ⟨h.val, h.len, fun x hx => ?_, by simp; exact h.tlen⟩
    rcases mem_set_opt hx with hx | hx
    · exact h.tval x hx
    · simp at hx; subst hx; exact hv
  · exact h
theorem deS_ok {s : Sto} (h : s.ok) (k : Int) : (deS s k).ok := by
  unfold deS
  split
  · refine ⟨h.val, h.len, fun x hx => ?_, by simp; exact h.tlen⟩
    rcases mem_set_opt hx with hx | hx
    · exact h.tval x hx
    · simp at hx
  · exact h
theorem tv_set (t : List (Option Int)) (i : Nat) (o : Option Int) : tv (t.set i o) = (tv t).set i (o.getD 0) := by simp [tv, List.map_set]
theorem tx_set (t : List (Option Int)) (i : Nat) (o : Option Int) : tx (t.set i o) = (tx t).set i o.isSome := by simp [tx, List.map_set]
theorem tv_at (t : List (Option Int)) (i : Nat) (h : i < t.length) (h' : i < ((tv t).map (Value.int .i64)).length) : ((tv t).map (Value.int .i64))[i] = .int .i64 ((tat t i).getD 0) := by
  simp [tv, tat, h]
theorem tx_at (t : List (Option Int)) (i : Nat) (h : i < t.length) (h' : i < ((tx t).map Value.bool).length) : ((tx t).map Value.bool)[i] = .bool (tat t i).isSome := by
  simp [tx, tat, h]

theorem ret_head2 {w : World} {g : Nat} {c0 c1 c2 v : Value} {fn : Func} {R : Ending → World → Prop} {tmps : Array Value} {k j : Nat} (hf : fn.results = #[.cell k 36, .tmp j]) (h : w.heap[g]? = some (.cells #[c0, c1, c2] 36 (0, 0)))
    (h2 : tmps[k]? = some (.pointer (some ⟨g, 0, none⟩))) (h3 : tmps[j]? = some v) (hR : R (.returned (.tuple #[.agg #[c0, c1, c2], v])) w) : bodyPost Tryz.prog fn R .ret ⟨tmps, []⟩ w := by
  have k0 : w.cell? ⟨g, 0, none⟩ = some c0 := by rw [cell_of_row w _ _ _ _ _ h]; rfl
  have k1 : w.cell? ⟨g, 1, none⟩ = some c1 := by rw [cell_of_row w _ _ _ _ _ h]; rfl
  have k2 : w.cell? ⟨g, 2, none⟩ = some c2 := by rw [cell_of_row w _ _ _ _ _ h]; rfl
  refine bodyPost_ret (v := .tuple #[.agg #[c0, c1, c2], v]) ?_ rfl hR
  simp [results, hf, go_sem, h2, h3, k0, k1, k2]

/-- A head and an error, as they come out. -/
def headV (n : Nat) (d : Nat) : Value := .tuple #[.agg #[.int .i64 n, .int .u8 ((d : Int) / 256), .int .u8 ((d : Int) % 256)], .int .i64 0]
def noHead : Value := .tuple #[.agg #[.int .i64 0, .int .u8 0, .int .u8 0], .int .i64 5]
/-- The nodes of a cover's parts. -/
def cn (lf : Nat → Nd) (l : List Sp) : List Nd := l.map fun p => tr lf p.a p.b
theorem cn_next (lf : Nat → Nd) (l : List Sp) (k : Nat) (h : k < l.length) (p : Sp) (hp : p = l[k]) : cn lf (l.take (k + 1)) = cn lf (l.take k) ++ [tr lf p.a p.b] := by
  subst hp
  rw [List.take_succ_eq_append_getElem h]
  simp only [cn, List.map_append, List.map_cons, List.map_nil]
theorem cn_len (lf : Nat → Nd) (l : List Sp) : (cn lf l).length = l.length := by simp [cn]

theorem cov_in (f t : Nat) : ∀ (n a b : Nat), b - a ≤ n → a ≤ b → ∀ p ∈ cov a b f t, a ≤ p.a ∧ p.a ≤ p.b ∧ p.b ≤ b := by
  intro n
  induction n with
  | zero =>
    intro a b hn hab p hp
    rw [cov, if_pos (by omega)] at hp
    simp at hp; subst hp; exact ⟨Nat.le_refl _, hab, Nat.le_refl _⟩
  | succ n ih =>
    intro a b hn hab p hp
    by_cases hs : isOut a b f t = true ∨ isIn a b f t = true ∨ b < a + 2
    · rw [cov, if_pos hs] at hp
      simp at hp; subst hp; exact ⟨Nat.le_refl _, hab, Nat.le_refl _⟩
    · rw [cov, if_neg hs] at hp
      have x := hf_pos (b - a)
      have y := hf_lt (b - a) (by omega)
      rcases List.mem_append.1 hp with hp | hp
      · have := ih a (a + hf (b - a)) (by omega) (by omega) p hp; omega
      · have := ih (a + hf (b - a)) b (by omega) (by omega) p hp; omega

/-- The proof's nodes, and the bytes that Ask tells. -/
def prfN (tb : Bool) (vs : List Int) (hs : List Bool) (f t : Nat) : List Nd := cn (lf tb vs hs) (cov 0 vs.length f t)
def prfB (tb : Bool) (vs : List Int) (hs : List Bool) (f t : Nat) : ByteArray := ⟨(marks (prfN tb vs hs f t)).toArray⟩
theorem prf_len (tb : Bool) (vs : List Int) (hs : List Bool) (f t : Nat) (h : vs.length ≤ 64) : (prfN tb vs hs f t).length ≤ 64 := by
  rw [prfN, cn_len]
  have := (cov_len f t vs.length 0 vs.length (by omega)).2
  omega
theorem prf_ok (tb : Bool) (vs : List Int) (hs : List Bool) (f t : Nat) (h : vs.length ≤ 64) (hv : ∀ v ∈ vs, 0 ≤ v ∧ v ≤ 1000000) : (prfN tb vs hs f t).all Nd.ok = true := by
  rw [List.all_eq_true]
  intro d hd
  obtain ⟨p, hp, rfl⟩ := List.mem_map.1 hd
  have := cov_in f t vs.length 0 vs.length (by omega) (by omega) p hp
  exact tr_ok hv p.a p.b (by omega)

theorem ret_fold3 {w : World} {g : Nat} {f : Fo} {x y : Value} {fn : Func} {R : Ending → World → Prop} {tmps : Array Value} {k i j : Nat} (hf : fn.results = #[.cell k 38, .tmp i, .tmp j]) (h : FoAt w g f)
    (h2 : tmps[k]? = some (.pointer (some ⟨g, 0, none⟩))) (h3 : tmps[i]? = some x) (h4 : tmps[j]? = some y) (hR : R (.returned (.tuple #[foV f, x, y])) w) : bodyPost Tryz.prog fn R .ret ⟨tmps, []⟩ w := by
  obtain ⟨⟨k0, k1, k2, k3⟩, _⟩ := h.cells
  refine bodyPost_ret (v := .tuple #[foV f, x, y]) ?_ rfl hR
  simp [results, hf, go_sem, h2, h3, h4, k0, k1, k2, k3, foV]
def askV (f : Fo) (b : ByteArray) : Value := .tuple #[foV f, .string b, .int .i64 0]
def noAsk : Value := .tuple #[foV .zero, .string ⟨#[]⟩, .int .i64 5]


end Go.Proofs.YtlggbcceoejkkaaGreat

