/- Bytes that were laid by a conversion of a constant text: a row with the run-time's mark, full: an append goes to a new block. -/
import Derived.Lib.SlBytesConst
import Derived.Test.YtogmdaopfnmobaaGreatC04
namespace Go.Proofs.YtogmdaopfnmobaaGreat
open Go.RowKit
structure Full (w : World) (v : Value) (xs : List Value) : Prop where
  ex : ∃ g fz, v = .slice (some ⟨g, 0, none⟩) xs.length xs.length ∧ w.heap[g]? = some (.cells xs.toArray 5 fz)
theorem Full.alloc {w : World} {v : Value} {xs : List Value} (h : Full w v xs) (o : Obj) : Full (w.alloc o) v xs := by
  obtain ⟨g, fz, hv, hg⟩ := h.ex
  exact ⟨g, fz, hv, (Below.heap_alloc _ _ _ (Array.getElem?_eq_some_iff.1 hg).1).trans hg⟩
theorem own_mono' {w : World} {base base' : Nat} {e : TypeId} {sz n : Nat} {v : Value} {xs : List Value} (h : w.ownsRow base e sz v n xs) (hb : base' ≤ base) : w.ownsRow base' e sz v n xs := by
  refine ⟨h.1, ?_⟩
  rcases h.2 with hn | ⟨g, cap, cur, hv, hg, rest⟩
  · exact .inl hn
  · exact .inr ⟨g, cap, cur, hv, by omega, rest⟩
theorem run_append_full (w : World) (ty : TypeId) (v : Value) (xs : List Value) (hF : Full w v xs) (a : Addr) (m c : Nat) (news : List Value) (hl : news.length = m) (hnews : ∀ j u, news[j]? = some u → w.cell? (a.add j) = some u) (hm : 0 < m) (hn : xs.length + m ≤ 1000000) :
    ∃ v' w', (Builtin.append_ #[159, 159] ty #[v, .slice (some a) m c]).run Tryz.prog w = .ok v' w' ∧ w'.ownsRow w.heap.size 5 1 v' (xs.length + m) (xs ++ news) ∧ Below w.heap.size w w' := by
  obtain ⟨i0, hi, hz0, hz1, hz2⟩ := info_parts info_u8
  obtain ⟨g, fz, rfl, hg⟩ := hF.ex
  have holds : ∀ j u, xs[j]? = some u → w.cell? ((⟨g, 0, none⟩ : Addr).add j) = some u := fun j u hu => by
    have e : (⟨g, 0, none⟩ : Addr).add j = ⟨g, j, none⟩ := by unfold Addr.add; split <;> simp_all
    rw [e, cell_of_row w g _ _ _ _ hg]
    simpa using hu
  have hr := run_append_grow (P := Tryz.prog) w 159 ty 5 i0 (.int .u8 0) Tryz.underlying159 hi hz0 ⟨g, 0, none⟩ xs.length xs.length xs (by rw [hz1, Nat.mul_one]) holds a m c news (by rw [hz1, Nat.mul_one]; exact hl) hnews (by omega) (by omega) (growslice_fits (by omega) (by rw [hz2]; omega))
  refine ⟨_, _, hr, ⟨by simp [hl], .inr ⟨w.heap.size, _, _, rfl, Nat.le_refl _, heap_alloc_new w.drew _, grownCap_ge w _ _ _, grownCap_le_maxLen w _ _ _ (by unfold maxLen; omega), ?_, ?_⟩⟩, ?_⟩
  · have := grownCap_ge w (xs.length + m) xs.length 5
    have ez : ∀ k, (Builtin.zeroCells (Value.int .u8 0).cells k).size = k := fun k => by rw [size_zeroCells]; simp [Value.cells]
    simp only [Array.size_append, List.size_toArray, ez, hl]
    omega
  · simp only [Array.toList_append, Nat.mul_one]
    rw [List.take_append_of_le_length (by simp [hl])]
    exact List.take_of_length_le (by simp [hl])
  · exact ((Below.refl _ _).drew).alloc (Nat.le_refl _) _
theorem wpList_append_full {ops : Array Oper} {rest : List Oper} {o : Oper} {a : Act} {w : World} {Q : Exit → Act → World → Prop} (hgd : o.guard = none) (s x : Operand)
    (ho : o.op = .call { callee := .builtin .append, args := #[s, x], argTypes := #[159, 159] }) (v : Value) (xs : List Value) (hs : a.eval s = v) (hF : Full w v xs)
    (ad : Addr) (m c : Nat) (news : List Value) (hx : a.eval x = .slice (some ad) m c) (hl : news.length = m) (hnews : ∀ j u, news[j]? = some u → w.cell? (ad.add j) = some u) (hm : 0 < m) (hn : xs.length + m ≤ 1000000)
    (h : ∀ v' w', w'.ownsRow w.heap.size 5 1 v' (xs.length + m) (xs ++ news) → Below w.heap.size w w' → wpList Tryz.prog ops Q rest (a.put o.dst v') w') : wpList Tryz.prog ops Q (o :: rest) a w :=
  wpList_plain hgd fun _ hK => by
    obtain ⟨v', w', hr, h2, h3⟩ := run_append_full w o.type v xs hF ad m c news hl hnews hm hn
    unfold Oper.wp execOp
    simp only [ho, resolve, invoke, builtin, Sem.run_bind, Sem.run_pure, Result.andThen_ok, List.map_toArray, List.map_cons, List.map_nil, hs, hx, hr]
    exact hK _ _ (h v' w' h2 h3)
def fullPost (w : World) (xs : List Value) (l : List UInt8) (e : Ending) (w' : World) : Prop := ∃ v', e = .returned v' ∧ w'.ownsRow w.heap.size 5 1 v' (xs.length + l.length) (xs ++ l.map B) ∧ Below w.heap.size w w'
set_option maxHeartbeats 1000000 in
set_option maxRecDepth 100000 in
theorem appendNumber_full (v : Value) (xs : List Value) (n : Nat) (w : World) (hF : Full w v xs) (hn : n ≤ 281474976710656) (hsz : xs.length ≤ 900000) :
    Calls Tryz.prog 114 #[v, .int .i64 n] w (fullPost w xs (num n)) := by
  obtain ⟨i0, hi, hz0, hz1, hz2⟩ := info_parts info_u8
  have HF : Hid (Full w v xs) := hF
  clear hF
  go_enter Tryz.func114, Tryz.ntmps114
  go_wp2
  go_loopw [0, 1] (fun s i wr => ∃ (done : List UInt8) (m f : Nat), i = .int .i64 m ∧ m ≤ 281474976710656 ∧ Hid (m < 128 ^ (f + 1)) ∧ Hid (num n = done ++ numB f m) ∧ done.length ≤ 6 ∧ Hid (done.length + f = 6) ∧
      (Hid (done = [] ∧ s = v ∧ wr = w) ∨ Hid (wr.ownsRow w.heap.size 5 1 s (xs.length + done.length) (xs ++ done.map B) ∧ Below w.heap.size w wr))) (fun _ i _ => (intOf i).toNat)
  case atStart => exact ⟨[], n, 6, rfl, hn, (by show n < 128 ^ 7; omega), rfl, by simp, rfl, .inl ⟨rfl, rfl, rfl⟩⟩
  case round =>
    obtain ⟨done, m, f, rfl, hm2, hm, HN, hdl, HL, HD⟩ := hrel
    by_cases hlt : 128 ≤ m
    · obtain ⟨g, b, rfl, h2, h3, h4⟩ := num_step f m hlt hm
      have H2 : Hid _ := h2
      have H3 : Hid _ := h3
      have H4 : Hid _ := h4
      clear h2 h3 h4
      rcases HD with HD | HD
      · obtain ⟨rfl, e2, rfl⟩ := HD.out
        subst e2
        clear HD
        go_wp2_with (at_builtin; refine wpList_append_full rfl _ _ rfl _ xs rfl (HF.out.alloc _) ⟨wr.heap.size, 0, none⟩ 1 1 [B b] rfl rfl (one_new _ _ _ _ H4.out) (by omega) (by omega) ?_)
        intro v' w1 hown' hb'
        have fin : Hid (w1.ownsRow wr.heap.size 5 1 v' (xs.length + [b].length) (xs ++ [b].map B) ∧ Below wr.heap.size wr w1) := ⟨own_mono' hown' (by simp), ((Below.refl _ _).alloc (Nat.le_refl _) _).trans (hb'.mono (by simp))⟩
        clear hown' hb'
        go_wp2
        go_roundw
        case rel => exact ⟨[b], m / 128, g, by go_num, by omega, H3.out, by rw [HN.out, H2.out]; simp [Hid], by simp, by have := HL.out; simp [Hid] at this ⊢; omega, .inr fin⟩
        case measure => simp [intOf]; omega
      · obtain ⟨hown, hb⟩ := HD.out
        have hbs := hb.size
        have Hb : Hid _ := hb
        clear HD
        go_wp2_with (at_builtin; refine wpList_append_grew _ rfl _ _ 159 rfl w.heap.size 5 i0 (.int .u8 0) 1 1 Tryz.underlying159 hi hz0 hz1 hz2 rfl (by decide) _ _ _ rfl (hown.alloc _) ⟨wr.heap.size, 0, none⟩ 1 1 [B b] rfl rfl ?c1 ?c2 ?c3 ?c4 ?c5 ?_)
        case c1 => exact one_new _ _ _ _ H4.out
        case c2 => exact B_one [b]
        case c3 => unfold maxLen; omega
        case c4 => omega
        case c5 => simp; omega
        intro v' w1 hown' hgrow _
        have fin : Hid (w1.ownsRow w.heap.size 5 1 v' (xs.length + (done ++ [b]).length) (xs ++ (done ++ [b]).map B) ∧ Below w.heap.size w w1) := ⟨by simpa [Nat.add_assoc] using hown', (Hb.out.alloc hbs _).grown hgrow.grown (by simp; omega) (fun j hj => (hown.lt j hj).1)⟩
        clear hown' hgrow hown hb
        go_wp2
        go_roundw
        case rel => exact ⟨done ++ [b], m / 128, g, by go_num, by omega, H3.out, by rw [HN.out, H2.out]; simp [Hid], by simp; have := HL.out; omega, by have := HL.out; simp [Hid]; omega, .inr fin⟩
        case measure => simp [intOf]; omega
    · obtain ⟨b, h2, h4⟩ := num_last f m (by omega)
      have H2 : Hid _ := h2
      have H4 : Hid _ := h4
      clear h2 h4
      rcases HD with HD | HD
      · obtain ⟨rfl, e2, rfl⟩ := HD.out
        subst e2
        clear HD
        go_wp2_with (at_builtin; refine wpList_append_full rfl _ _ rfl _ xs rfl (HF.out.alloc _) ⟨wr.heap.size, 0, none⟩ 1 1 [B b] rfl rfl (one_new _ _ _ _ H4.out) (by omega) (by omega) ?_)
        intro v' w1 hown' hb'
        have fin : Hid (fullPost wr xs (num n) (.returned v') w1) := ⟨v', rfl, own_mono' (by rw [HN.out, H2.out]; simpa using hown') (by simp), ((Below.refl _ _).alloc (Nat.le_refl _) _).trans (hb'.mono (by simp))⟩
        clear hown' hb'
        go_wp2
        go_ret
        exact fin.out
      · obtain ⟨hown, hb⟩ := HD.out
        have hbs := hb.size
        have Hb : Hid _ := hb
        clear HD
        go_wp2_with (at_builtin; refine wpList_append_grew _ rfl _ _ 159 rfl w.heap.size 5 i0 (.int .u8 0) 1 1 Tryz.underlying159 hi hz0 hz1 hz2 rfl (by decide) _ _ _ rfl (hown.alloc _) ⟨wr.heap.size, 0, none⟩ 1 1 [B b] rfl rfl ?d1 ?d2 ?d3 ?d4 ?d5 ?_)
        case d1 => exact one_new _ _ _ _ H4.out
        case d2 => exact B_one [b]
        case d3 => unfold maxLen; omega
        case d4 => omega
        case d5 => simp; omega
        intro v' w1 hown' hgrow _
        have fin : Hid (fullPost w xs (num n) (.returned v') w1) := ⟨v', rfl, by rw [HN.out, H2.out]; simpa [Nat.add_assoc] using hown', (Hb.out.alloc hbs _).grown hgrow.grown (by simp; omega) (fun j hj => (hown.lt j hj).1)⟩
        clear hown' hgrow hown hb
        go_wp2
        go_ret
        exact fin.out
set_option maxHeartbeats 1000000 in
set_option maxRecDepth 100000 in
theorem appendNode_full (v : Value) (xs : List Value) (c s m x : Nat) (h g : UInt8) (w : World) (hF : Full w v xs)
    (hc : c ≤ 281474976710656) (hs : s ≤ 281474976710656) (hm : m ≤ 281474976710656) (hx : x ≤ 281474976710656) (hsz : xs.length ≤ 800000) :
    Calls Tryz.prog 116 #[v, .agg #[.int .i64 c, .int .i64 s, .int .i64 m, .int .i64 x, .int .u8 h.toNat, .int .u8 g.toNat]] w (fullPost w xs (num c ++ num s ++ num m ++ num x ++ [h, g])) := by
  obtain ⟨i0, hi, hz0, hz1, hz2⟩ := info_parts info_u8
  have l1 := (num_length c).1
  have l2 := (num_length s).1
  have l3 := (num_length m).1
  have l4 := (num_length x).1
  obtain ⟨g0, fz0, rfl, hg0⟩ := hF.ex
  have HF : Hid (Full w _ xs) := hF
  clear hF hg0
  go_enter Tryz.func116, Tryz.ntmps116
  go_wp2_with fail
  refine (appendNumber_full _ xs _ _ (HF.out.alloc _) hc (by omega)).mono ?_
  rintro e w1 ⟨v1, rfl, hown1, hb1⟩
  have hB1 : Below w.heap.size w w1 := ((Below.refl _ _).alloc (Nat.le_refl _) _).trans (hb1.mono (by simp))
  have hbx : w1.heap[w.heap.size]? = some (.cells #[.int .i64 c, .int .i64 s, .int .i64 m, .int .i64 x, .int .u8 h.toNat, .int .u8 g.toNat] 51 (0, 0)) := (hb1.block _ (by simp)).trans (heap_alloc_new w _)
  have hown1' : w1.ownsRow (w.heap.size + 1) 5 1 v1 (xs.length + (num c).length) (xs ++ (num c).map B) := by simpa using hown1
  have hz1' : w.heap.size + 1 ≤ w1.heap.size := by have := hb1.size; simp at this; omega
  clear hown1 hb1 HF
  have far : ∀ (v2 : Value) (w2 : World) (n2 : Nat) (ys : List Value), Grew w1 v1 w2 v2 → w1.ownsRow (w.heap.size + 1) 5 1 v1 (xs.length + (num c).length) (xs ++ (num c).map B) → w2.heap[w.heap.size]? = w1.heap[w.heap.size]? := fun v2 w2 n2 ys hg ho => hg.grown.block _ (by omega) (fun e => by have := (ho.lt _ e.symm).1; omega)
  have cells : ∀ w2 : World, w2.heap[w.heap.size]? = w1.heap[w.heap.size]? → w2.cell? ⟨w.heap.size, 0, none⟩ = some (.int .i64 c) ∧ w2.cell? ⟨w.heap.size, 1, none⟩ = some (.int .i64 s) ∧ w2.cell? ⟨w.heap.size, 2, none⟩ = some (.int .i64 m) ∧ w2.cell? ⟨w.heap.size, 3, none⟩ = some (.int .i64 x) ∧ w2.cell? ⟨w.heap.size, 4, none⟩ = some (.int .u8 h.toNat) ∧ w2.cell? ⟨w.heap.size, 5, none⟩ = some (.int .u8 g.toNat) := fun w2 he => by
    have hh := he.trans hbx
    refine ⟨?_, ?_, ?_, ?_, ?_, ?_⟩ <;> rw [cell_of_row w2 _ _ _ _ _ hh] <;> rfl
  obtain ⟨k0, k1, k2, k3, k4, k5⟩ := cells w1 rfl
  have HC : Hid _ := cells
  have HFar : Hid _ := far
  have HB1 : Hid (Below w.heap.size w w1) := hB1
  have HO1 : Hid (w1.ownsRow (w.heap.size + 1) 5 1 v1 (xs.length + (num c).length) (xs ++ (num c).map B)) := hown1'
  clear cells far hB1 hbx
  go_wp2_with fail
  refine (appendNumber_any (w.heap.size + 1) _ _ _ _ _ hown1' hs (by omega) hz1').mono ?_
  rintro e w2 ⟨v2, rfl, hown2, hg2⟩
  clear k0 k1 k2 k3 k4 k5 hown1'
  obtain ⟨k0, k1, k2, k3, k4, k5⟩ := HC.out w2 (HFar.out v2 w2 0 [] hg2 HO1.out)
  have hb2 := hg2.grown.size
  go_wp2_with fail
  refine (appendNumber_any (w.heap.size + 1) _ _ _ _ _ hown2 hm (by omega) (by omega)).mono ?_
  rintro e w3 ⟨v3, rfl, hown3, hg3⟩
  have hG3 := hg2.trans hg3
  clear k0 k1 k2 k3 k4 k5 hown2 hg2 hg3 hb2
  obtain ⟨k0, k1, k2, k3, k4, k5⟩ := HC.out w3 (HFar.out v3 w3 0 [] hG3 HO1.out)
  have hb3 := hG3.grown.size
  go_wp2_with fail
  refine (appendNumber_any (w.heap.size + 1) _ _ _ _ _ hown3 hx (by omega) (by omega)).mono ?_
  rintro e w4 ⟨v4, rfl, hown4, hg4⟩
  have hG4 := hG3.trans hg4
  clear k0 k1 k2 k3 k4 k5 hown3 hG3 hg4 hb3
  obtain ⟨k0, k1, k2, k3, k4, k5⟩ := HC.out w4 (HFar.out v4 w4 0 [] hG4 HO1.out)
  have hb4 := hG4.grown.size
  go_wp2_with (at_builtin; refine wpList_append_grew _ rfl _ _ 159 rfl (w.heap.size + 1) 5 i0 (.int .u8 0) 1 1 Tryz.underlying159 hi hz0 hz1 hz2 rfl (by decide) _ _ _ rfl (hown4.alloc _) ⟨w4.heap.size, 0, none⟩ 2 2 [B h, B g] rfl rfl ?d1 ?d2 ?d3 ?d4 ?d5 ?_)
  case d1 => exact two_new _ _ _ _
  case d2 => exact B_one [h, g]
  case d3 => unfold maxLen; omega
  case d4 => omega
  case d5 => simp; omega
  intro v' w5 hown' hgrow _
  have hG5 := (hG4.alloc _).trans hgrow
  have fin : Hid (fullPost w xs (num c ++ num s ++ num m ++ num x ++ [h, g]) (.returned v') w5) := ⟨v', rfl, own_mono' (by simpa [Nat.add_assoc, List.append_assoc] using hown') (Nat.le_succ _), HB1.out.grown hG5.grown HB1.out.size (fun k hk => by have := (HO1.out.lt k hk).1; omega)⟩
  clear hgrow hown4 hG4 hG5 hown' HC HFar HB1 HO1
  go_wp2
  go_ret
  exact fin.out
end Go.Proofs.YtogmdaopfnmobaaGreat

