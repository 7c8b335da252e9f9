/- What one step of kind Hash, Write or Read does (words of the law's world). -/
import Derived.Test.YtogmdaopfnmobaaGreatA14
import Derived.Test.YtogmdaopfnmobaaGreatA15
import Derived.Test.YtogmdaopfnmobaaGreatA11
namespace Go.Proofs.YtogmdaopfnmobaaGreat
open Go.RowKit
theorem run_eql_digest (w : World) (h g h' g' : Int) :
    (binOp .eql 49 (.agg #[.int .u8 h, .int .u8 g]) (.agg #[.int .u8 h', .int .u8 g'])).run Tryz.prog w = .ok (.bool (decide (h = h') && decide (g = g'))) w := by
  obtain ⟨i0, hi, _, _, _⟩ := info_parts info_u8'
  rw [run_eql_struct, run_equalIn_array w 9999 _ _ Tryz.underlying49 hi, cells_u8]
  simp [List.range, List.range.loop, Op.eqItems, go_sem]
  by_cases a : h = h' <;> by_cases b : g = g' <;> simp [a, b]
theorem Hash_any (s : ByteArray) (w : World) (hs : s.size ≤ maxLen) :
    Calls Tryz.prog 91 #[.string s] w fun e w' => e = .returned (.agg #[.int .u8 ((dg s.data.toList : Int) / 256), .int .u8 ((dg s.data.toList : Int) % 256)]) ∧ Below w.heap.size w w' := by
  go_enter Tryz.func91, Tryz.ntmps91
  go_wp2_with fail
  refine (of_any s _ hs).mono ?_
  rintro e w1 ⟨rfl, hb⟩
  have hc := oldc hb
  have hf := oldf hb
  go_wp2
  refine bodyPost_ret (v := .agg #[.int .u8 ((dg s.data.toList : Int) / 256), .int .u8 ((dg s.data.toList : Int) % 256)]) (by simp [results, Tryz.results91, go_sem, hc]) rfl ⟨rfl, ?_⟩
  repeat (refine Below.setCell ?_ (by simp) _)
  exact ((Below.refl _ _).alloc (Nat.le_refl _) _).trans (hb.mono (by simp))
def wordsPost (w : World) (A base : Nat) (sv lv : Value) (m : Nat) (wv ev bv : Value) (Ws Es : List Value) (Ls : List (List Nd)) (Bs : List Bk) (e : Ending) (w' : World) : Prop :=
  e = .returned (.bool true) ∧ Kept w w' (fpOf A wv ev bv Ws Es Bs) ∧ ∃ m' wv' ev' bv' Ws' Es' Ls' Bs', Inv w' A base sv lv m' wv' ev' bv' Ws' Es' Ls' Bs' ∧ m' ≤ m + 1 ∧ Bs'.length ≤ Bs.length + 1 ∧ Ws'.length ≤ Ws.length + 2 ∧ ∀ l ∈ Ls', l ∈ Ls ∨ l.length ≤ 2000000
attribute [local go_sem ↓] run_eql_digest
set_option maxHeartbeats 2000000 in
set_option maxRecDepth 100000 in
theorem words_hash (w : World) (A base : Nat) (sv lv : Value) (m : Nat) (wv ev bv : Value) (Ws Es : List Value) (Ls : List (List Nd)) (Bs : List Bk) (hI : Inv w A base sv lv m wv ev bv Ws Es Ls Bs)
    (a b c d hs gs f0 f1 f2 f3 : Int) (h0 h1 g0 g1 : Int) (s : ByteArray) (nv iv : Value) (hsz : s.size ≤ maxLen) (hnv : ∃ x y z, nv = .slice x y z) (hiv : ∃ x y z, iv = .slice x y z) :
    Calls Tryz.prog 51 #[.pointer (some ⟨A, 0, none⟩), .agg #[.int .i64 1, .int .i64 a, .int .i64 b, .int .i64 c, .int .i64 d, .string s, .int .i64 hs, .int .u8 h0, .int .u8 h1, .int .i64 gs, .int .u8 g0, .int .u8 g1, .int .i64 f0, .int .i64 f1, .int .i64 f2, .int .i64 f3, nv, iv]] w
      (wordsPost w A base sv lv m wv ev bv Ws Es Ls Bs) := by
  obtain ⟨x1, y1, z1, rfl⟩ := hnv
  obtain ⟨x2, y2, z2, rfl⟩ := hiv
  go_enter Tryz.func51, Tryz.ntmps51
  go_wp2_with fail
  refine (Hash_any s _ hsz).mono ?_
  rintro e w1 ⟨rfl, hb1⟩
  have hc1 := oldc hb1
  have z1' : w.heap.size < w1.heap.size := by have := hb1.size; simp at this; omega
  go_wp2_with fail
  refine (refHash_any s _ hsz).mono ?_
  rintro e w2 ⟨rfl, hb2⟩
  have hc2 := oldc hb2
  have z2' : w1.heap.size < w2.heap.size := by have := hb2.size; simp at this; omega
  have B2 : Below w.heap.size w w2 := ((((Below.refl _ _).alloc (Nat.le_refl _) _).trans (hb1.mono (by simp))).alloc (by omega) _).trans (hb2.mono (by simp; omega))
  go_wp2
  go_ret
  exact ⟨by simp, Kept.of_below (B2.alloc (by omega) _) _, m, wv, ev, bv, Ws, Es, Ls, Bs, hI.below (B2.alloc (by omega) _), by omega, by omega, by omega, fun l hl => .inl hl⟩
end Go.Proofs.YtogmdaopfnmobaaGreat

/- A step of kind Read (words of the law's world). -/
namespace Go.Proofs.YtogmdaopfnmobaaGreat
open Go.RowKit
def rdL (o : Option (List Nd)) : List Nd := o.getD []
def rdE (o : Option (List Nd)) : Int := match o with | some _ => 0 | none => 7
theorem readPost_form {o : Option (List Nd)} {w w' : World} {e : Ending} (h : readPost o w e w') : ∃ ao c, e = .returned (.tuple #[.slice ao (rdL o).length c, .int .i64 (rdE o)]) ∧ w'.ownsRow w.heap.size 51 6 (.slice ao (rdL o).length c) (rdL o).length ((rdL o).flatMap Nd.cells) ∧ Below w.heap.size w w' ∧ (o = none → ao = none) := by
  cases o with
  | none =>
    obtain ⟨rfl, hb⟩ := h
    exact ⟨none, 0, rfl, World.ownsRow_nil _ _ _ _, hb, fun _ => rfl⟩
  | some l =>
    obtain ⟨v, rfl, ho, hb⟩ := h
    obtain ⟨ao, c, rfl⟩ := own_shape ho
    exact ⟨ao, c, rfl, ho, hb, fun h => by simp at h⟩
set_option maxHeartbeats 4000000 in
set_option maxRecDepth 100000 in
theorem words_read (w : World) (A base : Nat) (sv lv : Value) (m : Nat) (wv ev bv : Value) (Ws Es : List Value) (Ls : List (List Nd)) (Bs : List Bk) (hI : Inv w A base sv lv m wv ev bv Ws Es Ls Bs)
    (a b c d hs gs f0 f1 f2 f3 : Int) (h0 h1 g0 g1 : Int) (s : ByteArray) (nv iv : Value) (hsz : s.size ≤ maxLen) (hnv : ∃ x y z, nv = .slice x y z) (hiv : ∃ x y z, iv = .slice x y z) (hwl : Ws.length + 1 ≤ 20000000) :
    Calls Tryz.prog 51 #[.pointer (some ⟨A, 0, none⟩), .agg #[.int .i64 3, .int .i64 a, .int .i64 b, .int .i64 c, .int .i64 d, .string s, .int .i64 hs, .int .u8 h0, .int .u8 h1, .int .i64 gs, .int .u8 g0, .int .u8 g1, .int .i64 f0, .int .i64 f1, .int .i64 f2, .int .i64 f3, nv, iv]] w
      (wordsPost w A base sv lv m wv ev bv Ws Es Ls Bs) := by
  obtain ⟨x1, y1, z1, rfl⟩ := hnv
  obtain ⟨x2, y2, z2, rfl⟩ := hiv
  have q25 : ∀ (w : World) (a : Option Addr) (n c n' c' : Nat), (binOp .neq 72 (.slice a n c) (.slice none n' c')).run Tryz.prog w = .ok (.bool (!a.isNone)) w := fun w a n c n' c' => run_neq_slice_nil_any w _ _ a n c n' c' Tryz.underlying72
  obtain ⟨o, ho⟩ : ∃ o, o = readR s.data.toList := ⟨_, rfl⟩
  have K := fun W => Read_any s W hsz
  have KR := fun W => refRead_any s W hsz
  simp only [← ho] at K KR
  have hol : (rdL o).length ≤ 64 := by
    cases o with
    | none => simp [rdL]
    | some l => exact (write_read _ _ ho.symm).1
  clear ho
  go_enter Tryz.func51, Tryz.ntmps51
  go_wp2_with fail
  refine (K _).mono ?_
  intro e w1 hp
  obtain ⟨ao1, c1, rfl, ow1, hb1, hn1⟩ := readPost_form hp
  have hc1 := oldc hb1
  have z1' : w.heap.size < w1.heap.size := by have := hb1.size; simp at this; omega
  clear hp
  go_wp2_with fail
  refine (K _).mono ?_
  intro e w2 hp
  obtain ⟨ao2, c2, rfl, ow2, hb2, hn2⟩ := readPost_form hp
  have hc2 := oldc hb2
  have z2' : w.heap.size < w2.heap.size := by have := hb2.size; omega
  clear hp
  go_wp2_with fail
  refine (KR _).mono ?_
  intro e w3 hp
  obtain ⟨ao3, c3, rfl, ow3, hb3, hn3⟩ := readPost_form hp
  clear hp K KR hc1 hc2
  have ow1' := ownsRow_below (ownsRow_below ow1 hb2) hb3
  have ow2' := ownsRow_below ow2 hb3
  have N1 := nodes_own ow1' (by omega)
  have N2 := nodes_own ow2' (by omega)
  have N3 := nodes_own ow3 (by omega)
  go_wp2_with fail
  refine (sameNodes_any _ _ _ _ w3.heap.size N1 N3).mono ?_
  rintro e w4 ⟨rfl, n4, rfl⟩
  go_wp2_with fail
  refine (sameNodes_any _ _ _ (w3.drewN n4) w3.heap.size (nodes_heap N2 rfl) (nodes_heap N3 rfl)).mono ?_
  rintro e w5 ⟨rfl, n5, h5⟩
  have B35 : Below w3.heap.size w3 w5 := by rw [h5]; exact (below_drewN w3 n4).trans ((below_drewN (w3.drewN n4) n5).mono (Nat.le_refl _))
  clear h5
  go_wp2_with fail
  refine (numE_any _ _).mono ?_
  rintro e w6 ⟨rfl, h6⟩
  rw [h6]
  clear h6
  clear N1 N2 N3 ow3 hn3
  have hs3 : w.heap.size + 1 ≤ w3.heap.size := by have := hb3.size; omega
  have s12 := hb2.size
  have s23 := hb3.size
  have BB : Below w.heap.size w w5 := ((((Below.refl _ _).alloc (Nat.le_refl _) _).trans (hb1.mono (by simp))).trans ((hb2.mono (by omega)).trans (hb3.mono (by omega)))).trans (B35.mono (by omega))
  have hI5 := hI.below BB
  have o1 := own_mono (ownsRow_below ow1' B35) (show base ≤ _ by have := hI.hbs; simp; omega)
  have o2 := own_mono (ownsRow_below ow2' B35) (show base ≤ _ by have := hI.hbs; omega)
  have v1f : ∀ k ∈ ob (.slice ao1 (rdL o).length c1), w.heap.size < k + 0 ∧ k < w1.heap.size := fun k hk => by have h := own_in ow1 k hk; simp at h; omega
  have v2f : ∀ k ∈ ob (.slice ao2 (rdL o).length c2), w1.heap.size ≤ k ∧ k < w2.heap.size := fun k hk => own_in ow2 k hk
  have f1n : ∀ k ∈ ob (.slice ao1 (rdL o).length c1), k ∉ fpOf A wv ev bv Ws Es Bs := fun k hk c => by have := (hI.fp k c).2; have := v1f k hk; omega
  have f2n : ∀ k ∈ ob (.slice ao2 (rdL o).length c2), k ∉ fpOf A wv ev bv Ws Es Bs := fun k hk c => by have := (hI.fp k c).2; have := v2f k hk; omega
  have f12 : ∀ k ∈ ob (.slice ao2 (rdL o).length c2), k ∉ ob (.slice ao1 (rdL o).length c1) := fun k hk c => by have := v1f k c; have := v2f k hk; omega
  have f2s : ∀ k ∈ ob (.slice ao2 (rdL o).length c2), k < w5.heap.size := fun k hk => by have := v2f k hk; have := B35.size; omega
  clear ow1 ow2 ow1' ow2' hb1 hb2 hb3 B35
  have fin : ∀ e7 w7, keepPost w5 A base sv lv m wv ev bv Ws Es Ls Bs (.slice ao1 (rdL o).length c1) (rdL o) e7 w7 → e7 = .returned (.tuple #[]) ∧
      Calls Tryz.prog 97 #[.pointer (some ⟨A, 0, none⟩), .slice ao2 (rdL o).length c2] w7 fun e8 w8 => e8 = .returned (.tuple #[]) ∧ wordsPost w A base sv lv m wv ev bv Ws Es Ls Bs (.returned (.bool true)) w8 := by
    rintro e7 w7 ⟨rfl, hk7, wv7, ev7, u7, hI7, hfp7⟩
    refine ⟨rfl, ?_⟩
    have o27 : w7.ownsRow base 51 6 (.slice ao2 (rdL o).length c2) (rdL o).length ((rdL o).flatMap Nd.cells) := own_keep o2 fun k hk => hk7.block k (f2s k hk) (f2n k hk)
    refine (keep_any w7 A base sv lv m wv7 ev7 bv _ _ _ Bs ao2 _ c2 (rdL o) hI7 o27 rfl (fun k hk c => ?_) (by omega) (by simp; omega)).mono ?_
    · rcases hfp7 k c with h | h | h
      · exact f2n k hk h
      · exact f12 k hk h
      · have := f2s k hk; omega
    · rintro e8 w8 ⟨rfl, hk8, wv8, ev8, u8, hI8, _⟩
      refine ⟨rfl, rfl, ?_, m, wv8, ev8, bv, _, _, _, Bs, hI8, by omega, by omega, by simp, ?_⟩
      · have hBs := BB.size
        refine ((Kept.of_below BB _).trans hk7 (fun x hx => .inl hx)).trans hk8 (fun x hx => ?_)
        rcases hfp7 x hx with h | h | h
        · exact .inl h
        · have := v1f x h; exact .inr (by omega)
        · exact .inr (by omega)
      · intro l hl
        simp only [List.mem_append, List.mem_cons, List.not_mem_nil, or_false] at hl
        rcases hl with (h | h) | h
        · exact .inl h
        · subst h; exact .inr (by omega)
        · subst h; exact .inr (by omega)
  have K7 := keep_any w5 A base sv lv m wv ev bv Ws Es Ls Bs ao1 _ c1 (rdL o) hI5 o1 rfl f1n (by omega) (by omega)
  have F : Hid _ := fin
  have K7' : Hid _ := K7
  clear fin K7 o1 o2 hI5 f1n f2n f12 f2s v1f v2f
  cases o with
  | none =>
    obtain rfl := hn1 rfl
    obtain rfl := hn2 rfl
    have e7 : rdE none = 7 := rfl
    go_wp2_with fail
    refine Calls.mono K7'.out ?_
    intro e7 w7 h7
    obtain ⟨rfl, C8⟩ := F.out e7 w7 h7
    go_wp2_with fail
    refine Calls.mono C8 ?_
    rintro e8 w8 ⟨rfl, hp⟩
    go_wp2
    go_ret
    exact hp
  | some l =>
    have e0 : rdE (some l) = 0 := rfl
    go_wp2_with fail
    refine Calls.mono K7'.out ?_
    intro e7 w7 h7
    obtain ⟨rfl, C8⟩ := F.out e7 w7 h7
    go_wp2_with fail
    refine Calls.mono C8 ?_
    rintro e8 w8 ⟨rfl, hp⟩
    go_wp2
    go_ret
    exact hp
end Go.Proofs.YtogmdaopfnmobaaGreat

/- A step of kind Write (words of the law's world). -/
namespace Go.Proofs.YtogmdaopfnmobaaGreat
open Go.RowKit
theorem wpList_append_copy {ops : Array Oper} {rest : List Oper} {o : Oper} {a : Act} {w : World} {Q : Exit → Act → World → Prop} (hgd : o.guard = none) (s x : Operand)
    (ho : o.op = .call { callee := .builtin .append, args := #[s, x], argTypes := #[72, 72] }) (hs : a.eval s = .slice none 0 0)
    (base : Nat) (ao : Option Addr) (n cap : Nat) (l : List Nd) (hx : a.eval x = .slice ao n cap) (hv : w.ownsRow base 51 6 (.slice ao n cap) n (l.flatMap Nd.cells)) (hn : l.length = n) (hlen : l.length ≤ 2000000) (hb : base ≤ w.heap.size)
    (h : ∀ u w', w'.ownsRow base 51 6 u n (l.flatMap Nd.cells) → Grew w (.slice none 0 0) w' u → wpList Tryz.prog ops Q rest (a.put o.dst u) w') : wpList Tryz.prog ops Q (o :: rest) a w :=
  wpList_plain hgd fun _ hK => by
    obtain ⟨u, w2, hr, h2, h3⟩ := run_append_copy w o.type base ao n cap l hv hn hlen hb
    unfold Oper.wp execOp
    simp only [ho, resolve, invoke, builtin, Sem.run_bind, Sem.run_pure, Result.andThen_ok, List.map_toArray, List.map_cons, List.map_nil, hs, hx, hr]
    exact hK _ _ (h u w2 h2 h3)
theorem grew_below {w w' : World} {u : Value} (h : Grew w (.slice none 0 0) w' u) : Below w.heap.size w w' :=
  ⟨h.grown.os, h.grown.tape, h.grown.output, h.grown.size, fun k hk => h.grown.block k hk (by simp [Value.ownBlock])⟩
set_option maxHeartbeats 4000000 in
set_option maxRecDepth 100000 in
theorem words_write_nil (w : World) (A base : Nat) (sv lv : Value) (m : Nat) (wv ev bv : Value) (Ws Es : List Value) (Ls : List (List Nd)) (Bs : List Bk) (hI : Inv w A base sv lv m wv ev bv Ws Es Ls Bs)
    (a b c d hs gs f0 f1 f2 f3 : Int) (h0 h1 g0 g1 : Int) (s : ByteArray) (iv : Value) (hiv : ∃ x y z, iv = .slice x y z) :
    Calls Tryz.prog 51 #[.pointer (some ⟨A, 0, none⟩), .agg #[.int .i64 2, .int .i64 a, .int .i64 b, .int .i64 c, .int .i64 d, .string s, .int .i64 hs, .int .u8 h0, .int .u8 h1, .int .i64 gs, .int .u8 g0, .int .u8 g1, .int .i64 f0, .int .i64 f1, .int .i64 f2, .int .i64 f3, .slice none 0 0, iv]] w
      (wordsPost w A base sv lv m wv ev bv Ws Es Ls Bs) := by
  obtain ⟨x2, y2, z2, rfl⟩ := hiv
  have hN : ∀ w' : World, Nodes w' w'.heap.size (.slice none 0 0) [] := fun w' => ⟨none, 0, rfl, by decide, fun i hi => by simp at hi⟩
  go_enter Tryz.func51, Tryz.ntmps51
  go_wp2_with fail
  refine (lent_any none 0 0 [] _ (hN _) (by simp)).mono ?_
  rintro e w1 (⟨_, rfl, rfl⟩ | ⟨h, _⟩)
  case inr => exact absurd rfl h
  go_wp2_with fail
  refine (Write_any _ [] _ (hN _)).mono ?_
  rintro e w2 ⟨rfl, hb2⟩
  have hc2 := oldc hb2
  have s2 : w.heap.size < w2.heap.size := by have := hb2.size; simp at this; omega
  have B2 : Below w.heap.size w w2 := ((Below.refl _ _).alloc (Nat.le_refl _) _).trans (hb2.mono (by simp))
  clear hb2
  go_wp2_with fail
  refine (refWrite_any _ [] _ (hN _)).mono ?_
  rintro e w3 ⟨rfl, hb3⟩
  have hc3 := oldc hb3
  have s3 : w.heap.size < w3.heap.size := by have := hb3.size; omega
  have B3 : Below w.heap.size w w3 := B2.trans (hb3.mono (by omega))
  clear hb3 B2
  go_wp2_with fail
  refine (whole_nil _ _ _).mono ?_
  rintro e w4 ⟨rfl, h4⟩
  rw [h4]
  clear h4
  go_wp2_with (at_builtin; refine wpList_append_copy rfl _ _ rfl rfl w3.heap.size none 0 0 [] rfl (World.ownsRow_nil _ _ _ _) rfl (by simp) (Nat.le_refl _) ?_)
  intro u w5 hu hgu
  have B5 := grew_below hgu
  have s5 : w.heap.size < w5.heap.size := by have := B5.size; omega
  have BB : Below w.heap.size w w5 := B3.trans (B5.mono (by omega))
  clear B3 B5 hgu
  obtain ⟨ao5, c5, rfl⟩ := own_shape hu
  go_wp2_with fail
  refine (Write_any _ [] _ (hN _)).mono ?_
  rintro e w6 ⟨rfl, hb6⟩
  have hNu6 := nodes_own (l := []) (ownsRow_below hu hb6) (by simp)
  have B6 : Below w.heap.size w w6 := BB.trans (hb6.mono (by omega))
  have s6 : w.heap.size < w6.heap.size := by have := hb6.size; omega
  clear hb6 BB
  go_wp2_with fail
  refine (refWrite_any _ [] _ hNu6).mono ?_
  rintro e w7 ⟨rfl, hb7⟩
  have B7 : Below w.heap.size w w7 := B6.trans (hb7.mono (by omega))
  have s7 : w.heap.size < w7.heap.size := by have := hb7.size; omega
  clear hb7 B6
  have fin' : wordsPost w A base sv lv m wv ev bv Ws Es Ls Bs (.returned (.bool true)) w7 := ⟨rfl, Kept.of_below B7 _, m, wv, ev, bv, Ws, Es, Ls, Bs, hI.below B7, by omega, by omega, by omega, fun l hl => .inl hl⟩
  have fin : Hid _ := fin'
  clear B7 fin'
  go_wp2_with fail
  refine (numE_any _ _).mono ?_
  rintro e w8 ⟨rfl, h8⟩
  rw [h8]
  clear h8
  go_wp2_with fail
  refine (numE_any _ _).mono ?_
  rintro e w9 ⟨rfl, h9⟩
  rw [h9]
  clear h9
  go_wp2
  go_ret
  first | exact ⟨rfl, fin.out.2⟩ | (simp; exact ⟨rfl, fin.out.2⟩)
set_option maxHeartbeats 4000000 in
set_option maxRecDepth 100000 in
theorem words_write (w : World) (A base : Nat) (sv lv : Value) (m : Nat) (wv ev bv : Value) (Ws Es : List Value) (Ls : List (List Nd)) (Bs : List Bk) (hI : Inv w A base sv lv m wv ev bv Ws Es Ls Bs)
    (a b c d hs gs f0 f1 f2 f3 : Int) (h0 h1 g0 g1 : Int) (s : ByteArray) (iv : Value) (hiv : ∃ x y z, iv = .slice x y z) (ad : Addr) (cap : Nat) (l : List Nd)
    (hN : ∀ w', Kept w w' (fpOf A wv ev bv Ws Es Bs) → Nodes w' w'.heap.size (.slice (some ad) l.length cap) l) (hlen : l.length ≤ 2000000) (hm : m ≤ 20000000) (hbl : Bs.length ≤ 20000000) :
    Calls Tryz.prog 51 #[.pointer (some ⟨A, 0, none⟩), .agg #[.int .i64 2, .int .i64 a, .int .i64 b, .int .i64 c, .int .i64 d, .string s, .int .i64 hs, .int .u8 h0, .int .u8 h1, .int .i64 gs, .int .u8 g0, .int .u8 g1, .int .i64 f0, .int .i64 f1, .int .i64 f2, .int .i64 f3, .slice (some ad) l.length cap, iv]] w
      (wordsPost w A base sv lv m wv ev bv Ws Es Ls Bs) := by
  obtain ⟨x2, y2, z2, rfl⟩ := hiv
  have hbs := hI.hbs
  go_enter Tryz.func51, Tryz.ntmps51
  go_wp2_with fail
  refine (lent_any (some ad) l.length cap l _ (hN _ ((Kept.refl _ _).alloc _)) (by omega)).mono ?_
  rintro e w1 (⟨h, _⟩ | ⟨_, g, rfl, hg, hG1, hb1⟩)
  case inl => exact absurd h (by simp)
  have hc1 := oldc hb1
  have s1 : w.heap.size < w1.heap.size := by have := hb1.size; simp at this; omega
  have B1 : Below w.heap.size w w1 := ((Below.refl _ _).alloc (Nat.le_refl _) _).trans (hb1.mono (by simp))
  have hg' : w.heap.size ≤ g := by simp at hg; omega
  clear hb1 hg
  have own1 : w1.ownsRow base 51 6 (.slice (some ⟨g, 0, none⟩) l.length (l.length + 8)) l.length (l.flatMap Nd.cells) := by
    have := hG1.own (base := base) (cap := l.length + 8) (n := l.length) (by simp; try omega) (by simp; try omega) (by unfold maxLen; omega) (by omega)
    rwa [List.take_append_of_le_length (Nat.le_refl _), List.take_length] at this
  have hgl : g < w1.heap.size := hG1.lt
  go_wp2_with fail
  refine (Write_any _ l _ (nodes_own (own1) (by omega))).mono ?_
  rintro e w2 ⟨rfl, hb2⟩
  have hc2 := oldc hb2
  have s2 : w1.heap.size ≤ w2.heap.size := hb2.size
  have s2' : w.heap.size < w2.heap.size := by omega
  have B2 : Below w.heap.size w w2 := B1.trans (hb2.mono (by omega))
  go_wp2_with fail
  refine (refWrite_any _ l _ (hN _ (Kept.of_below B2 _))).mono ?_
  rintro e w3 ⟨rfl, hb3⟩
  have hc3 := oldc hb3
  have s3 : w2.heap.size ≤ w3.heap.size := hb3.size
  have s3' : w.heap.size < w3.heap.size := by omega
  have B3 : Below w.heap.size w w3 := B2.trans (hb3.mono (by omega))
  have B13 : Below w1.heap.size w1 w3 := hb2.trans (hb3.mono (by omega))
  have hG3 := hG1.below B13 hgl
  clear hb3 hb2 B2 B1 own1 hG1 B13
  go_wp2_with fail
  refine (whole_any w3 A base sv lv m wv ev bv Ws Es Ls Bs g ad cap l (hI.below B3) hG3 (by omega) (fun c => by have := (hI.fp g c).2; omega) (fun w' hk => hN w' ((Kept.of_below B3 _).trans hk (fun x hx => by rcases List.mem_cons.1 hx with rfl | h; exact .inr hg'; exact .inl h))) hlen hm hbl).mono ?_
  rintro e w4 ⟨rfl, hk4, hG4, bv4, hI4⟩
  have K4 : Kept w w4 (fpOf A wv ev bv Ws Es Bs) := (Kept.of_below B3 _).trans hk4 (fun x hx => by rcases List.mem_cons.1 hx with rfl | h; exact .inr hg'; exact .inl h)
  have s4 := hk4.size
  have own4 : w4.ownsRow base 51 6 (.slice (some ⟨g, 0, none⟩) l.length (l.length + 8)) l.length ((List.replicate l.length (Mk ((m + 1 : Nat) : Int))).flatMap Nd.cells) := by
    have := hG4.own (base := base) (cap := l.length + 8) (n := l.length) (by simp; try omega) (by simp; try omega) (by unfold maxLen; omega) (by omega)
    rwa [List.take_replicate, Nat.min_eq_left (by omega)] at this
  have hgl4 : g < w4.heap.size := hG4.lt
  clear hk4 hG3 hN hc1 hc2 hc3 B3 hG4
  obtain ⟨q, hq⟩ : ∃ q, q = List.replicate l.length (Mk ((m + 1 : Nat) : Int)) := ⟨_, rfl⟩
  have hql : q.length = l.length := by rw [hq]; simp
  rw [← hq] at own4
  have hQ : Hid _ := hql
  clear hq hql
  go_wp2_with (at_builtin; refine wpList_append_copy rfl _ _ rfl rfl base (some ⟨g, 0, none⟩) l.length (l.length + 8) q rfl own4 hQ.out (by have := hQ.out; omega) (by omega) ?_)
  intro u w5 hu hgu
  have B5 := grew_below hgu
  have s5 := B5.size
  obtain ⟨ao5, c5, rfl⟩ := own_shape hu
  have own5 := ownsRow_below own4 B5
  have K5 : Kept w w5 (fpOf A wv ev bv Ws Es Bs) := K4.trans (Kept.of_below B5 []) (fun x hx => by simp at hx)
  have hI5 := hI4.below B5
  clear own4 hgu B5 K4 hI4
  have N5 : Nodes w5 w5.heap.size (.slice (some ⟨g, 0, none⟩) l.length (l.length + 8)) q := by have h := hQ.out; exact h ▸ nodes_own (h.symm ▸ own5) (by omega)
  go_wp2_with fail
  refine (Write_any _ q _ N5).mono ?_
  rintro e w6 ⟨rfl, hb6⟩
  have N6 : Nodes w6 w6.heap.size (.slice ao5 l.length c5) q := by have h := hQ.out; exact h ▸ nodes_own (h.symm ▸ ownsRow_below hu hb6) (by omega)
  have s6 := hb6.size
  have K6 : Kept w w6 (fpOf A wv ev bv Ws Es Bs) := K5.trans (Kept.of_below hb6 []) (fun x hx => by simp at hx)
  have hI6 := hI5.below hb6
  clear N5 hb6 K5 hI5 own5 hu
  go_wp2_with fail
  refine (refWrite_any _ q _ N6).mono ?_
  rintro e w7 ⟨rfl, hb7⟩
  have K7 : Kept w w7 (fpOf A wv ev bv Ws Es Bs) := K6.trans (Kept.of_below hb7 []) (fun x hx => by simp at hx)
  have hI7 := hI6.below hb7
  clear hb7 K6 hI6 N6
  have fin' : wordsPost w A base sv lv m wv ev bv Ws Es Ls Bs (.returned (.bool true)) w7 := ⟨rfl, K7, m + 1, wv, ev, bv4, Ws, Es, Ls, _, hI7, by omega, by simp, by omega, fun l hl => .inl hl⟩
  have fin : Hid _ := fin'
  clear K7 hI7 fin'
  go_wp2_with fail
  refine (numE_any _ _).mono ?_
  rintro e w8 ⟨rfl, h8⟩
  rw [h8]
  clear h8
  go_wp2_with fail
  refine (numE_any _ _).mono ?_
  rintro e w9 ⟨rfl, h9⟩
  rw [h9]
  clear h9
  go_wp2
  go_ret
  first | exact ⟨rfl, fin.out.2⟩ | (simp; exact ⟨rfl, fin.out.2⟩)
end Go.Proofs.YtogmdaopfnmobaaGreat

/- One step of the law's world (kinds Hash, Write, Read). -/
namespace Go.Proofs.YtogmdaopfnmobaaGreat
open Go.RowKit
structure OpV where
  k : Int
  a : Int
  b : Int
  c : Int
  d : Int
  s : ByteArray
  hs : Int
  h0 : Int
  h1 : Int
  gs : Int
  g0 : Int
  g1 : Int
  f0 : Int
  f1 : Int
  f2 : Int
  f3 : Int
  nv : Value
  iv : Value
def OpV.cells (o : OpV) : List Value := [.int .i64 o.k, .int .i64 o.a, .int .i64 o.b, .int .i64 o.c, .int .i64 o.d, .string o.s, .int .i64 o.hs, .int .u8 o.h0, .int .u8 o.h1, .int .i64 o.gs, .int .u8 o.g0, .int .u8 o.g1, .int .i64 o.f0, .int .i64 o.f1, .int .i64 o.f2, .int .i64 o.f3, o.nv, o.iv]
def OpV.val (o : OpV) : Value := .agg #[.int .i64 o.k, .int .i64 o.a, .int .i64 o.b, .int .i64 o.c, .int .i64 o.d, .string o.s, .int .i64 o.hs, .int .u8 o.h0, .int .u8 o.h1, .int .i64 o.gs, .int .u8 o.g0, .int .u8 o.g1, .int .i64 o.f0, .int .i64 o.f1, .int .i64 o.f2, .int .i64 o.f3, o.nv, o.iv]
structure OpOk (w : World) (fp : List Nat) (o : OpV) : Prop where
  sz : o.s.size ≤ maxLen
  iv : ∃ x y z, o.iv = .slice x y z
  nv : o.nv = .slice none 0 0 ∨ ∃ ad cap l, o.nv = .slice (some ad) l.length cap ∧ l.length ≤ 2000000 ∧ ∀ w', Kept w w' fp → Nodes w' w'.heap.size (.slice (some ad) l.length cap) l
theorem OpOk.nvs {w : World} {fp : List Nat} {o : OpV} (h : OpOk w fp o) : ∃ x y z, o.nv = .slice x y z := by
  rcases h.nv with e | ⟨ad, cap, l, e, _⟩
  · exact ⟨_, _, _, e⟩
  · exact ⟨_, _, _, e⟩
theorem words_any (w : World) (A base : Nat) (sv lv : Value) (m : Nat) (wv ev bv : Value) (Ws Es : List Value) (Ls : List (List Nd)) (Bs : List Bk) (hI : Inv w A base sv lv m wv ev bv Ws Es Ls Bs)
    (o : OpV) (h1 : 1 ≤ o.k) (h3 : o.k ≤ 3) (ho : OpOk w (fpOf A wv ev bv Ws Es Bs) o) (hm : m ≤ 20000000) (hbl : Bs.length ≤ 20000000) (hwl : Ws.length + 1 ≤ 20000000) :
    Calls Tryz.prog 51 #[.pointer (some ⟨A, 0, none⟩), o.val] w (wordsPost w A base sv lv m wv ev bv Ws Es Ls Bs) := by
  obtain ⟨x1, y1, z1, en⟩ := ho.nvs
  obtain ⟨k, a, b, c, d, s, hs, a0, a1, gs, g0, g1, f0, f1, f2, f3, nv, iv⟩ := o
  have hk : k = 1 ∨ k = 2 ∨ k = 3 := by simp only at h1 h3; omega
  rcases hk with rfl | rfl | rfl
  · exact words_hash w A base sv lv m wv ev bv Ws Es Ls Bs hI a b c d hs gs f0 f1 f2 f3 a0 a1 g0 g1 s nv iv ho.sz ⟨x1, y1, z1, en⟩ ho.iv
  · rcases ho.nv with e | ⟨ad, cap, l, e, hl, hN⟩
    · simp only at e
      subst e
      exact words_write_nil w A base sv lv m wv ev bv Ws Es Ls Bs hI a b c d hs gs f0 f1 f2 f3 a0 a1 g0 g1 s iv ho.iv
    · simp only at e
      subst e
      exact words_write w A base sv lv m wv ev bv Ws Es Ls Bs hI a b c d hs gs f0 f1 f2 f3 a0 a1 g0 g1 s iv ho.iv ad cap l hN hl hm hbl
  · exact words_read w A base sv lv m wv ev bv Ws Es Ls Bs hI a b c d hs gs f0 f1 f2 f3 a0 a1 g0 g1 s nv iv ho.sz ⟨x1, y1, z1, en⟩ ho.iv hwl
theorem OpOk.below {w w' : World} {fp : List Nat} {o : OpV} (h : OpOk w fp o) (hb : Below w.heap.size w w') : OpOk w' fp o :=
  ⟨h.sz, h.iv, by
    rcases h.nv with e | ⟨ad, cap, l, e, hl, hN⟩
    · exact .inl e
    · exact .inr ⟨ad, cap, l, e, hl, fun w2 hk => hN w2 ((Kept.of_below hb fp).trans hk fun x hx => .inl hx)⟩⟩
end Go.Proofs.YtogmdaopfnmobaaGreat

/- What the document's own answer does (notaryref): Cover. -/
namespace Go.Proofs.YtogmdaopfnmobaaGreat
open Go.RowKit
def Sp.cells (p : Sp) : List Value := [.int .i64 p.a, .int .i64 p.b, .bool p.i]
def spRow (l : List Sp) : List Value := l.flatMap Sp.cells
theorem spRow_len (l : List Sp) : (spRow l).length = l.length * 3 := by
  unfold spRow
  induction l with
  | nil => rfl
  | cons p r ih => rw [List.flatMap_cons, List.length_append, ih]; simp [Sp.cells]; omega
theorem spRow_one (l : List Sp) : ∀ u ∈ spRow l, u.oneCell' = true := by
  intro u hu
  obtain ⟨p, _, hp⟩ := List.mem_flatMap.1 hu
  simp only [Sp.cells, List.mem_cons, List.not_mem_nil, or_false] at hp
  rcases hp with rfl | rfl | rfl <;> rfl
theorem spRow_append (l r : List Sp) : spRow (l ++ r) = spRow l ++ spRow r := by simp [spRow]
theorem info_span : (Tryz.prog.info? 188).map (fun i => (i.zero, i.size, i.bytes)) = some (some (.agg #[.int .i64 0, .int .i64 0, .bool false]), 3, 24) := by kernel_rfl
def covPost (l : List Sp) (w : World) (e : Ending) (w' : World) : Prop := ∃ g cap, e = .returned (.slice (some ⟨g, 0, none⟩) l.length cap) ∧ w'.ownsRow w.heap.size 188 3 (.slice (some ⟨g, 0, none⟩) l.length cap) l.length (spRow l) ∧ Below w.heap.size w w'
theorem cov_new (w : World) (p : Sp) (n : Nat) (hn : n = w.heap.size) : (w.alloc (.cells #[.int .i64 p.a, .int .i64 p.b, .bool p.i] 188)).ownsRow w.heap.size 188 3 (.slice (some ⟨n, 0, none⟩) 1 1) 1 (spRow [p]) := by
  subst hn
  exact ⟨rfl, .inr ⟨w.heap.size, 1, _, rfl, Nat.le_refl _, heap_alloc_new w _, Nat.le_refl _, by unfold maxLen; omega, rfl, rfl⟩⟩
theorem cov_fin {w w3 w4 : World} {ao : Option Addr} {p4 g2 p2 : Nat} {x y : List Sp} (ho : w4.ownsRow w.heap.size 188 3 (.slice ao (x.length + y.length) p4) (x.length + y.length) (spRow x ++ spRow y))
    (hg : Grew w3 (.slice (some ⟨g2, 0, none⟩) x.length p2) w4 (.slice ao (x.length + y.length) p4)) (hB : Below w.heap.size w w3) (hgw : w.heap.size ≤ g2) (hx : 1 ≤ x.length) : covPost (x ++ y) w (.returned (.slice ao (x.length + y.length) p4)) w4 := by
  have hb4 : Below w.heap.size w w4 := hB.grown hg.grown hB.size (fun k e => by cases e; exact hgw)
  have ho' := ho
  rcases ho.2 with ⟨_, h0⟩ | ⟨g, cap, cur, e, _⟩
  · omega
  · simp only [Value.slice.injEq] at e
    obtain ⟨rfl, _, rfl⟩ := e
    refine ⟨g, p4, by simp, ?_, hb4⟩
    rw [spRow_append, List.length_append]
    exact ho'
set_option maxHeartbeats 4000000 in
set_option maxRecDepth 100000 in
theorem refCover_leaf (a b f t : Nat) (w : World) (hab : a ≤ b) (hs : a < b ∨ t ≤ a) (ho : isOut a b f t = true ∨ isIn a b f t = true) :
    Calls Tryz.prog 79 #[.int .i64 a, .int .i64 b, .int .i64 f, .int .i64 t] w (covPost (cov a b f t) w) := by
  rw [cov_one a b f t ho]
  by_cases h1 : (t : Int) ≤ f
  · rw [show isIn a b f t = false from by simp [isIn]; omega]
    have h1' : ¬ (f : Int) < t := by omega
    clear ho hs
    by_cases g1 : (f : Int) ≤ a
    · by_cases g2 : (b : Int) ≤ t
      · go_enter Tryz.func79, Tryz.ntmps79
        go_wp2
        go_ret
        exact ⟨_, _, rfl, cov_new w ⟨a, b, false⟩ _ rfl, (Below.refl _ _).alloc (Nat.le_refl _) _⟩
      · go_enter Tryz.func79, Tryz.ntmps79
        go_wp2
        go_ret
        exact ⟨_, _, rfl, cov_new w ⟨a, b, false⟩ _ rfl, (Below.refl _ _).alloc (Nat.le_refl _) _⟩
    · go_enter Tryz.func79, Tryz.ntmps79
      go_wp2
      go_ret
      exact ⟨_, _, rfl, cov_new w ⟨a, b, false⟩ _ rfl, (Below.refl _ _).alloc (Nat.le_refl _) _⟩
  · have h1' : (f : Int) < t := by omega
    by_cases h2 : (t : Int) ≤ a
    · rw [show isIn a b f t = false from by simp [isIn]; omega]
      have g1 : (f : Int) ≤ a := by omega
      clear ho hs
      by_cases g2 : (b : Int) ≤ t
      · have g3 : ¬ (a : Int) < b := by omega
        go_enter Tryz.func79, Tryz.ntmps79
        go_wp2
        go_ret
        exact ⟨_, _, rfl, cov_new w ⟨a, b, false⟩ _ rfl, (Below.refl _ _).alloc (Nat.le_refl _) _⟩
      · go_enter Tryz.func79, Tryz.ntmps79
        go_wp2
        go_ret
        exact ⟨_, _, rfl, cov_new w ⟨a, b, false⟩ _ rfl, (Below.refl _ _).alloc (Nat.le_refl _) _⟩
    · have h0 : (a : Int) < b := by omega
      by_cases h3 : (b : Int) ≤ f
      · rw [show isIn a b f t = false from by simp [isIn]; omega]
        have g1 : ¬ (f : Int) ≤ a := by omega
        clear ho hs
        go_enter Tryz.func79, Tryz.ntmps79
        go_wp2
        go_ret
        exact ⟨_, _, rfl, cov_new w ⟨a, b, false⟩ _ rfl, (Below.refl _ _).alloc (Nat.le_refl _) _⟩
      · have hin : isIn a b f t = true := ho.resolve_left (by simp [isOut]; omega)
        rw [hin]
        have g : f ≤ a ∧ b ≤ t ∧ f < t ∧ a < b := by simpa [isIn] using hin
        have g1 : (f : Int) ≤ a := by omega
        have g2 : (b : Int) ≤ t := by omega
        clear ho hs hin g
        go_enter Tryz.func79, Tryz.ntmps79
        go_wp2
        go_ret
        exact ⟨_, _, rfl, cov_new w ⟨a, b, true⟩ _ rfl, (Below.refl _ _).alloc (Nat.le_refl _) _⟩
set_option maxHeartbeats 4000000 in
set_option maxRecDepth 100000 in
theorem refCover_any (f t : Nat) (hf64 : f ≤ 64) (ht64 : t ≤ 64) : ∀ (n a b : Nat) (w : World), b - a ≤ n → a ≤ b → b ≤ 64 → (a < b ∨ t ≤ a) →
    Calls Tryz.prog 79 #[.int .i64 a, .int .i64 b, .int .i64 f, .int .i64 t] w (covPost (cov a b f t) w) := by
  obtain ⟨i0, hi, hz0, hz1, hz2⟩ := info_parts info_span
  intro n
  induction n with
  | zero =>
    intro a b w hn hab hb64 hs
    exact refCover_leaf a b f t w hab hs (.inl (by simp [isOut]; omega))
  | succ n ih =>
    intro a b w hn hab hb64 hs
    by_cases ho : isOut a b f t = true ∨ isIn a b f t = true
    · exact refCover_leaf a b f t w hab hs ho
    have ho1 : ¬ (t ≤ f ∨ t ≤ a ∨ b ≤ f) := fun h => ho (.inl (by simpa [isOut] using h))
    have ho2 : ¬ (f ≤ a ∧ b ≤ t ∧ f < t ∧ a < b) := fun h => ho (.inr (by simpa [isIn] using h))
    have hb2 : a + 2 ≤ b := by omega
    rw [cov_two a b f t (by simpa using fun h => ho (.inl h)) (by simpa using fun h => ho (.inr h)) hb2]
    have p := hf_pos (b - a)
    have q := hf_lt (b - a) (by omega)
    have h1 : ¬ (t : Int) ≤ f := by omega
    have h2 : ¬ (t : Int) ≤ a := by omega
    have h3 : ¬ (b : Int) ≤ f := by omega
    have h4 : (f : Int) < t := by omega
    have h5 : (a : Int) < b := by omega
    have hsub : (b : Int) - a = ((b - a : Nat) : Int) := by omega
    obtain ⟨m, hm⟩ : ∃ m, m = b - a := ⟨_, rfl⟩
    rw [← hm] at p q hsub ⊢
    have I1 : ∀ w', Hid (Calls Tryz.prog 79 #[.int .i64 a, .int .i64 ((a + hf m : Nat) : Int), .int .i64 f, .int .i64 t] w' (covPost (cov a (a + hf m) f t) w')) := fun w' => ih a (a + hf m) w' (by omega) (by omega) (by omega) (by omega)
    have I2 : ∀ w', Hid (Calls Tryz.prog 79 #[.int .i64 ((a + hf m : Nat) : Int), .int .i64 b, .int .i64 f, .int .i64 t] w' (covPost (cov (a + hf m) b f t) w')) := fun w' => ih (a + hf m) b w' (by omega) (by omega) (by omega) (by omega)
    have L1 := cov_len f t m a (a + hf m) (by omega)
    have L2 := cov_len f t m (a + hf m) b (by omega)
    have HH : ∀ w', Hid (Calls Tryz.prog 88 #[.int .i64 m] w' _) := fun w' => refHalf_any m w' (by omega) (by omega)
    generalize cov a (a + hf m) f t = x at I1 L1
    generalize cov (a + hf m) b f t = y at I2 L2
    generalize hf m = k at p q I1 I2 HH L1 L2
    have hcast : ((a + k : Nat) : Int) = (a : Int) + k := by omega
    rw [hcast] at I1 I2
    have Lx1 : 1 ≤ x.length := by omega
    have Lx2 : x.length ≤ 64 := by omega
    have Ly2 : y.length ≤ 64 := by omega
    have hak : a + k ≤ 64 := by omega
    clear hm hcast ih ho ho1 L1 L2 hs
    by_cases g1 : (f : Int) ≤ a
    · have g2 : ¬ (b : Int) ≤ t := by omega
      clear ho2
      go_enter Tryz.func79, Tryz.ntmps79
      go_wp2_with fail
      refine (HH _).out.mono ?_
      rintro e w1 ⟨rfl, hb1⟩
      clear HH
      go_wp2_with fail
      refine (I1 _).out.mono ?_
      rintro e w2 ⟨g2, p2, rfl, hr2, hb2⟩
      have B2 : Hid (Below w.heap.size w w2) := hb1.trans (hb2.mono hb1.size)
      have R2 : Hid (w2.ownsRow w.heap.size 188 3 _ x.length (spRow x)) := own_mono hr2 hb1.size
      have hgw : w.heap.size ≤ g2 := (own_in R2.out g2 (mem_ob.2 rfl)).1
      clear hb1 hb2 hr2 I1
      go_wp2_with fail
      refine (I2 _).out.mono ?_
      rintro e w3 ⟨g3, p3, rfl, hr3, hb3⟩
      have B3 : Hid (Below w.heap.size w w3) := B2.out.trans (hb3.mono B2.out.size)
      have R3 : w3.ownsRow w.heap.size 188 3 (.slice (some ⟨g2, 0, none⟩) x.length p2) x.length (spRow x) := own_keep R2.out fun k hk => hb3.block k (own_in R2.out k hk).2
      have N3 := hr3.cells (g := g3) rfl
      have z3 := B3.out.size
      clear hb3 hr3 I2 B2 R2
      go_wp2_with (at_builtin; refine wpList_append_grew _ rfl _ _ 144 rfl w.heap.size 188 i0 (.agg #[.int .i64 0, .int .i64 0, .bool false]) 3 24 Tryz.underlying144 hi hz0 hz1 hz2 rfl (by decide) _ _ _ rfl R3 ⟨g3, 0, none⟩ y.length p3 (spRow y) rfl (spRow_len y) N3 (spRow_one y) (by unfold maxLen; omega) (by omega) z3 ?_)
      rintro v' w4 ho4 hg4 hnil
      obtain ⟨ao4, p4, rfl⟩ : ∃ ao4 p4, v' = .slice ao4 (x.length + y.length) p4 := own_shape ho4
      have fin : Hid (covPost (x ++ y) w (.returned (.slice ao4 (x.length + y.length) p4)) w4) := cov_fin ho4 hg4 B3.out hgw Lx1
      clear ho4 hg4 hnil R3 N3 z3 B3
      go_wp2
      go_ret
      exact fin.out
    · clear ho2
      go_enter Tryz.func79, Tryz.ntmps79
      go_wp2_with fail
      refine (HH _).out.mono ?_
      rintro e w1 ⟨rfl, hb1⟩
      clear HH
      go_wp2_with fail
      refine (I1 _).out.mono ?_
      rintro e w2 ⟨g2, p2, rfl, hr2, hb2⟩
      have B2 : Hid (Below w.heap.size w w2) := hb1.trans (hb2.mono hb1.size)
      have R2 : Hid (w2.ownsRow w.heap.size 188 3 _ x.length (spRow x)) := own_mono hr2 hb1.size
      have hgw : w.heap.size ≤ g2 := (own_in R2.out g2 (mem_ob.2 rfl)).1
      clear hb1 hb2 hr2 I1
      go_wp2_with fail
      refine (I2 _).out.mono ?_
      rintro e w3 ⟨g3, p3, rfl, hr3, hb3⟩
      have B3 : Hid (Below w.heap.size w w3) := B2.out.trans (hb3.mono B2.out.size)
      have R3 : w3.ownsRow w.heap.size 188 3 (.slice (some ⟨g2, 0, none⟩) x.length p2) x.length (spRow x) := own_keep R2.out fun k hk => hb3.block k (own_in R2.out k hk).2
      have N3 := hr3.cells (g := g3) rfl
      have z3 := B3.out.size
      clear hb3 hr3 I2 B2 R2
      go_wp2_with (at_builtin; refine wpList_append_grew _ rfl _ _ 144 rfl w.heap.size 188 i0 (.agg #[.int .i64 0, .int .i64 0, .bool false]) 3 24 Tryz.underlying144 hi hz0 hz1 hz2 rfl (by decide) _ _ _ rfl R3 ⟨g3, 0, none⟩ y.length p3 (spRow y) rfl (spRow_len y) N3 (spRow_one y) (by unfold maxLen; omega) (by omega) z3 ?_)
      rintro v' w4 ho4 hg4 hnil
      obtain ⟨ao4, p4, rfl⟩ : ∃ ao4 p4, v' = .slice ao4 (x.length + y.length) p4 := own_shape ho4
      have fin : Hid (covPost (x ++ y) w (.returned (.slice ao4 (x.length + y.length) p4)) w4) := cov_fin ho4 hg4 B3.out hgw Lx1
      clear ho4 hg4 hnil R3 N3 z3 B3
      go_wp2
      go_ret
      exact fin.out
end Go.Proofs.YtogmdaopfnmobaaGreat

