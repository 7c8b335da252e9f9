/- A step of kind Write (words of the law's world). -/
import Derived.Test.YtlggbcceoejkkaaGreatWords2
namespace Go.Proofs.YtlggbcceoejkkaaGreat
open Go.RowKit

theorem wpList_append_copy {ops : Array Oper} {rest : List Oper} {o : Oper} {a : Act} {w : World} {Q : Exit → Act → World → Prop} (hgd : o.guard = none) (s x : Operand)
    (ho : o.op = .call { callee := .builtin .append, args := #[s, x], argTypes := #[39, 39] }) (hs : a.eval s = .slice none 0 0)
    (base : Nat) (ao : Option Addr) (n cap : Nat) (l : List Nd) (hx : a.eval x = .slice ao n cap) (hv : w.ownsRow base 46 6 (.slice ao n cap) n (l.flatMap Nd.cells)) (hn : l.length = n) (hlen : l.length ≤ 2000000) (hb : base ≤ w.heap.size)
    (h : ∀ u w', w'.ownsRow base 46 6 u n (l.flatMap Nd.cells) → Grew w (.slice none 0 0) w' u → wpList Tryz.prog ops Q rest (a.put o.dst u) w') : wpList Tryz.prog ops Q (o :: rest) a w :=
  wpList_plain hgd fun _ hK => by
    obtain ⟨u, w2, hr, h2, h3⟩ := run_append_copy w o.type base ao n cap l hv hn hlen hb
    unfold Oper.wp execOp
    simp only [ho, resolve, invoke, builtin, Sem.run_bind, Sem.run_pure, Result.andThen_ok, List.map_toArray, List.map_cons, List.map_nil, hs, hx, hr]
    exact hK _ _ (h u w2 h2 h3)

theorem grew_below {w w' : World} {u : Value} (h : Grew w (.slice none 0 0) w' u) : Below w.heap.size w w' :=
  ⟨h.grown.os, h.grown.tape, h.grown.output, h.grown.size, fun k hk => h.grown.block k hk (by simp [Value.ownBlock])⟩

set_option maxHeartbeats 4000000 in
set_option maxRecDepth 100000 in
theorem words_write_nil (w : World) (A base : Nat) (sv lv : Value) (m : Nat) (wv ev bv : Value) (Ws Es : List Value) (Ls : List (List Nd)) (Bs : List Bk) (hI : Inv w A base sv lv m wv ev bv Ws Es Ls Bs)
    (a b c d hs gs f0 f1 f2 f3 : Int) (h0 h1 g0 g1 : Int) (s : ByteArray) (iv : Value) (hiv : ∃ x y z, iv = .slice x y z) :
    Calls Tryz.prog 11 #[.pointer (some ⟨A, 0, none⟩), .agg #[.int .i64 2, .int .i64 a, .int .i64 b, .int .i64 c, .int .i64 d, .string s, .int .i64 hs, .int .u8 h0, .int .u8 h1, .int .i64 gs, .int .u8 g0, .int .u8 g1, .int .i64 f0, .int .i64 f1, .int .i64 f2, .int .i64 f3, .slice none 0 0, iv]] w
      (wordsPost w A base sv lv m wv ev bv Ws Es Ls Bs) := by
  obtain ⟨x2, y2, z2, rfl⟩ := hiv
  have hN : ∀ w' : World, Nodes w' w'.heap.size (.slice none 0 0) [] := fun w' => ⟨none, 0, rfl, by decide, fun i hi => by simp at hi⟩
  go_enter Tryz.func11, Tryz.ntmps11
  go_wp2_with fail
  refine (lent_any none 0 0 [] _ (hN _) (by simp)).mono ?_
  rintro e w1 (⟨_, rfl, rfl⟩ | ⟨h, _⟩)
  case inr => exact absurd rfl h
  go_wp2_with fail
  refine (Write_any _ [] _ (hN _)).mono ?_
  rintro e w2 ⟨rfl, hb2⟩
  have hc2 := oldc hb2
  have s2 : w.heap.size < w2.heap.size := by have := hb2.size; simp at this; omega
  have B2 : Below w.heap.size w w2 := ((Below.refl _ _).alloc (Nat.le_refl _) _).trans (hb2.mono (by simp))
  clear hb2
  go_wp2_with fail
  refine (refWrite_any _ [] _ (hN _)).mono ?_
  rintro e w3 ⟨rfl, hb3⟩
  have hc3 := oldc hb3
  have s3 : w.heap.size < w3.heap.size := by have := hb3.size; omega
  have B3 : Below w.heap.size w w3 := B2.trans (hb3.mono (by omega))
  clear hb3 B2
  go_wp2_with fail
  refine (whole_nil _ _ _).mono ?_
  rintro e w4 ⟨rfl, h4⟩
  rw [h4]
  clear h4
  go_wp2_with (at_builtin; refine wpList_append_copy rfl _ _ rfl rfl w3.heap.size none 0 0 [] rfl (World.ownsRow_nil _ _ _ _) rfl (by simp) (Nat.le_refl _) ?_)
  intro u w5 hu hgu
  have B5 := grew_below hgu
  have s5 : w.heap.size < w5.heap.size := by have := B5.size; omega
  have BB : Below w.heap.size w w5 := B3.trans (B5.mono (by omega))
  clear B3 B5 hgu
  obtain ⟨ao5, c5, rfl⟩ := own_shape hu
  go_wp2_with fail
  refine (Write_any _ [] _ (hN _)).mono ?_
  rintro e w6 ⟨rfl, hb6⟩
  have hNu6 := nodes_own (l := []) (ownsRow_below hu hb6) (by simp)
  have B6 : Below w.heap.size w w6 := BB.trans (hb6.mono (by omega))
  have s6 : w.heap.size < w6.heap.size := by have := hb6.size; omega
  clear hb6 BB
  go_wp2_with fail
  refine (refWrite_any _ [] _ hNu6).mono ?_
  rintro e w7 ⟨rfl, hb7⟩
  have B7 : Below w.heap.size w w7 := B6.trans (hb7.mono (by omega))
  have s7 : w.heap.size < w7.heap.size := by have := hb7.size; omega
  clear hb7 B6
  have fin' : wordsPost w A base sv lv m wv ev bv Ws Es Ls Bs (.returned (.bool true)) w7 := ⟨rfl, Kept.of_below B7 _, m, wv, ev, bv, Ws, Es, Ls, Bs, hI.below B7, by omega, by omega, by omega, fun l hl => .inl hl⟩
  have fin : Hid _ := fin'
  clear B7 fin'
  go_wp2_with fail
  refine (numE_any _ _).mono ?_
  rintro e w8 ⟨rfl, h8⟩
  rw [h8]
  clear h8
  go_wp2_with fail
  refine (numE_any _ _).mono ?_
  rintro e w9 ⟨rfl, h9⟩
  rw [h9]
  clear h9
  go_wp2
  go_ret
  first | exact ⟨rfl, fin.out.2⟩ | (simp; exact ⟨rfl, fin.out.2⟩)

set_option maxHeartbeats 4000000 in
set_option maxRecDepth 100000 in
theorem words_write (w : World) (A base : Nat) (sv lv : Value) (m : Nat) (wv ev bv : Value) (Ws Es : List Value) (Ls : List (List Nd)) (Bs : List Bk) (hI : Inv w A base sv lv m wv ev bv Ws Es Ls Bs)
    (a b c d hs gs f0 f1 f2 f3 : Int) (h0 h1 g0 g1 : Int) (s : ByteArray) (iv : Value) (hiv : ∃ x y z, iv = .slice x y z) (ad : Addr) (cap : Nat) (l : List Nd)
    (hN : ∀ w', Kept w w' (fpOf A wv ev bv Ws Es Bs) → Nodes w' w'.heap.size (.slice (some ad) l.length cap) l) (hlen : l.length ≤ 2000000) (hm : m ≤ 20000000) (hbl : Bs.length ≤ 20000000) :
    Calls Tryz.prog 11 #[.pointer (some ⟨A, 0, none⟩), .agg #[.int .i64 2, .int .i64 a, .int .i64 b, .int .i64 c, .int .i64 d, .string s, .int .i64 hs, .int .u8 h0, .int .u8 h1, .int .i64 gs, .int .u8 g0, .int .u8 g1, .int .i64 f0, .int .i64 f1, .int .i64 f2, .int .i64 f3, .slice (some ad) l.length cap, iv]] w
      (wordsPost w A base sv lv m wv ev bv Ws Es Ls Bs) := by
  obtain ⟨x2, y2, z2, rfl⟩ := hiv
  have hbs := hI.hbs
  go_enter Tryz.func11, Tryz.ntmps11
  go_wp2_with fail
  refine (lent_any (some ad) l.length cap l _ (hN _ ((Kept.refl _ _).alloc _)) (by omega)).mono ?_
  rintro e w1 (⟨h, _⟩ | ⟨_, g, rfl, hg, hG1, hb1⟩)
  case inl => exact absurd h (by simp)
  have hc1 := oldc hb1
  have s1 : w.heap.size < w1.heap.size := by have := hb1.size; simp at this; omega
  have B1 : Below w.heap.size w w1 := ((Below.refl _ _).alloc (Nat.le_refl _) _).trans (hb1.mono (by simp))
  have hg' : w.heap.size ≤ g := by simp at hg; omega
  clear hb1 hg
  have own1 : w1.ownsRow base 46 6 (.slice (some ⟨g, 0, none⟩) l.length (l.length + 8)) l.length (l.flatMap Nd.cells) := by
    have := hG1.own (base := base) (cap := l.length + 8) (n := l.length) (by simp; try omega) (by simp; try omega) (by unfold maxLen; omega) (by omega)
    rwa [List.take_append_of_le_length (Nat.le_refl _), List.take_length] at this
  have hgl : g < w1.heap.size := hG1.lt
  go_wp2_with fail
  refine (Write_any _ l _ (nodes_own (own1) (by omega))).mono ?_
  rintro e w2 ⟨rfl, hb2⟩
  have hc2 := oldc hb2
  have s2 : w1.heap.size ≤ w2.heap.size := hb2.size
  have s2' : w.heap.size < w2.heap.size := by omega
  have B2 : Below w.heap.size w w2 := B1.trans (hb2.mono (by omega))
  go_wp2_with fail
  refine (refWrite_any _ l _ (hN _ (Kept.of_below B2 _))).mono ?_
  rintro e w3 ⟨rfl, hb3⟩
  have hc3 := oldc hb3
  have s3 : w2.heap.size ≤ w3.heap.size := hb3.size
  have s3' : w.heap.size < w3.heap.size := by omega
  have B3 : Below w.heap.size w w3 := B2.trans (hb3.mono (by omega))
  have B13 : Below w1.heap.size w1 w3 := hb2.trans (hb3.mono (by omega))
  have hG3 := hG1.below B13 hgl
  clear hb3 hb2 B2 B1 own1 hG1 B13
  go_wp2_with fail
  refine (whole_any w3 A base sv lv m wv ev bv Ws Es Ls Bs g ad cap l (hI.below B3) hG3 (by omega) (fun c => by have := (hI.fp g c).2; omega) (fun w' hk => hN w' ((Kept.of_below B3 _).trans hk (fun x hx => by rcases List.mem_cons.1 hx with rfl | h; exact .inr hg'; exact .inl h))) hlen hm hbl).mono ?_
  rintro e w4 ⟨rfl, hk4, hG4, bv4, hI4⟩
  have K4 : Kept w w4 (fpOf A wv ev bv Ws Es Bs) := (Kept.of_below B3 _).trans hk4 (fun x hx => by rcases List.mem_cons.1 hx with rfl | h; exact .inr hg'; exact .inl h)
  have s4 := hk4.size
  have own4 : w4.ownsRow base 46 6 (.slice (some ⟨g, 0, none⟩) l.length (l.length + 8)) l.length ((List.replicate l.length (Mk ((m + 1 : Nat) : Int))).flatMap Nd.cells) := by
    have := hG4.own (base := base) (cap := l.length + 8) (n := l.length) (by simp; try omega) (by simp; try omega) (by unfold maxLen; omega) (by omega)
    rwa [List.take_replicate, Nat.min_eq_left (by omega)] at this
  have hgl4 : g < w4.heap.size := hG4.lt
  clear hk4 hG3 hN hc1 hc2 hc3 B3 hG4
  obtain ⟨q, hq⟩ : ∃ q, q = List.replicate l.length (Mk ((m + 1 : Nat) : Int)) := ⟨_, rfl⟩
  have hql : q.length = l.length := by rw [hq]; simp
  rw [← hq] at own4
  have hQ : Hid _ := hql
  clear hq hql
  go_wp2_with (at_builtin; refine wpList_append_copy rfl _ _ rfl rfl base (some ⟨g, 0, none⟩) l.length (l.length + 8) q rfl own4 hQ.out (by have := hQ.out; omega) (by omega) ?_)
  intro u w5 hu hgu
  have B5 := grew_below hgu
  have s5 := B5.size
  obtain ⟨ao5, c5, rfl⟩ := own_shape hu
  have own5 := ownsRow_below own4 B5
  have K5 : Kept w w5 (fpOf A wv ev bv Ws Es Bs) := K4.trans (Kept.of_below B5 []) (fun x hx => by simp at hx)
  have hI5 := hI4.below B5
  clear own4 hgu B5 K4 hI4
  have N5 : Nodes w5 w5.heap.size (.slice (some ⟨g, 0, none⟩) l.length (l.length + 8)) q := by have h := hQ.out; exact h ▸ nodes_own (h.symm ▸ own5) (by omega)
  go_wp2_with fail
  refine (Write_any _ q _ N5).mono ?_
  rintro e w6 ⟨rfl, hb6⟩
  have N6 : Nodes w6 w6.heap.size (.slice ao5 l.length c5) q := by have h := hQ.out; exact h ▸ nodes_own (h.symm ▸ ownsRow_below hu hb6) (by omega)
  have s6 := hb6.size
  have K6 : Kept w w6 (fpOf A wv ev bv Ws Es Bs) := K5.trans (Kept.of_below hb6 []) (fun x hx => by simp at hx)
  have hI6 := hI5.below hb6
  clear N5 hb6 K5 hI5 own5 hu
  go_wp2_with fail
  refine (refWrite_any _ q _ N6).mono ?_
  rintro e w7 ⟨rfl, hb7⟩
  have K7 : Kept w w7 (fpOf A wv ev bv Ws Es Bs) := K6.trans (Kept.of_below hb7 []) (fun x hx => by simp at hx)
  have hI7 := hI6.below hb7
  clear hb7 K6 hI6 N6
  have fin' : wordsPost w A base sv lv m wv ev bv Ws Es Ls Bs (.returned (.bool true)) w7 := ⟨rfl, K7, m + 1, wv, ev, bv4, Ws, Es, Ls, _, hI7, by omega, by simp, by omega, fun l hl => .inl hl⟩
  have fin : Hid _ := fin'
  clear K7 hI7 fin'
  go_wp2_with fail
  refine (numE_any _ _).mono ?_
  rintro e w8 ⟨rfl, h8⟩
  rw [h8]
  clear h8
  go_wp2_with fail
  refine (numE_any _ _).mono ?_
  rintro e w9 ⟨rfl, h9⟩
  rw [h9]
  clear h9
  go_wp2
  go_ret
  first | exact ⟨rfl, fin.out.2⟩ | (simp; exact ⟨rfl, fin.out.2⟩)

end Go.Proofs.YtlggbcceoejkkaaGreat
