/- A step of kind Read (words of the law's world). -/
import Derived.Test.YtlggbcceoejkkaaGreatWords1
namespace Go.Proofs.YtlggbcceoejkkaaGreat
open Go.RowKit

/-- What is read: a list, its error. -/
def rdL (o : Option (List Nd)) : List Nd := o.getD []
def rdE (o : Option (List Nd)) : Int := match o with | some _ => 0 | none => 7
theorem readPost_form {o : Option (List Nd)} {w w' : World} {e : Ending} (h : readPost o w e w') : ∃ ao c, e = .returned (.tuple #[.slice ao (rdL o).length c, .int .i64 (rdE o)]) ∧ w'.ownsRow w.heap.size 46 6 (.slice ao (rdL o).length c) (rdL o).length ((rdL o).flatMap Nd.cells) ∧ Below w.heap.size w w' ∧ (o = none → ao = none) := by
  cases o with
  | none =>
    obtain ⟨rfl, hb⟩ := h
    exact ⟨none, 0, rfl, World.ownsRow_nil _ _ _ _, hb, fun _ => rfl⟩
  | some l =>
    obtain ⟨v, rfl, ho, hb⟩ := h
    obtain ⟨ao, c, rfl⟩ := own_shape ho
    exact ⟨ao, c, rfl, ho, hb, fun h => by simp at h⟩

set_option maxHeartbeats 4000000 in
set_option maxRecDepth 100000 in
theorem words_read (w : World) (A base : Nat) (sv lv : Value) (m : Nat) (wv ev bv : Value) (Ws Es : List Value) (Ls : List (List Nd)) (Bs : List Bk) (hI : Inv w A base sv lv m wv ev bv Ws Es Ls Bs)
    (a b c d hs gs f0 f1 f2 f3 : Int) (h0 h1 g0 g1 : Int) (s : ByteArray) (nv iv : Value) (hsz : s.size ≤ maxLen) (hnv : ∃ x y z, nv = .slice x y z) (hiv : ∃ x y z, iv = .slice x y z) (hwl : Ws.length + 1 ≤ 20000000) :
    Calls Tryz.prog 11 #[.pointer (some ⟨A, 0, none⟩), .agg #[.int .i64 3, .int .i64 a, .int .i64 b, .int .i64 c, .int .i64 d, .string s, .int .i64 hs, .int .u8 h0, .int .u8 h1, .int .i64 gs, .int .u8 g0, .int .u8 g1, .int .i64 f0, .int .i64 f1, .int .i64 f2, .int .i64 f3, nv, iv]] w
      (wordsPost w A base sv lv m wv ev bv Ws Es Ls Bs) := by
  obtain ⟨x1, y1, z1, rfl⟩ := hnv
  obtain ⟨x2, y2, z2, rfl⟩ := hiv
  have q25 : ∀ (w : World) (a : Option Addr) (n c n' c' : Nat), (binOp .neq 39 (.slice a n c) (.slice none n' c')).run Tryz.prog w = .ok (.bool (!a.isNone)) w := fun w a n c n' c' => run_neq_slice_nil_any w _ _ a n c n' c' Tryz.underlying39
  obtain ⟨o, ho⟩ : ∃ o, o = readR s.data.toList := ⟨_, rfl⟩
  have K := fun W => Read_any s W hsz
  have KR := fun W => refRead_any s W hsz
  simp only [← ho] at K KR
  have hol : (rdL o).length ≤ 64 := by
    cases o with
    | none => simp [rdL]
    | some l => exact (write_read _ _ ho.symm).1
  clear ho
  go_enter Tryz.func11, Tryz.ntmps11
  go_wp2_with fail
  refine (K _).mono ?_
  intro e w1 hp
  obtain ⟨ao1, c1, rfl, ow1, hb1, hn1⟩ := readPost_form hp
  have hc1 := oldc hb1
  have z1' : w.heap.size < w1.heap.size := by have := hb1.size; simp at this; omega
  clear hp
  go_wp2_with fail
  refine (K _).mono ?_
  intro e w2 hp
  obtain ⟨ao2, c2, rfl, ow2, hb2, hn2⟩ := readPost_form hp
  have hc2 := oldc hb2
  have z2' : w.heap.size < w2.heap.size := by have := hb2.size; omega
  clear hp
  go_wp2_with fail
  refine (KR _).mono ?_
  intro e w3 hp
  obtain ⟨ao3, c3, rfl, ow3, hb3, hn3⟩ := readPost_form hp
  clear hp K KR hc1 hc2
  have ow1' := ownsRow_below (ownsRow_below ow1 hb2) hb3
  have ow2' := ownsRow_below ow2 hb3
  have N1 := nodes_own ow1' (by omega)
  have N2 := nodes_own ow2' (by omega)
  have N3 := nodes_own ow3 (by omega)
  go_wp2_with fail
  refine (sameNodes_any _ _ _ _ w3.heap.size N1 N3).mono ?_
  rintro e w4 ⟨rfl, n4, rfl⟩
  go_wp2_with fail
  refine (sameNodes_any _ _ _ (w3.drewN n4) w3.heap.size (nodes_heap N2 rfl) (nodes_heap N3 rfl)).mono ?_
  rintro e w5 ⟨rfl, n5, h5⟩
  have B35 : Below w3.heap.size w3 w5 := by rw [h5]; exact (below_drewN w3 n4).trans ((below_drewN (w3.drewN n4) n5).mono (Nat.le_refl _))
  clear h5
  go_wp2_with fail
  refine (numE_any _ _).mono ?_
  rintro e w6 ⟨rfl, h6⟩
  rw [h6]
  clear h6
  clear N1 N2 N3 ow3 hn3
  have hs3 : w.heap.size + 1 ≤ w3.heap.size := by have := hb3.size; omega
  have s12 := hb2.size
  have s23 := hb3.size
  have BB : Below w.heap.size w w5 := ((((Below.refl _ _).alloc (Nat.le_refl _) _).trans (hb1.mono (by simp))).trans ((hb2.mono (by omega)).trans (hb3.mono (by omega)))).trans (B35.mono (by omega))
  have hI5 := hI.below BB
  have o1 := own_mono (ownsRow_below ow1' B35) (show base ≤ _ by have := hI.hbs; simp; omega)
  have o2 := own_mono (ownsRow_below ow2' B35) (show base ≤ _ by have := hI.hbs; omega)
  have v1f : ∀ k ∈ ob (.slice ao1 (rdL o).length c1), w.heap.size < k + 0 ∧ k < w1.heap.size := fun k hk => by have h := own_in ow1 k hk; simp at h; omega
  have v2f : ∀ k ∈ ob (.slice ao2 (rdL o).length c2), w1.heap.size ≤ k ∧ k < w2.heap.size := fun k hk => own_in ow2 k hk
  have f1n : ∀ k ∈ ob (.slice ao1 (rdL o).length c1), k ∉ fpOf A wv ev bv Ws Es Bs := fun k hk c => by have := (hI.fp k c).2; have := v1f k hk; omega
  have f2n : ∀ k ∈ ob (.slice ao2 (rdL o).length c2), k ∉ fpOf A wv ev bv Ws Es Bs := fun k hk c => by have := (hI.fp k c).2; have := v2f k hk; omega
  have f12 : ∀ k ∈ ob (.slice ao2 (rdL o).length c2), k ∉ ob (.slice ao1 (rdL o).length c1) := fun k hk c => by have := v1f k c; have := v2f k hk; omega
  have f2s : ∀ k ∈ ob (.slice ao2 (rdL o).length c2), k < w5.heap.size := fun k hk => by have := v2f k hk; have := B35.size; omega
  clear ow1 ow2 ow1' ow2' hb1 hb2 hb3 B35
  have fin : ∀ e7 w7, keepPost w5 A base sv lv m wv ev bv Ws Es Ls Bs (.slice ao1 (rdL o).length c1) (rdL o) e7 w7 → e7 = .returned (.tuple #[]) ∧
      Calls Tryz.prog 30 #[.pointer (some ⟨A, 0, none⟩), .slice ao2 (rdL o).length c2] w7 fun e8 w8 => e8 = .returned (.tuple #[]) ∧ wordsPost w A base sv lv m wv ev bv Ws Es Ls Bs (.returned (.bool true)) w8 := by
    rintro e7 w7 ⟨rfl, hk7, wv7, ev7, u7, hI7, hfp7⟩
    refine ⟨rfl, ?_⟩
    have o27 : w7.ownsRow base 46 6 (.slice ao2 (rdL o).length c2) (rdL o).length ((rdL o).flatMap Nd.cells) := own_keep o2 fun k hk => hk7.block k (f2s k hk) (f2n k hk)
    refine (keep_any w7 A base sv lv m wv7 ev7 bv _ _ _ Bs ao2 _ c2 (rdL o) hI7 o27 rfl (fun k hk c => ?_) (by omega) (by simp; omega)).mono ?_
    · rcases hfp7 k c with h | h | h
      · exact f2n k hk h
      · exact f12 k hk h
      · have := f2s k hk; omega
    · rintro e8 w8 ⟨rfl, hk8, wv8, ev8, u8, hI8, _⟩
      refine ⟨rfl, rfl, ?_, m, wv8, ev8, bv, _, _, _, Bs, hI8, by omega, by omega, by simp, ?_⟩
      · have hBs := BB.size
        refine ((Kept.of_below BB _).trans hk7 (fun x hx => .inl hx)).trans hk8 (fun x hx => ?_)
        rcases hfp7 x hx with h | h | h
        · exact .inl h
        · have := v1f x h; exact .inr (by omega)
        · exact .inr (by omega)
      · intro l hl
        simp only [List.mem_append, List.mem_cons, List.not_mem_nil, or_false] at hl
        rcases hl with (h | h) | h
        · exact .inl h
        · subst h; exact .inr (by omega)
        · subst h; exact .inr (by omega)
  have K7 := keep_any w5 A base sv lv m wv ev bv Ws Es Ls Bs ao1 _ c1 (rdL o) hI5 o1 rfl f1n (by omega) (by omega)
  have F : Hid _ := fin
  have K7' : Hid _ := K7
  clear fin K7 o1 o2 hI5 f1n f2n f12 f2s v1f v2f
  cases o with
  | none =>
    obtain rfl := hn1 rfl
    obtain rfl := hn2 rfl
    have e7 : rdE none = 7 := rfl
    go_wp2_with fail
    refine Calls.mono K7'.out ?_
    intro e7 w7 h7
    obtain ⟨rfl, C8⟩ := F.out e7 w7 h7
    go_wp2_with fail
    refine Calls.mono C8 ?_
    rintro e8 w8 ⟨rfl, hp⟩
    go_wp2
    go_ret
    exact hp
  | some l =>
    have e0 : rdE (some l) = 0 := rfl
    go_wp2_with fail
    refine Calls.mono K7'.out ?_
    intro e7 w7 h7
    obtain ⟨rfl, C8⟩ := F.out e7 w7 h7
    go_wp2_with fail
    refine Calls.mono C8 ?_
    rintro e8 w8 ⟨rfl, hp⟩
    go_wp2
    go_ret
    exact hp

end Go.Proofs.YtlggbcceoejkkaaGreat
