/- The program's store: Head, Ask, Grown. -/
import Derived.Test.YtlggbcceoejkkaaGreatP53
namespace Go.Proofs.YtlggbcceoejkkaaGreat
open Go.RowKit Go.Maps

theorem mid_bd {n : Nat} {d : Nd} (h : bd n d) (hn : n ≤ 1000) : d.mid := Nd.mid_of_ok (bd_ok h hn)
/-- What is asked of the nodes of the places. -/
theorem tr_mid {lf : Nat → Nd} (h : ∀ i, bd 1 (lf i)) (a b : Nat) (hb : b ≤ 1000) : (tr lf a b).ok = true := bd_ok (tr_bd h (b - a) a b (Nat.le_refl _)) (by omega)
/-- Places past the last are empty. -/
def cut (n : Nat) (lf : Nat → Nd) (i : Nat) : Nd := if i < n then lf i else .E
theorem cut_bd {lf : Nat → Nd} (h : ∀ i, bd 1 (lf i)) (n i : Nat) : bd 1 (cut n lf i) := by
  unfold cut; split
  · exact h i
  · exact bd_E 1
theorem comes_of {lf : Nat → Nd} (h : ∀ i, bd 1 (lf i)) : ∀ n a b, b - a ≤ n → b ≤ 1000 → Comes (plG lf) a b (tr lf a b) := by
  intro n
  induction n with
  | zero => intro a b hn _; rw [tr_none lf a b (by omega)]; exact .known (by rw [plG, if_pos (by omega)])
  | succ n ih =>
    intro a b hn hb
    by_cases h0 : b ≤ a
    · rw [tr_none lf a b h0]; exact .known (by rw [plG, if_pos h0])
    by_cases h1 : b < a + 2
    · obtain rfl : b = a + 1 := by omega
      rw [tr_one]; exact .known (by rw [plG, if_neg (by omega), if_pos (by omega)])
    · have p := hf_pos (b - a)
      have q := hf_lt (b - a) (by omega)
      rw [tr_two lf a b (by omega)]
      exact .above (by rw [plG, if_neg h0, if_neg h1]) (by omega) (ih a _ (by omega) (by omega)) (ih _ b (by omega) hb) (Nd.mid_of_ok (tr_mid h _ _ (by omega))) (Nd.mid_of_ok (tr_mid h _ _ hb))

set_option maxHeartbeats 2000000 in
set_option maxRecDepth 100000 in
theorem head_ok (w : World) (S : Nat) (t : Int) (n N : Nat) (lf : Nat → Nd) (hlf : ∀ i, bd 1 (lf i)) (hN : N ≤ 64) (hn : n ≤ N) (hz : szB t n = true) (hL : ∀ w', Below w.heap.size w w' → Calls Tryz.prog 78 #[.pointer (some ⟨S, 0, none⟩), .int .i64 t] w' (lookPost N lf w')) :
    Calls Tryz.prog 43 #[.pointer (some ⟨S, 0, none⟩), .int .i64 t, .int .i64 n] w fun e w' => e = .returned (headV n (dg (hdText n (tr lf 0 n)))) ∧ Below w.heap.size w w' := by
  have HL := hid (hL _ ((Below.refl _ _).alloc (Nat.le_refl _) (.cells #[.int .i64 0, .int .u8 0, .int .u8 0] 36)))
  have hc := comes_of hlf n 0 n (by omega) (by omega)
  have hd := Nd.mid_of_ok (tr_mid hlf 0 n (by omega))
  generalize tr lf 0 n = d at hc hd ⊢
  have HH : ∀ B K w', Hid (Src 136 B K N (plG lf) → K w' → Calls Tryz.prog 65 #[.int .i64 n, cloV 136 B] w' fun e w2 => e = .returned (hdV n (dg (hdText n d))) ∧ Below w'.heap.size w' w2) := fun B K w' => hid fun hS hK => head_any hS hN hn hc hd w' hK
  generalize dg (hdText n d) = D at HH ⊢
  clear hL hc hd
  unfold headV
  unfold hdV at HH
  go_enter Tryz.func43, Tryz.ntmps43
  go_wp2_with fail
  refine HL.out.mono ?_
  rintro e w1 ⟨B, K, rfl, hS, hK, hb1⟩
  have HS := hid (And.intro hS hK)
  have h3 : w1.heap[w.heap.size]? = some (.cells #[.int .i64 0, .int .u8 0, .int .u8 0] 36 (0, 0)) := (hb1.block w.heap.size (by simp)).trans (heap_alloc_new w _)
  have hz1 : w.heap.size < w1.heap.size := by have := hb1.size; simp at this; omega
  have H3 := hid h3
  have HB1 := hid (((Below.refl _ _).alloc (Nat.le_refl _) _).trans (hb1.mono (by simp)) : Below w.heap.size w w1)
  clear hb1 hS hK h3 HL
  have hle : ((n : Int) ≤ N) := by omega
  go_wp2_with (go_at_call 62; refine (isSize_any _ _ _).mono ?_; rintro e w2 ⟨rfl, hw2⟩; rw [hz, hw2]; clear hw2 w2)
  refine ((HH B K _).out HS.out.1 HS.out.2).mono ?_
  rintro e w3 ⟨rfl, hb3⟩
  have h4 : w3.heap[w.heap.size]? = some (.cells #[.int .i64 0, .int .u8 0, .int .u8 0] 36 (0, 0)) := (hb3.block w.heap.size hz1).trans H3.out
  have H4 := hid h4
  have HB3 := hid (HB1.out.trans (hb3.mono (Nat.le_of_lt hz1)) : Below w.heap.size w w3)
  have hcl : w3.cell? ⟨w.heap.size, 0, none⟩ = some (.int .i64 0) ∧ w3.cell? ⟨w.heap.size, 1, none⟩ = some (.int .u8 0) ∧ w3.cell? ⟨w.heap.size, 2, none⟩ = some (.int .u8 0) := ⟨by rw [cell_of_row w3 _ _ _ _ _ h4]; rfl, by rw [cell_of_row w3 _ _ _ _ _ h4]; rfl, by rw [cell_of_row w3 _ _ _ _ _ h4]; rfl⟩
  have hfz : ∀ o, w3.frozen? ⟨w.heap.size, o, none⟩ = false := fun o => by simp [World.frozen?, h4]
  clear hb3 h4 H3 HB1 HS HH
  go_wp2
  refine ret_head2 Tryz.results43 (put3 H4.out _ _ _) rfl rfl ⟨rfl, ?_⟩
  repeat (refine Below.setCell ?_ (by simp) _)
  exact HB3.out

set_option maxHeartbeats 2000000 in
set_option maxRecDepth 100000 in
theorem head_no (w : World) (S : Nat) (t n N : Int) (hz : szB t n = false ∨ N < n) (hL : ∀ w', Below w.heap.size w w' → Calls Tryz.prog 78 #[.pointer (some ⟨S, 0, none⟩), .int .i64 t] w' fun e w2 => ∃ f b, e = .returned (.tuple #[.int .i64 N, f, .bool b]) ∧ Below w'.heap.size w' w2) :
    Calls Tryz.prog 43 #[.pointer (some ⟨S, 0, none⟩), .int .i64 t, .int .i64 n] w fun e w' => e = .returned noHead ∧ Below w.heap.size w w' := by
  have HL := hid (hL _ ((Below.refl _ _).alloc (Nat.le_refl _) (.cells #[.int .i64 0, .int .u8 0, .int .u8 0] 36)))
  clear hL
  unfold noHead
  cases hb : szB t n with
  | false =>
    clear hz
    go_enter Tryz.func43, Tryz.ntmps43
    go_wp2_with fail
    refine HL.out.mono ?_
    rintro e w1 ⟨f, b, rfl, hb1⟩
    have h3 : w1.heap[w.heap.size]? = some (.cells #[.int .i64 0, .int .u8 0, .int .u8 0] 36 (0, 0)) := (hb1.block w.heap.size (by simp)).trans (heap_alloc_new w _)
    have H3 := hid h3
    have HB1 := hid (((Below.refl _ _).alloc (Nat.le_refl _) _).trans (hb1.mono (by simp)) : Below w.heap.size w w1)
    have hcl : w1.cell? ⟨w.heap.size, 0, none⟩ = some (.int .i64 0) ∧ w1.cell? ⟨w.heap.size, 1, none⟩ = some (.int .u8 0) ∧ w1.cell? ⟨w.heap.size, 2, none⟩ = some (.int .u8 0) := ⟨by rw [cell_of_row w1 _ _ _ _ _ h3]; rfl, by rw [cell_of_row w1 _ _ _ _ _ h3]; rfl, by rw [cell_of_row w1 _ _ _ _ _ h3]; rfl⟩
    have hfz : ∀ o, w1.frozen? ⟨w.heap.size, o, none⟩ = false := fun o => by simp [World.frozen?, h3]
    clear hb1 HL h3
    go_wp2_with (go_at_call 62; refine (isSize_any _ _ _).mono ?_; rintro e w2 ⟨rfl, hw2⟩; rw [hb, hw2]; clear hw2 w2)
    refine ret_head2 Tryz.results43 (put3 H3.out _ _ _) rfl rfl ⟨rfl, ?_⟩
    repeat (refine Below.setCell ?_ (by simp) _)
    exact HB1.out
  | true =>
    have hlt : N < n := by rcases hz with h | h; rw [hb] at h; cases h; exact h
    clear hz
    go_enter Tryz.func43, Tryz.ntmps43
    go_wp2_with fail
    refine HL.out.mono ?_
    rintro e w1 ⟨f, b, rfl, hb1⟩
    have h3 : w1.heap[w.heap.size]? = some (.cells #[.int .i64 0, .int .u8 0, .int .u8 0] 36 (0, 0)) := (hb1.block w.heap.size (by simp)).trans (heap_alloc_new w _)
    have H3 := hid h3
    have HB1 := hid (((Below.refl _ _).alloc (Nat.le_refl _) _).trans (hb1.mono (by simp)) : Below w.heap.size w w1)
    have hcl : w1.cell? ⟨w.heap.size, 0, none⟩ = some (.int .i64 0) ∧ w1.cell? ⟨w.heap.size, 1, none⟩ = some (.int .u8 0) ∧ w1.cell? ⟨w.heap.size, 2, none⟩ = some (.int .u8 0) := ⟨by rw [cell_of_row w1 _ _ _ _ _ h3]; rfl, by rw [cell_of_row w1 _ _ _ _ _ h3]; rfl, by rw [cell_of_row w1 _ _ _ _ _ h3]; rfl⟩
    have hfz : ∀ o, w1.frozen? ⟨w.heap.size, o, none⟩ = false := fun o => by simp [World.frozen?, h3]
    clear hb1 HL h3
    go_wp2_with (go_at_call 62; refine (isSize_any _ _ _).mono ?_; rintro e w2 ⟨rfl, hw2⟩; rw [hb, hw2]; clear hw2 w2)
    refine ret_head2 Tryz.results43 (put3 H3.out _ _ _) rfl rfl ⟨rfl, ?_⟩
    repeat (refine Below.setCell ?_ (by simp) _)
    exact HB1.out

/-- What Head answers. -/
def hdA (s : Sto) (t n : Int) : Value :=
  if t = 0 ∧ 0 ≤ n ∧ n ≤ s.l.length then headV n.toNat (dg (hdText n.toNat (tr (lgf s.l) 0 n.toNat))) else if t = 1 ∧ n = 32 then headV 32 (dg (hdText 32 (tr (tbf s.t) 0 32))) else noHead
theorem sHead_any (w : World) (base S : Nat) (s : Sto) (lv : Value) (M : Nat) (t n : Int) (h : PSt w base S s lv M) :
    Calls Tryz.prog 43 #[.pointer (some ⟨S, 0, none⟩), .int .i64 t, .int .i64 n] w fun e w' => e = .returned (hdA s t n) ∧ Below w.heap.size w w' := by
  have hlen := h.ok.len
  unfold hdA
  by_cases h0 : t = 0
  · subst h0
    by_cases hn : 0 ≤ n ∧ n ≤ s.l.length
    · rw [if_pos ⟨rfl, hn⟩]
      obtain ⟨m, rfl⟩ : ∃ m : Nat, n = m := ⟨n.toNat, by omega⟩
      exact head_ok w S 0 m s.l.length (lgf s.l) (lgf_bd h.ok.val) hlen (by omega) (decide_eq_true (.inl ⟨rfl, by omega, by omega⟩)) (fun w' hb => look_log w' base S s lv M (h.below hb))
    · rw [if_neg (by omega), if_neg (by omega)]
      refine head_no w S 0 n s.l.length ?_ (fun w' hb => (look_log w' base S s lv M (h.below hb)).mono fun e w2 ⟨B, K, he, _, _, hb⟩ => ⟨_, _, he, hb⟩)
      by_cases hh : n < 0
      · exact .inl (by simp only [szB, decide_eq_false_iff_not]; omega)
      · exact .inr (by omega)
  · rw [if_neg (by omega)]
    by_cases h1 : t = 1
    · subst h1
      by_cases hn : n = 32
      · subst hn
        rw [if_pos ⟨rfl, rfl⟩]
        exact head_ok w S 1 32 32 (tbf s.t) (tbf_bd h.ok.tval) (by decide) (by decide) (by decide) (fun w' hb => look_tab w' base S s lv M (h.below hb))
      · rw [if_neg (by omega)]
        exact head_no w S 1 n 32 (.inl (by simp only [szB, decide_eq_false_iff_not]; omega)) (fun w' hb => (look_tab w' base S s lv M (h.below hb)).mono fun e w2 ⟨B, K, he, _, _, hb⟩ => ⟨_, _, he, hb⟩)
    · rw [if_neg (by omega)]
      exact head_no w S t n 0 (.inl (by simp only [szB, decide_eq_false_iff_not]; omega)) (fun w' hb => (look_no w' S t h0 h1).mono fun e w2 ⟨he, hw⟩ => ⟨_, _, he, by rw [hw]; exact Below.refl _ _⟩)

/-- The proof of a range by the nodes of the places, and its bytes. -/
def prN (lf : Nat → Nd) (n f t : Nat) : List Nd := cn lf (cov 0 n f t)
def prB (lf : Nat → Nd) (n f t : Nat) : ByteArray := ⟨(marks (prN lf n f t)).toArray⟩
theorem prN_len (lf : Nat → Nd) (n f t : Nat) (h : n ≤ 64) : (prN lf n f t).length ≤ 64 := by
  rw [prN, cn_len]
  have := (cov_len f t n 0 n (by omega)).2
  omega
theorem prN_ok {lf : Nat → Nd} (hlf : ∀ i, bd 1 (lf i)) (n f t : Nat) (h : n ≤ 64) : (prN lf n f t).all Nd.ok = true := by
  rw [List.all_eq_true]
  intro d hd
  obtain ⟨p, hp, rfl⟩ := List.mem_map.1 hd
  have := cov_in f t n 0 n (by omega) (by omega) p hp
  exact tr_mid hlf p.a p.b (by omega)
theorem finN_fv {lf : Nat → Nd} (hg : ∀ i, (lf i).fold.good) (n f t : Nat) (ht : t ≤ n) : finN (fun p => tr lf p.a p.b) (cov 0 n f t) = fv lf f (t - f) := cover_fold hg n f t ht

set_option maxHeartbeats 2000000 in
set_option maxRecDepth 100000 in
theorem ask_ok (w : World) (S : Nat) (t : Int) (f u N : Nat) (lf : Nat → Nd) (hlf : ∀ i, bd 1 (lf i)) (hg : ∀ i, (lf i).fold.good) (hN : N ≤ 64) (hfu : f ≤ u) (hu : u ≤ N) (hL : ∀ w', Below w.heap.size w w' → Calls Tryz.prog 78 #[.pointer (some ⟨S, 0, none⟩), .int .i64 t] w' (lookPost N lf w')) :
    Calls Tryz.prog 81 #[.pointer (some ⟨S, 0, none⟩), .int .i64 t, .int .i64 f, .int .i64 u] w fun e w' => e = .returned (askV (fv lf f (u - f)) (prB lf N f u)) ∧ Below w.heap.size w w' := by
  have HL := hid (hL _ ((Below.refl _ _).alloc (Nat.le_refl _) (.cells #[.int .i64 0, .int .i64 0, .int .i64 0, .int .i64 0] 38)))
  have HP : ∀ B K w', Hid (Src 136 B K N (plG lf) → K w' → Calls Tryz.prog 66 #[.int .i64 N, paV f u, cloV 136 B] w' fun e w2 => ∃ ao c, e = .returned (.tuple #[foV (fv lf f (u - f)), .slice ao (prN lf N f u).length c]) ∧ w2.ownsRow w'.heap.size 46 6 (.slice ao (prN lf N f u).length c) (prN lf N f u).length ((prN lf N f u).flatMap Nd.cells) ∧ Below w'.heap.size w' w2) := fun B K w' => hid fun hS hK => by
    have := prove_any 136 B N f u K (fun p => tr lf p.a p.b) hS.keep (fun p hp => tr_mid hlf p.a p.b (by have := cov_in f u N 0 N (by omega) (by omega) p hp; omega)) hN hu
      (fun p hp W hW => by
        have hpi := cov_in f u N 0 N (by omega) (by omega) p hp
        exact node_any hS hN (comes_of hlf N p.a p.b (by omega) (by omega)) W hW hpi.2.1 hpi.2.2) w' hK
    rw [finN_fv hg N f u hu] at this
    refine this.mono ?_
    rintro e w2 ⟨v, he, hv, hb⟩
    have e1 : (cov 0 N f u).map (fun p => tr lf p.a p.b) = prN lf N f u := rfl
    rw [e1] at hv
    have e2 : (cov 0 N f u).length = (prN lf N f u).length := by rw [prN, cn_len]
    rw [e2] at hv
    obtain ⟨ao, c, rfl⟩ := own_shape hv
    exact ⟨ao, c, he, hv, hb⟩
  have HW : ∀ ao c base w', Hid (w'.ownsRow base 46 6 (.slice ao (prN lf N f u).length c) (prN lf N f u).length ((prN lf N f u).flatMap Nd.cells) → Calls Tryz.prog 56 #[.slice ao (prN lf N f u).length c] w' fun e w2 => e = .returned (.tuple #[.string (prB lf N f u), .int .i64 0]) ∧ Below w'.heap.size w' w2) := fun ao c base w' => hid fun ho => by
    have hl := prN_len lf N f u hN
    have hok := prN_ok hlf N f u hN
    have := write_any _ _ w' (Nodes.own ho (by omega))
    rw [writeB, if_pos ⟨hl, hok⟩, writeE, if_neg (by omega), if_pos hok] at this
    exact this
  clear hL hlf hg
  generalize prB lf N f u = pb at HW ⊢
  generalize fv lf f (u - f) = F at HP ⊢
  generalize prN lf N f u = l at HP HW
  unfold paV foV at HP
  unfold askV foV
  have hr : rgB f u N = true := decide_eq_true ⟨by omega, by omega, by omega⟩
  go_enter Tryz.func81, Tryz.ntmps81
  go_wp2_with fail
  refine HL.out.mono ?_
  rintro e w1 ⟨B, K, rfl, hS, hK, hb1⟩
  have HS := hid (And.intro hS hK)
  have h3 : FoAt w1 w.heap.size .zero := (FoAt.at w _ rfl .zero).below hb1 (by simp)
  have hz1 : w.heap.size < w1.heap.size := by have := hb1.size; simp at this; omega
  have H3 := hid h3
  have HB1 := hid (((Below.refl _ _).alloc (Nat.le_refl _) _).trans (hb1.mono (by simp)) : Below w.heap.size w w1)
  clear hb1 hS hK h3 HL
  go_wp2_with (go_at_call 63; refine (isRange_any _ _ _ _).mono ?_; rintro e w2 ⟨rfl, hw2⟩; rw [hr, hw2]; clear hw2 w2)
  refine ((HP B K _).out HS.out.1 HS.out.2).mono ?_
  rintro e w3 ⟨ao, c, rfl, ho3, hb3⟩
  have h4 := H3.out.below hb3 hz1
  have H4 := hid h4
  have HB3 := hid (HB1.out.trans (hb3.mono (Nat.le_of_lt hz1)) : Below w.heap.size w w3)
  have HO3 := hid ho3
  have hz3 : w.heap.size < w3.heap.size := Nat.lt_of_lt_of_le hz1 hb3.size
  clear hb3 h4 H3 HB1 HS HP ho3
  go_wp2_with fail
  refine ((HW _ _ _ _).out (HO3.out.alloc _)).mono ?_
  rintro e w5 ⟨rfl, hb5⟩
  have hF5 : FoAt w5 w3.heap.size F := (FoAt.at w3 _ rfl F).below hb5 (by simp)
  have hR5 : FoAt w5 w.heap.size .zero := (H4.out.alloc (.cells #[.int .i64 F.c, .int .i64 F.s, .int .i64 F.m, .int .i64 F.x] 38)).below hb5 (by simp; omega)
  have cF := hF5.cells
  have cR := hR5.cells
  simp only [Fo.zero] at cR
  have HR5 := hid hR5
  have HB5 := hid ((HB3.out.alloc HB3.out.size _).trans (hb5.mono (by simp; omega)) : Below w.heap.size w w5)
  clear hb5 hF5 hR5 H4 HB3 HO3 HW
  go_wp2
  refine ret_fold3 Tryz.results81 (HR5.out.set F) rfl rfl rfl ⟨rfl, ?_⟩
  repeat (refine Below.setCell ?_ (by simp) _)
  exact HB5.out

set_option maxHeartbeats 2000000 in
set_option maxRecDepth 100000 in
theorem ask_no (w : World) (S : Nat) (t f u N : Int) (b : Bool) (hz : b = false ∨ rgB f u N = false) (hL : ∀ w', Below w.heap.size w w' → Calls Tryz.prog 78 #[.pointer (some ⟨S, 0, none⟩), .int .i64 t] w' fun e w2 => ∃ f, e = .returned (.tuple #[.int .i64 N, f, .bool b]) ∧ Below w'.heap.size w' w2) :
    Calls Tryz.prog 81 #[.pointer (some ⟨S, 0, none⟩), .int .i64 t, .int .i64 f, .int .i64 u] w fun e w' => e = .returned noAsk ∧ Below w.heap.size w w' := by
  have HL := hid (hL _ ((Below.refl _ _).alloc (Nat.le_refl _) (.cells #[.int .i64 0, .int .i64 0, .int .i64 0, .int .i64 0] 38)))
  clear hL
  unfold noAsk foV
  simp only [Fo.zero]
  cases hb : b with
  | false =>
    subst hb
    clear hz
    go_enter Tryz.func81, Tryz.ntmps81
    go_wp2_with fail
    refine HL.out.mono ?_
    rintro e w1 ⟨ff, rfl, hb1⟩
    have h3 : FoAt w1 w.heap.size .zero := (FoAt.at w _ rfl .zero).below hb1 (by simp)
    have H3 := hid h3
    have cR := h3.cells
    simp only [Fo.zero] at cR
    have HB1 := hid (((Below.refl _ _).alloc (Nat.le_refl _) _).trans (hb1.mono (by simp)) : Below w.heap.size w w1)
    clear hb1 HL h3
    go_wp2
    refine ret_fold3 Tryz.results81 (H3.out.set .zero) rfl rfl rfl ⟨rfl, ?_⟩
    repeat (refine Below.setCell ?_ (by simp) _)
    exact HB1.out
  | true =>
    subst hb
    have hr : rgB f u N = false := by rcases hz with h | h; cases h; exact h
    clear hz
    go_enter Tryz.func81, Tryz.ntmps81
    go_wp2_with fail
    refine HL.out.mono ?_
    rintro e w1 ⟨ff, rfl, hb1⟩
    have h3 : FoAt w1 w.heap.size .zero := (FoAt.at w _ rfl .zero).below hb1 (by simp)
    have H3 := hid h3
    have cR := h3.cells
    simp only [Fo.zero] at cR
    have HB1 := hid (((Below.refl _ _).alloc (Nat.le_refl _) _).trans (hb1.mono (by simp)) : Below w.heap.size w w1)
    clear hb1 HL h3
    go_wp2_with (go_at_call 63; refine (isRange_any _ _ _ _).mono ?_; rintro e w2 ⟨rfl, hw2⟩; rw [hr, hw2]; clear hw2 w2)
    refine ret_fold3 Tryz.results81 (H3.out.set .zero) rfl rfl rfl ⟨rfl, ?_⟩
    repeat (refine Below.setCell ?_ (by simp) _)
    exact HB1.out
theorem lgf_good (l : List Int) (i : Nat) : (lgf l i).fold.good := by unfold lgf; rw [mkNd_fold]; exact good_one _
theorem tbf_good (t : List (Option Int)) (i : Nat) : (tbf t i).fold.good := by
  unfold tbf
  split
  · rw [mkNd_fold]; exact good_one _
  · exact good_zero
/-- What Ask and Grown answer. -/
def asA (s : Sto) (t f u : Int) : Value :=
  if t = 0 ∧ 0 ≤ f ∧ f ≤ u ∧ u ≤ s.l.length then askV (fv (lgf s.l) f.toNat (u.toNat - f.toNat)) (prB (lgf s.l) s.l.length f.toNat u.toNat)
  else if t = 1 ∧ 0 ≤ f ∧ f ≤ u ∧ u ≤ 32 then askV (fv (tbf s.t) f.toNat (u.toNat - f.toNat)) (prB (tbf s.t) 32 f.toNat u.toNat) else noAsk
theorem ask_any (w : World) (base S : Nat) (s : Sto) (lv : Value) (M : Nat) (t f u : Int) (h : PSt w base S s lv M) :
    Calls Tryz.prog 81 #[.pointer (some ⟨S, 0, none⟩), .int .i64 t, .int .i64 f, .int .i64 u] w fun e w' => e = .returned (asA s t f u) ∧ Below w.heap.size w w' := by
  have hlen := h.ok.len
  unfold asA
  by_cases h0 : t = 0
  · subst h0
    by_cases hn : 0 ≤ f ∧ f ≤ u ∧ u ≤ s.l.length
    · rw [if_pos ⟨rfl, hn⟩]
      obtain ⟨f', rfl⟩ : ∃ m : Nat, f = m := ⟨f.toNat, by omega⟩
      obtain ⟨u', rfl⟩ : ∃ m : Nat, u = m := ⟨u.toNat, by omega⟩
      exact ask_ok w S 0 f' u' s.l.length (lgf s.l) (lgf_bd h.ok.val) (lgf_good _) hlen (by omega) (by omega) (fun w' hb => look_log w' base S s lv M (h.below hb))
    · rw [if_neg (by omega), if_neg (by omega)]
      exact ask_no w S 0 f u s.l.length true (.inr (decide_eq_false hn)) (fun w' hb => (look_log w' base S s lv M (h.below hb)).mono fun e w2 ⟨B, K, he, _, _, hb⟩ => ⟨_, he, hb⟩)
  · rw [if_neg (by omega)]
    by_cases h1 : t = 1
    · subst h1
      by_cases hn : 0 ≤ f ∧ f ≤ u ∧ u ≤ 32
      · rw [if_pos ⟨rfl, hn⟩]
        obtain ⟨f', rfl⟩ : ∃ m : Nat, f = m := ⟨f.toNat, by omega⟩
        obtain ⟨u', rfl⟩ : ∃ m : Nat, u = m := ⟨u.toNat, by omega⟩
        exact ask_ok w S 1 f' u' 32 (tbf s.t) (tbf_bd h.ok.tval) (tbf_good _) (by decide) (by omega) (by omega) (fun w' hb => look_tab w' base S s lv M (h.below hb))
      · rw [if_neg (by omega)]
        exact ask_no w S 1 f u 32 true (.inr (decide_eq_false hn)) (fun w' hb => (look_tab w' base S s lv M (h.below hb)).mono fun e w2 ⟨B, K, he, _, _, hb⟩ => ⟨_, he, hb⟩)
    · rw [if_neg (by omega)]
      exact ask_no w S t f u 0 false (.inl rfl) (fun w' hb => (look_no w' S t h0 h1).mono fun e w2 ⟨he, hw⟩ => ⟨_, he, by rw [hw]; exact Below.refl _ _⟩)

def grA (s : Sto) (n : Int) : Value := if 1 ≤ n ∧ n ≤ s.l.length then .tuple #[.string (prB (lgf s.l) s.l.length 0 n.toNat), .int .i64 0] else .tuple #[.string ⟨#[]⟩, .int .i64 5]
set_option maxHeartbeats 2000000 in
set_option maxRecDepth 100000 in
theorem grown_any (w : World) (base S : Nat) (s : Sto) (lv : Value) (M : Nat) (n : Int) (h : PSt w base S s lv M) :
    Calls Tryz.prog 46 #[.pointer (some ⟨S, 0, none⟩), .int .i64 n] w fun e w' => e = .returned (grA s n) ∧ Below w.heap.size w w' := by
  have HA := hid (ask_any w base S s lv M 0 0 n h)
  have HG : Hid (∃ f q e, asA s 0 0 n = .tuple #[foV f, .string q, .int .i64 e] ∧ (1 ≤ n → grA s n = .tuple #[.string q, .int .i64 e])) := hid (by
    unfold asA grA askV noAsk
    by_cases hn : 0 ≤ n ∧ n ≤ s.l.length
    · rw [if_pos (by omega)]
      exact ⟨_, _, _, rfl, fun h1 => by rw [if_pos (by omega)]; rfl⟩
    · rw [if_neg (by omega), if_neg (by omega)]
      exact ⟨_, _, _, rfl, fun h1 => by rw [if_neg (by omega)]⟩)
  clear h
  by_cases h1 : n < 1
  · have hg : grA s n = .tuple #[.string ⟨#[]⟩, .int .i64 5] := by rw [grA, if_neg (by omega)]
    rw [hg]
    clear HA HG hg
    go_enter Tryz.func46, Tryz.ntmps46
    go_wp2
    go_ret2
    exact ⟨rfl, Below.refl _ _⟩
  · obtain ⟨f, q, e, h2, h3⟩ := HG.out
    rw [h3 (by omega)]
    rw [h2] at HA
    clear h2 h3 HG
    unfold foV at HA
    go_enter Tryz.func46, Tryz.ntmps46
    go_wp2_with fail
    refine HA.out.mono ?_
    rintro e' w1 ⟨rfl, hb1⟩
    go_wp2
    go_ret2
    exact ⟨rfl, hb1.alloc hb1.size _⟩

end Go.Proofs.YtlggbcceoejkkaaGreat

