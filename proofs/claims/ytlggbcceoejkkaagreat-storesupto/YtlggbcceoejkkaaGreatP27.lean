/- What the document's own answer does (notaryref): the store: Ask, Grown. -/
import Derived.Test.YtlggbcceoejkkaaGreatP26
namespace Go.Proofs.YtlggbcceoejkkaaGreat
open Go.RowKit

/-- Fold, Cover and nodes of a tree, and the bytes. -/
theorem write_prf (tb : Bool) (vs : List Int) (hs : List Bool) (f t : Nat) (h : vs.length ≤ 64) (hv : ∀ v ∈ vs, 0 ≤ v ∧ v ≤ 1000000) (w : World) (ao : Option Addr) (c base : Nat) (ho : w.ownsRow base 46 6 (.slice ao (prfN tb vs hs f t).length c) (prfN tb vs hs f t).length ((prfN tb vs hs f t).flatMap Nd.cells)) :
    Calls Tryz.prog 25 #[.slice ao (prfN tb vs hs f t).length c] w fun e w' => e = .returned (.tuple #[.string (prfB tb vs hs f t), .int .i64 0]) ∧ Below w.heap.size w w' := by
  have hl := prf_len tb vs hs f t h
  have hok := prf_ok tb vs hs f t h hv
  have := refWrite_any _ _ w (Nodes.own ho (by omega))
  rw [writeB, if_pos ⟨hl, hok⟩, writeE, if_neg (by omega), if_pos hok] at this
  exact this

set_option maxHeartbeats 2000000 in
set_option maxRecDepth 100000 in
theorem refAsk_ok (w : World) (R : Nat) (t : Int) (n f u : Nat) (tb : Bool) (vs : List Int) (hs : List Bool) (hSz : ∀ w', Below w.heap.size w w' → Calls Tryz.prog 85 #[.pointer (some ⟨R, 0, none⟩), .int .i64 t] w' fun e w2 => e = .returned (.int .i64 n) ∧ w2 = w')
    (hTr : ∀ w', Below w.heap.size w w' → Calls Tryz.prog 79 #[.pointer (some ⟨R, 0, none⟩), .int .i64 t, .int .i64 n] w' (treePost tb vs hs w')) (hn : vs.length = n) (hn64 : n ≤ 64) (hval : ∀ v ∈ vs, 0 ≤ v ∧ v ≤ 1000000) (hfu : f ≤ u) (hun : u ≤ n) :
    Calls Tryz.prog 82 #[.pointer (some ⟨R, 0, none⟩), .int .i64 t, .int .i64 f, .int .i64 u] w fun e w' => e = .returned (askV (fv (lf tb vs hs) f (u - f)) (prfB tb vs hs f u)) ∧ Below w.heap.size w w' := by
  subst hn
  have HZ : Hid _ := hSz
  have HT : Hid _ := hTr
  clear hTr hSz
  have HCv : ∀ w', Hid (Calls Tryz.prog 67 #[.int .i64 0, .int .i64 (vs.length : Int), .int .i64 f, .int .i64 u] w' (covPost (cov 0 vs.length f u) w')) := fun w' => hid (refCover_any f u (by omega) (by omega) vs.length 0 vs.length w' (by omega) (by omega) hn64 (by omega))
  have HF : ∀ vv hv w', Hid (TreeIn w' w'.heap.size vv hv vs hs → Calls Tryz.prog 86 #[.agg #[.bool tb, vv, hv], .int .i64 f, .int .i64 u] w' _) := fun vv hv w' => hid fun h => refFold_any tb vv hv vs hs f u w' h hfu hun
  have HN : ∀ vv hv base g cap w', Hid (TreeIn w' w'.heap.size vv hv vs hs → w'.ownsRow base 168 3 (.slice (some ⟨g, 0, none⟩) (cov 0 vs.length f u).length cap) (cov 0 vs.length f u).length (spRow (cov 0 vs.length f u)) → Calls Tryz.prog 84 #[.agg #[.bool tb, vv, hv], .slice (some ⟨g, 0, none⟩) (cov 0 vs.length f u).length cap] w' (nodesPost (prfN tb vs hs f u) w')) := fun vv hv base g cap w' => hid fun h ho =>
    refNodes_any tb vv hv vs hs _ base g cap w' h ho (fun p hp => (cov_in f u vs.length 0 vs.length (by omega) (by omega) p hp).2.2) (by have := (cov_len f u vs.length 0 vs.length (by omega)).2; omega)
  have HWr := write_prf tb vs hs f u hn64 hval
  have HW : ∀ ao c base w', Hid (w'.ownsRow base 46 6 (.slice ao (prfN tb vs hs f u).length c) (prfN tb vs hs f u).length ((prfN tb vs hs f u).flatMap Nd.cells) → Calls Tryz.prog 25 #[.slice ao (prfN tb vs hs f u).length c] w' _) := fun ao c base w' => hid fun ho => HWr w' ao c base ho
  clear HWr
  generalize hC : cov 0 vs.length f u = C at HCv HN
  generalize prfN tb vs hs f u = P at HN HW
  generalize prfB tb vs hs f u = Bt at HW
  generalize fv (lf tb vs hs) f (u - f) = z at HF
  clear hC
  have i1 : ¬ (f : Int) < 0 := by omega
  have i2 : ¬ (u : Int) < f := by omega
  have i3 : ¬ (vs.length : Int) < u := by omega
  go_enter Tryz.func82, Tryz.ntmps82
  go_wp2_with fail
  refine (HZ.out _ ((Below.refl _ _).alloc (Nat.le_refl _) _)).mono ?_
  rintro e w0 ⟨rfl, hw0⟩
  rw [hw0]
  clear hw0 w0 HZ
  go_wp2_with fail
  refine (HT.out _ ((Below.refl _ _).alloc (Nat.le_refl _) _)).mono ?_
  rintro e w1 ⟨a1, p1, a2, n2, p2, rfl, hT1, hb1⟩
  have hg1 : FoAt w1 w.heap.size .zero := (FoAt.at w w.heap.size rfl .zero).below hb1 (by simp)
  have HG1 : Hid (FoAt w1 w.heap.size .zero) := hg1
  have B1 : Hid (Below w.heap.size w w1) := hid (((Below.refl _ _).alloc (Nat.le_refl _) _).trans (hb1.mono (by simp)))
  have HT1 : Hid _ := hT1
  have l1 : w.heap.size < w1.heap.size := hg1.lt
  clear hb1 hg1 hT1 HT
  go_wp2_with fail
  refine (HCv _).out.mono ?_
  rintro e w2 ⟨g2, p2', rfl, ho2, hb2⟩
  have hc2 := oldc hb2
  have l2 : w1.heap.size < w2.heap.size := by have := hb2.size; simp at this; omega
  have B2 : Hid (Below w1.heap.size w1 w2) := hid (((Below.refl _ _).alloc (Nat.le_refl _) _).trans (hb2.mono (by simp)))
  have HO2 : Hid (w2.ownsRow _ 168 3 (.slice (some ⟨g2, 0, none⟩) C.length p2') C.length (spRow C)) := ho2
  clear hb2 ho2 HCv
  go_wp2_with fail
  refine ((HN _ _ _ _ _ _).out ((HT1.out.below B2.out).mono (by omega)) HO2.out).mono ?_
  rintro e w3 ⟨ao3, c3, rfl, ho3, hb3⟩
  have hc3 := oldc hb3
  have l3 : w1.heap.size < w3.heap.size := by have := hb3.size; omega
  have B3 : Hid (Below w1.heap.size w1 w3) := hid (B2.out.trans (hb3.mono (by omega)))
  have HO3 : Hid (w3.ownsRow _ 46 6 (.slice ao3 P.length c3) P.length (P.flatMap Nd.cells)) := ho3
  clear hb3 ho3 HN HO2 B2
  go_wp2_with fail
  refine ((HW _ _ _ _).out HO3.out).mono ?_
  rintro e w4 ⟨rfl, hb4⟩
  have hc4 := oldc hb4
  have l4 : w1.heap.size < w4.heap.size := by have := hb4.size; omega
  have B4 : Hid (Below w1.heap.size w1 w4) := hid (B3.out.trans (hb4.mono (by omega)))
  clear hb4 HO3 B3 HW
  go_wp2_with fail
  refine ((HF _ _ _).out ((HT1.out.below B4.out).mono (by omega))).mono ?_
  rintro e w5 ⟨rfl, hb5⟩
  rw [foV]
  have l5 : w.heap.size < w5.heap.size := by have := hb5.size; omega
  have B5 : Hid (Below w1.heap.size w1 w5) := hid (B4.out.trans (hb5.mono (by omega)))
  have hg5 : FoAt w5 w.heap.size .zero := HG1.out.below B5.out l1
  have HG5 : Hid (FoAt w5 w.heap.size .zero) := hg5
  obtain ⟨⟨k0, k1, k2, k3⟩, ff⟩ := hg5.cells
  clear hb5 HF B4 HG1 hg5 hc2 hc3 hc4
  go_wp2
  refine ret_fold3 Tryz.results82 (FoAt.set (show FoAt _ _ _ from HG5.out) z) rfl rfl rfl ⟨rfl, ?_⟩
  repeat (refine Below.setCell ?_ (by simp) _)
  exact B1.out.trans (B5.out.mono (by omega))

set_option maxHeartbeats 2000000 in
set_option maxRecDepth 100000 in
theorem refAsk_no1 (w : World) (R : Nat) (t n f u : Int) (hSz : ∀ w', Below w.heap.size w w' → Calls Tryz.prog 85 #[.pointer (some ⟨R, 0, none⟩), .int .i64 t] w' fun e w2 => e = .returned (.int .i64 n) ∧ w2 = w')
    (hTr : ∀ w', Below w.heap.size w w' → Calls Tryz.prog 79 #[.pointer (some ⟨R, 0, none⟩), .int .i64 t, .int .i64 n] w' fun e w2 => e = .returned noTree ∧ Below w'.heap.size w' w2) :
    Calls Tryz.prog 82 #[.pointer (some ⟨R, 0, none⟩), .int .i64 t, .int .i64 f, .int .i64 u] w fun e w' => e = .returned noAsk ∧ Below w.heap.size w w' := by
  have HZ : Hid _ := hSz
  have HT : Hid _ := hTr
  clear hTr hSz
  go_enter Tryz.func82, Tryz.ntmps82
  go_wp2_with fail
  refine (HZ.out _ ((Below.refl _ _).alloc (Nat.le_refl _) _)).mono ?_
  rintro e w0 ⟨rfl, hw0⟩
  rw [hw0]
  clear hw0 w0 HZ
  go_wp2_with fail
  refine (HT.out _ ((Below.refl _ _).alloc (Nat.le_refl _) _)).mono ?_
  rintro e w1 ⟨rfl, hb1⟩; rw [noTree]
  have hg1 : FoAt w1 w.heap.size .zero := (FoAt.at w w.heap.size rfl .zero).below hb1 (by simp)
  have HG1 : Hid (FoAt w1 w.heap.size .zero) := hg1
  have B1 : Hid (Below w.heap.size w w1) := hid (((Below.refl _ _).alloc (Nat.le_refl _) _).trans (hb1.mono (by simp)))
  have l1 : w.heap.size < w1.heap.size := hg1.lt
  obtain ⟨⟨k0, k1, k2, k3⟩, ff⟩ := hg1.cells
  clear hb1 hg1 HT
  go_wp2
  refine ret_fold3 Tryz.results82 (FoAt.alloc (FoAt.set (show FoAt _ _ _ from HG1.out) .zero) _) rfl rfl rfl ⟨rfl, ?_⟩
  refine Below.alloc ?_ (by simp; omega) _
  repeat (refine Below.setCell ?_ (by simp) _)
  exact B1.out

set_option maxHeartbeats 2000000 in
set_option maxRecDepth 100000 in
theorem refAsk_no2 (w : World) (R : Nat) (t n f u : Int) (tb : Bool) (vs : List Int) (hs : List Bool) (hSz : ∀ w', Below w.heap.size w w' → Calls Tryz.prog 85 #[.pointer (some ⟨R, 0, none⟩), .int .i64 t] w' fun e w2 => e = .returned (.int .i64 n) ∧ w2 = w')
    (hTr : ∀ w', Below w.heap.size w w' → Calls Tryz.prog 79 #[.pointer (some ⟨R, 0, none⟩), .int .i64 t, .int .i64 n] w' (treePost tb vs hs w')) (hbad : f < 0 ∨ u < f ∨ n < u) :
    Calls Tryz.prog 82 #[.pointer (some ⟨R, 0, none⟩), .int .i64 t, .int .i64 f, .int .i64 u] w fun e w' => e = .returned noAsk ∧ Below w.heap.size w w' := by
  have HZ : Hid _ := hSz
  have HT : Hid _ := hTr
  clear hTr hSz
  by_cases c1 : f < 0
  · clear hbad
    go_enter Tryz.func82, Tryz.ntmps82
    go_wp2_with fail
    refine (HZ.out _ ((Below.refl _ _).alloc (Nat.le_refl _) _)).mono ?_
    rintro e w0 ⟨rfl, hw0⟩
    rw [hw0]
    clear hw0 w0 HZ
    go_wp2_with fail
    refine (HT.out _ ((Below.refl _ _).alloc (Nat.le_refl _) _)).mono ?_
    rintro e w1 ⟨a1, p1, a2, n2, p2, rfl, _, hb1⟩
    have hg1 : FoAt w1 w.heap.size .zero := (FoAt.at w w.heap.size rfl .zero).below hb1 (by simp)
    have HG1 : Hid (FoAt w1 w.heap.size .zero) := hg1
    have B1 : Hid (Below w.heap.size w w1) := hid (((Below.refl _ _).alloc (Nat.le_refl _) _).trans (hb1.mono (by simp)))
    have l1 : w.heap.size < w1.heap.size := hg1.lt
    obtain ⟨⟨k0, k1, k2, k3⟩, ff⟩ := hg1.cells
    clear hb1 hg1 HT
    go_wp2
    refine ret_fold3 Tryz.results82 (FoAt.alloc (FoAt.set (show FoAt _ _ _ from HG1.out) .zero) _) rfl rfl rfl ⟨rfl, ?_⟩
    refine Below.alloc ?_ (by simp; omega) _
    repeat (refine Below.setCell ?_ (by simp) _)
    exact B1.out
  · by_cases c2 : u < f
    · clear hbad
      go_enter Tryz.func82, Tryz.ntmps82
      go_wp2_with fail
      refine (HZ.out _ ((Below.refl _ _).alloc (Nat.le_refl _) _)).mono ?_
      rintro e w0 ⟨rfl, hw0⟩
      rw [hw0]
      clear hw0 w0 HZ
      go_wp2_with fail
      refine (HT.out _ ((Below.refl _ _).alloc (Nat.le_refl _) _)).mono ?_
      rintro e w1 ⟨a1, p1, a2, n2, p2, rfl, _, hb1⟩
      have hg1 : FoAt w1 w.heap.size .zero := (FoAt.at w w.heap.size rfl .zero).below hb1 (by simp)
      have HG1 : Hid (FoAt w1 w.heap.size .zero) := hg1
      have B1 : Hid (Below w.heap.size w w1) := hid (((Below.refl _ _).alloc (Nat.le_refl _) _).trans (hb1.mono (by simp)))
      have l1 : w.heap.size < w1.heap.size := hg1.lt
      obtain ⟨⟨k0, k1, k2, k3⟩, ff⟩ := hg1.cells
      clear hb1 hg1 HT
      go_wp2
      refine ret_fold3 Tryz.results82 (FoAt.alloc (FoAt.set (show FoAt _ _ _ from HG1.out) .zero) _) rfl rfl rfl ⟨rfl, ?_⟩
      refine Below.alloc ?_ (by simp; omega) _
      repeat (refine Below.setCell ?_ (by simp) _)
      exact B1.out
    · have c3 : n < u := by omega
      clear hbad
      go_enter Tryz.func82, Tryz.ntmps82
      go_wp2_with fail
      refine (HZ.out _ ((Below.refl _ _).alloc (Nat.le_refl _) _)).mono ?_
      rintro e w0 ⟨rfl, hw0⟩
      rw [hw0]
      clear hw0 w0 HZ
      go_wp2_with fail
      refine (HT.out _ ((Below.refl _ _).alloc (Nat.le_refl _) _)).mono ?_
      rintro e w1 ⟨a1, p1, a2, n2, p2, rfl, _, hb1⟩
      have hg1 : FoAt w1 w.heap.size .zero := (FoAt.at w w.heap.size rfl .zero).below hb1 (by simp)
      have HG1 : Hid (FoAt w1 w.heap.size .zero) := hg1
      have B1 : Hid (Below w.heap.size w w1) := hid (((Below.refl _ _).alloc (Nat.le_refl _) _).trans (hb1.mono (by simp)))
      have l1 : w.heap.size < w1.heap.size := hg1.lt
      obtain ⟨⟨k0, k1, k2, k3⟩, ff⟩ := hg1.cells
      clear hb1 hg1 HT
      go_wp2
      refine ret_fold3 Tryz.results82 (FoAt.alloc (FoAt.set (show FoAt _ _ _ from HG1.out) .zero) _) rfl rfl rfl ⟨rfl, ?_⟩
      refine Below.alloc ?_ (by simp; omega) _
      repeat (refine Below.setCell ?_ (by simp) _)
      exact B1.out

end Go.Proofs.YtlggbcceoejkkaaGreat

/- What the document's own answer does (notaryref): the store: Grown. -/
namespace Go.Proofs.YtlggbcceoejkkaaGreat
open Go.RowKit

set_option maxHeartbeats 2000000 in
set_option maxRecDepth 100000 in
theorem refGrown_no (w : World) (base R : Nat) (s : Sto) (lv : Value) (K H : Nat) (n : Int) (h : RSt w base R s lv K H) (hbad : n < 1 ∨ s.l.length < n) :
    Calls Tryz.prog 47 #[.pointer (some ⟨R, 0, none⟩), .int .i64 n] w fun e w' => e = .returned (.tuple #[.string ⟨#[]⟩, .int .i64 5]) ∧ Below w.heap.size w w' := by
  obtain ⟨⟨c0, c1, c2⟩, hfz⟩ := h.cells
  obtain ⟨ao, cap, rfl⟩ := own_shape h.hL
  clear h
  by_cases h1 : n < 1
  · clear hbad
    go_enter Tryz.func47, Tryz.ntmps47
    go_wp2
    go_ret2
    exact ⟨rfl, Below.refl _ _⟩
  · have h2 : (s.l.length : Int) < n := by omega
    clear hbad
    go_enter Tryz.func47, Tryz.ntmps47
    go_wp2
    go_ret2
    exact ⟨rfl, Below.refl _ _⟩

set_option maxHeartbeats 2000000 in
set_option maxRecDepth 100000 in
theorem refGrown_ok (w : World) (base R : Nat) (s : Sto) (lv : Value) (K H : Nat) (n : Nat) (h : RSt w base R s lv K H) (h1 : 1 ≤ n) (h2 : n ≤ s.l.length) :
    Calls Tryz.prog 47 #[.pointer (some ⟨R, 0, none⟩), .int .i64 n] w fun e w' => e = .returned (.tuple #[.string (prfB false s.l (List.replicate s.l.length true) 0 n), .int .i64 0]) ∧ Below w.heap.size w w' := by
  have hlen := h.ok.len
  have hval := h.ok.val
  have HLg : ∀ w', Hid (Below w.heap.size w w' → Calls Tryz.prog 83 #[lv] w' (logPost lv s.l w')) := fun w' => hid fun hb => refLogOf_any lv s.l w' ((h.log1.below hb).mono hb.size) hval hlen
  obtain ⟨⟨c0, c1, c2⟩, hfz⟩ := h.cells
  have hRl := h.lt.1
  obtain ⟨ao, cap, rfl⟩ := own_shape h.hL
  clear h
  generalize hvs : s.l = vs at *
  clear hvs
  have HCv : ∀ w', Hid (Calls Tryz.prog 67 #[.int .i64 0, .int .i64 (vs.length : Int), .int .i64 0, .int .i64 n] w' (covPost (cov 0 vs.length 0 n) w')) := fun w' => hid (refCover_any 0 n (by omega) (by omega) vs.length 0 vs.length w' (by omega) (by omega) hlen (by omega))
  obtain ⟨hs, hhs⟩ : ∃ hs, hs = List.replicate vs.length true := ⟨_, rfl⟩
  have HH : Hid _ := hhs
  rw [← hhs]
  clear hhs
  have HN : ∀ vv hv base g cap w', Hid (TreeIn w' w'.heap.size vv hv vs hs → w'.ownsRow base 168 3 (.slice (some ⟨g, 0, none⟩) (cov 0 vs.length 0 n).length cap) (cov 0 vs.length 0 n).length (spRow (cov 0 vs.length 0 n)) → Calls Tryz.prog 84 #[.agg #[.bool false, vv, hv], .slice (some ⟨g, 0, none⟩) (cov 0 vs.length 0 n).length cap] w' (nodesPost (prfN false vs hs 0 n) w')) := fun vv hv base g cap w' => hid fun h ho =>
    refNodes_any false vv hv vs hs _ base g cap w' h ho (fun p hp => (cov_in 0 n vs.length 0 vs.length (by omega) (by omega) p hp).2.2) (by have := (cov_len 0 n vs.length 0 vs.length (by omega)).2; omega)
  have HWr := write_prf false vs hs 0 n hlen hval
  have HW : ∀ ao c base w', Hid (w'.ownsRow base 46 6 (.slice ao (prfN false vs hs 0 n).length c) (prfN false vs hs 0 n).length ((prfN false vs hs 0 n).flatMap Nd.cells) → Calls Tryz.prog 25 #[.slice ao (prfN false vs hs 0 n).length c] w' _) := fun ao c base w' => hid fun ho => HWr w' ao c base ho
  clear HWr
  generalize hC : cov 0 vs.length 0 n = C at HCv HN
  generalize prfN false vs hs 0 n = P at HN HW
  generalize prfB false vs hs 0 n = Bt at HW
  clear hC
  have i1 : ¬ (n : Int) < 1 := by omega
  have i3 : ¬ (vs.length : Int) < n := by omega
  go_enter Tryz.func47, Tryz.ntmps47
  go_wp2_with fail
  refine ((HLg _).out (Below.refl _ _)).mono ?_
  rintro e w1 ⟨⟨g, rfl, _, hT1⟩, hb1⟩
  rw [← HH.out] at hT1
  have HT1 : Hid _ := hT1
  have hc1 := oldc hb1
  have B1 : Hid (Below w.heap.size w w1) := hb1
  have l1 : R < w1.heap.size := by have := hb1.size; omega
  clear hb1 hT1 HLg
  go_wp2_with fail
  refine (HCv _).out.mono ?_
  rintro e w2 ⟨g2, p2', rfl, ho2, hb2⟩
  have hc2 := oldc hb2
  have l2 : w1.heap.size < w2.heap.size := by have := hb2.size; simp at this; omega
  have B2 : Hid (Below w1.heap.size w1 w2) := hid (((Below.refl _ _).alloc (Nat.le_refl _) _).trans (hb2.mono (by simp)))
  have HO2 : Hid (w2.ownsRow _ 168 3 (.slice (some ⟨g2, 0, none⟩) C.length p2') C.length (spRow C)) := ho2
  clear hb2 ho2 HCv
  go_wp2_with fail
  refine ((HN _ _ _ _ _ _).out ((HT1.out.below B2.out).mono (by omega)) HO2.out).mono ?_
  rintro e w3 ⟨ao3, c3, rfl, ho3, hb3⟩
  have B3 : Hid (Below w1.heap.size w1 w3) := hid (B2.out.trans (hb3.mono (by omega)))
  have HO3 : Hid (w3.ownsRow _ 46 6 (.slice ao3 P.length c3) P.length (P.flatMap Nd.cells)) := ho3
  have l3 : w1.heap.size < w3.heap.size := by have := hb3.size; omega
  clear hb3 ho3 HN HO2 B2
  go_wp2_with fail
  refine ((HW _ _ _ _).out HO3.out).mono ?_
  rintro e w4 ⟨rfl, hb4⟩
  have fin : Hid (Below w.heap.size w w4) := hid (B1.out.trans ((B3.out.trans (hb4.mono (by omega))).mono B1.out.size))
  clear hb4 HO3 B3 HW hc1 hc2
  go_wp2
  go_ret2
  exact ⟨rfl, fin.out⟩

end Go.Proofs.YtlggbcceoejkkaaGreat

