/- What the document's own answer does (notaryref): Claims, where the head's root is this one. -/
import Derived.Test.YtogmdaopfnmobaaGreatC20
namespace Go.Proofs.YtogmdaopfnmobaaGreat
open Go.RowKit
attribute [local go_sem ↓] run_neq_digest
set_option maxHeartbeats 2000000 in
set_option maxRecDepth 100000 in
theorem refClaims_end0 (n f t : Nat) (h0 h1 : Int) (c s m x : Int) (p : ByteArray) (w : World) (hn : n ≤ 64) (hft : f ≤ t) (htn : t ≤ n) (hs : p.size ≤ maxLen) (ns : List Nd) (hr : readR p.data.toList = some ns) (hl : ns.length = (cov 0 n f t).length) (hb : (wk 0 n f t ns false).2.2 = false)
    (hroot : (dg (hdText n (wk 0 n f t ns false).1) : Int) / 256 = h0 ∧ (dg (hdText n (wk 0 n f t ns false).1) : Int) % 256 = h1) :
    Calls Tryz.prog 98 #[.int .i64 0, .agg #[.int .i64 n, .int .u8 h0, .int .u8 h1], .int .i64 f, .int .i64 t, .agg #[.int .i64 c, .int .i64 s, .int .i64 m, .int .i64 x], .string p] w fun e w' => e = .returned (.int .i64 (if fld (cov 0 n f t) ns (cov 0 n f t).length = ⟨c, s, m, x⟩ then 0 else 10)) ∧ Below w.heap.size w w' := by
  have HR : ∀ w', Hid (Calls Tryz.prog 42 #[.string p] w' (readPost (some ns) w')) := fun w' => hid (hr ▸ refRead_any p w' hs)
  have HCv : ∀ w', Hid (Calls Tryz.prog 79 #[.int .i64 0, .int .i64 n, .int .i64 f, .int .i64 t] w' (covPost (cov 0 n f t) w')) := fun w' => hid (refCover_any f t (by omega) (by omega) n 0 n w' (by omega) (by omega) (by omega) (by omega))
  obtain ⟨hn64, hok, _⟩ := write_read _ _ hr
  have hok2 := (wk_ok f t n 0 n ns false (by omega) (fun d hd => List.all_eq_true.mp hok d hd) hb).1
  have HCm : ∀ ao cp w', Hid (Nodes w' w'.heap.size (.slice ao ns.length cp) ns → ns.length ≤ cp → cp ≤ 9223372036854775807 → Calls Tryz.prog 80 #[.slice ao ns.length cp, .int .i64 n, .int .i64 f, .int .i64 t] w' _) := fun ao cp w' => hid fun h1 h2 h3 => refComes_any n f t ao cp ns w' h1 h2 h3 (fun d hd => List.all_eq_true.mp hok d hd) (by omega) htn hft (by omega)
  generalize wk 0 n f t ns false = r at HCm hb hok2 hroot
  obtain ⟨d, rs, bd⟩ := r
  simp only at HCm hb hok2 hroot
  subst hb
  have HRt : ∀ w', Hid (Calls Tryz.prog 16 #[.int .i64 n, ndV d] w' _) := fun w' => hid (refRoot_any n d w' (by omega) hok2)
  generalize (dg (hdText n d) : Int) = D at HRt hroot
  have HFd : ∀ base g cap v w', Hid (w'.ownsRow base 188 3 (.slice (some ⟨g, 0, none⟩) (cov 0 n f t).length cap) (cov 0 n f t).length (spRow (cov 0 n f t)) → Nodes w' w'.heap.size v ns → Calls Tryz.prog 132 #[.slice (some ⟨g, 0, none⟩) (cov 0 n f t).length cap, v] w' _) := fun base g cap v w' => hid fun h1 h2 => refFolded_any (cov 0 n f t) ns base g cap v w' h1 h2 hl (by omega) (fun d hd => List.all_eq_true.mp hok d hd)
  generalize cov 0 n f t = C at HCv hl HFd ⊢
  generalize fld C ns C.length = F at HFd ⊢
  have hl2 : ((ns.length : Int) != (C.length : Int)) = false := by simp; omega
  clear hr hs hl hok hok2
  have n0 : ¬ (n : Int) < 0 := by omega
  have n1 : ¬ 64 < (n : Int) := by omega
  have f0 : ¬ (f : Int) < 0 := by omega
  have f1 : ¬ (t : Int) < f := by omega
  have f2 : ¬ (n : Int) < t := by omega
  go_enter Tryz.func98, Tryz.ntmps98
  go_wp2_with fail
  refine (HR _).out.mono ?_
  rintro e w1 ⟨v1, rfl, ho1, hb1⟩
  have HN1 : Hid (Nodes w1 w1.heap.size v1 ns) := hid (Nodes.own ho1 (by omega))
  obtain ⟨a1, p1, rfl, hp1, hp2⟩ := own_shape2 ho1
  have hc1 := oldc hb1
  have l1 : w.heap.size + 2 ≤ w1.heap.size := by have := hb1.size; simp at this; omega
  have l1a : w.heap.size < w1.heap.size := by omega
  have l1b : w.heap.size + 1 < w1.heap.size := by omega
  have B1 : Hid (Below w.heap.size w w1) := hid ((((Below.refl _ _).alloc (Nat.le_refl _) _).alloc (by simp) _).trans (hb1.mono (by simp; omega)))
  clear hb1 HR ho1
  go_wp2_with fail
  refine (HCv _).out.mono ?_
  rintro e w2 ⟨g2, p2, rfl, ho2, hb2⟩
  have hc2 := oldc hb2
  have l2 : w1.heap.size ≤ w2.heap.size := hb2.size
  have l2a : w.heap.size < w2.heap.size := by omega
  have l2b : w.heap.size + 1 < w2.heap.size := by omega
  have B2 : Hid (Below w.heap.size w w2) := hid (B1.out.trans (hb2.mono (by omega)))
  have HN2 : Hid (Nodes w2 w2.heap.size (.slice a1 ns.length p1) ns) := hid ((HN1.out.below hb2).mono (by omega))
  have HO2 : Hid (w2.ownsRow _ 188 3 (.slice (some ⟨g2, 0, none⟩) C.length p2) C.length (spRow C)) := ho2
  clear hb2 HCv ho2 B1 HN1
  go_wp2_with fail
  refine ((HCm _ _ _).out HN2.out hp1 hp2).mono ?_
  rintro e w3 ⟨rfl, hb3⟩
  have hc3 := oldc hb3
  have l3 : w2.heap.size ≤ w3.heap.size := hb3.size
  have l3a : w.heap.size < w3.heap.size := by omega
  have l3b : w.heap.size + 1 < w3.heap.size := by omega
  have B3 : Hid (Below w.heap.size w w3) := hid (B2.out.trans (hb3.mono (by omega)))
  have HN3 : Hid (Nodes w3 w2.heap.size (.slice a1 ns.length p1) ns) := hid (HN2.out.below hb3)
  have HO3 : Hid (w3.ownsRow _ 188 3 (.slice (some ⟨g2, 0, none⟩) C.length p2) C.length (spRow C)) := hid (ownsRow_below HO2.out hb3)
  clear hb3 HCm B2 HN2 HO2
  rw [ndV]
  go_wp2_with fail
  refine (show Calls Tryz.prog 16 #[.int .i64 n, ndV d] _ _ from (HRt _).out).mono ?_
  rintro e w4 ⟨rfl, hb4⟩
  have l4 : w3.heap.size < w4.heap.size := by have := hb4.size; simp at this; omega
  have hc4 := oldc (((Below.refl w3.heap.size w3).alloc (Nat.le_refl _) _).trans (hb4.mono (by simp)))
  have l4a : w.heap.size < w4.heap.size := by omega
  have l4b : w.heap.size + 1 < w4.heap.size := by omega
  have B4 : Hid (Below w.heap.size w w4) := hid ((B3.out.alloc B3.out.size _).trans (hb4.mono (by simp; omega)))
  have hbx : Below w3.heap.size w3 w4 := ((Below.refl w3.heap.size w3).alloc (Nat.le_refl _) _).trans (hb4.mono (by simp))
  have HN4 : Hid (Nodes w4 w4.heap.size (.slice a1 ns.length p1) ns) := hid ((HN3.out.below (hbx.mono (by omega))).mono (by omega))
  have HO4 : Hid (w4.ownsRow _ 188 3 (.slice (some ⟨g2, 0, none⟩) C.length p2) C.length (spRow C)) := hid (ownsRow_below HO3.out hbx)
  clear hb4 HRt B3 HN3 HO3 hbx
  obtain ⟨rfl, rfl⟩ := hroot
  go_wp2_with fail
  refine ((HFd _ _ _ _ _).out (HO4.out.alloc _) ((HN4.out.below ((Below.refl _ _).alloc (Nat.le_refl _) _)).mono (by simp))).mono ?_
  rintro e w5 ⟨rfl, hb5⟩
  have hc5 := oldc (((Below.refl w4.heap.size w4).alloc (Nat.le_refl _) _).trans (hb5.mono (by simp)))
  have B5 : Hid (Below w.heap.size w w5) := hid ((B4.out.alloc B4.out.size _).trans (hb5.mono (by simp; omega)))
  have l5 : w.heap.size ≤ w5.heap.size := B5.out.size
  have l5x : w4.heap.size < w5.heap.size := by have := hb5.size; simp at this; omega
  have l5a : w.heap.size < w5.heap.size := by omega
  have l5b : w.heap.size + 1 < w5.heap.size := by omega
  clear hb5 HFd B4 HN4 HO4
  obtain ⟨F1, F2, F3, F4⟩ := F
  rw [foV]
  simp only
  by_cases e1 : F1 = c
  · by_cases e2 : F2 = s
    · by_cases e3 : F3 = m
      · by_cases e4 : F4 = x
        · go_wp2
          all_goals go_ret
          all_goals first | exact ⟨rfl, B5.out.alloc l5 _⟩ | (exfalso; simp_all; done)
        · go_wp2
          all_goals go_ret
          all_goals first | exact ⟨rfl, B5.out.alloc l5 _⟩ | (exfalso; simp_all; done)
      · go_wp2
        all_goals go_ret
        all_goals first | exact ⟨rfl, B5.out.alloc l5 _⟩ | (exfalso; simp_all; done)
    · go_wp2
      all_goals go_ret
      all_goals first | exact ⟨rfl, B5.out.alloc l5 _⟩ | (exfalso; simp_all; done)
  · go_wp2
    all_goals go_ret
    all_goals first | exact ⟨rfl, B5.out.alloc l5 _⟩ | (exfalso; simp_all; done)
set_option maxHeartbeats 2000000 in
set_option maxRecDepth 100000 in
theorem refClaims_end1 (f t : Nat) (h0 h1 : Int) (c s m x : Int) (p : ByteArray) (w : World) (hft : f ≤ t) (htn : t ≤ 32) (hs : p.size ≤ maxLen) (ns : List Nd) (hr : readR p.data.toList = some ns) (hl : ns.length = (cov 0 32 f t).length) (hb : (wk 0 32 f t ns false).2.2 = false)
    (hroot : (dg (hdText 32 (wk 0 32 f t ns false).1) : Int) / 256 = h0 ∧ (dg (hdText 32 (wk 0 32 f t ns false).1) : Int) % 256 = h1) :
    Calls Tryz.prog 98 #[.int .i64 1, .agg #[.int .i64 32, .int .u8 h0, .int .u8 h1], .int .i64 f, .int .i64 t, .agg #[.int .i64 c, .int .i64 s, .int .i64 m, .int .i64 x], .string p] w fun e w' => e = .returned (.int .i64 (if fld (cov 0 32 f t) ns (cov 0 32 f t).length = ⟨c, s, m, x⟩ then 0 else 10)) ∧ Below w.heap.size w w' := by
  have HR : ∀ w', Hid (Calls Tryz.prog 42 #[.string p] w' (readPost (some ns) w')) := fun w' => hid (hr ▸ refRead_any p w' hs)
  have HCv : ∀ w', Hid (Calls Tryz.prog 79 #[.int .i64 0, .int .i64 32, .int .i64 f, .int .i64 t] w' (covPost (cov 0 32 f t) w')) := fun w' => hid (refCover_any f t (by omega) (by omega) 32 0 32 w' (by omega) (by omega) (by omega) (by omega))
  obtain ⟨hn64, hok, _⟩ := write_read _ _ hr
  have hok2 := (wk_ok f t 32 0 32 ns false (by omega) (fun d hd => List.all_eq_true.mp hok d hd) hb).1
  have HCm : ∀ ao cp w', Hid (Nodes w' w'.heap.size (.slice ao ns.length cp) ns → ns.length ≤ cp → cp ≤ 9223372036854775807 → Calls Tryz.prog 80 #[.slice ao ns.length cp, .int .i64 32, .int .i64 f, .int .i64 t] w' _) := fun ao cp w' => hid fun h1 h2 h3 => refComes_any 32 f t ao cp ns w' h1 h2 h3 (fun d hd => List.all_eq_true.mp hok d hd) (by omega) htn hft (by omega)
  generalize wk 0 32 f t ns false = r at HCm hb hok2 hroot
  obtain ⟨d, rs, bd⟩ := r
  simp only at HCm hb hok2 hroot
  subst hb
  have HRt : ∀ w', Hid (Calls Tryz.prog 16 #[.int .i64 32, ndV d] w' _) := fun w' => hid (refRoot_any 32 d w' (by omega) hok2)
  generalize (dg (hdText 32 d) : Int) = D at HRt hroot
  have HFd : ∀ base g cap v w', Hid (w'.ownsRow base 188 3 (.slice (some ⟨g, 0, none⟩) (cov 0 32 f t).length cap) (cov 0 32 f t).length (spRow (cov 0 32 f t)) → Nodes w' w'.heap.size v ns → Calls Tryz.prog 132 #[.slice (some ⟨g, 0, none⟩) (cov 0 32 f t).length cap, v] w' _) := fun base g cap v w' => hid fun h1 h2 => refFolded_any (cov 0 32 f t) ns base g cap v w' h1 h2 hl (by omega) (fun d hd => List.all_eq_true.mp hok d hd)
  generalize cov 0 32 f t = C at HCv hl HFd ⊢
  generalize fld C ns C.length = F at HFd ⊢
  have hl2 : ((ns.length : Int) != (C.length : Int)) = false := by simp; omega
  clear hr hs hl hok hok2
  have f0 : ¬ (f : Int) < 0 := by omega
  have f1 : ¬ (t : Int) < f := by omega
  have f2 : ¬ (32 : Int) < t := by omega
  go_enter Tryz.func98, Tryz.ntmps98
  go_wp2_with fail
  refine (HR _).out.mono ?_
  rintro e w1 ⟨v1, rfl, ho1, hb1⟩
  have HN1 : Hid (Nodes w1 w1.heap.size v1 ns) := hid (Nodes.own ho1 (by omega))
  obtain ⟨a1, p1, rfl, hp1, hp2⟩ := own_shape2 ho1
  have hc1 := oldc hb1
  have l1 : w.heap.size + 2 ≤ w1.heap.size := by have := hb1.size; simp at this; omega
  have l1a : w.heap.size < w1.heap.size := by omega
  have l1b : w.heap.size + 1 < w1.heap.size := by omega
  have B1 : Hid (Below w.heap.size w w1) := hid ((((Below.refl _ _).alloc (Nat.le_refl _) _).alloc (by simp) _).trans (hb1.mono (by simp; omega)))
  clear hb1 HR ho1
  go_wp2_with fail
  refine (HCv _).out.mono ?_
  rintro e w2 ⟨g2, p2, rfl, ho2, hb2⟩
  have hc2 := oldc hb2
  have l2 : w1.heap.size ≤ w2.heap.size := hb2.size
  have l2a : w.heap.size < w2.heap.size := by omega
  have l2b : w.heap.size + 1 < w2.heap.size := by omega
  have B2 : Hid (Below w.heap.size w w2) := hid (B1.out.trans (hb2.mono (by omega)))
  have HN2 : Hid (Nodes w2 w2.heap.size (.slice a1 ns.length p1) ns) := hid ((HN1.out.below hb2).mono (by omega))
  have HO2 : Hid (w2.ownsRow _ 188 3 (.slice (some ⟨g2, 0, none⟩) C.length p2) C.length (spRow C)) := ho2
  clear hb2 HCv ho2 B1 HN1
  go_wp2_with fail
  refine ((HCm _ _ _).out HN2.out hp1 hp2).mono ?_
  rintro e w3 ⟨rfl, hb3⟩
  have hc3 := oldc hb3
  have l3 : w2.heap.size ≤ w3.heap.size := hb3.size
  have l3a : w.heap.size < w3.heap.size := by omega
  have l3b : w.heap.size + 1 < w3.heap.size := by omega
  have B3 : Hid (Below w.heap.size w w3) := hid (B2.out.trans (hb3.mono (by omega)))
  have HN3 : Hid (Nodes w3 w2.heap.size (.slice a1 ns.length p1) ns) := hid (HN2.out.below hb3)
  have HO3 : Hid (w3.ownsRow _ 188 3 (.slice (some ⟨g2, 0, none⟩) C.length p2) C.length (spRow C)) := hid (ownsRow_below HO2.out hb3)
  clear hb3 HCm B2 HN2 HO2
  rw [ndV]
  go_wp2_with fail
  refine (show Calls Tryz.prog 16 #[.int .i64 32, ndV d] _ _ from (HRt _).out).mono ?_
  rintro e w4 ⟨rfl, hb4⟩
  have l4 : w3.heap.size < w4.heap.size := by have := hb4.size; simp at this; omega
  have hc4 := oldc (((Below.refl w3.heap.size w3).alloc (Nat.le_refl _) _).trans (hb4.mono (by simp)))
  have l4a : w.heap.size < w4.heap.size := by omega
  have l4b : w.heap.size + 1 < w4.heap.size := by omega
  have B4 : Hid (Below w.heap.size w w4) := hid ((B3.out.alloc B3.out.size _).trans (hb4.mono (by simp; omega)))
  have hbx : Below w3.heap.size w3 w4 := ((Below.refl w3.heap.size w3).alloc (Nat.le_refl _) _).trans (hb4.mono (by simp))
  have HN4 : Hid (Nodes w4 w4.heap.size (.slice a1 ns.length p1) ns) := hid ((HN3.out.below (hbx.mono (by omega))).mono (by omega))
  have HO4 : Hid (w4.ownsRow _ 188 3 (.slice (some ⟨g2, 0, none⟩) C.length p2) C.length (spRow C)) := hid (ownsRow_below HO3.out hbx)
  clear hb4 HRt B3 HN3 HO3 hbx
  obtain ⟨rfl, rfl⟩ := hroot
  go_wp2_with fail
  refine ((HFd _ _ _ _ _).out (HO4.out.alloc _) ((HN4.out.below ((Below.refl _ _).alloc (Nat.le_refl _) _)).mono (by simp))).mono ?_
  rintro e w5 ⟨rfl, hb5⟩
  have hc5 := oldc (((Below.refl w4.heap.size w4).alloc (Nat.le_refl _) _).trans (hb5.mono (by simp)))
  have B5 : Hid (Below w.heap.size w w5) := hid ((B4.out.alloc B4.out.size _).trans (hb5.mono (by simp; omega)))
  have l5 : w.heap.size ≤ w5.heap.size := B5.out.size
  have l5x : w4.heap.size < w5.heap.size := by have := hb5.size; simp at this; omega
  have l5a : w.heap.size < w5.heap.size := by omega
  have l5b : w.heap.size + 1 < w5.heap.size := by omega
  clear hb5 HFd B4 HN4 HO4
  obtain ⟨F1, F2, F3, F4⟩ := F
  rw [foV]
  simp only
  by_cases e1 : F1 = c
  · by_cases e2 : F2 = s
    · by_cases e3 : F3 = m
      · by_cases e4 : F4 = x
        · go_wp2
          all_goals go_ret
          all_goals first | exact ⟨rfl, B5.out.alloc l5 _⟩ | (exfalso; simp_all; done)
        · go_wp2
          all_goals go_ret
          all_goals first | exact ⟨rfl, B5.out.alloc l5 _⟩ | (exfalso; simp_all; done)
      · go_wp2
        all_goals go_ret
        all_goals first | exact ⟨rfl, B5.out.alloc l5 _⟩ | (exfalso; simp_all; done)
    · go_wp2
      all_goals go_ret
      all_goals first | exact ⟨rfl, B5.out.alloc l5 _⟩ | (exfalso; simp_all; done)
  · go_wp2
    all_goals go_ret
    all_goals first | exact ⟨rfl, B5.out.alloc l5 _⟩ | (exfalso; simp_all; done)
end Go.Proofs.YtogmdaopfnmobaaGreat

/- What the document's own answer does (notaryref): Claims, all cases. -/
namespace Go.Proofs.YtogmdaopfnmobaaGreat
open Go.RowKit
theorem refClaims_any0 (n f t : Nat) (h0 h1 : Int) (c s m x : Int) (p : ByteArray) (w : World) (hn : n ≤ 64) (hft : f ≤ t) (htn : t ≤ n) (hs : p.size ≤ maxLen) :
    Calls Tryz.prog 98 #[.int .i64 0, .agg #[.int .i64 n, .int .u8 h0, .int .u8 h1], .int .i64 f, .int .i64 t, .agg #[.int .i64 c, .int .i64 s, .int .i64 m, .int .i64 x], .string p] w fun e w' => e = .returned (.int .i64 (clE n f t h0 h1 ⟨c, s, m, x⟩ (readR p.data.toList))) ∧ Below w.heap.size w w' := by
  cases hr : readR p.data.toList with
  | none => exact refClaims_bad0 n f t h0 h1 c s m x p w hn hft htn hs hr
  | some ns =>
    by_cases hl : ns.length = (cov 0 n f t).length
    · by_cases hb : (wk 0 n f t ns false).2.2 = true
      · have := refClaims_node0 n f t h0 h1 c s m x p w hn hft htn hs ns hr hl hb
        have e : clE n f t h0 h1 ⟨c, s, m, x⟩ (some ns) = 6 := by
          unfold clE
          simp only
          rw [if_neg (by simpa using hl), if_pos hb]
        rw [e]; exact this
      · have hb' : (wk 0 n f t ns false).2.2 = false := by simpa using hb
        by_cases hroot : (dg (hdText n (wk 0 n f t ns false).1) : Int) / 256 ≠ h0 ∨ (dg (hdText n (wk 0 n f t ns false).1) : Int) % 256 ≠ h1
        · have := refClaims_root0 n f t h0 h1 c s m x p w hn hft htn hs ns hr hl hb' hroot
          have e : clE n f t h0 h1 ⟨c, s, m, x⟩ (some ns) = 9 := by
            unfold clE
            simp only
            rw [if_neg (by simpa using hl), if_neg hb, if_pos hroot]
          rw [e]; exact this
        · have := refClaims_end0 n f t h0 h1 c s m x p w hn hft htn hs ns hr hl hb' (by simpa using hroot)
          have e : clE n f t h0 h1 ⟨c, s, m, x⟩ (some ns) = if fld (cov 0 n f t) ns (cov 0 n f t).length = ⟨c, s, m, x⟩ then 0 else 10 := by
            unfold clE
            simp only
            rw [if_neg (by simpa using hl), if_neg hb, if_neg hroot]
            by_cases hf : fld (cov 0 n f t) ns (cov 0 n f t).length = ⟨c, s, m, x⟩ <;> simp [hf]
          rw [e]; exact this
    · have := refClaims_count0 n f t h0 h1 c s m x p w hn hft htn hs ns hr hl
      have e : clE n f t h0 h1 ⟨c, s, m, x⟩ (some ns) = 8 := by
        unfold clE
        simp only
        rw [if_pos hl]
      rw [e]; exact this
theorem refClaims_any1 (f t : Nat) (h0 h1 : Int) (c s m x : Int) (p : ByteArray) (w : World) (hft : f ≤ t) (htn : t ≤ 32) (hs : p.size ≤ maxLen) :
    Calls Tryz.prog 98 #[.int .i64 1, .agg #[.int .i64 32, .int .u8 h0, .int .u8 h1], .int .i64 f, .int .i64 t, .agg #[.int .i64 c, .int .i64 s, .int .i64 m, .int .i64 x], .string p] w fun e w' => e = .returned (.int .i64 (clE 32 f t h0 h1 ⟨c, s, m, x⟩ (readR p.data.toList))) ∧ Below w.heap.size w w' := by
  cases hr : readR p.data.toList with
  | none => exact refClaims_bad1 f t h0 h1 c s m x p w hft htn hs hr
  | some ns =>
    by_cases hl : ns.length = (cov 0 32 f t).length
    · by_cases hb : (wk 0 32 f t ns false).2.2 = true
      · have := refClaims_node1 f t h0 h1 c s m x p w hft htn hs ns hr hl hb
        have e : clE 32 f t h0 h1 ⟨c, s, m, x⟩ (some ns) = 6 := by
          unfold clE
          simp only
          rw [if_neg (by simpa using hl), if_pos hb]
        rw [e]; exact this
      · have hb' : (wk 0 32 f t ns false).2.2 = false := by simpa using hb
        by_cases hroot : (dg (hdText 32 (wk 0 32 f t ns false).1) : Int) / 256 ≠ h0 ∨ (dg (hdText 32 (wk 0 32 f t ns false).1) : Int) % 256 ≠ h1
        · have := refClaims_root1 f t h0 h1 c s m x p w hft htn hs ns hr hl hb' hroot
          have e : clE 32 f t h0 h1 ⟨c, s, m, x⟩ (some ns) = 9 := by
            unfold clE
            simp only
            rw [if_neg (by simpa using hl), if_neg hb, if_pos hroot]
          rw [e]; exact this
        · have := refClaims_end1 f t h0 h1 c s m x p w hft htn hs ns hr hl hb' (by simpa using hroot)
          have e : clE 32 f t h0 h1 ⟨c, s, m, x⟩ (some ns) = if fld (cov 0 32 f t) ns (cov 0 32 f t).length = ⟨c, s, m, x⟩ then 0 else 10 := by
            unfold clE
            simp only
            rw [if_neg (by simpa using hl), if_neg hb, if_neg hroot]
            by_cases hf : fld (cov 0 32 f t) ns (cov 0 32 f t).length = ⟨c, s, m, x⟩ <;> simp [hf]
          rw [e]; exact this
    · have := refClaims_count1 f t h0 h1 c s m x p w hft htn hs ns hr hl
      have e : clE 32 f t h0 h1 ⟨c, s, m, x⟩ (some ns) = 8 := by
        unfold clE
        simp only
        rw [if_pos hl]
      rw [e]; exact this
end Go.Proofs.YtogmdaopfnmobaaGreat

/- What the document's own answer does (notaryref): Grows, where it refuses before the roots. -/
namespace Go.Proofs.YtogmdaopfnmobaaGreat
open Go.RowKit
set_option maxHeartbeats 2000000 in
set_option maxRecDepth 100000 in
theorem refGrows_range (o n a0 a1 b0 b1 : Int) (p : ByteArray) (w : World) (hbad : o < 1 ∨ n < o ∨ 64 < n) :
    Calls Tryz.prog 41 #[.agg #[.int .i64 o, .int .u8 a0, .int .u8 a1], .agg #[.int .i64 n, .int .u8 b0, .int .u8 b1], .string p] w fun e w' => e = .returned (.int .i64 5) ∧ Below w.heap.size w w' := by
  have fin : ∀ o1 o2, Below w.heap.size w ((w.alloc o1).alloc o2) := fun o1 o2 => ((Below.refl _ _).alloc (Nat.le_refl _) _).alloc (by simp) _
  by_cases c1 : o < 1
  · clear hbad
    go_enter Tryz.func41, Tryz.ntmps41
    go_wp2
    go_ret
    exact ⟨rfl, fin _ _⟩
  · by_cases c2 : n < o
    · clear hbad
      go_enter Tryz.func41, Tryz.ntmps41
      go_wp2
      go_ret
      exact ⟨rfl, fin _ _⟩
    · have c3 : 64 < n := by omega
      clear hbad
      go_enter Tryz.func41, Tryz.ntmps41
      go_wp2
      go_ret
      exact ⟨rfl, fin _ _⟩
set_option maxHeartbeats 2000000 in
set_option maxRecDepth 100000 in
theorem refGrows_bad (o n : Nat) (a0 a1 b0 b1 : Int) (p : ByteArray) (w : World) (h1 : 1 ≤ o) (h2 : o ≤ n) (h3 : n ≤ 64) (hs : p.size ≤ maxLen) (hr : readR p.data.toList = none) :
    Calls Tryz.prog 41 #[.agg #[.int .i64 o, .int .u8 a0, .int .u8 a1], .agg #[.int .i64 n, .int .u8 b0, .int .u8 b1], .string p] w fun e w' => e = .returned (.int .i64 7) ∧ Below w.heap.size w w' := by
  have HR : ∀ w', Hid (Calls Tryz.prog 42 #[.string p] w' (readPost none w')) := fun w' => hid (hr ▸ refRead_any p w' hs)
  clear hr hs
  have n0 : ¬ (o : Int) < 1 := by omega
  have n1 : ¬ (n : Int) < o := by omega
  have n2 : ¬ 64 < (n : Int) := by omega
  go_enter Tryz.func41, Tryz.ntmps41
  go_wp2_with fail
  refine (HR _).out.mono ?_
  rintro e w1 ⟨rfl, hb1⟩
  have B1 : Hid (Below w.heap.size w w1) := hid ((((Below.refl _ _).alloc (Nat.le_refl _) _).alloc (by simp) _).trans (hb1.mono (by simp; omega)))
  clear hb1 HR
  go_wp2
  go_ret
  exact ⟨rfl, B1.out⟩
set_option maxHeartbeats 2000000 in
set_option maxRecDepth 100000 in
theorem refGrows_count (o n : Nat) (a0 a1 b0 b1 : Int) (p : ByteArray) (w : World) (h1 : 1 ≤ o) (h2 : o ≤ n) (h3 : n ≤ 64) (hs : p.size ≤ maxLen) (ns : List Nd) (hr : readR p.data.toList = some ns) (hl : ns.length ≠ (cov 0 n 0 o).length) :
    Calls Tryz.prog 41 #[.agg #[.int .i64 o, .int .u8 a0, .int .u8 a1], .agg #[.int .i64 n, .int .u8 b0, .int .u8 b1], .string p] w fun e w' => e = .returned (.int .i64 8) ∧ Below w.heap.size w w' := by
  have HR : ∀ w', Hid (Calls Tryz.prog 42 #[.string p] w' (readPost (some ns) w')) := fun w' => hid (hr ▸ refRead_any p w' hs)
  have HCv : ∀ w', Hid (Calls Tryz.prog 79 #[.int .i64 0, .int .i64 n, .int .i64 0, .int .i64 o] w' (covPost (cov 0 n 0 o) w')) := fun w' => hid (refCover_any 0 o (by omega) (by omega) n 0 n w' (by omega) (by omega) (by omega) (by omega))
  generalize cov 0 n 0 o = C at HCv hl
  have hl2 : ((ns.length : Int) != (C.length : Int)) = true := by simp; omega
  clear hr hs hl
  have n0 : ¬ (o : Int) < 1 := by omega
  have n1 : ¬ (n : Int) < o := by omega
  have n2 : ¬ 64 < (n : Int) := by omega
  go_enter Tryz.func41, Tryz.ntmps41
  go_wp2_with fail
  refine (HR _).out.mono ?_
  rintro e w1 ⟨v1, rfl, ho1, hb1⟩
  obtain ⟨a1, p1, rfl⟩ := own_shape ho1
  have hc1 := oldc hb1
  have l1 : w.heap.size + 2 ≤ w1.heap.size := by have := hb1.size; simp at this; omega
  have l1a : w.heap.size < w1.heap.size := by omega
  have l1b : w.heap.size + 1 < w1.heap.size := by omega
  have B1 : Hid (Below w.heap.size w w1) := hid ((((Below.refl _ _).alloc (Nat.le_refl _) _).alloc (by simp) _).trans (hb1.mono (by simp; omega)))
  clear hb1 HR ho1
  go_wp2_with fail
  refine (HCv _).out.mono ?_
  rintro e w2 ⟨g2, p2, rfl, ho2, hb2⟩
  have B2 : Hid (Below w.heap.size w w2) := hid (B1.out.trans (hb2.mono (by omega)))
  clear hb2 HCv ho2 B1
  go_wp2
  go_ret
  exact ⟨rfl, B2.out⟩
end Go.Proofs.YtogmdaopfnmobaaGreat

/- What the document's own answer does (notaryref): Grows, nodes too great. -/
namespace Go.Proofs.YtogmdaopfnmobaaGreat
open Go.RowKit
set_option maxHeartbeats 2000000 in
set_option maxRecDepth 100000 in
theorem refGrows_node (o n : Nat) (a0 a1 b0 b1 : Int) (p : ByteArray) (w : World) (h1 : 1 ≤ o) (h2 : o ≤ n) (h3 : n ≤ 64) (hs : p.size ≤ maxLen) (ns : List Nd) (hr : readR p.data.toList = some ns) (hl : ns.length = (cov 0 n 0 o).length) (hb : (wk 0 n 0 o ns false).2.2 = true) :
    Calls Tryz.prog 41 #[.agg #[.int .i64 o, .int .u8 a0, .int .u8 a1], .agg #[.int .i64 n, .int .u8 b0, .int .u8 b1], .string p] w fun e w' => e = .returned (.int .i64 6) ∧ Below w.heap.size w w' := by
  have HR : ∀ w', Hid (Calls Tryz.prog 42 #[.string p] w' (readPost (some ns) w')) := fun w' => hid (hr ▸ refRead_any p w' hs)
  have HCv : ∀ w', Hid (Calls Tryz.prog 79 #[.int .i64 0, .int .i64 n, .int .i64 0, .int .i64 o] w' (covPost (cov 0 n 0 o) w')) := fun w' => hid (refCover_any 0 o (by omega) (by omega) n 0 n w' (by omega) (by omega) (by omega) (by omega))
  obtain ⟨hn64, hok, _⟩ := write_read _ _ hr
  have HCm : ∀ ao cp w', Hid (Nodes w' w'.heap.size (.slice ao ns.length cp) ns → ns.length ≤ cp → cp ≤ 9223372036854775807 → Calls Tryz.prog 80 #[.slice ao ns.length cp, .int .i64 n, .int .i64 0, .int .i64 o] w' _) := fun ao cp w' => hid fun h1' h2' h3' => refComes_any n 0 o ao cp ns w' h1' h2' h3' (fun d hd => List.all_eq_true.mp hok d hd) (by omega) h2 (by omega) (by omega)
  generalize wk 0 n 0 o ns false = r at HCm hb
  obtain ⟨d, rs, bd⟩ := r
  simp only at HCm hb
  subst hb
  generalize cov 0 n 0 o = C at HCv hl
  have hl2 : ((ns.length : Int) != (C.length : Int)) = false := by simp; omega
  clear hr hs hl hok
  have n0 : ¬ (o : Int) < 1 := by omega
  have n1 : ¬ (n : Int) < o := by omega
  have n2 : ¬ 64 < (n : Int) := by omega
  go_enter Tryz.func41, Tryz.ntmps41
  go_wp2_with fail
  refine (HR _).out.mono ?_
  rintro e w1 ⟨v1, rfl, ho1, hb1⟩
  have HN1 : Hid (Nodes w1 w1.heap.size v1 ns) := hid (Nodes.own ho1 (by omega))
  obtain ⟨q1, p1, rfl, hp1, hp2⟩ := own_shape2 ho1
  have hc1 := oldc hb1
  have l1 : w.heap.size + 2 ≤ w1.heap.size := by have := hb1.size; simp at this; omega
  have l1a : w.heap.size < w1.heap.size := by omega
  have l1b : w.heap.size + 1 < w1.heap.size := by omega
  have B1 : Hid (Below w.heap.size w w1) := hid ((((Below.refl _ _).alloc (Nat.le_refl _) _).alloc (by simp) _).trans (hb1.mono (by simp; omega)))
  clear hb1 HR ho1
  go_wp2_with fail
  refine (HCv _).out.mono ?_
  rintro e w2 ⟨g2, p2, rfl, ho2, hb2⟩
  have hc2 := oldc hb2
  have l2 : w1.heap.size ≤ w2.heap.size := hb2.size
  have l2a : w.heap.size < w2.heap.size := by omega
  have l2b : w.heap.size + 1 < w2.heap.size := by omega
  have B2 : Hid (Below w.heap.size w w2) := hid (B1.out.trans (hb2.mono (by omega)))
  have HN2 : Hid (Nodes w2 w2.heap.size (.slice q1 ns.length p1) ns) := hid ((HN1.out.below hb2).mono (by omega))
  clear hb2 HCv ho2 B1 HN1
  go_wp2_with fail
  refine ((HCm _ _ _).out HN2.out hp1 hp2).mono ?_
  rintro e w3 ⟨rfl, hb3⟩
  have B3 : Hid (Below w.heap.size w w3) := hid (B2.out.trans (hb3.mono (by omega)))
  clear hb3 HCm B2 HN2
  rw [ndV]
  go_wp2
  go_ret
  exact ⟨rfl, B3.out.alloc B3.out.size _⟩
end Go.Proofs.YtogmdaopfnmobaaGreat

