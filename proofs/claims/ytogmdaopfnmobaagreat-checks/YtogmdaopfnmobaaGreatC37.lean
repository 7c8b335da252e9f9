/- What CheckGrown does. -/
import Derived.Test.YtogmdaopfnmobaaGreatC36
namespace Go.Proofs.YtogmdaopfnmobaaGreat
open Go.RowKit
attribute [local go_sem ↓] run_neq_digest
attribute [local go_sem ↓] run_field_root
theorem heap_twoA (w : World) (o1 o2 : Obj) (n : Nat) (hn : n = w.heap.size) : ((w.alloc o1).alloc o2).heap[n]? = some o1 := by
  subst hn
  have : w.heap.size < (w.heap.push o1).size := by simp
  show ((w.heap.push o1).push o2)[w.heap.size]? = _
  rw [Array.getElem?_push, if_neg (by simp), Array.getElem?_push, if_pos rfl]
theorem heap_twoB (w : World) (o1 o2 : Obj) (n : Nat) (hn : n = w.heap.size) : ((w.alloc o1).alloc o2).heap[n + 1]? = some o2 := by
  subst hn
  show ((w.heap.push o1).push o2)[w.heap.size + 1]? = _
  rw [Array.getElem?_push, if_pos (by simp)]
def cgE (o n : Nat) (a0 a1 b0 b1 : Int) (q : Option (List Nd)) : Int :=
  match q with
  | none => 7
  | some ns =>
    if ns.length ≠ (cov 0 n 0 o).length then 8
    else if (cm 0 n 0 o ns).ok = false then 6
    else if ((dg (hdText n (cm 0 n 0 o ns)) : Int) / 256 ≠ b0 ∨ (dg (hdText n (cm 0 n 0 o ns)) : Int) % 256 ≠ b1) ∨ ((dg (hdText o (bgn 0 n o ns)) : Int) / 256 ≠ a0 ∨ (dg (hdText o (bgn 0 n o ns)) : Int) % 256 ≠ a1) then 9
    else 0
theorem cgE_rt {o n : Nat} {a0 a1 b0 b1 : Int} {q : Option (List Nd)} (h : rtE n 0 o q ≠ 0) : cgE o n a0 a1 b0 b1 q = rtE n 0 o q := by
  unfold cgE rtE at *
  cases q with
  | none => rfl
  | some ns =>
    simp only at h ⊢
    by_cases hl : ns.length = (cov 0 n 0 o).length
    · rw [if_pos hl] at h ⊢
      rw [if_neg (fun c => c hl)]
      cases hc : (cm 0 n 0 o ns).ok with
      | true => rw [hc] at h; simp at h
      | false => simp
    · rw [if_neg hl, if_pos hl]
set_option maxHeartbeats 2000000 in
set_option maxRecDepth 100000 in
theorem checkGrown_range (o n a0 a1 b0 b1 : Int) (p : ByteArray) (w : World) (hbad : o < 1 ∨ n < o ∨ 64 < n) :
    Calls Tryz.prog 18 #[.agg #[.int .i64 o, .int .u8 a0, .int .u8 a1], .agg #[.int .i64 n, .int .u8 b0, .int .u8 b1], .string p] w fun e w' => e = .returned (.int .i64 5) ∧ Below w.heap.size w w' := by
  have fin : ∀ o1 o2, Below w.heap.size w ((w.alloc o1).alloc o2) := fun o1 o2 => ((Below.refl _ _).alloc (Nat.le_refl _) _).alloc (by simp) _
  by_cases c1 : o < 1
  · clear hbad
    go_enter Tryz.func18, Tryz.ntmps18
    go_wp2
    go_ret
    exact ⟨rfl, fin _ _⟩
  · by_cases c2 : n < o
    · clear hbad
      go_enter Tryz.func18, Tryz.ntmps18
      go_wp2
      go_ret
      exact ⟨rfl, fin _ _⟩
    · have c3 : 64 < n := by omega
      clear hbad
      go_enter Tryz.func18, Tryz.ntmps18
      go_wp2
      go_ret
      exact ⟨rfl, fin _ _⟩
set_option maxHeartbeats 4000000 in
set_option maxRecDepth 100000 in
theorem checkGrown_good (o n : Nat) (a0 a1 b0 b1 : Int) (p : ByteArray) (w : World) (h1 : 1 ≤ o) (h2 : o ≤ n) (h3 : n ≤ 64) (hs : p.size ≤ maxLen) :
    Calls Tryz.prog 18 #[.agg #[.int .i64 o, .int .u8 a0, .int .u8 a1], .agg #[.int .i64 n, .int .u8 b0, .int .u8 b1], .string p] w fun e w' => e = .returned (.int .i64 (cgE o n a0 a1 b0 b1 (readR p.data.toList))) ∧ Below w.heap.size w w' := by
  have n0 : ¬ (o : Int) < 1 := by omega
  have n1 : ¬ (n : Int) < o := by omega
  have n2 : ¬ 64 < (n : Int) := by omega
  obtain ⟨W1, hW1⟩ : ∃ W1, W1 = (w.alloc (.cells #[.int .i64 o, .int .u8 a0, .int .u8 a1] 58)).alloc (.cells #[.int .i64 n, .int .u8 b0, .int .u8 b1] 58) := ⟨_, rfl⟩
  have hz1 : W1.heap.size = w.heap.size + 2 := by rw [hW1]; simp
  have hB1 : Below w.heap.size w W1 := by rw [hW1]; exact (((Below.refl _ _).alloc (Nat.le_refl _) _).alloc (by simp) _)
  have hh0 : W1.heap[w.heap.size]? = some (.cells #[.int .i64 o, .int .u8 a0, .int .u8 a1] 58 (0, 0)) := by rw [hW1]; exact heap_twoA w _ _ _ rfl
  have hh1 : W1.heap[w.heap.size + 1]? = some (.cells #[.int .i64 n, .int .u8 b0, .int .u8 b1] 58 (0, 0)) := by rw [hW1]; exact heap_twoB w _ _ _ rfl
  have HCS : Hid (∀ w', Below W1.heap.size W1 w' → (w'.cell? ⟨w.heap.size, 0, none⟩ = some (.int .i64 o) ∧ w'.cell? ⟨w.heap.size, 1, none⟩ = some (.int .u8 a0) ∧ w'.cell? ⟨w.heap.size, 2, none⟩ = some (.int .u8 a1) ∧ w'.cell? ⟨w.heap.size + 1, 0, none⟩ = some (.int .i64 n) ∧ w'.cell? ⟨w.heap.size + 1, 1, none⟩ = some (.int .u8 b0) ∧ w'.cell? ⟨w.heap.size + 1, 2, none⟩ = some (.int .u8 b1)) ∧ Below w.heap.size w w') := hid fun w' hb => by
    have e := (hb.block w.heap.size (by omega)).trans hh0
    have e' := (hb.block (w.heap.size + 1) (by omega)).trans hh1
    exact ⟨⟨by rw [cell_of_row w' _ _ _ _ _ e]; rfl, by rw [cell_of_row w' _ _ _ _ _ e]; rfl, by rw [cell_of_row w' _ _ _ _ _ e]; rfl, by rw [cell_of_row w' _ _ _ _ _ e']; rfl, by rw [cell_of_row w' _ _ _ _ _ e']; rfl, by rw [cell_of_row w' _ _ _ _ _ e']; rfl⟩, hB1.trans (hb.mono (by omega))⟩
  have HRT := hid (readTree_any n 0 o p W1 h3 h2 hs)
  have HOK : Hid (∀ ns, readR p.data.toList = some ns → ∀ d ∈ ns, d.ok = true) := hid fun ns ho => List.all_eq_true.1 (write_read _ _ ho).2.1
  generalize readR p.data.toList = q at HRT HOK ⊢
  by_cases h0e : rtE n 0 o q = 0
  · obtain ⟨ns, ho⟩ : ∃ ns, q = some ns := by
      cases q with
      | none => simp [rtE] at h0e
      | some ns => exact ⟨ns, rfl⟩
    subst ho
    have hok := HOK.out ns rfl
    have hlen : ns.length = (cov 0 n 0 o).length := by
      by_cases hl : ns.length = (cov 0 n 0 o).length
      · exact hl
      · simp [rtE, hl] at h0e
    have hcok : (cm 0 n 0 o ns).ok = true := by
      cases hc : (cm 0 n 0 o ns).ok with
      | true => rfl
      | false => simp [rtE, hlen, hc] at h0e
    have hbok : (bgn 0 n o ns).ok = true := by
      have := bgz_ok hlen hok hcok 0
      rw [List.drop_zero, bgz_whole h1 h2 hlen] at this
      exact this
    have hcm := comes_cm 0 o n 0 n ns [] [] (by omega) (by omega) h3 (by omega) hok (fun _ => ⟨rfl, rfl⟩) (by simp) (by simp)
    have hcb := comes_bgn o n 0 n ns [] [] (by omega) (by omega) h2 h3 (by omega) hok (by simp) (by simp)
    simp only [List.nil_append, List.append_nil] at hcm hcb
    have hE : cgE o n a0 a1 b0 b1 (some ns) = if ((dg (hdText n (cm 0 n 0 o ns)) : Int) / 256 ≠ b0 ∨ (dg (hdText n (cm 0 n 0 o ns)) : Int) % 256 ≠ b1) ∨ ((dg (hdText o (bgn 0 n o ns)) : Int) / 256 ≠ a0 ∨ (dg (hdText o (bgn 0 n o ns)) : Int) % 256 ≠ a1) then 9 else 0 := by
      simp only [cgE]
      rw [if_neg (by simpa using hlen), if_neg (by simp [hcok])]
    have HH : ∀ B M w', Hid (pfK B M (gL ((cov 0 n 0 o).zip ns)) w' → Calls Tryz.prog 35 #[.int .i64 n, cloV 118 B] w' fun e w2 => e = .returned (hdV n (dg (hdText n (cm 0 n 0 o ns)))) ∧ Below w'.heap.size w' w2) := fun B M w' => hid fun h => head_any (prf_src B M n _ h3) h3 (Nat.le_refl _) hcm (Nd.mid_of_ok hcok) w' h
    have HG : ∀ B M w', Hid (pfK B M (gL ((cov 0 n 0 o).zip ns)) w' → Calls Tryz.prog 35 #[.int .i64 o, cloV 118 B] w' fun e w2 => e = .returned (hdV o (dg (hdText o (bgn 0 n o ns)))) ∧ Below w'.heap.size w' w2) := fun B M w' => hid fun h => head_any (prf_src B M n _ h3) h3 h2 hcb (Nd.mid_of_ok hbok) w' h
    have HPK : Hid (∀ B M w' w2, pfK B M (gL ((cov 0 n 0 o).zip ns)) w' → Below w'.heap.size w' w2 → pfK B M (gL ((cov 0 n 0 o).zip ns)) w2) := hid fun B M w' w2 h1 h2 => h1.later h2
    have HH0 := hid h0e
    rw [hE]
    rw [hW1] at HRT HCS
    clear hh0 hh1 hB1 hz1 hW1 h0e hE hcm hcb hcok hbok hlen hok HOK
    generalize dg (hdText n (cm 0 n 0 o ns)) = D at HH ⊢
    generalize dg (hdText o (bgn 0 n o ns)) = G at HG ⊢
    unfold paV at HRT
    unfold hdV at HH HG
    by_cases hd : (D : Int) / 256 = b0 ∧ (D : Int) % 256 = b1
    · have hd1 : decide ((D : Int) / 256 = b0) = true := decide_eq_true hd.1
      have hd2 : decide ((D : Int) % 256 = b1) = true := decide_eq_true hd.2
      by_cases hg : (G : Int) / 256 = a0 ∧ (G : Int) % 256 = a1
      · have hg1 : decide ((G : Int) / 256 = a0) = true := decide_eq_true hg.1
        have hg2 : decide ((G : Int) % 256 = a1) = true := decide_eq_true hg.2
        rw [if_neg (by rintro ((x | x) | (x | x)); exact x hd.1; exact x hd.2; exact x hg.1; exact x hg.2)]
        clear hd hg
        go_enter Tryz.func18, Tryz.ntmps18
        go_wp2_with fail
        refine HRT.out.mono ?_
        rintro e w2 ⟨hb2, hp⟩
        rw [if_pos HH0.out] at hp
        obtain ⟨ns', B, M, hns, rfl, hK⟩ := hp
        obtain rfl : ns = ns' := by simpa using hns
        have HK := hid hK
        have HCW : Hid (∀ w', Below w2.heap.size w2 w' → (w'.cell? ⟨w.heap.size, 0, none⟩ = some (.int .i64 o) ∧ w'.cell? ⟨w.heap.size, 1, none⟩ = some (.int .u8 a0) ∧ w'.cell? ⟨w.heap.size, 2, none⟩ = some (.int .u8 a1) ∧ w'.cell? ⟨w.heap.size + 1, 0, none⟩ = some (.int .i64 n) ∧ w'.cell? ⟨w.heap.size + 1, 1, none⟩ = some (.int .u8 b0) ∧ w'.cell? ⟨w.heap.size + 1, 2, none⟩ = some (.int .u8 b1)) ∧ Below w.heap.size w w') := hid fun w' hb => HCS.out w' (hb2.trans (hb.mono hb2.size))
        have hc2 := (HCS.out w2 hb2).1
        clear hb2 HCS HRT hK hns
        go_wp2
        go_region_held3 (fun w' => w'.cell? ⟨w.heap.size, 0, none⟩ = some (.int .i64 o) ∧ w'.cell? ⟨w.heap.size, 1, none⟩ = some (.int .u8 a0) ∧ w'.cell? ⟨w.heap.size, 2, none⟩ = some (.int .u8 a1) ∧ w'.cell? ⟨w.heap.size + 1, 0, none⟩ = some (.int .i64 n) ∧ w'.cell? ⟨w.heap.size + 1, 1, none⟩ = some (.int .u8 b0) ∧ w'.cell? ⟨w.heap.size + 1, 2, none⟩ = some (.int .u8 b1))
          (first | exact hcm | exact hcn | go_keep)
          (first
            | (have HBx := HB3; go_at_call 35; refine ((HG B M w3).out (HPK.out B M w2 w3 HK.out HB3.out)).mono ?_; rintro e w4 ⟨rfl, hb4⟩; have hcm := (HCW.out w4 (HB3.out.trans (hb4.mono HB3.out.size))).1; have hBm := (HCW.out w4 (HB3.out.trans (hb4.mono HB3.out.size))).2; clear hb4)
            | (go_at_call 35; refine ((HH B M _).out (HPK.out B M w2 _ HK.out (Below.refl _ _).drew)).mono ?_; rintro e w3 ⟨rfl, hb3⟩; have hcn := (HCW.out w3 ((Below.refl _ _).drew.trans hb3)).1; have HB3 := hid ((Below.refl w2.heap.size w2).drew.trans hb3); clear hb3))
        all_goals go_wp2
        all_goals go_ret
        all_goals exact ⟨rfl, hBm⟩
      · have hg' : (decide ((G : Int) / 256 = a0) && decide ((G : Int) % 256 = a1)) = false := by simpa [Bool.and_eq_false_iff] using fun x => fun y => hg ⟨x, y⟩
        rw [if_pos (.inr (by by_cases x : (G : Int) / 256 = a0; exact .inr (fun y => hg ⟨x, y⟩); exact .inl x))]
        clear hd hg
        go_enter Tryz.func18, Tryz.ntmps18
        go_wp2_with fail
        refine HRT.out.mono ?_
        rintro e w2 ⟨hb2, hp⟩
        rw [if_pos HH0.out] at hp
        obtain ⟨ns', B, M, hns, rfl, hK⟩ := hp
        obtain rfl : ns = ns' := by simpa using hns
        have HK := hid hK
        have HCW : Hid (∀ w', Below w2.heap.size w2 w' → (w'.cell? ⟨w.heap.size, 0, none⟩ = some (.int .i64 o) ∧ w'.cell? ⟨w.heap.size, 1, none⟩ = some (.int .u8 a0) ∧ w'.cell? ⟨w.heap.size, 2, none⟩ = some (.int .u8 a1) ∧ w'.cell? ⟨w.heap.size + 1, 0, none⟩ = some (.int .i64 n) ∧ w'.cell? ⟨w.heap.size + 1, 1, none⟩ = some (.int .u8 b0) ∧ w'.cell? ⟨w.heap.size + 1, 2, none⟩ = some (.int .u8 b1)) ∧ Below w.heap.size w w') := hid fun w' hb => HCS.out w' (hb2.trans (hb.mono hb2.size))
        have hc2 := (HCS.out w2 hb2).1
        clear hb2 HCS HRT hK hns
        go_wp2
        go_region_held3 (fun w' => w'.cell? ⟨w.heap.size, 0, none⟩ = some (.int .i64 o) ∧ w'.cell? ⟨w.heap.size, 1, none⟩ = some (.int .u8 a0) ∧ w'.cell? ⟨w.heap.size, 2, none⟩ = some (.int .u8 a1) ∧ w'.cell? ⟨w.heap.size + 1, 0, none⟩ = some (.int .i64 n) ∧ w'.cell? ⟨w.heap.size + 1, 1, none⟩ = some (.int .u8 b0) ∧ w'.cell? ⟨w.heap.size + 1, 2, none⟩ = some (.int .u8 b1))
          (first | exact hcm | exact hcn | go_keep)
          (first
            | (have HBx := HB3; go_at_call 35; refine ((HG B M w3).out (HPK.out B M w2 w3 HK.out HB3.out)).mono ?_; rintro e w4 ⟨rfl, hb4⟩; have hcm := (HCW.out w4 (HB3.out.trans (hb4.mono HB3.out.size))).1; have hBm := (HCW.out w4 (HB3.out.trans (hb4.mono HB3.out.size))).2; clear hb4)
            | (go_at_call 35; refine ((HH B M _).out (HPK.out B M w2 _ HK.out (Below.refl _ _).drew)).mono ?_; rintro e w3 ⟨rfl, hb3⟩; have hcn := (HCW.out w3 ((Below.refl _ _).drew.trans hb3)).1; have HB3 := hid ((Below.refl w2.heap.size w2).drew.trans hb3); clear hb3))
        all_goals go_wp2
        all_goals go_ret
        all_goals exact ⟨rfl, hBm⟩
    · have hd' : (decide ((D : Int) / 256 = b0) && decide ((D : Int) % 256 = b1)) = false := by simpa [Bool.and_eq_false_iff] using fun x => fun y => hd ⟨x, y⟩
      rw [if_pos (.inl (by by_cases x : (D : Int) / 256 = b0; exact .inr (fun y => hd ⟨x, y⟩); exact .inl x))]
      clear hd HG
      go_enter Tryz.func18, Tryz.ntmps18
      go_wp2_with fail
      refine HRT.out.mono ?_
      rintro e w2 ⟨hb2, hp⟩
      rw [if_pos HH0.out] at hp
      obtain ⟨ns', B, M, hns, rfl, hK⟩ := hp
      obtain rfl : ns = ns' := by simpa using hns
      have HK := hid hK
      have HCW : Hid (∀ w', Below w2.heap.size w2 w' → (w'.cell? ⟨w.heap.size, 0, none⟩ = some (.int .i64 o) ∧ w'.cell? ⟨w.heap.size, 1, none⟩ = some (.int .u8 a0) ∧ w'.cell? ⟨w.heap.size, 2, none⟩ = some (.int .u8 a1) ∧ w'.cell? ⟨w.heap.size + 1, 0, none⟩ = some (.int .i64 n) ∧ w'.cell? ⟨w.heap.size + 1, 1, none⟩ = some (.int .u8 b0) ∧ w'.cell? ⟨w.heap.size + 1, 2, none⟩ = some (.int .u8 b1)) ∧ Below w.heap.size w w') := hid fun w' hb => HCS.out w' (hb2.trans (hb.mono hb2.size))
      have hc2 := (HCS.out w2 hb2).1
      clear hb2 HCS HRT hK hns
      go_wp2
      refine wp_region_held_drew (S := fun w' => w'.cell? ⟨w.heap.size, 0, none⟩ = some (.int .i64 o) ∧ w'.cell? ⟨w.heap.size, 1, none⟩ = some (.int .u8 a0) ∧ w'.cell? ⟨w.heap.size, 2, none⟩ = some (.int .u8 a1) ∧ w'.cell? ⟨w.heap.size + 1, 0, none⟩ = some (.int .i64 n) ∧ w'.cell? ⟨w.heap.size + 1, 1, none⟩ = some (.int .u8 b0) ∧ w'.cell? ⟨w.heap.size + 1, 2, none⟩ = some (.int .u8 b1)) (by kernel_rfl) ?_ (fun hHeld => ?_)
      · exact (HCW.out _ (Below.refl _ _).drew).1
      refine wpAnyH_take (i := 0) (oi := _) (v := ?_) rfl (by kernel_rfl) (by kernel_rfl) (by kernel_rfl) (fun _ _ _ h => h) (Or.inl ⟨by rfl, ?_⟩) (by assumption) ?_
      rotate_left
      ·
        intro w' hSw
        try dsimp only at hSw
        go_simp
        try with_reducible rfl
      change wpAnyH _ _ _ _ _ _ _ (Act.put _ (some 37) _) _
      simp only [Act.put, List.setIfInBounds_toArray, List.set_cons_zero, List.set_cons_succ]
      refine wpAnyH_take (i := 2) (oi := _) (v := ?_) rfl (by kernel_rfl) (by kernel_rfl) (by kernel_rfl) (fun _ _ _ h => h) (Or.inl ⟨by rfl, ?_⟩) (by assumption) ?_
      rotate_left
      ·
        intro w' hSw
        try dsimp only at hSw
        go_simp
        try with_reducible rfl
      change wpAnyH _ _ _ _ _ _ _ (Act.put _ (some 39) _) _
      simp only [Act.put, List.setIfInBounds_toArray, List.set_cons_zero, List.set_cons_succ]
      refine wpAnyH_take (i := 5) (oi := _) (v := ?_) rfl (by kernel_rfl) (by kernel_rfl) (by kernel_rfl) (fun _ _ _ h => h) (Or.inl ⟨by rfl, ?_⟩) (by assumption) ?_
      rotate_left
      ·
        intro w' hSw
        try dsimp only at hSw
        go_simp
        try with_reducible rfl
      change wpAnyH _ _ _ _ _ _ _ (Act.put _ (some 42) _) _
      simp only [Act.put, List.setIfInBounds_toArray, List.set_cons_zero, List.set_cons_succ]
      refine wpAnyH_take (i := 1) (oi := _) (v := ?_) rfl (by kernel_rfl) (by kernel_rfl) (by kernel_rfl) (fun _ _ _ h => h) (Or.inl ⟨by rfl, ?_⟩) (by assumption) ?_
      rotate_left
      ·
        intro w' hSw
        try dsimp only at hSw
        go_simp
        try with_reducible rfl
      change wpAnyH _ _ _ _ _ _ _ (Act.put _ (some 38) _) _
      simp only [Act.put, List.setIfInBounds_toArray, List.set_cons_zero, List.set_cons_succ]
      refine wpAnyH_take (i := 6) (oi := _) (v := ?_) rfl (by kernel_rfl) (by kernel_rfl) (by kernel_rfl) (fun _ _ _ h => h) (Or.inl ⟨by rfl, ?_⟩) (by assumption) ?_
      rotate_left
      ·
        intro w' hSw
        try dsimp only at hSw
        go_simp
        try with_reducible rfl
      change wpAnyH _ _ _ _ _ _ _ (Act.put _ (some 43) _) _
      simp only [Act.put, List.setIfInBounds_toArray, List.set_cons_zero, List.set_cons_succ]
      refine wpAnyH_ready (rs := [3]) (by kernel_rfl) (by simp) ?_
      refine AllReadyH.cons (o := _) rfl (fun K hK => ?_) AllReadyH.nil
      go_simp
      go_at_call 35
      refine ((HH B M _).out (HPK.out B M w2 _ HK.out (Below.refl _ _).drew)).mono ?_
      rintro e w3 ⟨rfl, hb3⟩
      have hcn := (HCW.out w3 ((Below.refl _ _).drew.trans hb3)).1
      have hBm := (HCW.out w3 ((Below.refl _ _).drew.trans hb3)).2
      clear hb3
      refine hK.out _ _ hcn (fun hHeld => ?_)
      clear hK K
      refine wpAnyH_take (i := 4) (oi := _) (v := ?_) rfl (by kernel_rfl) (by kernel_rfl) (by kernel_rfl) (fun _ _ _ h => h) (Or.inl ⟨by rfl, ?_⟩) (by assumption) ?_
      rotate_left
      ·
        intro w' hSw
        try dsimp only at hSw
        go_simp
        try with_reducible rfl
      change wpAnyH _ _ _ _ _ _ _ (Act.put _ (some 41) _) _
      simp only [Act.put, List.setIfInBounds_toArray, List.set_cons_zero, List.set_cons_succ]
      refine wpAnyH_take (i := 7) (oi := _) (v := ?_) rfl (by kernel_rfl) (by kernel_rfl) (by kernel_rfl) (fun _ _ _ h => h) (Or.inl ⟨by rfl, ?_⟩) (by assumption) ?_
      rotate_left
      ·
        intro w' hSw
        try dsimp only at hSw
        go_simp
        try with_reducible rfl
      change wpAnyH _ _ _ _ _ _ _ (Act.put _ (some 44) _) _
      simp only [Act.put, List.setIfInBounds_toArray, List.set_cons_zero, List.set_cons_succ]
      refine wpAnyH_take (i := 8) (oi := _) (v := ?_) rfl (by kernel_rfl) (by kernel_rfl) (by kernel_rfl) (fun _ _ _ h => h) (Or.inl ⟨by rfl, ?_⟩) (by assumption) ?_
      rotate_left
      ·
        intro w' hSw
        try dsimp only at hSw
        go_simp
        try with_reducible rfl
      change wpAnyH _ _ _ _ _ _ _ (Act.put _ (some 45) _) _
      simp only [Act.put, List.setIfInBounds_toArray, List.set_cons_zero, List.set_cons_succ]
      refine wpAnyH_take (i := 9) (oi := _) (v := undef) rfl (by kernel_rfl) (by kernel_rfl) (by kernel_rfl) (fun _ _ _ h => h) (Or.inr ⟨by rfl, rfl⟩) (by assumption) ?_
      change wpAnyH _ _ _ _ _ _ _ (Act.put _ (some 46) _) _
      simp only [Act.put, List.setIfInBounds_toArray, List.set_cons_zero, List.set_cons_succ]
      refine wpAnyH_take (i := 11) (oi := _) (v := undef) rfl (by kernel_rfl) (by kernel_rfl) (by kernel_rfl) (fun _ _ _ h => h) (Or.inr ⟨by rfl, rfl⟩) (by assumption) ?_
      change wpAnyH _ _ _ _ _ _ _ (Act.put _ (some 48) _) _
      simp only [Act.put, List.setIfInBounds_toArray, List.set_cons_zero, List.set_cons_succ]
      refine wpAnyH_take (i := 14) (oi := _) (v := undef) rfl (by kernel_rfl) (by kernel_rfl) (by kernel_rfl) (fun _ _ _ h => h) (Or.inr ⟨by rfl, rfl⟩) (by assumption) ?_
      change wpAnyH _ _ _ _ _ _ _ (Act.put _ (some 51) _) _
      simp only [Act.put, List.setIfInBounds_toArray, List.set_cons_zero, List.set_cons_succ]
      refine wpAnyH_take (i := 10) (oi := _) (v := undef) rfl (by kernel_rfl) (by kernel_rfl) (by kernel_rfl) (fun _ _ _ h => h) (Or.inr ⟨by rfl, rfl⟩) (by assumption) ?_
      change wpAnyH _ _ _ _ _ _ _ (Act.put _ (some 47) _) _
      simp only [Act.put, List.setIfInBounds_toArray, List.set_cons_zero, List.set_cons_succ]
      refine wpAnyH_take (i := 15) (oi := _) (v := undef) rfl (by kernel_rfl) (by kernel_rfl) (by kernel_rfl) (fun _ _ _ h => h) (Or.inr ⟨by rfl, rfl⟩) (by assumption) ?_
      change wpAnyH _ _ _ _ _ _ _ (Act.put _ (some 52) _) _
      simp only [Act.put, List.setIfInBounds_toArray, List.set_cons_zero, List.set_cons_succ]
      refine wpAnyH_take (i := 12) (oi := _) (v := undef) rfl (by kernel_rfl) (by kernel_rfl) (by kernel_rfl) (fun _ _ _ h => h) (Or.inr ⟨by rfl, rfl⟩) (by assumption) ?_
      change wpAnyH _ _ _ _ _ _ _ (Act.put _ (some 49) _) _
      simp only [Act.put, List.setIfInBounds_toArray, List.set_cons_zero, List.set_cons_succ]
      refine wpAnyH_take (i := 13) (oi := _) (v := undef) rfl (by kernel_rfl) (by kernel_rfl) (by kernel_rfl) (fun _ _ _ h => h) (Or.inr ⟨by rfl, rfl⟩) (by assumption) ?_
      change wpAnyH _ _ _ _ _ _ _ (Act.put _ (some 50) _) _
      simp only [Act.put, List.setIfInBounds_toArray, List.set_cons_zero, List.set_cons_succ]
      refine wpAnyH_take (i := 16) (oi := _) (v := undef) rfl (by kernel_rfl) (by kernel_rfl) (by kernel_rfl) (fun _ _ _ h => h) (Or.inr ⟨by rfl, rfl⟩) (by assumption) ?_
      change wpAnyH _ _ _ _ _ _ _ (Act.put _ (some 53) _) _
      simp only [Act.put, List.setIfInBounds_toArray, List.set_cons_zero, List.set_cons_succ]
      refine wpAnyH_take (i := 17) (oi := _) (v := ?_) rfl (by kernel_rfl) (by kernel_rfl) (by kernel_rfl) (fun _ _ _ h => h) (Or.inl ⟨by rfl, ?_⟩) (by assumption) ?_
      rotate_left
      ·
        intro w' hSw
        try dsimp only at hSw
        go_simp
        try with_reducible rfl
      change wpAnyH _ _ _ _ _ _ _ (Act.put _ (some 54) _) _
      simp only [Act.put, List.setIfInBounds_toArray, List.set_cons_zero, List.set_cons_succ]
      refine wpAnyH_done (by kernel_rfl) ?_ _
      go_wp2
      go_ret
      exact ⟨rfl, hBm⟩
  · have HCK := hid (cgE_rt (a0 := a0) (a1 := a1) (b0 := b0) (b1 := b1) h0e)
    have hne : (rtE n 0 o q == 0) = false := by simpa using h0e
    have HH0 := hid h0e
    rw [hW1] at HRT HCS
    clear hh0 hh1 hB1 hz1 hW1 h0e
    unfold paV at HRT
    go_enter Tryz.func18, Tryz.ntmps18
    go_wp2_with fail
    refine HRT.out.mono ?_
    rintro e w2 ⟨hb2, hp⟩
    rw [if_neg HH0.out] at hp
    subst hp
    have HB := hid (HCS.out w2 hb2).2
    clear hb2 HCS HRT
    go_wp2
    go_ret
    exact ⟨by rw [HCK.out]; rfl, HB.out⟩
end Go.Proofs.YtogmdaopfnmobaaGreat

