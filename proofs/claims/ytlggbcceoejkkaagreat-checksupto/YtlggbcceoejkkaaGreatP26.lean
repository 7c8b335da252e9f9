/- What the document's own answer does (notaryref): the store: Set, Delete, New. -/
import Derived.Test.YtlggbcceoejkkaaGreatP25
import Derived.Test.YtlggbcceoejkkaaGreatP24
namespace Go.Proofs.YtlggbcceoejkkaaGreat
open Go.RowKit

/-- Two stores into the table. -/
theorem tab_fin {w : World} {base R : Nat} {s : Sto} {lv : Value} {K H : Nat} (h : RSt w base R s lv K H) (i : Nat) (o : Option Int) (hok : Sto.ok ⟨s.l, s.t.set i o⟩) :
    RSt ((w.setCell ⟨K, i, none⟩ (.int .i64 (o.getD 0))).setCell ⟨H, i, none⟩ (.bool o.isSome)) base R ⟨s.l, s.t.set i o⟩ lv K H ∧ Kept w ((w.setCell ⟨K, i, none⟩ (.int .i64 (o.getD 0))).setCell ⟨H, i, none⟩ (.bool o.isSome)) (rfp R lv K H) := by
  have hHo : H ∉ ob lv := fun c => by
    rcases h.hL.2 with ⟨rfl, _⟩ | ⟨g, cap, cur, rfl, _, hgg, _⟩
    · simp [ob, Value.ownBlock] at c
    · simp [ob, Value.ownBlock] at c
      subst c
      have := h.hH
      unfold Row at this
      rw [this] at hgg
      simp at hgg
  have hRK : R ≠ K := fun c => by have h1 := h.hR; have h2 := h.hK; unfold Row at h2; rw [c, h2] at h1; simp at h1
  have hRH : R ≠ H := fun c => by have h1 := h.hR; have h2 := h.hH; unfold Row at h2; rw [c, h2] at h1; simp at h1
  have hKH : K ≠ H := fun c => by have h1 := h.hK; have h2 := h.hH; unfold Row at h1 h2; rw [c, h2] at h1; simp at h1
  refine ⟨⟨?_, ?_, ?_, ?_, h.kl, h.bR, h.bK, h.bH, hok⟩, ?_⟩
  · exact (Below.heap_setCell _ _ _ _ hRH).trans ((Below.heap_setCell _ _ _ _ hRK).trans h.hR)
  · exact own_keep h.hL fun k hk => (Below.heap_setCell _ _ _ _ (fun c => hHo (by subst c; exact hk))).trans (Below.heap_setCell _ _ _ _ (fun c => h.kl (by subst c; exact hk)))
  · have := h.hK.set i (.int .i64 (o.getD 0))
    rw [← List.map_set, ← tv_set] at this
    exact (Below.heap_setCell _ _ _ _ hKH).trans this
  · have h2 : Row (w.setCell ⟨K, i, none⟩ (.int .i64 (o.getD 0))) H 4 ((tx s.t).map .bool) := (Below.heap_setCell _ _ _ _ (Ne.symm hKH)).trans h.hH
    have := h2.set i (.bool o.isSome)
    rw [← List.map_set, ← tx_set] at this
    exact this
  · exact ((Kept.refl w _).setCell (.inl (by simp [rfp])) _).setCell (.inl (by simp [rfp])) _

set_option maxHeartbeats 1000000 in
set_option maxRecDepth 100000 in
theorem refDelete_any (w : World) (base R : Nat) (s : Sto) (lv : Value) (K H : Nat) (k : Int) (h : RSt w base R s lv K H) :
    Calls Tryz.prog 42 #[.pointer (some ⟨R, 0, none⟩), .int .i64 k] w (chPost base R s (deS s k) (deE s k) lv K H w) := by
  have HS : Hid _ := h
  obtain ⟨⟨c0, c1, c2⟩, hfz⟩ := h.cells
  have hRl := h.lt.1
  have keep : deE s k = 4 → Hid (chPost base R s (deS s k) (deE s k) lv K H w (.returned (.int .i64 4)) w) := fun hn => by
    refine hid ⟨by rw [hn], Kept.refl _ _, _, ?_, fun k hk => .inl hk⟩
    rw [deS, if_neg (by rw [hn]; omega)]
    exact HS.out
  by_cases h0 : k < 0
  · have K1 := keep (by simp [deE]; omega)
    clear keep h
    go_enter Tryz.func42, Tryz.ntmps42
    go_wp2
    go_ret
    exact K1.out
  · by_cases h1 : 32 ≤ k
    · have K1 := keep (by simp [deE]; omega)
      clear keep h
      go_enter Tryz.func42, Tryz.ntmps42
      go_wp2
      go_ret
      exact K1.out
    · obtain ⟨i, rfl⟩ : ∃ i : Nat, k = (i : Int) := Int.eq_ofNat_of_zero_le (by omega)
      have hi : i < 32 := by omega
      have hit : i < s.t.length := by rw [h.ok.tlen]; exact hi
      have d1 := h.hK.cell i (by simp [tv]; exact hit)
      rw [tv_at s.t i hit] at d1
      have d2 := h.hH.cell i (by simp [tx]; exact hit)
      rw [tx_at s.t i hit] at d2
      have f1 := h.hK.frozen i
      have f2 := h.hH.frozen i
      have hKH : K ≠ H := fun c => by have h1 := h.hK; have h2 := h.hH; unfold Row at h1 h2; rw [c, h2] at h1; simp at h1
      cases hb : (tat s.t i).isSome with
      | false =>
        rw [hb] at d2
        have K1 := keep (by simp [deE, hb])
        clear keep h
        go_enter Tryz.func42, Tryz.ntmps42
        go_wp2
        go_ret
        exact K1.out
      | true =>
        rw [hb] at d2
        have hE : deE s i = 0 := by simp [deE, hb]; omega
        have fin : Hid (chPost base R s (deS s i) (deE s i) lv K H w (.returned (.int .i64 0)) ((w.setCell ⟨K, i, none⟩ (.int .i64 0)).setCell ⟨H, i, none⟩ (.bool false))) := by
          have hok : Sto.ok ⟨s.l, s.t.set i none⟩ := by have := deS_ok h.ok i; rw [deS, if_pos hE] at this; simpa using this
          have := tab_fin h i none hok
          refine hid ⟨by rw [hE], this.2, lv, ?_, fun k hk => .inl hk⟩
          rw [deS, if_pos hE]
          simpa using this.1
        have hRK : R ≠ K := fun c => by have h1 := h.hR; have h2 := h.hK; unfold Row at h2; rw [c, h2] at h1; simp at h1
        have q2 : (w.setCell ⟨K, i, none⟩ (.int .i64 0)).cell? ⟨R, 2, none⟩ = some (.slice (some ⟨H, 0, none⟩) 32 32) := (World.cell?_of_block (a := ⟨R, 2, none⟩) (Below.heap_setCell _ _ _ _ hRK)).trans c2
        have q3 : (w.setCell ⟨K, i, none⟩ (.int .i64 0)).cell? ⟨H, i, none⟩ = some (.bool true) := (World.cell?_of_block (a := ⟨H, i, none⟩) (Below.heap_setCell _ _ _ _ (Ne.symm hKH))).trans d2
        have q4 : (w.setCell ⟨K, i, none⟩ (.int .i64 0)).frozen? ⟨H, i, none⟩ = false := (World.frozen?_of_block (a := ⟨H, i, none⟩) (Below.heap_setCell _ _ _ _ (Ne.symm hKH))).trans f2
        clear keep h hE
        go_enter Tryz.func42, Tryz.ntmps42
        go_wp2
        go_ret
        exact fin.out

set_option maxHeartbeats 2000000 in
set_option maxRecDepth 100000 in
theorem refSet_any (w : World) (base R : Nat) (s : Sto) (lv : Value) (K H : Nat) (k v : Int) (h : RSt w base R s lv K H) :
    Calls Tryz.prog 40 #[.pointer (some ⟨R, 0, none⟩), .int .i64 k, .int .i64 v] w (chPost base R s (seS s k v) (seE s k v) lv K H w) := by
  have HS : Hid _ := h
  obtain ⟨⟨c0, c1, c2⟩, hfz⟩ := h.cells
  have hRl := h.lt.1
  have keep : ∀ n w', seE s k v = n → n ≠ 0 → Below w.heap.size w w' → Hid (chPost base R s (seS s k v) (seE s k v) lv K H w (.returned (.int .i64 n)) w') := fun n w' hn h0 hb => by
    refine hid ⟨by rw [hn], Kept.of_below hb _, _, ?_, fun k hk => .inl hk⟩
    rw [seS, if_neg (by rw [hn]; exact h0)]
    exact HS.out.below hb
  by_cases h0 : k < 0
  · have K1 := keep 4 w (by simp [seE]; omega) (by omega) (Below.refl _ _)
    clear keep h
    go_enter Tryz.func40, Tryz.ntmps40
    go_wp2
    go_ret
    exact K1.out
  · by_cases h1 : 32 ≤ k
    · have K1 := keep 4 w (by simp [seE]; omega) (by omega) (Below.refl _ _)
      clear keep h
      go_enter Tryz.func40, Tryz.ntmps40
      go_wp2
      go_ret
      exact K1.out
    · obtain ⟨i, rfl⟩ : ∃ i : Nat, k = (i : Int) := Int.eq_ofNat_of_zero_le (by omega)
      have hi : i < 32 := by omega
      have hin : (0 : Int) ≤ i ∧ (i : Int) < 32 := by omega
      cases hv : isVal v with
      | false =>
        have K1 := keep 1 w (by rw [seE, if_pos hin]; simp [hv]) (by omega) (Below.refl _ _)
        clear keep h
        go_enter Tryz.func40, Tryz.ntmps40
        go_wp2_with (go_at_call 75; refine (refValue_any _ _ false hv).mono ?_; rintro e w1 ⟨rfl, hw1⟩; rw [hw1]; clear hw1 w1)
        go_ret
        exact K1.out
      | true =>
        have hvb := (isVal_iff v).1 hv
        have hit : i < s.t.length := by rw [h.ok.tlen]; exact hi
        have d1 := h.hK.cell i (by simp [tv]; exact hit)
        rw [tv_at s.t i hit] at d1
        have d2 := h.hH.cell i (by simp [tx]; exact hit)
        rw [tx_at s.t i hit] at d2
        have f1 := h.hK.frozen i
        have f2 := h.hH.frozen i
        have hcells : Cells1 w w.heap.size (.slice (some ⟨K, 0, none⟩) 32 32) ((tv s.t).map (.int .i64)) := by
          have := h.hK.cells1 32
          simpa [tv, h.ok.tlen] using this
        have hvals := tv_val h.ok
        have hlen : (tv s.t).length ≤ 64 := by simp [tv, h.ok.tlen]
        have hsb := sum_bd _ hvals
        have hx : 0 ≤ (tat s.t i).getD 0 ∧ (tat s.t i).getD 0 ≤ 1000000 := by
          have := hvals ((tat s.t i).getD 0) (by
            have : (tat s.t i) ∈ s.t := by simp [tat, hit]
            exact List.mem_map_of_mem (f := fun o : Option Int => o.getD 0) this)
          exact this
        have hl32 : (tv s.t).length = 32 := by simp [tv, h.ok.tlen]
        have hsum : (tv s.t).sum = tsum s.t := rfl
        have HSum : Hid _ := hsum
        have hsb' : 0 ≤ tsum s.t ∧ tsum s.t ≤ 32000000 := by rw [← hsum]; omega
        have HC : Hid _ := hcells
        have HV : Hid _ := hvals
        have HLn : Hid _ := hlen
        have hu : seE s i v = if 5000000 < tsum s.t - (tat s.t i).getD 0 + v then 3 else 0 := by rw [seE, if_pos hin]; simp [hv]
        have hb0 : tat s.t i = (tat s.t i) := rfl
        generalize hY : tsum s.t = y at hu hsb' HSum
        generalize hX : (tat s.t i).getD 0 = x at d1 hx hu
        clear hsb hsum hcells hvals hlen hl32 hb0 hX hY
        have wr1 : IntKind.i64.wrap (y - x) = y - x := by rw [IntKind.wrap_i64]; omega
        have wr2 : IntKind.i64.wrap (y - x + v) = y - x + v := by rw [IntKind.wrap_i64]; omega
        by_cases h3 : 5000000 < y - x + v
        · have K1 := keep 3 w.drew (by rw [hu, if_pos h3]) (by omega) (Below.refl _ _).drew
          clear keep h hu
          go_enter Tryz.func40, Tryz.ntmps40
          go_wp2_with (go_at_call 75; refine (refValue_any _ _ true hv).mono ?_; rintro e w1 ⟨rfl, hw1⟩; rw [hw1]; clear hw1 w1)
          go_region_held3 (fun w' => w'.cell? ⟨R, 1, none⟩ = some (.slice (some ⟨K, 0, none⟩) 32 32) ∧ w'.cell? ⟨K, i, none⟩ = some (.int .i64 x)) (go_keep) (first | (go_at_call 76; refine (refSum_any _ (tv s.t) _ ?_ HV.out HLn.out).mono ?_; (first | exact HC.out | exact HC.out.below (Below.drew (Below.refl _ _))); rintro e w1 ⟨rfl, hw1⟩; rw [hw1, HSum.out]; clear hw1 w1))
          go_wp2
          go_ret
          exact K1.out
        · have hE : seE s i v = 0 := by rw [hu, if_neg h3]
          have fin : Hid (chPost base R s (seS s i v) (seE s i v) lv K H w (.returned (.int .i64 0)) ((w.drew.setCell ⟨K, i, none⟩ (.int .i64 v)).setCell ⟨H, i, none⟩ (.bool true))) := by
            have hok : Sto.ok ⟨s.l, s.t.set i (some v)⟩ := by have := seS_ok h.ok i v; rw [seS, if_pos hE] at this; simpa using this
            have hd := h.below (Below.refl w.heap.size w).drew
            have := tab_fin hd i (some v) hok
            refine hid ⟨by rw [hE], (Kept.of_below (Below.refl w.heap.size w).drew _).trans this.2 (fun x hx => .inl hx), lv, ?_, fun k hk => .inl hk⟩
            rw [seS, if_pos hE]
            simpa using this.1
          have hKH : K ≠ H := fun c => by have h1 := h.hK; have h2 := h.hH; unfold Row at h1 h2; rw [c, h2] at h1; simp at h1
          have hRK : R ≠ K := fun c => by have h1 := h.hR; have h2 := h.hK; unfold Row at h2; rw [c, h2] at h1; simp at h1
          have q2 : (w.drew.setCell ⟨K, i, none⟩ (.int .i64 v)).cell? ⟨R, 2, none⟩ = some (.slice (some ⟨H, 0, none⟩) 32 32) := (World.cell?_of_block (a := ⟨R, 2, none⟩) (Below.heap_setCell _ _ _ _ hRK)).trans c2
          have q3 : (w.drew.setCell ⟨K, i, none⟩ (.int .i64 v)).cell? ⟨H, i, none⟩ = some (.bool (tat s.t i).isSome) := (World.cell?_of_block (a := ⟨H, i, none⟩) (Below.heap_setCell _ _ _ _ (Ne.symm hKH))).trans d2
          have q4 : (w.drew.setCell ⟨K, i, none⟩ (.int .i64 v)).frozen? ⟨H, i, none⟩ = false := (World.frozen?_of_block (a := ⟨H, i, none⟩) (Below.heap_setCell _ _ _ _ (Ne.symm hKH))).trans f2
          clear keep h hu hE
          go_enter Tryz.func40, Tryz.ntmps40
          go_wp2_with (go_at_call 75; refine (refValue_any _ _ true hv).mono ?_; rintro e w1 ⟨rfl, hw1⟩; rw [hw1]; clear hw1 w1)
          go_region_held3 (fun w' => w'.cell? ⟨R, 1, none⟩ = some (.slice (some ⟨K, 0, none⟩) 32 32) ∧ w'.cell? ⟨K, i, none⟩ = some (.int .i64 x)) (go_keep) (first | (go_at_call 76; refine (refSum_any _ (tv s.t) _ ?_ HV.out HLn.out).mono ?_; (first | exact HC.out | exact HC.out.below (Below.drew (Below.refl _ _))); rintro e w1 ⟨rfl, hw1⟩; rw [hw1, HSum.out]; clear hw1 w1))
          go_wp2
          go_ret
          exact fin.out

end Go.Proofs.YtlggbcceoejkkaaGreat

/- What the document's own answer does (notaryref): the store: New, Size, Tree. -/
namespace Go.Proofs.YtlggbcceoejkkaaGreat
open Go.RowKit

def newPost (w : World) (e : Ending) (w' : World) : Prop := ∃ R K H, e = .returned (.pointer (some ⟨R, 0, none⟩)) ∧ RSt w' w.heap.size R .empty (.slice none 0 0) K H ∧ Below w.heap.size w w'

theorem new_fin {w' : World} {base R K H : Nat} (hR : w'.heap[R]? = some (.cells #[.slice none 0 0, .slice (some ⟨K, 0, none⟩) 32 32, .slice (some ⟨H, 0, none⟩) 32 32] 108 (0, 0)))
    (hK : Row w' K 3 (List.replicate 32 (.int .i64 0))) (hH : Row w' H 4 (List.replicate 32 (.bool false))) (b1 : base ≤ R) (b2 : base ≤ K) (b3 : base ≤ H) : RSt w' base R .empty (.slice none 0 0) K H :=
  ⟨hR, World.ownsRow_nil _ _ _ _, by simpa [Sto.empty, tv] using hK, by simpa [Sto.empty, tx] using hH, by simp [ob, Value.ownBlock], b1, b2, b3, Sto.empty_ok⟩

set_option maxHeartbeats 1000000 in
set_option maxRecDepth 100000 in
theorem refNew_any (w : World) : Calls Tryz.prog 32 #[] w (newPost w) := by
  obtain ⟨i0, hi, hz0, hz1, hz2⟩ := info_parts info_bool
  obtain ⟨j0, hj, hy0, hy1, hy2⟩ := info_parts info_int
  have m1 : ∀ u : World, (Instr.makeSlice 106 (.int .i64 32) (.int .i64 32)).run Tryz.prog u = .ok (.slice (some ⟨u.heap.size, 0, none⟩) 32 32) (u.alloc (.cells (List.replicate 32 (.bool false)).toArray 4)) := fun u => by
    have h := run_make (P := Tryz.prog) u 106 4 i0 (.bool false) Tryz.underlying106 hi hz0 .i64 .i64 32 32 (by omega) (Int.le_refl _) (by rw [hz2]; omega) (by omega)
    simpa [hz1, Value.cells, made_one] using h
  have m2 : ∀ u : World, (Instr.makeSlice 40 (.int .i64 32) (.int .i64 32)).run Tryz.prog u = .ok (.slice (some ⟨u.heap.size, 0, none⟩) 32 32) (u.alloc (.cells (List.replicate 32 (.int .i64 0)).toArray 3)) := fun u => by
    have h := run_make (P := Tryz.prog) u 40 3 j0 (.int .i64 0) Tryz.underlying40 hj hy0 .i64 .i64 32 32 (by omega) (Int.le_refl _) (by rw [hy2]; omega) (by omega)
    simpa [hy1, Value.cells, made_one] using h
  generalize hLb : (List.replicate 32 (Value.bool false)).toArray = Lb at m1
  generalize hLi : (List.replicate 32 (Value.int .i64 0)).toArray = Li at m2
  have HLb : Hid _ := hLb
  have HLi : Hid _ := hLi
  clear hLb hLi
  go_enter Tryz.func32, Tryz.ntmps32
  go_wp2
  go_region
  · go_wp2
    go_ret
    refine ⟨w.heap.size + 1 + 1, w.heap.size, w.heap.size + 1, rfl, new_fin (heap_one _ _ _ (by simp)) (by rw [← HLi.out]; exact heap_three w _ _ _ _ rfl) (by rw [← HLb.out]; exact heap_two _ _ _ _ (by simp)) (by omega) (by omega) (by omega), ?_⟩
    refine Below.drew ?_
    refine Below.alloc (Below.alloc ((Below.refl _ _).alloc (Nat.le_refl _) _) ?_ _) ?_ _ <;> simp <;> omega
  · go_wp2
    go_ret
    refine ⟨w.heap.size + 1 + 1, w.heap.size + 1, w.heap.size, rfl, new_fin (heap_one _ _ _ (by simp)) (by rw [← HLi.out]; exact heap_two _ _ _ _ (by simp)) (by rw [← HLb.out]; exact heap_three w _ _ _ _ rfl) (by omega) (by omega) (by omega), ?_⟩
    refine Below.drew ?_
    refine Below.alloc (Below.alloc ((Below.refl _ _).alloc (Nat.le_refl _) _) ?_ _) ?_ _ <;> simp <;> omega

set_option maxHeartbeats 1000000 in
theorem refSize_any (w : World) (base R : Nat) (s : Sto) (lv : Value) (K H : Nat) (t : Int) (h : RSt w base R s lv K H) :
    Calls Tryz.prog 85 #[.pointer (some ⟨R, 0, none⟩), .int .i64 t] w fun e w' => e = .returned (.int .i64 (if t = 0 then (s.l.length : Int) else 32)) ∧ w' = w := by
  obtain ⟨⟨c0, c1, c2⟩, hfz⟩ := h.cells
  obtain ⟨ao, cap, rfl⟩ := own_shape h.hL
  by_cases h0 : t = 0
  · subst h0
    rw [if_pos rfl]
    clear h
    go_enter Tryz.func85, Tryz.ntmps85
    go_wp2
    go_ret
    exact ⟨rfl, rfl⟩
  · rw [if_neg h0]
    have h0' : (t == 0) = false := by simp [h0]
    clear h
    go_enter Tryz.func85, Tryz.ntmps85
    go_wp2
    go_ret
    exact ⟨rfl, rfl⟩

end Go.Proofs.YtlggbcceoejkkaaGreat

/- What the document's own answer does (notaryref): the store: Tree. -/
namespace Go.Proofs.YtlggbcceoejkkaaGreat
open Go.RowKit

theorem ret_tree2 {w : World} {g : Nat} {c0 c1 c2 v : Value} {fn : Func} {R : Ending → World → Prop} {tmps : Array Value} {k j : Nat} (hf : fn.results = #[.cell k 138, .tmp j]) (h : w.heap[g]? = some (.cells #[c0, c1, c2] 138 (0, 0)))
    (h2 : tmps[k]? = some (.pointer (some ⟨g, 0, none⟩))) (h3 : tmps[j]? = some v) (hR : R (.returned (.tuple #[.agg #[c0, c1, c2], v])) w) : bodyPost Tryz.prog fn R .ret ⟨tmps, []⟩ w := by
  have k0 : w.cell? ⟨g, 0, none⟩ = some c0 := by rw [cell_of_row w _ _ _ _ _ h]; rfl
  have k1 : w.cell? ⟨g, 1, none⟩ = some c1 := by rw [cell_of_row w _ _ _ _ _ h]; rfl
  have k2 : w.cell? ⟨g, 2, none⟩ = some c2 := by rw [cell_of_row w _ _ _ _ _ h]; rfl
  refine bodyPost_ret (v := .tuple #[.agg #[c0, c1, c2], v]) ?_ rfl hR
  simp [results, hf, go_sem, h2, h3, k0, k1, k2]

def treePost (tb : Bool) (vs : List Int) (hs : List Bool) (w : World) (e : Ending) (w' : World) : Prop :=
  ∃ a1 c1 a2 n2 c2, e = .returned (.tuple #[.agg #[.bool tb, .slice a1 vs.length c1, .slice a2 n2 c2], .bool true]) ∧ TreeIn w' w'.heap.size (.slice a1 vs.length c1) (.slice a2 n2 c2) vs hs ∧ Below w.heap.size w w'

theorem Cells1.take {w : World} {B : Nat} {ao : Option Addr} {n cap : Nat} {l : List Value} (h : Cells1 w B (.slice ao n cap) l) (k : Nat) (hk : k ≤ l.length) : Cells1 w B (.slice ao k cap) (l.take k) := by
  obtain ⟨ao', cap', hv, hc⟩ := h.ex
  simp only [Value.slice.injEq] at hv
  obtain ⟨rfl, _, rfl⟩ := hv
  refine ⟨ao, cap, by simp; omega, fun i hi => ?_⟩
  have hi' : i < l.length := by simp at hi; omega
  obtain ⟨b, off, ha, hB, hcs⟩ := hc i hi'
  exact ⟨b, off, ha, hB, by rw [hcs, List.getElem_take]⟩

/-- A tree stays where its cells stay. -/
theorem Cells1.far {w : World} {B : Nat} {v : Value} {l : List Value} {g o : Nat} {u : Value} (h : Cells1 w B v l) (hg : ∀ ao n c, v = .slice ao n c → ∀ b off, ao = some ⟨b, off, none⟩ → b ≠ g) : Cells1 (w.setCell ⟨g, o, none⟩ u) B v l := by
  obtain ⟨ao, cap, hv, hc⟩ := h.ex
  refine ⟨ao, cap, hv, fun i hi => ?_⟩
  obtain ⟨b, off, ha, hB, hcs⟩ := hc i hi
  exact ⟨b, off, ha, hB, (World.cell?_of_block (a := ⟨b, off + i, none⟩) (Below.heap_setCell _ _ _ _ (hg _ _ _ hv b off ha))).trans hcs⟩

set_option maxHeartbeats 1000000 in
set_option maxRecDepth 100000 in
theorem refTree_log (w : World) (base R : Nat) (s : Sto) (lv : Value) (K H : Nat) (n : Nat) (h : RSt w base R s lv K H) (hn : n ≤ s.l.length) :
    Calls Tryz.prog 79 #[.pointer (some ⟨R, 0, none⟩), .int .i64 0, .int .i64 n] w (treePost false (s.l.take n) (List.replicate n true) w) := by
  have HS : Hid _ := h
  obtain ⟨⟨c0, c1, c2⟩, hfz⟩ := h.cells
  have hRl := h.lt.1
  have hlen := h.ok.len
  have hlog := h.log1
  have hown := h.hL
  obtain ⟨ao, cap, rfl⟩ := own_shape h.hL
  have hl1 := hlog.take n (by simpa using hn)
  rw [← List.map_take] at hl1
  have hcap : n ≤ cap := by
    rcases hown.2 with ⟨e, h0⟩ | ⟨g, cap', cur, e, _, _, hnc, _⟩
    · omega
    · simp at e; omega
  have hcm : cap ≤ maxLen := by
    rcases hown.2 with ⟨e, h0⟩ | ⟨g, cap', cur, e, _, _, hnc, hcm, _⟩
    · simp at e; unfold maxLen; omega
    · simp at e; omega
  have HC : ∀ w', Hid (Below w.heap.size w w' → Calls Tryz.prog 83 #[.slice ao n cap] w' (logPost (.slice ao n cap) (s.l.take n) w')) := fun w' => hid fun hb =>
    refLogOf_any _ _ w' ((hl1.below hb).mono hb.size) (fun v hv => HS.out.ok.val v (List.mem_of_mem_take hv)) (by simp; omega)
  have HL1 : Hid _ := hl1
  clear h hown hlog hl1
  go_enter Tryz.func79, Tryz.ntmps79
  go_wp2_with fail
  refine ((HC _).out ((Below.refl _ _).alloc (Nat.le_refl _) _)).mono ?_
  rintro e w1 ⟨⟨g, rfl, hgw, hT⟩, hb1⟩
  have hgn : g ≠ w.heap.size := by simp at hgw; omega
  have hg : w1.heap[w.heap.size]? = some (.cells #[.bool false, .slice none 0 0, .slice none 0 0] 138 (0, 0)) := (hb1.block _ (by simp)).trans (heap_alloc_new w _)
  have B1 : Hid (Below w.heap.size w w1) := hid (((Below.refl _ _).alloc (Nat.le_refl _) _).trans (hb1.mono (by simp)))
  have HG : Hid _ := hg
  have k0 : w1.cell? ⟨w.heap.size, 0, none⟩ = some (.bool false) := by rw [cell_of_row w1 _ _ _ _ _ hg]; rfl
  have k1 : w1.cell? ⟨w.heap.size, 1, none⟩ = some (.slice none 0 0) := by rw [cell_of_row w1 _ _ _ _ _ hg]; rfl
  have k2 : w1.cell? ⟨w.heap.size, 2, none⟩ = some (.slice none 0 0) := by rw [cell_of_row w1 _ _ _ _ _ hg]; rfl
  have ff : ∀ o, w1.frozen? ⟨w.heap.size, o, none⟩ = false := fun o => by simp [World.frozen?, hg]
  have hlt : w.heap.size < w1.heap.size := (Array.getElem?_eq_some_iff.1 hg).1
  have hlt' : (s.l.take n).length = n := by simp; omega
  rw [hlt'] at hT ⊢
  have HT : Hid _ := hT
  clear hb1 hT hg HC hgw hlt'
  go_wp2
  refine ret_tree2 Tryz.results79 (set3 HG.out _ _ _) rfl rfl ?_
  have hlt' : (s.l.take n).length = n := by simp; omega
  refine ⟨ao, cap, some ⟨g, 0, none⟩, n, n, by rw [hlt']; rfl, ?_, ?_⟩
  · rw [hlt']
    have hB : Below w.heap.size w (((w1.setCell ⟨w.heap.size, 0, none⟩ (.bool false)).setCell ⟨w.heap.size, 1, none⟩ (.slice ao n cap)).setCell ⟨w.heap.size, 2, none⟩ (.slice (some ⟨g, 0, none⟩) n n)) := by
      repeat (refine Below.setCell ?_ (by simp) _)
      exact B1.out
    have hT := HT.out
    have hz : w1.heap.size ≤ (((w1.setCell ⟨w.heap.size, 0, none⟩ (.bool false)).setCell ⟨w.heap.size, 1, none⟩ (.slice ao n cap)).setCell ⟨w.heap.size, 2, none⟩ (.slice (some ⟨g, 0, none⟩) n n)).heap.size := by simp [World.setCell]
    refine ⟨(HL1.out.below hB).mono hB.size, Cells1.mono (Cells1.far (Cells1.far (Cells1.far hT.hv2 ?_) ?_) ?_) hz, hT.len, hT.small, hT.val⟩ <;>
    · intro ao' n' c' e b off e'
      simp only [Value.slice.injEq] at e
      rw [← e.1] at e'
      simp at e'
      omega
  · repeat (refine Below.setCell ?_ (by simp) _)
    exact B1.out

set_option maxHeartbeats 1000000 in
set_option maxRecDepth 100000 in
theorem refTree_tab (w : World) (base R : Nat) (s : Sto) (lv : Value) (K H : Nat) (h : RSt w base R s lv K H) :
    Calls Tryz.prog 79 #[.pointer (some ⟨R, 0, none⟩), .int .i64 1, .int .i64 32] w (treePost true (tv s.t) (tx s.t) w) := by
  have HS : Hid _ := h
  obtain ⟨⟨c0, c1, c2⟩, hfz⟩ := h.cells
  have hRl := h.lt.1
  have ne1 := World.new_ne w ⟨R, 1, none⟩ (by rw [c1])
  clear h
  go_enter Tryz.func79, Tryz.ntmps79
  go_wp2
  go_region_held3 (fun w' => w'.cell? ⟨R, 1, none⟩ = some (.slice (some ⟨K, 0, none⟩) 32 32) ∧ w'.cell? ⟨R, 2, none⟩ = some (.slice (some ⟨H, 0, none⟩) 32 32)) (go_keep) (fail)
  go_wp2
  refine ret_tree2 Tryz.results79 (heap_alloc_new w _) rfl rfl ?_
  have hB : Below w.heap.size w (w.alloc (.cells #[.bool true, .slice (some ⟨K, 0, none⟩) 32 32, .slice (some ⟨H, 0, none⟩) 32 32] 138)).drew := ((Below.refl _ _).alloc (Nat.le_refl _) _).drew
  have hr := HS.out.below hB
  have l1 : (tv s.t).length = 32 := by simp [tv, HS.out.ok.tlen]
  have l2 : (tx s.t).length = 32 := by simp [tx, HS.out.ok.tlen]
  have e1 := hr.hK.cells1 32
  have e2 := hr.hH.cells1 32
  rw [List.length_map, l1] at e1
  rw [List.length_map, l2] at e2
  exact ⟨some ⟨K, 0, none⟩, 32, some ⟨H, 0, none⟩, 32, 32, by rw [l1]; rfl, by rw [l1]; exact ⟨e1, e2, by rw [l1, l2], by omega, tv_val HS.out.ok⟩, hB⟩

def noTree : Value := .tuple #[.agg #[.bool false, .slice none 0 0, .slice none 0 0], .bool false]

set_option maxHeartbeats 1000000 in
set_option maxRecDepth 100000 in
theorem refTree_no (w : World) (base R : Nat) (s : Sto) (lv : Value) (K H : Nat) (t n : Int) (h : RSt w base R s lv K H) (h0 : t = 0 → n < 0 ∨ s.l.length < n) (h1 : t = 1 → n ≠ 32) :
    Calls Tryz.prog 79 #[.pointer (some ⟨R, 0, none⟩), .int .i64 t, .int .i64 n] w fun e w' => e = .returned noTree ∧ Below w.heap.size w w' := by
  obtain ⟨⟨c0, c1, c2⟩, hfz⟩ := h.cells
  have hRl := h.lt.1
  obtain ⟨ao, cap, rfl⟩ := own_shape h.hL
  clear h
  by_cases e0 : t = 0
  · subst e0
    rcases h0 rfl with hn | hn
    · clear h0 h1
      go_enter Tryz.func79, Tryz.ntmps79
      go_wp2
      refine ret_tree2 Tryz.results79 (heap_alloc_new w _) rfl rfl ⟨rfl, ?_⟩
      exact (Below.refl _ _).alloc (Nat.le_refl _) _
    · have hn' : ¬ n ≤ (s.l.length : Int) := by omega
      have hn0 : 0 ≤ n := by omega
      clear h0 h1
      go_enter Tryz.func79, Tryz.ntmps79
      go_wp2
      refine ret_tree2 Tryz.results79 (heap_alloc_new w _) rfl rfl ⟨rfl, ?_⟩
      exact (Below.refl _ _).alloc (Nat.le_refl _) _
  · have b0 : (t == 0) = false := by simp [e0]
    by_cases e1 : t = 1
    · subst e1
      have b1 : (n == 32) = false := by simp [h1 rfl]
      clear h0 h1
      go_enter Tryz.func79, Tryz.ntmps79
      go_wp2
      refine ret_tree2 Tryz.results79 (heap_alloc_new w _) rfl rfl ⟨rfl, ?_⟩
      exact (Below.refl _ _).alloc (Nat.le_refl _) _
    · have b1 : (t == 1) = false := by simp [e1]
      clear h0 h1
      go_enter Tryz.func79, Tryz.ntmps79
      go_wp2
      refine ret_tree2 Tryz.results79 (heap_alloc_new w _) rfl rfl ⟨rfl, ?_⟩
      exact (Below.refl _ _).alloc (Nat.le_refl _) _

end Go.Proofs.YtlggbcceoejkkaaGreat

/- What the document's own answer does (notaryref): the store: Head. -/
namespace Go.Proofs.YtlggbcceoejkkaaGreat
open Go.RowKit


set_option maxHeartbeats 2000000 in
set_option maxRecDepth 100000 in
theorem refHead_ok (w : World) (R : Nat) (t : Int) (n : Nat) (tb : Bool) (vs : List Int) (hs : List Bool) (hTr : ∀ w', Below w.heap.size w w' → Calls Tryz.prog 79 #[.pointer (some ⟨R, 0, none⟩), .int .i64 t, .int .i64 n] w' (treePost tb vs hs w')) (hn : vs.length = n) (hn64 : n ≤ 64) (hval : ∀ v ∈ vs, 0 ≤ v ∧ v ≤ 1000000) :
    Calls Tryz.prog 44 #[.pointer (some ⟨R, 0, none⟩), .int .i64 t, .int .i64 n] w fun e w' => e = .returned (headV n (dg (hdText n (tr (lf tb vs hs) 0 n)))) ∧ Below w.heap.size w w' := by
  subst hn
  have HT : Hid _ := hTr
  clear hTr
  have HO : Hid _ := tr_ok (tb := tb) (hs := hs) hval 0 vs.length (by omega)
  have HW : ∀ vv hv w', Hid (TreeIn w' w'.heap.size vv hv vs hs → Calls Tryz.prog 80 _ w' _) := fun vv hv w' => hid fun h => refWhole_any tb vv hv vs hs w' h
  have HRt : ∀ w', Hid (Calls Tryz.prog 69 #[.int .i64 (vs.length : Int), ndV (tr (lf tb vs hs) 0 vs.length)] w' _) := fun w' => hid (refRoot_any vs.length _ w' (by omega) HO.out)
  generalize tr (lf tb vs hs) 0 vs.length = d at HO HW HRt
  go_enter Tryz.func44, Tryz.ntmps44
  go_wp2_with fail
  refine (HT.out _ ((Below.refl _ _).alloc (Nat.le_refl _) _)).mono ?_
  rintro e w1 ⟨a1, p1, a2, n2, p2, rfl, hT1, hb1⟩
  have hg1 : w1.heap[w.heap.size]? = some (.cells #[.int .i64 0, .int .u8 0, .int .u8 0] 36 (0, 0)) := (hb1.block _ (by simp)).trans (heap_alloc_new w _)
  have HG1 : Hid _ := hg1
  have B1 : Hid (Below w.heap.size w w1) := hid (((Below.refl _ _).alloc (Nat.le_refl _) _).trans (hb1.mono (by simp)))
  have HT1 : Hid _ := hT1
  have l1 : w.heap.size < w1.heap.size := (Array.getElem?_eq_some_iff.1 hg1).1
  clear hb1 hg1 hT1 HT
  go_wp2_with fail
  refine ((HW _ _ _).out ((HT1.out.below ((Below.refl _ _).alloc (Nat.le_refl _) _)).mono (by simp))).mono ?_
  rintro e w2 ⟨rfl, hb2⟩
  rw [ndV]
  have B2 : Hid (Below w.heap.size w w2) := hid ((B1.out.alloc (by omega) _).trans (hb2.mono (by simp; omega)))
  have HG2 : Hid (w2.heap[w.heap.size]? = some (.cells #[.int .i64 0, .int .u8 0, .int .u8 0] 36 (0, 0))) := hid ((hb2.block _ (by simp; omega)).trans ((Below.heap_alloc _ _ _ l1).trans HG1.out))
  have l2 : w.heap.size < w2.heap.size := by have := hb2.size; simp at this; omega
  clear hb2 HG1 B1 HT1 HW
  go_wp2_with fail
  refine (show Calls Tryz.prog 69 #[.int .i64 (vs.length : Int), ndV d] _ _ from (HRt _).out).mono ?_
  obtain ⟨q, hq⟩ : ∃ q, q = dg (hdText vs.length d) := ⟨_, rfl⟩
  rw [← hq]
  have HQ : Hid _ := hq
  clear hq
  rintro e w3 ⟨rfl, hb3⟩
  have B3 : Hid (Below w.heap.size w w3) := hid ((B2.out.alloc (by omega) _).trans (hb3.mono (by simp; omega)))
  have hg3 : w3.heap[w.heap.size]? = some (.cells #[.int .i64 0, .int .u8 0, .int .u8 0] 36 (0, 0)) := (hb3.block _ (by simp; omega)).trans ((Below.heap_alloc _ _ _ l2).trans HG2.out)
  have HG3 : Hid _ := hg3
  have l3 : w.heap.size < w3.heap.size := (Array.getElem?_eq_some_iff.1 hg3).1
  have k0 : w3.cell? ⟨w.heap.size, 0, none⟩ = some (.int .i64 0) := by rw [cell_of_row w3 _ _ _ _ _ hg3]; rfl
  have k1 : w3.cell? ⟨w.heap.size, 1, none⟩ = some (.int .u8 0) := by rw [cell_of_row w3 _ _ _ _ _ hg3]; rfl
  have k2 : w3.cell? ⟨w.heap.size, 2, none⟩ = some (.int .u8 0) := by rw [cell_of_row w3 _ _ _ _ _ hg3]; rfl
  have ff : ∀ o, w3.frozen? ⟨w.heap.size, o, none⟩ = false := fun o => by simp [World.frozen?, hg3]
  clear hb3 hg3 HG2 B2 HRt
  go_wp2
  refine ret_head2 Tryz.results44 ((Below.heap_alloc _ _ _ (by simp; omega)).trans (set3 HG3.out _ _ _)) rfl rfl ⟨by rw [← HQ.out]; rfl, ?_⟩
  refine Below.alloc ?_ (by simp; omega) _
  repeat (refine Below.setCell ?_ (by simp) _)
  exact B3.out

set_option maxHeartbeats 1000000 in
set_option maxRecDepth 100000 in
theorem refHead_no (w : World) (R : Nat) (t n : Int) (hTr : ∀ w', Below w.heap.size w w' → Calls Tryz.prog 79 #[.pointer (some ⟨R, 0, none⟩), .int .i64 t, .int .i64 n] w' fun e w2 => e = .returned noTree ∧ Below w'.heap.size w' w2) :
    Calls Tryz.prog 44 #[.pointer (some ⟨R, 0, none⟩), .int .i64 t, .int .i64 n] w fun e w' => e = .returned noHead ∧ Below w.heap.size w w' := by
  have HT : Hid _ := hTr
  clear hTr
  go_enter Tryz.func44, Tryz.ntmps44
  go_wp2_with fail
  refine (HT.out _ ((Below.refl _ _).alloc (Nat.le_refl _) _)).mono ?_
  rintro e w1 ⟨rfl, hb1⟩
  rw [noTree]
  have hg3 : w1.heap[w.heap.size]? = some (.cells #[.int .i64 0, .int .u8 0, .int .u8 0] 36 (0, 0)) := (hb1.block _ (by simp)).trans (heap_alloc_new w _)
  have HG3 : Hid _ := hg3
  have B3 : Hid (Below w.heap.size w w1) := hid (((Below.refl _ _).alloc (Nat.le_refl _) _).trans (hb1.mono (by simp)))
  have l3 : w.heap.size < w1.heap.size := (Array.getElem?_eq_some_iff.1 hg3).1
  have k0 : w1.cell? ⟨w.heap.size, 0, none⟩ = some (.int .i64 0) := by rw [cell_of_row w1 _ _ _ _ _ hg3]; rfl
  have k1 : w1.cell? ⟨w.heap.size, 1, none⟩ = some (.int .u8 0) := by rw [cell_of_row w1 _ _ _ _ _ hg3]; rfl
  have k2 : w1.cell? ⟨w.heap.size, 2, none⟩ = some (.int .u8 0) := by rw [cell_of_row w1 _ _ _ _ _ hg3]; rfl
  have ff : ∀ o, w1.frozen? ⟨w.heap.size, o, none⟩ = false := fun o => by simp [World.frozen?, hg3]
  clear hb1 hg3 HT
  go_wp2
  refine ret_head2 Tryz.results44 ((Below.heap_alloc _ _ _ (by simp; omega)).trans (set3 HG3.out _ _ _)) rfl rfl ⟨rfl, ?_⟩
  refine Below.alloc ?_ (by simp; omega) _
  repeat (refine Below.setCell ?_ (by simp) _)
  exact B3.out

end Go.Proofs.YtlggbcceoejkkaaGreat

