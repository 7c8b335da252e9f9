/- What the program's trees do: the sources of a log and of a table. -/
import Derived.Maps.OwnOps
import Derived.Test.YtogmdaopfnmobaaGreatA34
import Derived.Test.YtogmdaopfnmobaaGreatA36
import Derived.Test.YtogmdaopfnmobaaGreatA15
import Derived.Test.YtogmdaopfnmobaaGreatA33
import Derived.Test.YtogmdaopfnmobaaGreatA35
namespace Go.Proofs.YtogmdaopfnmobaaGreat
open Go.RowKit Go.Maps
theorem tr_congr {f g : Nat → Nd} : ∀ (n a b : Nat), b - a ≤ n → (∀ i, a ≤ i → i < b → f i = g i) → tr f a b = tr g a b := by
  intro n
  induction n with
  | zero => intro a b hn _; rw [tr_none f a b (by omega), tr_none g a b (by omega)]
  | succ n ih =>
    intro a b hn h
    by_cases h0 : b ≤ a
    · rw [tr_none f a b h0, tr_none g a b h0]
    by_cases h1 : b < a + 2
    · obtain rfl : b = a + 1 := by omega
      rw [tr_one, tr_one]; exact h a (Nat.le_refl _) (by omega)
    · have p := hf_pos (b - a)
      have q := hf_lt (b - a) (by omega)
      rw [tr_two f a b (by omega), tr_two g a b (by omega), ih a _ (by omega) (fun i h1 h2 => h i h1 (by omega)), ih _ b (by omega) (fun i h1 h2 => h i (by omega) h2)]
def lgf (l : List Int) (i : Nat) : Nd := mkNd (.one (l.getD i 0)) (76 :: num (l.getD i 0).toNat)
def tbf (t : List (Option Int)) (i : Nat) : Nd := match t.getD i none with | some v => mkNd (.one v) (84 :: (num i ++ num v.toNat)) | none => .E
theorem lgf_lf {l : List Int} {n i : Nat} (hi : i < n) : lf false (l.take n) (List.replicate n true) i = lgf l i := by
  have h1 : (List.replicate n true).getD i false = true := by simp [hi]
  have h2 : (l.take n).getD i 0 = l.getD i 0 := by simp [hi]
  rw [lf, h1, h2, if_pos rfl]; rfl
theorem tbf_lf {t : List (Option Int)} (i : Nat) : lf true (t.map (·.getD 0)) (t.map (·.isSome)) i = tbf t i := by
  unfold lf tbf
  simp only [List.getD_eq_getElem?_getD, List.getElem?_map]
  cases h : t[i]? with
  | none => simp
  | some o => cases o <;> simp [lfText]
theorem lgf_bd {l : List Int} (h : ∀ v ∈ l, 0 ≤ v ∧ v ≤ 1000000) (i : Nat) : bd 1 (lgf l i) := by
  refine bd_one _ _ ?_
  rw [List.getD_eq_getElem?_getD]
  by_cases hi : i < l.length
  · rw [List.getElem?_eq_getElem hi]; exact h _ (List.getElem_mem hi)
  · rw [List.getElem?_eq_none (by omega)]; simp
theorem tbf_bd {t : List (Option Int)} (h : ∀ v, some v ∈ t → 0 ≤ v ∧ v ≤ 1000000) (i : Nat) : bd 1 (tbf t i) := by
  unfold tbf
  cases ho : t.getD i none with
  | none => exact bd_E 1
  | some v =>
    refine bd_one _ _ (h v ?_)
    rw [List.getD_eq_getElem?_getD] at ho
    by_cases hi : i < t.length
    · rw [List.getElem?_eq_getElem hi] at ho
      simp at ho
      rw [← ho]; exact List.getElem_mem hi
    · rw [List.getElem?_eq_none (by omega)] at ho; simp at ho
theorem cell_old {w : World} {b off : Nat} {v : Value} (o : Obj) (h : w.cell? ⟨b, off, none⟩ = some v) : (w.alloc o).cell? ⟨b, off, none⟩ = some v := cell_kept h (World.grownBy_alloc w o none) (fun r e => by cases e)
def lgK (B : Nat) (lv : Value) (l : List Int) (w : World) : Prop := Boxed w B 25 lv ∧ Cells1 w B lv (l.map (.int .i64))
set_option maxHeartbeats 1000000 in
set_option maxRecDepth 100000 in
theorem ofLog1_any (B : Nat) (lv : Value) (l : List Int) (_hl : l.length ≤ 64) (hv : ∀ v ∈ l, 0 ≤ v ∧ v ≤ 1000000) (i : Nat) (w : World) (hK : lgK B lv l w) (hi : i < l.length) :
    Calls Tryz.prog 69 #[.int .i64 i, .pointer (some ⟨B, 0, none⟩)] w fun e w' => e = .returned (ndV (lgf l i)) ∧ Below w.heap.size w w' := by
  obtain ⟨hb, hc⟩ := hK
  obtain ⟨ao, cap, rfl, _⟩ := hc.ex
  rw [List.length_map] at hb hc
  obtain ⟨b, off, rfl, hB, hcs⟩ := hc.at i (.int .i64 l[i]) (by simp [hi])
  have hg : l.getD i 0 = l[i] := by simp [hi]
  unfold lgf
  rw [hg]
  have hvi := hv _ (List.getElem_mem hi)
  obtain ⟨v, hv'⟩ : ∃ v : Nat, l[i] = (v : Int) := Int.eq_ofNat_of_zero_le hvi.1
  rw [hv'] at hcs ⊢
  have HN : ∀ w', Hid (Calls Tryz.prog 70 #[.int .i64 v] w' fun e w2 => e = .returned (ndV (mkNd (.one v) (76 :: num v))) ∧ Below w'.heap.size w' w2) := fun w' => hid (logNode_any v w' (by omega))
  have hbc := hb.cell
  have hlt := hb.lt
  have hil : (i : Int) < l.length := by omega
  simp only [Int.toNat_natCast]
  generalize mkNd (.one v) (76 :: num v) = d at HN ⊢
  have hcs' := cell_old (.cells #[.int .i64 0, .int .i64 0, .int .i64 0, .int .i64 0, .int .u8 0, .int .u8 0] 51) hcs
  have hbc' := cell_old (.cells #[.int .i64 0, .int .i64 0, .int .i64 0, .int .i64 0, .int .u8 0, .int .u8 0] 51) hbc
  clear hv hvi hv' hb hc hg
  unfold ndV at HN ⊢
  go_enter Tryz.func69, Tryz.ntmps69
  go_wp2_with fail
  refine (HN _).out.mono ?_
  rintro e w1 ⟨rfl, hb1⟩
  have h6 : Six w1 w.heap.size (.int .i64 0) (.int .i64 0) (.int .i64 0) (.int .i64 0) (.int .u8 0) (.int .u8 0) := (Six.at w w.heap.size rfl _ _ _ _ _ _).below hb1 (by simp)
  have hz := h6.cells
  have hzf : ∀ o, w1.frozen? ⟨w.heap.size, o, none⟩ = false := fun o => by simp [World.frozen?, h6.eq]
  have H6 := hid h6
  have HB1 : Hid (Below w.heap.size w w1) := hid (((Below.refl _ _).alloc (Nat.le_refl _) _).trans (hb1.mono (by simp)))
  clear hb1 h6 HN
  go_wp2
  refine ret_node1 Tryz.results69 (H6.out.set _ _ _ _ _ _) rfl ⟨rfl, ?_⟩
  repeat (refine Below.setCell ?_ (by simp <;> omega) _)
  exact HB1.out
def tbK (B M : Nat) (t : List (Option Int)) (w : World) : Prop := Boxed w B 83 (.map (some M)) ∧ TabM w M t
theorem zero_int (w : World) : (zeroValue 3).run Tryz.prog w = .ok (.int .i64 0) w := by kernel_rfl
set_option maxHeartbeats 1000000 in
set_option maxRecDepth 100000 in
theorem ofTable1_any (B M : Nat) (t : List (Option Int)) (hv : ∀ v, some v ∈ t → 0 ≤ v ∧ v ≤ 1000000) (i : Nat) (w : World) (hK : tbK B M t w) (hi : i < 32) :
    Calls Tryz.prog 128 #[.int .i64 i, .pointer (some ⟨B, 0, none⟩)] w fun e w' => e = .returned (ndV (tbf t i)) ∧ Below w.heap.size w w' := by
  obtain ⟨hb, D, hown, hD⟩ := hK
  have hbc := hb.cell
  have hlt := hb.lt
  have hbc' := cell_old (.cells #[.int .i64 0, .int .i64 0, .int .i64 0, .int .i64 0, .int .u8 0, .int .u8 0] 51) hbc
  have hown' := hown.alloc (.cells #[.int .i64 0, .int .i64 0, .int .i64 0, .int .i64 0, .int .u8 0, .int .u8 0] 51)
  have hkey : keyOf Tryz.prog 3 (.int .i64 (i : Int)) = some (.int .i64 i) := keyOf_int_mk Tryz.underlying3 (WalkArith.wf_i64 (by omega))
  have hth := hD.has i
  rw [tget_at] at hth
  unfold tbf
  cases ho : t.getD i none with
  | none =>
    rw [ho] at hth
    dsimp only
    rw [ndV_E]
    go_enter Tryz.func128, Tryz.ntmps128
    go_wp2_with (at_lookup; refine wpList_lookup_own_ok_int _ rfl _ _ 83 rfl 3 3 .i64 int_key Tryz.underlying83 Tryz.underlying3 (zero_int _) M 32 D rfl hown' _ _ rfl hkey ?_; intro c hat hwc; rw [hth])
    refine (empty_any _).mono ?_
    rintro e w1 ⟨rfl, hb1⟩
    have h6 : Six w1 w.heap.size (.int .i64 0) (.int .i64 0) (.int .i64 0) (.int .i64 0) (.int .u8 0) (.int .u8 0) := (Six.at w w.heap.size rfl _ _ _ _ _ _).below hb1 (by simp)
    have hz := h6.cells
    have hzf : ∀ o, w1.frozen? ⟨w.heap.size, o, none⟩ = false := fun o => by simp [World.frozen?, h6.eq]
    have H6 := hid h6
    have HB1 : Hid (Below w.heap.size w w1) := hid (((Below.refl _ _).alloc (Nat.le_refl _) _).trans (hb1.mono (by simp)))
    clear hb1 h6
    go_wp2
    refine ret_node1 Tryz.results128 (H6.out.set _ _ _ _ _ _) rfl ⟨rfl, ?_⟩
    repeat (refine Below.setCell ?_ (by simp <;> omega) _)
    exact HB1.out
  | some u =>
    rw [ho] at hth
    have hat0 := hD.at' i u (by rw [tget_at]; exact ho) (.lit (.int .i64 0))
    have hvu := hv u (by
      rw [List.getD_eq_getElem?_getD] at ho
      by_cases hil : i < t.length
      · rw [List.getElem?_eq_getElem hil] at ho
        simp at ho
        rw [← ho]; exact List.getElem_mem hil
      · rw [List.getElem?_eq_none (by omega)] at ho; simp at ho)
    obtain ⟨v, rfl⟩ : ∃ v : Nat, u = (v : Int) := Int.eq_ofNat_of_zero_le hvu.1
    have HN : ∀ w', Hid (Calls Tryz.prog 129 #[.int .i64 i, .int .i64 v] w' fun e w2 => e = .returned (ndV (mkNd (.one v) (84 :: (num i ++ num v)))) ∧ Below w'.heap.size w' w2) := fun w' => hid (keyNode_any i v w' (by omega) (by omega))
    dsimp only
    simp only [Int.toNat_natCast]
    generalize mkNd (.one v) (84 :: (num i ++ num v)) = d at HN ⊢
    have HA := hid hat0
    clear hv hat0 ho hvu hD
    unfold ndV at HN ⊢
    go_enter Tryz.func128, Tryz.ntmps128
    go_wp2_with (at_lookup; refine wpList_lookup_own_ok_int _ rfl _ _ 83 rfl 3 3 .i64 int_key Tryz.underlying83 Tryz.underlying3 (zero_int _) M 32 D rfl hown' _ _ rfl hkey ?_; intro c hat hwc; rw [hth]; rw [HA.out] at hat; obtain rfl : (v : Int) = c := by simpa using hat)
    refine (HN _).out.mono ?_
    rintro e w1 ⟨rfl, hb1⟩
    have h6 : Six w1 w.heap.size (.int .i64 0) (.int .i64 0) (.int .i64 0) (.int .i64 0) (.int .u8 0) (.int .u8 0) := (Six.at w w.heap.size rfl _ _ _ _ _ _).below hb1 (by simp)
    have hz := h6.cells
    have hzf : ∀ o, w1.frozen? ⟨w.heap.size, o, none⟩ = false := fun o => by simp [World.frozen?, h6.eq]
    have H6 := hid h6
    have HB1 : Hid (Below w.heap.size w w1) := hid (((Below.refl _ _).alloc (Nat.le_refl _) _).trans (hb1.mono (by simp)))
    clear hb1 h6 HN
    go_wp2
    refine ret_node1 Tryz.results128 (H6.out.set _ _ _ _ _ _) rfl ⟨rfl, ?_⟩
    repeat (refine Below.setCell ?_ (by simp <;> omega) _)
    exact HB1.out
theorem log_plc (B : Nat) (lv : Value) (l : List Int) (hl : l.length ≤ 64) (hv : ∀ v ∈ l, 0 ≤ v ∧ v ≤ 1000000) : Plc 69 B (lgK B lv l) l.length (lgf l) where
  enters := enters_of Tryz.func69 (by kernel_rfl) rfl
  keep w w' h hb := ⟨(hb.block B h.1.lt).trans h.1, h.2.below (hb.mono (Nat.le_of_lt h.1.lt))⟩
  call i w h hi := ofLog1_any B lv l hl hv i w h hi
theorem tab_plc (B M : Nat) (t : List (Option Int)) (hv : ∀ v, some v ∈ t → 0 ≤ v ∧ v ≤ 1000000) : Plc 128 B (tbK B M t) 32 (tbf t) where
  enters := enters_of Tryz.func128 (by kernel_rfl) rfl
  keep w w' h hb := ⟨(hb.block B h.1.lt).trans h.1, by obtain ⟨D, h1, h2⟩ := h.2; exact ⟨D, ownsMap_below h1 hb, h2⟩⟩
  call i w h hi := ofTable1_any B M t hv i w h hi
set_option maxHeartbeats 1000000 in
theorem ofPlaces_any (k B : Nat) (w : World) : Calls Tryz.prog 68 #[cloV k B] w fun e w' => e = .returned (cloV 111 w.heap.size) ∧ w' = w.alloc (.cells #[cloV k B] 117) := by
  unfold cloV
  go_enter Tryz.func68, Tryz.ntmps68
  go_wp2
  go_ret
  exact ⟨rfl, rfl⟩
set_option maxHeartbeats 1000000 in
theorem ofLog_any (ao : Option Addr) (len cap : Nat) (w : World) : Calls Tryz.prog 34 #[.slice ao len cap] w fun e w' => e = .returned (cloV 111 (w.heap.size + 1)) ∧ w' = (w.alloc (.cells #[.slice ao len cap] 25)).alloc (.cells #[cloV 69 w.heap.size] 117) := by
  go_enter Tryz.func34, Tryz.ntmps34
  go_wp2_with fail
  refine (ofPlaces_any _ _ _).mono ?_
  rintro e w1 ⟨rfl, rfl⟩
  go_wp2
  go_ret
  exact ⟨by simp, rfl⟩
set_option maxHeartbeats 1000000 in
theorem ofTable_any (M : Nat) (w : World) : Calls Tryz.prog 90 #[.map (some M)] w fun e w' => e = .returned (cloV 111 (w.heap.size + 1)) ∧ w' = (w.alloc (.cells #[.map (some M)] 83)).alloc (.cells #[cloV 128 w.heap.size] 117) := by
  go_enter Tryz.func90, Tryz.ntmps90
  go_wp2_with fail
  refine (ofPlaces_any _ _ _).mono ?_
  rintro e w1 ⟨rfl, rfl⟩
  go_wp2
  go_ret
  exact ⟨by simp, rfl⟩
end Go.Proofs.YtogmdaopfnmobaaGreat

/- The program's store: what it is in memory; the small questions. -/
namespace Go.Proofs.YtogmdaopfnmobaaGreat
open Go.RowKit Go.Maps
structure PSt (w : World) (base S : Nat) (s : Sto) (lv : Value) (M : Nat) : Prop where
  hS : w.heap[S]? = some (.cells #[lv, .map (some M)] 85 (0, 0))
  hL : w.ownsRow base 3 1 lv s.l.length (s.l.map (.int .i64))
  hM : TabM w M s.t
  bS : base ≤ S
  bM : base ≤ M
  ok : s.ok
def pfp (S : Nat) (lv : Value) (M : Nat) : List Nat := S :: M :: ob lv
section
variable {w w' : World} {base S : Nat} {s : Sto} {lv : Value} {M : Nat}
theorem TabM.lt {t : List (Option Int)} (h : TabM w M t) : M < w.heap.size := by obtain ⟨D, h, _⟩ := h; exact h.lt
theorem TabM.frame {t : List (Option Int)} (h : TabM w M t) (hf : w'.heap[M]? = w.heap[M]?) : TabM w' M t := by
  obtain ⟨D, ⟨es, clock, hb, F, hs, hD⟩, h2⟩ := h
  exact ⟨D, ⟨es, clock, hf.trans hb, F, hs, hD⟩, h2⟩
theorem PSt.cells (h : PSt w base S s lv M) : (w.cell? ⟨S, 0, none⟩ = some lv ∧ w.cell? ⟨S, 1, none⟩ = some (.map (some M))) ∧ ∀ o, w.frozen? ⟨S, o, none⟩ = false := by
  have hS := h.hS
  refine ⟨⟨?_, ?_⟩, fun o => by simp [World.frozen?, hS]⟩ <;> rw [cell_of_row w S _ _ _ _ hS] <;> rfl
theorem PSt.lt (h : PSt w base S s lv M) : S < w.heap.size ∧ M < w.heap.size := ⟨(Array.getElem?_eq_some_iff.1 h.hS).1, h.hM.lt⟩
theorem PSt.frame (h : PSt w base S s lv M) (hf : ∀ k ∈ pfp S lv M, w'.heap[k]? = w.heap[k]?) : PSt w' base S s lv M :=
  ⟨(hf S (by simp [pfp])).trans h.hS, own_keep h.hL fun k hk => hf k (by simp [pfp, hk]), h.hM.frame (hf M (by simp [pfp])), h.bS, h.bM, h.ok⟩
theorem PSt.fp (h : PSt w base S s lv M) : ∀ k ∈ pfp S lv M, base ≤ k ∧ k < w.heap.size := by
  intro k hk
  simp only [pfp, List.mem_cons] at hk
  rcases hk with rfl | rfl | hk
  · exact ⟨h.bS, h.lt.1⟩
  · exact ⟨h.bM, h.lt.2⟩
  · exact own_in h.hL k hk
theorem PSt.below (h : PSt w base S s lv M) (hb : Below w.heap.size w w') : PSt w' base S s lv M := h.frame fun k hk => hb.block k (h.fp k hk).2
theorem PSt.log1 (h : PSt w base S s lv M) : Cells1 w w.heap.size lv (s.l.map (.int .i64)) := by
  obtain ⟨ao, cap, rfl⟩ := own_shape h.hL
  refine ⟨ao, cap, by simp, fun i hi => ?_⟩
  rcases h.hL.2 with ⟨e, h0⟩ | ⟨g, cap', cur, e, _, hg, _⟩
  · simp at h0
    rw [List.length_map] at hi
    rw [h0] at hi
    simp at hi
  · simp only [Value.slice.injEq] at e
    obtain ⟨rfl, _, rfl⟩ := e
    refine ⟨g, 0, rfl, (Array.getElem?_eq_some_iff.1 hg).1, ?_⟩
    have := h.hL.cells (g := g) rfl i _ (List.getElem?_eq_getElem hi)
    rw [Addr.add_mid] at this
    exact this
end
def szB (t n : Int) : Bool := decide ((t = 0 ∧ 0 ≤ n ∧ n ≤ 64) ∨ (t = 1 ∧ n = 32))
def rgB (f t n : Int) : Bool := decide (0 ≤ f ∧ f ≤ t ∧ t ≤ n)
set_option maxHeartbeats 1000000 in
theorem isValue_any (v : Int) (w : World) : Calls Tryz.prog 63 #[.int .i64 v] w fun e w' => e = .returned (.bool (isVal v)) ∧ w' = w := by
  unfold isVal
  by_cases h0 : 0 ≤ v
  · by_cases h1 : v ≤ 1000000
    · have e : decide (0 ≤ v ∧ v ≤ 1000000) = true := by simp; omega
      rw [e]
      go_enter Tryz.func63, Tryz.ntmps63
      go_wp2
      go_ret
      exact ⟨rfl, rfl⟩
    · have e : decide (0 ≤ v ∧ v ≤ 1000000) = false := by simp; omega
      rw [e]
      go_enter Tryz.func63, Tryz.ntmps63
      go_wp2
      go_ret
      exact ⟨rfl, rfl⟩
  · have e : decide (0 ≤ v ∧ v ≤ 1000000) = false := by simp; omega
    rw [e]
    go_enter Tryz.func63, Tryz.ntmps63
    go_wp2
    go_ret
    exact ⟨rfl, rfl⟩
set_option maxHeartbeats 1000000 in
theorem isRange_any (f t n : Int) (w : World) : Calls Tryz.prog 61 #[.int .i64 f, .int .i64 t, .int .i64 n] w fun e w' => e = .returned (.bool (rgB f t n)) ∧ w' = w := by
  obtain ⟨b, hb⟩ : ∃ b, b = rgB f t n := ⟨_, rfl⟩
  rw [← hb]
  have HB : Hid (b = rgB f t n) := hb
  clear hb
  go_enter Tryz.func61, Tryz.ntmps61
  go_wp2
  all_goals go_ret
  all_goals refine ⟨ret_bool ?_, rfl⟩
  all_goals rw [HB.out]
  · rw [rgB, decide_eq_decide]; omega
  · symm; simp only [rgB, decide_eq_false_iff_not]; omega
  · symm; simp only [rgB, decide_eq_false_iff_not]; omega
set_option maxHeartbeats 1000000 in
theorem isSize_any (t n : Int) (w : World) : Calls Tryz.prog 50 #[.int .i64 t, .int .i64 n] w fun e w' => e = .returned (.bool (szB t n)) ∧ w' = w := by
  by_cases h0 : t = 0
  · subst h0
    have e : szB 0 n = decide (0 ≤ n ∧ n ≤ 64) := by rw [szB, decide_eq_decide]; omega
    have HB : Hid (szB 0 n = decide (0 ≤ n ∧ n ≤ 64)) := e
    clear e
    go_enter Tryz.func50, Tryz.ntmps50
    go_wp2
    all_goals go_ret
    all_goals refine ⟨ret_bool ?_, rfl⟩
    all_goals rw [HB.out]
    · rw [decide_eq_decide]; omega
    · symm; simp only [decide_eq_false_iff_not]; omega
  · by_cases h1 : t = 1
    · subst h1
      have e : szB 1 n = decide (n = 32) := by rw [szB, decide_eq_decide]; omega
      have HB : Hid (szB 1 n = decide (n = 32)) := e
      clear e
      by_cases h2 : n = 32
      · subst h2
        go_enter Tryz.func50, Tryz.ntmps50
        go_wp2
        go_ret
        exact ⟨rfl, rfl⟩
      · have h2' : (n == 32) = false := by simpa using h2
        go_enter Tryz.func50, Tryz.ntmps50
        go_wp2
        go_ret
        refine ⟨ret_bool ?_, rfl⟩
        rw [HB.out]; simp [h2]
    · have e : szB t n = false := by simp only [szB, decide_eq_false_iff_not]; omega
      have HB : Hid (szB t n = false) := e
      have h0' : (t == 0) = false := by simpa using h0
      have h1' : (t == 1) = false := by simpa using h1
      clear e
      go_enter Tryz.func50, Tryz.ntmps50
      go_wp2
      go_ret
      exact ⟨ret_bool HB.out.symm, rfl⟩
def lookPost (n : Nat) (lf : Nat → Nd) (w : World) (e : Ending) (w' : World) : Prop :=
  ∃ B K, e = .returned (.tuple #[.int .i64 n, cloV 111 B, .bool true]) ∧ Src 111 B K n (plG lf) ∧ K w' ∧ Below w.heap.size w w'
theorem Cells1.alloc {w : World} {B : Nat} {v : Value} {l : List Value} (h : Cells1 w B v l) (hB : B ≤ w.heap.size) (o : Obj) : Cells1 (w.alloc o) B v l := h.below ((Below.refl _ w).alloc hB _)
set_option maxHeartbeats 2000000 in
set_option maxRecDepth 100000 in
theorem look_log (w : World) (base S : Nat) (s : Sto) (lv : Value) (M : Nat) (h : PSt w base S s lv M) :
    Calls Tryz.prog 49 #[.pointer (some ⟨S, 0, none⟩), .int .i64 0] w (lookPost s.l.length (lgf s.l) w) := by
  obtain ⟨⟨c0, c1⟩, hfz⟩ := h.cells
  have hl1 := h.log1
  have hok := h.ok
  obtain ⟨ao, cap, rfl⟩ := own_shape h.hL
  have hlen := hok.len
  have hSl := h.lt.1
  clear h
  have HP : ∀ (X : World) (o1 o2 : Obj), Hid (X.heap.size = w.heap.size → (∀ k, k < w.heap.size → X.heap[k]? = w.heap[k]?) → ((X.alloc o1).alloc o2).cell? ⟨S, 0, none⟩ = some (.slice ao s.l.length cap)) := fun X o1 o2 => hid fun hs hk => by
    exact cell_old _ (cell_old _ (by rw [← c0]; exact World.cell?_of_block (a := ⟨S, 0, none⟩) (hk S hSl)))
  have HO : ∀ X, Hid (Calls Tryz.prog 34 #[.slice ao s.l.length cap] X _) := fun X => hid (ofLog_any ao s.l.length cap X)
  go_enter Tryz.func49, Tryz.ntmps49
  go_wp2
  go_region_held3 (fun w' => w'.cell? ⟨S, 0, none⟩ = some (.slice ao s.l.length cap)) (first | exact hcn | go_keep)
    ((go_at_call 34; refine (HO _).out.mono ?_; rintro e w1 ⟨rfl, hw1⟩; have hcn : w1.cell? ⟨S, 0, none⟩ = some (.slice ao s.l.length cap) := (by (rw [hw1]; exact (HP _ _ _).out rfl (fun _ _ => rfl)))))
  all_goals go_wp2
  have hB : Below w.heap.size w ((w.alloc (.cells #[.slice ao s.l.length cap] 25)).alloc (.cells #[cloV 69 w.heap.size] 117)).drew := (((Below.refl _ _).alloc (Nat.le_refl _) _).alloc (by simp) _).drew
  refine bodyPost_ret (v := .tuple #[.int .i64 s.l.length, cloV 111 (w.heap.size + 1), .bool true]) (by simp [results, Tryz.results49, go_sem]) rfl ?_
  refine ⟨w.heap.size + 1, plK 69 w.heap.size (w.heap.size + 1) (lgK w.heap.size (.slice ao s.l.length cap) s.l), rfl, places_src (log_plc _ _ _ hlen hok.val) hlen _, ⟨⟨?_, hl1.below hB⟩, ?_⟩, hB⟩
  · exact (Boxed.new w 25 (.slice ao s.l.length cap)).alloc (.cells #[cloV 69 w.heap.size] 117)
  · exact heap_one (w.alloc (.cells #[.slice ao s.l.length cap] 25)) _ _ (by simp)
set_option maxHeartbeats 2000000 in
set_option maxRecDepth 100000 in
theorem look_tab (w : World) (base S : Nat) (s : Sto) (lv : Value) (M : Nat) (h : PSt w base S s lv M) :
    Calls Tryz.prog 49 #[.pointer (some ⟨S, 0, none⟩), .int .i64 1] w (lookPost 32 (tbf s.t) w) := by
  obtain ⟨⟨c0, c1⟩, hfz⟩ := h.cells
  have hM := h.hM
  have hok := h.ok
  clear h
  go_enter Tryz.func49, Tryz.ntmps49
  go_wp2_with fail
  refine (ofTable_any _ _).mono ?_
  rintro e w1 ⟨rfl, rfl⟩
  go_wp2
  have hB : Below w.heap.size w ((w.alloc (.cells #[.map (some M)] 83)).alloc (.cells #[cloV 128 w.heap.size] 117)) := (((Below.refl _ _).alloc (Nat.le_refl _) _).alloc (by simp) _)
  refine bodyPost_ret (v := .tuple #[.int .i64 32, cloV 111 (w.heap.size + 1), .bool true]) (by simp [results, Tryz.results49, go_sem]) rfl ?_
  refine ⟨w.heap.size + 1, plK 128 w.heap.size (w.heap.size + 1) (tbK w.heap.size M s.t), rfl, places_src (tab_plc _ _ _ hok.tval) (by decide) _, ⟨⟨?_, hM.frame (hB.block M hM.lt)⟩, ?_⟩, hB⟩
  · exact (Boxed.new w 83 (.map (some M))).alloc (.cells #[cloV 128 w.heap.size] 117)
  · exact heap_one (w.alloc (.cells #[.map (some M)] 83)) _ _ (by simp)
set_option maxHeartbeats 2000000 in
set_option maxRecDepth 100000 in
theorem look_no (w : World) (S : Nat) (t : Int) (h0 : t ≠ 0) (h1 : t ≠ 1) :
    Calls Tryz.prog 49 #[.pointer (some ⟨S, 0, none⟩), .int .i64 t] w fun e w' => e = .returned (.tuple #[.int .i64 0, .nilFunc, .bool false]) ∧ w' = w := by
  have h0' : (t == 0) = false := by simpa using h0
  have h1' : (t == 1) = false := by simpa using h1
  go_enter Tryz.func49, Tryz.ntmps49
  go_wp2
  exact bodyPost_ret (v := .tuple #[.int .i64 0, .nilFunc, .bool false]) (by simp [results, Tryz.results49, go_sem]) rfl ⟨rfl, rfl⟩
end Go.Proofs.YtogmdaopfnmobaaGreat

/- What the program's areValues and slices.Equal do. -/
namespace Go.Proofs.YtogmdaopfnmobaaGreat
open Go.RowKit
set_option maxHeartbeats 2000000 in
set_option maxRecDepth 100000 in
theorem areValues_any (v : Value) (l : List Int) (w : World) (hl : Cells1 w w.heap.size v (l.map (.int .i64))) (hm : l.length ≤ 9223372036854775807) :
    Calls Tryz.prog 33 #[v] w fun e w' => e = .returned (.bool (l.all isVal)) ∧ w' = w := by
  obtain ⟨ao, cap, rfl, hc⟩ := hl.ex
  simp only [List.length_map] at hc ⊢
  clear hl
  obtain ⟨B, hB⟩ : ∃ B, B = l.all isVal := ⟨_, rfl⟩
  rw [← hB]
  have HB := hid hB
  clear hB
  go_enter Tryz.func33, Tryz.ntmps33
  go_wp2
  go_loopw [7] (fun i wr => ∃ k : Nat, k ≤ l.length ∧ i = .int .i64 k ∧ Hid (∀ x ∈ l.take k, isVal x = true) ∧ wr = w) (fun i _ => l.length - (intOf i).toNat)
  case atStart => exact ⟨0, Nat.zero_le _, rfl, hid (by simp), rfl⟩
  case round =>
    obtain ⟨k, hk, rfl, HA, rfl⟩ := hrel
    by_cases hlt : k < l.length
    · obtain ⟨b, off, rfl, hbB, hcs⟩ := hc k (by simpa using hlt)
      have hcx : wr.cell? ⟨b, off + k, none⟩ = some (.int .i64 l[k]) := by simpa using hcs
      have HN : Hid (isVal l[k] = true → ∀ x ∈ l.take (k + 1), isVal x = true) := hid fun h x hx => by
        rw [List.take_succ_eq_append_getElem hlt, List.mem_append, List.mem_singleton] at hx
        rcases hx with hx | rfl
        · exact HA.out x hx
        · exact h
      have HF : Hid (isVal l[k] = false → B = false) := hid fun h => by
        rw [HB.out, List.all_eq_false]
        exact ⟨l[k], List.getElem_mem hlt, by simp [h]⟩
      generalize l[k] = x at hcx HN HF
      clear hcs hc
      have HV : Hid (Calls Tryz.prog 63 #[.int .i64 x] wr _) := hid (isValue_any x wr)
      cases hv : isVal x with
      | true =>
        rw [hv] at HV
        have HN1 := hid (HN.out hv)
        clear HN HF hv
        go_wp2_with (go_at_call 63; refine HV.out.mono ?_; rintro e w1 ⟨rfl, hw1⟩; rw [hw1]; clear hw1 w1)
        go_roundw
        case rel => exact ⟨k + 1, by omega, by push_cast; rfl, HN1, trivial⟩
        case measure => simp [intOf]; omega
      | false =>
        rw [hv] at HV
        have HF1 := hid (HF.out hv)
        clear HN HF hv
        go_wp2_with (go_at_call 63; refine HV.out.mono ?_; rintro e w1 ⟨rfl, hw1⟩; rw [hw1]; clear hw1 w1)
        go_ret
        exact ⟨by rw [HF1.out]; rfl, rfl⟩
    · obtain rfl : k = l.length := by omega
      have HT : Hid (B = true) := hid (by rw [HB.out, List.all_eq_true]; have := HA.out; rwa [List.take_length] at this)
      clear hc
      go_wp2
      go_ret
      exact ⟨by rw [HT.out]; rfl, rfl⟩
set_option maxHeartbeats 4000000 in
set_option maxRecDepth 100000 in
theorem equalInts_any (v v2 : Value) (l l2 : List Int) (w : World) (hl : Cells1 w w.heap.size v (l.map (.int .i64))) (hl2 : Cells1 w w.heap.size v2 (l2.map (.int .i64))) (hm : l.length ≤ 9223372036854775807) (hm2 : l2.length ≤ 9223372036854775807) :
    Calls Tryz.prog 36 #[v, v2] w fun e w' => e = .returned (.bool (decide (l = l2))) ∧ Below w.heap.size w w' := by
  obtain ⟨ao, cap, rfl, hc⟩ := hl.ex
  obtain ⟨ao2, cap2, rfl, hc2⟩ := hl2.ex
  simp only [List.length_map] at hc hc2 ⊢
  clear hl hl2
  obtain ⟨B, hB⟩ : ∃ B, B = decide (l = l2) := ⟨_, rfl⟩
  rw [← hB]
  have HB := hid hB
  clear hB
  by_cases hlen : l.length = l2.length
  · rw [← hlen]
    go_enter Tryz.func36, Tryz.ntmps36
    go_wp2
    go_loopw [13] (fun i wr => ∃ k : Nat, k ≤ l.length ∧ i = .int .i64 k ∧ Hid (l.take k = l2.take k) ∧ Hid (Below w.heap.size w wr)) (fun i _ => l.length - (intOf i).toNat)
    case atStart => exact ⟨0, Nat.zero_le _, rfl, hid (by simp), hid (Below.refl _ _)⟩
    case round =>
      obtain ⟨k, hk, rfl, HA, HBl⟩ := hrel
      by_cases hlt : k < l.length
      · have hlt2 : k < l2.length := by omega
        obtain ⟨b, off, rfl, hbB, hcs⟩ := hc k (by simpa using hlt)
        obtain ⟨b2, off2, rfl, hbB2, hcs2⟩ := hc2 k (by simpa using hlt2)
        have hcx : wr.cell? ⟨b, off + k, none⟩ = some (.int .i64 l[k]) := by
          have := (HBl.out.cell (p := ⟨b, off + k, none⟩) hbB).trans hcs
          simpa using this
        have hcx2 : wr.cell? ⟨b2, off2 + k, none⟩ = some (.int .i64 l2[k]) := by
          have := (HBl.out.cell (p := ⟨b2, off2 + k, none⟩) hbB2).trans hcs2
          simpa using this
        have HN : Hid (l[k] = l2[k] → l.take (k + 1) = l2.take (k + 1)) := hid fun h => by
          rw [List.take_succ_eq_append_getElem hlt, List.take_succ_eq_append_getElem hlt2, HA.out, h]
        have HF : Hid (l[k] ≠ l2[k] → B = false) := hid fun h => by
          rw [HB.out, decide_eq_false_iff_not]
          rintro rfl
          exact h rfl
        generalize l[k] = x at hcx HN HF
        generalize l2[k] = y at hcx2 HN HF
        clear hcs hcs2 hc hc2
        by_cases hxy : x = y
        · subst hxy
          have HN1 := hid (HN.out rfl)
          clear HN HF
          go_wp2
          go_quiet (fail)
          go_wp2
          go_roundw
          case rel => exact ⟨k + 1, by omega, by push_cast; rfl, HN1, hid (HBl.out.trans ((below_drewN wr nq).mono HBl.out.size))⟩
          case measure => simp [intOf]; omega
        · have hxy' : (x == y) = false := by simpa using hxy
          have HF1 := hid (HF.out hxy)
          clear HN HF
          go_wp2
          go_quiet (fail)
          go_wp2
          go_ret
          exact ⟨by rw [HF1.out]; rfl, HBl.out.trans ((below_drewN wr nq).mono HBl.out.size)⟩
      · obtain rfl : k = l.length := by omega
        have HT : Hid (B = true) := hid (by
          rw [HB.out, decide_eq_true_iff]
          have := HA.out
          rw [List.take_length, hlen, List.take_length] at this
          exact this)
        clear hc hc2
        go_wp2
        go_ret
        exact ⟨by rw [HT.out]; rfl, HBl.out⟩
  · have hne : ((l.length : Int) == (l2.length : Int)) = false := by simp; omega
    have HF : Hid (B = false) := hid (by rw [HB.out, decide_eq_false_iff_not]; rintro rfl; exact hlen rfl)
    clear hc hc2
    go_enter Tryz.func36, Tryz.ntmps36
    go_wp2
    go_ret
    exact ⟨by rw [HF.out]; rfl, Below.refl _ _⟩
end Go.Proofs.YtogmdaopfnmobaaGreat

