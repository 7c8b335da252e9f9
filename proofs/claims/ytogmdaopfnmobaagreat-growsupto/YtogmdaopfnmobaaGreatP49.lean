/- The statements' own helpers (notarylaw): filled. -/
import Derived.Test.YtogmdaopfnmobaaGreatP37
import Derived.Test.YtogmdaopfnmobaaGreatP48
import Derived.Test.YtogmdaopfnmobaaGreatP47
namespace Go.Proofs.YtogmdaopfnmobaaGreat
open Go.RowKit Go.Maps

/-- A change that is handed in: its key, its value, whether it takes out. -/
structure Chg where
  k : Int
  v : Int
  o : Bool
/-- A list of such changes, in memory. -/
structure ChS (w : World) (B : Nat) (v : Value) (l : List Chg) : Prop where
  ex : ∃ ao cap, v = .slice ao l.length cap ∧ l.length ≤ 9223372036854775807 ∧ ∀ i (hi : i < l.length), ∃ b off, ao = some ⟨b, off, none⟩ ∧ b < B ∧ w.cell? ⟨b, off + i * 3, none⟩ = some (.int .i64 l[i].k) ∧ w.cell? ⟨b, off + i * 3 + 1, none⟩ = some (.int .i64 l[i].v) ∧ w.cell? ⟨b, off + i * 3 + 2, none⟩ = some (.bool l[i].o)
theorem ChS.below {w w' : World} {B : Nat} {v : Value} {l : List Chg} (h : ChS w B v l) (hb : Below B w w') : ChS w' B v l := by
  obtain ⟨ao, cap, hv, hm, hc⟩ := h.ex
  refine ⟨ao, cap, hv, hm, fun i hi => ?_⟩
  obtain ⟨b, off, ha, hB, h0, h1, h2⟩ := hc i hi
  exact ⟨b, off, ha, hB, (hb.cell (p := ⟨b, off + i * 3, none⟩) hB).trans h0, (hb.cell (p := ⟨b, off + i * 3 + 1, none⟩) hB).trans h1, (hb.cell (p := ⟨b, off + i * 3 + 2, none⟩) hB).trans h2⟩
theorem ChS.mono {w : World} {B B' : Nat} {v : Value} {l : List Chg} (h : ChS w B v l) (hb : B ≤ B') : ChS w B' v l := by
  obtain ⟨ao, cap, hv, hm, hc⟩ := h.ex
  refine ⟨ao, cap, hv, hm, fun i hi => ?_⟩
  obtain ⟨b, off, ha, hB, h⟩ := hc i hi
  exact ⟨b, off, ha, by omega, h⟩
theorem RSt.ond {w : World} {base R : Nat} {s : Sto} {lv : Value} {K H : Nat} (h : RSt w base R s lv K H) : (rfp R lv K H).Nodup := by
  have hRo : R ∉ ob lv := fun c => blk_row h.hR (by decide) h.hL (mem_ob.1 c).symm
  have hHo : H ∉ ob lv := fun c => blk_row (show w.heap[H]? = _ from h.hH) (by decide) h.hL (mem_ob.1 c).symm
  have hRK : R ≠ K := fun c => by have h1 := h.hR; have h2 := h.hK; unfold Row at h2; rw [c, h2] at h1; simp at h1
  have hRH : R ≠ H := fun c => by have h1 := h.hR; have h2 := h.hH; unfold Row at h2; rw [c, h2] at h1; simp at h1
  have hKH : K ≠ H := fun c => by have h1 := h.hK; have h2 := h.hH; unfold Row at h1 h2; rw [c, h2] at h1; simp at h1
  simp only [rfp, List.nodup_cons, List.mem_cons, not_or]
  exact ⟨⟨hRK, hRH, hRo⟩, ⟨hKH, h.kl⟩, hHo, ob_one _⟩
theorem PSt.lower {w : World} {base base' S : Nat} {s : Sto} {lv : Value} {M : Nat} (h : PSt w base S s lv M) (hb : base' ≤ base) : PSt w base' S s lv M := ⟨h.hS, own_mono' h.hL hb, h.hM, Nat.le_trans hb h.bS, Nat.le_trans hb h.bM, h.ok⟩
theorem RSt.lower {w : World} {base base' R : Nat} {s : Sto} {lv : Value} {K H : Nat} (h : RSt w base R s lv K H) (hb : base' ≤ base) : RSt w base' R s lv K H := ⟨h.hR, own_mono' h.hL hb, h.hK, h.hH, h.kl, Nat.le_trans hb h.bR, Nat.le_trans hb h.bK, Nat.le_trans hb h.bH, h.ok⟩
theorem PSt.ond {w : World} {base S : Nat} {s : Sto} {lv : Value} {M : Nat} (h : PSt w base S s lv M) : (pfp S lv M).Nodup := by
  obtain ⟨a1, a2, a3⟩ := h.apart
  simp only [pfp, List.nodup_cons, List.mem_cons, not_or]
  exact ⟨⟨a3, a1⟩, a2, ob_one _⟩
/-- What both stores' calls leave, one behind the other. -/
def bothPost (R : Nat) (kf : Nat) (args : List Value) (n : Int) (W1 : World) (base : Nat) (p : Pr) (e : Ending) (W2 : World) : Prop :=
  e = .returned (.int .i64 n) ∧ Kept W1 W2 p.blk ∧ Calls Tryz.prog kf (.pointer (some ⟨R, 0, none⟩) :: args).toArray W2 fun e' W3 => e' = .returned (.int .i64 n) ∧ ∃ p', Done W1 W3 base p p'
theorem both_append (W1 : World) (base : Nat) (p : Pr) (b : Int) (hp : PrOk W1 base p) (hb : base ≤ W1.heap.size) :
    Calls Tryz.prog 27 #[.pointer (some ⟨p.S, 0, none⟩), .int .i64 b] W1 (bothPost p.R 28 [.int .i64 b] (apE p.s b) W1 base p) := by
  refine (append_any W1 base p.S p.s p.lv p.M b hp.ps hb).mono fun e W2 hc => ?_
  obtain ⟨he, lv', hm⟩ := pair_mid hp hc
  refine ⟨he, hm.kept, ?_⟩
  refine (refAppend_any W2 base p.R p.s p.rl p.K p.H b hm.rs (by have := hm.kept.size; omega)).mono ?_
  intro e' W3 hc'
  obtain ⟨he', p', hd, _⟩ := pair_done hp hm hc'
  exact ⟨he', p', hd⟩
theorem both_set (W1 : World) (base : Nat) (p : Pr) (b c : Int) (hp : PrOk W1 base p) (hwf : (Lit.int .i64 b).wf = true) :
    Calls Tryz.prog 31 #[.pointer (some ⟨p.S, 0, none⟩), .int .i64 b, .int .i64 c] W1 (bothPost p.R 32 [.int .i64 b, .int .i64 c] (seE p.s b c) W1 base p) := by
  refine (set_any W1 base p.S p.s p.lv p.M b c hwf hp.ps).mono fun e W2 hc' => ?_
  obtain ⟨he, lv', hm⟩ := pair_mid hp hc'
  refine ⟨he, hm.kept, ?_⟩
  refine (refSet_any W2 base p.R p.s p.rl p.K p.H b c hm.rs).mono ?_
  intro e' W3 hc'
  obtain ⟨he', p', hd, _⟩ := pair_done hp hm hc'
  exact ⟨he', p', hd⟩
theorem both_delete (W1 : World) (base : Nat) (p : Pr) (b : Int) (hp : PrOk W1 base p) (hwf : (Lit.int .i64 b).wf = true) :
    Calls Tryz.prog 29 #[.pointer (some ⟨p.S, 0, none⟩), .int .i64 b] W1 (bothPost p.R 30 [.int .i64 b] (deE p.s b) W1 base p) := by
  refine (delete_any W1 base p.S p.s p.lv p.M b hwf hp.ps).mono fun e W2 hc' => ?_
  obtain ⟨he, lv', hm⟩ := pair_mid hp hc'
  refine ⟨he, hm.kept, ?_⟩
  refine (refDelete_any W2 base p.R p.s p.rl p.K p.H b hm.rs).mono ?_
  intro e' W3 hc'
  obtain ⟨he', p', hd, _⟩ := pair_done hp hm hc'
  exact ⟨he', p', hd⟩
/-- A pair of stores in memory. -/
def PsAt (w : World) (g : Nat) (s r : Option Addr) : Prop := w.heap[g]? = some (.cells #[.pointer s, .pointer r] 33 (0, 0))
theorem PsAt.cells {w : World} {g : Nat} {s r : Option Addr} (h : PsAt w g s r) : (w.cell? ⟨g, 0, none⟩ = some (.pointer s) ∧ w.cell? ⟨g, 1, none⟩ = some (.pointer r)) ∧ ∀ o, w.frozen? ⟨g, o, none⟩ = false := by
  unfold PsAt at h
  refine ⟨⟨?_, ?_⟩, fun o => by simp [World.frozen?, h]⟩ <;> rw [cell_of_row w g _ _ _ _ h] <;> rfl
theorem PsAt.lt {w : World} {g : Nat} {s r : Option Addr} (h : PsAt w g s r) : g < w.heap.size := (Array.getElem?_eq_some_iff.1 h).1
theorem PsAt.below {w w' : World} {B g : Nat} {s r : Option Addr} (h : PsAt w g s r) (hb : Below B w w') (hg : g < B) : PsAt w' g s r := (hb.block g hg).trans h
theorem PsAt.kept {w w' : World} {g : Nat} {s r : Option Addr} {fp : List Nat} (h : PsAt w g s r) (hk : Kept w w' fp) (hn : g ∉ fp) : PsAt w' g s r := (hk.block g h.lt hn).trans h
theorem PsAt.set {w : World} {g : Nat} {s r : Option Addr} (h : PsAt w g s r) (s' r' : Option Addr) : PsAt ((w.setCell ⟨g, 0, none⟩ (.pointer s')).setCell ⟨g, 1, none⟩ (.pointer r')) g s' r' := heap_set (k := 1) (heap_set (k := 0) h _) _
/-- The loop's own things. -/
structure Fil (w wr : World) (S R g : Nat) (p : Pr) : Prop where
  ok : PrOk wr w.heap.size p
  eS : p.S = S
  eR : p.R = R
  pa : PsAt wr g (some ⟨S, 0, none⟩) (some ⟨R, 0, none⟩)
  re : PsAt wr w.heap.size none none
  ng : g ∉ p.blk
  nr : w.heap.size ∉ p.blk
  bg : w.heap.size < g
  be : Below w.heap.size w wr
theorem Fil.next {w wr W1 W3 : World} {S R g : Nat} {p p' : Pr} (h : Fil w wr S R g p) (hb : Below wr.heap.size wr W1) (hd : Done W1 W3 w.heap.size p p') : Fil w W3 S R g p' := by
  have l1 := h.pa.lt
  have l2 := h.re.lt
  have hs := hb.size
  refine ⟨hd.ok, hd.eS.trans h.eS, hd.eR.trans h.eR, (h.pa.below hb l1).kept hd.kept h.ng, (h.re.below hb l2).kept hd.kept h.nr, fun c => ?_, fun c => ?_, h.bg, (h.be.trans (hb.mono h.be.size)).trans (hd.kept.below (by have := h.be.size; omega) (fun k hk => (h.ok.fp k hk).1))⟩
  · rcases hd.new g c with c | c
    · exact h.ng c
    · omega
  · rcases hd.new _ c with c | c
    · exact h.nr c
    · omega

set_option maxHeartbeats 8000000 in
set_option maxRecDepth 100000 in
theorem filled_any (v : Value) (l : List Chg) (w : World) (hl : ChS w w.heap.size v l) (hx : ∀ x ∈ l, (-9223372036854775808 ≤ x.k ∧ x.k ≤ 9223372036854775807) ∧ (-9223372036854775808 ≤ x.v ∧ x.v ≤ 9223372036854775807)) :
    Calls Tryz.prog 10 #[v] w fun e w' => ∃ p : Pr, e = .returned (.tuple #[.agg #[.pointer (some ⟨p.S, 0, none⟩), .pointer (some ⟨p.R, 0, none⟩)], .bool true]) ∧ PrOk w' w.heap.size p ∧ Below w.heap.size w w' := by
  obtain ⟨ao, cap, rfl, hmax, hcells⟩ := hl.ex
  have HX := hid hx
  clear hl hx
  go_enter Tryz.func10, Tryz.ntmps10
  go_wp2_with fail
  refine (new_any _).mono ?_
  rintro e w1 ⟨S, M, rfl, hP, hb1⟩
  have HP := hid hP
  have HB1 := hid hb1
  clear hP hb1
  go_wp2_with fail
  refine (refNew_any _).mono ?_
  rintro e w2 ⟨R, K, H, rfl, hR, hb2⟩
  have hb1 := HB1.out
  have z1 : w.heap.size < w1.heap.size := by have := hb1.size; simp at this; omega
  have z2 := hb2.size
  have h0 : PsAt w2 w.heap.size none none := PsAt.below (PsAt.below (show PsAt _ _ _ _ from heap_one w _ _ rfl) hb1 (by simp)) hb2 z1
  have hok : PrOk w2 w.heap.size ⟨S, M, R, K, H, .empty, .slice none 0 0, .slice none 0 0⟩ := by
    refine ⟨(HP.out.below hb2).lower (by simp), hR.lower (by omega), List.nodup_append.2 ⟨(HP.out).ond, hR.ond, ?_⟩⟩
    intro a ha b hb e
    subst e
    have h1 := (HP.out.fp a ha).2
    have h2 := (hR.fp a hb).1
    omega
  have hnr : ∀ k ∈ Pr.blk ⟨S, M, R, K, H, .empty, .slice none 0 0, .slice none 0 0⟩, w.heap.size < k ∧ k < w2.heap.size := fun k hk => by
    refine ⟨?_, (hok.fp k hk).2⟩
    rcases List.mem_append.1 hk with hk | hk
    · have := (HP.out.fp k hk).1; simp at this; omega
    · have := (hR.fp k hk).1; omega
  obtain ⟨W2, hW2⟩ : ∃ W, W = w2.alloc (.cells #[.pointer (some ⟨S, 0, none⟩), .pointer (some ⟨R, 0, none⟩)] 33) := ⟨_, rfl⟩
  have hBW : Below w2.heap.size w2 W2 := hW2 ▸ (Below.refl _ _).alloc (Nat.le_refl _) _
  have hF : Fil w W2 S R w2.heap.size ⟨S, M, R, K, H, .empty, .slice none 0 0, .slice none 0 0⟩ :=
    ⟨hok.below hBW, rfl, rfl, hW2 ▸ heap_one w2 _ _ rfl, h0.below hBW h0.lt, fun c => by have := hnr _ c; omega, fun c => by have := hnr _ c; omega, by omega, ((((Below.refl _ _).alloc (Nat.le_refl _) _).trans (hb1.mono (by simp))).trans (hb2.mono (by omega))).trans (hBW.mono (by omega))⟩
  have HF := hid hF
  clear hb1 hb2 hR HP HB1 h0 hok hnr hBW hF
  go_wp2_with fail
  rw [← hW2]
  clear hW2
  generalize w2.heap.size = g at HF z2 ⊢
  go_loopw [5] (fun i wr => ∃ k : Nat, k ≤ l.length ∧ i = .int .i64 k ∧ Hid (∃ p, Fil w wr S R g p)) (fun i _ => l.length - (intOf i).toNat)
  case atStart => exact ⟨0, Nat.zero_le _, rfl, hid ⟨_, HF.out⟩⟩
  case round =>
    obtain ⟨k, hk, rfl, HT⟩ := hrel
    obtain ⟨p, hF⟩ := HT.out
    have HF1 := hid hF
    have lg := hF.pa.lt
    have lr := hF.re.lt
    by_cases hlt : k < l.length
    · obtain ⟨b, off, rfl, hbB, hc0, hc1, hc2⟩ := hcells k hlt
      obtain ⟨⟨x1, x2, x3⟩, hxe⟩ : ∃ x, x = l[k] := ⟨_, rfl⟩
      have hxx := HX.out _ (List.getElem_mem hlt)
      rw [← hxe] at hc0 hc1 hc2 hxx
      simp only at hc0 hc1 hc2 hxx
      have d0 := (hF.be.cell (p := ⟨b, off + k * 3, none⟩) hbB).trans hc0
      have d1 := (hF.be.cell (p := ⟨b, off + k * 3 + 1, none⟩) hbB).trans hc1
      have d2 := (hF.be.cell (p := ⟨b, off + k * 3 + 2, none⟩) hbB).trans hc2
      have x1w : (Lit.int .i64 x1).wf = true := by simp [Lit.wf, IntKind.min, IntKind.max, IntKind.signed, IntKind.bits]; omega
      obtain ⟨⟨pc0, pc1⟩, pf⟩ := hF.pa.cells
      obtain ⟨W1, hW1⟩ : ∃ W, W = wr.alloc (.cells #[.int .i64 x1, .int .i64 x2, .bool x3] 29) := ⟨_, rfl⟩
      have hB : Below wr.heap.size wr W1 := hW1 ▸ (Below.refl _ _).alloc (Nat.le_refl _) _
      have hch : W1.heap[wr.heap.size]? = some (.cells #[.int .i64 x1, .int .i64 x2, .bool x3] 29 (0, 0)) := hW1 ▸ heap_one wr _ _ rfl
      have hs1 : W1.heap.size = wr.heap.size + 1 := by rw [hW1]; simp
      have hokW : PrOk W1 w.heap.size p := hF.ok.below hB
      -- what is sure behind the first call
      have HM : Hid (∀ W2, Kept W1 W2 p.blk → (W2.cell? ⟨g, 1, none⟩ = some (.pointer (some ⟨R, 0, none⟩)) ∧ W2.cell? ⟨wr.heap.size, 0, none⟩ = some (.int .i64 x1) ∧ W2.cell? ⟨wr.heap.size, 1, none⟩ = some (.int .i64 x2)) ∧ wr.heap.size < W2.heap.size ∧ g < W2.heap.size) := hid fun W2 hk2 => by
        have e1 := ((HF1.out.pa.below hB lg).kept hk2 HF1.out.ng).cells.1.2
        have hnb : wr.heap.size ∉ p.blk := fun c => by have := (HF1.out.ok.fp _ c).2; omega
        have e2 := (hk2.block wr.heap.size (by omega) hnb).trans hch
        refine ⟨⟨e1, ?_, ?_⟩, by have := hk2.size; omega, by have := hk2.size; omega⟩
        · rw [cell_of_row W2 _ _ _ _ _ e2]; rfl
        · rw [cell_of_row W2 _ _ _ _ _ e2]; rfl
      have HNX : Hid (∀ W3, (∃ p', Done W1 W3 w.heap.size p p') → ∃ p', Fil w W3 S R g p') := hid fun W3 ⟨p', hd⟩ => ⟨p', HF1.out.next hB hd⟩
      have hbase : w.heap.size ≤ W1.heap.size := by have := hF.be.size; omega
      have HA1 := hid (both_append W1 w.heap.size p x2 hokW hbase)
      have HA2 := hid (both_set W1 w.heap.size p x1 x2 hokW x1w)
      have HA3 := hid (both_delete W1 w.heap.size p x1 hokW x1w)
      rw [hF.eS, hF.eR] at HA1 HA2 HA3
      rw [hW1] at HA1 HA2 HA3 HM HNX
      clear hcells hc0 hc1 hc2 hxe hF HT hW1 hB hch hs1 hokW hbase HF
      generalize apE p.s x2 = E1 at HA1
      generalize seE p.s x1 x2 = E2 at HA2
      generalize deE p.s x1 = E3 at HA3
      by_cases hneg : x1 < 0
      · clear HA2 HA3
        go_wp2_with fail
        refine HA1.out.mono ?_
        rintro e W2 ⟨rfl, hk2, hR2⟩
        have HR2 := hid hR2
        obtain ⟨⟨y0, y1, y2⟩, ly, lg2⟩ := HM.out W2 hk2
        clear hk2 hR2 HA1 HM
        go_wp2_with fail
        refine HR2.out.mono ?_
        rintro e W3 ⟨rfl, hd⟩
        have HD := hid (HNX.out W3 hd)
        clear hd HR2 HNX y0 y1 y2
        go_wp2_with (go_at_call 19; refine (snum_any _ _).mono ?_; rintro e w4 ⟨rfl, hw4⟩; rw [hw4]; clear hw4 w4)
        go_roundw
        case rel => exact ⟨k + 1, by omega, by push_cast; rfl, HD⟩
        case measure => simp [intOf]; omega
      · cases x3 with
        | true =>
          clear HA1 HA2
          go_wp2_with fail
          refine HA3.out.mono ?_
          rintro e W2 ⟨rfl, hk2, hR2⟩
          have HR2 := hid hR2
          obtain ⟨⟨y0, y1, y2⟩, ly, lg2⟩ := HM.out W2 hk2
          clear hk2 hR2 HA3 HM
          go_wp2_with fail
          refine HR2.out.mono ?_
          rintro e W3 ⟨rfl, hd⟩
          have HD := hid (HNX.out W3 hd)
          clear hd HR2 HNX y0 y1 y2
          go_wp2_with (go_at_call 19; refine (snum_any _ _).mono ?_; rintro e w4 ⟨rfl, hw4⟩; rw [hw4]; clear hw4 w4)
          go_roundw
          case rel => exact ⟨k + 1, by omega, by push_cast; rfl, HD⟩
          case measure => simp [intOf]; omega
        | false =>
          clear HA1 HA3
          go_wp2_with fail
          refine HA2.out.mono ?_
          rintro e W2 ⟨rfl, hk2, hR2⟩
          have HR2 := hid hR2
          obtain ⟨⟨y0, y1, y2⟩, ly, lg2⟩ := HM.out W2 hk2
          clear hk2 hR2 HA2 HM
          go_wp2_with fail
          refine HR2.out.mono ?_
          rintro e W3 ⟨rfl, hd⟩
          have HD := hid (HNX.out W3 hd)
          clear hd HR2 HNX y0 y1 y2
          go_wp2_with (go_at_call 19; refine (snum_any _ _).mono ?_; rintro e w4 ⟨rfl, hw4⟩; rw [hw4]; clear hw4 w4)
          go_roundw
          case rel => exact ⟨k + 1, by omega, by push_cast; rfl, HD⟩
          case measure => simp [intOf]; omega
    · obtain ⟨⟨pc0, pc1⟩, pf⟩ := hF.pa.cells
      obtain ⟨⟨rc0, rc1⟩, rf'⟩ := hF.re.cells
      have hgw : g ≠ w.heap.size := by have := hF.bg; omega
      clear hcells HT hF HF
      go_wp2
      have hre := (HF1.out.re.set (some ⟨S, 0, none⟩) (some ⟨R, 0, none⟩)).cells.1
      refine bodyPost_ret (v := .tuple #[.agg #[.pointer (some ⟨S, 0, none⟩), .pointer (some ⟨R, 0, none⟩)], .bool true]) (by simp [results, Tryz.results10, go_sem, hre.1, hre.2]) rfl ⟨p, by rw [HF1.out.eS, HF1.out.eR], ?_, ?_⟩
      · refine HF1.out.ok.frame fun j hj => ?_
        have hne : j ≠ w.heap.size := fun c => HF1.out.nr (c ▸ hj)
        exact (Below.heap_setCell _ _ _ _ hne).trans (Below.heap_setCell _ _ _ _ hne)
      · exact (HF1.out.be.setCell (Nat.le_refl _) _).setCell (Nat.le_refl _) _

end Go.Proofs.YtogmdaopfnmobaaGreat

/- The statements' own helpers (notarylaw): takes; what Sound's calls tell. -/
namespace Go.Proofs.YtogmdaopfnmobaaGreat
open Go.RowKit Go.Maps

theorem tr_E {lf : Nat → Nd} (h : ∀ i, lf i = .E) : ∀ n a b, b - a ≤ n → tr lf a b = .E := by
  intro n
  induction n with
  | zero => intro a b hn; exact tr_none lf a b (by omega)
  | succ n ih =>
    intro a b hn
    by_cases h0 : b ≤ a
    · exact tr_none lf a b h0
    by_cases h1 : b < a + 2
    · obtain rfl : b = a + 1 := by omega
      rw [tr_one]; exact h a
    · have p := hf_pos (b - a)
      have q := hf_lt (b - a) (by omega)
      rw [tr_two lf a b (by omega), ih a _ (by omega), ih _ b (by omega)]
      rfl
theorem fv_E {lf : Nat → Nd} (h : ∀ i, lf i = .E) (a : Nat) : ∀ n, fv lf a n = .zero
  | 0 => rfl
  | n + 1 => by
    show tog (fv lf a n) (lf (a + n)).fold = .zero
    rw [fv_E h a n, h]; rfl
theorem tbf_none (i : Nat) : tbf (List.replicate 32 none) i = .E := by
  have e : (List.replicate 32 (none : Option Int)).getD i none = none := by
    rw [List.getD_eq_getElem?_getD, List.getElem?_replicate]; split <;> rfl
  unfold tbf
  rw [e]
/-- What Check tells of an empty table. -/
theorem ck_empty (claim : Fo) : ckE 32 0 32 ((dg (hdText 32 (tr (tbf (List.replicate 32 none)) 0 32)) : Int) / 256) ((dg (hdText 32 (tr (tbf (List.replicate 32 none)) 0 32)) : Int) % 256) claim (readR [0]) = if Fo.zero = claim then 0 else 10 := by
  have hbd : ∀ i, bd 1 (tbf (List.replicate 32 none) i) := fun i => by rw [tbf_none]; exact bd_E 1
  have := ck_honest hbd (tbf_good _) (n := 32) (f := 0) (t := 32) (by omega) (by omega) claim
  rw [fv_E tbf_none] at this
  have e : marks (prN (tbf (List.replicate 32 none)) 32 0 32) = [0] := by
    rw [prN, cov_inZ (by omega) (by omega)]
    simp only [cn, List.map_cons, List.map_nil]
    rw [tr_E tbf_none 32 0 32 (by omega)]
    rfl
  rw [e] at this
  exact this
set_option maxHeartbeats 4000000 in
set_option maxRecDepth 100000 in
theorem takes_any' (w : World) : Calls Tryz.prog 9 #[] w fun e w' => e = .returned (.bool true) ∧ Below w.heap.size w w' := by
  have HC : ∀ (cl : Fo) w', Hid (Calls Tryz.prog 25 #[.int .i64 1, .agg #[.int .i64 32, .int .u8 ((dg (hdText 32 (tr (tbf (List.replicate 32 none)) 0 32)) : Int) / 256), .int .u8 ((dg (hdText 32 (tr (tbf (List.replicate 32 none)) 0 32)) : Int) % 256)], .int .i64 0, .int .i64 32, .agg #[.int .i64 cl.c, .int .i64 cl.s, .int .i64 cl.m, .int .i64 cl.x], .string ⟨#[0]⟩] w' fun e w2 => e = .returned (.int .i64 (if Fo.zero = cl then 0 else 10)) ∧ Below w'.heap.size w' w2) := fun cl w' => hid (by
    have := check_good 1 32 0 32 ((dg (hdText 32 (tr (tbf (List.replicate 32 none)) 0 32)) : Int) / 256) ((dg (hdText 32 (tr (tbf (List.replicate 32 none)) 0 32)) : Int) % 256) cl.c cl.s cl.m cl.x ⟨#[0]⟩ w' (decide_eq_true (.inr ⟨rfl, rfl⟩)) (by omega) (by omega) (by omega) (by decide)
    have e : readR (⟨#[0]⟩ : ByteArray).data.toList = readR [0] := rfl
    rw [e, show (⟨cl.c, cl.s, cl.m, cl.x⟩ : Fo) = cl from rfl, ck_empty cl] at this
    exact this)
  have HC1 := fun w' => HC .zero w'
  have HC2 := fun w' => HC ⟨1, 0, 0, 0⟩ w'
  have e1 : (if Fo.zero = Fo.zero then (0 : Int) else 10) = 0 := if_pos rfl
  have e2 : (if Fo.zero = (⟨1, 0, 0, 0⟩ : Fo) then (0 : Int) else 10) = 10 := by rw [if_neg]; intro c; have := congrArg Fo.c c; simp [Fo.zero] at this
  rw [e1] at HC1
  rw [e2] at HC2
  simp only [Fo.zero] at HC1
  clear e1 e2 HC
  have HHd : ∀ w0 S M w', Hid (PSt w0 w.heap.size S .empty (.slice none 0 0) M → Below w0.heap.size w0 w' → Calls Tryz.prog 17 #[.pointer (some ⟨S, 0, none⟩), .int .i64 1, .int .i64 32] w' fun e w2 => e = .returned (headV 32 (dg (hdText 32 (tr (tbf (List.replicate 32 none)) 0 32)))) ∧ Below w'.heap.size w' w2) := fun w0 S M w' => hid fun h hb => by
    have := sHead_any w' w.heap.size S .empty (.slice none 0 0) M 1 32 (h.below hb)
    rw [hdA, if_neg (by omega), if_pos ⟨rfl, rfl⟩] at this
    exact this
  simp only [headV] at HHd
  generalize (dg (hdText 32 (tr (tbf (List.replicate 32 none)) 0 32)) : Int) / 256 = d0 at HC1 HC2 HHd
  generalize (dg (hdText 32 (tr (tbf (List.replicate 32 none)) 0 32)) : Int) % 256 = d1 at HC1 HC2 HHd
  go_enter Tryz.func9, Tryz.ntmps9
  go_wp2_with fail
  refine (new_any _).mono ?_
  rintro e w1 ⟨S, M, rfl, hP, hb1⟩
  have HP := hid hP
  have HB1 := hid hb1
  have s1 := hb1.size
  clear hP hb1
  go_wp2_with fail
  refine ((HHd w1 S M w1).out HP.out (Below.refl _ _)).mono ?_
  rintro e w2 ⟨rfl, hb2⟩
  have HB2 := hid (HB1.out.trans (hb2.mono s1))
  have s2 := HB2.out.size
  clear hb2 HB1 HHd
  go_wp2_with fail
  obtain ⟨W2, hW2⟩ : ∃ W, W = w2.alloc (.cells #[.int .i64 32, .int .u8 d0, .int .u8 d1] 58) := ⟨_, rfl⟩
  have hh2 : W2.heap[w2.heap.size]? = some (.cells #[.int .i64 32, .int .u8 d0, .int .u8 d1] 58 (0, 0)) := hW2 ▸ heap_one w2 _ _ rfl
  have HW2 : Hid (Below w.heap.size w W2) := hid (hW2 ▸ HB2.out.alloc s2 _)
  have HH2 := hid hh2
  rw [← hW2]
  clear hW2 hh2 HB2
  generalize w2.heap.size = g at HH2 ⊢
  refine (HC1 W2).out.mono ?_
  rintro e w3 ⟨rfl, hb3⟩
  have hl := (Array.getElem?_eq_some_iff.1 HH2.out).1
  have hh3 := (hb3.block g hl).trans HH2.out
  have c0 : w3.cell? ⟨g, 0, none⟩ = some (.int .i64 32) := by rw [cell_of_row w3 _ _ _ _ _ hh3]; rfl
  have c1 : w3.cell? ⟨g, 1, none⟩ = some (.int .u8 d0) := by rw [cell_of_row w3 _ _ _ _ _ hh3]; rfl
  have c2 : w3.cell? ⟨g, 2, none⟩ = some (.int .u8 d1) := by rw [cell_of_row w3 _ _ _ _ _ hh3]; rfl
  have HB3 := hid (HW2.out.trans (hb3.mono HW2.out.size))
  clear hb3 hh3 HC1 HW2 HH2
  go_wp2_with fail
  refine (HC2 w3).out.mono ?_
  rintro e w4 ⟨rfl, hb4⟩
  have HB4 := hid (HB3.out.trans (hb4.mono HB3.out.size))
  clear hb4 HC2 HB3 c0 c1 c2
  go_wp2_with (go_at_call 19; refine (snum_any _ _).mono ?_; rintro e w5 ⟨rfl, hw5⟩; rw [hw5]; clear hw5 w5)
  go_ret
  exact ⟨rfl, HB4.out⟩

end Go.Proofs.YtogmdaopfnmobaaGreat

/- The statements' own helpers for Grows: rows of changes, a copy of a list of numbers. -/
namespace Go.Proofs.YtogmdaopfnmobaaGreat
open Go.RowKit Go.Maps

/-- The changes that append the values of a log. -/
def chCells (x : Int) : List Value := [.int .i64 (-1), .int .i64 x, .bool false]
def chRow (l : List Int) : List Value := l.flatMap chCells
theorem chRow_len (l : List Int) : (chRow l).length = l.length * 3 := by
  induction l with
  | nil => rfl
  | cons x r ih => simp only [chRow, List.flatMap_cons, List.length_append, List.length_cons] at ih ⊢; rw [ih]; simp [chCells]; omega
theorem chRow_get (l : List Int) : ∀ (i j : Nat) (hi : i < l.length) (_ : j < 3), (chRow l)[i * 3 + j]? = (chCells l[i])[j]? := by
  induction l with
  | nil => intro i j hi; simp at hi
  | cons p r ih =>
    intro i j hi hj
    have e : chRow (p :: r) = chCells p ++ chRow r := by simp [chRow]
    have hl : (chCells p).length = 3 := rfl
    rw [e]
    cases i with
    | zero => rw [List.getElem?_append_left (by rw [hl]; omega)]; simp
    | succ i =>
      rw [List.getElem?_append_right (by rw [hl]; omega), hl, show (i + 1) * 3 + j - 3 = i * 3 + j by omega, ih i j (by simpa using hi) hj]
      simp
theorem chRow_append (l : List Int) (x : Int) : chRow (l ++ [x]) = chRow l ++ chCells x := by simp [chRow]
theorem chRow_one (l : List Int) : ∀ u ∈ chRow l, u.oneCell' = true := by
  intro u hu
  obtain ⟨x, _, hx⟩ := List.mem_flatMap.1 hu
  simp [chCells] at hx
  rcases hx with rfl | rfl | rfl <;> rfl
def chOf (x : Int) : Chg := ⟨-1, x, false⟩
/-- A row of changes as filled takes it. -/
theorem chS_own {w : World} {base : Nat} {v : Value} {l : List Int} (h : w.ownsRow base 29 3 v l.length (chRow l)) (hl : l.length ≤ 1048576) : ChS w w.heap.size v (l.map chOf) := by
  rcases h.2 with ⟨rfl, h0⟩ | ⟨g, cap, cur, rfl, _, _, _⟩
  · have : l = [] := List.eq_nil_of_length_eq_zero h0
    subst this
    exact ⟨none, 0, rfl, by simp, fun i hi => by simp at hi⟩
  · refine ⟨some ⟨g, 0, none⟩, cap, by simp, by simp; omega, fun i hi => ?_⟩
    have hi' : i < l.length := by simpa using hi
    have hg : g < w.heap.size := (own_in h g (by simp [ob, Value.ownBlock])).2
    have e0 := h.cellAt (i * 3 + 0) (by omega)
    have e1 := h.cellAt (i * 3 + 1) (by omega)
    have e2 := h.cellAt (i * 3 + 2) (by omega)
    rw [chRow_get l i 0 hi' (by omega)] at e0
    rw [chRow_get l i 1 hi' (by omega)] at e1
    rw [chRow_get l i 2 hi' (by omega)] at e2
    refine ⟨g, 0, rfl, hg, ?_, ?_, ?_⟩
    · simpa [chOf, chCells] using e0
    · simpa [chOf, chCells] using e1
    · simpa [chOf, chCells] using e2
theorem info_chg : (Tryz.prog.info? 29).map (fun i => (i.zero, i.size, i.bytes)) = some (some (.agg #[.int .i64 0, .int .i64 0, .bool false]), 3, 24) := by kernel_rfl

set_option maxRecDepth 100000 in
/-- 'append([]int(nil), old...)'. -/
theorem run_append_ints (w : World) (ty : TypeId) (base : Nat) (ao : Option Addr) (n cap : Nat) (l : List Int) (hv : Cells1 w w.heap.size (.slice ao n cap) (l.map (.int .i64))) (hn : n = l.length) (hlen : l.length ≤ 1048576) (hb : base ≤ w.heap.size) :
    ∃ u w2, (Builtin.append_ #[25, 25] ty #[.slice none 0 0, .slice ao n cap]).run Tryz.prog w = .ok u w2 ∧ w2.ownsRow base 3 1 u n (l.map (.int .i64)) ∧ Grew w (.slice none 0 0) w2 u := by
  obtain ⟨j0, hj, hy0, hy1, hy2⟩ := info_parts info_int
  obtain ⟨ao', cap', e, hc⟩ := hv.ex
  simp only [Value.slice.injEq] at e
  obtain ⟨rfl, _, rfl⟩ := e
  cases ao with
  | none =>
    have hl : l = [] := by
      cases l with
      | nil => rfl
      | cons x r => obtain ⟨b, off, ha, _⟩ := hc 0 (by simp); cases ha
    subst hl
    subst hn
    refine ⟨.slice none 0 0, w, ?_, World.ownsRow_nil _ _ _ _, Grew.refl _ _⟩
    simp [Builtin.append_, run_underlying Tryz.underlying25, sizeOf, typeInfo, hj, Builtin.lenOf, Builtin.firstCells]
  | some a =>
    obtain ⟨v', w', hr, ho, hgr, _⟩ := run_append_grew (P := Tryz.prog) w base 25 ty 3 j0 (.int .i64 0) 1 8 Tryz.underlying25 hj hy0 hy1 hy2 rfl (by decide) (.slice none 0 0) 0 [] (World.ownsRow_nil _ _ _ _) a n cap (l.map (.int .i64)) (by simp [hn]) (fun j u hu => by
        have hj' : j < l.length := by have := (List.getElem?_eq_some_iff.1 hu).1; simpa using this
        obtain ⟨b, off, ha, _, hcs⟩ := hc j (by simpa using hj')
        injection ha with ha
        subst ha
        have e1 : (⟨b, off, none⟩ : Addr).add j = ⟨b, off + j, none⟩ := by unfold Addr.add; split <;> simp_all
        rw [e1, hcs]
        rw [List.getElem?_eq_getElem (by simpa using hj')] at hu
        exact hu) (fun u hu => by obtain ⟨x, _, rfl⟩ := List.mem_map.1 hu; rfl) (by unfold maxLen; omega) (by omega) hb
    simp only [Nat.zero_add, List.nil_append] at ho
    exact ⟨v', w', hr, ho, hgr⟩
set_option maxRecDepth 100000 in
theorem step_append_ints {ops : Array Oper} {o : Oper} {a : Act} {w : World} {K : Act → World → Prop} {Q : Exit → Act → World → Prop} {E : Prop} (hgd : o.guard = none) (s x : Operand)
    (ho : o.op = .call { callee := .builtin .append, args := #[s, x], argTypes := #[25, 25] }) (hs : a.eval s = .slice none 0 0)
    (base : Nat) (ao : Option Addr) (n cap : Nat) (l : List Int) (hx : a.eval x = .slice ao n cap) (hv : Cells1 w w.heap.size (.slice ao n cap) (l.map (.int .i64))) (hn : n = l.length) (hlen : l.length ≤ 1048576) (hb : base ≤ w.heap.size)
    (h : ∀ u w', w'.ownsRow base 3 1 u n (l.map (.int .i64)) → Grew w (.slice none 0 0) w' u → K (a.put o.dst u) w') :
    if Region.wanted o (yielded ops a.tmps) = true then Oper.wp Tryz.prog o a w K Q else E := by
  have hw : Region.wanted o (yielded ops a.tmps) = true := by simp [Region.wanted, hgd]
  rw [if_pos hw]
  obtain ⟨u, w2, hr, h2, h3⟩ := run_append_ints w o.type base ao n cap l hv hn hlen hb
  unfold Oper.wp execOp
  simp only [ho, resolve, invoke, builtin, Sem.run_bind, Sem.run_pure, Result.andThen_ok, List.map_toArray, List.map_cons, List.map_nil, hs, hx, hr]
  exact h u w2 h2 h3

end Go.Proofs.YtogmdaopfnmobaaGreat

