/- The statements' own helpers (notarylaw): filled. -/
import Derived.Test.YtogmdaopfnmobaaP37
import Derived.Test.YtogmdaopfnmobaaP46
import Derived.Test.YtogmdaopfnmobaaP48
import Derived.Test.YtogmdaopfnmobaaP34
namespace Go.Proofs.Ytogmdaopfnmobaa
open Go.RowKit Go.Maps

/-- A change that is handed in: its key, its value, whether it takes out. -/
structure Chg where
  k : Int
  v : Int
  o : Bool
/-- A list of such changes, in memory. -/
structure ChS (w : World) (B : Nat) (v : Value) (l : List Chg) : Prop where
  ex : ∃ ao cap, v = .slice ao l.length cap ∧ l.length ≤ 9223372036854775807 ∧ ∀ i (hi : i < l.length), ∃ b off, ao = some ⟨b, off, none⟩ ∧ b < B ∧ w.cell? ⟨b, off + i * 3, none⟩ = some (.int .i64 l[i].k) ∧ w.cell? ⟨b, off + i * 3 + 1, none⟩ = some (.int .i64 l[i].v) ∧ w.cell? ⟨b, off + i * 3 + 2, none⟩ = some (.bool l[i].o)
theorem ChS.below {w w' : World} {B : Nat} {v : Value} {l : List Chg} (h : ChS w B v l) (hb : Below B w w') : ChS w' B v l := by
  obtain ⟨ao, cap, hv, hm, hc⟩ := h.ex
  refine ⟨ao, cap, hv, hm, fun i hi => ?_⟩
  obtain ⟨b, off, ha, hB, h0, h1, h2⟩ := hc i hi
  exact ⟨b, off, ha, hB, (hb.cell (p := ⟨b, off + i * 3, none⟩) hB).trans h0, (hb.cell (p := ⟨b, off + i * 3 + 1, none⟩) hB).trans h1, (hb.cell (p := ⟨b, off + i * 3 + 2, none⟩) hB).trans h2⟩
theorem ChS.mono {w : World} {B B' : Nat} {v : Value} {l : List Chg} (h : ChS w B v l) (hb : B ≤ B') : ChS w B' v l := by
  obtain ⟨ao, cap, hv, hm, hc⟩ := h.ex
  refine ⟨ao, cap, hv, hm, fun i hi => ?_⟩
  obtain ⟨b, off, ha, hB, h⟩ := hc i hi
  exact ⟨b, off, ha, by omega, h⟩
theorem RSt.ond {w : World} {base R : Nat} {s : Sto} {lv : Value} {K H : Nat} (h : RSt w base R s lv K H) : (rfp R lv K H).Nodup := by
  have hRo : R ∉ ob lv := fun c => blk_row h.hR (by decide) h.hL (mem_ob.1 c).symm
  have hHo : H ∉ ob lv := fun c => blk_row (show w.heap[H]? = _ from h.hH) (by decide) h.hL (mem_ob.1 c).symm
  have hRK : R ≠ K := fun c => by have h1 := h.hR; have h2 := h.hK; unfold Row at h2; rw [c, h2] at h1; simp at h1
  have hRH : R ≠ H := fun c => by have h1 := h.hR; have h2 := h.hH; unfold Row at h2; rw [c, h2] at h1; simp at h1
  have hKH : K ≠ H := fun c => by have h1 := h.hK; have h2 := h.hH; unfold Row at h1 h2; rw [c, h2] at h1; simp at h1
  simp only [rfp, List.nodup_cons, List.mem_cons, not_or]
  exact ⟨⟨hRK, hRH, hRo⟩, ⟨hKH, h.kl⟩, hHo, ob_one _⟩
theorem PSt.lower {w : World} {base base' S : Nat} {s : Sto} {lv : Value} {M : Nat} (h : PSt w base S s lv M) (hb : base' ≤ base) : PSt w base' S s lv M := ⟨h.hS, own_mono' h.hL hb, h.hM, Nat.le_trans hb h.bS, Nat.le_trans hb h.bM, h.ok⟩
theorem RSt.lower {w : World} {base base' R : Nat} {s : Sto} {lv : Value} {K H : Nat} (h : RSt w base R s lv K H) (hb : base' ≤ base) : RSt w base' R s lv K H := ⟨h.hR, own_mono' h.hL hb, h.hK, h.hH, h.kl, Nat.le_trans hb h.bR, Nat.le_trans hb h.bK, Nat.le_trans hb h.bH, h.ok⟩
theorem PSt.ond {w : World} {base S : Nat} {s : Sto} {lv : Value} {M : Nat} (h : PSt w base S s lv M) : (pfp S lv M).Nodup := by
  obtain ⟨a1, a2, a3⟩ := h.apart
  simp only [pfp, List.nodup_cons, List.mem_cons, not_or]
  exact ⟨⟨a3, a1⟩, a2, ob_one _⟩
/-- What both stores' calls leave, one behind the other. -/
def bothPost (R : Nat) (kf : Nat) (args : List Value) (n : Int) (W1 : World) (base : Nat) (p : Pr) (e : Ending) (W2 : World) : Prop :=
  e = .returned (.int .i64 n) ∧ Kept W1 W2 p.blk ∧ Calls Try.prog kf (.pointer (some ⟨R, 0, none⟩) :: args).toArray W2 fun e' W3 => e' = .returned (.int .i64 n) ∧ ∃ p', Done W1 W3 base p p'
theorem both_append (W1 : World) (base : Nat) (p : Pr) (b : Int) (hp : PrOk W1 base p) (hb : base ≤ W1.heap.size) :
    Calls Try.prog 39 #[.pointer (some ⟨p.S, 0, none⟩), .int .i64 b] W1 (bothPost p.R 50 [.int .i64 b] (apE p.s b) W1 base p) := by
  refine (append_any W1 base p.S p.s p.lv p.M b hp.ps hb).mono fun e W2 hc => ?_
  obtain ⟨he, lv', hm⟩ := pair_mid hp hc
  refine ⟨he, hm.kept, ?_⟩
  refine (refAppend_any W2 base p.R p.s p.rl p.K p.H b hm.rs (by have := hm.kept.size; omega)).mono ?_
  intro e' W3 hc'
  obtain ⟨he', p', hd, _⟩ := pair_done hp hm hc'
  exact ⟨he', p', hd⟩
theorem both_set (W1 : World) (base : Nat) (p : Pr) (b c : Int) (hp : PrOk W1 base p) (hwf : (Lit.int .i64 b).wf = true) :
    Calls Try.prog 25 #[.pointer (some ⟨p.S, 0, none⟩), .int .i64 b, .int .i64 c] W1 (bothPost p.R 52 [.int .i64 b, .int .i64 c] (seE p.s b c) W1 base p) := by
  refine (set_any W1 base p.S p.s p.lv p.M b c hwf hp.ps).mono fun e W2 hc' => ?_
  obtain ⟨he, lv', hm⟩ := pair_mid hp hc'
  refine ⟨he, hm.kept, ?_⟩
  refine (refSet_any W2 base p.R p.s p.rl p.K p.H b c hm.rs).mono ?_
  intro e' W3 hc'
  obtain ⟨he', p', hd, _⟩ := pair_done hp hm hc'
  exact ⟨he', p', hd⟩
theorem both_delete (W1 : World) (base : Nat) (p : Pr) (b : Int) (hp : PrOk W1 base p) (hwf : (Lit.int .i64 b).wf = true) :
    Calls Try.prog 23 #[.pointer (some ⟨p.S, 0, none⟩), .int .i64 b] W1 (bothPost p.R 51 [.int .i64 b] (deE p.s b) W1 base p) := by
  refine (delete_any W1 base p.S p.s p.lv p.M b hwf hp.ps).mono fun e W2 hc' => ?_
  obtain ⟨he, lv', hm⟩ := pair_mid hp hc'
  refine ⟨he, hm.kept, ?_⟩
  refine (refDelete_any W2 base p.R p.s p.rl p.K p.H b hm.rs).mono ?_
  intro e' W3 hc'
  obtain ⟨he', p', hd, _⟩ := pair_done hp hm hc'
  exact ⟨he', p', hd⟩
/-- A pair of stores in memory. -/
def PsAt (w : World) (g : Nat) (s r : Option Addr) : Prop := w.heap[g]? = some (.cells #[.pointer s, .pointer r] 68 (0, 0))
theorem PsAt.cells {w : World} {g : Nat} {s r : Option Addr} (h : PsAt w g s r) : (w.cell? ⟨g, 0, none⟩ = some (.pointer s) ∧ w.cell? ⟨g, 1, none⟩ = some (.pointer r)) ∧ ∀ o, w.frozen? ⟨g, o, none⟩ = false := by
  unfold PsAt at h
  refine ⟨⟨?_, ?_⟩, fun o => by simp [World.frozen?, h]⟩ <;> rw [cell_of_row w g _ _ _ _ h] <;> rfl
theorem PsAt.lt {w : World} {g : Nat} {s r : Option Addr} (h : PsAt w g s r) : g < w.heap.size := (Array.getElem?_eq_some_iff.1 h).1
theorem PsAt.below {w w' : World} {B g : Nat} {s r : Option Addr} (h : PsAt w g s r) (hb : Below B w w') (hg : g < B) : PsAt w' g s r := (hb.block g hg).trans h
theorem PsAt.kept {w w' : World} {g : Nat} {s r : Option Addr} {fp : List Nat} (h : PsAt w g s r) (hk : Kept w w' fp) (hn : g ∉ fp) : PsAt w' g s r := (hk.block g h.lt hn).trans h
theorem PsAt.set {w : World} {g : Nat} {s r : Option Addr} (h : PsAt w g s r) (s' r' : Option Addr) : PsAt ((w.setCell ⟨g, 0, none⟩ (.pointer s')).setCell ⟨g, 1, none⟩ (.pointer r')) g s' r' := heap_set (k := 1) (heap_set (k := 0) h _) _
/-- The loop's own things. -/
structure Fil (w wr : World) (S R g : Nat) (p : Pr) : Prop where
  ok : PrOk wr w.heap.size p
  eS : p.S = S
  eR : p.R = R
  pa : PsAt wr g (some ⟨S, 0, none⟩) (some ⟨R, 0, none⟩)
  re : PsAt wr w.heap.size none none
  ng : g ∉ p.blk
  nr : w.heap.size ∉ p.blk
  bg : w.heap.size < g
  be : Below w.heap.size w wr
theorem Fil.next {w wr W1 W3 : World} {S R g : Nat} {p p' : Pr} (h : Fil w wr S R g p) (hb : Below wr.heap.size wr W1) (hd : Done W1 W3 w.heap.size p p') : Fil w W3 S R g p' := by
  have l1 := h.pa.lt
  have l2 := h.re.lt
  have hs := hb.size
  refine ⟨hd.ok, hd.eS.trans h.eS, hd.eR.trans h.eR, (h.pa.below hb l1).kept hd.kept h.ng, (h.re.below hb l2).kept hd.kept h.nr, fun c => ?_, fun c => ?_, h.bg, (h.be.trans (hb.mono h.be.size)).trans (hd.kept.below (by have := h.be.size; omega) (fun k hk => (h.ok.fp k hk).1))⟩
  · rcases hd.new g c with c | c
    · exact h.ng c
    · omega
  · rcases hd.new _ c with c | c
    · exact h.nr c
    · omega

set_option maxHeartbeats 8000000 in
set_option maxRecDepth 100000 in
theorem filled_any (v : Value) (l : List Chg) (w : World) (hl : ChS w w.heap.size v l) (hx : ∀ x ∈ l, (-9223372036854775808 ≤ x.k ∧ x.k ≤ 9223372036854775807) ∧ (-9223372036854775808 ≤ x.v ∧ x.v ≤ 9223372036854775807)) :
    Calls Try.prog 27 #[v] w fun e w' => ∃ p : Pr, e = .returned (.tuple #[.agg #[.pointer (some ⟨p.S, 0, none⟩), .pointer (some ⟨p.R, 0, none⟩)], .bool true]) ∧ PrOk w' w.heap.size p ∧ Below w.heap.size w w' := by
  obtain ⟨ao, cap, rfl, hmax, hcells⟩ := hl.ex
  have HX := hid hx
  clear hl hx
  go_enter Try.func27, Try.ntmps27
  go_wp2_with fail
  refine (new_any _).mono ?_
  rintro e w1 ⟨S, M, rfl, hP, hb1⟩
  have HP := hid hP
  have HB1 := hid hb1
  clear hP hb1
  go_wp2_with fail
  refine (refNew_any _).mono ?_
  rintro e w2 ⟨R, K, H, rfl, hR, hb2⟩
  have hb1 := HB1.out
  have z1 : w.heap.size < w1.heap.size := by have := hb1.size; simp at this; omega
  have z2 := hb2.size
  have h0 : PsAt w2 w.heap.size none none := PsAt.below (PsAt.below (show PsAt _ _ _ _ from heap_one w _ _ rfl) hb1 (by simp)) hb2 z1
  have hok : PrOk w2 w.heap.size ⟨S, M, R, K, H, .empty, .slice none 0 0, .slice none 0 0⟩ := by
    refine ⟨(HP.out.below hb2).lower (by simp), hR.lower (by omega), List.nodup_append.2 ⟨(HP.out).ond, hR.ond, ?_⟩⟩
    intro a ha b hb e
    subst e
    have h1 := (HP.out.fp a ha).2
    have h2 := (hR.fp a hb).1
    omega
  have hnr : ∀ k ∈ Pr.blk ⟨S, M, R, K, H, .empty, .slice none 0 0, .slice none 0 0⟩, w.heap.size < k ∧ k < w2.heap.size := fun k hk => by
    refine ⟨?_, (hok.fp k hk).2⟩
    rcases List.mem_append.1 hk with hk | hk
    · have := (HP.out.fp k hk).1; simp at this; omega
    · have := (hR.fp k hk).1; omega
  obtain ⟨W2, hW2⟩ : ∃ W, W = w2.alloc (.cells #[.pointer (some ⟨S, 0, none⟩), .pointer (some ⟨R, 0, none⟩)] 68) := ⟨_, rfl⟩
  have hBW : Below w2.heap.size w2 W2 := hW2 ▸ (Below.refl _ _).alloc (Nat.le_refl _) _
  have hF : Fil w W2 S R w2.heap.size ⟨S, M, R, K, H, .empty, .slice none 0 0, .slice none 0 0⟩ :=
    ⟨hok.below hBW, rfl, rfl, hW2 ▸ heap_one w2 _ _ rfl, h0.below hBW h0.lt, fun c => by have := hnr _ c; omega, fun c => by have := hnr _ c; omega, by omega, ((((Below.refl _ _).alloc (Nat.le_refl _) _).trans (hb1.mono (by simp))).trans (hb2.mono (by omega))).trans (hBW.mono (by omega))⟩
  have HF := hid hF
  clear hb1 hb2 hR HP HB1 h0 hok hnr hBW hF
  go_wp2_with fail
  rw [← hW2]
  clear hW2
  generalize w2.heap.size = g at HF z2 ⊢
  go_loopw [5] (fun i wr => ∃ k : Nat, k ≤ l.length ∧ i = .int .i64 k ∧ Hid (∃ p, Fil w wr S R g p)) (fun i _ => l.length - (intOf i).toNat)
  case atStart => exact ⟨0, Nat.zero_le _, rfl, hid ⟨_, HF.out⟩⟩
  case round =>
    obtain ⟨k, hk, rfl, HT⟩ := hrel
    obtain ⟨p, hF⟩ := HT.out
    have HF1 := hid hF
    have lg := hF.pa.lt
    have lr := hF.re.lt
    by_cases hlt : k < l.length
    · obtain ⟨b, off, rfl, hbB, hc0, hc1, hc2⟩ := hcells k hlt
      obtain ⟨⟨x1, x2, x3⟩, hxe⟩ : ∃ x, x = l[k] := ⟨_, rfl⟩
      have hxx := HX.out _ (List.getElem_mem hlt)
      rw [← hxe] at hc0 hc1 hc2 hxx
      simp only at hc0 hc1 hc2 hxx
      have d0 := (hF.be.cell (p := ⟨b, off + k * 3, none⟩) hbB).trans hc0
      have d1 := (hF.be.cell (p := ⟨b, off + k * 3 + 1, none⟩) hbB).trans hc1
      have d2 := (hF.be.cell (p := ⟨b, off + k * 3 + 2, none⟩) hbB).trans hc2
      have x1w : (Lit.int .i64 x1).wf = true := by simp [Lit.wf, IntKind.min, IntKind.max, IntKind.signed, IntKind.bits]; omega
      obtain ⟨⟨pc0, pc1⟩, pf⟩ := hF.pa.cells
      obtain ⟨W1, hW1⟩ : ∃ W, W = wr.alloc (.cells #[.int .i64 x1, .int .i64 x2, .bool x3] 109) := ⟨_, rfl⟩
      have hB : Below wr.heap.size wr W1 := hW1 ▸ (Below.refl _ _).alloc (Nat.le_refl _) _
      have hch : W1.heap[wr.heap.size]? = some (.cells #[.int .i64 x1, .int .i64 x2, .bool x3] 109 (0, 0)) := hW1 ▸ heap_one wr _ _ rfl
      have hs1 : W1.heap.size = wr.heap.size + 1 := by rw [hW1]; simp
      have hokW : PrOk W1 w.heap.size p := hF.ok.below hB
      -- what is sure behind the first call
      have HM : Hid (∀ W2, Kept W1 W2 p.blk → (W2.cell? ⟨g, 1, none⟩ = some (.pointer (some ⟨R, 0, none⟩)) ∧ W2.cell? ⟨wr.heap.size, 0, none⟩ = some (.int .i64 x1) ∧ W2.cell? ⟨wr.heap.size, 1, none⟩ = some (.int .i64 x2)) ∧ wr.heap.size < W2.heap.size ∧ g < W2.heap.size) := hid fun W2 hk2 => by
        have e1 := ((HF1.out.pa.below hB lg).kept hk2 HF1.out.ng).cells.1.2
        have hnb : wr.heap.size ∉ p.blk := fun c => by have := (HF1.out.ok.fp _ c).2; omega
        have e2 := (hk2.block wr.heap.size (by omega) hnb).trans hch
        refine ⟨⟨e1, ?_, ?_⟩, by have := hk2.size; omega, by have := hk2.size; omega⟩
        · rw [cell_of_row W2 _ _ _ _ _ e2]; rfl
        · rw [cell_of_row W2 _ _ _ _ _ e2]; rfl
      have HNX : Hid (∀ W3, (∃ p', Done W1 W3 w.heap.size p p') → ∃ p', Fil w W3 S R g p') := hid fun W3 ⟨p', hd⟩ => ⟨p', HF1.out.next hB hd⟩
      have hbase : w.heap.size ≤ W1.heap.size := by have := hF.be.size; omega
      have HA1 := hid (both_append W1 w.heap.size p x2 hokW hbase)
      have HA2 := hid (both_set W1 w.heap.size p x1 x2 hokW x1w)
      have HA3 := hid (both_delete W1 w.heap.size p x1 hokW x1w)
      rw [hF.eS, hF.eR] at HA1 HA2 HA3
      rw [hW1] at HA1 HA2 HA3 HM HNX
      clear hcells hc0 hc1 hc2 hxe hF HT hW1 hB hch hs1 hokW hbase HF
      generalize apE p.s x2 = E1 at HA1
      generalize seE p.s x1 x2 = E2 at HA2
      generalize deE p.s x1 = E3 at HA3
      by_cases hneg : x1 < 0
      · clear HA2 HA3
        go_wp2_with fail
        refine HA1.out.mono ?_
        rintro e W2 ⟨rfl, hk2, hR2⟩
        have HR2 := hid hR2
        obtain ⟨⟨y0, y1, y2⟩, ly, lg2⟩ := HM.out W2 hk2
        clear hk2 hR2 HA1 HM
        go_wp2_with fail
        refine HR2.out.mono ?_
        rintro e W3 ⟨rfl, hd⟩
        have HD := hid (HNX.out W3 hd)
        clear hd HR2 HNX y0 y1 y2
        go_wp2_with (go_at_call 30; refine (snum_any _ _).mono ?_; rintro e w4 ⟨rfl, hw4⟩; rw [hw4]; clear hw4 w4)
        go_roundw
        case rel => exact ⟨k + 1, by omega, by push_cast; rfl, HD⟩
        case measure => simp [intOf]; omega
      · cases x3 with
        | true =>
          clear HA1 HA2
          go_wp2_with fail
          refine HA3.out.mono ?_
          rintro e W2 ⟨rfl, hk2, hR2⟩
          have HR2 := hid hR2
          obtain ⟨⟨y0, y1, y2⟩, ly, lg2⟩ := HM.out W2 hk2
          clear hk2 hR2 HA3 HM
          go_wp2_with fail
          refine HR2.out.mono ?_
          rintro e W3 ⟨rfl, hd⟩
          have HD := hid (HNX.out W3 hd)
          clear hd HR2 HNX y0 y1 y2
          go_wp2_with (go_at_call 30; refine (snum_any _ _).mono ?_; rintro e w4 ⟨rfl, hw4⟩; rw [hw4]; clear hw4 w4)
          go_roundw
          case rel => exact ⟨k + 1, by omega, by push_cast; rfl, HD⟩
          case measure => simp [intOf]; omega
        | false =>
          clear HA1 HA3
          go_wp2_with fail
          refine HA2.out.mono ?_
          rintro e W2 ⟨rfl, hk2, hR2⟩
          have HR2 := hid hR2
          obtain ⟨⟨y0, y1, y2⟩, ly, lg2⟩ := HM.out W2 hk2
          clear hk2 hR2 HA2 HM
          go_wp2_with fail
          refine HR2.out.mono ?_
          rintro e W3 ⟨rfl, hd⟩
          have HD := hid (HNX.out W3 hd)
          clear hd HR2 HNX y0 y1 y2
          go_wp2_with (go_at_call 30; refine (snum_any _ _).mono ?_; rintro e w4 ⟨rfl, hw4⟩; rw [hw4]; clear hw4 w4)
          go_roundw
          case rel => exact ⟨k + 1, by omega, by push_cast; rfl, HD⟩
          case measure => simp [intOf]; omega
    · obtain ⟨⟨pc0, pc1⟩, pf⟩ := hF.pa.cells
      obtain ⟨⟨rc0, rc1⟩, rf'⟩ := hF.re.cells
      have hgw : g ≠ w.heap.size := by have := hF.bg; omega
      clear hcells HT hF HF
      go_wp2
      have hre := (HF1.out.re.set (some ⟨S, 0, none⟩) (some ⟨R, 0, none⟩)).cells.1
      refine bodyPost_ret (v := .tuple #[.agg #[.pointer (some ⟨S, 0, none⟩), .pointer (some ⟨R, 0, none⟩)], .bool true]) (by simp [results, Try.results27, go_sem, hre.1, hre.2]) rfl ⟨p, by rw [HF1.out.eS, HF1.out.eR], ?_, ?_⟩
      · refine HF1.out.ok.frame fun j hj => ?_
        have hne : j ≠ w.heap.size := fun c => HF1.out.nr (c ▸ hj)
        exact (Below.heap_setCell _ _ _ _ hne).trans (Below.heap_setCell _ _ _ _ hne)
      · exact (HF1.out.be.setCell (Nat.le_refl _) _).setCell (Nat.le_refl _) _

end Go.Proofs.Ytogmdaopfnmobaa

/- The statements' own helpers (notarylaw): takes; what Sound's calls tell. -/
namespace Go.Proofs.Ytogmdaopfnmobaa
open Go.RowKit Go.Maps

theorem tr_E {lf : Nat → Nd} (h : ∀ i, lf i = .E) : ∀ n a b, b - a ≤ n → tr lf a b = .E := by
  intro n
  induction n with
  | zero => intro a b hn; exact tr_none lf a b (by omega)
  | succ n ih =>
    intro a b hn
    by_cases h0 : b ≤ a
    · exact tr_none lf a b h0
    by_cases h1 : b < a + 2
    · obtain rfl : b = a + 1 := by omega
      rw [tr_one]; exact h a
    · have p := hf_pos (b - a)
      have q := hf_lt (b - a) (by omega)
      rw [tr_two lf a b (by omega), ih a _ (by omega), ih _ b (by omega)]
      rfl
theorem fv_E {lf : Nat → Nd} (h : ∀ i, lf i = .E) (a : Nat) : ∀ n, fv lf a n = .zero
  | 0 => rfl
  | n + 1 => by
    show tog (fv lf a n) (lf (a + n)).fold = .zero
    rw [fv_E h a n, h]; rfl
theorem tbf_none (i : Nat) : tbf (List.replicate 32 none) i = .E := by
  have e : (List.replicate 32 (none : Option Int)).getD i none = none := by
    rw [List.getD_eq_getElem?_getD, List.getElem?_replicate]; split <;> rfl
  unfold tbf
  rw [e]
/-- What Check tells of an empty table. -/
theorem ck_empty (claim : Fo) : ckE 32 0 32 ((dg (hdText 32 (tr (tbf (List.replicate 32 none)) 0 32)) : Int) / 256) ((dg (hdText 32 (tr (tbf (List.replicate 32 none)) 0 32)) : Int) % 256) claim (readR [0]) = if Fo.zero = claim then 0 else 10 := by
  have hbd : ∀ i, bd 1 (tbf (List.replicate 32 none) i) := fun i => by rw [tbf_none]; exact bd_E 1
  have := ck_honest hbd (tbf_good _) (n := 32) (f := 0) (t := 32) (by omega) (by omega) claim
  rw [fv_E tbf_none] at this
  have e : marks (prN (tbf (List.replicate 32 none)) 32 0 32) = [0] := by
    rw [prN, cov_inZ (by omega) (by omega)]
    simp only [cn, List.map_cons, List.map_nil]
    rw [tr_E tbf_none 32 0 32 (by omega)]
    rfl
  rw [e] at this
  exact this
set_option maxHeartbeats 4000000 in
set_option maxRecDepth 100000 in
theorem takes_any' (w : World) : Calls Try.prog 26 #[] w fun e w' => e = .returned (.bool true) ∧ Below w.heap.size w w' := by
  have HC : ∀ (cl : Fo) w', Hid (Calls Try.prog 18 #[.int .i64 1, .agg #[.int .i64 32, .int .u8 ((dg (hdText 32 (tr (tbf (List.replicate 32 none)) 0 32)) : Int) / 256), .int .u8 ((dg (hdText 32 (tr (tbf (List.replicate 32 none)) 0 32)) : Int) % 256)], .int .i64 0, .int .i64 32, .agg #[.int .i64 cl.c, .int .i64 cl.s, .int .i64 cl.m, .int .i64 cl.x], .string ⟨#[0]⟩] w' fun e w2 => e = .returned (.int .i64 (if Fo.zero = cl then 0 else 10)) ∧ Below w'.heap.size w' w2) := fun cl w' => hid (by
    have := check_good 1 32 0 32 ((dg (hdText 32 (tr (tbf (List.replicate 32 none)) 0 32)) : Int) / 256) ((dg (hdText 32 (tr (tbf (List.replicate 32 none)) 0 32)) : Int) % 256) cl.c cl.s cl.m cl.x ⟨#[0]⟩ w' (decide_eq_true (.inr ⟨rfl, rfl⟩)) (by omega) (by omega) (by omega) (by decide)
    have e : readR (⟨#[0]⟩ : ByteArray).data.toList = readR [0] := rfl
    rw [e, show (⟨cl.c, cl.s, cl.m, cl.x⟩ : Fo) = cl from rfl, ck_empty cl] at this
    exact this)
  have HC1 := fun w' => HC .zero w'
  have HC2 := fun w' => HC ⟨1, 0, 0, 0⟩ w'
  have e1 : (if Fo.zero = Fo.zero then (0 : Int) else 10) = 0 := if_pos rfl
  have e2 : (if Fo.zero = (⟨1, 0, 0, 0⟩ : Fo) then (0 : Int) else 10) = 10 := by rw [if_neg]; intro c; have := congrArg Fo.c c; simp [Fo.zero] at this
  rw [e1] at HC1
  rw [e2] at HC2
  simp only [Fo.zero] at HC1
  clear e1 e2 HC
  have HHd : ∀ w0 S M w', Hid (PSt w0 w.heap.size S .empty (.slice none 0 0) M → Below w0.heap.size w0 w' → Calls Try.prog 15 #[.pointer (some ⟨S, 0, none⟩), .int .i64 1, .int .i64 32] w' fun e w2 => e = .returned (headV 32 (dg (hdText 32 (tr (tbf (List.replicate 32 none)) 0 32)))) ∧ Below w'.heap.size w' w2) := fun w0 S M w' => hid fun h hb => by
    have := sHead_any w' w.heap.size S .empty (.slice none 0 0) M 1 32 (h.below hb)
    rw [hdA, if_neg (by omega), if_pos ⟨rfl, rfl⟩] at this
    exact this
  simp only [headV] at HHd
  generalize (dg (hdText 32 (tr (tbf (List.replicate 32 none)) 0 32)) : Int) / 256 = d0 at HC1 HC2 HHd
  generalize (dg (hdText 32 (tr (tbf (List.replicate 32 none)) 0 32)) : Int) % 256 = d1 at HC1 HC2 HHd
  go_enter Try.func26, Try.ntmps26
  go_wp2_with fail
  refine (new_any _).mono ?_
  rintro e w1 ⟨S, M, rfl, hP, hb1⟩
  have HP := hid hP
  have HB1 := hid hb1
  have s1 := hb1.size
  clear hP hb1
  go_wp2_with fail
  refine ((HHd w1 S M w1).out HP.out (Below.refl _ _)).mono ?_
  rintro e w2 ⟨rfl, hb2⟩
  have HB2 := hid (HB1.out.trans (hb2.mono s1))
  have s2 := HB2.out.size
  clear hb2 HB1 HHd
  go_wp2_with fail
  obtain ⟨W2, hW2⟩ : ∃ W, W = w2.alloc (.cells #[.int .i64 32, .int .u8 d0, .int .u8 d1] 44) := ⟨_, rfl⟩
  have hh2 : W2.heap[w2.heap.size]? = some (.cells #[.int .i64 32, .int .u8 d0, .int .u8 d1] 44 (0, 0)) := hW2 ▸ heap_one w2 _ _ rfl
  have HW2 : Hid (Below w.heap.size w W2) := hid (hW2 ▸ HB2.out.alloc s2 _)
  have HH2 := hid hh2
  rw [← hW2]
  clear hW2 hh2 HB2
  generalize w2.heap.size = g at HH2 ⊢
  refine (HC1 W2).out.mono ?_
  rintro e w3 ⟨rfl, hb3⟩
  have hl := (Array.getElem?_eq_some_iff.1 HH2.out).1
  have hh3 := (hb3.block g hl).trans HH2.out
  have c0 : w3.cell? ⟨g, 0, none⟩ = some (.int .i64 32) := by rw [cell_of_row w3 _ _ _ _ _ hh3]; rfl
  have c1 : w3.cell? ⟨g, 1, none⟩ = some (.int .u8 d0) := by rw [cell_of_row w3 _ _ _ _ _ hh3]; rfl
  have c2 : w3.cell? ⟨g, 2, none⟩ = some (.int .u8 d1) := by rw [cell_of_row w3 _ _ _ _ _ hh3]; rfl
  have HB3 := hid (HW2.out.trans (hb3.mono HW2.out.size))
  clear hb3 hh3 HC1 HW2 HH2
  go_wp2_with fail
  refine (HC2 w3).out.mono ?_
  rintro e w4 ⟨rfl, hb4⟩
  have HB4 := hid (HB3.out.trans (hb4.mono HB3.out.size))
  clear hb4 HC2 HB3 c0 c1 c2
  go_wp2_with (go_at_call 30; refine (snum_any _ _).mono ?_; rintro e w5 ⟨rfl, hw5⟩; rw [hw5]; clear hw5 w5)
  go_ret
  exact ⟨rfl, HB4.out⟩

end Go.Proofs.Ytogmdaopfnmobaa

/- What Sound does. -/
namespace Go.Proofs.Ytogmdaopfnmobaa
open Go.RowKit Go.Maps
attribute [local go_sem ↓] run_eql_fold

/-- What Check and Claims tell, where there is such a tree. -/
def ckR (n : Nat) (f u : Int) (d0 d1 : Int) (claim : Fo) (o : Option (List Nd)) : Int := if rgB f u n then ckE n f.toNat u.toNat d0 d1 claim o else 5
theorem scheck (tree : Int) (n : Nat) (f u d0 d1 c s m x : Int) (p : ByteArray) (hs : p.size ≤ maxLen) (hz : szB tree n = true) :
    (∀ w, Calls Try.prog 18 #[.int .i64 tree, .agg #[.int .i64 n, .int .u8 d0, .int .u8 d1], .int .i64 f, .int .i64 u, .agg #[.int .i64 c, .int .i64 s, .int .i64 m, .int .i64 x], .string p] w fun e w' => e = .returned (.int .i64 (ckR n f u d0 d1 ⟨c, s, m, x⟩ (readR p.data.toList))) ∧ Below w.heap.size w w') ∧
    (∀ w, Calls Try.prog 31 #[.int .i64 tree, .agg #[.int .i64 n, .int .u8 d0, .int .u8 d1], .int .i64 f, .int .i64 u, .agg #[.int .i64 c, .int .i64 s, .int .i64 m, .int .i64 x], .string p] w fun e w' => e = .returned (.int .i64 (ckR n f u d0 d1 ⟨c, s, m, x⟩ (readR p.data.toList))) ∧ Below w.heap.size w w') := by
  have hzz := hz
  simp only [szB, decide_eq_true_eq] at hzz
  unfold ckR
  cases hr : rgB f u n with
  | false =>
    refine ⟨fun w => check_bad tree n f u d0 d1 c s m x p w (.inr hr), fun w => ?_⟩
    have hb : f < 0 ∨ u < f ∨ (n : Int) < u := by
      have := of_decide_eq_false hr
      omega
    rcases hzz with ⟨rfl, h2⟩ | ⟨rfl, h2⟩
    · exact refClaims_range0 n f u d0 d1 c s m x p w h2 hb
    · exact refClaims_range1 n f u d0 d1 c s m x p w h2 hb
  | true =>
    have hrr := of_decide_eq_true hr
    obtain ⟨F, rfl⟩ : ∃ F : Nat, f = F := ⟨f.toNat, by omega⟩
    obtain ⟨T, rfl⟩ : ∃ T : Nat, u = T := ⟨u.toNat, by omega⟩
    simp only [if_true, Int.toNat_natCast]
    refine ⟨fun w => check_good tree n F T d0 d1 c s m x p w hz (by omega) (by omega) (by omega) hs, fun w => ?_⟩
    have hok : ∀ ns, readR p.data.toList = some ns → ∀ d ∈ ns, d.ok = true := fun ns ho => List.all_eq_true.1 (write_read _ _ ho).2.1
    rw [← ckE_clE n F T d0 d1 ⟨c, s, m, x⟩ _ (by omega) hok]
    rcases hzz with ⟨rfl, h2⟩ | ⟨rfl, h2⟩
    · exact refClaims_any0 n F T d0 d1 c s m x p w (by omega) (by omega) (by omega) hs
    · obtain rfl : n = 32 := by omega
      exact refClaims_any1 F T d0 d1 c s m x p w (by omega) (by omega) hs
theorem prC_congr {U V : Nat → Nat → Nd} {f t N : Nat} (h : ∀ a b, a ≤ b → b ≤ N → U a b = V a b) : ∀ (n a b : Nat) (ns : List Nd), b - a ≤ n → a ≤ b → b ≤ N → prC U a b f t ns = prC V a b f t ns := by
  intro n
  induction n with
  | zero => intro a b ns hn _ _; rw [prC_one ns (.inr (.inr (by omega))), prC_one ns (.inr (.inr (by omega)))]
  | succ n ih =>
    intro a b ns hn hab hb
    by_cases hs : isOut a b f t = true ∨ isIn a b f t = true ∨ b < a + 2
    · rw [prC_one ns hs, prC_one ns hs]
    · have p := hf_pos (b - a)
      have q := hf_lt (b - a) (by omega)
      rw [prC_two ns hs, prC_two ns hs, ih a (a + hf (b - a)) ns (by omega) (by omega) (by omega), ih (a + hf (b - a)) b _ (by omega) (by omega) hb, h a (a + hf (b - a)) (by omega) (by omega), h (a + hf (b - a)) b (by omega) hb]
theorem abText_len (x y : Nd) : (abText x y).length ≤ 61 := by
  have := x.bytes_length
  have := y.bytes_length
  unfold abText
  split
  · simp
  · simp; omega
theorem prC_small {U : Nat → Nat → Nd} {f t : Nat} : ∀ (n a b : Nat) (ns : List Nd), b - a ≤ n → ∀ p ∈ prC U a b f t ns, p.1.length ≤ 61 ∧ p.2.length ≤ 61 := by
  intro n
  induction n with
  | zero => intro a b ns hn p hp; rw [prC_one ns (.inr (.inr (by omega)))] at hp; cases hp
  | succ n ih =>
    intro a b ns hn p hp
    by_cases hs : isOut a b f t = true ∨ isIn a b f t = true ∨ b < a + 2
    · rw [prC_one ns hs] at hp; cases hp
    · have p1 := hf_pos (b - a)
      have q1 := hf_lt (b - a) (by omega)
      rw [prC_two ns hs] at hp
      simp only [List.mem_append, List.mem_singleton] at hp
      rcases hp with (h | h) | h
      · exact ih _ _ _ (by omega) p h
      · exact ih _ _ _ (by omega) p h
      · subst h; exact ⟨abText_len _ _, abText_len _ _⟩

set_option maxHeartbeats 8000000 in
set_option maxRecDepth 100000 in
theorem sound_any (v : Value) (l : List Chg) (t f u c s m x : Int) (pf : ByteArray) (w : World) (hl : ChS w w.heap.size v l) (hx : ∀ x ∈ l, (-9223372036854775808 ≤ x.k ∧ x.k ≤ 9223372036854775807) ∧ (-9223372036854775808 ≤ x.v ∧ x.v ≤ 9223372036854775807)) (hpf : pf.size ≤ maxLen) :
    Calls Try.prog 7 #[v, .int .i64 t, .int .i64 f, .int .i64 u, .agg #[.int .i64 c, .int .i64 s, .int .i64 m, .int .i64 x], .string pf] w fun e w' => e = .returned (.bool true) ∧ Below w.heap.size w w' := by
  have HFl : ∀ w', Hid (Below w.heap.size w w' → Calls Try.prog 27 #[v] w' _) := fun w' => hid fun hb => filled_any v l w' ((hl.below hb).mono hb.size) hx
  clear hl hx
  go_enter Try.func7, Try.ntmps7
  go_wp2_with fail
  refine (takes_any' _).mono ?_
  rintro e w1 ⟨rfl, hb1⟩
  have hB1 : Below w.heap.size w w1 := ((Below.refl _ _).alloc (Nat.le_refl _) _).trans (hb1.mono (by simp))
  have hf1 : FoAt w1 w.heap.size ⟨c, s, m, x⟩ := (FoAt.at w _ rfl ⟨c, s, m, x⟩).below hb1 (by simp)
  go_wp2_with fail
  refine ((HFl w1).out hB1).mono ?_
  rintro e w2 ⟨p, rfl, hok, hb2⟩
  have s1 := hB1.size
  have hf1l := hf1.lt
  have hf2 := hf1.below hb2 hf1l
  have hB2 : Below w.heap.size w w2 := hB1.trans (hb2.mono s1)
  obtain ⟨W2, hW2⟩ : ∃ W, W = w2.alloc (.cells #[.pointer (some ⟨p.S, 0, none⟩), .pointer (some ⟨p.R, 0, none⟩)] 68) := ⟨_, rfl⟩
  have hBW : Below w2.heap.size w2 W2 := hW2 ▸ (Below.refl _ _).alloc (Nat.le_refl _) _
  have hps : PsAt W2 w2.heap.size (some ⟨p.S, 0, none⟩) (some ⟨p.R, 0, none⟩) := hW2 ▸ heap_one w2 _ _ rfl
  have hfW : FoAt W2 w.heap.size ⟨c, s, m, x⟩ := hf2.below hBW hf2.lt
  have hokW := hok.below hBW
  have s2 : w.heap.size ≤ W2.heap.size := by have := hBW.size; have := hb2.size; omega
  have HCC : Hid (∀ w', Below W2.heap.size W2 w' → ((w'.cell? ⟨w2.heap.size, 0, none⟩ = some (.pointer (some ⟨p.S, 0, none⟩)) ∧ w'.cell? ⟨w2.heap.size, 1, none⟩ = some (.pointer (some ⟨p.R, 0, none⟩))) ∧ (w'.cell? ⟨w.heap.size, 0, none⟩ = some (.int .i64 c) ∧ w'.cell? ⟨w.heap.size, 1, none⟩ = some (.int .i64 s) ∧ w'.cell? ⟨w.heap.size, 2, none⟩ = some (.int .i64 m) ∧ w'.cell? ⟨w.heap.size, 3, none⟩ = some (.int .i64 x)) ∧ (w2.heap.size < w'.heap.size ∧ w.heap.size < w'.heap.size)) ∧ PrOk w' w1.heap.size p ∧ Below w.heap.size w w') := hid fun w' hb =>
    ⟨⟨(hps.below hb hps.lt).cells.1, (hfW.below hb hfW.lt).cells.1, by have := hb.size; have := hps.lt; have := hfW.lt; omega⟩, hokW.below hb, (hB2.trans (hBW.mono (by have := hb2.size; omega))).trans (hb.mono s2)⟩
  clear hb1 hB1 hf1 hb2 hB2 hf2 hBW hps hfW hok s1 hf1l HFl
  obtain ⟨cs, _⟩ := HCC.out W2 (Below.refl _ _)
  have HSz : Hid (Calls Try.prog 28 #[.pointer (some ⟨p.R, 0, none⟩), .int .i64 t] W2 _) := hid (refSize_any W2 w1.heap.size p.R p.s p.rl p.K p.H t hokW.rs)
  clear hokW
  go_wp2_with fail
  rw [← hW2]
  clear hW2
  generalize w2.heap.size = g2 at HCC cs ⊢
  refine HSz.out.mono ?_
  rintro e w3 ⟨rfl, hw3⟩
  rw [hw3]
  clear hw3 HSz
  by_cases h01 : t = 0 ∨ t = 1
  · obtain ⟨n, lf', tb, vs, hs, hsz, hn, hvl, hlf, hgd, hcong, hz, hHd, hLk, hTr⟩ : ∃ (n : Nat) (lf' : Nat → Nd) (tb : Bool) (vs : List Int) (hs : List Bool), (if t = 0 then (p.s.l.length : Int) else 32) = n ∧ n ≤ 64 ∧ vs.length = n ∧ (∀ i, bd 1 (lf' i)) ∧ (∀ i, (lf' i).fold.good) ∧ (∀ i, i < n → lf tb vs hs i = lf' i) ∧ szB t n = true ∧
        (∀ w', Below W2.heap.size W2 w' → Calls Try.prog 15 #[.pointer (some ⟨p.S, 0, none⟩), .int .i64 t, .int .i64 n] w' fun e w2 => e = .returned (headV n (dg (hdText n (tr lf' 0 n)))) ∧ Below w'.heap.size w' w2) ∧
        (∀ w', Below W2.heap.size W2 w' → Calls Try.prog 40 #[.pointer (some ⟨p.S, 0, none⟩), .int .i64 t] w' (lookPost n lf' w')) ∧
        (∀ w', Below W2.heap.size W2 w' → Calls Try.prog 32 #[.pointer (some ⟨p.R, 0, none⟩), .int .i64 t, .int .i64 n] w' (treePost tb vs hs w')) := by
      have hpk := (HCC.out W2 (Below.refl _ _)).2.1
      have hso := hpk.ps.ok
      rcases h01 with rfl | rfl
      · refine ⟨p.s.l.length, lgf p.s.l, false, p.s.l.take p.s.l.length, List.replicate p.s.l.length true, if_pos rfl, hso.len, by simp, lgf_bd hso.val, lgf_good _, fun i hi => lgf_lf hi, decide_eq_true (.inl ⟨rfl, by omega, by have := hso.len; omega⟩), fun w' hb => ?_, fun w' hb => look_log w' _ p.S p.s p.lv p.M (hpk.ps.below hb), fun w' hb => refTree_log w' _ p.R p.s p.rl p.K p.H _ (hpk.rs.below hb) (Nat.le_refl _)⟩
        have := sHead_any w' w1.heap.size p.S p.s p.lv p.M 0 p.s.l.length (hpk.ps.below hb)
        rw [hdA, if_pos ⟨rfl, by omega, by omega⟩, Int.toNat_natCast] at this
        exact this
      · refine ⟨32, tbf p.s.t, true, tv p.s.t, tx p.s.t, if_neg (by decide), by decide, by simp [tv, hso.tlen], tbf_bd hso.tval, tbf_good _, fun i _ => tbf_lf i, decide_eq_true (.inr ⟨rfl, rfl⟩), fun w' hb => ?_, fun w' hb => look_tab w' _ p.S p.s p.lv p.M (hpk.ps.below hb), fun w' hb => refTree_tab w' _ p.R p.s p.rl p.K p.H (hpk.rs.below hb)⟩
        have := sHead_any w' w1.heap.size p.S p.s p.lv p.M 1 32 (hpk.ps.below hb)
        rw [hdA, if_neg (by omega), if_pos ⟨rfl, rfl⟩] at this
        exact this
    rw [hsz]
    clear hsz
    have hck := scheck t n f u ((dg (hdText n (tr lf' 0 n)) : Int) / 256) ((dg (hdText n (tr lf' 0 n)) : Int) % 256) c s m x pf hpf hz
    obtain ⟨E, hE⟩ : ∃ E, E = ckR n f u ((dg (hdText n (tr lf' 0 n)) : Int) / 256) ((dg (hdText n (tr lf' 0 n)) : Int) % 256) ⟨c, s, m, x⟩ (readR pf.data.toList) := ⟨_, rfl⟩
    rw [← hE] at hck
    have hexg := fun (R : Option (List UInt8 × List UInt8)) (X : Int) hR => fun w' (hb : Below W2.heap.size W2 w') => extract_gen w' p.S t n lf' hlf hgd hn (fun w'' hb' => hLk w'' (hb.trans (hb'.mono hb.size))) f u c s m x pf hpf E R X hck.1 hR
    have HHd : ∀ w', Hid (Below W2.heap.size W2 w' → Calls Try.prog 15 #[.pointer (some ⟨p.S, 0, none⟩), .int .i64 t, .int .i64 n] w' _) := fun w' => hid (hHd w')
    have HCk : ∀ w', Hid _ := fun w' => hid (hck.1 w')
    have HCm : ∀ w', Hid _ := fun w' => hid (hck.2 w')
    clear hHd hLk hck
    simp only [headV] at HHd
    by_cases hE0 : E = 0
    case neg =>
      have HEx : ∀ w', Hid (Below W2.heap.size W2 w' → Calls Try.prog 29 #[.pointer (some ⟨p.S, 0, none⟩), .int .i64 t, .int .i64 f, .int .i64 u, .agg #[.int .i64 c, .int .i64 s, .int .i64 m, .int .i64 x], .string pf] w' fun e w2 => e = .returned (exV none E) ∧ Below w'.heap.size w' w2) := fun w' => hid (hexg none E (.inl ⟨hE0, rfl, rfl⟩) w')
      have hEb : (E == 0) = false := by simpa using hE0
      clear hexg hlf hgd hcong hTr hE hz
      generalize (dg (hdText n (tr lf' 0 n)) : Int) / 256 = d0 at HHd HCk HCm
      generalize (dg (hdText n (tr lf' 0 n)) : Int) % 256 = d1 at HHd HCk HCm
      go_wp2_with fail
      refine (HHd W2).out (Below.refl _ _) |>.mono ?_
      rintro e w4 ⟨rfl, hb4⟩
      have HB4 := hid hb4
      have s4 := hb4.size
      obtain ⟨⟨c1, c2, c3⟩, _⟩ := HCC.out w4 hb4
      clear hb4 cs
      go_wp2_with fail
      obtain ⟨W4, hW4⟩ : ∃ W, W = w4.alloc (.cells #[.int .i64 (n : Int), .int .u8 d0, .int .u8 d1] 44) := ⟨_, rfl⟩
      have hbW4 : Below W2.heap.size W2 W4 := hW4 ▸ HB4.out.alloc s4 _
      have HW4 := hid hbW4
      have HH4 : Hid (W4.heap[w4.heap.size]? = some (.cells #[.int .i64 (n : Int), .int .u8 d0, .int .u8 d1] 44 (0, 0)) ∧ W2.heap.size ≤ w4.heap.size) := hid (hW4 ▸ ⟨heap_one w4 _ _ rfl, s4⟩)
      rw [← hW4]
      clear hW4 HB4 c1 c2 c3 hbW4
      generalize w4.heap.size = gh at HH4 ⊢
      refine (HEx W4).out HW4.out |>.mono ?_
      rintro e w5 ⟨rfl, hb5⟩
      have HCH : Hid (∀ w', Below w5.heap.size w5 w' → ((w'.cell? ⟨gh, 0, none⟩ = some (.int .i64 (n : Int)) ∧ w'.cell? ⟨gh, 1, none⟩ = some (.int .u8 d0) ∧ w'.cell? ⟨gh, 2, none⟩ = some (.int .u8 d1)) ∧ gh < w'.heap.size) ∧ Below W2.heap.size W2 w') := hid fun w' hb => by
        have hbb : Below W4.heap.size W4 w' := hb5.trans (hb.mono hb5.size)
        have hl4 := (Array.getElem?_eq_some_iff.1 HH4.out.1).1
        have hh := (hbb.block gh hl4).trans HH4.out.1
        refine ⟨⟨⟨?_, ?_, ?_⟩, (Array.getElem?_eq_some_iff.1 hh).1⟩, HW4.out.trans (hbb.mono HW4.out.size)⟩ <;> (rw [cell_of_row w' _ _ _ _ _ hh]; rfl)
      obtain ⟨k1, hB5⟩ := HCH.out w5 (Below.refl _ _)
      obtain ⟨⟨c1, c2, c3⟩, _⟩ := HCC.out w5 hB5
      clear hb5 HW4 HH4 HEx HHd
      simp only [exV]
      go_wp2_with (go_at_call 30; refine (snum_any _ _).mono ?_; rintro e w6 ⟨rfl, hw6⟩; rw [hw6]; clear hw6 w6)
      refine (HCk w5).out.mono ?_
      rintro e w6 ⟨rfl, hb6⟩
      obtain ⟨k6, hB6⟩ := HCH.out w6 hb6
      obtain ⟨⟨e1, e2, e3⟩, _⟩ := HCC.out w6 hB6
      have HB6 := hid hb6
      have s6 := hb6.size
      clear hb6 HCk k1 c1 c2 c3 hB5
      go_wp2_with fail
      refine (HCm w6).out.mono ?_
      rintro e w7 ⟨rfl, hb7⟩
      have hb57 : Below w5.heap.size w5 w7 := HB6.out.trans (hb7.mono s6)
      have HB7 : Hid (Below W2.heap.size W2 w7) := hid (HCH.out w7 hb57).2
      have s7 := HB7.out.size
      obtain ⟨⟨c1, c2, c3⟩, _⟩ := HCC.out w7 HB7.out
      clear hb7 hb57 HCm HB6 HCH k6 e1 e2 e3 hB6
      have HBf := hid (HCC.out w7 HB7.out).2.2
      clear c1 c2 c3 HCC HB7
      go_wp2_with (go_at_call 30; refine (snum_any _ _).mono ?_; rintro e w8 ⟨rfl, hw8⟩; rw [hw8]; clear hw8 w8)
      go_ret
      exact ⟨rfl, HBf.out⟩
    case pos =>
      subst hE0
      have hrg : rgB f u n = true := by
        cases h : rgB f u n with
        | true => rfl
        | false => rw [ckR, h] at hE; simp at hE
      have hrr := of_decide_eq_true hrg
      obtain ⟨F, rfl⟩ : ∃ F : Nat, f = F := ⟨f.toNat, by omega⟩
      obtain ⟨T, rfl⟩ : ∃ T : Nat, u = T := ⟨u.toNat, by omega⟩
      rw [ckR, hrg] at hE
      simp only [if_true, Int.toNat_natCast] at hE
      obtain ⟨ns, hns⟩ : ∃ ns, readR pf.data.toList = some ns := by
        cases h : readR pf.data.toList with
        | none => rw [h] at hE; simp [ckE] at hE
        | some ns => exact ⟨ns, rfl⟩
      have hrt : rtE n F T (readR pf.data.toList) = 0 := Decidable.byContradiction fun c' => by
        have := ckE_rt (h0 := (dg (hdText n (tr lf' 0 n)) : Int) / 256) (h1 := (dg (hdText n (tr lf' 0 n)) : Int) % 256) (claim := ⟨c, s, m, x⟩) c'
        rw [← hE] at this
        exact c' this.symm
      have hok : ∀ d ∈ ns, d.ok = true := fun d hd => List.all_eq_true.1 (write_read _ _ hns).2.1 d hd
      have HTr : ∀ w', Hid (Below W2.heap.size W2 w' → Calls Try.prog 32 #[.pointer (some ⟨p.R, 0, none⟩), .int .i64 t, .int .i64 n] w' (treePost tb vs hs w')) := fun w' => hid (hTr w')
      have HFo : ∀ w' vv hv, Hid (TreeIn w' w'.heap.size vv hv vs hs → Calls Try.prog 33 #[.agg #[.bool tb, vv, hv], .int .i64 F, .int .i64 T] w' fun e w2 => e = .returned (foV (fv lf' F (T - F))) ∧ Below w'.heap.size w' w2) := fun w' vv hv => hid fun hT => by
        have := refFold_any tb vv hv vs hs F T w' hT (by omega) (by omega)
        rw [fv_congr F (T - F) (fun i hi => hcong (F + i) (by omega))] at this
        exact this
      by_cases hfv : fv lf' F (T - F) = ⟨c, s, m, x⟩
      · have HEx : ∀ w', Hid (Below W2.heap.size W2 w' → Calls Try.prog 29 #[.pointer (some ⟨p.S, 0, none⟩), .int .i64 t, .int .i64 F, .int .i64 T, .agg #[.int .i64 c, .int .i64 s, .int .i64 m, .int .i64 x], .string pf] w' fun e w2 => e = .returned (exV none 11) ∧ Below w'.heap.size w' w2) := fun w' => hid (hexg none 11 (.inr ⟨rfl, F, T, ns, rfl, rfl, by omega, by omega, hns, hrt, .inl ⟨hfv, rfl, rfl⟩⟩) w')
        rw [hfv] at HFo
        simp only [foV] at HFo
        have hdc : decide (c = c ∧ s = s ∧ m = m ∧ x = x) = true := by simp
        have HTy : Hid (vs.length = n) := hid hvl
        clear hexg hlf hgd hcong hTr hE hz hfv hrt hok hns hvl
        generalize (dg (hdText n (tr lf' 0 n)) : Int) / 256 = d0 at HHd HCk HCm
        generalize (dg (hdText n (tr lf' 0 n)) : Int) % 256 = d1 at HHd HCk HCm
        go_wp2_with fail
        refine (HHd W2).out (Below.refl _ _) |>.mono ?_
        rintro e w4 ⟨rfl, hb4⟩
        have HB4 := hid hb4
        have s4 := hb4.size
        obtain ⟨⟨c1, c2, c3⟩, _⟩ := HCC.out w4 hb4
        clear hb4 cs
        go_wp2_with fail
        obtain ⟨W4, hW4⟩ : ∃ W, W = w4.alloc (.cells #[.int .i64 (n : Int), .int .u8 d0, .int .u8 d1] 44) := ⟨_, rfl⟩
        have hbW4 : Below W2.heap.size W2 W4 := hW4 ▸ HB4.out.alloc s4 _
        have HW4 := hid hbW4
        have HH4 : Hid (W4.heap[w4.heap.size]? = some (.cells #[.int .i64 (n : Int), .int .u8 d0, .int .u8 d1] 44 (0, 0)) ∧ W2.heap.size ≤ w4.heap.size) := hid (hW4 ▸ ⟨heap_one w4 _ _ rfl, s4⟩)
        rw [← hW4]
        clear hW4 HB4 c1 c2 c3 hbW4
        generalize w4.heap.size = gh at HH4 ⊢
        refine (HEx W4).out HW4.out |>.mono ?_
        rintro e w5 ⟨rfl, hb5⟩
        have HCH : Hid (∀ w', Below w5.heap.size w5 w' → ((w'.cell? ⟨gh, 0, none⟩ = some (.int .i64 (n : Int)) ∧ w'.cell? ⟨gh, 1, none⟩ = some (.int .u8 d0) ∧ w'.cell? ⟨gh, 2, none⟩ = some (.int .u8 d1)) ∧ gh < w'.heap.size) ∧ Below W2.heap.size W2 w') := hid fun w' hb => by
          have hbb : Below W4.heap.size W4 w' := hb5.trans (hb.mono hb5.size)
          have hl4 := (Array.getElem?_eq_some_iff.1 HH4.out.1).1
          have hh := (hbb.block gh hl4).trans HH4.out.1
          refine ⟨⟨⟨?_, ?_, ?_⟩, (Array.getElem?_eq_some_iff.1 hh).1⟩, HW4.out.trans (hbb.mono HW4.out.size)⟩ <;> (rw [cell_of_row w' _ _ _ _ _ hh]; rfl)
        obtain ⟨k1, hB5⟩ := HCH.out w5 (Below.refl _ _)
        obtain ⟨⟨c1, c2, c3⟩, _⟩ := HCC.out w5 hB5
        clear hb5 HW4 HH4 HEx HHd
        simp only [exV]
        go_wp2_with (go_at_call 30; refine (snum_any _ _).mono ?_; rintro e w6 ⟨rfl, hw6⟩; rw [hw6]; clear hw6 w6)
        refine (HCk w5).out.mono ?_
        rintro e w6 ⟨rfl, hb6⟩
        obtain ⟨k6, hB6⟩ := HCH.out w6 hb6
        obtain ⟨⟨e1, e2, e3⟩, _⟩ := HCC.out w6 hB6
        have HB6 := hid hb6
        have s6 := hb6.size
        clear hb6 HCk k1 c1 c2 c3 hB5
        go_wp2_with fail
        refine (HCm w6).out.mono ?_
        rintro e w7 ⟨rfl, hb7⟩
        have hb57 : Below w5.heap.size w5 w7 := HB6.out.trans (hb7.mono s6)
        have HB7 : Hid (Below W2.heap.size W2 w7) := hid (HCH.out w7 hb57).2
        have s7 := HB7.out.size
        obtain ⟨⟨c1, c2, c3⟩, _⟩ := HCC.out w7 HB7.out
        clear hb7 hb57 HCm HB6 HCH k6 e1 e2 e3 hB6
        have hz7 := HTy
        go_wp2_with (go_at_call 30; refine (snum_any _ _).mono ?_; rintro e w8 ⟨rfl, hw8⟩; rw [hw8]; clear hw8 w8)
        refine ((HTr w7).out HB7.out).mono ?_
        rintro e w8 ⟨a1, q1, a2, n2, q2, rfl, hT8, hb8⟩
        have HB8 := hid (HB7.out.trans (hb8.mono s7))
        have s8 := HB8.out.size
        obtain ⟨W8, hW8⟩ : ∃ W, W = w8.alloc (.cells #[.bool tb, .slice a1 vs.length q1, .slice a2 n2 q2] 76) := ⟨_, rfl⟩
        have hbW8 : Below w8.heap.size w8 W8 := hW8 ▸ (Below.refl _ _).alloc (Nat.le_refl _) _
        have HH8 : Hid (TreeIn W8 W8.heap.size (.slice a1 vs.length q1) (.slice a2 n2 q2) vs hs ∧ Below W2.heap.size W2 W8) := hid ⟨(hT8.below hbW8).mono hbW8.size, HB8.out.trans (hbW8.mono s8)⟩
        clear hb8 hT8 HTr c1 c2 c3 hbW8 hz7
        go_wp2_with fail
        rw [← hW8]
        clear hW8 HB8
        refine ((HFo W8 _ _).out HH8.out.1).mono ?_
        rintro e w9 ⟨rfl, hb9⟩
        have HB9 : Hid (Below W2.heap.size W2 w9) := hid (HH8.out.2.trans (hb9.mono HH8.out.2.size))
        have s9 := HB9.out.size
        obtain ⟨⟨c1, c2, c3⟩, _⟩ := HCC.out w9 HB9.out
        clear hb9 HFo HH8
        go_wp2_with fail
        obtain ⟨W9, hW9⟩ : ∃ W, W = w9.alloc (.cells #[.int .i64 c, .int .i64 s, .int .i64 m, .int .i64 x] 29) := ⟨_, rfl⟩
        have HBW9 : Hid (Below W2.heap.size W2 W9) := hid (hW9 ▸ HB9.out.alloc s9 _)
        rw [← hW9]
        clear hW9 HB9
        refine (clash_err 11 W9 (by decide) (.slice none 0 0)).mono ?_
        rintro e w10 ⟨rfl, hb10⟩
        have HBf : Hid (Below w.heap.size w w10) := hid (HCC.out w10 (HBW9.out.trans (hb10.mono HBW9.out.size))).2.2
        clear hb10 HCC HBW9 c1 c2 c3
        go_wp2
        go_ret
        exact ⟨rfl, HBf.out⟩
      · obtain ⟨⟨hl1, hcok⟩, P, Q, hcls, hPQ, hdPQ, hmem⟩ := sound_math hlf hgd hn (by omega : T ≤ n) (claim := ⟨c, s, m, x⟩) hok (by rw [← hns]; exact hE.symm) hfv
        have HEx : ∀ w', Hid (Below W2.heap.size W2 w' → Calls Try.prog 29 #[.pointer (some ⟨p.S, 0, none⟩), .int .i64 t, .int .i64 F, .int .i64 T, .agg #[.int .i64 c, .int .i64 s, .int .i64 m, .int .i64 x], .string pf] w' fun e w2 => e = .returned (exV (some (P, Q)) 0) ∧ Below w'.heap.size w' w2) := fun w' => hid (hexg (some (P, Q)) 0 (.inr ⟨rfl, F, T, ns, rfl, rfl, by omega, by omega, hns, hrt, .inr ⟨hfv, hcls.symm, rfl⟩⟩) w')
        have htU : ∀ a b, a ≤ b → b ≤ n → tr lf' a b = tr (lf tb vs hs) a b := fun a b _ hb => tr_congr (b - a) a b (Nat.le_refl _) (fun i _ hi => (hcong i (by omega)).symm)
        have HPr : ∀ w' ao cp a1 q1 hv, Hid (Nodes w' w'.heap.size (.slice ao ns.length cp) ns → ns.length ≤ cp → cp ≤ 9223372036854775807 → TreeIn w' w'.heap.size (.slice a1 vs.length q1) hv vs hs → Calls Try.prog 36 #[.slice ao ns.length cp, .agg #[.bool tb, .slice a1 vs.length q1, hv], .int .i64 F, .int .i64 T] w' fun e w2 => ∃ g cap L, e = .returned (.slice (some ⟨g, 0, none⟩) L.length cap) ∧ w2.ownsRow w'.heap.size 123 2 (.slice (some ⟨g, 0, none⟩) L.length cap) L.length (prRow L) ∧ L.length ≤ 1000 ∧ (P, Q) ∈ L ∧ Below w'.heap.size w' w2) := fun w' ao cp a1 q1 hv => hid fun hN h1 h2 hT => by
          have := refPairs_any tb a1 q1 hv vs hs F T ao cp ns w' hN h1 h2 hok hT (by omega) (by omega) (by rw [hvl]; omega) (by rw [hvl]; exact hcok)
          refine this.mono ?_
          rintro e w2 ⟨pv, he, ho, hb⟩
          rw [hvl, ← htU 0 n (by omega) (Nat.le_refl _), ← prC_congr htU n 0 n ns (by omega) (by omega) (Nat.le_refl _)] at ho
          have hpl := prC_len (U := tr lf') (f := F) (t := T) n 0 n ns (by omega)
          have hLl : (prC (tr lf') 0 n F T ns ++ [(hdText n (cm 0 n F T ns), hdText n (tr lf' 0 n))]).length ≤ 1000 := by simp; omega
          generalize prC (tr lf') 0 n F T ns ++ [(hdText n (cm 0 n F T ns), hdText n (tr lf' 0 n))] = L at ho hmem hLl
          rcases ho.2 with ⟨rfl, h0⟩ | ⟨g, cap, cur, rfl, _⟩
          · exact absurd hmem (by rw [List.eq_nil_of_length_eq_zero h0]; simp)
          · exact ⟨g, cap, L, he, ho, hLl, hmem, hb⟩
        have hPl : P.length ≤ 1000 ∧ Q.length ≤ 1000 := by
          rcases List.mem_append.1 hmem with h | h
          · have := prC_small n 0 n ns (by omega) _ h; simp only at this; omega
          · simp only [List.mem_singleton, Prod.mk.injEq] at h
            have h1 := hdText_length n (cm 0 n F T ns)
            have h2 := hdText_length n (tr lf' 0 n)
            rw [← h.1] at h1
            rw [← h.2] at h2
            omega
        have HCs : ∀ w' L base g cap, Hid (w'.ownsRow base 123 2 (.slice (some ⟨g, 0, none⟩) L.length cap) L.length (prRow L) → L.length ≤ 1000 → (P, Q) ∈ L → Calls Try.prog 34 #[.string ⟨P.toArray⟩, .string ⟨Q.toArray⟩, .int .i64 0, .int .i64 0, .slice (some ⟨g, 0, none⟩) L.length cap] w' _) := fun w' L base g cap => hid fun h1 h2 h3 => clash_ok P Q L base g cap w' h1 h2 hPQ hdPQ h3 hPl.1 hPl.2
        have HRd : ∀ w', Hid (Calls Try.prog 35 #[.string pf] w' fun e w2 => ∃ ao cp, e = .returned (.tuple #[.slice ao ns.length cp, .int .i64 0]) ∧ Nodes w2 w2.heap.size (.slice ao ns.length cp) ns ∧ ns.length ≤ cp ∧ cp ≤ 9223372036854775807 ∧ Below w'.heap.size w' w2) := fun w' => hid (by
          have := refRead_any pf w' hpf
          rw [hns] at this
          refine this.mono ?_
          rintro e w2 ⟨v, he, ho, hb⟩
          obtain ⟨ao, cp, rfl, h1, h2⟩ := own_shape2 ho
          exact ⟨ao, cp, he, Nodes.own ho (by have := (cov_len F T n 0 n (by omega)).2; omega), h1, h2, hb⟩)
        generalize fv lf' F (T - F) = fw at HFo hfv
        obtain ⟨f0, f1, f2, f3⟩ := fw
        simp only [foV] at HFo
        have hdc : decide (f0 = c ∧ f1 = s ∧ f2 = m ∧ f3 = x) = false := decide_eq_false fun h => hfv (by rw [h.1, h.2.1, h.2.2.1, h.2.2.2])
        have HTy : Hid (vs.length = n) := hid hvl
        clear hexg hlf hgd hcong hTr hE hz hfv hrt hok hns hcls hPQ hdPQ hmem hPl htU hcok hl1 hvl
        generalize (dg (hdText n (tr lf' 0 n)) : Int) / 256 = d0 at HHd HCk HCm
        generalize (dg (hdText n (tr lf' 0 n)) : Int) % 256 = d1 at HHd HCk HCm
        go_wp2_with fail
        refine (HHd W2).out (Below.refl _ _) |>.mono ?_
        rintro e w4 ⟨rfl, hb4⟩
        have HB4 := hid hb4
        have s4 := hb4.size
        obtain ⟨⟨c1, c2, c3⟩, _⟩ := HCC.out w4 hb4
        clear hb4 cs
        go_wp2_with fail
        obtain ⟨W4, hW4⟩ : ∃ W, W = w4.alloc (.cells #[.int .i64 (n : Int), .int .u8 d0, .int .u8 d1] 44) := ⟨_, rfl⟩
        have hbW4 : Below W2.heap.size W2 W4 := hW4 ▸ HB4.out.alloc s4 _
        have HW4 := hid hbW4
        have HH4 : Hid (W4.heap[w4.heap.size]? = some (.cells #[.int .i64 (n : Int), .int .u8 d0, .int .u8 d1] 44 (0, 0)) ∧ W2.heap.size ≤ w4.heap.size) := hid (hW4 ▸ ⟨heap_one w4 _ _ rfl, s4⟩)
        rw [← hW4]
        clear hW4 HB4 c1 c2 c3 hbW4
        generalize w4.heap.size = gh at HH4 ⊢
        refine (HEx W4).out HW4.out |>.mono ?_
        rintro e w5 ⟨rfl, hb5⟩
        have HCH : Hid (∀ w', Below w5.heap.size w5 w' → ((w'.cell? ⟨gh, 0, none⟩ = some (.int .i64 (n : Int)) ∧ w'.cell? ⟨gh, 1, none⟩ = some (.int .u8 d0) ∧ w'.cell? ⟨gh, 2, none⟩ = some (.int .u8 d1)) ∧ gh < w'.heap.size) ∧ Below W2.heap.size W2 w') := hid fun w' hb => by
          have hbb : Below W4.heap.size W4 w' := hb5.trans (hb.mono hb5.size)
          have hl4 := (Array.getElem?_eq_some_iff.1 HH4.out.1).1
          have hh := (hbb.block gh hl4).trans HH4.out.1
          refine ⟨⟨⟨?_, ?_, ?_⟩, (Array.getElem?_eq_some_iff.1 hh).1⟩, HW4.out.trans (hbb.mono HW4.out.size)⟩ <;> (rw [cell_of_row w' _ _ _ _ _ hh]; rfl)
        obtain ⟨k1, hB5⟩ := HCH.out w5 (Below.refl _ _)
        obtain ⟨⟨c1, c2, c3⟩, _⟩ := HCC.out w5 hB5
        clear hb5 HW4 HH4 HEx HHd
        simp only [exV]
        go_wp2_with (go_at_call 30; refine (snum_any _ _).mono ?_; rintro e w6 ⟨rfl, hw6⟩; rw [hw6]; clear hw6 w6)
        refine (HCk w5).out.mono ?_
        rintro e w6 ⟨rfl, hb6⟩
        obtain ⟨k6, hB6⟩ := HCH.out w6 hb6
        obtain ⟨⟨e1, e2, e3⟩, _⟩ := HCC.out w6 hB6
        have HB6 := hid hb6
        have s6 := hb6.size
        clear hb6 HCk k1 c1 c2 c3 hB5
        go_wp2_with fail
        refine (HCm w6).out.mono ?_
        rintro e w7 ⟨rfl, hb7⟩
        have hb57 : Below w5.heap.size w5 w7 := HB6.out.trans (hb7.mono s6)
        have HB7 : Hid (Below W2.heap.size W2 w7) := hid (HCH.out w7 hb57).2
        have s7 := HB7.out.size
        obtain ⟨⟨c1, c2, c3⟩, _⟩ := HCC.out w7 HB7.out
        clear hb7 hb57 HCm HB6 HCH k6 e1 e2 e3 hB6
        go_wp2_with (go_at_call 30; refine (snum_any _ _).mono ?_; rintro e w8 ⟨rfl, hw8⟩; rw [hw8]; clear hw8 w8)
        refine ((HTr w7).out HB7.out).mono ?_
        rintro e w8 ⟨a1, q1, a2, n2, q2, rfl, hT8, hb8⟩
        have HB8 := hid (HB7.out.trans (hb8.mono s7))
        have s8 := HB8.out.size
        obtain ⟨W8, hW8⟩ : ∃ W, W = w8.alloc (.cells #[.bool tb, .slice a1 vs.length q1, .slice a2 n2 q2] 76) := ⟨_, rfl⟩
        have hbW8 : Below w8.heap.size w8 W8 := hW8 ▸ (Below.refl _ _).alloc (Nat.le_refl _) _
        have HH8 : Hid (TrAt W8 w8.heap.size tb (.slice a1 vs.length q1) (.slice a2 n2 q2) ∧ TreeIn W8 W8.heap.size (.slice a1 vs.length q1) (.slice a2 n2 q2) vs hs ∧ Below W2.heap.size W2 W8) := hid ⟨hW8 ▸ heap_one w8 _ _ rfl, (hT8.below hbW8).mono hbW8.size, HB8.out.trans (hbW8.mono s8)⟩
        clear hb8 hT8 HTr c1 c2 c3 hbW8
        go_wp2_with fail
        rw [← hW8]
        clear hW8 HB8
        generalize w8.heap.size = gt at HH8 s8 ⊢
        refine ((HFo W8 _ _).out HH8.out.2.1).mono ?_
        rintro e w9 ⟨rfl, hb9⟩
        have HH9 : Hid (TrAt w9 gt tb (.slice a1 vs.length q1) (.slice a2 n2 q2) ∧ TreeIn w9 w9.heap.size (.slice a1 vs.length q1) (.slice a2 n2 q2) vs hs ∧ Below W2.heap.size W2 w9) := hid ⟨HH8.out.1.below hb9 HH8.out.1.lt, (HH8.out.2.1.below hb9).mono hb9.size, HH8.out.2.2.trans (hb9.mono HH8.out.2.2.size)⟩
        have s9 := HH9.out.2.2.size
        obtain ⟨⟨c1, c2, c3⟩, _⟩ := HCC.out w9 HH9.out.2.2
        clear hb9 HFo HH8
        go_wp2_with fail
        obtain ⟨W9, hW9⟩ : ∃ W, W = w9.alloc (.cells #[.int .i64 f0, .int .i64 f1, .int .i64 f2, .int .i64 f3] 29) := ⟨_, rfl⟩
        have hbW9 : Below w9.heap.size w9 W9 := hW9 ▸ (Below.refl _ _).alloc (Nat.le_refl _) _
        rw [← hW9]
        have HBW9 := hid hbW9
        clear hW9 hbW9
        refine (HRd W9).out.mono ?_
        rintro e w10 ⟨ao, cp, rfl, hN10, hcp1, hcp2, hb10⟩
        have hb9' : Below w9.heap.size w9 w10 := HBW9.out.trans (hb10.mono HBW9.out.size)
        have HH10 : Hid (TrAt w10 gt tb (.slice a1 vs.length q1) (.slice a2 n2 q2) ∧ TreeIn w10 w10.heap.size (.slice a1 vs.length q1) (.slice a2 n2 q2) vs hs ∧ Below W2.heap.size W2 w10) := hid ⟨HH9.out.1.below hb9' HH9.out.1.lt, (HH9.out.2.1.below hb9').mono hb9'.size, HH9.out.2.2.trans (hb9'.mono HH9.out.2.2.size)⟩
        have HN10 := hid hN10
        obtain ⟨t0, t1, t2⟩ := HH10.out.1.cells
        clear hb10 hb9' hN10 HRd HH9 HBW9 c1 c2 c3
        go_wp2_with fail
        refine ((HPr w10 ao cp a1 q1 _).out HN10.out hcp1 hcp2 HH10.out.2.1).mono ?_
        rintro e w11 ⟨g, cap, L, rfl, ho11, hL11, hm11, hb11⟩
        have HO11 := hid ho11
        have HM11 := hid hm11
        have HB11 := hid (HH10.out.2.2.trans (hb11.mono HH10.out.2.2.size))
        clear ho11 hm11 hb11 HPr HN10 HH10 t0 t1 t2
        go_wp2_with fail
        refine ((HCs w11 L _ g cap).out HO11.out hL11 HM11.out).mono ?_
        rintro e w12 ⟨rfl, hb12⟩
        have HBf : Hid (Below w.heap.size w w12) := hid (HCC.out w12 (HB11.out.trans (hb12.mono HB11.out.size))).2.2
        clear hb12 HCs HO11 HM11 HB11 HCC
        go_wp2
        go_ret
        exact ⟨rfl, HBf.out⟩
  · have h0 : t ≠ 0 := fun c => h01 (.inl c)
    have h1 : t ≠ 1 := fun c => h01 (.inr c)
    rw [if_neg h0]
    have HHd : Hid (Calls Try.prog 15 #[.pointer (some ⟨p.S, 0, none⟩), .int .i64 t, .int .i64 32] W2 fun e w' => e = .returned noHead ∧ Below W2.heap.size W2 w') := hid (by
      have := sHead_any W2 w1.heap.size p.S p.s p.lv p.M t 32 (HCC.out W2 (Below.refl _ _)).2.1.ps
      rw [hdA, if_neg (by omega), if_neg (by omega)] at this
      exact this)
    simp only [noHead] at HHd
    have HEx : ∀ w', Hid (Calls Try.prog 29 #[.pointer (some ⟨p.S, 0, none⟩), .int .i64 t, .int .i64 f, .int .i64 u, .agg #[.int .i64 c, .int .i64 s, .int .i64 m, .int .i64 x], .string pf] w' _) := fun w' => hid (extract_no w' p.S t f u c s m x pf h0 h1)
    simp only [exV] at HEx
    go_wp2_with fail
    refine HHd.out.mono ?_
    rintro e w4 ⟨rfl, hb4⟩
    have HB4 := hid hb4
    have s4 := hb4.size
    obtain ⟨⟨c1, c2, c3⟩, _⟩ := HCC.out w4 hb4
    clear hb4 HHd cs
    go_wp2_with fail
    refine (HEx _).out.mono ?_
    rintro e w5 ⟨rfl, hb5⟩
    have HB5 : Hid (Below w.heap.size w w5) := hid (HCC.out w5 ((HB4.out.alloc s4 _).trans (hb5.mono (by simp; omega)))).2.2
    clear hb5 HEx HB4 c1 c2
    go_wp2_with (go_at_call 30; refine (snum_any _ _).mono ?_; rintro e w6 ⟨rfl, hw6⟩; rw [hw6]; clear hw6 w6)
    go_ret
    exact ⟨rfl, HB5.out⟩

end Go.Proofs.Ytogmdaopfnmobaa

