/- What Grows does. -/
import Derived.Test.YtogmdaopfnmobaaGreatP49
import Derived.Test.YtogmdaopfnmobaaGreatP50
namespace Go.Proofs.YtogmdaopfnmobaaGreat
open Go.RowKit Go.Maps

/-- What both ExtractGrown tell, and what clash says of it. -/
structure ExB (W : World) (p : Pr) (vo : Value) (old : List Int) (pf : ByteArray) (A B : ByteArray) (X : Int) : Prop where
  ours : ∀ w' v', Below W.heap.size W w' → Cells1 w' w'.heap.size v' (old.map (.int .i64)) → Calls Tryz.prog 11 #[.pointer (some ⟨p.S, 0, none⟩), v', .string pf] w' fun e w2 => e = .returned (.tuple #[.string A, .string B, .int .i64 X]) ∧ Below w'.heap.size w' w2
  docs : ∀ w', Below W.heap.size W w' → Calls Tryz.prog 12 #[.pointer (some ⟨p.R, 0, none⟩), vo, .string pf] w' fun e w2 => ∃ pv, e = .returned (.tuple #[pv, .int .i64 X]) ∧ Below w'.heap.size w' w2 ∧ (∃ x y z, pv = .slice x y z) ∧ Calls Tryz.prog 13 #[.string A, .string B, .int .i64 X, .int .i64 X, pv] w2 fun e w3 => e = .returned (.bool true) ∧ Below w2.heap.size w2 w3
theorem prT_small {T U : Nat → Nat → Nd} : ∀ (n a b : Nat), b - a ≤ n → ∀ p ∈ prT T U a b, p.1.length ≤ 61 ∧ p.2.length ≤ 61 := by
  intro n
  induction n with
  | zero => intro a b hn p hp; rw [prT_one (by omega)] at hp; cases hp
  | succ n ih =>
    intro a b hn p hp
    by_cases hs : b < a + 2
    · rw [prT_one hs] at hp; cases hp
    · have p1 := hf_pos (b - a)
      have q1 := hf_lt (b - a) (by omega)
      rw [prT_two hs] at hp
      simp only [List.mem_append, List.mem_singleton] at hp
      rcases hp with (h | h) | h
      · exact ih _ _ (by omega) p h
      · exact ih _ _ (by omega) p h
      · subst h; exact ⟨abText_len _ _, abText_len _ _⟩
theorem prG_small {l old : List Int} {ns : List Nd} : ∀ p ∈ prG l old ns, p.1.length ≤ 1000 ∧ p.2.length ≤ 1000 := by
  intro p hp
  unfold prG at hp
  simp only [List.mem_append, List.mem_singleton] at hp
  rcases hp with (h | h) | h | h
  · have := prC_small l.length 0 l.length ns (by omega) p h; omega
  · subst h
    have h1 := hdText_length l.length (cm 0 l.length 0 old.length ns)
    have h2 := hdText_length l.length (tr (lgf l) 0 l.length)
    simp only
    omega
  · have := prT_small old.length 0 old.length (by omega) p h; omega
  · subst h
    have h1 := hdText_length old.length (tr (lgf old) 0 old.length)
    have h2 := hdText_length old.length (tr (lgf l) 0 old.length)
    simp only
    omega
/-- What CheckGrown tells of two logs. -/
def cgL (old l : List Int) (o : Option (List Nd)) : Int := cgE old.length l.length ((dg (hdText old.length (tr (lgf old) 0 old.length)) : Int) / 256) ((dg (hdText old.length (tr (lgf old) 0 old.length)) : Int) % 256) ((dg (hdText l.length (tr (lgf l) 0 l.length)) : Int) / 256) ((dg (hdText l.length (tr (lgf l) 0 l.length)) : Int) % 256) o

/-- Both answers, whatever is asked. -/
theorem exB_any (W : World) (base : Nat) (p : Pr) (hok : PrOk W base p) (vo : Value) (old : List Int) (pf : ByteArray) (ho : Cells1 W W.heap.size vo (old.map (.int .i64))) (hon : old.length ≤ 1048576) (hpf : pf.size ≤ maxLen) :
    ∃ A B X, ExB W p vo old pf A B X ∧ (X = 5 ∨ ((1 ≤ old.length ∧ old.length ≤ p.s.l.length ∧ ∀ x ∈ old, 0 ≤ x ∧ x ≤ 1000000) ∧ ((cgL old p.s.l (readR pf.data.toList) ≠ 0 ∧ X = cgL old p.s.l (readR pf.data.toList)) ∨ (cgL old p.s.l (readR pf.data.toList) = 0 ∧ (X = 0 ∨ X = 11))))) := by
  have hvw : ∀ w', Below W.heap.size W w' → Cells1 w' w'.heap.size vo (old.map (.int .i64)) := fun w' hb => (ho.below hb).mono hb.size
  by_cases hbad : old.length < 1 ∨ p.s.l.length < old.length ∨ old.all isVal = false
  · refine ⟨⟨#[]⟩, ⟨#[]⟩, 5, ⟨fun w' v' hb hv' => extractGrown_range w' base p.S p.s p.lv p.M (hok.ps.below hb) v' old pf hv' (by omega) hbad, fun w' hb => ?_⟩, .inl rfl⟩
    refine (refExG_range w' base p.R p.s p.rl p.K p.H (hok.rs.below hb) vo old pf (hvw w' hb) (by omega) hbad).mono ?_
    rintro e w2 ⟨he, hb2⟩
    exact ⟨_, he, hb2, ⟨_, _, _, rfl⟩, clash_err 5 w2 (by decide) _⟩
  · have h1 : 1 ≤ old.length := by omega
    have h2 : old.length ≤ p.s.l.length := by omega
    have hv : ∀ x ∈ old, 0 ≤ x ∧ x ≤ 1000000 := fun x hx => (isVal_iff x).1 (by
      have : old.all isVal = true := by
        cases h : old.all isVal with
        | true => rfl
        | false => exact absurd (.inr (.inr h)) hbad
      exact List.all_eq_true.1 this x hx)
    have hn := hok.ps.ok.len
    have hval := hok.ps.ok.val
    clear hbad
    obtain ⟨E, hE⟩ : ∃ E, E = cgL old p.s.l (readR pf.data.toList) := ⟨_, rfl⟩
    rw [← hE]
    by_cases h0 : E = 0
    · obtain ⟨ns, hns⟩ : ∃ ns, readR pf.data.toList = some ns := by
        cases h : readR pf.data.toList with
        | none => rw [h, h0] at hE; simp [cgL, cgE] at hE
        | some ns => exact ⟨ns, rfl⟩
      have hns' : ∀ d ∈ ns, d.ok = true := List.all_eq_true.1 (write_read _ _ hns).2.1
      by_cases hq : old = p.s.l.take old.length
      · refine ⟨⟨#[]⟩, ⟨#[]⟩, 11, ⟨fun w' v' hb hv' => extractGrown_ok w' base p.S p.s p.lv p.M (hok.ps.below hb) v' old pf hv' hv h1 h2 hpf none 11 ns hns (h0 ▸ hE) (.inl ⟨hq, rfl, rfl⟩), fun w' hb => ?_⟩, .inr ⟨⟨h1, h2, hv⟩, .inr ⟨h0, .inr rfl⟩⟩⟩
        refine (refExG_any w' base p.R p.s p.rl p.K p.H (hok.rs.below hb) vo old pf (hvw w' hb) hv h1 h2 hpf E 11 ns hE (.inr (.inl ⟨h0, hq, rfl⟩))).mono ?_
        rintro e w2 ⟨pv, he, hb2, hpv, _⟩
        obtain rfl := hpv (by decide)
        exact ⟨_, he, hb2, ⟨_, _, _, rfl⟩, clash_err 11 w2 (by decide) _⟩
      · have hm := grows_math hval hv h1 h2 hn hns' (by rw [← hns]; exact (h0 ▸ hE).symm) hq
        obtain ⟨P, Q, hcl, hPQ, hd, hin⟩ : ∃ P Q, (cls (gL ((cov 0 p.s.l.length 0 old.length).zip ns)) (tr (lgf p.s.l)) p.s.l.length).or (cls (plG (lgf old)) (tr (lgf p.s.l)) old.length) = some (P, Q) ∧ P ≠ Q ∧ dg P = dg Q ∧ (P, Q) ∈ prG p.s.l old ns := by
          rcases hm.2 with ⟨P, Q, h3, h4, h5, h6⟩ | ⟨h3, P, Q, h4, h5, h6, h7⟩
          · exact ⟨P, Q, by rw [h3]; rfl, h4, h5, List.mem_append_left _ h6⟩
          · exact ⟨P, Q, by rw [h3, h4]; rfl, h5, h6, List.mem_append_right _ h7⟩
        refine ⟨⟨P.toArray⟩, ⟨Q.toArray⟩, 0, ⟨fun w' v' hb hv' => ?_, fun w' hb => ?_⟩, .inr ⟨⟨h1, h2, hv⟩, .inr ⟨h0, .inl rfl⟩⟩⟩
        · have := extractGrown_ok w' base p.S p.s p.lv p.M (hok.ps.below hb) v' old pf hv' hv h1 h2 hpf (some (P, Q)) 0 ns hns (h0 ▸ hE) (.inr ⟨hq, hcl.symm, rfl⟩)
          exact this
        · refine (refExG_any w' base p.R p.s p.rl p.K p.H (hok.rs.below hb) vo old pf (hvw w' hb) hv h1 h2 hpf E 0 ns hE (.inr (.inr ⟨h0, hq, rfl, hns, by omega, hm.1.2, by have := (cov_len 0 old.length p.s.l.length 0 p.s.l.length (by omega)).2; omega⟩))).mono ?_
          rintro e w2 ⟨pv, he, hb2, _, hpv⟩
          have ho2 := hpv rfl
          have hsm := prG_small (P, Q) hin
          have hln := prG_len (ns := ns) hn (show old.length ≤ 64 by omega)
          generalize prG p.s.l old ns = L at ho2 hin hln
          rcases ho2.2 with ⟨rfl, h3⟩ | ⟨g, cap, cur, rfl, _⟩
          · exact absurd hin (by rw [List.eq_nil_of_length_eq_zero h3]; simp)
          · exact ⟨_, he, hb2, ⟨_, _, _, rfl⟩, clash_ok P Q L _ g cap w2 ho2 hln hPQ hd hin hsm.1 hsm.2⟩
    · refine ⟨⟨#[]⟩, ⟨#[]⟩, E, ⟨fun w' v' hb hv' => extractGrown_err w' base p.S p.s p.lv p.M (hok.ps.below hb) v' old pf hv' hv h1 h2 hpf E hE h0, fun w' hb => ?_⟩, .inr ⟨⟨h1, h2, hv⟩, .inl ⟨h0, rfl⟩⟩⟩
      refine (refExG_any w' base p.R p.s p.rl p.K p.H (hok.rs.below hb) vo old pf (hvw w' hb) hv h1 h2 hpf E E [] hE (.inl ⟨h0, rfl⟩)).mono ?_
      rintro e w2 ⟨pv, he, hb2, hpv, _⟩
      obtain rfl := hpv h0
      exact ⟨_, he, hb2, ⟨_, _, _, rfl⟩, clash_err E w2 h0 _⟩

end Go.Proofs.YtogmdaopfnmobaaGreat

/- What Grows does: its body. -/
namespace Go.Proofs.YtogmdaopfnmobaaGreat
open Go.RowKit Go.Maps

theorem cells1_own {w : World} {base : Nat} {e : TypeId} {v : Value} {l : List Int} (h : w.ownsRow base e 1 v l.length (l.map (.int .i64))) : Cells1 w w.heap.size v (l.map (.int .i64)) := by
  rcases h.2 with ⟨rfl, h0⟩ | ⟨g, cap, cur, rfl, _, hg, _⟩
  · have : l = [] := List.eq_nil_of_length_eq_zero h0
    subst this
    exact ⟨none, 0, rfl, fun i hi => by simp at hi⟩
  · refine ⟨some ⟨g, 0, none⟩, cap, by simp, fun i hi => ⟨g, 0, rfl, (Array.getElem?_eq_some_iff.1 hg).1, ?_⟩⟩
    have := h.cellAt i (by simpa using hi)
    rw [Nat.zero_add, this, List.getElem?_eq_getElem hi]

/-- A head in memory. -/
def HdAt (w : World) (g : Nat) (n a b : Int) : Prop := w.heap[g]? = some (.cells #[.int .i64 n, .int .u8 a, .int .u8 b] 58 (0, 0))
theorem HdAt.cells {w : World} {g : Nat} {n a b : Int} (h : HdAt w g n a b) : (w.cell? ⟨g, 0, none⟩ = some (.int .i64 n) ∧ w.cell? ⟨g, 1, none⟩ = some (.int .u8 a) ∧ w.cell? ⟨g, 2, none⟩ = some (.int .u8 b)) ∧ ∀ o, w.frozen? ⟨g, o, none⟩ = false := by
  unfold HdAt at h
  refine ⟨⟨?_, ?_, ?_⟩, fun o => by simp [World.frozen?, h]⟩ <;> rw [cell_of_row w g _ _ _ _ h] <;> rfl
theorem HdAt.lt {w : World} {g : Nat} {n a b : Int} (h : HdAt w g n a b) : g < w.heap.size := (Array.getElem?_eq_some_iff.1 h).1
theorem HdAt.below {w w' : World} {B g : Nat} {n a b : Int} (h : HdAt w g n a b) (hb : Below B w w') (hg : g < B) : HdAt w' g n a b := (hb.block g hg).trans h
theorem HdAt.one {w w' : World} {n : Nat} (hb : Below n (w.alloc (.cells #[.int .i64 0, .int .u8 0, .int .u8 0] 58)) w') (hn : w.heap.size < n) : HdAt w' w.heap.size 0 0 0 := (hb.block w.heap.size hn).trans (heap_one w _ _ rfl)
theorem HdAt.oneD {w w' : World} {n : Nat} (hb : Below n (w.alloc (.cells #[.int .i64 0, .int .u8 0, .int .u8 0] 58)).drew w') (hn : w.heap.size < n) : HdAt w' w.heap.size 0 0 0 := (hb.block w.heap.size hn).trans (heap_one w _ _ rfl)
theorem HdAt.oneE {w w' : World} {n : Nat} (hb : Below n (w.drew.alloc (.cells #[.int .i64 0, .int .u8 0, .int .u8 0] 58)) w') (hn : w.heap.size < n) : HdAt w' w.heap.size 0 0 0 := (hb.block w.heap.size hn).trans (heap_one w.drew _ _ rfl)
theorem HdAt.set {w : World} {g : Nat} {n a b : Int} (h : HdAt w g n a b) (n' a' b' : Int) : HdAt (((w.setCell ⟨g, 0, none⟩ (.int .i64 n')).setCell ⟨g, 1, none⟩ (.int .u8 a')).setCell ⟨g, 2, none⟩ (.int .u8 b')) g n' a' b' := heap_set (k := 2) (heap_set (k := 1) (heap_set (k := 0) h _) _) _

set_option maxHeartbeats 16000000 in
set_option maxRecDepth 100000 in
theorem grows_any (ao1 : Option Addr) (c1 : Nat) (l : List Int) (ao2 : Option Addr) (c2 : Nat) (old : List Int) (pf : ByteArray) (w : World) (hl : Cells1 w w.heap.size (.slice ao1 l.length c1) (l.map (.int .i64))) (hlr : ∀ x ∈ l, -9223372036854775808 ≤ x ∧ x ≤ 9223372036854775807) (hln : l.length ≤ 1048576)
    (ho : Cells1 w w.heap.size (.slice ao2 old.length c2) (old.map (.int .i64))) (hon : old.length ≤ 1048576) (hpf : pf.size ≤ maxLen) :
    Calls Tryz.prog 6 #[.slice ao1 l.length c1, .slice ao2 old.length c2, .string pf] w fun e w' => e = .returned (.bool true) ∧ Below w.heap.size w w' := by
  obtain ⟨ao1', c1', hve, hc⟩ := hl.ex
  simp only [List.length_map, Value.slice.injEq] at hve hc
  obtain ⟨rfl, _, rfl⟩ := hve
  have HO := hid ho
  have HR := hid hlr
  clear hl ho hlr
  obtain ⟨i0, hi, hz0, hz1, hz2⟩ := info_parts info_chg
  go_enter Tryz.func6, Tryz.ntmps6
  go_wp2_with fail
  refine (takes_any' _).mono ?_
  rintro e w1 ⟨rfl, hb1⟩
  have HB1 := hid hb1
  clear hb1
  go_wp2_with fail
  go_loopw [8, 9] (fun lv i wr => ∃ k : Nat, k ≤ l.length ∧ i = .int .i64 k ∧ Hid (wr.ownsRow w.heap.size 29 3 lv k (chRow (l.take k))) ∧ Hid (Below w.heap.size w wr)) (fun _ i _ => l.length - (intOf i).toNat)
  case atStart => exact ⟨0, Nat.zero_le _, rfl, hid (World.ownsRow_nil _ _ _ _), HB1⟩
  case round =>
    obtain ⟨k, hk, rfl, HL, HB⟩ := hrel
    by_cases hlt : k < l.length
    · obtain ⟨b, off, rfl, hbB, hcs⟩ := hc k (by simpa using hlt)
      have hcx : wr.cell? ⟨b, off + k, none⟩ = some (.int .i64 l[k]) := by
        have := (HB.out.cell (p := ⟨b, off + k, none⟩) hbB).trans hcs
        simpa using this
      have HNx : Hid (chRow (l.take (k + 1)) = chRow (l.take k) ++ chCells l[k]) := hid (by rw [List.take_succ_eq_append_getElem hlt, chRow_append])
      generalize l[k] = x at hcx HNx
      obtain ⟨ao, cp, rfl⟩ := own_shape HL.out
      have hws := HB.out.size
      clear hcs hc HB1
      have HIO : Hid (∀ k' ∈ ob (.slice ao k cp), w.heap.size ≤ k') := hid fun k' hk' => (own_in HL.out k' hk').1
      have HNW := hid (block_new wr #[.int .i64 (-1), .int .i64 x, .bool false] 29)
      go_wp2_with (at_builtin; refine wpList_append_grew _ rfl _ _ 27 rfl w.heap.size 29 i0 (.agg #[.int .i64 0, .int .i64 0, .bool false]) 3 24 Tryz.underlying27 hi hz0 hz1 hz2 rfl (by decide) _ _ _ rfl (HL.out.alloc _) ⟨wr.heap.size, 0, none⟩ 1 1 [.int .i64 (-1), .int .i64 x, .bool false] rfl rfl HNW.out (by simp [Value.oneCell']) (by unfold maxLen; omega) (by omega) (by simp; omega) ?_)
      rintro lv3 w3 ho3 hg3 _
      have HF := hid (And.intro (own_cast ho3 rfl (show _ = chRow (l.take (k + 1)) from HNx.out.symm)) (HB.out.trans (((Below.refl _ wr).alloc hws _).trans (hg3.toBelow w.heap.size (by simp; omega) (fun k' hk' => HIO.out k' (mem_ob.2 hk'))))))
      clear ho3 hg3 HNx HL HIO HNW
      go_wp2
      go_roundw
      case rel => exact ⟨k + 1, by omega, by push_cast; rfl, hid HF.out.1, hid HF.out.2⟩
      case measure => simp [intOf]; omega
    · obtain rfl : k = l.length := by omega
      rw [List.take_length] at HL
      have HFl := hid (filled_any _ (l.map chOf) wr (chS_own HL.out hln) (fun x hx => by
        obtain ⟨y, hy, rfl⟩ := List.mem_map.1 hx
        have := HR.out y hy
        simp only [chOf]
        omega))
      obtain ⟨ao, cp, rfl⟩ := own_shape HL.out
      clear hc HL HR HB1
      go_wp2_with fail
      refine HFl.out.mono ?_
      rintro e w2 ⟨p, rfl, hok, hb2⟩
      have hB2 : Below w.heap.size w w2 := HB.out.trans (hb2.mono HB.out.size)
      obtain ⟨W2, hW2⟩ : ∃ W, W = w2.alloc (.cells #[.pointer (some ⟨p.S, 0, none⟩), .pointer (some ⟨p.R, 0, none⟩)] 33) := ⟨_, rfl⟩
      have hBW : Below w2.heap.size w2 W2 := hW2 ▸ (Below.refl _ _).alloc (Nat.le_refl _) _
      have hps : PsAt W2 w2.heap.size (some ⟨p.S, 0, none⟩) (some ⟨p.R, 0, none⟩) := hW2 ▸ heap_one w2 _ _ rfl
      have hokW := hok.below hBW
      have s2 : w.heap.size ≤ W2.heap.size := by have := hBW.size; have := hb2.size; have := HB.out.size; omega
      have hBw : Below w.heap.size w W2 := hB2.trans (hBW.mono (by have := hb2.size; have := HB.out.size; omega))
      obtain ⟨A, B, X, hex, hXc⟩ := exB_any W2 wr.heap.size p hokW (.slice ao2 old.length c2) old pf ((HO.out.below hBw).mono s2) hon hpf
      have HEX := hid hex
      have HXc := hid hXc
      have HCC : Hid (∀ w', Below W2.heap.size W2 w' → ((w'.cell? ⟨w2.heap.size, 0, none⟩ = some (.pointer (some ⟨p.S, 0, none⟩)) ∧ w'.cell? ⟨w2.heap.size, 1, none⟩ = some (.pointer (some ⟨p.R, 0, none⟩))) ∧ w2.heap.size < w'.heap.size) ∧ PrOk w' wr.heap.size p ∧ Below w.heap.size w w') := hid fun w' hb =>
        ⟨⟨(hps.below hb hps.lt).cells.1, by have := hb.size; have := hps.lt; omega⟩, hokW.below hb, hBw.trans (hb.mono s2)⟩
      clear hb2 hok hB2 hBW hps hokW hBw hex hXc HFl HB
      obtain ⟨⟨⟨c0, c1'⟩, hlt2⟩, _⟩ := HCC.out W2 (Below.refl _ _)
      have HOW : Hid (∀ w', Below W2.heap.size W2 w' → Cells1 w' w'.heap.size (.slice ao2 old.length c2) (old.map (.int .i64))) := hid fun w' hb => by
        have hb' := (HCC.out w' hb).2.2
        exact (HO.out.below hb').mono hb'.size
      go_wp2_with fail
      rw [← hW2]
      clear hW2
      generalize w2.heap.size = gx at HCC c0 c1' hlt2 ⊢
      go_region_held3 (fun w' => w'.cell? ⟨gx, 0, none⟩ = some (.pointer (some ⟨p.S, 0, none⟩)))
        (first | exact (HCC.out _ (by (repeat (first | (with_reducible exact hB4) | (with_reducible exact hB3) | (with_reducible exact Below.refl _ _) | (with_reducible apply Below.drew))))).1.1.1 | go_keep)
        (first
          | (go_at_call 11; (refine (HEX.out.ours _ _ (by (repeat (first | (with_reducible exact hB3) | (with_reducible exact Below.refl _ _) | (with_reducible apply Below.drew)))) HU.out).mono ?_; rintro e w4 ⟨rfl, hb4⟩; have hB4 : Below W2.heap.size W2 w4 := hB3.trans (hb4.mono hB3.size); clear hb4 HU))
          | (refine step_append_ints rfl _ _ rfl rfl W2.heap.size _ _ _ old rfl (HOW.out _ (by (repeat (first | (with_reducible exact hB3) | (with_reducible exact Below.refl _ _) | (with_reducible apply Below.drew))))) rfl hon (by exact Nat.le_refl _) ?_; rintro u w3 hu hgu; have hB3 : Below W2.heap.size W2 w3 := Below.trans (by (repeat (first | (with_reducible exact hB3) | (with_reducible exact Below.refl _ _) | (with_reducible apply Below.drew)))) (hgu.toBelow W2.heap.size (by exact Nat.le_refl _) (fun k' hk' => by simp [Value.ownBlock] at hk')); obtain ⟨au, cu, rfl⟩ := own_shape hu; have HU : Hid (Cells1 w3 w3.heap.size (.slice au old.length cu) (old.map (.int .i64))) := hid (cells1_own hu); clear hu hgu))
      all_goals
        have HB4 := hid hB4
        clear hB3 hB4 c0 c1' hlt2
        obtain ⟨⟨⟨c0, c1'⟩, hlt2⟩, _⟩ := HCC.out w4 HB4.out
        go_wp2_with fail
        refine (HEX.out.docs w4 HB4.out).mono ?_
        rintro e w5 ⟨pv, rfl, hb5, ⟨x5, y5, z5, rfl⟩, hcl⟩
        have HCL := hid hcl
        have HB5 := hid (HB4.out.trans (hb5.mono HB4.out.size))
        clear hcl hb5 HB4 HEX c0 c1' hlt2
        go_wp2_with fail
        refine HCL.out.mono ?_
        rintro e w6 ⟨rfl, hb6⟩
        have HB6 := hid (HB5.out.trans (hb6.mono HB5.out.size))
        clear hb6 HB5 HCL
        obtain ⟨⟨⟨c0, c1'⟩, hlt2⟩, hok6, hbw6⟩ := HCC.out w6 HB6.out
        have HFin := hid hbw6
        obtain ⟨ar, cr, hrl⟩ := own_shape hok6.rs.hL
        have HCR : Hid (∀ w', Below w6.heap.size w6 w' → w'.cell? ⟨p.R, 0, none⟩ = some (.slice ar p.s.l.length cr) ∧ p.R < w'.heap.size) := hid fun w' hb => by
          have := hok6.rs.below hb
          exact ⟨hrl ▸ this.cells.1.1, this.lt.1⟩
        have hn := hok6.ps.ok.len
        have HPS := hid hok6
        clear hok6 hbw6
        obtain ⟨cR, lR⟩ := HCR.out w6 (Below.refl _ _)
        by_cases r1 : old.length < 1
        · clear HCR HPS HXc HOW
          go_wp2
          go_ret
          exact ⟨rfl, HFin.out⟩
        by_cases r2 : p.s.l.length < old.length
        · clear HCR HPS HXc HOW
          go_wp2
          go_ret
          exact ⟨rfl, HFin.out⟩
        by_cases r3 : X = 5
        · subst r3
          clear HCR HPS HXc HOW
          go_wp2
          go_ret
          exact ⟨rfl, HFin.out⟩
        have r3' : (X == 5) = false := by simpa using r3
        obtain ⟨⟨h1, h2, hv⟩, hEX⟩ : (1 ≤ old.length ∧ old.length ≤ p.s.l.length ∧ ∀ x ∈ old, 0 ≤ x ∧ x ≤ 1000000) ∧ ((cgL old p.s.l (readR pf.data.toList) ≠ 0 ∧ X = cgL old p.s.l (readR pf.data.toList)) ∨ (cgL old p.s.l (readR pf.data.toList) = 0 ∧ (X = 0 ∨ X = 11))) := HXc.out.elim (fun h => absurd h r3) id
        have HLo : ∀ w', Hid (Below w6.heap.size w6 w' → Calls Tryz.prog 14 #[.slice ao2 old.length c2] w' (logPost (.slice ao2 old.length c2) old w')) := fun w' => hid fun hb => refLogOf_any _ old w' (HOW.out w' (HB6.out.trans (hb.mono HB6.out.size))) hv (by omega)
        have HWo : ∀ w' vv hv, Hid (TreeIn w' w'.heap.size vv hv old (List.replicate old.length true) → Calls Tryz.prog 15 #[.agg #[.bool false, vv, hv]] w' fun e w2 => e = .returned (ndV (tr (lgf old) 0 old.length)) ∧ Below w'.heap.size w' w2) := fun w' vv hv => hid fun hT => by
          have := refWhole_any false vv hv old _ w' hT
          rw [tr_own old 0 old.length (Nat.le_refl _)] at this
          exact this
        have HRt : ∀ w', Hid (Calls Tryz.prog 16 #[.int .i64 old.length, ndV (tr (lgf old) 0 old.length)] w' _) := fun w' => hid (refRoot_any old.length _ w' (by omega) ((tr_U (lgf_bd hv)).ok 0 _ (by omega)))
        have HHd : ∀ w', Hid (Below w6.heap.size w6 w' → Calls Tryz.prog 17 #[.pointer (some ⟨p.S, 0, none⟩), .int .i64 0, .int .i64 p.s.l.length] w' fun e w2 => e = .returned (headV p.s.l.length (dg (hdText p.s.l.length (tr (lgf p.s.l) 0 p.s.l.length)))) ∧ Below w'.heap.size w' w2) := fun w' => hid fun hb => by
          have := sHead_any w' _ p.S p.s p.lv p.M 0 p.s.l.length (HPS.out.ps.below hb)
          rw [hdA, if_pos ⟨rfl, by omega, by omega⟩, Int.toNat_natCast] at this
          exact this
        have HCg : ∀ w', Hid (Calls Tryz.prog 18 #[.agg #[.int .i64 old.length, .int .u8 ((dg (hdText old.length (tr (lgf old) 0 old.length)) : Int) / 256), .int .u8 ((dg (hdText old.length (tr (lgf old) 0 old.length)) : Int) % 256)], .agg #[.int .i64 p.s.l.length, .int .u8 ((dg (hdText p.s.l.length (tr (lgf p.s.l) 0 p.s.l.length)) : Int) / 256), .int .u8 ((dg (hdText p.s.l.length (tr (lgf p.s.l) 0 p.s.l.length)) : Int) % 256)], .string pf] w' fun e w2 => e = .returned (.int .i64 (cgL old p.s.l (readR pf.data.toList))) ∧ Below w'.heap.size w' w2) := fun w' => hid
          (checkGrown_good old.length p.s.l.length _ _ _ _ pf w' h1 h2 hn hpf)
        generalize cgL old p.s.l (readR pf.data.toList) = E at hEX HCg
        simp only [headV] at HHd
        generalize (dg (hdText p.s.l.length (tr (lgf p.s.l) 0 p.s.l.length)) : Int) / 256 = d0 at HHd HCg
        generalize (dg (hdText p.s.l.length (tr (lgf p.s.l) 0 p.s.l.length)) : Int) % 256 = d1 at HHd HCg
        generalize (dg (hdText old.length (tr (lgf old) 0 old.length)) : Int) / 256 = e0 at HRt HCg
        generalize (dg (hdText old.length (tr (lgf old) 0 old.length)) : Int) % 256 = e1 at HRt HCg
        generalize tr (lgf old) 0 old.length = d at HWo HRt
        simp only [ndV] at HWo HRt
        have HEX := hid hEX
        have HCX : Hid (∀ w', Below w6.heap.size w6 w' → (w'.cell? ⟨gx, 0, none⟩ = some (.pointer (some ⟨p.S, 0, none⟩)) ∧ w'.cell? ⟨gx, 1, none⟩ = some (.pointer (some ⟨p.R, 0, none⟩))) ∧ gx < w'.heap.size) := hid fun w' hb => (HCC.out w' (HB6.out.trans (hb.mono HB6.out.size))).1
        clear hEX HXc HOW HPS hv HCC HB6
        go_wp2_with fail
        refine ((HLo w6).out (Below.refl _ _)).mono ?_
        rintro e w7 ⟨⟨g7, rfl, hg7, hT7⟩, hb7⟩
        have HT7 := hid hT7
        have HB7 := hid hb7
        clear hT7 hb7 HLo c0 c1' hlt2 cR lR hg7
        go_wp2_with fail
        refine ((HWo w7 _ _).out HT7.out).mono ?_
        rintro e w8 ⟨rfl, hb8⟩
        have HB8 := hid (HB7.out.trans (hb8.mono HB7.out.size))
        clear hb8 HT7 HB7 HWo
        go_wp2_with fail
        obtain ⟨W8, hW8⟩ : ∃ W, W = w8.alloc (.cells #[.int .i64 d.c, .int .i64 d.s, .int .i64 d.m, .int .i64 d.x, .int .u8 (d.h.toNat : Int), .int .u8 (d.g.toNat : Int)] 51) := ⟨_, rfl⟩
        have HD8 : Hid (Below w6.heap.size w6 W8) := hid (hW8 ▸ HB8.out.alloc HB8.out.size _)
        rw [← hW8]
        clear hW8 HB8
        refine (HRt W8).out.mono ?_
        rintro e w9 ⟨rfl, hb9⟩
        have HB9 := hid (HD8.out.trans (hb9.mono HD8.out.size))
        clear hb9 HD8 HRt
        go_wp2_with fail
        obtain ⟨W9, hW9⟩ : ∃ W, W = w9.alloc (.cells #[.int .u8 e0, .int .u8 e1] 49) := ⟨_, rfl⟩
        have HD9 : Hid (W9.heap[w9.heap.size]? = some (.cells #[.int .u8 e0, .int .u8 e1] 49 (0, 0)) ∧ Below w6.heap.size w6 W9) := hid (hW9 ▸ ⟨heap_one w9 _ _ rfl, HB9.out.alloc HB9.out.size _⟩)
        rw [← hW9]
        clear hW9 HB9
        generalize w9.heap.size = gr at HD9 ⊢
        have s9 := HD9.out.2.size
        have HCY : Hid (∀ w', Below W9.heap.size W9 w' → (w'.cell? ⟨gx, 0, none⟩ = some (.pointer (some ⟨p.S, 0, none⟩)) ∧ w'.cell? ⟨gx, 1, none⟩ = some (.pointer (some ⟨p.R, 0, none⟩)) ∧ w'.cell? ⟨p.R, 0, none⟩ = some (.slice ar p.s.l.length cr)) ∧ (w'.cell? ⟨gr, 0, none⟩ = some (.int .u8 e0) ∧ w'.cell? ⟨gr, 1, none⟩ = some (.int .u8 e1)) ∧ gr < w'.heap.size ∧ Below w6.heap.size w6 w') := hid fun w' hb => by
          have hb6 := HD9.out.2.trans (hb.mono s9)
          have hr := (hb.block gr (Array.getElem?_eq_some_iff.1 HD9.out.1).1).trans HD9.out.1
          refine ⟨⟨(HCX.out w' hb6).1.1, (HCX.out w' hb6).1.2, (HCR.out w' hb6).1⟩, ⟨?_, ?_⟩, (Array.getElem?_eq_some_iff.1 hr).1, hb6⟩ <;> (rw [cell_of_row w' _ _ _ _ _ hr]; rfl)
        clear HD9 HCX HCR s9
        have hcy := (HCY.out W9 (Below.refl _ _)).1
        go_region_held3 (fun w' => w'.cell? ⟨gx, 0, none⟩ = some (.pointer (some ⟨p.S, 0, none⟩)) ∧ w'.cell? ⟨gx, 1, none⟩ = some (.pointer (some ⟨p.R, 0, none⟩)) ∧ w'.cell? ⟨p.R, 0, none⟩ = some (.slice ar p.s.l.length cr))
          (first | exact (HCY.out _ (by (repeat (first | (with_reducible exact hB10) | (with_reducible exact Below.refl _ _) | (with_reducible apply Below.drew) | (with_reducible refine Below.alloc ?_ (by first | exact Nat.le_refl _ | exact hB10.size) _) | (with_reducible refine Below.setCell ?_ (by first | exact Nat.le_refl _ | exact hB10.size) _))))).1 | go_keep)
          ((go_at_call 17; (refine ((HHd _).out ((HCY.out _ (by (repeat (first | (with_reducible exact Below.refl _ _) | (with_reducible apply Below.drew) | (with_reducible refine Below.alloc ?_ (Nat.le_refl _) _))))).2.2.2)).mono ?_; rintro e w10 ⟨rfl, hb10⟩; have hB10 : Below W9.heap.size W9 w10 := Below.trans (by (repeat (first | (with_reducible exact Below.refl _ _) | (with_reducible apply Below.drew) | (with_reducible refine Below.alloc ?_ (Nat.le_refl _) _)))) (hb10.mono (by first | exact Nat.le_refl _ | simp)); (first | (have hH := HdAt.one hb10 (by simp)) | (have hH := HdAt.oneD hb10 (by simp)) | (have hH := HdAt.oneE hb10 (by simp)) | skip); (first | (have hHc := hH.cells) | skip); clear hb10 HHd)))
        all_goals first
          | (obtain ⟨W10, hW10⟩ : ∃ W, W = w10.alloc (.cells #[.int .i64 (p.s.l.length : Int), .int .u8 d0, .int .u8 d1] 58) := ⟨_, rfl⟩
             rw [← hW10]
             have H10 : Hid (HdAt W10 w10.heap.size p.s.l.length d0 d1 ∧ Below W9.heap.size W9 W10) := hid (hW10 ▸ ⟨heap_one w10 _ _ rfl, hB10.alloc hB10.size _⟩)
             clear hW10
             generalize w10.heap.size = gn at H10 ⊢)
          | (obtain ⟨W10, hW10⟩ : ∃ W, W = ((w10.setCell ⟨W9.heap.size, 0, none⟩ (.int .i64 (p.s.l.length : Int))).setCell ⟨W9.heap.size, 1, none⟩ (.int .u8 d0)).setCell ⟨W9.heap.size, 2, none⟩ (.int .u8 d1) := ⟨_, rfl⟩
             rw [← hW10]
             have H10 : Hid (HdAt W10 W9.heap.size p.s.l.length d0 d1 ∧ Below W9.heap.size W9 W10) := hid (hW10 ▸ ⟨hH.set _ _ _, ((hB10.setCell (Nat.le_refl _) _).setCell (Nat.le_refl _) _).setCell (Nat.le_refl _) _⟩)
             clear hW10 hH hHc
             obtain ⟨gn, hgn⟩ : ∃ gn, gn = W9.heap.size := ⟨_, rfl⟩
             rw [← hgn]
             have H10 : Hid (HdAt W10 gn p.s.l.length d0 d1 ∧ Below W9.heap.size W9 W10) := hid ⟨hgn ▸ H10.out.1, H10.out.2⟩
             clear hgn)
        all_goals
          clear hB10 hcy
          obtain ⟨⟨n0, n1, n2⟩, nf⟩ := H10.out.1.cells
          have ln := H10.out.1.lt
          obtain ⟨_, ⟨m0, m1⟩, lm, hb10⟩ := HCY.out W10 H10.out.2
          have HB10 := hid hb10
          clear hb10 H10 HCY
          go_wp2_with fail
          refine (HCg W10).out.mono ?_
          rintro e w11 ⟨rfl, hb11⟩
          have HBf := hid (HFin.out.trans ((HB10.out.trans (hb11.mono HB10.out.size)).mono HFin.out.size))
          clear hb11 HB10 HCg n0 n1 n2 nf ln m0 m1 lm HFin
          rcases HEX.out with ⟨hE0, hXE⟩ | ⟨hE0, hX0⟩
          · subst hXE
            have hEb : (X == 0) = false := by simpa using hE0
            clear HEX
            go_wp2_with (go_at_call 19; refine (snum_any _ _).mono ?_; rintro e w12 ⟨rfl, hw12⟩; rw [hw12]; clear hw12 w12)
            go_ret
            exact ⟨rfl, HBf.out⟩
          · subst hE0
            clear HEX
            rcases hX0 with rfl | rfl
            · go_wp2_with (go_at_call 19; refine (snum_any _ _).mono ?_; rintro e w12 ⟨rfl, hw12⟩; rw [hw12]; clear hw12 w12)
              go_ret
              exact ⟨rfl, HBf.out⟩
            · go_wp2_with (go_at_call 19; refine (snum_any _ _).mono ?_; rintro e w12 ⟨rfl, hw12⟩; rw [hw12]; clear hw12 w12)
              go_ret
              exact ⟨rfl, HBf.out⟩

end Go.Proofs.YtogmdaopfnmobaaGreat

