/- What Sound does. -/
import Derived.Test.YtogmdaopfnmobaaGreatP49
import Derived.Test.YtogmdaopfnmobaaGreatP34
import Derived.Test.YtogmdaopfnmobaaGreatP48
import Derived.Test.YtogmdaopfnmobaaGreatP45
namespace Go.Proofs.YtogmdaopfnmobaaGreat
open Go.RowKit Go.Maps
attribute [local go_sem ↓] run_eql_fold
/-- What Check and Claims tell, where there is such a tree. -/
def ckR (n : Nat) (f u : Int) (d0 d1 : Int) (claim : Fo) (o : Option (List Nd)) : Int := if rgB f u n then ckE n f.toNat u.toNat d0 d1 claim o else 5
theorem scheck (tree : Int) (n : Nat) (f u d0 d1 c s m x : Int) (p : ByteArray) (hs : p.size ≤ maxLen) (hz : szB tree n = true) :
    (∀ w, Calls Tryz.prog 25 #[.int .i64 tree, .agg #[.int .i64 n, .int .u8 d0, .int .u8 d1], .int .i64 f, .int .i64 u, .agg #[.int .i64 c, .int .i64 s, .int .i64 m, .int .i64 x], .string p] w fun e w' => e = .returned (.int .i64 (ckR n f u d0 d1 ⟨c, s, m, x⟩ (readR p.data.toList))) ∧ Below w.heap.size w w') ∧
    (∀ w, Calls Tryz.prog 98 #[.int .i64 tree, .agg #[.int .i64 n, .int .u8 d0, .int .u8 d1], .int .i64 f, .int .i64 u, .agg #[.int .i64 c, .int .i64 s, .int .i64 m, .int .i64 x], .string p] w fun e w' => e = .returned (.int .i64 (ckR n f u d0 d1 ⟨c, s, m, x⟩ (readR p.data.toList))) ∧ Below w.heap.size w w') := by
  have hzz := hz
  simp only [szB, decide_eq_true_eq] at hzz
  unfold ckR
  cases hr : rgB f u n with
  | false =>
    refine ⟨fun w => check_bad tree n f u d0 d1 c s m x p w (.inr hr), fun w => ?_⟩
    have hb : f < 0 ∨ u < f ∨ (n : Int) < u := by
      have := of_decide_eq_false hr
      omega
    rcases hzz with ⟨rfl, h2⟩ | ⟨rfl, h2⟩
    · exact refClaims_range0 n f u d0 d1 c s m x p w h2 hb
    · exact refClaims_range1 n f u d0 d1 c s m x p w h2 hb
  | true =>
    have hrr := of_decide_eq_true hr
    obtain ⟨F, rfl⟩ : ∃ F : Nat, f = F := ⟨f.toNat, by omega⟩
    obtain ⟨T, rfl⟩ : ∃ T : Nat, u = T := ⟨u.toNat, by omega⟩
    simp only [if_true, Int.toNat_natCast]
    refine ⟨fun w => check_good tree n F T d0 d1 c s m x p w hz (by omega) (by omega) (by omega) hs, fun w => ?_⟩
    have hok : ∀ ns, readR p.data.toList = some ns → ∀ d ∈ ns, d.ok = true := fun ns ho => List.all_eq_true.1 (write_read _ _ ho).2.1
    rw [← ckE_clE n F T d0 d1 ⟨c, s, m, x⟩ _ (by omega) hok]
    rcases hzz with ⟨rfl, h2⟩ | ⟨rfl, h2⟩
    · exact refClaims_any0 n F T d0 d1 c s m x p w (by omega) (by omega) (by omega) hs
    · obtain rfl : n = 32 := by omega
      exact refClaims_any1 F T d0 d1 c s m x p w (by omega) (by omega) hs
theorem prC_congr {U V : Nat → Nat → Nd} {f t N : Nat} (h : ∀ a b, a ≤ b → b ≤ N → U a b = V a b) : ∀ (n a b : Nat) (ns : List Nd), b - a ≤ n → a ≤ b → b ≤ N → prC U a b f t ns = prC V a b f t ns := by
  intro n
  induction n with
  | zero => intro a b ns hn _ _; rw [prC_one ns (.inr (.inr (by omega))), prC_one ns (.inr (.inr (by omega)))]
  | succ n ih =>
    intro a b ns hn hab hb
    by_cases hs : isOut a b f t = true ∨ isIn a b f t = true ∨ b < a + 2
    · rw [prC_one ns hs, prC_one ns hs]
    · have p := hf_pos (b - a)
      have q := hf_lt (b - a) (by omega)
      rw [prC_two ns hs, prC_two ns hs, ih a (a + hf (b - a)) ns (by omega) (by omega) (by omega), ih (a + hf (b - a)) b _ (by omega) (by omega) hb, h a (a + hf (b - a)) (by omega) (by omega), h (a + hf (b - a)) b (by omega) hb]
theorem abText_len (x y : Nd) : (abText x y).length ≤ 61 := by
  have := x.bytes_length
  have := y.bytes_length
  unfold abText
  split
  · simp
  · simp; omega
theorem prC_small {U : Nat → Nat → Nd} {f t : Nat} : ∀ (n a b : Nat) (ns : List Nd), b - a ≤ n → ∀ p ∈ prC U a b f t ns, p.1.length ≤ 61 ∧ p.2.length ≤ 61 := by
  intro n
  induction n with
  | zero => intro a b ns hn p hp; rw [prC_one ns (.inr (.inr (by omega)))] at hp; cases hp
  | succ n ih =>
    intro a b ns hn p hp
    by_cases hs : isOut a b f t = true ∨ isIn a b f t = true ∨ b < a + 2
    · rw [prC_one ns hs] at hp; cases hp
    · have p1 := hf_pos (b - a)
      have q1 := hf_lt (b - a) (by omega)
      rw [prC_two ns hs] at hp
      simp only [List.mem_append, List.mem_singleton] at hp
      rcases hp with (h | h) | h
      · exact ih _ _ _ (by omega) p h
      · exact ih _ _ _ (by omega) p h
      · subst h; exact ⟨abText_len _ _, abText_len _ _⟩

end Go.Proofs.YtogmdaopfnmobaaGreat

/- What the document's own answer does (notaryref): ExtractGrown. -/
namespace Go.Proofs.YtogmdaopfnmobaaGreat
open Go.RowKit

theorem lgf_own {l : List Int} {i : Nat} (hi : i < l.length) : lf false l (List.replicate l.length true) i = lgf l i := by
  have := lgf_lf (l := l) hi
  rwa [List.take_length] at this
theorem tr_own (l : List Int) (a b : Nat) (hb : b ≤ l.length) : tr (lf false l (List.replicate l.length true)) a b = tr (lgf l) a b := tr_congr (b - a) a b (Nat.le_refl _) (fun i _ hi => lgf_own (by omega))
theorem tr_pre (l : List Int) (n a b : Nat) (hb : b ≤ n) : tr (lf false (l.take n) (List.replicate n true)) a b = tr (lgf l) a b := tr_congr (b - a) a b (Nat.le_refl _) (fun i _ hi => lgf_lf (by omega))
/-- The pairs that may be told. -/
def prG (l old : List Int) (ns : List Nd) : List (List UInt8 × List UInt8) :=
  (prC (tr (lgf l)) 0 l.length 0 old.length ns ++ [(hdText l.length (cm 0 l.length 0 old.length ns), hdText l.length (tr (lgf l) 0 l.length))]) ++ (prT (tr (lgf old)) (tr (lgf l)) 0 old.length ++ [(hdText old.length (tr (lgf old) 0 old.length), hdText old.length (tr (lgf l) 0 old.length))])
theorem prG_len {l old : List Int} {ns : List Nd} (h1 : l.length ≤ 64) (h2 : old.length ≤ 64) : (prG l old ns).length ≤ 1000 := by
  have a := prC_len (U := tr (lgf l)) (f := 0) (t := old.length) l.length 0 l.length ns (by omega)
  have b := prT_len (T := tr (lgf old)) (U := tr (lgf l)) old.length 0 old.length (by omega)
  unfold prG
  simp only [List.length_append, List.length_singleton]
  omega
/-- What the document's ExtractGrown leaves. -/
def exgPost (l old : List Int) (ns : List Nd) (X : Int) (w : World) (e : Ending) (w' : World) : Prop :=
  ∃ pv, e = .returned (.tuple #[pv, .int .i64 X]) ∧ Below w.heap.size w w' ∧ (X ≠ 0 → pv = .slice none 0 0) ∧ (X = 0 → w'.ownsRow w.heap.size 107 2 pv (prG l old ns).length (prRow (prG l old ns)))

theorem wpList_append_both {P : Program} (w : World) {ops : Array Oper} {rest : List Oper} {o : Oper} {a : Act} {Q : Exit → Act → World → Prop} (hgd : o.guard = none) (s x : Operand) (t : TypeId)
    (ho : o.op = .call { callee := .builtin .append, args := #[s, x], argTypes := #[t, t] })
    (base base2 : Nat) (e : TypeId) (i : TypeInfo) (z : Value) (size bytes : Nat) (ht : P.underlying t = some (.slice e)) (hi : P.info? e = some i) (hz : i.zero = some z)
    (hsize : i.size = size) (hby : i.bytes = bytes) (hzs : z.cells.size = size) (hsz : 0 < size)
    (v r : Value) (n m : Nat) (xs ys : List Value) (hs : a.eval s = v) (hx : a.eval x = r) (hown : w.ownsRow base e size v n xs) (hr : w.ownsRow base2 e size r m ys) (h1 : ∀ u ∈ ys, u.oneCell' = true)
    (h63 : n + m ≤ maxLen) (hbytes : (n + m) * bytes ≤ 140737488355328) (hbase : base ≤ w.heap.size)
    (h : ∀ v' w', w'.ownsRow base e size v' (n + m) (xs ++ ys) → Grew w v w' v' → wpList P ops Q rest (a.put o.dst v') w') : wpList P ops Q (o :: rest) a w :=
  wpList_plain hgd fun _ hK => by
    obtain ⟨v', w', hrun, h2, h3⟩ := run_append_both (P := P) w base base2 t o.type e i z size bytes ht hi hz hsize hby hzs hsz v r n m xs ys hown hr h1 h63 hbytes hbase
    unfold Oper.wp execOp
    simp only [ho, resolve, invoke, builtin, Sem.run_bind, Sem.run_pure, Result.andThen_ok, List.map_toArray, List.map_cons, List.map_nil, hs, hx, hrun]
    exact hK _ _ (h v' w' h2 h3)

set_option maxHeartbeats 16000000 in
set_option maxRecDepth 100000 in
theorem refExG_any (w : World) (base R : Nat) (s : Sto) (lv : Value) (K H : Nat) (h : RSt w base R s lv K H) (v : Value) (old : List Int) (p : ByteArray) (hl : Cells1 w w.heap.size v (old.map (.int .i64))) (ho : ∀ x ∈ old, 0 ≤ x ∧ x ≤ 1000000) (h1 : 1 ≤ old.length) (h2 : old.length ≤ s.l.length) (hp : p.size ≤ maxLen) (E X : Int) (ns : List Nd)
    (hE : E = cgE old.length s.l.length ((dg (hdText old.length (tr (lgf old) 0 old.length)) : Int) / 256) ((dg (hdText old.length (tr (lgf old) 0 old.length)) : Int) % 256) ((dg (hdText s.l.length (tr (lgf s.l) 0 s.l.length)) : Int) / 256) ((dg (hdText s.l.length (tr (lgf s.l) 0 s.l.length)) : Int) % 256) (readR p.data.toList))
    (hX : (E ≠ 0 ∧ X = E) ∨ (E = 0 ∧ old = s.l.take old.length ∧ X = 11) ∨ (E = 0 ∧ old ≠ s.l.take old.length ∧ X = 0 ∧ readR p.data.toList = some ns ∧ (cov 0 s.l.length 0 old.length).length ≤ ns.length ∧ (cm 0 s.l.length 0 old.length ns).ok = true ∧ ns.length ≤ 1000)) :
    Calls Tryz.prog 12 #[.pointer (some ⟨R, 0, none⟩), v, .string p] w (exgPost s.l old ns X w) := by
  have hlen := h.ok.len
  have hval := h.ok.val
  have HCS : Hid (∀ w', Below w.heap.size w w' → w'.cell? ⟨R, 0, none⟩ = some lv) := hid fun w' hb => (h.below hb).cells.1.1
  have c0 := HCS.out w (Below.refl _ _)
  have hRl := h.lt.1
  have HLg := hid h.log1
  have HHd : ∀ w', Hid (Below w.heap.size w w' → Calls Tryz.prog 40 #[.pointer (some ⟨R, 0, none⟩), .int .i64 0, .int .i64 s.l.length] w' fun e w2 => e = .returned (headV s.l.length (dg (hdText s.l.length (tr (lgf s.l) 0 s.l.length)))) ∧ Below w'.heap.size w' w2) := fun w' => hid fun hb => by
    have := rHead_any w' base R s lv K H 0 s.l.length (h.below hb)
    rw [hdA, if_pos ⟨rfl, by omega, by omega⟩, Int.toNat_natCast] at this
    exact this
  obtain ⟨ao1, cap1, rfl, hcp, _⟩ := capP h.hL
  obtain ⟨ao, cap, rfl, hc⟩ := hl.ex
  have HOld := hid hl
  have HLo : ∀ w', Hid (Below w.heap.size w w' → Calls Tryz.prog 14 #[.slice ao old.length cap] w' (logPost (.slice ao old.length cap) old w')) := fun w' => hid fun hb => refLogOf_any _ old w' (by have := (hl.below hb).mono hb.size; simpa using this) ho (by omega)
  have HLn : ∀ w', Hid (Below w.heap.size w w' → Calls Tryz.prog 14 #[.slice ao1 s.l.length cap1] w' (logPost (.slice ao1 s.l.length cap1) s.l w')) := fun w' => hid fun hb => refLogOf_any _ s.l w' ((HLg.out.below hb).mono hb.size) hval hlen
  obtain ⟨ao1', cap1', hve, hc2⟩ := HLg.out.ex
  simp only [List.length_map] at hve hc hc2 HOld ⊢
  simp only [Value.slice.injEq] at hve
  obtain ⟨rfl, _, rfl⟩ := hve
  have HWo : ∀ w' vv hv, Hid (TreeIn w' w'.heap.size vv hv old (List.replicate old.length true) → Calls Tryz.prog 15 #[.agg #[.bool false, vv, hv]] w' fun e w2 => e = .returned (ndV (tr (lgf old) 0 old.length)) ∧ Below w'.heap.size w' w2) := fun w' vv hv => hid fun hT => by
    have := refWhole_any false vv hv old _ w' hT
    rw [tr_own old 0 old.length (Nat.le_refl _)] at this
    exact this
  have HRt : ∀ w', Hid (Calls Tryz.prog 16 #[.int .i64 old.length, ndV (tr (lgf old) 0 old.length)] w' _) := fun w' => hid (refRoot_any old.length _ w' (by omega) ((tr_U (lgf_bd ho)).ok 0 _ (by omega)))
  have HGr : ∀ w', Hid (Calls Tryz.prog 41 #[.agg #[.int .i64 old.length, .int .u8 ((dg (hdText old.length (tr (lgf old) 0 old.length)) : Int) / 256), .int .u8 ((dg (hdText old.length (tr (lgf old) 0 old.length)) : Int) % 256)], .agg #[.int .i64 s.l.length, .int .u8 ((dg (hdText s.l.length (tr (lgf s.l) 0 s.l.length)) : Int) / 256), .int .u8 ((dg (hdText s.l.length (tr (lgf s.l) 0 s.l.length)) : Int) % 256)], .string p] w' fun e w2 => e = .returned (.int .i64 E) ∧ Below w'.heap.size w' w2) := fun w' => hid (by
    have := refGrows_any old.length s.l.length ((dg (hdText old.length (tr (lgf old) 0 old.length)) : Int) / 256) ((dg (hdText old.length (tr (lgf old) 0 old.length)) : Int) % 256) ((dg (hdText s.l.length (tr (lgf s.l) 0 s.l.length)) : Int) / 256) ((dg (hdText s.l.length (tr (lgf s.l) 0 s.l.length)) : Int) % 256) p w' h1 h2 hlen hp
    rw [← hE] at this
    exact this)
  simp only [headV] at HHd
  generalize (dg (hdText s.l.length (tr (lgf s.l) 0 s.l.length)) : Int) / 256 = d0 at HHd HGr
  generalize (dg (hdText s.l.length (tr (lgf s.l) 0 s.l.length)) : Int) % 256 = d1 at HHd HGr
  generalize (dg (hdText old.length (tr (lgf old) 0 old.length)) : Int) / 256 = e0 at HRt HGr
  generalize (dg (hdText old.length (tr (lgf old) 0 old.length)) : Int) % 256 = e1 at HRt HGr
  generalize hd : tr (lgf old) 0 old.length = d at HWo HRt
  clear hd
  simp only [ndV] at HWo HRt
  have HX := hid hX
  have HO := hid ho
  have HVl := hid hval
  clear hX hE h hl ho hval
  have i1 : ¬ (old.length : Int) < 1 := by omega
  have i3 : ¬ (s.l.length : Int) < old.length := by omega
  go_enter Tryz.func12, Tryz.ntmps12
  go_wp2
  go_loopw [8, 9] (fun b i wr => ∃ k : Nat, k ≤ old.length ∧ i = .int .i64 k ∧ b = .bool (decide (old.take k = s.l.take k)) ∧ Hid (Below w.heap.size w wr)) (fun _ i _ => old.length - (intOf i).toNat)
  case atStart => exact ⟨0, Nat.zero_le _, rfl, by simp, hid (Below.refl _ _)⟩
  case round =>
    obtain ⟨k, hk, rfl, rfl, HBl⟩ := hrel
    have cR := (HBl.out.cell (p := ⟨R, 0, none⟩) hRl).trans c0
    by_cases hlt : k < old.length
    · have hlt2 : k < s.l.length := by omega
      obtain ⟨b, off, rfl, hbB, hcs⟩ := hc k (by simpa using hlt)
      obtain ⟨b2, off2, rfl, hbB2, hcs2⟩ := hc2 k (by simpa using hlt2)
      have hcx : wr.cell? ⟨b, off + k, none⟩ = some (.int .i64 old[k]) := by simpa using (HBl.out.cell (p := ⟨b, off + k, none⟩) hbB).trans hcs
      have hcx2 : wr.cell? ⟨b2, off2 + k, none⟩ = some (.int .i64 s.l[k]) := by simpa using (HBl.out.cell (p := ⟨b2, off2 + k, none⟩) hbB2).trans hcs2
      have HNx := hid (same_next hlt hlt2)
      have hv : isVal old[k] = true := (isVal_iff _).2 (HO.out _ (List.getElem_mem hlt))
      generalize old[k] = x at hcx HNx hv
      generalize s.l[k] = y at hcx2 HNx
      clear hcs hcs2 hc hc2 HHd HLo HLn HWo HRt HGr HX HO HVl HOld HLg HCS
      cases hb : decide (old.take k = s.l.take k) with
      | false =>
        rw [hb] at HNx
        go_wp2_with (go_at_call 39; refine (refValue_any _ _ true hv).mono ?_; rintro e w1 ⟨rfl, hw1⟩; rw [hw1]; clear hw1 w1)
        go_quiet (fail)
        go_wp2
        go_roundw
        case rel => exact ⟨k + 1, by omega, by push_cast; rfl, by rw [HNx.out]; rfl, hid (HBl.out.trans ((below_drewN wr nq).mono HBl.out.size))⟩
        case measure => simp [intOf]; omega
      | true =>
        rw [hb] at HNx
        by_cases hxy : x = y
        · subst hxy
          go_wp2_with (go_at_call 39; refine (refValue_any _ _ true hv).mono ?_; rintro e w1 ⟨rfl, hw1⟩; rw [hw1]; clear hw1 w1)
          go_quiet (fail)
          go_wp2
          go_roundw
          case rel => exact ⟨k + 1, by omega, by push_cast; rfl, by rw [HNx.out]; simp, hid (HBl.out.trans ((below_drewN wr nq).mono HBl.out.size))⟩
          case measure => simp [intOf]; omega
        · have hxy' : (x == y) = false := by simpa using hxy
          go_wp2_with (go_at_call 39; refine (refValue_any _ _ true hv).mono ?_; rintro e w1 ⟨rfl, hw1⟩; rw [hw1]; clear hw1 w1)
          go_quiet (fail)
          go_wp2
          go_roundw
          case rel => exact ⟨k + 1, by omega, by push_cast; rfl, by rw [HNx.out]; simp [hxy], hid (HBl.out.trans ((below_drewN wr nq).mono HBl.out.size))⟩
          case measure => simp [intOf]; omega
    · obtain rfl : k = old.length := by omega
      rw [List.take_length]
      clear hc hc2 hlt
      go_wp2_with fail
      refine ((HLo wr).out HBl.out).mono ?_
      rintro e w1 ⟨⟨g1, rfl, hg1, hT1⟩, hb1⟩
      have HB1 := hid (HBl.out.trans (hb1.mono HBl.out.size))
      have HT1 := hid hT1
      clear hb1 hT1 HBl cR
      go_wp2_with fail
      refine ((HWo w1 _ _).out HT1.out).mono ?_
      rintro e w2 ⟨rfl, hb2⟩
      have HB2 := hid (HB1.out.trans (hb2.mono HB1.out.size))
      clear hb2 HT1 HB1 hg1
      have c2 := HCS.out w2 HB2.out
      have l2 : R < w2.heap.size := by have := HB2.out.size; omega
      go_wp2_with fail
      obtain ⟨W2, hW2⟩ : ∃ W, W = w2.alloc (.cells #[.int .i64 d.c, .int .i64 d.s, .int .i64 d.m, .int .i64 d.x, .int .u8 (d.h.toNat : Int), .int .u8 (d.g.toNat : Int)] 51) := ⟨_, rfl⟩
      have HD2 : Hid (NdAt W2 w2.heap.size d ∧ Below w.heap.size w W2) := hid (hW2 ▸ ⟨nd_new w2 d _ rfl, HB2.out.alloc HB2.out.size _⟩)
      rw [← hW2]
      clear hW2 c2 l2 HB2
      generalize w2.heap.size = gd at HD2 ⊢
      refine ((HHd W2).out HD2.out.2).mono ?_
      rintro e w3 ⟨rfl, hb3⟩
      have HD3 : Hid (NdAt w3 gd d ∧ Below w.heap.size w w3) := hid ⟨nd_below HD2.out.1 hb3 HD2.out.1.lt, HD2.out.2.trans (hb3.mono HD2.out.2.size)⟩
      obtain ⟨⟨k0, k1, k2, k3, k4, k5⟩, _⟩ := HD3.out.1.cells
      have l3 := HD3.out.1.lt
      clear hb3 HD2 HHd
      go_wp2_with fail
      obtain ⟨W3, hW3⟩ : ∃ W, W = w3.alloc (.cells #[.int .i64 (s.l.length : Int), .int .u8 d0, .int .u8 d1] 58) := ⟨_, rfl⟩
      have HD4 : Hid (W3.heap[w3.heap.size]? = some (.cells #[.int .i64 (s.l.length : Int), .int .u8 d0, .int .u8 d1] 58 (0, 0)) ∧ Below w.heap.size w W3) := hid (hW3 ▸ ⟨heap_one w3 _ _ rfl, HD3.out.2.alloc HD3.out.2.size _⟩)
      rw [← hW3]
      clear hW3 k0 k1 k2 k3 k4 k5 l3 HD3
      generalize w3.heap.size = gh at HD4 ⊢
      refine (HRt W3).out.mono ?_
      rintro e w4 ⟨rfl, hb4⟩
      have HD5 : Hid (w4.heap[gh]? = some (.cells #[.int .i64 (s.l.length : Int), .int .u8 d0, .int .u8 d1] 58 (0, 0)) ∧ Below w.heap.size w w4) := hid ⟨(hb4.block gh (Array.getElem?_eq_some_iff.1 HD4.out.1).1).trans HD4.out.1, HD4.out.2.trans (hb4.mono HD4.out.2.size)⟩
      have k0 : w4.cell? ⟨gh, 0, none⟩ = some (.int .i64 (s.l.length : Int)) := by rw [cell_of_row w4 _ _ _ _ _ HD5.out.1]; rfl
      have k1 : w4.cell? ⟨gh, 1, none⟩ = some (.int .u8 d0) := by rw [cell_of_row w4 _ _ _ _ _ HD5.out.1]; rfl
      have k2 : w4.cell? ⟨gh, 2, none⟩ = some (.int .u8 d1) := by rw [cell_of_row w4 _ _ _ _ _ HD5.out.1]; rfl
      have l4 : gh < w4.heap.size := (Array.getElem?_eq_some_iff.1 HD5.out.1).1
      clear hb4 HRt HD4
      go_wp2_with fail
      refine (HGr _).out.mono ?_
      rintro e w5 ⟨rfl, hb5⟩
      have HB5 : Hid (Below w.heap.size w w5) := hid ((HD5.out.2.alloc HD5.out.2.size _).trans (hb5.mono (by have := HD5.out.2.size; simp; omega)))
      clear hb5 HGr HD5 k0 k1 k2 l4
      rcases HX.out with ⟨hE0, hXE⟩ | ⟨hE0, hq, hXE⟩ | ⟨hE0, hq, hXE, hrd, hcl, hcm, hnl⟩
      · have hEb : (E == 0) = false := by simpa using hE0
        subst hXE
        clear HX
        go_wp2
        go_ret2
        exact ⟨_, rfl, HB5.out, fun _ => rfl, fun c => absurd c hE0⟩
      · have hd : decide (old = s.l.take old.length) = true := decide_eq_true hq
        subst hE0 hXE
        rw [hd]
        clear HX hq hd
        go_wp2
        go_ret2
        exact ⟨_, rfl, HB5.out, fun _ => rfl, fun c => by cases c⟩
      · have hd : decide (old = s.l.take old.length) = false := decide_eq_false hq
        subst hE0 hXE
        rw [hd]
        have hok : ∀ d ∈ ns, d.ok = true := fun d hd => List.all_eq_true.1 (write_read _ _ hrd).2.1 d hd
        have HRd : ∀ w', Hid (Calls Tryz.prog 42 #[.string p] w' fun e w2 => ∃ ao cp, e = .returned (.tuple #[.slice ao ns.length cp, .int .i64 0]) ∧ Nodes w2 w2.heap.size (.slice ao ns.length cp) ns ∧ ns.length ≤ cp ∧ cp ≤ 9223372036854775807 ∧ Below w'.heap.size w' w2) := fun w' => hid (by
          have := refRead_any p w' hp
          rw [hrd] at this
          refine this.mono ?_
          rintro e w2 ⟨v, he, ho, hb⟩
          obtain ⟨ao, cp, rfl, h1, h2⟩ := own_shape2 ho
          exact ⟨ao, cp, he, Nodes.own ho (by omega), h1, h2, hb⟩)
        have HPr : ∀ w' ao cp hv, Hid (Nodes w' w'.heap.size (.slice ao ns.length cp) ns → ns.length ≤ cp → cp ≤ 9223372036854775807 → TreeIn w' w'.heap.size (.slice ao1 s.l.length cap1) hv s.l (List.replicate s.l.length true) → Calls Tryz.prog 43 #[.slice ao ns.length cp, .agg #[.bool false, .slice ao1 s.l.length cap1, hv], .int .i64 0, .int .i64 old.length] w' (ptPost (prC (tr (lgf s.l)) 0 s.l.length 0 old.length ns ++ [(hdText s.l.length (cm 0 s.l.length 0 old.length ns), hdText s.l.length (tr (lgf s.l) 0 s.l.length))]) w')) := fun w' ao cp hv => hid fun hN h1 h2' hT => by
          have := refPairs_any false ao1 cap1 hv s.l (List.replicate s.l.length true) 0 old.length ao cp ns w' hN h1 h2' hok hT (by omega) (by omega) hcl hcm
          rw [tr_own s.l 0 s.l.length (Nat.le_refl _), prC_congr (fun a b _ hb => tr_own s.l a b hb) s.l.length 0 s.l.length ns (by omega) (by omega) (Nat.le_refl _)] at this
          exact this
        have HBt : ∀ w' hv vv2 hv2, Hid (TreeIn w' w'.heap.size (.slice ao old.length cap) hv old (List.replicate old.length true) → TreeIn w' w'.heap.size vv2 hv2 (s.l.take old.length) (List.replicate old.length true) → Calls Tryz.prog 44 #[.agg #[.bool false, .slice ao old.length cap, hv], .agg #[.bool false, vv2, hv2]] w' (ptPost (prT (tr (lgf old)) (tr (lgf s.l)) 0 old.length ++ [(hdText old.length (tr (lgf old) 0 old.length), hdText old.length (tr (lgf s.l) 0 old.length))]) w')) := fun w' hv vv2 hv2 => hid fun hT1 hT2 => by
          have hlt : (s.l.take old.length).length = old.length := by simp; omega
          have := refBoth_any ao cap hv vv2 hv2 old (s.l.take old.length) (List.replicate old.length true) (List.replicate old.length true) w' hT1 hT2 hlt
          rw [tr_own old 0 old.length (Nat.le_refl _), tr_pre s.l old.length 0 old.length (Nat.le_refl _), prT_congr (fun a b _ hb => tr_own old a b hb) (fun a b _ hb => tr_pre s.l old.length a b hb) old.length 0 old.length (by omega) (by omega) (Nat.le_refl _)] at this
          exact this
        have hpl := prG_len (ns := ns) hlen (show old.length ≤ 64 by omega)
        have HG : Hid (prG s.l old ns = (prC (tr (lgf s.l)) 0 s.l.length 0 old.length ns ++ [(hdText s.l.length (cm 0 s.l.length 0 old.length ns), hdText s.l.length (tr (lgf s.l) 0 s.l.length))]) ++ (prT (tr (lgf old)) (tr (lgf s.l)) 0 old.length ++ [(hdText old.length (tr (lgf old) 0 old.length), hdText old.length (tr (lgf s.l) 0 old.length))])) := hid rfl
        simp only [prG] at hpl
        generalize prC (tr (lgf s.l)) 0 s.l.length 0 old.length ns ++ [(hdText s.l.length (cm 0 s.l.length 0 old.length ns), hdText s.l.length (tr (lgf s.l) 0 s.l.length))] = L1 at HPr hpl HG
        generalize prT (tr (lgf old)) (tr (lgf s.l)) 0 old.length ++ [(hdText old.length (tr (lgf old) 0 old.length), hdText old.length (tr (lgf s.l) 0 old.length))] = L2 at HBt hpl HG
        obtain ⟨SV, hSV, HSC⟩ : ∃ SV, (∀ w', (Instr.slice 25 (.slice ao1 s.l.length cap1) none (some (.int .i64 (old.length : Int))) none).run Tryz.prog w' = .ok SV w') ∧ Hid (Cells1 w w.heap.size SV ((s.l.take old.length).map (.int .i64))) := by
          refine ⟨.slice (if cap1 = 0 then ao1 else ao1.map (·.add (0 * 1))) old.length (cap1 - 0), fun w' => grun_slice0 w' ao1 _ cap1 old.length (by omega), hid ?_⟩
          have := HLg.out.pre old.length (by simp; omega) (by simp; omega)
          rw [List.map_take]
          exact this
        have HLs : ∀ w', Hid (Below w.heap.size w w' → Calls Tryz.prog 14 #[SV] w' fun e w2 => (∃ g, e = .returned (.agg #[.bool false, SV, .slice (some ⟨g, 0, none⟩) old.length old.length]) ∧ TreeIn w2 w2.heap.size SV (.slice (some ⟨g, 0, none⟩) old.length old.length) (s.l.take old.length) (List.replicate old.length true)) ∧ Below w'.heap.size w' w2) := fun w' => hid fun hb => by
          have hlt : (s.l.take old.length).length = old.length := by simp; omega
          refine (refLogOf_any SV _ w' ((HSC.out.below hb).mono hb.size) (fun v hv => HVl.out v (List.mem_of_mem_take hv)) (by simp; omega)).mono ?_
          rintro e w2 ⟨⟨g, he, _, hT⟩, hb2⟩
          rw [hlt] at he hT
          exact ⟨⟨g, he, hT⟩, hb2⟩
        have HLq : ∀ w', Hid (Below w.heap.size w w' → Calls Tryz.prog 14 #[.slice ao old.length cap] w' (logPost (.slice ao old.length cap) old w')) := HLo
        clear HX hq hd hok hrd hcl hcm HSC HLo HWo HO HVl
        go_wp2_with fail
        refine (HRd w5).out.mono ?_
        rintro e w6 ⟨ao3, cp3, rfl, hN6, hc6, hc6', hb6⟩
        have HN6 := hid hN6
        have HB6 := hid (HB5.out.trans (hb6.mono HB5.out.size))
        clear hN6 hb6 HB5 HRd
        have k6 := HCS.out w6 HB6.out
        go_wp2_with fail
        refine ((HLn w6).out HB6.out).mono ?_
        rintro e w7 ⟨⟨g7, rfl, hg7, hT7⟩, hb7⟩
        have HT7 := hid hT7
        have HN7 := hid ((HN6.out.below hb7).mono hb7.size)
        have HB7 := hid (HB6.out.trans (hb7.mono HB6.out.size))
        clear hT7 hb7 HN6 HB6 k6 hg7
        go_wp2_with fail
        refine ((HPr w7 ao3 cp3 _).out HN7.out hc6 hc6' HT7.out).mono ?_
        rintro e w8 ⟨pv, rfl, ho8, hb8⟩
        obtain ⟨a8, q8, rfl⟩ := own_shape ho8
        have HB8 := hid (HB7.out.trans (hb8.mono HB7.out.size))
        have HO8 := hid (own_mono' ho8 HB7.out.size)
        clear ho8 hb8 HN7 HT7 HB7 HPr hc6 hc6'
        have k8 := HCS.out w8 HB8.out
        go_wp2_with fail
        have s8 := HB8.out.size
        go_region_held3 (fun w' => w'.cell? ⟨R, 0, none⟩ = some (.slice ao1 s.l.length cap1))
          (first | exact HCS.out _ (HB8.out.trans (Below.mono (by (repeat (first | (with_reducible exact hB11) | (with_reducible exact hB10) | (with_reducible exact hB9) | (with_reducible exact Below.refl _ _) | (with_reducible apply Below.drew)))) s8)) | go_keep)
          (first
            | (go_at_call 14; first
              | (refine ((HLq _).out (HB8.out.trans (Below.mono (by (repeat (first | (with_reducible exact hB11) | (with_reducible exact hB10) | (with_reducible exact hB9) | (with_reducible exact Below.refl _ _) | (with_reducible apply Below.drew)))) s8))).mono ?_; rintro e w9 ⟨⟨g9, rfl, hg9, hT9⟩, hb9⟩; have hB9 : Below w8.heap.size w8 w9 := Below.trans (by (repeat (first | (with_reducible exact hB11) | (with_reducible exact hB10) | (with_reducible exact hB9) | (with_reducible exact Below.refl _ _) | (with_reducible apply Below.drew)))) (hb9.mono (by exact Nat.le_refl _)); have HT9 := hid hT9; clear hT9 hb9 hg9 HLq)
              | (refine ((HLs _).out (HB8.out.trans (Below.mono (by (repeat (first | (with_reducible exact hB9) | (with_reducible exact Below.refl _ _) | (with_reducible apply Below.drew)))) s8))).mono ?_; rintro e w10 ⟨⟨g10, rfl, hT10⟩, hb10⟩; have HT10 := hid hT10; have HQ10 : Hid (Below w9.heap.size w9 w10) := hid hb10; have hB10 : Below w8.heap.size w8 w10 := hB9.trans (hb10.mono hB9.size); clear hT10 hb10 HLs))
            | (go_at_call 44; (refine ((HBt _ _ _ _).out ((HT9.out.below HQ10.out).mono HQ10.out.size) HT10.out).mono ?_; rintro e w11 ⟨pv2, rfl, ho11, hb11⟩; have hB11 : Below w8.heap.size w8 w11 := hB10.trans (hb11.mono hB10.size); have HO11 := hid (own_mono' ho11 hB10.size); clear ho11 hb11 HT10 HQ10 HT9)))
        all_goals
          have HB11 := hid hB11
          clear hB9 hB10 hB11
          obtain ⟨a11, q11, e11⟩ := own_shape HO11.out
          subst e11
          obtain ⟨i0, hi, hz0, hz1, hz2⟩ := info_parts info_pair
          have hown : w11.ownsRow w.heap.size 107 2 (.slice a8 L1.length q8) L1.length (prRow L1) := ownsRow_below HO8.out HB11.out
          have hlL : L1.length + L2.length ≤ 1000 := by simpa using hpl
          have s11 : w.heap.size ≤ w11.heap.size := by have := HB11.out.size; omega
          have HIO : Hid (∀ k ∈ ob (.slice a8 L1.length q8), w.heap.size ≤ k) := hid fun k hk => (own_in hown k hk).1
          clear HO8
          go_wp2_with (at_builtin; refine wpList_append_both _ rfl _ _ 39 rfl w.heap.size w8.heap.size 107 i0 (.agg #[.string ⟨#[]⟩, .string ⟨#[]⟩]) 2 32 Tryz.underlying39 hi hz0 hz1 hz2 rfl (by decide) _ _ _ _ _ _ rfl rfl hown HO11.out (prRow_one _) (by unfold maxLen; omega) (by omega) s11 ?_)
          rintro v12 w12 ho12 hg12
          have HF := hid (And.intro ho12 ((HB8.out.trans (HB11.out.mono s8)).trans (hg12.toBelow w.heap.size s11 (fun k hk => HIO.out k (mem_ob.2 hk)))))
          clear ho12 hg12 hown HIO HO11 HB11
          go_wp2
          go_ret2
          exact ⟨_, rfl, HF.out.2, fun c => absurd rfl c, fun _ => by
            rw [HG.out]
            exact own_cast HF.out.1 (by simp) (by rw [prRow_append])⟩

end Go.Proofs.YtogmdaopfnmobaaGreat

