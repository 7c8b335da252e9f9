/- So5. -/
import Derived.Test.YtogmdaopfnmobaaGreatA40
import Derived.Test.YtogmdaopfnmobaaGreatA48
import Derived.Test.YtogmdaopfnmobaaGreatA47
import Derived.Test.YtogmdaopfnmobaaGreatA39
import Derived.Test.YtogmdaopfnmobaaGreatA45
namespace Go.Proofs.YtogmdaopfnmobaaGreat
open Go.RowKit Go.Maps
attribute [local go_sem ↓] run_eql_fold
def ckR (n : Nat) (f u : Int) (d0 d1 : Int) (claim : Fo) (o : Option (List Nd)) : Int := if rgB f u n then ckE n f.toNat u.toNat d0 d1 claim o else 5
theorem scheck (tree : Int) (n : Nat) (f u d0 d1 c s m x : Int) (p : ByteArray) (hs : p.size ≤ maxLen) (hz : szB tree n = true) :
    (∀ w, Calls Tryz.prog 25 #[.int .i64 tree, .agg #[.int .i64 n, .int .u8 d0, .int .u8 d1], .int .i64 f, .int .i64 u, .agg #[.int .i64 c, .int .i64 s, .int .i64 m, .int .i64 x], .string p] w fun e w' => e = .returned (.int .i64 (ckR n f u d0 d1 ⟨c, s, m, x⟩ (readR p.data.toList))) ∧ Below w.heap.size w w') ∧
    (∀ w, Calls Tryz.prog 98 #[.int .i64 tree, .agg #[.int .i64 n, .int .u8 d0, .int .u8 d1], .int .i64 f, .int .i64 u, .agg #[.int .i64 c, .int .i64 s, .int .i64 m, .int .i64 x], .string p] w fun e w' => e = .returned (.int .i64 (ckR n f u d0 d1 ⟨c, s, m, x⟩ (readR p.data.toList))) ∧ Below w.heap.size w w') := by
  have hzz := hz
  simp only [szB, decide_eq_true_eq] at hzz
  unfold ckR
  cases hr : rgB f u n with
  | false =>
    refine ⟨fun w => check_bad tree n f u d0 d1 c s m x p w (.inr hr), fun w => ?_⟩
    have hb : f < 0 ∨ u < f ∨ (n : Int) < u := by
      have := of_decide_eq_false hr
      omega
    rcases hzz with ⟨rfl, h2⟩ | ⟨rfl, h2⟩
    · exact refClaims_range0 n f u d0 d1 c s m x p w h2 hb
    · exact refClaims_range1 n f u d0 d1 c s m x p w h2 hb
  | true =>
    have hrr := of_decide_eq_true hr
    obtain ⟨F, rfl⟩ : ∃ F : Nat, f = F := ⟨f.toNat, by omega⟩
    obtain ⟨T, rfl⟩ : ∃ T : Nat, u = T := ⟨u.toNat, by omega⟩
    simp only [if_true, Int.toNat_natCast]
    refine ⟨fun w => check_good tree n F T d0 d1 c s m x p w hz (by omega) (by omega) (by omega) hs, fun w => ?_⟩
    have hok : ∀ ns, readR p.data.toList = some ns → ∀ d ∈ ns, d.ok = true := fun ns ho => List.all_eq_true.1 (write_read _ _ ho).2.1
    rw [← ckE_clE n F T d0 d1 ⟨c, s, m, x⟩ _ (by omega) hok]
    rcases hzz with ⟨rfl, h2⟩ | ⟨rfl, h2⟩
    · exact refClaims_any0 n F T d0 d1 c s m x p w (by omega) (by omega) (by omega) hs
    · obtain rfl : n = 32 := by omega
      exact refClaims_any1 F T d0 d1 c s m x p w (by omega) (by omega) hs
theorem prC_congr {U V : Nat → Nat → Nd} {f t N : Nat} (h : ∀ a b, a ≤ b → b ≤ N → U a b = V a b) : ∀ (n a b : Nat) (ns : List Nd), b - a ≤ n → a ≤ b → b ≤ N → prC U a b f t ns = prC V a b f t ns := by
  intro n
  induction n with
  | zero => intro a b ns hn _ _; rw [prC_one ns (.inr (.inr (by omega))), prC_one ns (.inr (.inr (by omega)))]
  | succ n ih =>
    intro a b ns hn hab hb
    by_cases hs : isOut a b f t = true ∨ isIn a b f t = true ∨ b < a + 2
    · rw [prC_one ns hs, prC_one ns hs]
    · have p := hf_pos (b - a)
      have q := hf_lt (b - a) (by omega)
      rw [prC_two ns hs, prC_two ns hs, ih a (a + hf (b - a)) ns (by omega) (by omega) (by omega), ih (a + hf (b - a)) b _ (by omega) (by omega) hb, h a (a + hf (b - a)) (by omega) (by omega), h (a + hf (b - a)) b (by omega) hb]
theorem abText_len (x y : Nd) : (abText x y).length ≤ 61 := by
  have := x.bytes_length
  have := y.bytes_length
  unfold abText
  split
  · simp
  · simp; omega
theorem prC_small {U : Nat → Nat → Nd} {f t : Nat} : ∀ (n a b : Nat) (ns : List Nd), b - a ≤ n → ∀ p ∈ prC U a b f t ns, p.1.length ≤ 61 ∧ p.2.length ≤ 61 := by
  intro n
  induction n with
  | zero => intro a b ns hn p hp; rw [prC_one ns (.inr (.inr (by omega)))] at hp; cases hp
  | succ n ih =>
    intro a b ns hn p hp
    by_cases hs : isOut a b f t = true ∨ isIn a b f t = true ∨ b < a + 2
    · rw [prC_one ns hs] at hp; cases hp
    · have p1 := hf_pos (b - a)
      have q1 := hf_lt (b - a) (by omega)
      rw [prC_two ns hs] at hp
      simp only [List.mem_append, List.mem_singleton] at hp
      rcases hp with (h | h) | h
      · exact ih _ _ _ (by omega) p h
      · exact ih _ _ _ (by omega) p h
      · subst h; exact ⟨abText_len _ _, abText_len _ _⟩
end Go.Proofs.YtogmdaopfnmobaaGreat

/- What the document's own answer does (notaryref): ExtractGrown. -/
namespace Go.Proofs.YtogmdaopfnmobaaGreat
open Go.RowKit
theorem lgf_own {l : List Int} {i : Nat} (hi : i < l.length) : lf false l (List.replicate l.length true) i = lgf l i := by
  have := lgf_lf (l := l) hi
  rwa [List.take_length] at this
theorem tr_own (l : List Int) (a b : Nat) (hb : b ≤ l.length) : tr (lf false l (List.replicate l.length true)) a b = tr (lgf l) a b := tr_congr (b - a) a b (Nat.le_refl _) (fun i _ hi => lgf_own (by omega))
theorem tr_pre (l : List Int) (n a b : Nat) (hb : b ≤ n) : tr (lf false (l.take n) (List.replicate n true)) a b = tr (lgf l) a b := tr_congr (b - a) a b (Nat.le_refl _) (fun i _ hi => lgf_lf (by omega))
def prG (l old : List Int) (ns : List Nd) : List (List UInt8 × List UInt8) :=
  (prC (tr (lgf l)) 0 l.length 0 old.length ns ++ [(hdText l.length (cm 0 l.length 0 old.length ns), hdText l.length (tr (lgf l) 0 l.length))]) ++ (prT (tr (lgf old)) (tr (lgf l)) 0 old.length ++ [(hdText old.length (tr (lgf old) 0 old.length), hdText old.length (tr (lgf l) 0 old.length))])
theorem prG_len {l old : List Int} {ns : List Nd} (h1 : l.length ≤ 64) (h2 : old.length ≤ 64) : (prG l old ns).length ≤ 1000 := by
  have a := prC_len (U := tr (lgf l)) (f := 0) (t := old.length) l.length 0 l.length ns (by omega)
  have b := prT_len (T := tr (lgf old)) (U := tr (lgf l)) old.length 0 old.length (by omega)
  unfold prG
  simp only [List.length_append, List.length_singleton]
  omega
def exgPost (l old : List Int) (ns : List Nd) (X : Int) (w : World) (e : Ending) (w' : World) : Prop :=
  ∃ pv, e = .returned (.tuple #[pv, .int .i64 X]) ∧ Below w.heap.size w w' ∧ (X ≠ 0 → pv = .slice none 0 0) ∧ (X = 0 → w'.ownsRow w.heap.size 107 2 pv (prG l old ns).length (prRow (prG l old ns)))
theorem wpList_append_both {P : Program} (w : World) {ops : Array Oper} {rest : List Oper} {o : Oper} {a : Act} {Q : Exit → Act → World → Prop} (hgd : o.guard = none) (s x : Operand) (t : TypeId)
    (ho : o.op = .call { callee := .builtin .append, args := #[s, x], argTypes := #[t, t] })
    (base base2 : Nat) (e : TypeId) (i : TypeInfo) (z : Value) (size bytes : Nat) (ht : P.underlying t = some (.slice e)) (hi : P.info? e = some i) (hz : i.zero = some z)
    (hsize : i.size = size) (hby : i.bytes = bytes) (hzs : z.cells.size = size) (hsz : 0 < size)
    (v r : Value) (n m : Nat) (xs ys : List Value) (hs : a.eval s = v) (hx : a.eval x = r) (hown : w.ownsRow base e size v n xs) (hr : w.ownsRow base2 e size r m ys) (h1 : ∀ u ∈ ys, u.oneCell' = true)
    (h63 : n + m ≤ maxLen) (hbytes : (n + m) * bytes ≤ 140737488355328) (hbase : base ≤ w.heap.size)
    (h : ∀ v' w', w'.ownsRow base e size v' (n + m) (xs ++ ys) → Grew w v w' v' → wpList P ops Q rest (a.put o.dst v') w') : wpList P ops Q (o :: rest) a w :=
  wpList_plain hgd fun _ hK => by
    obtain ⟨v', w', hrun, h2, h3⟩ := run_append_both (P := P) w base base2 t o.type e i z size bytes ht hi hz hsize hby hzs hsz v r n m xs ys hown hr h1 h63 hbytes hbase
    unfold Oper.wp execOp
    simp only [ho, resolve, invoke, builtin, Sem.run_bind, Sem.run_pure, Result.andThen_ok, List.map_toArray, List.map_cons, List.map_nil, hs, hx, hrun]
    exact hK _ _ (h v' w' h2 h3)
set_option maxHeartbeats 16000000 in
set_option maxRecDepth 100000 in
theorem refExG_any (w : World) (base R : Nat) (s : Sto) (lv : Value) (K H : Nat) (h : RSt w base R s lv K H) (v : Value) (old : List Int) (p : ByteArray) (hl : Cells1 w w.heap.size v (old.map (.int .i64))) (ho : ∀ x ∈ old, 0 ≤ x ∧ x ≤ 1000000) (h1 : 1 ≤ old.length) (h2 : old.length ≤ s.l.length) (hp : p.size ≤ maxLen) (E X : Int) (ns : List Nd)
    (hE : E = cgE old.length s.l.length ((dg (hdText old.length (tr (lgf old) 0 old.length)) : Int) / 256) ((dg (hdText old.length (tr (lgf old) 0 old.length)) : Int) % 256) ((dg (hdText s.l.length (tr (lgf s.l) 0 s.l.length)) : Int) / 256) ((dg (hdText s.l.length (tr (lgf s.l) 0 s.l.length)) : Int) % 256) (readR p.data.toList))
    (hX : (E ≠ 0 ∧ X = E) ∨ (E = 0 ∧ old = s.l.take old.length ∧ X = 11) ∨ (E = 0 ∧ old ≠ s.l.take old.length ∧ X = 0 ∧ readR p.data.toList = some ns ∧ (cov 0 s.l.length 0 old.length).length ≤ ns.length ∧ (cm 0 s.l.length 0 old.length ns).ok = true ∧ ns.length ≤ 1000)) :
    Calls Tryz.prog 12 #[.pointer (some ⟨R, 0, none⟩), v, .string p] w (exgPost s.l old ns X w) := by
  have hlen := h.ok.len
  have hval := h.ok.val
  have HCS : Hid (∀ w', Below w.heap.size w w' → w'.cell? ⟨R, 0, none⟩ = some lv) := hid fun w' hb => (h.below hb).cells.1.1
  have c0 := HCS.out w (Below.refl _ _)
  have hRl := h.lt.1
  have HLg := hid h.log1
  have HHd : ∀ w', Hid (Below w.heap.size w w' → Calls Tryz.prog 40 #[.pointer (some ⟨R, 0, none⟩), .int .i64 0, .int .i64 s.l.length] w' fun e w2 => e = .returned (headV s.l.length (dg (hdText s.l.length (tr (lgf s.l) 0 s.l.length)))) ∧ Below w'.heap.size w' w2) := fun w' => hid fun hb => by
    have := rHead_any w' base R s lv K H 0 s.l.length (h.below hb)
    rw [hdA, if_pos ⟨rfl, by omega, by omega⟩, Int.toNat_natCast] at this
    exact this
  obtain ⟨ao1, cap1, rfl, hcp, _⟩ := capP h.hL
  obtain ⟨ao, cap, rfl, hc⟩ := hl.ex
  have HOld := hid hl
  have HLo : ∀ w', Hid (Below w.heap.size w w' → Calls Tryz.prog 14 #[.slice ao old.length cap] w' (logPost (.slice ao old.length cap) old w')) := fun w' => hid fun hb => refLogOf_any _ old w' (by have := (hl.below hb).mono hb.size; simpa using this) ho (by omega)
  have HLn : ∀ w', Hid (Below w.heap.size w w' → Calls Tryz.prog 14 #[.slice ao1 s.l.length cap1] w' (logPost (.slice ao1 s.l.length cap1) s.l w')) := fun w' => hid fun hb => refLogOf_any _ s.l w' ((HLg.out.below hb).mono hb.size) hval hlen
  obtain ⟨ao1', cap1', hve, hc2⟩ := HLg.out.ex
  simp only [List.length_map] at hve hc hc2 HOld ⊢
  simp only [Value.slice.injEq] at hve
  obtain ⟨rfl, _, rfl⟩ := hve
  have HWo : ∀ w' vv hv, Hid (TreeIn w' w'.heap.size vv hv old (List.replicate old.length true) → Calls Tryz.prog 15 #[.agg #[.bool false, vv, hv]] w' fun e w2 => e = .returned (ndV (tr (lgf old) 0 old.length)) ∧ Below w'.heap.size w' w2) := fun w' vv hv => hid fun hT => by
    have := refWhole_any false vv hv old _ w' hT
    rw [tr_own old 0 old.length (Nat.le_refl _)] at this
    exact this
  have HRt : ∀ w', Hid (Calls Tryz.prog 16 #[.int .i64 old.length, ndV (tr (lgf old) 0 old.length)] w' _) := fun w' => hid (refRoot_any old.length _ w' (by omega) ((tr_U (lgf_bd ho)).ok 0 _ (by omega)))
  have HGr : ∀ w', Hid (Calls Tryz.prog 41 #[.agg #[.int .i64 old.length, .int .u8 ((dg (hdText old.length (tr (lgf old) 0 old.length)) : Int) / 256), .int .u8 ((dg (hdText old.length (tr (lgf old) 0 old.length)) : Int) % 256)], .agg #[.int .i64 s.l.length, .int .u8 ((dg (hdText s.l.length (tr (lgf s.l) 0 s.l.length)) : Int) / 256), .int .u8 ((dg (hdText s.l.length (tr (lgf s.l) 0 s.l.length)) : Int) % 256)], .string p] w' fun e w2 => e = .returned (.int .i64 E) ∧ Below w'.heap.size w' w2) := fun w' => hid (by
    have := refGrows_any old.length s.l.length ((dg (hdText old.length (tr (lgf old) 0 old.length)) : Int) / 256) ((dg (hdText old.length (tr (lgf old) 0 old.length)) : Int) % 256) ((dg (hdText s.l.length (tr (lgf s.l) 0 s.l.length)) : Int) / 256) ((dg (hdText s.l.length (tr (lgf s.l) 0 s.l.length)) : Int) % 256) p w' h1 h2 hlen hp
    rw [← hE] at this
    exact this)
  simp only [headV] at HHd
  generalize (dg (hdText s.l.length (tr (lgf s.l) 0 s.l.length)) : Int) / 256 = d0 at HHd HGr
  generalize (dg (hdText s.l.length (tr (lgf s.l) 0 s.l.length)) : Int) % 256 = d1 at HHd HGr
  generalize (dg (hdText old.length (tr (lgf old) 0 old.length)) : Int) / 256 = e0 at HRt HGr
  generalize (dg (hdText old.length (tr (lgf old) 0 old.length)) : Int) % 256 = e1 at HRt HGr
  generalize hd : tr (lgf old) 0 old.length = d at HWo HRt
  clear hd
  simp only [ndV] at HWo HRt
  have HX := hid hX
  have HO := hid ho
  have HVl := hid hval
  clear hX hE h hl ho hval
  have i1 : ¬ (old.length : Int) < 1 := by omega
  have i3 : ¬ (s.l.length : Int) < old.length := by omega
  go_enter Tryz.func12, Tryz.ntmps12
  go_wp2
  go_loopw [8, 9] (fun b i wr => ∃ k : Nat, k ≤ old.length ∧ i = .int .i64 k ∧ b = .bool (decide (old.take k = s.l.take k)) ∧ Hid (Below w.heap.size w wr)) (fun _ i _ => old.length - (intOf i).toNat)
  case atStart => exact ⟨0, Nat.zero_le _, rfl, by simp, hid (Below.refl _ _)⟩
  case round =>
    obtain ⟨k, hk, rfl, rfl, HBl⟩ := hrel
    have cR := (HBl.out.cell (p := ⟨R, 0, none⟩) hRl).trans c0
    by_cases hlt : k < old.length
    · have hlt2 : k < s.l.length := by omega
      obtain ⟨b, off, rfl, hbB, hcs⟩ := hc k (by simpa using hlt)
      obtain ⟨b2, off2, rfl, hbB2, hcs2⟩ := hc2 k (by simpa using hlt2)
      have hcx : wr.cell? ⟨b, off + k, none⟩ = some (.int .i64 old[k]) := by simpa using (HBl.out.cell (p := ⟨b, off + k, none⟩) hbB).trans hcs
      have hcx2 : wr.cell? ⟨b2, off2 + k, none⟩ = some (.int .i64 s.l[k]) := by simpa using (HBl.out.cell (p := ⟨b2, off2 + k, none⟩) hbB2).trans hcs2
      have HNx := hid (same_next hlt hlt2)
      have hv : isVal old[k] = true := (isVal_iff _).2 (HO.out _ (List.getElem_mem hlt))
      generalize old[k] = x at hcx HNx hv
      generalize s.l[k] = y at hcx2 HNx
      clear hcs hcs2 hc hc2 HHd HLo HLn HWo HRt HGr HX HO HVl HOld HLg HCS
      cases hb : decide (old.take k = s.l.take k) with
      | false =>
        rw [hb] at HNx
        go_wp2_with (go_at_call 39; refine (refValue_any _ _ true hv).mono ?_; rintro e w1 ⟨rfl, hw1⟩; rw [hw1]; clear hw1 w1)
        go_quiet (fail)
        go_wp2
        go_roundw
        case rel => exact ⟨k + 1, by omega, by push_cast; rfl, by rw [HNx.out]; rfl, hid (HBl.out.trans ((below_drewN wr nq).mono HBl.out.size))⟩
        case measure => simp [intOf]; omega
      | true =>
        rw [hb] at HNx
        by_cases hxy : x = y
        · subst hxy
          go_wp2_with (go_at_call 39; refine (refValue_any _ _ true hv).mono ?_; rintro e w1 ⟨rfl, hw1⟩; rw [hw1]; clear hw1 w1)
          go_quiet (fail)
          go_wp2
          go_roundw
          case rel => exact ⟨k + 1, by omega, by push_cast; rfl, by rw [HNx.out]; simp, hid (HBl.out.trans ((below_drewN wr nq).mono HBl.out.size))⟩
          case measure => simp [intOf]; omega
        · have hxy' : (x == y) = false := by simpa using hxy
          go_wp2_with (go_at_call 39; refine (refValue_any _ _ true hv).mono ?_; rintro e w1 ⟨rfl, hw1⟩; rw [hw1]; clear hw1 w1)
          go_quiet (fail)
          go_wp2
          go_roundw
          case rel => exact ⟨k + 1, by omega, by push_cast; rfl, by rw [HNx.out]; simp [hxy], hid (HBl.out.trans ((below_drewN wr nq).mono HBl.out.size))⟩
          case measure => simp [intOf]; omega
    · obtain rfl : k = old.length := by omega
      rw [List.take_length]
      clear hc hc2 hlt
      go_wp2_with fail
      refine ((HLo wr).out HBl.out).mono ?_
      rintro e w1 ⟨⟨g1, rfl, hg1, hT1⟩, hb1⟩
      have HB1 := hid (HBl.out.trans (hb1.mono HBl.out.size))
      have HT1 := hid hT1
      clear hb1 hT1 HBl cR
      go_wp2_with fail
      refine ((HWo w1 _ _).out HT1.out).mono ?_
      rintro e w2 ⟨rfl, hb2⟩
      have HB2 := hid (HB1.out.trans (hb2.mono HB1.out.size))
      clear hb2 HT1 HB1 hg1
      have c2 := HCS.out w2 HB2.out
      have l2 : R < w2.heap.size := by have := HB2.out.size; omega
      go_wp2_with fail
      obtain ⟨W2, hW2⟩ : ∃ W, W = w2.alloc (.cells #[.int .i64 d.c, .int .i64 d.s, .int .i64 d.m, .int .i64 d.x, .int .u8 (d.h.toNat : Int), .int .u8 (d.g.toNat : Int)] 51) := ⟨_, rfl⟩
      have HD2 : Hid (NdAt W2 w2.heap.size d ∧ Below w.heap.size w W2) := hid (hW2 ▸ ⟨nd_new w2 d _ rfl, HB2.out.alloc HB2.out.size _⟩)
      rw [← hW2]
      clear hW2 c2 l2 HB2
      generalize w2.heap.size = gd at HD2 ⊢
      refine ((HHd W2).out HD2.out.2).mono ?_
      rintro e w3 ⟨rfl, hb3⟩
      have HD3 : Hid (NdAt w3 gd d ∧ Below w.heap.size w w3) := hid ⟨nd_below HD2.out.1 hb3 HD2.out.1.lt, HD2.out.2.trans (hb3.mono HD2.out.2.size)⟩
      obtain ⟨⟨k0, k1, k2, k3, k4, k5⟩, _⟩ := HD3.out.1.cells
      have l3 := HD3.out.1.lt
      clear hb3 HD2 HHd
      go_wp2_with fail
      obtain ⟨W3, hW3⟩ : ∃ W, W = w3.alloc (.cells #[.int .i64 (s.l.length : Int), .int .u8 d0, .int .u8 d1] 58) := ⟨_, rfl⟩
      have HD4 : Hid (W3.heap[w3.heap.size]? = some (.cells #[.int .i64 (s.l.length : Int), .int .u8 d0, .int .u8 d1] 58 (0, 0)) ∧ Below w.heap.size w W3) := hid (hW3 ▸ ⟨heap_one w3 _ _ rfl, HD3.out.2.alloc HD3.out.2.size _⟩)
      rw [← hW3]
      clear hW3 k0 k1 k2 k3 k4 k5 l3 HD3
      generalize w3.heap.size = gh at HD4 ⊢
      refine (HRt W3).out.mono ?_
      rintro e w4 ⟨rfl, hb4⟩
      have HD5 : Hid (w4.heap[gh]? = some (.cells #[.int .i64 (s.l.length : Int), .int .u8 d0, .int .u8 d1] 58 (0, 0)) ∧ Below w.heap.size w w4) := hid ⟨(hb4.block gh (Array.getElem?_eq_some_iff.1 HD4.out.1).1).trans HD4.out.1, HD4.out.2.trans (hb4.mono HD4.out.2.size)⟩
      have k0 : w4.cell? ⟨gh, 0, none⟩ = some (.int .i64 (s.l.length : Int)) := by rw [cell_of_row w4 _ _ _ _ _ HD5.out.1]; rfl
      have k1 : w4.cell? ⟨gh, 1, none⟩ = some (.int .u8 d0) := by rw [cell_of_row w4 _ _ _ _ _ HD5.out.1]; rfl
      have k2 : w4.cell? ⟨gh, 2, none⟩ = some (.int .u8 d1) := by rw [cell_of_row w4 _ _ _ _ _ HD5.out.1]; rfl
      have l4 : gh < w4.heap.size := (Array.getElem?_eq_some_iff.1 HD5.out.1).1
      clear hb4 HRt HD4
      go_wp2_with fail
      refine (HGr _).out.mono ?_
      rintro e w5 ⟨rfl, hb5⟩
      have HB5 : Hid (Below w.heap.size w w5) := hid ((HD5.out.2.alloc HD5.out.2.size _).trans (hb5.mono (by have := HD5.out.2.size; simp; omega)))
      clear hb5 HGr HD5 k0 k1 k2 l4
      rcases HX.out with ⟨hE0, hXE⟩ | ⟨hE0, hq, hXE⟩ | ⟨hE0, hq, hXE, hrd, hcl, hcm, hnl⟩
      · have hEb : (E == 0) = false := by simpa using hE0
        subst hXE
        clear HX
        go_wp2
        go_ret2
        exact ⟨_, rfl, HB5.out, fun _ => rfl, fun c => absurd c hE0⟩
      · have hd : decide (old = s.l.take old.length) = true := decide_eq_true hq
        subst hE0 hXE
        rw [hd]
        clear HX hq hd
        go_wp2
        go_ret2
        exact ⟨_, rfl, HB5.out, fun _ => rfl, fun c => by cases c⟩
      · have hd : decide (old = s.l.take old.length) = false := decide_eq_false hq
        subst hE0 hXE
        rw [hd]
        have hok : ∀ d ∈ ns, d.ok = true := fun d hd => List.all_eq_true.1 (write_read _ _ hrd).2.1 d hd
        have HRd : ∀ w', Hid (Calls Tryz.prog 42 #[.string p] w' fun e w2 => ∃ ao cp, e = .returned (.tuple #[.slice ao ns.length cp, .int .i64 0]) ∧ Nodes w2 w2.heap.size (.slice ao ns.length cp) ns ∧ ns.length ≤ cp ∧ cp ≤ 9223372036854775807 ∧ Below w'.heap.size w' w2) := fun w' => hid (by
          have := refRead_any p w' hp
          rw [hrd] at this
          refine this.mono ?_
          rintro e w2 ⟨v, he, ho, hb⟩
          obtain ⟨ao, cp, rfl, h1, h2⟩ := own_shape2 ho
          exact ⟨ao, cp, he, Nodes.own ho (by omega), h1, h2, hb⟩)
        have HPr : ∀ w' ao cp hv, Hid (Nodes w' w'.heap.size (.slice ao ns.length cp) ns → ns.length ≤ cp → cp ≤ 9223372036854775807 → TreeIn w' w'.heap.size (.slice ao1 s.l.length cap1) hv s.l (List.replicate s.l.length true) → Calls Tryz.prog 43 #[.slice ao ns.length cp, .agg #[.bool false, .slice ao1 s.l.length cap1, hv], .int .i64 0, .int .i64 old.length] w' (ptPost (prC (tr (lgf s.l)) 0 s.l.length 0 old.length ns ++ [(hdText s.l.length (cm 0 s.l.length 0 old.length ns), hdText s.l.length (tr (lgf s.l) 0 s.l.length))]) w')) := fun w' ao cp hv => hid fun hN h1 h2' hT => by
          have := refPairs_any false ao1 cap1 hv s.l (List.replicate s.l.length true) 0 old.length ao cp ns w' hN h1 h2' hok hT (by omega) (by omega) hcl hcm
          rw [tr_own s.l 0 s.l.length (Nat.le_refl _), prC_congr (fun a b _ hb => tr_own s.l a b hb) s.l.length 0 s.l.length ns (by omega) (by omega) (Nat.le_refl _)] at this
          exact this
        have HBt : ∀ w' hv vv2 hv2, Hid (TreeIn w' w'.heap.size (.slice ao old.length cap) hv old (List.replicate old.length true) → TreeIn w' w'.heap.size vv2 hv2 (s.l.take old.length) (List.replicate old.length true) → Calls Tryz.prog 44 #[.agg #[.bool false, .slice ao old.length cap, hv], .agg #[.bool false, vv2, hv2]] w' (ptPost (prT (tr (lgf old)) (tr (lgf s.l)) 0 old.length ++ [(hdText old.length (tr (lgf old) 0 old.length), hdText old.length (tr (lgf s.l) 0 old.length))]) w')) := fun w' hv vv2 hv2 => hid fun hT1 hT2 => by
          have hlt : (s.l.take old.length).length = old.length := by simp; omega
          have := refBoth_any ao cap hv vv2 hv2 old (s.l.take old.length) (List.replicate old.length true) (List.replicate old.length true) w' hT1 hT2 hlt
          rw [tr_own old 0 old.length (Nat.le_refl _), tr_pre s.l old.length 0 old.length (Nat.le_refl _), prT_congr (fun a b _ hb => tr_own old a b hb) (fun a b _ hb => tr_pre s.l old.length a b hb) old.length 0 old.length (by omega) (by omega) (Nat.le_refl _)] at this
          exact this
        have hpl := prG_len (ns := ns) hlen (show old.length ≤ 64 by omega)
        have HG : Hid (prG s.l old ns = (prC (tr (lgf s.l)) 0 s.l.length 0 old.length ns ++ [(hdText s.l.length (cm 0 s.l.length 0 old.length ns), hdText s.l.length (tr (lgf s.l) 0 s.l.length))]) ++ (prT (tr (lgf old)) (tr (lgf s.l)) 0 old.length ++ [(hdText old.length (tr (lgf old) 0 old.length), hdText old.length (tr (lgf s.l) 0 old.length))])) := hid rfl
        simp only [prG] at hpl
        generalize prC (tr (lgf s.l)) 0 s.l.length 0 old.length ns ++ [(hdText s.l.length (cm 0 s.l.length 0 old.length ns), hdText s.l.length (tr (lgf s.l) 0 s.l.length))] = L1 at HPr hpl HG
        generalize prT (tr (lgf old)) (tr (lgf s.l)) 0 old.length ++ [(hdText old.length (tr (lgf old) 0 old.length), hdText old.length (tr (lgf s.l) 0 old.length))] = L2 at HBt hpl HG
        obtain ⟨SV, hSV, HSC⟩ : ∃ SV, (∀ w', (Instr.slice 25 (.slice ao1 s.l.length cap1) none (some (.int .i64 (old.length : Int))) none).run Tryz.prog w' = .ok SV w') ∧ Hid (Cells1 w w.heap.size SV ((s.l.take old.length).map (.int .i64))) := by
          refine ⟨.slice (if cap1 = 0 then ao1 else ao1.map (·.add (0 * 1))) old.length (cap1 - 0), fun w' => grun_slice0 w' ao1 _ cap1 old.length (by omega), hid ?_⟩
          have := HLg.out.pre old.length (by simp; omega) (by simp; omega)
          rw [List.map_take]
          exact this
        have HLs : ∀ w', Hid (Below w.heap.size w w' → Calls Tryz.prog 14 #[SV] w' fun e w2 => (∃ g, e = .returned (.agg #[.bool false, SV, .slice (some ⟨g, 0, none⟩) old.length old.length]) ∧ TreeIn w2 w2.heap.size SV (.slice (some ⟨g, 0, none⟩) old.length old.length) (s.l.take old.length) (List.replicate old.length true)) ∧ Below w'.heap.size w' w2) := fun w' => hid fun hb => by
          have hlt : (s.l.take old.length).length = old.length := by simp; omega
          refine (refLogOf_any SV _ w' ((HSC.out.below hb).mono hb.size) (fun v hv => HVl.out v (List.mem_of_mem_take hv)) (by simp; omega)).mono ?_
          rintro e w2 ⟨⟨g, he, _, hT⟩, hb2⟩
          rw [hlt] at he hT
          exact ⟨⟨g, he, hT⟩, hb2⟩
        have HLq : ∀ w', Hid (Below w.heap.size w w' → Calls Tryz.prog 14 #[.slice ao old.length cap] w' (logPost (.slice ao old.length cap) old w')) := HLo
        clear HX hq hd hok hrd hcl hcm HSC HLo HWo HO HVl
        go_wp2_with fail
        refine (HRd w5).out.mono ?_
        rintro e w6 ⟨ao3, cp3, rfl, hN6, hc6, hc6', hb6⟩
        have HN6 := hid hN6
        have HB6 := hid (HB5.out.trans (hb6.mono HB5.out.size))
        clear hN6 hb6 HB5 HRd
        have k6 := HCS.out w6 HB6.out
        go_wp2_with fail
        refine ((HLn w6).out HB6.out).mono ?_
        rintro e w7 ⟨⟨g7, rfl, hg7, hT7⟩, hb7⟩
        have HT7 := hid hT7
        have HN7 := hid ((HN6.out.below hb7).mono hb7.size)
        have HB7 := hid (HB6.out.trans (hb7.mono HB6.out.size))
        clear hT7 hb7 HN6 HB6 k6 hg7
        go_wp2_with fail
        refine ((HPr w7 ao3 cp3 _).out HN7.out hc6 hc6' HT7.out).mono ?_
        rintro e w8 ⟨pv, rfl, ho8, hb8⟩
        obtain ⟨a8, q8, rfl⟩ := own_shape ho8
        have HB8 := hid (HB7.out.trans (hb8.mono HB7.out.size))
        have HO8 := hid (own_mono' ho8 HB7.out.size)
        clear ho8 hb8 HN7 HT7 HB7 HPr hc6 hc6'
        have k8 := HCS.out w8 HB8.out
        go_wp2_with fail
        have s8 := HB8.out.size
        go_region_held3 (fun w' => w'.cell? ⟨R, 0, none⟩ = some (.slice ao1 s.l.length cap1))
          (first | exact HCS.out _ (HB8.out.trans (Below.mono (by (repeat (first | (with_reducible exact hB11) | (with_reducible exact hB10) | (with_reducible exact hB9) | (with_reducible exact Below.refl _ _) | (with_reducible apply Below.drew)))) s8)) | go_keep)
          (first
            | (go_at_call 14; first
              | (refine ((HLq _).out (HB8.out.trans (Below.mono (by (repeat (first | (with_reducible exact hB11) | (with_reducible exact hB10) | (with_reducible exact hB9) | (with_reducible exact Below.refl _ _) | (with_reducible apply Below.drew)))) s8))).mono ?_; rintro e w9 ⟨⟨g9, rfl, hg9, hT9⟩, hb9⟩; have hB9 : Below w8.heap.size w8 w9 := Below.trans (by (repeat (first | (with_reducible exact hB11) | (with_reducible exact hB10) | (with_reducible exact hB9) | (with_reducible exact Below.refl _ _) | (with_reducible apply Below.drew)))) (hb9.mono (by exact Nat.le_refl _)); have HT9 := hid hT9; clear hT9 hb9 hg9 HLq)
              | (refine ((HLs _).out (HB8.out.trans (Below.mono (by (repeat (first | (with_reducible exact hB9) | (with_reducible exact Below.refl _ _) | (with_reducible apply Below.drew)))) s8))).mono ?_; rintro e w10 ⟨⟨g10, rfl, hT10⟩, hb10⟩; have HT10 := hid hT10; have HQ10 : Hid (Below w9.heap.size w9 w10) := hid hb10; have hB10 : Below w8.heap.size w8 w10 := hB9.trans (hb10.mono hB9.size); clear hT10 hb10 HLs))
            | (go_at_call 44; (refine ((HBt _ _ _ _).out ((HT9.out.below HQ10.out).mono HQ10.out.size) HT10.out).mono ?_; rintro e w11 ⟨pv2, rfl, ho11, hb11⟩; have hB11 : Below w8.heap.size w8 w11 := hB10.trans (hb11.mono hB10.size); have HO11 := hid (own_mono' ho11 hB10.size); clear ho11 hb11 HT10 HQ10 HT9)))
        all_goals
          have HB11 := hid hB11
          clear hB9 hB10 hB11
          obtain ⟨a11, q11, e11⟩ := own_shape HO11.out
          subst e11
          obtain ⟨i0, hi, hz0, hz1, hz2⟩ := info_parts info_pair
          have hown : w11.ownsRow w.heap.size 107 2 (.slice a8 L1.length q8) L1.length (prRow L1) := ownsRow_below HO8.out HB11.out
          have hlL : L1.length + L2.length ≤ 1000 := by simpa using hpl
          have s11 : w.heap.size ≤ w11.heap.size := by have := HB11.out.size; omega
          have HIO : Hid (∀ k ∈ ob (.slice a8 L1.length q8), w.heap.size ≤ k) := hid fun k hk => (own_in hown k hk).1
          clear HO8
          go_wp2_with (at_builtin; refine wpList_append_both _ rfl _ _ 39 rfl w.heap.size w8.heap.size 107 i0 (.agg #[.string ⟨#[]⟩, .string ⟨#[]⟩]) 2 32 Tryz.underlying39 hi hz0 hz1 hz2 rfl (by decide) _ _ _ _ _ _ rfl rfl hown HO11.out (prRow_one _) (by unfold maxLen; omega) (by omega) s11 ?_)
          rintro v12 w12 ho12 hg12
          have HF := hid (And.intro ho12 ((HB8.out.trans (HB11.out.mono s8)).trans (hg12.toBelow w.heap.size s11 (fun k hk => HIO.out k (mem_ob.2 hk)))))
          clear ho12 hg12 hown HIO HO11 HB11
          go_wp2
          go_ret2
          exact ⟨_, rfl, HF.out.2, fun c => absurd rfl c, fun _ => by
            rw [HG.out]
            exact own_cast HF.out.1 (by simp) (by rw [prRow_append])⟩
end Go.Proofs.YtogmdaopfnmobaaGreat

/- What Grows does. -/
namespace Go.Proofs.YtogmdaopfnmobaaGreat
open Go.RowKit Go.Maps
theorem nil_ob {a b : Nat} : ∀ k ∈ ob (.slice none 0 0), a ≤ k ∧ k < b := fun k hk => by simp [ob, Value.ownBlock] at hk
structure ExB (W : World) (p : Pr) (vo : Value) (old : List Int) (pf : ByteArray) (A B : ByteArray) (X : Int) : Prop where
  ours : ∀ w' v', Below W.heap.size W w' → Cells1 w' w'.heap.size v' (old.map (.int .i64)) → Calls Tryz.prog 11 #[.pointer (some ⟨p.S, 0, none⟩), v', .string pf] w' fun e w2 => e = .returned (.tuple #[.string A, .string B, .int .i64 X]) ∧ Below w'.heap.size w' w2
  docs : ∀ w', Below W.heap.size W w' → Calls Tryz.prog 12 #[.pointer (some ⟨p.R, 0, none⟩), vo, .string pf] w' fun e w2 => ∃ pv, e = .returned (.tuple #[pv, .int .i64 X]) ∧ Below w'.heap.size w' w2 ∧ (∃ x y z, pv = .slice x y z) ∧ (∀ k ∈ ob pv, w'.heap.size ≤ k ∧ k < w2.heap.size) ∧ ∀ w3, (∀ k ∈ ob pv, w3.heap[k]? = w2.heap[k]?) → Calls Tryz.prog 13 #[.string A, .string B, .int .i64 X, .int .i64 X, pv] w3 fun e w4 => e = .returned (.bool true) ∧ Below w3.heap.size w3 w4
theorem prT_small {T U : Nat → Nat → Nd} : ∀ (n a b : Nat), b - a ≤ n → ∀ p ∈ prT T U a b, p.1.length ≤ 61 ∧ p.2.length ≤ 61 := by
  intro n
  induction n with
  | zero => intro a b hn p hp; rw [prT_one (by omega)] at hp; cases hp
  | succ n ih =>
    intro a b hn p hp
    by_cases hs : b < a + 2
    · rw [prT_one hs] at hp; cases hp
    · have p1 := hf_pos (b - a)
      have q1 := hf_lt (b - a) (by omega)
      rw [prT_two hs] at hp
      simp only [List.mem_append, List.mem_singleton] at hp
      rcases hp with (h | h) | h
      · exact ih _ _ (by omega) p h
      · exact ih _ _ (by omega) p h
      · subst h; exact ⟨abText_len _ _, abText_len _ _⟩
theorem prG_small {l old : List Int} {ns : List Nd} : ∀ p ∈ prG l old ns, p.1.length ≤ 1000 ∧ p.2.length ≤ 1000 := by
  intro p hp
  unfold prG at hp
  simp only [List.mem_append, List.mem_singleton] at hp
  rcases hp with (h | h) | h | h
  · have := prC_small l.length 0 l.length ns (by omega) p h; omega
  · subst h
    have h1 := hdText_length l.length (cm 0 l.length 0 old.length ns)
    have h2 := hdText_length l.length (tr (lgf l) 0 l.length)
    simp only
    omega
  · have := prT_small old.length 0 old.length (by omega) p h; omega
  · subst h
    have h1 := hdText_length old.length (tr (lgf old) 0 old.length)
    have h2 := hdText_length old.length (tr (lgf l) 0 old.length)
    simp only
    omega
def cgL (old l : List Int) (o : Option (List Nd)) : Int := cgE old.length l.length ((dg (hdText old.length (tr (lgf old) 0 old.length)) : Int) / 256) ((dg (hdText old.length (tr (lgf old) 0 old.length)) : Int) % 256) ((dg (hdText l.length (tr (lgf l) 0 l.length)) : Int) / 256) ((dg (hdText l.length (tr (lgf l) 0 l.length)) : Int) % 256) o
theorem exB_any (W : World) (base : Nat) (p : Pr) (hok : PrOk W base p) (vo : Value) (old : List Int) (pf : ByteArray) (ho : Cells1 W W.heap.size vo (old.map (.int .i64))) (hon : old.length ≤ 1048576) (hpf : pf.size ≤ maxLen) :
    ∃ A B X, ExB W p vo old pf A B X ∧ (X = 5 ∨ ((1 ≤ old.length ∧ old.length ≤ p.s.l.length ∧ ∀ x ∈ old, 0 ≤ x ∧ x ≤ 1000000) ∧ ((cgL old p.s.l (readR pf.data.toList) ≠ 0 ∧ X = cgL old p.s.l (readR pf.data.toList)) ∨ (cgL old p.s.l (readR pf.data.toList) = 0 ∧ (X = 0 ∨ X = 11))))) := by
  have hvw : ∀ w', Below W.heap.size W w' → Cells1 w' w'.heap.size vo (old.map (.int .i64)) := fun w' hb => (ho.below hb).mono hb.size
  by_cases hbad : old.length < 1 ∨ p.s.l.length < old.length ∨ old.all isVal = false
  · refine ⟨⟨#[]⟩, ⟨#[]⟩, 5, ⟨fun w' v' hb hv' => extractGrown_range w' base p.S p.s p.lv p.M (hok.ps.below hb) v' old pf hv' (by omega) hbad, fun w' hb => ?_⟩, .inl rfl⟩
    refine (refExG_range w' base p.R p.s p.rl p.K p.H (hok.rs.below hb) vo old pf (hvw w' hb) (by omega) hbad).mono ?_
    rintro e w2 ⟨he, hb2⟩
    exact ⟨_, he, hb2, ⟨_, _, _, rfl⟩, nil_ob, fun w3 _ => clash_err 5 w3 (by decide) _⟩
  · have h1 : 1 ≤ old.length := by omega
    have h2 : old.length ≤ p.s.l.length := by omega
    have hv : ∀ x ∈ old, 0 ≤ x ∧ x ≤ 1000000 := fun x hx => (isVal_iff x).1 (by
      have : old.all isVal = true := by
        cases h : old.all isVal with
        | true => rfl
        | false => exact absurd (.inr (.inr h)) hbad
      exact List.all_eq_true.1 this x hx)
    have hn := hok.ps.ok.len
    have hval := hok.ps.ok.val
    clear hbad
    obtain ⟨E, hE⟩ : ∃ E, E = cgL old p.s.l (readR pf.data.toList) := ⟨_, rfl⟩
    rw [← hE]
    by_cases h0 : E = 0
    · obtain ⟨ns, hns⟩ : ∃ ns, readR pf.data.toList = some ns := by
        cases h : readR pf.data.toList with
        | none => rw [h, h0] at hE; simp [cgL, cgE] at hE
        | some ns => exact ⟨ns, rfl⟩
      have hns' : ∀ d ∈ ns, d.ok = true := List.all_eq_true.1 (write_read _ _ hns).2.1
      by_cases hq : old = p.s.l.take old.length
      · refine ⟨⟨#[]⟩, ⟨#[]⟩, 11, ⟨fun w' v' hb hv' => extractGrown_ok w' base p.S p.s p.lv p.M (hok.ps.below hb) v' old pf hv' hv h1 h2 hpf none 11 ns hns (h0 ▸ hE) (.inl ⟨hq, rfl, rfl⟩), fun w' hb => ?_⟩, .inr ⟨⟨h1, h2, hv⟩, .inr ⟨h0, .inr rfl⟩⟩⟩
        refine (refExG_any w' base p.R p.s p.rl p.K p.H (hok.rs.below hb) vo old pf (hvw w' hb) hv h1 h2 hpf E 11 ns hE (.inr (.inl ⟨h0, hq, rfl⟩))).mono ?_
        rintro e w2 ⟨pv, he, hb2, hpv, _⟩
        obtain rfl := hpv (by decide)
        exact ⟨_, he, hb2, ⟨_, _, _, rfl⟩, nil_ob, fun w3 _ => clash_err 11 w3 (by decide) _⟩
      · have hm := grows_math hval hv h1 h2 hn hns' (by rw [← hns]; exact (h0 ▸ hE).symm) hq
        obtain ⟨P, Q, hcl, hPQ, hd, hin⟩ : ∃ P Q, (cls (gL ((cov 0 p.s.l.length 0 old.length).zip ns)) (tr (lgf p.s.l)) p.s.l.length).or (cls (plG (lgf old)) (tr (lgf p.s.l)) old.length) = some (P, Q) ∧ P ≠ Q ∧ dg P = dg Q ∧ (P, Q) ∈ prG p.s.l old ns := by
          rcases hm.2 with ⟨P, Q, h3, h4, h5, h6⟩ | ⟨h3, P, Q, h4, h5, h6, h7⟩
          · exact ⟨P, Q, by rw [h3]; rfl, h4, h5, List.mem_append_left _ h6⟩
          · exact ⟨P, Q, by rw [h3, h4]; rfl, h5, h6, List.mem_append_right _ h7⟩
        refine ⟨⟨P.toArray⟩, ⟨Q.toArray⟩, 0, ⟨fun w' v' hb hv' => ?_, fun w' hb => ?_⟩, .inr ⟨⟨h1, h2, hv⟩, .inr ⟨h0, .inl rfl⟩⟩⟩
        · have := extractGrown_ok w' base p.S p.s p.lv p.M (hok.ps.below hb) v' old pf hv' hv h1 h2 hpf (some (P, Q)) 0 ns hns (h0 ▸ hE) (.inr ⟨hq, hcl.symm, rfl⟩)
          exact this
        · refine (refExG_any w' base p.R p.s p.rl p.K p.H (hok.rs.below hb) vo old pf (hvw w' hb) hv h1 h2 hpf E 0 ns hE (.inr (.inr ⟨h0, hq, rfl, hns, by omega, hm.1.2, by have := (cov_len 0 old.length p.s.l.length 0 p.s.l.length (by omega)).2; omega⟩))).mono ?_
          rintro e w2 ⟨pv, he, hb2, _, hpv⟩
          have ho2 := hpv rfl
          have hsm := prG_small (P, Q) hin
          have hln := prG_len (ns := ns) hn (show old.length ≤ 64 by omega)
          generalize prG p.s.l old ns = L at ho2 hin hln
          rcases ho2.2 with ⟨rfl, h3⟩ | ⟨g, cap, cur, rfl, _⟩
          · exact absurd hin (by rw [List.eq_nil_of_length_eq_zero h3]; simp)
          · exact ⟨_, he, hb2, ⟨_, _, _, rfl⟩, own_in ho2, fun w3 h3 => clash_ok P Q L _ g cap w3 (own_keep ho2 h3) hln hPQ hd hin hsm.1 hsm.2⟩
    · refine ⟨⟨#[]⟩, ⟨#[]⟩, E, ⟨fun w' v' hb hv' => extractGrown_err w' base p.S p.s p.lv p.M (hok.ps.below hb) v' old pf hv' hv h1 h2 hpf E hE h0, fun w' hb => ?_⟩, .inr ⟨⟨h1, h2, hv⟩, .inl ⟨h0, rfl⟩⟩⟩
      refine (refExG_any w' base p.R p.s p.rl p.K p.H (hok.rs.below hb) vo old pf (hvw w' hb) hv h1 h2 hpf E E [] hE (.inl ⟨h0, rfl⟩)).mono ?_
      rintro e w2 ⟨pv, he, hb2, hpv, _⟩
      obtain rfl := hpv h0
      exact ⟨_, he, hb2, ⟨_, _, _, rfl⟩, nil_ob, fun w3 _ => clash_err E w3 h0 _⟩
end Go.Proofs.YtogmdaopfnmobaaGreat

/- What the document's own answer does (notaryref): Extract. -/
namespace Go.Proofs.YtogmdaopfnmobaaGreat
open Go.RowKit Go.Maps
attribute [local go_sem ↓] run_eql_fold
set_option maxHeartbeats 8000000 in
set_option maxRecDepth 100000 in
theorem refExt_no (w : World) (R : Nat) (t f u c s m x : Int) (pf : ByteArray) (hSz : ∀ w', Below w.heap.size w w' → Calls Tryz.prog 136 #[.pointer (some ⟨R, 0, none⟩), .int .i64 t] w' fun e w2 => e = .returned (.int .i64 32) ∧ w2 = w')
    (hHd : ∀ w', Below w.heap.size w w' → Calls Tryz.prog 40 #[.pointer (some ⟨R, 0, none⟩), .int .i64 t, .int .i64 32] w' fun e w2 => e = .returned noHead ∧ Below w'.heap.size w' w2) :
    Calls Tryz.prog 103 #[.pointer (some ⟨R, 0, none⟩), .int .i64 t, .int .i64 f, .int .i64 u, .agg #[.int .i64 c, .int .i64 s, .int .i64 m, .int .i64 x], .string pf] w fun e w' => e = .returned (.tuple #[.slice none 0 0, .int .i64 5]) ∧ Below w.heap.size w w' := by
  have HSz := fun w' => hid (hSz w')
  have HHd := fun w' => hid (hHd w')
  simp only [noHead] at HHd
  clear hSz hHd
  go_enter Tryz.func103, Tryz.ntmps103
  go_wp2_with fail
  have B0 : Hid (Below w.heap.size w (w.alloc (.cells #[.int .i64 c, .int .i64 s, .int .i64 m, .int .i64 x] 47))) := hid ((Below.refl _ _).alloc (Nat.le_refl _) _)
  refine ((HSz _).out B0.out).mono ?_
  rintro e w1 ⟨rfl, hw1⟩
  rw [hw1]
  clear hw1
  go_wp2_with fail
  refine ((HHd _).out B0.out).mono ?_
  rintro e w2 ⟨rfl, hb2⟩
  have HB2 := hid (B0.out.trans (hb2.mono B0.out.size))
  clear hb2 B0 HSz HHd
  go_wp2
  go_ret2
  exact ⟨rfl, HB2.out.alloc HB2.out.size _⟩
def extPost (L : List (List UInt8 × List UInt8)) (X : Int) (w : World) (e : Ending) (w' : World) : Prop :=
  ∃ pv, e = .returned (.tuple #[pv, .int .i64 X]) ∧ Below w.heap.size w w' ∧ (X ≠ 0 → pv = .slice none 0 0) ∧ (X = 0 → w'.ownsRow w.heap.size 107 2 pv L.length (prRow L))
set_option maxHeartbeats 8000000 in
set_option maxRecDepth 100000 in
theorem refExt_gen (w : World) (R : Nat) (t f u c s m x : Int) (pf : ByteArray) (n : Nat) (D : Nat) (E X : Int) (tb : Bool) (vs : List Int) (hs : List Bool) (ns : List Nd) (fw : Fo) (L : List (List UInt8 × List UInt8))
    (hSz : ∀ w', Below w.heap.size w w' → Calls Tryz.prog 136 #[.pointer (some ⟨R, 0, none⟩), .int .i64 t] w' fun e w2 => e = .returned (.int .i64 n) ∧ w2 = w')
    (hHd : ∀ w', Below w.heap.size w w' → Calls Tryz.prog 40 #[.pointer (some ⟨R, 0, none⟩), .int .i64 t, .int .i64 n] w' fun e w2 => e = .returned (headV n D) ∧ Below w'.heap.size w' w2)
    (hCm : ∀ w', Calls Tryz.prog 98 #[.int .i64 t, .agg #[.int .i64 n, .int .u8 ((D : Int) / 256), .int .u8 ((D : Int) % 256)], .int .i64 f, .int .i64 u, .agg #[.int .i64 c, .int .i64 s, .int .i64 m, .int .i64 x], .string pf] w' fun e w2 => e = .returned (.int .i64 E) ∧ Below w'.heap.size w' w2)
    (hTr : ∀ w', Below w.heap.size w w' → Calls Tryz.prog 78 #[.pointer (some ⟨R, 0, none⟩), .int .i64 t, .int .i64 n] w' (treePost tb vs hs w'))
    (hFo : E = 0 → ∀ w' vv hv, TreeIn w' w'.heap.size vv hv vs hs → Calls Tryz.prog 137 #[.agg #[.bool tb, vv, hv], .int .i64 f, .int .i64 u] w' fun e w2 => e = .returned (foV fw) ∧ Below w'.heap.size w' w2)
    (hX : (E ≠ 0 ∧ X = E) ∨ (E = 0 ∧ fw = ⟨c, s, m, x⟩ ∧ X = 11) ∨ (E = 0 ∧ fw ≠ ⟨c, s, m, x⟩ ∧ X = 0 ∧
      (∀ w', Calls Tryz.prog 42 #[.string pf] w' fun e w2 => ∃ ao cp, e = .returned (.tuple #[.slice ao ns.length cp, .int .i64 0]) ∧ Nodes w2 w2.heap.size (.slice ao ns.length cp) ns ∧ ns.length ≤ cp ∧ cp ≤ 9223372036854775807 ∧ Below w'.heap.size w' w2) ∧
      (∀ w' ao cp a1 q1 hv, Nodes w' w'.heap.size (.slice ao ns.length cp) ns → ns.length ≤ cp → cp ≤ 9223372036854775807 → TreeIn w' w'.heap.size (.slice a1 vs.length q1) hv vs hs → Calls Tryz.prog 43 #[.slice ao ns.length cp, .agg #[.bool tb, .slice a1 vs.length q1, hv], .int .i64 f, .int .i64 u] w' (ptPost L w')))) :
    Calls Tryz.prog 103 #[.pointer (some ⟨R, 0, none⟩), .int .i64 t, .int .i64 f, .int .i64 u, .agg #[.int .i64 c, .int .i64 s, .int .i64 m, .int .i64 x], .string pf] w (extPost L X w) := by
  have HSz := fun w' => hid (hSz w')
  have HHd := fun w' => hid (hHd w')
  have HCm := fun w' => hid (hCm w')
  have HTr := fun w' => hid (hTr w')
  have HFo := hid hFo
  have HX := hid hX
  simp only [headV] at HHd
  generalize (D : Int) / 256 = d0 at HHd HCm
  generalize (D : Int) % 256 = d1 at HHd HCm
  clear hSz hHd hCm hTr hX hFo
  obtain ⟨W0, hW0⟩ : ∃ W, W = w.alloc (.cells #[.int .i64 c, .int .i64 s, .int .i64 m, .int .i64 x] 47) := ⟨_, rfl⟩
  have hB0 : Below w.heap.size w W0 := hW0 ▸ (Below.refl _ _).alloc (Nat.le_refl _) _
  have hf0 : FoAt W0 w.heap.size ⟨c, s, m, x⟩ := hW0 ▸ FoAt.at w _ rfl ⟨c, s, m, x⟩
  have s0 := hB0.size
  have HCC : Hid (∀ w', Below W0.heap.size W0 w' → ((w'.cell? ⟨w.heap.size, 0, none⟩ = some (.int .i64 c) ∧ w'.cell? ⟨w.heap.size, 1, none⟩ = some (.int .i64 s) ∧ w'.cell? ⟨w.heap.size, 2, none⟩ = some (.int .i64 m) ∧ w'.cell? ⟨w.heap.size, 3, none⟩ = some (.int .i64 x)) ∧ w.heap.size < w'.heap.size) ∧ Below w.heap.size w w') := hid fun w' hb =>
    ⟨⟨(hf0.below hb hf0.lt).cells.1, by have := hb.size; have := hf0.lt; omega⟩, hB0.trans (hb.mono s0)⟩
  clear hB0 hf0
  go_enter Tryz.func103, Tryz.ntmps103
  go_wp2_with fail
  rw [← hW0]
  clear hW0
  refine ((HSz W0).out (HCC.out W0 (Below.refl _ _)).2).mono ?_
  rintro e w1 ⟨rfl, hw1⟩
  rw [hw1]
  clear hw1 HSz
  go_wp2_with fail
  refine ((HHd W0).out (HCC.out W0 (Below.refl _ _)).2).mono ?_
  rintro e w2 ⟨rfl, hb2⟩
  have HB2 := hid hb2
  have s2 := hb2.size
  obtain ⟨⟨⟨c0, c1, c2, c3⟩, l2⟩, _⟩ := HCC.out w2 hb2
  clear hb2 HHd
  go_wp2_with fail
  refine (HCm _).out.mono ?_
  rintro e w3 ⟨rfl, hb3⟩
  have HB3 : Hid (Below W0.heap.size W0 w3) := hid ((HB2.out.alloc s2 _).trans (hb3.mono (by simp; omega)))
  clear hb3 HCm HB2 c0 c1 c2 c3 l2 s2
  have s3 := HB3.out.size
  rcases HX.out with ⟨hE0, hXE⟩ | ⟨hE0, hfw, hXE⟩ | ⟨hE0, hfw, hXE, hrd, hpr⟩
  · have hEb : (E == 0) = false := by simpa using hE0
    subst hXE
    have HBf := hid (HCC.out w3 HB3.out).2
    clear HX HFo HTr HCC HB3
    go_wp2
    go_ret2
    exact ⟨_, rfl, HBf.out, fun _ => rfl, fun c => absurd c hE0⟩
  · have hdc : decide (c = c ∧ s = s ∧ m = m ∧ x = x) = true := by simp
    have HFq : ∀ w' vv hv, Hid (TreeIn w' w'.heap.size vv hv vs hs → Calls Tryz.prog 137 #[.agg #[.bool tb, vv, hv], .int .i64 f, .int .i64 u] w' fun e w2 => e = .returned (foV fw) ∧ Below w'.heap.size w' w2) := fun w' vv hv => hid (HFo.out hE0 w' vv hv)
    subst hE0 hXE hfw
    simp only [foV] at HFq
    clear HX HFo
    go_wp2_with fail
    refine ((HTr w3).out (HCC.out w3 HB3.out).2).mono ?_
    rintro e w4 ⟨a1, q1, a2, n2, q2, rfl, hT4, hb4⟩
    obtain ⟨W4, hW4⟩ : ∃ W, W = w4.alloc (.cells #[.bool tb, .slice a1 vs.length q1, .slice a2 n2 q2] 53) := ⟨_, rfl⟩
    have hbW4 : Below w4.heap.size w4 W4 := hW4 ▸ (Below.refl _ _).alloc (Nat.le_refl _) _
    have HH4 : Hid (TreeIn W4 W4.heap.size (.slice a1 vs.length q1) (.slice a2 n2 q2) vs hs ∧ Below W0.heap.size W0 W4) := hid ⟨(hT4.below hbW4).mono hbW4.size, (HB3.out.trans (hb4.mono s3)).trans (hbW4.mono (by have := hb4.size; omega))⟩
    clear hb4 hT4 HTr hbW4
    go_wp2_with fail
    rw [← hW4]
    clear hW4 HB3
    refine ((HFq W4 _ _).out HH4.out.1).mono ?_
    rintro e w5 ⟨rfl, hb5⟩
    have HB5 : Hid (Below W0.heap.size W0 w5) := hid (HH4.out.2.trans (hb5.mono HH4.out.2.size))
    have s5 := HB5.out.size
    obtain ⟨⟨⟨c0, c1, c2, c3⟩, l5⟩, hbw⟩ := HCC.out w5 HB5.out
    have HBf := hid hbw
    clear hb5 HFq HH4 hbw HCC HB5
    go_wp2
    go_ret2
    exact ⟨_, rfl, HBf.out.alloc HBf.out.size _, fun _ => rfl, fun c => by cases c⟩
  · obtain ⟨f0, f1, f2, f3⟩ := fw
    have hdc : decide (f0 = c ∧ f1 = s ∧ f2 = m ∧ f3 = x) = false := decide_eq_false fun h => hfw (by rw [h.1, h.2.1, h.2.2.1, h.2.2.2])
    have HFq : ∀ w' vv hv, Hid (TreeIn w' w'.heap.size vv hv vs hs → Calls Tryz.prog 137 #[.agg #[.bool tb, vv, hv], .int .i64 f, .int .i64 u] w' fun e w2 => e = .returned (foV ⟨f0, f1, f2, f3⟩) ∧ Below w'.heap.size w' w2) := fun w' vv hv => hid (HFo.out hE0 w' vv hv)
    have HRd := fun w' => hid (hrd w')
    have HPr := fun w' ao cp a1 q1 hv => hid (hpr w' ao cp a1 q1 hv)
    subst hE0 hXE
    simp only [foV] at HFq
    clear HX HFo hrd hpr hfw
    go_wp2_with fail
    refine ((HTr w3).out (HCC.out w3 HB3.out).2).mono ?_
    rintro e w4 ⟨a1, q1, a2, n2, q2, rfl, hT4, hb4⟩
    obtain ⟨W4, hW4⟩ : ∃ W, W = w4.alloc (.cells #[.bool tb, .slice a1 vs.length q1, .slice a2 n2 q2] 53) := ⟨_, rfl⟩
    have hbW4 : Below w4.heap.size w4 W4 := hW4 ▸ (Below.refl _ _).alloc (Nat.le_refl _) _
    have HH4 : Hid (TrAt W4 w4.heap.size tb (.slice a1 vs.length q1) (.slice a2 n2 q2) ∧ TreeIn W4 W4.heap.size (.slice a1 vs.length q1) (.slice a2 n2 q2) vs hs ∧ Below W0.heap.size W0 W4) := hid ⟨hW4 ▸ heap_one w4 _ _ rfl, (hT4.below hbW4).mono hbW4.size, (HB3.out.trans (hb4.mono s3)).trans (hbW4.mono (by have := hb4.size; omega))⟩
    clear hb4 hT4 HTr hbW4
    go_wp2_with fail
    rw [← hW4]
    clear hW4 HB3
    generalize w4.heap.size = gt at HH4 ⊢
    refine ((HFq W4 _ _).out HH4.out.2.1).mono ?_
    rintro e w5 ⟨rfl, hb5⟩
    have HH5 : Hid (TrAt w5 gt tb (.slice a1 vs.length q1) (.slice a2 n2 q2) ∧ TreeIn w5 w5.heap.size (.slice a1 vs.length q1) (.slice a2 n2 q2) vs hs ∧ Below W0.heap.size W0 w5) := hid ⟨HH4.out.1.below hb5 HH4.out.1.lt, (HH4.out.2.1.below hb5).mono hb5.size, HH4.out.2.2.trans (hb5.mono HH4.out.2.2.size)⟩
    have s5 := HH5.out.2.2.size
    obtain ⟨⟨⟨c0, c1, c2, c3⟩, l5⟩, _⟩ := HCC.out w5 HH5.out.2.2
    clear hb5 HFq HH4
    go_wp2_with fail
    obtain ⟨W5, hW5⟩ : ∃ W, W = w5.alloc (.cells #[.int .i64 f0, .int .i64 f1, .int .i64 f2, .int .i64 f3] 47) := ⟨_, rfl⟩
    have hbW5 : Below w5.heap.size w5 W5 := hW5 ▸ (Below.refl _ _).alloc (Nat.le_refl _) _
    rw [← hW5]
    have HBW5 := hid hbW5
    clear hW5 hbW5
    refine (HRd W5).out.mono ?_
    rintro e w6 ⟨ao, cp, rfl, hN6, hcp1, hcp2, hb6⟩
    have hb56 : Below w5.heap.size w5 w6 := HBW5.out.trans (hb6.mono HBW5.out.size)
    have HH6 : Hid (TrAt w6 gt tb (.slice a1 vs.length q1) (.slice a2 n2 q2) ∧ TreeIn w6 w6.heap.size (.slice a1 vs.length q1) (.slice a2 n2 q2) vs hs ∧ Below W0.heap.size W0 w6) := hid ⟨HH5.out.1.below hb56 HH5.out.1.lt, (HH5.out.2.1.below hb56).mono hb56.size, HH5.out.2.2.trans (hb56.mono HH5.out.2.2.size)⟩
    have HN6 := hid hN6
    obtain ⟨t0, t1, t2⟩ := HH6.out.1.cells
    clear hb6 hb56 hN6 HRd HH5 HBW5 c0 c1 c2 c3
    go_wp2_with fail
    refine ((HPr w6 ao cp a1 q1 _).out HN6.out hcp1 hcp2 HH6.out.2.1).mono ?_
    rintro e w7 ⟨pv, rfl, ho7, hb7⟩
    have HO7 := hid ho7
    have HB7 := hid (HH6.out.2.2.trans (hb7.mono HH6.out.2.2.size))
    have HBf := hid (HCC.out w7 HB7.out).2
    have HB6 := hid (HCC.out w6 HH6.out.2.2).2
    clear ho7 hb7 HPr HN6 HH6 t0 t1 t2 HB7
    go_wp2
    go_ret2
    exact ⟨_, rfl, HBf.out, fun c => absurd rfl c, fun _ => own_mono' HO7.out HB6.out.size⟩
end Go.Proofs.YtogmdaopfnmobaaGreat

/- What both Extract tell, and what clash says of it. -/
namespace Go.Proofs.YtogmdaopfnmobaaGreat
open Go.RowKit Go.Maps
structure ExE (W : World) (p : Pr) (t f u c s m x : Int) (pf : ByteArray) (A B : ByteArray) (X : Int) : Prop where
  ours : ∀ w', Below W.heap.size W w' → Calls Tryz.prog 102 #[.pointer (some ⟨p.S, 0, none⟩), .int .i64 t, .int .i64 f, .int .i64 u, .agg #[.int .i64 c, .int .i64 s, .int .i64 m, .int .i64 x], .string pf] w' fun e w2 => e = .returned (.tuple #[.string A, .string B, .int .i64 X]) ∧ Below w'.heap.size w' w2
  docs : ∀ w', Below W.heap.size W w' → Calls Tryz.prog 103 #[.pointer (some ⟨p.R, 0, none⟩), .int .i64 t, .int .i64 f, .int .i64 u, .agg #[.int .i64 c, .int .i64 s, .int .i64 m, .int .i64 x], .string pf] w' fun e w2 => ∃ pv, e = .returned (.tuple #[pv, .int .i64 X]) ∧ Below w'.heap.size w' w2 ∧ (∃ x y z, pv = .slice x y z) ∧ Calls Tryz.prog 13 #[.string A, .string B, .int .i64 X, .int .i64 X, pv] w2 fun e w3 => e = .returned (.bool true) ∧ Below w2.heap.size w2 w3
theorem exE_any (W : World) (base : Nat) (p : Pr) (hpk : PrOk W base p) (t f u c s m x : Int) (pf : ByteArray) (hpf : pf.size ≤ maxLen) : ∃ A B X, ExE W p t f u c s m x pf A B X := by
  by_cases h01 : t = 0 ∨ t = 1
  · obtain ⟨n, lf', tb, vs, hs, hsz, hn, hvl, hlf, hgd, hcong, hz, hHd, hLk, hTr⟩ : ∃ (n : Nat) (lf' : Nat → Nd) (tb : Bool) (vs : List Int) (hs : List Bool), (∀ w', Below W.heap.size W w' → Calls Tryz.prog 136 #[.pointer (some ⟨p.R, 0, none⟩), .int .i64 t] w' fun e w2 => e = .returned (.int .i64 n) ∧ w2 = w') ∧ n ≤ 64 ∧ vs.length = n ∧ (∀ i, bd 1 (lf' i)) ∧ (∀ i, (lf' i).fold.good) ∧ (∀ i, i < n → lf tb vs hs i = lf' i) ∧ szB t n = true ∧
        (∀ w', Below W.heap.size W w' → Calls Tryz.prog 40 #[.pointer (some ⟨p.R, 0, none⟩), .int .i64 t, .int .i64 n] w' fun e w2 => e = .returned (headV n (dg (hdText n (tr lf' 0 n)))) ∧ Below w'.heap.size w' w2) ∧
        (∀ w', Below W.heap.size W w' → Calls Tryz.prog 49 #[.pointer (some ⟨p.S, 0, none⟩), .int .i64 t] w' (lookPost n lf' w')) ∧
        (∀ w', Below W.heap.size W w' → Calls Tryz.prog 78 #[.pointer (some ⟨p.R, 0, none⟩), .int .i64 t, .int .i64 n] w' (treePost tb vs hs w')) := by
      have hso := hpk.ps.ok
      rcases h01 with rfl | rfl
      · refine ⟨p.s.l.length, lgf p.s.l, false, p.s.l.take p.s.l.length, List.replicate p.s.l.length true, fun w' hb => ?_, hso.len, by simp, lgf_bd hso.val, lgf_good _, fun i hi => lgf_lf hi, decide_eq_true (.inl ⟨rfl, by omega, by have := hso.len; omega⟩), fun w' hb => ?_, fun w' hb => look_log w' _ p.S p.s p.lv p.M (hpk.ps.below hb), fun w' hb => refTree_log w' _ p.R p.s p.rl p.K p.H _ (hpk.rs.below hb) (Nat.le_refl _)⟩
        · have := refSize_any w' base p.R p.s p.rl p.K p.H 0 (hpk.rs.below hb)
          rw [if_pos rfl] at this
          exact this
        · have := rHead_any w' base p.R p.s p.rl p.K p.H 0 p.s.l.length (hpk.rs.below hb)
          rw [hdA, if_pos ⟨rfl, by omega, by omega⟩, Int.toNat_natCast] at this
          exact this
      · refine ⟨32, tbf p.s.t, true, tv p.s.t, tx p.s.t, fun w' hb => ?_, by decide, by simp [tv, hso.tlen], tbf_bd hso.tval, tbf_good _, fun i _ => tbf_lf i, decide_eq_true (.inr ⟨rfl, rfl⟩), fun w' hb => ?_, fun w' hb => look_tab w' _ p.S p.s p.lv p.M (hpk.ps.below hb), fun w' hb => refTree_tab w' _ p.R p.s p.rl p.K p.H (hpk.rs.below hb)⟩
        · have := refSize_any w' base p.R p.s p.rl p.K p.H 1 (hpk.rs.below hb)
          rw [if_neg (by decide)] at this
          exact this
        · have := rHead_any w' base p.R p.s p.rl p.K p.H 1 32 (hpk.rs.below hb)
          rw [hdA, if_neg (by omega), if_pos ⟨rfl, rfl⟩] at this
          exact this
    have hck := scheck t n f u ((dg (hdText n (tr lf' 0 n)) : Int) / 256) ((dg (hdText n (tr lf' 0 n)) : Int) % 256) c s m x pf hpf hz
    obtain ⟨E, hE⟩ : ∃ E, E = ckR n f u ((dg (hdText n (tr lf' 0 n)) : Int) / 256) ((dg (hdText n (tr lf' 0 n)) : Int) % 256) ⟨c, s, m, x⟩ (readR pf.data.toList) := ⟨_, rfl⟩
    rw [← hE] at hck
    have hexg := fun (R : Option (List UInt8 × List UInt8)) (X : Int) hR => fun w' (hb : Below W.heap.size W w') => extract_gen w' p.S t n lf' hlf hgd hn (fun w'' hb' => hLk w'' (hb.trans (hb'.mono hb.size))) f u c s m x pf hpf E R X hck.1 hR
    have hrg0 := fun (w' : World) (hb : Below W.heap.size W w') (X : Int) (ns : List Nd) (fw : Fo) (L : List (List UInt8 × List UInt8)) => refExt_gen w' p.R t f u c s m x pf n (dg (hdText n (tr lf' 0 n))) E X tb vs hs ns fw L (fun w'' hb' => hsz w'' (hb.trans (hb'.mono hb.size))) (fun w'' hb' => hHd w'' (hb.trans (hb'.mono hb.size))) hck.2 (fun w'' hb' => hTr w'' (hb.trans (hb'.mono hb.size)))
    by_cases hE0 : E = 0
    case neg =>
      refine ⟨⟨#[]⟩, ⟨#[]⟩, E, ⟨fun w' hb => hexg none E (.inl ⟨hE0, rfl, rfl⟩) w' hb, fun w' hb => ?_⟩⟩
      refine (hrg0 w' hb E [] .zero [] (fun h => absurd h hE0) (.inl ⟨hE0, rfl⟩)).mono ?_
      rintro e w2 ⟨pv, he, hb2, hpv, _⟩
      obtain rfl := hpv hE0
      exact ⟨_, he, hb2, ⟨_, _, _, rfl⟩, clash_err E w2 hE0 _⟩
    case pos =>
      subst hE0
      have hrg : rgB f u n = true := by
        cases h : rgB f u n with
        | true => rfl
        | false => rw [ckR, h] at hE; simp at hE
      have hrr := of_decide_eq_true hrg
      obtain ⟨F, rfl⟩ : ∃ F : Nat, f = F := ⟨f.toNat, by omega⟩
      obtain ⟨T, rfl⟩ : ∃ T : Nat, u = T := ⟨u.toNat, by omega⟩
      rw [ckR, hrg] at hE
      simp only [if_true, Int.toNat_natCast] at hE
      obtain ⟨ns, hns⟩ : ∃ ns, readR pf.data.toList = some ns := by
        cases h : readR pf.data.toList with
        | none => rw [h] at hE; simp [ckE] at hE
        | some ns => exact ⟨ns, rfl⟩
      have hrt : rtE n F T (readR pf.data.toList) = 0 := Decidable.byContradiction fun c' => by
        have := ckE_rt (h0 := (dg (hdText n (tr lf' 0 n)) : Int) / 256) (h1 := (dg (hdText n (tr lf' 0 n)) : Int) % 256) (claim := ⟨c, s, m, x⟩) c'
        rw [← hE] at this
        exact c' this.symm
      have hok : ∀ d ∈ ns, d.ok = true := fun d hd => List.all_eq_true.1 (write_read _ _ hns).2.1 d hd
      have hFo : ∀ w' vv hv, TreeIn w' w'.heap.size vv hv vs hs → Calls Tryz.prog 137 #[.agg #[.bool tb, vv, hv], .int .i64 F, .int .i64 T] w' fun e w2 => e = .returned (foV (fv lf' F (T - F))) ∧ Below w'.heap.size w' w2 := fun w' vv hv hT => by
        have := refFold_any tb vv hv vs hs F T w' hT (by omega) (by omega)
        rw [fv_congr F (T - F) (fun i hi => hcong (F + i) (by omega))] at this
        exact this
      by_cases hfv : fv lf' F (T - F) = ⟨c, s, m, x⟩
      · refine ⟨⟨#[]⟩, ⟨#[]⟩, 11, ⟨fun w' hb => hexg none 11 (.inr ⟨rfl, F, T, ns, rfl, rfl, by omega, by omega, hns, hrt, .inl ⟨hfv, rfl, rfl⟩⟩) w' hb, fun w' hb => ?_⟩⟩
        refine (hrg0 w' hb 11 ns (fv lf' F (T - F)) [] (fun _ => hFo) (.inr (.inl ⟨rfl, hfv, rfl⟩))).mono ?_
        rintro e w2 ⟨pv, he, hb2, hpv, _⟩
        obtain rfl := hpv (by decide)
        exact ⟨_, he, hb2, ⟨_, _, _, rfl⟩, clash_err 11 w2 (by decide) _⟩
      · obtain ⟨⟨hl1, hcok⟩, P, Q, hcls, hPQ, hdPQ, hmem⟩ := sound_math hlf hgd hn (by omega : T ≤ n) (claim := ⟨c, s, m, x⟩) hok (by rw [← hns]; exact hE.symm) hfv
        have htU : ∀ a b, a ≤ b → b ≤ n → tr lf' a b = tr (lf tb vs hs) a b := fun a b _ hb => tr_congr (b - a) a b (Nat.le_refl _) (fun i _ hi => (hcong i (by omega)).symm)
        have hrd : ∀ w', Calls Tryz.prog 42 #[.string pf] w' fun e w2 => ∃ ao cp, e = .returned (.tuple #[.slice ao ns.length cp, .int .i64 0]) ∧ Nodes w2 w2.heap.size (.slice ao ns.length cp) ns ∧ ns.length ≤ cp ∧ cp ≤ 9223372036854775807 ∧ Below w'.heap.size w' w2 := fun w' => by
          have := refRead_any pf w' hpf
          rw [hns] at this
          refine this.mono ?_
          rintro e w2 ⟨v, he, ho, hb⟩
          obtain ⟨ao, cp, rfl, h1, h2⟩ := own_shape2 ho
          exact ⟨ao, cp, he, Nodes.own ho (by have := (cov_len F T n 0 n (by omega)).2; omega), h1, h2, hb⟩
        have hpr : ∀ w' ao cp a1 q1 hv, Nodes w' w'.heap.size (.slice ao ns.length cp) ns → ns.length ≤ cp → cp ≤ 9223372036854775807 → TreeIn w' w'.heap.size (.slice a1 vs.length q1) hv vs hs → Calls Tryz.prog 43 #[.slice ao ns.length cp, .agg #[.bool tb, .slice a1 vs.length q1, hv], .int .i64 F, .int .i64 T] w' (ptPost (prC (tr lf') 0 n F T ns ++ [(hdText n (cm 0 n F T ns), hdText n (tr lf' 0 n))]) w') := fun w' ao cp a1 q1 hv hN h1 h2 hT => by
          have := refPairs_any tb a1 q1 hv vs hs F T ao cp ns w' hN h1 h2 hok hT (by omega) (by omega) (by rw [hvl]; omega) (by rw [hvl]; exact hcok)
          rw [hvl, ← htU 0 n (by omega) (Nat.le_refl _), ← prC_congr htU n 0 n ns (by omega) (by omega) (Nat.le_refl _)] at this
          rw [hvl]
          exact this
        have hPl : P.length ≤ 1000 ∧ Q.length ≤ 1000 := by
          rcases List.mem_append.1 hmem with h | h
          · have := prC_small n 0 n ns (by omega) _ h; simp only at this; omega
          · simp only [List.mem_singleton, Prod.mk.injEq] at h
            have h1 := hdText_length n (cm 0 n F T ns)
            have h2 := hdText_length n (tr lf' 0 n)
            rw [← h.1] at h1
            rw [← h.2] at h2
            omega
        have hLl : (prC (tr lf') 0 n F T ns ++ [(hdText n (cm 0 n F T ns), hdText n (tr lf' 0 n))]).length ≤ 1000 := by
          have hpl := prC_len (U := tr lf') (f := F) (t := T) n 0 n ns (by omega)
          simp; omega
        refine ⟨⟨P.toArray⟩, ⟨Q.toArray⟩, 0, ⟨fun w' hb => hexg (some (P, Q)) 0 (.inr ⟨rfl, F, T, ns, rfl, rfl, by omega, by omega, hns, hrt, .inr ⟨hfv, hcls.symm, rfl⟩⟩) w' hb, fun w' hb => ?_⟩⟩
        refine (hrg0 w' hb 0 ns (fv lf' F (T - F)) _ (fun _ => hFo) (.inr (.inr ⟨rfl, hfv, rfl, hrd, hpr⟩))).mono ?_
        rintro e w2 ⟨pv, he, hb2, _, hpv⟩
        have ho2 := hpv rfl
        generalize prC (tr lf') 0 n F T ns ++ [(hdText n (cm 0 n F T ns), hdText n (tr lf' 0 n))] = L at ho2 hmem hLl
        rcases ho2.2 with ⟨rfl, h3⟩ | ⟨g, cap, cur, rfl, _⟩
        · exact absurd hmem (by rw [List.eq_nil_of_length_eq_zero h3]; simp)
        · exact ⟨_, he, hb2, ⟨_, _, _, rfl⟩, clash_ok P Q L _ g cap w2 ho2 hLl hPQ hdPQ hmem hPl.1 hPl.2⟩
  · have h0 : t ≠ 0 := fun c => h01 (.inl c)
    have h1 : t ≠ 1 := fun c => h01 (.inr c)
    refine ⟨⟨#[]⟩, ⟨#[]⟩, 5, ⟨fun w' hb => extract_no w' p.S t f u c s m x pf h0 h1, fun w' hb => ?_⟩⟩
    refine (refExt_no w' p.R t f u c s m x pf (fun w'' hb' => ?_) (fun w'' hb' => ?_)).mono ?_
    · have := refSize_any w'' base p.R p.s p.rl p.K p.H t (hpk.rs.below (hb.trans (hb'.mono hb.size)))
      rw [if_neg h0] at this
      exact this
    · have := rHead_any w'' base p.R p.s p.rl p.K p.H t 32 (hpk.rs.below (hb.trans (hb'.mono hb.size)))
      rw [hdA, if_neg (by omega), if_neg (by omega)] at this
      exact this
    · rintro e w2 ⟨he, hb2⟩
      exact ⟨_, he, hb2, ⟨_, _, _, rfl⟩, clash_err 5 w2 (by decide) _⟩
end Go.Proofs.YtogmdaopfnmobaaGreat

