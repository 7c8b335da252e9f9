/- What the document's own answer does (notaryref): Beginning. -/
import Derived.Test.YtogmdaopfnmobaaGreatA22
import Derived.Test.YtogmdaopfnmobaaGreatA05
namespace Go.Proofs.YtogmdaopfnmobaaGreat
open Go.RowKit
def bg (l : List Sp) (ns : List Nd) : Nat → Nd × Bool
  | 0 => (.E, true)
  | k + 1 => if ((l[l.length - (k + 1)]?.map (·.i)).getD false) then (if (bg l ns k).2 then (ns[l.length - (k + 1)]?.getD .E, false) else (ab (ns[l.length - (k + 1)]?.getD .E) (bg l ns k).1, false)) else bg l ns k
def NdAt (w : World) (g : Nat) (d : Nd) : Prop := Six w g (.int .i64 d.c) (.int .i64 d.s) (.int .i64 d.m) (.int .i64 d.x) (.int .u8 (d.h.toNat : Int)) (.int .u8 (d.g.toNat : Int))
theorem NdAt.cells {w : World} {g : Nat} {d : Nd} (h : NdAt w g d) : (w.cell? ⟨g, 0, none⟩ = some (.int .i64 d.c) ∧ w.cell? ⟨g, 1, none⟩ = some (.int .i64 d.s) ∧ w.cell? ⟨g, 2, none⟩ = some (.int .i64 d.m) ∧ w.cell? ⟨g, 3, none⟩ = some (.int .i64 d.x) ∧ w.cell? ⟨g, 4, none⟩ = some (.int .u8 (d.h.toNat : Int)) ∧ w.cell? ⟨g, 5, none⟩ = some (.int .u8 (d.g.toNat : Int))) ∧ ∀ o, w.frozen? ⟨g, o, none⟩ = false := by
  have h' : Six _ _ _ _ _ _ _ _ := h
  exact ⟨h'.cells, fun o => by simp [World.frozen?, h'.eq]⟩
theorem NdAt.lt {w : World} {g : Nat} {d : Nd} (h : NdAt w g d) : g < w.heap.size := (Array.getElem?_eq_some_iff.1 (show Six _ _ _ _ _ _ _ _ from h).eq).1
theorem NdAt.set {w : World} {g : Nat} {d : Nd} (h : NdAt w g d) (e : Nd) : NdAt ((((((w.setCell ⟨g, 0, none⟩ (.int .i64 e.c)).setCell ⟨g, 1, none⟩ (.int .i64 e.s)).setCell ⟨g, 2, none⟩ (.int .i64 e.m)).setCell ⟨g, 3, none⟩ (.int .i64 e.x)).setCell ⟨g, 4, none⟩ (.int .u8 (e.h.toNat : Int))).setCell ⟨g, 5, none⟩ (.int .u8 (e.g.toNat : Int))) g e := Six.set h _ _ _ _ _ _
def Z6 (w : World) (g : Nat) : Prop := Six w g (.int .i64 0) (.int .i64 0) (.int .i64 0) (.int .i64 0) (.int .u8 0) (.int .u8 0)
set_option maxHeartbeats 4000000 in
set_option maxRecDepth 100000 in
theorem refBeginning_any (l : List Sp) (ns : List Nd) (base g cap : Nat) (v : Value) (w : World) (hc : w.ownsRow base 188 3 (.slice (some ⟨g, 0, none⟩) l.length cap) l.length (spRow l)) (hN : Nodes w w.heap.size v ns) (hlen : ns.length = l.length) (hn : l.length ≤ 1000) (hok : ∀ d ∈ ns, d.ok = true) (hbo : ∀ k, k ≤ l.length → (bg l ns k).1.ok = true) :
    Calls Tryz.prog 81 #[.slice (some ⟨g, 0, none⟩) l.length cap, v] w fun e w' => e = .returned (ndV (bg l ns l.length).1) ∧ Below w.heap.size w w' := by
  have HC : Hid (w.ownsRow base 188 3 (.slice (some ⟨g, 0, none⟩) l.length cap) l.length (spRow l)) := hc
  have HN : Hid (Nodes w w.heap.size v ns) := hN
  have hg := (own_in hc g (mem_ob.2 rfl)).2
  obtain ⟨ao, cp, rfl, _, _⟩ := hN.ex
  have HL : Hid _ := hlen
  have HOk : Hid _ := hok
  have HBo : Hid _ := hbo
  clear hc hN hlen hok hbo
  go_enter Tryz.func81, Tryz.ntmps81
  go_wp2_with fail
  refine (refEmpty_any _).mono ?_
  rintro e w1 ⟨rfl, hb1⟩
  have l1 : w.heap.size < w1.heap.size := by have := hb1.size; simp at this; omega
  have hZ : Hid (Z6 w1 w.heap.size) := hid ((Six.at w w.heap.size rfl _ _ _ _ _ _).below hb1 (by simp))
  have hB1 : Hid (Below w.heap.size w w1) := hid (((Below.refl _ _).alloc (Nat.le_refl _) _).trans (hb1.mono (by simp)))
  clear hb1
  go_wp2
  obtain ⟨N, hNe⟩ : ∃ N, N = w1.heap.size := ⟨_, rfl⟩
  rw [← hNe]
  obtain ⟨W0, hW0⟩ : ∃ W0, W0 = w1.alloc (.cells #[.int .i64 0, .int .i64 0, .int .i64 0, .int .i64 0, .int .u8 1, .int .u8 77] 51) := ⟨_, rfl⟩
  have hF1 : Hid (NdAt W0 N .E) := hid (by rw [hW0]; exact Six.at w1 N hNe _ _ _ _ _ _)
  have hF0 : Hid (Z6 W0 w.heap.size) := hid (by rw [hW0]; exact hZ.out.alloc _)
  have hB0 : Hid (Below w.heap.size w W0) := hid (by rw [hW0]; exact hB1.out.alloc (by omega) _)
  have hNw : w.heap.size < N := by omega
  rw [← hW0]
  clear hW0 hZ hB1 hNe l1
  go_loopw [6, 7] (fun f i wr => ∃ k : Nat, k ≤ l.length ∧ i = .int .i64 ((l.length : Int) - 1 - k) ∧ f = .bool (bg l ns k).2 ∧ Hid (NdAt wr N (bg l ns k).1 ∧ Z6 wr w.heap.size ∧ Below w.heap.size w wr)) (fun _ i _ => (intOf i + 1).toNat)
  case atStart => exact ⟨0, Nat.zero_le _, by simp, rfl, hid ⟨hF1.out, hF0.out, hB0.out⟩⟩
  case round =>
    clear hF1 hF0 hB0
    obtain ⟨k, hk, rfl, rfl, HR⟩ := hrel
    obtain ⟨h1, h2, h3⟩ := HR.out
    have l2 := h1.lt
    by_cases hlt : k < l.length
    · obtain ⟨j, hj⟩ : ∃ j, j = l.length - (k + 1) := ⟨_, rfl⟩
      have hjl : j < l.length := by omega
      have hji : (l.length : Int) - 1 - k = (j : Int) := by omega
      obtain ⟨p, hp⟩ : ∃ p, p = l[j] := ⟨_, rfl⟩
      obtain ⟨_, _, d2⟩ := span_cells (own_keep HC.out fun i hi => h3.block i (own_in HC.out i hi).2) j hjl p hp
      have hkn : j < ns.length := by rw [HL.out]; exact hjl
      obtain ⟨d, hd⟩ : ∃ d, d = ns[j] := ⟨_, rfl⟩
      obtain ⟨b, off, hab, hbB, e0, e1, e2, e3, e4, e5⟩ := rnodes_six (HN.out.below h3) hkn hd
      subst hab
      have i1 : (j : Int) < l.length := by omega
      have i2 : (j : Int) < ns.length := by omega
      have hdo := HOk.out d (by rw [hd]; exact List.getElem_mem hkn)
      have HDo : Hid (d.ok = true) := hdo
      have HZo : Hid ((bg l ns k).1.ok = true) := HBo.out k hk
      have HF : Hid (bg l ns (k + 1) = if p.i then (if (bg l ns k).2 then (d, false) else (ab d (bg l ns k).1, false)) else bg l ns k) := hid (by rw [bg, ← hj]; simp [hjl, hkn, hp, hd])
      have hgz : g < wr.heap.size := by have := h3.size; omega
      have hbz : b < wr.heap.size := by have := h3.size; omega
      have hnx : ((j : Int) - 1) = (l.length : Int) - 1 - ((k + 1 : Nat) : Int) := by omega
      have HNX : Hid _ := hnx
      rw [hji]
      have H1 : Hid (NdAt wr N (bg l ns k).1) := h1
      have H2 : Hid (Z6 wr w.heap.size) := h2
      have H3 : Hid (Below w.heap.size w wr) := h3
      obtain ⟨z, hz⟩ : ∃ z, z = bg l ns k := ⟨_, rfl⟩
      rw [← hz] at H1 HF HZo ⊢
      clear hz h1 h2 h3 hp hd hdo HR hj hji hnx
      cases hi : p.i with
      | false =>
        rw [hi] at d2
        have HFf : Hid (bg l ns (k + 1) = z) := hid (by rw [HF.out, hi]; simp)
        clear hi HF
        go_wp2
        go_roundw
        case rel => exact ⟨k + 1, by omega, by rw [← HNX.out], by rw [HFf.out], by rw [HFf.out]; exact hid ⟨H1.out, H2.out, H3.out⟩⟩
        case measure => simp [intOf]
      | true =>
        rw [hi] at d2
        cases hf : z.2 with
        | true =>
          have HFf : Hid (bg l ns (k + 1) = (d, false)) := hid (by rw [HF.out, hi, hf]; simp)
          clear hi HF
          obtain ⟨⟨f0, f1, f2, f3, f4, f5⟩, ff⟩ := NdAt.cells H1.out
          go_wp2
          go_roundw
          case rel =>
            refine ⟨k + 1, by omega, by rw [← HNX.out], by rw [HFf.out], ?_⟩
            rw [HFf.out]
            refine hid ⟨NdAt.set H1.out d, ?_, ?_⟩
            · exact (((((H2.out.far (by omega)).far (by omega)).far (by omega)).far (by omega)).far (by omega)).far (by omega)
            · repeat (refine Below.setCell ?_ (by simp; omega) _)
              exact H3.out
          case measure => simp [intOf]
        | false =>
          have HFf : Hid (bg l ns (k + 1) = (ab d z.1, false)) := hid (by rw [HF.out, hi, hf]; simp)
          clear hi HF
          obtain ⟨⟨f0, f1, f2, f3, f4, f5⟩, ff⟩ := NdAt.cells H1.out
          have HA : ∀ w', Hid (Calls Tryz.prog 89 #[ndV d, ndV z.1] w' _) := fun w' => hid (refAbove_any d z.1 w' HDo.out HZo.out)
          generalize ab d z.1 = q at HA HFf
          go_wp2
          go_region_with (go_at_call 89; refine (show Calls Tryz.prog 89 #[ndV d, ndV z.1] _ _ from (HA _).out).mono ?_; rintro e w2 ⟨rfl, hb2⟩; rw [ndV]; have h1' : NdAt w2 N z.1 := (hb2.block N l2).trans H1.out; obtain ⟨⟨g0, g1, g2, g3, g4, g5⟩, gg⟩ := NdAt.cells h1'; have H1' : Hid (NdAt w2 N z.1) := h1'; clear h1')
          all_goals
            have B1 : Hid (Below w.heap.size w w2) := hid (H3.out.drew.trans (hb2.mono (show w.heap.size ≤ wr.heap.size from H3.out.size)))
            have G1 : Hid (Z6 w2 w.heap.size) := hid ((hb2.block w.heap.size (show w.heap.size < wr.heap.size by omega)).trans H2.out)
            clear hb2 f0 f1 f2 f3 f4 f5 ff d2 e0 e1 e2 e3 e4 e5
            go_wp2
            go_roundw
            case rel =>
              refine ⟨k + 1, by omega, by rw [← HNX.out], by rw [HFf.out], ?_⟩
              rw [HFf.out]
              refine hid ⟨NdAt.set H1'.out q, ?_, ?_⟩
              · exact (((((G1.out.far (by omega)).far (by omega)).far (by omega)).far (by omega)).far (by omega)).far (by omega)
              · repeat (refine Below.setCell ?_ (by simp; omega) _)
                exact B1.out
            case measure => simp [intOf]
    · have hk' : k = l.length := by omega
      subst hk'
      have hneg : (l.length : Int) - 1 - l.length = -1 := by omega
      rw [hneg]
      obtain ⟨⟨f0, f1, f2, f3, f4, f5⟩, _⟩ := NdAt.cells h1
      have h2' : Six _ _ _ _ _ _ _ _ := h2
      obtain ⟨g0, g1, g2, g3, g4, g5⟩ := h2'.cells
      have gg : ∀ o, wr.frozen? ⟨w.heap.size, o, none⟩ = false := fun o => by simp [World.frozen?, h2'.eq]
      obtain ⟨z, hz⟩ : ∃ z, z = bg l ns l.length := ⟨_, rfl⟩
      rw [← hz] at h1 f0 f1 f2 f3 f4 f5 ⊢
      have HZ : Hid _ := hz
      have H2 : Hid (Z6 wr w.heap.size) := h2
      have H3 : Hid (Below w.heap.size w wr) := h3
      clear HR hz h2 h3 h2' hneg
      go_wp2
      refine ret_node1 Tryz.results81 (Six.set H2.out _ _ _ _ _ _) rfl ⟨by rw [← HZ.out]; rfl, ?_⟩
      repeat (refine Below.setCell ?_ (by simp) _)
      exact H3.out
end Go.Proofs.YtogmdaopfnmobaaGreat

/- What the document's own answer does (notaryref): what a proof's nodes come to, as mathematics. -/
namespace Go.Proofs.YtogmdaopfnmobaaGreat
open Go.RowKit
def wk (a b f t : Nat) (ns : List Nd) (bad : Bool) : Nd × List Nd × Bool :=
  if isOut a b f t = true ∨ isIn a b f t = true ∨ b < a + 2 then (ns.headD .E, ns.tail, bad)
  else
    let r1 := wk a (a + hf (b - a)) f t ns bad
    let r2 := wk (a + hf (b - a)) b f t r1.2.1 r1.2.2
    if r2.2.2 then (r1.1, r2.2.1, true) else (ab r1.1 r2.1, r2.2.1, !(ab r1.1 r2.1).ok)
termination_by b - a
decreasing_by
  · have := hf_lt (b - a) (by omega); omega
  · have := hf_pos (b - a); omega
theorem wk_one (a b f t : Nat) (ns : List Nd) (bad : Bool) (h : isOut a b f t = true ∨ isIn a b f t = true ∨ b < a + 2) : wk a b f t ns bad = (ns.headD .E, ns.tail, bad) := by rw [wk, if_pos h]
theorem wk_two (a b f t : Nat) (ns : List Nd) (bad : Bool) (h : ¬ (isOut a b f t = true ∨ isIn a b f t = true ∨ b < a + 2)) : wk a b f t ns bad =
    if (wk (a + hf (b - a)) b f t (wk a (a + hf (b - a)) f t ns bad).2.1 (wk a (a + hf (b - a)) f t ns bad).2.2).2.2 then ((wk a (a + hf (b - a)) f t ns bad).1, (wk (a + hf (b - a)) b f t (wk a (a + hf (b - a)) f t ns bad).2.1 (wk a (a + hf (b - a)) f t ns bad).2.2).2.1, true)
    else (ab (wk a (a + hf (b - a)) f t ns bad).1 (wk (a + hf (b - a)) b f t (wk a (a + hf (b - a)) f t ns bad).2.1 (wk a (a + hf (b - a)) f t ns bad).2.2).1, (wk (a + hf (b - a)) b f t (wk a (a + hf (b - a)) f t ns bad).2.1 (wk a (a + hf (b - a)) f t ns bad).2.2).2.1, !(ab (wk a (a + hf (b - a)) f t ns bad).1 (wk (a + hf (b - a)) b f t (wk a (a + hf (b - a)) f t ns bad).2.1 (wk a (a + hf (b - a)) f t ns bad).2.2).1).ok) := by
  rw [wk, if_neg h]
theorem wk_rest (f t : Nat) : ∀ (n a b : Nat) (ns : List Nd) (bad : Bool), b - a ≤ n → (wk a b f t ns bad).2.1 = ns.drop (cov a b f t).length := by
  intro n
  induction n with
  | zero => intro a b ns bad h; rw [wk_one _ _ _ _ _ _ (by omega), cov, if_pos (by omega)]; simp
  | succ n ih =>
    intro a b ns bad h
    by_cases hs : isOut a b f t = true ∨ isIn a b f t = true ∨ b < a + 2
    · rw [wk_one _ _ _ _ _ _ hs, cov, if_pos hs]; simp
    · have p := hf_pos (b - a)
      have q := hf_lt (b - a) (by omega)
      rw [wk_two _ _ _ _ _ _ hs, cov, if_neg hs, List.length_append]
      have e1 := ih a (a + hf (b - a)) ns bad (by omega)
      have e2 := ih (a + hf (b - a)) b (wk a (a + hf (b - a)) f t ns bad).2.1 (wk a (a + hf (b - a)) f t ns bad).2.2 (by omega)
      split <;> (simp only; rw [e2, e1, List.drop_drop])
theorem wk_ok (f t : Nat) : ∀ (n a b : Nat) (ns : List Nd) (bad : Bool), b - a ≤ n → (∀ d ∈ ns, d.ok = true) → (wk a b f t ns bad).2.2 = false → (wk a b f t ns bad).1.ok = true ∧ bad = false := by
  intro n
  induction n with
  | zero =>
    intro a b ns bad h hok hb
    rw [wk_one _ _ _ _ _ _ (by omega)] at hb ⊢
    refine ⟨?_, hb⟩
    cases ns with
    | nil => rfl
    | cons d r => exact hok d (by simp)
  | succ n ih =>
    intro a b ns bad h hok hb
    by_cases hs : isOut a b f t = true ∨ isIn a b f t = true ∨ b < a + 2
    · rw [wk_one _ _ _ _ _ _ hs] at hb ⊢
      refine ⟨?_, hb⟩
      cases ns with
      | nil => rfl
      | cons d r => exact hok d (by simp)
    · have p := hf_pos (b - a)
      have q := hf_lt (b - a) (by omega)
      rw [wk_two _ _ _ _ _ _ hs] at hb ⊢
      have e1 := wk_rest f t n a (a + hf (b - a)) ns bad (by omega)
      generalize hr1 : wk a (a + hf (b - a)) f t ns bad = r1 at hb e1 ⊢
      generalize hr2 : wk (a + hf (b - a)) b f t r1.2.1 r1.2.2 = r2 at hb ⊢
      cases h2 : r2.2.2 with
      | true => simp [h2] at hb
      | false =>
        simp only [h2, Bool.false_eq_true, if_false] at hb ⊢
        have i2 := ih (a + hf (b - a)) b r1.2.1 r1.2.2 (by omega) (by rw [e1]; exact fun d hd => hok d (List.mem_of_mem_drop hd)) (by rw [hr2]; exact h2)
        have i1 := ih a (a + hf (b - a)) ns bad (by omega) hok (by rw [hr1]; exact i2.2)
        exact ⟨by simpa using hb, i1.2⟩
end Go.Proofs.YtogmdaopfnmobaaGreat

/- What the document's own answer does (notaryref): part of a proof, one part. -/
namespace Go.Proofs.YtogmdaopfnmobaaGreat
open Go.RowKit
def WkAt (w : World) (G : Nat) (v : Value) (bad : Bool) : Prop := w.heap[G]? = some (.cells #[v, .bool bad] 153 (0, 0))
theorem WkAt.cells {w : World} {G : Nat} {v : Value} {bad : Bool} (h : WkAt w G v bad) : (w.cell? ⟨G, 0, none⟩ = some v ∧ w.cell? ⟨G, 1, none⟩ = some (.bool bad)) ∧ ∀ o, w.frozen? ⟨G, o, none⟩ = false := by
  unfold WkAt at h
  refine ⟨⟨?_, ?_⟩, fun o => by simp [World.frozen?, h]⟩ <;> rw [cell_of_row w G _ _ _ _ h] <;> rfl
theorem WkAt.lt {w : World} {G : Nat} {v : Value} {bad : Bool} (h : WkAt w G v bad) : G < w.heap.size := (Array.getElem?_eq_some_iff.1 h).1
structure NV (w : World) (Bd G : Nat) (v : Value) (ns : List Nd) : Prop where
  ex : ∃ ao cp, v = .slice ao ns.length cp ∧ ns.length ≤ cp ∧ cp ≤ 9223372036854775807 ∧ (∀ b off, ao = some ⟨b, off, none⟩ → b ≠ G) ∧ Nodes w Bd (.slice ao ns.length cp) ns
theorem NV.move {w w' : World} {Bd G : Nat} {v : Value} {ns : List Nd} (h : NV w Bd G v ns) (hk : ∀ k, k < Bd → k ≠ G → w'.heap[k]? = w.heap[k]?) : NV w' Bd G v ns := by
  obtain ⟨ao, cp, hv, h1, h2, h3, hN⟩ := h.ex
  refine ⟨ao, cp, hv, h1, h2, h3, ?_⟩
  obtain ⟨ao', cap', hv', hm, hc⟩ := hN.ex
  simp only [Value.slice.injEq] at hv'
  obtain ⟨rfl, _, rfl⟩ := hv'
  refine ⟨ao, cp, rfl, hm, fun i hi => ?_⟩
  obtain ⟨b, off, ha, hB, hcs⟩ := hc i hi
  exact ⟨b, off, ha, hB, fun j hj => (World.cell?_of_block (a := ⟨b, off + i * 6 + j, none⟩) (hk b hB (h3 b off ha))).trans (hcs j hj)⟩
theorem NV.kept {w w' : World} {Bd G : Nat} {v : Value} {ns : List Nd} (h : NV w Bd G v ns) (hk : Kept w w' [G]) (hB : Bd ≤ w.heap.size) : NV w' Bd G v ns := h.move fun k h1 h2 => hk.block k (by omega) (by simp; exact h2)
theorem NV.tail {w : World} {Bd G b off cp : Nat} {d : Nd} {r : List Nd} (h : NV w Bd G (.slice (some ⟨b, off, none⟩) (r.length + 1) cp) (d :: r)) : NV w Bd G (.slice (some ⟨b, off + 6, none⟩) r.length (cp - 1)) r := by
  obtain ⟨ao, cp', hv, h1, h2, h3, hN⟩ := h.ex
  simp only [Value.slice.injEq, List.length_cons] at hv
  obtain ⟨rfl, _, rfl⟩ := hv
  simp only [List.length_cons] at h1 hN
  refine ⟨some ⟨b, off + 6, none⟩, cp - 1, rfl, by omega, by omega, fun b' off' e => ?_, ?_⟩
  · simp at e; obtain ⟨rfl, _⟩ := e; exact h3 b off rfl
  · obtain ⟨ao', cap', hv', hm, hc⟩ := hN.ex
    simp only [Value.slice.injEq] at hv'
    obtain ⟨rfl, _, rfl⟩ := hv'
    simp only [List.length_cons] at hm
    refine ⟨_, _, rfl, by omega, fun i hi => ?_⟩
    obtain ⟨b', off', ha, hB, hcs⟩ := hc (i + 1) (by simp; omega)
    simp only [Option.some.injEq, Addr.mk.injEq] at ha
    obtain ⟨rfl, rfl, _⟩ := ha
    refine ⟨b, off + 6, rfl, hB, fun j hj => ?_⟩
    have := hcs j hj
    rw [show off + (i + 1) * 6 + j = off + 6 + i * 6 + j from by omega] at this
    simpa using this
def wkPost (Bd G : Nat) (r : Nd × List Nd × Bool) (w : World) (e : Ending) (w' : World) : Prop :=
  e = .returned (ndV r.1) ∧ Kept w w' [G] ∧ ∃ v, WkAt w' G v r.2.2 ∧ NV w' Bd G v r.2.1
set_option maxHeartbeats 2000000 in
set_option maxRecDepth 100000 in
theorem refWork_leaf (a b f t Bd G : Nat) (v : Value) (ns : List Nd) (bad : Bool) (w : World) (hA : WkAt w G v bad) (hV : NV w Bd G v ns) (hBd : Bd ≤ w.heap.size) (h1 : 1 ≤ ns.length) (hf64 : f ≤ 64) (ht64 : t ≤ 64) (hab : a ≤ b) (hb64 : b ≤ 64) (hs : a < b ∨ t ≤ a) (ho : isOut a b f t = true ∨ isIn a b f t = true) :
    Calls Tryz.prog 123 #[.pointer (some ⟨G, 0, none⟩), .int .i64 a, .int .i64 b, .int .i64 f, .int .i64 t] w (wkPost Bd G (ns.headD .E, ns.tail, bad) w) := by
  have HCv : ∀ w', Hid (Calls Tryz.prog 79 #[.int .i64 a, .int .i64 b, .int .i64 f, .int .i64 t] w' (covPost (cov a b f t) w')) := fun w' => hid (refCover_any f t hf64 ht64 b a b w' (by omega) hab hb64 hs)
  rw [cov_one a b f t ho] at HCv
  cases ns with
  | nil => simp at h1
  | cons d r =>
    have HV : Hid (NV w Bd G v (d :: r)) := hV
    obtain ⟨ao, cp, rfl, hc1, hc2, hc3, hN⟩ := hV.ex
    obtain ⟨bb, off, hao, hbB', e0, e1, e2, e3, e4, e5⟩ := rnodes_six hN (k := 0) (d := d) (by simp) (by simp)
    subst hao
    have hbB : bb < w.heap.size := by omega
    have hne := hc3 bb off rfl
    simp only [List.length_cons] at hc1 HV ⊢
    have hl1 : (1 : Int) ≤ ((r.length + 1 : Nat) : Int) := by omega
    have HA : Hid (WkAt w G (.slice (some ⟨bb, off, none⟩) (r.length + 1) cp) bad) := hA
    have hGl := hA.lt
    clear hA hc3 hN ho hs
    simp only [List.headD_cons, List.tail_cons]
    by_cases hcp : cp = 1
    · subst hcp
      obtain rfl : r = [] := List.eq_nil_of_length_eq_zero (by omega)
      simp only [List.length_nil, Nat.zero_add] at HA HV hl1 ⊢
      go_enter Tryz.func123, Tryz.ntmps123
      go_wp2_with fail
      refine (HCv _).out.mono ?_
      rintro e w1 ⟨g1, p1, rfl, _, hb1⟩
      have hB1 : Below w.heap.size w w1 := ((Below.refl _ _).alloc (Nat.le_refl _) _).trans (hb1.mono (by simp))
      have hZ : Hid (Z6 w1 w.heap.size) := hid ((Six.at w w.heap.size rfl _ _ _ _ _ _).below hb1 (by simp))
      have hA1 : WkAt w1 G (.slice (some ⟨bb, off, none⟩) 1 1) bad := (hB1.block G hGl).trans HA.out
      obtain ⟨⟨k0, k1⟩, kf⟩ := hA1.cells
      have z0 : G < w1.heap.size := hA1.lt
      have zb : bb < w1.heap.size := by have := hB1.size; omega
      have z1 : w.heap.size < w1.heap.size := by have := hb1.size; simp at this; omega
      have c0 : w1.cell? ⟨bb, off, none⟩ = some (.int .i64 d.c) := (hB1.cell (p := ⟨bb, off, none⟩) hbB).trans (by simpa using e0)
      have c1 : w1.cell? ⟨bb, off + 1, none⟩ = some (.int .i64 d.s) := (hB1.cell (p := ⟨bb, off + 1, none⟩) hbB).trans (by simpa using e1)
      have c2 : w1.cell? ⟨bb, off + 2, none⟩ = some (.int .i64 d.m) := (hB1.cell (p := ⟨bb, off + 2, none⟩) hbB).trans (by simpa using e2)
      have c3 : w1.cell? ⟨bb, off + 3, none⟩ = some (.int .i64 d.x) := (hB1.cell (p := ⟨bb, off + 3, none⟩) hbB).trans (by simpa using e3)
      have c4 : w1.cell? ⟨bb, off + 4, none⟩ = some (.int .u8 (d.h.toNat : Int)) := (hB1.cell (p := ⟨bb, off + 4, none⟩) hbB).trans (by simpa using e4)
      have c5 : w1.cell? ⟨bb, off + 5, none⟩ = some (.int .u8 (d.g.toNat : Int)) := (hB1.cell (p := ⟨bb, off + 5, none⟩) hbB).trans (by simpa using e5)
      have HB1 : Hid (Below w.heap.size w w1) := hB1
      have HA1 : Hid (WkAt w1 G (.slice (some ⟨bb, off, none⟩) 1 1) bad) := hA1
      have h6 : Six _ _ _ _ _ _ _ _ := hZ.out
      obtain ⟨s0, s1, s2, s3, s4, s5⟩ := h6.cells
      have sf : ∀ o, w1.frozen? ⟨w.heap.size, o, none⟩ = false := fun o => by simp [World.frozen?, h6.eq]
      have hGn : G ≠ w.heap.size := by omega
      clear hb1 hB1 hA1 HCv e0 e1 e2 e3 e4 e5 h6
      go_wp2
      refine ret_node1 Tryz.results123 (((Six.far hZ.out (Ne.symm hGn)).set _ _ _ _ _ _).alloc _) rfl ⟨rfl, ?_, .slice (some ⟨bb, off, none⟩) 0 0, ?_, ?_⟩
      · refine Kept.alloc ?_ _
        iterate 6 (refine Kept.setCell ?_ (.inr (Nat.le_refl _)) _)
        exact (Kept.of_below HB1.out _).setCell (.inl (by simp)) _
      · unfold WkAt
        rw [Below.heap_alloc _ _ _ (by simp; omega)]
        iterate 6 (refine (Below.heap_setCell _ _ _ _ hGn).trans ?_)
        exact heap_set (k := 0) HA1.out _
      · exact ⟨_, 0, rfl, Nat.le_refl _, by omega, fun b' off' e => by simp at e; obtain ⟨rfl, _⟩ := e; exact hne, ⟨_, 0, rfl, by simp, fun i hi => by simp at hi⟩⟩
    · have hcp2 : 2 ≤ cp := by omega
      go_enter Tryz.func123, Tryz.ntmps123
      go_wp2_with fail
      refine (HCv _).out.mono ?_
      rintro e w1 ⟨g1, p1, rfl, _, hb1⟩
      have hB1 : Below w.heap.size w w1 := ((Below.refl _ _).alloc (Nat.le_refl _) _).trans (hb1.mono (by simp))
      have hZ : Hid (Z6 w1 w.heap.size) := hid ((Six.at w w.heap.size rfl _ _ _ _ _ _).below hb1 (by simp))
      have hA1 : WkAt w1 G (.slice (some ⟨bb, off, none⟩) (r.length + 1) cp) bad := (hB1.block G hGl).trans HA.out
      obtain ⟨⟨k0, k1⟩, kf⟩ := hA1.cells
      have z0 : G < w1.heap.size := hA1.lt
      have zb : bb < w1.heap.size := by have := hB1.size; omega
      have z1 : w.heap.size < w1.heap.size := by have := hb1.size; simp at this; omega
      have c0 : w1.cell? ⟨bb, off, none⟩ = some (.int .i64 d.c) := (hB1.cell (p := ⟨bb, off, none⟩) hbB).trans (by simpa using e0)
      have c1 : w1.cell? ⟨bb, off + 1, none⟩ = some (.int .i64 d.s) := (hB1.cell (p := ⟨bb, off + 1, none⟩) hbB).trans (by simpa using e1)
      have c2 : w1.cell? ⟨bb, off + 2, none⟩ = some (.int .i64 d.m) := (hB1.cell (p := ⟨bb, off + 2, none⟩) hbB).trans (by simpa using e2)
      have c3 : w1.cell? ⟨bb, off + 3, none⟩ = some (.int .i64 d.x) := (hB1.cell (p := ⟨bb, off + 3, none⟩) hbB).trans (by simpa using e3)
      have c4 : w1.cell? ⟨bb, off + 4, none⟩ = some (.int .u8 (d.h.toNat : Int)) := (hB1.cell (p := ⟨bb, off + 4, none⟩) hbB).trans (by simpa using e4)
      have c5 : w1.cell? ⟨bb, off + 5, none⟩ = some (.int .u8 (d.g.toNat : Int)) := (hB1.cell (p := ⟨bb, off + 5, none⟩) hbB).trans (by simpa using e5)
      have HB1 : Hid (Below w.heap.size w w1) := hB1
      have HA1 : Hid (WkAt w1 G (.slice (some ⟨bb, off, none⟩) (r.length + 1) cp) bad) := hA1
      have h6 : Six _ _ _ _ _ _ _ _ := hZ.out
      obtain ⟨s0, s1, s2, s3, s4, s5⟩ := h6.cells
      have sf : ∀ o, w1.frozen? ⟨w.heap.size, o, none⟩ = false := fun o => by simp [World.frozen?, h6.eq]
      have hGn : G ≠ w.heap.size := by omega
      clear hb1 hB1 hA1 HCv e0 e1 e2 e3 e4 e5 h6
      go_wp2
      refine ret_node1 Tryz.results123 (((Six.far hZ.out (Ne.symm hGn)).set _ _ _ _ _ _).alloc _) rfl ⟨rfl, ?_, .slice (some ⟨bb, off + 6, none⟩) r.length (cp - 1), ?_, ?_⟩
      · refine Kept.alloc ?_ _
        iterate 6 (refine Kept.setCell ?_ (.inr (Nat.le_refl _)) _)
        exact (Kept.of_below HB1.out _).setCell (.inl (by simp)) _
      · unfold WkAt
        rw [Below.heap_alloc _ _ _ (by simp; omega)]
        iterate 6 (refine (Below.heap_setCell _ _ _ _ hGn).trans ?_)
        exact heap_set (k := 0) HA1.out _
      · refine (NV.tail HV.out).kept (G := G) ?_ hBd
        refine Kept.alloc ?_ _
        iterate 6 (refine Kept.setCell ?_ (.inr (Nat.le_refl _)) _)
        exact (Kept.of_below HB1.out _).setCell (.inl (by simp)) _
end Go.Proofs.YtogmdaopfnmobaaGreat

/- What the document's own answer does (notaryref): part of a proof. -/
namespace Go.Proofs.YtogmdaopfnmobaaGreat
open Go.RowKit
theorem kept_six {w w' : World} {G g : Nat} {c0 c1 c2 c3 c4 c5 : Value} (h : Six w g c0 c1 c2 c3 c4 c5) (hk : Kept w w' [G]) (hne : g ≠ G) : Six w' g c0 c1 c2 c3 c4 c5 :=
  (hk.block g (Array.getElem?_eq_some_iff.1 h.eq).1 (by simp; exact hne)).trans h
set_option maxHeartbeats 4000000 in
set_option maxRecDepth 100000 in
theorem refWork_node (a b f t Bd G k : Nat) (v : Value) (ns : List Nd) (bad : Bool) (r1 r2 : Nd × List Nd × Bool) (L : List Sp) (w : World) (hA : WkAt w G v bad) (hV : NV w Bd G v ns) (hBd : Bd ≤ w.heap.size) (hb64 : b ≤ 64) (hab : a + 2 ≤ b) (hk : k < b - a) (hL : 2 ≤ L.length)
    (HCv : ∀ w', Hid (Calls Tryz.prog 79 #[.int .i64 a, .int .i64 b, .int .i64 f, .int .i64 t] w' (covPost L w')))
    (HH : ∀ w', Hid (Calls Tryz.prog 88 #[.int .i64 ((b - a : Nat) : Int)] w' fun e w2 => e = .returned (.int .i64 k) ∧ Below w'.heap.size w' w2))
    (I1 : ∀ w', Hid (WkAt w' G v bad → NV w' Bd G v ns → Bd ≤ w'.heap.size → Calls Tryz.prog 123 #[.pointer (some ⟨G, 0, none⟩), .int .i64 a, .int .i64 ((a : Int) + k), .int .i64 f, .int .i64 t] w' (wkPost Bd G r1 w')))
    (I2 : ∀ w' v', Hid (WkAt w' G v' r1.2.2 → NV w' Bd G v' r1.2.1 → Bd ≤ w'.heap.size → Calls Tryz.prog 123 #[.pointer (some ⟨G, 0, none⟩), .int .i64 ((a : Int) + k), .int .i64 b, .int .i64 f, .int .i64 t] w' (wkPost Bd G r2 w')))
    (hok : r2.2.2 = false → r1.1.ok = true ∧ r2.1.ok = true) :
    Calls Tryz.prog 123 #[.pointer (some ⟨G, 0, none⟩), .int .i64 a, .int .i64 b, .int .i64 f, .int .i64 t] w
      (wkPost Bd G (if r2.2.2 then (r1.1, r2.2.1, true) else (ab r1.1 r2.1, r2.2.1, !(ab r1.1 r2.1).ok)) w) := by
  obtain ⟨x, ns1, bad1⟩ := r1
  obtain ⟨y, ns2, bad2⟩ := r2
  simp only at I1 I2 hok ⊢
  have HA : Hid (WkAt w G v bad) := hA
  have HV : Hid (NV w Bd G v ns) := hV
  have hGl := hA.lt
  have hGn : G ≠ w.heap.size := by omega
  have hl2 : ((L.length : Int) == 1) = false := by simp; omega
  have hsub : (b : Int) - a = ((b - a : Nat) : Int) := by omega
  clear hA hV
  obtain ⟨m, hm⟩ : ∃ m, m = b - a := ⟨_, rfl⟩
  rw [← hm] at HH hsub
  have hm64 : m ≤ 64 := by omega
  have hk64 : k < 64 := by omega
  have hak : a + k < 64 := by omega
  clear hm
  cases bad2 with
  | true =>
    simp only [if_true]
    clear hok
    go_enter Tryz.func123, Tryz.ntmps123
    go_wp2_with fail
    refine (HCv _).out.mono ?_
    rintro e w1 ⟨g1, p1, rfl, _, hb1⟩
    have K1 : Hid (Kept w w1 [G]) := hid ((Kept.of_below (((Below.refl _ _).alloc (Nat.le_refl _) _).trans (hb1.mono (by simp))) _))
    have B1 : Hid (Below w.heap.size w w1) := hid (((Below.refl _ _).alloc (Nat.le_refl _) _).trans (hb1.mono (by simp)))
    have Z1 : Hid (Z6 w1 w.heap.size) := hid ((Six.at w w.heap.size rfl _ _ _ _ _ _).below hb1 (by simp))
    clear hb1 HCv
    go_wp2_with fail
    refine (HH _).out.mono ?_
    rintro e w2 ⟨rfl, hb2⟩
    have B2 : Hid (Below w.heap.size w w2) := hid (B1.out.trans (hb2.mono B1.out.size))
    have Z2 : Hid (Z6 w2 w.heap.size) := hid (Six.below Z1.out hb2 (Array.getElem?_eq_some_iff.1 (show Six _ _ _ _ _ _ _ _ from Z1.out).eq).1)
    clear hb2 HH B1 Z1 K1
    go_wp2_with fail
    refine ((I1 _).out ((B2.out.block G hGl).trans HA.out) (HV.out.kept (Kept.of_below B2.out _) hBd) (by have := B2.out.size; omega)).mono ?_
    rintro e w3 ⟨rfl, hk3, v3, hA3, hV3⟩
    simp only at hA3 hV3
    simp only [ndV]
    have HK3 : Hid (Kept w w3 [G]) := hid ((Kept.of_below B2.out _).trans hk3 (fun x hx => .inl hx))
    have HA3 : Hid (WkAt w3 G v3 bad1) := hA3
    have HV3 : Hid (NV w3 Bd G v3 ns1) := hV3
    have Z3 : Hid (Z6 w3 w.heap.size) := hid (kept_six Z2.out hk3 (Ne.symm hGn))
    have g3 : G < w3.heap.size := hA3.lt
    have l3 : w.heap.size < w3.heap.size := (Array.getElem?_eq_some_iff.1 (show Six _ _ _ _ _ _ _ _ from Z3.out).eq).1
    have bd3 : Bd ≤ w3.heap.size := by omega
    clear hk3 hA3 hV3 B2 Z2 I1
    go_wp2_with fail
    refine ((I2 _ v3).out ((Below.heap_alloc _ _ _ g3).trans HA3.out) (HV3.out.kept ((Kept.refl _ _).alloc _) (by omega)) (by simp; omega)).mono ?_
    rintro e w4 ⟨rfl, hk4, v4, hA4, hV4⟩
    simp only at hA4 hV4
    simp only [ndV]
    have HK4 : Hid (Kept w w4 [G]) := hid ((HK3.out.alloc _).trans hk4 (fun x hx => .inl hx))
    have HA4 : Hid (WkAt w4 G v4 true) := hA4
    have HV4 : Hid (NV w4 Bd G v4 ns2) := hV4
    have Z4 : Hid (Z6 w4 w.heap.size) := hid (kept_six (Six.alloc Z3.out _) hk4 (Ne.symm hGn))
    have X4 : Hid (NdAt w4 w3.heap.size x) := hid (kept_six (Six.new w3 _ _ _ _ _ _) hk4 (by omega))
    have g4 : G < w4.heap.size := hA4.lt
    have l4 : w.heap.size < w4.heap.size := (Array.getElem?_eq_some_iff.1 (show Six _ _ _ _ _ _ _ _ from Z4.out).eq).1
    have x4 : w3.heap.size < w4.heap.size := NdAt.lt X4.out
    obtain ⟨⟨q0, q1⟩, qf⟩ := hA4.cells
    obtain ⟨⟨x0, x1, x2, x3, x4', x5⟩, _⟩ := NdAt.cells X4.out
    clear hk4 hA4 hV4 HK3 Z3 HA3 HV3 I2
    have h6 : Six _ _ _ _ _ _ _ _ := Z4.out
    obtain ⟨s0, s1, s2, s3, s4, s5⟩ := h6.cells
    have sf : ∀ o, w4.frozen? ⟨w.heap.size, o, none⟩ = false := fun o => by simp [World.frozen?, h6.eq]
    clear h6
    go_wp2
    refine ret_node1 Tryz.results123 ((Six.set Z4.out _ _ _ _ _ _).alloc _) rfl ⟨rfl, ?_, v4, ?_, ?_⟩
    · refine Kept.alloc ?_ _
      iterate 6 (refine Kept.setCell ?_ (.inr (Nat.le_refl _)) _)
      exact HK4.out
    · unfold WkAt
      rw [Below.heap_alloc _ _ _ (by simp; omega)]
      iterate 6 (refine (Below.heap_setCell _ _ _ _ hGn).trans ?_)
      exact HA4.out
    · refine HV4.out.move fun k h1 h2 => ?_
      rw [Below.heap_alloc _ _ _ (by simp; omega)]
      iterate 6 (refine (Below.heap_setCell _ _ _ _ (show k ≠ w.heap.size by omega)).trans ?_)
      rfl
  | false =>
    simp only [Bool.false_eq_true, if_false]
    have HO : Hid _ := hok rfl
    clear hok
    go_enter Tryz.func123, Tryz.ntmps123
    go_wp2_with fail
    refine (HCv _).out.mono ?_
    rintro e w1 ⟨g1, p1, rfl, _, hb1⟩
    have K1 : Hid (Kept w w1 [G]) := hid ((Kept.of_below (((Below.refl _ _).alloc (Nat.le_refl _) _).trans (hb1.mono (by simp))) _))
    have B1 : Hid (Below w.heap.size w w1) := hid (((Below.refl _ _).alloc (Nat.le_refl _) _).trans (hb1.mono (by simp)))
    have Z1 : Hid (Z6 w1 w.heap.size) := hid ((Six.at w w.heap.size rfl _ _ _ _ _ _).below hb1 (by simp))
    clear hb1 HCv
    go_wp2_with fail
    refine (HH _).out.mono ?_
    rintro e w2 ⟨rfl, hb2⟩
    have B2 : Hid (Below w.heap.size w w2) := hid (B1.out.trans (hb2.mono B1.out.size))
    have Z2 : Hid (Z6 w2 w.heap.size) := hid (Six.below Z1.out hb2 (Array.getElem?_eq_some_iff.1 (show Six _ _ _ _ _ _ _ _ from Z1.out).eq).1)
    clear hb2 HH B1 Z1 K1
    go_wp2_with fail
    refine ((I1 _).out ((B2.out.block G hGl).trans HA.out) (HV.out.kept (Kept.of_below B2.out _) hBd) (by have := B2.out.size; omega)).mono ?_
    rintro e w3 ⟨rfl, hk3, v3, hA3, hV3⟩
    simp only at hA3 hV3
    simp only [ndV]
    have HK3 : Hid (Kept w w3 [G]) := hid ((Kept.of_below B2.out _).trans hk3 (fun x hx => .inl hx))
    have HA3 : Hid (WkAt w3 G v3 bad1) := hA3
    have HV3 : Hid (NV w3 Bd G v3 ns1) := hV3
    have Z3 : Hid (Z6 w3 w.heap.size) := hid (kept_six Z2.out hk3 (Ne.symm hGn))
    have g3 : G < w3.heap.size := hA3.lt
    have l3 : w.heap.size < w3.heap.size := (Array.getElem?_eq_some_iff.1 (show Six _ _ _ _ _ _ _ _ from Z3.out).eq).1
    have bd3 : Bd ≤ w3.heap.size := by omega
    clear hk3 hA3 hV3 B2 Z2 I1
    go_wp2_with fail
    refine ((I2 _ v3).out ((Below.heap_alloc _ _ _ g3).trans HA3.out) (HV3.out.kept ((Kept.refl _ _).alloc _) (by omega)) (by simp; omega)).mono ?_
    rintro e w4 ⟨rfl, hk4, v4, hA4, hV4⟩
    simp only at hA4 hV4
    simp only [ndV]
    have HK4 : Hid (Kept w w4 [G]) := hid ((HK3.out.alloc _).trans hk4 (fun x hx => .inl hx))
    have HA4 : Hid (WkAt w4 G v4 false) := hA4
    have HV4 : Hid (NV w4 Bd G v4 ns2) := hV4
    have Z4 : Hid (Z6 w4 w.heap.size) := hid (kept_six (Six.alloc Z3.out _) hk4 (Ne.symm hGn))
    have X4 : Hid (NdAt w4 w3.heap.size x) := hid (kept_six (Six.new w3 _ _ _ _ _ _) hk4 (by omega))
    have g4 : G < w4.heap.size := hA4.lt
    have l4 : w.heap.size < w4.heap.size := (Array.getElem?_eq_some_iff.1 (show Six _ _ _ _ _ _ _ _ from Z4.out).eq).1
    have x4 : w3.heap.size < w4.heap.size := NdAt.lt X4.out
    obtain ⟨⟨q0, q1⟩, qf⟩ := hA4.cells
    obtain ⟨⟨x0, x1, x2, x3, x4', x5⟩, _⟩ := NdAt.cells X4.out
    clear hk4 hA4 hV4 HK3 Z3 HA3 HV3 I2
    go_wp2_with fail
    refine (show Calls Tryz.prog 89 #[ndV x, ndV y] _ _ from refAbove_any x y _ HO.out.1 HO.out.2).mono ?_
    rintro e w5 ⟨rfl, hb5⟩
    obtain ⟨d, hd⟩ : ∃ d, d = ab x y := ⟨_, rfl⟩
    rw [← hd]
    have HD : Hid _ := hd
    clear hd
    simp only [ndV]
    have B5 : Hid (Below w4.heap.size w4 w5) := hid (((Below.refl _ _).alloc (Nat.le_refl _) _).trans (hb5.mono (by simp)))
    have g5 : G < w5.heap.size := by have := B5.out.size; omega
    have l5 : w.heap.size < w5.heap.size := by have := B5.out.size; omega
    clear hb5
    go_wp2_with fail
    refine (refMayBe_any d.c d.s d.m d.x _ _ _ d.ok rfl).mono ?_
    rintro e w6 ⟨rfl, hb6⟩
    have B6 : Hid (Below w4.heap.size w4 w6) := hid ((B5.out.alloc B5.out.size _).trans (hb6.mono (by simp; have := B5.out.size; omega)))
    have D6 : Hid (NdAt w6 w5.heap.size d) := hid ((Six.new w5 _ _ _ _ _ _).below hb6 (by simp))
    have Z6' : Hid (Z6 w6 w.heap.size) := hid (Six.below Z4.out B6.out l4)
    have A6 : Hid (WkAt w6 G v4 false) := hid ((B6.out.block G g4).trans HA4.out)
    have g6 : G < w6.heap.size := WkAt.lt A6.out
    have l6 : w.heap.size < w6.heap.size := by have := B6.out.size; omega
    have d6 : w5.heap.size < w6.heap.size := NdAt.lt D6.out
    have z56 : w4.heap.size ≤ w5.heap.size := B5.out.size
    obtain ⟨⟨m0, m1⟩, mf⟩ := WkAt.cells A6.out
    obtain ⟨⟨n0, n1, n2, n3, n4, n5⟩, _⟩ := NdAt.cells D6.out
    have h6 : Six _ _ _ _ _ _ _ _ := Z6'.out
    obtain ⟨s0, s1, s2, s3, s4, s5⟩ := h6.cells
    have sf : ∀ o, w6.frozen? ⟨w.heap.size, o, none⟩ = false := fun o => by simp [World.frozen?, h6.eq]
    have hGd : G ≠ w5.heap.size := by omega
    have hwd : w.heap.size ≠ w5.heap.size := by omega
    generalize hbk : d.ok = bk
    have HBK : Hid _ := hbk
    clear h6 hb6 q0 q1 qf x0 x1 x2 x3 x4' x5 hbk
    go_wp2
    refine ret_node1 Tryz.results123 ((Six.far Z6'.out (Ne.symm hGn)).set _ _ _ _ _ _) rfl ⟨by rw [← HD.out]; rfl, ?_, v4, ?_, ?_⟩
    · iterate 6 (refine Kept.setCell ?_ (.inr (Nat.le_refl _)) _)
      refine Kept.setCell ?_ (.inl (by simp)) _
      exact HK4.out.trans (Kept.of_below B6.out _) (fun x hx => .inl hx)
    · rw [← HD.out, HBK.out]
      unfold WkAt
      iterate 6 (refine (Below.heap_setCell _ _ _ _ hGn).trans ?_)
      exact heap_set (k := 1) A6.out _
    · refine HV4.out.move fun k h1 h2 => ?_
      iterate 6 (refine (Below.heap_setCell _ _ _ _ (show k ≠ w.heap.size by omega)).trans ?_)
      exact (Below.heap_setCell _ _ _ _ h2).trans (B6.out.block k (by omega))
theorem refWork_any (f t Bd G : Nat) (hf64 : f ≤ 64) (ht64 : t ≤ 64) : ∀ (n a b : Nat) (v : Value) (ns : List Nd) (bad : Bool) (w : World), b - a ≤ n → a ≤ b → b ≤ 64 → (a < b ∨ t ≤ a) → WkAt w G v bad → NV w Bd G v ns → Bd ≤ w.heap.size → (cov a b f t).length ≤ ns.length → (∀ d ∈ ns, d.ok = true) →
    Calls Tryz.prog 123 #[.pointer (some ⟨G, 0, none⟩), .int .i64 a, .int .i64 b, .int .i64 f, .int .i64 t] w (wkPost Bd G (wk a b f t ns bad) w) := by
  intro n
  induction n with
  | zero =>
    intro a b v ns bad w hn hab hb64 hs hA hV hBd hl hok
    have ho : isOut a b f t = true := by simp [isOut]; omega
    rw [wk_one _ _ _ _ _ _ (.inl ho)]
    rw [cov_one a b f t (.inl ho)] at hl
    exact refWork_leaf a b f t Bd G v ns bad w hA hV hBd (by simpa using hl) hf64 ht64 hab hb64 hs (.inl ho)
  | succ n ih =>
    intro a b v ns bad w hn hab hb64 hs hA hV hBd hl hok
    by_cases ho : isOut a b f t = true ∨ isIn a b f t = true
    · rw [wk_one _ _ _ _ _ _ (ho.elim .inl fun h => .inr (.inl h))]
      rw [cov_one a b f t ho] at hl
      exact refWork_leaf a b f t Bd G v ns bad w hA hV hBd (by simpa using hl) hf64 ht64 hab hb64 hs ho
    have ho1 : ¬ (t ≤ f ∨ t ≤ a ∨ b ≤ f) := fun h => ho (.inl (by simpa [isOut] using h))
    have ho2 : ¬ (f ≤ a ∧ b ≤ t ∧ f < t ∧ a < b) := fun h => ho (.inr (by simpa [isIn] using h))
    have hb2 : a + 2 ≤ b := by omega
    have hsx : ¬ (isOut a b f t = true ∨ isIn a b f t = true ∨ b < a + 2) := fun h => by
      rcases h with h | h | h
      · exact ho (.inl h)
      · exact ho (.inr h)
      · omega
    have p := hf_pos (b - a)
    have q := hf_lt (b - a) (by omega)
    have hcov := cov_two a b f t (by simpa using fun h => ho (.inl h)) (by simpa using fun h => ho (.inr h)) hb2
    rw [wk_two _ _ _ _ _ _ hsx]
    have L1 := cov_len f t (b - a) a (a + hf (b - a)) (by omega)
    have L2 := cov_len f t (b - a) (a + hf (b - a)) b (by omega)
    have hl' : (cov a (a + hf (b - a)) f t).length + (cov (a + hf (b - a)) b f t).length ≤ ns.length := by rw [hcov, List.length_append] at hl; exact hl
    have er := wk_rest f t (b - a) a (a + hf (b - a)) ns bad (by omega)
    have hok1 : ∀ d ∈ (wk a (a + hf (b - a)) f t ns bad).2.1, d.ok = true := by rw [er]; exact fun d hd => hok d (List.mem_of_mem_drop hd)
    have hcast : ((a + hf (b - a) : Nat) : Int) = (a : Int) + hf (b - a) := by omega
    refine refWork_node a b f t Bd G (hf (b - a)) v ns bad _ _ (cov a b f t) w hA hV hBd hb64 hb2 q (by rw [hcov, List.length_append]; omega)
      (fun w' => refCover_any f t hf64 ht64 b a b w' (by omega) hab hb64 hs)
      (fun w' => refHalf_any (b - a) w' (by omega) (by omega)) ?_ ?_ ?_
    · intro w' hA' hV' hBd'
      rw [← hcast]
      exact ih a (a + hf (b - a)) v ns bad w' (by omega) (by omega) (by omega) (by omega) hA' hV' hBd' (by omega) hok
    · intro w' v' hA' hV' hBd'
      rw [← hcast]
      exact ih (a + hf (b - a)) b v' _ _ w' (by omega) (by omega) (by omega) (by omega) hA' hV' hBd' (by rw [er, List.length_drop]; omega) hok1
    · intro h2
      have i2 := wk_ok f t (b - a) (a + hf (b - a)) b _ _ (by omega) hok1 h2
      have i1 := wk_ok f t (b - a) a (a + hf (b - a)) ns bad (by omega) hok i2.2
      exact ⟨i1.1, i2.1⟩
end Go.Proofs.YtogmdaopfnmobaaGreat

/- What the document's own answer does (notaryref): Comes. -/
namespace Go.Proofs.YtogmdaopfnmobaaGreat
open Go.RowKit
theorem cfar_set {n g o : Nat} {w w' : World} {v : Value} (h : w'.heap[n]? = w.heap[n]?) (hne : n ≠ g) : (w'.setCell ⟨g, o, none⟩ v).heap[n]? = w.heap[n]? := (Below.heap_setCell _ _ _ _ hne).trans h
theorem cfar_drew {n : Nat} {w w' : World} (h : w'.heap[n]? = w.heap[n]?) : w'.drew.heap[n]? = w.heap[n]? := h
theorem ret_node2 {w : World} {g : Nat} {c0 c1 c2 c3 c4 c5 v : Value} {fn : Func} {R : Ending → World → Prop} {tmps : Array Value} {k j : Nat} (hf : fn.results = #[.cell k 51, .tmp j]) (h : Six w g c0 c1 c2 c3 c4 c5)
    (h2 : tmps[k]? = some (.pointer (some ⟨g, 0, none⟩))) (h3 : tmps[j]? = some v) (hR : R (.returned (.tuple #[.agg #[c0, c1, c2, c3, c4, c5], v])) w) : bodyPost Tryz.prog fn R .ret ⟨tmps, []⟩ w := by
  obtain ⟨k0, k1, k2, k3, k4, k5⟩ := h.cells
  refine bodyPost_ret (v := .tuple #[.agg #[c0, c1, c2, c3, c4, c5], v]) ?_ rfl hR
  simp [results, hf, go_sem, h2, h3, k0, k1, k2, k3, k4, k5]
set_option maxHeartbeats 2000000 in
set_option maxRecDepth 100000 in
theorem refComes_any (n f t : Nat) (ao : Option Addr) (cp : Nat) (ns : List Nd) (w : World) (hN : Nodes w w.heap.size (.slice ao ns.length cp) ns) (hcp : ns.length ≤ cp) (hcp2 : cp ≤ 9223372036854775807) (hok : ∀ d ∈ ns, d.ok = true) (hn : n ≤ 64) (ht : t ≤ n) (hf : f ≤ t) (hl : (cov 0 n f t).length ≤ ns.length) :
    Calls Tryz.prog 80 #[.slice ao ns.length cp, .int .i64 n, .int .i64 f, .int .i64 t] w fun e w' => e = .returned (.tuple #[ndV (wk 0 n f t ns false).1, .bool (!(wk 0 n f t ns false).2.2)]) ∧ Below w.heap.size w w' := by
  have HP : ∀ w', Hid (WkAt w' (w.heap.size + 1) (.slice ao ns.length cp) false → NV w' w.heap.size (w.heap.size + 1) (.slice ao ns.length cp) ns → w.heap.size ≤ w'.heap.size → Calls Tryz.prog 123 #[.pointer (some ⟨w.heap.size + 1, 0, none⟩), .int .i64 0, .int .i64 n, .int .i64 f, .int .i64 t] w' (wkPost w.heap.size (w.heap.size + 1) (wk 0 n f t ns false) w')) := fun w' => hid fun h1 h2 h3 =>
    refWork_any f t w.heap.size (w.heap.size + 1) (by omega) (by omega) n 0 n _ ns false w' (by omega) (by omega) hn (by omega) h1 h2 h3 hl hok
  have HNV : Hid (NV w w.heap.size (w.heap.size + 1) (.slice ao ns.length cp) ns) := ⟨ao, cp, rfl, hcp, hcp2, fun b off e => by
    obtain ⟨ao', cap', hv, _, hc⟩ := hN.ex
    simp only [Value.slice.injEq] at hv
    obtain ⟨rfl, _, rfl⟩ := hv
    by_cases h0 : 0 < ns.length
    · obtain ⟨b', off', ha, hB, _⟩ := hc 0 h0
      rw [e] at ha; simp at ha; omega
    · have := (cov_len f t n 0 n (by omega)).1; omega, hN⟩
  generalize wk 0 n f t ns false = r at HP
  obtain ⟨d, rs, bd⟩ := r
  simp only at HP ⊢
  clear hN hok
  go_enter Tryz.func80, Tryz.ntmps80
  go_wp2_with fail
  refine ((HP _).out ?_ ?_ ?_).mono ?_
  · exact heap_one _ _ _ (by simp)
  · refine HNV.out.move fun k h1 h2 => ?_
    rw [Below.heap_alloc _ _ _ (by simp; omega), Below.heap_alloc _ _ _ h1]
  · simp; omega
  rintro e w1 ⟨rfl, hk1, v1, hA1, _⟩
  simp only at hA1
  simp only [ndV]
  have Z1 : Hid (Z6 w1 w.heap.size) := hid (kept_six ((Six.at w w.heap.size rfl _ _ _ _ _ _).alloc _) hk1 (by omega))
  have B1 : Hid (Below w.heap.size w w1) := hid (Below.trans (((Below.refl _ _).alloc (Nat.le_refl _) _).alloc (by simp) _) (hk1.below (by simp; omega) (by simp)))
  have A1 : Hid (WkAt w1 (w.heap.size + 1) v1 bd) := hA1
  have l1 : w.heap.size + 1 < w1.heap.size := hA1.lt
  clear hk1 hA1 HP HNV
  have l0 : w.heap.size < w1.heap.size := by omega
  go_wp2
  obtain ⟨N, hNe⟩ : ∃ N, N = w1.heap.size := ⟨_, rfl⟩
  rw [← hNe]
  obtain ⟨U, hU⟩ : ∃ U, U = w1.alloc (.cells #[.int .i64 d.c, .int .i64 d.s, .int .i64 d.m, .int .i64 d.x, .int .u8 (d.h.toNat : Int), .int .u8 (d.g.toNat : Int)] 51) := ⟨_, rfl⟩
  have UN : Hid (NdAt U N d) := hid (by rw [hU]; exact Six.at w1 N hNe _ _ _ _ _ _)
  have UZ : Hid (Z6 U w.heap.size) := hid (by rw [hU]; exact Six.alloc Z1.out _)
  have UA : Hid (WkAt U (w.heap.size + 1) v1 bd) := hid (by rw [hU]; exact (Below.heap_alloc _ _ _ l1).trans A1.out)
  have UB : Hid (Below w.heap.size w U) := hid (by rw [hU]; exact B1.out.alloc (by omega) _)
  rw [← hU]
  have hN1 : w.heap.size + 1 < N := by omega
  clear hU Z1 A1 B1 hNe
  have KS : ∀ w' : World, w'.heap[N]? = U.heap[N]? → w'.heap[w.heap.size + 1]? = U.heap[w.heap.size + 1]? → w'.cell? ⟨N, 0, none⟩ = some (.int .i64 d.c) ∧ w'.cell? ⟨N, 1, none⟩ = some (.int .i64 d.s) ∧ w'.cell? ⟨N, 2, none⟩ = some (.int .i64 d.m) ∧ w'.cell? ⟨N, 3, none⟩ = some (.int .i64 d.x) ∧ w'.cell? ⟨N, 4, none⟩ = some (.int .u8 (d.h.toNat : Int)) ∧ w'.cell? ⟨N, 5, none⟩ = some (.int .u8 (d.g.toNat : Int)) ∧ w'.cell? ⟨w.heap.size + 1, 1, none⟩ = some (.bool bd) := fun w' h1 h2 => by
    obtain ⟨⟨a0, a1, a2, a3, a4, a5⟩, _⟩ := NdAt.cells (show NdAt w' N d from h1.trans UN.out)
    obtain ⟨⟨_, b1⟩, _⟩ := WkAt.cells (show WkAt w' _ _ _ from h2.trans UA.out)
    exact ⟨a0, a1, a2, a3, a4, a5, b1⟩
  have h6 : Six _ _ _ _ _ _ _ _ := UZ.out
  obtain ⟨s0, s1, s2, s3, s4, s5⟩ := h6.cells
  have sf : ∀ o, U.frozen? ⟨w.heap.size, o, none⟩ = false := fun o => by simp [World.frozen?, h6.eq]
  clear h6
  go_region_held3 (fun w' => w'.cell? ⟨N, 0, none⟩ = some (.int .i64 d.c) ∧ w'.cell? ⟨N, 1, none⟩ = some (.int .i64 d.s) ∧ w'.cell? ⟨N, 2, none⟩ = some (.int .i64 d.m) ∧ w'.cell? ⟨N, 3, none⟩ = some (.int .i64 d.x) ∧ w'.cell? ⟨N, 4, none⟩ = some (.int .u8 (d.h.toNat : Int)) ∧ w'.cell? ⟨N, 5, none⟩ = some (.int .u8 (d.g.toNat : Int)) ∧ w'.cell? ⟨w.heap.size + 1, 1, none⟩ = some (.bool bd)) (first | exact KS _ (by (repeat (first | (with_reducible rfl) | (with_reducible refine cfar_drew ?_) | (with_reducible refine cfar_set ?_ (by omega))))) (by (repeat (first | (with_reducible rfl) | (with_reducible refine cfar_drew ?_) | (with_reducible refine cfar_set ?_ (by omega))))) | go_keep) (fail)
  go_wp2
  refine ret_node2 Tryz.results80 (Six.drew (Six.set UZ.out _ _ _ _ _ _)) rfl rfl ⟨rfl, ?_⟩
  refine Below.drew ?_
  repeat (refine Below.setCell ?_ (by simp) _)
  exact UB.out
end Go.Proofs.YtogmdaopfnmobaaGreat

/- What the document's own answer does (notaryref): Claims. -/
namespace Go.Proofs.YtogmdaopfnmobaaGreat
open Go.RowKit
def hdOk (tree n : Int) : Bool := decide ((tree = 0 ∧ 0 ≤ n ∧ n ≤ 64) ∨ (tree = 1 ∧ n = 32))
def clE (n f t : Nat) (h0 h1 : Int) (claim : Fo) (o : Option (List Nd)) : Int :=
  match o with
  | none => 7
  | some ns =>
    if ns.length ≠ (cov 0 n f t).length then 8
    else if (wk 0 n f t ns false).2.2 then 6
    else if (dg (hdText n (wk 0 n f t ns false).1) : Int) / 256 ≠ h0 ∨ (dg (hdText n (wk 0 n f t ns false).1) : Int) % 256 ≠ h1 then 9
    else if fld (cov 0 n f t) ns (cov 0 n f t).length ≠ claim then 10
    else 0
set_option maxHeartbeats 2000000 in
set_option maxRecDepth 100000 in
theorem refClaims_no1 (tree n f t h0 h1 : Int) (c s m x : Int) (p : ByteArray) (w : World) (h : hdOk tree n = false) :
    Calls Tryz.prog 98 #[.int .i64 tree, .agg #[.int .i64 n, .int .u8 h0, .int .u8 h1], .int .i64 f, .int .i64 t, .agg #[.int .i64 c, .int .i64 s, .int .i64 m, .int .i64 x], .string p] w fun e w' => e = .returned (.int .i64 5) ∧ Below w.heap.size w w' := by
  have hn : ¬ ((tree = 0 ∧ 0 ≤ n ∧ n ≤ 64) ∨ (tree = 1 ∧ n = 32)) := by simpa [hdOk] using h
  have fin : ∀ o1 o2, Below w.heap.size w ((w.alloc o1).alloc o2) := fun o1 o2 => ((Below.refl _ _).alloc (Nat.le_refl _) _).alloc (by simp) _
  clear h
  by_cases c1 : tree < 0
  · clear hn
    go_enter Tryz.func98, Tryz.ntmps98
    go_wp2
    go_ret
    exact ⟨rfl, fin _ _⟩
  · by_cases c2 : 1 < tree
    · clear hn
      go_enter Tryz.func98, Tryz.ntmps98
      go_wp2
      go_ret
      exact ⟨rfl, fin _ _⟩
    · by_cases c3 : n < 0
      · clear hn
        go_enter Tryz.func98, Tryz.ntmps98
        go_wp2
        go_ret
        exact ⟨rfl, fin _ _⟩
      · by_cases c4 : tree = 0
        · subst c4
          have c5 : 64 < n := by omega
          clear hn
          go_enter Tryz.func98, Tryz.ntmps98
          go_wp2
          go_ret
          exact ⟨rfl, fin _ _⟩
        · have c6 : tree = 1 := by omega
          subst c6
          have c7 : (n != 32) = true := by simp; omega
          clear hn
          go_enter Tryz.func98, Tryz.ntmps98
          go_wp2
          go_ret
          exact ⟨rfl, fin _ _⟩
set_option maxHeartbeats 2000000 in
set_option maxRecDepth 100000 in
theorem refClaims_range0 (n f t h0 h1 : Int) (c s m x : Int) (p : ByteArray) (w : World) (hn : 0 ≤ n ∧ n ≤ 64) (hbad : f < 0 ∨ t < f ∨ n < t) :
    Calls Tryz.prog 98 #[.int .i64 0, .agg #[.int .i64 n, .int .u8 h0, .int .u8 h1], .int .i64 f, .int .i64 t, .agg #[.int .i64 c, .int .i64 s, .int .i64 m, .int .i64 x], .string p] w fun e w' => e = .returned (.int .i64 5) ∧ Below w.heap.size w w' := by
  have fin : ∀ o1 o2, Below w.heap.size w ((w.alloc o1).alloc o2) := fun o1 o2 => ((Below.refl _ _).alloc (Nat.le_refl _) _).alloc (by simp) _
  have n0 : ¬ n < 0 := by omega
  have n1 : ¬ 64 < n := by omega
  by_cases c1 : f < 0
  · clear hbad
    go_enter Tryz.func98, Tryz.ntmps98
    go_wp2
    go_ret
    exact ⟨rfl, fin _ _⟩
  · by_cases c2 : t < f
    · clear hbad
      go_enter Tryz.func98, Tryz.ntmps98
      go_wp2
      go_ret
      exact ⟨rfl, fin _ _⟩
    · have c3 : n < t := by omega
      clear hbad
      go_enter Tryz.func98, Tryz.ntmps98
      go_wp2
      go_ret
      exact ⟨rfl, fin _ _⟩
set_option maxHeartbeats 2000000 in
set_option maxRecDepth 100000 in
theorem refClaims_range1 (n f t h0 h1 : Int) (c s m x : Int) (p : ByteArray) (w : World) (hn : n = 32) (hbad : f < 0 ∨ t < f ∨ n < t) :
    Calls Tryz.prog 98 #[.int .i64 1, .agg #[.int .i64 n, .int .u8 h0, .int .u8 h1], .int .i64 f, .int .i64 t, .agg #[.int .i64 c, .int .i64 s, .int .i64 m, .int .i64 x], .string p] w fun e w' => e = .returned (.int .i64 5) ∧ Below w.heap.size w w' := by
  have fin : ∀ o1 o2, Below w.heap.size w ((w.alloc o1).alloc o2) := fun o1 o2 => ((Below.refl _ _).alloc (Nat.le_refl _) _).alloc (by simp) _
  subst hn
  by_cases c1 : f < 0
  · clear hbad
    go_enter Tryz.func98, Tryz.ntmps98
    go_wp2
    go_ret
    exact ⟨rfl, fin _ _⟩
  · by_cases c2 : t < f
    · clear hbad
      go_enter Tryz.func98, Tryz.ntmps98
      go_wp2
      go_ret
      exact ⟨rfl, fin _ _⟩
    · have c3 : 32 < t := by omega
      clear hbad
      go_enter Tryz.func98, Tryz.ntmps98
      go_wp2
      go_ret
      exact ⟨rfl, fin _ _⟩
end Go.Proofs.YtogmdaopfnmobaaGreat

/- What the document's own answer does (notaryref): Claims, where the proof can't be read or has another number of nodes. -/
namespace Go.Proofs.YtogmdaopfnmobaaGreat
open Go.RowKit
set_option maxHeartbeats 2000000 in
set_option maxRecDepth 100000 in
theorem refClaims_bad0 (n f t : Nat) (h0 h1 : Int) (c s m x : Int) (p : ByteArray) (w : World) (hn : n ≤ 64) (hft : f ≤ t) (htn : t ≤ n) (hs : p.size ≤ maxLen) (hr : readR p.data.toList = none) :
    Calls Tryz.prog 98 #[.int .i64 0, .agg #[.int .i64 n, .int .u8 h0, .int .u8 h1], .int .i64 f, .int .i64 t, .agg #[.int .i64 c, .int .i64 s, .int .i64 m, .int .i64 x], .string p] w fun e w' => e = .returned (.int .i64 7) ∧ Below w.heap.size w w' := by
  have HR : ∀ w', Hid (Calls Tryz.prog 42 #[.string p] w' (readPost none w')) := fun w' => hid (hr ▸ refRead_any p w' hs)
  clear hr hs
  have n0 : ¬ (n : Int) < 0 := by omega
  have n1 : ¬ 64 < (n : Int) := by omega
  have f0 : ¬ (f : Int) < 0 := by omega
  have f1 : ¬ (t : Int) < f := by omega
  have f2 : ¬ (n : Int) < t := by omega
  go_enter Tryz.func98, Tryz.ntmps98
  go_wp2_with fail
  refine (HR _).out.mono ?_
  rintro e w1 ⟨rfl, hb1⟩
  have B1 : Hid (Below w.heap.size w w1) := hid ((((Below.refl _ _).alloc (Nat.le_refl _) _).alloc (by simp) _).trans (hb1.mono (by simp; omega)))
  clear hb1 HR
  go_wp2
  go_ret
  exact ⟨rfl, B1.out⟩
set_option maxHeartbeats 2000000 in
set_option maxRecDepth 100000 in
theorem refClaims_bad1 (f t : Nat) (h0 h1 : Int) (c s m x : Int) (p : ByteArray) (w : World) (hft : f ≤ t) (htn : t ≤ 32) (hs : p.size ≤ maxLen) (hr : readR p.data.toList = none) :
    Calls Tryz.prog 98 #[.int .i64 1, .agg #[.int .i64 32, .int .u8 h0, .int .u8 h1], .int .i64 f, .int .i64 t, .agg #[.int .i64 c, .int .i64 s, .int .i64 m, .int .i64 x], .string p] w fun e w' => e = .returned (.int .i64 7) ∧ Below w.heap.size w w' := by
  have HR : ∀ w', Hid (Calls Tryz.prog 42 #[.string p] w' (readPost none w')) := fun w' => hid (hr ▸ refRead_any p w' hs)
  clear hr hs
  have f0 : ¬ (f : Int) < 0 := by omega
  have f1 : ¬ (t : Int) < f := by omega
  have f2 : ¬ (32 : Int) < t := by omega
  go_enter Tryz.func98, Tryz.ntmps98
  go_wp2_with fail
  refine (HR _).out.mono ?_
  rintro e w1 ⟨rfl, hb1⟩
  have B1 : Hid (Below w.heap.size w w1) := hid ((((Below.refl _ _).alloc (Nat.le_refl _) _).alloc (by simp) _).trans (hb1.mono (by simp; omega)))
  clear hb1 HR
  go_wp2
  go_ret
  exact ⟨rfl, B1.out⟩
set_option maxHeartbeats 2000000 in
set_option maxRecDepth 100000 in
theorem refClaims_count0 (n f t : Nat) (h0 h1 : Int) (c s m x : Int) (p : ByteArray) (w : World) (hn : n ≤ 64) (hft : f ≤ t) (htn : t ≤ n) (hs : p.size ≤ maxLen) (ns : List Nd) (hr : readR p.data.toList = some ns) (hl : ns.length ≠ (cov 0 n f t).length) :
    Calls Tryz.prog 98 #[.int .i64 0, .agg #[.int .i64 n, .int .u8 h0, .int .u8 h1], .int .i64 f, .int .i64 t, .agg #[.int .i64 c, .int .i64 s, .int .i64 m, .int .i64 x], .string p] w fun e w' => e = .returned (.int .i64 8) ∧ Below w.heap.size w w' := by
  have HR : ∀ w', Hid (Calls Tryz.prog 42 #[.string p] w' (readPost (some ns) w')) := fun w' => hid (hr ▸ refRead_any p w' hs)
  have HCv : ∀ w', Hid (Calls Tryz.prog 79 #[.int .i64 0, .int .i64 n, .int .i64 f, .int .i64 t] w' (covPost (cov 0 n f t) w')) := fun w' => hid (refCover_any f t (by omega) (by omega) n 0 n w' (by omega) (by omega) (by omega) (by omega))
  generalize cov 0 n f t = C at HCv hl
  have hl2 : ((ns.length : Int) != (C.length : Int)) = true := by simp; omega
  clear hr hs hl
  have n0 : ¬ (n : Int) < 0 := by omega
  have n1 : ¬ 64 < (n : Int) := by omega
  have f0 : ¬ (f : Int) < 0 := by omega
  have f1 : ¬ (t : Int) < f := by omega
  have f2 : ¬ (n : Int) < t := by omega
  go_enter Tryz.func98, Tryz.ntmps98
  go_wp2_with fail
  refine (HR _).out.mono ?_
  rintro e w1 ⟨v1, rfl, ho1, hb1⟩
  obtain ⟨a1, p1, rfl⟩ := own_shape ho1
  have hc1 := oldc hb1
  have l1 : w.heap.size + 2 ≤ w1.heap.size := by have := hb1.size; simp at this; omega
  have B1 : Hid (Below w.heap.size w w1) := hid ((((Below.refl _ _).alloc (Nat.le_refl _) _).alloc (by simp) _).trans (hb1.mono (by simp; omega)))
  clear hb1 HR ho1
  go_wp2_with fail
  refine (HCv _).out.mono ?_
  rintro e w2 ⟨g2, p2, rfl, ho2, hb2⟩
  have B2 : Hid (Below w.heap.size w w2) := hid (B1.out.trans (hb2.mono (by omega)))
  clear hb2 HCv ho2 B1
  go_wp2
  go_ret
  exact ⟨rfl, B2.out⟩
set_option maxHeartbeats 2000000 in
set_option maxRecDepth 100000 in
theorem refClaims_count1 (f t : Nat) (h0 h1 : Int) (c s m x : Int) (p : ByteArray) (w : World) (hft : f ≤ t) (htn : t ≤ 32) (hs : p.size ≤ maxLen) (ns : List Nd) (hr : readR p.data.toList = some ns) (hl : ns.length ≠ (cov 0 32 f t).length) :
    Calls Tryz.prog 98 #[.int .i64 1, .agg #[.int .i64 32, .int .u8 h0, .int .u8 h1], .int .i64 f, .int .i64 t, .agg #[.int .i64 c, .int .i64 s, .int .i64 m, .int .i64 x], .string p] w fun e w' => e = .returned (.int .i64 8) ∧ Below w.heap.size w w' := by
  have HR : ∀ w', Hid (Calls Tryz.prog 42 #[.string p] w' (readPost (some ns) w')) := fun w' => hid (hr ▸ refRead_any p w' hs)
  have HCv : ∀ w', Hid (Calls Tryz.prog 79 #[.int .i64 0, .int .i64 32, .int .i64 f, .int .i64 t] w' (covPost (cov 0 32 f t) w')) := fun w' => hid (refCover_any f t (by omega) (by omega) 32 0 32 w' (by omega) (by omega) (by omega) (by omega))
  generalize cov 0 32 f t = C at HCv hl
  have hl2 : ((ns.length : Int) != (C.length : Int)) = true := by simp; omega
  clear hr hs hl
  have f0 : ¬ (f : Int) < 0 := by omega
  have f1 : ¬ (t : Int) < f := by omega
  have f2 : ¬ (32 : Int) < t := by omega
  go_enter Tryz.func98, Tryz.ntmps98
  go_wp2_with fail
  refine (HR _).out.mono ?_
  rintro e w1 ⟨v1, rfl, ho1, hb1⟩
  obtain ⟨a1, p1, rfl⟩ := own_shape ho1
  have hc1 := oldc hb1
  have l1 : w.heap.size + 2 ≤ w1.heap.size := by have := hb1.size; simp at this; omega
  have B1 : Hid (Below w.heap.size w w1) := hid ((((Below.refl _ _).alloc (Nat.le_refl _) _).alloc (by simp) _).trans (hb1.mono (by simp; omega)))
  clear hb1 HR ho1
  go_wp2_with fail
  refine (HCv _).out.mono ?_
  rintro e w2 ⟨g2, p2, rfl, ho2, hb2⟩
  have B2 : Hid (Below w.heap.size w w2) := hid (B1.out.trans (hb2.mono (by omega)))
  clear hb2 HCv ho2 B1
  go_wp2
  go_ret
  exact ⟨rfl, B2.out⟩
end Go.Proofs.YtogmdaopfnmobaaGreat

/- What the document's own answer does (notaryref): Claims, where the proof has as many nodes as it must. -/
namespace Go.Proofs.YtogmdaopfnmobaaGreat
open Go.RowKit
theorem own_shape2 {w : World} {base : Nat} {e : TypeId} {sz n : Nat} {v : Value} {xs : List Value} (h : w.ownsRow base e sz v n xs) : ∃ ao cap, v = .slice ao n cap ∧ n ≤ cap ∧ cap ≤ 9223372036854775807 := by
  rcases h.2 with ⟨rfl, rfl⟩ | ⟨g, cap, _, rfl, _, _, h1, h2, _⟩
  · exact ⟨none, 0, rfl, by omega, by omega⟩
  · exact ⟨_, cap, rfl, h1, by unfold maxLen at h2; omega⟩
set_option maxHeartbeats 2000000 in
set_option maxRecDepth 100000 in
theorem refClaims_node0 (n f t : Nat) (h0 h1 : Int) (c s m x : Int) (p : ByteArray) (w : World) (hn : n ≤ 64) (hft : f ≤ t) (htn : t ≤ n) (hs : p.size ≤ maxLen) (ns : List Nd) (hr : readR p.data.toList = some ns) (hl : ns.length = (cov 0 n f t).length) (hb : (wk 0 n f t ns false).2.2 = true) :
    Calls Tryz.prog 98 #[.int .i64 0, .agg #[.int .i64 n, .int .u8 h0, .int .u8 h1], .int .i64 f, .int .i64 t, .agg #[.int .i64 c, .int .i64 s, .int .i64 m, .int .i64 x], .string p] w fun e w' => e = .returned (.int .i64 6) ∧ Below w.heap.size w w' := by
  have HR : ∀ w', Hid (Calls Tryz.prog 42 #[.string p] w' (readPost (some ns) w')) := fun w' => hid (hr ▸ refRead_any p w' hs)
  have HCv : ∀ w', Hid (Calls Tryz.prog 79 #[.int .i64 0, .int .i64 n, .int .i64 f, .int .i64 t] w' (covPost (cov 0 n f t) w')) := fun w' => hid (refCover_any f t (by omega) (by omega) n 0 n w' (by omega) (by omega) (by omega) (by omega))
  obtain ⟨hn64, hok, _⟩ := write_read _ _ hr
  have HCm : ∀ ao cp w', Hid (Nodes w' w'.heap.size (.slice ao ns.length cp) ns → ns.length ≤ cp → cp ≤ 9223372036854775807 → Calls Tryz.prog 80 #[.slice ao ns.length cp, .int .i64 n, .int .i64 f, .int .i64 t] w' _) := fun ao cp w' => hid fun h1 h2 h3 => refComes_any n f t ao cp ns w' h1 h2 h3 (fun d hd => List.all_eq_true.mp hok d hd) (by omega) htn hft (by omega)
  generalize wk 0 n f t ns false = r at HCm hb
  obtain ⟨d, rs, bd⟩ := r
  simp only at HCm hb
  subst hb
  generalize cov 0 n f t = C at HCv hl
  have hl2 : ((ns.length : Int) != (C.length : Int)) = false := by simp; omega
  clear hr hs hl hok
  have n0 : ¬ (n : Int) < 0 := by omega
  have n1 : ¬ 64 < (n : Int) := by omega
  have f0 : ¬ (f : Int) < 0 := by omega
  have f1 : ¬ (t : Int) < f := by omega
  have f2 : ¬ (n : Int) < t := by omega
  go_enter Tryz.func98, Tryz.ntmps98
  go_wp2_with fail
  refine (HR _).out.mono ?_
  rintro e w1 ⟨v1, rfl, ho1, hb1⟩
  have HN1 : Hid (Nodes w1 w1.heap.size v1 ns) := hid (Nodes.own ho1 (by omega))
  obtain ⟨a1, p1, rfl, hp1, hp2⟩ := own_shape2 ho1
  have hc1 := oldc hb1
  have l1 : w.heap.size + 2 ≤ w1.heap.size := by have := hb1.size; simp at this; omega
  have l1a : w.heap.size < w1.heap.size := by omega
  have l1b : w.heap.size + 1 < w1.heap.size := by omega
  have B1 : Hid (Below w.heap.size w w1) := hid ((((Below.refl _ _).alloc (Nat.le_refl _) _).alloc (by simp) _).trans (hb1.mono (by simp; omega)))
  clear hb1 HR ho1
  go_wp2_with fail
  refine (HCv _).out.mono ?_
  rintro e w2 ⟨g2, p2, rfl, ho2, hb2⟩
  have hc2 := oldc hb2
  have l2 : w1.heap.size ≤ w2.heap.size := hb2.size
  have B2 : Hid (Below w.heap.size w w2) := hid (B1.out.trans (hb2.mono (by omega)))
  have HN2 : Hid (Nodes w2 w2.heap.size (.slice a1 ns.length p1) ns) := hid ((HN1.out.below hb2).mono (by omega))
  clear hb2 HCv ho2 B1 HN1
  go_wp2_with fail
  refine ((HCm _ _ _).out HN2.out hp1 hp2).mono ?_
  rintro e w3 ⟨rfl, hb3⟩
  have B3 : Hid (Below w.heap.size w w3) := hid (B2.out.trans (hb3.mono (by omega)))
  clear hb3 HCm B2 HN2
  rw [ndV]
  go_wp2
  go_ret
  exact ⟨rfl, B3.out.alloc B3.out.size _⟩
set_option maxHeartbeats 2000000 in
set_option maxRecDepth 100000 in
theorem refClaims_node1 (f t : Nat) (h0 h1 : Int) (c s m x : Int) (p : ByteArray) (w : World) (hft : f ≤ t) (htn : t ≤ 32) (hs : p.size ≤ maxLen) (ns : List Nd) (hr : readR p.data.toList = some ns) (hl : ns.length = (cov 0 32 f t).length) (hb : (wk 0 32 f t ns false).2.2 = true) :
    Calls Tryz.prog 98 #[.int .i64 1, .agg #[.int .i64 32, .int .u8 h0, .int .u8 h1], .int .i64 f, .int .i64 t, .agg #[.int .i64 c, .int .i64 s, .int .i64 m, .int .i64 x], .string p] w fun e w' => e = .returned (.int .i64 6) ∧ Below w.heap.size w w' := by
  have HR : ∀ w', Hid (Calls Tryz.prog 42 #[.string p] w' (readPost (some ns) w')) := fun w' => hid (hr ▸ refRead_any p w' hs)
  have HCv : ∀ w', Hid (Calls Tryz.prog 79 #[.int .i64 0, .int .i64 32, .int .i64 f, .int .i64 t] w' (covPost (cov 0 32 f t) w')) := fun w' => hid (refCover_any f t (by omega) (by omega) 32 0 32 w' (by omega) (by omega) (by omega) (by omega))
  obtain ⟨hn64, hok, _⟩ := write_read _ _ hr
  have HCm : ∀ ao cp w', Hid (Nodes w' w'.heap.size (.slice ao ns.length cp) ns → ns.length ≤ cp → cp ≤ 9223372036854775807 → Calls Tryz.prog 80 #[.slice ao ns.length cp, .int .i64 32, .int .i64 f, .int .i64 t] w' _) := fun ao cp w' => hid fun h1 h2 h3 => refComes_any 32 f t ao cp ns w' h1 h2 h3 (fun d hd => List.all_eq_true.mp hok d hd) (by omega) htn hft (by omega)
  generalize wk 0 32 f t ns false = r at HCm hb
  obtain ⟨d, rs, bd⟩ := r
  simp only at HCm hb
  subst hb
  generalize cov 0 32 f t = C at HCv hl
  have hl2 : ((ns.length : Int) != (C.length : Int)) = false := by simp; omega
  clear hr hs hl hok
  have f0 : ¬ (f : Int) < 0 := by omega
  have f1 : ¬ (t : Int) < f := by omega
  have f2 : ¬ (32 : Int) < t := by omega
  go_enter Tryz.func98, Tryz.ntmps98
  go_wp2_with fail
  refine (HR _).out.mono ?_
  rintro e w1 ⟨v1, rfl, ho1, hb1⟩
  have HN1 : Hid (Nodes w1 w1.heap.size v1 ns) := hid (Nodes.own ho1 (by omega))
  obtain ⟨a1, p1, rfl, hp1, hp2⟩ := own_shape2 ho1
  have hc1 := oldc hb1
  have l1 : w.heap.size + 2 ≤ w1.heap.size := by have := hb1.size; simp at this; omega
  have l1a : w.heap.size < w1.heap.size := by omega
  have l1b : w.heap.size + 1 < w1.heap.size := by omega
  have B1 : Hid (Below w.heap.size w w1) := hid ((((Below.refl _ _).alloc (Nat.le_refl _) _).alloc (by simp) _).trans (hb1.mono (by simp; omega)))
  clear hb1 HR ho1
  go_wp2_with fail
  refine (HCv _).out.mono ?_
  rintro e w2 ⟨g2, p2, rfl, ho2, hb2⟩
  have hc2 := oldc hb2
  have l2 : w1.heap.size ≤ w2.heap.size := hb2.size
  have B2 : Hid (Below w.heap.size w w2) := hid (B1.out.trans (hb2.mono (by omega)))
  have HN2 : Hid (Nodes w2 w2.heap.size (.slice a1 ns.length p1) ns) := hid ((HN1.out.below hb2).mono (by omega))
  clear hb2 HCv ho2 B1 HN1
  go_wp2_with fail
  refine ((HCm _ _ _).out HN2.out hp1 hp2).mono ?_
  rintro e w3 ⟨rfl, hb3⟩
  have B3 : Hid (Below w.heap.size w w3) := hid (B2.out.trans (hb3.mono (by omega)))
  clear hb3 HCm B2 HN2
  rw [ndV]
  go_wp2
  go_ret
  exact ⟨rfl, B3.out.alloc B3.out.size _⟩
end Go.Proofs.YtogmdaopfnmobaaGreat

/- What the document's own answer does (notaryref): Claims, where the head's root is another. -/
namespace Go.Proofs.YtogmdaopfnmobaaGreat
open Go.RowKit
attribute [local go_sem ↓] run_neq_digest
set_option maxHeartbeats 2000000 in
set_option maxRecDepth 100000 in
theorem refClaims_root0 (n f t : Nat) (h0 h1 : Int) (c s m x : Int) (p : ByteArray) (w : World) (hn : n ≤ 64) (hft : f ≤ t) (htn : t ≤ n) (hs : p.size ≤ maxLen) (ns : List Nd) (hr : readR p.data.toList = some ns) (hl : ns.length = (cov 0 n f t).length) (hb : (wk 0 n f t ns false).2.2 = false)
    (hroot : (dg (hdText n (wk 0 n f t ns false).1) : Int) / 256 ≠ h0 ∨ (dg (hdText n (wk 0 n f t ns false).1) : Int) % 256 ≠ h1) :
    Calls Tryz.prog 98 #[.int .i64 0, .agg #[.int .i64 n, .int .u8 h0, .int .u8 h1], .int .i64 f, .int .i64 t, .agg #[.int .i64 c, .int .i64 s, .int .i64 m, .int .i64 x], .string p] w fun e w' => e = .returned (.int .i64 9) ∧ Below w.heap.size w w' := by
  have HR : ∀ w', Hid (Calls Tryz.prog 42 #[.string p] w' (readPost (some ns) w')) := fun w' => hid (hr ▸ refRead_any p w' hs)
  have HCv : ∀ w', Hid (Calls Tryz.prog 79 #[.int .i64 0, .int .i64 n, .int .i64 f, .int .i64 t] w' (covPost (cov 0 n f t) w')) := fun w' => hid (refCover_any f t (by omega) (by omega) n 0 n w' (by omega) (by omega) (by omega) (by omega))
  obtain ⟨hn64, hok, _⟩ := write_read _ _ hr
  have hok2 := (wk_ok f t n 0 n ns false (by omega) (fun d hd => List.all_eq_true.mp hok d hd) hb).1
  have HCm : ∀ ao cp w', Hid (Nodes w' w'.heap.size (.slice ao ns.length cp) ns → ns.length ≤ cp → cp ≤ 9223372036854775807 → Calls Tryz.prog 80 #[.slice ao ns.length cp, .int .i64 n, .int .i64 f, .int .i64 t] w' _) := fun ao cp w' => hid fun h1 h2 h3 => refComes_any n f t ao cp ns w' h1 h2 h3 (fun d hd => List.all_eq_true.mp hok d hd) (by omega) htn hft (by omega)
  generalize wk 0 n f t ns false = r at HCm hb hok2 hroot
  obtain ⟨d, rs, bd⟩ := r
  simp only at HCm hb hok2 hroot
  subst hb
  have HRt : ∀ w', Hid (Calls Tryz.prog 16 #[.int .i64 n, ndV d] w' _) := fun w' => hid (refRoot_any n d w' (by omega) hok2)
  generalize (dg (hdText n d) : Int) = D at HRt hroot
  generalize cov 0 n f t = C at HCv hl
  have hl2 : ((ns.length : Int) != (C.length : Int)) = false := by simp; omega
  clear hr hs hl hok hok2
  have n0 : ¬ (n : Int) < 0 := by omega
  have n1 : ¬ 64 < (n : Int) := by omega
  have f0 : ¬ (f : Int) < 0 := by omega
  have f1 : ¬ (t : Int) < f := by omega
  have f2 : ¬ (n : Int) < t := by omega
  go_enter Tryz.func98, Tryz.ntmps98
  go_wp2_with fail
  refine (HR _).out.mono ?_
  rintro e w1 ⟨v1, rfl, ho1, hb1⟩
  have HN1 : Hid (Nodes w1 w1.heap.size v1 ns) := hid (Nodes.own ho1 (by omega))
  obtain ⟨a1, p1, rfl, hp1, hp2⟩ := own_shape2 ho1
  have hc1 := oldc hb1
  have l1 : w.heap.size + 2 ≤ w1.heap.size := by have := hb1.size; simp at this; omega
  have l1a : w.heap.size < w1.heap.size := by omega
  have l1b : w.heap.size + 1 < w1.heap.size := by omega
  have B1 : Hid (Below w.heap.size w w1) := hid ((((Below.refl _ _).alloc (Nat.le_refl _) _).alloc (by simp) _).trans (hb1.mono (by simp; omega)))
  clear hb1 HR ho1
  go_wp2_with fail
  refine (HCv _).out.mono ?_
  rintro e w2 ⟨g2, p2, rfl, ho2, hb2⟩
  have hc2 := oldc hb2
  have l2 : w1.heap.size ≤ w2.heap.size := hb2.size
  have l2a : w.heap.size < w2.heap.size := by omega
  have l2b : w.heap.size + 1 < w2.heap.size := by omega
  have B2 : Hid (Below w.heap.size w w2) := hid (B1.out.trans (hb2.mono (by omega)))
  have HN2 : Hid (Nodes w2 w2.heap.size (.slice a1 ns.length p1) ns) := hid ((HN1.out.below hb2).mono (by omega))
  clear hb2 HCv ho2 B1 HN1
  go_wp2_with fail
  refine ((HCm _ _ _).out HN2.out hp1 hp2).mono ?_
  rintro e w3 ⟨rfl, hb3⟩
  have hc3 := oldc hb3
  have l3 : w2.heap.size ≤ w3.heap.size := hb3.size
  have l3a : w.heap.size < w3.heap.size := by omega
  have l3b : w.heap.size + 1 < w3.heap.size := by omega
  have B3 : Hid (Below w.heap.size w w3) := hid (B2.out.trans (hb3.mono (by omega)))
  clear hb3 HCm B2 HN2
  rw [ndV]
  go_wp2_with fail
  refine (show Calls Tryz.prog 16 #[.int .i64 n, ndV d] _ _ from (HRt _).out).mono ?_
  rintro e w4 ⟨rfl, hb4⟩
  have l4 : w3.heap.size < w4.heap.size := by have := hb4.size; simp at this; omega
  have hc4 := oldc (((Below.refl w3.heap.size w3).alloc (Nat.le_refl _) _).trans (hb4.mono (by simp)))
  have l4a : w.heap.size < w4.heap.size := by omega
  have l4b : w.heap.size + 1 < w4.heap.size := by omega
  have B4 : Hid (Below w.heap.size w w4) := hid ((B3.out.alloc B3.out.size _).trans (hb4.mono (by simp; omega)))
  clear hb4 HRt B3
  by_cases e0 : D / 256 = h0
  · have e1 : ¬ D % 256 = h1 := by omega
    subst e0
    clear hroot
    go_wp2
    go_ret
    exact ⟨rfl, B4.out.alloc B4.out.size _⟩
  · clear hroot
    go_wp2
    go_ret
    exact ⟨rfl, B4.out.alloc B4.out.size _⟩
set_option maxHeartbeats 2000000 in
set_option maxRecDepth 100000 in
theorem refClaims_root1 (f t : Nat) (h0 h1 : Int) (c s m x : Int) (p : ByteArray) (w : World) (hft : f ≤ t) (htn : t ≤ 32) (hs : p.size ≤ maxLen) (ns : List Nd) (hr : readR p.data.toList = some ns) (hl : ns.length = (cov 0 32 f t).length) (hb : (wk 0 32 f t ns false).2.2 = false)
    (hroot : (dg (hdText 32 (wk 0 32 f t ns false).1) : Int) / 256 ≠ h0 ∨ (dg (hdText 32 (wk 0 32 f t ns false).1) : Int) % 256 ≠ h1) :
    Calls Tryz.prog 98 #[.int .i64 1, .agg #[.int .i64 32, .int .u8 h0, .int .u8 h1], .int .i64 f, .int .i64 t, .agg #[.int .i64 c, .int .i64 s, .int .i64 m, .int .i64 x], .string p] w fun e w' => e = .returned (.int .i64 9) ∧ Below w.heap.size w w' := by
  have HR : ∀ w', Hid (Calls Tryz.prog 42 #[.string p] w' (readPost (some ns) w')) := fun w' => hid (hr ▸ refRead_any p w' hs)
  have HCv : ∀ w', Hid (Calls Tryz.prog 79 #[.int .i64 0, .int .i64 32, .int .i64 f, .int .i64 t] w' (covPost (cov 0 32 f t) w')) := fun w' => hid (refCover_any f t (by omega) (by omega) 32 0 32 w' (by omega) (by omega) (by omega) (by omega))
  obtain ⟨hn64, hok, _⟩ := write_read _ _ hr
  have hok2 := (wk_ok f t 32 0 32 ns false (by omega) (fun d hd => List.all_eq_true.mp hok d hd) hb).1
  have HCm : ∀ ao cp w', Hid (Nodes w' w'.heap.size (.slice ao ns.length cp) ns → ns.length ≤ cp → cp ≤ 9223372036854775807 → Calls Tryz.prog 80 #[.slice ao ns.length cp, .int .i64 32, .int .i64 f, .int .i64 t] w' _) := fun ao cp w' => hid fun h1 h2 h3 => refComes_any 32 f t ao cp ns w' h1 h2 h3 (fun d hd => List.all_eq_true.mp hok d hd) (by omega) htn hft (by omega)
  generalize wk 0 32 f t ns false = r at HCm hb hok2 hroot
  obtain ⟨d, rs, bd⟩ := r
  simp only at HCm hb hok2 hroot
  subst hb
  have HRt : ∀ w', Hid (Calls Tryz.prog 16 #[.int .i64 32, ndV d] w' _) := fun w' => hid (refRoot_any 32 d w' (by omega) hok2)
  generalize (dg (hdText 32 d) : Int) = D at HRt hroot
  generalize cov 0 32 f t = C at HCv hl
  have hl2 : ((ns.length : Int) != (C.length : Int)) = false := by simp; omega
  clear hr hs hl hok hok2
  have f0 : ¬ (f : Int) < 0 := by omega
  have f1 : ¬ (t : Int) < f := by omega
  have f2 : ¬ (32 : Int) < t := by omega
  go_enter Tryz.func98, Tryz.ntmps98
  go_wp2_with fail
  refine (HR _).out.mono ?_
  rintro e w1 ⟨v1, rfl, ho1, hb1⟩
  have HN1 : Hid (Nodes w1 w1.heap.size v1 ns) := hid (Nodes.own ho1 (by omega))
  obtain ⟨a1, p1, rfl, hp1, hp2⟩ := own_shape2 ho1
  have hc1 := oldc hb1
  have l1 : w.heap.size + 2 ≤ w1.heap.size := by have := hb1.size; simp at this; omega
  have l1a : w.heap.size < w1.heap.size := by omega
  have l1b : w.heap.size + 1 < w1.heap.size := by omega
  have B1 : Hid (Below w.heap.size w w1) := hid ((((Below.refl _ _).alloc (Nat.le_refl _) _).alloc (by simp) _).trans (hb1.mono (by simp; omega)))
  clear hb1 HR ho1
  go_wp2_with fail
  refine (HCv _).out.mono ?_
  rintro e w2 ⟨g2, p2, rfl, ho2, hb2⟩
  have hc2 := oldc hb2
  have l2 : w1.heap.size ≤ w2.heap.size := hb2.size
  have l2a : w.heap.size < w2.heap.size := by omega
  have l2b : w.heap.size + 1 < w2.heap.size := by omega
  have B2 : Hid (Below w.heap.size w w2) := hid (B1.out.trans (hb2.mono (by omega)))
  have HN2 : Hid (Nodes w2 w2.heap.size (.slice a1 ns.length p1) ns) := hid ((HN1.out.below hb2).mono (by omega))
  clear hb2 HCv ho2 B1 HN1
  go_wp2_with fail
  refine ((HCm _ _ _).out HN2.out hp1 hp2).mono ?_
  rintro e w3 ⟨rfl, hb3⟩
  have hc3 := oldc hb3
  have l3 : w2.heap.size ≤ w3.heap.size := hb3.size
  have l3a : w.heap.size < w3.heap.size := by omega
  have l3b : w.heap.size + 1 < w3.heap.size := by omega
  have B3 : Hid (Below w.heap.size w w3) := hid (B2.out.trans (hb3.mono (by omega)))
  clear hb3 HCm B2 HN2
  rw [ndV]
  go_wp2_with fail
  refine (show Calls Tryz.prog 16 #[.int .i64 32, ndV d] _ _ from (HRt _).out).mono ?_
  rintro e w4 ⟨rfl, hb4⟩
  have l4 : w3.heap.size < w4.heap.size := by have := hb4.size; simp at this; omega
  have hc4 := oldc (((Below.refl w3.heap.size w3).alloc (Nat.le_refl _) _).trans (hb4.mono (by simp)))
  have l4a : w.heap.size < w4.heap.size := by omega
  have l4b : w.heap.size + 1 < w4.heap.size := by omega
  have B4 : Hid (Below w.heap.size w w4) := hid ((B3.out.alloc B3.out.size _).trans (hb4.mono (by simp; omega)))
  clear hb4 HRt B3
  by_cases e0 : D / 256 = h0
  · have e1 : ¬ D % 256 = h1 := by omega
    subst e0
    clear hroot
    go_wp2
    go_ret
    exact ⟨rfl, B4.out.alloc B4.out.size _⟩
  · clear hroot
    go_wp2
    go_ret
    exact ⟨rfl, B4.out.alloc B4.out.size _⟩
end Go.Proofs.YtogmdaopfnmobaaGreat

/- What the document's own answer does (notaryref): Claims, where the head's root is this one. -/
namespace Go.Proofs.YtogmdaopfnmobaaGreat
open Go.RowKit
attribute [local go_sem ↓] run_neq_digest
set_option maxHeartbeats 2000000 in
set_option maxRecDepth 100000 in
theorem refClaims_end0 (n f t : Nat) (h0 h1 : Int) (c s m x : Int) (p : ByteArray) (w : World) (hn : n ≤ 64) (hft : f ≤ t) (htn : t ≤ n) (hs : p.size ≤ maxLen) (ns : List Nd) (hr : readR p.data.toList = some ns) (hl : ns.length = (cov 0 n f t).length) (hb : (wk 0 n f t ns false).2.2 = false)
    (hroot : (dg (hdText n (wk 0 n f t ns false).1) : Int) / 256 = h0 ∧ (dg (hdText n (wk 0 n f t ns false).1) : Int) % 256 = h1) :
    Calls Tryz.prog 98 #[.int .i64 0, .agg #[.int .i64 n, .int .u8 h0, .int .u8 h1], .int .i64 f, .int .i64 t, .agg #[.int .i64 c, .int .i64 s, .int .i64 m, .int .i64 x], .string p] w fun e w' => e = .returned (.int .i64 (if fld (cov 0 n f t) ns (cov 0 n f t).length = ⟨c, s, m, x⟩ then 0 else 10)) ∧ Below w.heap.size w w' := by
  have HR : ∀ w', Hid (Calls Tryz.prog 42 #[.string p] w' (readPost (some ns) w')) := fun w' => hid (hr ▸ refRead_any p w' hs)
  have HCv : ∀ w', Hid (Calls Tryz.prog 79 #[.int .i64 0, .int .i64 n, .int .i64 f, .int .i64 t] w' (covPost (cov 0 n f t) w')) := fun w' => hid (refCover_any f t (by omega) (by omega) n 0 n w' (by omega) (by omega) (by omega) (by omega))
  obtain ⟨hn64, hok, _⟩ := write_read _ _ hr
  have hok2 := (wk_ok f t n 0 n ns false (by omega) (fun d hd => List.all_eq_true.mp hok d hd) hb).1
  have HCm : ∀ ao cp w', Hid (Nodes w' w'.heap.size (.slice ao ns.length cp) ns → ns.length ≤ cp → cp ≤ 9223372036854775807 → Calls Tryz.prog 80 #[.slice ao ns.length cp, .int .i64 n, .int .i64 f, .int .i64 t] w' _) := fun ao cp w' => hid fun h1 h2 h3 => refComes_any n f t ao cp ns w' h1 h2 h3 (fun d hd => List.all_eq_true.mp hok d hd) (by omega) htn hft (by omega)
  generalize wk 0 n f t ns false = r at HCm hb hok2 hroot
  obtain ⟨d, rs, bd⟩ := r
  simp only at HCm hb hok2 hroot
  subst hb
  have HRt : ∀ w', Hid (Calls Tryz.prog 16 #[.int .i64 n, ndV d] w' _) := fun w' => hid (refRoot_any n d w' (by omega) hok2)
  generalize (dg (hdText n d) : Int) = D at HRt hroot
  have HFd : ∀ base g cap v w', Hid (w'.ownsRow base 188 3 (.slice (some ⟨g, 0, none⟩) (cov 0 n f t).length cap) (cov 0 n f t).length (spRow (cov 0 n f t)) → Nodes w' w'.heap.size v ns → Calls Tryz.prog 132 #[.slice (some ⟨g, 0, none⟩) (cov 0 n f t).length cap, v] w' _) := fun base g cap v w' => hid fun h1 h2 => refFolded_any (cov 0 n f t) ns base g cap v w' h1 h2 hl (by omega) (fun d hd => List.all_eq_true.mp hok d hd)
  generalize cov 0 n f t = C at HCv hl HFd ⊢
  generalize fld C ns C.length = F at HFd ⊢
  have hl2 : ((ns.length : Int) != (C.length : Int)) = false := by simp; omega
  clear hr hs hl hok hok2
  have n0 : ¬ (n : Int) < 0 := by omega
  have n1 : ¬ 64 < (n : Int) := by omega
  have f0 : ¬ (f : Int) < 0 := by omega
  have f1 : ¬ (t : Int) < f := by omega
  have f2 : ¬ (n : Int) < t := by omega
  go_enter Tryz.func98, Tryz.ntmps98
  go_wp2_with fail
  refine (HR _).out.mono ?_
  rintro e w1 ⟨v1, rfl, ho1, hb1⟩
  have HN1 : Hid (Nodes w1 w1.heap.size v1 ns) := hid (Nodes.own ho1 (by omega))
  obtain ⟨a1, p1, rfl, hp1, hp2⟩ := own_shape2 ho1
  have hc1 := oldc hb1
  have l1 : w.heap.size + 2 ≤ w1.heap.size := by have := hb1.size; simp at this; omega
  have l1a : w.heap.size < w1.heap.size := by omega
  have l1b : w.heap.size + 1 < w1.heap.size := by omega
  have B1 : Hid (Below w.heap.size w w1) := hid ((((Below.refl _ _).alloc (Nat.le_refl _) _).alloc (by simp) _).trans (hb1.mono (by simp; omega)))
  clear hb1 HR ho1
  go_wp2_with fail
  refine (HCv _).out.mono ?_
  rintro e w2 ⟨g2, p2, rfl, ho2, hb2⟩
  have hc2 := oldc hb2
  have l2 : w1.heap.size ≤ w2.heap.size := hb2.size
  have l2a : w.heap.size < w2.heap.size := by omega
  have l2b : w.heap.size + 1 < w2.heap.size := by omega
  have B2 : Hid (Below w.heap.size w w2) := hid (B1.out.trans (hb2.mono (by omega)))
  have HN2 : Hid (Nodes w2 w2.heap.size (.slice a1 ns.length p1) ns) := hid ((HN1.out.below hb2).mono (by omega))
  have HO2 : Hid (w2.ownsRow _ 188 3 (.slice (some ⟨g2, 0, none⟩) C.length p2) C.length (spRow C)) := ho2
  clear hb2 HCv ho2 B1 HN1
  go_wp2_with fail
  refine ((HCm _ _ _).out HN2.out hp1 hp2).mono ?_
  rintro e w3 ⟨rfl, hb3⟩
  have hc3 := oldc hb3
  have l3 : w2.heap.size ≤ w3.heap.size := hb3.size
  have l3a : w.heap.size < w3.heap.size := by omega
  have l3b : w.heap.size + 1 < w3.heap.size := by omega
  have B3 : Hid (Below w.heap.size w w3) := hid (B2.out.trans (hb3.mono (by omega)))
  have HN3 : Hid (Nodes w3 w2.heap.size (.slice a1 ns.length p1) ns) := hid (HN2.out.below hb3)
  have HO3 : Hid (w3.ownsRow _ 188 3 (.slice (some ⟨g2, 0, none⟩) C.length p2) C.length (spRow C)) := hid (ownsRow_below HO2.out hb3)
  clear hb3 HCm B2 HN2 HO2
  rw [ndV]
  go_wp2_with fail
  refine (show Calls Tryz.prog 16 #[.int .i64 n, ndV d] _ _ from (HRt _).out).mono ?_
  rintro e w4 ⟨rfl, hb4⟩
  have l4 : w3.heap.size < w4.heap.size := by have := hb4.size; simp at this; omega
  have hc4 := oldc (((Below.refl w3.heap.size w3).alloc (Nat.le_refl _) _).trans (hb4.mono (by simp)))
  have l4a : w.heap.size < w4.heap.size := by omega
  have l4b : w.heap.size + 1 < w4.heap.size := by omega
  have B4 : Hid (Below w.heap.size w w4) := hid ((B3.out.alloc B3.out.size _).trans (hb4.mono (by simp; omega)))
  have hbx : Below w3.heap.size w3 w4 := ((Below.refl w3.heap.size w3).alloc (Nat.le_refl _) _).trans (hb4.mono (by simp))
  have HN4 : Hid (Nodes w4 w4.heap.size (.slice a1 ns.length p1) ns) := hid ((HN3.out.below (hbx.mono (by omega))).mono (by omega))
  have HO4 : Hid (w4.ownsRow _ 188 3 (.slice (some ⟨g2, 0, none⟩) C.length p2) C.length (spRow C)) := hid (ownsRow_below HO3.out hbx)
  clear hb4 HRt B3 HN3 HO3 hbx
  obtain ⟨rfl, rfl⟩ := hroot
  go_wp2_with fail
  refine ((HFd _ _ _ _ _).out (HO4.out.alloc _) ((HN4.out.below ((Below.refl _ _).alloc (Nat.le_refl _) _)).mono (by simp))).mono ?_
  rintro e w5 ⟨rfl, hb5⟩
  have hc5 := oldc (((Below.refl w4.heap.size w4).alloc (Nat.le_refl _) _).trans (hb5.mono (by simp)))
  have B5 : Hid (Below w.heap.size w w5) := hid ((B4.out.alloc B4.out.size _).trans (hb5.mono (by simp; omega)))
  have l5 : w.heap.size ≤ w5.heap.size := B5.out.size
  have l5x : w4.heap.size < w5.heap.size := by have := hb5.size; simp at this; omega
  have l5a : w.heap.size < w5.heap.size := by omega
  have l5b : w.heap.size + 1 < w5.heap.size := by omega
  clear hb5 HFd B4 HN4 HO4
  obtain ⟨F1, F2, F3, F4⟩ := F
  rw [foV]
  simp only
  by_cases e1 : F1 = c
  · by_cases e2 : F2 = s
    · by_cases e3 : F3 = m
      · by_cases e4 : F4 = x
        · go_wp2
          all_goals go_ret
          all_goals first | exact ⟨rfl, B5.out.alloc l5 _⟩ | (exfalso; simp_all; done)
        · go_wp2
          all_goals go_ret
          all_goals first | exact ⟨rfl, B5.out.alloc l5 _⟩ | (exfalso; simp_all; done)
      · go_wp2
        all_goals go_ret
        all_goals first | exact ⟨rfl, B5.out.alloc l5 _⟩ | (exfalso; simp_all; done)
    · go_wp2
      all_goals go_ret
      all_goals first | exact ⟨rfl, B5.out.alloc l5 _⟩ | (exfalso; simp_all; done)
  · go_wp2
    all_goals go_ret
    all_goals first | exact ⟨rfl, B5.out.alloc l5 _⟩ | (exfalso; simp_all; done)
set_option maxHeartbeats 2000000 in
set_option maxRecDepth 100000 in
theorem refClaims_end1 (f t : Nat) (h0 h1 : Int) (c s m x : Int) (p : ByteArray) (w : World) (hft : f ≤ t) (htn : t ≤ 32) (hs : p.size ≤ maxLen) (ns : List Nd) (hr : readR p.data.toList = some ns) (hl : ns.length = (cov 0 32 f t).length) (hb : (wk 0 32 f t ns false).2.2 = false)
    (hroot : (dg (hdText 32 (wk 0 32 f t ns false).1) : Int) / 256 = h0 ∧ (dg (hdText 32 (wk 0 32 f t ns false).1) : Int) % 256 = h1) :
    Calls Tryz.prog 98 #[.int .i64 1, .agg #[.int .i64 32, .int .u8 h0, .int .u8 h1], .int .i64 f, .int .i64 t, .agg #[.int .i64 c, .int .i64 s, .int .i64 m, .int .i64 x], .string p] w fun e w' => e = .returned (.int .i64 (if fld (cov 0 32 f t) ns (cov 0 32 f t).length = ⟨c, s, m, x⟩ then 0 else 10)) ∧ Below w.heap.size w w' := by
  have HR : ∀ w', Hid (Calls Tryz.prog 42 #[.string p] w' (readPost (some ns) w')) := fun w' => hid (hr ▸ refRead_any p w' hs)
  have HCv : ∀ w', Hid (Calls Tryz.prog 79 #[.int .i64 0, .int .i64 32, .int .i64 f, .int .i64 t] w' (covPost (cov 0 32 f t) w')) := fun w' => hid (refCover_any f t (by omega) (by omega) 32 0 32 w' (by omega) (by omega) (by omega) (by omega))
  obtain ⟨hn64, hok, _⟩ := write_read _ _ hr
  have hok2 := (wk_ok f t 32 0 32 ns false (by omega) (fun d hd => List.all_eq_true.mp hok d hd) hb).1
  have HCm : ∀ ao cp w', Hid (Nodes w' w'.heap.size (.slice ao ns.length cp) ns → ns.length ≤ cp → cp ≤ 9223372036854775807 → Calls Tryz.prog 80 #[.slice ao ns.length cp, .int .i64 32, .int .i64 f, .int .i64 t] w' _) := fun ao cp w' => hid fun h1 h2 h3 => refComes_any 32 f t ao cp ns w' h1 h2 h3 (fun d hd => List.all_eq_true.mp hok d hd) (by omega) htn hft (by omega)
  generalize wk 0 32 f t ns false = r at HCm hb hok2 hroot
  obtain ⟨d, rs, bd⟩ := r
  simp only at HCm hb hok2 hroot
  subst hb
  have HRt : ∀ w', Hid (Calls Tryz.prog 16 #[.int .i64 32, ndV d] w' _) := fun w' => hid (refRoot_any 32 d w' (by omega) hok2)
  generalize (dg (hdText 32 d) : Int) = D at HRt hroot
  have HFd : ∀ base g cap v w', Hid (w'.ownsRow base 188 3 (.slice (some ⟨g, 0, none⟩) (cov 0 32 f t).length cap) (cov 0 32 f t).length (spRow (cov 0 32 f t)) → Nodes w' w'.heap.size v ns → Calls Tryz.prog 132 #[.slice (some ⟨g, 0, none⟩) (cov 0 32 f t).length cap, v] w' _) := fun base g cap v w' => hid fun h1 h2 => refFolded_any (cov 0 32 f t) ns base g cap v w' h1 h2 hl (by omega) (fun d hd => List.all_eq_true.mp hok d hd)
  generalize cov 0 32 f t = C at HCv hl HFd ⊢
  generalize fld C ns C.length = F at HFd ⊢
  have hl2 : ((ns.length : Int) != (C.length : Int)) = false := by simp; omega
  clear hr hs hl hok hok2
  have f0 : ¬ (f : Int) < 0 := by omega
  have f1 : ¬ (t : Int) < f := by omega
  have f2 : ¬ (32 : Int) < t := by omega
  go_enter Tryz.func98, Tryz.ntmps98
  go_wp2_with fail
  refine (HR _).out.mono ?_
  rintro e w1 ⟨v1, rfl, ho1, hb1⟩
  have HN1 : Hid (Nodes w1 w1.heap.size v1 ns) := hid (Nodes.own ho1 (by omega))
  obtain ⟨a1, p1, rfl, hp1, hp2⟩ := own_shape2 ho1
  have hc1 := oldc hb1
  have l1 : w.heap.size + 2 ≤ w1.heap.size := by have := hb1.size; simp at this; omega
  have l1a : w.heap.size < w1.heap.size := by omega
  have l1b : w.heap.size + 1 < w1.heap.size := by omega
  have B1 : Hid (Below w.heap.size w w1) := hid ((((Below.refl _ _).alloc (Nat.le_refl _) _).alloc (by simp) _).trans (hb1.mono (by simp; omega)))
  clear hb1 HR ho1
  go_wp2_with fail
  refine (HCv _).out.mono ?_
  rintro e w2 ⟨g2, p2, rfl, ho2, hb2⟩
  have hc2 := oldc hb2
  have l2 : w1.heap.size ≤ w2.heap.size := hb2.size
  have l2a : w.heap.size < w2.heap.size := by omega
  have l2b : w.heap.size + 1 < w2.heap.size := by omega
  have B2 : Hid (Below w.heap.size w w2) := hid (B1.out.trans (hb2.mono (by omega)))
  have HN2 : Hid (Nodes w2 w2.heap.size (.slice a1 ns.length p1) ns) := hid ((HN1.out.below hb2).mono (by omega))
  have HO2 : Hid (w2.ownsRow _ 188 3 (.slice (some ⟨g2, 0, none⟩) C.length p2) C.length (spRow C)) := ho2
  clear hb2 HCv ho2 B1 HN1
  go_wp2_with fail
  refine ((HCm _ _ _).out HN2.out hp1 hp2).mono ?_
  rintro e w3 ⟨rfl, hb3⟩
  have hc3 := oldc hb3
  have l3 : w2.heap.size ≤ w3.heap.size := hb3.size
  have l3a : w.heap.size < w3.heap.size := by omega
  have l3b : w.heap.size + 1 < w3.heap.size := by omega
  have B3 : Hid (Below w.heap.size w w3) := hid (B2.out.trans (hb3.mono (by omega)))
  have HN3 : Hid (Nodes w3 w2.heap.size (.slice a1 ns.length p1) ns) := hid (HN2.out.below hb3)
  have HO3 : Hid (w3.ownsRow _ 188 3 (.slice (some ⟨g2, 0, none⟩) C.length p2) C.length (spRow C)) := hid (ownsRow_below HO2.out hb3)
  clear hb3 HCm B2 HN2 HO2
  rw [ndV]
  go_wp2_with fail
  refine (show Calls Tryz.prog 16 #[.int .i64 32, ndV d] _ _ from (HRt _).out).mono ?_
  rintro e w4 ⟨rfl, hb4⟩
  have l4 : w3.heap.size < w4.heap.size := by have := hb4.size; simp at this; omega
  have hc4 := oldc (((Below.refl w3.heap.size w3).alloc (Nat.le_refl _) _).trans (hb4.mono (by simp)))
  have l4a : w.heap.size < w4.heap.size := by omega
  have l4b : w.heap.size + 1 < w4.heap.size := by omega
  have B4 : Hid (Below w.heap.size w w4) := hid ((B3.out.alloc B3.out.size _).trans (hb4.mono (by simp; omega)))
  have hbx : Below w3.heap.size w3 w4 := ((Below.refl w3.heap.size w3).alloc (Nat.le_refl _) _).trans (hb4.mono (by simp))
  have HN4 : Hid (Nodes w4 w4.heap.size (.slice a1 ns.length p1) ns) := hid ((HN3.out.below (hbx.mono (by omega))).mono (by omega))
  have HO4 : Hid (w4.ownsRow _ 188 3 (.slice (some ⟨g2, 0, none⟩) C.length p2) C.length (spRow C)) := hid (ownsRow_below HO3.out hbx)
  clear hb4 HRt B3 HN3 HO3 hbx
  obtain ⟨rfl, rfl⟩ := hroot
  go_wp2_with fail
  refine ((HFd _ _ _ _ _).out (HO4.out.alloc _) ((HN4.out.below ((Below.refl _ _).alloc (Nat.le_refl _) _)).mono (by simp))).mono ?_
  rintro e w5 ⟨rfl, hb5⟩
  have hc5 := oldc (((Below.refl w4.heap.size w4).alloc (Nat.le_refl _) _).trans (hb5.mono (by simp)))
  have B5 : Hid (Below w.heap.size w w5) := hid ((B4.out.alloc B4.out.size _).trans (hb5.mono (by simp; omega)))
  have l5 : w.heap.size ≤ w5.heap.size := B5.out.size
  have l5x : w4.heap.size < w5.heap.size := by have := hb5.size; simp at this; omega
  have l5a : w.heap.size < w5.heap.size := by omega
  have l5b : w.heap.size + 1 < w5.heap.size := by omega
  clear hb5 HFd B4 HN4 HO4
  obtain ⟨F1, F2, F3, F4⟩ := F
  rw [foV]
  simp only
  by_cases e1 : F1 = c
  · by_cases e2 : F2 = s
    · by_cases e3 : F3 = m
      · by_cases e4 : F4 = x
        · go_wp2
          all_goals go_ret
          all_goals first | exact ⟨rfl, B5.out.alloc l5 _⟩ | (exfalso; simp_all; done)
        · go_wp2
          all_goals go_ret
          all_goals first | exact ⟨rfl, B5.out.alloc l5 _⟩ | (exfalso; simp_all; done)
      · go_wp2
        all_goals go_ret
        all_goals first | exact ⟨rfl, B5.out.alloc l5 _⟩ | (exfalso; simp_all; done)
    · go_wp2
      all_goals go_ret
      all_goals first | exact ⟨rfl, B5.out.alloc l5 _⟩ | (exfalso; simp_all; done)
  · go_wp2
    all_goals go_ret
    all_goals first | exact ⟨rfl, B5.out.alloc l5 _⟩ | (exfalso; simp_all; done)
end Go.Proofs.YtogmdaopfnmobaaGreat

