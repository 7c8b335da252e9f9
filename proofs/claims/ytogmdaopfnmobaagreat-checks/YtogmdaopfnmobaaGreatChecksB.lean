/- Proved: for every script, however long, the law notarylaw.Checks returns true, and leaves its argument as it was. No condition is laid on the argument. -/
import Derived.ProofKit
import Derived.OpenShut
import Derived.ChangeOld
import Derived.Deep.Slices
import Derived.Test.YtogmdaopfnmobaaGreatC19
import Derived.Test.YtogmdaopfnmobaaGreatC40
import Derived.Test.YtogmdaopfnmobaaGreatC42
namespace Go.Proofs.YtogmdaopfnmobaaGreat
open Go.ChangeShapes Go.WideShapes Go.ChangeAt Go.RowKit Go.Deep
theorem checks_runB (w : World) (v : Value) (S : List OpV) (hS : StepsB w w.heap.size v S) (hok : ∀ o ∈ S, OpC o) :
    Calls Tryz.prog 8 #[v, .int .i64 11, .int .i64 12] w fun e w' => e = .returned (.bool true) ∧ Below w.heap.size w w' := by
  refine plays_big w 11 12 v S hS (fun w2 => CJ w.heap.size w2) fun w2 hO => ⟨checks_start w w2 hO, checks_plan _ _ _ _ fun o ho _ _ => ?_⟩
  rcases List.mem_append.1 ho with ho | ho
  · exact openC_ok _ o ho
  · exact hok o ho
set_option maxHeartbeats 1000000 in
theorem checks_lawB (w : World) (v : Value) (S : List OpV) (hS : StepsB w w.heap.size v S) (hok : ∀ o ∈ S, OpC o) :
    Calls Tryz.prog 5 #[v] w fun e w' => e = .returned (.bool true) ∧ Below w.heap.size w w' := by
  obtain ⟨ao, cap, rfl, _, _⟩ := hS.ex
  have HS := hid hS
  have HK := hid hok
  clear hS hok
  go_enter Tryz.func5, Tryz.ntmps5
  go_wp2_with fail
  refine (checks_runB w _ S HS.out HK.out).mono ?_
  rintro e w1 ⟨rfl, hb⟩
  have fin := hid hb
  clear hb HS HK
  go_wp2
  go_ret
  exact ⟨rfl, fin.out⟩
section
variable {H : Type} {enc : TypeId × Value → H} {W : World}
set_option maxRecDepth 100000 in
theorem script_readB {fuel : Nat} {ao : Option Addr} {len cap : Nat} {x : DataW H × List MemPlace} (h : DataW.trod enc Tryz.prog W 0 (fun _ => true) true fuel 22 [.slice ao len cap] = some x) :
    ∃ S : List OpV, StepsB W W.heap.size (.slice ao len cap) S ∧ ∀ o ∈ S, OpC o := by
  rcases open_slice Tryz.underlying22 h with ⟨hcs, _⟩ | ⟨a, len', cap', m, n, D, Pl, hcs, _, hl, hm, hmm, hxx, hx⟩
  · simp at hcs
    obtain ⟨rfl, rfl, rfl⟩ := hcs
    exact ⟨[], ⟨none, 0, rfl, by simp, fun i hi => by simp at hi⟩, by simp⟩
  · simp at hcs
    obtain ⟨rfl, rfl, rfl⟩ := hcs
    simp only [if_true] at hmm
    subst hmm
    have hd : ∀ i, i < len → ∃ o : OpV, W.cells? 0 (a.add (i * 18)) 18 = some o.cells ∧ OpC o := fun i hi => by
      obtain ⟨cs, h1, h2⟩ := hx i (by omega)
      rw [cells_op] at h1
      obtain ⟨o, rfl, hwf, ⟨_, y, hy, hyb⟩, ⟨_, z, hz, _⟩, hsz⟩ := op_read h2
      refine ⟨o, h1, hwf.s, ?_, ints_in hz⟩
      rcases list_in hy with e | ⟨ad, cp, l, e, _⟩
      · exact ⟨_, _, _, e⟩
      · exact ⟨_, _, _, e⟩
    have hinh : Inhabited OpV := ⟨O0⟩
    obtain ⟨f, hf⟩ := choose_lt hd
    refine ⟨(List.range len).map f, ⟨some a, _, by simp; rfl, by simp; unfold maxLen at hm; omega, fun i hi => ?_⟩, fun o ho => ?_⟩
    · have hi' : i < len := by simpa using hi
      have hc := (World.cells?_some (hf i hi').1).2.2
      have hc0 := (World.cells?_some (hf 0 (by omega)).1).2.2 0 (by omega)
      obtain ⟨b, off, spot⟩ := a
      have e0 : ((⟨b, off, spot⟩ : Addr).add (0 * 18)).add 0 = ⟨b, off, spot⟩ := by simp [Addr.add]
      rw [e0] at hc0
      have hc1 : W.cell? ⟨b, off, spot⟩ = some (.int .i64 (f 0).k) := hc0
      have hspot : spot = none := World.cell?_spot hc1
      subst hspot
      refine ⟨b, off, rfl, World.block_lt_of_cell? W _ hc1, fun j v hv => ?_, fun u hu => ?_⟩
      · have hj : j < 18 := by have := (List.getElem?_eq_some_iff.1 hv).1; rwa [opv_len] at this
        have := hc j hj
        rw [add_plain, add_plain] at this
        rw [this, ← hv]
        simp
      · obtain ⟨_, ⟨x2, y2, z2, en⟩, x1, y1, z1, ei⟩ := (hf i hi').2
        simp only [List.getElem_map, List.getElem_range, OpV.cells, ei, en, List.mem_cons, List.not_mem_nil, or_false] at hu
        rcases hu with rfl | rfl | rfl | rfl | rfl | rfl | rfl | rfl | rfl | rfl | rfl | rfl | rfl | rfl | rfl | rfl | rfl | rfl <;> rfl
    · obtain ⟨i, hi, rfl⟩ := List.mem_map.1 ho
      exact (hf i (List.mem_range.1 hi)).2
end
set_option maxHeartbeats 4000000 in
set_option maxRecDepth 100000 in
theorem checks_liftedB (os : Os) (started : os.Started) (H : Type) (enc : TypeId × Value → H) :
    ReturnsInHanded {} Tryz.checked os 5 .any (Rows.checksSpec.pre6 enc Tryz.prog Tryz.f5 Rows.checksRow.domain false) (Rows.checksSpec.post enc Tryz.prog Tryz.f5 false true false false) := by
  refine returnsInHanded_of_change (C := Tryz.checked) own_knob started (by kernel_rfl) Tryz.func5
    (ChangeSpec.witness6 (enc := enc) (C := Tryz.checked) false ⟨#[], #[.slice none 0 0], []⟩ 8 (by kernel_rfl) (by kernel_rfl) (by kernel_rfl) (by kernel_rfl)) ?_
  intro W base args ds gs before hval0 hW hcnd _
  have hval : ∀ (j : Nat) t v, Tryz.f5.params[j]? = some t → args[j]? = some v → Value.okWide Tryz.prog W .any base t v := hval0
  have hW' := hW
  obtain ⟨p, q, hA0, hV, rfl, hfz, hnd⟩ := hW
  have hA : DataW.TrodAll enc Tryz.prog W 0 (fun _ => true) true Tryz.f5.params.toList args.toList ds p := hA0
  rw [Tryz.params5] at hA hval
  obtain ⟨v0, vs0, d0, ds0, p0, q0, hargs, rfl, rfl, h0, r0⟩ := trodAll_cons hA
  obtain ⟨rfl, rfl, rfl⟩ := trodAll_nil r0
  obtain rfl : args = #[v0] := by cases args; simp_all
  obtain ⟨rfl, rfl⟩ := trodVars_none hV
  obtain ⟨a0, len0, cap0, rfl⟩ := okWide_slice Tryz.underlying22 (hval 0 22 v0 rfl rfl)
  have k0 := h0
  have lt0 : ∀ x ∈ p0, x.block < W.heap.size := by obtain ⟨m, hm⟩ := k0; exact DataW.trod_lt m _ _ _ hm
  obtain ⟨S, hS, hin⟩ : ∃ S, StepsB W W.heap.size (.slice a0 len0 cap0) S ∧ ∀ o ∈ S, OpC o := by
    obtain ⟨fuel, hf⟩ := h0
    exact script_readB (by simpa [Value.cells] using hf)
  clear hA0 hval0
  refine (checks_lawB W _ S hS hin).mono fun e W' ⟨he, bel⟩ => ?_
  subst he
  exact ⟨_, rfl, _, _, _, [], _, [], hW', trodAll_mk1 (shut_bool Tryz.underlying4 _), trodAll_cons_mk (Below.trod laid_out (by kernel_rfl) (of_decide_eq_true (by kernel_rfl)) k0 bel lt0) trodAll_mk0, rfl, bel.frame _, fun h => by cases h⟩
theorem checks_holds : Rows.ChecksSaid :=
  OpenClaim.holds_of_wide 5 Tryz.f5 rfl rfl rfl rfl rfl rfl rfl ⟨rfl, rfl, rfl, rfl, rfl⟩ rfl rfl rfl rfl rfl (by kernel_rfl) Tryz.func5 (by kernel_rfl)
    (of_decide_eq_true (by kernel_rfl)) (by unfold Func.isWrapper; first | (rw [if_pos (by decide +kernel)]; kernel_rfl) | (rw [if_neg (by decide +kernel)]; exact ⟨rfl, rfl⟩))
    (fun os started H enc _ => checks_liftedB os started H enc)
#print axioms checks_holds
end Go.Proofs.YtogmdaopfnmobaaGreat

