/- Proved: for every script the law notarylaw.All returns true, and leaves its argument as it was, where what is handed in holds at most 1048576 values and letters. No other condition. -/
import Derived.JoinedCond
import Derived.Test.YtogmdaopfnmobaaGreatA21
import Derived.Test.YtogmdaopfnmobaaGreatA55
namespace Go.Proofs.YtogmdaopfnmobaaGreat
open Go.ChangeShapes Go.WideShapes Go.ChangeAt Go.RowKit Go.Deep
theorem OpIn.all {W w2 : World} {o : OpV} (h : OpIn W 1048576 o) (hb : Below W.heap.size W w2) : OpA w2 W.heap.size o := by
  have hnv : ∃ x y z, o.nv = .slice x y z := by
    rcases h.nv with e | ⟨ad, cap, l, e, _⟩
    · exact ⟨_, _, _, e⟩
    · exact ⟨_, _, _, e⟩
  refine ⟨fun _ _ => ⟨h.wf.s, h.iv, ?_⟩, ⟨h.wf.a, WalkArith.wf_i64 h.wf.b, hnv, h.iv⟩, ⟨h.wf.s, hnv, h.iv⟩, ?_⟩
  · rcases h.nv with e | ⟨ad, cap, l, e, hl, hN⟩
    · exact .inl e
    · refine .inr ⟨ad, cap, l, e, by omega, fun w' hk => ?_⟩
      rw [e] at hN
      have hb' : Below W.heap.size W w' := hb.trans (hk.below hb.size (by simp))
      exact (hN.below hb').mono (by have := hb'.size; omega)
  · rcases h.il with e | ⟨ad, cap, l, e, hl, hN⟩
    · exact .inl e
    · refine .inr ⟨ad, cap, l, e, hl, fun w' hk => ?_⟩
      rw [e] at hN
      have hb' : Below W.heap.size W w' := hb.trans (hk.below hb.size (by simp))
      exact (hN.below hb').mono hb'.size
set_option maxRecDepth 100000 in
theorem all_contract (H : Type) (enc : TypeId × Value → H) (W : World) (base : Nat) (args : Array Value) (ds gs : List (DataW H)) (before : List MemPlace)
    (hval : ∀ (j : Nat) t v, Tryz.f7.params[j]? = some t → args[j]? = some v → Value.okWide Tryz.prog W .any base t v)
    (hW : DataW.Whole enc Tryz.prog Tryz.f7.params.toList Rows.allSpec.vars false W args.toList ds gs before) (hk : Rows.uptoSmall H (ds ++ gs) = true) :
    Calls Tryz.prog 7 args W fun e W' => ∃ v, e = .returned v ∧ Rows.allSpec.post enc Tryz.prog Tryz.f7 false true false false W args v W' := by
  have hW' := hW
  obtain ⟨p, q, hA0, hV, rfl, hfz, hnd⟩ := hW
  have hA : DataW.TrodAll enc Tryz.prog W 0 (fun _ => true) true Tryz.f7.params.toList args.toList ds p := hA0
  rw [Tryz.params7] at hA hval
  obtain ⟨v0, vs0, d0, ds0, p0, q0, hargs, rfl, rfl, h0, r0⟩ := trodAll_cons hA
  obtain ⟨rfl, rfl, rfl⟩ := trodAll_nil r0
  obtain rfl : args = #[v0] := by cases args; simp_all
  obtain ⟨rfl, rfl⟩ := trodVars_none hV
  obtain ⟨a0, len0, cap0, rfl⟩ := okWide_slice Tryz.underlying22 (hval 0 22 v0 rfl rfl)
  have k0 := h0
  have lt0 : ∀ x ∈ p0, x.block < W.heap.size := by obtain ⟨m, hm⟩ := k0; exact DataW.trod_lt m _ _ _ hm
  simp only [List.append_nil] at hW' hk
  have hb : Rows.uptoBulk d0 ≤ 1048576 := by
    have h : Rows.uptoBulkAll [d0] ≤ 1048576 := of_decide_eq_true hk
    simpa [Rows.uptoBulkAll] using h
  obtain ⟨S, hS, hn, hin⟩ : ∃ S, Steps W W.heap.size (.slice a0 len0 cap0) S ∧ S.length ≤ 1048576 ∧ ∀ o ∈ S, OpIn W 1048576 o := by
    obtain ⟨fuel, hf⟩ := h0
    exact script_read (by simpa [Value.cells] using hf) hb
  clear hA0
  refine (all_law W _ S hS (by omega) fun o ho w2 hb => (hin o ho).all hb).mono fun e W' ⟨he, bel⟩ => ?_
  subst he
  exact ⟨_, rfl, _, _, _, [], _, [], hW', trodAll_mk1 (shut_bool Tryz.underlying4 _), trodAll_cons_mk (Below.trod laid_out (by kernel_rfl) (of_decide_eq_true (by kernel_rfl)) k0 bel lt0) trodAll_mk0, rfl, bel.frame _, fun h => by cases h⟩
set_option maxRecDepth 100000 in
theorem all_lifted (os : Os) (started : os.Started) (H : Type) (enc : TypeId × Value → H) (F : Stop.Interp) :
    ReturnsInHanded {} Tryz.checked os 7 .any ((Rows.OpenSpec.upto Rows.allSpec).pre6 enc Tryz.prog Tryz.f7 Rows.allUptoRow.domain false) (((Rows.OpenSpec.upto Rows.allSpec).at F).post enc Tryz.prog Tryz.f7 false true false false) := by
  refine returnsInHanded_of_cond (C := Tryz.checked) (s := Rows.OpenSpec.upto Rows.allSpec) (k := Rows.uptoSmall) rfl own_knob started (by kernel_rfl) Tryz.func7
    (OpenSpec.witness (enc := enc) (C := Tryz.checked) (s := Rows.OpenSpec.upto Rows.allSpec) (k := Rows.uptoSmall) rfl false ⟨#[], #[.slice none 0 0], []⟩ 8 (by kernel_rfl) (by kernel_rfl) (by kernel_rfl)
      (x := ([.nil], [], [])) (by kernel_rfl) rfl (by kernel_rfl)) ?_
  intro W base args ds gs before hval hW _ hk _
  exact all_contract H enc W base args ds gs before hval hW hk
theorem all_upto : Rows.AllUptoSaid :=
  OpenClaim.holds_of_cond 7 Tryz.f7 rfl rfl rfl rfl rfl rfl rfl ⟨rfl, rfl, rfl, rfl, rfl⟩ rfl rfl rfl rfl rfl (by kernel_rfl) Tryz.func7 (by kernel_rfl)
    (of_decide_eq_true (by kernel_rfl)) (by unfold Func.isWrapper; first | (rw [if_pos (by decide +kernel)]; kernel_rfl) | (rw [if_neg (by decide +kernel)]; exact ⟨rfl, rfl⟩))
    (fun os started H enc _ F => all_lifted os started H enc F)
#print axioms all_upto
end Go.Proofs.YtogmdaopfnmobaaGreat

