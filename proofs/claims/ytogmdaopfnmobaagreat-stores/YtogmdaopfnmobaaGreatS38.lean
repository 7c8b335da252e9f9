/- A list of nodes that is handed in, as the walks want it. -/
import Derived.ProofKit
import Derived.OpenShut
import Derived.ShutString
import Derived.ChangeOld
import Derived.Deep.Slices
import Derived.Test.YtogmdaopfnmobaaGreatS08
namespace Go.Proofs.YtogmdaopfnmobaaGreat
open Go.ChangeShapes Go.WideShapes Go.ChangeAt Go.RowKit Go.Deep
open Go.ChangeMaps (open_string shut_string)
theorem own_knob : ownKnob Tryz.prog.godebug = none := by kernel_rfl
theorem laid_out : laidOutB Tryz.prog = true := by kernel_rfl
theorem cells_node : Tryz.prog.cellsOf 51 = 6 := by kernel_rfl
theorem cells_fold : Tryz.prog.cellsOf 47 = 4 := by kernel_rfl
theorem cells_digest : Tryz.prog.cellsOf 49 = 2 := by kernel_rfl
theorem cells_int : Tryz.prog.cellsOf 3 = 1 := by kernel_rfl
theorem cells_byte : Tryz.prog.cellsOf 5 = 1 := by kernel_rfl
section
variable {H : Type} {enc : TypeId × Value → H} {W : World} {base : Nat} {spare : Nat → Bool} {held : Bool}
theorem byte_of (n : Int) (h : (Lit.int .u8 n).wf = true) : ∃ b : UInt8, n = (b.toNat : Int) := by
  have hx : 0 ≤ n ∧ n ≤ 255 := by simpa [Lit.wf, IntKind.min, IntKind.max, IntKind.signed, IntKind.bits] using h
  refine ⟨UInt8.ofNat n.toNat, ?_⟩
  rw [UInt8.toNat_ofNat_of_lt' (by have : UInt8.size = 256 := rfl; omega)]
  omega
set_option maxRecDepth 100000 in
theorem node_read {fuel : Nat} {cs : List Value} {x : DataW H × List MemPlace} (h : DataW.trod enc Tryz.prog W base spare held fuel 51 cs = some x) : ∃ d : Nd, cs = d.cells := by
  obtain ⟨y0, y1, n, _, hl, h0, h1⟩ := trod_struct2 Tryz.underlying51 h
  rw [cells_node] at hl
  match cs, hl with
  | [c0, c1, c2, c3, c4, c5], _ =>
    simp only [cells_fold, cells_digest] at h0 h1
    obtain ⟨xs, m, _, _, _, hxs, hf⟩ := DataW.trod_struct Tryz.underlying47 h0
    obtain ⟨ys, m', _, _, _, hys, hg⟩ := DataW.trod_array Tryz.underlying49 h1
    match xs, hxs, ys, hys with
    | [x0, x1, x2, x3], _, [z0, z1], _ =>
      have g0 := hf 0 _ rfl
      have g1 := hf 1 _ rfl
      have g2 := hf 2 _ rfl
      have g3 := hf 3 _ rfl
      have j0 := hg 0 (by omega)
      have j1 := hg 1 (by omega)
      clear hf hg
      simp [cells_int, cells_byte] at g0 g1 g2 g3 j0 j1
      obtain ⟨a0, e0, _, _⟩ := DataW.trod_int Tryz.underlying3 g0
      obtain ⟨a1, e1, _, _⟩ := DataW.trod_int Tryz.underlying3 g1
      obtain ⟨a2, e2, _, _⟩ := DataW.trod_int Tryz.underlying3 g2
      obtain ⟨a3, e3, _, _⟩ := DataW.trod_int Tryz.underlying3 g3
      obtain ⟨a4, e4, _, w4⟩ := DataW.trod_int Tryz.underlying5 j0
      obtain ⟨a5, e5, _, w5⟩ := DataW.trod_int Tryz.underlying5 j1
      obtain ⟨b4, hb4⟩ := byte_of a4 w4
      obtain ⟨b5, hb5⟩ := byte_of a5 w5
      simp at e0 e1 e2 e3 e4 e5
      subst e0; subst e1; subst e2; subst e3; subst e4; subst e5; subst hb4; subst hb5
      exact ⟨⟨a0, a1, a2, a3, b4, b5⟩, rfl⟩
theorem nodes_read {fuel : Nat} {ao : Option Addr} {len cap : Nat} {x : DataW H × List MemPlace} (h : DataW.trod enc Tryz.prog W 0 (fun _ => true) true fuel 72 [.slice ao len cap] = some x) :
    ∃ l : List Nd, Nodes W W.heap.size (.slice ao len cap) l := by
  rcases open_slice Tryz.underlying72 h with ⟨hcs, _⟩ | ⟨a, len', cap', m, n, D, Pl, hcs, _, hl, hm, hmm, _, hx⟩
  · simp at hcs
    obtain ⟨rfl, rfl, rfl⟩ := hcs
    exact ⟨[], ⟨none, 0, rfl, by simp, fun i hi => by simp at hi⟩⟩
  · simp at hcs
    obtain ⟨rfl, rfl, rfl⟩ := hcs
    simp only [if_true] at hmm
    subst hmm
    have hd : ∀ i, i < len → ∃ d : Nd, W.cells? 0 (a.add (i * 6)) 6 = some d.cells := fun i hi => by
      obtain ⟨cs, h1, h2⟩ := hx i (by omega)
      rw [cells_node] at h1
      obtain ⟨d, rfl⟩ := node_read h2
      exact ⟨d, h1⟩
    have hinh : Inhabited Nd := ⟨Nd.E⟩
    obtain ⟨f, hf⟩ := choose_lt hd
    refine ⟨(List.range len).map f, ⟨some a, _, by simp; rfl, by simp; unfold maxLen at hm; omega, fun i hi => ?_⟩⟩
    have hi' : i < len := by simpa using hi
    have hc := (World.cells?_some (hf i hi')).2.2
    have hc0 := (World.cells?_some (hf 0 (by omega))).2.2 0 (by omega)
    obtain ⟨b, off, spot⟩ := a
    have e0 : ((⟨b, off, spot⟩ : Addr).add (0 * 6)).add 0 = ⟨b, off, spot⟩ := by simp [Addr.add]
    rw [e0] at hc0
    have hc1 : W.cell? ⟨b, off, spot⟩ = some (.int .i64 (f 0).c) := hc0
    have hspot : spot = none := World.cell?_spot hc1
    subst hspot
    refine ⟨b, off, rfl, World.block_lt_of_cell? W _ hc1, fun j hj => ?_⟩
    have := hc j hj
    rw [add_plain, add_plain] at this
    rw [this, List.getElem?_eq_getElem (by simp [Nd.cells]; omega)]
    simp
end
end Go.Proofs.YtogmdaopfnmobaaGreat

/- How much what is handed in holds. -/
namespace Go.Proofs.YtogmdaopfnmobaaGreat
open Go.RowKit
section
variable {H : Type}
theorem bulk_one (d : DataW H) : 1 ≤ Rows.uptoBulk d := by
  cases d with
  | lit l => cases l <;> simp [Rows.uptoBulk]
  | nil => simp [Rows.uptoBulk]
  | ptr d => simp [Rows.uptoBulk]
  | slice elems spare => simp [Rows.uptoBulk]
  | agg parts => simp [Rows.uptoBulk]
  | iface t d => simp [Rows.uptoBulk]
  | map entries => simp [Rows.uptoBulk]
  | held h => simp [Rows.uptoBulk]
theorem bulk_part {d : DataW H} {l : List (DataW H)} (h : d ∈ l) : Rows.uptoBulk d ≤ Rows.uptoBulkAll l := by
  induction l with
  | nil => cases h
  | cons x r ih =>
    simp only [Rows.uptoBulkAll]
    cases List.mem_cons.1 h with
    | inl e => subst e; omega
    | inr e => have := ih e; omega
theorem bulk_len (l : List (DataW H)) : l.length ≤ Rows.uptoBulkAll l := by
  induction l with
  | nil => simp [Rows.uptoBulkAll]
  | cons x r ih => have := bulk_one x; simp only [Rows.uptoBulkAll, List.length_cons]; omega
end
end Go.Proofs.YtogmdaopfnmobaaGreat

