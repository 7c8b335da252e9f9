/- What the program's trees do: Head. -/
import Derived.Test.YtlggbcceoejkkaaGreatP40
import Derived.Test.YtlggbcceoejkkaaGreatP36
namespace Go.Proofs.YtlggbcceoejkkaaGreat
open Go.RowKit

/-- A head, as a value: its size and the number that its digest is. -/
def hdV (n : Int) (d : Nat) : Value := .agg #[.int .i64 n, .int .u8 ((d : Int) / 256), .int .u8 ((d : Int) % 256)]
theorem ret_head1 {w : World} {g : Nat} {c0 c1 c2 : Value} {fn : Func} {R : Ending → World → Prop} {tmps : Array Value} {k : Nat} (hf : fn.results = #[.cell k 36]) (h : w.heap[g]? = some (.cells #[c0, c1, c2] 36 (0, 0)))
    (h2 : tmps[k]? = some (.pointer (some ⟨g, 0, none⟩))) (hR : R (.returned (.agg #[c0, c1, c2])) w) : bodyPost Tryz.prog fn R .ret ⟨tmps, []⟩ w := by
  have k0 : w.cell? ⟨g, 0, none⟩ = some c0 := by rw [cell_of_row w g _ _ _ _ h]; rfl
  have k1 : w.cell? ⟨g, 1, none⟩ = some c1 := by rw [cell_of_row w g _ _ _ _ h]; rfl
  have k2 : w.cell? ⟨g, 2, none⟩ = some c2 := by rw [cell_of_row w g _ _ _ _ h]; rfl
  refine bodyPost_ret (v := .agg #[c0, c1, c2]) ?_ rfl hR
  simp [results, hf, go_sem, h2, k0, k1, k2]
theorem put3 {w : World} {g : Nat} {c0 c1 c2 : Value} {t : TypeId} (h : w.heap[g]? = some (.cells #[c0, c1, c2] t (0, 0))) (d0 d1 d2 : Value) :
    (((w.setCell ⟨g, 0, none⟩ d0).setCell ⟨g, 1, none⟩ d1).setCell ⟨g, 2, none⟩ d2).heap[g]? = some (.cells #[d0, d1, d2] t (0, 0)) :=
  heap_set (k := 2) (heap_set (k := 1) (heap_set (k := 0) h _) _) _
theorem hdText_length (n : Nat) (d : Nd) : (hdText n d).length ≤ 38 := by
  have := d.bytes_length
  have := (num_length n).1
  simp [hdText]; omega

set_option maxHeartbeats 4000000 in
set_option maxRecDepth 100000 in
theorem head_any {k B N n : Nat} {K : World → Prop} {g : Nat → Nat → Option Nd} {d : Nd} (hS : Src k B K N g) (hN : N ≤ 64) (hn : n ≤ N) (hc : Comes g 0 n d) (hd : d.mid) (w : World) (hK : K w) :
    Calls Tryz.prog 65 #[.int .i64 n, cloV k B] w fun e w' => e = .returned (hdV n (dg (hdText n d))) ∧ Below w.heap.size w w' := by
  have HN : ∀ w', Hid (K w' → Calls Tryz.prog 96 #[paV 0 n, cloV k B] w' fun e w2 => e = .returned (ndV d) ∧ Below w'.heap.size w' w2) := fun w' => hid fun h => node_any hS hN hc w' h (Nat.zero_le _) hn
  have HK : Hid (∀ w', Below w.heap.size w w' → K w') := hid fun w' h => hS.keep w w' hK h
  have HT : ∀ w', Hid (Calls Tryz.prog 97 #[.int .i64 n, ndV d] w' fun e w2 => e = .returned (.string ⟨(hdText n d).toArray⟩) ∧ Below w'.heap.size w' w2) := fun w' => hid (headText_any n d w' (by omega) hd)
  have hT : (⟨(hdText n d).toArray⟩ : ByteArray).size ≤ maxLen := by rw [size_list]; have := hdText_length n d; simp; unfold maxLen; omega
  have HOf : ∀ w', Hid (Calls Tryz.prog 55 #[.string ⟨(hdText n d).toArray⟩] w' fun e w2 => e = .returned (.agg #[.int .u8 ((dg (hdText n d) : Int) / 256), .int .u8 ((dg (hdText n d) : Int) % 256)]) ∧ Below w'.heap.size w' w2) := fun w' => hid (by
    have := of_any ⟨(hdText n d).toArray⟩ w' hT
    simpa using this)
  clear hS hN hn hc hd hK hT
  generalize hdText n d = T at HT HOf ⊢
  generalize (⟨T.toArray⟩ : ByteArray) = Ts at HT HOf
  simp only [paV, ndV, Int.ofNat_zero] at HN
  simp only [ndV] at HT
  unfold cloV at HN ⊢
  unfold hdV
  go_enter Tryz.func65, Tryz.ntmps65
  go_wp2_with fail
  refine ((HN _).out (HK.out _ ((Below.refl _ _).alloc (Nat.le_refl _) _))).mono ?_
  rintro e w1 ⟨rfl, hb1⟩
  go_wp2_with fail
  refine (HT _).out.mono ?_
  rintro e w2 ⟨rfl, hb2⟩
  go_wp2_with fail
  refine (HOf _).out.mono ?_
  rintro e w3 ⟨rfl, hb3⟩
  have hB : Below (w.alloc (.cells #[.int .i64 0, .int .u8 0, .int .u8 0] 36)).heap.size (w.alloc (.cells #[.int .i64 0, .int .u8 0, .int .u8 0] 36)) w3 := (hb1.trans (hb2.mono hb1.size)).trans (hb3.mono (Nat.le_trans hb1.size hb2.size))
  have h3 : w3.heap[w.heap.size]? = some (.cells #[.int .i64 0, .int .u8 0, .int .u8 0] 36) := (hB.block w.heap.size (by simp)).trans (heap_alloc_new w _)
  have H3 : Hid (w3.heap[w.heap.size]? = some (.cells #[.int .i64 0, .int .u8 0, .int .u8 0] 36)) := h3
  have HB : Hid (Below w.heap.size w w3) := hid (((Below.refl _ _).alloc (Nat.le_refl _) _).trans (hB.mono (by simp)))
  have hcl := (⟨by rw [cell_of_row w3 _ _ _ _ _ h3]; rfl, by rw [cell_of_row w3 _ _ _ _ _ h3]; rfl, by rw [cell_of_row w3 _ _ _ _ _ h3]; rfl⟩ : w3.cell? ⟨w.heap.size, 0, none⟩ = some (.int .i64 0) ∧ w3.cell? ⟨w.heap.size, 1, none⟩ = some (.int .u8 0) ∧ w3.cell? ⟨w.heap.size, 2, none⟩ = some (.int .u8 0))
  have hfz : ∀ o, w3.frozen? ⟨w.heap.size, o, none⟩ = false := fun o => by simp [World.frozen?, h3]
  clear hb1 hb2 hb3 hB h3 HN HT HOf HK
  go_wp2
  refine ret_head1 Tryz.results65 (put3 H3.out _ _ _) rfl ⟨rfl, ?_⟩
  repeat (refine Below.setCell ?_ (by simp) _)
  exact HB.out

end Go.Proofs.YtlggbcceoejkkaaGreat

