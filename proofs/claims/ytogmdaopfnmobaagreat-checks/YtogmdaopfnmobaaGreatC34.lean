/- What the program's trees do: Head. -/
import Derived.Test.YtogmdaopfnmobaaGreatC26
import Derived.Test.YtogmdaopfnmobaaGreatC31
namespace Go.Proofs.YtogmdaopfnmobaaGreat
open Go.RowKit
def hdV (n : Int) (d : Nat) : Value := .agg #[.int .i64 n, .int .u8 ((d : Int) / 256), .int .u8 ((d : Int) % 256)]
theorem ret_head1 {w : World} {g : Nat} {c0 c1 c2 : Value} {fn : Func} {R : Ending → World → Prop} {tmps : Array Value} {k : Nat} (hf : fn.results = #[.cell k 58]) (h : w.heap[g]? = some (.cells #[c0, c1, c2] 58 (0, 0)))
    (h2 : tmps[k]? = some (.pointer (some ⟨g, 0, none⟩))) (hR : R (.returned (.agg #[c0, c1, c2])) w) : bodyPost Tryz.prog fn R .ret ⟨tmps, []⟩ w := by
  have k0 : w.cell? ⟨g, 0, none⟩ = some c0 := by rw [cell_of_row w g _ _ _ _ h]; rfl
  have k1 : w.cell? ⟨g, 1, none⟩ = some c1 := by rw [cell_of_row w g _ _ _ _ h]; rfl
  have k2 : w.cell? ⟨g, 2, none⟩ = some c2 := by rw [cell_of_row w g _ _ _ _ h]; rfl
  refine bodyPost_ret (v := .agg #[c0, c1, c2]) ?_ rfl hR
  simp [results, hf, go_sem, h2, k0, k1, k2]
theorem put3 {w : World} {g : Nat} {c0 c1 c2 : Value} {t : TypeId} (h : w.heap[g]? = some (.cells #[c0, c1, c2] t (0, 0))) (d0 d1 d2 : Value) :
    (((w.setCell ⟨g, 0, none⟩ d0).setCell ⟨g, 1, none⟩ d1).setCell ⟨g, 2, none⟩ d2).heap[g]? = some (.cells #[d0, d1, d2] t (0, 0)) :=
  heap_set (k := 2) (heap_set (k := 1) (heap_set (k := 0) h _) _) _
theorem hdText_length (n : Nat) (d : Nd) : (hdText n d).length ≤ 38 := by
  have := d.bytes_length
  have := (num_length n).1
  simp [hdText]; omega
set_option maxHeartbeats 4000000 in
set_option maxRecDepth 100000 in
theorem headText_any {k B N n : Nat} {K : World → Prop} {g : Nat → Nat → Option Nd} {d : Nd} (hS : Src k B K N g) (hN : N ≤ 64) (hn : n ≤ N) (hc : Comes g 0 n d) (hd : d.mid) (w : World) (hK : K w) :
    Calls Tryz.prog 72 #[.int .i64 n, cloV k B] w fun e w' => e = .returned (.string ⟨(hdText n d).toArray⟩) ∧ Below w.heap.size w w' := by
  have ld := d.bytes_length
  have ln := (num_length n).1
  have HN : ∀ w', Hid (K w' → Calls Tryz.prog 76 #[paV 0 n, cloV k B] w' fun e w2 => e = .returned (ndV d) ∧ Below w'.heap.size w' w2) := fun w' => hid fun h => node_any hS hN hc w' h (Nat.zero_le _) hn
  have HK : Hid (∀ w', Below w.heap.size w w' → K w') := hid fun w' h => hS.keep w w' hK h
  have HA1 : ∀ w' k, Hid (Full w' (.slice (some ⟨k, 0, none⟩) 1 1) [Go.Proofs.YtogmdaopfnmobaaGreat.B 72] → Calls Tryz.prog 114 #[.slice (some ⟨k, 0, none⟩) 1 1, .int .i64 n] w' (fullPost w' [Go.Proofs.YtogmdaopfnmobaaGreat.B 72] (num n))) := fun w' k => hid fun h => appendNumber_full _ _ n w' h (by omega) (by simp)
  have HA2 : ∀ w' v base n0 xs, Hid (w'.ownsRow base 5 1 v n0 xs → n0 ≤ 800000 → base ≤ w'.heap.size → Calls Tryz.prog 116 #[v, ndV d] w' _) := fun w' v base n0 xs => hid fun h h1 h2 => appendNode_ownN base v n0 xs d w' h hd h1 h2
  simp only [paV, Int.ofNat_zero] at HN
  unfold ndV at HN HA2
  unfold cloV at HN ⊢
  clear hn hd hS hN hc hK
  have hcc : (convert 159 159 (.slice (some ⟨w.heap.size, 0, none⟩) 1 1)).run Tryz.prog (w.alloc (.cells #[.int .u8 72] 5)) = .ok (.slice (some ⟨w.heap.size, 0, none⟩) 1 1) (w.alloc (.cells #[.int .u8 72] 5 (1, 2))) := conv_const w 72
  go_enter Tryz.func72, Tryz.ntmps72
  go_wp2_with (first | (go_at_call 114; refine ((HA1 _ _).out (full_const w 72 _ rfl)).mono ?_; clear HA1; rintro e w2 ⟨v1, rfl, hown1, hb2⟩; have hB2 : Below w.heap.size w w2 := Below.trans ((Below.refl _ _).alloc (Nat.le_refl _) _) (hb2.mono (by (simp)))) | (go_at_call 76; refine ((HN _).out (HK.out _ hB2)).mono ?_; clear HN; rintro e w3 ⟨rfl, hb3⟩; have hown3 := ownsRow_below hown1 hb3; have hB3 := hB2.trans (hb3.mono hB2.size)) | (go_at_call 116; refine ((HA2 _ _ _ _ _).out hown3 (by simp; omega) ?_).mono ?_; (have := hb2.size; have := hb3.size; omega); clear HA2; rintro e w4 ⟨v4, rfl, hown4, hg4⟩; have hB4 : Below w.heap.size w w4 := hB3.grown hg4.grown hB3.size (fun k hk => (by (have := (hown3.lt k hk).1); (simp at this); omega)); have hst := run_string_own w4 _ v4 (hdText n d) (own_cast hown4 (by (simp [hdText]; omega)) (by simp [hdText]))))
  go_ret
  exact ⟨rfl, hB4⟩
set_option maxHeartbeats 4000000 in
set_option maxRecDepth 100000 in
theorem head_any {k B N n : Nat} {K : World → Prop} {g : Nat → Nat → Option Nd} {d : Nd} (hS : Src k B K N g) (hN : N ≤ 64) (hn : n ≤ N) (hc : Comes g 0 n d) (hd : d.mid) (w : World) (hK : K w) :
    Calls Tryz.prog 35 #[.int .i64 n, cloV k B] w fun e w' => e = .returned (hdV n (dg (hdText n d))) ∧ Below w.heap.size w w' := by
  have HK : Hid (∀ w', Below w.heap.size w w' → K w') := hid fun w' h => hS.keep w w' hK h
  have HT : ∀ w', Hid (K w' → Calls Tryz.prog 72 #[.int .i64 n, cloV k B] w' fun e w2 => e = .returned (.string ⟨(hdText n d).toArray⟩) ∧ Below w'.heap.size w' w2) := fun w' => hid fun h => headText_any hS hN hn hc hd w' h
  have hT : (⟨(hdText n d).toArray⟩ : ByteArray).size ≤ maxLen := by rw [size_list]; have := hdText_length n d; simp; unfold maxLen; omega
  have HOf : ∀ w', Hid (Calls Tryz.prog 71 #[.string ⟨(hdText n d).toArray⟩] w' fun e w2 => e = .returned (.agg #[.int .u8 ((dg (hdText n d) : Int) / 256), .int .u8 ((dg (hdText n d) : Int) % 256)]) ∧ Below w'.heap.size w' w2) := fun w' => hid (by
    have := of_any ⟨(hdText n d).toArray⟩ w' hT
    simpa using this)
  clear hS hN hn hc hd hK hT
  generalize hdText n d = T at HT HOf ⊢
  generalize (⟨T.toArray⟩ : ByteArray) = Ts at HT HOf
  unfold cloV at HT ⊢
  unfold hdV
  go_enter Tryz.func35, Tryz.ntmps35
  go_wp2_with fail
  refine ((HT _).out (HK.out _ ((Below.refl _ _).alloc (Nat.le_refl _) _))).mono ?_
  rintro e w2 ⟨rfl, hb2⟩
  go_wp2_with fail
  refine (HOf _).out.mono ?_
  rintro e w3 ⟨rfl, hb3⟩
  have hB : Below (w.alloc (.cells #[.int .i64 0, .int .u8 0, .int .u8 0] 58)).heap.size (w.alloc (.cells #[.int .i64 0, .int .u8 0, .int .u8 0] 58)) w3 := hb2.trans (hb3.mono hb2.size)
  have h3 : w3.heap[w.heap.size]? = some (.cells #[.int .i64 0, .int .u8 0, .int .u8 0] 58) := (hB.block w.heap.size (by simp)).trans (heap_alloc_new w _)
  have H3 : Hid (w3.heap[w.heap.size]? = some (.cells #[.int .i64 0, .int .u8 0, .int .u8 0] 58)) := h3
  have HB : Hid (Below w.heap.size w w3) := hid (((Below.refl _ _).alloc (Nat.le_refl _) _).trans (hB.mono (by simp)))
  have hcl := (⟨by rw [cell_of_row w3 _ _ _ _ _ h3]; rfl, by rw [cell_of_row w3 _ _ _ _ _ h3]; rfl, by rw [cell_of_row w3 _ _ _ _ _ h3]; rfl⟩ : w3.cell? ⟨w.heap.size, 0, none⟩ = some (.int .i64 0) ∧ w3.cell? ⟨w.heap.size, 1, none⟩ = some (.int .u8 0) ∧ w3.cell? ⟨w.heap.size, 2, none⟩ = some (.int .u8 0))
  have hfz : ∀ o, w3.frozen? ⟨w.heap.size, o, none⟩ = false := fun o => by simp [World.frozen?, h3]
  clear hb2 hb3 hB h3 HT HOf HK
  go_wp2
  refine ret_head1 Tryz.results35 (put3 H3.out _ _ _) rfl ⟨rfl, ?_⟩
  repeat (refine Below.setCell ?_ (by simp) _)
  exact HB.out
end Go.Proofs.YtogmdaopfnmobaaGreat

