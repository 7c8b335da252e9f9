/- What the document's own answer does (notaryref): Hash, MayBe, Empty, Num. -/
import Derived.Test.YtlggbcceoejkkaaGreatGen
namespace Go.Proofs.YtlggbcceoejkkaaGreat
open Go.RowKit

theorem Six.alloc {w : World} {g : Nat} {c0 c1 c2 c3 c4 c5 : Value} (h : Six w g c0 c1 c2 c3 c4 c5) (o : Obj) : Six (w.alloc o) g c0 c1 c2 c3 c4 c5 := by
  unfold Six at h ⊢
  rw [Below.heap_alloc w o g (Array.getElem?_eq_some_iff.1 h).1]; exact h
/-- The end of a call whose one result is a node in memory. -/
theorem ret_node1 {w : World} {g : Nat} {c0 c1 c2 c3 c4 c5 : Value} {fn : Func} {R : Ending → World → Prop} {tmps : Array Value} {k : Nat} (hf : fn.results = #[.cell k 46]) (h : Six w g c0 c1 c2 c3 c4 c5)
    (h2 : tmps[k]? = some (.pointer (some ⟨g, 0, none⟩))) (hR : R (.returned (.agg #[c0, c1, c2, c3, c4, c5])) w) : bodyPost Tryz.prog fn R .ret ⟨tmps, []⟩ w := by
  obtain ⟨k0, k1, k2, k3, k4, k5⟩ := h.cells
  refine bodyPost_ret (v := .agg #[c0, c1, c2, c3, c4, c5]) ?_ rfl hR
  simp [results, hf, go_sem, h2, k0, k1, k2, k3, k4, k5]

set_option maxHeartbeats 400000 in
theorem refHash_any (s : ByteArray) (w : World) (hs : s.size ≤ maxLen) :
    Calls Tryz.prog 22 #[.string s] w fun e w' => e = .returned (.agg #[.int .u8 ((dg s.data.toList : Int) / 256), .int .u8 ((dg s.data.toList : Int) % 256)]) ∧ Below w.heap.size w w' := by
  unfold maxLen at hs
  go_enter Tryz.func22, Tryz.ntmps22
  go_wp2
  go_loop [3, 4] (fun n i => ∃ k : Nat, k ≤ s.size ∧ i = .int .i64 k ∧ n = .int .i64 (dg (s.data.toList.take k))) (fun _ i => s.size - (intOf i).toNat)
  case atStart => exact ⟨0, Nat.zero_le _, rfl, rfl⟩
  case round =>
    obtain ⟨k, hk, rfl, rfl⟩ := hrel
    have hd := dg_lt (s.data.toList.take k)
    by_cases hlt : k < s.size
    · have HS : Hid (dg (s.data.toList.take (k + 1)) = (dg (s.data.toList.take k) * 263 + s[k].toNat + 1) % 65521) := by rw [take_snoc s k hlt, dg_snoc]; rfl
      have hb : (s[k].toNat : Int) < 256 := by have := s[k].toNat_lt; omega
      go_wp2
      go_round
      case rel => exact ⟨k + 1, by omega, by go_num, by rw [HS.out]; go_num⟩
      case measure => simp [intOf]; omega
    · have he : s.data.toList.take k = s.data.toList := List.take_of_length_le (by simp; omega)
      rw [he] at hd ⊢
      go_wp2
      exact bodyPost_ret (v := .agg #[.int .u8 ((dg s.data.toList : Int) / 256), .int .u8 ((dg s.data.toList : Int) % 256)]) (by simp [results, Tryz.results22, go_sem]) rfl ⟨rfl, (Below.refl _ _).alloc (Nat.le_refl _) _⟩

set_option maxHeartbeats 400000 in
theorem refEmpty_any (w : World) :
    Calls Tryz.prog 58 #[] w fun e w' => e = .returned (.agg #[.int .i64 0, .int .i64 0, .int .i64 0, .int .i64 0, .int .u8 1, .int .u8 77]) ∧ Below w.heap.size w w' := by
  go_enter Tryz.func58, Tryz.ntmps58
  go_wp2_with fail
  refine (refHash_any _ _ (by decide)).mono ?_
  rintro e w1 ⟨rfl, hb⟩
  have hc := oldc hb
  have hf := oldf hb
  have hz : w.heap.size < w1.heap.size := by have := hb.size; simp at this; omega
  have hd : dg [69] = 333 := by decide
  go_wp2
  refine ret_node1 Tryz.results58 ((((Six.new w _ _ _ _ _ _).below hb (by simp)).set (.int .i64 0) (.int .i64 0) (.int .i64 0) (.int .i64 0) (.int .u8 1) (.int .u8 77)).alloc _) rfl ⟨rfl, ?_⟩
  refine Below.alloc ?_ (by simp; omega) _
  repeat (refine Below.setCell ?_ (by simp) _)
  exact ((Below.refl _ _).alloc (Nat.le_refl _) _).trans (hb.mono (by simp))

set_option maxHeartbeats 400000 in
theorem refNumber_any (n : Int) (w : World) (b : Bool) (hb : isNum n = b) :
    Calls Tryz.prog 91 #[.int .i64 n] w fun e w' => e = .returned (.bool b) ∧ w' = w := by
  subst hb
  by_cases h : 0 ≤ n
  · go_enter Tryz.func91, Tryz.ntmps91
    go_wp2
    go_ret
    exact ⟨by simp [isNum, h], rfl⟩
  · go_enter Tryz.func91, Tryz.ntmps91
    go_wp2
    go_ret
    exact ⟨by simp [isNum]; omega, rfl⟩

set_option maxHeartbeats 1000000 in
set_option maxRecDepth 100000 in
theorem refMayBe_any (c s m x h g : Int) (w : World) (b : Bool) (hb : (isNum c && isNum s && isNum m && isNum x) = b) :
    Calls Tryz.prog 57 #[.agg #[.int .i64 c, .int .i64 s, .int .i64 m, .int .i64 x, .int .u8 h, .int .u8 g]] w fun e w' => e = .returned (.bool b) ∧ Below w.heap.size w w' := by
  have fin : ∀ o1, Below w.heap.size w (w.alloc o1) := fun o1 => (Below.refl _ _).alloc (Nat.le_refl _) _
  go_enter Tryz.func57, Tryz.ntmps57
  cases h1 : isNum c
  · go_wp2_with fail
    refine (refNumber_any _ _ _ h1).mono ?_
    rintro e w' ⟨rfl, rfl⟩
    go_wp2
    go_ret
    exact ⟨by rw [← hb]; simp [h1], fin _⟩
  · go_wp2_with fail
    refine (refNumber_any _ _ _ h1).mono ?_
    rintro e w' ⟨rfl, rfl⟩
    cases h2 : isNum s
    · go_wp2_with fail
      refine (refNumber_any _ _ _ h2).mono ?_
      rintro e w' ⟨rfl, rfl⟩
      go_wp2
      go_ret
      exact ⟨by rw [← hb]; simp [h2], fin _⟩
    · go_wp2_with fail
      refine (refNumber_any _ _ _ h2).mono ?_
      rintro e w' ⟨rfl, rfl⟩
      cases h3 : isNum m
      · go_wp2_with fail
        refine (refNumber_any _ _ _ h3).mono ?_
        rintro e w' ⟨rfl, rfl⟩
        go_wp2
        go_ret
        exact ⟨by rw [← hb]; simp [h3], fin _⟩
      · go_wp2_with fail
        refine (refNumber_any _ _ _ h3).mono ?_
        rintro e w' ⟨rfl, rfl⟩
        go_wp2_with fail
        refine (refNumber_any _ _ _ rfl).mono ?_
        rintro e w' ⟨rfl, rfl⟩
        go_wp2
        go_ret
        exact ⟨by rw [← hb]; simp [h1, h2, h3], fin _⟩

theorem run_str1 (W : World) (x : Int) :
    (convert 153 9 (.slice (some ⟨W.heap.size, 0, none⟩) 1 1)).run Tryz.prog (W.alloc (.cells #[.int .u8 x] 5)) = .ok (.string (strOfNums [x])) (W.alloc (.cells #[.int .u8 x] 5)) := by
  refine run_convert_bytes_arg _ 153 5 Tryz.underlying153 Tryz.underlying5 W.heap.size 0 1 1 [x] rfl (fun i hi => ?_) 9 Tryz.underlying9
  have : i = 0 := by omega
  subst this
  simp
theorem run_str2 (W : World) (x y : Int) :
    (convert 153 9 (.slice (some ⟨W.heap.size, 0, none⟩) 2 2)).run Tryz.prog (W.alloc (.cells #[.int .u8 x, .int .u8 y] 5)) = .ok (.string (strOfNums [x, y])) (W.alloc (.cells #[.int .u8 x, .int .u8 y] 5)) := by
  refine run_convert_bytes_arg _ 153 5 Tryz.underlying153 Tryz.underlying5 W.heap.size 0 2 2 [x, y] rfl (fun i hi => ?_) 9 Tryz.underlying9
  have : i = 0 ∨ i = 1 := by omega
  rcases this with rfl | rfl <;> simp

theorem app_list (s t : ByteArray) : (s ++ t).data.toList = s.data.toList ++ t.data.toList := by simp
theorem size_list (s : ByteArray) : s.size = s.data.toList.length := rfl
theorem str_of {t : ByteArray} {l : List UInt8} (h : t.data.toList = l) : t = ⟨l.toArray⟩ := by
  subst h
  simp

/-- One byte more, of the ref's Num. -/
theorem num_step' (f m : Nat) (h : 128 ≤ m) (hm : m < 128 ^ (f + 1)) : ∃ g, f = g + 1 ∧ numB f m = (strOfNums [128 + (m : Int) % 128]).data.toList ++ numB g (m / 128) ∧ m / 128 < 128 ^ (g + 1) := by
  cases f with
  | zero => simp at hm; omega
  | succ g =>
    refine ⟨g, rfl, ?_, by rw [Nat.pow_succ] at hm; exact Nat.div_lt_of_lt_mul (by rw [Nat.mul_comm]; exact hm)⟩
    rw [numB_big g m h, strOfNums_data]
    have e : (128 + (m : Int) % 128).toNat = m % 128 + 128 := by omega
    simp only [List.map_cons, List.map_nil, e, List.cons_append, List.nil_append]
theorem num_last' (f m : Nat) (h : m < 128) : numB f m = (strOfNums [(m : Int)]).data.toList := by
  rw [numB_small f m h, strOfNums_data]; simp

set_option maxHeartbeats 400000 in
set_option maxRecDepth 100000 in
theorem refNum_any (n : Nat) (w : World) (hn : n ≤ 34359738367) :
    Calls Tryz.prog 92 #[.int .i64 n] w fun e w' => ∃ t : ByteArray, e = .returned (.string t) ∧ t.data.toList = num n ∧ Below w.heap.size w w' := by
  have hst := run_str1
  have hsn : ∀ x, (strOfNums [x]).size = 1 := fun x => strOfNums_size [x]
  go_enter Tryz.func92, Tryz.ntmps92
  go_wp2
  go_loopw [0, 3] (fun i s wr => ∃ (t : ByteArray) (m f : Nat), i = .int .i64 m ∧ s = .string t ∧ m ≤ 34359738367 ∧ t.size ≤ 4 ∧ Hid (m < 128 ^ (f + 1)) ∧ Hid (num n = t.data.toList ++ numB f m) ∧ Hid (t.size + f = 4) ∧ Below w.heap.size w wr)
    (fun i _ _ => (intOf i).toNat)
  case atStart => exact ⟨⟨#[]⟩, n, 4, rfl, rfl, hn, by decide, (by show n < 128 ^ 5; omega), rfl, rfl, Below.refl _ _⟩
  case round =>
    obtain ⟨t, m, f, rfl, rfl, hm2, ht, HM, HN, HL, hb⟩ := hrel
    by_cases hlt : 128 ≤ m
    · obtain ⟨g, rfl, h2, h3⟩ := num_step' f m hlt HM.out
      have H2 : Hid _ := h2
      have H3 : Hid _ := h3
      clear h2 h3
      go_wp2
      go_roundw
      case rel => exact ⟨t ++ strOfNums [128 + (m : Int) % 128], m / 128, g, by go_num, rfl, by omega, by have := HL.out; simp [hsn]; omega, H3.out, (by rw [HN.out, H2.out, app_list, List.append_assoc]; rfl : Hid _), (by have := HL.out; simp [Hid, hsn]; omega), hb.alloc hb.size _⟩
      case measure => simp [intOf]; omega
    · have H2 : Hid _ := num_last' f m (by omega)
      go_wp2
      go_ret
      exact ⟨t ++ strOfNums [(m : Int)], rfl, by rw [app_list, HN.out, H2.out], hb.alloc hb.size _⟩

set_option maxHeartbeats 1000000 in
set_option maxRecDepth 100000 in
theorem refBytes_any (c s m x : Nat) (h g : UInt8) (w : World) (hc : c ≤ 34359738367) (hs : s ≤ 34359738367) (hm : m ≤ 34359738367) (hx : x ≤ 34359738367) :
    Calls Tryz.prog 59 #[.agg #[.int .i64 c, .int .i64 s, .int .i64 m, .int .i64 x, .int .u8 h.toNat, .int .u8 g.toNat]] w fun e w' => ∃ t : ByteArray, e = .returned (.string t) ∧ t.data.toList = num c ++ num s ++ num m ++ num x ++ [h, g] ∧ Below w.heap.size w w' := by
  have hst := run_str2
  have hsn : ∀ x y, (strOfNums [x, y]).size = 2 := fun x y => strOfNums_size [x, y]
  have l1 := (num_length c).1
  have l2 := (num_length s).1
  have l3 := (num_length m).1
  have l4 := (num_length x).1
  go_enter Tryz.func59, Tryz.ntmps59
  go_wp2_with fail
  refine (refNum_any _ _ hc).mono ?_
  rintro e w1 ⟨t1, rfl, e1, hb1⟩
  have z1 : t1.size ≤ 5 := by rw [size_list, e1]; exact l1
  have hC1 := oldc hb1
  have E1 : Hid _ := e1
  clear e1
  have hz1 : w.heap.size < w1.heap.size := by have := hb1.size; simp at this; omega
  go_wp2_with fail
  refine (refNum_any _ _ hs).mono ?_
  rintro e w2 ⟨t2, rfl, e2, hb2⟩
  have z2 : t2.size ≤ 5 := by rw [size_list, e2]; exact l2
  have hC2 := oldc hb2
  have E2 : Hid _ := e2
  clear e2
  have hz2 : w.heap.size < w2.heap.size := by have := hb2.size; omega
  go_wp2_with fail
  refine (refNum_any _ _ hm).mono ?_
  rintro e w3 ⟨t3, rfl, e3, hb3⟩
  have z3 : t3.size ≤ 5 := by rw [size_list, e3]; exact l3
  have hC3 := oldc hb3
  have E3 : Hid _ := e3
  clear e3
  have hz3 : w.heap.size < w3.heap.size := by have := hb3.size; omega
  go_wp2_with fail
  refine (refNum_any _ _ hx).mono ?_
  rintro e w4 ⟨t4, rfl, e4, hb4⟩
  have z4 : t4.size ≤ 5 := by rw [size_list, e4]; exact l4
  have hC4 := oldc hb4
  have E4 : Hid _ := e4
  clear e4
  have hz4 : w.heap.size < w4.heap.size := by have := hb4.size; omega
  have fin : Below w.heap.size w w4 := (((((Below.refl _ _).alloc (Nat.le_refl _) _).trans (hb1.mono (by simp))).trans (hb2.mono (by omega))).trans (hb3.mono (by omega))).trans (hb4.mono (by omega))
  clear hb1 hb2 hb3 hb4
  go_wp2
  go_ret
  refine ⟨_, rfl, ?_, fin.alloc (by omega) _⟩
  simp only [app_list, E1.out, E2.out, E3.out, E4.out, strOfNums_data]
  simp

end Go.Proofs.YtlggbcceoejkkaaGreat
