/- What the leaves do: the digest of a text, whether a number has bytes. -/
import Derived.Test.YtogmdaopfnmobaaGreatRows
import Derived.Test.YtogmdaopfnmobaaGreatS01
import Derived.Test.YtogmdaopfnmobaaGreatS02
namespace Go.Proofs.YtogmdaopfnmobaaGreat
open Go.RowKit
theorem take_snoc (s : ByteArray) (k : Nat) (h : k < s.size) : s.data.toList.take (k + 1) = s.data.toList.take k ++ [s[k]] := by
  rw [List.take_succ_eq_append_getElem (by simpa using h)]; rfl
set_option maxHeartbeats 400000 in
theorem of_any (s : ByteArray) (w : World) (hs : s.size ≤ maxLen) :
    Calls Tryz.prog 71 #[.string s] w fun e w' => e = .returned (.agg #[.int .u8 ((dg s.data.toList / 256 : Nat) : Int), .int .u8 ((dg s.data.toList % 256 : Nat) : Int)]) ∧ Below w.heap.size w w' := by
  unfold maxLen at hs
  go_enter Tryz.func71, Tryz.ntmps71
  go_wp2
  go_loop [3, 7] (fun n i => ∃ k : Nat, k ≤ s.size ∧ i = .int .i64 k ∧ n = .int .i64 (dg (s.data.toList.take k))) (fun _ i => s.size - (intOf i).toNat)
  case atStart => exact ⟨0, Nat.zero_le _, rfl, rfl⟩
  case round =>
    obtain ⟨k, hk, rfl, rfl⟩ := hrel
    have hd := dg_lt (s.data.toList.take k)
    by_cases hlt : k < s.size
    · have HS : Hid (dg (s.data.toList.take (k + 1)) = (dg (s.data.toList.take k) * 263 + s[k].toNat + 1) % 65521) := by rw [take_snoc s k hlt, dg_snoc]; rfl
      have hb : (s[k].toNat : Int) < 256 := by have := s[k].toNat_lt; omega
      go_wp2
      go_round
      case rel => exact ⟨k + 1, by omega, by go_num, by rw [HS.out]; go_num⟩
      case measure => simp [intOf]; omega
    · have he : s.data.toList.take k = s.data.toList := List.take_of_length_le (by simp; omega)
      rw [he] at hd ⊢
      go_wp2
      exact bodyPost_ret (v := .agg #[.int .u8 ((dg s.data.toList : Int) / 256), .int .u8 ((dg s.data.toList : Int) % 256)]) (by simp [results, Tryz.results71, go_sem]) rfl ⟨by simp, (Below.refl _ _).alloc (Nat.le_refl _) _⟩
set_option maxHeartbeats 400000 in
theorem empty_any (w : World) :
    Calls Tryz.prog 113 #[] w fun e w' => e = .returned (.agg #[.int .i64 0, .int .i64 0, .int .i64 0, .int .i64 0, .int .u8 1, .int .u8 77]) ∧ Below w.heap.size w w' := by
  go_enter Tryz.func113, Tryz.ntmps113
  go_wp2_with fail
  refine (of_any _ _ (by decide)).mono ?_
  rintro e w1 ⟨rfl, hb⟩
  have hc := oldc hb
  have hf := oldf hb
  have hd : dg [69] = 333 := by decide
  go_wp2
  refine bodyPost_ret (v := .agg #[.int .i64 0, .int .i64 0, .int .i64 0, .int .i64 0, .int .u8 1, .int .u8 77]) (by simp [results, Tryz.results113, go_sem, hc]) rfl ⟨rfl, ?_⟩
  repeat (refine Below.setCell ?_ (by simp) _)
  exact ((Below.refl _ _).alloc (Nat.le_refl _) _).trans (hb.mono (by simp))
set_option maxHeartbeats 400000 in
theorem isNumber_any (n : Int) (w : World) (b : Bool) (hb : isNum n = b) :
    Calls Tryz.prog 119 #[.int .i64 n] w fun e w' => e = .returned (.bool b) ∧ w' = w := by
  subst hb
  by_cases h : 0 ≤ n
  · go_enter Tryz.func119, Tryz.ntmps119
    go_wp2
    go_ret
    exact ⟨by simp [isNum, h], rfl⟩
  · go_enter Tryz.func119, Tryz.ntmps119
    go_wp2
    go_ret
    exact ⟨by simp [isNum]; omega, rfl⟩
def B (b : UInt8) : Value := .int .u8 (b.toNat : Int)
theorem B_ofNat (n : Nat) (h : n < 256) : B (UInt8.ofNat n) = .int .u8 (n : Int) := by
  unfold B; rw [UInt8.toNat_ofNat_of_lt' (by simpa using h)]
theorem B_one (l : List UInt8) : ∀ u ∈ l.map B, u.oneCell' = true := by
  intro u hu; obtain ⟨b, _, rfl⟩ := List.mem_map.1 hu; rfl
theorem info_u8 : (Tryz.prog.info? 5).map (fun i => (i.zero, i.size, i.bytes)) = some (some (.int .u8 0), 1, 1) := by kernel_rfl
theorem num_step (f m : Nat) (h : 128 ≤ m) (hm : m < 128 ^ (f + 1)) : ∃ g b, f = g + 1 ∧ numB f m = b :: numB g (m / 128) ∧ m / 128 < 128 ^ (g + 1) ∧ B b = .int .u8 ((m : Int) % 128 + 128) := by
  cases f with
  | zero => simp at hm; omega
  | succ g => exact ⟨g, _, rfl, numB_big g m h, by rw [Nat.pow_succ] at hm; exact Nat.div_lt_of_lt_mul (by rw [Nat.mul_comm]; exact hm), by rw [B_ofNat _ (by omega)]; simp⟩
theorem num_last (f m : Nat) (h : m < 128) : ∃ b, numB f m = [b] ∧ B b = .int .u8 (m : Int) := ⟨_, numB_small f m h, B_ofNat m (by omega)⟩
theorem one_new (w : World) (b : UInt8) (v : Value) (e : TypeId) (h : B b = v) : ∀ j u, [B b][j]? = some u → (w.alloc (.cells #[v] e)).cell? ((⟨w.heap.size, 0, none⟩ : Addr).add j) = some u := by
  subst h
  exact cell_one_new _ _ _
set_option maxHeartbeats 400000 in
set_option maxRecDepth 100000 in
theorem appendNumber_any (base : Nat) (v : Value) (n0 : Nat) (xs : List Value) (n : Nat) (w : World) (hown0 : w.ownsRow base 5 1 v n0 xs) (hn : n ≤ 281474976710656) (hsz : n0 ≤ 1000000) (hbase : base ≤ w.heap.size) :
    Calls Tryz.prog 114 #[v, .int .i64 n] w fun e w' => ∃ v', e = .returned v' ∧ w'.ownsRow base 5 1 v' (n0 + (num n).length) (xs ++ (num n).map B) ∧ Grew w v w' v' := by
  obtain ⟨i0, hi, hz0, hz1, hz2⟩ := info_parts info_u8
  go_enter Tryz.func114, Tryz.ntmps114
  go_wp2
  go_loopw [0, 1] (fun s i wr => ∃ (done : List UInt8) (m f : Nat), i = .int .i64 m ∧ m ≤ 281474976710656 ∧ Hid (m < 128 ^ (f + 1)) ∧ Hid (num n = done ++ numB f m) ∧ done.length ≤ 6 ∧ Hid (done.length + f = 6) ∧ wr.ownsRow base 5 1 s (n0 + done.length) (xs ++ done.map B) ∧ Grew w v wr s)
    (fun _ i _ => (intOf i).toNat)
  case atStart => exact ⟨[], n, 6, rfl, hn, (by show n < 128 ^ 7; omega), rfl, by simp, rfl, by simpa using hown0, Grew.refl _ _⟩
  case round =>
    obtain ⟨done, m, f, rfl, hm2, hm, HN, hdl, HL, hown, hg⟩ := hrel
    have hbs : base ≤ wr.heap.size := Nat.le_trans hbase hg.grown.size
    by_cases hlt : 128 ≤ m
    · obtain ⟨g, b, rfl, h2, h3, h4⟩ := num_step f m hlt hm
      have H2 : Hid _ := h2
      have H3 : Hid _ := h3
      have H4 : Hid _ := h4
      clear h2 h3 h4
      go_wp2_with (at_builtin; refine wpList_append_grew _ rfl _ _ 159 rfl base 5 i0 (.int .u8 0) 1 1 Tryz.underlying159 hi hz0 hz1 hz2 rfl (by decide) _ _ _ rfl (hown.alloc _) ⟨wr.heap.size, 0, none⟩ 1 1 [B b] rfl rfl ?c1 ?c2 ?c3 ?c4 ?c5 ?_)
      case c1 => exact one_new _ _ _ _ H4.out
      case c2 => exact B_one [b]
      case c3 => unfold maxLen; omega
      case c4 => omega
      case c5 => simp; omega
      intro v' w1 hown' hgrow _
      have R := (hg.alloc _).trans hgrow
      clear hgrow hown hg hown0
      go_wp2
      go_roundw
      case rel => exact ⟨done ++ [b], m / 128, g, by go_num, by omega, H3.out, by rw [HN.out, H2.out]; simp [Hid], by simp; have := HL.out; omega, by have := HL.out; simp [Hid]; omega, by simpa [Nat.add_assoc] using hown', R⟩
      case measure => simp [intOf]; omega
    · obtain ⟨b, h2, h4⟩ := num_last f m (by omega)
      have H2 : Hid _ := h2
      have H4 : Hid _ := h4
      clear h2 h4
      go_wp2_with (at_builtin; refine wpList_append_grew _ rfl _ _ 159 rfl base 5 i0 (.int .u8 0) 1 1 Tryz.underlying159 hi hz0 hz1 hz2 rfl (by decide) _ _ _ rfl (hown.alloc _) ⟨wr.heap.size, 0, none⟩ 1 1 [B b] rfl rfl ?d1 ?d2 ?d3 ?d4 ?d5 ?_)
      case d1 => exact one_new _ _ _ _ H4.out
      case d2 => exact B_one [b]
      case d3 => unfold maxLen; omega
      case d4 => omega
      case d5 => simp; omega
      intro v' w1 hown' hgrow _
      have R := (hg.alloc _).trans hgrow
      clear hgrow hown hg hown0
      go_wp2
      go_ret
      exact ⟨v', rfl, by rw [HN.out, H2.out]; simpa [Nat.add_assoc] using hown', R⟩
end Go.Proofs.YtogmdaopfnmobaaGreat

