/- What the document's own store answers, in the words in which the program's answers are told. -/
import Derived.Test.YtogmdaopfnmobaaGreatS18
import Derived.Test.YtogmdaopfnmobaaGreatS34
namespace Go.Proofs.YtogmdaopfnmobaaGreat
open Go.RowKit
theorem fv_congr {f g : Nat → Nd} (a : Nat) : ∀ n, (∀ i, i < n → f (a + i) = g (a + i)) → fv f a n = fv g a n
  | 0, _ => rfl
  | n + 1, h => by
    show tog (fv f a n) (f (a + n)).fold = tog (fv g a n) (g (a + n)).fold
    rw [fv_congr a n (fun i hi => h i (by omega)), h n (by omega)]
theorem prN_congr {f g : Nat → Nd} (n a b : Nat) (h : ∀ i, i < n → f i = g i) : cn f (cov 0 n a b) = prN g n a b := by
  unfold prN cn
  refine List.map_congr_left fun p hp => ?_
  have := cov_in a b n 0 n (by omega) (by omega) p hp
  exact tr_congr _ p.a p.b (Nat.le_refl _) (fun i _ h2 => h i (by omega))
theorem tb_fun (t : List (Option Int)) : lf true (tv t) (tx t) = tbf t := funext fun i => tbf_lf i
theorem rHead_any (w : World) (base R : Nat) (s : Sto) (lv : Value) (K H : Nat) (t n : Int) (h : RSt w base R s lv K H) :
    Calls Tryz.prog 40 #[.pointer (some ⟨R, 0, none⟩), .int .i64 t, .int .i64 n] w fun e w' => e = .returned (hdA s t n) ∧ Below w.heap.size w w' := by
  have hlen := h.ok.len
  have htl := h.ok.tlen
  unfold hdA
  by_cases h0 : t = 0
  · subst h0
    by_cases hn : 0 ≤ n ∧ n ≤ s.l.length
    · rw [if_pos ⟨rfl, hn⟩]
      obtain ⟨m, rfl⟩ : ∃ m : Nat, n = m := ⟨n.toNat, by omega⟩
      have := refHead_ok w R 0 m false (s.l.take m) (List.replicate m true) (fun w' hb => refTree_log w' base R s lv K H m (h.below hb) (by omega)) (by simp; omega) (by omega) (fun v hv => h.ok.val v (List.mem_of_mem_take hv))
      rw [tr_congr m 0 m (by omega) (fun i _ hi => lgf_lf hi)] at this
      exact this
    · rw [if_neg (by omega), if_neg (by omega)]
      exact refHead_no w R 0 n (fun w' hb => refTree_no w' base R s lv K H 0 n (h.below hb) (by omega) (by omega))
  · rw [if_neg (by omega)]
    by_cases h1 : t = 1 ∧ n = 32
    · obtain ⟨rfl, rfl⟩ := h1
      rw [if_pos ⟨rfl, rfl⟩]
      have := refHead_ok w R 1 32 true (tv s.t) (tx s.t) (fun w' hb => refTree_tab w' base R s lv K H (h.below hb)) (by simp [tv, htl]) (by omega) (tv_val h.ok)
      rw [tb_fun] at this
      exact this
    · rw [if_neg h1]
      exact refHead_no w R t n (fun w' hb => refTree_no w' base R s lv K H t n (h.below hb) (by omega) (by omega))
theorem rAsk_any (w : World) (base R : Nat) (s : Sto) (lv : Value) (K H : Nat) (t f u : Int) (h : RSt w base R s lv K H) :
    Calls Tryz.prog 134 #[.pointer (some ⟨R, 0, none⟩), .int .i64 t, .int .i64 f, .int .i64 u] w fun e w' => e = .returned (asA s t f u) ∧ Below w.heap.size w w' := by
  have hlen := h.ok.len
  have htl := h.ok.tlen
  have hZ : ∀ w', Below w.heap.size w w' → Calls Tryz.prog 136 #[.pointer (some ⟨R, 0, none⟩), .int .i64 t] w' fun e w2 => e = .returned (.int .i64 (if t = 0 then (s.l.length : Int) else 32)) ∧ w2 = w' := fun w' hb => refSize_any w' base R s lv K H t (h.below hb)
  unfold asA
  by_cases h0 : t = 0
  · subst h0
    have hTr : ∀ w', Below w.heap.size w w' → Calls Tryz.prog 78 #[.pointer (some ⟨R, 0, none⟩), .int .i64 0, .int .i64 (s.l.length : Int)] w' (treePost false s.l (List.replicate s.l.length true) w') := fun w' hb => by
      have := refTree_log w' base R s lv K H s.l.length (h.below hb) (Nat.le_refl _)
      rwa [List.take_length] at this
    by_cases hn : 0 ≤ f ∧ f ≤ u ∧ u ≤ s.l.length
    · rw [if_pos ⟨rfl, hn⟩]
      obtain ⟨f', rfl⟩ : ∃ m : Nat, f = m := ⟨f.toNat, by omega⟩
      obtain ⟨u', rfl⟩ : ∃ m : Nat, u = m := ⟨u.toNat, by omega⟩
      have hlf : ∀ i, i < s.l.length → lf false s.l (List.replicate s.l.length true) i = lgf s.l i := fun i hi => by
        have := lgf_lf (l := s.l) hi
        rwa [List.take_length] at this
      have := refAsk_ok w R 0 s.l.length f' u' false s.l (List.replicate s.l.length true) (fun w' hb => by have := hZ w' hb; rwa [if_pos rfl] at this) hTr rfl hlen h.ok.val (by omega) (by omega)
      have e : prfB false s.l (List.replicate s.l.length true) f' u' = prB (lgf s.l) s.l.length f' u' := by
        unfold prfB prB prfN
        rw [prN_congr (g := lgf s.l) _ _ _ hlf]
      rw [e, fv_congr f' (u' - f') (fun i hi => hlf (f' + i) (by omega))] at this
      exact this
    · rw [if_neg (by omega), if_neg (by omega)]
      exact refAsk_no2 w R 0 s.l.length f u _ _ _ (fun w' hb => by have := hZ w' hb; rwa [if_pos rfl] at this) hTr (by omega)
  · rw [if_neg (by omega)]
    by_cases h1 : t = 1
    · subst h1
      have hZ' : ∀ w', Below w.heap.size w w' → Calls Tryz.prog 136 #[.pointer (some ⟨R, 0, none⟩), .int .i64 1] w' fun e w2 => e = .returned (.int .i64 32) ∧ w2 = w' := fun w' hb => by have := hZ w' hb; rwa [if_neg (by omega)] at this
      have hTr : ∀ w', Below w.heap.size w w' → Calls Tryz.prog 78 #[.pointer (some ⟨R, 0, none⟩), .int .i64 1, .int .i64 32] w' (treePost true (tv s.t) (tx s.t) w') := fun w' hb => refTree_tab w' base R s lv K H (h.below hb)
      by_cases hn : 0 ≤ f ∧ f ≤ u ∧ u ≤ 32
      · rw [if_pos ⟨rfl, hn⟩]
        obtain ⟨f', rfl⟩ : ∃ m : Nat, f = m := ⟨f.toNat, by omega⟩
        obtain ⟨u', rfl⟩ : ∃ m : Nat, u = m := ⟨u.toNat, by omega⟩
        have hl32 : (tv s.t).length = 32 := by simp [tv, htl]
        have := refAsk_ok w R 1 32 f' u' true (tv s.t) (tx s.t) hZ' hTr hl32 (by omega) (tv_val h.ok) (by omega) (by omega)
        have e : prfB true (tv s.t) (tx s.t) f' u' = prB (tbf s.t) 32 f' u' := by
          unfold prfB prB prfN prN
          rw [hl32, tb_fun]
        rw [e, tb_fun] at this
        exact this
      · rw [if_neg (by omega)]
        exact refAsk_no2 w R 1 32 f u _ _ _ hZ' hTr (by omega)
    · rw [if_neg (by omega)]
      exact refAsk_no1 w R t 32 f u (fun w' hb => by have := hZ w' hb; rwa [if_neg h0] at this) (fun w' hb => refTree_no w' base R s lv K H t 32 (h.below hb) (by omega) (by omega))
theorem rGrown_any (w : World) (base R : Nat) (s : Sto) (lv : Value) (K H : Nat) (n : Int) (h : RSt w base R s lv K H) :
    Calls Tryz.prog 101 #[.pointer (some ⟨R, 0, none⟩), .int .i64 n] w fun e w' => e = .returned (grA s n) ∧ Below w.heap.size w w' := by
  unfold grA
  by_cases hn : 1 ≤ n ∧ n ≤ s.l.length
  · rw [if_pos hn]
    obtain ⟨m, rfl⟩ : ∃ m : Nat, n = m := ⟨n.toNat, by omega⟩
    have := refGrown_ok w base R s lv K H m h (by omega) (by omega)
    have e : prfB false s.l (List.replicate s.l.length true) 0 m = prB (lgf s.l) s.l.length 0 m := by
      unfold prfB prB prfN
      rw [prN_congr (g := lgf s.l)]
      intro i hi
      have := lgf_lf (l := s.l) hi
      rwa [List.take_length] at this
    rw [e] at this
    exact this
  · rw [if_neg hn]
    exact refGrown_no w base R s lv K H n h (by omega)
end Go.Proofs.YtogmdaopfnmobaaGreat

