/- What the program's trees do: clashDown. -/
import Derived.Test.YtogmdaopfnmobaaGreatA33
import Derived.Test.YtogmdaopfnmobaaGreatA42
import Derived.Test.YtogmdaopfnmobaaGreatA05
namespace Go.Proofs.YtogmdaopfnmobaaGreat
open Go.RowKit
def clV : Option (List UInt8 × List UInt8) → Value
  | some p => .tuple #[.string ⟨p.1.toArray⟩, .string ⟨p.2.toArray⟩, .bool true]
  | none => .tuple #[.string ⟨#[]⟩, .string ⟨#[]⟩, .bool false]
section
variable {k B N a b : Nat} {K : World → Prop} {g : Nat → Nat → Option Nd} {k' B' : Nat} {K' : World → Prop} {g' : Nat → Nat → Option Nd}
set_option maxHeartbeats 4000000 in
set_option maxRecDepth 100000 in
theorem clashDown_known {d : Nd} (hS : Src k B K N g) (hg : g a b = some d) (w : World) (hK : K w) (hab : a ≤ b) (hb : b ≤ N) :
    Calls Tryz.prog 77 #[paV a b, cloV k B, cloV k' B'] w fun e w' => e = .returned (clV none) ∧ Below w.heap.size w w' := by
  have HC : ∀ w', Hid (K w' → Calls Tryz.prog k #[paV a b, .pointer (some ⟨B, 0, none⟩)] w' fun e w2 => e = .returned (.tuple #[ndV d, .bool true]) ∧ Below w'.heap.size w' w2) := fun w' => hid fun h => by
    have := hS.call a b w' h hab hb
    rw [hg] at this
    exact this
  have HK : Hid (∀ w', Below w.heap.size w w' → K w') := hid fun w' h => hS.keep w w' hK h
  have he := hS.enters
  clear hg hS hK hab hb
  unfold paV ndV at HC
  unfold paV cloV
  go_enter Tryz.func77, Tryz.ntmps77
  go_wp2_with fail
  refine ((HC _).out (HK.out _ ((Below.refl _ _).alloc (Nat.le_refl _) _))).mono ?_
  rintro e w1 ⟨rfl, hb1⟩
  have HB1 : Hid (Below w.heap.size w w1) := hid (((Below.refl _ _).alloc (Nat.le_refl _) _).trans (hb1.mono (by simp)))
  clear hb1 he HC HK
  go_wp2
  exact bodyPost_ret (v := clV none) (by simp [results, Tryz.results77, go_sem, clV]) rfl ⟨rfl, HB1.out.alloc HB1.out.size _⟩
set_option maxHeartbeats 8000000 in
set_option maxRecDepth 100000 in
theorem clashDown_above {x y u v : Nd} {rl rr : Option (List UInt8 × List UInt8)} (hS : Src k B K N g) (hS' : Src k' B' K' N g') (hg : g a b = none) (h2 : a + 2 ≤ b) (hN : N ≤ 64) (hx : x.mid) (hy : y.mid) (hu : u.mid) (hv : v.mid)
    (ihx : ∀ w, K w → Calls Tryz.prog 76 #[paV a (a + hf (b - a)), cloV k B] w fun e w' => e = .returned (ndV x) ∧ Below w.heap.size w w')
    (ihy : ∀ w, K w → Calls Tryz.prog 76 #[paV (a + hf (b - a)) b, cloV k B] w fun e w' => e = .returned (ndV y) ∧ Below w.heap.size w w')
    (ihu : ∀ w, K' w → Calls Tryz.prog 76 #[paV a (a + hf (b - a)), cloV k' B'] w fun e w' => e = .returned (ndV u) ∧ Below w.heap.size w w')
    (ihv : ∀ w, K' w → Calls Tryz.prog 76 #[paV (a + hf (b - a)) b, cloV k' B'] w fun e w' => e = .returned (ndV v) ∧ Below w.heap.size w w')
    (ihl : ∀ w, K w → K' w → Calls Tryz.prog 77 #[paV a (a + hf (b - a)), cloV k B, cloV k' B'] w fun e w' => e = .returned (clV rl) ∧ Below w.heap.size w w')
    (ihr : ∀ w, K w → K' w → Calls Tryz.prog 77 #[paV (a + hf (b - a)) b, cloV k B, cloV k' B'] w fun e w' => e = .returned (clV rr) ∧ Below w.heap.size w w')
    (w : World) (hK : K w) (hK' : K' w) (hb : b ≤ N) :
    Calls Tryz.prog 77 #[paV a b, cloV k B, cloV k' B'] w fun e w' => e = .returned (clV (if abText x y = abText u v then rl.or rr else some (abText x y, abText u v))) ∧ Below w.heap.size w w' := by
  have HC : ∀ w', Hid (K w' → Calls Tryz.prog k #[paV a b, .pointer (some ⟨B, 0, none⟩)] w' fun e w2 => e = .returned (.tuple #[ndV nd0, .bool false]) ∧ Below w'.heap.size w' w2) := fun w' => hid fun h => by
    have := hS.call a b w' h (by omega) hb
    rw [hg] at this
    exact this
  have HSp : ∀ w', Hid (Calls Tryz.prog 120 #[paV a b] w' fun e w2 => e = .returned (.tuple #[paV a (a + hf (b - a)), paV (a + hf (b - a)) b]) ∧ Below w'.heap.size w' w2) := fun w' => hid (split_any a b w' h2 (by omega))
  have HK : Hid (∀ w', Below w.heap.size w w' → K w' ∧ K' w') := hid fun w' h => ⟨hS.keep w w' hK h, hS'.keep w w' hK' h⟩
  have HT1 : ∀ w', Hid (Calls Tryz.prog 122 #[ndV x, ndV y] w' fun e w2 => e = .returned (.string ⟨(abText x y).toArray⟩) ∧ Below w'.heap.size w' w2) := fun w' => hid (aboveText_any x y w' hx hy)
  have HT2 : ∀ w', Hid (Calls Tryz.prog 122 #[ndV u, ndV v] w' fun e w2 => e = .returned (.string ⟨(abText u v).toArray⟩) ∧ Below w'.heap.size w' w2) := fun w' => hid (aboveText_any u v w' hu hv)
  have he := hS.enters
  generalize abText x y = P at HT1 ⊢
  generalize abText u v = Q at HT2 ⊢
  generalize a + hf (b - a) = m at ihx ihy ihu ihv ihl ihr HSp
  have HN1 : ∀ a' b' d' w', Hid ((a' = a ∧ b' = m ∧ d' = x) ∨ (a' = m ∧ b' = b ∧ d' = y) → K w' → Calls Tryz.prog 76 #[paV a' b', cloV k B] w' fun e w2 => e = .returned (ndV d') ∧ Below w'.heap.size w' w2) := fun a' b' d' w' => hid fun h hk => by
    rcases h with ⟨rfl, rfl, rfl⟩ | ⟨rfl, rfl, rfl⟩
    · exact ihx w' hk
    · exact ihy w' hk
  have HN2 : ∀ a' b' d' w', Hid ((a' = a ∧ b' = m ∧ d' = u) ∨ (a' = m ∧ b' = b ∧ d' = v) → K' w' → Calls Tryz.prog 76 #[paV a' b', cloV k' B'] w' fun e w2 => e = .returned (ndV d') ∧ Below w'.heap.size w' w2) := fun a' b' d' w' => hid fun h hk => by
    rcases h with ⟨rfl, rfl, rfl⟩ | ⟨rfl, rfl, rfl⟩
    · exact ihu w' hk
    · exact ihv w' hk
  have HDl : ∀ w', Hid _ := fun w' => hid (ihl w')
  have HDr : ∀ w', Hid _ := fun w' => hid (ihr w')
  clear hg hS hS' hK hK' hb h2 hN hx hy hu hv ihx ihy ihu ihv ihl ihr
  obtain ⟨R, hR⟩ : ∃ R, R = (if P = Q then rl.or rr else some (P, Q)) := ⟨_, rfl⟩
  rw [← hR]
  have HR := hid hR
  clear hR
  unfold paV ndV at HC HN1 HN2
  simp only [nd0, UInt8.toNat_zero] at HC
  unfold paV at HSp HDl HDr
  unfold ndV at HT1 HT2
  unfold cloV at HN1 HN2 HDl HDr
  unfold paV cloV
  go_enter Tryz.func77, Tryz.ntmps77
  go_wp2_with fail
  refine ((HC _).out (HK.out _ ((Below.refl _ _).alloc (Nat.le_refl _) _)).1).mono ?_
  rintro e w1 ⟨rfl, hb1⟩
  have hc1 := oldc hb1
  have z0 : w.heap.size < w1.heap.size := by have := hb1.size; simp at this; omega
  have HB1 : Hid (Below w.heap.size w w1) := hid (((Below.refl _ _).alloc (Nat.le_refl _) _).trans (hb1.mono (by simp)))
  clear hb1 he HC
  go_wp2_with fail
  refine (HSp _).out.mono ?_
  rintro e w2 ⟨rfl, hb2⟩
  have HB2 : Hid (Below w.heap.size w w2) := hid ((HB1.out.alloc HB1.out.size _).trans (hb2.mono (by simp; omega)))
  have z2 := HB2.out.size
  clear hb2 hc1 HSp HB1 z0
  go_wp2
  obtain ⟨W, hW⟩ : ∃ W, W = (w2.alloc (.cells #[.int .i64 a, .int .i64 m] 95)).alloc (.cells #[.int .i64 m, .int .i64 b] 95) := ⟨_, rfl⟩
  have hWz : W.heap.size = w2.heap.size + 2 := by rw [hW]; simp
  have hp0 : W.heap[w2.heap.size]? = some (.cells #[.int .i64 a, .int .i64 m] 95) := by rw [hW]; exact heap_two w2 _ _ _ rfl
  have hp1 : W.heap[w2.heap.size + 1]? = some (.cells #[.int .i64 m, .int .i64 b] 95) := by rw [hW]; exact heap_one _ _ _ (by simp)
  have HWB : Hid (Below w.heap.size w W) := hid (by rw [hW]; exact (HB2.out.alloc HB2.out.size _).alloc (by have := HB2.out.size; simp; omega) _)
  have HCS : Hid (∀ w', Below W.heap.size W w' → ((w'.cell? ⟨w2.heap.size, 0, none⟩ = some (.int .i64 a) ∧ w'.cell? ⟨w2.heap.size, 1, none⟩ = some (.int .i64 m)) ∧ w'.cell? ⟨w2.heap.size + 1, 0, none⟩ = some (.int .i64 m) ∧ w'.cell? ⟨w2.heap.size + 1, 1, none⟩ = some (.int .i64 b))) := hid fun w' hk => by
    have e0 := (hk.block w2.heap.size (by omega)).trans hp0
    have e1 := (hk.block (w2.heap.size + 1) (by omega)).trans hp1
    refine ⟨⟨?_, ?_⟩, ?_, ?_⟩ <;> first | (rw [cell_of_row w' _ _ _ _ _ e0]; rfl) | (rw [cell_of_row w' _ _ _ _ _ e1]; rfl)
  have HKW : Hid (∀ w', Below W.heap.size W w' → K w' ∧ K' w') := hid fun w' hb => HK.out w' (HWB.out.trans (hb.mono (by omega)))
  have hWs : w.heap.size ≤ W.heap.size := by omega
  rw [← hW]
  have hcw := HCS.out W (Below.refl _ _)
  clear hW hp0 hp1 hWz HB2 HK z2
  generalize w2.heap.size = g2 at HCS hcw ⊢
  go_region_held3 (fun w' => (w'.cell? ⟨g2, 0, none⟩ = some (.int .i64 a) ∧ w'.cell? ⟨g2, 1, none⟩ = some (.int .i64 m)) ∧ w'.cell? ⟨g2 + 1, 0, none⟩ = some (.int .i64 m) ∧ w'.cell? ⟨g2 + 1, 1, none⟩ = some (.int .i64 b))
    (first | exact HCS.out _ (by (repeat (first | (with_reducible exact hBn) | (with_reducible exact hBa) | (with_reducible exact Below.refl _ _) | (with_reducible apply Below.drew)))) | go_keep)
    (first
      | (go_at_call 76; refine ((HN1 _ _ _ _).out (by first | exact .inl ⟨rfl, rfl, rfl⟩ | exact .inr ⟨rfl, rfl, rfl⟩) (HKW.out _ (by (repeat (first | (with_reducible exact hBn) | (with_reducible exact Below.refl _ _) | (with_reducible apply Below.drew))))).1).mono ?_; rintro e wn ⟨rfl, hbn⟩; have hBn : Below W.heap.size W wn := Below.trans (by (repeat (first | (with_reducible exact hBn) | (with_reducible exact Below.refl _ _) | (with_reducible apply Below.drew)))) (hbn.mono (by first | exact hBn.size | exact Nat.le_refl _)); clear hbn)
      | (go_at_call 122; refine (HT1 _).out.mono ?_; rintro e wa ⟨rfl, hba⟩; have hBa : Below W.heap.size W wa := Below.trans (by (repeat (first | (with_reducible exact hBn) | (with_reducible exact Below.refl _ _) | (with_reducible apply Below.drew)))) (hba.mono (by first | exact hBn.size | exact Nat.le_refl _)); clear hba))
  clear hBn hcw HN1 HT1
  obtain ⟨V, hV⟩ : ∃ V, V = wa := ⟨_, rfl⟩
  rw [← hV] at hBa ⊢
  clear hV
  have HCV : Hid (∀ w', Below V.heap.size V w' → ((w'.cell? ⟨g2, 0, none⟩ = some (.int .i64 a) ∧ w'.cell? ⟨g2, 1, none⟩ = some (.int .i64 m)) ∧ w'.cell? ⟨g2 + 1, 0, none⟩ = some (.int .i64 m) ∧ w'.cell? ⟨g2 + 1, 1, none⟩ = some (.int .i64 b)) ∧ (K w' ∧ K' w') ∧ Below w.heap.size w w') := hid fun w' hb => ⟨HCS.out w' (hBa.trans (hb.mono hBa.size)), HKW.out w' (hBa.trans (hb.mono hBa.size)), HWB.out.trans ((hBa.trans (hb.mono hBa.size)).mono hWs)⟩
  have hcv := (HCV.out V (Below.refl _ _)).1
  clear HCS HKW HWB hBa
  go_wp2
  go_region_held3 (fun w' => (w'.cell? ⟨g2, 0, none⟩ = some (.int .i64 a) ∧ w'.cell? ⟨g2, 1, none⟩ = some (.int .i64 m)) ∧ w'.cell? ⟨g2 + 1, 0, none⟩ = some (.int .i64 m) ∧ w'.cell? ⟨g2 + 1, 1, none⟩ = some (.int .i64 b))
    (first | exact (HCV.out _ (by (repeat (first | (with_reducible exact hBn) | (with_reducible exact hBa) | (with_reducible exact Below.refl _ _) | (with_reducible apply Below.drew))))).1 | go_keep)
    (first
      | (go_at_call 76; refine ((HN2 _ _ _ _).out (by first | exact .inl ⟨rfl, rfl, rfl⟩ | exact .inr ⟨rfl, rfl, rfl⟩) (HCV.out _ (by (repeat (first | (with_reducible exact hBn) | (with_reducible exact Below.refl _ _) | (with_reducible apply Below.drew))))).2.1.2).mono ?_; rintro e wn ⟨rfl, hbn⟩; have hBn : Below V.heap.size V wn := Below.trans (by (repeat (first | (with_reducible exact hBn) | (with_reducible exact Below.refl _ _) | (with_reducible apply Below.drew)))) (hbn.mono (by first | exact hBn.size | exact Nat.le_refl _)); clear hbn)
      | (go_at_call 122; refine (HT2 _).out.mono ?_; rintro e wa ⟨rfl, hba⟩; have hBa : Below V.heap.size V wa := Below.trans (by (repeat (first | (with_reducible exact hBn) | (with_reducible exact Below.refl _ _) | (with_reducible apply Below.drew)))) (hba.mono (by first | exact hBn.size | exact Nat.le_refl _)); clear hba))
  clear hBn hcv HN2 HT2
  have HCA : Hid (∀ w', Below wa.heap.size wa w' → ((w'.cell? ⟨g2, 0, none⟩ = some (.int .i64 a) ∧ w'.cell? ⟨g2, 1, none⟩ = some (.int .i64 m)) ∧ w'.cell? ⟨g2 + 1, 0, none⟩ = some (.int .i64 m) ∧ w'.cell? ⟨g2 + 1, 1, none⟩ = some (.int .i64 b)) ∧ (K w' ∧ K' w') ∧ Below w.heap.size w w') := hid fun w' hb => HCV.out w' (hBa.trans (hb.mono hBa.size))
  have hca := (HCA.out wa (Below.refl _ _)).1
  clear HCV hBa
  by_cases hPQ : P = Q
  · subst hPQ
    have HR1 : Hid (R = rl.or rr) := hid (by rw [HR.out, if_pos rfl])
    go_wp2_with fail
    refine ((HDl wa).out (HCA.out wa (Below.refl _ _)).2.1.1 (HCA.out wa (Below.refl _ _)).2.1.2).mono ?_
    rintro e w5 ⟨rfl, hb5⟩
    have HC5 := hid (HCA.out w5 hb5).2
    obtain ⟨⟨_, _⟩, q1, q2⟩ := (HCA.out w5 hb5).1
    clear hb5 HCA hca HR HDl
    cases rl with
    | some p =>
      have HR2 : Hid (R = some p) := hid HR1.out
      simp only [clV]
      go_wp2
      exact bodyPost_ret (v := clV (some p)) (by simp [results, Tryz.results77, go_sem, clV]) rfl ⟨by rw [HR2.out], HC5.out.2⟩
    | none =>
      have HR2 : Hid (R = rr) := hid HR1.out
      simp only [clV]
      go_wp2_with fail
      refine ((HDr w5).out HC5.out.1.1 HC5.out.1.2).mono ?_
      rintro e w6 ⟨rfl, hb6⟩
      have HB6 := hid (HC5.out.2.trans (hb6.mono HC5.out.2.size))
      clear hb6 HC5 HR1 HDr q1 q2
      cases rr with
      | some p =>
        simp only [clV]
        go_wp2
        exact bodyPost_ret (v := clV (some p)) (by simp [results, Tryz.results77, go_sem, clV]) rfl ⟨by rw [HR2.out], HB6.out⟩
      | none =>
        simp only [clV]
        go_wp2
        exact bodyPost_ret (v := clV none) (by simp [results, Tryz.results77, go_sem, clV]) rfl ⟨by rw [HR2.out], HB6.out⟩
  · have HR1 : Hid (R = some (P, Q)) := hid (by rw [HR.out, if_neg hPQ])
    have hne : (P == Q) = false := by simpa using hPQ
    have HB5 := hid (HCA.out wa (Below.refl _ _)).2.2
    clear HR HCA hca HDl HDr
    go_wp2
    exact bodyPost_ret (v := clV (some (P, Q))) (by simp [results, Tryz.results77, go_sem, clV]) rfl ⟨by rw [HR1.out], HB5.out⟩
theorem clashDown_any {U : Nat → Nat → Nd} (hS : Src k B K N g) (hS' : Src k' B' K' N g') (hN : N ≤ 64) (hU : ∀ a b, a ≤ b → b ≤ N → Comes g' a b (U a b) ∧ (U a b).mid) {d : Nd} (hc : Comes g a b d) : ∀ w, K w → K' w → a ≤ b → b ≤ N →
    Calls Tryz.prog 77 #[paV a b, cloV k B, cloV k' B'] w fun e w' => e = .returned (clV (cld g U a b)) ∧ Below w.heap.size w w' := by
  induction hc with
  | known hg => intro w hK hK' hab hb; rw [cld_known (.inl (by rw [hg]; rfl))]; exact clashDown_known hS hg w hK hab hb
  | @above a b x y hg h2 hcx hcy hx hy ihx ihy =>
    intro w hK hK' hab hb
    have p := hf_pos (b - a)
    have q := hf_lt (b - a) (by omega)
    have hu := hU a (a + hf (b - a)) (by omega) (by omega)
    have hv := hU (a + hf (b - a)) b (by omega) hb
    rw [cld_above hg h2, ← hcx.cmg, ← hcy.cmg]
    exact clashDown_above hS hS' hg h2 hN hx hy hu.2 hv.2 (fun w' hk => node_any hS hN hcx w' hk (by omega) (by omega)) (fun w' hk => node_any hS hN hcy w' hk (by omega) hb)
      (fun w' hk => node_any hS' hN hu.1 w' hk (by omega) (by omega)) (fun w' hk => node_any hS' hN hv.1 w' hk (by omega) hb)
      (fun w' h1 h2 => ihx w' h1 h2 (by omega) (by omega)) (fun w' h1 h2 => ihy w' h1 h2 (by omega) hb) w hK hK' hb
def cls (g : Nat → Nat → Option Nd) (U : Nat → Nat → Nd) (n : Nat) : Option (List UInt8 × List UInt8) :=
  if hdText n (cmg g 0 n) = hdText n (U 0 n) then cld g U 0 n else some (hdText n (cmg g 0 n), hdText n (U 0 n))
set_option maxHeartbeats 4000000 in
set_option maxRecDepth 100000 in
theorem clash_any {U : Nat → Nat → Nd} {n : Nat} (hS : Src k B K N g) (hS' : Src k' B' K' N g') (hN : N ≤ 64) (hn : n ≤ N) (hU : ∀ a b, a ≤ b → b ≤ N → Comes g' a b (U a b) ∧ (U a b).mid) {d : Nd} (hc : Comes g 0 n d) (hd : d.mid) (w : World) (hK : K w) (hK' : K' w) :
    Calls Tryz.prog 38 #[.int .i64 n, cloV k B, cloV k' B'] w fun e w' => e = .returned (clV (cls g U n)) ∧ Below w.heap.size w w' := by
  have HH1 : ∀ w', Hid (K w' → Calls Tryz.prog 72 #[.int .i64 n, cloV k B] w' fun e w2 => e = .returned (.string ⟨(hdText n d).toArray⟩) ∧ Below w'.heap.size w' w2) := fun w' => hid fun h => headText_any hS hN hn hc hd w' h
  have HH2 : ∀ w', Hid (K' w' → Calls Tryz.prog 72 #[.int .i64 n, cloV k' B'] w' fun e w2 => e = .returned (.string ⟨(hdText n (U 0 n)).toArray⟩) ∧ Below w'.heap.size w' w2) := fun w' => hid fun h => headText_any hS' hN hn (hU 0 n (by omega) hn).1 (hU 0 n (by omega) hn).2 w' h
  have HD : ∀ w', Hid (K w' → K' w' → Calls Tryz.prog 77 #[paV 0 n, cloV k B, cloV k' B'] w' fun e w2 => e = .returned (clV (cld g U 0 n)) ∧ Below w'.heap.size w' w2) := fun w' => hid fun h1 h2 => clashDown_any hS hS' hN hU hc w' h1 h2 (by omega) hn
  have HK : Hid (∀ w', Below w.heap.size w w' → K w' ∧ K' w') := hid fun w' h => ⟨hS.keep w w' hK h, hS'.keep w w' hK' h⟩
  obtain ⟨R, hR⟩ : ∃ R, R = cls g U n := ⟨_, rfl⟩
  rw [← hR]
  unfold cls at hR
  rw [← hc.cmg] at hR
  have HR := hid hR
  clear hR hS hS' hN hn hU hc hd hK hK'
  generalize hdText n d = P at HH1 HR
  generalize hdText n (U 0 n) = Q at HH2 HR
  generalize cld g U 0 n = r at HD HR
  simp only [paV, Int.ofNat_zero] at HD
  unfold cloV at HH1 HH2 HD ⊢
  go_enter Tryz.func38, Tryz.ntmps38
  go_wp2_with fail
  refine ((HH1 w).out (HK.out w (Below.refl _ _)).1).mono ?_
  rintro e w1 ⟨rfl, hb1⟩
  go_wp2_with fail
  refine ((HH2 w1).out (HK.out w1 hb1).2).mono ?_
  rintro e w2 ⟨rfl, hb2⟩
  have HB2 := hid (hb1.trans (hb2.mono hb1.size))
  clear hb1 hb2 HH1 HH2
  by_cases hPQ : P = Q
  · subst hPQ
    have HR1 : Hid (R = r) := hid (by rw [HR.out, if_pos rfl])
    go_wp2_with fail
    refine ((HD w2).out (HK.out w2 HB2.out).1 (HK.out w2 HB2.out).2).mono ?_
    rintro e w3 ⟨rfl, hb3⟩
    have HB3 := hid (HB2.out.trans (hb3.mono HB2.out.size))
    clear hb3 HD HK HR
    cases r with
    | some p =>
      simp only [clV]
      go_wp2
      exact bodyPost_ret (v := clV (some p)) (by simp [results, Tryz.results38, go_sem, clV]) rfl ⟨by rw [HR1.out], HB3.out⟩
    | none =>
      simp only [clV]
      go_wp2
      exact bodyPost_ret (v := clV none) (by simp [results, Tryz.results38, go_sem, clV]) rfl ⟨by rw [HR1.out], HB3.out⟩
  · have HR1 : Hid (R = some (P, Q)) := hid (by rw [HR.out, if_neg hPQ])
    have hne : (P == Q) = false := by simpa using hPQ
    clear HR HK HD
    go_wp2
    exact bodyPost_ret (v := clV (some (P, Q))) (by simp [results, Tryz.results38, go_sem, clV]) rfl ⟨by rw [HR1.out], HB2.out⟩
end
end Go.Proofs.YtogmdaopfnmobaaGreat

/- What Check does. -/
namespace Go.Proofs.YtogmdaopfnmobaaGreat
open Go.RowKit
attribute [local go_sem ↓] run_neq_digest
set_option maxRecDepth 100000 in
theorem run_neq_fold (w : World) (c s m x c' s' m' x' : Int) :
    (binOp .neq 47 (.agg #[.int .i64 c, .int .i64 s, .int .i64 m, .int .i64 x]) (.agg #[.int .i64 c', .int .i64 s', .int .i64 m', .int .i64 x'])).run Tryz.prog w = .ok (.bool (!decide (c = c' ∧ s = s' ∧ m = m' ∧ x = x'))) w := by
  go_simp
  by_cases a : c = c' <;> by_cases b : s = s' <;> by_cases d : m = m' <;> by_cases e : x = x' <;> simp [a, b, d, e]
attribute [local go_sem ↓] run_neq_fold
set_option maxRecDepth 100000 in
theorem run_field_root (w : World) (n a b : Int) : (Instr.field 58 (.agg #[.int .i64 n, .int .u8 a, .int .u8 b]) 1).run Tryz.prog w = .ok (.agg #[.int .u8 a, .int .u8 b]) w := by
  unfold Instr.field
  simp [go_sem, asAgg]
attribute [local go_sem ↓] run_field_root
def ckE (n f t : Nat) (h0 h1 : Int) (claim : Fo) (o : Option (List Nd)) : Int :=
  match o with
  | none => 7
  | some ns =>
    if ns.length ≠ (cov 0 n f t).length then 8
    else if (cm 0 n f t ns).ok = false then 6
    else if (dg (hdText n (cm 0 n f t ns)) : Int) / 256 ≠ h0 ∨ (dg (hdText n (cm 0 n f t ns)) : Int) % 256 ≠ h1 then 9
    else if fz ((cov 0 n f t).zip ns) ≠ claim then 10
    else 0
theorem ckE_rt {n f t : Nat} {h0 h1 : Int} {claim : Fo} {o : Option (List Nd)} (h : rtE n f t o ≠ 0) : ckE n f t h0 h1 claim o = rtE n f t o := by
  unfold ckE rtE at *
  cases o with
  | none => rfl
  | some ns =>
    simp only at h ⊢
    by_cases hl : ns.length = (cov 0 n f t).length
    · rw [if_pos hl] at h ⊢
      cases ho : (cm 0 n f t ns).ok with
      | true => rw [ho] at h; simp at h
      | false => simp [hl]
    · simp [hl]
set_option maxHeartbeats 2000000 in
set_option maxRecDepth 100000 in
theorem check_bad (tree n f t h0 h1 : Int) (c s m x : Int) (p : ByteArray) (w : World) (h : szB tree n = false ∨ rgB f t n = false) :
    Calls Tryz.prog 25 #[.int .i64 tree, .agg #[.int .i64 n, .int .u8 h0, .int .u8 h1], .int .i64 f, .int .i64 t, .agg #[.int .i64 c, .int .i64 s, .int .i64 m, .int .i64 x], .string p] w fun e w' => e = .returned (.int .i64 5) ∧ Below w.heap.size w w' := by
  cases hz : szB tree n with
  | false =>
    clear h
    go_enter Tryz.func25, Tryz.ntmps25
    go_wp2_with (go_at_call 50; refine (isSize_any _ _ _).mono ?_; rintro e w2 ⟨rfl, hw2⟩; rw [hz, hw2]; clear hw2 w2)
    go_ret
    exact ⟨rfl, ((Below.refl _ _).alloc (Nat.le_refl _) _).alloc (by simp) _⟩
  | true =>
    have hr : rgB f t n = false := by rcases h with h | h; rw [hz] at h; cases h; exact h
    clear h
    go_enter Tryz.func25, Tryz.ntmps25
    go_wp2_with (first | (go_at_call 50; refine (isSize_any _ _ _).mono ?_; rintro e w2 ⟨rfl, hw2⟩; rw [hz, hw2]; clear hw2 w2) | (go_at_call 61; refine (isRange_any _ _ _ _).mono ?_; rintro e w2 ⟨rfl, hw2⟩; rw [hr, hw2]; clear hw2 w2))
    go_ret
    exact ⟨rfl, ((Below.refl _ _).alloc (Nat.le_refl _) _).alloc (by simp) _⟩
set_option maxHeartbeats 4000000 in
set_option maxRecDepth 100000 in
theorem check_good (tree : Int) (n f t : Nat) (h0 h1 : Int) (c s m x : Int) (p : ByteArray) (w : World) (hz : szB tree n = true) (hn : n ≤ 64) (hft : f ≤ t) (htn : t ≤ n) (hs : p.size ≤ maxLen) :
    Calls Tryz.prog 25 #[.int .i64 tree, .agg #[.int .i64 n, .int .u8 h0, .int .u8 h1], .int .i64 f, .int .i64 t, .agg #[.int .i64 c, .int .i64 s, .int .i64 m, .int .i64 x], .string p] w fun e w' => e = .returned (.int .i64 (ckE n f t h0 h1 ⟨c, s, m, x⟩ (readR p.data.toList))) ∧ Below w.heap.size w w' := by
  have hr : rgB f t n = true := decide_eq_true ⟨by omega, by omega, by omega⟩
  obtain ⟨W1, hW1⟩ : ∃ W1, W1 = ((w.alloc (.cells #[.int .i64 n, .int .u8 h0, .int .u8 h1] 58)).alloc (.cells #[.int .i64 c, .int .i64 s, .int .i64 m, .int .i64 x] 47)).alloc (.cells #[.int .i64 f, .int .i64 t] 95) := ⟨_, rfl⟩
  have hz1 : W1.heap.size = w.heap.size + 3 := by rw [hW1]; simp
  have hB1 : Below w.heap.size w W1 := by rw [hW1]; exact ((((Below.refl _ _).alloc (Nat.le_refl _) _).alloc (by simp) _).alloc (by simp; omega) _)
  have hh1 : W1.heap[w.heap.size]? = some (.cells #[.int .i64 n, .int .u8 h0, .int .u8 h1] 58 (0, 0)) := by rw [hW1]; exact heap_three w _ _ _ _ rfl
  have hf1 : FoAt W1 (w.heap.size + 1) ⟨c, s, m, x⟩ := by rw [hW1]; exact (FoAt.at (w.alloc _) _ (by simp) ⟨c, s, m, x⟩).alloc _
  have hp1 : PaAt W1 (w.heap.size + 1 + 1) f t := by rw [hW1]; exact PaAt.at _ _ (by simp) f t
  have HCS : Hid (∀ w', Below W1.heap.size W1 w' → (w'.cell? ⟨w.heap.size, 0, none⟩ = some (.int .i64 n) ∧ w'.cell? ⟨w.heap.size, 1, none⟩ = some (.int .u8 h0) ∧ w'.cell? ⟨w.heap.size, 2, none⟩ = some (.int .u8 h1)) ∧ (w'.cell? ⟨w.heap.size + 1 + 1, 0, none⟩ = some (.int .i64 f) ∧ w'.cell? ⟨w.heap.size + 1 + 1, 1, none⟩ = some (.int .i64 t)) ∧ FoAt w' (w.heap.size + 1) ⟨c, s, m, x⟩ ∧ Below w.heap.size w w') := hid fun w' hb => by
    have e := (hb.block w.heap.size (by omega)).trans hh1
    exact ⟨⟨by rw [cell_of_row w' _ _ _ _ _ e]; rfl, by rw [cell_of_row w' _ _ _ _ _ e]; rfl, by rw [cell_of_row w' _ _ _ _ _ e]; rfl⟩, (hp1.below hb).cells, hf1.below hb (by omega), hB1.trans (hb.mono (by omega))⟩
  have HRT := hid (readTree_any n f t p W1 hn htn hs)
  have HOK : Hid (∀ ns, readR p.data.toList = some ns → ∀ d ∈ ns, d.ok = true) := hid fun ns ho => List.all_eq_true.1 (write_read _ _ ho).2.1
  generalize readR p.data.toList = o at HRT HOK ⊢
  by_cases h0e : rtE n f t o = 0
  · obtain ⟨ns, ho⟩ : ∃ ns, o = some ns := by
      cases o with
      | none => simp [rtE] at h0e
      | some ns => exact ⟨ns, rfl⟩
    subst ho
    have hok := HOK.out ns rfl
    have hlen : ns.length = (cov 0 n f t).length := by
      by_cases hl : ns.length = (cov 0 n f t).length
      · exact hl
      · simp [rtE, hl] at h0e
    have hcok : (cm 0 n f t ns).ok = true := by
      cases hc : (cm 0 n f t ns).ok with
      | true => rfl
      | false => simp [rtE, hlen, hc] at h0e
    have hcm := comes_cm f t n 0 n ns [] [] (by omega) (by omega) hn (by omega) hok (fun _ => ⟨rfl, rfl⟩) (by simp) (by simp)
    simp only [List.nil_append, List.append_nil] at hcm
    have hE : ckE n f t h0 h1 ⟨c, s, m, x⟩ (some ns) = if (dg (hdText n (cm 0 n f t ns)) : Int) / 256 ≠ h0 ∨ (dg (hdText n (cm 0 n f t ns)) : Int) % 256 ≠ h1 then 9 else if fz ((cov 0 n f t).zip ns) ≠ ⟨c, s, m, x⟩ then 10 else 0 := by
      simp only [ckE]
      rw [if_neg (by simpa using hlen), if_neg (by simp [hcok])]
    have HH : ∀ B M w', Hid (pfK B M (gL ((cov 0 n f t).zip ns)) w' → Calls Tryz.prog 35 #[.int .i64 n, cloV 118 B] w' fun e w2 => e = .returned (hdV n (dg (hdText n (cm 0 n f t ns)))) ∧ Below w'.heap.size w' w2) := fun B M w' => hid fun h => head_any (prf_src B M n _ hn) hn (Nat.le_refl _) hcm (Nd.mid_of_ok hcok) w' h
    have HP : ∀ B M w', Hid (pfK B M (gL ((cov 0 n f t).zip ns)) w' → Calls Tryz.prog 62 #[.int .i64 n, paV f t, cloV 118 B] w' fun e w2 => ∃ ao q cap, e = .returned (.tuple #[foV (fz ((cov 0 n f t).zip ns)), .slice ao q cap]) ∧ Below w'.heap.size w' w2) := fun B M w' => hid fun h => by
      have := prove_any 118 B n f t (pfK B M (gL ((cov 0 n f t).zip ns))) (ndP (cov 0 n f t) ns) (fun _ _ h hb => h.later hb) (fun p hp => (ndP_comes hlen hok p hp).2) hn htn
        (fun p hp W hW => by
          have hpm := cov_mem f t n 0 n (by omega) (by omega) p hp
          exact node_any (prf_src B M n _ hn) hn (ndP_comes hlen hok p hp).1 W hW hpm.2.1 hpm.2.2.1) w' h
      rw [ndP_fold hlen] at this
      refine this.mono ?_
      rintro e w2 ⟨v, he, hv, hb⟩
      obtain ⟨ao, cap, rfl⟩ := own_shape hv
      exact ⟨ao, _, cap, he, hb⟩
    have HPK : Hid (∀ B M w' w2, pfK B M (gL ((cov 0 n f t).zip ns)) w' → Below w'.heap.size w' w2 → pfK B M (gL ((cov 0 n f t).zip ns)) w2) := hid fun B M w' w2 h1 h2 => h1.later h2
    have HH0 := hid h0e
    rw [hE]
    rw [hW1] at HRT HCS
    clear hh1 hf1 hp1 hB1 hz1 hW1 h0e hE hcm hcok hlen hok HOK
    generalize dg (hdText n (cm 0 n f t ns)) = D at HH ⊢
    generalize fz ((cov 0 n f t).zip ns) = F at HP ⊢
    unfold paV at HRT
    unfold paV foV at HP
    unfold hdV at HH
    by_cases hd : (D : Int) / 256 = h0 ∧ (D : Int) % 256 = h1
    · have hd1 : decide ((D : Int) / 256 = h0) = true := decide_eq_true hd.1
      have hd2 : decide ((D : Int) % 256 = h1) = true := decide_eq_true hd.2
      rw [if_neg (by rintro (a | a); exact a hd.1; exact a hd.2)]
      clear hd
      by_cases hF : F.c = c ∧ F.s = s ∧ F.m = m ∧ F.x = x
      · have hFd : decide (F.c = c ∧ F.s = s ∧ F.m = m ∧ F.x = x) = true := decide_eq_true hF
        rw [if_neg (by intro a; apply a; obtain ⟨F1, F2, F3, F4⟩ := F; simp only at hF; obtain ⟨rfl, rfl, rfl, rfl⟩ := hF; rfl)]
        clear hF
        go_enter Tryz.func25, Tryz.ntmps25
        go_wp2_with (first | (go_at_call 50; refine (isSize_any _ _ _).mono ?_; rintro e w2 ⟨rfl, hw2⟩; rw [hz, hw2]; clear hw2 w2) | (go_at_call 61; refine (isRange_any _ _ _ _).mono ?_; rintro e w2 ⟨rfl, hw2⟩; rw [hr, hw2]; clear hw2 w2))
        refine HRT.out.mono ?_
        rintro e w2 ⟨hb2, hp⟩
        rw [if_pos HH0.out] at hp
        obtain ⟨ns', B, M, hns, rfl, hK⟩ := hp
        obtain rfl : ns = ns' := by simpa using hns
        have HK := hid hK
        have HC2 := hid (HCS.out w2 hb2)
        have HCW : Hid (∀ w', Below w2.heap.size w2 w' → (w'.cell? ⟨w.heap.size, 0, none⟩ = some (.int .i64 n) ∧ w'.cell? ⟨w.heap.size, 1, none⟩ = some (.int .u8 h0) ∧ w'.cell? ⟨w.heap.size, 2, none⟩ = some (.int .u8 h1)) ∧ (w'.cell? ⟨w.heap.size + 1 + 1, 0, none⟩ = some (.int .i64 f) ∧ w'.cell? ⟨w.heap.size + 1 + 1, 1, none⟩ = some (.int .i64 t)) ∧ FoAt w' (w.heap.size + 1) ⟨c, s, m, x⟩ ∧ Below w.heap.size w w') := hid fun w' hb => HCS.out w' (hb2.trans (hb.mono hb2.size))
        have hc2 := HC2.out.1
        clear hb2 HCS HRT hK hns HC2
        go_wp2
        go_region_held3 (fun w' => w'.cell? ⟨w.heap.size, 0, none⟩ = some (.int .i64 n) ∧ w'.cell? ⟨w.heap.size, 1, none⟩ = some (.int .u8 h0) ∧ w'.cell? ⟨w.heap.size, 2, none⟩ = some (.int .u8 h1))
          (first | exact hcn | go_keep)
          ((go_at_call 35; refine ((HH B M _).out (HPK.out B M w2 _ HK.out (Below.refl _ _).drew)).mono ?_; rintro e w3 ⟨rfl, hb3⟩; have hcn := (HCW.out w3 ((Below.refl _ _).drew.trans hb3)).1; have HB3 := hid ((Below.refl w2.heap.size w2).drew.trans hb3); clear hb3))
        all_goals
          have hcr := (HCW.out w3 HB3.out).2.1
          clear HH hc2
          go_wp2_with fail
          refine ((HP B M w3).out (HPK.out B M w2 w3 HK.out HB3.out)).mono ?_
          rintro e w4 ⟨ao, q, cap, rfl, hb4⟩
          have hB4 := HB3.out.trans (hb4.mono HB3.out.size)
          have hfa := (HCW.out w4 hB4).2.2.1
          have hf4 := (hfa.alloc (.cells #[.int .i64 F.c, .int .i64 F.s, .int .i64 F.m, .int .i64 F.x] 47)).cells
          have hlt4 := hfa.lt
          have HB4 := hid (HCW.out w4 hB4).2.2.2
          clear hb4 hB4 hfa HP HPK HK HCW hcn hcr HB3
          go_wp2
          go_ret
          exact ⟨rfl, HB4.out.alloc HB4.out.size _⟩
      · have hFd : decide (F.c = c ∧ F.s = s ∧ F.m = m ∧ F.x = x) = false := decide_eq_false hF
        rw [if_pos (by intro a; apply hF; rw [a]; exact ⟨rfl, rfl, rfl, rfl⟩)]
        clear hF
        go_enter Tryz.func25, Tryz.ntmps25
        go_wp2_with (first | (go_at_call 50; refine (isSize_any _ _ _).mono ?_; rintro e w2 ⟨rfl, hw2⟩; rw [hz, hw2]; clear hw2 w2) | (go_at_call 61; refine (isRange_any _ _ _ _).mono ?_; rintro e w2 ⟨rfl, hw2⟩; rw [hr, hw2]; clear hw2 w2))
        refine HRT.out.mono ?_
        rintro e w2 ⟨hb2, hp⟩
        rw [if_pos HH0.out] at hp
        obtain ⟨ns', B, M, hns, rfl, hK⟩ := hp
        obtain rfl : ns = ns' := by simpa using hns
        have HK := hid hK
        have HC2 := hid (HCS.out w2 hb2)
        have HCW : Hid (∀ w', Below w2.heap.size w2 w' → (w'.cell? ⟨w.heap.size, 0, none⟩ = some (.int .i64 n) ∧ w'.cell? ⟨w.heap.size, 1, none⟩ = some (.int .u8 h0) ∧ w'.cell? ⟨w.heap.size, 2, none⟩ = some (.int .u8 h1)) ∧ (w'.cell? ⟨w.heap.size + 1 + 1, 0, none⟩ = some (.int .i64 f) ∧ w'.cell? ⟨w.heap.size + 1 + 1, 1, none⟩ = some (.int .i64 t)) ∧ FoAt w' (w.heap.size + 1) ⟨c, s, m, x⟩ ∧ Below w.heap.size w w') := hid fun w' hb => HCS.out w' (hb2.trans (hb.mono hb2.size))
        have hc2 := HC2.out.1
        clear hb2 HCS HRT hK hns HC2
        go_wp2
        go_region_held3 (fun w' => w'.cell? ⟨w.heap.size, 0, none⟩ = some (.int .i64 n) ∧ w'.cell? ⟨w.heap.size, 1, none⟩ = some (.int .u8 h0) ∧ w'.cell? ⟨w.heap.size, 2, none⟩ = some (.int .u8 h1))
          (first | exact hcn | go_keep)
          ((go_at_call 35; refine ((HH B M _).out (HPK.out B M w2 _ HK.out (Below.refl _ _).drew)).mono ?_; rintro e w3 ⟨rfl, hb3⟩; have hcn := (HCW.out w3 ((Below.refl _ _).drew.trans hb3)).1; have HB3 := hid ((Below.refl w2.heap.size w2).drew.trans hb3); clear hb3))
        all_goals
          have hcr := (HCW.out w3 HB3.out).2.1
          clear HH hc2
          go_wp2_with fail
          refine ((HP B M w3).out (HPK.out B M w2 w3 HK.out HB3.out)).mono ?_
          rintro e w4 ⟨ao, q, cap, rfl, hb4⟩
          have hB4 := HB3.out.trans (hb4.mono HB3.out.size)
          have hfa := (HCW.out w4 hB4).2.2.1
          have hf4 := (hfa.alloc (.cells #[.int .i64 F.c, .int .i64 F.s, .int .i64 F.m, .int .i64 F.x] 47)).cells
          have hlt4 := hfa.lt
          have HB4 := hid (HCW.out w4 hB4).2.2.2
          clear hb4 hB4 hfa HP HPK HK HCW hcn hcr HB3
          go_wp2
          go_ret
          exact ⟨rfl, HB4.out.alloc HB4.out.size _⟩
    · have hd' : (decide ((D : Int) / 256 = h0) && decide ((D : Int) % 256 = h1)) = false := by simpa [Bool.and_eq_false_iff] using fun a => fun b => hd ⟨a, b⟩
      rw [if_pos (by by_cases a : (D : Int) / 256 = h0; exact .inr (fun b => hd ⟨a, b⟩); exact .inl a)]
      clear hd HP
      go_enter Tryz.func25, Tryz.ntmps25
      go_wp2_with (first | (go_at_call 50; refine (isSize_any _ _ _).mono ?_; rintro e w2 ⟨rfl, hw2⟩; rw [hz, hw2]; clear hw2 w2) | (go_at_call 61; refine (isRange_any _ _ _ _).mono ?_; rintro e w2 ⟨rfl, hw2⟩; rw [hr, hw2]; clear hw2 w2))
      refine HRT.out.mono ?_
      rintro e w2 ⟨hb2, hp⟩
      rw [if_pos HH0.out] at hp
      obtain ⟨ns', B, M, hns, rfl, hK⟩ := hp
      obtain rfl : ns = ns' := by simpa using hns
      have HK := hid hK
      have HC2 := hid (HCS.out w2 hb2)
      have HCW : Hid (∀ w', Below w2.heap.size w2 w' → (w'.cell? ⟨w.heap.size, 0, none⟩ = some (.int .i64 n) ∧ w'.cell? ⟨w.heap.size, 1, none⟩ = some (.int .u8 h0) ∧ w'.cell? ⟨w.heap.size, 2, none⟩ = some (.int .u8 h1)) ∧ Below w.heap.size w w') := hid fun w' hb => ⟨(HCS.out w' (hb2.trans (hb.mono hb2.size))).1, (HCS.out w' (hb2.trans (hb.mono hb2.size))).2.2.2⟩
      have hc2 := HC2.out.1
      clear hb2 HCS HRT hK hns
      go_wp2
      go_region_held3 (fun w' => w'.cell? ⟨w.heap.size, 0, none⟩ = some (.int .i64 n) ∧ w'.cell? ⟨w.heap.size, 1, none⟩ = some (.int .u8 h0) ∧ w'.cell? ⟨w.heap.size, 2, none⟩ = some (.int .u8 h1))
        (first | exact hcn | go_keep)
        ((go_at_call 35; refine ((HH B M _).out (HPK.out B M w2 _ HK.out (Below.refl _ _).drew)).mono ?_; rintro e w3 ⟨rfl, hb3⟩; have hcn := (HCW.out w3 ((Below.refl _ _).drew.trans hb3)).1; have hBn := (HCW.out w3 ((Below.refl _ _).drew.trans hb3)).2; clear hb3))
      all_goals go_wp2
      all_goals go_ret
      all_goals exact ⟨rfl, hBn⟩
  · have HCK := hid (ckE_rt (h0 := h0) (h1 := h1) (claim := ⟨c, s, m, x⟩) h0e)
    have hne : (rtE n f t o == 0) = false := by simpa using h0e
    have HH0 := hid h0e
    rw [hW1] at HRT HCS
    clear hh1 hf1 hp1 hB1 hz1 hW1 h0e
    unfold paV at HRT
    go_enter Tryz.func25, Tryz.ntmps25
    go_wp2_with (first | (go_at_call 50; refine (isSize_any _ _ _).mono ?_; rintro e w2 ⟨rfl, hw2⟩; rw [hz, hw2]; clear hw2 w2) | (go_at_call 61; refine (isRange_any _ _ _ _).mono ?_; rintro e w2 ⟨rfl, hw2⟩; rw [hr, hw2]; clear hw2 w2))
    refine HRT.out.mono ?_
    rintro e w2 ⟨hb2, hp⟩
    rw [if_neg HH0.out] at hp
    subst hp
    have HB := hid (HCS.out w2 hb2).2.2.2
    clear hb2 HCS HRT
    go_wp2
    go_ret
    exact ⟨by rw [HCK.out]; rfl, HB.out⟩
end Go.Proofs.YtogmdaopfnmobaaGreat

/- What CheckGrown does. -/
namespace Go.Proofs.YtogmdaopfnmobaaGreat
open Go.RowKit
attribute [local go_sem ↓] run_neq_digest
attribute [local go_sem ↓] run_field_root
theorem heap_twoA (w : World) (o1 o2 : Obj) (n : Nat) (hn : n = w.heap.size) : ((w.alloc o1).alloc o2).heap[n]? = some o1 := by
  subst hn
  have : w.heap.size < (w.heap.push o1).size := by simp
  show ((w.heap.push o1).push o2)[w.heap.size]? = _
  rw [Array.getElem?_push, if_neg (by simp), Array.getElem?_push, if_pos rfl]
theorem heap_twoB (w : World) (o1 o2 : Obj) (n : Nat) (hn : n = w.heap.size) : ((w.alloc o1).alloc o2).heap[n + 1]? = some o2 := by
  subst hn
  show ((w.heap.push o1).push o2)[w.heap.size + 1]? = _
  rw [Array.getElem?_push, if_pos (by simp)]
def cgE (o n : Nat) (a0 a1 b0 b1 : Int) (q : Option (List Nd)) : Int :=
  match q with
  | none => 7
  | some ns =>
    if ns.length ≠ (cov 0 n 0 o).length then 8
    else if (cm 0 n 0 o ns).ok = false then 6
    else if ((dg (hdText n (cm 0 n 0 o ns)) : Int) / 256 ≠ b0 ∨ (dg (hdText n (cm 0 n 0 o ns)) : Int) % 256 ≠ b1) ∨ ((dg (hdText o (bgn 0 n o ns)) : Int) / 256 ≠ a0 ∨ (dg (hdText o (bgn 0 n o ns)) : Int) % 256 ≠ a1) then 9
    else 0
theorem cgE_rt {o n : Nat} {a0 a1 b0 b1 : Int} {q : Option (List Nd)} (h : rtE n 0 o q ≠ 0) : cgE o n a0 a1 b0 b1 q = rtE n 0 o q := by
  unfold cgE rtE at *
  cases q with
  | none => rfl
  | some ns =>
    simp only at h ⊢
    by_cases hl : ns.length = (cov 0 n 0 o).length
    · rw [if_pos hl] at h ⊢
      rw [if_neg (fun c => c hl)]
      cases hc : (cm 0 n 0 o ns).ok with
      | true => rw [hc] at h; simp at h
      | false => simp
    · rw [if_neg hl, if_pos hl]
set_option maxHeartbeats 2000000 in
set_option maxRecDepth 100000 in
theorem checkGrown_range (o n a0 a1 b0 b1 : Int) (p : ByteArray) (w : World) (hbad : o < 1 ∨ n < o ∨ 64 < n) :
    Calls Tryz.prog 18 #[.agg #[.int .i64 o, .int .u8 a0, .int .u8 a1], .agg #[.int .i64 n, .int .u8 b0, .int .u8 b1], .string p] w fun e w' => e = .returned (.int .i64 5) ∧ Below w.heap.size w w' := by
  have fin : ∀ o1 o2, Below w.heap.size w ((w.alloc o1).alloc o2) := fun o1 o2 => ((Below.refl _ _).alloc (Nat.le_refl _) _).alloc (by simp) _
  by_cases c1 : o < 1
  · clear hbad
    go_enter Tryz.func18, Tryz.ntmps18
    go_wp2
    go_ret
    exact ⟨rfl, fin _ _⟩
  · by_cases c2 : n < o
    · clear hbad
      go_enter Tryz.func18, Tryz.ntmps18
      go_wp2
      go_ret
      exact ⟨rfl, fin _ _⟩
    · have c3 : 64 < n := by omega
      clear hbad
      go_enter Tryz.func18, Tryz.ntmps18
      go_wp2
      go_ret
      exact ⟨rfl, fin _ _⟩
set_option maxHeartbeats 4000000 in
set_option maxRecDepth 100000 in
theorem checkGrown_good (o n : Nat) (a0 a1 b0 b1 : Int) (p : ByteArray) (w : World) (h1 : 1 ≤ o) (h2 : o ≤ n) (h3 : n ≤ 64) (hs : p.size ≤ maxLen) :
    Calls Tryz.prog 18 #[.agg #[.int .i64 o, .int .u8 a0, .int .u8 a1], .agg #[.int .i64 n, .int .u8 b0, .int .u8 b1], .string p] w fun e w' => e = .returned (.int .i64 (cgE o n a0 a1 b0 b1 (readR p.data.toList))) ∧ Below w.heap.size w w' := by
  have n0 : ¬ (o : Int) < 1 := by omega
  have n1 : ¬ (n : Int) < o := by omega
  have n2 : ¬ 64 < (n : Int) := by omega
  obtain ⟨W1, hW1⟩ : ∃ W1, W1 = (w.alloc (.cells #[.int .i64 o, .int .u8 a0, .int .u8 a1] 58)).alloc (.cells #[.int .i64 n, .int .u8 b0, .int .u8 b1] 58) := ⟨_, rfl⟩
  have hz1 : W1.heap.size = w.heap.size + 2 := by rw [hW1]; simp
  have hB1 : Below w.heap.size w W1 := by rw [hW1]; exact (((Below.refl _ _).alloc (Nat.le_refl _) _).alloc (by simp) _)
  have hh0 : W1.heap[w.heap.size]? = some (.cells #[.int .i64 o, .int .u8 a0, .int .u8 a1] 58 (0, 0)) := by rw [hW1]; exact heap_twoA w _ _ _ rfl
  have hh1 : W1.heap[w.heap.size + 1]? = some (.cells #[.int .i64 n, .int .u8 b0, .int .u8 b1] 58 (0, 0)) := by rw [hW1]; exact heap_twoB w _ _ _ rfl
  have HCS : Hid (∀ w', Below W1.heap.size W1 w' → (w'.cell? ⟨w.heap.size, 0, none⟩ = some (.int .i64 o) ∧ w'.cell? ⟨w.heap.size, 1, none⟩ = some (.int .u8 a0) ∧ w'.cell? ⟨w.heap.size, 2, none⟩ = some (.int .u8 a1) ∧ w'.cell? ⟨w.heap.size + 1, 0, none⟩ = some (.int .i64 n) ∧ w'.cell? ⟨w.heap.size + 1, 1, none⟩ = some (.int .u8 b0) ∧ w'.cell? ⟨w.heap.size + 1, 2, none⟩ = some (.int .u8 b1)) ∧ Below w.heap.size w w') := hid fun w' hb => by
    have e := (hb.block w.heap.size (by omega)).trans hh0
    have e' := (hb.block (w.heap.size + 1) (by omega)).trans hh1
    exact ⟨⟨by rw [cell_of_row w' _ _ _ _ _ e]; rfl, by rw [cell_of_row w' _ _ _ _ _ e]; rfl, by rw [cell_of_row w' _ _ _ _ _ e]; rfl, by rw [cell_of_row w' _ _ _ _ _ e']; rfl, by rw [cell_of_row w' _ _ _ _ _ e']; rfl, by rw [cell_of_row w' _ _ _ _ _ e']; rfl⟩, hB1.trans (hb.mono (by omega))⟩
  have HRT := hid (readTree_any n 0 o p W1 h3 h2 hs)
  have HOK : Hid (∀ ns, readR p.data.toList = some ns → ∀ d ∈ ns, d.ok = true) := hid fun ns ho => List.all_eq_true.1 (write_read _ _ ho).2.1
  generalize readR p.data.toList = q at HRT HOK ⊢
  by_cases h0e : rtE n 0 o q = 0
  · obtain ⟨ns, ho⟩ : ∃ ns, q = some ns := by
      cases q with
      | none => simp [rtE] at h0e
      | some ns => exact ⟨ns, rfl⟩
    subst ho
    have hok := HOK.out ns rfl
    have hlen : ns.length = (cov 0 n 0 o).length := by
      by_cases hl : ns.length = (cov 0 n 0 o).length
      · exact hl
      · simp [rtE, hl] at h0e
    have hcok : (cm 0 n 0 o ns).ok = true := by
      cases hc : (cm 0 n 0 o ns).ok with
      | true => rfl
      | false => simp [rtE, hlen, hc] at h0e
    have hbok : (bgn 0 n o ns).ok = true := by
      have := bgz_ok hlen hok hcok 0
      rw [List.drop_zero, bgz_whole h1 h2 hlen] at this
      exact this
    have hcm := comes_cm 0 o n 0 n ns [] [] (by omega) (by omega) h3 (by omega) hok (fun _ => ⟨rfl, rfl⟩) (by simp) (by simp)
    have hcb := comes_bgn o n 0 n ns [] [] (by omega) (by omega) h2 h3 (by omega) hok (by simp) (by simp)
    simp only [List.nil_append, List.append_nil] at hcm hcb
    have hE : cgE o n a0 a1 b0 b1 (some ns) = if ((dg (hdText n (cm 0 n 0 o ns)) : Int) / 256 ≠ b0 ∨ (dg (hdText n (cm 0 n 0 o ns)) : Int) % 256 ≠ b1) ∨ ((dg (hdText o (bgn 0 n o ns)) : Int) / 256 ≠ a0 ∨ (dg (hdText o (bgn 0 n o ns)) : Int) % 256 ≠ a1) then 9 else 0 := by
      simp only [cgE]
      rw [if_neg (by simpa using hlen), if_neg (by simp [hcok])]
    have HH : ∀ B M w', Hid (pfK B M (gL ((cov 0 n 0 o).zip ns)) w' → Calls Tryz.prog 35 #[.int .i64 n, cloV 118 B] w' fun e w2 => e = .returned (hdV n (dg (hdText n (cm 0 n 0 o ns)))) ∧ Below w'.heap.size w' w2) := fun B M w' => hid fun h => head_any (prf_src B M n _ h3) h3 (Nat.le_refl _) hcm (Nd.mid_of_ok hcok) w' h
    have HG : ∀ B M w', Hid (pfK B M (gL ((cov 0 n 0 o).zip ns)) w' → Calls Tryz.prog 35 #[.int .i64 o, cloV 118 B] w' fun e w2 => e = .returned (hdV o (dg (hdText o (bgn 0 n o ns)))) ∧ Below w'.heap.size w' w2) := fun B M w' => hid fun h => head_any (prf_src B M n _ h3) h3 h2 hcb (Nd.mid_of_ok hbok) w' h
    have HPK : Hid (∀ B M w' w2, pfK B M (gL ((cov 0 n 0 o).zip ns)) w' → Below w'.heap.size w' w2 → pfK B M (gL ((cov 0 n 0 o).zip ns)) w2) := hid fun B M w' w2 h1 h2 => h1.later h2
    have HH0 := hid h0e
    rw [hE]
    rw [hW1] at HRT HCS
    clear hh0 hh1 hB1 hz1 hW1 h0e hE hcm hcb hcok hbok hlen hok HOK
    generalize dg (hdText n (cm 0 n 0 o ns)) = D at HH ⊢
    generalize dg (hdText o (bgn 0 n o ns)) = G at HG ⊢
    unfold paV at HRT
    unfold hdV at HH HG
    by_cases hd : (D : Int) / 256 = b0 ∧ (D : Int) % 256 = b1
    · have hd1 : decide ((D : Int) / 256 = b0) = true := decide_eq_true hd.1
      have hd2 : decide ((D : Int) % 256 = b1) = true := decide_eq_true hd.2
      by_cases hg : (G : Int) / 256 = a0 ∧ (G : Int) % 256 = a1
      · have hg1 : decide ((G : Int) / 256 = a0) = true := decide_eq_true hg.1
        have hg2 : decide ((G : Int) % 256 = a1) = true := decide_eq_true hg.2
        rw [if_neg (by rintro ((x | x) | (x | x)); exact x hd.1; exact x hd.2; exact x hg.1; exact x hg.2)]
        clear hd hg
        go_enter Tryz.func18, Tryz.ntmps18
        go_wp2_with fail
        refine HRT.out.mono ?_
        rintro e w2 ⟨hb2, hp⟩
        rw [if_pos HH0.out] at hp
        obtain ⟨ns', B, M, hns, rfl, hK⟩ := hp
        obtain rfl : ns = ns' := by simpa using hns
        have HK := hid hK
        have HCW : Hid (∀ w', Below w2.heap.size w2 w' → (w'.cell? ⟨w.heap.size, 0, none⟩ = some (.int .i64 o) ∧ w'.cell? ⟨w.heap.size, 1, none⟩ = some (.int .u8 a0) ∧ w'.cell? ⟨w.heap.size, 2, none⟩ = some (.int .u8 a1) ∧ w'.cell? ⟨w.heap.size + 1, 0, none⟩ = some (.int .i64 n) ∧ w'.cell? ⟨w.heap.size + 1, 1, none⟩ = some (.int .u8 b0) ∧ w'.cell? ⟨w.heap.size + 1, 2, none⟩ = some (.int .u8 b1)) ∧ Below w.heap.size w w') := hid fun w' hb => HCS.out w' (hb2.trans (hb.mono hb2.size))
        have hc2 := (HCS.out w2 hb2).1
        clear hb2 HCS HRT hK hns
        go_wp2
        go_region_held3 (fun w' => w'.cell? ⟨w.heap.size, 0, none⟩ = some (.int .i64 o) ∧ w'.cell? ⟨w.heap.size, 1, none⟩ = some (.int .u8 a0) ∧ w'.cell? ⟨w.heap.size, 2, none⟩ = some (.int .u8 a1) ∧ w'.cell? ⟨w.heap.size + 1, 0, none⟩ = some (.int .i64 n) ∧ w'.cell? ⟨w.heap.size + 1, 1, none⟩ = some (.int .u8 b0) ∧ w'.cell? ⟨w.heap.size + 1, 2, none⟩ = some (.int .u8 b1))
          (first | exact hcm | exact hcn | go_keep)
          (first
            | (have HBx := HB3; go_at_call 35; refine ((HG B M w3).out (HPK.out B M w2 w3 HK.out HB3.out)).mono ?_; rintro e w4 ⟨rfl, hb4⟩; have hcm := (HCW.out w4 (HB3.out.trans (hb4.mono HB3.out.size))).1; have hBm := (HCW.out w4 (HB3.out.trans (hb4.mono HB3.out.size))).2; clear hb4)
            | (go_at_call 35; refine ((HH B M _).out (HPK.out B M w2 _ HK.out (Below.refl _ _).drew)).mono ?_; rintro e w3 ⟨rfl, hb3⟩; have hcn := (HCW.out w3 ((Below.refl _ _).drew.trans hb3)).1; have HB3 := hid ((Below.refl w2.heap.size w2).drew.trans hb3); clear hb3))
        all_goals go_wp2
        all_goals go_ret
        all_goals exact ⟨rfl, hBm⟩
      · have hg' : (decide ((G : Int) / 256 = a0) && decide ((G : Int) % 256 = a1)) = false := by simpa [Bool.and_eq_false_iff] using fun x => fun y => hg ⟨x, y⟩
        rw [if_pos (.inr (by by_cases x : (G : Int) / 256 = a0; exact .inr (fun y => hg ⟨x, y⟩); exact .inl x))]
        clear hd hg
        go_enter Tryz.func18, Tryz.ntmps18
        go_wp2_with fail
        refine HRT.out.mono ?_
        rintro e w2 ⟨hb2, hp⟩
        rw [if_pos HH0.out] at hp
        obtain ⟨ns', B, M, hns, rfl, hK⟩ := hp
        obtain rfl : ns = ns' := by simpa using hns
        have HK := hid hK
        have HCW : Hid (∀ w', Below w2.heap.size w2 w' → (w'.cell? ⟨w.heap.size, 0, none⟩ = some (.int .i64 o) ∧ w'.cell? ⟨w.heap.size, 1, none⟩ = some (.int .u8 a0) ∧ w'.cell? ⟨w.heap.size, 2, none⟩ = some (.int .u8 a1) ∧ w'.cell? ⟨w.heap.size + 1, 0, none⟩ = some (.int .i64 n) ∧ w'.cell? ⟨w.heap.size + 1, 1, none⟩ = some (.int .u8 b0) ∧ w'.cell? ⟨w.heap.size + 1, 2, none⟩ = some (.int .u8 b1)) ∧ Below w.heap.size w w') := hid fun w' hb => HCS.out w' (hb2.trans (hb.mono hb2.size))
        have hc2 := (HCS.out w2 hb2).1
        clear hb2 HCS HRT hK hns
        go_wp2
        go_region_held3 (fun w' => w'.cell? ⟨w.heap.size, 0, none⟩ = some (.int .i64 o) ∧ w'.cell? ⟨w.heap.size, 1, none⟩ = some (.int .u8 a0) ∧ w'.cell? ⟨w.heap.size, 2, none⟩ = some (.int .u8 a1) ∧ w'.cell? ⟨w.heap.size + 1, 0, none⟩ = some (.int .i64 n) ∧ w'.cell? ⟨w.heap.size + 1, 1, none⟩ = some (.int .u8 b0) ∧ w'.cell? ⟨w.heap.size + 1, 2, none⟩ = some (.int .u8 b1))
          (first | exact hcm | exact hcn | go_keep)
          (first
            | (have HBx := HB3; go_at_call 35; refine ((HG B M w3).out (HPK.out B M w2 w3 HK.out HB3.out)).mono ?_; rintro e w4 ⟨rfl, hb4⟩; have hcm := (HCW.out w4 (HB3.out.trans (hb4.mono HB3.out.size))).1; have hBm := (HCW.out w4 (HB3.out.trans (hb4.mono HB3.out.size))).2; clear hb4)
            | (go_at_call 35; refine ((HH B M _).out (HPK.out B M w2 _ HK.out (Below.refl _ _).drew)).mono ?_; rintro e w3 ⟨rfl, hb3⟩; have hcn := (HCW.out w3 ((Below.refl _ _).drew.trans hb3)).1; have HB3 := hid ((Below.refl w2.heap.size w2).drew.trans hb3); clear hb3))
        all_goals go_wp2
        all_goals go_ret
        all_goals exact ⟨rfl, hBm⟩
    · have hd' : (decide ((D : Int) / 256 = b0) && decide ((D : Int) % 256 = b1)) = false := by simpa [Bool.and_eq_false_iff] using fun x => fun y => hd ⟨x, y⟩
      rw [if_pos (.inl (by by_cases x : (D : Int) / 256 = b0; exact .inr (fun y => hd ⟨x, y⟩); exact .inl x))]
      clear hd HG
      go_enter Tryz.func18, Tryz.ntmps18
      go_wp2_with fail
      refine HRT.out.mono ?_
      rintro e w2 ⟨hb2, hp⟩
      rw [if_pos HH0.out] at hp
      obtain ⟨ns', B, M, hns, rfl, hK⟩ := hp
      obtain rfl : ns = ns' := by simpa using hns
      have HK := hid hK
      have HCW : Hid (∀ w', Below w2.heap.size w2 w' → (w'.cell? ⟨w.heap.size, 0, none⟩ = some (.int .i64 o) ∧ w'.cell? ⟨w.heap.size, 1, none⟩ = some (.int .u8 a0) ∧ w'.cell? ⟨w.heap.size, 2, none⟩ = some (.int .u8 a1) ∧ w'.cell? ⟨w.heap.size + 1, 0, none⟩ = some (.int .i64 n) ∧ w'.cell? ⟨w.heap.size + 1, 1, none⟩ = some (.int .u8 b0) ∧ w'.cell? ⟨w.heap.size + 1, 2, none⟩ = some (.int .u8 b1)) ∧ Below w.heap.size w w') := hid fun w' hb => HCS.out w' (hb2.trans (hb.mono hb2.size))
      have hc2 := (HCS.out w2 hb2).1
      clear hb2 HCS HRT hK hns
      go_wp2
      refine wp_region_held_drew (S := fun w' => w'.cell? ⟨w.heap.size, 0, none⟩ = some (.int .i64 o) ∧ w'.cell? ⟨w.heap.size, 1, none⟩ = some (.int .u8 a0) ∧ w'.cell? ⟨w.heap.size, 2, none⟩ = some (.int .u8 a1) ∧ w'.cell? ⟨w.heap.size + 1, 0, none⟩ = some (.int .i64 n) ∧ w'.cell? ⟨w.heap.size + 1, 1, none⟩ = some (.int .u8 b0) ∧ w'.cell? ⟨w.heap.size + 1, 2, none⟩ = some (.int .u8 b1)) (by kernel_rfl) ?_ (fun hHeld => ?_)
      · exact (HCW.out _ (Below.refl _ _).drew).1
      refine wpAnyH_take (i := 0) (oi := _) (v := ?_) rfl (by kernel_rfl) (by kernel_rfl) (by kernel_rfl) (fun _ _ _ h => h) (Or.inl ⟨by rfl, ?_⟩) (by assumption) ?_
      rotate_left
      ·
        intro w' hSw
        try dsimp only at hSw
        go_simp
        try with_reducible rfl
      change wpAnyH _ _ _ _ _ _ _ (Act.put _ (some 37) _) _
      simp only [Act.put, List.setIfInBounds_toArray, List.set_cons_zero, List.set_cons_succ]
      refine wpAnyH_take (i := 2) (oi := _) (v := ?_) rfl (by kernel_rfl) (by kernel_rfl) (by kernel_rfl) (fun _ _ _ h => h) (Or.inl ⟨by rfl, ?_⟩) (by assumption) ?_
      rotate_left
      ·
        intro w' hSw
        try dsimp only at hSw
        go_simp
        try with_reducible rfl
      change wpAnyH _ _ _ _ _ _ _ (Act.put _ (some 39) _) _
      simp only [Act.put, List.setIfInBounds_toArray, List.set_cons_zero, List.set_cons_succ]
      refine wpAnyH_take (i := 5) (oi := _) (v := ?_) rfl (by kernel_rfl) (by kernel_rfl) (by kernel_rfl) (fun _ _ _ h => h) (Or.inl ⟨by rfl, ?_⟩) (by assumption) ?_
      rotate_left
      ·
        intro w' hSw
        try dsimp only at hSw
        go_simp
        try with_reducible rfl
      change wpAnyH _ _ _ _ _ _ _ (Act.put _ (some 42) _) _
      simp only [Act.put, List.setIfInBounds_toArray, List.set_cons_zero, List.set_cons_succ]
      refine wpAnyH_take (i := 1) (oi := _) (v := ?_) rfl (by kernel_rfl) (by kernel_rfl) (by kernel_rfl) (fun _ _ _ h => h) (Or.inl ⟨by rfl, ?_⟩) (by assumption) ?_
      rotate_left
      ·
        intro w' hSw
        try dsimp only at hSw
        go_simp
        try with_reducible rfl
      change wpAnyH _ _ _ _ _ _ _ (Act.put _ (some 38) _) _
      simp only [Act.put, List.setIfInBounds_toArray, List.set_cons_zero, List.set_cons_succ]
      refine wpAnyH_take (i := 6) (oi := _) (v := ?_) rfl (by kernel_rfl) (by kernel_rfl) (by kernel_rfl) (fun _ _ _ h => h) (Or.inl ⟨by rfl, ?_⟩) (by assumption) ?_
      rotate_left
      ·
        intro w' hSw
        try dsimp only at hSw
        go_simp
        try with_reducible rfl
      change wpAnyH _ _ _ _ _ _ _ (Act.put _ (some 43) _) _
      simp only [Act.put, List.setIfInBounds_toArray, List.set_cons_zero, List.set_cons_succ]
      refine wpAnyH_ready (rs := [3]) (by kernel_rfl) (by simp) ?_
      refine AllReadyH.cons (o := _) rfl (fun K hK => ?_) AllReadyH.nil
      go_simp
      go_at_call 35
      refine ((HH B M _).out (HPK.out B M w2 _ HK.out (Below.refl _ _).drew)).mono ?_
      rintro e w3 ⟨rfl, hb3⟩
      have hcn := (HCW.out w3 ((Below.refl _ _).drew.trans hb3)).1
      have hBm := (HCW.out w3 ((Below.refl _ _).drew.trans hb3)).2
      clear hb3
      refine hK.out _ _ hcn (fun hHeld => ?_)
      clear hK K
      refine wpAnyH_take (i := 4) (oi := _) (v := ?_) rfl (by kernel_rfl) (by kernel_rfl) (by kernel_rfl) (fun _ _ _ h => h) (Or.inl ⟨by rfl, ?_⟩) (by assumption) ?_
      rotate_left
      ·
        intro w' hSw
        try dsimp only at hSw
        go_simp
        try with_reducible rfl
      change wpAnyH _ _ _ _ _ _ _ (Act.put _ (some 41) _) _
      simp only [Act.put, List.setIfInBounds_toArray, List.set_cons_zero, List.set_cons_succ]
      refine wpAnyH_take (i := 7) (oi := _) (v := ?_) rfl (by kernel_rfl) (by kernel_rfl) (by kernel_rfl) (fun _ _ _ h => h) (Or.inl ⟨by rfl, ?_⟩) (by assumption) ?_
      rotate_left
      ·
        intro w' hSw
        try dsimp only at hSw
        go_simp
        try with_reducible rfl
      change wpAnyH _ _ _ _ _ _ _ (Act.put _ (some 44) _) _
      simp only [Act.put, List.setIfInBounds_toArray, List.set_cons_zero, List.set_cons_succ]
      refine wpAnyH_take (i := 8) (oi := _) (v := ?_) rfl (by kernel_rfl) (by kernel_rfl) (by kernel_rfl) (fun _ _ _ h => h) (Or.inl ⟨by rfl, ?_⟩) (by assumption) ?_
      rotate_left
      ·
        intro w' hSw
        try dsimp only at hSw
        go_simp
        try with_reducible rfl
      change wpAnyH _ _ _ _ _ _ _ (Act.put _ (some 45) _) _
      simp only [Act.put, List.setIfInBounds_toArray, List.set_cons_zero, List.set_cons_succ]
      refine wpAnyH_take (i := 9) (oi := _) (v := undef) rfl (by kernel_rfl) (by kernel_rfl) (by kernel_rfl) (fun _ _ _ h => h) (Or.inr ⟨by rfl, rfl⟩) (by assumption) ?_
      change wpAnyH _ _ _ _ _ _ _ (Act.put _ (some 46) _) _
      simp only [Act.put, List.setIfInBounds_toArray, List.set_cons_zero, List.set_cons_succ]
      refine wpAnyH_take (i := 11) (oi := _) (v := undef) rfl (by kernel_rfl) (by kernel_rfl) (by kernel_rfl) (fun _ _ _ h => h) (Or.inr ⟨by rfl, rfl⟩) (by assumption) ?_
      change wpAnyH _ _ _ _ _ _ _ (Act.put _ (some 48) _) _
      simp only [Act.put, List.setIfInBounds_toArray, List.set_cons_zero, List.set_cons_succ]
      refine wpAnyH_take (i := 14) (oi := _) (v := undef) rfl (by kernel_rfl) (by kernel_rfl) (by kernel_rfl) (fun _ _ _ h => h) (Or.inr ⟨by rfl, rfl⟩) (by assumption) ?_
      change wpAnyH _ _ _ _ _ _ _ (Act.put _ (some 51) _) _
      simp only [Act.put, List.setIfInBounds_toArray, List.set_cons_zero, List.set_cons_succ]
      refine wpAnyH_take (i := 10) (oi := _) (v := undef) rfl (by kernel_rfl) (by kernel_rfl) (by kernel_rfl) (fun _ _ _ h => h) (Or.inr ⟨by rfl, rfl⟩) (by assumption) ?_
      change wpAnyH _ _ _ _ _ _ _ (Act.put _ (some 47) _) _
      simp only [Act.put, List.setIfInBounds_toArray, List.set_cons_zero, List.set_cons_succ]
      refine wpAnyH_take (i := 15) (oi := _) (v := undef) rfl (by kernel_rfl) (by kernel_rfl) (by kernel_rfl) (fun _ _ _ h => h) (Or.inr ⟨by rfl, rfl⟩) (by assumption) ?_
      change wpAnyH _ _ _ _ _ _ _ (Act.put _ (some 52) _) _
      simp only [Act.put, List.setIfInBounds_toArray, List.set_cons_zero, List.set_cons_succ]
      refine wpAnyH_take (i := 12) (oi := _) (v := undef) rfl (by kernel_rfl) (by kernel_rfl) (by kernel_rfl) (fun _ _ _ h => h) (Or.inr ⟨by rfl, rfl⟩) (by assumption) ?_
      change wpAnyH _ _ _ _ _ _ _ (Act.put _ (some 49) _) _
      simp only [Act.put, List.setIfInBounds_toArray, List.set_cons_zero, List.set_cons_succ]
      refine wpAnyH_take (i := 13) (oi := _) (v := undef) rfl (by kernel_rfl) (by kernel_rfl) (by kernel_rfl) (fun _ _ _ h => h) (Or.inr ⟨by rfl, rfl⟩) (by assumption) ?_
      change wpAnyH _ _ _ _ _ _ _ (Act.put _ (some 50) _) _
      simp only [Act.put, List.setIfInBounds_toArray, List.set_cons_zero, List.set_cons_succ]
      refine wpAnyH_take (i := 16) (oi := _) (v := undef) rfl (by kernel_rfl) (by kernel_rfl) (by kernel_rfl) (fun _ _ _ h => h) (Or.inr ⟨by rfl, rfl⟩) (by assumption) ?_
      change wpAnyH _ _ _ _ _ _ _ (Act.put _ (some 53) _) _
      simp only [Act.put, List.setIfInBounds_toArray, List.set_cons_zero, List.set_cons_succ]
      refine wpAnyH_take (i := 17) (oi := _) (v := ?_) rfl (by kernel_rfl) (by kernel_rfl) (by kernel_rfl) (fun _ _ _ h => h) (Or.inl ⟨by rfl, ?_⟩) (by assumption) ?_
      rotate_left
      ·
        intro w' hSw
        try dsimp only at hSw
        go_simp
        try with_reducible rfl
      change wpAnyH _ _ _ _ _ _ _ (Act.put _ (some 54) _) _
      simp only [Act.put, List.setIfInBounds_toArray, List.set_cons_zero, List.set_cons_succ]
      refine wpAnyH_done (by kernel_rfl) ?_ _
      go_wp2
      go_ret
      exact ⟨rfl, hBm⟩
  · have HCK := hid (cgE_rt (a0 := a0) (a1 := a1) (b0 := b0) (b1 := b1) h0e)
    have hne : (rtE n 0 o q == 0) = false := by simpa using h0e
    have HH0 := hid h0e
    rw [hW1] at HRT HCS
    clear hh0 hh1 hB1 hz1 hW1 h0e
    unfold paV at HRT
    go_enter Tryz.func18, Tryz.ntmps18
    go_wp2_with fail
    refine HRT.out.mono ?_
    rintro e w2 ⟨hb2, hp⟩
    rw [if_neg HH0.out] at hp
    subst hp
    have HB := hid (HCS.out w2 hb2).2
    clear hb2 HCS HRT
    go_wp2
    go_ret
    exact ⟨by rw [HCK.out]; rfl, HB.out⟩
end Go.Proofs.YtogmdaopfnmobaaGreat

