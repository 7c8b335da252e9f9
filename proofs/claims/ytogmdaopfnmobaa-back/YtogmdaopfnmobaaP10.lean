/- What is said of rows of nodes, for all laws. -/
import Derived.Lib.SliceRun
import Derived.Test.YtogmdaopfnmobaaP09
namespace Go.Proofs.Ytogmdaopfnmobaa
open Go.RowKit

/-- A row of the call's own reads as its nodes. -/
theorem Nodes.own {w : World} {base : Nat} {v : Value} {l : List Nd} (h : w.ownsRow base 33 6 v l.length (l.flatMap Nd.cells)) (hl : l.length ≤ 1000) : Nodes w w.heap.size v l := by
  constructor
  have hfl : ∀ (l : List Nd) (i j : Nat) (hi : i < l.length) (hj : j < 6), (l.flatMap Nd.cells)[i * 6 + j]? = some ((l[i]).cells[j]'(by simp [Nd.cells]; omega)) := by
    intro l
    induction l with
    | nil => intro i j hi; simp at hi
    | cons d r ih =>
      intro i j hi hj
      have hd : d.cells.length = 6 := rfl
      cases i with
      | zero =>
        simp only [List.flatMap_cons, Nat.zero_mul, Nat.zero_add, List.getElem_cons_zero]
        rw [List.getElem?_append_left (by omega), List.getElem?_eq_getElem]
      | succ i =>
        simp only [List.flatMap_cons, List.getElem_cons_succ]
        rw [List.getElem?_append_right (by omega), hd, show (i + 1) * 6 + j - 6 = i * 6 + j from by omega]
        exact ih i j (by simpa using hi) hj
  rcases h.2 with ⟨rfl, h0⟩ | ⟨g, cap, cur, rfl, _, hg, _, _, _, ht⟩
  · exact ⟨none, 0, by rw [h0], by omega, fun i hi => by omega⟩
  · refine ⟨_, cap, rfl, by omega, fun i hi => ⟨g, 0, rfl, (Array.getElem?_eq_some_iff.1 hg).1, fun j hj => ?_⟩⟩
    have := h.cells (g := g) rfl (i * 6 + j) _ (hfl l i j hi hj)
    rw [← this]
    unfold Addr.add
    split
    · simp_all
    · simp

theorem Nodes.below {w w' : World} {B : Nat} {v : Value} {l : List Nd} (h : Nodes w B v l) (hb : Below B w w') : Nodes w' B v l := by
  obtain ⟨ao, cap, hv, hm, hc⟩ := h.ex
  refine ⟨ao, cap, hv, hm, fun i hi => ?_⟩
  obtain ⟨b, off, ha, hB, hcs⟩ := hc i hi
  exact ⟨b, off, ha, hB, fun j hj => (hb.cell (p := ⟨b, off + i * 6 + j, none⟩) hB).trans (hcs j hj)⟩
theorem Nodes.mono {w : World} {B B' : Nat} {v : Value} {l : List Nd} (h : Nodes w B v l) (hb : B ≤ B') : Nodes w B' v l := by
  obtain ⟨ao, cap, hv, hm, hc⟩ := h.ex
  refine ⟨ao, cap, hv, hm, fun i hi => ?_⟩
  obtain ⟨b, off, ha, hB, hcs⟩ := hc i hi
  exact ⟨b, off, ha, by omega, hcs⟩

theorem lawful_no (c s m x v : Int) (hv : v ∈ [c, s, m, x]) (h : v < 0 ∨ 34359738367 < v) : (isNum c && isNum s && isNum m && isNum x) = false := by
  have hf : isNum v = false := by
    cases e : isNum v
    · rfl
    · rw [isNum_iff] at e; omega
  simp only [List.mem_cons, List.not_mem_nil, or_false] at hv
  rcases hv with rfl | rfl | rfl | rfl <;> simp [hf]
theorem lawful_next (l : List Int) (k : Nat) (v : Int) (hk : l[k]? = some v) (ha : ∀ u ∈ l.take k, isNum u = true) (h0 : 0 ≤ v) (h1 : v ≤ 34359738367) : ∀ u ∈ l.take (k + 1), isNum u = true := by
  rw [List.take_add_one, hk]
  intro u hu
  rw [List.mem_append] at hu
  rcases hu with hu | hu
  · exact ha u hu
  · simp at hu; subst hu; rw [isNum_iff]; exact ⟨h0, h1⟩

theorem eqNd (d e : Nd) : eqN d.c d.s d.m d.x d.h.toNat d.g.toNat e.c e.s e.m e.x e.h.toNat e.g.toNat = true ↔ d = e := by
  rw [eqN_true]
  cases d; cases e
  simp only [Nd.mk.injEq, ← UInt8.toNat_inj]
  omega


def goodAt (l : List Nd) (k : Nat) : Bool := (l.take k).all Nd.ok
theorem goodAt_zero (l : List Nd) : goodAt l 0 = true := by simp [goodAt]
theorem goodAt_next (l : List Nd) (k : Nat) (h : k < l.length) : goodAt l (k + 1) = (goodAt l k && (l[k]).ok) := by
  unfold goodAt
  rw [take_snoc' l k h, List.all_append]
  simp
theorem goodAt_all (l : List Nd) : goodAt l l.length = l.all Nd.ok := by simp [goodAt]

theorem str_size (l : List UInt8) : (⟨l.toArray⟩ : ByteArray).size = l.length := by
  show l.toArray.size = _
  simp
theorem all_bad (l : List Nd) (h : l.all Nd.ok = false) : ∃ (j : Nat) (hj : j < l.length), (l[j]).ok = false := by
  rw [List.all_eq_false] at h
  obtain ⟨d, hd, hb⟩ := h
  obtain ⟨j, hj, e⟩ := List.getElem_of_mem hd
  exact ⟨j, hj, by rw [e]; simpa using hb⟩

end Go.Proofs.Ytogmdaopfnmobaa

/- What lawful, same and knows do. -/
namespace Go.Proofs.Ytogmdaopfnmobaa
open Go.RowKit

attribute [local go_sem ↓] run_eql_node run_neq_node


set_option maxHeartbeats 1000000 in
set_option maxRecDepth 100000 in
theorem lawful_any (c s m x h g : Int) (w : World) (b : Bool) (hb : (isNum c && isNum s && isNum m && isNum x) = b) :
    Calls Try.prog 10 #[.agg #[.int .i64 c, .int .i64 s, .int .i64 m, .int .i64 x, .int .u8 h, .int .u8 g]] w fun e w' => e = .returned (.bool b) ∧ Below w.heap.size w w' := by
  have fin : ∀ o1 o2, Below w.heap.size w ((w.alloc o1).alloc o2) := fun o1 o2 => ((Below.refl _ _).alloc (Nat.le_refl _) _).alloc (by simp) _
  go_enter Try.func10, Try.ntmps10
  go_wp2
  go_loop [4] (fun i => ∃ k : Nat, k ≤ 4 ∧ i = .int .i64 k ∧ Hid (∀ v ∈ [c, s, m, x].take k, isNum v = true)) (fun i => 4 - (intOf i).toNat)
  case atStart => exact ⟨0, by omega, rfl, by simp [Hid]⟩
  case round =>
    obtain ⟨k, hk, rfl, HA⟩ := hrel
    by_cases hlt : k < 4
    · have hkk : k = 0 ∨ k = 1 ∨ k = 2 ∨ k = 3 := by omega
      rcases hkk with rfl | rfl | rfl | rfl
      · by_cases h0 : c < 0
        · go_wp2
          go_ret
          exact ⟨by rw [← hb, lawful_no c s m x c (by simp) (.inl h0)]; rfl, fin _ _⟩
        · by_cases h1 : 34359738367 < c
          · go_wp2
            go_ret
            exact ⟨by rw [← hb, lawful_no c s m x c (by simp) (.inr h1)]; rfl, fin _ _⟩
          · go_wp2
            go_round
            case rel => exact ⟨1, by omega, rfl, lawful_next [c, s, m, x] 0 c (by simp) HA.out (by omega) (by omega)⟩
            case measure => simp [intOf]
      · by_cases h0 : s < 0
        · go_wp2
          go_ret
          exact ⟨by rw [← hb, lawful_no c s m x s (by simp) (.inl h0)]; rfl, fin _ _⟩
        · by_cases h1 : 34359738367 < s
          · go_wp2
            go_ret
            exact ⟨by rw [← hb, lawful_no c s m x s (by simp) (.inr h1)]; rfl, fin _ _⟩
          · go_wp2
            go_round
            case rel => exact ⟨2, by omega, rfl, lawful_next [c, s, m, x] 1 s (by simp) HA.out (by omega) (by omega)⟩
            case measure => simp [intOf]
      · by_cases h0 : m < 0
        · go_wp2
          go_ret
          exact ⟨by rw [← hb, lawful_no c s m x m (by simp) (.inl h0)]; rfl, fin _ _⟩
        · by_cases h1 : 34359738367 < m
          · go_wp2
            go_ret
            exact ⟨by rw [← hb, lawful_no c s m x m (by simp) (.inr h1)]; rfl, fin _ _⟩
          · go_wp2
            go_round
            case rel => exact ⟨3, by omega, rfl, lawful_next [c, s, m, x] 2 m (by simp) HA.out (by omega) (by omega)⟩
            case measure => simp [intOf]
      · by_cases h0 : x < 0
        · go_wp2
          go_ret
          exact ⟨by rw [← hb, lawful_no c s m x x (by simp) (.inl h0)]; rfl, fin _ _⟩
        · by_cases h1 : 34359738367 < x
          · go_wp2
            go_ret
            exact ⟨by rw [← hb, lawful_no c s m x x (by simp) (.inr h1)]; rfl, fin _ _⟩
          · go_wp2
            go_round
            case rel => exact ⟨4, by omega, rfl, lawful_next [c, s, m, x] 3 x (by simp) HA.out (by omega) (by omega)⟩
            case measure => simp [intOf]
    · have hk4 : k = 4 := by omega
      subst hk4
      have HB : Hid (b = true) := by
        rw [← hb]
        have h := HA.out
        simp at h
        show (isNum c && isNum s && isNum m && isNum x) = true
        simp [h]
      go_wp2
      go_ret
      exact ⟨by rw [HB.out]; rfl, fin _ _⟩

set_option maxHeartbeats 1000000 in
set_option maxRecDepth 100000 in
theorem same_any (v v2 : Value) (l l2 : List Nd) (w : World) (h1 : Nodes w w.heap.size v l) (h2 : Nodes w w.heap.size v2 l2) (he : l = l2) :
    Calls Try.prog 12 #[v, v2] w fun e w' => e = .returned (.bool true) ∧ Below w.heap.size w w' := by
  subst he
  obtain ⟨ao, cap, rfl, hmax, hc1⟩ := h1.ex
  obtain ⟨ao2, cap2, rfl, _, hc2⟩ := h2.ex
  clear h1 h2
  go_enter Try.func12, Try.ntmps12
  go_wp2
  go_loopw [5] (fun i wr => ∃ k : Nat, k ≤ l.length ∧ i = .int .i64 k ∧ Below w.heap.size w wr) (fun i _ => l.length - (intOf i).toNat)
  case atStart => exact ⟨0, Nat.zero_le _, rfl, Below.refl _ _⟩
  case round =>
    obtain ⟨k, hk, rfl, hb⟩ := hrel
    by_cases hlt : k < l.length
    · obtain ⟨b, off, rfl, hbB, hcs⟩ := hc1 k hlt
      obtain ⟨b', off', rfl, hbB', hcs'⟩ := hc2 k hlt
      obtain ⟨d, hd⟩ : ∃ d, d = l[k] := ⟨_, rfl⟩
      rw [← hd] at hcs hcs'
      obtain ⟨k0, k1, k2, k3, k4, k5⟩ := six hb hbB hcs
      obtain ⟨j0, j1, j2, j3, j4, j5⟩ := six hb hbB' hcs'
      have heq := (eqNd d d).2 rfl
      clear hd hcs hcs' hc1 hc2
      go_wp2
      go_quiet (fail)
      go_wp2
      go_roundw
      case rel => exact ⟨k + 1, by omega, by go_num, hb.trans ((below_drewN wr nq).mono hb.size)⟩
      case measure => simp [intOf]; omega
    · go_wp2
      go_ret
      exact ⟨rfl, hb⟩

theorem nodes_lit (w : World) : Nodes (w.alloc (.cells #[.int .i64 1, .int .i64 300, .int .i64 0, .int .i64 300, .int .u8 7, .int .u8 8] 33)) (w.heap.size + 1) (.slice (some ⟨w.heap.size, 0, none⟩) 1 1) [⟨1, 300, 0, 300, 7, 8⟩] := by
  refine ⟨_, 1, rfl, by simp, fun i hi => ⟨w.heap.size, 0, rfl, by omega, fun j hj => ?_⟩⟩
  have hi0 : i = 0 := by simp at hi; exact hi
  subst hi0
  rw [cell_of_row _ _ _ _ _ _ (heap_alloc_new w _)]
  match j, hj with
  | 0, _ => rfl
  | 1, _ => rfl
  | 2, _ => rfl
  | 3, _ => rfl
  | 4, _ => rfl
  | 5, _ => rfl

set_option maxHeartbeats 1000000 in
set_option maxRecDepth 100000 in
theorem knows_any (w : World) : Calls Try.prog 8 #[] w fun e w' => e = .returned (.bool true) ∧ Below w.heap.size w w' := by
  have HK := Write_any _ _ _ ((nodes_lit w).mono (by simp : w.heap.size + 1 ≤ (w.alloc (.cells #[.int .i64 1, .int .i64 300, .int .i64 0, .int .i64 300, .int .u8 7, .int .u8 8] 33)).heap.size))
  have h1 : writeB [⟨1, 300, 0, 300, 7, 8⟩] = [1, 1, 172, 2, 0, 172, 2, 7, 8] := by decide
  have h2 : writeE [⟨1, 300, 0, 300, 7, 8⟩] = 0 := by decide
  rw [h1, h2] at HK
  clear h1 h2
  go_enter Try.func8, Try.ntmps8
  go_wp2_with fail
  refine HK.mono ?_
  rintro e w1 ⟨rfl, hb⟩
  have hB : Below w.heap.size w w1 := ((Below.refl _ _).alloc (Nat.le_refl _) _).trans (hb.mono (by simp))
  clear HK hb
  go_wp2
  go_ret
  exact ⟨rfl, hB⟩

end Go.Proofs.Ytogmdaopfnmobaa

/- What Back does. -/
namespace Go.Proofs.Ytogmdaopfnmobaa
open Go.RowKit

set_option maxHeartbeats 2000000 in
set_option maxRecDepth 100000 in
theorem back_any (v : Value) (l : List Nd) (raw : ByteArray) (w : World) (hl : Nodes w w.heap.size v l) (hraw : raw.size ≤ maxLen) :
    Calls Try.prog 3 #[v, .string raw] w fun e w' => e = .returned (.bool true) ∧ Below w.heap.size w w' := by
  obtain ⟨ao, cap, rfl, hmax, hcells⟩ := hl.ex
  go_enter Try.func3, Try.ntmps3
  go_wp2_with fail
  refine (knows_any _).mono ?_
  rintro e w1 ⟨rfl, hb1⟩
  go_wp2_with fail
  refine (Write_any _ l _ ((hl.below hb1).mono hb1.size)).mono ?_
  rintro e w2 ⟨rfl, hb2⟩
  have hB2 : Below w.heap.size w w2 := hb1.trans (hb2.mono hb1.size)
  clear hb1 hb2
  go_wp2_with fail
  go_loopw [8, 9] (fun g i wr => ∃ k : Nat, k ≤ l.length ∧ i = .int .i64 k ∧ g = .bool (goodAt l k) ∧ Below w.heap.size w wr) (fun _ i _ => l.length - (intOf i).toNat)
  case atStart => exact ⟨0, Nat.zero_le _, rfl, by rw [goodAt_zero], hB2⟩
  case round =>
    obtain ⟨k, hk, rfl, rfl, hb⟩ := hrel
    by_cases hlt : k < l.length
    · obtain ⟨b, off, rfl, hbB, hcs⟩ := hcells k hlt
      obtain ⟨d, hd⟩ : ∃ d, d = l[k] := ⟨_, rfl⟩
      rw [← hd] at hcs
      obtain ⟨k0, k1, k2, k3, k4, k5⟩ := six hb hbB hcs
      have HG : Hid (goodAt l (k + 1) = (goodAt l k && d.ok)) := by rw [hd]; exact goodAt_next l k hlt
      clear hcs hd hcells hl
      cases hg : goodAt l k
      all_goals
        go_wp2_with fail
        refine (lawful_any _ _ _ _ _ _ _ d.ok rfl).mono ?_
        rintro e w3 ⟨rfl, hb3⟩
        have hB3 : Below w.heap.size w w3 := hb.trans (hb3.mono hb.size)
        clear hb3 hb
        go_wp2
        go_roundw
        case rel => exact ⟨k + 1, by omega, by go_num, by rw [HG.out, hg]; rfl, hB3⟩
        case measure => simp [intOf]; omega
    · have hkl : k = l.length := by omega
      have HG : Hid (goodAt l k = l.all Nd.ok) := by rw [hkl]; exact goodAt_all l
      clear hkl hcells
      have q25 : ∀ (w : World) (a : Option Addr) (n c n' c' : Nat), (binOp .eql 22 (.slice a n c) (.slice none n' c')).run Try.prog w = .ok (.bool a.isNone) w := fun w a n c n' c' => Lib.run_eql_slice_nil w _ _ a n c n' c' Try.underlying22
      by_cases h64 : 64 < l.length
      · obtain ⟨r1, r2⟩ := write_many l h64
        clear HG
        go_wp2_with fail
        refine (Read_any raw _ hraw).mono ?_
        intro e w6 hp
        cases hr : readR raw.data.toList with
        | none =>
          rw [hr] at hp
          obtain ⟨rfl, hb6⟩ := hp
          have hB6 : Below w.heap.size w w6 := hb.trans (hb6.mono hb.size)
          clear hr hb6
          go_wp2
          go_ret
          exact ⟨rfl, hB6⟩
        | some l' =>
          rw [hr] at hp
          obtain ⟨v', rfl, ho, hb6⟩ := hp
          obtain ⟨a1, a2, a3⟩ := write_read _ _ hr
          have hB6 : Below w.heap.size w w6 := hb.trans (hb6.mono hb.size)
          have K := Write_any _ l' _ (Nodes.own ho (by omega))
          obtain ⟨r1, r2⟩ := write_good l' (by omega) a2
          have r3 : (⟨(writeB l').toArray⟩ : ByteArray) = raw := by rw [r1, a3]
          rw [r3, r2] at K
          clear hr hb6 ho a1 a2 a3 r1 r2 r3
          go_wp2_with fail
          refine K.mono ?_
          rintro e w7 ⟨rfl, hb7⟩
          have hB7 : Below w.heap.size w w7 := hB6.trans (hb7.mono hB6.size)
          clear K hb7 hB6
          go_wp2
          go_ret
          exact ⟨rfl, hB7⟩
      · cases hall : l.all Nd.ok
        · obtain ⟨j, hj, hbad⟩ := all_bad l hall
          obtain ⟨r1, r2⟩ := write_bad l h64 j hj hbad
          have hG := HG.out
          rw [hall] at hG
          clear hbad hj HG hall
          go_wp2_with fail
          refine (Read_any raw _ hraw).mono ?_
          intro e w6 hp
          cases hr : readR raw.data.toList with
          | none =>
            rw [hr] at hp
            obtain ⟨rfl, hb6⟩ := hp
            have hB6 : Below w.heap.size w w6 := hb.trans (hb6.mono hb.size)
            clear hr hb6
            go_wp2
            go_ret
            exact ⟨rfl, hB6⟩
          | some l' =>
            rw [hr] at hp
            obtain ⟨v', rfl, ho, hb6⟩ := hp
            obtain ⟨a1, a2, a3⟩ := write_read _ _ hr
            have hB6 : Below w.heap.size w w6 := hb.trans (hb6.mono hb.size)
            have K := Write_any _ l' _ (Nodes.own ho (by omega))
            obtain ⟨r1, r2⟩ := write_good l' (by omega) a2
            have r3 : (⟨(writeB l').toArray⟩ : ByteArray) = raw := by rw [r1, a3]
            rw [r3, r2] at K
            clear hr hb6 ho a1 a2 a3 r1 r2 r3
            go_wp2_with fail
            refine K.mono ?_
            rintro e w7 ⟨rfl, hb7⟩
            have hB7 : Below w.heap.size w w7 := hB6.trans (hb7.mono hB6.size)
            clear K hb7 hB6
            go_wp2
            go_ret
            exact ⟨rfl, hB7⟩
        · obtain ⟨r1, r2⟩ := write_good l h64 hall
          have hG := HG.out
          rw [hall] at hG
          have hN := (hl.below hb).mono hb.size
          by_cases h1000 : (marks l).length ≤ 1000
          · have K := Read_any ⟨(marks l).toArray⟩ wr (by unfold maxLen; have := str_size (marks l); omega)
            have e0 : (⟨(marks l).toArray⟩ : ByteArray).data.toList = marks l := by simp
            rw [e0, read_write l (by omega) hall h1000] at K
            clear HG hall e0 hl
            go_wp2_with fail
            refine K.mono ?_
            rintro e w3 ⟨v3, rfl, ho3, hb3⟩
            have N3 := Nodes.own ho3 (by omega)
            have N1 := (hN.below hb3).mono hb3.size
            have hB3 : Below w.heap.size w w3 := hb.trans (hb3.mono hb.size)
            clear K ho3 hb3 hN
            go_wp2_with fail
            refine (same_any _ _ l l _ N3 N1 rfl).mono ?_
            rintro e w4 ⟨rfl, hb4⟩
            have hB4 : Below w.heap.size w w4 := hB3.trans (hb4.mono hB3.size)
            clear hb4 hB3 N1 N3
            go_wp2_with fail
            refine (Read_any raw _ hraw).mono ?_
            intro e w6 hp
            cases hr : readR raw.data.toList with
            | none =>
              rw [hr] at hp
              obtain ⟨rfl, hb6⟩ := hp
              have hB6 : Below w.heap.size w w6 := hB4.trans (hb6.mono hB4.size)
              clear hr hb6
              go_wp2
              go_ret
              exact ⟨rfl, hB6⟩
            | some l' =>
              rw [hr] at hp
              obtain ⟨v', rfl, ho, hb6⟩ := hp
              obtain ⟨a1, a2, a3⟩ := write_read _ _ hr
              have hB6 : Below w.heap.size w w6 := hB4.trans (hb6.mono hB4.size)
              have K := Write_any _ l' _ (Nodes.own ho (by omega))
              obtain ⟨r1, r2⟩ := write_good l' (by omega) a2
              have r3 : (⟨(writeB l').toArray⟩ : ByteArray) = raw := by rw [r1, a3]
              rw [r3, r2] at K
              clear hr hb6 ho a1 a2 a3 r1 r2 r3
              go_wp2_with fail
              refine K.mono ?_
              rintro e w7 ⟨rfl, hb7⟩
              have hB7 : Below w.heap.size w w7 := hB6.trans (hb7.mono hB6.size)
              clear K hb7 hB6
              go_wp2
              go_ret
              exact ⟨rfl, hB7⟩
          · clear HG hall hl hN
            go_wp2_with fail
            refine (Read_any raw _ hraw).mono ?_
            intro e w6 hp
            cases hr : readR raw.data.toList with
            | none =>
              rw [hr] at hp
              obtain ⟨rfl, hb6⟩ := hp
              have hB6 : Below w.heap.size w w6 := hb.trans (hb6.mono hb.size)
              clear hr hb6
              go_wp2
              go_ret
              exact ⟨rfl, hB6⟩
            | some l' =>
              rw [hr] at hp
              obtain ⟨v', rfl, ho, hb6⟩ := hp
              obtain ⟨a1, a2, a3⟩ := write_read _ _ hr
              have hB6 : Below w.heap.size w w6 := hb.trans (hb6.mono hb.size)
              have K := Write_any _ l' _ (Nodes.own ho (by omega))
              obtain ⟨r1, r2⟩ := write_good l' (by omega) a2
              have r3 : (⟨(writeB l').toArray⟩ : ByteArray) = raw := by rw [r1, a3]
              rw [r3, r2] at K
              clear hr hb6 ho a1 a2 a3 r1 r2 r3
              go_wp2_with fail
              refine K.mono ?_
              rintro e w7 ⟨rfl, hb7⟩
              have hB7 : Below w.heap.size w w7 := hB6.trans (hb7.mono hB6.size)
              clear K hb7 hB6
              go_wp2
              go_ret
              exact ⟨rfl, hB7⟩

end Go.Proofs.Ytogmdaopfnmobaa

