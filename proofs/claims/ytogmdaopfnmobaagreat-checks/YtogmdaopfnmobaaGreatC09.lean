/- What ReadProof does. -/
import Derived.Test.YtogmdaopfnmobaaGreatC08
namespace Go.Proofs.YtogmdaopfnmobaaGreat
open Go.RowKit
theorem readMarked_any (s : ByteArray) (w : World) (hs : s.size ≤ maxLen) (h0 : 0 < s.size) : Calls Tryz.prog 117 #[.string s] w (nodePost (rdMark s.data.toList) s.size w) := by
  by_cases a : s[0].toNat = 0
  · exact readMarked_zero s w hs h0 a
  · by_cases b : s[0].toNat = 1
    · exact readMarked_one s w hs h0 b
    · exact readMarked_other s w hs h0 a b
theorem info_node : (Tryz.prog.info? 51).map (fun i => (i.zero, i.size, i.bytes)) = some (some (.agg #[.int .i64 0, .int .i64 0, .int .i64 0, .int .i64 0, .int .u8 0, .int .u8 0]), 6, 40) := by kernel_rfl
theorem node_new (w : World) (d : Nd) (e : TypeId) : ∀ j u, d.cells[j]? = some u → (w.alloc (.cells #[.int .i64 d.c, .int .i64 d.s, .int .i64 d.m, .int .i64 d.x, .int .u8 d.h.toNat, .int .u8 d.g.toNat] e)).cell? ((⟨w.heap.size, 0, none⟩ : Addr).add j) = some u := by
  intro j u hj
  have e1 : (⟨w.heap.size, 0, none⟩ : Addr).add j = ⟨w.heap.size, j, none⟩ := by unfold Addr.add; split <;> simp_all
  rw [e1, cell_of_row _ _ j _ _ _ (heap_alloc_new w _)]
  simpa [Nd.cells] using hj
theorem node_one (d : Nd) : ∀ u ∈ d.cells, u.oneCell' = true := by
  intro u hu
  simp only [Nd.cells, List.mem_cons, List.not_mem_nil, or_false] at hu
  rcases hu with rfl | rfl | rfl | rfl | rfl | rfl <;> rfl
def readPost (o : Option (List Nd)) (w : World) (e : Ending) (w' : World) : Prop :=
  match o with
  | some l => ∃ v, e = .returned (.tuple #[v, .int .i64 0]) ∧ w'.ownsRow w.heap.size 51 6 v l.length (l.flatMap Nd.cells) ∧ Below w.heap.size w w'
  | none => e = .returned (.tuple #[.slice none 0 0, .int .i64 7]) ∧ Below w.heap.size w w'
theorem readPost_no {o : Option (List Nd)} {w w' : World} (h : o = none) (hb : Below w.heap.size w w') : readPost o w (.returned (.tuple #[.slice none 0 0, .int .i64 7])) w' := by subst h; exact ⟨rfl, hb⟩
theorem readPost_yes {o : Option (List Nd)} {w w' : World} {v : Value} (l : List Nd) (h : o = some l) (ho : w'.ownsRow w.heap.size 51 6 v l.length (l.flatMap Nd.cells)) (hb : Below w.heap.size w w') : readPost o w (.returned (.tuple #[v, .int .i64 0])) w' := by subst h; exact ⟨v, rfl, ho, hb⟩
def strLen : Value → Nat
  | .string t => t.size
  | _ => 0
theorem own_shape {w : World} {base : Nat} {e : TypeId} {sz n : Nat} {v : Value} {xs : List Value} (h : w.ownsRow base e sz v n xs) : ∃ ao cap, v = .slice ao n cap := by
  rcases h.2 with ⟨rfl, rfl⟩ | ⟨g, cap, _, rfl, _⟩
  · exact ⟨none, 0, rfl⟩
  · exact ⟨_, cap, rfl⟩
theorem empty_no (s : ByteArray) (h : 0 < s.size) : s.toList.isEmpty = false := by
  rw [ByteArray.toList_eq, List.isEmpty_eq_false_iff]
  intro c
  have := congrArg List.length c
  have e : s.data.toList.length = s.size := rfl
  simp at this
  rw [this] at h
  simp at h
theorem empty_yes (s : ByteArray) (h : ¬ 0 < s.size) : s.data.toList = [] := by
  apply List.eq_nil_of_length_eq_zero
  have e : s.data.toList.length = s.size := rfl
  omega
set_option maxHeartbeats 1000000 in
set_option maxRecDepth 100000 in
theorem readProof_any (s : ByteArray) (w : World) (hs : s.size ≤ maxLen) :
    Calls Tryz.prog 73 #[.string s] w (readPost (readR s.data.toList) w) := by
  unfold maxLen at hs
  obtain ⟨i0, hi, hz0, hz1, hz2⟩ := info_parts info_node
  by_cases h1000 : 1000 < s.size
  · have hn : readR s.data.toList = none := by
      have : 1000 < s.data.toList.length := by simpa using h1000
      simp only [readR, if_pos this]
    rw [hn]
    clear hn
    go_enter Tryz.func73, Tryz.ntmps73
    go_wp2
    go_ret2
    exact ⟨rfl, Below.refl _ _⟩
  · have HN : Hid (readR s.data.toList = rdAll s.data.toList.length [] s.data.toList) := by
      have : ¬ 1000 < s.data.toList.length := by simpa using h1000
      simp only [Hid, readR, if_neg this]
    have hd1000 : decide (1000 < (s.size : Int)) = false := by simp; omega
    go_enter Tryz.func73, Tryz.ntmps73
    go_wp2
    go_loopw [0, 4] (fun x v wr => ∃ (s' : ByteArray) (acc : List Nd) (ao : Option Addr) (cap : Nat), x = .string s' ∧ v = .slice ao acc.length cap ∧ s'.size ≤ 1000 ∧ acc.length ≤ 64 ∧ Hid (readR s.data.toList = rdAll s'.data.toList.length acc s'.data.toList) ∧
        wr.ownsRow w.heap.size 51 6 (.slice ao acc.length cap) acc.length (acc.flatMap Nd.cells) ∧ Below w.heap.size w wr)
      (fun x _ _ => strLen x)
    case atStart => exact ⟨s, [], none, 0, rfl, rfl, by omega, by simp, HN, World.ownsRow_nil _ _ _ _, Below.refl _ _⟩
    case round =>
      obtain ⟨s', acc, ao, cap, rfl, rfl, hsz, hacc, HR, hown, hb⟩ := hrel
      by_cases h0 : 0 < s'.size
      · have hne := empty_no s' h0
        have HE : Hid (s'.data.toList ≠ []) := by intro c; have := congrArg List.length c; have e : s'.data.toList.length = s'.size := rfl; simp at this; simp [this] at h0
        go_wp2_with fail
        refine (readMarked_any s' _ (by unfold maxLen; omega) h0).mono ?_
        rintro e w1 ⟨d, s2, b, rfl, ho, hsz2, hb1⟩
        have hB1 : Below w.heap.size w w1 := hb.trans (hb1.mono hb.size)
        have hown1 := ownsRow_below hown hb1
        have hs1 := hB1.size
        clear hown hb hb1
        rcases ho with ⟨rfl, ho⟩ | ⟨rfl, ho, rfl, _⟩
        · have HO : Hid _ := ho
          have HL : Hid _ := rdMark_shorter _ _ _ ho
          clear ho
          by_cases h64 : acc.length = 64
          · have HF : Hid (readR s.data.toList = none) := by rw [HR.out]; exact rdAll_full acc _ HE.out h64
            have hq : ((acc.length : Int) == 64) = true := by simp; omega
            clear h64 hown1
            go_wp2
            go_ret2
            exact readPost_no HF.out (hB1.alloc hs1 _)
          · have hq : ((acc.length : Int) == 64) = false := by simp; omega
            have HF : Hid _ := rdAll_step acc _ _ _ HE.out HO.out h64
            go_wp2_with (at_builtin; refine wpList_append_grew _ rfl _ _ 72 rfl w.heap.size 51 i0 (.agg #[.int .i64 0, .int .i64 0, .int .i64 0, .int .i64 0, .int .u8 0, .int .u8 0]) 6 40 Tryz.underlying72 hi hz0 hz1 hz2 rfl (by decide) _ _ _ rfl ((hown1.alloc _).alloc _) ⟨w1.heap.size + 1, 0, none⟩ 1 1 d.cells rfl rfl ?c1 ?c2 ?c3 ?c4 ?c5 ?_)
            case c1 => have := node_new (w1.alloc (.cells #[.int .i64 d.c, .int .i64 d.s, .int .i64 d.m, .int .i64 d.x, .int .u8 d.h.toNat, .int .u8 d.g.toNat] 51)) d 51; simpa using this
            case c2 => exact node_one d
            case c3 => unfold maxLen; omega
            case c4 => omega
            case c5 => simp; omega
            intro v' w2 hown' hgrow _
            obtain ⟨ao', cap', hv'⟩ := own_shape hown'
            have hB2 : Below w.heap.size w w2 := ((hB1.alloc hs1 _).alloc (by simp; omega) _).grown hgrow.grown (by simp; omega) (fun j hj => (hown1.lt j hj).1)
            rw [hv'] at hown' ⊢
            clear hgrow hown1 hB1
            go_wp2
            go_roundw
            case rel => exact ⟨s2, acc ++ [d], ao', cap', rfl, by simp, by omega, by simp; omega, (by rw [HR.out, HF.out]; rfl : Hid _), by simpa using hown', hB2⟩
            case measure => have := HL.out; simpa [strLen] using this
        · have HF : Hid (readR s.data.toList = none) := by rw [HR.out]; exact rdAll_bad acc _ HE.out ho
          clear ho hown1
          go_wp2
          go_ret2
          exact readPost_no HF.out (hB1.alloc hs1 _)
      · have hne : s'.toList.isEmpty = true := by rw [ByteArray.toList_eq, empty_yes s' h0]; rfl
        have HF : Hid (readR s.data.toList = some acc) := by rw [HR.out, empty_yes s' h0]; exact rdAll_nil _ _
        go_wp2
        go_ret2
        exact readPost_yes acc HF.out hown hb
end Go.Proofs.YtogmdaopfnmobaaGreat

