/- The source of a proof: the walk of OfProof. -/
import Derived.Test.YtlggbcceoejkkaaGreatP48
import Derived.Test.YtlggbcceoejkkaaGreatP47
namespace Go.Proofs.YtlggbcceoejkkaaGreat
open Go.RowKit Go.Maps Go.Shelf
attribute [local go_sem] Oper.semAt_some

/-- What OfProof tells: a source, if there are as many nodes as parts. -/
def ofPost (ns : List Nd) (L : List Sp) (w : World) (e : Ending) (w' : World) : Prop :=
  if ns.length = L.length then ∃ B M, e = .returned (.tuple #[cloV 117 B, .bool true]) ∧ pfK B M (gL (L.zip ns)) w' ∧ Below w.heap.size w w' else e = .returned (.tuple #[.nilFunc, .bool false]) ∧ Below w.heap.size w w'

set_option maxRecDepth 100000 in
set_option maxHeartbeats 4000000 in
theorem ofProof_any (N f t : Nat) (ao : Option Addr) (cap : Nat) (ns : List Nd) (hN : N ≤ 64) (ht : t ≤ N) (w : World) (hc1 : ns.length ≤ cap) (hc2 : cap ≤ 9223372036854775807) (hn : Nodes w w.heap.size (.slice ao ns.length cap) ns) :
    Calls Tryz.prog 95 #[.int .i64 N, paV f t, .slice ao ns.length cap] w (ofPost ns (cov 0 N f t) w) := by
  refine (callsIn_wide (n := 5)).1 ?_
  have hfn : ∀ k, Fence.wide.fn k := fun _ => trivial
  have hdp : Fence.wide.depth.isSome = false := rfl
  have hmm := @run_makeMap Tryz.prog
  have HC : ∀ w', Hid (Calls Tryz.prog 98 #[.int .i64 N, paV f t] w' _) := fun w' => hid (cover_any N f t w')
  unfold paV at HC ⊢
  refine callsIn_of_wp_marks Tryz.func95 rfl trivial ?_ rfl
  simp only [Tryz.ntmps95, List.size_toArray, List.length_cons, List.length_nil, Nat.reduceAdd, Nat.reduceSub, Array.replicate_succ, Array.replicate_zero, List.push_toArray, List.append_toArray, List.nil_append, List.cons_append]
  gi_wp2
  refine (callsIn_wide.2 (HC _).out).mono ?_
  rintro e w' ⟨rfl, hw'⟩
  gi_wp2
  obtain ⟨W0, hW0⟩ : ∃ W0, W0 = (((((((w.alloc (.cells #[.int .i64 f, .int .i64 t] 112)).alloc (.cells #[.slice ao ns.length cap] 39)).alloc (.cells #[.nilFunc] 114)).alloc (.cells #[.bool false] 4)).alloc (.map #[] 0)).alloc (.cells #[.map (some (w.heap.size + 1 + 1 + 1 + 1))] 180)).alloc (.cells #[.int .i64 N] 3)).alloc (.cells #[.int .i64 f, .int .i64 t] 112) := ⟨_, rfl⟩
  have hsz : W0.heap.size = w.heap.size + 8 := by rw [hW0]; simp
  have hb0 : Below w.heap.size w W0 := by rw [hW0]; exact (((((((((Below.refl _ w).alloc (Nat.le_refl _) _).alloc (by simp) _).alloc (by simp; omega) _).alloc (by simp; omega) _).alloc (by simp; omega) _).alloc (by simp; omega) _).alloc (by simp; omega) _).alloc (by simp; omega) _)
  have hI0 : OfI w w.heap.size ns [] W0 := by
    refine ⟨Nat.zero_le _, ⟨ao, cap, ?_, by simpa using hc1, hc2, by simpa using hn⟩, ?_, ?_, ⟨.map [], ?_, prf_empty⟩, ?_, hb0, by omega⟩
    · rw [hW0]; exact ((((((Boxed.new (w.alloc _) 39 _).alloc _).alloc _).alloc _).alloc _).alloc _).alloc _ |> fun h => by simpa using h
    · rw [hW0]; exact (((((Boxed.new ((w.alloc _).alloc _) 114 _).alloc _).alloc _).alloc _).alloc _).alloc _ |> fun h => by simpa using h
    · rw [hW0]; exact ((((Boxed.new (((w.alloc _).alloc _).alloc _) 4 _).alloc _).alloc _).alloc _).alloc _ |> fun h => by simpa using h
    · rw [hW0]; exact (((World.ownsMap_made ((((w.alloc (.cells #[.int .i64 f, .int .i64 t] 112)).alloc (.cells #[.slice ao ns.length cap] 39)).alloc (.cells #[.nilFunc] 114)).alloc (.cells #[.bool false] 4)) Tryz.prog 112 ndR).alloc (.cells #[.map (some (w.heap.size + 1 + 1 + 1 + 1))] 180)).alloc (.cells #[.int .i64 N] 3)).alloc (.cells #[.int .i64 f, .int .i64 t] 112) |> fun h => by simpa using h
    · rw [hW0]; exact ((Boxed.new (((((w.alloc _).alloc _).alloc _).alloc _).alloc _) 180 _).alloc _).alloc _ |> fun h => by simpa using h
  have hcv : SeqStopsK Fence.wide (5 - 1) Tryz.prog 121 #[.pointer (some ⟨w.heap.size + 6, 0, none⟩), .pointer (some ⟨w.heap.size + 7, 0, none⟩)] (fun x : CvP N f t => #[paV x.1.a x.1.b]) (KeepsT 112)
      (fun ys => ys.map (·.1) = cov 0 N f t) (fun pre => pre.map (·.1) <+: cov 0 N f t) (cov 0 N f t).length W0 := by
    refine cover_stops (w.heap.size + 6) N f t _ W0 hN (by omega) (by omega) ?_ ?_
    · rw [hW0]
      have := ((Boxed.new ((((((w.alloc (.cells #[.int .i64 f, .int .i64 t] 112)).alloc (.cells #[.slice ao ns.length cap] 39)).alloc (.cells #[.nilFunc] 114)).alloc (.cells #[.bool false] 4)).alloc (.map #[] 0)).alloc (.cells #[.map (some (w.heap.size + 1 + 1 + 1 + 1))] 180)) 3 (.int .i64 N)).alloc (.cells #[.int .i64 f, .int .i64 t] 112)).cell
      simpa using this
    · rw [hW0]; exact PaAt.at _ _ (by simp) f t
  unfold covV
  rw [← hW0]
  have HWs := hid hsz
  clear hW0 HC hmm hn hb0 hw'
  refine wpIn_rangeFunc_ownH (F := Fence.wide) (n := 5) rfl (by decide) (gf := 121) (lb := #[.pointer (some ⟨w.heap.size + 6, 0, none⟩), .pointer (some ⟨w.heap.size + 7, 0, none⟩)]) rfl trivial (enters_of Tryz.func121 (by kernel_rfl) rfl)
    hcv (fun h k => h.trans k) (fun W l o o' _ hl ho _ => keepsT_b W l o o' hl ho) (Below.refl _ _) (fun _ => rfl)
    (fun ys W => OfI w w.heap.size ns (ys.map (·.1)) W) (fun c ys W => OfX w w.heap.size ns c (ys.map (·.1)) W) (ofI_own w ns _ (by omega) _) (fun c => ofX_own w ns c _ (by omega) _) hI0
    (fun x a' W => ∃ Bx, w.heap.size + 7 < Bx ∧ PaAt W Bx x.1.a x.1.b ∧ a' = { tmps := #[.int .i64 N, .agg #[.int .i64 f, .int .i64 t], .slice ao ns.length cap, undef, .pointer (some ⟨w.heap.size, 0, none⟩), .pointer (some ⟨w.heap.size + 1, 0, none⟩), .pointer (some ⟨w.heap.size + 1 + 1, 0, none⟩), .pointer (some ⟨w.heap.size + 1 + 1 + 1, 0, none⟩), .pointer (some ⟨w.heap.size + 1 + 1 + 1 + 1 + 1, 0, none⟩), .pointer (some ⟨Bx, 0, none⟩), .map (some (w.heap.size + 1 + 1 + 1 + 1)), .int .i64 N, .agg #[.int .i64 f, .int .i64 t], .func (.func 121) #[] #[.pointer (some ⟨w.heap.size + 1 + 1 + 1 + 1 + 1 + 1, 0, none⟩), .pointer (some ⟨w.heap.size + 1 + 1 + 1 + 1 + 1 + 1 + 1, 0, none⟩)], paV x.1.a x.1.b, undef, undef, undef, undef, undef, undef, undef, undef, undef, undef, undef, undef, undef, undef], defers := [] })
    (fun x a' _ X Y row hs hg hr => by obtain ⟨Bx, h1, h2, h3⟩ := hs; exact ⟨Bx, h1, cells_kept h2 hg hr, h3⟩)
    ?assign ?body ?done ?stop
  case assign =>
    rintro l pre x W Kc hi hKc
    unfold paV
    gi_wp2
    exact hKc _ _ ((KeepsOthers.alloc _ _).from _) ((KeepsT.refl _ _).alloc _) (hi.later hi.below.size ((Below.refl _ _).alloc (Nat.le_refl _) _)) ⟨W.heap.size, by have := hi.big; omega, PaAt.at W _ rfl _ _, rfl⟩
  case body =>
    rintro l pre ⟨p, hp⟩ a' W hl ⟨r, hr⟩ hi ⟨Bx, hBx, hpx, rfl⟩ hlt
    have hfl : ∀ k, (Fence.wide.inRound l).fn k := fun _ => trivial
    have hdl : (Fence.wide.inRound l).depth.isSome = false := rfl
    have hpm := cov_mem f t N 0 N (by omega) (by omega) p hp
    have HL : Hid ((pre ++ [⟨p, hp⟩] : List (CvP N f t)).map (·.1) = pre.map (·.1) ++ [p]) := hid (by simp)
    have HLl : Hid ((pre.map (·.1)).length = pre.length) := hid (by simp)
    generalize pre.map (·.1) = L at hi HL HLl
    obtain ⟨ao', cap', n1, n2, n3, n4⟩ := hi.nds
    have nc := n1.cell
    have cp := hpx.cells
    have cm := hi.mb.cell
    dsimp only at cp ⊢
    unfold paV
    cases hdr : ns.drop L.length with
    | nil =>
      rw [hdr] at nc
      have hbig := hi.big
      have crf := hi.rf.cell
      have frf := hi.rf.frozen
      have crb := hi.rb.cell
      have frb := hi.rb.frozen
      simp only [show w.heap.size + 2 = w.heap.size + 1 + 1 from rfl] at crf frf
      simp only [show w.heap.size + 3 = w.heap.size + 1 + 1 + 1 from rfl] at crb frb
      have HI := hid hi
      have HDR := hid hdr
      clear hi hcv hI0 n1 n4 hpx cp cm hr hdr hpm
      gi_wp2
      refine ⟨((KeepsOthers.setCell _ _ _).trans (KeepsOthers.setCell _ _ _)).from _, ?_⟩
      show OfX w w.heap.size ns .ret ((pre ++ [⟨p, hp⟩] : List (CvP N f t)).map (·.1)) _
      rw [HL.out]
      have hi := HI.out
      have hlen := hi.len
      have hd := congrArg List.length HDR.out
      simp at hd
      refine ⟨rfl, by simp; omega, ?_, ?_, ?_⟩
      · exact (hi.rf.set _).other (by omega) _
      · exact (hi.rb.other (show w.heap.size + 3 ≠ w.heap.size + 2 by omega) _).set _
      · exact (hi.below.setCell (p := ⟨w.heap.size + 2, 0, none⟩) (by show w.heap.size ≤ w.heap.size + 2; omega) _).setCell (p := ⟨w.heap.size + 3, 0, none⟩) (by show w.heap.size ≤ w.heap.size + 3; omega) _
    | cons d r' =>
      rw [hdr] at nc n2 n4
      obtain ⟨b, off, rfl, hbB, hcs⟩ := nodes_hd n4
      have hcW : ∀ o v, w.cell? ⟨b, o, none⟩ = some v → W.cell? ⟨b, o, none⟩ = some v := fun o v h => (hi.below.cell (p := ⟨b, o, none⟩) hbB).trans h
      obtain ⟨k0, k1, k2, k3, k4, k5⟩ := hcs
      replace k0 := hcW _ _ k0
      replace k1 := hcW _ _ k1
      replace k2 := hcW _ _ k2
      replace k3 := hcW _ _ k3
      replace k4 := hcW _ _ k4
      replace k5 := hcW _ _ k5
      obtain ⟨D, m1, m2⟩ := hi.map
      have hLn : L.length < maxLen := by
        have h1 := (cov_len f t N 0 N (by omega)).2
        have := HLl.out
        unfold maxLen
        omega
      obtain ⟨w1, hrun, hown1, hgrow⟩ := m1.drew.update part_keyed Tryz.underlying180 hLn (pKey_eq p.a p.b (by omega) (by omega)) (ndR_eq d)
      have hb1 : w1.heap[w.heap.size + 1]? = W.heap[w.heap.size + 1]? := hgrow.block _ (show w.heap.size + 1 < W.heap.size from n1.lt) (by simp)
      have hc1' : w1.cell? ⟨w.heap.size + 1, 0, none⟩ = some (.slice (some ⟨b, off, none⟩) (r'.length + 1) cap') := (World.cell?_of_block (a := ⟨w.heap.size + 1, 0, none⟩) hb1).trans nc
      have hf1' : w1.frozen? ⟨w.heap.size + 1, 0, none⟩ = false := (World.frozen?_of_block (a := ⟨w.heap.size + 1, 0, none⟩) hb1).trans n1.frozen
      have FIN := fun (v' : Value) (ao2 : Option Addr) (cap2 : Nat) => hid (fun (hv : v' = .slice ao2 r'.length cap2) (h1 : r'.length ≤ cap2) (h2 : cap2 ≤ 9223372036854775807) (h3 : Nodes w w.heap.size v' r') => hi.take (p := p) (v' := v') hdr ⟨by omega, by omega⟩ m2 hown1 hgrow hv h1 h2 h3)
      have F1 := hid ((FIN (.slice (some ⟨b, off + 6, none⟩) r'.length (cap' - 1)) (some ⟨b, off + 6, none⟩) (cap' - 1)).out rfl (by simp at n2; omega) (by omega) (nodes_tl n4 (.inr rfl)))
      have F2 := hid (fun hcap : cap' = 1 => (FIN (.slice (some ⟨b, off, none⟩) r'.length 0) (some ⟨b, off, none⟩) 0).out rfl (by simp at n2; omega) (by omega) (nodes_tl n4 (.inl (List.eq_nil_of_length_eq_zero (by simp at n2; omega)))))
      clear FIN
      have hl2 : (r'.length : Int) + 1 ≤ cap' := by simp at n2; omega
      simp only [List.length_cons] at nc
      unfold paV ndV at hrun
      simp only [show w.heap.size + 4 = w.heap.size + 1 + 1 + 1 + 1 from rfl] at hrun cm
      simp only [show w.heap.size + 5 = w.heap.size + 1 + 1 + 1 + 1 + 1 from rfl] at cm
      have hrl : ((r'.length : Int) + 1 == 0) = false := by simp; omega
      have HKW := hid (show w.heap.size + 4 < W0.heap.size by omega)
      have hmx : Tryz.prog.follows .mixedOrders = true := by kernel_rfl
      clear hi hcv hI0 n1 n4 hpx hr hdr hpm hcW m1 m2 hown1 hgrow hb1 hLn HLl n2 hsz
      gi_wp2
      gi_region_o
      all_goals gi_wp2
      all_goals
        first
        | exact ⟨F1.out.2.2 _ HKW.out, F1.out.2.1, (by show OfI w w.heap.size ns ((pre ++ [⟨p, hp⟩] : List (CvP N f t)).map (·.1)) _; rw [HL.out]; exact F1.out.1)⟩
        | exact ⟨(F2.out (by assumption)).2.2 _ HKW.out, (F2.out (by assumption)).2.1, (by show OfI w w.heap.size ns ((pre ++ [⟨p, hp⟩] : List (CvP N f t)).map (·.1)) _; rw [HL.out]; exact (F2.out (by assumption)).1)⟩
  case done =>
    rintro D ys W hD hys hi hKD
    rw [hys] at hi
    obtain ⟨ao', cap', n1, n2, n3, n4⟩ := hi.nds
    have nc := n1.cell
    have hlen := hi.len
    have HI := hid hi
    have hdl : (ns.drop (cov 0 N f t).length).length = ns.length - (cov 0 N f t).length := by simp
    rw [hdl] at nc
    have crf := hi.rf.cell
    have frf := hi.rf.frozen
    have crb := hi.rb.cell
    have frb := hi.rb.frozen
    simp only [show w.heap.size + 2 = w.heap.size + 1 + 1 from rfl] at crf frf
    simp only [show w.heap.size + 3 = w.heap.size + 1 + 1 + 1 from rfl] at crb frb
    have HKD := hid hKD
    have HD := hid (show w.heap.size + 8 ≤ D by omega)
    by_cases he : ns.length = (cov 0 N f t).length
    · have h0 : ns.length - (cov 0 N f t).length = 0 := by omega
      rw [h0] at nc
      have HE := hid he
      clear hi hcv hI0 n1 n4 hys hKD hD hdl hlen he h0 hsz
      gi_wp2
      have hdk : ((W.setCell ⟨w.heap.size + 1 + 1, 0, none⟩ (.func (.func 117) #[] #[.pointer (some ⟨w.heap.size + 1 + 1 + 1 + 1 + 1, 0, none⟩)])).setCell ⟨w.heap.size + 1 + 1 + 1, 0, none⟩ (.bool true)).heap[D]? = some (.deferred (some [])) := by
        have := HD.out
        exact far_set' (far_set' HKD.out (by omega)) (by omega)
      refine ⟨by simp, .inl ⟨_, _, rfl, run_takeDeferred hdk, ?_⟩⟩
      have hi := HI.out
      obtain ⟨Dm, m1, m2⟩ := hi.map
      have hz := HD.out
      have b2 : Boxed (((W.setCell ⟨w.heap.size + 1 + 1, 0, none⟩ (.func (.func 117) #[] #[.pointer (some ⟨w.heap.size + 1 + 1 + 1 + 1 + 1, 0, none⟩)])).setCell ⟨w.heap.size + 1 + 1 + 1, 0, none⟩ (.bool true)).putObj D (.deferred none)) (w.heap.size + 1 + 1) 114 (.func (.func 117) #[] #[.pointer (some ⟨w.heap.size + 1 + 1 + 1 + 1 + 1, 0, none⟩)]) := (World.putObj_heap_other (by omega)).trans ((hi.rf.set _).other (by omega) _)
      have b3 : Boxed (((W.setCell ⟨w.heap.size + 1 + 1, 0, none⟩ (.func (.func 117) #[] #[.pointer (some ⟨w.heap.size + 1 + 1 + 1 + 1 + 1, 0, none⟩)])).setCell ⟨w.heap.size + 1 + 1 + 1, 0, none⟩ (.bool true)).putObj D (.deferred none)) (w.heap.size + 1 + 1 + 1) 4 (.bool true) := (World.putObj_heap_other (by omega)).trans ((hi.rb.other (show w.heap.size + 3 ≠ w.heap.size + 2 by omega) _).set _)
      have c2 := b2.cell
      have c3 := b3.cell
      refine ⟨.tuple #[.func (.func 117) #[] #[.pointer (some ⟨w.heap.size + 1 + 1 + 1 + 1 + 1, 0, none⟩)], .bool true], ?_, ?_⟩
      · simp [results, Tryz.results95, go_sem, c2, c3]
      · unfold ofPost
        rw [if_pos HE.out]
        have b5 : Boxed (((W.setCell ⟨w.heap.size + 1 + 1, 0, none⟩ (.func (.func 117) #[] #[.pointer (some ⟨w.heap.size + 1 + 1 + 1 + 1 + 1, 0, none⟩)])).setCell ⟨w.heap.size + 1 + 1 + 1, 0, none⟩ (.bool true)).putObj D (.deferred none)) (w.heap.size + 5) 180 (.map (some (w.heap.size + 4))) := (World.putObj_heap_other (by omega)).trans ((hi.mb.other (by omega) _).other (by omega) _)
        refine ⟨w.heap.size + 5, w.heap.size + 4, rfl, ⟨b5, _, Dm, ((m1.kept (grownBy_setCell' _ _ _) (by simp)).kept (grownBy_setCell' _ _ _) (by simp)).kept (grownBy_putObj' _ D _) (by simp; omega), m2⟩, ?_⟩
        refine Below.trans ?_ (belowK_b (w := w) (Nat.le_refl _) _ D _ _ (by omega) hdk rfl rfl)
        exact (hi.below.setCell (p := ⟨w.heap.size + 1 + 1, 0, none⟩) (by show w.heap.size ≤ w.heap.size + 1 + 1; omega) _).setCell (p := ⟨w.heap.size + 1 + 1 + 1, 0, none⟩) (by show w.heap.size ≤ w.heap.size + 1 + 1 + 1; omega) _
    · have hgt : (0 : Int) < ((ns.length - (cov 0 N f t).length : Nat) : Int) := by omega
      have HE := hid he
      clear hi hcv hI0 n1 n4 hys hKD hD hdl hlen he hsz
      generalize ns.length - (cov 0 N f t).length = q at nc hgt
      gi_wp2
      have hdk : ((W.setCell ⟨w.heap.size + 1 + 1, 0, none⟩ .nilFunc).setCell ⟨w.heap.size + 1 + 1 + 1, 0, none⟩ (.bool false)).heap[D]? = some (.deferred (some [])) := by
        have := HD.out
        exact far_set' (far_set' HKD.out (by omega)) (by omega)
      refine ⟨by simp, .inl ⟨_, _, rfl, run_takeDeferred hdk, ?_⟩⟩
      have hi := HI.out
      have hz := HD.out
      have b2 : Boxed (((W.setCell ⟨w.heap.size + 1 + 1, 0, none⟩ .nilFunc).setCell ⟨w.heap.size + 1 + 1 + 1, 0, none⟩ (.bool false)).putObj D (.deferred none)) (w.heap.size + 1 + 1) 114 .nilFunc := (World.putObj_heap_other (by omega)).trans ((hi.rf.set _).other (by omega) _)
      have b3 : Boxed (((W.setCell ⟨w.heap.size + 1 + 1, 0, none⟩ .nilFunc).setCell ⟨w.heap.size + 1 + 1 + 1, 0, none⟩ (.bool false)).putObj D (.deferred none)) (w.heap.size + 1 + 1 + 1) 4 (.bool false) := (World.putObj_heap_other (by omega)).trans ((hi.rb.other (show w.heap.size + 3 ≠ w.heap.size + 2 by omega) _).set _)
      have c2 := b2.cell
      have c3 := b3.cell
      refine ⟨.tuple #[.nilFunc, .bool false], ?_, ?_⟩
      · simp [results, Tryz.results95, go_sem, c2, c3]
      · unfold ofPost
        rw [if_neg HE.out]
        refine ⟨rfl, Below.trans ?_ (belowK_b (w := w) (Nat.le_refl _) _ D _ _ (by omega) hdk rfl rfl)⟩
        exact (hi.below.setCell (p := ⟨w.heap.size + 1 + 1, 0, none⟩) (by show w.heap.size ≤ w.heap.size + 1 + 1; omega) _).setCell (p := ⟨w.heap.size + 1 + 1 + 1, 0, none⟩) (by show w.heap.size ≤ w.heap.size + 1 + 1 + 1; omega) _
  case stop =>
    rintro D c pre W hD hpre hx hKD
    obtain rfl := hx.ret
    have hne : ns.length ≠ (cov 0 N f t).length := by
      have h1 := hx.len
      have h2 := List.IsPrefix.length_le hpre
      omega
    have HX := hid hx
    have HNE := hid hne
    have HKD := hid hKD
    have HD := hid (show w.heap.size + 8 ≤ D by omega)
    clear hcv hI0 hx hne hKD hD hpre hsz
    gi_wp2
    refine ⟨by simp, .inl ⟨_, _, rfl, run_takeDeferred HKD.out, ?_⟩⟩
    have hz := HD.out
    have b2 : Boxed (W.putObj D (.deferred none)) (w.heap.size + 1 + 1) 114 .nilFunc := (World.putObj_heap_other (by omega)).trans HX.out.rf
    have b3 : Boxed (W.putObj D (.deferred none)) (w.heap.size + 1 + 1 + 1) 4 (.bool false) := (World.putObj_heap_other (by omega)).trans HX.out.rb
    have c2 := b2.cell
    have c3 := b3.cell
    refine ⟨.tuple #[.nilFunc, .bool false], ?_, ?_⟩
    · simp [results, Tryz.results95, go_sem, c2, c3]
    · unfold ofPost
      rw [if_neg HNE.out]
      exact ⟨rfl, HX.out.below.trans (belowK_b (w := w) (Nat.le_refl _) _ D _ _ (by omega) HKD.out rfl rfl)⟩

end Go.Proofs.YtlggbcceoejkkaaGreat

/- What a proof's parts come to, one by one; readTree. -/
namespace Go.Proofs.YtlggbcceoejkkaaGreat
open Go.RowKit

/-- The parts of a cover lie one behind the other. -/
theorem cov_pw (f t : Nat) : ∀ (n a b : Nat), b - a ≤ n → a < b → (∀ p ∈ cov a b f t, p.a < p.b) ∧ (cov a b f t).Pairwise (fun p q => p.b ≤ q.a) := by
  intro n
  induction n with
  | zero => intro a b h hab; omega
  | succ n ih =>
    intro a b h hab
    by_cases hs : isOut a b f t = true ∨ isIn a b f t = true ∨ b < a + 2
    · rw [cov_1 hs]; simp [hab]
    · have p := hf_pos (b - a)
      have q := hf_lt (b - a) (by omega)
      rw [cov_2 hs]
      have hl := ih a (a + hf (b - a)) (by omega) (by omega)
      have hr := ih (a + hf (b - a)) b (by omega) (by omega)
      refine ⟨fun x hx => (List.mem_append.1 hx).elim (hl.1 x) (hr.1 x), List.pairwise_append.2 ⟨hl.2, hr.2, fun x hx y hy => ?_⟩⟩
      have h1 := cov_mem f t n a (a + hf (b - a)) (by omega) (by omega) x hx
      have h2 := cov_mem f t n (a + hf (b - a)) b (by omega) (by omega) y hy
      omega
theorem cov_distinct (f t n : Nat) : (cov 0 n f t).Pairwise (fun p q => ¬ (p.a = q.a ∧ p.b = q.b)) := by
  by_cases hn : 0 < n
  · obtain ⟨h1, h2⟩ := cov_pw f t n 0 n (by omega) hn
    refine List.Pairwise.imp_of_mem (fun {p q} hp hq h c => ?_) h2
    have := h1 p hp
    omega
  · rw [cov_1 (.inr (.inr (by omega)))]; simp
theorem gL_mem : ∀ {l : List (Sp × Nd)}, (l.map (·.1)).Pairwise (fun p q => ¬ (p.a = q.a ∧ p.b = q.b)) → ∀ q ∈ l, gL l q.1.a q.1.b = some q.2
  | [], _, q, hq => by simp at hq
  | x :: l, h, q, hq => by
    rw [List.map_cons, List.pairwise_cons] at h
    rcases List.mem_cons.1 hq with rfl | hq
    · have : gL l q.1.a q.1.b = none := gL_none (fun y hy c => h.1 y.1 (List.mem_map.2 ⟨y, hy, rfl⟩) ⟨c.1.symm, c.2.symm⟩)
      simp [gL, this]
    · have := gL_mem h.2 q hq
      simp [gL, this]
/-- The fold of a proof's nodes whose parts lie in the range. -/
def fz (l : List (Sp × Nd)) : Fo := l.foldl (fun z q => if q.1.i then tog z q.2.fold else z) .zero
theorem finN_fz {nd : Sp → Nd} : ∀ (l : List (Sp × Nd)) (z : Fo), (∀ q ∈ l, nd q.1 = q.2) → (l.map (·.1)).foldl (fun z p => if p.i then tog z (nd p).fold else z) z = l.foldl (fun z q => if q.1.i then tog z q.2.fold else z) z
  | [], _, _ => rfl
  | q :: l, z, h => by
    simp only [List.map_cons, List.foldl_cons]
    rw [h q (by simp)]
    exact finN_fz l _ (fun x hx => h x (by simp [hx]))
theorem zip_fst {l : List Sp} {ns : List Nd} (h : ns.length = l.length) : (l.zip ns).map (·.1) = l := List.map_fst_zip (by omega)
/-- By the source of a proof. -/
def ndP (l : List Sp) (ns : List Nd) (p : Sp) : Nd := (gL (l.zip ns) p.a p.b).getD .E
theorem ndP_mem {n f t : Nat} {ns : List Nd} (h : ns.length = (cov 0 n f t).length) : ∀ q ∈ (cov 0 n f t).zip ns, gL ((cov 0 n f t).zip ns) q.1.a q.1.b = some q.2 ∧ ndP (cov 0 n f t) ns q.1 = q.2 := fun q hq => by
  have := gL_mem (l := (cov 0 n f t).zip ns) (by rw [zip_fst h]; exact cov_distinct f t n) q hq
  exact ⟨this, by rw [ndP, this]; rfl⟩
theorem ndP_comes {n f t : Nat} {ns : List Nd} (h : ns.length = (cov 0 n f t).length) (hok : ∀ d ∈ ns, d.ok = true) : ∀ p ∈ cov 0 n f t, Comes (gL ((cov 0 n f t).zip ns)) p.a p.b (ndP (cov 0 n f t) ns p) ∧ (ndP (cov 0 n f t) ns p).ok = true := fun p hp => by
  have hp' : p ∈ ((cov 0 n f t).zip ns).map (·.1) := by rw [zip_fst h]; exact hp
  obtain ⟨q, hq, rfl⟩ := List.mem_map.1 hp'
  obtain ⟨h1, h2⟩ := ndP_mem h q hq
  rw [h2]
  exact ⟨.known h1, hok _ (List.of_mem_zip hq).2⟩
theorem ndP_fold {n f t : Nat} {ns : List Nd} (h : ns.length = (cov 0 n f t).length) : finN (ndP (cov 0 n f t) ns) (cov 0 n f t) = fz ((cov 0 n f t).zip ns) := by
  have := finN_fz (nd := ndP (cov 0 n f t) ns) ((cov 0 n f t).zip ns) .zero (fun q hq => (ndP_mem h q hq).2)
  rw [zip_fst h] at this
  exact this

theorem capP {w : World} {base : Nat} {e : TypeId} {sz n : Nat} {v : Value} {xs : List Value} (h : w.ownsRow base e sz v n xs) : ∃ ao cap, v = .slice ao n cap ∧ n ≤ cap ∧ cap ≤ 9223372036854775807 := by
  rcases h.2 with ⟨rfl, rfl⟩ | ⟨g, cap, _, rfl, _, _, h1, h2, _⟩
  · exact ⟨none, 0, rfl, by omega, by omega⟩
  · exact ⟨_, cap, rfl, h1, by unfold maxLen at h2; omega⟩
/-- What readTree answers: an error, or a source. -/
def rtE (n f t : Nat) (o : Option (List Nd)) : Int :=
  match o with
  | none => 7
  | some ns => if ns.length = (cov 0 n f t).length then if (cm 0 n f t ns).ok then 0 else 6 else 8
def rtPost (n f t : Nat) (o : Option (List Nd)) (w : World) (e : Ending) (w' : World) : Prop :=
  Below w.heap.size w w' ∧ if rtE n f t o = 0 then ∃ ns B M, o = some ns ∧ e = .returned (.tuple #[cloV 117 B, .int .i64 0]) ∧ pfK B M (gL ((cov 0 n f t).zip ns)) w' else e = .returned (.tuple #[.nilFunc, .int .i64 (rtE n f t o)])

set_option maxHeartbeats 2000000 in
set_option maxRecDepth 100000 in
theorem readTree_any (n f t : Nat) (p : ByteArray) (w : World) (hn : n ≤ 64) (ht : t ≤ n) (hs : p.size ≤ maxLen) :
    Calls Tryz.prog 64 #[.int .i64 n, paV f t, .string p] w (rtPost n f t (readR p.data.toList) w) := by
  have HR : ∀ w', Hid (Calls Tryz.prog 60 #[.string p] w' (readPost (readR p.data.toList) w')) := fun w' => hid (readProof_any p w' hs)
  have hB0 : Below w.heap.size w (w.alloc (.cells #[.int .i64 f, .int .i64 t] 112)) := (Below.refl _ _).alloc (Nat.le_refl _) _
  cases ho : readR p.data.toList with
  | none =>
    rw [ho] at HR
    have HB0 := hid hB0
    clear hB0
    unfold paV
    go_enter Tryz.func64, Tryz.ntmps64
    go_wp2_with fail
    refine (HR _).out.mono ?_
    rintro e w1 ⟨rfl, hb1⟩
    have HB1 := hid (HB0.out.trans (hb1.mono (by simp)))
    clear hb1 HR HB0
    go_wp2
    go_ret2
    exact ⟨HB1.out, by rw [if_neg (by simp [rtE])]; rfl⟩
  | some ns =>
    rw [ho] at HR
    obtain ⟨hl64, hall, _⟩ := write_read _ _ ho
    have hok : ∀ d ∈ ns, d.ok = true := List.all_eq_true.1 hall
    have HOf : ∀ ao cap w', Hid (w'.ownsRow w.heap.size 46 6 (.slice ao ns.length cap) ns.length (ns.flatMap Nd.cells) → ns.length ≤ cap → cap ≤ 9223372036854775807 → Calls Tryz.prog 95 #[.int .i64 n, paV f t, .slice ao ns.length cap] w' (ofPost ns (cov 0 n f t) w')) := fun ao cap w' => hid fun h1 h2 h3 => ofProof_any n f t ao cap ns hn ht w' h2 h3 (Nodes.own h1 (by omega))
    have hb1 : ∀ w1, Below (w.alloc (.cells #[.int .i64 f, .int .i64 t] 112)).heap.size (w.alloc (.cells #[.int .i64 f, .int .i64 t] 112)) w1 → Below w.heap.size w w1 ∧ PaAt w1 w.heap.size f t := fun w1 hb => ⟨hB0.trans (hb.mono (by simp)), (PaAt.at w _ rfl f t).below hb⟩
    have HB1 := hid hb1
    by_cases hlen : ns.length = (cov 0 n f t).length
    · have hcm := comes_cm f t n 0 n ns [] [] (by omega) (by omega) hn (by omega) hok (fun _ => ⟨rfl, rfl⟩) (by simp) (by simp)
      simp only [List.nil_append, List.append_nil] at hcm
      have HN : ∀ B M w', Hid (pfK B M (gL ((cov 0 n f t).zip ns)) w' → Calls Tryz.prog 96 #[paV 0 n, cloV 117 B] w' fun e w2 => e = .returned (ndV (cm 0 n f t ns)) ∧ Below w'.heap.size w' w2) := fun B M w' => hid fun h => node_any (prf_src B M n _ hn) hn hcm w' h (by omega) (Nat.le_refl _)
      have HE : Hid (rtE n f t (some ns) = if (cm 0 n f t ns).ok then 0 else 6) := hid (by simp only [rtE]; rw [if_pos hlen])
      have HM : ∀ w', Hid (Calls Tryz.prog 89 #[ndV (cm 0 n f t ns)] w' fun e w2 => e = .returned (.bool (cm 0 n f t ns).ok) ∧ Below w'.heap.size w' w2) := fun w' => hid (mayBe_any _ w' _ rfl)
      have HPK : Hid (∀ B M w' w2, pfK B M (gL ((cov 0 n f t).zip ns)) w' → Below w'.heap.size w' w2 → pfK B M (gL ((cov 0 n f t).zip ns)) w2) := hid fun B M w' w2 h1 h2 => h1.later h2
      have HLEN := hid hlen
      clear hb1 hB0 hcm hok hall hlen
      generalize cm 0 n f t ns = d at HN HM HE
      unfold paV ndV at HN
      unfold ndV at HM
      unfold paV at HOf ⊢
      simp only [Int.ofNat_zero] at HN
      go_enter Tryz.func64, Tryz.ntmps64
      go_wp2_with fail
      refine (HR _).out.mono ?_
      rintro e w1 ⟨v, rfl, hown, hb⟩
      obtain ⟨hB1, hP1⟩ := HB1.out w1 hb
      obtain ⟨ao, cap, rfl, hc1, hc2⟩ := capP hown
      have HOW := hid (own_mono hown (show w.heap.size ≤ _ by simp))
      have hpc := hP1.cells
      have HBB := hid hB1
      clear hown hb hB1 hP1 HR HB1
      go_wp2_with fail
      refine ((HOf ao cap w1).out HOW.out hc1 hc2).mono ?_
      intro e w2 hp
      unfold ofPost at hp
      rw [if_pos HLEN.out] at hp
      obtain ⟨B, M, rfl, hK, hb2⟩ := hp
      have HK := hid hK
      have HBC := hid (HBB.out.trans (hb2.mono HBB.out.size))
      clear hb2 HBB HOf HOW hpc hK
      go_wp2_with fail
      refine ((HN B M w2).out HK.out).mono ?_
      rintro e w3 ⟨rfl, hb3⟩
      have HK3 := hid (HPK.out B M w2 w3 HK.out hb3)
      have HBD := hid (HBC.out.trans (hb3.mono HBC.out.size))
      clear hb3 HBC HN HK
      go_wp2_with fail
      refine (HM _).out.mono ?_
      rintro e w4 ⟨rfl, hb4⟩
      have HK4 := hid (HPK.out B M w3 w4 HK3.out hb4)
      have HBE := hid (HBD.out.trans (hb4.mono HBD.out.size))
      clear hb4 HBD HM HK3 HPK
      cases hd : d.ok with
      | true =>
        go_wp2
        go_ret2
        have hE := HE.out
        rw [hd, if_pos rfl] at hE
        exact ⟨HBE.out, by rw [if_pos hE]; exact ⟨ns, B, M, rfl, rfl, HK4.out⟩⟩
      | false =>
        go_wp2
        go_ret2
        have hE := HE.out
        rw [hd, if_neg (by simp)] at hE
        exact ⟨HBE.out, by rw [hE, if_neg (by decide)]; rfl⟩
    · have HE : Hid (rtE n f t (some ns) = 8) := hid (by simp only [rtE]; rw [if_neg hlen])
      have HLEN := hid hlen
      clear hb1 hB0 hok hall hlen
      unfold paV at HOf ⊢
      go_enter Tryz.func64, Tryz.ntmps64
      go_wp2_with fail
      refine (HR _).out.mono ?_
      rintro e w1 ⟨v, rfl, hown, hb⟩
      obtain ⟨hB1, hP1⟩ := HB1.out w1 hb
      obtain ⟨ao, cap, rfl, hc1, hc2⟩ := capP hown
      have HOW := hid (own_mono hown (show w.heap.size ≤ _ by simp))
      have hpc := hP1.cells
      have HBB := hid hB1
      clear hown hb hB1 hP1 HR HB1
      go_wp2_with fail
      refine ((HOf ao cap w1).out HOW.out hc1 hc2).mono ?_
      intro e w2 hp
      unfold ofPost at hp
      rw [if_neg HLEN.out] at hp
      obtain ⟨rfl, hb2⟩ := hp
      have HBC := hid (HBB.out.trans (hb2.mono HBB.out.size))
      clear hb2 HBB HOf HOW hpc
      go_wp2
      go_ret2
      exact ⟨HBC.out, by rw [HE.out, if_neg (by decide)]; rfl⟩

end Go.Proofs.YtlggbcceoejkkaaGreat

