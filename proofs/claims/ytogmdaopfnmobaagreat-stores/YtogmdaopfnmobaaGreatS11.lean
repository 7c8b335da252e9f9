/- What looks of the law's world does. -/
import Derived.Test.YtogmdaopfnmobaaGreatS10
namespace Go.Proofs.YtogmdaopfnmobaaGreat
open Go.RowKit
theorem nodes_own {w : World} {base : Nat} {v : Value} {l : List Nd} (h : w.ownsRow base 51 6 v l.length (l.flatMap Nd.cells)) (hl : l.length ≤ 9000000) : Nodes w w.heap.size v l := by
  constructor
  rcases h.2 with ⟨rfl, h0⟩ | ⟨g, cap, cur, rfl, _, hg, _⟩
  · exact ⟨none, 0, by rw [h0], by omega, fun i hi => by omega⟩
  · obtain ⟨rest, hb, _⟩ := Blk.of h rfl
    refine ⟨_, cap, rfl, by omega, fun i hi => ⟨g, 0, rfl, hb.lt, fun j hj => ?_⟩⟩
    rw [Nat.zero_add, hb.cell hi hj, List.getElem?_eq_getElem]
theorem bcells_len (b : Bk) : b.cells.length = 10 := rfl
theorem brow_get (L : List Bk) : ∀ (i j : Nat) (hi : i < L.length) (_ : j < 10), (L.flatMap Bk.cells)[i * 10 + j]? = (L[i]).cells[j]? := by
  induction L with
  | nil => intro i j hi; simp at hi
  | cons d r ih =>
    intro i j hi hj
    cases i with
    | zero =>
      simp only [List.flatMap_cons, Nat.zero_mul, Nat.zero_add, List.getElem_cons_zero]
      rw [List.getElem?_append_left (by rw [bcells_len]; omega)]
    | succ i =>
      simp only [List.flatMap_cons, List.getElem_cons_succ]
      rw [List.getElem?_append_right (by rw [bcells_len]; omega), bcells_len, show (i + 1) * 10 + j - 10 = i * 10 + j from by omega]
      exact ih i j (by simpa using hi) hj
theorem book_cells {w : World} {base : Nat} {bv : Value} {Bs : List Bk} (h : w.ownsRow base 119 10 bv Bs.length (Bs.flatMap Bk.cells)) {k : Nat} {b : Bk} (hk : k < Bs.length) (hb : b = Bs[k]) : ∃ g cap, bv = .slice (some ⟨g, 0, none⟩) Bs.length cap ∧ g < w.heap.size ∧
    (w.cell? ⟨g, k * 10, none⟩ = some (.int .i64 (-1)) ∧ w.cell? ⟨g, k * 10 + 1, none⟩ = some (.int .i64 b.m) ∧ w.cell? ⟨g, k * 10 + 2, none⟩ = some (.int .i64 0) ∧ w.cell? ⟨g, k * 10 + 3, none⟩ = some (.int .i64 0) ∧ w.cell? ⟨g, k * 10 + 4, none⟩ = some (.int .u8 0) ∧
    w.cell? ⟨g, k * 10 + 5, none⟩ = some (.int .u8 0) ∧ w.cell? ⟨g, k * 10 + 6, none⟩ = some b.x0 ∧ w.cell? ⟨g, k * 10 + 7, none⟩ = some b.x1 ∧ w.cell? ⟨g, k * 10 + 8, none⟩ = some b.x2 ∧ w.cell? ⟨g, k * 10 + 9, none⟩ = some b.x3) := by
  subst hb
  rcases h.2 with ⟨rfl, h0⟩ | ⟨g, cap, cur, rfl, _, hg, _⟩
  · omega
  · have key : ∀ j, j < 10 → w.cell? ⟨g, k * 10 + j, none⟩ = (Bs[k]).cells[j]? := fun j hj => by
      have hu : ∃ u, (Bs[k]).cells[j]? = some u := ⟨_, List.getElem?_eq_getElem (by rw [bcells_len]; exact hj)⟩
      obtain ⟨u, hu⟩ := hu
      have := h.cells (g := g) rfl (k * 10 + j) u (by rw [brow_get Bs k j hk hj]; exact hu)
      rw [WideShapes.add_plain, Nat.zero_add] at this
      rw [this, hu]
    exact ⟨g, cap, rfl, (Array.getElem?_eq_some_iff.1 hg).1, key 0 (by omega), key 1 (by omega), key 2 (by omega), key 3 (by omega), key 4 (by omega), key 5 (by omega), key 6 (by omega), key 7 (by omega), key 8 (by omega), key 9 (by omega)⟩
theorem marked_shape {w : World} {base : Nat} {v : Value} {m : Int} (h : Marked w base v m) : ∃ a n c, v = .slice a n c := by
  obtain ⟨n, _, h⟩ := h
  obtain ⟨a, c, e⟩ := own_shape h
  exact ⟨a, n, c, e⟩
theorem all_marked {w w' : World} {base : Nat} {v : Value} {m : Int} (h : Marked w base v m) (hb : Below w.heap.size w w') :
    Calls Tryz.prog 60 #[v, .agg #[.int .i64 (-1), .int .i64 m, .int .i64 0, .int .i64 0, .int .u8 0, .int .u8 0]] w' fun e w'' => e = .returned (.bool true) ∧ Below w'.heap.size w' w'' := by
  obtain ⟨n, hn, h⟩ := h
  have h' := ownsRow_below h hb
  have e : (List.replicate n (Mk m)).length = n := by simp
  rw [← e] at h'
  rw [e] at h'
  exact all_any v m (List.replicate n (Mk m)) w' (nodes_own (by rw [e]; exact h') (by rw [e]; omega)) (fun d hd => (List.mem_replicate.1 hd).2)
set_option maxHeartbeats 2000000 in
set_option maxRecDepth 100000 in
theorem looks_any (w : World) (A base : Nat) (sv : Value) (m : Nat) (wv ev bv : Value) (Ws Es : List Value) (Ls : List (List Nd)) (Bs : List Bk) (hI : Inv w A base sv (.slice none 0 0) m wv ev bv Ws Es Ls Bs) (hbl : Bs.length ≤ 20000000) :
    Calls Tryz.prog 23 #[.pointer (some ⟨A, 0, none⟩)] w fun e w' => e = .returned (.bool true) ∧ Below w.heap.size w w' := by
  obtain ⟨ao, cap, rfl⟩ := own_shape hI.hB
  have hAl := (hI.fp A (by simp [fpOf])).2
  go_enter Tryz.func23, Tryz.ntmps23
  go_wp2
  go_loopw [3] (fun i wr => ∃ k : Nat, k ≤ Bs.length ∧ i = .int .i64 k ∧ Below w.heap.size w wr) (fun i _ => Bs.length - (intOf i).toNat)
  case atStart => exact ⟨0, Nat.zero_le _, rfl, Below.refl _ _⟩
  case round =>
    obtain ⟨k, hk, rfl, hb⟩ := hrel
    have hIr := hI.below hb
    have hs := hb.size
    obtain ⟨⟨_, _, _, _, c4, c5⟩, _⟩ := hIr.cells
    by_cases hlt : k < Bs.length
    · obtain ⟨b, hbk⟩ : ∃ b, b = Bs[k] := ⟨_, rfl⟩
      obtain ⟨m0, m1, m2, m3, _⟩ := hI.bk b (by rw [hbk]; exact List.getElem_mem hlt)
      obtain ⟨g, cap', hv, hgl, d0, d1, d2, d3, d4, d5, d6, d7, d8, d9⟩ := book_cells hIr.hB hlt hbk
      simp only [Value.slice.injEq, true_and] at hv
      obtain ⟨rfl, rfl⟩ := hv
      obtain ⟨a0, n0, p0, e0⟩ := marked_shape m0
      obtain ⟨a1, n1, p1, e1⟩ := marked_shape m1
      obtain ⟨a2, n2, p2, e2⟩ := marked_shape m2
      obtain ⟨a3, n3, p3, e3⟩ := marked_shape m3
      rw [e0] at d6 m0
      rw [e1] at d7 m1
      rw [e2] at d8 m2
      rw [e3] at d9 m3
      clear hbk hI hIr c5 e0 e1 e2 e3
      go_wp2_with fail
      refine (all_marked m0 (hb.alloc hs _)).mono ?_
      rintro e w1 ⟨rfl, hb1⟩
      have q1 := oldc hb1
      have r1 : wr.heap.size < w1.heap.size := by have := hb1.size; simp at this; omega
      have B1 : Below w.heap.size w w1 := (hb.alloc hs _).trans (hb1.mono (by simp; omega))
      go_wp2_with fail
      refine (all_marked m1 B1).mono ?_
      rintro e w2 ⟨rfl, hb2⟩
      have q2 := oldc hb2
      have r2 : wr.heap.size < w2.heap.size := by have := hb2.size; omega
      have B2 : Below w.heap.size w w2 := B1.trans (hb2.mono B1.size)
      go_wp2_with fail
      refine (all_marked m2 B2).mono ?_
      rintro e w3 ⟨rfl, hb3⟩
      have q3 := oldc hb3
      have r3 : wr.heap.size < w3.heap.size := by have := hb3.size; omega
      have B3 : Below w.heap.size w w3 := B2.trans (hb3.mono B2.size)
      go_wp2_with fail
      refine (all_marked m3 B3).mono ?_
      rintro e w4 ⟨rfl, hb4⟩
      have B4 : Below w.heap.size w w4 := B3.trans (hb4.mono B3.size)
      clear q1 q2 q3 hb1 hb2 hb3 hb4 B1 B2 B3 d0 d1 d2 d3 d4 d5 d6 d7 d8 d9 m0 m1 m2 m3
      go_wp2
      go_roundw
      case rel => exact ⟨k + 1, by omega, by go_num, B4⟩
      case measure => simp [intOf]; omega
    · clear hI hIr
      go_wp2
      go_loopw [9] (fun i wq => i = .int .i64 0 ∧ wq = wr) (fun _ _ => 0)
      case atStart => exact ⟨rfl, rfl⟩
      case round =>
        obtain ⟨rfl, rfl⟩ := hrel
        go_wp2
        go_ret
        exact ⟨rfl, hb⟩
end Go.Proofs.YtogmdaopfnmobaaGreat

/- An append, and what is still there behind it: for slices that are appended to again and again from one beginning. -/
namespace Go.Proofs.YtogmdaopfnmobaaGreat
open Go.RowKit
structure More (w : World) (v : Value) (w' : World) (v' : Value) : Prop where
  grew : Grew w v w' v'
  new : v'.ownBlock = v.ownBlock ∨ ∀ k, k < w.heap.size → w'.heap[k]? = w.heap[k]?
section
variable {P : Program} (w : World)
theorem run_append_more (base : Nat) (t ty e : TypeId) (i : TypeInfo) (z : Value) (size bytes : Nat) (ht : P.underlying t = some (.slice e)) (hi : P.info? e = some i) (hz : i.zero = some z)
    (hsize : i.size = size) (hby : i.bytes = bytes) (hzs : z.cells.size = size) (hsz : 0 < size)
    (v : Value) (n : Nat) (xs : List Value) (hown : w.ownsRow base e size v n xs)
    (a : Addr) (m c : Nat) (news : List Value) (hl : news.length = m * size) (hnews : ∀ j u, news[j]? = some u → w.cell? (a.add j) = some u) (h1 : ∀ u ∈ news, u.oneCell' = true)
    (h63 : n + m ≤ maxLen) (hbytes : (n + m) * bytes ≤ 140737488355328) (hbase : base ≤ w.heap.size) :
    ∃ v' w', (Builtin.append_ #[t, t] ty #[v, .slice (some a) m c]).run P w = .ok v' w' ∧ w'.ownsRow base e size v' (n + m) (xs ++ news) ∧ More w v w' v' ∧ w'.ownsRow base e size v n xs := by
  obtain ⟨v', w', hr, ho, hg, hn⟩ := run_append_grew (P := P) w base t ty e i z size bytes ht hi hz hsize hby hzs hsz v n xs hown a m c news hl hnews h1 h63 hbytes hbase
  refine ⟨v', w', hr, ho, ⟨hg, ?_⟩, append_keeps w w' base t ty e i z size bytes ht hi hz hsize hby hsz v v' n xs hown a m c news hl hnews h1 h63 hbytes hr⟩
  subst hsize
  subst hby
  have hsmall : n + m ≤ 9223372036854775807 := by simp only [maxLen] at h63; omega
  rcases hown.2 with ⟨rfl, rfl⟩ | ⟨g, cap, cur, rfl, hbg, hgg, hnc, hcm, hcs, htake⟩
  · by_cases hm : m = 0
    · left; rw [hn.2 ⟨rfl, hm⟩]
    · have hr2 := run_append_nil (P := P) w t ty e i z ht hi hz a m c news hl hnews (by omega) (by omega) (by have hb := hbytes; simp only [Nat.zero_add] at hb; omega)
      rw [hr] at hr2
      injection hr2 with e1 e2
      right; intro k hk
      rw [e2]
      exact Below.heap_alloc w.drew _ k hk
  · by_cases hroom : n + m ≤ cap
    · have hfit : n * i.size + news.length ≤ cur.size := by rw [hl, hcs, ← Nat.add_mul]; exact Nat.mul_le_mul_right _ hroom
      have hr2 := run_append_room (P := P) w t ty e i ht hi g n cap cur hgg a m c news hl hnews h1 hroom hfit
      rw [hr] at hr2
      injection hr2 with e1 e2
      left; rw [e1]; simp [Value.ownBlock]
    · have holds : ∀ j u, xs[j]? = some u → w.cell? ((⟨g, 0, none⟩ : Addr).add j) = some u := hown.cells (g := g) rfl
      have hr2 := run_append_grow (P := P) w t ty e i z ht hi hz ⟨g, 0, none⟩ n cap xs hown.1 holds a m c news hl hnews (by omega) (by omega) (growslice_fits (by omega) hbytes)
      rw [hr] at hr2
      injection hr2 with e1 e2
      right; intro k hk
      rw [e2]
      exact Below.heap_alloc w.drew _ k hk
theorem wpList_append_more {ops : Array Oper} {rest : List Oper} {o : Oper} {a : Act} {Q : Exit → Act → World → Prop} (hgd : o.guard = none) (s x : Operand) (t : TypeId)
    (ho : o.op = .call { callee := .builtin .append, args := #[s, x], argTypes := #[t, t] })
    (base : Nat) (e : TypeId) (i : TypeInfo) (z : Value) (size bytes : Nat) (ht : P.underlying t = some (.slice e)) (hi : P.info? e = some i) (hz : i.zero = some z)
    (hsize : i.size = size) (hby : i.bytes = bytes) (hzs : z.cells.size = size) (hsz : 0 < size)
    (v : Value) (n : Nat) (xs : List Value) (hs : a.eval s = v) (hown : w.ownsRow base e size v n xs)
    (ad : Addr) (m c : Nat) (news : List Value) (hx : a.eval x = .slice (some ad) m c) (hl : news.length = m * size) (hnews : ∀ j u, news[j]? = some u → w.cell? (ad.add j) = some u) (h1 : ∀ u ∈ news, u.oneCell' = true)
    (h63 : n + m ≤ maxLen) (hbytes : (n + m) * bytes ≤ 140737488355328) (hbase : base ≤ w.heap.size)
    (h : ∀ v' w', w'.ownsRow base e size v' (n + m) (xs ++ news) → More w v w' v' → w'.ownsRow base e size v n xs → wpList P ops Q rest (a.put o.dst v') w') : wpList P ops Q (o :: rest) a w :=
  wpList_plain hgd fun _ hK => by
    obtain ⟨v', w', hr, h2, h3, h4⟩ := run_append_more (P := P) w base t o.type e i z size bytes ht hi hz hsize hby hzs hsz v n xs hown ad m c news hl hnews h1 h63 hbytes hbase
    unfold Oper.wp execOp
    simp only [ho, resolve, invoke, builtin, Sem.run_bind, Sem.run_pure, Result.andThen_ok, List.map_toArray, List.map_cons, List.map_nil, hs, hx, hr]
    exact hK _ _ (h v' w' h2 h3 h4)
end
theorem own_cap {w : World} {base g n n' c c' : Nat} {xs xs' : List Value} (h : w.ownsRow base 51 6 (.slice (some ⟨g, 0, none⟩) n c) n xs) (h' : w.ownsRow base 51 6 (.slice (some ⟨g, 0, none⟩) n' c') n' xs') : c = c' := by
  rcases h.2 with ⟨e, _⟩ | ⟨g1, c1, cur, e, _, hg, _, _, hs, _⟩
  · simp at e
  · rcases h'.2 with ⟨e', _⟩ | ⟨g2, c2, cur', e', _, hg', _, _, hs', _⟩
    · simp at e'
    · simp only [Value.slice.injEq, Option.some.injEq, Addr.mk.injEq, true_and, and_true] at e e'
      obtain ⟨rfl, rfl⟩ := e
      obtain ⟨rfl, rfl⟩ := e'
      rw [hg] at hg'
      simp only [Option.some.injEq, Obj.cells.injEq] at hg'
      rw [← hg'.1] at hs'
      omega
theorem marks_stay {w w' : World} {base n j j' : Nat} {v x y : Value} {d : Nd} (hx : w.ownsRow base 51 6 x (n + j) ((List.replicate (n + j) d).flatMap Nd.cells)) (hv : w.ownsRow base 51 6 v n ((List.replicate n d).flatMap Nd.cells))
    (hm : More w v w' y) (hy : w'.ownsRow base 51 6 y (n + j') ((List.replicate (n + j') d).flatMap Nd.cells)) (hv' : w'.ownsRow base 51 6 v n ((List.replicate n d).flatMap Nd.cells)) (hjj : j ≤ j') :
    w'.ownsRow base 51 6 x (n + j) ((List.replicate (n + j) d).flatMap Nd.cells) := by
  by_cases hsame : x.ownBlock = v.ownBlock
  · rcases hm.new with hyb | hold
    · rcases hx.2 with ⟨rfl, h0⟩ | ⟨g, c, cur, rfl, _, hg, _⟩
      · exact ⟨hx.1, .inl ⟨rfl, h0⟩⟩
      · rcases hv.2 with ⟨rfl, h0⟩ | ⟨g2, c2, cur2, rfl, _, hg2, _⟩
        · simp [Value.ownBlock] at hsame
        · rcases hy.2 with ⟨rfl, h0⟩ | ⟨g3, c3, cur3, rfl, hb3, hg3, _⟩
          · simp [Value.ownBlock] at hyb
          · simp only [Value.ownBlock, Option.some.injEq] at hsame hyb
            subst hsame; subst hyb
            have e1 := own_cap hx hv
            have e2 := own_cap hy hv'
            have ec : c = c3 := e1.trans e2.symm
            obtain ⟨rest, hbk, hr, hnc, hcm, hbb⟩ := Blk.of hy (by simp)
            have h := hbk.own (base := base) (cap := c3) (n := n + j) (by simpa using hr) (by simp; omega) hcm hbb
            rw [ec]
            simpa [List.take_replicate, Nat.min_eq_left (show n + j ≤ n + j' by omega)] using h
    · exact own_keep hx fun k hk => hold k (own_in hx k hk).2
  · exact own_keep hx fun k hk => hm.grew.grown.block k (own_in hx k hk).2 (fun c => hsame ((mem_ob.1 hk).trans c))
end Go.Proofs.YtogmdaopfnmobaaGreat

/- What settle of the law's world does. -/
namespace Go.Proofs.YtogmdaopfnmobaaGreat
open Go.RowKit
structure Inv2 (w : World) (A base : Nat) (sv lv : Value) (m : Nat) (wv ev bv : Value) (Ws : List Value) (Ls : List (List Nd)) (Bs : List Bk) (k : Nat) : Prop where
  hA : w.heap[A]? = some (.cells #[sv, .int .i64 m, wv, ev, bv, lv] 70 (0, 0))
  hAb : A < base
  hbs : base ≤ w.heap.size
  hW : w.ownsRow base 72 1 wv Ws.length Ws
  hB : w.ownsRow base 119 10 bv Bs.length (Bs.flatMap Bk.cells)
  len1 : Ws.length = Ls.length
  owW : ∀ (i : Nat) (h1 : i < Ws.length) (h2 : i < Ls.length), k ≤ i → w.ownsRow base 51 6 Ws[i] (Ls[i]).length ((Ls[i]).flatMap Nd.cells)
  d2 : ((Ws.drop k).flatMap ob).Nodup
  bk : ∀ b ∈ Bs, Marked w base b.x0 b.m ∧ Marked w base b.x1 b.m ∧ Marked w base b.x2 b.m ∧ Marked w base b.x3 b.m ∧ ∀ j ∈ b.blocks, j ∉ (Ws.drop k).flatMap ob
section
variable {w : World} {A base : Nat} {sv lv : Value} {m : Nat} {wv ev bv : Value} {Ws Es : List Value} {Ls : List (List Nd)} {Bs : List Bk} {k : Nat}
theorem Inv.begin (h : Inv w A base sv lv m wv ev bv Ws Es Ls Bs) : Inv2 w A base sv lv m wv ev bv Ws Ls Bs 0 :=
  ⟨h.hA, h.hAb, h.hbs, h.hW, h.hB, h.len1, fun i h1 h2 _ => h.owW i h1 h2, by simpa using h.d2, fun b hb => by simpa using h.bk b hb⟩
theorem Inv2.frame {w' : World} {m' : Nat} (h : Inv2 w A base sv lv m wv ev bv Ws Ls Bs k) (hk : k < Ws.length)
    (hA' : w'.heap[A]? = some (.cells #[sv, .int .i64 m', wv, ev, bv, lv] 70 (0, 0))) (hs : w.heap.size ≤ w'.heap.size)
    (hf : ∀ j, j < w.heap.size → j ≠ A → j ∉ ob Ws[k] → w'.heap[j]? = w.heap[j]?) : Inv2 w' A base sv lv m' wv ev bv Ws Ls Bs (k + 1) := by
  have hab := h.hAb
  have hbs := h.hbs
  have hk2 : k < Ls.length := by rw [← h.len1]; exact hk
  have hv := h.owW k hk hk2 (Nat.le_refl _)
  have hdrop : Ws.drop k = Ws[k] :: Ws.drop (k + 1) := List.drop_eq_getElem_cons hk
  have hnd := h.d2
  rw [hdrop, List.flatMap_cons, List.nodup_append] at hnd
  have keep : ∀ {x : Value} {e : TypeId} {sz n : Nat} {xs : List Value}, w.ownsRow base e sz x n xs → (∀ j ∈ ob x, j ∉ ob Ws[k]) → w'.ownsRow base e sz x n xs := fun hx hne =>
    own_keep hx fun j hj => hf j (own_in hx j hj).2 (by have := own_in hx j hj; omega) (hne j hj)
  refine ⟨hA', hab, by omega, keep h.hW (own_apart h.hW hv (by decide)), keep h.hB (own_apart h.hB hv (by decide)), h.len1, ?_, hnd.2.1, ?_⟩
  · intro i h1 h2 hi
    have hx := h.owW i h1 h2 (by omega)
    refine keep hx fun j hj c => hnd.2.2 j c j ?_ rfl
    rw [List.mem_flatMap]
    refine ⟨Ws[i], ?_, hj⟩
    rw [List.mem_drop_iff_getElem]
    exact ⟨i - (k + 1), by omega, by congr 1; omega⟩
  · intro b hb
    obtain ⟨m0, m1, m2, m3, hq⟩ := h.bk b hb
    have hq' : ∀ j ∈ b.blocks, j ∉ ob Ws[k] := fun j hj c => hq j hj (by rw [hdrop, List.flatMap_cons, List.mem_append]; exact .inl c)
    have km : ∀ {x : Value}, Marked w base x b.m → (∀ j ∈ ob x, j ∈ b.blocks) → Marked w' base x b.m := fun ⟨j, hj, hx⟩ hin => ⟨j, hj, keep hx fun i hi => hq' i (hin i hi)⟩
    refine ⟨km m0 fun j hj => by simp [Bk.blocks, hj], km m1 fun j hj => by simp [Bk.blocks, hj], km m2 fun j hj => by simp [Bk.blocks, hj], km m3 fun j hj => by simp [Bk.blocks, hj], fun j hj c => hq j hj ?_⟩
    rw [hdrop, List.flatMap_cons, List.mem_append]
    exact .inr c
theorem Inv2.book {w3 : World} {bv3 : Value} {b : Bk} (h : Inv2 w A base sv lv m wv ev bv Ws Ls Bs k) (hg : Grew w bv w3 bv3) (ho : w3.ownsRow base 119 10 bv3 (Bs.length + 1) (Bs.flatMap Bk.cells ++ b.cells))
    (hb : Marked w base b.x0 b.m ∧ Marked w base b.x1 b.m ∧ Marked w base b.x2 b.m ∧ Marked w base b.x3 b.m ∧ ∀ j ∈ b.blocks, j ∉ (Ws.drop k).flatMap ob) :
    Inv2 (w3.setCell ⟨A, 4, none⟩ bv3) A base sv lv m wv ev bv3 Ws Ls (Bs ++ [b]) k := by
  have hab := h.hAb
  have hbs := h.hbs
  have hAne : some A ≠ bv.ownBlock := fun c => by have := own_in h.hB A (mem_ob.2 c.symm); omega
  have hA3 : w3.heap[A]? = w.heap[A]? := hg.grown.block A (by omega) hAne
  have old : ∀ j, j < w.heap.size → j ∉ ob bv → base ≤ j → (w3.setCell ⟨A, 4, none⟩ bv3).heap[j]? = w.heap[j]? := fun j hj hn hbk =>
    (Below.heap_setCell _ _ _ _ (by show j ≠ A; omega)).trans (hg.grown.block j hj (fun c => hn (mem_ob.2 c.symm)))
  have keep : ∀ {x : Value} {e : TypeId} {sz n : Nat} {xs : List Value}, w.ownsRow base e sz x n xs → e ≠ 119 → (w3.setCell ⟨A, 4, none⟩ bv3).ownsRow base e sz x n xs := fun hx hne =>
    own_keep hx fun j hj => old j (own_in hx j hj).2 (own_apart hx h.hB hne j hj) (own_in hx j hj).1
  have keepM : ∀ {x : Value} {n : Int}, Marked w base x n → Marked (w3.setCell ⟨A, 4, none⟩ bv3) base x n := fun ⟨j, hj, hx⟩ => ⟨j, hj, keep hx (by decide)⟩
  refine ⟨?_, hab, ?_, keep h.hW (by decide), ?_, h.len1, fun i h1 h2 hi => keep (h.owW i h1 h2 hi) (by decide), h.d2, ?_⟩
  · rw [heap_set (hA3.trans h.hA)]; rfl
  · have := hg.grown.size; simp [World.setCell]; omega
  · have e : (Bs ++ [b]).length = Bs.length + 1 := by simp
    have e2 : (Bs ++ [b]).flatMap Bk.cells = Bs.flatMap Bk.cells ++ b.cells := by simp
    rw [e, e2]
    exact own_keep ho fun j hj => Below.heap_setCell _ _ _ _ (by have := own_in ho j hj; show j ≠ A; omega)
  · intro x hx
    rw [List.mem_append] at hx
    rcases hx with hx | hx
    · obtain ⟨m0, m1, m2, m3, hq⟩ := h.bk x hx
      exact ⟨keepM m0, keepM m1, keepM m2, keepM m3, hq⟩
    · simp only [List.mem_cons, List.not_mem_nil, or_false] at hx
      subst hx
      obtain ⟨m0, m1, m2, m3, hq⟩ := hb
      exact ⟨keepM m0, keepM m1, keepM m2, keepM m3, hq⟩
theorem Inv2.done (h : Inv2 w A base sv lv m wv ev bv Ws Ls Bs Ws.length) :
    Inv ((w.setCell ⟨A, 2, none⟩ (.slice none 0 0)).setCell ⟨A, 3, none⟩ (.slice none 0 0)) A base sv lv m (.slice none 0 0) (.slice none 0 0) bv [] [] [] Bs := by
  have hab := h.hAb
  have hk : ∀ j, j ≠ A → ((w.setCell ⟨A, 2, none⟩ (.slice none 0 0)).setCell ⟨A, 3, none⟩ (.slice none 0 0)).heap[j]? = w.heap[j]? := fun j hj => (Below.heap_setCell _ _ _ _ hj).trans (Below.heap_setCell _ _ _ _ hj)
  have keep : ∀ {x : Value} {e : TypeId} {sz n : Nat} {xs : List Value}, w.ownsRow base e sz x n xs → ((w.setCell ⟨A, 2, none⟩ (.slice none 0 0)).setCell ⟨A, 3, none⟩ (.slice none 0 0)).ownsRow base e sz x n xs := fun hx => own_keep hx fun j hj => hk j (by have := own_in hx j hj; omega)
  have keepM : ∀ {x : Value} {n : Int}, Marked w base x n → Marked ((w.setCell ⟨A, 2, none⟩ (.slice none 0 0)).setCell ⟨A, 3, none⟩ (.slice none 0 0)) base x n := fun ⟨j, hj, hx⟩ => ⟨j, hj, keep hx⟩
  refine ⟨by rw [heap_set (heap_set h.hA _)]; rfl, hab, by have := h.hbs; simpa [World.setCell] using this, World.ownsRow_nil _ _ _ _, World.ownsRow_nil _ _ _ _, keep h.hB, rfl, rfl, fun i h1 => by simp at h1, fun i h1 => by simp at h1, by simp [ob, Value.ownBlock], by simp, by simp, fun b hb => ?_⟩
  obtain ⟨m0, m1, m2, m3, _⟩ := h.bk b hb
  exact ⟨keepM m0, keepM m1, keepM m2, keepM m3, by simp⟩
theorem Inv2.below {w' : World} (h : Inv2 w A base sv lv m wv ev bv Ws Ls Bs k) (hb : Below w.heap.size w w') : Inv2 w' A base sv lv m wv ev bv Ws Ls Bs k := by
  have keep : ∀ {x : Value} {e : TypeId} {sz n : Nat} {xs : List Value}, w.ownsRow base e sz x n xs → w'.ownsRow base e sz x n xs := fun hx => ownsRow_below hx hb
  have keepM : ∀ {x : Value} {n : Int}, Marked w base x n → Marked w' base x n := fun ⟨j, hj, hx⟩ => ⟨j, hj, keep hx⟩
  have hbs := h.hbs
  have hab := h.hAb
  refine ⟨by rw [hb.block A (by omega)]; exact h.hA, hab, by have := hb.size; omega, keep h.hW, keep h.hB, h.len1, fun i h1 h2 hi => keep (h.owW i h1 h2 hi), h.d2, fun b hb' => ?_⟩
  obtain ⟨m0, m1, m2, m3, hq⟩ := h.bk b hb'
  exact ⟨keepM m0, keepM m1, keepM m2, keepM m3, hq⟩
theorem Inv2.cells (h : Inv2 w A base sv lv m wv ev bv Ws Ls Bs k) : (w.cell? ⟨A, 0, none⟩ = some sv ∧ w.cell? ⟨A, 1, none⟩ = some (.int .i64 m) ∧ w.cell? ⟨A, 2, none⟩ = some wv ∧ w.cell? ⟨A, 3, none⟩ = some ev ∧ w.cell? ⟨A, 4, none⟩ = some bv ∧ w.cell? ⟨A, 5, none⟩ = some lv) ∧ ∀ j, w.frozen? ⟨A, j, none⟩ = false := by
  have hA := h.hA
  refine ⟨⟨?_, ?_, ?_, ?_, ?_, ?_⟩, fun j => by simp [World.frozen?, hA]⟩ <;> rw [cell_of_row w A _ _ _ _ hA] <;> rfl
end
end Go.Proofs.YtogmdaopfnmobaaGreat

