/- What keep of the law's world does. -/
import Derived.Test.YtogmdaopfnmobaaP13
namespace Go.Proofs.Ytogmdaopfnmobaa
end Go.Proofs.Ytogmdaopfnmobaa

/- What looks of the law's world does. -/
namespace Go.Proofs.Ytogmdaopfnmobaa
end Go.Proofs.Ytogmdaopfnmobaa

/- An append, and what is still there behind it: for slices that are appended to again and again from one beginning. -/
namespace Go.Proofs.Ytogmdaopfnmobaa
open Go.RowKit

/-- Behind an append to v: v' lies in v's block, or in a new one and nothing old has turned. -/
structure More (w : World) (v : Value) (w' : World) (v' : Value) : Prop where
  grew : Grew w v w' v'
  new : v'.ownBlock = v.ownBlock ∨ ∀ k, k < w.heap.size → w'.heap[k]? = w.heap[k]?

section
variable {P : Program} (w : World)
theorem run_append_more (base : Nat) (t ty e : TypeId) (i : TypeInfo) (z : Value) (size bytes : Nat) (ht : P.underlying t = some (.slice e)) (hi : P.info? e = some i) (hz : i.zero = some z)
    (hsize : i.size = size) (hby : i.bytes = bytes) (hzs : z.cells.size = size) (hsz : 0 < size)
    (v : Value) (n : Nat) (xs : List Value) (hown : w.ownsRow base e size v n xs)
    (a : Addr) (m c : Nat) (news : List Value) (hl : news.length = m * size) (hnews : ∀ j u, news[j]? = some u → w.cell? (a.add j) = some u) (h1 : ∀ u ∈ news, u.oneCell' = true)
    (h63 : n + m ≤ maxLen) (hbytes : (n + m) * bytes ≤ 140737488355328) (hbase : base ≤ w.heap.size) :
    ∃ v' w', (Builtin.append_ #[t, t] ty #[v, .slice (some a) m c]).run P w = .ok v' w' ∧ w'.ownsRow base e size v' (n + m) (xs ++ news) ∧ More w v w' v' ∧ w'.ownsRow base e size v n xs := by
  obtain ⟨v', w', hr, ho, hg, hn⟩ := run_append_grew (P := P) w base t ty e i z size bytes ht hi hz hsize hby hzs hsz v n xs hown a m c news hl hnews h1 h63 hbytes hbase
  refine ⟨v', w', hr, ho, ⟨hg, ?_⟩, append_keeps w w' base t ty e i z size bytes ht hi hz hsize hby hsz v v' n xs hown a m c news hl hnews h1 h63 hbytes hr⟩
  subst hsize
  subst hby
  have hsmall : n + m ≤ 9223372036854775807 := by simp only [maxLen] at h63; omega
  rcases hown.2 with ⟨rfl, rfl⟩ | ⟨g, cap, cur, rfl, hbg, hgg, hnc, hcm, hcs, htake⟩
  · by_cases hm : m = 0
    · left; rw [hn.2 ⟨rfl, hm⟩]
    · have hr2 := run_append_nil (P := P) w t ty e i z ht hi hz a m c news hl hnews (by omega) (by omega) (by have hb := hbytes; simp only [Nat.zero_add] at hb; omega)
      rw [hr] at hr2
      injection hr2 with e1 e2
      right; intro k hk
      rw [e2]
      exact Below.heap_alloc w.drew _ k hk
  · by_cases hroom : n + m ≤ cap
    · have hfit : n * i.size + news.length ≤ cur.size := by rw [hl, hcs, ← Nat.add_mul]; exact Nat.mul_le_mul_right _ hroom
      have hr2 := run_append_room (P := P) w t ty e i ht hi g n cap cur hgg a m c news hl hnews h1 hroom hfit
      rw [hr] at hr2
      injection hr2 with e1 e2
      left; rw [e1]; simp [Value.ownBlock]
    · have holds : ∀ j u, xs[j]? = some u → w.cell? ((⟨g, 0, none⟩ : Addr).add j) = some u := hown.cells (g := g) rfl
      have hr2 := run_append_grow (P := P) w t ty e i z ht hi hz ⟨g, 0, none⟩ n cap xs hown.1 holds a m c news hl hnews (by omega) (by omega) (growslice_fits (by omega) hbytes)
      rw [hr] at hr2
      injection hr2 with e1 e2
      right; intro k hk
      rw [e2]
      exact Below.heap_alloc w.drew _ k hk

theorem wpList_append_more {ops : Array Oper} {rest : List Oper} {o : Oper} {a : Act} {Q : Exit → Act → World → Prop} (hgd : o.guard = none) (s x : Operand) (t : TypeId)
    (ho : o.op = .call { callee := .builtin .append, args := #[s, x], argTypes := #[t, t] })
    (base : Nat) (e : TypeId) (i : TypeInfo) (z : Value) (size bytes : Nat) (ht : P.underlying t = some (.slice e)) (hi : P.info? e = some i) (hz : i.zero = some z)
    (hsize : i.size = size) (hby : i.bytes = bytes) (hzs : z.cells.size = size) (hsz : 0 < size)
    (v : Value) (n : Nat) (xs : List Value) (hs : a.eval s = v) (hown : w.ownsRow base e size v n xs)
    (ad : Addr) (m c : Nat) (news : List Value) (hx : a.eval x = .slice (some ad) m c) (hl : news.length = m * size) (hnews : ∀ j u, news[j]? = some u → w.cell? (ad.add j) = some u) (h1 : ∀ u ∈ news, u.oneCell' = true)
    (h63 : n + m ≤ maxLen) (hbytes : (n + m) * bytes ≤ 140737488355328) (hbase : base ≤ w.heap.size)
    (h : ∀ v' w', w'.ownsRow base e size v' (n + m) (xs ++ news) → More w v w' v' → w'.ownsRow base e size v n xs → wpList P ops Q rest (a.put o.dst v') w') : wpList P ops Q (o :: rest) a w :=
  wpList_plain hgd fun _ hK => by
    obtain ⟨v', w', hr, h2, h3, h4⟩ := run_append_more (P := P) w base t o.type e i z size bytes ht hi hz hsize hby hzs hsz v n xs hown ad m c news hl hnews h1 h63 hbytes hbase
    unfold Oper.wp execOp
    simp only [ho, resolve, invoke, builtin, Sem.run_bind, Sem.run_pure, Result.andThen_ok, List.map_toArray, List.map_cons, List.map_nil, hs, hx, hr]
    exact hK _ _ (h v' w' h2 h3 h4)
end

/-- The capacities of two slices that own one block are the same. -/
theorem own_cap {w : World} {base g n n' c c' : Nat} {xs xs' : List Value} (h : w.ownsRow base 33 6 (.slice (some ⟨g, 0, none⟩) n c) n xs) (h' : w.ownsRow base 33 6 (.slice (some ⟨g, 0, none⟩) n' c') n' xs') : c = c' := by
  rcases h.2 with ⟨e, _⟩ | ⟨g1, c1, cur, e, _, hg, _, _, hs, _⟩
  · simp at e
  · rcases h'.2 with ⟨e', _⟩ | ⟨g2, c2, cur', e', _, hg', _, _, hs', _⟩
    · simp at e'
    · simp only [Value.slice.injEq, Option.some.injEq, Addr.mk.injEq, true_and, and_true] at e e'
      obtain ⟨rfl, rfl⟩ := e
      obtain ⟨rfl, rfl⟩ := e'
      rw [hg] at hg'
      simp only [Option.some.injEq, Obj.cells.injEq] at hg'
      rw [← hg'.1] at hs'
      omega

/-- A longer slice made from v by an earlier append still reads all marks behind a later one. -/
theorem marks_stay {w w' : World} {base n j j' : Nat} {v x y : Value} {d : Nd} (hx : w.ownsRow base 33 6 x (n + j) ((List.replicate (n + j) d).flatMap Nd.cells)) (hv : w.ownsRow base 33 6 v n ((List.replicate n d).flatMap Nd.cells))
    (hm : More w v w' y) (hy : w'.ownsRow base 33 6 y (n + j') ((List.replicate (n + j') d).flatMap Nd.cells)) (hv' : w'.ownsRow base 33 6 v n ((List.replicate n d).flatMap Nd.cells)) (hjj : j ≤ j') :
    w'.ownsRow base 33 6 x (n + j) ((List.replicate (n + j) d).flatMap Nd.cells) := by
  by_cases hsame : x.ownBlock = v.ownBlock
  · rcases hm.new with hyb | hold
    · rcases hx.2 with ⟨rfl, h0⟩ | ⟨g, c, cur, rfl, _, hg, _⟩
      · exact ⟨hx.1, .inl ⟨rfl, h0⟩⟩
      · rcases hv.2 with ⟨rfl, h0⟩ | ⟨g2, c2, cur2, rfl, _, hg2, _⟩
        · simp [Value.ownBlock] at hsame
        · rcases hy.2 with ⟨rfl, h0⟩ | ⟨g3, c3, cur3, rfl, hb3, hg3, _⟩
          · simp [Value.ownBlock] at hyb
          · simp only [Value.ownBlock, Option.some.injEq] at hsame hyb
            subst hsame; subst hyb
            have e1 := own_cap hx hv
            have e2 := own_cap hy hv'
            have ec : c = c3 := e1.trans e2.symm
            obtain ⟨rest, hbk, hr, hnc, hcm, hbb⟩ := Blk.of hy (by simp)
            have h := hbk.own (base := base) (cap := c3) (n := n + j) (by simpa using hr) (by simp; omega) hcm hbb
            rw [ec]
            simpa [List.take_replicate, Nat.min_eq_left (show n + j ≤ n + j' by omega)] using h
    · exact own_keep hx fun k hk => hold k (own_in hx k hk).2
  · exact own_keep hx fun k hk => hm.grew.grown.block k (own_in hx k hk).2 (fun c => hsame ((mem_ob.1 hk).trans c))

end Go.Proofs.Ytogmdaopfnmobaa

/- What settle of the law's world does. -/
namespace Go.Proofs.Ytogmdaopfnmobaa
end Go.Proofs.Ytogmdaopfnmobaa

