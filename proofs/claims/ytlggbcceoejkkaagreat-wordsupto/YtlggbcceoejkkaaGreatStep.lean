/- One step of the law's world (kinds Hash, Write, Read). -/
import Derived.Test.YtlggbcceoejkkaaGreatWords3
namespace Go.Proofs.YtlggbcceoejkkaaGreat
open Go.RowKit

/-- A step of a script, as its cells are. -/
structure OpV where
  k : Int
  a : Int
  b : Int
  c : Int
  d : Int
  s : ByteArray
  hs : Int
  h0 : Int
  h1 : Int
  gs : Int
  g0 : Int
  g1 : Int
  f0 : Int
  f1 : Int
  f2 : Int
  f3 : Int
  nv : Value
  iv : Value
def OpV.cells (o : OpV) : List Value := [.int .i64 o.k, .int .i64 o.a, .int .i64 o.b, .int .i64 o.c, .int .i64 o.d, .string o.s, .int .i64 o.hs, .int .u8 o.h0, .int .u8 o.h1, .int .i64 o.gs, .int .u8 o.g0, .int .u8 o.g1, .int .i64 o.f0, .int .i64 o.f1, .int .i64 o.f2, .int .i64 o.f3, o.nv, o.iv]
def OpV.val (o : OpV) : Value := .agg #[.int .i64 o.k, .int .i64 o.a, .int .i64 o.b, .int .i64 o.c, .int .i64 o.d, .string o.s, .int .i64 o.hs, .int .u8 o.h0, .int .u8 o.h1, .int .i64 o.gs, .int .u8 o.g0, .int .u8 o.g1, .int .i64 o.f0, .int .i64 o.f1, .int .i64 o.f2, .int .i64 o.f3, o.nv, o.iv]

/-- What a step must be so that it can be played: its text and its list short, its list there to be read as long as nothing outside fp turns. -/
structure OpOk (w : World) (fp : List Nat) (o : OpV) : Prop where
  sz : o.s.size ≤ maxLen
  iv : ∃ x y z, o.iv = .slice x y z
  nv : o.nv = .slice none 0 0 ∨ ∃ ad cap l, o.nv = .slice (some ad) l.length cap ∧ l.length ≤ 2000000 ∧ ∀ w', Kept w w' fp → Nodes w' w'.heap.size (.slice (some ad) l.length cap) l

theorem OpOk.nvs {w : World} {fp : List Nat} {o : OpV} (h : OpOk w fp o) : ∃ x y z, o.nv = .slice x y z := by
  rcases h.nv with e | ⟨ad, cap, l, e, _⟩
  · exact ⟨_, _, _, e⟩
  · exact ⟨_, _, _, e⟩

theorem words_any (w : World) (A base : Nat) (sv lv : Value) (m : Nat) (wv ev bv : Value) (Ws Es : List Value) (Ls : List (List Nd)) (Bs : List Bk) (hI : Inv w A base sv lv m wv ev bv Ws Es Ls Bs)
    (o : OpV) (h1 : 1 ≤ o.k) (h3 : o.k ≤ 3) (ho : OpOk w (fpOf A wv ev bv Ws Es Bs) o) (hm : m ≤ 20000000) (hbl : Bs.length ≤ 20000000) (hwl : Ws.length + 1 ≤ 20000000) :
    Calls Tryz.prog 11 #[.pointer (some ⟨A, 0, none⟩), o.val] w (wordsPost w A base sv lv m wv ev bv Ws Es Ls Bs) := by
  obtain ⟨x1, y1, z1, en⟩ := ho.nvs
  obtain ⟨k, a, b, c, d, s, hs, a0, a1, gs, g0, g1, f0, f1, f2, f3, nv, iv⟩ := o
  have hk : k = 1 ∨ k = 2 ∨ k = 3 := by simp only at h1 h3; omega
  rcases hk with rfl | rfl | rfl
  · exact words_hash w A base sv lv m wv ev bv Ws Es Ls Bs hI a b c d hs gs f0 f1 f2 f3 a0 a1 g0 g1 s nv iv ho.sz ⟨x1, y1, z1, en⟩ ho.iv
  · rcases ho.nv with e | ⟨ad, cap, l, e, hl, hN⟩
    · simp only at e
      subst e
      exact words_write_nil w A base sv lv m wv ev bv Ws Es Ls Bs hI a b c d hs gs f0 f1 f2 f3 a0 a1 g0 g1 s iv ho.iv
    · simp only at e
      subst e
      exact words_write w A base sv lv m wv ev bv Ws Es Ls Bs hI a b c d hs gs f0 f1 f2 f3 a0 a1 g0 g1 s iv ho.iv ad cap l hN hl hm hbl
  · exact words_read w A base sv lv m wv ev bv Ws Es Ls Bs hI a b c d hs gs f0 f1 f2 f3 a0 a1 g0 g1 s nv iv ho.sz ⟨x1, y1, z1, en⟩ ho.iv hwl

theorem OpOk.below {w w' : World} {fp : List Nat} {o : OpV} (h : OpOk w fp o) (hb : Below w.heap.size w w') : OpOk w' fp o :=
  ⟨h.sz, h.iv, by
    rcases h.nv with e | ⟨ad, cap, l, e, hl, hN⟩
    · exact .inl e
    · exact .inr ⟨ad, cap, l, e, hl, fun w2 hk => hN w2 ((Kept.of_below hb fp).trans hk fun x hx => .inl hx)⟩⟩

end Go.Proofs.YtlggbcceoejkkaaGreat
