/- The load of a whole step. -/
import Derived.Deep.MidRow
import Derived.Test.YtogmdaopfnmobaaGreatA16
namespace Go.Proofs.YtogmdaopfnmobaaGreat
open Go.RowKit
theorem size_op : (Tryz.prog.info? 74).map (·.size) = some 18 := by kernel_rfl
theorem range_new (w : World) (t : TypeId) (C : List Value) : (w.alloc (.cells C.toArray t)).rangeAt w.heap.size 0 C := by
  intro j v hv
  have := block_new w C.toArray t j v hv
  rwa [Addr.add_mid] at this
end Go.Proofs.YtogmdaopfnmobaaGreat

/- The walk of step: the kinds 1 to 3 go to words. -/
namespace Go.Proofs.YtogmdaopfnmobaaGreat
open Go.RowKit
set_option maxHeartbeats 4000000 in
set_option maxRecDepth 100000 in
theorem step_1 (w : World) (A : Nat) (a b c d hs gs f0 f1 f2 f3 : Int) (h0 h1 g0 g1 : Int) (s : ByteArray) (x1 x2 : Option Addr) (y1 z1 y2 z2 : Nat) (Q : Ending → World → Prop) (hQ : ∀ e w', Q e w' → e = .returned (.bool true))
    (K : ∀ w', Below w.heap.size w w' → Calls Tryz.prog 51 #[.pointer (some ⟨A, 0, none⟩), .agg #[.int .i64 1, .int .i64 a, .int .i64 b, .int .i64 c, .int .i64 d, .string s, .int .i64 hs, .int .u8 h0, .int .u8 h1, .int .i64 gs, .int .u8 g0, .int .u8 g1, .int .i64 f0, .int .i64 f1, .int .i64 f2, .int .i64 f3, .slice x1 y1 z1, .slice x2 y2 z2]] w' Q) :
    Calls Tryz.prog 21 #[.pointer (some ⟨A, 0, none⟩), .agg #[.int .i64 1, .int .i64 a, .int .i64 b, .int .i64 c, .int .i64 d, .string s, .int .i64 hs, .int .u8 h0, .int .u8 h1, .int .i64 gs, .int .u8 g0, .int .u8 g1, .int .i64 f0, .int .i64 f1, .int .i64 f2, .int .i64 f3, .slice x1 y1 z1, .slice x2 y2 z2]] w Q := by
  go_enter Tryz.func21, Tryz.ntmps21
  go_wp2_with (refine wpList_load_mid rfl 74 _ rfl w.heap.size 0 rfl [.int .i64 1, .int .i64 a, .int .i64 b, .int .i64 c, .int .i64 d, .string s, .int .i64 hs, .int .u8 h0, .int .u8 h1, .int .i64 gs, .int .u8 g0, .int .u8 g1, .int .i64 f0, .int .i64 f1, .int .i64 f2, .int .i64 f3, .slice x1 y1 z1, .slice x2 y2 z2] _ (range_new w _ _) Tryz.underlying74 rfl size_op ?_)
  go_wp2_with fail
  refine (K _ ((Below.refl _ _).alloc (Nat.le_refl _) _)).mono ?_
  intro e w1 hp
  obtain rfl := hQ e w1 hp
  have fin : Hid _ := hp
  clear hp hQ K
  go_wp2
  exact fin.out
set_option maxHeartbeats 4000000 in
set_option maxRecDepth 100000 in
theorem step_2 (w : World) (A : Nat) (a b c d hs gs f0 f1 f2 f3 : Int) (h0 h1 g0 g1 : Int) (s : ByteArray) (x1 x2 : Option Addr) (y1 z1 y2 z2 : Nat) (Q : Ending → World → Prop) (hQ : ∀ e w', Q e w' → e = .returned (.bool true))
    (K : ∀ w', Below w.heap.size w w' → Calls Tryz.prog 51 #[.pointer (some ⟨A, 0, none⟩), .agg #[.int .i64 2, .int .i64 a, .int .i64 b, .int .i64 c, .int .i64 d, .string s, .int .i64 hs, .int .u8 h0, .int .u8 h1, .int .i64 gs, .int .u8 g0, .int .u8 g1, .int .i64 f0, .int .i64 f1, .int .i64 f2, .int .i64 f3, .slice x1 y1 z1, .slice x2 y2 z2]] w' Q) :
    Calls Tryz.prog 21 #[.pointer (some ⟨A, 0, none⟩), .agg #[.int .i64 2, .int .i64 a, .int .i64 b, .int .i64 c, .int .i64 d, .string s, .int .i64 hs, .int .u8 h0, .int .u8 h1, .int .i64 gs, .int .u8 g0, .int .u8 g1, .int .i64 f0, .int .i64 f1, .int .i64 f2, .int .i64 f3, .slice x1 y1 z1, .slice x2 y2 z2]] w Q := by
  go_enter Tryz.func21, Tryz.ntmps21
  go_wp2_with (refine wpList_load_mid rfl 74 _ rfl w.heap.size 0 rfl [.int .i64 2, .int .i64 a, .int .i64 b, .int .i64 c, .int .i64 d, .string s, .int .i64 hs, .int .u8 h0, .int .u8 h1, .int .i64 gs, .int .u8 g0, .int .u8 g1, .int .i64 f0, .int .i64 f1, .int .i64 f2, .int .i64 f3, .slice x1 y1 z1, .slice x2 y2 z2] _ (range_new w _ _) Tryz.underlying74 rfl size_op ?_)
  go_wp2_with fail
  refine (K _ ((Below.refl _ _).alloc (Nat.le_refl _) _)).mono ?_
  intro e w1 hp
  obtain rfl := hQ e w1 hp
  have fin : Hid _ := hp
  clear hp hQ K
  go_wp2
  exact fin.out
set_option maxHeartbeats 4000000 in
set_option maxRecDepth 100000 in
theorem step_3 (w : World) (A : Nat) (a b c d hs gs f0 f1 f2 f3 : Int) (h0 h1 g0 g1 : Int) (s : ByteArray) (x1 x2 : Option Addr) (y1 z1 y2 z2 : Nat) (Q : Ending → World → Prop) (hQ : ∀ e w', Q e w' → e = .returned (.bool true))
    (K : ∀ w', Below w.heap.size w w' → Calls Tryz.prog 51 #[.pointer (some ⟨A, 0, none⟩), .agg #[.int .i64 3, .int .i64 a, .int .i64 b, .int .i64 c, .int .i64 d, .string s, .int .i64 hs, .int .u8 h0, .int .u8 h1, .int .i64 gs, .int .u8 g0, .int .u8 g1, .int .i64 f0, .int .i64 f1, .int .i64 f2, .int .i64 f3, .slice x1 y1 z1, .slice x2 y2 z2]] w' Q) :
    Calls Tryz.prog 21 #[.pointer (some ⟨A, 0, none⟩), .agg #[.int .i64 3, .int .i64 a, .int .i64 b, .int .i64 c, .int .i64 d, .string s, .int .i64 hs, .int .u8 h0, .int .u8 h1, .int .i64 gs, .int .u8 g0, .int .u8 g1, .int .i64 f0, .int .i64 f1, .int .i64 f2, .int .i64 f3, .slice x1 y1 z1, .slice x2 y2 z2]] w Q := by
  go_enter Tryz.func21, Tryz.ntmps21
  go_wp2_with (refine wpList_load_mid rfl 74 _ rfl w.heap.size 0 rfl [.int .i64 3, .int .i64 a, .int .i64 b, .int .i64 c, .int .i64 d, .string s, .int .i64 hs, .int .u8 h0, .int .u8 h1, .int .i64 gs, .int .u8 g0, .int .u8 g1, .int .i64 f0, .int .i64 f1, .int .i64 f2, .int .i64 f3, .slice x1 y1 z1, .slice x2 y2 z2] _ (range_new w _ _) Tryz.underlying74 rfl size_op ?_)
  go_wp2_with fail
  refine (K _ ((Below.refl _ _).alloc (Nat.le_refl _) _)).mono ?_
  intro e w1 hp
  obtain rfl := hQ e w1 hp
  have fin : Hid _ := hp
  clear hp hQ K
  go_wp2
  exact fin.out
set_option maxHeartbeats 4000000 in
set_option maxRecDepth 100000 in
theorem step_any (w : World) (A base : Nat) (sv lv : Value) (m : Nat) (wv ev bv : Value) (Ws Es : List Value) (Ls : List (List Nd)) (Bs : List Bk) (hI : Inv w A base sv lv m wv ev bv Ws Es Ls Bs)
    (o : OpV) (h1 : 1 ≤ o.k) (h3 : o.k ≤ 3) (ho : OpOk w (fpOf A wv ev bv Ws Es Bs) o) (hm : m ≤ 20000000) (hbl : Bs.length ≤ 20000000) (hwl : Ws.length + 1 ≤ 20000000) :
    Calls Tryz.prog 21 #[.pointer (some ⟨A, 0, none⟩), o.val] w (wordsPost w A base sv lv m wv ev bv Ws Es Ls Bs) := by
  have K : ∀ w', Below w.heap.size w w' → Calls Tryz.prog 51 #[.pointer (some ⟨A, 0, none⟩), o.val] w' (wordsPost w A base sv lv m wv ev bv Ws Es Ls Bs) := fun w' hb =>
    (words_any w' A base sv lv m wv ev bv Ws Es Ls Bs (hI.below hb) o h1 h3 (ho.below hb) hm hbl hwl).mono fun e w2 ⟨he, hk, hr⟩ => ⟨he, (Kept.of_below hb _).trans hk fun x hx => .inl hx, hr⟩
  obtain ⟨x1, y1, z1, en⟩ := ho.nvs
  obtain ⟨x2, y2, z2, ei⟩ := ho.iv
  clear ho hI
  obtain ⟨k, a, b, c, d, s, hs, a0, a1, gs, g0, g1, f0, f1, f2, f3, nv, iv⟩ := o
  simp only at h1 h3 en ei
  subst en ei
  have hk : k = 1 ∨ k = 2 ∨ k = 3 := by omega
  rcases hk with rfl | rfl | rfl
  · exact step_1 w A a b c d hs gs f0 f1 f2 f3 a0 a1 g0 g1 s x1 x2 y1 z1 y2 z2 _ (fun e w' h => h.1) K
  · exact step_2 w A a b c d hs gs f0 f1 f2 f3 a0 a1 g0 g1 s x1 x2 y1 z1 y2 z2 _ (fun e w' h => h.1) K
  · exact step_3 w A a b c d hs gs f0 f1 f2 f3 a0 a1 g0 g1 s x1 x2 y1 z1 y2 z2 _ (fun e w' h => h.1) K
end Go.Proofs.YtogmdaopfnmobaaGreat

