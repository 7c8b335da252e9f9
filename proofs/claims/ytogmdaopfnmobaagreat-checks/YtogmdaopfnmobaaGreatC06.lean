/- What appendMarked and MayBe do. -/
import Derived.Deep.RegionHeld3
import Derived.Test.YtogmdaopfnmobaaGreatC04
import Derived.Test.YtogmdaopfnmobaaGreatC05
namespace Go.Proofs.YtogmdaopfnmobaaGreat
open Go.RowKit
attribute [local go_sem ↓] run_eql_node run_neq_node
def Nd.val (d : Nd) : Value := .agg #[.int .i64 d.c, .int .i64 d.s, .int .i64 d.m, .int .i64 d.x, .int .u8 (d.h.toNat : Int), .int .u8 (d.g.toNat : Int)]
def Nd.cells (d : Nd) : List Value := [.int .i64 d.c, .int .i64 d.s, .int .i64 d.m, .int .i64 d.x, .int .u8 (d.h.toNat : Int), .int .u8 (d.g.toNat : Int)]
set_option maxHeartbeats 1000000 in
set_option maxRecDepth 100000 in
theorem mayBe_core (c s m x h g : Int) (w : World) (b : Bool) (hb : (isNum c && isNum s && isNum m && isNum x) = b) :
    Calls Tryz.prog 75 #[.agg #[.int .i64 c, .int .i64 s, .int .i64 m, .int .i64 x, .int .u8 h, .int .u8 g]] w fun e w' => e = .returned (.bool b) ∧ Below w.heap.size w w' := by
  have fin : ∀ o1 o2, Below w.heap.size w ((w.alloc o1).alloc o2) := fun o1 o2 => ((Below.refl _ _).alloc (Nat.le_refl _) _).alloc (by simp) _
  go_enter Tryz.func75, Tryz.ntmps75
  cases h1 : isNum c
  · go_wp2_with fail
    refine (isNumber_any _ _ _ h1).mono ?_
    rintro e w' ⟨rfl, rfl⟩
    go_wp2
    go_ret
    exact ⟨by rw [← hb]; simp [h1], fin _ _⟩
  · go_wp2_with fail
    refine (isNumber_any _ _ _ h1).mono ?_
    rintro e w' ⟨rfl, rfl⟩
    cases h2 : isNum s
    · go_wp2_with fail
      refine (isNumber_any _ _ _ h2).mono ?_
      rintro e w' ⟨rfl, rfl⟩
      go_wp2
      go_ret
      exact ⟨by rw [← hb]; simp [h2], fin _ _⟩
    · go_wp2_with fail
      refine (isNumber_any _ _ _ h2).mono ?_
      rintro e w' ⟨rfl, rfl⟩
      cases h3 : isNum m
      · go_wp2_with fail
        refine (isNumber_any _ _ _ h3).mono ?_
        rintro e w' ⟨rfl, rfl⟩
        go_wp2
        go_ret
        exact ⟨by rw [← hb]; simp [h3], fin _ _⟩
      · go_wp2_with fail
        refine (isNumber_any _ _ _ h3).mono ?_
        rintro e w' ⟨rfl, rfl⟩
        go_wp2_with fail
        refine (isNumber_any _ _ _ rfl).mono ?_
        rintro e w' ⟨rfl, rfl⟩
        go_wp2
        go_ret
        exact ⟨by rw [← hb]; simp [h1, h2, h3], fin _ _⟩
theorem mayBe_any (d : Nd) (w : World) (b : Bool) (hb : d.ok = b) : Calls Tryz.prog 75 #[.agg #[.int .i64 d.c, .int .i64 d.s, .int .i64 d.m, .int .i64 d.x, .int .u8 (d.h.toNat : Int), .int .u8 (d.g.toNat : Int)]] w fun e w' => e = .returned (.bool b) ∧ Below w.heap.size w w' :=
  mayBe_core _ _ _ _ _ _ w b hb
end Go.Proofs.YtogmdaopfnmobaaGreat

/- What WriteProof does. -/
namespace Go.Proofs.YtogmdaopfnmobaaGreat
open Go.RowKit
structure Nodes (w : World) (B : Nat) (v : Value) (l : List Nd) : Prop where
  ex : ∃ ao cap, v = .slice ao l.length cap ∧ l.length ≤ 9223372036854775807 ∧ ∀ i (hi : i < l.length), ∃ b off, ao = some ⟨b, off, none⟩ ∧ b < B ∧ ∀ j (hj : j < 6), w.cell? ⟨b, off + i * 6 + j, none⟩ = some ((l[i]).cells[j]'(by simp [Nd.cells]; omega))
theorem six {w wr : World} {b off i B : Nat} {d : Nd} (hb : Below B w wr) (hbB : b < B) (h : ∀ j (hj : j < 6), w.cell? ⟨b, off + i * 6 + j, none⟩ = some (d.cells[j]'(by simp [Nd.cells]; omega))) :
    wr.cell? ⟨b, off + i * 6, none⟩ = some (.int .i64 d.c) ∧ wr.cell? ⟨b, off + i * 6 + 1, none⟩ = some (.int .i64 d.s) ∧ wr.cell? ⟨b, off + i * 6 + 2, none⟩ = some (.int .i64 d.m) ∧
    wr.cell? ⟨b, off + i * 6 + 3, none⟩ = some (.int .i64 d.x) ∧ wr.cell? ⟨b, off + i * 6 + 4, none⟩ = some (.int .u8 d.h.toNat) ∧ wr.cell? ⟨b, off + i * 6 + 5, none⟩ = some (.int .u8 d.g.toNat) := by
  have k : ∀ j (hj : j < 6), wr.cell? ⟨b, off + i * 6 + j, none⟩ = some (d.cells[j]'(by simp [Nd.cells]; omega)) := fun j hj => (hb.cell (p := ⟨b, off + i * 6 + j, none⟩) hbB).trans (h j hj)
  exact ⟨k 0 (by omega), k 1 (by omega), k 2 (by omega), k 3 (by omega), k 4 (by omega), k 5 (by omega)⟩
theorem run_string_own (w : World) (base : Nat) (v : Value) (l : List UInt8) (h : w.ownsRow base 5 1 v l.length (l.map B)) :
    (convert 159 9 v).run Tryz.prog w = .ok (.string ⟨l.toArray⟩) w := by
  rcases h.2 with ⟨rfl, h0⟩ | ⟨g, cap, cur, rfl, _, hg, _, _, _, ht⟩
  · have : l = [] := List.eq_nil_of_length_eq_zero h0
    subst this
    exact run_convert_bytes_nil w 159 5 Tryz.underlying159 Tryz.underlying5 0 0 9 Tryz.underlying9
  · refine run_convert_bytes_back w 159 9 5 ⟨g, 0, none⟩ cap l Tryz.underlying159 Tryz.underlying5 Tryz.underlying9 fun j hj => ?_
    exact h.cells (g := g) rfl j _ (by simp [hj, B])
end Go.Proofs.YtogmdaopfnmobaaGreat

