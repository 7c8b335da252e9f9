/-
  No cell of these rows narrows 'for every input' (looked for: loops, veiled, ifaces, maps, wideKeys, modest, calm, conditions, laid).
  DERIVED. THE GIVEN ROWS OF THIS SEAT. 5 by the template 'for every input the law returns true; each argument reads behind the call as it read before'; 0 by the template 'total and deterministic' (their statements: YtogmdaopfnmobaaTotals.lean).
  GIVEN WITH THE SEED: the statements are not yours to turn. If you find one false, say at which input.
  Laid BY PROGRAM, IN A SANDBOX (cutbox-rows.mjs): the forced cells as the released guide's own fill.sh prints them over the translation 099f521936f06df8… (all of the seat's roots in one cut). By AI agents, Wed Nov 11 2026. No macro, syntax, notation, axiom, sorry.
-/
import Derived.Test.YtogmdaopfnmobaaChecked
import GoSem.Claim
import GoSem.ClaimJoined
import GoSem.ClaimMapViews
import Derived.JoinedTies
import Derived.KernelRfl
namespace Go.Proofs.Ytogmdaopfnmobaa
/- THE CELL 'sum', in the pinned program and in every row, IS THE sha256 OF THE DUMP (.gsa) THAT YtogmdaopfnmobaaProg.lean LOADS. Nothing in Lean hashes anything: it is a label: what it is worth is what the hold of that sum in a sandbox is worth. -/
noncomputable def Try.pinned : Pinned := { name := "ytogmdaopfnmobaa", sum := "099f521936f06df8a87bb43b45a3b6bae67938a21ed66d1d10ecbdd8dae582bf", checked := Try.checked }
namespace Rows
def none {H : Type} : Left H := { results := [], args := [] }

/-- 'notarykeep.Back': WHATEVER THE INPUT: true; the input reads as it did. -/
def backSpec : ChangeSpec := { name := "back", fn := fun _ => fun
  | [d1, d2] => { results := [.lit (.bool true)], args := [d1, d2] }
  | _ => none }
def backRow : OpenClaim := { program := "ytogmdaopfnmobaa", sum := "099f521936f06df8a87bb43b45a3b6bae67938a21ed66d1d10ecbdd8dae582bf", func := "notary/notarykeep.Back", spec := "back", plainKeys := false, apart := false }
def BackSaid : Prop := backRow.holds Try.pinned (OpenSpec.ofChange backSpec)

/-- ITS FALSE NEIGHBOUR: 'it returns false'. Refute it at one input. -/
def backWrong : ChangeSpec := { name := "back", fn := fun _ => fun
  | [d1, d2] => { results := [.lit (.bool false)], args := [d1, d2] }
  | _ => none }
def BackWrongFalsely : Prop := backRow.holds Try.pinned (OpenSpec.ofChange backWrong)

/-- 'notarykeep.Asked': WHATEVER THE INPUT: true; the input reads as it did. -/
def askedSpec : ChangeSpec := { name := "asked", fn := fun _ => fun
  | [d1, d2, d3, d4] => { results := [.lit (.bool true)], args := [d1, d2, d3, d4] }
  | _ => none }
def askedRow : OpenClaim := { program := "ytogmdaopfnmobaa", sum := "099f521936f06df8a87bb43b45a3b6bae67938a21ed66d1d10ecbdd8dae582bf", func := "notary/notarykeep.Asked", spec := "asked", unfollowed := true, recurses := true, plainKeys := false, apart := false }
def AskedSaid : Prop := askedRow.holds Try.pinned (OpenSpec.ofChange askedSpec)

/-- ITS FALSE NEIGHBOUR: 'it returns false'. Refute it at one input. -/
def askedWrong : ChangeSpec := { name := "asked", fn := fun _ => fun
  | [d1, d2, d3, d4] => { results := [.lit (.bool false)], args := [d1, d2, d3, d4] }
  | _ => none }
def AskedWrongFalsely : Prop := askedRow.holds Try.pinned (OpenSpec.ofChange askedWrong)

/-- 'notarykeep.Grown': WHATEVER THE INPUT: true; the input reads as it did. -/
def grownSpec : ChangeSpec := { name := "grown", fn := fun _ => fun
  | [d1, d2] => { results := [.lit (.bool true)], args := [d1, d2] }
  | _ => none }
def grownRow : OpenClaim := { program := "ytogmdaopfnmobaa", sum := "099f521936f06df8a87bb43b45a3b6bae67938a21ed66d1d10ecbdd8dae582bf", func := "notary/notarykeep.Grown", spec := "grown", unfollowed := true, recurses := true, plainKeys := false, apart := false }
def GrownSaid : Prop := grownRow.holds Try.pinned (OpenSpec.ofChange grownSpec)

/-- ITS FALSE NEIGHBOUR: 'it returns false'. Refute it at one input. -/
def grownWrong : ChangeSpec := { name := "grown", fn := fun _ => fun
  | [d1, d2] => { results := [.lit (.bool false)], args := [d1, d2] }
  | _ => none }
def GrownWrongFalsely : Prop := grownRow.holds Try.pinned (OpenSpec.ofChange grownWrong)

/-- 'notarykeep.Absent': WHATEVER THE INPUT: true; the input reads as it did. -/
def absentSpec : ChangeSpec := { name := "absent", fn := fun _ => fun
  | [d1, d2, d3] => { results := [.lit (.bool true)], args := [d1, d2, d3] }
  | _ => none }
def absentRow : OpenClaim := { program := "ytogmdaopfnmobaa", sum := "099f521936f06df8a87bb43b45a3b6bae67938a21ed66d1d10ecbdd8dae582bf", func := "notary/notarykeep.Absent", spec := "absent", unfollowed := true, recurses := true, plainKeys := false, apart := false }
def AbsentSaid : Prop := absentRow.holds Try.pinned (OpenSpec.ofChange absentSpec)

/-- ITS FALSE NEIGHBOUR: 'it returns false'. Refute it at one input. -/
def absentWrong : ChangeSpec := { name := "absent", fn := fun _ => fun
  | [d1, d2, d3] => { results := [.lit (.bool false)], args := [d1, d2, d3] }
  | _ => none }
def AbsentWrongFalsely : Prop := absentRow.holds Try.pinned (OpenSpec.ofChange absentWrong)

/-- 'notarylaw.Sound': WHATEVER THE INPUT: true; the input reads as it did. -/
def soundSpec : ChangeSpec := { name := "sound", fn := fun _ => fun
  | [d1, d2, d3, d4, d5, d6] => { results := [.lit (.bool true)], args := [d1, d2, d3, d4, d5, d6] }
  | _ => none }
def soundRow : OpenClaim := { program := "ytogmdaopfnmobaa", sum := "099f521936f06df8a87bb43b45a3b6bae67938a21ed66d1d10ecbdd8dae582bf", func := "notary/notarylaw.Sound", spec := "sound", unfollowed := true, recurses := true, plainKeys := false, apart := false }
def SoundSaid : Prop := soundRow.holds Try.pinned (OpenSpec.ofChange soundSpec)

/-- ITS FALSE NEIGHBOUR: 'it returns false'. Refute it at one input. -/
def soundWrong : ChangeSpec := { name := "sound", fn := fun _ => fun
  | [d1, d2, d3, d4, d5, d6] => { results := [.lit (.bool false)], args := [d1, d2, d3, d4, d5, d6] }
  | _ => none }
def SoundWrongFalsely : Prop := soundRow.holds Try.pinned (OpenSpec.ofChange soundWrong)

/- THE SECOND FORM. 'bulk': how many values and letters a reading holds, each counted each time it is reached (what is shared counts as often as it is met; a slice's spare places count too). A statement '..UptoSaid' is the law's where the arguments, and the package variables that the reading takes, are together of bulk at most 1048576: NARROWER than '..Said'. Prove '..Said' where nothing that the law and all that it calls make is longer than what came in: it says more and counts as full. Else prove '..UptoSaid'. A law counts once. -/
mutual
def uptoBulk {H : Type} : DataW H → Nat
  | .lit (.string bytes) => bytes.length + 1
  | .lit _ => 1
  | .nil => 1
  | .ptr d => uptoBulk d + 1
  | .slice elems spare => uptoBulkAll elems + uptoBulkAll spare + 1
  | .agg parts => uptoBulkAll parts + 1
  | .iface _ d => uptoBulk d + 1
  | .map entries => uptoBulkEntries entries + 1
  | .held _ => 1
def uptoBulkAll {H : Type} : List (DataW H) → Nat
  | [] => 0
  | d :: r => uptoBulk d + uptoBulkAll r
def uptoBulkEntries {H : Type} : List (Lit × DataW H) → Nat
  | [] => 0
  | x :: r => uptoBulkEntry x + uptoBulkEntries r
def uptoBulkEntry {H : Type} : Lit × DataW H → Nat
  | (.string bytes, d) => bytes.length + uptoBulk d + 1
  | (_, d) => uptoBulk d + 1
 end
def uptoSmall : (H : Type) → List (DataW H) → Bool := fun _ ds => decide (uptoBulkAll ds ≤ 1048576)
def OpenSpec.upto (s : _root_.Go.ChangeSpec) : _root_.Go.OpenSpec := { _root_.Go.OpenSpec.ofChange s with cond := some uptoSmall }

/-- 'notarykeep.Back', WHERE WHAT IT READS IS OF BULK AT MOST 1048576: true; the input reads as it did. -/
def backUptoRow : OpenClaim := { program := "ytogmdaopfnmobaa", sum := "099f521936f06df8a87bb43b45a3b6bae67938a21ed66d1d10ecbdd8dae582bf", func := "notary/notarykeep.Back", spec := "back", plainKeys := false, apart := false, narrowed := true }
def BackUptoSaid : Prop := backUptoRow.holds Try.pinned (OpenSpec.upto backSpec)

/-- 'notarykeep.Asked', WHERE WHAT IT READS IS OF BULK AT MOST 1048576: true; the input reads as it did. -/
def askedUptoRow : OpenClaim := { program := "ytogmdaopfnmobaa", sum := "099f521936f06df8a87bb43b45a3b6bae67938a21ed66d1d10ecbdd8dae582bf", func := "notary/notarykeep.Asked", spec := "asked", unfollowed := true, recurses := true, plainKeys := false, apart := false, narrowed := true }
def AskedUptoSaid : Prop := askedUptoRow.holds Try.pinned (OpenSpec.upto askedSpec)

/-- 'notarykeep.Grown', WHERE WHAT IT READS IS OF BULK AT MOST 1048576: true; the input reads as it did. -/
def grownUptoRow : OpenClaim := { program := "ytogmdaopfnmobaa", sum := "099f521936f06df8a87bb43b45a3b6bae67938a21ed66d1d10ecbdd8dae582bf", func := "notary/notarykeep.Grown", spec := "grown", unfollowed := true, recurses := true, plainKeys := false, apart := false, narrowed := true }
def GrownUptoSaid : Prop := grownUptoRow.holds Try.pinned (OpenSpec.upto grownSpec)

/-- 'notarykeep.Absent', WHERE WHAT IT READS IS OF BULK AT MOST 1048576: true; the input reads as it did. -/
def absentUptoRow : OpenClaim := { program := "ytogmdaopfnmobaa", sum := "099f521936f06df8a87bb43b45a3b6bae67938a21ed66d1d10ecbdd8dae582bf", func := "notary/notarykeep.Absent", spec := "absent", unfollowed := true, recurses := true, plainKeys := false, apart := false, narrowed := true }
def AbsentUptoSaid : Prop := absentUptoRow.holds Try.pinned (OpenSpec.upto absentSpec)

/-- 'notarylaw.Sound', WHERE WHAT IT READS IS OF BULK AT MOST 1048576: true; the input reads as it did. -/
def soundUptoRow : OpenClaim := { program := "ytogmdaopfnmobaa", sum := "099f521936f06df8a87bb43b45a3b6bae67938a21ed66d1d10ecbdd8dae582bf", func := "notary/notarylaw.Sound", spec := "sound", unfollowed := true, recurses := true, plainKeys := false, apart := false, narrowed := true }
def SoundUptoSaid : Prop := soundUptoRow.holds Try.pinned (OpenSpec.upto soundSpec)

end Rows
end Go.Proofs.Ytogmdaopfnmobaa
