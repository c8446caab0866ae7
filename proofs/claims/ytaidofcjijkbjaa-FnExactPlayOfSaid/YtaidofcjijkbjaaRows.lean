/-
  No cell of these rows narrows 'for every input' (looked for: loops, veiled, ifaces, maps, wideKeys, modest, calm, conditions, laid).
  DERIVED. THE GIVEN ROWS OF THIS SEAT. 8 by the template 'for every input the law returns true; each argument reads behind the call as it read before'; 0 by the template 'total and deterministic' (their statements: YtaidofcjijkbjaaTotals.lean).
  GIVEN WITH THE SEED: the statements are not yours to turn. If you find one false, say at which input.
  Laid BY PROGRAM, IN A SANDBOX (cutbox-rows.mjs): the forced cells as the released guide's own fill.sh prints them over the translation b1f9b5d16044bb40… (all of the seat's roots in one cut). By AI agents, Wed Nov 11 2026. No macro, syntax, notation, axiom, sorry.
-/
import Derived.Test.YtaidofcjijkbjaaChecked
import GoSem.Claim
import GoSem.ClaimJoined
import GoSem.ClaimMapViews
import Derived.JoinedTies
import Derived.KernelRfl
namespace Go.Proofs.Ytaidofcjijkbjaa
/- THE CELL 'sum', in the pinned program and in every row, IS THE sha256 OF THE DUMP (.gsa) THAT YtaidofcjijkbjaaProg.lean LOADS. Nothing in Lean hashes anything: it is a label: what it is worth is what the hold of that sum in a sandbox is worth. -/
noncomputable def Try.pinned : Pinned := { name := "ytaidofcjijkbjaa", sum := "b1f9b5d16044bb407961e742abb1acc55872766590b296f92158429d84ca7ddb", checked := Try.checked }
namespace Rows
def none {H : Type} : Left H := { results := [], args := [] }

/-- 'laws.FnGameMoves': WHATEVER THE INPUT: true; the input reads as it did. -/
def fnGameMovesSpec : ChangeSpec := { name := "fnGameMoves", fn := fun _ => fun
  | [d] => { results := [.lit (.bool true)], args := [d] }
  | _ => none }
def fnGameMovesRow : OpenClaim := { program := "ytaidofcjijkbjaa", sum := "b1f9b5d16044bb407961e742abb1acc55872766590b296f92158429d84ca7ddb", func := "loop.example/guardsonnets/laws.FnGameMoves", spec := "fnGameMoves", recurses := true, apart := false }
def FnGameMovesSaid : Prop := fnGameMovesRow.holds Try.pinned (OpenSpec.ofChange fnGameMovesSpec)

/-- ITS FALSE NEIGHBOUR: 'it returns false'. Refute it at one input. -/
def fnGameMovesWrong : ChangeSpec := { name := "fnGameMoves", fn := fun _ => fun
  | [d] => { results := [.lit (.bool false)], args := [d] }
  | _ => none }
def FnGameMovesWrongFalsely : Prop := fnGameMovesRow.holds Try.pinned (OpenSpec.ofChange fnGameMovesWrong)

/-- 'laws.FnExactGameMoves': WHATEVER THE INPUT: true; the input reads as it did. -/
def fnExactGameMovesSpec : ChangeSpec := { name := "fnExactGameMoves", fn := fun _ => fun
  | [d1, d2, d3] => { results := [.lit (.bool true)], args := [d1, d2, d3] }
  | _ => none }
def fnExactGameMovesRow : OpenClaim := { program := "ytaidofcjijkbjaa", sum := "b1f9b5d16044bb407961e742abb1acc55872766590b296f92158429d84ca7ddb", func := "loop.example/guardsonnets/laws.FnExactGameMoves", spec := "fnExactGameMoves", recurses := true, apart := false }
def FnExactGameMovesSaid : Prop := fnExactGameMovesRow.holds Try.pinned (OpenSpec.ofChange fnExactGameMovesSpec)

/-- ITS FALSE NEIGHBOUR: 'it returns false'. Refute it at one input. -/
def fnExactGameMovesWrong : ChangeSpec := { name := "fnExactGameMoves", fn := fun _ => fun
  | [d1, d2, d3] => { results := [.lit (.bool false)], args := [d1, d2, d3] }
  | _ => none }
def FnExactGameMovesWrongFalsely : Prop := fnExactGameMovesRow.holds Try.pinned (OpenSpec.ofChange fnExactGameMovesWrong)

/-- 'laws.FnBestPlay': WHATEVER THE INPUT: true; the input reads as it did. -/
def fnBestPlaySpec : ChangeSpec := { name := "fnBestPlay", fn := fun _ => fun
  | [d] => { results := [.lit (.bool true)], args := [d] }
  | _ => none }
def fnBestPlayRow : OpenClaim := { program := "ytaidofcjijkbjaa", sum := "b1f9b5d16044bb407961e742abb1acc55872766590b296f92158429d84ca7ddb", func := "loop.example/guardsonnets/laws.FnBestPlay", spec := "fnBestPlay", recurses := true, apart := false }
def FnBestPlaySaid : Prop := fnBestPlayRow.holds Try.pinned (OpenSpec.ofChange fnBestPlaySpec)

/-- ITS FALSE NEIGHBOUR: 'it returns false'. Refute it at one input. -/
def fnBestPlayWrong : ChangeSpec := { name := "fnBestPlay", fn := fun _ => fun
  | [d] => { results := [.lit (.bool false)], args := [d] }
  | _ => none }
def FnBestPlayWrongFalsely : Prop := fnBestPlayRow.holds Try.pinned (OpenSpec.ofChange fnBestPlayWrong)

/-- 'laws.FnExactBestPlay': WHATEVER THE INPUT: true; the input reads as it did. -/
def fnExactBestPlaySpec : ChangeSpec := { name := "fnExactBestPlay", fn := fun _ => fun
  | [d1, d2, d3] => { results := [.lit (.bool true)], args := [d1, d2, d3] }
  | _ => none }
def fnExactBestPlayRow : OpenClaim := { program := "ytaidofcjijkbjaa", sum := "b1f9b5d16044bb407961e742abb1acc55872766590b296f92158429d84ca7ddb", func := "loop.example/guardsonnets/laws.FnExactBestPlay", spec := "fnExactBestPlay", recurses := true, apart := false }
def FnExactBestPlaySaid : Prop := fnExactBestPlayRow.holds Try.pinned (OpenSpec.ofChange fnExactBestPlaySpec)

/-- ITS FALSE NEIGHBOUR: 'it returns false'. Refute it at one input. -/
def fnExactBestPlayWrong : ChangeSpec := { name := "fnExactBestPlay", fn := fun _ => fun
  | [d1, d2, d3] => { results := [.lit (.bool false)], args := [d1, d2, d3] }
  | _ => none }
def FnExactBestPlayWrongFalsely : Prop := fnExactBestPlayRow.holds Try.pinned (OpenSpec.ofChange fnExactBestPlayWrong)

/-- 'laws.FnPlayOf': WHATEVER THE INPUT: true; the input reads as it did. -/
def fnPlayOfSpec : ChangeSpec := { name := "fnPlayOf", fn := fun _ => fun
  | [d] => { results := [.lit (.bool true)], args := [d] }
  | _ => none }
def fnPlayOfRow : OpenClaim := { program := "ytaidofcjijkbjaa", sum := "b1f9b5d16044bb407961e742abb1acc55872766590b296f92158429d84ca7ddb", func := "loop.example/guardsonnets/laws.FnPlayOf", spec := "fnPlayOf", recurses := true, apart := false }
def FnPlayOfSaid : Prop := fnPlayOfRow.holds Try.pinned (OpenSpec.ofChange fnPlayOfSpec)

/-- ITS FALSE NEIGHBOUR: 'it returns false'. Refute it at one input. -/
def fnPlayOfWrong : ChangeSpec := { name := "fnPlayOf", fn := fun _ => fun
  | [d] => { results := [.lit (.bool false)], args := [d] }
  | _ => none }
def FnPlayOfWrongFalsely : Prop := fnPlayOfRow.holds Try.pinned (OpenSpec.ofChange fnPlayOfWrong)

/-- 'laws.FnExactPlayOf': WHATEVER THE INPUT: true; the input reads as it did. -/
def fnExactPlayOfSpec : ChangeSpec := { name := "fnExactPlayOf", fn := fun _ => fun
  | [d1, d2] => { results := [.lit (.bool true)], args := [d1, d2] }
  | _ => none }
def fnExactPlayOfRow : OpenClaim := { program := "ytaidofcjijkbjaa", sum := "b1f9b5d16044bb407961e742abb1acc55872766590b296f92158429d84ca7ddb", func := "loop.example/guardsonnets/laws.FnExactPlayOf", spec := "fnExactPlayOf", recurses := true, apart := false }
def FnExactPlayOfSaid : Prop := fnExactPlayOfRow.holds Try.pinned (OpenSpec.ofChange fnExactPlayOfSpec)

/-- ITS FALSE NEIGHBOUR: 'it returns false'. Refute it at one input. -/
def fnExactPlayOfWrong : ChangeSpec := { name := "fnExactPlayOf", fn := fun _ => fun
  | [d1, d2] => { results := [.lit (.bool false)], args := [d1, d2] }
  | _ => none }
def FnExactPlayOfWrongFalsely : Prop := fnExactPlayOfRow.holds Try.pinned (OpenSpec.ofChange fnExactPlayOfWrong)

/-- 'laws.FnMostLeaves': WHATEVER THE INPUT: true; the input reads as it did. -/
def fnMostLeavesSpec : ChangeSpec := { name := "fnMostLeaves", fn := fun _ => fun
  | [d] => { results := [.lit (.bool true)], args := [d] }
  | _ => none }
def fnMostLeavesRow : OpenClaim := { program := "ytaidofcjijkbjaa", sum := "b1f9b5d16044bb407961e742abb1acc55872766590b296f92158429d84ca7ddb", func := "loop.example/guardsonnets/laws.FnMostLeaves", spec := "fnMostLeaves", recurses := true, apart := false }
def FnMostLeavesSaid : Prop := fnMostLeavesRow.holds Try.pinned (OpenSpec.ofChange fnMostLeavesSpec)

/-- ITS FALSE NEIGHBOUR: 'it returns false'. Refute it at one input. -/
def fnMostLeavesWrong : ChangeSpec := { name := "fnMostLeaves", fn := fun _ => fun
  | [d] => { results := [.lit (.bool false)], args := [d] }
  | _ => none }
def FnMostLeavesWrongFalsely : Prop := fnMostLeavesRow.holds Try.pinned (OpenSpec.ofChange fnMostLeavesWrong)

/-- 'laws.FnExactMostLeaves': WHATEVER THE INPUT: true; the input reads as it did. -/
def fnExactMostLeavesSpec : ChangeSpec := { name := "fnExactMostLeaves", fn := fun _ => fun
  | [d] => { results := [.lit (.bool true)], args := [d] }
  | _ => none }
def fnExactMostLeavesRow : OpenClaim := { program := "ytaidofcjijkbjaa", sum := "b1f9b5d16044bb407961e742abb1acc55872766590b296f92158429d84ca7ddb", func := "loop.example/guardsonnets/laws.FnExactMostLeaves", spec := "fnExactMostLeaves", recurses := true, apart := false }
def FnExactMostLeavesSaid : Prop := fnExactMostLeavesRow.holds Try.pinned (OpenSpec.ofChange fnExactMostLeavesSpec)

/-- ITS FALSE NEIGHBOUR: 'it returns false'. Refute it at one input. -/
def fnExactMostLeavesWrong : ChangeSpec := { name := "fnExactMostLeaves", fn := fun _ => fun
  | [d] => { results := [.lit (.bool false)], args := [d] }
  | _ => none }
def FnExactMostLeavesWrongFalsely : Prop := fnExactMostLeavesRow.holds Try.pinned (OpenSpec.ofChange fnExactMostLeavesWrong)

/- THE SECOND FORM. 'bulk': how many values and letters a reading holds, each counted each time it is reached (what is shared counts as often as it is met; a slice's spare places count too). A statement '..UptoSaid' is the law's where the arguments, and the package variables that the reading takes, are together of bulk at most 1048576: NARROWER than '..Said'. Prove '..Said' where nothing that the law and all that it calls make is longer than what came in: it says more and counts as full. Else prove '..UptoSaid'. A law counts once. -/
mutual
def uptoBulk {H : Type} : DataW H → Nat
  | .lit (.string bytes) => bytes.length + 1
  | .lit _ => 1
  | .nil => 1
  | .ptr d => uptoBulk d + 1
  | .slice elems spare => uptoBulkAll elems + uptoBulkAll spare + 1
  | .agg parts => uptoBulkAll parts + 1
  | .iface _ d => uptoBulk d + 1
  | .map entries => uptoBulkEntries entries + 1
  | .held _ => 1
def uptoBulkAll {H : Type} : List (DataW H) → Nat
  | [] => 0
  | d :: r => uptoBulk d + uptoBulkAll r
def uptoBulkEntries {H : Type} : List (Lit × DataW H) → Nat
  | [] => 0
  | x :: r => uptoBulkEntry x + uptoBulkEntries r
def uptoBulkEntry {H : Type} : Lit × DataW H → Nat
  | (.string bytes, d) => bytes.length + uptoBulk d + 1
  | (_, d) => uptoBulk d + 1
 end
def uptoSmall : (H : Type) → List (DataW H) → Bool := fun _ ds => decide (uptoBulkAll ds ≤ 1048576)
def OpenSpec.upto (s : _root_.Go.ChangeSpec) : _root_.Go.OpenSpec := { _root_.Go.OpenSpec.ofChange s with cond := some uptoSmall }

/-- 'laws.FnGameMoves', WHERE WHAT IT READS IS OF BULK AT MOST 1048576: true; the input reads as it did. -/
def fnGameMovesUptoRow : OpenClaim := { program := "ytaidofcjijkbjaa", sum := "b1f9b5d16044bb407961e742abb1acc55872766590b296f92158429d84ca7ddb", func := "loop.example/guardsonnets/laws.FnGameMoves", spec := "fnGameMoves", recurses := true, apart := false, narrowed := true }
def FnGameMovesUptoSaid : Prop := fnGameMovesUptoRow.holds Try.pinned (OpenSpec.upto fnGameMovesSpec)

/-- 'laws.FnExactGameMoves', WHERE WHAT IT READS IS OF BULK AT MOST 1048576: true; the input reads as it did. -/
def fnExactGameMovesUptoRow : OpenClaim := { program := "ytaidofcjijkbjaa", sum := "b1f9b5d16044bb407961e742abb1acc55872766590b296f92158429d84ca7ddb", func := "loop.example/guardsonnets/laws.FnExactGameMoves", spec := "fnExactGameMoves", recurses := true, apart := false, narrowed := true }
def FnExactGameMovesUptoSaid : Prop := fnExactGameMovesUptoRow.holds Try.pinned (OpenSpec.upto fnExactGameMovesSpec)

/-- 'laws.FnBestPlay', WHERE WHAT IT READS IS OF BULK AT MOST 1048576: true; the input reads as it did. -/
def fnBestPlayUptoRow : OpenClaim := { program := "ytaidofcjijkbjaa", sum := "b1f9b5d16044bb407961e742abb1acc55872766590b296f92158429d84ca7ddb", func := "loop.example/guardsonnets/laws.FnBestPlay", spec := "fnBestPlay", recurses := true, apart := false, narrowed := true }
def FnBestPlayUptoSaid : Prop := fnBestPlayUptoRow.holds Try.pinned (OpenSpec.upto fnBestPlaySpec)

/-- 'laws.FnExactBestPlay', WHERE WHAT IT READS IS OF BULK AT MOST 1048576: true; the input reads as it did. -/
def fnExactBestPlayUptoRow : OpenClaim := { program := "ytaidofcjijkbjaa", sum := "b1f9b5d16044bb407961e742abb1acc55872766590b296f92158429d84ca7ddb", func := "loop.example/guardsonnets/laws.FnExactBestPlay", spec := "fnExactBestPlay", recurses := true, apart := false, narrowed := true }
def FnExactBestPlayUptoSaid : Prop := fnExactBestPlayUptoRow.holds Try.pinned (OpenSpec.upto fnExactBestPlaySpec)

/-- 'laws.FnPlayOf', WHERE WHAT IT READS IS OF BULK AT MOST 1048576: true; the input reads as it did. -/
def fnPlayOfUptoRow : OpenClaim := { program := "ytaidofcjijkbjaa", sum := "b1f9b5d16044bb407961e742abb1acc55872766590b296f92158429d84ca7ddb", func := "loop.example/guardsonnets/laws.FnPlayOf", spec := "fnPlayOf", recurses := true, apart := false, narrowed := true }
def FnPlayOfUptoSaid : Prop := fnPlayOfUptoRow.holds Try.pinned (OpenSpec.upto fnPlayOfSpec)

/-- 'laws.FnExactPlayOf', WHERE WHAT IT READS IS OF BULK AT MOST 1048576: true; the input reads as it did. -/
def fnExactPlayOfUptoRow : OpenClaim := { program := "ytaidofcjijkbjaa", sum := "b1f9b5d16044bb407961e742abb1acc55872766590b296f92158429d84ca7ddb", func := "loop.example/guardsonnets/laws.FnExactPlayOf", spec := "fnExactPlayOf", recurses := true, apart := false, narrowed := true }
def FnExactPlayOfUptoSaid : Prop := fnExactPlayOfUptoRow.holds Try.pinned (OpenSpec.upto fnExactPlayOfSpec)

/-- 'laws.FnMostLeaves', WHERE WHAT IT READS IS OF BULK AT MOST 1048576: true; the input reads as it did. -/
def fnMostLeavesUptoRow : OpenClaim := { program := "ytaidofcjijkbjaa", sum := "b1f9b5d16044bb407961e742abb1acc55872766590b296f92158429d84ca7ddb", func := "loop.example/guardsonnets/laws.FnMostLeaves", spec := "fnMostLeaves", recurses := true, apart := false, narrowed := true }
def FnMostLeavesUptoSaid : Prop := fnMostLeavesUptoRow.holds Try.pinned (OpenSpec.upto fnMostLeavesSpec)

/-- 'laws.FnExactMostLeaves', WHERE WHAT IT READS IS OF BULK AT MOST 1048576: true; the input reads as it did. -/
def fnExactMostLeavesUptoRow : OpenClaim := { program := "ytaidofcjijkbjaa", sum := "b1f9b5d16044bb407961e742abb1acc55872766590b296f92158429d84ca7ddb", func := "loop.example/guardsonnets/laws.FnExactMostLeaves", spec := "fnExactMostLeaves", recurses := true, apart := false, narrowed := true }
def FnExactMostLeavesUptoSaid : Prop := fnExactMostLeavesUptoRow.holds Try.pinned (OpenSpec.upto fnExactMostLeavesSpec)

end Rows
end Go.Proofs.Ytaidofcjijkbjaa
