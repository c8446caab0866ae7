/-
  No cell of these rows narrows 'for every input' (looked for: loops, veiled, ifaces, maps, wideKeys, modest, calm, conditions, laid).
  DERIVED. THE GIVEN ROWS OF THIS SEAT. 12 by the template 'for every input the law returns true; each argument reads behind the call as it read before'; 0 by the template 'total and deterministic' (their statements: YthcidiihfjjpdaaTotals.lean).
  GIVEN WITH THE SEED: the statements are not yours to turn. If you find one false, say at which input.
  Laid BY PROGRAM, IN A SANDBOX (cutbox-rows.mjs): the forced cells as the released guide's own fill.sh prints them over the translation e8d7ddac6393c045… (all of the seat's roots in one cut). By AI agents, Wed Nov 11 2026. No macro, syntax, notation, axiom, sorry.
-/
import Derived.Test.YthcidiihfjjpdaaChecked
import GoSem.Claim
import GoSem.ClaimJoined
import GoSem.ClaimMapViews
import Derived.JoinedTies
import Derived.KernelRfl
namespace Go.Proofs.Ythcidiihfjjpdaa
/- THE CELL 'sum', in the pinned program and in every row, IS THE sha256 OF THE DUMP (.gsa) THAT YthcidiihfjjpdaaProg.lean LOADS. Nothing in Lean hashes anything: it is a label: what it is worth is what the hold of that sum in a sandbox is worth. -/
noncomputable def Try.pinned : Pinned := { name := "ythcidiihfjjpdaa", sum := "e8d7ddac6393c045e093ec50f30ca52ef26392e5071b5956fa17eee2ed728387", checked := Try.checked }
namespace Rows
def none {H : Type} : Left H := { results := [], args := [] }

/-- 'laws.FnLeastNear': WHATEVER THE INPUT: true; the input reads as it did. -/
def fnLeastNearSpec : ChangeSpec := { name := "fnLeastNear", fn := fun _ => fun
  | [d] => { results := [.lit (.bool true)], args := [d] }
  | _ => none }
def fnLeastNearRow : OpenClaim := { program := "ythcidiihfjjpdaa", sum := "e8d7ddac6393c045e093ec50f30ca52ef26392e5071b5956fa17eee2ed728387", func := "loop.example/guardsonnets/laws.FnLeastNear", spec := "fnLeastNear", apart := false }
def FnLeastNearSaid : Prop := fnLeastNearRow.holds Try.pinned (OpenSpec.ofChange fnLeastNearSpec)

/-- ITS FALSE NEIGHBOUR: 'it returns false'. Refute it at one input. -/
def fnLeastNearWrong : ChangeSpec := { name := "fnLeastNear", fn := fun _ => fun
  | [d] => { results := [.lit (.bool false)], args := [d] }
  | _ => none }
def FnLeastNearWrongFalsely : Prop := fnLeastNearRow.holds Try.pinned (OpenSpec.ofChange fnLeastNearWrong)

/-- 'laws.FnExactLeastNear': WHATEVER THE INPUT: true; the input reads as it did. -/
def fnExactLeastNearSpec : ChangeSpec := { name := "fnExactLeastNear", fn := fun _ => fun
  | [d] => { results := [.lit (.bool true)], args := [d] }
  | _ => none }
def fnExactLeastNearRow : OpenClaim := { program := "ythcidiihfjjpdaa", sum := "e8d7ddac6393c045e093ec50f30ca52ef26392e5071b5956fa17eee2ed728387", func := "loop.example/guardsonnets/laws.FnExactLeastNear", spec := "fnExactLeastNear", apart := false }
def FnExactLeastNearSaid : Prop := fnExactLeastNearRow.holds Try.pinned (OpenSpec.ofChange fnExactLeastNearSpec)

/-- ITS FALSE NEIGHBOUR: 'it returns false'. Refute it at one input. -/
def fnExactLeastNearWrong : ChangeSpec := { name := "fnExactLeastNear", fn := fun _ => fun
  | [d] => { results := [.lit (.bool false)], args := [d] }
  | _ => none }
def FnExactLeastNearWrongFalsely : Prop := fnExactLeastNearRow.holds Try.pinned (OpenSpec.ofChange fnExactLeastNearWrong)

/-- 'laws.FnShareRowOk': WHATEVER THE INPUT: true; the input reads as it did. -/
def fnShareRowOkSpec : ChangeSpec := { name := "fnShareRowOk", fn := fun _ => fun
  | [d] => { results := [.lit (.bool true)], args := [d] }
  | _ => none }
def fnShareRowOkRow : OpenClaim := { program := "ythcidiihfjjpdaa", sum := "e8d7ddac6393c045e093ec50f30ca52ef26392e5071b5956fa17eee2ed728387", func := "loop.example/guardsonnets/laws.FnShareRowOk", spec := "fnShareRowOk", recurses := true, apart := false }
def FnShareRowOkSaid : Prop := fnShareRowOkRow.holds Try.pinned (OpenSpec.ofChange fnShareRowOkSpec)

/-- ITS FALSE NEIGHBOUR: 'it returns false'. Refute it at one input. -/
def fnShareRowOkWrong : ChangeSpec := { name := "fnShareRowOk", fn := fun _ => fun
  | [d] => { results := [.lit (.bool false)], args := [d] }
  | _ => none }
def FnShareRowOkWrongFalsely : Prop := fnShareRowOkRow.holds Try.pinned (OpenSpec.ofChange fnShareRowOkWrong)

/-- 'laws.FnExactShareRowOk': WHATEVER THE INPUT: true; the input reads as it did. -/
def fnExactShareRowOkSpec : ChangeSpec := { name := "fnExactShareRowOk", fn := fun _ => fun
  | [d1, d2] => { results := [.lit (.bool true)], args := [d1, d2] }
  | _ => none }
def fnExactShareRowOkRow : OpenClaim := { program := "ythcidiihfjjpdaa", sum := "e8d7ddac6393c045e093ec50f30ca52ef26392e5071b5956fa17eee2ed728387", func := "loop.example/guardsonnets/laws.FnExactShareRowOk", spec := "fnExactShareRowOk", apart := false }
def FnExactShareRowOkSaid : Prop := fnExactShareRowOkRow.holds Try.pinned (OpenSpec.ofChange fnExactShareRowOkSpec)

/-- ITS FALSE NEIGHBOUR: 'it returns false'. Refute it at one input. -/
def fnExactShareRowOkWrong : ChangeSpec := { name := "fnExactShareRowOk", fn := fun _ => fun
  | [d1, d2] => { results := [.lit (.bool false)], args := [d1, d2] }
  | _ => none }
def FnExactShareRowOkWrongFalsely : Prop := fnExactShareRowOkRow.holds Try.pinned (OpenSpec.ofChange fnExactShareRowOkWrong)

/-- 'laws.FnShareRow': WHATEVER THE INPUT: true; the input reads as it did. -/
def fnShareRowSpec : ChangeSpec := { name := "fnShareRow", fn := fun _ => fun
  | [d] => { results := [.lit (.bool true)], args := [d] }
  | _ => none }
def fnShareRowRow : OpenClaim := { program := "ythcidiihfjjpdaa", sum := "e8d7ddac6393c045e093ec50f30ca52ef26392e5071b5956fa17eee2ed728387", func := "loop.example/guardsonnets/laws.FnShareRow", spec := "fnShareRow", recurses := true, apart := false }
def FnShareRowSaid : Prop := fnShareRowRow.holds Try.pinned (OpenSpec.ofChange fnShareRowSpec)

/-- ITS FALSE NEIGHBOUR: 'it returns false'. Refute it at one input. -/
def fnShareRowWrong : ChangeSpec := { name := "fnShareRow", fn := fun _ => fun
  | [d] => { results := [.lit (.bool false)], args := [d] }
  | _ => none }
def FnShareRowWrongFalsely : Prop := fnShareRowRow.holds Try.pinned (OpenSpec.ofChange fnShareRowWrong)

/-- 'laws.FnExactShareRow': WHATEVER THE INPUT: true; the input reads as it did. -/
def fnExactShareRowSpec : ChangeSpec := { name := "fnExactShareRow", fn := fun _ => fun
  | [d] => { results := [.lit (.bool true)], args := [d] }
  | _ => none }
def fnExactShareRowRow : OpenClaim := { program := "ythcidiihfjjpdaa", sum := "e8d7ddac6393c045e093ec50f30ca52ef26392e5071b5956fa17eee2ed728387", func := "loop.example/guardsonnets/laws.FnExactShareRow", spec := "fnExactShareRow", recurses := true, apart := false }
def FnExactShareRowSaid : Prop := fnExactShareRowRow.holds Try.pinned (OpenSpec.ofChange fnExactShareRowSpec)

/-- ITS FALSE NEIGHBOUR: 'it returns false'. Refute it at one input. -/
def fnExactShareRowWrong : ChangeSpec := { name := "fnExactShareRow", fn := fun _ => fun
  | [d] => { results := [.lit (.bool false)], args := [d] }
  | _ => none }
def FnExactShareRowWrongFalsely : Prop := fnExactShareRowRow.holds Try.pinned (OpenSpec.ofChange fnExactShareRowWrong)

/-- 'laws.FnMostShares': WHATEVER THE INPUT: true; the input reads as it did. -/
def fnMostSharesSpec : ChangeSpec := { name := "fnMostShares", fn := fun _ => fun
  | [d] => { results := [.lit (.bool true)], args := [d] }
  | _ => none }
def fnMostSharesRow : OpenClaim := { program := "ythcidiihfjjpdaa", sum := "e8d7ddac6393c045e093ec50f30ca52ef26392e5071b5956fa17eee2ed728387", func := "loop.example/guardsonnets/laws.FnMostShares", spec := "fnMostShares", recurses := true, apart := false }
def FnMostSharesSaid : Prop := fnMostSharesRow.holds Try.pinned (OpenSpec.ofChange fnMostSharesSpec)

/-- ITS FALSE NEIGHBOUR: 'it returns false'. Refute it at one input. -/
def fnMostSharesWrong : ChangeSpec := { name := "fnMostShares", fn := fun _ => fun
  | [d] => { results := [.lit (.bool false)], args := [d] }
  | _ => none }
def FnMostSharesWrongFalsely : Prop := fnMostSharesRow.holds Try.pinned (OpenSpec.ofChange fnMostSharesWrong)

/-- 'laws.FnExactMostShares': WHATEVER THE INPUT: true; the input reads as it did. -/
def fnExactMostSharesSpec : ChangeSpec := { name := "fnExactMostShares", fn := fun _ => fun
  | [d] => { results := [.lit (.bool true)], args := [d] }
  | _ => none }
def fnExactMostSharesRow : OpenClaim := { program := "ythcidiihfjjpdaa", sum := "e8d7ddac6393c045e093ec50f30ca52ef26392e5071b5956fa17eee2ed728387", func := "loop.example/guardsonnets/laws.FnExactMostShares", spec := "fnExactMostShares", recurses := true, apart := false }
def FnExactMostSharesSaid : Prop := fnExactMostSharesRow.holds Try.pinned (OpenSpec.ofChange fnExactMostSharesSpec)

/-- ITS FALSE NEIGHBOUR: 'it returns false'. Refute it at one input. -/
def fnExactMostSharesWrong : ChangeSpec := { name := "fnExactMostShares", fn := fun _ => fun
  | [d] => { results := [.lit (.bool false)], args := [d] }
  | _ => none }
def FnExactMostSharesWrongFalsely : Prop := fnExactMostSharesRow.holds Try.pinned (OpenSpec.ofChange fnExactMostSharesWrong)

/-- 'laws.FnWatchPair': WHATEVER THE INPUT: true; the input reads as it did. -/
def fnWatchPairSpec : ChangeSpec := { name := "fnWatchPair", fn := fun _ => fun
  | [d] => { results := [.lit (.bool true)], args := [d] }
  | _ => none }
def fnWatchPairRow : OpenClaim := { program := "ythcidiihfjjpdaa", sum := "e8d7ddac6393c045e093ec50f30ca52ef26392e5071b5956fa17eee2ed728387", func := "loop.example/guardsonnets/laws.FnWatchPair", spec := "fnWatchPair", apart := false }
def FnWatchPairSaid : Prop := fnWatchPairRow.holds Try.pinned (OpenSpec.ofChange fnWatchPairSpec)

/-- ITS FALSE NEIGHBOUR: 'it returns false'. Refute it at one input. -/
def fnWatchPairWrong : ChangeSpec := { name := "fnWatchPair", fn := fun _ => fun
  | [d] => { results := [.lit (.bool false)], args := [d] }
  | _ => none }
def FnWatchPairWrongFalsely : Prop := fnWatchPairRow.holds Try.pinned (OpenSpec.ofChange fnWatchPairWrong)

/-- 'laws.FnExactWatchPair': WHATEVER THE INPUT: true; the input reads as it did. -/
def fnExactWatchPairSpec : ChangeSpec := { name := "fnExactWatchPair", fn := fun _ => fun
  | [d] => { results := [.lit (.bool true)], args := [d] }
  | _ => none }
def fnExactWatchPairRow : OpenClaim := { program := "ythcidiihfjjpdaa", sum := "e8d7ddac6393c045e093ec50f30ca52ef26392e5071b5956fa17eee2ed728387", func := "loop.example/guardsonnets/laws.FnExactWatchPair", spec := "fnExactWatchPair", apart := false }
def FnExactWatchPairSaid : Prop := fnExactWatchPairRow.holds Try.pinned (OpenSpec.ofChange fnExactWatchPairSpec)

/-- ITS FALSE NEIGHBOUR: 'it returns false'. Refute it at one input. -/
def fnExactWatchPairWrong : ChangeSpec := { name := "fnExactWatchPair", fn := fun _ => fun
  | [d] => { results := [.lit (.bool false)], args := [d] }
  | _ => none }
def FnExactWatchPairWrongFalsely : Prop := fnExactWatchPairRow.holds Try.pinned (OpenSpec.ofChange fnExactWatchPairWrong)

/-- 'laws.FnSharePair': WHATEVER THE INPUT: true; the input reads as it did. -/
def fnSharePairSpec : ChangeSpec := { name := "fnSharePair", fn := fun _ => fun
  | [d] => { results := [.lit (.bool true)], args := [d] }
  | _ => none }
def fnSharePairRow : OpenClaim := { program := "ythcidiihfjjpdaa", sum := "e8d7ddac6393c045e093ec50f30ca52ef26392e5071b5956fa17eee2ed728387", func := "loop.example/guardsonnets/laws.FnSharePair", spec := "fnSharePair", recurses := true, apart := false }
def FnSharePairSaid : Prop := fnSharePairRow.holds Try.pinned (OpenSpec.ofChange fnSharePairSpec)

/-- ITS FALSE NEIGHBOUR: 'it returns false'. Refute it at one input. -/
def fnSharePairWrong : ChangeSpec := { name := "fnSharePair", fn := fun _ => fun
  | [d] => { results := [.lit (.bool false)], args := [d] }
  | _ => none }
def FnSharePairWrongFalsely : Prop := fnSharePairRow.holds Try.pinned (OpenSpec.ofChange fnSharePairWrong)

/-- 'laws.FnExactSharePair': WHATEVER THE INPUT: true; the input reads as it did. -/
def fnExactSharePairSpec : ChangeSpec := { name := "fnExactSharePair", fn := fun _ => fun
  | [d] => { results := [.lit (.bool true)], args := [d] }
  | _ => none }
def fnExactSharePairRow : OpenClaim := { program := "ythcidiihfjjpdaa", sum := "e8d7ddac6393c045e093ec50f30ca52ef26392e5071b5956fa17eee2ed728387", func := "loop.example/guardsonnets/laws.FnExactSharePair", spec := "fnExactSharePair", recurses := true, apart := false }
def FnExactSharePairSaid : Prop := fnExactSharePairRow.holds Try.pinned (OpenSpec.ofChange fnExactSharePairSpec)

/-- ITS FALSE NEIGHBOUR: 'it returns false'. Refute it at one input. -/
def fnExactSharePairWrong : ChangeSpec := { name := "fnExactSharePair", fn := fun _ => fun
  | [d] => { results := [.lit (.bool false)], args := [d] }
  | _ => none }
def FnExactSharePairWrongFalsely : Prop := fnExactSharePairRow.holds Try.pinned (OpenSpec.ofChange fnExactSharePairWrong)

/- THE SECOND FORM. 'bulk': how many values and letters a reading holds, each counted each time it is reached (what is shared counts as often as it is met; a slice's spare places count too). A statement '..UptoSaid' is the law's where the arguments, and the package variables that the reading takes, are together of bulk at most 1048576: NARROWER than '..Said'. Prove '..Said' where nothing that the law and all that it calls make is longer than what came in: it says more and counts as full. Else prove '..UptoSaid'. A law counts once. -/
mutual
def uptoBulk {H : Type} : DataW H → Nat
  | .lit (.string bytes) => bytes.length + 1
  | .lit _ => 1
  | .nil => 1
  | .ptr d => uptoBulk d + 1
  | .slice elems spare => uptoBulkAll elems + uptoBulkAll spare + 1
  | .agg parts => uptoBulkAll parts + 1
  | .iface _ d => uptoBulk d + 1
  | .map entries => uptoBulkEntries entries + 1
  | .held _ => 1
def uptoBulkAll {H : Type} : List (DataW H) → Nat
  | [] => 0
  | d :: r => uptoBulk d + uptoBulkAll r
def uptoBulkEntries {H : Type} : List (Lit × DataW H) → Nat
  | [] => 0
  | x :: r => uptoBulkEntry x + uptoBulkEntries r
def uptoBulkEntry {H : Type} : Lit × DataW H → Nat
  | (.string bytes, d) => bytes.length + uptoBulk d + 1
  | (_, d) => uptoBulk d + 1
 end
def uptoSmall : (H : Type) → List (DataW H) → Bool := fun _ ds => decide (uptoBulkAll ds ≤ 1048576)
def OpenSpec.upto (s : _root_.Go.ChangeSpec) : _root_.Go.OpenSpec := { _root_.Go.OpenSpec.ofChange s with cond := some uptoSmall }

/-- 'laws.FnLeastNear', WHERE WHAT IT READS IS OF BULK AT MOST 1048576: true; the input reads as it did. -/
def fnLeastNearUptoRow : OpenClaim := { program := "ythcidiihfjjpdaa", sum := "e8d7ddac6393c045e093ec50f30ca52ef26392e5071b5956fa17eee2ed728387", func := "loop.example/guardsonnets/laws.FnLeastNear", spec := "fnLeastNear", apart := false, narrowed := true }
def FnLeastNearUptoSaid : Prop := fnLeastNearUptoRow.holds Try.pinned (OpenSpec.upto fnLeastNearSpec)

/-- 'laws.FnExactLeastNear', WHERE WHAT IT READS IS OF BULK AT MOST 1048576: true; the input reads as it did. -/
def fnExactLeastNearUptoRow : OpenClaim := { program := "ythcidiihfjjpdaa", sum := "e8d7ddac6393c045e093ec50f30ca52ef26392e5071b5956fa17eee2ed728387", func := "loop.example/guardsonnets/laws.FnExactLeastNear", spec := "fnExactLeastNear", apart := false, narrowed := true }
def FnExactLeastNearUptoSaid : Prop := fnExactLeastNearUptoRow.holds Try.pinned (OpenSpec.upto fnExactLeastNearSpec)

/-- 'laws.FnShareRowOk', WHERE WHAT IT READS IS OF BULK AT MOST 1048576: true; the input reads as it did. -/
def fnShareRowOkUptoRow : OpenClaim := { program := "ythcidiihfjjpdaa", sum := "e8d7ddac6393c045e093ec50f30ca52ef26392e5071b5956fa17eee2ed728387", func := "loop.example/guardsonnets/laws.FnShareRowOk", spec := "fnShareRowOk", recurses := true, apart := false, narrowed := true }
def FnShareRowOkUptoSaid : Prop := fnShareRowOkUptoRow.holds Try.pinned (OpenSpec.upto fnShareRowOkSpec)

/-- 'laws.FnExactShareRowOk', WHERE WHAT IT READS IS OF BULK AT MOST 1048576: true; the input reads as it did. -/
def fnExactShareRowOkUptoRow : OpenClaim := { program := "ythcidiihfjjpdaa", sum := "e8d7ddac6393c045e093ec50f30ca52ef26392e5071b5956fa17eee2ed728387", func := "loop.example/guardsonnets/laws.FnExactShareRowOk", spec := "fnExactShareRowOk", apart := false, narrowed := true }
def FnExactShareRowOkUptoSaid : Prop := fnExactShareRowOkUptoRow.holds Try.pinned (OpenSpec.upto fnExactShareRowOkSpec)

/-- 'laws.FnShareRow', WHERE WHAT IT READS IS OF BULK AT MOST 1048576: true; the input reads as it did. -/
def fnShareRowUptoRow : OpenClaim := { program := "ythcidiihfjjpdaa", sum := "e8d7ddac6393c045e093ec50f30ca52ef26392e5071b5956fa17eee2ed728387", func := "loop.example/guardsonnets/laws.FnShareRow", spec := "fnShareRow", recurses := true, apart := false, narrowed := true }
def FnShareRowUptoSaid : Prop := fnShareRowUptoRow.holds Try.pinned (OpenSpec.upto fnShareRowSpec)

/-- 'laws.FnExactShareRow', WHERE WHAT IT READS IS OF BULK AT MOST 1048576: true; the input reads as it did. -/
def fnExactShareRowUptoRow : OpenClaim := { program := "ythcidiihfjjpdaa", sum := "e8d7ddac6393c045e093ec50f30ca52ef26392e5071b5956fa17eee2ed728387", func := "loop.example/guardsonnets/laws.FnExactShareRow", spec := "fnExactShareRow", recurses := true, apart := false, narrowed := true }
def FnExactShareRowUptoSaid : Prop := fnExactShareRowUptoRow.holds Try.pinned (OpenSpec.upto fnExactShareRowSpec)

/-- 'laws.FnMostShares', WHERE WHAT IT READS IS OF BULK AT MOST 1048576: true; the input reads as it did. -/
def fnMostSharesUptoRow : OpenClaim := { program := "ythcidiihfjjpdaa", sum := "e8d7ddac6393c045e093ec50f30ca52ef26392e5071b5956fa17eee2ed728387", func := "loop.example/guardsonnets/laws.FnMostShares", spec := "fnMostShares", recurses := true, apart := false, narrowed := true }
def FnMostSharesUptoSaid : Prop := fnMostSharesUptoRow.holds Try.pinned (OpenSpec.upto fnMostSharesSpec)

/-- 'laws.FnExactMostShares', WHERE WHAT IT READS IS OF BULK AT MOST 1048576: true; the input reads as it did. -/
def fnExactMostSharesUptoRow : OpenClaim := { program := "ythcidiihfjjpdaa", sum := "e8d7ddac6393c045e093ec50f30ca52ef26392e5071b5956fa17eee2ed728387", func := "loop.example/guardsonnets/laws.FnExactMostShares", spec := "fnExactMostShares", recurses := true, apart := false, narrowed := true }
def FnExactMostSharesUptoSaid : Prop := fnExactMostSharesUptoRow.holds Try.pinned (OpenSpec.upto fnExactMostSharesSpec)

/-- 'laws.FnWatchPair', WHERE WHAT IT READS IS OF BULK AT MOST 1048576: true; the input reads as it did. -/
def fnWatchPairUptoRow : OpenClaim := { program := "ythcidiihfjjpdaa", sum := "e8d7ddac6393c045e093ec50f30ca52ef26392e5071b5956fa17eee2ed728387", func := "loop.example/guardsonnets/laws.FnWatchPair", spec := "fnWatchPair", apart := false, narrowed := true }
def FnWatchPairUptoSaid : Prop := fnWatchPairUptoRow.holds Try.pinned (OpenSpec.upto fnWatchPairSpec)

/-- 'laws.FnExactWatchPair', WHERE WHAT IT READS IS OF BULK AT MOST 1048576: true; the input reads as it did. -/
def fnExactWatchPairUptoRow : OpenClaim := { program := "ythcidiihfjjpdaa", sum := "e8d7ddac6393c045e093ec50f30ca52ef26392e5071b5956fa17eee2ed728387", func := "loop.example/guardsonnets/laws.FnExactWatchPair", spec := "fnExactWatchPair", apart := false, narrowed := true }
def FnExactWatchPairUptoSaid : Prop := fnExactWatchPairUptoRow.holds Try.pinned (OpenSpec.upto fnExactWatchPairSpec)

/-- 'laws.FnSharePair', WHERE WHAT IT READS IS OF BULK AT MOST 1048576: true; the input reads as it did. -/
def fnSharePairUptoRow : OpenClaim := { program := "ythcidiihfjjpdaa", sum := "e8d7ddac6393c045e093ec50f30ca52ef26392e5071b5956fa17eee2ed728387", func := "loop.example/guardsonnets/laws.FnSharePair", spec := "fnSharePair", recurses := true, apart := false, narrowed := true }
def FnSharePairUptoSaid : Prop := fnSharePairUptoRow.holds Try.pinned (OpenSpec.upto fnSharePairSpec)

/-- 'laws.FnExactSharePair', WHERE WHAT IT READS IS OF BULK AT MOST 1048576: true; the input reads as it did. -/
def fnExactSharePairUptoRow : OpenClaim := { program := "ythcidiihfjjpdaa", sum := "e8d7ddac6393c045e093ec50f30ca52ef26392e5071b5956fa17eee2ed728387", func := "loop.example/guardsonnets/laws.FnExactSharePair", spec := "fnExactSharePair", recurses := true, apart := false, narrowed := true }
def FnExactSharePairUptoSaid : Prop := fnExactSharePairUptoRow.holds Try.pinned (OpenSpec.upto fnExactSharePairSpec)

end Rows
end Go.Proofs.Ythcidiihfjjpdaa
