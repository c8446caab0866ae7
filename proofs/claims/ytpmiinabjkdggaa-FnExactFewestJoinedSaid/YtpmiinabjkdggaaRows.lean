/-
  No cell of these rows narrows 'for every input' (looked for: loops, veiled, ifaces, maps, wideKeys, modest, calm, conditions, laid).
  DERIVED. THE GIVEN ROWS OF THIS SEAT. 10 by the template 'for every input the law returns true; each argument reads behind the call as it read before'; 0 by the template 'total and deterministic' (their statements: YtpmiinabjkdggaaTotals.lean).
  GIVEN WITH THE SEED: the statements are not yours to turn. If you find one false, say at which input.
  Laid BY PROGRAM, IN A SANDBOX (cutbox-rows.mjs): the forced cells as the released guide's own fill.sh prints them over the translation a0118b45e10230ca… (all of the seat's roots in one cut). By AI agents, Wed Nov 11 2026. No macro, syntax, notation, axiom, sorry.
-/
import Derived.Test.YtpmiinabjkdggaaChecked
import GoSem.Claim
import GoSem.ClaimJoined
import GoSem.ClaimMapViews
import Derived.JoinedTies
import Derived.KernelRfl
namespace Go.Proofs.Ytpmiinabjkdggaa
/- THE CELL 'sum', in the pinned program and in every row, IS THE sha256 OF THE DUMP (.gsa) THAT YtpmiinabjkdggaaProg.lean LOADS. Nothing in Lean hashes anything: it is a label: what it is worth is what the hold of that sum in a sandbox is worth. -/
noncomputable def Try.pinned : Pinned := { name := "ytpmiinabjkdggaa", sum := "a0118b45e10230ca54671f0ae06515cbbdf9a78b5d9de05e2b8c0805e7365e98", checked := Try.checked }
namespace Rows
def none {H : Type} : Left H := { results := [], args := [] }

/-- 'laws.FnTotalOk': WHATEVER THE INPUT: true; the input reads as it did. -/
def fnTotalOkSpec : ChangeSpec := { name := "fnTotalOk", fn := fun _ => fun
  | [d] => { results := [.lit (.bool true)], args := [d] }
  | _ => none }
def fnTotalOkRow : OpenClaim := { program := "ytpmiinabjkdggaa", sum := "a0118b45e10230ca54671f0ae06515cbbdf9a78b5d9de05e2b8c0805e7365e98", func := "loop.example/guardsonnets/laws.FnTotalOk", spec := "fnTotalOk", apart := false }
def FnTotalOkSaid : Prop := fnTotalOkRow.holds Try.pinned (OpenSpec.ofChange fnTotalOkSpec)

/-- ITS FALSE NEIGHBOUR: 'it returns false'. Refute it at one input. -/
def fnTotalOkWrong : ChangeSpec := { name := "fnTotalOk", fn := fun _ => fun
  | [d] => { results := [.lit (.bool false)], args := [d] }
  | _ => none }
def FnTotalOkWrongFalsely : Prop := fnTotalOkRow.holds Try.pinned (OpenSpec.ofChange fnTotalOkWrong)

/-- 'laws.FnExactTotalOk': WHATEVER THE INPUT: true; the input reads as it did. -/
def fnExactTotalOkSpec : ChangeSpec := { name := "fnExactTotalOk", fn := fun _ => fun
  | [d1, d2] => { results := [.lit (.bool true)], args := [d1, d2] }
  | _ => none }
def fnExactTotalOkRow : OpenClaim := { program := "ytpmiinabjkdggaa", sum := "a0118b45e10230ca54671f0ae06515cbbdf9a78b5d9de05e2b8c0805e7365e98", func := "loop.example/guardsonnets/laws.FnExactTotalOk", spec := "fnExactTotalOk", apart := false }
def FnExactTotalOkSaid : Prop := fnExactTotalOkRow.holds Try.pinned (OpenSpec.ofChange fnExactTotalOkSpec)

/-- ITS FALSE NEIGHBOUR: 'it returns false'. Refute it at one input. -/
def fnExactTotalOkWrong : ChangeSpec := { name := "fnExactTotalOk", fn := fun _ => fun
  | [d1, d2] => { results := [.lit (.bool false)], args := [d1, d2] }
  | _ => none }
def FnExactTotalOkWrongFalsely : Prop := fnExactTotalOkRow.holds Try.pinned (OpenSpec.ofChange fnExactTotalOkWrong)

/-- 'laws.FnFewestTotal': WHATEVER THE INPUT: true; the input reads as it did. -/
def fnFewestTotalSpec : ChangeSpec := { name := "fnFewestTotal", fn := fun _ => fun
  | [d] => { results := [.lit (.bool true)], args := [d] }
  | _ => none }
def fnFewestTotalRow : OpenClaim := { program := "ytpmiinabjkdggaa", sum := "a0118b45e10230ca54671f0ae06515cbbdf9a78b5d9de05e2b8c0805e7365e98", func := "loop.example/guardsonnets/laws.FnFewestTotal", spec := "fnFewestTotal", apart := false }
def FnFewestTotalSaid : Prop := fnFewestTotalRow.holds Try.pinned (OpenSpec.ofChange fnFewestTotalSpec)

/-- ITS FALSE NEIGHBOUR: 'it returns false'. Refute it at one input. -/
def fnFewestTotalWrong : ChangeSpec := { name := "fnFewestTotal", fn := fun _ => fun
  | [d] => { results := [.lit (.bool false)], args := [d] }
  | _ => none }
def FnFewestTotalWrongFalsely : Prop := fnFewestTotalRow.holds Try.pinned (OpenSpec.ofChange fnFewestTotalWrong)

/-- 'laws.FnExactFewestTotal': WHATEVER THE INPUT: true; the input reads as it did. -/
def fnExactFewestTotalSpec : ChangeSpec := { name := "fnExactFewestTotal", fn := fun _ => fun
  | [d] => { results := [.lit (.bool true)], args := [d] }
  | _ => none }
def fnExactFewestTotalRow : OpenClaim := { program := "ytpmiinabjkdggaa", sum := "a0118b45e10230ca54671f0ae06515cbbdf9a78b5d9de05e2b8c0805e7365e98", func := "loop.example/guardsonnets/laws.FnExactFewestTotal", spec := "fnExactFewestTotal", apart := false }
def FnExactFewestTotalSaid : Prop := fnExactFewestTotalRow.holds Try.pinned (OpenSpec.ofChange fnExactFewestTotalSpec)

/-- ITS FALSE NEIGHBOUR: 'it returns false'. Refute it at one input. -/
def fnExactFewestTotalWrong : ChangeSpec := { name := "fnExactFewestTotal", fn := fun _ => fun
  | [d] => { results := [.lit (.bool false)], args := [d] }
  | _ => none }
def FnExactFewestTotalWrongFalsely : Prop := fnExactFewestTotalRow.holds Try.pinned (OpenSpec.ofChange fnExactFewestTotalWrong)

/-- 'laws.FnTogetherOk': WHATEVER THE INPUT: true; the input reads as it did. -/
def fnTogetherOkSpec : ChangeSpec := { name := "fnTogetherOk", fn := fun _ => fun
  | [d] => { results := [.lit (.bool true)], args := [d] }
  | _ => none }
def fnTogetherOkRow : OpenClaim := { program := "ytpmiinabjkdggaa", sum := "a0118b45e10230ca54671f0ae06515cbbdf9a78b5d9de05e2b8c0805e7365e98", func := "loop.example/guardsonnets/laws.FnTogetherOk", spec := "fnTogetherOk", apart := false }
def FnTogetherOkSaid : Prop := fnTogetherOkRow.holds Try.pinned (OpenSpec.ofChange fnTogetherOkSpec)

/-- ITS FALSE NEIGHBOUR: 'it returns false'. Refute it at one input. -/
def fnTogetherOkWrong : ChangeSpec := { name := "fnTogetherOk", fn := fun _ => fun
  | [d] => { results := [.lit (.bool false)], args := [d] }
  | _ => none }
def FnTogetherOkWrongFalsely : Prop := fnTogetherOkRow.holds Try.pinned (OpenSpec.ofChange fnTogetherOkWrong)

/-- 'laws.FnExactTogetherOk': WHATEVER THE INPUT: true; the input reads as it did. -/
def fnExactTogetherOkSpec : ChangeSpec := { name := "fnExactTogetherOk", fn := fun _ => fun
  | [d1, d2] => { results := [.lit (.bool true)], args := [d1, d2] }
  | _ => none }
def fnExactTogetherOkRow : OpenClaim := { program := "ytpmiinabjkdggaa", sum := "a0118b45e10230ca54671f0ae06515cbbdf9a78b5d9de05e2b8c0805e7365e98", func := "loop.example/guardsonnets/laws.FnExactTogetherOk", spec := "fnExactTogetherOk", apart := false }
def FnExactTogetherOkSaid : Prop := fnExactTogetherOkRow.holds Try.pinned (OpenSpec.ofChange fnExactTogetherOkSpec)

/-- ITS FALSE NEIGHBOUR: 'it returns false'. Refute it at one input. -/
def fnExactTogetherOkWrong : ChangeSpec := { name := "fnExactTogetherOk", fn := fun _ => fun
  | [d1, d2] => { results := [.lit (.bool false)], args := [d1, d2] }
  | _ => none }
def FnExactTogetherOkWrongFalsely : Prop := fnExactTogetherOkRow.holds Try.pinned (OpenSpec.ofChange fnExactTogetherOkWrong)

/-- 'laws.FnJoinedWatchOk': WHATEVER THE INPUT: true; the input reads as it did. -/
def fnJoinedWatchOkSpec : ChangeSpec := { name := "fnJoinedWatchOk", fn := fun _ => fun
  | [d] => { results := [.lit (.bool true)], args := [d] }
  | _ => none }
def fnJoinedWatchOkRow : OpenClaim := { program := "ytpmiinabjkdggaa", sum := "a0118b45e10230ca54671f0ae06515cbbdf9a78b5d9de05e2b8c0805e7365e98", func := "loop.example/guardsonnets/laws.FnJoinedWatchOk", spec := "fnJoinedWatchOk", apart := false }
def FnJoinedWatchOkSaid : Prop := fnJoinedWatchOkRow.holds Try.pinned (OpenSpec.ofChange fnJoinedWatchOkSpec)

/-- ITS FALSE NEIGHBOUR: 'it returns false'. Refute it at one input. -/
def fnJoinedWatchOkWrong : ChangeSpec := { name := "fnJoinedWatchOk", fn := fun _ => fun
  | [d] => { results := [.lit (.bool false)], args := [d] }
  | _ => none }
def FnJoinedWatchOkWrongFalsely : Prop := fnJoinedWatchOkRow.holds Try.pinned (OpenSpec.ofChange fnJoinedWatchOkWrong)

/-- 'laws.FnExactJoinedWatchOk': WHATEVER THE INPUT: true; the input reads as it did. -/
def fnExactJoinedWatchOkSpec : ChangeSpec := { name := "fnExactJoinedWatchOk", fn := fun _ => fun
  | [d1, d2] => { results := [.lit (.bool true)], args := [d1, d2] }
  | _ => none }
def fnExactJoinedWatchOkRow : OpenClaim := { program := "ytpmiinabjkdggaa", sum := "a0118b45e10230ca54671f0ae06515cbbdf9a78b5d9de05e2b8c0805e7365e98", func := "loop.example/guardsonnets/laws.FnExactJoinedWatchOk", spec := "fnExactJoinedWatchOk", apart := false }
def FnExactJoinedWatchOkSaid : Prop := fnExactJoinedWatchOkRow.holds Try.pinned (OpenSpec.ofChange fnExactJoinedWatchOkSpec)

/-- ITS FALSE NEIGHBOUR: 'it returns false'. Refute it at one input. -/
def fnExactJoinedWatchOkWrong : ChangeSpec := { name := "fnExactJoinedWatchOk", fn := fun _ => fun
  | [d1, d2] => { results := [.lit (.bool false)], args := [d1, d2] }
  | _ => none }
def FnExactJoinedWatchOkWrongFalsely : Prop := fnExactJoinedWatchOkRow.holds Try.pinned (OpenSpec.ofChange fnExactJoinedWatchOkWrong)

/-- 'laws.FnFewestJoined': WHATEVER THE INPUT: true; the input reads as it did. -/
def fnFewestJoinedSpec : ChangeSpec := { name := "fnFewestJoined", fn := fun _ => fun
  | [d] => { results := [.lit (.bool true)], args := [d] }
  | _ => none }
def fnFewestJoinedRow : OpenClaim := { program := "ytpmiinabjkdggaa", sum := "a0118b45e10230ca54671f0ae06515cbbdf9a78b5d9de05e2b8c0805e7365e98", func := "loop.example/guardsonnets/laws.FnFewestJoined", spec := "fnFewestJoined", apart := false }
def FnFewestJoinedSaid : Prop := fnFewestJoinedRow.holds Try.pinned (OpenSpec.ofChange fnFewestJoinedSpec)

/-- ITS FALSE NEIGHBOUR: 'it returns false'. Refute it at one input. -/
def fnFewestJoinedWrong : ChangeSpec := { name := "fnFewestJoined", fn := fun _ => fun
  | [d] => { results := [.lit (.bool false)], args := [d] }
  | _ => none }
def FnFewestJoinedWrongFalsely : Prop := fnFewestJoinedRow.holds Try.pinned (OpenSpec.ofChange fnFewestJoinedWrong)

/-- 'laws.FnExactFewestJoined': WHATEVER THE INPUT: true; the input reads as it did. -/
def fnExactFewestJoinedSpec : ChangeSpec := { name := "fnExactFewestJoined", fn := fun _ => fun
  | [d] => { results := [.lit (.bool true)], args := [d] }
  | _ => none }
def fnExactFewestJoinedRow : OpenClaim := { program := "ytpmiinabjkdggaa", sum := "a0118b45e10230ca54671f0ae06515cbbdf9a78b5d9de05e2b8c0805e7365e98", func := "loop.example/guardsonnets/laws.FnExactFewestJoined", spec := "fnExactFewestJoined", apart := false }
def FnExactFewestJoinedSaid : Prop := fnExactFewestJoinedRow.holds Try.pinned (OpenSpec.ofChange fnExactFewestJoinedSpec)

/-- ITS FALSE NEIGHBOUR: 'it returns false'. Refute it at one input. -/
def fnExactFewestJoinedWrong : ChangeSpec := { name := "fnExactFewestJoined", fn := fun _ => fun
  | [d] => { results := [.lit (.bool false)], args := [d] }
  | _ => none }
def FnExactFewestJoinedWrongFalsely : Prop := fnExactFewestJoinedRow.holds Try.pinned (OpenSpec.ofChange fnExactFewestJoinedWrong)

/- THE SECOND FORM. 'bulk': how many values and letters a reading holds, each counted each time it is reached (what is shared counts as often as it is met; a slice's spare places count too). A statement '..UptoSaid' is the law's where the arguments, and the package variables that the reading takes, are together of bulk at most 1048576: NARROWER than '..Said'. Prove '..Said' where nothing that the law and all that it calls make is longer than what came in: it says more and counts as full. Else prove '..UptoSaid'. A law counts once. -/
mutual
def uptoBulk {H : Type} : DataW H → Nat
  | .lit (.string bytes) => bytes.length + 1
  | .lit _ => 1
  | .nil => 1
  | .ptr d => uptoBulk d + 1
  | .slice elems spare => uptoBulkAll elems + uptoBulkAll spare + 1
  | .agg parts => uptoBulkAll parts + 1
  | .iface _ d => uptoBulk d + 1
  | .map entries => uptoBulkEntries entries + 1
  | .held _ => 1
def uptoBulkAll {H : Type} : List (DataW H) → Nat
  | [] => 0
  | d :: r => uptoBulk d + uptoBulkAll r
def uptoBulkEntries {H : Type} : List (Lit × DataW H) → Nat
  | [] => 0
  | x :: r => uptoBulkEntry x + uptoBulkEntries r
def uptoBulkEntry {H : Type} : Lit × DataW H → Nat
  | (.string bytes, d) => bytes.length + uptoBulk d + 1
  | (_, d) => uptoBulk d + 1
 end
def uptoSmall : (H : Type) → List (DataW H) → Bool := fun _ ds => decide (uptoBulkAll ds ≤ 1048576)
def OpenSpec.upto (s : _root_.Go.ChangeSpec) : _root_.Go.OpenSpec := { _root_.Go.OpenSpec.ofChange s with cond := some uptoSmall }

/-- 'laws.FnTotalOk', WHERE WHAT IT READS IS OF BULK AT MOST 1048576: true; the input reads as it did. -/
def fnTotalOkUptoRow : OpenClaim := { program := "ytpmiinabjkdggaa", sum := "a0118b45e10230ca54671f0ae06515cbbdf9a78b5d9de05e2b8c0805e7365e98", func := "loop.example/guardsonnets/laws.FnTotalOk", spec := "fnTotalOk", apart := false, narrowed := true }
def FnTotalOkUptoSaid : Prop := fnTotalOkUptoRow.holds Try.pinned (OpenSpec.upto fnTotalOkSpec)

/-- 'laws.FnExactTotalOk', WHERE WHAT IT READS IS OF BULK AT MOST 1048576: true; the input reads as it did. -/
def fnExactTotalOkUptoRow : OpenClaim := { program := "ytpmiinabjkdggaa", sum := "a0118b45e10230ca54671f0ae06515cbbdf9a78b5d9de05e2b8c0805e7365e98", func := "loop.example/guardsonnets/laws.FnExactTotalOk", spec := "fnExactTotalOk", apart := false, narrowed := true }
def FnExactTotalOkUptoSaid : Prop := fnExactTotalOkUptoRow.holds Try.pinned (OpenSpec.upto fnExactTotalOkSpec)

/-- 'laws.FnFewestTotal', WHERE WHAT IT READS IS OF BULK AT MOST 1048576: true; the input reads as it did. -/
def fnFewestTotalUptoRow : OpenClaim := { program := "ytpmiinabjkdggaa", sum := "a0118b45e10230ca54671f0ae06515cbbdf9a78b5d9de05e2b8c0805e7365e98", func := "loop.example/guardsonnets/laws.FnFewestTotal", spec := "fnFewestTotal", apart := false, narrowed := true }
def FnFewestTotalUptoSaid : Prop := fnFewestTotalUptoRow.holds Try.pinned (OpenSpec.upto fnFewestTotalSpec)

/-- 'laws.FnExactFewestTotal', WHERE WHAT IT READS IS OF BULK AT MOST 1048576: true; the input reads as it did. -/
def fnExactFewestTotalUptoRow : OpenClaim := { program := "ytpmiinabjkdggaa", sum := "a0118b45e10230ca54671f0ae06515cbbdf9a78b5d9de05e2b8c0805e7365e98", func := "loop.example/guardsonnets/laws.FnExactFewestTotal", spec := "fnExactFewestTotal", apart := false, narrowed := true }
def FnExactFewestTotalUptoSaid : Prop := fnExactFewestTotalUptoRow.holds Try.pinned (OpenSpec.upto fnExactFewestTotalSpec)

/-- 'laws.FnTogetherOk', WHERE WHAT IT READS IS OF BULK AT MOST 1048576: true; the input reads as it did. -/
def fnTogetherOkUptoRow : OpenClaim := { program := "ytpmiinabjkdggaa", sum := "a0118b45e10230ca54671f0ae06515cbbdf9a78b5d9de05e2b8c0805e7365e98", func := "loop.example/guardsonnets/laws.FnTogetherOk", spec := "fnTogetherOk", apart := false, narrowed := true }
def FnTogetherOkUptoSaid : Prop := fnTogetherOkUptoRow.holds Try.pinned (OpenSpec.upto fnTogetherOkSpec)

/-- 'laws.FnExactTogetherOk', WHERE WHAT IT READS IS OF BULK AT MOST 1048576: true; the input reads as it did. -/
def fnExactTogetherOkUptoRow : OpenClaim := { program := "ytpmiinabjkdggaa", sum := "a0118b45e10230ca54671f0ae06515cbbdf9a78b5d9de05e2b8c0805e7365e98", func := "loop.example/guardsonnets/laws.FnExactTogetherOk", spec := "fnExactTogetherOk", apart := false, narrowed := true }
def FnExactTogetherOkUptoSaid : Prop := fnExactTogetherOkUptoRow.holds Try.pinned (OpenSpec.upto fnExactTogetherOkSpec)

/-- 'laws.FnJoinedWatchOk', WHERE WHAT IT READS IS OF BULK AT MOST 1048576: true; the input reads as it did. -/
def fnJoinedWatchOkUptoRow : OpenClaim := { program := "ytpmiinabjkdggaa", sum := "a0118b45e10230ca54671f0ae06515cbbdf9a78b5d9de05e2b8c0805e7365e98", func := "loop.example/guardsonnets/laws.FnJoinedWatchOk", spec := "fnJoinedWatchOk", apart := false, narrowed := true }
def FnJoinedWatchOkUptoSaid : Prop := fnJoinedWatchOkUptoRow.holds Try.pinned (OpenSpec.upto fnJoinedWatchOkSpec)

/-- 'laws.FnExactJoinedWatchOk', WHERE WHAT IT READS IS OF BULK AT MOST 1048576: true; the input reads as it did. -/
def fnExactJoinedWatchOkUptoRow : OpenClaim := { program := "ytpmiinabjkdggaa", sum := "a0118b45e10230ca54671f0ae06515cbbdf9a78b5d9de05e2b8c0805e7365e98", func := "loop.example/guardsonnets/laws.FnExactJoinedWatchOk", spec := "fnExactJoinedWatchOk", apart := false, narrowed := true }
def FnExactJoinedWatchOkUptoSaid : Prop := fnExactJoinedWatchOkUptoRow.holds Try.pinned (OpenSpec.upto fnExactJoinedWatchOkSpec)

/-- 'laws.FnFewestJoined', WHERE WHAT IT READS IS OF BULK AT MOST 1048576: true; the input reads as it did. -/
def fnFewestJoinedUptoRow : OpenClaim := { program := "ytpmiinabjkdggaa", sum := "a0118b45e10230ca54671f0ae06515cbbdf9a78b5d9de05e2b8c0805e7365e98", func := "loop.example/guardsonnets/laws.FnFewestJoined", spec := "fnFewestJoined", apart := false, narrowed := true }
def FnFewestJoinedUptoSaid : Prop := fnFewestJoinedUptoRow.holds Try.pinned (OpenSpec.upto fnFewestJoinedSpec)

/-- 'laws.FnExactFewestJoined', WHERE WHAT IT READS IS OF BULK AT MOST 1048576: true; the input reads as it did. -/
def fnExactFewestJoinedUptoRow : OpenClaim := { program := "ytpmiinabjkdggaa", sum := "a0118b45e10230ca54671f0ae06515cbbdf9a78b5d9de05e2b8c0805e7365e98", func := "loop.example/guardsonnets/laws.FnExactFewestJoined", spec := "fnExactFewestJoined", apart := false, narrowed := true }
def FnExactFewestJoinedUptoSaid : Prop := fnExactFewestJoinedUptoRow.holds Try.pinned (OpenSpec.upto fnExactFewestJoinedSpec)

end Rows
end Go.Proofs.Ytpmiinabjkdggaa
