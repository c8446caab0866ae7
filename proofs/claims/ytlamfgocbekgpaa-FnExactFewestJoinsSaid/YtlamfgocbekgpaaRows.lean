/-
  No cell of these rows narrows 'for every input' (looked for: loops, veiled, ifaces, maps, wideKeys, modest, calm, conditions, laid).
  DERIVED. THE GIVEN ROWS OF THIS SEAT. 10 by the template 'for every input the law returns true; each argument reads behind the call as it read before'; 0 by the template 'total and deterministic' (their statements: YtlamfgocbekgpaaTotals.lean).
  GIVEN WITH THE SEED: the statements are not yours to turn. If you find one false, say at which input.
  Laid BY PROGRAM, IN A SANDBOX (cutbox-rows.mjs): the forced cells as the released guide's own fill.sh prints them over the translation 9a8b0d4f8d7a6e5a… (all of the seat's roots in one cut). By AI agents, Wed Nov 11 2026. No macro, syntax, notation, axiom, sorry.
-/
import Derived.Test.YtlamfgocbekgpaaChecked
import GoSem.Claim
import GoSem.ClaimJoined
import GoSem.ClaimMapViews
import Derived.JoinedTies
import Derived.KernelRfl
namespace Go.Proofs.Ytlamfgocbekgpaa
/- THE CELL 'sum', in the pinned program and in every row, IS THE sha256 OF THE DUMP (.gsa) THAT YtlamfgocbekgpaaProg.lean LOADS. Nothing in Lean hashes anything: it is a label: what it is worth is what the hold of that sum in a sandbox is worth. -/
noncomputable def Try.pinned : Pinned := { name := "ytlamfgocbekgpaa", sum := "9a8b0d4f8d7a6e5accfe21039cc8cbf15a705bbe34386f4416374eb1cba9c3f2", checked := Try.checked }
namespace Rows
def none {H : Type} : Left H := { results := [], args := [] }

/-- 'laws.FnWireCut': WHATEVER THE INPUT: true; the input reads as it did. -/
def fnWireCutSpec : ChangeSpec := { name := "fnWireCut", fn := fun _ => fun
  | [d] => { results := [.lit (.bool true)], args := [d] }
  | _ => none }
def fnWireCutRow : OpenClaim := { program := "ytlamfgocbekgpaa", sum := "9a8b0d4f8d7a6e5accfe21039cc8cbf15a705bbe34386f4416374eb1cba9c3f2", func := "loop.example/guardsonnets/laws.FnWireCut", spec := "fnWireCut", apart := false }
def FnWireCutSaid : Prop := fnWireCutRow.holds Try.pinned (OpenSpec.ofChange fnWireCutSpec)

/-- ITS FALSE NEIGHBOUR: 'it returns false'. Refute it at one input. -/
def fnWireCutWrong : ChangeSpec := { name := "fnWireCut", fn := fun _ => fun
  | [d] => { results := [.lit (.bool false)], args := [d] }
  | _ => none }
def FnWireCutWrongFalsely : Prop := fnWireCutRow.holds Try.pinned (OpenSpec.ofChange fnWireCutWrong)

/-- 'laws.FnExactWireCut': WHATEVER THE INPUT: true; the input reads as it did. -/
def fnExactWireCutSpec : ChangeSpec := { name := "fnExactWireCut", fn := fun _ => fun
  | [d1, d2, d3] => { results := [.lit (.bool true)], args := [d1, d2, d3] }
  | _ => none }
def fnExactWireCutRow : OpenClaim := { program := "ytlamfgocbekgpaa", sum := "9a8b0d4f8d7a6e5accfe21039cc8cbf15a705bbe34386f4416374eb1cba9c3f2", func := "loop.example/guardsonnets/laws.FnExactWireCut", spec := "fnExactWireCut", apart := false }
def FnExactWireCutSaid : Prop := fnExactWireCutRow.holds Try.pinned (OpenSpec.ofChange fnExactWireCutSpec)

/-- ITS FALSE NEIGHBOUR: 'it returns false'. Refute it at one input. -/
def fnExactWireCutWrong : ChangeSpec := { name := "fnExactWireCut", fn := fun _ => fun
  | [d1, d2, d3] => { results := [.lit (.bool false)], args := [d1, d2, d3] }
  | _ => none }
def FnExactWireCutWrongFalsely : Prop := fnExactWireCutRow.holds Try.pinned (OpenSpec.ofChange fnExactWireCutWrong)

/-- 'laws.FnWireJoined': WHATEVER THE INPUT: true; the input reads as it did. -/
def fnWireJoinedSpec : ChangeSpec := { name := "fnWireJoined", fn := fun _ => fun
  | [d] => { results := [.lit (.bool true)], args := [d] }
  | _ => none }
def fnWireJoinedRow : OpenClaim := { program := "ytlamfgocbekgpaa", sum := "9a8b0d4f8d7a6e5accfe21039cc8cbf15a705bbe34386f4416374eb1cba9c3f2", func := "loop.example/guardsonnets/laws.FnWireJoined", spec := "fnWireJoined", apart := false }
def FnWireJoinedSaid : Prop := fnWireJoinedRow.holds Try.pinned (OpenSpec.ofChange fnWireJoinedSpec)

/-- ITS FALSE NEIGHBOUR: 'it returns false'. Refute it at one input. -/
def fnWireJoinedWrong : ChangeSpec := { name := "fnWireJoined", fn := fun _ => fun
  | [d] => { results := [.lit (.bool false)], args := [d] }
  | _ => none }
def FnWireJoinedWrongFalsely : Prop := fnWireJoinedRow.holds Try.pinned (OpenSpec.ofChange fnWireJoinedWrong)

/-- 'laws.FnExactWireJoined': WHATEVER THE INPUT: true; the input reads as it did. -/
def fnExactWireJoinedSpec : ChangeSpec := { name := "fnExactWireJoined", fn := fun _ => fun
  | [d1, d2, d3] => { results := [.lit (.bool true)], args := [d1, d2, d3] }
  | _ => none }
def fnExactWireJoinedRow : OpenClaim := { program := "ytlamfgocbekgpaa", sum := "9a8b0d4f8d7a6e5accfe21039cc8cbf15a705bbe34386f4416374eb1cba9c3f2", func := "loop.example/guardsonnets/laws.FnExactWireJoined", spec := "fnExactWireJoined", apart := false }
def FnExactWireJoinedSaid : Prop := fnExactWireJoinedRow.holds Try.pinned (OpenSpec.ofChange fnExactWireJoinedSpec)

/-- ITS FALSE NEIGHBOUR: 'it returns false'. Refute it at one input. -/
def fnExactWireJoinedWrong : ChangeSpec := { name := "fnExactWireJoined", fn := fun _ => fun
  | [d1, d2, d3] => { results := [.lit (.bool false)], args := [d1, d2, d3] }
  | _ => none }
def FnExactWireJoinedWrongFalsely : Prop := fnExactWireJoinedRow.holds Try.pinned (OpenSpec.ofChange fnExactWireJoinedWrong)

/-- 'laws.FnSeenMost': WHATEVER THE INPUT: true; the input reads as it did. -/
def fnSeenMostSpec : ChangeSpec := { name := "fnSeenMost", fn := fun _ => fun
  | [d] => { results := [.lit (.bool true)], args := [d] }
  | _ => none }
def fnSeenMostRow : OpenClaim := { program := "ytlamfgocbekgpaa", sum := "9a8b0d4f8d7a6e5accfe21039cc8cbf15a705bbe34386f4416374eb1cba9c3f2", func := "loop.example/guardsonnets/laws.FnSeenMost", spec := "fnSeenMost", apart := false }
def FnSeenMostSaid : Prop := fnSeenMostRow.holds Try.pinned (OpenSpec.ofChange fnSeenMostSpec)

/-- ITS FALSE NEIGHBOUR: 'it returns false'. Refute it at one input. -/
def fnSeenMostWrong : ChangeSpec := { name := "fnSeenMost", fn := fun _ => fun
  | [d] => { results := [.lit (.bool false)], args := [d] }
  | _ => none }
def FnSeenMostWrongFalsely : Prop := fnSeenMostRow.holds Try.pinned (OpenSpec.ofChange fnSeenMostWrong)

/-- 'laws.FnExactSeenMost': WHATEVER THE INPUT: true; the input reads as it did. -/
def fnExactSeenMostSpec : ChangeSpec := { name := "fnExactSeenMost", fn := fun _ => fun
  | [d1, d2] => { results := [.lit (.bool true)], args := [d1, d2] }
  | _ => none }
def fnExactSeenMostRow : OpenClaim := { program := "ytlamfgocbekgpaa", sum := "9a8b0d4f8d7a6e5accfe21039cc8cbf15a705bbe34386f4416374eb1cba9c3f2", func := "loop.example/guardsonnets/laws.FnExactSeenMost", spec := "fnExactSeenMost", apart := false }
def FnExactSeenMostSaid : Prop := fnExactSeenMostRow.holds Try.pinned (OpenSpec.ofChange fnExactSeenMostSpec)

/-- ITS FALSE NEIGHBOUR: 'it returns false'. Refute it at one input. -/
def fnExactSeenMostWrong : ChangeSpec := { name := "fnExactSeenMost", fn := fun _ => fun
  | [d1, d2] => { results := [.lit (.bool false)], args := [d1, d2] }
  | _ => none }
def FnExactSeenMostWrongFalsely : Prop := fnExactSeenMostRow.holds Try.pinned (OpenSpec.ofChange fnExactSeenMostWrong)

/-- 'laws.FnFewestCuts': WHATEVER THE INPUT: true; the input reads as it did. -/
def fnFewestCutsSpec : ChangeSpec := { name := "fnFewestCuts", fn := fun _ => fun
  | [d] => { results := [.lit (.bool true)], args := [d] }
  | _ => none }
def fnFewestCutsRow : OpenClaim := { program := "ytlamfgocbekgpaa", sum := "9a8b0d4f8d7a6e5accfe21039cc8cbf15a705bbe34386f4416374eb1cba9c3f2", func := "loop.example/guardsonnets/laws.FnFewestCuts", spec := "fnFewestCuts", recurses := true, apart := false }
def FnFewestCutsSaid : Prop := fnFewestCutsRow.holds Try.pinned (OpenSpec.ofChange fnFewestCutsSpec)

/-- ITS FALSE NEIGHBOUR: 'it returns false'. Refute it at one input. -/
def fnFewestCutsWrong : ChangeSpec := { name := "fnFewestCuts", fn := fun _ => fun
  | [d] => { results := [.lit (.bool false)], args := [d] }
  | _ => none }
def FnFewestCutsWrongFalsely : Prop := fnFewestCutsRow.holds Try.pinned (OpenSpec.ofChange fnFewestCutsWrong)

/-- 'laws.FnExactFewestCuts': WHATEVER THE INPUT: true; the input reads as it did. -/
def fnExactFewestCutsSpec : ChangeSpec := { name := "fnExactFewestCuts", fn := fun _ => fun
  | [d] => { results := [.lit (.bool true)], args := [d] }
  | _ => none }
def fnExactFewestCutsRow : OpenClaim := { program := "ytlamfgocbekgpaa", sum := "9a8b0d4f8d7a6e5accfe21039cc8cbf15a705bbe34386f4416374eb1cba9c3f2", func := "loop.example/guardsonnets/laws.FnExactFewestCuts", spec := "fnExactFewestCuts", recurses := true, apart := false }
def FnExactFewestCutsSaid : Prop := fnExactFewestCutsRow.holds Try.pinned (OpenSpec.ofChange fnExactFewestCutsSpec)

/-- ITS FALSE NEIGHBOUR: 'it returns false'. Refute it at one input. -/
def fnExactFewestCutsWrong : ChangeSpec := { name := "fnExactFewestCuts", fn := fun _ => fun
  | [d] => { results := [.lit (.bool false)], args := [d] }
  | _ => none }
def FnExactFewestCutsWrongFalsely : Prop := fnExactFewestCutsRow.holds Try.pinned (OpenSpec.ofChange fnExactFewestCutsWrong)

/-- 'laws.FnFewestJoins': WHATEVER THE INPUT: true; the input reads as it did. -/
def fnFewestJoinsSpec : ChangeSpec := { name := "fnFewestJoins", fn := fun _ => fun
  | [d] => { results := [.lit (.bool true)], args := [d] }
  | _ => none }
def fnFewestJoinsRow : OpenClaim := { program := "ytlamfgocbekgpaa", sum := "9a8b0d4f8d7a6e5accfe21039cc8cbf15a705bbe34386f4416374eb1cba9c3f2", func := "loop.example/guardsonnets/laws.FnFewestJoins", spec := "fnFewestJoins", recurses := true, apart := false }
def FnFewestJoinsSaid : Prop := fnFewestJoinsRow.holds Try.pinned (OpenSpec.ofChange fnFewestJoinsSpec)

/-- ITS FALSE NEIGHBOUR: 'it returns false'. Refute it at one input. -/
def fnFewestJoinsWrong : ChangeSpec := { name := "fnFewestJoins", fn := fun _ => fun
  | [d] => { results := [.lit (.bool false)], args := [d] }
  | _ => none }
def FnFewestJoinsWrongFalsely : Prop := fnFewestJoinsRow.holds Try.pinned (OpenSpec.ofChange fnFewestJoinsWrong)

/-- 'laws.FnExactFewestJoins': WHATEVER THE INPUT: true; the input reads as it did. -/
def fnExactFewestJoinsSpec : ChangeSpec := { name := "fnExactFewestJoins", fn := fun _ => fun
  | [d] => { results := [.lit (.bool true)], args := [d] }
  | _ => none }
def fnExactFewestJoinsRow : OpenClaim := { program := "ytlamfgocbekgpaa", sum := "9a8b0d4f8d7a6e5accfe21039cc8cbf15a705bbe34386f4416374eb1cba9c3f2", func := "loop.example/guardsonnets/laws.FnExactFewestJoins", spec := "fnExactFewestJoins", recurses := true, apart := false }
def FnExactFewestJoinsSaid : Prop := fnExactFewestJoinsRow.holds Try.pinned (OpenSpec.ofChange fnExactFewestJoinsSpec)

/-- ITS FALSE NEIGHBOUR: 'it returns false'. Refute it at one input. -/
def fnExactFewestJoinsWrong : ChangeSpec := { name := "fnExactFewestJoins", fn := fun _ => fun
  | [d] => { results := [.lit (.bool false)], args := [d] }
  | _ => none }
def FnExactFewestJoinsWrongFalsely : Prop := fnExactFewestJoinsRow.holds Try.pinned (OpenSpec.ofChange fnExactFewestJoinsWrong)

/- THE SECOND FORM. 'bulk': how many values and letters a reading holds, each counted each time it is reached (what is shared counts as often as it is met; a slice's spare places count too). A statement '..UptoSaid' is the law's where the arguments, and the package variables that the reading takes, are together of bulk at most 1048576: NARROWER than '..Said'. Prove '..Said' where nothing that the law and all that it calls make is longer than what came in: it says more and counts as full. Else prove '..UptoSaid'. A law counts once. -/
mutual
def uptoBulk {H : Type} : DataW H → Nat
  | .lit (.string bytes) => bytes.length + 1
  | .lit _ => 1
  | .nil => 1
  | .ptr d => uptoBulk d + 1
  | .slice elems spare => uptoBulkAll elems + uptoBulkAll spare + 1
  | .agg parts => uptoBulkAll parts + 1
  | .iface _ d => uptoBulk d + 1
  | .map entries => uptoBulkEntries entries + 1
  | .held _ => 1
def uptoBulkAll {H : Type} : List (DataW H) → Nat
  | [] => 0
  | d :: r => uptoBulk d + uptoBulkAll r
def uptoBulkEntries {H : Type} : List (Lit × DataW H) → Nat
  | [] => 0
  | x :: r => uptoBulkEntry x + uptoBulkEntries r
def uptoBulkEntry {H : Type} : Lit × DataW H → Nat
  | (.string bytes, d) => bytes.length + uptoBulk d + 1
  | (_, d) => uptoBulk d + 1
 end
def uptoSmall : (H : Type) → List (DataW H) → Bool := fun _ ds => decide (uptoBulkAll ds ≤ 1048576)
def OpenSpec.upto (s : _root_.Go.ChangeSpec) : _root_.Go.OpenSpec := { _root_.Go.OpenSpec.ofChange s with cond := some uptoSmall }

/-- 'laws.FnWireCut', WHERE WHAT IT READS IS OF BULK AT MOST 1048576: true; the input reads as it did. -/
def fnWireCutUptoRow : OpenClaim := { program := "ytlamfgocbekgpaa", sum := "9a8b0d4f8d7a6e5accfe21039cc8cbf15a705bbe34386f4416374eb1cba9c3f2", func := "loop.example/guardsonnets/laws.FnWireCut", spec := "fnWireCut", apart := false, narrowed := true }
def FnWireCutUptoSaid : Prop := fnWireCutUptoRow.holds Try.pinned (OpenSpec.upto fnWireCutSpec)

/-- 'laws.FnExactWireCut', WHERE WHAT IT READS IS OF BULK AT MOST 1048576: true; the input reads as it did. -/
def fnExactWireCutUptoRow : OpenClaim := { program := "ytlamfgocbekgpaa", sum := "9a8b0d4f8d7a6e5accfe21039cc8cbf15a705bbe34386f4416374eb1cba9c3f2", func := "loop.example/guardsonnets/laws.FnExactWireCut", spec := "fnExactWireCut", apart := false, narrowed := true }
def FnExactWireCutUptoSaid : Prop := fnExactWireCutUptoRow.holds Try.pinned (OpenSpec.upto fnExactWireCutSpec)

/-- 'laws.FnWireJoined', WHERE WHAT IT READS IS OF BULK AT MOST 1048576: true; the input reads as it did. -/
def fnWireJoinedUptoRow : OpenClaim := { program := "ytlamfgocbekgpaa", sum := "9a8b0d4f8d7a6e5accfe21039cc8cbf15a705bbe34386f4416374eb1cba9c3f2", func := "loop.example/guardsonnets/laws.FnWireJoined", spec := "fnWireJoined", apart := false, narrowed := true }
def FnWireJoinedUptoSaid : Prop := fnWireJoinedUptoRow.holds Try.pinned (OpenSpec.upto fnWireJoinedSpec)

/-- 'laws.FnExactWireJoined', WHERE WHAT IT READS IS OF BULK AT MOST 1048576: true; the input reads as it did. -/
def fnExactWireJoinedUptoRow : OpenClaim := { program := "ytlamfgocbekgpaa", sum := "9a8b0d4f8d7a6e5accfe21039cc8cbf15a705bbe34386f4416374eb1cba9c3f2", func := "loop.example/guardsonnets/laws.FnExactWireJoined", spec := "fnExactWireJoined", apart := false, narrowed := true }
def FnExactWireJoinedUptoSaid : Prop := fnExactWireJoinedUptoRow.holds Try.pinned (OpenSpec.upto fnExactWireJoinedSpec)

/-- 'laws.FnSeenMost', WHERE WHAT IT READS IS OF BULK AT MOST 1048576: true; the input reads as it did. -/
def fnSeenMostUptoRow : OpenClaim := { program := "ytlamfgocbekgpaa", sum := "9a8b0d4f8d7a6e5accfe21039cc8cbf15a705bbe34386f4416374eb1cba9c3f2", func := "loop.example/guardsonnets/laws.FnSeenMost", spec := "fnSeenMost", apart := false, narrowed := true }
def FnSeenMostUptoSaid : Prop := fnSeenMostUptoRow.holds Try.pinned (OpenSpec.upto fnSeenMostSpec)

/-- 'laws.FnExactSeenMost', WHERE WHAT IT READS IS OF BULK AT MOST 1048576: true; the input reads as it did. -/
def fnExactSeenMostUptoRow : OpenClaim := { program := "ytlamfgocbekgpaa", sum := "9a8b0d4f8d7a6e5accfe21039cc8cbf15a705bbe34386f4416374eb1cba9c3f2", func := "loop.example/guardsonnets/laws.FnExactSeenMost", spec := "fnExactSeenMost", apart := false, narrowed := true }
def FnExactSeenMostUptoSaid : Prop := fnExactSeenMostUptoRow.holds Try.pinned (OpenSpec.upto fnExactSeenMostSpec)

/-- 'laws.FnFewestCuts', WHERE WHAT IT READS IS OF BULK AT MOST 1048576: true; the input reads as it did. -/
def fnFewestCutsUptoRow : OpenClaim := { program := "ytlamfgocbekgpaa", sum := "9a8b0d4f8d7a6e5accfe21039cc8cbf15a705bbe34386f4416374eb1cba9c3f2", func := "loop.example/guardsonnets/laws.FnFewestCuts", spec := "fnFewestCuts", recurses := true, apart := false, narrowed := true }
def FnFewestCutsUptoSaid : Prop := fnFewestCutsUptoRow.holds Try.pinned (OpenSpec.upto fnFewestCutsSpec)

/-- 'laws.FnExactFewestCuts', WHERE WHAT IT READS IS OF BULK AT MOST 1048576: true; the input reads as it did. -/
def fnExactFewestCutsUptoRow : OpenClaim := { program := "ytlamfgocbekgpaa", sum := "9a8b0d4f8d7a6e5accfe21039cc8cbf15a705bbe34386f4416374eb1cba9c3f2", func := "loop.example/guardsonnets/laws.FnExactFewestCuts", spec := "fnExactFewestCuts", recurses := true, apart := false, narrowed := true }
def FnExactFewestCutsUptoSaid : Prop := fnExactFewestCutsUptoRow.holds Try.pinned (OpenSpec.upto fnExactFewestCutsSpec)

/-- 'laws.FnFewestJoins', WHERE WHAT IT READS IS OF BULK AT MOST 1048576: true; the input reads as it did. -/
def fnFewestJoinsUptoRow : OpenClaim := { program := "ytlamfgocbekgpaa", sum := "9a8b0d4f8d7a6e5accfe21039cc8cbf15a705bbe34386f4416374eb1cba9c3f2", func := "loop.example/guardsonnets/laws.FnFewestJoins", spec := "fnFewestJoins", recurses := true, apart := false, narrowed := true }
def FnFewestJoinsUptoSaid : Prop := fnFewestJoinsUptoRow.holds Try.pinned (OpenSpec.upto fnFewestJoinsSpec)

/-- 'laws.FnExactFewestJoins', WHERE WHAT IT READS IS OF BULK AT MOST 1048576: true; the input reads as it did. -/
def fnExactFewestJoinsUptoRow : OpenClaim := { program := "ytlamfgocbekgpaa", sum := "9a8b0d4f8d7a6e5accfe21039cc8cbf15a705bbe34386f4416374eb1cba9c3f2", func := "loop.example/guardsonnets/laws.FnExactFewestJoins", spec := "fnExactFewestJoins", recurses := true, apart := false, narrowed := true }
def FnExactFewestJoinsUptoSaid : Prop := fnExactFewestJoinsUptoRow.holds Try.pinned (OpenSpec.upto fnExactFewestJoinsSpec)

end Rows
end Go.Proofs.Ytlamfgocbekgpaa
