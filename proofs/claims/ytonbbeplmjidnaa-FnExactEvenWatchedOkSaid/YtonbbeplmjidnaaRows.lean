/-
  No cell of these rows narrows 'for every input' (looked for: loops, veiled, ifaces, maps, wideKeys, modest, calm, conditions, laid).
  DERIVED. THE GIVEN ROWS OF THIS SEAT. 16 by the template 'for every input the law returns true; each argument reads behind the call as it read before'; 0 by the template 'total and deterministic' (their statements: YtonbbeplmjidnaaTotals.lean).
  GIVEN WITH THE SEED: the statements are not yours to turn. If you find one false, say at which input.
  Laid BY PROGRAM, IN A SANDBOX (cutbox-rows.mjs): the forced cells as the released guide's own fill.sh prints them over the translation 37e2c039f33de291… (all of the seat's roots in one cut). By AI agents, Wed Nov 11 2026. No macro, syntax, notation, axiom, sorry.
-/
import Derived.Test.YtonbbeplmjidnaaChecked
import GoSem.Claim
import GoSem.ClaimJoined
import GoSem.ClaimMapViews
import Derived.JoinedTies
import Derived.KernelRfl
namespace Go.Proofs.Ytonbbeplmjidnaa
/- THE CELL 'sum', in the pinned program and in every row, IS THE sha256 OF THE DUMP (.gsa) THAT YtonbbeplmjidnaaProg.lean LOADS. Nothing in Lean hashes anything: it is a label: what it is worth is what the hold of that sum in a sandbox is worth. -/
noncomputable def Try.pinned : Pinned := { name := "ytonbbeplmjidnaa", sum := "37e2c039f33de291af33f6fcfd8b004800b06261fc25a4e4d8ede5a9532a9713", checked := Try.checked }
namespace Rows
def none {H : Type} : Left H := { results := [], args := [] }

/-- 'laws.FnFewestApart': WHATEVER THE INPUT: true; the input reads as it did. -/
def fnFewestApartSpec : ChangeSpec := { name := "fnFewestApart", fn := fun _ => fun
  | [d] => { results := [.lit (.bool true)], args := [d] }
  | _ => none }
def fnFewestApartRow : OpenClaim := { program := "ytonbbeplmjidnaa", sum := "37e2c039f33de291af33f6fcfd8b004800b06261fc25a4e4d8ede5a9532a9713", func := "loop.example/guardsonnets/laws.FnFewestApart", spec := "fnFewestApart", apart := false }
def FnFewestApartSaid : Prop := fnFewestApartRow.holds Try.pinned (OpenSpec.ofChange fnFewestApartSpec)

/-- ITS FALSE NEIGHBOUR: 'it returns false'. Refute it at one input. -/
def fnFewestApartWrong : ChangeSpec := { name := "fnFewestApart", fn := fun _ => fun
  | [d] => { results := [.lit (.bool false)], args := [d] }
  | _ => none }
def FnFewestApartWrongFalsely : Prop := fnFewestApartRow.holds Try.pinned (OpenSpec.ofChange fnFewestApartWrong)

/-- 'laws.FnExactFewestApart': WHATEVER THE INPUT: true; the input reads as it did. -/
def fnExactFewestApartSpec : ChangeSpec := { name := "fnExactFewestApart", fn := fun _ => fun
  | [d] => { results := [.lit (.bool true)], args := [d] }
  | _ => none }
def fnExactFewestApartRow : OpenClaim := { program := "ytonbbeplmjidnaa", sum := "37e2c039f33de291af33f6fcfd8b004800b06261fc25a4e4d8ede5a9532a9713", func := "loop.example/guardsonnets/laws.FnExactFewestApart", spec := "fnExactFewestApart", apart := false }
def FnExactFewestApartSaid : Prop := fnExactFewestApartRow.holds Try.pinned (OpenSpec.ofChange fnExactFewestApartSpec)

/-- ITS FALSE NEIGHBOUR: 'it returns false'. Refute it at one input. -/
def fnExactFewestApartWrong : ChangeSpec := { name := "fnExactFewestApart", fn := fun _ => fun
  | [d] => { results := [.lit (.bool false)], args := [d] }
  | _ => none }
def FnExactFewestApartWrongFalsely : Prop := fnExactFewestApartRow.holds Try.pinned (OpenSpec.ofChange fnExactFewestApartWrong)

/-- 'laws.FnMostApart': WHATEVER THE INPUT: true; the input reads as it did. -/
def fnMostApartSpec : ChangeSpec := { name := "fnMostApart", fn := fun _ => fun
  | [d] => { results := [.lit (.bool true)], args := [d] }
  | _ => none }
def fnMostApartRow : OpenClaim := { program := "ytonbbeplmjidnaa", sum := "37e2c039f33de291af33f6fcfd8b004800b06261fc25a4e4d8ede5a9532a9713", func := "loop.example/guardsonnets/laws.FnMostApart", spec := "fnMostApart", apart := false }
def FnMostApartSaid : Prop := fnMostApartRow.holds Try.pinned (OpenSpec.ofChange fnMostApartSpec)

/-- ITS FALSE NEIGHBOUR: 'it returns false'. Refute it at one input. -/
def fnMostApartWrong : ChangeSpec := { name := "fnMostApart", fn := fun _ => fun
  | [d] => { results := [.lit (.bool false)], args := [d] }
  | _ => none }
def FnMostApartWrongFalsely : Prop := fnMostApartRow.holds Try.pinned (OpenSpec.ofChange fnMostApartWrong)

/-- 'laws.FnExactMostApart': WHATEVER THE INPUT: true; the input reads as it did. -/
def fnExactMostApartSpec : ChangeSpec := { name := "fnExactMostApart", fn := fun _ => fun
  | [d] => { results := [.lit (.bool true)], args := [d] }
  | _ => none }
def fnExactMostApartRow : OpenClaim := { program := "ytonbbeplmjidnaa", sum := "37e2c039f33de291af33f6fcfd8b004800b06261fc25a4e4d8ede5a9532a9713", func := "loop.example/guardsonnets/laws.FnExactMostApart", spec := "fnExactMostApart", apart := false }
def FnExactMostApartSaid : Prop := fnExactMostApartRow.holds Try.pinned (OpenSpec.ofChange fnExactMostApartSpec)

/-- ITS FALSE NEIGHBOUR: 'it returns false'. Refute it at one input. -/
def fnExactMostApartWrong : ChangeSpec := { name := "fnExactMostApart", fn := fun _ => fun
  | [d] => { results := [.lit (.bool false)], args := [d] }
  | _ => none }
def FnExactMostApartWrongFalsely : Prop := fnExactMostApartRow.holds Try.pinned (OpenSpec.ofChange fnExactMostApartWrong)

/-- 'laws.FnApartCount': WHATEVER THE INPUT: true; the input reads as it did. -/
def fnApartCountSpec : ChangeSpec := { name := "fnApartCount", fn := fun _ => fun
  | [d] => { results := [.lit (.bool true)], args := [d] }
  | _ => none }
def fnApartCountRow : OpenClaim := { program := "ytonbbeplmjidnaa", sum := "37e2c039f33de291af33f6fcfd8b004800b06261fc25a4e4d8ede5a9532a9713", func := "loop.example/guardsonnets/laws.FnApartCount", spec := "fnApartCount", apart := false }
def FnApartCountSaid : Prop := fnApartCountRow.holds Try.pinned (OpenSpec.ofChange fnApartCountSpec)

/-- ITS FALSE NEIGHBOUR: 'it returns false'. Refute it at one input. -/
def fnApartCountWrong : ChangeSpec := { name := "fnApartCount", fn := fun _ => fun
  | [d] => { results := [.lit (.bool false)], args := [d] }
  | _ => none }
def FnApartCountWrongFalsely : Prop := fnApartCountRow.holds Try.pinned (OpenSpec.ofChange fnApartCountWrong)

/-- 'laws.FnExactApartCount': WHATEVER THE INPUT: true; the input reads as it did. -/
def fnExactApartCountSpec : ChangeSpec := { name := "fnExactApartCount", fn := fun _ => fun
  | [d] => { results := [.lit (.bool true)], args := [d] }
  | _ => none }
def fnExactApartCountRow : OpenClaim := { program := "ytonbbeplmjidnaa", sum := "37e2c039f33de291af33f6fcfd8b004800b06261fc25a4e4d8ede5a9532a9713", func := "loop.example/guardsonnets/laws.FnExactApartCount", spec := "fnExactApartCount", apart := false }
def FnExactApartCountSaid : Prop := fnExactApartCountRow.holds Try.pinned (OpenSpec.ofChange fnExactApartCountSpec)

/-- ITS FALSE NEIGHBOUR: 'it returns false'. Refute it at one input. -/
def fnExactApartCountWrong : ChangeSpec := { name := "fnExactApartCount", fn := fun _ => fun
  | [d] => { results := [.lit (.bool false)], args := [d] }
  | _ => none }
def FnExactApartCountWrongFalsely : Prop := fnExactApartCountRow.holds Try.pinned (OpenSpec.ofChange fnExactApartCountWrong)

/-- 'laws.FnFewestNeeds': WHATEVER THE INPUT: true; the input reads as it did. -/
def fnFewestNeedsSpec : ChangeSpec := { name := "fnFewestNeeds", fn := fun _ => fun
  | [d] => { results := [.lit (.bool true)], args := [d] }
  | _ => none }
def fnFewestNeedsRow : OpenClaim := { program := "ytonbbeplmjidnaa", sum := "37e2c039f33de291af33f6fcfd8b004800b06261fc25a4e4d8ede5a9532a9713", func := "loop.example/guardsonnets/laws.FnFewestNeeds", spec := "fnFewestNeeds", apart := false }
def FnFewestNeedsSaid : Prop := fnFewestNeedsRow.holds Try.pinned (OpenSpec.ofChange fnFewestNeedsSpec)

/-- ITS FALSE NEIGHBOUR: 'it returns false'. Refute it at one input. -/
def fnFewestNeedsWrong : ChangeSpec := { name := "fnFewestNeeds", fn := fun _ => fun
  | [d] => { results := [.lit (.bool false)], args := [d] }
  | _ => none }
def FnFewestNeedsWrongFalsely : Prop := fnFewestNeedsRow.holds Try.pinned (OpenSpec.ofChange fnFewestNeedsWrong)

/-- 'laws.FnExactFewestNeeds': WHATEVER THE INPUT: true; the input reads as it did. -/
def fnExactFewestNeedsSpec : ChangeSpec := { name := "fnExactFewestNeeds", fn := fun _ => fun
  | [d] => { results := [.lit (.bool true)], args := [d] }
  | _ => none }
def fnExactFewestNeedsRow : OpenClaim := { program := "ytonbbeplmjidnaa", sum := "37e2c039f33de291af33f6fcfd8b004800b06261fc25a4e4d8ede5a9532a9713", func := "loop.example/guardsonnets/laws.FnExactFewestNeeds", spec := "fnExactFewestNeeds", apart := false }
def FnExactFewestNeedsSaid : Prop := fnExactFewestNeedsRow.holds Try.pinned (OpenSpec.ofChange fnExactFewestNeedsSpec)

/-- ITS FALSE NEIGHBOUR: 'it returns false'. Refute it at one input. -/
def fnExactFewestNeedsWrong : ChangeSpec := { name := "fnExactFewestNeeds", fn := fun _ => fun
  | [d] => { results := [.lit (.bool false)], args := [d] }
  | _ => none }
def FnExactFewestNeedsWrongFalsely : Prop := fnExactFewestNeedsRow.holds Try.pinned (OpenSpec.ofChange fnExactFewestNeedsWrong)

/-- 'laws.FnMostNeeds': WHATEVER THE INPUT: true; the input reads as it did. -/
def fnMostNeedsSpec : ChangeSpec := { name := "fnMostNeeds", fn := fun _ => fun
  | [d] => { results := [.lit (.bool true)], args := [d] }
  | _ => none }
def fnMostNeedsRow : OpenClaim := { program := "ytonbbeplmjidnaa", sum := "37e2c039f33de291af33f6fcfd8b004800b06261fc25a4e4d8ede5a9532a9713", func := "loop.example/guardsonnets/laws.FnMostNeeds", spec := "fnMostNeeds", apart := false }
def FnMostNeedsSaid : Prop := fnMostNeedsRow.holds Try.pinned (OpenSpec.ofChange fnMostNeedsSpec)

/-- ITS FALSE NEIGHBOUR: 'it returns false'. Refute it at one input. -/
def fnMostNeedsWrong : ChangeSpec := { name := "fnMostNeeds", fn := fun _ => fun
  | [d] => { results := [.lit (.bool false)], args := [d] }
  | _ => none }
def FnMostNeedsWrongFalsely : Prop := fnMostNeedsRow.holds Try.pinned (OpenSpec.ofChange fnMostNeedsWrong)

/-- 'laws.FnExactMostNeeds': WHATEVER THE INPUT: true; the input reads as it did. -/
def fnExactMostNeedsSpec : ChangeSpec := { name := "fnExactMostNeeds", fn := fun _ => fun
  | [d] => { results := [.lit (.bool true)], args := [d] }
  | _ => none }
def fnExactMostNeedsRow : OpenClaim := { program := "ytonbbeplmjidnaa", sum := "37e2c039f33de291af33f6fcfd8b004800b06261fc25a4e4d8ede5a9532a9713", func := "loop.example/guardsonnets/laws.FnExactMostNeeds", spec := "fnExactMostNeeds", apart := false }
def FnExactMostNeedsSaid : Prop := fnExactMostNeedsRow.holds Try.pinned (OpenSpec.ofChange fnExactMostNeedsSpec)

/-- ITS FALSE NEIGHBOUR: 'it returns false'. Refute it at one input. -/
def fnExactMostNeedsWrong : ChangeSpec := { name := "fnExactMostNeeds", fn := fun _ => fun
  | [d] => { results := [.lit (.bool false)], args := [d] }
  | _ => none }
def FnExactMostNeedsWrongFalsely : Prop := fnExactMostNeedsRow.holds Try.pinned (OpenSpec.ofChange fnExactMostNeedsWrong)

/-- 'laws.FnMostLeast': WHATEVER THE INPUT: true; the input reads as it did. -/
def fnMostLeastSpec : ChangeSpec := { name := "fnMostLeast", fn := fun _ => fun
  | [d] => { results := [.lit (.bool true)], args := [d] }
  | _ => none }
def fnMostLeastRow : OpenClaim := { program := "ytonbbeplmjidnaa", sum := "37e2c039f33de291af33f6fcfd8b004800b06261fc25a4e4d8ede5a9532a9713", func := "loop.example/guardsonnets/laws.FnMostLeast", spec := "fnMostLeast", apart := false }
def FnMostLeastSaid : Prop := fnMostLeastRow.holds Try.pinned (OpenSpec.ofChange fnMostLeastSpec)

/-- ITS FALSE NEIGHBOUR: 'it returns false'. Refute it at one input. -/
def fnMostLeastWrong : ChangeSpec := { name := "fnMostLeast", fn := fun _ => fun
  | [d] => { results := [.lit (.bool false)], args := [d] }
  | _ => none }
def FnMostLeastWrongFalsely : Prop := fnMostLeastRow.holds Try.pinned (OpenSpec.ofChange fnMostLeastWrong)

/-- 'laws.FnExactMostLeast': WHATEVER THE INPUT: true; the input reads as it did. -/
def fnExactMostLeastSpec : ChangeSpec := { name := "fnExactMostLeast", fn := fun _ => fun
  | [d] => { results := [.lit (.bool true)], args := [d] }
  | _ => none }
def fnExactMostLeastRow : OpenClaim := { program := "ytonbbeplmjidnaa", sum := "37e2c039f33de291af33f6fcfd8b004800b06261fc25a4e4d8ede5a9532a9713", func := "loop.example/guardsonnets/laws.FnExactMostLeast", spec := "fnExactMostLeast", apart := false }
def FnExactMostLeastSaid : Prop := fnExactMostLeastRow.holds Try.pinned (OpenSpec.ofChange fnExactMostLeastSpec)

/-- ITS FALSE NEIGHBOUR: 'it returns false'. Refute it at one input. -/
def fnExactMostLeastWrong : ChangeSpec := { name := "fnExactMostLeast", fn := fun _ => fun
  | [d] => { results := [.lit (.bool false)], args := [d] }
  | _ => none }
def FnExactMostLeastWrongFalsely : Prop := fnExactMostLeastRow.holds Try.pinned (OpenSpec.ofChange fnExactMostLeastWrong)

/-- 'laws.FnChainRow': WHATEVER THE INPUT: true; the input reads as it did. -/
def fnChainRowSpec : ChangeSpec := { name := "fnChainRow", fn := fun _ => fun
  | [d] => { results := [.lit (.bool true)], args := [d] }
  | _ => none }
def fnChainRowRow : OpenClaim := { program := "ytonbbeplmjidnaa", sum := "37e2c039f33de291af33f6fcfd8b004800b06261fc25a4e4d8ede5a9532a9713", func := "loop.example/guardsonnets/laws.FnChainRow", spec := "fnChainRow", apart := false }
def FnChainRowSaid : Prop := fnChainRowRow.holds Try.pinned (OpenSpec.ofChange fnChainRowSpec)

/-- ITS FALSE NEIGHBOUR: 'it returns false'. Refute it at one input. -/
def fnChainRowWrong : ChangeSpec := { name := "fnChainRow", fn := fun _ => fun
  | [d] => { results := [.lit (.bool false)], args := [d] }
  | _ => none }
def FnChainRowWrongFalsely : Prop := fnChainRowRow.holds Try.pinned (OpenSpec.ofChange fnChainRowWrong)

/-- 'laws.FnExactChainRow': WHATEVER THE INPUT: true; the input reads as it did. -/
def fnExactChainRowSpec : ChangeSpec := { name := "fnExactChainRow", fn := fun _ => fun
  | [d] => { results := [.lit (.bool true)], args := [d] }
  | _ => none }
def fnExactChainRowRow : OpenClaim := { program := "ytonbbeplmjidnaa", sum := "37e2c039f33de291af33f6fcfd8b004800b06261fc25a4e4d8ede5a9532a9713", func := "loop.example/guardsonnets/laws.FnExactChainRow", spec := "fnExactChainRow", apart := false }
def FnExactChainRowSaid : Prop := fnExactChainRowRow.holds Try.pinned (OpenSpec.ofChange fnExactChainRowSpec)

/-- ITS FALSE NEIGHBOUR: 'it returns false'. Refute it at one input. -/
def fnExactChainRowWrong : ChangeSpec := { name := "fnExactChainRow", fn := fun _ => fun
  | [d] => { results := [.lit (.bool false)], args := [d] }
  | _ => none }
def FnExactChainRowWrongFalsely : Prop := fnExactChainRowRow.holds Try.pinned (OpenSpec.ofChange fnExactChainRowWrong)

/-- 'laws.FnEvenWatchedOk': WHATEVER THE INPUT: true; the input reads as it did. -/
def fnEvenWatchedOkSpec : ChangeSpec := { name := "fnEvenWatchedOk", fn := fun _ => fun
  | [d] => { results := [.lit (.bool true)], args := [d] }
  | _ => none }
def fnEvenWatchedOkRow : OpenClaim := { program := "ytonbbeplmjidnaa", sum := "37e2c039f33de291af33f6fcfd8b004800b06261fc25a4e4d8ede5a9532a9713", func := "loop.example/guardsonnets/laws.FnEvenWatchedOk", spec := "fnEvenWatchedOk", apart := false }
def FnEvenWatchedOkSaid : Prop := fnEvenWatchedOkRow.holds Try.pinned (OpenSpec.ofChange fnEvenWatchedOkSpec)

/-- ITS FALSE NEIGHBOUR: 'it returns false'. Refute it at one input. -/
def fnEvenWatchedOkWrong : ChangeSpec := { name := "fnEvenWatchedOk", fn := fun _ => fun
  | [d] => { results := [.lit (.bool false)], args := [d] }
  | _ => none }
def FnEvenWatchedOkWrongFalsely : Prop := fnEvenWatchedOkRow.holds Try.pinned (OpenSpec.ofChange fnEvenWatchedOkWrong)

/-- 'laws.FnExactEvenWatchedOk': WHATEVER THE INPUT: true; the input reads as it did. -/
def fnExactEvenWatchedOkSpec : ChangeSpec := { name := "fnExactEvenWatchedOk", fn := fun _ => fun
  | [d] => { results := [.lit (.bool true)], args := [d] }
  | _ => none }
def fnExactEvenWatchedOkRow : OpenClaim := { program := "ytonbbeplmjidnaa", sum := "37e2c039f33de291af33f6fcfd8b004800b06261fc25a4e4d8ede5a9532a9713", func := "loop.example/guardsonnets/laws.FnExactEvenWatchedOk", spec := "fnExactEvenWatchedOk", apart := false }
def FnExactEvenWatchedOkSaid : Prop := fnExactEvenWatchedOkRow.holds Try.pinned (OpenSpec.ofChange fnExactEvenWatchedOkSpec)

/-- ITS FALSE NEIGHBOUR: 'it returns false'. Refute it at one input. -/
def fnExactEvenWatchedOkWrong : ChangeSpec := { name := "fnExactEvenWatchedOk", fn := fun _ => fun
  | [d] => { results := [.lit (.bool false)], args := [d] }
  | _ => none }
def FnExactEvenWatchedOkWrongFalsely : Prop := fnExactEvenWatchedOkRow.holds Try.pinned (OpenSpec.ofChange fnExactEvenWatchedOkWrong)

/- THE SECOND FORM. 'bulk': how many values and letters a reading holds, each counted each time it is reached (what is shared counts as often as it is met; a slice's spare places count too). A statement '..UptoSaid' is the law's where the arguments, and the package variables that the reading takes, are together of bulk at most 1048576: NARROWER than '..Said'. Prove '..Said' where nothing that the law and all that it calls make is longer than what came in: it says more and counts as full. Else prove '..UptoSaid'. A law counts once. -/
mutual
def uptoBulk {H : Type} : DataW H → Nat
  | .lit (.string bytes) => bytes.length + 1
  | .lit _ => 1
  | .nil => 1
  | .ptr d => uptoBulk d + 1
  | .slice elems spare => uptoBulkAll elems + uptoBulkAll spare + 1
  | .agg parts => uptoBulkAll parts + 1
  | .iface _ d => uptoBulk d + 1
  | .map entries => uptoBulkEntries entries + 1
  | .held _ => 1
def uptoBulkAll {H : Type} : List (DataW H) → Nat
  | [] => 0
  | d :: r => uptoBulk d + uptoBulkAll r
def uptoBulkEntries {H : Type} : List (Lit × DataW H) → Nat
  | [] => 0
  | x :: r => uptoBulkEntry x + uptoBulkEntries r
def uptoBulkEntry {H : Type} : Lit × DataW H → Nat
  | (.string bytes, d) => bytes.length + uptoBulk d + 1
  | (_, d) => uptoBulk d + 1
 end
def uptoSmall : (H : Type) → List (DataW H) → Bool := fun _ ds => decide (uptoBulkAll ds ≤ 1048576)
def OpenSpec.upto (s : _root_.Go.ChangeSpec) : _root_.Go.OpenSpec := { _root_.Go.OpenSpec.ofChange s with cond := some uptoSmall }

/-- 'laws.FnFewestApart', WHERE WHAT IT READS IS OF BULK AT MOST 1048576: true; the input reads as it did. -/
def fnFewestApartUptoRow : OpenClaim := { program := "ytonbbeplmjidnaa", sum := "37e2c039f33de291af33f6fcfd8b004800b06261fc25a4e4d8ede5a9532a9713", func := "loop.example/guardsonnets/laws.FnFewestApart", spec := "fnFewestApart", apart := false, narrowed := true }
def FnFewestApartUptoSaid : Prop := fnFewestApartUptoRow.holds Try.pinned (OpenSpec.upto fnFewestApartSpec)

/-- 'laws.FnExactFewestApart', WHERE WHAT IT READS IS OF BULK AT MOST 1048576: true; the input reads as it did. -/
def fnExactFewestApartUptoRow : OpenClaim := { program := "ytonbbeplmjidnaa", sum := "37e2c039f33de291af33f6fcfd8b004800b06261fc25a4e4d8ede5a9532a9713", func := "loop.example/guardsonnets/laws.FnExactFewestApart", spec := "fnExactFewestApart", apart := false, narrowed := true }
def FnExactFewestApartUptoSaid : Prop := fnExactFewestApartUptoRow.holds Try.pinned (OpenSpec.upto fnExactFewestApartSpec)

/-- 'laws.FnMostApart', WHERE WHAT IT READS IS OF BULK AT MOST 1048576: true; the input reads as it did. -/
def fnMostApartUptoRow : OpenClaim := { program := "ytonbbeplmjidnaa", sum := "37e2c039f33de291af33f6fcfd8b004800b06261fc25a4e4d8ede5a9532a9713", func := "loop.example/guardsonnets/laws.FnMostApart", spec := "fnMostApart", apart := false, narrowed := true }
def FnMostApartUptoSaid : Prop := fnMostApartUptoRow.holds Try.pinned (OpenSpec.upto fnMostApartSpec)

/-- 'laws.FnExactMostApart', WHERE WHAT IT READS IS OF BULK AT MOST 1048576: true; the input reads as it did. -/
def fnExactMostApartUptoRow : OpenClaim := { program := "ytonbbeplmjidnaa", sum := "37e2c039f33de291af33f6fcfd8b004800b06261fc25a4e4d8ede5a9532a9713", func := "loop.example/guardsonnets/laws.FnExactMostApart", spec := "fnExactMostApart", apart := false, narrowed := true }
def FnExactMostApartUptoSaid : Prop := fnExactMostApartUptoRow.holds Try.pinned (OpenSpec.upto fnExactMostApartSpec)

/-- 'laws.FnApartCount', WHERE WHAT IT READS IS OF BULK AT MOST 1048576: true; the input reads as it did. -/
def fnApartCountUptoRow : OpenClaim := { program := "ytonbbeplmjidnaa", sum := "37e2c039f33de291af33f6fcfd8b004800b06261fc25a4e4d8ede5a9532a9713", func := "loop.example/guardsonnets/laws.FnApartCount", spec := "fnApartCount", apart := false, narrowed := true }
def FnApartCountUptoSaid : Prop := fnApartCountUptoRow.holds Try.pinned (OpenSpec.upto fnApartCountSpec)

/-- 'laws.FnExactApartCount', WHERE WHAT IT READS IS OF BULK AT MOST 1048576: true; the input reads as it did. -/
def fnExactApartCountUptoRow : OpenClaim := { program := "ytonbbeplmjidnaa", sum := "37e2c039f33de291af33f6fcfd8b004800b06261fc25a4e4d8ede5a9532a9713", func := "loop.example/guardsonnets/laws.FnExactApartCount", spec := "fnExactApartCount", apart := false, narrowed := true }
def FnExactApartCountUptoSaid : Prop := fnExactApartCountUptoRow.holds Try.pinned (OpenSpec.upto fnExactApartCountSpec)

/-- 'laws.FnFewestNeeds', WHERE WHAT IT READS IS OF BULK AT MOST 1048576: true; the input reads as it did. -/
def fnFewestNeedsUptoRow : OpenClaim := { program := "ytonbbeplmjidnaa", sum := "37e2c039f33de291af33f6fcfd8b004800b06261fc25a4e4d8ede5a9532a9713", func := "loop.example/guardsonnets/laws.FnFewestNeeds", spec := "fnFewestNeeds", apart := false, narrowed := true }
def FnFewestNeedsUptoSaid : Prop := fnFewestNeedsUptoRow.holds Try.pinned (OpenSpec.upto fnFewestNeedsSpec)

/-- 'laws.FnExactFewestNeeds', WHERE WHAT IT READS IS OF BULK AT MOST 1048576: true; the input reads as it did. -/
def fnExactFewestNeedsUptoRow : OpenClaim := { program := "ytonbbeplmjidnaa", sum := "37e2c039f33de291af33f6fcfd8b004800b06261fc25a4e4d8ede5a9532a9713", func := "loop.example/guardsonnets/laws.FnExactFewestNeeds", spec := "fnExactFewestNeeds", apart := false, narrowed := true }
def FnExactFewestNeedsUptoSaid : Prop := fnExactFewestNeedsUptoRow.holds Try.pinned (OpenSpec.upto fnExactFewestNeedsSpec)

/-- 'laws.FnMostNeeds', WHERE WHAT IT READS IS OF BULK AT MOST 1048576: true; the input reads as it did. -/
def fnMostNeedsUptoRow : OpenClaim := { program := "ytonbbeplmjidnaa", sum := "37e2c039f33de291af33f6fcfd8b004800b06261fc25a4e4d8ede5a9532a9713", func := "loop.example/guardsonnets/laws.FnMostNeeds", spec := "fnMostNeeds", apart := false, narrowed := true }
def FnMostNeedsUptoSaid : Prop := fnMostNeedsUptoRow.holds Try.pinned (OpenSpec.upto fnMostNeedsSpec)

/-- 'laws.FnExactMostNeeds', WHERE WHAT IT READS IS OF BULK AT MOST 1048576: true; the input reads as it did. -/
def fnExactMostNeedsUptoRow : OpenClaim := { program := "ytonbbeplmjidnaa", sum := "37e2c039f33de291af33f6fcfd8b004800b06261fc25a4e4d8ede5a9532a9713", func := "loop.example/guardsonnets/laws.FnExactMostNeeds", spec := "fnExactMostNeeds", apart := false, narrowed := true }
def FnExactMostNeedsUptoSaid : Prop := fnExactMostNeedsUptoRow.holds Try.pinned (OpenSpec.upto fnExactMostNeedsSpec)

/-- 'laws.FnMostLeast', WHERE WHAT IT READS IS OF BULK AT MOST 1048576: true; the input reads as it did. -/
def fnMostLeastUptoRow : OpenClaim := { program := "ytonbbeplmjidnaa", sum := "37e2c039f33de291af33f6fcfd8b004800b06261fc25a4e4d8ede5a9532a9713", func := "loop.example/guardsonnets/laws.FnMostLeast", spec := "fnMostLeast", apart := false, narrowed := true }
def FnMostLeastUptoSaid : Prop := fnMostLeastUptoRow.holds Try.pinned (OpenSpec.upto fnMostLeastSpec)

/-- 'laws.FnExactMostLeast', WHERE WHAT IT READS IS OF BULK AT MOST 1048576: true; the input reads as it did. -/
def fnExactMostLeastUptoRow : OpenClaim := { program := "ytonbbeplmjidnaa", sum := "37e2c039f33de291af33f6fcfd8b004800b06261fc25a4e4d8ede5a9532a9713", func := "loop.example/guardsonnets/laws.FnExactMostLeast", spec := "fnExactMostLeast", apart := false, narrowed := true }
def FnExactMostLeastUptoSaid : Prop := fnExactMostLeastUptoRow.holds Try.pinned (OpenSpec.upto fnExactMostLeastSpec)

/-- 'laws.FnChainRow', WHERE WHAT IT READS IS OF BULK AT MOST 1048576: true; the input reads as it did. -/
def fnChainRowUptoRow : OpenClaim := { program := "ytonbbeplmjidnaa", sum := "37e2c039f33de291af33f6fcfd8b004800b06261fc25a4e4d8ede5a9532a9713", func := "loop.example/guardsonnets/laws.FnChainRow", spec := "fnChainRow", apart := false, narrowed := true }
def FnChainRowUptoSaid : Prop := fnChainRowUptoRow.holds Try.pinned (OpenSpec.upto fnChainRowSpec)

/-- 'laws.FnExactChainRow', WHERE WHAT IT READS IS OF BULK AT MOST 1048576: true; the input reads as it did. -/
def fnExactChainRowUptoRow : OpenClaim := { program := "ytonbbeplmjidnaa", sum := "37e2c039f33de291af33f6fcfd8b004800b06261fc25a4e4d8ede5a9532a9713", func := "loop.example/guardsonnets/laws.FnExactChainRow", spec := "fnExactChainRow", apart := false, narrowed := true }
def FnExactChainRowUptoSaid : Prop := fnExactChainRowUptoRow.holds Try.pinned (OpenSpec.upto fnExactChainRowSpec)

/-- 'laws.FnEvenWatchedOk', WHERE WHAT IT READS IS OF BULK AT MOST 1048576: true; the input reads as it did. -/
def fnEvenWatchedOkUptoRow : OpenClaim := { program := "ytonbbeplmjidnaa", sum := "37e2c039f33de291af33f6fcfd8b004800b06261fc25a4e4d8ede5a9532a9713", func := "loop.example/guardsonnets/laws.FnEvenWatchedOk", spec := "fnEvenWatchedOk", apart := false, narrowed := true }
def FnEvenWatchedOkUptoSaid : Prop := fnEvenWatchedOkUptoRow.holds Try.pinned (OpenSpec.upto fnEvenWatchedOkSpec)

/-- 'laws.FnExactEvenWatchedOk', WHERE WHAT IT READS IS OF BULK AT MOST 1048576: true; the input reads as it did. -/
def fnExactEvenWatchedOkUptoRow : OpenClaim := { program := "ytonbbeplmjidnaa", sum := "37e2c039f33de291af33f6fcfd8b004800b06261fc25a4e4d8ede5a9532a9713", func := "loop.example/guardsonnets/laws.FnExactEvenWatchedOk", spec := "fnExactEvenWatchedOk", apart := false, narrowed := true }
def FnExactEvenWatchedOkUptoSaid : Prop := fnExactEvenWatchedOkUptoRow.holds Try.pinned (OpenSpec.upto fnExactEvenWatchedOkSpec)

end Rows
end Go.Proofs.Ytonbbeplmjidnaa
