/-
  No cell of these rows narrows 'for every input' (looked for: loops, veiled, ifaces, maps, wideKeys, modest, calm, conditions, laid).
  DERIVED. THE GIVEN ROWS OF THIS SEAT. 12 by the template 'for every input the law returns true; each argument reads behind the call as it read before'; 0 by the template 'total and deterministic' (their statements: YtdmpbfbhgokphaaTotals.lean).
  GIVEN WITH THE SEED: the statements are not yours to turn. If you find one false, say at which input.
  Laid BY PROGRAM, IN A SANDBOX (cutbox-rows.mjs): the forced cells as the released guide's own fill.sh prints them over the translation de7d738ca1972070… (all of the seat's roots in one cut). By AI agents, Wed Nov 11 2026. No macro, syntax, notation, axiom, sorry.
-/
import Derived.Test.YtdmpbfbhgokphaaChecked
import GoSem.Claim
import GoSem.ClaimJoined
import GoSem.ClaimMapViews
import Derived.JoinedTies
import Derived.KernelRfl
namespace Go.Proofs.Ytdmpbfbhgokphaa
/- THE CELL 'sum', in the pinned program and in every row, IS THE sha256 OF THE DUMP (.gsa) THAT YtdmpbfbhgokphaaProg.lean LOADS. Nothing in Lean hashes anything: it is a label: what it is worth is what the hold of that sum in a sandbox is worth. -/
noncomputable def Try.pinned : Pinned := { name := "ytdmpbfbhgokphaa", sum := "de7d738ca1972070ba75a63876d94a3bc520c8cc11867321198c1a9bdc61245c", checked := Try.checked }
namespace Rows
def none {H : Type} : Left H := { results := [], args := [] }

/-- 'laws.FnPackedOk': WHATEVER THE INPUT: true; the input reads as it did. -/
def fnPackedOkSpec : ChangeSpec := { name := "fnPackedOk", fn := fun _ => fun
  | [d] => { results := [.lit (.bool true)], args := [d] }
  | _ => none }
def fnPackedOkRow : OpenClaim := { program := "ytdmpbfbhgokphaa", sum := "de7d738ca1972070ba75a63876d94a3bc520c8cc11867321198c1a9bdc61245c", func := "loop.example/guardsonnets/laws.FnPackedOk", spec := "fnPackedOk", apart := false }
def FnPackedOkSaid : Prop := fnPackedOkRow.holds Try.pinned (OpenSpec.ofChange fnPackedOkSpec)

/-- ITS FALSE NEIGHBOUR: 'it returns false'. Refute it at one input. -/
def fnPackedOkWrong : ChangeSpec := { name := "fnPackedOk", fn := fun _ => fun
  | [d] => { results := [.lit (.bool false)], args := [d] }
  | _ => none }
def FnPackedOkWrongFalsely : Prop := fnPackedOkRow.holds Try.pinned (OpenSpec.ofChange fnPackedOkWrong)

/-- 'laws.FnExactPackedOk': WHATEVER THE INPUT: true; the input reads as it did. -/
def fnExactPackedOkSpec : ChangeSpec := { name := "fnExactPackedOk", fn := fun _ => fun
  | [d1, d2] => { results := [.lit (.bool true)], args := [d1, d2] }
  | _ => none }
def fnExactPackedOkRow : OpenClaim := { program := "ytdmpbfbhgokphaa", sum := "de7d738ca1972070ba75a63876d94a3bc520c8cc11867321198c1a9bdc61245c", func := "loop.example/guardsonnets/laws.FnExactPackedOk", spec := "fnExactPackedOk", apart := false }
def FnExactPackedOkSaid : Prop := fnExactPackedOkRow.holds Try.pinned (OpenSpec.ofChange fnExactPackedOkSpec)

/-- ITS FALSE NEIGHBOUR: 'it returns false'. Refute it at one input. -/
def fnExactPackedOkWrong : ChangeSpec := { name := "fnExactPackedOk", fn := fun _ => fun
  | [d1, d2] => { results := [.lit (.bool false)], args := [d1, d2] }
  | _ => none }
def FnExactPackedOkWrongFalsely : Prop := fnExactPackedOkRow.holds Try.pinned (OpenSpec.ofChange fnExactPackedOkWrong)

/-- 'laws.FnMostPacked': WHATEVER THE INPUT: true; the input reads as it did. -/
def fnMostPackedSpec : ChangeSpec := { name := "fnMostPacked", fn := fun _ => fun
  | [d] => { results := [.lit (.bool true)], args := [d] }
  | _ => none }
def fnMostPackedRow : OpenClaim := { program := "ytdmpbfbhgokphaa", sum := "de7d738ca1972070ba75a63876d94a3bc520c8cc11867321198c1a9bdc61245c", func := "loop.example/guardsonnets/laws.FnMostPacked", spec := "fnMostPacked", apart := false }
def FnMostPackedSaid : Prop := fnMostPackedRow.holds Try.pinned (OpenSpec.ofChange fnMostPackedSpec)

/-- ITS FALSE NEIGHBOUR: 'it returns false'. Refute it at one input. -/
def fnMostPackedWrong : ChangeSpec := { name := "fnMostPacked", fn := fun _ => fun
  | [d] => { results := [.lit (.bool false)], args := [d] }
  | _ => none }
def FnMostPackedWrongFalsely : Prop := fnMostPackedRow.holds Try.pinned (OpenSpec.ofChange fnMostPackedWrong)

/-- 'laws.FnExactMostPacked': WHATEVER THE INPUT: true; the input reads as it did. -/
def fnExactMostPackedSpec : ChangeSpec := { name := "fnExactMostPacked", fn := fun _ => fun
  | [d] => { results := [.lit (.bool true)], args := [d] }
  | _ => none }
def fnExactMostPackedRow : OpenClaim := { program := "ytdmpbfbhgokphaa", sum := "de7d738ca1972070ba75a63876d94a3bc520c8cc11867321198c1a9bdc61245c", func := "loop.example/guardsonnets/laws.FnExactMostPacked", spec := "fnExactMostPacked", apart := false }
def FnExactMostPackedSaid : Prop := fnExactMostPackedRow.holds Try.pinned (OpenSpec.ofChange fnExactMostPackedSpec)

/-- ITS FALSE NEIGHBOUR: 'it returns false'. Refute it at one input. -/
def fnExactMostPackedWrong : ChangeSpec := { name := "fnExactMostPacked", fn := fun _ => fun
  | [d] => { results := [.lit (.bool false)], args := [d] }
  | _ => none }
def FnExactMostPackedWrongFalsely : Prop := fnExactMostPackedRow.holds Try.pinned (OpenSpec.ofChange fnExactMostPackedWrong)

/-- 'laws.FnEfficientOk': WHATEVER THE INPUT: true; the input reads as it did. -/
def fnEfficientOkSpec : ChangeSpec := { name := "fnEfficientOk", fn := fun _ => fun
  | [d] => { results := [.lit (.bool true)], args := [d] }
  | _ => none }
def fnEfficientOkRow : OpenClaim := { program := "ytdmpbfbhgokphaa", sum := "de7d738ca1972070ba75a63876d94a3bc520c8cc11867321198c1a9bdc61245c", func := "loop.example/guardsonnets/laws.FnEfficientOk", spec := "fnEfficientOk", apart := false }
def FnEfficientOkSaid : Prop := fnEfficientOkRow.holds Try.pinned (OpenSpec.ofChange fnEfficientOkSpec)

/-- ITS FALSE NEIGHBOUR: 'it returns false'. Refute it at one input. -/
def fnEfficientOkWrong : ChangeSpec := { name := "fnEfficientOk", fn := fun _ => fun
  | [d] => { results := [.lit (.bool false)], args := [d] }
  | _ => none }
def FnEfficientOkWrongFalsely : Prop := fnEfficientOkRow.holds Try.pinned (OpenSpec.ofChange fnEfficientOkWrong)

/-- 'laws.FnExactEfficientOk': WHATEVER THE INPUT: true; the input reads as it did. -/
def fnExactEfficientOkSpec : ChangeSpec := { name := "fnExactEfficientOk", fn := fun _ => fun
  | [d1, d2] => { results := [.lit (.bool true)], args := [d1, d2] }
  | _ => none }
def fnExactEfficientOkRow : OpenClaim := { program := "ytdmpbfbhgokphaa", sum := "de7d738ca1972070ba75a63876d94a3bc520c8cc11867321198c1a9bdc61245c", func := "loop.example/guardsonnets/laws.FnExactEfficientOk", spec := "fnExactEfficientOk", apart := false }
def FnExactEfficientOkSaid : Prop := fnExactEfficientOkRow.holds Try.pinned (OpenSpec.ofChange fnExactEfficientOkSpec)

/-- ITS FALSE NEIGHBOUR: 'it returns false'. Refute it at one input. -/
def fnExactEfficientOkWrong : ChangeSpec := { name := "fnExactEfficientOk", fn := fun _ => fun
  | [d1, d2] => { results := [.lit (.bool false)], args := [d1, d2] }
  | _ => none }
def FnExactEfficientOkWrongFalsely : Prop := fnExactEfficientOkRow.holds Try.pinned (OpenSpec.ofChange fnExactEfficientOkWrong)

/-- 'laws.FnEfficientOf': WHATEVER THE INPUT: true; the input reads as it did. -/
def fnEfficientOfSpec : ChangeSpec := { name := "fnEfficientOf", fn := fun _ => fun
  | [d] => { results := [.lit (.bool true)], args := [d] }
  | _ => none }
def fnEfficientOfRow : OpenClaim := { program := "ytdmpbfbhgokphaa", sum := "de7d738ca1972070ba75a63876d94a3bc520c8cc11867321198c1a9bdc61245c", func := "loop.example/guardsonnets/laws.FnEfficientOf", spec := "fnEfficientOf", apart := false }
def FnEfficientOfSaid : Prop := fnEfficientOfRow.holds Try.pinned (OpenSpec.ofChange fnEfficientOfSpec)

/-- ITS FALSE NEIGHBOUR: 'it returns false'. Refute it at one input. -/
def fnEfficientOfWrong : ChangeSpec := { name := "fnEfficientOf", fn := fun _ => fun
  | [d] => { results := [.lit (.bool false)], args := [d] }
  | _ => none }
def FnEfficientOfWrongFalsely : Prop := fnEfficientOfRow.holds Try.pinned (OpenSpec.ofChange fnEfficientOfWrong)

/-- 'laws.FnExactEfficientOf': WHATEVER THE INPUT: true; the input reads as it did. -/
def fnExactEfficientOfSpec : ChangeSpec := { name := "fnExactEfficientOf", fn := fun _ => fun
  | [d] => { results := [.lit (.bool true)], args := [d] }
  | _ => none }
def fnExactEfficientOfRow : OpenClaim := { program := "ytdmpbfbhgokphaa", sum := "de7d738ca1972070ba75a63876d94a3bc520c8cc11867321198c1a9bdc61245c", func := "loop.example/guardsonnets/laws.FnExactEfficientOf", spec := "fnExactEfficientOf", apart := false }
def FnExactEfficientOfSaid : Prop := fnExactEfficientOfRow.holds Try.pinned (OpenSpec.ofChange fnExactEfficientOfSpec)

/-- ITS FALSE NEIGHBOUR: 'it returns false'. Refute it at one input. -/
def fnExactEfficientOfWrong : ChangeSpec := { name := "fnExactEfficientOf", fn := fun _ => fun
  | [d] => { results := [.lit (.bool false)], args := [d] }
  | _ => none }
def FnExactEfficientOfWrongFalsely : Prop := fnExactEfficientOfRow.holds Try.pinned (OpenSpec.ofChange fnExactEfficientOfWrong)

/-- 'laws.FnGrownPacked': WHATEVER THE INPUT: true; the input reads as it did. -/
def fnGrownPackedSpec : ChangeSpec := { name := "fnGrownPacked", fn := fun _ => fun
  | [d] => { results := [.lit (.bool true)], args := [d] }
  | _ => none }
def fnGrownPackedRow : OpenClaim := { program := "ytdmpbfbhgokphaa", sum := "de7d738ca1972070ba75a63876d94a3bc520c8cc11867321198c1a9bdc61245c", func := "loop.example/guardsonnets/laws.FnGrownPacked", spec := "fnGrownPacked", apart := false }
def FnGrownPackedSaid : Prop := fnGrownPackedRow.holds Try.pinned (OpenSpec.ofChange fnGrownPackedSpec)

/-- ITS FALSE NEIGHBOUR: 'it returns false'. Refute it at one input. -/
def fnGrownPackedWrong : ChangeSpec := { name := "fnGrownPacked", fn := fun _ => fun
  | [d] => { results := [.lit (.bool false)], args := [d] }
  | _ => none }
def FnGrownPackedWrongFalsely : Prop := fnGrownPackedRow.holds Try.pinned (OpenSpec.ofChange fnGrownPackedWrong)

/-- 'laws.FnExactGrownPacked': WHATEVER THE INPUT: true; the input reads as it did. -/
def fnExactGrownPackedSpec : ChangeSpec := { name := "fnExactGrownPacked", fn := fun _ => fun
  | [d1, d2] => { results := [.lit (.bool true)], args := [d1, d2] }
  | _ => none }
def fnExactGrownPackedRow : OpenClaim := { program := "ytdmpbfbhgokphaa", sum := "de7d738ca1972070ba75a63876d94a3bc520c8cc11867321198c1a9bdc61245c", func := "loop.example/guardsonnets/laws.FnExactGrownPacked", spec := "fnExactGrownPacked", apart := false }
def FnExactGrownPackedSaid : Prop := fnExactGrownPackedRow.holds Try.pinned (OpenSpec.ofChange fnExactGrownPackedSpec)

/-- ITS FALSE NEIGHBOUR: 'it returns false'. Refute it at one input. -/
def fnExactGrownPackedWrong : ChangeSpec := { name := "fnExactGrownPacked", fn := fun _ => fun
  | [d1, d2] => { results := [.lit (.bool false)], args := [d1, d2] }
  | _ => none }
def FnExactGrownPackedWrongFalsely : Prop := fnExactGrownPackedRow.holds Try.pinned (OpenSpec.ofChange fnExactGrownPackedWrong)

/-- 'laws.FnForestOk': WHATEVER THE INPUT: true; the input reads as it did. -/
def fnForestOkSpec : ChangeSpec := { name := "fnForestOk", fn := fun _ => fun
  | [d] => { results := [.lit (.bool true)], args := [d] }
  | _ => none }
def fnForestOkRow : OpenClaim := { program := "ytdmpbfbhgokphaa", sum := "de7d738ca1972070ba75a63876d94a3bc520c8cc11867321198c1a9bdc61245c", func := "loop.example/guardsonnets/laws.FnForestOk", spec := "fnForestOk", apart := false }
def FnForestOkSaid : Prop := fnForestOkRow.holds Try.pinned (OpenSpec.ofChange fnForestOkSpec)

/-- ITS FALSE NEIGHBOUR: 'it returns false'. Refute it at one input. -/
def fnForestOkWrong : ChangeSpec := { name := "fnForestOk", fn := fun _ => fun
  | [d] => { results := [.lit (.bool false)], args := [d] }
  | _ => none }
def FnForestOkWrongFalsely : Prop := fnForestOkRow.holds Try.pinned (OpenSpec.ofChange fnForestOkWrong)

/-- 'laws.FnExactForestOk': WHATEVER THE INPUT: true; the input reads as it did. -/
def fnExactForestOkSpec : ChangeSpec := { name := "fnExactForestOk", fn := fun _ => fun
  | [d] => { results := [.lit (.bool true)], args := [d] }
  | _ => none }
def fnExactForestOkRow : OpenClaim := { program := "ytdmpbfbhgokphaa", sum := "de7d738ca1972070ba75a63876d94a3bc520c8cc11867321198c1a9bdc61245c", func := "loop.example/guardsonnets/laws.FnExactForestOk", spec := "fnExactForestOk", apart := false }
def FnExactForestOkSaid : Prop := fnExactForestOkRow.holds Try.pinned (OpenSpec.ofChange fnExactForestOkSpec)

/-- ITS FALSE NEIGHBOUR: 'it returns false'. Refute it at one input. -/
def fnExactForestOkWrong : ChangeSpec := { name := "fnExactForestOk", fn := fun _ => fun
  | [d] => { results := [.lit (.bool false)], args := [d] }
  | _ => none }
def FnExactForestOkWrongFalsely : Prop := fnExactForestOkRow.holds Try.pinned (OpenSpec.ofChange fnExactForestOkWrong)

/- THE SECOND FORM. 'bulk': how many values and letters a reading holds, each counted each time it is reached (what is shared counts as often as it is met; a slice's spare places count too). A statement '..UptoSaid' is the law's where the arguments, and the package variables that the reading takes, are together of bulk at most 1048576: NARROWER than '..Said'. Prove '..Said' where nothing that the law and all that it calls make is longer than what came in: it says more and counts as full. Else prove '..UptoSaid'. A law counts once. -/
mutual
def uptoBulk {H : Type} : DataW H → Nat
  | .lit (.string bytes) => bytes.length + 1
  | .lit _ => 1
  | .nil => 1
  | .ptr d => uptoBulk d + 1
  | .slice elems spare => uptoBulkAll elems + uptoBulkAll spare + 1
  | .agg parts => uptoBulkAll parts + 1
  | .iface _ d => uptoBulk d + 1
  | .map entries => uptoBulkEntries entries + 1
  | .held _ => 1
def uptoBulkAll {H : Type} : List (DataW H) → Nat
  | [] => 0
  | d :: r => uptoBulk d + uptoBulkAll r
def uptoBulkEntries {H : Type} : List (Lit × DataW H) → Nat
  | [] => 0
  | x :: r => uptoBulkEntry x + uptoBulkEntries r
def uptoBulkEntry {H : Type} : Lit × DataW H → Nat
  | (.string bytes, d) => bytes.length + uptoBulk d + 1
  | (_, d) => uptoBulk d + 1
 end
def uptoSmall : (H : Type) → List (DataW H) → Bool := fun _ ds => decide (uptoBulkAll ds ≤ 1048576)
def OpenSpec.upto (s : _root_.Go.ChangeSpec) : _root_.Go.OpenSpec := { _root_.Go.OpenSpec.ofChange s with cond := some uptoSmall }

/-- 'laws.FnPackedOk', WHERE WHAT IT READS IS OF BULK AT MOST 1048576: true; the input reads as it did. -/
def fnPackedOkUptoRow : OpenClaim := { program := "ytdmpbfbhgokphaa", sum := "de7d738ca1972070ba75a63876d94a3bc520c8cc11867321198c1a9bdc61245c", func := "loop.example/guardsonnets/laws.FnPackedOk", spec := "fnPackedOk", apart := false, narrowed := true }
def FnPackedOkUptoSaid : Prop := fnPackedOkUptoRow.holds Try.pinned (OpenSpec.upto fnPackedOkSpec)

/-- 'laws.FnExactPackedOk', WHERE WHAT IT READS IS OF BULK AT MOST 1048576: true; the input reads as it did. -/
def fnExactPackedOkUptoRow : OpenClaim := { program := "ytdmpbfbhgokphaa", sum := "de7d738ca1972070ba75a63876d94a3bc520c8cc11867321198c1a9bdc61245c", func := "loop.example/guardsonnets/laws.FnExactPackedOk", spec := "fnExactPackedOk", apart := false, narrowed := true }
def FnExactPackedOkUptoSaid : Prop := fnExactPackedOkUptoRow.holds Try.pinned (OpenSpec.upto fnExactPackedOkSpec)

/-- 'laws.FnMostPacked', WHERE WHAT IT READS IS OF BULK AT MOST 1048576: true; the input reads as it did. -/
def fnMostPackedUptoRow : OpenClaim := { program := "ytdmpbfbhgokphaa", sum := "de7d738ca1972070ba75a63876d94a3bc520c8cc11867321198c1a9bdc61245c", func := "loop.example/guardsonnets/laws.FnMostPacked", spec := "fnMostPacked", apart := false, narrowed := true }
def FnMostPackedUptoSaid : Prop := fnMostPackedUptoRow.holds Try.pinned (OpenSpec.upto fnMostPackedSpec)

/-- 'laws.FnExactMostPacked', WHERE WHAT IT READS IS OF BULK AT MOST 1048576: true; the input reads as it did. -/
def fnExactMostPackedUptoRow : OpenClaim := { program := "ytdmpbfbhgokphaa", sum := "de7d738ca1972070ba75a63876d94a3bc520c8cc11867321198c1a9bdc61245c", func := "loop.example/guardsonnets/laws.FnExactMostPacked", spec := "fnExactMostPacked", apart := false, narrowed := true }
def FnExactMostPackedUptoSaid : Prop := fnExactMostPackedUptoRow.holds Try.pinned (OpenSpec.upto fnExactMostPackedSpec)

/-- 'laws.FnEfficientOk', WHERE WHAT IT READS IS OF BULK AT MOST 1048576: true; the input reads as it did. -/
def fnEfficientOkUptoRow : OpenClaim := { program := "ytdmpbfbhgokphaa", sum := "de7d738ca1972070ba75a63876d94a3bc520c8cc11867321198c1a9bdc61245c", func := "loop.example/guardsonnets/laws.FnEfficientOk", spec := "fnEfficientOk", apart := false, narrowed := true }
def FnEfficientOkUptoSaid : Prop := fnEfficientOkUptoRow.holds Try.pinned (OpenSpec.upto fnEfficientOkSpec)

/-- 'laws.FnExactEfficientOk', WHERE WHAT IT READS IS OF BULK AT MOST 1048576: true; the input reads as it did. -/
def fnExactEfficientOkUptoRow : OpenClaim := { program := "ytdmpbfbhgokphaa", sum := "de7d738ca1972070ba75a63876d94a3bc520c8cc11867321198c1a9bdc61245c", func := "loop.example/guardsonnets/laws.FnExactEfficientOk", spec := "fnExactEfficientOk", apart := false, narrowed := true }
def FnExactEfficientOkUptoSaid : Prop := fnExactEfficientOkUptoRow.holds Try.pinned (OpenSpec.upto fnExactEfficientOkSpec)

/-- 'laws.FnEfficientOf', WHERE WHAT IT READS IS OF BULK AT MOST 1048576: true; the input reads as it did. -/
def fnEfficientOfUptoRow : OpenClaim := { program := "ytdmpbfbhgokphaa", sum := "de7d738ca1972070ba75a63876d94a3bc520c8cc11867321198c1a9bdc61245c", func := "loop.example/guardsonnets/laws.FnEfficientOf", spec := "fnEfficientOf", apart := false, narrowed := true }
def FnEfficientOfUptoSaid : Prop := fnEfficientOfUptoRow.holds Try.pinned (OpenSpec.upto fnEfficientOfSpec)

/-- 'laws.FnExactEfficientOf', WHERE WHAT IT READS IS OF BULK AT MOST 1048576: true; the input reads as it did. -/
def fnExactEfficientOfUptoRow : OpenClaim := { program := "ytdmpbfbhgokphaa", sum := "de7d738ca1972070ba75a63876d94a3bc520c8cc11867321198c1a9bdc61245c", func := "loop.example/guardsonnets/laws.FnExactEfficientOf", spec := "fnExactEfficientOf", apart := false, narrowed := true }
def FnExactEfficientOfUptoSaid : Prop := fnExactEfficientOfUptoRow.holds Try.pinned (OpenSpec.upto fnExactEfficientOfSpec)

/-- 'laws.FnGrownPacked', WHERE WHAT IT READS IS OF BULK AT MOST 1048576: true; the input reads as it did. -/
def fnGrownPackedUptoRow : OpenClaim := { program := "ytdmpbfbhgokphaa", sum := "de7d738ca1972070ba75a63876d94a3bc520c8cc11867321198c1a9bdc61245c", func := "loop.example/guardsonnets/laws.FnGrownPacked", spec := "fnGrownPacked", apart := false, narrowed := true }
def FnGrownPackedUptoSaid : Prop := fnGrownPackedUptoRow.holds Try.pinned (OpenSpec.upto fnGrownPackedSpec)

/-- 'laws.FnExactGrownPacked', WHERE WHAT IT READS IS OF BULK AT MOST 1048576: true; the input reads as it did. -/
def fnExactGrownPackedUptoRow : OpenClaim := { program := "ytdmpbfbhgokphaa", sum := "de7d738ca1972070ba75a63876d94a3bc520c8cc11867321198c1a9bdc61245c", func := "loop.example/guardsonnets/laws.FnExactGrownPacked", spec := "fnExactGrownPacked", apart := false, narrowed := true }
def FnExactGrownPackedUptoSaid : Prop := fnExactGrownPackedUptoRow.holds Try.pinned (OpenSpec.upto fnExactGrownPackedSpec)

/-- 'laws.FnForestOk', WHERE WHAT IT READS IS OF BULK AT MOST 1048576: true; the input reads as it did. -/
def fnForestOkUptoRow : OpenClaim := { program := "ytdmpbfbhgokphaa", sum := "de7d738ca1972070ba75a63876d94a3bc520c8cc11867321198c1a9bdc61245c", func := "loop.example/guardsonnets/laws.FnForestOk", spec := "fnForestOk", apart := false, narrowed := true }
def FnForestOkUptoSaid : Prop := fnForestOkUptoRow.holds Try.pinned (OpenSpec.upto fnForestOkSpec)

/-- 'laws.FnExactForestOk', WHERE WHAT IT READS IS OF BULK AT MOST 1048576: true; the input reads as it did. -/
def fnExactForestOkUptoRow : OpenClaim := { program := "ytdmpbfbhgokphaa", sum := "de7d738ca1972070ba75a63876d94a3bc520c8cc11867321198c1a9bdc61245c", func := "loop.example/guardsonnets/laws.FnExactForestOk", spec := "fnExactForestOk", apart := false, narrowed := true }
def FnExactForestOkUptoSaid : Prop := fnExactForestOkUptoRow.holds Try.pinned (OpenSpec.upto fnExactForestOkSpec)

end Rows
end Go.Proofs.Ytdmpbfbhgokphaa
