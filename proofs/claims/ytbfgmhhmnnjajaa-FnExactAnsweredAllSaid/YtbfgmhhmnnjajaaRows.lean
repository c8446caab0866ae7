/-
  No cell of these rows narrows 'for every input' (looked for: loops, veiled, ifaces, maps, wideKeys, modest, calm, conditions, laid).
  DERIVED. THE GIVEN ROWS OF THIS SEAT. 10 by the template 'for every input the law returns true; each argument reads behind the call as it read before'; 0 by the template 'total and deterministic' (their statements: YtbfgmhhmnnjajaaTotals.lean).
  GIVEN WITH THE SEED: the statements are not yours to turn. If you find one false, say at which input.
  Laid BY PROGRAM, IN A SANDBOX (cutbox-rows.mjs): the forced cells as the released guide's own fill.sh prints them over the translation 524004f3a148a674… (all of the seat's roots in one cut). By AI agents, Wed Nov 11 2026. No macro, syntax, notation, axiom, sorry.
-/
import Derived.Test.YtbfgmhhmnnjajaaChecked
import GoSem.Claim
import GoSem.ClaimJoined
import GoSem.ClaimMapViews
import Derived.JoinedTies
import Derived.KernelRfl
namespace Go.Proofs.Ytbfgmhhmnnjajaa
/- THE CELL 'sum', in the pinned program and in every row, IS THE sha256 OF THE DUMP (.gsa) THAT YtbfgmhhmnnjajaaProg.lean LOADS. Nothing in Lean hashes anything: it is a label: what it is worth is what the hold of that sum in a sandbox is worth. -/
noncomputable def Try.pinned : Pinned := { name := "ytbfgmhhmnnjajaa", sum := "524004f3a148a674e7ea1c2bde0daff34aebc4299dceeb13e36d42279a3f36c5", checked := Try.checked }
namespace Rows
def none {H : Type} : Left H := { results := [], args := [] }

/-- 'laws.FnEternalOk': WHATEVER THE INPUT: true; the input reads as it did. -/
def fnEternalOkSpec : ChangeSpec := { name := "fnEternalOk", fn := fun _ => fun
  | [d] => { results := [.lit (.bool true)], args := [d] }
  | _ => none }
def fnEternalOkRow : OpenClaim := { program := "ytbfgmhhmnnjajaa", sum := "524004f3a148a674e7ea1c2bde0daff34aebc4299dceeb13e36d42279a3f36c5", func := "loop.example/guardsonnets/laws.FnEternalOk", spec := "fnEternalOk", apart := false }
def FnEternalOkSaid : Prop := fnEternalOkRow.holds Try.pinned (OpenSpec.ofChange fnEternalOkSpec)

/-- ITS FALSE NEIGHBOUR: 'it returns false'. Refute it at one input. -/
def fnEternalOkWrong : ChangeSpec := { name := "fnEternalOk", fn := fun _ => fun
  | [d] => { results := [.lit (.bool false)], args := [d] }
  | _ => none }
def FnEternalOkWrongFalsely : Prop := fnEternalOkRow.holds Try.pinned (OpenSpec.ofChange fnEternalOkWrong)

/-- 'laws.FnExactEternalOk': WHATEVER THE INPUT: true; the input reads as it did. -/
def fnExactEternalOkSpec : ChangeSpec := { name := "fnExactEternalOk", fn := fun _ => fun
  | [d1, d2] => { results := [.lit (.bool true)], args := [d1, d2] }
  | _ => none }
def fnExactEternalOkRow : OpenClaim := { program := "ytbfgmhhmnnjajaa", sum := "524004f3a148a674e7ea1c2bde0daff34aebc4299dceeb13e36d42279a3f36c5", func := "loop.example/guardsonnets/laws.FnExactEternalOk", spec := "fnExactEternalOk", apart := false }
def FnExactEternalOkSaid : Prop := fnExactEternalOkRow.holds Try.pinned (OpenSpec.ofChange fnExactEternalOkSpec)

/-- ITS FALSE NEIGHBOUR: 'it returns false'. Refute it at one input. -/
def fnExactEternalOkWrong : ChangeSpec := { name := "fnExactEternalOk", fn := fun _ => fun
  | [d1, d2] => { results := [.lit (.bool false)], args := [d1, d2] }
  | _ => none }
def FnExactEternalOkWrongFalsely : Prop := fnExactEternalOkRow.holds Try.pinned (OpenSpec.ofChange fnExactEternalOkWrong)

/-- 'laws.FnEternalSets': WHATEVER THE INPUT: true; the input reads as it did. -/
def fnEternalSetsSpec : ChangeSpec := { name := "fnEternalSets", fn := fun _ => fun
  | [d] => { results := [.lit (.bool true)], args := [d] }
  | _ => none }
def fnEternalSetsRow : OpenClaim := { program := "ytbfgmhhmnnjajaa", sum := "524004f3a148a674e7ea1c2bde0daff34aebc4299dceeb13e36d42279a3f36c5", func := "loop.example/guardsonnets/laws.FnEternalSets", spec := "fnEternalSets", apart := false }
def FnEternalSetsSaid : Prop := fnEternalSetsRow.holds Try.pinned (OpenSpec.ofChange fnEternalSetsSpec)

/-- ITS FALSE NEIGHBOUR: 'it returns false'. Refute it at one input. -/
def fnEternalSetsWrong : ChangeSpec := { name := "fnEternalSets", fn := fun _ => fun
  | [d] => { results := [.lit (.bool false)], args := [d] }
  | _ => none }
def FnEternalSetsWrongFalsely : Prop := fnEternalSetsRow.holds Try.pinned (OpenSpec.ofChange fnEternalSetsWrong)

/-- 'laws.FnExactEternalSets': WHATEVER THE INPUT: true; the input reads as it did. -/
def fnExactEternalSetsSpec : ChangeSpec := { name := "fnExactEternalSets", fn := fun _ => fun
  | [d] => { results := [.lit (.bool true)], args := [d] }
  | _ => none }
def fnExactEternalSetsRow : OpenClaim := { program := "ytbfgmhhmnnjajaa", sum := "524004f3a148a674e7ea1c2bde0daff34aebc4299dceeb13e36d42279a3f36c5", func := "loop.example/guardsonnets/laws.FnExactEternalSets", spec := "fnExactEternalSets", apart := false }
def FnExactEternalSetsSaid : Prop := fnExactEternalSetsRow.holds Try.pinned (OpenSpec.ofChange fnExactEternalSetsSpec)

/-- ITS FALSE NEIGHBOUR: 'it returns false'. Refute it at one input. -/
def fnExactEternalSetsWrong : ChangeSpec := { name := "fnExactEternalSets", fn := fun _ => fun
  | [d] => { results := [.lit (.bool false)], args := [d] }
  | _ => none }
def FnExactEternalSetsWrongFalsely : Prop := fnExactEternalSetsRow.holds Try.pinned (OpenSpec.ofChange fnExactEternalSetsWrong)

/-- 'laws.FnFewestEternal': WHATEVER THE INPUT: true; the input reads as it did. -/
def fnFewestEternalSpec : ChangeSpec := { name := "fnFewestEternal", fn := fun _ => fun
  | [d] => { results := [.lit (.bool true)], args := [d] }
  | _ => none }
def fnFewestEternalRow : OpenClaim := { program := "ytbfgmhhmnnjajaa", sum := "524004f3a148a674e7ea1c2bde0daff34aebc4299dceeb13e36d42279a3f36c5", func := "loop.example/guardsonnets/laws.FnFewestEternal", spec := "fnFewestEternal", apart := false }
def FnFewestEternalSaid : Prop := fnFewestEternalRow.holds Try.pinned (OpenSpec.ofChange fnFewestEternalSpec)

/-- ITS FALSE NEIGHBOUR: 'it returns false'. Refute it at one input. -/
def fnFewestEternalWrong : ChangeSpec := { name := "fnFewestEternal", fn := fun _ => fun
  | [d] => { results := [.lit (.bool false)], args := [d] }
  | _ => none }
def FnFewestEternalWrongFalsely : Prop := fnFewestEternalRow.holds Try.pinned (OpenSpec.ofChange fnFewestEternalWrong)

/-- 'laws.FnExactFewestEternal': WHATEVER THE INPUT: true; the input reads as it did. -/
def fnExactFewestEternalSpec : ChangeSpec := { name := "fnExactFewestEternal", fn := fun _ => fun
  | [d] => { results := [.lit (.bool true)], args := [d] }
  | _ => none }
def fnExactFewestEternalRow : OpenClaim := { program := "ytbfgmhhmnnjajaa", sum := "524004f3a148a674e7ea1c2bde0daff34aebc4299dceeb13e36d42279a3f36c5", func := "loop.example/guardsonnets/laws.FnExactFewestEternal", spec := "fnExactFewestEternal", apart := false }
def FnExactFewestEternalSaid : Prop := fnExactFewestEternalRow.holds Try.pinned (OpenSpec.ofChange fnExactFewestEternalSpec)

/-- ITS FALSE NEIGHBOUR: 'it returns false'. Refute it at one input. -/
def fnExactFewestEternalWrong : ChangeSpec := { name := "fnExactFewestEternal", fn := fun _ => fun
  | [d] => { results := [.lit (.bool false)], args := [d] }
  | _ => none }
def FnExactFewestEternalWrongFalsely : Prop := fnExactFewestEternalRow.holds Try.pinned (OpenSpec.ofChange fnExactFewestEternalWrong)

/-- 'laws.FnAnswerOf': WHATEVER THE INPUT: true; the input reads as it did. -/
def fnAnswerOfSpec : ChangeSpec := { name := "fnAnswerOf", fn := fun _ => fun
  | [d] => { results := [.lit (.bool true)], args := [d] }
  | _ => none }
def fnAnswerOfRow : OpenClaim := { program := "ytbfgmhhmnnjajaa", sum := "524004f3a148a674e7ea1c2bde0daff34aebc4299dceeb13e36d42279a3f36c5", func := "loop.example/guardsonnets/laws.FnAnswerOf", spec := "fnAnswerOf", apart := false }
def FnAnswerOfSaid : Prop := fnAnswerOfRow.holds Try.pinned (OpenSpec.ofChange fnAnswerOfSpec)

/-- ITS FALSE NEIGHBOUR: 'it returns false'. Refute it at one input. -/
def fnAnswerOfWrong : ChangeSpec := { name := "fnAnswerOf", fn := fun _ => fun
  | [d] => { results := [.lit (.bool false)], args := [d] }
  | _ => none }
def FnAnswerOfWrongFalsely : Prop := fnAnswerOfRow.holds Try.pinned (OpenSpec.ofChange fnAnswerOfWrong)

/-- 'laws.FnExactAnswerOf': WHATEVER THE INPUT: true; the input reads as it did. -/
def fnExactAnswerOfSpec : ChangeSpec := { name := "fnExactAnswerOf", fn := fun _ => fun
  | [d1, d2, d3] => { results := [.lit (.bool true)], args := [d1, d2, d3] }
  | _ => none }
def fnExactAnswerOfRow : OpenClaim := { program := "ytbfgmhhmnnjajaa", sum := "524004f3a148a674e7ea1c2bde0daff34aebc4299dceeb13e36d42279a3f36c5", func := "loop.example/guardsonnets/laws.FnExactAnswerOf", spec := "fnExactAnswerOf", apart := false }
def FnExactAnswerOfSaid : Prop := fnExactAnswerOfRow.holds Try.pinned (OpenSpec.ofChange fnExactAnswerOfSpec)

/-- ITS FALSE NEIGHBOUR: 'it returns false'. Refute it at one input. -/
def fnExactAnswerOfWrong : ChangeSpec := { name := "fnExactAnswerOf", fn := fun _ => fun
  | [d1, d2, d3] => { results := [.lit (.bool false)], args := [d1, d2, d3] }
  | _ => none }
def FnExactAnswerOfWrongFalsely : Prop := fnExactAnswerOfRow.holds Try.pinned (OpenSpec.ofChange fnExactAnswerOfWrong)

/-- 'laws.FnAnsweredAll': WHATEVER THE INPUT: true; the input reads as it did. -/
def fnAnsweredAllSpec : ChangeSpec := { name := "fnAnsweredAll", fn := fun _ => fun
  | [d] => { results := [.lit (.bool true)], args := [d] }
  | _ => none }
def fnAnsweredAllRow : OpenClaim := { program := "ytbfgmhhmnnjajaa", sum := "524004f3a148a674e7ea1c2bde0daff34aebc4299dceeb13e36d42279a3f36c5", func := "loop.example/guardsonnets/laws.FnAnsweredAll", spec := "fnAnsweredAll", apart := false }
def FnAnsweredAllSaid : Prop := fnAnsweredAllRow.holds Try.pinned (OpenSpec.ofChange fnAnsweredAllSpec)

/-- ITS FALSE NEIGHBOUR: 'it returns false'. Refute it at one input. -/
def fnAnsweredAllWrong : ChangeSpec := { name := "fnAnsweredAll", fn := fun _ => fun
  | [d] => { results := [.lit (.bool false)], args := [d] }
  | _ => none }
def FnAnsweredAllWrongFalsely : Prop := fnAnsweredAllRow.holds Try.pinned (OpenSpec.ofChange fnAnsweredAllWrong)

/-- 'laws.FnExactAnsweredAll': WHATEVER THE INPUT: true; the input reads as it did. -/
def fnExactAnsweredAllSpec : ChangeSpec := { name := "fnExactAnsweredAll", fn := fun _ => fun
  | [d1, d2, d3] => { results := [.lit (.bool true)], args := [d1, d2, d3] }
  | _ => none }
def fnExactAnsweredAllRow : OpenClaim := { program := "ytbfgmhhmnnjajaa", sum := "524004f3a148a674e7ea1c2bde0daff34aebc4299dceeb13e36d42279a3f36c5", func := "loop.example/guardsonnets/laws.FnExactAnsweredAll", spec := "fnExactAnsweredAll", apart := false }
def FnExactAnsweredAllSaid : Prop := fnExactAnsweredAllRow.holds Try.pinned (OpenSpec.ofChange fnExactAnsweredAllSpec)

/-- ITS FALSE NEIGHBOUR: 'it returns false'. Refute it at one input. -/
def fnExactAnsweredAllWrong : ChangeSpec := { name := "fnExactAnsweredAll", fn := fun _ => fun
  | [d1, d2, d3] => { results := [.lit (.bool false)], args := [d1, d2, d3] }
  | _ => none }
def FnExactAnsweredAllWrongFalsely : Prop := fnExactAnsweredAllRow.holds Try.pinned (OpenSpec.ofChange fnExactAnsweredAllWrong)

/- THE SECOND FORM. 'bulk': how many values and letters a reading holds, each counted each time it is reached (what is shared counts as often as it is met; a slice's spare places count too). A statement '..UptoSaid' is the law's where the arguments, and the package variables that the reading takes, are together of bulk at most 1048576: NARROWER than '..Said'. Prove '..Said' where nothing that the law and all that it calls make is longer than what came in: it says more and counts as full. Else prove '..UptoSaid'. A law counts once. -/
mutual
def uptoBulk {H : Type} : DataW H → Nat
  | .lit (.string bytes) => bytes.length + 1
  | .lit _ => 1
  | .nil => 1
  | .ptr d => uptoBulk d + 1
  | .slice elems spare => uptoBulkAll elems + uptoBulkAll spare + 1
  | .agg parts => uptoBulkAll parts + 1
  | .iface _ d => uptoBulk d + 1
  | .map entries => uptoBulkEntries entries + 1
  | .held _ => 1
def uptoBulkAll {H : Type} : List (DataW H) → Nat
  | [] => 0
  | d :: r => uptoBulk d + uptoBulkAll r
def uptoBulkEntries {H : Type} : List (Lit × DataW H) → Nat
  | [] => 0
  | x :: r => uptoBulkEntry x + uptoBulkEntries r
def uptoBulkEntry {H : Type} : Lit × DataW H → Nat
  | (.string bytes, d) => bytes.length + uptoBulk d + 1
  | (_, d) => uptoBulk d + 1
 end
def uptoSmall : (H : Type) → List (DataW H) → Bool := fun _ ds => decide (uptoBulkAll ds ≤ 1048576)
def OpenSpec.upto (s : _root_.Go.ChangeSpec) : _root_.Go.OpenSpec := { _root_.Go.OpenSpec.ofChange s with cond := some uptoSmall }

/-- 'laws.FnEternalOk', WHERE WHAT IT READS IS OF BULK AT MOST 1048576: true; the input reads as it did. -/
def fnEternalOkUptoRow : OpenClaim := { program := "ytbfgmhhmnnjajaa", sum := "524004f3a148a674e7ea1c2bde0daff34aebc4299dceeb13e36d42279a3f36c5", func := "loop.example/guardsonnets/laws.FnEternalOk", spec := "fnEternalOk", apart := false, narrowed := true }
def FnEternalOkUptoSaid : Prop := fnEternalOkUptoRow.holds Try.pinned (OpenSpec.upto fnEternalOkSpec)

/-- 'laws.FnExactEternalOk', WHERE WHAT IT READS IS OF BULK AT MOST 1048576: true; the input reads as it did. -/
def fnExactEternalOkUptoRow : OpenClaim := { program := "ytbfgmhhmnnjajaa", sum := "524004f3a148a674e7ea1c2bde0daff34aebc4299dceeb13e36d42279a3f36c5", func := "loop.example/guardsonnets/laws.FnExactEternalOk", spec := "fnExactEternalOk", apart := false, narrowed := true }
def FnExactEternalOkUptoSaid : Prop := fnExactEternalOkUptoRow.holds Try.pinned (OpenSpec.upto fnExactEternalOkSpec)

/-- 'laws.FnEternalSets', WHERE WHAT IT READS IS OF BULK AT MOST 1048576: true; the input reads as it did. -/
def fnEternalSetsUptoRow : OpenClaim := { program := "ytbfgmhhmnnjajaa", sum := "524004f3a148a674e7ea1c2bde0daff34aebc4299dceeb13e36d42279a3f36c5", func := "loop.example/guardsonnets/laws.FnEternalSets", spec := "fnEternalSets", apart := false, narrowed := true }
def FnEternalSetsUptoSaid : Prop := fnEternalSetsUptoRow.holds Try.pinned (OpenSpec.upto fnEternalSetsSpec)

/-- 'laws.FnExactEternalSets', WHERE WHAT IT READS IS OF BULK AT MOST 1048576: true; the input reads as it did. -/
def fnExactEternalSetsUptoRow : OpenClaim := { program := "ytbfgmhhmnnjajaa", sum := "524004f3a148a674e7ea1c2bde0daff34aebc4299dceeb13e36d42279a3f36c5", func := "loop.example/guardsonnets/laws.FnExactEternalSets", spec := "fnExactEternalSets", apart := false, narrowed := true }
def FnExactEternalSetsUptoSaid : Prop := fnExactEternalSetsUptoRow.holds Try.pinned (OpenSpec.upto fnExactEternalSetsSpec)

/-- 'laws.FnFewestEternal', WHERE WHAT IT READS IS OF BULK AT MOST 1048576: true; the input reads as it did. -/
def fnFewestEternalUptoRow : OpenClaim := { program := "ytbfgmhhmnnjajaa", sum := "524004f3a148a674e7ea1c2bde0daff34aebc4299dceeb13e36d42279a3f36c5", func := "loop.example/guardsonnets/laws.FnFewestEternal", spec := "fnFewestEternal", apart := false, narrowed := true }
def FnFewestEternalUptoSaid : Prop := fnFewestEternalUptoRow.holds Try.pinned (OpenSpec.upto fnFewestEternalSpec)

/-- 'laws.FnExactFewestEternal', WHERE WHAT IT READS IS OF BULK AT MOST 1048576: true; the input reads as it did. -/
def fnExactFewestEternalUptoRow : OpenClaim := { program := "ytbfgmhhmnnjajaa", sum := "524004f3a148a674e7ea1c2bde0daff34aebc4299dceeb13e36d42279a3f36c5", func := "loop.example/guardsonnets/laws.FnExactFewestEternal", spec := "fnExactFewestEternal", apart := false, narrowed := true }
def FnExactFewestEternalUptoSaid : Prop := fnExactFewestEternalUptoRow.holds Try.pinned (OpenSpec.upto fnExactFewestEternalSpec)

/-- 'laws.FnAnswerOf', WHERE WHAT IT READS IS OF BULK AT MOST 1048576: true; the input reads as it did. -/
def fnAnswerOfUptoRow : OpenClaim := { program := "ytbfgmhhmnnjajaa", sum := "524004f3a148a674e7ea1c2bde0daff34aebc4299dceeb13e36d42279a3f36c5", func := "loop.example/guardsonnets/laws.FnAnswerOf", spec := "fnAnswerOf", apart := false, narrowed := true }
def FnAnswerOfUptoSaid : Prop := fnAnswerOfUptoRow.holds Try.pinned (OpenSpec.upto fnAnswerOfSpec)

/-- 'laws.FnExactAnswerOf', WHERE WHAT IT READS IS OF BULK AT MOST 1048576: true; the input reads as it did. -/
def fnExactAnswerOfUptoRow : OpenClaim := { program := "ytbfgmhhmnnjajaa", sum := "524004f3a148a674e7ea1c2bde0daff34aebc4299dceeb13e36d42279a3f36c5", func := "loop.example/guardsonnets/laws.FnExactAnswerOf", spec := "fnExactAnswerOf", apart := false, narrowed := true }
def FnExactAnswerOfUptoSaid : Prop := fnExactAnswerOfUptoRow.holds Try.pinned (OpenSpec.upto fnExactAnswerOfSpec)

/-- 'laws.FnAnsweredAll', WHERE WHAT IT READS IS OF BULK AT MOST 1048576: true; the input reads as it did. -/
def fnAnsweredAllUptoRow : OpenClaim := { program := "ytbfgmhhmnnjajaa", sum := "524004f3a148a674e7ea1c2bde0daff34aebc4299dceeb13e36d42279a3f36c5", func := "loop.example/guardsonnets/laws.FnAnsweredAll", spec := "fnAnsweredAll", apart := false, narrowed := true }
def FnAnsweredAllUptoSaid : Prop := fnAnsweredAllUptoRow.holds Try.pinned (OpenSpec.upto fnAnsweredAllSpec)

/-- 'laws.FnExactAnsweredAll', WHERE WHAT IT READS IS OF BULK AT MOST 1048576: true; the input reads as it did. -/
def fnExactAnsweredAllUptoRow : OpenClaim := { program := "ytbfgmhhmnnjajaa", sum := "524004f3a148a674e7ea1c2bde0daff34aebc4299dceeb13e36d42279a3f36c5", func := "loop.example/guardsonnets/laws.FnExactAnsweredAll", spec := "fnExactAnsweredAll", apart := false, narrowed := true }
def FnExactAnsweredAllUptoSaid : Prop := fnExactAnsweredAllUptoRow.holds Try.pinned (OpenSpec.upto fnExactAnsweredAllSpec)

end Rows
end Go.Proofs.Ytbfgmhhmnnjajaa
