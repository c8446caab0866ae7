/-
  No cell of these rows narrows 'for every input' (looked for: loops, veiled, ifaces, maps, wideKeys, modest, calm, conditions, laid).
  DERIVED. THE GIVEN ROWS OF THIS SEAT. 8 by the template 'for every input the law returns true; each argument reads behind the call as it read before'; 0 by the template 'total and deterministic' (their statements: YtgocpgkhbamkcaaTotals.lean).
  GIVEN WITH THE SEED: the statements are not yours to turn. If you find one false, say at which input.
  Laid BY PROGRAM, IN A SANDBOX (cutbox-rows.mjs): the forced cells as the released guide's own fill.sh prints them over the translation ac4dfb98a605c1ba… (all of the seat's roots in one cut). By AI agents, Wed Nov 11 2026. No macro, syntax, notation, axiom, sorry.
-/
import Derived.Test.YtgocpgkhbamkcaaChecked
import GoSem.Claim
import GoSem.ClaimJoined
import GoSem.ClaimMapViews
import Derived.JoinedTies
import Derived.KernelRfl
namespace Go.Proofs.Ytgocpgkhbamkcaa
/- THE CELL 'sum', in the pinned program and in every row, IS THE sha256 OF THE DUMP (.gsa) THAT YtgocpgkhbamkcaaProg.lean LOADS. Nothing in Lean hashes anything: it is a label: what it is worth is what the hold of that sum in a sandbox is worth. -/
noncomputable def Try.pinned : Pinned := { name := "ytgocpgkhbamkcaa", sum := "ac4dfb98a605c1ba084cd1a832282e22d5e998adf83bec491c5df98e8f6e2034", checked := Try.checked }
namespace Rows
def none {H : Type} : Left H := { results := [], args := [] }

/-- 'laws.FnAllMoveOk': WHATEVER THE INPUT: true; the input reads as it did. -/
def fnAllMoveOkSpec : ChangeSpec := { name := "fnAllMoveOk", fn := fun _ => fun
  | [d] => { results := [.lit (.bool true)], args := [d] }
  | _ => none }
def fnAllMoveOkRow : OpenClaim := { program := "ytgocpgkhbamkcaa", sum := "ac4dfb98a605c1ba084cd1a832282e22d5e998adf83bec491c5df98e8f6e2034", func := "loop.example/guardsonnets/laws.FnAllMoveOk", spec := "fnAllMoveOk", recurses := true, apart := false }
def FnAllMoveOkSaid : Prop := fnAllMoveOkRow.holds Try.pinned (OpenSpec.ofChange fnAllMoveOkSpec)

/-- ITS FALSE NEIGHBOUR: 'it returns false'. Refute it at one input. -/
def fnAllMoveOkWrong : ChangeSpec := { name := "fnAllMoveOk", fn := fun _ => fun
  | [d] => { results := [.lit (.bool false)], args := [d] }
  | _ => none }
def FnAllMoveOkWrongFalsely : Prop := fnAllMoveOkRow.holds Try.pinned (OpenSpec.ofChange fnAllMoveOkWrong)

/-- 'laws.FnExactAllMoveOk': WHATEVER THE INPUT: true; the input reads as it did. -/
def fnExactAllMoveOkSpec : ChangeSpec := { name := "fnExactAllMoveOk", fn := fun _ => fun
  | [d1, d2, d3] => { results := [.lit (.bool true)], args := [d1, d2, d3] }
  | _ => none }
def fnExactAllMoveOkRow : OpenClaim := { program := "ytgocpgkhbamkcaa", sum := "ac4dfb98a605c1ba084cd1a832282e22d5e998adf83bec491c5df98e8f6e2034", func := "loop.example/guardsonnets/laws.FnExactAllMoveOk", spec := "fnExactAllMoveOk", recurses := true, apart := false }
def FnExactAllMoveOkSaid : Prop := fnExactAllMoveOkRow.holds Try.pinned (OpenSpec.ofChange fnExactAllMoveOkSpec)

/-- ITS FALSE NEIGHBOUR: 'it returns false'. Refute it at one input. -/
def fnExactAllMoveOkWrong : ChangeSpec := { name := "fnExactAllMoveOk", fn := fun _ => fun
  | [d1, d2, d3] => { results := [.lit (.bool false)], args := [d1, d2, d3] }
  | _ => none }
def FnExactAllMoveOkWrongFalsely : Prop := fnExactAllMoveOkRow.holds Try.pinned (OpenSpec.ofChange fnExactAllMoveOkWrong)

/-- 'laws.FnAllEternalOk': WHATEVER THE INPUT: true; the input reads as it did. -/
def fnAllEternalOkSpec : ChangeSpec := { name := "fnAllEternalOk", fn := fun _ => fun
  | [d] => { results := [.lit (.bool true)], args := [d] }
  | _ => none }
def fnAllEternalOkRow : OpenClaim := { program := "ytgocpgkhbamkcaa", sum := "ac4dfb98a605c1ba084cd1a832282e22d5e998adf83bec491c5df98e8f6e2034", func := "loop.example/guardsonnets/laws.FnAllEternalOk", spec := "fnAllEternalOk", recurses := true, apart := false }
def FnAllEternalOkSaid : Prop := fnAllEternalOkRow.holds Try.pinned (OpenSpec.ofChange fnAllEternalOkSpec)

/-- ITS FALSE NEIGHBOUR: 'it returns false'. Refute it at one input. -/
def fnAllEternalOkWrong : ChangeSpec := { name := "fnAllEternalOk", fn := fun _ => fun
  | [d] => { results := [.lit (.bool false)], args := [d] }
  | _ => none }
def FnAllEternalOkWrongFalsely : Prop := fnAllEternalOkRow.holds Try.pinned (OpenSpec.ofChange fnAllEternalOkWrong)

/-- 'laws.FnExactAllEternalOk': WHATEVER THE INPUT: true; the input reads as it did. -/
def fnExactAllEternalOkSpec : ChangeSpec := { name := "fnExactAllEternalOk", fn := fun _ => fun
  | [d1, d2] => { results := [.lit (.bool true)], args := [d1, d2] }
  | _ => none }
def fnExactAllEternalOkRow : OpenClaim := { program := "ytgocpgkhbamkcaa", sum := "ac4dfb98a605c1ba084cd1a832282e22d5e998adf83bec491c5df98e8f6e2034", func := "loop.example/guardsonnets/laws.FnExactAllEternalOk", spec := "fnExactAllEternalOk", recurses := true, apart := false }
def FnExactAllEternalOkSaid : Prop := fnExactAllEternalOkRow.holds Try.pinned (OpenSpec.ofChange fnExactAllEternalOkSpec)

/-- ITS FALSE NEIGHBOUR: 'it returns false'. Refute it at one input. -/
def fnExactAllEternalOkWrong : ChangeSpec := { name := "fnExactAllEternalOk", fn := fun _ => fun
  | [d1, d2] => { results := [.lit (.bool false)], args := [d1, d2] }
  | _ => none }
def FnExactAllEternalOkWrongFalsely : Prop := fnExactAllEternalOkRow.holds Try.pinned (OpenSpec.ofChange fnExactAllEternalOkWrong)

/-- 'laws.FnFewestAllEternal': WHATEVER THE INPUT: true; the input reads as it did. -/
def fnFewestAllEternalSpec : ChangeSpec := { name := "fnFewestAllEternal", fn := fun _ => fun
  | [d] => { results := [.lit (.bool true)], args := [d] }
  | _ => none }
def fnFewestAllEternalRow : OpenClaim := { program := "ytgocpgkhbamkcaa", sum := "ac4dfb98a605c1ba084cd1a832282e22d5e998adf83bec491c5df98e8f6e2034", func := "loop.example/guardsonnets/laws.FnFewestAllEternal", spec := "fnFewestAllEternal", recurses := true, apart := false }
def FnFewestAllEternalSaid : Prop := fnFewestAllEternalRow.holds Try.pinned (OpenSpec.ofChange fnFewestAllEternalSpec)

/-- ITS FALSE NEIGHBOUR: 'it returns false'. Refute it at one input. -/
def fnFewestAllEternalWrong : ChangeSpec := { name := "fnFewestAllEternal", fn := fun _ => fun
  | [d] => { results := [.lit (.bool false)], args := [d] }
  | _ => none }
def FnFewestAllEternalWrongFalsely : Prop := fnFewestAllEternalRow.holds Try.pinned (OpenSpec.ofChange fnFewestAllEternalWrong)

/-- 'laws.FnExactFewestAllEternal': WHATEVER THE INPUT: true; the input reads as it did. -/
def fnExactFewestAllEternalSpec : ChangeSpec := { name := "fnExactFewestAllEternal", fn := fun _ => fun
  | [d] => { results := [.lit (.bool true)], args := [d] }
  | _ => none }
def fnExactFewestAllEternalRow : OpenClaim := { program := "ytgocpgkhbamkcaa", sum := "ac4dfb98a605c1ba084cd1a832282e22d5e998adf83bec491c5df98e8f6e2034", func := "loop.example/guardsonnets/laws.FnExactFewestAllEternal", spec := "fnExactFewestAllEternal", recurses := true, apart := false }
def FnExactFewestAllEternalSaid : Prop := fnExactFewestAllEternalRow.holds Try.pinned (OpenSpec.ofChange fnExactFewestAllEternalSpec)

/-- ITS FALSE NEIGHBOUR: 'it returns false'. Refute it at one input. -/
def fnExactFewestAllEternalWrong : ChangeSpec := { name := "fnExactFewestAllEternal", fn := fun _ => fun
  | [d] => { results := [.lit (.bool false)], args := [d] }
  | _ => none }
def FnExactFewestAllEternalWrongFalsely : Prop := fnExactFewestAllEternalRow.holds Try.pinned (OpenSpec.ofChange fnExactFewestAllEternalWrong)

/-- 'laws.FnAllAnswerOf': WHATEVER THE INPUT: true; the input reads as it did. -/
def fnAllAnswerOfSpec : ChangeSpec := { name := "fnAllAnswerOf", fn := fun _ => fun
  | [d] => { results := [.lit (.bool true)], args := [d] }
  | _ => none }
def fnAllAnswerOfRow : OpenClaim := { program := "ytgocpgkhbamkcaa", sum := "ac4dfb98a605c1ba084cd1a832282e22d5e998adf83bec491c5df98e8f6e2034", func := "loop.example/guardsonnets/laws.FnAllAnswerOf", spec := "fnAllAnswerOf", recurses := true, apart := false }
def FnAllAnswerOfSaid : Prop := fnAllAnswerOfRow.holds Try.pinned (OpenSpec.ofChange fnAllAnswerOfSpec)

/-- ITS FALSE NEIGHBOUR: 'it returns false'. Refute it at one input. -/
def fnAllAnswerOfWrong : ChangeSpec := { name := "fnAllAnswerOf", fn := fun _ => fun
  | [d] => { results := [.lit (.bool false)], args := [d] }
  | _ => none }
def FnAllAnswerOfWrongFalsely : Prop := fnAllAnswerOfRow.holds Try.pinned (OpenSpec.ofChange fnAllAnswerOfWrong)

/-- 'laws.FnExactAllAnswerOf': WHATEVER THE INPUT: true; the input reads as it did. -/
def fnExactAllAnswerOfSpec : ChangeSpec := { name := "fnExactAllAnswerOf", fn := fun _ => fun
  | [d1, d2, d3] => { results := [.lit (.bool true)], args := [d1, d2, d3] }
  | _ => none }
def fnExactAllAnswerOfRow : OpenClaim := { program := "ytgocpgkhbamkcaa", sum := "ac4dfb98a605c1ba084cd1a832282e22d5e998adf83bec491c5df98e8f6e2034", func := "loop.example/guardsonnets/laws.FnExactAllAnswerOf", spec := "fnExactAllAnswerOf", recurses := true, apart := false }
def FnExactAllAnswerOfSaid : Prop := fnExactAllAnswerOfRow.holds Try.pinned (OpenSpec.ofChange fnExactAllAnswerOfSpec)

/-- ITS FALSE NEIGHBOUR: 'it returns false'. Refute it at one input. -/
def fnExactAllAnswerOfWrong : ChangeSpec := { name := "fnExactAllAnswerOf", fn := fun _ => fun
  | [d1, d2, d3] => { results := [.lit (.bool false)], args := [d1, d2, d3] }
  | _ => none }
def FnExactAllAnswerOfWrongFalsely : Prop := fnExactAllAnswerOfRow.holds Try.pinned (OpenSpec.ofChange fnExactAllAnswerOfWrong)

/- THE SECOND FORM. 'bulk': how many values and letters a reading holds, each counted each time it is reached (what is shared counts as often as it is met; a slice's spare places count too). A statement '..UptoSaid' is the law's where the arguments, and the package variables that the reading takes, are together of bulk at most 1048576: NARROWER than '..Said'. Prove '..Said' where nothing that the law and all that it calls make is longer than what came in: it says more and counts as full. Else prove '..UptoSaid'. A law counts once. -/
mutual
def uptoBulk {H : Type} : DataW H → Nat
  | .lit (.string bytes) => bytes.length + 1
  | .lit _ => 1
  | .nil => 1
  | .ptr d => uptoBulk d + 1
  | .slice elems spare => uptoBulkAll elems + uptoBulkAll spare + 1
  | .agg parts => uptoBulkAll parts + 1
  | .iface _ d => uptoBulk d + 1
  | .map entries => uptoBulkEntries entries + 1
  | .held _ => 1
def uptoBulkAll {H : Type} : List (DataW H) → Nat
  | [] => 0
  | d :: r => uptoBulk d + uptoBulkAll r
def uptoBulkEntries {H : Type} : List (Lit × DataW H) → Nat
  | [] => 0
  | x :: r => uptoBulkEntry x + uptoBulkEntries r
def uptoBulkEntry {H : Type} : Lit × DataW H → Nat
  | (.string bytes, d) => bytes.length + uptoBulk d + 1
  | (_, d) => uptoBulk d + 1
 end
def uptoSmall : (H : Type) → List (DataW H) → Bool := fun _ ds => decide (uptoBulkAll ds ≤ 1048576)
def OpenSpec.upto (s : _root_.Go.ChangeSpec) : _root_.Go.OpenSpec := { _root_.Go.OpenSpec.ofChange s with cond := some uptoSmall }

/-- 'laws.FnAllMoveOk', WHERE WHAT IT READS IS OF BULK AT MOST 1048576: true; the input reads as it did. -/
def fnAllMoveOkUptoRow : OpenClaim := { program := "ytgocpgkhbamkcaa", sum := "ac4dfb98a605c1ba084cd1a832282e22d5e998adf83bec491c5df98e8f6e2034", func := "loop.example/guardsonnets/laws.FnAllMoveOk", spec := "fnAllMoveOk", recurses := true, apart := false, narrowed := true }
def FnAllMoveOkUptoSaid : Prop := fnAllMoveOkUptoRow.holds Try.pinned (OpenSpec.upto fnAllMoveOkSpec)

/-- 'laws.FnExactAllMoveOk', WHERE WHAT IT READS IS OF BULK AT MOST 1048576: true; the input reads as it did. -/
def fnExactAllMoveOkUptoRow : OpenClaim := { program := "ytgocpgkhbamkcaa", sum := "ac4dfb98a605c1ba084cd1a832282e22d5e998adf83bec491c5df98e8f6e2034", func := "loop.example/guardsonnets/laws.FnExactAllMoveOk", spec := "fnExactAllMoveOk", recurses := true, apart := false, narrowed := true }
def FnExactAllMoveOkUptoSaid : Prop := fnExactAllMoveOkUptoRow.holds Try.pinned (OpenSpec.upto fnExactAllMoveOkSpec)

/-- 'laws.FnAllEternalOk', WHERE WHAT IT READS IS OF BULK AT MOST 1048576: true; the input reads as it did. -/
def fnAllEternalOkUptoRow : OpenClaim := { program := "ytgocpgkhbamkcaa", sum := "ac4dfb98a605c1ba084cd1a832282e22d5e998adf83bec491c5df98e8f6e2034", func := "loop.example/guardsonnets/laws.FnAllEternalOk", spec := "fnAllEternalOk", recurses := true, apart := false, narrowed := true }
def FnAllEternalOkUptoSaid : Prop := fnAllEternalOkUptoRow.holds Try.pinned (OpenSpec.upto fnAllEternalOkSpec)

/-- 'laws.FnExactAllEternalOk', WHERE WHAT IT READS IS OF BULK AT MOST 1048576: true; the input reads as it did. -/
def fnExactAllEternalOkUptoRow : OpenClaim := { program := "ytgocpgkhbamkcaa", sum := "ac4dfb98a605c1ba084cd1a832282e22d5e998adf83bec491c5df98e8f6e2034", func := "loop.example/guardsonnets/laws.FnExactAllEternalOk", spec := "fnExactAllEternalOk", recurses := true, apart := false, narrowed := true }
def FnExactAllEternalOkUptoSaid : Prop := fnExactAllEternalOkUptoRow.holds Try.pinned (OpenSpec.upto fnExactAllEternalOkSpec)

/-- 'laws.FnFewestAllEternal', WHERE WHAT IT READS IS OF BULK AT MOST 1048576: true; the input reads as it did. -/
def fnFewestAllEternalUptoRow : OpenClaim := { program := "ytgocpgkhbamkcaa", sum := "ac4dfb98a605c1ba084cd1a832282e22d5e998adf83bec491c5df98e8f6e2034", func := "loop.example/guardsonnets/laws.FnFewestAllEternal", spec := "fnFewestAllEternal", recurses := true, apart := false, narrowed := true }
def FnFewestAllEternalUptoSaid : Prop := fnFewestAllEternalUptoRow.holds Try.pinned (OpenSpec.upto fnFewestAllEternalSpec)

/-- 'laws.FnExactFewestAllEternal', WHERE WHAT IT READS IS OF BULK AT MOST 1048576: true; the input reads as it did. -/
def fnExactFewestAllEternalUptoRow : OpenClaim := { program := "ytgocpgkhbamkcaa", sum := "ac4dfb98a605c1ba084cd1a832282e22d5e998adf83bec491c5df98e8f6e2034", func := "loop.example/guardsonnets/laws.FnExactFewestAllEternal", spec := "fnExactFewestAllEternal", recurses := true, apart := false, narrowed := true }
def FnExactFewestAllEternalUptoSaid : Prop := fnExactFewestAllEternalUptoRow.holds Try.pinned (OpenSpec.upto fnExactFewestAllEternalSpec)

/-- 'laws.FnAllAnswerOf', WHERE WHAT IT READS IS OF BULK AT MOST 1048576: true; the input reads as it did. -/
def fnAllAnswerOfUptoRow : OpenClaim := { program := "ytgocpgkhbamkcaa", sum := "ac4dfb98a605c1ba084cd1a832282e22d5e998adf83bec491c5df98e8f6e2034", func := "loop.example/guardsonnets/laws.FnAllAnswerOf", spec := "fnAllAnswerOf", recurses := true, apart := false, narrowed := true }
def FnAllAnswerOfUptoSaid : Prop := fnAllAnswerOfUptoRow.holds Try.pinned (OpenSpec.upto fnAllAnswerOfSpec)

/-- 'laws.FnExactAllAnswerOf', WHERE WHAT IT READS IS OF BULK AT MOST 1048576: true; the input reads as it did. -/
def fnExactAllAnswerOfUptoRow : OpenClaim := { program := "ytgocpgkhbamkcaa", sum := "ac4dfb98a605c1ba084cd1a832282e22d5e998adf83bec491c5df98e8f6e2034", func := "loop.example/guardsonnets/laws.FnExactAllAnswerOf", spec := "fnExactAllAnswerOf", recurses := true, apart := false, narrowed := true }
def FnExactAllAnswerOfUptoSaid : Prop := fnExactAllAnswerOfUptoRow.holds Try.pinned (OpenSpec.upto fnExactAllAnswerOfSpec)

end Rows
end Go.Proofs.Ytgocpgkhbamkcaa
