/-
  No cell of these rows narrows 'for every input' (looked for: loops, veiled, ifaces, maps, wideKeys, modest, calm, conditions, laid).
  DERIVED. THE GIVEN ROWS OF THIS SEAT. 4 by the template 'for every input the law returns true; each argument reads behind the call as it read before'; 0 by the template 'total and deterministic' (their statements: YtjaklmemllbeiaaTotals.lean).
  GIVEN WITH THE SEED: the statements are not yours to turn. If you find one false, say at which input.
  Laid BY PROGRAM, IN A SANDBOX (cutbox-rows.mjs): the forced cells as the released guide's own fill.sh prints them over the translation 90d67f3fde85a94c… (all of the seat's roots in one cut). By AI agents, Wed Nov 11 2026. No macro, syntax, notation, axiom, sorry.
-/
import Derived.Test.YtjaklmemllbeiaaChecked
import GoSem.Claim
import GoSem.ClaimJoined
import GoSem.ClaimMapViews
import Derived.JoinedTies
import Derived.KernelRfl
namespace Go.Proofs.Ytjaklmemllbeiaa
/- THE CELL 'sum', in the pinned program and in every row, IS THE sha256 OF THE DUMP (.gsa) THAT YtjaklmemllbeiaaProg.lean LOADS. Nothing in Lean hashes anything: it is a label: what it is worth is what the hold of that sum in a sandbox is worth. -/
noncomputable def Try.pinned : Pinned := { name := "ytjaklmemllbeiaa", sum := "90d67f3fde85a94cc94c64008c9aa64575ef4f77a04bc4ee3f248be6cae281da", checked := Try.checked }
namespace Rows
def none {H : Type} : Left H := { results := [], args := [] }

/-- 'laws.FnNetText': WHATEVER THE INPUT: true; the input reads as it did. -/
def fnNetTextSpec : ChangeSpec := { name := "fnNetText", fn := fun _ => fun
  | [d] => { results := [.lit (.bool true)], args := [d] }
  | _ => none }
def fnNetTextRow : OpenClaim := { program := "ytjaklmemllbeiaa", sum := "90d67f3fde85a94cc94c64008c9aa64575ef4f77a04bc4ee3f248be6cae281da", func := "loop.example/guardsonnets/laws.FnNetText", spec := "fnNetText", recurses := true, apart := false }
def FnNetTextSaid : Prop := fnNetTextRow.holds Try.pinned (OpenSpec.ofChange fnNetTextSpec)

/-- ITS FALSE NEIGHBOUR: 'it returns false'. Refute it at one input. -/
def fnNetTextWrong : ChangeSpec := { name := "fnNetText", fn := fun _ => fun
  | [d] => { results := [.lit (.bool false)], args := [d] }
  | _ => none }
def FnNetTextWrongFalsely : Prop := fnNetTextRow.holds Try.pinned (OpenSpec.ofChange fnNetTextWrong)

/-- 'laws.FnNetRead': WHATEVER THE INPUT: true; the input reads as it did. -/
def fnNetReadSpec : ChangeSpec := { name := "fnNetRead", fn := fun _ => fun
  | [d] => { results := [.lit (.bool true)], args := [d] }
  | _ => none }
def fnNetReadRow : OpenClaim := { program := "ytjaklmemllbeiaa", sum := "90d67f3fde85a94cc94c64008c9aa64575ef4f77a04bc4ee3f248be6cae281da", func := "loop.example/guardsonnets/laws.FnNetRead", spec := "fnNetRead", recurses := true, apart := false }
def FnNetReadSaid : Prop := fnNetReadRow.holds Try.pinned (OpenSpec.ofChange fnNetReadSpec)

/-- ITS FALSE NEIGHBOUR: 'it returns false'. Refute it at one input. -/
def fnNetReadWrong : ChangeSpec := { name := "fnNetRead", fn := fun _ => fun
  | [d] => { results := [.lit (.bool false)], args := [d] }
  | _ => none }
def FnNetReadWrongFalsely : Prop := fnNetReadRow.holds Try.pinned (OpenSpec.ofChange fnNetReadWrong)

/-- 'laws.FnExactNetText': WHATEVER THE INPUT: true; the input reads as it did. -/
def fnExactNetTextSpec : ChangeSpec := { name := "fnExactNetText", fn := fun _ => fun
  | [d] => { results := [.lit (.bool true)], args := [d] }
  | _ => none }
def fnExactNetTextRow : OpenClaim := { program := "ytjaklmemllbeiaa", sum := "90d67f3fde85a94cc94c64008c9aa64575ef4f77a04bc4ee3f248be6cae281da", func := "loop.example/guardsonnets/laws.FnExactNetText", spec := "fnExactNetText", recurses := true, apart := false }
def FnExactNetTextSaid : Prop := fnExactNetTextRow.holds Try.pinned (OpenSpec.ofChange fnExactNetTextSpec)

/-- ITS FALSE NEIGHBOUR: 'it returns false'. Refute it at one input. -/
def fnExactNetTextWrong : ChangeSpec := { name := "fnExactNetText", fn := fun _ => fun
  | [d] => { results := [.lit (.bool false)], args := [d] }
  | _ => none }
def FnExactNetTextWrongFalsely : Prop := fnExactNetTextRow.holds Try.pinned (OpenSpec.ofChange fnExactNetTextWrong)

/-- 'laws.FnExactNetRead': WHATEVER THE INPUT: true; the input reads as it did. -/
def fnExactNetReadSpec : ChangeSpec := { name := "fnExactNetRead", fn := fun _ => fun
  | [d] => { results := [.lit (.bool true)], args := [d] }
  | _ => none }
def fnExactNetReadRow : OpenClaim := { program := "ytjaklmemllbeiaa", sum := "90d67f3fde85a94cc94c64008c9aa64575ef4f77a04bc4ee3f248be6cae281da", func := "loop.example/guardsonnets/laws.FnExactNetRead", spec := "fnExactNetRead", recurses := true, apart := false }
def FnExactNetReadSaid : Prop := fnExactNetReadRow.holds Try.pinned (OpenSpec.ofChange fnExactNetReadSpec)

/-- ITS FALSE NEIGHBOUR: 'it returns false'. Refute it at one input. -/
def fnExactNetReadWrong : ChangeSpec := { name := "fnExactNetRead", fn := fun _ => fun
  | [d] => { results := [.lit (.bool false)], args := [d] }
  | _ => none }
def FnExactNetReadWrongFalsely : Prop := fnExactNetReadRow.holds Try.pinned (OpenSpec.ofChange fnExactNetReadWrong)

/- THE SECOND FORM. 'bulk': how many values and letters a reading holds, each counted each time it is reached (what is shared counts as often as it is met; a slice's spare places count too). A statement '..UptoSaid' is the law's where the arguments, and the package variables that the reading takes, are together of bulk at most 1048576: NARROWER than '..Said'. Prove '..Said' where nothing that the law and all that it calls make is longer than what came in: it says more and counts as full. Else prove '..UptoSaid'. A law counts once. -/
mutual
def uptoBulk {H : Type} : DataW H → Nat
  | .lit (.string bytes) => bytes.length + 1
  | .lit _ => 1
  | .nil => 1
  | .ptr d => uptoBulk d + 1
  | .slice elems spare => uptoBulkAll elems + uptoBulkAll spare + 1
  | .agg parts => uptoBulkAll parts + 1
  | .iface _ d => uptoBulk d + 1
  | .map entries => uptoBulkEntries entries + 1
  | .held _ => 1
def uptoBulkAll {H : Type} : List (DataW H) → Nat
  | [] => 0
  | d :: r => uptoBulk d + uptoBulkAll r
def uptoBulkEntries {H : Type} : List (Lit × DataW H) → Nat
  | [] => 0
  | x :: r => uptoBulkEntry x + uptoBulkEntries r
def uptoBulkEntry {H : Type} : Lit × DataW H → Nat
  | (.string bytes, d) => bytes.length + uptoBulk d + 1
  | (_, d) => uptoBulk d + 1
 end
def uptoSmall : (H : Type) → List (DataW H) → Bool := fun _ ds => decide (uptoBulkAll ds ≤ 1048576)
def OpenSpec.upto (s : _root_.Go.ChangeSpec) : _root_.Go.OpenSpec := { _root_.Go.OpenSpec.ofChange s with cond := some uptoSmall }

/-- 'laws.FnNetText', WHERE WHAT IT READS IS OF BULK AT MOST 1048576: true; the input reads as it did. -/
def fnNetTextUptoRow : OpenClaim := { program := "ytjaklmemllbeiaa", sum := "90d67f3fde85a94cc94c64008c9aa64575ef4f77a04bc4ee3f248be6cae281da", func := "loop.example/guardsonnets/laws.FnNetText", spec := "fnNetText", recurses := true, apart := false, narrowed := true }
def FnNetTextUptoSaid : Prop := fnNetTextUptoRow.holds Try.pinned (OpenSpec.upto fnNetTextSpec)

/-- 'laws.FnNetRead', WHERE WHAT IT READS IS OF BULK AT MOST 1048576: true; the input reads as it did. -/
def fnNetReadUptoRow : OpenClaim := { program := "ytjaklmemllbeiaa", sum := "90d67f3fde85a94cc94c64008c9aa64575ef4f77a04bc4ee3f248be6cae281da", func := "loop.example/guardsonnets/laws.FnNetRead", spec := "fnNetRead", recurses := true, apart := false, narrowed := true }
def FnNetReadUptoSaid : Prop := fnNetReadUptoRow.holds Try.pinned (OpenSpec.upto fnNetReadSpec)

/-- 'laws.FnExactNetText', WHERE WHAT IT READS IS OF BULK AT MOST 1048576: true; the input reads as it did. -/
def fnExactNetTextUptoRow : OpenClaim := { program := "ytjaklmemllbeiaa", sum := "90d67f3fde85a94cc94c64008c9aa64575ef4f77a04bc4ee3f248be6cae281da", func := "loop.example/guardsonnets/laws.FnExactNetText", spec := "fnExactNetText", recurses := true, apart := false, narrowed := true }
def FnExactNetTextUptoSaid : Prop := fnExactNetTextUptoRow.holds Try.pinned (OpenSpec.upto fnExactNetTextSpec)

/-- 'laws.FnExactNetRead', WHERE WHAT IT READS IS OF BULK AT MOST 1048576: true; the input reads as it did. -/
def fnExactNetReadUptoRow : OpenClaim := { program := "ytjaklmemllbeiaa", sum := "90d67f3fde85a94cc94c64008c9aa64575ef4f77a04bc4ee3f248be6cae281da", func := "loop.example/guardsonnets/laws.FnExactNetRead", spec := "fnExactNetRead", recurses := true, apart := false, narrowed := true }
def FnExactNetReadUptoSaid : Prop := fnExactNetReadUptoRow.holds Try.pinned (OpenSpec.upto fnExactNetReadSpec)

end Rows
end Go.Proofs.Ytjaklmemllbeiaa
