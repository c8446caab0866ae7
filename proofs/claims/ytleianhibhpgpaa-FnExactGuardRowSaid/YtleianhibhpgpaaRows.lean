/-
  No cell of these rows narrows 'for every input' (looked for: loops, veiled, ifaces, maps, wideKeys, modest, calm, conditions, laid).
  DERIVED. THE GIVEN ROWS OF THIS SEAT. 4 by the template 'for every input the law returns true; each argument reads behind the call as it read before'; 0 by the template 'total and deterministic' (their statements: YtleianhibhpgpaaTotals.lean).
  GIVEN WITH THE SEED: the statements are not yours to turn. If you find one false, say at which input.
  Laid BY PROGRAM, IN A SANDBOX (cutbox-rows.mjs): the forced cells as the released guide's own fill.sh prints them over the translation ca40aed213249c6b… (all of the seat's roots in one cut). By AI agents, Wed Nov 11 2026. No macro, syntax, notation, axiom, sorry.
-/
import Derived.Test.YtleianhibhpgpaaChecked
import GoSem.Claim
import GoSem.ClaimJoined
import GoSem.ClaimMapViews
import Derived.JoinedTies
import Derived.KernelRfl
namespace Go.Proofs.Ytleianhibhpgpaa
/- THE CELL 'sum', in the pinned program and in every row, IS THE sha256 OF THE DUMP (.gsa) THAT YtleianhibhpgpaaProg.lean LOADS. Nothing in Lean hashes anything: it is a label: what it is worth is what the hold of that sum in a sandbox is worth. -/
noncomputable def Try.pinned : Pinned := { name := "ytleianhibhpgpaa", sum := "ca40aed213249c6b24ce4706f04f2069d31c4f55e489f9eb433e2a99bb5e2f06", checked := Try.checked }
namespace Rows
def none {H : Type} : Left H := { results := [], args := [] }

/-- 'laws.FnFewestCliques': WHATEVER THE INPUT: true; the input reads as it did. -/
def fnFewestCliquesSpec : ChangeSpec := { name := "fnFewestCliques", fn := fun _ => fun
  | [d] => { results := [.lit (.bool true)], args := [d] }
  | _ => none }
def fnFewestCliquesRow : OpenClaim := { program := "ytleianhibhpgpaa", sum := "ca40aed213249c6b24ce4706f04f2069d31c4f55e489f9eb433e2a99bb5e2f06", func := "loop.example/guardsonnets/laws.FnFewestCliques", spec := "fnFewestCliques", recurses := true, apart := false }
def FnFewestCliquesSaid : Prop := fnFewestCliquesRow.holds Try.pinned (OpenSpec.ofChange fnFewestCliquesSpec)

/-- ITS FALSE NEIGHBOUR: 'it returns false'. Refute it at one input. -/
def fnFewestCliquesWrong : ChangeSpec := { name := "fnFewestCliques", fn := fun _ => fun
  | [d] => { results := [.lit (.bool false)], args := [d] }
  | _ => none }
def FnFewestCliquesWrongFalsely : Prop := fnFewestCliquesRow.holds Try.pinned (OpenSpec.ofChange fnFewestCliquesWrong)

/-- 'laws.FnExactFewestCliques': WHATEVER THE INPUT: true; the input reads as it did. -/
def fnExactFewestCliquesSpec : ChangeSpec := { name := "fnExactFewestCliques", fn := fun _ => fun
  | [d] => { results := [.lit (.bool true)], args := [d] }
  | _ => none }
def fnExactFewestCliquesRow : OpenClaim := { program := "ytleianhibhpgpaa", sum := "ca40aed213249c6b24ce4706f04f2069d31c4f55e489f9eb433e2a99bb5e2f06", func := "loop.example/guardsonnets/laws.FnExactFewestCliques", spec := "fnExactFewestCliques", recurses := true, apart := false }
def FnExactFewestCliquesSaid : Prop := fnExactFewestCliquesRow.holds Try.pinned (OpenSpec.ofChange fnExactFewestCliquesSpec)

/-- ITS FALSE NEIGHBOUR: 'it returns false'. Refute it at one input. -/
def fnExactFewestCliquesWrong : ChangeSpec := { name := "fnExactFewestCliques", fn := fun _ => fun
  | [d] => { results := [.lit (.bool false)], args := [d] }
  | _ => none }
def FnExactFewestCliquesWrongFalsely : Prop := fnExactFewestCliquesRow.holds Try.pinned (OpenSpec.ofChange fnExactFewestCliquesWrong)

/-- 'laws.FnGuardRow': WHATEVER THE INPUT: true; the input reads as it did. -/
def fnGuardRowSpec : ChangeSpec := { name := "fnGuardRow", fn := fun _ => fun
  | [d] => { results := [.lit (.bool true)], args := [d] }
  | _ => none }
def fnGuardRowRow : OpenClaim := { program := "ytleianhibhpgpaa", sum := "ca40aed213249c6b24ce4706f04f2069d31c4f55e489f9eb433e2a99bb5e2f06", func := "loop.example/guardsonnets/laws.FnGuardRow", spec := "fnGuardRow", recurses := true, apart := false }
def FnGuardRowSaid : Prop := fnGuardRowRow.holds Try.pinned (OpenSpec.ofChange fnGuardRowSpec)

/-- ITS FALSE NEIGHBOUR: 'it returns false'. Refute it at one input. -/
def fnGuardRowWrong : ChangeSpec := { name := "fnGuardRow", fn := fun _ => fun
  | [d] => { results := [.lit (.bool false)], args := [d] }
  | _ => none }
def FnGuardRowWrongFalsely : Prop := fnGuardRowRow.holds Try.pinned (OpenSpec.ofChange fnGuardRowWrong)

/-- 'laws.FnExactGuardRow': WHATEVER THE INPUT: true; the input reads as it did. -/
def fnExactGuardRowSpec : ChangeSpec := { name := "fnExactGuardRow", fn := fun _ => fun
  | [d] => { results := [.lit (.bool true)], args := [d] }
  | _ => none }
def fnExactGuardRowRow : OpenClaim := { program := "ytleianhibhpgpaa", sum := "ca40aed213249c6b24ce4706f04f2069d31c4f55e489f9eb433e2a99bb5e2f06", func := "loop.example/guardsonnets/laws.FnExactGuardRow", spec := "fnExactGuardRow", recurses := true, apart := false }
def FnExactGuardRowSaid : Prop := fnExactGuardRowRow.holds Try.pinned (OpenSpec.ofChange fnExactGuardRowSpec)

/-- ITS FALSE NEIGHBOUR: 'it returns false'. Refute it at one input. -/
def fnExactGuardRowWrong : ChangeSpec := { name := "fnExactGuardRow", fn := fun _ => fun
  | [d] => { results := [.lit (.bool false)], args := [d] }
  | _ => none }
def FnExactGuardRowWrongFalsely : Prop := fnExactGuardRowRow.holds Try.pinned (OpenSpec.ofChange fnExactGuardRowWrong)

/- THE SECOND FORM. 'bulk': how many values and letters a reading holds, each counted each time it is reached (what is shared counts as often as it is met; a slice's spare places count too). A statement '..UptoSaid' is the law's where the arguments, and the package variables that the reading takes, are together of bulk at most 1048576: NARROWER than '..Said'. Prove '..Said' where nothing that the law and all that it calls make is longer than what came in: it says more and counts as full. Else prove '..UptoSaid'. A law counts once. -/
mutual
def uptoBulk {H : Type} : DataW H → Nat
  | .lit (.string bytes) => bytes.length + 1
  | .lit _ => 1
  | .nil => 1
  | .ptr d => uptoBulk d + 1
  | .slice elems spare => uptoBulkAll elems + uptoBulkAll spare + 1
  | .agg parts => uptoBulkAll parts + 1
  | .iface _ d => uptoBulk d + 1
  | .map entries => uptoBulkEntries entries + 1
  | .held _ => 1
def uptoBulkAll {H : Type} : List (DataW H) → Nat
  | [] => 0
  | d :: r => uptoBulk d + uptoBulkAll r
def uptoBulkEntries {H : Type} : List (Lit × DataW H) → Nat
  | [] => 0
  | x :: r => uptoBulkEntry x + uptoBulkEntries r
def uptoBulkEntry {H : Type} : Lit × DataW H → Nat
  | (.string bytes, d) => bytes.length + uptoBulk d + 1
  | (_, d) => uptoBulk d + 1
 end
def uptoSmall : (H : Type) → List (DataW H) → Bool := fun _ ds => decide (uptoBulkAll ds ≤ 1048576)
def OpenSpec.upto (s : _root_.Go.ChangeSpec) : _root_.Go.OpenSpec := { _root_.Go.OpenSpec.ofChange s with cond := some uptoSmall }

/-- 'laws.FnFewestCliques', WHERE WHAT IT READS IS OF BULK AT MOST 1048576: true; the input reads as it did. -/
def fnFewestCliquesUptoRow : OpenClaim := { program := "ytleianhibhpgpaa", sum := "ca40aed213249c6b24ce4706f04f2069d31c4f55e489f9eb433e2a99bb5e2f06", func := "loop.example/guardsonnets/laws.FnFewestCliques", spec := "fnFewestCliques", recurses := true, apart := false, narrowed := true }
def FnFewestCliquesUptoSaid : Prop := fnFewestCliquesUptoRow.holds Try.pinned (OpenSpec.upto fnFewestCliquesSpec)

/-- 'laws.FnExactFewestCliques', WHERE WHAT IT READS IS OF BULK AT MOST 1048576: true; the input reads as it did. -/
def fnExactFewestCliquesUptoRow : OpenClaim := { program := "ytleianhibhpgpaa", sum := "ca40aed213249c6b24ce4706f04f2069d31c4f55e489f9eb433e2a99bb5e2f06", func := "loop.example/guardsonnets/laws.FnExactFewestCliques", spec := "fnExactFewestCliques", recurses := true, apart := false, narrowed := true }
def FnExactFewestCliquesUptoSaid : Prop := fnExactFewestCliquesUptoRow.holds Try.pinned (OpenSpec.upto fnExactFewestCliquesSpec)

/-- 'laws.FnGuardRow', WHERE WHAT IT READS IS OF BULK AT MOST 1048576: true; the input reads as it did. -/
def fnGuardRowUptoRow : OpenClaim := { program := "ytleianhibhpgpaa", sum := "ca40aed213249c6b24ce4706f04f2069d31c4f55e489f9eb433e2a99bb5e2f06", func := "loop.example/guardsonnets/laws.FnGuardRow", spec := "fnGuardRow", recurses := true, apart := false, narrowed := true }
def FnGuardRowUptoSaid : Prop := fnGuardRowUptoRow.holds Try.pinned (OpenSpec.upto fnGuardRowSpec)

/-- 'laws.FnExactGuardRow', WHERE WHAT IT READS IS OF BULK AT MOST 1048576: true; the input reads as it did. -/
def fnExactGuardRowUptoRow : OpenClaim := { program := "ytleianhibhpgpaa", sum := "ca40aed213249c6b24ce4706f04f2069d31c4f55e489f9eb433e2a99bb5e2f06", func := "loop.example/guardsonnets/laws.FnExactGuardRow", spec := "fnExactGuardRow", recurses := true, apart := false, narrowed := true }
def FnExactGuardRowUptoSaid : Prop := fnExactGuardRowUptoRow.holds Try.pinned (OpenSpec.upto fnExactGuardRowSpec)

end Rows
end Go.Proofs.Ytleianhibhpgpaa
