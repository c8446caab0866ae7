/-
  No cell of these rows narrows 'for every input' (looked for: loops, veiled, ifaces, maps, wideKeys, modest, calm, conditions, laid).
  DERIVED. THE GIVEN ROWS OF THIS SEAT. 8 by the template 'for every input the law returns true; each argument reads behind the call as it read before'; 0 by the template 'total and deterministic' (their statements: YtbahjlgloilabaaTotals.lean).
  GIVEN WITH THE SEED: the statements are not yours to turn. If you find one false, say at which input.
  Laid BY PROGRAM, IN A SANDBOX (cutbox-rows.mjs): the forced cells as the released guide's own fill.sh prints them over the translation 08c160ad21560397… (all of the seat's roots in one cut). By AI agents, Wed Nov 11 2026. No macro, syntax, notation, axiom, sorry.
-/
import Derived.Test.YtbahjlgloilabaaChecked
import GoSem.Claim
import GoSem.ClaimJoined
import GoSem.ClaimMapViews
import Derived.JoinedTies
import Derived.KernelRfl
namespace Go.Proofs.Ytbahjlgloilabaa
/- THE CELL 'sum', in the pinned program and in every row, IS THE sha256 OF THE DUMP (.gsa) THAT YtbahjlgloilabaaProg.lean LOADS. Nothing in Lean hashes anything: it is a label: what it is worth is what the hold of that sum in a sandbox is worth. -/
noncomputable def Try.pinned : Pinned := { name := "ytbahjlgloilabaa", sum := "08c160ad21560397ef851006a3a99c77b89c8bbb2f84bf1a605d8182c990853c", checked := Try.checked }
namespace Rows
def none {H : Type} : Left H := { results := [], args := [] }

/-- 'laws.FnNetText': WHATEVER THE INPUT: true; the input reads as it did. -/
def fnNetTextSpec : ChangeSpec := { name := "fnNetText", fn := fun _ => fun
  | [d] => { results := [.lit (.bool true)], args := [d] }
  | _ => none }
def fnNetTextRow : OpenClaim := { program := "ytbahjlgloilabaa", sum := "08c160ad21560397ef851006a3a99c77b89c8bbb2f84bf1a605d8182c990853c", func := "loop.example/guardsonnets/laws.FnNetText", spec := "fnNetText", recurses := true, apart := false }
def FnNetTextSaid : Prop := fnNetTextRow.holds Try.pinned (OpenSpec.ofChange fnNetTextSpec)

/-- ITS FALSE NEIGHBOUR: 'it returns false'. Refute it at one input. -/
def fnNetTextWrong : ChangeSpec := { name := "fnNetText", fn := fun _ => fun
  | [d] => { results := [.lit (.bool false)], args := [d] }
  | _ => none }
def FnNetTextWrongFalsely : Prop := fnNetTextRow.holds Try.pinned (OpenSpec.ofChange fnNetTextWrong)

/-- 'laws.FnExactNetText': WHATEVER THE INPUT: true; the input reads as it did. -/
def fnExactNetTextSpec : ChangeSpec := { name := "fnExactNetText", fn := fun _ => fun
  | [d] => { results := [.lit (.bool true)], args := [d] }
  | _ => none }
def fnExactNetTextRow : OpenClaim := { program := "ytbahjlgloilabaa", sum := "08c160ad21560397ef851006a3a99c77b89c8bbb2f84bf1a605d8182c990853c", func := "loop.example/guardsonnets/laws.FnExactNetText", spec := "fnExactNetText", recurses := true, apart := false }
def FnExactNetTextSaid : Prop := fnExactNetTextRow.holds Try.pinned (OpenSpec.ofChange fnExactNetTextSpec)

/-- ITS FALSE NEIGHBOUR: 'it returns false'. Refute it at one input. -/
def fnExactNetTextWrong : ChangeSpec := { name := "fnExactNetText", fn := fun _ => fun
  | [d] => { results := [.lit (.bool false)], args := [d] }
  | _ => none }
def FnExactNetTextWrongFalsely : Prop := fnExactNetTextRow.holds Try.pinned (OpenSpec.ofChange fnExactNetTextWrong)

/-- 'laws.FnNetRead': WHATEVER THE INPUT: true; the input reads as it did. -/
def fnNetReadSpec : ChangeSpec := { name := "fnNetRead", fn := fun _ => fun
  | [d] => { results := [.lit (.bool true)], args := [d] }
  | _ => none }
def fnNetReadRow : OpenClaim := { program := "ytbahjlgloilabaa", sum := "08c160ad21560397ef851006a3a99c77b89c8bbb2f84bf1a605d8182c990853c", func := "loop.example/guardsonnets/laws.FnNetRead", spec := "fnNetRead", recurses := true, apart := false }
def FnNetReadSaid : Prop := fnNetReadRow.holds Try.pinned (OpenSpec.ofChange fnNetReadSpec)

/-- ITS FALSE NEIGHBOUR: 'it returns false'. Refute it at one input. -/
def fnNetReadWrong : ChangeSpec := { name := "fnNetRead", fn := fun _ => fun
  | [d] => { results := [.lit (.bool false)], args := [d] }
  | _ => none }
def FnNetReadWrongFalsely : Prop := fnNetReadRow.holds Try.pinned (OpenSpec.ofChange fnNetReadWrong)

/-- 'laws.FnExactNetRead': WHATEVER THE INPUT: true; the input reads as it did. -/
def fnExactNetReadSpec : ChangeSpec := { name := "fnExactNetRead", fn := fun _ => fun
  | [d] => { results := [.lit (.bool true)], args := [d] }
  | _ => none }
def fnExactNetReadRow : OpenClaim := { program := "ytbahjlgloilabaa", sum := "08c160ad21560397ef851006a3a99c77b89c8bbb2f84bf1a605d8182c990853c", func := "loop.example/guardsonnets/laws.FnExactNetRead", spec := "fnExactNetRead", recurses := true, apart := false }
def FnExactNetReadSaid : Prop := fnExactNetReadRow.holds Try.pinned (OpenSpec.ofChange fnExactNetReadSpec)

/-- ITS FALSE NEIGHBOUR: 'it returns false'. Refute it at one input. -/
def fnExactNetReadWrong : ChangeSpec := { name := "fnExactNetRead", fn := fun _ => fun
  | [d] => { results := [.lit (.bool false)], args := [d] }
  | _ => none }
def FnExactNetReadWrongFalsely : Prop := fnExactNetReadRow.holds Try.pinned (OpenSpec.ofChange fnExactNetReadWrong)

/-- 'laws.FnNetBytes': WHATEVER THE INPUT: true; the input reads as it did. -/
def fnNetBytesSpec : ChangeSpec := { name := "fnNetBytes", fn := fun _ => fun
  | [d] => { results := [.lit (.bool true)], args := [d] }
  | _ => none }
def fnNetBytesRow : OpenClaim := { program := "ytbahjlgloilabaa", sum := "08c160ad21560397ef851006a3a99c77b89c8bbb2f84bf1a605d8182c990853c", func := "loop.example/guardsonnets/laws.FnNetBytes", spec := "fnNetBytes", apart := false }
def FnNetBytesSaid : Prop := fnNetBytesRow.holds Try.pinned (OpenSpec.ofChange fnNetBytesSpec)

/-- ITS FALSE NEIGHBOUR: 'it returns false'. Refute it at one input. -/
def fnNetBytesWrong : ChangeSpec := { name := "fnNetBytes", fn := fun _ => fun
  | [d] => { results := [.lit (.bool false)], args := [d] }
  | _ => none }
def FnNetBytesWrongFalsely : Prop := fnNetBytesRow.holds Try.pinned (OpenSpec.ofChange fnNetBytesWrong)

/-- 'laws.FnExactNetBytes': WHATEVER THE INPUT: true; the input reads as it did. -/
def fnExactNetBytesSpec : ChangeSpec := { name := "fnExactNetBytes", fn := fun _ => fun
  | [d] => { results := [.lit (.bool true)], args := [d] }
  | _ => none }
def fnExactNetBytesRow : OpenClaim := { program := "ytbahjlgloilabaa", sum := "08c160ad21560397ef851006a3a99c77b89c8bbb2f84bf1a605d8182c990853c", func := "loop.example/guardsonnets/laws.FnExactNetBytes", spec := "fnExactNetBytes", apart := false }
def FnExactNetBytesSaid : Prop := fnExactNetBytesRow.holds Try.pinned (OpenSpec.ofChange fnExactNetBytesSpec)

/-- ITS FALSE NEIGHBOUR: 'it returns false'. Refute it at one input. -/
def fnExactNetBytesWrong : ChangeSpec := { name := "fnExactNetBytes", fn := fun _ => fun
  | [d] => { results := [.lit (.bool false)], args := [d] }
  | _ => none }
def FnExactNetBytesWrongFalsely : Prop := fnExactNetBytesRow.holds Try.pinned (OpenSpec.ofChange fnExactNetBytesWrong)

/-- 'laws.FnNetFrom': WHATEVER THE INPUT: true; the input reads as it did. -/
def fnNetFromSpec : ChangeSpec := { name := "fnNetFrom", fn := fun _ => fun
  | [d] => { results := [.lit (.bool true)], args := [d] }
  | _ => none }
def fnNetFromRow : OpenClaim := { program := "ytbahjlgloilabaa", sum := "08c160ad21560397ef851006a3a99c77b89c8bbb2f84bf1a605d8182c990853c", func := "loop.example/guardsonnets/laws.FnNetFrom", spec := "fnNetFrom", apart := false }
def FnNetFromSaid : Prop := fnNetFromRow.holds Try.pinned (OpenSpec.ofChange fnNetFromSpec)

/-- ITS FALSE NEIGHBOUR: 'it returns false'. Refute it at one input. -/
def fnNetFromWrong : ChangeSpec := { name := "fnNetFrom", fn := fun _ => fun
  | [d] => { results := [.lit (.bool false)], args := [d] }
  | _ => none }
def FnNetFromWrongFalsely : Prop := fnNetFromRow.holds Try.pinned (OpenSpec.ofChange fnNetFromWrong)

/-- 'laws.FnExactNetFrom': WHATEVER THE INPUT: true; the input reads as it did. -/
def fnExactNetFromSpec : ChangeSpec := { name := "fnExactNetFrom", fn := fun _ => fun
  | [d] => { results := [.lit (.bool true)], args := [d] }
  | _ => none }
def fnExactNetFromRow : OpenClaim := { program := "ytbahjlgloilabaa", sum := "08c160ad21560397ef851006a3a99c77b89c8bbb2f84bf1a605d8182c990853c", func := "loop.example/guardsonnets/laws.FnExactNetFrom", spec := "fnExactNetFrom", apart := false }
def FnExactNetFromSaid : Prop := fnExactNetFromRow.holds Try.pinned (OpenSpec.ofChange fnExactNetFromSpec)

/-- ITS FALSE NEIGHBOUR: 'it returns false'. Refute it at one input. -/
def fnExactNetFromWrong : ChangeSpec := { name := "fnExactNetFrom", fn := fun _ => fun
  | [d] => { results := [.lit (.bool false)], args := [d] }
  | _ => none }
def FnExactNetFromWrongFalsely : Prop := fnExactNetFromRow.holds Try.pinned (OpenSpec.ofChange fnExactNetFromWrong)

/- THE SECOND FORM. 'bulk': how many values and letters a reading holds, each counted each time it is reached (what is shared counts as often as it is met; a slice's spare places count too). A statement '..UptoSaid' is the law's where the arguments, and the package variables that the reading takes, are together of bulk at most 1048576: NARROWER than '..Said'. Prove '..Said' where nothing that the law and all that it calls make is longer than what came in: it says more and counts as full. Else prove '..UptoSaid'. A law counts once. -/
mutual
def uptoBulk {H : Type} : DataW H → Nat
  | .lit (.string bytes) => bytes.length + 1
  | .lit _ => 1
  | .nil => 1
  | .ptr d => uptoBulk d + 1
  | .slice elems spare => uptoBulkAll elems + uptoBulkAll spare + 1
  | .agg parts => uptoBulkAll parts + 1
  | .iface _ d => uptoBulk d + 1
  | .map entries => uptoBulkEntries entries + 1
  | .held _ => 1
def uptoBulkAll {H : Type} : List (DataW H) → Nat
  | [] => 0
  | d :: r => uptoBulk d + uptoBulkAll r
def uptoBulkEntries {H : Type} : List (Lit × DataW H) → Nat
  | [] => 0
  | x :: r => uptoBulkEntry x + uptoBulkEntries r
def uptoBulkEntry {H : Type} : Lit × DataW H → Nat
  | (.string bytes, d) => bytes.length + uptoBulk d + 1
  | (_, d) => uptoBulk d + 1
 end
def uptoSmall : (H : Type) → List (DataW H) → Bool := fun _ ds => decide (uptoBulkAll ds ≤ 1048576)
def OpenSpec.upto (s : _root_.Go.ChangeSpec) : _root_.Go.OpenSpec := { _root_.Go.OpenSpec.ofChange s with cond := some uptoSmall }

/-- 'laws.FnNetText', WHERE WHAT IT READS IS OF BULK AT MOST 1048576: true; the input reads as it did. -/
def fnNetTextUptoRow : OpenClaim := { program := "ytbahjlgloilabaa", sum := "08c160ad21560397ef851006a3a99c77b89c8bbb2f84bf1a605d8182c990853c", func := "loop.example/guardsonnets/laws.FnNetText", spec := "fnNetText", recurses := true, apart := false, narrowed := true }
def FnNetTextUptoSaid : Prop := fnNetTextUptoRow.holds Try.pinned (OpenSpec.upto fnNetTextSpec)

/-- 'laws.FnExactNetText', WHERE WHAT IT READS IS OF BULK AT MOST 1048576: true; the input reads as it did. -/
def fnExactNetTextUptoRow : OpenClaim := { program := "ytbahjlgloilabaa", sum := "08c160ad21560397ef851006a3a99c77b89c8bbb2f84bf1a605d8182c990853c", func := "loop.example/guardsonnets/laws.FnExactNetText", spec := "fnExactNetText", recurses := true, apart := false, narrowed := true }
def FnExactNetTextUptoSaid : Prop := fnExactNetTextUptoRow.holds Try.pinned (OpenSpec.upto fnExactNetTextSpec)

/-- 'laws.FnNetRead', WHERE WHAT IT READS IS OF BULK AT MOST 1048576: true; the input reads as it did. -/
def fnNetReadUptoRow : OpenClaim := { program := "ytbahjlgloilabaa", sum := "08c160ad21560397ef851006a3a99c77b89c8bbb2f84bf1a605d8182c990853c", func := "loop.example/guardsonnets/laws.FnNetRead", spec := "fnNetRead", recurses := true, apart := false, narrowed := true }
def FnNetReadUptoSaid : Prop := fnNetReadUptoRow.holds Try.pinned (OpenSpec.upto fnNetReadSpec)

/-- 'laws.FnExactNetRead', WHERE WHAT IT READS IS OF BULK AT MOST 1048576: true; the input reads as it did. -/
def fnExactNetReadUptoRow : OpenClaim := { program := "ytbahjlgloilabaa", sum := "08c160ad21560397ef851006a3a99c77b89c8bbb2f84bf1a605d8182c990853c", func := "loop.example/guardsonnets/laws.FnExactNetRead", spec := "fnExactNetRead", recurses := true, apart := false, narrowed := true }
def FnExactNetReadUptoSaid : Prop := fnExactNetReadUptoRow.holds Try.pinned (OpenSpec.upto fnExactNetReadSpec)

/-- 'laws.FnNetBytes', WHERE WHAT IT READS IS OF BULK AT MOST 1048576: true; the input reads as it did. -/
def fnNetBytesUptoRow : OpenClaim := { program := "ytbahjlgloilabaa", sum := "08c160ad21560397ef851006a3a99c77b89c8bbb2f84bf1a605d8182c990853c", func := "loop.example/guardsonnets/laws.FnNetBytes", spec := "fnNetBytes", apart := false, narrowed := true }
def FnNetBytesUptoSaid : Prop := fnNetBytesUptoRow.holds Try.pinned (OpenSpec.upto fnNetBytesSpec)

/-- 'laws.FnExactNetBytes', WHERE WHAT IT READS IS OF BULK AT MOST 1048576: true; the input reads as it did. -/
def fnExactNetBytesUptoRow : OpenClaim := { program := "ytbahjlgloilabaa", sum := "08c160ad21560397ef851006a3a99c77b89c8bbb2f84bf1a605d8182c990853c", func := "loop.example/guardsonnets/laws.FnExactNetBytes", spec := "fnExactNetBytes", apart := false, narrowed := true }
def FnExactNetBytesUptoSaid : Prop := fnExactNetBytesUptoRow.holds Try.pinned (OpenSpec.upto fnExactNetBytesSpec)

/-- 'laws.FnNetFrom', WHERE WHAT IT READS IS OF BULK AT MOST 1048576: true; the input reads as it did. -/
def fnNetFromUptoRow : OpenClaim := { program := "ytbahjlgloilabaa", sum := "08c160ad21560397ef851006a3a99c77b89c8bbb2f84bf1a605d8182c990853c", func := "loop.example/guardsonnets/laws.FnNetFrom", spec := "fnNetFrom", apart := false, narrowed := true }
def FnNetFromUptoSaid : Prop := fnNetFromUptoRow.holds Try.pinned (OpenSpec.upto fnNetFromSpec)

/-- 'laws.FnExactNetFrom', WHERE WHAT IT READS IS OF BULK AT MOST 1048576: true; the input reads as it did. -/
def fnExactNetFromUptoRow : OpenClaim := { program := "ytbahjlgloilabaa", sum := "08c160ad21560397ef851006a3a99c77b89c8bbb2f84bf1a605d8182c990853c", func := "loop.example/guardsonnets/laws.FnExactNetFrom", spec := "fnExactNetFrom", apart := false, narrowed := true }
def FnExactNetFromUptoSaid : Prop := fnExactNetFromUptoRow.holds Try.pinned (OpenSpec.upto fnExactNetFromSpec)

end Rows
end Go.Proofs.Ytbahjlgloilabaa
