/-
  No cell of these rows narrows 'for every input' (looked for: loops, veiled, ifaces, maps, wideKeys, modest, calm, conditions, laid).
  DERIVED. THE GIVEN ROWS OF THIS SEAT. 12 by the template 'for every input the law returns true; each argument reads behind the call as it read before'; 0 by the template 'total and deterministic' (their statements: YtdkoofikeelhgaaTotals.lean).
  GIVEN WITH THE SEED: the statements are not yours to turn. If you find one false, say at which input.
  Laid BY PROGRAM, IN A SANDBOX (cutbox-rows.mjs): the forced cells as the released guide's own fill.sh prints them over the translation 65c0bf505aee3551… (all of the seat's roots in one cut). By AI agents, Wed Nov 11 2026. No macro, syntax, notation, axiom, sorry.
-/
import Derived.Test.YtdkoofikeelhgaaChecked
import GoSem.Claim
import GoSem.ClaimJoined
import GoSem.ClaimMapViews
import Derived.JoinedTies
import Derived.KernelRfl
namespace Go.Proofs.Ytdkoofikeelhgaa
/- THE CELL 'sum', in the pinned program and in every row, IS THE sha256 OF THE DUMP (.gsa) THAT YtdkoofikeelhgaaProg.lean LOADS. Nothing in Lean hashes anything: it is a label: what it is worth is what the hold of that sum in a sandbox is worth. -/
noncomputable def Try.pinned : Pinned := { name := "ytdkoofikeelhgaa", sum := "65c0bf505aee3551eb1493a4bb340551d4d1222da77d991385f3680c9e648e3c", checked := Try.checked }
namespace Rows
def none {H : Type} : Left H := { results := [], args := [] }

/-- 'laws.FnRomanOk': WHATEVER THE INPUT: true; the input reads as it did. -/
def fnRomanOkSpec : ChangeSpec := { name := "fnRomanOk", fn := fun _ => fun
  | [d] => { results := [.lit (.bool true)], args := [d] }
  | _ => none }
def fnRomanOkRow : OpenClaim := { program := "ytdkoofikeelhgaa", sum := "65c0bf505aee3551eb1493a4bb340551d4d1222da77d991385f3680c9e648e3c", func := "loop.example/guardsonnets/laws.FnRomanOk", spec := "fnRomanOk", apart := false }
def FnRomanOkSaid : Prop := fnRomanOkRow.holds Try.pinned (OpenSpec.ofChange fnRomanOkSpec)

/-- ITS FALSE NEIGHBOUR: 'it returns false'. Refute it at one input. -/
def fnRomanOkWrong : ChangeSpec := { name := "fnRomanOk", fn := fun _ => fun
  | [d] => { results := [.lit (.bool false)], args := [d] }
  | _ => none }
def FnRomanOkWrongFalsely : Prop := fnRomanOkRow.holds Try.pinned (OpenSpec.ofChange fnRomanOkWrong)

/-- 'laws.FnExactRomanOk': WHATEVER THE INPUT: true; the input reads as it did. -/
def fnExactRomanOkSpec : ChangeSpec := { name := "fnExactRomanOk", fn := fun _ => fun
  | [d1, d2] => { results := [.lit (.bool true)], args := [d1, d2] }
  | _ => none }
def fnExactRomanOkRow : OpenClaim := { program := "ytdkoofikeelhgaa", sum := "65c0bf505aee3551eb1493a4bb340551d4d1222da77d991385f3680c9e648e3c", func := "loop.example/guardsonnets/laws.FnExactRomanOk", spec := "fnExactRomanOk", apart := false }
def FnExactRomanOkSaid : Prop := fnExactRomanOkRow.holds Try.pinned (OpenSpec.ofChange fnExactRomanOkSpec)

/-- ITS FALSE NEIGHBOUR: 'it returns false'. Refute it at one input. -/
def fnExactRomanOkWrong : ChangeSpec := { name := "fnExactRomanOk", fn := fun _ => fun
  | [d1, d2] => { results := [.lit (.bool false)], args := [d1, d2] }
  | _ => none }
def FnExactRomanOkWrongFalsely : Prop := fnExactRomanOkRow.holds Try.pinned (OpenSpec.ofChange fnExactRomanOkWrong)

/-- 'laws.FnItalianOk': WHATEVER THE INPUT: true; the input reads as it did. -/
def fnItalianOkSpec : ChangeSpec := { name := "fnItalianOk", fn := fun _ => fun
  | [d] => { results := [.lit (.bool true)], args := [d] }
  | _ => none }
def fnItalianOkRow : OpenClaim := { program := "ytdkoofikeelhgaa", sum := "65c0bf505aee3551eb1493a4bb340551d4d1222da77d991385f3680c9e648e3c", func := "loop.example/guardsonnets/laws.FnItalianOk", spec := "fnItalianOk", apart := false }
def FnItalianOkSaid : Prop := fnItalianOkRow.holds Try.pinned (OpenSpec.ofChange fnItalianOkSpec)

/-- ITS FALSE NEIGHBOUR: 'it returns false'. Refute it at one input. -/
def fnItalianOkWrong : ChangeSpec := { name := "fnItalianOk", fn := fun _ => fun
  | [d] => { results := [.lit (.bool false)], args := [d] }
  | _ => none }
def FnItalianOkWrongFalsely : Prop := fnItalianOkRow.holds Try.pinned (OpenSpec.ofChange fnItalianOkWrong)

/-- 'laws.FnExactItalianOk': WHATEVER THE INPUT: true; the input reads as it did. -/
def fnExactItalianOkSpec : ChangeSpec := { name := "fnExactItalianOk", fn := fun _ => fun
  | [d1, d2] => { results := [.lit (.bool true)], args := [d1, d2] }
  | _ => none }
def fnExactItalianOkRow : OpenClaim := { program := "ytdkoofikeelhgaa", sum := "65c0bf505aee3551eb1493a4bb340551d4d1222da77d991385f3680c9e648e3c", func := "loop.example/guardsonnets/laws.FnExactItalianOk", spec := "fnExactItalianOk", apart := false }
def FnExactItalianOkSaid : Prop := fnExactItalianOkRow.holds Try.pinned (OpenSpec.ofChange fnExactItalianOkSpec)

/-- ITS FALSE NEIGHBOUR: 'it returns false'. Refute it at one input. -/
def fnExactItalianOkWrong : ChangeSpec := { name := "fnExactItalianOk", fn := fun _ => fun
  | [d1, d2] => { results := [.lit (.bool false)], args := [d1, d2] }
  | _ => none }
def FnExactItalianOkWrongFalsely : Prop := fnExactItalianOkRow.holds Try.pinned (OpenSpec.ofChange fnExactItalianOkWrong)

/-- 'laws.FnRomanRow': WHATEVER THE INPUT: true; the input reads as it did. -/
def fnRomanRowSpec : ChangeSpec := { name := "fnRomanRow", fn := fun _ => fun
  | [d] => { results := [.lit (.bool true)], args := [d] }
  | _ => none }
def fnRomanRowRow : OpenClaim := { program := "ytdkoofikeelhgaa", sum := "65c0bf505aee3551eb1493a4bb340551d4d1222da77d991385f3680c9e648e3c", func := "loop.example/guardsonnets/laws.FnRomanRow", spec := "fnRomanRow", apart := false }
def FnRomanRowSaid : Prop := fnRomanRowRow.holds Try.pinned (OpenSpec.ofChange fnRomanRowSpec)

/-- ITS FALSE NEIGHBOUR: 'it returns false'. Refute it at one input. -/
def fnRomanRowWrong : ChangeSpec := { name := "fnRomanRow", fn := fun _ => fun
  | [d] => { results := [.lit (.bool false)], args := [d] }
  | _ => none }
def FnRomanRowWrongFalsely : Prop := fnRomanRowRow.holds Try.pinned (OpenSpec.ofChange fnRomanRowWrong)

/-- 'laws.FnExactRomanRow': WHATEVER THE INPUT: true; the input reads as it did. -/
def fnExactRomanRowSpec : ChangeSpec := { name := "fnExactRomanRow", fn := fun _ => fun
  | [d] => { results := [.lit (.bool true)], args := [d] }
  | _ => none }
def fnExactRomanRowRow : OpenClaim := { program := "ytdkoofikeelhgaa", sum := "65c0bf505aee3551eb1493a4bb340551d4d1222da77d991385f3680c9e648e3c", func := "loop.example/guardsonnets/laws.FnExactRomanRow", spec := "fnExactRomanRow", apart := false }
def FnExactRomanRowSaid : Prop := fnExactRomanRowRow.holds Try.pinned (OpenSpec.ofChange fnExactRomanRowSpec)

/-- ITS FALSE NEIGHBOUR: 'it returns false'. Refute it at one input. -/
def fnExactRomanRowWrong : ChangeSpec := { name := "fnExactRomanRow", fn := fun _ => fun
  | [d] => { results := [.lit (.bool false)], args := [d] }
  | _ => none }
def FnExactRomanRowWrongFalsely : Prop := fnExactRomanRowRow.holds Try.pinned (OpenSpec.ofChange fnExactRomanRowWrong)

/-- 'laws.FnFewestRoman': WHATEVER THE INPUT: true; the input reads as it did. -/
def fnFewestRomanSpec : ChangeSpec := { name := "fnFewestRoman", fn := fun _ => fun
  | [d] => { results := [.lit (.bool true)], args := [d] }
  | _ => none }
def fnFewestRomanRow : OpenClaim := { program := "ytdkoofikeelhgaa", sum := "65c0bf505aee3551eb1493a4bb340551d4d1222da77d991385f3680c9e648e3c", func := "loop.example/guardsonnets/laws.FnFewestRoman", spec := "fnFewestRoman", apart := false }
def FnFewestRomanSaid : Prop := fnFewestRomanRow.holds Try.pinned (OpenSpec.ofChange fnFewestRomanSpec)

/-- ITS FALSE NEIGHBOUR: 'it returns false'. Refute it at one input. -/
def fnFewestRomanWrong : ChangeSpec := { name := "fnFewestRoman", fn := fun _ => fun
  | [d] => { results := [.lit (.bool false)], args := [d] }
  | _ => none }
def FnFewestRomanWrongFalsely : Prop := fnFewestRomanRow.holds Try.pinned (OpenSpec.ofChange fnFewestRomanWrong)

/-- 'laws.FnExactFewestRoman': WHATEVER THE INPUT: true; the input reads as it did. -/
def fnExactFewestRomanSpec : ChangeSpec := { name := "fnExactFewestRoman", fn := fun _ => fun
  | [d] => { results := [.lit (.bool true)], args := [d] }
  | _ => none }
def fnExactFewestRomanRow : OpenClaim := { program := "ytdkoofikeelhgaa", sum := "65c0bf505aee3551eb1493a4bb340551d4d1222da77d991385f3680c9e648e3c", func := "loop.example/guardsonnets/laws.FnExactFewestRoman", spec := "fnExactFewestRoman", apart := false }
def FnExactFewestRomanSaid : Prop := fnExactFewestRomanRow.holds Try.pinned (OpenSpec.ofChange fnExactFewestRomanSpec)

/-- ITS FALSE NEIGHBOUR: 'it returns false'. Refute it at one input. -/
def fnExactFewestRomanWrong : ChangeSpec := { name := "fnExactFewestRoman", fn := fun _ => fun
  | [d] => { results := [.lit (.bool false)], args := [d] }
  | _ => none }
def FnExactFewestRomanWrongFalsely : Prop := fnExactFewestRomanRow.holds Try.pinned (OpenSpec.ofChange fnExactFewestRomanWrong)

/-- 'laws.FnFewestItalian': WHATEVER THE INPUT: true; the input reads as it did. -/
def fnFewestItalianSpec : ChangeSpec := { name := "fnFewestItalian", fn := fun _ => fun
  | [d] => { results := [.lit (.bool true)], args := [d] }
  | _ => none }
def fnFewestItalianRow : OpenClaim := { program := "ytdkoofikeelhgaa", sum := "65c0bf505aee3551eb1493a4bb340551d4d1222da77d991385f3680c9e648e3c", func := "loop.example/guardsonnets/laws.FnFewestItalian", spec := "fnFewestItalian", apart := false }
def FnFewestItalianSaid : Prop := fnFewestItalianRow.holds Try.pinned (OpenSpec.ofChange fnFewestItalianSpec)

/-- ITS FALSE NEIGHBOUR: 'it returns false'. Refute it at one input. -/
def fnFewestItalianWrong : ChangeSpec := { name := "fnFewestItalian", fn := fun _ => fun
  | [d] => { results := [.lit (.bool false)], args := [d] }
  | _ => none }
def FnFewestItalianWrongFalsely : Prop := fnFewestItalianRow.holds Try.pinned (OpenSpec.ofChange fnFewestItalianWrong)

/-- 'laws.FnExactFewestItalian': WHATEVER THE INPUT: true; the input reads as it did. -/
def fnExactFewestItalianSpec : ChangeSpec := { name := "fnExactFewestItalian", fn := fun _ => fun
  | [d] => { results := [.lit (.bool true)], args := [d] }
  | _ => none }
def fnExactFewestItalianRow : OpenClaim := { program := "ytdkoofikeelhgaa", sum := "65c0bf505aee3551eb1493a4bb340551d4d1222da77d991385f3680c9e648e3c", func := "loop.example/guardsonnets/laws.FnExactFewestItalian", spec := "fnExactFewestItalian", apart := false }
def FnExactFewestItalianSaid : Prop := fnExactFewestItalianRow.holds Try.pinned (OpenSpec.ofChange fnExactFewestItalianSpec)

/-- ITS FALSE NEIGHBOUR: 'it returns false'. Refute it at one input. -/
def fnExactFewestItalianWrong : ChangeSpec := { name := "fnExactFewestItalian", fn := fun _ => fun
  | [d] => { results := [.lit (.bool false)], args := [d] }
  | _ => none }
def FnExactFewestItalianWrongFalsely : Prop := fnExactFewestItalianRow.holds Try.pinned (OpenSpec.ofChange fnExactFewestItalianWrong)

/-- 'laws.FnRowOfSet': WHATEVER THE INPUT: true; the input reads as it did. -/
def fnRowOfSetSpec : ChangeSpec := { name := "fnRowOfSet", fn := fun _ => fun
  | [d] => { results := [.lit (.bool true)], args := [d] }
  | _ => none }
def fnRowOfSetRow : OpenClaim := { program := "ytdkoofikeelhgaa", sum := "65c0bf505aee3551eb1493a4bb340551d4d1222da77d991385f3680c9e648e3c", func := "loop.example/guardsonnets/laws.FnRowOfSet", spec := "fnRowOfSet", apart := false }
def FnRowOfSetSaid : Prop := fnRowOfSetRow.holds Try.pinned (OpenSpec.ofChange fnRowOfSetSpec)

/-- ITS FALSE NEIGHBOUR: 'it returns false'. Refute it at one input. -/
def fnRowOfSetWrong : ChangeSpec := { name := "fnRowOfSet", fn := fun _ => fun
  | [d] => { results := [.lit (.bool false)], args := [d] }
  | _ => none }
def FnRowOfSetWrongFalsely : Prop := fnRowOfSetRow.holds Try.pinned (OpenSpec.ofChange fnRowOfSetWrong)

/-- 'laws.FnExactRowOfSet': WHATEVER THE INPUT: true; the input reads as it did. -/
def fnExactRowOfSetSpec : ChangeSpec := { name := "fnExactRowOfSet", fn := fun _ => fun
  | [d1, d2] => { results := [.lit (.bool true)], args := [d1, d2] }
  | _ => none }
def fnExactRowOfSetRow : OpenClaim := { program := "ytdkoofikeelhgaa", sum := "65c0bf505aee3551eb1493a4bb340551d4d1222da77d991385f3680c9e648e3c", func := "loop.example/guardsonnets/laws.FnExactRowOfSet", spec := "fnExactRowOfSet", apart := false }
def FnExactRowOfSetSaid : Prop := fnExactRowOfSetRow.holds Try.pinned (OpenSpec.ofChange fnExactRowOfSetSpec)

/-- ITS FALSE NEIGHBOUR: 'it returns false'. Refute it at one input. -/
def fnExactRowOfSetWrong : ChangeSpec := { name := "fnExactRowOfSet", fn := fun _ => fun
  | [d1, d2] => { results := [.lit (.bool false)], args := [d1, d2] }
  | _ => none }
def FnExactRowOfSetWrongFalsely : Prop := fnExactRowOfSetRow.holds Try.pinned (OpenSpec.ofChange fnExactRowOfSetWrong)

/- THE SECOND FORM. 'bulk': how many values and letters a reading holds, each counted each time it is reached (what is shared counts as often as it is met; a slice's spare places count too). A statement '..UptoSaid' is the law's where the arguments, and the package variables that the reading takes, are together of bulk at most 1048576: NARROWER than '..Said'. Prove '..Said' where nothing that the law and all that it calls make is longer than what came in: it says more and counts as full. Else prove '..UptoSaid'. A law counts once. -/
mutual
def uptoBulk {H : Type} : DataW H → Nat
  | .lit (.string bytes) => bytes.length + 1
  | .lit _ => 1
  | .nil => 1
  | .ptr d => uptoBulk d + 1
  | .slice elems spare => uptoBulkAll elems + uptoBulkAll spare + 1
  | .agg parts => uptoBulkAll parts + 1
  | .iface _ d => uptoBulk d + 1
  | .map entries => uptoBulkEntries entries + 1
  | .held _ => 1
def uptoBulkAll {H : Type} : List (DataW H) → Nat
  | [] => 0
  | d :: r => uptoBulk d + uptoBulkAll r
def uptoBulkEntries {H : Type} : List (Lit × DataW H) → Nat
  | [] => 0
  | x :: r => uptoBulkEntry x + uptoBulkEntries r
def uptoBulkEntry {H : Type} : Lit × DataW H → Nat
  | (.string bytes, d) => bytes.length + uptoBulk d + 1
  | (_, d) => uptoBulk d + 1
 end
def uptoSmall : (H : Type) → List (DataW H) → Bool := fun _ ds => decide (uptoBulkAll ds ≤ 1048576)
def OpenSpec.upto (s : _root_.Go.ChangeSpec) : _root_.Go.OpenSpec := { _root_.Go.OpenSpec.ofChange s with cond := some uptoSmall }

/-- 'laws.FnRomanOk', WHERE WHAT IT READS IS OF BULK AT MOST 1048576: true; the input reads as it did. -/
def fnRomanOkUptoRow : OpenClaim := { program := "ytdkoofikeelhgaa", sum := "65c0bf505aee3551eb1493a4bb340551d4d1222da77d991385f3680c9e648e3c", func := "loop.example/guardsonnets/laws.FnRomanOk", spec := "fnRomanOk", apart := false, narrowed := true }
def FnRomanOkUptoSaid : Prop := fnRomanOkUptoRow.holds Try.pinned (OpenSpec.upto fnRomanOkSpec)

/-- 'laws.FnExactRomanOk', WHERE WHAT IT READS IS OF BULK AT MOST 1048576: true; the input reads as it did. -/
def fnExactRomanOkUptoRow : OpenClaim := { program := "ytdkoofikeelhgaa", sum := "65c0bf505aee3551eb1493a4bb340551d4d1222da77d991385f3680c9e648e3c", func := "loop.example/guardsonnets/laws.FnExactRomanOk", spec := "fnExactRomanOk", apart := false, narrowed := true }
def FnExactRomanOkUptoSaid : Prop := fnExactRomanOkUptoRow.holds Try.pinned (OpenSpec.upto fnExactRomanOkSpec)

/-- 'laws.FnItalianOk', WHERE WHAT IT READS IS OF BULK AT MOST 1048576: true; the input reads as it did. -/
def fnItalianOkUptoRow : OpenClaim := { program := "ytdkoofikeelhgaa", sum := "65c0bf505aee3551eb1493a4bb340551d4d1222da77d991385f3680c9e648e3c", func := "loop.example/guardsonnets/laws.FnItalianOk", spec := "fnItalianOk", apart := false, narrowed := true }
def FnItalianOkUptoSaid : Prop := fnItalianOkUptoRow.holds Try.pinned (OpenSpec.upto fnItalianOkSpec)

/-- 'laws.FnExactItalianOk', WHERE WHAT IT READS IS OF BULK AT MOST 1048576: true; the input reads as it did. -/
def fnExactItalianOkUptoRow : OpenClaim := { program := "ytdkoofikeelhgaa", sum := "65c0bf505aee3551eb1493a4bb340551d4d1222da77d991385f3680c9e648e3c", func := "loop.example/guardsonnets/laws.FnExactItalianOk", spec := "fnExactItalianOk", apart := false, narrowed := true }
def FnExactItalianOkUptoSaid : Prop := fnExactItalianOkUptoRow.holds Try.pinned (OpenSpec.upto fnExactItalianOkSpec)

/-- 'laws.FnRomanRow', WHERE WHAT IT READS IS OF BULK AT MOST 1048576: true; the input reads as it did. -/
def fnRomanRowUptoRow : OpenClaim := { program := "ytdkoofikeelhgaa", sum := "65c0bf505aee3551eb1493a4bb340551d4d1222da77d991385f3680c9e648e3c", func := "loop.example/guardsonnets/laws.FnRomanRow", spec := "fnRomanRow", apart := false, narrowed := true }
def FnRomanRowUptoSaid : Prop := fnRomanRowUptoRow.holds Try.pinned (OpenSpec.upto fnRomanRowSpec)

/-- 'laws.FnExactRomanRow', WHERE WHAT IT READS IS OF BULK AT MOST 1048576: true; the input reads as it did. -/
def fnExactRomanRowUptoRow : OpenClaim := { program := "ytdkoofikeelhgaa", sum := "65c0bf505aee3551eb1493a4bb340551d4d1222da77d991385f3680c9e648e3c", func := "loop.example/guardsonnets/laws.FnExactRomanRow", spec := "fnExactRomanRow", apart := false, narrowed := true }
def FnExactRomanRowUptoSaid : Prop := fnExactRomanRowUptoRow.holds Try.pinned (OpenSpec.upto fnExactRomanRowSpec)

/-- 'laws.FnFewestRoman', WHERE WHAT IT READS IS OF BULK AT MOST 1048576: true; the input reads as it did. -/
def fnFewestRomanUptoRow : OpenClaim := { program := "ytdkoofikeelhgaa", sum := "65c0bf505aee3551eb1493a4bb340551d4d1222da77d991385f3680c9e648e3c", func := "loop.example/guardsonnets/laws.FnFewestRoman", spec := "fnFewestRoman", apart := false, narrowed := true }
def FnFewestRomanUptoSaid : Prop := fnFewestRomanUptoRow.holds Try.pinned (OpenSpec.upto fnFewestRomanSpec)

/-- 'laws.FnExactFewestRoman', WHERE WHAT IT READS IS OF BULK AT MOST 1048576: true; the input reads as it did. -/
def fnExactFewestRomanUptoRow : OpenClaim := { program := "ytdkoofikeelhgaa", sum := "65c0bf505aee3551eb1493a4bb340551d4d1222da77d991385f3680c9e648e3c", func := "loop.example/guardsonnets/laws.FnExactFewestRoman", spec := "fnExactFewestRoman", apart := false, narrowed := true }
def FnExactFewestRomanUptoSaid : Prop := fnExactFewestRomanUptoRow.holds Try.pinned (OpenSpec.upto fnExactFewestRomanSpec)

/-- 'laws.FnFewestItalian', WHERE WHAT IT READS IS OF BULK AT MOST 1048576: true; the input reads as it did. -/
def fnFewestItalianUptoRow : OpenClaim := { program := "ytdkoofikeelhgaa", sum := "65c0bf505aee3551eb1493a4bb340551d4d1222da77d991385f3680c9e648e3c", func := "loop.example/guardsonnets/laws.FnFewestItalian", spec := "fnFewestItalian", apart := false, narrowed := true }
def FnFewestItalianUptoSaid : Prop := fnFewestItalianUptoRow.holds Try.pinned (OpenSpec.upto fnFewestItalianSpec)

/-- 'laws.FnExactFewestItalian', WHERE WHAT IT READS IS OF BULK AT MOST 1048576: true; the input reads as it did. -/
def fnExactFewestItalianUptoRow : OpenClaim := { program := "ytdkoofikeelhgaa", sum := "65c0bf505aee3551eb1493a4bb340551d4d1222da77d991385f3680c9e648e3c", func := "loop.example/guardsonnets/laws.FnExactFewestItalian", spec := "fnExactFewestItalian", apart := false, narrowed := true }
def FnExactFewestItalianUptoSaid : Prop := fnExactFewestItalianUptoRow.holds Try.pinned (OpenSpec.upto fnExactFewestItalianSpec)

/-- 'laws.FnRowOfSet', WHERE WHAT IT READS IS OF BULK AT MOST 1048576: true; the input reads as it did. -/
def fnRowOfSetUptoRow : OpenClaim := { program := "ytdkoofikeelhgaa", sum := "65c0bf505aee3551eb1493a4bb340551d4d1222da77d991385f3680c9e648e3c", func := "loop.example/guardsonnets/laws.FnRowOfSet", spec := "fnRowOfSet", apart := false, narrowed := true }
def FnRowOfSetUptoSaid : Prop := fnRowOfSetUptoRow.holds Try.pinned (OpenSpec.upto fnRowOfSetSpec)

/-- 'laws.FnExactRowOfSet', WHERE WHAT IT READS IS OF BULK AT MOST 1048576: true; the input reads as it did. -/
def fnExactRowOfSetUptoRow : OpenClaim := { program := "ytdkoofikeelhgaa", sum := "65c0bf505aee3551eb1493a4bb340551d4d1222da77d991385f3680c9e648e3c", func := "loop.example/guardsonnets/laws.FnExactRowOfSet", spec := "fnExactRowOfSet", apart := false, narrowed := true }
def FnExactRowOfSetUptoSaid : Prop := fnExactRowOfSetUptoRow.holds Try.pinned (OpenSpec.upto fnExactRowOfSetSpec)

end Rows
end Go.Proofs.Ytdkoofikeelhgaa
