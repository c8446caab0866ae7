/-
  No cell of these rows narrows 'for every input' (looked for: loops, veiled, ifaces, maps, wideKeys, modest, calm, conditions, laid).
  DERIVED. THE GIVEN ROWS OF THIS SEAT. 12 by the template 'for every input the law returns true; each argument reads behind the call as it read before'; 0 by the template 'total and deterministic' (their statements: YtcfajdlkfpdonaaTotals.lean).
  GIVEN WITH THE SEED: the statements are not yours to turn. If you find one false, say at which input.
  Laid BY PROGRAM, IN A SANDBOX (cutbox-rows.mjs): the forced cells as the released guide's own fill.sh prints them over the translation 9da9ba6ac0660663… (all of the seat's roots in one cut). By AI agents, Wed Nov 11 2026. No macro, syntax, notation, axiom, sorry.
-/
import Derived.Test.YtcfajdlkfpdonaaChecked
import GoSem.Claim
import GoSem.ClaimJoined
import GoSem.ClaimMapViews
import Derived.JoinedTies
import Derived.KernelRfl
namespace Go.Proofs.Ytcfajdlkfpdonaa
/- THE CELL 'sum', in the pinned program and in every row, IS THE sha256 OF THE DUMP (.gsa) THAT YtcfajdlkfpdonaaProg.lean LOADS. Nothing in Lean hashes anything: it is a label: what it is worth is what the hold of that sum in a sandbox is worth. -/
noncomputable def Try.pinned : Pinned := { name := "ytcfajdlkfpdonaa", sum := "9da9ba6ac06606631b633a660e983b69d3947e8e20757b69ecd3296900b88ed3", checked := Try.checked }
namespace Rows
def none {H : Type} : Left H := { results := [], args := [] }

/-- 'laws.FnCliqueOk': WHATEVER THE INPUT: true; the input reads as it did. -/
def fnCliqueOkSpec : ChangeSpec := { name := "fnCliqueOk", fn := fun _ => fun
  | [d] => { results := [.lit (.bool true)], args := [d] }
  | _ => none }
def fnCliqueOkRow : OpenClaim := { program := "ytcfajdlkfpdonaa", sum := "9da9ba6ac06606631b633a660e983b69d3947e8e20757b69ecd3296900b88ed3", func := "loop.example/guardsonnets/laws.FnCliqueOk", spec := "fnCliqueOk", apart := false }
def FnCliqueOkSaid : Prop := fnCliqueOkRow.holds Try.pinned (OpenSpec.ofChange fnCliqueOkSpec)

/-- ITS FALSE NEIGHBOUR: 'it returns false'. Refute it at one input. -/
def fnCliqueOkWrong : ChangeSpec := { name := "fnCliqueOk", fn := fun _ => fun
  | [d] => { results := [.lit (.bool false)], args := [d] }
  | _ => none }
def FnCliqueOkWrongFalsely : Prop := fnCliqueOkRow.holds Try.pinned (OpenSpec.ofChange fnCliqueOkWrong)

/-- 'laws.FnExactCliqueOk': WHATEVER THE INPUT: true; the input reads as it did. -/
def fnExactCliqueOkSpec : ChangeSpec := { name := "fnExactCliqueOk", fn := fun _ => fun
  | [d1, d2] => { results := [.lit (.bool true)], args := [d1, d2] }
  | _ => none }
def fnExactCliqueOkRow : OpenClaim := { program := "ytcfajdlkfpdonaa", sum := "9da9ba6ac06606631b633a660e983b69d3947e8e20757b69ecd3296900b88ed3", func := "loop.example/guardsonnets/laws.FnExactCliqueOk", spec := "fnExactCliqueOk", apart := false }
def FnExactCliqueOkSaid : Prop := fnExactCliqueOkRow.holds Try.pinned (OpenSpec.ofChange fnExactCliqueOkSpec)

/-- ITS FALSE NEIGHBOUR: 'it returns false'. Refute it at one input. -/
def fnExactCliqueOkWrong : ChangeSpec := { name := "fnExactCliqueOk", fn := fun _ => fun
  | [d1, d2] => { results := [.lit (.bool false)], args := [d1, d2] }
  | _ => none }
def FnExactCliqueOkWrongFalsely : Prop := fnExactCliqueOkRow.holds Try.pinned (OpenSpec.ofChange fnExactCliqueOkWrong)

/-- 'laws.FnMostClique': WHATEVER THE INPUT: true; the input reads as it did. -/
def fnMostCliqueSpec : ChangeSpec := { name := "fnMostClique", fn := fun _ => fun
  | [d] => { results := [.lit (.bool true)], args := [d] }
  | _ => none }
def fnMostCliqueRow : OpenClaim := { program := "ytcfajdlkfpdonaa", sum := "9da9ba6ac06606631b633a660e983b69d3947e8e20757b69ecd3296900b88ed3", func := "loop.example/guardsonnets/laws.FnMostClique", spec := "fnMostClique", apart := false }
def FnMostCliqueSaid : Prop := fnMostCliqueRow.holds Try.pinned (OpenSpec.ofChange fnMostCliqueSpec)

/-- ITS FALSE NEIGHBOUR: 'it returns false'. Refute it at one input. -/
def fnMostCliqueWrong : ChangeSpec := { name := "fnMostClique", fn := fun _ => fun
  | [d] => { results := [.lit (.bool false)], args := [d] }
  | _ => none }
def FnMostCliqueWrongFalsely : Prop := fnMostCliqueRow.holds Try.pinned (OpenSpec.ofChange fnMostCliqueWrong)

/-- 'laws.FnExactMostClique': WHATEVER THE INPUT: true; the input reads as it did. -/
def fnExactMostCliqueSpec : ChangeSpec := { name := "fnExactMostClique", fn := fun _ => fun
  | [d] => { results := [.lit (.bool true)], args := [d] }
  | _ => none }
def fnExactMostCliqueRow : OpenClaim := { program := "ytcfajdlkfpdonaa", sum := "9da9ba6ac06606631b633a660e983b69d3947e8e20757b69ecd3296900b88ed3", func := "loop.example/guardsonnets/laws.FnExactMostClique", spec := "fnExactMostClique", apart := false }
def FnExactMostCliqueSaid : Prop := fnExactMostCliqueRow.holds Try.pinned (OpenSpec.ofChange fnExactMostCliqueSpec)

/-- ITS FALSE NEIGHBOUR: 'it returns false'. Refute it at one input. -/
def fnExactMostCliqueWrong : ChangeSpec := { name := "fnExactMostClique", fn := fun _ => fun
  | [d] => { results := [.lit (.bool false)], args := [d] }
  | _ => none }
def FnExactMostCliqueWrongFalsely : Prop := fnExactMostCliqueRow.holds Try.pinned (OpenSpec.ofChange fnExactMostCliqueWrong)

/-- 'laws.FnCliqueRowOk': WHATEVER THE INPUT: true; the input reads as it did. -/
def fnCliqueRowOkSpec : ChangeSpec := { name := "fnCliqueRowOk", fn := fun _ => fun
  | [d] => { results := [.lit (.bool true)], args := [d] }
  | _ => none }
def fnCliqueRowOkRow : OpenClaim := { program := "ytcfajdlkfpdonaa", sum := "9da9ba6ac06606631b633a660e983b69d3947e8e20757b69ecd3296900b88ed3", func := "loop.example/guardsonnets/laws.FnCliqueRowOk", spec := "fnCliqueRowOk", apart := false }
def FnCliqueRowOkSaid : Prop := fnCliqueRowOkRow.holds Try.pinned (OpenSpec.ofChange fnCliqueRowOkSpec)

/-- ITS FALSE NEIGHBOUR: 'it returns false'. Refute it at one input. -/
def fnCliqueRowOkWrong : ChangeSpec := { name := "fnCliqueRowOk", fn := fun _ => fun
  | [d] => { results := [.lit (.bool false)], args := [d] }
  | _ => none }
def FnCliqueRowOkWrongFalsely : Prop := fnCliqueRowOkRow.holds Try.pinned (OpenSpec.ofChange fnCliqueRowOkWrong)

/-- 'laws.FnExactCliqueRowOk': WHATEVER THE INPUT: true; the input reads as it did. -/
def fnExactCliqueRowOkSpec : ChangeSpec := { name := "fnExactCliqueRowOk", fn := fun _ => fun
  | [d1, d2] => { results := [.lit (.bool true)], args := [d1, d2] }
  | _ => none }
def fnExactCliqueRowOkRow : OpenClaim := { program := "ytcfajdlkfpdonaa", sum := "9da9ba6ac06606631b633a660e983b69d3947e8e20757b69ecd3296900b88ed3", func := "loop.example/guardsonnets/laws.FnExactCliqueRowOk", spec := "fnExactCliqueRowOk", apart := false }
def FnExactCliqueRowOkSaid : Prop := fnExactCliqueRowOkRow.holds Try.pinned (OpenSpec.ofChange fnExactCliqueRowOkSpec)

/-- ITS FALSE NEIGHBOUR: 'it returns false'. Refute it at one input. -/
def fnExactCliqueRowOkWrong : ChangeSpec := { name := "fnExactCliqueRowOk", fn := fun _ => fun
  | [d1, d2] => { results := [.lit (.bool false)], args := [d1, d2] }
  | _ => none }
def FnExactCliqueRowOkWrongFalsely : Prop := fnExactCliqueRowOkRow.holds Try.pinned (OpenSpec.ofChange fnExactCliqueRowOkWrong)

/-- 'laws.FnCliqueRow': WHATEVER THE INPUT: true; the input reads as it did. -/
def fnCliqueRowSpec : ChangeSpec := { name := "fnCliqueRow", fn := fun _ => fun
  | [d] => { results := [.lit (.bool true)], args := [d] }
  | _ => none }
def fnCliqueRowRow : OpenClaim := { program := "ytcfajdlkfpdonaa", sum := "9da9ba6ac06606631b633a660e983b69d3947e8e20757b69ecd3296900b88ed3", func := "loop.example/guardsonnets/laws.FnCliqueRow", spec := "fnCliqueRow", recurses := true, apart := false }
def FnCliqueRowSaid : Prop := fnCliqueRowRow.holds Try.pinned (OpenSpec.ofChange fnCliqueRowSpec)

/-- ITS FALSE NEIGHBOUR: 'it returns false'. Refute it at one input. -/
def fnCliqueRowWrong : ChangeSpec := { name := "fnCliqueRow", fn := fun _ => fun
  | [d] => { results := [.lit (.bool false)], args := [d] }
  | _ => none }
def FnCliqueRowWrongFalsely : Prop := fnCliqueRowRow.holds Try.pinned (OpenSpec.ofChange fnCliqueRowWrong)

/-- 'laws.FnExactCliqueRow': WHATEVER THE INPUT: true; the input reads as it did. -/
def fnExactCliqueRowSpec : ChangeSpec := { name := "fnExactCliqueRow", fn := fun _ => fun
  | [d] => { results := [.lit (.bool true)], args := [d] }
  | _ => none }
def fnExactCliqueRowRow : OpenClaim := { program := "ytcfajdlkfpdonaa", sum := "9da9ba6ac06606631b633a660e983b69d3947e8e20757b69ecd3296900b88ed3", func := "loop.example/guardsonnets/laws.FnExactCliqueRow", spec := "fnExactCliqueRow", recurses := true, apart := false }
def FnExactCliqueRowSaid : Prop := fnExactCliqueRowRow.holds Try.pinned (OpenSpec.ofChange fnExactCliqueRowSpec)

/-- ITS FALSE NEIGHBOUR: 'it returns false'. Refute it at one input. -/
def fnExactCliqueRowWrong : ChangeSpec := { name := "fnExactCliqueRow", fn := fun _ => fun
  | [d] => { results := [.lit (.bool false)], args := [d] }
  | _ => none }
def FnExactCliqueRowWrongFalsely : Prop := fnExactCliqueRowRow.holds Try.pinned (OpenSpec.ofChange fnExactCliqueRowWrong)

/-- 'laws.FnOtherNet': WHATEVER THE INPUT: true; the input reads as it did. -/
def fnOtherNetSpec : ChangeSpec := { name := "fnOtherNet", fn := fun _ => fun
  | [d] => { results := [.lit (.bool true)], args := [d] }
  | _ => none }
def fnOtherNetRow : OpenClaim := { program := "ytcfajdlkfpdonaa", sum := "9da9ba6ac06606631b633a660e983b69d3947e8e20757b69ecd3296900b88ed3", func := "loop.example/guardsonnets/laws.FnOtherNet", spec := "fnOtherNet", apart := false }
def FnOtherNetSaid : Prop := fnOtherNetRow.holds Try.pinned (OpenSpec.ofChange fnOtherNetSpec)

/-- ITS FALSE NEIGHBOUR: 'it returns false'. Refute it at one input. -/
def fnOtherNetWrong : ChangeSpec := { name := "fnOtherNet", fn := fun _ => fun
  | [d] => { results := [.lit (.bool false)], args := [d] }
  | _ => none }
def FnOtherNetWrongFalsely : Prop := fnOtherNetRow.holds Try.pinned (OpenSpec.ofChange fnOtherNetWrong)

/-- 'laws.FnExactOtherNet': WHATEVER THE INPUT: true; the input reads as it did. -/
def fnExactOtherNetSpec : ChangeSpec := { name := "fnExactOtherNet", fn := fun _ => fun
  | [d] => { results := [.lit (.bool true)], args := [d] }
  | _ => none }
def fnExactOtherNetRow : OpenClaim := { program := "ytcfajdlkfpdonaa", sum := "9da9ba6ac06606631b633a660e983b69d3947e8e20757b69ecd3296900b88ed3", func := "loop.example/guardsonnets/laws.FnExactOtherNet", spec := "fnExactOtherNet", apart := false }
def FnExactOtherNetSaid : Prop := fnExactOtherNetRow.holds Try.pinned (OpenSpec.ofChange fnExactOtherNetSpec)

/-- ITS FALSE NEIGHBOUR: 'it returns false'. Refute it at one input. -/
def fnExactOtherNetWrong : ChangeSpec := { name := "fnExactOtherNet", fn := fun _ => fun
  | [d] => { results := [.lit (.bool false)], args := [d] }
  | _ => none }
def FnExactOtherNetWrongFalsely : Prop := fnExactOtherNetRow.holds Try.pinned (OpenSpec.ofChange fnExactOtherNetWrong)

/-- 'laws.FnPlayMay': WHATEVER THE INPUT: true; the input reads as it did. -/
def fnPlayMaySpec : ChangeSpec := { name := "fnPlayMay", fn := fun _ => fun
  | [d] => { results := [.lit (.bool true)], args := [d] }
  | _ => none }
def fnPlayMayRow : OpenClaim := { program := "ytcfajdlkfpdonaa", sum := "9da9ba6ac06606631b633a660e983b69d3947e8e20757b69ecd3296900b88ed3", func := "loop.example/guardsonnets/laws.FnPlayMay", spec := "fnPlayMay", apart := false }
def FnPlayMaySaid : Prop := fnPlayMayRow.holds Try.pinned (OpenSpec.ofChange fnPlayMaySpec)

/-- ITS FALSE NEIGHBOUR: 'it returns false'. Refute it at one input. -/
def fnPlayMayWrong : ChangeSpec := { name := "fnPlayMay", fn := fun _ => fun
  | [d] => { results := [.lit (.bool false)], args := [d] }
  | _ => none }
def FnPlayMayWrongFalsely : Prop := fnPlayMayRow.holds Try.pinned (OpenSpec.ofChange fnPlayMayWrong)

/-- 'laws.FnExactPlayMay': WHATEVER THE INPUT: true; the input reads as it did. -/
def fnExactPlayMaySpec : ChangeSpec := { name := "fnExactPlayMay", fn := fun _ => fun
  | [d1, d2, d3] => { results := [.lit (.bool true)], args := [d1, d2, d3] }
  | _ => none }
def fnExactPlayMayRow : OpenClaim := { program := "ytcfajdlkfpdonaa", sum := "9da9ba6ac06606631b633a660e983b69d3947e8e20757b69ecd3296900b88ed3", func := "loop.example/guardsonnets/laws.FnExactPlayMay", spec := "fnExactPlayMay", apart := false }
def FnExactPlayMaySaid : Prop := fnExactPlayMayRow.holds Try.pinned (OpenSpec.ofChange fnExactPlayMaySpec)

/-- ITS FALSE NEIGHBOUR: 'it returns false'. Refute it at one input. -/
def fnExactPlayMayWrong : ChangeSpec := { name := "fnExactPlayMay", fn := fun _ => fun
  | [d1, d2, d3] => { results := [.lit (.bool false)], args := [d1, d2, d3] }
  | _ => none }
def FnExactPlayMayWrongFalsely : Prop := fnExactPlayMayRow.holds Try.pinned (OpenSpec.ofChange fnExactPlayMayWrong)

/- THE SECOND FORM. 'bulk': how many values and letters a reading holds, each counted each time it is reached (what is shared counts as often as it is met; a slice's spare places count too). A statement '..UptoSaid' is the law's where the arguments, and the package variables that the reading takes, are together of bulk at most 1048576: NARROWER than '..Said'. Prove '..Said' where nothing that the law and all that it calls make is longer than what came in: it says more and counts as full. Else prove '..UptoSaid'. A law counts once. -/
mutual
def uptoBulk {H : Type} : DataW H → Nat
  | .lit (.string bytes) => bytes.length + 1
  | .lit _ => 1
  | .nil => 1
  | .ptr d => uptoBulk d + 1
  | .slice elems spare => uptoBulkAll elems + uptoBulkAll spare + 1
  | .agg parts => uptoBulkAll parts + 1
  | .iface _ d => uptoBulk d + 1
  | .map entries => uptoBulkEntries entries + 1
  | .held _ => 1
def uptoBulkAll {H : Type} : List (DataW H) → Nat
  | [] => 0
  | d :: r => uptoBulk d + uptoBulkAll r
def uptoBulkEntries {H : Type} : List (Lit × DataW H) → Nat
  | [] => 0
  | x :: r => uptoBulkEntry x + uptoBulkEntries r
def uptoBulkEntry {H : Type} : Lit × DataW H → Nat
  | (.string bytes, d) => bytes.length + uptoBulk d + 1
  | (_, d) => uptoBulk d + 1
 end
def uptoSmall : (H : Type) → List (DataW H) → Bool := fun _ ds => decide (uptoBulkAll ds ≤ 1048576)
def OpenSpec.upto (s : _root_.Go.ChangeSpec) : _root_.Go.OpenSpec := { _root_.Go.OpenSpec.ofChange s with cond := some uptoSmall }

/-- 'laws.FnCliqueOk', WHERE WHAT IT READS IS OF BULK AT MOST 1048576: true; the input reads as it did. -/
def fnCliqueOkUptoRow : OpenClaim := { program := "ytcfajdlkfpdonaa", sum := "9da9ba6ac06606631b633a660e983b69d3947e8e20757b69ecd3296900b88ed3", func := "loop.example/guardsonnets/laws.FnCliqueOk", spec := "fnCliqueOk", apart := false, narrowed := true }
def FnCliqueOkUptoSaid : Prop := fnCliqueOkUptoRow.holds Try.pinned (OpenSpec.upto fnCliqueOkSpec)

/-- 'laws.FnExactCliqueOk', WHERE WHAT IT READS IS OF BULK AT MOST 1048576: true; the input reads as it did. -/
def fnExactCliqueOkUptoRow : OpenClaim := { program := "ytcfajdlkfpdonaa", sum := "9da9ba6ac06606631b633a660e983b69d3947e8e20757b69ecd3296900b88ed3", func := "loop.example/guardsonnets/laws.FnExactCliqueOk", spec := "fnExactCliqueOk", apart := false, narrowed := true }
def FnExactCliqueOkUptoSaid : Prop := fnExactCliqueOkUptoRow.holds Try.pinned (OpenSpec.upto fnExactCliqueOkSpec)

/-- 'laws.FnMostClique', WHERE WHAT IT READS IS OF BULK AT MOST 1048576: true; the input reads as it did. -/
def fnMostCliqueUptoRow : OpenClaim := { program := "ytcfajdlkfpdonaa", sum := "9da9ba6ac06606631b633a660e983b69d3947e8e20757b69ecd3296900b88ed3", func := "loop.example/guardsonnets/laws.FnMostClique", spec := "fnMostClique", apart := false, narrowed := true }
def FnMostCliqueUptoSaid : Prop := fnMostCliqueUptoRow.holds Try.pinned (OpenSpec.upto fnMostCliqueSpec)

/-- 'laws.FnExactMostClique', WHERE WHAT IT READS IS OF BULK AT MOST 1048576: true; the input reads as it did. -/
def fnExactMostCliqueUptoRow : OpenClaim := { program := "ytcfajdlkfpdonaa", sum := "9da9ba6ac06606631b633a660e983b69d3947e8e20757b69ecd3296900b88ed3", func := "loop.example/guardsonnets/laws.FnExactMostClique", spec := "fnExactMostClique", apart := false, narrowed := true }
def FnExactMostCliqueUptoSaid : Prop := fnExactMostCliqueUptoRow.holds Try.pinned (OpenSpec.upto fnExactMostCliqueSpec)

/-- 'laws.FnCliqueRowOk', WHERE WHAT IT READS IS OF BULK AT MOST 1048576: true; the input reads as it did. -/
def fnCliqueRowOkUptoRow : OpenClaim := { program := "ytcfajdlkfpdonaa", sum := "9da9ba6ac06606631b633a660e983b69d3947e8e20757b69ecd3296900b88ed3", func := "loop.example/guardsonnets/laws.FnCliqueRowOk", spec := "fnCliqueRowOk", apart := false, narrowed := true }
def FnCliqueRowOkUptoSaid : Prop := fnCliqueRowOkUptoRow.holds Try.pinned (OpenSpec.upto fnCliqueRowOkSpec)

/-- 'laws.FnExactCliqueRowOk', WHERE WHAT IT READS IS OF BULK AT MOST 1048576: true; the input reads as it did. -/
def fnExactCliqueRowOkUptoRow : OpenClaim := { program := "ytcfajdlkfpdonaa", sum := "9da9ba6ac06606631b633a660e983b69d3947e8e20757b69ecd3296900b88ed3", func := "loop.example/guardsonnets/laws.FnExactCliqueRowOk", spec := "fnExactCliqueRowOk", apart := false, narrowed := true }
def FnExactCliqueRowOkUptoSaid : Prop := fnExactCliqueRowOkUptoRow.holds Try.pinned (OpenSpec.upto fnExactCliqueRowOkSpec)

/-- 'laws.FnCliqueRow', WHERE WHAT IT READS IS OF BULK AT MOST 1048576: true; the input reads as it did. -/
def fnCliqueRowUptoRow : OpenClaim := { program := "ytcfajdlkfpdonaa", sum := "9da9ba6ac06606631b633a660e983b69d3947e8e20757b69ecd3296900b88ed3", func := "loop.example/guardsonnets/laws.FnCliqueRow", spec := "fnCliqueRow", recurses := true, apart := false, narrowed := true }
def FnCliqueRowUptoSaid : Prop := fnCliqueRowUptoRow.holds Try.pinned (OpenSpec.upto fnCliqueRowSpec)

/-- 'laws.FnExactCliqueRow', WHERE WHAT IT READS IS OF BULK AT MOST 1048576: true; the input reads as it did. -/
def fnExactCliqueRowUptoRow : OpenClaim := { program := "ytcfajdlkfpdonaa", sum := "9da9ba6ac06606631b633a660e983b69d3947e8e20757b69ecd3296900b88ed3", func := "loop.example/guardsonnets/laws.FnExactCliqueRow", spec := "fnExactCliqueRow", recurses := true, apart := false, narrowed := true }
def FnExactCliqueRowUptoSaid : Prop := fnExactCliqueRowUptoRow.holds Try.pinned (OpenSpec.upto fnExactCliqueRowSpec)

/-- 'laws.FnOtherNet', WHERE WHAT IT READS IS OF BULK AT MOST 1048576: true; the input reads as it did. -/
def fnOtherNetUptoRow : OpenClaim := { program := "ytcfajdlkfpdonaa", sum := "9da9ba6ac06606631b633a660e983b69d3947e8e20757b69ecd3296900b88ed3", func := "loop.example/guardsonnets/laws.FnOtherNet", spec := "fnOtherNet", apart := false, narrowed := true }
def FnOtherNetUptoSaid : Prop := fnOtherNetUptoRow.holds Try.pinned (OpenSpec.upto fnOtherNetSpec)

/-- 'laws.FnExactOtherNet', WHERE WHAT IT READS IS OF BULK AT MOST 1048576: true; the input reads as it did. -/
def fnExactOtherNetUptoRow : OpenClaim := { program := "ytcfajdlkfpdonaa", sum := "9da9ba6ac06606631b633a660e983b69d3947e8e20757b69ecd3296900b88ed3", func := "loop.example/guardsonnets/laws.FnExactOtherNet", spec := "fnExactOtherNet", apart := false, narrowed := true }
def FnExactOtherNetUptoSaid : Prop := fnExactOtherNetUptoRow.holds Try.pinned (OpenSpec.upto fnExactOtherNetSpec)

/-- 'laws.FnPlayMay', WHERE WHAT IT READS IS OF BULK AT MOST 1048576: true; the input reads as it did. -/
def fnPlayMayUptoRow : OpenClaim := { program := "ytcfajdlkfpdonaa", sum := "9da9ba6ac06606631b633a660e983b69d3947e8e20757b69ecd3296900b88ed3", func := "loop.example/guardsonnets/laws.FnPlayMay", spec := "fnPlayMay", apart := false, narrowed := true }
def FnPlayMayUptoSaid : Prop := fnPlayMayUptoRow.holds Try.pinned (OpenSpec.upto fnPlayMaySpec)

/-- 'laws.FnExactPlayMay', WHERE WHAT IT READS IS OF BULK AT MOST 1048576: true; the input reads as it did. -/
def fnExactPlayMayUptoRow : OpenClaim := { program := "ytcfajdlkfpdonaa", sum := "9da9ba6ac06606631b633a660e983b69d3947e8e20757b69ecd3296900b88ed3", func := "loop.example/guardsonnets/laws.FnExactPlayMay", spec := "fnExactPlayMay", apart := false, narrowed := true }
def FnExactPlayMayUptoSaid : Prop := fnExactPlayMayUptoRow.holds Try.pinned (OpenSpec.upto fnExactPlayMaySpec)

end Rows
end Go.Proofs.Ytcfajdlkfpdonaa
