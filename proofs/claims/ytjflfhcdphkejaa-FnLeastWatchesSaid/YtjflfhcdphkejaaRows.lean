/-
  No cell of these rows narrows 'for every input' (looked for: loops, veiled, ifaces, maps, wideKeys, modest, calm, conditions, laid).
  DERIVED. THE GIVEN ROWS OF THIS SEAT. 14 by the template 'for every input the law returns true; each argument reads behind the call as it read before'; 0 by the template 'total and deterministic' (their statements: YtjflfhcdphkejaaTotals.lean).
  GIVEN WITH THE SEED: the statements are not yours to turn. If you find one false, say at which input.
  Laid BY PROGRAM, IN A SANDBOX (cutbox-rows.mjs): the forced cells as the released guide's own fill.sh prints them over the translation 84d98922adaa98cc… (all of the seat's roots in one cut). By AI agents, Wed Nov 11 2026. No macro, syntax, notation, axiom, sorry.
-/
import Derived.Test.YtjflfhcdphkejaaChecked
import GoSem.Claim
import GoSem.ClaimJoined
import GoSem.ClaimMapViews
import Derived.JoinedTies
import Derived.KernelRfl
namespace Go.Proofs.Ytjflfhcdphkejaa
/- THE CELL 'sum', in the pinned program and in every row, IS THE sha256 OF THE DUMP (.gsa) THAT YtjflfhcdphkejaaProg.lean LOADS. Nothing in Lean hashes anything: it is a label: what it is worth is what the hold of that sum in a sandbox is worth. -/
noncomputable def Try.pinned : Pinned := { name := "ytjflfhcdphkejaa", sum := "84d98922adaa98cc50137a0f641f82697912ade26f7d83995d0c297a04f13edd", checked := Try.checked }
namespace Rows
def none {H : Type} : Left H := { results := [], args := [] }

/-- 'laws.FnWatchOk': WHATEVER THE INPUT: true; the input reads as it did. -/
def fnWatchOkSpec : ChangeSpec := { name := "fnWatchOk", fn := fun _ => fun
  | [d1, d2] => { results := [.lit (.bool true)], args := [d1, d2] }
  | _ => none }
def fnWatchOkRow : OpenClaim := { program := "ytjflfhcdphkejaa", sum := "84d98922adaa98cc50137a0f641f82697912ade26f7d83995d0c297a04f13edd", func := "loop.example/guardsonnets/laws.FnWatchOk", spec := "fnWatchOk", apart := false }
def FnWatchOkSaid : Prop := fnWatchOkRow.holds Try.pinned (OpenSpec.ofChange fnWatchOkSpec)

/-- ITS FALSE NEIGHBOUR: 'it returns false'. Refute it at one input. -/
def fnWatchOkWrong : ChangeSpec := { name := "fnWatchOk", fn := fun _ => fun
  | [d1, d2] => { results := [.lit (.bool false)], args := [d1, d2] }
  | _ => none }
def FnWatchOkWrongFalsely : Prop := fnWatchOkRow.holds Try.pinned (OpenSpec.ofChange fnWatchOkWrong)

/-- 'laws.FnLeastWatchOk': WHATEVER THE INPUT: true; the input reads as it did. -/
def fnLeastWatchOkSpec : ChangeSpec := { name := "fnLeastWatchOk", fn := fun _ => fun
  | [d] => { results := [.lit (.bool true)], args := [d] }
  | _ => none }
def fnLeastWatchOkRow : OpenClaim := { program := "ytjflfhcdphkejaa", sum := "84d98922adaa98cc50137a0f641f82697912ade26f7d83995d0c297a04f13edd", func := "loop.example/guardsonnets/laws.FnLeastWatchOk", spec := "fnLeastWatchOk", apart := false }
def FnLeastWatchOkSaid : Prop := fnLeastWatchOkRow.holds Try.pinned (OpenSpec.ofChange fnLeastWatchOkSpec)

/-- ITS FALSE NEIGHBOUR: 'it returns false'. Refute it at one input. -/
def fnLeastWatchOkWrong : ChangeSpec := { name := "fnLeastWatchOk", fn := fun _ => fun
  | [d] => { results := [.lit (.bool false)], args := [d] }
  | _ => none }
def FnLeastWatchOkWrongFalsely : Prop := fnLeastWatchOkRow.holds Try.pinned (OpenSpec.ofChange fnLeastWatchOkWrong)

/-- 'laws.FnFewestWatch': WHATEVER THE INPUT: true; the input reads as it did. -/
def fnFewestWatchSpec : ChangeSpec := { name := "fnFewestWatch", fn := fun _ => fun
  | [d] => { results := [.lit (.bool true)], args := [d] }
  | _ => none }
def fnFewestWatchRow : OpenClaim := { program := "ytjflfhcdphkejaa", sum := "84d98922adaa98cc50137a0f641f82697912ade26f7d83995d0c297a04f13edd", func := "loop.example/guardsonnets/laws.FnFewestWatch", spec := "fnFewestWatch", apart := false }
def FnFewestWatchSaid : Prop := fnFewestWatchRow.holds Try.pinned (OpenSpec.ofChange fnFewestWatchSpec)

/-- ITS FALSE NEIGHBOUR: 'it returns false'. Refute it at one input. -/
def fnFewestWatchWrong : ChangeSpec := { name := "fnFewestWatch", fn := fun _ => fun
  | [d] => { results := [.lit (.bool false)], args := [d] }
  | _ => none }
def FnFewestWatchWrongFalsely : Prop := fnFewestWatchRow.holds Try.pinned (OpenSpec.ofChange fnFewestWatchWrong)

/-- 'laws.FnWatchOf': WHATEVER THE INPUT: true; the input reads as it did. -/
def fnWatchOfSpec : ChangeSpec := { name := "fnWatchOf", fn := fun _ => fun
  | [d] => { results := [.lit (.bool true)], args := [d] }
  | _ => none }
def fnWatchOfRow : OpenClaim := { program := "ytjflfhcdphkejaa", sum := "84d98922adaa98cc50137a0f641f82697912ade26f7d83995d0c297a04f13edd", func := "loop.example/guardsonnets/laws.FnWatchOf", spec := "fnWatchOf", apart := false }
def FnWatchOfSaid : Prop := fnWatchOfRow.holds Try.pinned (OpenSpec.ofChange fnWatchOfSpec)

/-- ITS FALSE NEIGHBOUR: 'it returns false'. Refute it at one input. -/
def fnWatchOfWrong : ChangeSpec := { name := "fnWatchOf", fn := fun _ => fun
  | [d] => { results := [.lit (.bool false)], args := [d] }
  | _ => none }
def FnWatchOfWrongFalsely : Prop := fnWatchOfRow.holds Try.pinned (OpenSpec.ofChange fnWatchOfWrong)

/-- 'laws.FnLeastWatches': WHATEVER THE INPUT: true; the input reads as it did. -/
def fnLeastWatchesSpec : ChangeSpec := { name := "fnLeastWatches", fn := fun _ => fun
  | [d] => { results := [.lit (.bool true)], args := [d] }
  | _ => none }
def fnLeastWatchesRow : OpenClaim := { program := "ytjflfhcdphkejaa", sum := "84d98922adaa98cc50137a0f641f82697912ade26f7d83995d0c297a04f13edd", func := "loop.example/guardsonnets/laws.FnLeastWatches", spec := "fnLeastWatches", apart := false }
def FnLeastWatchesSaid : Prop := fnLeastWatchesRow.holds Try.pinned (OpenSpec.ofChange fnLeastWatchesSpec)

/-- ITS FALSE NEIGHBOUR: 'it returns false'. Refute it at one input. -/
def fnLeastWatchesWrong : ChangeSpec := { name := "fnLeastWatches", fn := fun _ => fun
  | [d] => { results := [.lit (.bool false)], args := [d] }
  | _ => none }
def FnLeastWatchesWrongFalsely : Prop := fnLeastWatchesRow.holds Try.pinned (OpenSpec.ofChange fnLeastWatchesWrong)

/-- 'laws.FnWatchCounts': WHATEVER THE INPUT: true; the input reads as it did. -/
def fnWatchCountsSpec : ChangeSpec := { name := "fnWatchCounts", fn := fun _ => fun
  | [d] => { results := [.lit (.bool true)], args := [d] }
  | _ => none }
def fnWatchCountsRow : OpenClaim := { program := "ytjflfhcdphkejaa", sum := "84d98922adaa98cc50137a0f641f82697912ade26f7d83995d0c297a04f13edd", func := "loop.example/guardsonnets/laws.FnWatchCounts", spec := "fnWatchCounts", apart := false }
def FnWatchCountsSaid : Prop := fnWatchCountsRow.holds Try.pinned (OpenSpec.ofChange fnWatchCountsSpec)

/-- ITS FALSE NEIGHBOUR: 'it returns false'. Refute it at one input. -/
def fnWatchCountsWrong : ChangeSpec := { name := "fnWatchCounts", fn := fun _ => fun
  | [d] => { results := [.lit (.bool false)], args := [d] }
  | _ => none }
def FnWatchCountsWrongFalsely : Prop := fnWatchCountsRow.holds Try.pinned (OpenSpec.ofChange fnWatchCountsWrong)

/-- 'laws.FnThinnedWatch': WHATEVER THE INPUT: true; the input reads as it did. -/
def fnThinnedWatchSpec : ChangeSpec := { name := "fnThinnedWatch", fn := fun _ => fun
  | [d] => { results := [.lit (.bool true)], args := [d] }
  | _ => none }
def fnThinnedWatchRow : OpenClaim := { program := "ytjflfhcdphkejaa", sum := "84d98922adaa98cc50137a0f641f82697912ade26f7d83995d0c297a04f13edd", func := "loop.example/guardsonnets/laws.FnThinnedWatch", spec := "fnThinnedWatch", apart := false }
def FnThinnedWatchSaid : Prop := fnThinnedWatchRow.holds Try.pinned (OpenSpec.ofChange fnThinnedWatchSpec)

/-- ITS FALSE NEIGHBOUR: 'it returns false'. Refute it at one input. -/
def fnThinnedWatchWrong : ChangeSpec := { name := "fnThinnedWatch", fn := fun _ => fun
  | [d] => { results := [.lit (.bool false)], args := [d] }
  | _ => none }
def FnThinnedWatchWrongFalsely : Prop := fnThinnedWatchRow.holds Try.pinned (OpenSpec.ofChange fnThinnedWatchWrong)

/-- 'laws.FnExactWatchOk': WHATEVER THE INPUT: true; the input reads as it did. -/
def fnExactWatchOkSpec : ChangeSpec := { name := "fnExactWatchOk", fn := fun _ => fun
  | [d1, d2] => { results := [.lit (.bool true)], args := [d1, d2] }
  | _ => none }
def fnExactWatchOkRow : OpenClaim := { program := "ytjflfhcdphkejaa", sum := "84d98922adaa98cc50137a0f641f82697912ade26f7d83995d0c297a04f13edd", func := "loop.example/guardsonnets/laws.FnExactWatchOk", spec := "fnExactWatchOk", apart := false }
def FnExactWatchOkSaid : Prop := fnExactWatchOkRow.holds Try.pinned (OpenSpec.ofChange fnExactWatchOkSpec)

/-- ITS FALSE NEIGHBOUR: 'it returns false'. Refute it at one input. -/
def fnExactWatchOkWrong : ChangeSpec := { name := "fnExactWatchOk", fn := fun _ => fun
  | [d1, d2] => { results := [.lit (.bool false)], args := [d1, d2] }
  | _ => none }
def FnExactWatchOkWrongFalsely : Prop := fnExactWatchOkRow.holds Try.pinned (OpenSpec.ofChange fnExactWatchOkWrong)

/-- 'laws.FnExactLeastWatchOk': WHATEVER THE INPUT: true; the input reads as it did. -/
def fnExactLeastWatchOkSpec : ChangeSpec := { name := "fnExactLeastWatchOk", fn := fun _ => fun
  | [d1, d2] => { results := [.lit (.bool true)], args := [d1, d2] }
  | _ => none }
def fnExactLeastWatchOkRow : OpenClaim := { program := "ytjflfhcdphkejaa", sum := "84d98922adaa98cc50137a0f641f82697912ade26f7d83995d0c297a04f13edd", func := "loop.example/guardsonnets/laws.FnExactLeastWatchOk", spec := "fnExactLeastWatchOk", apart := false }
def FnExactLeastWatchOkSaid : Prop := fnExactLeastWatchOkRow.holds Try.pinned (OpenSpec.ofChange fnExactLeastWatchOkSpec)

/-- ITS FALSE NEIGHBOUR: 'it returns false'. Refute it at one input. -/
def fnExactLeastWatchOkWrong : ChangeSpec := { name := "fnExactLeastWatchOk", fn := fun _ => fun
  | [d1, d2] => { results := [.lit (.bool false)], args := [d1, d2] }
  | _ => none }
def FnExactLeastWatchOkWrongFalsely : Prop := fnExactLeastWatchOkRow.holds Try.pinned (OpenSpec.ofChange fnExactLeastWatchOkWrong)

/-- 'laws.FnExactFewestWatch': WHATEVER THE INPUT: true; the input reads as it did. -/
def fnExactFewestWatchSpec : ChangeSpec := { name := "fnExactFewestWatch", fn := fun _ => fun
  | [d] => { results := [.lit (.bool true)], args := [d] }
  | _ => none }
def fnExactFewestWatchRow : OpenClaim := { program := "ytjflfhcdphkejaa", sum := "84d98922adaa98cc50137a0f641f82697912ade26f7d83995d0c297a04f13edd", func := "loop.example/guardsonnets/laws.FnExactFewestWatch", spec := "fnExactFewestWatch", apart := false }
def FnExactFewestWatchSaid : Prop := fnExactFewestWatchRow.holds Try.pinned (OpenSpec.ofChange fnExactFewestWatchSpec)

/-- ITS FALSE NEIGHBOUR: 'it returns false'. Refute it at one input. -/
def fnExactFewestWatchWrong : ChangeSpec := { name := "fnExactFewestWatch", fn := fun _ => fun
  | [d] => { results := [.lit (.bool false)], args := [d] }
  | _ => none }
def FnExactFewestWatchWrongFalsely : Prop := fnExactFewestWatchRow.holds Try.pinned (OpenSpec.ofChange fnExactFewestWatchWrong)

/-- 'laws.FnExactWatchOf': WHATEVER THE INPUT: true; the input reads as it did. -/
def fnExactWatchOfSpec : ChangeSpec := { name := "fnExactWatchOf", fn := fun _ => fun
  | [d] => { results := [.lit (.bool true)], args := [d] }
  | _ => none }
def fnExactWatchOfRow : OpenClaim := { program := "ytjflfhcdphkejaa", sum := "84d98922adaa98cc50137a0f641f82697912ade26f7d83995d0c297a04f13edd", func := "loop.example/guardsonnets/laws.FnExactWatchOf", spec := "fnExactWatchOf", apart := false }
def FnExactWatchOfSaid : Prop := fnExactWatchOfRow.holds Try.pinned (OpenSpec.ofChange fnExactWatchOfSpec)

/-- ITS FALSE NEIGHBOUR: 'it returns false'. Refute it at one input. -/
def fnExactWatchOfWrong : ChangeSpec := { name := "fnExactWatchOf", fn := fun _ => fun
  | [d] => { results := [.lit (.bool false)], args := [d] }
  | _ => none }
def FnExactWatchOfWrongFalsely : Prop := fnExactWatchOfRow.holds Try.pinned (OpenSpec.ofChange fnExactWatchOfWrong)

/-- 'laws.FnExactLeastWatches': WHATEVER THE INPUT: true; the input reads as it did. -/
def fnExactLeastWatchesSpec : ChangeSpec := { name := "fnExactLeastWatches", fn := fun _ => fun
  | [d] => { results := [.lit (.bool true)], args := [d] }
  | _ => none }
def fnExactLeastWatchesRow : OpenClaim := { program := "ytjflfhcdphkejaa", sum := "84d98922adaa98cc50137a0f641f82697912ade26f7d83995d0c297a04f13edd", func := "loop.example/guardsonnets/laws.FnExactLeastWatches", spec := "fnExactLeastWatches", apart := false }
def FnExactLeastWatchesSaid : Prop := fnExactLeastWatchesRow.holds Try.pinned (OpenSpec.ofChange fnExactLeastWatchesSpec)

/-- ITS FALSE NEIGHBOUR: 'it returns false'. Refute it at one input. -/
def fnExactLeastWatchesWrong : ChangeSpec := { name := "fnExactLeastWatches", fn := fun _ => fun
  | [d] => { results := [.lit (.bool false)], args := [d] }
  | _ => none }
def FnExactLeastWatchesWrongFalsely : Prop := fnExactLeastWatchesRow.holds Try.pinned (OpenSpec.ofChange fnExactLeastWatchesWrong)

/-- 'laws.FnExactWatchCounts': WHATEVER THE INPUT: true; the input reads as it did. -/
def fnExactWatchCountsSpec : ChangeSpec := { name := "fnExactWatchCounts", fn := fun _ => fun
  | [d] => { results := [.lit (.bool true)], args := [d] }
  | _ => none }
def fnExactWatchCountsRow : OpenClaim := { program := "ytjflfhcdphkejaa", sum := "84d98922adaa98cc50137a0f641f82697912ade26f7d83995d0c297a04f13edd", func := "loop.example/guardsonnets/laws.FnExactWatchCounts", spec := "fnExactWatchCounts", apart := false }
def FnExactWatchCountsSaid : Prop := fnExactWatchCountsRow.holds Try.pinned (OpenSpec.ofChange fnExactWatchCountsSpec)

/-- ITS FALSE NEIGHBOUR: 'it returns false'. Refute it at one input. -/
def fnExactWatchCountsWrong : ChangeSpec := { name := "fnExactWatchCounts", fn := fun _ => fun
  | [d] => { results := [.lit (.bool false)], args := [d] }
  | _ => none }
def FnExactWatchCountsWrongFalsely : Prop := fnExactWatchCountsRow.holds Try.pinned (OpenSpec.ofChange fnExactWatchCountsWrong)

/-- 'laws.FnExactThinnedWatch': WHATEVER THE INPUT: true; the input reads as it did. -/
def fnExactThinnedWatchSpec : ChangeSpec := { name := "fnExactThinnedWatch", fn := fun _ => fun
  | [d1, d2] => { results := [.lit (.bool true)], args := [d1, d2] }
  | _ => none }
def fnExactThinnedWatchRow : OpenClaim := { program := "ytjflfhcdphkejaa", sum := "84d98922adaa98cc50137a0f641f82697912ade26f7d83995d0c297a04f13edd", func := "loop.example/guardsonnets/laws.FnExactThinnedWatch", spec := "fnExactThinnedWatch", apart := false }
def FnExactThinnedWatchSaid : Prop := fnExactThinnedWatchRow.holds Try.pinned (OpenSpec.ofChange fnExactThinnedWatchSpec)

/-- ITS FALSE NEIGHBOUR: 'it returns false'. Refute it at one input. -/
def fnExactThinnedWatchWrong : ChangeSpec := { name := "fnExactThinnedWatch", fn := fun _ => fun
  | [d1, d2] => { results := [.lit (.bool false)], args := [d1, d2] }
  | _ => none }
def FnExactThinnedWatchWrongFalsely : Prop := fnExactThinnedWatchRow.holds Try.pinned (OpenSpec.ofChange fnExactThinnedWatchWrong)

/- THE SECOND FORM. 'bulk': how many values and letters a reading holds, each counted each time it is reached (what is shared counts as often as it is met; a slice's spare places count too). A statement '..UptoSaid' is the law's where the arguments, and the package variables that the reading takes, are together of bulk at most 1048576: NARROWER than '..Said'. Prove '..Said' where nothing that the law and all that it calls make is longer than what came in: it says more and counts as full. Else prove '..UptoSaid'. A law counts once. -/
mutual
def uptoBulk {H : Type} : DataW H → Nat
  | .lit (.string bytes) => bytes.length + 1
  | .lit _ => 1
  | .nil => 1
  | .ptr d => uptoBulk d + 1
  | .slice elems spare => uptoBulkAll elems + uptoBulkAll spare + 1
  | .agg parts => uptoBulkAll parts + 1
  | .iface _ d => uptoBulk d + 1
  | .map entries => uptoBulkEntries entries + 1
  | .held _ => 1
def uptoBulkAll {H : Type} : List (DataW H) → Nat
  | [] => 0
  | d :: r => uptoBulk d + uptoBulkAll r
def uptoBulkEntries {H : Type} : List (Lit × DataW H) → Nat
  | [] => 0
  | x :: r => uptoBulkEntry x + uptoBulkEntries r
def uptoBulkEntry {H : Type} : Lit × DataW H → Nat
  | (.string bytes, d) => bytes.length + uptoBulk d + 1
  | (_, d) => uptoBulk d + 1
 end
def uptoSmall : (H : Type) → List (DataW H) → Bool := fun _ ds => decide (uptoBulkAll ds ≤ 1048576)
def OpenSpec.upto (s : _root_.Go.ChangeSpec) : _root_.Go.OpenSpec := { _root_.Go.OpenSpec.ofChange s with cond := some uptoSmall }

/-- 'laws.FnWatchOk', WHERE WHAT IT READS IS OF BULK AT MOST 1048576: true; the input reads as it did. -/
def fnWatchOkUptoRow : OpenClaim := { program := "ytjflfhcdphkejaa", sum := "84d98922adaa98cc50137a0f641f82697912ade26f7d83995d0c297a04f13edd", func := "loop.example/guardsonnets/laws.FnWatchOk", spec := "fnWatchOk", apart := false, narrowed := true }
def FnWatchOkUptoSaid : Prop := fnWatchOkUptoRow.holds Try.pinned (OpenSpec.upto fnWatchOkSpec)

/-- 'laws.FnLeastWatchOk', WHERE WHAT IT READS IS OF BULK AT MOST 1048576: true; the input reads as it did. -/
def fnLeastWatchOkUptoRow : OpenClaim := { program := "ytjflfhcdphkejaa", sum := "84d98922adaa98cc50137a0f641f82697912ade26f7d83995d0c297a04f13edd", func := "loop.example/guardsonnets/laws.FnLeastWatchOk", spec := "fnLeastWatchOk", apart := false, narrowed := true }
def FnLeastWatchOkUptoSaid : Prop := fnLeastWatchOkUptoRow.holds Try.pinned (OpenSpec.upto fnLeastWatchOkSpec)

/-- 'laws.FnFewestWatch', WHERE WHAT IT READS IS OF BULK AT MOST 1048576: true; the input reads as it did. -/
def fnFewestWatchUptoRow : OpenClaim := { program := "ytjflfhcdphkejaa", sum := "84d98922adaa98cc50137a0f641f82697912ade26f7d83995d0c297a04f13edd", func := "loop.example/guardsonnets/laws.FnFewestWatch", spec := "fnFewestWatch", apart := false, narrowed := true }
def FnFewestWatchUptoSaid : Prop := fnFewestWatchUptoRow.holds Try.pinned (OpenSpec.upto fnFewestWatchSpec)

/-- 'laws.FnWatchOf', WHERE WHAT IT READS IS OF BULK AT MOST 1048576: true; the input reads as it did. -/
def fnWatchOfUptoRow : OpenClaim := { program := "ytjflfhcdphkejaa", sum := "84d98922adaa98cc50137a0f641f82697912ade26f7d83995d0c297a04f13edd", func := "loop.example/guardsonnets/laws.FnWatchOf", spec := "fnWatchOf", apart := false, narrowed := true }
def FnWatchOfUptoSaid : Prop := fnWatchOfUptoRow.holds Try.pinned (OpenSpec.upto fnWatchOfSpec)

/-- 'laws.FnLeastWatches', WHERE WHAT IT READS IS OF BULK AT MOST 1048576: true; the input reads as it did. -/
def fnLeastWatchesUptoRow : OpenClaim := { program := "ytjflfhcdphkejaa", sum := "84d98922adaa98cc50137a0f641f82697912ade26f7d83995d0c297a04f13edd", func := "loop.example/guardsonnets/laws.FnLeastWatches", spec := "fnLeastWatches", apart := false, narrowed := true }
def FnLeastWatchesUptoSaid : Prop := fnLeastWatchesUptoRow.holds Try.pinned (OpenSpec.upto fnLeastWatchesSpec)

/-- 'laws.FnWatchCounts', WHERE WHAT IT READS IS OF BULK AT MOST 1048576: true; the input reads as it did. -/
def fnWatchCountsUptoRow : OpenClaim := { program := "ytjflfhcdphkejaa", sum := "84d98922adaa98cc50137a0f641f82697912ade26f7d83995d0c297a04f13edd", func := "loop.example/guardsonnets/laws.FnWatchCounts", spec := "fnWatchCounts", apart := false, narrowed := true }
def FnWatchCountsUptoSaid : Prop := fnWatchCountsUptoRow.holds Try.pinned (OpenSpec.upto fnWatchCountsSpec)

/-- 'laws.FnThinnedWatch', WHERE WHAT IT READS IS OF BULK AT MOST 1048576: true; the input reads as it did. -/
def fnThinnedWatchUptoRow : OpenClaim := { program := "ytjflfhcdphkejaa", sum := "84d98922adaa98cc50137a0f641f82697912ade26f7d83995d0c297a04f13edd", func := "loop.example/guardsonnets/laws.FnThinnedWatch", spec := "fnThinnedWatch", apart := false, narrowed := true }
def FnThinnedWatchUptoSaid : Prop := fnThinnedWatchUptoRow.holds Try.pinned (OpenSpec.upto fnThinnedWatchSpec)

/-- 'laws.FnExactWatchOk', WHERE WHAT IT READS IS OF BULK AT MOST 1048576: true; the input reads as it did. -/
def fnExactWatchOkUptoRow : OpenClaim := { program := "ytjflfhcdphkejaa", sum := "84d98922adaa98cc50137a0f641f82697912ade26f7d83995d0c297a04f13edd", func := "loop.example/guardsonnets/laws.FnExactWatchOk", spec := "fnExactWatchOk", apart := false, narrowed := true }
def FnExactWatchOkUptoSaid : Prop := fnExactWatchOkUptoRow.holds Try.pinned (OpenSpec.upto fnExactWatchOkSpec)

/-- 'laws.FnExactLeastWatchOk', WHERE WHAT IT READS IS OF BULK AT MOST 1048576: true; the input reads as it did. -/
def fnExactLeastWatchOkUptoRow : OpenClaim := { program := "ytjflfhcdphkejaa", sum := "84d98922adaa98cc50137a0f641f82697912ade26f7d83995d0c297a04f13edd", func := "loop.example/guardsonnets/laws.FnExactLeastWatchOk", spec := "fnExactLeastWatchOk", apart := false, narrowed := true }
def FnExactLeastWatchOkUptoSaid : Prop := fnExactLeastWatchOkUptoRow.holds Try.pinned (OpenSpec.upto fnExactLeastWatchOkSpec)

/-- 'laws.FnExactFewestWatch', WHERE WHAT IT READS IS OF BULK AT MOST 1048576: true; the input reads as it did. -/
def fnExactFewestWatchUptoRow : OpenClaim := { program := "ytjflfhcdphkejaa", sum := "84d98922adaa98cc50137a0f641f82697912ade26f7d83995d0c297a04f13edd", func := "loop.example/guardsonnets/laws.FnExactFewestWatch", spec := "fnExactFewestWatch", apart := false, narrowed := true }
def FnExactFewestWatchUptoSaid : Prop := fnExactFewestWatchUptoRow.holds Try.pinned (OpenSpec.upto fnExactFewestWatchSpec)

/-- 'laws.FnExactWatchOf', WHERE WHAT IT READS IS OF BULK AT MOST 1048576: true; the input reads as it did. -/
def fnExactWatchOfUptoRow : OpenClaim := { program := "ytjflfhcdphkejaa", sum := "84d98922adaa98cc50137a0f641f82697912ade26f7d83995d0c297a04f13edd", func := "loop.example/guardsonnets/laws.FnExactWatchOf", spec := "fnExactWatchOf", apart := false, narrowed := true }
def FnExactWatchOfUptoSaid : Prop := fnExactWatchOfUptoRow.holds Try.pinned (OpenSpec.upto fnExactWatchOfSpec)

/-- 'laws.FnExactLeastWatches', WHERE WHAT IT READS IS OF BULK AT MOST 1048576: true; the input reads as it did. -/
def fnExactLeastWatchesUptoRow : OpenClaim := { program := "ytjflfhcdphkejaa", sum := "84d98922adaa98cc50137a0f641f82697912ade26f7d83995d0c297a04f13edd", func := "loop.example/guardsonnets/laws.FnExactLeastWatches", spec := "fnExactLeastWatches", apart := false, narrowed := true }
def FnExactLeastWatchesUptoSaid : Prop := fnExactLeastWatchesUptoRow.holds Try.pinned (OpenSpec.upto fnExactLeastWatchesSpec)

/-- 'laws.FnExactWatchCounts', WHERE WHAT IT READS IS OF BULK AT MOST 1048576: true; the input reads as it did. -/
def fnExactWatchCountsUptoRow : OpenClaim := { program := "ytjflfhcdphkejaa", sum := "84d98922adaa98cc50137a0f641f82697912ade26f7d83995d0c297a04f13edd", func := "loop.example/guardsonnets/laws.FnExactWatchCounts", spec := "fnExactWatchCounts", apart := false, narrowed := true }
def FnExactWatchCountsUptoSaid : Prop := fnExactWatchCountsUptoRow.holds Try.pinned (OpenSpec.upto fnExactWatchCountsSpec)

/-- 'laws.FnExactThinnedWatch', WHERE WHAT IT READS IS OF BULK AT MOST 1048576: true; the input reads as it did. -/
def fnExactThinnedWatchUptoRow : OpenClaim := { program := "ytjflfhcdphkejaa", sum := "84d98922adaa98cc50137a0f641f82697912ade26f7d83995d0c297a04f13edd", func := "loop.example/guardsonnets/laws.FnExactThinnedWatch", spec := "fnExactThinnedWatch", apart := false, narrowed := true }
def FnExactThinnedWatchUptoSaid : Prop := fnExactThinnedWatchUptoRow.holds Try.pinned (OpenSpec.upto fnExactThinnedWatchSpec)

end Rows
end Go.Proofs.Ytjflfhcdphkejaa
