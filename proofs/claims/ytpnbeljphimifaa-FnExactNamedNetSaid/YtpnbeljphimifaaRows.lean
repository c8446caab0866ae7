/-
  No cell of these rows narrows 'for every input' (looked for: loops, veiled, ifaces, maps, wideKeys, modest, calm, conditions, laid).
  DERIVED. THE GIVEN ROWS OF THIS SEAT. 8 by the template 'for every input the law returns true; each argument reads behind the call as it read before'; 0 by the template 'total and deterministic' (their statements: YtpnbeljphimifaaTotals.lean).
  GIVEN WITH THE SEED: the statements are not yours to turn. If you find one false, say at which input.
  Laid BY PROGRAM, IN A SANDBOX (cutbox-rows.mjs): the forced cells as the released guide's own fill.sh prints them over the translation 77c0f9d5d9048cd7… (all of the seat's roots in one cut). By AI agents, Wed Nov 11 2026. No macro, syntax, notation, axiom, sorry.
-/
import Derived.Test.YtpnbeljphimifaaChecked
import GoSem.Claim
import GoSem.ClaimJoined
import GoSem.ClaimMapViews
import Derived.JoinedTies
import Derived.KernelRfl
namespace Go.Proofs.Ytpnbeljphimifaa
/- THE CELL 'sum', in the pinned program and in every row, IS THE sha256 OF THE DUMP (.gsa) THAT YtpnbeljphimifaaProg.lean LOADS. Nothing in Lean hashes anything: it is a label: what it is worth is what the hold of that sum in a sandbox is worth. -/
noncomputable def Try.pinned : Pinned := { name := "ytpnbeljphimifaa", sum := "77c0f9d5d9048cd77554d8dcd90e4f00bef84eb75f1e7b9a35e7b999715fdc10", checked := Try.checked }
namespace Rows
def none {H : Type} : Left H := { results := [], args := [] }

/-- 'laws.FnBallOf': WHATEVER THE INPUT: true; the input reads as it did. -/
def fnBallOfSpec : ChangeSpec := { name := "fnBallOf", fn := fun _ => fun
  | [d] => { results := [.lit (.bool true)], args := [d] }
  | _ => none }
def fnBallOfRow : OpenClaim := { program := "ytpnbeljphimifaa", sum := "77c0f9d5d9048cd77554d8dcd90e4f00bef84eb75f1e7b9a35e7b999715fdc10", func := "loop.example/guardsonnets/laws.FnBallOf", spec := "fnBallOf", apart := false }
def FnBallOfSaid : Prop := fnBallOfRow.holds Try.pinned (OpenSpec.ofChange fnBallOfSpec)

/-- ITS FALSE NEIGHBOUR: 'it returns false'. Refute it at one input. -/
def fnBallOfWrong : ChangeSpec := { name := "fnBallOf", fn := fun _ => fun
  | [d] => { results := [.lit (.bool false)], args := [d] }
  | _ => none }
def FnBallOfWrongFalsely : Prop := fnBallOfRow.holds Try.pinned (OpenSpec.ofChange fnBallOfWrong)

/-- 'laws.FnSeenBy': WHATEVER THE INPUT: true; the input reads as it did. -/
def fnSeenBySpec : ChangeSpec := { name := "fnSeenBy", fn := fun _ => fun
  | [d1, d2] => { results := [.lit (.bool true)], args := [d1, d2] }
  | _ => none }
def fnSeenByRow : OpenClaim := { program := "ytpnbeljphimifaa", sum := "77c0f9d5d9048cd77554d8dcd90e4f00bef84eb75f1e7b9a35e7b999715fdc10", func := "loop.example/guardsonnets/laws.FnSeenBy", spec := "fnSeenBy", apart := false }
def FnSeenBySaid : Prop := fnSeenByRow.holds Try.pinned (OpenSpec.ofChange fnSeenBySpec)

/-- ITS FALSE NEIGHBOUR: 'it returns false'. Refute it at one input. -/
def fnSeenByWrong : ChangeSpec := { name := "fnSeenBy", fn := fun _ => fun
  | [d1, d2] => { results := [.lit (.bool false)], args := [d1, d2] }
  | _ => none }
def FnSeenByWrongFalsely : Prop := fnSeenByRow.holds Try.pinned (OpenSpec.ofChange fnSeenByWrong)

/-- 'laws.FnWiresOf': WHATEVER THE INPUT: true; the input reads as it did. -/
def fnWiresOfSpec : ChangeSpec := { name := "fnWiresOf", fn := fun _ => fun
  | [d] => { results := [.lit (.bool true)], args := [d] }
  | _ => none }
def fnWiresOfRow : OpenClaim := { program := "ytpnbeljphimifaa", sum := "77c0f9d5d9048cd77554d8dcd90e4f00bef84eb75f1e7b9a35e7b999715fdc10", func := "loop.example/guardsonnets/laws.FnWiresOf", spec := "fnWiresOf", apart := false }
def FnWiresOfSaid : Prop := fnWiresOfRow.holds Try.pinned (OpenSpec.ofChange fnWiresOfSpec)

/-- ITS FALSE NEIGHBOUR: 'it returns false'. Refute it at one input. -/
def fnWiresOfWrong : ChangeSpec := { name := "fnWiresOf", fn := fun _ => fun
  | [d] => { results := [.lit (.bool false)], args := [d] }
  | _ => none }
def FnWiresOfWrongFalsely : Prop := fnWiresOfRow.holds Try.pinned (OpenSpec.ofChange fnWiresOfWrong)

/-- 'laws.FnPartOf': WHATEVER THE INPUT: true; the input reads as it did. -/
def fnPartOfSpec : ChangeSpec := { name := "fnPartOf", fn := fun _ => fun
  | [d] => { results := [.lit (.bool true)], args := [d] }
  | _ => none }
def fnPartOfRow : OpenClaim := { program := "ytpnbeljphimifaa", sum := "77c0f9d5d9048cd77554d8dcd90e4f00bef84eb75f1e7b9a35e7b999715fdc10", func := "loop.example/guardsonnets/laws.FnPartOf", spec := "fnPartOf", apart := false }
def FnPartOfSaid : Prop := fnPartOfRow.holds Try.pinned (OpenSpec.ofChange fnPartOfSpec)

/-- ITS FALSE NEIGHBOUR: 'it returns false'. Refute it at one input. -/
def fnPartOfWrong : ChangeSpec := { name := "fnPartOf", fn := fun _ => fun
  | [d] => { results := [.lit (.bool false)], args := [d] }
  | _ => none }
def FnPartOfWrongFalsely : Prop := fnPartOfRow.holds Try.pinned (OpenSpec.ofChange fnPartOfWrong)

/-- 'laws.FnPartMany': WHATEVER THE INPUT: true; the input reads as it did. -/
def fnPartManySpec : ChangeSpec := { name := "fnPartMany", fn := fun _ => fun
  | [d] => { results := [.lit (.bool true)], args := [d] }
  | _ => none }
def fnPartManyRow : OpenClaim := { program := "ytpnbeljphimifaa", sum := "77c0f9d5d9048cd77554d8dcd90e4f00bef84eb75f1e7b9a35e7b999715fdc10", func := "loop.example/guardsonnets/laws.FnPartMany", spec := "fnPartMany", apart := false }
def FnPartManySaid : Prop := fnPartManyRow.holds Try.pinned (OpenSpec.ofChange fnPartManySpec)

/-- ITS FALSE NEIGHBOUR: 'it returns false'. Refute it at one input. -/
def fnPartManyWrong : ChangeSpec := { name := "fnPartMany", fn := fun _ => fun
  | [d] => { results := [.lit (.bool false)], args := [d] }
  | _ => none }
def FnPartManyWrongFalsely : Prop := fnPartManyRow.holds Try.pinned (OpenSpec.ofChange fnPartManyWrong)

/-- 'laws.FnLoneOf': WHATEVER THE INPUT: true; the input reads as it did. -/
def fnLoneOfSpec : ChangeSpec := { name := "fnLoneOf", fn := fun _ => fun
  | [d] => { results := [.lit (.bool true)], args := [d] }
  | _ => none }
def fnLoneOfRow : OpenClaim := { program := "ytpnbeljphimifaa", sum := "77c0f9d5d9048cd77554d8dcd90e4f00bef84eb75f1e7b9a35e7b999715fdc10", func := "loop.example/guardsonnets/laws.FnLoneOf", spec := "fnLoneOf", apart := false }
def FnLoneOfSaid : Prop := fnLoneOfRow.holds Try.pinned (OpenSpec.ofChange fnLoneOfSpec)

/-- ITS FALSE NEIGHBOUR: 'it returns false'. Refute it at one input. -/
def fnLoneOfWrong : ChangeSpec := { name := "fnLoneOf", fn := fun _ => fun
  | [d] => { results := [.lit (.bool false)], args := [d] }
  | _ => none }
def FnLoneOfWrongFalsely : Prop := fnLoneOfRow.holds Try.pinned (OpenSpec.ofChange fnLoneOfWrong)

/-- 'laws.FnNamedNet': WHATEVER THE INPUT: true; the input reads as it did. -/
def fnNamedNetSpec : ChangeSpec := { name := "fnNamedNet", fn := fun _ => fun
  | [d] => { results := [.lit (.bool true)], args := [d] }
  | _ => none }
def fnNamedNetRow : OpenClaim := { program := "ytpnbeljphimifaa", sum := "77c0f9d5d9048cd77554d8dcd90e4f00bef84eb75f1e7b9a35e7b999715fdc10", func := "loop.example/guardsonnets/laws.FnNamedNet", spec := "fnNamedNet", apart := false }
def FnNamedNetSaid : Prop := fnNamedNetRow.holds Try.pinned (OpenSpec.ofChange fnNamedNetSpec)

/-- ITS FALSE NEIGHBOUR: 'it returns false'. Refute it at one input. -/
def fnNamedNetWrong : ChangeSpec := { name := "fnNamedNet", fn := fun _ => fun
  | [d] => { results := [.lit (.bool false)], args := [d] }
  | _ => none }
def FnNamedNetWrongFalsely : Prop := fnNamedNetRow.holds Try.pinned (OpenSpec.ofChange fnNamedNetWrong)

/-- 'laws.FnExactNamedNet': WHATEVER THE INPUT: true; the input reads as it did. -/
def fnExactNamedNetSpec : ChangeSpec := { name := "fnExactNamedNet", fn := fun _ => fun
  | [d1, d2] => { results := [.lit (.bool true)], args := [d1, d2] }
  | _ => none }
def fnExactNamedNetRow : OpenClaim := { program := "ytpnbeljphimifaa", sum := "77c0f9d5d9048cd77554d8dcd90e4f00bef84eb75f1e7b9a35e7b999715fdc10", func := "loop.example/guardsonnets/laws.FnExactNamedNet", spec := "fnExactNamedNet", apart := false }
def FnExactNamedNetSaid : Prop := fnExactNamedNetRow.holds Try.pinned (OpenSpec.ofChange fnExactNamedNetSpec)

/-- ITS FALSE NEIGHBOUR: 'it returns false'. Refute it at one input. -/
def fnExactNamedNetWrong : ChangeSpec := { name := "fnExactNamedNet", fn := fun _ => fun
  | [d1, d2] => { results := [.lit (.bool false)], args := [d1, d2] }
  | _ => none }
def FnExactNamedNetWrongFalsely : Prop := fnExactNamedNetRow.holds Try.pinned (OpenSpec.ofChange fnExactNamedNetWrong)

/- THE SECOND FORM. 'bulk': how many values and letters a reading holds, each counted each time it is reached (what is shared counts as often as it is met; a slice's spare places count too). A statement '..UptoSaid' is the law's where the arguments, and the package variables that the reading takes, are together of bulk at most 1048576: NARROWER than '..Said'. Prove '..Said' where nothing that the law and all that it calls make is longer than what came in: it says more and counts as full. Else prove '..UptoSaid'. A law counts once. -/
mutual
def uptoBulk {H : Type} : DataW H → Nat
  | .lit (.string bytes) => bytes.length + 1
  | .lit _ => 1
  | .nil => 1
  | .ptr d => uptoBulk d + 1
  | .slice elems spare => uptoBulkAll elems + uptoBulkAll spare + 1
  | .agg parts => uptoBulkAll parts + 1
  | .iface _ d => uptoBulk d + 1
  | .map entries => uptoBulkEntries entries + 1
  | .held _ => 1
def uptoBulkAll {H : Type} : List (DataW H) → Nat
  | [] => 0
  | d :: r => uptoBulk d + uptoBulkAll r
def uptoBulkEntries {H : Type} : List (Lit × DataW H) → Nat
  | [] => 0
  | x :: r => uptoBulkEntry x + uptoBulkEntries r
def uptoBulkEntry {H : Type} : Lit × DataW H → Nat
  | (.string bytes, d) => bytes.length + uptoBulk d + 1
  | (_, d) => uptoBulk d + 1
 end
def uptoSmall : (H : Type) → List (DataW H) → Bool := fun _ ds => decide (uptoBulkAll ds ≤ 1048576)
def OpenSpec.upto (s : _root_.Go.ChangeSpec) : _root_.Go.OpenSpec := { _root_.Go.OpenSpec.ofChange s with cond := some uptoSmall }

/-- 'laws.FnBallOf', WHERE WHAT IT READS IS OF BULK AT MOST 1048576: true; the input reads as it did. -/
def fnBallOfUptoRow : OpenClaim := { program := "ytpnbeljphimifaa", sum := "77c0f9d5d9048cd77554d8dcd90e4f00bef84eb75f1e7b9a35e7b999715fdc10", func := "loop.example/guardsonnets/laws.FnBallOf", spec := "fnBallOf", apart := false, narrowed := true }
def FnBallOfUptoSaid : Prop := fnBallOfUptoRow.holds Try.pinned (OpenSpec.upto fnBallOfSpec)

/-- 'laws.FnSeenBy', WHERE WHAT IT READS IS OF BULK AT MOST 1048576: true; the input reads as it did. -/
def fnSeenByUptoRow : OpenClaim := { program := "ytpnbeljphimifaa", sum := "77c0f9d5d9048cd77554d8dcd90e4f00bef84eb75f1e7b9a35e7b999715fdc10", func := "loop.example/guardsonnets/laws.FnSeenBy", spec := "fnSeenBy", apart := false, narrowed := true }
def FnSeenByUptoSaid : Prop := fnSeenByUptoRow.holds Try.pinned (OpenSpec.upto fnSeenBySpec)

/-- 'laws.FnWiresOf', WHERE WHAT IT READS IS OF BULK AT MOST 1048576: true; the input reads as it did. -/
def fnWiresOfUptoRow : OpenClaim := { program := "ytpnbeljphimifaa", sum := "77c0f9d5d9048cd77554d8dcd90e4f00bef84eb75f1e7b9a35e7b999715fdc10", func := "loop.example/guardsonnets/laws.FnWiresOf", spec := "fnWiresOf", apart := false, narrowed := true }
def FnWiresOfUptoSaid : Prop := fnWiresOfUptoRow.holds Try.pinned (OpenSpec.upto fnWiresOfSpec)

/-- 'laws.FnPartOf', WHERE WHAT IT READS IS OF BULK AT MOST 1048576: true; the input reads as it did. -/
def fnPartOfUptoRow : OpenClaim := { program := "ytpnbeljphimifaa", sum := "77c0f9d5d9048cd77554d8dcd90e4f00bef84eb75f1e7b9a35e7b999715fdc10", func := "loop.example/guardsonnets/laws.FnPartOf", spec := "fnPartOf", apart := false, narrowed := true }
def FnPartOfUptoSaid : Prop := fnPartOfUptoRow.holds Try.pinned (OpenSpec.upto fnPartOfSpec)

/-- 'laws.FnPartMany', WHERE WHAT IT READS IS OF BULK AT MOST 1048576: true; the input reads as it did. -/
def fnPartManyUptoRow : OpenClaim := { program := "ytpnbeljphimifaa", sum := "77c0f9d5d9048cd77554d8dcd90e4f00bef84eb75f1e7b9a35e7b999715fdc10", func := "loop.example/guardsonnets/laws.FnPartMany", spec := "fnPartMany", apart := false, narrowed := true }
def FnPartManyUptoSaid : Prop := fnPartManyUptoRow.holds Try.pinned (OpenSpec.upto fnPartManySpec)

/-- 'laws.FnLoneOf', WHERE WHAT IT READS IS OF BULK AT MOST 1048576: true; the input reads as it did. -/
def fnLoneOfUptoRow : OpenClaim := { program := "ytpnbeljphimifaa", sum := "77c0f9d5d9048cd77554d8dcd90e4f00bef84eb75f1e7b9a35e7b999715fdc10", func := "loop.example/guardsonnets/laws.FnLoneOf", spec := "fnLoneOf", apart := false, narrowed := true }
def FnLoneOfUptoSaid : Prop := fnLoneOfUptoRow.holds Try.pinned (OpenSpec.upto fnLoneOfSpec)

/-- 'laws.FnNamedNet', WHERE WHAT IT READS IS OF BULK AT MOST 1048576: true; the input reads as it did. -/
def fnNamedNetUptoRow : OpenClaim := { program := "ytpnbeljphimifaa", sum := "77c0f9d5d9048cd77554d8dcd90e4f00bef84eb75f1e7b9a35e7b999715fdc10", func := "loop.example/guardsonnets/laws.FnNamedNet", spec := "fnNamedNet", apart := false, narrowed := true }
def FnNamedNetUptoSaid : Prop := fnNamedNetUptoRow.holds Try.pinned (OpenSpec.upto fnNamedNetSpec)

/-- 'laws.FnExactNamedNet', WHERE WHAT IT READS IS OF BULK AT MOST 1048576: true; the input reads as it did. -/
def fnExactNamedNetUptoRow : OpenClaim := { program := "ytpnbeljphimifaa", sum := "77c0f9d5d9048cd77554d8dcd90e4f00bef84eb75f1e7b9a35e7b999715fdc10", func := "loop.example/guardsonnets/laws.FnExactNamedNet", spec := "fnExactNamedNet", apart := false, narrowed := true }
def FnExactNamedNetUptoSaid : Prop := fnExactNamedNetUptoRow.holds Try.pinned (OpenSpec.upto fnExactNamedNetSpec)

end Rows
end Go.Proofs.Ytpnbeljphimifaa
