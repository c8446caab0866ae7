/-
  No cell of these rows narrows 'for every input' (looked for: loops, veiled, ifaces, maps, wideKeys, modest, calm, conditions, laid).
  DERIVED. THE GIVEN ROWS OF THIS SEAT. 14 by the template 'for every input the law returns true; each argument reads behind the call as it read before'; 0 by the template 'total and deterministic' (their statements: YtojgnfejoeaehaaTotals.lean).
  GIVEN WITH THE SEED: the statements are not yours to turn. If you find one false, say at which input.
  Laid BY PROGRAM, IN A SANDBOX (cutbox-rows.mjs): the forced cells as the released guide's own fill.sh prints them over the translation 1f72eddc9c6f2b47… (all of the seat's roots in one cut). By AI agents, Wed Nov 11 2026. No macro, syntax, notation, axiom, sorry.
-/
import Derived.Test.YtojgnfejoeaehaaChecked
import GoSem.Claim
import GoSem.ClaimJoined
import GoSem.ClaimMapViews
import Derived.JoinedTies
import Derived.KernelRfl
namespace Go.Proofs.Ytojgnfejoeaehaa
/- THE CELL 'sum', in the pinned program and in every row, IS THE sha256 OF THE DUMP (.gsa) THAT YtojgnfejoeaehaaProg.lean LOADS. Nothing in Lean hashes anything: it is a label: what it is worth is what the hold of that sum in a sandbox is worth. -/
noncomputable def Try.pinned : Pinned := { name := "ytojgnfejoeaehaa", sum := "1f72eddc9c6f2b47ee0dc6b2aadeba78c73f1e0da4123427c5a92ee9a83131be", checked := Try.checked }
namespace Rows
def none {H : Type} : Left H := { results := [], args := [] }

/-- 'laws.FnPrivateOf': WHATEVER THE INPUT: true; the input reads as it did. -/
def fnPrivateOfSpec : ChangeSpec := { name := "fnPrivateOf", fn := fun _ => fun
  | [d] => { results := [.lit (.bool true)], args := [d] }
  | _ => none }
def fnPrivateOfRow : OpenClaim := { program := "ytojgnfejoeaehaa", sum := "1f72eddc9c6f2b47ee0dc6b2aadeba78c73f1e0da4123427c5a92ee9a83131be", func := "loop.example/guardsonnets/laws.FnPrivateOf", spec := "fnPrivateOf", apart := false }
def FnPrivateOfSaid : Prop := fnPrivateOfRow.holds Try.pinned (OpenSpec.ofChange fnPrivateOfSpec)

/-- ITS FALSE NEIGHBOUR: 'it returns false'. Refute it at one input. -/
def fnPrivateOfWrong : ChangeSpec := { name := "fnPrivateOf", fn := fun _ => fun
  | [d] => { results := [.lit (.bool false)], args := [d] }
  | _ => none }
def FnPrivateOfWrongFalsely : Prop := fnPrivateOfRow.holds Try.pinned (OpenSpec.ofChange fnPrivateOfWrong)

/-- 'laws.FnExactPrivateOf': WHATEVER THE INPUT: true; the input reads as it did. -/
def fnExactPrivateOfSpec : ChangeSpec := { name := "fnExactPrivateOf", fn := fun _ => fun
  | [d1, d2, d3] => { results := [.lit (.bool true)], args := [d1, d2, d3] }
  | _ => none }
def fnExactPrivateOfRow : OpenClaim := { program := "ytojgnfejoeaehaa", sum := "1f72eddc9c6f2b47ee0dc6b2aadeba78c73f1e0da4123427c5a92ee9a83131be", func := "loop.example/guardsonnets/laws.FnExactPrivateOf", spec := "fnExactPrivateOf", apart := false }
def FnExactPrivateOfSaid : Prop := fnExactPrivateOfRow.holds Try.pinned (OpenSpec.ofChange fnExactPrivateOfSpec)

/-- ITS FALSE NEIGHBOUR: 'it returns false'. Refute it at one input. -/
def fnExactPrivateOfWrong : ChangeSpec := { name := "fnExactPrivateOf", fn := fun _ => fun
  | [d1, d2, d3] => { results := [.lit (.bool false)], args := [d1, d2, d3] }
  | _ => none }
def FnExactPrivateOfWrongFalsely : Prop := fnExactPrivateOfRow.holds Try.pinned (OpenSpec.ofChange fnExactPrivateOfWrong)

/-- 'laws.FnNeedsAllOk': WHATEVER THE INPUT: true; the input reads as it did. -/
def fnNeedsAllOkSpec : ChangeSpec := { name := "fnNeedsAllOk", fn := fun _ => fun
  | [d] => { results := [.lit (.bool true)], args := [d] }
  | _ => none }
def fnNeedsAllOkRow : OpenClaim := { program := "ytojgnfejoeaehaa", sum := "1f72eddc9c6f2b47ee0dc6b2aadeba78c73f1e0da4123427c5a92ee9a83131be", func := "loop.example/guardsonnets/laws.FnNeedsAllOk", spec := "fnNeedsAllOk", apart := false }
def FnNeedsAllOkSaid : Prop := fnNeedsAllOkRow.holds Try.pinned (OpenSpec.ofChange fnNeedsAllOkSpec)

/-- ITS FALSE NEIGHBOUR: 'it returns false'. Refute it at one input. -/
def fnNeedsAllOkWrong : ChangeSpec := { name := "fnNeedsAllOk", fn := fun _ => fun
  | [d] => { results := [.lit (.bool false)], args := [d] }
  | _ => none }
def FnNeedsAllOkWrongFalsely : Prop := fnNeedsAllOkRow.holds Try.pinned (OpenSpec.ofChange fnNeedsAllOkWrong)

/-- 'laws.FnExactNeedsAllOk': WHATEVER THE INPUT: true; the input reads as it did. -/
def fnExactNeedsAllOkSpec : ChangeSpec := { name := "fnExactNeedsAllOk", fn := fun _ => fun
  | [d1, d2] => { results := [.lit (.bool true)], args := [d1, d2] }
  | _ => none }
def fnExactNeedsAllOkRow : OpenClaim := { program := "ytojgnfejoeaehaa", sum := "1f72eddc9c6f2b47ee0dc6b2aadeba78c73f1e0da4123427c5a92ee9a83131be", func := "loop.example/guardsonnets/laws.FnExactNeedsAllOk", spec := "fnExactNeedsAllOk", apart := false }
def FnExactNeedsAllOkSaid : Prop := fnExactNeedsAllOkRow.holds Try.pinned (OpenSpec.ofChange fnExactNeedsAllOkSpec)

/-- ITS FALSE NEIGHBOUR: 'it returns false'. Refute it at one input. -/
def fnExactNeedsAllOkWrong : ChangeSpec := { name := "fnExactNeedsAllOk", fn := fun _ => fun
  | [d1, d2] => { results := [.lit (.bool false)], args := [d1, d2] }
  | _ => none }
def FnExactNeedsAllOkWrongFalsely : Prop := fnExactNeedsAllOkRow.holds Try.pinned (OpenSpec.ofChange fnExactNeedsAllOkWrong)

/-- 'laws.FnFullNeedsOk': WHATEVER THE INPUT: true; the input reads as it did. -/
def fnFullNeedsOkSpec : ChangeSpec := { name := "fnFullNeedsOk", fn := fun _ => fun
  | [d] => { results := [.lit (.bool true)], args := [d] }
  | _ => none }
def fnFullNeedsOkRow : OpenClaim := { program := "ytojgnfejoeaehaa", sum := "1f72eddc9c6f2b47ee0dc6b2aadeba78c73f1e0da4123427c5a92ee9a83131be", func := "loop.example/guardsonnets/laws.FnFullNeedsOk", spec := "fnFullNeedsOk", apart := false }
def FnFullNeedsOkSaid : Prop := fnFullNeedsOkRow.holds Try.pinned (OpenSpec.ofChange fnFullNeedsOkSpec)

/-- ITS FALSE NEIGHBOUR: 'it returns false'. Refute it at one input. -/
def fnFullNeedsOkWrong : ChangeSpec := { name := "fnFullNeedsOk", fn := fun _ => fun
  | [d] => { results := [.lit (.bool false)], args := [d] }
  | _ => none }
def FnFullNeedsOkWrongFalsely : Prop := fnFullNeedsOkRow.holds Try.pinned (OpenSpec.ofChange fnFullNeedsOkWrong)

/-- 'laws.FnExactFullNeedsOk': WHATEVER THE INPUT: true; the input reads as it did. -/
def fnExactFullNeedsOkSpec : ChangeSpec := { name := "fnExactFullNeedsOk", fn := fun _ => fun
  | [d1, d2] => { results := [.lit (.bool true)], args := [d1, d2] }
  | _ => none }
def fnExactFullNeedsOkRow : OpenClaim := { program := "ytojgnfejoeaehaa", sum := "1f72eddc9c6f2b47ee0dc6b2aadeba78c73f1e0da4123427c5a92ee9a83131be", func := "loop.example/guardsonnets/laws.FnExactFullNeedsOk", spec := "fnExactFullNeedsOk", apart := false }
def FnExactFullNeedsOkSaid : Prop := fnExactFullNeedsOkRow.holds Try.pinned (OpenSpec.ofChange fnExactFullNeedsOkSpec)

/-- ITS FALSE NEIGHBOUR: 'it returns false'. Refute it at one input. -/
def fnExactFullNeedsOkWrong : ChangeSpec := { name := "fnExactFullNeedsOk", fn := fun _ => fun
  | [d1, d2] => { results := [.lit (.bool false)], args := [d1, d2] }
  | _ => none }
def FnExactFullNeedsOkWrongFalsely : Prop := fnExactFullNeedsOkRow.holds Try.pinned (OpenSpec.ofChange fnExactFullNeedsOkWrong)

/-- 'laws.FnSeenTwice': WHATEVER THE INPUT: true; the input reads as it did. -/
def fnSeenTwiceSpec : ChangeSpec := { name := "fnSeenTwice", fn := fun _ => fun
  | [d] => { results := [.lit (.bool true)], args := [d] }
  | _ => none }
def fnSeenTwiceRow : OpenClaim := { program := "ytojgnfejoeaehaa", sum := "1f72eddc9c6f2b47ee0dc6b2aadeba78c73f1e0da4123427c5a92ee9a83131be", func := "loop.example/guardsonnets/laws.FnSeenTwice", spec := "fnSeenTwice", apart := false }
def FnSeenTwiceSaid : Prop := fnSeenTwiceRow.holds Try.pinned (OpenSpec.ofChange fnSeenTwiceSpec)

/-- ITS FALSE NEIGHBOUR: 'it returns false'. Refute it at one input. -/
def fnSeenTwiceWrong : ChangeSpec := { name := "fnSeenTwice", fn := fun _ => fun
  | [d] => { results := [.lit (.bool false)], args := [d] }
  | _ => none }
def FnSeenTwiceWrongFalsely : Prop := fnSeenTwiceRow.holds Try.pinned (OpenSpec.ofChange fnSeenTwiceWrong)

/-- 'laws.FnExactSeenTwice': WHATEVER THE INPUT: true; the input reads as it did. -/
def fnExactSeenTwiceSpec : ChangeSpec := { name := "fnExactSeenTwice", fn := fun _ => fun
  | [d1, d2] => { results := [.lit (.bool true)], args := [d1, d2] }
  | _ => none }
def fnExactSeenTwiceRow : OpenClaim := { program := "ytojgnfejoeaehaa", sum := "1f72eddc9c6f2b47ee0dc6b2aadeba78c73f1e0da4123427c5a92ee9a83131be", func := "loop.example/guardsonnets/laws.FnExactSeenTwice", spec := "fnExactSeenTwice", apart := false }
def FnExactSeenTwiceSaid : Prop := fnExactSeenTwiceRow.holds Try.pinned (OpenSpec.ofChange fnExactSeenTwiceSpec)

/-- ITS FALSE NEIGHBOUR: 'it returns false'. Refute it at one input. -/
def fnExactSeenTwiceWrong : ChangeSpec := { name := "fnExactSeenTwice", fn := fun _ => fun
  | [d1, d2] => { results := [.lit (.bool false)], args := [d1, d2] }
  | _ => none }
def FnExactSeenTwiceWrongFalsely : Prop := fnExactSeenTwiceRow.holds Try.pinned (OpenSpec.ofChange fnExactSeenTwiceWrong)

/-- 'laws.FnApartOk': WHATEVER THE INPUT: true; the input reads as it did. -/
def fnApartOkSpec : ChangeSpec := { name := "fnApartOk", fn := fun _ => fun
  | [d] => { results := [.lit (.bool true)], args := [d] }
  | _ => none }
def fnApartOkRow : OpenClaim := { program := "ytojgnfejoeaehaa", sum := "1f72eddc9c6f2b47ee0dc6b2aadeba78c73f1e0da4123427c5a92ee9a83131be", func := "loop.example/guardsonnets/laws.FnApartOk", spec := "fnApartOk", apart := false }
def FnApartOkSaid : Prop := fnApartOkRow.holds Try.pinned (OpenSpec.ofChange fnApartOkSpec)

/-- ITS FALSE NEIGHBOUR: 'it returns false'. Refute it at one input. -/
def fnApartOkWrong : ChangeSpec := { name := "fnApartOk", fn := fun _ => fun
  | [d] => { results := [.lit (.bool false)], args := [d] }
  | _ => none }
def FnApartOkWrongFalsely : Prop := fnApartOkRow.holds Try.pinned (OpenSpec.ofChange fnApartOkWrong)

/-- 'laws.FnExactApartOk': WHATEVER THE INPUT: true; the input reads as it did. -/
def fnExactApartOkSpec : ChangeSpec := { name := "fnExactApartOk", fn := fun _ => fun
  | [d1, d2] => { results := [.lit (.bool true)], args := [d1, d2] }
  | _ => none }
def fnExactApartOkRow : OpenClaim := { program := "ytojgnfejoeaehaa", sum := "1f72eddc9c6f2b47ee0dc6b2aadeba78c73f1e0da4123427c5a92ee9a83131be", func := "loop.example/guardsonnets/laws.FnExactApartOk", spec := "fnExactApartOk", apart := false }
def FnExactApartOkSaid : Prop := fnExactApartOkRow.holds Try.pinned (OpenSpec.ofChange fnExactApartOkSpec)

/-- ITS FALSE NEIGHBOUR: 'it returns false'. Refute it at one input. -/
def fnExactApartOkWrong : ChangeSpec := { name := "fnExactApartOk", fn := fun _ => fun
  | [d1, d2] => { results := [.lit (.bool false)], args := [d1, d2] }
  | _ => none }
def FnExactApartOkWrongFalsely : Prop := fnExactApartOkRow.holds Try.pinned (OpenSpec.ofChange fnExactApartOkWrong)

/-- 'laws.FnFullApartOk': WHATEVER THE INPUT: true; the input reads as it did. -/
def fnFullApartOkSpec : ChangeSpec := { name := "fnFullApartOk", fn := fun _ => fun
  | [d] => { results := [.lit (.bool true)], args := [d] }
  | _ => none }
def fnFullApartOkRow : OpenClaim := { program := "ytojgnfejoeaehaa", sum := "1f72eddc9c6f2b47ee0dc6b2aadeba78c73f1e0da4123427c5a92ee9a83131be", func := "loop.example/guardsonnets/laws.FnFullApartOk", spec := "fnFullApartOk", apart := false }
def FnFullApartOkSaid : Prop := fnFullApartOkRow.holds Try.pinned (OpenSpec.ofChange fnFullApartOkSpec)

/-- ITS FALSE NEIGHBOUR: 'it returns false'. Refute it at one input. -/
def fnFullApartOkWrong : ChangeSpec := { name := "fnFullApartOk", fn := fun _ => fun
  | [d] => { results := [.lit (.bool false)], args := [d] }
  | _ => none }
def FnFullApartOkWrongFalsely : Prop := fnFullApartOkRow.holds Try.pinned (OpenSpec.ofChange fnFullApartOkWrong)

/-- 'laws.FnExactFullApartOk': WHATEVER THE INPUT: true; the input reads as it did. -/
def fnExactFullApartOkSpec : ChangeSpec := { name := "fnExactFullApartOk", fn := fun _ => fun
  | [d1, d2] => { results := [.lit (.bool true)], args := [d1, d2] }
  | _ => none }
def fnExactFullApartOkRow : OpenClaim := { program := "ytojgnfejoeaehaa", sum := "1f72eddc9c6f2b47ee0dc6b2aadeba78c73f1e0da4123427c5a92ee9a83131be", func := "loop.example/guardsonnets/laws.FnExactFullApartOk", spec := "fnExactFullApartOk", apart := false }
def FnExactFullApartOkSaid : Prop := fnExactFullApartOkRow.holds Try.pinned (OpenSpec.ofChange fnExactFullApartOkSpec)

/-- ITS FALSE NEIGHBOUR: 'it returns false'. Refute it at one input. -/
def fnExactFullApartOkWrong : ChangeSpec := { name := "fnExactFullApartOk", fn := fun _ => fun
  | [d1, d2] => { results := [.lit (.bool false)], args := [d1, d2] }
  | _ => none }
def FnExactFullApartOkWrongFalsely : Prop := fnExactFullApartOkRow.holds Try.pinned (OpenSpec.ofChange fnExactFullApartOkWrong)

/-- 'laws.FnGrownApart': WHATEVER THE INPUT: true; the input reads as it did. -/
def fnGrownApartSpec : ChangeSpec := { name := "fnGrownApart", fn := fun _ => fun
  | [d] => { results := [.lit (.bool true)], args := [d] }
  | _ => none }
def fnGrownApartRow : OpenClaim := { program := "ytojgnfejoeaehaa", sum := "1f72eddc9c6f2b47ee0dc6b2aadeba78c73f1e0da4123427c5a92ee9a83131be", func := "loop.example/guardsonnets/laws.FnGrownApart", spec := "fnGrownApart", apart := false }
def FnGrownApartSaid : Prop := fnGrownApartRow.holds Try.pinned (OpenSpec.ofChange fnGrownApartSpec)

/-- ITS FALSE NEIGHBOUR: 'it returns false'. Refute it at one input. -/
def fnGrownApartWrong : ChangeSpec := { name := "fnGrownApart", fn := fun _ => fun
  | [d] => { results := [.lit (.bool false)], args := [d] }
  | _ => none }
def FnGrownApartWrongFalsely : Prop := fnGrownApartRow.holds Try.pinned (OpenSpec.ofChange fnGrownApartWrong)

/-- 'laws.FnExactGrownApart': WHATEVER THE INPUT: true; the input reads as it did. -/
def fnExactGrownApartSpec : ChangeSpec := { name := "fnExactGrownApart", fn := fun _ => fun
  | [d1, d2] => { results := [.lit (.bool true)], args := [d1, d2] }
  | _ => none }
def fnExactGrownApartRow : OpenClaim := { program := "ytojgnfejoeaehaa", sum := "1f72eddc9c6f2b47ee0dc6b2aadeba78c73f1e0da4123427c5a92ee9a83131be", func := "loop.example/guardsonnets/laws.FnExactGrownApart", spec := "fnExactGrownApart", apart := false }
def FnExactGrownApartSaid : Prop := fnExactGrownApartRow.holds Try.pinned (OpenSpec.ofChange fnExactGrownApartSpec)

/-- ITS FALSE NEIGHBOUR: 'it returns false'. Refute it at one input. -/
def fnExactGrownApartWrong : ChangeSpec := { name := "fnExactGrownApart", fn := fun _ => fun
  | [d1, d2] => { results := [.lit (.bool false)], args := [d1, d2] }
  | _ => none }
def FnExactGrownApartWrongFalsely : Prop := fnExactGrownApartRow.holds Try.pinned (OpenSpec.ofChange fnExactGrownApartWrong)

/- THE SECOND FORM. 'bulk': how many values and letters a reading holds, each counted each time it is reached (what is shared counts as often as it is met; a slice's spare places count too). A statement '..UptoSaid' is the law's where the arguments, and the package variables that the reading takes, are together of bulk at most 1048576: NARROWER than '..Said'. Prove '..Said' where nothing that the law and all that it calls make is longer than what came in: it says more and counts as full. Else prove '..UptoSaid'. A law counts once. -/
mutual
def uptoBulk {H : Type} : DataW H → Nat
  | .lit (.string bytes) => bytes.length + 1
  | .lit _ => 1
  | .nil => 1
  | .ptr d => uptoBulk d + 1
  | .slice elems spare => uptoBulkAll elems + uptoBulkAll spare + 1
  | .agg parts => uptoBulkAll parts + 1
  | .iface _ d => uptoBulk d + 1
  | .map entries => uptoBulkEntries entries + 1
  | .held _ => 1
def uptoBulkAll {H : Type} : List (DataW H) → Nat
  | [] => 0
  | d :: r => uptoBulk d + uptoBulkAll r
def uptoBulkEntries {H : Type} : List (Lit × DataW H) → Nat
  | [] => 0
  | x :: r => uptoBulkEntry x + uptoBulkEntries r
def uptoBulkEntry {H : Type} : Lit × DataW H → Nat
  | (.string bytes, d) => bytes.length + uptoBulk d + 1
  | (_, d) => uptoBulk d + 1
 end
def uptoSmall : (H : Type) → List (DataW H) → Bool := fun _ ds => decide (uptoBulkAll ds ≤ 1048576)
def OpenSpec.upto (s : _root_.Go.ChangeSpec) : _root_.Go.OpenSpec := { _root_.Go.OpenSpec.ofChange s with cond := some uptoSmall }

/-- 'laws.FnPrivateOf', WHERE WHAT IT READS IS OF BULK AT MOST 1048576: true; the input reads as it did. -/
def fnPrivateOfUptoRow : OpenClaim := { program := "ytojgnfejoeaehaa", sum := "1f72eddc9c6f2b47ee0dc6b2aadeba78c73f1e0da4123427c5a92ee9a83131be", func := "loop.example/guardsonnets/laws.FnPrivateOf", spec := "fnPrivateOf", apart := false, narrowed := true }
def FnPrivateOfUptoSaid : Prop := fnPrivateOfUptoRow.holds Try.pinned (OpenSpec.upto fnPrivateOfSpec)

/-- 'laws.FnExactPrivateOf', WHERE WHAT IT READS IS OF BULK AT MOST 1048576: true; the input reads as it did. -/
def fnExactPrivateOfUptoRow : OpenClaim := { program := "ytojgnfejoeaehaa", sum := "1f72eddc9c6f2b47ee0dc6b2aadeba78c73f1e0da4123427c5a92ee9a83131be", func := "loop.example/guardsonnets/laws.FnExactPrivateOf", spec := "fnExactPrivateOf", apart := false, narrowed := true }
def FnExactPrivateOfUptoSaid : Prop := fnExactPrivateOfUptoRow.holds Try.pinned (OpenSpec.upto fnExactPrivateOfSpec)

/-- 'laws.FnNeedsAllOk', WHERE WHAT IT READS IS OF BULK AT MOST 1048576: true; the input reads as it did. -/
def fnNeedsAllOkUptoRow : OpenClaim := { program := "ytojgnfejoeaehaa", sum := "1f72eddc9c6f2b47ee0dc6b2aadeba78c73f1e0da4123427c5a92ee9a83131be", func := "loop.example/guardsonnets/laws.FnNeedsAllOk", spec := "fnNeedsAllOk", apart := false, narrowed := true }
def FnNeedsAllOkUptoSaid : Prop := fnNeedsAllOkUptoRow.holds Try.pinned (OpenSpec.upto fnNeedsAllOkSpec)

/-- 'laws.FnExactNeedsAllOk', WHERE WHAT IT READS IS OF BULK AT MOST 1048576: true; the input reads as it did. -/
def fnExactNeedsAllOkUptoRow : OpenClaim := { program := "ytojgnfejoeaehaa", sum := "1f72eddc9c6f2b47ee0dc6b2aadeba78c73f1e0da4123427c5a92ee9a83131be", func := "loop.example/guardsonnets/laws.FnExactNeedsAllOk", spec := "fnExactNeedsAllOk", apart := false, narrowed := true }
def FnExactNeedsAllOkUptoSaid : Prop := fnExactNeedsAllOkUptoRow.holds Try.pinned (OpenSpec.upto fnExactNeedsAllOkSpec)

/-- 'laws.FnFullNeedsOk', WHERE WHAT IT READS IS OF BULK AT MOST 1048576: true; the input reads as it did. -/
def fnFullNeedsOkUptoRow : OpenClaim := { program := "ytojgnfejoeaehaa", sum := "1f72eddc9c6f2b47ee0dc6b2aadeba78c73f1e0da4123427c5a92ee9a83131be", func := "loop.example/guardsonnets/laws.FnFullNeedsOk", spec := "fnFullNeedsOk", apart := false, narrowed := true }
def FnFullNeedsOkUptoSaid : Prop := fnFullNeedsOkUptoRow.holds Try.pinned (OpenSpec.upto fnFullNeedsOkSpec)

/-- 'laws.FnExactFullNeedsOk', WHERE WHAT IT READS IS OF BULK AT MOST 1048576: true; the input reads as it did. -/
def fnExactFullNeedsOkUptoRow : OpenClaim := { program := "ytojgnfejoeaehaa", sum := "1f72eddc9c6f2b47ee0dc6b2aadeba78c73f1e0da4123427c5a92ee9a83131be", func := "loop.example/guardsonnets/laws.FnExactFullNeedsOk", spec := "fnExactFullNeedsOk", apart := false, narrowed := true }
def FnExactFullNeedsOkUptoSaid : Prop := fnExactFullNeedsOkUptoRow.holds Try.pinned (OpenSpec.upto fnExactFullNeedsOkSpec)

/-- 'laws.FnSeenTwice', WHERE WHAT IT READS IS OF BULK AT MOST 1048576: true; the input reads as it did. -/
def fnSeenTwiceUptoRow : OpenClaim := { program := "ytojgnfejoeaehaa", sum := "1f72eddc9c6f2b47ee0dc6b2aadeba78c73f1e0da4123427c5a92ee9a83131be", func := "loop.example/guardsonnets/laws.FnSeenTwice", spec := "fnSeenTwice", apart := false, narrowed := true }
def FnSeenTwiceUptoSaid : Prop := fnSeenTwiceUptoRow.holds Try.pinned (OpenSpec.upto fnSeenTwiceSpec)

/-- 'laws.FnExactSeenTwice', WHERE WHAT IT READS IS OF BULK AT MOST 1048576: true; the input reads as it did. -/
def fnExactSeenTwiceUptoRow : OpenClaim := { program := "ytojgnfejoeaehaa", sum := "1f72eddc9c6f2b47ee0dc6b2aadeba78c73f1e0da4123427c5a92ee9a83131be", func := "loop.example/guardsonnets/laws.FnExactSeenTwice", spec := "fnExactSeenTwice", apart := false, narrowed := true }
def FnExactSeenTwiceUptoSaid : Prop := fnExactSeenTwiceUptoRow.holds Try.pinned (OpenSpec.upto fnExactSeenTwiceSpec)

/-- 'laws.FnApartOk', WHERE WHAT IT READS IS OF BULK AT MOST 1048576: true; the input reads as it did. -/
def fnApartOkUptoRow : OpenClaim := { program := "ytojgnfejoeaehaa", sum := "1f72eddc9c6f2b47ee0dc6b2aadeba78c73f1e0da4123427c5a92ee9a83131be", func := "loop.example/guardsonnets/laws.FnApartOk", spec := "fnApartOk", apart := false, narrowed := true }
def FnApartOkUptoSaid : Prop := fnApartOkUptoRow.holds Try.pinned (OpenSpec.upto fnApartOkSpec)

/-- 'laws.FnExactApartOk', WHERE WHAT IT READS IS OF BULK AT MOST 1048576: true; the input reads as it did. -/
def fnExactApartOkUptoRow : OpenClaim := { program := "ytojgnfejoeaehaa", sum := "1f72eddc9c6f2b47ee0dc6b2aadeba78c73f1e0da4123427c5a92ee9a83131be", func := "loop.example/guardsonnets/laws.FnExactApartOk", spec := "fnExactApartOk", apart := false, narrowed := true }
def FnExactApartOkUptoSaid : Prop := fnExactApartOkUptoRow.holds Try.pinned (OpenSpec.upto fnExactApartOkSpec)

/-- 'laws.FnFullApartOk', WHERE WHAT IT READS IS OF BULK AT MOST 1048576: true; the input reads as it did. -/
def fnFullApartOkUptoRow : OpenClaim := { program := "ytojgnfejoeaehaa", sum := "1f72eddc9c6f2b47ee0dc6b2aadeba78c73f1e0da4123427c5a92ee9a83131be", func := "loop.example/guardsonnets/laws.FnFullApartOk", spec := "fnFullApartOk", apart := false, narrowed := true }
def FnFullApartOkUptoSaid : Prop := fnFullApartOkUptoRow.holds Try.pinned (OpenSpec.upto fnFullApartOkSpec)

/-- 'laws.FnExactFullApartOk', WHERE WHAT IT READS IS OF BULK AT MOST 1048576: true; the input reads as it did. -/
def fnExactFullApartOkUptoRow : OpenClaim := { program := "ytojgnfejoeaehaa", sum := "1f72eddc9c6f2b47ee0dc6b2aadeba78c73f1e0da4123427c5a92ee9a83131be", func := "loop.example/guardsonnets/laws.FnExactFullApartOk", spec := "fnExactFullApartOk", apart := false, narrowed := true }
def FnExactFullApartOkUptoSaid : Prop := fnExactFullApartOkUptoRow.holds Try.pinned (OpenSpec.upto fnExactFullApartOkSpec)

/-- 'laws.FnGrownApart', WHERE WHAT IT READS IS OF BULK AT MOST 1048576: true; the input reads as it did. -/
def fnGrownApartUptoRow : OpenClaim := { program := "ytojgnfejoeaehaa", sum := "1f72eddc9c6f2b47ee0dc6b2aadeba78c73f1e0da4123427c5a92ee9a83131be", func := "loop.example/guardsonnets/laws.FnGrownApart", spec := "fnGrownApart", apart := false, narrowed := true }
def FnGrownApartUptoSaid : Prop := fnGrownApartUptoRow.holds Try.pinned (OpenSpec.upto fnGrownApartSpec)

/-- 'laws.FnExactGrownApart', WHERE WHAT IT READS IS OF BULK AT MOST 1048576: true; the input reads as it did. -/
def fnExactGrownApartUptoRow : OpenClaim := { program := "ytojgnfejoeaehaa", sum := "1f72eddc9c6f2b47ee0dc6b2aadeba78c73f1e0da4123427c5a92ee9a83131be", func := "loop.example/guardsonnets/laws.FnExactGrownApart", spec := "fnExactGrownApart", apart := false, narrowed := true }
def FnExactGrownApartUptoSaid : Prop := fnExactGrownApartUptoRow.holds Try.pinned (OpenSpec.upto fnExactGrownApartSpec)

end Rows
end Go.Proofs.Ytojgnfejoeaehaa
