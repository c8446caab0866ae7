/-
  No cell of these rows narrows 'for every input' (looked for: loops, veiled, ifaces, maps, wideKeys, modest, calm, conditions, laid).
  DERIVED. THE GIVEN ROWS OF THIS SEAT. 6 by the template 'for every input the law returns true; each argument reads behind the call as it read before'; 0 by the template 'total and deterministic' (their statements: YtbacbipopdokgaaTotals.lean).
  GIVEN WITH THE SEED: the statements are not yours to turn. If you find one false, say at which input.
  Laid BY PROGRAM, IN A SANDBOX (cutbox-rows.mjs): the forced cells as the released guide's own fill.sh prints them over the translation 56f41da927da561f… (all of the seat's roots in one cut). By AI agents, Wed Nov 11 2026. No macro, syntax, notation, axiom, sorry.
-/
import Derived.Test.YtbacbipopdokgaaChecked
import GoSem.Claim
import GoSem.ClaimJoined
import GoSem.ClaimMapViews
import Derived.JoinedTies
import Derived.KernelRfl
namespace Go.Proofs.Ytbacbipopdokgaa
/- THE CELL 'sum', in the pinned program and in every row, IS THE sha256 OF THE DUMP (.gsa) THAT YtbacbipopdokgaaProg.lean LOADS. Nothing in Lean hashes anything: it is a label: what it is worth is what the hold of that sum in a sandbox is worth. -/
noncomputable def Try.pinned : Pinned := { name := "ytbacbipopdokgaa", sum := "56f41da927da561fee44c1c671a634cb3d823e0d7456e2b5c7df463e4333799d", checked := Try.checked }
namespace Rows
def none {H : Type} : Left H := { results := [], args := [] }

/-- 'laws.FnFirstPost': WHATEVER THE INPUT: true; the input reads as it did. -/
def fnFirstPostSpec : ChangeSpec := { name := "fnFirstPost", fn := fun _ => fun
  | [d] => { results := [.lit (.bool true)], args := [d] }
  | _ => none }
def fnFirstPostRow : OpenClaim := { program := "ytbacbipopdokgaa", sum := "56f41da927da561fee44c1c671a634cb3d823e0d7456e2b5c7df463e4333799d", func := "loop.example/guardsonnets/laws.FnFirstPost", spec := "fnFirstPost", apart := false }
def FnFirstPostSaid : Prop := fnFirstPostRow.holds Try.pinned (OpenSpec.ofChange fnFirstPostSpec)

/-- ITS FALSE NEIGHBOUR: 'it returns false'. Refute it at one input. -/
def fnFirstPostWrong : ChangeSpec := { name := "fnFirstPost", fn := fun _ => fun
  | [d] => { results := [.lit (.bool false)], args := [d] }
  | _ => none }
def FnFirstPostWrongFalsely : Prop := fnFirstPostRow.holds Try.pinned (OpenSpec.ofChange fnFirstPostWrong)

/-- 'laws.FnExactFirstPost': WHATEVER THE INPUT: true; the input reads as it did. -/
def fnExactFirstPostSpec : ChangeSpec := { name := "fnExactFirstPost", fn := fun _ => fun
  | [d] => { results := [.lit (.bool true)], args := [d] }
  | _ => none }
def fnExactFirstPostRow : OpenClaim := { program := "ytbacbipopdokgaa", sum := "56f41da927da561fee44c1c671a634cb3d823e0d7456e2b5c7df463e4333799d", func := "loop.example/guardsonnets/laws.FnExactFirstPost", spec := "fnExactFirstPost", apart := false }
def FnExactFirstPostSaid : Prop := fnExactFirstPostRow.holds Try.pinned (OpenSpec.ofChange fnExactFirstPostSpec)

/-- ITS FALSE NEIGHBOUR: 'it returns false'. Refute it at one input. -/
def fnExactFirstPostWrong : ChangeSpec := { name := "fnExactFirstPost", fn := fun _ => fun
  | [d] => { results := [.lit (.bool false)], args := [d] }
  | _ => none }
def FnExactFirstPostWrongFalsely : Prop := fnExactFirstPostRow.holds Try.pinned (OpenSpec.ofChange fnExactFirstPostWrong)

/-- 'laws.FnLogOf': WHATEVER THE INPUT: true; the input reads as it did. -/
def fnLogOfSpec : ChangeSpec := { name := "fnLogOf", fn := fun _ => fun
  | [d] => { results := [.lit (.bool true)], args := [d] }
  | _ => none }
def fnLogOfRow : OpenClaim := { program := "ytbacbipopdokgaa", sum := "56f41da927da561fee44c1c671a634cb3d823e0d7456e2b5c7df463e4333799d", func := "loop.example/guardsonnets/laws.FnLogOf", spec := "fnLogOf", apart := false }
def FnLogOfSaid : Prop := fnLogOfRow.holds Try.pinned (OpenSpec.ofChange fnLogOfSpec)

/-- ITS FALSE NEIGHBOUR: 'it returns false'. Refute it at one input. -/
def fnLogOfWrong : ChangeSpec := { name := "fnLogOf", fn := fun _ => fun
  | [d] => { results := [.lit (.bool false)], args := [d] }
  | _ => none }
def FnLogOfWrongFalsely : Prop := fnLogOfRow.holds Try.pinned (OpenSpec.ofChange fnLogOfWrong)

/-- 'laws.FnExactLogOf': WHATEVER THE INPUT: true; the input reads as it did. -/
def fnExactLogOfSpec : ChangeSpec := { name := "fnExactLogOf", fn := fun _ => fun
  | [d] => { results := [.lit (.bool true)], args := [d] }
  | _ => none }
def fnExactLogOfRow : OpenClaim := { program := "ytbacbipopdokgaa", sum := "56f41da927da561fee44c1c671a634cb3d823e0d7456e2b5c7df463e4333799d", func := "loop.example/guardsonnets/laws.FnExactLogOf", spec := "fnExactLogOf", apart := false }
def FnExactLogOfSaid : Prop := fnExactLogOfRow.holds Try.pinned (OpenSpec.ofChange fnExactLogOfSpec)

/-- ITS FALSE NEIGHBOUR: 'it returns false'. Refute it at one input. -/
def fnExactLogOfWrong : ChangeSpec := { name := "fnExactLogOf", fn := fun _ => fun
  | [d] => { results := [.lit (.bool false)], args := [d] }
  | _ => none }
def FnExactLogOfWrongFalsely : Prop := fnExactLogOfRow.holds Try.pinned (OpenSpec.ofChange fnExactLogOfWrong)

/-- 'laws.FnLogPlaces': WHATEVER THE INPUT: true; the input reads as it did. -/
def fnLogPlacesSpec : ChangeSpec := { name := "fnLogPlaces", fn := fun _ => fun
  | [d] => { results := [.lit (.bool true)], args := [d] }
  | _ => none }
def fnLogPlacesRow : OpenClaim := { program := "ytbacbipopdokgaa", sum := "56f41da927da561fee44c1c671a634cb3d823e0d7456e2b5c7df463e4333799d", func := "loop.example/guardsonnets/laws.FnLogPlaces", spec := "fnLogPlaces", apart := false }
def FnLogPlacesSaid : Prop := fnLogPlacesRow.holds Try.pinned (OpenSpec.ofChange fnLogPlacesSpec)

/-- ITS FALSE NEIGHBOUR: 'it returns false'. Refute it at one input. -/
def fnLogPlacesWrong : ChangeSpec := { name := "fnLogPlaces", fn := fun _ => fun
  | [d] => { results := [.lit (.bool false)], args := [d] }
  | _ => none }
def FnLogPlacesWrongFalsely : Prop := fnLogPlacesRow.holds Try.pinned (OpenSpec.ofChange fnLogPlacesWrong)

/-- 'laws.FnExactLogPlaces': WHATEVER THE INPUT: true; the input reads as it did. -/
def fnExactLogPlacesSpec : ChangeSpec := { name := "fnExactLogPlaces", fn := fun _ => fun
  | [d] => { results := [.lit (.bool true)], args := [d] }
  | _ => none }
def fnExactLogPlacesRow : OpenClaim := { program := "ytbacbipopdokgaa", sum := "56f41da927da561fee44c1c671a634cb3d823e0d7456e2b5c7df463e4333799d", func := "loop.example/guardsonnets/laws.FnExactLogPlaces", spec := "fnExactLogPlaces", apart := false }
def FnExactLogPlacesSaid : Prop := fnExactLogPlacesRow.holds Try.pinned (OpenSpec.ofChange fnExactLogPlacesSpec)

/-- ITS FALSE NEIGHBOUR: 'it returns false'. Refute it at one input. -/
def fnExactLogPlacesWrong : ChangeSpec := { name := "fnExactLogPlaces", fn := fun _ => fun
  | [d] => { results := [.lit (.bool false)], args := [d] }
  | _ => none }
def FnExactLogPlacesWrongFalsely : Prop := fnExactLogPlacesRow.holds Try.pinned (OpenSpec.ofChange fnExactLogPlacesWrong)

/- THE SECOND FORM. 'bulk': how many values and letters a reading holds, each counted each time it is reached (what is shared counts as often as it is met; a slice's spare places count too). A statement '..UptoSaid' is the law's where the arguments, and the package variables that the reading takes, are together of bulk at most 1048576: NARROWER than '..Said'. Prove '..Said' where nothing that the law and all that it calls make is longer than what came in: it says more and counts as full. Else prove '..UptoSaid'. A law counts once. -/
mutual
def uptoBulk {H : Type} : DataW H → Nat
  | .lit (.string bytes) => bytes.length + 1
  | .lit _ => 1
  | .nil => 1
  | .ptr d => uptoBulk d + 1
  | .slice elems spare => uptoBulkAll elems + uptoBulkAll spare + 1
  | .agg parts => uptoBulkAll parts + 1
  | .iface _ d => uptoBulk d + 1
  | .map entries => uptoBulkEntries entries + 1
  | .held _ => 1
def uptoBulkAll {H : Type} : List (DataW H) → Nat
  | [] => 0
  | d :: r => uptoBulk d + uptoBulkAll r
def uptoBulkEntries {H : Type} : List (Lit × DataW H) → Nat
  | [] => 0
  | x :: r => uptoBulkEntry x + uptoBulkEntries r
def uptoBulkEntry {H : Type} : Lit × DataW H → Nat
  | (.string bytes, d) => bytes.length + uptoBulk d + 1
  | (_, d) => uptoBulk d + 1
 end
def uptoSmall : (H : Type) → List (DataW H) → Bool := fun _ ds => decide (uptoBulkAll ds ≤ 1048576)
def OpenSpec.upto (s : _root_.Go.ChangeSpec) : _root_.Go.OpenSpec := { _root_.Go.OpenSpec.ofChange s with cond := some uptoSmall }

/-- 'laws.FnFirstPost', WHERE WHAT IT READS IS OF BULK AT MOST 1048576: true; the input reads as it did. -/
def fnFirstPostUptoRow : OpenClaim := { program := "ytbacbipopdokgaa", sum := "56f41da927da561fee44c1c671a634cb3d823e0d7456e2b5c7df463e4333799d", func := "loop.example/guardsonnets/laws.FnFirstPost", spec := "fnFirstPost", apart := false, narrowed := true }
def FnFirstPostUptoSaid : Prop := fnFirstPostUptoRow.holds Try.pinned (OpenSpec.upto fnFirstPostSpec)

/-- 'laws.FnExactFirstPost', WHERE WHAT IT READS IS OF BULK AT MOST 1048576: true; the input reads as it did. -/
def fnExactFirstPostUptoRow : OpenClaim := { program := "ytbacbipopdokgaa", sum := "56f41da927da561fee44c1c671a634cb3d823e0d7456e2b5c7df463e4333799d", func := "loop.example/guardsonnets/laws.FnExactFirstPost", spec := "fnExactFirstPost", apart := false, narrowed := true }
def FnExactFirstPostUptoSaid : Prop := fnExactFirstPostUptoRow.holds Try.pinned (OpenSpec.upto fnExactFirstPostSpec)

/-- 'laws.FnLogOf', WHERE WHAT IT READS IS OF BULK AT MOST 1048576: true; the input reads as it did. -/
def fnLogOfUptoRow : OpenClaim := { program := "ytbacbipopdokgaa", sum := "56f41da927da561fee44c1c671a634cb3d823e0d7456e2b5c7df463e4333799d", func := "loop.example/guardsonnets/laws.FnLogOf", spec := "fnLogOf", apart := false, narrowed := true }
def FnLogOfUptoSaid : Prop := fnLogOfUptoRow.holds Try.pinned (OpenSpec.upto fnLogOfSpec)

/-- 'laws.FnExactLogOf', WHERE WHAT IT READS IS OF BULK AT MOST 1048576: true; the input reads as it did. -/
def fnExactLogOfUptoRow : OpenClaim := { program := "ytbacbipopdokgaa", sum := "56f41da927da561fee44c1c671a634cb3d823e0d7456e2b5c7df463e4333799d", func := "loop.example/guardsonnets/laws.FnExactLogOf", spec := "fnExactLogOf", apart := false, narrowed := true }
def FnExactLogOfUptoSaid : Prop := fnExactLogOfUptoRow.holds Try.pinned (OpenSpec.upto fnExactLogOfSpec)

/-- 'laws.FnLogPlaces', WHERE WHAT IT READS IS OF BULK AT MOST 1048576: true; the input reads as it did. -/
def fnLogPlacesUptoRow : OpenClaim := { program := "ytbacbipopdokgaa", sum := "56f41da927da561fee44c1c671a634cb3d823e0d7456e2b5c7df463e4333799d", func := "loop.example/guardsonnets/laws.FnLogPlaces", spec := "fnLogPlaces", apart := false, narrowed := true }
def FnLogPlacesUptoSaid : Prop := fnLogPlacesUptoRow.holds Try.pinned (OpenSpec.upto fnLogPlacesSpec)

/-- 'laws.FnExactLogPlaces', WHERE WHAT IT READS IS OF BULK AT MOST 1048576: true; the input reads as it did. -/
def fnExactLogPlacesUptoRow : OpenClaim := { program := "ytbacbipopdokgaa", sum := "56f41da927da561fee44c1c671a634cb3d823e0d7456e2b5c7df463e4333799d", func := "loop.example/guardsonnets/laws.FnExactLogPlaces", spec := "fnExactLogPlaces", apart := false, narrowed := true }
def FnExactLogPlacesUptoSaid : Prop := fnExactLogPlacesUptoRow.holds Try.pinned (OpenSpec.upto fnExactLogPlacesSpec)

end Rows
end Go.Proofs.Ytbacbipopdokgaa
