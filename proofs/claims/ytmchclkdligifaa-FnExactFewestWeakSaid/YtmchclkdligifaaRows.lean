/-
  No cell of these rows narrows 'for every input' (looked for: loops, veiled, ifaces, maps, wideKeys, modest, calm, conditions, laid).
  DERIVED. THE GIVEN ROWS OF THIS SEAT. 10 by the template 'for every input the law returns true; each argument reads behind the call as it read before'; 0 by the template 'total and deterministic' (their statements: YtmchclkdligifaaTotals.lean).
  GIVEN WITH THE SEED: the statements are not yours to turn. If you find one false, say at which input.
  Laid BY PROGRAM, IN A SANDBOX (cutbox-rows.mjs): the forced cells as the released guide's own fill.sh prints them over the translation 9a8a122e54014850… (all of the seat's roots in one cut). By AI agents, Wed Nov 11 2026. No macro, syntax, notation, axiom, sorry.
-/
import Derived.Test.YtmchclkdligifaaChecked
import GoSem.Claim
import GoSem.ClaimJoined
import GoSem.ClaimMapViews
import Derived.JoinedTies
import Derived.KernelRfl
namespace Go.Proofs.Ytmchclkdligifaa
/- THE CELL 'sum', in the pinned program and in every row, IS THE sha256 OF THE DUMP (.gsa) THAT YtmchclkdligifaaProg.lean LOADS. Nothing in Lean hashes anything: it is a label: what it is worth is what the hold of that sum in a sandbox is worth. -/
noncomputable def Try.pinned : Pinned := { name := "ytmchclkdligifaa", sum := "9a8a122e5401485081a5680f6c8f98ecf486fb47505ac0e1ec797fced61a2a18", checked := Try.checked }
namespace Rows
def none {H : Type} : Left H := { results := [], args := [] }

/-- 'laws.FnGuardMoved': WHATEVER THE INPUT: true; the input reads as it did. -/
def fnGuardMovedSpec : ChangeSpec := { name := "fnGuardMoved", fn := fun _ => fun
  | [d] => { results := [.lit (.bool true)], args := [d] }
  | _ => none }
def fnGuardMovedRow : OpenClaim := { program := "ytmchclkdligifaa", sum := "9a8a122e5401485081a5680f6c8f98ecf486fb47505ac0e1ec797fced61a2a18", func := "loop.example/guardsonnets/laws.FnGuardMoved", spec := "fnGuardMoved", apart := false }
def FnGuardMovedSaid : Prop := fnGuardMovedRow.holds Try.pinned (OpenSpec.ofChange fnGuardMovedSpec)

/-- ITS FALSE NEIGHBOUR: 'it returns false'. Refute it at one input. -/
def fnGuardMovedWrong : ChangeSpec := { name := "fnGuardMoved", fn := fun _ => fun
  | [d] => { results := [.lit (.bool false)], args := [d] }
  | _ => none }
def FnGuardMovedWrongFalsely : Prop := fnGuardMovedRow.holds Try.pinned (OpenSpec.ofChange fnGuardMovedWrong)

/-- 'laws.FnExactGuardMoved': WHATEVER THE INPUT: true; the input reads as it did. -/
def fnExactGuardMovedSpec : ChangeSpec := { name := "fnExactGuardMoved", fn := fun _ => fun
  | [d1, d2, d3, d4] => { results := [.lit (.bool true)], args := [d1, d2, d3, d4] }
  | _ => none }
def fnExactGuardMovedRow : OpenClaim := { program := "ytmchclkdligifaa", sum := "9a8a122e5401485081a5680f6c8f98ecf486fb47505ac0e1ec797fced61a2a18", func := "loop.example/guardsonnets/laws.FnExactGuardMoved", spec := "fnExactGuardMoved", apart := false }
def FnExactGuardMovedSaid : Prop := fnExactGuardMovedRow.holds Try.pinned (OpenSpec.ofChange fnExactGuardMovedSpec)

/-- ITS FALSE NEIGHBOUR: 'it returns false'. Refute it at one input. -/
def fnExactGuardMovedWrong : ChangeSpec := { name := "fnExactGuardMoved", fn := fun _ => fun
  | [d1, d2, d3, d4] => { results := [.lit (.bool false)], args := [d1, d2, d3, d4] }
  | _ => none }
def FnExactGuardMovedWrongFalsely : Prop := fnExactGuardMovedRow.holds Try.pinned (OpenSpec.ofChange fnExactGuardMovedWrong)

/-- 'laws.FnSecureOk': WHATEVER THE INPUT: true; the input reads as it did. -/
def fnSecureOkSpec : ChangeSpec := { name := "fnSecureOk", fn := fun _ => fun
  | [d] => { results := [.lit (.bool true)], args := [d] }
  | _ => none }
def fnSecureOkRow : OpenClaim := { program := "ytmchclkdligifaa", sum := "9a8a122e5401485081a5680f6c8f98ecf486fb47505ac0e1ec797fced61a2a18", func := "loop.example/guardsonnets/laws.FnSecureOk", spec := "fnSecureOk", apart := false }
def FnSecureOkSaid : Prop := fnSecureOkRow.holds Try.pinned (OpenSpec.ofChange fnSecureOkSpec)

/-- ITS FALSE NEIGHBOUR: 'it returns false'. Refute it at one input. -/
def fnSecureOkWrong : ChangeSpec := { name := "fnSecureOk", fn := fun _ => fun
  | [d] => { results := [.lit (.bool false)], args := [d] }
  | _ => none }
def FnSecureOkWrongFalsely : Prop := fnSecureOkRow.holds Try.pinned (OpenSpec.ofChange fnSecureOkWrong)

/-- 'laws.FnExactSecureOk': WHATEVER THE INPUT: true; the input reads as it did. -/
def fnExactSecureOkSpec : ChangeSpec := { name := "fnExactSecureOk", fn := fun _ => fun
  | [d1, d2] => { results := [.lit (.bool true)], args := [d1, d2] }
  | _ => none }
def fnExactSecureOkRow : OpenClaim := { program := "ytmchclkdligifaa", sum := "9a8a122e5401485081a5680f6c8f98ecf486fb47505ac0e1ec797fced61a2a18", func := "loop.example/guardsonnets/laws.FnExactSecureOk", spec := "fnExactSecureOk", apart := false }
def FnExactSecureOkSaid : Prop := fnExactSecureOkRow.holds Try.pinned (OpenSpec.ofChange fnExactSecureOkSpec)

/-- ITS FALSE NEIGHBOUR: 'it returns false'. Refute it at one input. -/
def fnExactSecureOkWrong : ChangeSpec := { name := "fnExactSecureOk", fn := fun _ => fun
  | [d1, d2] => { results := [.lit (.bool false)], args := [d1, d2] }
  | _ => none }
def FnExactSecureOkWrongFalsely : Prop := fnExactSecureOkRow.holds Try.pinned (OpenSpec.ofChange fnExactSecureOkWrong)

/-- 'laws.FnFewestSecure': WHATEVER THE INPUT: true; the input reads as it did. -/
def fnFewestSecureSpec : ChangeSpec := { name := "fnFewestSecure", fn := fun _ => fun
  | [d] => { results := [.lit (.bool true)], args := [d] }
  | _ => none }
def fnFewestSecureRow : OpenClaim := { program := "ytmchclkdligifaa", sum := "9a8a122e5401485081a5680f6c8f98ecf486fb47505ac0e1ec797fced61a2a18", func := "loop.example/guardsonnets/laws.FnFewestSecure", spec := "fnFewestSecure", apart := false }
def FnFewestSecureSaid : Prop := fnFewestSecureRow.holds Try.pinned (OpenSpec.ofChange fnFewestSecureSpec)

/-- ITS FALSE NEIGHBOUR: 'it returns false'. Refute it at one input. -/
def fnFewestSecureWrong : ChangeSpec := { name := "fnFewestSecure", fn := fun _ => fun
  | [d] => { results := [.lit (.bool false)], args := [d] }
  | _ => none }
def FnFewestSecureWrongFalsely : Prop := fnFewestSecureRow.holds Try.pinned (OpenSpec.ofChange fnFewestSecureWrong)

/-- 'laws.FnExactFewestSecure': WHATEVER THE INPUT: true; the input reads as it did. -/
def fnExactFewestSecureSpec : ChangeSpec := { name := "fnExactFewestSecure", fn := fun _ => fun
  | [d] => { results := [.lit (.bool true)], args := [d] }
  | _ => none }
def fnExactFewestSecureRow : OpenClaim := { program := "ytmchclkdligifaa", sum := "9a8a122e5401485081a5680f6c8f98ecf486fb47505ac0e1ec797fced61a2a18", func := "loop.example/guardsonnets/laws.FnExactFewestSecure", spec := "fnExactFewestSecure", apart := false }
def FnExactFewestSecureSaid : Prop := fnExactFewestSecureRow.holds Try.pinned (OpenSpec.ofChange fnExactFewestSecureSpec)

/-- ITS FALSE NEIGHBOUR: 'it returns false'. Refute it at one input. -/
def fnExactFewestSecureWrong : ChangeSpec := { name := "fnExactFewestSecure", fn := fun _ => fun
  | [d] => { results := [.lit (.bool false)], args := [d] }
  | _ => none }
def FnExactFewestSecureWrongFalsely : Prop := fnExactFewestSecureRow.holds Try.pinned (OpenSpec.ofChange fnExactFewestSecureWrong)

/-- 'laws.FnWeakOk': WHATEVER THE INPUT: true; the input reads as it did. -/
def fnWeakOkSpec : ChangeSpec := { name := "fnWeakOk", fn := fun _ => fun
  | [d] => { results := [.lit (.bool true)], args := [d] }
  | _ => none }
def fnWeakOkRow : OpenClaim := { program := "ytmchclkdligifaa", sum := "9a8a122e5401485081a5680f6c8f98ecf486fb47505ac0e1ec797fced61a2a18", func := "loop.example/guardsonnets/laws.FnWeakOk", spec := "fnWeakOk", apart := false }
def FnWeakOkSaid : Prop := fnWeakOkRow.holds Try.pinned (OpenSpec.ofChange fnWeakOkSpec)

/-- ITS FALSE NEIGHBOUR: 'it returns false'. Refute it at one input. -/
def fnWeakOkWrong : ChangeSpec := { name := "fnWeakOk", fn := fun _ => fun
  | [d] => { results := [.lit (.bool false)], args := [d] }
  | _ => none }
def FnWeakOkWrongFalsely : Prop := fnWeakOkRow.holds Try.pinned (OpenSpec.ofChange fnWeakOkWrong)

/-- 'laws.FnExactWeakOk': WHATEVER THE INPUT: true; the input reads as it did. -/
def fnExactWeakOkSpec : ChangeSpec := { name := "fnExactWeakOk", fn := fun _ => fun
  | [d1, d2] => { results := [.lit (.bool true)], args := [d1, d2] }
  | _ => none }
def fnExactWeakOkRow : OpenClaim := { program := "ytmchclkdligifaa", sum := "9a8a122e5401485081a5680f6c8f98ecf486fb47505ac0e1ec797fced61a2a18", func := "loop.example/guardsonnets/laws.FnExactWeakOk", spec := "fnExactWeakOk", apart := false }
def FnExactWeakOkSaid : Prop := fnExactWeakOkRow.holds Try.pinned (OpenSpec.ofChange fnExactWeakOkSpec)

/-- ITS FALSE NEIGHBOUR: 'it returns false'. Refute it at one input. -/
def fnExactWeakOkWrong : ChangeSpec := { name := "fnExactWeakOk", fn := fun _ => fun
  | [d1, d2] => { results := [.lit (.bool false)], args := [d1, d2] }
  | _ => none }
def FnExactWeakOkWrongFalsely : Prop := fnExactWeakOkRow.holds Try.pinned (OpenSpec.ofChange fnExactWeakOkWrong)

/-- 'laws.FnFewestWeak': WHATEVER THE INPUT: true; the input reads as it did. -/
def fnFewestWeakSpec : ChangeSpec := { name := "fnFewestWeak", fn := fun _ => fun
  | [d] => { results := [.lit (.bool true)], args := [d] }
  | _ => none }
def fnFewestWeakRow : OpenClaim := { program := "ytmchclkdligifaa", sum := "9a8a122e5401485081a5680f6c8f98ecf486fb47505ac0e1ec797fced61a2a18", func := "loop.example/guardsonnets/laws.FnFewestWeak", spec := "fnFewestWeak", apart := false }
def FnFewestWeakSaid : Prop := fnFewestWeakRow.holds Try.pinned (OpenSpec.ofChange fnFewestWeakSpec)

/-- ITS FALSE NEIGHBOUR: 'it returns false'. Refute it at one input. -/
def fnFewestWeakWrong : ChangeSpec := { name := "fnFewestWeak", fn := fun _ => fun
  | [d] => { results := [.lit (.bool false)], args := [d] }
  | _ => none }
def FnFewestWeakWrongFalsely : Prop := fnFewestWeakRow.holds Try.pinned (OpenSpec.ofChange fnFewestWeakWrong)

/-- 'laws.FnExactFewestWeak': WHATEVER THE INPUT: true; the input reads as it did. -/
def fnExactFewestWeakSpec : ChangeSpec := { name := "fnExactFewestWeak", fn := fun _ => fun
  | [d] => { results := [.lit (.bool true)], args := [d] }
  | _ => none }
def fnExactFewestWeakRow : OpenClaim := { program := "ytmchclkdligifaa", sum := "9a8a122e5401485081a5680f6c8f98ecf486fb47505ac0e1ec797fced61a2a18", func := "loop.example/guardsonnets/laws.FnExactFewestWeak", spec := "fnExactFewestWeak", apart := false }
def FnExactFewestWeakSaid : Prop := fnExactFewestWeakRow.holds Try.pinned (OpenSpec.ofChange fnExactFewestWeakSpec)

/-- ITS FALSE NEIGHBOUR: 'it returns false'. Refute it at one input. -/
def fnExactFewestWeakWrong : ChangeSpec := { name := "fnExactFewestWeak", fn := fun _ => fun
  | [d] => { results := [.lit (.bool false)], args := [d] }
  | _ => none }
def FnExactFewestWeakWrongFalsely : Prop := fnExactFewestWeakRow.holds Try.pinned (OpenSpec.ofChange fnExactFewestWeakWrong)

/- THE SECOND FORM. 'bulk': how many values and letters a reading holds, each counted each time it is reached (what is shared counts as often as it is met; a slice's spare places count too). A statement '..UptoSaid' is the law's where the arguments, and the package variables that the reading takes, are together of bulk at most 1048576: NARROWER than '..Said'. Prove '..Said' where nothing that the law and all that it calls make is longer than what came in: it says more and counts as full. Else prove '..UptoSaid'. A law counts once. -/
mutual
def uptoBulk {H : Type} : DataW H → Nat
  | .lit (.string bytes) => bytes.length + 1
  | .lit _ => 1
  | .nil => 1
  | .ptr d => uptoBulk d + 1
  | .slice elems spare => uptoBulkAll elems + uptoBulkAll spare + 1
  | .agg parts => uptoBulkAll parts + 1
  | .iface _ d => uptoBulk d + 1
  | .map entries => uptoBulkEntries entries + 1
  | .held _ => 1
def uptoBulkAll {H : Type} : List (DataW H) → Nat
  | [] => 0
  | d :: r => uptoBulk d + uptoBulkAll r
def uptoBulkEntries {H : Type} : List (Lit × DataW H) → Nat
  | [] => 0
  | x :: r => uptoBulkEntry x + uptoBulkEntries r
def uptoBulkEntry {H : Type} : Lit × DataW H → Nat
  | (.string bytes, d) => bytes.length + uptoBulk d + 1
  | (_, d) => uptoBulk d + 1
 end
def uptoSmall : (H : Type) → List (DataW H) → Bool := fun _ ds => decide (uptoBulkAll ds ≤ 1048576)
def OpenSpec.upto (s : _root_.Go.ChangeSpec) : _root_.Go.OpenSpec := { _root_.Go.OpenSpec.ofChange s with cond := some uptoSmall }

/-- 'laws.FnGuardMoved', WHERE WHAT IT READS IS OF BULK AT MOST 1048576: true; the input reads as it did. -/
def fnGuardMovedUptoRow : OpenClaim := { program := "ytmchclkdligifaa", sum := "9a8a122e5401485081a5680f6c8f98ecf486fb47505ac0e1ec797fced61a2a18", func := "loop.example/guardsonnets/laws.FnGuardMoved", spec := "fnGuardMoved", apart := false, narrowed := true }
def FnGuardMovedUptoSaid : Prop := fnGuardMovedUptoRow.holds Try.pinned (OpenSpec.upto fnGuardMovedSpec)

/-- 'laws.FnExactGuardMoved', WHERE WHAT IT READS IS OF BULK AT MOST 1048576: true; the input reads as it did. -/
def fnExactGuardMovedUptoRow : OpenClaim := { program := "ytmchclkdligifaa", sum := "9a8a122e5401485081a5680f6c8f98ecf486fb47505ac0e1ec797fced61a2a18", func := "loop.example/guardsonnets/laws.FnExactGuardMoved", spec := "fnExactGuardMoved", apart := false, narrowed := true }
def FnExactGuardMovedUptoSaid : Prop := fnExactGuardMovedUptoRow.holds Try.pinned (OpenSpec.upto fnExactGuardMovedSpec)

/-- 'laws.FnSecureOk', WHERE WHAT IT READS IS OF BULK AT MOST 1048576: true; the input reads as it did. -/
def fnSecureOkUptoRow : OpenClaim := { program := "ytmchclkdligifaa", sum := "9a8a122e5401485081a5680f6c8f98ecf486fb47505ac0e1ec797fced61a2a18", func := "loop.example/guardsonnets/laws.FnSecureOk", spec := "fnSecureOk", apart := false, narrowed := true }
def FnSecureOkUptoSaid : Prop := fnSecureOkUptoRow.holds Try.pinned (OpenSpec.upto fnSecureOkSpec)

/-- 'laws.FnExactSecureOk', WHERE WHAT IT READS IS OF BULK AT MOST 1048576: true; the input reads as it did. -/
def fnExactSecureOkUptoRow : OpenClaim := { program := "ytmchclkdligifaa", sum := "9a8a122e5401485081a5680f6c8f98ecf486fb47505ac0e1ec797fced61a2a18", func := "loop.example/guardsonnets/laws.FnExactSecureOk", spec := "fnExactSecureOk", apart := false, narrowed := true }
def FnExactSecureOkUptoSaid : Prop := fnExactSecureOkUptoRow.holds Try.pinned (OpenSpec.upto fnExactSecureOkSpec)

/-- 'laws.FnFewestSecure', WHERE WHAT IT READS IS OF BULK AT MOST 1048576: true; the input reads as it did. -/
def fnFewestSecureUptoRow : OpenClaim := { program := "ytmchclkdligifaa", sum := "9a8a122e5401485081a5680f6c8f98ecf486fb47505ac0e1ec797fced61a2a18", func := "loop.example/guardsonnets/laws.FnFewestSecure", spec := "fnFewestSecure", apart := false, narrowed := true }
def FnFewestSecureUptoSaid : Prop := fnFewestSecureUptoRow.holds Try.pinned (OpenSpec.upto fnFewestSecureSpec)

/-- 'laws.FnExactFewestSecure', WHERE WHAT IT READS IS OF BULK AT MOST 1048576: true; the input reads as it did. -/
def fnExactFewestSecureUptoRow : OpenClaim := { program := "ytmchclkdligifaa", sum := "9a8a122e5401485081a5680f6c8f98ecf486fb47505ac0e1ec797fced61a2a18", func := "loop.example/guardsonnets/laws.FnExactFewestSecure", spec := "fnExactFewestSecure", apart := false, narrowed := true }
def FnExactFewestSecureUptoSaid : Prop := fnExactFewestSecureUptoRow.holds Try.pinned (OpenSpec.upto fnExactFewestSecureSpec)

/-- 'laws.FnWeakOk', WHERE WHAT IT READS IS OF BULK AT MOST 1048576: true; the input reads as it did. -/
def fnWeakOkUptoRow : OpenClaim := { program := "ytmchclkdligifaa", sum := "9a8a122e5401485081a5680f6c8f98ecf486fb47505ac0e1ec797fced61a2a18", func := "loop.example/guardsonnets/laws.FnWeakOk", spec := "fnWeakOk", apart := false, narrowed := true }
def FnWeakOkUptoSaid : Prop := fnWeakOkUptoRow.holds Try.pinned (OpenSpec.upto fnWeakOkSpec)

/-- 'laws.FnExactWeakOk', WHERE WHAT IT READS IS OF BULK AT MOST 1048576: true; the input reads as it did. -/
def fnExactWeakOkUptoRow : OpenClaim := { program := "ytmchclkdligifaa", sum := "9a8a122e5401485081a5680f6c8f98ecf486fb47505ac0e1ec797fced61a2a18", func := "loop.example/guardsonnets/laws.FnExactWeakOk", spec := "fnExactWeakOk", apart := false, narrowed := true }
def FnExactWeakOkUptoSaid : Prop := fnExactWeakOkUptoRow.holds Try.pinned (OpenSpec.upto fnExactWeakOkSpec)

/-- 'laws.FnFewestWeak', WHERE WHAT IT READS IS OF BULK AT MOST 1048576: true; the input reads as it did. -/
def fnFewestWeakUptoRow : OpenClaim := { program := "ytmchclkdligifaa", sum := "9a8a122e5401485081a5680f6c8f98ecf486fb47505ac0e1ec797fced61a2a18", func := "loop.example/guardsonnets/laws.FnFewestWeak", spec := "fnFewestWeak", apart := false, narrowed := true }
def FnFewestWeakUptoSaid : Prop := fnFewestWeakUptoRow.holds Try.pinned (OpenSpec.upto fnFewestWeakSpec)

/-- 'laws.FnExactFewestWeak', WHERE WHAT IT READS IS OF BULK AT MOST 1048576: true; the input reads as it did. -/
def fnExactFewestWeakUptoRow : OpenClaim := { program := "ytmchclkdligifaa", sum := "9a8a122e5401485081a5680f6c8f98ecf486fb47505ac0e1ec797fced61a2a18", func := "loop.example/guardsonnets/laws.FnExactFewestWeak", spec := "fnExactFewestWeak", apart := false, narrowed := true }
def FnExactFewestWeakUptoSaid : Prop := fnExactFewestWeakUptoRow.holds Try.pinned (OpenSpec.upto fnExactFewestWeakSpec)

end Rows
end Go.Proofs.Ytmchclkdligifaa
