/-
  No cell of these rows narrows 'for every input' (looked for: loops, veiled, ifaces, maps, wideKeys, modest, calm, conditions, laid).
  DERIVED. THE GIVEN ROWS OF THIS SEAT. 8 by the template 'for every input the law returns true; each argument reads behind the call as it read before'; 0 by the template 'total and deterministic' (their statements: YtgpgifpblchjjaaTotals.lean).
  GIVEN WITH THE SEED: the statements are not yours to turn. If you find one false, say at which input.
  Laid BY PROGRAM, IN A SANDBOX (cutbox-rows.mjs): the forced cells as the released guide's own fill.sh prints them over the translation 35a54b24db831520… (all of the seat's roots in one cut). By AI agents, Wed Nov 11 2026. No macro, syntax, notation, axiom, sorry.
-/
import Derived.Test.YtgpgifpblchjjaaChecked
import GoSem.Claim
import GoSem.ClaimJoined
import GoSem.ClaimMapViews
import Derived.JoinedTies
import Derived.KernelRfl
namespace Go.Proofs.Ytgpgifpblchjjaa
/- THE CELL 'sum', in the pinned program and in every row, IS THE sha256 OF THE DUMP (.gsa) THAT YtgpgifpblchjjaaProg.lean LOADS. Nothing in Lean hashes anything: it is a label: what it is worth is what the hold of that sum in a sandbox is worth. -/
noncomputable def Try.pinned : Pinned := { name := "ytgpgifpblchjjaa", sum := "35a54b24db8315201e5e5d77bb9eceb2a0f35c060137322b67da58c704d47182", checked := Try.checked }
namespace Rows
def none {H : Type} : Left H := { results := [], args := [] }

/-- 'laws.FnPostOk': WHATEVER THE INPUT: true; the input reads as it did. -/
def fnPostOkSpec : ChangeSpec := { name := "fnPostOk", fn := fun _ => fun
  | [d] => { results := [.lit (.bool true)], args := [d] }
  | _ => none }
def fnPostOkRow : OpenClaim := { program := "ytgpgifpblchjjaa", sum := "35a54b24db8315201e5e5d77bb9eceb2a0f35c060137322b67da58c704d47182", func := "loop.example/guardsonnets/laws.FnPostOk", spec := "fnPostOk", apart := false }
def FnPostOkSaid : Prop := fnPostOkRow.holds Try.pinned (OpenSpec.ofChange fnPostOkSpec)

/-- ITS FALSE NEIGHBOUR: 'it returns false'. Refute it at one input. -/
def fnPostOkWrong : ChangeSpec := { name := "fnPostOk", fn := fun _ => fun
  | [d] => { results := [.lit (.bool false)], args := [d] }
  | _ => none }
def FnPostOkWrongFalsely : Prop := fnPostOkRow.holds Try.pinned (OpenSpec.ofChange fnPostOkWrong)

/-- 'laws.FnPostAsk': WHATEVER THE INPUT: true; the input reads as it did. -/
def fnPostAskSpec : ChangeSpec := { name := "fnPostAsk", fn := fun _ => fun
  | [d] => { results := [.lit (.bool true)], args := [d] }
  | _ => none }
def fnPostAskRow : OpenClaim := { program := "ytgpgifpblchjjaa", sum := "35a54b24db8315201e5e5d77bb9eceb2a0f35c060137322b67da58c704d47182", func := "loop.example/guardsonnets/laws.FnPostAsk", spec := "fnPostAsk", apart := false }
def FnPostAskSaid : Prop := fnPostAskRow.holds Try.pinned (OpenSpec.ofChange fnPostAskSpec)

/-- ITS FALSE NEIGHBOUR: 'it returns false'. Refute it at one input. -/
def fnPostAskWrong : ChangeSpec := { name := "fnPostAsk", fn := fun _ => fun
  | [d] => { results := [.lit (.bool false)], args := [d] }
  | _ => none }
def FnPostAskWrongFalsely : Prop := fnPostAskRow.holds Try.pinned (OpenSpec.ofChange fnPostAskWrong)

/-- 'laws.FnPostCut': WHATEVER THE INPUT: true; the input reads as it did. -/
def fnPostCutSpec : ChangeSpec := { name := "fnPostCut", fn := fun _ => fun
  | [d] => { results := [.lit (.bool true)], args := [d] }
  | _ => none }
def fnPostCutRow : OpenClaim := { program := "ytgpgifpblchjjaa", sum := "35a54b24db8315201e5e5d77bb9eceb2a0f35c060137322b67da58c704d47182", func := "loop.example/guardsonnets/laws.FnPostCut", spec := "fnPostCut", apart := false }
def FnPostCutSaid : Prop := fnPostCutRow.holds Try.pinned (OpenSpec.ofChange fnPostCutSpec)

/-- ITS FALSE NEIGHBOUR: 'it returns false'. Refute it at one input. -/
def fnPostCutWrong : ChangeSpec := { name := "fnPostCut", fn := fun _ => fun
  | [d] => { results := [.lit (.bool false)], args := [d] }
  | _ => none }
def FnPostCutWrongFalsely : Prop := fnPostCutRow.holds Try.pinned (OpenSpec.ofChange fnPostCutWrong)

/-- 'laws.FnExactPostNew': WHATEVER THE INPUT: true; the input reads as it did. -/
def fnExactPostNewSpec : ChangeSpec := { name := "fnExactPostNew", fn := fun _ => fun
  | [d] => { results := [.lit (.bool true)], args := [d] }
  | _ => none }
def fnExactPostNewRow : OpenClaim := { program := "ytgpgifpblchjjaa", sum := "35a54b24db8315201e5e5d77bb9eceb2a0f35c060137322b67da58c704d47182", func := "loop.example/guardsonnets/laws.FnExactPostNew", spec := "fnExactPostNew", apart := false }
def FnExactPostNewSaid : Prop := fnExactPostNewRow.holds Try.pinned (OpenSpec.ofChange fnExactPostNewSpec)

/-- ITS FALSE NEIGHBOUR: 'it returns false'. Refute it at one input. -/
def fnExactPostNewWrong : ChangeSpec := { name := "fnExactPostNew", fn := fun _ => fun
  | [d] => { results := [.lit (.bool false)], args := [d] }
  | _ => none }
def FnExactPostNewWrongFalsely : Prop := fnExactPostNewRow.holds Try.pinned (OpenSpec.ofChange fnExactPostNewWrong)

/-- 'laws.FnExactPostOk': WHATEVER THE INPUT: true; the input reads as it did. -/
def fnExactPostOkSpec : ChangeSpec := { name := "fnExactPostOk", fn := fun _ => fun
  | [d] => { results := [.lit (.bool true)], args := [d] }
  | _ => none }
def fnExactPostOkRow : OpenClaim := { program := "ytgpgifpblchjjaa", sum := "35a54b24db8315201e5e5d77bb9eceb2a0f35c060137322b67da58c704d47182", func := "loop.example/guardsonnets/laws.FnExactPostOk", spec := "fnExactPostOk", apart := false }
def FnExactPostOkSaid : Prop := fnExactPostOkRow.holds Try.pinned (OpenSpec.ofChange fnExactPostOkSpec)

/-- ITS FALSE NEIGHBOUR: 'it returns false'. Refute it at one input. -/
def fnExactPostOkWrong : ChangeSpec := { name := "fnExactPostOk", fn := fun _ => fun
  | [d] => { results := [.lit (.bool false)], args := [d] }
  | _ => none }
def FnExactPostOkWrongFalsely : Prop := fnExactPostOkRow.holds Try.pinned (OpenSpec.ofChange fnExactPostOkWrong)

/-- 'laws.FnExactPostAsk': WHATEVER THE INPUT: true; the input reads as it did. -/
def fnExactPostAskSpec : ChangeSpec := { name := "fnExactPostAsk", fn := fun _ => fun
  | [d1, d2] => { results := [.lit (.bool true)], args := [d1, d2] }
  | _ => none }
def fnExactPostAskRow : OpenClaim := { program := "ytgpgifpblchjjaa", sum := "35a54b24db8315201e5e5d77bb9eceb2a0f35c060137322b67da58c704d47182", func := "loop.example/guardsonnets/laws.FnExactPostAsk", spec := "fnExactPostAsk", apart := false }
def FnExactPostAskSaid : Prop := fnExactPostAskRow.holds Try.pinned (OpenSpec.ofChange fnExactPostAskSpec)

/-- ITS FALSE NEIGHBOUR: 'it returns false'. Refute it at one input. -/
def fnExactPostAskWrong : ChangeSpec := { name := "fnExactPostAsk", fn := fun _ => fun
  | [d1, d2] => { results := [.lit (.bool false)], args := [d1, d2] }
  | _ => none }
def FnExactPostAskWrongFalsely : Prop := fnExactPostAskRow.holds Try.pinned (OpenSpec.ofChange fnExactPostAskWrong)

/-- 'laws.FnExactPostRise': WHATEVER THE INPUT: true; the input reads as it did. -/
def fnExactPostRiseSpec : ChangeSpec := { name := "fnExactPostRise", fn := fun _ => fun
  | [d1, d2] => { results := [.lit (.bool true)], args := [d1, d2] }
  | _ => none }
def fnExactPostRiseRow : OpenClaim := { program := "ytgpgifpblchjjaa", sum := "35a54b24db8315201e5e5d77bb9eceb2a0f35c060137322b67da58c704d47182", func := "loop.example/guardsonnets/laws.FnExactPostRise", spec := "fnExactPostRise", apart := false }
def FnExactPostRiseSaid : Prop := fnExactPostRiseRow.holds Try.pinned (OpenSpec.ofChange fnExactPostRiseSpec)

/-- ITS FALSE NEIGHBOUR: 'it returns false'. Refute it at one input. -/
def fnExactPostRiseWrong : ChangeSpec := { name := "fnExactPostRise", fn := fun _ => fun
  | [d1, d2] => { results := [.lit (.bool false)], args := [d1, d2] }
  | _ => none }
def FnExactPostRiseWrongFalsely : Prop := fnExactPostRiseRow.holds Try.pinned (OpenSpec.ofChange fnExactPostRiseWrong)

/-- 'laws.FnExactPostCut': WHATEVER THE INPUT: true; the input reads as it did. -/
def fnExactPostCutSpec : ChangeSpec := { name := "fnExactPostCut", fn := fun _ => fun
  | [d1, d2] => { results := [.lit (.bool true)], args := [d1, d2] }
  | _ => none }
def fnExactPostCutRow : OpenClaim := { program := "ytgpgifpblchjjaa", sum := "35a54b24db8315201e5e5d77bb9eceb2a0f35c060137322b67da58c704d47182", func := "loop.example/guardsonnets/laws.FnExactPostCut", spec := "fnExactPostCut", apart := false }
def FnExactPostCutSaid : Prop := fnExactPostCutRow.holds Try.pinned (OpenSpec.ofChange fnExactPostCutSpec)

/-- ITS FALSE NEIGHBOUR: 'it returns false'. Refute it at one input. -/
def fnExactPostCutWrong : ChangeSpec := { name := "fnExactPostCut", fn := fun _ => fun
  | [d1, d2] => { results := [.lit (.bool false)], args := [d1, d2] }
  | _ => none }
def FnExactPostCutWrongFalsely : Prop := fnExactPostCutRow.holds Try.pinned (OpenSpec.ofChange fnExactPostCutWrong)

/- THE SECOND FORM. 'bulk': how many values and letters a reading holds, each counted each time it is reached (what is shared counts as often as it is met; a slice's spare places count too). A statement '..UptoSaid' is the law's where the arguments, and the package variables that the reading takes, are together of bulk at most 1048576: NARROWER than '..Said'. Prove '..Said' where nothing that the law and all that it calls make is longer than what came in: it says more and counts as full. Else prove '..UptoSaid'. A law counts once. -/
mutual
def uptoBulk {H : Type} : DataW H → Nat
  | .lit (.string bytes) => bytes.length + 1
  | .lit _ => 1
  | .nil => 1
  | .ptr d => uptoBulk d + 1
  | .slice elems spare => uptoBulkAll elems + uptoBulkAll spare + 1
  | .agg parts => uptoBulkAll parts + 1
  | .iface _ d => uptoBulk d + 1
  | .map entries => uptoBulkEntries entries + 1
  | .held _ => 1
def uptoBulkAll {H : Type} : List (DataW H) → Nat
  | [] => 0
  | d :: r => uptoBulk d + uptoBulkAll r
def uptoBulkEntries {H : Type} : List (Lit × DataW H) → Nat
  | [] => 0
  | x :: r => uptoBulkEntry x + uptoBulkEntries r
def uptoBulkEntry {H : Type} : Lit × DataW H → Nat
  | (.string bytes, d) => bytes.length + uptoBulk d + 1
  | (_, d) => uptoBulk d + 1
 end
def uptoSmall : (H : Type) → List (DataW H) → Bool := fun _ ds => decide (uptoBulkAll ds ≤ 1048576)
def OpenSpec.upto (s : _root_.Go.ChangeSpec) : _root_.Go.OpenSpec := { _root_.Go.OpenSpec.ofChange s with cond := some uptoSmall }

/-- 'laws.FnPostOk', WHERE WHAT IT READS IS OF BULK AT MOST 1048576: true; the input reads as it did. -/
def fnPostOkUptoRow : OpenClaim := { program := "ytgpgifpblchjjaa", sum := "35a54b24db8315201e5e5d77bb9eceb2a0f35c060137322b67da58c704d47182", func := "loop.example/guardsonnets/laws.FnPostOk", spec := "fnPostOk", apart := false, narrowed := true }
def FnPostOkUptoSaid : Prop := fnPostOkUptoRow.holds Try.pinned (OpenSpec.upto fnPostOkSpec)

/-- 'laws.FnPostAsk', WHERE WHAT IT READS IS OF BULK AT MOST 1048576: true; the input reads as it did. -/
def fnPostAskUptoRow : OpenClaim := { program := "ytgpgifpblchjjaa", sum := "35a54b24db8315201e5e5d77bb9eceb2a0f35c060137322b67da58c704d47182", func := "loop.example/guardsonnets/laws.FnPostAsk", spec := "fnPostAsk", apart := false, narrowed := true }
def FnPostAskUptoSaid : Prop := fnPostAskUptoRow.holds Try.pinned (OpenSpec.upto fnPostAskSpec)

/-- 'laws.FnPostCut', WHERE WHAT IT READS IS OF BULK AT MOST 1048576: true; the input reads as it did. -/
def fnPostCutUptoRow : OpenClaim := { program := "ytgpgifpblchjjaa", sum := "35a54b24db8315201e5e5d77bb9eceb2a0f35c060137322b67da58c704d47182", func := "loop.example/guardsonnets/laws.FnPostCut", spec := "fnPostCut", apart := false, narrowed := true }
def FnPostCutUptoSaid : Prop := fnPostCutUptoRow.holds Try.pinned (OpenSpec.upto fnPostCutSpec)

/-- 'laws.FnExactPostNew', WHERE WHAT IT READS IS OF BULK AT MOST 1048576: true; the input reads as it did. -/
def fnExactPostNewUptoRow : OpenClaim := { program := "ytgpgifpblchjjaa", sum := "35a54b24db8315201e5e5d77bb9eceb2a0f35c060137322b67da58c704d47182", func := "loop.example/guardsonnets/laws.FnExactPostNew", spec := "fnExactPostNew", apart := false, narrowed := true }
def FnExactPostNewUptoSaid : Prop := fnExactPostNewUptoRow.holds Try.pinned (OpenSpec.upto fnExactPostNewSpec)

/-- 'laws.FnExactPostOk', WHERE WHAT IT READS IS OF BULK AT MOST 1048576: true; the input reads as it did. -/
def fnExactPostOkUptoRow : OpenClaim := { program := "ytgpgifpblchjjaa", sum := "35a54b24db8315201e5e5d77bb9eceb2a0f35c060137322b67da58c704d47182", func := "loop.example/guardsonnets/laws.FnExactPostOk", spec := "fnExactPostOk", apart := false, narrowed := true }
def FnExactPostOkUptoSaid : Prop := fnExactPostOkUptoRow.holds Try.pinned (OpenSpec.upto fnExactPostOkSpec)

/-- 'laws.FnExactPostAsk', WHERE WHAT IT READS IS OF BULK AT MOST 1048576: true; the input reads as it did. -/
def fnExactPostAskUptoRow : OpenClaim := { program := "ytgpgifpblchjjaa", sum := "35a54b24db8315201e5e5d77bb9eceb2a0f35c060137322b67da58c704d47182", func := "loop.example/guardsonnets/laws.FnExactPostAsk", spec := "fnExactPostAsk", apart := false, narrowed := true }
def FnExactPostAskUptoSaid : Prop := fnExactPostAskUptoRow.holds Try.pinned (OpenSpec.upto fnExactPostAskSpec)

/-- 'laws.FnExactPostRise', WHERE WHAT IT READS IS OF BULK AT MOST 1048576: true; the input reads as it did. -/
def fnExactPostRiseUptoRow : OpenClaim := { program := "ytgpgifpblchjjaa", sum := "35a54b24db8315201e5e5d77bb9eceb2a0f35c060137322b67da58c704d47182", func := "loop.example/guardsonnets/laws.FnExactPostRise", spec := "fnExactPostRise", apart := false, narrowed := true }
def FnExactPostRiseUptoSaid : Prop := fnExactPostRiseUptoRow.holds Try.pinned (OpenSpec.upto fnExactPostRiseSpec)

/-- 'laws.FnExactPostCut', WHERE WHAT IT READS IS OF BULK AT MOST 1048576: true; the input reads as it did. -/
def fnExactPostCutUptoRow : OpenClaim := { program := "ytgpgifpblchjjaa", sum := "35a54b24db8315201e5e5d77bb9eceb2a0f35c060137322b67da58c704d47182", func := "loop.example/guardsonnets/laws.FnExactPostCut", spec := "fnExactPostCut", apart := false, narrowed := true }
def FnExactPostCutUptoSaid : Prop := fnExactPostCutUptoRow.holds Try.pinned (OpenSpec.upto fnExactPostCutSpec)

end Rows
end Go.Proofs.Ytgpgifpblchjjaa
