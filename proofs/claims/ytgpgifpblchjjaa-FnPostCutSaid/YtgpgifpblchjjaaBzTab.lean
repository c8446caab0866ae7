/- What is known of the types of this translation. Conditions: none. -/
import Derived.Test.YtgpgifpblchjjaaBza3
import Derived.Test.YtgpgifpblchjjaaChecked
import Derived.Eval
namespace Go.Proofs.Ytgpgifpblchjjaa
open D
def TD : TypeId → Option TI
  | 3 => some ⟨.int .i64, 1, 8, .int .i64 0⟩
  | 4 => some ⟨.bool, 1, 1, .bool false⟩
  | 5 => some ⟨.int .u8, 1, 1, .int .u8 0⟩
  | 9 => some ⟨.string, 1, 16, .string .empty⟩
  | 23 => some ⟨.slice 3, 1, 24, .slice none 0 0⟩
  | 22 => some ⟨.slice 5, 1, 24, .slice none 0 0⟩
  | 77 => some ⟨.slice 23, 1, 24, .slice none 0 0⟩
  | 61 => some ⟨.slice 4, 1, 24, .slice none 0 0⟩
  | 25 => some ⟨.struct #[⟨"Net", 23, 0, false, "", "", 0⟩, ⟨"Set", 3, 1, false, "", "", 24⟩, ⟨"Log", 22, 2, false, "", "", 32⟩], 3, 56, .agg #[.slice none 0 0, .int .i64 0, .slice none 0 0]⟩
  | 46 => some ⟨.struct #[⟨"Net", 23, 0, false, "", "", 0⟩, ⟨"Set", 3, 1, false, "", "", 24⟩, ⟨"Log", 22, 2, false, "", "", 32⟩], 3, 56, .agg #[.slice none 0 0, .int .i64 0, .slice none 0 0]⟩
  | 72 => some ⟨.struct #[⟨"b", 22, 0, false, "", "loop.example/guardsonnets/spec", 0⟩, ⟨"p", 3, 1, false, "", "loop.example/guardsonnets/spec", 24⟩], 2, 32, .agg #[.slice none 0 0, .int .i64 0]⟩
  | 56 => some ⟨.pointer 72, 1, 8, .pointer none⟩
  | _ => none
theorem infoOf {α : Type} {o : Option α} {d : α} {p : α → Prop} (h1 : o.isSome = true) (h2 : p (o.getD d)) : ∃ f, o = some f ∧ p f := by
  cases o with
  | none => cases h1
  | some f => exact ⟨f, rfl, h2⟩
theorem TDok : TyOk Try.prog TD := by
  refine ⟨fun t i h => ?_⟩
  unfold TD at h
  split at h <;> first | (cases h; done) | (cases h; exact ⟨by kernel_rfl, infoOf (d := default) (by kernel_rfl) ⟨by kernel_rfl, by kernel_rfl, by kernel_rfl⟩⟩)
theorem mixed : Try.prog.follows .mixedOrders = true := Try.checked.mixed
end Go.Proofs.Ytgpgifpblchjjaa
