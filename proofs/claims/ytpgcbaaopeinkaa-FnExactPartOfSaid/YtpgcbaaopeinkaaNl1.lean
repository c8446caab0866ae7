/- Plain lemmas on the twins of the laws' own small functions. Conditions: those of each theorem. -/
import Derived.Test.YtpgcbaaopeinkaaNet
import Derived.Test.YtpgcbaaopeinkaaPl1
namespace Go.Proofs.Ytpgcbaaopeinkaa
open Go.RowKit
set_option linter.unusedVariables false
set_option linter.unusedSimpArgs false

theorem L.sizeOf_end (n : Int) : (L.sizeOf_L0_c n) (wh n.toNat (L.sizeOf_L0_c n) (L.sizeOf_L0 n) (0, n)) = false := by
  refine (wh_inv (fun _ => True) (fun s => s.2.toNat) ?_ trivial (by simp)).2
  intro s _ hc
  simp [L.sizeOf_L0_c] at hc
  refine ⟨trivial, ?_⟩
  simp only [L.sizeOf_L0]
  omega
theorem L.eqIntS_iff (a b : List Int) : L.eqIntS a b = true ↔ a = b := by
  unfold L.eqIntS
  split
  · rename_i h
    simp at h
    simp
    intro h2; subst h2; exact h rfl
  · rename_i h
    simp at h
    rw [find_all (f := L.eqIntS_L0 a b) (c := fun k => (el a k) != (el b k)) (fun k _ => rfl)]
    constructor
    · intro hk
      apply List.ext_getElem? 
      intro j
      by_cases hj : j < a.length
      · have := hk j hj
        simp [el, List.getD, hj, show j < b.length by omega] at this
        simp [hj, show j < b.length by omega, this]
      · rw [List.getElem?_eq_none (by omega), List.getElem?_eq_none (by omega)]
    · intro h2; subst h2; intro k _; simp
theorem L.sameInts_eq (a b : List Int) : L.sameInts a b = L.eqIntS a b := rfl
theorem L.sizeOf_nat (s : Nat) (hs : s < 64) : L.sizeOf (s : Int) = ((size s : Nat) : Int) := by
  have h : ∀ s : Fin 64, L.sizeOf ((s.val : Nat) : Int) = ((size s.val : Nat) : Int) := by decide +kernel
  exact h ⟨s, hs⟩

end Go.Proofs.Ytpgcbaaopeinkaa
