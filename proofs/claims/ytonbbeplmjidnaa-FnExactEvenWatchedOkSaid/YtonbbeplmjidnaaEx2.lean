/- The exact laws of chapter 2. Conditions: those of each theorem. -/
import Derived.Test.YtonbbeplmjidnaaN3
import Derived.Test.YtonbbeplmjidnaaEx
namespace Go.Proofs.Ytonbbeplmjidnaa
open D Go.RowKit
set_option linter.unusedVariables false
set_option linter.unusedSimpArgs false


theorem S.l1SetOk_x {net : List Int} (e : S.NetOk_t net = some false) (s : Int) : S.l1SetOk_t net s = some false := by
  unfold S.l1SetOk_t S.l1SetOk_tree; rw [e]; rfl
theorem I.FewestWatch_x {net : List Int} (e : I.NetOk_t net = some false) : I.FewestWatch_t net = some (-1) := by
  unfold I.FewestWatch_t I.FewestWatch_tree; rw [e]; rfl
theorem S.FewestWatch_x {net : List Int} (e : S.NetOk_t net = some false) : S.FewestWatch_t net = some (-1) := by
  unfold S.FewestWatch_t S.FewestWatch_tree; rw [e]; rfl
theorem FewestWatch_same {a0 : List Int} : ∃ v, S.FewestWatch_t a0 = some v ∧ I.FewestWatch_t a0 = some v := by
  rcases NetOk_cases a0 with ⟨h, e1, e2⟩ | ⟨_, e1, e2⟩
  · exact ⟨_, S.FewestWatch_y h e2, I.FewestWatch_y h e1⟩
  · exact ⟨_, S.FewestWatch_x e2, I.FewestWatch_x e1⟩
theorem fuel_succ : ∃ n, FUEL = n + 1 := ⟨FUEL - 1, by have := FUEL_le; omega⟩
theorem I.LeastWatches_x {net : List Int} (e : I.NetOk_t net = some false) : I.LeastWatches_t net = some [] := by
  unfold I.LeastWatches_t I.LeastWatches_tree; rw [e]; rfl
theorem counts_len {net : List Int} (h : Ok net) : (counts net).length = net.length + 1 := by
  have key : ∀ k, k ≤ 2 ^ net.length → CInv net k (fold k (fun l s => if W net s = true then l.set (size s) (D.eli l (size s) + 1) else l) (List.replicate (net.length + 1) 0)) := by
    intro k
    induction k with
    | zero => intro _; exact CInv.zero net
    | succ k ih => intro hk; rw [fold_succ]; exact (ih (by omega)).step h (by omega)
  exact (key _ (Nat.le_refl _)).1
end Go.Proofs.Ytonbbeplmjidnaa
