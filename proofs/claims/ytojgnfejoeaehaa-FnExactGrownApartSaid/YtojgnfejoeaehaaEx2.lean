/- The exact laws of chapter 2. Conditions: those of each theorem. -/
import Derived.Test.YtojgnfejoeaehaaN3
import Derived.Test.YtojgnfejoeaehaaEx
namespace Go.Proofs.Ytojgnfejoeaehaa
open D Go.RowKit
set_option linter.unusedVariables false
set_option linter.unusedSimpArgs false


theorem I.WatchOk_x {net : List Int} (e : I.NetOk_t net = some false) (s : Int) : I.WatchOk_t net s = some false := by
  unfold I.WatchOk_t I.WatchOk_tree; rw [e]; rfl
theorem S.l1SetOk_x {net : List Int} (e : S.NetOk_t net = some false) (s : Int) : S.l1SetOk_t net s = some false := by
  unfold S.l1SetOk_t S.l1SetOk_tree; rw [e]; rfl
theorem I.LeastWatchOk_x {net : List Int} (e : I.NetOk_t net = some false) (s : Int) : I.LeastWatchOk_t net s = some false := by
  unfold I.LeastWatchOk_t I.LeastWatchOk_tree; rw [e]; rfl
theorem fuel_succ : ∃ n, FUEL = n + 1 := ⟨FUEL - 1, by have := FUEL_le; omega⟩
theorem counts_len {net : List Int} (h : Ok net) : (counts net).length = net.length + 1 := by
  have key : ∀ k, k ≤ 2 ^ net.length → CInv net k (fold k (fun l s => if W net s = true then l.set (size s) (D.eli l (size s) + 1) else l) (List.replicate (net.length + 1) 0)) := by
    intro k
    induction k with
    | zero => intro _; exact CInv.zero net
    | succ k ih => intro hk; rw [fold_succ]; exact (ih (by omega)).step h (by omega)
  exact (key _ (Nat.le_refl _)).1
end Go.Proofs.Ytojgnfejoeaehaa
