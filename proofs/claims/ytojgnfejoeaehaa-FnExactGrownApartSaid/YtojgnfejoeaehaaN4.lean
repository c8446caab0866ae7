/- What the functions of chapter 1 come to. Conditions: those of each theorem. -/
import Derived.Test.YtojgnfejoeaehaaN2
namespace Go.Proofs.Ytojgnfejoeaehaa
open D Go.RowKit
set_option linter.unusedVariables false
set_option linter.unusedSimpArgs false


theorem I.BallOf_x {net : List Int} (e : I.NetOk_t net = some false) (p : Int) : I.BallOf_t net p = some (-1) := by
  unfold I.BallOf_t I.BallOf_tree; rw [e]; rfl
theorem I.BallOf_o {net : List Int} (e : I.NetOk_t net = some true) {p : Int} (hp : decide (0 ≤ p ∧ p < net.length) = false) : I.BallOf_t net p = some (-1) := by
  unfold I.BallOf_t I.BallOf_tree; rw [e, I.placeIn_n, hp]; rfl
theorem I.BallOf_n {net : List Int} (h : Ok net) (e : I.NetOk_t net = some true) {p : Nat} (hp : p < net.length) : I.BallOf_t net p = some ((ball net p : Nat) : Int) := by
  unfold I.BallOf_t I.BallOf_tree
  rw [e, I.placeIn_n, show decide (0 ≤ (p : Int) ∧ (p : Int) < net.length) = true by simp; omega, I.ballIn_n h hp]
  rfl
theorem l1In_place {net : List Int} (h : Ok net) (p : Int) : decide (0 ≤ p ∧ p ≤ IntKind.i64.wrap ((↑net.length : Int) - 1)) = decide (0 ≤ p ∧ p < net.length) := by
  have h1 := h.lo
  have h6 := h.hi
  rw [i64_wrap (by omega) (by omega), decide_eq_decide]
  omega
theorem I.SeenBy_x {net : List Int} (e : I.NetOk_t net = some false) (p : Int) : I.SeenBy_t net p = some (-1) := by
  unfold I.SeenBy_t I.SeenBy_tree; rw [e]; rfl
theorem I.SeenBy_o {net : List Int} (h : Ok net) (e : I.NetOk_t net = some true) {s : Int} (hs : decide (0 ≤ s ∧ s < 2 ^ net.length) = false) : I.SeenBy_t net s = some (-1) := by
  unfold I.SeenBy_t I.SeenBy_tree; rw [e, I.setIn_n h, hs]; rfl
theorem set_in {net : List Int} {s : Nat} (hs : s < 2 ^ net.length) : decide (0 ≤ (s : Int) ∧ (s : Int) < 2 ^ net.length) = true := by
  rw [two_pow_cast, decide_eq_true_eq]; omega
theorem I.SeenBy_n {net : List Int} (h : Ok net) (e : I.NetOk_t net = some true) {s : Nat} (hs : s < 2 ^ net.length) : I.SeenBy_t net s = some ((seen net s : Nat) : Int) := by
  unfold I.SeenBy_t I.SeenBy_tree
  rw [e, I.setIn_n h, set_in hs, I.seenIn_n h hs]; rfl
/-! ### Wires -/
def ends (net : List Int) : Nat := sumN net.length (fun k => size (nb net k))
def wires (net : List Int) : Nat := ends net / 2
/-! ### Parts -/
theorem fold_steps {net : List Int} (h : Ok net) (m s : Nat) : fold m (fun t _ => seen net t) s = steps net (allOf net) m s := by
  induction m with
  | zero => rfl
  | succ m ih => rw [fold_succ, ih]; show seen net _ = grow net _ _; rw [h.grow_all]
theorem steps_part {net : List Int} (h : Ok net) {A i m : Nat} (hi : i < net.length) (hf : grow net A (steps net A m (2 ^ i &&& A)) = steps net A m (2 ^ i &&& A)) : steps net A m (2 ^ i &&& A) = part net A i := by
  by_cases hm : m ≤ 6
  · exact (steps_fix hf 6 hm).symm
  · exact steps_fix (h.part_fix hi) m (by omega)
theorem place_in {net : List Int} {p : Nat} (hp : p < net.length) : decide (0 ≤ (p : Int) ∧ (p : Int) < net.length) = true := by simp; omega
theorem root_reached {net : List Int} (h : Ok net) {k : Nat} (hk : k < net.length) : root net k = true ↔ ∀ i, i < k → (comp net i).testBit k = false := by
  rw [root_iff]
  constructor
  · intro ha i hi; rw [h.comp_symm (by omega) hk]; exact ha i hi
  · intro ha i hi; rw [h.comp_symm hk (by omega)]; exact ha i hi
/-! ### Lone places -/
def lone (net : List Int) : Nat := orN net.length (fun k => nb net k == 0) (fun k => 2 ^ k)
theorem lone_lt (net : List Int) : lone net < 2 ^ net.length := orN_lt fun k hk _ => Nat.pow_lt_pow_right (by omega) hk
theorem lone_testBit (net : List Int) (j : Nat) : (lone net).testBit j = true ↔ j < net.length ∧ nb net j = 0 := by
  unfold lone
  rw [orN_testBit]
  constructor
  · rintro ⟨k, hk, a, b⟩
    rw [testBit_pow, decide_eq_true_eq] at b
    subst b
    exact ⟨hk, by simpa using a⟩
  · rintro ⟨a, b⟩
    exact ⟨j, a, by simpa using b, by rw [testBit_pow]; simp⟩
end Go.Proofs.Ytojgnfejoeaehaa
