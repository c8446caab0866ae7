/- What the exact laws need of rows that are marked. Conditions: those of each theorem. -/
import Derived.Test.YtonbbeplmjidnaaN1
namespace Go.Proofs.Ytonbbeplmjidnaa
open D Go.RowKit
set_option linter.unusedVariables false
set_option linter.unusedSimpArgs false


theorem eli_set2 {l : List Int} {a b : Nat} {v : Int} (ha : a < l.length) : D.eli (l.set a v) b = if a = b then v else D.eli l b := by
  unfold D.eli
  by_cases h : a = b
  · subst h; simp [List.getD, ha]
  · simp [List.getD, List.getElem?_set_ne h, h]
theorem L.markIntS_is {a : List Int} {k0 : Nat} (ha : a.length ≤ 3000000) (hk0 : k0 ≤ 3000000) : ∃ m : List Int, L.markIntS_t a k0 = some (((k0 + a.length : Nat) : Int), m) ∧ m.length = a.length ∧ ∀ j, j < a.length → D.eli m j = ((k0 + j : Nat) : Int) := by
  unfold L.markIntS_t L.markIntS_tree
  have := run_for (run := L.markIntS_run2) (len := a.length) (fun k (t : List Int) => (((k0 + k : Nat) : Int), (k : Int), t)) (fun t k => t.set k ((k0 + k : Nat) : Int)) (fun t => (((k0 + a.length : Nat) : Int), t)) (fun k t => t.length = a.length ∧ ∀ j, j < k → D.eli t j = ((k0 + j : Nat) : Int)) (by omega) (fun n k t hk ht => ?_) (fun n t ht => ?_) (t0 := a) ⟨rfl, fun j hj => by omega⟩
  · refine ⟨_, ?_, this.2.1, this.2.2⟩
    exact congrArg (fun o => optC o (fun q => some (q.1, q.2)) none) this.1
  · refine ⟨?_, by rw [List.length_set]; exact ht.1, fun j hj => ?_⟩
    · simp only [L.markIntS_run2, L.markIntS_step2]
      have := ht.1
      rw [cnd_t (by simp; omega), cnd_t (by simp; omega), cnd_t (by simp; omega), Int.toNat_natCast, add1_nat (by omega), add1_nat (by omega)]
      rfl
    · rw [eli_set2 (by rw [ht.1]; exact hk)]
      by_cases hkj : k = j
      · rw [if_pos hkj, hkj]
      · rw [if_neg hkj]; exact ht.2 j (by omega)
  · simp only [L.markIntS_run2, L.markIntS_step2]
    rw [cnd_f (by simp; omega)]
theorem L.heldIntS_is {m : List Int} (ha : m.length ≤ 3000000) (hm : ∀ j, j < m.length → D.eli m j = ((1 + j : Nat) : Int)) : L.heldIntS_t m 1 = some ((1 + m.length : Nat) : Int) := by
  unfold L.heldIntS_t L.heldIntS_tree
  have := (run_for (run := L.heldIntS_run2 m) (len := m.length) (fun k (t : Unit) => (((1 + k : Nat) : Int), (k : Int))) (fun t k => ()) (fun t => Sum.inr (((1 + m.length : Nat) : Int))) (fun k t => True) (by omega) (fun n k t hk ht => ?_) (fun n t ht => ?_) (t0 := ()) trivial).1
  · exact congrArg (fun o => optC o (fun q => sumC q (fun q => some q.2) (fun q => some q)) none) this
  · refine ⟨?_, trivial⟩
    simp only [L.heldIntS_run2, L.heldIntS_step2]
    rw [cnd_t (by simp; omega), cnd_t (by simp; omega), Int.toNat_natCast, hm k hk, cnd_f (by simp), add1_nat (by omega), add1_nat (by omega)]
    rfl
  · simp only [L.heldIntS_run2, L.heldIntS_step2]
    rw [cnd_f (by simp)]
/-- A row marked and held. -/
theorem L.marked {v : List Int} (hv : v.length ≤ 1000000) : ∃ m : List Int, L.markIntS_t v 1 = some (((1 + v.length : Nat) : Int), m) ∧ L.heldIntS_t m 1 = some ((1 + v.length : Nat) : Int) := by
  obtain ⟨m, h1, h2, h3⟩ := L.markIntS_is (a := v) (k0 := 1) (by omega) (by omega)
  refine ⟨m, h1, ?_⟩
  rw [← h2]
  exact L.heldIntS_is (by omega) (by rw [h2]; exact h3)
theorem neg_nat (a : Nat) : decide ((a : Int) < 0) = false := by rw [decide_eq_false_iff_not]; omega
theorem not_beq_self (a : Nat) : (!((a : Int) == (a : Int))) = false := by simp
end Go.Proofs.Ytonbbeplmjidnaa
