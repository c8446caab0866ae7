/- Lists of watches, counts of watches, thinned watches. Conditions: those of each theorem. -/
import Derived.Test.YtonbbeplmjidnaaN2
namespace Go.Proofs.Ytonbbeplmjidnaa
open D Go.RowKit
set_option linter.unusedVariables false
set_option linter.unusedSimpArgs false


theorem small_of {n : Nat} (h : n ≤ 1000000) : small n = true := by unfold small; rw [decide_eq_true_eq]; omega
/-- All numbers below N of a kind. -/
def listOfN (N : Nat) (p : Nat → Bool) : List Int := fold N (fun l s => if p s = true then l ++ [(s : Int)] else l) []
theorem listOfN_len (N : Nat) (p : Nat → Bool) : (listOfN N p).length ≤ N := by
  unfold listOfN
  induction N with
  | zero => exact Nat.le_refl _
  | succ N ih =>
    rw [fold_succ]
    split
    · rw [List.length_append]; simp only [List.length_singleton]; omega
    · omega
theorem I.LeastWatches_y {net : List Int} (h : Ok net) (e : I.NetOk_t net = some true) : I.LeastWatches_t net = some (listOfN (2 ^ net.length) (least net)) := by
  unfold I.LeastWatches_t I.LeastWatches_tree
  have h64 := h.pow
  have hsu := allOf_succ net
  rw [e]
  have := (run_for (run := I.LeastWatches_run5 net) (len := 2 ^ net.length) (fun k (t : List Int) => ((k : Int), t)) (fun l s => if least net s = true then l ++ [(s : Int)] else l) (fun t => t) (fun k t => t.length ≤ k) (by omega) (fun n k t hk ht => ?_) (fun n t ht => ?_) (t0 := []) (Nat.le_refl _)).1
  · exact congrArg (fun o => optC o (fun q => some q) none) this
  · simp only [I.LeastWatches_run5, I.LeastWatches_step5]
    rw [I.allOf_n h]
    simp only [optC]
    rw [cnd_t (by rw [decide_eq_true_eq]; omega), I.leastWatchIn_n h hk]
    simp only
    cases hw : least net k with
    | true =>
      rw [cond_true, cnd_t (small_of (by simp; omega)), add1_nat (by omega)]
      simp only [if_true]
      exact ⟨by trivial, by simp; omega⟩
    | false => simp only [cond_false, Bool.false_eq_true, if_false]; rw [add1_nat (by omega)]; exact ⟨rfl, by omega⟩
  · simp only [I.LeastWatches_run5, I.LeastWatches_step5]
    rw [I.allOf_n h]
    simp only [optC]
    rw [cnd_f (by rw [decide_eq_false_iff_not]; omega)]
/-- How many watches there are of each number of places. -/
def counts (net : List Int) : List Int := fold (2 ^ net.length) (fun l s => if W net s = true then l.set (size s) (D.eli l (size s) + 1) else l) (List.replicate (net.length + 1) 0)
theorem eli_set {l : List Int} {a b : Nat} {v : Int} (ha : a < l.length) : D.eli (l.set a v) b = if a = b then v else D.eli l b := by
  unfold D.eli
  by_cases h : a = b
  · subst h; simp [List.getD, ha]
  · simp [List.getD, List.getElem?_set_ne h, h]
theorem eli_rep (n k : Nat) : D.eli (List.replicate n 0) k = 0 := by
  unfold D.eli
  by_cases h : k < n <;> simp [List.getD, h]
/-- The bounds of the counts on the way. -/
def CInv (net : List Int) (k : Nat) (t : List Int) : Prop := t.length = net.length + 1 ∧ ∀ j, 0 ≤ D.eli t j ∧ D.eli t j ≤ k
theorem CInv.step {net : List Int} (h : Ok net) {k : Nat} {t : List Int} (hk : k < 2 ^ net.length) (ht : CInv net k t) : CInv net (k + 1) (if W net k = true then t.set (size k) (D.eli t (size k) + 1) else t) := by
  have hz := size_le_len h hk
  split
  · refine ⟨by rw [List.length_set]; exact ht.1, fun j => ?_⟩
    rw [eli_set (by rw [ht.1]; omega)]
    have h1 := ht.2 j
    have h2 := ht.2 (size k)
    split <;> omega
  · exact ⟨ht.1, fun j => by have := ht.2 j; omega⟩
theorem CInv.zero (net : List Int) : CInv net 0 (List.replicate (net.length + 1) 0) := ⟨by simp, fun j => by rw [eli_rep]; omega⟩
/-- What is left of a watch. -/
def thinStep (net : List Int) (t p : Nat) : Nat := if (t.testBit p && W net (t - 2 ^ p)) = true then t - 2 ^ p else t
def thin (net : List Int) (s : Nat) : Nat := fold net.length (fun t k => thinStep net t (net.length - 1 - k)) s
theorem thinStep_lt {net : List Int} {t p n : Nat} (ht : t < 2 ^ n) : thinStep net t p < 2 ^ n := by
  unfold thinStep; split
  · exact sub_lt ht
  · exact ht
theorem thinStep_W {net : List Int} {t p : Nat} (hw : W net t = true) : W net (thinStep net t p) = true := by
  unfold thinStep; split
  · rename_i hc; rw [Bool.and_eq_true] at hc; exact hc.2
  · exact hw
end Go.Proofs.Ytonbbeplmjidnaa
