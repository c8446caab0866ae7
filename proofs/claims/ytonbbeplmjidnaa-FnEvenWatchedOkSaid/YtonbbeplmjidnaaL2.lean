/- The laws of chapter 2: WatchOk, LeastWatchOk, FewestWatch, WatchOf. Conditions: those of each theorem. -/
import Derived.Test.YtonbbeplmjidnaaDr2
import Derived.Test.YtonbbeplmjidnaaEx2
namespace Go.Proofs.Ytonbbeplmjidnaa
open D Go.RowKit
set_option linter.unusedVariables false
set_option linter.unusedSimpArgs false


theorem and_not_zero {p s : Nat} (hp : p < 64) (hs : s < 64) : (((minus p s : Nat) : Int) == 0) = true ↔ ∀ j, p.testBit j = true → s.testBit j = true := by
  rw [show (((minus p s : Nat) : Int) == 0) = (minus p s == 0) from nat_beq _ 0, beq_iff_eq]
  constructor
  · intro he j hj
    have : (minus p s).testBit j = false := by rw [he, Nat.zero_testBit]
    rw [minus_testBit _ _ (by omega) (by omega), hj] at this
    simpa using this
  · intro ha
    apply Nat.eq_of_testBit_eq
    intro j
    rw [Nat.zero_testBit, minus_testBit _ _ (by omega) (by omega)]
    cases hb : p.testBit j with
    | false => rfl
    | true => rw [ha j hb]; rfl
theorem lone_zero {net : List Int} : ((lone net : Nat) : Int) = 0 ↔ ∀ k, k < net.length → nb net k ≠ 0 := by
  constructor
  · intro he k hk hz
    have h0 : lone net = 0 := by omega
    have := (lone_testBit net k).2 ⟨hk, hz⟩
    rw [h0, Nat.zero_testBit] at this; cases this
  · intro ha
    have : lone net = 0 := Nat.eq_of_testBit_eq fun j => by
      rw [Nat.zero_testBit]
      cases hb : (lone net).testBit j with
      | false => rfl
      | true =>
        obtain ⟨a, b⟩ := (lone_testBit net j).1 hb
        exact absurd b (ha j a)
    rw [this]; rfl
/-- The greatest of all. -/
theorem maxFold {n : Nat} {f : Nat → Nat} (k : Nat) (hk : k < n) : f k ≤ fold n (fun t k => if f k > t then f k else t) 0 := by
  induction n with
  | zero => omega
  | succ n ih =>
    rw [fold_succ]
    by_cases hkn : k = n
    · subst hkn; split <;> omega
    · have := ih (by omega)
      split <;> omega
theorem few_size {net : List Int} (h : Ok net) : ∃ s, s < 2 ^ net.length ∧ W net s = true ∧ size s = fewest net := (fewest_few h).ex
end Go.Proofs.Ytonbbeplmjidnaa
