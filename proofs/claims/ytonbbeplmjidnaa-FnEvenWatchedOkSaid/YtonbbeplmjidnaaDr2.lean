/- Draws that use watches; lists of all numbers of a kind. Conditions: those of each theorem. -/
import Derived.Test.YtonbbeplmjidnaaDr
import Derived.Test.YtonbbeplmjidnaaChap1
namespace Go.Proofs.Ytonbbeplmjidnaa
open D Go.RowKit
set_option linter.unusedVariables false
set_option linter.unusedSimpArgs false


theorem listOfN_succ (N : Nat) (p : Nat → Bool) : listOfN (N + 1) p = if p N = true then listOfN N p ++ [(N : Int)] else listOfN N p := by unfold listOfN; rw [fold_succ]
theorem listOfN_mem (N : Nat) (p : Nat → Bool) (x : Int) : x ∈ listOfN N p ↔ ∃ s : Nat, s < N ∧ p s = true ∧ x = s := by
  induction N with
  | zero => simp [listOfN, fold_zero]
  | succ N ih =>
    rw [listOfN_succ]
    split
    · rename_i hp
      rw [List.mem_append, ih, List.mem_singleton]
      constructor
      · rintro (⟨s, a, b, c⟩ | rfl)
        · exact ⟨s, by omega, b, c⟩
        · exact ⟨N, by omega, hp, rfl⟩
      · rintro ⟨s, a, b, c⟩
        by_cases hs : s = N
        · subst hs; exact .inr c
        · exact .inl ⟨s, by omega, b, c⟩
    · rename_i hp
      rw [ih]
      constructor
      · rintro ⟨s, a, b, c⟩; exact ⟨s, by omega, b, c⟩
      · rintro ⟨s, a, b, c⟩
        by_cases hs : s = N
        · subst hs; exact absurd b hp
        · exact ⟨s, by omega, b, c⟩
theorem eli_mem {l : List Int} {k : Nat} (hk : k < l.length) : D.eli l k ∈ l := by
  unfold D.eli
  simp [List.getD, hk]
theorem mem_eli {l : List Int} {x : Int} (h : x ∈ l) : ∃ k, k < l.length ∧ D.eli l k = x := by
  obtain ⟨k, hk, he⟩ := List.getElem_of_mem h
  exact ⟨k, hk, by unfold D.eli; simp [List.getD, hk, he]⟩
theorem listOfN_eli {N : Nat} {p : Nat → Bool} {k : Nat} (hk : k < (listOfN N p).length) : ∃ s : Nat, s < N ∧ p s = true ∧ D.eli (listOfN N p) k = s := (listOfN_mem N p _).1 (eli_mem hk)
theorem eli_append {l r : List Int} {k : Nat} : D.eli (l ++ r) k = if k < l.length then D.eli l k else D.eli r (k - l.length) := by
  unfold D.eli
  by_cases h : k < l.length
  · simp [List.getD, List.getElem?_append_left h, h]
  · simp [List.getD, List.getElem?_append_right (by omega : l.length ≤ k), h]
theorem listOfN_asc {N : Nat} {p : Nat → Bool} {j k : Nat} (hjk : j < k) (hk : k < (listOfN N p).length) : D.eli (listOfN N p) j < D.eli (listOfN N p) k := by
  induction N with
  | zero => simp [listOfN, fold_zero] at hk
  | succ N ih =>
    rw [listOfN_succ] at hk ⊢
    split at hk
    · rename_i hp
      rw [if_pos hp, eli_append, eli_append]
      rw [List.length_append, List.length_singleton] at hk
      by_cases hkl : k < (listOfN N p).length
      · rw [if_pos hkl, if_pos (by omega)]; exact ih hkl
      · rw [if_neg hkl, if_pos (by omega)]
        obtain ⟨s, hs, _, he⟩ := listOfN_eli (N := N) (p := p) (k := j) (by omega)
        rw [he, show k - (listOfN N p).length = 0 by omega]
        show (s : Int) < (N : Int)
        omega
    · rename_i hp
      rw [if_neg hp]; exact ih hk
theorem leasts_pos {net : List Int} (h : Ok net) : 0 < (listOfN (2 ^ net.length) (least net)).length := by
  obtain ⟨t, ht, _, hl, _⟩ := least_in h 6 (allOf net) (size_le _) (allOf_lt net) (W_all h)
  exact List.length_pos_of_mem ((listOfN_mem _ _ (t : Int)).2 ⟨t, ht, hl, rfl⟩)
end Go.Proofs.Ytonbbeplmjidnaa
