/- Nets as lists of numbers: what a net is; near, seen, ball; size of a set. Conditions: those of each theorem. -/
import Derived.Test.YtonbbeplmjidnaaBits
namespace Go.Proofs.Ytonbbeplmjidnaa
open Go.RowKit
set_option linter.unusedVariables false
set_option linter.unusedSimpArgs false

/-- The neighbours of a place, as a natural number. -/
def nb (net : List Int) (k : Nat) : Nat := (el net k).toNat
/-- A net. -/
structure Ok (net : List Int) : Prop where
  lo : 1 ≤ net.length
  hi : net.length ≤ 6
  el : ∀ k, k < net.length → el net k = (nb net k : Int)
  lt : ∀ k, k < net.length → nb net k < 2 ^ net.length
  sym : ∀ j k, j < net.length → k < net.length → (nb net k).testBit j = (nb net j).testBit k
  irr : ∀ k, k < net.length → (nb net k).testBit k = false

theorem pow_le_64 {n : Nat} (h : n ≤ 6) : 2 ^ n ≤ 64 := by
  have : (2 : Nat) ^ n ≤ 2 ^ 6 := Nat.pow_le_pow_right (by omega) h
  omega
theorem Ok.pow {net : List Int} (h : Ok net) : 2 ^ net.length ≤ 64 := pow_le_64 h.hi
theorem Ok.lt64 {net : List Int} (h : Ok net) {k : Nat} (hk : k < net.length) : nb net k < 64 := Nat.lt_of_lt_of_le (h.lt k hk) h.pow

/-- All neighbours of a set. -/
def near (net : List Int) (s : Nat) : Nat := orN net.length (fun k => s.testBit k) (nb net)
/-- What guards at a set see. -/
def seen (net : List Int) (s : Nat) : Nat := s ||| near net s
/-- A place and its neighbours. -/
def ball (net : List Int) (k : Nat) : Nat := nb net k ||| 2 ^ k

theorem Ok.ball_lt {net : List Int} (h : Ok net) {k : Nat} (hk : k < net.length) : ball net k < 2 ^ net.length :=
  Nat.or_lt_two_pow (h.lt k hk) (Nat.pow_lt_pow_right (by omega) hk)
theorem Ok.near_lt {net : List Int} (h : Ok net) (s : Nat) : near net s < 2 ^ net.length := orN_lt fun k hk _ => h.lt k hk
theorem Ok.seen_lt {net : List Int} (h : Ok net) {s : Nat} (hs : s < 2 ^ net.length) : seen net s < 2 ^ net.length := Nat.or_lt_two_pow hs (h.near_lt s)
theorem near_testBit (net : List Int) (s j : Nat) : (near net s).testBit j = true ↔ ∃ k, k < net.length ∧ s.testBit k = true ∧ (nb net k).testBit j = true := orN_testBit _ _ _ _
theorem seen_testBit (net : List Int) (s j : Nat) : (seen net s).testBit j = true ↔ s.testBit j = true ∨ ∃ k, k < net.length ∧ s.testBit k = true ∧ (nb net k).testBit j = true := by
  unfold seen; rw [Nat.testBit_or, Bool.or_eq_true, near_testBit]
theorem ball_testBit (net : List Int) (k j : Nat) : (ball net k).testBit j = true ↔ (nb net k).testBit j = true ∨ k = j := by
  unfold ball; rw [Nat.testBit_or, Bool.or_eq_true, testBit_pow]; simp

/-- The union of the balls of a set's places is what the set sees. -/
theorem Ok.seen_balls {net : List Int} (_h : Ok net) {s : Nat} (hs : s < 2 ^ net.length) : orN net.length (fun k => s.testBit k) (ball net) = seen net s := by
  apply Nat.eq_of_testBit_eq
  intro j
  rw [Bool.eq_iff_iff, orN_testBit, seen_testBit]
  constructor
  · rintro ⟨k, hk, h1, h2⟩
    rcases (ball_testBit _ _ _).1 h2 with h3 | h3
    · exact .inr ⟨k, hk, h1, h3⟩
    · subst h3; exact .inl h1
  · rintro (h1 | ⟨k, hk, h1, h2⟩)
    · exact ⟨j, testBit_lt hs h1, h1, (ball_testBit _ _ _).2 (.inr rfl)⟩
    · exact ⟨k, hk, h1, (ball_testBit _ _ _).2 (.inl h2)⟩

/-- How many of the first n bits are 1. -/
def card (n s : Nat) : Nat := fold n (fun a k => if s.testBit k = true then a + 1 else a) 0
theorem card_succ (n s : Nat) : card (n + 1) s = card n s + if s.testBit n = true then 1 else 0 := by
  unfold card; rw [fold_succ]; split <;> rfl
theorem card_le (n s : Nat) : card n s ≤ n := by
  induction n with
  | zero => exact Nat.le_refl _
  | succ n ih => rw [card_succ]; split <;> omega
theorem card_mono {n s t : Nat} (h : ∀ j, j < n → s.testBit j = true → t.testBit j = true) : card n s ≤ card n t := by
  induction n with
  | zero => exact Nat.le_refl _
  | succ n ih =>
    have h1 := ih fun j hj => h j (by omega)
    have h2 := h n (by omega)
    rw [card_succ, card_succ]
    split
    · rename_i hs; rw [if_pos (h2 hs)]; omega
    · omega
theorem card_lt {n s t : Nat} (h : ∀ j, j < n → s.testBit j = true → t.testBit j = true) {i : Nat} (hi : i < n) (h0 : s.testBit i = false) (h1 : t.testBit i = true) : card n s < card n t := by
  induction n with
  | zero => omega
  | succ n ih =>
    rw [card_succ, card_succ]
    by_cases hin : i = n
    · subst hin
      have h3 := card_mono fun j hj => h j (Nat.lt_succ_of_lt hj)
      rw [h0, h1]; simp; omega
    · have h3 := ih (fun j hj => h j (by omega)) (by omega)
      have h2 := h n (by omega)
      split
      · rename_i hs; rw [if_pos (h2 hs)]; omega
      · omega
theorem card_eq_of {n s t : Nat} (h : ∀ j, j < n → s.testBit j = t.testBit j) : card n s = card n t :=
  Nat.le_antisymm (card_mono fun j hj hs => by rw [← h j hj]; exact hs) (card_mono fun j hj hs => by rw [h j hj]; exact hs)
theorem card_more {n m s : Nat} (hs : s < 2 ^ n) (h : n ≤ m) : card m s = card n s := by
  induction m with
  | zero => obtain rfl : n = 0 := by omega
            rfl
  | succ m ih =>
    by_cases hm : n = m + 1
    · rw [hm]
    · rw [card_succ, ih (by omega), Nat.testBit_lt_two_pow (Nat.lt_of_lt_of_le hs (Nat.pow_le_pow_right (by omega) (by omega)))]
      simp
/-- How many of the first six bits are 1. -/
def size (s : Nat) : Nat := card 6 s
theorem size_le (s : Nat) : size s ≤ 6 := card_le 6 s
theorem Ok.size_eq {net : List Int} (h : Ok net) {s : Nat} (hs : s < 2 ^ net.length) : size s = card net.length s := card_more hs h.hi

/-! ### Parts -/
/-- One step: the set, and its neighbours that are among A. -/
def grow (net : List Int) (A s : Nat) : Nat := s ||| (near net s &&& A)
theorem grow_testBit (net : List Int) (A s j : Nat) : (grow net A s).testBit j = true ↔ s.testBit j = true ∨ ((∃ k, k < net.length ∧ s.testBit k = true ∧ (nb net k).testBit j = true) ∧ A.testBit j = true) := by
  unfold grow; rw [Nat.testBit_or, Bool.or_eq_true, Nat.testBit_and, Bool.and_eq_true, near_testBit]
/-- From i one comes to j by steps to neighbours among A. -/
inductive Reach (net : List Int) (A : Nat) (i : Nat) : Nat → Prop where
  | here : A.testBit i = true → Reach net A i i
  | step {j k : Nat} : Reach net A i j → j < net.length → (nb net j).testBit k = true → A.testBit k = true → Reach net A i k
/-- So many steps. -/
def steps (net : List Int) (A : Nat) : Nat → Nat → Nat
  | 0, s => s
  | m + 1, s => grow net A (steps net A m s)
theorem steps_succ' (net : List Int) (A m s : Nat) : steps net A (m + 1) s = steps net A m (grow net A s) := by
  induction m with
  | zero => rfl
  | succ m ih => show grow net A (steps net A (m + 1) s) = _; rw [ih]; rfl
theorem steps_fix {net : List Int} {A m s : Nat} (h : grow net A (steps net A m s) = steps net A m s) (p : Nat) (hp : m ≤ p) : steps net A p s = steps net A m s := by
  induction p with
  | zero => obtain rfl : m = 0 := by omega
            rfl
  | succ p ih =>
    by_cases hm : m = p + 1
    · rw [hm]
    · show grow net A (steps net A p s) = _; rw [ih (by omega)]; exact h
theorem steps_reach {net : List Int} {A i : Nat} (m : Nat) {j : Nat} (h : (steps net A m (2 ^ i &&& A)).testBit j = true) : Reach net A i j := by
  induction m generalizing j with
  | zero =>
    simp only [steps, Nat.testBit_and, Bool.and_eq_true, testBit_pow, decide_eq_true_eq] at h
    obtain ⟨rfl, h⟩ := h
    exact .here h
  | succ m ih =>
    rcases (grow_testBit _ _ _ _).1 h with h1 | ⟨⟨k, hk, h1, h2⟩, h3⟩
    · exact ih h1
    · exact .step (ih h1) hk h2 h3
theorem reach_steps {net : List Int} {A i m : Nat} (hf : grow net A (steps net A m (2 ^ i &&& A)) = steps net A m (2 ^ i &&& A)) {j : Nat} (h : Reach net A i j) : (steps net A m (2 ^ i &&& A)).testBit j = true := by
  induction h with
  | here ha =>
    clear hf
    induction m with
    | zero => simp [steps, Nat.testBit_and, testBit_pow, ha]
    | succ m ih => exact (grow_testBit _ _ _ _).2 (.inl ih)
  | step _ hj hn ha ih =>
    rw [← hf]
    exact (grow_testBit _ _ _ _).2 (.inr ⟨⟨_, hj, ih, hn⟩, ha⟩)
theorem Ok.grow_lt {net : List Int} (h : Ok net) {A s : Nat} (hs : s < 2 ^ net.length) : grow net A s < 2 ^ net.length :=
  Nat.or_lt_two_pow hs (by rw [Nat.and_comm]; exact Nat.and_lt_two_pow _ (h.near_lt s))
theorem Ok.steps_lt {net : List Int} (h : Ok net) {A s : Nat} (hs : s < 2 ^ net.length) (m : Nat) : steps net A m s < 2 ^ net.length := by
  induction m with
  | zero => exact hs
  | succ m ih => exact h.grow_lt ih
theorem Ok.grow_more {net : List Int} (h : Ok net) {A s : Nat} (hs : s < 2 ^ net.length) (hne : grow net A s ≠ s) : card net.length s < card net.length (grow net A s) := by
  have : ∃ i, i < net.length ∧ (grow net A s).testBit i ≠ s.testBit i := by
    refine Classical.byContradiction fun hc => hne (eq_of_bits (h.grow_lt hs) hs fun j hj => ?_)
    exact Classical.byContradiction fun h2 => hc ⟨j, hj, h2⟩
  obtain ⟨i, hi, h2⟩ := this
  have hm : ∀ j, j < net.length → s.testBit j = true → (grow net A s).testBit j = true := fun j _ hj => (grow_testBit _ _ _ _).2 (.inl hj)
  cases hb : s.testBit i with
  | true => rw [hm i hi hb, hb] at h2; exact absurd rfl h2
  | false => cases hg : (grow net A s).testBit i with
    | false => rw [hb, hg] at h2; exact absurd rfl h2
    | true => exact card_lt hm hi hb hg
/-- After as many steps as places, less one that is there at first, nothing is new. -/
theorem Ok.steps_done {net : List Int} (h : Ok net) {A s : Nat} (hs : s < 2 ^ net.length) (m : Nat) (hm : net.length ≤ m + card net.length s) : grow net A (steps net A m s) = steps net A m s := by
  refine Classical.byContradiction fun hne => ?_
  have all : ∀ p, p ≤ m → grow net A (steps net A p s) ≠ steps net A p s := by
    intro p hp hf
    have := steps_fix hf m hp
    rw [this] at hne
    exact hne hf
  have more : ∀ p, p ≤ m + 1 → card net.length s + p ≤ card net.length (steps net A p s) := by
    intro p
    induction p with
    | zero => intro _; exact Nat.le_refl _
    | succ p ih =>
      intro hp
      have h1 := ih (by omega)
      have h2 := h.grow_more (h.steps_lt hs p) (all p (by omega))
      show _ ≤ card net.length (grow net A (steps net A p s))
      omega
  have h1 := more (m + 1) (Nat.le_refl _)
  have h2 := card_le net.length (steps net A (m + 1) s)
  omega
/-- The part of a place among A. -/
def part (net : List Int) (A i : Nat) : Nat := steps net A 6 (2 ^ i &&& A)
theorem Ok.start_lt {net : List Int} {A i : Nat} (hi : i < net.length) : 2 ^ i &&& A < 2 ^ net.length := by
  rw [Nat.and_comm]; exact Nat.and_lt_two_pow _ (Nat.pow_lt_pow_right (by omega) hi)
theorem Ok.part_fix {net : List Int} (h : Ok net) {A i : Nat} (hi : i < net.length) : grow net A (part net A i) = part net A i :=
  h.steps_done (Ok.start_lt hi) 6 (by have := h.hi; omega)
theorem Ok.part_testBit {net : List Int} (h : Ok net) {A i : Nat} (hi : i < net.length) (j : Nat) : (part net A i).testBit j = true ↔ Reach net A i j :=
  ⟨steps_reach 6, reach_steps (h.part_fix hi)⟩
theorem Ok.part_lt {net : List Int} (h : Ok net) {A i : Nat} (hi : i < net.length) : part net A i < 2 ^ net.length := h.steps_lt (Ok.start_lt hi) 6
theorem Reach.among {net : List Int} {A i j : Nat} (h : Reach net A i j) : A.testBit i = true ∧ A.testBit j = true := by
  induction h with
  | here h => exact ⟨h, h⟩
  | step _ _ _ ha ih => exact ⟨ih.1, ha⟩
theorem Reach.trans {net : List Int} {A i j k : Nat} (h1 : Reach net A i j) (h2 : Reach net A j k) : Reach net A i k := by
  induction h2 with
  | here _ => exact h1
  | step _ hj hn ha ih => exact .step ih hj hn ha
theorem Ok.nb_lt {net : List Int} (h : Ok net) {j k : Nat} (hj : j < net.length) (hn : (nb net j).testBit k = true) : k < net.length := testBit_lt (h.lt j hj) hn
theorem Reach.lt {net : List Int} (h : Ok net) {A i j : Nat} (hi : i < net.length) (hr : Reach net A i j) : j < net.length := by
  cases hr with
  | here _ => exact hi
  | step _ hj hn _ => exact h.nb_lt hj hn
theorem Reach.symm {net : List Int} (h : Ok net) {A i j : Nat} (hi : i < net.length) (hr : Reach net A i j) : Reach net A j i := by
  induction hr with
  | here ha => exact .here ha
  | step hij hj hn ha ih =>
    have hk := h.nb_lt hj hn
    have h2 : Reach net A _ _ := .step (.here ha) hk (by rw [h.sym _ _ hj hk]; exact hn) hij.among.2
    exact h2.trans ih

/-- All places. -/
def allOf (net : List Int) : Nat := 2 ^ net.length - 1
theorem allOf_testBit (net : List Int) (j : Nat) : (allOf net).testBit j = decide (j < net.length) := by unfold allOf; exact Nat.testBit_two_pow_sub_one _ _
theorem Ok.grow_all {net : List Int} (h : Ok net) (s : Nat) : grow net (allOf net) s = seen net s := by
  unfold grow seen allOf
  rw [Nat.and_two_pow_sub_one_of_lt_two_pow (h.near_lt s)]
theorem Ok.start_all {net : List Int} {i : Nat} (hi : i < net.length) : 2 ^ i &&& allOf net = 2 ^ i := by
  unfold allOf; exact Nat.and_two_pow_sub_one_of_lt_two_pow (Nat.pow_lt_pow_right (by omega) hi)
/-- The part of a place. -/
def comp (net : List Int) (i : Nat) : Nat := part net (allOf net) i
theorem card_pow {n i : Nat} (hi : i < n) : 1 ≤ card n (2 ^ i) := by
  have h := card_lt (n := n) (s := 0) (t := 2 ^ i) (fun j _ h => by simp at h) hi (by simp) (by simp [testBit_pow])
  omega
theorem Ok.comp_eq {net : List Int} (h : Ok net) {i m : Nat} (hi : i < net.length) (hm : net.length ≤ m + 1) : steps net (allOf net) m (2 ^ i) = comp net i := by
  have hf := h.steps_done (A := allOf net) (s := 2 ^ i) (Nat.pow_lt_pow_right (by omega) hi) m (by have := card_pow hi; omega)
  unfold comp part
  rw [Ok.start_all hi]
  by_cases hm6 : m ≤ 6
  · exact (steps_fix hf 6 hm6).symm
  · have h6 := h.part_fix (A := allOf net) hi
    unfold part at h6
    rw [Ok.start_all hi] at h6
    exact steps_fix h6 m (by omega)
theorem Ok.comp_testBit {net : List Int} (h : Ok net) {i : Nat} (hi : i < net.length) (j : Nat) : (comp net i).testBit j = true ↔ Reach net (allOf net) i j := h.part_testBit hi j
theorem Ok.comp_lt {net : List Int} (h : Ok net) {i : Nat} (hi : i < net.length) : comp net i < 2 ^ net.length := h.part_lt hi
theorem Ok.comp_self {net : List Int} (h : Ok net) {i : Nat} (hi : i < net.length) : (comp net i).testBit i = true := (h.comp_testBit hi i).2 (.here (by rw [allOf_testBit]; simpa using hi))
theorem Ok.comp_symm {net : List Int} (h : Ok net) {i j : Nat} (hi : i < net.length) (hj : j < net.length) : (comp net i).testBit j = (comp net j).testBit i := by
  rw [Bool.eq_iff_iff, h.comp_testBit hi, h.comp_testBit hj]
  exact ⟨fun hr => hr.symm h hi, fun hr => hr.symm h hj⟩
theorem Ok.comp_same {net : List Int} (h : Ok net) {i j : Nat} (hi : i < net.length) (hj : j < net.length) (hij : (comp net i).testBit j = true) : comp net i = comp net j := by
  have h1 := (h.comp_testBit hi j).1 hij
  apply Nat.eq_of_testBit_eq
  intro k
  rw [Bool.eq_iff_iff, h.comp_testBit hi, h.comp_testBit hj]
  exact ⟨fun hr => (h1.symm h hi).trans hr, fun hr => h1.trans hr⟩
/-- How many parts: the places that are the least ones of their parts. -/
def parts (net : List Int) : Nat := fold net.length (fun a k => if (comp net k &&& (2 ^ k - 1)) = 0 then a + 1 else a) 0

end Go.Proofs.Ytonbbeplmjidnaa
