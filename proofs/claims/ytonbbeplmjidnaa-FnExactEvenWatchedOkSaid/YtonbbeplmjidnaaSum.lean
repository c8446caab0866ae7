/- Finite sums of natural numbers, and how many there are of a kind. Conditions: those of each theorem. -/
import Derived.Test.YtonbbeplmjidnaaNet
namespace Go.Proofs.Ytonbbeplmjidnaa
set_option linter.unusedVariables false
set_option linter.unusedSimpArgs false

/-- f 0 + .. + f (n - 1). -/
def sumN : Nat → (Nat → Nat) → Nat
  | 0, _ => 0
  | n + 1, f => sumN n f + f n
theorem fold_sum (n : Nat) (f : Nat → Nat) : fold n (fun a k => a + f k) 0 = sumN n f := by
  induction n with
  | zero => rfl
  | succ n ih => rw [fold_succ, ih]; rfl
theorem sumN_congr {n : Nat} {f g : Nat → Nat} (h : ∀ k, k < n → f k = g k) : sumN n f = sumN n g := by
  induction n with
  | zero => rfl
  | succ n ih => simp only [sumN]; rw [ih (fun k hk => h k (by omega)), h n (by omega)]
theorem sumN_le {n : Nat} {f g : Nat → Nat} (h : ∀ k, k < n → f k ≤ g k) : sumN n f ≤ sumN n g := by
  induction n with
  | zero => exact Nat.le_refl _
  | succ n ih =>
    have h1 := ih (fun k hk => h k (by omega))
    have h2 := h n (by omega)
    simp only [sumN]; omega
theorem sumN_add (n : Nat) (f g : Nat → Nat) : sumN n (fun k => f k + g k) = sumN n f + sumN n g := by
  induction n with
  | zero => rfl
  | succ n ih => simp only [sumN]; omega
theorem sumN_zero (n : Nat) : sumN n (fun _ => 0) = 0 := by
  induction n with
  | zero => rfl
  | succ n ih => simp only [sumN]; omega
theorem sumN_const (n c : Nat) : sumN n (fun _ => c) = n * c := by
  induction n with
  | zero => simp [sumN]
  | succ n ih => simp only [sumN]; rw [ih, Nat.succ_mul]
theorem sumN_mul (n c : Nat) (f : Nat → Nat) : sumN n (fun k => f k * c) = sumN n f * c := by
  induction n with
  | zero => simp [sumN]
  | succ n ih => simp only [sumN]; rw [ih, Nat.add_mul]
theorem sumN_swap (n m : Nat) (f : Nat → Nat → Nat) : sumN n (fun k => sumN m (f k)) = sumN m (fun j => sumN n (fun k => f k j)) := by
  induction n with
  | zero => simp only [sumN]; rw [sumN_zero]
  | succ n ih =>
    simp only [sumN]
    rw [ih, ← sumN_add]
theorem sumN_pos {n : Nat} {f : Nat → Nat} {k : Nat} (hk : k < n) : f k ≤ sumN n f := by
  induction n with
  | zero => omega
  | succ n ih =>
    simp only [sumN]
    by_cases h : k = n
    · subst h; omega
    · have := ih (by omega); omega
theorem sumN_one {n : Nat} {f : Nat → Nat} {k : Nat} (hk : k < n) (h : ∀ j, j < n → j ≠ k → f j = 0) : sumN n f = f k := by
  induction n with
  | zero => omega
  | succ n ih =>
    simp only [sumN]
    by_cases hkn : k = n
    · subst hkn
      rw [sumN_congr (g := fun _ => 0) (fun j hj => h j (by omega) (by omega)), sumN_zero]; omega
    · rw [ih (by omega) (fun j hj => h j (by omega)), h n (by omega) (by omega)]; omega
/-- A square that is the same both ways: twice its lower half, and its diagonal. -/
theorem sumN_sym {n : Nat} {a : Nat → Nat → Nat} (h : ∀ k j, k < n → j < n → a k j = a j k) : sumN n (fun k => sumN n (a k)) = sumN n (fun k => a k k) + 2 * sumN n (fun k => sumN k (a k)) := by
  induction n with
  | zero => rfl
  | succ n ih =>
    have h1 : sumN n (fun k => sumN (n + 1) (a k)) = sumN n (fun k => sumN n (a k)) + sumN n (a n) := by
      show sumN n (fun k => sumN n (a k) + a k n) = _
      rw [sumN_add, sumN_congr (f := fun k => a k n) (g := a n) (fun k hk => h k n (by omega) (by omega))]
    show sumN n (fun k => sumN (n + 1) (a k)) + sumN (n + 1) (a n) = sumN n (fun k => a k k) + a n n + 2 * (sumN n (fun k => sumN k (a k)) + sumN n (a n))
    rw [h1, ih (fun k j hk hj => h k j (by omega) (by omega))]
    show _ + (sumN n (a n) + a n n) = _
    omega
/-- How many below n are of a kind. -/
def cnt (n : Nat) (p : Nat → Bool) : Nat := sumN n (fun k => (p k).toNat)
theorem cnt_le (n : Nat) (p : Nat → Bool) : cnt n p ≤ n := by
  have := sumN_le (n := n) (f := fun k => (p k).toNat) (g := fun _ => 1) (fun k _ => by cases p k <;> decide)
  rw [sumN_const] at this
  unfold cnt; omega
theorem cnt_mono {n : Nat} {p q : Nat → Bool} (h : ∀ k, k < n → p k = true → q k = true) : cnt n p ≤ cnt n q :=
  sumN_le fun k hk => by
    have := h k hk
    cases hp : p k with
    | false => exact Nat.zero_le _
    | true => rw [this hp]; exact Nat.le_refl _
theorem cnt_congr {n : Nat} {p q : Nat → Bool} (h : ∀ k, k < n → p k = q k) : cnt n p = cnt n q := sumN_congr fun k hk => by rw [h k hk]
theorem cnt_not (n : Nat) (p : Nat → Bool) : cnt n p + cnt n (fun k => !p k) = n := by
  unfold cnt
  rw [← sumN_add, sumN_congr (g := fun _ => 1) (fun k _ => by simp only; cases p k <;> rfl), sumN_const]; omega
/-- No more than there are places to which each goes. -/
theorem cnt_inj {n m : Nat} {p q : Nat → Bool} (f : Nat → Nat) (hf : ∀ k, k < n → p k = true → f k < m ∧ q (f k) = true) (hi : ∀ j k, j < n → k < n → p j = true → p k = true → f j = f k → j = k) : cnt n p ≤ cnt m q := by
  have h1 : cnt n p = sumN n (fun k => sumN m (fun v => (p k && decide (f k = v)).toNat)) := by
    refine sumN_congr fun k hk => ?_
    cases hp : p k with
    | false => rw [sumN_congr (g := fun _ => 0) (fun v _ => by simp), sumN_zero]; rfl
    | true => rw [sumN_one (k := f k) (hf k hk hp).1 (fun v _ hv => by simp; omega)]; simp
  rw [h1, sumN_swap]
  refine sumN_le fun v hv => ?_
  -- at most one of them goes to v
  by_cases hex : ∃ k, k < n ∧ p k = true ∧ f k = v
  · obtain ⟨k, hk, hp, rfl⟩ := hex
    rw [sumN_one (k := k) hk (fun j hj hne => ?_)]
    · rw [hp, (hf k hk hp).2]; simp
    · cases hpj : p j with
      | false => rfl
      | true =>
        have : f j ≠ f k := fun he => hne (hi j k hj hk hpj hp he)
        simp [this]
  · rw [sumN_congr (g := fun _ => 0) (fun k hk => ?_), sumN_zero]
    · exact Nat.zero_le _
    · cases hp : p k with
      | false => rfl
      | true =>
        have : f k ≠ v := fun he => hex ⟨k, hk, hp, he⟩
        simp [this]
theorem cnt_lt_of {n : Nat} {p : Nat → Bool} {k : Nat} (hk : k < n) (hp : p k = false) : cnt n p < n := by
  have h1 := cnt_not n p
  have h2 : (!p k).toNat ≤ cnt n (fun k => !p k) := sumN_pos (f := fun k => (!p k).toNat) hk
  rw [hp] at h2
  simp at h2
  omega
theorem cnt_all {n : Nat} {p : Nat → Bool} (h : cnt n p = n) {k : Nat} (hk : k < n) : p k = true := by
  cases hp : p k with
  | true => rfl
  | false => have := cnt_lt_of hk hp; omega
theorem cnt_true (n : Nat) : cnt n (fun _ => true) = n := by
  show sumN n (fun _ => 1) = n
  rw [sumN_const]; omega
/-- What goes to different places below n meets them all. -/
theorem onto_of_inj {n : Nat} {f : Nat → Nat} (hf : ∀ k, k < n → f k < n) (hi : ∀ j k, j < n → k < n → f j = f k → j = k) {v : Nat} (hv : v < n) : ∃ k, k < n ∧ f k = v := by
  have h1 := cnt_inj (n := n) (m := n) (p := fun _ => true) (q := fun v => decide (∃ k, k < n ∧ f k = v)) f (fun k hk _ => ⟨hf k hk, by simpa using ⟨k, hk, rfl⟩⟩) (fun j k hj hk _ _ he => hi j k hj hk he)
  rw [cnt_true] at h1
  have h2 := cnt_all (Nat.le_antisymm (cnt_le n _) h1) hv
  simpa using h2
/-- A sum in another order. -/
theorem sumN_perm {n : Nat} {f : Nat → Nat} (hf : ∀ k, k < n → f k < n) (hi : ∀ j k, j < n → k < n → f j = f k → j = k) (g : Nat → Nat) : sumN n (fun k => g (f k)) = sumN n g := by
  have h1 : sumN n (fun k => g (f k)) = sumN n (fun k => sumN n (fun v => if f k = v then g v else 0)) := by
    refine sumN_congr fun k hk => ?_
    rw [sumN_one (k := f k) (hf k hk) (fun v _ hv => by rw [if_neg (Ne.symm hv)]), if_pos rfl]
  rw [h1, sumN_swap]
  refine sumN_congr fun v hv => ?_
  obtain ⟨k, hk, rfl⟩ := onto_of_inj hf hi hv
  rw [sumN_one (k := k) hk (fun j hj hne => by rw [if_neg]; exact fun he => hne (hi j k hj hk he)), if_pos rfl]
theorem card_sum (n s : Nat) : card n s = cnt n (fun k => s.testBit k) := by
  unfold cnt
  induction n with
  | zero => rfl
  | succ n ih => rw [card_succ, ih]; simp only [sumN]; cases s.testBit n <;> rfl
end Go.Proofs.Ytonbbeplmjidnaa
