/- Several texts in one: Bits, Net, For, Sum, Watch, Wat2, First, Fix. Conditions: those of each theorem. -/
import Derived.Test.YthcidiihfjjpdaaBza1
import Derived.Test.YthcidiihfjjpdaaBza0
/- Sets as numbers: Go's bit operations on int, at numbers from 0 on, are those of natural numbers. Conditions: those of each theorem. -/
namespace Go.Proofs.Ythcidiihfjjpdaa
open Go.RowKit
set_option linter.unusedVariables false
set_option linter.unusedSimpArgs false

theorem i64_ofInt (a : Nat) (ha : a < 9223372036854775808) : (BitVec.ofInt 64 (a : Int)).toNat = a := by
  rw [BitVec.ofInt_natCast, BitVec.toNat_ofNat]; exact Nat.mod_eq_of_lt (by omega)
theorem i64_wrap_nat (a : Nat) (ha : a < 9223372036854775808) : IntKind.i64.wrap (a : Int) = a := by rw [IntKind.wrap_i64]; omega
theorem i64_or_nat (a b : Nat) (ha : a < 9223372036854775808) (hb : b < 9223372036854775808) : bits .or .i64 (a : Int) (b : Int) = ((a ||| b : Nat) : Int) := by
  have hx : a ||| b < 2 ^ 63 := Nat.or_lt_two_pow (by omega) (by omega)
  show IntKind.i64.wrap ((BitVec.ofInt 64 (a : Int) ||| BitVec.ofInt 64 (b : Int)).toNat : Int) = _
  rw [BitVec.toNat_or, i64_ofInt a ha, i64_ofInt b hb, i64_wrap_nat _ (by omega)]
theorem i64_and_nat (a b : Nat) (ha : a < 9223372036854775808) (hb : b < 9223372036854775808) : bits .and .i64 (a : Int) (b : Int) = ((a &&& b : Nat) : Int) := by
  have hx : a &&& b < 2 ^ 63 := Nat.and_lt_two_pow _ (by omega)
  show IntKind.i64.wrap ((BitVec.ofInt 64 (a : Int) &&& BitVec.ofInt 64 (b : Int)).toNat : Int) = _
  rw [BitVec.toNat_and, i64_ofInt a ha, i64_ofInt b hb, i64_wrap_nat _ (by omega)]
theorem i64_xor_nat (a b : Nat) (ha : a < 9223372036854775808) (hb : b < 9223372036854775808) : bits .xor .i64 (a : Int) (b : Int) = ((a ^^^ b : Nat) : Int) := by
  have hx : a ^^^ b < 2 ^ 63 := Nat.xor_lt_two_pow (by omega) (by omega)
  show IntKind.i64.wrap ((BitVec.ofInt 64 (a : Int) ^^^ BitVec.ofInt 64 (b : Int)).toNat : Int) = _
  rw [BitVec.toNat_xor, i64_ofInt a ha, i64_ofInt b hb, i64_wrap_nat _ (by omega)]
/-- What is in a and not in b. -/
def minus (a b : Nat) : Nat := a &&& (18446744073709551615 - b)
theorem i64_andNot_nat (a b : Nat) (ha : a < 9223372036854775808) (hb : b < 9223372036854775808) : bits .andNot .i64 (a : Int) (b : Int) = ((minus a b : Nat) : Int) := by
  have hx : minus a b < 2 ^ 63 := by unfold minus; rw [Nat.and_comm]; exact Nat.and_lt_two_pow _ (by omega)
  show IntKind.i64.wrap ((BitVec.ofInt 64 (a : Int) &&& ~~~BitVec.ofInt 64 (b : Int)).toNat : Int) = _
  rw [BitVec.toNat_and, BitVec.toNat_not, i64_ofInt a ha, i64_ofInt b hb]
  have e : 2 ^ 64 - 1 - b = 18446744073709551615 - b := by omega
  rw [e]
  exact i64_wrap_nat _ (by simp only [minus] at hx; omega)
theorem minus_testBit (a b : Nat) (hb : b < 18446744073709551616) (ha : a < 18446744073709551616) (j : Nat) : (minus a b).testBit j = (a.testBit j && !b.testBit j) := by
  unfold minus
  rw [Nat.testBit_and]
  have e : 18446744073709551615 - b = 2 ^ 64 - (b + 1) := by omega
  rw [e, Nat.testBit_two_pow_sub_succ (by omega)]
  by_cases hj : j < 64
  · simp [hj]
  · have : a.testBit j = false := Nat.testBit_lt_two_pow (Nat.lt_of_lt_of_le ha (by
      have : (2:Nat) ^ 64 ≤ 2 ^ j := Nat.pow_le_pow_right (by omega) (by omega)
      omega))
    simp [this]
theorem i64_and1 (n : Int) : bits .and .i64 n 1 = n % 2 := by
  show IntKind.i64.wrap ((BitVec.ofInt 64 n &&& BitVec.ofInt 64 1).toNat : Int) = _
  have h1 : (BitVec.ofInt 64 1).toNat = 1 := by decide
  rw [BitVec.toNat_and, h1, Nat.and_one_is_mod, BitVec.toNat_ofInt]
  rw [i64_wrap_nat _ (by omega)]
  omega
theorem wrap64_nat (a : Nat) (ha : a < 9223372036854775808) : wrap64 (a : Int) = a := by unfold wrap64; omega
theorem wrap64_pow (k : Nat) (hk : k ≤ 62) : wrap64 (2 ^ k) = ((2 ^ k : Nat) : Int) := by
  have h : (2 : Nat) ^ k ≤ 2 ^ 62 := Nat.pow_le_pow_right (by omega) hk
  have e : ((2 ^ k : Nat) : Int) = 2 ^ k := by simp
  rw [← e]
  exact wrap64_nat _ (by omega)
theorem shr_nat (a k : Nat) : (a : Int) / 2 ^ k = ((a / 2 ^ k : Nat) : Int) := by simp
theorem testBit_div (a k : Nat) : a.testBit k = (a / 2 ^ k % 2 == 1) := by
  rw [Nat.testBit_eq_decide_div_mod_eq]; rw [Bool.eq_iff_iff]; simp
theorem bit_tmod (a k : Nat) : (Int.tmod ((a : Int) / 2 ^ k) 2 == 1) = a.testBit k := by
  rw [shr_nat, testBit_div]
  generalize a / 2 ^ k = q
  rw [Int.tmod_eq_emod_of_nonneg (Int.natCast_nonneg q), Bool.eq_iff_iff]
  simp only [beq_iff_eq]
  omega
theorem bit_mod (a k : Nat) : Int.tmod ((a : Int) / 2 ^ k) 2 = ((a.testBit k).toNat : Int) := by
  rw [shr_nat, testBit_div]
  generalize a / 2 ^ k = q
  rw [Int.tmod_eq_emod_of_nonneg (Int.natCast_nonneg q)]
  have : q % 2 = 0 ∨ q % 2 = 1 := by omega
  rcases this with h | h
  · rw [h]; simp; omega
  · rw [h]; simp; omega
theorem bit_ne (a b : Bool) : (((a.toNat : Nat) : Int) != ((b.toNat : Nat) : Int)) = (a != b) := by cases a <;> cases b <;> decide
theorem bit_one (a : Bool) : (((a.toNat : Nat) : Int) == 1) = a := by cases a <;> decide
theorem bit_zero (a : Bool) : (((a.toNat : Nat) : Int) == 0) = !a := by cases a <;> decide
theorem bit_and1 (a k : Nat) : (bits .and .i64 ((a : Int) / 2 ^ k) 1 == 1) = a.testBit k := by
  rw [i64_and1, shr_nat, testBit_div]
  generalize a / 2 ^ k = q
  rw [Bool.eq_iff_iff]
  simp only [beq_iff_eq]
  omega
theorem eq_of_bits {a b n : Nat} (ha : a < 2 ^ n) (hb : b < 2 ^ n) (h : ∀ j, j < n → a.testBit j = b.testBit j) : a = b := by
  apply Nat.eq_of_testBit_eq
  intro j
  by_cases hj : j < n
  · exact h j hj
  · rw [Nat.testBit_lt_two_pow (Nat.lt_of_lt_of_le ha (Nat.pow_le_pow_right (by omega) (by omega))), Nat.testBit_lt_two_pow (Nat.lt_of_lt_of_le hb (Nat.pow_le_pow_right (by omega) (by omega)))]
theorem testBit_lt {a n j : Nat} (ha : a < 2 ^ n) (h : a.testBit j = true) : j < n := by
  by_cases hj : j < n
  · exact hj
  · rw [Nat.testBit_lt_two_pow (Nat.lt_of_lt_of_le ha (Nat.pow_le_pow_right (by omega) (by omega)))] at h; cases h
theorem testBit_pow (k j : Nat) : (2 ^ k).testBit j = decide (k = j) := Nat.testBit_two_pow

/-- The union of f k over those k below n for which p holds. -/
def orN (n : Nat) (p : Nat → Bool) (f : Nat → Nat) : Nat := fold n (fun acc k => if p k = true then acc ||| f k else acc) 0
theorem orN_testBit (n : Nat) (p : Nat → Bool) (f : Nat → Nat) (j : Nat) : (orN n p f).testBit j = true ↔ ∃ k, k < n ∧ p k = true ∧ (f k).testBit j = true := by
  unfold orN
  induction n with
  | zero => simp [fold_zero]
  | succ n ih =>
    rw [fold_succ]
    cases hp : p n with
    | false =>
      simp only [Bool.false_eq_true, if_false]
      rw [ih]
      constructor
      · rintro ⟨k, a, b⟩; exact ⟨k, by omega, b⟩
      · rintro ⟨k, a, b, c⟩
        by_cases hk : k = n
        · subst hk; rw [hp] at b; cases b
        · exact ⟨k, by omega, b, c⟩
    | true =>
      simp only [if_true]
      rw [Nat.testBit_or, Bool.or_eq_true, ih]
      constructor
      · rintro (⟨k, a, b⟩ | h)
        · exact ⟨k, by omega, b⟩
        · exact ⟨n, by omega, hp, h⟩
      · rintro ⟨k, a, b, c⟩
        by_cases hk : k = n
        · subst hk; exact .inr c
        · exact .inl ⟨k, by omega, b, c⟩
theorem orN_lt {n m : Nat} {p : Nat → Bool} {f : Nat → Nat} (hf : ∀ k, k < n → p k = true → f k < 2 ^ m) : orN n p f < 2 ^ m := by
  unfold orN
  induction n with
  | zero => simp [fold_zero]; exact Nat.two_pow_pos m
  | succ n ih =>
    rw [fold_succ]
    have h := ih (fun k hk => hf k (by omega))
    split
    · rename_i hp; exact Nat.or_lt_two_pow h (hf n (by omega) hp)
    · exact h
/-- A fold of Go's numbers that only takes unions is that union. -/
theorem fold_orN {F : Int → Nat → Int} {n m : Nat} {p : Nat → Bool} {f : Nat → Nat} (hf : ∀ k, k < n → p k = true → f k < 2 ^ m)
    (hF : ∀ (acc k : Nat), acc < 2 ^ m → k < n → F (acc : Int) k = ((if p k = true then acc ||| f k else acc : Nat) : Int)) : fold n F 0 = ((orN n p f : Nat) : Int) := by
  induction n with
  | zero => rfl
  | succ n ih =>
    have h := ih (fun k hk => hf k (by omega)) (fun acc k ha hk => hF acc k ha (by omega))
    rw [fold_succ, h, hF _ n (orN_lt fun k hk => hf k (by omega)) (by omega)]
    simp only [orN, fold_succ]
/-- A general fold of Go's numbers that keeps to natural numbers. -/
theorem fold_nat {F : Int → Nat → Int} {G : Nat → Nat → Nat} {n : Nat} {I : Nat → Nat → Prop} {s0 : Nat} (h0 : I 0 s0)
    (hF : ∀ (k acc : Nat), k < n → I k acc → F (acc : Int) k = ((G acc k : Nat) : Int) ∧ I (k + 1) (G acc k)) : fold n F (s0 : Int) = ((fold n G s0 : Nat) : Int) ∧ I n (fold n G s0) := by
  induction n with
  | zero => exact ⟨rfl, h0⟩
  | succ n ih =>
    have h := ih (fun k acc hk => hF k acc (by omega))
    rw [fold_succ, fold_succ, h.1]
    exact hF n _ (by omega) h.2

end Go.Proofs.Ythcidiihfjjpdaa
/- Nets as lists of numbers: what a net is; near, seen, ball; size of a set. Conditions: those of each theorem. -/
namespace Go.Proofs.Ythcidiihfjjpdaa
open Go.RowKit
set_option linter.unusedVariables false
set_option linter.unusedSimpArgs false

/-- The neighbours of a place, as a natural number. -/
def nb (net : List Int) (k : Nat) : Nat := (el net k).toNat
/-- A net. -/
structure Ok (net : List Int) : Prop where
  lo : 1 ≤ net.length
  hi : net.length ≤ 6
  el : ∀ k, k < net.length → el net k = (nb net k : Int)
  lt : ∀ k, k < net.length → nb net k < 2 ^ net.length
  sym : ∀ j k, j < net.length → k < net.length → (nb net k).testBit j = (nb net j).testBit k
  irr : ∀ k, k < net.length → (nb net k).testBit k = false

theorem pow_le_64 {n : Nat} (h : n ≤ 6) : 2 ^ n ≤ 64 := by
  have : (2 : Nat) ^ n ≤ 2 ^ 6 := Nat.pow_le_pow_right (by omega) h
  omega
theorem Ok.pow {net : List Int} (h : Ok net) : 2 ^ net.length ≤ 64 := pow_le_64 h.hi
theorem Ok.lt64 {net : List Int} (h : Ok net) {k : Nat} (hk : k < net.length) : nb net k < 64 := Nat.lt_of_lt_of_le (h.lt k hk) h.pow

/-- All neighbours of a set. -/
def near (net : List Int) (s : Nat) : Nat := orN net.length (fun k => s.testBit k) (nb net)
/-- What guards at a set see. -/
def seen (net : List Int) (s : Nat) : Nat := s ||| near net s
/-- A place and its neighbours. -/
def ball (net : List Int) (k : Nat) : Nat := nb net k ||| 2 ^ k

theorem Ok.ball_lt {net : List Int} (h : Ok net) {k : Nat} (hk : k < net.length) : ball net k < 2 ^ net.length :=
  Nat.or_lt_two_pow (h.lt k hk) (Nat.pow_lt_pow_right (by omega) hk)
theorem Ok.near_lt {net : List Int} (h : Ok net) (s : Nat) : near net s < 2 ^ net.length := orN_lt fun k hk _ => h.lt k hk
theorem Ok.seen_lt {net : List Int} (h : Ok net) {s : Nat} (hs : s < 2 ^ net.length) : seen net s < 2 ^ net.length := Nat.or_lt_two_pow hs (h.near_lt s)
theorem near_testBit (net : List Int) (s j : Nat) : (near net s).testBit j = true ↔ ∃ k, k < net.length ∧ s.testBit k = true ∧ (nb net k).testBit j = true := orN_testBit _ _ _ _
theorem seen_testBit (net : List Int) (s j : Nat) : (seen net s).testBit j = true ↔ s.testBit j = true ∨ ∃ k, k < net.length ∧ s.testBit k = true ∧ (nb net k).testBit j = true := by
  unfold seen; rw [Nat.testBit_or, Bool.or_eq_true, near_testBit]
theorem ball_testBit (net : List Int) (k j : Nat) : (ball net k).testBit j = true ↔ (nb net k).testBit j = true ∨ k = j := by
  unfold ball; rw [Nat.testBit_or, Bool.or_eq_true, testBit_pow]; simp

/-- The union of the balls of a set's places is what the set sees. -/
theorem Ok.seen_balls {net : List Int} (_h : Ok net) {s : Nat} (hs : s < 2 ^ net.length) : orN net.length (fun k => s.testBit k) (ball net) = seen net s := by
  apply Nat.eq_of_testBit_eq
  intro j
  rw [Bool.eq_iff_iff, orN_testBit, seen_testBit]
  constructor
  · rintro ⟨k, hk, h1, h2⟩
    rcases (ball_testBit _ _ _).1 h2 with h3 | h3
    · exact .inr ⟨k, hk, h1, h3⟩
    · subst h3; exact .inl h1
  · rintro (h1 | ⟨k, hk, h1, h2⟩)
    · exact ⟨j, testBit_lt hs h1, h1, (ball_testBit _ _ _).2 (.inr rfl)⟩
    · exact ⟨k, hk, h1, (ball_testBit _ _ _).2 (.inl h2)⟩

/-- How many of the first n bits are 1. -/
def card (n s : Nat) : Nat := fold n (fun a k => if s.testBit k = true then a + 1 else a) 0
theorem card_succ (n s : Nat) : card (n + 1) s = card n s + if s.testBit n = true then 1 else 0 := by
  unfold card; rw [fold_succ]; split <;> rfl
theorem card_le (n s : Nat) : card n s ≤ n := by
  induction n with
  | zero => exact Nat.le_refl _
  | succ n ih => rw [card_succ]; split <;> omega
theorem card_mono {n s t : Nat} (h : ∀ j, j < n → s.testBit j = true → t.testBit j = true) : card n s ≤ card n t := by
  induction n with
  | zero => exact Nat.le_refl _
  | succ n ih =>
    have h1 := ih fun j hj => h j (by omega)
    have h2 := h n (by omega)
    rw [card_succ, card_succ]
    split
    · rename_i hs; rw [if_pos (h2 hs)]; omega
    · omega
theorem card_lt {n s t : Nat} (h : ∀ j, j < n → s.testBit j = true → t.testBit j = true) {i : Nat} (hi : i < n) (h0 : s.testBit i = false) (h1 : t.testBit i = true) : card n s < card n t := by
  induction n with
  | zero => omega
  | succ n ih =>
    rw [card_succ, card_succ]
    by_cases hin : i = n
    · subst hin
      have h3 := card_mono fun j hj => h j (Nat.lt_succ_of_lt hj)
      rw [h0, h1]; simp; omega
    · have h3 := ih (fun j hj => h j (by omega)) (by omega)
      have h2 := h n (by omega)
      split
      · rename_i hs; rw [if_pos (h2 hs)]; omega
      · omega
theorem card_eq_of {n s t : Nat} (h : ∀ j, j < n → s.testBit j = t.testBit j) : card n s = card n t :=
  Nat.le_antisymm (card_mono fun j hj hs => by rw [← h j hj]; exact hs) (card_mono fun j hj hs => by rw [h j hj]; exact hs)
theorem card_more {n m s : Nat} (hs : s < 2 ^ n) (h : n ≤ m) : card m s = card n s := by
  induction m with
  | zero => obtain rfl : n = 0 := by omega
            rfl
  | succ m ih =>
    by_cases hm : n = m + 1
    · rw [hm]
    · rw [card_succ, ih (by omega), Nat.testBit_lt_two_pow (Nat.lt_of_lt_of_le hs (Nat.pow_le_pow_right (by omega) (by omega)))]
      simp
/-- How many of the first six bits are 1. -/
def size (s : Nat) : Nat := card 6 s
theorem size_le (s : Nat) : size s ≤ 6 := card_le 6 s
theorem Ok.size_eq {net : List Int} (h : Ok net) {s : Nat} (hs : s < 2 ^ net.length) : size s = card net.length s := card_more hs h.hi

/-! ### Parts -/
/-- One step: the set, and its neighbours that are among A. -/
def grow (net : List Int) (A s : Nat) : Nat := s ||| (near net s &&& A)
theorem grow_testBit (net : List Int) (A s j : Nat) : (grow net A s).testBit j = true ↔ s.testBit j = true ∨ ((∃ k, k < net.length ∧ s.testBit k = true ∧ (nb net k).testBit j = true) ∧ A.testBit j = true) := by
  unfold grow; rw [Nat.testBit_or, Bool.or_eq_true, Nat.testBit_and, Bool.and_eq_true, near_testBit]
/-- From i one comes to j by steps to neighbours among A. -/
inductive Reach (net : List Int) (A : Nat) (i : Nat) : Nat → Prop where
  | here : A.testBit i = true → Reach net A i i
  | step {j k : Nat} : Reach net A i j → j < net.length → (nb net j).testBit k = true → A.testBit k = true → Reach net A i k
/-- So many steps. -/
def steps (net : List Int) (A : Nat) : Nat → Nat → Nat
  | 0, s => s
  | m + 1, s => grow net A (steps net A m s)
theorem steps_succ' (net : List Int) (A m s : Nat) : steps net A (m + 1) s = steps net A m (grow net A s) := by
  induction m with
  | zero => rfl
  | succ m ih => show grow net A (steps net A (m + 1) s) = _; rw [ih]; rfl
theorem steps_fix {net : List Int} {A m s : Nat} (h : grow net A (steps net A m s) = steps net A m s) (p : Nat) (hp : m ≤ p) : steps net A p s = steps net A m s := by
  induction p with
  | zero => obtain rfl : m = 0 := by omega
            rfl
  | succ p ih =>
    by_cases hm : m = p + 1
    · rw [hm]
    · show grow net A (steps net A p s) = _; rw [ih (by omega)]; exact h
theorem steps_reach {net : List Int} {A i : Nat} (m : Nat) {j : Nat} (h : (steps net A m (2 ^ i &&& A)).testBit j = true) : Reach net A i j := by
  induction m generalizing j with
  | zero =>
    simp only [steps, Nat.testBit_and, Bool.and_eq_true, testBit_pow, decide_eq_true_eq] at h
    obtain ⟨rfl, h⟩ := h
    exact .here h
  | succ m ih =>
    rcases (grow_testBit _ _ _ _).1 h with h1 | ⟨⟨k, hk, h1, h2⟩, h3⟩
    · exact ih h1
    · exact .step (ih h1) hk h2 h3
theorem reach_steps {net : List Int} {A i m : Nat} (hf : grow net A (steps net A m (2 ^ i &&& A)) = steps net A m (2 ^ i &&& A)) {j : Nat} (h : Reach net A i j) : (steps net A m (2 ^ i &&& A)).testBit j = true := by
  induction h with
  | here ha =>
    clear hf
    induction m with
    | zero => simp [steps, Nat.testBit_and, testBit_pow, ha]
    | succ m ih => exact (grow_testBit _ _ _ _).2 (.inl ih)
  | step _ hj hn ha ih =>
    rw [← hf]
    exact (grow_testBit _ _ _ _).2 (.inr ⟨⟨_, hj, ih, hn⟩, ha⟩)
theorem Ok.grow_lt {net : List Int} (h : Ok net) {A s : Nat} (hs : s < 2 ^ net.length) : grow net A s < 2 ^ net.length :=
  Nat.or_lt_two_pow hs (by rw [Nat.and_comm]; exact Nat.and_lt_two_pow _ (h.near_lt s))
theorem Ok.steps_lt {net : List Int} (h : Ok net) {A s : Nat} (hs : s < 2 ^ net.length) (m : Nat) : steps net A m s < 2 ^ net.length := by
  induction m with
  | zero => exact hs
  | succ m ih => exact h.grow_lt ih
theorem Ok.grow_more {net : List Int} (h : Ok net) {A s : Nat} (hs : s < 2 ^ net.length) (hne : grow net A s ≠ s) : card net.length s < card net.length (grow net A s) := by
  have : ∃ i, i < net.length ∧ (grow net A s).testBit i ≠ s.testBit i := by
    refine Classical.byContradiction fun hc => hne (eq_of_bits (h.grow_lt hs) hs fun j hj => ?_)
    exact Classical.byContradiction fun h2 => hc ⟨j, hj, h2⟩
  obtain ⟨i, hi, h2⟩ := this
  have hm : ∀ j, j < net.length → s.testBit j = true → (grow net A s).testBit j = true := fun j _ hj => (grow_testBit _ _ _ _).2 (.inl hj)
  cases hb : s.testBit i with
  | true => rw [hm i hi hb, hb] at h2; exact absurd rfl h2
  | false => cases hg : (grow net A s).testBit i with
    | false => rw [hb, hg] at h2; exact absurd rfl h2
    | true => exact card_lt hm hi hb hg
/-- After as many steps as places, less one that is there at first, nothing is new. -/
theorem Ok.steps_done {net : List Int} (h : Ok net) {A s : Nat} (hs : s < 2 ^ net.length) (m : Nat) (hm : net.length ≤ m + card net.length s) : grow net A (steps net A m s) = steps net A m s := by
  refine Classical.byContradiction fun hne => ?_
  have all : ∀ p, p ≤ m → grow net A (steps net A p s) ≠ steps net A p s := by
    intro p hp hf
    have := steps_fix hf m hp
    rw [this] at hne
    exact hne hf
  have more : ∀ p, p ≤ m + 1 → card net.length s + p ≤ card net.length (steps net A p s) := by
    intro p
    induction p with
    | zero => intro _; exact Nat.le_refl _
    | succ p ih =>
      intro hp
      have h1 := ih (by omega)
      have h2 := h.grow_more (h.steps_lt hs p) (all p (by omega))
      show _ ≤ card net.length (grow net A (steps net A p s))
      omega
  have h1 := more (m + 1) (Nat.le_refl _)
  have h2 := card_le net.length (steps net A (m + 1) s)
  omega
/-- The part of a place among A. -/
def part (net : List Int) (A i : Nat) : Nat := steps net A 6 (2 ^ i &&& A)
theorem Ok.start_lt {net : List Int} {A i : Nat} (hi : i < net.length) : 2 ^ i &&& A < 2 ^ net.length := by
  rw [Nat.and_comm]; exact Nat.and_lt_two_pow _ (Nat.pow_lt_pow_right (by omega) hi)
theorem Ok.part_fix {net : List Int} (h : Ok net) {A i : Nat} (hi : i < net.length) : grow net A (part net A i) = part net A i :=
  h.steps_done (Ok.start_lt hi) 6 (by have := h.hi; omega)
theorem Ok.part_testBit {net : List Int} (h : Ok net) {A i : Nat} (hi : i < net.length) (j : Nat) : (part net A i).testBit j = true ↔ Reach net A i j :=
  ⟨steps_reach 6, reach_steps (h.part_fix hi)⟩
theorem Ok.part_lt {net : List Int} (h : Ok net) {A i : Nat} (hi : i < net.length) : part net A i < 2 ^ net.length := h.steps_lt (Ok.start_lt hi) 6
theorem Reach.among {net : List Int} {A i j : Nat} (h : Reach net A i j) : A.testBit i = true ∧ A.testBit j = true := by
  induction h with
  | here h => exact ⟨h, h⟩
  | step _ _ _ ha ih => exact ⟨ih.1, ha⟩
theorem Reach.trans {net : List Int} {A i j k : Nat} (h1 : Reach net A i j) (h2 : Reach net A j k) : Reach net A i k := by
  induction h2 with
  | here _ => exact h1
  | step _ hj hn ha ih => exact .step ih hj hn ha
theorem Ok.nb_lt {net : List Int} (h : Ok net) {j k : Nat} (hj : j < net.length) (hn : (nb net j).testBit k = true) : k < net.length := testBit_lt (h.lt j hj) hn
theorem Reach.lt {net : List Int} (h : Ok net) {A i j : Nat} (hi : i < net.length) (hr : Reach net A i j) : j < net.length := by
  cases hr with
  | here _ => exact hi
  | step _ hj hn _ => exact h.nb_lt hj hn
theorem Reach.symm {net : List Int} (h : Ok net) {A i j : Nat} (hi : i < net.length) (hr : Reach net A i j) : Reach net A j i := by
  induction hr with
  | here ha => exact .here ha
  | step hij hj hn ha ih =>
    have hk := h.nb_lt hj hn
    have h2 : Reach net A _ _ := .step (.here ha) hk (by rw [h.sym _ _ hj hk]; exact hn) hij.among.2
    exact h2.trans ih

/-- All places. -/
def allOf (net : List Int) : Nat := 2 ^ net.length - 1
theorem allOf_testBit (net : List Int) (j : Nat) : (allOf net).testBit j = decide (j < net.length) := by unfold allOf; exact Nat.testBit_two_pow_sub_one _ _
theorem Ok.grow_all {net : List Int} (h : Ok net) (s : Nat) : grow net (allOf net) s = seen net s := by
  unfold grow seen allOf
  rw [Nat.and_two_pow_sub_one_of_lt_two_pow (h.near_lt s)]
theorem Ok.start_all {net : List Int} {i : Nat} (hi : i < net.length) : 2 ^ i &&& allOf net = 2 ^ i := by
  unfold allOf; exact Nat.and_two_pow_sub_one_of_lt_two_pow (Nat.pow_lt_pow_right (by omega) hi)
/-- The part of a place. -/
def comp (net : List Int) (i : Nat) : Nat := part net (allOf net) i
theorem card_pow {n i : Nat} (hi : i < n) : 1 ≤ card n (2 ^ i) := by
  have h := card_lt (n := n) (s := 0) (t := 2 ^ i) (fun j _ h => by simp at h) hi (by simp) (by simp [testBit_pow])
  omega
theorem Ok.comp_eq {net : List Int} (h : Ok net) {i m : Nat} (hi : i < net.length) (hm : net.length ≤ m + 1) : steps net (allOf net) m (2 ^ i) = comp net i := by
  have hf := h.steps_done (A := allOf net) (s := 2 ^ i) (Nat.pow_lt_pow_right (by omega) hi) m (by have := card_pow hi; omega)
  unfold comp part
  rw [Ok.start_all hi]
  by_cases hm6 : m ≤ 6
  · exact (steps_fix hf 6 hm6).symm
  · have h6 := h.part_fix (A := allOf net) hi
    unfold part at h6
    rw [Ok.start_all hi] at h6
    exact steps_fix h6 m (by omega)
theorem Ok.comp_testBit {net : List Int} (h : Ok net) {i : Nat} (hi : i < net.length) (j : Nat) : (comp net i).testBit j = true ↔ Reach net (allOf net) i j := h.part_testBit hi j
theorem Ok.comp_lt {net : List Int} (h : Ok net) {i : Nat} (hi : i < net.length) : comp net i < 2 ^ net.length := h.part_lt hi
theorem Ok.comp_self {net : List Int} (h : Ok net) {i : Nat} (hi : i < net.length) : (comp net i).testBit i = true := (h.comp_testBit hi i).2 (.here (by rw [allOf_testBit]; simpa using hi))
theorem Ok.comp_symm {net : List Int} (h : Ok net) {i j : Nat} (hi : i < net.length) (hj : j < net.length) : (comp net i).testBit j = (comp net j).testBit i := by
  rw [Bool.eq_iff_iff, h.comp_testBit hi, h.comp_testBit hj]
  exact ⟨fun hr => hr.symm h hi, fun hr => hr.symm h hj⟩
theorem Ok.comp_same {net : List Int} (h : Ok net) {i j : Nat} (hi : i < net.length) (hj : j < net.length) (hij : (comp net i).testBit j = true) : comp net i = comp net j := by
  have h1 := (h.comp_testBit hi j).1 hij
  apply Nat.eq_of_testBit_eq
  intro k
  rw [Bool.eq_iff_iff, h.comp_testBit hi, h.comp_testBit hj]
  exact ⟨fun hr => (h1.symm h hi).trans hr, fun hr => h1.trans hr⟩
/-- How many parts: the places that are the least ones of their parts. -/
def parts (net : List Int) : Nat := fold net.length (fun a k => if (comp net k &&& (2 ^ k - 1)) = 0 then a + 1 else a) 0

end Go.Proofs.Ythcidiihfjjpdaa
/- Loops that count, and Go's whole numbers as natural numbers. Conditions: those of each theorem. -/
namespace Go.Proofs.Ythcidiihfjjpdaa
open D Go.RowKit
set_option linter.unusedVariables false
set_option linter.unusedSimpArgs false

/-- A loop that counts from 0 to len and carries t. -/
theorem run_for {S T D : Type} {run : Nat → S → Option D} {len : Nat} (st : Nat → T → S) (f : T → Nat → T) (out : T → D) (Inv : Nat → T → Prop) (hl : len ≤ 100000000)
    (hs : ∀ n k t, k < len → Inv k t → run (n + 1) (st k t) = run n (st (k + 1) (f t k)) ∧ Inv (k + 1) (f t k))
    (he : ∀ n t, Inv len t → run (n + 1) (st len t) = some (out t)) {t0 : T} (h0 : Inv 0 t0) :
    run FUEL (st 0 t0) = some (out (fold len f t0)) ∧ Inv len (fold len f t0) := by
  have inv : ∀ k, k ≤ len → Inv k (fold k f t0) := by
    intro k
    induction k with
    | zero => intro _; exact h0
    | succ k ih => intro hk; rw [fold_succ]; exact (hs 0 k _ (by omega) (ih (by omega))).2
  have key : ∀ m k n, k + m = len → m < n → run n (st k (fold k f t0)) = some (out (fold len f t0)) := by
    intro m
    induction m with
    | zero =>
      intro k n hk hn
      obtain ⟨n, rfl⟩ : ∃ n', n = n' + 1 := ⟨n - 1, by omega⟩
      obtain rfl : k = len := by omega
      exact he n _ (inv k (Nat.le_refl _))
    | succ m ih =>
      intro k n hk hn
      obtain ⟨n, rfl⟩ : ∃ n', n = n' + 1 := ⟨n - 1, by omega⟩
      rw [(hs n k _ (by omega) (inv k (by omega))).1, ← fold_succ k f t0]
      exact ih (k + 1) n (by omega) (by omega)
  exact ⟨key len 0 FUEL (by omega) (by have := FUEL_le; omega), inv len (Nat.le_refl _)⟩
/-- The same for a loop that may leave early. -/
theorem run_forE {S T D Q : Type} {run : Nat → S → Option D} {len : Nat} (st : Nat → T → S) (f : T → Nat → Q ⊕ T) (outl : Q → D) (out : T → D) (Inv : Nat → T → Prop) (hl : len ≤ 100000000)
    (hs : ∀ n k t, k < len → Inv k t → match f t k with | .inl d => run (n + 1) (st k t) = some (outl d) | .inr t' => run (n + 1) (st k t) = run n (st (k + 1) t') ∧ Inv (k + 1) t')
    (he : ∀ n t, Inv len t → run (n + 1) (st len t) = some (out t)) {t0 : T} (h0 : Inv 0 t0) :
    run FUEL (st 0 t0) = some (match loopE len f t0 with | .inl d => outl d | .inr t => out t) ∧ ∀ t, loopE len f t0 = .inr t → Inv len t := by
  have left : ∀ m k d, k + m ≤ len → loopE k f t0 = .inl d → loopE (k + m) f t0 = .inl d := by
    intro m
    induction m with
    | zero => intro k d _ h; exact h
    | succ m ih =>
      intro k d hk h
      refine ih (k := k) d (by omega) h |> fun h2 => ?_
      show loopE (k + m + 1) f t0 = _
      unfold loopE at h2 ⊢
      rw [fold_succ, h2]
  have inv : ∀ k, k ≤ len → ∀ t, loopE k f t0 = .inr t → Inv k t := by
    intro k
    induction k with
    | zero => intro _ t h; cases h; exact h0
    | succ k ih =>
      intro hk t h
      cases hq : loopE k f t0 with
      | inl d => rw [left 1 k d (by omega) hq] at h; cases h
      | inr t1 =>
        rw [loopE_succ hq] at h
        have := hs 0 k t1 (by omega) (ih (by omega) t1 hq)
        rw [h] at this
        exact this.2
  have key : ∀ m k n t, k + m = len → m < n → loopE k f t0 = .inr t → run n (st k t) = some (match loopE len f t0 with | .inl d => outl d | .inr t => out t) := by
    intro m
    induction m with
    | zero =>
      intro k n t hk hn ht
      obtain ⟨n, rfl⟩ : ∃ n', n = n' + 1 := ⟨n - 1, by omega⟩
      obtain rfl : k = len := by omega
      rw [he n _ (inv k (Nat.le_refl _) t ht), ht]
    | succ m ih =>
      intro k n t hk hn ht
      obtain ⟨n, rfl⟩ : ∃ n', n = n' + 1 := ⟨n - 1, by omega⟩
      have h1 := hs n k t (by omega) (inv k (by omega) t ht)
      have h2 : loopE (k + 1) f t0 = f t k := loopE_succ ht
      cases hq : f t k with
      | inl d =>
        rw [hq] at h1 h2
        rw [show len = k + 1 + m by omega, left m (k + 1) d (by omega) h2]
        exact h1
      | inr t' =>
        rw [hq] at h1 h2
        rw [h1.1]
        exact ih (k + 1) n t' (by omega) (by omega) h2
  exact ⟨key len 0 FUEL t0 (by omega) (by have := FUEL_le; omega) rfl, inv len (Nat.le_refl _)⟩

/-! ### Go's numbers -/
theorem bits64 : IntKind.i64.bits = 64 := by kernel_rfl
theorem wrap_nat {a : Nat} (ha : a < 9223372036854775808) : IntKind.i64.wrap (a : Int) = a := i64_wrap_nat a ha
theorem shl_nat {a k : Nat} (h : a * 2 ^ k < 9223372036854775808) (hk : k < 64) : IntKind.i64.wrap ((a : Int) * 2 ^ min (k : Int).toNat IntKind.i64.bits) = ((a * 2 ^ k : Nat) : Int) := by
  rw [bits64, Int.toNat_natCast, Nat.min_eq_left (by omega), show (a : Int) * 2 ^ k = ((a * 2 ^ k : Nat) : Int) by simp]
  exact wrap_nat h
theorem one_shl {k : Nat} (hk : k < 63) : IntKind.i64.wrap (1 * 2 ^ min (k : Int).toNat IntKind.i64.bits) = ((2 ^ k : Nat) : Int) := by
  have h := shl_nat (a := 1) (k := k) (by have : (2 : Nat) ^ k ≤ 2 ^ 62 := Nat.pow_le_pow_right (by omega) (by omega); omega) (by omega)
  rw [Nat.one_mul] at h
  exact h
theorem shr_is (a k : Nat) (hk : k ≤ 64) : (a : Int).fdiv (2 ^ min (k : Int).toNat IntKind.i64.bits) = ((a / 2 ^ k : Nat) : Int) := by
  rw [bits64, Int.toNat_natCast, Nat.min_eq_left hk, Int.fdiv_eq_ediv_of_nonneg _ (by exact Int.le_of_lt (Int.pow_pos (by decide)))]
  simp
theorem tmod_nat (a b : Nat) : (a : Int).tmod (b : Int) = ((a % b : Nat) : Int) := by
  rw [Int.tmod_eq_emod_of_nonneg (Int.natCast_nonneg a)]; rfl
theorem tmod2_nat (a : Nat) : (a : Int).tmod 2 = ((a % 2 : Nat) : Int) := tmod_nat a 2
theorem tdiv2_nat (a : Nat) : (a : Int).tdiv 2 = ((a / 2 : Nat) : Int) := by
  rw [Int.tdiv_eq_ediv_of_nonneg (Int.natCast_nonneg a)]; rfl
theorem div_mod_bit (a k : Nat) : a / 2 ^ k % 2 = (a.testBit k).toNat := by
  rw [testBit_div]
  have : a / 2 ^ k % 2 = 0 ∨ a / 2 ^ k % 2 = 1 := by omega
  rcases this with h | h <;> simp [h]
/-- The bit of a set at a place, in the two ways that the texts have for it. -/
theorem bit_shr (a k : Nat) (hk : k ≤ 64) : ((a : Int).fdiv (2 ^ min (k : Int).toNat IntKind.i64.bits)).tmod 2 = ((a.testBit k).toNat : Int) := by
  rw [shr_is a k hk, tmod2_nat, div_mod_bit]
theorem bit_shr1 (a k : Nat) (hk : k ≤ 64) : bits .and .i64 ((a : Int).fdiv (2 ^ min (k : Int).toNat IntKind.i64.bits)) 1 = ((a.testBit k).toNat : Int) := by
  rw [i64_and1, shr_is a k hk, ← div_mod_bit]; rfl
theorem bool_eq1 (b : Bool) : (((b.toNat : Nat) : Int) == 1) = b := by cases b <;> rfl
theorem bool_eq0 (b : Bool) : (((b.toNat : Nat) : Int) == 0) = !b := by cases b <;> rfl
theorem bool_ne1 (b : Bool) : (((b.toNat : Nat) : Int) != 1) = !b := by cases b <;> rfl
theorem bool_ne0 (b : Bool) : (((b.toNat : Nat) : Int) != 0) = b := by cases b <;> rfl
theorem bool_eqq (a b : Bool) : (((a.toNat : Nat) : Int) == ((b.toNat : Nat) : Int)) = (a == b) := by cases a <;> cases b <;> rfl
theorem bool_neq (a b : Bool) : (((a.toNat : Nat) : Int) != ((b.toNat : Nat) : Int)) = (a != b) := by cases a <;> cases b <;> rfl
theorem nat_beq (a b : Nat) : ((a : Int) == (b : Int)) = (a == b) := by rw [Bool.eq_iff_iff, beq_iff_eq, beq_iff_eq]; omega
theorem nat_bne (a b : Nat) : ((a : Int) != (b : Int)) = (a != b) := by rw [bne, bne, nat_beq]
theorem add_nat {a b : Nat} (h : a + b < 9223372036854775808) : IntKind.i64.wrap ((a : Int) + (b : Int)) = ((a + b : Nat) : Int) := wrap_nat h
theorem add1_nat {a : Nat} (h : a + 1 < 9223372036854775808) : IntKind.i64.wrap ((a : Int) + 1) = ((a + 1 : Nat) : Int) := wrap_nat h
theorem sub_nat {a b : Nat} (h : b ≤ a) (ha : a < 9223372036854775808) : IntKind.i64.wrap ((a : Int) - (b : Int)) = ((a - b : Nat) : Int) := by
  rw [show (a : Int) - (b : Int) = ((a - b : Nat) : Int) by omega]; exact wrap_nat (by omega)
theorem sub1_nat {a : Nat} (h : 1 ≤ a) (ha : a < 9223372036854775808) : IntKind.i64.wrap ((a : Int) - 1) = ((a - 1 : Nat) : Int) := sub_nat (b := 1) h ha
theorem mul_nat {a b : Nat} (h : a * b < 9223372036854775808) : IntKind.i64.wrap ((a : Int) * (b : Int)) = ((a * b : Nat) : Int) := by
  rw [show (a : Int) * (b : Int) = ((a * b : Nat) : Int) by simp]; exact wrap_nat h
theorem div2_nat {a : Nat} (h : a < 9223372036854775808) : IntKind.i64.wrap ((a : Int).tdiv 2) = ((a / 2 : Nat) : Int) := by
  rw [tdiv2_nat]; exact wrap_nat (by omega)
theorem pow2_lt {k : Nat} (hk : k ≤ 62) : 2 ^ k < 9223372036854775808 := by
  have : (2 : Nat) ^ k ≤ 2 ^ 62 := Nat.pow_le_pow_right (by omega) hk
  omega
end Go.Proofs.Ythcidiihfjjpdaa
/- Finite sums of natural numbers, and how many there are of a kind. Conditions: those of each theorem. -/
namespace Go.Proofs.Ythcidiihfjjpdaa
set_option linter.unusedVariables false
set_option linter.unusedSimpArgs false

/-- f 0 + .. + f (n - 1). -/
def sumN : Nat → (Nat → Nat) → Nat
  | 0, _ => 0
  | n + 1, f => sumN n f + f n
theorem fold_sum (n : Nat) (f : Nat → Nat) : fold n (fun a k => a + f k) 0 = sumN n f := by
  induction n with
  | zero => rfl
  | succ n ih => rw [fold_succ, ih]; rfl
theorem sumN_congr {n : Nat} {f g : Nat → Nat} (h : ∀ k, k < n → f k = g k) : sumN n f = sumN n g := by
  induction n with
  | zero => rfl
  | succ n ih => simp only [sumN]; rw [ih (fun k hk => h k (by omega)), h n (by omega)]
theorem sumN_le {n : Nat} {f g : Nat → Nat} (h : ∀ k, k < n → f k ≤ g k) : sumN n f ≤ sumN n g := by
  induction n with
  | zero => exact Nat.le_refl _
  | succ n ih =>
    have h1 := ih (fun k hk => h k (by omega))
    have h2 := h n (by omega)
    simp only [sumN]; omega
theorem sumN_add (n : Nat) (f g : Nat → Nat) : sumN n (fun k => f k + g k) = sumN n f + sumN n g := by
  induction n with
  | zero => rfl
  | succ n ih => simp only [sumN]; omega
theorem sumN_zero (n : Nat) : sumN n (fun _ => 0) = 0 := by
  induction n with
  | zero => rfl
  | succ n ih => simp only [sumN]; omega
theorem sumN_const (n c : Nat) : sumN n (fun _ => c) = n * c := by
  induction n with
  | zero => simp [sumN]
  | succ n ih => simp only [sumN]; rw [ih, Nat.succ_mul]
theorem sumN_mul (n c : Nat) (f : Nat → Nat) : sumN n (fun k => f k * c) = sumN n f * c := by
  induction n with
  | zero => simp [sumN]
  | succ n ih => simp only [sumN]; rw [ih, Nat.add_mul]
theorem sumN_swap (n m : Nat) (f : Nat → Nat → Nat) : sumN n (fun k => sumN m (f k)) = sumN m (fun j => sumN n (fun k => f k j)) := by
  induction n with
  | zero => simp only [sumN]; rw [sumN_zero]
  | succ n ih =>
    simp only [sumN]
    rw [ih, ← sumN_add]
theorem sumN_pos {n : Nat} {f : Nat → Nat} {k : Nat} (hk : k < n) : f k ≤ sumN n f := by
  induction n with
  | zero => omega
  | succ n ih =>
    simp only [sumN]
    by_cases h : k = n
    · subst h; omega
    · have := ih (by omega); omega
theorem sumN_one {n : Nat} {f : Nat → Nat} {k : Nat} (hk : k < n) (h : ∀ j, j < n → j ≠ k → f j = 0) : sumN n f = f k := by
  induction n with
  | zero => omega
  | succ n ih =>
    simp only [sumN]
    by_cases hkn : k = n
    · subst hkn
      rw [sumN_congr (g := fun _ => 0) (fun j hj => h j (by omega) (by omega)), sumN_zero]; omega
    · rw [ih (by omega) (fun j hj => h j (by omega)), h n (by omega) (by omega)]; omega
/-- A square that is the same both ways: twice its lower half, and its diagonal. -/
theorem sumN_sym {n : Nat} {a : Nat → Nat → Nat} (h : ∀ k j, k < n → j < n → a k j = a j k) : sumN n (fun k => sumN n (a k)) = sumN n (fun k => a k k) + 2 * sumN n (fun k => sumN k (a k)) := by
  induction n with
  | zero => rfl
  | succ n ih =>
    have h1 : sumN n (fun k => sumN (n + 1) (a k)) = sumN n (fun k => sumN n (a k)) + sumN n (a n) := by
      show sumN n (fun k => sumN n (a k) + a k n) = _
      rw [sumN_add, sumN_congr (f := fun k => a k n) (g := a n) (fun k hk => h k n (by omega) (by omega))]
    show sumN n (fun k => sumN (n + 1) (a k)) + sumN (n + 1) (a n) = sumN n (fun k => a k k) + a n n + 2 * (sumN n (fun k => sumN k (a k)) + sumN n (a n))
    rw [h1, ih (fun k j hk hj => h k j (by omega) (by omega))]
    show _ + (sumN n (a n) + a n n) = _
    omega
/-- How many below n are of a kind. -/
def cnt (n : Nat) (p : Nat → Bool) : Nat := sumN n (fun k => (p k).toNat)
theorem cnt_le (n : Nat) (p : Nat → Bool) : cnt n p ≤ n := by
  have := sumN_le (n := n) (f := fun k => (p k).toNat) (g := fun _ => 1) (fun k _ => by cases p k <;> decide)
  rw [sumN_const] at this
  unfold cnt; omega
theorem cnt_mono {n : Nat} {p q : Nat → Bool} (h : ∀ k, k < n → p k = true → q k = true) : cnt n p ≤ cnt n q :=
  sumN_le fun k hk => by
    have := h k hk
    cases hp : p k with
    | false => exact Nat.zero_le _
    | true => rw [this hp]; exact Nat.le_refl _
theorem cnt_congr {n : Nat} {p q : Nat → Bool} (h : ∀ k, k < n → p k = q k) : cnt n p = cnt n q := sumN_congr fun k hk => by rw [h k hk]
theorem cnt_not (n : Nat) (p : Nat → Bool) : cnt n p + cnt n (fun k => !p k) = n := by
  unfold cnt
  rw [← sumN_add, sumN_congr (g := fun _ => 1) (fun k _ => by simp only; cases p k <;> rfl), sumN_const]; omega
/-- No more than there are places to which each goes. -/
theorem cnt_inj {n m : Nat} {p q : Nat → Bool} (f : Nat → Nat) (hf : ∀ k, k < n → p k = true → f k < m ∧ q (f k) = true) (hi : ∀ j k, j < n → k < n → p j = true → p k = true → f j = f k → j = k) : cnt n p ≤ cnt m q := by
  have h1 : cnt n p = sumN n (fun k => sumN m (fun v => (p k && decide (f k = v)).toNat)) := by
    refine sumN_congr fun k hk => ?_
    cases hp : p k with
    | false => rw [sumN_congr (g := fun _ => 0) (fun v _ => by simp), sumN_zero]; rfl
    | true => rw [sumN_one (k := f k) (hf k hk hp).1 (fun v _ hv => by simp; omega)]; simp
  rw [h1, sumN_swap]
  refine sumN_le fun v hv => ?_
  -- at most one of them goes to v
  by_cases hex : ∃ k, k < n ∧ p k = true ∧ f k = v
  · obtain ⟨k, hk, hp, rfl⟩ := hex
    rw [sumN_one (k := k) hk (fun j hj hne => ?_)]
    · rw [hp, (hf k hk hp).2]; simp
    · cases hpj : p j with
      | false => rfl
      | true =>
        have : f j ≠ f k := fun he => hne (hi j k hj hk hpj hp he)
        simp [this]
  · rw [sumN_congr (g := fun _ => 0) (fun k hk => ?_), sumN_zero]
    · exact Nat.zero_le _
    · cases hp : p k with
      | false => rfl
      | true =>
        have : f k ≠ v := fun he => hex ⟨k, hk, hp, he⟩
        simp [this]
theorem cnt_lt_of {n : Nat} {p : Nat → Bool} {k : Nat} (hk : k < n) (hp : p k = false) : cnt n p < n := by
  have h1 := cnt_not n p
  have h2 : (!p k).toNat ≤ cnt n (fun k => !p k) := sumN_pos (f := fun k => (!p k).toNat) hk
  rw [hp] at h2
  simp at h2
  omega
theorem cnt_all {n : Nat} {p : Nat → Bool} (h : cnt n p = n) {k : Nat} (hk : k < n) : p k = true := by
  cases hp : p k with
  | true => rfl
  | false => have := cnt_lt_of hk hp; omega
theorem cnt_true (n : Nat) : cnt n (fun _ => true) = n := by
  show sumN n (fun _ => 1) = n
  rw [sumN_const]; omega
/-- What goes to different places below n meets them all. -/
theorem onto_of_inj {n : Nat} {f : Nat → Nat} (hf : ∀ k, k < n → f k < n) (hi : ∀ j k, j < n → k < n → f j = f k → j = k) {v : Nat} (hv : v < n) : ∃ k, k < n ∧ f k = v := by
  have h1 := cnt_inj (n := n) (m := n) (p := fun _ => true) (q := fun v => decide (∃ k, k < n ∧ f k = v)) f (fun k hk _ => ⟨hf k hk, by simpa using ⟨k, hk, rfl⟩⟩) (fun j k hj hk _ _ he => hi j k hj hk he)
  rw [cnt_true] at h1
  have h2 := cnt_all (Nat.le_antisymm (cnt_le n _) h1) hv
  simpa using h2
/-- A sum in another order. -/
theorem sumN_perm {n : Nat} {f : Nat → Nat} (hf : ∀ k, k < n → f k < n) (hi : ∀ j k, j < n → k < n → f j = f k → j = k) (g : Nat → Nat) : sumN n (fun k => g (f k)) = sumN n g := by
  have h1 : sumN n (fun k => g (f k)) = sumN n (fun k => sumN n (fun v => if f k = v then g v else 0)) := by
    refine sumN_congr fun k hk => ?_
    rw [sumN_one (k := f k) (hf k hk) (fun v _ hv => by rw [if_neg (Ne.symm hv)]), if_pos rfl]
  rw [h1, sumN_swap]
  refine sumN_congr fun v hv => ?_
  obtain ⟨k, hk, rfl⟩ := onto_of_inj hf hi hv
  rw [sumN_one (k := k) hk (fun j hj hne => by rw [if_neg]; exact fun he => hne (hi j k hj hk he)), if_pos rfl]
theorem card_sum (n s : Nat) : card n s = cnt n (fun k => s.testBit k) := by
  unfold cnt
  induction n with
  | zero => rfl
  | succ n ih => rw [card_succ, ih]; simp only [sumN]; cases s.testBit n <;> rfl
end Go.Proofs.Ythcidiihfjjpdaa
/- Watches: plain facts of nets and sets of their places. Conditions: those of each theorem. -/
namespace Go.Proofs.Ythcidiihfjjpdaa
set_option linter.unusedVariables false
set_option linter.unusedSimpArgs false

theorem allOf_lt (net : List Int) : allOf net < 2 ^ net.length := by
  unfold allOf
  have : 0 < 2 ^ net.length := Nat.two_pow_pos _
  omega
/-- Does a set watch the net? -/
def W (net : List Int) (s : Nat) : Bool := seen net s == allOf net
theorem W_iff {net : List Int} (h : Ok net) {s : Nat} (hs : s < 2 ^ net.length) : W net s = true ↔ ∀ j, j < net.length → (seen net s).testBit j = true := by
  unfold W
  rw [beq_iff_eq]
  constructor
  · intro he j hj; rw [he, allOf_testBit]; simpa using hj
  · intro ha
    refine eq_of_bits (h.seen_lt hs) (allOf_lt net) fun j hj => ?_
    rw [ha j hj, allOf_testBit]; simp [hj]
theorem seen_iff {net : List Int} (h : Ok net) (s : Nat) {j : Nat} (hj : j < net.length) : (seen net s).testBit j = true ↔ s.testBit j = true ∨ ∃ k, k < net.length ∧ s.testBit k = true ∧ (nb net j).testBit k = true := by
  rw [seen_testBit]
  constructor
  · rintro (a | ⟨k, hk, a, b⟩)
    · exact .inl a
    · exact .inr ⟨k, hk, a, by rw [← h.sym _ _ hj hk]; exact b⟩
  · rintro (a | ⟨k, hk, a, b⟩)
    · exact .inl a
    · exact .inr ⟨k, hk, a, by rw [h.sym _ _ hj hk]; exact b⟩
theorem seen_mono {net : List Int} {s t : Nat} (h : ∀ j, s.testBit j = true → t.testBit j = true) {j : Nat} (hj : (seen net s).testBit j = true) : (seen net t).testBit j = true := by
  rw [seen_testBit] at hj ⊢
  rcases hj with a | ⟨k, hk, a, b⟩
  · exact .inl (h _ a)
  · exact .inr ⟨k, hk, h _ a, b⟩
theorem W_mono {net : List Int} (h : Ok net) {s t : Nat} (hs : s < 2 ^ net.length) (ht : t < 2 ^ net.length) (hst : ∀ j, s.testBit j = true → t.testBit j = true) (hw : W net s = true) : W net t = true :=
  (W_iff h ht).2 fun j hj => seen_mono hst ((W_iff h hs).1 hw j hj)
theorem W_all {net : List Int} (h : Ok net) : W net (allOf net) = true :=
  (W_iff h (allOf_lt net)).2 fun j hj => by rw [seen_testBit, allOf_testBit]; simp [hj]
theorem W_zero {net : List Int} (h : Ok net) : W net 0 = false := by
  cases hw : W net 0 with
  | false => rfl
  | true =>
    have := (W_iff h (Nat.two_pow_pos _)).1 hw 0 h.lo
    rw [seen_testBit] at this
    simp at this
theorem seen_or (net : List Int) (s t : Nat) : seen net (s ||| t) = seen net s ||| seen net t := by
  apply Nat.eq_of_testBit_eq
  intro j
  rw [Bool.eq_iff_iff, Nat.testBit_or, Bool.or_eq_true, seen_testBit, seen_testBit, seen_testBit]
  simp only [Nat.testBit_or, Bool.or_eq_true]
  constructor
  · rintro ((a | a) | ⟨k, hk, a | a, b⟩)
    · exact .inl (.inl a)
    · exact .inr (.inl a)
    · exact .inl (.inr ⟨k, hk, a, b⟩)
    · exact .inr (.inr ⟨k, hk, a, b⟩)
  · rintro ((a | ⟨k, hk, a, b⟩) | (a | ⟨k, hk, a, b⟩))
    · exact .inl (.inl a)
    · exact .inr ⟨k, hk, .inl a, b⟩
    · exact .inl (.inr a)
    · exact .inr ⟨k, hk, .inr a, b⟩
theorem seen_zero (net : List Int) : seen net 0 = 0 := by
  apply Nat.eq_of_testBit_eq
  intro j
  rw [Bool.eq_iff_iff, seen_testBit]
  simp
theorem ball_and {net : List Int} (h : Ok net) {k s : Nat} (hk : k < net.length) (hs : s < 2 ^ net.length) : ((ball net k &&& s) != 0) = (seen net s).testBit k := by
  rw [Bool.eq_iff_iff, seen_iff h s hk, bne_iff_ne, ne_eq]
  constructor
  · intro hne
    have : ∃ j, (ball net k &&& s).testBit j = true := by
      refine Classical.byContradiction fun hc => hne (Nat.eq_of_testBit_eq fun j => ?_)
      rw [Nat.zero_testBit]
      cases hb : (ball net k &&& s).testBit j with
      | false => rfl
      | true => exact absurd ⟨j, hb⟩ hc
    obtain ⟨j, hj⟩ := this
    rw [Nat.testBit_and, Bool.and_eq_true, ball_testBit] at hj
    rcases hj with ⟨a | rfl, b⟩
    · exact .inr ⟨j, h.nb_lt hk a, b, a⟩
    · exact .inl b
  · intro hor he
    have hz : ∀ j, (ball net k &&& s).testBit j = false := fun j => by rw [he, Nat.zero_testBit]
    rcases hor with a | ⟨j, hj, a, b⟩
    · have := hz k
      rw [Nat.testBit_and, a, (ball_testBit net k k).2 (.inr rfl)] at this; cases this
    · have := hz j
      rw [Nat.testBit_and, a, (ball_testBit net k j).2 (.inl b)] at this; cases this

/-! ### Without one place -/
theorem bits_sub : ∀ s, s < 64 → ∀ k, k < 6 → s.testBit k = true → s - 2 ^ k < 64 ∧ 2 ^ k ≤ s ∧ size (s - 2 ^ k) + 1 = size s ∧ ∀ j, j < 6 → (s - 2 ^ k).testBit j = (s.testBit j && !decide (j = k)) := by decide +kernel
theorem bits_or : ∀ s, s < 64 → ∀ k, k < 6 → s.testBit k = false → size (s ||| 2 ^ k) = size s + 1 := by decide +kernel
theorem bits_minus : ∀ s, s < 64 → ∀ k, k < 6 → minus s (2 ^ k) = if s.testBit k = true then s - 2 ^ k else s := by decide +kernel
theorem testBit_big {s j : Nat} (hs : s < 64) (hj : 6 ≤ j) : s.testBit j = false := by
  cases h : s.testBit j with
  | false => rfl
  | true => have := testBit_lt (n := 6) hs h; omega
theorem sub_testBit {s k : Nat} (hs : s < 64) (hk : k < 6) (hb : s.testBit k = true) (j : Nat) : (s - 2 ^ k).testBit j = (s.testBit j && !decide (j = k)) := by
  have h := bits_sub s hs k hk hb
  by_cases hj : j < 6
  · exact h.2.2.2 j hj
  · rw [testBit_big h.1 (by omega), testBit_big hs (by omega)]; rfl
theorem sub_lt {s k n : Nat} (hs : s < 2 ^ n) : s - 2 ^ k < 2 ^ n := Nat.lt_of_le_of_lt (Nat.sub_le _ _) hs

/-- A watch that needs each of its places. -/
def least (net : List Int) (s : Nat) : Bool := W net s && (List.range net.length).all fun k => !(s.testBit k && W net (s - 2 ^ k))
theorem least_iff {net : List Int} {s : Nat} : least net s = true ↔ W net s = true ∧ ∀ k, k < net.length → s.testBit k = true → W net (s - 2 ^ k) = false := by
  unfold least
  rw [Bool.and_eq_true, List.all_eq_true]
  simp only [List.mem_range, Bool.not_eq_true', Bool.and_eq_false_imp]
theorem lt64 {net : List Int} (h : Ok net) {s : Nat} (hs : s < 2 ^ net.length) : s < 64 := Nat.lt_of_lt_of_le hs h.pow
/-- No other watch is within a least one. -/
theorem least_min {net : List Int} (h : Ok net) {s t : Nat} (hs : s < 2 ^ net.length) (hl : least net s = true) (hts : ∀ j, t.testBit j = true → s.testBit j = true) (ht : t < 2 ^ net.length) (hw : W net t = true) : t = s := by
  refine Classical.byContradiction fun hne => ?_
  have : ∃ k, k < net.length ∧ s.testBit k = true ∧ t.testBit k = false := by
    refine Classical.byContradiction fun hc => hne (eq_of_bits ht hs fun j hj => ?_)
    cases hb : t.testBit j with
    | true => exact (hts j hb).symm
    | false => cases hb2 : s.testBit j with
      | false => rfl
      | true => exact absurd ⟨j, hj, hb2, hb⟩ hc
  obtain ⟨k, hk, h1, h2⟩ := this
  have h3 := (least_iff.1 hl).2 k hk h1
  rw [W_mono h ht (sub_lt hs) (fun j hj => ?_) hw] at h3
  · cases h3
  · rw [sub_testBit (lt64 h hs) (by have := h.hi; omega) h1, hts j hj, Bool.true_and]
    by_cases hjk : j = k
    · subst hjk; rw [h2] at hj; cases hj
    · simp [hjk]
/-- Each watch has a least one in it. -/
theorem least_in {net : List Int} (h : Ok net) : ∀ (m s : Nat), size s ≤ m → s < 2 ^ net.length → W net s = true → ∃ t, t < 2 ^ net.length ∧ (∀ j, t.testBit j = true → s.testBit j = true) ∧ least net t = true ∧ size t ≤ size s := by
  intro m
  induction m with
  | zero =>
    intro s hm hs hw
    refine ⟨s, hs, fun _ hj => hj, least_iff.2 ⟨hw, fun k hk hb => ?_⟩, Nat.le_refl _⟩
    have := (bits_sub s (lt64 h hs) k (by have := h.hi; omega) hb).2.2.1
    omega
  | succ m ih =>
    intro s hm hs hw
    by_cases hex : ∃ k, k < net.length ∧ s.testBit k = true ∧ W net (s - 2 ^ k) = true
    · obtain ⟨k, hk, hb, hw2⟩ := hex
      have h6 : k < 6 := by have := h.hi; omega
      have hz := (bits_sub s (lt64 h hs) k h6 hb).2.2.1
      obtain ⟨t, ht, hsub, hl, hsz⟩ := ih (s - 2 ^ k) (by omega) (sub_lt hs) hw2
      refine ⟨t, ht, fun j hj => ?_, hl, by omega⟩
      have := hsub j hj
      rw [sub_testBit (lt64 h hs) h6 hb, Bool.and_eq_true] at this
      exact this.1
    · refine ⟨s, hs, fun _ hj => hj, least_iff.2 ⟨hw, fun k hk hb => ?_⟩, Nat.le_refl _⟩
      cases hw2 : W net (s - 2 ^ k) with
      | false => rfl
      | true => exact absurd ⟨k, hk, hb, hw2⟩ hex
/-- The complement. -/
theorem compl_testBit {net : List Int} {s : Nat} (hs : s < 2 ^ net.length) (j : Nat) : (allOf net - s).testBit j = (decide (j < net.length) && !s.testBit j) := by
  unfold allOf
  rw [show 2 ^ net.length - 1 - s = 2 ^ net.length - (s + 1) by omega, Nat.testBit_two_pow_sub_succ hs]
theorem compl_lt (net : List Int) (s : Nat) : allOf net - s < 2 ^ net.length := Nat.lt_of_le_of_lt (Nat.sub_le _ _) (allOf_lt net)
/-- What a least watch leaves free is a watch, where no place is alone. -/
theorem free_watch {net : List Int} (h : Ok net) (hlone : ∀ k, k < net.length → nb net k ≠ 0) {s : Nat} (hs : s < 2 ^ net.length) (hl : least net s = true) : W net (allOf net - s) = true := by
  refine (W_iff h (compl_lt net s)).2 fun j hj => ?_
  rw [seen_iff h _ hj]
  cases hb : s.testBit j with
  | false => left; rw [compl_testBit hs]; simp [hj, hb]
  | true =>
    right
    have hn := (least_iff.1 hl).2 j hj hb
    have h6 : j < 6 := by have := h.hi; omega
    have hex : ∃ v, v < net.length ∧ (seen net (s - 2 ^ j)).testBit v = false := by
      refine Classical.byContradiction fun hc => ?_
      rw [(W_iff h (sub_lt hs)).2 (fun v hv => ?_)] at hn
      · cases hn
      · cases hv2 : (seen net (s - 2 ^ j)).testBit v with
        | true => rfl
        | false => exact absurd ⟨v, hv, hv2⟩ hc
    obtain ⟨v, hv, hv2⟩ := hex
    have hnot : ¬ ((s - 2 ^ j).testBit v = true ∨ ∃ k, k < net.length ∧ (s - 2 ^ j).testBit k = true ∧ (nb net v).testBit k = true) := by
      rw [← seen_iff h _ hv, hv2]; simp
    have hall := (W_iff h hs).1 (least_iff.1 hl).1
    by_cases hvj : v = j
    · subst hvj
      -- a neighbour of v is outside
      obtain ⟨i, hi⟩ : ∃ i, (nb net v).testBit i = true := by
        refine Classical.byContradiction fun hc => hlone v hv (Nat.eq_of_testBit_eq fun i => ?_)
        rw [Nat.zero_testBit]
        cases hb2 : (nb net v).testBit i with
        | false => rfl
        | true => exact absurd ⟨i, hb2⟩ hc
      have hil := h.nb_lt hv hi
      refine ⟨i, hil, ?_, hi⟩
      rw [compl_testBit hs]
      cases hsi : s.testBit i with
      | false => simp [hil]
      | true =>
        refine absurd (.inr ⟨i, hil, ?_, hi⟩) hnot
        rw [sub_testBit (lt64 h hs) h6 hb, hsi]
        have : i ≠ v := fun he => by rw [he, h.irr v hv] at hi; cases hi
        simp [this]
    · have hv3 := (seen_iff h s hv).1 (hall v hv)
      have hnv : s.testBit v = false := by
        cases hsv : s.testBit v with
        | false => rfl
        | true => refine absurd (.inl ?_) hnot; rw [sub_testBit (lt64 h hs) h6 hb, hsv]; simp [hvj]
      rcases hv3 with a | ⟨k, hk, a, b⟩
      · rw [hnv] at a; cases a
      · have hkj : k = j := by
          refine Classical.byContradiction fun hne => hnot (.inr ⟨k, hk, ?_, b⟩)
          rw [sub_testBit (lt64 h hs) h6 hb, a]; simp [hne]
        subst hkj
        refine ⟨v, hv, ?_, by rw [h.sym _ _ hv hk]; exact b⟩
        rw [compl_testBit hs, hnv]; simp [hv]
end Go.Proofs.Ythcidiihfjjpdaa
/- The fewest guards of watches, and how many watches there are. Conditions: those of each theorem. -/
namespace Go.Proofs.Ythcidiihfjjpdaa
set_option linter.unusedVariables false
set_option linter.unusedSimpArgs false

theorem size_cnt {net : List Int} (h : Ok net) {s : Nat} (hs : s < 2 ^ net.length) : size s = cnt net.length (fun k => s.testBit k) := by
  rw [h.size_eq hs, card_sum]
theorem size_compl {net : List Int} (h : Ok net) {s : Nat} (hs : s < 2 ^ net.length) : size s + size (allOf net - s) = net.length := by
  rw [size_cnt h hs, size_cnt h (compl_lt net s)]
  rw [cnt_congr (p := fun k => (allOf net - s).testBit k) (q := fun k => !s.testBit k) (fun k hk => by rw [compl_testBit hs]; simp [hk])]
  exact cnt_not _ _
/-- So many places has the smallest watch. -/
structure Few (net : List Int) (m : Nat) : Prop where
  ex : ∃ s, s < 2 ^ net.length ∧ W net s = true ∧ size s = m
  le : ∀ s, s < 2 ^ net.length → W net s = true → m ≤ size s
theorem Few.uniq {net : List Int} {a b : Nat} (ha : Few net a) (hb : Few net b) : a = b := by
  obtain ⟨s, h1, h2, h3⟩ := ha.ex
  obtain ⟨t, g1, g2, g3⟩ := hb.ex
  have := ha.le t g1 g2
  have := hb.le s h1 h2
  omega
/-- A smallest watch is a least one. -/
theorem few_least {net : List Int} (h : Ok net) {s m : Nat} (hf : Few net m) (hs : s < 2 ^ net.length) (hw : W net s = true) (hz : size s = m) : least net s = true := by
  refine least_iff.2 ⟨hw, fun k hk hb => ?_⟩
  cases hw2 : W net (s - 2 ^ k) with
  | false => rfl
  | true =>
    have h1 := hf.le _ (sub_lt hs) hw2
    have h2 := (bits_sub s (lt64 h hs) k (by have := h.hi; omega) hb).2.2.1
    omega
/-- Half of the places suffice. -/
theorem few_half {net : List Int} (h : Ok net) (hlone : ∀ k, k < net.length → nb net k ≠ 0) {m : Nat} (hf : Few net m) : 2 * m ≤ net.length := by
  obtain ⟨s, h1, h2, h3⟩ := hf.ex
  have hl := few_least h hf h1 h2 h3
  have h4 := hf.le _ (compl_lt net s) (free_watch h hlone h1 hl)
  have h5 := size_compl h h1
  omega
/-- The least place of a part. -/
def root (net : List Int) (k : Nat) : Bool := (comp net k &&& (2 ^ k - 1)) == 0
theorem parts_cnt (net : List Int) : parts net = cnt net.length (root net) := by
  unfold parts cnt root
  rw [← fold_sum]
  congr 1
  funext a k
  cases hk : (comp net k &&& (2 ^ k - 1)) == 0 with
  | true => rw [if_pos (by simpa using hk)]; rfl
  | false => rw [if_neg (fun he => by rw [he] at hk; cases hk)]; rfl
theorem root_iff {net : List Int} {k : Nat} : root net k = true ↔ ∀ j, j < k → (comp net k).testBit j = false := by
  unfold root
  rw [beq_iff_eq]
  constructor
  · intro he j hj
    have : (comp net k &&& (2 ^ k - 1)).testBit j = false := by rw [he, Nat.zero_testBit]
    rw [Nat.testBit_and, Nat.testBit_two_pow_sub_one] at this
    simpa [hj] using this
  · intro ha
    apply Nat.eq_of_testBit_eq
    intro j
    rw [Nat.zero_testBit, Nat.testBit_and, Nat.testBit_two_pow_sub_one]
    by_cases hj : j < k
    · rw [ha j hj]; rfl
    · simp [hj]
theorem root_same {net : List Int} (h : Ok net) {j k : Nat} (hj : j < net.length) (hk : k < net.length) (hrj : root net j = true) (hrk : root net k = true) (he : comp net j = comp net k) : j = k := by
  have h1 := h.comp_self hj
  have h2 := h.comp_self hk
  rcases Nat.lt_trichotomy j k with hl | hl | hl
  · have := root_iff.1 hrk j hl; rw [← he, h1] at this; cases this
  · exact hl
  · have := root_iff.1 hrj k hl; rw [he, h2] at this; cases this
theorem comp_nb {net : List Int} (h : Ok net) {j k : Nat} (hj : j < net.length) (hn : (nb net j).testBit k = true) : (comp net j).testBit k = true :=
  (h.comp_testBit hj k).2 (.step (.here (by rw [allOf_testBit]; simpa using hj)) hj hn (by rw [allOf_testBit]; simpa using h.nb_lt hj hn))
/-- There are at least as many guards as parts. -/
theorem few_parts {net : List Int} (h : Ok net) {s : Nat} (hs : s < 2 ^ net.length) (hw : W net s = true) : parts net ≤ size s := by
  rw [parts_cnt, size_cnt h hs]
  have hex : ∀ k, k < net.length → ∃ i, i < net.length ∧ s.testBit i = true ∧ (comp net k).testBit i = true := by
    intro k hk
    rcases (seen_iff h s hk).1 ((W_iff h hs).1 hw k hk) with a | ⟨i, hi, a, b⟩
    · exact ⟨k, hk, a, h.comp_self hk⟩
    · exact ⟨i, hi, a, comp_nb h hk b⟩
  have hex2 : ∀ k, ∃ i, k < net.length → i < net.length ∧ s.testBit i = true ∧ (comp net k).testBit i = true := by
    intro k
    by_cases hk : k < net.length
    · obtain ⟨i, hi⟩ := hex k hk; exact ⟨i, fun _ => hi⟩
    · exact ⟨0, fun hk2 => absurd hk2 hk⟩
  refine cnt_inj (fun k => Classical.choose (hex2 k)) (fun k hk _ => ?_) (fun j k hj hk hrj hrk he => ?_)
  · have := Classical.choose_spec (hex2 k) hk
    exact ⟨this.1, this.2.1⟩
  · have h1 := Classical.choose_spec (hex2 j) hj
    have h2 := Classical.choose_spec (hex2 k) hk
    rw [he] at h1
    exact root_same h hj hk hrj hrk ((h.comp_same hj h2.1 h1.2.2).trans (h.comp_same hk h2.1 h2.2.2).symm)
/-- The balls of the guards have all places. -/
theorem few_ball {net : List Int} (h : Ok net) {s most : Nat} (hs : s < 2 ^ net.length) (hw : W net s = true) (hm : ∀ k, k < net.length → size (ball net k) ≤ most) : net.length ≤ size s * most := by
  have h1 : sumN net.length (fun v => sumN net.length (fun k => (s.testBit k && (ball net k).testBit v).toNat)) ≤ size s * most := by
    rw [sumN_swap, size_cnt h hs]
    unfold cnt
    rw [← sumN_mul]
    refine sumN_le fun k hk => ?_
    cases hb : s.testBit k with
    | false => rw [sumN_congr (g := fun _ => 0) (fun v _ => by simp), sumN_zero]; exact Nat.zero_le _
    | true =>
      have := hm k hk
      rw [size_cnt h (h.ball_lt hk)] at this
      show _ ≤ (s.testBit k).toNat * most
      rw [hb, Bool.toNat_true, Nat.one_mul]
      exact this
  refine Nat.le_trans ?_ h1
  have : sumN net.length (fun _ => 1) ≤ sumN net.length (fun v => sumN net.length (fun k => (s.testBit k && (ball net k).testBit v).toNat)) := by
    refine sumN_le fun v hv => ?_
    have hx : ∃ k, k < net.length ∧ s.testBit k = true ∧ (ball net k).testBit v = true := by
      rcases (seen_iff h s hv).1 ((W_iff h hs).1 hw v hv) with a | ⟨i, hi, a, b⟩
      · exact ⟨v, hv, a, (ball_testBit _ _ _).2 (.inr rfl)⟩
      · exact ⟨i, hi, a, (ball_testBit _ _ _).2 (.inl (by rw [h.sym _ _ hv hi]; exact b))⟩
    obtain ⟨k, hk, a, b⟩ := hx
    have := sumN_pos (f := fun k => (s.testBit k && (ball net k).testBit v).toNat) hk
    simp only [a, b] at this
    exact this
  rw [sumN_const] at this; omega

/-! ### How many watches there are -/
theorem sumN_mod {n : Nat} {f g : Nat → Nat} (h : ∀ k, k < n → f k % 2 = g k % 2) : sumN n f % 2 = sumN n g % 2 := by
  induction n with
  | zero => rfl
  | succ n ih =>
    have h1 := ih (fun k hk => h k (by omega))
    have h2 := h n (by omega)
    simp only [sumN]; omega
theorem free_cnt : ∀ n, n < 7 → ∀ m, m < 2 ^ n → cnt (2 ^ n) (fun b => (m &&& b) == 0) % 2 = if m = 2 ^ n - 1 then 1 else 0 := by decide +kernel
theorem seen_and_symm {net : List Int} (h : Ok net) {a b : Nat} (ha : a < 2 ^ net.length) (hb : b < 2 ^ net.length) : ((seen net a &&& b) == 0) = ((seen net b &&& a) == 0) := by
  have key : ∀ {a b : Nat}, a < 2 ^ net.length → b < 2 ^ net.length → (seen net a &&& b) = 0 → (seen net b &&& a) = 0 := by
    intro a b ha hb he
    have hz : ∀ j, ¬ ((seen net a).testBit j = true ∧ b.testBit j = true) := fun j hj => by
      have : (seen net a &&& b).testBit j = false := by rw [he, Nat.zero_testBit]
      rw [Nat.testBit_and, hj.1, hj.2] at this; cases this
    apply Nat.eq_of_testBit_eq
    intro j
    rw [Nat.zero_testBit]
    cases hc : (seen net b &&& a).testBit j with
    | false => rfl
    | true =>
      rw [Nat.testBit_and, Bool.and_eq_true] at hc
      have hj := testBit_lt ha hc.2
      rcases (seen_iff h b hj).1 hc.1 with x | ⟨k, hk, x, y⟩
      · exact absurd ⟨(seen_testBit net a j).2 (.inl hc.2), x⟩ (hz j)
      · exact absurd ⟨(seen_testBit net a k).2 (.inr ⟨j, hj, hc.2, y⟩), x⟩ (hz k)
  rw [Bool.eq_iff_iff, beq_iff_eq, beq_iff_eq]
  exact ⟨key ha hb, key hb ha⟩
/-- There is an odd number of watches. -/
theorem watch_odd {net : List Int} (h : Ok net) : cnt (2 ^ net.length) (W net) % 2 = 1 := by
  have h1 : sumN (2 ^ net.length) (fun a => sumN (2 ^ net.length) (fun b => ((seen net a &&& b) == 0).toNat)) % 2 = cnt (2 ^ net.length) (W net) % 2 := by
    refine sumN_mod fun a ha => ?_
    have := free_cnt net.length (by have := h.hi; omega) (seen net a) (h.seen_lt ha)
    unfold cnt at this
    rw [this]
    unfold W allOf
    by_cases he : seen net a = 2 ^ net.length - 1
    · simp [he]
    · rw [if_neg he, show (seen net a == 2 ^ net.length - 1) = false by simpa using he]; rfl
  rw [← h1, sumN_sym (a := fun a b => ((seen net a &&& b) == 0).toNat) (fun a b ha hb => by rw [seen_and_symm h ha hb])]
  rw [sumN_one (k := 0) (Nat.two_pow_pos _) (fun a ha hne => ?_)]
  · simp
  · have : (seen net a &&& a) ≠ 0 := fun he => hne (Nat.eq_of_testBit_eq fun j => by
      rw [Nat.zero_testBit]
      cases hb : a.testBit j with
      | false => rfl
      | true =>
        have : (seen net a &&& a).testBit j = false := by rw [he, Nat.zero_testBit]
        rw [Nat.testBit_and, hb, (seen_testBit net a j).2 (.inl hb)] at this; cases this)
    simp [this]
end Go.Proofs.Ythcidiihfjjpdaa
/- Rows that count up, and the first one of a kind. Conditions: those of each theorem. -/
namespace Go.Proofs.Ythcidiihfjjpdaa
set_option linter.unusedVariables false
set_option linter.unusedSimpArgs false

/-- One more than the greatest number of a row. -/
def nx (r : List Nat) : Nat := r.foldl (fun t v => max t (v + 1)) 0
theorem nx_nil : nx [] = 0 := rfl
theorem nx_append (r : List Nat) (v : Nat) : nx (r ++ [v]) = max (nx r) (v + 1) := by simp [nx]
theorem foldl_max_le (r : List Nat) : ∀ t, t ≤ r.foldl (fun t v => max t (v + 1)) t ∧ ∀ v, v ∈ r → v < r.foldl (fun t v => max t (v + 1)) t := by
  induction r with
  | nil => intro t; exact ⟨Nat.le_refl _, fun v hv => (by cases hv)⟩
  | cons a r ih =>
    intro t
    obtain ⟨h1, h2⟩ := ih (max t (a + 1))
    simp only [List.foldl_cons]
    refine ⟨by omega, fun v hv => ?_⟩
    rcases List.mem_cons.1 hv with rfl | hv
    · omega
    · exact h2 v hv
theorem nx_gt {r : List Nat} {v : Nat} (h : v ∈ r) : v < nx r := (foldl_max_le r 0).2 v h
theorem nx_take_succ {r : List Nat} {k : Nat} (hk : k < r.length) : nx (r.take (k + 1)) = max (nx (r.take k)) (r.getD k 0 + 1) := by
  rw [List.take_succ_eq_append_getElem hk, nx_append]
  simp [List.getD, hk]
theorem nx_least {r : List Nat} {m : Nat} (h : ∀ v, v ∈ r → v < m) : nx r ≤ m := by
  have key : ∀ k, k ≤ r.length → nx (r.take k) ≤ m := by
    intro k
    induction k with
    | zero => intro _; simp [nx]
    | succ k ih =>
      intro hk
      rw [nx_take_succ (by omega)]
      have h1 := ih (by omega)
      have h2 : r.getD k 0 < m := by
        have : r.getD k 0 = r[k] := by simp [List.getD, show k < r.length by omega]
        rw [this]; exact h _ (List.getElem_mem _)
      omega
  have := key r.length (Nat.le_refl _)
  rwa [List.take_length] at this
/-- Each number is at most one more than all ahead of it. -/
def RG (r : List Nat) : Prop := ∀ k, k < r.length → r.getD k 0 ≤ nx (r.take k)
theorem RG.nil : RG [] := fun k hk => by simp at hk
theorem getD_app_lt {r t : List Nat} {k : Nat} (hk : k < r.length) : (r ++ t).getD k 0 = r.getD k 0 := by simp [List.getD, List.getElem?_append_left hk]
theorem getD_app_end (r : List Nat) (v : Nat) : (r ++ [v]).getD r.length 0 = v := by simp [List.getD]
theorem take_app_le {r t : List Nat} {k : Nat} (hk : k ≤ r.length) : (r ++ t).take k = r.take k := by rw [List.take_append_of_le_length hk]
theorem RG_append {r : List Nat} {v : Nat} : RG (r ++ [v]) ↔ RG r ∧ v ≤ nx r := by
  constructor
  · intro h
    refine ⟨fun k hk => ?_, ?_⟩
    · have := h k (by simp; omega)
      rwa [getD_app_lt hk, take_app_le (by omega)] at this
    · have := h r.length (by simp)
      rwa [getD_app_end, take_app_le (Nat.le_refl _), List.take_length] at this
  · rintro ⟨h1, h2⟩ k hk
    simp only [List.length_append, List.length_singleton] at hk
    by_cases he : k < r.length
    · rw [getD_app_lt he, take_app_le (by omega)]; exact h1 k he
    · obtain rfl : k = r.length := by omega
      rw [getD_app_end, take_app_le (Nat.le_refl _), List.take_length]; exact h2
theorem RG.pre {r q : List Nat} (h : RG q) (hp : r <+: q) : RG r := by
  obtain ⟨t, rfl⟩ := hp
  intro k hk
  have := h k (by simp; omega)
  rwa [getD_app_lt hk, take_app_le (by omega)] at this
theorem nx_pre {r q : List Nat} (hp : r <+: q) : nx r ≤ nx q := by
  obtain ⟨t, rfl⟩ := hp
  exact nx_least fun v hv => nx_gt (List.mem_append_left _ hv)
theorem pre_at {r q : List Nat} (hp : r <+: q) {k : Nat} (hk : k < r.length) : q.getD k 0 = r.getD k 0 := by
  obtain ⟨t, rfl⟩ := hp
  exact getD_app_lt hk
theorem pre_take {r q : List Nat} (hp : r <+: q) : q.take r.length = r := by
  obtain ⟨t, rfl⟩ := hp
  simp
theorem pre_next {r q : List Nat} (hp : r <+: q) (hl : r.length < q.length) : (r ++ [q.getD r.length 0]) <+: q := by
  obtain ⟨t, rfl⟩ := hp
  cases t with
  | nil => simp at hl
  | cons a t =>
    have : (r ++ a :: t).getD r.length 0 = a := by simp [List.getD]
    rw [this]
    exact ⟨t, by simp⟩
/-- Rows in the order of their numbers. -/
def LexLe (a b : List Nat) : Prop := a = b ∨ ∃ k, k < a.length ∧ a.take k = b.take k ∧ a.getD k 0 < b.getD k 0
theorem LexLe.antisymm {a b : List Nat} (h1 : LexLe a b) (h2 : LexLe b a) : a = b := by
  rcases h1 with h1 | ⟨k, hk, a1, a2⟩
  · exact h1
  · rcases h2 with h2 | ⟨j, hj, b1, b2⟩
    · exact h2.symm
    · exfalso
      have take_getD : ∀ {x y : List Nat} {m i : Nat}, x.take m = y.take m → i < m → x.getD i 0 = y.getD i 0 := by
        intro x y m i h hi
        have e : ∀ z : List Nat, (z.take m).getD i 0 = z.getD i 0 := fun z => by simp [List.getD, List.getElem?_take, hi]
        rw [← e x, ← e y, h]
      rcases Nat.lt_trichotomy k j with h | h | h
      · have := take_getD b1 h; omega
      · subst h; omega
      · have := take_getD a1 h; omega
structure IsFirst (P : List Nat → Prop) (o : List Nat) : Prop where
  mem : P o
  le : ∀ r, P r → LexLe o r
theorem IsFirst.uniq {P : List Nat → Prop} {a b : List Nat} (ha : IsFirst P a) (hb : IsFirst P b) : a = b := (ha.le b hb.mem).antisymm (hb.le a ha.mem)
/-- The first row of a kind that begins with a row, if there is one. -/
def FirstExt (P : List Nat → Prop) (r : List Nat) (o : Option (List Nat)) : Prop :=
  match o with
  | none => ∀ q, r <+: q → ¬ P q
  | some o => IsFirst (fun q => r <+: q ∧ P q) o
theorem firstExt_none {P : List Nat → Prop} {r : List Nat} (h : ∀ q, r <+: q → ¬ P q) : FirstExt P r none := h
theorem firstExt_loop {P : List Nat → Prop} {r : List Nat} {n b : Nat} (hP : ∀ q, P q → q.length = n) (hr : r.length < n) (hb : ∀ q, r <+: q → P q → q.getD r.length 0 < b) {f : Nat → Option (List Nat)}
    (hf : ∀ v, v < b → FirstExt P (r ++ [v]) (f v)) : FirstExt P r (find b f) := by
  cases he : find b f with
  | none =>
    intro q hq hPq
    have hv := hb q hq hPq
    have hn := find_none.1 he _ hv
    have := hf _ hv
    rw [hn] at this
    exact this q (pre_next hq (by rw [hP q hPq]; exact hr)) hPq
  | some o =>
    have key : ∀ m, m ≤ b → find m f = some o → ∃ k, k < m ∧ f k = some o ∧ ∀ j, j < k → f j = none := by
      intro m
      induction m with
      | zero => intro _ h; rw [find_zero] at h; cases h
      | succ m ih =>
        intro hm h
        rw [find_succ] at h
        cases hx : find m f with
        | none => rw [hx] at h; exact ⟨m, by omega, h, fun j hj => find_none.1 hx j hj⟩
        | some x =>
          rw [hx] at h
          obtain ⟨k, k1, k2, k3⟩ := ih (by omega) (by rw [hx]; exact h)
          exact ⟨k, by omega, k2, k3⟩
    obtain ⟨k, k1, k2, k3⟩ := key b (Nat.le_refl _) he
    have hk := hf k k1
    rw [k2] at hk
    have hro : r <+: o := List.IsPrefix.trans ⟨[k], rfl⟩ hk.mem.1
    refine ⟨⟨hro, hk.mem.2⟩, fun q ⟨hq, hPq⟩ => ?_⟩
    have hv := hb q hq hPq
    have hnext := pre_next hq (by rw [hP q hPq]; exact hr)
    have hko : o.getD r.length 0 = k := by rw [pre_at hk.mem.1 (by simp)]; exact getD_app_end r k
    rcases Nat.lt_trichotomy (q.getD r.length 0) k with h | h | h
    · have := hf _ hv
      rw [k3 _ h] at this
      exact absurd hPq (this q hnext)
    · rw [h] at hnext
      exact hk.le q ⟨hnext, hPq⟩
    · exact .inr ⟨r.length, by rw [hP o hk.mem.2]; exact hr, by rw [pre_take hro, pre_take hq], by rw [hko]; exact h⟩
/-- Whole numbers of a row. -/
def nl (r : List Nat) : List Int := r.map fun v => ((v : Nat) : Int)
theorem nl_len (r : List Nat) : (nl r).length = r.length := by simp [nl]
theorem nl_at {r : List Nat} {k : Nat} (hk : k < r.length) : D.eli (nl r) k = ((r.getD k 0 : Nat) : Int) := by unfold D.eli nl; simp [List.getD, hk]
theorem nl_append (r : List Nat) (v : Nat) : nl (r ++ [v]) = nl r ++ [((v : Nat) : Int)] := by simp [nl]
theorem nl_inj {r q : List Nat} (h : nl r = nl q) : r = q := by
  have hl : r.length = q.length := by have := congrArg List.length h; simpa [nl] using this
  refine List.ext_getElem hl fun k h1 h2 => ?_
  have : D.eli (nl r) k = D.eli (nl q) k := by rw [h]
  rw [nl_at h1, nl_at h2] at this
  have e1 : r.getD k 0 = r[k] := by simp [List.getD, h1]
  have e2 : q.getD k 0 = q[k] := by simp [List.getD, h2]
  rw [e1, e2] at this
  omega
end Go.Proofs.Ythcidiihfjjpdaa
/- Sweeps over a list of marks until nothing turns: the greatest set that holds itself. Conditions: those of each theorem. -/
namespace Go.Proofs.Ythcidiihfjjpdaa
set_option linter.unusedVariables false
set_option linter.unusedSimpArgs false

theorem elb_set {l : List Bool} {k j : Nat} {b : Bool} (hk : k < l.length) : D.elb (l.set k b) j = if j = k then b else D.elb l j := by
  unfold D.elb
  by_cases hj : j = k
  · subst hj; simp [List.getD, hk]
  · rw [if_neg hj]
    simp [List.getD, List.getElem?_set_ne (fun e => hj e.symm)]
theorem elb_eq {l : List Bool} {k : Nat} (hk : k < l.length) : D.elb l k = l[k] := by unfold D.elb; simp [List.getD, hk]
theorem elb_ext {l m : List Bool} (hl : l.length = m.length) (h : ∀ k, k < l.length → D.elb l k = D.elb m k) : l = m := by
  refine List.ext_getElem hl (fun k h1 h2 => ?_)
  have := h k h1
  rw [elb_eq h1, elb_eq h2] at this
  exact this
/-- How many marks. -/
def trues (l : List Bool) : Nat := l.countP id
theorem trues_le (l : List Bool) : trues l ≤ l.length := List.countP_le_length
theorem trues_set {l : List Bool} : ∀ {k : Nat}, k < l.length → D.elb l k = true → trues (l.set k false) + 1 = trues l := by
  induction l with
  | nil => intro k hk; simp at hk
  | cons b l ih =>
    intro k hk hb
    cases k with
    | zero =>
      have : b = true := by simpa [D.elb, List.getD] using hb
      subst this
      simp [trues]
    | succ k =>
      have h1 : D.elb l k = true := by simpa [D.elb, List.getD] using hb
      have := ih (by simpa using hk) h1
      simp only [List.set_cons_succ, trues, List.countP_cons] at this ⊢
      omega
def sweepStep (H : List Bool → Nat → Bool) (t : Bool × List Bool) (s : Nat) : Bool × List Bool := if (D.elb t.2 s && !H t.2 s) = true then (true, t.2.set s false) else t
def sweep (H : List Bool → Nat → Bool) (N : Nat) (l : List Bool) : Bool × List Bool := fold N (sweepStep H) (false, l)
/-- What stands of a sweep. -/
structure SweepI (H : List Bool → Nat → Bool) (l : List Bool) (k : Nat) (t : Bool × List Bool) : Prop where
  len : t.2.length = l.length
  no : t.1 = false → t.2 = l ∧ ∀ s, s < k → D.elb l s = true → H l s = true
  yes : t.1 = true → trues t.2 < trues l
theorem sweepI_step {H : List Bool → Nat → Bool} {l : List Bool} {k : Nat} {t : Bool × List Bool} (hk : k < l.length) (h : SweepI H l k t) : SweepI H l (k + 1) (sweepStep H t k) := by
  obtain ⟨a, m⟩ := t
  have hl := h.len
  simp only at hl
  unfold sweepStep
  cases hc : D.elb m k && !H m k with
  | false =>
    rw [if_neg (by simp)]
    refine ⟨h.len, fun ha => ?_, h.yes⟩
    obtain ⟨e1, e2⟩ := h.no ha
    simp only at e1
    subst e1
    refine ⟨rfl, fun s hs hb => ?_⟩
    by_cases he : s = k
    · subst he
      simp only [hb, Bool.true_and, Bool.not_eq_false'] at hc
      exact hc
    · exact e2 s (by omega) hb
  | true =>
    rw [if_pos rfl]
    simp only [Bool.and_eq_true] at hc
    have h1 := trues_set (l := m) (k := k) (by omega) hc.1
    refine ⟨by simp [hl], fun ha => (by cases ha), fun _ => ?_⟩
    show trues (m.set k false) < trues l
    cases a with
    | true => have := h.yes rfl; simp only at this; omega
    | false => obtain ⟨e1, _⟩ := h.no rfl; simp only at e1; subst e1; omega
theorem sweepI_fold (H : List Bool → Nat → Bool) (l : List Bool) : ∀ k, k ≤ l.length → SweepI H l k (fold k (sweepStep H) (false, l)) := by
  intro k
  induction k with
  | zero => intro _; exact ⟨rfl, fun _ => ⟨rfl, fun s hs => by omega⟩, fun h => (by cases h)⟩
  | succ k ih => intro hk; rw [fold_succ]; exact sweepI_step (by omega) (ih (by omega))
/-- What holds itself in all that has it is kept. -/
theorem sweep_keep {H : List Bool → Nat → Bool} {N : Nat} {G : Nat → Prop} (hG : ∀ m : List Bool, m.length = N → (∀ s, s < N → G s → D.elb m s = true) → ∀ s, s < N → G s → H m s = true)
    {l : List Bool} (hl : l.length = N) (hin : ∀ s, s < N → G s → D.elb l s = true) : ∀ k, k ≤ N → (fold k (sweepStep H) (false, l)).2.length = N ∧ ∀ s, s < N → G s → D.elb (fold k (sweepStep H) (false, l)).2 s = true := by
  intro k
  induction k with
  | zero => intro _; exact ⟨hl, hin⟩
  | succ k ih =>
    intro hk
    obtain ⟨a, b⟩ := ih (by omega)
    rw [fold_succ]
    generalize fold k (sweepStep H) (false, l) = t at a b ⊢
    unfold sweepStep
    cases hc : D.elb t.2 k && !H t.2 k with
    | false => rw [if_neg (by simp)]; exact ⟨a, b⟩
    | true =>
      rw [if_pos rfl]
      refine ⟨by simp [a], fun s hs hg => ?_⟩
      show D.elb (t.2.set k false) s = true
      rw [elb_set (by omega)]
      by_cases he : s = k
      · subst he
        have := hG t.2 a b s hs hg
        rw [this] at hc; simp at hc
      · rw [if_neg he]; exact b s hs hg
/-- Sweeps until nothing turns. -/
theorem settles {H : List Bool → Nat → Bool} {N : Nat} {G : Nat → Prop} (hG : ∀ m : List Bool, m.length = N → (∀ s, s < N → G s → D.elb m s = true) → ∀ s, s < N → G s → H m s = true)
    {run : Nat → Bool × List Bool → Option (List Bool)} (h1 : ∀ n l, l.length = N → run (n + 1) (true, l) = run n (sweep H N l)) (h0 : ∀ n l, run (n + 1) (false, l) = some l) :
    ∀ (c : Nat) (l : List Bool), l.length = N → trues l ≤ c → (∀ s, s < N → G s → D.elb l s = true) → ∀ n, c + 2 ≤ n →
      ∃ m, run n (true, l) = some m ∧ m.length = N ∧ (∀ s, s < N → G s → D.elb m s = true) ∧ ∀ s, s < N → D.elb m s = true → H m s = true := by
  intro c
  induction c with
  | zero =>
    intro l hl hc hin n hn
    obtain ⟨n, rfl⟩ : ∃ q, n = q + 2 := ⟨n - 2, by omega⟩
    have hS := sweepI_fold H l N (by omega)
    have hK := sweep_keep hG hl hin N (Nat.le_refl _)
    rw [h1 _ l hl]
    unfold sweep
    generalize fold N (sweepStep H) (false, l) = t at hS hK ⊢
    obtain ⟨a, m⟩ := t
    cases a with
    | true => have := hS.yes rfl; omega
    | false =>
      obtain ⟨e1, e2⟩ := hS.no rfl
      simp only at e1
      subst e1
      exact ⟨m, h0 _ _, hl, hin, e2⟩
  | succ c ih =>
    intro l hl hc hin n hn
    obtain ⟨n, rfl⟩ : ∃ q, n = q + 2 := ⟨n - 2, by omega⟩
    have hS := sweepI_fold H l N (by omega)
    have hK := sweep_keep hG hl hin N (Nat.le_refl _)
    rw [h1 _ l hl]
    unfold sweep
    generalize fold N (sweepStep H) (false, l) = t at hS hK ⊢
    obtain ⟨a, m⟩ := t
    cases a with
    | true =>
      have := hS.yes rfl
      simp only at this
      exact ih m hK.1 (by omega) hK.2 (n + 1) (by omega)
    | false =>
      obtain ⟨e1, e2⟩ := hS.no rfl
      simp only at e1
      subst e1
      exact ⟨m, h0 _ _, hl, hin, e2⟩

end Go.Proofs.Ythcidiihfjjpdaa
