/- Sets as numbers: Go's bit operations on int, at numbers from 0 on, are those of natural numbers. Conditions: those of each theorem. -/
import Derived.Test.YtonbbeplmjidnaaLib
namespace Go.Proofs.Ytonbbeplmjidnaa
open Go.RowKit
set_option linter.unusedVariables false
set_option linter.unusedSimpArgs false

theorem i64_ofInt (a : Nat) (ha : a < 9223372036854775808) : (BitVec.ofInt 64 (a : Int)).toNat = a := by
  rw [BitVec.ofInt_natCast, BitVec.toNat_ofNat]; exact Nat.mod_eq_of_lt (by omega)
theorem i64_wrap_nat (a : Nat) (ha : a < 9223372036854775808) : IntKind.i64.wrap (a : Int) = a := by rw [IntKind.wrap_i64]; omega
theorem i64_or_nat (a b : Nat) (ha : a < 9223372036854775808) (hb : b < 9223372036854775808) : bits .or .i64 (a : Int) (b : Int) = ((a ||| b : Nat) : Int) := by
  have hx : a ||| b < 2 ^ 63 := Nat.or_lt_two_pow (by omega) (by omega)
  show IntKind.i64.wrap ((BitVec.ofInt 64 (a : Int) ||| BitVec.ofInt 64 (b : Int)).toNat : Int) = _
  rw [BitVec.toNat_or, i64_ofInt a ha, i64_ofInt b hb, i64_wrap_nat _ (by omega)]
theorem i64_and_nat (a b : Nat) (ha : a < 9223372036854775808) (hb : b < 9223372036854775808) : bits .and .i64 (a : Int) (b : Int) = ((a &&& b : Nat) : Int) := by
  have hx : a &&& b < 2 ^ 63 := Nat.and_lt_two_pow _ (by omega)
  show IntKind.i64.wrap ((BitVec.ofInt 64 (a : Int) &&& BitVec.ofInt 64 (b : Int)).toNat : Int) = _
  rw [BitVec.toNat_and, i64_ofInt a ha, i64_ofInt b hb, i64_wrap_nat _ (by omega)]
theorem i64_xor_nat (a b : Nat) (ha : a < 9223372036854775808) (hb : b < 9223372036854775808) : bits .xor .i64 (a : Int) (b : Int) = ((a ^^^ b : Nat) : Int) := by
  have hx : a ^^^ b < 2 ^ 63 := Nat.xor_lt_two_pow (by omega) (by omega)
  show IntKind.i64.wrap ((BitVec.ofInt 64 (a : Int) ^^^ BitVec.ofInt 64 (b : Int)).toNat : Int) = _
  rw [BitVec.toNat_xor, i64_ofInt a ha, i64_ofInt b hb, i64_wrap_nat _ (by omega)]
/-- What is in a and not in b. -/
def minus (a b : Nat) : Nat := a &&& (18446744073709551615 - b)
theorem i64_andNot_nat (a b : Nat) (ha : a < 9223372036854775808) (hb : b < 9223372036854775808) : bits .andNot .i64 (a : Int) (b : Int) = ((minus a b : Nat) : Int) := by
  have hx : minus a b < 2 ^ 63 := by unfold minus; rw [Nat.and_comm]; exact Nat.and_lt_two_pow _ (by omega)
  show IntKind.i64.wrap ((BitVec.ofInt 64 (a : Int) &&& ~~~BitVec.ofInt 64 (b : Int)).toNat : Int) = _
  rw [BitVec.toNat_and, BitVec.toNat_not, i64_ofInt a ha, i64_ofInt b hb]
  have e : 2 ^ 64 - 1 - b = 18446744073709551615 - b := by omega
  rw [e]
  exact i64_wrap_nat _ (by simp only [minus] at hx; omega)
theorem minus_testBit (a b : Nat) (hb : b < 18446744073709551616) (ha : a < 18446744073709551616) (j : Nat) : (minus a b).testBit j = (a.testBit j && !b.testBit j) := by
  unfold minus
  rw [Nat.testBit_and]
  have e : 18446744073709551615 - b = 2 ^ 64 - (b + 1) := by omega
  rw [e, Nat.testBit_two_pow_sub_succ (by omega)]
  by_cases hj : j < 64
  · simp [hj]
  · have : a.testBit j = false := Nat.testBit_lt_two_pow (Nat.lt_of_lt_of_le ha (by
      have : (2:Nat) ^ 64 ≤ 2 ^ j := Nat.pow_le_pow_right (by omega) (by omega)
      omega))
    simp [this]
theorem i64_and1 (n : Int) : bits .and .i64 n 1 = n % 2 := by
  show IntKind.i64.wrap ((BitVec.ofInt 64 n &&& BitVec.ofInt 64 1).toNat : Int) = _
  have h1 : (BitVec.ofInt 64 1).toNat = 1 := by decide
  rw [BitVec.toNat_and, h1, Nat.and_one_is_mod, BitVec.toNat_ofInt]
  rw [i64_wrap_nat _ (by omega)]
  omega
theorem wrap64_nat (a : Nat) (ha : a < 9223372036854775808) : wrap64 (a : Int) = a := by unfold wrap64; omega
theorem wrap64_pow (k : Nat) (hk : k ≤ 62) : wrap64 (2 ^ k) = ((2 ^ k : Nat) : Int) := by
  have h : (2 : Nat) ^ k ≤ 2 ^ 62 := Nat.pow_le_pow_right (by omega) hk
  have e : ((2 ^ k : Nat) : Int) = 2 ^ k := by simp
  rw [← e]
  exact wrap64_nat _ (by omega)
theorem shr_nat (a k : Nat) : (a : Int) / 2 ^ k = ((a / 2 ^ k : Nat) : Int) := by simp
theorem testBit_div (a k : Nat) : a.testBit k = (a / 2 ^ k % 2 == 1) := by
  rw [Nat.testBit_eq_decide_div_mod_eq]; rw [Bool.eq_iff_iff]; simp
theorem bit_tmod (a k : Nat) : (Int.tmod ((a : Int) / 2 ^ k) 2 == 1) = a.testBit k := by
  rw [shr_nat, testBit_div]
  generalize a / 2 ^ k = q
  rw [Int.tmod_eq_emod_of_nonneg (Int.natCast_nonneg q), Bool.eq_iff_iff]
  simp only [beq_iff_eq]
  omega
theorem bit_mod (a k : Nat) : Int.tmod ((a : Int) / 2 ^ k) 2 = ((a.testBit k).toNat : Int) := by
  rw [shr_nat, testBit_div]
  generalize a / 2 ^ k = q
  rw [Int.tmod_eq_emod_of_nonneg (Int.natCast_nonneg q)]
  have : q % 2 = 0 ∨ q % 2 = 1 := by omega
  rcases this with h | h
  · rw [h]; simp; omega
  · rw [h]; simp; omega
theorem bit_ne (a b : Bool) : (((a.toNat : Nat) : Int) != ((b.toNat : Nat) : Int)) = (a != b) := by cases a <;> cases b <;> decide
theorem bit_one (a : Bool) : (((a.toNat : Nat) : Int) == 1) = a := by cases a <;> decide
theorem bit_zero (a : Bool) : (((a.toNat : Nat) : Int) == 0) = !a := by cases a <;> decide
theorem bit_and1 (a k : Nat) : (bits .and .i64 ((a : Int) / 2 ^ k) 1 == 1) = a.testBit k := by
  rw [i64_and1, shr_nat, testBit_div]
  generalize a / 2 ^ k = q
  rw [Bool.eq_iff_iff]
  simp only [beq_iff_eq]
  omega
theorem eq_of_bits {a b n : Nat} (ha : a < 2 ^ n) (hb : b < 2 ^ n) (h : ∀ j, j < n → a.testBit j = b.testBit j) : a = b := by
  apply Nat.eq_of_testBit_eq
  intro j
  by_cases hj : j < n
  · exact h j hj
  · rw [Nat.testBit_lt_two_pow (Nat.lt_of_lt_of_le ha (Nat.pow_le_pow_right (by omega) (by omega))), Nat.testBit_lt_two_pow (Nat.lt_of_lt_of_le hb (Nat.pow_le_pow_right (by omega) (by omega)))]
theorem testBit_lt {a n j : Nat} (ha : a < 2 ^ n) (h : a.testBit j = true) : j < n := by
  by_cases hj : j < n
  · exact hj
  · rw [Nat.testBit_lt_two_pow (Nat.lt_of_lt_of_le ha (Nat.pow_le_pow_right (by omega) (by omega)))] at h; cases h
theorem testBit_pow (k j : Nat) : (2 ^ k).testBit j = decide (k = j) := Nat.testBit_two_pow

/-- The union of f k over those k below n for which p holds. -/
def orN (n : Nat) (p : Nat → Bool) (f : Nat → Nat) : Nat := fold n (fun acc k => if p k = true then acc ||| f k else acc) 0
theorem orN_testBit (n : Nat) (p : Nat → Bool) (f : Nat → Nat) (j : Nat) : (orN n p f).testBit j = true ↔ ∃ k, k < n ∧ p k = true ∧ (f k).testBit j = true := by
  unfold orN
  induction n with
  | zero => simp [fold_zero]
  | succ n ih =>
    rw [fold_succ]
    cases hp : p n with
    | false =>
      simp only [Bool.false_eq_true, if_false]
      rw [ih]
      constructor
      · rintro ⟨k, a, b⟩; exact ⟨k, by omega, b⟩
      · rintro ⟨k, a, b, c⟩
        by_cases hk : k = n
        · subst hk; rw [hp] at b; cases b
        · exact ⟨k, by omega, b, c⟩
    | true =>
      simp only [if_true]
      rw [Nat.testBit_or, Bool.or_eq_true, ih]
      constructor
      · rintro (⟨k, a, b⟩ | h)
        · exact ⟨k, by omega, b⟩
        · exact ⟨n, by omega, hp, h⟩
      · rintro ⟨k, a, b, c⟩
        by_cases hk : k = n
        · subst hk; exact .inr c
        · exact .inl ⟨k, by omega, b, c⟩
theorem orN_lt {n m : Nat} {p : Nat → Bool} {f : Nat → Nat} (hf : ∀ k, k < n → p k = true → f k < 2 ^ m) : orN n p f < 2 ^ m := by
  unfold orN
  induction n with
  | zero => simp [fold_zero]; exact Nat.two_pow_pos m
  | succ n ih =>
    rw [fold_succ]
    have h := ih (fun k hk => hf k (by omega))
    split
    · rename_i hp; exact Nat.or_lt_two_pow h (hf n (by omega) hp)
    · exact h
/-- A fold of Go's numbers that only takes unions is that union. -/
theorem fold_orN {F : Int → Nat → Int} {n m : Nat} {p : Nat → Bool} {f : Nat → Nat} (hf : ∀ k, k < n → p k = true → f k < 2 ^ m)
    (hF : ∀ (acc k : Nat), acc < 2 ^ m → k < n → F (acc : Int) k = ((if p k = true then acc ||| f k else acc : Nat) : Int)) : fold n F 0 = ((orN n p f : Nat) : Int) := by
  induction n with
  | zero => rfl
  | succ n ih =>
    have h := ih (fun k hk => hf k (by omega)) (fun acc k ha hk => hF acc k ha (by omega))
    rw [fold_succ, h, hF _ n (orN_lt fun k hk => hf k (by omega)) (by omega)]
    simp only [orN, fold_succ]
/-- A general fold of Go's numbers that keeps to natural numbers. -/
theorem fold_nat {F : Int → Nat → Int} {G : Nat → Nat → Nat} {n : Nat} {I : Nat → Nat → Prop} {s0 : Nat} (h0 : I 0 s0)
    (hF : ∀ (k acc : Nat), k < n → I k acc → F (acc : Int) k = ((G acc k : Nat) : Int) ∧ I (k + 1) (G acc k)) : fold n F (s0 : Int) = ((fold n G s0 : Nat) : Int) ∧ I n (fold n G s0) := by
  induction n with
  | zero => exact ⟨rfl, h0⟩
  | succ n ih =>
    have h := ih (fun k acc hk => hF k acc (by omega))
    rw [fold_succ, fold_succ, h.1]
    exact hF n _ (by omega) h.2

end Go.Proofs.Ytonbbeplmjidnaa
