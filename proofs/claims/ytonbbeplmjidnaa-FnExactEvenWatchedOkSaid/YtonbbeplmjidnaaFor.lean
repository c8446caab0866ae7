/- Loops that count, and Go's whole numbers as natural numbers. Conditions: those of each theorem. -/
import Derived.Test.YtonbbeplmjidnaaNice
import Derived.Test.YtonbbeplmjidnaaNet
namespace Go.Proofs.Ytonbbeplmjidnaa
open D Go.RowKit
set_option linter.unusedVariables false
set_option linter.unusedSimpArgs false

/-- A loop that counts from 0 to len and carries t. -/
theorem run_for {S T D : Type} {run : Nat → S → Option D} {len : Nat} (st : Nat → T → S) (f : T → Nat → T) (out : T → D) (Inv : Nat → T → Prop) (hl : len ≤ 100000000)
    (hs : ∀ n k t, k < len → Inv k t → run (n + 1) (st k t) = run n (st (k + 1) (f t k)) ∧ Inv (k + 1) (f t k))
    (he : ∀ n t, Inv len t → run (n + 1) (st len t) = some (out t)) {t0 : T} (h0 : Inv 0 t0) :
    run FUEL (st 0 t0) = some (out (fold len f t0)) ∧ Inv len (fold len f t0) := by
  have inv : ∀ k, k ≤ len → Inv k (fold k f t0) := by
    intro k
    induction k with
    | zero => intro _; exact h0
    | succ k ih => intro hk; rw [fold_succ]; exact (hs 0 k _ (by omega) (ih (by omega))).2
  have key : ∀ m k n, k + m = len → m < n → run n (st k (fold k f t0)) = some (out (fold len f t0)) := by
    intro m
    induction m with
    | zero =>
      intro k n hk hn
      obtain ⟨n, rfl⟩ : ∃ n', n = n' + 1 := ⟨n - 1, by omega⟩
      obtain rfl : k = len := by omega
      exact he n _ (inv k (Nat.le_refl _))
    | succ m ih =>
      intro k n hk hn
      obtain ⟨n, rfl⟩ : ∃ n', n = n' + 1 := ⟨n - 1, by omega⟩
      rw [(hs n k _ (by omega) (inv k (by omega))).1, ← fold_succ k f t0]
      exact ih (k + 1) n (by omega) (by omega)
  exact ⟨key len 0 FUEL (by omega) (by have := FUEL_le; omega), inv len (Nat.le_refl _)⟩
/-- The same for a loop that may leave early. -/
theorem run_forE {S T D Q : Type} {run : Nat → S → Option D} {len : Nat} (st : Nat → T → S) (f : T → Nat → Q ⊕ T) (outl : Q → D) (out : T → D) (Inv : Nat → T → Prop) (hl : len ≤ 100000000)
    (hs : ∀ n k t, k < len → Inv k t → match f t k with | .inl d => run (n + 1) (st k t) = some (outl d) | .inr t' => run (n + 1) (st k t) = run n (st (k + 1) t') ∧ Inv (k + 1) t')
    (he : ∀ n t, Inv len t → run (n + 1) (st len t) = some (out t)) {t0 : T} (h0 : Inv 0 t0) :
    run FUEL (st 0 t0) = some (match loopE len f t0 with | .inl d => outl d | .inr t => out t) ∧ ∀ t, loopE len f t0 = .inr t → Inv len t := by
  have left : ∀ m k d, k + m ≤ len → loopE k f t0 = .inl d → loopE (k + m) f t0 = .inl d := by
    intro m
    induction m with
    | zero => intro k d _ h; exact h
    | succ m ih =>
      intro k d hk h
      refine ih (k := k) d (by omega) h |> fun h2 => ?_
      show loopE (k + m + 1) f t0 = _
      unfold loopE at h2 ⊢
      rw [fold_succ, h2]
  have inv : ∀ k, k ≤ len → ∀ t, loopE k f t0 = .inr t → Inv k t := by
    intro k
    induction k with
    | zero => intro _ t h; cases h; exact h0
    | succ k ih =>
      intro hk t h
      cases hq : loopE k f t0 with
      | inl d => rw [left 1 k d (by omega) hq] at h; cases h
      | inr t1 =>
        rw [loopE_succ hq] at h
        have := hs 0 k t1 (by omega) (ih (by omega) t1 hq)
        rw [h] at this
        exact this.2
  have key : ∀ m k n t, k + m = len → m < n → loopE k f t0 = .inr t → run n (st k t) = some (match loopE len f t0 with | .inl d => outl d | .inr t => out t) := by
    intro m
    induction m with
    | zero =>
      intro k n t hk hn ht
      obtain ⟨n, rfl⟩ : ∃ n', n = n' + 1 := ⟨n - 1, by omega⟩
      obtain rfl : k = len := by omega
      rw [he n _ (inv k (Nat.le_refl _) t ht), ht]
    | succ m ih =>
      intro k n t hk hn ht
      obtain ⟨n, rfl⟩ : ∃ n', n = n' + 1 := ⟨n - 1, by omega⟩
      have h1 := hs n k t (by omega) (inv k (by omega) t ht)
      have h2 : loopE (k + 1) f t0 = f t k := loopE_succ ht
      cases hq : f t k with
      | inl d =>
        rw [hq] at h1 h2
        rw [show len = k + 1 + m by omega, left m (k + 1) d (by omega) h2]
        exact h1
      | inr t' =>
        rw [hq] at h1 h2
        rw [h1.1]
        exact ih (k + 1) n t' (by omega) (by omega) h2
  exact ⟨key len 0 FUEL t0 (by omega) (by have := FUEL_le; omega) rfl, inv len (Nat.le_refl _)⟩

/-! ### Go's numbers -/
theorem bits64 : IntKind.i64.bits = 64 := by kernel_rfl
theorem wrap_nat {a : Nat} (ha : a < 9223372036854775808) : IntKind.i64.wrap (a : Int) = a := i64_wrap_nat a ha
theorem shl_nat {a k : Nat} (h : a * 2 ^ k < 9223372036854775808) (hk : k < 64) : IntKind.i64.wrap ((a : Int) * 2 ^ min (k : Int).toNat IntKind.i64.bits) = ((a * 2 ^ k : Nat) : Int) := by
  rw [bits64, Int.toNat_natCast, Nat.min_eq_left (by omega), show (a : Int) * 2 ^ k = ((a * 2 ^ k : Nat) : Int) by simp]
  exact wrap_nat h
theorem one_shl {k : Nat} (hk : k < 63) : IntKind.i64.wrap (1 * 2 ^ min (k : Int).toNat IntKind.i64.bits) = ((2 ^ k : Nat) : Int) := by
  have h := shl_nat (a := 1) (k := k) (by have : (2 : Nat) ^ k ≤ 2 ^ 62 := Nat.pow_le_pow_right (by omega) (by omega); omega) (by omega)
  rw [Nat.one_mul] at h
  exact h
theorem shr_is (a k : Nat) (hk : k ≤ 64) : (a : Int).fdiv (2 ^ min (k : Int).toNat IntKind.i64.bits) = ((a / 2 ^ k : Nat) : Int) := by
  rw [bits64, Int.toNat_natCast, Nat.min_eq_left hk, Int.fdiv_eq_ediv_of_nonneg _ (by exact Int.le_of_lt (Int.pow_pos (by decide)))]
  simp
theorem tmod_nat (a b : Nat) : (a : Int).tmod (b : Int) = ((a % b : Nat) : Int) := by
  rw [Int.tmod_eq_emod_of_nonneg (Int.natCast_nonneg a)]; rfl
theorem tmod2_nat (a : Nat) : (a : Int).tmod 2 = ((a % 2 : Nat) : Int) := tmod_nat a 2
theorem tdiv2_nat (a : Nat) : (a : Int).tdiv 2 = ((a / 2 : Nat) : Int) := by
  rw [Int.tdiv_eq_ediv_of_nonneg (Int.natCast_nonneg a)]; rfl
theorem div_mod_bit (a k : Nat) : a / 2 ^ k % 2 = (a.testBit k).toNat := by
  rw [testBit_div]
  have : a / 2 ^ k % 2 = 0 ∨ a / 2 ^ k % 2 = 1 := by omega
  rcases this with h | h <;> simp [h]
/-- The bit of a set at a place, in the two ways that the texts have for it. -/
theorem bit_shr (a k : Nat) (hk : k ≤ 64) : ((a : Int).fdiv (2 ^ min (k : Int).toNat IntKind.i64.bits)).tmod 2 = ((a.testBit k).toNat : Int) := by
  rw [shr_is a k hk, tmod2_nat, div_mod_bit]
theorem bit_shr1 (a k : Nat) (hk : k ≤ 64) : bits .and .i64 ((a : Int).fdiv (2 ^ min (k : Int).toNat IntKind.i64.bits)) 1 = ((a.testBit k).toNat : Int) := by
  rw [i64_and1, shr_is a k hk, ← div_mod_bit]; rfl
theorem bool_eq1 (b : Bool) : (((b.toNat : Nat) : Int) == 1) = b := by cases b <;> rfl
theorem bool_eq0 (b : Bool) : (((b.toNat : Nat) : Int) == 0) = !b := by cases b <;> rfl
theorem bool_ne1 (b : Bool) : (((b.toNat : Nat) : Int) != 1) = !b := by cases b <;> rfl
theorem bool_ne0 (b : Bool) : (((b.toNat : Nat) : Int) != 0) = b := by cases b <;> rfl
theorem bool_eqq (a b : Bool) : (((a.toNat : Nat) : Int) == ((b.toNat : Nat) : Int)) = (a == b) := by cases a <;> cases b <;> rfl
theorem bool_neq (a b : Bool) : (((a.toNat : Nat) : Int) != ((b.toNat : Nat) : Int)) = (a != b) := by cases a <;> cases b <;> rfl
theorem nat_beq (a b : Nat) : ((a : Int) == (b : Int)) = (a == b) := by rw [Bool.eq_iff_iff, beq_iff_eq, beq_iff_eq]; omega
theorem nat_bne (a b : Nat) : ((a : Int) != (b : Int)) = (a != b) := by rw [bne, bne, nat_beq]
theorem add_nat {a b : Nat} (h : a + b < 9223372036854775808) : IntKind.i64.wrap ((a : Int) + (b : Int)) = ((a + b : Nat) : Int) := wrap_nat h
theorem add1_nat {a : Nat} (h : a + 1 < 9223372036854775808) : IntKind.i64.wrap ((a : Int) + 1) = ((a + 1 : Nat) : Int) := wrap_nat h
theorem sub_nat {a b : Nat} (h : b ≤ a) (ha : a < 9223372036854775808) : IntKind.i64.wrap ((a : Int) - (b : Int)) = ((a - b : Nat) : Int) := by
  rw [show (a : Int) - (b : Int) = ((a - b : Nat) : Int) by omega]; exact wrap_nat (by omega)
theorem sub1_nat {a : Nat} (h : 1 ≤ a) (ha : a < 9223372036854775808) : IntKind.i64.wrap ((a : Int) - 1) = ((a - 1 : Nat) : Int) := sub_nat (b := 1) h ha
theorem mul_nat {a b : Nat} (h : a * b < 9223372036854775808) : IntKind.i64.wrap ((a : Int) * (b : Int)) = ((a * b : Nat) : Int) := by
  rw [show (a : Int) * (b : Int) = ((a * b : Nat) : Int) by simp]; exact wrap_nat h
theorem div2_nat {a : Nat} (h : a < 9223372036854775808) : IntKind.i64.wrap ((a : Int).tdiv 2) = ((a / 2 : Nat) : Int) := by
  rw [tdiv2_nat]; exact wrap_nat (by omega)
theorem pow2_lt {k : Nat} (hk : k ≤ 62) : 2 ^ k < 9223372036854775808 := by
  have : (2 : Nat) ^ k ≤ 2 ^ 62 := Nat.pow_le_pow_right (by omega) hk
  omega
end Go.Proofs.Ytonbbeplmjidnaa
