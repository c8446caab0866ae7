/- What the small functions on nets and sets come to, in natural numbers. Conditions: those of each theorem. -/
import Derived.Test.YtonbbeplmjidnaaNt2
import Derived.Test.YtonbbeplmjidnaaFor
import Derived.Test.YtonbbeplmjidnaaWat2
namespace Go.Proofs.Ytonbbeplmjidnaa
open D Go.RowKit
set_option linter.unusedVariables false
set_option linter.unusedSimpArgs false


theorem hasI_nat (s p : Nat) (hp : p ≤ 64) : hasI (s : Int) p = s.testBit p := by
  have h := shr_is s p hp
  unfold hasI
  rw [bits64, Int.toNat_natCast] at h
  rw [h, testBit_div, Bool.eq_iff_iff, beq_iff_eq, beq_iff_eq]
  omega
theorem two_pow_cast (n : Nat) : ((2 : Int) ^ n) = ((2 ^ n : Nat) : Int) := by simp
theorem Ok.of {net : List Int} (h1 : 1 ≤ net.length) (h2 : net.length ≤ 6) (h3 : ∀ p, p < net.length → (0 ≤ eli net p ∧ eli net p < 2 ^ net.length) ∧ hasI (eli net p) p = false ∧ ∀ q, q < net.length → hasI (eli net p) q = true → hasI (eli net q) p = true) : Ok net := by
  have hel : ∀ k, k < net.length → eli net k = (nb net k : Int) := fun k hk => by
    have := (h3 k hk).1.1
    show _ = ((eli net k).toNat : Int)
    omega
  refine ⟨h1, h2, hel, fun k hk => ?_, fun j k hj hk => ?_, fun k hk => ?_⟩
  · have := (h3 k hk).1.2
    rw [hel k hk, two_pow_cast] at this
    omega
  · have a1 := (h3 k hk).2.2 j hj
    have a2 := (h3 j hj).2.2 k hk
    rw [hel k hk, hel j hj, hasI_nat _ _ (by omega), hasI_nat _ _ (by omega)] at a1 a2
    cases hx : (nb net k).testBit j with
    | true => exact (a1 hx).symm
    | false => cases hy : (nb net j).testBit k with
      | false => rfl
      | true => rw [a2 hy] at hx; cases hx
  · have := (h3 k hk).2.1
    rw [hel k hk, hasI_nat _ _ (by omega)] at this
    exact this
theorem NetOk_cases (net : List Int) : (Ok net ∧ I.NetOk_t net = some true ∧ S.NetOk_t net = some true) ∨ (¬ Ok net ∧ I.NetOk_t net = some false ∧ S.NetOk_t net = some false) := by
  rw [← NetOk_eq, I.NetOk_is]
  generalize hb : (decide (1 ≤ net.length) && decide (net.length ≤ 6) && (List.range net.length).all fun p => decide (0 ≤ eli net p ∧ eli net p < 2 ^ net.length) && !hasI (eli net p) p && (List.range net.length).all fun q => !hasI (eli net p) q || hasI (eli net q) p) = b
  cases b with
  | true =>
    left
    simp only [Bool.and_eq_true, List.all_eq_true, List.mem_range, decide_eq_true_eq, Bool.or_eq_true, Bool.not_eq_true'] at hb
    refine ⟨Ok.of hb.1.1 hb.1.2 fun p hp => ⟨(hb.2 p hp).1.1, (hb.2 p hp).1.2, fun q hq hx => ?_⟩, rfl, rfl⟩
    rcases (hb.2 p hp).2 q hq with h | h
    · rw [h] at hx; cases hx
    · exact h
  | false =>
    right
    refine ⟨fun h => ?_, rfl, rfl⟩
    have : (decide (1 ≤ net.length) && decide (net.length ≤ 6) && (List.range net.length).all fun p => decide (0 ≤ eli net p ∧ eli net p < 2 ^ net.length) && !hasI (eli net p) p && (List.range net.length).all fun q => !hasI (eli net p) q || hasI (eli net q) p) = true := by
      simp only [Bool.and_eq_true, List.all_eq_true, List.mem_range, decide_eq_true_eq, Bool.or_eq_true, Bool.not_eq_true']
      have hhi := h.hi
      refine ⟨⟨h.lo, h.hi⟩, fun p hp => ⟨⟨?_, ?_⟩, fun q hq => ?_⟩⟩
      · rw [show eli net p = (nb net p : Int) from h.el p hp, two_pow_cast]
        have := h.lt p hp
        omega
      · rw [show eli net p = (nb net p : Int) from h.el p hp, hasI_nat _ _ (by omega)]; exact h.irr p hp
      · rw [show eli net p = (nb net p : Int) from h.el p hp, show eli net q = (nb net q : Int) from h.el q hq, hasI_nat _ _ (by omega), hasI_nat _ _ (by omega), h.sym q p hq hp]
        cases (nb net q).testBit p <;> simp
    rw [hb] at this; cases this
theorem Ok.eli {net : List Int} (h : Ok net) {k : Nat} (hk : k < net.length) : D.eli net k = (nb net k : Int) := h.el k hk

/-! ### The program's small functions -/
theorem I.hasPlace_n (s p : Nat) (hp : p ≤ 64) : I.hasPlace_t s p = some (s.testBit p) := by
  rw [I.hasPlace_is (by omega), Int.toNat_natCast, hasI_nat s p hp]
theorem I.setIn_n {net : List Int} (h : Ok net) (s : Int) : I.setIn_t net s = some (decide (0 ≤ s ∧ s < 2 ^ net.length)) := I.setIn_is h.hi
theorem I.placeIn_n (net : List Int) (p : Int) : I.placeIn_t net p = some (decide (0 ≤ p ∧ p < net.length)) := by
  unfold I.placeIn_t I.placeIn_tree
  by_cases h : 0 ≤ p
  · rw [cnd_t (by simpa using h)]; simp [h]
  · rw [cnd_f (by simpa using h)]; simp [h]
theorem I.allOf_n {net : List Int} (h : Ok net) : I.allOf_t net = some ((allOf net : Nat) : Int) := by
  unfold I.allOf_t I.allOf_tree
  have h2 := h.pow
  have h3 : 0 < 2 ^ net.length := Nat.two_pow_pos _
  rw [one_shl (by have := h.hi; omega), sub1_nat (by omega) (by omega)]
  rfl
theorem I.ballIn_n {net : List Int} (h : Ok net) {p : Nat} (hp : p < net.length) : I.ballIn_t net p = some ((ball net p : Nat) : Int) := by
  unfold I.ballIn_t I.ballIn_tree
  have h6 := h.hi
  have h64 := h.lt64 hp
  rw [cnd_t (by simp; omega), cnd_f (by simp), one_shl (by omega), Int.toNat_natCast, h.eli hp, i64_or_nat _ _ (by omega) (pow2_lt (by omega))]
  rfl
theorem fold_balls {net : List Int} (h : Ok net) {s : Nat} (hs : s < 2 ^ net.length) : fold net.length (fun t k => if s.testBit k = true then t ||| ball net k else t) 0 = seen net s := h.seen_balls hs
theorem I.seenIn_n {net : List Int} (h : Ok net) {s : Nat} (hs : s < 2 ^ net.length) : I.seenIn_t net s = some ((seen net s : Nat) : Int) := by
  unfold I.seenIn_t I.seenIn_tree
  have h6 := h.hi
  have h64 := h.pow
  have := (run_for (run := I.seenIn_run3 net s) (len := net.length) (fun k (t : Nat) => ((t : Int), (k : Int))) (fun t k => if s.testBit k = true then t ||| ball net k else t) (fun t => (t : Int)) (fun k t => t < 2 ^ net.length) (by omega) (fun n k t hk ht => ?_) (fun n t ht => ?_) (t0 := 0) (Nat.two_pow_pos _)).1
  · rw [fold_balls h hs] at this
    exact congrArg (fun o => optC o (fun q => some q) none) this
  · simp only [I.seenIn_run3, I.seenIn_step3]
    rw [cnd_t (by simp; omega), I.hasPlace_n _ _ (by omega)]
    simp only [optC]
    have hb := h.ball_lt hk
    cases hbit : s.testBit k with
    | true =>
      rw [cond_true, I.ballIn_n h hk, if_pos rfl]
      simp only
      rw [i64_or_nat _ _ (by omega) (by omega), add1_nat (by omega)]
      exact ⟨rfl, Nat.or_lt_two_pow ht hb⟩
    | false =>
      rw [cond_false, if_neg (by simp), add1_nat (by omega)]
      exact ⟨rfl, ht⟩
  · simp only [I.seenIn_run3, I.seenIn_step3]
    rw [cnd_f (by simp)]
theorem I.watchIn_n {net : List Int} (h : Ok net) {s : Nat} (hs : s < 2 ^ net.length) : I.watchIn_t net s = some (W net s) := by
  unfold I.watchIn_t I.watchIn_tree
  rw [I.seenIn_n h hs, I.allOf_n h]
  simp only [optC]
  rw [nat_beq]
  rfl
theorem size_fold (s : Nat) : fold 6 (fun t k => t + (s.testBit k).toNat) 0 = size s := by
  unfold size card
  congr 1
  funext t k
  cases s.testBit k <;> simp
theorem I.sizeOf_n (s : Nat) : I.sizeOf_t s = some ((size s : Nat) : Int) := by
  unfold I.sizeOf_t I.sizeOf_tree
  have := (run_for (run := I.sizeOf_run3 s) (len := 6) (fun k (t : Nat) => ((t : Int), (k : Int))) (fun t k => t + (s.testBit k).toNat) (fun t => (t : Int)) (fun k t => t ≤ k) (by omega) (fun n k t hk ht => ?_) (fun n t ht => ?_) (t0 := 0) (Nat.le_refl _)).1
  · rw [size_fold] at this
    exact congrArg (fun o => optC o (fun q => some q) none) this
  · simp only [I.sizeOf_run3, I.sizeOf_step3]
    have hb : (s.testBit k).toNat ≤ 1 := by cases s.testBit k <;> decide
    rw [cnd_t (by simp; omega), cnd_f (by simp), bit_shr1 _ _ (by omega), add_nat (by omega), add1_nat (by omega)]
    exact ⟨rfl, by omega⟩
  · simp only [I.sizeOf_run3, I.sizeOf_step3]
    rw [cnd_f (by simp)]
theorem I.without_n {s p : Nat} (hs : s < 64) (hp : p < 6) : I.without_t s p = some (((if s.testBit p = true then s - 2 ^ p else s : Nat)) : Int) := by
  unfold I.without_t I.without_tree
  rw [cnd_f (by simp), one_shl (by omega), i64_andNot_nat _ _ (by omega) (pow2_lt (by omega)), bits_minus s hs p hp]

/-! ### The model's small functions -/
theorem S.l1Near_n {net : List Int} (h : Ok net) (s : Nat) : S.l1Near_t net s = some ((near net s : Nat) : Int) := by
  unfold S.l1Near_t S.l1Near_tree
  have h6 := h.hi
  have h64 := h.pow
  have := (run_for (run := S.l1Near_run3 net s) (len := net.length) (fun k (t : Nat) => ((t : Int), (k : Int))) (fun t k => if s.testBit k = true then t ||| nb net k else t) (fun t => (t : Int)) (fun k t => t < 2 ^ net.length) (by omega) (fun n k t hk ht => ?_) (fun n t ht => ?_) (t0 := 0) (Nat.two_pow_pos _)).1
  · exact congrArg (fun o => optC o (fun q => some q) none) this
  · simp only [S.l1Near_run3, S.l1Near_step3]
    have hb := h.lt k hk
    rw [cnd_t (by simp; omega), cnd_f (by simp), bit_shr _ _ (by omega), bool_eq1]
    cases hbit : s.testBit k with
    | true =>
      rw [cond_true, cnd_t (by simp; omega), Int.toNat_natCast, h.eli hk, if_pos rfl]
      rw [i64_or_nat _ _ (by omega) (by omega), add1_nat (by omega)]
      exact ⟨rfl, Nat.or_lt_two_pow ht hb⟩
    | false =>
      rw [cond_false, if_neg (by simp), add1_nat (by omega)]
      exact ⟨rfl, ht⟩
  · simp only [S.l1Near_run3, S.l1Near_step3]
    rw [cnd_f (by simp)]
theorem all_shl {net : List Int} (h : Ok net) : IntKind.i64.wrap (IntKind.i64.wrap (1 * 2 ^ min (↑net.length : Int).toNat IntKind.i64.bits) - 1) = ((allOf net : Nat) : Int) := by
  have h2 := h.pow
  have h3 : 0 < 2 ^ net.length := Nat.two_pow_pos _
  rw [one_shl (by have := h.hi; omega), sub1_nat (by omega) (by omega)]
  rfl
theorem S.l2Watch_n {net : List Int} (h : Ok net) {s : Nat} (hs : s < 2 ^ net.length) : S.l2Watch_t net s = some (W net s) := by
  unfold S.l2Watch_t S.l2Watch_tree
  rw [S.l1Near_n h]
  simp only [optC]
  have h1 := h.near_lt s
  have h64 := h.pow
  rw [all_shl h, i64_or_nat _ _ (by omega) (by omega), nat_beq]
  rfl
theorem S.l1SetOk_n {net : List Int} (h : Ok net) (he : S.NetOk_t net = some true) (s : Int) : S.l1SetOk_t net s = some (decide (0 ≤ s ∧ s < 2 ^ net.length)) := by
  unfold S.l1SetOk_t S.l1SetOk_tree
  rw [he]
  simp only [optC]
  rw [cond_true, all_shl h, S.l1In_is]
  simp only
  congr 1
  rw [decide_eq_decide, two_pow_cast]
  have : 0 < 2 ^ net.length := Nat.two_pow_pos _
  unfold allOf
  omega
theorem l1Size_spec : ∀ s, s < 64 → size s = s % 2 + size (s / 2) := by decide +kernel
theorem S.l1Size_n {s : Nat} (hs : s < 64) : S.l1Size_t s = some ((size s : Nat) : Int) := by
  unfold S.l1Size_t S.l1Size_tree
  have : S.l1Size_run2 FUEL ((s : Int), 0) = some ((size s : Nat) : Int) := by
    refine run_fuel (run := S.l1Size_run2) (fun q => ∃ a t : Nat, q = ((a : Int), (t : Int)) ∧ a < 64 ∧ t + size a = size s) (fun q => q.1.toNat) (fun _ => ((size s : Nat) : Int)) ?_ ⟨s, 0, rfl, hs, by omega⟩ (by simp only [Int.toNat_natCast]; omega)
    rintro n _ ⟨a, t, rfl, ha, ht⟩
    have hz := size_le s
    simp only [S.l1Size_run2, S.l1Size_step2]
    by_cases h0 : a = 0
    · subst h0
      left
      rw [cnd_f (by simp)]
      have : size 0 = 0 := by decide
      rw [← ht, this]; rfl
    · right
      have h1 := l1Size_spec a ha
      rw [cnd_t (by simp; omega), div2_nat (by omega), tmod2_nat, add_nat (by omega)]
      exact ⟨_, rfl, ⟨_, _, rfl, by omega, by omega⟩, by simp only [Int.toNat_natCast]; omega, trivial⟩
  rw [this]; rfl
theorem set_cases {net : List Int} (h : Ok net) (s : Int) : (∃ t : Nat, s = (t : Int) ∧ t < 2 ^ net.length ∧ decide (0 ≤ s ∧ s < 2 ^ net.length) = true) ∨ decide (0 ≤ s ∧ s < 2 ^ net.length) = false := by
  by_cases hs : 0 ≤ s ∧ s < 2 ^ net.length
  · left
    refine ⟨s.toNat, by omega, ?_, by simpa using hs⟩
    have := hs.2
    rw [two_pow_cast] at this
    omega
  · right; simpa using hs
theorem place_cases (net : List Int) (p : Int) : (∃ t : Nat, p = (t : Int) ∧ t < net.length ∧ decide (0 ≤ p ∧ p < net.length) = true) ∨ decide (0 ≤ p ∧ p < net.length) = false := by
  by_cases hs : 0 ≤ p ∧ p < net.length
  · exact .inl ⟨p.toNat, by omega, by omega, by simpa using hs⟩
  · right; simpa using hs
end Go.Proofs.Ytonbbeplmjidnaa
