/- The program's functions of chapters 3 and 4 in natural numbers. Conditions: those of each theorem. -/
import Derived.Test.YtonbbeplmjidnaaS3
import Derived.Test.YtonbbeplmjidnaaBr3
namespace Go.Proofs.Ytonbbeplmjidnaa
open D Go.RowKit
set_option linter.unusedVariables false
set_option linter.unusedSimpArgs false


theorem I.with_n {s k : Nat} (hs : s < 64) (hk : k < 6) : I.with_t s k = some ((s ||| 2 ^ k : Nat) : Int) := by
  unfold I.with_t I.with_tree
  rw [cnd_f (by simp), one_shl (by omega), i64_or_nat _ _ (by omega) (pow2_lt (by omega))]
theorem I.twiceIn_n {net : List Int} (h : Ok net) {t : Nat} (ht : t < 2 ^ net.length) : I.twiceIn_t net t = some ((twice net t : Nat) : Int) := by
  unfold I.twiceIn_t I.twiceIn_tree
  have h6 := h.hi
  have h64 := h.pow
  have := (run_for (run := I.twiceIn_run4 net t) (len := net.length) (fun k (q : Nat × Nat) => ((q.1 : Int), (q.2 : Int), (k : Int))) (fun q k => if t.testBit k = true then (q.1 ||| ball net k, q.2 ||| (q.1 &&& ball net k)) else q) (fun q => (q.2 : Int)) (fun k q => q.1 < 2 ^ net.length ∧ q.2 < 2 ^ net.length) (by omega) (fun n k q hk hq => ?_) (fun n q hq => ?_) (t0 := (0, 0)) ⟨Nat.two_pow_pos _, Nat.two_pow_pos _⟩).1
  · exact congrArg (fun o => optC o (fun q => some q) none) this
  · obtain ⟨q1, q2⟩ := q
    obtain ⟨hq1, hq2⟩ := hq
    simp only at hq1 hq2
    have hb := h.ball_lt hk
    have hal : q1 &&& ball net k < 2 ^ net.length := Nat.lt_of_le_of_lt Nat.and_le_left hq1
    simp only [I.twiceIn_run4, I.twiceIn_step4]
    rw [cnd_t (by simp; omega), I.hasPlace_n _ _ (by omega)]
    simp only [optC]
    cases hbit : t.testBit k with
    | true =>
      rw [cond_true, I.ballIn_n h hk, if_pos rfl]
      simp only
      rw [i64_or_nat q1 _ (by omega) (by omega), i64_and_nat q1 _ (by omega) (by omega), i64_or_nat q2 _ (by omega) (by omega), add1_nat (by omega)]
      exact ⟨rfl, Nat.or_lt_two_pow hq1 hb, Nat.or_lt_two_pow hq2 hal⟩
    | false => rw [cond_false, add1_nat (by omega), if_neg (by simp)]; exact ⟨rfl, hq1, hq2⟩
  · simp only [I.twiceIn_run4, I.twiceIn_step4]
    rw [cnd_f (by simp)]
theorem twice_lt {net : List Int} (h : Ok net) {s : Nat} (hs : s < 2 ^ net.length) : twice net s < 2 ^ net.length := (twice_is h hs).lt
theorem I.needsAllIn_n {net : List Int} (h : Ok net) {s : Nat} (hs : s < 2 ^ net.length) : I.needsAllIn_t net s = some (needs net s) := by
  unfold I.needsAllIn_t I.needsAllIn_tree
  have h6 := h.hi
  have h64 := h.pow
  have htl := twice_lt h hs
  rw [I.twiceIn_n h hs]
  simp only [optC]
  rw [run_search (run := I.needsAllIn_run3 net s (twice net s : Nat)) (len := net.length) (fun k => if (s.testBit k && priv net s k == 0) = true then some false else none) () (by omega) (fun n k hk => ?_) (fun n => ?_), find_test (p := fun k => s.testBit k && priv net s k == 0)]
  · unfold needs
    cases (List.range net.length).all fun k => !(s.testBit k && priv net s k == 0) <;> rfl
  · have hb := h.ball_lt hk
    simp only [I.needsAllIn_run3, I.needsAllIn_step3]
    rw [cnd_t (by simp; omega), I.hasPlace_n _ _ (by omega)]
    simp only [optC]
    cases hbit : s.testBit k with
    | false => simp only [cond_false, Bool.false_and, Bool.false_eq_true, if_false]; rw [add1_nat (by omega)]
    | true =>
      rw [cond_true, I.ballIn_n h hk]
      simp only [Bool.true_and]
      rw [i64_andNot_nat _ _ (by omega) (by omega), minus_twice h hs hbit, nat_eq0]
      cases hp : priv net s k == 0 with
      | false => simp only [cond_false, Bool.false_eq_true, if_false]; rw [add1_nat (by omega)]
      | true => rfl
  · simp only [I.needsAllIn_run3, I.needsAllIn_step3]
    rw [cnd_f (by simp)]
theorem I.fullNeedsIn_n {net : List Int} (h : Ok net) {s : Nat} (hs : s < 2 ^ net.length) : I.fullNeedsIn_t net s = some (fullN net s) := by
  unfold I.fullNeedsIn_t I.fullNeedsIn_tree
  have h6 := h.hi
  have h64 := h.pow
  rw [I.needsAllIn_n h hs]
  simp only [optC]
  unfold fullN
  cases hn : needs net s with
  | false => rw [Bool.and_false]; rfl
  | true =>
    rw [Bool.not_true, cond_false, Bool.and_true, run_search (run := I.fullNeedsIn_run4 net s) (len := net.length) (fun k => if (!s.testBit k && needs net (s ||| 2 ^ k)) = true then some false else none) () (by omega) (fun n k hk => ?_) (fun n => ?_), find_test (p := fun k => !s.testBit k && needs net (s ||| 2 ^ k))]
    · cases (List.range net.length).all fun k => !(!s.testBit k && needs net (s ||| 2 ^ k)) <;> rfl
    · simp only [I.fullNeedsIn_run4, I.fullNeedsIn_step4]
      rw [cnd_t (by simp; omega), I.hasPlace_n _ _ (by omega)]
      simp only [optC]
      cases hb : s.testBit k with
      | true => simp only [Bool.not_true, cond_false, Bool.false_and, Bool.false_eq_true, if_false]; rw [add1_nat (by omega)]
      | false =>
        rw [Bool.not_false, cond_true, I.with_n (by omega) (by omega)]
        simp only [Bool.true_and]
        rw [I.needsAllIn_n h (or_lt hs hk)]
        simp only
        cases hp : needs net (s ||| 2 ^ k) with
        | false => simp only [cond_false, Bool.false_eq_true, if_false]; rw [add1_nat (by omega)]
        | true => rfl
    · simp only [I.fullNeedsIn_run4, I.fullNeedsIn_step4]
      rw [cnd_f (by simp)]
theorem I.nextTo_n {net : List Int} (h : Ok net) {s : Nat} (hs : s < 2 ^ net.length) : I.nextTo_t net s = some ((near net s : Nat) : Int) := by
  unfold I.nextTo_t I.nextTo_tree
  have h6 := h.hi
  have h64 := h.pow
  have := (run_for (run := I.nextTo_run3 net s) (len := net.length) (fun k (t : Nat) => ((t : Int), (k : Int))) (fun t k => if s.testBit k = true then t ||| nb net k else t) (fun t => (t : Int)) (fun k t => t < 2 ^ net.length) (by omega) (fun n k t hk ht => ?_) (fun n t ht => ?_) (t0 := 0) (Nat.two_pow_pos _)).1
  · rw [fold_near] at this
    exact congrArg (fun o => optC o (fun q => some q) none) this
  · have hb := h.lt k hk
    simp only [I.nextTo_run3, I.nextTo_step3]
    rw [cnd_t (by simp; omega), I.hasPlace_n _ _ (by omega)]
    simp only [optC]
    cases hbit : s.testBit k with
    | true =>
      rw [cond_true, cnd_t (by simp; omega), if_pos rfl, Int.toNat_natCast, h.eli hk, i64_or_nat _ _ (by omega) (by omega), add1_nat (by omega)]
      exact ⟨rfl, Nat.or_lt_two_pow ht hb⟩
    | false =>
      rw [cond_false, if_neg (by simp), add1_nat (by omega)]
      exact ⟨rfl, ht⟩
  · simp only [I.nextTo_run3, I.nextTo_step3]
    rw [cnd_f (by simp)]
theorem I.apartIn_n {net : List Int} (h : Ok net) {s : Nat} (hs : s < 2 ^ net.length) : I.apartIn_t net s = some (apart net s) := by
  unfold I.apartIn_t I.apartIn_tree
  have h64 := h.pow
  have hnl := h.near_lt s
  rw [I.nextTo_n h hs]
  simp only [optC]
  rw [i64_and_nat _ _ (by omega) (by omega), nat_eq0, Nat.and_comm]
  rfl
theorem I.fullApartIn_n {net : List Int} (h : Ok net) {s : Nat} (hs : s < 2 ^ net.length) : I.fullApartIn_t net s = some (fullA net s) := by
  unfold I.fullApartIn_t I.fullApartIn_tree
  have h64 := h.pow
  have hnl := h.near_lt s
  rw [I.apartIn_n h hs, fullA_watch h hs]
  simp only [optC]
  cases ha : apart net s with
  | false => rfl
  | true =>
    rw [cond_true, I.nextTo_n h hs, I.allOf_n h]
    simp only
    rw [i64_or_nat _ _ (by omega) (by omega), nat_beq]
    rfl
theorem I.ApartOk_x {net : List Int} (e : I.NetOk_t net = some false) (s : Int) : I.ApartOk_t net s = some false := by
  unfold I.ApartOk_t I.ApartOk_tree; rw [e]; rfl
theorem I.FullApartOk_x {net : List Int} (e : I.NetOk_t net = some false) (s : Int) : I.FullApartOk_t net s = some false := by
  unfold I.FullApartOk_t I.FullApartOk_tree; rw [e]; rfl
theorem I.ApartOk_n {net : List Int} (h : Ok net) (e : I.NetOk_t net = some true) (s : Int) : I.ApartOk_t net s = some (decide (0 ≤ s ∧ s < 2 ^ net.length) && apart net s.toNat) := by
  unfold I.ApartOk_t I.ApartOk_tree
  rw [e]
  simp only [optC]
  rw [cond_true, I.setIn_n h]
  simp only
  rcases set_cases h s with ⟨t, rfl, ht, hd⟩ | hd
  · rw [hd, cond_true, I.apartIn_n h ht]; rfl
  · rw [hd]; rfl
theorem I.FullApartOk_n {net : List Int} (h : Ok net) (e : I.NetOk_t net = some true) (s : Int) : I.FullApartOk_t net s = some (decide (0 ≤ s ∧ s < 2 ^ net.length) && fullA net s.toNat) := by
  unfold I.FullApartOk_t I.FullApartOk_tree
  rw [e]
  simp only [optC]
  rw [cond_true, I.setIn_n h]
  simp only
  rcases set_cases h s with ⟨t, rfl, ht, hd⟩ | hd
  · rw [hd, cond_true, I.fullApartIn_n h ht]; rfl
  · rw [hd]; rfl
end Go.Proofs.Ytonbbeplmjidnaa
