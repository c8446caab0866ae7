/- The model's functions of chapters 3 to 5 in natural numbers. Conditions: those of each theorem. -/
import Derived.Test.YtonbbeplmjidnaaCh5
import Derived.Test.YtonbbeplmjidnaaEx2
namespace Go.Proofs.Ytonbbeplmjidnaa
open D Go.RowKit
set_option linter.unusedVariables false
set_option linter.unusedSimpArgs false


theorem nat_eq0 (a : Nat) : ((a : Int) == 0) = (a == 0) := nat_beq a 0
theorem nat_ne0 (a : Nat) : ((a : Int) != 0) = (a != 0) := nat_bne a 0
theorem minus_lt {a b n : Nat} (ha : a < 2 ^ n) : minus a b < 2 ^ n := Nat.lt_of_le_of_lt Nat.and_le_left ha
theorem minus_pow {s k : Nat} (hs : s < 64) (hk : k < 6) (hb : s.testBit k = true) : minus s (2 ^ k) = s - 2 ^ k := by rw [bits_minus s hs k hk, if_pos hb]
/-- The answers that are told for any argument. -/
def privI (net : List Int) (s g : Int) : Int := if (0 ≤ s ∧ s < 2 ^ net.length) ∧ (0 ≤ g ∧ g < net.length) ∧ s.toNat.testBit g.toNat = true then ((priv net s.toNat g.toNat : Nat) : Int) else -1
def twiceI (net : List Int) (s : Int) : Int := if 0 ≤ s ∧ s < 2 ^ net.length then ((twice net s.toNat : Nat) : Int) else -1
def grownI (net : List Int) (s : Int) : Int := if (0 ≤ s ∧ s < 2 ^ net.length) ∧ apart net s.toNat = true then ((grown net s.toNat : Nat) : Int) else -1
theorem dec_true {p : Prop} [Decidable p] (h : decide p = true) : p := of_decide_eq_true h
theorem dec_false {p : Prop} [Decidable p] (h : decide p = false) : ¬ p := of_decide_eq_false h
/-- All places below n pass a test, by a search for one that doesn't. -/
theorem find_test {n : Nat} {p : Nat → Bool} : find n (fun k => if p k = true then some false else none) = if ((List.range n).all fun k => !p k) = true then none else some false := by
  cases hall : (List.range n).all fun k => !p k with
  | true =>
    rw [if_pos rfl, find_none]
    intro j hj
    rw [List.all_eq_true] at hall
    have := hall j (List.mem_range.2 hj)
    rw [Bool.not_eq_true'] at this
    rw [this]; rfl
  | false =>
    rw [if_neg (by simp)]
    rw [List.all_eq_false] at hall
    obtain ⟨k, hk, hb⟩ := hall
    rw [Bool.not_eq_true', Bool.not_eq_false] at hb
    cases hf : find n (fun k => if p k = true then some false else none) with
    | none =>
      have := find_none.1 hf k (List.mem_range.1 hk)
      rw [hb] at this; cases this
    | some b =>
      obtain ⟨j, hj, he⟩ := find_some_ex hf
      split at he
      · cases he; rfl
      · cases he

theorem S.l3Private_n {net : List Int} (h : Ok net) {s g : Nat} (hs : s < 2 ^ net.length) (hg : s.testBit g = true) : S.l3Private_t net s g = some ((priv net s g : Nat) : Int) := by
  have hgl := in_lt hs hg
  have h6 := h.hi
  have h64 := h.pow
  have hpl := pow2_lt (k := g) (by omega)
  have hsl : s - 2 ^ g < 2 ^ net.length := sub_lt hs
  have hnl := h.near_lt (s - 2 ^ g)
  have hor : (s - 2 ^ g) ||| near net (s - 2 ^ g) < 2 ^ net.length := Nat.or_lt_two_pow hsl hnl
  have hb := h.ball_lt hgl
  have hnb := h.lt64 hgl
  unfold S.l3Private_t S.l3Private_tree
  rw [cnd_f (by simp), cnd_t (by simp; omega), cnd_f (by simp), one_shl (by omega), i64_andNot_nat _ _ (by omega) hpl, minus_pow (by omega) (by omega) hg, S.l1Near_n h]
  simp only [optC]
  rw [Int.toNat_natCast, h.eli hgl, i64_or_nat (nb net g) (2 ^ g) (by omega) hpl, i64_or_nat _ _ (by omega) (by omega)]
  have e1 : nb net g ||| 2 ^ g = ball net g := rfl
  rw [e1, i64_andNot_nat _ _ (by omega) (by omega)]
  rfl
theorem S.l3Needs_n {net : List Int} (h : Ok net) {s : Nat} (hs : s < 2 ^ net.length) : S.l3Needs_t net s = some (needs net s) := by
  unfold S.l3Needs_t S.l3Needs_tree
  have h6 := h.hi
  have h64 := h.pow
  rw [run_search (run := S.l3Needs_run2 net s) (len := net.length) (fun k => if (s.testBit k && priv net s k == 0) = true then some false else none) () (by omega) (fun n k hk => ?_) (fun n => ?_), find_test (p := fun k => s.testBit k && priv net s k == 0)]
  · unfold needs
    cases (List.range net.length).all fun k => !(s.testBit k && priv net s k == 0) <;> rfl
  · simp only [S.l3Needs_run2, S.l3Needs_step2]
    rw [cnd_t (by simp; omega), cnd_f (by simp), bit_shr _ _ (by omega), bool_eq1]
    cases hb : s.testBit k with
    | false => simp only [cond_false, Bool.false_and, Bool.false_eq_true, if_false]; rw [add1_nat (by omega)]
    | true =>
      rw [cond_true, S.l3Private_n h hs hb]
      simp only [optC, Bool.true_and]
      rw [nat_eq0]
      cases hp : priv net s k == 0 with
      | false => simp only [cond_false, Bool.false_eq_true, if_false]; rw [add1_nat (by omega)]
      | true => rfl
  · simp only [S.l3Needs_run2, S.l3Needs_step2]
    rw [cnd_f (by simp)]
theorem S.l3Full_n {net : List Int} (h : Ok net) {s : Nat} (hs : s < 2 ^ net.length) : S.l3Full_t net s = some (fullN net s) := by
  unfold S.l3Full_t S.l3Full_tree
  have h6 := h.hi
  have h64 := h.pow
  rw [run_search (run := S.l3Full_run2 net s) (len := net.length) (fun k => if (!s.testBit k && needs net (s ||| 2 ^ k)) = true then some false else none) () (by omega) (fun n k hk => ?_) (fun n => ?_), find_test (p := fun k => !s.testBit k && needs net (s ||| 2 ^ k))]
  · simp only [optC]
    rw [S.l3Needs_n h hs]
    unfold fullN
    cases (List.range net.length).all fun k => !(!s.testBit k && needs net (s ||| 2 ^ k)) with
    | true => simp [sumC]
    | false => simp [sumC]
  · simp only [S.l3Full_run2, S.l3Full_step2]
    rw [cnd_t (by simp; omega), cnd_f (by simp), bit_shr _ _ (by omega), bool_eq0]
    cases hb : s.testBit k with
    | true => simp only [Bool.not_true, cond_false, Bool.false_and, Bool.false_eq_true, if_false]; rw [add1_nat (by omega)]
    | false =>
      rw [Bool.not_false, cond_true, cnd_f (by simp), one_shl (by omega), i64_or_nat _ _ (by omega) (pow2_lt (by omega)), S.l3Needs_n h (or_lt hs hk)]
      simp only [optC, Bool.true_and]
      cases hp : needs net (s ||| 2 ^ k) with
      | false => simp only [cond_false, Bool.false_eq_true, if_false]; rw [add1_nat (by omega)]
      | true => rfl
  · simp only [S.l3Full_run2, S.l3Full_step2]
    rw [cnd_f (by simp)]
theorem S.l4Apart_n {net : List Int} (h : Ok net) {s : Nat} (hs : s < 2 ^ net.length) : S.l4Apart_t net s = some (apart net s) := by
  unfold S.l4Apart_t S.l4Apart_tree
  have h64 := h.pow
  have hnl := h.near_lt s
  rw [S.l1Near_n h]
  simp only [optC]
  rw [i64_and_nat _ _ (by omega) (by omega), nat_eq0]
  rfl
theorem and_all_mono {s k n : Nat} (hk : k < n) (hs : s < 2 ^ n) : s ||| 2 ^ k < 2 ^ n := or_lt hs hk
theorem S.FullApartOk_x {net : List Int} (e : S.NetOk_t net = some false) (s : Int) : S.FullApartOk_t net s = some false := by
  unfold S.FullApartOk_t S.FullApartOk_tree S.ApartOk_t S.ApartOk_tree; rw [S.l1SetOk_x e]; rfl

theorem S.ApartOk_x {net : List Int} (e : S.NetOk_t net = some false) (s : Int) : S.ApartOk_t net s = some false := by
  unfold S.ApartOk_t S.ApartOk_tree; rw [S.l1SetOk_x e]; rfl
theorem S.ApartOk_n {net : List Int} (h : Ok net) (e : S.NetOk_t net = some true) (s : Int) : S.ApartOk_t net s = some (decide (0 ≤ s ∧ s < 2 ^ net.length) && apart net s.toNat) := by
  unfold S.ApartOk_t S.ApartOk_tree
  rw [S.l1SetOk_n h e]
  simp only [optC]
  rcases set_cases h s with ⟨t, rfl, ht, hd⟩ | hd
  · rw [hd, cond_true, S.l4Apart_n h ht]; rfl
  · rw [hd]; rfl
theorem S.FullApartOk_n {net : List Int} (h : Ok net) (e : S.NetOk_t net = some true) (s : Int) : S.FullApartOk_t net s = some (decide (0 ≤ s ∧ s < 2 ^ net.length) && fullA net s.toNat) := by
  unfold S.FullApartOk_t S.FullApartOk_tree
  have h6 := h.hi
  have h64 := h.pow
  rw [S.ApartOk_n h e]
  simp only [optC]
  rcases set_cases h s with ⟨t, rfl, ht, hd⟩ | hd
  · rw [hd, Bool.true_and, Bool.true_and, Int.toNat_natCast]
    unfold fullA
    cases ha : apart net t with
    | false => rfl
    | true =>
      rw [Bool.not_true, cond_false, Bool.true_and, run_search (run := S.FullApartOk_run4 net t) (len := net.length) (fun k => if (!t.testBit k && apart net (t ||| 2 ^ k)) = true then some false else none) () (by omega) (fun n k hk => ?_) (fun n => ?_), find_test (p := fun k => !t.testBit k && apart net (t ||| 2 ^ k))]
      · cases (List.range net.length).all fun k => !(!t.testBit k && apart net (t ||| 2 ^ k)) <;> rfl
      · simp only [S.FullApartOk_run4, S.FullApartOk_step4]
        rw [cnd_t (by simp; omega), cnd_f (by simp), bit_shr _ _ (by omega), bool_eq0]
        cases hb : t.testBit k with
        | true => simp only [Bool.not_true, cond_false, Bool.false_and, Bool.false_eq_true, if_false]; rw [add1_nat (by omega)]
        | false =>
          rw [Bool.not_false, cond_true, cnd_f (by simp), one_shl (by omega), i64_or_nat _ _ (by omega) (pow2_lt (by omega)), S.l4Apart_n h (or_lt ht hk)]
          simp only [optC, Bool.true_and]
          cases hp : apart net (t ||| 2 ^ k) with
          | false => simp only [cond_false, Bool.false_eq_true, if_false]; rw [add1_nat (by omega)]
          | true => rfl
      · simp only [S.FullApartOk_run4, S.FullApartOk_step4]
        rw [cnd_f (by simp)]
  · rw [hd]; rfl
theorem grownStep_lt {net : List Int} {t k n : Nat} (ht : t < 2 ^ n) (hk : k < n) : grownStep net t k < 2 ^ n := by
  unfold grownStep; split
  · exact or_lt ht hk
  · exact ht
theorem S.FewestApart_x {net : List Int} (e : S.NetOk_t net = some false) : S.FewestApart_t net = some (-1) := by
  unfold S.FewestApart_t S.FewestApart_tree; rw [e]; rfl
theorem S.MostApart_x {net : List Int} (e : S.NetOk_t net = some false) : S.MostApart_t net = some (-1) := by
  unfold S.MostApart_t S.MostApart_tree; rw [e]; rfl
theorem S.ApartCount_x {net : List Int} (e : S.NetOk_t net = some false) : S.ApartCount_t net = some (-1) := by
  unfold S.ApartCount_t S.ApartCount_tree; rw [e]; rfl
theorem S.FewestNeeds_x {net : List Int} (e : S.NetOk_t net = some false) : S.FewestNeeds_t net = some (-1) := by
  unfold S.FewestNeeds_t S.FewestNeeds_tree; rw [e]; rfl
theorem S.MostNeeds_x {net : List Int} (e : S.NetOk_t net = some false) : S.MostNeeds_t net = some (-1) := by
  unfold S.MostNeeds_t S.MostNeeds_tree; rw [e]; rfl
theorem S.MostLeast_x {net : List Int} (e : S.NetOk_t net = some false) : S.MostLeast_t net = some (-1) := by
  unfold S.MostLeast_t S.MostLeast_tree; rw [e]; rfl
theorem S.FewestApart_y {net : List Int} (h : Ok net) (e : S.NetOk_t net = some true) : S.FewestApart_t net = some ((minSize net (fullA net) : Nat) : Int) := by
  unfold S.FewestApart_t S.FewestApart_tree
  have h64 := h.pow
  have hn := h.hi
  rw [e]
  have := (run_for (run := S.FewestApart_run5 net) (len := 2 ^ net.length) (fun k (t : Nat) => ((t : Int), (k : Int))) (fun t s => if fullA net s = true then (if size s < t then size s else t) else t) (fun t => (t : Int)) (fun k t => t ≤ 6) (by omega) (fun n k t hk ht => ?_) (fun n t ht => ?_) (t0 := net.length) (by omega)).1
  · exact congrArg (fun o => optC o (fun q => some q) none) this
  · simp only [S.FewestApart_run5, S.FewestApart_step5]
    rw [pow_shl h, cnd_t (by rw [decide_eq_true_eq]; omega), S.FullApartOk_n h e, set_in hk, Int.toNat_natCast, Bool.true_and]
    simp only [optC]
    have hz := size_le k
    cases hw : fullA net k with
    | true =>
      rw [cond_true, S.l1Size_n (by omega)]
      simp only [if_true]
      rw [add1_nat (by omega)]
      by_cases hc : size k < t
      · rw [if_pos (by omega), if_pos hc]; exact ⟨rfl, by omega⟩
      · rw [if_neg (by omega), if_neg hc]; exact ⟨rfl, by omega⟩
    | false => simp only [cond_false, Bool.false_eq_true, if_false]; rw [add1_nat (by omega)]; exact ⟨rfl, ht⟩
  · simp only [S.FewestApart_run5, S.FewestApart_step5]
    rw [pow_shl h, cnd_f (by rw [decide_eq_false_iff_not]; omega)]
theorem S.MostApart_y {net : List Int} (h : Ok net) (e : S.NetOk_t net = some true) : S.MostApart_t net = some ((maxSize net (apart net) : Nat) : Int) := by
  unfold S.MostApart_t S.MostApart_tree
  have h64 := h.pow
  have hn := h.hi
  rw [e]
  have := (run_for (run := S.MostApart_run5 net) (len := 2 ^ net.length) (fun k (t : Nat) => ((t : Int), (k : Int))) (fun t s => if apart net s = true then (if size s > t then size s else t) else t) (fun t => (t : Int)) (fun k t => t ≤ 6) (by omega) (fun n k t hk ht => ?_) (fun n t ht => ?_) (t0 := 0) (by omega)).1
  · exact congrArg (fun o => optC o (fun q => some q) none) this
  · simp only [S.MostApart_run5, S.MostApart_step5]
    rw [pow_shl h, cnd_t (by rw [decide_eq_true_eq]; omega), S.l4Apart_n h hk]
    simp only [optC]
    have hz := size_le k
    cases hw : apart net k with
    | true =>
      rw [cond_true, S.l1Size_n (by omega)]
      simp only [if_true]
      rw [add1_nat (by omega)]
      by_cases hc : size k > t
      · rw [if_pos (by omega), if_pos hc]; exact ⟨rfl, by omega⟩
      · rw [if_neg (by omega), if_neg hc]; exact ⟨rfl, by omega⟩
    | false => simp only [cond_false, Bool.false_eq_true, if_false]; rw [add1_nat (by omega)]; exact ⟨rfl, ht⟩
  · simp only [S.MostApart_run5, S.MostApart_step5]
    rw [pow_shl h, cnd_f (by rw [decide_eq_false_iff_not]; omega)]
theorem S.FewestNeeds_y {net : List Int} (h : Ok net) (e : S.NetOk_t net = some true) : S.FewestNeeds_t net = some ((minSize net (fullN net) : Nat) : Int) := by
  unfold S.FewestNeeds_t S.FewestNeeds_tree
  have h64 := h.pow
  have hn := h.hi
  rw [e]
  have := (run_for (run := S.FewestNeeds_run5 net) (len := 2 ^ net.length) (fun k (t : Nat) => ((t : Int), (k : Int))) (fun t s => if fullN net s = true then (if size s < t then size s else t) else t) (fun t => (t : Int)) (fun k t => t ≤ 6) (by omega) (fun n k t hk ht => ?_) (fun n t ht => ?_) (t0 := net.length) (by omega)).1
  · exact congrArg (fun o => optC o (fun q => some q) none) this
  · simp only [S.FewestNeeds_run5, S.FewestNeeds_step5]
    rw [pow_shl h, cnd_t (by rw [decide_eq_true_eq]; omega), S.l3Full_n h hk]
    simp only [optC]
    have hz := size_le k
    cases hw : fullN net k with
    | true =>
      rw [cond_true, S.l1Size_n (by omega)]
      simp only [if_true]
      rw [add1_nat (by omega)]
      by_cases hc : size k < t
      · rw [if_pos (by omega), if_pos hc]; exact ⟨rfl, by omega⟩
      · rw [if_neg (by omega), if_neg hc]; exact ⟨rfl, by omega⟩
    | false => simp only [cond_false, Bool.false_eq_true, if_false]; rw [add1_nat (by omega)]; exact ⟨rfl, ht⟩
  · simp only [S.FewestNeeds_run5, S.FewestNeeds_step5]
    rw [pow_shl h, cnd_f (by rw [decide_eq_false_iff_not]; omega)]
theorem S.MostNeeds_y {net : List Int} (h : Ok net) (e : S.NetOk_t net = some true) : S.MostNeeds_t net = some ((maxSize net (needs net) : Nat) : Int) := by
  unfold S.MostNeeds_t S.MostNeeds_tree
  have h64 := h.pow
  have hn := h.hi
  rw [e]
  have := (run_for (run := S.MostNeeds_run5 net) (len := 2 ^ net.length) (fun k (t : Nat) => ((t : Int), (k : Int))) (fun t s => if needs net s = true then (if size s > t then size s else t) else t) (fun t => (t : Int)) (fun k t => t ≤ 6) (by omega) (fun n k t hk ht => ?_) (fun n t ht => ?_) (t0 := 0) (by omega)).1
  · exact congrArg (fun o => optC o (fun q => some q) none) this
  · simp only [S.MostNeeds_run5, S.MostNeeds_step5]
    rw [pow_shl h, cnd_t (by rw [decide_eq_true_eq]; omega), S.l3Needs_n h hk]
    simp only [optC]
    have hz := size_le k
    cases hw : needs net k with
    | true =>
      rw [cond_true, S.l1Size_n (by omega)]
      simp only [if_true]
      rw [add1_nat (by omega)]
      by_cases hc : size k > t
      · rw [if_pos (by omega), if_pos hc]; exact ⟨rfl, by omega⟩
      · rw [if_neg (by omega), if_neg hc]; exact ⟨rfl, by omega⟩
    | false => simp only [cond_false, Bool.false_eq_true, if_false]; rw [add1_nat (by omega)]; exact ⟨rfl, ht⟩
  · simp only [S.MostNeeds_run5, S.MostNeeds_step5]
    rw [pow_shl h, cnd_f (by rw [decide_eq_false_iff_not]; omega)]
theorem S.MostLeast_y {net : List Int} (h : Ok net) (e : S.NetOk_t net = some true) : S.MostLeast_t net = some ((maxSize net (least net) : Nat) : Int) := by
  unfold S.MostLeast_t S.MostLeast_tree
  have h64 := h.pow
  have hn := h.hi
  rw [e]
  have := (run_for (run := S.MostLeast_run5 net) (len := 2 ^ net.length) (fun k (t : Nat) => ((t : Int), (k : Int))) (fun t s => if least net s = true then (if size s > t then size s else t) else t) (fun t => (t : Int)) (fun k t => t ≤ 6) (by omega) (fun n k t hk ht => ?_) (fun n t ht => ?_) (t0 := 0) (by omega)).1
  · exact congrArg (fun o => optC o (fun q => some q) none) this
  · simp only [S.MostLeast_run5, S.MostLeast_step5]
    rw [pow_shl h, cnd_t (by rw [decide_eq_true_eq]; omega), S.l2Least_n h hk]
    simp only [optC]
    have hz := size_le k
    cases hw : least net k with
    | true =>
      rw [cond_true, S.l1Size_n (by omega)]
      simp only [if_true]
      rw [add1_nat (by omega)]
      by_cases hc : size k > t
      · rw [if_pos (by omega), if_pos hc]; exact ⟨rfl, by omega⟩
      · rw [if_neg (by omega), if_neg hc]; exact ⟨rfl, by omega⟩
    | false => simp only [cond_false, Bool.false_eq_true, if_false]; rw [add1_nat (by omega)]; exact ⟨rfl, ht⟩
  · simp only [S.MostLeast_run5, S.MostLeast_step5]
    rw [pow_shl h, cnd_f (by rw [decide_eq_false_iff_not]; omega)]
theorem S.ApartCount_y {net : List Int} (h : Ok net) (e : S.NetOk_t net = some true) : S.ApartCount_t net = some ((apartCount net : Nat) : Int) := by
  unfold S.ApartCount_t S.ApartCount_tree
  have h64 := h.pow
  rw [e]
  have := (run_for (run := S.ApartCount_run5 net) (len := 2 ^ net.length) (fun k (t : Nat) => ((t : Int), (k : Int))) (fun t s => t + (apart net s).toNat) (fun t => (t : Int)) (fun k t => t ≤ k) (by omega) (fun n k t hk ht => ?_) (fun n t ht => ?_) (t0 := 0) (Nat.le_refl _)).1
  · unfold apartCount cnt
    rw [← fold_sum]
    exact congrArg (fun o => optC o (fun q => some q) none) this
  · simp only [S.ApartCount_run5, S.ApartCount_step5]
    rw [pow_shl h, cnd_t (by rw [decide_eq_true_eq]; omega), S.l4Apart_n h hk]
    simp only [optC]
    cases apart net k with
    | true => rw [cond_true, add1_nat (by omega), add1_nat (by omega)]; exact ⟨rfl, by simp; omega⟩
    | false => rw [cond_false, add1_nat (by omega)]; exact ⟨rfl, by simp; omega⟩
  · simp only [S.ApartCount_run5, S.ApartCount_step5]
    rw [pow_shl h, cnd_f (by rw [decide_eq_false_iff_not]; omega)]
def chain (net : List Int) : List Int := [((minSize net (fullN net) : Nat) : Int), ((fewest net : Nat) : Int), ((minSize net (fullA net) : Nat) : Int), ((maxSize net (apart net) : Nat) : Int), ((maxSize net (least net) : Nat) : Int), ((maxSize net (needs net) : Nat) : Int)]
theorem S.ChainRow_x {net : List Int} (e : S.NetOk_t net = some false) : S.ChainRow_t net = some [] := by
  unfold S.ChainRow_t S.ChainRow_tree; rw [e]; rfl
theorem S.ChainRow_y {net : List Int} (h : Ok net) (e : S.NetOk_t net = some true) : S.ChainRow_t net = some (chain net) := by
  unfold S.ChainRow_t S.ChainRow_tree
  rw [e, S.FewestNeeds_y h e, S.FewestWatch_y h e, S.FewestApart_y h e, S.MostApart_y h e, S.MostLeast_y h e, S.MostNeeds_y h e]
  rfl
theorem S.EvenWatchedOk_x {net : List Int} (e : S.NetOk_t net = some false) : S.EvenWatchedOk_t net = some false := by
  unfold S.EvenWatchedOk_t S.EvenWatchedOk_tree; rw [e]; rfl
theorem S.EvenWatchedOk_y {net : List Int} (h : Ok net) (e : S.NetOk_t net = some true) : S.EvenWatchedOk_t net = some (fewest net == maxSize net (least net)) := by
  unfold S.EvenWatchedOk_t S.EvenWatchedOk_tree
  rw [e, S.FewestWatch_y h e, S.MostLeast_y h e]
  simp only [optC, cond_true]
  rw [nat_beq]

end Go.Proofs.Ytonbbeplmjidnaa
