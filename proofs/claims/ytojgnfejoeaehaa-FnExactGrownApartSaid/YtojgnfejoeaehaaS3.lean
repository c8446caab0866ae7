/- The model's functions of chapters 3 to 5 in natural numbers. Conditions: those of each theorem. -/
import Derived.Test.YtojgnfejoeaehaaCh5
import Derived.Test.YtojgnfejoeaehaaEx2
namespace Go.Proofs.Ytojgnfejoeaehaa
open D Go.RowKit
set_option linter.unusedVariables false
set_option linter.unusedSimpArgs false


theorem nat_eq0 (a : Nat) : ((a : Int) == 0) = (a == 0) := nat_beq a 0
theorem nat_ne0 (a : Nat) : ((a : Int) != 0) = (a != 0) := nat_bne a 0
theorem minus_lt {a b n : Nat} (ha : a < 2 ^ n) : minus a b < 2 ^ n := Nat.lt_of_le_of_lt Nat.and_le_left ha
theorem minus_pow {s k : Nat} (hs : s < 64) (hk : k < 6) (hb : s.testBit k = true) : minus s (2 ^ k) = s - 2 ^ k := by rw [bits_minus s hs k hk, if_pos hb]
/-- The answers that are told for any argument. -/
def privI (net : List Int) (s g : Int) : Int := if (0 ≤ s ∧ s < 2 ^ net.length) ∧ (0 ≤ g ∧ g < net.length) ∧ s.toNat.testBit g.toNat = true then ((priv net s.toNat g.toNat : Nat) : Int) else -1
def twiceI (net : List Int) (s : Int) : Int := if 0 ≤ s ∧ s < 2 ^ net.length then ((twice net s.toNat : Nat) : Int) else -1
def grownI (net : List Int) (s : Int) : Int := if (0 ≤ s ∧ s < 2 ^ net.length) ∧ apart net s.toNat = true then ((grown net s.toNat : Nat) : Int) else -1
theorem dec_true {p : Prop} [Decidable p] (h : decide p = true) : p := of_decide_eq_true h
theorem dec_false {p : Prop} [Decidable p] (h : decide p = false) : ¬ p := of_decide_eq_false h
/-- All places below n pass a test, by a search for one that doesn't. -/
theorem find_test {n : Nat} {p : Nat → Bool} : find n (fun k => if p k = true then some false else none) = if ((List.range n).all fun k => !p k) = true then none else some false := by
  cases hall : (List.range n).all fun k => !p k with
  | true =>
    rw [if_pos rfl, find_none]
    intro j hj
    rw [List.all_eq_true] at hall
    have := hall j (List.mem_range.2 hj)
    rw [Bool.not_eq_true'] at this
    rw [this]; rfl
  | false =>
    rw [if_neg (by simp)]
    rw [List.all_eq_false] at hall
    obtain ⟨k, hk, hb⟩ := hall
    rw [Bool.not_eq_true', Bool.not_eq_false] at hb
    cases hf : find n (fun k => if p k = true then some false else none) with
    | none =>
      have := find_none.1 hf k (List.mem_range.1 hk)
      rw [hb] at this; cases this
    | some b =>
      obtain ⟨j, hj, he⟩ := find_some_ex hf
      split at he
      · cases he; rfl
      · cases he

theorem S.l3Private_n {net : List Int} (h : Ok net) {s g : Nat} (hs : s < 2 ^ net.length) (hg : s.testBit g = true) : S.l3Private_t net s g = some ((priv net s g : Nat) : Int) := by
  have hgl := in_lt hs hg
  have h6 := h.hi
  have h64 := h.pow
  have hpl := pow2_lt (k := g) (by omega)
  have hsl : s - 2 ^ g < 2 ^ net.length := sub_lt hs
  have hnl := h.near_lt (s - 2 ^ g)
  have hor : (s - 2 ^ g) ||| near net (s - 2 ^ g) < 2 ^ net.length := Nat.or_lt_two_pow hsl hnl
  have hb := h.ball_lt hgl
  have hnb := h.lt64 hgl
  unfold S.l3Private_t S.l3Private_tree
  rw [cnd_f (by simp), cnd_t (by simp; omega), cnd_f (by simp), one_shl (by omega), i64_andNot_nat _ _ (by omega) hpl, minus_pow (by omega) (by omega) hg, S.l1Near_n h]
  simp only [optC]
  rw [Int.toNat_natCast, h.eli hgl, i64_or_nat (nb net g) (2 ^ g) (by omega) hpl, i64_or_nat _ _ (by omega) (by omega)]
  have e1 : nb net g ||| 2 ^ g = ball net g := rfl
  rw [e1, i64_andNot_nat _ _ (by omega) (by omega)]
  rfl
theorem S.PrivateOf_n {net : List Int} (h : Ok net) (e : S.NetOk_t net = some true) (s g : Int) : S.PrivateOf_t net s g = some (privI net s g) := by
  unfold S.PrivateOf_t S.PrivateOf_tree
  rw [S.l1SetOk_n h e]
  simp only [optC]
  have h6 := h.hi
  rcases set_cases h s with ⟨t, rfl, ht, hd⟩ | hd
  · rw [hd, Bool.not_true, cond_false, S.l1In_is, l1In_place h]
    simp only
    rcases place_cases net g with ⟨k, rfl, hk, hd2⟩ | hd2
    · rw [hd2, Bool.not_true, cond_false, cnd_f (by simp), bit_shr _ _ (by omega), bool_eq0]
      cases hb : t.testBit k with
      | true =>
        rw [Bool.not_true, cond_false, S.l3Private_n h ht hb]
        unfold privI
        rw [if_pos ⟨dec_true hd, dec_true hd2, by simpa using hb⟩]
        rfl
      | false =>
        unfold privI
        rw [if_neg (fun hc => by have := hc.2.2; simp [hb] at this)]
        rfl
    · unfold privI
      rw [hd2, if_neg (fun hc => dec_false hd2 hc.2.1)]; rfl
  · unfold privI
    rw [hd, if_neg (fun hc => dec_false hd hc.1)]; rfl
theorem S.PrivateOf_x {net : List Int} (e : S.NetOk_t net = some false) (s g : Int) : S.PrivateOf_t net s g = some (-1) := by
  unfold S.PrivateOf_t S.PrivateOf_tree; rw [S.l1SetOk_x e]; rfl
theorem S.l3Needs_n {net : List Int} (h : Ok net) {s : Nat} (hs : s < 2 ^ net.length) : S.l3Needs_t net s = some (needs net s) := by
  unfold S.l3Needs_t S.l3Needs_tree
  have h6 := h.hi
  have h64 := h.pow
  rw [run_search (run := S.l3Needs_run2 net s) (len := net.length) (fun k => if (s.testBit k && priv net s k == 0) = true then some false else none) () (by omega) (fun n k hk => ?_) (fun n => ?_), find_test (p := fun k => s.testBit k && priv net s k == 0)]
  · unfold needs
    cases (List.range net.length).all fun k => !(s.testBit k && priv net s k == 0) <;> rfl
  · simp only [S.l3Needs_run2, S.l3Needs_step2]
    rw [cnd_t (by simp; omega), cnd_f (by simp), bit_shr _ _ (by omega), bool_eq1]
    cases hb : s.testBit k with
    | false => simp only [cond_false, Bool.false_and, Bool.false_eq_true, if_false]; rw [add1_nat (by omega)]
    | true =>
      rw [cond_true, S.l3Private_n h hs hb]
      simp only [optC, Bool.true_and]
      rw [nat_eq0]
      cases hp : priv net s k == 0 with
      | false => simp only [cond_false, Bool.false_eq_true, if_false]; rw [add1_nat (by omega)]
      | true => rfl
  · simp only [S.l3Needs_run2, S.l3Needs_step2]
    rw [cnd_f (by simp)]
theorem S.l3Full_n {net : List Int} (h : Ok net) {s : Nat} (hs : s < 2 ^ net.length) : S.l3Full_t net s = some (fullN net s) := by
  unfold S.l3Full_t S.l3Full_tree
  have h6 := h.hi
  have h64 := h.pow
  rw [run_search (run := S.l3Full_run2 net s) (len := net.length) (fun k => if (!s.testBit k && needs net (s ||| 2 ^ k)) = true then some false else none) () (by omega) (fun n k hk => ?_) (fun n => ?_), find_test (p := fun k => !s.testBit k && needs net (s ||| 2 ^ k))]
  · simp only [optC]
    rw [S.l3Needs_n h hs]
    unfold fullN
    cases (List.range net.length).all fun k => !(!s.testBit k && needs net (s ||| 2 ^ k)) with
    | true => simp [sumC]
    | false => simp [sumC]
  · simp only [S.l3Full_run2, S.l3Full_step2]
    rw [cnd_t (by simp; omega), cnd_f (by simp), bit_shr _ _ (by omega), bool_eq0]
    cases hb : s.testBit k with
    | true => simp only [Bool.not_true, cond_false, Bool.false_and, Bool.false_eq_true, if_false]; rw [add1_nat (by omega)]
    | false =>
      rw [Bool.not_false, cond_true, cnd_f (by simp), one_shl (by omega), i64_or_nat _ _ (by omega) (pow2_lt (by omega)), S.l3Needs_n h (or_lt hs hk)]
      simp only [optC, Bool.true_and]
      cases hp : needs net (s ||| 2 ^ k) with
      | false => simp only [cond_false, Bool.false_eq_true, if_false]; rw [add1_nat (by omega)]
      | true => rfl
  · simp only [S.l3Full_run2, S.l3Full_step2]
    rw [cnd_f (by simp)]
theorem S.SeenTwice_x {net : List Int} (e : S.NetOk_t net = some false) (s : Int) : S.SeenTwice_t net s = some (-1) := by
  unfold S.SeenTwice_t S.SeenTwice_tree; rw [S.l1SetOk_x e]; rfl
theorem S.SeenTwice_n {net : List Int} (h : Ok net) (e : S.NetOk_t net = some true) (s : Int) : S.SeenTwice_t net s = some (twiceI net s) := by
  unfold S.SeenTwice_t S.SeenTwice_tree
  have h6 := h.hi
  have h64 := h.pow
  rw [S.l1SetOk_n h e]
  simp only [optC]
  rcases set_cases h s with ⟨t, rfl, ht, hd⟩ | hd
  · rw [hd, Bool.not_true, cond_false]
    have := (run_for (run := S.SeenTwice_run6 net t) (len := net.length) (fun k (q : Nat × Nat) => ((q.1 : Int), (q.2 : Int), (k : Int))) (fun q k => if t.testBit k = true then (q.1 ||| ball net k, q.2 ||| (q.1 &&& ball net k)) else q) (fun q => (q.2 : Int)) (fun k q => q.1 < 2 ^ net.length ∧ q.2 < 2 ^ net.length) (by omega) (fun n k q hk hq => ?_) (fun n q hq => ?_) (t0 := (0, 0)) ⟨Nat.two_pow_pos _, Nat.two_pow_pos _⟩).1
    · rw [show S.SeenTwice_run6 net t FUEL (0, 0, 0) = _ from this]
      unfold twiceI
      rw [if_pos (dec_true hd), Int.toNat_natCast]
      rfl
    · obtain ⟨q1, q2⟩ := q
      obtain ⟨hq1, hq2⟩ := hq
      simp only at hq1 hq2
      have hb := h.ball_lt hk
      have hnb := h.lt64 hk
      have hal : q1 &&& ball net k < 2 ^ net.length := Nat.lt_of_le_of_lt Nat.and_le_left hq1
      simp only [S.SeenTwice_run6, S.SeenTwice_step6]
      rw [cnd_t (by simp; omega), cnd_f (by simp), bit_shr _ _ (by omega), bool_eq1]
      cases hbit : t.testBit k with
      | true =>
        rw [cond_true, cnd_t (by simp; omega), cnd_f (by simp), Int.toNat_natCast, h.eli hk, show (2 : Int) ^ min k IntKind.i64.bits = 2 ^ min (k : Int).toNat IntKind.i64.bits by rw [Int.toNat_natCast], one_shl (by omega), i64_or_nat (nb net k) (2 ^ k) (by omega) (pow2_lt (by omega))]
        have e1 : nb net k ||| 2 ^ k = ball net k := rfl
        rw [e1, i64_or_nat q1 _ (by omega) (by omega), i64_and_nat q1 _ (by omega) (by omega), i64_or_nat q2 _ (by omega) (by omega), add1_nat (by omega), if_pos rfl]
        exact ⟨rfl, Nat.or_lt_two_pow hq1 hb, Nat.or_lt_two_pow hq2 hal⟩
      | false => rw [cond_false, add1_nat (by omega), if_neg (by simp)]; exact ⟨rfl, hq1, hq2⟩
    · simp only [S.SeenTwice_run6, S.SeenTwice_step6]
      rw [cnd_f (by simp)]
  · unfold twiceI
    rw [hd, if_neg (dec_false hd)]; rfl
theorem S.l4Apart_n {net : List Int} (h : Ok net) {s : Nat} (hs : s < 2 ^ net.length) : S.l4Apart_t net s = some (apart net s) := by
  unfold S.l4Apart_t S.l4Apart_tree
  have h64 := h.pow
  have hnl := h.near_lt s
  rw [S.l1Near_n h]
  simp only [optC]
  rw [i64_and_nat _ _ (by omega) (by omega), nat_eq0]
  rfl
theorem and_all_mono {s k n : Nat} (hk : k < n) (hs : s < 2 ^ n) : s ||| 2 ^ k < 2 ^ n := or_lt hs hk
theorem S.FullApartOk_x {net : List Int} (e : S.NetOk_t net = some false) (s : Int) : S.FullApartOk_t net s = some false := by
  unfold S.FullApartOk_t S.FullApartOk_tree S.ApartOk_t S.ApartOk_tree; rw [S.l1SetOk_x e]; rfl

theorem S.NeedsAllOk_x {net : List Int} (e : S.NetOk_t net = some false) (s : Int) : S.NeedsAllOk_t net s = some false := by
  unfold S.NeedsAllOk_t S.NeedsAllOk_tree; rw [S.l1SetOk_x e]; rfl
theorem S.NeedsAllOk_n {net : List Int} (h : Ok net) (e : S.NetOk_t net = some true) (s : Int) : S.NeedsAllOk_t net s = some (decide (0 ≤ s ∧ s < 2 ^ net.length) && needs net s.toNat) := by
  unfold S.NeedsAllOk_t S.NeedsAllOk_tree
  rw [S.l1SetOk_n h e]
  simp only [optC]
  rcases set_cases h s with ⟨t, rfl, ht, hd⟩ | hd
  · rw [hd, cond_true, S.l3Needs_n h ht]; rfl
  · rw [hd]; rfl
theorem S.FullNeedsOk_x {net : List Int} (e : S.NetOk_t net = some false) (s : Int) : S.FullNeedsOk_t net s = some false := by
  unfold S.FullNeedsOk_t S.FullNeedsOk_tree; rw [S.l1SetOk_x e]; rfl
theorem S.FullNeedsOk_n {net : List Int} (h : Ok net) (e : S.NetOk_t net = some true) (s : Int) : S.FullNeedsOk_t net s = some (decide (0 ≤ s ∧ s < 2 ^ net.length) && fullN net s.toNat) := by
  unfold S.FullNeedsOk_t S.FullNeedsOk_tree
  rw [S.l1SetOk_n h e]
  simp only [optC]
  rcases set_cases h s with ⟨t, rfl, ht, hd⟩ | hd
  · rw [hd, cond_true, S.l3Full_n h ht]; rfl
  · rw [hd]; rfl
theorem S.ApartOk_x {net : List Int} (e : S.NetOk_t net = some false) (s : Int) : S.ApartOk_t net s = some false := by
  unfold S.ApartOk_t S.ApartOk_tree; rw [S.l1SetOk_x e]; rfl
theorem S.ApartOk_n {net : List Int} (h : Ok net) (e : S.NetOk_t net = some true) (s : Int) : S.ApartOk_t net s = some (decide (0 ≤ s ∧ s < 2 ^ net.length) && apart net s.toNat) := by
  unfold S.ApartOk_t S.ApartOk_tree
  rw [S.l1SetOk_n h e]
  simp only [optC]
  rcases set_cases h s with ⟨t, rfl, ht, hd⟩ | hd
  · rw [hd, cond_true, S.l4Apart_n h ht]; rfl
  · rw [hd]; rfl
theorem S.FullApartOk_n {net : List Int} (h : Ok net) (e : S.NetOk_t net = some true) (s : Int) : S.FullApartOk_t net s = some (decide (0 ≤ s ∧ s < 2 ^ net.length) && fullA net s.toNat) := by
  unfold S.FullApartOk_t S.FullApartOk_tree
  have h6 := h.hi
  have h64 := h.pow
  rw [S.ApartOk_n h e]
  simp only [optC]
  rcases set_cases h s with ⟨t, rfl, ht, hd⟩ | hd
  · rw [hd, Bool.true_and, Bool.true_and, Int.toNat_natCast]
    unfold fullA
    cases ha : apart net t with
    | false => rfl
    | true =>
      rw [Bool.not_true, cond_false, Bool.true_and, run_search (run := S.FullApartOk_run4 net t) (len := net.length) (fun k => if (!t.testBit k && apart net (t ||| 2 ^ k)) = true then some false else none) () (by omega) (fun n k hk => ?_) (fun n => ?_), find_test (p := fun k => !t.testBit k && apart net (t ||| 2 ^ k))]
      · cases (List.range net.length).all fun k => !(!t.testBit k && apart net (t ||| 2 ^ k)) <;> rfl
      · simp only [S.FullApartOk_run4, S.FullApartOk_step4]
        rw [cnd_t (by simp; omega), cnd_f (by simp), bit_shr _ _ (by omega), bool_eq0]
        cases hb : t.testBit k with
        | true => simp only [Bool.not_true, cond_false, Bool.false_and, Bool.false_eq_true, if_false]; rw [add1_nat (by omega)]
        | false =>
          rw [Bool.not_false, cond_true, cnd_f (by simp), one_shl (by omega), i64_or_nat _ _ (by omega) (pow2_lt (by omega)), S.l4Apart_n h (or_lt ht hk)]
          simp only [optC, Bool.true_and]
          cases hp : apart net (t ||| 2 ^ k) with
          | false => simp only [cond_false, Bool.false_eq_true, if_false]; rw [add1_nat (by omega)]
          | true => rfl
      · simp only [S.FullApartOk_run4, S.FullApartOk_step4]
        rw [cnd_f (by simp)]
  · rw [hd]; rfl
theorem S.GrownApart_x {net : List Int} (e : S.NetOk_t net = some false) (s : Int) : S.GrownApart_t net s = some (-1) := by
  unfold S.GrownApart_t S.GrownApart_tree; rw [S.ApartOk_x e]; rfl
theorem grownStep_lt {net : List Int} {t k n : Nat} (ht : t < 2 ^ n) (hk : k < n) : grownStep net t k < 2 ^ n := by
  unfold grownStep; split
  · exact or_lt ht hk
  · exact ht
theorem S.GrownApart_n {net : List Int} (h : Ok net) (e : S.NetOk_t net = some true) (s : Int) : S.GrownApart_t net s = some (grownI net s) := by
  unfold S.GrownApart_t S.GrownApart_tree
  have h6 := h.hi
  have h64 := h.pow
  rw [S.ApartOk_n h e]
  simp only [optC]
  unfold grownI
  rcases set_cases h s with ⟨t, rfl, ht, hd⟩ | hd
  · rw [hd, Bool.true_and, Int.toNat_natCast]
    cases ha : apart net t with
    | false => rw [if_neg (fun hc => by cases hc.2)]; rfl
    | true =>
      rw [if_pos ⟨dec_true hd, rfl⟩, Bool.not_true, cond_false]
      have := (run_for (run := S.GrownApart_run4 net) (len := net.length) (fun k (q : Nat) => ((q : Int), (k : Int))) (grownStep net) (fun q => (q : Int)) (fun k q => q < 2 ^ net.length) (by omega) (fun n k q hk hq => ?_) (fun n q hq => ?_) (t0 := t) ht).1
      · rw [show S.GrownApart_run4 net FUEL ((t : Int), 0) = _ from this]
        rfl
      · refine ⟨?_, grownStep_lt hq hk⟩
        have hnb := h.lt64 hk
        simp only [S.GrownApart_run4, S.GrownApart_step4]
        rw [cnd_t (by simp; omega), cnd_f (by simp), bit_shr _ _ (by omega), bool_eq0]
        unfold grownStep
        cases hb : q.testBit k with
        | true => simp only [Bool.not_true, cond_false, Bool.false_and, Bool.false_eq_true, if_false]; rw [add1_nat (by omega)]
        | false =>
          rw [Bool.not_false, cond_true, cnd_t (by simp; omega), Int.toNat_natCast, h.eli hk, i64_and_nat _ _ (by omega) (by omega), nat_eq0, Bool.true_and]
          cases hp : (nb net k &&& q) == 0 with
          | false => simp only [cond_false, Bool.false_eq_true, if_false]; rw [add1_nat (by omega)]
          | true => rw [cond_true, cnd_f (by simp), show (2 : Int) ^ min k IntKind.i64.bits = 2 ^ min (k : Int).toNat IntKind.i64.bits by rw [Int.toNat_natCast], one_shl (by omega), i64_or_nat _ _ (by omega) (pow2_lt (by omega)), add1_nat (by omega), if_pos rfl]
      · simp only [S.GrownApart_run4, S.GrownApart_step4]
        rw [cnd_f (by simp)]
  · rw [hd, if_neg (fun hc => dec_false hd hc.1)]; rfl

def chain (net : List Int) : List Int := [((minSize net (fullN net) : Nat) : Int), ((fewest net : Nat) : Int), ((minSize net (fullA net) : Nat) : Int), ((maxSize net (apart net) : Nat) : Int), ((maxSize net (least net) : Nat) : Int), ((maxSize net (needs net) : Nat) : Int)]
end Go.Proofs.Ytojgnfejoeaehaa
