/- What is a net: the program's test and the model's come to the same. Conditions: those of each theorem. -/
import Derived.Test.YtonbbeplmjidnaaNt1
import Derived.Test.YtonbbeplmjidnaaNet
namespace Go.Proofs.Ytonbbeplmjidnaa
open D Go.RowKit
set_option linter.unusedVariables false
set_option linter.unusedSimpArgs false


theorem i64_bits : IntKind.i64.bits = 64 := by kernel_rfl
def hasI (s : Int) (p : Nat) : Bool := (s.fdiv (2 ^ min p 64)) % 2 == 1
theorem I.hasPlace_is {s p : Int} (hp : 0 ≤ p) : I.hasPlace_t s p = some (hasI s p.toNat) := by
  unfold I.hasPlace_t I.hasPlace_tree
  rw [cnd_f (by simp; omega), i64_and1, i64_bits]
  rfl
theorem I.setIn_is {net : List Int} {s : Int} (hl : net.length ≤ 6) : I.setIn_t net s = some (decide (0 ≤ s ∧ s < 2 ^ net.length)) := by
  unfold I.setIn_t I.setIn_tree
  have e : IntKind.i64.wrap (1 * 2 ^ min (↑net.length : Int).toNat IntKind.i64.bits) = 2 ^ net.length := by
    rw [i64_bits, Int.toNat_natCast, Int.one_mul]
    generalize net.length = k at hl
    match k, hl with
    | 0, _ | 1, _ | 2, _ | 3, _ | 4, _ | 5, _ | 6, _ => exact i64_wrap (by decide) (by decide)
  by_cases h : 0 ≤ s
  · rw [cnd_t (by simpa using h), e]; simp [h]
  · rw [cnd_f (by simpa using h)]; simp [h]
theorem I.knownBack_is {net : List Int} {p : Int} (hl : net.length ≤ 6) (h0 : 0 ≤ p) (h1 : p < net.length) :
    I.knownBack_t net p = some ((List.range net.length).all fun q => !hasI (eli net p.toNat) q || hasI (eli net q) p.toNat) := by
  unfold I.knownBack_t I.knownBack_tree
  rw [run_all (run := I.knownBack_run2 net p) (len := net.length) (fun q => !hasI (eli net p.toNat) q || hasI (eli net q) p.toNat) (by omega) (fun n x hx0 hx1 => by
    simp only [I.knownBack_run2, I.knownBack_step2]
    by_cases hx : x < (net.length : Int)
    · rw [if_pos hx, cnd_t (by simpa using hx), cnd_t (by simp; omega), I.hasPlace_is hx0]
      simp only [optC]
      cases ha : hasI (eli net p.toNat) x.toNat with
      | false => simp only [cond_false, Bool.not_false, Bool.true_or, cond_true]; rw [i64_wrap (by omega) (by omega)]
      | true =>
        rw [cond_true, cnd_t (by simp; omega), I.hasPlace_is h0]
        simp only [optC]
        cases hb : hasI (eli net x.toNat) p.toNat with
        | false => rfl
        | true => simp only [Bool.not_true, cond_false, Bool.or_true, cond_true]; rw [i64_wrap (by omega) (by omega)]
    · rw [if_neg hx, cnd_f (by simpa using hx)])]
  cases (List.range net.length).all _ <;> rfl
theorem I.NetOk_is {net : List Int} : I.NetOk_t net = some (decide (1 ≤ net.length) && decide (net.length ≤ 6) && (List.range net.length).all fun p =>
    decide (0 ≤ eli net p ∧ eli net p < 2 ^ net.length) && !hasI (eli net p) p && (List.range net.length).all fun q => !hasI (eli net p) q || hasI (eli net q) p) := by
  unfold I.NetOk_t I.NetOk_tree
  rcases Nat.lt_or_ge net.length 1 with hlo | hlo
  · rw [cnd_t (by simp; omega), decide_eq_false (by omega : ¬ 1 ≤ net.length)]; rfl
  rw [cnd_f (by simp; omega)]
  rcases Nat.lt_or_ge 6 net.length with hl | hl
  · rw [cnd_t (by simp; omega), decide_eq_false (by omega : ¬ net.length ≤ 6), Bool.and_false]; rfl
  rw [cnd_f (by simp; omega)]
  rw [run_all (run := I.NetOk_run4 net) (len := net.length) (fun p => decide (0 ≤ eli net p ∧ eli net p < 2 ^ net.length) && !hasI (eli net p) p && (List.range net.length).all fun q => !hasI (eli net p) q || hasI (eli net q) p) (by omega) (fun n x hx0 hx1 => by
    simp only [I.NetOk_run4, I.NetOk_step4]
    by_cases hx : x < (net.length : Int)
    · rw [if_pos hx, cnd_t (by simpa using hx), cnd_t (by simp; omega), I.setIn_is hl]
      simp only [optC]
      cases ha : decide (0 ≤ eli net x.toNat ∧ eli net x.toNat < 2 ^ net.length) with
      | false => rfl
      | true =>
        rw [Bool.not_true, cond_false, cnd_t (by simp; omega), I.hasPlace_is hx0]
        simp only [optC]
        cases hb : hasI (eli net x.toNat) x.toNat with
        | true => rfl
        | false =>
          rw [cond_false, I.knownBack_is hl hx0 hx]
          simp only [optC]
          cases hc : (List.range net.length).all fun q => !hasI (eli net x.toNat) q || hasI (eli net q) x.toNat with
          | false => rfl
          | true => simp only [Bool.not_true, Bool.not_false, cond_false, Bool.and_true, cond_true]; rw [i64_wrap (by omega) (by omega)]
    · rw [if_neg hx, cnd_f (by simpa using hx)])]
  simp only [hlo, hl, decide_true, Bool.true_and]
  cases (List.range net.length).all _ <;> rfl
def bitS (s : Int) (p : Nat) : Int := (s.fdiv (2 ^ min p 64)).tmod 2
theorem S.l1In_is {x a b : Int} : S.l1In_t x a b = some (decide (a ≤ x ∧ x ≤ b)) := by
  unfold S.l1In_t S.l1In_tree
  by_cases h : a ≤ x
  · rw [cnd_t (by simpa using h)]; simp [h]
  · rw [cnd_f (by simpa using h)]; simp [h]
theorem S.NetOk_is {net : List Int} : S.NetOk_t net = some (decide (1 ≤ net.length) && decide (net.length ≤ 6) &&
    ((List.range net.length).all fun p => decide (0 ≤ eli net p ∧ eli net p < 2 ^ net.length)) && (List.range net.length).all fun p =>
    (List.range net.length).all fun q => bitS (eli net p) q == bitS (eli net q) p && !(q == p && bitS (eli net p) q == 1)) := by
  unfold S.NetOk_t S.NetOk_tree
  rw [S.l1In_is]
  simp only [optC]
  rcases Nat.lt_or_ge net.length 1 with hlo | hlo
  · rw [decide_eq_false (by omega : ¬ 1 ≤ net.length), decide_eq_false (by omega : ¬ ((1 : Int) ≤ (net.length : Int) ∧ (net.length : Int) ≤ 6))]; rfl
  rcases Nat.lt_or_ge 6 net.length with hl | hl
  · rw [decide_eq_false (by omega : ¬ net.length ≤ 6), decide_eq_false (by omega : ¬ ((1 : Int) ≤ (net.length : Int) ∧ (net.length : Int) ≤ 6)), Bool.and_false]; rfl
  rw [decide_eq_true (by omega : ((1 : Int) ≤ (net.length : Int) ∧ (net.length : Int) ≤ 6)), Bool.not_true, cond_false]
  have e : IntKind.i64.wrap (IntKind.i64.wrap (1 * 2 ^ min (↑net.length : Int).toNat IntKind.i64.bits) - 1) = 2 ^ net.length - 1 := by
    rw [i64_bits, Int.toNat_natCast, Int.one_mul]
    generalize net.length = k at hl
    match k, hl with
    | 0, _ | 1, _ | 2, _ | 3, _ | 4, _ | 5, _ | 6, _ => rw [i64_wrap (n := 2 ^ min _ 64) (by decide) (by decide)]; exact i64_wrap (by decide) (by decide)
  rw [run_all (run := S.NetOk_run4 net) (len := net.length) (fun p => decide (0 ≤ eli net p ∧ eli net p < 2 ^ net.length)) (by omega) (fun n x hx0 hx1 => by
    simp only [S.NetOk_run4, S.NetOk_step4]
    by_cases hx : x < (net.length : Int)
    · rw [if_pos hx, cnd_t (by simpa using hx), cnd_t (by simp; omega), S.l1In_is, e]
      simp only [optC]
      have : decide (0 ≤ eli net x.toNat ∧ eli net x.toNat ≤ 2 ^ net.length - 1) = decide (0 ≤ eli net x.toNat ∧ eli net x.toNat < 2 ^ net.length) := decide_eq_decide.2 (by omega)
      rw [this]
      cases decide (0 ≤ eli net x.toNat ∧ eli net x.toNat < 2 ^ net.length) with
      | false => rfl
      | true => simp only [Bool.not_true, cond_false, cond_true]; rw [i64_wrap (by omega) (by omega)]
    · rw [if_neg hx, cnd_f (by simpa using hx)])]
  have inner : ∀ p : Int, 0 ≤ p → p < net.length → S.NetOk_run12 net p FUEL 0 = some (bif (List.range net.length).all (fun q => bitS (eli net p.toNat) q == bitS (eli net q) p.toNat && !(q == p.toNat && bitS (eli net p.toNat) q == 1)) then .inr () else .inl false) := by
    intro p hp0 hp1
    refine run_all (run := S.NetOk_run12 net p) (len := net.length) _ (by omega) (fun n x hx0 hx1 => ?_)
    simp only [S.NetOk_run12, S.NetOk_step12]
    by_cases hx : x < (net.length : Int)
    · rw [if_pos hx, cnd_t (by simpa using hx), cnd_t (by simp; omega), cnd_f (by simp; omega), cnd_t (by simp; omega), cnd_f (by simp; omega), i64_bits]
      show (bif !(bitS (eli net p.toNat) x.toNat == bitS (eli net x.toNat) p.toNat) then _ else _) = _
      cases ha : (bitS (eli net p.toNat) x.toNat == bitS (eli net x.toNat) p.toNat) with
      | false => rfl
      | true =>
        rw [Bool.not_true, cond_false, Bool.true_and]
        by_cases hxp : x = p
        · subst hxp
          rw [cnd_t (by simp), cnd_t (by simp; omega), cnd_f (by simp; omega), BEq.rfl, Bool.true_and]
          show (bif (bitS (eli net x.toNat) x.toNat == 1) then _ else _) = _
          cases (bitS (eli net x.toNat) x.toNat == 1) with
          | true => rfl
          | false => simp only [cond_false, Bool.not_false, cond_true]; rw [i64_wrap (by omega) (by omega)]
        · rw [cnd_f (by simpa using hxp)]
          have : (x.toNat == p.toNat) = false := by simp; omega
          rw [this, Bool.false_and, Bool.not_false, cond_true, i64_wrap (by omega) (by omega)]
    · rw [if_neg hx, cnd_f (by simpa using hx)]
  rw [run_all (run := S.NetOk_run9 net) (len := net.length) (fun p => (List.range net.length).all fun q => bitS (eli net p) q == bitS (eli net q) p && !(q == p && bitS (eli net p) q == 1)) (by omega) (fun n x hx0 hx1 => by
    simp only [S.NetOk_run9, S.NetOk_step9]
    by_cases hx : x < (net.length : Int)
    · rw [if_pos hx, cnd_t (by simpa using hx), inner x hx0 hx]
      simp only [optC]
      cases (List.range net.length).all fun q => bitS (eli net x.toNat) q == bitS (eli net q) x.toNat && !(q == x.toNat && bitS (eli net x.toNat) q == 1) with
      | false => rfl
      | true => simp only [cond_true, sumC]; rw [i64_wrap (by omega) (by omega)]
    · rw [if_neg hx, cnd_f (by simpa using hx)])]
  simp only [hlo, hl, decide_true, Bool.true_and]
  cases (List.range net.length).all fun p => decide (0 ≤ eli net p ∧ eli net p < 2 ^ net.length) with
  | false => rfl
  | true =>
    simp only [cond_true, sumC, Bool.true_and]
    cases (List.range net.length).all _ <;> rfl
theorem bitS_is {s : Int} (h : 0 ≤ s) (p : Nat) : bitS s p = if hasI s p = true then 1 else 0 := by
  unfold bitS hasI
  have h2 : (0 : Int) < 2 ^ min p 64 := Int.pow_pos (by decide)
  have h3 : 0 ≤ s.fdiv (2 ^ min p 64) := Int.fdiv_nonneg h (by omega)
  rw [Int.tmod_eq_emod_of_nonneg h3]
  by_cases h4 : s.fdiv (2 ^ min p 64) % 2 = 1
  · simp [h4]
  · have : s.fdiv (2 ^ min p 64) % 2 = 0 := by omega
    simp [this]
theorem NetOk_eq {net : List Int} : I.NetOk_t net = S.NetOk_t net := by
  rw [I.NetOk_is, S.NetOk_is]
  congr 1
  rw [Bool.eq_iff_iff]
  simp only [Bool.and_eq_true, List.all_eq_true, List.mem_range, decide_eq_true_eq, Bool.or_eq_true, Bool.not_eq_true', beq_iff_eq, Bool.and_eq_false_iff, beq_eq_false_iff_ne]
  constructor
  · rintro ⟨⟨h1, h2⟩, h3⟩
    refine ⟨⟨⟨h1, h2⟩, fun p hp => (h3 p hp).1.1⟩, fun p hp q hq => ⟨?_, ?_⟩⟩
    · rw [bitS_is (h3 p hp).1.1.1, bitS_is (h3 q hq).1.1.1]
      have a1 := (h3 p hp).2 q hq
      have a2 := (h3 q hq).2 p hp
      cases ha : hasI (eli net p) q <;> cases hb : hasI (eli net q) p <;> simp_all
    · by_cases hqp : q = p
      · subst hqp
        right
        rw [bitS_is (h3 q hq).1.1.1, (h3 q hq).1.2]
        decide
      · exact .inl hqp
  · rintro ⟨⟨⟨h1, h2⟩, h3⟩, h4⟩
    refine ⟨⟨h1, h2⟩, fun p hp => ⟨⟨h3 p hp, ?_⟩, fun q hq => ?_⟩⟩
    · have := (h4 p hp p hp).2
      rw [bitS_is (h3 p hp).1] at this
      cases ha : hasI (eli net p) p with
      | false => rfl
      | true => rw [ha] at this; simp at this
    · have := (h4 p hp q hq).1
      rw [bitS_is (h3 p hp).1, bitS_is (h3 q hq).1] at this
      cases ha : hasI (eli net p) q <;> cases hb : hasI (eli net q) p <;> simp_all
theorem NetOk_some {net : List Int} : ∃ b, S.NetOk_t net = some b ∧ I.NetOk_t net = some b := ⟨_, S.NetOk_is, by rw [NetOk_eq]; exact S.NetOk_is⟩
end Go.Proofs.Ytonbbeplmjidnaa
