/- Several texts in one: Nt1, Nt2, N1, N2, N4, Chap1, Ch3, Ch5, Ch6, Ch7, Ch9, Ch11, Ch13, Ch13b, Ch13c, Ch15. Conditions: those of each theorem. -/
import Derived.Test.YthcidiihfjjpdaaBza1
import Derived.Test.YthcidiihfjjpdaaBzTz
import Derived.Test.YthcidiihfjjpdaaBza2
/- What the laws' own small functions come to. Conditions: those of each theorem. -/
namespace Go.Proofs.Ythcidiihfjjpdaa
open D Go.RowKit
set_option linter.unusedVariables false
set_option linter.unusedSimpArgs false


theorem L.toIntS_is {a : List Int} (ha : a.length ≤ 1048576) : L.toIntS_t a = some a := by
  have hloop : L.toIntS_run3 a FUEL (0, List.replicate (↑a.length : Int).toNat 0) = some a := by
    refine run_fuel (run := L.toIntS_run3 a) (fun s => 0 ≤ s.1 ∧ s.1 ≤ a.length ∧ s.2.length = a.length ∧ ∀ j, j < s.1.toNat → s.2.getD j 0 = a.getD j 0) (fun s => a.length - s.1.toNat) (fun _ => a) ?_ ?_ ?_
    · rintro n ⟨x, r⟩ ⟨h0, h1, h2, h3⟩
      simp only at h0 h1 h2 h3
      by_cases hx : x < (a.length : Int)
      · refine .inr ⟨(IntKind.i64.wrap (x + 1), r.set x.toNat (eli a x.toNat)), ?_, ?_, ?_, rfl⟩
        · simp only [L.toIntS_run3, L.toIntS_step3]
          rw [cnd_t (by simpa using hx), cnd_t (by simp; omega), cnd_t (by simp; omega), cnd_t (by simp; omega)]
        · rw [i64_wrap (by omega) (by omega)]
          refine ⟨by simp only; omega, by simp only; omega, by simp only [List.length_set]; exact h2, fun j hj => ?_⟩
          simp only at hj ⊢
          by_cases hjx : j = x.toNat
          · subst hjx
            have hlt : x.toNat < r.length := by omega
            simp [List.getD, hlt, eli]
          · rw [← h3 j (by omega)]
            simp [List.getD, List.getElem?_set_ne (Ne.symm hjx)]
        · rw [i64_wrap (by omega) (by omega)]; simp only; omega
      · refine .inl ?_
        simp only [L.toIntS_run3, L.toIntS_step3]
        rw [cnd_f (by simpa using hx)]
        congr 1
        apply List.ext_getElem?
        intro j
        by_cases hj : j < a.length
        · have := h3 j (by omega)
          simp only [List.getD, h2, hj, List.getElem?_eq_getElem, Option.getD_some, hj] at this ⊢
          rw [this]
        · rw [List.getElem?_eq_none (by omega), List.getElem?_eq_none (by omega)]
    · refine ⟨by simp, by simp, by simp, fun j hj => by simp at hj⟩
    · simp; omega
  unfold L.toIntS_t L.toIntS_tree
  rw [cnd_t (by simp [small]; omega), hloop]
  rfl

theorem L.eqIntS_is {a b : List Int} (ha : a.length ≤ 2097152) : L.eqIntS_t a b = some (decide (a = b)) := by
  unfold L.eqIntS_t L.eqIntS_tree
  by_cases hl : a.length = b.length
  · rw [cnd_f (by simp [hl])]
    have hloop : L.eqIntS_run4 a b FUEL 0 = some (if a = b then .inr () else .inl false) := by
      refine run_fuel (run := L.eqIntS_run4 a b) (fun x => 0 ≤ x ∧ x ≤ a.length ∧ ∀ j, j < x.toNat → a.getD j 0 = b.getD j 0) (fun x => a.length - x.toNat) (fun _ => if a = b then .inr () else .inl false) ?_ ?_ ?_
      · rintro n x ⟨h0, h1, h3⟩
        by_cases hx : x < (a.length : Int)
        · by_cases he : eli a x.toNat = eli b x.toNat
          · refine .inr ⟨IntKind.i64.wrap (x + 1), ?_, ?_, ?_, rfl⟩
            · simp only [L.eqIntS_run4, L.eqIntS_step4]
              rw [cnd_t (by simpa using hx), cnd_t (by simp; omega), cnd_t (by simp; omega), cnd_f (by simp [he])]
            · rw [i64_wrap (by omega) (by omega)]
              refine ⟨by omega, by omega, fun j hj => ?_⟩
              by_cases hjx : j = x.toNat
              · subst hjx; exact he
              · exact h3 j (by omega)
            · rw [i64_wrap (by omega) (by omega)]; omega
          · refine .inl ?_
            simp only [L.eqIntS_run4, L.eqIntS_step4]
            rw [cnd_t (by simpa using hx), cnd_t (by simp; omega), cnd_t (by simp; omega), cnd_t (by simp [he])]
            rw [if_neg (fun h => he (by rw [h]))]
        · refine .inl ?_
          simp only [L.eqIntS_run4, L.eqIntS_step4]
          rw [cnd_f (by simpa using hx)]
          have : a = b := by
            apply List.ext_getElem hl
            intro j hj hj'
            have := h3 j (by omega)
            simpa [List.getD, hj, hj'] using this
          rw [if_pos this]
      · exact ⟨by simp, by simp, fun j hj => by simp at hj⟩
      · simp; omega
    rw [hloop]
    by_cases h : a = b
    · simp [h, optC, sumC]
    · simp [h, optC, sumC]
  · rw [cnd_t (by simp; omega)]
    have : ¬ a = b := fun h => hl (by rw [h])
    simp [this]
end Go.Proofs.Ythcidiihfjjpdaa
/- What is a net: the program's test and the model's come to the same. Conditions: those of each theorem. -/
namespace Go.Proofs.Ythcidiihfjjpdaa
open D Go.RowKit
set_option linter.unusedVariables false
set_option linter.unusedSimpArgs false


theorem i64_bits : IntKind.i64.bits = 64 := by kernel_rfl
def hasI (s : Int) (p : Nat) : Bool := (s.fdiv (2 ^ min p 64)) % 2 == 1
theorem I.hasPlace_is {s p : Int} (hp : 0 ≤ p) : I.hasPlace_t s p = some (hasI s p.toNat) := by
  unfold I.hasPlace_t I.hasPlace_tree
  rw [cnd_f (by simp; omega), i64_and1, i64_bits]
  rfl
theorem I.setIn_is {net : List Int} {s : Int} (hl : net.length ≤ 6) : I.setIn_t net s = some (decide (0 ≤ s ∧ s < 2 ^ net.length)) := by
  unfold I.setIn_t I.setIn_tree
  have e : IntKind.i64.wrap (1 * 2 ^ min (↑net.length : Int).toNat IntKind.i64.bits) = 2 ^ net.length := by
    rw [i64_bits, Int.toNat_natCast, Int.one_mul]
    generalize net.length = k at hl
    match k, hl with
    | 0, _ | 1, _ | 2, _ | 3, _ | 4, _ | 5, _ | 6, _ => exact i64_wrap (by decide) (by decide)
  by_cases h : 0 ≤ s
  · rw [cnd_t (by simpa using h), e]; simp [h]
  · rw [cnd_f (by simpa using h)]; simp [h]
theorem I.knownBack_is {net : List Int} {p : Int} (hl : net.length ≤ 6) (h0 : 0 ≤ p) (h1 : p < net.length) :
    I.knownBack_t net p = some ((List.range net.length).all fun q => !hasI (eli net p.toNat) q || hasI (eli net q) p.toNat) := by
  unfold I.knownBack_t I.knownBack_tree
  rw [run_all (run := I.knownBack_run2 net p) (len := net.length) (fun q => !hasI (eli net p.toNat) q || hasI (eli net q) p.toNat) (by omega) (fun n x hx0 hx1 => by
    simp only [I.knownBack_run2, I.knownBack_step2]
    by_cases hx : x < (net.length : Int)
    · rw [if_pos hx, cnd_t (by simpa using hx), cnd_t (by simp; omega), I.hasPlace_is hx0]
      simp only [optC]
      cases ha : hasI (eli net p.toNat) x.toNat with
      | false => simp only [cond_false, Bool.not_false, Bool.true_or, cond_true]; rw [i64_wrap (by omega) (by omega)]
      | true =>
        rw [cond_true, cnd_t (by simp; omega), I.hasPlace_is h0]
        simp only [optC]
        cases hb : hasI (eli net x.toNat) p.toNat with
        | false => rfl
        | true => simp only [Bool.not_true, cond_false, Bool.or_true, cond_true]; rw [i64_wrap (by omega) (by omega)]
    · rw [if_neg hx, cnd_f (by simpa using hx)])]
  cases (List.range net.length).all _ <;> rfl
theorem I.NetOk_is {net : List Int} : I.NetOk_t net = some (decide (1 ≤ net.length) && decide (net.length ≤ 6) && (List.range net.length).all fun p =>
    decide (0 ≤ eli net p ∧ eli net p < 2 ^ net.length) && !hasI (eli net p) p && (List.range net.length).all fun q => !hasI (eli net p) q || hasI (eli net q) p) := by
  unfold I.NetOk_t I.NetOk_tree
  rcases Nat.lt_or_ge net.length 1 with hlo | hlo
  · rw [cnd_t (by simp; omega), decide_eq_false (by omega : ¬ 1 ≤ net.length)]; rfl
  rw [cnd_f (by simp; omega)]
  rcases Nat.lt_or_ge 6 net.length with hl | hl
  · rw [cnd_t (by simp; omega), decide_eq_false (by omega : ¬ net.length ≤ 6), Bool.and_false]; rfl
  rw [cnd_f (by simp; omega)]
  rw [run_all (run := I.NetOk_run4 net) (len := net.length) (fun p => decide (0 ≤ eli net p ∧ eli net p < 2 ^ net.length) && !hasI (eli net p) p && (List.range net.length).all fun q => !hasI (eli net p) q || hasI (eli net q) p) (by omega) (fun n x hx0 hx1 => by
    simp only [I.NetOk_run4, I.NetOk_step4]
    by_cases hx : x < (net.length : Int)
    · rw [if_pos hx, cnd_t (by simpa using hx), cnd_t (by simp; omega), I.setIn_is hl]
      simp only [optC]
      cases ha : decide (0 ≤ eli net x.toNat ∧ eli net x.toNat < 2 ^ net.length) with
      | false => rfl
      | true =>
        rw [Bool.not_true, cond_false, cnd_t (by simp; omega), I.hasPlace_is hx0]
        simp only [optC]
        cases hb : hasI (eli net x.toNat) x.toNat with
        | true => rfl
        | false =>
          rw [cond_false, I.knownBack_is hl hx0 hx]
          simp only [optC]
          cases hc : (List.range net.length).all fun q => !hasI (eli net x.toNat) q || hasI (eli net q) x.toNat with
          | false => rfl
          | true => simp only [Bool.not_true, Bool.not_false, cond_false, Bool.and_true, cond_true]; rw [i64_wrap (by omega) (by omega)]
    · rw [if_neg hx, cnd_f (by simpa using hx)])]
  simp only [hlo, hl, decide_true, Bool.true_and]
  cases (List.range net.length).all _ <;> rfl
def bitS (s : Int) (p : Nat) : Int := (s.fdiv (2 ^ min p 64)).tmod 2
theorem S.l1In_is {x a b : Int} : S.l1In_t x a b = some (decide (a ≤ x ∧ x ≤ b)) := by
  unfold S.l1In_t S.l1In_tree
  by_cases h : a ≤ x
  · rw [cnd_t (by simpa using h)]; simp [h]
  · rw [cnd_f (by simpa using h)]; simp [h]
theorem S.NetOk_is {net : List Int} : S.NetOk_t net = some (decide (1 ≤ net.length) && decide (net.length ≤ 6) &&
    ((List.range net.length).all fun p => decide (0 ≤ eli net p ∧ eli net p < 2 ^ net.length)) && (List.range net.length).all fun p =>
    (List.range net.length).all fun q => bitS (eli net p) q == bitS (eli net q) p && !(q == p && bitS (eli net p) q == 1)) := by
  unfold S.NetOk_t S.NetOk_tree
  rw [S.l1In_is]
  simp only [optC]
  rcases Nat.lt_or_ge net.length 1 with hlo | hlo
  · rw [decide_eq_false (by omega : ¬ 1 ≤ net.length), decide_eq_false (by omega : ¬ ((1 : Int) ≤ (net.length : Int) ∧ (net.length : Int) ≤ 6))]; rfl
  rcases Nat.lt_or_ge 6 net.length with hl | hl
  · rw [decide_eq_false (by omega : ¬ net.length ≤ 6), decide_eq_false (by omega : ¬ ((1 : Int) ≤ (net.length : Int) ∧ (net.length : Int) ≤ 6)), Bool.and_false]; rfl
  rw [decide_eq_true (by omega : ((1 : Int) ≤ (net.length : Int) ∧ (net.length : Int) ≤ 6)), Bool.not_true, cond_false]
  have e : IntKind.i64.wrap (IntKind.i64.wrap (1 * 2 ^ min (↑net.length : Int).toNat IntKind.i64.bits) - 1) = 2 ^ net.length - 1 := by
    rw [i64_bits, Int.toNat_natCast, Int.one_mul]
    generalize net.length = k at hl
    match k, hl with
    | 0, _ | 1, _ | 2, _ | 3, _ | 4, _ | 5, _ | 6, _ => rw [i64_wrap (n := 2 ^ min _ 64) (by decide) (by decide)]; exact i64_wrap (by decide) (by decide)
  rw [run_all (run := S.NetOk_run4 net) (len := net.length) (fun p => decide (0 ≤ eli net p ∧ eli net p < 2 ^ net.length)) (by omega) (fun n x hx0 hx1 => by
    simp only [S.NetOk_run4, S.NetOk_step4]
    by_cases hx : x < (net.length : Int)
    · rw [if_pos hx, cnd_t (by simpa using hx), cnd_t (by simp; omega), S.l1In_is, e]
      simp only [optC]
      have : decide (0 ≤ eli net x.toNat ∧ eli net x.toNat ≤ 2 ^ net.length - 1) = decide (0 ≤ eli net x.toNat ∧ eli net x.toNat < 2 ^ net.length) := decide_eq_decide.2 (by omega)
      rw [this]
      cases decide (0 ≤ eli net x.toNat ∧ eli net x.toNat < 2 ^ net.length) with
      | false => rfl
      | true => simp only [Bool.not_true, cond_false, cond_true]; rw [i64_wrap (by omega) (by omega)]
    · rw [if_neg hx, cnd_f (by simpa using hx)])]
  have inner : ∀ p : Int, 0 ≤ p → p < net.length → S.NetOk_run12 net p FUEL 0 = some (bif (List.range net.length).all (fun q => bitS (eli net p.toNat) q == bitS (eli net q) p.toNat && !(q == p.toNat && bitS (eli net p.toNat) q == 1)) then .inr () else .inl false) := by
    intro p hp0 hp1
    refine run_all (run := S.NetOk_run12 net p) (len := net.length) _ (by omega) (fun n x hx0 hx1 => ?_)
    simp only [S.NetOk_run12, S.NetOk_step12]
    by_cases hx : x < (net.length : Int)
    · rw [if_pos hx, cnd_t (by simpa using hx), cnd_t (by simp; omega), cnd_f (by simp; omega), cnd_t (by simp; omega), cnd_f (by simp; omega), i64_bits]
      show (bif !(bitS (eli net p.toNat) x.toNat == bitS (eli net x.toNat) p.toNat) then _ else _) = _
      cases ha : (bitS (eli net p.toNat) x.toNat == bitS (eli net x.toNat) p.toNat) with
      | false => rfl
      | true =>
        rw [Bool.not_true, cond_false, Bool.true_and]
        by_cases hxp : x = p
        · subst hxp
          rw [cnd_t (by simp), cnd_t (by simp; omega), cnd_f (by simp; omega), BEq.rfl, Bool.true_and]
          show (bif (bitS (eli net x.toNat) x.toNat == 1) then _ else _) = _
          cases (bitS (eli net x.toNat) x.toNat == 1) with
          | true => rfl
          | false => simp only [cond_false, Bool.not_false, cond_true]; rw [i64_wrap (by omega) (by omega)]
        · rw [cnd_f (by simpa using hxp)]
          have : (x.toNat == p.toNat) = false := by simp; omega
          rw [this, Bool.false_and, Bool.not_false, cond_true, i64_wrap (by omega) (by omega)]
    · rw [if_neg hx, cnd_f (by simpa using hx)]
  rw [run_all (run := S.NetOk_run9 net) (len := net.length) (fun p => (List.range net.length).all fun q => bitS (eli net p) q == bitS (eli net q) p && !(q == p && bitS (eli net p) q == 1)) (by omega) (fun n x hx0 hx1 => by
    simp only [S.NetOk_run9, S.NetOk_step9]
    by_cases hx : x < (net.length : Int)
    · rw [if_pos hx, cnd_t (by simpa using hx), inner x hx0 hx]
      simp only [optC]
      cases (List.range net.length).all fun q => bitS (eli net x.toNat) q == bitS (eli net q) x.toNat && !(q == x.toNat && bitS (eli net x.toNat) q == 1) with
      | false => rfl
      | true => simp only [cond_true, sumC]; rw [i64_wrap (by omega) (by omega)]
    · rw [if_neg hx, cnd_f (by simpa using hx)])]
  simp only [hlo, hl, decide_true, Bool.true_and]
  cases (List.range net.length).all fun p => decide (0 ≤ eli net p ∧ eli net p < 2 ^ net.length) with
  | false => rfl
  | true =>
    simp only [cond_true, sumC, Bool.true_and]
    cases (List.range net.length).all _ <;> rfl
theorem bitS_is {s : Int} (h : 0 ≤ s) (p : Nat) : bitS s p = if hasI s p = true then 1 else 0 := by
  unfold bitS hasI
  have h2 : (0 : Int) < 2 ^ min p 64 := Int.pow_pos (by decide)
  have h3 : 0 ≤ s.fdiv (2 ^ min p 64) := Int.fdiv_nonneg h (by omega)
  rw [Int.tmod_eq_emod_of_nonneg h3]
  by_cases h4 : s.fdiv (2 ^ min p 64) % 2 = 1
  · simp [h4]
  · have : s.fdiv (2 ^ min p 64) % 2 = 0 := by omega
    simp [this]
theorem NetOk_eq {net : List Int} : I.NetOk_t net = S.NetOk_t net := by
  rw [I.NetOk_is, S.NetOk_is]
  congr 1
  rw [Bool.eq_iff_iff]
  simp only [Bool.and_eq_true, List.all_eq_true, List.mem_range, decide_eq_true_eq, Bool.or_eq_true, Bool.not_eq_true', beq_iff_eq, Bool.and_eq_false_iff, beq_eq_false_iff_ne]
  constructor
  · rintro ⟨⟨h1, h2⟩, h3⟩
    refine ⟨⟨⟨h1, h2⟩, fun p hp => (h3 p hp).1.1⟩, fun p hp q hq => ⟨?_, ?_⟩⟩
    · rw [bitS_is (h3 p hp).1.1.1, bitS_is (h3 q hq).1.1.1]
      have a1 := (h3 p hp).2 q hq
      have a2 := (h3 q hq).2 p hp
      cases ha : hasI (eli net p) q <;> cases hb : hasI (eli net q) p <;> simp_all
    · by_cases hqp : q = p
      · subst hqp
        right
        rw [bitS_is (h3 q hq).1.1.1, (h3 q hq).1.2]
        decide
      · exact .inl hqp
  · rintro ⟨⟨⟨h1, h2⟩, h3⟩, h4⟩
    refine ⟨⟨h1, h2⟩, fun p hp => ⟨⟨h3 p hp, ?_⟩, fun q hq => ?_⟩⟩
    · have := (h4 p hp p hp).2
      rw [bitS_is (h3 p hp).1] at this
      cases ha : hasI (eli net p) p with
      | false => rfl
      | true => rw [ha] at this; simp at this
    · have := (h4 p hp q hq).1
      rw [bitS_is (h3 p hp).1, bitS_is (h3 q hq).1] at this
      cases ha : hasI (eli net p) q <;> cases hb : hasI (eli net q) p <;> simp_all
theorem NetOk_some {net : List Int} : ∃ b, S.NetOk_t net = some b ∧ I.NetOk_t net = some b := ⟨_, S.NetOk_is, by rw [NetOk_eq]; exact S.NetOk_is⟩
end Go.Proofs.Ythcidiihfjjpdaa
/- What the small functions on nets and sets come to, in natural numbers. Conditions: those of each theorem. -/
namespace Go.Proofs.Ythcidiihfjjpdaa
open D Go.RowKit
set_option linter.unusedVariables false
set_option linter.unusedSimpArgs false


theorem hasI_nat (s p : Nat) (hp : p ≤ 64) : hasI (s : Int) p = s.testBit p := by
  have h := shr_is s p hp
  unfold hasI
  rw [bits64, Int.toNat_natCast] at h
  rw [h, testBit_div, Bool.eq_iff_iff, beq_iff_eq, beq_iff_eq]
  omega
theorem two_pow_cast (n : Nat) : ((2 : Int) ^ n) = ((2 ^ n : Nat) : Int) := by simp
theorem Ok.of {net : List Int} (h1 : 1 ≤ net.length) (h2 : net.length ≤ 6) (h3 : ∀ p, p < net.length → (0 ≤ eli net p ∧ eli net p < 2 ^ net.length) ∧ hasI (eli net p) p = false ∧ ∀ q, q < net.length → hasI (eli net p) q = true → hasI (eli net q) p = true) : Ok net := by
  have hel : ∀ k, k < net.length → eli net k = (nb net k : Int) := fun k hk => by
    have := (h3 k hk).1.1
    show _ = ((eli net k).toNat : Int)
    omega
  refine ⟨h1, h2, hel, fun k hk => ?_, fun j k hj hk => ?_, fun k hk => ?_⟩
  · have := (h3 k hk).1.2
    rw [hel k hk, two_pow_cast] at this
    omega
  · have a1 := (h3 k hk).2.2 j hj
    have a2 := (h3 j hj).2.2 k hk
    rw [hel k hk, hel j hj, hasI_nat _ _ (by omega), hasI_nat _ _ (by omega)] at a1 a2
    cases hx : (nb net k).testBit j with
    | true => exact (a1 hx).symm
    | false => cases hy : (nb net j).testBit k with
      | false => rfl
      | true => rw [a2 hy] at hx; cases hx
  · have := (h3 k hk).2.1
    rw [hel k hk, hasI_nat _ _ (by omega)] at this
    exact this
theorem NetOk_cases (net : List Int) : (Ok net ∧ I.NetOk_t net = some true ∧ S.NetOk_t net = some true) ∨ (¬ Ok net ∧ I.NetOk_t net = some false ∧ S.NetOk_t net = some false) := by
  rw [← NetOk_eq, I.NetOk_is]
  generalize hb : (decide (1 ≤ net.length) && decide (net.length ≤ 6) && (List.range net.length).all fun p => decide (0 ≤ eli net p ∧ eli net p < 2 ^ net.length) && !hasI (eli net p) p && (List.range net.length).all fun q => !hasI (eli net p) q || hasI (eli net q) p) = b
  cases b with
  | true =>
    left
    simp only [Bool.and_eq_true, List.all_eq_true, List.mem_range, decide_eq_true_eq, Bool.or_eq_true, Bool.not_eq_true'] at hb
    refine ⟨Ok.of hb.1.1 hb.1.2 fun p hp => ⟨(hb.2 p hp).1.1, (hb.2 p hp).1.2, fun q hq hx => ?_⟩, rfl, rfl⟩
    rcases (hb.2 p hp).2 q hq with h | h
    · rw [h] at hx; cases hx
    · exact h
  | false =>
    right
    refine ⟨fun h => ?_, rfl, rfl⟩
    have : (decide (1 ≤ net.length) && decide (net.length ≤ 6) && (List.range net.length).all fun p => decide (0 ≤ eli net p ∧ eli net p < 2 ^ net.length) && !hasI (eli net p) p && (List.range net.length).all fun q => !hasI (eli net p) q || hasI (eli net q) p) = true := by
      simp only [Bool.and_eq_true, List.all_eq_true, List.mem_range, decide_eq_true_eq, Bool.or_eq_true, Bool.not_eq_true']
      have hhi := h.hi
      refine ⟨⟨h.lo, h.hi⟩, fun p hp => ⟨⟨?_, ?_⟩, fun q hq => ?_⟩⟩
      · rw [show eli net p = (nb net p : Int) from h.el p hp, two_pow_cast]
        have := h.lt p hp
        omega
      · rw [show eli net p = (nb net p : Int) from h.el p hp, hasI_nat _ _ (by omega)]; exact h.irr p hp
      · rw [show eli net p = (nb net p : Int) from h.el p hp, show eli net q = (nb net q : Int) from h.el q hq, hasI_nat _ _ (by omega), hasI_nat _ _ (by omega), h.sym q p hq hp]
        cases (nb net q).testBit p <;> simp
    rw [hb] at this; cases this
theorem Ok.eli {net : List Int} (h : Ok net) {k : Nat} (hk : k < net.length) : D.eli net k = (nb net k : Int) := h.el k hk

/-! ### The program's small functions -/
theorem I.hasPlace_n (s p : Nat) (hp : p ≤ 64) : I.hasPlace_t s p = some (s.testBit p) := by
  rw [I.hasPlace_is (by omega), Int.toNat_natCast, hasI_nat s p hp]
theorem I.setIn_n {net : List Int} (h : Ok net) (s : Int) : I.setIn_t net s = some (decide (0 ≤ s ∧ s < 2 ^ net.length)) := I.setIn_is h.hi
theorem I.allOf_n {net : List Int} (h : Ok net) : I.allOf_t net = some ((allOf net : Nat) : Int) := by
  unfold I.allOf_t I.allOf_tree
  have h2 := h.pow
  have h3 : 0 < 2 ^ net.length := Nat.two_pow_pos _
  rw [one_shl (by have := h.hi; omega), sub1_nat (by omega) (by omega)]
  rfl
theorem I.ballIn_n {net : List Int} (h : Ok net) {p : Nat} (hp : p < net.length) : I.ballIn_t net p = some ((ball net p : Nat) : Int) := by
  unfold I.ballIn_t I.ballIn_tree
  have h6 := h.hi
  have h64 := h.lt64 hp
  rw [cnd_t (by simp; omega), cnd_f (by simp), one_shl (by omega), Int.toNat_natCast, h.eli hp, i64_or_nat _ _ (by omega) (pow2_lt (by omega))]
  rfl
theorem fold_balls {net : List Int} (h : Ok net) {s : Nat} (hs : s < 2 ^ net.length) : fold net.length (fun t k => if s.testBit k = true then t ||| ball net k else t) 0 = seen net s := h.seen_balls hs
theorem I.seenIn_n {net : List Int} (h : Ok net) {s : Nat} (hs : s < 2 ^ net.length) : I.seenIn_t net s = some ((seen net s : Nat) : Int) := by
  unfold I.seenIn_t I.seenIn_tree
  have h6 := h.hi
  have h64 := h.pow
  have := (run_for (run := I.seenIn_run3 net s) (len := net.length) (fun k (t : Nat) => ((t : Int), (k : Int))) (fun t k => if s.testBit k = true then t ||| ball net k else t) (fun t => (t : Int)) (fun k t => t < 2 ^ net.length) (by omega) (fun n k t hk ht => ?_) (fun n t ht => ?_) (t0 := 0) (Nat.two_pow_pos _)).1
  · rw [fold_balls h hs] at this
    exact congrArg (fun o => optC o (fun q => some q) none) this
  · simp only [I.seenIn_run3, I.seenIn_step3]
    rw [cnd_t (by simp; omega), I.hasPlace_n _ _ (by omega)]
    simp only [optC]
    have hb := h.ball_lt hk
    cases hbit : s.testBit k with
    | true =>
      rw [cond_true, I.ballIn_n h hk, if_pos rfl]
      simp only
      rw [i64_or_nat _ _ (by omega) (by omega), add1_nat (by omega)]
      exact ⟨rfl, Nat.or_lt_two_pow ht hb⟩
    | false =>
      rw [cond_false, if_neg (by simp), add1_nat (by omega)]
      exact ⟨rfl, ht⟩
  · simp only [I.seenIn_run3, I.seenIn_step3]
    rw [cnd_f (by simp)]
theorem I.watchIn_n {net : List Int} (h : Ok net) {s : Nat} (hs : s < 2 ^ net.length) : I.watchIn_t net s = some (W net s) := by
  unfold I.watchIn_t I.watchIn_tree
  rw [I.seenIn_n h hs, I.allOf_n h]
  simp only [optC]
  rw [nat_beq]
  rfl
theorem size_fold (s : Nat) : fold 6 (fun t k => t + (s.testBit k).toNat) 0 = size s := by
  unfold size card
  congr 1
  funext t k
  cases s.testBit k <;> simp
theorem I.sizeOf_n (s : Nat) : I.sizeOf_t s = some ((size s : Nat) : Int) := by
  unfold I.sizeOf_t I.sizeOf_tree
  have := (run_for (run := I.sizeOf_run3 s) (len := 6) (fun k (t : Nat) => ((t : Int), (k : Int))) (fun t k => t + (s.testBit k).toNat) (fun t => (t : Int)) (fun k t => t ≤ k) (by omega) (fun n k t hk ht => ?_) (fun n t ht => ?_) (t0 := 0) (Nat.le_refl _)).1
  · rw [size_fold] at this
    exact congrArg (fun o => optC o (fun q => some q) none) this
  · simp only [I.sizeOf_run3, I.sizeOf_step3]
    have hb : (s.testBit k).toNat ≤ 1 := by cases s.testBit k <;> decide
    rw [cnd_t (by simp; omega), cnd_f (by simp), bit_shr1 _ _ (by omega), add_nat (by omega), add1_nat (by omega)]
    exact ⟨rfl, by omega⟩
  · simp only [I.sizeOf_run3, I.sizeOf_step3]
    rw [cnd_f (by simp)]
/-! ### The model's small functions -/
theorem S.l1Near_n {net : List Int} (h : Ok net) (s : Nat) : S.l1Near_t net s = some ((near net s : Nat) : Int) := by
  unfold S.l1Near_t S.l1Near_tree
  have h6 := h.hi
  have h64 := h.pow
  have := (run_for (run := S.l1Near_run3 net s) (len := net.length) (fun k (t : Nat) => ((t : Int), (k : Int))) (fun t k => if s.testBit k = true then t ||| nb net k else t) (fun t => (t : Int)) (fun k t => t < 2 ^ net.length) (by omega) (fun n k t hk ht => ?_) (fun n t ht => ?_) (t0 := 0) (Nat.two_pow_pos _)).1
  · exact congrArg (fun o => optC o (fun q => some q) none) this
  · simp only [S.l1Near_run3, S.l1Near_step3]
    have hb := h.lt k hk
    rw [cnd_t (by simp; omega), cnd_f (by simp), bit_shr _ _ (by omega), bool_eq1]
    cases hbit : s.testBit k with
    | true =>
      rw [cond_true, cnd_t (by simp; omega), Int.toNat_natCast, h.eli hk, if_pos rfl]
      rw [i64_or_nat _ _ (by omega) (by omega), add1_nat (by omega)]
      exact ⟨rfl, Nat.or_lt_two_pow ht hb⟩
    | false =>
      rw [cond_false, if_neg (by simp), add1_nat (by omega)]
      exact ⟨rfl, ht⟩
  · simp only [S.l1Near_run3, S.l1Near_step3]
    rw [cnd_f (by simp)]
theorem all_shl {net : List Int} (h : Ok net) : IntKind.i64.wrap (IntKind.i64.wrap (1 * 2 ^ min (↑net.length : Int).toNat IntKind.i64.bits) - 1) = ((allOf net : Nat) : Int) := by
  have h2 := h.pow
  have h3 : 0 < 2 ^ net.length := Nat.two_pow_pos _
  rw [one_shl (by have := h.hi; omega), sub1_nat (by omega) (by omega)]
  rfl
theorem S.l2Watch_n {net : List Int} (h : Ok net) {s : Nat} (hs : s < 2 ^ net.length) : S.l2Watch_t net s = some (W net s) := by
  unfold S.l2Watch_t S.l2Watch_tree
  rw [S.l1Near_n h]
  simp only [optC]
  have h1 := h.near_lt s
  have h64 := h.pow
  rw [all_shl h, i64_or_nat _ _ (by omega) (by omega), nat_beq]
  rfl
theorem l1Size_spec : ∀ s, s < 64 → size s = s % 2 + size (s / 2) := by decide +kernel
theorem S.l1Size_n {s : Nat} (hs : s < 64) : S.l1Size_t s = some ((size s : Nat) : Int) := by
  unfold S.l1Size_t S.l1Size_tree
  have : S.l1Size_run2 FUEL ((s : Int), 0) = some ((size s : Nat) : Int) := by
    refine run_fuel (run := S.l1Size_run2) (fun q => ∃ a t : Nat, q = ((a : Int), (t : Int)) ∧ a < 64 ∧ t + size a = size s) (fun q => q.1.toNat) (fun _ => ((size s : Nat) : Int)) ?_ ⟨s, 0, rfl, hs, by omega⟩ (by simp only [Int.toNat_natCast]; omega)
    rintro n _ ⟨a, t, rfl, ha, ht⟩
    have hz := size_le s
    simp only [S.l1Size_run2, S.l1Size_step2]
    by_cases h0 : a = 0
    · subst h0
      left
      rw [cnd_f (by simp)]
      have : size 0 = 0 := by decide
      rw [← ht, this]; rfl
    · right
      have h1 := l1Size_spec a ha
      rw [cnd_t (by simp; omega), div2_nat (by omega), tmod2_nat, add_nat (by omega)]
      exact ⟨_, rfl, ⟨_, _, rfl, by omega, by omega⟩, by simp only [Int.toNat_natCast]; omega, trivial⟩
  rw [this]; rfl
theorem set_cases {net : List Int} (h : Ok net) (s : Int) : (∃ t : Nat, s = (t : Int) ∧ t < 2 ^ net.length ∧ decide (0 ≤ s ∧ s < 2 ^ net.length) = true) ∨ decide (0 ≤ s ∧ s < 2 ^ net.length) = false := by
  by_cases hs : 0 ≤ s ∧ s < 2 ^ net.length
  · left
    refine ⟨s.toNat, by omega, ?_, by simpa using hs⟩
    have := hs.2
    rw [two_pow_cast] at this
    omega
  · right; simpa using hs
theorem place_cases (net : List Int) (p : Int) : (∃ t : Nat, p = (t : Int) ∧ t < net.length ∧ decide (0 ≤ p ∧ p < net.length) = true) ∨ decide (0 ≤ p ∧ p < net.length) = false := by
  by_cases hs : 0 ≤ p ∧ p < net.length
  · exact .inl ⟨p.toNat, by omega, by omega, by simpa using hs⟩
  · right; simpa using hs
end Go.Proofs.Ythcidiihfjjpdaa
/- What the functions on watches come to. Conditions: those of each theorem. -/
namespace Go.Proofs.Ythcidiihfjjpdaa
open D Go.RowKit
set_option linter.unusedVariables false
set_option linter.unusedSimpArgs false


theorem allOf_succ (net : List Int) : allOf net + 1 = 2 ^ net.length := by
  have : 0 < 2 ^ net.length := Nat.two_pow_pos _
  unfold allOf; omega
/-- The least of all, or what one began with. -/
theorem minFold {N : Nat} {p : Nat → Bool} {f : Nat → Nat} (t0 : Nat) :
    (∀ s, s < N → p s = true → fold N (fun t s => if p s = true then (if f s < t then f s else t) else t) t0 ≤ f s) ∧ fold N (fun t s => if p s = true then (if f s < t then f s else t) else t) t0 ≤ t0 ∧
    (fold N (fun t s => if p s = true then (if f s < t then f s else t) else t) t0 = t0 ∨ ∃ s, s < N ∧ p s = true ∧ f s = fold N (fun t s => if p s = true then (if f s < t then f s else t) else t) t0) := by
  induction N with
  | zero => exact ⟨fun s hs => by omega, Nat.le_refl _, .inl rfl⟩
  | succ N ih =>
    rw [fold_succ]
    generalize fold N _ t0 = g at ih ⊢
    obtain ⟨h1, h2, h3⟩ := ih
    cases hp : p N with
    | false =>
      simp only [Bool.false_eq_true, if_false]
      refine ⟨fun s hs hps => ?_, h2, ?_⟩
      · by_cases he : s = N
        · subst he; rw [hp] at hps; cases hps
        · exact h1 s (by omega) hps
      · rcases h3 with h3 | ⟨s, a, b⟩
        · exact .inl h3
        · exact .inr ⟨s, by omega, b⟩
    | true =>
      simp only [if_true]
      refine ⟨fun s hs hps => ?_, by split <;> omega, ?_⟩
      · by_cases he : s = N
        · subst he; split <;> omega
        · have := h1 s (by omega) hps
          split <;> omega
      · split
        · exact .inr ⟨N, by omega, hp, rfl⟩
        · rcases h3 with h3 | ⟨s, a, b⟩
          · exact .inl h3
          · exact .inr ⟨s, by omega, b⟩
theorem size_all {net : List Int} (h : Ok net) : size (allOf net) = net.length := by
  rw [size_cnt h (allOf_lt net), cnt_congr (q := fun _ => true) (fun k hk => by rw [allOf_testBit]; simpa using hk), cnt_true]
theorem size_le_len {net : List Int} (h : Ok net) {s : Nat} (hs : s < 2 ^ net.length) : size s ≤ net.length := by
  rw [size_cnt h hs]; exact cnt_le _ _
theorem size_lt_len {net : List Int} (h : Ok net) {s : Nat} (hs : s < allOf net) : size s < net.length := by
  have hs' : s < 2 ^ net.length := Nat.lt_trans hs (allOf_lt net)
  have : ∃ k, k < net.length ∧ s.testBit k = false := by
    refine Classical.byContradiction fun hc => ?_
    have : s = allOf net := eq_of_bits hs' (allOf_lt net) fun j hj => by
      rw [allOf_testBit]
      cases hb : s.testBit j with
      | true => simpa using hj
      | false => exact absurd ⟨j, hj, hb⟩ hc
    omega
  obtain ⟨k, hk, hb⟩ := this
  rw [size_cnt h hs']
  exact cnt_lt_of hk hb
/-- The fewest guards that watch. -/
def fewest (net : List Int) : Nat := fold (2 ^ net.length) (fun t s => if W net s = true then (if size s < t then size s else t) else t) net.length
theorem fewest_few {net : List Int} (h : Ok net) : Few net (fewest net) := by
  obtain ⟨h1, h2, h3⟩ := minFold (N := 2 ^ net.length) (p := W net) (f := size) net.length
  refine ⟨?_, h1⟩
  rcases h3 with h3 | h3
  · exact ⟨allOf net, allOf_lt net, W_all h, by rw [size_all h]; exact h3.symm⟩
  · exact h3
/-- The first of the smallest watches. -/
structure First (net : List Int) (r : Nat) : Prop where
  lt : r < 2 ^ net.length
  w : W net r = true
  le : ∀ s, s < 2 ^ net.length → W net s = true → size r ≤ size s
  first : ∀ s, s < r → W net s = true → size r < size s
theorem First.few {net : List Int} {r : Nat} (h : First net r) : Few net (size r) := ⟨⟨r, h.lt, h.w, rfl⟩, h.le⟩
theorem First.uniq {net : List Int} {r q : Nat} (h : First net r) (g : First net q) : r = q := by
  have h1 := h.few.uniq g.few
  rcases Nat.lt_trichotomy r q with hl | hl | hl
  · have := g.first r hl h.w; omega
  · exact hl
  · have := h.first q hl g.w; omega
theorem small_first {net : List Int} (h : Ok net) : First net (fold (allOf net) (fun t s => if (decide (size s < size t) && W net s) = true then s else t) (allOf net)) := by
  have key : ∀ k, k ≤ allOf net → ∀ t, t = fold k (fun t s => if (decide (size s < size t) && W net s) = true then s else t) (allOf net) →
      t < 2 ^ net.length ∧ W net t = true ∧ (∀ s, s < k → W net s = true → size t ≤ size s) ∧ (t = allOf net ∨ t < k) ∧ ∀ s, s < t → s < k → W net s = true → size t < size s := by
    intro k
    induction k with
    | zero => rintro _ t rfl; exact ⟨allOf_lt net, W_all h, fun s hs => by omega, .inl rfl, fun s _ hs => by omega⟩
    | succ k ih =>
      rintro hk t rfl
      rw [fold_succ]
      obtain ⟨h1, h2, h3, h4, h5⟩ := ih (by omega) _ rfl
      generalize fold k _ (allOf net) = g at h1 h2 h3 h4 h5 ⊢
      cases hc : (decide (size k < size g) && W net k) with
      | true =>
        simp only [if_true]
        rw [Bool.and_eq_true, decide_eq_true_eq] at hc
        refine ⟨by have := allOf_lt net; omega, hc.2, fun s hs hw => ?_, .inr (by omega), fun s hs _ hw => ?_⟩
        · by_cases he : s = k
          · subst he; exact Nat.le_refl _
          · have := h3 s (by omega) hw; omega
        · have := h3 s (by omega) hw; omega
      | false =>
        simp only [Bool.false_eq_true, if_false]
        have hno : W net k = true → size g ≤ size k := fun hw => by
          rw [hw, Bool.and_true] at hc
          simpa using hc
        refine ⟨h1, h2, fun s hs hw => ?_, by omega, fun s hs hs2 hw => ?_⟩
        · by_cases he : s = k
          · subst he; exact hno hw
          · exact h3 s (by omega) hw
        · by_cases he : s = k
          · subst he
            have hg : g = allOf net := by omega
            have := hno hw
            have := size_lt_len h (s := s) (by omega)
            rw [hg, size_all h] at *
            omega
          · exact h5 s hs (by omega) hw
  obtain ⟨h1, h2, h3, h4, h5⟩ := key (allOf net) (Nat.le_refl _) _ rfl
  generalize fold (allOf net) _ (allOf net) = g at h1 h2 h3 h4 h5 ⊢
  have hs := allOf_succ net
  refine ⟨h1, h2, fun s hs2 hw => ?_, fun s hs2 hw => h5 s hs2 (by omega) hw⟩
  by_cases he : s = allOf net
  · subst he; rw [size_all h]; exact size_le_len h h1
  · exact h3 s (by omega) hw
def smallest (net : List Int) : Nat := fold (allOf net) (fun t s => if (decide (size s < size t) && W net s) = true then s else t) (allOf net)
theorem size_smallest {net : List Int} (h : Ok net) : size (smallest net) = fewest net := (small_first h).few.uniq (fewest_few h)

theorem I.smallWatchIn_n {net : List Int} (h : Ok net) : I.smallWatchIn_t net = some ((smallest net : Nat) : Int) := by
  unfold I.smallWatchIn_t I.smallWatchIn_tree
  have h64 := h.pow
  have hsu := allOf_succ net
  rw [I.allOf_n h]
  have := (run_for (run := I.smallWatchIn_run3 net) (len := allOf net) (fun k (t : Nat) => ((t : Int), (k : Int))) (fun t s => if (decide (size s < size t) && W net s) = true then s else t) (fun t => (t : Int)) (fun k t => t < 2 ^ net.length) (by omega) (fun n k t hk ht => ?_) (fun n t ht => ?_) (t0 := allOf net) (by omega)).1
  · exact congrArg (fun o => optC o (fun q => some q) none) this
  · simp only [I.smallWatchIn_run3, I.smallWatchIn_step3]
    rw [I.allOf_n h]
    simp only [optC]
    rw [cnd_t (by simp; omega), I.sizeOf_n, I.sizeOf_n]
    simp only
    by_cases hc : size k < size t
    · rw [cnd_t (by simp; omega), I.watchIn_n h (by omega)]
      simp only [hc, decide_true, Bool.true_and]
      cases hw : W net k with
      | true => simp only [cond_true, if_true]; rw [add1_nat (by omega)]; exact ⟨rfl, by omega⟩
      | false => simp only [cond_false, Bool.false_eq_true, if_false]; rw [add1_nat (by omega)]; exact ⟨rfl, ht⟩
    · rw [cnd_f (by simp; omega)]
      simp only [hc, decide_false, Bool.false_and, Bool.false_eq_true, if_false]
      rw [add1_nat (by omega)]; exact ⟨rfl, ht⟩
  · simp only [I.smallWatchIn_run3, I.smallWatchIn_step3]
    rw [I.allOf_n h]
    simp only [optC]
    rw [cnd_f (by simp)]
theorem pow_shl {net : List Int} (h : Ok net) : IntKind.i64.wrap (1 * 2 ^ min (↑net.length : Int).toNat IntKind.i64.bits) = ((2 ^ net.length : Nat) : Int) := one_shl (by have := h.hi; omega)
theorem S.FewestWatch_y {net : List Int} (h : Ok net) (e : S.NetOk_t net = some true) : S.FewestWatch_t net = some ((fewest net : Nat) : Int) := by
  unfold S.FewestWatch_t S.FewestWatch_tree
  have h64 := h.pow
  have hn := h.hi
  rw [e]
  have := (run_for (run := S.FewestWatch_run5 net) (len := 2 ^ net.length) (fun k (t : Nat) => ((t : Int), (k : Int))) (fun t s => if W net s = true then (if size s < t then size s else t) else t) (fun t => (t : Int)) (fun k t => t ≤ 6) (by omega) (fun n k t hk ht => ?_) (fun n t ht => ?_) (t0 := net.length) (by omega)).1
  · exact congrArg (fun o => optC o (fun q => some q) none) this
  · simp only [S.FewestWatch_run5, S.FewestWatch_step5]
    rw [pow_shl h, cnd_t (by rw [decide_eq_true_eq]; omega), S.l2Watch_n h hk]
    simp only [optC]
    have hz := size_le k
    cases hw : W net k with
    | true =>
      rw [cond_true, S.l1Size_n (by omega)]
      simp only [if_true]
      rw [add1_nat (by omega)]
      by_cases hc : size k < t
      · rw [if_pos (by omega), if_pos hc]; exact ⟨rfl, by omega⟩
      · rw [if_neg (by omega), if_neg hc]; exact ⟨rfl, by omega⟩
    | false => simp only [cond_false, Bool.false_eq_true, if_false]; rw [add1_nat (by omega)]; exact ⟨rfl, ht⟩
  · simp only [S.FewestWatch_run5, S.FewestWatch_step5]
    rw [pow_shl h, cnd_f (by rw [decide_eq_false_iff_not]; omega)]
theorem I.FewestWatch_y {net : List Int} (h : Ok net) (e : I.NetOk_t net = some true) : I.FewestWatch_t net = some ((fewest net : Nat) : Int) := by
  unfold I.FewestWatch_t I.FewestWatch_tree
  rw [e, I.smallWatchIn_n h]
  simp only [optC, Bool.not_true, cond_false]
  rw [I.sizeOf_n, size_smallest h]
theorem first_find {net : List Int} (h : Ok net) {N : Nat} {p : Nat → Bool} {r : Nat} (hr : r < N) (hp : p r = true) (hf : ∀ s, s < r → p s = false) : find N (fun s => if p s = true then some ((s : Nat) : Int) else none) = some (r : Int) := by
  refine find_some_of hr (find_none.2 fun j hj => by rw [hf j hj]; rfl) (by rw [hp]; rfl)
/-- A search that counts up. -/
theorem run_search {D F : Type} {run : Nat → Int → Option (D ⊕ F)} {len : Nat} (f : Nat → Option D) (e : F) (hl : len ≤ 1000000)
    (h : ∀ n k, k < len → run (n + 1) (k : Int) = (match f k with | some d => some (.inl d) | none => run n ((k + 1 : Nat) : Int))) (he : ∀ n, run (n + 1) (len : Int) = some (.inr e)) :
    run FUEL 0 = some (match find len f with | some d => .inl d | none => .inr e) := by
  refine run_find (run := run) (len := len) f e (by omega) (fun n x h0 h1 => ?_)
  obtain ⟨k, rfl⟩ : ∃ k : Nat, x = k := ⟨x.toNat, by omega⟩
  by_cases hk : k < len
  · rw [if_pos (by omega), h n k hk, Int.toNat_natCast]
    rfl
  · obtain rfl : k = len := by omega
    rw [if_neg (by omega), he]
/-! ### Least watches -/
theorem find_least {net : List Int} {s : Nat} : find net.length (fun k => if (s.testBit k && W net (s - 2 ^ k)) = true then some false else none) = if ((List.range net.length).all fun k => !(s.testBit k && W net (s - 2 ^ k))) = true then none else some false := by
  cases hall : (List.range net.length).all fun k => !(s.testBit k && W net (s - 2 ^ k)) with
  | true =>
    rw [if_pos rfl, find_none]
    intro j hj
    rw [List.all_eq_true] at hall
    have := hall j (List.mem_range.2 hj)
    rw [Bool.not_eq_true'] at this
    rw [this]; rfl
  | false =>
    rw [if_neg (by simp)]
    rw [List.all_eq_false] at hall
    obtain ⟨k, hk, hb⟩ := hall
    rw [Bool.not_eq_true', Bool.not_eq_false] at hb
    cases hf : find net.length (fun k => if (s.testBit k && W net (s - 2 ^ k)) = true then some false else none) with
    | none =>
      have := find_none.1 hf k (List.mem_range.1 hk)
      rw [hb] at this; cases this
    | some b =>
      obtain ⟨j, hj, he⟩ := find_some_ex hf
      split at he
      · cases he; rfl
      · cases he
end Go.Proofs.Ythcidiihfjjpdaa
/- What the functions of chapter 1 come to. Conditions: those of each theorem. -/
namespace Go.Proofs.Ythcidiihfjjpdaa
open D Go.RowKit
set_option linter.unusedVariables false
set_option linter.unusedSimpArgs false


theorem l1In_place {net : List Int} (h : Ok net) (p : Int) : decide (0 ≤ p ∧ p ≤ IntKind.i64.wrap ((↑net.length : Int) - 1)) = decide (0 ≤ p ∧ p < net.length) := by
  have h1 := h.lo
  have h6 := h.hi
  rw [i64_wrap (by omega) (by omega), decide_eq_decide]
  omega
theorem set_in {net : List Int} {s : Nat} (hs : s < 2 ^ net.length) : decide (0 ≤ (s : Int) ∧ (s : Int) < 2 ^ net.length) = true := by
  rw [two_pow_cast, decide_eq_true_eq]; omega
/-! ### Wires -/
def ends (net : List Int) : Nat := sumN net.length (fun k => size (nb net k))
def wires (net : List Int) : Nat := ends net / 2
theorem I.WiresOf_x {net : List Int} (e : I.NetOk_t net = some false) : I.WiresOf_t net = some (-1) := by
  unfold I.WiresOf_t I.WiresOf_tree; rw [e]; rfl
theorem I.WiresOf_n {net : List Int} (h : Ok net) (e : I.NetOk_t net = some true) : I.WiresOf_t net = some ((wires net : Nat) : Int) := by
  unfold I.WiresOf_t I.WiresOf_tree
  have h6 := h.hi
  rw [e]
  have := run_for (run := I.WiresOf_run5 net) (len := net.length) (fun k (t : Nat) => ((t : Int), (k : Int))) (fun t k => t + size (nb net k)) (fun t => (t : Int)) (fun k t => t ≤ 6 * k) (by omega) (fun n k t hk ht => ?_) (fun n t ht => ?_) (t0 := 0) (by omega)
  · obtain ⟨this, hb⟩ := this
    simp only [optC, Bool.not_true, cond_false]
    rw [show I.WiresOf_run5 net FUEL (0, 0) = _ from this]
    simp only
    rw [fold_sum] at hb
    rw [fold_sum, div2_nat (by omega)]
    rfl
  · simp only [I.WiresOf_run5, I.WiresOf_step5]
    have hz := size_le (nb net k)
    rw [cnd_t (by simp; omega), cnd_t (by simp; omega), Int.toNat_natCast, h.eli hk, I.sizeOf_n]
    simp only [optC]
    rw [add_nat (by omega), add1_nat (by omega)]
    exact ⟨rfl, by omega⟩
  · simp only [I.WiresOf_run5, I.WiresOf_step5]
    rw [cnd_f (by simp)]
/-! ### Parts -/
theorem fold_steps {net : List Int} (h : Ok net) (m s : Nat) : fold m (fun t _ => seen net t) s = steps net (allOf net) m s := by
  induction m with
  | zero => rfl
  | succ m ih => rw [fold_succ, ih]; show seen net _ = grow net _ _; rw [h.grow_all]
theorem steps_part {net : List Int} (h : Ok net) {A i m : Nat} (hi : i < net.length) (hf : grow net A (steps net A m (2 ^ i &&& A)) = steps net A m (2 ^ i &&& A)) : steps net A m (2 ^ i &&& A) = part net A i := by
  by_cases hm : m ≤ 6
  · exact (steps_fix hf 6 hm).symm
  · exact steps_fix (h.part_fix hi) m (by omega)
theorem place_in {net : List Int} {p : Nat} (hp : p < net.length) : decide (0 ≤ (p : Int) ∧ (p : Int) < net.length) = true := by simp; omega
theorem root_reached {net : List Int} (h : Ok net) {k : Nat} (hk : k < net.length) : root net k = true ↔ ∀ i, i < k → (comp net i).testBit k = false := by
  rw [root_iff]
  constructor
  · intro ha i hi; rw [h.comp_symm (by omega) hk]; exact ha i hi
  · intro ha i hi; rw [h.comp_symm hk (by omega)]; exact ha i hi
/-! ### Lone places -/
def lone (net : List Int) : Nat := orN net.length (fun k => nb net k == 0) (fun k => 2 ^ k)
theorem lone_lt (net : List Int) : lone net < 2 ^ net.length := orN_lt fun k hk _ => Nat.pow_lt_pow_right (by omega) hk
theorem lone_testBit (net : List Int) (j : Nat) : (lone net).testBit j = true ↔ j < net.length ∧ nb net j = 0 := by
  unfold lone
  rw [orN_testBit]
  constructor
  · rintro ⟨k, hk, a, b⟩
    rw [testBit_pow, decide_eq_true_eq] at b
    subst b
    exact ⟨hk, by simpa using a⟩
  · rintro ⟨a, b⟩
    exact ⟨j, a, by simpa using b, by rw [testBit_pow]; simp⟩
theorem I.LoneOf_x {net : List Int} (e : I.NetOk_t net = some false) : I.LoneOf_t net = some (-1) := by
  unfold I.LoneOf_t I.LoneOf_tree; rw [e]; rfl
theorem I.LoneOf_n {net : List Int} (h : Ok net) (e : I.NetOk_t net = some true) : I.LoneOf_t net = some ((lone net : Nat) : Int) := by
  unfold I.LoneOf_t I.LoneOf_tree
  have h6 := h.hi
  have h64 := h.pow
  rw [e]
  have := (run_for (run := I.LoneOf_run5 net) (len := net.length) (fun k (t : Nat) => ((t : Int), (k : Int))) (fun t k => if (nb net k == 0) = true then t ||| 2 ^ k else t) (fun t => (t : Int)) (fun k t => t < 2 ^ net.length) (by omega) (fun n k t hk ht => ?_) (fun n t ht => ?_) (t0 := 0) (Nat.two_pow_pos _)).1
  · exact congrArg (fun o => optC o (fun q => some q) none) this
  · simp only [I.LoneOf_run5, I.LoneOf_step5]
    rw [cnd_t (by simp; omega), cnd_t (by simp; omega), Int.toNat_natCast, h.eli hk, show ((nb net k : Int) == 0) = (nb net k == 0) from nat_beq _ 0]
    have hpk : 2 ^ k < 2 ^ net.length := Nat.pow_lt_pow_right (by omega) hk
    cases nb net k == 0 with
    | true => rw [cond_true, cnd_f (by simp), show (2 : Int) ^ min k IntKind.i64.bits = 2 ^ min (k : Int).toNat IntKind.i64.bits by rw [Int.toNat_natCast], one_shl (by omega), i64_or_nat _ _ (by omega) (by omega), add1_nat (by omega), if_pos rfl]; exact ⟨rfl, Nat.or_lt_two_pow ht hpk⟩
    | false => rw [cond_false, add1_nat (by omega), if_neg (by simp)]; exact ⟨rfl, ht⟩
  · simp only [I.LoneOf_run5, I.LoneOf_step5]
    rw [cnd_f (by simp)]
end Go.Proofs.Ythcidiihfjjpdaa
/- Wires and parts: plain facts. Conditions: those of each theorem. -/
namespace Go.Proofs.Ythcidiihfjjpdaa
set_option linter.unusedVariables false
set_option linter.unusedSimpArgs false

theorem nb_size {net : List Int} (h : Ok net) {k : Nat} (hk : k < net.length) : size (nb net k) = sumN net.length (fun j => ((nb net k).testBit j).toNat) := size_cnt h (h.lt k hk)
theorem ends_is {net : List Int} (h : Ok net) : ends net = sumN net.length (fun k => sumN net.length (fun j => ((nb net k).testBit j).toNat)) := sumN_congr fun k hk => nb_size h hk
/-- Each wire has two ends. -/
theorem ends_wires {net : List Int} (h : Ok net) : ends net = 2 * wires net := by
  unfold wires
  have := sumN_sym (n := net.length) (a := fun k j => ((nb net k).testBit j).toNat) (fun k j hk hj => by rw [h.sym j k hj hk])
  rw [ends_is h, this, sumN_congr (f := fun k => ((nb net k).testBit k).toNat) (g := fun _ => 0) (fun k hk => by rw [h.irr k hk]; rfl), sumN_zero]
  omega
theorem ball_size {net : List Int} (h : Ok net) {k : Nat} (hk : k < net.length) : size (ball net k) = size (nb net k) + 1 := bits_or _ (h.lt64 hk) k (by have := h.hi; omega) (h.irr k hk)
theorem balls_sum {net : List Int} (h : Ok net) : sumN net.length (fun k => size (ball net k)) = 2 * wires net + net.length := by
  rw [sumN_congr (g := fun k => size (nb net k) + 1) (fun k hk => ball_size h hk), sumN_add, sumN_const, ← ends_wires h]
  unfold ends; omega
theorem cnt_below (N m : Nat) (hm : m ≤ N) : cnt N (fun i => decide (i < m)) = m := by
  induction N with
  | zero => obtain rfl : m = 0 := by omega
            rfl
  | succ N ih =>
    show cnt N (fun i => decide (i < m)) + (decide (N < m)).toNat = m
    by_cases hmN : m ≤ N
    · rw [ih hmN]; simp; omega
    · obtain rfl : m = N + 1 := by omega
      rw [cnt_congr (q := fun _ => true) (fun k hk => by simp; omega), cnt_true]; simp
/-- After m steps from the least places of the parts. -/
def lvl (net : List Int) (m k : Nat) : Bool := (List.range net.length).any fun r => root net r && (steps net (allOf net) m (2 ^ r)).testBit k
theorem lvl_iff {net : List Int} {m k : Nat} : lvl net m k = true ↔ ∃ r, r < net.length ∧ root net r = true ∧ (steps net (allOf net) m (2 ^ r)).testBit k = true := by
  unfold lvl
  simp only [List.any_eq_true, List.mem_range, Bool.and_eq_true]
theorem lvl_succ {net : List Int} {m k : Nat} (h : lvl net m k = true) : lvl net (m + 1) k = true := by
  obtain ⟨r, a, b, c⟩ := lvl_iff.1 h
  exact lvl_iff.2 ⟨r, a, b, (grow_testBit _ _ _ _).2 (.inl c)⟩
theorem lvl_mono {net : List Int} {m m' k : Nat} (hm : m ≤ m') (h : lvl net m k = true) : lvl net m' k = true := by
  induction m' with
  | zero => obtain rfl : m = 0 := by omega
            exact h
  | succ m' ih =>
    by_cases he : m = m' + 1
    · rw [← he]; exact h
    · exact lvl_succ (ih (by omega))
def lev (net : List Int) (k : Nat) : Nat := cnt 6 (fun m => !lvl net m k)
theorem root_of {net : List Int} (h : Ok net) {k : Nat} (hk : k < net.length) : ∃ r, r ≤ k ∧ root net r = true ∧ comp net r = comp net k := by
  have key : ∀ m, m ≤ k → (∃ r, r ≤ k ∧ root net r = true ∧ comp net r = comp net k) ∨ ∀ j, j < m → (comp net k).testBit j = false := by
    intro m
    induction m with
    | zero => intro _; right; intro j hj; omega
    | succ m ih =>
      intro hm
      rcases ih (by omega) with h1 | h1
      · exact .inl h1
      · cases hb : (comp net k).testBit m with
        | true =>
          left
          have he := h.comp_same hk (by omega) hb
          exact ⟨m, by omega, root_iff.2 fun j hj => by rw [← he]; exact h1 j hj, he.symm⟩
        | false =>
          right
          intro j hj
          by_cases hjm : j = m
          · rw [hjm]; exact hb
          · exact h1 j (by omega)
  rcases key k (Nat.le_refl _) with h1 | h1
  · exact h1
  · exact ⟨k, Nat.le_refl _, root_iff.2 h1, rfl⟩
theorem lvl_six {net : List Int} (h : Ok net) {k : Nat} (hk : k < net.length) : lvl net 6 k = true := by
  obtain ⟨r, hr, hroot, he⟩ := root_of h hk
  refine lvl_iff.2 ⟨r, by omega, hroot, ?_⟩
  have e2 : comp net r = steps net (allOf net) 6 (2 ^ r) := (h.comp_eq (by omega) (by have := h.hi; omega)).symm
  rw [← e2, he]
  exact h.comp_self hk
/-- Each place that is not the least one of its part has a neighbour that is nearer. -/
theorem nearer {net : List Int} (h : Ok net) {k : Nat} (hk : k < net.length) (hr : root net k = false) : ∃ j, j < net.length ∧ (nb net k).testBit j = true ∧ lev net j < lev net k := by
  have h0 : lvl net 0 k = false := by
    cases hb : lvl net 0 k with
    | false => rfl
    | true =>
      obtain ⟨r, a, b, c⟩ := lvl_iff.1 hb
      have : r = k := by
        have c' : (2 ^ r).testBit k = true := c
        rw [testBit_pow] at c'; simpa using c'
      rw [this] at b; rw [b] at hr; cases hr
  have hex : ∀ m, m ≤ 6 → lvl net m k = true → ∃ q, q < m ∧ lvl net q k = false ∧ lvl net (q + 1) k = true := by
    intro m
    induction m with
    | zero => intro _ hb; rw [h0] at hb; cases hb
    | succ m ih =>
      intro hm hb
      cases hc : lvl net m k with
      | false => exact ⟨m, by omega, hc, hb⟩
      | true => obtain ⟨q, a, b⟩ := ih (by omega) hc; exact ⟨q, by omega, b⟩
  obtain ⟨q, hq, hqf, hqt⟩ := hex 6 (Nat.le_refl _) (lvl_six h hk)
  obtain ⟨r, a, b, c⟩ := lvl_iff.1 hqt
  rcases (grow_testBit _ _ _ _).1 c with c1 | ⟨⟨j, hj, c1, c2⟩, _⟩
  · rw [lvl_iff.2 ⟨r, a, b, c1⟩] at hqf; cases hqf
  · refine ⟨j, hj, by rw [h.sym j k hj hk]; exact c2, ?_⟩
    have hjl : lvl net q j = true := lvl_iff.2 ⟨r, a, b, c1⟩
    have h1 : lev net j ≤ q := by
      have := cnt_mono (n := 6) (p := fun m => !lvl net m j) (q := fun i => decide (i < q)) (fun m hm hp => by
        have hp' : lvl net m j = false := by simpa using hp
        rw [decide_eq_true_eq]
        refine Classical.byContradiction fun hc => ?_
        rw [lvl_mono (by omega) hjl] at hp'; cases hp')
      rw [cnt_below 6 q (by omega)] at this
      exact this
    have h2 : q + 1 ≤ lev net k := by
      have := cnt_mono (n := 6) (p := fun i => decide (i < q + 1)) (q := fun m => !lvl net m k) (fun m hm hp => by
        have hp' : m < q + 1 := by simpa using hp
        cases hx : lvl net m k with
        | false => rfl
        | true => rw [lvl_mono (by omega) hx] at hqf; cases hqf)
      rw [cnt_below 6 (q + 1) (by omega)] at this
      exact this
    omega
/-- There are at least as many wires as places less parts. -/
theorem wires_parts {net : List Int} (h : Ok net) : net.length ≤ wires net + parts net := by
  have hb : ∀ k j, k < net.length → j < net.length → ((nb net k).testBit j && decide (lev net j < lev net k)).toNat + ((nb net j).testBit k && decide (lev net k < lev net j)).toNat ≤ ((nb net k).testBit j).toNat := by
    intro k j hk hj
    rw [h.sym k j hk hj]
    cases (nb net k).testBit j with
    | false => simp
    | true =>
      by_cases h1 : lev net j < lev net k
      · have : ¬ lev net k < lev net j := by omega
        simp [h1, this]
      · by_cases h2 : lev net k < lev net j <;> simp [h1, h2]
  have h1 : sumN net.length (fun k => sumN net.length (fun j => ((nb net k).testBit j && decide (lev net j < lev net k)).toNat)) + sumN net.length (fun k => sumN net.length (fun j => ((nb net j).testBit k && decide (lev net k < lev net j)).toNat)) ≤ ends net := by
    rw [ends_is h, ← sumN_add]
    refine sumN_le fun k hk => ?_
    show sumN net.length _ + sumN net.length _ ≤ _
    rw [← sumN_add]
    exact sumN_le fun j hj => hb k j hk hj
  rw [sumN_swap net.length net.length (fun k j => ((nb net j).testBit k && decide (lev net k < lev net j)).toNat)] at h1
  have h2 : cnt net.length (fun k => !root net k) ≤ sumN net.length (fun k => sumN net.length (fun j => ((nb net k).testBit j && decide (lev net j < lev net k)).toNat)) := by
    refine sumN_le fun k hk => ?_
    show (!root net k).toNat ≤ _
    cases hr : root net k with
    | true => exact Nat.zero_le _
    | false =>
      obtain ⟨j, hj, a, b⟩ := nearer h hk hr
      have := sumN_pos (f := fun j => ((nb net k).testBit j && decide (lev net j < lev net k)).toNat) hj
      simp only [a, b, decide_true, Bool.and_true] at this
      exact this
  have h3 := cnt_not net.length (root net)
  rw [← parts_cnt] at h3
  have h4 := ends_wires h
  omega
theorem comp_closed {net : List Int} (h : Ok net) {i : Nat} (hi : i < net.length) : seen net (comp net i) = comp net i := by
  rw [← h.grow_all]; exact h.part_fix hi
/-- Lone places are parts alone. -/
theorem comp_alone {net : List Int} (h : Ok net) {k : Nat} (hk : k < net.length) : comp net k = 2 ^ k ↔ nb net k = 0 := by
  constructor
  · intro he
    apply Nat.eq_of_testBit_eq
    intro j
    rw [Nat.zero_testBit]
    cases hb : (nb net k).testBit j with
    | false => rfl
    | true =>
      have := comp_nb h hk hb
      rw [he, testBit_pow, decide_eq_true_eq] at this
      subst this
      rw [h.irr k hk] at hb; cases hb
  · intro he
    have h1 : seen net (2 ^ k) = 2 ^ k := by
      apply Nat.eq_of_testBit_eq
      intro j
      rw [Bool.eq_iff_iff, seen_testBit]
      constructor
      · rintro (a | ⟨i, hi, a, b⟩)
        · exact a
        · rw [testBit_pow, decide_eq_true_eq] at a; subst a; rw [he, Nat.zero_testBit] at b; cases b
      · exact .inl
    have h2 : grow net (allOf net) (2 ^ k &&& allOf net) = (2 ^ k &&& allOf net) := by rw [Ok.start_all hk, h.grow_all]; exact h1
    have := steps_fix (m := 0) h2 6 (by omega)
    show part net (allOf net) k = _
    unfold part
    rw [this]
    exact Ok.start_all hk
end Go.Proofs.Ythcidiihfjjpdaa
/- Guards that are needed, guards apart, the chain of numbers: plain facts. Conditions: those of each theorem. -/
namespace Go.Proofs.Ythcidiihfjjpdaa
set_option linter.unusedVariables false
set_option linter.unusedSimpArgs false

theorem not_true {b : Bool} (h : ¬ b = true) : b = false := by cases b with
  | true => exact absurd rfl h
  | false => rfl
theorem sees_symm {net : List Int} (h : Ok net) {j k : Nat} (hj : j < net.length) (hk : k < net.length) : (ball net k).testBit j = (ball net j).testBit k := by
  rw [Bool.eq_iff_iff, ball_testBit, ball_testBit, h.sym j k hj hk]
  constructor <;> (rintro (a | a); exact .inl a; exact .inr a.symm)
theorem sees_self (net : List Int) (k : Nat) : (ball net k).testBit k = true := (ball_testBit _ _ _).2 (.inr rfl)
theorem sees_lt {net : List Int} (h : Ok net) {j k : Nat} (hk : k < net.length) (hs : (ball net k).testBit j = true) : j < net.length := testBit_lt (h.ball_lt hk) hs
theorem seen_balls {net : List Int} (h : Ok net) {s : Nat} (hs : s < 2 ^ net.length) {j : Nat} : (seen net s).testBit j = true ↔ ∃ k, k < net.length ∧ s.testBit k = true ∧ (ball net k).testBit j = true := by
  rw [← h.seen_balls hs, orN_testBit]
theorem in_lt {net : List Int} {s k : Nat} (hs : s < 2 ^ net.length) (hk : s.testBit k = true) : k < net.length := testBit_lt hs hk

/-! ### Private places -/
def priv (net : List Int) (s g : Nat) : Nat := minus (ball net g) (seen net (s - 2 ^ g))
theorem priv_testBit {net : List Int} (h : Ok net) {s g : Nat} (hs : s < 2 ^ net.length) (hg : s.testBit g = true) (j : Nat) :
    (priv net s g).testBit j = true ↔ (ball net g).testBit j = true ∧ ∀ i, s.testBit i = true → (ball net i).testBit j = true → i = g := by
  have h6 := h.hi
  have hgl := in_lt hs hg
  have h64 := h.pow
  have hb := h.ball_lt hgl
  have hsl := h.seen_lt (sub_lt (k := g) hs)
  unfold priv
  rw [minus_testBit _ _ (by omega) (by omega), Bool.and_eq_true, Bool.not_eq_true']
  have hsub : ∀ i, (s - 2 ^ g).testBit i = true ↔ s.testBit i = true ∧ i ≠ g := fun i => by
    rw [sub_testBit (lt64 h hs) (by omega) hg]; simp
  constructor
  · rintro ⟨a, b⟩
    refine ⟨a, fun i hi hb2 => Classical.byContradiction fun hne => ?_⟩
    rw [(seen_balls h (sub_lt hs)).2 ⟨i, in_lt hs hi, (hsub i).2 ⟨hi, hne⟩, hb2⟩] at b; cases b
  · rintro ⟨a, b⟩
    refine ⟨a, not_true fun hc => ?_⟩
    obtain ⟨i, hi, h1, h2⟩ := (seen_balls h (sub_lt hs)).1 hc
    exact ((hsub i).1 h1).2 (b i ((hsub i).1 h1).1 h2)
theorem priv_lt {net : List Int} (h : Ok net) {s g : Nat} (hs : s < 2 ^ net.length) (hg : g < net.length) : priv net s g < 2 ^ net.length := by
  unfold priv minus
  exact Nat.lt_of_le_of_lt Nat.and_le_left (h.ball_lt hg)
theorem zero_iff {a : Nat} : a = 0 ↔ ∀ j, a.testBit j = false := by
  constructor
  · rintro rfl j; exact Nat.zero_testBit j
  · intro ha; exact Nat.eq_of_testBit_eq fun j => by rw [ha j, Nat.zero_testBit]
theorem pos_iff {a : Nat} : a ≠ 0 ↔ ∃ j, a.testBit j = true := by
  rw [Ne, zero_iff]
  constructor
  · intro hn
    refine Classical.byContradiction fun hc => hn fun j => not_true fun hj => hc ⟨j, hj⟩
  · rintro ⟨j, hj⟩ ha; rw [ha j] at hj; cases hj
/-- Each guard has a place of its own. -/
def Needs (net : List Int) (s : Nat) : Prop := ∀ g, s.testBit g = true → ∃ j, (ball net g).testBit j = true ∧ ∀ i, s.testBit i = true → (ball net i).testBit j = true → i = g
def needs (net : List Int) (s : Nat) : Bool := (List.range net.length).all fun k => !(s.testBit k && priv net s k == 0)
theorem needs_iff {net : List Int} (h : Ok net) {s : Nat} (hs : s < 2 ^ net.length) : needs net s = true ↔ Needs net s := by
  unfold needs
  rw [List.all_eq_true]
  simp only [List.mem_range, Bool.not_eq_true', Bool.and_eq_false_imp]
  constructor
  · intro ha g hg
    have := ha g (in_lt hs hg) hg
    have hne : priv net s g ≠ 0 := fun he => by rw [he] at this; cases this
    obtain ⟨j, hj⟩ := pos_iff.1 hne
    exact ⟨j, (priv_testBit h hs hg j).1 hj⟩
  · intro ha g _ hg
    obtain ⟨j, hj⟩ := ha g hg
    have : priv net s g ≠ 0 := pos_iff.2 ⟨j, (priv_testBit h hs hg j).2 hj⟩
    simpa using this
theorem Needs.mono {net : List Int} {s t : Nat} (hst : ∀ j, t.testBit j = true → s.testBit j = true) (hn : Needs net s) : Needs net t := fun g hg => by
  obtain ⟨j, h1, h2⟩ := hn g (hst g hg)
  exact ⟨j, h1, fun i hi hb => h2 i (hst i hi) hb⟩
theorem Needs.zero (net : List Int) : Needs net 0 := fun g hg => by rw [Nat.zero_testBit] at hg; cases hg
theorem Needs.one (net : List Int) (k : Nat) : Needs net (2 ^ k) := fun g hg => by
  rw [testBit_pow, decide_eq_true_eq] at hg
  subst hg
  exact ⟨k, sees_self net k, fun i hi _ => by rw [testBit_pow, decide_eq_true_eq] at hi; exact hi.symm⟩
/-- Least watches are just the watches that need all guards. -/
theorem least_needs {net : List Int} (h : Ok net) {s : Nat} (hs : s < 2 ^ net.length) : least net s = true ↔ W net s = true ∧ Needs net s := by
  have h6 := h.hi
  rw [least_iff]
  constructor
  · rintro ⟨hw, hl⟩
    refine ⟨hw, fun g hg => ?_⟩
    have hgl := in_lt hs hg
    have hn := hl g hgl hg
    have hex : ∃ v, v < net.length ∧ (seen net (s - 2 ^ g)).testBit v = false := by
      refine Classical.byContradiction fun hc => ?_
      rw [(W_iff h (sub_lt hs)).2 (fun v hv => ?_)] at hn
      · cases hn
      · cases hv2 : (seen net (s - 2 ^ g)).testBit v with
        | true => rfl
        | false => exact absurd ⟨v, hv, hv2⟩ hc
    obtain ⟨v, hv, hv2⟩ := hex
    obtain ⟨k, hk, hks, hkb⟩ := (seen_balls h hs).1 ((W_iff h hs).1 hw v hv)
    have only : ∀ i, s.testBit i = true → (ball net i).testBit v = true → i = g := fun i hi hb => Classical.byContradiction fun hne => by
      rw [(seen_balls h (sub_lt hs)).2 ⟨i, in_lt hs hi, by rw [sub_testBit (lt64 h hs) (by omega) hg, hi]; simp [hne], hb⟩] at hv2; cases hv2
    have := only k hks hkb
    subst this
    exact ⟨v, hkb, only⟩
  · rintro ⟨hw, hn⟩
    refine ⟨hw, fun g hgl hg => not_true fun hc => ?_⟩
    obtain ⟨j, h1, h2⟩ := hn g hg
    obtain ⟨k, hk, hks, hkb⟩ := (seen_balls h (sub_lt hs)).1 ((W_iff h (sub_lt hs)).1 hc j (sees_lt h hgl h1))
    rw [sub_testBit (lt64 h hs) (by omega) hg, Bool.and_eq_true] at hks
    have := h2 k hks.1 hkb
    subst this
    simp at hks
theorem or_testBit (s k j : Nat) : (s ||| 2 ^ k).testBit j = true ↔ s.testBit j = true ∨ j = k := by
  rw [Nat.testBit_or, Bool.or_eq_true, testBit_pow, decide_eq_true_eq]
  exact ⟨fun a => a.elim .inl (fun b => .inr b.symm), fun a => a.elim .inl (fun b => .inr b.symm)⟩
theorem or_lt {n s k : Nat} (hs : s < 2 ^ n) (hk : k < n) : s ||| 2 ^ k < 2 ^ n := Nat.or_lt_two_pow hs (Nat.pow_lt_pow_right (by omega) hk)
/-- A set that needs all guards, and does not with any further place. -/
def FullN (net : List Int) (s : Nat) : Prop := Needs net s ∧ ∀ k, k < net.length → s.testBit k = false → ¬ Needs net (s ||| 2 ^ k)
def fullN (net : List Int) (s : Nat) : Bool := ((List.range net.length).all fun k => !(!s.testBit k && needs net (s ||| 2 ^ k))) && needs net s
theorem fullN_iff {net : List Int} (h : Ok net) {s : Nat} (hs : s < 2 ^ net.length) : fullN net s = true ↔ FullN net s := by
  unfold fullN
  rw [Bool.and_eq_true, List.all_eq_true, needs_iff h hs]
  simp only [List.mem_range, Bool.not_eq_true', Bool.and_eq_false_imp]
  constructor
  · rintro ⟨a, b⟩
    refine ⟨b, fun k hk hb hc => ?_⟩
    have := a k hk hb
    rw [(needs_iff h (or_lt hs hk)).2 hc] at this; cases this
  · rintro ⟨a, b⟩
    exact ⟨fun k hk hb => not_true fun hc => b k hk hb ((needs_iff h (or_lt hs hk)).1 hc), a⟩
/-- Each least watch is full. -/
theorem least_full {net : List Int} (h : Ok net) {s : Nat} (hs : s < 2 ^ net.length) (hl : least net s = true) : FullN net s := by
  obtain ⟨hw, hn⟩ := (least_needs h hs).1 hl
  refine ⟨hn, fun k hk hb hc => ?_⟩
  obtain ⟨j, h1, h2⟩ := hc k ((or_testBit _ _ _).2 (.inr rfl))
  obtain ⟨i, hi, his, hib⟩ := (seen_balls h hs).1 ((W_iff h hs).1 hw j (sees_lt h hk h1))
  have := h2 i ((or_testBit _ _ _).2 (.inl his)) hib
  rw [this, hb] at his; cases his

/-! ### Seen twice -/
/-- The places that two guards of a set see. -/
structure Twice (net : List Int) (s t : Nat) : Prop where
  lt : t < 2 ^ net.length
  bit : ∀ j, t.testBit j = true ↔ ∃ a b, s.testBit a = true ∧ s.testBit b = true ∧ a ≠ b ∧ (ball net a).testBit j = true ∧ (ball net b).testBit j = true
theorem Twice.uniq {net : List Int} {s t u : Nat} (ht : Twice net s t) (hu : Twice net s u) : t = u := Nat.eq_of_testBit_eq fun j => by rw [Bool.eq_iff_iff, ht.bit, hu.bit]
def twice (net : List Int) (s : Nat) : Nat := (fold net.length (fun (t : Nat × Nat) k => if s.testBit k = true then (t.1 ||| ball net k, t.2 ||| (t.1 &&& ball net k)) else t) (0, 0)).2
theorem twice_is {net : List Int} (h : Ok net) {s : Nat} (hs : s < 2 ^ net.length) : Twice net s (twice net s) := by
  have key : ∀ m, m ≤ net.length → (∀ j, (fold m (fun (t : Nat × Nat) k => if s.testBit k = true then (t.1 ||| ball net k, t.2 ||| (t.1 &&& ball net k)) else t) (0, 0)).1.testBit j = true ↔ ∃ a, a < m ∧ s.testBit a = true ∧ (ball net a).testBit j = true) ∧
      (∀ j, (fold m (fun (t : Nat × Nat) k => if s.testBit k = true then (t.1 ||| ball net k, t.2 ||| (t.1 &&& ball net k)) else t) (0, 0)).2.testBit j = true ↔ ∃ a b, a < b ∧ b < m ∧ s.testBit a = true ∧ s.testBit b = true ∧ (ball net a).testBit j = true ∧ (ball net b).testBit j = true) ∧
      (fold m (fun (t : Nat × Nat) k => if s.testBit k = true then (t.1 ||| ball net k, t.2 ||| (t.1 &&& ball net k)) else t) (0, 0)).2 < 2 ^ net.length := by
    intro m
    induction m with
    | zero => intro _; exact ⟨fun j => by simp [fold_zero], fun j => by simp [fold_zero], Nat.two_pow_pos _⟩
    | succ m ih =>
      intro hm
      rw [fold_succ]
      obtain ⟨a1, a2, a3⟩ := ih (by omega)
      generalize fold m _ (0, 0) = t at a1 a2 a3 ⊢
      obtain ⟨o, w⟩ := t
      simp only at a1 a2 a3 ⊢
      cases hb : s.testBit m with
      | false =>
        simp only [Bool.false_eq_true, if_false]
        refine ⟨fun j => ?_, fun j => ?_, a3⟩
        · rw [a1]
          constructor
          · rintro ⟨a, x, y⟩; exact ⟨a, by omega, y⟩
          · rintro ⟨a, x, y, z⟩
            have : a ≠ m := fun he => by rw [he, hb] at y; cases y
            exact ⟨a, by omega, y, z⟩
        · rw [a2]
          constructor
          · rintro ⟨a, b, x, y, z⟩; exact ⟨a, b, x, by omega, z⟩
          · rintro ⟨a, b, x, y, z1, z2, z3⟩
            have : b ≠ m := fun he => by rw [he, hb] at z2; cases z2
            exact ⟨a, b, x, by omega, z1, z2, z3⟩
      | true =>
        simp only [if_true]
        refine ⟨fun j => ?_, fun j => ?_, Nat.or_lt_two_pow a3 (Nat.lt_of_le_of_lt Nat.and_le_right (h.ball_lt (by omega)))⟩
        · rw [Nat.testBit_or, Bool.or_eq_true, a1]
          constructor
          · rintro (⟨a, x, y⟩ | x)
            · exact ⟨a, by omega, y⟩
            · exact ⟨m, by omega, hb, x⟩
          · rintro ⟨a, x, y, z⟩
            by_cases he : a = m
            · rw [he] at z; exact .inr z
            · exact .inl ⟨a, by omega, y, z⟩
        · rw [Nat.testBit_or, Bool.or_eq_true, Nat.testBit_and, Bool.and_eq_true, a2, a1]
          constructor
          · rintro (⟨a, b, x, y, z⟩ | ⟨⟨a, x, y, z⟩, w⟩)
            · exact ⟨a, b, x, by omega, z⟩
            · exact ⟨a, m, x, by omega, y, hb, z, w⟩
          · rintro ⟨a, b, x, y, z1, z2, z3, z4⟩
            by_cases he : b = m
            · rw [he] at x z4; exact .inr ⟨⟨a, x, z1, z3⟩, z4⟩
            · exact .inl ⟨a, b, x, by omega, z1, z2, z3, z4⟩
  obtain ⟨_, a2, a3⟩ := key net.length (Nat.le_refl _)
  refine ⟨a3, fun j => (a2 j).trans ?_⟩
  constructor
  · rintro ⟨a, b, x, y, z1, z2, z3, z4⟩; exact ⟨a, b, z1, z2, by omega, z3, z4⟩
  · rintro ⟨a, b, z1, z2, x, z3, z4⟩
    rcases Nat.lt_or_ge a b with hab | hab
    · exact ⟨a, b, hab, in_lt hs z2, z1, z2, z3, z4⟩
    · exact ⟨b, a, by omega, in_lt hs z1, z2, z1, z4, z3⟩

/-! ### Guards apart -/
def Apart (net : List Int) (s : Nat) : Prop := ∀ j k, s.testBit j = true → s.testBit k = true → (nb net j).testBit k = false
def apart (net : List Int) (s : Nat) : Bool := (near net s &&& s) == 0
theorem apart_iff {net : List Int} {s : Nat} (hs : s < 2 ^ net.length) : apart net s = true ↔ Apart net s := by
  unfold apart
  rw [beq_iff_eq, zero_iff]
  constructor
  · intro ha j k hj hk
    have := ha k
    rw [Nat.testBit_and, hk, Bool.and_true] at this
    refine not_true fun hb => ?_
    rw [(near_testBit _ _ _).2 ⟨j, in_lt hs hj, hj, hb⟩] at this; cases this
  · intro ha j
    refine not_true fun hb => ?_
    rw [Nat.testBit_and, Bool.and_eq_true, near_testBit] at hb
    obtain ⟨⟨k, _, h1, h2⟩, h3⟩ := hb
    rw [ha k j h1 h3] at h2; cases h2
theorem Apart.mono {net : List Int} {s t : Nat} (hst : ∀ j, t.testBit j = true → s.testBit j = true) (h : Apart net s) : Apart net t := fun j k hj hk => h j k (hst j hj) (hst k hk)
theorem Apart.zero (net : List Int) : Apart net 0 := fun j k hj _ => by rw [Nat.zero_testBit] at hj; cases hj
theorem Apart.one {net : List Int} (h : Ok net) {k : Nat} (hk : k < net.length) : Apart net (2 ^ k) := fun i j hi hj => by
  rw [testBit_pow, decide_eq_true_eq] at hi hj
  subst hi; subst hj
  exact h.irr _ hk
theorem apart_only {net : List Int} (h : Ok net) {s : Nat} (hs : s < 2 ^ net.length) (ha : Apart net s) {g : Nat} (hg : s.testBit g = true) : ∀ i, s.testBit i = true → (ball net i).testBit g = true → i = g := fun i hi hb => by
  rcases (ball_testBit _ _ _).1 hb with a | a
  · rw [ha i g hi hg] at a; cases a
  · exact a
theorem Apart.needs {net : List Int} (h : Ok net) {s : Nat} (hs : s < 2 ^ net.length) (ha : Apart net s) : Needs net s := fun g hg => ⟨g, sees_self net g, apart_only h hs ha hg⟩
theorem Apart.add {net : List Int} (h : Ok net) {s k : Nat} (hs : s < 2 ^ net.length) (hk : k < net.length) (ha : Apart net s) (hn : ∀ j, s.testBit j = true → (nb net k).testBit j = false) : Apart net (s ||| 2 ^ k) := fun i j hi hj => by
  rw [or_testBit] at hi hj
  rcases hi with hi | hi
  · rcases hj with hj | hj
    · exact ha i j hi hj
    · rw [hj, h.sym k i hk (in_lt hs hi)]; exact hn i hi
  · rcases hj with hj | hj
    · rw [hi]; exact hn j hj
    · rw [hi, hj]; exact h.irr k hk
def fullA (net : List Int) (s : Nat) : Bool := apart net s && (List.range net.length).all fun k => !(!s.testBit k && apart net (s ||| 2 ^ k))
/-- Full apart sets are apart watches. -/
theorem fullA_iff {net : List Int} (h : Ok net) {s : Nat} (hs : s < 2 ^ net.length) : fullA net s = true ↔ Apart net s ∧ W net s = true := by
  unfold fullA
  rw [Bool.and_eq_true, List.all_eq_true, apart_iff hs]
  simp only [List.mem_range, Bool.not_eq_true', Bool.and_eq_false_imp]
  constructor
  · rintro ⟨a, b⟩
    refine ⟨a, (W_iff h hs).2 fun j hj => ?_⟩
    rw [seen_iff h s hj]
    cases hb : s.testBit j with
    | true => exact .inl rfl
    | false =>
      right
      refine Classical.byContradiction fun hc => ?_
      have := b j hj hb
      rw [(apart_iff (or_lt hs hj)).2 (a.add h hs hj fun i hi => not_true fun hx => hc ⟨i, in_lt hs hi, hi, hx⟩)] at this; cases this
  · rintro ⟨a, b⟩
    refine ⟨a, fun k hk hb => not_true fun hc => ?_⟩
    have hA := (apart_iff (or_lt hs hk)).1 hc
    rcases (seen_iff h s hk).1 ((W_iff h hs).1 b k hk) with x | ⟨i, hi, x, y⟩
    · rw [hb] at x; cases x
    · rw [hA k i ((or_testBit _ _ _).2 (.inr rfl)) ((or_testBit _ _ _).2 (.inl x))] at y; cases y
theorem fullA_least {net : List Int} (h : Ok net) {s : Nat} (hs : s < 2 ^ net.length) (hf : fullA net s = true) : least net s = true := by
  obtain ⟨a, b⟩ := (fullA_iff h hs).1 hf
  exact (least_needs h hs).2 ⟨b, a.needs h hs⟩

/-! ### Grown sets -/
def grownStep (net : List Int) (t k : Nat) : Nat := if (!t.testBit k && (nb net k &&& t) == 0) = true then t ||| 2 ^ k else t
def grown (net : List Int) (s : Nat) : Nat := fold net.length (grownStep net) s
theorem and_zero {a b : Nat} : (a &&& b) = 0 ↔ ∀ j, b.testBit j = true → a.testBit j = false := by
  rw [zero_iff]
  constructor
  · intro ha j hj
    have := ha j
    rw [Nat.testBit_and, hj, Bool.and_true] at this; exact this
  · intro ha j
    rw [Nat.testBit_and]
    cases hb : b.testBit j with
    | false => simp
    | true => rw [ha j hb]; rfl
theorem grown_is {net : List Int} (h : Ok net) {s : Nat} (hs : s < 2 ^ net.length) (ha : Apart net s) : grown net s < 2 ^ net.length ∧ fullA net (grown net s) = true ∧ ∀ j, s.testBit j = true → (grown net s).testBit j = true := by
  have key : ∀ m, m ≤ net.length → fold m (grownStep net) s < 2 ^ net.length ∧ Apart net (fold m (grownStep net) s) ∧ (∀ j, s.testBit j = true → (fold m (grownStep net) s).testBit j = true) ∧
      ∀ k, k < m → (fold m (grownStep net) s).testBit k = true ∨ ∃ i, (fold m (grownStep net) s).testBit i = true ∧ (nb net k).testBit i = true := by
    intro m
    induction m with
    | zero => intro _; exact ⟨hs, ha, fun j hj => hj, fun k hk => by omega⟩
    | succ m ih =>
      intro hm
      rw [fold_succ]
      obtain ⟨a1, a2, a3, a4⟩ := ih (by omega)
      generalize fold m (grownStep net) s = t at a1 a2 a3 a4 ⊢
      unfold grownStep
      cases hc : (!t.testBit m && (nb net m &&& t) == 0) with
      | true =>
        rw [Bool.and_eq_true, Bool.not_eq_true', beq_iff_eq, and_zero] at hc
        simp only [if_true]
        refine ⟨or_lt a1 (by omega), a2.add h a1 (by omega) hc.2, fun j hj => (or_testBit _ _ _).2 (.inl (a3 j hj)), fun k hk => ?_⟩
        by_cases hkm : k = m
        · exact .inl ((or_testBit _ _ _).2 (.inr hkm))
        · rcases a4 k (by omega) with x | ⟨i, x, y⟩
          · exact .inl ((or_testBit _ _ _).2 (.inl x))
          · exact .inr ⟨i, (or_testBit _ _ _).2 (.inl x), y⟩
      | false =>
        simp only [Bool.false_eq_true, if_false]
        refine ⟨a1, a2, a3, fun k hk => ?_⟩
        by_cases hkm : k = m
        · rw [hkm]
          cases hb : t.testBit m with
          | true => exact .inl rfl
          | false =>
            right
            rw [hb, Bool.not_false, Bool.true_and] at hc
            have hne : (nb net m &&& t) ≠ 0 := fun he => by rw [he] at hc; cases hc
            obtain ⟨i, hi⟩ := pos_iff.1 hne
            rw [Nat.testBit_and, Bool.and_eq_true] at hi
            exact ⟨i, hi.2, hi.1⟩
        · exact a4 k (by omega)
  obtain ⟨a1, a2, a3, a4⟩ := key net.length (Nat.le_refl _)
  refine ⟨a1, (fullA_iff h a1).2 ⟨a2, (W_iff h a1).2 fun j hj => (seen_iff h _ hj).2 ?_⟩, a3⟩
  rcases a4 j hj with x | ⟨i, x, y⟩
  · exact .inl x
  · exact .inr ⟨i, in_lt a1 x, x, y⟩
theorem grown_same {net : List Int} (h : Ok net) {s : Nat} (hs : s < 2 ^ net.length) (hf : fullA net s = true) : grown net s = s := by
  obtain ⟨_, hw⟩ := (fullA_iff h hs).1 hf
  have key : ∀ m, m ≤ net.length → fold m (grownStep net) s = s := by
    intro m
    induction m with
    | zero => intro _; rfl
    | succ m ih =>
      intro hm
      rw [fold_succ, ih (by omega)]
      unfold grownStep
      rw [if_neg]
      intro hc
      rw [Bool.and_eq_true, Bool.not_eq_true', beq_iff_eq, and_zero] at hc
      rcases (seen_iff h s (by omega)).1 ((W_iff h hs).1 hw m (by omega)) with x | ⟨i, hi, x, y⟩
      · rw [hc.1] at x; cases x
      · rw [hc.2 i x] at y; cases y
  exact key _ (Nat.le_refl _)
end Go.Proofs.Ythcidiihfjjpdaa
/- The chain of numbers: plain facts. Conditions: those of each theorem. -/
namespace Go.Proofs.Ythcidiihfjjpdaa
set_option linter.unusedVariables false
set_option linter.unusedSimpArgs false

/-- The least number of places of sets of a kind, and the greatest. -/
structure MinOf (net : List Int) (p : Nat → Bool) (m : Nat) : Prop where
  ex : ∃ s, s < 2 ^ net.length ∧ p s = true ∧ size s = m
  le : ∀ s, s < 2 ^ net.length → p s = true → m ≤ size s
structure MaxOf (net : List Int) (p : Nat → Bool) (m : Nat) : Prop where
  ex : ∃ s, s < 2 ^ net.length ∧ p s = true ∧ size s = m
  le : ∀ s, s < 2 ^ net.length → p s = true → size s ≤ m
theorem MinOf.uniq {net : List Int} {p : Nat → Bool} {a b : Nat} (ha : MinOf net p a) (hb : MinOf net p b) : a = b := by
  obtain ⟨s, h1, h2, h3⟩ := ha.ex
  obtain ⟨t, g1, g2, g3⟩ := hb.ex
  have := ha.le t g1 g2
  have := hb.le s h1 h2
  omega
theorem MaxOf.uniq {net : List Int} {p : Nat → Bool} {a b : Nat} (ha : MaxOf net p a) (hb : MaxOf net p b) : a = b := by
  obtain ⟨s, h1, h2, h3⟩ := ha.ex
  obtain ⟨t, g1, g2, g3⟩ := hb.ex
  have := ha.le t g1 g2
  have := hb.le s h1 h2
  omega
def minSize (net : List Int) (p : Nat → Bool) : Nat := fold (2 ^ net.length) (fun t s => if p s = true then (if size s < t then size s else t) else t) net.length
def maxSize (net : List Int) (p : Nat → Bool) : Nat := fold (2 ^ net.length) (fun t s => if p s = true then (if size s > t then size s else t) else t) 0
theorem minSize_is {net : List Int} (h : Ok net) {p : Nat → Bool} (hex : ∃ s, s < 2 ^ net.length ∧ p s = true) : MinOf net p (minSize net p) := by
  obtain ⟨h1, h2, h3⟩ := minFold (N := 2 ^ net.length) (p := p) (f := size) net.length
  refine ⟨?_, h1⟩
  rcases h3 with h3 | h3
  · obtain ⟨s, hs, hp⟩ := hex
    have := h1 s hs hp
    have := size_le_len h hs
    exact ⟨s, hs, hp, by unfold minSize; omega⟩
  · exact h3
theorem maxFoldP {N : Nat} {p : Nat → Bool} {f : Nat → Nat} :
    (∀ s, s < N → p s = true → f s ≤ fold N (fun t s => if p s = true then (if f s > t then f s else t) else t) 0) ∧
    (fold N (fun t s => if p s = true then (if f s > t then f s else t) else t) 0 = 0 ∨ ∃ s, s < N ∧ p s = true ∧ f s = fold N (fun t s => if p s = true then (if f s > t then f s else t) else t) 0) := by
  induction N with
  | zero => exact ⟨fun s hs => by omega, .inl rfl⟩
  | succ N ih =>
    rw [fold_succ]
    generalize fold N _ 0 = g at ih ⊢
    obtain ⟨h1, h3⟩ := ih
    cases hp : p N with
    | false =>
      simp only [Bool.false_eq_true, if_false]
      refine ⟨fun s hs hps => ?_, ?_⟩
      · by_cases he : s = N
        · subst he; rw [hp] at hps; cases hps
        · exact h1 s (by omega) hps
      · rcases h3 with h3 | ⟨s, a, b⟩
        · exact .inl h3
        · exact .inr ⟨s, by omega, b⟩
    | true =>
      simp only [if_true]
      refine ⟨fun s hs hps => ?_, ?_⟩
      · by_cases he : s = N
        · subst he; split <;> omega
        · have := h1 s (by omega) hps
          split <;> omega
      · split
        · exact .inr ⟨N, by omega, hp, rfl⟩
        · rcases h3 with h3 | ⟨s, a, b⟩
          · exact .inl h3
          · exact .inr ⟨s, by omega, b⟩
theorem maxSize_is {net : List Int} {p : Nat → Bool} (hex : ∃ s, s < 2 ^ net.length ∧ p s = true) : MaxOf net p (maxSize net p) := by
  obtain ⟨h1, h3⟩ := maxFoldP (N := 2 ^ net.length) (p := p) (f := size)
  refine ⟨?_, h1⟩
  rcases h3 with h3 | h3
  · obtain ⟨s, hs, hp⟩ := hex
    have := h1 s hs hp
    exact ⟨s, hs, hp, by unfold maxSize; omega⟩
  · exact h3
theorem few_min {net : List Int} {m : Nat} : Few net m ↔ MinOf net (W net) m := ⟨fun a => ⟨a.ex, a.le⟩, fun a => ⟨a.ex, a.le⟩⟩
theorem fewest_min (net : List Int) : fewest net = minSize net (W net) := rfl

/-! ### What there is of each kind -/
theorem ex_fullA {net : List Int} (h : Ok net) : ∃ s, s < 2 ^ net.length ∧ fullA net s = true := by
  obtain ⟨a, b, _⟩ := grown_is h (Nat.two_pow_pos _) (Apart.zero net)
  exact ⟨_, a, b⟩
theorem ex_apart (net : List Int) : ∃ s, s < 2 ^ net.length ∧ apart net s = true := ⟨0, Nat.two_pow_pos _, (apart_iff (Nat.two_pow_pos _)).2 (Apart.zero net)⟩
theorem ex_least {net : List Int} (h : Ok net) : ∃ s, s < 2 ^ net.length ∧ least net s = true := by
  obtain ⟨s, a, b⟩ := ex_fullA h
  exact ⟨s, a, fullA_least h a b⟩
theorem ex_fullN {net : List Int} (h : Ok net) : ∃ s, s < 2 ^ net.length ∧ fullN net s = true := by
  obtain ⟨s, a, b⟩ := ex_least h
  exact ⟨s, a, (fullN_iff h a).2 (least_full h a b)⟩
theorem ex_needs {net : List Int} (h : Ok net) : ∃ s, s < 2 ^ net.length ∧ needs net s = true := ⟨0, Nat.two_pow_pos _, (needs_iff h (Nat.two_pow_pos _)).2 (Needs.zero net)⟩
theorem size_add {s k : Nat} (hs : s < 64) (hk : k < 6) (hb : s.testBit k = false) : size (s ||| 2 ^ k) = size s + 1 := bits_or s hs k hk hb
/-- The largest apart sets are full. -/
theorem most_full {net : List Int} (h : Ok net) {m s : Nat} (hm : MaxOf net (apart net) m) (hs : s < 2 ^ net.length) (ha : apart net s = true) (hz : size s = m) : fullA net s = true := by
  unfold fullA
  rw [ha, Bool.true_and, List.all_eq_true]
  intro k hk
  rw [List.mem_range] at hk
  cases hb : s.testBit k with
  | true => rfl
  | false =>
    cases hc : apart net (s ||| 2 ^ k) with
    | false => rfl
    | true =>
      have h1 := hm.le _ (or_lt hs hk) hc
      rw [size_add (lt64 h hs) (by have := h.hi; omega) hb] at h1
      omega
theorem chain12 {net : List Int} (h : Ok net) {a b : Nat} (ha : MinOf net (fullN net) a) (hb : MinOf net (W net) b) : a ≤ b := by
  obtain ⟨s, h1, h2, h3⟩ := hb.ex
  have hl := few_least h (few_min.2 hb) h1 h2 h3
  have := ha.le s h1 ((fullN_iff h h1).2 (least_full h h1 hl))
  omega
theorem chain23 {net : List Int} (h : Ok net) {a b : Nat} (ha : MinOf net (W net) a) (hb : MinOf net (fullA net) b) : a ≤ b := by
  obtain ⟨s, h1, h2, h3⟩ := hb.ex
  have := ha.le s h1 ((fullA_iff h h1).1 h2).2
  omega
theorem chain34 {net : List Int} (h : Ok net) {a b : Nat} (ha : MinOf net (fullA net) a) (hb : MaxOf net (apart net) b) : a ≤ b := by
  obtain ⟨s, h1, h2, h3⟩ := ha.ex
  have := hb.le s h1 ((apart_iff h1).2 ((fullA_iff h h1).1 h2).1)
  omega
theorem chain45 {net : List Int} (h : Ok net) {a b : Nat} (ha : MaxOf net (apart net) a) (hb : MaxOf net (least net) b) : a ≤ b := by
  obtain ⟨s, h1, h2, h3⟩ := ha.ex
  have := hb.le s h1 (fullA_least h h1 (most_full h ha h1 h2 h3))
  omega
theorem chain56 {net : List Int} (h : Ok net) {a b : Nat} (ha : MaxOf net (least net) a) (hb : MaxOf net (needs net) b) : a ≤ b := by
  obtain ⟨s, h1, h2, h3⟩ := ha.ex
  have := hb.le s h1 ((needs_iff h h1).2 ((least_needs h h1).1 h2).2)
  omega
/-- A set that needs all guards is within a full one. -/
theorem needs_in_full {net : List Int} (h : Ok net) : ∀ (m s : Nat), net.length - size s ≤ m → s < 2 ^ net.length → Needs net s → ∃ t, t < 2 ^ net.length ∧ FullN net t ∧ ∀ j, s.testBit j = true → t.testBit j = true := by
  intro m
  induction m with
  | zero =>
    intro s hm hs hn
    refine ⟨s, hs, ⟨hn, fun k hk hb _ => ?_⟩, fun j hj => hj⟩
    have := size_le_len h (or_lt hs hk)
    rw [size_add (lt64 h hs) (by have := h.hi; omega) hb] at this
    omega
  | succ m ih =>
    intro s hm hs hn
    by_cases hex : ∃ k, k < net.length ∧ s.testBit k = false ∧ Needs net (s ||| 2 ^ k)
    · obtain ⟨k, hk, hb, hn2⟩ := hex
      have hz := size_add (lt64 h hs) (by have := h.hi; omega) hb
      obtain ⟨t, a, b, c⟩ := ih (s ||| 2 ^ k) (by omega) (or_lt hs hk) hn2
      exact ⟨t, a, b, fun j hj => c j ((or_testBit _ _ _).2 (.inl hj))⟩
    · exact ⟨s, hs, ⟨hn, fun k hk hb hc => hex ⟨k, hk, hb, hc⟩⟩, fun j hj => hj⟩
theorem size_pos {s : Nat} (hs : s < 64) {k : Nat} (hk : k < 6) (hb : s.testBit k = true) : 1 ≤ size s := by
  have := (bits_sub s hs k hk hb).2.2.1
  omega
theorem fullN_pos {net : List Int} (h : Ok net) {s : Nat} (hs : s < 2 ^ net.length) (hf : FullN net s) : 1 ≤ size s := by
  have h6 := h.hi
  by_cases h0 : s = 0
  · subst h0
    refine absurd (Needs.one net 0) ?_
    have := hf.2 0 h.lo (Nat.zero_testBit 0)
    rw [Nat.zero_or] at this
    exact this
  · obtain ⟨j, hj⟩ := pos_iff.1 h0
    have := in_lt hs hj
    exact size_pos (lt64 h hs) (by omega) hj

/-! ### A full set and its private places watch -/
theorem size_union {net : List Int} (h : Ok net) {s t : Nat} (hs : s < 2 ^ net.length) (ht : t < 2 ^ net.length) : size (s ||| t) ≤ size s + size t := by
  rw [size_cnt h hs, size_cnt h ht, size_cnt h (Nat.or_lt_two_pow hs ht)]
  unfold cnt
  rw [← sumN_add]
  refine sumN_le fun k _ => ?_
  show ((s ||| t).testBit k).toNat ≤ (s.testBit k).toNat + (t.testBit k).toNat
  rw [Nat.testBit_or]
  cases s.testBit k <;> cases t.testBit k <;> decide
/-- The fewest watch is less than twice as many. -/
theorem watch_twice {net : List Int} (h : Ok net) {s m : Nat} (hs : s < 2 ^ net.length) (hf : FullN net s) (hm : MinOf net (W net) m) : m < 2 * size s := by
  have h6 := h.hi
  -- a private place for each guard
  have hpv : ∀ g, ∃ j, s.testBit g = true → (ball net g).testBit j = true ∧ ∀ i, s.testBit i = true → (ball net i).testBit j = true → i = g := fun g => by
    by_cases hg : s.testBit g = true
    · obtain ⟨j, hj⟩ := hf.1 g hg; exact ⟨j, fun _ => hj⟩
    · exact ⟨0, fun hh => absurd hh hg⟩
  have hp : ∀ g, s.testBit g = true → (ball net g).testBit (Classical.choose (hpv g)) = true ∧ ∀ i, s.testBit i = true → (ball net i).testBit (Classical.choose (hpv g)) = true → i = g := fun g => Classical.choose_spec (hpv g)
  generalize hP : (fun g => Classical.choose (hpv g)) = P at hp
  have hp' : ∀ g, s.testBit g = true → (ball net g).testBit (P g) = true ∧ ∀ i, s.testBit i = true → (ball net i).testBit (P g) = true → i = g := fun g hg => by rw [← hP]; exact Classical.choose_spec (hpv g) hg
  -- those places together
  let q := orN net.length (fun g => s.testBit g) (fun g => 2 ^ P g)
  have hq : ∀ j, q.testBit j = true ↔ ∃ g, g < net.length ∧ s.testBit g = true ∧ P g = j := fun j => by
    show (orN _ _ _).testBit j = true ↔ _
    rw [orN_testBit]
    simp only [testBit_pow, decide_eq_true_eq]
  have hql : q < 2 ^ net.length := orN_lt fun g hg hb => Nat.pow_lt_pow_right (by omega) (sees_lt h hg (hp' g hb).1)
  have hqs : size q ≤ size s := by
    rw [size_cnt h hql, size_cnt h hs]
    -- each place of q goes to its guard
    have hback : ∀ j, ∃ g, q.testBit j = true → g < net.length ∧ s.testBit g = true ∧ P g = j := fun j => by
      by_cases hj : q.testBit j = true
      · obtain ⟨g, hg⟩ := (hq j).1 hj; exact ⟨g, fun _ => hg⟩
      · exact ⟨0, fun hh => absurd hh hj⟩
    refine cnt_inj (fun j => Classical.choose (hback j)) (fun j _ hj => ?_) (fun i j _ _ hi hj he => ?_)
    · have := Classical.choose_spec (hback j) hj
      exact ⟨this.1, this.2.1⟩
    · have h1 := (Classical.choose_spec (hback i) hi).2.2
      have h2 := (Classical.choose_spec (hback j) hj).2.2
      rw [he] at h1
      exact h1.symm.trans h2
  have hul : s ||| q < 2 ^ net.length := Nat.or_lt_two_pow hs hql
  have hub : ∀ j, (s ||| q).testBit j = true ↔ s.testBit j = true ∨ q.testBit j = true := fun j => by rw [Nat.testBit_or, Bool.or_eq_true]
  have hW : W net (s ||| q) = true := by
    refine (W_iff h hul).2 fun w hw => Classical.byContradiction fun hc => ?_
    have hno : ∀ i, i < net.length → (s ||| q).testBit i = true → (ball net i).testBit w = false := fun i hi hb => not_true fun hx => hc ((seen_balls h hul).2 ⟨i, hi, hb, hx⟩)
    have hws : s.testBit w = false := not_true fun hx => by
      have := hno w hw ((hub w).2 (.inl hx))
      rw [sees_self] at this; cases this
    refine hf.2 w hw hws fun g hg => ?_
    rcases (or_testBit _ _ _).1 hg with hgs | rfl
    · have hgl := in_lt hs hgs
      obtain ⟨a, b⟩ := hp' g hgs
      refine ⟨P g, a, fun i hi hib => ?_⟩
      rcases (or_testBit _ _ _).1 hi with hi | rfl
      · exact b i hi hib
      · have hPl := sees_lt h hgl a
        have h1 := hno (P g) hPl ((hub _).2 (.inr ((hq _).2 ⟨g, hgl, hgs, rfl⟩)))
        rw [sees_symm h hw hPl, hib] at h1; cases h1
    · refine ⟨g, sees_self net g, fun i hi hib => ?_⟩
      rcases (or_testBit _ _ _).1 hi with hi | rfl
      · rw [hno i (in_lt hs hi) ((hub i).2 (.inl hi))] at hib; cases hib
      · rfl
  have hsz := size_union h hs hql
  have hle := hm.le _ hul hW
  refine Classical.byContradiction fun hge => ?_
  -- then the union is a smallest watch, and s is not full
  have hz : size (s ||| q) = m := by omega
  have hl := few_least h (few_min.2 hm) hul hW hz
  have hN := ((least_needs h hul).1 hl).2
  have hpos := fullN_pos h hs hf
  have : ∃ w, w < net.length ∧ (s ||| q).testBit w = true ∧ s.testBit w = false := by
    refine Classical.byContradiction fun hc => ?_
    have : s ||| q = s := eq_of_bits hul hs fun j hj => by
      rw [Bool.eq_iff_iff]
      refine ⟨fun hx => Classical.byContradiction fun hy => hc ⟨j, hj, hx, not_true hy⟩, fun hx => (hub j).2 (.inl hx)⟩
    rw [this] at hz
    omega
  obtain ⟨w, hw, h1, h2⟩ := this
  refine hf.2 w hw h2 (hN.mono fun j hj => ?_)
  rcases (or_testBit _ _ _).1 hj with hj | rfl
  · exact (hub j).2 (.inl hj)
  · exact h1

/-! ### Bounds by balls, and nets without wires -/
/-- With the least ball, at most one more than the places need all. -/
theorem needs_ball {net : List Int} (h : Ok net) {s d : Nat} (hs : s < 2 ^ net.length) (hn : Needs net s) (hd : ∀ k, k < net.length → d ≤ size (ball net k)) (hd1 : d ≤ net.length + 1) : size s + d ≤ net.length + 1 := by
  have h6 := h.hi
  by_cases h0 : s = 0
  · subst h0
    have : size 0 = 0 := by decide
    omega
  obtain ⟨v, hv⟩ := pos_iff.1 h0
  have hvl := in_lt hs hv
  obtain ⟨w, hw, honly⟩ := hn v hv
  have hwl := sees_lt h hvl hw
  -- the ball of w has v alone of s
  have hb := hd w hwl
  rw [size_cnt h (h.ball_lt hwl)] at hb
  rw [size_cnt h hs]
  have : cnt net.length (fun k => s.testBit k) + cnt net.length (fun k => (ball net w).testBit k) ≤ net.length + 1 := by
    have h1 : cnt net.length (fun k => s.testBit k) + cnt net.length (fun k => (ball net w).testBit k) ≤ sumN net.length (fun k => 1 + (if k = v then 1 else 0)) := by
      unfold cnt
      rw [← sumN_add]
      refine sumN_le fun k hk => ?_
      show (s.testBit k).toNat + ((ball net w).testBit k).toNat ≤ _
      by_cases hkv : k = v
      · rw [if_pos hkv]
        cases s.testBit k <;> cases (ball net w).testBit k <;> decide
      · rw [if_neg hkv]
        cases hsk : s.testBit k with
        | false => cases (ball net w).testBit k <;> decide
        | true =>
          cases hbk : (ball net w).testBit k with
          | false => decide
          | true =>
            rw [sees_symm h hk hwl] at hbk
            exact absurd (honly k hsk hbk) hkv
    rw [sumN_add, sumN_const, sumN_one (k := v) hvl (fun j _ hj => by rw [if_neg hj]), if_pos rfl] at h1
    omega
  omega
theorem ends_zero {net : List Int} (h : Ok net) : wires net = 0 ↔ ∀ k, k < net.length → nb net k = 0 := by
  have he := ends_wires h
  constructor
  · intro hw k hk
    have h1 : size (nb net k) ≤ ends net := sumN_pos (f := fun k => size (nb net k)) hk
    have h2 : size (nb net k) = 0 := by omega
    refine zero_iff.2 fun j => not_true fun hj => ?_
    have := size_pos (h.lt64 hk) (by have := h.hi; have := h.nb_lt hk hj; omega) hj
    omega
  · intro ha
    have : ends net = 0 := by
      unfold ends
      rw [sumN_congr (g := fun _ => 0) (fun k hk => by rw [ha k hk]; rfl), sumN_zero]
    omega
theorem apart_none {net : List Int} (ha : ∀ k, k < net.length → nb net k = 0) {s : Nat} (hs : s < 2 ^ net.length) : Apart net s := fun j k hj hk => by
  rw [ha j (in_lt hs hj), Nat.zero_testBit]
/-- All places are apart just if there are no wires. -/
theorem apart_all {net : List Int} (h : Ok net) (ha : Apart net (allOf net)) : ∀ k, k < net.length → nb net k = 0 := fun k hk => zero_iff.2 fun j => not_true fun hj => by
  rw [ha k j (by rw [allOf_testBit]; simpa using hk) (by rw [allOf_testBit]; simpa using h.nb_lt hk hj)] at hj; cases hj
theorem needs_all {net : List Int} (h : Ok net) (hn : Needs net (allOf net)) : ∀ k, k < net.length → nb net k = 0 := fun k hk => by
  obtain ⟨j, hj, honly⟩ := hn k (by rw [allOf_testBit]; simpa using hk)
  have hjl := sees_lt h hk hj
  have hjk := honly j (by rw [allOf_testBit]; simpa using hjl) (sees_self net j)
  subst hjk
  refine zero_iff.2 fun i => not_true fun hi => ?_
  have hil := h.nb_lt hk hi
  have := honly i (by rw [allOf_testBit]; simpa using hil) (by rw [sees_symm h hk hil]; exact (ball_testBit _ _ _).2 (.inl hi))
  rw [this, h.irr j hk] at hi; cases hi
theorem full_size {net : List Int} (h : Ok net) {s : Nat} (hs : s < 2 ^ net.length) (hz : size s = net.length) : s = allOf net := by
  have := allOf_succ net
  refine Classical.byContradiction fun hne => ?_
  have := size_lt_len h (s := s) (by omega)
  omega
theorem most_wires {net : List Int} (h : Ok net) {m : Nat} (hm : MaxOf net (apart net) m) : wires net = 0 ↔ m = net.length := by
  rw [ends_zero h]
  constructor
  · intro ha
    have h1 := hm.le _ (allOf_lt net) ((apart_iff (allOf_lt net)).2 (apart_none ha (allOf_lt net)))
    rw [size_all h] at h1
    obtain ⟨s, a, _, c⟩ := hm.ex
    have := size_le_len h a
    omega
  · intro he
    obtain ⟨s, a, b, c⟩ := hm.ex
    have := full_size h a (by omega)
    subst this
    exact apart_all h ((apart_iff (allOf_lt net)).1 b)
theorem needs_wires {net : List Int} (h : Ok net) {m : Nat} (hm : MaxOf net (needs net) m) : wires net = 0 ↔ m = net.length := by
  rw [ends_zero h]
  constructor
  · intro ha
    have hA := apart_none ha (allOf_lt net)
    have h1 := hm.le _ (allOf_lt net) ((needs_iff h (allOf_lt net)).2 (hA.needs h (allOf_lt net)))
    rw [size_all h] at h1
    obtain ⟨s, a, _, c⟩ := hm.ex
    have := size_le_len h a
    omega
  · intro he
    obtain ⟨s, a, b, c⟩ := hm.ex
    have := full_size h a (by omega)
    subst this
    exact needs_all h ((needs_iff h (allOf_lt net)).1 b)
/-- Without wires all places are the only full set. -/
theorem none_full {net : List Int} (h : Ok net) (ha : ∀ k, k < net.length → nb net k = 0) {m : Nat} (hm : MinOf net (fullN net) m) : m = net.length := by
  obtain ⟨s, a, b, c⟩ := hm.ex
  have hf := (fullN_iff h a).1 b
  refine Classical.byContradiction fun hne => ?_
  have hlt : s ≠ allOf net := fun he => by rw [he, size_all h] at c; omega
  have : ∃ k, k < net.length ∧ s.testBit k = false := by
    refine Classical.byContradiction fun hc => hlt (eq_of_bits a (allOf_lt net) fun j hj => ?_)
    rw [allOf_testBit]
    cases hb : s.testBit j with
    | true => simpa using hj
    | false => exact absurd ⟨j, hj, hb⟩ hc
  obtain ⟨k, hk, hb⟩ := this
  exact hf.2 k hk hb ((apart_none ha (or_lt a hk)).needs h (or_lt a hk))
/-- There are at least as many places apart as parts. -/
theorem most_parts {net : List Int} (h : Ok net) {m : Nat} (hm : MaxOf net (apart net) m) : parts net ≤ m := by
  let s := orN net.length (root net) (fun k => 2 ^ k)
  have hb : ∀ j, s.testBit j = true ↔ j < net.length ∧ root net j = true := fun j => by
    show (orN _ _ _).testBit j = true ↔ _
    rw [orN_testBit]
    constructor
    · rintro ⟨k, hk, a, b⟩
      rw [testBit_pow, decide_eq_true_eq] at b
      subst b
      exact ⟨hk, a⟩
    · rintro ⟨a, b⟩
      exact ⟨j, a, b, by rw [testBit_pow]; simp⟩
  have hs : s < 2 ^ net.length := orN_lt fun k hk _ => Nat.pow_lt_pow_right (by omega) hk
  have hA : Apart net s := fun j k hj hk => not_true fun hx => by
    obtain ⟨a, b⟩ := (hb j).1 hj
    obtain ⟨c, d⟩ := (hb k).1 hk
    have := root_same h a c b d (h.comp_same a c (comp_nb h a hx))
    rw [this, h.irr k c] at hx; cases hx
  have := hm.le s hs ((apart_iff hs).2 hA)
  rw [size_cnt h hs] at this
  rw [parts_cnt]
  refine Nat.le_trans (cnt_mono fun k hk hr => (hb k).2 ⟨hk, hr⟩) this

/-! ### How many sets are apart -/
def apartCount (net : List Int) : Nat := cnt (2 ^ net.length) (apart net)
theorem apartCount_le (net : List Int) : apartCount net ≤ 2 ^ net.length := cnt_le _ _
theorem pow_inj_pos {j k : Nat} (h : 2 ^ j = 2 ^ k) : j = k := by
  have : (2 ^ j).testBit k = true := by rw [h, testBit_pow]; simp
  rw [testBit_pow, decide_eq_true_eq] at this
  exact this
theorem apartCount_ge {net : List Int} (h : Ok net) : net.length + 1 ≤ apartCount net := by
  unfold apartCount
  have := cnt_inj (n := net.length + 1) (m := 2 ^ net.length) (p := fun _ => true) (q := apart net) (fun k => if k = 0 then 0 else 2 ^ (k - 1)) (fun k hk _ => ?_) (fun j k hj hk _ _ he => ?_)
  · rw [cnt_true] at this; exact this
  · by_cases h0 : k = 0
    · simp only [h0, if_true]
      exact ⟨Nat.two_pow_pos _, (apart_iff (Nat.two_pow_pos _)).2 (Apart.zero net)⟩
    · simp only [h0, if_false]
      have hlt : 2 ^ (k - 1) < 2 ^ net.length := Nat.pow_lt_pow_right (by omega) (by omega)
      exact ⟨hlt, (apart_iff hlt).2 (Apart.one h (by omega))⟩
  · have hp1 := Nat.two_pow_pos (j - 1)
    have hp2 := Nat.two_pow_pos (k - 1)
    by_cases h0 : j = 0 <;> by_cases h1 : k = 0
    · omega
    · rw [if_pos h0, if_neg h1] at he; omega
    · rw [if_neg h0, if_pos h1] at he; omega
    · rw [if_neg h0, if_neg h1] at he
      have := pow_inj_pos he
      omega
theorem apartCount_wires {net : List Int} (h : Ok net) : apartCount net = 2 ^ net.length ↔ wires net = 0 := by
  rw [ends_zero h]
  unfold apartCount
  constructor
  · intro he
    exact apart_all h ((apart_iff (allOf_lt net)).1 (cnt_all he (allOf_lt net)))
  · intro ha
    rw [cnt_congr (q := fun _ => true) (fun s hs => (apart_iff hs).2 (apart_none ha hs)), cnt_true]
end Go.Proofs.Ythcidiihfjjpdaa
/- Guards near each other: plain facts of total and joined watches. Conditions: those of each theorem. -/
namespace Go.Proofs.Ythcidiihfjjpdaa
set_option linter.unusedVariables false
set_option linter.unusedSimpArgs false

/-! ### Total watches -/
def total (net : List Int) (s : Nat) : Bool := near net s == allOf net
theorem near_iff {net : List Int} (h : Ok net) (s : Nat) {j : Nat} (hj : j < net.length) : (near net s).testBit j = true ↔ ∃ k, k < net.length ∧ s.testBit k = true ∧ (nb net j).testBit k = true := by
  rw [near_testBit]
  constructor
  · rintro ⟨k, hk, a, b⟩; exact ⟨k, hk, a, by rw [← h.sym _ _ hj hk]; exact b⟩
  · rintro ⟨k, hk, a, b⟩; exact ⟨k, hk, a, by rw [h.sym _ _ hj hk]; exact b⟩
theorem total_iff {net : List Int} (h : Ok net) {s : Nat} : total net s = true ↔ ∀ j, j < net.length → ∃ k, k < net.length ∧ s.testBit k = true ∧ (nb net j).testBit k = true := by
  unfold total
  rw [beq_iff_eq]
  constructor
  · intro he j hj
    exact (near_iff h s hj).1 (by rw [he, allOf_testBit]; simpa using hj)
  · intro ha
    refine eq_of_bits (h.near_lt s) (allOf_lt net) fun j hj => ?_
    rw [(near_iff h s hj).2 (ha j hj), allOf_testBit]; simp [hj]
theorem total_watch {net : List Int} (h : Ok net) {s : Nat} (hs : s < 2 ^ net.length) (ht : total net s = true) : W net s = true :=
  (W_iff h hs).2 fun j hj => (seen_iff h s hj).2 (.inr ((total_iff h).1 ht j hj))
theorem total_mono {net : List Int} (h : Ok net) {s t : Nat} (hst : ∀ j, s.testBit j = true → t.testBit j = true) (ht : total net s = true) : total net t = true :=
  (total_iff h).2 fun j hj => by obtain ⟨k, a, b, c⟩ := (total_iff h).1 ht j hj; exact ⟨k, a, hst k b, c⟩
theorem total_all {net : List Int} (h : Ok net) : total net (allOf net) = true ↔ ∀ k, k < net.length → nb net k ≠ 0 := by
  rw [total_iff h]
  constructor
  · intro ha k hk
    obtain ⟨i, _, _, hi⟩ := ha k hk
    exact pos_iff.2 ⟨i, hi⟩
  · intro ha j hj
    obtain ⟨k, hk⟩ := pos_iff.1 (ha j hj)
    have := h.nb_lt hj hk
    exact ⟨k, this, by rw [allOf_testBit]; simpa using this, hk⟩
theorem total_two {net : List Int} (h : Ok net) {s : Nat} (hs : s < 2 ^ net.length) (ht : total net s = true) : 2 ≤ size s := by
  have h6 := h.hi
  obtain ⟨k, hk, a, _⟩ := (total_iff h).1 ht 0 h.lo
  obtain ⟨j, hj, b, c⟩ := (total_iff h).1 ht k hk
  have hne : j ≠ k := fun he => by rw [he, h.irr k hk] at c; cases c
  have h1 := (bits_sub s (lt64 h hs) k (by omega) a).2.2.1
  have h2 : (s - 2 ^ k).testBit j = true := by rw [sub_testBit (lt64 h hs) (by omega) a, b]; simp [hne]
  have h3 := size_pos (lt64 h (sub_lt (k := k) hs)) (by omega) h2
  omega
/-- A set of chosen places. -/
theorem chosen {net : List Int} (h : Ok net) {s : Nat} (hs : s < 2 ^ net.length) {R : Nat → Nat → Prop} (hR : ∀ g, s.testBit g = true → ∃ j, j < net.length ∧ R g j) :
    ∃ q, q < 2 ^ net.length ∧ size q ≤ size s ∧ (∀ g, s.testBit g = true → ∃ j, q.testBit j = true ∧ R g j) ∧ ∀ j, q.testBit j = true → ∃ g, s.testBit g = true ∧ R g j := by
  have hpv : ∀ g, ∃ j, s.testBit g = true → j < net.length ∧ R g j := fun g => by
    by_cases hg : s.testBit g = true
    · obtain ⟨j, hj⟩ := hR g hg; exact ⟨j, fun _ => hj⟩
    · exact ⟨0, fun hh => absurd hh hg⟩
  have hp' : ∃ P : Nat → Nat, ∀ g, s.testBit g = true → P g < net.length ∧ R g (P g) := ⟨fun g => Classical.choose (hpv g), fun g => Classical.choose_spec (hpv g)⟩
  obtain ⟨P, hp⟩ := hp'
  have hq : ∀ j, (orN net.length (fun g => s.testBit g) (fun g => 2 ^ P g)).testBit j = true ↔ ∃ g, g < net.length ∧ s.testBit g = true ∧ P g = j := fun j => by
    rw [orN_testBit]
    simp only [testBit_pow, decide_eq_true_eq]
  have hql : orN net.length (fun g => s.testBit g) (fun g => 2 ^ P g) < 2 ^ net.length := orN_lt fun g hg hb => Nat.pow_lt_pow_right (by omega) (hp g hb).1
  refine ⟨_, hql, ?_, fun g hg => ⟨P g, (hq _).2 ⟨g, in_lt hs hg, hg, rfl⟩, (hp g hg).2⟩, fun j hj => ?_⟩
  · rw [size_cnt h hql, size_cnt h hs]
    have hback : ∀ j, ∃ g, (orN net.length (fun g => s.testBit g) (fun g => 2 ^ P g)).testBit j = true → g < net.length ∧ s.testBit g = true ∧ P g = j := fun j => by
      by_cases hj : (orN net.length (fun g => s.testBit g) (fun g => 2 ^ P g)).testBit j = true
      · obtain ⟨g, hg⟩ := (hq j).1 hj; exact ⟨g, fun _ => hg⟩
      · exact ⟨0, fun hh => absurd hh hj⟩
    refine cnt_inj (fun j => Classical.choose (hback j)) (fun j _ hj => ?_) (fun i j _ _ hi hj he => ?_)
    · have := Classical.choose_spec (hback j) hj
      exact ⟨this.1, this.2.1⟩
    · have h1 := (Classical.choose_spec (hback i) hi).2.2
      have h2 := (Classical.choose_spec (hback j) hj).2.2
      rw [he] at h1
      exact h1.symm.trans h2
  · obtain ⟨g, _, hg, rfl⟩ := (hq j).1 hj
    exact ⟨g, hg, (hp g hg).2⟩
theorem or2 (s t j : Nat) : (s ||| t).testBit j = true ↔ s.testBit j = true ∨ t.testBit j = true := by rw [Nat.testBit_or, Bool.or_eq_true]
/-- At most twice the watch. -/
theorem total_twice {net : List Int} (h : Ok net) (hlone : ∀ k, k < net.length → nb net k ≠ 0) {s : Nat} (hs : s < 2 ^ net.length) (hw : W net s = true) : ∃ t, t < 2 ^ net.length ∧ total net t = true ∧ size t ≤ 2 * size s := by
  obtain ⟨q, hq, hz, h1, _⟩ := chosen h hs (R := fun g j => (nb net g).testBit j = true) (fun g hg => by
    obtain ⟨j, hj⟩ := pos_iff.1 (hlone g (in_lt hs hg))
    exact ⟨j, h.nb_lt (in_lt hs hg) hj, hj⟩)
  refine ⟨s ||| q, Nat.or_lt_two_pow hs hq, (total_iff h).2 fun j hj => ?_, by have := size_union h hs hq; omega⟩
  rcases (seen_iff h s hj).1 ((W_iff h hs).1 hw j hj) with a | ⟨k, hk, a, b⟩
  · obtain ⟨i, hi, hi2⟩ := h1 j a
    exact ⟨i, in_lt hq hi, (or2 _ _ _).2 (.inr hi), hi2⟩
  · exact ⟨k, hk, (or2 _ _ _).2 (.inl a), b⟩

/-! ### Sets that stand together -/
def Together (net : List Int) (s : Nat) : Prop := s ≠ 0 ∧ ∀ i j, s.testBit i = true → s.testBit j = true → Reach net s i j
theorem Reach.mono {net : List Int} {A B i j : Nat} (hAB : ∀ k, A.testBit k = true → B.testBit k = true) (hr : Reach net A i j) : Reach net B i j := by
  induction hr with
  | here ha => exact .here (hAB _ ha)
  | step _ hj hn ha ih => exact .step ih hj hn (hAB _ ha)
/-- From one place to all is enough. -/
theorem together_of {net : List Int} (h : Ok net) {s i : Nat} (hs : s < 2 ^ net.length) (hi : s.testBit i = true) (ha : ∀ j, s.testBit j = true → Reach net s i j) : Together net s :=
  ⟨fun h0 => (by rw [h0, Nat.zero_testBit] at hi; cases hi), fun j k hj hk => ((ha j hj).symm h (in_lt hs hi)).trans (ha k hk)⟩
theorem together_part {net : List Int} (h : Ok net) {s i : Nat} (hs : s < 2 ^ net.length) (hi : s.testBit i = true) : part net s i = s ↔ Together net s := by
  have hil := in_lt hs hi
  constructor
  · intro he
    exact together_of h hs hi fun j hj => (h.part_testBit hil j).1 (by rw [he]; exact hj)
  · rintro ⟨_, ha⟩
    apply Nat.eq_of_testBit_eq
    intro j
    rw [Bool.eq_iff_iff, h.part_testBit hil]
    exact ⟨fun hr => hr.among.2, fun hj => ha i j hi hj⟩
theorem together_one {net : List Int} (h : Ok net) {k : Nat} (hk : k < net.length) : Together net (2 ^ k) := by
  have hb : (2 ^ k).testBit k = true := by rw [testBit_pow]; simp
  refine together_of h (Nat.pow_lt_pow_right (by omega) hk) hb fun j hj => ?_
  rw [testBit_pow, decide_eq_true_eq] at hj
  subst hj
  exact .here hb
/-- Within a part one comes from each to each. -/
theorem together_comp {net : List Int} (h : Ok net) {k : Nat} (hk : k < net.length) : Together net (comp net k) := by
  refine together_of h (h.comp_lt hk) (h.comp_self hk) fun j hj => ?_
  have hr := (h.comp_testBit hk j).1 hj
  clear hj
  induction hr with
  | here _ => exact .here (h.comp_self hk)
  | step hr hj hn ha ih => exact .step ih hj hn ((h.comp_testBit hk _).2 (.step hr hj hn ha))
theorem together_in {net : List Int} (h : Ok net) {s k : Nat} (hs : s < 2 ^ net.length) (ht : Together net s) (hk : s.testBit k = true) {j : Nat} (hj : s.testBit j = true) : (comp net k).testBit j = true :=
  (h.comp_testBit (in_lt hs hk) j).2 ((ht.2 k j hk hj).mono fun i hi => by rw [allOf_testBit]; simpa using in_lt hs hi)
/-- One part. -/
theorem one_part {net : List Int} (h : Ok net) : parts net = 1 ↔ ∀ j k, j < net.length → k < net.length → (comp net j).testBit k = true := by
  rw [parts_cnt]
  constructor
  · intro he j k hj hk
    obtain ⟨r, hr, hrr, hrc⟩ := root_of h hj
    obtain ⟨q, hq, hqr, hqc⟩ := root_of h hk
    have : r = q := Classical.byContradiction fun hne => by
      have h2 : 2 ≤ cnt net.length (root net) := by
        have := cnt_inj (n := 2) (m := net.length) (p := fun _ => true) (q := root net) (fun i => if i = 0 then r else q) (fun i hi _ => by
          by_cases h0 : i = 0
          · rw [if_pos h0]; exact ⟨by omega, hrr⟩
          · rw [if_neg h0]; exact ⟨by omega, hqr⟩) (fun a b ha hb _ _ hab => by
          by_cases h0 : a = 0 <;> by_cases h1 : b = 0
          · omega
          · rw [if_pos h0, if_neg h1] at hab; exact absurd hab hne
          · rw [if_neg h0, if_pos h1] at hab; exact absurd hab.symm hne
          · omega)
        rw [cnt_true] at this; exact this
      omega
    subst this
    rw [← hrc, hqc]; exact h.comp_self hk
  · intro ha
    have h0 := h.lo
    have hr : ∀ k, k < net.length → root net k = decide (k = 0) := fun k hk => by
      rw [Bool.eq_iff_iff, root_iff, decide_eq_true_eq]
      constructor
      · intro hx
        refine Classical.byContradiction fun hne => ?_
        have := hx 0 (by omega)
        rw [ha k 0 hk h0] at this; cases this
      · rintro rfl j hj; omega
    show sumN net.length (fun k => (root net k).toNat) = 1
    rw [sumN_one (k := 0) h0 (fun j hj hne => by rw [hr j hj]; simp [hne]), hr 0 h0]
    rfl
theorem joined_part {net : List Int} (h : Ok net) {s : Nat} (hs : s < 2 ^ net.length) (ht : Together net s) (hw : W net s = true) : parts net = 1 := by
  have key : ∀ j, j < net.length → ∃ g, s.testBit g = true ∧ (comp net g).testBit j = true := fun j hj => by
    obtain ⟨k, hk, a, b⟩ := (seen_balls h hs).1 ((W_iff h hs).1 hw j hj)
    refine ⟨k, a, ?_⟩
    rcases (ball_testBit _ _ _).1 b with b | rfl
    · exact comp_nb h hk b
    · exact h.comp_self hk
  rw [one_part h]
  intro j k hj hk
  obtain ⟨a, ha, hja⟩ := key j hj
  obtain ⟨b, hb, hkb⟩ := key k hk
  have hal := in_lt hs ha
  have hbl := in_lt hs hb
  have e1 := h.comp_same hal hj hja
  have e2 := h.comp_same hal hbl (together_in h hs ht ha hb)
  rw [← e1, e2]; exact hkb
/-- With two guards or more each place has a guard as its neighbour. -/
theorem joined_total {net : List Int} (h : Ok net) {s : Nat} (hs : s < 2 ^ net.length) (ht : Together net s) (hw : W net s = true) (hz : 2 ≤ size s) : total net s = true := by
  have h6 := h.hi
  refine (total_iff h).2 fun j hj => ?_
  rcases (seen_iff h s hj).1 ((W_iff h hs).1 hw j hj) with a | ⟨k, hk, a, b⟩
  · -- another guard, and the first step towards j
    have : ∃ i, s.testBit i = true ∧ i ≠ j := by
      refine Classical.byContradiction fun hc => ?_
      have h1 := (bits_sub s (lt64 h hs) j (by omega) a).2.2.1
      have : s - 2 ^ j ≠ 0 := fun h0 => by rw [h0] at h1; have : size 0 = 0 := by decide
                                           omega
      obtain ⟨i, hi⟩ := pos_iff.1 this
      rw [sub_testBit (lt64 h hs) (by omega) a, Bool.and_eq_true] at hi
      exact hc ⟨i, hi.1, by simpa using hi.2⟩
    obtain ⟨i, hi, hne⟩ := this
    have hr := ht.2 i j hi a
    cases hr with
    | here _ => exact absurd rfl hne
    | step hr2 hl hn _ => exact ⟨_, hl, hr2.among.2, by rw [h.sym _ _ hl hj]; exact hn⟩
  · exact ⟨k, hk, a, b⟩
theorem size_or_one {net : List Int} (h : Ok net) {s k : Nat} (hs : s < 2 ^ net.length) (hk : k < net.length) : size (s ||| 2 ^ k) ≤ size s + 1 := by
  cases hb : s.testBit k with
  | false => rw [size_add (lt64 h hs) (by have := h.hi; omega) hb]; exact Nat.le_refl _
  | true =>
    have : s ||| 2 ^ k = s := Nat.eq_of_testBit_eq fun j => by
      rw [Bool.eq_iff_iff, or_testBit]
      exact ⟨fun hh => hh.elim id (fun he => by rw [he]; exact hb), .inl⟩
    rw [this]; omega
/-- A neighbour joins a set that stands together. -/
theorem together_add {net : List Int} (h : Ok net) {s u v : Nat} (hs : s < 2 ^ net.length) (ht : Together net s) (hu : s.testBit u = true) (hv : (ball net u).testBit v = true) : Together net (s ||| 2 ^ v) := by
  have hul := in_lt hs hu
  have hvl := sees_lt h hul hv
  have hsub : ∀ k, s.testBit k = true → (s ||| 2 ^ v).testBit k = true := fun k hk => (or_testBit _ _ _).2 (.inl hk)
  refine together_of h (or_lt hs hvl) (hsub u hu) fun j hj => ?_
  rcases (or_testBit _ _ _).1 hj with hj | rfl
  · exact (ht.2 u j hu hj).mono hsub
  · rcases (ball_testBit _ _ _).1 hv with a | rfl
    · exact .step (.here (hsub u hu)) hul a ((or_testBit _ _ _).2 (.inr rfl))
    · exact .here (hsub u hu)
/-- From within to without there is a wire. -/
theorem leaves {net : List Int} {A i j t : Nat} (hr : Reach net A i j) (hi : t.testBit i = true) (hj : t.testBit j = false) : ∃ u v, t.testBit u = true ∧ t.testBit v = false ∧ u < net.length ∧ (nb net u).testBit v = true := by
  induction hr with
  | here _ => rw [hi] at hj; cases hj
  | @step a b hr hl hn _ ih =>
    cases hb : t.testBit a with
    | true => exact ⟨a, b, hb, hj, hl, hn⟩
    | false => exact ih hb
/-- A joined watch: three for each guard of a watch, less two. -/
theorem joined_three {net : List Int} (h : Ok net) (h1 : parts net = 1) {s : Nat} (hs : s < 2 ^ net.length) (hw : W net s = true) : ∃ t, t < 2 ^ net.length ∧ Together net t ∧ W net t = true ∧ size t + 2 ≤ 3 * size s := by
  have h6 := h.hi
  have hone := (one_part h).1 h1
  have inter : ∀ j : Nat, ∀ t d : Nat, t.testBit d = false → s.testBit d = true → d < net.length → t < 2 ^ net.length → size (s &&& t) + 1 ≤ size (s &&& (t ||| 2 ^ d)) := fun _ t d hd hsd hdl ht => by
    have e : s &&& (t ||| 2 ^ d) = (s &&& t) ||| 2 ^ d := Nat.eq_of_testBit_eq fun j => by
      rw [Bool.eq_iff_iff, Nat.testBit_and, Bool.and_eq_true, or_testBit, or_testBit, Nat.testBit_and, Bool.and_eq_true]
      constructor
      · rintro ⟨a, b | b⟩
        · exact .inl ⟨a, b⟩
        · exact .inr b
      · rintro (⟨a, b⟩ | b)
        · exact ⟨a, .inl b⟩
        · rw [b]; exact ⟨hsd, .inr rfl⟩
    have hlt : s &&& t < 64 := Nat.lt_of_le_of_lt Nat.and_le_left (lt64 h hs)
    rw [e, size_add hlt (by omega) (by rw [Nat.testBit_and, hd, Bool.and_false])]
    exact Nat.le_refl _
  have mono : ∀ t u : Nat, (∀ j, t.testBit j = true → u.testBit j = true) → size (s &&& t) ≤ size (s &&& u) := fun t u htu => by
    have h1 : s &&& t < 2 ^ net.length := Nat.lt_of_le_of_lt Nat.and_le_left hs
    have h2 : s &&& u < 2 ^ net.length := Nat.lt_of_le_of_lt Nat.and_le_left hs
    rw [size_cnt h h1, size_cnt h h2]
    refine cnt_mono fun k _ hk => ?_
    rw [Nat.testBit_and, Bool.and_eq_true] at hk ⊢
    exact ⟨hk.1, htu k hk.2⟩
  have bound : ∀ t : Nat, size (s &&& t) ≤ size s := fun t => by
    have h1 : s &&& t < 2 ^ net.length := Nat.lt_of_le_of_lt Nat.and_le_left hs
    rw [size_cnt h h1, size_cnt h hs]
    refine cnt_mono fun k _ hk => ?_
    rw [Nat.testBit_and, Bool.and_eq_true] at hk
    exact hk.1
  have grow : ∀ m t, size s - size (s &&& t) ≤ m → t < 2 ^ net.length → Together net t → 1 ≤ size (s &&& t) → size t + 2 ≤ 3 * size (s &&& t) → ∃ t', t' < 2 ^ net.length ∧ Together net t' ∧ W net t' = true ∧ size t' + 2 ≤ 3 * size s := by
    intro m
    induction m with
    | zero =>
      intro t hm ht hT hp hz
      -- all of s is in t
      have hle := bound t
      have hall : ∀ j, s.testBit j = true → t.testBit j = true := fun j hj => Classical.byContradiction fun hc => by
        have hd : t.testBit j = false := not_true hc
        have h2 := inter 0 t j hd hj (in_lt hs hj) ht
        have h3 := bound (t ||| 2 ^ j)
        omega
      exact ⟨t, ht, hT, W_mono h hs ht hall hw, by omega⟩
    | succ m ih =>
      intro t hm ht hT hp hz
      have hle := bound t
      cases hW : W net t with
      | true => exact ⟨t, ht, hT, hW, by omega⟩
      | false =>
        -- a place that t does not see
        have hex : ∃ v, v < net.length ∧ (seen net t).testBit v = false := by
          refine Classical.byContradiction fun hc => ?_
          rw [(W_iff h ht).2 (fun v hv => ?_)] at hW
          · cases hW
          · cases hv2 : (seen net t).testBit v with
            | true => rfl
            | false => exact absurd ⟨v, hv, hv2⟩ hc
        obtain ⟨y, hy, hyn⟩ := hex
        obtain ⟨x, hx⟩ := pos_iff.1 hT.1
        have hxl := in_lt ht hx
        obtain ⟨u, v, hu, hv, hul, huv⟩ := leaves ((h.comp_testBit hxl y).1 (hone x y hxl hy)) ((seen_testBit net t x).2 (.inl hx)) hyn
        have hvl := h.nb_lt hul huv
        -- u is seen by t
        obtain ⟨g, hgl, hg, hgu⟩ := (seen_balls h ht).1 hu
        -- v is seen by s
        obtain ⟨d, hdl, hd, hdv⟩ := (seen_balls h hs).1 ((W_iff h hs).1 hw v hvl)
        have hdt : t.testBit d = false := not_true fun hc => by rw [(seen_balls h ht).2 ⟨d, hdl, hc, hdv⟩] at hv; cases hv
        have ht1 : t ||| 2 ^ u < 2 ^ net.length := or_lt ht hul
        have hT1 := together_add h ht hT hg hgu
        have hu1 : (t ||| 2 ^ u).testBit u = true := (or_testBit _ _ _).2 (.inr rfl)
        have ht2 : (t ||| 2 ^ u) ||| 2 ^ v < 2 ^ net.length := or_lt ht1 hvl
        have hT2 := together_add h ht1 hT1 hu1 ((ball_testBit _ _ _).2 (.inl huv))
        have hv2 : ((t ||| 2 ^ u) ||| 2 ^ v).testBit v = true := (or_testBit _ _ _).2 (.inr rfl)
        have ht3 : ((t ||| 2 ^ u) ||| 2 ^ v) ||| 2 ^ d < 2 ^ net.length := or_lt ht2 hdl
        have hT3 := together_add h ht2 hT2 hv2 (by rw [sees_symm h hdl hvl]; exact hdv)
        have z1 := size_or_one h ht hul
        have z2 := size_or_one h ht1 hvl
        have z3 := size_or_one h ht2 hdl
        have hsub : ∀ j, (t ||| 2 ^ d).testBit j = true → (((t ||| 2 ^ u) ||| 2 ^ v) ||| 2 ^ d).testBit j = true := fun j hj => by
          rcases (or_testBit _ _ _).1 hj with hj | hj
          · exact (or_testBit _ _ _).2 (.inl ((or_testBit _ _ _).2 (.inl ((or_testBit _ _ _).2 (.inl hj)))))
          · exact (or_testBit _ _ _).2 (.inr hj)
        have z4 := mono _ _ hsub
        have z5 := inter 0 t d hdt hd hdl ht
        have z6 := bound (((t ||| 2 ^ u) ||| 2 ^ v) ||| 2 ^ d)
        exact ih _ (by omega) ht3 hT3 (by omega) (by omega)
  -- begin with one guard
  have hne : s ≠ 0 := fun h0 => by rw [h0, W_zero h] at hw; cases hw
  obtain ⟨x, hx⟩ := pos_iff.1 hne
  have hxl := in_lt hs hx
  have hpl : 2 ^ x < 2 ^ net.length := Nat.pow_lt_pow_right (by omega) hxl
  have e1 : s &&& 2 ^ x = 2 ^ x := Nat.eq_of_testBit_eq fun j => by
    rw [Nat.testBit_and, testBit_pow]
    by_cases hxj : x = j
    · rw [← hxj, hx]; rfl
    · simp [hxj]
  have e2 : size (2 ^ x) = 1 := by
    rw [size_cnt h hpl]
    show sumN net.length (fun k => ((2 ^ x).testBit k).toNat) = 1
    rw [sumN_one (k := x) hxl (fun j _ hj => by rw [testBit_pow]; simp; omega), testBit_pow]
    simp
  exact grow _ (2 ^ x) (Nat.le_refl _) hpl (together_one h hxl) (by rw [e1, e2]; exact Nat.le_refl _) (by rw [e1, e2]; exact Nat.le_refl _)
end Go.Proofs.Ythcidiihfjjpdaa
/- Two guards at a place, and a guard that leaves: plain facts. Conditions: those of each theorem. -/
namespace Go.Proofs.Ythcidiihfjjpdaa
set_option linter.unusedVariables false
set_option linter.unusedSimpArgs false

/-! ### Rows of small numbers -/
/-- The places with at least m guards. -/
def withN (n : Nat) (r : Nat → Nat) (m : Nat) : Nat := orN n (fun k => decide (m ≤ r k)) (fun k => 2 ^ k)
theorem withN_testBit (n : Nat) (r : Nat → Nat) (m j : Nat) : (withN n r m).testBit j = true ↔ j < n ∧ m ≤ r j := by
  unfold withN
  rw [orN_testBit]
  constructor
  · rintro ⟨k, hk, a, b⟩
    rw [testBit_pow, decide_eq_true_eq] at b
    subst b
    exact ⟨hk, by simpa using a⟩
  · rintro ⟨a, b⟩
    exact ⟨j, a, by simpa using b, by rw [testBit_pow]; simp⟩
theorem withN_lt (n : Nat) (r : Nat → Nat) (m : Nat) : withN n r m < 2 ^ n := orN_lt fun k hk _ => Nat.pow_lt_pow_right (by omega) hk
/-- The digits of a number to the base three, the first one ahead. -/
def dig (n m k : Nat) : Nat := m / 3 ^ (n - 1 - k) % 3
theorem dig_lt (n m k : Nat) : dig n m k ≤ 2 := by unfold dig; omega
theorem dig_last (n m : Nat) : dig (n + 1) m n = m % 3 := by
  unfold dig
  rw [show n + 1 - 1 - n = 0 by omega]; simp
theorem dig_ahead {n m k : Nat} (hk : k < n) : dig (n + 1) m k = dig n (m / 3) k := by
  unfold dig
  rw [show n + 1 - 1 - k = (n - 1 - k) + 1 by omega, Nat.pow_succ, Nat.mul_comm, ← Nat.div_div_eq_div_mul]
/-- Each row is one of the rows that are counted up. -/
theorem dig_all {n : Nat} {r : Nat → Nat} (hr : ∀ k, k < n → r k ≤ 2) : ∃ m, m < 3 ^ n ∧ ∀ k, k < n → dig n m k = r k := by
  induction n with
  | zero => exact ⟨0, by simp, fun k hk => by omega⟩
  | succ n ih =>
    obtain ⟨m, hm, hd⟩ := ih (fun k hk => hr k (by omega))
    have h2 := hr n (by omega)
    refine ⟨3 * m + r n, by rw [Nat.pow_succ]; omega, fun k hk => ?_⟩
    by_cases hkn : k = n
    · rw [hkn, dig_last]; omega
    · rw [dig_ahead (by omega), show (3 * m + r n) / 3 = m by omega]
      exact hd k (by omega)
/-- So few guards a row of a kind can have. -/
structure MinRow (n : Nat) (p : (Nat → Nat) → Prop) (m : Nat) : Prop where
  ex : ∃ r, (∀ k, k < n → r k ≤ 2) ∧ p r ∧ sumN n r = m
  le : ∀ r, (∀ k, k < n → r k ≤ 2) → p r → m ≤ sumN n r
theorem MinRow.uniq {n : Nat} {p : (Nat → Nat) → Prop} {a b : Nat} (ha : MinRow n p a) (hb : MinRow n p b) : a = b := by
  obtain ⟨r, h1, h2, h3⟩ := ha.ex
  obtain ⟨q, g1, g2, g3⟩ := hb.ex
  have := ha.le q g1 g2
  have := hb.le r h1 h2
  omega
def RomanP (net : List Int) (r : Nat → Nat) : Prop := ∀ k, k < net.length → r k = 0 → ∃ j, j < net.length ∧ (nb net k).testBit j = true ∧ 2 ≤ r j
def help (net : List Int) (r : Nat → Nat) (k : Nat) : Nat := sumN net.length (fun j => ((nb net k).testBit j).toNat * r j)
def ItalianP (net : List Int) (r : Nat → Nat) : Prop := ∀ k, k < net.length → r k = 0 → 2 ≤ help net r k
theorem roman_italian {net : List Int} {r : Nat → Nat} (hr : RomanP net r) : ItalianP net r := fun k hk h0 => by
  obtain ⟨j, hj, a, b⟩ := hr k hk h0
  have := sumN_pos (f := fun j => ((nb net k).testBit j).toNat * r j) hj
  simp only [a, Bool.toNat_true, Nat.one_mul] at this
  unfold help; omega
theorem help_some {net : List Int} {r : Nat → Nat} {k : Nat} (h : 1 ≤ help net r k) : ∃ j, j < net.length ∧ (nb net k).testBit j = true ∧ 1 ≤ r j := by
  refine Classical.byContradiction fun hc => ?_
  have : help net r k = 0 := by
    unfold help
    rw [sumN_congr (g := fun _ => 0) (fun j hj => ?_), sumN_zero]
    cases hb : (nb net k).testBit j with
    | false => simp
    | true =>
      have : ¬ 1 ≤ r j := fun h1 => hc ⟨j, hj, hb, h1⟩
      simp; omega
  omega
/-- Italian rows watch, whether one has two or not. -/
theorem italian_watch {net : List Int} (h : Ok net) {r : Nat → Nat} (hr : ItalianP net r) : W net (withN net.length r 1) = true := by
  refine (W_iff h (withN_lt _ _ _)).2 fun j hj => (seen_iff h _ hj).2 ?_
  by_cases h0 : r j = 0
  · obtain ⟨i, hi, a, b⟩ := help_some (Nat.le_trans (by omega) (hr j hj h0))
    exact .inr ⟨i, hi, (withN_testBit _ _ _ _).2 ⟨hi, b⟩, a⟩
  · exact .inl ((withN_testBit _ _ _ _).2 ⟨hj, by omega⟩)
theorem with_sum {net : List Int} (h : Ok net) (r : Nat → Nat) : size (withN net.length r 1) ≤ sumN net.length r := by
  rw [size_cnt h (withN_lt _ _ _)]
  refine sumN_le fun k hk => ?_
  show ((withN net.length r 1).testBit k).toNat ≤ r k
  cases hb : (withN net.length r 1).testBit k with
  | false => exact Nat.zero_le _
  | true => exact ((withN_testBit _ _ _ _).1 hb).2
/-- The row of a set: two at its places, one where it does not see. -/
def rowOfN (net : List Int) (s k : Nat) : Nat := if s.testBit k = true then 2 else if (seen net s).testBit k = true then 0 else 1
theorem rowOfN_roman {net : List Int} (h : Ok net) {s : Nat} (hs : s < 2 ^ net.length) : (∀ k, k < net.length → rowOfN net s k ≤ 2) ∧ RomanP net (rowOfN net s) := by
  refine ⟨fun k _ => by unfold rowOfN; split; omega; split <;> omega, fun k hk h0 => ?_⟩
  unfold rowOfN at h0
  split at h0
  · cases h0
  · rename_i hb
    split at h0
    · rename_i hsn
      rcases (seen_iff h s hk).1 hsn with a | ⟨j, hj, a, b⟩
      · exact absurd a hb
      · exact ⟨j, hj, b, by unfold rowOfN; rw [if_pos a]; exact Nat.le_refl _⟩
    · cases h0
theorem rowOfN_sum {net : List Int} (h : Ok net) {s : Nat} (hs : s < 2 ^ net.length) : sumN net.length (rowOfN net s) + size (seen net s) = 2 * size s + net.length := by
  rw [size_cnt h (h.seen_lt hs), size_cnt h hs]
  unfold cnt
  rw [← sumN_add, Nat.mul_comm, ← sumN_mul, show net.length = sumN net.length (fun _ => 1) by rw [sumN_const]; omega]
  simp only [sumN_const, Nat.mul_one]
  have : sumN net.length (fun k => (s.testBit k).toNat * 2) + net.length = sumN net.length (fun k => (s.testBit k).toNat * 2 + 1) := by rw [sumN_add, sumN_const]; omega
  rw [this]
  refine sumN_congr fun k hk => ?_
  unfold rowOfN
  cases hb : s.testBit k with
  | true => rw [(seen_testBit net s k).2 (.inl hb)]; rfl
  | false => cases hc : (seen net s).testBit k <;> rfl
/-- A Roman row has no fewer than the row of its places with two. -/
theorem roman_ge {net : List Int} (h : Ok net) {r : Nat → Nat} (hr : RomanP net r) : 2 * size (withN net.length r 2) + net.length ≤ sumN net.length r + size (seen net (withN net.length r 2)) := by
  have hs := withN_lt net.length r 2
  rw [← rowOfN_sum h hs]
  have : sumN net.length (rowOfN net (withN net.length r 2)) ≤ sumN net.length r := sumN_le fun k hk => by
    unfold rowOfN
    split
    · rename_i hb; exact ((withN_testBit _ _ _ _).1 hb).2
    · rename_i hb
      split
      · exact Nat.zero_le _
      · rename_i hc
        refine Nat.one_le_iff_ne_zero.2 fun h0 => ?_
        obtain ⟨j, hj, a, b⟩ := hr k hk h0
        exact hc ((seen_iff h _ hk).2 (.inr ⟨j, hj, (withN_testBit _ _ _ _).2 ⟨hj, b⟩, a⟩))
  omega
/-- Twice the watch is enough. -/
theorem roman_twice {net : List Int} (h : Ok net) {s : Nat} (hs : s < 2 ^ net.length) (hw : W net s = true) : sumN net.length (rowOfN net s) = 2 * size s := by
  have h1 := rowOfN_sum h hs
  have h2 : size (seen net s) = net.length := by
    unfold W at hw
    rw [beq_iff_eq] at hw
    rw [hw, size_all h]
  omega
theorem ones_row {net : List Int} : RomanP net (fun _ => 1) ∧ sumN net.length (fun _ => 1) = net.length := ⟨fun k _ h0 => (by cases h0), by rw [sumN_const]; omega⟩
/-- A place with one guard beside one with two could do without: so it isn't in a least row. -/
theorem roman_ones {net : List Int} {r : Nat → Nat} (hr : RomanP net r) (hb : ∀ k, k < net.length → r k ≤ 2) (hmin : ∀ q, (∀ k, k < net.length → q k ≤ 2) → RomanP net q → sumN net.length r ≤ sumN net.length q) {k j : Nat} (hk : k < net.length) (h1 : r k = 1) (hj : j < net.length) (hn : (nb net k).testBit j = true) (h2 : r j = 2) : False := by
  have hq : RomanP net (fun i => if i = k then 0 else r i) := fun i hi h0 => by
    by_cases hik : i = k
    · rw [hik]
      refine ⟨j, hj, hn, ?_⟩
      by_cases hjk : j = k
      · rw [hjk, h1] at h2; cases h2
      · simp only [if_neg hjk]; omega
    · simp only [if_neg hik] at h0
      obtain ⟨m, hm, a, b⟩ := hr i hi h0
      refine ⟨m, hm, a, ?_⟩
      by_cases hmk : m = k
      · rw [hmk, h1] at b; omega
      · simp only [if_neg hmk]; exact b
  have hle := hmin _ (fun i hi => by by_cases hik : i = k <;> simp [hik]; exact hb i hi) hq
  have : sumN net.length (fun i => if i = k then 0 else r i) + sumN net.length (fun i => if i = k then 1 else 0) = sumN net.length r := by
    rw [← sumN_add]
    refine sumN_congr fun i hi => ?_
    by_cases hik : i = k
    · simp [hik, h1]
    · simp [hik]
  rw [sumN_one (f := fun i => if i = k then 1 else 0) (k := k) hk (fun i _ hik => by rw [if_neg hik]), if_pos rfl] at this
  omega
/-- One place can stay without a guard, if it has a neighbour. -/
theorem few_lt {net : List Int} (h : Ok net) {v : Nat} (hv : v < net.length) (hn : nb net v ≠ 0) : W net (allOf net - 2 ^ v) = true ∧ size (allOf net - 2 ^ v) + 1 = net.length := by
  have h6 := h.hi
  have hb : (allOf net).testBit v = true := by rw [allOf_testBit]; simpa using hv
  have hlt := sub_lt (k := v) (allOf_lt net)
  have hz := (bits_sub _ (lt64 h (allOf_lt net)) v (by omega) hb).2.2.1
  rw [size_all h] at hz
  refine ⟨(W_iff h hlt).2 fun j hj => (seen_iff h _ hj).2 ?_, hz⟩
  by_cases hjv : j = v
  · right
    obtain ⟨i, hi⟩ := pos_iff.1 hn
    have hil := h.nb_lt hv hi
    refine ⟨i, hil, ?_, by rw [hjv]; exact hi⟩
    rw [sub_testBit (lt64 h (allOf_lt net)) (by omega) hb, allOf_testBit]
    have : i ≠ v := fun he => by rw [he, h.irr v hv] at hi; cases hi
    simp [hil, this]
  · left
    rw [sub_testBit (lt64 h (allOf_lt net)) (by omega) hb, allOf_testBit]
    simp [hj, hjv]
/-- As few as watch only without wires. -/
theorem roman_equal {net : List Int} (h : Ok net) {a w : Nat} (ha : MinRow net.length (RomanP net) a) (hw : MinOf net (W net) w) : a = w ↔ wires net = 0 := by
  rw [ends_zero h]
  constructor
  · intro he k hk
    refine Classical.byContradiction fun hn => ?_
    obtain ⟨h1, h2⟩ := few_lt h hk hn
    have h3 := hw.le _ (sub_lt (allOf_lt net)) h1
    obtain ⟨r, hb, hr, hs⟩ := ha.ex
    have h4 := with_sum h r
    have h5 := hw.le _ (withN_lt net.length r 1) (italian_watch h (roman_italian hr))
    -- no place has two
    have h6 : ∀ j, j < net.length → r j ≤ 1 := fun j hj => Classical.byContradiction fun hc => by
      have : size (withN net.length r 1) < sumN net.length r := by
        rw [size_cnt h (withN_lt _ _ _)]
        have : cnt net.length (fun k => (withN net.length r 1).testBit k) + 1 ≤ sumN net.length r := by
          have hle : sumN net.length (fun k => ((withN net.length r 1).testBit k).toNat + (if k = j then 1 else 0)) ≤ sumN net.length r := sumN_le fun i hi => by
            cases hbt : (withN net.length r 1).testBit i with
            | false =>
              by_cases hij : i = j
              · rw [hij] at hbt
                rw [(withN_testBit _ _ _ _).2 ⟨hj, by omega⟩] at hbt; cases hbt
              · simp [hij]
            | true =>
              have := ((withN_testBit _ _ _ _).1 hbt).2
              by_cases hij : i = j
              · rw [hij]; simp; omega
              · simp [hij]; exact this
          rw [sumN_add, sumN_one (f := fun k => if k = j then 1 else 0) (k := j) hj (fun i _ hi => by rw [if_neg hi]), if_pos rfl] at hle
          exact hle
        omega
      omega
    have h7 : net.length ≤ sumN net.length r := by
      rw [show net.length = sumN net.length (fun _ => 1) by rw [sumN_const]; omega]
      simp only [sumN_const, Nat.mul_one]
      have : sumN net.length (fun _ => 1) ≤ sumN net.length r := sumN_le fun j hj => Nat.one_le_iff_ne_zero.2 fun h0 => by
        obtain ⟨i, hi, _, b⟩ := hr j hj h0
        have := h6 i hi
        omega
      rw [sumN_const] at this; omega
    omega
  · intro hn
    have h1 := ha.le _ (fun k _ => by simp) (ones_row (net := net)).1
    rw [ones_row.2] at h1
    obtain ⟨r, hb, hr, hs⟩ := ha.ex
    have h4 := with_sum h r
    have h5 := hw.le _ (withN_lt net.length r 1) (italian_watch h (roman_italian hr))
    obtain ⟨s, c, d, e⟩ := hw.ex
    have : s = allOf net := by
      refine eq_of_bits c (allOf_lt net) fun j hj => ?_
      rcases (seen_iff h s hj).1 ((W_iff h c).1 d j hj) with x | ⟨i, _, _, y⟩
      · rw [x, allOf_testBit]; simp [hj]
      · rw [hn j hj, Nat.zero_testBit] at y; cases y
    rw [this, size_all h] at e
    omega

/-! ### A guard that leaves -/
def moved (s f t : Nat) : Nat := (s - 2 ^ f) ||| 2 ^ t
theorem moved_testBit {s f t : Nat} (hs : s < 64) (hf : f < 6) (hb : s.testBit f = true) (j : Nat) : (moved s f t).testBit j = true ↔ (s.testBit j = true ∧ j ≠ f) ∨ j = t := by
  unfold moved
  rw [or_testBit, sub_testBit hs hf hb]
  simp
theorem moved_lt {n s f t : Nat} (hs : s < 2 ^ n) (ht : t < n) : moved s f t < 2 ^ n := or_lt (sub_lt hs) ht
theorem moved_size {s f t : Nat} (hs : s < 64) (hf : f < 6) (ht : t < 6) (hb : s.testBit f = true) (hn : s.testBit t = false) : size (moved s f t) = size s := by
  have h1 := bits_sub s hs f hf hb
  unfold moved
  rw [size_add h1.1 ht (by rw [sub_testBit hs hf hb, hn]; rfl)]
  omega
theorem moved_back {s f t : Nat} (hs : s < 64) (hf : f < 6) (ht : t < 6) (hb : s.testBit f = true) (hn : s.testBit t = false) : moved (moved s f t) t f = s := by
  have hft : f ≠ t := fun he => by rw [he, hn] at hb; cases hb
  have hm : moved s f t < 2 ^ 6 := moved_lt (n := 6) (by omega) ht
  apply Nat.eq_of_testBit_eq
  intro j
  rw [Bool.eq_iff_iff, moved_testBit (by omega) ht ((moved_testBit hs hf hb t).2 (.inr rfl)), moved_testBit hs hf hb]
  constructor
  · rintro (⟨⟨a, _⟩ | a, b⟩ | rfl)
    · exact a
    · exact absurd a b
    · exact hb
  · intro a
    by_cases hjf : j = f
    · exact .inr hjf
    · exact .inl ⟨.inl ⟨a, hjf⟩, fun he => by rw [he, hn] at a; cases a⟩
/-- A guard next to a place can go there, and all is watched. -/
def Can (net : List Int) (s t : Nat) : Prop := ∃ f, s.testBit f = true ∧ (nb net t).testBit f = true ∧ W net (moved s f t) = true
def Secure (net : List Int) (s : Nat) : Prop := W net s = true ∧ ∀ k, k < net.length → s.testBit k = false → Can net s k
theorem secure_add {net : List Int} (h : Ok net) {s m : Nat} (hs : s < 2 ^ net.length) (hm : m < net.length) (hS : Secure net s) : Secure net (s ||| 2 ^ m) := by
  have h6 := h.hi
  have hl := or_lt hs hm
  have hsub : ∀ j, s.testBit j = true → (s ||| 2 ^ m).testBit j = true := fun j hj => (or_testBit _ _ _).2 (.inl hj)
  refine ⟨W_mono h hs hl hsub hS.1, fun k hk hb => ?_⟩
  have hks : s.testBit k = false := not_true fun hc => by rw [hsub k hc] at hb; cases hb
  obtain ⟨f, a, b, c⟩ := hS.2 k hk hks
  have hfl := in_lt hs a
  refine ⟨f, hsub f a, b, W_mono h (moved_lt hs hk) (moved_lt hl hk) (fun j hj => ?_) c⟩
  rw [moved_testBit (lt64 h hl) (by omega) (hsub f a)]
  rcases (moved_testBit (lt64 h hs) (by omega) a j).1 hj with ⟨x, y⟩ | x
  · exact .inl ⟨hsub j x, y⟩
  · exact .inr x
theorem secure_all {net : List Int} (h : Ok net) : Secure net (allOf net) := ⟨W_all h, fun k hk hb => by rw [allOf_testBit] at hb; simp at hb; omega⟩
/-- All places are needed only without wires. -/
theorem secure_less {net : List Int} (h : Ok net) {v : Nat} (hv : v < net.length) (hn : nb net v ≠ 0) : Secure net (allOf net - 2 ^ v) := by
  have h6 := h.hi
  have hb : (allOf net).testBit v = true := by rw [allOf_testBit]; simpa using hv
  have h64 := lt64 h (allOf_lt net)
  refine ⟨(few_lt h hv hn).1, fun k hk hkb => ?_⟩
  have hkv : k = v := Classical.byContradiction fun hne => by
    rw [sub_testBit h64 (by omega) hb, allOf_testBit] at hkb
    simp [hk, hne] at hkb
  subst hkv
  obtain ⟨u, hu⟩ := pos_iff.1 hn
  have hul := h.nb_lt hk hu
  have huk : u ≠ k := fun he => by rw [he, h.irr k hk] at hu; cases hu
  have hub : (allOf net - 2 ^ k).testBit u = true := by rw [sub_testBit h64 (by omega) hb, allOf_testBit]; simp [hul, huk]
  have hnu : nb net u ≠ 0 := pos_iff.2 ⟨k, by rw [h.sym k u hk hul]; exact hu⟩
  refine ⟨u, hub, hu, ?_⟩
  have e : moved (allOf net - 2 ^ k) u k = allOf net - 2 ^ u := by
    apply Nat.eq_of_testBit_eq
    intro j
    have hbu : (allOf net).testBit u = true := by rw [allOf_testBit]; simpa using hul
    rw [Bool.eq_iff_iff, moved_testBit (lt64 h (sub_lt (allOf_lt net))) (by omega) hub, sub_testBit h64 (by omega) hb, sub_testBit h64 (by omega) hbu, allOf_testBit]
    simp only [Bool.and_eq_true, decide_eq_true_eq, Bool.not_eq_true', decide_eq_false_iff_not]
    constructor
    · rintro (⟨⟨a, _⟩, c⟩ | rfl)
      · exact ⟨a, c⟩
      · exact ⟨hk, fun he => huk he.symm⟩
    · rintro ⟨a, c⟩
      by_cases hjk : j = k
      · exact .inr hjk
      · exact .inl ⟨⟨a, hjk⟩, c⟩
  rw [e]; exact (few_lt h hul hnu).1
/-- The row behind a guard's move. -/
def leave (r : Nat → Nat) (f t k : Nat) : Nat := if k = t then 1 else if k = f then r f - 1 else r k
def WeakP (net : List Int) (r : Nat → Nat) : Prop := ∀ k, k < net.length → r k = 0 → ∃ f, f < net.length ∧ 1 ≤ r f ∧ (nb net k).testBit f = true ∧ W net (withN net.length (leave r f k) 1) = true
theorem weak_watch {net : List Int} (h : Ok net) {r : Nat → Nat} (hr : WeakP net r) : W net (withN net.length r 1) = true := by
  refine (W_iff h (withN_lt _ _ _)).2 fun j hj => (seen_iff h _ hj).2 ?_
  by_cases h0 : r j = 0
  · obtain ⟨f, hf, a, b, _⟩ := hr j hj h0
    exact .inr ⟨f, hf, (withN_testBit _ _ _ _).2 ⟨hf, a⟩, b⟩
  · exact .inl ((withN_testBit _ _ _ _).2 ⟨hj, by omega⟩)
theorem roman_weak {net : List Int} (h : Ok net) {r : Nat → Nat} (hr : RomanP net r) : WeakP net r := fun k hk h0 => by
  obtain ⟨j, hj, a, b⟩ := hr k hk h0
  refine ⟨j, hj, by omega, a, ?_⟩
  refine W_mono h (withN_lt net.length r 1) (withN_lt _ _ _) (fun i hi => ?_) (italian_watch h (roman_italian hr))
  obtain ⟨x, y⟩ := (withN_testBit _ _ _ _).1 hi
  refine (withN_testBit _ _ _ _).2 ⟨x, ?_⟩
  unfold leave
  split
  · exact Nat.le_refl _
  · split
    · omega
    · exact y
/-- Where no place has two guards: just the secure sets. -/
theorem weak_secure {net : List Int} (h : Ok net) {r : Nat → Nat} (hb : ∀ k, k < net.length → r k ≤ 1) : WeakP net r ↔ Secure net (withN net.length r 1) := by
  have h6 := h.hi
  have hs := withN_lt net.length r 1
  have e : ∀ f k, f < net.length → k < net.length → r f = 1 → r k = 0 → withN net.length (leave r f k) 1 = moved (withN net.length r 1) f k := fun f k hf hk h1 h0 => by
    have hfb : (withN net.length r 1).testBit f = true := (withN_testBit _ _ _ _).2 ⟨hf, by omega⟩
    apply Nat.eq_of_testBit_eq
    intro j
    rw [Bool.eq_iff_iff, withN_testBit, moved_testBit (lt64 h hs) (by omega) hfb, withN_testBit]
    unfold leave
    constructor
    · rintro ⟨x, y⟩
      by_cases hjk : j = k
      · exact .inr hjk
      · rw [if_neg hjk] at y
        by_cases hjf : j = f
        · rw [if_pos hjf, h1] at y; omega
        · rw [if_neg hjf] at y; exact .inl ⟨⟨x, y⟩, hjf⟩
    · rintro (⟨⟨x, y⟩, z⟩ | rfl)
      · refine ⟨x, ?_⟩
        by_cases hjk : j = k
        · rw [if_pos hjk]; exact Nat.le_refl _
        · rw [if_neg hjk, if_neg z]; exact y
      · exact ⟨hk, by rw [if_pos rfl]; exact Nat.le_refl _⟩
  constructor
  · intro hr
    refine ⟨weak_watch h hr, fun k hk hkb => ?_⟩
    have h0 : r k = 0 := Classical.byContradiction fun hc => by rw [(withN_testBit _ _ _ _).2 ⟨hk, by omega⟩] at hkb; cases hkb
    obtain ⟨f, hf, a, b, c⟩ := hr k hk h0
    have := hb f hf
    exact ⟨f, (withN_testBit _ _ _ _).2 ⟨hf, a⟩, b, by rw [← e f k hf hk (by omega) h0]; exact c⟩
  · rintro ⟨_, hS⟩ k hk h0
    have hkb : (withN net.length r 1).testBit k = false := not_true fun hc => by have := ((withN_testBit _ _ _ _).1 hc).2; omega
    obtain ⟨f, a, b, c⟩ := hS k hk hkb
    obtain ⟨hf, ha⟩ := (withN_testBit _ _ _ _).1 a
    have := hb f hf
    exact ⟨f, hf, ha, b, by rw [e f k hf hk (by omega) h0]; exact c⟩
theorem bit_row {net : List Int} {s : Nat} (hs : s < 2 ^ net.length) : withN net.length (fun k => (s.testBit k).toNat) 1 = s := by
  apply Nat.eq_of_testBit_eq
  intro j
  rw [Bool.eq_iff_iff, withN_testBit]
  constructor
  · rintro ⟨_, b⟩
    cases hb : s.testBit j with
    | true => rfl
    | false => rw [hb] at b; simp at b
  · intro a; exact ⟨in_lt hs a, by rw [a]; decide⟩
end Go.Proofs.Ythcidiihfjjpdaa
/- Guards that answer for ever, one at a time: plain facts. Conditions: those of each theorem. -/
namespace Go.Proofs.Ythcidiihfjjpdaa
set_option linter.unusedVariables false
set_option linter.unusedSimpArgs false

/-- A family of sets that can answer each place by one move, and be in the family again. -/
def Closed1 (net : List Int) (F : Nat → Prop) : Prop := ∀ t, t < 2 ^ net.length → F t → ∀ k, k < net.length → t.testBit k = false → ∃ f, t.testBit f = true ∧ (nb net k).testBit f = true ∧ F (moved t f k)
def Eternal (net : List Int) (s : Nat) : Prop := ∃ F, Closed1 net F ∧ F s
theorem eternal_closed (net : List Int) : Closed1 net (Eternal net) := fun t ht ⟨F, hF, hFt⟩ k hk hb => by
  obtain ⟨f, a, b, c⟩ := hF t ht hFt k hk hb
  exact ⟨f, a, b, F, hF, c⟩
theorem eternal_watch {net : List Int} (h : Ok net) {s : Nat} (hs : s < 2 ^ net.length) (he : Eternal net s) : W net s = true := by
  refine (W_iff h hs).2 fun j hj => (seen_iff h s hj).2 ?_
  cases hb : s.testBit j with
  | true => exact .inl rfl
  | false =>
    obtain ⟨f, a, b, _⟩ := eternal_closed net s hs he j hj hb
    exact .inr ⟨f, in_lt hs a, a, b⟩
/-- Eternal sets are secure. -/
theorem eternal_secure {net : List Int} (h : Ok net) {s : Nat} (hs : s < 2 ^ net.length) (he : Eternal net s) : Secure net s := by
  refine ⟨eternal_watch h hs he, fun k hk hb => ?_⟩
  obtain ⟨f, a, b, c⟩ := eternal_closed net s hs he k hk hb
  exact ⟨f, a, b, eternal_watch h (moved_lt hs hk) c⟩
/-- More guards are eternal, too. -/
theorem eternal_mono {net : List Int} (h : Ok net) {s t : Nat} (hs : s < 2 ^ net.length) (hst : ∀ j, s.testBit j = true → t.testBit j = true) (he : Eternal net s) : Eternal net t := by
  have h6 := h.hi
  refine ⟨fun q => ∃ p, p < 2 ^ net.length ∧ (∀ j, p.testBit j = true → q.testBit j = true) ∧ Eternal net p, fun q hq ⟨p, hp, hpq, hpe⟩ k hk hb => ?_, s, hs, hst, he⟩
  have hpk : p.testBit k = false := not_true fun hc => by rw [hpq k hc] at hb; cases hb
  obtain ⟨f, a, b, c⟩ := eternal_closed net p hp hpe k hk hpk
  have hfl := in_lt hp a
  refine ⟨f, hpq f a, b, moved p f k, moved_lt hp hk, fun j hj => ?_, c⟩
  rw [moved_testBit (lt64 h hq) (by omega) (hpq f a)]
  rcases (moved_testBit (lt64 h hp) (by omega) a j).1 hj with ⟨x, y⟩ | x
  · exact .inl ⟨hpq j x, y⟩
  · exact .inr x
theorem eternal_all {net : List Int} : Eternal net (allOf net) := ⟨fun q => q = allOf net, fun q _ hq k hk hb => by rw [hq, allOf_testBit] at hb; simp at hb; omega, rfl⟩
theorem eternal_add {net : List Int} (h : Ok net) {s k : Nat} (hs : s < 2 ^ net.length) (he : Eternal net s) : Eternal net (s ||| 2 ^ k) := eternal_mono h hs (fun j hj => (or_testBit _ _ _).2 (.inl hj)) he
theorem size_and_le {net : List Int} (h : Ok net) {s a : Nat} (hs : s < 2 ^ net.length) (ha : a < 2 ^ net.length) : size (s &&& a) ≤ size a := by
  have h1 : s &&& a < 2 ^ net.length := Nat.lt_of_le_of_lt Nat.and_le_left hs
  rw [size_cnt h h1, size_cnt h ha]
  refine cnt_mono fun k _ hk => ?_
  rw [Nat.testBit_and, Bool.and_eq_true] at hk
  exact hk.2
/-- It takes no fewer than are apart. -/
theorem eternal_apart {net : List Int} (h : Ok net) {a s : Nat} (ha : a < 2 ^ net.length) (hA : Apart net a) (hs : s < 2 ^ net.length) (he : Eternal net s) : size a ≤ size s := by
  have h6 := h.hi
  have key : ∀ m s, size a - size (s &&& a) ≤ m → s < 2 ^ net.length → Eternal net s → size a ≤ size s := by
    intro m
    induction m with
    | zero =>
      intro s hm hs he
      have h1 : size (s &&& a) ≤ size s := by rw [Nat.and_comm]; exact size_and_le h ha hs
      omega
    | succ m ih =>
      intro s hm hs he
      by_cases hex : ∃ k, a.testBit k = true ∧ s.testBit k = false
      · obtain ⟨k, hk, hb⟩ := hex
        have hkl := in_lt ha hk
        obtain ⟨f, x, y, z⟩ := eternal_closed net s hs he k hkl hb
        have hfl := in_lt hs x
        have hfa : a.testBit f = false := not_true fun hc => by rw [hA k f hk hc] at y; cases y
        have hm2 := moved_lt (f := f) hs hkl
        have e : moved s f k &&& a = (s &&& a) ||| 2 ^ k := Nat.eq_of_testBit_eq fun j => by
          rw [Bool.eq_iff_iff, Nat.testBit_and, Bool.and_eq_true, moved_testBit (lt64 h hs) (by omega) x, or_testBit, Nat.testBit_and, Bool.and_eq_true]
          constructor
          · rintro ⟨⟨p, _⟩ | p, q⟩
            · exact .inl ⟨p, q⟩
            · exact .inr p
          · rintro (⟨p, q⟩ | rfl)
            · exact ⟨.inl ⟨p, fun hh => by rw [hh, hfa] at q; cases q⟩, q⟩
            · exact ⟨.inr rfl, hk⟩
        have hlt : s &&& a < 64 := Nat.lt_of_le_of_lt Nat.and_le_left (lt64 h hs)
        have hz := size_add hlt (k := k) (by omega) (by rw [Nat.testBit_and, hb]; rfl)
        have h1 := ih (moved s f k) (by rw [e, hz]; omega) hm2 z
        rw [moved_size (lt64 h hs) (by omega) (by omega) x hb] at h1
        exact h1
      · have e : s &&& a = a := Nat.eq_of_testBit_eq fun j => by
          rw [Bool.eq_iff_iff, Nat.testBit_and, Bool.and_eq_true]
          refine ⟨fun p => p.2, fun p => ⟨Classical.byContradiction fun hc => hex ⟨j, p, not_true hc⟩, p⟩⟩
        have h1 : size (s &&& a) ≤ size s := by rw [Nat.and_comm]; exact size_and_le h ha hs
        rw [e] at h1; exact h1
  exact key _ s (Nat.le_refl _) hs he
/-- Where every two are neighbours, one guard is enough. -/
theorem eternal_one {net : List Int} (h : Ok net) (hall : ∀ j k, j < net.length → k < net.length → j ≠ k → (nb net j).testBit k = true) {i : Nat} (hi : i < net.length) : Eternal net (2 ^ i) := by
  have h6 := h.hi
  refine ⟨fun q => ∃ m, m < net.length ∧ q = 2 ^ m, fun q _ ⟨m, hm, hq⟩ k hk hb => ?_, i, hi, rfl⟩
  subst hq
  rw [testBit_pow, decide_eq_false_iff_not] at hb
  have hmb : (2 ^ m).testBit m = true := by rw [testBit_pow]; simp
  have hpl : 2 ^ m < 2 ^ net.length := Nat.pow_lt_pow_right (by omega) hm
  refine ⟨m, hmb, hall k m hk hm (Ne.symm hb), k, hk, ?_⟩
  apply Nat.eq_of_testBit_eq
  intro j
  rw [Bool.eq_iff_iff, moved_testBit (lt64 h hpl) (by omega) hmb, testBit_pow, testBit_pow]
  simp only [decide_eq_true_eq]
  constructor
  · rintro (⟨a, b⟩ | rfl)
    · exact absurd a.symm b
    · rfl
  · intro a; exact .inr a.symm
/-- Where no three are apart, three guards are enough, two of which are apart. -/
theorem eternal_three {net : List Int} (h : Ok net) (hno : ∀ a, a < 2 ^ net.length → Apart net a → size a ≤ 2) {s x y : Nat} (hs : s < 2 ^ net.length) (hz : size s = 3) (hx : s.testBit x = true) (hy : s.testBit y = true) (hxy : x ≠ y) (hn : (nb net x).testBit y = false) : Eternal net s := by
  have h6 := h.hi
  refine ⟨fun q => q < 2 ^ net.length ∧ size q = 3 ∧ ∃ u v, q.testBit u = true ∧ q.testBit v = true ∧ u ≠ v ∧ (nb net u).testBit v = false, fun q _ ⟨hq, hqz, u, v, hu, hv, huv, hun⟩ k hk hb => ?_, hs, hz, x, y, hx, hy, hxy, hn⟩
  have hul := in_lt hq hu
  have hvl := in_lt hq hv
  have hku : k ≠ u := fun he => by rw [he, hu] at hb; cases hb
  have hkv : k ≠ v := fun he => by rw [he, hv] at hb; cases hb
  have hvn : (nb net v).testBit u = false := by rw [h.sym u v hul hvl]; exact hun
  have msize : ∀ f, q.testBit f = true → size (moved q f k) = 3 := fun f hf => by
    have hfl := in_lt hq hf
    rw [moved_size (lt64 h hq) (by omega) (by omega) hf hb]; exact hqz
  have mlt : ∀ f, moved q f k < 2 ^ net.length := fun f => moved_lt hq hk
  -- the third guard
  have hex : ∃ w, q.testBit w = true ∧ w ≠ u ∧ w ≠ v := by
    have h1 := bits_sub q (lt64 h hq) u (by omega) hu
    have hv1 : (q - 2 ^ u).testBit v = true := by rw [sub_testBit (lt64 h hq) (by omega) hu, hv]; simp; omega
    have h2 := bits_sub _ h1.1 v (by omega) hv1
    have hne : q - 2 ^ u - 2 ^ v ≠ 0 := fun h0 => by
      have e : size (q - 2 ^ u - 2 ^ v) = 0 := by rw [h0]; decide
      omega
    obtain ⟨w, hw⟩ := pos_iff.1 hne
    rw [sub_testBit h1.1 (by omega) hv1, sub_testBit (lt64 h hq) (by omega) hu] at hw
    simp at hw
    exact ⟨w, hw.1.1, hw.1.2, hw.2⟩
  obtain ⟨w, hw, hwu, hwv⟩ := hex
  have hwl := in_lt hq hw
  have hkw : k ≠ w := fun he => by rw [he, hw] at hb; cases hb
  have stay : ∀ f j, q.testBit f = true → q.testBit j = true → j ≠ f → (moved q f k).testBit j = true := fun f j hf hj hne => by
    have hfl := in_lt hq hf
    exact (moved_testBit (lt64 h hq) (by omega) hf j).2 (.inl ⟨hj, hne⟩)
  have come : ∀ f, q.testBit f = true → (moved q f k).testBit k = true := fun f hf => by
    have hfl := in_lt hq hf
    exact (moved_testBit (lt64 h hq) (by omega) hf k).2 (.inr rfl)
  cases hwk : (nb net k).testBit w with
  | true => exact ⟨w, hw, hwk, mlt w, msize w hw, u, v, stay w u hw hu (Ne.symm hwu), stay w v hw hv (Ne.symm hwv), huv, hun⟩
  | false =>
    -- one of the two can go; then the place and the third guard are apart
    cases huk : (nb net k).testBit u with
    | true => exact ⟨u, hu, huk, mlt u, msize u hu, k, w, come u hu, stay u w hu hw hwu, hkw, hwk⟩
    | false =>
      cases hvk : (nb net k).testBit v with
      | true => exact ⟨v, hv, hvk, mlt v, msize v hv, k, w, come v hv, stay v w hv hw hwv, hkw, hwk⟩
      | false =>
        -- three would be apart
        exfalso
        have hpu : 2 ^ u < 2 ^ net.length := Nat.pow_lt_pow_right (by omega) hul
        have a1 : Apart net (2 ^ u ||| 2 ^ v) := (Apart.one h hul).add h hpu hvl (fun j hj => by rw [testBit_pow, decide_eq_true_eq] at hj; rw [← hj]; exact hvn)
        have l1 := or_lt hpu hvl
        have a2 : Apart net ((2 ^ u ||| 2 ^ v) ||| 2 ^ k) := a1.add h l1 hk (fun j hj => by
          rcases (or_testBit _ _ _).1 hj with hj | rfl
          · rw [testBit_pow, decide_eq_true_eq] at hj; rw [← hj]; exact huk
          · exact hvk)
        have h0 := hno _ (or_lt l1 hk) a2
        have z1 : size (2 ^ u) = 1 := by
          have := size_add (s := 0) (k := u) (by omega) (by omega) (Nat.zero_testBit u)
          rw [Nat.zero_or] at this
          rw [this]; decide
        have z2 := size_add (lt64 h hpu) (k := v) (by omega) (by rw [testBit_pow]; simp; exact huv)
        have z3 := size_add (lt64 h l1) (k := k) (by omega) (not_true fun hc => by
          rcases (or_testBit _ _ _).1 hc with hc | hc
          · rw [testBit_pow, decide_eq_true_eq] at hc; exact hku hc.symm
          · exact hkv hc)
        omega
/-- Not many more than are apart. -/
theorem eternal_upper {net : List Int} (h : Ok net) {m : Nat} (hm : MaxOf net (apart net) m) : ∃ s, s < 2 ^ net.length ∧ Eternal net s ∧ 2 * size s ≤ m * (m + 1) := by
  have h6 := h.hi
  have hlo := h.lo
  have hall : ∃ s, s < 2 ^ net.length ∧ Eternal net s ∧ size s = net.length := ⟨allOf net, allOf_lt net, eternal_all, size_all h⟩
  have m1 : 1 ≤ m := by
    have h1 : 2 ^ 0 < 2 ^ net.length := Nat.pow_lt_pow_right (by omega) hlo
    have := hm.le _ h1 ((apart_iff h1).2 (Apart.one h hlo))
    have e : size (2 ^ 0) = 1 := by decide
    omega
  have h0 : ∀ a, a < 2 ^ net.length → Apart net a → size a ≤ m := fun a ha hA => hm.le a ha ((apart_iff ha).2 hA)
  by_cases hm1 : m = 1
  · -- every two are neighbours
    subst hm1
    refine ⟨2 ^ 0, Nat.pow_lt_pow_right (by omega) hlo, eternal_one h (fun j k hj hk hjk => Classical.byContradiction fun hc => ?_) hlo, by decide⟩
    have hn : (nb net j).testBit k = false := not_true hc
    have hpj : 2 ^ j < 2 ^ net.length := Nat.pow_lt_pow_right (by omega) hj
    have hA := (Apart.one h hj).add h hpj hk (fun i hi => by rw [testBit_pow, decide_eq_true_eq] at hi; rw [← hi, h.sym j k hj hk]; exact hn)
    have := h0 _ (or_lt hpj hk) hA
    have z1 : size (2 ^ j) = 1 := by
      have := size_add (s := 0) (k := j) (by omega) (by omega) (Nat.zero_testBit j)
      rw [Nat.zero_or] at this
      rw [this]; decide
    have z2 := size_add (lt64 h hpj) (k := k) (by omega) (by rw [testBit_pow]; simp; exact hjk)
    omega
  · by_cases hm2 : m = 2
    · subst hm2
      by_cases h3 : 3 ≤ net.length
      · obtain ⟨a, ha, hap, haz⟩ := hm.ex
        have hA := (apart_iff ha).1 hap
        -- two that are apart
        have hne : a ≠ 0 := fun he => by rw [he] at haz; exact absurd haz (by decide)
        obtain ⟨u, hu⟩ := pos_iff.1 hne
        have hul := in_lt ha hu
        have h1 := bits_sub a (lt64 h ha) u (by omega) hu
        have hne2 : a - 2 ^ u ≠ 0 := fun he => by
          have e : size (a - 2 ^ u) = 0 := by rw [he]; decide
          omega
        obtain ⟨v, hv⟩ := pos_iff.1 hne2
        rw [sub_testBit (lt64 h ha) (by omega) hu] at hv
        simp at hv
        -- and a third one
        have hex : ∃ w, w < net.length ∧ a.testBit w = false := by
          refine Classical.byContradiction fun hc => ?_
          have : a = allOf net := eq_of_bits ha (allOf_lt net) fun j hj => by
            rw [allOf_testBit]
            cases hb : a.testBit j with
            | true => simpa using hj
            | false => exact absurd ⟨j, hj, hb⟩ hc
          rw [this, size_all h] at haz
          omega
        obtain ⟨w, hw, hwb⟩ := hex
        have hz := size_add (lt64 h ha) (k := w) (by omega) hwb
        exact ⟨a ||| 2 ^ w, or_lt ha hw, eternal_three h h0 (or_lt ha hw) (by omega) ((or_testBit _ _ _).2 (.inl hu)) ((or_testBit _ _ _).2 (.inl hv.1)) (Ne.symm hv.2) (hA u v hu hv.1), by omega⟩
      · obtain ⟨s, a, b, c⟩ := hall
        exact ⟨s, a, b, by omega⟩
    · obtain ⟨s, a, b, c⟩ := hall
      have : 3 * 4 ≤ m * (m + 1) := Nat.mul_le_mul (by omega) (by omega)
      exact ⟨s, a, b, by omega⟩
end Go.Proofs.Ythcidiihfjjpdaa
/- Packings and forests: plain facts. Conditions: those of each theorem. -/
namespace Go.Proofs.Ythcidiihfjjpdaa
set_option linter.unusedVariables false
set_option linter.unusedSimpArgs false

def packed (net : List Int) (s : Nat) : Bool := (List.range net.length).all fun k => !decide (1 < size (ball net k &&& s))
theorem packed_iff {net : List Int} {s : Nat} : packed net s = true ↔ ∀ k, k < net.length → size (ball net k &&& s) ≤ 1 := by
  unfold packed
  rw [List.all_eq_true]
  simp only [List.mem_range, Bool.not_eq_true', decide_eq_false_iff_not]
  exact ⟨fun a k hk => by have := a k hk; omega, fun a k hk => by have := a k hk; omega⟩
theorem packed_zero (net : List Int) : packed net 0 = true := packed_iff.2 fun k hk => by rw [Nat.and_zero]; exact Nat.zero_le _
theorem bits_le1 : ((List.range 64).all fun s => (List.range 6).all fun i => (List.range 6).all fun j => !(decide (size s ≤ 1) && s.testBit i && s.testBit j) || i == j) = true := by decide +kernel
theorem bits_le2 : ∀ s, s < 64 → 2 ≤ size s → ((List.range 6).any fun i => (List.range 6).any fun j => s.testBit i && s.testBit j && i != j) = true := by decide +kernel
theorem two_in {s : Nat} (hs : s < 64) (hz : 2 ≤ size s) : ∃ i j, s.testBit i = true ∧ s.testBit j = true ∧ i ≠ j := by
  have := bits_le2 s hs hz
  simp only [List.any_eq_true, List.mem_range, Bool.and_eq_true, bne_iff_ne] at this
  obtain ⟨i, _, j, _, ⟨a, b⟩, c⟩ := this
  exact ⟨i, j, a, b, c⟩
theorem le_one {s : Nat} (hs : s < 64) : size s ≤ 1 ↔ ∀ i j, s.testBit i = true → s.testBit j = true → i = j := by
  constructor
  · intro hz i j hi hj
    have := bits_le1
    rw [List.all_eq_true] at this
    have := this s (List.mem_range.2 hs)
    rw [List.all_eq_true] at this
    have := this i (List.mem_range.2 (testBit_lt (n := 6) hs hi))
    rw [List.all_eq_true] at this
    have := this j (List.mem_range.2 (testBit_lt (n := 6) hs hj))
    rw [hi, hj, decide_eq_true hz] at this
    simpa using this
  · intro ha
    refine Classical.byContradiction fun hlt => ?_
    obtain ⟨i, j, a, b, c⟩ := two_in hs (by omega)
    exact c (ha i j a b)
/-- No two guards see one place. -/
def Packed (net : List Int) (s : Nat) : Prop := ∀ i j w, s.testBit i = true → s.testBit j = true → (ball net i).testBit w = true → (ball net j).testBit w = true → i = j
theorem packed_two {net : List Int} (h : Ok net) {s : Nat} (hs : s < 2 ^ net.length) : packed net s = true ↔ Packed net s := by
  rw [packed_iff]
  have h64 := h.pow
  constructor
  · intro ha i j w hi hj hwi hwj
    have hil := in_lt hs hi
    have hjl := in_lt hs hj
    have hw := sees_lt h hil hwi
    have hlt : ball net w &&& s < 64 := Nat.lt_of_le_of_lt Nat.and_le_right (by omega)
    refine (le_one hlt).1 (ha w hw) i j ?_ ?_
    · rw [Nat.testBit_and, hi, Bool.and_true, sees_symm h hil hw]; exact hwi
    · rw [Nat.testBit_and, hj, Bool.and_true, sees_symm h hjl hw]; exact hwj
  · intro ha w hw
    have hlt : ball net w &&& s < 64 := Nat.lt_of_le_of_lt Nat.and_le_right (by omega)
    refine (le_one hlt).2 fun i j hi hj => ?_
    rw [Nat.testBit_and, Bool.and_eq_true] at hi hj
    have hil := in_lt hs hi.2
    have hjl := in_lt hs hj.2
    exact ha i j w hi.2 hj.2 (by rw [sees_symm h hw hil]; exact hi.1) (by rw [sees_symm h hw hjl]; exact hj.1)
theorem Packed.mono {net : List Int} {s t : Nat} (hst : ∀ j, t.testBit j = true → s.testBit j = true) (hp : Packed net s) : Packed net t := fun i j w hi hj => hp i j w (hst i hi) (hst j hj)
theorem Packed.apart {net : List Int} (h : Ok net) {s : Nat} (hs : s < 2 ^ net.length) (hp : Packed net s) : Apart net s := fun j k hj hk => not_true fun hx => by
  have := hp j k k hj hk ((ball_testBit _ _ _).2 (.inl hx)) (sees_self net k)
  rw [this, h.irr k (in_lt hs hk)] at hx; cases hx
theorem packed_twice {net : List Int} (h : Ok net) {s : Nat} (hs : s < 2 ^ net.length) : Packed net s ↔ twice net s = 0 := by
  have ht := twice_is h hs
  rw [zero_iff]
  constructor
  · intro hp j
    refine not_true fun hx => ?_
    obtain ⟨a, b, ha, hb, hab, h1, h2⟩ := (ht.bit j).1 hx
    exact hab (hp a b j ha hb h1 h2)
  · intro hz i j w hi hj h1 h2
    refine Classical.byContradiction fun hne => ?_
    have := hz w
    rw [(ht.bit w).2 ⟨i, j, hi, hj, hne, h1, h2⟩] at this; cases this
/-- No fewer guards watch. -/
theorem packed_le {net : List Int} (h : Ok net) {s t : Nat} (hs : s < 2 ^ net.length) (hp : Packed net s) (ht : t < 2 ^ net.length) (hw : W net t = true) : size s ≤ size t := by
  rw [size_cnt h hs, size_cnt h ht]
  have hex : ∀ k, ∃ i, s.testBit k = true → i < net.length ∧ t.testBit i = true ∧ (ball net k).testBit i = true := by
    intro k
    by_cases hk : s.testBit k = true
    · obtain ⟨i, hi, a, b⟩ := (seen_balls h ht).1 ((W_iff h ht).1 hw k (in_lt hs hk))
      exact ⟨i, fun _ => ⟨hi, a, by rw [sees_symm h hi (in_lt hs hk)]; exact b⟩⟩
    · exact ⟨0, fun hx => absurd hx hk⟩
  refine cnt_inj (fun k => Classical.choose (hex k)) (fun k hk hb => ?_) (fun j k hj hk hbj hbk he => ?_)
  · have := Classical.choose_spec (hex k) hb
    exact ⟨this.1, this.2.1⟩
  · have h1 := Classical.choose_spec (hex j) hbj
    have h2 := Classical.choose_spec (hex k) hbk
    rw [he] at h1
    exact hp j k _ hbj hbk h1.2.2 h2.2.2
/-- The least places of the parts. -/
def roots (net : List Int) : Nat := orN net.length (root net) (fun k => 2 ^ k)
theorem roots_testBit (net : List Int) (j : Nat) : (roots net).testBit j = true ↔ j < net.length ∧ root net j = true := by
  unfold roots
  rw [orN_testBit]
  constructor
  · rintro ⟨k, hk, a, b⟩
    rw [testBit_pow, decide_eq_true_eq] at b
    subst b
    exact ⟨hk, a⟩
  · rintro ⟨a, b⟩
    exact ⟨j, a, b, by rw [testBit_pow]; simp⟩
theorem roots_lt (net : List Int) : roots net < 2 ^ net.length := orN_lt fun k hk _ => Nat.pow_lt_pow_right (by omega) hk
theorem roots_size {net : List Int} (h : Ok net) : size (roots net) = parts net := by
  rw [size_cnt h (roots_lt net), parts_cnt]
  exact cnt_congr fun k hk => by
    rw [Bool.eq_iff_iff, roots_testBit]
    exact ⟨fun a => a.2, fun a => ⟨hk, a⟩⟩
theorem comp_ball {net : List Int} (h : Ok net) {j k : Nat} (hj : j < net.length) (hb : (ball net j).testBit k = true) : (comp net j).testBit k = true := by
  rcases (ball_testBit _ _ _).1 hb with a | a
  · exact comp_nb h hj a
  · rw [← a]; exact h.comp_self hj
theorem roots_packed {net : List Int} (h : Ok net) : Packed net (roots net) := fun i j w hi hj hwi hwj => by
  obtain ⟨a, b⟩ := (roots_testBit _ _).1 hi
  obtain ⟨c, d⟩ := (roots_testBit _ _).1 hj
  have hw := sees_lt h a hwi
  exact root_same h a c b d ((h.comp_same a hw (comp_ball h a hwi)).trans (h.comp_same c hw (comp_ball h c hwj)).symm)
theorem most_packed {net : List Int} (h : Ok net) {m w : Nat} (hm : MaxOf net (packed net) m) (hw : MinOf net (W net) w) : m ≤ w ∧ parts net ≤ m := by
  obtain ⟨s, s1, s2, s3⟩ := hm.ex
  obtain ⟨t, t1, t2, t3⟩ := hw.ex
  have h1 := packed_le h s1 ((packed_two h s1).1 s2) t1 t2
  have h2 := hm.le _ (roots_lt net) ((packed_two h (roots_lt net)).2 (roots_packed h))
  rw [roots_size h] at h2
  omega
/-- All that see each place once are as many. -/
theorem packed_watch {net : List Int} (h : Ok net) {s m w : Nat} (hs : s < 2 ^ net.length) (hp : packed net s = true) (hW : W net s = true) (hm : MaxOf net (packed net) m) (hw : MinOf net (W net) w) : size s = w ∧ m = w := by
  have h1 := hm.le s hs hp
  have h2 := hw.le s hs hW
  have h3 := (most_packed h hm hw).1
  omega

/-! ### Forests -/
/-- Places go one by one, each with at most one neighbour left. -/
inductive Peel (net : List Int) : Nat → Prop
  | zero : Peel net 0
  | step {s k : Nat} : s.testBit k = true → size (nb net k &&& s) ≤ 1 → Peel net (s - 2 ^ k) → Peel net s
/-- Nobody can go. -/
def Stuck (net : List Int) (s : Nat) : Prop := ∀ k, s.testBit k = true → 2 ≤ size (nb net k &&& s)
theorem and_mono_size {a s t : Nat} (hst : ∀ j, s.testBit j = true → t.testBit j = true) : size (a &&& s) ≤ size (a &&& t) := by
  refine card_mono fun j _ hj => ?_
  rw [Nat.testBit_and, Bool.and_eq_true] at hj ⊢
  exact ⟨hj.1, hst j hj.2⟩
theorem peel_stuck {net : List Int} (h : Ok net) {s : Nat} (hp : Peel net s) : s < 2 ^ net.length → ∀ r, (∀ j, r.testBit j = true → s.testBit j = true) → Stuck net r → r = 0 := by
  induction hp with
  | zero => intro _ r hr _; exact zero_iff.2 fun j => not_true fun hj => by have := hr j hj; rw [Nat.zero_testBit] at this; cases this
  | @step s k hk hz hp ih =>
    intro hs r hr hst
    have h6 := h.hi
    refine ih (sub_lt hs) r (fun j hj => ?_) hst
    rw [sub_testBit (lt64 h hs) (by have := in_lt hs hk; omega) hk, hr j hj, Bool.true_and, Bool.not_eq_true', decide_eq_false_iff_not]
    intro he
    rw [he] at hj
    have := hst k hj
    have := and_mono_size (a := nb net k) hr
    omega
theorem stuck_or {net : List Int} {s : Nat} (hs : ¬ Stuck net s) : ∃ k, s.testBit k = true ∧ size (nb net k &&& s) ≤ 1 := by
  refine Classical.byContradiction fun hno => hs fun k hk => ?_
  refine Classical.byContradiction fun hlt => hno ⟨k, hk, by omega⟩
/-- In a forest as many can be packed as watch. -/
theorem peel_pack {net : List Int} (h : Ok net) {s : Nat} (hp : Peel net s) : s < 2 ^ net.length → ∀ D P, D < 2 ^ net.length → P < 2 ^ net.length → size D ≤ size P → Packed net P → (∀ j, P.testBit j = true → s.testBit j = false) →
    (∀ w, w < net.length → s.testBit w = false → size (nb net w &&& s) ≤ 1) → (∀ w, w < net.length → s.testBit w = false → (seen net D).testBit w = true) →
    (∀ u v x, P.testBit u = true → s.testBit v = true → (seen net D).testBit v = false → (ball net u).testBit x = true → (ball net v).testBit x = true → False) →
    ∃ D' P', D' < 2 ^ net.length ∧ P' < 2 ^ net.length ∧ size D' ≤ size P' ∧ Packed net P' ∧ W net D' = true := by
  induction hp with
  | zero =>
    intro _ D P hD hP hz hpk _ _ hw _
    exact ⟨D, P, hD, hP, hz, hpk, (W_iff h hD).2 fun j hj => hw j hj (Nat.zero_testBit j)⟩
  | @step s k hk hone hp ih =>
    intro hs D P hD hP hz hpk hPs hout hseen hfar
    have h6 := h.hi
    have h64 := h.pow
    have hkl := in_lt hs hk
    have hsub : ∀ j, (s - 2 ^ k).testBit j = true ↔ s.testBit j = true ∧ j ≠ k := fun j => by
      rw [sub_testBit (lt64 h hs) (by omega) hk]; simp
    have hsubf : ∀ j, (s - 2 ^ k).testBit j = false → s.testBit j = false ∨ j = k := fun j hj => by
      cases hb : s.testBit j with
      | false => exact .inl rfl
      | true =>
        by_cases he : j = k
        · exact .inr he
        · rw [(hsub j).2 ⟨hb, he⟩] at hj; cases hj
    have hout' : ∀ w, w < net.length → (s - 2 ^ k).testBit w = false → size (nb net w &&& (s - 2 ^ k)) ≤ 1 := fun w hw hb => by
      have hm := and_mono_size (a := nb net w) (s := s - 2 ^ k) (t := s) (fun j hj => ((hsub j).1 hj).1)
      rcases hsubf w hb with a | a
      · have := hout w hw a; omega
      · rw [a] at hm ⊢; omega
    by_cases hd : (seen net D).testBit k = true
    · -- it is seen already
      refine ih (sub_lt hs) D P hD hP hz hpk (fun j hj => not_true fun hx => ?_) hout' (fun w hw hb => ?_) (fun u v x hu hv hnv => hfar u v x hu ((hsub v).1 hv).1 hnv)
      · have := ((hsub j).1 hx).1
        rw [hPs j hj] at this; cases this
      · rcases hsubf w hb with a | a
        · exact hseen w hw a
        · rw [a]; exact hd
    · have hd' := not_true hd
      -- its neighbour that is left sees it, or the place itself
      have hg : ∃ g, g < net.length ∧ (ball net g).testBit k = true ∧ ∀ v, s.testBit v = true → (nb net k).testBit v = true → v = g := by
        by_cases hex : ∃ g, s.testBit g = true ∧ (nb net k).testBit g = true
        · obtain ⟨g, g1, g2⟩ := hex
          have hgl := in_lt hs g1
          refine ⟨g, hgl, (ball_testBit _ _ _).2 (.inl (by rw [← h.sym g k hgl hkl]; exact g2)), fun v v1 v2 => ?_⟩
          have hlt : nb net k &&& s < 64 := Nat.lt_of_le_of_lt Nat.and_le_right (by omega)
          exact (le_one hlt).1 hone v g (by rw [Nat.testBit_and, v1, v2]; rfl) (by rw [Nat.testBit_and, g1, g2]; rfl)
        · exact ⟨k, hkl, sees_self net k, fun v v1 v2 => absurd ⟨v, v1, v2⟩ hex⟩
      obtain ⟨g, hgl, hgk, honly⟩ := hg
      have hPk : P.testBit k = false := not_true fun hx => by rw [hPs k hx] at hk; cases hk
      have hD1 : D ||| 2 ^ g < 2 ^ net.length := or_lt hD hgl
      have hP1 : P ||| 2 ^ k < 2 ^ net.length := or_lt hP hkl
      have hseenD : ∀ v, (seen net (D ||| 2 ^ g)).testBit v = true ↔ (seen net D).testBit v = true ∨ (ball net g).testBit v = true := fun v => by
        rw [seen_balls h hD1, seen_balls h hD]
        constructor
        · rintro ⟨y, y1, y2, y3⟩
          rcases (or_testBit _ _ _).1 y2 with a | a
          · exact .inl ⟨y, y1, a, y3⟩
          · rw [a] at y3; exact .inr y3
        · rintro (⟨y, y1, y2, y3⟩ | a)
          · exact ⟨y, y1, (or_testBit _ _ _).2 (.inl y2), y3⟩
          · exact ⟨g, hgl, (or_testBit _ _ _).2 (.inr rfl), a⟩
      refine ih (sub_lt hs) (D ||| 2 ^ g) (P ||| 2 ^ k) hD1 hP1 ?_ ?_ (fun j hj => not_true fun hx => ?_) hout' (fun w hw hb => ?_) (fun u v x hu hv hnv hxu hxv => ?_)
      · have h1 := size_or_one h hD hgl
        have h2 := size_add (lt64 h hP) (by omega) hPk
        omega
      · intro i j w hi hj hwi hwj
        rcases (or_testBit _ _ _).1 hi with a | a <;> rcases (or_testBit _ _ _).1 hj with b | b
        · exact hpk i j w a b hwi hwj
        · rw [b] at hwj ⊢
          exact (hfar i k w a hk hd' hwi hwj).elim
        · rw [a] at hwi ⊢
          exact (hfar j k w b hk hd' hwj hwi).elim
        · rw [a, b]
      · obtain ⟨x1, x2⟩ := (hsub j).1 hx
        rcases (or_testBit _ _ _).1 hj with a | a
        · rw [hPs j a] at x1; cases x1
        · exact x2 a
      · rw [hseenD]
        rcases hsubf w hb with a | a
        · exact .inl (hseen w hw a)
        · rw [a]; exact .inr hgk
      · obtain ⟨v1, v2⟩ := (hsub v).1 hv
        have hvl := in_lt hs v1
        have hnD : (seen net D).testBit v = false := not_true fun hx => by rw [(hseenD v).2 (.inl hx)] at hnv; cases hnv
        have hng : (ball net g).testBit v = false := not_true fun hx => by rw [(hseenD v).2 (.inr hx)] at hnv; cases hnv
        rcases (or_testBit _ _ _).1 hu with a | a
        · exact hfar u v x a v1 hnD hxu hxv
        · rw [a] at hxu
          -- x is near k and v
          have hxl := sees_lt h hkl hxu
          have hvx : (ball net x).testBit v = true := by rw [sees_symm h hvl hxl]; exact hxv
          rcases (ball_testBit _ _ _).1 hxu with b | b
          · -- x is a neighbour of k
            cases hsx : s.testBit x with
            | true =>
              have := honly x hsx b
              rw [this] at hvx
              rw [hvx] at hng; cases hng
            | false =>
              have hle := hout x hxl hsx
              have hlt : nb net x &&& s < 64 := Nat.lt_of_le_of_lt Nat.and_le_right (by omega)
              have hxv2 : (nb net x).testBit v = true := by
                rcases (ball_testBit _ _ _).1 hvx with c | c
                · exact c
                · rw [c] at hsx; rw [hsx] at v1; cases v1
              have := (le_one hlt).1 hle k v (by rw [Nat.testBit_and, hk, Bool.and_true, h.sym k x hkl hxl]; exact b) (by rw [Nat.testBit_and, v1, hxv2]; rfl)
              exact v2 this.symm
          · -- x is k itself
            rw [← b] at hvx
            rcases (ball_testBit _ _ _).1 hvx with c | c
            · have := honly v v1 c
              rw [this] at hng
              rw [sees_self] at hng; cases hng
            · exact v2 c.symm
theorem forest_packed {net : List Int} (h : Ok net) (hp : Peel net (allOf net)) {m w : Nat} (hm : MaxOf net (packed net) m) (hw : MinOf net (W net) w) : m = w := by
  obtain ⟨D, P, hD, hP, hz, hpk, hW⟩ := peel_pack h hp (allOf_lt net) 0 0 (Nat.two_pow_pos _) (Nat.two_pow_pos _) (Nat.le_refl _) (fun i j w hi => by rw [Nat.zero_testBit] at hi; cases hi) (fun j hj => by rw [Nat.zero_testBit] at hj; cases hj)
    (fun w hw hb => by rw [allOf_testBit] at hb; simp at hb; omega) (fun w hw hb => by rw [allOf_testBit] at hb; simp at hb; omega) (fun u v x hu => by rw [Nat.zero_testBit] at hu; cases hu)
  have h1 := hm.le P hP ((packed_two h hP).2 hpk)
  have h2 := hw.le D hD hW
  have h3 := (most_packed h hm hw).1
  omega
end Go.Proofs.Ythcidiihfjjpdaa
/- Cliques: plain facts. Conditions: those of each theorem. -/
namespace Go.Proofs.Ythcidiihfjjpdaa
set_option linter.unusedVariables false
set_option linter.unusedSimpArgs false

/-- Places with the same number are neighbours. -/
def CliqueP (net : List Int) (c : Nat → Nat) : Prop := ∀ i j, i < net.length → j < net.length → c i = c j → i ≠ j → (nb net i).testBit j = true
/-- At most so many cliques have all places. -/
def InCliques (net : List Int) (m : Nat) : Prop := ∃ c : Nat → Nat, CliqueP net c ∧ ∀ i, i < net.length → c i < m
/-- A clique has at most one of places apart. -/
theorem apart_cliques {net : List Int} (h : Ok net) {s m : Nat} (hs : s < 2 ^ net.length) (ha : Apart net s) (hm : InCliques net m) : size s ≤ m := by
  obtain ⟨c, hc, hl⟩ := hm
  rw [size_cnt h hs]
  have := cnt_inj (n := net.length) (m := m) (p := fun k => s.testBit k) (q := fun _ => true) c (fun k hk _ => ⟨hl k hk, rfl⟩) (fun j k hj hk hbj hbk he => by
    refine Classical.byContradiction fun hne => ?_
    have := hc j k hj hk he hne
    rw [ha j k hbj hbk] at this; cases this)
  rw [cnt_true] at this
  exact this
/-- One guard in each clique that has a place. -/
def OneEach (net : List Int) (c : Nat → Nat) (s : Nat) : Prop := ∀ k, k < net.length → ∃ g, g < net.length ∧ s.testBit g = true ∧ c g = c k
theorem one_each {net : List Int} (h : Ok net) {c : Nat → Nat} (hc : CliqueP net c) {s : Nat} (hs : s < 2 ^ net.length) (ho : OneEach net c s) : Eternal net s := by
  have h6 := h.hi
  refine ⟨fun t => t < 2 ^ net.length ∧ OneEach net c t, fun t _ ⟨ht, hot⟩ k hk hb => ?_, hs, ho⟩
  obtain ⟨g, hg, hgt, he⟩ := hot k hk
  have hne : k ≠ g := fun e => by rw [e, hgt] at hb; cases hb
  refine ⟨g, hgt, hc k g hk hg he.symm hne, moved_lt ht hk, fun j hj => ?_⟩
  by_cases hjk : c j = c k
  · exact ⟨k, hk, (moved_testBit (lt64 h ht) (by omega) hgt k).2 (.inr rfl), hjk.symm⟩
  · obtain ⟨q, hq, hqt, heq⟩ := hot j hj
    refine ⟨q, hq, (moved_testBit (lt64 h ht) (by omega) hgt q).2 (.inl ⟨hqt, fun e => ?_⟩), heq⟩
    rw [e, he] at heq
    exact hjk heq.symm
/-- The first place of each clique. -/
theorem firsts {net : List Int} (h : Ok net) {m : Nat} (hm : InCliques net m) : ∃ s, s < 2 ^ net.length ∧ Eternal net s ∧ size s ≤ m := by
  obtain ⟨c, hc, hl⟩ := hm
  have hb : ∀ j, (orN net.length (fun k => (List.range k).all fun i => !(c i == c k)) (fun k => 2 ^ k)).testBit j = true ↔ j < net.length ∧ ∀ i, i < j → c i ≠ c j := fun j => by
    rw [orN_testBit]
    constructor
    · rintro ⟨k, hk, a, b⟩
      rw [testBit_pow, decide_eq_true_eq] at b
      subst b
      rw [List.all_eq_true] at a
      exact ⟨hk, fun i hi => by have := a i (List.mem_range.2 hi); simpa using this⟩
    · rintro ⟨a, b⟩
      refine ⟨j, a, ?_, by rw [testBit_pow]; simp⟩
      rw [List.all_eq_true]
      intro i hi
      have := b i (List.mem_range.1 hi)
      simpa using this
  have hlt : orN net.length (fun k => (List.range k).all fun i => !(c i == c k)) (fun k => 2 ^ k) < 2 ^ net.length := orN_lt fun k hk _ => Nat.pow_lt_pow_right (by omega) hk
  refine ⟨_, hlt, one_each h hc hlt fun k hk => ?_, ?_⟩
  · -- the least place with this number
    have : ∀ m k, k ≤ m → k < net.length → ∃ g, g < net.length ∧ (orN net.length (fun k => (List.range k).all fun i => !(c i == c k)) (fun k => 2 ^ k)).testBit g = true ∧ c g = c k := by
      intro m
      induction m with
      | zero =>
        intro k hkm hk
        exact ⟨k, hk, (hb k).2 ⟨hk, fun i hi => by omega⟩, rfl⟩
      | succ m ih =>
        intro k hkm hk
        by_cases hex : ∃ i, i < k ∧ c i = c k
        · obtain ⟨i, hi, he⟩ := hex
          obtain ⟨g, a, b, d⟩ := ih i (by omega) (by omega)
          exact ⟨g, a, b, d.trans he⟩
        · exact ⟨k, hk, (hb k).2 ⟨hk, fun i hi he => hex ⟨i, hi, he⟩⟩, rfl⟩
    exact this k k (Nat.le_refl _) hk
  · rw [size_cnt h hlt]
    have := cnt_inj (n := net.length) (m := m) (p := fun k => (orN net.length (fun k => (List.range k).all fun i => !(c i == c k)) (fun k => 2 ^ k)).testBit k) (q := fun _ => true) c (fun k hk _ => ⟨hl k hk, rfl⟩) (fun j k hj hk hbj hbk he => by
      rcases Nat.lt_trichotomy j k with hlt | hlt | hlt
      · exact absurd he (((hb k).1 hbk).2 j hlt)
      · exact hlt
      · exact absurd he.symm (((hb j).1 hbj).2 k hlt))
    rw [cnt_true] at this
    exact this
/-- All places are alone in a clique each. -/
theorem cliques_all (net : List Int) : InCliques net net.length := ⟨fun i => i, fun i j _ _ he hne => absurd he hne, fun i hi => hi⟩
def Clique (net : List Int) (s : Nat) : Prop := ∀ i j, s.testBit i = true → s.testBit j = true → i ≠ j → (nb net i).testBit j = true
/-- The greatest clique times the cliques is at least all places. -/
theorem cliques_times {net : List Int} (h : Ok net) {m b : Nat} (hm : InCliques net m) (hb : ∀ s, s < 2 ^ net.length → Clique net s → size s ≤ b) : net.length ≤ m * b := by
  obtain ⟨c, hc, hl⟩ := hm
  have e1 : net.length = sumN net.length (fun _ => 1) := by rw [sumN_const, Nat.mul_one]
  have e2 : sumN net.length (fun _ => 1) = sumN net.length (fun k => sumN m (fun q => (c k == q).toNat)) := sumN_congr fun k hk => by
    rw [sumN_one (hl k hk) (fun j _ hne => by rw [show (c k == j) = false by simpa using fun e => hne e.symm]; rfl), show (c k == c k) = true by simp]; rfl
  have e3 : sumN m (fun q => sumN net.length (fun k => (c k == q).toNat)) ≤ sumN m (fun _ => b) := sumN_le fun q hq => by
    have hbit : ∀ j, (orN net.length (fun k => c k == q) (fun k => 2 ^ k)).testBit j = true ↔ j < net.length ∧ c j = q := fun j => by
      rw [orN_testBit]
      constructor
      · rintro ⟨k, hk, a, d⟩
        rw [testBit_pow, decide_eq_true_eq] at d
        subst d
        exact ⟨hk, by simpa using a⟩
      · rintro ⟨a, d⟩
        exact ⟨j, a, by simpa using d, by rw [testBit_pow]; simp⟩
    have hlt : orN net.length (fun k => c k == q) (fun k => 2 ^ k) < 2 ^ net.length := orN_lt fun k hk _ => Nat.pow_lt_pow_right (by omega) hk
    have := hb _ hlt (fun i j hi hj hne => hc i j ((hbit i).1 hi).1 ((hbit j).1 hj).1 (((hbit i).1 hi).2.trans ((hbit j).1 hj).2.symm) hne)
    rw [size_cnt h hlt] at this
    refine Nat.le_trans (Nat.le_of_eq ?_) this
    exact sumN_congr fun k hk => by
      congr 1
      rw [Bool.eq_iff_iff]
      show (c k == q) = true ↔ (orN net.length (fun k => c k == q) (fun k => 2 ^ k)).testBit k = true
      rw [hbit, beq_iff_eq]
      exact ⟨fun a => ⟨hk, a⟩, fun a => a.2⟩
  rw [sumN_const] at e3
  rw [e1, e2, sumN_swap]
  exact e3
end Go.Proofs.Ythcidiihfjjpdaa
/- Cliques of forests: as many as are apart. Conditions: those of each theorem. -/
namespace Go.Proofs.Ythcidiihfjjpdaa
set_option linter.unusedVariables false
set_option linter.unusedSimpArgs false

theorem peel_cliques {net : List Int} (h : Ok net) {s : Nat} (hp : Peel net s) : s < 2 ^ net.length → ∀ (c : Nat → Nat) (m C P : Nat), P < 2 ^ net.length → (∀ i, i < net.length → C.testBit i = true → c i < m) →
    (∀ i j, i < net.length → j < net.length → C.testBit i = true → C.testBit j = true → c i = c j → i ≠ j → (nb net i).testBit j = true) → (∀ w, w < net.length → s.testBit w = false → C.testBit w = true) →
    m ≤ size P → Apart net P → (∀ j, P.testBit j = true → s.testBit j = false) → (∀ u v, P.testBit u = true → s.testBit v = true → C.testBit v = false → (nb net u).testBit v = false) →
    ∃ m' P', InCliques net m' ∧ P' < 2 ^ net.length ∧ Apart net P' ∧ m' ≤ size P' := by
  induction hp with
  | zero =>
    intro _ c m C P hP hl hcl hout hz hA _ _
    exact ⟨m, P, ⟨c, fun i j hi hj he hne => hcl i j hi hj (hout i hi (Nat.zero_testBit i)) (hout j hj (Nat.zero_testBit j)) he hne, fun i hi => hl i hi (hout i hi (Nat.zero_testBit i))⟩, hP, hA, hz⟩
  | @step s k hk hone hp ih =>
    intro hs c m C P hP hl hcl hout hz hA hPs hfar
    have h6 := h.hi
    have h64 := h.pow
    have hkl := in_lt hs hk
    have hsub : ∀ j, (s - 2 ^ k).testBit j = true ↔ s.testBit j = true ∧ j ≠ k := fun j => by
      rw [sub_testBit (lt64 h hs) (by omega) hk]; simp
    have hsubf : ∀ j, (s - 2 ^ k).testBit j = false → s.testBit j = false ∨ j = k := fun j hj => by
      cases hb : s.testBit j with
      | false => exact .inl rfl
      | true =>
        by_cases he : j = k
        · exact .inr he
        · rw [(hsub j).2 ⟨hb, he⟩] at hj; cases hj
    by_cases hCk : C.testBit k = true
    · refine ih (sub_lt hs) c m C P hP hl hcl (fun w hw hb => ?_) hz hA (fun j hj => not_true fun hx => ?_) (fun u v hu hv hC => hfar u v hu ((hsub v).1 hv).1 hC)
      · rcases hsubf w hb with a | a
        · exact hout w hw a
        · rw [a]; exact hCk
      · have := ((hsub j).1 hx).1
        rw [hPs j hj] at this; cases this
    · have hCk' := not_true hCk
      have hg : ∃ g, g < net.length ∧ (g = k ∨ ((nb net k).testBit g = true ∧ C.testBit g = false)) ∧ ∀ v, s.testBit v = true → C.testBit v = false → (nb net k).testBit v = true → v = g := by
        by_cases hex : ∃ g, s.testBit g = true ∧ C.testBit g = false ∧ (nb net k).testBit g = true
        · obtain ⟨g, g1, g2, g3⟩ := hex
          refine ⟨g, in_lt hs g1, .inr ⟨g3, g2⟩, fun v v1 _ v2 => ?_⟩
          have hlt : nb net k &&& s < 64 := Nat.lt_of_le_of_lt Nat.and_le_right (by omega)
          exact (le_one hlt).1 hone v g (by rw [Nat.testBit_and, v1, v2]; rfl) (by rw [Nat.testBit_and, g1, g3]; rfl)
        · exact ⟨k, hkl, .inl rfl, fun v v1 v3 v2 => absurd ⟨v, v1, v3, v2⟩ hex⟩
      obtain ⟨g, hgl, hgk, honly⟩ := hg
      have hPk : P.testBit k = false := not_true fun hx => by rw [hPs k hx] at hk; cases hk
      have hCg : C.testBit g = false := hgk.elim (fun e => by rw [e]; exact hCk') (fun e => e.2)
      have hC2 : ∀ j, ((C ||| 2 ^ k) ||| 2 ^ g).testBit j = true ↔ C.testBit j = true ∨ j = k ∨ j = g := fun j => by
        rw [or_testBit, or_testBit, or_assoc]
      have hkg : ∀ i j, (i = k ∨ i = g) → (j = k ∨ j = g) → i ≠ j → (nb net i).testBit j = true := by
        intro i j hi hj hne
        rcases hgk with e | ⟨e, _⟩
        · exfalso
          apply hne
          rcases hi with a | a <;> rcases hj with b | b <;> rw [a, b] <;> simp [e]
        · rcases hi with a | a <;> rcases hj with b | b
          · exact absurd (a.trans b.symm) hne
          · rw [a, b]; exact e
          · rw [a, b, h.sym k g hkl hgl]; exact e
          · exact absurd (a.trans b.symm) hne
      refine ih (sub_lt hs) (fun i => if i = k ∨ i = g then m else c i) (m + 1) ((C ||| 2 ^ k) ||| 2 ^ g) (P ||| 2 ^ k) (or_lt hP hkl) (fun i hi hb => ?_) (fun i j hi hj hbi hbj he hne => ?_) (fun w hw hb => ?_) ?_ ?_ (fun j hj => not_true fun hx => ?_) (fun u v hu hv hC => ?_)
      · show (if i = k ∨ i = g then m else c i) < m + 1
        split
        · omega
        · rename_i hn
          rcases (hC2 i).1 hb with a | a
          · have := hl i hi a; omega
          · exact absurd a hn
      · have he : (if i = k ∨ i = g then m else c i) = (if j = k ∨ j = g then m else c j) := he
        by_cases hi2 : i = k ∨ i = g
        · by_cases hj2 : j = k ∨ j = g
          · exact hkg i j hi2 hj2 hne
          · rw [if_pos hi2, if_neg hj2] at he
            have := hl j hj (((hC2 j).1 hbj).resolve_right hj2)
            omega
        · by_cases hj2 : j = k ∨ j = g
          · rw [if_neg hi2, if_pos hj2] at he
            have := hl i hi (((hC2 i).1 hbi).resolve_right hi2)
            omega
          · rw [if_neg hi2, if_neg hj2] at he
            exact hcl i j hi hj (((hC2 i).1 hbi).resolve_right hi2) (((hC2 j).1 hbj).resolve_right hj2) he hne
      · rcases hsubf w hb with a | a
        · exact (hC2 w).2 (.inl (hout w hw a))
        · exact (hC2 w).2 (.inr (.inl a))
      · have := size_add (lt64 h hP) (by omega) hPk
        omega
      · refine hA.add h hP hkl fun j hj => ?_
        rw [h.sym j k (in_lt hP hj) hkl]
        exact hfar j k hj hk hCk'
      · obtain ⟨x1, x2⟩ := (hsub j).1 hx
        rcases (or_testBit _ _ _).1 hj with a | a
        · rw [hPs j a] at x1; cases x1
        · exact x2 a
      · obtain ⟨v1, v2⟩ := (hsub v).1 hv
        have hCv : C.testBit v = false := not_true fun hx => by rw [(hC2 v).2 (.inl hx)] at hC; cases hC
        rcases (or_testBit _ _ _).1 hu with a | a
        · exact hfar u v a v1 hCv
        · rw [a]
          refine not_true fun hx => ?_
          have := honly v v1 hCv hx
          rw [(hC2 v).2 (.inr (.inr this))] at hC; cases hC
theorem forest_cliques {net : List Int} (h : Ok net) (hp : Peel net (allOf net)) : ∃ m P, InCliques net m ∧ P < 2 ^ net.length ∧ Apart net P ∧ m ≤ size P :=
  peel_cliques h hp (allOf_lt net) (fun _ => 0) 0 0 0 (Nat.two_pow_pos _) (fun i _ hb => by rw [Nat.zero_testBit] at hb; cases hb) (fun i j _ _ hb => by rw [Nat.zero_testBit] at hb; cases hb)
    (fun w hw hb => by rw [allOf_testBit] at hb; simp at hb; omega) (Nat.zero_le _) (Apart.zero net) (fun j hj => by rw [Nat.zero_testBit] at hj; cases hj) (fun u v hu => by rw [Nat.zero_testBit] at hu; cases hu)
end Go.Proofs.Ythcidiihfjjpdaa
/- Rows of cliques and of shares: plain facts. Conditions: those of each theorem. -/
namespace Go.Proofs.Ythcidiihfjjpdaa
open D Go.RowKit
set_option linter.unusedVariables false
set_option linter.unusedSimpArgs false

/-- The places with a number. -/
def setL (r : List Nat) (v : Nat) : Nat := orN r.length (fun k => decide (r.getD k 0 = v)) (fun k => 2 ^ k)
theorem setL_bit {r : List Nat} {v j : Nat} : (setL r v).testBit j = true ↔ j < r.length ∧ r.getD j 0 = v := by
  unfold setL
  rw [orN_testBit]
  constructor
  · rintro ⟨k, hk, a, b⟩
    rw [testBit_pow, decide_eq_true_eq] at b
    subst b
    exact ⟨hk, by simpa using a⟩
  · rintro ⟨a, b⟩
    exact ⟨j, a, by simpa using b, by rw [testBit_pow]; simp⟩
theorem setL_lt {r : List Nat} {v n : Nat} (hn : r.length ≤ n) : setL r v < 2 ^ n := orN_lt fun k hk _ => Nat.pow_lt_pow_right (by omega) (by omega)
def CliqueL (net : List Int) (r : List Nat) : Prop := ∀ i j, i < r.length → j < r.length → i ≠ j → r.getD i 0 = r.getD j 0 → (nb net i).testBit j = true
theorem CliqueL.nil (net : List Int) : CliqueL net [] := fun i j hi => by simp at hi
theorem CliqueL.sets {net : List Int} {r : List Nat} (h : CliqueL net r) (v : Nat) : Clique net (setL r v) := fun i j hi hj hne => by
  obtain ⟨a, b⟩ := setL_bit.1 hi
  obtain ⟨c, d⟩ := setL_bit.1 hj
  exact h i j a c hne (by omega)
theorem CliqueL.of_sets {net : List Int} {r : List Nat} (h : ∀ v, v < nx r → Clique net (setL r v)) : CliqueL net r := fun i j hi hj hne he =>
  h (r.getD i 0) (by have e : r.getD i 0 = r[i] := by simp [List.getD, hi]
                     rw [e]; exact nx_gt (List.getElem_mem hi)) i j (setL_bit.2 ⟨hi, rfl⟩) (setL_bit.2 ⟨hj, he.symm⟩) hne
theorem CliqueL.append {net : List Int} {r : List Nat} {v : Nat} : CliqueL net (r ++ [v]) ↔ CliqueL net r ∧ Clique net (setL (r ++ [v]) v) := by
  constructor
  · intro h
    refine ⟨fun i j hi hj hne he => h i j (by simp; omega) (by simp; omega) hne (by rw [getD_app_lt hi, getD_app_lt hj]; exact he), h.sets v⟩
  · rintro ⟨h1, h2⟩ i j hi hj hne he
    simp only [List.length_append, List.length_singleton] at hi hj
    by_cases a : i < r.length
    · by_cases b : j < r.length
      · rw [getD_app_lt a, getD_app_lt b] at he
        exact h1 i j a b hne he
      · obtain rfl : j = r.length := by omega
        rw [getD_app_lt a, getD_app_end] at he
        exact h2 i r.length (setL_bit.2 ⟨by simp; omega, by rw [getD_app_lt a]; exact he⟩) (setL_bit.2 ⟨by simp, getD_app_end r v⟩) hne
    · obtain rfl : i = r.length := by omega
      have b : j < r.length := by omega
      rw [getD_app_lt b, getD_app_end] at he
      exact h2 r.length j (setL_bit.2 ⟨by simp, getD_app_end r v⟩) (setL_bit.2 ⟨by simp; omega, by rw [getD_app_lt b]; exact he.symm⟩) hne
theorem CliqueL.pre {net : List Int} {r q : List Nat} (h : CliqueL net q) (hp : r <+: q) : CliqueL net r := fun i j hi hj hne he => by
  have hl := hp.length_le
  exact h i j (by omega) (by omega) hne (by rw [pre_at hp hi, pre_at hp hj]; exact he)
/-- A row of at most so many cliques. -/
structure CRow (net : List Int) (m : Nat) (q : List Nat) : Prop where
  len : q.length = net.length
  rg : RG q
  le : nx q ≤ m
  cl : CliqueL net q
/-- In a row that counts up each number is there. -/
theorem RG.all {r : List Nat} (h : RG r) : ∀ v, v < nx r → ∃ k, k < r.length ∧ r.getD k 0 = v := by
  have key : ∀ m, m ≤ r.length → ∀ v, v < nx (r.take m) → ∃ k, k < m ∧ r.getD k 0 = v := by
    intro m
    induction m with
    | zero => intro _ v hv; simp [nx] at hv
    | succ m ih =>
      intro hm v hv
      rw [nx_take_succ (by omega)] at hv
      by_cases hlt : v < nx (r.take m)
      · obtain ⟨k, hk, e⟩ := ih (by omega) v hlt
        exact ⟨k, by omega, e⟩
      · have := h m (by omega)
        exact ⟨m, by omega, by omega⟩
  intro v hv
  exact key r.length (Nat.le_refl _) v (by rwa [List.take_length])
/-- A row with the same parts, that counts up. -/
theorem renumber (c : Nat → Nat) : ∀ n, ∃ q : List Nat, q.length = n ∧ RG q ∧ ∀ i j, i < n → j < n → (q.getD i 0 = q.getD j 0 ↔ c i = c j) := by
  intro n
  induction n with
  | zero => exact ⟨[], rfl, RG.nil, fun i j hi => by omega⟩
  | succ n ih =>
    obtain ⟨q, h1, h2, h3⟩ := ih
    by_cases hex : ∃ i, i < n ∧ c i = c n
    · obtain ⟨i, hi, he⟩ := hex
      have hmem : q.getD i 0 < nx q := by
        have e : q.getD i 0 = q[i] := by simp [List.getD, show i < q.length by omega]
        rw [e]; exact nx_gt (List.getElem_mem _)
      refine ⟨q ++ [q.getD i 0], by simp [h1], RG_append.2 ⟨h2, by omega⟩, fun a b ha hb => ?_⟩
      have val : ∀ a, a < n + 1 → ∃ a', a' < n ∧ (q ++ [q.getD i 0]).getD a 0 = q.getD a' 0 ∧ c a' = c a := fun a ha => by
        by_cases hlt : a < n
        · exact ⟨a, hlt, getD_app_lt (by omega), rfl⟩
        · obtain rfl : a = n := by omega
          exact ⟨i, hi, by rw [← h1]; exact getD_app_end _ _, he⟩
      obtain ⟨a', a1, a2, a3⟩ := val a ha
      obtain ⟨b', b1, b2, b3⟩ := val b hb
      rw [a2, b2, h3 a' b' a1 b1, a3, b3]
    · refine ⟨q ++ [nx q], by simp [h1], RG_append.2 ⟨h2, Nat.le_refl _⟩, fun a b ha hb => ?_⟩
      have lt : ∀ a, a < n → (q ++ [nx q]).getD a 0 = q.getD a 0 ∧ q.getD a 0 < nx q := fun a ha => by
        have e : q.getD a 0 = q[a] := by simp [List.getD, show a < q.length by omega]
        exact ⟨getD_app_lt (by omega), by rw [e]; exact nx_gt (List.getElem_mem _)⟩
      have last : (q ++ [nx q]).getD n 0 = nx q := by rw [← h1]; exact getD_app_end _ _
      by_cases h1a : a < n
      · by_cases h1b : b < n
        · rw [(lt a h1a).1, (lt b h1b).1]; exact h3 a b h1a h1b
        · obtain rfl : b = n := by omega
          rw [(lt a h1a).1, last]
          have := (lt a h1a).2
          exact ⟨fun e => by omega, fun e => absurd ⟨a, h1a, e⟩ hex⟩
      · obtain rfl : a = n := by omega
        by_cases h1b : b < a
        · rw [(lt b h1b).1, last]
          have := (lt b h1b).2
          exact ⟨fun e => by omega, fun e => absurd ⟨b, h1b, e.symm⟩ hex⟩
        · obtain rfl : b = a := by omega
          exact ⟨fun _ => rfl, fun _ => rfl⟩
theorem nx_le_of {c : Nat → Nat} {q : List Nat} {m : Nat} (hr : RG q) (hq : ∀ i j, i < q.length → j < q.length → (q.getD i 0 = q.getD j 0 ↔ c i = c j)) (hc : ∀ i, i < q.length → c i < m) : nx q ≤ m := by
  have hpick : ∀ v, ∃ k, v < nx q → k < q.length ∧ q.getD k 0 = v := fun v => by
    by_cases hv : v < nx q
    · obtain ⟨k, hk, e⟩ := hr.all v hv; exact ⟨k, fun _ => ⟨hk, e⟩⟩
    · exact ⟨0, fun h => absurd h hv⟩
  have := cnt_inj (n := nx q) (m := m) (p := fun _ => true) (q := fun _ => true) (fun v => c (hpick v).choose) (fun v hv _ => ⟨hc _ ((hpick v).choose_spec hv).1, rfl⟩) (fun u v hu hv _ _ he => by
    obtain ⟨a1, a2⟩ := (hpick u).choose_spec hu
    obtain ⟨b1, b2⟩ := (hpick v).choose_spec hv
    have := (hq _ _ a1 b1).2 he
    omega)
  rwa [cnt_true, cnt_true] at this
theorem crow_of {net : List Int} {m : Nat} (h : InCliques net m) : ∃ q, CRow net m q := by
  obtain ⟨c, hc, hm⟩ := h
  obtain ⟨q, h1, h2, h3⟩ := renumber c net.length
  refine ⟨q, h1, h2, nx_le_of (c := c) h2 (fun i j hi hj => h3 i j (by omega) (by omega)) (fun i hi => hm i (by omega)), fun i j hi hj hne he => ?_⟩
  exact hc i j (by omega) (by omega) ((h3 i j (by omega) (by omega)).1 he) hne
theorem of_crow {net : List Int} {m : Nat} {q : List Nat} (h : CRow net m q) : InCliques net m := by
  refine ⟨fun i => q.getD i 0, fun i j hi hj he hne => h.cl i j (by rw [h.len]; exact hi) (by rw [h.len]; exact hj) hne he, fun i hi => ?_⟩
  have e : q.getD i 0 = q[i]'(by rw [h.len]; exact hi) := by simp [List.getD, h.len, hi]
  have := nx_gt (List.getElem_mem (l := q) (n := i) (by rw [h.len]; exact hi))
  have := h.le
  simp only [e]
  omega
/-- So few cliques have all places. -/
structure MinCl (net : List Int) (m : Nat) : Prop where
  ex : InCliques net m
  le : ∀ k, InCliques net k → m ≤ k
theorem MinCl.uniq {net : List Int} {a b : Nat} (ha : MinCl net a) (hb : MinCl net b) : a = b := Nat.le_antisymm (ha.le b hb.ex) (hb.le a ha.ex)
theorem minCl_ex (net : List Int) : ∃ m, m ≤ net.length ∧ MinCl net m := by
  have key : ∀ b, InCliques net b → ∃ m, m ≤ b ∧ MinCl net m := by
    intro b
    induction b using Nat.strongRecOn with
    | _ b ih =>
      intro hb
      by_cases hex : ∃ k, k < b ∧ InCliques net k
      · obtain ⟨k, hk, hi⟩ := hex
        obtain ⟨m, hm, hM⟩ := ih k hk hi
        exact ⟨m, by omega, hM⟩
      · exact ⟨b, Nat.le_refl _, hb, fun k hk => Nat.not_lt.1 fun hlt => hex ⟨k, hlt, hk⟩⟩
  exact key _ (cliques_all net)
noncomputable def fewestCl (net : List Int) : Nat := (minCl_ex net).choose
theorem fewestCl_min (net : List Int) : MinCl net (fewestCl net) := (minCl_ex net).choose_spec.2
theorem fewestCl_le (net : List Int) : fewestCl net ≤ net.length := (minCl_ex net).choose_spec.1
theorem fewestCl_pos {net : List Int} (h : 1 ≤ net.length) : 1 ≤ fewestCl net := by
  obtain ⟨c, _, hc⟩ := (fewestCl_min net).ex
  have := hc 0 (by omega)
  omega
theorem crow_nx {net : List Int} {q : List Nat} (h : CRow net (fewestCl net) q) : nx q = fewestCl net := by
  have := (fewestCl_min net).le (nx q) (of_crow ⟨h.len, h.rg, Nat.le_refl _, h.cl⟩)
  have := h.le
  omega
end Go.Proofs.Ythcidiihfjjpdaa
/- Watches that share the places, a net and its other net: plain facts. Conditions: those of each theorem. -/
namespace Go.Proofs.Ythcidiihfjjpdaa
set_option linter.unusedVariables false
set_option linter.unusedSimpArgs false

/-- All places shared out among so many watches. -/
def SharesP (net : List Int) (c : Nat → Nat) (m : Nat) : Prop := (∀ i, i < net.length → c i < m) ∧ ∀ q, q < m → ∀ j, j < net.length → ∃ i, i < net.length ∧ c i = q ∧ (ball net j).testBit i = true
def InShares (net : List Int) (m : Nat) : Prop := ∃ c : Nat → Nat, SharesP net c m
theorem shares_one {net : List Int} (h : Ok net) : InShares net 1 := ⟨fun _ => 0, fun _ _ => by show 0 < 1; omega, fun q hq j hj => ⟨j, hj, by show 0 = q; omega, sees_self net j⟩⟩
/-- Each share has a guard in each ball. -/
theorem shares_ball {net : List Int} (h : Ok net) {m j : Nat} (hm : InShares net m) (hj : j < net.length) : m ≤ size (ball net j) := by
  obtain ⟨c, _, hc⟩ := hm
  rw [size_cnt h (h.ball_lt hj)]
  have hex : ∀ q, ∃ i, q < m → i < net.length ∧ c i = q ∧ (ball net j).testBit i = true := fun q => by
    by_cases hq : q < m
    · obtain ⟨i, hi⟩ := hc q hq j hj; exact ⟨i, fun _ => hi⟩
    · exact ⟨0, fun hx => absurd hx hq⟩
  have := cnt_inj (n := m) (m := net.length) (p := fun _ => true) (q := fun k => (ball net j).testBit k) (fun q => Classical.choose (hex q)) (fun q hq _ => by
    have := Classical.choose_spec (hex q) hq
    exact ⟨this.1, this.2.2⟩) (fun q r hq hr _ _ he => by
    have h1 := (Classical.choose_spec (hex q) hq).2.1
    have h2 := (Classical.choose_spec (hex r) hr).2.1
    rw [he] at h1
    exact h1.symm.trans h2)
  rw [cnt_true] at this
  exact this
/-- The places with a number. -/
def classOf (n : Nat) (c : Nat → Nat) (q : Nat) : Nat := orN n (fun k => c k == q) (fun k => 2 ^ k)
theorem class_testBit (n : Nat) (c : Nat → Nat) (q j : Nat) : (classOf n c q).testBit j = true ↔ j < n ∧ c j = q := by
  unfold classOf
  rw [orN_testBit]
  constructor
  · rintro ⟨k, hk, a, d⟩
    rw [testBit_pow, decide_eq_true_eq] at d
    subst d
    exact ⟨hk, by simpa using a⟩
  · rintro ⟨a, d⟩
    exact ⟨j, a, by simpa using d, by rw [testBit_pow]; simp⟩
theorem class_lt (n : Nat) (c : Nat → Nat) (q : Nat) : classOf n c q < 2 ^ n := orN_lt fun k hk _ => Nat.pow_lt_pow_right (by omega) hk
theorem class_size {net : List Int} (h : Ok net) (c : Nat → Nat) (q : Nat) : size (classOf net.length c q) = sumN net.length (fun k => (c k == q).toNat) := by
  rw [size_cnt h (class_lt _ _ _)]
  refine sumN_congr fun k hk => ?_
  congr 1
  rw [Bool.eq_iff_iff]
  show (classOf net.length c q).testBit k = true ↔ (c k == q) = true
  rw [class_testBit, beq_iff_eq]
  exact ⟨fun a => a.2, fun a => ⟨hk, a⟩⟩
/-- The classes have all places together. -/
theorem class_sum {net : List Int} (h : Ok net) {c : Nat → Nat} {m : Nat} (hl : ∀ i, i < net.length → c i < m) : sumN m (fun q => size (classOf net.length c q)) = net.length := by
  rw [sumN_congr (g := fun q => sumN net.length (fun k => (c k == q).toNat)) (fun q _ => class_size h c q), sumN_swap, sumN_congr (g := fun _ => 1) (fun k hk => ?_), sumN_const, Nat.mul_one]
  rw [sumN_one (hl k hk) (fun j _ hne => by rw [show (c k == j) = false by simpa using fun e => hne e.symm]; rfl), show (c k == c k) = true by simp]; rfl
theorem class_watch {net : List Int} (h : Ok net) {c : Nat → Nat} {m q : Nat} (hc : SharesP net c m) (hq : q < m) : W net (classOf net.length c q) = true := by
  refine (W_iff h (class_lt _ _ _)).2 fun j hj => (seen_balls h (class_lt _ _ _)).2 ?_
  obtain ⟨i, hi, a, b⟩ := hc.2 q hq j hj
  exact ⟨i, hi, (class_testBit _ _ _ _).2 ⟨hi, a⟩, by rw [sees_symm h hj hi]; exact b⟩
theorem shares_times {net : List Int} (h : Ok net) {m w : Nat} (hm : InShares net m) (hw : MinOf net (W net) w) : m * w ≤ net.length := by
  obtain ⟨c, hc⟩ := hm
  rw [← class_sum h hc.1, ← sumN_const]
  exact sumN_le fun q hq => hw.le _ (class_lt _ _ _) (class_watch h hc hq)
/-- Two can share just if nobody is alone. -/
theorem shares_two {net : List Int} (h : Ok net) : (∃ m, 2 ≤ m ∧ InShares net m) ↔ ∀ k, k < net.length → nb net k ≠ 0 := by
  constructor
  · rintro ⟨m, hm, c, hl, hc⟩ k hk h0
    obtain ⟨i, hi, a, b⟩ := hc 0 (by omega) k hk
    obtain ⟨j, hj, d, e⟩ := hc 1 (by omega) k hk
    have hself : ∀ x, (ball net k).testBit x = true → x = k := fun x hx => by
      rcases (ball_testBit _ _ _).1 hx with y | y
      · rw [h0, Nat.zero_testBit] at y; cases y
      · exact y.symm
    rw [hself i b] at a
    rw [hself j e] at d
    omega
  · intro hn
    obtain ⟨s, hs, hl⟩ := ex_least h
    have hw := (least_iff.1 hl).1
    have hf := free_watch h hn hs hl
    refine ⟨2, Nat.le_refl _, fun i => if s.testBit i = true then 0 else 1, fun i hi => by show (if s.testBit i = true then 0 else 1) < 2; split <;> omega, fun q hq j hj => ?_⟩
    rcases (show q = 0 ∨ q = 1 by omega) with rfl | rfl
    · obtain ⟨i, hi, a, b⟩ := (seen_balls h hs).1 ((W_iff h hs).1 hw j hj)
      exact ⟨i, hi, by show (if s.testBit i = true then 0 else 1) = 0; rw [if_pos a], by rw [sees_symm h hi hj]; exact b⟩
    · obtain ⟨i, hi, a, b⟩ := (seen_balls h (compl_lt net s)).1 ((W_iff h (compl_lt net s)).1 hf j hj)
      rw [compl_testBit hs, Bool.and_eq_true, Bool.not_eq_true'] at a
      exact ⟨i, hi, by show (if s.testBit i = true then 0 else 1) = 1; rw [a.2]; rfl, by rw [sees_symm h hi hj]; exact b⟩

/-! ### The other net -/
/-- Just those are neighbours that are not in the net. -/
structure Other (net o : List Int) : Prop where
  ok : Ok o
  len : o.length = net.length
  bit : ∀ i j, i < net.length → j < net.length → (nb o i).testBit j = (!decide (i = j) && !(nb net i).testBit j)
/-- Each place by a guard of the watch that sees it. -/
structure Served (net : List Int) (D : Nat) (p : Nat → Nat) : Prop where
  mem : ∀ v, v < net.length → D.testBit (p v) = true
  sees : ∀ v, v < net.length → (ball net (p v)).testBit v = true
  own : ∀ d, D.testBit d = true → p d = d
/-- Who sees all that are served with it. -/
noncomputable def univ (net : List Int) (p : Nat → Nat) (v : Nat) : Bool := @decide (∀ u, u < net.length → p u = p v → (ball net v).testBit u = true) (Classical.propDecidable _)
theorem univ_iff {net : List Int} {p : Nat → Nat} {v : Nat} : univ net p v = true ↔ ∀ u, u < net.length → p u = p v → (ball net v).testBit u = true := by
  unfold univ
  exact @decide_eq_true_iff _ (Classical.propDecidable _)
theorem cnt_lt_cnt {n : Nat} {p q : Nat → Bool} (h : ∀ k, k < n → p k = true → q k = true) {i : Nat} (hi : i < n) (h0 : p i = false) (h1 : q i = true) : cnt n p < cnt n q := by
  induction n with
  | zero => omega
  | succ n ih =>
    show cnt n p + (p n).toNat < cnt n q + (q n).toNat
    have hle := cnt_mono (n := n) (p := p) (q := q) (fun k hk => h k (by omega))
    by_cases he : i = n
    · subst he
      rw [h0, h1]
      simp only [Bool.toNat_false, Bool.toNat_true]
      omega
    · have := ih (fun k hk => h k (by omega)) (by omega)
      have h2 : (p n).toNat ≤ (q n).toNat := by
        cases hp : p n with
        | false => simp
        | true => rw [h n (by omega) hp]; exact Nat.le_refl _
      omega
theorem well_served {net o : List Int} (h : Ok net) (ho : Other net o) {D : Nat} (hD : D < 2 ^ net.length) (hmin : ∀ s, s < 2 ^ net.length → W net s = true → size D ≤ size s) : ∀ (m : Nat) (p : Nat → Nat), net.length - cnt net.length (univ net p) ≤ m → Served net D p →
    ∃ p', Served net D p' ∧ ∀ d, D.testBit d = true → W o (classOf net.length p' d) = true := by
  intro m
  induction m with
  | zero =>
    intro p hm hp
    have hall : ∀ v, v < net.length → univ net p v = true := fun v hv => by
      have := cnt_le net.length (univ net p)
      exact cnt_all (by omega) hv
    refine ⟨p, hp, fun d hd => ?_⟩
    have hlo : classOf net.length p d < 2 ^ o.length := by rw [ho.len]; exact class_lt _ _ _
    refine (W_iff ho.ok hlo).2 fun x hx => (seen_balls ho.ok hlo).2 ?_
    rw [ho.len] at hx
    refine Classical.byContradiction fun hno => ?_
    have hdl := in_lt hD hd
    have hnx : ∀ u, u < net.length → p u = d → u ≠ x ∧ (nb net u).testBit x = true := fun u hu he => by
      have hb : (ball o u).testBit x = false := not_true fun hc => hno ⟨u, by rw [ho.len]; exact hu, (class_testBit _ _ _ _).2 ⟨hu, he⟩, hc⟩
      have hux : u ≠ x := fun e => by rw [e, sees_self] at hb; cases hb
      refine ⟨hux, ?_⟩
      cases hn : (nb net u).testBit x with
      | true => rfl
      | false =>
        rw [(ball_testBit _ _ _).2 (.inl (by rw [ho.bit u x hu hx, hn]; simp [hux]))] at hb; cases hb
    -- the guard of x can go for both
    have he : p x ≠ d := fun e => (hnx x hx e).1 rfl
    have hpx := hp.mem x hx
    have hu := univ_iff.1 (hall x hx)
    have h6 := h.hi
    have h1 := (bits_sub D (lt64 h hD) d (by omega) hd).2.2.1
    have hD1 := sub_lt (k := d) hD
    have hb1 : ∀ j, (D - 2 ^ d).testBit j = (D.testBit j && !decide (j = d)) := sub_testBit (lt64 h hD) (by omega) hd
    have hpx1 : (D - 2 ^ d).testBit (p x) = true := by rw [hb1, hpx]; simp [he]
    have hpl := in_lt hD hpx
    have h2 := (bits_sub (D - 2 ^ d) (lt64 h hD1) (p x) (by omega) hpx1).2.2.1
    have hD2 := sub_lt (k := p x) hD1
    have hb2 : ∀ j, (D - 2 ^ d - 2 ^ p x).testBit j = ((D - 2 ^ d).testBit j && !decide (j = p x)) := sub_testBit (lt64 h hD1) (by omega) hpx1
    have h3 := size_or_one h hD2 hx
    have := hmin _ (or_lt hD2 hx) ((W_iff h (or_lt hD2 hx)).2 fun v hv => (seen_balls h (or_lt hD2 hx)).2 (by
      by_cases hvd : p v = d
      · refine ⟨x, hx, (or_testBit _ _ _).2 (.inr rfl), (ball_testBit _ _ _).2 (.inl ?_)⟩
        rw [h.sym v x hv hx]; exact (hnx v hv hvd).2
      · by_cases hvx : p v = p x
        · exact ⟨x, hx, (or_testBit _ _ _).2 (.inr rfl), hu v hv hvx⟩
        · have hm := hp.mem v hv
          exact ⟨p v, in_lt hD hm, (or_testBit _ _ _).2 (.inl (by rw [hb2, hb1, hm]; simp [hvd, hvx])), hp.sees v hv⟩))
    omega
  | succ m ih =>
    intro p hm hp
    by_cases hall : ∀ d, D.testBit d = true → W o (classOf net.length p d) = true
    · exact ⟨p, hp, hall⟩
    · have hex : ∃ d, D.testBit d = true ∧ W o (classOf net.length p d) = false := by
        refine Classical.byContradiction fun hno => hall fun d hd => ?_
        cases hw : W o (classOf net.length p d) with
        | true => rfl
        | false => exact absurd ⟨d, hd, hw⟩ hno
      obtain ⟨d, hd, hw⟩ := hex
      have hlo : classOf net.length p d < 2 ^ o.length := by rw [ho.len]; exact class_lt _ _ _
      have hdl := in_lt hD hd
      have hexx : ∃ x, x < net.length ∧ ∀ u, u < net.length → p u = d → u ≠ x ∧ (nb net u).testBit x = true := by
        refine Classical.byContradiction fun hno => ?_
        rw [(W_iff ho.ok hlo).2 fun x hx => (seen_balls ho.ok hlo).2 (by
          rw [ho.len] at hx
          refine Classical.byContradiction fun hno2 => hno ⟨x, hx, fun u hu he => ?_⟩
          have hb : (ball o u).testBit x = false := not_true fun hc => hno2 ⟨u, by rw [ho.len]; exact hu, (class_testBit _ _ _ _).2 ⟨hu, he⟩, hc⟩
          have hux : u ≠ x := fun e => by rw [e, sees_self] at hb; cases hb
          refine ⟨hux, ?_⟩
          cases hn : (nb net u).testBit x with
          | true => rfl
          | false =>
            rw [(ball_testBit _ _ _).2 (.inl (by rw [ho.bit u x hu hx, hn]; simp [hux]))] at hb; cases hb)] at hw
        cases hw
      obtain ⟨x, hx, hnx⟩ := hexx
      have he : p x ≠ d := fun e => (hnx x hx e).1 rfl
      have hpx := hp.mem x hx
      have h6 := h.hi
      by_cases hux : univ net p x = true
      · exfalso
        have hu := univ_iff.1 hux
        have h1 := (bits_sub D (lt64 h hD) d (by omega) hd).2.2.1
        have hD1 := sub_lt (k := d) hD
        have hb1 : ∀ j, (D - 2 ^ d).testBit j = (D.testBit j && !decide (j = d)) := sub_testBit (lt64 h hD) (by omega) hd
        have hpx1 : (D - 2 ^ d).testBit (p x) = true := by rw [hb1, hpx]; simp [he]
        have hpl := in_lt hD hpx
        have h2 := (bits_sub (D - 2 ^ d) (lt64 h hD1) (p x) (by omega) hpx1).2.2.1
        have hD2 := sub_lt (k := p x) hD1
        have hb2 : ∀ j, (D - 2 ^ d - 2 ^ p x).testBit j = ((D - 2 ^ d).testBit j && !decide (j = p x)) := sub_testBit (lt64 h hD1) (by omega) hpx1
        have h3 := size_or_one h hD2 hx
        have := hmin _ (or_lt hD2 hx) ((W_iff h (or_lt hD2 hx)).2 fun v hv => (seen_balls h (or_lt hD2 hx)).2 (by
          by_cases hvd : p v = d
          · refine ⟨x, hx, (or_testBit _ _ _).2 (.inr rfl), (ball_testBit _ _ _).2 (.inl ?_)⟩
            rw [h.sym v x hv hx]; exact (hnx v hv hvd).2
          · by_cases hvx : p v = p x
            · exact ⟨x, hx, (or_testBit _ _ _).2 (.inr rfl), hu v hv hvx⟩
            · have hm := hp.mem v hv
              exact ⟨p v, in_lt hD hm, (or_testBit _ _ _).2 (.inl (by rw [hb2, hb1, hm]; simp [hvd, hvx])), hp.sees v hv⟩))
        omega
      · have hux' := not_true hux
        have hxD : D.testBit x = false := not_true fun hc => hux (univ_iff.2 fun u hu heq => by
          have := hp.own x hc
          rw [this] at heq
          rw [← heq]; exact hp.sees u hu)
        have hxd : x ≠ d := fun e => by rw [e, hd] at hxD; cases hxD
        have hpd : p d = d := hp.own d hd
        have hq : Served net D (fun v => if v = x then d else p v) := by
          refine ⟨fun v hv => ?_, fun v hv => ?_, fun e heD => ?_⟩
          · show D.testBit (if v = x then d else p v) = true
            split
            · exact hd
            · exact hp.mem v hv
          · show (ball net (if v = x then d else p v)).testBit v = true
            split
            · rename_i hvx
              rw [hvx]
              exact (ball_testBit _ _ _).2 (.inl (hnx d hdl hpd).2)
            · exact hp.sees v hv
          · show (if e = x then d else p e) = e
            rw [if_neg (fun hh => by rw [hh, hxD] at heD; cases heD)]
            exact hp.own e heD
        refine ih _ ?_ hq
        have hlt : cnt net.length (univ net p) < cnt net.length (univ net (fun v => if v = x then d else p v)) := by
          refine cnt_lt_cnt (fun v hv huv => ?_) hx hux' ?_
          · have hvx : v ≠ x := fun e => by rw [e, hux'] at huv; cases huv
            refine univ_iff.2 fun u hu heq => ?_
            simp only [if_neg hvx] at heq
            by_cases hu2 : u = x
            · rw [if_pos hu2] at heq
              rw [hu2]
              exact (ball_testBit _ _ _).2 (.inl (hnx v hv heq.symm).2)
            · rw [if_neg hu2] at heq
              exact univ_iff.1 huv u hu heq
          · refine univ_iff.2 fun u hu heq => ?_
            simp only [if_true] at heq
            by_cases hu2 : u = x
            · rw [hu2]; exact sees_self net x
            · rw [if_neg hu2] at heq
              refine (ball_testBit _ _ _).2 (.inl ?_)
              rw [h.sym u x hu hx]; exact (hnx u hu heq).2
        have := cnt_le net.length (univ net (fun v => if v = x then d else p v))
        omega
/-- A net and its other net are watched together. -/
theorem watch_times {net o : List Int} (h : Ok net) (ho : Other net o) {a b : Nat} (ha : MinOf net (W net) a) (hb : MinOf o (W o) b) : a * b ≤ net.length := by
  obtain ⟨D, hD, hw, hz⟩ := ha.ex
  have hexp : ∀ v, ∃ d, v < net.length → D.testBit d = true ∧ (ball net d).testBit v = true := fun v => by
    by_cases hv : v < net.length
    · obtain ⟨d, _, x, y⟩ := (seen_balls h hD).1 ((W_iff h hD).1 hw v hv)
      exact ⟨d, fun _ => ⟨x, y⟩⟩
    · exact ⟨0, fun hx => absurd hx hv⟩
  have hs : Served net D (fun v => if D.testBit v = true then v else Classical.choose (hexp v)) := by
    refine ⟨fun v hv => ?_, fun v hv => ?_, fun d hd => by show (if D.testBit d = true then d else _) = d; rw [if_pos hd]⟩
    · show D.testBit (if D.testBit v = true then v else Classical.choose (hexp v)) = true
      split
      · assumption
      · exact (Classical.choose_spec (hexp v) hv).1
    · show (ball net (if D.testBit v = true then v else Classical.choose (hexp v))).testBit v = true
      split
      · exact sees_self net v
      · exact (Classical.choose_spec (hexp v) hv).2
  obtain ⟨p, hp, hW⟩ := well_served h ho hD (fun s s1 s2 => by have := ha.le s s1 s2; omega) _ _ (Nat.le_refl _) hs
  have hsum := class_sum h (c := p) (m := net.length) (fun i hi => in_lt hD (hp.mem i hi))
  have hle : sumN net.length (fun q => (D.testBit q).toNat * b) ≤ sumN net.length (fun q => size (classOf net.length p q)) := sumN_le fun q hq => by
    cases hq2 : D.testBit q with
    | false => simp
    | true =>
      have hlo : classOf net.length p q < 2 ^ o.length := by rw [ho.len]; exact class_lt _ _ _
      have := hb.le _ hlo (hW q hq2)
      simpa using this
  rw [sumN_mul, hsum] at hle
  have e : sumN net.length (fun q => (D.testBit q).toNat) = a := by rw [← hz, size_cnt h hD]; rfl
  rw [e] at hle
  exact hle
theorem watch_sum {net o : List Int} (h : Ok net) (ho : Other net o) {a b : Nat} (ha : MinOf net (W net) a) (hb : MinOf o (W o) b) : a + b ≤ net.length + 1 := by
  have ht := watch_times h ho ha hb
  have hpos : ∀ {net : List Int}, Ok net → ∀ {a : Nat}, MinOf net (W net) a → 1 ≤ a := fun {net} h {a} ha => by
    obtain ⟨s, s1, s2, s3⟩ := ha.ex
    refine Classical.byContradiction fun hlt => ?_
    have h6 := h.hi
    have h0 : s = 0 := by
      refine Classical.byContradiction fun hne => ?_
      obtain ⟨j, hj⟩ := pos_iff.1 hne
      have := size_pos (lt64 h s1) (by have := in_lt s1 hj; omega) hj
      omega
    rw [h0, W_zero h] at s2; cases s2
  have h1 := hpos h ha
  have h2 := hpos ho.ok hb
  obtain ⟨x, rfl⟩ : ∃ x, a = x + 1 := ⟨a - 1, by omega⟩
  obtain ⟨y, rfl⟩ : ∃ y, b = y + 1 := ⟨b - 1, by omega⟩
  have : (x + 1) * (y + 1) = x * y + x + y + 1 := by rw [Nat.add_mul, Nat.mul_add, Nat.one_mul]; omega
  have := Nat.zero_le (x * y)
  omega
/-- The shares of both together. -/
theorem shares_sum {net o : List Int} (h : Ok net) (ho : Other net o) {a b : Nat} (ha : InShares net a) (hb : InShares o b) : a + b ≤ net.length + 1 := by
  have h0 : 0 < net.length := by have := h.lo; omega
  have h1 := shares_ball h ha h0
  have h2 := shares_ball ho.ok hb (j := 0) (by rw [ho.len]; exact h0)
  have h6 := h.hi
  rw [size_cnt h (h.ball_lt h0)] at h1
  rw [size_cnt ho.ok (ho.ok.ball_lt (by rw [ho.len]; exact h0)), ho.len] at h2
  have h3 : cnt net.length (fun k => (ball net 0).testBit k) + cnt net.length (fun k => (ball o 0).testBit k) = net.length + 1 := by
    have e1 : ∀ k, k < net.length → ((ball net 0).testBit k).toNat + ((ball o 0).testBit k).toNat = 1 + if k = 0 then 1 else 0 := fun k hk => by
      have hb1 : (ball net 0).testBit k = ((nb net 0).testBit k || decide (0 = k)) := by rw [Bool.eq_iff_iff, ball_testBit]; simp
      have hb2 : (ball o 0).testBit k = ((nb o 0).testBit k || decide (0 = k)) := by rw [Bool.eq_iff_iff, ball_testBit]; simp
      rw [hb1, hb2, ho.bit 0 k h0 hk]
      by_cases hk0 : k = 0
      · rw [hk0]; simp
      · have : ¬ 0 = k := fun e => hk0 e.symm
        cases (nb net 0).testBit k <;> simp [this, hk0]
    show sumN net.length _ + sumN net.length _ = _
    rw [← sumN_add, sumN_congr e1, sumN_add, sumN_const, sumN_one h0 (fun j _ hne => if_neg hne)]
    simp
  omega
end Go.Proofs.Ythcidiihfjjpdaa
