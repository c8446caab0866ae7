/- Several texts in one: Nt1, Nt2, N1, N2, N4, Chap1, Ch3, Ch5, Ch6, Ch7, N3, Ex, Ex2, S3, Nt3, Dr, Dr2, S7, S8, Ch9. Conditions: those of each theorem. -/
import Derived.Test.YtgocpgkhbamkcaaBza1
import Derived.Test.YtgocpgkhbamkcaaBzTz
import Derived.Test.YtgocpgkhbamkcaaBza2
/- What the laws' own small functions come to. Conditions: those of each theorem. -/
namespace Go.Proofs.Ytgocpgkhbamkcaa
open D Go.RowKit
set_option linter.unusedVariables false
set_option linter.unusedSimpArgs false


theorem L.toIntS_is {a : List Int} (ha : a.length ≤ 1048576) : L.toIntS_t a = some a := by
  have hloop : L.toIntS_run3 a FUEL (0, List.replicate (↑a.length : Int).toNat 0) = some a := by
    refine run_fuel (run := L.toIntS_run3 a) (fun s => 0 ≤ s.1 ∧ s.1 ≤ a.length ∧ s.2.length = a.length ∧ ∀ j, j < s.1.toNat → s.2.getD j 0 = a.getD j 0) (fun s => a.length - s.1.toNat) (fun _ => a) ?_ ?_ ?_
    · rintro n ⟨x, r⟩ ⟨h0, h1, h2, h3⟩
      simp only at h0 h1 h2 h3
      by_cases hx : x < (a.length : Int)
      · refine .inr ⟨(IntKind.i64.wrap (x + 1), r.set x.toNat (eli a x.toNat)), ?_, ?_, ?_, rfl⟩
        · simp only [L.toIntS_run3, L.toIntS_step3]
          rw [cnd_t (by simpa using hx), cnd_t (by simp; omega), cnd_t (by simp; omega), cnd_t (by simp; omega)]
        · rw [i64_wrap (by omega) (by omega)]
          refine ⟨by simp only; omega, by simp only; omega, by simp only [List.length_set]; exact h2, fun j hj => ?_⟩
          simp only at hj ⊢
          by_cases hjx : j = x.toNat
          · subst hjx
            have hlt : x.toNat < r.length := by omega
            simp [List.getD, hlt, eli]
          · rw [← h3 j (by omega)]
            simp [List.getD, List.getElem?_set_ne (Ne.symm hjx)]
        · rw [i64_wrap (by omega) (by omega)]; simp only; omega
      · refine .inl ?_
        simp only [L.toIntS_run3, L.toIntS_step3]
        rw [cnd_f (by simpa using hx)]
        congr 1
        apply List.ext_getElem?
        intro j
        by_cases hj : j < a.length
        · have := h3 j (by omega)
          simp only [List.getD, h2, hj, List.getElem?_eq_getElem, Option.getD_some, hj] at this ⊢
          rw [this]
        · rw [List.getElem?_eq_none (by omega), List.getElem?_eq_none (by omega)]
    · refine ⟨by simp, by simp, by simp, fun j hj => by simp at hj⟩
    · simp; omega
  unfold L.toIntS_t L.toIntS_tree
  rw [cnd_t (by simp [small]; omega), hloop]
  rfl

theorem L.eqIntS_is {a b : List Int} (ha : a.length ≤ 2097152) : L.eqIntS_t a b = some (decide (a = b)) := by
  unfold L.eqIntS_t L.eqIntS_tree
  by_cases hl : a.length = b.length
  · rw [cnd_f (by simp [hl])]
    have hloop : L.eqIntS_run4 a b FUEL 0 = some (if a = b then .inr () else .inl false) := by
      refine run_fuel (run := L.eqIntS_run4 a b) (fun x => 0 ≤ x ∧ x ≤ a.length ∧ ∀ j, j < x.toNat → a.getD j 0 = b.getD j 0) (fun x => a.length - x.toNat) (fun _ => if a = b then .inr () else .inl false) ?_ ?_ ?_
      · rintro n x ⟨h0, h1, h3⟩
        by_cases hx : x < (a.length : Int)
        · by_cases he : eli a x.toNat = eli b x.toNat
          · refine .inr ⟨IntKind.i64.wrap (x + 1), ?_, ?_, ?_, rfl⟩
            · simp only [L.eqIntS_run4, L.eqIntS_step4]
              rw [cnd_t (by simpa using hx), cnd_t (by simp; omega), cnd_t (by simp; omega), cnd_f (by simp [he])]
            · rw [i64_wrap (by omega) (by omega)]
              refine ⟨by omega, by omega, fun j hj => ?_⟩
              by_cases hjx : j = x.toNat
              · subst hjx; exact he
              · exact h3 j (by omega)
            · rw [i64_wrap (by omega) (by omega)]; omega
          · refine .inl ?_
            simp only [L.eqIntS_run4, L.eqIntS_step4]
            rw [cnd_t (by simpa using hx), cnd_t (by simp; omega), cnd_t (by simp; omega), cnd_t (by simp [he])]
            rw [if_neg (fun h => he (by rw [h]))]
        · refine .inl ?_
          simp only [L.eqIntS_run4, L.eqIntS_step4]
          rw [cnd_f (by simpa using hx)]
          have : a = b := by
            apply List.ext_getElem hl
            intro j hj hj'
            have := h3 j (by omega)
            simpa [List.getD, hj, hj'] using this
          rw [if_pos this]
      · exact ⟨by simp, by simp, fun j hj => by simp at hj⟩
      · simp; omega
    rw [hloop]
    by_cases h : a = b
    · simp [h, optC, sumC]
    · simp [h, optC, sumC]
  · rw [cnd_t (by simp; omega)]
    have : ¬ a = b := fun h => hl (by rw [h])
    simp [this]
end Go.Proofs.Ytgocpgkhbamkcaa
/- What is a net: the program's test and the model's come to the same. Conditions: those of each theorem. -/
namespace Go.Proofs.Ytgocpgkhbamkcaa
open D Go.RowKit
set_option linter.unusedVariables false
set_option linter.unusedSimpArgs false


theorem i64_bits : IntKind.i64.bits = 64 := by kernel_rfl
def hasI (s : Int) (p : Nat) : Bool := (s.fdiv (2 ^ min p 64)) % 2 == 1
theorem I.hasPlace_is {s p : Int} (hp : 0 ≤ p) : I.hasPlace_t s p = some (hasI s p.toNat) := by
  unfold I.hasPlace_t I.hasPlace_tree
  rw [cnd_f (by simp; omega), i64_and1, i64_bits]
  rfl
theorem I.setIn_is {net : List Int} {s : Int} (hl : net.length ≤ 6) : I.setIn_t net s = some (decide (0 ≤ s ∧ s < 2 ^ net.length)) := by
  unfold I.setIn_t I.setIn_tree
  have e : IntKind.i64.wrap (1 * 2 ^ min (↑net.length : Int).toNat IntKind.i64.bits) = 2 ^ net.length := by
    rw [i64_bits, Int.toNat_natCast, Int.one_mul]
    generalize net.length = k at hl
    match k, hl with
    | 0, _ | 1, _ | 2, _ | 3, _ | 4, _ | 5, _ | 6, _ => exact i64_wrap (by decide) (by decide)
  by_cases h : 0 ≤ s
  · rw [cnd_t (by simpa using h), e]; simp [h]
  · rw [cnd_f (by simpa using h)]; simp [h]
theorem I.knownBack_is {net : List Int} {p : Int} (hl : net.length ≤ 6) (h0 : 0 ≤ p) (h1 : p < net.length) :
    I.knownBack_t net p = some ((List.range net.length).all fun q => !hasI (eli net p.toNat) q || hasI (eli net q) p.toNat) := by
  unfold I.knownBack_t I.knownBack_tree
  rw [run_all (run := I.knownBack_run2 net p) (len := net.length) (fun q => !hasI (eli net p.toNat) q || hasI (eli net q) p.toNat) (by omega) (fun n x hx0 hx1 => by
    simp only [I.knownBack_run2, I.knownBack_step2]
    by_cases hx : x < (net.length : Int)
    · rw [if_pos hx, cnd_t (by simpa using hx), cnd_t (by simp; omega), I.hasPlace_is hx0]
      simp only [optC]
      cases ha : hasI (eli net p.toNat) x.toNat with
      | false => simp only [cond_false, Bool.not_false, Bool.true_or, cond_true]; rw [i64_wrap (by omega) (by omega)]
      | true =>
        rw [cond_true, cnd_t (by simp; omega), I.hasPlace_is h0]
        simp only [optC]
        cases hb : hasI (eli net x.toNat) p.toNat with
        | false => rfl
        | true => simp only [Bool.not_true, cond_false, Bool.or_true, cond_true]; rw [i64_wrap (by omega) (by omega)]
    · rw [if_neg hx, cnd_f (by simpa using hx)])]
  cases (List.range net.length).all _ <;> rfl
theorem I.NetOk_is {net : List Int} : I.NetOk_t net = some (decide (1 ≤ net.length) && decide (net.length ≤ 6) && (List.range net.length).all fun p =>
    decide (0 ≤ eli net p ∧ eli net p < 2 ^ net.length) && !hasI (eli net p) p && (List.range net.length).all fun q => !hasI (eli net p) q || hasI (eli net q) p) := by
  unfold I.NetOk_t I.NetOk_tree
  rcases Nat.lt_or_ge net.length 1 with hlo | hlo
  · rw [cnd_t (by simp; omega), decide_eq_false (by omega : ¬ 1 ≤ net.length)]; rfl
  rw [cnd_f (by simp; omega)]
  rcases Nat.lt_or_ge 6 net.length with hl | hl
  · rw [cnd_t (by simp; omega), decide_eq_false (by omega : ¬ net.length ≤ 6), Bool.and_false]; rfl
  rw [cnd_f (by simp; omega)]
  rw [run_all (run := I.NetOk_run4 net) (len := net.length) (fun p => decide (0 ≤ eli net p ∧ eli net p < 2 ^ net.length) && !hasI (eli net p) p && (List.range net.length).all fun q => !hasI (eli net p) q || hasI (eli net q) p) (by omega) (fun n x hx0 hx1 => by
    simp only [I.NetOk_run4, I.NetOk_step4]
    by_cases hx : x < (net.length : Int)
    · rw [if_pos hx, cnd_t (by simpa using hx), cnd_t (by simp; omega), I.setIn_is hl]
      simp only [optC]
      cases ha : decide (0 ≤ eli net x.toNat ∧ eli net x.toNat < 2 ^ net.length) with
      | false => rfl
      | true =>
        rw [Bool.not_true, cond_false, cnd_t (by simp; omega), I.hasPlace_is hx0]
        simp only [optC]
        cases hb : hasI (eli net x.toNat) x.toNat with
        | true => rfl
        | false =>
          rw [cond_false, I.knownBack_is hl hx0 hx]
          simp only [optC]
          cases hc : (List.range net.length).all fun q => !hasI (eli net x.toNat) q || hasI (eli net q) x.toNat with
          | false => rfl
          | true => simp only [Bool.not_true, Bool.not_false, cond_false, Bool.and_true, cond_true]; rw [i64_wrap (by omega) (by omega)]
    · rw [if_neg hx, cnd_f (by simpa using hx)])]
  simp only [hlo, hl, decide_true, Bool.true_and]
  cases (List.range net.length).all _ <;> rfl
def bitS (s : Int) (p : Nat) : Int := (s.fdiv (2 ^ min p 64)).tmod 2
theorem S.l1In_is {x a b : Int} : S.l1In_t x a b = some (decide (a ≤ x ∧ x ≤ b)) := by
  unfold S.l1In_t S.l1In_tree
  by_cases h : a ≤ x
  · rw [cnd_t (by simpa using h)]; simp [h]
  · rw [cnd_f (by simpa using h)]; simp [h]
theorem S.NetOk_is {net : List Int} : S.NetOk_t net = some (decide (1 ≤ net.length) && decide (net.length ≤ 6) &&
    ((List.range net.length).all fun p => decide (0 ≤ eli net p ∧ eli net p < 2 ^ net.length)) && (List.range net.length).all fun p =>
    (List.range net.length).all fun q => bitS (eli net p) q == bitS (eli net q) p && !(q == p && bitS (eli net p) q == 1)) := by
  unfold S.NetOk_t S.NetOk_tree
  rw [S.l1In_is]
  simp only [optC]
  rcases Nat.lt_or_ge net.length 1 with hlo | hlo
  · rw [decide_eq_false (by omega : ¬ 1 ≤ net.length), decide_eq_false (by omega : ¬ ((1 : Int) ≤ (net.length : Int) ∧ (net.length : Int) ≤ 6))]; rfl
  rcases Nat.lt_or_ge 6 net.length with hl | hl
  · rw [decide_eq_false (by omega : ¬ net.length ≤ 6), decide_eq_false (by omega : ¬ ((1 : Int) ≤ (net.length : Int) ∧ (net.length : Int) ≤ 6)), Bool.and_false]; rfl
  rw [decide_eq_true (by omega : ((1 : Int) ≤ (net.length : Int) ∧ (net.length : Int) ≤ 6)), Bool.not_true, cond_false]
  have e : IntKind.i64.wrap (IntKind.i64.wrap (1 * 2 ^ min (↑net.length : Int).toNat IntKind.i64.bits) - 1) = 2 ^ net.length - 1 := by
    rw [i64_bits, Int.toNat_natCast, Int.one_mul]
    generalize net.length = k at hl
    match k, hl with
    | 0, _ | 1, _ | 2, _ | 3, _ | 4, _ | 5, _ | 6, _ => rw [i64_wrap (n := 2 ^ min _ 64) (by decide) (by decide)]; exact i64_wrap (by decide) (by decide)
  rw [run_all (run := S.NetOk_run4 net) (len := net.length) (fun p => decide (0 ≤ eli net p ∧ eli net p < 2 ^ net.length)) (by omega) (fun n x hx0 hx1 => by
    simp only [S.NetOk_run4, S.NetOk_step4]
    by_cases hx : x < (net.length : Int)
    · rw [if_pos hx, cnd_t (by simpa using hx), cnd_t (by simp; omega), S.l1In_is, e]
      simp only [optC]
      have : decide (0 ≤ eli net x.toNat ∧ eli net x.toNat ≤ 2 ^ net.length - 1) = decide (0 ≤ eli net x.toNat ∧ eli net x.toNat < 2 ^ net.length) := decide_eq_decide.2 (by omega)
      rw [this]
      cases decide (0 ≤ eli net x.toNat ∧ eli net x.toNat < 2 ^ net.length) with
      | false => rfl
      | true => simp only [Bool.not_true, cond_false, cond_true]; rw [i64_wrap (by omega) (by omega)]
    · rw [if_neg hx, cnd_f (by simpa using hx)])]
  have inner : ∀ p : Int, 0 ≤ p → p < net.length → S.NetOk_run12 net p FUEL 0 = some (bif (List.range net.length).all (fun q => bitS (eli net p.toNat) q == bitS (eli net q) p.toNat && !(q == p.toNat && bitS (eli net p.toNat) q == 1)) then .inr () else .inl false) := by
    intro p hp0 hp1
    refine run_all (run := S.NetOk_run12 net p) (len := net.length) _ (by omega) (fun n x hx0 hx1 => ?_)
    simp only [S.NetOk_run12, S.NetOk_step12]
    by_cases hx : x < (net.length : Int)
    · rw [if_pos hx, cnd_t (by simpa using hx), cnd_t (by simp; omega), cnd_f (by simp; omega), cnd_t (by simp; omega), cnd_f (by simp; omega), i64_bits]
      show (bif !(bitS (eli net p.toNat) x.toNat == bitS (eli net x.toNat) p.toNat) then _ else _) = _
      cases ha : (bitS (eli net p.toNat) x.toNat == bitS (eli net x.toNat) p.toNat) with
      | false => rfl
      | true =>
        rw [Bool.not_true, cond_false, Bool.true_and]
        by_cases hxp : x = p
        · subst hxp
          rw [cnd_t (by simp), cnd_t (by simp; omega), cnd_f (by simp; omega), BEq.rfl, Bool.true_and]
          show (bif (bitS (eli net x.toNat) x.toNat == 1) then _ else _) = _
          cases (bitS (eli net x.toNat) x.toNat == 1) with
          | true => rfl
          | false => simp only [cond_false, Bool.not_false, cond_true]; rw [i64_wrap (by omega) (by omega)]
        · rw [cnd_f (by simpa using hxp)]
          have : (x.toNat == p.toNat) = false := by simp; omega
          rw [this, Bool.false_and, Bool.not_false, cond_true, i64_wrap (by omega) (by omega)]
    · rw [if_neg hx, cnd_f (by simpa using hx)]
  rw [run_all (run := S.NetOk_run9 net) (len := net.length) (fun p => (List.range net.length).all fun q => bitS (eli net p) q == bitS (eli net q) p && !(q == p && bitS (eli net p) q == 1)) (by omega) (fun n x hx0 hx1 => by
    simp only [S.NetOk_run9, S.NetOk_step9]
    by_cases hx : x < (net.length : Int)
    · rw [if_pos hx, cnd_t (by simpa using hx), inner x hx0 hx]
      simp only [optC]
      cases (List.range net.length).all fun q => bitS (eli net x.toNat) q == bitS (eli net q) x.toNat && !(q == x.toNat && bitS (eli net x.toNat) q == 1) with
      | false => rfl
      | true => simp only [cond_true, sumC]; rw [i64_wrap (by omega) (by omega)]
    · rw [if_neg hx, cnd_f (by simpa using hx)])]
  simp only [hlo, hl, decide_true, Bool.true_and]
  cases (List.range net.length).all fun p => decide (0 ≤ eli net p ∧ eli net p < 2 ^ net.length) with
  | false => rfl
  | true =>
    simp only [cond_true, sumC, Bool.true_and]
    cases (List.range net.length).all _ <;> rfl
theorem bitS_is {s : Int} (h : 0 ≤ s) (p : Nat) : bitS s p = if hasI s p = true then 1 else 0 := by
  unfold bitS hasI
  have h2 : (0 : Int) < 2 ^ min p 64 := Int.pow_pos (by decide)
  have h3 : 0 ≤ s.fdiv (2 ^ min p 64) := Int.fdiv_nonneg h (by omega)
  rw [Int.tmod_eq_emod_of_nonneg h3]
  by_cases h4 : s.fdiv (2 ^ min p 64) % 2 = 1
  · simp [h4]
  · have : s.fdiv (2 ^ min p 64) % 2 = 0 := by omega
    simp [this]
theorem NetOk_eq {net : List Int} : I.NetOk_t net = S.NetOk_t net := by
  rw [I.NetOk_is, S.NetOk_is]
  congr 1
  rw [Bool.eq_iff_iff]
  simp only [Bool.and_eq_true, List.all_eq_true, List.mem_range, decide_eq_true_eq, Bool.or_eq_true, Bool.not_eq_true', beq_iff_eq, Bool.and_eq_false_iff, beq_eq_false_iff_ne]
  constructor
  · rintro ⟨⟨h1, h2⟩, h3⟩
    refine ⟨⟨⟨h1, h2⟩, fun p hp => (h3 p hp).1.1⟩, fun p hp q hq => ⟨?_, ?_⟩⟩
    · rw [bitS_is (h3 p hp).1.1.1, bitS_is (h3 q hq).1.1.1]
      have a1 := (h3 p hp).2 q hq
      have a2 := (h3 q hq).2 p hp
      cases ha : hasI (eli net p) q <;> cases hb : hasI (eli net q) p <;> simp_all
    · by_cases hqp : q = p
      · subst hqp
        right
        rw [bitS_is (h3 q hq).1.1.1, (h3 q hq).1.2]
        decide
      · exact .inl hqp
  · rintro ⟨⟨⟨h1, h2⟩, h3⟩, h4⟩
    refine ⟨⟨h1, h2⟩, fun p hp => ⟨⟨h3 p hp, ?_⟩, fun q hq => ?_⟩⟩
    · have := (h4 p hp p hp).2
      rw [bitS_is (h3 p hp).1] at this
      cases ha : hasI (eli net p) p with
      | false => rfl
      | true => rw [ha] at this; simp at this
    · have := (h4 p hp q hq).1
      rw [bitS_is (h3 p hp).1, bitS_is (h3 q hq).1] at this
      cases ha : hasI (eli net p) q <;> cases hb : hasI (eli net q) p <;> simp_all
theorem NetOk_some {net : List Int} : ∃ b, S.NetOk_t net = some b ∧ I.NetOk_t net = some b := ⟨_, S.NetOk_is, by rw [NetOk_eq]; exact S.NetOk_is⟩
end Go.Proofs.Ytgocpgkhbamkcaa
/- What the small functions on nets and sets come to, in natural numbers. Conditions: those of each theorem. -/
namespace Go.Proofs.Ytgocpgkhbamkcaa
open D Go.RowKit
set_option linter.unusedVariables false
set_option linter.unusedSimpArgs false


theorem hasI_nat (s p : Nat) (hp : p ≤ 64) : hasI (s : Int) p = s.testBit p := by
  have h := shr_is s p hp
  unfold hasI
  rw [bits64, Int.toNat_natCast] at h
  rw [h, testBit_div, Bool.eq_iff_iff, beq_iff_eq, beq_iff_eq]
  omega
theorem two_pow_cast (n : Nat) : ((2 : Int) ^ n) = ((2 ^ n : Nat) : Int) := by simp
theorem Ok.of {net : List Int} (h1 : 1 ≤ net.length) (h2 : net.length ≤ 6) (h3 : ∀ p, p < net.length → (0 ≤ eli net p ∧ eli net p < 2 ^ net.length) ∧ hasI (eli net p) p = false ∧ ∀ q, q < net.length → hasI (eli net p) q = true → hasI (eli net q) p = true) : Ok net := by
  have hel : ∀ k, k < net.length → eli net k = (nb net k : Int) := fun k hk => by
    have := (h3 k hk).1.1
    show _ = ((eli net k).toNat : Int)
    omega
  refine ⟨h1, h2, hel, fun k hk => ?_, fun j k hj hk => ?_, fun k hk => ?_⟩
  · have := (h3 k hk).1.2
    rw [hel k hk, two_pow_cast] at this
    omega
  · have a1 := (h3 k hk).2.2 j hj
    have a2 := (h3 j hj).2.2 k hk
    rw [hel k hk, hel j hj, hasI_nat _ _ (by omega), hasI_nat _ _ (by omega)] at a1 a2
    cases hx : (nb net k).testBit j with
    | true => exact (a1 hx).symm
    | false => cases hy : (nb net j).testBit k with
      | false => rfl
      | true => rw [a2 hy] at hx; cases hx
  · have := (h3 k hk).2.1
    rw [hel k hk, hasI_nat _ _ (by omega)] at this
    exact this
theorem NetOk_cases (net : List Int) : (Ok net ∧ I.NetOk_t net = some true ∧ S.NetOk_t net = some true) ∨ (¬ Ok net ∧ I.NetOk_t net = some false ∧ S.NetOk_t net = some false) := by
  rw [← NetOk_eq, I.NetOk_is]
  generalize hb : (decide (1 ≤ net.length) && decide (net.length ≤ 6) && (List.range net.length).all fun p => decide (0 ≤ eli net p ∧ eli net p < 2 ^ net.length) && !hasI (eli net p) p && (List.range net.length).all fun q => !hasI (eli net p) q || hasI (eli net q) p) = b
  cases b with
  | true =>
    left
    simp only [Bool.and_eq_true, List.all_eq_true, List.mem_range, decide_eq_true_eq, Bool.or_eq_true, Bool.not_eq_true'] at hb
    refine ⟨Ok.of hb.1.1 hb.1.2 fun p hp => ⟨(hb.2 p hp).1.1, (hb.2 p hp).1.2, fun q hq hx => ?_⟩, rfl, rfl⟩
    rcases (hb.2 p hp).2 q hq with h | h
    · rw [h] at hx; cases hx
    · exact h
  | false =>
    right
    refine ⟨fun h => ?_, rfl, rfl⟩
    have : (decide (1 ≤ net.length) && decide (net.length ≤ 6) && (List.range net.length).all fun p => decide (0 ≤ eli net p ∧ eli net p < 2 ^ net.length) && !hasI (eli net p) p && (List.range net.length).all fun q => !hasI (eli net p) q || hasI (eli net q) p) = true := by
      simp only [Bool.and_eq_true, List.all_eq_true, List.mem_range, decide_eq_true_eq, Bool.or_eq_true, Bool.not_eq_true']
      have hhi := h.hi
      refine ⟨⟨h.lo, h.hi⟩, fun p hp => ⟨⟨?_, ?_⟩, fun q hq => ?_⟩⟩
      · rw [show eli net p = (nb net p : Int) from h.el p hp, two_pow_cast]
        have := h.lt p hp
        omega
      · rw [show eli net p = (nb net p : Int) from h.el p hp, hasI_nat _ _ (by omega)]; exact h.irr p hp
      · rw [show eli net p = (nb net p : Int) from h.el p hp, show eli net q = (nb net q : Int) from h.el q hq, hasI_nat _ _ (by omega), hasI_nat _ _ (by omega), h.sym q p hq hp]
        cases (nb net q).testBit p <;> simp
    rw [hb] at this; cases this
theorem Ok.eli {net : List Int} (h : Ok net) {k : Nat} (hk : k < net.length) : D.eli net k = (nb net k : Int) := h.el k hk

/-! ### The program's small functions -/
theorem I.hasPlace_n (s p : Nat) (hp : p ≤ 64) : I.hasPlace_t s p = some (s.testBit p) := by
  rw [I.hasPlace_is (by omega), Int.toNat_natCast, hasI_nat s p hp]
theorem I.setIn_n {net : List Int} (h : Ok net) (s : Int) : I.setIn_t net s = some (decide (0 ≤ s ∧ s < 2 ^ net.length)) := I.setIn_is h.hi
theorem I.placeIn_n (net : List Int) (p : Int) : I.placeIn_t net p = some (decide (0 ≤ p ∧ p < net.length)) := by
  unfold I.placeIn_t I.placeIn_tree
  by_cases h : 0 ≤ p
  · rw [cnd_t (by simpa using h)]; simp [h]
  · rw [cnd_f (by simpa using h)]; simp [h]
theorem I.allOf_n {net : List Int} (h : Ok net) : I.allOf_t net = some ((allOf net : Nat) : Int) := by
  unfold I.allOf_t I.allOf_tree
  have h2 := h.pow
  have h3 : 0 < 2 ^ net.length := Nat.two_pow_pos _
  rw [one_shl (by have := h.hi; omega), sub1_nat (by omega) (by omega)]
  rfl
theorem I.ballIn_n {net : List Int} (h : Ok net) {p : Nat} (hp : p < net.length) : I.ballIn_t net p = some ((ball net p : Nat) : Int) := by
  unfold I.ballIn_t I.ballIn_tree
  have h6 := h.hi
  have h64 := h.lt64 hp
  rw [cnd_t (by simp; omega), cnd_f (by simp), one_shl (by omega), Int.toNat_natCast, h.eli hp, i64_or_nat _ _ (by omega) (pow2_lt (by omega))]
  rfl
theorem fold_balls {net : List Int} (h : Ok net) {s : Nat} (hs : s < 2 ^ net.length) : fold net.length (fun t k => if s.testBit k = true then t ||| ball net k else t) 0 = seen net s := h.seen_balls hs
theorem I.seenIn_n {net : List Int} (h : Ok net) {s : Nat} (hs : s < 2 ^ net.length) : I.seenIn_t net s = some ((seen net s : Nat) : Int) := by
  unfold I.seenIn_t I.seenIn_tree
  have h6 := h.hi
  have h64 := h.pow
  have := (run_for (run := I.seenIn_run3 net s) (len := net.length) (fun k (t : Nat) => ((t : Int), (k : Int))) (fun t k => if s.testBit k = true then t ||| ball net k else t) (fun t => (t : Int)) (fun k t => t < 2 ^ net.length) (by omega) (fun n k t hk ht => ?_) (fun n t ht => ?_) (t0 := 0) (Nat.two_pow_pos _)).1
  · rw [fold_balls h hs] at this
    exact congrArg (fun o => optC o (fun q => some q) none) this
  · simp only [I.seenIn_run3, I.seenIn_step3]
    rw [cnd_t (by simp; omega), I.hasPlace_n _ _ (by omega)]
    simp only [optC]
    have hb := h.ball_lt hk
    cases hbit : s.testBit k with
    | true =>
      rw [cond_true, I.ballIn_n h hk, if_pos rfl]
      simp only
      rw [i64_or_nat _ _ (by omega) (by omega), add1_nat (by omega)]
      exact ⟨rfl, Nat.or_lt_two_pow ht hb⟩
    | false =>
      rw [cond_false, if_neg (by simp), add1_nat (by omega)]
      exact ⟨rfl, ht⟩
  · simp only [I.seenIn_run3, I.seenIn_step3]
    rw [cnd_f (by simp)]
theorem I.watchIn_n {net : List Int} (h : Ok net) {s : Nat} (hs : s < 2 ^ net.length) : I.watchIn_t net s = some (W net s) := by
  unfold I.watchIn_t I.watchIn_tree
  rw [I.seenIn_n h hs, I.allOf_n h]
  simp only [optC]
  rw [nat_beq]
  rfl
theorem size_fold (s : Nat) : fold 6 (fun t k => t + (s.testBit k).toNat) 0 = size s := by
  unfold size card
  congr 1
  funext t k
  cases s.testBit k <;> simp
theorem I.sizeOf_n (s : Nat) : I.sizeOf_t s = some ((size s : Nat) : Int) := by
  unfold I.sizeOf_t I.sizeOf_tree
  have := (run_for (run := I.sizeOf_run3 s) (len := 6) (fun k (t : Nat) => ((t : Int), (k : Int))) (fun t k => t + (s.testBit k).toNat) (fun t => (t : Int)) (fun k t => t ≤ k) (by omega) (fun n k t hk ht => ?_) (fun n t ht => ?_) (t0 := 0) (Nat.le_refl _)).1
  · rw [size_fold] at this
    exact congrArg (fun o => optC o (fun q => some q) none) this
  · simp only [I.sizeOf_run3, I.sizeOf_step3]
    have hb : (s.testBit k).toNat ≤ 1 := by cases s.testBit k <;> decide
    rw [cnd_t (by simp; omega), cnd_f (by simp), bit_shr1 _ _ (by omega), add_nat (by omega), add1_nat (by omega)]
    exact ⟨rfl, by omega⟩
  · simp only [I.sizeOf_run3, I.sizeOf_step3]
    rw [cnd_f (by simp)]
theorem I.without_n {s p : Nat} (hs : s < 64) (hp : p < 6) : I.without_t s p = some (((if s.testBit p = true then s - 2 ^ p else s : Nat)) : Int) := by
  unfold I.without_t I.without_tree
  rw [cnd_f (by simp), one_shl (by omega), i64_andNot_nat _ _ (by omega) (pow2_lt (by omega)), bits_minus s hs p hp]

/-! ### The model's small functions -/
theorem S.l1Near_n {net : List Int} (h : Ok net) (s : Nat) : S.l1Near_t net s = some ((near net s : Nat) : Int) := by
  unfold S.l1Near_t S.l1Near_tree
  have h6 := h.hi
  have h64 := h.pow
  have := (run_for (run := S.l1Near_run3 net s) (len := net.length) (fun k (t : Nat) => ((t : Int), (k : Int))) (fun t k => if s.testBit k = true then t ||| nb net k else t) (fun t => (t : Int)) (fun k t => t < 2 ^ net.length) (by omega) (fun n k t hk ht => ?_) (fun n t ht => ?_) (t0 := 0) (Nat.two_pow_pos _)).1
  · exact congrArg (fun o => optC o (fun q => some q) none) this
  · simp only [S.l1Near_run3, S.l1Near_step3]
    have hb := h.lt k hk
    rw [cnd_t (by simp; omega), cnd_f (by simp), bit_shr _ _ (by omega), bool_eq1]
    cases hbit : s.testBit k with
    | true =>
      rw [cond_true, cnd_t (by simp; omega), Int.toNat_natCast, h.eli hk, if_pos rfl]
      rw [i64_or_nat _ _ (by omega) (by omega), add1_nat (by omega)]
      exact ⟨rfl, Nat.or_lt_two_pow ht hb⟩
    | false =>
      rw [cond_false, if_neg (by simp), add1_nat (by omega)]
      exact ⟨rfl, ht⟩
  · simp only [S.l1Near_run3, S.l1Near_step3]
    rw [cnd_f (by simp)]
theorem all_shl {net : List Int} (h : Ok net) : IntKind.i64.wrap (IntKind.i64.wrap (1 * 2 ^ min (↑net.length : Int).toNat IntKind.i64.bits) - 1) = ((allOf net : Nat) : Int) := by
  have h2 := h.pow
  have h3 : 0 < 2 ^ net.length := Nat.two_pow_pos _
  rw [one_shl (by have := h.hi; omega), sub1_nat (by omega) (by omega)]
  rfl
theorem S.l2Watch_n {net : List Int} (h : Ok net) {s : Nat} (hs : s < 2 ^ net.length) : S.l2Watch_t net s = some (W net s) := by
  unfold S.l2Watch_t S.l2Watch_tree
  rw [S.l1Near_n h]
  simp only [optC]
  have h1 := h.near_lt s
  have h64 := h.pow
  rw [all_shl h, i64_or_nat _ _ (by omega) (by omega), nat_beq]
  rfl
theorem S.l1SetOk_n {net : List Int} (h : Ok net) (he : S.NetOk_t net = some true) (s : Int) : S.l1SetOk_t net s = some (decide (0 ≤ s ∧ s < 2 ^ net.length)) := by
  unfold S.l1SetOk_t S.l1SetOk_tree
  rw [he]
  simp only [optC]
  rw [cond_true, all_shl h, S.l1In_is]
  simp only
  congr 1
  rw [decide_eq_decide, two_pow_cast]
  have : 0 < 2 ^ net.length := Nat.two_pow_pos _
  unfold allOf
  omega
theorem l1Size_spec : ∀ s, s < 64 → size s = s % 2 + size (s / 2) := by decide +kernel
theorem S.l1Size_n {s : Nat} (hs : s < 64) : S.l1Size_t s = some ((size s : Nat) : Int) := by
  unfold S.l1Size_t S.l1Size_tree
  have : S.l1Size_run2 FUEL ((s : Int), 0) = some ((size s : Nat) : Int) := by
    refine run_fuel (run := S.l1Size_run2) (fun q => ∃ a t : Nat, q = ((a : Int), (t : Int)) ∧ a < 64 ∧ t + size a = size s) (fun q => q.1.toNat) (fun _ => ((size s : Nat) : Int)) ?_ ⟨s, 0, rfl, hs, by omega⟩ (by simp only [Int.toNat_natCast]; omega)
    rintro n _ ⟨a, t, rfl, ha, ht⟩
    have hz := size_le s
    simp only [S.l1Size_run2, S.l1Size_step2]
    by_cases h0 : a = 0
    · subst h0
      left
      rw [cnd_f (by simp)]
      have : size 0 = 0 := by decide
      rw [← ht, this]; rfl
    · right
      have h1 := l1Size_spec a ha
      rw [cnd_t (by simp; omega), div2_nat (by omega), tmod2_nat, add_nat (by omega)]
      exact ⟨_, rfl, ⟨_, _, rfl, by omega, by omega⟩, by simp only [Int.toNat_natCast]; omega, trivial⟩
  rw [this]; rfl
theorem set_cases {net : List Int} (h : Ok net) (s : Int) : (∃ t : Nat, s = (t : Int) ∧ t < 2 ^ net.length ∧ decide (0 ≤ s ∧ s < 2 ^ net.length) = true) ∨ decide (0 ≤ s ∧ s < 2 ^ net.length) = false := by
  by_cases hs : 0 ≤ s ∧ s < 2 ^ net.length
  · left
    refine ⟨s.toNat, by omega, ?_, by simpa using hs⟩
    have := hs.2
    rw [two_pow_cast] at this
    omega
  · right; simpa using hs
theorem place_cases (net : List Int) (p : Int) : (∃ t : Nat, p = (t : Int) ∧ t < net.length ∧ decide (0 ≤ p ∧ p < net.length) = true) ∨ decide (0 ≤ p ∧ p < net.length) = false := by
  by_cases hs : 0 ≤ p ∧ p < net.length
  · exact .inl ⟨p.toNat, by omega, by omega, by simpa using hs⟩
  · right; simpa using hs
end Go.Proofs.Ytgocpgkhbamkcaa
/- What the functions on watches come to. Conditions: those of each theorem. -/
namespace Go.Proofs.Ytgocpgkhbamkcaa
open D Go.RowKit
set_option linter.unusedVariables false
set_option linter.unusedSimpArgs false


theorem allOf_succ (net : List Int) : allOf net + 1 = 2 ^ net.length := by
  have : 0 < 2 ^ net.length := Nat.two_pow_pos _
  unfold allOf; omega
/-- The least of all, or what one began with. -/
theorem minFold {N : Nat} {p : Nat → Bool} {f : Nat → Nat} (t0 : Nat) :
    (∀ s, s < N → p s = true → fold N (fun t s => if p s = true then (if f s < t then f s else t) else t) t0 ≤ f s) ∧ fold N (fun t s => if p s = true then (if f s < t then f s else t) else t) t0 ≤ t0 ∧
    (fold N (fun t s => if p s = true then (if f s < t then f s else t) else t) t0 = t0 ∨ ∃ s, s < N ∧ p s = true ∧ f s = fold N (fun t s => if p s = true then (if f s < t then f s else t) else t) t0) := by
  induction N with
  | zero => exact ⟨fun s hs => by omega, Nat.le_refl _, .inl rfl⟩
  | succ N ih =>
    rw [fold_succ]
    generalize fold N _ t0 = g at ih ⊢
    obtain ⟨h1, h2, h3⟩ := ih
    cases hp : p N with
    | false =>
      simp only [Bool.false_eq_true, if_false]
      refine ⟨fun s hs hps => ?_, h2, ?_⟩
      · by_cases he : s = N
        · subst he; rw [hp] at hps; cases hps
        · exact h1 s (by omega) hps
      · rcases h3 with h3 | ⟨s, a, b⟩
        · exact .inl h3
        · exact .inr ⟨s, by omega, b⟩
    | true =>
      simp only [if_true]
      refine ⟨fun s hs hps => ?_, by split <;> omega, ?_⟩
      · by_cases he : s = N
        · subst he; split <;> omega
        · have := h1 s (by omega) hps
          split <;> omega
      · split
        · exact .inr ⟨N, by omega, hp, rfl⟩
        · rcases h3 with h3 | ⟨s, a, b⟩
          · exact .inl h3
          · exact .inr ⟨s, by omega, b⟩
theorem size_all {net : List Int} (h : Ok net) : size (allOf net) = net.length := by
  rw [size_cnt h (allOf_lt net), cnt_congr (q := fun _ => true) (fun k hk => by rw [allOf_testBit]; simpa using hk), cnt_true]
theorem size_le_len {net : List Int} (h : Ok net) {s : Nat} (hs : s < 2 ^ net.length) : size s ≤ net.length := by
  rw [size_cnt h hs]; exact cnt_le _ _
theorem size_lt_len {net : List Int} (h : Ok net) {s : Nat} (hs : s < allOf net) : size s < net.length := by
  have hs' : s < 2 ^ net.length := Nat.lt_trans hs (allOf_lt net)
  have : ∃ k, k < net.length ∧ s.testBit k = false := by
    refine Classical.byContradiction fun hc => ?_
    have : s = allOf net := eq_of_bits hs' (allOf_lt net) fun j hj => by
      rw [allOf_testBit]
      cases hb : s.testBit j with
      | true => simpa using hj
      | false => exact absurd ⟨j, hj, hb⟩ hc
    omega
  obtain ⟨k, hk, hb⟩ := this
  rw [size_cnt h hs']
  exact cnt_lt_of hk hb
/-- The fewest guards that watch. -/
def fewest (net : List Int) : Nat := fold (2 ^ net.length) (fun t s => if W net s = true then (if size s < t then size s else t) else t) net.length
theorem fewest_few {net : List Int} (h : Ok net) : Few net (fewest net) := by
  obtain ⟨h1, h2, h3⟩ := minFold (N := 2 ^ net.length) (p := W net) (f := size) net.length
  refine ⟨?_, h1⟩
  rcases h3 with h3 | h3
  · exact ⟨allOf net, allOf_lt net, W_all h, by rw [size_all h]; exact h3.symm⟩
  · exact h3
/-- The first of the smallest watches. -/
structure First (net : List Int) (r : Nat) : Prop where
  lt : r < 2 ^ net.length
  w : W net r = true
  le : ∀ s, s < 2 ^ net.length → W net s = true → size r ≤ size s
  first : ∀ s, s < r → W net s = true → size r < size s
theorem First.few {net : List Int} {r : Nat} (h : First net r) : Few net (size r) := ⟨⟨r, h.lt, h.w, rfl⟩, h.le⟩
theorem First.uniq {net : List Int} {r q : Nat} (h : First net r) (g : First net q) : r = q := by
  have h1 := h.few.uniq g.few
  rcases Nat.lt_trichotomy r q with hl | hl | hl
  · have := g.first r hl h.w; omega
  · exact hl
  · have := h.first q hl g.w; omega
theorem small_first {net : List Int} (h : Ok net) : First net (fold (allOf net) (fun t s => if (decide (size s < size t) && W net s) = true then s else t) (allOf net)) := by
  have key : ∀ k, k ≤ allOf net → ∀ t, t = fold k (fun t s => if (decide (size s < size t) && W net s) = true then s else t) (allOf net) →
      t < 2 ^ net.length ∧ W net t = true ∧ (∀ s, s < k → W net s = true → size t ≤ size s) ∧ (t = allOf net ∨ t < k) ∧ ∀ s, s < t → s < k → W net s = true → size t < size s := by
    intro k
    induction k with
    | zero => rintro _ t rfl; exact ⟨allOf_lt net, W_all h, fun s hs => by omega, .inl rfl, fun s _ hs => by omega⟩
    | succ k ih =>
      rintro hk t rfl
      rw [fold_succ]
      obtain ⟨h1, h2, h3, h4, h5⟩ := ih (by omega) _ rfl
      generalize fold k _ (allOf net) = g at h1 h2 h3 h4 h5 ⊢
      cases hc : (decide (size k < size g) && W net k) with
      | true =>
        simp only [if_true]
        rw [Bool.and_eq_true, decide_eq_true_eq] at hc
        refine ⟨by have := allOf_lt net; omega, hc.2, fun s hs hw => ?_, .inr (by omega), fun s hs _ hw => ?_⟩
        · by_cases he : s = k
          · subst he; exact Nat.le_refl _
          · have := h3 s (by omega) hw; omega
        · have := h3 s (by omega) hw; omega
      | false =>
        simp only [Bool.false_eq_true, if_false]
        have hno : W net k = true → size g ≤ size k := fun hw => by
          rw [hw, Bool.and_true] at hc
          simpa using hc
        refine ⟨h1, h2, fun s hs hw => ?_, by omega, fun s hs hs2 hw => ?_⟩
        · by_cases he : s = k
          · subst he; exact hno hw
          · exact h3 s (by omega) hw
        · by_cases he : s = k
          · subst he
            have hg : g = allOf net := by omega
            have := hno hw
            have := size_lt_len h (s := s) (by omega)
            rw [hg, size_all h] at *
            omega
          · exact h5 s hs (by omega) hw
  obtain ⟨h1, h2, h3, h4, h5⟩ := key (allOf net) (Nat.le_refl _) _ rfl
  generalize fold (allOf net) _ (allOf net) = g at h1 h2 h3 h4 h5 ⊢
  have hs := allOf_succ net
  refine ⟨h1, h2, fun s hs2 hw => ?_, fun s hs2 hw => h5 s hs2 (by omega) hw⟩
  by_cases he : s = allOf net
  · subst he; rw [size_all h]; exact size_le_len h h1
  · exact h3 s (by omega) hw
def smallest (net : List Int) : Nat := fold (allOf net) (fun t s => if (decide (size s < size t) && W net s) = true then s else t) (allOf net)
theorem size_smallest {net : List Int} (h : Ok net) : size (smallest net) = fewest net := (small_first h).few.uniq (fewest_few h)

theorem I.smallWatchIn_n {net : List Int} (h : Ok net) : I.smallWatchIn_t net = some ((smallest net : Nat) : Int) := by
  unfold I.smallWatchIn_t I.smallWatchIn_tree
  have h64 := h.pow
  have hsu := allOf_succ net
  rw [I.allOf_n h]
  have := (run_for (run := I.smallWatchIn_run3 net) (len := allOf net) (fun k (t : Nat) => ((t : Int), (k : Int))) (fun t s => if (decide (size s < size t) && W net s) = true then s else t) (fun t => (t : Int)) (fun k t => t < 2 ^ net.length) (by omega) (fun n k t hk ht => ?_) (fun n t ht => ?_) (t0 := allOf net) (by omega)).1
  · exact congrArg (fun o => optC o (fun q => some q) none) this
  · simp only [I.smallWatchIn_run3, I.smallWatchIn_step3]
    rw [I.allOf_n h]
    simp only [optC]
    rw [cnd_t (by simp; omega), I.sizeOf_n, I.sizeOf_n]
    simp only
    by_cases hc : size k < size t
    · rw [cnd_t (by simp; omega), I.watchIn_n h (by omega)]
      simp only [hc, decide_true, Bool.true_and]
      cases hw : W net k with
      | true => simp only [cond_true, if_true]; rw [add1_nat (by omega)]; exact ⟨rfl, by omega⟩
      | false => simp only [cond_false, Bool.false_eq_true, if_false]; rw [add1_nat (by omega)]; exact ⟨rfl, ht⟩
    · rw [cnd_f (by simp; omega)]
      simp only [hc, decide_false, Bool.false_and, Bool.false_eq_true, if_false]
      rw [add1_nat (by omega)]; exact ⟨rfl, ht⟩
  · simp only [I.smallWatchIn_run3, I.smallWatchIn_step3]
    rw [I.allOf_n h]
    simp only [optC]
    rw [cnd_f (by simp)]
theorem pow_shl {net : List Int} (h : Ok net) : IntKind.i64.wrap (1 * 2 ^ min (↑net.length : Int).toNat IntKind.i64.bits) = ((2 ^ net.length : Nat) : Int) := one_shl (by have := h.hi; omega)
theorem I.FewestWatch_y {net : List Int} (h : Ok net) (e : I.NetOk_t net = some true) : I.FewestWatch_t net = some ((fewest net : Nat) : Int) := by
  unfold I.FewestWatch_t I.FewestWatch_tree
  rw [e, I.smallWatchIn_n h]
  simp only [optC, Bool.not_true, cond_false]
  rw [I.sizeOf_n, size_smallest h]
theorem first_find {net : List Int} (h : Ok net) {N : Nat} {p : Nat → Bool} {r : Nat} (hr : r < N) (hp : p r = true) (hf : ∀ s, s < r → p s = false) : find N (fun s => if p s = true then some ((s : Nat) : Int) else none) = some (r : Int) := by
  refine find_some_of hr (find_none.2 fun j hj => by rw [hf j hj]; rfl) (by rw [hp]; rfl)
/-- A search that counts up. -/
theorem run_search {D F : Type} {run : Nat → Int → Option (D ⊕ F)} {len : Nat} (f : Nat → Option D) (e : F) (hl : len ≤ 1000000)
    (h : ∀ n k, k < len → run (n + 1) (k : Int) = (match f k with | some d => some (.inl d) | none => run n ((k + 1 : Nat) : Int))) (he : ∀ n, run (n + 1) (len : Int) = some (.inr e)) :
    run FUEL 0 = some (match find len f with | some d => .inl d | none => .inr e) := by
  refine run_find (run := run) (len := len) f e (by omega) (fun n x h0 h1 => ?_)
  obtain ⟨k, rfl⟩ : ∃ k : Nat, x = k := ⟨x.toNat, by omega⟩
  by_cases hk : k < len
  · rw [if_pos (by omega), h n k hk, Int.toNat_natCast]
    rfl
  · obtain rfl : k = len := by omega
    rw [if_neg (by omega), he]
/-! ### Least watches -/
theorem find_least {net : List Int} {s : Nat} : find net.length (fun k => if (s.testBit k && W net (s - 2 ^ k)) = true then some false else none) = if ((List.range net.length).all fun k => !(s.testBit k && W net (s - 2 ^ k))) = true then none else some false := by
  cases hall : (List.range net.length).all fun k => !(s.testBit k && W net (s - 2 ^ k)) with
  | true =>
    rw [if_pos rfl, find_none]
    intro j hj
    rw [List.all_eq_true] at hall
    have := hall j (List.mem_range.2 hj)
    rw [Bool.not_eq_true'] at this
    rw [this]; rfl
  | false =>
    rw [if_neg (by simp)]
    rw [List.all_eq_false] at hall
    obtain ⟨k, hk, hb⟩ := hall
    rw [Bool.not_eq_true', Bool.not_eq_false] at hb
    cases hf : find net.length (fun k => if (s.testBit k && W net (s - 2 ^ k)) = true then some false else none) with
    | none =>
      have := find_none.1 hf k (List.mem_range.1 hk)
      rw [hb] at this; cases this
    | some b =>
      obtain ⟨j, hj, he⟩ := find_some_ex hf
      split at he
      · cases he; rfl
      · cases he
end Go.Proofs.Ytgocpgkhbamkcaa
/- What the functions of chapter 1 come to. Conditions: those of each theorem. -/
namespace Go.Proofs.Ytgocpgkhbamkcaa
open D Go.RowKit
set_option linter.unusedVariables false
set_option linter.unusedSimpArgs false


theorem l1In_place {net : List Int} (h : Ok net) (p : Int) : decide (0 ≤ p ∧ p ≤ IntKind.i64.wrap ((↑net.length : Int) - 1)) = decide (0 ≤ p ∧ p < net.length) := by
  have h1 := h.lo
  have h6 := h.hi
  rw [i64_wrap (by omega) (by omega), decide_eq_decide]
  omega
theorem I.SeenBy_x {net : List Int} (e : I.NetOk_t net = some false) (p : Int) : I.SeenBy_t net p = some (-1) := by
  unfold I.SeenBy_t I.SeenBy_tree; rw [e]; rfl
theorem I.SeenBy_o {net : List Int} (h : Ok net) (e : I.NetOk_t net = some true) {s : Int} (hs : decide (0 ≤ s ∧ s < 2 ^ net.length) = false) : I.SeenBy_t net s = some (-1) := by
  unfold I.SeenBy_t I.SeenBy_tree; rw [e, I.setIn_n h, hs]; rfl
theorem set_in {net : List Int} {s : Nat} (hs : s < 2 ^ net.length) : decide (0 ≤ (s : Int) ∧ (s : Int) < 2 ^ net.length) = true := by
  rw [two_pow_cast, decide_eq_true_eq]; omega
theorem I.SeenBy_n {net : List Int} (h : Ok net) (e : I.NetOk_t net = some true) {s : Nat} (hs : s < 2 ^ net.length) : I.SeenBy_t net s = some ((seen net s : Nat) : Int) := by
  unfold I.SeenBy_t I.SeenBy_tree
  rw [e, I.setIn_n h, set_in hs, I.seenIn_n h hs]; rfl
/-! ### Wires -/
def ends (net : List Int) : Nat := sumN net.length (fun k => size (nb net k))
def wires (net : List Int) : Nat := ends net / 2
/-! ### Parts -/
theorem fold_steps {net : List Int} (h : Ok net) (m s : Nat) : fold m (fun t _ => seen net t) s = steps net (allOf net) m s := by
  induction m with
  | zero => rfl
  | succ m ih => rw [fold_succ, ih]; show seen net _ = grow net _ _; rw [h.grow_all]
theorem I.partIn_n {net : List Int} (h : Ok net) {p : Nat} (hp : p < net.length) : I.partIn_t net p = some ((comp net p : Nat) : Int) := by
  unfold I.partIn_t I.partIn_tree
  have h6 := h.hi
  have hpl : 2 ^ p < 2 ^ net.length := Nat.pow_lt_pow_right (by omega) hp
  have := (run_for (run := I.partIn_run3 net) (len := net.length - 1) (fun k (t : Nat) => ((t : Int), ((k + 1 : Nat) : Int))) (fun t k => seen net t) (fun t => (t : Int)) (fun k t => t < 2 ^ net.length) (by omega) (fun n k t hk ht => ?_) (fun n t ht => ?_) (t0 := 2 ^ p) hpl).1
  · rw [cnd_f (by simp), one_shl (by omega), show I.partIn_run3 net FUEL (((2 ^ p : Nat) : Int), 1) = _ from this, fold_steps h, h.comp_eq hp (by omega)]
    rfl
  · simp only [I.partIn_run3, I.partIn_step3]
    rw [cnd_t (by simp; omega), I.seenIn_n h ht]
    simp only [optC]
    rw [add1_nat (by omega)]
    exact ⟨rfl, h.seen_lt ht⟩
  · simp only [I.partIn_run3, I.partIn_step3]
    rw [cnd_f (by simp; omega)]
theorem steps_part {net : List Int} (h : Ok net) {A i m : Nat} (hi : i < net.length) (hf : grow net A (steps net A m (2 ^ i &&& A)) = steps net A m (2 ^ i &&& A)) : steps net A m (2 ^ i &&& A) = part net A i := by
  by_cases hm : m ≤ 6
  · exact (steps_fix hf 6 hm).symm
  · exact steps_fix (h.part_fix hi) m (by omega)
theorem place_in {net : List Int} {p : Nat} (hp : p < net.length) : decide (0 ≤ (p : Int) ∧ (p : Int) < net.length) = true := by simp; omega
theorem root_reached {net : List Int} (h : Ok net) {k : Nat} (hk : k < net.length) : root net k = true ↔ ∀ i, i < k → (comp net i).testBit k = false := by
  rw [root_iff]
  constructor
  · intro ha i hi; rw [h.comp_symm (by omega) hk]; exact ha i hi
  · intro ha i hi; rw [h.comp_symm hk (by omega)]; exact ha i hi
theorem I.PartMany_n {net : List Int} (h : Ok net) (e : I.NetOk_t net = some true) : I.PartMany_t net = some ((parts net : Nat) : Int) := by
  unfold I.PartMany_t I.PartMany_tree
  have h6 := h.hi
  have h64 := h.pow
  rw [e]
  have := run_for (run := I.PartMany_run6 net) (len := net.length) (fun k (t : Nat × Nat) => ((t.1 : Int), (t.2 : Int), (k : Int))) (fun t k => if t.2.testBit k = true then t else (t.1 + 1, t.2 ||| comp net k)) (fun t => (t.1 : Int))
    (fun k t => t.1 = cnt k (root net) ∧ t.2 < 2 ^ net.length ∧ ∀ j, t.2.testBit j = true ↔ ∃ i, i < k ∧ (comp net i).testBit j = true) (by omega) (fun n k t hk ht => ?_) (fun n t ht => ?_) (t0 := (0, 0)) ⟨rfl, Nat.two_pow_pos _, fun j => by simp⟩
  · rw [parts_cnt, ← this.2.1]
    simp only [optC, Bool.not_true, cond_false]
    rw [show I.PartMany_run6 net FUEL (0, 0, 0) = _ from this.1]
  · obtain ⟨a, b⟩ := t
    obtain ⟨h1, h2, h3⟩ := ht
    simp only at h1 h2 h3
    have hcl := cnt_le k (root net)
    have hc := h.comp_lt hk
    have hroot : root net k = !b.testBit k := by
      rw [Bool.eq_iff_iff, root_reached h hk, Bool.not_eq_true']
      constructor
      · intro ha
        cases hb : b.testBit k with
        | false => rfl
        | true =>
          obtain ⟨i, hi, hx⟩ := (h3 k).1 hb
          rw [ha i hi] at hx; cases hx
      · intro hb i hi
        cases hx : (comp net i).testBit k with
        | false => rfl
        | true => rw [(h3 k).2 ⟨i, hi, hx⟩] at hb; cases hb
    simp only [I.PartMany_run6, I.PartMany_step6]
    rw [cnd_t (by simp; omega), I.hasPlace_n _ _ (by omega)]
    simp only [optC]
    cases hb : b.testBit k with
    | true =>
      simp only [Bool.not_true, cond_false, if_true]
      rw [add1_nat (by omega)]
      refine ⟨rfl, ?_, h2, fun j => ?_⟩
      · show a = cnt k (root net) + (root net k).toNat
        rw [hroot, hb]; simpa using h1
      · rw [h3 j]
        constructor
        · rintro ⟨i, hi, hx⟩; exact ⟨i, by omega, hx⟩
        · rintro ⟨i, hi, hx⟩
          by_cases hik : i = k
          · subst hik
            obtain ⟨q, hq, hqx⟩ := (h3 i).1 hb
            have := h.comp_same (by omega) hk hqx
            exact ⟨q, hq, by rw [this]; exact hx⟩
          · exact ⟨i, by omega, hx⟩
    | false =>
      simp only [Bool.not_false, cond_true, Bool.false_eq_true, if_false]
      rw [I.partIn_n h hk]
      simp only
      rw [add1_nat (by omega), add1_nat (by omega), i64_or_nat _ _ (by omega) (by omega)]
      refine ⟨rfl, ?_, Nat.or_lt_two_pow h2 hc, fun j => ?_⟩
      · show a + 1 = cnt k (root net) + (root net k).toNat
        rw [hroot, hb, h1]; rfl
      · rw [Nat.testBit_or, Bool.or_eq_true, h3 j]
        constructor
        · rintro (⟨i, hi, hx⟩ | hx)
          · exact ⟨i, by omega, hx⟩
          · exact ⟨k, by omega, hx⟩
        · rintro ⟨i, hi, hx⟩
          by_cases hik : i = k
          · subst hik; exact .inr hx
          · exact .inl ⟨i, by omega, hx⟩
  · simp only [I.PartMany_run6, I.PartMany_step6]
    rw [cnd_f (by simp)]
theorem I.PartMany_x {net : List Int} (e : I.NetOk_t net = some false) : I.PartMany_t net = some (-1) := by
  unfold I.PartMany_t I.PartMany_tree; rw [e]; rfl
/-! ### Lone places -/
def lone (net : List Int) : Nat := orN net.length (fun k => nb net k == 0) (fun k => 2 ^ k)
theorem lone_lt (net : List Int) : lone net < 2 ^ net.length := orN_lt fun k hk _ => Nat.pow_lt_pow_right (by omega) hk
theorem lone_testBit (net : List Int) (j : Nat) : (lone net).testBit j = true ↔ j < net.length ∧ nb net j = 0 := by
  unfold lone
  rw [orN_testBit]
  constructor
  · rintro ⟨k, hk, a, b⟩
    rw [testBit_pow, decide_eq_true_eq] at b
    subst b
    exact ⟨hk, by simpa using a⟩
  · rintro ⟨a, b⟩
    exact ⟨j, a, by simpa using b, by rw [testBit_pow]; simp⟩
theorem L.sizeOf_n {s : Nat} (hs : s < 64) : L.sizeOf_t s = some ((size s : Nat) : Int) := by
  unfold L.sizeOf_t L.sizeOf_tree
  have : L.sizeOf_run2 FUEL ((s : Int), 0) = some ((size s : Nat) : Int) := by
    refine run_fuel (run := L.sizeOf_run2) (fun q => ∃ a t : Nat, q = ((a : Int), (t : Int)) ∧ a < 64 ∧ t + size a = size s) (fun q => q.1.toNat) (fun _ => ((size s : Nat) : Int)) ?_ ⟨s, 0, rfl, hs, by omega⟩ (by simp only [Int.toNat_natCast]; omega)
    rintro n _ ⟨a, t, rfl, ha, ht⟩
    have hz := size_le s
    simp only [L.sizeOf_run2, L.sizeOf_step2]
    by_cases h0 : a = 0
    · subst h0
      left
      rw [cnd_f (by simp)]
      have : size 0 = 0 := by decide
      rw [← ht, this]; rfl
    · right
      have h1 := l1Size_spec a ha
      rw [cnd_t (by simp; omega), div2_nat (by omega), tmod2_nat, add_nat (by omega)]
      exact ⟨_, rfl, ⟨_, _, rfl, by omega, by omega⟩, by simp only [Int.toNat_natCast]; omega, trivial⟩
  rw [this]; rfl
end Go.Proofs.Ytgocpgkhbamkcaa
/- Wires and parts: plain facts. Conditions: those of each theorem. -/
namespace Go.Proofs.Ytgocpgkhbamkcaa
set_option linter.unusedVariables false
set_option linter.unusedSimpArgs false

theorem nb_size {net : List Int} (h : Ok net) {k : Nat} (hk : k < net.length) : size (nb net k) = sumN net.length (fun j => ((nb net k).testBit j).toNat) := size_cnt h (h.lt k hk)
theorem ends_is {net : List Int} (h : Ok net) : ends net = sumN net.length (fun k => sumN net.length (fun j => ((nb net k).testBit j).toNat)) := sumN_congr fun k hk => nb_size h hk
/-- Each wire has two ends. -/
theorem ends_wires {net : List Int} (h : Ok net) : ends net = 2 * wires net := by
  unfold wires
  have := sumN_sym (n := net.length) (a := fun k j => ((nb net k).testBit j).toNat) (fun k j hk hj => by rw [h.sym j k hj hk])
  rw [ends_is h, this, sumN_congr (f := fun k => ((nb net k).testBit k).toNat) (g := fun _ => 0) (fun k hk => by rw [h.irr k hk]; rfl), sumN_zero]
  omega
theorem ball_size {net : List Int} (h : Ok net) {k : Nat} (hk : k < net.length) : size (ball net k) = size (nb net k) + 1 := bits_or _ (h.lt64 hk) k (by have := h.hi; omega) (h.irr k hk)
theorem balls_sum {net : List Int} (h : Ok net) : sumN net.length (fun k => size (ball net k)) = 2 * wires net + net.length := by
  rw [sumN_congr (g := fun k => size (nb net k) + 1) (fun k hk => ball_size h hk), sumN_add, sumN_const, ← ends_wires h]
  unfold ends; omega
theorem cnt_below (N m : Nat) (hm : m ≤ N) : cnt N (fun i => decide (i < m)) = m := by
  induction N with
  | zero => obtain rfl : m = 0 := by omega
            rfl
  | succ N ih =>
    show cnt N (fun i => decide (i < m)) + (decide (N < m)).toNat = m
    by_cases hmN : m ≤ N
    · rw [ih hmN]; simp; omega
    · obtain rfl : m = N + 1 := by omega
      rw [cnt_congr (q := fun _ => true) (fun k hk => by simp; omega), cnt_true]; simp
/-- After m steps from the least places of the parts. -/
def lvl (net : List Int) (m k : Nat) : Bool := (List.range net.length).any fun r => root net r && (steps net (allOf net) m (2 ^ r)).testBit k
theorem lvl_iff {net : List Int} {m k : Nat} : lvl net m k = true ↔ ∃ r, r < net.length ∧ root net r = true ∧ (steps net (allOf net) m (2 ^ r)).testBit k = true := by
  unfold lvl
  simp only [List.any_eq_true, List.mem_range, Bool.and_eq_true]
theorem lvl_succ {net : List Int} {m k : Nat} (h : lvl net m k = true) : lvl net (m + 1) k = true := by
  obtain ⟨r, a, b, c⟩ := lvl_iff.1 h
  exact lvl_iff.2 ⟨r, a, b, (grow_testBit _ _ _ _).2 (.inl c)⟩
theorem lvl_mono {net : List Int} {m m' k : Nat} (hm : m ≤ m') (h : lvl net m k = true) : lvl net m' k = true := by
  induction m' with
  | zero => obtain rfl : m = 0 := by omega
            exact h
  | succ m' ih =>
    by_cases he : m = m' + 1
    · rw [← he]; exact h
    · exact lvl_succ (ih (by omega))
def lev (net : List Int) (k : Nat) : Nat := cnt 6 (fun m => !lvl net m k)
theorem root_of {net : List Int} (h : Ok net) {k : Nat} (hk : k < net.length) : ∃ r, r ≤ k ∧ root net r = true ∧ comp net r = comp net k := by
  have key : ∀ m, m ≤ k → (∃ r, r ≤ k ∧ root net r = true ∧ comp net r = comp net k) ∨ ∀ j, j < m → (comp net k).testBit j = false := by
    intro m
    induction m with
    | zero => intro _; right; intro j hj; omega
    | succ m ih =>
      intro hm
      rcases ih (by omega) with h1 | h1
      · exact .inl h1
      · cases hb : (comp net k).testBit m with
        | true =>
          left
          have he := h.comp_same hk (by omega) hb
          exact ⟨m, by omega, root_iff.2 fun j hj => by rw [← he]; exact h1 j hj, he.symm⟩
        | false =>
          right
          intro j hj
          by_cases hjm : j = m
          · rw [hjm]; exact hb
          · exact h1 j (by omega)
  rcases key k (Nat.le_refl _) with h1 | h1
  · exact h1
  · exact ⟨k, Nat.le_refl _, root_iff.2 h1, rfl⟩
theorem lvl_six {net : List Int} (h : Ok net) {k : Nat} (hk : k < net.length) : lvl net 6 k = true := by
  obtain ⟨r, hr, hroot, he⟩ := root_of h hk
  refine lvl_iff.2 ⟨r, by omega, hroot, ?_⟩
  have e2 : comp net r = steps net (allOf net) 6 (2 ^ r) := (h.comp_eq (by omega) (by have := h.hi; omega)).symm
  rw [← e2, he]
  exact h.comp_self hk
/-- Each place that is not the least one of its part has a neighbour that is nearer. -/
theorem nearer {net : List Int} (h : Ok net) {k : Nat} (hk : k < net.length) (hr : root net k = false) : ∃ j, j < net.length ∧ (nb net k).testBit j = true ∧ lev net j < lev net k := by
  have h0 : lvl net 0 k = false := by
    cases hb : lvl net 0 k with
    | false => rfl
    | true =>
      obtain ⟨r, a, b, c⟩ := lvl_iff.1 hb
      have : r = k := by
        have c' : (2 ^ r).testBit k = true := c
        rw [testBit_pow] at c'; simpa using c'
      rw [this] at b; rw [b] at hr; cases hr
  have hex : ∀ m, m ≤ 6 → lvl net m k = true → ∃ q, q < m ∧ lvl net q k = false ∧ lvl net (q + 1) k = true := by
    intro m
    induction m with
    | zero => intro _ hb; rw [h0] at hb; cases hb
    | succ m ih =>
      intro hm hb
      cases hc : lvl net m k with
      | false => exact ⟨m, by omega, hc, hb⟩
      | true => obtain ⟨q, a, b⟩ := ih (by omega) hc; exact ⟨q, by omega, b⟩
  obtain ⟨q, hq, hqf, hqt⟩ := hex 6 (Nat.le_refl _) (lvl_six h hk)
  obtain ⟨r, a, b, c⟩ := lvl_iff.1 hqt
  rcases (grow_testBit _ _ _ _).1 c with c1 | ⟨⟨j, hj, c1, c2⟩, _⟩
  · rw [lvl_iff.2 ⟨r, a, b, c1⟩] at hqf; cases hqf
  · refine ⟨j, hj, by rw [h.sym j k hj hk]; exact c2, ?_⟩
    have hjl : lvl net q j = true := lvl_iff.2 ⟨r, a, b, c1⟩
    have h1 : lev net j ≤ q := by
      have := cnt_mono (n := 6) (p := fun m => !lvl net m j) (q := fun i => decide (i < q)) (fun m hm hp => by
        have hp' : lvl net m j = false := by simpa using hp
        rw [decide_eq_true_eq]
        refine Classical.byContradiction fun hc => ?_
        rw [lvl_mono (by omega) hjl] at hp'; cases hp')
      rw [cnt_below 6 q (by omega)] at this
      exact this
    have h2 : q + 1 ≤ lev net k := by
      have := cnt_mono (n := 6) (p := fun i => decide (i < q + 1)) (q := fun m => !lvl net m k) (fun m hm hp => by
        have hp' : m < q + 1 := by simpa using hp
        cases hx : lvl net m k with
        | false => rfl
        | true => rw [lvl_mono (by omega) hx] at hqf; cases hqf)
      rw [cnt_below 6 (q + 1) (by omega)] at this
      exact this
    omega
/-- There are at least as many wires as places less parts. -/
theorem wires_parts {net : List Int} (h : Ok net) : net.length ≤ wires net + parts net := by
  have hb : ∀ k j, k < net.length → j < net.length → ((nb net k).testBit j && decide (lev net j < lev net k)).toNat + ((nb net j).testBit k && decide (lev net k < lev net j)).toNat ≤ ((nb net k).testBit j).toNat := by
    intro k j hk hj
    rw [h.sym k j hk hj]
    cases (nb net k).testBit j with
    | false => simp
    | true =>
      by_cases h1 : lev net j < lev net k
      · have : ¬ lev net k < lev net j := by omega
        simp [h1, this]
      · by_cases h2 : lev net k < lev net j <;> simp [h1, h2]
  have h1 : sumN net.length (fun k => sumN net.length (fun j => ((nb net k).testBit j && decide (lev net j < lev net k)).toNat)) + sumN net.length (fun k => sumN net.length (fun j => ((nb net j).testBit k && decide (lev net k < lev net j)).toNat)) ≤ ends net := by
    rw [ends_is h, ← sumN_add]
    refine sumN_le fun k hk => ?_
    show sumN net.length _ + sumN net.length _ ≤ _
    rw [← sumN_add]
    exact sumN_le fun j hj => hb k j hk hj
  rw [sumN_swap net.length net.length (fun k j => ((nb net j).testBit k && decide (lev net k < lev net j)).toNat)] at h1
  have h2 : cnt net.length (fun k => !root net k) ≤ sumN net.length (fun k => sumN net.length (fun j => ((nb net k).testBit j && decide (lev net j < lev net k)).toNat)) := by
    refine sumN_le fun k hk => ?_
    show (!root net k).toNat ≤ _
    cases hr : root net k with
    | true => exact Nat.zero_le _
    | false =>
      obtain ⟨j, hj, a, b⟩ := nearer h hk hr
      have := sumN_pos (f := fun j => ((nb net k).testBit j && decide (lev net j < lev net k)).toNat) hj
      simp only [a, b, decide_true, Bool.and_true] at this
      exact this
  have h3 := cnt_not net.length (root net)
  rw [← parts_cnt] at h3
  have h4 := ends_wires h
  omega
theorem comp_closed {net : List Int} (h : Ok net) {i : Nat} (hi : i < net.length) : seen net (comp net i) = comp net i := by
  rw [← h.grow_all]; exact h.part_fix hi
/-- Lone places are parts alone. -/
theorem comp_alone {net : List Int} (h : Ok net) {k : Nat} (hk : k < net.length) : comp net k = 2 ^ k ↔ nb net k = 0 := by
  constructor
  · intro he
    apply Nat.eq_of_testBit_eq
    intro j
    rw [Nat.zero_testBit]
    cases hb : (nb net k).testBit j with
    | false => rfl
    | true =>
      have := comp_nb h hk hb
      rw [he, testBit_pow, decide_eq_true_eq] at this
      subst this
      rw [h.irr k hk] at hb; cases hb
  · intro he
    have h1 : seen net (2 ^ k) = 2 ^ k := by
      apply Nat.eq_of_testBit_eq
      intro j
      rw [Bool.eq_iff_iff, seen_testBit]
      constructor
      · rintro (a | ⟨i, hi, a, b⟩)
        · exact a
        · rw [testBit_pow, decide_eq_true_eq] at a; subst a; rw [he, Nat.zero_testBit] at b; cases b
      · exact .inl
    have h2 : grow net (allOf net) (2 ^ k &&& allOf net) = (2 ^ k &&& allOf net) := by rw [Ok.start_all hk, h.grow_all]; exact h1
    have := steps_fix (m := 0) h2 6 (by omega)
    show part net (allOf net) k = _
    unfold part
    rw [this]
    exact Ok.start_all hk
end Go.Proofs.Ytgocpgkhbamkcaa
/- Guards that are needed, guards apart, the chain of numbers: plain facts. Conditions: those of each theorem. -/
namespace Go.Proofs.Ytgocpgkhbamkcaa
set_option linter.unusedVariables false
set_option linter.unusedSimpArgs false

theorem not_true {b : Bool} (h : ¬ b = true) : b = false := by cases b with
  | true => exact absurd rfl h
  | false => rfl
theorem sees_symm {net : List Int} (h : Ok net) {j k : Nat} (hj : j < net.length) (hk : k < net.length) : (ball net k).testBit j = (ball net j).testBit k := by
  rw [Bool.eq_iff_iff, ball_testBit, ball_testBit, h.sym j k hj hk]
  constructor <;> (rintro (a | a); exact .inl a; exact .inr a.symm)
theorem sees_self (net : List Int) (k : Nat) : (ball net k).testBit k = true := (ball_testBit _ _ _).2 (.inr rfl)
theorem sees_lt {net : List Int} (h : Ok net) {j k : Nat} (hk : k < net.length) (hs : (ball net k).testBit j = true) : j < net.length := testBit_lt (h.ball_lt hk) hs
theorem seen_balls {net : List Int} (h : Ok net) {s : Nat} (hs : s < 2 ^ net.length) {j : Nat} : (seen net s).testBit j = true ↔ ∃ k, k < net.length ∧ s.testBit k = true ∧ (ball net k).testBit j = true := by
  rw [← h.seen_balls hs, orN_testBit]
theorem in_lt {net : List Int} {s k : Nat} (hs : s < 2 ^ net.length) (hk : s.testBit k = true) : k < net.length := testBit_lt hs hk

/-! ### Private places -/
def priv (net : List Int) (s g : Nat) : Nat := minus (ball net g) (seen net (s - 2 ^ g))
theorem priv_testBit {net : List Int} (h : Ok net) {s g : Nat} (hs : s < 2 ^ net.length) (hg : s.testBit g = true) (j : Nat) :
    (priv net s g).testBit j = true ↔ (ball net g).testBit j = true ∧ ∀ i, s.testBit i = true → (ball net i).testBit j = true → i = g := by
  have h6 := h.hi
  have hgl := in_lt hs hg
  have h64 := h.pow
  have hb := h.ball_lt hgl
  have hsl := h.seen_lt (sub_lt (k := g) hs)
  unfold priv
  rw [minus_testBit _ _ (by omega) (by omega), Bool.and_eq_true, Bool.not_eq_true']
  have hsub : ∀ i, (s - 2 ^ g).testBit i = true ↔ s.testBit i = true ∧ i ≠ g := fun i => by
    rw [sub_testBit (lt64 h hs) (by omega) hg]; simp
  constructor
  · rintro ⟨a, b⟩
    refine ⟨a, fun i hi hb2 => Classical.byContradiction fun hne => ?_⟩
    rw [(seen_balls h (sub_lt hs)).2 ⟨i, in_lt hs hi, (hsub i).2 ⟨hi, hne⟩, hb2⟩] at b; cases b
  · rintro ⟨a, b⟩
    refine ⟨a, not_true fun hc => ?_⟩
    obtain ⟨i, hi, h1, h2⟩ := (seen_balls h (sub_lt hs)).1 hc
    exact ((hsub i).1 h1).2 (b i ((hsub i).1 h1).1 h2)
theorem priv_lt {net : List Int} (h : Ok net) {s g : Nat} (hs : s < 2 ^ net.length) (hg : g < net.length) : priv net s g < 2 ^ net.length := by
  unfold priv minus
  exact Nat.lt_of_le_of_lt Nat.and_le_left (h.ball_lt hg)
theorem zero_iff {a : Nat} : a = 0 ↔ ∀ j, a.testBit j = false := by
  constructor
  · rintro rfl j; exact Nat.zero_testBit j
  · intro ha; exact Nat.eq_of_testBit_eq fun j => by rw [ha j, Nat.zero_testBit]
theorem pos_iff {a : Nat} : a ≠ 0 ↔ ∃ j, a.testBit j = true := by
  rw [Ne, zero_iff]
  constructor
  · intro hn
    refine Classical.byContradiction fun hc => hn fun j => not_true fun hj => hc ⟨j, hj⟩
  · rintro ⟨j, hj⟩ ha; rw [ha j] at hj; cases hj
/-- Each guard has a place of its own. -/
def Needs (net : List Int) (s : Nat) : Prop := ∀ g, s.testBit g = true → ∃ j, (ball net g).testBit j = true ∧ ∀ i, s.testBit i = true → (ball net i).testBit j = true → i = g
def needs (net : List Int) (s : Nat) : Bool := (List.range net.length).all fun k => !(s.testBit k && priv net s k == 0)
theorem needs_iff {net : List Int} (h : Ok net) {s : Nat} (hs : s < 2 ^ net.length) : needs net s = true ↔ Needs net s := by
  unfold needs
  rw [List.all_eq_true]
  simp only [List.mem_range, Bool.not_eq_true', Bool.and_eq_false_imp]
  constructor
  · intro ha g hg
    have := ha g (in_lt hs hg) hg
    have hne : priv net s g ≠ 0 := fun he => by rw [he] at this; cases this
    obtain ⟨j, hj⟩ := pos_iff.1 hne
    exact ⟨j, (priv_testBit h hs hg j).1 hj⟩
  · intro ha g _ hg
    obtain ⟨j, hj⟩ := ha g hg
    have : priv net s g ≠ 0 := pos_iff.2 ⟨j, (priv_testBit h hs hg j).2 hj⟩
    simpa using this
theorem Needs.mono {net : List Int} {s t : Nat} (hst : ∀ j, t.testBit j = true → s.testBit j = true) (hn : Needs net s) : Needs net t := fun g hg => by
  obtain ⟨j, h1, h2⟩ := hn g (hst g hg)
  exact ⟨j, h1, fun i hi hb => h2 i (hst i hi) hb⟩
theorem Needs.zero (net : List Int) : Needs net 0 := fun g hg => by rw [Nat.zero_testBit] at hg; cases hg
theorem Needs.one (net : List Int) (k : Nat) : Needs net (2 ^ k) := fun g hg => by
  rw [testBit_pow, decide_eq_true_eq] at hg
  subst hg
  exact ⟨k, sees_self net k, fun i hi _ => by rw [testBit_pow, decide_eq_true_eq] at hi; exact hi.symm⟩
/-- Least watches are just the watches that need all guards. -/
theorem least_needs {net : List Int} (h : Ok net) {s : Nat} (hs : s < 2 ^ net.length) : least net s = true ↔ W net s = true ∧ Needs net s := by
  have h6 := h.hi
  rw [least_iff]
  constructor
  · rintro ⟨hw, hl⟩
    refine ⟨hw, fun g hg => ?_⟩
    have hgl := in_lt hs hg
    have hn := hl g hgl hg
    have hex : ∃ v, v < net.length ∧ (seen net (s - 2 ^ g)).testBit v = false := by
      refine Classical.byContradiction fun hc => ?_
      rw [(W_iff h (sub_lt hs)).2 (fun v hv => ?_)] at hn
      · cases hn
      · cases hv2 : (seen net (s - 2 ^ g)).testBit v with
        | true => rfl
        | false => exact absurd ⟨v, hv, hv2⟩ hc
    obtain ⟨v, hv, hv2⟩ := hex
    obtain ⟨k, hk, hks, hkb⟩ := (seen_balls h hs).1 ((W_iff h hs).1 hw v hv)
    have only : ∀ i, s.testBit i = true → (ball net i).testBit v = true → i = g := fun i hi hb => Classical.byContradiction fun hne => by
      rw [(seen_balls h (sub_lt hs)).2 ⟨i, in_lt hs hi, by rw [sub_testBit (lt64 h hs) (by omega) hg, hi]; simp [hne], hb⟩] at hv2; cases hv2
    have := only k hks hkb
    subst this
    exact ⟨v, hkb, only⟩
  · rintro ⟨hw, hn⟩
    refine ⟨hw, fun g hgl hg => not_true fun hc => ?_⟩
    obtain ⟨j, h1, h2⟩ := hn g hg
    obtain ⟨k, hk, hks, hkb⟩ := (seen_balls h (sub_lt hs)).1 ((W_iff h (sub_lt hs)).1 hc j (sees_lt h hgl h1))
    rw [sub_testBit (lt64 h hs) (by omega) hg, Bool.and_eq_true] at hks
    have := h2 k hks.1 hkb
    subst this
    simp at hks
theorem or_testBit (s k j : Nat) : (s ||| 2 ^ k).testBit j = true ↔ s.testBit j = true ∨ j = k := by
  rw [Nat.testBit_or, Bool.or_eq_true, testBit_pow, decide_eq_true_eq]
  exact ⟨fun a => a.elim .inl (fun b => .inr b.symm), fun a => a.elim .inl (fun b => .inr b.symm)⟩
theorem or_lt {n s k : Nat} (hs : s < 2 ^ n) (hk : k < n) : s ||| 2 ^ k < 2 ^ n := Nat.or_lt_two_pow hs (Nat.pow_lt_pow_right (by omega) hk)
/-- A set that needs all guards, and does not with any further place. -/
def FullN (net : List Int) (s : Nat) : Prop := Needs net s ∧ ∀ k, k < net.length → s.testBit k = false → ¬ Needs net (s ||| 2 ^ k)
def fullN (net : List Int) (s : Nat) : Bool := ((List.range net.length).all fun k => !(!s.testBit k && needs net (s ||| 2 ^ k))) && needs net s
theorem fullN_iff {net : List Int} (h : Ok net) {s : Nat} (hs : s < 2 ^ net.length) : fullN net s = true ↔ FullN net s := by
  unfold fullN
  rw [Bool.and_eq_true, List.all_eq_true, needs_iff h hs]
  simp only [List.mem_range, Bool.not_eq_true', Bool.and_eq_false_imp]
  constructor
  · rintro ⟨a, b⟩
    refine ⟨b, fun k hk hb hc => ?_⟩
    have := a k hk hb
    rw [(needs_iff h (or_lt hs hk)).2 hc] at this; cases this
  · rintro ⟨a, b⟩
    exact ⟨fun k hk hb => not_true fun hc => b k hk hb ((needs_iff h (or_lt hs hk)).1 hc), a⟩
/-- Each least watch is full. -/
theorem least_full {net : List Int} (h : Ok net) {s : Nat} (hs : s < 2 ^ net.length) (hl : least net s = true) : FullN net s := by
  obtain ⟨hw, hn⟩ := (least_needs h hs).1 hl
  refine ⟨hn, fun k hk hb hc => ?_⟩
  obtain ⟨j, h1, h2⟩ := hc k ((or_testBit _ _ _).2 (.inr rfl))
  obtain ⟨i, hi, his, hib⟩ := (seen_balls h hs).1 ((W_iff h hs).1 hw j (sees_lt h hk h1))
  have := h2 i ((or_testBit _ _ _).2 (.inl his)) hib
  rw [this, hb] at his; cases his

/-! ### Seen twice -/
/-- The places that two guards of a set see. -/
structure Twice (net : List Int) (s t : Nat) : Prop where
  lt : t < 2 ^ net.length
  bit : ∀ j, t.testBit j = true ↔ ∃ a b, s.testBit a = true ∧ s.testBit b = true ∧ a ≠ b ∧ (ball net a).testBit j = true ∧ (ball net b).testBit j = true
theorem Twice.uniq {net : List Int} {s t u : Nat} (ht : Twice net s t) (hu : Twice net s u) : t = u := Nat.eq_of_testBit_eq fun j => by rw [Bool.eq_iff_iff, ht.bit, hu.bit]
def twice (net : List Int) (s : Nat) : Nat := (fold net.length (fun (t : Nat × Nat) k => if s.testBit k = true then (t.1 ||| ball net k, t.2 ||| (t.1 &&& ball net k)) else t) (0, 0)).2
theorem twice_is {net : List Int} (h : Ok net) {s : Nat} (hs : s < 2 ^ net.length) : Twice net s (twice net s) := by
  have key : ∀ m, m ≤ net.length → (∀ j, (fold m (fun (t : Nat × Nat) k => if s.testBit k = true then (t.1 ||| ball net k, t.2 ||| (t.1 &&& ball net k)) else t) (0, 0)).1.testBit j = true ↔ ∃ a, a < m ∧ s.testBit a = true ∧ (ball net a).testBit j = true) ∧
      (∀ j, (fold m (fun (t : Nat × Nat) k => if s.testBit k = true then (t.1 ||| ball net k, t.2 ||| (t.1 &&& ball net k)) else t) (0, 0)).2.testBit j = true ↔ ∃ a b, a < b ∧ b < m ∧ s.testBit a = true ∧ s.testBit b = true ∧ (ball net a).testBit j = true ∧ (ball net b).testBit j = true) ∧
      (fold m (fun (t : Nat × Nat) k => if s.testBit k = true then (t.1 ||| ball net k, t.2 ||| (t.1 &&& ball net k)) else t) (0, 0)).2 < 2 ^ net.length := by
    intro m
    induction m with
    | zero => intro _; exact ⟨fun j => by simp [fold_zero], fun j => by simp [fold_zero], Nat.two_pow_pos _⟩
    | succ m ih =>
      intro hm
      rw [fold_succ]
      obtain ⟨a1, a2, a3⟩ := ih (by omega)
      generalize fold m _ (0, 0) = t at a1 a2 a3 ⊢
      obtain ⟨o, w⟩ := t
      simp only at a1 a2 a3 ⊢
      cases hb : s.testBit m with
      | false =>
        simp only [Bool.false_eq_true, if_false]
        refine ⟨fun j => ?_, fun j => ?_, a3⟩
        · rw [a1]
          constructor
          · rintro ⟨a, x, y⟩; exact ⟨a, by omega, y⟩
          · rintro ⟨a, x, y, z⟩
            have : a ≠ m := fun he => by rw [he, hb] at y; cases y
            exact ⟨a, by omega, y, z⟩
        · rw [a2]
          constructor
          · rintro ⟨a, b, x, y, z⟩; exact ⟨a, b, x, by omega, z⟩
          · rintro ⟨a, b, x, y, z1, z2, z3⟩
            have : b ≠ m := fun he => by rw [he, hb] at z2; cases z2
            exact ⟨a, b, x, by omega, z1, z2, z3⟩
      | true =>
        simp only [if_true]
        refine ⟨fun j => ?_, fun j => ?_, Nat.or_lt_two_pow a3 (Nat.lt_of_le_of_lt Nat.and_le_right (h.ball_lt (by omega)))⟩
        · rw [Nat.testBit_or, Bool.or_eq_true, a1]
          constructor
          · rintro (⟨a, x, y⟩ | x)
            · exact ⟨a, by omega, y⟩
            · exact ⟨m, by omega, hb, x⟩
          · rintro ⟨a, x, y, z⟩
            by_cases he : a = m
            · rw [he] at z; exact .inr z
            · exact .inl ⟨a, by omega, y, z⟩
        · rw [Nat.testBit_or, Bool.or_eq_true, Nat.testBit_and, Bool.and_eq_true, a2, a1]
          constructor
          · rintro (⟨a, b, x, y, z⟩ | ⟨⟨a, x, y, z⟩, w⟩)
            · exact ⟨a, b, x, by omega, z⟩
            · exact ⟨a, m, x, by omega, y, hb, z, w⟩
          · rintro ⟨a, b, x, y, z1, z2, z3, z4⟩
            by_cases he : b = m
            · rw [he] at x z4; exact .inr ⟨⟨a, x, z1, z3⟩, z4⟩
            · exact .inl ⟨a, b, x, by omega, z1, z2, z3, z4⟩
  obtain ⟨_, a2, a3⟩ := key net.length (Nat.le_refl _)
  refine ⟨a3, fun j => (a2 j).trans ?_⟩
  constructor
  · rintro ⟨a, b, x, y, z1, z2, z3, z4⟩; exact ⟨a, b, z1, z2, by omega, z3, z4⟩
  · rintro ⟨a, b, z1, z2, x, z3, z4⟩
    rcases Nat.lt_or_ge a b with hab | hab
    · exact ⟨a, b, hab, in_lt hs z2, z1, z2, z3, z4⟩
    · exact ⟨b, a, by omega, in_lt hs z1, z2, z1, z4, z3⟩

/-! ### Guards apart -/
def Apart (net : List Int) (s : Nat) : Prop := ∀ j k, s.testBit j = true → s.testBit k = true → (nb net j).testBit k = false
def apart (net : List Int) (s : Nat) : Bool := (near net s &&& s) == 0
theorem apart_iff {net : List Int} {s : Nat} (hs : s < 2 ^ net.length) : apart net s = true ↔ Apart net s := by
  unfold apart
  rw [beq_iff_eq, zero_iff]
  constructor
  · intro ha j k hj hk
    have := ha k
    rw [Nat.testBit_and, hk, Bool.and_true] at this
    refine not_true fun hb => ?_
    rw [(near_testBit _ _ _).2 ⟨j, in_lt hs hj, hj, hb⟩] at this; cases this
  · intro ha j
    refine not_true fun hb => ?_
    rw [Nat.testBit_and, Bool.and_eq_true, near_testBit] at hb
    obtain ⟨⟨k, _, h1, h2⟩, h3⟩ := hb
    rw [ha k j h1 h3] at h2; cases h2
theorem Apart.mono {net : List Int} {s t : Nat} (hst : ∀ j, t.testBit j = true → s.testBit j = true) (h : Apart net s) : Apart net t := fun j k hj hk => h j k (hst j hj) (hst k hk)
theorem Apart.zero (net : List Int) : Apart net 0 := fun j k hj _ => by rw [Nat.zero_testBit] at hj; cases hj
theorem Apart.one {net : List Int} (h : Ok net) {k : Nat} (hk : k < net.length) : Apart net (2 ^ k) := fun i j hi hj => by
  rw [testBit_pow, decide_eq_true_eq] at hi hj
  subst hi; subst hj
  exact h.irr _ hk
theorem apart_only {net : List Int} (h : Ok net) {s : Nat} (hs : s < 2 ^ net.length) (ha : Apart net s) {g : Nat} (hg : s.testBit g = true) : ∀ i, s.testBit i = true → (ball net i).testBit g = true → i = g := fun i hi hb => by
  rcases (ball_testBit _ _ _).1 hb with a | a
  · rw [ha i g hi hg] at a; cases a
  · exact a
theorem Apart.needs {net : List Int} (h : Ok net) {s : Nat} (hs : s < 2 ^ net.length) (ha : Apart net s) : Needs net s := fun g hg => ⟨g, sees_self net g, apart_only h hs ha hg⟩
theorem Apart.add {net : List Int} (h : Ok net) {s k : Nat} (hs : s < 2 ^ net.length) (hk : k < net.length) (ha : Apart net s) (hn : ∀ j, s.testBit j = true → (nb net k).testBit j = false) : Apart net (s ||| 2 ^ k) := fun i j hi hj => by
  rw [or_testBit] at hi hj
  rcases hi with hi | hi
  · rcases hj with hj | hj
    · exact ha i j hi hj
    · rw [hj, h.sym k i hk (in_lt hs hi)]; exact hn i hi
  · rcases hj with hj | hj
    · rw [hi]; exact hn j hj
    · rw [hi, hj]; exact h.irr k hk
def fullA (net : List Int) (s : Nat) : Bool := apart net s && (List.range net.length).all fun k => !(!s.testBit k && apart net (s ||| 2 ^ k))
/-- Full apart sets are apart watches. -/
theorem fullA_iff {net : List Int} (h : Ok net) {s : Nat} (hs : s < 2 ^ net.length) : fullA net s = true ↔ Apart net s ∧ W net s = true := by
  unfold fullA
  rw [Bool.and_eq_true, List.all_eq_true, apart_iff hs]
  simp only [List.mem_range, Bool.not_eq_true', Bool.and_eq_false_imp]
  constructor
  · rintro ⟨a, b⟩
    refine ⟨a, (W_iff h hs).2 fun j hj => ?_⟩
    rw [seen_iff h s hj]
    cases hb : s.testBit j with
    | true => exact .inl rfl
    | false =>
      right
      refine Classical.byContradiction fun hc => ?_
      have := b j hj hb
      rw [(apart_iff (or_lt hs hj)).2 (a.add h hs hj fun i hi => not_true fun hx => hc ⟨i, in_lt hs hi, hi, hx⟩)] at this; cases this
  · rintro ⟨a, b⟩
    refine ⟨a, fun k hk hb => not_true fun hc => ?_⟩
    have hA := (apart_iff (or_lt hs hk)).1 hc
    rcases (seen_iff h s hk).1 ((W_iff h hs).1 b k hk) with x | ⟨i, hi, x, y⟩
    · rw [hb] at x; cases x
    · rw [hA k i ((or_testBit _ _ _).2 (.inr rfl)) ((or_testBit _ _ _).2 (.inl x))] at y; cases y
theorem fullA_least {net : List Int} (h : Ok net) {s : Nat} (hs : s < 2 ^ net.length) (hf : fullA net s = true) : least net s = true := by
  obtain ⟨a, b⟩ := (fullA_iff h hs).1 hf
  exact (least_needs h hs).2 ⟨b, a.needs h hs⟩

/-! ### Grown sets -/
def grownStep (net : List Int) (t k : Nat) : Nat := if (!t.testBit k && (nb net k &&& t) == 0) = true then t ||| 2 ^ k else t
def grown (net : List Int) (s : Nat) : Nat := fold net.length (grownStep net) s
theorem and_zero {a b : Nat} : (a &&& b) = 0 ↔ ∀ j, b.testBit j = true → a.testBit j = false := by
  rw [zero_iff]
  constructor
  · intro ha j hj
    have := ha j
    rw [Nat.testBit_and, hj, Bool.and_true] at this; exact this
  · intro ha j
    rw [Nat.testBit_and]
    cases hb : b.testBit j with
    | false => simp
    | true => rw [ha j hb]; rfl
theorem grown_is {net : List Int} (h : Ok net) {s : Nat} (hs : s < 2 ^ net.length) (ha : Apart net s) : grown net s < 2 ^ net.length ∧ fullA net (grown net s) = true ∧ ∀ j, s.testBit j = true → (grown net s).testBit j = true := by
  have key : ∀ m, m ≤ net.length → fold m (grownStep net) s < 2 ^ net.length ∧ Apart net (fold m (grownStep net) s) ∧ (∀ j, s.testBit j = true → (fold m (grownStep net) s).testBit j = true) ∧
      ∀ k, k < m → (fold m (grownStep net) s).testBit k = true ∨ ∃ i, (fold m (grownStep net) s).testBit i = true ∧ (nb net k).testBit i = true := by
    intro m
    induction m with
    | zero => intro _; exact ⟨hs, ha, fun j hj => hj, fun k hk => by omega⟩
    | succ m ih =>
      intro hm
      rw [fold_succ]
      obtain ⟨a1, a2, a3, a4⟩ := ih (by omega)
      generalize fold m (grownStep net) s = t at a1 a2 a3 a4 ⊢
      unfold grownStep
      cases hc : (!t.testBit m && (nb net m &&& t) == 0) with
      | true =>
        rw [Bool.and_eq_true, Bool.not_eq_true', beq_iff_eq, and_zero] at hc
        simp only [if_true]
        refine ⟨or_lt a1 (by omega), a2.add h a1 (by omega) hc.2, fun j hj => (or_testBit _ _ _).2 (.inl (a3 j hj)), fun k hk => ?_⟩
        by_cases hkm : k = m
        · exact .inl ((or_testBit _ _ _).2 (.inr hkm))
        · rcases a4 k (by omega) with x | ⟨i, x, y⟩
          · exact .inl ((or_testBit _ _ _).2 (.inl x))
          · exact .inr ⟨i, (or_testBit _ _ _).2 (.inl x), y⟩
      | false =>
        simp only [Bool.false_eq_true, if_false]
        refine ⟨a1, a2, a3, fun k hk => ?_⟩
        by_cases hkm : k = m
        · rw [hkm]
          cases hb : t.testBit m with
          | true => exact .inl rfl
          | false =>
            right
            rw [hb, Bool.not_false, Bool.true_and] at hc
            have hne : (nb net m &&& t) ≠ 0 := fun he => by rw [he] at hc; cases hc
            obtain ⟨i, hi⟩ := pos_iff.1 hne
            rw [Nat.testBit_and, Bool.and_eq_true] at hi
            exact ⟨i, hi.2, hi.1⟩
        · exact a4 k (by omega)
  obtain ⟨a1, a2, a3, a4⟩ := key net.length (Nat.le_refl _)
  refine ⟨a1, (fullA_iff h a1).2 ⟨a2, (W_iff h a1).2 fun j hj => (seen_iff h _ hj).2 ?_⟩, a3⟩
  rcases a4 j hj with x | ⟨i, x, y⟩
  · exact .inl x
  · exact .inr ⟨i, in_lt a1 x, x, y⟩
theorem grown_same {net : List Int} (h : Ok net) {s : Nat} (hs : s < 2 ^ net.length) (hf : fullA net s = true) : grown net s = s := by
  obtain ⟨_, hw⟩ := (fullA_iff h hs).1 hf
  have key : ∀ m, m ≤ net.length → fold m (grownStep net) s = s := by
    intro m
    induction m with
    | zero => intro _; rfl
    | succ m ih =>
      intro hm
      rw [fold_succ, ih (by omega)]
      unfold grownStep
      rw [if_neg]
      intro hc
      rw [Bool.and_eq_true, Bool.not_eq_true', beq_iff_eq, and_zero] at hc
      rcases (seen_iff h s (by omega)).1 ((W_iff h hs).1 hw m (by omega)) with x | ⟨i, hi, x, y⟩
      · rw [hc.1] at x; cases x
      · rw [hc.2 i x] at y; cases y
  exact key _ (Nat.le_refl _)
end Go.Proofs.Ytgocpgkhbamkcaa
/- The chain of numbers: plain facts. Conditions: those of each theorem. -/
namespace Go.Proofs.Ytgocpgkhbamkcaa
set_option linter.unusedVariables false
set_option linter.unusedSimpArgs false

/-- The least number of places of sets of a kind, and the greatest. -/
structure MinOf (net : List Int) (p : Nat → Bool) (m : Nat) : Prop where
  ex : ∃ s, s < 2 ^ net.length ∧ p s = true ∧ size s = m
  le : ∀ s, s < 2 ^ net.length → p s = true → m ≤ size s
structure MaxOf (net : List Int) (p : Nat → Bool) (m : Nat) : Prop where
  ex : ∃ s, s < 2 ^ net.length ∧ p s = true ∧ size s = m
  le : ∀ s, s < 2 ^ net.length → p s = true → size s ≤ m
theorem MinOf.uniq {net : List Int} {p : Nat → Bool} {a b : Nat} (ha : MinOf net p a) (hb : MinOf net p b) : a = b := by
  obtain ⟨s, h1, h2, h3⟩ := ha.ex
  obtain ⟨t, g1, g2, g3⟩ := hb.ex
  have := ha.le t g1 g2
  have := hb.le s h1 h2
  omega
theorem MaxOf.uniq {net : List Int} {p : Nat → Bool} {a b : Nat} (ha : MaxOf net p a) (hb : MaxOf net p b) : a = b := by
  obtain ⟨s, h1, h2, h3⟩ := ha.ex
  obtain ⟨t, g1, g2, g3⟩ := hb.ex
  have := ha.le t g1 g2
  have := hb.le s h1 h2
  omega
def minSize (net : List Int) (p : Nat → Bool) : Nat := fold (2 ^ net.length) (fun t s => if p s = true then (if size s < t then size s else t) else t) net.length
def maxSize (net : List Int) (p : Nat → Bool) : Nat := fold (2 ^ net.length) (fun t s => if p s = true then (if size s > t then size s else t) else t) 0
theorem minSize_is {net : List Int} (h : Ok net) {p : Nat → Bool} (hex : ∃ s, s < 2 ^ net.length ∧ p s = true) : MinOf net p (minSize net p) := by
  obtain ⟨h1, h2, h3⟩ := minFold (N := 2 ^ net.length) (p := p) (f := size) net.length
  refine ⟨?_, h1⟩
  rcases h3 with h3 | h3
  · obtain ⟨s, hs, hp⟩ := hex
    have := h1 s hs hp
    have := size_le_len h hs
    exact ⟨s, hs, hp, by unfold minSize; omega⟩
  · exact h3
theorem maxFoldP {N : Nat} {p : Nat → Bool} {f : Nat → Nat} :
    (∀ s, s < N → p s = true → f s ≤ fold N (fun t s => if p s = true then (if f s > t then f s else t) else t) 0) ∧
    (fold N (fun t s => if p s = true then (if f s > t then f s else t) else t) 0 = 0 ∨ ∃ s, s < N ∧ p s = true ∧ f s = fold N (fun t s => if p s = true then (if f s > t then f s else t) else t) 0) := by
  induction N with
  | zero => exact ⟨fun s hs => by omega, .inl rfl⟩
  | succ N ih =>
    rw [fold_succ]
    generalize fold N _ 0 = g at ih ⊢
    obtain ⟨h1, h3⟩ := ih
    cases hp : p N with
    | false =>
      simp only [Bool.false_eq_true, if_false]
      refine ⟨fun s hs hps => ?_, ?_⟩
      · by_cases he : s = N
        · subst he; rw [hp] at hps; cases hps
        · exact h1 s (by omega) hps
      · rcases h3 with h3 | ⟨s, a, b⟩
        · exact .inl h3
        · exact .inr ⟨s, by omega, b⟩
    | true =>
      simp only [if_true]
      refine ⟨fun s hs hps => ?_, ?_⟩
      · by_cases he : s = N
        · subst he; split <;> omega
        · have := h1 s (by omega) hps
          split <;> omega
      · split
        · exact .inr ⟨N, by omega, hp, rfl⟩
        · rcases h3 with h3 | ⟨s, a, b⟩
          · exact .inl h3
          · exact .inr ⟨s, by omega, b⟩
theorem maxSize_is {net : List Int} {p : Nat → Bool} (hex : ∃ s, s < 2 ^ net.length ∧ p s = true) : MaxOf net p (maxSize net p) := by
  obtain ⟨h1, h3⟩ := maxFoldP (N := 2 ^ net.length) (p := p) (f := size)
  refine ⟨?_, h1⟩
  rcases h3 with h3 | h3
  · obtain ⟨s, hs, hp⟩ := hex
    have := h1 s hs hp
    exact ⟨s, hs, hp, by unfold maxSize; omega⟩
  · exact h3
theorem few_min {net : List Int} {m : Nat} : Few net m ↔ MinOf net (W net) m := ⟨fun a => ⟨a.ex, a.le⟩, fun a => ⟨a.ex, a.le⟩⟩
theorem fewest_min (net : List Int) : fewest net = minSize net (W net) := rfl

/-! ### What there is of each kind -/
theorem ex_fullA {net : List Int} (h : Ok net) : ∃ s, s < 2 ^ net.length ∧ fullA net s = true := by
  obtain ⟨a, b, _⟩ := grown_is h (Nat.two_pow_pos _) (Apart.zero net)
  exact ⟨_, a, b⟩
theorem ex_apart (net : List Int) : ∃ s, s < 2 ^ net.length ∧ apart net s = true := ⟨0, Nat.two_pow_pos _, (apart_iff (Nat.two_pow_pos _)).2 (Apart.zero net)⟩
theorem ex_least {net : List Int} (h : Ok net) : ∃ s, s < 2 ^ net.length ∧ least net s = true := by
  obtain ⟨s, a, b⟩ := ex_fullA h
  exact ⟨s, a, fullA_least h a b⟩
theorem ex_fullN {net : List Int} (h : Ok net) : ∃ s, s < 2 ^ net.length ∧ fullN net s = true := by
  obtain ⟨s, a, b⟩ := ex_least h
  exact ⟨s, a, (fullN_iff h a).2 (least_full h a b)⟩
theorem ex_needs {net : List Int} (h : Ok net) : ∃ s, s < 2 ^ net.length ∧ needs net s = true := ⟨0, Nat.two_pow_pos _, (needs_iff h (Nat.two_pow_pos _)).2 (Needs.zero net)⟩
theorem size_add {s k : Nat} (hs : s < 64) (hk : k < 6) (hb : s.testBit k = false) : size (s ||| 2 ^ k) = size s + 1 := bits_or s hs k hk hb
/-- The largest apart sets are full. -/
theorem most_full {net : List Int} (h : Ok net) {m s : Nat} (hm : MaxOf net (apart net) m) (hs : s < 2 ^ net.length) (ha : apart net s = true) (hz : size s = m) : fullA net s = true := by
  unfold fullA
  rw [ha, Bool.true_and, List.all_eq_true]
  intro k hk
  rw [List.mem_range] at hk
  cases hb : s.testBit k with
  | true => rfl
  | false =>
    cases hc : apart net (s ||| 2 ^ k) with
    | false => rfl
    | true =>
      have h1 := hm.le _ (or_lt hs hk) hc
      rw [size_add (lt64 h hs) (by have := h.hi; omega) hb] at h1
      omega
theorem chain12 {net : List Int} (h : Ok net) {a b : Nat} (ha : MinOf net (fullN net) a) (hb : MinOf net (W net) b) : a ≤ b := by
  obtain ⟨s, h1, h2, h3⟩ := hb.ex
  have hl := few_least h (few_min.2 hb) h1 h2 h3
  have := ha.le s h1 ((fullN_iff h h1).2 (least_full h h1 hl))
  omega
theorem chain23 {net : List Int} (h : Ok net) {a b : Nat} (ha : MinOf net (W net) a) (hb : MinOf net (fullA net) b) : a ≤ b := by
  obtain ⟨s, h1, h2, h3⟩ := hb.ex
  have := ha.le s h1 ((fullA_iff h h1).1 h2).2
  omega
theorem chain34 {net : List Int} (h : Ok net) {a b : Nat} (ha : MinOf net (fullA net) a) (hb : MaxOf net (apart net) b) : a ≤ b := by
  obtain ⟨s, h1, h2, h3⟩ := ha.ex
  have := hb.le s h1 ((apart_iff h1).2 ((fullA_iff h h1).1 h2).1)
  omega
theorem chain45 {net : List Int} (h : Ok net) {a b : Nat} (ha : MaxOf net (apart net) a) (hb : MaxOf net (least net) b) : a ≤ b := by
  obtain ⟨s, h1, h2, h3⟩ := ha.ex
  have := hb.le s h1 (fullA_least h h1 (most_full h ha h1 h2 h3))
  omega
theorem chain56 {net : List Int} (h : Ok net) {a b : Nat} (ha : MaxOf net (least net) a) (hb : MaxOf net (needs net) b) : a ≤ b := by
  obtain ⟨s, h1, h2, h3⟩ := ha.ex
  have := hb.le s h1 ((needs_iff h h1).2 ((least_needs h h1).1 h2).2)
  omega
/-- A set that needs all guards is within a full one. -/
theorem needs_in_full {net : List Int} (h : Ok net) : ∀ (m s : Nat), net.length - size s ≤ m → s < 2 ^ net.length → Needs net s → ∃ t, t < 2 ^ net.length ∧ FullN net t ∧ ∀ j, s.testBit j = true → t.testBit j = true := by
  intro m
  induction m with
  | zero =>
    intro s hm hs hn
    refine ⟨s, hs, ⟨hn, fun k hk hb _ => ?_⟩, fun j hj => hj⟩
    have := size_le_len h (or_lt hs hk)
    rw [size_add (lt64 h hs) (by have := h.hi; omega) hb] at this
    omega
  | succ m ih =>
    intro s hm hs hn
    by_cases hex : ∃ k, k < net.length ∧ s.testBit k = false ∧ Needs net (s ||| 2 ^ k)
    · obtain ⟨k, hk, hb, hn2⟩ := hex
      have hz := size_add (lt64 h hs) (by have := h.hi; omega) hb
      obtain ⟨t, a, b, c⟩ := ih (s ||| 2 ^ k) (by omega) (or_lt hs hk) hn2
      exact ⟨t, a, b, fun j hj => c j ((or_testBit _ _ _).2 (.inl hj))⟩
    · exact ⟨s, hs, ⟨hn, fun k hk hb hc => hex ⟨k, hk, hb, hc⟩⟩, fun j hj => hj⟩
theorem size_pos {s : Nat} (hs : s < 64) {k : Nat} (hk : k < 6) (hb : s.testBit k = true) : 1 ≤ size s := by
  have := (bits_sub s hs k hk hb).2.2.1
  omega
theorem fullN_pos {net : List Int} (h : Ok net) {s : Nat} (hs : s < 2 ^ net.length) (hf : FullN net s) : 1 ≤ size s := by
  have h6 := h.hi
  by_cases h0 : s = 0
  · subst h0
    refine absurd (Needs.one net 0) ?_
    have := hf.2 0 h.lo (Nat.zero_testBit 0)
    rw [Nat.zero_or] at this
    exact this
  · obtain ⟨j, hj⟩ := pos_iff.1 h0
    have := in_lt hs hj
    exact size_pos (lt64 h hs) (by omega) hj

/-! ### A full set and its private places watch -/
theorem size_union {net : List Int} (h : Ok net) {s t : Nat} (hs : s < 2 ^ net.length) (ht : t < 2 ^ net.length) : size (s ||| t) ≤ size s + size t := by
  rw [size_cnt h hs, size_cnt h ht, size_cnt h (Nat.or_lt_two_pow hs ht)]
  unfold cnt
  rw [← sumN_add]
  refine sumN_le fun k _ => ?_
  show ((s ||| t).testBit k).toNat ≤ (s.testBit k).toNat + (t.testBit k).toNat
  rw [Nat.testBit_or]
  cases s.testBit k <;> cases t.testBit k <;> decide
/-- The fewest watch is less than twice as many. -/
theorem watch_twice {net : List Int} (h : Ok net) {s m : Nat} (hs : s < 2 ^ net.length) (hf : FullN net s) (hm : MinOf net (W net) m) : m < 2 * size s := by
  have h6 := h.hi
  -- a private place for each guard
  have hpv : ∀ g, ∃ j, s.testBit g = true → (ball net g).testBit j = true ∧ ∀ i, s.testBit i = true → (ball net i).testBit j = true → i = g := fun g => by
    by_cases hg : s.testBit g = true
    · obtain ⟨j, hj⟩ := hf.1 g hg; exact ⟨j, fun _ => hj⟩
    · exact ⟨0, fun hh => absurd hh hg⟩
  have hp : ∀ g, s.testBit g = true → (ball net g).testBit (Classical.choose (hpv g)) = true ∧ ∀ i, s.testBit i = true → (ball net i).testBit (Classical.choose (hpv g)) = true → i = g := fun g => Classical.choose_spec (hpv g)
  generalize hP : (fun g => Classical.choose (hpv g)) = P at hp
  have hp' : ∀ g, s.testBit g = true → (ball net g).testBit (P g) = true ∧ ∀ i, s.testBit i = true → (ball net i).testBit (P g) = true → i = g := fun g hg => by rw [← hP]; exact Classical.choose_spec (hpv g) hg
  -- those places together
  let q := orN net.length (fun g => s.testBit g) (fun g => 2 ^ P g)
  have hq : ∀ j, q.testBit j = true ↔ ∃ g, g < net.length ∧ s.testBit g = true ∧ P g = j := fun j => by
    show (orN _ _ _).testBit j = true ↔ _
    rw [orN_testBit]
    simp only [testBit_pow, decide_eq_true_eq]
  have hql : q < 2 ^ net.length := orN_lt fun g hg hb => Nat.pow_lt_pow_right (by omega) (sees_lt h hg (hp' g hb).1)
  have hqs : size q ≤ size s := by
    rw [size_cnt h hql, size_cnt h hs]
    -- each place of q goes to its guard
    have hback : ∀ j, ∃ g, q.testBit j = true → g < net.length ∧ s.testBit g = true ∧ P g = j := fun j => by
      by_cases hj : q.testBit j = true
      · obtain ⟨g, hg⟩ := (hq j).1 hj; exact ⟨g, fun _ => hg⟩
      · exact ⟨0, fun hh => absurd hh hj⟩
    refine cnt_inj (fun j => Classical.choose (hback j)) (fun j _ hj => ?_) (fun i j _ _ hi hj he => ?_)
    · have := Classical.choose_spec (hback j) hj
      exact ⟨this.1, this.2.1⟩
    · have h1 := (Classical.choose_spec (hback i) hi).2.2
      have h2 := (Classical.choose_spec (hback j) hj).2.2
      rw [he] at h1
      exact h1.symm.trans h2
  have hul : s ||| q < 2 ^ net.length := Nat.or_lt_two_pow hs hql
  have hub : ∀ j, (s ||| q).testBit j = true ↔ s.testBit j = true ∨ q.testBit j = true := fun j => by rw [Nat.testBit_or, Bool.or_eq_true]
  have hW : W net (s ||| q) = true := by
    refine (W_iff h hul).2 fun w hw => Classical.byContradiction fun hc => ?_
    have hno : ∀ i, i < net.length → (s ||| q).testBit i = true → (ball net i).testBit w = false := fun i hi hb => not_true fun hx => hc ((seen_balls h hul).2 ⟨i, hi, hb, hx⟩)
    have hws : s.testBit w = false := not_true fun hx => by
      have := hno w hw ((hub w).2 (.inl hx))
      rw [sees_self] at this; cases this
    refine hf.2 w hw hws fun g hg => ?_
    rcases (or_testBit _ _ _).1 hg with hgs | rfl
    · have hgl := in_lt hs hgs
      obtain ⟨a, b⟩ := hp' g hgs
      refine ⟨P g, a, fun i hi hib => ?_⟩
      rcases (or_testBit _ _ _).1 hi with hi | rfl
      · exact b i hi hib
      · have hPl := sees_lt h hgl a
        have h1 := hno (P g) hPl ((hub _).2 (.inr ((hq _).2 ⟨g, hgl, hgs, rfl⟩)))
        rw [sees_symm h hw hPl, hib] at h1; cases h1
    · refine ⟨g, sees_self net g, fun i hi hib => ?_⟩
      rcases (or_testBit _ _ _).1 hi with hi | rfl
      · rw [hno i (in_lt hs hi) ((hub i).2 (.inl hi))] at hib; cases hib
      · rfl
  have hsz := size_union h hs hql
  have hle := hm.le _ hul hW
  refine Classical.byContradiction fun hge => ?_
  -- then the union is a smallest watch, and s is not full
  have hz : size (s ||| q) = m := by omega
  have hl := few_least h (few_min.2 hm) hul hW hz
  have hN := ((least_needs h hul).1 hl).2
  have hpos := fullN_pos h hs hf
  have : ∃ w, w < net.length ∧ (s ||| q).testBit w = true ∧ s.testBit w = false := by
    refine Classical.byContradiction fun hc => ?_
    have : s ||| q = s := eq_of_bits hul hs fun j hj => by
      rw [Bool.eq_iff_iff]
      refine ⟨fun hx => Classical.byContradiction fun hy => hc ⟨j, hj, hx, not_true hy⟩, fun hx => (hub j).2 (.inl hx)⟩
    rw [this] at hz
    omega
  obtain ⟨w, hw, h1, h2⟩ := this
  refine hf.2 w hw h2 (hN.mono fun j hj => ?_)
  rcases (or_testBit _ _ _).1 hj with hj | rfl
  · exact (hub j).2 (.inl hj)
  · exact h1

/-! ### Bounds by balls, and nets without wires -/
/-- With the least ball, at most one more than the places need all. -/
theorem needs_ball {net : List Int} (h : Ok net) {s d : Nat} (hs : s < 2 ^ net.length) (hn : Needs net s) (hd : ∀ k, k < net.length → d ≤ size (ball net k)) (hd1 : d ≤ net.length + 1) : size s + d ≤ net.length + 1 := by
  have h6 := h.hi
  by_cases h0 : s = 0
  · subst h0
    have : size 0 = 0 := by decide
    omega
  obtain ⟨v, hv⟩ := pos_iff.1 h0
  have hvl := in_lt hs hv
  obtain ⟨w, hw, honly⟩ := hn v hv
  have hwl := sees_lt h hvl hw
  -- the ball of w has v alone of s
  have hb := hd w hwl
  rw [size_cnt h (h.ball_lt hwl)] at hb
  rw [size_cnt h hs]
  have : cnt net.length (fun k => s.testBit k) + cnt net.length (fun k => (ball net w).testBit k) ≤ net.length + 1 := by
    have h1 : cnt net.length (fun k => s.testBit k) + cnt net.length (fun k => (ball net w).testBit k) ≤ sumN net.length (fun k => 1 + (if k = v then 1 else 0)) := by
      unfold cnt
      rw [← sumN_add]
      refine sumN_le fun k hk => ?_
      show (s.testBit k).toNat + ((ball net w).testBit k).toNat ≤ _
      by_cases hkv : k = v
      · rw [if_pos hkv]
        cases s.testBit k <;> cases (ball net w).testBit k <;> decide
      · rw [if_neg hkv]
        cases hsk : s.testBit k with
        | false => cases (ball net w).testBit k <;> decide
        | true =>
          cases hbk : (ball net w).testBit k with
          | false => decide
          | true =>
            rw [sees_symm h hk hwl] at hbk
            exact absurd (honly k hsk hbk) hkv
    rw [sumN_add, sumN_const, sumN_one (k := v) hvl (fun j _ hj => by rw [if_neg hj]), if_pos rfl] at h1
    omega
  omega
theorem ends_zero {net : List Int} (h : Ok net) : wires net = 0 ↔ ∀ k, k < net.length → nb net k = 0 := by
  have he := ends_wires h
  constructor
  · intro hw k hk
    have h1 : size (nb net k) ≤ ends net := sumN_pos (f := fun k => size (nb net k)) hk
    have h2 : size (nb net k) = 0 := by omega
    refine zero_iff.2 fun j => not_true fun hj => ?_
    have := size_pos (h.lt64 hk) (by have := h.hi; have := h.nb_lt hk hj; omega) hj
    omega
  · intro ha
    have : ends net = 0 := by
      unfold ends
      rw [sumN_congr (g := fun _ => 0) (fun k hk => by rw [ha k hk]; rfl), sumN_zero]
    omega
theorem apart_none {net : List Int} (ha : ∀ k, k < net.length → nb net k = 0) {s : Nat} (hs : s < 2 ^ net.length) : Apart net s := fun j k hj hk => by
  rw [ha j (in_lt hs hj), Nat.zero_testBit]
/-- All places are apart just if there are no wires. -/
theorem apart_all {net : List Int} (h : Ok net) (ha : Apart net (allOf net)) : ∀ k, k < net.length → nb net k = 0 := fun k hk => zero_iff.2 fun j => not_true fun hj => by
  rw [ha k j (by rw [allOf_testBit]; simpa using hk) (by rw [allOf_testBit]; simpa using h.nb_lt hk hj)] at hj; cases hj
theorem needs_all {net : List Int} (h : Ok net) (hn : Needs net (allOf net)) : ∀ k, k < net.length → nb net k = 0 := fun k hk => by
  obtain ⟨j, hj, honly⟩ := hn k (by rw [allOf_testBit]; simpa using hk)
  have hjl := sees_lt h hk hj
  have hjk := honly j (by rw [allOf_testBit]; simpa using hjl) (sees_self net j)
  subst hjk
  refine zero_iff.2 fun i => not_true fun hi => ?_
  have hil := h.nb_lt hk hi
  have := honly i (by rw [allOf_testBit]; simpa using hil) (by rw [sees_symm h hk hil]; exact (ball_testBit _ _ _).2 (.inl hi))
  rw [this, h.irr j hk] at hi; cases hi
theorem full_size {net : List Int} (h : Ok net) {s : Nat} (hs : s < 2 ^ net.length) (hz : size s = net.length) : s = allOf net := by
  have := allOf_succ net
  refine Classical.byContradiction fun hne => ?_
  have := size_lt_len h (s := s) (by omega)
  omega
theorem most_wires {net : List Int} (h : Ok net) {m : Nat} (hm : MaxOf net (apart net) m) : wires net = 0 ↔ m = net.length := by
  rw [ends_zero h]
  constructor
  · intro ha
    have h1 := hm.le _ (allOf_lt net) ((apart_iff (allOf_lt net)).2 (apart_none ha (allOf_lt net)))
    rw [size_all h] at h1
    obtain ⟨s, a, _, c⟩ := hm.ex
    have := size_le_len h a
    omega
  · intro he
    obtain ⟨s, a, b, c⟩ := hm.ex
    have := full_size h a (by omega)
    subst this
    exact apart_all h ((apart_iff (allOf_lt net)).1 b)
theorem needs_wires {net : List Int} (h : Ok net) {m : Nat} (hm : MaxOf net (needs net) m) : wires net = 0 ↔ m = net.length := by
  rw [ends_zero h]
  constructor
  · intro ha
    have hA := apart_none ha (allOf_lt net)
    have h1 := hm.le _ (allOf_lt net) ((needs_iff h (allOf_lt net)).2 (hA.needs h (allOf_lt net)))
    rw [size_all h] at h1
    obtain ⟨s, a, _, c⟩ := hm.ex
    have := size_le_len h a
    omega
  · intro he
    obtain ⟨s, a, b, c⟩ := hm.ex
    have := full_size h a (by omega)
    subst this
    exact needs_all h ((needs_iff h (allOf_lt net)).1 b)
/-- Without wires all places are the only full set. -/
theorem none_full {net : List Int} (h : Ok net) (ha : ∀ k, k < net.length → nb net k = 0) {m : Nat} (hm : MinOf net (fullN net) m) : m = net.length := by
  obtain ⟨s, a, b, c⟩ := hm.ex
  have hf := (fullN_iff h a).1 b
  refine Classical.byContradiction fun hne => ?_
  have hlt : s ≠ allOf net := fun he => by rw [he, size_all h] at c; omega
  have : ∃ k, k < net.length ∧ s.testBit k = false := by
    refine Classical.byContradiction fun hc => hlt (eq_of_bits a (allOf_lt net) fun j hj => ?_)
    rw [allOf_testBit]
    cases hb : s.testBit j with
    | true => simpa using hj
    | false => exact absurd ⟨j, hj, hb⟩ hc
  obtain ⟨k, hk, hb⟩ := this
  exact hf.2 k hk hb ((apart_none ha (or_lt a hk)).needs h (or_lt a hk))
/-- There are at least as many places apart as parts. -/
theorem most_parts {net : List Int} (h : Ok net) {m : Nat} (hm : MaxOf net (apart net) m) : parts net ≤ m := by
  let s := orN net.length (root net) (fun k => 2 ^ k)
  have hb : ∀ j, s.testBit j = true ↔ j < net.length ∧ root net j = true := fun j => by
    show (orN _ _ _).testBit j = true ↔ _
    rw [orN_testBit]
    constructor
    · rintro ⟨k, hk, a, b⟩
      rw [testBit_pow, decide_eq_true_eq] at b
      subst b
      exact ⟨hk, a⟩
    · rintro ⟨a, b⟩
      exact ⟨j, a, b, by rw [testBit_pow]; simp⟩
  have hs : s < 2 ^ net.length := orN_lt fun k hk _ => Nat.pow_lt_pow_right (by omega) hk
  have hA : Apart net s := fun j k hj hk => not_true fun hx => by
    obtain ⟨a, b⟩ := (hb j).1 hj
    obtain ⟨c, d⟩ := (hb k).1 hk
    have := root_same h a c b d (h.comp_same a c (comp_nb h a hx))
    rw [this, h.irr k c] at hx; cases hx
  have := hm.le s hs ((apart_iff hs).2 hA)
  rw [size_cnt h hs] at this
  rw [parts_cnt]
  refine Nat.le_trans (cnt_mono fun k hk hr => (hb k).2 ⟨hk, hr⟩) this

/-! ### How many sets are apart -/
def apartCount (net : List Int) : Nat := cnt (2 ^ net.length) (apart net)
theorem apartCount_le (net : List Int) : apartCount net ≤ 2 ^ net.length := cnt_le _ _
theorem pow_inj_pos {j k : Nat} (h : 2 ^ j = 2 ^ k) : j = k := by
  have : (2 ^ j).testBit k = true := by rw [h, testBit_pow]; simp
  rw [testBit_pow, decide_eq_true_eq] at this
  exact this
theorem apartCount_ge {net : List Int} (h : Ok net) : net.length + 1 ≤ apartCount net := by
  unfold apartCount
  have := cnt_inj (n := net.length + 1) (m := 2 ^ net.length) (p := fun _ => true) (q := apart net) (fun k => if k = 0 then 0 else 2 ^ (k - 1)) (fun k hk _ => ?_) (fun j k hj hk _ _ he => ?_)
  · rw [cnt_true] at this; exact this
  · by_cases h0 : k = 0
    · simp only [h0, if_true]
      exact ⟨Nat.two_pow_pos _, (apart_iff (Nat.two_pow_pos _)).2 (Apart.zero net)⟩
    · simp only [h0, if_false]
      have hlt : 2 ^ (k - 1) < 2 ^ net.length := Nat.pow_lt_pow_right (by omega) (by omega)
      exact ⟨hlt, (apart_iff hlt).2 (Apart.one h (by omega))⟩
  · have hp1 := Nat.two_pow_pos (j - 1)
    have hp2 := Nat.two_pow_pos (k - 1)
    by_cases h0 : j = 0 <;> by_cases h1 : k = 0
    · omega
    · rw [if_pos h0, if_neg h1] at he; omega
    · rw [if_neg h0, if_pos h1] at he; omega
    · rw [if_neg h0, if_neg h1] at he
      have := pow_inj_pos he
      omega
theorem apartCount_wires {net : List Int} (h : Ok net) : apartCount net = 2 ^ net.length ↔ wires net = 0 := by
  rw [ends_zero h]
  unfold apartCount
  constructor
  · intro he
    exact apart_all h ((apart_iff (allOf_lt net)).1 (cnt_all he (allOf_lt net)))
  · intro ha
    rw [cnt_congr (q := fun _ => true) (fun s hs => (apart_iff hs).2 (apart_none ha hs)), cnt_true]
end Go.Proofs.Ytgocpgkhbamkcaa
/- Guards near each other: plain facts of total and joined watches. Conditions: those of each theorem. -/
namespace Go.Proofs.Ytgocpgkhbamkcaa
set_option linter.unusedVariables false
set_option linter.unusedSimpArgs false

/-! ### Total watches -/
def total (net : List Int) (s : Nat) : Bool := near net s == allOf net
theorem near_iff {net : List Int} (h : Ok net) (s : Nat) {j : Nat} (hj : j < net.length) : (near net s).testBit j = true ↔ ∃ k, k < net.length ∧ s.testBit k = true ∧ (nb net j).testBit k = true := by
  rw [near_testBit]
  constructor
  · rintro ⟨k, hk, a, b⟩; exact ⟨k, hk, a, by rw [← h.sym _ _ hj hk]; exact b⟩
  · rintro ⟨k, hk, a, b⟩; exact ⟨k, hk, a, by rw [h.sym _ _ hj hk]; exact b⟩
theorem total_iff {net : List Int} (h : Ok net) {s : Nat} : total net s = true ↔ ∀ j, j < net.length → ∃ k, k < net.length ∧ s.testBit k = true ∧ (nb net j).testBit k = true := by
  unfold total
  rw [beq_iff_eq]
  constructor
  · intro he j hj
    exact (near_iff h s hj).1 (by rw [he, allOf_testBit]; simpa using hj)
  · intro ha
    refine eq_of_bits (h.near_lt s) (allOf_lt net) fun j hj => ?_
    rw [(near_iff h s hj).2 (ha j hj), allOf_testBit]; simp [hj]
theorem total_watch {net : List Int} (h : Ok net) {s : Nat} (hs : s < 2 ^ net.length) (ht : total net s = true) : W net s = true :=
  (W_iff h hs).2 fun j hj => (seen_iff h s hj).2 (.inr ((total_iff h).1 ht j hj))
theorem total_mono {net : List Int} (h : Ok net) {s t : Nat} (hst : ∀ j, s.testBit j = true → t.testBit j = true) (ht : total net s = true) : total net t = true :=
  (total_iff h).2 fun j hj => by obtain ⟨k, a, b, c⟩ := (total_iff h).1 ht j hj; exact ⟨k, a, hst k b, c⟩
theorem total_all {net : List Int} (h : Ok net) : total net (allOf net) = true ↔ ∀ k, k < net.length → nb net k ≠ 0 := by
  rw [total_iff h]
  constructor
  · intro ha k hk
    obtain ⟨i, _, _, hi⟩ := ha k hk
    exact pos_iff.2 ⟨i, hi⟩
  · intro ha j hj
    obtain ⟨k, hk⟩ := pos_iff.1 (ha j hj)
    have := h.nb_lt hj hk
    exact ⟨k, this, by rw [allOf_testBit]; simpa using this, hk⟩
theorem total_two {net : List Int} (h : Ok net) {s : Nat} (hs : s < 2 ^ net.length) (ht : total net s = true) : 2 ≤ size s := by
  have h6 := h.hi
  obtain ⟨k, hk, a, _⟩ := (total_iff h).1 ht 0 h.lo
  obtain ⟨j, hj, b, c⟩ := (total_iff h).1 ht k hk
  have hne : j ≠ k := fun he => by rw [he, h.irr k hk] at c; cases c
  have h1 := (bits_sub s (lt64 h hs) k (by omega) a).2.2.1
  have h2 : (s - 2 ^ k).testBit j = true := by rw [sub_testBit (lt64 h hs) (by omega) a, b]; simp [hne]
  have h3 := size_pos (lt64 h (sub_lt (k := k) hs)) (by omega) h2
  omega
/-- A set of chosen places. -/
theorem chosen {net : List Int} (h : Ok net) {s : Nat} (hs : s < 2 ^ net.length) {R : Nat → Nat → Prop} (hR : ∀ g, s.testBit g = true → ∃ j, j < net.length ∧ R g j) :
    ∃ q, q < 2 ^ net.length ∧ size q ≤ size s ∧ (∀ g, s.testBit g = true → ∃ j, q.testBit j = true ∧ R g j) ∧ ∀ j, q.testBit j = true → ∃ g, s.testBit g = true ∧ R g j := by
  have hpv : ∀ g, ∃ j, s.testBit g = true → j < net.length ∧ R g j := fun g => by
    by_cases hg : s.testBit g = true
    · obtain ⟨j, hj⟩ := hR g hg; exact ⟨j, fun _ => hj⟩
    · exact ⟨0, fun hh => absurd hh hg⟩
  have hp' : ∃ P : Nat → Nat, ∀ g, s.testBit g = true → P g < net.length ∧ R g (P g) := ⟨fun g => Classical.choose (hpv g), fun g => Classical.choose_spec (hpv g)⟩
  obtain ⟨P, hp⟩ := hp'
  have hq : ∀ j, (orN net.length (fun g => s.testBit g) (fun g => 2 ^ P g)).testBit j = true ↔ ∃ g, g < net.length ∧ s.testBit g = true ∧ P g = j := fun j => by
    rw [orN_testBit]
    simp only [testBit_pow, decide_eq_true_eq]
  have hql : orN net.length (fun g => s.testBit g) (fun g => 2 ^ P g) < 2 ^ net.length := orN_lt fun g hg hb => Nat.pow_lt_pow_right (by omega) (hp g hb).1
  refine ⟨_, hql, ?_, fun g hg => ⟨P g, (hq _).2 ⟨g, in_lt hs hg, hg, rfl⟩, (hp g hg).2⟩, fun j hj => ?_⟩
  · rw [size_cnt h hql, size_cnt h hs]
    have hback : ∀ j, ∃ g, (orN net.length (fun g => s.testBit g) (fun g => 2 ^ P g)).testBit j = true → g < net.length ∧ s.testBit g = true ∧ P g = j := fun j => by
      by_cases hj : (orN net.length (fun g => s.testBit g) (fun g => 2 ^ P g)).testBit j = true
      · obtain ⟨g, hg⟩ := (hq j).1 hj; exact ⟨g, fun _ => hg⟩
      · exact ⟨0, fun hh => absurd hh hj⟩
    refine cnt_inj (fun j => Classical.choose (hback j)) (fun j _ hj => ?_) (fun i j _ _ hi hj he => ?_)
    · have := Classical.choose_spec (hback j) hj
      exact ⟨this.1, this.2.1⟩
    · have h1 := (Classical.choose_spec (hback i) hi).2.2
      have h2 := (Classical.choose_spec (hback j) hj).2.2
      rw [he] at h1
      exact h1.symm.trans h2
  · obtain ⟨g, _, hg, rfl⟩ := (hq j).1 hj
    exact ⟨g, hg, (hp g hg).2⟩
theorem or2 (s t j : Nat) : (s ||| t).testBit j = true ↔ s.testBit j = true ∨ t.testBit j = true := by rw [Nat.testBit_or, Bool.or_eq_true]
/-- At most twice the watch. -/
theorem total_twice {net : List Int} (h : Ok net) (hlone : ∀ k, k < net.length → nb net k ≠ 0) {s : Nat} (hs : s < 2 ^ net.length) (hw : W net s = true) : ∃ t, t < 2 ^ net.length ∧ total net t = true ∧ size t ≤ 2 * size s := by
  obtain ⟨q, hq, hz, h1, _⟩ := chosen h hs (R := fun g j => (nb net g).testBit j = true) (fun g hg => by
    obtain ⟨j, hj⟩ := pos_iff.1 (hlone g (in_lt hs hg))
    exact ⟨j, h.nb_lt (in_lt hs hg) hj, hj⟩)
  refine ⟨s ||| q, Nat.or_lt_two_pow hs hq, (total_iff h).2 fun j hj => ?_, by have := size_union h hs hq; omega⟩
  rcases (seen_iff h s hj).1 ((W_iff h hs).1 hw j hj) with a | ⟨k, hk, a, b⟩
  · obtain ⟨i, hi, hi2⟩ := h1 j a
    exact ⟨i, in_lt hq hi, (or2 _ _ _).2 (.inr hi), hi2⟩
  · exact ⟨k, hk, (or2 _ _ _).2 (.inl a), b⟩

/-! ### Sets that stand together -/
def Together (net : List Int) (s : Nat) : Prop := s ≠ 0 ∧ ∀ i j, s.testBit i = true → s.testBit j = true → Reach net s i j
theorem Reach.mono {net : List Int} {A B i j : Nat} (hAB : ∀ k, A.testBit k = true → B.testBit k = true) (hr : Reach net A i j) : Reach net B i j := by
  induction hr with
  | here ha => exact .here (hAB _ ha)
  | step _ hj hn ha ih => exact .step ih hj hn (hAB _ ha)
/-- From one place to all is enough. -/
theorem together_of {net : List Int} (h : Ok net) {s i : Nat} (hs : s < 2 ^ net.length) (hi : s.testBit i = true) (ha : ∀ j, s.testBit j = true → Reach net s i j) : Together net s :=
  ⟨fun h0 => (by rw [h0, Nat.zero_testBit] at hi; cases hi), fun j k hj hk => ((ha j hj).symm h (in_lt hs hi)).trans (ha k hk)⟩
theorem together_part {net : List Int} (h : Ok net) {s i : Nat} (hs : s < 2 ^ net.length) (hi : s.testBit i = true) : part net s i = s ↔ Together net s := by
  have hil := in_lt hs hi
  constructor
  · intro he
    exact together_of h hs hi fun j hj => (h.part_testBit hil j).1 (by rw [he]; exact hj)
  · rintro ⟨_, ha⟩
    apply Nat.eq_of_testBit_eq
    intro j
    rw [Bool.eq_iff_iff, h.part_testBit hil]
    exact ⟨fun hr => hr.among.2, fun hj => ha i j hi hj⟩
theorem together_one {net : List Int} (h : Ok net) {k : Nat} (hk : k < net.length) : Together net (2 ^ k) := by
  have hb : (2 ^ k).testBit k = true := by rw [testBit_pow]; simp
  refine together_of h (Nat.pow_lt_pow_right (by omega) hk) hb fun j hj => ?_
  rw [testBit_pow, decide_eq_true_eq] at hj
  subst hj
  exact .here hb
/-- Within a part one comes from each to each. -/
theorem together_comp {net : List Int} (h : Ok net) {k : Nat} (hk : k < net.length) : Together net (comp net k) := by
  refine together_of h (h.comp_lt hk) (h.comp_self hk) fun j hj => ?_
  have hr := (h.comp_testBit hk j).1 hj
  clear hj
  induction hr with
  | here _ => exact .here (h.comp_self hk)
  | step hr hj hn ha ih => exact .step ih hj hn ((h.comp_testBit hk _).2 (.step hr hj hn ha))
theorem together_in {net : List Int} (h : Ok net) {s k : Nat} (hs : s < 2 ^ net.length) (ht : Together net s) (hk : s.testBit k = true) {j : Nat} (hj : s.testBit j = true) : (comp net k).testBit j = true :=
  (h.comp_testBit (in_lt hs hk) j).2 ((ht.2 k j hk hj).mono fun i hi => by rw [allOf_testBit]; simpa using in_lt hs hi)
/-- One part. -/
theorem one_part {net : List Int} (h : Ok net) : parts net = 1 ↔ ∀ j k, j < net.length → k < net.length → (comp net j).testBit k = true := by
  rw [parts_cnt]
  constructor
  · intro he j k hj hk
    obtain ⟨r, hr, hrr, hrc⟩ := root_of h hj
    obtain ⟨q, hq, hqr, hqc⟩ := root_of h hk
    have : r = q := Classical.byContradiction fun hne => by
      have h2 : 2 ≤ cnt net.length (root net) := by
        have := cnt_inj (n := 2) (m := net.length) (p := fun _ => true) (q := root net) (fun i => if i = 0 then r else q) (fun i hi _ => by
          by_cases h0 : i = 0
          · rw [if_pos h0]; exact ⟨by omega, hrr⟩
          · rw [if_neg h0]; exact ⟨by omega, hqr⟩) (fun a b ha hb _ _ hab => by
          by_cases h0 : a = 0 <;> by_cases h1 : b = 0
          · omega
          · rw [if_pos h0, if_neg h1] at hab; exact absurd hab hne
          · rw [if_neg h0, if_pos h1] at hab; exact absurd hab.symm hne
          · omega)
        rw [cnt_true] at this; exact this
      omega
    subst this
    rw [← hrc, hqc]; exact h.comp_self hk
  · intro ha
    have h0 := h.lo
    have hr : ∀ k, k < net.length → root net k = decide (k = 0) := fun k hk => by
      rw [Bool.eq_iff_iff, root_iff, decide_eq_true_eq]
      constructor
      · intro hx
        refine Classical.byContradiction fun hne => ?_
        have := hx 0 (by omega)
        rw [ha k 0 hk h0] at this; cases this
      · rintro rfl j hj; omega
    show sumN net.length (fun k => (root net k).toNat) = 1
    rw [sumN_one (k := 0) h0 (fun j hj hne => by rw [hr j hj]; simp [hne]), hr 0 h0]
    rfl
theorem joined_part {net : List Int} (h : Ok net) {s : Nat} (hs : s < 2 ^ net.length) (ht : Together net s) (hw : W net s = true) : parts net = 1 := by
  have key : ∀ j, j < net.length → ∃ g, s.testBit g = true ∧ (comp net g).testBit j = true := fun j hj => by
    obtain ⟨k, hk, a, b⟩ := (seen_balls h hs).1 ((W_iff h hs).1 hw j hj)
    refine ⟨k, a, ?_⟩
    rcases (ball_testBit _ _ _).1 b with b | rfl
    · exact comp_nb h hk b
    · exact h.comp_self hk
  rw [one_part h]
  intro j k hj hk
  obtain ⟨a, ha, hja⟩ := key j hj
  obtain ⟨b, hb, hkb⟩ := key k hk
  have hal := in_lt hs ha
  have hbl := in_lt hs hb
  have e1 := h.comp_same hal hj hja
  have e2 := h.comp_same hal hbl (together_in h hs ht ha hb)
  rw [← e1, e2]; exact hkb
/-- With two guards or more each place has a guard as its neighbour. -/
theorem joined_total {net : List Int} (h : Ok net) {s : Nat} (hs : s < 2 ^ net.length) (ht : Together net s) (hw : W net s = true) (hz : 2 ≤ size s) : total net s = true := by
  have h6 := h.hi
  refine (total_iff h).2 fun j hj => ?_
  rcases (seen_iff h s hj).1 ((W_iff h hs).1 hw j hj) with a | ⟨k, hk, a, b⟩
  · -- another guard, and the first step towards j
    have : ∃ i, s.testBit i = true ∧ i ≠ j := by
      refine Classical.byContradiction fun hc => ?_
      have h1 := (bits_sub s (lt64 h hs) j (by omega) a).2.2.1
      have : s - 2 ^ j ≠ 0 := fun h0 => by rw [h0] at h1; have : size 0 = 0 := by decide
                                           omega
      obtain ⟨i, hi⟩ := pos_iff.1 this
      rw [sub_testBit (lt64 h hs) (by omega) a, Bool.and_eq_true] at hi
      exact hc ⟨i, hi.1, by simpa using hi.2⟩
    obtain ⟨i, hi, hne⟩ := this
    have hr := ht.2 i j hi a
    cases hr with
    | here _ => exact absurd rfl hne
    | step hr2 hl hn _ => exact ⟨_, hl, hr2.among.2, by rw [h.sym _ _ hl hj]; exact hn⟩
  · exact ⟨k, hk, a, b⟩
theorem size_or_one {net : List Int} (h : Ok net) {s k : Nat} (hs : s < 2 ^ net.length) (hk : k < net.length) : size (s ||| 2 ^ k) ≤ size s + 1 := by
  cases hb : s.testBit k with
  | false => rw [size_add (lt64 h hs) (by have := h.hi; omega) hb]; exact Nat.le_refl _
  | true =>
    have : s ||| 2 ^ k = s := Nat.eq_of_testBit_eq fun j => by
      rw [Bool.eq_iff_iff, or_testBit]
      exact ⟨fun hh => hh.elim id (fun he => by rw [he]; exact hb), .inl⟩
    rw [this]; omega
/-- A neighbour joins a set that stands together. -/
theorem together_add {net : List Int} (h : Ok net) {s u v : Nat} (hs : s < 2 ^ net.length) (ht : Together net s) (hu : s.testBit u = true) (hv : (ball net u).testBit v = true) : Together net (s ||| 2 ^ v) := by
  have hul := in_lt hs hu
  have hvl := sees_lt h hul hv
  have hsub : ∀ k, s.testBit k = true → (s ||| 2 ^ v).testBit k = true := fun k hk => (or_testBit _ _ _).2 (.inl hk)
  refine together_of h (or_lt hs hvl) (hsub u hu) fun j hj => ?_
  rcases (or_testBit _ _ _).1 hj with hj | rfl
  · exact (ht.2 u j hu hj).mono hsub
  · rcases (ball_testBit _ _ _).1 hv with a | rfl
    · exact .step (.here (hsub u hu)) hul a ((or_testBit _ _ _).2 (.inr rfl))
    · exact .here (hsub u hu)
/-- From within to without there is a wire. -/
theorem leaves {net : List Int} {A i j t : Nat} (hr : Reach net A i j) (hi : t.testBit i = true) (hj : t.testBit j = false) : ∃ u v, t.testBit u = true ∧ t.testBit v = false ∧ u < net.length ∧ (nb net u).testBit v = true := by
  induction hr with
  | here _ => rw [hi] at hj; cases hj
  | @step a b hr hl hn _ ih =>
    cases hb : t.testBit a with
    | true => exact ⟨a, b, hb, hj, hl, hn⟩
    | false => exact ih hb
/-- A joined watch: three for each guard of a watch, less two. -/
theorem joined_three {net : List Int} (h : Ok net) (h1 : parts net = 1) {s : Nat} (hs : s < 2 ^ net.length) (hw : W net s = true) : ∃ t, t < 2 ^ net.length ∧ Together net t ∧ W net t = true ∧ size t + 2 ≤ 3 * size s := by
  have h6 := h.hi
  have hone := (one_part h).1 h1
  have inter : ∀ j : Nat, ∀ t d : Nat, t.testBit d = false → s.testBit d = true → d < net.length → t < 2 ^ net.length → size (s &&& t) + 1 ≤ size (s &&& (t ||| 2 ^ d)) := fun _ t d hd hsd hdl ht => by
    have e : s &&& (t ||| 2 ^ d) = (s &&& t) ||| 2 ^ d := Nat.eq_of_testBit_eq fun j => by
      rw [Bool.eq_iff_iff, Nat.testBit_and, Bool.and_eq_true, or_testBit, or_testBit, Nat.testBit_and, Bool.and_eq_true]
      constructor
      · rintro ⟨a, b | b⟩
        · exact .inl ⟨a, b⟩
        · exact .inr b
      · rintro (⟨a, b⟩ | b)
        · exact ⟨a, .inl b⟩
        · rw [b]; exact ⟨hsd, .inr rfl⟩
    have hlt : s &&& t < 64 := Nat.lt_of_le_of_lt Nat.and_le_left (lt64 h hs)
    rw [e, size_add hlt (by omega) (by rw [Nat.testBit_and, hd, Bool.and_false])]
    exact Nat.le_refl _
  have mono : ∀ t u : Nat, (∀ j, t.testBit j = true → u.testBit j = true) → size (s &&& t) ≤ size (s &&& u) := fun t u htu => by
    have h1 : s &&& t < 2 ^ net.length := Nat.lt_of_le_of_lt Nat.and_le_left hs
    have h2 : s &&& u < 2 ^ net.length := Nat.lt_of_le_of_lt Nat.and_le_left hs
    rw [size_cnt h h1, size_cnt h h2]
    refine cnt_mono fun k _ hk => ?_
    rw [Nat.testBit_and, Bool.and_eq_true] at hk ⊢
    exact ⟨hk.1, htu k hk.2⟩
  have bound : ∀ t : Nat, size (s &&& t) ≤ size s := fun t => by
    have h1 : s &&& t < 2 ^ net.length := Nat.lt_of_le_of_lt Nat.and_le_left hs
    rw [size_cnt h h1, size_cnt h hs]
    refine cnt_mono fun k _ hk => ?_
    rw [Nat.testBit_and, Bool.and_eq_true] at hk
    exact hk.1
  have grow : ∀ m t, size s - size (s &&& t) ≤ m → t < 2 ^ net.length → Together net t → 1 ≤ size (s &&& t) → size t + 2 ≤ 3 * size (s &&& t) → ∃ t', t' < 2 ^ net.length ∧ Together net t' ∧ W net t' = true ∧ size t' + 2 ≤ 3 * size s := by
    intro m
    induction m with
    | zero =>
      intro t hm ht hT hp hz
      -- all of s is in t
      have hle := bound t
      have hall : ∀ j, s.testBit j = true → t.testBit j = true := fun j hj => Classical.byContradiction fun hc => by
        have hd : t.testBit j = false := not_true hc
        have h2 := inter 0 t j hd hj (in_lt hs hj) ht
        have h3 := bound (t ||| 2 ^ j)
        omega
      exact ⟨t, ht, hT, W_mono h hs ht hall hw, by omega⟩
    | succ m ih =>
      intro t hm ht hT hp hz
      have hle := bound t
      cases hW : W net t with
      | true => exact ⟨t, ht, hT, hW, by omega⟩
      | false =>
        -- a place that t does not see
        have hex : ∃ v, v < net.length ∧ (seen net t).testBit v = false := by
          refine Classical.byContradiction fun hc => ?_
          rw [(W_iff h ht).2 (fun v hv => ?_)] at hW
          · cases hW
          · cases hv2 : (seen net t).testBit v with
            | true => rfl
            | false => exact absurd ⟨v, hv, hv2⟩ hc
        obtain ⟨y, hy, hyn⟩ := hex
        obtain ⟨x, hx⟩ := pos_iff.1 hT.1
        have hxl := in_lt ht hx
        obtain ⟨u, v, hu, hv, hul, huv⟩ := leaves ((h.comp_testBit hxl y).1 (hone x y hxl hy)) ((seen_testBit net t x).2 (.inl hx)) hyn
        have hvl := h.nb_lt hul huv
        -- u is seen by t
        obtain ⟨g, hgl, hg, hgu⟩ := (seen_balls h ht).1 hu
        -- v is seen by s
        obtain ⟨d, hdl, hd, hdv⟩ := (seen_balls h hs).1 ((W_iff h hs).1 hw v hvl)
        have hdt : t.testBit d = false := not_true fun hc => by rw [(seen_balls h ht).2 ⟨d, hdl, hc, hdv⟩] at hv; cases hv
        have ht1 : t ||| 2 ^ u < 2 ^ net.length := or_lt ht hul
        have hT1 := together_add h ht hT hg hgu
        have hu1 : (t ||| 2 ^ u).testBit u = true := (or_testBit _ _ _).2 (.inr rfl)
        have ht2 : (t ||| 2 ^ u) ||| 2 ^ v < 2 ^ net.length := or_lt ht1 hvl
        have hT2 := together_add h ht1 hT1 hu1 ((ball_testBit _ _ _).2 (.inl huv))
        have hv2 : ((t ||| 2 ^ u) ||| 2 ^ v).testBit v = true := (or_testBit _ _ _).2 (.inr rfl)
        have ht3 : ((t ||| 2 ^ u) ||| 2 ^ v) ||| 2 ^ d < 2 ^ net.length := or_lt ht2 hdl
        have hT3 := together_add h ht2 hT2 hv2 (by rw [sees_symm h hdl hvl]; exact hdv)
        have z1 := size_or_one h ht hul
        have z2 := size_or_one h ht1 hvl
        have z3 := size_or_one h ht2 hdl
        have hsub : ∀ j, (t ||| 2 ^ d).testBit j = true → (((t ||| 2 ^ u) ||| 2 ^ v) ||| 2 ^ d).testBit j = true := fun j hj => by
          rcases (or_testBit _ _ _).1 hj with hj | hj
          · exact (or_testBit _ _ _).2 (.inl ((or_testBit _ _ _).2 (.inl ((or_testBit _ _ _).2 (.inl hj)))))
          · exact (or_testBit _ _ _).2 (.inr hj)
        have z4 := mono _ _ hsub
        have z5 := inter 0 t d hdt hd hdl ht
        have z6 := bound (((t ||| 2 ^ u) ||| 2 ^ v) ||| 2 ^ d)
        exact ih _ (by omega) ht3 hT3 (by omega) (by omega)
  -- begin with one guard
  have hne : s ≠ 0 := fun h0 => by rw [h0, W_zero h] at hw; cases hw
  obtain ⟨x, hx⟩ := pos_iff.1 hne
  have hxl := in_lt hs hx
  have hpl : 2 ^ x < 2 ^ net.length := Nat.pow_lt_pow_right (by omega) hxl
  have e1 : s &&& 2 ^ x = 2 ^ x := Nat.eq_of_testBit_eq fun j => by
    rw [Nat.testBit_and, testBit_pow]
    by_cases hxj : x = j
    · rw [← hxj, hx]; rfl
    · simp [hxj]
  have e2 : size (2 ^ x) = 1 := by
    rw [size_cnt h hpl]
    show sumN net.length (fun k => ((2 ^ x).testBit k).toNat) = 1
    rw [sumN_one (k := x) hxl (fun j _ hj => by rw [testBit_pow]; simp; omega), testBit_pow]
    simp
  exact grow _ (2 ^ x) (Nat.le_refl _) hpl (together_one h hxl) (by rw [e1, e2]; exact Nat.le_refl _) (by rw [e1, e2]; exact Nat.le_refl _)
end Go.Proofs.Ytgocpgkhbamkcaa
/- Two guards at a place, and a guard that leaves: plain facts. Conditions: those of each theorem. -/
namespace Go.Proofs.Ytgocpgkhbamkcaa
set_option linter.unusedVariables false
set_option linter.unusedSimpArgs false

/-! ### Rows of small numbers -/
/-- The places with at least m guards. -/
def withN (n : Nat) (r : Nat → Nat) (m : Nat) : Nat := orN n (fun k => decide (m ≤ r k)) (fun k => 2 ^ k)
theorem withN_testBit (n : Nat) (r : Nat → Nat) (m j : Nat) : (withN n r m).testBit j = true ↔ j < n ∧ m ≤ r j := by
  unfold withN
  rw [orN_testBit]
  constructor
  · rintro ⟨k, hk, a, b⟩
    rw [testBit_pow, decide_eq_true_eq] at b
    subst b
    exact ⟨hk, by simpa using a⟩
  · rintro ⟨a, b⟩
    exact ⟨j, a, by simpa using b, by rw [testBit_pow]; simp⟩
theorem withN_lt (n : Nat) (r : Nat → Nat) (m : Nat) : withN n r m < 2 ^ n := orN_lt fun k hk _ => Nat.pow_lt_pow_right (by omega) hk
/-- The digits of a number to the base three, the first one ahead. -/
def dig (n m k : Nat) : Nat := m / 3 ^ (n - 1 - k) % 3
theorem dig_lt (n m k : Nat) : dig n m k ≤ 2 := by unfold dig; omega
theorem dig_last (n m : Nat) : dig (n + 1) m n = m % 3 := by
  unfold dig
  rw [show n + 1 - 1 - n = 0 by omega]; simp
theorem dig_ahead {n m k : Nat} (hk : k < n) : dig (n + 1) m k = dig n (m / 3) k := by
  unfold dig
  rw [show n + 1 - 1 - k = (n - 1 - k) + 1 by omega, Nat.pow_succ, Nat.mul_comm, ← Nat.div_div_eq_div_mul]
/-- Each row is one of the rows that are counted up. -/
theorem dig_all {n : Nat} {r : Nat → Nat} (hr : ∀ k, k < n → r k ≤ 2) : ∃ m, m < 3 ^ n ∧ ∀ k, k < n → dig n m k = r k := by
  induction n with
  | zero => exact ⟨0, by simp, fun k hk => by omega⟩
  | succ n ih =>
    obtain ⟨m, hm, hd⟩ := ih (fun k hk => hr k (by omega))
    have h2 := hr n (by omega)
    refine ⟨3 * m + r n, by rw [Nat.pow_succ]; omega, fun k hk => ?_⟩
    by_cases hkn : k = n
    · rw [hkn, dig_last]; omega
    · rw [dig_ahead (by omega), show (3 * m + r n) / 3 = m by omega]
      exact hd k (by omega)
/-- So few guards a row of a kind can have. -/
structure MinRow (n : Nat) (p : (Nat → Nat) → Prop) (m : Nat) : Prop where
  ex : ∃ r, (∀ k, k < n → r k ≤ 2) ∧ p r ∧ sumN n r = m
  le : ∀ r, (∀ k, k < n → r k ≤ 2) → p r → m ≤ sumN n r
theorem MinRow.uniq {n : Nat} {p : (Nat → Nat) → Prop} {a b : Nat} (ha : MinRow n p a) (hb : MinRow n p b) : a = b := by
  obtain ⟨r, h1, h2, h3⟩ := ha.ex
  obtain ⟨q, g1, g2, g3⟩ := hb.ex
  have := ha.le q g1 g2
  have := hb.le r h1 h2
  omega
def RomanP (net : List Int) (r : Nat → Nat) : Prop := ∀ k, k < net.length → r k = 0 → ∃ j, j < net.length ∧ (nb net k).testBit j = true ∧ 2 ≤ r j
def help (net : List Int) (r : Nat → Nat) (k : Nat) : Nat := sumN net.length (fun j => ((nb net k).testBit j).toNat * r j)
def ItalianP (net : List Int) (r : Nat → Nat) : Prop := ∀ k, k < net.length → r k = 0 → 2 ≤ help net r k
theorem roman_italian {net : List Int} {r : Nat → Nat} (hr : RomanP net r) : ItalianP net r := fun k hk h0 => by
  obtain ⟨j, hj, a, b⟩ := hr k hk h0
  have := sumN_pos (f := fun j => ((nb net k).testBit j).toNat * r j) hj
  simp only [a, Bool.toNat_true, Nat.one_mul] at this
  unfold help; omega
theorem help_some {net : List Int} {r : Nat → Nat} {k : Nat} (h : 1 ≤ help net r k) : ∃ j, j < net.length ∧ (nb net k).testBit j = true ∧ 1 ≤ r j := by
  refine Classical.byContradiction fun hc => ?_
  have : help net r k = 0 := by
    unfold help
    rw [sumN_congr (g := fun _ => 0) (fun j hj => ?_), sumN_zero]
    cases hb : (nb net k).testBit j with
    | false => simp
    | true =>
      have : ¬ 1 ≤ r j := fun h1 => hc ⟨j, hj, hb, h1⟩
      simp; omega
  omega
/-- Italian rows watch, whether one has two or not. -/
theorem italian_watch {net : List Int} (h : Ok net) {r : Nat → Nat} (hr : ItalianP net r) : W net (withN net.length r 1) = true := by
  refine (W_iff h (withN_lt _ _ _)).2 fun j hj => (seen_iff h _ hj).2 ?_
  by_cases h0 : r j = 0
  · obtain ⟨i, hi, a, b⟩ := help_some (Nat.le_trans (by omega) (hr j hj h0))
    exact .inr ⟨i, hi, (withN_testBit _ _ _ _).2 ⟨hi, b⟩, a⟩
  · exact .inl ((withN_testBit _ _ _ _).2 ⟨hj, by omega⟩)
theorem with_sum {net : List Int} (h : Ok net) (r : Nat → Nat) : size (withN net.length r 1) ≤ sumN net.length r := by
  rw [size_cnt h (withN_lt _ _ _)]
  refine sumN_le fun k hk => ?_
  show ((withN net.length r 1).testBit k).toNat ≤ r k
  cases hb : (withN net.length r 1).testBit k with
  | false => exact Nat.zero_le _
  | true => exact ((withN_testBit _ _ _ _).1 hb).2
/-- The row of a set: two at its places, one where it does not see. -/
def rowOfN (net : List Int) (s k : Nat) : Nat := if s.testBit k = true then 2 else if (seen net s).testBit k = true then 0 else 1
theorem rowOfN_roman {net : List Int} (h : Ok net) {s : Nat} (hs : s < 2 ^ net.length) : (∀ k, k < net.length → rowOfN net s k ≤ 2) ∧ RomanP net (rowOfN net s) := by
  refine ⟨fun k _ => by unfold rowOfN; split; omega; split <;> omega, fun k hk h0 => ?_⟩
  unfold rowOfN at h0
  split at h0
  · cases h0
  · rename_i hb
    split at h0
    · rename_i hsn
      rcases (seen_iff h s hk).1 hsn with a | ⟨j, hj, a, b⟩
      · exact absurd a hb
      · exact ⟨j, hj, b, by unfold rowOfN; rw [if_pos a]; exact Nat.le_refl _⟩
    · cases h0
theorem rowOfN_sum {net : List Int} (h : Ok net) {s : Nat} (hs : s < 2 ^ net.length) : sumN net.length (rowOfN net s) + size (seen net s) = 2 * size s + net.length := by
  rw [size_cnt h (h.seen_lt hs), size_cnt h hs]
  unfold cnt
  rw [← sumN_add, Nat.mul_comm, ← sumN_mul, show net.length = sumN net.length (fun _ => 1) by rw [sumN_const]; omega]
  simp only [sumN_const, Nat.mul_one]
  have : sumN net.length (fun k => (s.testBit k).toNat * 2) + net.length = sumN net.length (fun k => (s.testBit k).toNat * 2 + 1) := by rw [sumN_add, sumN_const]; omega
  rw [this]
  refine sumN_congr fun k hk => ?_
  unfold rowOfN
  cases hb : s.testBit k with
  | true => rw [(seen_testBit net s k).2 (.inl hb)]; rfl
  | false => cases hc : (seen net s).testBit k <;> rfl
/-- A Roman row has no fewer than the row of its places with two. -/
theorem roman_ge {net : List Int} (h : Ok net) {r : Nat → Nat} (hr : RomanP net r) : 2 * size (withN net.length r 2) + net.length ≤ sumN net.length r + size (seen net (withN net.length r 2)) := by
  have hs := withN_lt net.length r 2
  rw [← rowOfN_sum h hs]
  have : sumN net.length (rowOfN net (withN net.length r 2)) ≤ sumN net.length r := sumN_le fun k hk => by
    unfold rowOfN
    split
    · rename_i hb; exact ((withN_testBit _ _ _ _).1 hb).2
    · rename_i hb
      split
      · exact Nat.zero_le _
      · rename_i hc
        refine Nat.one_le_iff_ne_zero.2 fun h0 => ?_
        obtain ⟨j, hj, a, b⟩ := hr k hk h0
        exact hc ((seen_iff h _ hk).2 (.inr ⟨j, hj, (withN_testBit _ _ _ _).2 ⟨hj, b⟩, a⟩))
  omega
/-- Twice the watch is enough. -/
theorem roman_twice {net : List Int} (h : Ok net) {s : Nat} (hs : s < 2 ^ net.length) (hw : W net s = true) : sumN net.length (rowOfN net s) = 2 * size s := by
  have h1 := rowOfN_sum h hs
  have h2 : size (seen net s) = net.length := by
    unfold W at hw
    rw [beq_iff_eq] at hw
    rw [hw, size_all h]
  omega
theorem ones_row {net : List Int} : RomanP net (fun _ => 1) ∧ sumN net.length (fun _ => 1) = net.length := ⟨fun k _ h0 => (by cases h0), by rw [sumN_const]; omega⟩
/-- A place with one guard beside one with two could do without: so it isn't in a least row. -/
theorem roman_ones {net : List Int} {r : Nat → Nat} (hr : RomanP net r) (hb : ∀ k, k < net.length → r k ≤ 2) (hmin : ∀ q, (∀ k, k < net.length → q k ≤ 2) → RomanP net q → sumN net.length r ≤ sumN net.length q) {k j : Nat} (hk : k < net.length) (h1 : r k = 1) (hj : j < net.length) (hn : (nb net k).testBit j = true) (h2 : r j = 2) : False := by
  have hq : RomanP net (fun i => if i = k then 0 else r i) := fun i hi h0 => by
    by_cases hik : i = k
    · rw [hik]
      refine ⟨j, hj, hn, ?_⟩
      by_cases hjk : j = k
      · rw [hjk, h1] at h2; cases h2
      · simp only [if_neg hjk]; omega
    · simp only [if_neg hik] at h0
      obtain ⟨m, hm, a, b⟩ := hr i hi h0
      refine ⟨m, hm, a, ?_⟩
      by_cases hmk : m = k
      · rw [hmk, h1] at b; omega
      · simp only [if_neg hmk]; exact b
  have hle := hmin _ (fun i hi => by by_cases hik : i = k <;> simp [hik]; exact hb i hi) hq
  have : sumN net.length (fun i => if i = k then 0 else r i) + sumN net.length (fun i => if i = k then 1 else 0) = sumN net.length r := by
    rw [← sumN_add]
    refine sumN_congr fun i hi => ?_
    by_cases hik : i = k
    · simp [hik, h1]
    · simp [hik]
  rw [sumN_one (f := fun i => if i = k then 1 else 0) (k := k) hk (fun i _ hik => by rw [if_neg hik]), if_pos rfl] at this
  omega
/-- One place can stay without a guard, if it has a neighbour. -/
theorem few_lt {net : List Int} (h : Ok net) {v : Nat} (hv : v < net.length) (hn : nb net v ≠ 0) : W net (allOf net - 2 ^ v) = true ∧ size (allOf net - 2 ^ v) + 1 = net.length := by
  have h6 := h.hi
  have hb : (allOf net).testBit v = true := by rw [allOf_testBit]; simpa using hv
  have hlt := sub_lt (k := v) (allOf_lt net)
  have hz := (bits_sub _ (lt64 h (allOf_lt net)) v (by omega) hb).2.2.1
  rw [size_all h] at hz
  refine ⟨(W_iff h hlt).2 fun j hj => (seen_iff h _ hj).2 ?_, hz⟩
  by_cases hjv : j = v
  · right
    obtain ⟨i, hi⟩ := pos_iff.1 hn
    have hil := h.nb_lt hv hi
    refine ⟨i, hil, ?_, by rw [hjv]; exact hi⟩
    rw [sub_testBit (lt64 h (allOf_lt net)) (by omega) hb, allOf_testBit]
    have : i ≠ v := fun he => by rw [he, h.irr v hv] at hi; cases hi
    simp [hil, this]
  · left
    rw [sub_testBit (lt64 h (allOf_lt net)) (by omega) hb, allOf_testBit]
    simp [hj, hjv]
/-- As few as watch only without wires. -/
theorem roman_equal {net : List Int} (h : Ok net) {a w : Nat} (ha : MinRow net.length (RomanP net) a) (hw : MinOf net (W net) w) : a = w ↔ wires net = 0 := by
  rw [ends_zero h]
  constructor
  · intro he k hk
    refine Classical.byContradiction fun hn => ?_
    obtain ⟨h1, h2⟩ := few_lt h hk hn
    have h3 := hw.le _ (sub_lt (allOf_lt net)) h1
    obtain ⟨r, hb, hr, hs⟩ := ha.ex
    have h4 := with_sum h r
    have h5 := hw.le _ (withN_lt net.length r 1) (italian_watch h (roman_italian hr))
    -- no place has two
    have h6 : ∀ j, j < net.length → r j ≤ 1 := fun j hj => Classical.byContradiction fun hc => by
      have : size (withN net.length r 1) < sumN net.length r := by
        rw [size_cnt h (withN_lt _ _ _)]
        have : cnt net.length (fun k => (withN net.length r 1).testBit k) + 1 ≤ sumN net.length r := by
          have hle : sumN net.length (fun k => ((withN net.length r 1).testBit k).toNat + (if k = j then 1 else 0)) ≤ sumN net.length r := sumN_le fun i hi => by
            cases hbt : (withN net.length r 1).testBit i with
            | false =>
              by_cases hij : i = j
              · rw [hij] at hbt
                rw [(withN_testBit _ _ _ _).2 ⟨hj, by omega⟩] at hbt; cases hbt
              · simp [hij]
            | true =>
              have := ((withN_testBit _ _ _ _).1 hbt).2
              by_cases hij : i = j
              · rw [hij]; simp; omega
              · simp [hij]; exact this
          rw [sumN_add, sumN_one (f := fun k => if k = j then 1 else 0) (k := j) hj (fun i _ hi => by rw [if_neg hi]), if_pos rfl] at hle
          exact hle
        omega
      omega
    have h7 : net.length ≤ sumN net.length r := by
      rw [show net.length = sumN net.length (fun _ => 1) by rw [sumN_const]; omega]
      simp only [sumN_const, Nat.mul_one]
      have : sumN net.length (fun _ => 1) ≤ sumN net.length r := sumN_le fun j hj => Nat.one_le_iff_ne_zero.2 fun h0 => by
        obtain ⟨i, hi, _, b⟩ := hr j hj h0
        have := h6 i hi
        omega
      rw [sumN_const] at this; omega
    omega
  · intro hn
    have h1 := ha.le _ (fun k _ => by simp) (ones_row (net := net)).1
    rw [ones_row.2] at h1
    obtain ⟨r, hb, hr, hs⟩ := ha.ex
    have h4 := with_sum h r
    have h5 := hw.le _ (withN_lt net.length r 1) (italian_watch h (roman_italian hr))
    obtain ⟨s, c, d, e⟩ := hw.ex
    have : s = allOf net := by
      refine eq_of_bits c (allOf_lt net) fun j hj => ?_
      rcases (seen_iff h s hj).1 ((W_iff h c).1 d j hj) with x | ⟨i, _, _, y⟩
      · rw [x, allOf_testBit]; simp [hj]
      · rw [hn j hj, Nat.zero_testBit] at y; cases y
    rw [this, size_all h] at e
    omega

/-! ### A guard that leaves -/
def moved (s f t : Nat) : Nat := (s - 2 ^ f) ||| 2 ^ t
theorem moved_testBit {s f t : Nat} (hs : s < 64) (hf : f < 6) (hb : s.testBit f = true) (j : Nat) : (moved s f t).testBit j = true ↔ (s.testBit j = true ∧ j ≠ f) ∨ j = t := by
  unfold moved
  rw [or_testBit, sub_testBit hs hf hb]
  simp
theorem moved_lt {n s f t : Nat} (hs : s < 2 ^ n) (ht : t < n) : moved s f t < 2 ^ n := or_lt (sub_lt hs) ht
theorem moved_size {s f t : Nat} (hs : s < 64) (hf : f < 6) (ht : t < 6) (hb : s.testBit f = true) (hn : s.testBit t = false) : size (moved s f t) = size s := by
  have h1 := bits_sub s hs f hf hb
  unfold moved
  rw [size_add h1.1 ht (by rw [sub_testBit hs hf hb, hn]; rfl)]
  omega
theorem moved_back {s f t : Nat} (hs : s < 64) (hf : f < 6) (ht : t < 6) (hb : s.testBit f = true) (hn : s.testBit t = false) : moved (moved s f t) t f = s := by
  have hft : f ≠ t := fun he => by rw [he, hn] at hb; cases hb
  have hm : moved s f t < 2 ^ 6 := moved_lt (n := 6) (by omega) ht
  apply Nat.eq_of_testBit_eq
  intro j
  rw [Bool.eq_iff_iff, moved_testBit (by omega) ht ((moved_testBit hs hf hb t).2 (.inr rfl)), moved_testBit hs hf hb]
  constructor
  · rintro (⟨⟨a, _⟩ | a, b⟩ | rfl)
    · exact a
    · exact absurd a b
    · exact hb
  · intro a
    by_cases hjf : j = f
    · exact .inr hjf
    · exact .inl ⟨.inl ⟨a, hjf⟩, fun he => by rw [he, hn] at a; cases a⟩
/-- A guard next to a place can go there, and all is watched. -/
def Can (net : List Int) (s t : Nat) : Prop := ∃ f, s.testBit f = true ∧ (nb net t).testBit f = true ∧ W net (moved s f t) = true
def Secure (net : List Int) (s : Nat) : Prop := W net s = true ∧ ∀ k, k < net.length → s.testBit k = false → Can net s k
theorem secure_add {net : List Int} (h : Ok net) {s m : Nat} (hs : s < 2 ^ net.length) (hm : m < net.length) (hS : Secure net s) : Secure net (s ||| 2 ^ m) := by
  have h6 := h.hi
  have hl := or_lt hs hm
  have hsub : ∀ j, s.testBit j = true → (s ||| 2 ^ m).testBit j = true := fun j hj => (or_testBit _ _ _).2 (.inl hj)
  refine ⟨W_mono h hs hl hsub hS.1, fun k hk hb => ?_⟩
  have hks : s.testBit k = false := not_true fun hc => by rw [hsub k hc] at hb; cases hb
  obtain ⟨f, a, b, c⟩ := hS.2 k hk hks
  have hfl := in_lt hs a
  refine ⟨f, hsub f a, b, W_mono h (moved_lt hs hk) (moved_lt hl hk) (fun j hj => ?_) c⟩
  rw [moved_testBit (lt64 h hl) (by omega) (hsub f a)]
  rcases (moved_testBit (lt64 h hs) (by omega) a j).1 hj with ⟨x, y⟩ | x
  · exact .inl ⟨hsub j x, y⟩
  · exact .inr x
theorem secure_all {net : List Int} (h : Ok net) : Secure net (allOf net) := ⟨W_all h, fun k hk hb => by rw [allOf_testBit] at hb; simp at hb; omega⟩
/-- All places are needed only without wires. -/
theorem secure_less {net : List Int} (h : Ok net) {v : Nat} (hv : v < net.length) (hn : nb net v ≠ 0) : Secure net (allOf net - 2 ^ v) := by
  have h6 := h.hi
  have hb : (allOf net).testBit v = true := by rw [allOf_testBit]; simpa using hv
  have h64 := lt64 h (allOf_lt net)
  refine ⟨(few_lt h hv hn).1, fun k hk hkb => ?_⟩
  have hkv : k = v := Classical.byContradiction fun hne => by
    rw [sub_testBit h64 (by omega) hb, allOf_testBit] at hkb
    simp [hk, hne] at hkb
  subst hkv
  obtain ⟨u, hu⟩ := pos_iff.1 hn
  have hul := h.nb_lt hk hu
  have huk : u ≠ k := fun he => by rw [he, h.irr k hk] at hu; cases hu
  have hub : (allOf net - 2 ^ k).testBit u = true := by rw [sub_testBit h64 (by omega) hb, allOf_testBit]; simp [hul, huk]
  have hnu : nb net u ≠ 0 := pos_iff.2 ⟨k, by rw [h.sym k u hk hul]; exact hu⟩
  refine ⟨u, hub, hu, ?_⟩
  have e : moved (allOf net - 2 ^ k) u k = allOf net - 2 ^ u := by
    apply Nat.eq_of_testBit_eq
    intro j
    have hbu : (allOf net).testBit u = true := by rw [allOf_testBit]; simpa using hul
    rw [Bool.eq_iff_iff, moved_testBit (lt64 h (sub_lt (allOf_lt net))) (by omega) hub, sub_testBit h64 (by omega) hb, sub_testBit h64 (by omega) hbu, allOf_testBit]
    simp only [Bool.and_eq_true, decide_eq_true_eq, Bool.not_eq_true', decide_eq_false_iff_not]
    constructor
    · rintro (⟨⟨a, _⟩, c⟩ | rfl)
      · exact ⟨a, c⟩
      · exact ⟨hk, fun he => huk he.symm⟩
    · rintro ⟨a, c⟩
      by_cases hjk : j = k
      · exact .inr hjk
      · exact .inl ⟨⟨a, hjk⟩, c⟩
  rw [e]; exact (few_lt h hul hnu).1
/-- The row behind a guard's move. -/
def leave (r : Nat → Nat) (f t k : Nat) : Nat := if k = t then 1 else if k = f then r f - 1 else r k
def WeakP (net : List Int) (r : Nat → Nat) : Prop := ∀ k, k < net.length → r k = 0 → ∃ f, f < net.length ∧ 1 ≤ r f ∧ (nb net k).testBit f = true ∧ W net (withN net.length (leave r f k) 1) = true
theorem weak_watch {net : List Int} (h : Ok net) {r : Nat → Nat} (hr : WeakP net r) : W net (withN net.length r 1) = true := by
  refine (W_iff h (withN_lt _ _ _)).2 fun j hj => (seen_iff h _ hj).2 ?_
  by_cases h0 : r j = 0
  · obtain ⟨f, hf, a, b, _⟩ := hr j hj h0
    exact .inr ⟨f, hf, (withN_testBit _ _ _ _).2 ⟨hf, a⟩, b⟩
  · exact .inl ((withN_testBit _ _ _ _).2 ⟨hj, by omega⟩)
theorem roman_weak {net : List Int} (h : Ok net) {r : Nat → Nat} (hr : RomanP net r) : WeakP net r := fun k hk h0 => by
  obtain ⟨j, hj, a, b⟩ := hr k hk h0
  refine ⟨j, hj, by omega, a, ?_⟩
  refine W_mono h (withN_lt net.length r 1) (withN_lt _ _ _) (fun i hi => ?_) (italian_watch h (roman_italian hr))
  obtain ⟨x, y⟩ := (withN_testBit _ _ _ _).1 hi
  refine (withN_testBit _ _ _ _).2 ⟨x, ?_⟩
  unfold leave
  split
  · exact Nat.le_refl _
  · split
    · omega
    · exact y
/-- Where no place has two guards: just the secure sets. -/
theorem weak_secure {net : List Int} (h : Ok net) {r : Nat → Nat} (hb : ∀ k, k < net.length → r k ≤ 1) : WeakP net r ↔ Secure net (withN net.length r 1) := by
  have h6 := h.hi
  have hs := withN_lt net.length r 1
  have e : ∀ f k, f < net.length → k < net.length → r f = 1 → r k = 0 → withN net.length (leave r f k) 1 = moved (withN net.length r 1) f k := fun f k hf hk h1 h0 => by
    have hfb : (withN net.length r 1).testBit f = true := (withN_testBit _ _ _ _).2 ⟨hf, by omega⟩
    apply Nat.eq_of_testBit_eq
    intro j
    rw [Bool.eq_iff_iff, withN_testBit, moved_testBit (lt64 h hs) (by omega) hfb, withN_testBit]
    unfold leave
    constructor
    · rintro ⟨x, y⟩
      by_cases hjk : j = k
      · exact .inr hjk
      · rw [if_neg hjk] at y
        by_cases hjf : j = f
        · rw [if_pos hjf, h1] at y; omega
        · rw [if_neg hjf] at y; exact .inl ⟨⟨x, y⟩, hjf⟩
    · rintro (⟨⟨x, y⟩, z⟩ | rfl)
      · refine ⟨x, ?_⟩
        by_cases hjk : j = k
        · rw [if_pos hjk]; exact Nat.le_refl _
        · rw [if_neg hjk, if_neg z]; exact y
      · exact ⟨hk, by rw [if_pos rfl]; exact Nat.le_refl _⟩
  constructor
  · intro hr
    refine ⟨weak_watch h hr, fun k hk hkb => ?_⟩
    have h0 : r k = 0 := Classical.byContradiction fun hc => by rw [(withN_testBit _ _ _ _).2 ⟨hk, by omega⟩] at hkb; cases hkb
    obtain ⟨f, hf, a, b, c⟩ := hr k hk h0
    have := hb f hf
    exact ⟨f, (withN_testBit _ _ _ _).2 ⟨hf, a⟩, b, by rw [← e f k hf hk (by omega) h0]; exact c⟩
  · rintro ⟨_, hS⟩ k hk h0
    have hkb : (withN net.length r 1).testBit k = false := not_true fun hc => by have := ((withN_testBit _ _ _ _).1 hc).2; omega
    obtain ⟨f, a, b, c⟩ := hS k hk hkb
    obtain ⟨hf, ha⟩ := (withN_testBit _ _ _ _).1 a
    have := hb f hf
    exact ⟨f, hf, ha, b, by rw [e f k hf hk (by omega) h0]; exact c⟩
theorem bit_row {net : List Int} {s : Nat} (hs : s < 2 ^ net.length) : withN net.length (fun k => (s.testBit k).toNat) 1 = s := by
  apply Nat.eq_of_testBit_eq
  intro j
  rw [Bool.eq_iff_iff, withN_testBit]
  constructor
  · rintro ⟨_, b⟩
    cases hb : s.testBit j with
    | true => rfl
    | false => rw [hb] at b; simp at b
  · intro a; exact ⟨in_lt hs a, by rw [a]; decide⟩
end Go.Proofs.Ytgocpgkhbamkcaa
/- Lists of watches, counts of watches, thinned watches. Conditions: those of each theorem. -/
namespace Go.Proofs.Ytgocpgkhbamkcaa
open D Go.RowKit
set_option linter.unusedVariables false
set_option linter.unusedSimpArgs false


theorem small_of {n : Nat} (h : n ≤ 1000000) : small n = true := by unfold small; rw [decide_eq_true_eq]; omega
/-- All numbers below N of a kind. -/
def listOfN (N : Nat) (p : Nat → Bool) : List Int := fold N (fun l s => if p s = true then l ++ [(s : Int)] else l) []
theorem listOfN_len (N : Nat) (p : Nat → Bool) : (listOfN N p).length ≤ N := by
  unfold listOfN
  induction N with
  | zero => exact Nat.le_refl _
  | succ N ih =>
    rw [fold_succ]
    split
    · rw [List.length_append]; simp only [List.length_singleton]; omega
    · omega
/-- How many watches there are of each number of places. -/
def counts (net : List Int) : List Int := fold (2 ^ net.length) (fun l s => if W net s = true then l.set (size s) (D.eli l (size s) + 1) else l) (List.replicate (net.length + 1) 0)
theorem eli_set {l : List Int} {a b : Nat} {v : Int} (ha : a < l.length) : D.eli (l.set a v) b = if a = b then v else D.eli l b := by
  unfold D.eli
  by_cases h : a = b
  · subst h; simp [List.getD, ha]
  · simp [List.getD, List.getElem?_set_ne h, h]
theorem eli_rep (n k : Nat) : D.eli (List.replicate n 0) k = 0 := by
  unfold D.eli
  by_cases h : k < n <;> simp [List.getD, h]
/-- The bounds of the counts on the way. -/
def CInv (net : List Int) (k : Nat) (t : List Int) : Prop := t.length = net.length + 1 ∧ ∀ j, 0 ≤ D.eli t j ∧ D.eli t j ≤ k
theorem CInv.step {net : List Int} (h : Ok net) {k : Nat} {t : List Int} (hk : k < 2 ^ net.length) (ht : CInv net k t) : CInv net (k + 1) (if W net k = true then t.set (size k) (D.eli t (size k) + 1) else t) := by
  have hz := size_le_len h hk
  split
  · refine ⟨by rw [List.length_set]; exact ht.1, fun j => ?_⟩
    rw [eli_set (by rw [ht.1]; omega)]
    have h1 := ht.2 j
    have h2 := ht.2 (size k)
    split <;> omega
  · exact ⟨ht.1, fun j => by have := ht.2 j; omega⟩
theorem CInv.zero (net : List Int) : CInv net 0 (List.replicate (net.length + 1) 0) := ⟨by simp, fun j => by rw [eli_rep]; omega⟩
/-- What is left of a watch. -/
def thinStep (net : List Int) (t p : Nat) : Nat := if (t.testBit p && W net (t - 2 ^ p)) = true then t - 2 ^ p else t
def thin (net : List Int) (s : Nat) : Nat := fold net.length (fun t k => thinStep net t (net.length - 1 - k)) s
theorem thinStep_lt {net : List Int} {t p n : Nat} (ht : t < 2 ^ n) : thinStep net t p < 2 ^ n := by
  unfold thinStep; split
  · exact sub_lt ht
  · exact ht
theorem thinStep_W {net : List Int} {t p : Nat} (hw : W net t = true) : W net (thinStep net t p) = true := by
  unfold thinStep; split
  · rename_i hc; rw [Bool.and_eq_true] at hc; exact hc.2
  · exact hw
theorem I.WatchOk_n {net : List Int} (h : Ok net) (e : I.NetOk_t net = some true) (s : Int) : I.WatchOk_t net s = some (decide (0 ≤ s ∧ s < 2 ^ net.length) && W net s.toNat) := by
  unfold I.WatchOk_t I.WatchOk_tree
  rw [e, I.setIn_n h]
  simp only [optC, cond_true]
  rcases set_cases h s with ⟨t, rfl, ht, hd⟩ | hd
  · rw [hd, cond_true, I.watchIn_n h ht]; rfl
  · rw [hd]; rfl
theorem S.WatchOk_n {net : List Int} (h : Ok net) (e : S.NetOk_t net = some true) (s : Int) : S.WatchOk_t net s = some (decide (0 ≤ s ∧ s < 2 ^ net.length) && W net s.toNat) := by
  unfold S.WatchOk_t S.WatchOk_tree
  rw [S.l1SetOk_n h e]
  simp only [optC]
  rcases set_cases h s with ⟨t, rfl, ht, hd⟩ | hd
  · rw [hd, cond_true, S.l2Watch_n h ht]; rfl
  · rw [hd]; rfl
theorem S.ThinnedWatch_y {net : List Int} (h : Ok net) (e : S.NetOk_t net = some true) {s : Nat} (hs : s < 2 ^ net.length) (hw : W net s = true) : S.ThinnedWatch_t net s = some ((thin net s : Nat) : Int) := by
  unfold S.ThinnedWatch_t S.ThinnedWatch_tree
  have h64 := h.pow
  have h6 := h.hi
  have h1 := h.lo
  rw [S.WatchOk_n h e]
  have := (run_for (run := S.ThinnedWatch_run4 net) (len := net.length) (fun k (t : Nat) => ((t : Int), ((net.length : Int) - 1 - k))) (fun t k => thinStep net t (net.length - 1 - k)) (fun t => (t : Int)) (fun k t => t < 2 ^ net.length ∧ W net t = true) (by omega) (fun n k t hk ht => ?_) (fun n t ht => ?_) (t0 := s) ⟨hs, hw⟩).1
  · simp only [optC, Int.toNat_natCast]
    rw [hw, show decide (0 ≤ (s : Int) ∧ (s : Int) < 2 ^ net.length) = true by rw [two_pow_cast, decide_eq_true_eq]; omega]
    simp only [Bool.and_true, Bool.not_true, cond_false]
    rw [i64_wrap (n := (net.length : Int) - 1) (by omega) (by omega)]
    rw [show ((net.length : Int) - 1) = (net.length : Int) - 1 - ((0 : Nat) : Int) by omega, this]
    rfl
  · refine ⟨?_, thinStep_lt ht.1, thinStep_W ht.2⟩
    simp only [S.ThinnedWatch_run4, S.ThinnedWatch_step4]
    have hp : ((net.length : Int) - 1 - k) = ((net.length - 1 - k : Nat) : Int) := by omega
    rw [hp]
    have ht64 := lt64 h ht.1
    have hlt : t - 2 ^ (net.length - 1 - k) < 2 ^ net.length := sub_lt ht.1
    have hnx : IntKind.i64.wrap (((net.length - 1 - k : Nat) : Int) - 1) = (net.length : Int) - 1 - ((k + 1 : Nat) : Int) := by rw [i64_wrap (by omega) (by omega)]; omega
    rw [cnd_t (by simp), cnd_f (by simp), bit_shr _ _ (by omega), bool_eq1, hnx]
    unfold thinStep
    cases hb : t.testBit (net.length - 1 - k) with
    | true =>
      have hge := (bits_sub t ht64 _ (by omega) hb).2.1
      simp only [cond_true, Bool.true_and]
      rw [cnd_f (by simp), one_shl (by omega), sub_nat hge (by omega), S.l2Watch_n h hlt]
      simp only [optC]
      rw [cnd_f (x := none) (by simp)]
      cases hw2 : W net (t - 2 ^ (net.length - 1 - k)) with
      | true => rfl
      | false => rfl
    | false =>
      simp only [cond_false, Bool.false_eq_true, if_false, Bool.false_and]
  · simp only [S.ThinnedWatch_run4, S.ThinnedWatch_step4]
    rw [cnd_f (by rw [decide_eq_false_iff_not]; omega)]
end Go.Proofs.Ytgocpgkhbamkcaa
/- What the exact laws need of rows that are marked. Conditions: those of each theorem. -/
namespace Go.Proofs.Ytgocpgkhbamkcaa
open D Go.RowKit
set_option linter.unusedVariables false
set_option linter.unusedSimpArgs false


theorem eli_set2 {l : List Int} {a b : Nat} {v : Int} (ha : a < l.length) : D.eli (l.set a v) b = if a = b then v else D.eli l b := by
  unfold D.eli
  by_cases h : a = b
  · subst h; simp [List.getD, ha]
  · simp [List.getD, List.getElem?_set_ne h, h]
theorem neg_nat (a : Nat) : decide ((a : Int) < 0) = false := by rw [decide_eq_false_iff_not]; omega
theorem not_beq_self (a : Nat) : (!((a : Int) == (a : Int))) = false := by simp
end Go.Proofs.Ytgocpgkhbamkcaa
/- The exact laws of chapter 2. Conditions: those of each theorem. -/
namespace Go.Proofs.Ytgocpgkhbamkcaa
open D Go.RowKit
set_option linter.unusedVariables false
set_option linter.unusedSimpArgs false


theorem I.WatchOk_x {net : List Int} (e : I.NetOk_t net = some false) (s : Int) : I.WatchOk_t net s = some false := by
  unfold I.WatchOk_t I.WatchOk_tree; rw [e]; rfl
theorem S.l1SetOk_x {net : List Int} (e : S.NetOk_t net = some false) (s : Int) : S.l1SetOk_t net s = some false := by
  unfold S.l1SetOk_t S.l1SetOk_tree; rw [e]; rfl
theorem S.WatchOk_x {net : List Int} (e : S.NetOk_t net = some false) (s : Int) : S.WatchOk_t net s = some false := by
  unfold S.WatchOk_t S.WatchOk_tree; rw [S.l1SetOk_x e]; rfl
theorem WatchOk_same {a0 : List Int} {a1 : Int} : ∃ v, S.WatchOk_t a0 a1 = some v ∧ I.WatchOk_t a0 a1 = some v := by
  rcases NetOk_cases a0 with ⟨h, e1, e2⟩ | ⟨_, e1, e2⟩
  · exact ⟨_, S.WatchOk_n h e2 a1, I.WatchOk_n h e1 a1⟩
  · exact ⟨_, S.WatchOk_x e2 a1, I.WatchOk_x e1 a1⟩
theorem I.FewestWatch_x {net : List Int} (e : I.NetOk_t net = some false) : I.FewestWatch_t net = some (-1) := by
  unfold I.FewestWatch_t I.FewestWatch_tree; rw [e]; rfl
theorem fuel_succ : ∃ n, FUEL = n + 1 := ⟨FUEL - 1, by have := FUEL_le; omega⟩
theorem counts_len {net : List Int} (h : Ok net) : (counts net).length = net.length + 1 := by
  have key : ∀ k, k ≤ 2 ^ net.length → CInv net k (fold k (fun l s => if W net s = true then l.set (size s) (D.eli l (size s) + 1) else l) (List.replicate (net.length + 1) 0)) := by
    intro k
    induction k with
    | zero => intro _; exact CInv.zero net
    | succ k ih => intro hk; rw [fold_succ]; exact (ih (by omega)).step h (by omega)
  exact (key _ (Nat.le_refl _)).1
theorem S.ThinnedWatch_x {net : List Int} {s : Int} (e : S.WatchOk_t net s = some false) : S.ThinnedWatch_t net s = some (-1) := by
  unfold S.ThinnedWatch_t S.ThinnedWatch_tree; rw [e]; rfl
end Go.Proofs.Ytgocpgkhbamkcaa
/- The model's functions of chapters 3 to 5 in natural numbers. Conditions: those of each theorem. -/
namespace Go.Proofs.Ytgocpgkhbamkcaa
open D Go.RowKit
set_option linter.unusedVariables false
set_option linter.unusedSimpArgs false


theorem nat_eq0 (a : Nat) : ((a : Int) == 0) = (a == 0) := nat_beq a 0
theorem nat_ne0 (a : Nat) : ((a : Int) != 0) = (a != 0) := nat_bne a 0
theorem minus_lt {a b n : Nat} (ha : a < 2 ^ n) : minus a b < 2 ^ n := Nat.lt_of_le_of_lt Nat.and_le_left ha
theorem minus_pow {s k : Nat} (hs : s < 64) (hk : k < 6) (hb : s.testBit k = true) : minus s (2 ^ k) = s - 2 ^ k := by rw [bits_minus s hs k hk, if_pos hb]
/-- The answers that are told for any argument. -/
def privI (net : List Int) (s g : Int) : Int := if (0 ≤ s ∧ s < 2 ^ net.length) ∧ (0 ≤ g ∧ g < net.length) ∧ s.toNat.testBit g.toNat = true then ((priv net s.toNat g.toNat : Nat) : Int) else -1
def twiceI (net : List Int) (s : Int) : Int := if 0 ≤ s ∧ s < 2 ^ net.length then ((twice net s.toNat : Nat) : Int) else -1
def grownI (net : List Int) (s : Int) : Int := if (0 ≤ s ∧ s < 2 ^ net.length) ∧ apart net s.toNat = true then ((grown net s.toNat : Nat) : Int) else -1
theorem dec_true {p : Prop} [Decidable p] (h : decide p = true) : p := of_decide_eq_true h
theorem dec_false {p : Prop} [Decidable p] (h : decide p = false) : ¬ p := of_decide_eq_false h
/-- All places below n pass a test, by a search for one that doesn't. -/
theorem find_test {n : Nat} {p : Nat → Bool} : find n (fun k => if p k = true then some false else none) = if ((List.range n).all fun k => !p k) = true then none else some false := by
  cases hall : (List.range n).all fun k => !p k with
  | true =>
    rw [if_pos rfl, find_none]
    intro j hj
    rw [List.all_eq_true] at hall
    have := hall j (List.mem_range.2 hj)
    rw [Bool.not_eq_true'] at this
    rw [this]; rfl
  | false =>
    rw [if_neg (by simp)]
    rw [List.all_eq_false] at hall
    obtain ⟨k, hk, hb⟩ := hall
    rw [Bool.not_eq_true', Bool.not_eq_false] at hb
    cases hf : find n (fun k => if p k = true then some false else none) with
    | none =>
      have := find_none.1 hf k (List.mem_range.1 hk)
      rw [hb] at this; cases this
    | some b =>
      obtain ⟨j, hj, he⟩ := find_some_ex hf
      split at he
      · cases he; rfl
      · cases he

theorem and_all_mono {s k n : Nat} (hk : k < n) (hs : s < 2 ^ n) : s ||| 2 ^ k < 2 ^ n := or_lt hs hk
theorem grownStep_lt {net : List Int} {t k n : Nat} (ht : t < 2 ^ n) (hk : k < n) : grownStep net t k < 2 ^ n := by
  unfold grownStep; split
  · exact or_lt ht hk
  · exact ht
def chain (net : List Int) : List Int := [((minSize net (fullN net) : Nat) : Int), ((fewest net : Nat) : Int), ((minSize net (fullA net) : Nat) : Int), ((maxSize net (apart net) : Nat) : Int), ((maxSize net (least net) : Nat) : Int), ((maxSize net (needs net) : Nat) : Int)]
end Go.Proofs.Ytgocpgkhbamkcaa
/- What drawn nets are. Conditions: those of each theorem. -/
namespace Go.Proofs.Ytgocpgkhbamkcaa
open D Go.RowKit
set_option linter.unusedVariables false
set_option linter.unusedSimpArgs false


/-- A code of bytes. -/
def Bytes (rb : List Int) : Prop := ∀ n ∈ rb, 0 ≤ n ∧ n ≤ 255
theorem Bytes.eli {rb : List Int} (h : Bytes rb) (k : Nat) : 0 ≤ D.eli rb k ∧ D.eli rb k ≤ 255 := by
  by_cases hk : k < rb.length
  · have : D.eli rb k = rb[k] := by simp [D.eli, List.getD, hk]
    rw [this]; exact h _ (List.getElem_mem hk)
  · have : D.eli rb k = 0 := by simp [D.eli, List.getD, List.getElem?_eq_none (by omega : rb.length ≤ k)]
    rw [this]; decide
theorem Bytes.wf {rb : List Int} (h : ∀ n ∈ rb, (Lit.int .u8 n).wf = true) : Bytes rb := fun n hn => by
  have := h n hn
  have e1 : IntKind.u8.min = 0 := by kernel_rfl
  have e2 : IntKind.u8.max = 255 := by kernel_rfl
  simpa [Lit.wf, e1, e2] using this

theorem xor_pos {a b : Int} (ha : 0 ≤ a ∧ a < 9223372036854775808) (hb : 0 ≤ b ∧ b < 9223372036854775808) : 0 ≤ bits .xor .i64 a b := by
  obtain ⟨x, rfl⟩ := Int.eq_ofNat_of_zero_le ha.1
  obtain ⟨y, rfl⟩ := Int.eq_ofNat_of_zero_le hb.1
  rw [i64_xor_nat x y (by omega) (by omega)]
  omega

theorem S.l20Rd_pick_is {rb : List Int} {rp n : Int} (hb : Bytes rb) (hl : rb.length ≤ 2000) (h0 : 0 ≤ rp) (h1 : rp ≤ 1099511627776) :
    ∃ v, S.l20Rd_pick_t rb rp n = some (v, rb, rp + 1) ∧ 0 ≤ v ∧ (1 ≤ n → v < n) := by
  unfold S.l20Rd_pick_t S.l20Rd_pick_tree
  have e1 : IntKind.i64.wrap (rp + 1) = rp + 1 := i64_wrap (by omega) (by omega)
  have e2 : IntKind.i64.wrap (rp + 1 - 1) = rp := by rw [i64_wrap (by omega) (by omega)]; omega
  rw [e1, e2]
  by_cases hn : n < 1
  · rw [cnd_t (by simpa using hn)]; exact ⟨_, rfl, Int.le_refl _, fun h => by omega⟩
  rw [cnd_f (by simpa using hn)]
  by_cases hz : rb.length = 0
  · rw [cnd_t (by simp [hz])]; exact ⟨_, rfl, Int.le_refl _, fun h => by omega⟩
  have hnz : (n == 0) = false := by simp; omega
  have hlz : ((rb.length : Int) == 0) = false := by simp; exact fun h => hz (by simp [h])
  rw [cnd_f hlz]
  have fin : ∀ x : Int, 0 ≤ x → 0 ≤ x.tmod n ∧ (1 ≤ n → x.tmod n < n) := fun x hx => ⟨Int.tmod_nonneg _ hx, fun h => Int.tmod_lt_of_pos _ (by omega)⟩
  by_cases hx : rp < rb.length
  · rw [cnd_t (by simpa using hx), cnd_t (by simp; omega), cnd_f hnz]
    have hv := hb.eli rp.toNat
    rw [i64_wrap (n := D.eli rb rp.toNat) (by omega) (by omega)]
    exact ⟨_, rfl, fin _ hv.1⟩
  · rw [cnd_f (by simpa using hx), cnd_f hlz]
    have hL : 0 < (rb.length : Int) := by omega
    have m1 : 0 ≤ rp.tmod rb.length := Int.tmod_nonneg _ h0
    have m2 : rp.tmod rb.length < rb.length := Int.tmod_lt_of_pos _ hL
    rw [cnd_t (by simp; omega), cnd_f hlz]
    have e3 : IntKind.i64.wrap (IntKind.i64.wrap (rp * 7) + 3) = rp * 7 + 3 := by rw [i64_wrap (n := rp * 7) (by omega) (by omega)]; exact i64_wrap (by omega) (by omega)
    rw [e3]
    have m3 : 0 ≤ (rp * 7 + 3).tmod rb.length := Int.tmod_nonneg _ (by omega)
    have m4 : (rp * 7 + 3).tmod rb.length < rb.length := Int.tmod_lt_of_pos _ hL
    rw [cnd_t (by simp; omega), cnd_f hlz, cnd_f hnz]
    have d1 : 0 ≤ rp.tdiv rb.length := Int.tdiv_nonneg h0 (by omega)
    have d2 : rp.tdiv rb.length ≤ rp := Int.tdiv_le_self _ h0
    have v1 := hb.eli (rp.tmod rb.length).toNat
    have v2 := hb.eli ((rp * 7 + 3).tmod rb.length).toNat
    generalize rp.tdiv rb.length = d at d1 d2
    generalize D.eli rb (rp.tmod rb.length).toNat = b1 at v1
    generalize D.eli rb ((rp * 7 + 3).tmod rb.length).toNat = b2 at v2
    have key : ∀ x : Int, 0 ≤ x → x < 9223372036854775808 → 0 ≤ bits .xor .i64 x (IntKind.i64.wrap (x.tdiv 64)) := fun x hx0 hx1 => by
      have a1 : 0 ≤ x.tdiv 64 := Int.tdiv_nonneg hx0 (by decide)
      have a2 : x.tdiv 64 ≤ x := Int.tdiv_le_self _ hx0
      rw [i64_wrap (by omega) (by omega)]
      exact xor_pos ⟨hx0, hx1⟩ ⟨a1, by omega⟩
    refine ⟨_, rfl, fin _ (key _ ?_ ?_)⟩ <;> simp (disch := omega) only [i64_wrap] <;> omega
theorem cnd_case {α : Type} {P : α → Prop} {b : Bool} {x y : α} (h1 : b = true → P x) (h2 : b = false → P y) : P (bif b then x else y) := by
  cases b with
  | true => exact h1 rfl
  | false => exact h2 rfl
theorem S.l20Net_p8 {α : Type} (P : α → Prop) {x1 x5 x7 x8 x9 rp : Int} {rb r : List Int} {next : Int × (List Int) × Int × (List Int) → α} {out : (List Int) × Int × (List Int) → α} {fail : α}
    (hb : Bytes rb) (hl : rb.length ≤ 2000) (h0 : 0 ≤ rp) (h1 : rp ≤ 1099511627000) (h9 : 0 ≤ x9) (h8 : x8 < r.length) (hr : r.length ≤ 1048576)
    (hleaf : x9 < x8 → ∀ rp' r', rp < rp' → rp' ≤ rp + 2 → r'.length = r.length → P (next (x9 + 1, rb, rp', r')))
    (hout : ¬ x9 < x8 → P (out (rb, rp, r))) : P (S.l20Net_step8 x1 x5 x7 x8 x9 rb rp r next out fail) := by
  unfold S.l20Net_step8
  refine cnd_case (P := P) (fun h => ?_) (fun h => hout (by simpa using h))
  have hlt : x9 < x8 := by simpa using h
  obtain ⟨v, hv, _, _⟩ := S.l20Rd_pick_is (n := 3) hb hl h0 (by omega)
  obtain ⟨v', hv', _, _⟩ := S.l20Rd_pick_is (n := 3) (rp := rp + 1) hb hl (by omega) (by omega)
  rw [hv]
  simp only [optC]
  rw [hv']
  simp only [optC]
  rw [i64_wrap (n := x9 + 1) (by omega) (by omega)]
  repeat' first
    | exact hleaf hlt _ _ (by omega) (by omega) (by simp)
    | rw [cnd_t (by simp; omega)]
    | rw [cnd_f (by simp; omega)]
    | refine cnd_case (P := P) (fun _ => ?_) (fun _ => ?_)
theorem S.l20Net_q8 {x1 x5 x7 x8 rp : Int} {rb r : List Int} (hb : Bytes rb) (hl : rb.length ≤ 2000) (h0 : 0 ≤ rp) (h1 : rp ≤ 1099511620000) (hx : 0 ≤ x8) (h8 : x8 < r.length) (h6 : x8 ≤ 100) (hr : r.length ≤ 1048576) :
    ∃ d, S.l20Net_run8 x1 x5 x7 x8 FUEL (0, rb, rp, r) = some d ∧ d.1 = rb ∧ rp ≤ d.2.1 ∧ d.2.1 ≤ rp + 2 * x8 ∧ d.2.2.length = r.length := by
  refine run_post (run := S.l20Net_run8 x1 x5 x7 x8) (fun s => s.2.1 = rb ∧ 0 ≤ s.1 ∧ s.1 ≤ x8 ∧ rp ≤ s.2.2.1 ∧ s.2.2.1 ≤ rp + 2 * s.1 ∧ s.2.2.2.length = r.length) (fun s => (x8 - s.1).toNat) (fun d => d.1 = rb ∧ rp ≤ d.2.1 ∧ d.2.1 ≤ rp + 2 * x8 ∧ d.2.2.length = r.length) ?_ ?_ ?_
  · rintro n ⟨x9, rb', rp', r'⟩ ⟨i0, i1, i2, i3, i4, i5⟩
    simp only at i0 i1 i2 i3 i4 i5
    subst i0
    refine S.l20Net_p8 (x1 := x1) (x5 := x5) (x7 := x7) (x8 := x8) (x9 := x9) (rp := rp') (rb := rb') (r := r') (next := S.l20Net_run8 x1 x5 x7 x8 n) (out := fun d => some d) (fail := none) (fun t => (∃ d, t = some d ∧ (d.1 = rb' ∧ rp ≤ d.2.1 ∧ d.2.1 ≤ rp + 2 * x8 ∧ d.2.2.length = r.length)) ∨ ∃ s', t = S.l20Net_run8 x1 x5 x7 x8 n s' ∧ (s'.2.1 = rb' ∧ 0 ≤ s'.1 ∧ s'.1 ≤ x8 ∧ rp ≤ s'.2.2.1 ∧ s'.2.2.1 ≤ rp + 2 * s'.1 ∧ s'.2.2.2.length = r.length) ∧ (x8 - s'.1).toNat < (x8 - x9).toNat) hb hl (by omega) (by omega) i1 (by omega) (by omega) (fun hlt rp2 r2 a1 a2 a3 => .inr ⟨_, rfl, ⟨rfl, ?_, ?_, ?_, ?_, ?_⟩, ?_⟩) (fun hge => .inl ⟨_, rfl, rfl, ?_, ?_, ?_⟩) <;> simp only <;> omega
  · exact ⟨rfl, by simp only; omega, by simp only; omega, by simp only; omega, by simp only; omega, rfl⟩
  · simp only; omega
theorem S.l20Net_q5 {x1 x5 x7 rp : Int} {rb r : List Int} (hb : Bytes rb) (hl : rb.length ≤ 2000) (h0 : 0 ≤ rp) (h1 : rp ≤ 1099511600000) (hx : 0 ≤ x5) (h5 : x5 = r.length) (h6 : x5 ≤ 6) :
    ∃ d, S.l20Net_run5 x1 x5 x7 FUEL (0, rb, rp, r) = some d ∧ d.1 = rb ∧ rp ≤ d.2.1 ∧ d.2.1 ≤ rp + 100 ∧ d.2.2.length = r.length := by
  refine run_post (run := S.l20Net_run5 x1 x5 x7) (fun s => s.2.1 = rb ∧ 0 ≤ s.1 ∧ s.1 ≤ x5 ∧ rp ≤ s.2.2.1 ∧ s.2.2.1 ≤ rp + 12 * s.1 ∧ s.2.2.2.length = r.length) (fun s => (x5 - s.1).toNat) (fun d => d.1 = rb ∧ rp ≤ d.2.1 ∧ d.2.1 ≤ rp + 100 ∧ d.2.2.length = r.length) ?_ ?_ ?_
  · rintro n ⟨x8, rb', rp', r'⟩ ⟨i0, i1, i2, i3, i4, i5⟩
    simp only at i0 i1 i2 i3 i4 i5
    subst i0
    simp only [S.l20Net_run5, S.l20Net_step5]
    by_cases hlt : x8 < x5
    · rw [cnd_t (by simpa using hlt)]
      obtain ⟨⟨d1, d2, d3⟩, e1, e2, e3, e4, e5⟩ := S.l20Net_q8 (x1 := x1) (x5 := x5) (x7 := x7) (x8 := x8) (r := r') hb hl (by omega : 0 ≤ rp') (by omega) i1 (by omega) (by omega) (by omega)
      simp only at e2 e3 e4 e5
      rw [e1]
      simp only [optC]
      rw [i64_wrap (n := x8 + 1) (by omega) (by omega)]
      refine .inr ⟨_, rfl, ⟨e2, ?_, ?_, ?_, ?_, ?_⟩, ?_⟩ <;> simp only <;> omega
    · rw [cnd_f (by simpa using hlt)]
      refine .inl ⟨_, rfl, rfl, ?_, ?_, ?_⟩ <;> simp only <;> omega
  · exact ⟨rfl, by simp only; omega, by simp only; omega, by simp only; omega, by simp only; omega, rfl⟩
  · simp only; omega
theorem S.l20Rd_odd_is {rb : List Int} {rp n : Int} (hb : Bytes rb) (hl : rb.length ≤ 2000) (h0 : 0 ≤ rp) (h1 : rp ≤ 1099511627776) :
    ∃ b rp', S.l20Rd_odd_t rb rp n = some (b, rb, rp') ∧ rp ≤ rp' ∧ rp' ≤ rp + 1 := by
  unfold S.l20Rd_odd_t S.l20Rd_odd_tree
  by_cases hn : n > 0
  · rw [cnd_t (by simpa using hn)]
    obtain ⟨v, hv, _, _⟩ := S.l20Rd_pick_is (n := n) hb hl h0 h1
    rw [hv]
    exact ⟨_, rp + 1, rfl, by omega, by omega⟩
  · rw [cnd_f (by simpa using hn)]
    exact ⟨_, rp, rfl, by omega, by omega⟩
theorem S.l20Net_is {rb : List Int} {rp n : Int} (hb : Bytes rb) (hl : rb.length ≤ 2000) (h0 : 0 ≤ rp) (h1 : rp ≤ 1000000) :
    ∃ rp' net, S.l20Net_t rb rp n = some (rb, rp', net) ∧ rp ≤ rp' ∧ rp' ≤ rp + 200 ∧ net.length ≤ 6 := by
  unfold S.l20Net_t
  have gen : ∀ {α : Type} (P : α → Prop) (leaf : (List Int) × Int × (List Int) → α) (fail : α), (∀ rp' net, rp ≤ rp' → rp' ≤ rp + 200 → net.length ≤ 6 → P (leaf (rb, rp', net))) → P (S.l20Net_tree rb rp n leaf fail) := by
    intro α P leaf fail hleaf
    unfold S.l20Net_tree
    obtain ⟨v1, e1, a1, a2⟩ := S.l20Rd_pick_is (n := 6) hb hl h0 (by omega)
    have a2' := a2 (by decide)
    rw [e1]
    simp only [optC]
    rw [i64_wrap (n := 1 + v1) (by omega) (by omega)]
    rw [cnd_t (by simp [small]; omega)]
    obtain ⟨v2, e2, _, _⟩ := S.l20Rd_pick_is (n := 4) (rp := rp + 1) hb hl (by omega) (by omega)
    rw [e2]
    simp only
    obtain ⟨⟨d1, d2, d3⟩, e3, f1, f2, f3, f4⟩ := S.l20Net_q5 (x1 := n) (x5 := 1 + v1) (x7 := v2) (rp := rp + 1 + 1) (r := List.replicate (1 + v1).toNat 0) hb hl (by omega) (by omega) (by omega) (by simp; omega) (by omega)
    simp only at f1 f2 f3 f4
    subst f1
    rw [e3]
    simp only [List.length_replicate] at f4 ⊢
    obtain ⟨b, rp4, e4, g1, g2⟩ := S.l20Rd_odd_is (n := n) (rp := d2) hb hl (by omega) (by omega)
    rw [e4]
    simp only
    obtain ⟨v5, e5, _, _⟩ := S.l20Rd_pick_is (n := 3) (rp := rp4) hb hl (by omega) (by omega)
    rw [e5]
    simp only
    have e6 : IntKind.i64.wrap (1 + v1 - 1) = v1 := by rw [i64_wrap (by omega) (by omega)]; omega
    rw [e6]
    repeat' first
      | exact hleaf _ _ (by omega) (by omega) (by (try simp only [List.length_set, List.length_nil]); omega)
      | rw [cnd_t (by simp; omega)]
      | rw [cnd_f (by simp; omega)]
      | refine cnd_case (P := P) (fun _ => ?_) (fun _ => ?_)
  exact gen (fun t => ∃ rp' net, t = some (rb, rp', net) ∧ rp ≤ rp' ∧ rp' ≤ rp + 200 ∧ net.length ≤ 6) (fun d => some d) none (fun rp' net a b c => ⟨rp', net, rfl, a, b, c⟩)
theorem S.l20Open_is {code : List Int} (hb : Bytes code) : ∃ rb, S.l20Open_t code = some (rb, 0) ∧ Bytes rb ∧ rb.length ≤ 2000 := by
  unfold S.l20Open_t S.l20Open_tree
  by_cases h : (code.length : Int) > 2000
  · rw [cnd_t (by simpa using h), cnd_t (by simp; omega)]
    refine ⟨_, rfl, fun n hn => hb n ?_, ?_⟩
    · exact List.mem_of_mem_drop (List.mem_of_mem_take hn)
    · rw [List.length_take]; exact Nat.min_le_left _ _
  · rw [cnd_f (by simpa using h)]
    exact ⟨_, rfl, hb, by omega⟩
end Go.Proofs.Ytgocpgkhbamkcaa
/- What the draws give: nets of at most six places, sets and places within bounds. Conditions: those of each theorem. -/
namespace Go.Proofs.Ytgocpgkhbamkcaa
open D Go.RowKit
set_option linter.unusedVariables false
set_option linter.unusedSimpArgs false


theorem I.NetOk_12 : I.NetOk_t [2, 1] = some true := by rw [I.NetOk_is]; decide +kernel
theorem I.NetOk_1 : I.NetOk_t [1] = some false := by rw [I.NetOk_is]; decide +kernel
theorem L.alive_is : L.alive_t = some true := by
  unfold L.alive_t L.alive_tree
  rw [I.NetOk_12, I.NetOk_1]
  rfl
theorem tdiv_small {v a : Int} (h0 : 0 ≤ v) (h1 : v ≤ a) : v.tdiv a = 0 ∨ v.tdiv a = 1 := by
  have ha : 0 ≤ a := by omega
  rw [Int.tdiv_eq_ediv_of_nonneg h0]
  rcases Int.lt_or_eq_of_le h1 with h | h
  · exact .inl (Int.ediv_eq_zero_of_lt h0 h)
  · subst h
    by_cases hz : v = 0
    · subst hz; exact .inl rfl
    · exact .inr (Int.ediv_self hz)
theorem pow_le_64i {n : Nat} (h : n ≤ 6) : ((2 ^ n : Nat) : Int) ≤ 64 := by have := pow_le_64 h; omega
theorem len_shl {net : List Int} (h : net.length ≤ 6) : IntKind.i64.wrap (1 * 2 ^ min (↑net.length : Int).toNat IntKind.i64.bits) = ((2 ^ net.length : Nat) : Int) := one_shl (by omega)
theorem S.l20Set_is {rb : List Int} {rp n : Int} (hb : Bytes rb) (hl : rb.length ≤ 2000) (h0 : 0 ≤ rp) (h1 : rp ≤ 1000000) :
    ∃ rp' net v, S.l20Set_t rb rp n = some (v, rb, rp', net) ∧ rp ≤ rp' ∧ rp' ≤ rp + 300 ∧ net.length ≤ 6 ∧ 0 ≤ v ∧ v < 128 := by
  unfold S.l20Set_t S.l20Set_tree
  obtain ⟨rp1, net, e1, a1, a2, a3⟩ := S.l20Net_is (n := n) hb hl h0 h1
  rw [e1]
  simp only [optC]
  rw [len_shl a3]
  have hp := pow_le_64i a3
  obtain ⟨v, e2, b1, b2⟩ := S.l20Rd_pick_is (rp := rp1) (n := ((2 ^ net.length : Nat) : Int)) hb hl (by omega) (by omega)
  have b2' := b2 (by have : 0 < 2 ^ net.length := Nat.two_pow_pos _; omega)
  rw [e2]
  simp only
  obtain ⟨u, e3, c1, c2⟩ := S.l20Rd_pick_is (rp := rp1 + 1) (n := 40) hb hl (by omega) (by omega)
  have c2' := c2 (by decide)
  rw [e3]
  simp only
  rcases tdiv_small (v := u) (a := 39) c1 (by omega) with h | h
  · rw [h]
    refine ⟨_, _, _, rfl, by omega, by omega, a3, ?_⟩
    rw [i64_wrap (n := 0) (by decide) (by decide), i64_wrap (n := 0 * 64) (by decide) (by decide), i64_wrap (by omega) (by omega)]
    omega
  · rw [h]
    refine ⟨_, _, _, rfl, by omega, by omega, a3, ?_⟩
    rw [i64_wrap (n := 1) (by decide) (by decide), i64_wrap (n := 1 * 64) (by decide) (by decide), i64_wrap (by omega) (by omega)]
    omega
/-! ### The draws of the laws -/
end Go.Proofs.Ytgocpgkhbamkcaa
/- Draws that use watches; lists of all numbers of a kind. Conditions: those of each theorem. -/
namespace Go.Proofs.Ytgocpgkhbamkcaa
open D Go.RowKit
set_option linter.unusedVariables false
set_option linter.unusedSimpArgs false


theorem listOfN_succ (N : Nat) (p : Nat → Bool) : listOfN (N + 1) p = if p N = true then listOfN N p ++ [(N : Int)] else listOfN N p := by unfold listOfN; rw [fold_succ]
theorem listOfN_mem (N : Nat) (p : Nat → Bool) (x : Int) : x ∈ listOfN N p ↔ ∃ s : Nat, s < N ∧ p s = true ∧ x = s := by
  induction N with
  | zero => simp [listOfN, fold_zero]
  | succ N ih =>
    rw [listOfN_succ]
    split
    · rename_i hp
      rw [List.mem_append, ih, List.mem_singleton]
      constructor
      · rintro (⟨s, a, b, c⟩ | rfl)
        · exact ⟨s, by omega, b, c⟩
        · exact ⟨N, by omega, hp, rfl⟩
      · rintro ⟨s, a, b, c⟩
        by_cases hs : s = N
        · subst hs; exact .inr c
        · exact .inl ⟨s, by omega, b, c⟩
    · rename_i hp
      rw [ih]
      constructor
      · rintro ⟨s, a, b, c⟩; exact ⟨s, by omega, b, c⟩
      · rintro ⟨s, a, b, c⟩
        by_cases hs : s = N
        · subst hs; exact absurd b hp
        · exact ⟨s, by omega, b, c⟩
theorem eli_mem {l : List Int} {k : Nat} (hk : k < l.length) : D.eli l k ∈ l := by
  unfold D.eli
  simp [List.getD, hk]
theorem mem_eli {l : List Int} {x : Int} (h : x ∈ l) : ∃ k, k < l.length ∧ D.eli l k = x := by
  obtain ⟨k, hk, he⟩ := List.getElem_of_mem h
  exact ⟨k, hk, by unfold D.eli; simp [List.getD, hk, he]⟩
theorem listOfN_eli {N : Nat} {p : Nat → Bool} {k : Nat} (hk : k < (listOfN N p).length) : ∃ s : Nat, s < N ∧ p s = true ∧ D.eli (listOfN N p) k = s := (listOfN_mem N p _).1 (eli_mem hk)
theorem eli_append {l r : List Int} {k : Nat} : D.eli (l ++ r) k = if k < l.length then D.eli l k else D.eli r (k - l.length) := by
  unfold D.eli
  by_cases h : k < l.length
  · simp [List.getD, List.getElem?_append_left h, h]
  · simp [List.getD, List.getElem?_append_right (by omega : l.length ≤ k), h]
theorem listOfN_asc {N : Nat} {p : Nat → Bool} {j k : Nat} (hjk : j < k) (hk : k < (listOfN N p).length) : D.eli (listOfN N p) j < D.eli (listOfN N p) k := by
  induction N with
  | zero => simp [listOfN, fold_zero] at hk
  | succ N ih =>
    rw [listOfN_succ] at hk ⊢
    split at hk
    · rename_i hp
      rw [if_pos hp, eli_append, eli_append]
      rw [List.length_append, List.length_singleton] at hk
      by_cases hkl : k < (listOfN N p).length
      · rw [if_pos hkl, if_pos (by omega)]; exact ih hkl
      · rw [if_neg hkl, if_pos (by omega)]
        obtain ⟨s, hs, _, he⟩ := listOfN_eli (N := N) (p := p) (k := j) (by omega)
        rw [he, show k - (listOfN N p).length = 0 by omega]
        show (s : Int) < (N : Int)
        omega
    · rename_i hp
      rw [if_neg hp]; exact ih hk
theorem leasts_pos {net : List Int} (h : Ok net) : 0 < (listOfN (2 ^ net.length) (least net)).length := by
  obtain ⟨t, ht, _, hl, _⟩ := least_in h 6 (allOf net) (size_le _) (allOf_lt net) (W_all h)
  exact List.length_pos_of_mem ((listOfN_mem _ _ (t : Int)).2 ⟨t, ht, hl, rfl⟩)
end Go.Proofs.Ytgocpgkhbamkcaa
/- The model's functions of chapter 7 in natural numbers. Conditions: those of each theorem. -/
namespace Go.Proofs.Ytgocpgkhbamkcaa
open D Go.RowKit
set_option linter.unusedVariables false
set_option linter.unusedSimpArgs false


/-- The number at a place of a row. -/
def rv (row : List Int) (k : Nat) : Nat := (D.eli row k).toNat
def rowB (n : Nat) (row : List Int) : Bool := decide (row.length = n) && (List.range row.length).all fun k => decide (0 ≤ D.eli row k ∧ D.eli row k ≤ 2)
structure RowIs (n : Nat) (row : List Int) : Prop where
  len : row.length = n
  eq : ∀ k, k < n → D.eli row k = (rv row k : Int)
  le : ∀ k, k < n → rv row k ≤ 2
theorem rowB_iff {n : Nat} {row : List Int} : rowB n row = true ↔ RowIs n row := by
  unfold rowB
  rw [Bool.and_eq_true, decide_eq_true_eq, List.all_eq_true]
  simp only [List.mem_range, decide_eq_true_eq]
  constructor
  · rintro ⟨a, b⟩
    refine ⟨a, fun k hk => ?_, fun k hk => ?_⟩
    · have := b k (by omega); show _ = ((D.eli row k).toNat : Int); omega
    · have := b k (by omega); show (D.eli row k).toNat ≤ 2; omega
  · intro h
    refine ⟨h.len, fun k hk => ?_⟩
    have h1 := h.eq k (by rw [← h.len]; exact hk)
    have h2 := h.le k (by rw [← h.len]; exact hk)
    omega
theorem help_le {net : List Int} {r : Nat → Nat} (hb : ∀ k, k < net.length → r k ≤ 2) (k m : Nat) (hm : m ≤ net.length) : sumN m (fun j => ((nb net k).testBit j).toNat * r j) ≤ 2 * m := by
  have := sumN_le (n := m) (f := fun j => ((nb net k).testBit j).toNat * r j) (g := fun _ => 2) (fun j hj => by
    have := hb j (by omega)
    cases (nb net k).testBit j <;> simp <;> omega)
  rw [sumN_const] at this; omega
def romanB (net row : List Int) : Bool := (List.range net.length).all fun k => !(rv row k == 0 && (nb net k &&& withN net.length (rv row) 2) == 0)
def italianB (net row : List Int) : Bool := (List.range net.length).all fun k => !(rv row k == 0 && decide (help net (rv row) k < 2))
theorem romanB_iff {net row : List Int} : romanB net row = true ↔ RomanP net (rv row) := by
  unfold romanB
  rw [List.all_eq_true]
  simp only [List.mem_range, Bool.not_eq_true', Bool.and_eq_false_imp, beq_iff_eq]
  constructor
  · intro ha k hk h0
    have h1 := ha k hk h0
    have hne : (nb net k &&& withN net.length (rv row) 2) ≠ 0 := fun he => by rw [he] at h1; cases h1
    obtain ⟨j, hj⟩ := pos_iff.1 hne
    rw [Nat.testBit_and, Bool.and_eq_true, withN_testBit] at hj
    exact ⟨j, hj.2.1, hj.1, hj.2.2⟩
  · intro ha k hk h0
    obtain ⟨j, hj, a, b⟩ := ha k hk h0
    have : (nb net k &&& withN net.length (rv row) 2) ≠ 0 := pos_iff.2 ⟨j, by rw [Nat.testBit_and, a, (withN_testBit _ _ _ _).2 ⟨hj, b⟩]; rfl⟩
    simpa using this
theorem italianB_iff {net row : List Int} : italianB net row = true ↔ ItalianP net (rv row) := by
  unfold italianB
  rw [List.all_eq_true]
  simp only [List.mem_range, Bool.not_eq_true', Bool.and_eq_false_imp, beq_iff_eq, decide_eq_false_iff_not]
  constructor
  · intro ha k hk h0; have := ha k hk h0; omega
  · intro ha k hk h0; have := ha k hk h0; omega
/-- The row of the digits of a number. -/
def digs (n m : Nat) : List Int := (List.range n).map fun k => ((dig n m k : Nat) : Int)
theorem digs_len (n m : Nat) : (digs n m).length = n := by simp [digs]
theorem digs_eli {n m k : Nat} (hk : k < n) : D.eli (digs n m) k = ((dig n m k : Nat) : Int) := by unfold D.eli digs; simp [List.getD, hk]
theorem digs_row (n m : Nat) : RowIs n (digs n m) := by
  refine ⟨digs_len n m, fun k hk => ?_, fun k hk => ?_⟩
  · show _ = ((D.eli (digs n m) k).toNat : Int); rw [digs_eli hk]; omega
  · show (D.eli (digs n m) k).toNat ≤ 2; rw [digs_eli hk]; have := dig_lt n m k; omega
theorem digs_rv {n m k : Nat} (hk : k < n) : rv (digs n m) k = dig n m k := by show (D.eli (digs n m) k).toNat = _; rw [digs_eli hk]; omega
theorem pow3_le {n : Nat} (hn : n ≤ 6) : 3 ^ n ≤ 729 := by
  have : (3 : Nat) ^ n ≤ 3 ^ 6 := Nat.pow_le_pow_right (by omega) hn
  omega
/-- The first least row of a kind, and the least sum. -/
def rowStep (n : Nat) (p : List Int → Bool) (best : List Int) (m : Nat) : List Int := if p (digs n m) = true ∧ (best.length = 0 ∨ sumN n (rv (digs n m)) < sumN n (rv best)) then digs n m else best
def bestRow (n : Nat) (p : List Int → Bool) : List Int := fold (3 ^ n) (rowStep n p) []
theorem bestRow_fold {n : Nat} (h1 : 1 ≤ n) (p : List Int → Bool) (N : Nat) : (fold N (rowStep n p) [] = [] ∧ ∀ m, m < N → p (digs n m) = false) ∨
    ∃ b, b < N ∧ fold N (rowStep n p) [] = digs n b ∧ p (digs n b) = true ∧ (∀ m, m < N → p (digs n m) = true → sumN n (rv (digs n b)) ≤ sumN n (rv (digs n m))) ∧ ∀ m, m < b → p (digs n m) = true → sumN n (rv (digs n b)) < sumN n (rv (digs n m)) := by
  induction N with
  | zero => exact .inl ⟨rfl, fun m hm => by omega⟩
  | succ N ih =>
    rw [fold_succ]
    generalize fold N (rowStep n p) [] = g at ih ⊢
    unfold rowStep
    cases hp : p (digs n N) with
    | false =>
      rw [if_neg (fun hc => by cases hc.1)]
      rcases ih with ⟨a, b⟩ | ⟨b, b1, b2, b3, b4, b5⟩
      · exact .inl ⟨a, fun m hm => by
          by_cases he : m = N
          · rw [he]; exact hp
          · exact b m (by omega)⟩
      · exact .inr ⟨b, by omega, b2, b3, fun m hm hpm => by
          by_cases he : m = N
          · rw [he, hp] at hpm; cases hpm
          · exact b4 m (by omega) hpm, b5⟩
    | true =>
      right
      rcases ih with ⟨a, b⟩ | ⟨b, b1, b2, b3, b4, b5⟩
      · rw [a, if_pos ⟨rfl, .inl rfl⟩]
        refine ⟨N, by omega, rfl, hp, fun m hm hpm => ?_, fun m hm hpm => ?_⟩
        · by_cases he : m = N
          · rw [he]; exact Nat.le_refl _
          · rw [b m (by omega)] at hpm; cases hpm
        · rw [b m hm] at hpm; cases hpm
      · by_cases hlt : sumN n (rv (digs n N)) < sumN n (rv (digs n b))
        · rw [b2, if_pos ⟨rfl, .inr hlt⟩]
          refine ⟨N, by omega, rfl, hp, fun m hm hpm => ?_, fun m hm hpm => ?_⟩
          · by_cases he : m = N
            · rw [he]; exact Nat.le_refl _
            · have := b4 m (by omega) hpm; omega
          · have := b4 m hm hpm; omega
        · rw [b2, if_neg (fun hc => by
            rcases hc.2 with hx | hx
            · rw [digs_len] at hx; omega
            · exact hlt hx)]
          refine ⟨b, by omega, rfl, b3, fun m hm hpm => ?_, b5⟩
          by_cases he : m = N
          · rw [he]; omega
          · exact b4 m (by omega) hpm
theorem ones_digs {n : Nat} : ∃ m, m < 3 ^ n ∧ ∀ k, k < n → dig n m k = 1 := dig_all (r := fun _ => 1) (fun k _ => by omega)
theorem roman_congr {net : List Int} {r q : Nat → Nat} (h : ∀ k, k < net.length → r k = q k) (hr : RomanP net r) : RomanP net q := fun k hk h0 => by
  obtain ⟨j, hj, a, b⟩ := hr k hk (by rw [h k hk]; exact h0)
  exact ⟨j, hj, a, by rw [← h j hj]; exact b⟩
/-- The least Roman row. -/
structure FirstRoman (net : List Int) (b : Nat) : Prop where
  lt : b < 3 ^ net.length
  roman : RomanP net (dig net.length b)
  le : ∀ m, m < 3 ^ net.length → RomanP net (dig net.length m) → sumN net.length (dig net.length b) ≤ sumN net.length (dig net.length m)
  first : ∀ m, m < b → RomanP net (dig net.length m) → sumN net.length (dig net.length b) < sumN net.length (dig net.length m)
theorem FirstRoman.uniq {net : List Int} {a b : Nat} (ha : FirstRoman net a) (hb : FirstRoman net b) : a = b := by
  have h1 := ha.le b hb.lt hb.roman
  have h2 := hb.le a ha.lt ha.roman
  rcases Nat.lt_trichotomy a b with hl | hl | hl
  · have := hb.first a hl ha.roman; omega
  · exact hl
  · have := ha.first b hl hb.roman; omega
theorem FirstRoman.min {net : List Int} {b : Nat} (hb : FirstRoman net b) : MinRow net.length (RomanP net) (sumN net.length (dig net.length b)) := by
  refine ⟨⟨dig net.length b, fun k _ => dig_lt _ _ _, hb.roman, rfl⟩, fun r hr hR => ?_⟩
  obtain ⟨m, hm, hd⟩ := dig_all hr
  have h1 := hb.le m hm (roman_congr (fun k hk => (hd k hk).symm) hR)
  rw [sumN_congr (f := dig net.length m) hd] at h1
  exact h1
theorem bestRow_roman {net : List Int} (h : Ok net) : ∃ b, bestRow net.length (romanB net) = digs net.length b ∧ FirstRoman net b := by
  have e : ∀ m, romanB net (digs net.length m) = true ↔ RomanP net (dig net.length m) := fun m => by
    rw [romanB_iff]
    exact ⟨roman_congr fun k hk => digs_rv hk, roman_congr fun k hk => (digs_rv hk).symm⟩
  have es : ∀ m, sumN net.length (rv (digs net.length m)) = sumN net.length (dig net.length m) := fun m => sumN_congr fun k hk => digs_rv hk
  rcases bestRow_fold h.lo (romanB net) (3 ^ net.length) with ⟨_, hno⟩ | ⟨b, b1, b2, b3, b4, b5⟩
  · obtain ⟨m, hm, hd⟩ := ones_digs (n := net.length)
    have := hno m hm
    rw [(e m).2 (roman_congr (fun k hk => (hd k hk).symm) ones_row.1)] at this; cases this
  · refine ⟨b, b2, b1, (e b).1 b3, fun m hm hR => ?_, fun m hm hR => ?_⟩
    · have := b4 m hm ((e m).2 hR); rw [es, es] at this; exact this
    · have := b5 m hm ((e m).2 hR); rw [es, es] at this; exact this
def fewestRoman (net : List Int) : Nat := sumN net.length (rv (bestRow net.length (romanB net)))
theorem fewestRoman_min {net : List Int} (h : Ok net) : MinRow net.length (RomanP net) (fewestRoman net) := by
  obtain ⟨b, e, hb⟩ := bestRow_roman h
  have := hb.min
  unfold fewestRoman
  rw [e, sumN_congr (f := rv (digs net.length b)) (g := dig net.length b) (fun k hk => digs_rv hk)]
  exact this
def fewestItalian (net : List Int) : Nat := fold (3 ^ net.length) (fun t m => if italianB net (digs net.length m) = true then (if sumN net.length (rv (digs net.length m)) < t then sumN net.length (rv (digs net.length m)) else t) else t) net.length
theorem italian_congr {net : List Int} {r q : Nat → Nat} (h : ∀ k, k < net.length → r k = q k) (hr : ItalianP net r) : ItalianP net q := fun k hk h0 => by
  have := hr k hk (by rw [h k hk]; exact h0)
  unfold help at this ⊢
  rw [sumN_congr (g := fun j => ((nb net k).testBit j).toNat * q j) (fun j hj => by rw [h j hj])] at this
  exact this
theorem fewestItalian_min {net : List Int} (h : Ok net) : MinRow net.length (ItalianP net) (fewestItalian net) := by
  have e : ∀ m, italianB net (digs net.length m) = true ↔ ItalianP net (dig net.length m) := fun m => by
    rw [italianB_iff]
    exact ⟨italian_congr fun k hk => digs_rv hk, italian_congr fun k hk => (digs_rv hk).symm⟩
  have es : ∀ m, sumN net.length (rv (digs net.length m)) = sumN net.length (dig net.length m) := fun m => sumN_congr fun k hk => digs_rv hk
  obtain ⟨h1, h2, h3⟩ := minFold (N := 3 ^ net.length) (p := fun m => italianB net (digs net.length m)) (f := fun m => sumN net.length (rv (digs net.length m))) net.length
  obtain ⟨o, ho, hd⟩ := ones_digs (n := net.length)
  have hone : italianB net (digs net.length o) = true := (e o).2 (italian_congr (fun k hk => (hd k hk).symm) (roman_italian ones_row.1))
  have hos : sumN net.length (rv (digs net.length o)) = net.length := by rw [es, sumN_congr (g := fun _ => 1) hd, sumN_const]; omega
  refine ⟨?_, fun r hr hR => ?_⟩
  · have hcase : ∃ m, m < 3 ^ net.length ∧ italianB net (digs net.length m) = true ∧ sumN net.length (rv (digs net.length m)) = fewestItalian net := by
      rcases h3 with h3 | h3
      · exact ⟨o, ho, hone, by rw [hos]; exact h3.symm⟩
      · exact h3
    obtain ⟨m, hm, hp, hs⟩ := hcase
    exact ⟨dig net.length m, fun k _ => dig_lt _ _ _, (e m).1 hp, by rw [← es]; exact hs⟩
  · obtain ⟨m, hm, hd2⟩ := dig_all hr
    have := h1 m hm ((e m).2 (italian_congr (fun k hk => (hd2 k hk).symm) hR))
    rw [es, sumN_congr hd2] at this
    exact this
theorem sum_le12 {n m : Nat} (hn : n ≤ 6) : sumN n (rv (digs n m)) ≤ 12 := by
  have := sumN_le (n := n) (f := rv (digs n m)) (g := fun _ => 2) (fun k hk => (digs_row n m).le k hk)
  rw [sumN_const] at this; omega
/-- The row of a set. -/
def rowOf (net : List Int) (s : Nat) : List Int := fold net.length (fun l k => l ++ [((rowOfN net s k : Nat) : Int)]) []
def rowOfI (net : List Int) (s : Int) : List Int := if 0 ≤ s ∧ s < 2 ^ net.length then rowOf net s.toNat else []
theorem fold_app_len {n : Nat} {f : Nat → Int} : (fold n (fun l k => l ++ [f k]) []).length = n := by
  induction n with
  | zero => rfl
  | succ n ih => rw [fold_succ, List.length_append, ih]; rfl
theorem fold_app_eli {n k : Nat} {f : Nat → Int} (hk : k < n) : D.eli (fold n (fun l k => l ++ [f k]) []) k = f k := by
  induction n with
  | zero => omega
  | succ n ih =>
    rw [fold_succ, eli_append, fold_app_len]
    by_cases hkn : k < n
    · rw [if_pos hkn]; exact ih hkn
    · rw [if_neg hkn, show k - n = 0 by omega, show k = n by omega]; rfl
end Go.Proofs.Ytgocpgkhbamkcaa
/- The model's functions of chapter 8 in natural numbers. Conditions: those of each theorem. -/
namespace Go.Proofs.Ytgocpgkhbamkcaa
open D Go.RowKit
set_option linter.unusedVariables false
set_option linter.unusedSimpArgs false


theorem find_testT {n : Nat} {p : Nat → Bool} : find n (fun k => if p k = true then some true else none) = if ((List.range n).any p) = true then some true else none := by
  have key := find_any (n := n) (f := fun k => if p k = true then some true else none) (c := p) (fun k hk => rfl)
  cases hany : (List.range n).any p with
  | false =>
    rw [if_neg (by simp), find_none]
    intro j hj
    rw [List.any_eq_false] at hany
    exact if_neg (hany j (List.mem_range.2 hj))
  | true =>
    rw [if_pos rfl]
    rw [List.any_eq_true] at hany
    obtain ⟨k, hk, hp⟩ := hany
    have := key.2 ⟨k, List.mem_range.1 hk, hp⟩
    cases hf : find n (fun k => if p k = true then some true else none) with
    | none => rw [hf] at this; cases this
    | some b => rw [hf] at this; cases b with
      | true => rfl
      | false => cases this
theorem S.l8Moved_n {s f t : Nat} (hs : s < 64) (hf : f < 6) (ht : t < 6) (hb : s.testBit f = true) : S.l8Moved_t (s : Int) (f : Int) (t : Int) = some ((moved s f t : Nat) : Int) := by
  unfold S.l8Moved_t S.l8Moved_tree
  have h1 : 2 ^ f < 2 ^ 6 := Nat.pow_lt_pow_right (by omega) hf
  have h2 : 2 ^ t < 2 ^ 6 := Nat.pow_lt_pow_right (by omega) ht
  rw [cnd_f (by simp), cnd_f (by simp), one_shl (by omega), one_shl (by omega), i64_andNot_nat _ _ (by omega) (by omega), minus_pow hs hf hb, i64_or_nat _ _ (Nat.lt_of_le_of_lt (Nat.sub_le _ _) (by omega)) (by omega)]
  rfl
/-- Can a guard come? -/
def canB (net : List Int) (s t : Nat) : Bool := (List.range net.length).any fun f => s.testBit f && ((nb net t).testBit f && W net (moved s f t))
theorem canB_iff {net : List Int} (h : Ok net) {s t : Nat} (hs : s < 2 ^ net.length) (ht : t < net.length) : canB net s t = true ↔ Can net s t := by
  unfold canB Can
  rw [List.any_eq_true]
  simp only [List.mem_range, Bool.and_eq_true]
  exact ⟨fun ⟨f, _, a, b, c⟩ => ⟨f, a, b, c⟩, fun ⟨f, a, b, c⟩ => ⟨f, in_lt hs a, a, b, c⟩⟩
def secureB (net : List Int) (s : Nat) : Bool := W net s && (List.range net.length).all fun k => !(!s.testBit k && !canB net s k)
theorem secureB_iff {net : List Int} (h : Ok net) {s : Nat} (hs : s < 2 ^ net.length) : secureB net s = true ↔ Secure net s := by
  unfold secureB Secure
  rw [Bool.and_eq_true, List.all_eq_true]
  simp only [List.mem_range]
  refine and_congr Iff.rfl ⟨fun a k hk hb => ?_, fun a k hk => ?_⟩
  · have := a k hk
    rw [hb] at this
    refine (canB_iff h hs hk).1 ?_
    cases hc : canB net s k with
    | true => rfl
    | false => rw [hc] at this; cases this
  · cases hb : s.testBit k with
    | true => rfl
    | false => rw [(canB_iff h hs hk).2 (a k hk hb)]; rfl
def fewestSecure (net : List Int) : Nat := minSize net (secureB net)
theorem fewestSecure_min {net : List Int} (h : Ok net) : MinOf net (secureB net) (fewestSecure net) := minSize_is h ⟨allOf net, allOf_lt net, (secureB_iff h (allOf_lt net)).2 (secure_all h)⟩
theorem eli_set8 {l : List Int} {k j : Nat} {v : Int} (hk : k < l.length) : D.eli (l.set k v) j = if j = k then v else D.eli l j := by
  unfold D.eli
  by_cases hj : j = k
  · subst hj; simp [List.getD, hk]
  · rw [if_neg hj]
    simp [List.getD, List.getElem?_set_ne (fun e => hj e.symm)]
theorem withN_same {n m : Nat} {r q : Nat → Nat} (h : ∀ k, k < n → r k = q k) : withN n r m = withN n q m := by
  apply Nat.eq_of_testBit_eq
  intro j
  rw [Bool.eq_iff_iff, withN_testBit, withN_testBit]
  constructor
  · rintro ⟨a, b⟩; exact ⟨a, by rw [← h j a]; exact b⟩
  · rintro ⟨a, b⟩; exact ⟨a, by rw [h j a]; exact b⟩
theorem leave_row {n : Nat} {row : List Int} (hr : RowIs n row) {f p : Nat} (hf : f < n) (hp : p < n) (h1 : 1 ≤ rv row f) :
    RowIs n ((row.set f ((rv row f : Int) - 1)).set p 1) ∧ ∀ j, j < n → rv ((row.set f ((rv row f : Int) - 1)).set p 1) j = leave (rv row) f p j := by
  have hl := hr.len
  have he : ∀ j, j < n → D.eli ((row.set f ((rv row f : Int) - 1)).set p 1) j = ((leave (rv row) f p j : Nat) : Int) := fun j hj => by
    rw [eli_set8 (by simp; omega)]
    unfold leave
    by_cases hjp : j = p
    · rw [if_pos hjp, if_pos hjp]; rfl
    · rw [if_neg hjp, if_neg hjp, eli_set8 (by omega)]
      by_cases hjf : j = f
      · rw [if_pos hjf, if_pos hjf]; omega
      · rw [if_neg hjf, if_neg hjf]; exact hr.eq j hj
  have hv : ∀ j, j < n → rv ((row.set f ((rv row f : Int) - 1)).set p 1) j = leave (rv row) f p j := fun j hj => by
    show (D.eli _ j).toNat = _
    rw [he j hj]; omega
  refine ⟨⟨by simp [hl], fun j hj => by rw [hv j hj]; exact he j hj, fun j hj => ?_⟩, hv⟩
  rw [hv j hj]
  unfold leave
  have := hr.le f hf
  have := hr.le j hj
  split
  · omega
  · split <;> omega
def leaveB (net : List Int) (r : Nat → Nat) (p : Nat) : Bool := (List.range net.length).any fun f => decide (1 ≤ r f) && ((nb net p).testBit f && W net (withN net.length (leave r f p) 1))
def weakB (net row : List Int) : Bool := (List.range net.length).all fun k => !(rv row k == 0 && !leaveB net (rv row) k)
theorem leaveB_iff {net : List Int} {r : Nat → Nat} {p : Nat} : leaveB net r p = true ↔ ∃ f, f < net.length ∧ 1 ≤ r f ∧ (nb net p).testBit f = true ∧ W net (withN net.length (leave r f p) 1) = true := by
  unfold leaveB
  rw [List.any_eq_true]
  simp only [List.mem_range, Bool.and_eq_true, decide_eq_true_eq]
theorem weakB_iff {net row : List Int} : weakB net row = true ↔ WeakP net (rv row) := by
  unfold weakB WeakP
  rw [List.all_eq_true]
  simp only [List.mem_range]
  refine ⟨fun a k hk h0 => ?_, fun a k hk => ?_⟩
  · have := a k hk
    rw [h0] at this
    refine leaveB_iff.1 ?_
    cases hc : leaveB net (rv row) k with
    | true => rfl
    | false => rw [hc] at this; cases this
  · cases h0 : rv row k == 0 with
    | false => rfl
    | true => rw [leaveB_iff.2 (a k hk (by simpa using h0))]; rfl
def fewestWeak (net : List Int) : Nat := fold (3 ^ net.length) (fun t m => if weakB net (digs net.length m) = true then (if sumN net.length (rv (digs net.length m)) < t then sumN net.length (rv (digs net.length m)) else t) else t) net.length
theorem weak_congr {net : List Int} {r q : Nat → Nat} (h : ∀ k, k < net.length → r k = q k) (hr : WeakP net r) : WeakP net q := fun k hk h0 => by
  obtain ⟨f, a, b, c, d⟩ := hr k hk (by rw [h k hk]; exact h0)
  refine ⟨f, a, by rw [← h f a]; exact b, c, ?_⟩
  rw [← withN_same (r := leave r f k) (q := leave q f k) (fun j hj => by unfold leave; rw [h f a, h j hj])]
  exact d
theorem fewestWeak_min {net : List Int} (h : Ok net) : MinRow net.length (WeakP net) (fewestWeak net) := by
  have e : ∀ m, weakB net (digs net.length m) = true ↔ WeakP net (dig net.length m) := fun m => by
    rw [weakB_iff]
    exact ⟨weak_congr fun k hk => digs_rv hk, weak_congr fun k hk => (digs_rv hk).symm⟩
  have es : ∀ m, sumN net.length (rv (digs net.length m)) = sumN net.length (dig net.length m) := fun m => sumN_congr fun k hk => digs_rv hk
  obtain ⟨h1, h2, h3⟩ := minFold (N := 3 ^ net.length) (p := fun m => weakB net (digs net.length m)) (f := fun m => sumN net.length (rv (digs net.length m))) net.length
  obtain ⟨o, ho, hd⟩ := ones_digs (n := net.length)
  have hone : weakB net (digs net.length o) = true := (e o).2 (weak_congr (fun k hk => (hd k hk).symm) (roman_weak h ones_row.1))
  have hos : sumN net.length (rv (digs net.length o)) = net.length := by rw [es, sumN_congr (g := fun _ => 1) hd, sumN_const]; omega
  refine ⟨?_, fun r hr hR => ?_⟩
  · have hcase : ∃ m, m < 3 ^ net.length ∧ weakB net (digs net.length m) = true ∧ sumN net.length (rv (digs net.length m)) = fewestWeak net := by
      rcases h3 with h3 | h3
      · exact ⟨o, ho, hone, by rw [hos]; exact h3.symm⟩
      · exact h3
    obtain ⟨m, hm, hp, hs⟩ := hcase
    exact ⟨dig net.length m, fun k _ => dig_lt _ _ _, (e m).1 hp, by rw [← es]; exact hs⟩
  · obtain ⟨m, hm, hd2⟩ := dig_all hr
    have := h1 m hm ((e m).2 (weak_congr (fun k hk => (hd2 k hk).symm) hR))
    rw [es, sumN_congr hd2] at this
    exact this
end Go.Proofs.Ytgocpgkhbamkcaa
/- Guards that answer for ever, one at a time: plain facts. Conditions: those of each theorem. -/
namespace Go.Proofs.Ytgocpgkhbamkcaa
set_option linter.unusedVariables false
set_option linter.unusedSimpArgs false

/-- A family of sets that can answer each place by one move, and be in the family again. -/
def Closed1 (net : List Int) (F : Nat → Prop) : Prop := ∀ t, t < 2 ^ net.length → F t → ∀ k, k < net.length → t.testBit k = false → ∃ f, t.testBit f = true ∧ (nb net k).testBit f = true ∧ F (moved t f k)
def Eternal (net : List Int) (s : Nat) : Prop := ∃ F, Closed1 net F ∧ F s
theorem eternal_closed (net : List Int) : Closed1 net (Eternal net) := fun t ht ⟨F, hF, hFt⟩ k hk hb => by
  obtain ⟨f, a, b, c⟩ := hF t ht hFt k hk hb
  exact ⟨f, a, b, F, hF, c⟩
theorem eternal_watch {net : List Int} (h : Ok net) {s : Nat} (hs : s < 2 ^ net.length) (he : Eternal net s) : W net s = true := by
  refine (W_iff h hs).2 fun j hj => (seen_iff h s hj).2 ?_
  cases hb : s.testBit j with
  | true => exact .inl rfl
  | false =>
    obtain ⟨f, a, b, _⟩ := eternal_closed net s hs he j hj hb
    exact .inr ⟨f, in_lt hs a, a, b⟩
/-- Eternal sets are secure. -/
theorem eternal_secure {net : List Int} (h : Ok net) {s : Nat} (hs : s < 2 ^ net.length) (he : Eternal net s) : Secure net s := by
  refine ⟨eternal_watch h hs he, fun k hk hb => ?_⟩
  obtain ⟨f, a, b, c⟩ := eternal_closed net s hs he k hk hb
  exact ⟨f, a, b, eternal_watch h (moved_lt hs hk) c⟩
/-- More guards are eternal, too. -/
theorem eternal_mono {net : List Int} (h : Ok net) {s t : Nat} (hs : s < 2 ^ net.length) (hst : ∀ j, s.testBit j = true → t.testBit j = true) (he : Eternal net s) : Eternal net t := by
  have h6 := h.hi
  refine ⟨fun q => ∃ p, p < 2 ^ net.length ∧ (∀ j, p.testBit j = true → q.testBit j = true) ∧ Eternal net p, fun q hq ⟨p, hp, hpq, hpe⟩ k hk hb => ?_, s, hs, hst, he⟩
  have hpk : p.testBit k = false := not_true fun hc => by rw [hpq k hc] at hb; cases hb
  obtain ⟨f, a, b, c⟩ := eternal_closed net p hp hpe k hk hpk
  have hfl := in_lt hp a
  refine ⟨f, hpq f a, b, moved p f k, moved_lt hp hk, fun j hj => ?_, c⟩
  rw [moved_testBit (lt64 h hq) (by omega) (hpq f a)]
  rcases (moved_testBit (lt64 h hp) (by omega) a j).1 hj with ⟨x, y⟩ | x
  · exact .inl ⟨hpq j x, y⟩
  · exact .inr x
theorem eternal_all {net : List Int} : Eternal net (allOf net) := ⟨fun q => q = allOf net, fun q _ hq k hk hb => by rw [hq, allOf_testBit] at hb; simp at hb; omega, rfl⟩
theorem eternal_add {net : List Int} (h : Ok net) {s k : Nat} (hs : s < 2 ^ net.length) (he : Eternal net s) : Eternal net (s ||| 2 ^ k) := eternal_mono h hs (fun j hj => (or_testBit _ _ _).2 (.inl hj)) he
theorem size_and_le {net : List Int} (h : Ok net) {s a : Nat} (hs : s < 2 ^ net.length) (ha : a < 2 ^ net.length) : size (s &&& a) ≤ size a := by
  have h1 : s &&& a < 2 ^ net.length := Nat.lt_of_le_of_lt Nat.and_le_left hs
  rw [size_cnt h h1, size_cnt h ha]
  refine cnt_mono fun k _ hk => ?_
  rw [Nat.testBit_and, Bool.and_eq_true] at hk
  exact hk.2
/-- It takes no fewer than are apart. -/
theorem eternal_apart {net : List Int} (h : Ok net) {a s : Nat} (ha : a < 2 ^ net.length) (hA : Apart net a) (hs : s < 2 ^ net.length) (he : Eternal net s) : size a ≤ size s := by
  have h6 := h.hi
  have key : ∀ m s, size a - size (s &&& a) ≤ m → s < 2 ^ net.length → Eternal net s → size a ≤ size s := by
    intro m
    induction m with
    | zero =>
      intro s hm hs he
      have h1 : size (s &&& a) ≤ size s := by rw [Nat.and_comm]; exact size_and_le h ha hs
      omega
    | succ m ih =>
      intro s hm hs he
      by_cases hex : ∃ k, a.testBit k = true ∧ s.testBit k = false
      · obtain ⟨k, hk, hb⟩ := hex
        have hkl := in_lt ha hk
        obtain ⟨f, x, y, z⟩ := eternal_closed net s hs he k hkl hb
        have hfl := in_lt hs x
        have hfa : a.testBit f = false := not_true fun hc => by rw [hA k f hk hc] at y; cases y
        have hm2 := moved_lt (f := f) hs hkl
        have e : moved s f k &&& a = (s &&& a) ||| 2 ^ k := Nat.eq_of_testBit_eq fun j => by
          rw [Bool.eq_iff_iff, Nat.testBit_and, Bool.and_eq_true, moved_testBit (lt64 h hs) (by omega) x, or_testBit, Nat.testBit_and, Bool.and_eq_true]
          constructor
          · rintro ⟨⟨p, _⟩ | p, q⟩
            · exact .inl ⟨p, q⟩
            · exact .inr p
          · rintro (⟨p, q⟩ | rfl)
            · exact ⟨.inl ⟨p, fun hh => by rw [hh, hfa] at q; cases q⟩, q⟩
            · exact ⟨.inr rfl, hk⟩
        have hlt : s &&& a < 64 := Nat.lt_of_le_of_lt Nat.and_le_left (lt64 h hs)
        have hz := size_add hlt (k := k) (by omega) (by rw [Nat.testBit_and, hb]; rfl)
        have h1 := ih (moved s f k) (by rw [e, hz]; omega) hm2 z
        rw [moved_size (lt64 h hs) (by omega) (by omega) x hb] at h1
        exact h1
      · have e : s &&& a = a := Nat.eq_of_testBit_eq fun j => by
          rw [Bool.eq_iff_iff, Nat.testBit_and, Bool.and_eq_true]
          refine ⟨fun p => p.2, fun p => ⟨Classical.byContradiction fun hc => hex ⟨j, p, not_true hc⟩, p⟩⟩
        have h1 : size (s &&& a) ≤ size s := by rw [Nat.and_comm]; exact size_and_le h ha hs
        rw [e] at h1; exact h1
  exact key _ s (Nat.le_refl _) hs he
/-- Where every two are neighbours, one guard is enough. -/
theorem eternal_one {net : List Int} (h : Ok net) (hall : ∀ j k, j < net.length → k < net.length → j ≠ k → (nb net j).testBit k = true) {i : Nat} (hi : i < net.length) : Eternal net (2 ^ i) := by
  have h6 := h.hi
  refine ⟨fun q => ∃ m, m < net.length ∧ q = 2 ^ m, fun q _ ⟨m, hm, hq⟩ k hk hb => ?_, i, hi, rfl⟩
  subst hq
  rw [testBit_pow, decide_eq_false_iff_not] at hb
  have hmb : (2 ^ m).testBit m = true := by rw [testBit_pow]; simp
  have hpl : 2 ^ m < 2 ^ net.length := Nat.pow_lt_pow_right (by omega) hm
  refine ⟨m, hmb, hall k m hk hm (Ne.symm hb), k, hk, ?_⟩
  apply Nat.eq_of_testBit_eq
  intro j
  rw [Bool.eq_iff_iff, moved_testBit (lt64 h hpl) (by omega) hmb, testBit_pow, testBit_pow]
  simp only [decide_eq_true_eq]
  constructor
  · rintro (⟨a, b⟩ | rfl)
    · exact absurd a.symm b
    · rfl
  · intro a; exact .inr a.symm
/-- Where no three are apart, three guards are enough, two of which are apart. -/
theorem eternal_three {net : List Int} (h : Ok net) (hno : ∀ a, a < 2 ^ net.length → Apart net a → size a ≤ 2) {s x y : Nat} (hs : s < 2 ^ net.length) (hz : size s = 3) (hx : s.testBit x = true) (hy : s.testBit y = true) (hxy : x ≠ y) (hn : (nb net x).testBit y = false) : Eternal net s := by
  have h6 := h.hi
  refine ⟨fun q => q < 2 ^ net.length ∧ size q = 3 ∧ ∃ u v, q.testBit u = true ∧ q.testBit v = true ∧ u ≠ v ∧ (nb net u).testBit v = false, fun q _ ⟨hq, hqz, u, v, hu, hv, huv, hun⟩ k hk hb => ?_, hs, hz, x, y, hx, hy, hxy, hn⟩
  have hul := in_lt hq hu
  have hvl := in_lt hq hv
  have hku : k ≠ u := fun he => by rw [he, hu] at hb; cases hb
  have hkv : k ≠ v := fun he => by rw [he, hv] at hb; cases hb
  have hvn : (nb net v).testBit u = false := by rw [h.sym u v hul hvl]; exact hun
  have msize : ∀ f, q.testBit f = true → size (moved q f k) = 3 := fun f hf => by
    have hfl := in_lt hq hf
    rw [moved_size (lt64 h hq) (by omega) (by omega) hf hb]; exact hqz
  have mlt : ∀ f, moved q f k < 2 ^ net.length := fun f => moved_lt hq hk
  -- the third guard
  have hex : ∃ w, q.testBit w = true ∧ w ≠ u ∧ w ≠ v := by
    have h1 := bits_sub q (lt64 h hq) u (by omega) hu
    have hv1 : (q - 2 ^ u).testBit v = true := by rw [sub_testBit (lt64 h hq) (by omega) hu, hv]; simp; omega
    have h2 := bits_sub _ h1.1 v (by omega) hv1
    have hne : q - 2 ^ u - 2 ^ v ≠ 0 := fun h0 => by
      have e : size (q - 2 ^ u - 2 ^ v) = 0 := by rw [h0]; decide
      omega
    obtain ⟨w, hw⟩ := pos_iff.1 hne
    rw [sub_testBit h1.1 (by omega) hv1, sub_testBit (lt64 h hq) (by omega) hu] at hw
    simp at hw
    exact ⟨w, hw.1.1, hw.1.2, hw.2⟩
  obtain ⟨w, hw, hwu, hwv⟩ := hex
  have hwl := in_lt hq hw
  have hkw : k ≠ w := fun he => by rw [he, hw] at hb; cases hb
  have stay : ∀ f j, q.testBit f = true → q.testBit j = true → j ≠ f → (moved q f k).testBit j = true := fun f j hf hj hne => by
    have hfl := in_lt hq hf
    exact (moved_testBit (lt64 h hq) (by omega) hf j).2 (.inl ⟨hj, hne⟩)
  have come : ∀ f, q.testBit f = true → (moved q f k).testBit k = true := fun f hf => by
    have hfl := in_lt hq hf
    exact (moved_testBit (lt64 h hq) (by omega) hf k).2 (.inr rfl)
  cases hwk : (nb net k).testBit w with
  | true => exact ⟨w, hw, hwk, mlt w, msize w hw, u, v, stay w u hw hu (Ne.symm hwu), stay w v hw hv (Ne.symm hwv), huv, hun⟩
  | false =>
    -- one of the two can go; then the place and the third guard are apart
    cases huk : (nb net k).testBit u with
    | true => exact ⟨u, hu, huk, mlt u, msize u hu, k, w, come u hu, stay u w hu hw hwu, hkw, hwk⟩
    | false =>
      cases hvk : (nb net k).testBit v with
      | true => exact ⟨v, hv, hvk, mlt v, msize v hv, k, w, come v hv, stay v w hv hw hwv, hkw, hwk⟩
      | false =>
        -- three would be apart
        exfalso
        have hpu : 2 ^ u < 2 ^ net.length := Nat.pow_lt_pow_right (by omega) hul
        have a1 : Apart net (2 ^ u ||| 2 ^ v) := (Apart.one h hul).add h hpu hvl (fun j hj => by rw [testBit_pow, decide_eq_true_eq] at hj; rw [← hj]; exact hvn)
        have l1 := or_lt hpu hvl
        have a2 : Apart net ((2 ^ u ||| 2 ^ v) ||| 2 ^ k) := a1.add h l1 hk (fun j hj => by
          rcases (or_testBit _ _ _).1 hj with hj | rfl
          · rw [testBit_pow, decide_eq_true_eq] at hj; rw [← hj]; exact huk
          · exact hvk)
        have h0 := hno _ (or_lt l1 hk) a2
        have z1 : size (2 ^ u) = 1 := by
          have := size_add (s := 0) (k := u) (by omega) (by omega) (Nat.zero_testBit u)
          rw [Nat.zero_or] at this
          rw [this]; decide
        have z2 := size_add (lt64 h hpu) (k := v) (by omega) (by rw [testBit_pow]; simp; exact huv)
        have z3 := size_add (lt64 h l1) (k := k) (by omega) (not_true fun hc => by
          rcases (or_testBit _ _ _).1 hc with hc | hc
          · rw [testBit_pow, decide_eq_true_eq] at hc; exact hku hc.symm
          · exact hkv hc)
        omega
/-- Not many more than are apart. -/
theorem eternal_upper {net : List Int} (h : Ok net) {m : Nat} (hm : MaxOf net (apart net) m) : ∃ s, s < 2 ^ net.length ∧ Eternal net s ∧ 2 * size s ≤ m * (m + 1) := by
  have h6 := h.hi
  have hlo := h.lo
  have hall : ∃ s, s < 2 ^ net.length ∧ Eternal net s ∧ size s = net.length := ⟨allOf net, allOf_lt net, eternal_all, size_all h⟩
  have m1 : 1 ≤ m := by
    have h1 : 2 ^ 0 < 2 ^ net.length := Nat.pow_lt_pow_right (by omega) hlo
    have := hm.le _ h1 ((apart_iff h1).2 (Apart.one h hlo))
    have e : size (2 ^ 0) = 1 := by decide
    omega
  have h0 : ∀ a, a < 2 ^ net.length → Apart net a → size a ≤ m := fun a ha hA => hm.le a ha ((apart_iff ha).2 hA)
  by_cases hm1 : m = 1
  · -- every two are neighbours
    subst hm1
    refine ⟨2 ^ 0, Nat.pow_lt_pow_right (by omega) hlo, eternal_one h (fun j k hj hk hjk => Classical.byContradiction fun hc => ?_) hlo, by decide⟩
    have hn : (nb net j).testBit k = false := not_true hc
    have hpj : 2 ^ j < 2 ^ net.length := Nat.pow_lt_pow_right (by omega) hj
    have hA := (Apart.one h hj).add h hpj hk (fun i hi => by rw [testBit_pow, decide_eq_true_eq] at hi; rw [← hi, h.sym j k hj hk]; exact hn)
    have := h0 _ (or_lt hpj hk) hA
    have z1 : size (2 ^ j) = 1 := by
      have := size_add (s := 0) (k := j) (by omega) (by omega) (Nat.zero_testBit j)
      rw [Nat.zero_or] at this
      rw [this]; decide
    have z2 := size_add (lt64 h hpj) (k := k) (by omega) (by rw [testBit_pow]; simp; exact hjk)
    omega
  · by_cases hm2 : m = 2
    · subst hm2
      by_cases h3 : 3 ≤ net.length
      · obtain ⟨a, ha, hap, haz⟩ := hm.ex
        have hA := (apart_iff ha).1 hap
        -- two that are apart
        have hne : a ≠ 0 := fun he => by rw [he] at haz; exact absurd haz (by decide)
        obtain ⟨u, hu⟩ := pos_iff.1 hne
        have hul := in_lt ha hu
        have h1 := bits_sub a (lt64 h ha) u (by omega) hu
        have hne2 : a - 2 ^ u ≠ 0 := fun he => by
          have e : size (a - 2 ^ u) = 0 := by rw [he]; decide
          omega
        obtain ⟨v, hv⟩ := pos_iff.1 hne2
        rw [sub_testBit (lt64 h ha) (by omega) hu] at hv
        simp at hv
        -- and a third one
        have hex : ∃ w, w < net.length ∧ a.testBit w = false := by
          refine Classical.byContradiction fun hc => ?_
          have : a = allOf net := eq_of_bits ha (allOf_lt net) fun j hj => by
            rw [allOf_testBit]
            cases hb : a.testBit j with
            | true => simpa using hj
            | false => exact absurd ⟨j, hj, hb⟩ hc
          rw [this, size_all h] at haz
          omega
        obtain ⟨w, hw, hwb⟩ := hex
        have hz := size_add (lt64 h ha) (k := w) (by omega) hwb
        exact ⟨a ||| 2 ^ w, or_lt ha hw, eternal_three h h0 (or_lt ha hw) (by omega) ((or_testBit _ _ _).2 (.inl hu)) ((or_testBit _ _ _).2 (.inl hv.1)) (Ne.symm hv.2) (hA u v hu hv.1), by omega⟩
      · obtain ⟨s, a, b, c⟩ := hall
        exact ⟨s, a, b, by omega⟩
    · obtain ⟨s, a, b, c⟩ := hall
      have : 3 * 4 ≤ m * (m + 1) := Nat.mul_le_mul (by omega) (by omega)
      exact ⟨s, a, b, by omega⟩
end Go.Proofs.Ytgocpgkhbamkcaa
