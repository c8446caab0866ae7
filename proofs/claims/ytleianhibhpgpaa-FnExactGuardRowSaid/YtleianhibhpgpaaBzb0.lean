/- Several texts in one: Nt1, Nt2, N1, N2, N4, Chap1, Ch3, Ch5, Ch6, Ch12, N3, Ex, Ex2, S3, Ch7, Nt3, Dr, Dr2, S7, S8, S12, Ch9, Ch11, Ch13, Ch13b, Ch13c, Ch15, Ot, S9, Hall, Ch10, S10, Br3. Conditions: those of each theorem. -/
import Derived.Test.YtleianhibhpgpaaBza2
import Derived.Test.YtleianhibhpgpaaBzTz
/- What the laws' own small functions come to. Conditions: those of each theorem. -/
namespace Go.Proofs.Ytleianhibhpgpaa
open D Go.RowKit
set_option linter.unusedVariables false
set_option linter.unusedSimpArgs false


theorem L.toIntS_is {a : List Int} (ha : a.length ≤ 1048576) : L.toIntS_t a = some a := by
  have hloop : L.toIntS_run3 a FUEL (0, List.replicate (↑a.length : Int).toNat 0) = some a := by
    refine run_fuel (run := L.toIntS_run3 a) (fun s => 0 ≤ s.1 ∧ s.1 ≤ a.length ∧ s.2.length = a.length ∧ ∀ j, j < s.1.toNat → s.2.getD j 0 = a.getD j 0) (fun s => a.length - s.1.toNat) (fun _ => a) ?_ ?_ ?_
    · rintro n ⟨x, r⟩ ⟨h0, h1, h2, h3⟩
      simp only at h0 h1 h2 h3
      by_cases hx : x < (a.length : Int)
      · refine .inr ⟨(IntKind.i64.wrap (x + 1), r.set x.toNat (eli a x.toNat)), ?_, ?_, ?_, rfl⟩
        · simp only [L.toIntS_run3, L.toIntS_step3]
          rw [cnd_t (by simpa using hx), cnd_t (by simp; omega), cnd_t (by simp; omega), cnd_t (by simp; omega)]
        · rw [i64_wrap (by omega) (by omega)]
          refine ⟨by simp only; omega, by simp only; omega, by simp only [List.length_set]; exact h2, fun j hj => ?_⟩
          simp only at hj ⊢
          by_cases hjx : j = x.toNat
          · subst hjx
            have hlt : x.toNat < r.length := by omega
            simp [List.getD, hlt, eli]
          · rw [← h3 j (by omega)]
            simp [List.getD, List.getElem?_set_ne (Ne.symm hjx)]
        · rw [i64_wrap (by omega) (by omega)]; simp only; omega
      · refine .inl ?_
        simp only [L.toIntS_run3, L.toIntS_step3]
        rw [cnd_f (by simpa using hx)]
        congr 1
        apply List.ext_getElem?
        intro j
        by_cases hj : j < a.length
        · have := h3 j (by omega)
          simp only [List.getD, h2, hj, List.getElem?_eq_getElem, Option.getD_some, hj] at this ⊢
          rw [this]
        · rw [List.getElem?_eq_none (by omega), List.getElem?_eq_none (by omega)]
    · refine ⟨by simp, by simp, by simp, fun j hj => by simp at hj⟩
    · simp; omega
  unfold L.toIntS_t L.toIntS_tree
  rw [cnd_t (by simp [small]; omega), hloop]
  rfl

theorem L.eqIntS_is {a b : List Int} (ha : a.length ≤ 2097152) : L.eqIntS_t a b = some (decide (a = b)) := by
  unfold L.eqIntS_t L.eqIntS_tree
  by_cases hl : a.length = b.length
  · rw [cnd_f (by simp [hl])]
    have hloop : L.eqIntS_run4 a b FUEL 0 = some (if a = b then .inr () else .inl false) := by
      refine run_fuel (run := L.eqIntS_run4 a b) (fun x => 0 ≤ x ∧ x ≤ a.length ∧ ∀ j, j < x.toNat → a.getD j 0 = b.getD j 0) (fun x => a.length - x.toNat) (fun _ => if a = b then .inr () else .inl false) ?_ ?_ ?_
      · rintro n x ⟨h0, h1, h3⟩
        by_cases hx : x < (a.length : Int)
        · by_cases he : eli a x.toNat = eli b x.toNat
          · refine .inr ⟨IntKind.i64.wrap (x + 1), ?_, ?_, ?_, rfl⟩
            · simp only [L.eqIntS_run4, L.eqIntS_step4]
              rw [cnd_t (by simpa using hx), cnd_t (by simp; omega), cnd_t (by simp; omega), cnd_f (by simp [he])]
            · rw [i64_wrap (by omega) (by omega)]
              refine ⟨by omega, by omega, fun j hj => ?_⟩
              by_cases hjx : j = x.toNat
              · subst hjx; exact he
              · exact h3 j (by omega)
            · rw [i64_wrap (by omega) (by omega)]; omega
          · refine .inl ?_
            simp only [L.eqIntS_run4, L.eqIntS_step4]
            rw [cnd_t (by simpa using hx), cnd_t (by simp; omega), cnd_t (by simp; omega), cnd_t (by simp [he])]
            rw [if_neg (fun h => he (by rw [h]))]
        · refine .inl ?_
          simp only [L.eqIntS_run4, L.eqIntS_step4]
          rw [cnd_f (by simpa using hx)]
          have : a = b := by
            apply List.ext_getElem hl
            intro j hj hj'
            have := h3 j (by omega)
            simpa [List.getD, hj, hj'] using this
          rw [if_pos this]
      · exact ⟨by simp, by simp, fun j hj => by simp at hj⟩
      · simp; omega
    rw [hloop]
    by_cases h : a = b
    · simp [h, optC, sumC]
    · simp [h, optC, sumC]
  · rw [cnd_t (by simp; omega)]
    have : ¬ a = b := fun h => hl (by rw [h])
    simp [this]
end Go.Proofs.Ytleianhibhpgpaa
/- What is a net: the program's test and the model's come to the same. Conditions: those of each theorem. -/
namespace Go.Proofs.Ytleianhibhpgpaa
open D Go.RowKit
set_option linter.unusedVariables false
set_option linter.unusedSimpArgs false


theorem i64_bits : IntKind.i64.bits = 64 := by kernel_rfl
def hasI (s : Int) (p : Nat) : Bool := (s.fdiv (2 ^ min p 64)) % 2 == 1
theorem I.hasPlace_is {s p : Int} (hp : 0 ≤ p) : I.hasPlace_t s p = some (hasI s p.toNat) := by
  unfold I.hasPlace_t I.hasPlace_tree
  rw [cnd_f (by simp; omega), i64_and1, i64_bits]
  rfl
theorem I.setIn_is {net : List Int} {s : Int} (hl : net.length ≤ 6) : I.setIn_t net s = some (decide (0 ≤ s ∧ s < 2 ^ net.length)) := by
  unfold I.setIn_t I.setIn_tree
  have e : IntKind.i64.wrap (1 * 2 ^ min (↑net.length : Int).toNat IntKind.i64.bits) = 2 ^ net.length := by
    rw [i64_bits, Int.toNat_natCast, Int.one_mul]
    generalize net.length = k at hl
    match k, hl with
    | 0, _ | 1, _ | 2, _ | 3, _ | 4, _ | 5, _ | 6, _ => exact i64_wrap (by decide) (by decide)
  by_cases h : 0 ≤ s
  · rw [cnd_t (by simpa using h), e]; simp [h]
  · rw [cnd_f (by simpa using h)]; simp [h]
theorem I.knownBack_is {net : List Int} {p : Int} (hl : net.length ≤ 6) (h0 : 0 ≤ p) (h1 : p < net.length) :
    I.knownBack_t net p = some ((List.range net.length).all fun q => !hasI (eli net p.toNat) q || hasI (eli net q) p.toNat) := by
  unfold I.knownBack_t I.knownBack_tree
  rw [run_all (run := I.knownBack_run2 net p) (len := net.length) (fun q => !hasI (eli net p.toNat) q || hasI (eli net q) p.toNat) (by omega) (fun n x hx0 hx1 => by
    simp only [I.knownBack_run2, I.knownBack_step2]
    by_cases hx : x < (net.length : Int)
    · rw [if_pos hx, cnd_t (by simpa using hx), cnd_t (by simp; omega), I.hasPlace_is hx0]
      simp only [optC]
      cases ha : hasI (eli net p.toNat) x.toNat with
      | false => simp only [cond_false, Bool.not_false, Bool.true_or, cond_true]; rw [i64_wrap (by omega) (by omega)]
      | true =>
        rw [cond_true, cnd_t (by simp; omega), I.hasPlace_is h0]
        simp only [optC]
        cases hb : hasI (eli net x.toNat) p.toNat with
        | false => rfl
        | true => simp only [Bool.not_true, cond_false, Bool.or_true, cond_true]; rw [i64_wrap (by omega) (by omega)]
    · rw [if_neg hx, cnd_f (by simpa using hx)])]
  cases (List.range net.length).all _ <;> rfl
theorem I.NetOk_is {net : List Int} : I.NetOk_t net = some (decide (1 ≤ net.length) && decide (net.length ≤ 6) && (List.range net.length).all fun p =>
    decide (0 ≤ eli net p ∧ eli net p < 2 ^ net.length) && !hasI (eli net p) p && (List.range net.length).all fun q => !hasI (eli net p) q || hasI (eli net q) p) := by
  unfold I.NetOk_t I.NetOk_tree
  rcases Nat.lt_or_ge net.length 1 with hlo | hlo
  · rw [cnd_t (by simp; omega), decide_eq_false (by omega : ¬ 1 ≤ net.length)]; rfl
  rw [cnd_f (by simp; omega)]
  rcases Nat.lt_or_ge 6 net.length with hl | hl
  · rw [cnd_t (by simp; omega), decide_eq_false (by omega : ¬ net.length ≤ 6), Bool.and_false]; rfl
  rw [cnd_f (by simp; omega)]
  rw [run_all (run := I.NetOk_run4 net) (len := net.length) (fun p => decide (0 ≤ eli net p ∧ eli net p < 2 ^ net.length) && !hasI (eli net p) p && (List.range net.length).all fun q => !hasI (eli net p) q || hasI (eli net q) p) (by omega) (fun n x hx0 hx1 => by
    simp only [I.NetOk_run4, I.NetOk_step4]
    by_cases hx : x < (net.length : Int)
    · rw [if_pos hx, cnd_t (by simpa using hx), cnd_t (by simp; omega), I.setIn_is hl]
      simp only [optC]
      cases ha : decide (0 ≤ eli net x.toNat ∧ eli net x.toNat < 2 ^ net.length) with
      | false => rfl
      | true =>
        rw [Bool.not_true, cond_false, cnd_t (by simp; omega), I.hasPlace_is hx0]
        simp only [optC]
        cases hb : hasI (eli net x.toNat) x.toNat with
        | true => rfl
        | false =>
          rw [cond_false, I.knownBack_is hl hx0 hx]
          simp only [optC]
          cases hc : (List.range net.length).all fun q => !hasI (eli net x.toNat) q || hasI (eli net q) x.toNat with
          | false => rfl
          | true => simp only [Bool.not_true, Bool.not_false, cond_false, Bool.and_true, cond_true]; rw [i64_wrap (by omega) (by omega)]
    · rw [if_neg hx, cnd_f (by simpa using hx)])]
  simp only [hlo, hl, decide_true, Bool.true_and]
  cases (List.range net.length).all _ <;> rfl
def bitS (s : Int) (p : Nat) : Int := (s.fdiv (2 ^ min p 64)).tmod 2
theorem S.l1In_is {x a b : Int} : S.l1In_t x a b = some (decide (a ≤ x ∧ x ≤ b)) := by
  unfold S.l1In_t S.l1In_tree
  by_cases h : a ≤ x
  · rw [cnd_t (by simpa using h)]; simp [h]
  · rw [cnd_f (by simpa using h)]; simp [h]
theorem S.NetOk_is {net : List Int} : S.NetOk_t net = some (decide (1 ≤ net.length) && decide (net.length ≤ 6) &&
    ((List.range net.length).all fun p => decide (0 ≤ eli net p ∧ eli net p < 2 ^ net.length)) && (List.range net.length).all fun p =>
    (List.range net.length).all fun q => bitS (eli net p) q == bitS (eli net q) p && !(q == p && bitS (eli net p) q == 1)) := by
  unfold S.NetOk_t S.NetOk_tree
  rw [S.l1In_is]
  simp only [optC]
  rcases Nat.lt_or_ge net.length 1 with hlo | hlo
  · rw [decide_eq_false (by omega : ¬ 1 ≤ net.length), decide_eq_false (by omega : ¬ ((1 : Int) ≤ (net.length : Int) ∧ (net.length : Int) ≤ 6))]; rfl
  rcases Nat.lt_or_ge 6 net.length with hl | hl
  · rw [decide_eq_false (by omega : ¬ net.length ≤ 6), decide_eq_false (by omega : ¬ ((1 : Int) ≤ (net.length : Int) ∧ (net.length : Int) ≤ 6)), Bool.and_false]; rfl
  rw [decide_eq_true (by omega : ((1 : Int) ≤ (net.length : Int) ∧ (net.length : Int) ≤ 6)), Bool.not_true, cond_false]
  have e : IntKind.i64.wrap (IntKind.i64.wrap (1 * 2 ^ min (↑net.length : Int).toNat IntKind.i64.bits) - 1) = 2 ^ net.length - 1 := by
    rw [i64_bits, Int.toNat_natCast, Int.one_mul]
    generalize net.length = k at hl
    match k, hl with
    | 0, _ | 1, _ | 2, _ | 3, _ | 4, _ | 5, _ | 6, _ => rw [i64_wrap (n := 2 ^ min _ 64) (by decide) (by decide)]; exact i64_wrap (by decide) (by decide)
  rw [run_all (run := S.NetOk_run4 net) (len := net.length) (fun p => decide (0 ≤ eli net p ∧ eli net p < 2 ^ net.length)) (by omega) (fun n x hx0 hx1 => by
    simp only [S.NetOk_run4, S.NetOk_step4]
    by_cases hx : x < (net.length : Int)
    · rw [if_pos hx, cnd_t (by simpa using hx), cnd_t (by simp; omega), S.l1In_is, e]
      simp only [optC]
      have : decide (0 ≤ eli net x.toNat ∧ eli net x.toNat ≤ 2 ^ net.length - 1) = decide (0 ≤ eli net x.toNat ∧ eli net x.toNat < 2 ^ net.length) := decide_eq_decide.2 (by omega)
      rw [this]
      cases decide (0 ≤ eli net x.toNat ∧ eli net x.toNat < 2 ^ net.length) with
      | false => rfl
      | true => simp only [Bool.not_true, cond_false, cond_true]; rw [i64_wrap (by omega) (by omega)]
    · rw [if_neg hx, cnd_f (by simpa using hx)])]
  have inner : ∀ p : Int, 0 ≤ p → p < net.length → S.NetOk_run12 net p FUEL 0 = some (bif (List.range net.length).all (fun q => bitS (eli net p.toNat) q == bitS (eli net q) p.toNat && !(q == p.toNat && bitS (eli net p.toNat) q == 1)) then .inr () else .inl false) := by
    intro p hp0 hp1
    refine run_all (run := S.NetOk_run12 net p) (len := net.length) _ (by omega) (fun n x hx0 hx1 => ?_)
    simp only [S.NetOk_run12, S.NetOk_step12]
    by_cases hx : x < (net.length : Int)
    · rw [if_pos hx, cnd_t (by simpa using hx), cnd_t (by simp; omega), cnd_f (by simp; omega), cnd_t (by simp; omega), cnd_f (by simp; omega), i64_bits]
      show (bif !(bitS (eli net p.toNat) x.toNat == bitS (eli net x.toNat) p.toNat) then _ else _) = _
      cases ha : (bitS (eli net p.toNat) x.toNat == bitS (eli net x.toNat) p.toNat) with
      | false => rfl
      | true =>
        rw [Bool.not_true, cond_false, Bool.true_and]
        by_cases hxp : x = p
        · subst hxp
          rw [cnd_t (by simp), cnd_t (by simp; omega), cnd_f (by simp; omega), BEq.rfl, Bool.true_and]
          show (bif (bitS (eli net x.toNat) x.toNat == 1) then _ else _) = _
          cases (bitS (eli net x.toNat) x.toNat == 1) with
          | true => rfl
          | false => simp only [cond_false, Bool.not_false, cond_true]; rw [i64_wrap (by omega) (by omega)]
        · rw [cnd_f (by simpa using hxp)]
          have : (x.toNat == p.toNat) = false := by simp; omega
          rw [this, Bool.false_and, Bool.not_false, cond_true, i64_wrap (by omega) (by omega)]
    · rw [if_neg hx, cnd_f (by simpa using hx)]
  rw [run_all (run := S.NetOk_run9 net) (len := net.length) (fun p => (List.range net.length).all fun q => bitS (eli net p) q == bitS (eli net q) p && !(q == p && bitS (eli net p) q == 1)) (by omega) (fun n x hx0 hx1 => by
    simp only [S.NetOk_run9, S.NetOk_step9]
    by_cases hx : x < (net.length : Int)
    · rw [if_pos hx, cnd_t (by simpa using hx), inner x hx0 hx]
      simp only [optC]
      cases (List.range net.length).all fun q => bitS (eli net x.toNat) q == bitS (eli net q) x.toNat && !(q == x.toNat && bitS (eli net x.toNat) q == 1) with
      | false => rfl
      | true => simp only [cond_true, sumC]; rw [i64_wrap (by omega) (by omega)]
    · rw [if_neg hx, cnd_f (by simpa using hx)])]
  simp only [hlo, hl, decide_true, Bool.true_and]
  cases (List.range net.length).all fun p => decide (0 ≤ eli net p ∧ eli net p < 2 ^ net.length) with
  | false => rfl
  | true =>
    simp only [cond_true, sumC, Bool.true_and]
    cases (List.range net.length).all _ <;> rfl
theorem bitS_is {s : Int} (h : 0 ≤ s) (p : Nat) : bitS s p = if hasI s p = true then 1 else 0 := by
  unfold bitS hasI
  have h2 : (0 : Int) < 2 ^ min p 64 := Int.pow_pos (by decide)
  have h3 : 0 ≤ s.fdiv (2 ^ min p 64) := Int.fdiv_nonneg h (by omega)
  rw [Int.tmod_eq_emod_of_nonneg h3]
  by_cases h4 : s.fdiv (2 ^ min p 64) % 2 = 1
  · simp [h4]
  · have : s.fdiv (2 ^ min p 64) % 2 = 0 := by omega
    simp [this]
theorem NetOk_eq {net : List Int} : I.NetOk_t net = S.NetOk_t net := by
  rw [I.NetOk_is, S.NetOk_is]
  congr 1
  rw [Bool.eq_iff_iff]
  simp only [Bool.and_eq_true, List.all_eq_true, List.mem_range, decide_eq_true_eq, Bool.or_eq_true, Bool.not_eq_true', beq_iff_eq, Bool.and_eq_false_iff, beq_eq_false_iff_ne]
  constructor
  · rintro ⟨⟨h1, h2⟩, h3⟩
    refine ⟨⟨⟨h1, h2⟩, fun p hp => (h3 p hp).1.1⟩, fun p hp q hq => ⟨?_, ?_⟩⟩
    · rw [bitS_is (h3 p hp).1.1.1, bitS_is (h3 q hq).1.1.1]
      have a1 := (h3 p hp).2 q hq
      have a2 := (h3 q hq).2 p hp
      cases ha : hasI (eli net p) q <;> cases hb : hasI (eli net q) p <;> simp_all
    · by_cases hqp : q = p
      · subst hqp
        right
        rw [bitS_is (h3 q hq).1.1.1, (h3 q hq).1.2]
        decide
      · exact .inl hqp
  · rintro ⟨⟨⟨h1, h2⟩, h3⟩, h4⟩
    refine ⟨⟨h1, h2⟩, fun p hp => ⟨⟨h3 p hp, ?_⟩, fun q hq => ?_⟩⟩
    · have := (h4 p hp p hp).2
      rw [bitS_is (h3 p hp).1] at this
      cases ha : hasI (eli net p) p with
      | false => rfl
      | true => rw [ha] at this; simp at this
    · have := (h4 p hp q hq).1
      rw [bitS_is (h3 p hp).1, bitS_is (h3 q hq).1] at this
      cases ha : hasI (eli net p) q <;> cases hb : hasI (eli net q) p <;> simp_all
end Go.Proofs.Ytleianhibhpgpaa
/- What the small functions on nets and sets come to, in natural numbers. Conditions: those of each theorem. -/
namespace Go.Proofs.Ytleianhibhpgpaa
open D Go.RowKit
set_option linter.unusedVariables false
set_option linter.unusedSimpArgs false


theorem hasI_nat (s p : Nat) (hp : p ≤ 64) : hasI (s : Int) p = s.testBit p := by
  have h := shr_is s p hp
  unfold hasI
  rw [bits64, Int.toNat_natCast] at h
  rw [h, testBit_div, Bool.eq_iff_iff, beq_iff_eq, beq_iff_eq]
  omega
theorem two_pow_cast (n : Nat) : ((2 : Int) ^ n) = ((2 ^ n : Nat) : Int) := by simp
theorem Ok.of {net : List Int} (h1 : 1 ≤ net.length) (h2 : net.length ≤ 6) (h3 : ∀ p, p < net.length → (0 ≤ eli net p ∧ eli net p < 2 ^ net.length) ∧ hasI (eli net p) p = false ∧ ∀ q, q < net.length → hasI (eli net p) q = true → hasI (eli net q) p = true) : Ok net := by
  have hel : ∀ k, k < net.length → eli net k = (nb net k : Int) := fun k hk => by
    have := (h3 k hk).1.1
    show _ = ((eli net k).toNat : Int)
    omega
  refine ⟨h1, h2, hel, fun k hk => ?_, fun j k hj hk => ?_, fun k hk => ?_⟩
  · have := (h3 k hk).1.2
    rw [hel k hk, two_pow_cast] at this
    omega
  · have a1 := (h3 k hk).2.2 j hj
    have a2 := (h3 j hj).2.2 k hk
    rw [hel k hk, hel j hj, hasI_nat _ _ (by omega), hasI_nat _ _ (by omega)] at a1 a2
    cases hx : (nb net k).testBit j with
    | true => exact (a1 hx).symm
    | false => cases hy : (nb net j).testBit k with
      | false => rfl
      | true => rw [a2 hy] at hx; cases hx
  · have := (h3 k hk).2.1
    rw [hel k hk, hasI_nat _ _ (by omega)] at this
    exact this
theorem NetOk_cases (net : List Int) : (Ok net ∧ I.NetOk_t net = some true ∧ S.NetOk_t net = some true) ∨ (¬ Ok net ∧ I.NetOk_t net = some false ∧ S.NetOk_t net = some false) := by
  rw [← NetOk_eq, I.NetOk_is]
  generalize hb : (decide (1 ≤ net.length) && decide (net.length ≤ 6) && (List.range net.length).all fun p => decide (0 ≤ eli net p ∧ eli net p < 2 ^ net.length) && !hasI (eli net p) p && (List.range net.length).all fun q => !hasI (eli net p) q || hasI (eli net q) p) = b
  cases b with
  | true =>
    left
    simp only [Bool.and_eq_true, List.all_eq_true, List.mem_range, decide_eq_true_eq, Bool.or_eq_true, Bool.not_eq_true'] at hb
    refine ⟨Ok.of hb.1.1 hb.1.2 fun p hp => ⟨(hb.2 p hp).1.1, (hb.2 p hp).1.2, fun q hq hx => ?_⟩, rfl, rfl⟩
    rcases (hb.2 p hp).2 q hq with h | h
    · rw [h] at hx; cases hx
    · exact h
  | false =>
    right
    refine ⟨fun h => ?_, rfl, rfl⟩
    have : (decide (1 ≤ net.length) && decide (net.length ≤ 6) && (List.range net.length).all fun p => decide (0 ≤ eli net p ∧ eli net p < 2 ^ net.length) && !hasI (eli net p) p && (List.range net.length).all fun q => !hasI (eli net p) q || hasI (eli net q) p) = true := by
      simp only [Bool.and_eq_true, List.all_eq_true, List.mem_range, decide_eq_true_eq, Bool.or_eq_true, Bool.not_eq_true']
      have hhi := h.hi
      refine ⟨⟨h.lo, h.hi⟩, fun p hp => ⟨⟨?_, ?_⟩, fun q hq => ?_⟩⟩
      · rw [show eli net p = (nb net p : Int) from h.el p hp, two_pow_cast]
        have := h.lt p hp
        omega
      · rw [show eli net p = (nb net p : Int) from h.el p hp, hasI_nat _ _ (by omega)]; exact h.irr p hp
      · rw [show eli net p = (nb net p : Int) from h.el p hp, show eli net q = (nb net q : Int) from h.el q hq, hasI_nat _ _ (by omega), hasI_nat _ _ (by omega), h.sym q p hq hp]
        cases (nb net q).testBit p <;> simp
    rw [hb] at this; cases this
theorem Ok.eli {net : List Int} (h : Ok net) {k : Nat} (hk : k < net.length) : D.eli net k = (nb net k : Int) := h.el k hk

/-! ### The program's small functions -/
theorem I.hasPlace_n (s p : Nat) (hp : p ≤ 64) : I.hasPlace_t s p = some (s.testBit p) := by
  rw [I.hasPlace_is (by omega), Int.toNat_natCast, hasI_nat s p hp]
theorem I.allOf_n {net : List Int} (h : Ok net) : I.allOf_t net = some ((allOf net : Nat) : Int) := by
  unfold I.allOf_t I.allOf_tree
  have h2 := h.pow
  have h3 : 0 < 2 ^ net.length := Nat.two_pow_pos _
  rw [one_shl (by have := h.hi; omega), sub1_nat (by omega) (by omega)]
  rfl
theorem I.ballIn_n {net : List Int} (h : Ok net) {p : Nat} (hp : p < net.length) : I.ballIn_t net p = some ((ball net p : Nat) : Int) := by
  unfold I.ballIn_t I.ballIn_tree
  have h6 := h.hi
  have h64 := h.lt64 hp
  rw [cnd_t (by simp; omega), cnd_f (by simp), one_shl (by omega), Int.toNat_natCast, h.eli hp, i64_or_nat _ _ (by omega) (pow2_lt (by omega))]
  rfl
theorem fold_balls {net : List Int} (h : Ok net) {s : Nat} (hs : s < 2 ^ net.length) : fold net.length (fun t k => if s.testBit k = true then t ||| ball net k else t) 0 = seen net s := h.seen_balls hs
theorem I.seenIn_n {net : List Int} (h : Ok net) {s : Nat} (hs : s < 2 ^ net.length) : I.seenIn_t net s = some ((seen net s : Nat) : Int) := by
  unfold I.seenIn_t I.seenIn_tree
  have h6 := h.hi
  have h64 := h.pow
  have := (run_for (run := I.seenIn_run3 net s) (len := net.length) (fun k (t : Nat) => ((t : Int), (k : Int))) (fun t k => if s.testBit k = true then t ||| ball net k else t) (fun t => (t : Int)) (fun k t => t < 2 ^ net.length) (by omega) (fun n k t hk ht => ?_) (fun n t ht => ?_) (t0 := 0) (Nat.two_pow_pos _)).1
  · rw [fold_balls h hs] at this
    exact congrArg (fun o => optC o (fun q => some q) none) this
  · simp only [I.seenIn_run3, I.seenIn_step3]
    rw [cnd_t (by simp; omega), I.hasPlace_n _ _ (by omega)]
    simp only [optC]
    have hb := h.ball_lt hk
    cases hbit : s.testBit k with
    | true =>
      rw [cond_true, I.ballIn_n h hk, if_pos rfl]
      simp only
      rw [i64_or_nat _ _ (by omega) (by omega), add1_nat (by omega)]
      exact ⟨rfl, Nat.or_lt_two_pow ht hb⟩
    | false =>
      rw [cond_false, if_neg (by simp), add1_nat (by omega)]
      exact ⟨rfl, ht⟩
  · simp only [I.seenIn_run3, I.seenIn_step3]
    rw [cnd_f (by simp)]
theorem I.watchIn_n {net : List Int} (h : Ok net) {s : Nat} (hs : s < 2 ^ net.length) : I.watchIn_t net s = some (W net s) := by
  unfold I.watchIn_t I.watchIn_tree
  rw [I.seenIn_n h hs, I.allOf_n h]
  simp only [optC]
  rw [nat_beq]
  rfl
theorem size_fold (s : Nat) : fold 6 (fun t k => t + (s.testBit k).toNat) 0 = size s := by
  unfold size card
  congr 1
  funext t k
  cases s.testBit k <;> simp
theorem I.sizeOf_n (s : Nat) : I.sizeOf_t s = some ((size s : Nat) : Int) := by
  unfold I.sizeOf_t I.sizeOf_tree
  have := (run_for (run := I.sizeOf_run3 s) (len := 6) (fun k (t : Nat) => ((t : Int), (k : Int))) (fun t k => t + (s.testBit k).toNat) (fun t => (t : Int)) (fun k t => t ≤ k) (by omega) (fun n k t hk ht => ?_) (fun n t ht => ?_) (t0 := 0) (Nat.le_refl _)).1
  · rw [size_fold] at this
    exact congrArg (fun o => optC o (fun q => some q) none) this
  · simp only [I.sizeOf_run3, I.sizeOf_step3]
    have hb : (s.testBit k).toNat ≤ 1 := by cases s.testBit k <;> decide
    rw [cnd_t (by simp; omega), cnd_f (by simp), bit_shr1 _ _ (by omega), add_nat (by omega), add1_nat (by omega)]
    exact ⟨rfl, by omega⟩
  · simp only [I.sizeOf_run3, I.sizeOf_step3]
    rw [cnd_f (by simp)]
theorem I.without_n {s p : Nat} (hs : s < 64) (hp : p < 6) : I.without_t s p = some (((if s.testBit p = true then s - 2 ^ p else s : Nat)) : Int) := by
  unfold I.without_t I.without_tree
  rw [cnd_f (by simp), one_shl (by omega), i64_andNot_nat _ _ (by omega) (pow2_lt (by omega)), bits_minus s hs p hp]

/-! ### The model's small functions -/
theorem S.l1Near_n {net : List Int} (h : Ok net) (s : Nat) : S.l1Near_t net s = some ((near net s : Nat) : Int) := by
  unfold S.l1Near_t S.l1Near_tree
  have h6 := h.hi
  have h64 := h.pow
  have := (run_for (run := S.l1Near_run3 net s) (len := net.length) (fun k (t : Nat) => ((t : Int), (k : Int))) (fun t k => if s.testBit k = true then t ||| nb net k else t) (fun t => (t : Int)) (fun k t => t < 2 ^ net.length) (by omega) (fun n k t hk ht => ?_) (fun n t ht => ?_) (t0 := 0) (Nat.two_pow_pos _)).1
  · exact congrArg (fun o => optC o (fun q => some q) none) this
  · simp only [S.l1Near_run3, S.l1Near_step3]
    have hb := h.lt k hk
    rw [cnd_t (by simp; omega), cnd_f (by simp), bit_shr _ _ (by omega), bool_eq1]
    cases hbit : s.testBit k with
    | true =>
      rw [cond_true, cnd_t (by simp; omega), Int.toNat_natCast, h.eli hk, if_pos rfl]
      rw [i64_or_nat _ _ (by omega) (by omega), add1_nat (by omega)]
      exact ⟨rfl, Nat.or_lt_two_pow ht hb⟩
    | false =>
      rw [cond_false, if_neg (by simp), add1_nat (by omega)]
      exact ⟨rfl, ht⟩
  · simp only [S.l1Near_run3, S.l1Near_step3]
    rw [cnd_f (by simp)]
theorem all_shl {net : List Int} (h : Ok net) : IntKind.i64.wrap (IntKind.i64.wrap (1 * 2 ^ min (↑net.length : Int).toNat IntKind.i64.bits) - 1) = ((allOf net : Nat) : Int) := by
  have h2 := h.pow
  have h3 : 0 < 2 ^ net.length := Nat.two_pow_pos _
  rw [one_shl (by have := h.hi; omega), sub1_nat (by omega) (by omega)]
  rfl
theorem S.l2Watch_n {net : List Int} (h : Ok net) {s : Nat} (hs : s < 2 ^ net.length) : S.l2Watch_t net s = some (W net s) := by
  unfold S.l2Watch_t S.l2Watch_tree
  rw [S.l1Near_n h]
  simp only [optC]
  have h1 := h.near_lt s
  have h64 := h.pow
  rw [all_shl h, i64_or_nat _ _ (by omega) (by omega), nat_beq]
  rfl
theorem l1Size_spec : ∀ s, s < 64 → size s = s % 2 + size (s / 2) := by decide +kernel
theorem S.l1Size_n {s : Nat} (hs : s < 64) : S.l1Size_t s = some ((size s : Nat) : Int) := by
  unfold S.l1Size_t S.l1Size_tree
  have : S.l1Size_run2 FUEL ((s : Int), 0) = some ((size s : Nat) : Int) := by
    refine run_fuel (run := S.l1Size_run2) (fun q => ∃ a t : Nat, q = ((a : Int), (t : Int)) ∧ a < 64 ∧ t + size a = size s) (fun q => q.1.toNat) (fun _ => ((size s : Nat) : Int)) ?_ ⟨s, 0, rfl, hs, by omega⟩ (by simp only [Int.toNat_natCast]; omega)
    rintro n _ ⟨a, t, rfl, ha, ht⟩
    have hz := size_le s
    simp only [S.l1Size_run2, S.l1Size_step2]
    by_cases h0 : a = 0
    · subst h0
      left
      rw [cnd_f (by simp)]
      have : size 0 = 0 := by decide
      rw [← ht, this]; rfl
    · right
      have h1 := l1Size_spec a ha
      rw [cnd_t (by simp; omega), div2_nat (by omega), tmod2_nat, add_nat (by omega)]
      exact ⟨_, rfl, ⟨_, _, rfl, by omega, by omega⟩, by simp only [Int.toNat_natCast]; omega, trivial⟩
  rw [this]; rfl
end Go.Proofs.Ytleianhibhpgpaa
/- What the functions on watches come to. Conditions: those of each theorem. -/
namespace Go.Proofs.Ytleianhibhpgpaa
open D Go.RowKit
set_option linter.unusedVariables false
set_option linter.unusedSimpArgs false


theorem allOf_succ (net : List Int) : allOf net + 1 = 2 ^ net.length := by
  have : 0 < 2 ^ net.length := Nat.two_pow_pos _
  unfold allOf; omega
/-- The least of all, or what one began with. -/
theorem minFold {N : Nat} {p : Nat → Bool} {f : Nat → Nat} (t0 : Nat) :
    (∀ s, s < N → p s = true → fold N (fun t s => if p s = true then (if f s < t then f s else t) else t) t0 ≤ f s) ∧ fold N (fun t s => if p s = true then (if f s < t then f s else t) else t) t0 ≤ t0 ∧
    (fold N (fun t s => if p s = true then (if f s < t then f s else t) else t) t0 = t0 ∨ ∃ s, s < N ∧ p s = true ∧ f s = fold N (fun t s => if p s = true then (if f s < t then f s else t) else t) t0) := by
  induction N with
  | zero => exact ⟨fun s hs => by omega, Nat.le_refl _, .inl rfl⟩
  | succ N ih =>
    rw [fold_succ]
    generalize fold N _ t0 = g at ih ⊢
    obtain ⟨h1, h2, h3⟩ := ih
    cases hp : p N with
    | false =>
      simp only [Bool.false_eq_true, if_false]
      refine ⟨fun s hs hps => ?_, h2, ?_⟩
      · by_cases he : s = N
        · subst he; rw [hp] at hps; cases hps
        · exact h1 s (by omega) hps
      · rcases h3 with h3 | ⟨s, a, b⟩
        · exact .inl h3
        · exact .inr ⟨s, by omega, b⟩
    | true =>
      simp only [if_true]
      refine ⟨fun s hs hps => ?_, by split <;> omega, ?_⟩
      · by_cases he : s = N
        · subst he; split <;> omega
        · have := h1 s (by omega) hps
          split <;> omega
      · split
        · exact .inr ⟨N, by omega, hp, rfl⟩
        · rcases h3 with h3 | ⟨s, a, b⟩
          · exact .inl h3
          · exact .inr ⟨s, by omega, b⟩
theorem size_all {net : List Int} (h : Ok net) : size (allOf net) = net.length := by
  rw [size_cnt h (allOf_lt net), cnt_congr (q := fun _ => true) (fun k hk => by rw [allOf_testBit]; simpa using hk), cnt_true]
theorem size_le_len {net : List Int} (h : Ok net) {s : Nat} (hs : s < 2 ^ net.length) : size s ≤ net.length := by
  rw [size_cnt h hs]; exact cnt_le _ _
theorem size_lt_len {net : List Int} (h : Ok net) {s : Nat} (hs : s < allOf net) : size s < net.length := by
  have hs' : s < 2 ^ net.length := Nat.lt_trans hs (allOf_lt net)
  have : ∃ k, k < net.length ∧ s.testBit k = false := by
    refine Classical.byContradiction fun hc => ?_
    have : s = allOf net := eq_of_bits hs' (allOf_lt net) fun j hj => by
      rw [allOf_testBit]
      cases hb : s.testBit j with
      | true => simpa using hj
      | false => exact absurd ⟨j, hj, hb⟩ hc
    omega
  obtain ⟨k, hk, hb⟩ := this
  rw [size_cnt h hs']
  exact cnt_lt_of hk hb
/-- The fewest guards that watch. -/
def fewest (net : List Int) : Nat := fold (2 ^ net.length) (fun t s => if W net s = true then (if size s < t then size s else t) else t) net.length
theorem fewest_few {net : List Int} (h : Ok net) : Few net (fewest net) := by
  obtain ⟨h1, h2, h3⟩ := minFold (N := 2 ^ net.length) (p := W net) (f := size) net.length
  refine ⟨?_, h1⟩
  rcases h3 with h3 | h3
  · exact ⟨allOf net, allOf_lt net, W_all h, by rw [size_all h]; exact h3.symm⟩
  · exact h3
/-- The first of the smallest watches. -/
structure First (net : List Int) (r : Nat) : Prop where
  lt : r < 2 ^ net.length
  w : W net r = true
  le : ∀ s, s < 2 ^ net.length → W net s = true → size r ≤ size s
  first : ∀ s, s < r → W net s = true → size r < size s
theorem First.few {net : List Int} {r : Nat} (h : First net r) : Few net (size r) := ⟨⟨r, h.lt, h.w, rfl⟩, h.le⟩
theorem First.uniq {net : List Int} {r q : Nat} (h : First net r) (g : First net q) : r = q := by
  have h1 := h.few.uniq g.few
  rcases Nat.lt_trichotomy r q with hl | hl | hl
  · have := g.first r hl h.w; omega
  · exact hl
  · have := h.first q hl g.w; omega
theorem small_first {net : List Int} (h : Ok net) : First net (fold (allOf net) (fun t s => if (decide (size s < size t) && W net s) = true then s else t) (allOf net)) := by
  have key : ∀ k, k ≤ allOf net → ∀ t, t = fold k (fun t s => if (decide (size s < size t) && W net s) = true then s else t) (allOf net) →
      t < 2 ^ net.length ∧ W net t = true ∧ (∀ s, s < k → W net s = true → size t ≤ size s) ∧ (t = allOf net ∨ t < k) ∧ ∀ s, s < t → s < k → W net s = true → size t < size s := by
    intro k
    induction k with
    | zero => rintro _ t rfl; exact ⟨allOf_lt net, W_all h, fun s hs => by omega, .inl rfl, fun s _ hs => by omega⟩
    | succ k ih =>
      rintro hk t rfl
      rw [fold_succ]
      obtain ⟨h1, h2, h3, h4, h5⟩ := ih (by omega) _ rfl
      generalize fold k _ (allOf net) = g at h1 h2 h3 h4 h5 ⊢
      cases hc : (decide (size k < size g) && W net k) with
      | true =>
        simp only [if_true]
        rw [Bool.and_eq_true, decide_eq_true_eq] at hc
        refine ⟨by have := allOf_lt net; omega, hc.2, fun s hs hw => ?_, .inr (by omega), fun s hs _ hw => ?_⟩
        · by_cases he : s = k
          · subst he; exact Nat.le_refl _
          · have := h3 s (by omega) hw; omega
        · have := h3 s (by omega) hw; omega
      | false =>
        simp only [Bool.false_eq_true, if_false]
        have hno : W net k = true → size g ≤ size k := fun hw => by
          rw [hw, Bool.and_true] at hc
          simpa using hc
        refine ⟨h1, h2, fun s hs hw => ?_, by omega, fun s hs hs2 hw => ?_⟩
        · by_cases he : s = k
          · subst he; exact hno hw
          · exact h3 s (by omega) hw
        · by_cases he : s = k
          · subst he
            have hg : g = allOf net := by omega
            have := hno hw
            have := size_lt_len h (s := s) (by omega)
            rw [hg, size_all h] at *
            omega
          · exact h5 s hs (by omega) hw
  obtain ⟨h1, h2, h3, h4, h5⟩ := key (allOf net) (Nat.le_refl _) _ rfl
  generalize fold (allOf net) _ (allOf net) = g at h1 h2 h3 h4 h5 ⊢
  have hs := allOf_succ net
  refine ⟨h1, h2, fun s hs2 hw => ?_, fun s hs2 hw => h5 s hs2 (by omega) hw⟩
  by_cases he : s = allOf net
  · subst he; rw [size_all h]; exact size_le_len h h1
  · exact h3 s (by omega) hw
def smallest (net : List Int) : Nat := fold (allOf net) (fun t s => if (decide (size s < size t) && W net s) = true then s else t) (allOf net)
theorem size_smallest {net : List Int} (h : Ok net) : size (smallest net) = fewest net := (small_first h).few.uniq (fewest_few h)

theorem I.smallWatchIn_n {net : List Int} (h : Ok net) : I.smallWatchIn_t net = some ((smallest net : Nat) : Int) := by
  unfold I.smallWatchIn_t I.smallWatchIn_tree
  have h64 := h.pow
  have hsu := allOf_succ net
  rw [I.allOf_n h]
  have := (run_for (run := I.smallWatchIn_run3 net) (len := allOf net) (fun k (t : Nat) => ((t : Int), (k : Int))) (fun t s => if (decide (size s < size t) && W net s) = true then s else t) (fun t => (t : Int)) (fun k t => t < 2 ^ net.length) (by omega) (fun n k t hk ht => ?_) (fun n t ht => ?_) (t0 := allOf net) (by omega)).1
  · exact congrArg (fun o => optC o (fun q => some q) none) this
  · simp only [I.smallWatchIn_run3, I.smallWatchIn_step3]
    rw [I.allOf_n h]
    simp only [optC]
    rw [cnd_t (by simp; omega), I.sizeOf_n, I.sizeOf_n]
    simp only
    by_cases hc : size k < size t
    · rw [cnd_t (by simp; omega), I.watchIn_n h (by omega)]
      simp only [hc, decide_true, Bool.true_and]
      cases hw : W net k with
      | true => simp only [cond_true, if_true]; rw [add1_nat (by omega)]; exact ⟨rfl, by omega⟩
      | false => simp only [cond_false, Bool.false_eq_true, if_false]; rw [add1_nat (by omega)]; exact ⟨rfl, ht⟩
    · rw [cnd_f (by simp; omega)]
      simp only [hc, decide_false, Bool.false_and, Bool.false_eq_true, if_false]
      rw [add1_nat (by omega)]; exact ⟨rfl, ht⟩
  · simp only [I.smallWatchIn_run3, I.smallWatchIn_step3]
    rw [I.allOf_n h]
    simp only [optC]
    rw [cnd_f (by simp)]
theorem pow_shl {net : List Int} (h : Ok net) : IntKind.i64.wrap (1 * 2 ^ min (↑net.length : Int).toNat IntKind.i64.bits) = ((2 ^ net.length : Nat) : Int) := one_shl (by have := h.hi; omega)
theorem S.FewestWatch_y {net : List Int} (h : Ok net) (e : S.NetOk_t net = some true) : S.FewestWatch_t net = some ((fewest net : Nat) : Int) := by
  unfold S.FewestWatch_t S.FewestWatch_tree
  have h64 := h.pow
  have hn := h.hi
  rw [e]
  have := (run_for (run := S.FewestWatch_run5 net) (len := 2 ^ net.length) (fun k (t : Nat) => ((t : Int), (k : Int))) (fun t s => if W net s = true then (if size s < t then size s else t) else t) (fun t => (t : Int)) (fun k t => t ≤ 6) (by omega) (fun n k t hk ht => ?_) (fun n t ht => ?_) (t0 := net.length) (by omega)).1
  · exact congrArg (fun o => optC o (fun q => some q) none) this
  · simp only [S.FewestWatch_run5, S.FewestWatch_step5]
    rw [pow_shl h, cnd_t (by rw [decide_eq_true_eq]; omega), S.l2Watch_n h hk]
    simp only [optC]
    have hz := size_le k
    cases hw : W net k with
    | true =>
      rw [cond_true, S.l1Size_n (by omega)]
      simp only [if_true]
      rw [add1_nat (by omega)]
      by_cases hc : size k < t
      · rw [if_pos (by omega), if_pos hc]; exact ⟨rfl, by omega⟩
      · rw [if_neg (by omega), if_neg hc]; exact ⟨rfl, by omega⟩
    | false => simp only [cond_false, Bool.false_eq_true, if_false]; rw [add1_nat (by omega)]; exact ⟨rfl, ht⟩
  · simp only [S.FewestWatch_run5, S.FewestWatch_step5]
    rw [pow_shl h, cnd_f (by rw [decide_eq_false_iff_not]; omega)]
theorem I.FewestWatch_y {net : List Int} (h : Ok net) (e : I.NetOk_t net = some true) : I.FewestWatch_t net = some ((fewest net : Nat) : Int) := by
  unfold I.FewestWatch_t I.FewestWatch_tree
  rw [e, I.smallWatchIn_n h]
  simp only [optC, Bool.not_true, cond_false]
  rw [I.sizeOf_n, size_smallest h]
/-- A search that counts up. -/
theorem run_search {D F : Type} {run : Nat → Int → Option (D ⊕ F)} {len : Nat} (f : Nat → Option D) (e : F) (hl : len ≤ 1000000)
    (h : ∀ n k, k < len → run (n + 1) (k : Int) = (match f k with | some d => some (.inl d) | none => run n ((k + 1 : Nat) : Int))) (he : ∀ n, run (n + 1) (len : Int) = some (.inr e)) :
    run FUEL 0 = some (match find len f with | some d => .inl d | none => .inr e) := by
  refine run_find (run := run) (len := len) f e (by omega) (fun n x h0 h1 => ?_)
  obtain ⟨k, rfl⟩ : ∃ k : Nat, x = k := ⟨x.toNat, by omega⟩
  by_cases hk : k < len
  · rw [if_pos (by omega), h n k hk, Int.toNat_natCast]
    rfl
  · obtain rfl : k = len := by omega
    rw [if_neg (by omega), he]
/-! ### Least watches -/
end Go.Proofs.Ytleianhibhpgpaa
/- What the functions of chapter 1 come to. Conditions: those of each theorem. -/
namespace Go.Proofs.Ytleianhibhpgpaa
open D Go.RowKit
set_option linter.unusedVariables false
set_option linter.unusedSimpArgs false


/-! ### Wires -/
def ends (net : List Int) : Nat := sumN net.length (fun k => size (nb net k))
def wires (net : List Int) : Nat := ends net / 2
/-! ### Parts -/
/-! ### Lone places -/
def lone (net : List Int) : Nat := orN net.length (fun k => nb net k == 0) (fun k => 2 ^ k)
end Go.Proofs.Ytleianhibhpgpaa
/- Wires and parts: plain facts. Conditions: those of each theorem. -/
namespace Go.Proofs.Ytleianhibhpgpaa
set_option linter.unusedVariables false
set_option linter.unusedSimpArgs false

theorem cnt_below (N m : Nat) (hm : m ≤ N) : cnt N (fun i => decide (i < m)) = m := by
  induction N with
  | zero => obtain rfl : m = 0 := by omega
            rfl
  | succ N ih =>
    show cnt N (fun i => decide (i < m)) + (decide (N < m)).toNat = m
    by_cases hmN : m ≤ N
    · rw [ih hmN]; simp; omega
    · obtain rfl : m = N + 1 := by omega
      rw [cnt_congr (q := fun _ => true) (fun k hk => by simp; omega), cnt_true]; simp
/-- After m steps from the least places of the parts. -/
def lvl (net : List Int) (m k : Nat) : Bool := (List.range net.length).any fun r => root net r && (steps net (allOf net) m (2 ^ r)).testBit k
theorem lvl_iff {net : List Int} {m k : Nat} : lvl net m k = true ↔ ∃ r, r < net.length ∧ root net r = true ∧ (steps net (allOf net) m (2 ^ r)).testBit k = true := by
  unfold lvl
  simp only [List.any_eq_true, List.mem_range, Bool.and_eq_true]
theorem lvl_succ {net : List Int} {m k : Nat} (h : lvl net m k = true) : lvl net (m + 1) k = true := by
  obtain ⟨r, a, b, c⟩ := lvl_iff.1 h
  exact lvl_iff.2 ⟨r, a, b, (grow_testBit _ _ _ _).2 (.inl c)⟩
theorem lvl_mono {net : List Int} {m m' k : Nat} (hm : m ≤ m') (h : lvl net m k = true) : lvl net m' k = true := by
  induction m' with
  | zero => obtain rfl : m = 0 := by omega
            exact h
  | succ m' ih =>
    by_cases he : m = m' + 1
    · rw [← he]; exact h
    · exact lvl_succ (ih (by omega))
def lev (net : List Int) (k : Nat) : Nat := cnt 6 (fun m => !lvl net m k)
theorem root_of {net : List Int} (h : Ok net) {k : Nat} (hk : k < net.length) : ∃ r, r ≤ k ∧ root net r = true ∧ comp net r = comp net k := by
  have key : ∀ m, m ≤ k → (∃ r, r ≤ k ∧ root net r = true ∧ comp net r = comp net k) ∨ ∀ j, j < m → (comp net k).testBit j = false := by
    intro m
    induction m with
    | zero => intro _; right; intro j hj; omega
    | succ m ih =>
      intro hm
      rcases ih (by omega) with h1 | h1
      · exact .inl h1
      · cases hb : (comp net k).testBit m with
        | true =>
          left
          have he := h.comp_same hk (by omega) hb
          exact ⟨m, by omega, root_iff.2 fun j hj => by rw [← he]; exact h1 j hj, he.symm⟩
        | false =>
          right
          intro j hj
          by_cases hjm : j = m
          · rw [hjm]; exact hb
          · exact h1 j (by omega)
  rcases key k (Nat.le_refl _) with h1 | h1
  · exact h1
  · exact ⟨k, Nat.le_refl _, root_iff.2 h1, rfl⟩
theorem lvl_six {net : List Int} (h : Ok net) {k : Nat} (hk : k < net.length) : lvl net 6 k = true := by
  obtain ⟨r, hr, hroot, he⟩ := root_of h hk
  refine lvl_iff.2 ⟨r, by omega, hroot, ?_⟩
  have e2 : comp net r = steps net (allOf net) 6 (2 ^ r) := (h.comp_eq (by omega) (by have := h.hi; omega)).symm
  rw [← e2, he]
  exact h.comp_self hk
/-- Each place that is not the least one of its part has a neighbour that is nearer. -/
theorem nearer {net : List Int} (h : Ok net) {k : Nat} (hk : k < net.length) (hr : root net k = false) : ∃ j, j < net.length ∧ (nb net k).testBit j = true ∧ lev net j < lev net k := by
  have h0 : lvl net 0 k = false := by
    cases hb : lvl net 0 k with
    | false => rfl
    | true =>
      obtain ⟨r, a, b, c⟩ := lvl_iff.1 hb
      have : r = k := by
        have c' : (2 ^ r).testBit k = true := c
        rw [testBit_pow] at c'; simpa using c'
      rw [this] at b; rw [b] at hr; cases hr
  have hex : ∀ m, m ≤ 6 → lvl net m k = true → ∃ q, q < m ∧ lvl net q k = false ∧ lvl net (q + 1) k = true := by
    intro m
    induction m with
    | zero => intro _ hb; rw [h0] at hb; cases hb
    | succ m ih =>
      intro hm hb
      cases hc : lvl net m k with
      | false => exact ⟨m, by omega, hc, hb⟩
      | true => obtain ⟨q, a, b⟩ := ih (by omega) hc; exact ⟨q, by omega, b⟩
  obtain ⟨q, hq, hqf, hqt⟩ := hex 6 (Nat.le_refl _) (lvl_six h hk)
  obtain ⟨r, a, b, c⟩ := lvl_iff.1 hqt
  rcases (grow_testBit _ _ _ _).1 c with c1 | ⟨⟨j, hj, c1, c2⟩, _⟩
  · rw [lvl_iff.2 ⟨r, a, b, c1⟩] at hqf; cases hqf
  · refine ⟨j, hj, by rw [h.sym j k hj hk]; exact c2, ?_⟩
    have hjl : lvl net q j = true := lvl_iff.2 ⟨r, a, b, c1⟩
    have h1 : lev net j ≤ q := by
      have := cnt_mono (n := 6) (p := fun m => !lvl net m j) (q := fun i => decide (i < q)) (fun m hm hp => by
        have hp' : lvl net m j = false := by simpa using hp
        rw [decide_eq_true_eq]
        refine Classical.byContradiction fun hc => ?_
        rw [lvl_mono (by omega) hjl] at hp'; cases hp')
      rw [cnt_below 6 q (by omega)] at this
      exact this
    have h2 : q + 1 ≤ lev net k := by
      have := cnt_mono (n := 6) (p := fun i => decide (i < q + 1)) (q := fun m => !lvl net m k) (fun m hm hp => by
        have hp' : m < q + 1 := by simpa using hp
        cases hx : lvl net m k with
        | false => rfl
        | true => rw [lvl_mono (by omega) hx] at hqf; cases hqf)
      rw [cnt_below 6 (q + 1) (by omega)] at this
      exact this
    omega
end Go.Proofs.Ytleianhibhpgpaa
/- Guards that are needed, guards apart, the chain of numbers: plain facts. Conditions: those of each theorem. -/
namespace Go.Proofs.Ytleianhibhpgpaa
set_option linter.unusedVariables false
set_option linter.unusedSimpArgs false

theorem not_true {b : Bool} (h : ¬ b = true) : b = false := by cases b with
  | true => exact absurd rfl h
  | false => rfl
theorem sees_self (net : List Int) (k : Nat) : (ball net k).testBit k = true := (ball_testBit _ _ _).2 (.inr rfl)
theorem seen_balls {net : List Int} (h : Ok net) {s : Nat} (hs : s < 2 ^ net.length) {j : Nat} : (seen net s).testBit j = true ↔ ∃ k, k < net.length ∧ s.testBit k = true ∧ (ball net k).testBit j = true := by
  rw [← h.seen_balls hs, orN_testBit]
theorem in_lt {net : List Int} {s k : Nat} (hs : s < 2 ^ net.length) (hk : s.testBit k = true) : k < net.length := testBit_lt hs hk

/-! ### Private places -/
def priv (net : List Int) (s g : Nat) : Nat := minus (ball net g) (seen net (s - 2 ^ g))
theorem zero_iff {a : Nat} : a = 0 ↔ ∀ j, a.testBit j = false := by
  constructor
  · rintro rfl j; exact Nat.zero_testBit j
  · intro ha; exact Nat.eq_of_testBit_eq fun j => by rw [ha j, Nat.zero_testBit]
theorem pos_iff {a : Nat} : a ≠ 0 ↔ ∃ j, a.testBit j = true := by
  rw [Ne, zero_iff]
  constructor
  · intro hn
    refine Classical.byContradiction fun hc => hn fun j => not_true fun hj => hc ⟨j, hj⟩
  · rintro ⟨j, hj⟩ ha; rw [ha j] at hj; cases hj
/-- Each guard has a place of its own. -/
def Needs (net : List Int) (s : Nat) : Prop := ∀ g, s.testBit g = true → ∃ j, (ball net g).testBit j = true ∧ ∀ i, s.testBit i = true → (ball net i).testBit j = true → i = g
def needs (net : List Int) (s : Nat) : Bool := (List.range net.length).all fun k => !(s.testBit k && priv net s k == 0)
theorem Needs.mono {net : List Int} {s t : Nat} (hst : ∀ j, t.testBit j = true → s.testBit j = true) (hn : Needs net s) : Needs net t := fun g hg => by
  obtain ⟨j, h1, h2⟩ := hn g (hst g hg)
  exact ⟨j, h1, fun i hi hb => h2 i (hst i hi) hb⟩
theorem Needs.zero (net : List Int) : Needs net 0 := fun g hg => by rw [Nat.zero_testBit] at hg; cases hg
theorem Needs.one (net : List Int) (k : Nat) : Needs net (2 ^ k) := fun g hg => by
  rw [testBit_pow, decide_eq_true_eq] at hg
  subst hg
  exact ⟨k, sees_self net k, fun i hi _ => by rw [testBit_pow, decide_eq_true_eq] at hi; exact hi.symm⟩
theorem or_testBit (s k j : Nat) : (s ||| 2 ^ k).testBit j = true ↔ s.testBit j = true ∨ j = k := by
  rw [Nat.testBit_or, Bool.or_eq_true, testBit_pow, decide_eq_true_eq]
  exact ⟨fun a => a.elim .inl (fun b => .inr b.symm), fun a => a.elim .inl (fun b => .inr b.symm)⟩
theorem or_lt {n s k : Nat} (hs : s < 2 ^ n) (hk : k < n) : s ||| 2 ^ k < 2 ^ n := Nat.or_lt_two_pow hs (Nat.pow_lt_pow_right (by omega) hk)
/-- A set that needs all guards, and does not with any further place. -/
def FullN (net : List Int) (s : Nat) : Prop := Needs net s ∧ ∀ k, k < net.length → s.testBit k = false → ¬ Needs net (s ||| 2 ^ k)
def fullN (net : List Int) (s : Nat) : Bool := ((List.range net.length).all fun k => !(!s.testBit k && needs net (s ||| 2 ^ k))) && needs net s
/-! ### Seen twice -/
/-- The places that two guards of a set see. -/
structure Twice (net : List Int) (s t : Nat) : Prop where
  lt : t < 2 ^ net.length
  bit : ∀ j, t.testBit j = true ↔ ∃ a b, s.testBit a = true ∧ s.testBit b = true ∧ a ≠ b ∧ (ball net a).testBit j = true ∧ (ball net b).testBit j = true
theorem Twice.uniq {net : List Int} {s t u : Nat} (ht : Twice net s t) (hu : Twice net s u) : t = u := Nat.eq_of_testBit_eq fun j => by rw [Bool.eq_iff_iff, ht.bit, hu.bit]
def twice (net : List Int) (s : Nat) : Nat := (fold net.length (fun (t : Nat × Nat) k => if s.testBit k = true then (t.1 ||| ball net k, t.2 ||| (t.1 &&& ball net k)) else t) (0, 0)).2
/-! ### Guards apart -/
def Apart (net : List Int) (s : Nat) : Prop := ∀ j k, s.testBit j = true → s.testBit k = true → (nb net j).testBit k = false
def apart (net : List Int) (s : Nat) : Bool := (near net s &&& s) == 0
theorem apart_iff {net : List Int} {s : Nat} (hs : s < 2 ^ net.length) : apart net s = true ↔ Apart net s := by
  unfold apart
  rw [beq_iff_eq, zero_iff]
  constructor
  · intro ha j k hj hk
    have := ha k
    rw [Nat.testBit_and, hk, Bool.and_true] at this
    refine not_true fun hb => ?_
    rw [(near_testBit _ _ _).2 ⟨j, in_lt hs hj, hj, hb⟩] at this; cases this
  · intro ha j
    refine not_true fun hb => ?_
    rw [Nat.testBit_and, Bool.and_eq_true, near_testBit] at hb
    obtain ⟨⟨k, _, h1, h2⟩, h3⟩ := hb
    rw [ha k j h1 h3] at h2; cases h2
theorem Apart.mono {net : List Int} {s t : Nat} (hst : ∀ j, t.testBit j = true → s.testBit j = true) (h : Apart net s) : Apart net t := fun j k hj hk => h j k (hst j hj) (hst k hk)
theorem Apart.zero (net : List Int) : Apart net 0 := fun j k hj _ => by rw [Nat.zero_testBit] at hj; cases hj
theorem Apart.one {net : List Int} (h : Ok net) {k : Nat} (hk : k < net.length) : Apart net (2 ^ k) := fun i j hi hj => by
  rw [testBit_pow, decide_eq_true_eq] at hi hj
  subst hi; subst hj
  exact h.irr _ hk
theorem apart_only {net : List Int} (h : Ok net) {s : Nat} (hs : s < 2 ^ net.length) (ha : Apart net s) {g : Nat} (hg : s.testBit g = true) : ∀ i, s.testBit i = true → (ball net i).testBit g = true → i = g := fun i hi hb => by
  rcases (ball_testBit _ _ _).1 hb with a | a
  · rw [ha i g hi hg] at a; cases a
  · exact a
theorem Apart.needs {net : List Int} (h : Ok net) {s : Nat} (hs : s < 2 ^ net.length) (ha : Apart net s) : Needs net s := fun g hg => ⟨g, sees_self net g, apart_only h hs ha hg⟩
theorem Apart.add {net : List Int} (h : Ok net) {s k : Nat} (hs : s < 2 ^ net.length) (hk : k < net.length) (ha : Apart net s) (hn : ∀ j, s.testBit j = true → (nb net k).testBit j = false) : Apart net (s ||| 2 ^ k) := fun i j hi hj => by
  rw [or_testBit] at hi hj
  rcases hi with hi | hi
  · rcases hj with hj | hj
    · exact ha i j hi hj
    · rw [hj, h.sym k i hk (in_lt hs hi)]; exact hn i hi
  · rcases hj with hj | hj
    · rw [hi]; exact hn j hj
    · rw [hi, hj]; exact h.irr k hk
def fullA (net : List Int) (s : Nat) : Bool := apart net s && (List.range net.length).all fun k => !(!s.testBit k && apart net (s ||| 2 ^ k))
/-! ### Grown sets -/
def grownStep (net : List Int) (t k : Nat) : Nat := if (!t.testBit k && (nb net k &&& t) == 0) = true then t ||| 2 ^ k else t
def grown (net : List Int) (s : Nat) : Nat := fold net.length (grownStep net) s
end Go.Proofs.Ytleianhibhpgpaa
/- The chain of numbers: plain facts. Conditions: those of each theorem. -/
namespace Go.Proofs.Ytleianhibhpgpaa
set_option linter.unusedVariables false
set_option linter.unusedSimpArgs false

/-- The least number of places of sets of a kind, and the greatest. -/
structure MinOf (net : List Int) (p : Nat → Bool) (m : Nat) : Prop where
  ex : ∃ s, s < 2 ^ net.length ∧ p s = true ∧ size s = m
  le : ∀ s, s < 2 ^ net.length → p s = true → m ≤ size s
structure MaxOf (net : List Int) (p : Nat → Bool) (m : Nat) : Prop where
  ex : ∃ s, s < 2 ^ net.length ∧ p s = true ∧ size s = m
  le : ∀ s, s < 2 ^ net.length → p s = true → size s ≤ m
theorem MinOf.uniq {net : List Int} {p : Nat → Bool} {a b : Nat} (ha : MinOf net p a) (hb : MinOf net p b) : a = b := by
  obtain ⟨s, h1, h2, h3⟩ := ha.ex
  obtain ⟨t, g1, g2, g3⟩ := hb.ex
  have := ha.le t g1 g2
  have := hb.le s h1 h2
  omega
theorem MaxOf.uniq {net : List Int} {p : Nat → Bool} {a b : Nat} (ha : MaxOf net p a) (hb : MaxOf net p b) : a = b := by
  obtain ⟨s, h1, h2, h3⟩ := ha.ex
  obtain ⟨t, g1, g2, g3⟩ := hb.ex
  have := ha.le t g1 g2
  have := hb.le s h1 h2
  omega
def minSize (net : List Int) (p : Nat → Bool) : Nat := fold (2 ^ net.length) (fun t s => if p s = true then (if size s < t then size s else t) else t) net.length
def maxSize (net : List Int) (p : Nat → Bool) : Nat := fold (2 ^ net.length) (fun t s => if p s = true then (if size s > t then size s else t) else t) 0
theorem minSize_is {net : List Int} (h : Ok net) {p : Nat → Bool} (hex : ∃ s, s < 2 ^ net.length ∧ p s = true) : MinOf net p (minSize net p) := by
  obtain ⟨h1, h2, h3⟩ := minFold (N := 2 ^ net.length) (p := p) (f := size) net.length
  refine ⟨?_, h1⟩
  rcases h3 with h3 | h3
  · obtain ⟨s, hs, hp⟩ := hex
    have := h1 s hs hp
    have := size_le_len h hs
    exact ⟨s, hs, hp, by unfold minSize; omega⟩
  · exact h3
theorem maxFoldP {N : Nat} {p : Nat → Bool} {f : Nat → Nat} :
    (∀ s, s < N → p s = true → f s ≤ fold N (fun t s => if p s = true then (if f s > t then f s else t) else t) 0) ∧
    (fold N (fun t s => if p s = true then (if f s > t then f s else t) else t) 0 = 0 ∨ ∃ s, s < N ∧ p s = true ∧ f s = fold N (fun t s => if p s = true then (if f s > t then f s else t) else t) 0) := by
  induction N with
  | zero => exact ⟨fun s hs => by omega, .inl rfl⟩
  | succ N ih =>
    rw [fold_succ]
    generalize fold N _ 0 = g at ih ⊢
    obtain ⟨h1, h3⟩ := ih
    cases hp : p N with
    | false =>
      simp only [Bool.false_eq_true, if_false]
      refine ⟨fun s hs hps => ?_, ?_⟩
      · by_cases he : s = N
        · subst he; rw [hp] at hps; cases hps
        · exact h1 s (by omega) hps
      · rcases h3 with h3 | ⟨s, a, b⟩
        · exact .inl h3
        · exact .inr ⟨s, by omega, b⟩
    | true =>
      simp only [if_true]
      refine ⟨fun s hs hps => ?_, ?_⟩
      · by_cases he : s = N
        · subst he; split <;> omega
        · have := h1 s (by omega) hps
          split <;> omega
      · split
        · exact .inr ⟨N, by omega, hp, rfl⟩
        · rcases h3 with h3 | ⟨s, a, b⟩
          · exact .inl h3
          · exact .inr ⟨s, by omega, b⟩
theorem maxSize_is {net : List Int} {p : Nat → Bool} (hex : ∃ s, s < 2 ^ net.length ∧ p s = true) : MaxOf net p (maxSize net p) := by
  obtain ⟨h1, h3⟩ := maxFoldP (N := 2 ^ net.length) (p := p) (f := size)
  refine ⟨?_, h1⟩
  rcases h3 with h3 | h3
  · obtain ⟨s, hs, hp⟩ := hex
    have := h1 s hs hp
    exact ⟨s, hs, hp, by unfold maxSize; omega⟩
  · exact h3
/-! ### What there is of each kind -/
theorem ex_apart (net : List Int) : ∃ s, s < 2 ^ net.length ∧ apart net s = true := ⟨0, Nat.two_pow_pos _, (apart_iff (Nat.two_pow_pos _)).2 (Apart.zero net)⟩
theorem size_add {s k : Nat} (hs : s < 64) (hk : k < 6) (hb : s.testBit k = false) : size (s ||| 2 ^ k) = size s + 1 := bits_or s hs k hk hb
theorem size_pos {s : Nat} (hs : s < 64) {k : Nat} (hk : k < 6) (hb : s.testBit k = true) : 1 ≤ size s := by
  have := (bits_sub s hs k hk hb).2.2.1
  omega
/-! ### A full set and its private places watch -/
/-! ### Bounds by balls, and nets without wires -/
/-! ### How many sets are apart -/
def apartCount (net : List Int) : Nat := cnt (2 ^ net.length) (apart net)
end Go.Proofs.Ytleianhibhpgpaa
/- Guards near each other: plain facts of total and joined watches. Conditions: those of each theorem. -/
namespace Go.Proofs.Ytleianhibhpgpaa
set_option linter.unusedVariables false
set_option linter.unusedSimpArgs false

/-! ### Total watches -/
def total (net : List Int) (s : Nat) : Bool := near net s == allOf net
theorem or2 (s t j : Nat) : (s ||| t).testBit j = true ↔ s.testBit j = true ∨ t.testBit j = true := by rw [Nat.testBit_or, Bool.or_eq_true]
/-! ### Sets that stand together -/
def Together (net : List Int) (s : Nat) : Prop := s ≠ 0 ∧ ∀ i j, s.testBit i = true → s.testBit j = true → Reach net s i j
theorem Reach.mono {net : List Int} {A B i j : Nat} (hAB : ∀ k, A.testBit k = true → B.testBit k = true) (hr : Reach net A i j) : Reach net B i j := by
  induction hr with
  | here ha => exact .here (hAB _ ha)
  | step _ hj hn ha ih => exact .step ih hj hn (hAB _ ha)
/-- From within to without there is a wire. -/
theorem leaves {net : List Int} {A i j t : Nat} (hr : Reach net A i j) (hi : t.testBit i = true) (hj : t.testBit j = false) : ∃ u v, t.testBit u = true ∧ t.testBit v = false ∧ u < net.length ∧ (nb net u).testBit v = true := by
  induction hr with
  | here _ => rw [hi] at hj; cases hj
  | @step a b hr hl hn _ ih =>
    cases hb : t.testBit a with
    | true => exact ⟨a, b, hb, hj, hl, hn⟩
    | false => exact ih hb
end Go.Proofs.Ytleianhibhpgpaa
/- The game by turns: plain facts. Conditions: those of each theorem. -/
namespace Go.Proofs.Ytleianhibhpgpaa
set_option linter.unusedVariables false
set_option linter.unusedSimpArgs false

/-- The best of the numbers of those that pass a test: the least one, or the greatest. -/
def bestStep (p : Nat → Bool) (f : Nat → Nat) (few : Bool) (o : Option Nat) (k : Nat) : Option Nat :=
  if p k = true then (match o with
    | none => some (f k)
    | some b => if (few && decide (f k < b) || !few && decide (f k > b)) = true then some (f k) else some b) else o
def bestN (n : Nat) (p : Nat → Bool) (f : Nat → Nat) (few : Bool) : Option Nat := fold n (bestStep p f few) none
/-- May a guard be put there? -/
def leg (net : List Int) (A k : Nat) : Bool := minus (ball net k) A != 0
/-- How many guards it takes, as far as n more can be. -/
def gv (net : List Int) : Nat → Nat → Bool → Nat
  | 0, _, _ => 0
  | n + 1, A, few => (bestN net.length (leg net A) (fun k => 1 + gv net n (A ||| ball net k) (!few)) few).getD 0
def game (net : List Int) (A : Nat) (few : Bool) : Nat := gv net 6 A few
end Go.Proofs.Ytleianhibhpgpaa
/- Lists of watches, counts of watches, thinned watches. Conditions: those of each theorem. -/
namespace Go.Proofs.Ytleianhibhpgpaa
open D Go.RowKit
set_option linter.unusedVariables false
set_option linter.unusedSimpArgs false


/-- All numbers below N of a kind. -/
def listOfN (N : Nat) (p : Nat → Bool) : List Int := fold N (fun l s => if p s = true then l ++ [(s : Int)] else l) []
theorem listOfN_len (N : Nat) (p : Nat → Bool) : (listOfN N p).length ≤ N := by
  unfold listOfN
  induction N with
  | zero => exact Nat.le_refl _
  | succ N ih =>
    rw [fold_succ]
    split
    · rw [List.length_append]; simp only [List.length_singleton]; omega
    · omega
/-- How many watches there are of each number of places. -/
def counts (net : List Int) : List Int := fold (2 ^ net.length) (fun l s => if W net s = true then l.set (size s) (D.eli l (size s) + 1) else l) (List.replicate (net.length + 1) 0)
theorem eli_set {l : List Int} {a b : Nat} {v : Int} (ha : a < l.length) : D.eli (l.set a v) b = if a = b then v else D.eli l b := by
  unfold D.eli
  by_cases h : a = b
  · subst h; simp [List.getD, ha]
  · simp [List.getD, List.getElem?_set_ne h, h]
theorem eli_rep (n k : Nat) : D.eli (List.replicate n 0) k = 0 := by
  unfold D.eli
  by_cases h : k < n <;> simp [List.getD, h]
/-- The bounds of the counts on the way. -/
def CInv (net : List Int) (k : Nat) (t : List Int) : Prop := t.length = net.length + 1 ∧ ∀ j, 0 ≤ D.eli t j ∧ D.eli t j ≤ k
theorem CInv.step {net : List Int} (h : Ok net) {k : Nat} {t : List Int} (hk : k < 2 ^ net.length) (ht : CInv net k t) : CInv net (k + 1) (if W net k = true then t.set (size k) (D.eli t (size k) + 1) else t) := by
  have hz := size_le_len h hk
  split
  · refine ⟨by rw [List.length_set]; exact ht.1, fun j => ?_⟩
    rw [eli_set (by rw [ht.1]; omega)]
    have h1 := ht.2 j
    have h2 := ht.2 (size k)
    split <;> omega
  · exact ⟨ht.1, fun j => by have := ht.2 j; omega⟩
theorem CInv.zero (net : List Int) : CInv net 0 (List.replicate (net.length + 1) 0) := ⟨by simp, fun j => by rw [eli_rep]; omega⟩
/-- What is left of a watch. -/
def thinStep (net : List Int) (t p : Nat) : Nat := if (t.testBit p && W net (t - 2 ^ p)) = true then t - 2 ^ p else t
def thin (net : List Int) (s : Nat) : Nat := fold net.length (fun t k => thinStep net t (net.length - 1 - k)) s
end Go.Proofs.Ytleianhibhpgpaa
/- What the exact laws need of rows that are marked. Conditions: those of each theorem. -/
namespace Go.Proofs.Ytleianhibhpgpaa
open D Go.RowKit
set_option linter.unusedVariables false
set_option linter.unusedSimpArgs false


theorem eli_set2 {l : List Int} {a b : Nat} {v : Int} (ha : a < l.length) : D.eli (l.set a v) b = if a = b then v else D.eli l b := by
  unfold D.eli
  by_cases h : a = b
  · subst h; simp [List.getD, ha]
  · simp [List.getD, List.getElem?_set_ne h, h]
theorem L.markIntS_is {a : List Int} {k0 : Nat} (ha : a.length ≤ 3000000) (hk0 : k0 ≤ 3000000) : ∃ m : List Int, L.markIntS_t a k0 = some (((k0 + a.length : Nat) : Int), m) ∧ m.length = a.length ∧ ∀ j, j < a.length → D.eli m j = ((k0 + j : Nat) : Int) := by
  unfold L.markIntS_t L.markIntS_tree
  have := run_for (run := L.markIntS_run2) (len := a.length) (fun k (t : List Int) => (((k0 + k : Nat) : Int), (k : Int), t)) (fun t k => t.set k ((k0 + k : Nat) : Int)) (fun t => (((k0 + a.length : Nat) : Int), t)) (fun k t => t.length = a.length ∧ ∀ j, j < k → D.eli t j = ((k0 + j : Nat) : Int)) (by omega) (fun n k t hk ht => ?_) (fun n t ht => ?_) (t0 := a) ⟨rfl, fun j hj => by omega⟩
  · refine ⟨_, ?_, this.2.1, this.2.2⟩
    exact congrArg (fun o => optC o (fun q => some (q.1, q.2)) none) this.1
  · refine ⟨?_, by rw [List.length_set]; exact ht.1, fun j hj => ?_⟩
    · simp only [L.markIntS_run2, L.markIntS_step2]
      have := ht.1
      rw [cnd_t (by simp; omega), cnd_t (by simp; omega), cnd_t (by simp; omega), Int.toNat_natCast, add1_nat (by omega), add1_nat (by omega)]
      rfl
    · rw [eli_set2 (by rw [ht.1]; exact hk)]
      by_cases hkj : k = j
      · rw [if_pos hkj, hkj]
      · rw [if_neg hkj]; exact ht.2 j (by omega)
  · simp only [L.markIntS_run2, L.markIntS_step2]
    rw [cnd_f (by simp; omega)]
theorem L.heldIntS_is {m : List Int} (ha : m.length ≤ 3000000) (hm : ∀ j, j < m.length → D.eli m j = ((1 + j : Nat) : Int)) : L.heldIntS_t m 1 = some ((1 + m.length : Nat) : Int) := by
  unfold L.heldIntS_t L.heldIntS_tree
  have := (run_for (run := L.heldIntS_run2 m) (len := m.length) (fun k (t : Unit) => (((1 + k : Nat) : Int), (k : Int))) (fun t k => ()) (fun t => Sum.inr (((1 + m.length : Nat) : Int))) (fun k t => True) (by omega) (fun n k t hk ht => ?_) (fun n t ht => ?_) (t0 := ()) trivial).1
  · exact congrArg (fun o => optC o (fun q => sumC q (fun q => some q.2) (fun q => some q)) none) this
  · refine ⟨?_, trivial⟩
    simp only [L.heldIntS_run2, L.heldIntS_step2]
    rw [cnd_t (by simp; omega), cnd_t (by simp; omega), Int.toNat_natCast, hm k hk, cnd_f (by simp), add1_nat (by omega), add1_nat (by omega)]
    rfl
  · simp only [L.heldIntS_run2, L.heldIntS_step2]
    rw [cnd_f (by simp)]
/-- A row marked and held. -/
theorem L.marked {v : List Int} (hv : v.length ≤ 2000000) : ∃ m : List Int, L.markIntS_t v 1 = some (((1 + v.length : Nat) : Int), m) ∧ L.heldIntS_t m 1 = some ((1 + v.length : Nat) : Int) := by
  obtain ⟨m, h1, h2, h3⟩ := L.markIntS_is (a := v) (k0 := 1) (by omega) (by omega)
  refine ⟨m, h1, ?_⟩
  rw [← h2]
  exact L.heldIntS_is (by omega) (by rw [h2]; exact h3)
theorem neg_nat (a : Nat) : decide ((a : Int) < 0) = false := by rw [decide_eq_false_iff_not]; omega
theorem not_beq_self (a : Nat) : (!((a : Int) == (a : Int))) = false := by simp
end Go.Proofs.Ytleianhibhpgpaa
/- The exact laws of chapter 2. Conditions: those of each theorem. -/
namespace Go.Proofs.Ytleianhibhpgpaa
open D Go.RowKit
set_option linter.unusedVariables false
set_option linter.unusedSimpArgs false


end Go.Proofs.Ytleianhibhpgpaa
/- The model's functions of chapters 3 to 5 in natural numbers. Conditions: those of each theorem. -/
namespace Go.Proofs.Ytleianhibhpgpaa
open D Go.RowKit
set_option linter.unusedVariables false
set_option linter.unusedSimpArgs false


theorem nat_eq0 (a : Nat) : ((a : Int) == 0) = (a == 0) := nat_beq a 0
theorem minus_pow {s k : Nat} (hs : s < 64) (hk : k < 6) (hb : s.testBit k = true) : minus s (2 ^ k) = s - 2 ^ k := by rw [bits_minus s hs k hk, if_pos hb]
/-- The answers that are told for any argument. -/
def privI (net : List Int) (s g : Int) : Int := if (0 ≤ s ∧ s < 2 ^ net.length) ∧ (0 ≤ g ∧ g < net.length) ∧ s.toNat.testBit g.toNat = true then ((priv net s.toNat g.toNat : Nat) : Int) else -1
def twiceI (net : List Int) (s : Int) : Int := if 0 ≤ s ∧ s < 2 ^ net.length then ((twice net s.toNat : Nat) : Int) else -1
def grownI (net : List Int) (s : Int) : Int := if (0 ≤ s ∧ s < 2 ^ net.length) ∧ apart net s.toNat = true then ((grown net s.toNat : Nat) : Int) else -1
/-- All places below n pass a test, by a search for one that doesn't. -/
theorem find_test {n : Nat} {p : Nat → Bool} : find n (fun k => if p k = true then some false else none) = if ((List.range n).all fun k => !p k) = true then none else some false := by
  cases hall : (List.range n).all fun k => !p k with
  | true =>
    rw [if_pos rfl, find_none]
    intro j hj
    rw [List.all_eq_true] at hall
    have := hall j (List.mem_range.2 hj)
    rw [Bool.not_eq_true'] at this
    rw [this]; rfl
  | false =>
    rw [if_neg (by simp)]
    rw [List.all_eq_false] at hall
    obtain ⟨k, hk, hb⟩ := hall
    rw [Bool.not_eq_true', Bool.not_eq_false] at hb
    cases hf : find n (fun k => if p k = true then some false else none) with
    | none =>
      have := find_none.1 hf k (List.mem_range.1 hk)
      rw [hb] at this; cases this
    | some b =>
      obtain ⟨j, hj, he⟩ := find_some_ex hf
      split at he
      · cases he; rfl
      · cases he

theorem S.l4Apart_n {net : List Int} (h : Ok net) {s : Nat} (hs : s < 2 ^ net.length) : S.l4Apart_t net s = some (apart net s) := by
  unfold S.l4Apart_t S.l4Apart_tree
  have h64 := h.pow
  have hnl := h.near_lt s
  rw [S.l1Near_n h]
  simp only [optC]
  rw [i64_and_nat _ _ (by omega) (by omega), nat_eq0]
  rfl
theorem S.MostApart_y {net : List Int} (h : Ok net) (e : S.NetOk_t net = some true) : S.MostApart_t net = some ((maxSize net (apart net) : Nat) : Int) := by
  unfold S.MostApart_t S.MostApart_tree
  have h64 := h.pow
  have hn := h.hi
  rw [e]
  have := (run_for (run := S.MostApart_run5 net) (len := 2 ^ net.length) (fun k (t : Nat) => ((t : Int), (k : Int))) (fun t s => if apart net s = true then (if size s > t then size s else t) else t) (fun t => (t : Int)) (fun k t => t ≤ 6) (by omega) (fun n k t hk ht => ?_) (fun n t ht => ?_) (t0 := 0) (by omega)).1
  · exact congrArg (fun o => optC o (fun q => some q) none) this
  · simp only [S.MostApart_run5, S.MostApart_step5]
    rw [pow_shl h, cnd_t (by rw [decide_eq_true_eq]; omega), S.l4Apart_n h hk]
    simp only [optC]
    have hz := size_le k
    cases hw : apart net k with
    | true =>
      rw [cond_true, S.l1Size_n (by omega)]
      simp only [if_true]
      rw [add1_nat (by omega)]
      by_cases hc : size k > t
      · rw [if_pos (by omega), if_pos hc]; exact ⟨rfl, by omega⟩
      · rw [if_neg (by omega), if_neg hc]; exact ⟨rfl, by omega⟩
    | false => simp only [cond_false, Bool.false_eq_true, if_false]; rw [add1_nat (by omega)]; exact ⟨rfl, ht⟩
  · simp only [S.MostApart_run5, S.MostApart_step5]
    rw [pow_shl h, cnd_f (by rw [decide_eq_false_iff_not]; omega)]
def chain (net : List Int) : List Int := [((minSize net (fullN net) : Nat) : Int), ((fewest net : Nat) : Int), ((minSize net (fullA net) : Nat) : Int), ((maxSize net (apart net) : Nat) : Int), ((maxSize net (least net) : Nat) : Int), ((maxSize net (needs net) : Nat) : Int)]
end Go.Proofs.Ytleianhibhpgpaa
/- Two guards at a place, and a guard that leaves: plain facts. Conditions: those of each theorem. -/
namespace Go.Proofs.Ytleianhibhpgpaa
set_option linter.unusedVariables false
set_option linter.unusedSimpArgs false

/-! ### Rows of small numbers -/
/-- The places with at least m guards. -/
def withN (n : Nat) (r : Nat → Nat) (m : Nat) : Nat := orN n (fun k => decide (m ≤ r k)) (fun k => 2 ^ k)
/-- The digits of a number to the base three, the first one ahead. -/
def dig (n m k : Nat) : Nat := m / 3 ^ (n - 1 - k) % 3
theorem dig_lt (n m k : Nat) : dig n m k ≤ 2 := by unfold dig; omega
theorem dig_last (n m : Nat) : dig (n + 1) m n = m % 3 := by
  unfold dig
  rw [show n + 1 - 1 - n = 0 by omega]; simp
theorem dig_ahead {n m k : Nat} (hk : k < n) : dig (n + 1) m k = dig n (m / 3) k := by
  unfold dig
  rw [show n + 1 - 1 - k = (n - 1 - k) + 1 by omega, Nat.pow_succ, Nat.mul_comm, ← Nat.div_div_eq_div_mul]
/-- Each row is one of the rows that are counted up. -/
theorem dig_all {n : Nat} {r : Nat → Nat} (hr : ∀ k, k < n → r k ≤ 2) : ∃ m, m < 3 ^ n ∧ ∀ k, k < n → dig n m k = r k := by
  induction n with
  | zero => exact ⟨0, by simp, fun k hk => by omega⟩
  | succ n ih =>
    obtain ⟨m, hm, hd⟩ := ih (fun k hk => hr k (by omega))
    have h2 := hr n (by omega)
    refine ⟨3 * m + r n, by rw [Nat.pow_succ]; omega, fun k hk => ?_⟩
    by_cases hkn : k = n
    · rw [hkn, dig_last]; omega
    · rw [dig_ahead (by omega), show (3 * m + r n) / 3 = m by omega]
      exact hd k (by omega)
/-- So few guards a row of a kind can have. -/
structure MinRow (n : Nat) (p : (Nat → Nat) → Prop) (m : Nat) : Prop where
  ex : ∃ r, (∀ k, k < n → r k ≤ 2) ∧ p r ∧ sumN n r = m
  le : ∀ r, (∀ k, k < n → r k ≤ 2) → p r → m ≤ sumN n r
theorem MinRow.uniq {n : Nat} {p : (Nat → Nat) → Prop} {a b : Nat} (ha : MinRow n p a) (hb : MinRow n p b) : a = b := by
  obtain ⟨r, h1, h2, h3⟩ := ha.ex
  obtain ⟨q, g1, g2, g3⟩ := hb.ex
  have := ha.le q g1 g2
  have := hb.le r h1 h2
  omega
def RomanP (net : List Int) (r : Nat → Nat) : Prop := ∀ k, k < net.length → r k = 0 → ∃ j, j < net.length ∧ (nb net k).testBit j = true ∧ 2 ≤ r j
def help (net : List Int) (r : Nat → Nat) (k : Nat) : Nat := sumN net.length (fun j => ((nb net k).testBit j).toNat * r j)
def ItalianP (net : List Int) (r : Nat → Nat) : Prop := ∀ k, k < net.length → r k = 0 → 2 ≤ help net r k
/-- The row of a set: two at its places, one where it does not see. -/
def rowOfN (net : List Int) (s k : Nat) : Nat := if s.testBit k = true then 2 else if (seen net s).testBit k = true then 0 else 1
/-! ### A guard that leaves -/
def moved (s f t : Nat) : Nat := (s - 2 ^ f) ||| 2 ^ t
theorem moved_testBit {s f t : Nat} (hs : s < 64) (hf : f < 6) (hb : s.testBit f = true) (j : Nat) : (moved s f t).testBit j = true ↔ (s.testBit j = true ∧ j ≠ f) ∨ j = t := by
  unfold moved
  rw [or_testBit, sub_testBit hs hf hb]
  simp
theorem moved_lt {n s f t : Nat} (hs : s < 2 ^ n) (ht : t < n) : moved s f t < 2 ^ n := or_lt (sub_lt hs) ht
theorem moved_size {s f t : Nat} (hs : s < 64) (hf : f < 6) (ht : t < 6) (hb : s.testBit f = true) (hn : s.testBit t = false) : size (moved s f t) = size s := by
  have h1 := bits_sub s hs f hf hb
  unfold moved
  rw [size_add h1.1 ht (by rw [sub_testBit hs hf hb, hn]; rfl)]
  omega
/-- A guard next to a place can go there, and all is watched. -/
def Can (net : List Int) (s t : Nat) : Prop := ∃ f, s.testBit f = true ∧ (nb net t).testBit f = true ∧ W net (moved s f t) = true
def Secure (net : List Int) (s : Nat) : Prop := W net s = true ∧ ∀ k, k < net.length → s.testBit k = false → Can net s k
/-- The row behind a guard's move. -/
def leave (r : Nat → Nat) (f t k : Nat) : Nat := if k = t then 1 else if k = f then r f - 1 else r k
def WeakP (net : List Int) (r : Nat → Nat) : Prop := ∀ k, k < net.length → r k = 0 → ∃ f, f < net.length ∧ 1 ≤ r f ∧ (nb net k).testBit f = true ∧ W net (withN net.length (leave r f k) 1) = true
end Go.Proofs.Ytleianhibhpgpaa
/- What drawn nets are. Conditions: those of each theorem. -/
namespace Go.Proofs.Ytleianhibhpgpaa
open D Go.RowKit
set_option linter.unusedVariables false
set_option linter.unusedSimpArgs false


/-- A code of bytes. -/
def Bytes (rb : List Int) : Prop := ∀ n ∈ rb, 0 ≤ n ∧ n ≤ 255
theorem Bytes.eli {rb : List Int} (h : Bytes rb) (k : Nat) : 0 ≤ D.eli rb k ∧ D.eli rb k ≤ 255 := by
  by_cases hk : k < rb.length
  · have : D.eli rb k = rb[k] := by simp [D.eli, List.getD, hk]
    rw [this]; exact h _ (List.getElem_mem hk)
  · have : D.eli rb k = 0 := by simp [D.eli, List.getD, List.getElem?_eq_none (by omega : rb.length ≤ k)]
    rw [this]; decide
theorem Bytes.wf {rb : List Int} (h : ∀ n ∈ rb, (Lit.int .u8 n).wf = true) : Bytes rb := fun n hn => by
  have := h n hn
  have e1 : IntKind.u8.min = 0 := by kernel_rfl
  have e2 : IntKind.u8.max = 255 := by kernel_rfl
  simpa [Lit.wf, e1, e2] using this

theorem xor_pos {a b : Int} (ha : 0 ≤ a ∧ a < 9223372036854775808) (hb : 0 ≤ b ∧ b < 9223372036854775808) : 0 ≤ bits .xor .i64 a b := by
  obtain ⟨x, rfl⟩ := Int.eq_ofNat_of_zero_le ha.1
  obtain ⟨y, rfl⟩ := Int.eq_ofNat_of_zero_le hb.1
  rw [i64_xor_nat x y (by omega) (by omega)]
  omega

theorem S.l20Rd_pick_is {rb : List Int} {rp n : Int} (hb : Bytes rb) (hl : rb.length ≤ 2000) (h0 : 0 ≤ rp) (h1 : rp ≤ 1099511627776) :
    ∃ v, S.l20Rd_pick_t rb rp n = some (v, rb, rp + 1) ∧ 0 ≤ v ∧ (1 ≤ n → v < n) := by
  unfold S.l20Rd_pick_t S.l20Rd_pick_tree
  have e1 : IntKind.i64.wrap (rp + 1) = rp + 1 := i64_wrap (by omega) (by omega)
  have e2 : IntKind.i64.wrap (rp + 1 - 1) = rp := by rw [i64_wrap (by omega) (by omega)]; omega
  rw [e1, e2]
  by_cases hn : n < 1
  · rw [cnd_t (by simpa using hn)]; exact ⟨_, rfl, Int.le_refl _, fun h => by omega⟩
  rw [cnd_f (by simpa using hn)]
  by_cases hz : rb.length = 0
  · rw [cnd_t (by simp [hz])]; exact ⟨_, rfl, Int.le_refl _, fun h => by omega⟩
  have hnz : (n == 0) = false := by simp; omega
  have hlz : ((rb.length : Int) == 0) = false := by simp; exact fun h => hz (by simp [h])
  rw [cnd_f hlz]
  have fin : ∀ x : Int, 0 ≤ x → 0 ≤ x.tmod n ∧ (1 ≤ n → x.tmod n < n) := fun x hx => ⟨Int.tmod_nonneg _ hx, fun h => Int.tmod_lt_of_pos _ (by omega)⟩
  by_cases hx : rp < rb.length
  · rw [cnd_t (by simpa using hx), cnd_t (by simp; omega), cnd_f hnz]
    have hv := hb.eli rp.toNat
    rw [i64_wrap (n := D.eli rb rp.toNat) (by omega) (by omega)]
    exact ⟨_, rfl, fin _ hv.1⟩
  · rw [cnd_f (by simpa using hx), cnd_f hlz]
    have hL : 0 < (rb.length : Int) := by omega
    have m1 : 0 ≤ rp.tmod rb.length := Int.tmod_nonneg _ h0
    have m2 : rp.tmod rb.length < rb.length := Int.tmod_lt_of_pos _ hL
    rw [cnd_t (by simp; omega), cnd_f hlz]
    have e3 : IntKind.i64.wrap (IntKind.i64.wrap (rp * 7) + 3) = rp * 7 + 3 := by rw [i64_wrap (n := rp * 7) (by omega) (by omega)]; exact i64_wrap (by omega) (by omega)
    rw [e3]
    have m3 : 0 ≤ (rp * 7 + 3).tmod rb.length := Int.tmod_nonneg _ (by omega)
    have m4 : (rp * 7 + 3).tmod rb.length < rb.length := Int.tmod_lt_of_pos _ hL
    rw [cnd_t (by simp; omega), cnd_f hlz, cnd_f hnz]
    have d1 : 0 ≤ rp.tdiv rb.length := Int.tdiv_nonneg h0 (by omega)
    have d2 : rp.tdiv rb.length ≤ rp := Int.tdiv_le_self _ h0
    have v1 := hb.eli (rp.tmod rb.length).toNat
    have v2 := hb.eli ((rp * 7 + 3).tmod rb.length).toNat
    generalize rp.tdiv rb.length = d at d1 d2
    generalize D.eli rb (rp.tmod rb.length).toNat = b1 at v1
    generalize D.eli rb ((rp * 7 + 3).tmod rb.length).toNat = b2 at v2
    have key : ∀ x : Int, 0 ≤ x → x < 9223372036854775808 → 0 ≤ bits .xor .i64 x (IntKind.i64.wrap (x.tdiv 64)) := fun x hx0 hx1 => by
      have a1 : 0 ≤ x.tdiv 64 := Int.tdiv_nonneg hx0 (by decide)
      have a2 : x.tdiv 64 ≤ x := Int.tdiv_le_self _ hx0
      rw [i64_wrap (by omega) (by omega)]
      exact xor_pos ⟨hx0, hx1⟩ ⟨a1, by omega⟩
    refine ⟨_, rfl, fin _ (key _ ?_ ?_)⟩ <;> simp (disch := omega) only [i64_wrap] <;> omega
theorem cnd_case {α : Type} {P : α → Prop} {b : Bool} {x y : α} (h1 : b = true → P x) (h2 : b = false → P y) : P (bif b then x else y) := by
  cases b with
  | true => exact h1 rfl
  | false => exact h2 rfl
theorem S.l20Net_p8 {α : Type} (P : α → Prop) {x1 x5 x7 x8 x9 rp : Int} {rb r : List Int} {next : Int × (List Int) × Int × (List Int) → α} {out : (List Int) × Int × (List Int) → α} {fail : α}
    (hb : Bytes rb) (hl : rb.length ≤ 2000) (h0 : 0 ≤ rp) (h1 : rp ≤ 1099511627000) (h9 : 0 ≤ x9) (h8 : x8 < r.length) (hr : r.length ≤ 1048576)
    (hleaf : x9 < x8 → ∀ rp' r', rp < rp' → rp' ≤ rp + 2 → r'.length = r.length → P (next (x9 + 1, rb, rp', r')))
    (hout : ¬ x9 < x8 → P (out (rb, rp, r))) : P (S.l20Net_step8 x1 x5 x7 x8 x9 rb rp r next out fail) := by
  unfold S.l20Net_step8
  refine cnd_case (P := P) (fun h => ?_) (fun h => hout (by simpa using h))
  have hlt : x9 < x8 := by simpa using h
  obtain ⟨v, hv, _, _⟩ := S.l20Rd_pick_is (n := 3) hb hl h0 (by omega)
  obtain ⟨v', hv', _, _⟩ := S.l20Rd_pick_is (n := 3) (rp := rp + 1) hb hl (by omega) (by omega)
  rw [hv]
  simp only [optC]
  rw [hv']
  simp only [optC]
  rw [i64_wrap (n := x9 + 1) (by omega) (by omega)]
  repeat' first
    | exact hleaf hlt _ _ (by omega) (by omega) (by simp)
    | rw [cnd_t (by simp; omega)]
    | rw [cnd_f (by simp; omega)]
    | refine cnd_case (P := P) (fun _ => ?_) (fun _ => ?_)
theorem S.l20Net_q8 {x1 x5 x7 x8 rp : Int} {rb r : List Int} (hb : Bytes rb) (hl : rb.length ≤ 2000) (h0 : 0 ≤ rp) (h1 : rp ≤ 1099511620000) (hx : 0 ≤ x8) (h8 : x8 < r.length) (h6 : x8 ≤ 100) (hr : r.length ≤ 1048576) :
    ∃ d, S.l20Net_run8 x1 x5 x7 x8 FUEL (0, rb, rp, r) = some d ∧ d.1 = rb ∧ rp ≤ d.2.1 ∧ d.2.1 ≤ rp + 2 * x8 ∧ d.2.2.length = r.length := by
  refine run_post (run := S.l20Net_run8 x1 x5 x7 x8) (fun s => s.2.1 = rb ∧ 0 ≤ s.1 ∧ s.1 ≤ x8 ∧ rp ≤ s.2.2.1 ∧ s.2.2.1 ≤ rp + 2 * s.1 ∧ s.2.2.2.length = r.length) (fun s => (x8 - s.1).toNat) (fun d => d.1 = rb ∧ rp ≤ d.2.1 ∧ d.2.1 ≤ rp + 2 * x8 ∧ d.2.2.length = r.length) ?_ ?_ ?_
  · rintro n ⟨x9, rb', rp', r'⟩ ⟨i0, i1, i2, i3, i4, i5⟩
    simp only at i0 i1 i2 i3 i4 i5
    subst i0
    refine S.l20Net_p8 (x1 := x1) (x5 := x5) (x7 := x7) (x8 := x8) (x9 := x9) (rp := rp') (rb := rb') (r := r') (next := S.l20Net_run8 x1 x5 x7 x8 n) (out := fun d => some d) (fail := none) (fun t => (∃ d, t = some d ∧ (d.1 = rb' ∧ rp ≤ d.2.1 ∧ d.2.1 ≤ rp + 2 * x8 ∧ d.2.2.length = r.length)) ∨ ∃ s', t = S.l20Net_run8 x1 x5 x7 x8 n s' ∧ (s'.2.1 = rb' ∧ 0 ≤ s'.1 ∧ s'.1 ≤ x8 ∧ rp ≤ s'.2.2.1 ∧ s'.2.2.1 ≤ rp + 2 * s'.1 ∧ s'.2.2.2.length = r.length) ∧ (x8 - s'.1).toNat < (x8 - x9).toNat) hb hl (by omega) (by omega) i1 (by omega) (by omega) (fun hlt rp2 r2 a1 a2 a3 => .inr ⟨_, rfl, ⟨rfl, ?_, ?_, ?_, ?_, ?_⟩, ?_⟩) (fun hge => .inl ⟨_, rfl, rfl, ?_, ?_, ?_⟩) <;> simp only <;> omega
  · exact ⟨rfl, by simp only; omega, by simp only; omega, by simp only; omega, by simp only; omega, rfl⟩
  · simp only; omega
theorem S.l20Net_q5 {x1 x5 x7 rp : Int} {rb r : List Int} (hb : Bytes rb) (hl : rb.length ≤ 2000) (h0 : 0 ≤ rp) (h1 : rp ≤ 1099511600000) (hx : 0 ≤ x5) (h5 : x5 = r.length) (h6 : x5 ≤ 6) :
    ∃ d, S.l20Net_run5 x1 x5 x7 FUEL (0, rb, rp, r) = some d ∧ d.1 = rb ∧ rp ≤ d.2.1 ∧ d.2.1 ≤ rp + 100 ∧ d.2.2.length = r.length := by
  refine run_post (run := S.l20Net_run5 x1 x5 x7) (fun s => s.2.1 = rb ∧ 0 ≤ s.1 ∧ s.1 ≤ x5 ∧ rp ≤ s.2.2.1 ∧ s.2.2.1 ≤ rp + 12 * s.1 ∧ s.2.2.2.length = r.length) (fun s => (x5 - s.1).toNat) (fun d => d.1 = rb ∧ rp ≤ d.2.1 ∧ d.2.1 ≤ rp + 100 ∧ d.2.2.length = r.length) ?_ ?_ ?_
  · rintro n ⟨x8, rb', rp', r'⟩ ⟨i0, i1, i2, i3, i4, i5⟩
    simp only at i0 i1 i2 i3 i4 i5
    subst i0
    simp only [S.l20Net_run5, S.l20Net_step5]
    by_cases hlt : x8 < x5
    · rw [cnd_t (by simpa using hlt)]
      obtain ⟨⟨d1, d2, d3⟩, e1, e2, e3, e4, e5⟩ := S.l20Net_q8 (x1 := x1) (x5 := x5) (x7 := x7) (x8 := x8) (r := r') hb hl (by omega : 0 ≤ rp') (by omega) i1 (by omega) (by omega) (by omega)
      simp only at e2 e3 e4 e5
      rw [e1]
      simp only [optC]
      rw [i64_wrap (n := x8 + 1) (by omega) (by omega)]
      refine .inr ⟨_, rfl, ⟨e2, ?_, ?_, ?_, ?_, ?_⟩, ?_⟩ <;> simp only <;> omega
    · rw [cnd_f (by simpa using hlt)]
      refine .inl ⟨_, rfl, rfl, ?_, ?_, ?_⟩ <;> simp only <;> omega
  · exact ⟨rfl, by simp only; omega, by simp only; omega, by simp only; omega, by simp only; omega, rfl⟩
  · simp only; omega
theorem S.l20Rd_odd_is {rb : List Int} {rp n : Int} (hb : Bytes rb) (hl : rb.length ≤ 2000) (h0 : 0 ≤ rp) (h1 : rp ≤ 1099511627776) :
    ∃ b rp', S.l20Rd_odd_t rb rp n = some (b, rb, rp') ∧ rp ≤ rp' ∧ rp' ≤ rp + 1 := by
  unfold S.l20Rd_odd_t S.l20Rd_odd_tree
  by_cases hn : n > 0
  · rw [cnd_t (by simpa using hn)]
    obtain ⟨v, hv, _, _⟩ := S.l20Rd_pick_is (n := n) hb hl h0 h1
    rw [hv]
    exact ⟨_, rp + 1, rfl, by omega, by omega⟩
  · rw [cnd_f (by simpa using hn)]
    exact ⟨_, rp, rfl, by omega, by omega⟩
theorem S.l20Net_is {rb : List Int} {rp n : Int} (hb : Bytes rb) (hl : rb.length ≤ 2000) (h0 : 0 ≤ rp) (h1 : rp ≤ 1000000) :
    ∃ rp' net, S.l20Net_t rb rp n = some (rb, rp', net) ∧ rp ≤ rp' ∧ rp' ≤ rp + 200 ∧ net.length ≤ 6 := by
  unfold S.l20Net_t
  have gen : ∀ {α : Type} (P : α → Prop) (leaf : (List Int) × Int × (List Int) → α) (fail : α), (∀ rp' net, rp ≤ rp' → rp' ≤ rp + 200 → net.length ≤ 6 → P (leaf (rb, rp', net))) → P (S.l20Net_tree rb rp n leaf fail) := by
    intro α P leaf fail hleaf
    unfold S.l20Net_tree
    obtain ⟨v1, e1, a1, a2⟩ := S.l20Rd_pick_is (n := 6) hb hl h0 (by omega)
    have a2' := a2 (by decide)
    rw [e1]
    simp only [optC]
    rw [i64_wrap (n := 1 + v1) (by omega) (by omega)]
    rw [cnd_t (by simp [small]; omega)]
    obtain ⟨v2, e2, _, _⟩ := S.l20Rd_pick_is (n := 4) (rp := rp + 1) hb hl (by omega) (by omega)
    rw [e2]
    simp only
    obtain ⟨⟨d1, d2, d3⟩, e3, f1, f2, f3, f4⟩ := S.l20Net_q5 (x1 := n) (x5 := 1 + v1) (x7 := v2) (rp := rp + 1 + 1) (r := List.replicate (1 + v1).toNat 0) hb hl (by omega) (by omega) (by omega) (by simp; omega) (by omega)
    simp only at f1 f2 f3 f4
    subst f1
    rw [e3]
    simp only [List.length_replicate] at f4 ⊢
    obtain ⟨b, rp4, e4, g1, g2⟩ := S.l20Rd_odd_is (n := n) (rp := d2) hb hl (by omega) (by omega)
    rw [e4]
    simp only
    obtain ⟨v5, e5, _, _⟩ := S.l20Rd_pick_is (n := 3) (rp := rp4) hb hl (by omega) (by omega)
    rw [e5]
    simp only
    have e6 : IntKind.i64.wrap (1 + v1 - 1) = v1 := by rw [i64_wrap (by omega) (by omega)]; omega
    rw [e6]
    repeat' first
      | exact hleaf _ _ (by omega) (by omega) (by (try simp only [List.length_set, List.length_nil]); omega)
      | rw [cnd_t (by simp; omega)]
      | rw [cnd_f (by simp; omega)]
      | refine cnd_case (P := P) (fun _ => ?_) (fun _ => ?_)
  exact gen (fun t => ∃ rp' net, t = some (rb, rp', net) ∧ rp ≤ rp' ∧ rp' ≤ rp + 200 ∧ net.length ≤ 6) (fun d => some d) none (fun rp' net a b c => ⟨rp', net, rfl, a, b, c⟩)
theorem S.l20Open_is {code : List Int} (hb : Bytes code) : ∃ rb, S.l20Open_t code = some (rb, 0) ∧ Bytes rb ∧ rb.length ≤ 2000 := by
  unfold S.l20Open_t S.l20Open_tree
  by_cases h : (code.length : Int) > 2000
  · rw [cnd_t (by simpa using h), cnd_t (by simp; omega)]
    refine ⟨_, rfl, fun n hn => hb n ?_, ?_⟩
    · exact List.mem_of_mem_drop (List.mem_of_mem_take hn)
    · rw [List.length_take]; exact Nat.min_le_left _ _
  · rw [cnd_f (by simpa using h)]
    exact ⟨_, rfl, hb, by omega⟩
end Go.Proofs.Ytleianhibhpgpaa
/- What the draws give: nets of at most six places, sets and places within bounds. Conditions: those of each theorem. -/
namespace Go.Proofs.Ytleianhibhpgpaa
open D Go.RowKit
set_option linter.unusedVariables false
set_option linter.unusedSimpArgs false


theorem I.NetOk_12 : I.NetOk_t [2, 1] = some true := by rw [I.NetOk_is]; decide +kernel
theorem I.NetOk_1 : I.NetOk_t [1] = some false := by rw [I.NetOk_is]; decide +kernel
theorem L.alive_is : L.alive_t = some true := by
  unfold L.alive_t L.alive_tree
  rw [I.NetOk_12, I.NetOk_1]
  rfl
/-! ### The draws of the laws -/
end Go.Proofs.Ytleianhibhpgpaa
/- Draws that use watches; lists of all numbers of a kind. Conditions: those of each theorem. -/
namespace Go.Proofs.Ytleianhibhpgpaa
open D Go.RowKit
set_option linter.unusedVariables false
set_option linter.unusedSimpArgs false


theorem listOfN_succ (N : Nat) (p : Nat → Bool) : listOfN (N + 1) p = if p N = true then listOfN N p ++ [(N : Int)] else listOfN N p := by unfold listOfN; rw [fold_succ]
theorem listOfN_mem (N : Nat) (p : Nat → Bool) (x : Int) : x ∈ listOfN N p ↔ ∃ s : Nat, s < N ∧ p s = true ∧ x = s := by
  induction N with
  | zero => simp [listOfN, fold_zero]
  | succ N ih =>
    rw [listOfN_succ]
    split
    · rename_i hp
      rw [List.mem_append, ih, List.mem_singleton]
      constructor
      · rintro (⟨s, a, b, c⟩ | rfl)
        · exact ⟨s, by omega, b, c⟩
        · exact ⟨N, by omega, hp, rfl⟩
      · rintro ⟨s, a, b, c⟩
        by_cases hs : s = N
        · subst hs; exact .inr c
        · exact .inl ⟨s, by omega, b, c⟩
    · rename_i hp
      rw [ih]
      constructor
      · rintro ⟨s, a, b, c⟩; exact ⟨s, by omega, b, c⟩
      · rintro ⟨s, a, b, c⟩
        by_cases hs : s = N
        · subst hs; exact absurd b hp
        · exact ⟨s, by omega, b, c⟩
theorem eli_mem {l : List Int} {k : Nat} (hk : k < l.length) : D.eli l k ∈ l := by
  unfold D.eli
  simp [List.getD, hk]
theorem mem_eli {l : List Int} {x : Int} (h : x ∈ l) : ∃ k, k < l.length ∧ D.eli l k = x := by
  obtain ⟨k, hk, he⟩ := List.getElem_of_mem h
  exact ⟨k, hk, by unfold D.eli; simp [List.getD, hk, he]⟩
theorem listOfN_eli {N : Nat} {p : Nat → Bool} {k : Nat} (hk : k < (listOfN N p).length) : ∃ s : Nat, s < N ∧ p s = true ∧ D.eli (listOfN N p) k = s := (listOfN_mem N p _).1 (eli_mem hk)
end Go.Proofs.Ytleianhibhpgpaa
/- The model's functions of chapter 7 in natural numbers. Conditions: those of each theorem. -/
namespace Go.Proofs.Ytleianhibhpgpaa
open D Go.RowKit
set_option linter.unusedVariables false
set_option linter.unusedSimpArgs false


/-- The number at a place of a row. -/
def rv (row : List Int) (k : Nat) : Nat := (D.eli row k).toNat
def rowB (n : Nat) (row : List Int) : Bool := decide (row.length = n) && (List.range row.length).all fun k => decide (0 ≤ D.eli row k ∧ D.eli row k ≤ 2)
structure RowIs (n : Nat) (row : List Int) : Prop where
  len : row.length = n
  eq : ∀ k, k < n → D.eli row k = (rv row k : Int)
  le : ∀ k, k < n → rv row k ≤ 2
def romanB (net row : List Int) : Bool := (List.range net.length).all fun k => !(rv row k == 0 && (nb net k &&& withN net.length (rv row) 2) == 0)
def italianB (net row : List Int) : Bool := (List.range net.length).all fun k => !(rv row k == 0 && decide (help net (rv row) k < 2))
/-- The row of the digits of a number. -/
def digs (n m : Nat) : List Int := (List.range n).map fun k => ((dig n m k : Nat) : Int)
/-- The first least row of a kind, and the least sum. -/
def rowStep (n : Nat) (p : List Int → Bool) (best : List Int) (m : Nat) : List Int := if p (digs n m) = true ∧ (best.length = 0 ∨ sumN n (rv (digs n m)) < sumN n (rv best)) then digs n m else best
def bestRow (n : Nat) (p : List Int → Bool) : List Int := fold (3 ^ n) (rowStep n p) []
theorem roman_congr {net : List Int} {r q : Nat → Nat} (h : ∀ k, k < net.length → r k = q k) (hr : RomanP net r) : RomanP net q := fun k hk h0 => by
  obtain ⟨j, hj, a, b⟩ := hr k hk (by rw [h k hk]; exact h0)
  exact ⟨j, hj, a, by rw [← h j hj]; exact b⟩
/-- The least Roman row. -/
structure FirstRoman (net : List Int) (b : Nat) : Prop where
  lt : b < 3 ^ net.length
  roman : RomanP net (dig net.length b)
  le : ∀ m, m < 3 ^ net.length → RomanP net (dig net.length m) → sumN net.length (dig net.length b) ≤ sumN net.length (dig net.length m)
  first : ∀ m, m < b → RomanP net (dig net.length m) → sumN net.length (dig net.length b) < sumN net.length (dig net.length m)
theorem FirstRoman.uniq {net : List Int} {a b : Nat} (ha : FirstRoman net a) (hb : FirstRoman net b) : a = b := by
  have h1 := ha.le b hb.lt hb.roman
  have h2 := hb.le a ha.lt ha.roman
  rcases Nat.lt_trichotomy a b with hl | hl | hl
  · have := hb.first a hl ha.roman; omega
  · exact hl
  · have := ha.first b hl hb.roman; omega
theorem FirstRoman.min {net : List Int} {b : Nat} (hb : FirstRoman net b) : MinRow net.length (RomanP net) (sumN net.length (dig net.length b)) := by
  refine ⟨⟨dig net.length b, fun k _ => dig_lt _ _ _, hb.roman, rfl⟩, fun r hr hR => ?_⟩
  obtain ⟨m, hm, hd⟩ := dig_all hr
  have h1 := hb.le m hm (roman_congr (fun k hk => (hd k hk).symm) hR)
  rw [sumN_congr (f := dig net.length m) hd] at h1
  exact h1
def fewestRoman (net : List Int) : Nat := sumN net.length (rv (bestRow net.length (romanB net)))
def fewestItalian (net : List Int) : Nat := fold (3 ^ net.length) (fun t m => if italianB net (digs net.length m) = true then (if sumN net.length (rv (digs net.length m)) < t then sumN net.length (rv (digs net.length m)) else t) else t) net.length
/-- The row of a set. -/
def rowOf (net : List Int) (s : Nat) : List Int := fold net.length (fun l k => l ++ [((rowOfN net s k : Nat) : Int)]) []
def rowOfI (net : List Int) (s : Int) : List Int := if 0 ≤ s ∧ s < 2 ^ net.length then rowOf net s.toNat else []
end Go.Proofs.Ytleianhibhpgpaa
/- The model's functions of chapter 8 in natural numbers. Conditions: those of each theorem. -/
namespace Go.Proofs.Ytleianhibhpgpaa
open D Go.RowKit
set_option linter.unusedVariables false
set_option linter.unusedSimpArgs false


theorem find_testT {n : Nat} {p : Nat → Bool} : find n (fun k => if p k = true then some true else none) = if ((List.range n).any p) = true then some true else none := by
  have key := find_any (n := n) (f := fun k => if p k = true then some true else none) (c := p) (fun k hk => rfl)
  cases hany : (List.range n).any p with
  | false =>
    rw [if_neg (by simp), find_none]
    intro j hj
    rw [List.any_eq_false] at hany
    exact if_neg (hany j (List.mem_range.2 hj))
  | true =>
    rw [if_pos rfl]
    rw [List.any_eq_true] at hany
    obtain ⟨k, hk, hp⟩ := hany
    have := key.2 ⟨k, List.mem_range.1 hk, hp⟩
    cases hf : find n (fun k => if p k = true then some true else none) with
    | none => rw [hf] at this; cases this
    | some b => rw [hf] at this; cases b with
      | true => rfl
      | false => cases this
theorem S.l8Moved_n {s f t : Nat} (hs : s < 64) (hf : f < 6) (ht : t < 6) (hb : s.testBit f = true) : S.l8Moved_t (s : Int) (f : Int) (t : Int) = some ((moved s f t : Nat) : Int) := by
  unfold S.l8Moved_t S.l8Moved_tree
  have h1 : 2 ^ f < 2 ^ 6 := Nat.pow_lt_pow_right (by omega) hf
  have h2 : 2 ^ t < 2 ^ 6 := Nat.pow_lt_pow_right (by omega) ht
  rw [cnd_f (by simp), cnd_f (by simp), one_shl (by omega), one_shl (by omega), i64_andNot_nat _ _ (by omega) (by omega), minus_pow hs hf hb, i64_or_nat _ _ (Nat.lt_of_le_of_lt (Nat.sub_le _ _) (by omega)) (by omega)]
  rfl
/-- Can a guard come? -/
def canB (net : List Int) (s t : Nat) : Bool := (List.range net.length).any fun f => s.testBit f && ((nb net t).testBit f && W net (moved s f t))
def secureB (net : List Int) (s : Nat) : Bool := W net s && (List.range net.length).all fun k => !(!s.testBit k && !canB net s k)
def fewestSecure (net : List Int) : Nat := minSize net (secureB net)
def leaveB (net : List Int) (r : Nat → Nat) (p : Nat) : Bool := (List.range net.length).any fun f => decide (1 ≤ r f) && ((nb net p).testBit f && W net (withN net.length (leave r f p) 1))
def weakB (net row : List Int) : Bool := (List.range net.length).all fun k => !(rv row k == 0 && !leaveB net (rv row) k)
def fewestWeak (net : List Int) : Nat := fold (3 ^ net.length) (fun t m => if weakB net (digs net.length m) = true then (if sumN net.length (rv (digs net.length m)) < t then sumN net.length (rv (digs net.length m)) else t) else t) net.length
end Go.Proofs.Ytleianhibhpgpaa
/- The model's functions of chapter 12 in natural numbers: the game by turns. Conditions: those of each theorem. -/
namespace Go.Proofs.Ytleianhibhpgpaa
open D Go.RowKit
set_option linter.unusedVariables false
set_option linter.unusedSimpArgs false


def mayB (net : List Int) (s p : Int) : Bool := decide (0 ≤ s ∧ s < 2 ^ net.length) && (decide (0 ≤ p ∧ p < net.length) && leg net s.toNat p.toNat)
/-- A number that there may be. -/
def enc : Option Nat → Int
  | none => -1
  | some b => (b : Int)
def stepI (p : Nat → Bool) (f : Nat → Nat) (few : Bool) (t : Int) (k : Nat) : Int := if p k = true then (if t < 0 then ((f k : Nat) : Int) else if (few && decide (((f k : Nat) : Int) < t) || !few && decide (((f k : Nat) : Int) > t)) = true then ((f k : Nat) : Int) else t) else t
noncomputable def gameI (net : List Int) (s : Int) (few : Bool) : Int := if 0 ≤ s ∧ s < 2 ^ net.length then ((game net s.toNat few : Nat) : Int) else -1
/-- The least place of who plays as well as possible; -1 if all is seen. -/
def playP (net : List Int) (A : Nat) (few : Bool) (k : Nat) : Bool := leg net A k && (1 + game net (A ||| ball net k) (!few) == game net A few)
def playK (net : List Int) (A : Nat) (few : Bool) : Int := (find net.length (fun k => if playP net A few k = true then some (k : Int) else none)).getD (-1)
noncomputable def bestI (net : List Int) (s : Int) (few : Bool) : Int := if 0 ≤ s ∧ s < 2 ^ net.length then playK net s.toNat few else -1
/-- The plays, one after the other, as far as n more can be. -/
def playN (net : List Int) : Nat → Nat → Bool → List Int
  | 0, _, _ => []
  | n + 1, A, few => if A = allOf net then [] else playK net A few :: playN net n (A ||| ball net (playK net A few).toNat) (!few)
def plays (net : List Int) (few : Bool) : List Int := playN net 7 0 few
end Go.Proofs.Ytleianhibhpgpaa
/- Guards that answer for ever, one at a time: plain facts. Conditions: those of each theorem. -/
namespace Go.Proofs.Ytleianhibhpgpaa
set_option linter.unusedVariables false
set_option linter.unusedSimpArgs false

/-- A family of sets that can answer each place by one move, and be in the family again. -/
def Closed1 (net : List Int) (F : Nat → Prop) : Prop := ∀ t, t < 2 ^ net.length → F t → ∀ k, k < net.length → t.testBit k = false → ∃ f, t.testBit f = true ∧ (nb net k).testBit f = true ∧ F (moved t f k)
def Eternal (net : List Int) (s : Nat) : Prop := ∃ F, Closed1 net F ∧ F s
theorem eternal_closed (net : List Int) : Closed1 net (Eternal net) := fun t ht ⟨F, hF, hFt⟩ k hk hb => by
  obtain ⟨f, a, b, c⟩ := hF t ht hFt k hk hb
  exact ⟨f, a, b, F, hF, c⟩
theorem eternal_all {net : List Int} : Eternal net (allOf net) := ⟨fun q => q = allOf net, fun q _ hq k hk hb => by rw [hq, allOf_testBit] at hb; simp at hb; omega, rfl⟩
theorem size_and_le {net : List Int} (h : Ok net) {s a : Nat} (hs : s < 2 ^ net.length) (ha : a < 2 ^ net.length) : size (s &&& a) ≤ size a := by
  have h1 : s &&& a < 2 ^ net.length := Nat.lt_of_le_of_lt Nat.and_le_left hs
  rw [size_cnt h h1, size_cnt h ha]
  refine cnt_mono fun k _ hk => ?_
  rw [Nat.testBit_and, Bool.and_eq_true] at hk
  exact hk.2
/-- It takes no fewer than are apart. -/
theorem eternal_apart {net : List Int} (h : Ok net) {a s : Nat} (ha : a < 2 ^ net.length) (hA : Apart net a) (hs : s < 2 ^ net.length) (he : Eternal net s) : size a ≤ size s := by
  have h6 := h.hi
  have key : ∀ m s, size a - size (s &&& a) ≤ m → s < 2 ^ net.length → Eternal net s → size a ≤ size s := by
    intro m
    induction m with
    | zero =>
      intro s hm hs he
      have h1 : size (s &&& a) ≤ size s := by rw [Nat.and_comm]; exact size_and_le h ha hs
      omega
    | succ m ih =>
      intro s hm hs he
      by_cases hex : ∃ k, a.testBit k = true ∧ s.testBit k = false
      · obtain ⟨k, hk, hb⟩ := hex
        have hkl := in_lt ha hk
        obtain ⟨f, x, y, z⟩ := eternal_closed net s hs he k hkl hb
        have hfl := in_lt hs x
        have hfa : a.testBit f = false := not_true fun hc => by rw [hA k f hk hc] at y; cases y
        have hm2 := moved_lt (f := f) hs hkl
        have e : moved s f k &&& a = (s &&& a) ||| 2 ^ k := Nat.eq_of_testBit_eq fun j => by
          rw [Bool.eq_iff_iff, Nat.testBit_and, Bool.and_eq_true, moved_testBit (lt64 h hs) (by omega) x, or_testBit, Nat.testBit_and, Bool.and_eq_true]
          constructor
          · rintro ⟨⟨p, _⟩ | p, q⟩
            · exact .inl ⟨p, q⟩
            · exact .inr p
          · rintro (⟨p, q⟩ | rfl)
            · exact ⟨.inl ⟨p, fun hh => by rw [hh, hfa] at q; cases q⟩, q⟩
            · exact ⟨.inr rfl, hk⟩
        have hlt : s &&& a < 64 := Nat.lt_of_le_of_lt Nat.and_le_left (lt64 h hs)
        have hz := size_add hlt (k := k) (by omega) (by rw [Nat.testBit_and, hb]; rfl)
        have h1 := ih (moved s f k) (by rw [e, hz]; omega) hm2 z
        rw [moved_size (lt64 h hs) (by omega) (by omega) x hb] at h1
        exact h1
      · have e : s &&& a = a := Nat.eq_of_testBit_eq fun j => by
          rw [Bool.eq_iff_iff, Nat.testBit_and, Bool.and_eq_true]
          refine ⟨fun p => p.2, fun p => ⟨Classical.byContradiction fun hc => hex ⟨j, p, not_true hc⟩, p⟩⟩
        have h1 : size (s &&& a) ≤ size s := by rw [Nat.and_comm]; exact size_and_le h ha hs
        rw [e] at h1; exact h1
  exact key _ s (Nat.le_refl _) hs he
end Go.Proofs.Ytleianhibhpgpaa
/- Packings and forests: plain facts. Conditions: those of each theorem. -/
namespace Go.Proofs.Ytleianhibhpgpaa
set_option linter.unusedVariables false
set_option linter.unusedSimpArgs false

def packed (net : List Int) (s : Nat) : Bool := (List.range net.length).all fun k => !decide (1 < size (ball net k &&& s))
theorem bits_le1 : ((List.range 64).all fun s => (List.range 6).all fun i => (List.range 6).all fun j => !(decide (size s ≤ 1) && s.testBit i && s.testBit j) || i == j) = true := by decide +kernel
theorem bits_le2 : ∀ s, s < 64 → 2 ≤ size s → ((List.range 6).any fun i => (List.range 6).any fun j => s.testBit i && s.testBit j && i != j) = true := by decide +kernel
theorem two_in {s : Nat} (hs : s < 64) (hz : 2 ≤ size s) : ∃ i j, s.testBit i = true ∧ s.testBit j = true ∧ i ≠ j := by
  have := bits_le2 s hs hz
  simp only [List.any_eq_true, List.mem_range, Bool.and_eq_true, bne_iff_ne] at this
  obtain ⟨i, _, j, _, ⟨a, b⟩, c⟩ := this
  exact ⟨i, j, a, b, c⟩
theorem le_one {s : Nat} (hs : s < 64) : size s ≤ 1 ↔ ∀ i j, s.testBit i = true → s.testBit j = true → i = j := by
  constructor
  · intro hz i j hi hj
    have := bits_le1
    rw [List.all_eq_true] at this
    have := this s (List.mem_range.2 hs)
    rw [List.all_eq_true] at this
    have := this i (List.mem_range.2 (testBit_lt (n := 6) hs hi))
    rw [List.all_eq_true] at this
    have := this j (List.mem_range.2 (testBit_lt (n := 6) hs hj))
    rw [hi, hj, decide_eq_true hz] at this
    simpa using this
  · intro ha
    refine Classical.byContradiction fun hlt => ?_
    obtain ⟨i, j, a, b, c⟩ := two_in hs (by omega)
    exact c (ha i j a b)
/-- No two guards see one place. -/
def Packed (net : List Int) (s : Nat) : Prop := ∀ i j w, s.testBit i = true → s.testBit j = true → (ball net i).testBit w = true → (ball net j).testBit w = true → i = j
theorem Packed.mono {net : List Int} {s t : Nat} (hst : ∀ j, t.testBit j = true → s.testBit j = true) (hp : Packed net s) : Packed net t := fun i j w hi hj => hp i j w (hst i hi) (hst j hj)
theorem Packed.apart {net : List Int} (h : Ok net) {s : Nat} (hs : s < 2 ^ net.length) (hp : Packed net s) : Apart net s := fun j k hj hk => not_true fun hx => by
  have := hp j k k hj hk ((ball_testBit _ _ _).2 (.inl hx)) (sees_self net k)
  rw [this, h.irr k (in_lt hs hk)] at hx; cases hx
/-- The least places of the parts. -/
def roots (net : List Int) : Nat := orN net.length (root net) (fun k => 2 ^ k)
/-! ### Forests -/
/-- Places go one by one, each with at most one neighbour left. -/
inductive Peel (net : List Int) : Nat → Prop
  | zero : Peel net 0
  | step {s k : Nat} : s.testBit k = true → size (nb net k &&& s) ≤ 1 → Peel net (s - 2 ^ k) → Peel net s
/-- Nobody can go. -/
def Stuck (net : List Int) (s : Nat) : Prop := ∀ k, s.testBit k = true → 2 ≤ size (nb net k &&& s)
theorem and_mono_size {a s t : Nat} (hst : ∀ j, s.testBit j = true → t.testBit j = true) : size (a &&& s) ≤ size (a &&& t) := by
  refine card_mono fun j _ hj => ?_
  rw [Nat.testBit_and, Bool.and_eq_true] at hj ⊢
  exact ⟨hj.1, hst j hj.2⟩
theorem peel_stuck {net : List Int} (h : Ok net) {s : Nat} (hp : Peel net s) : s < 2 ^ net.length → ∀ r, (∀ j, r.testBit j = true → s.testBit j = true) → Stuck net r → r = 0 := by
  induction hp with
  | zero => intro _ r hr _; exact zero_iff.2 fun j => not_true fun hj => by have := hr j hj; rw [Nat.zero_testBit] at this; cases this
  | @step s k hk hz hp ih =>
    intro hs r hr hst
    have h6 := h.hi
    refine ih (sub_lt hs) r (fun j hj => ?_) hst
    rw [sub_testBit (lt64 h hs) (by have := in_lt hs hk; omega) hk, hr j hj, Bool.true_and, Bool.not_eq_true', decide_eq_false_iff_not]
    intro he
    rw [he] at hj
    have := hst k hj
    have := and_mono_size (a := nb net k) hr
    omega
end Go.Proofs.Ytleianhibhpgpaa
/- Cliques: plain facts. Conditions: those of each theorem. -/
namespace Go.Proofs.Ytleianhibhpgpaa
set_option linter.unusedVariables false
set_option linter.unusedSimpArgs false

/-- Places with the same number are neighbours. -/
def CliqueP (net : List Int) (c : Nat → Nat) : Prop := ∀ i j, i < net.length → j < net.length → c i = c j → i ≠ j → (nb net i).testBit j = true
/-- At most so many cliques have all places. -/
def InCliques (net : List Int) (m : Nat) : Prop := ∃ c : Nat → Nat, CliqueP net c ∧ ∀ i, i < net.length → c i < m
/-- A clique has at most one of places apart. -/
theorem apart_cliques {net : List Int} (h : Ok net) {s m : Nat} (hs : s < 2 ^ net.length) (ha : Apart net s) (hm : InCliques net m) : size s ≤ m := by
  obtain ⟨c, hc, hl⟩ := hm
  rw [size_cnt h hs]
  have := cnt_inj (n := net.length) (m := m) (p := fun k => s.testBit k) (q := fun _ => true) c (fun k hk _ => ⟨hl k hk, rfl⟩) (fun j k hj hk hbj hbk he => by
    refine Classical.byContradiction fun hne => ?_
    have := hc j k hj hk he hne
    rw [ha j k hbj hbk] at this; cases this)
  rw [cnt_true] at this
  exact this
/-- One guard in each clique that has a place. -/
def OneEach (net : List Int) (c : Nat → Nat) (s : Nat) : Prop := ∀ k, k < net.length → ∃ g, g < net.length ∧ s.testBit g = true ∧ c g = c k
theorem one_each {net : List Int} (h : Ok net) {c : Nat → Nat} (hc : CliqueP net c) {s : Nat} (hs : s < 2 ^ net.length) (ho : OneEach net c s) : Eternal net s := by
  have h6 := h.hi
  refine ⟨fun t => t < 2 ^ net.length ∧ OneEach net c t, fun t _ ⟨ht, hot⟩ k hk hb => ?_, hs, ho⟩
  obtain ⟨g, hg, hgt, he⟩ := hot k hk
  have hne : k ≠ g := fun e => by rw [e, hgt] at hb; cases hb
  refine ⟨g, hgt, hc k g hk hg he.symm hne, moved_lt ht hk, fun j hj => ?_⟩
  by_cases hjk : c j = c k
  · exact ⟨k, hk, (moved_testBit (lt64 h ht) (by omega) hgt k).2 (.inr rfl), hjk.symm⟩
  · obtain ⟨q, hq, hqt, heq⟩ := hot j hj
    refine ⟨q, hq, (moved_testBit (lt64 h ht) (by omega) hgt q).2 (.inl ⟨hqt, fun e => ?_⟩), heq⟩
    rw [e, he] at heq
    exact hjk heq.symm
/-- The first place of each clique. -/
theorem firsts {net : List Int} (h : Ok net) {m : Nat} (hm : InCliques net m) : ∃ s, s < 2 ^ net.length ∧ Eternal net s ∧ size s ≤ m := by
  obtain ⟨c, hc, hl⟩ := hm
  have hb : ∀ j, (orN net.length (fun k => (List.range k).all fun i => !(c i == c k)) (fun k => 2 ^ k)).testBit j = true ↔ j < net.length ∧ ∀ i, i < j → c i ≠ c j := fun j => by
    rw [orN_testBit]
    constructor
    · rintro ⟨k, hk, a, b⟩
      rw [testBit_pow, decide_eq_true_eq] at b
      subst b
      rw [List.all_eq_true] at a
      exact ⟨hk, fun i hi => by have := a i (List.mem_range.2 hi); simpa using this⟩
    · rintro ⟨a, b⟩
      refine ⟨j, a, ?_, by rw [testBit_pow]; simp⟩
      rw [List.all_eq_true]
      intro i hi
      have := b i (List.mem_range.1 hi)
      simpa using this
  have hlt : orN net.length (fun k => (List.range k).all fun i => !(c i == c k)) (fun k => 2 ^ k) < 2 ^ net.length := orN_lt fun k hk _ => Nat.pow_lt_pow_right (by omega) hk
  refine ⟨_, hlt, one_each h hc hlt fun k hk => ?_, ?_⟩
  · -- the least place with this number
    have : ∀ m k, k ≤ m → k < net.length → ∃ g, g < net.length ∧ (orN net.length (fun k => (List.range k).all fun i => !(c i == c k)) (fun k => 2 ^ k)).testBit g = true ∧ c g = c k := by
      intro m
      induction m with
      | zero =>
        intro k hkm hk
        exact ⟨k, hk, (hb k).2 ⟨hk, fun i hi => by omega⟩, rfl⟩
      | succ m ih =>
        intro k hkm hk
        by_cases hex : ∃ i, i < k ∧ c i = c k
        · obtain ⟨i, hi, he⟩ := hex
          obtain ⟨g, a, b, d⟩ := ih i (by omega) (by omega)
          exact ⟨g, a, b, d.trans he⟩
        · exact ⟨k, hk, (hb k).2 ⟨hk, fun i hi he => hex ⟨i, hi, he⟩⟩, rfl⟩
    exact this k k (Nat.le_refl _) hk
  · rw [size_cnt h hlt]
    have := cnt_inj (n := net.length) (m := m) (p := fun k => (orN net.length (fun k => (List.range k).all fun i => !(c i == c k)) (fun k => 2 ^ k)).testBit k) (q := fun _ => true) c (fun k hk _ => ⟨hl k hk, rfl⟩) (fun j k hj hk hbj hbk he => by
      rcases Nat.lt_trichotomy j k with hlt | hlt | hlt
      · exact absurd he (((hb k).1 hbk).2 j hlt)
      · exact hlt
      · exact absurd he.symm (((hb j).1 hbj).2 k hlt))
    rw [cnt_true] at this
    exact this
/-- All places are alone in a clique each. -/
theorem cliques_all (net : List Int) : InCliques net net.length := ⟨fun i => i, fun i j _ _ he hne => absurd he hne, fun i hi => hi⟩
def Clique (net : List Int) (s : Nat) : Prop := ∀ i j, s.testBit i = true → s.testBit j = true → i ≠ j → (nb net i).testBit j = true
/-- The greatest clique times the cliques is at least all places. -/
theorem cliques_times {net : List Int} (h : Ok net) {m b : Nat} (hm : InCliques net m) (hb : ∀ s, s < 2 ^ net.length → Clique net s → size s ≤ b) : net.length ≤ m * b := by
  obtain ⟨c, hc, hl⟩ := hm
  have e1 : net.length = sumN net.length (fun _ => 1) := by rw [sumN_const, Nat.mul_one]
  have e2 : sumN net.length (fun _ => 1) = sumN net.length (fun k => sumN m (fun q => (c k == q).toNat)) := sumN_congr fun k hk => by
    rw [sumN_one (hl k hk) (fun j _ hne => by rw [show (c k == j) = false by simpa using fun e => hne e.symm]; rfl), show (c k == c k) = true by simp]; rfl
  have e3 : sumN m (fun q => sumN net.length (fun k => (c k == q).toNat)) ≤ sumN m (fun _ => b) := sumN_le fun q hq => by
    have hbit : ∀ j, (orN net.length (fun k => c k == q) (fun k => 2 ^ k)).testBit j = true ↔ j < net.length ∧ c j = q := fun j => by
      rw [orN_testBit]
      constructor
      · rintro ⟨k, hk, a, d⟩
        rw [testBit_pow, decide_eq_true_eq] at d
        subst d
        exact ⟨hk, by simpa using a⟩
      · rintro ⟨a, d⟩
        exact ⟨j, a, by simpa using d, by rw [testBit_pow]; simp⟩
    have hlt : orN net.length (fun k => c k == q) (fun k => 2 ^ k) < 2 ^ net.length := orN_lt fun k hk _ => Nat.pow_lt_pow_right (by omega) hk
    have := hb _ hlt (fun i j hi hj hne => hc i j ((hbit i).1 hi).1 ((hbit j).1 hj).1 (((hbit i).1 hi).2.trans ((hbit j).1 hj).2.symm) hne)
    rw [size_cnt h hlt] at this
    refine Nat.le_trans (Nat.le_of_eq ?_) this
    exact sumN_congr fun k hk => by
      congr 1
      rw [Bool.eq_iff_iff]
      show (c k == q) = true ↔ (orN net.length (fun k => c k == q) (fun k => 2 ^ k)).testBit k = true
      rw [hbit, beq_iff_eq]
      exact ⟨fun a => ⟨hk, a⟩, fun a => a.2⟩
  rw [sumN_const] at e3
  rw [e1, e2, sumN_swap]
  exact e3
end Go.Proofs.Ytleianhibhpgpaa
/- Cliques of forests: as many as are apart. Conditions: those of each theorem. -/
namespace Go.Proofs.Ytleianhibhpgpaa
set_option linter.unusedVariables false
set_option linter.unusedSimpArgs false

theorem peel_cliques {net : List Int} (h : Ok net) {s : Nat} (hp : Peel net s) : s < 2 ^ net.length → ∀ (c : Nat → Nat) (m C P : Nat), P < 2 ^ net.length → (∀ i, i < net.length → C.testBit i = true → c i < m) →
    (∀ i j, i < net.length → j < net.length → C.testBit i = true → C.testBit j = true → c i = c j → i ≠ j → (nb net i).testBit j = true) → (∀ w, w < net.length → s.testBit w = false → C.testBit w = true) →
    m ≤ size P → Apart net P → (∀ j, P.testBit j = true → s.testBit j = false) → (∀ u v, P.testBit u = true → s.testBit v = true → C.testBit v = false → (nb net u).testBit v = false) →
    ∃ m' P', InCliques net m' ∧ P' < 2 ^ net.length ∧ Apart net P' ∧ m' ≤ size P' := by
  induction hp with
  | zero =>
    intro _ c m C P hP hl hcl hout hz hA _ _
    exact ⟨m, P, ⟨c, fun i j hi hj he hne => hcl i j hi hj (hout i hi (Nat.zero_testBit i)) (hout j hj (Nat.zero_testBit j)) he hne, fun i hi => hl i hi (hout i hi (Nat.zero_testBit i))⟩, hP, hA, hz⟩
  | @step s k hk hone hp ih =>
    intro hs c m C P hP hl hcl hout hz hA hPs hfar
    have h6 := h.hi
    have h64 := h.pow
    have hkl := in_lt hs hk
    have hsub : ∀ j, (s - 2 ^ k).testBit j = true ↔ s.testBit j = true ∧ j ≠ k := fun j => by
      rw [sub_testBit (lt64 h hs) (by omega) hk]; simp
    have hsubf : ∀ j, (s - 2 ^ k).testBit j = false → s.testBit j = false ∨ j = k := fun j hj => by
      cases hb : s.testBit j with
      | false => exact .inl rfl
      | true =>
        by_cases he : j = k
        · exact .inr he
        · rw [(hsub j).2 ⟨hb, he⟩] at hj; cases hj
    by_cases hCk : C.testBit k = true
    · refine ih (sub_lt hs) c m C P hP hl hcl (fun w hw hb => ?_) hz hA (fun j hj => not_true fun hx => ?_) (fun u v hu hv hC => hfar u v hu ((hsub v).1 hv).1 hC)
      · rcases hsubf w hb with a | a
        · exact hout w hw a
        · rw [a]; exact hCk
      · have := ((hsub j).1 hx).1
        rw [hPs j hj] at this; cases this
    · have hCk' := not_true hCk
      have hg : ∃ g, g < net.length ∧ (g = k ∨ ((nb net k).testBit g = true ∧ C.testBit g = false)) ∧ ∀ v, s.testBit v = true → C.testBit v = false → (nb net k).testBit v = true → v = g := by
        by_cases hex : ∃ g, s.testBit g = true ∧ C.testBit g = false ∧ (nb net k).testBit g = true
        · obtain ⟨g, g1, g2, g3⟩ := hex
          refine ⟨g, in_lt hs g1, .inr ⟨g3, g2⟩, fun v v1 _ v2 => ?_⟩
          have hlt : nb net k &&& s < 64 := Nat.lt_of_le_of_lt Nat.and_le_right (by omega)
          exact (le_one hlt).1 hone v g (by rw [Nat.testBit_and, v1, v2]; rfl) (by rw [Nat.testBit_and, g1, g3]; rfl)
        · exact ⟨k, hkl, .inl rfl, fun v v1 v3 v2 => absurd ⟨v, v1, v3, v2⟩ hex⟩
      obtain ⟨g, hgl, hgk, honly⟩ := hg
      have hPk : P.testBit k = false := not_true fun hx => by rw [hPs k hx] at hk; cases hk
      have hCg : C.testBit g = false := hgk.elim (fun e => by rw [e]; exact hCk') (fun e => e.2)
      have hC2 : ∀ j, ((C ||| 2 ^ k) ||| 2 ^ g).testBit j = true ↔ C.testBit j = true ∨ j = k ∨ j = g := fun j => by
        rw [or_testBit, or_testBit, or_assoc]
      have hkg : ∀ i j, (i = k ∨ i = g) → (j = k ∨ j = g) → i ≠ j → (nb net i).testBit j = true := by
        intro i j hi hj hne
        rcases hgk with e | ⟨e, _⟩
        · exfalso
          apply hne
          rcases hi with a | a <;> rcases hj with b | b <;> rw [a, b] <;> simp [e]
        · rcases hi with a | a <;> rcases hj with b | b
          · exact absurd (a.trans b.symm) hne
          · rw [a, b]; exact e
          · rw [a, b, h.sym k g hkl hgl]; exact e
          · exact absurd (a.trans b.symm) hne
      refine ih (sub_lt hs) (fun i => if i = k ∨ i = g then m else c i) (m + 1) ((C ||| 2 ^ k) ||| 2 ^ g) (P ||| 2 ^ k) (or_lt hP hkl) (fun i hi hb => ?_) (fun i j hi hj hbi hbj he hne => ?_) (fun w hw hb => ?_) ?_ ?_ (fun j hj => not_true fun hx => ?_) (fun u v hu hv hC => ?_)
      · show (if i = k ∨ i = g then m else c i) < m + 1
        split
        · omega
        · rename_i hn
          rcases (hC2 i).1 hb with a | a
          · have := hl i hi a; omega
          · exact absurd a hn
      · have he : (if i = k ∨ i = g then m else c i) = (if j = k ∨ j = g then m else c j) := he
        by_cases hi2 : i = k ∨ i = g
        · by_cases hj2 : j = k ∨ j = g
          · exact hkg i j hi2 hj2 hne
          · rw [if_pos hi2, if_neg hj2] at he
            have := hl j hj (((hC2 j).1 hbj).resolve_right hj2)
            omega
        · by_cases hj2 : j = k ∨ j = g
          · rw [if_neg hi2, if_pos hj2] at he
            have := hl i hi (((hC2 i).1 hbi).resolve_right hi2)
            omega
          · rw [if_neg hi2, if_neg hj2] at he
            exact hcl i j hi hj (((hC2 i).1 hbi).resolve_right hi2) (((hC2 j).1 hbj).resolve_right hj2) he hne
      · rcases hsubf w hb with a | a
        · exact (hC2 w).2 (.inl (hout w hw a))
        · exact (hC2 w).2 (.inr (.inl a))
      · have := size_add (lt64 h hP) (by omega) hPk
        omega
      · refine hA.add h hP hkl fun j hj => ?_
        rw [h.sym j k (in_lt hP hj) hkl]
        exact hfar j k hj hk hCk'
      · obtain ⟨x1, x2⟩ := (hsub j).1 hx
        rcases (or_testBit _ _ _).1 hj with a | a
        · rw [hPs j a] at x1; cases x1
        · exact x2 a
      · obtain ⟨v1, v2⟩ := (hsub v).1 hv
        have hCv : C.testBit v = false := not_true fun hx => by rw [(hC2 v).2 (.inl hx)] at hC; cases hC
        rcases (or_testBit _ _ _).1 hu with a | a
        · exact hfar u v a v1 hCv
        · rw [a]
          refine not_true fun hx => ?_
          have := honly v v1 hCv hx
          rw [(hC2 v).2 (.inr (.inr this))] at hC; cases hC
theorem forest_cliques {net : List Int} (h : Ok net) (hp : Peel net (allOf net)) : ∃ m P, InCliques net m ∧ P < 2 ^ net.length ∧ Apart net P ∧ m ≤ size P :=
  peel_cliques h hp (allOf_lt net) (fun _ => 0) 0 0 0 (Nat.two_pow_pos _) (fun i _ hb => by rw [Nat.zero_testBit] at hb; cases hb) (fun i j _ _ hb => by rw [Nat.zero_testBit] at hb; cases hb)
    (fun w hw hb => by rw [allOf_testBit] at hb; simp at hb; omega) (Nat.zero_le _) (Apart.zero net) (fun j hj => by rw [Nat.zero_testBit] at hj; cases hj) (fun u v hu => by rw [Nat.zero_testBit] at hu; cases hu)
end Go.Proofs.Ytleianhibhpgpaa
/- Rows of cliques and of shares: plain facts. Conditions: those of each theorem. -/
namespace Go.Proofs.Ytleianhibhpgpaa
open D Go.RowKit
set_option linter.unusedVariables false
set_option linter.unusedSimpArgs false

/-- The places with a number. -/
def setL (r : List Nat) (v : Nat) : Nat := orN r.length (fun k => decide (r.getD k 0 = v)) (fun k => 2 ^ k)
theorem setL_bit {r : List Nat} {v j : Nat} : (setL r v).testBit j = true ↔ j < r.length ∧ r.getD j 0 = v := by
  unfold setL
  rw [orN_testBit]
  constructor
  · rintro ⟨k, hk, a, b⟩
    rw [testBit_pow, decide_eq_true_eq] at b
    subst b
    exact ⟨hk, by simpa using a⟩
  · rintro ⟨a, b⟩
    exact ⟨j, a, by simpa using b, by rw [testBit_pow]; simp⟩
theorem setL_lt {r : List Nat} {v n : Nat} (hn : r.length ≤ n) : setL r v < 2 ^ n := orN_lt fun k hk _ => Nat.pow_lt_pow_right (by omega) (by omega)
def CliqueL (net : List Int) (r : List Nat) : Prop := ∀ i j, i < r.length → j < r.length → i ≠ j → r.getD i 0 = r.getD j 0 → (nb net i).testBit j = true
theorem CliqueL.nil (net : List Int) : CliqueL net [] := fun i j hi => by simp at hi
theorem CliqueL.sets {net : List Int} {r : List Nat} (h : CliqueL net r) (v : Nat) : Clique net (setL r v) := fun i j hi hj hne => by
  obtain ⟨a, b⟩ := setL_bit.1 hi
  obtain ⟨c, d⟩ := setL_bit.1 hj
  exact h i j a c hne (by omega)
theorem CliqueL.append {net : List Int} {r : List Nat} {v : Nat} : CliqueL net (r ++ [v]) ↔ CliqueL net r ∧ Clique net (setL (r ++ [v]) v) := by
  constructor
  · intro h
    refine ⟨fun i j hi hj hne he => h i j (by simp; omega) (by simp; omega) hne (by rw [getD_app_lt hi, getD_app_lt hj]; exact he), h.sets v⟩
  · rintro ⟨h1, h2⟩ i j hi hj hne he
    simp only [List.length_append, List.length_singleton] at hi hj
    by_cases a : i < r.length
    · by_cases b : j < r.length
      · rw [getD_app_lt a, getD_app_lt b] at he
        exact h1 i j a b hne he
      · obtain rfl : j = r.length := by omega
        rw [getD_app_lt a, getD_app_end] at he
        exact h2 i r.length (setL_bit.2 ⟨by simp; omega, by rw [getD_app_lt a]; exact he⟩) (setL_bit.2 ⟨by simp, getD_app_end r v⟩) hne
    · obtain rfl : i = r.length := by omega
      have b : j < r.length := by omega
      rw [getD_app_lt b, getD_app_end] at he
      exact h2 r.length j (setL_bit.2 ⟨by simp, getD_app_end r v⟩) (setL_bit.2 ⟨by simp; omega, by rw [getD_app_lt b]; exact he.symm⟩) hne
theorem CliqueL.pre {net : List Int} {r q : List Nat} (h : CliqueL net q) (hp : r <+: q) : CliqueL net r := fun i j hi hj hne he => by
  have hl := hp.length_le
  exact h i j (by omega) (by omega) hne (by rw [pre_at hp hi, pre_at hp hj]; exact he)
/-- A row of at most so many cliques. -/
structure CRow (net : List Int) (m : Nat) (q : List Nat) : Prop where
  len : q.length = net.length
  rg : RG q
  le : nx q ≤ m
  cl : CliqueL net q
/-- In a row that counts up each number is there. -/
theorem RG.all {r : List Nat} (h : RG r) : ∀ v, v < nx r → ∃ k, k < r.length ∧ r.getD k 0 = v := by
  have key : ∀ m, m ≤ r.length → ∀ v, v < nx (r.take m) → ∃ k, k < m ∧ r.getD k 0 = v := by
    intro m
    induction m with
    | zero => intro _ v hv; simp [nx] at hv
    | succ m ih =>
      intro hm v hv
      rw [nx_take_succ (by omega)] at hv
      by_cases hlt : v < nx (r.take m)
      · obtain ⟨k, hk, e⟩ := ih (by omega) v hlt
        exact ⟨k, by omega, e⟩
      · have := h m (by omega)
        exact ⟨m, by omega, by omega⟩
  intro v hv
  exact key r.length (Nat.le_refl _) v (by rwa [List.take_length])
/-- A row with the same parts, that counts up. -/
theorem renumber (c : Nat → Nat) : ∀ n, ∃ q : List Nat, q.length = n ∧ RG q ∧ ∀ i j, i < n → j < n → (q.getD i 0 = q.getD j 0 ↔ c i = c j) := by
  intro n
  induction n with
  | zero => exact ⟨[], rfl, RG.nil, fun i j hi => by omega⟩
  | succ n ih =>
    obtain ⟨q, h1, h2, h3⟩ := ih
    by_cases hex : ∃ i, i < n ∧ c i = c n
    · obtain ⟨i, hi, he⟩ := hex
      have hmem : q.getD i 0 < nx q := by
        have e : q.getD i 0 = q[i] := by simp [List.getD, show i < q.length by omega]
        rw [e]; exact nx_gt (List.getElem_mem _)
      refine ⟨q ++ [q.getD i 0], by simp [h1], RG_append.2 ⟨h2, by omega⟩, fun a b ha hb => ?_⟩
      have val : ∀ a, a < n + 1 → ∃ a', a' < n ∧ (q ++ [q.getD i 0]).getD a 0 = q.getD a' 0 ∧ c a' = c a := fun a ha => by
        by_cases hlt : a < n
        · exact ⟨a, hlt, getD_app_lt (by omega), rfl⟩
        · obtain rfl : a = n := by omega
          exact ⟨i, hi, by rw [← h1]; exact getD_app_end _ _, he⟩
      obtain ⟨a', a1, a2, a3⟩ := val a ha
      obtain ⟨b', b1, b2, b3⟩ := val b hb
      rw [a2, b2, h3 a' b' a1 b1, a3, b3]
    · refine ⟨q ++ [nx q], by simp [h1], RG_append.2 ⟨h2, Nat.le_refl _⟩, fun a b ha hb => ?_⟩
      have lt : ∀ a, a < n → (q ++ [nx q]).getD a 0 = q.getD a 0 ∧ q.getD a 0 < nx q := fun a ha => by
        have e : q.getD a 0 = q[a] := by simp [List.getD, show a < q.length by omega]
        exact ⟨getD_app_lt (by omega), by rw [e]; exact nx_gt (List.getElem_mem _)⟩
      have last : (q ++ [nx q]).getD n 0 = nx q := by rw [← h1]; exact getD_app_end _ _
      by_cases h1a : a < n
      · by_cases h1b : b < n
        · rw [(lt a h1a).1, (lt b h1b).1]; exact h3 a b h1a h1b
        · obtain rfl : b = n := by omega
          rw [(lt a h1a).1, last]
          have := (lt a h1a).2
          exact ⟨fun e => by omega, fun e => absurd ⟨a, h1a, e⟩ hex⟩
      · obtain rfl : a = n := by omega
        by_cases h1b : b < a
        · rw [(lt b h1b).1, last]
          have := (lt b h1b).2
          exact ⟨fun e => by omega, fun e => absurd ⟨b, h1b, e.symm⟩ hex⟩
        · obtain rfl : b = a := by omega
          exact ⟨fun _ => rfl, fun _ => rfl⟩
theorem nx_le_of {c : Nat → Nat} {q : List Nat} {m : Nat} (hr : RG q) (hq : ∀ i j, i < q.length → j < q.length → (q.getD i 0 = q.getD j 0 ↔ c i = c j)) (hc : ∀ i, i < q.length → c i < m) : nx q ≤ m := by
  have hpick : ∀ v, ∃ k, v < nx q → k < q.length ∧ q.getD k 0 = v := fun v => by
    by_cases hv : v < nx q
    · obtain ⟨k, hk, e⟩ := hr.all v hv; exact ⟨k, fun _ => ⟨hk, e⟩⟩
    · exact ⟨0, fun h => absurd h hv⟩
  have := cnt_inj (n := nx q) (m := m) (p := fun _ => true) (q := fun _ => true) (fun v => c (hpick v).choose) (fun v hv _ => ⟨hc _ ((hpick v).choose_spec hv).1, rfl⟩) (fun u v hu hv _ _ he => by
    obtain ⟨a1, a2⟩ := (hpick u).choose_spec hu
    obtain ⟨b1, b2⟩ := (hpick v).choose_spec hv
    have := (hq _ _ a1 b1).2 he
    omega)
  rwa [cnt_true, cnt_true] at this
theorem crow_of {net : List Int} {m : Nat} (h : InCliques net m) : ∃ q, CRow net m q := by
  obtain ⟨c, hc, hm⟩ := h
  obtain ⟨q, h1, h2, h3⟩ := renumber c net.length
  refine ⟨q, h1, h2, nx_le_of (c := c) h2 (fun i j hi hj => h3 i j (by omega) (by omega)) (fun i hi => hm i (by omega)), fun i j hi hj hne he => ?_⟩
  exact hc i j (by omega) (by omega) ((h3 i j (by omega) (by omega)).1 he) hne
theorem of_crow {net : List Int} {m : Nat} {q : List Nat} (h : CRow net m q) : InCliques net m := by
  refine ⟨fun i => q.getD i 0, fun i j hi hj he hne => h.cl i j (by rw [h.len]; exact hi) (by rw [h.len]; exact hj) hne he, fun i hi => ?_⟩
  have e : q.getD i 0 = q[i]'(by rw [h.len]; exact hi) := by simp [List.getD, h.len, hi]
  have := nx_gt (List.getElem_mem (l := q) (n := i) (by rw [h.len]; exact hi))
  have := h.le
  simp only [e]
  omega
/-- So few cliques have all places. -/
structure MinCl (net : List Int) (m : Nat) : Prop where
  ex : InCliques net m
  le : ∀ k, InCliques net k → m ≤ k
theorem MinCl.uniq {net : List Int} {a b : Nat} (ha : MinCl net a) (hb : MinCl net b) : a = b := Nat.le_antisymm (ha.le b hb.ex) (hb.le a ha.ex)
theorem minCl_ex (net : List Int) : ∃ m, m ≤ net.length ∧ MinCl net m := by
  have key : ∀ b, InCliques net b → ∃ m, m ≤ b ∧ MinCl net m := by
    intro b
    induction b using Nat.strongRecOn with
    | _ b ih =>
      intro hb
      by_cases hex : ∃ k, k < b ∧ InCliques net k
      · obtain ⟨k, hk, hi⟩ := hex
        obtain ⟨m, hm, hM⟩ := ih k hk hi
        exact ⟨m, by omega, hM⟩
      · exact ⟨b, Nat.le_refl _, hb, fun k hk => Nat.not_lt.1 fun hlt => hex ⟨k, hlt, hk⟩⟩
  exact key _ (cliques_all net)
noncomputable def fewestCl (net : List Int) : Nat := (minCl_ex net).choose
theorem fewestCl_min (net : List Int) : MinCl net (fewestCl net) := (minCl_ex net).choose_spec.2
theorem fewestCl_le (net : List Int) : fewestCl net ≤ net.length := (minCl_ex net).choose_spec.1
theorem fewestCl_pos {net : List Int} (h : 1 ≤ net.length) : 1 ≤ fewestCl net := by
  obtain ⟨c, _, hc⟩ := (fewestCl_min net).ex
  have := hc 0 (by omega)
  omega
theorem crow_nx {net : List Int} {q : List Nat} (h : CRow net (fewestCl net) q) : nx q = fewestCl net := by
  have := (fewestCl_min net).le (nx q) (of_crow ⟨h.len, h.rg, Nat.le_refl _, h.cl⟩)
  have := h.le
  omega
end Go.Proofs.Ytleianhibhpgpaa
/- Watches that share the places, a net and its other net: plain facts. Conditions: those of each theorem. -/
namespace Go.Proofs.Ytleianhibhpgpaa
set_option linter.unusedVariables false
set_option linter.unusedSimpArgs false

/-- All places shared out among so many watches. -/
def SharesP (net : List Int) (c : Nat → Nat) (m : Nat) : Prop := (∀ i, i < net.length → c i < m) ∧ ∀ q, q < m → ∀ j, j < net.length → ∃ i, i < net.length ∧ c i = q ∧ (ball net j).testBit i = true
def InShares (net : List Int) (m : Nat) : Prop := ∃ c : Nat → Nat, SharesP net c m
/-- The places with a number. -/
def classOf (n : Nat) (c : Nat → Nat) (q : Nat) : Nat := orN n (fun k => c k == q) (fun k => 2 ^ k)
/-! ### The other net -/
/-- Just those are neighbours that are not in the net. -/
structure Other (net o : List Int) : Prop where
  ok : Ok o
  len : o.length = net.length
  bit : ∀ i j, i < net.length → j < net.length → (nb o i).testBit j = (!decide (i = j) && !(nb net i).testBit j)
/-- Each place by a guard of the watch that sees it. -/
structure Served (net : List Int) (D : Nat) (p : Nat → Nat) : Prop where
  mem : ∀ v, v < net.length → D.testBit (p v) = true
  sees : ∀ v, v < net.length → (ball net (p v)).testBit v = true
  own : ∀ d, D.testBit d = true → p d = d
/-- Who sees all that are served with it. -/
noncomputable def univ (net : List Int) (p : Nat → Nat) (v : Nat) : Bool := @decide (∀ u, u < net.length → p u = p v → (ball net v).testBit u = true) (Classical.propDecidable _)
end Go.Proofs.Ytleianhibhpgpaa
/- The other net. Conditions: those of each theorem. -/
namespace Go.Proofs.Ytleianhibhpgpaa
open D Go.RowKit
set_option linter.unusedVariables false
set_option linter.unusedSimpArgs false

def otherN (net : List Int) : List Int := (List.range net.length).map fun k => ((minus (allOf net) (ball net k) : Nat) : Int)
end Go.Proofs.Ytleianhibhpgpaa
/- The model's functions of chapter 9 in natural numbers. Conditions: those of each theorem. -/
namespace Go.Proofs.Ytleianhibhpgpaa
open D Go.RowKit
set_option linter.unusedVariables false
set_option linter.unusedSimpArgs false


/-- Can this guard come, so that a set of the list is there? -/
def ansP (net : List Int) (l : List Bool) (s t f : Nat) : Bool := s.testBit f && ((nb net t).testBit f && D.elb l (moved s f t))
def ansI (net : List Int) (l : List Bool) (s t : Nat) : Int := (find net.length (fun f => if ansP net l s t f = true then some (f : Int) else none)).getD (-1)
theorem ansI_cases (net : List Int) (l : List Bool) (s t : Nat) : (ansI net l s t = -1 ∧ ∀ f, f < net.length → ansP net l s t f = false) ∨ ∃ f, f < net.length ∧ ansI net l s t = (f : Int) ∧ ansP net l s t f = true := by
  unfold ansI
  cases hf : find net.length (fun f => if ansP net l s t f = true then some (f : Int) else none) with
  | none =>
    refine .inl ⟨rfl, fun f hfl => not_true fun hc => ?_⟩
    have := find_none.1 hf f hfl
    rw [if_pos hc] at this; cases this
  | some r =>
    obtain ⟨f, hfl, he⟩ := find_some_ex hf
    right
    by_cases hc : ansP net l s t f = true
    · rw [if_pos hc] at he; injection he with he; exact ⟨f, hfl, he.symm, hc⟩
    · rw [if_neg hc] at he; cases he
theorem S.l9Answer_n {net : List Int} (h : Ok net) {l : List Bool} (hl : l.length = 2 ^ net.length) {s t : Nat} (hs : s < 2 ^ net.length) (ht : t < net.length) : S.l9Answer_t net l (s : Int) (t : Int) = some (ansI net l s t) := by
  unfold S.l9Answer_t S.l9Answer_tree
  have h6 := h.hi
  have h64 := h.pow
  rw [run_search (run := S.l9Answer_run2 net l s t) (len := net.length) (fun f => if ansP net l s t f = true then some (f : Int) else none) () (by omega) (fun n k hk => ?_) (fun n => ?_)]
  · unfold ansI
    cases find net.length (fun f => if ansP net l s t f = true then some (f : Int) else none) <;> rfl
  · simp only [S.l9Answer_run2, S.l9Answer_step2]
    rw [cnd_t (by simp; omega), cnd_f (by simp), bit_shr _ _ (by omega), add1_nat (by omega)]
    unfold ansP
    cases hb : s.testBit k with
    | false => rfl
    | true =>
      rw [cnd_t (by rfl), cnd_t (by simp; omega), cnd_f (by simp), show D.eli net (t : Int).toNat = (nb net t : Int) by rw [Int.toNat_natCast]; exact h.eli ht, bit_shr _ _ (by omega)]
      cases hb2 : (nb net t).testBit k with
      | false => rfl
      | true =>
        have hm := moved_lt (f := k) hs ht
        rw [cnd_t (by rfl), S.l8Moved_n (lt64 h hs) (by omega) (by omega) hb]
        simp only [optC]
        rw [cnd_t (by simp; omega), Int.toNat_natCast]
        cases D.elb l (moved s k t) <;> rfl
  · simp only [S.l9Answer_run2, S.l9Answer_step2]
    rw [cnd_f (by simp)]
def holdsB (net : List Int) (l : List Bool) (s : Nat) : Bool := ((List.range net.length).all fun k => !(!s.testBit k && decide (ansI net l s k < 0))) && D.elb l s
theorem S.l9Holds_n {net : List Int} (h : Ok net) {l : List Bool} (hl : l.length = 2 ^ net.length) {s : Nat} (hs : s < 2 ^ net.length) : S.l9Holds_t net l (s : Int) = some (holdsB net l s) := by
  unfold S.l9Holds_t S.l9Holds_tree
  have h6 := h.hi
  rw [run_search (run := S.l9Holds_run2 net l s) (len := net.length) (fun k => if (!s.testBit k && decide (ansI net l s k < 0)) = true then some false else none) () (by omega) (fun n k hk => ?_) (fun n => ?_), find_test (p := fun k => !s.testBit k && decide (ansI net l s k < 0))]
  · unfold holdsB
    cases (List.range net.length).all fun k => !(!s.testBit k && decide (ansI net l s k < 0)) with
    | false => rfl
    | true =>
      simp only [optC, sumC, if_true, Bool.true_and]
      rw [cnd_t (by simp; omega), Int.toNat_natCast]
  · simp only [S.l9Holds_run2, S.l9Holds_step2]
    rw [cnd_t (by simp; omega), cnd_f (by simp), bit_shr _ _ (by omega), add1_nat (by omega)]
    cases hb : s.testBit k with
    | true => rfl
    | false =>
      rw [cnd_t (by rfl), S.l9Answer_n h hl hs hk]
      simp only [optC, Bool.not_false, Bool.true_and]
      cases decide (ansI net l s k < 0) <;> rfl
  · simp only [S.l9Holds_run2, S.l9Holds_step2]
    rw [cnd_f (by simp)]
noncomputable def eternalB (net : List Int) (s : Nat) : Bool := @decide (Eternal net s) (Classical.propDecidable _)
theorem eternalB_iff {net : List Int} {s : Nat} : eternalB net s = true ↔ Eternal net s := by unfold eternalB; exact @decide_eq_true_iff _ (Classical.propDecidable _)
noncomputable def lasts (net : List Int) : List Bool := (List.range (2 ^ net.length)).map (eternalB net)
theorem lasts_len (net : List Int) : (lasts net).length = 2 ^ net.length := by simp [lasts]
theorem lasts_elb {net : List Int} {s : Nat} (hs : s < 2 ^ net.length) : D.elb (lasts net) s = eternalB net s := by unfold D.elb lasts; simp [List.getD, hs]
theorem holds_eternal {net : List Int} (h : Ok net) (m : List Bool) (hm : m.length = 2 ^ net.length) (hin : ∀ s, s < 2 ^ net.length → Eternal net s → D.elb m s = true) :
    ∀ s, s < 2 ^ net.length → Eternal net s → holdsB net m s = true := by
  intro s hs he
  unfold holdsB
  rw [hin s hs he, Bool.and_true, List.all_eq_true]
  intro k hk
  have hk := List.mem_range.1 hk
  cases hb : s.testBit k with
  | true => rfl
  | false =>
    obtain ⟨f, a, b, c⟩ := eternal_closed net s hs he k hk hb
    rcases ansI_cases net m s k with ⟨_, hno⟩ | ⟨g, _, hg, _⟩
    · have := hno f (in_lt hs a)
      unfold ansP at this
      rw [a, b, hin _ (moved_lt hs hk) c] at this
      cases this
    · rw [hg, decide_eq_false (by omega)]; rfl
theorem stable_eternal {net : List Int} (h : Ok net) {m : List Bool} (hm : m.length = 2 ^ net.length) (hst : ∀ s, s < 2 ^ net.length → D.elb m s = true → holdsB net m s = true) :
    ∀ s, s < 2 ^ net.length → D.elb m s = true → Eternal net s := by
  intro s hs hb
  refine ⟨fun q => q < 2 ^ net.length ∧ D.elb m q = true, fun t ht ⟨_, htm⟩ k hk hb => ?_, hs, hb⟩
  have := hst t ht htm
  unfold holdsB at this
  rw [Bool.and_eq_true, List.all_eq_true] at this
  have := this.1 k (List.mem_range.2 hk)
  rw [hb] at this
  rcases ansI_cases net m t k with ⟨hn, _⟩ | ⟨f, hf, hg, hp⟩
  · rw [hn] at this; cases this
  · unfold ansP at hp
    rw [Bool.and_eq_true, Bool.and_eq_true] at hp
    exact ⟨f, hp.1, hp.2.1, moved_lt ht hk, hp.2.2⟩
theorem S.l9Lasts_n {net : List Int} (h : Ok net) : S.l9Lasts_t net = some (lasts net) := by
  unfold S.l9Lasts_t S.l9Lasts_tree
  have h6 := h.hi
  have h64 := h.pow
  rw [pow_shl h, Int.toNat_natCast, cnd_t (by simp only [D.small, Bool.and_true, Bool.and_eq_true, decide_eq_true_eq]; exact ⟨Int.natCast_nonneg _, by omega⟩)]
  have l3 := (run_for (run := S.l9Lasts_run3 net) (len := 2 ^ net.length) (fun k (t : List Bool) => ((k : Int), t)) (fun t k => t.set k true) (fun t => t) (fun k t => t.length = 2 ^ net.length ∧ ∀ j, j < k → D.elb t j = true) (by omega) (fun n k t hk ht => ?_) (fun n t ht => ?_) (t0 := List.replicate (2 ^ net.length) false) ⟨by simp, fun j hj => by omega⟩)
  · obtain ⟨e1, hl, hall⟩ := l3
    rw [show S.l9Lasts_run3 net FUEL (0, List.replicate (2 ^ net.length) false) = _ from e1]
    simp only [optC]
    generalize fold (2 ^ net.length) (fun (t : List Bool) k => t.set k true) (List.replicate (2 ^ net.length) false) = T at hl hall ⊢
    have hF := FUEL_le
    obtain ⟨m, r1, r2, r3, r4⟩ := settles (H := holdsB net) (N := 2 ^ net.length) (G := Eternal net) (holds_eternal h) (run := S.l9Lasts_run7 net) (fun n l hl => by
      have l10 := (run_for (run := S.l9Lasts_run10 net) (len := 2 ^ net.length) (fun k (t : Bool × List Bool) => (t.1, (k : Int), t.2)) (sweepStep (holdsB net)) (fun t => (t.1, t.2)) (fun k t => t.2.length = 2 ^ net.length) (by omega) (fun n k t hk ht => by
        simp only [S.l9Lasts_run10, S.l9Lasts_step10]
        rw [cnd_t (by simp; omega), cnd_t (by simp; omega), Int.toNat_natCast, cnd_t (by simp; omega), add1_nat (by omega)]
        unfold sweepStep
        cases hb : D.elb t.2 k with
        | false => simp only [cond_false, Bool.false_and, Bool.false_eq_true, if_false]; exact ⟨trivial, ht⟩
        | true =>
          rw [cond_true, S.l9Holds_n h ht hk]
          simp only [optC, Bool.true_and]
          cases hh : holdsB net t.2 k with
          | true => simp only [Bool.not_true, cond_false, Bool.false_eq_true, if_false]; exact ⟨trivial, ht⟩
          | false =>
            rw [Bool.not_false, cond_true, cnd_t (by simp; omega), cnd_t (by simp; omega), if_pos rfl]
            exact ⟨rfl, by simp [ht]⟩) (fun n t ht => by
        simp only [S.l9Lasts_run10, S.l9Lasts_step10]
        rw [cnd_f (by rw [decide_eq_false_iff_not]; omega)]) (t0 := (false, l)) hl).1
      simp only [S.l9Lasts_run7, S.l9Lasts_step7]
      rw [cond_true, show S.l9Lasts_run10 net FUEL (false, 0, l) = _ from l10]
      rfl) (fun n l => by simp only [S.l9Lasts_run7, S.l9Lasts_step7]; rfl) (2 ^ net.length) T hl (by have := trues_le T; omega) (fun s hs _ => hall s hs) FUEL (by omega)
    rw [r1]
    simp only
    congr 1
    refine elb_ext (by rw [r2, lasts_len]) (fun s hs => ?_)
    rw [r2] at hs
    rw [lasts_elb hs, Bool.eq_iff_iff, eternalB_iff]
    exact ⟨stable_eternal h r2 r4 s hs, r3 s hs⟩
  · simp only [S.l9Lasts_run3, S.l9Lasts_step3]
    have hl := ht.1
    rw [cnd_t (by simp; omega), cnd_t (by simp; omega), Int.toNat_natCast, cnd_t (by simp; omega), add1_nat (by omega)]
    refine ⟨rfl, by simp [hl], fun j hj => ?_⟩
    rw [elb_set (by omega)]
    by_cases he : j = k
    · rw [if_pos he]
    · rw [if_neg he]; exact ht.2 j (by omega)
  · simp only [S.l9Lasts_run3, S.l9Lasts_step3]
    have hl := ht.1
    rw [cnd_f (by rw [decide_eq_false_iff_not]; omega)]
theorem S.EternalSets_y {net : List Int} (h : Ok net) (e : S.NetOk_t net = some true) : S.EternalSets_t net = some (listOfN (2 ^ net.length) (eternalB net)) := by
  unfold S.EternalSets_t S.EternalSets_tree
  have h6 := h.hi
  have h64 := h.pow
  rw [e]
  simp only [optC, Bool.not_true, cond_false]
  rw [S.l9Lasts_n h]
  simp only
  have hll := lasts_len net
  have := (run_for (run := S.EternalSets_run6) (len := 2 ^ net.length) (fun k (t : List Int) => ((k : Int), t, lasts net)) (fun t k => if eternalB net k = true then t ++ [(k : Int)] else t) (fun t => t) (fun k t => t.length ≤ k) (by omega) (fun n k t hk ht => ?_) (fun n t ht => ?_) (t0 := []) (Nat.le_refl _)).1
  · exact congrArg (fun o => optC o (fun q => some q) none) this
  · simp only [S.EternalSets_run6, S.EternalSets_step6]
    rw [cnd_t (by rw [decide_eq_true_eq]; omega), cnd_t (by simp only [Bool.and_eq_true, decide_eq_true_eq]; omega), Int.toNat_natCast, cnd_t (by rw [decide_eq_true_eq]; omega), lasts_elb hk, add1_nat (by omega)]
    cases hb : eternalB net k with
    | false => simp only [cond_false, Bool.false_eq_true, if_false]; exact ⟨trivial, by omega⟩
    | true =>
      rw [cond_true, if_pos rfl, cnd_t (by unfold D.small; rw [decide_eq_true_eq, List.length_append]; simp; omega)]
      exact ⟨rfl, by rw [List.length_append]; simp; omega⟩
  · simp only [S.EternalSets_run6, S.EternalSets_step6]
    rw [cnd_f (by rw [decide_eq_false_iff_not]; omega)]
theorem eternal_some (net : List Int) : ∃ s, s < 2 ^ net.length ∧ eternalB net s = true := ⟨allOf net, allOf_lt net, eternalB_iff.2 eternal_all⟩
theorem fold_least {net : List Int} (h : Ok net) (L : List Int) (p : Nat → Bool) (hL : ∀ x, x ∈ L ↔ ∃ s : Nat, s < 2 ^ net.length ∧ p s = true ∧ x = s) (N : Nat) (hN : N ≤ L.length) :
    (fold N (fun t k => if size (D.eli L k).toNat < t then size (D.eli L k).toNat else t) net.length = net.length ∨ ∃ s, s < 2 ^ net.length ∧ p s = true ∧ size s = fold N (fun t k => if size (D.eli L k).toNat < t then size (D.eli L k).toNat else t) net.length) ∧
    ∀ k, k < N → fold N (fun t k => if size (D.eli L k).toNat < t then size (D.eli L k).toNat else t) net.length ≤ size (D.eli L k).toNat := by
  induction N with
  | zero => exact ⟨.inl rfl, fun k hk => by omega⟩
  | succ N ih =>
    obtain ⟨a, b⟩ := ih (by omega)
    rw [fold_succ]
    generalize fold N (fun t k => if size (D.eli L k).toNat < t then size (D.eli L k).toNat else t) net.length = g at a b ⊢
    obtain ⟨s, s1, s2, s3⟩ := (hL _).1 (eli_mem (l := L) (k := N) (by omega))
    by_cases hlt : size (D.eli L N).toNat < g
    · rw [if_pos hlt]
      refine ⟨.inr ⟨s, s1, s2, by rw [s3, Int.toNat_natCast]⟩, fun k hk => ?_⟩
      by_cases he : k = N
      · rw [he]; exact Nat.le_refl _
      · have := b k (by omega); omega
    · rw [if_neg hlt]
      refine ⟨a, fun k hk => ?_⟩
      by_cases he : k = N
      · rw [he]; omega
      · exact b k (by omega)
theorem fold_minOf {net : List Int} (h : Ok net) (L : List Int) (p : Nat → Bool) (hL : ∀ x, x ∈ L ↔ ∃ s : Nat, s < 2 ^ net.length ∧ p s = true ∧ x = s) (hall : p (allOf net) = true) :
    MinOf net p (fold L.length (fun t k => if size (D.eli L k).toNat < t then size (D.eli L k).toNat else t) net.length) := by
  obtain ⟨a, b⟩ := fold_least h L p hL L.length (Nat.le_refl _)
  refine ⟨?_, fun s hs hp => ?_⟩
  · rcases a with a | a
    · rw [a]; exact ⟨allOf net, allOf_lt net, hall, size_all h⟩
    · exact a
  · obtain ⟨k, hk, he⟩ := mem_eli ((hL (s : Int)).2 ⟨s, hs, hp, rfl⟩)
    have := b k hk
    rw [he, Int.toNat_natCast] at this
    exact this
theorem S.FewestEternal_ex {net : List Int} (h : Ok net) (e : S.NetOk_t net = some true) : ∃ m : Nat, S.FewestEternal_t net = some (m : Int) ∧ MinOf net (eternalB net) m := by
  unfold S.FewestEternal_t S.FewestEternal_tree
  have h6 := h.hi
  have h64 := h.pow
  rw [e]
  simp only [optC, Bool.not_true, cond_false]
  rw [S.EternalSets_y h e]
  simp only
  have hll := listOfN_len (2 ^ net.length) (eternalB net)
  refine ⟨_, ?_, fold_minOf h (listOfN (2 ^ net.length) (eternalB net)) (eternalB net) (listOfN_mem _ _) (eternalB_iff.2 eternal_all)⟩
  have hmem : ∀ k, k < (listOfN (2 ^ net.length) (eternalB net)).length → ∃ s : Nat, s < 2 ^ net.length ∧ eternalB net s = true ∧ D.eli (listOfN (2 ^ net.length) (eternalB net)) k = s := fun k hk => listOfN_eli hk
  generalize listOfN (2 ^ net.length) (eternalB net) = L at hll hmem ⊢
  have := (run_for (run := S.FewestEternal_run6) (len := L.length) (fun k (t : Nat) => ((t : Int), (k : Int), L)) (fun t k => if size (D.eli L k).toNat < t then size (D.eli L k).toNat else t) (fun t => (t : Int)) (fun k t => t ≤ 6) (by omega) (fun n k t hk ht => ?_) (fun n t ht => ?_) (t0 := net.length) (by omega)).1
  · exact congrArg (fun o => optC o (fun q => some q) none) this
  · simp only [S.FewestEternal_run6, S.FewestEternal_step6]
    obtain ⟨s, s1, _, s3⟩ := hmem k hk
    have hz := size_le s
    rw [cnd_t (by rw [decide_eq_true_eq]; omega), cnd_t (by simp only [Bool.and_eq_true, decide_eq_true_eq]; omega), Int.toNat_natCast, cnd_t (by rw [decide_eq_true_eq]; omega), s3, S.l1Size_n (by omega), Int.toNat_natCast, add1_nat (by omega)]
    simp only [optC]
    by_cases hc : size s < t
    · rw [if_pos (by omega), if_pos hc]; exact ⟨rfl, by omega⟩
    · rw [if_neg (by omega), if_neg hc]; exact ⟨rfl, by omega⟩
  · simp only [S.FewestEternal_run6, S.FewestEternal_step6]
    rw [cnd_f (by rw [decide_eq_false_iff_not]; omega)]
noncomputable def fewestEternal (net : List Int) : Nat := minSize net (eternalB net)
theorem fewestEternal_min {net : List Int} (h : Ok net) : MinOf net (eternalB net) (fewestEternal net) := minSize_is h (eternal_some net)
theorem S.FewestEternal_y {net : List Int} (h : Ok net) (e : S.NetOk_t net = some true) : S.FewestEternal_t net = some ((fewestEternal net : Nat) : Int) := by
  obtain ⟨m, h1, h2⟩ := S.FewestEternal_ex h e
  rw [h1, h2.uniq (fewestEternal_min h)]
/-- The answer of an eternal set. -/
noncomputable def answerI (net : List Int) (s p : Int) : Int := if (0 ≤ s ∧ s < 2 ^ net.length) ∧ (0 ≤ p ∧ p < net.length) ∧ eternalB net s.toNat = true ∧ s.toNat.testBit p.toNat = false then ansI net (lasts net) s.toNat p.toNat else -1
end Go.Proofs.Ytleianhibhpgpaa
/- All guards move: who can go where, by Hall's condition. Conditions: those of each theorem. -/
namespace Go.Proofs.Ytleianhibhpgpaa
set_option linter.unusedVariables false
set_option linter.unusedSimpArgs false

theorem size_eq6 {s : Nat} (hs : s < 64) : size s = cnt 6 (fun k => s.testBit k) := by unfold size; rw [card_sum]
theorem in6 {s k : Nat} (hs : s < 64) (hk : s.testBit k = true) : k < 6 := testBit_lt (n := 6) hs hk
theorem size_mono6 {s t : Nat} (hs : s < 64) (ht : t < 64) (h : ∀ j, s.testBit j = true → t.testBit j = true) : size s ≤ size t := by
  rw [size_eq6 hs, size_eq6 ht]; exact cnt_mono fun k _ => h k
theorem size_disj {s t : Nat} (hs : s < 64) (ht : t < 64) (h : ∀ j, s.testBit j = true → t.testBit j = false) : size (s ||| t) = size s + size t := by
  have hl : s ||| t < 2 ^ 6 := Nat.or_lt_two_pow (by omega) (by omega)
  rw [size_eq6 hs, size_eq6 ht, size_eq6 (by omega)]
  unfold cnt
  rw [← sumN_add]
  refine sumN_congr fun k _ => ?_
  show ((s ||| t).testBit k).toNat = (s.testBit k).toNat + (t.testBit k).toNat
  rw [Nat.testBit_or]
  cases hb : s.testBit k with
  | false => simp
  | true => rw [h k hb]; rfl
theorem diff_testBit {s t : Nat} (hs : s < 64) (ht : t < 64) (j : Nat) : (minus s t).testBit j = true ↔ s.testBit j = true ∧ t.testBit j = false := by
  rw [minus_testBit _ _ (by omega) (by omega), Bool.and_eq_true, Bool.not_eq_true']
theorem diff_lt {s t : Nat} (hs : s < 64) : minus s t < 64 := Nat.lt_of_le_of_lt Nat.and_le_left hs
theorem size_diff {s t : Nat} (hs : s < 64) (ht : t < 64) (h : ∀ j, t.testBit j = true → s.testBit j = true) : size (minus s t) + size t = size s := by
  rw [← size_disj (diff_lt hs) ht (fun j hj => ((diff_testBit hs ht j).1 hj).2)]
  congr 1
  apply Nat.eq_of_testBit_eq
  intro j
  rw [Bool.eq_iff_iff, or2, diff_testBit hs ht]
  constructor
  · rintro (⟨a, _⟩ | a)
    · exact a
    · exact h j a
  · intro a
    cases hb : t.testBit j with
    | true => exact .inr rfl
    | false => exact .inl ⟨a, rfl⟩
theorem size_zero {s : Nat} (hs : s < 64) (h : size s = 0) : s = 0 := Classical.byContradiction fun hne => by
  obtain ⟨j, hj⟩ := pos_iff.1 hne
  have := size_pos hs (in6 hs hj) hj
  omega
/-- Those of b next to some of x. -/
def nbs (R : Nat → Nat → Bool) (x b : Nat) : Nat := orN 6 (fun j => b.testBit j && (List.range 6).any fun i => x.testBit i && R i j) (fun j => 2 ^ j)
theorem nbs_testBit {R : Nat → Nat → Bool} {x b : Nat} (hx : x < 64) (hb : b < 64) (j : Nat) : (nbs R x b).testBit j = true ↔ b.testBit j = true ∧ ∃ i, x.testBit i = true ∧ R i j = true := by
  unfold nbs
  rw [orN_testBit]
  simp only [Bool.and_eq_true, List.any_eq_true, List.mem_range]
  constructor
  · rintro ⟨k, hk, ⟨a, i, _, b1, c⟩, d⟩
    rw [testBit_pow, decide_eq_true_eq] at d
    subst d
    exact ⟨a, i, b1, c⟩
  · rintro ⟨a, i, b1, c⟩
    exact ⟨j, in6 hb a, ⟨a, i, in6 hx b1, b1, c⟩, by rw [testBit_pow]; simp⟩
theorem nbs_lt (R : Nat → Nat → Bool) (x b : Nat) : nbs R x b < 64 := orN_lt (m := 6) fun k hk _ => Nat.pow_lt_pow_right (by omega) hk
/-- Each can be given another one, if no set has too few. -/
theorem hall (R : Nat → Nat → Bool) : ∀ m a b, a < 64 → b < 64 → size a ≤ m → (∀ x, x < 64 → (∀ j, x.testBit j = true → a.testBit j = true) → size x ≤ size (nbs R x b)) →
    ∃ f : Nat → Nat, (∀ i, a.testBit i = true → b.testBit (f i) = true ∧ R i (f i) = true) ∧ ∀ i j, a.testBit i = true → a.testBit j = true → f i = f j → i = j := by
  intro m
  induction m with
  | zero =>
    intro a b ha hb hm _
    have := size_zero ha (by omega)
    subst this
    exact ⟨fun i => i, fun i hi => (by rw [Nat.zero_testBit] at hi; cases hi), fun i j hi => (by rw [Nat.zero_testBit] at hi; cases hi)⟩
  | succ m ih =>
    intro a b ha hb hm hc
    by_cases h0 : a = 0
    · subst h0
      exact ⟨fun i => i, fun i hi => (by rw [Nat.zero_testBit] at hi; cases hi), fun i j hi => (by rw [Nat.zero_testBit] at hi; cases hi)⟩
    by_cases ht : ∃ x, x < 64 ∧ (∀ j, x.testBit j = true → a.testBit j = true) ∧ x ≠ 0 ∧ x ≠ a ∧ size (nbs R x b) ≤ size x
    · -- a tight set is given its own, the others the others
      obtain ⟨x, hx, hxa, hx0, hxne, hxt⟩ := ht
      have hdz := size_diff ha hx hxa
      have hxp : 1 ≤ size x := by
        obtain ⟨j, hj⟩ := pos_iff.1 hx0
        exact size_pos hx (in6 hx hj) hj
      have hdp : 1 ≤ size (minus a x) := by
        refine Nat.one_le_iff_ne_zero.2 fun hz => hxne ?_
        have h1 := size_zero (diff_lt ha) hz
        apply Nat.eq_of_testBit_eq
        intro j
        rw [Bool.eq_iff_iff]
        refine ⟨hxa j, fun hj => Classical.byContradiction fun hno => ?_⟩
        have := (diff_testBit ha hx j).2 ⟨hj, not_true hno⟩
        rw [h1, Nat.zero_testBit] at this; cases this
      obtain ⟨f1, p1, q1⟩ := ih x b hx hb (by omega) (fun y hy hyx => hc y hy fun j hj => hxa j (hyx j hj))
      have hnl := nbs_lt R x b
      obtain ⟨f2, p2, q2⟩ := ih (minus a x) (minus b (nbs R x b)) (diff_lt ha) (diff_lt hb) (by omega) (fun z hz hza => by
        have hzx : z ||| x < 64 := by
          have : z ||| x < 2 ^ 6 := Nat.or_lt_two_pow (by omega) (by omega)
          omega
        have hdis : ∀ j, z.testBit j = true → x.testBit j = false := fun j hj => ((diff_testBit ha hx j).1 (hza j hj)).2
        have h1 := hc (z ||| x) hzx (fun j hj => by
          rcases (or2 _ _ _).1 hj with hj | hj
          · exact ((diff_testBit ha hx j).1 (hza j hj)).1
          · exact hxa j hj)
        rw [size_disj hz hx hdis] at h1
        have h2 : size (nbs R (z ||| x) b) ≤ size (nbs R z (minus b (nbs R x b))) + size (nbs R x b) := by
          rw [← size_disj (nbs_lt _ _ _) hnl (fun j hj => ((diff_testBit hb hnl j).1 ((nbs_testBit hz (diff_lt hb) j).1 hj).1).2)]
          refine size_mono6 (nbs_lt _ _ _) (by have : nbs R z (minus b (nbs R x b)) ||| nbs R x b < 2 ^ 6 := Nat.or_lt_two_pow (nbs_lt _ _ _) hnl
                                               omega) fun j hj => ?_
          obtain ⟨a1, i, a2, a3⟩ := (nbs_testBit hzx hb j).1 hj
          rw [or2]
          cases hb2 : (nbs R x b).testBit j with
          | true => exact .inr rfl
          | false =>
            left
            rcases (or2 _ _ _).1 a2 with a2 | a2
            · exact (nbs_testBit hz (diff_lt hb) j).2 ⟨(diff_testBit hb hnl j).2 ⟨a1, hb2⟩, i, a2, a3⟩
            · rw [(nbs_testBit hx hb j).2 ⟨a1, i, a2, a3⟩] at hb2; cases hb2
        omega)
      have in1 : ∀ i, x.testBit i = true → (nbs R x b).testBit (f1 i) = true := fun i hi => (nbs_testBit hx hb _).2 ⟨(p1 i hi).1, i, hi, (p1 i hi).2⟩
      have in2 : ∀ i, a.testBit i = true → x.testBit i = false → (minus a x).testBit i = true := fun i hi hn => (diff_testBit ha hx i).2 ⟨hi, hn⟩
      refine ⟨fun i => if x.testBit i = true then f1 i else f2 i, fun i hi => ?_, fun i j hi hj he => ?_⟩
      · cases hxi : x.testBit i with
        | true => simp only [hxi, if_true]; exact p1 i hxi
        | false =>
          simp only [hxi, Bool.false_eq_true, if_false]
          obtain ⟨u, v⟩ := p2 i (in2 i hi hxi)
          exact ⟨((diff_testBit hb hnl _).1 u).1, v⟩
      · cases hxi : x.testBit i with
        | true =>
          cases hxj : x.testBit j with
          | true => simp only [hxi, hxj, if_true] at he; exact q1 i j hxi hxj he
          | false =>
            simp only [hxi, hxj, if_true, Bool.false_eq_true, if_false] at he
            have h1 := in1 i hxi
            have h2 := ((diff_testBit hb hnl _).1 (p2 j (in2 j hj hxj)).1).2
            rw [← he, h1] at h2; cases h2
        | false =>
          cases hxj : x.testBit j with
          | true =>
            simp only [hxi, hxj, if_true, Bool.false_eq_true, if_false] at he
            have h1 := in1 j hxj
            have h2 := ((diff_testBit hb hnl _).1 (p2 i (in2 i hi hxi)).1).2
            rw [he, h1] at h2; cases h2
          | false =>
            simp only [hxi, hxj, Bool.false_eq_true, if_false] at he
            exact q2 i j (in2 i hi hxi) (in2 j hj hxj) he
    · -- one is given any, and the rest goes on
      obtain ⟨g, hg⟩ := pos_iff.1 h0
      have hg6 := in6 ha hg
      have hpg : 2 ^ g < 64 := by
        have : 2 ^ g < 2 ^ 6 := Nat.pow_lt_pow_right (by omega) hg6
        omega
      have hgs : ∀ j, (2 ^ g).testBit j = true → a.testBit j = true := fun j hj => by rw [testBit_pow, decide_eq_true_eq] at hj; rw [← hj]; exact hg
      have z1 : size (2 ^ g) = 1 := by
        have := size_add (s := 0) (k := g) (by omega) hg6 (Nat.zero_testBit g)
        rw [Nat.zero_or] at this
        rw [this]; decide
      have h1 := hc (2 ^ g) hpg hgs
      have hne : nbs R (2 ^ g) b ≠ 0 := fun he => by
        have : size (nbs R (2 ^ g) b) = 0 := by rw [he]; decide
        omega
      obtain ⟨t, htb⟩ := pos_iff.1 hne
      obtain ⟨hbt, i, hi, hR⟩ := (nbs_testBit hpg hb t).1 htb
      have hig : i = g := by rw [testBit_pow, decide_eq_true_eq] at hi; exact hi.symm
      subst hig
      have ht6 := in6 hb hbt
      have ba := bits_sub a ha i hg6 hg
      have bb := bits_sub b hb t ht6 hbt
      obtain ⟨f, p, q⟩ := ih (a - 2 ^ i) (b - 2 ^ t) ba.1 bb.1 (by omega) (fun x hx hxa => by
        by_cases hx0 : x = 0
        · subst hx0
          have : size 0 = 0 := by decide
          omega
        have hxa' : ∀ j, x.testBit j = true → a.testBit j = true := fun j hj => by
          have := hxa j hj
          rw [sub_testBit ha hg6 hg, Bool.and_eq_true] at this
          exact this.1
        have hxne : x ≠ a := fun he => by
          have := hxa i (by rw [he]; exact hg)
          rw [sub_testBit ha hg6 hg] at this
          simp at this
        have h2 : size x + 1 ≤ size (nbs R x b) := by
          refine Classical.byContradiction fun hlt => ht ⟨x, hx, hxa', hx0, hxne, by omega⟩
        have h3 : size (nbs R x b) ≤ size (nbs R x (b - 2 ^ t)) + 1 := by
          have hle : size (nbs R x b) ≤ size (nbs R x (b - 2 ^ t) ||| 2 ^ t) := by
            refine size_mono6 (nbs_lt _ _ _) (by
              have hp : 2 ^ t < 2 ^ 6 := Nat.pow_lt_pow_right (by omega) ht6
              have : nbs R x (b - 2 ^ t) ||| 2 ^ t < 2 ^ 6 := Nat.or_lt_two_pow (nbs_lt _ _ _) hp
              omega) fun j hj => ?_
            obtain ⟨a1, k, a2, a3⟩ := (nbs_testBit hx hb j).1 hj
            rw [or_testBit]
            by_cases hjt : j = t
            · exact .inr hjt
            · exact .inl ((nbs_testBit hx bb.1 j).2 ⟨by rw [sub_testBit hb ht6 hbt, a1]; simp [hjt], k, a2, a3⟩)
          rw [size_add (nbs_lt _ _ _) ht6 (not_true fun hcc => by
            have := ((nbs_testBit hx bb.1 t).1 hcc).1
            rw [sub_testBit hb ht6 hbt] at this; simp at this)] at hle
          exact hle
        omega)
      have ina : ∀ k, a.testBit k = true → k ≠ i → (a - 2 ^ i).testBit k = true := fun k hk hki => by rw [sub_testBit ha hg6 hg, hk]; simp [hki]
      have outb : ∀ k, a.testBit k = true → k ≠ i → f k ≠ t ∧ b.testBit (f k) = true := fun k hk hki => by
        have := (p k (ina k hk hki)).1
        rw [sub_testBit hb ht6 hbt, Bool.and_eq_true] at this
        exact ⟨by simpa using this.2, this.1⟩
      refine ⟨fun k => if k = i then t else f k, fun k hk => ?_, fun k j hk hj he => ?_⟩
      · by_cases hki : k = i
        · simp only [hki, if_true]; exact ⟨hbt, hR⟩
        · simp only [hki, if_false]; exact ⟨(outb k hk hki).2, (p k (ina k hk hki)).2⟩
      · by_cases hki : k = i
        · by_cases hji : j = i
          · rw [hki, hji]
          · simp only [hki, hji, if_true, if_false] at he
            exact absurd he.symm (outb j hj hji).1
        · by_cases hji : j = i
          · simp only [hki, hji, if_true, if_false] at he
            exact absurd he (outb k hk hki).1
          · simp only [hki, hji, if_false] at he
            exact q k j (ina k hk hki) (ina j hj hji) he
end Go.Proofs.Ytleianhibhpgpaa
/- All guards move, for ever: plain facts. Conditions: those of each theorem. -/
namespace Go.Proofs.Ytleianhibhpgpaa
set_option linter.unusedVariables false
set_option linter.unusedSimpArgs false

/-- The guards of one set can be at the places of another one, each staying or moving to a neighbour. -/
def AllMove (net : List Int) (a b : Nat) : Prop := size a = size b ∧ ∃ f : Nat → Nat, (∀ i, a.testBit i = true → b.testBit (f i) = true ∧ (ball net i).testBit (f i) = true) ∧ ∀ i j, a.testBit i = true → a.testBit j = true → f i = f j → i = j
theorem allMove_refl (net : List Int) (a : Nat) : AllMove net a a := ⟨rfl, fun i => i, fun i hi => ⟨hi, sees_self net i⟩, fun i j _ _ he => he⟩
/-- Each new place is met. -/
theorem allMove_onto {a b : Nat} (ha : a < 64) (hb : b < 64) (hz : size a = size b) {f : Nat → Nat} (hf : ∀ i, a.testBit i = true → b.testBit (f i) = true) (hi : ∀ i j, a.testBit i = true → a.testBit j = true → f i = f j → i = j) {v : Nat} (hv : b.testBit v = true) : ∃ i, a.testBit i = true ∧ f i = v := by
  refine Classical.byContradiction fun hno => ?_
  have hv6 := in6 hb hv
  have h1 := bits_sub b hb v hv6 hv
  have h2 : size a ≤ size (b - 2 ^ v) := by
    rw [size_eq6 ha, size_eq6 h1.1]
    refine cnt_inj f (fun k hk hak => ?_) (fun i j _ _ hai haj he => hi i j hai haj he)
    have hbf := hf k hak
    refine ⟨in6 hb hbf, ?_⟩
    rw [sub_testBit hb hv6 hv, hbf]
    have : f k ≠ v := fun he => hno ⟨k, hak, he⟩
    simp [this]
  omega
/-- A guard that moves alone. -/
theorem allMove_one {net : List Int} (h : Ok net) {s f t : Nat} (hs : s < 2 ^ net.length) (ht : t < net.length) (hf : s.testBit f = true) (hn : s.testBit t = false) (hft : (nb net f).testBit t = true) : AllMove net s (moved s f t) := by
  have h6 := h.hi
  have hfl := in_lt hs hf
  have hb := moved_testBit (t := t) (lt64 h hs) (by omega) hf
  refine ⟨(moved_size (lt64 h hs) (by omega) (by omega) hf hn).symm, fun i => if i = f then t else i, fun i hi => ?_, fun i j hi hj he => ?_⟩
  · by_cases hif : i = f
    · simp only [hif, if_true]; exact ⟨(hb t).2 (.inr rfl), (ball_testBit _ _ _).2 (.inl hft)⟩
    · simp only [hif, if_false]; exact ⟨(hb i).2 (.inl ⟨hi, hif⟩), sees_self net i⟩
  · by_cases hif : i = f <;> by_cases hjf : j = f
    · rw [hif, hjf]
    · simp only [hif, hjf, if_true, if_false] at he
      rw [← he, hn] at hj; cases hj
    · simp only [hif, hjf, if_true, if_false] at he
      rw [he, hn] at hi; cases hi
    · simp only [hif, hjf, if_false] at he; exact he
/-- The new places are seen from the old ones. -/
theorem allMove_seen {net : List Int} (h : Ok net) {a b : Nat} (ha : a < 2 ^ net.length) (hb : b < 2 ^ net.length) (hm : AllMove net a b) : ∀ j, b.testBit j = true → (seen net a).testBit j = true := fun j hj => by
  obtain ⟨hz, f, hf, hi⟩ := hm
  obtain ⟨i, hia, hfi⟩ := allMove_onto (lt64 h ha) (lt64 h hb) hz (fun i hi => (hf i hi).1) hi hj
  exact (seen_balls h ha).2 ⟨i, in_lt ha hia, hia, by rw [← hfi]; exact (hf i hia).2⟩
/-- A family of sets that can answer each place by all moving. -/
def ClosedA (net : List Int) (F : Nat → Prop) : Prop := ∀ t, t < 2 ^ net.length → F t → ∀ k, k < net.length → t.testBit k = false → ∃ u, u < 2 ^ net.length ∧ u.testBit k = true ∧ AllMove net t u ∧ F u
def AllEternal (net : List Int) (s : Nat) : Prop := ∃ F, ClosedA net F ∧ F s
theorem allEternal_closed (net : List Int) : ClosedA net (AllEternal net) := fun t ht ⟨F, hF, hFt⟩ k hk hb => by
  obtain ⟨u, a, b, c, d⟩ := hF t ht hFt k hk hb
  exact ⟨u, a, b, c, F, hF, d⟩
/-- With all it is easier. -/
theorem eternal_allEternal {net : List Int} (h : Ok net) {s : Nat} (hs : s < 2 ^ net.length) (he : Eternal net s) : AllEternal net s := by
  have h6 := h.hi
  refine ⟨Eternal net, fun t ht hte k hk hb => ?_, he⟩
  obtain ⟨f, a, b, c⟩ := eternal_closed net t ht hte k hk hb
  have hfl := in_lt ht a
  exact ⟨moved t f k, moved_lt ht hk, (moved_testBit (lt64 h ht) (by omega) a k).2 (.inr rfl), allMove_one h ht hk a hb (by rw [h.sym k f hk hfl]; exact b), c⟩
theorem allEternal_watch {net : List Int} (h : Ok net) {s : Nat} (hs : s < 2 ^ net.length) (he : AllEternal net s) : W net s = true := by
  refine (W_iff h hs).2 fun j hj => ?_
  cases hb : s.testBit j with
  | true => exact (seen_testBit net s j).2 (.inl hb)
  | false =>
    obtain ⟨u, a, b, c, _⟩ := allEternal_closed net s hs he j hj hb
    exact allMove_seen h hs a c j b

/-! ### No more than are apart -/
theorem allMove_union {net : List Int} (h : Ok net) {a b c : Nat} (ha : a < 2 ^ net.length) (hb : b < 2 ^ net.length) (hc : c < 2 ^ net.length) (hac : ∀ j, a.testBit j = true → c.testBit j = false) (hbc : ∀ j, b.testBit j = true → c.testBit j = false) {d : Nat} (hd : d < 2 ^ net.length) (had : ∀ j, b.testBit j = true → d.testBit j = false) (hm : AllMove net a b) (hm2 : AllMove net c d) : AllMove net (a ||| c) (b ||| d) := by
  obtain ⟨hz, f, hf, hi⟩ := hm
  obtain ⟨hz2, g, hg, hj⟩ := hm2
  refine ⟨by rw [size_disj (lt64 h ha) (lt64 h hc) hac, size_disj (lt64 h hb) (lt64 h hd) had]; omega, fun i => if a.testBit i = true then f i else g i, fun i hx => ?_, fun i j hx hy he => ?_⟩
  · cases hai : a.testBit i with
    | true => simp only [hai, if_true]; exact ⟨(or2 _ _ _).2 (.inl (hf i hai).1), (hf i hai).2⟩
    | false =>
      have hci : c.testBit i = true := by
        rcases (or2 _ _ _).1 hx with hh | hh
        · rw [hai] at hh; cases hh
        · exact hh
      simp only [hai, Bool.false_eq_true, if_false]; exact ⟨(or2 _ _ _).2 (.inr (hg i hci).1), (hg i hci).2⟩
  · have inc : ∀ k, (a ||| c).testBit k = true → a.testBit k = false → c.testBit k = true := fun k hk hn => by
      rcases (or2 _ _ _).1 hk with hh | hh
      · rw [hn] at hh; cases hh
      · exact hh
    cases hai : a.testBit i with
    | true =>
      cases haj : a.testBit j with
      | true => simp only [hai, haj, if_true] at he; exact hi i j hai haj he
      | false =>
        simp only [hai, haj, if_true, Bool.false_eq_true, if_false] at he
        have h1 := had _ (hf i hai).1
        rw [he, (hg j (inc j hy haj)).1] at h1; cases h1
    | false =>
      cases haj : a.testBit j with
      | true =>
        simp only [hai, haj, if_true, Bool.false_eq_true, if_false] at he
        have h1 := had _ (hf j haj).1
        rw [← he, (hg i (inc i hx hai)).1] at h1; cases h1
      | false => simp only [hai, haj, Bool.false_eq_true, if_false] at he; exact hj i j (inc i hx hai) (inc j hy haj) he
/-- From largest apart set to largest apart set all can move. -/
theorem allMove_apart {net : List Int} (h : Ok net) {u m a b : Nat} (hu : u < 2 ^ net.length) (hmax : ∀ x, x < 2 ^ net.length → (∀ j, x.testBit j = true → u.testBit j = true) → Apart net x → size x ≤ m)
    (ha : a < 2 ^ net.length) (hau : ∀ j, a.testBit j = true → u.testBit j = true) (hA : Apart net a) (haz : size a = m) (hb : b < 2 ^ net.length) (hbu : ∀ j, b.testBit j = true → u.testBit j = true) (hB : Apart net b) (hbz : size b = m) : AllMove net a b := by
  have h64 := h.pow
  refine ⟨by omega, ?_⟩
  have key : ∀ x, x < 64 → (∀ j, x.testBit j = true → a.testBit j = true) → size x ≤ size (nbs (fun i j => (ball net i).testBit j) x b) := by
    intro x hx hxa
    have hxl : x < 2 ^ net.length := by
      refine Classical.byContradiction fun hge => ?_
      have hle := Nat.ge_of_not_lt hge
      have : ∃ j, net.length ≤ j ∧ x.testBit j = true := by
        obtain ⟨j, hj1, hj2⟩ := Nat.exists_ge_and_testBit_of_ge_two_pow hle
        exact ⟨j, hj1, hj2⟩
      obtain ⟨j, hj1, hj2⟩ := this
      have := in_lt ha (hxa j hj2)
      omega
    have hnl := nbs_lt (fun i j => (ball net i).testBit j) x b
    have hnb := fun j => nbs_testBit (R := fun i j => (ball net i).testBit j) hx (lt64 h hb) j
    have hdl : minus b (nbs (fun i j => (ball net i).testBit j) x b) < 2 ^ net.length := Nat.lt_of_le_of_lt Nat.and_le_left hb
    have hd := fun j => diff_testBit (lt64 h hb) hnl j
    have hdis : ∀ j, (minus b (nbs (fun i j => (ball net i).testBit j) x b)).testBit j = true → x.testBit j = false := fun j hj => not_true fun hc => by
      obtain ⟨h1, h2⟩ := (hd j).1 hj
      rw [(hnb j).2 ⟨h1, j, hc, sees_self net j⟩] at h2; cases h2
    have hcross : ∀ i j, x.testBit i = true → (minus b (nbs (fun i j => (ball net i).testBit j) x b)).testBit j = true → (nb net i).testBit j = false := fun i j hi hj => not_true fun hc => by
      obtain ⟨h1, h2⟩ := (hd j).1 hj
      rw [(hnb j).2 ⟨h1, i, hi, (ball_testBit _ _ _).2 (.inl hc)⟩] at h2; cases h2
    have hU : Apart net (minus b (nbs (fun i j => (ball net i).testBit j) x b) ||| x) := fun i j hi hj => by
      rcases (or2 _ _ _).1 hi with hi | hi <;> rcases (or2 _ _ _).1 hj with hj | hj
      · exact hB i j ((hd i).1 hi).1 ((hd j).1 hj).1
      · rw [h.sym j i (in_lt hxl hj) (in_lt hdl hi)]; exact hcross j i hj hi
      · exact hcross i j hi hj
      · exact hA i j (hxa i hi) (hxa j hj)
    have h1 := hmax _ (Nat.or_lt_two_pow hdl hxl) (fun j hj => by
      rcases (or2 _ _ _).1 hj with hj | hj
      · exact hbu j ((hd j).1 hj).1
      · exact hau j (hxa j hj)) hU
    rw [size_disj (lt64 h hdl) hx hdis] at h1
    have h2 := size_diff (lt64 h hb) hnl (fun j hj => ((hnb j).1 hj).1)
    omega
  obtain ⟨f, p, q⟩ := hall (fun i j => (ball net i).testBit j) 6 a b (lt64 h ha) (lt64 h hb) (size_le a) key
  exact ⟨f, p, q⟩
theorem size_one {k : Nat} (hk : k < 6) : size (2 ^ k) = 1 := by
  have := size_add (s := 0) (k := k) (by omega) hk (Nat.zero_testBit k)
  rw [Nat.zero_or] at this
  rw [this]; decide
/-- Within any set of places: a family with no more guards than are apart in it. -/
theorem family {net : List Int} (h : Ok net) : ∀ c u, size u ≤ c → u < 2 ^ net.length → ∀ m, (∀ x, x < 2 ^ net.length → (∀ j, x.testBit j = true → u.testBit j = true) → Apart net x → size x ≤ m) →
    ∃ F : Nat → Prop, (∃ s, F s) ∧ (∀ t, F t → t < 2 ^ net.length ∧ (∀ j, t.testBit j = true → u.testBit j = true) ∧ size t ≤ m) ∧
      ∀ t, F t → ∀ k, u.testBit k = true → t.testBit k = false → ∃ v, v.testBit k = true ∧ AllMove net t v ∧ F v := by
  have h6 := h.hi
  intro c
  induction c with
  | zero =>
    intro u hc hu m hm
    have hu0 := size_zero (lt64 h hu) (by omega)
    subst hu0
    refine ⟨fun t => t = 0, ⟨0, rfl⟩, fun t ht => ?_, fun t _ k hk => by rw [Nat.zero_testBit] at hk; cases hk⟩
    subst ht
    have : size 0 = 0 := by decide
    exact ⟨hu, fun j hj => hj, by omega⟩
  | succ c ih =>
    intro u hc hu m hm
    -- the most that are apart in u
    have hmx : ∃ M, M ≤ m ∧ (∃ x, x < 2 ^ net.length ∧ (∀ j, x.testBit j = true → u.testBit j = true) ∧ Apart net x ∧ size x = M) ∧ ∀ x, x < 2 ^ net.length → (∀ j, x.testBit j = true → u.testBit j = true) → Apart net x → size x ≤ M := by
      have hex : ∀ d, d ≤ m → (∃ x, x < 2 ^ net.length ∧ (∀ j, x.testBit j = true → u.testBit j = true) ∧ Apart net x ∧ m - d ≤ size x) → ∃ M, M ≤ m ∧ (∃ x, x < 2 ^ net.length ∧ (∀ j, x.testBit j = true → u.testBit j = true) ∧ Apart net x ∧ size x = M) ∧ ∀ x, x < 2 ^ net.length → (∀ j, x.testBit j = true → u.testBit j = true) → Apart net x → size x ≤ M := by
        intro d
        induction d with
        | zero =>
          rintro _ ⟨x, a, b, e, f⟩
          have := hm x a b e
          exact ⟨m, Nat.le_refl _, ⟨x, a, b, e, by omega⟩, hm⟩
        | succ d ihd =>
          rintro hd ⟨x, a, b, e, f⟩
          by_cases hy : ∃ y, y < 2 ^ net.length ∧ (∀ j, y.testBit j = true → u.testBit j = true) ∧ Apart net y ∧ m - d ≤ size y
          · exact ihd (by omega) hy
          · have hno : ∀ y, y < 2 ^ net.length → (∀ j, y.testBit j = true → u.testBit j = true) → Apart net y → size y ≤ m - (d + 1) := fun y p q r => by
              refine Classical.byContradiction fun hlt => hy ⟨y, p, q, r, by omega⟩
            have := hno x a b e
            exact ⟨m - (d + 1), by omega, ⟨x, a, b, e, by omega⟩, hno⟩
      refine hex m (Nat.le_refl _) ⟨0, Nat.two_pow_pos _, fun j hj => (by rw [Nat.zero_testBit] at hj; cases hj), Apart.zero net, by omega⟩
    obtain ⟨M, hMm, ⟨x0, x0l, x0u, x0A, x0z⟩, hM⟩ := hmx
    by_cases hcov : ∀ v, u.testBit v = true → ∃ x, x < 2 ^ net.length ∧ (∀ j, x.testBit j = true → u.testBit j = true) ∧ Apart net x ∧ size x = M ∧ x.testBit v = true
    · -- all largest apart sets
      refine ⟨fun t => t < 2 ^ net.length ∧ (∀ j, t.testBit j = true → u.testBit j = true) ∧ Apart net t ∧ size t = M, ⟨x0, x0l, x0u, x0A, x0z⟩, fun t ⟨a, b, _, d⟩ => ⟨a, b, by omega⟩, fun t ⟨a, b, e, d⟩ k hk hb => ?_⟩
      obtain ⟨y, y1, y2, y3, y4, y5⟩ := hcov k hk
      exact ⟨y, y5, allMove_apart h hu hM a b e d y1 y2 y3 y4, y1, y2, y3, y4⟩
    · -- a place that is in none: it and its neighbours take two
      have : ∃ v, u.testBit v = true ∧ ∀ x, x < 2 ^ net.length → (∀ j, x.testBit j = true → u.testBit j = true) → Apart net x → x.testBit v = true → size x + 1 ≤ M := by
        refine Classical.byContradiction fun hno => hcov fun v hv => Classical.byContradiction fun hno2 => hno ⟨v, hv, fun x p q r s => ?_⟩
        have h1 := hM x p q r
        refine Classical.byContradiction fun hlt => hno2 ⟨x, p, q, r, by omega, s⟩
      obtain ⟨v, hv, hvn⟩ := this
      have hvl := in_lt hu hv
      have hbl := h.ball_lt hvl
      have hul : minus u (ball net v) < 2 ^ net.length := Nat.lt_of_le_of_lt Nat.and_le_left hu
      have hub : ∀ j, (minus u (ball net v)).testBit j = true ↔ u.testBit j = true ∧ (ball net v).testBit j = false := fun j => diff_testBit (lt64 h hu) (lt64 h hbl) j
      -- fewer are apart there
      have hless : ∀ x, x < 2 ^ net.length → (∀ j, x.testBit j = true → (minus u (ball net v)).testBit j = true) → Apart net x → size x + 2 ≤ M := fun x p q r => by
        have hxv : x.testBit v = false := not_true fun hcc => by
          have := ((hub v).1 (q v hcc)).2
          rw [sees_self] at this; cases this
        have hA := r.add h p hvl (fun j hj => not_true fun hcc => by
          have := ((hub j).1 (q j hj)).2
          rw [(ball_testBit _ _ _).2 (.inl hcc)] at this; cases this)
        have h1 := hvn (x ||| 2 ^ v) (or_lt p hvl) (fun j hj => by
          rcases (or_testBit _ _ _).1 hj with hj | rfl
          · exact ((hub j).1 (q j hj)).1
          · exact hv) hA ((or_testBit _ _ _).2 (.inr rfl))
        rw [size_add (lt64 h p) (by omega) hxv] at h1
        omega
      have hM2 : 2 ≤ M := by
        have := hless 0 (Nat.two_pow_pos _) (fun j hj => by rw [Nat.zero_testBit] at hj; cases hj) (Apart.zero net)
        omega
      -- a neighbour in u
      have hnbr : ∃ y, u.testBit y = true ∧ (nb net v).testBit y = true := by
        refine Classical.byContradiction fun hno => ?_
        have hA := x0A.add h x0l hvl (fun j hj => not_true fun hcc => hno ⟨j, x0u j hj, hcc⟩)
        have h1 := hvn (x0 ||| 2 ^ v) (or_lt x0l hvl) (fun j hj => by
          rcases (or_testBit _ _ _).1 hj with hj | rfl
          · exact x0u j hj
          · exact hv) hA ((or_testBit _ _ _).2 (.inr rfl))
        have h2 : size x0 ≤ size (x0 ||| 2 ^ v) := size_mono6 (lt64 h x0l) (lt64 h (or_lt x0l hvl)) fun j hj => (or_testBit _ _ _).2 (.inl hj)
        omega
      obtain ⟨y0, hy0u, hy0⟩ := hnbr
      have hsz : size (minus u (ball net v)) ≤ c := by
        have h1 : size (minus u (ball net v)) + 1 ≤ size u := by
          have hvb : (minus u (ball net v)).testBit v = false := not_true fun hcc => by
            have := ((hub v).1 hcc).2
            rw [sees_self] at this; cases this
          rw [← size_add (lt64 h hul) (k := v) (by omega) hvb]
          refine size_mono6 (lt64 h (or_lt hul hvl)) (lt64 h hu) fun j hj => ?_
          rcases (or_testBit _ _ _).1 hj with hj | rfl
          · exact ((hub j).1 hj).1
          · exact hv
        omega
      obtain ⟨F, ⟨s0, hs0⟩, hF, hcl⟩ := ih (minus u (ball net v)) hsz hul (M - 2) (fun x p q r => by have := hless x p q r; omega)
      -- the pairs of the place and a neighbour
      have pl : ∀ y, y < net.length → 2 ^ v ||| 2 ^ y < 2 ^ net.length := fun y hy => or_lt (Nat.pow_lt_pow_right (by omega) hvl) hy
      have pb : ∀ y j, (2 ^ v ||| 2 ^ y).testBit j = true ↔ j = v ∨ j = y := fun y j => by
        rw [or_testBit, testBit_pow, decide_eq_true_eq]
        exact ⟨fun hh => hh.elim (fun e => .inl e.symm) .inr, fun hh => hh.elim (fun e => .inl e.symm) .inr⟩
      have pz : ∀ y, y < net.length → y ≠ v → size (2 ^ v ||| 2 ^ y) = 2 := fun y hy hne => by
        have hpv : 2 ^ v < 64 := lt64 h (Nat.pow_lt_pow_right (by omega) hvl)
        rw [size_add hpv (by omega) (by rw [testBit_pow]; simp; omega), size_one (by omega)]
      have yne : ∀ y, (nb net v).testBit y = true → y ≠ v := fun y hy he => by rw [he, h.irr v hvl] at hy; cases hy
      have apart2 : ∀ t, F t → ∀ y, (nb net v).testBit y = true → ∀ j, t.testBit j = true → (2 ^ v ||| 2 ^ y).testBit j = false := fun t ht y hy j hj => not_true fun hcc => by
        have h1 := ((hub j).1 ((hF t ht).2.1 j hj)).2
        rcases (pb y j).1 hcc with e | e
        · rw [e, sees_self] at h1; cases h1
        · rw [e, (ball_testBit _ _ _).2 (.inl hy)] at h1; cases h1
      refine ⟨fun q => ∃ t y, F t ∧ u.testBit y = true ∧ (nb net v).testBit y = true ∧ q = t ||| (2 ^ v ||| 2 ^ y), ⟨_, s0, y0, hs0, hy0u, hy0, rfl⟩, ?_, ?_⟩
      · rintro _ ⟨t, y, ht, hyu, hy, rfl⟩
        obtain ⟨t1, t2, t3⟩ := hF t ht
        have hyl := h.nb_lt hvl hy
        refine ⟨Nat.or_lt_two_pow t1 (pl y hyl), fun j hj => ?_, ?_⟩
        · rcases (or2 _ _ _).1 hj with hj | hj
          · exact ((hub j).1 (t2 j hj)).1
          · rcases (pb y j).1 hj with e | e
            · rw [e]; exact hv
            · rw [e]; exact hyu
        · rw [size_disj (lt64 h t1) (lt64 h (pl y hyl)) (apart2 t ht y hy), pz y hyl (yne y hy)]; omega
      · rintro _ ⟨t, y, ht, hyu, hy, rfl⟩ k hk hb
        obtain ⟨t1, t2, t3⟩ := hF t ht
        have hyl := h.nb_lt hvl hy
        have hkl := in_lt hu hk
        cases hkb : (ball net v).testBit k with
        | false =>
          -- the others answer
          have htk : t.testBit k = false := not_true fun hcc => by rw [(or2 _ _ _).2 (.inl hcc)] at hb; cases hb
          obtain ⟨w, w1, w2, w3⟩ := hcl t ht k ((hub k).2 ⟨hk, hkb⟩) htk
          exact ⟨w ||| (2 ^ v ||| 2 ^ y), (or2 _ _ _).2 (.inl w1), allMove_union h t1 (hF w w3).1 (pl y hyl) (apart2 t ht y hy) (apart2 w w3 y hy) (pl y hyl) (apart2 w w3 y hy) w2 (allMove_refl net _), w, y, w3, hyu, hy, rfl⟩
        | true =>
          -- the two of them answer
          have hkv : k ≠ v := fun he => by rw [he, (or2 _ _ _).2 (.inr ((pb y v).2 (.inl rfl)))] at hb; cases hb
          have hky : k ≠ y := fun he => by rw [he, (or2 _ _ _).2 (.inr ((pb y y).2 (.inr rfl)))] at hb; cases hb
          have hkn : (nb net v).testBit k = true := by
            rcases (ball_testBit _ _ _).1 hkb with e | e
            · exact e
            · exact absurd e.symm hkv
          have hmv : AllMove net (2 ^ v ||| 2 ^ y) (2 ^ v ||| 2 ^ k) := by
            refine ⟨by rw [pz y hyl (yne y hy), pz k hkl hkv], fun i => if i = y then v else k, fun i hi => ?_, fun i j hi hj he => ?_⟩
            · by_cases hiy : i = y
              · simp only [hiy, if_true]
                exact ⟨(pb k v).2 (.inl rfl), (ball_testBit _ _ _).2 (.inl (by rw [h.sym v y hvl hyl]; exact hy))⟩
              · simp only [hiy, if_false]
                have hiv : i = v := by
                  rcases (pb y i).1 hi with e | e
                  · exact e
                  · exact absurd e hiy
                rw [hiv]
                exact ⟨(pb k k).2 (.inr rfl), (ball_testBit _ _ _).2 (.inl hkn)⟩
            · by_cases hiy : i = y <;> by_cases hjy : j = y
              · rw [hiy, hjy]
              · simp only [hiy, hjy, if_true, if_false] at he; exact absurd he.symm hkv
              · simp only [hiy, hjy, if_true, if_false] at he; exact absurd he hkv
              · rcases (pb y i).1 hi with e | e
                · rcases (pb y j).1 hj with e2 | e2
                  · rw [e, e2]
                  · exact absurd e2 hjy
                · exact absurd e hiy
          exact ⟨t ||| (2 ^ v ||| 2 ^ k), (or2 _ _ _).2 (.inr ((pb k k).2 (.inr rfl))), allMove_union h t1 t1 (pl y hyl) (apart2 t ht y hy) (apart2 t ht y hy) (pl k hkl) (apart2 t ht k hkn) (allMove_refl net _) hmv, t, k, ht, hk, hkn, rfl⟩
/-- Where all move it takes no more than are apart. -/
theorem allEternal_upper {net : List Int} (h : Ok net) {m : Nat} (hm : MaxOf net (apart net) m) : ∃ s, s < 2 ^ net.length ∧ AllEternal net s ∧ size s ≤ m := by
  obtain ⟨F, ⟨s, hs⟩, hF, hcl⟩ := family h 6 (allOf net) (size_le _) (allOf_lt net) m (fun x hx _ hA => hm.le x hx ((apart_iff hx).2 hA))
  refine ⟨s, (hF s hs).1, ⟨F, fun t ht hFt k hk hb => ?_, hs⟩, (hF s hs).2.2⟩
  obtain ⟨u, a, b, c⟩ := hcl t hFt k (by rw [allOf_testBit]; simpa using hk) hb
  exact ⟨u, (hF u c).1, a, b, c⟩
end Go.Proofs.Ytleianhibhpgpaa
/- The model's functions of chapter 10 in natural numbers. Conditions: those of each theorem. -/
namespace Go.Proofs.Ytleianhibhpgpaa
open D Go.RowKit
set_option linter.unusedVariables false
set_option linter.unusedSimpArgs false


/-- The guards from a place on fit into a set. -/
def FitP (net : List Int) (f a l : Nat) : Prop := ∃ g : Nat → Nat, (∀ i, a ≤ i → f.testBit i = true → l.testBit (g i) = true ∧ (ball net i).testBit (g i) = true) ∧ ∀ i j, a ≤ i → a ≤ j → f.testBit i = true → f.testBit j = true → g i = g j → i = j
noncomputable def fitB (net : List Int) (f a l : Nat) : Bool := @decide (FitP net f a l) (Classical.propDecidable _)
theorem fitB_iff {net : List Int} {f a l : Nat} : fitB net f a l = true ↔ FitP net f a l := by unfold fitB; exact @decide_eq_true_iff _ (Classical.propDecidable _)
theorem fit_skip {net : List Int} {f a b l : Nat} (hab : a ≤ b) (hno : ∀ i, a ≤ i → i < b → f.testBit i = false) : FitP net f a l ↔ FitP net f b l := by
  have up : ∀ i, a ≤ i → f.testBit i = true → b ≤ i := fun i hi hb => by
    rcases Nat.lt_or_ge i b with h | h
    · rw [hno i hi h] at hb; cases hb
    · exact h
  constructor
  · rintro ⟨g, h1, h2⟩
    exact ⟨g, fun i hi hb => h1 i (by omega) hb, fun i j hi hj a b c => h2 i j (by omega) (by omega) a b c⟩
  · rintro ⟨g, h1, h2⟩
    exact ⟨g, fun i hi hb => h1 i (up i hi hb) hb, fun i j hi hj a b c => h2 i j (up i hi a) (up j hj b) a b c⟩
theorem fit_end {net : List Int} {f a l : Nat} (hno : ∀ i, a ≤ i → f.testBit i = false) : FitP net f a l :=
  ⟨fun i => i, fun i hi hb => (by rw [hno i hi] at hb; cases hb), fun i j _ _ _ _ he => he⟩
theorem fit_one {net : List Int} (h : Ok net) {f a l : Nat} (ha : a < net.length) (hb : f.testBit a = true) (hl : l < 2 ^ net.length) :
    FitP net f a l ↔ ∃ k, k < net.length ∧ ((ball net a) &&& l).testBit k = true ∧ FitP net f (a + 1) (minus l (2 ^ k)) := by
  have h6 := h.hi
  have hl64 := lt64 h hl
  have hm : ∀ k, k < net.length → ∀ j, (minus l (2 ^ k)).testBit j = true ↔ l.testBit j = true ∧ j ≠ k := fun k hk j => by
    have h1 : 2 ^ k < 2 ^ 6 := Nat.pow_lt_pow_right (by omega) (by omega)
    rw [minus_testBit _ _ (by omega) (by omega), Nat.testBit_two_pow, Bool.and_eq_true, Bool.not_eq_true', decide_eq_false_iff_not]
    constructor
    · rintro ⟨x, y⟩; exact ⟨x, fun e => y e.symm⟩
    · rintro ⟨x, y⟩; exact ⟨x, fun e => y e.symm⟩
  constructor
  · rintro ⟨g, h1, h2⟩
    obtain ⟨x, y⟩ := h1 a (Nat.le_refl _) hb
    refine ⟨g a, in_lt hl x, by rw [Nat.testBit_and, x, y]; rfl, g, fun i hi hbi => ?_, fun i j hi hj p q e => h2 i j (by omega) (by omega) p q e⟩
    obtain ⟨p, q⟩ := h1 i (by omega) hbi
    refine ⟨(hm _ (in_lt hl x) _).2 ⟨p, fun e => ?_⟩, q⟩
    have := h2 i a (by omega) (Nat.le_refl _) hbi hb e
    omega
  · rintro ⟨k, hk, hkb, g, h1, h2⟩
    rw [Nat.testBit_and, Bool.and_eq_true] at hkb
    refine ⟨fun i => if i = a then k else g i, fun i hi hbi => ?_, fun i j hi hj p q e => ?_⟩
    · by_cases he : i = a
      · subst he; simp only [if_true]; exact ⟨hkb.2, hkb.1⟩
      · simp only [if_neg he]
        obtain ⟨x, y⟩ := h1 i (by omega) hbi
        exact ⟨((hm k hk _).1 x).1, y⟩
    · by_cases hi2 : i = a <;> by_cases hj2 : j = a
      · omega
      · simp only [hi2, if_true, if_neg hj2] at e
        have := (h1 j (by omega) q).1
        rw [hm k hk] at this
        exact absurd e.symm this.2
      · simp only [hj2, if_true, if_neg hi2] at e
        have := (h1 i (by omega) p).1
        rw [hm k hk] at this
        exact absurd e this.2
      · simp only [if_neg hi2, if_neg hj2] at e
        exact h2 i j (by omega) (by omega) p q e
theorem S.l10Fit_next [c : S.l10Fit_r_R] {net : List Int} (h : Ok net) {f : Nat} (x3 : Int) : ∀ (m a n : Nat), a + m = net.length → m < n →
    ∃ b, a ≤ b ∧ b ≤ net.length ∧ (∀ i, a ≤ i → i < b → f.testBit i = false) ∧ (b < net.length → f.testBit b = true) ∧ S.l10Fit_r_run1 net f x3 n a = some (b : Int) := by
  have h6 := h.hi
  intro m
  induction m with
  | zero =>
    intro a n ha hn
    obtain ⟨n, rfl⟩ : ∃ q, n = q + 1 := ⟨n - 1, by omega⟩
    refine ⟨a, Nat.le_refl _, by omega, fun i h1 h2 => by omega, fun hh => by omega, ?_⟩
    simp only [S.l10Fit_r_run1, S.l10Fit_r_step1]
    rw [cnd_f (by rw [decide_eq_false_iff_not]; omega)]
  | succ m ih =>
    intro a n ha hn
    obtain ⟨n, rfl⟩ : ∃ q, n = q + 1 := ⟨n - 1, by omega⟩
    simp only [S.l10Fit_r_run1, S.l10Fit_r_step1]
    rw [cnd_t (by rw [decide_eq_true_eq]; omega), cnd_f (by simp), bit_shr _ _ (by omega), bool_eq0, add1_nat (by omega)]
    cases hb : f.testBit a with
    | true => exact ⟨a, Nat.le_refl _, by omega, fun i h1 h2 => by omega, fun _ => hb, rfl⟩
    | false =>
      rw [Bool.not_false, cond_true]
      obtain ⟨b, b1, b2, b3, b4, b5⟩ := ih (a + 1) n (by omega) (by omega)
      refine ⟨b, by omega, b2, fun i h1 h2 => ?_, b4, b5⟩
      by_cases he : i = a
      · rw [he]; exact hb
      · exact b3 i (by omega) h2
theorem S.l10Fit_step [c : S.l10Fit_r_R] {net : List Int} (h : Ok net) {f : Nat} (hf : f < 2 ^ net.length) {a : Nat} (ha : a ≤ net.length)
    (hrec : ∀ b l : Nat, a < b → b ≤ net.length → l < 2 ^ net.length → S.l10Fit_r0_t net (f : Int) (b : Int) (l : Int) = some (fitB net f b l)) {l : Nat} (hl : l < 2 ^ net.length) :
    S.l10Fit_r_t net (f : Int) (a : Int) (l : Int) = some (fitB net f a l) := by
  have h6 := h.hi
  have h64 := h.pow
  have hF := FUEL_le
  unfold S.l10Fit_r_t S.l10Fit_r_tree
  obtain ⟨b, b1, b2, b3, b4, b5⟩ := S.l10Fit_next h (l : Int) (net.length - a) a FUEL (by omega) (by omega) (f := f)
  rw [b5]
  simp only [optC]
  by_cases hb : b < net.length
  · have hbb := b4 hb
    have hbl := h.ball_lt hb
    have hnb := h.lt64 hb
    have h2b : 2 ^ b < 2 ^ 6 := Nat.pow_lt_pow_right (by omega) (by omega)
    rw [cnd_f (by rw [decide_eq_false_iff_not]; omega), cnd_t (by simp only [Bool.and_eq_true, decide_eq_true_eq]; omega), cnd_f (by simp), one_shl (by omega), Int.toNat_natCast, h.eli hb, i64_or_nat _ _ (by omega) (by omega),
      i64_and_nat _ _ (by rw [show nb net b ||| 2 ^ b = ball net b from rfl]; omega) (by omega)]
    rw [run_search (run := S.l10Fit_r_run7 net (f : Int) (b : Int) (l : Int) (((nb net b ||| 2 ^ b) &&& l : Nat) : Int)) (len := net.length) (fun k => if (((nb net b ||| 2 ^ b) &&& l).testBit k && fitB net f (b + 1) (minus l (2 ^ k))) = true then some true else none) () (by omega) (fun n k hk => ?_) (fun n => ?_), find_testT]
    · have e : ((List.range net.length).any fun k => ((nb net b ||| 2 ^ b) &&& l).testBit k && fitB net f (b + 1) (minus l (2 ^ k))) = fitB net f a l := by
        rw [Bool.eq_iff_iff, fitB_iff, fit_skip b1 b3, fit_one h hb hbb hl, List.any_eq_true]
        simp only [List.mem_range, Bool.and_eq_true, fitB_iff]
        rfl
      rw [← e]
      cases (List.range net.length).any fun k => ((nb net b ||| 2 ^ b) &&& l).testBit k && fitB net f (b + 1) (minus l (2 ^ k)) <;> rfl
    · simp only [S.l10Fit_r_run7, S.l10Fit_r_step7]
      have h2k : 2 ^ k < 2 ^ 6 := Nat.pow_lt_pow_right (by omega) (by omega)
      rw [cnd_t (by rw [decide_eq_true_eq]; omega), cnd_f (by simp), bit_shr _ _ (by omega), bool_eq1]
      cases hbk : ((nb net b ||| 2 ^ b) &&& l).testBit k with
      | false => simp only [cond_false, Bool.false_and, Bool.false_eq_true, if_false]; rw [add1_nat (by omega)]
      | true =>
        rw [cond_true, cnd_f (by simp), one_shl (by omega), i64_andNot_nat _ _ (by omega) (by omega), add1_nat (by omega), add1_nat (by omega),
          hrec (b + 1) (minus l (2 ^ k)) (by omega) (by omega) (Nat.lt_of_le_of_lt Nat.and_le_left hl)]
        simp only [optC, Bool.true_and]
        cases fitB net f (b + 1) (minus l (2 ^ k)) <;> rfl
    · simp only [S.l10Fit_r_run7, S.l10Fit_r_step7]
      rw [cnd_f (by rw [decide_eq_false_iff_not]; omega)]
  · rw [cnd_t (by rw [decide_eq_true_eq]; omega)]
    congr 1
    symm
    rw [fitB_iff, fit_skip b1 b3]
    refine fit_end (fun i hi => not_true fun hc => ?_)
    have := in_lt hf hc
    omega
theorem S.l10Fit_d {net : List Int} (h : Ok net) {f : Nat} (hf : f < 2 ^ net.length) : ∀ (m d a l : Nat), a + m = net.length → m < d → l < 2 ^ net.length → S.l10Fit_td d net (f : Int) (a : Int) (l : Int) = some (fitB net f a l) := by
  intro m
  induction m using Nat.strongRecOn with
  | _ m ih =>
    intro d a l ha hd hl
    obtain ⟨d, rfl⟩ : ∃ q, d = q + 1 := ⟨d - 1, by omega⟩
    exact @S.l10Fit_step ⟨S.l10Fit_td d⟩ net h f hf a (by omega) (fun (b l' : Nat) h1 h2 h3 => ih (net.length - b) (by omega) d b l' (by omega) (by omega) h3) l hl
theorem S.l10Fit_n {net : List Int} (h : Ok net) {f l : Nat} (hf : f < 2 ^ net.length) (hl : l < 2 ^ net.length) : S.l10Fit_t net (f : Int) 0 (l : Int) = some (fitB net f 0 l) := by
  have hF := FUEL_le
  have h6 := h.hi
  exact S.l10Fit_d h hf net.length FUEL 0 l (by omega) (by omega) hl
theorem fit_allMove {net : List Int} {a b : Nat} : AllMove net a b ↔ size a = size b ∧ FitP net a 0 b := by
  unfold AllMove FitP
  refine and_congr Iff.rfl ⟨fun ⟨g, h1, h2⟩ => ⟨g, fun i _ hi => h1 i hi, fun i j _ _ => h2 i j⟩, fun ⟨g, h1, h2⟩ => ⟨g, fun i hi => h1 i (Nat.zero_le _) hi, fun i j => h2 i j (Nat.zero_le _) (Nat.zero_le _)⟩⟩
noncomputable def allMoveB (net : List Int) (a b : Nat) : Bool := size a == size b && fitB net a 0 b
theorem allMoveB_iff {net : List Int} {a b : Nat} : allMoveB net a b = true ↔ AllMove net a b := by
  unfold allMoveB
  rw [Bool.and_eq_true, beq_iff_eq, fitB_iff, fit_allMove]
def ansAP (net : List Int) (l : List Bool) (fit : Nat → Bool) (s p u : Nat) : Bool := D.elb l u && (u.testBit p && (size u == size s && fit u))
noncomputable def ansA (net : List Int) (l : List Bool) (s p : Nat) : Int := (find (2 ^ net.length) (fun u => if ansAP net l (fitB net s 0) s p u = true then some (u : Int) else none)).getD (-1)
theorem ansA_cases (net : List Int) (l : List Bool) (s p : Nat) : (ansA net l s p = -1 ∧ ∀ u, u < 2 ^ net.length → ansAP net l (fitB net s 0) s p u = false) ∨ ∃ u : Nat, u < 2 ^ net.length ∧ ansA net l s p = (u : Int) ∧ ansAP net l (fitB net s 0) s p u = true := by
  unfold ansA
  cases hf : find (2 ^ net.length) (fun u => if ansAP net l (fitB net s 0) s p u = true then some (u : Int) else none) with
  | none =>
    refine .inl ⟨rfl, fun u hu => not_true fun hc => ?_⟩
    have := find_none.1 hf u hu
    rw [if_pos hc] at this; cases this
  | some r =>
    obtain ⟨u, hu, he⟩ := find_some_ex hf
    right
    by_cases hc : ansAP net l (fitB net s 0) s p u = true
    · rw [if_pos hc] at he; injection he with he; exact ⟨u, hu, he.symm, hc⟩
    · rw [if_neg hc] at he; cases he
theorem ansAP_iff {net : List Int} {l : List Bool} {s p u : Nat} : ansAP net l (fitB net s 0) s p u = true ↔ D.elb l u = true ∧ u.testBit p = true ∧ AllMove net s u := by
  unfold ansAP
  rw [Bool.and_eq_true, Bool.and_eq_true, Bool.and_eq_true, beq_iff_eq, fitB_iff, fit_allMove]
  exact and_congr Iff.rfl (and_congr Iff.rfl (and_congr ⟨fun e => e.symm, fun e => e.symm⟩ Iff.rfl))
theorem S.l10Answer_n {net : List Int} (h : Ok net) {l : List Bool} (hl : l.length = 2 ^ net.length) {s p : Nat} (hs : s < 2 ^ net.length) (hp : p < net.length) : S.l10Answer_t net l (s : Int) (p : Int) = some (ansA net l s p) := by
  unfold S.l10Answer_t S.l10Answer_tree
  have h6 := h.hi
  have h64 := h.pow
  rw [run_search (run := S.l10Answer_run2 net l s p) (len := l.length) (fun u => if ansAP net l (fitB net s 0) s p u = true then some (u : Int) else none) () (by omega) (fun n k hk => ?_) (fun n => ?_)]
  · unfold ansA
    rw [hl]
    cases find (2 ^ net.length) (fun u => if ansAP net l (fitB net s 0) s p u = true then some (u : Int) else none) <;> rfl
  · simp only [S.l10Answer_run2, S.l10Answer_step2]
    rw [cnd_t (by rw [decide_eq_true_eq]; omega), cnd_t (by simp only [Bool.and_eq_true, decide_eq_true_eq]; omega), Int.toNat_natCast, add1_nat (by omega)]
    unfold ansAP
    cases hb : D.elb l k with
    | false => rfl
    | true =>
      rw [cond_true, cnd_f (by simp), ← Int.toNat_natCast p, bit_shr _ _ (by omega), bool_eq1, Int.toNat_natCast]
      cases hb2 : k.testBit p with
      | false => rfl
      | true =>
        rw [cond_true, S.l1Size_n (by omega), S.l1Size_n (by omega)]
        simp only [optC]
        rw [nat_beq]
        cases hz : size k == size s with
        | false => rfl
        | true =>
          rw [cond_true, S.l10Fit_n h hs (by omega)]
          simp only [Bool.true_and]
          cases fitB net s 0 k <;> rfl
  · simp only [S.l10Answer_run2, S.l10Answer_step2]
    rw [cnd_f (by rw [decide_eq_false_iff_not]; omega)]
noncomputable def badA (net : List Int) (l : List Bool) (s k : Nat) : Bool := !s.testBit k && decide (ansA net l s k < 0)
noncomputable def holdsA (net : List Int) (l : List Bool) (s : Nat) : Bool := !((List.range net.length).any (badA net l s))
noncomputable def inStep (net : List Int) (s : Nat) (t : Bool × List Bool) (k : Nat) : Bool × List Bool := if (D.elb t.2 s && badA net t.2 s k) = true then (true, t.2.set s false) else t
theorem inStep_fold {net : List Int} {s : Nat} {t : Bool × List Bool} (hs : s < t.2.length) (N : Nat) :
    fold N (inStep net s) t = if (D.elb t.2 s && (List.range N).any (badA net t.2 s)) = true then (true, t.2.set s false) else t := by
  induction N with
  | zero => simp [fold_zero]
  | succ N ih =>
    rw [fold_succ, ih, List.range_succ, List.any_append, List.any_cons, List.any_nil, Bool.or_false]
    cases hb : D.elb t.2 s with
    | false => simp [inStep, hb]
    | true =>
      cases ha : (List.range N).any (badA net t.2 s) with
      | true =>
        simp only [Bool.true_and, Bool.true_or, if_true]
        unfold inStep
        have : D.elb (t.2.set s false) s = false := by rw [elb_set hs, if_pos rfl]
        simp [this]
      | false =>
        simp only [Bool.true_and, Bool.false_or, Bool.false_eq_true, if_false]
        unfold inStep
        rw [hb, Bool.true_and]
theorem inStep_sweep {net : List Int} {s : Nat} {t : Bool × List Bool} (hs : s < t.2.length) : fold net.length (inStep net s) t = sweepStep (holdsA net) t s := by
  rw [inStep_fold hs]
  unfold sweepStep holdsA
  rw [Bool.not_not]
noncomputable def allEternalB (net : List Int) (s : Nat) : Bool := @decide (AllEternal net s) (Classical.propDecidable _)
theorem allEternalB_iff {net : List Int} {s : Nat} : allEternalB net s = true ↔ AllEternal net s := by unfold allEternalB; exact @decide_eq_true_iff _ (Classical.propDecidable _)
noncomputable def lastsA (net : List Int) : List Bool := (List.range (2 ^ net.length)).map (allEternalB net)
theorem lastsA_len (net : List Int) : (lastsA net).length = 2 ^ net.length := by simp [lastsA]
theorem lastsA_elb {net : List Int} {s : Nat} (hs : s < 2 ^ net.length) : D.elb (lastsA net) s = allEternalB net s := by unfold D.elb lastsA; simp [List.getD, hs]
theorem holdsA_eternal {net : List Int} (m : List Bool) (hin : ∀ s, s < 2 ^ net.length → AllEternal net s → D.elb m s = true) : ∀ s, s < 2 ^ net.length → AllEternal net s → holdsA net m s = true := by
  intro s hs he
  unfold holdsA
  rw [Bool.not_eq_true', List.any_eq_false]
  intro k hk
  have hk := List.mem_range.1 hk
  unfold badA
  cases hb : s.testBit k with
  | true => simp
  | false =>
    obtain ⟨u, a, b, c, d⟩ := allEternal_closed net s hs he k hk hb
    rcases ansA_cases net m s k with ⟨_, hno⟩ | ⟨g, _, hg, _⟩
    · have := hno u a
      rw [ansAP_iff.2 ⟨hin u a d, b, c⟩] at this
      cases this
    · rw [hg, decide_eq_false (by omega)]; simp
theorem stableA_eternal {net : List Int} {m : List Bool} (hst : ∀ s, s < 2 ^ net.length → D.elb m s = true → holdsA net m s = true) : ∀ s, s < 2 ^ net.length → D.elb m s = true → AllEternal net s := by
  intro s hs hb
  refine ⟨fun q => q < 2 ^ net.length ∧ D.elb m q = true, fun t ht ⟨_, htm⟩ k hk hb => ?_, hs, hb⟩
  have := hst t ht htm
  unfold holdsA at this
  rw [Bool.not_eq_true', List.any_eq_false] at this
  have := this k (List.mem_range.2 hk)
  unfold badA at this
  rw [hb] at this
  rcases ansA_cases net m t k with ⟨hn, _⟩ | ⟨u, hu, hg, hP⟩
  · rw [hn] at this; exact absurd rfl this
  · obtain ⟨x, y, z⟩ := ansAP_iff.1 hP
    exact ⟨u, hu, y, z, hu, x⟩
theorem S.l10Lasts_n {net : List Int} (h : Ok net) : S.l10Lasts_t net = some (lastsA net) := by
  unfold S.l10Lasts_t S.l10Lasts_tree
  have h6 := h.hi
  have h64 := h.pow
  rw [pow_shl h, Int.toNat_natCast, cnd_t (by simp only [D.small, Bool.and_true, Bool.and_eq_true, decide_eq_true_eq]; exact ⟨Int.natCast_nonneg _, by omega⟩)]
  have l3 := (run_for (run := S.l10Lasts_run3 net) (len := 2 ^ net.length) (fun k (t : List Bool) => ((k : Int), t)) (fun t k => t.set k true) (fun t => t) (fun k t => t.length = 2 ^ net.length ∧ ∀ j, j < k → D.elb t j = true) (by omega) (fun n k t hk ht => ?_) (fun n t ht => ?_) (t0 := List.replicate (2 ^ net.length) false) ⟨by simp, fun j hj => by omega⟩)
  · obtain ⟨e1, hl, hall⟩ := l3
    rw [show S.l10Lasts_run3 net FUEL (0, List.replicate (2 ^ net.length) false) = _ from e1]
    simp only [optC]
    generalize fold (2 ^ net.length) (fun (t : List Bool) k => t.set k true) (List.replicate (2 ^ net.length) false) = T at hl hall ⊢
    have hF := FUEL_le
    obtain ⟨m, r1, r2, r3, r4⟩ := settles (H := holdsA net) (N := 2 ^ net.length) (G := AllEternal net) (fun m _ => holdsA_eternal m) (run := S.l10Lasts_run7 net) (fun n l hl => by
      have l10 := (run_for (run := S.l10Lasts_run10 net) (len := 2 ^ net.length) (fun k (t : Bool × List Bool) => (t.1, (k : Int), t.2)) (sweepStep (holdsA net)) (fun t => (t.1, t.2)) (fun k t => t.2.length = 2 ^ net.length) (by omega) (fun n k t hk ht => by
        have l13 := (run_for (run := S.l10Lasts_run13 net (k : Int)) (len := net.length) (fun j (q : Bool × List Bool) => (q.1, (j : Int), q.2)) (inStep net k) (fun q => (q.1, q.2)) (fun j q => q.2.length = 2 ^ net.length) (by omega) (fun n j q hj hq => by
          simp only [S.l10Lasts_run13, S.l10Lasts_step13]
          rw [cnd_t (by rw [decide_eq_true_eq]; omega), cnd_t (by simp only [Bool.and_eq_true, decide_eq_true_eq]; omega), Int.toNat_natCast, cnd_t (by rw [decide_eq_true_eq]; omega), add1_nat (by omega)]
          unfold inStep badA
          cases hb : D.elb q.2 k with
          | false => simp only [cond_false, Bool.false_and, Bool.false_eq_true, if_false]; exact ⟨trivial, hq⟩
          | true =>
            rw [cond_true, cnd_f (by simp), ← Int.toNat_natCast j, bit_shr _ _ (by omega), bool_eq0, Int.toNat_natCast]
            cases hb2 : k.testBit j with
            | true => simp only [Bool.not_true, cond_false, Bool.false_and, Bool.and_false, Bool.false_eq_true, if_false]; exact ⟨trivial, hq⟩
            | false =>
              rw [Bool.not_false, cond_true, S.l10Answer_n h hq hk hj]
              simp only [optC, Bool.true_and]
              by_cases hn : ansA net q.2 k j < 0
              · rw [decide_eq_true hn, cond_true, cnd_t (by simp only [Bool.and_eq_true, decide_eq_true_eq]; omega), cnd_t (by rw [decide_eq_true_eq]; omega), if_pos rfl]
                exact ⟨rfl, by simp [hq]⟩
              · rw [decide_eq_false hn, cond_false, if_neg (by simp)]; exact ⟨rfl, hq⟩) (fun n q hq => by
          simp only [S.l10Lasts_run13, S.l10Lasts_step13]
          rw [cnd_f (by rw [decide_eq_false_iff_not]; omega)]) (t0 := t) ht)
        simp only [S.l10Lasts_run10, S.l10Lasts_step10]
        rw [cnd_t (by rw [decide_eq_true_eq]; omega), show S.l10Lasts_run13 net (k : Int) FUEL (t.1, 0, t.2) = _ from l13.1]
        simp only [optC]
        rw [add1_nat (by omega), ← inStep_sweep (by omega)]
        exact ⟨rfl, l13.2⟩) (fun n t ht => by
        simp only [S.l10Lasts_run10, S.l10Lasts_step10]
        rw [cnd_f (by rw [decide_eq_false_iff_not]; omega)]) (t0 := (false, l)) hl).1
      simp only [S.l10Lasts_run7, S.l10Lasts_step7]
      rw [cond_true, show S.l10Lasts_run10 net FUEL (false, 0, l) = _ from l10]
      rfl) (fun n l => by simp only [S.l10Lasts_run7, S.l10Lasts_step7]; rfl) (2 ^ net.length) T hl (by have := trues_le T; omega) (fun s hs _ => hall s hs) FUEL (by omega)
    rw [r1]
    simp only
    congr 1
    refine elb_ext (by rw [r2, lastsA_len]) (fun s hs => ?_)
    rw [r2] at hs
    rw [lastsA_elb hs, Bool.eq_iff_iff, allEternalB_iff]
    exact ⟨stableA_eternal r4 s hs, r3 s hs⟩
  · simp only [S.l10Lasts_run3, S.l10Lasts_step3]
    have hl := ht.1
    rw [cnd_t (by simp; omega), cnd_t (by simp; omega), Int.toNat_natCast, cnd_t (by simp; omega), add1_nat (by omega)]
    refine ⟨rfl, by simp [hl], fun j hj => ?_⟩
    rw [elb_set (by omega)]
    by_cases he : j = k
    · rw [if_pos he]
    · rw [if_neg he]; exact ht.2 j (by omega)
  · simp only [S.l10Lasts_run3, S.l10Lasts_step3]
    have hl := ht.1
    rw [cnd_f (by rw [decide_eq_false_iff_not]; omega)]
theorem allEternal_all (net : List Int) (h : Ok net) : AllEternal net (allOf net) := eternal_allEternal h (allOf_lt net) eternal_all
noncomputable def fewestAllEternal (net : List Int) : Nat := minSize net (allEternalB net)
theorem fewestAllEternal_min {net : List Int} (h : Ok net) : MinOf net (allEternalB net) (fewestAllEternal net) := minSize_is h ⟨allOf net, allOf_lt net, allEternalB_iff.2 (allEternal_all net h)⟩
theorem S.FewestAllEternal_y {net : List Int} (h : Ok net) (e : S.NetOk_t net = some true) : S.FewestAllEternal_t net = some ((fewestAllEternal net : Nat) : Int) := by
  unfold S.FewestAllEternal_t S.FewestAllEternal_tree
  have h6 := h.hi
  have h64 := h.pow
  have hll := lastsA_len net
  rw [e]
  simp only [optC, Bool.not_true, cond_false]
  rw [S.l10Lasts_n h]
  simp only
  have := (run_for (run := S.FewestAllEternal_run6) (len := 2 ^ net.length) (fun k (t : Nat) => ((t : Int), (k : Int), lastsA net)) (fun t s => if allEternalB net s = true then (if size s < t then size s else t) else t) (fun t => (t : Int)) (fun k t => t ≤ 6) (by omega) (fun n k t hk ht => ?_) (fun n t ht => ?_) (t0 := net.length) (by omega)).1
  · exact congrArg (fun o => optC o (fun q => some q) none) this
  · simp only [S.FewestAllEternal_run6, S.FewestAllEternal_step6]
    have hz := size_le k
    rw [cnd_t (by rw [decide_eq_true_eq]; omega), cnd_t (by simp only [Bool.and_eq_true, decide_eq_true_eq]; omega), Int.toNat_natCast, cnd_t (by rw [decide_eq_true_eq]; omega), lastsA_elb hk, add1_nat (by omega)]
    cases hw : allEternalB net k with
    | true =>
      rw [cond_true, S.l1Size_n (by omega)]
      simp only [optC, if_true]
      by_cases hc : size k < t
      · rw [if_pos (by omega), if_pos hc]; exact ⟨rfl, by omega⟩
      · rw [if_neg (by omega), if_neg hc]; exact ⟨rfl, by omega⟩
    | false => simp only [cond_false, Bool.false_eq_true, if_false]; exact ⟨trivial, ht⟩
  · simp only [S.FewestAllEternal_run6, S.FewestAllEternal_step6]
    rw [cnd_f (by rw [decide_eq_false_iff_not]; omega)]
/-- The answer of a set that all can keep up. -/
noncomputable def allAnswerI (net : List Int) (s p : Int) : Int := if (0 ≤ s ∧ s < 2 ^ net.length) ∧ (0 ≤ p ∧ p < net.length) ∧ allEternalB net s.toNat = true ∧ s.toNat.testBit p.toNat = false then ansA net (lastsA net) s.toNat p.toNat else -1
end Go.Proofs.Ytleianhibhpgpaa
/- Other ways to the sets and numbers of chapters 3 to 5. Conditions: those of each theorem. -/
namespace Go.Proofs.Ytleianhibhpgpaa
set_option linter.unusedVariables false
set_option linter.unusedSimpArgs false

theorem fold_near (net : List Int) (s : Nat) : fold net.length (fun t k => if s.testBit k = true then t ||| nb net k else t) 0 = near net s := rfl
def minStepN (p : Nat → Bool) (t s : Nat) : Nat := if p s = true then (if size s < t then size s else t) else t
def maxStepN (p : Nat → Bool) (t s : Nat) : Nat := if p s = true then (if size s > t then size s else t) else t
theorem maxStepN_lt {p : Nat → Bool} {t s : Nat} (hl : size s > t) : maxStepN p t s = if p s = true then size s else t := by unfold maxStepN; rw [if_pos hl]
theorem maxStepN_ge {p : Nat → Bool} {t s : Nat} (hl : ¬ size s > t) : maxStepN p t s = t := by unfold maxStepN; rw [if_neg hl, ite_self]
theorem maxStepN_le {p : Nat → Bool} {t s : Nat} (ht : t ≤ 6) : maxStepN p t s ≤ 6 := by
  have := size_le s
  unfold maxStepN; split
  · split <;> omega
  · exact ht
end Go.Proofs.Ytleianhibhpgpaa
