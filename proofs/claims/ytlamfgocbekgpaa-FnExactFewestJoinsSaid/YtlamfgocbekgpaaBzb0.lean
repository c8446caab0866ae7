/- Several texts in one: Nt1, Nt2, N1, N2, N4, Chap1, Ch3, Ch5, Ch6, Ch11, Ch11b, Ch16, Ch7, Ch9, Ch13, Ch13b, Ch13c, Ch15, Ot, Tree, Lf, Ch16b, Ch16c, Ch16d, Hall, Ch10, Shift, N3, Ex, Ex2, S3. Conditions: those of each theorem. -/
import Derived.Test.YtlamfgocbekgpaaBza2
import Derived.Test.YtlamfgocbekgpaaBzTz
/- What the laws' own small functions come to. Conditions: those of each theorem. -/
namespace Go.Proofs.Ytlamfgocbekgpaa
open D Go.RowKit
set_option linter.unusedVariables false
set_option linter.unusedSimpArgs false


theorem L.toIntS_is {a : List Int} (ha : a.length ≤ 1048576) : L.toIntS_t a = some a := by
  have hloop : L.toIntS_run3 a FUEL (0, List.replicate (↑a.length : Int).toNat 0) = some a := by
    refine run_fuel (run := L.toIntS_run3 a) (fun s => 0 ≤ s.1 ∧ s.1 ≤ a.length ∧ s.2.length = a.length ∧ ∀ j, j < s.1.toNat → s.2.getD j 0 = a.getD j 0) (fun s => a.length - s.1.toNat) (fun _ => a) ?_ ?_ ?_
    · rintro n ⟨x, r⟩ ⟨h0, h1, h2, h3⟩
      simp only at h0 h1 h2 h3
      by_cases hx : x < (a.length : Int)
      · refine .inr ⟨(IntKind.i64.wrap (x + 1), r.set x.toNat (eli a x.toNat)), ?_, ?_, ?_, rfl⟩
        · simp only [L.toIntS_run3, L.toIntS_step3]
          rw [cnd_t (by simpa using hx), cnd_t (by simp; omega), cnd_t (by simp; omega), cnd_t (by simp; omega)]
        · rw [i64_wrap (by omega) (by omega)]
          refine ⟨by simp only; omega, by simp only; omega, by simp only [List.length_set]; exact h2, fun j hj => ?_⟩
          simp only at hj ⊢
          by_cases hjx : j = x.toNat
          · subst hjx
            have hlt : x.toNat < r.length := by omega
            simp [List.getD, hlt, eli]
          · rw [← h3 j (by omega)]
            simp [List.getD, List.getElem?_set_ne (Ne.symm hjx)]
        · rw [i64_wrap (by omega) (by omega)]; simp only; omega
      · refine .inl ?_
        simp only [L.toIntS_run3, L.toIntS_step3]
        rw [cnd_f (by simpa using hx)]
        congr 1
        apply List.ext_getElem?
        intro j
        by_cases hj : j < a.length
        · have := h3 j (by omega)
          simp only [List.getD, h2, hj, List.getElem?_eq_getElem, Option.getD_some, hj] at this ⊢
          rw [this]
        · rw [List.getElem?_eq_none (by omega), List.getElem?_eq_none (by omega)]
    · refine ⟨by simp, by simp, by simp, fun j hj => by simp at hj⟩
    · simp; omega
  unfold L.toIntS_t L.toIntS_tree
  rw [cnd_t (by simp [small]; omega), hloop]
  rfl

theorem L.eqIntS_is {a b : List Int} (ha : a.length ≤ 2097152) : L.eqIntS_t a b = some (decide (a = b)) := by
  unfold L.eqIntS_t L.eqIntS_tree
  by_cases hl : a.length = b.length
  · rw [cnd_f (by simp [hl])]
    have hloop : L.eqIntS_run4 a b FUEL 0 = some (if a = b then .inr () else .inl false) := by
      refine run_fuel (run := L.eqIntS_run4 a b) (fun x => 0 ≤ x ∧ x ≤ a.length ∧ ∀ j, j < x.toNat → a.getD j 0 = b.getD j 0) (fun x => a.length - x.toNat) (fun _ => if a = b then .inr () else .inl false) ?_ ?_ ?_
      · rintro n x ⟨h0, h1, h3⟩
        by_cases hx : x < (a.length : Int)
        · by_cases he : eli a x.toNat = eli b x.toNat
          · refine .inr ⟨IntKind.i64.wrap (x + 1), ?_, ?_, ?_, rfl⟩
            · simp only [L.eqIntS_run4, L.eqIntS_step4]
              rw [cnd_t (by simpa using hx), cnd_t (by simp; omega), cnd_t (by simp; omega), cnd_f (by simp [he])]
            · rw [i64_wrap (by omega) (by omega)]
              refine ⟨by omega, by omega, fun j hj => ?_⟩
              by_cases hjx : j = x.toNat
              · subst hjx; exact he
              · exact h3 j (by omega)
            · rw [i64_wrap (by omega) (by omega)]; omega
          · refine .inl ?_
            simp only [L.eqIntS_run4, L.eqIntS_step4]
            rw [cnd_t (by simpa using hx), cnd_t (by simp; omega), cnd_t (by simp; omega), cnd_t (by simp [he])]
            rw [if_neg (fun h => he (by rw [h]))]
        · refine .inl ?_
          simp only [L.eqIntS_run4, L.eqIntS_step4]
          rw [cnd_f (by simpa using hx)]
          have : a = b := by
            apply List.ext_getElem hl
            intro j hj hj'
            have := h3 j (by omega)
            simpa [List.getD, hj, hj'] using this
          rw [if_pos this]
      · exact ⟨by simp, by simp, fun j hj => by simp at hj⟩
      · simp; omega
    rw [hloop]
    by_cases h : a = b
    · simp [h, optC, sumC]
    · simp [h, optC, sumC]
  · rw [cnd_t (by simp; omega)]
    have : ¬ a = b := fun h => hl (by rw [h])
    simp [this]
end Go.Proofs.Ytlamfgocbekgpaa
/- What is a net: the program's test and the model's come to the same. Conditions: those of each theorem. -/
namespace Go.Proofs.Ytlamfgocbekgpaa
open D Go.RowKit
set_option linter.unusedVariables false
set_option linter.unusedSimpArgs false


theorem i64_bits : IntKind.i64.bits = 64 := by kernel_rfl
def hasI (s : Int) (p : Nat) : Bool := (s.fdiv (2 ^ min p 64)) % 2 == 1
theorem I.hasPlace_is {s p : Int} (hp : 0 ≤ p) : I.hasPlace_t s p = some (hasI s p.toNat) := by
  unfold I.hasPlace_t I.hasPlace_tree
  rw [cnd_f (by simp; omega), i64_and1, i64_bits]
  rfl
theorem I.setIn_is {net : List Int} {s : Int} (hl : net.length ≤ 6) : I.setIn_t net s = some (decide (0 ≤ s ∧ s < 2 ^ net.length)) := by
  unfold I.setIn_t I.setIn_tree
  have e : IntKind.i64.wrap (1 * 2 ^ min (↑net.length : Int).toNat IntKind.i64.bits) = 2 ^ net.length := by
    rw [i64_bits, Int.toNat_natCast, Int.one_mul]
    generalize net.length = k at hl
    match k, hl with
    | 0, _ | 1, _ | 2, _ | 3, _ | 4, _ | 5, _ | 6, _ => exact i64_wrap (by decide) (by decide)
  by_cases h : 0 ≤ s
  · rw [cnd_t (by simpa using h), e]; simp [h]
  · rw [cnd_f (by simpa using h)]; simp [h]
theorem I.knownBack_is {net : List Int} {p : Int} (hl : net.length ≤ 6) (h0 : 0 ≤ p) (h1 : p < net.length) :
    I.knownBack_t net p = some ((List.range net.length).all fun q => !hasI (eli net p.toNat) q || hasI (eli net q) p.toNat) := by
  unfold I.knownBack_t I.knownBack_tree
  rw [run_all (run := I.knownBack_run2 net p) (len := net.length) (fun q => !hasI (eli net p.toNat) q || hasI (eli net q) p.toNat) (by omega) (fun n x hx0 hx1 => by
    simp only [I.knownBack_run2, I.knownBack_step2]
    by_cases hx : x < (net.length : Int)
    · rw [if_pos hx, cnd_t (by simpa using hx), cnd_t (by simp; omega), I.hasPlace_is hx0]
      simp only [optC]
      cases ha : hasI (eli net p.toNat) x.toNat with
      | false => simp only [cond_false, Bool.not_false, Bool.true_or, cond_true]; rw [i64_wrap (by omega) (by omega)]
      | true =>
        rw [cond_true, cnd_t (by simp; omega), I.hasPlace_is h0]
        simp only [optC]
        cases hb : hasI (eli net x.toNat) p.toNat with
        | false => rfl
        | true => simp only [Bool.not_true, cond_false, Bool.or_true, cond_true]; rw [i64_wrap (by omega) (by omega)]
    · rw [if_neg hx, cnd_f (by simpa using hx)])]
  cases (List.range net.length).all _ <;> rfl
theorem I.NetOk_is {net : List Int} : I.NetOk_t net = some (decide (1 ≤ net.length) && decide (net.length ≤ 6) && (List.range net.length).all fun p =>
    decide (0 ≤ eli net p ∧ eli net p < 2 ^ net.length) && !hasI (eli net p) p && (List.range net.length).all fun q => !hasI (eli net p) q || hasI (eli net q) p) := by
  unfold I.NetOk_t I.NetOk_tree
  rcases Nat.lt_or_ge net.length 1 with hlo | hlo
  · rw [cnd_t (by simp; omega), decide_eq_false (by omega : ¬ 1 ≤ net.length)]; rfl
  rw [cnd_f (by simp; omega)]
  rcases Nat.lt_or_ge 6 net.length with hl | hl
  · rw [cnd_t (by simp; omega), decide_eq_false (by omega : ¬ net.length ≤ 6), Bool.and_false]; rfl
  rw [cnd_f (by simp; omega)]
  rw [run_all (run := I.NetOk_run4 net) (len := net.length) (fun p => decide (0 ≤ eli net p ∧ eli net p < 2 ^ net.length) && !hasI (eli net p) p && (List.range net.length).all fun q => !hasI (eli net p) q || hasI (eli net q) p) (by omega) (fun n x hx0 hx1 => by
    simp only [I.NetOk_run4, I.NetOk_step4]
    by_cases hx : x < (net.length : Int)
    · rw [if_pos hx, cnd_t (by simpa using hx), cnd_t (by simp; omega), I.setIn_is hl]
      simp only [optC]
      cases ha : decide (0 ≤ eli net x.toNat ∧ eli net x.toNat < 2 ^ net.length) with
      | false => rfl
      | true =>
        rw [Bool.not_true, cond_false, cnd_t (by simp; omega), I.hasPlace_is hx0]
        simp only [optC]
        cases hb : hasI (eli net x.toNat) x.toNat with
        | true => rfl
        | false =>
          rw [cond_false, I.knownBack_is hl hx0 hx]
          simp only [optC]
          cases hc : (List.range net.length).all fun q => !hasI (eli net x.toNat) q || hasI (eli net q) x.toNat with
          | false => rfl
          | true => simp only [Bool.not_true, Bool.not_false, cond_false, Bool.and_true, cond_true]; rw [i64_wrap (by omega) (by omega)]
    · rw [if_neg hx, cnd_f (by simpa using hx)])]
  simp only [hlo, hl, decide_true, Bool.true_and]
  cases (List.range net.length).all _ <;> rfl
def bitS (s : Int) (p : Nat) : Int := (s.fdiv (2 ^ min p 64)).tmod 2
theorem S.l1In_is {x a b : Int} : S.l1In_t x a b = some (decide (a ≤ x ∧ x ≤ b)) := by
  unfold S.l1In_t S.l1In_tree
  by_cases h : a ≤ x
  · rw [cnd_t (by simpa using h)]; simp [h]
  · rw [cnd_f (by simpa using h)]; simp [h]
theorem S.NetOk_is {net : List Int} : S.NetOk_t net = some (decide (1 ≤ net.length) && decide (net.length ≤ 6) &&
    ((List.range net.length).all fun p => decide (0 ≤ eli net p ∧ eli net p < 2 ^ net.length)) && (List.range net.length).all fun p =>
    (List.range net.length).all fun q => bitS (eli net p) q == bitS (eli net q) p && !(q == p && bitS (eli net p) q == 1)) := by
  unfold S.NetOk_t S.NetOk_tree
  rw [S.l1In_is]
  simp only [optC]
  rcases Nat.lt_or_ge net.length 1 with hlo | hlo
  · rw [decide_eq_false (by omega : ¬ 1 ≤ net.length), decide_eq_false (by omega : ¬ ((1 : Int) ≤ (net.length : Int) ∧ (net.length : Int) ≤ 6))]; rfl
  rcases Nat.lt_or_ge 6 net.length with hl | hl
  · rw [decide_eq_false (by omega : ¬ net.length ≤ 6), decide_eq_false (by omega : ¬ ((1 : Int) ≤ (net.length : Int) ∧ (net.length : Int) ≤ 6)), Bool.and_false]; rfl
  rw [decide_eq_true (by omega : ((1 : Int) ≤ (net.length : Int) ∧ (net.length : Int) ≤ 6)), Bool.not_true, cond_false]
  have e : IntKind.i64.wrap (IntKind.i64.wrap (1 * 2 ^ min (↑net.length : Int).toNat IntKind.i64.bits) - 1) = 2 ^ net.length - 1 := by
    rw [i64_bits, Int.toNat_natCast, Int.one_mul]
    generalize net.length = k at hl
    match k, hl with
    | 0, _ | 1, _ | 2, _ | 3, _ | 4, _ | 5, _ | 6, _ => rw [i64_wrap (n := 2 ^ min _ 64) (by decide) (by decide)]; exact i64_wrap (by decide) (by decide)
  rw [run_all (run := S.NetOk_run4 net) (len := net.length) (fun p => decide (0 ≤ eli net p ∧ eli net p < 2 ^ net.length)) (by omega) (fun n x hx0 hx1 => by
    simp only [S.NetOk_run4, S.NetOk_step4]
    by_cases hx : x < (net.length : Int)
    · rw [if_pos hx, cnd_t (by simpa using hx), cnd_t (by simp; omega), S.l1In_is, e]
      simp only [optC]
      have : decide (0 ≤ eli net x.toNat ∧ eli net x.toNat ≤ 2 ^ net.length - 1) = decide (0 ≤ eli net x.toNat ∧ eli net x.toNat < 2 ^ net.length) := decide_eq_decide.2 (by omega)
      rw [this]
      cases decide (0 ≤ eli net x.toNat ∧ eli net x.toNat < 2 ^ net.length) with
      | false => rfl
      | true => simp only [Bool.not_true, cond_false, cond_true]; rw [i64_wrap (by omega) (by omega)]
    · rw [if_neg hx, cnd_f (by simpa using hx)])]
  have inner : ∀ p : Int, 0 ≤ p → p < net.length → S.NetOk_run12 net p FUEL 0 = some (bif (List.range net.length).all (fun q => bitS (eli net p.toNat) q == bitS (eli net q) p.toNat && !(q == p.toNat && bitS (eli net p.toNat) q == 1)) then .inr () else .inl false) := by
    intro p hp0 hp1
    refine run_all (run := S.NetOk_run12 net p) (len := net.length) _ (by omega) (fun n x hx0 hx1 => ?_)
    simp only [S.NetOk_run12, S.NetOk_step12]
    by_cases hx : x < (net.length : Int)
    · rw [if_pos hx, cnd_t (by simpa using hx), cnd_t (by simp; omega), cnd_f (by simp; omega), cnd_t (by simp; omega), cnd_f (by simp; omega), i64_bits]
      show (bif !(bitS (eli net p.toNat) x.toNat == bitS (eli net x.toNat) p.toNat) then _ else _) = _
      cases ha : (bitS (eli net p.toNat) x.toNat == bitS (eli net x.toNat) p.toNat) with
      | false => rfl
      | true =>
        rw [Bool.not_true, cond_false, Bool.true_and]
        by_cases hxp : x = p
        · subst hxp
          rw [cnd_t (by simp), cnd_t (by simp; omega), cnd_f (by simp; omega), BEq.rfl, Bool.true_and]
          show (bif (bitS (eli net x.toNat) x.toNat == 1) then _ else _) = _
          cases (bitS (eli net x.toNat) x.toNat == 1) with
          | true => rfl
          | false => simp only [cond_false, Bool.not_false, cond_true]; rw [i64_wrap (by omega) (by omega)]
        · rw [cnd_f (by simpa using hxp)]
          have : (x.toNat == p.toNat) = false := by simp; omega
          rw [this, Bool.false_and, Bool.not_false, cond_true, i64_wrap (by omega) (by omega)]
    · rw [if_neg hx, cnd_f (by simpa using hx)]
  rw [run_all (run := S.NetOk_run9 net) (len := net.length) (fun p => (List.range net.length).all fun q => bitS (eli net p) q == bitS (eli net q) p && !(q == p && bitS (eli net p) q == 1)) (by omega) (fun n x hx0 hx1 => by
    simp only [S.NetOk_run9, S.NetOk_step9]
    by_cases hx : x < (net.length : Int)
    · rw [if_pos hx, cnd_t (by simpa using hx), inner x hx0 hx]
      simp only [optC]
      cases (List.range net.length).all fun q => bitS (eli net x.toNat) q == bitS (eli net q) x.toNat && !(q == x.toNat && bitS (eli net x.toNat) q == 1) with
      | false => rfl
      | true => simp only [cond_true, sumC]; rw [i64_wrap (by omega) (by omega)]
    · rw [if_neg hx, cnd_f (by simpa using hx)])]
  simp only [hlo, hl, decide_true, Bool.true_and]
  cases (List.range net.length).all fun p => decide (0 ≤ eli net p ∧ eli net p < 2 ^ net.length) with
  | false => rfl
  | true =>
    simp only [cond_true, sumC, Bool.true_and]
    cases (List.range net.length).all _ <;> rfl
theorem bitS_is {s : Int} (h : 0 ≤ s) (p : Nat) : bitS s p = if hasI s p = true then 1 else 0 := by
  unfold bitS hasI
  have h2 : (0 : Int) < 2 ^ min p 64 := Int.pow_pos (by decide)
  have h3 : 0 ≤ s.fdiv (2 ^ min p 64) := Int.fdiv_nonneg h (by omega)
  rw [Int.tmod_eq_emod_of_nonneg h3]
  by_cases h4 : s.fdiv (2 ^ min p 64) % 2 = 1
  · simp [h4]
  · have : s.fdiv (2 ^ min p 64) % 2 = 0 := by omega
    simp [this]
theorem NetOk_eq {net : List Int} : I.NetOk_t net = S.NetOk_t net := by
  rw [I.NetOk_is, S.NetOk_is]
  congr 1
  rw [Bool.eq_iff_iff]
  simp only [Bool.and_eq_true, List.all_eq_true, List.mem_range, decide_eq_true_eq, Bool.or_eq_true, Bool.not_eq_true', beq_iff_eq, Bool.and_eq_false_iff, beq_eq_false_iff_ne]
  constructor
  · rintro ⟨⟨h1, h2⟩, h3⟩
    refine ⟨⟨⟨h1, h2⟩, fun p hp => (h3 p hp).1.1⟩, fun p hp q hq => ⟨?_, ?_⟩⟩
    · rw [bitS_is (h3 p hp).1.1.1, bitS_is (h3 q hq).1.1.1]
      have a1 := (h3 p hp).2 q hq
      have a2 := (h3 q hq).2 p hp
      cases ha : hasI (eli net p) q <;> cases hb : hasI (eli net q) p <;> simp_all
    · by_cases hqp : q = p
      · subst hqp
        right
        rw [bitS_is (h3 q hq).1.1.1, (h3 q hq).1.2]
        decide
      · exact .inl hqp
  · rintro ⟨⟨⟨h1, h2⟩, h3⟩, h4⟩
    refine ⟨⟨h1, h2⟩, fun p hp => ⟨⟨h3 p hp, ?_⟩, fun q hq => ?_⟩⟩
    · have := (h4 p hp p hp).2
      rw [bitS_is (h3 p hp).1] at this
      cases ha : hasI (eli net p) p with
      | false => rfl
      | true => rw [ha] at this; simp at this
    · have := (h4 p hp q hq).1
      rw [bitS_is (h3 p hp).1, bitS_is (h3 q hq).1] at this
      cases ha : hasI (eli net p) q <;> cases hb : hasI (eli net q) p <;> simp_all
end Go.Proofs.Ytlamfgocbekgpaa
/- What the small functions on nets and sets come to, in natural numbers. Conditions: those of each theorem. -/
namespace Go.Proofs.Ytlamfgocbekgpaa
open D Go.RowKit
set_option linter.unusedVariables false
set_option linter.unusedSimpArgs false


theorem hasI_nat (s p : Nat) (hp : p ≤ 64) : hasI (s : Int) p = s.testBit p := by
  have h := shr_is s p hp
  unfold hasI
  rw [bits64, Int.toNat_natCast] at h
  rw [h, testBit_div, Bool.eq_iff_iff, beq_iff_eq, beq_iff_eq]
  omega
theorem two_pow_cast (n : Nat) : ((2 : Int) ^ n) = ((2 ^ n : Nat) : Int) := by simp
theorem Ok.of {net : List Int} (h1 : 1 ≤ net.length) (h2 : net.length ≤ 6) (h3 : ∀ p, p < net.length → (0 ≤ eli net p ∧ eli net p < 2 ^ net.length) ∧ hasI (eli net p) p = false ∧ ∀ q, q < net.length → hasI (eli net p) q = true → hasI (eli net q) p = true) : Ok net := by
  have hel : ∀ k, k < net.length → eli net k = (nb net k : Int) := fun k hk => by
    have := (h3 k hk).1.1
    show _ = ((eli net k).toNat : Int)
    omega
  refine ⟨h1, h2, hel, fun k hk => ?_, fun j k hj hk => ?_, fun k hk => ?_⟩
  · have := (h3 k hk).1.2
    rw [hel k hk, two_pow_cast] at this
    omega
  · have a1 := (h3 k hk).2.2 j hj
    have a2 := (h3 j hj).2.2 k hk
    rw [hel k hk, hel j hj, hasI_nat _ _ (by omega), hasI_nat _ _ (by omega)] at a1 a2
    cases hx : (nb net k).testBit j with
    | true => exact (a1 hx).symm
    | false => cases hy : (nb net j).testBit k with
      | false => rfl
      | true => rw [a2 hy] at hx; cases hx
  · have := (h3 k hk).2.1
    rw [hel k hk, hasI_nat _ _ (by omega)] at this
    exact this
theorem NetOk_cases (net : List Int) : (Ok net ∧ I.NetOk_t net = some true ∧ S.NetOk_t net = some true) ∨ (¬ Ok net ∧ I.NetOk_t net = some false ∧ S.NetOk_t net = some false) := by
  rw [← NetOk_eq, I.NetOk_is]
  generalize hb : (decide (1 ≤ net.length) && decide (net.length ≤ 6) && (List.range net.length).all fun p => decide (0 ≤ eli net p ∧ eli net p < 2 ^ net.length) && !hasI (eli net p) p && (List.range net.length).all fun q => !hasI (eli net p) q || hasI (eli net q) p) = b
  cases b with
  | true =>
    left
    simp only [Bool.and_eq_true, List.all_eq_true, List.mem_range, decide_eq_true_eq, Bool.or_eq_true, Bool.not_eq_true'] at hb
    refine ⟨Ok.of hb.1.1 hb.1.2 fun p hp => ⟨(hb.2 p hp).1.1, (hb.2 p hp).1.2, fun q hq hx => ?_⟩, rfl, rfl⟩
    rcases (hb.2 p hp).2 q hq with h | h
    · rw [h] at hx; cases hx
    · exact h
  | false =>
    right
    refine ⟨fun h => ?_, rfl, rfl⟩
    have : (decide (1 ≤ net.length) && decide (net.length ≤ 6) && (List.range net.length).all fun p => decide (0 ≤ eli net p ∧ eli net p < 2 ^ net.length) && !hasI (eli net p) p && (List.range net.length).all fun q => !hasI (eli net p) q || hasI (eli net q) p) = true := by
      simp only [Bool.and_eq_true, List.all_eq_true, List.mem_range, decide_eq_true_eq, Bool.or_eq_true, Bool.not_eq_true']
      have hhi := h.hi
      refine ⟨⟨h.lo, h.hi⟩, fun p hp => ⟨⟨?_, ?_⟩, fun q hq => ?_⟩⟩
      · rw [show eli net p = (nb net p : Int) from h.el p hp, two_pow_cast]
        have := h.lt p hp
        omega
      · rw [show eli net p = (nb net p : Int) from h.el p hp, hasI_nat _ _ (by omega)]; exact h.irr p hp
      · rw [show eli net p = (nb net p : Int) from h.el p hp, show eli net q = (nb net q : Int) from h.el q hq, hasI_nat _ _ (by omega), hasI_nat _ _ (by omega), h.sym q p hq hp]
        cases (nb net q).testBit p <;> simp
    rw [hb] at this; cases this
theorem Ok.eli {net : List Int} (h : Ok net) {k : Nat} (hk : k < net.length) : D.eli net k = (nb net k : Int) := h.el k hk

/-! ### The program's small functions -/
theorem I.hasPlace_n (s p : Nat) (hp : p ≤ 64) : I.hasPlace_t s p = some (s.testBit p) := by
  rw [I.hasPlace_is (by omega), Int.toNat_natCast, hasI_nat s p hp]
theorem I.placeIn_n (net : List Int) (p : Int) : I.placeIn_t net p = some (decide (0 ≤ p ∧ p < net.length)) := by
  unfold I.placeIn_t I.placeIn_tree
  by_cases h : 0 ≤ p
  · rw [cnd_t (by simpa using h)]; simp [h]
  · rw [cnd_f (by simpa using h)]; simp [h]
theorem I.allOf_n {net : List Int} (h : Ok net) : I.allOf_t net = some ((allOf net : Nat) : Int) := by
  unfold I.allOf_t I.allOf_tree
  have h2 := h.pow
  have h3 : 0 < 2 ^ net.length := Nat.two_pow_pos _
  rw [one_shl (by have := h.hi; omega), sub1_nat (by omega) (by omega)]
  rfl
theorem I.ballIn_n {net : List Int} (h : Ok net) {p : Nat} (hp : p < net.length) : I.ballIn_t net p = some ((ball net p : Nat) : Int) := by
  unfold I.ballIn_t I.ballIn_tree
  have h6 := h.hi
  have h64 := h.lt64 hp
  rw [cnd_t (by simp; omega), cnd_f (by simp), one_shl (by omega), Int.toNat_natCast, h.eli hp, i64_or_nat _ _ (by omega) (pow2_lt (by omega))]
  rfl
theorem fold_balls {net : List Int} (h : Ok net) {s : Nat} (hs : s < 2 ^ net.length) : fold net.length (fun t k => if s.testBit k = true then t ||| ball net k else t) 0 = seen net s := h.seen_balls hs
theorem I.seenIn_n {net : List Int} (h : Ok net) {s : Nat} (hs : s < 2 ^ net.length) : I.seenIn_t net s = some ((seen net s : Nat) : Int) := by
  unfold I.seenIn_t I.seenIn_tree
  have h6 := h.hi
  have h64 := h.pow
  have := (run_for (run := I.seenIn_run3 net s) (len := net.length) (fun k (t : Nat) => ((t : Int), (k : Int))) (fun t k => if s.testBit k = true then t ||| ball net k else t) (fun t => (t : Int)) (fun k t => t < 2 ^ net.length) (by omega) (fun n k t hk ht => ?_) (fun n t ht => ?_) (t0 := 0) (Nat.two_pow_pos _)).1
  · rw [fold_balls h hs] at this
    exact congrArg (fun o => optC o (fun q => some q) none) this
  · simp only [I.seenIn_run3, I.seenIn_step3]
    rw [cnd_t (by simp; omega), I.hasPlace_n _ _ (by omega)]
    simp only [optC]
    have hb := h.ball_lt hk
    cases hbit : s.testBit k with
    | true =>
      rw [cond_true, I.ballIn_n h hk, if_pos rfl]
      simp only
      rw [i64_or_nat _ _ (by omega) (by omega), add1_nat (by omega)]
      exact ⟨rfl, Nat.or_lt_two_pow ht hb⟩
    | false =>
      rw [cond_false, if_neg (by simp), add1_nat (by omega)]
      exact ⟨rfl, ht⟩
  · simp only [I.seenIn_run3, I.seenIn_step3]
    rw [cnd_f (by simp)]
theorem I.watchIn_n {net : List Int} (h : Ok net) {s : Nat} (hs : s < 2 ^ net.length) : I.watchIn_t net s = some (W net s) := by
  unfold I.watchIn_t I.watchIn_tree
  rw [I.seenIn_n h hs, I.allOf_n h]
  simp only [optC]
  rw [nat_beq]
  rfl
theorem size_fold (s : Nat) : fold 6 (fun t k => t + (s.testBit k).toNat) 0 = size s := by
  unfold size card
  congr 1
  funext t k
  cases s.testBit k <;> simp
theorem I.sizeOf_n (s : Nat) : I.sizeOf_t s = some ((size s : Nat) : Int) := by
  unfold I.sizeOf_t I.sizeOf_tree
  have := (run_for (run := I.sizeOf_run3 s) (len := 6) (fun k (t : Nat) => ((t : Int), (k : Int))) (fun t k => t + (s.testBit k).toNat) (fun t => (t : Int)) (fun k t => t ≤ k) (by omega) (fun n k t hk ht => ?_) (fun n t ht => ?_) (t0 := 0) (Nat.le_refl _)).1
  · rw [size_fold] at this
    exact congrArg (fun o => optC o (fun q => some q) none) this
  · simp only [I.sizeOf_run3, I.sizeOf_step3]
    have hb : (s.testBit k).toNat ≤ 1 := by cases s.testBit k <;> decide
    rw [cnd_t (by simp; omega), cnd_f (by simp), bit_shr1 _ _ (by omega), add_nat (by omega), add1_nat (by omega)]
    exact ⟨rfl, by omega⟩
  · simp only [I.sizeOf_run3, I.sizeOf_step3]
    rw [cnd_f (by simp)]
theorem I.without_n {s p : Nat} (hs : s < 64) (hp : p < 6) : I.without_t s p = some (((if s.testBit p = true then s - 2 ^ p else s : Nat)) : Int) := by
  unfold I.without_t I.without_tree
  rw [cnd_f (by simp), one_shl (by omega), i64_andNot_nat _ _ (by omega) (pow2_lt (by omega)), bits_minus s hs p hp]

/-! ### The model's small functions -/
theorem S.l1Near_n {net : List Int} (h : Ok net) (s : Nat) : S.l1Near_t net s = some ((near net s : Nat) : Int) := by
  unfold S.l1Near_t S.l1Near_tree
  have h6 := h.hi
  have h64 := h.pow
  have := (run_for (run := S.l1Near_run3 net s) (len := net.length) (fun k (t : Nat) => ((t : Int), (k : Int))) (fun t k => if s.testBit k = true then t ||| nb net k else t) (fun t => (t : Int)) (fun k t => t < 2 ^ net.length) (by omega) (fun n k t hk ht => ?_) (fun n t ht => ?_) (t0 := 0) (Nat.two_pow_pos _)).1
  · exact congrArg (fun o => optC o (fun q => some q) none) this
  · simp only [S.l1Near_run3, S.l1Near_step3]
    have hb := h.lt k hk
    rw [cnd_t (by simp; omega), cnd_f (by simp), bit_shr _ _ (by omega), bool_eq1]
    cases hbit : s.testBit k with
    | true =>
      rw [cond_true, cnd_t (by simp; omega), Int.toNat_natCast, h.eli hk, if_pos rfl]
      rw [i64_or_nat _ _ (by omega) (by omega), add1_nat (by omega)]
      exact ⟨rfl, Nat.or_lt_two_pow ht hb⟩
    | false =>
      rw [cond_false, if_neg (by simp), add1_nat (by omega)]
      exact ⟨rfl, ht⟩
  · simp only [S.l1Near_run3, S.l1Near_step3]
    rw [cnd_f (by simp)]
theorem all_shl {net : List Int} (h : Ok net) : IntKind.i64.wrap (IntKind.i64.wrap (1 * 2 ^ min (↑net.length : Int).toNat IntKind.i64.bits) - 1) = ((allOf net : Nat) : Int) := by
  have h2 := h.pow
  have h3 : 0 < 2 ^ net.length := Nat.two_pow_pos _
  rw [one_shl (by have := h.hi; omega), sub1_nat (by omega) (by omega)]
  rfl
theorem S.l2Watch_n {net : List Int} (h : Ok net) {s : Nat} (hs : s < 2 ^ net.length) : S.l2Watch_t net s = some (W net s) := by
  unfold S.l2Watch_t S.l2Watch_tree
  rw [S.l1Near_n h]
  simp only [optC]
  have h1 := h.near_lt s
  have h64 := h.pow
  rw [all_shl h, i64_or_nat _ _ (by omega) (by omega), nat_beq]
  rfl
theorem S.l1SetOk_n {net : List Int} (h : Ok net) (he : S.NetOk_t net = some true) (s : Int) : S.l1SetOk_t net s = some (decide (0 ≤ s ∧ s < 2 ^ net.length)) := by
  unfold S.l1SetOk_t S.l1SetOk_tree
  rw [he]
  simp only [optC]
  rw [cond_true, all_shl h, S.l1In_is]
  simp only
  congr 1
  rw [decide_eq_decide, two_pow_cast]
  have : 0 < 2 ^ net.length := Nat.two_pow_pos _
  unfold allOf
  omega
theorem l1Size_spec : ∀ s, s < 64 → size s = s % 2 + size (s / 2) := by decide +kernel
theorem S.l1Size_n {s : Nat} (hs : s < 64) : S.l1Size_t s = some ((size s : Nat) : Int) := by
  unfold S.l1Size_t S.l1Size_tree
  have : S.l1Size_run2 FUEL ((s : Int), 0) = some ((size s : Nat) : Int) := by
    refine run_fuel (run := S.l1Size_run2) (fun q => ∃ a t : Nat, q = ((a : Int), (t : Int)) ∧ a < 64 ∧ t + size a = size s) (fun q => q.1.toNat) (fun _ => ((size s : Nat) : Int)) ?_ ⟨s, 0, rfl, hs, by omega⟩ (by simp only [Int.toNat_natCast]; omega)
    rintro n _ ⟨a, t, rfl, ha, ht⟩
    have hz := size_le s
    simp only [S.l1Size_run2, S.l1Size_step2]
    by_cases h0 : a = 0
    · subst h0
      left
      rw [cnd_f (by simp)]
      have : size 0 = 0 := by decide
      rw [← ht, this]; rfl
    · right
      have h1 := l1Size_spec a ha
      rw [cnd_t (by simp; omega), div2_nat (by omega), tmod2_nat, add_nat (by omega)]
      exact ⟨_, rfl, ⟨_, _, rfl, by omega, by omega⟩, by simp only [Int.toNat_natCast]; omega, trivial⟩
  rw [this]; rfl
theorem place_cases (net : List Int) (p : Int) : (∃ t : Nat, p = (t : Int) ∧ t < net.length ∧ decide (0 ≤ p ∧ p < net.length) = true) ∨ decide (0 ≤ p ∧ p < net.length) = false := by
  by_cases hs : 0 ≤ p ∧ p < net.length
  · exact .inl ⟨p.toNat, by omega, by omega, by simpa using hs⟩
  · right; simpa using hs
end Go.Proofs.Ytlamfgocbekgpaa
/- What the functions on watches come to. Conditions: those of each theorem. -/
namespace Go.Proofs.Ytlamfgocbekgpaa
open D Go.RowKit
set_option linter.unusedVariables false
set_option linter.unusedSimpArgs false


theorem allOf_succ (net : List Int) : allOf net + 1 = 2 ^ net.length := by
  have : 0 < 2 ^ net.length := Nat.two_pow_pos _
  unfold allOf; omega
/-- The least of all, or what one began with. -/
theorem minFold {N : Nat} {p : Nat → Bool} {f : Nat → Nat} (t0 : Nat) :
    (∀ s, s < N → p s = true → fold N (fun t s => if p s = true then (if f s < t then f s else t) else t) t0 ≤ f s) ∧ fold N (fun t s => if p s = true then (if f s < t then f s else t) else t) t0 ≤ t0 ∧
    (fold N (fun t s => if p s = true then (if f s < t then f s else t) else t) t0 = t0 ∨ ∃ s, s < N ∧ p s = true ∧ f s = fold N (fun t s => if p s = true then (if f s < t then f s else t) else t) t0) := by
  induction N with
  | zero => exact ⟨fun s hs => by omega, Nat.le_refl _, .inl rfl⟩
  | succ N ih =>
    rw [fold_succ]
    generalize fold N _ t0 = g at ih ⊢
    obtain ⟨h1, h2, h3⟩ := ih
    cases hp : p N with
    | false =>
      simp only [Bool.false_eq_true, if_false]
      refine ⟨fun s hs hps => ?_, h2, ?_⟩
      · by_cases he : s = N
        · subst he; rw [hp] at hps; cases hps
        · exact h1 s (by omega) hps
      · rcases h3 with h3 | ⟨s, a, b⟩
        · exact .inl h3
        · exact .inr ⟨s, by omega, b⟩
    | true =>
      simp only [if_true]
      refine ⟨fun s hs hps => ?_, by split <;> omega, ?_⟩
      · by_cases he : s = N
        · subst he; split <;> omega
        · have := h1 s (by omega) hps
          split <;> omega
      · split
        · exact .inr ⟨N, by omega, hp, rfl⟩
        · rcases h3 with h3 | ⟨s, a, b⟩
          · exact .inl h3
          · exact .inr ⟨s, by omega, b⟩
theorem size_all {net : List Int} (h : Ok net) : size (allOf net) = net.length := by
  rw [size_cnt h (allOf_lt net), cnt_congr (q := fun _ => true) (fun k hk => by rw [allOf_testBit]; simpa using hk), cnt_true]
theorem size_le_len {net : List Int} (h : Ok net) {s : Nat} (hs : s < 2 ^ net.length) : size s ≤ net.length := by
  rw [size_cnt h hs]; exact cnt_le _ _
theorem size_lt_len {net : List Int} (h : Ok net) {s : Nat} (hs : s < allOf net) : size s < net.length := by
  have hs' : s < 2 ^ net.length := Nat.lt_trans hs (allOf_lt net)
  have : ∃ k, k < net.length ∧ s.testBit k = false := by
    refine Classical.byContradiction fun hc => ?_
    have : s = allOf net := eq_of_bits hs' (allOf_lt net) fun j hj => by
      rw [allOf_testBit]
      cases hb : s.testBit j with
      | true => simpa using hj
      | false => exact absurd ⟨j, hj, hb⟩ hc
    omega
  obtain ⟨k, hk, hb⟩ := this
  rw [size_cnt h hs']
  exact cnt_lt_of hk hb
/-- The fewest guards that watch. -/
def fewest (net : List Int) : Nat := fold (2 ^ net.length) (fun t s => if W net s = true then (if size s < t then size s else t) else t) net.length
theorem fewest_few {net : List Int} (h : Ok net) : Few net (fewest net) := by
  obtain ⟨h1, h2, h3⟩ := minFold (N := 2 ^ net.length) (p := W net) (f := size) net.length
  refine ⟨?_, h1⟩
  rcases h3 with h3 | h3
  · exact ⟨allOf net, allOf_lt net, W_all h, by rw [size_all h]; exact h3.symm⟩
  · exact h3
/-- The first of the smallest watches. -/
structure First (net : List Int) (r : Nat) : Prop where
  lt : r < 2 ^ net.length
  w : W net r = true
  le : ∀ s, s < 2 ^ net.length → W net s = true → size r ≤ size s
  first : ∀ s, s < r → W net s = true → size r < size s
theorem First.few {net : List Int} {r : Nat} (h : First net r) : Few net (size r) := ⟨⟨r, h.lt, h.w, rfl⟩, h.le⟩
theorem First.uniq {net : List Int} {r q : Nat} (h : First net r) (g : First net q) : r = q := by
  have h1 := h.few.uniq g.few
  rcases Nat.lt_trichotomy r q with hl | hl | hl
  · have := g.first r hl h.w; omega
  · exact hl
  · have := h.first q hl g.w; omega
theorem small_first {net : List Int} (h : Ok net) : First net (fold (allOf net) (fun t s => if (decide (size s < size t) && W net s) = true then s else t) (allOf net)) := by
  have key : ∀ k, k ≤ allOf net → ∀ t, t = fold k (fun t s => if (decide (size s < size t) && W net s) = true then s else t) (allOf net) →
      t < 2 ^ net.length ∧ W net t = true ∧ (∀ s, s < k → W net s = true → size t ≤ size s) ∧ (t = allOf net ∨ t < k) ∧ ∀ s, s < t → s < k → W net s = true → size t < size s := by
    intro k
    induction k with
    | zero => rintro _ t rfl; exact ⟨allOf_lt net, W_all h, fun s hs => by omega, .inl rfl, fun s _ hs => by omega⟩
    | succ k ih =>
      rintro hk t rfl
      rw [fold_succ]
      obtain ⟨h1, h2, h3, h4, h5⟩ := ih (by omega) _ rfl
      generalize fold k _ (allOf net) = g at h1 h2 h3 h4 h5 ⊢
      cases hc : (decide (size k < size g) && W net k) with
      | true =>
        simp only [if_true]
        rw [Bool.and_eq_true, decide_eq_true_eq] at hc
        refine ⟨by have := allOf_lt net; omega, hc.2, fun s hs hw => ?_, .inr (by omega), fun s hs _ hw => ?_⟩
        · by_cases he : s = k
          · subst he; exact Nat.le_refl _
          · have := h3 s (by omega) hw; omega
        · have := h3 s (by omega) hw; omega
      | false =>
        simp only [Bool.false_eq_true, if_false]
        have hno : W net k = true → size g ≤ size k := fun hw => by
          rw [hw, Bool.and_true] at hc
          simpa using hc
        refine ⟨h1, h2, fun s hs hw => ?_, by omega, fun s hs hs2 hw => ?_⟩
        · by_cases he : s = k
          · subst he; exact hno hw
          · exact h3 s (by omega) hw
        · by_cases he : s = k
          · subst he
            have hg : g = allOf net := by omega
            have := hno hw
            have := size_lt_len h (s := s) (by omega)
            rw [hg, size_all h] at *
            omega
          · exact h5 s hs (by omega) hw
  obtain ⟨h1, h2, h3, h4, h5⟩ := key (allOf net) (Nat.le_refl _) _ rfl
  generalize fold (allOf net) _ (allOf net) = g at h1 h2 h3 h4 h5 ⊢
  have hs := allOf_succ net
  refine ⟨h1, h2, fun s hs2 hw => ?_, fun s hs2 hw => h5 s hs2 (by omega) hw⟩
  by_cases he : s = allOf net
  · subst he; rw [size_all h]; exact size_le_len h h1
  · exact h3 s (by omega) hw
def smallest (net : List Int) : Nat := fold (allOf net) (fun t s => if (decide (size s < size t) && W net s) = true then s else t) (allOf net)
theorem size_smallest {net : List Int} (h : Ok net) : size (smallest net) = fewest net := (small_first h).few.uniq (fewest_few h)

theorem I.smallWatchIn_n {net : List Int} (h : Ok net) : I.smallWatchIn_t net = some ((smallest net : Nat) : Int) := by
  unfold I.smallWatchIn_t I.smallWatchIn_tree
  have h64 := h.pow
  have hsu := allOf_succ net
  rw [I.allOf_n h]
  have := (run_for (run := I.smallWatchIn_run3 net) (len := allOf net) (fun k (t : Nat) => ((t : Int), (k : Int))) (fun t s => if (decide (size s < size t) && W net s) = true then s else t) (fun t => (t : Int)) (fun k t => t < 2 ^ net.length) (by omega) (fun n k t hk ht => ?_) (fun n t ht => ?_) (t0 := allOf net) (by omega)).1
  · exact congrArg (fun o => optC o (fun q => some q) none) this
  · simp only [I.smallWatchIn_run3, I.smallWatchIn_step3]
    rw [I.allOf_n h]
    simp only [optC]
    rw [cnd_t (by simp; omega), I.sizeOf_n, I.sizeOf_n]
    simp only
    by_cases hc : size k < size t
    · rw [cnd_t (by simp; omega), I.watchIn_n h (by omega)]
      simp only [hc, decide_true, Bool.true_and]
      cases hw : W net k with
      | true => simp only [cond_true, if_true]; rw [add1_nat (by omega)]; exact ⟨rfl, by omega⟩
      | false => simp only [cond_false, Bool.false_eq_true, if_false]; rw [add1_nat (by omega)]; exact ⟨rfl, ht⟩
    · rw [cnd_f (by simp; omega)]
      simp only [hc, decide_false, Bool.false_and, Bool.false_eq_true, if_false]
      rw [add1_nat (by omega)]; exact ⟨rfl, ht⟩
  · simp only [I.smallWatchIn_run3, I.smallWatchIn_step3]
    rw [I.allOf_n h]
    simp only [optC]
    rw [cnd_f (by simp)]
theorem pow_shl {net : List Int} (h : Ok net) : IntKind.i64.wrap (1 * 2 ^ min (↑net.length : Int).toNat IntKind.i64.bits) = ((2 ^ net.length : Nat) : Int) := one_shl (by have := h.hi; omega)
theorem S.FewestWatch_y {net : List Int} (h : Ok net) (e : S.NetOk_t net = some true) : S.FewestWatch_t net = some ((fewest net : Nat) : Int) := by
  unfold S.FewestWatch_t S.FewestWatch_tree
  have h64 := h.pow
  have hn := h.hi
  rw [e]
  have := (run_for (run := S.FewestWatch_run5 net) (len := 2 ^ net.length) (fun k (t : Nat) => ((t : Int), (k : Int))) (fun t s => if W net s = true then (if size s < t then size s else t) else t) (fun t => (t : Int)) (fun k t => t ≤ 6) (by omega) (fun n k t hk ht => ?_) (fun n t ht => ?_) (t0 := net.length) (by omega)).1
  · exact congrArg (fun o => optC o (fun q => some q) none) this
  · simp only [S.FewestWatch_run5, S.FewestWatch_step5]
    rw [pow_shl h, cnd_t (by rw [decide_eq_true_eq]; omega), S.l2Watch_n h hk]
    simp only [optC]
    have hz := size_le k
    cases hw : W net k with
    | true =>
      rw [cond_true, S.l1Size_n (by omega)]
      simp only [if_true]
      rw [add1_nat (by omega)]
      by_cases hc : size k < t
      · rw [if_pos (by omega), if_pos hc]; exact ⟨rfl, by omega⟩
      · rw [if_neg (by omega), if_neg hc]; exact ⟨rfl, by omega⟩
    | false => simp only [cond_false, Bool.false_eq_true, if_false]; rw [add1_nat (by omega)]; exact ⟨rfl, ht⟩
  · simp only [S.FewestWatch_run5, S.FewestWatch_step5]
    rw [pow_shl h, cnd_f (by rw [decide_eq_false_iff_not]; omega)]
theorem I.FewestWatch_y {net : List Int} (h : Ok net) (e : I.NetOk_t net = some true) : I.FewestWatch_t net = some ((fewest net : Nat) : Int) := by
  unfold I.FewestWatch_t I.FewestWatch_tree
  rw [e, I.smallWatchIn_n h]
  simp only [optC, Bool.not_true, cond_false]
  rw [I.sizeOf_n, size_smallest h]
/-- A search that counts up. -/
theorem run_search {D F : Type} {run : Nat → Int → Option (D ⊕ F)} {len : Nat} (f : Nat → Option D) (e : F) (hl : len ≤ 1000000)
    (h : ∀ n k, k < len → run (n + 1) (k : Int) = (match f k with | some d => some (.inl d) | none => run n ((k + 1 : Nat) : Int))) (he : ∀ n, run (n + 1) (len : Int) = some (.inr e)) :
    run FUEL 0 = some (match find len f with | some d => .inl d | none => .inr e) := by
  refine run_find (run := run) (len := len) f e (by omega) (fun n x h0 h1 => ?_)
  obtain ⟨k, rfl⟩ : ∃ k : Nat, x = k := ⟨x.toNat, by omega⟩
  by_cases hk : k < len
  · rw [if_pos (by omega), h n k hk, Int.toNat_natCast]
    rfl
  · obtain rfl : k = len := by omega
    rw [if_neg (by omega), he]
/-! ### Least watches -/
end Go.Proofs.Ytlamfgocbekgpaa
/- What the functions of chapter 1 come to. Conditions: those of each theorem. -/
namespace Go.Proofs.Ytlamfgocbekgpaa
open D Go.RowKit
set_option linter.unusedVariables false
set_option linter.unusedSimpArgs false


theorem l1In_place {net : List Int} (h : Ok net) (p : Int) : decide (0 ≤ p ∧ p ≤ IntKind.i64.wrap ((↑net.length : Int) - 1)) = decide (0 ≤ p ∧ p < net.length) := by
  have h1 := h.lo
  have h6 := h.hi
  rw [i64_wrap (by omega) (by omega), decide_eq_decide]
  omega
theorem set_in {net : List Int} {s : Nat} (hs : s < 2 ^ net.length) : decide (0 ≤ (s : Int) ∧ (s : Int) < 2 ^ net.length) = true := by
  rw [two_pow_cast, decide_eq_true_eq]; omega
theorem S.SeenBy_n {net : List Int} (h : Ok net) (e : S.NetOk_t net = some true) {s : Nat} (hs : s < 2 ^ net.length) : S.SeenBy_t net s = some ((seen net s : Nat) : Int) := by
  unfold S.SeenBy_t S.SeenBy_tree
  have h1 := h.near_lt s
  have h64 := h.pow
  rw [S.l1SetOk_n h e, set_in hs, S.l1Near_n h]
  simp only [optC, Bool.not_true, cond_false]
  rw [i64_or_nat _ _ (by omega) (by omega)]
  rfl

/-! ### Wires -/
def ends (net : List Int) : Nat := sumN net.length (fun k => size (nb net k))
def wires (net : List Int) : Nat := ends net / 2
theorem I.WiresOf_n {net : List Int} (h : Ok net) (e : I.NetOk_t net = some true) : I.WiresOf_t net = some ((wires net : Nat) : Int) := by
  unfold I.WiresOf_t I.WiresOf_tree
  have h6 := h.hi
  rw [e]
  have := run_for (run := I.WiresOf_run5 net) (len := net.length) (fun k (t : Nat) => ((t : Int), (k : Int))) (fun t k => t + size (nb net k)) (fun t => (t : Int)) (fun k t => t ≤ 6 * k) (by omega) (fun n k t hk ht => ?_) (fun n t ht => ?_) (t0 := 0) (by omega)
  · obtain ⟨this, hb⟩ := this
    simp only [optC, Bool.not_true, cond_false]
    rw [show I.WiresOf_run5 net FUEL (0, 0) = _ from this]
    simp only
    rw [fold_sum] at hb
    rw [fold_sum, div2_nat (by omega)]
    rfl
  · simp only [I.WiresOf_run5, I.WiresOf_step5]
    have hz := size_le (nb net k)
    rw [cnd_t (by simp; omega), cnd_t (by simp; omega), Int.toNat_natCast, h.eli hk, I.sizeOf_n]
    simp only [optC]
    rw [add_nat (by omega), add1_nat (by omega)]
    exact ⟨rfl, by omega⟩
  · simp only [I.WiresOf_run5, I.WiresOf_step5]
    rw [cnd_f (by simp)]
/-! ### Parts -/
/-! ### Lone places -/
def lone (net : List Int) : Nat := orN net.length (fun k => nb net k == 0) (fun k => 2 ^ k)
theorem L.sizeOf_n {s : Nat} (hs : s < 64) : L.sizeOf_t s = some ((size s : Nat) : Int) := by
  unfold L.sizeOf_t L.sizeOf_tree
  have : L.sizeOf_run2 FUEL ((s : Int), 0) = some ((size s : Nat) : Int) := by
    refine run_fuel (run := L.sizeOf_run2) (fun q => ∃ a t : Nat, q = ((a : Int), (t : Int)) ∧ a < 64 ∧ t + size a = size s) (fun q => q.1.toNat) (fun _ => ((size s : Nat) : Int)) ?_ ⟨s, 0, rfl, hs, by omega⟩ (by simp only [Int.toNat_natCast]; omega)
    rintro n _ ⟨a, t, rfl, ha, ht⟩
    have hz := size_le s
    simp only [L.sizeOf_run2, L.sizeOf_step2]
    by_cases h0 : a = 0
    · subst h0
      left
      rw [cnd_f (by simp)]
      have : size 0 = 0 := by decide
      rw [← ht, this]; rfl
    · right
      have h1 := l1Size_spec a ha
      rw [cnd_t (by simp; omega), div2_nat (by omega), tmod2_nat, add_nat (by omega)]
      exact ⟨_, rfl, ⟨_, _, rfl, by omega, by omega⟩, by simp only [Int.toNat_natCast]; omega, trivial⟩
  rw [this]; rfl
end Go.Proofs.Ytlamfgocbekgpaa
/- Wires and parts: plain facts. Conditions: those of each theorem. -/
namespace Go.Proofs.Ytlamfgocbekgpaa
set_option linter.unusedVariables false
set_option linter.unusedSimpArgs false

theorem nb_size {net : List Int} (h : Ok net) {k : Nat} (hk : k < net.length) : size (nb net k) = sumN net.length (fun j => ((nb net k).testBit j).toNat) := size_cnt h (h.lt k hk)
theorem ends_is {net : List Int} (h : Ok net) : ends net = sumN net.length (fun k => sumN net.length (fun j => ((nb net k).testBit j).toNat)) := sumN_congr fun k hk => nb_size h hk
/-- Each wire has two ends. -/
theorem ends_wires {net : List Int} (h : Ok net) : ends net = 2 * wires net := by
  unfold wires
  have := sumN_sym (n := net.length) (a := fun k j => ((nb net k).testBit j).toNat) (fun k j hk hj => by rw [h.sym j k hj hk])
  rw [ends_is h, this, sumN_congr (f := fun k => ((nb net k).testBit k).toNat) (g := fun _ => 0) (fun k hk => by rw [h.irr k hk]; rfl), sumN_zero]
  omega
theorem cnt_below (N m : Nat) (hm : m ≤ N) : cnt N (fun i => decide (i < m)) = m := by
  induction N with
  | zero => obtain rfl : m = 0 := by omega
            rfl
  | succ N ih =>
    show cnt N (fun i => decide (i < m)) + (decide (N < m)).toNat = m
    by_cases hmN : m ≤ N
    · rw [ih hmN]; simp; omega
    · obtain rfl : m = N + 1 := by omega
      rw [cnt_congr (q := fun _ => true) (fun k hk => by simp; omega), cnt_true]; simp
/-- After m steps from the least places of the parts. -/
def lvl (net : List Int) (m k : Nat) : Bool := (List.range net.length).any fun r => root net r && (steps net (allOf net) m (2 ^ r)).testBit k
theorem lvl_iff {net : List Int} {m k : Nat} : lvl net m k = true ↔ ∃ r, r < net.length ∧ root net r = true ∧ (steps net (allOf net) m (2 ^ r)).testBit k = true := by
  unfold lvl
  simp only [List.any_eq_true, List.mem_range, Bool.and_eq_true]
theorem lvl_succ {net : List Int} {m k : Nat} (h : lvl net m k = true) : lvl net (m + 1) k = true := by
  obtain ⟨r, a, b, c⟩ := lvl_iff.1 h
  exact lvl_iff.2 ⟨r, a, b, (grow_testBit _ _ _ _).2 (.inl c)⟩
theorem lvl_mono {net : List Int} {m m' k : Nat} (hm : m ≤ m') (h : lvl net m k = true) : lvl net m' k = true := by
  induction m' with
  | zero => obtain rfl : m = 0 := by omega
            exact h
  | succ m' ih =>
    by_cases he : m = m' + 1
    · rw [← he]; exact h
    · exact lvl_succ (ih (by omega))
def lev (net : List Int) (k : Nat) : Nat := cnt 6 (fun m => !lvl net m k)
theorem root_of {net : List Int} (h : Ok net) {k : Nat} (hk : k < net.length) : ∃ r, r ≤ k ∧ root net r = true ∧ comp net r = comp net k := by
  have key : ∀ m, m ≤ k → (∃ r, r ≤ k ∧ root net r = true ∧ comp net r = comp net k) ∨ ∀ j, j < m → (comp net k).testBit j = false := by
    intro m
    induction m with
    | zero => intro _; right; intro j hj; omega
    | succ m ih =>
      intro hm
      rcases ih (by omega) with h1 | h1
      · exact .inl h1
      · cases hb : (comp net k).testBit m with
        | true =>
          left
          have he := h.comp_same hk (by omega) hb
          exact ⟨m, by omega, root_iff.2 fun j hj => by rw [← he]; exact h1 j hj, he.symm⟩
        | false =>
          right
          intro j hj
          by_cases hjm : j = m
          · rw [hjm]; exact hb
          · exact h1 j (by omega)
  rcases key k (Nat.le_refl _) with h1 | h1
  · exact h1
  · exact ⟨k, Nat.le_refl _, root_iff.2 h1, rfl⟩
theorem lvl_six {net : List Int} (h : Ok net) {k : Nat} (hk : k < net.length) : lvl net 6 k = true := by
  obtain ⟨r, hr, hroot, he⟩ := root_of h hk
  refine lvl_iff.2 ⟨r, by omega, hroot, ?_⟩
  have e2 : comp net r = steps net (allOf net) 6 (2 ^ r) := (h.comp_eq (by omega) (by have := h.hi; omega)).symm
  rw [← e2, he]
  exact h.comp_self hk
/-- Each place that is not the least one of its part has a neighbour that is nearer. -/
theorem nearer {net : List Int} (h : Ok net) {k : Nat} (hk : k < net.length) (hr : root net k = false) : ∃ j, j < net.length ∧ (nb net k).testBit j = true ∧ lev net j < lev net k := by
  have h0 : lvl net 0 k = false := by
    cases hb : lvl net 0 k with
    | false => rfl
    | true =>
      obtain ⟨r, a, b, c⟩ := lvl_iff.1 hb
      have : r = k := by
        have c' : (2 ^ r).testBit k = true := c
        rw [testBit_pow] at c'; simpa using c'
      rw [this] at b; rw [b] at hr; cases hr
  have hex : ∀ m, m ≤ 6 → lvl net m k = true → ∃ q, q < m ∧ lvl net q k = false ∧ lvl net (q + 1) k = true := by
    intro m
    induction m with
    | zero => intro _ hb; rw [h0] at hb; cases hb
    | succ m ih =>
      intro hm hb
      cases hc : lvl net m k with
      | false => exact ⟨m, by omega, hc, hb⟩
      | true => obtain ⟨q, a, b⟩ := ih (by omega) hc; exact ⟨q, by omega, b⟩
  obtain ⟨q, hq, hqf, hqt⟩ := hex 6 (Nat.le_refl _) (lvl_six h hk)
  obtain ⟨r, a, b, c⟩ := lvl_iff.1 hqt
  rcases (grow_testBit _ _ _ _).1 c with c1 | ⟨⟨j, hj, c1, c2⟩, _⟩
  · rw [lvl_iff.2 ⟨r, a, b, c1⟩] at hqf; cases hqf
  · refine ⟨j, hj, by rw [h.sym j k hj hk]; exact c2, ?_⟩
    have hjl : lvl net q j = true := lvl_iff.2 ⟨r, a, b, c1⟩
    have h1 : lev net j ≤ q := by
      have := cnt_mono (n := 6) (p := fun m => !lvl net m j) (q := fun i => decide (i < q)) (fun m hm hp => by
        have hp' : lvl net m j = false := by simpa using hp
        rw [decide_eq_true_eq]
        refine Classical.byContradiction fun hc => ?_
        rw [lvl_mono (by omega) hjl] at hp'; cases hp')
      rw [cnt_below 6 q (by omega)] at this
      exact this
    have h2 : q + 1 ≤ lev net k := by
      have := cnt_mono (n := 6) (p := fun i => decide (i < q + 1)) (q := fun m => !lvl net m k) (fun m hm hp => by
        have hp' : m < q + 1 := by simpa using hp
        cases hx : lvl net m k with
        | false => rfl
        | true => rw [lvl_mono (by omega) hx] at hqf; cases hqf)
      rw [cnt_below 6 (q + 1) (by omega)] at this
      exact this
    omega
end Go.Proofs.Ytlamfgocbekgpaa
/- Guards that are needed, guards apart, the chain of numbers: plain facts. Conditions: those of each theorem. -/
namespace Go.Proofs.Ytlamfgocbekgpaa
set_option linter.unusedVariables false
set_option linter.unusedSimpArgs false

theorem not_true {b : Bool} (h : ¬ b = true) : b = false := by cases b with
  | true => exact absurd rfl h
  | false => rfl
theorem sees_self (net : List Int) (k : Nat) : (ball net k).testBit k = true := (ball_testBit _ _ _).2 (.inr rfl)
theorem seen_balls {net : List Int} (h : Ok net) {s : Nat} (hs : s < 2 ^ net.length) {j : Nat} : (seen net s).testBit j = true ↔ ∃ k, k < net.length ∧ s.testBit k = true ∧ (ball net k).testBit j = true := by
  rw [← h.seen_balls hs, orN_testBit]
theorem in_lt {net : List Int} {s k : Nat} (hs : s < 2 ^ net.length) (hk : s.testBit k = true) : k < net.length := testBit_lt hs hk

/-! ### Private places -/
def priv (net : List Int) (s g : Nat) : Nat := minus (ball net g) (seen net (s - 2 ^ g))
theorem zero_iff {a : Nat} : a = 0 ↔ ∀ j, a.testBit j = false := by
  constructor
  · rintro rfl j; exact Nat.zero_testBit j
  · intro ha; exact Nat.eq_of_testBit_eq fun j => by rw [ha j, Nat.zero_testBit]
theorem pos_iff {a : Nat} : a ≠ 0 ↔ ∃ j, a.testBit j = true := by
  rw [Ne, zero_iff]
  constructor
  · intro hn
    refine Classical.byContradiction fun hc => hn fun j => not_true fun hj => hc ⟨j, hj⟩
  · rintro ⟨j, hj⟩ ha; rw [ha j] at hj; cases hj
/-- Each guard has a place of its own. -/
def Needs (net : List Int) (s : Nat) : Prop := ∀ g, s.testBit g = true → ∃ j, (ball net g).testBit j = true ∧ ∀ i, s.testBit i = true → (ball net i).testBit j = true → i = g
def needs (net : List Int) (s : Nat) : Bool := (List.range net.length).all fun k => !(s.testBit k && priv net s k == 0)
theorem Needs.mono {net : List Int} {s t : Nat} (hst : ∀ j, t.testBit j = true → s.testBit j = true) (hn : Needs net s) : Needs net t := fun g hg => by
  obtain ⟨j, h1, h2⟩ := hn g (hst g hg)
  exact ⟨j, h1, fun i hi hb => h2 i (hst i hi) hb⟩
theorem Needs.zero (net : List Int) : Needs net 0 := fun g hg => by rw [Nat.zero_testBit] at hg; cases hg
theorem Needs.one (net : List Int) (k : Nat) : Needs net (2 ^ k) := fun g hg => by
  rw [testBit_pow, decide_eq_true_eq] at hg
  subst hg
  exact ⟨k, sees_self net k, fun i hi _ => by rw [testBit_pow, decide_eq_true_eq] at hi; exact hi.symm⟩
theorem or_testBit (s k j : Nat) : (s ||| 2 ^ k).testBit j = true ↔ s.testBit j = true ∨ j = k := by
  rw [Nat.testBit_or, Bool.or_eq_true, testBit_pow, decide_eq_true_eq]
  exact ⟨fun a => a.elim .inl (fun b => .inr b.symm), fun a => a.elim .inl (fun b => .inr b.symm)⟩
theorem or_lt {n s k : Nat} (hs : s < 2 ^ n) (hk : k < n) : s ||| 2 ^ k < 2 ^ n := Nat.or_lt_two_pow hs (Nat.pow_lt_pow_right (by omega) hk)
/-- A set that needs all guards, and does not with any further place. -/
def FullN (net : List Int) (s : Nat) : Prop := Needs net s ∧ ∀ k, k < net.length → s.testBit k = false → ¬ Needs net (s ||| 2 ^ k)
def fullN (net : List Int) (s : Nat) : Bool := ((List.range net.length).all fun k => !(!s.testBit k && needs net (s ||| 2 ^ k))) && needs net s
/-! ### Seen twice -/
/-- The places that two guards of a set see. -/
structure Twice (net : List Int) (s t : Nat) : Prop where
  lt : t < 2 ^ net.length
  bit : ∀ j, t.testBit j = true ↔ ∃ a b, s.testBit a = true ∧ s.testBit b = true ∧ a ≠ b ∧ (ball net a).testBit j = true ∧ (ball net b).testBit j = true
theorem Twice.uniq {net : List Int} {s t u : Nat} (ht : Twice net s t) (hu : Twice net s u) : t = u := Nat.eq_of_testBit_eq fun j => by rw [Bool.eq_iff_iff, ht.bit, hu.bit]
def twice (net : List Int) (s : Nat) : Nat := (fold net.length (fun (t : Nat × Nat) k => if s.testBit k = true then (t.1 ||| ball net k, t.2 ||| (t.1 &&& ball net k)) else t) (0, 0)).2
/-! ### Guards apart -/
def Apart (net : List Int) (s : Nat) : Prop := ∀ j k, s.testBit j = true → s.testBit k = true → (nb net j).testBit k = false
def apart (net : List Int) (s : Nat) : Bool := (near net s &&& s) == 0
theorem apart_iff {net : List Int} {s : Nat} (hs : s < 2 ^ net.length) : apart net s = true ↔ Apart net s := by
  unfold apart
  rw [beq_iff_eq, zero_iff]
  constructor
  · intro ha j k hj hk
    have := ha k
    rw [Nat.testBit_and, hk, Bool.and_true] at this
    refine not_true fun hb => ?_
    rw [(near_testBit _ _ _).2 ⟨j, in_lt hs hj, hj, hb⟩] at this; cases this
  · intro ha j
    refine not_true fun hb => ?_
    rw [Nat.testBit_and, Bool.and_eq_true, near_testBit] at hb
    obtain ⟨⟨k, _, h1, h2⟩, h3⟩ := hb
    rw [ha k j h1 h3] at h2; cases h2
theorem Apart.mono {net : List Int} {s t : Nat} (hst : ∀ j, t.testBit j = true → s.testBit j = true) (h : Apart net s) : Apart net t := fun j k hj hk => h j k (hst j hj) (hst k hk)
theorem Apart.zero (net : List Int) : Apart net 0 := fun j k hj _ => by rw [Nat.zero_testBit] at hj; cases hj
theorem Apart.one {net : List Int} (h : Ok net) {k : Nat} (hk : k < net.length) : Apart net (2 ^ k) := fun i j hi hj => by
  rw [testBit_pow, decide_eq_true_eq] at hi hj
  subst hi; subst hj
  exact h.irr _ hk
theorem apart_only {net : List Int} (h : Ok net) {s : Nat} (hs : s < 2 ^ net.length) (ha : Apart net s) {g : Nat} (hg : s.testBit g = true) : ∀ i, s.testBit i = true → (ball net i).testBit g = true → i = g := fun i hi hb => by
  rcases (ball_testBit _ _ _).1 hb with a | a
  · rw [ha i g hi hg] at a; cases a
  · exact a
theorem Apart.needs {net : List Int} (h : Ok net) {s : Nat} (hs : s < 2 ^ net.length) (ha : Apart net s) : Needs net s := fun g hg => ⟨g, sees_self net g, apart_only h hs ha hg⟩
theorem Apart.add {net : List Int} (h : Ok net) {s k : Nat} (hs : s < 2 ^ net.length) (hk : k < net.length) (ha : Apart net s) (hn : ∀ j, s.testBit j = true → (nb net k).testBit j = false) : Apart net (s ||| 2 ^ k) := fun i j hi hj => by
  rw [or_testBit] at hi hj
  rcases hi with hi | hi
  · rcases hj with hj | hj
    · exact ha i j hi hj
    · rw [hj, h.sym k i hk (in_lt hs hi)]; exact hn i hi
  · rcases hj with hj | hj
    · rw [hi]; exact hn j hj
    · rw [hi, hj]; exact h.irr k hk
def fullA (net : List Int) (s : Nat) : Bool := apart net s && (List.range net.length).all fun k => !(!s.testBit k && apart net (s ||| 2 ^ k))
/-! ### Grown sets -/
def grownStep (net : List Int) (t k : Nat) : Nat := if (!t.testBit k && (nb net k &&& t) == 0) = true then t ||| 2 ^ k else t
def grown (net : List Int) (s : Nat) : Nat := fold net.length (grownStep net) s
end Go.Proofs.Ytlamfgocbekgpaa
/- The chain of numbers: plain facts. Conditions: those of each theorem. -/
namespace Go.Proofs.Ytlamfgocbekgpaa
set_option linter.unusedVariables false
set_option linter.unusedSimpArgs false

/-- The least number of places of sets of a kind, and the greatest. -/
structure MinOf (net : List Int) (p : Nat → Bool) (m : Nat) : Prop where
  ex : ∃ s, s < 2 ^ net.length ∧ p s = true ∧ size s = m
  le : ∀ s, s < 2 ^ net.length → p s = true → m ≤ size s
structure MaxOf (net : List Int) (p : Nat → Bool) (m : Nat) : Prop where
  ex : ∃ s, s < 2 ^ net.length ∧ p s = true ∧ size s = m
  le : ∀ s, s < 2 ^ net.length → p s = true → size s ≤ m
theorem MinOf.uniq {net : List Int} {p : Nat → Bool} {a b : Nat} (ha : MinOf net p a) (hb : MinOf net p b) : a = b := by
  obtain ⟨s, h1, h2, h3⟩ := ha.ex
  obtain ⟨t, g1, g2, g3⟩ := hb.ex
  have := ha.le t g1 g2
  have := hb.le s h1 h2
  omega
theorem MaxOf.uniq {net : List Int} {p : Nat → Bool} {a b : Nat} (ha : MaxOf net p a) (hb : MaxOf net p b) : a = b := by
  obtain ⟨s, h1, h2, h3⟩ := ha.ex
  obtain ⟨t, g1, g2, g3⟩ := hb.ex
  have := ha.le t g1 g2
  have := hb.le s h1 h2
  omega
def minSize (net : List Int) (p : Nat → Bool) : Nat := fold (2 ^ net.length) (fun t s => if p s = true then (if size s < t then size s else t) else t) net.length
def maxSize (net : List Int) (p : Nat → Bool) : Nat := fold (2 ^ net.length) (fun t s => if p s = true then (if size s > t then size s else t) else t) 0
theorem maxFoldP {N : Nat} {p : Nat → Bool} {f : Nat → Nat} :
    (∀ s, s < N → p s = true → f s ≤ fold N (fun t s => if p s = true then (if f s > t then f s else t) else t) 0) ∧
    (fold N (fun t s => if p s = true then (if f s > t then f s else t) else t) 0 = 0 ∨ ∃ s, s < N ∧ p s = true ∧ f s = fold N (fun t s => if p s = true then (if f s > t then f s else t) else t) 0) := by
  induction N with
  | zero => exact ⟨fun s hs => by omega, .inl rfl⟩
  | succ N ih =>
    rw [fold_succ]
    generalize fold N _ 0 = g at ih ⊢
    obtain ⟨h1, h3⟩ := ih
    cases hp : p N with
    | false =>
      simp only [Bool.false_eq_true, if_false]
      refine ⟨fun s hs hps => ?_, ?_⟩
      · by_cases he : s = N
        · subst he; rw [hp] at hps; cases hps
        · exact h1 s (by omega) hps
      · rcases h3 with h3 | ⟨s, a, b⟩
        · exact .inl h3
        · exact .inr ⟨s, by omega, b⟩
    | true =>
      simp only [if_true]
      refine ⟨fun s hs hps => ?_, ?_⟩
      · by_cases he : s = N
        · subst he; split <;> omega
        · have := h1 s (by omega) hps
          split <;> omega
      · split
        · exact .inr ⟨N, by omega, hp, rfl⟩
        · rcases h3 with h3 | ⟨s, a, b⟩
          · exact .inl h3
          · exact .inr ⟨s, by omega, b⟩
theorem maxSize_is {net : List Int} {p : Nat → Bool} (hex : ∃ s, s < 2 ^ net.length ∧ p s = true) : MaxOf net p (maxSize net p) := by
  obtain ⟨h1, h3⟩ := maxFoldP (N := 2 ^ net.length) (p := p) (f := size)
  refine ⟨?_, h1⟩
  rcases h3 with h3 | h3
  · obtain ⟨s, hs, hp⟩ := hex
    have := h1 s hs hp
    exact ⟨s, hs, hp, by unfold maxSize; omega⟩
  · exact h3
theorem few_min {net : List Int} {m : Nat} : Few net m ↔ MinOf net (W net) m := ⟨fun a => ⟨a.ex, a.le⟩, fun a => ⟨a.ex, a.le⟩⟩
/-! ### What there is of each kind -/
theorem ex_apart (net : List Int) : ∃ s, s < 2 ^ net.length ∧ apart net s = true := ⟨0, Nat.two_pow_pos _, (apart_iff (Nat.two_pow_pos _)).2 (Apart.zero net)⟩
theorem size_add {s k : Nat} (hs : s < 64) (hk : k < 6) (hb : s.testBit k = false) : size (s ||| 2 ^ k) = size s + 1 := bits_or s hs k hk hb
theorem size_pos {s : Nat} (hs : s < 64) {k : Nat} (hk : k < 6) (hb : s.testBit k = true) : 1 ≤ size s := by
  have := (bits_sub s hs k hk hb).2.2.1
  omega
/-! ### A full set and its private places watch -/
/-! ### Bounds by balls, and nets without wires -/
theorem ends_zero {net : List Int} (h : Ok net) : wires net = 0 ↔ ∀ k, k < net.length → nb net k = 0 := by
  have he := ends_wires h
  constructor
  · intro hw k hk
    have h1 : size (nb net k) ≤ ends net := sumN_pos (f := fun k => size (nb net k)) hk
    have h2 : size (nb net k) = 0 := by omega
    refine zero_iff.2 fun j => not_true fun hj => ?_
    have := size_pos (h.lt64 hk) (by have := h.hi; have := h.nb_lt hk hj; omega) hj
    omega
  · intro ha
    have : ends net = 0 := by
      unfold ends
      rw [sumN_congr (g := fun _ => 0) (fun k hk => by rw [ha k hk]; rfl), sumN_zero]
    omega
theorem full_size {net : List Int} (h : Ok net) {s : Nat} (hs : s < 2 ^ net.length) (hz : size s = net.length) : s = allOf net := by
  have := allOf_succ net
  refine Classical.byContradiction fun hne => ?_
  have := size_lt_len h (s := s) (by omega)
  omega
/-! ### How many sets are apart -/
def apartCount (net : List Int) : Nat := cnt (2 ^ net.length) (apart net)
end Go.Proofs.Ytlamfgocbekgpaa
/- Guards near each other: plain facts of total and joined watches. Conditions: those of each theorem. -/
namespace Go.Proofs.Ytlamfgocbekgpaa
set_option linter.unusedVariables false
set_option linter.unusedSimpArgs false

/-! ### Total watches -/
def total (net : List Int) (s : Nat) : Bool := near net s == allOf net
theorem or2 (s t j : Nat) : (s ||| t).testBit j = true ↔ s.testBit j = true ∨ t.testBit j = true := by rw [Nat.testBit_or, Bool.or_eq_true]
/-! ### Sets that stand together -/
def Together (net : List Int) (s : Nat) : Prop := s ≠ 0 ∧ ∀ i j, s.testBit i = true → s.testBit j = true → Reach net s i j
theorem Reach.mono {net : List Int} {A B i j : Nat} (hAB : ∀ k, A.testBit k = true → B.testBit k = true) (hr : Reach net A i j) : Reach net B i j := by
  induction hr with
  | here ha => exact .here (hAB _ ha)
  | step _ hj hn ha ih => exact .step ih hj hn (hAB _ ha)
theorem size_or_one {net : List Int} (h : Ok net) {s k : Nat} (hs : s < 2 ^ net.length) (hk : k < net.length) : size (s ||| 2 ^ k) ≤ size s + 1 := by
  cases hb : s.testBit k with
  | false => rw [size_add (lt64 h hs) (by have := h.hi; omega) hb]; exact Nat.le_refl _
  | true =>
    have : s ||| 2 ^ k = s := Nat.eq_of_testBit_eq fun j => by
      rw [Bool.eq_iff_iff, or_testBit]
      exact ⟨fun hh => hh.elim id (fun he => by rw [he]; exact hb), .inl⟩
    rw [this]; omega
/-- From within to without there is a wire. -/
theorem leaves {net : List Int} {A i j t : Nat} (hr : Reach net A i j) (hi : t.testBit i = true) (hj : t.testBit j = false) : ∃ u v, t.testBit u = true ∧ t.testBit v = false ∧ u < net.length ∧ (nb net u).testBit v = true := by
  induction hr with
  | here _ => rw [hi] at hj; cases hj
  | @step a b hr hl hn _ ih =>
    cases hb : t.testBit a with
    | true => exact ⟨a, b, hb, hj, hl, hn⟩
    | false => exact ih hb
end Go.Proofs.Ytlamfgocbekgpaa
/- Packings and forests: plain facts. Conditions: those of each theorem. -/
namespace Go.Proofs.Ytlamfgocbekgpaa
set_option linter.unusedVariables false
set_option linter.unusedSimpArgs false

def packed (net : List Int) (s : Nat) : Bool := (List.range net.length).all fun k => !decide (1 < size (ball net k &&& s))
theorem bits_le1 : ((List.range 64).all fun s => (List.range 6).all fun i => (List.range 6).all fun j => !(decide (size s ≤ 1) && s.testBit i && s.testBit j) || i == j) = true := by decide +kernel
theorem bits_le2 : ∀ s, s < 64 → 2 ≤ size s → ((List.range 6).any fun i => (List.range 6).any fun j => s.testBit i && s.testBit j && i != j) = true := by decide +kernel
theorem two_in {s : Nat} (hs : s < 64) (hz : 2 ≤ size s) : ∃ i j, s.testBit i = true ∧ s.testBit j = true ∧ i ≠ j := by
  have := bits_le2 s hs hz
  simp only [List.any_eq_true, List.mem_range, Bool.and_eq_true, bne_iff_ne] at this
  obtain ⟨i, _, j, _, ⟨a, b⟩, c⟩ := this
  exact ⟨i, j, a, b, c⟩
theorem le_one {s : Nat} (hs : s < 64) : size s ≤ 1 ↔ ∀ i j, s.testBit i = true → s.testBit j = true → i = j := by
  constructor
  · intro hz i j hi hj
    have := bits_le1
    rw [List.all_eq_true] at this
    have := this s (List.mem_range.2 hs)
    rw [List.all_eq_true] at this
    have := this i (List.mem_range.2 (testBit_lt (n := 6) hs hi))
    rw [List.all_eq_true] at this
    have := this j (List.mem_range.2 (testBit_lt (n := 6) hs hj))
    rw [hi, hj, decide_eq_true hz] at this
    simpa using this
  · intro ha
    refine Classical.byContradiction fun hlt => ?_
    obtain ⟨i, j, a, b, c⟩ := two_in hs (by omega)
    exact c (ha i j a b)
/-- No two guards see one place. -/
def Packed (net : List Int) (s : Nat) : Prop := ∀ i j w, s.testBit i = true → s.testBit j = true → (ball net i).testBit w = true → (ball net j).testBit w = true → i = j
theorem Packed.mono {net : List Int} {s t : Nat} (hst : ∀ j, t.testBit j = true → s.testBit j = true) (hp : Packed net s) : Packed net t := fun i j w hi hj => hp i j w (hst i hi) (hst j hj)
theorem Packed.apart {net : List Int} (h : Ok net) {s : Nat} (hs : s < 2 ^ net.length) (hp : Packed net s) : Apart net s := fun j k hj hk => not_true fun hx => by
  have := hp j k k hj hk ((ball_testBit _ _ _).2 (.inl hx)) (sees_self net k)
  rw [this, h.irr k (in_lt hs hk)] at hx; cases hx
/-- The least places of the parts. -/
def roots (net : List Int) : Nat := orN net.length (root net) (fun k => 2 ^ k)
/-! ### Forests -/
/-- Places go one by one, each with at most one neighbour left. -/
inductive Peel (net : List Int) : Nat → Prop
  | zero : Peel net 0
  | step {s k : Nat} : s.testBit k = true → size (nb net k &&& s) ≤ 1 → Peel net (s - 2 ^ k) → Peel net s
/-- Nobody can go. -/
def Stuck (net : List Int) (s : Nat) : Prop := ∀ k, s.testBit k = true → 2 ≤ size (nb net k &&& s)
theorem and_mono_size {a s t : Nat} (hst : ∀ j, s.testBit j = true → t.testBit j = true) : size (a &&& s) ≤ size (a &&& t) := by
  refine card_mono fun j _ hj => ?_
  rw [Nat.testBit_and, Bool.and_eq_true] at hj ⊢
  exact ⟨hj.1, hst j hj.2⟩
theorem peel_stuck {net : List Int} (h : Ok net) {s : Nat} (hp : Peel net s) : s < 2 ^ net.length → ∀ r, (∀ j, r.testBit j = true → s.testBit j = true) → Stuck net r → r = 0 := by
  induction hp with
  | zero => intro _ r hr _; exact zero_iff.2 fun j => not_true fun hj => by have := hr j hj; rw [Nat.zero_testBit] at this; cases this
  | @step s k hk hz hp ih =>
    intro hs r hr hst
    have h6 := h.hi
    refine ih (sub_lt hs) r (fun j hj => ?_) hst
    rw [sub_testBit (lt64 h hs) (by have := in_lt hs hk; omega) hk, hr j hj, Bool.true_and, Bool.not_eq_true', decide_eq_false_iff_not]
    intro he
    rw [he] at hj
    have := hst k hj
    have := and_mono_size (a := nb net k) hr
    omega
end Go.Proofs.Ytlamfgocbekgpaa
/- Forests: wires and parts are places. Conditions: those of each theorem. -/
namespace Go.Proofs.Ytlamfgocbekgpaa
set_option linter.unusedVariables false
set_option linter.unusedSimpArgs false

/-- The ends of wires within a set. -/
def inEnd (net : List Int) (s i j : Nat) : Nat := (s.testBit i && s.testBit j && (nb net i).testBit j).toNat
def ends2 (net : List Int) (s : Nat) : Nat := sumN net.length fun i => sumN net.length (inEnd net s i)
/-- A set within another one that nobody leaves by a wire. -/
def Closed (net : List Int) (s t : Nat) : Prop := (∀ j, t.testBit j = true → s.testBit j = true) ∧ ∀ i j, t.testBit i = true → s.testBit j = true → (nb net i).testBit j = true → t.testBit j = true
def Covers (net : List Int) (s z : Nat) : Prop := (∀ j, z.testBit j = true → s.testBit j = true) ∧ ∀ t, t < 2 ^ net.length → t ≠ 0 → Closed net s t → ∃ j, z.testBit j = true ∧ t.testBit j = true
/-- Places go till nobody can. -/
inductive Down (net : List Int) (r : Nat) : Nat → Prop
  | here : Down net r r
  | step {s k : Nat} : s.testBit k = true → size (nb net k &&& s) ≤ 1 → Down net r (s - 2 ^ k) → Down net r s
theorem down_zero {net : List Int} {s : Nat} (hd : Down net 0 s) : Peel net s := by
  induction hd with
  | here => exact .zero
  | step a b _ ih => exact .step a b ih
/-- What is left where nobody can go is nothing, just in forests. -/
theorem forest_left {net : List Int} (h : Ok net) {r : Nat} (hd : Down net r (allOf net)) (hr : r < 2 ^ net.length) (hst : Stuck net r) : r = 0 ↔ Peel net (allOf net) := by
  constructor
  · intro he; rw [he] at hd; exact down_zero hd
  · intro hp
    exact peel_stuck h hp (allOf_lt net) r (fun j hj => by rw [allOf_testBit]; simpa using in_lt hr hj) hst
end Go.Proofs.Ytlamfgocbekgpaa
/- Wires cut and wires joined: plain facts. Conditions: those of each theorem. -/
namespace Go.Proofs.Ytlamfgocbekgpaa
set_option linter.unusedVariables false
set_option linter.unusedSimpArgs false

/-- A net with some wires less. -/
structure BelowN (net o : List Int) : Prop where
  ok : Ok o
  len : o.length = net.length
  sub : ∀ i j, i < net.length → (nb o i).testBit j = true → (nb net i).testBit j = true
/-- A net with the wire of two places less. -/
structure CutOf (net o : List Int) (a b : Nat) : Prop where
  ok : Ok o
  len : o.length = net.length
  al : a < net.length
  bl : b < net.length
  wire : (nb net a).testBit b = true
  bit : ∀ i j, i < net.length → j < net.length → (nb o i).testBit j = ((nb net i).testBit j && !(decide (i = a ∧ j = b) || decide (i = b ∧ j = a)))
theorem CutOf.below {net o : List Int} {a b : Nat} (hc : CutOf net o a b) : BelowN net o :=
  ⟨hc.ok, hc.len, fun i j hi hj => by
    have hjl := hc.ok.nb_lt (by rw [hc.len]; exact hi) hj
    rw [hc.len] at hjl
    rw [hc.bit i j hi hjl, Bool.and_eq_true] at hj
    exact hj.1⟩
theorem CutOf.ne {net o : List Int} {a b : Nat} (h : Ok net) (hc : CutOf net o a b) : a ≠ b := fun e => by
  have := hc.wire
  rw [e, h.irr b hc.bl] at this; cases this
/-- With more wires no less is watched. -/
theorem below_watch {net o : List Int} (h : Ok net) (hb : BelowN net o) {s : Nat} (hs : s < 2 ^ net.length) (hw : W o s = true) : W net s = true := by
  have hso : s < 2 ^ o.length := by rw [hb.len]; exact hs
  refine (W_iff h hs).2 fun j hj => (seen_iff h s hj).2 ?_
  have hjo : j < o.length := by rw [hb.len]; exact hj
  rcases (seen_iff hb.ok s hjo).1 ((W_iff hb.ok hso).1 hw j hjo) with x | ⟨k, hk, x, y⟩
  · exact .inl x
  · rw [hb.len] at hk
    exact .inr ⟨k, hk, x, hb.sub j k hj y⟩
theorem below_few {net o : List Int} (h : Ok net) (hb : BelowN net o) {a b : Nat} (ha : MinOf net (W net) a) (hbm : MinOf o (W o) b) : a ≤ b := by
  obtain ⟨s, s1, s2, s3⟩ := hbm.ex
  rw [hb.len] at s1
  have := ha.le s s1 (below_watch h hb s1 s2)
  omega
/-- A cut costs one guard at most. -/
theorem cut_few {net o : List Int} (h : Ok net) {u v : Nat} (hc : CutOf net o u v) {a b : Nat} (ha : MinOf net (W net) a) (hb : MinOf o (W o) b) : a ≤ b ∧ b ≤ a + 1 := by
  refine ⟨below_few h hc.below ha hb, ?_⟩
  obtain ⟨s, s1, s2, s3⟩ := ha.ex
  have hne := hc.ne h
  -- the place that may lose its guard
  have hex : ∃ g, g < net.length ∧ ∀ j, j < net.length → (ball o g).testBit j = true ∨ ∃ k, k < net.length ∧ s.testBit k = true ∧ (ball o k).testBit j = true := by
    refine ⟨if s.testBit u = true then v else u, by split; exact hc.bl; exact hc.al, fun j hj => ?_⟩
    obtain ⟨k, k1, k2, k3⟩ := (seen_balls h s1).1 ((W_iff h s1).1 s2 j hj)
    rcases (ball_testBit _ _ _).1 k3 with x | x
    · by_cases h1 : k = u ∧ j = v
      · left
        rw [h1.1] at k2
        rw [if_pos k2, h1.2]; exact sees_self o v
      · by_cases h2 : k = v ∧ j = u
        · by_cases h3 : s.testBit u = true
          · exact .inr ⟨u, hc.al, h3, by rw [h2.2]; exact sees_self o u⟩
          · left; rw [if_neg h3, h2.2]; exact sees_self o u
        · exact .inr ⟨k, k1, k2, (ball_testBit _ _ _).2 (.inl (by rw [hc.bit k j k1 hj, x]; simp [h1, h2]))⟩
    · exact .inr ⟨k, k1, k2, (ball_testBit _ _ _).2 (.inr x)⟩
  obtain ⟨g, hg, hall⟩ := hex
  have hlt := or_lt s1 hg
  have hlo : s ||| 2 ^ g < 2 ^ o.length := by rw [hc.len]; exact hlt
  have := hb.le _ hlo ((W_iff hc.ok hlo).2 fun j hj => (seen_balls hc.ok hlo).2 (by
    rw [hc.len] at hj ⊢
    rcases hall j hj with x | ⟨k, k1, k2, k3⟩
    · exact ⟨g, hg, (or_testBit _ _ _).2 (.inr rfl), x⟩
    · exact ⟨k, k1, (or_testBit _ _ _).2 (.inl k2), k3⟩))
  have := size_or_one h s1 hg
  omega
/-- Places apart, by one at most. -/
theorem cut_apart {net o : List Int} (h : Ok net) {u v : Nat} (hc : CutOf net o u v) {a b : Nat} (ha : MaxOf net (apart net) a) (hb : MaxOf o (apart o) b) : a ≤ b ∧ b ≤ a + 1 := by
  have h6 := h.hi
  constructor
  · obtain ⟨s, s1, s2, s3⟩ := ha.ex
    have hso : s < 2 ^ o.length := by rw [hc.len]; exact s1
    have := hb.le s hso ((apart_iff hso).2 fun j k hj hk => not_true fun hx => by
      have := hc.below.sub j k (in_lt s1 hj) hx
      rw [(apart_iff s1).1 s2 j k hj hk] at this; cases this)
    omega
  · obtain ⟨s, s1, s2, s3⟩ := hb.ex
    have hsn : s < 2 ^ net.length := by rw [← hc.len]; exact s1
    have hA := (apart_iff s1).1 s2
    by_cases hv : s.testBit v = true
    · have hsub := (bits_sub s (lt64 h hsn) v (by have := hc.bl; omega) hv).2.2.1
      have hbit : ∀ j, (s - 2 ^ v).testBit j = true ↔ s.testBit j = true ∧ j ≠ v := fun j => by
        rw [sub_testBit (lt64 h hsn) (by have := hc.bl; omega) hv]; simp
      have := ha.le _ (sub_lt hsn) ((apart_iff (sub_lt hsn)).2 fun j k hj hk => not_true fun hx => by
        obtain ⟨j1, j2⟩ := (hbit j).1 hj
        obtain ⟨k1, k2⟩ := (hbit k).1 hk
        have := hA j k j1 k1
        rw [hc.bit j k (in_lt hsn j1) (in_lt hsn k1), hx] at this
        simp [j2, k2] at this)
      omega
    · have := ha.le s hsn ((apart_iff hsn).2 fun j k hj hk => not_true fun hx => by
        have := hA j k hj hk
        have hjv : j ≠ v := fun e => hv (e ▸ hj)
        have hkv : k ≠ v := fun e => hv (e ▸ hk)
        rw [hc.bit j k (in_lt hsn hj) (in_lt hsn hk), hx] at this
        simp [hjv, hkv] at this)
      omega
/-- Without all wires of two neighbours more guards are needed. -/
theorem alone_both {net o : List Int} (h : Ok net) (hb : BelowN net o) {u v : Nat} (hu : u < net.length) (hv : v < net.length) (huv : (nb net u).testBit v = true) (hou : nb o u = 0) (hov : nb o v = 0) {a b : Nat} (ha : MinOf net (W net) a) (hbm : MinOf o (W o) b) : a < b := by
  have h6 := h.hi
  obtain ⟨s, s1, s2, s3⟩ := hbm.ex
  have hsn : s < 2 ^ net.length := by rw [← hb.len]; exact s1
  have alone : ∀ k, k < net.length → nb o k = 0 → s.testBit k = true := fun k hk h0 => by
    rcases (seen_iff hb.ok s (by rw [hb.len]; exact hk)).1 ((W_iff hb.ok s1).1 s2 k (by rw [hb.len]; exact hk)) with x | ⟨i, _, _, x⟩
    · exact x
    · rw [h0, Nat.zero_testBit] at x; cases x
  have hsu := alone u hu hou
  have hsv := alone v hv hov
  have hne : u ≠ v := fun e => by rw [e, h.irr v hv] at huv; cases huv
  have hsub := (bits_sub s (lt64 h hsn) v (by omega) hsv).2.2.1
  have hbit : ∀ j, (s - 2 ^ v).testBit j = true ↔ s.testBit j = true ∧ j ≠ v := fun j => by
    rw [sub_testBit (lt64 h hsn) (by omega) hsv]; simp
  have := ha.le _ (sub_lt hsn) ((W_iff h (sub_lt hsn)).2 fun j hj => (seen_balls h (sub_lt hsn)).2 (by
    by_cases hjv : j = v
    · exact ⟨u, hu, (hbit u).2 ⟨hsu, hne⟩, (ball_testBit _ _ _).2 (.inl (by rw [hjv]; exact huv))⟩
    · obtain ⟨k, k1, k2, k3⟩ := (seen_balls hb.ok s1).1 ((W_iff hb.ok s1).1 s2 j (by rw [hb.len]; exact hj))
      rw [hb.len] at k1
      have hkv : k ≠ v := fun e => by
        rw [e] at k3
        rcases (ball_testBit _ _ _).1 k3 with x | x
        · rw [hov, Nat.zero_testBit] at x; cases x
        · exact hjv x.symm
      exact ⟨k, k1, (hbit k).2 ⟨k2, hkv⟩, (ball_testBit _ _ _).2 (((ball_testBit _ _ _).1 k3).imp (hb.sub k j k1) id)⟩))
  omega
/-- A leaf that is cut, beside another leaf of the same place, needs a guard more. -/
theorem two_leaves {net o : List Int} (h : Ok net) {v x y : Nat} (hx : x < net.length) (hy : y < net.length) (hxy : x ≠ y) (hc : CutOf net o v x) (hlx : ∀ j, (nb net x).testBit j = true → j = v) (hly : ∀ j, (nb net y).testBit j = true → j = v) (hvy : (nb net v).testBit y = true)
    {a b : Nat} (ha : MinOf net (W net) a) (hb : MinOf o (W o) b) : a < b := by
  have h6 := h.hi
  have hv := hc.al
  have hvx : v ≠ x := hc.ne h
  have hyv : y ≠ v := fun e => by rw [e, h.irr v hv] at hvy; cases hvy
  obtain ⟨s, s1, s2, s3⟩ := hb.ex
  have hsn : s < 2 ^ net.length := by rw [← hc.len]; exact s1
  have hox : nb o x = 0 := zero_iff.2 fun j => not_true fun hj => by
    have hjl := hc.ok.nb_lt (by rw [hc.len]; exact hx) hj
    rw [hc.len] at hjl
    have h1 := hlx j (hc.below.sub x j hx hj)
    rw [hc.bit x j hx hjl, h1] at hj
    simp at hj
  have hsx : s.testBit x = true := by
    rcases (seen_iff hc.ok s (by rw [hc.len]; exact hx)).1 ((W_iff hc.ok s1).1 s2 x (by rw [hc.len]; exact hx)) with z | ⟨i, _, _, z⟩
    · exact z
    · rw [hox, Nat.zero_testBit] at z; cases z
  have hsub := (bits_sub s (lt64 h hsn) x (by omega) hsx).2.2.1
  have hbit : ∀ j, (s - 2 ^ x).testBit j = true ↔ s.testBit j = true ∧ j ≠ x := fun j => by
    rw [sub_testBit (lt64 h hsn) (by omega) hsx]; simp
  -- a set that sees the net without the leaf, and has v
  have hex : ∃ t, t < 2 ^ net.length ∧ size t + 1 ≤ size s ∧ t.testBit v = true ∧ ∀ j, (s - 2 ^ x).testBit j = true → j ≠ y → t.testBit j = true := by
    by_cases hsv : (s - 2 ^ x).testBit v = true
    · exact ⟨s - 2 ^ x, sub_lt hsn, by omega, hsv, fun j hj _ => hj⟩
    · have hsv2 : s.testBit v = false := not_true fun hz => hsv ((hbit v).2 ⟨hz, hvx⟩)
      have hsy : s.testBit y = true := by
        rcases (seen_iff hc.ok s (by rw [hc.len]; exact hy)).1 ((W_iff hc.ok s1).1 s2 y (by rw [hc.len]; exact hy)) with z | ⟨i, _, z1, z⟩
        · exact z
        · rw [hly i (hc.below.sub y i hy z), hsv2] at z1; cases z1
      have hsy2 : (s - 2 ^ x).testBit y = true := (hbit y).2 ⟨hsy, hxy.symm⟩
      have h1 := (bits_sub (s - 2 ^ x) (lt64 h (sub_lt hsn)) y (by omega) hsy2).2.2.1
      have h2 := size_or_one h (sub_lt (k := y) (sub_lt (k := x) hsn)) hv
      refine ⟨(s - 2 ^ x - 2 ^ y) ||| 2 ^ v, or_lt (sub_lt (sub_lt hsn)) hv, by omega, (or_testBit _ _ _).2 (.inr rfl), fun j hj hne => (or_testBit _ _ _).2 (.inl ?_)⟩
      rw [sub_testBit (lt64 h (sub_lt hsn)) (by omega) hsy2, hj]; simp [hne]
  obtain ⟨t, t1, t2, t3, t4⟩ := hex
  have := ha.le t t1 ((W_iff h t1).2 fun j hj => (seen_balls h t1).2 (by
    by_cases hjx : j = x
    · exact ⟨v, hv, t3, (ball_testBit _ _ _).2 (.inl (by rw [hjx]; exact hc.wire))⟩
    · by_cases hjy : j = y
      · exact ⟨v, hv, t3, (ball_testBit _ _ _).2 (.inl (by rw [hjy]; exact hvy))⟩
      · obtain ⟨k, k1, k2, k3⟩ := (seen_balls hc.ok s1).1 ((W_iff hc.ok s1).1 s2 j (by rw [hc.len]; exact hj))
        rw [hc.len] at k1
        have k4 : (ball net k).testBit j = true := (ball_testBit _ _ _).2 (((ball_testBit _ _ _).1 k3).imp (hc.below.sub k j k1) id)
        by_cases hkx : k = x
        · rw [hkx] at k3
          rcases (ball_testBit _ _ _).1 k3 with z | z
          · rw [hox, Nat.zero_testBit] at z; cases z
          · exact absurd z.symm hjx
        · by_cases hky : k = y
          · rw [hky] at k4
            rcases (ball_testBit _ _ _).1 k4 with z | z
            · exact ⟨v, hv, t3, by rw [hly j z]; exact sees_self net v⟩
            · exact absurd z.symm hjy
          · exact ⟨k, k1, t4 k ((hbit k).2 ⟨k2, hkx⟩) hky, k4⟩))
  omega
/-- In a forest with a wire some place has leaves, and at most one neighbour that is none. -/
theorem forest_leaf {net : List Int} (h : Ok net) {s : Nat} (hp : Peel net s) : s < 2 ^ net.length → (∀ i j, i < net.length → j < net.length → s.testBit i = false → s.testBit j = false → (nb net i).testBit j = false) →
    (∀ i, i < net.length → s.testBit i = false → size (nb net i &&& s) ≤ 1) → (∃ i j, i < net.length ∧ (nb net i).testBit j = true) →
    ∃ v x, v < net.length ∧ x < net.length ∧ (nb net v).testBit x = true ∧ (∀ j, (nb net x).testBit j = true → j = v) ∧ ∃ w, ∀ y, (nb net v).testBit y = true → (∀ j, (nb net y).testBit j = true → j = v) ∨ y = w := by
  induction hp with
  | zero =>
    intro _ hno _ ⟨i, j, hi, hj⟩
    rw [hno i j hi (h.nb_lt hi hj) (Nat.zero_testBit i) (Nat.zero_testBit j)] at hj; cases hj
  | @step s k hk hone hp ih =>
    intro hs hno hout hex
    have h6 := h.hi
    have h64 := h.pow
    have hkl := in_lt hs hk
    have hsub : ∀ j, (s - 2 ^ k).testBit j = true ↔ s.testBit j = true ∧ j ≠ k := fun j => by
      rw [sub_testBit (lt64 h hs) (by omega) hk]; simp
    have hsubf : ∀ j, (s - 2 ^ k).testBit j = false → s.testBit j = false ∨ j = k := fun j hj => by
      cases hb : s.testBit j with
      | false => exact .inl rfl
      | true =>
        by_cases he : j = k
        · exact .inr he
        · rw [(hsub j).2 ⟨hb, he⟩] at hj; cases hj
    by_cases hx : ∃ x, (nb net k).testBit x = true ∧ s.testBit x = false
    · obtain ⟨x, x1, x2⟩ := hx
      have hxl := h.nb_lt hkl x1
      -- who went ahead of k has k alone
      have leaf : ∀ y, (nb net k).testBit y = true → s.testBit y = false → ∀ j, (nb net y).testBit j = true → j = k := fun y y1 y2 j hj => by
        have hyl := h.nb_lt hkl y1
        have hjl := h.nb_lt hyl hj
        cases hsj : s.testBit j with
        | false => rw [hno y j hyl hjl y2 hsj] at hj; cases hj
        | true =>
          have hlt : nb net y &&& s < 64 := Nat.lt_of_le_of_lt Nat.and_le_right (by omega)
          exact (le_one hlt).1 (hout y hyl y2) j k (by rw [Nat.testBit_and, hj, hsj]; rfl) (by rw [Nat.testBit_and, hk, Bool.and_true, h.sym k y hkl hyl]; exact y1)
      by_cases hw : ∃ w, (nb net k).testBit w = true ∧ s.testBit w = true
      · obtain ⟨w, w1, w2⟩ := hw
        refine ⟨k, x, hkl, hxl, x1, leaf x x1 x2, w, fun y hy => ?_⟩
        cases hsy : s.testBit y with
        | false => exact .inl (leaf y hy hsy)
        | true =>
          have hlt : nb net k &&& s < 64 := Nat.lt_of_le_of_lt Nat.and_le_right (by omega)
          exact .inr ((le_one hlt).1 hone y w (by rw [Nat.testBit_and, hy, hsy]; rfl) (by rw [Nat.testBit_and, w1, w2]; rfl))
      · refine ⟨k, x, hkl, hxl, x1, leaf x x1 x2, 0, fun y hy => ?_⟩
        cases hsy : s.testBit y with
        | false => exact .inl (leaf y hy hsy)
        | true => exact absurd ⟨y, hy, hsy⟩ hw
    · refine ih (sub_lt hs) (fun i j hi hj hbi hbj => ?_) (fun i hi hbi => ?_) hex
      · rcases hsubf i hbi with a | a <;> rcases hsubf j hbj with b | b
        · exact hno i j hi hj a b
        · rw [b, h.sym k i hkl hi]
          exact not_true fun hz => hx ⟨i, hz, a⟩
        · rw [a]
          exact not_true fun hz => hx ⟨j, hz, b⟩
        · rw [a, b]; exact h.irr k hkl
      · have hm := and_mono_size (a := nb net i) (s := s - 2 ^ k) (t := s) (fun j hj => ((hsub j).1 hj).1)
        rcases hsubf i hbi with a | a
        · have := hout i hi a; omega
        · rw [a] at hm ⊢; omega
end Go.Proofs.Ytlamfgocbekgpaa
/- Two guards at a place, and a guard that leaves: plain facts. Conditions: those of each theorem. -/
namespace Go.Proofs.Ytlamfgocbekgpaa
set_option linter.unusedVariables false
set_option linter.unusedSimpArgs false

/-! ### Rows of small numbers -/
/-- The places with at least m guards. -/
def withN (n : Nat) (r : Nat → Nat) (m : Nat) : Nat := orN n (fun k => decide (m ≤ r k)) (fun k => 2 ^ k)
/-- The digits of a number to the base three, the first one ahead. -/
def dig (n m k : Nat) : Nat := m / 3 ^ (n - 1 - k) % 3
theorem dig_lt (n m k : Nat) : dig n m k ≤ 2 := by unfold dig; omega
theorem dig_last (n m : Nat) : dig (n + 1) m n = m % 3 := by
  unfold dig
  rw [show n + 1 - 1 - n = 0 by omega]; simp
theorem dig_ahead {n m k : Nat} (hk : k < n) : dig (n + 1) m k = dig n (m / 3) k := by
  unfold dig
  rw [show n + 1 - 1 - k = (n - 1 - k) + 1 by omega, Nat.pow_succ, Nat.mul_comm, ← Nat.div_div_eq_div_mul]
/-- Each row is one of the rows that are counted up. -/
theorem dig_all {n : Nat} {r : Nat → Nat} (hr : ∀ k, k < n → r k ≤ 2) : ∃ m, m < 3 ^ n ∧ ∀ k, k < n → dig n m k = r k := by
  induction n with
  | zero => exact ⟨0, by simp, fun k hk => by omega⟩
  | succ n ih =>
    obtain ⟨m, hm, hd⟩ := ih (fun k hk => hr k (by omega))
    have h2 := hr n (by omega)
    refine ⟨3 * m + r n, by rw [Nat.pow_succ]; omega, fun k hk => ?_⟩
    by_cases hkn : k = n
    · rw [hkn, dig_last]; omega
    · rw [dig_ahead (by omega), show (3 * m + r n) / 3 = m by omega]
      exact hd k (by omega)
/-- So few guards a row of a kind can have. -/
structure MinRow (n : Nat) (p : (Nat → Nat) → Prop) (m : Nat) : Prop where
  ex : ∃ r, (∀ k, k < n → r k ≤ 2) ∧ p r ∧ sumN n r = m
  le : ∀ r, (∀ k, k < n → r k ≤ 2) → p r → m ≤ sumN n r
theorem MinRow.uniq {n : Nat} {p : (Nat → Nat) → Prop} {a b : Nat} (ha : MinRow n p a) (hb : MinRow n p b) : a = b := by
  obtain ⟨r, h1, h2, h3⟩ := ha.ex
  obtain ⟨q, g1, g2, g3⟩ := hb.ex
  have := ha.le q g1 g2
  have := hb.le r h1 h2
  omega
def RomanP (net : List Int) (r : Nat → Nat) : Prop := ∀ k, k < net.length → r k = 0 → ∃ j, j < net.length ∧ (nb net k).testBit j = true ∧ 2 ≤ r j
def help (net : List Int) (r : Nat → Nat) (k : Nat) : Nat := sumN net.length (fun j => ((nb net k).testBit j).toNat * r j)
def ItalianP (net : List Int) (r : Nat → Nat) : Prop := ∀ k, k < net.length → r k = 0 → 2 ≤ help net r k
/-- The row of a set: two at its places, one where it does not see. -/
def rowOfN (net : List Int) (s k : Nat) : Nat := if s.testBit k = true then 2 else if (seen net s).testBit k = true then 0 else 1
/-! ### A guard that leaves -/
def moved (s f t : Nat) : Nat := (s - 2 ^ f) ||| 2 ^ t
/-- A guard next to a place can go there, and all is watched. -/
def Can (net : List Int) (s t : Nat) : Prop := ∃ f, s.testBit f = true ∧ (nb net t).testBit f = true ∧ W net (moved s f t) = true
def Secure (net : List Int) (s : Nat) : Prop := W net s = true ∧ ∀ k, k < net.length → s.testBit k = false → Can net s k
/-- The row behind a guard's move. -/
def leave (r : Nat → Nat) (f t k : Nat) : Nat := if k = t then 1 else if k = f then r f - 1 else r k
def WeakP (net : List Int) (r : Nat → Nat) : Prop := ∀ k, k < net.length → r k = 0 → ∃ f, f < net.length ∧ 1 ≤ r f ∧ (nb net k).testBit f = true ∧ W net (withN net.length (leave r f k) 1) = true
end Go.Proofs.Ytlamfgocbekgpaa
/- Guards that answer for ever, one at a time: plain facts. Conditions: those of each theorem. -/
namespace Go.Proofs.Ytlamfgocbekgpaa
set_option linter.unusedVariables false
set_option linter.unusedSimpArgs false

/-- A family of sets that can answer each place by one move, and be in the family again. -/
def Closed1 (net : List Int) (F : Nat → Prop) : Prop := ∀ t, t < 2 ^ net.length → F t → ∀ k, k < net.length → t.testBit k = false → ∃ f, t.testBit f = true ∧ (nb net k).testBit f = true ∧ F (moved t f k)
def Eternal (net : List Int) (s : Nat) : Prop := ∃ F, Closed1 net F ∧ F s
end Go.Proofs.Ytlamfgocbekgpaa
/- Cliques: plain facts. Conditions: those of each theorem. -/
namespace Go.Proofs.Ytlamfgocbekgpaa
set_option linter.unusedVariables false
set_option linter.unusedSimpArgs false

/-- Places with the same number are neighbours. -/
def CliqueP (net : List Int) (c : Nat → Nat) : Prop := ∀ i j, i < net.length → j < net.length → c i = c j → i ≠ j → (nb net i).testBit j = true
/-- At most so many cliques have all places. -/
def InCliques (net : List Int) (m : Nat) : Prop := ∃ c : Nat → Nat, CliqueP net c ∧ ∀ i, i < net.length → c i < m
/-- One guard in each clique that has a place. -/
def OneEach (net : List Int) (c : Nat → Nat) (s : Nat) : Prop := ∀ k, k < net.length → ∃ g, g < net.length ∧ s.testBit g = true ∧ c g = c k
/-- All places are alone in a clique each. -/
theorem cliques_all (net : List Int) : InCliques net net.length := ⟨fun i => i, fun i j _ _ he hne => absurd he hne, fun i hi => hi⟩
def Clique (net : List Int) (s : Nat) : Prop := ∀ i j, s.testBit i = true → s.testBit j = true → i ≠ j → (nb net i).testBit j = true
end Go.Proofs.Ytlamfgocbekgpaa
/- Cliques of forests: as many as are apart. Conditions: those of each theorem. -/
namespace Go.Proofs.Ytlamfgocbekgpaa
set_option linter.unusedVariables false
set_option linter.unusedSimpArgs false

end Go.Proofs.Ytlamfgocbekgpaa
/- Rows of cliques and of shares: plain facts. Conditions: those of each theorem. -/
namespace Go.Proofs.Ytlamfgocbekgpaa
open D Go.RowKit
set_option linter.unusedVariables false
set_option linter.unusedSimpArgs false

/-- The places with a number. -/
def setL (r : List Nat) (v : Nat) : Nat := orN r.length (fun k => decide (r.getD k 0 = v)) (fun k => 2 ^ k)
theorem setL_bit {r : List Nat} {v j : Nat} : (setL r v).testBit j = true ↔ j < r.length ∧ r.getD j 0 = v := by
  unfold setL
  rw [orN_testBit]
  constructor
  · rintro ⟨k, hk, a, b⟩
    rw [testBit_pow, decide_eq_true_eq] at b
    subst b
    exact ⟨hk, by simpa using a⟩
  · rintro ⟨a, b⟩
    exact ⟨j, a, by simpa using b, by rw [testBit_pow]; simp⟩
def CliqueL (net : List Int) (r : List Nat) : Prop := ∀ i j, i < r.length → j < r.length → i ≠ j → r.getD i 0 = r.getD j 0 → (nb net i).testBit j = true
theorem CliqueL.nil (net : List Int) : CliqueL net [] := fun i j hi => by simp at hi
theorem CliqueL.sets {net : List Int} {r : List Nat} (h : CliqueL net r) (v : Nat) : Clique net (setL r v) := fun i j hi hj hne => by
  obtain ⟨a, b⟩ := setL_bit.1 hi
  obtain ⟨c, d⟩ := setL_bit.1 hj
  exact h i j a c hne (by omega)
theorem CliqueL.append {net : List Int} {r : List Nat} {v : Nat} : CliqueL net (r ++ [v]) ↔ CliqueL net r ∧ Clique net (setL (r ++ [v]) v) := by
  constructor
  · intro h
    refine ⟨fun i j hi hj hne he => h i j (by simp; omega) (by simp; omega) hne (by rw [getD_app_lt hi, getD_app_lt hj]; exact he), h.sets v⟩
  · rintro ⟨h1, h2⟩ i j hi hj hne he
    simp only [List.length_append, List.length_singleton] at hi hj
    by_cases a : i < r.length
    · by_cases b : j < r.length
      · rw [getD_app_lt a, getD_app_lt b] at he
        exact h1 i j a b hne he
      · obtain rfl : j = r.length := by omega
        rw [getD_app_lt a, getD_app_end] at he
        exact h2 i r.length (setL_bit.2 ⟨by simp; omega, by rw [getD_app_lt a]; exact he⟩) (setL_bit.2 ⟨by simp, getD_app_end r v⟩) hne
    · obtain rfl : i = r.length := by omega
      have b : j < r.length := by omega
      rw [getD_app_lt b, getD_app_end] at he
      exact h2 r.length j (setL_bit.2 ⟨by simp, getD_app_end r v⟩) (setL_bit.2 ⟨by simp; omega, by rw [getD_app_lt b]; exact he.symm⟩) hne
theorem CliqueL.pre {net : List Int} {r q : List Nat} (h : CliqueL net q) (hp : r <+: q) : CliqueL net r := fun i j hi hj hne he => by
  have hl := hp.length_le
  exact h i j (by omega) (by omega) hne (by rw [pre_at hp hi, pre_at hp hj]; exact he)
/-- A row of at most so many cliques. -/
structure CRow (net : List Int) (m : Nat) (q : List Nat) : Prop where
  len : q.length = net.length
  rg : RG q
  le : nx q ≤ m
  cl : CliqueL net q
/-- In a row that counts up each number is there. -/
theorem RG.all {r : List Nat} (h : RG r) : ∀ v, v < nx r → ∃ k, k < r.length ∧ r.getD k 0 = v := by
  have key : ∀ m, m ≤ r.length → ∀ v, v < nx (r.take m) → ∃ k, k < m ∧ r.getD k 0 = v := by
    intro m
    induction m with
    | zero => intro _ v hv; simp [nx] at hv
    | succ m ih =>
      intro hm v hv
      rw [nx_take_succ (by omega)] at hv
      by_cases hlt : v < nx (r.take m)
      · obtain ⟨k, hk, e⟩ := ih (by omega) v hlt
        exact ⟨k, by omega, e⟩
      · have := h m (by omega)
        exact ⟨m, by omega, by omega⟩
  intro v hv
  exact key r.length (Nat.le_refl _) v (by rwa [List.take_length])
/-- So few cliques have all places. -/
structure MinCl (net : List Int) (m : Nat) : Prop where
  ex : InCliques net m
  le : ∀ k, InCliques net k → m ≤ k
theorem MinCl.uniq {net : List Int} {a b : Nat} (ha : MinCl net a) (hb : MinCl net b) : a = b := Nat.le_antisymm (ha.le b hb.ex) (hb.le a ha.ex)
theorem minCl_ex (net : List Int) : ∃ m, m ≤ net.length ∧ MinCl net m := by
  have key : ∀ b, InCliques net b → ∃ m, m ≤ b ∧ MinCl net m := by
    intro b
    induction b using Nat.strongRecOn with
    | _ b ih =>
      intro hb
      by_cases hex : ∃ k, k < b ∧ InCliques net k
      · obtain ⟨k, hk, hi⟩ := hex
        obtain ⟨m, hm, hM⟩ := ih k hk hi
        exact ⟨m, by omega, hM⟩
      · exact ⟨b, Nat.le_refl _, hb, fun k hk => Nat.not_lt.1 fun hlt => hex ⟨k, hlt, hk⟩⟩
  exact key _ (cliques_all net)
noncomputable def fewestCl (net : List Int) : Nat := (minCl_ex net).choose
end Go.Proofs.Ytlamfgocbekgpaa
/- Watches that share the places, a net and its other net: plain facts. Conditions: those of each theorem. -/
namespace Go.Proofs.Ytlamfgocbekgpaa
set_option linter.unusedVariables false
set_option linter.unusedSimpArgs false

/-- All places shared out among so many watches. -/
def SharesP (net : List Int) (c : Nat → Nat) (m : Nat) : Prop := (∀ i, i < net.length → c i < m) ∧ ∀ q, q < m → ∀ j, j < net.length → ∃ i, i < net.length ∧ c i = q ∧ (ball net j).testBit i = true
def InShares (net : List Int) (m : Nat) : Prop := ∃ c : Nat → Nat, SharesP net c m
/-- The places with a number. -/
def classOf (n : Nat) (c : Nat → Nat) (q : Nat) : Nat := orN n (fun k => c k == q) (fun k => 2 ^ k)
/-! ### The other net -/
/-- Just those are neighbours that are not in the net. -/
structure Other (net o : List Int) : Prop where
  ok : Ok o
  len : o.length = net.length
  bit : ∀ i j, i < net.length → j < net.length → (nb o i).testBit j = (!decide (i = j) && !(nb net i).testBit j)
/-- Each place by a guard of the watch that sees it. -/
structure Served (net : List Int) (D : Nat) (p : Nat → Nat) : Prop where
  mem : ∀ v, v < net.length → D.testBit (p v) = true
  sees : ∀ v, v < net.length → (ball net (p v)).testBit v = true
  own : ∀ d, D.testBit d = true → p d = d
/-- Who sees all that are served with it. -/
noncomputable def univ (net : List Int) (p : Nat → Nat) (v : Nat) : Bool := @decide (∀ u, u < net.length → p u = p v → (ball net v).testBit u = true) (Classical.propDecidable _)
end Go.Proofs.Ytlamfgocbekgpaa
/- The other net. Conditions: those of each theorem. -/
namespace Go.Proofs.Ytlamfgocbekgpaa
open D Go.RowKit
set_option linter.unusedVariables false
set_option linter.unusedSimpArgs false

def otherN (net : List Int) : List Int := (List.range net.length).map fun k => ((minus (allOf net) (ball net k) : Nat) : Int)
theorem otherN_len (net : List Int) : (otherN net).length = net.length := by simp [otherN]
theorem otherN_eli {net : List Int} {k : Nat} (hk : k < net.length) : D.eli (otherN net) k = ((minus (allOf net) (ball net k) : Nat) : Int) := by unfold D.eli otherN; simp [List.getD, hk]
theorem otherN_nb {net : List Int} {k : Nat} (hk : k < net.length) : nb (otherN net) k = minus (allOf net) (ball net k) := by
  show (D.eli (otherN net) k).toNat = _
  rw [otherN_eli hk]; omega
theorem otherN_bit {net : List Int} (h : Ok net) {i : Nat} (hi : i < net.length) (j : Nat) : (nb (otherN net) i).testBit j = (decide (j < net.length) && (!decide (i = j) && !(nb net i).testBit j)) := by
  have h64 := h.pow
  have ha := allOf_lt net
  have hb := h.ball_lt hi
  rw [otherN_nb hi, minus_testBit _ _ (by omega) (by omega), allOf_testBit]
  congr 1
  unfold ball
  rw [Nat.testBit_or, testBit_pow, Bool.not_or, Bool.and_comm]
theorem otherN_ok {net : List Int} (h : Ok net) : Ok (otherN net) := by
  have hl := otherN_len net
  refine ⟨by rw [hl]; exact h.lo, by rw [hl]; exact h.hi, fun k hk => ?_, fun k hk => ?_, fun j k hj hk => ?_, fun k hk => ?_⟩
  · rw [hl] at hk
    show D.eli (otherN net) k = ((D.eli (otherN net) k).toNat : Int)
    rw [otherN_eli hk]; omega
  · rw [hl] at hk ⊢
    rw [otherN_nb hk]
    exact Nat.lt_of_le_of_lt Nat.and_le_left (allOf_lt net)
  · rw [hl] at hj hk
    rw [otherN_bit h hk, otherN_bit h hj, h.sym j k hj hk]
    have e : decide (k = j) = decide (j = k) := by rw [decide_eq_decide]; exact ⟨Eq.symm, Eq.symm⟩
    rw [decide_eq_true hj, decide_eq_true hk, e]
  · rw [hl] at hk
    rw [otherN_bit h hk]; simp
/-- Nets with the same neighbours are the same. -/
theorem nets_eq {net o : List Int} (h : Ok net) (ho : Ok o) (hl : o.length = net.length) (hb : ∀ i j, i < net.length → j < net.length → (nb o i).testBit j = (nb net i).testBit j) : o = net := by
  refine List.ext_getElem hl fun k h1 h2 => ?_
  have e1 := ho.eli h1
  have e2 := h.eli h2
  have e3 : nb o k = nb net k := eq_of_bits (n := net.length) (by rw [← hl]; exact ho.lt k h1) (h.lt k h2) fun j hj => hb k j h2 hj
  rw [e3, ← e2] at e1
  unfold D.eli at e1
  simpa [List.getD, h1, h2] using e1
end Go.Proofs.Ytlamfgocbekgpaa
/- Trees of wires: the places with one wire, and the sets that stand together, make all places. Conditions: those of each theorem. -/
namespace Go.Proofs.Ytlamfgocbekgpaa
set_option linter.unusedVariables false
set_option linter.unusedSimpArgs false

/-- A net of some of the wires. -/
structure Sub (net t : List Int) : Prop where
  ok : Ok t
  len : t.length = net.length
  sub : ∀ k j, k < net.length → (nb t k).testBit j = true → (nb net k).testBit j = true
/-- A tree: one part, of as few wires as can be. -/
structure Tree (net t : List Int) : Prop where
  sub : Sub net t
  one : parts t = 1
  wires_ : wires t + 1 = net.length
/-- How many places have one wire alone. -/
def leafs (t : List Int) : Nat := cnt t.length (fun k => size (nb t k) == 1)
/-- The places with more than one wire. -/
def inner (t : List Int) : Nat := orN t.length (fun k => !(size (nb t k) == 1)) (fun k => 2 ^ k)
/-! ### A tree over a joined watch -/
/-- After m steps from r within a set. -/
theorem steps_lvl {net : List Int} (h : Ok net) {s r : Nat} (hs : s < 2 ^ net.length) (hr : s.testBit r = true) (hT : Together net s) : ∃ lv : Nat → Nat, ∃ p : Nat → Nat, lv r = 0 ∧ ∀ v, s.testBit v = true → v ≠ r → s.testBit (p v) = true ∧ (nb net v).testBit (p v) = true ∧ lv (p v) < lv v ∧ lv v ≤ 6 := by
  have hrl := in_lt hs hr
  have h6 := h.hi
  have e0 : 2 ^ r &&& s = 2 ^ r := Nat.eq_of_testBit_eq fun j => by
    rw [Nat.testBit_and, testBit_pow]
    by_cases hxj : r = j
    · rw [← hxj, hr]; simp
    · simp [hxj]
  let L := fun m k => (steps net s m (2 ^ r)).testBit k
  have mono1 : ∀ m k, L m k = true → L (m + 1) k = true := fun m k hk => (grow_testBit _ _ _ _).2 (.inl hk)
  have mono : ∀ m m' k, m ≤ m' → L m k = true → L m' k = true := by
    intro m m' k hm hk
    induction m' with
    | zero => obtain rfl : m = 0 := by omega
              exact hk
    | succ m' ih =>
      by_cases he : m = m' + 1
      · rw [← he]; exact hk
      · exact mono1 m' k (ih (by omega))
  let lv := fun k => cnt 6 (fun m => !L m k)
  have six : ∀ v, s.testBit v = true → L 6 v = true := fun v hv => by
    have hx : (part net s r).testBit v = true := (h.part_testBit hrl v).2 (hT.2 r v hr hv)
    unfold part at hx
    rw [e0] at hx
    exact hx
  have hp : ∀ v, ∃ j, s.testBit v = true → v ≠ r → s.testBit j = true ∧ (nb net v).testBit j = true ∧ lv j < lv v := fun v => by
    by_cases hv : s.testBit v = true ∧ v ≠ r
    · have h0 : L 0 v = false := by
        show (2 ^ r).testBit v = false
        rw [testBit_pow]; simp; exact fun he => hv.2 he.symm
      have hex : ∀ m, m ≤ 6 → L m v = true → ∃ q, q < m ∧ L q v = false ∧ L (q + 1) v = true := by
        intro m
        induction m with
        | zero => intro _ hb; rw [h0] at hb; cases hb
        | succ m ih =>
          intro hm hb
          cases hc : L m v with
          | false => exact ⟨m, by omega, hc, hb⟩
          | true => obtain ⟨q, a, b⟩ := ih (by omega) hc; exact ⟨q, by omega, b⟩
      obtain ⟨q, hq, hqf, hqt⟩ := hex 6 (Nat.le_refl _) (six v hv.1)
      rcases (grow_testBit _ _ _ _).1 hqt with c1 | ⟨⟨j, hj, c1, c2⟩, _⟩
      · have : L q v = true := c1
        rw [hqf] at this; cases this
      · have hjs : s.testBit j = true := by
          have := steps_reach (net := net) (A := s) (i := r) q (j := j) (by rw [e0]; exact c1)
          exact this.among.2
        have hvl := in_lt hs hv.1
        refine ⟨j, fun _ _ => ⟨hjs, by rw [h.sym j v hj hvl]; exact c2, ?_⟩⟩
        have hjl : L q j = true := c1
        have h1 : lv j ≤ q := by
          have := cnt_mono (n := 6) (p := fun m => !L m j) (q := fun i => decide (i < q)) (fun m hm hp => by
            have hp' : L m j = false := by simpa using hp
            rw [decide_eq_true_eq]
            refine Classical.byContradiction fun hc => ?_
            rw [mono q m j (by omega) hjl] at hp'; cases hp')
          rw [cnt_below 6 q (by omega)] at this
          exact this
        have h2 : q + 1 ≤ lv v := by
          have := cnt_mono (n := 6) (p := fun i => decide (i < q + 1)) (q := fun m => !L m v) (fun m hm hp => by
            have hp' : m < q + 1 := by simpa using hp
            cases hx : L m v with
            | false => rfl
            | true => rw [mono m q v (by omega) hx] at hqf; cases hqf)
          rw [cnt_below 6 (q + 1) (by omega)] at this
          exact this
        omega
    · exact ⟨0, fun a b => absurd ⟨a, b⟩ hv⟩
  refine ⟨lv, fun v => Classical.choose (hp v), ?_, fun v hv hne => ?_⟩
  · show cnt 6 (fun m => !L m r) = 0
    have : cnt 6 (fun m => !L m r) = cnt 6 (fun _ => false) := cnt_congr fun m _ => by
      have : L m r = true := mono 0 m r (by omega) (by show (2 ^ r).testBit r = true; rw [testBit_pow]; simp)
      rw [this]; rfl
    rw [this]; rfl
  · obtain ⟨a, b, c⟩ := Classical.choose_spec (hp v) hv hne
    exact ⟨a, b, c, cnt_le _ _⟩
/-- The net of the wires from each place but r to its parent. -/
def treeOf (n r : Nat) (p : Nat → Nat) : List Int := (List.range n).map fun k => ((orN n (fun j => (!(k == r) && (p k == j)) || (!(j == r) && (p j == k))) (fun j => 2 ^ j) : Nat) : Int)
end Go.Proofs.Ytlamfgocbekgpaa
/- The wires of a net in a row, and the nets of some of them. Conditions: those of each theorem. -/
namespace Go.Proofs.Ytlamfgocbekgpaa
set_option linter.unusedVariables false
set_option linter.unusedSimpArgs false

def pairStep (net : List Int) (k : Nat) (t : List (Nat × Nat)) (i : Nat) : List (Nat × Nat) := if (nb net k).testBit (k + 1 + i) = true then t ++ [(k, k + 1 + i)] else t
def pairRow (net : List Int) (t : List (Nat × Nat)) (k : Nat) : List (Nat × Nat) := fold (net.length - (k + 1)) (pairStep net k) t
def pairs (net : List Int) : List (Nat × Nat) := fold net.length (pairRow net) []
def bound15 (k : Nat) : Nat := k * (11 - k) / 2
def RowI (net : List Int) (k i : Nat) (t : List (Nat × Nat)) : Prop :=
  (∀ a b, (a, b) ∈ t ↔ ((a < k ∧ a < b ∧ b < net.length) ∨ (a = k ∧ k < b ∧ b < k + 1 + i)) ∧ (nb net a).testBit b = true) ∧ t.Nodup ∧ t.length ≤ bound15 k + i
theorem snoc_nodup {α : Type} {t : List α} {x : α} (h : t.Nodup) (hx : x ∉ t) : (t ++ [x]).Nodup := by
  rw [List.nodup_append]
  refine ⟨h, by simp, fun a ha b hb => ?_⟩
  have := List.mem_singleton.1 hb
  subst this
  exact fun e => hx (e ▸ ha)
theorem row_step {net : List Int} {k i : Nat} {t : List (Nat × Nat)} (hi : i < net.length - (k + 1)) (h : RowI net k i t) : RowI net k (i + 1) (pairStep net k t i) := by
  obtain ⟨h1, h2, h3⟩ := h
  unfold pairStep
  by_cases hb : (nb net k).testBit (k + 1 + i) = true
  · rw [if_pos hb]
    refine ⟨fun a b => ?_, snoc_nodup h2 fun hm => ?_, by rw [List.length_append]; simp; omega⟩
    · rw [List.mem_append, h1, List.mem_singleton, Prod.mk.injEq]
      constructor
      · rintro (⟨hab, hc⟩ | ⟨rfl, rfl⟩)
        · exact ⟨by omega, hc⟩
        · exact ⟨by omega, hb⟩
      · rintro ⟨hab, hc⟩
        by_cases he : a = k ∧ b = k + 1 + i
        · exact .inr he
        · exact .inl ⟨by omega, hc⟩
    · have := ((h1 _ _).1 hm).1
      omega
  · rw [if_neg hb]
    refine ⟨fun a b => ?_, h2, by omega⟩
    rw [h1]
    constructor
    · rintro ⟨hab, hc⟩; exact ⟨by omega, hc⟩
    · rintro ⟨hab, hc⟩
      by_cases he : a = k ∧ b = k + 1 + i
      · rw [he.1, he.2] at hc; exact absurd hc hb
      · exact ⟨by omega, hc⟩
theorem row_row {net : List Int} {k : Nat} {t : List (Nat × Nat)} (hk : k < net.length) (h6 : net.length ≤ 6) (h : RowI net k 0 t) : RowI net (k + 1) 0 (pairRow net t k) := by
  have key : ∀ i, i ≤ net.length - (k + 1) → RowI net k i (fold i (pairStep net k) t) := by
    intro i
    induction i with
    | zero => exact fun _ => h
    | succ i ih => intro hi; rw [fold_succ]; exact row_step (by omega) (ih (by omega))
  obtain ⟨h1, h2, h3⟩ := key _ (Nat.le_refl _)
  have hb : ∀ k, k < 6 → bound15 k + (5 - k) ≤ bound15 (k + 1) := by decide
  have := hb k (by omega)
  refine ⟨fun a b => ?_, h2, by unfold pairRow; omega⟩
  show (a, b) ∈ fold (net.length - (k + 1)) (pairStep net k) t ↔ _
  rw [h1]
  constructor
  · rintro ⟨hab, hc⟩; exact ⟨by omega, hc⟩
  · rintro ⟨hab, hc⟩; exact ⟨by omega, hc⟩
theorem pairs_is {net : List Int} (h6 : net.length ≤ 6) : (∀ a b, (a, b) ∈ pairs net ↔ a < b ∧ b < net.length ∧ (nb net a).testBit b = true) ∧ (pairs net).Nodup ∧ (pairs net).length ≤ 15 := by
  have key : ∀ k, k ≤ net.length → RowI net k 0 (fold k (pairRow net) []) := by
    intro k
    induction k with
    | zero => exact fun _ => ⟨fun a b => ⟨fun hm => (by cases hm), fun hm => (by omega)⟩, List.nodup_nil, Nat.zero_le _⟩
    | succ k ih => intro hk; rw [fold_succ]; exact row_row (by omega) h6 (ih (by omega))
  obtain ⟨h1, h2, h3⟩ := key _ (Nat.le_refl _)
  have hb : ∀ k, k ≤ 6 → bound15 k ≤ 15 := by decide
  have := hb _ h6
  refine ⟨fun a b => ?_, h2, by unfold pairs; omega⟩
  show (a, b) ∈ fold net.length (pairRow net) [] ↔ _
  rw [h1]
  constructor
  · rintro ⟨hab, hc⟩; exact ⟨by omega, by omega, hc⟩
  · rintro ⟨x, y, hc⟩; exact ⟨by omega, hc⟩
def pt (L : List (Nat × Nat)) (i : Nat) : Nat × Nat := L.getD i (0, 0)
theorem pt_mem {L : List (Nat × Nat)} {i : Nat} (hi : i < L.length) : pt L i ∈ L := by unfold pt; simp [List.getD, hi]
theorem mem_pt {L : List (Nat × Nat)} {p : Nat × Nat} (hp : p ∈ L) : ∃ i, i < L.length ∧ pt L i = p := by
  obtain ⟨i, hi, e⟩ := List.getElem_of_mem hp
  exact ⟨i, hi, by unfold pt; simp [List.getD, hi, e]⟩
theorem pt_inj {L : List (Nat × Nat)} (h : L.Nodup) {i j : Nat} (hi : i < L.length) (hj : j < L.length) (e : pt L i = pt L j) : i = j := by
  unfold pt at e
  simp only [List.getD, List.getElem?_eq_getElem hi, List.getElem?_eq_getElem hj, Option.getD_some] at e
  exact (List.getElem_inj h).1 e
/-- One wire more. -/
def addWire (T : List Int) (a b : Nat) : List Int := (T.set a ((nb T a ||| 2 ^ b : Nat) : Int)).set b ((nb (T.set a ((nb T a ||| 2 ^ b : Nat) : Int)) b ||| 2 ^ a : Nat) : Int)
def treeStep (L : List (Nat × Nat)) (x : Nat) (T : List Int) (i : Nat) : List Int := if x.testBit i = true then addWire T (pt L i).1 (pt L i).2 else T
def treeN (n : Nat) (L : List (Nat × Nat)) (x : Nat) : List Int := fold L.length (treeStep L x) (List.replicate n 0)
theorem el_set {T : List Int} {k : Nat} {v : Int} (hk : k < T.length) (j : Nat) : el (T.set k v) j = if j = k then v else el T j := by
  unfold el
  by_cases hj : j = k
  · subst hj; simp [List.getD, hk]
  · rw [if_neg hj]; simp [List.getD, List.getElem?_set, Ne.symm hj]
theorem nb_set {T : List Int} {k v : Nat} (hk : k < T.length) (j : Nat) : nb (T.set k (v : Int)) j = if j = k then v else nb T j := by
  unfold nb
  rw [el_set hk]
  split <;> simp
def TreeI (n : Nat) (L : List (Nat × Nat)) (x i : Nat) (T : List Int) : Prop :=
  T.length = n ∧ (∀ k, k < n → el T k = (nb T k : Int)) ∧ (∀ k j, k < n → ((nb T k).testBit j = true ↔ ∃ m, m < i ∧ x.testBit m = true ∧ (pt L m = (k, j) ∨ pt L m = (j, k)))) ∧ ends T = 2 * cnt i (fun m => x.testBit m)
/-- Which wires of the row a net has. -/
def selW (L : List (Nat × Nat)) (t : List Int) : Nat := orN L.length (fun i => (nb t (pt L i).1).testBit (pt L i).2) (fun i => 2 ^ i)
theorem cnt_more {n m : Nat} {p : Nat → Bool} (hnm : n ≤ m) (h : ∀ k, n ≤ k → p k = false) : cnt m p = cnt n p := by
  obtain ⟨d, rfl⟩ : ∃ d, m = n + d := ⟨m - n, by omega⟩
  clear hnm
  induction d with
  | zero => rfl
  | succ d ih =>
    show cnt (n + d) p + (p (n + d)).toNat = _
    rw [ih, h (n + d) (by omega)]; rfl
/-- The greatest number of leaves of a tree; -1 if there is none. -/
def LfMax (net : List Int) (m : Int) : Prop := (m = -1 ∧ ∀ t, ¬ Tree net t) ∨ ∃ k : Nat, m = (k : Int) ∧ (∃ t, Tree net t ∧ leafs t = k) ∧ ∀ t, Tree net t → leafs t ≤ k
theorem LfMax.uniq {net : List Int} {a b : Int} (ha : LfMax net a) (hb : LfMax net b) : a = b := by
  rcases ha with ⟨rfl, h1⟩ | ⟨k, rfl, ⟨t, h1, h2⟩, h3⟩
  · rcases hb with ⟨rfl, _⟩ | ⟨_, _, ⟨t, h, _⟩, _⟩
    · rfl
    · exact absurd h (h1 t)
  · rcases hb with ⟨_, h4⟩ | ⟨k', rfl, ⟨t', h4, h5⟩, h6⟩
    · exact absurd h1 (h4 t)
    · have := h3 t' h4
      have := h6 t h1
      omega
def goodB (net : List Int) (x : Nat) : Bool := cnt 15 (fun m => x.testBit m) + 1 == net.length && parts (treeN net.length (pairs net) x) == 1
def lfStep (net : List Int) (b : Int) (x : Nat) : Int := if goodB net x = true then (if ((leafs (treeN net.length (pairs net) x) : Nat) : Int) > b then ((leafs (treeN net.length (pairs net) x) : Nat) : Int) else b) else b
end Go.Proofs.Ytlamfgocbekgpaa
/- Wires turned: plain facts. Conditions: those of each theorem. -/
namespace Go.Proofs.Ytlamfgocbekgpaa
open D Go.RowKit
set_option linter.unusedVariables false
set_option linter.unusedSimpArgs false

/-- The wire of two places turned. -/
def turnN (T : List Int) (a b : Nat) : List Int := (T.set a ((nb T a ^^^ 2 ^ b : Nat) : Int)).set b ((nb (T.set a ((nb T a ^^^ 2 ^ b : Nat) : Int)) b ^^^ 2 ^ a : Nat) : Int)
theorem turn_len (T : List Int) (a b : Nat) : (turnN T a b).length = T.length := by simp [turnN]
theorem turn_nb {T : List Int} {a b : Nat} (ha : a < T.length) (hb : b < T.length) (hab : a ≠ b) (j : Nat) : nb (turnN T a b) j = if j = b then nb T b ^^^ 2 ^ a else if j = a then nb T a ^^^ 2 ^ b else nb T j := by
  unfold turnN
  rw [nb_set (by simpa using hb), nb_set ha, if_neg (Ne.symm hab), nb_set ha]
/-- Is it the wire of these two places? -/
def isW (a b i j : Nat) : Bool := decide (i = a ∧ j = b) || decide (i = b ∧ j = a)
theorem isW_iff {a b i j : Nat} : isW a b i j = true ↔ (i = a ∧ j = b) ∨ (i = b ∧ j = a) := by unfold isW; simp
theorem turn_bit {T : List Int} {a b : Nat} (ha : a < T.length) (hb : b < T.length) (hab : a ≠ b) (i j : Nat) : (nb (turnN T a b) i).testBit j = ((nb T i).testBit j ^^ isW a b i j) := by
  rw [turn_nb ha hb hab]
  unfold isW
  by_cases h1 : i = b
  · rw [if_pos h1, Nat.testBit_xor, testBit_pow]
    have e1 : decide (i = a ∧ j = b) = false := decide_eq_false (by omega)
    have e2 : decide (i = b ∧ j = a) = decide (a = j) := by rw [decide_eq_decide]; omega
    rw [e1, e2, h1, Bool.false_or]
  · rw [if_neg h1]
    by_cases h2 : i = a
    · rw [if_pos h2, Nat.testBit_xor, testBit_pow]
      have e1 : decide (i = a ∧ j = b) = decide (b = j) := by rw [decide_eq_decide]; omega
      have e2 : decide (i = b ∧ j = a) = false := decide_eq_false (by omega)
      rw [e1, e2, h2, Bool.or_false]
    · rw [if_neg h2]
      have e1 : decide (i = a ∧ j = b) = false := decide_eq_false (by omega)
      have e2 : decide (i = b ∧ j = a) = false := decide_eq_false (by omega)
      rw [e1, e2]; simp
theorem turn_ok {T : List Int} (h : Ok T) {a b : Nat} (ha : a < T.length) (hb : b < T.length) (hab : a ≠ b) : Ok (turnN T a b) := by
  have hl := turn_len T a b
  refine ⟨by rw [hl]; exact h.lo, by rw [hl]; exact h.hi, fun k hk => ?_, fun k hk => ?_, fun j k hj hk => ?_, fun k hk => ?_⟩
  · rw [hl] at hk
    rw [turn_nb ha hb hab]
    unfold turnN
    rw [el_set (by simpa using hb), el_set ha, nb_set ha, if_neg (Ne.symm hab)]
    by_cases h1 : k = b
    · rw [if_pos h1, if_pos h1]
    · rw [if_neg h1, if_neg h1]
      by_cases h2 : k = a
      · rw [if_pos h2, if_pos h2]
      · rw [if_neg h2, if_neg h2]; exact h.el k hk
  · rw [hl] at hk ⊢
    rw [turn_nb ha hb hab]
    split
    · exact Nat.xor_lt_two_pow (h.lt b hb) (Nat.pow_lt_pow_right (by omega) ha)
    · split
      · exact Nat.xor_lt_two_pow (h.lt a ha) (Nat.pow_lt_pow_right (by omega) hb)
      · exact h.lt k hk
  · rw [hl] at hj hk
    rw [turn_bit ha hb hab, turn_bit ha hb hab, h.sym j k hj hk]
    congr 1
    rw [Bool.eq_iff_iff, isW_iff, isW_iff]
    constructor
    · rintro (⟨x, y⟩ | ⟨x, y⟩)
      · exact .inr ⟨y, x⟩
      · exact .inl ⟨y, x⟩
    · rintro (⟨x, y⟩ | ⟨x, y⟩)
      · exact .inr ⟨y, x⟩
      · exact .inl ⟨y, x⟩
  · rw [hl] at hk
    have e : isW a b k k = false := not_true fun hx => by rcases isW_iff.1 hx with ⟨x, y⟩ | ⟨x, y⟩ <;> omega
    rw [turn_bit ha hb hab, h.irr k hk, e]; rfl
theorem isW_bit {T : List Int} (h : Ok T) {a b i j : Nat} (ha : a < T.length) (hb : b < T.length) (hx : isW a b i j = true) : (nb T i).testBit j = (nb T a).testBit b := by
  rcases isW_iff.1 hx with ⟨rfl, rfl⟩ | ⟨rfl, rfl⟩
  · rfl
  · exact h.sym _ _ ha hb
theorem turn_cut {T : List Int} (h : Ok T) {a b : Nat} (ha : a < T.length) (hb : b < T.length) (hab : a ≠ b) (hw : (nb T a).testBit b = true) : CutOf T (turnN T a b) a b :=
  ⟨turn_ok h ha hb hab, turn_len T a b, ha, hb, hw, fun i j hi hj => by
    rw [turn_bit ha hb hab]
    show _ = ((nb T i).testBit j && !isW a b i j)
    cases hx : isW a b i j with
    | false => simp
    | true => rw [isW_bit h ha hb hx, hw]; rfl⟩
theorem turn_join {T : List Int} (h : Ok T) {a b : Nat} (ha : a < T.length) (hb : b < T.length) (hab : a ≠ b) (hw : (nb T a).testBit b = false) : CutOf (turnN T a b) T a b := by
  have hl := turn_len T a b
  refine ⟨h, hl.symm, by rw [hl]; exact ha, by rw [hl]; exact hb, ?_, fun i j hi hj => ?_⟩
  · rw [turn_bit ha hb hab, hw, isW_iff.2 (.inl ⟨rfl, rfl⟩)]; rfl
  · rw [turn_bit ha hb hab]
    show _ = (((nb T i).testBit j ^^ isW a b i j) && !isW a b i j)
    cases hx : isW a b i j with
    | false => simp
    | true => rw [isW_bit h ha hb hx, hw]; rfl
/-! Sums over all pairs. -/
def dsum (n : Nat) (f : Nat → Nat → Nat) : Nat := sumN n fun i => sumN n (f i)
theorem dsum_congr {n : Nat} {f g : Nat → Nat → Nat} (h : ∀ i j, i < n → j < n → f i j = g i j) : dsum n f = dsum n g := sumN_congr fun i hi => sumN_congr fun j hj => h i j hi hj
theorem dsum_add (n : Nat) (f g : Nat → Nat → Nat) : dsum n (fun i j => f i j + g i j) = dsum n f + dsum n g := by
  unfold dsum
  rw [← sumN_add]
  exact sumN_congr fun i _ => sumN_add n (f i) (g i)
theorem dsum_swap (n : Nat) (f : Nat → Nat → Nat) : dsum n f = dsum n (fun i j => f j i) := sumN_swap n n f
theorem dsum_wires {net : List Int} (h : Ok net) : dsum net.length (fun i j => ((nb net i).testBit j).toNat) = 2 * wires net := by
  rw [← ends_wires h, ends_is h]; rfl
theorem dsum_one {n a b : Nat} (ha : a < n) (hb : b < n) : dsum n (fun i j => (decide (i = a ∧ j = b)).toNat) = 1 := by
  unfold dsum
  rw [sumN_one ha (fun i hi hne => by
    rw [sumN_congr (g := fun _ => 0) (fun j _ => by show (decide (i = a ∧ j = b)).toNat = 0; rw [decide_eq_false (by omega)]; rfl), sumN_zero])]
  rw [sumN_one hb (fun j hj hne => by show (decide (a = a ∧ j = b)).toNat = 0; rw [decide_eq_false (by omega)]; rfl)]
  simp
theorem dsum_isW {n a b : Nat} (ha : a < n) (hb : b < n) (hab : a ≠ b) : dsum n (fun i j => (isW a b i j).toNat) = 2 := by
  have e : dsum n (fun i j => (isW a b i j).toNat) = dsum n (fun i j => (decide (i = a ∧ j = b)).toNat + (decide (i = b ∧ j = a)).toNat) := dsum_congr fun i j _ _ => by
    unfold isW
    by_cases h1 : i = a ∧ j = b
    · rw [decide_eq_true h1, decide_eq_false (by omega)]; rfl
    · rw [decide_eq_false h1]; simp
  rw [e, dsum_add, dsum_one ha hb, dsum_one hb ha]
/-- What the wires of a net are more than those of a net below. -/
theorem below_wires {net o : List Int} (h : Ok net) (hb : BelowN net o) : 2 * wires net = 2 * wires o + dsum net.length (fun i j => ((nb net i).testBit j && !(nb o i).testBit j).toNat) := by
  have e1 := dsum_wires h
  have e2 := dsum_wires hb.ok
  rw [hb.len] at e2
  rw [← e1, ← e2, ← dsum_add]
  refine dsum_congr fun i j hi hj => ?_
  cases hn : (nb net i).testBit j with
  | true => cases (nb o i).testBit j <;> rfl
  | false =>
    cases ho : (nb o i).testBit j with
    | false => rfl
    | true => rw [hb.sub i j hi ho] at hn; cases hn
theorem cut_wires {net o : List Int} (h : Ok net) {a b : Nat} (hc : CutOf net o a b) : wires o + 1 = wires net := by
  have hne := hc.ne h
  have e := below_wires h hc.below
  have e2 : dsum net.length (fun i j => ((nb net i).testBit j && !(nb o i).testBit j).toNat) = dsum net.length (fun i j => (isW a b i j).toNat) := dsum_congr fun i j hi hj => by
    rw [hc.bit i j hi hj]
    show ((nb net i).testBit j && !((nb net i).testBit j && !isW a b i j)).toNat = _
    cases hx : isW a b i j with
    | false => cases (nb net i).testBit j <;> rfl
    | true => rw [isW_bit h hc.al hc.bl hx, hc.wire]; rfl
  rw [e2, dsum_isW hc.al hc.bl hne] at e
  omega
/-! Some wires of a row turned. -/
def selStep (P : List (Nat × Nat)) (x : Nat) (T : List Int) (k : Nat) : List Int := if x.testBit k = true then turnN T (pt P k).1 (pt P k).2 else T
def selN (net : List Int) (P : List (Nat × Nat)) (x : Nat) : List Int := fold P.length (selStep P x) net
def selB (P : List (Nat × Nat)) (x k i j : Nat) : Bool := (List.range k).any fun m => x.testBit m && isW (pt P m).1 (pt P m).2 i j
theorem selB_iff {P : List (Nat × Nat)} {x k i j : Nat} : selB P x k i j = true ↔ ∃ m, m < k ∧ x.testBit m = true ∧ isW (pt P m).1 (pt P m).2 i j = true := by
  unfold selB
  rw [List.any_eq_true]
  constructor
  · rintro ⟨m, hm, hx⟩; rw [Bool.and_eq_true] at hx; exact ⟨m, List.mem_range.1 hm, hx⟩
  · rintro ⟨m, hm, hx⟩; exact ⟨m, List.mem_range.2 hm, by rw [Bool.and_eq_true]; exact hx⟩
structure PairsOf (n : Nat) (P : List (Nat × Nat)) : Prop where
  nd : P.Nodup
  lt : ∀ k, k < P.length → (pt P k).1 < (pt P k).2 ∧ (pt P k).2 < n
theorem same_pair {n : Nat} {P : List (Nat × Nat)} (hP : PairsOf n P) {k m i j : Nat} (hk : k < P.length) (hm : m < P.length) (h1 : isW (pt P k).1 (pt P k).2 i j = true) (h2 : isW (pt P m).1 (pt P m).2 i j = true) : k = m := by
  have a1 := hP.lt k hk
  have a2 := hP.lt m hm
  refine pt_inj hP.nd hk hm ?_
  rcases isW_iff.1 h1 with ⟨p, q⟩ | ⟨p, q⟩ <;> rcases isW_iff.1 h2 with ⟨u, v⟩ | ⟨u, v⟩
  · exact Prod.ext (by omega) (by omega)
  · omega
  · omega
  · exact Prod.ext (by omega) (by omega)
structure SelI (net : List Int) (P : List (Nat × Nat)) (x k : Nat) (T : List Int) : Prop where
  ok : Ok T
  len : T.length = net.length
  bit : ∀ i j, (nb T i).testBit j = ((nb net i).testBit j ^^ selB P x k i j)
theorem sel_step {net : List Int} {P : List (Nat × Nat)} (hP : PairsOf net.length P) {x k : Nat} (hk : k < P.length) {T : List Int} (hT : SelI net P x k T) : SelI net P x (k + 1) (selStep P x T k) := by
  have hlt := hP.lt k hk
  have hl := hT.len
  have hsel : ∀ i j, selB P x (k + 1) i j = (selB P x k i j || (x.testBit k && isW (pt P k).1 (pt P k).2 i j)) := fun i j => by
    unfold selB
    rw [List.range_succ, List.any_append]
    simp
  unfold selStep
  cases hx : x.testBit k with
  | false =>
    rw [if_neg (by simp)]
    exact ⟨hT.ok, hl, fun i j => by rw [hT.bit, hsel, hx]; simp⟩
  | true =>
    rw [if_pos rfl]
    refine ⟨turn_ok hT.ok (by omega) (by omega) (by omega), by rw [turn_len, hl], fun i j => ?_⟩
    rw [turn_bit (by omega) (by omega) (by omega), hT.bit, hsel, hx, Bool.true_and]
    cases hw : isW (pt P k).1 (pt P k).2 i j with
    | false => simp
    | true =>
      have : selB P x k i j = false := not_true fun hs => by
        obtain ⟨m, m1, m2, m3⟩ := selB_iff.1 hs
        have := same_pair hP (by omega : m < P.length) hk m3 hw
        omega
      rw [this]
      cases (nb net i).testBit j <;> rfl
theorem selw_is {net : List Int} (h : Ok net) {P : List (Nat × Nat)} (hP : PairsOf net.length P) (x : Nat) : ∀ k, k ≤ P.length → SelI net P x k (fold k (selStep P x) net) := by
  intro k
  induction k with
  | zero => intro _; exact ⟨h, rfl, fun i j => by rw [show selB P x 0 i j = false from rfl]; simp [fold_zero]⟩
  | succ k ih => intro hk; rw [fold_succ]; exact sel_step hP (by omega) (ih (by omega))
/-- Wires: one less, or one more, for each that is turned. -/
theorem sel_wires {net : List Int} (h : Ok net) {P : List (Nat × Nat)} (hP : PairsOf net.length P) (x : Nat) {c : Bool} (hc : ∀ k, k < P.length → (nb net (pt P k).1).testBit (pt P k).2 = c) :
    if c = true then wires (selN net P x) + cnt P.length (fun k => x.testBit k) = wires net else wires (selN net P x) = wires net + cnt P.length (fun k => x.testBit k) := by
  have key : ∀ k, k ≤ P.length → if c = true then wires (fold k (selStep P x) net) + cnt k (fun k => x.testBit k) = wires net else wires (fold k (selStep P x) net) = wires net + cnt k (fun k => x.testBit k) := by
    intro k
    induction k with
    | zero => intro _; split <;> rfl
    | succ k ih =>
      intro hk
      have hI := selw_is h hP x k (by omega)
      have ih := ih (by omega)
      rw [fold_succ]
      generalize fold k (selStep P x) net = T at hI ih ⊢
      have hlt := hP.lt k (by omega)
      have hl := hI.len
      have hcn : cnt (k + 1) (fun k => x.testBit k) = cnt k (fun k => x.testBit k) + (x.testBit k).toNat := rfl
      rw [hcn]
      unfold selStep
      cases hx : x.testBit k with
      | false => exact ih
      | true =>
        rw [show (if true = true then turnN T (pt P k).1 (pt P k).2 else T) = turnN T (pt P k).1 (pt P k).2 from rfl]
        have hbit : (nb T (pt P k).1).testBit (pt P k).2 = c := by
          rw [hI.bit, hc k (by omega)]
          have : selB P x k (pt P k).1 (pt P k).2 = false := not_true fun hs => by
            obtain ⟨m, m1, m2, m3⟩ := selB_iff.1 hs
            have := same_pair hP (by omega : m < P.length) (by omega : k < P.length) m3 (isW_iff.2 (.inl ⟨rfl, rfl⟩))
            omega
          rw [this]; simp
        cases c with
        | true =>
          have := cut_wires hI.ok (turn_cut hI.ok (a := (pt P k).1) (b := (pt P k).2) (by omega) (by omega) (by omega) hbit)
          simp only [if_true] at ih ⊢
          simp only [Bool.toNat_true]
          omega
        | false =>
          have := cut_wires (turn_ok hI.ok (by omega) (by omega) (by omega)) (turn_join hI.ok (a := (pt P k).1) (b := (pt P k).2) (by omega) (by omega) (by omega) hbit)
          simp only [Bool.false_eq_true, if_false] at ih ⊢
          simp only [Bool.toNat_true]
          omega
  exact key P.length (Nat.le_refl _)
/-- A net that differs at these pairs alone is one of them. -/
theorem sel_all {net o : List Int} (h : Ok net) (ho : Ok o) (hl : o.length = net.length) {P : List (Nat × Nat)} (hP : PairsOf net.length P)
    (hd : ∀ i j, i < j → j < net.length → (nb o i).testBit j ≠ (nb net i).testBit j → (i, j) ∈ P) : ∃ x, x < 2 ^ P.length ∧ selN net P x = o := by
  let q : Nat → Bool := fun m => (nb o (pt P m).1).testBit (pt P m).2 != (nb net (pt P m).1).testBit (pt P m).2
  have hxb : ∀ m, (orN P.length q (fun m => 2 ^ m)).testBit m = true ↔ m < P.length ∧ q m = true := fun m => by
    rw [orN_testBit]
    constructor
    · rintro ⟨k, hk, a, b⟩
      rw [testBit_pow, decide_eq_true_eq] at b
      subst b
      exact ⟨hk, a⟩
    · rintro ⟨a, b⟩
      exact ⟨m, a, b, by rw [testBit_pow]; simp⟩
  refine ⟨orN P.length q (fun m => 2 ^ m), orN_lt fun k hk _ => Nat.pow_lt_pow_right (by omega) hk, ?_⟩
  have hI := selw_is h hP (orN P.length q (fun m => 2 ^ m)) P.length (Nat.le_refl _)
  refine nets_eq ho hI.ok (hI.len.trans hl.symm) fun i j hi hj => ?_
  rw [hl] at hi hj
  have hdif : selB P (orN P.length q (fun m => 2 ^ m)) P.length i j = ((nb o i).testBit j != (nb net i).testBit j) := by
    rw [Bool.eq_iff_iff, selB_iff, bne_iff_ne]
    constructor
    · rintro ⟨m, m1, m2, m3⟩
      have hq := ((hxb m).1 m2).2
      have hlt := hP.lt m m1
      have a1 := isW_bit ho (a := (pt P m).1) (b := (pt P m).2) (by omega) (by omega) m3
      have a2 := isW_bit h (a := (pt P m).1) (b := (pt P m).2) (by omega) (by omega) m3
      rw [a1, a2]
      simpa [q] using hq
    · intro hne
      have hij : i ≠ j := fun e => by subst e; rw [ho.irr i (by omega), h.irr i hi] at hne; exact hne rfl
      have find : ∀ a b, a < b → b < net.length → (nb o a).testBit b ≠ (nb net a).testBit b → ∃ m, m < P.length ∧ (orN P.length q (fun m => 2 ^ m)).testBit m = true ∧ pt P m = (a, b) := fun a b hab hb hn => by
        obtain ⟨m, m1, m2⟩ := mem_pt (hd a b hab hb hn)
        exact ⟨m, m1, (hxb m).2 ⟨m1, by simp only [q, m2]; exact bne_iff_ne.2 hn⟩, m2⟩
      rcases Nat.lt_or_gt_of_ne hij with hlt | hgt
      · obtain ⟨m, m1, m2, m3⟩ := find i j hlt hj hne
        exact ⟨m, m1, m2, by rw [m3]; exact isW_iff.2 (.inl ⟨rfl, rfl⟩)⟩
      · obtain ⟨m, m1, m2, m3⟩ := find j i hgt hi (by rw [h.sym i j hi hj, ho.sym i j (by omega) (by omega)]; exact hne)
        exact ⟨m, m1, m2, by rw [m3]; exact isW_iff.2 (.inr ⟨rfl, rfl⟩)⟩
  show (nb (fold P.length (selStep P (orN P.length q (fun m => 2 ^ m))) net) i).testBit j = _
  rw [hI.bit, hdif]
  cases (nb o i).testBit j <;> cases (nb net i).testBit j <;> rfl
theorem pairs_of {net : List Int} (h6 : net.length ≤ 6) : PairsOf net.length (pairs net) := by
  obtain ⟨p1, p2, p3⟩ := pairs_is h6
  refine ⟨p2, fun k hk => ?_⟩
  have := (p1 (pt (pairs net) k).1 (pt (pairs net) k).2).1 (pt_mem hk)
  exact ⟨this.1, this.2.1⟩
end Go.Proofs.Ytlamfgocbekgpaa
/- Fewest cuts, fewest joins, the most that is seen: plain facts. Conditions: those of each theorem. -/
namespace Go.Proofs.Ytlamfgocbekgpaa
open D Go.RowKit
set_option linter.unusedVariables false
set_option linter.unusedSimpArgs false

def CutBy (net : List Int) (m : Nat) : Prop := ∃ o, BelowN net o ∧ wires o + m = wires net ∧ fewest net < fewest o
def JoinBy (net : List Int) (m : Nat) : Prop := ∃ o, Ok o ∧ BelowN o net ∧ wires net + m = wires o ∧ fewest o < fewest net
theorem cut_sel {net : List Int} (h : Ok net) {m : Nat} : CutBy net m ↔ ∃ x, x < 2 ^ (pairs net).length ∧ cnt (pairs net).length (fun k => x.testBit k) = m ∧ fewest net < fewest (selN net (pairs net) x) := by
  have hP := pairs_of h.hi
  obtain ⟨p1, p2, p3⟩ := pairs_is h.hi
  have hc : ∀ k, k < (pairs net).length → (nb net (pt (pairs net) k).1).testBit (pt (pairs net) k).2 = true := fun k hk => ((p1 _ _).1 (pt_mem hk)).2.2
  constructor
  · rintro ⟨o, hb, hw, hf⟩
    obtain ⟨x, hx, e⟩ := sel_all h hb.ok hb.len hP (fun i j hij hj hne => (p1 i j).2 ⟨hij, hj, by
      cases hn : (nb net i).testBit j with
      | true => rfl
      | false =>
        rw [hn] at hne
        have ho : (nb o i).testBit j = true := by
          cases hq : (nb o i).testBit j with
          | true => rfl
          | false => rw [hq] at hne; exact absurd rfl hne
        rw [hb.sub i j (by omega) ho] at hn; cases hn⟩)
    have := sel_wires h hP x (c := true) hc
    simp only [if_true] at this
    rw [e] at this
    exact ⟨x, hx, by omega, by rw [e]; exact hf⟩
  · rintro ⟨x, hx, hm, hf⟩
    have hI := selw_is h hP x _ (Nat.le_refl _)
    have := sel_wires h hP x (c := true) hc
    simp only [if_true] at this
    refine ⟨selN net (pairs net) x, ⟨hI.ok, hI.len, fun i j hi hj => ?_⟩, by omega, hf⟩
    have hb := hI.bit i j
    have hj' : (nb (fold (pairs net).length (selStep (pairs net) x) net) i).testBit j = true := hj
    rw [hj'] at hb
    cases hn : (nb net i).testBit j with
    | true => rfl
    | false =>
      rw [hn] at hb
      have hs : selB (pairs net) x (pairs net).length i j = true := by simpa using hb.symm
      obtain ⟨k, k1, k2, k3⟩ := selB_iff.1 hs
      have hlt := hP.lt k k1
      rw [isW_bit h (by omega) (by omega) k3, hc k k1] at hn
      cases hn
theorem join_sel {net : List Int} (h : Ok net) {m : Nat} : JoinBy net m ↔ ∃ x, x < 2 ^ (pairs (otherN net)).length ∧ cnt (pairs (otherN net)).length (fun k => x.testBit k) = m ∧ fewest (selN net (pairs (otherN net)) x) < fewest net := by
  have ho := otherN_ok h
  have hl := otherN_len net
  have hP : PairsOf net.length (pairs (otherN net)) := by have := pairs_of ho.hi; rwa [hl] at this
  obtain ⟨p1, p2, p3⟩ := pairs_is ho.hi
  rw [hl] at p1
  have hc : ∀ k, k < (pairs (otherN net)).length → (nb net (pt (pairs (otherN net)) k).1).testBit (pt (pairs (otherN net)) k).2 = false := fun k hk => by
    have hlt := hP.lt k hk
    have := ((p1 (pt (pairs (otherN net)) k).1 (pt (pairs (otherN net)) k).2).1 (pt_mem hk)).2.2
    rw [otherN_bit h (by omega)] at this
    simp only [Bool.and_eq_true, Bool.not_eq_true'] at this
    exact this.2.2
  constructor
  · rintro ⟨o, hok, hb, hw, hf⟩
    obtain ⟨x, hx, e⟩ := sel_all h hok hb.len.symm hP (fun i j hij hj hne => (p1 i j).2 ⟨hij, hj, by
      rw [otherN_bit h (by omega), decide_eq_true hj, decide_eq_false (by omega)]
      cases hn : (nb net i).testBit j with
      | false => rfl
      | true =>
        have := hb.sub i j (by have := hb.len; omega) hn
        rw [this, hn] at hne; exact absurd rfl hne⟩)
    have := sel_wires h hP x (c := false) hc
    simp only [Bool.false_eq_true, if_false] at this
    rw [e] at this
    exact ⟨x, hx, by omega, by rw [e]; exact hf⟩
  · rintro ⟨x, hx, hm, hf⟩
    have hI := selw_is h hP x _ (Nat.le_refl _)
    have := sel_wires h hP x (c := false) hc
    simp only [Bool.false_eq_true, if_false] at this
    refine ⟨selN net (pairs (otherN net)) x, hI.ok, ⟨h, hI.len.symm, fun i j hi hj => ?_⟩, by omega, hf⟩
    have hb := hI.bit i j
    rw [hj] at hb
    cases hs : selB (pairs (otherN net)) x (pairs (otherN net)).length i j with
    | false => rw [hs] at hb; exact hb
    | true =>
      obtain ⟨k, k1, k2, k3⟩ := selB_iff.1 hs
      have hlt := hP.lt k k1
      rw [isW_bit h (by omega) (by omega) k3, hc k k1] at hj
      cases hj
/-- The least number of a kind; -1 if there is none. -/
def LeastI (p : Nat → Prop) (r : Int) : Prop := (r = -1 ∧ ∀ m, ¬ p m) ∨ ∃ m : Nat, r = (m : Int) ∧ p m ∧ ∀ k, p k → m ≤ k
theorem LeastI.uniq {p : Nat → Prop} {a b : Int} (ha : LeastI p a) (hb : LeastI p b) : a = b := by
  rcases ha with ⟨rfl, h1⟩ | ⟨m, rfl, h1, h2⟩ <;> rcases hb with ⟨rfl, g1⟩ | ⟨k, rfl, g1, g2⟩
  · rfl
  · exact absurd g1 (h1 k)
  · exact absurd h1 (g1 m)
  · have := h2 k g1
    have := g2 m h1
    omega
theorem leastI_ex (p : Nat → Prop) : ∃ r, LeastI p r := by
  by_cases hx : ∃ m, p m
  · obtain ⟨m, hm⟩ := hx
    have key : ∀ n m, m ≤ n → p m → ∃ r, LeastI p r := by
      intro n
      induction n with
      | zero => intro m hmn hm; exact ⟨(m : Int), .inr ⟨m, rfl, hm, fun k _ => by omega⟩⟩
      | succ n ih =>
        intro m hmn hm
        by_cases hl : ∃ k, k < m ∧ p k
        · obtain ⟨k, hk, hp⟩ := hl
          exact ih k (by omega) hp
        · exact ⟨(m : Int), .inr ⟨m, rfl, hm, fun k hk => Nat.not_lt.1 fun hlt => hl ⟨k, hlt, hk⟩⟩⟩
    exact key m m (Nat.le_refl _) hm
  · exact ⟨-1, .inl ⟨rfl, fun m hm => hx ⟨m, hm⟩⟩⟩
noncomputable def leastI (p : Nat → Prop) : Int := (leastI_ex p).choose
theorem leastI_is (p : Nat → Prop) : LeastI p (leastI p) := (leastI_ex p).choose_spec
theorem LeastI.congr {p q : Nat → Prop} {r : Int} (h : LeastI p r) (hpq : ∀ m, p m ↔ q m) : LeastI q r := by
  rcases h with ⟨e, h1⟩ | ⟨m, e, h1, h2⟩
  · exact .inl ⟨e, fun m hm => h1 m ((hpq m).2 hm)⟩
  · exact .inr ⟨m, e, (hpq m).1 h1, fun k hk => h2 k ((hpq k).2 hk)⟩
/-- A search through all numbers below one for the least. -/
def leastStep (q : Nat → Bool) (c : Nat → Nat) (t : Int) (x : Nat) : Int := if t < 0 then (if q x = true then (c x : Int) else t) else if (c x : Int) < t then (if q x = true then (c x : Int) else t) else t
theorem least_fold (q : Nat → Bool) (c : Nat → Nat) : ∀ n, LeastI (fun m => ∃ x, x < n ∧ q x = true ∧ c x = m) (fold n (leastStep q c) (-1)) := by
  intro n
  induction n with
  | zero => exact .inl ⟨rfl, fun m ⟨x, hx, _⟩ => by omega⟩
  | succ n ih =>
    rw [fold_succ]
    generalize fold n (leastStep q c) (-1) = t at ih ⊢
    unfold leastStep
    cases hq : q n with
    | false =>
      have e : (if t < 0 then (if false = true then (c n : Int) else t) else if (c n : Int) < t then (if false = true then (c n : Int) else t) else t) = t := by split <;> simp
      rw [e]
      refine ih.congr fun m => ⟨fun ⟨x, a, b⟩ => ⟨x, by omega, b⟩, fun ⟨x, a, b, d⟩ => ⟨x, ?_, b, d⟩⟩
      by_cases he : x = n
      · rw [he, hq] at b; cases b
      · omega
    | true =>
      rw [if_pos rfl]
      rcases ih with ⟨rfl, h1⟩ | ⟨m, rfl, ⟨x, x1, x2, x3⟩, h2⟩
      · rw [if_pos (by omega)]
        refine .inr ⟨c n, rfl, ⟨n, by omega, hq, rfl⟩, fun k ⟨x, a, b, d⟩ => ?_⟩
        by_cases he : x = n
        · rw [← d, he]; exact Nat.le_refl _
        · exact absurd ⟨x, by omega, b, d⟩ (h1 k)
      · rw [if_neg (by omega)]
        by_cases hlt : (c n : Int) < m
        · rw [if_pos hlt]
          refine .inr ⟨c n, rfl, ⟨n, by omega, hq, rfl⟩, fun k ⟨x, a, b, d⟩ => ?_⟩
          by_cases he : x = n
          · rw [← d, he]; exact Nat.le_refl _
          · have := h2 k ⟨x, by omega, b, d⟩; omega
        · rw [if_neg hlt]
          refine .inr ⟨m, rfl, ⟨x, by omega, x2, x3⟩, fun k ⟨y, a, b, d⟩ => ?_⟩
          by_cases he : y = n
          · rw [← d, he]; omega
          · exact h2 k ⟨y, by omega, b, d⟩
/-! A net by its wires. -/
def netB (n : Nat) (f : Nat → Nat → Bool) : List Int := (List.range n).map fun i => ((orN n (f i) (fun j => 2 ^ j) : Nat) : Int)
theorem netB_len (n : Nat) (f : Nat → Nat → Bool) : (netB n f).length = n := by simp [netB]
theorem netB_el {n : Nat} {f : Nat → Nat → Bool} {i : Nat} (hi : i < n) : el (netB n f) i = ((orN n (f i) (fun j => 2 ^ j) : Nat) : Int) := by unfold el netB; simp [List.getD, hi]
theorem netB_bit {n : Nat} {f : Nat → Nat → Bool} {i j : Nat} (hi : i < n) : (nb (netB n f) i).testBit j = (decide (j < n) && f i j) := by
  unfold nb
  rw [netB_el hi, Int.toNat_natCast, Bool.eq_iff_iff, orN_testBit, Bool.and_eq_true, decide_eq_true_eq]
  constructor
  · rintro ⟨k, hk, a, b⟩
    rw [testBit_pow, decide_eq_true_eq] at b
    subst b
    exact ⟨hk, a⟩
  · rintro ⟨a, b⟩
    exact ⟨j, a, b, by rw [testBit_pow]; simp⟩
theorem netB_ok {n : Nat} {f : Nat → Nat → Bool} (h1 : 1 ≤ n) (h6 : n ≤ 6) (hs : ∀ i j, f i j = f j i) (hi : ∀ i, f i i = false) : Ok (netB n f) := by
  have hl := netB_len n f
  refine ⟨by rw [hl]; exact h1, by rw [hl]; exact h6, fun k hk => ?_, fun k hk => ?_, fun j k hj hk => ?_, fun k hk => ?_⟩
  · rw [hl] at hk
    unfold nb
    rw [netB_el hk, Int.toNat_natCast]
  · rw [hl] at hk ⊢
    unfold nb
    rw [netB_el hk, Int.toNat_natCast]
    exact orN_lt fun k hk _ => Nat.pow_lt_pow_right (by omega) hk
  · rw [hl] at hj hk
    rw [netB_bit hk, netB_bit hj, decide_eq_true hj, decide_eq_true hk, hs k j]
  · rw [hl] at hk
    rw [netB_bit hk, hi]; simp
theorem deg_is {net : List Int} (h : Ok net) {i : Nat} (hi : i < net.length) : sumN net.length (fun j => ((nb net i).testBit j).toNat) = size (nb net i) := (nb_size h hi).symm
/-- Without the wires at two neighbours one guard more is wanted. -/
theorem iso_cut {net : List Int} (h : Ok net) {u v : Nat} (hu : u < net.length) (hv : v < net.length) (hw : (nb net u).testBit v = true) : CutBy net (size (nb net u) + size (nb net v) - 1) := by
  have hne : u ≠ v := fun e => by rw [e, h.irr v hv] at hw; cases hw
  let p : Nat → Bool := fun i => decide (i = u ∨ i = v)
  let f : Nat → Nat → Bool := fun i j => decide (i < net.length) && (decide (j < net.length) && ((nb net i).testBit j && (!p i && !p j)))
  have hsym : ∀ i j, f i j = f j i := fun i j => by
    simp only [f]
    by_cases hi : i < net.length
    · by_cases hj : j < net.length
      · rw [decide_eq_true hi, decide_eq_true hj, h.sym j i hj hi, Bool.and_comm (!p i)]
      · rw [decide_eq_false hj]; simp
    · rw [decide_eq_false hi]; simp
  have hirr : ∀ i, f i i = false := fun i => by simp only [f]; cases p i <;> simp; intro hi; exact h.irr i hi
  have hok := netB_ok h.lo h.hi hsym hirr
  have hl := netB_len net.length f
  have hbit : ∀ i j, i < net.length → j < net.length → (nb (netB net.length f) i).testBit j = ((nb net i).testBit j && (!p i && !p j)) := fun i j hi hj => by
    rw [netB_bit hi]
    simp only [f]
    rw [decide_eq_true hi, decide_eq_true hj]; rfl
  have hb : BelowN net (netB net.length f) := ⟨hok, hl, fun i j hi hj => by
    have hjl := hok.nb_lt (by rw [hl]; exact hi) hj
    rw [hl] at hjl
    rw [hbit i j hi hjl, Bool.and_eq_true] at hj
    exact hj.1⟩
  have hzero : ∀ k, k < net.length → p k = true → nb (netB net.length f) k = 0 := fun k hk hp => zero_iff.2 fun j => not_true fun hj => by
    have hjl := hok.nb_lt (by rw [hl]; exact hk) hj
    rw [hl] at hjl
    rw [hbit k j hk hjl, hp] at hj
    simp at hj
  have hpu : p u = true := by simp [p]
  have hpv : p v = true := by simp [p]
  have hlt := alone_both h hb hu hv hw (hzero u hu hpu) (hzero v hv hpv) (few_min.1 (fewest_few h)) (few_min.1 (fewest_few hok))
  -- the wires that are gone
  have hcount := below_wires h hb
  have e1 : dsum net.length (fun i j => ((nb net i).testBit j && !(nb (netB net.length f) i).testBit j).toNat + (isW u v i j).toNat) = dsum net.length (fun i j => ((nb net i).testBit j && p i).toNat + ((nb net i).testBit j && p j).toNat) := dsum_congr fun i j hi hj => by
    rw [hbit i j hi hj]
    cases hwx : isW u v i j with
    | true =>
      have hn := isW_bit h hu hv hwx
      rw [hn, hw]
      have : p i = true ∧ p j = true := by
        rcases isW_iff.1 hwx with ⟨rfl, rfl⟩ | ⟨rfl, rfl⟩
        · exact ⟨hpu, hpv⟩
        · exact ⟨hpv, hpu⟩
      rw [this.1, this.2]; rfl
    | false =>
      cases hn : (nb net i).testBit j with
      | false => rfl
      | true =>
        cases hpi : p i with
        | false => cases p j <;> rfl
        | true =>
          cases hpj : p j with
          | false => rfl
          | true =>
            exfalso
            simp only [p, decide_eq_true_eq] at hpi hpj
            have : i ≠ j := fun e => by rw [e, h.irr j hj] at hn; cases hn
            have : isW u v i j = true := isW_iff.2 (by omega)
            rw [this] at hwx; cases hwx
  have hrow : ∀ w, w < net.length → sumN net.length (fun i => if i = w then size (nb net i) else 0) = size (nb net w) := fun w hw => by
    rw [sumN_one hw (fun j hj hne => if_neg hne), if_pos rfl]
  have e2 : dsum net.length (fun i j => ((nb net i).testBit j && p i).toNat) = size (nb net u) + size (nb net v) := by
    unfold dsum
    rw [← hrow u hu, ← hrow v hv, ← sumN_add]
    refine sumN_congr fun i hi => ?_
    cases hp : p i with
    | false =>
      have hp0 := hp
      simp only [p, decide_eq_false_iff_not] at hp
      rw [if_neg (by omega), if_neg (by omega), sumN_congr (g := fun _ => 0) (fun j _ => by show ((nb net i).testBit j && p i).toNat = 0; rw [hp0]; simp), sumN_zero]
    | true =>
      have hp0 := hp
      simp only [p, decide_eq_true_eq] at hp
      rw [sumN_congr (g := fun j => ((nb net i).testBit j).toNat) (fun j _ => by show ((nb net i).testBit j && p i).toNat = _; rw [hp0]; simp), deg_is h hi]
      rcases hp with rfl | rfl
      · rw [if_pos rfl, if_neg hne]; omega
      · rw [if_neg (Ne.symm hne), if_pos rfl]; omega
  have e3 : dsum net.length (fun i j => ((nb net i).testBit j && p j).toNat) = size (nb net u) + size (nb net v) := by
    rw [dsum_swap, ← e2]
    exact dsum_congr fun i j hi hj => by rw [h.sym i j hi hj]
  rw [dsum_add, dsum_add, dsum_isW hu hv hne, e2, e3] at e1
  have hpos : 1 ≤ size (nb net u) := by
    rw [nb_size h hu]
    have := sumN_pos (n := net.length) (f := fun j => ((nb net u).testBit j).toNat) hv
    simp only [hw, Bool.toNat_true] at this
    exact this
  exact ⟨_, hb, by omega, hlt⟩
theorem cut_wire {net : List Int} (h : Ok net) {m : Nat} (hc : CutBy net m) : wires net ≠ 0 ∧ 1 ≤ m := by
  obtain ⟨o, hb, hw, hf⟩ := hc
  have hm : 1 ≤ m := by
    rcases Nat.eq_zero_or_pos m with hz | hz
    · exfalso
      have hcount := below_wires h hb
      have hd0 : dsum net.length (fun i j => ((nb net i).testBit j && !(nb o i).testBit j).toNat) = 0 := by omega
      have : o = net := nets_eq h hb.ok hb.len fun i j hi hj => by
        cases hn : (nb net i).testBit j with
        | false => exact not_true fun ho => by rw [hb.sub i j hi ho] at hn; cases hn
        | true =>
          cases ho : (nb o i).testBit j with
          | true => rfl
          | false =>
            exfalso
            have a := sumN_pos (n := net.length) (f := fun j => ((nb net i).testBit j && !(nb o i).testBit j).toNat) hj
            have b := sumN_pos (n := net.length) (f := fun i => sumN net.length (fun j => ((nb net i).testBit j && !(nb o i).testBit j).toNat)) hi
            simp only [hn, ho, Bool.not_false, Bool.and_true, Bool.toNat_true] at a
            have hd1 : sumN net.length (fun i => sumN net.length (fun j => ((nb net i).testBit j && !(nb o i).testBit j).toNat)) = 0 := hd0
            omega
      rw [this] at hf
      omega
    · exact hz
  exact ⟨by omega, hm⟩
theorem wire_cut {net : List Int} (h : Ok net) (hw : wires net ≠ 0) : ∃ m, CutBy net m := by
  have : ∃ u v, u < net.length ∧ v < net.length ∧ (nb net u).testBit v = true := Classical.byContradiction fun hn => hw ((ends_zero h).2 fun k hk => zero_iff.2 fun j => not_true fun hj => hn ⟨k, j, hk, h.nb_lt hk hj, hj⟩)
  obtain ⟨u, v, hu, hv, hb⟩ := this
  exact ⟨_, iso_cut h hu hv hb⟩
theorem size_few {net : List Int} (h : Ok net) {s m : Nat} (hs : s < 2 ^ net.length) (f : Nat → Nat) (hf : ∀ k, s.testBit k = true → f k < m) (hi : ∀ j k, s.testBit j = true → s.testBit k = true → f j = f k → j = k) : size s ≤ m := by
  rw [size_cnt h hs]
  have := cnt_inj (n := net.length) (m := m) (p := fun k => s.testBit k) (q := fun _ => true) f (fun k _ hk => ⟨hf k hk, rfl⟩) (fun j k _ _ hj hk e => hi j k hj hk e)
  rwa [cnt_true] at this
/-- Two cuts hurt each forest. -/
theorem forest_cut {net : List Int} (h : Ok net) (hp : Peel net (allOf net)) (hw : wires net ≠ 0) : ∃ m, m ≤ 2 ∧ CutBy net m := by
  have hex : ∃ i j, i < net.length ∧ (nb net i).testBit j = true := Classical.byContradiction fun hn => hw ((ends_zero h).2 fun k hk => zero_iff.2 fun j => not_true fun hj => hn ⟨k, j, hk, hj⟩)
  have hall : ∀ i, i < net.length → (allOf net).testBit i = true := fun i hi => by rw [allOf_testBit]; simpa using hi
  obtain ⟨v, x, hv, hx, hvx, hlx, w, hlw⟩ := forest_leaf h hp (allOf_lt net) (fun i j hi _ hb => by rw [hall i hi] at hb; cases hb) (fun i hi hb => by rw [hall i hi] at hb; cases hb) hex
  have hne : v ≠ x := fun e => by rw [← e, h.irr v hv] at hvx; cases hvx
  by_cases hy : ∃ y, y ≠ x ∧ (nb net v).testBit y = true ∧ ∀ j, (nb net y).testBit j = true → j = v
  · obtain ⟨y, y1, y2, y3⟩ := hy
    have hyl := h.nb_lt hv y2
    have hc := turn_cut h hv hx hne hvx
    have hlt := two_leaves h hx hyl (Ne.symm y1) hc hlx y3 y2 (few_min.1 (fewest_few h)) (few_min.1 (fewest_few hc.ok))
    exact ⟨1, by omega, _, hc.below, cut_wires h hc, hlt⟩
  · refine ⟨_, ?_, iso_cut h hv hx hvx⟩
    have h1 : size (nb net x) ≤ 1 := size_few h (h.lt x hx) (fun _ => 0) (fun _ _ => by omega) (fun j k hj hk _ => by rw [hlx j hj, hlx k hk])
    have hor : ∀ y, (nb net v).testBit y = true → y = x ∨ y = w := fun y hyb => by
      rcases hlw y hyb with hl | hl
      · exact .inl (Classical.byContradiction fun hn => hy ⟨y, hn, hyb, hl⟩)
      · exact .inr hl
    have h2 : size (nb net v) ≤ 2 := size_few h (h.lt v hv) (fun k => if k = x then 0 else 1) (fun k _ => by split <;> omega) (fun j k hj hk e => by
      have a := hor j hj
      have b := hor k hk
      by_cases p : j = x <;> by_cases q : k = x
      · omega
      · rw [if_pos p, if_neg q] at e; omega
      · rw [if_neg p, if_pos q] at e; omega
      · omega)
    omega
/-! The most that is seen by so many guards. -/
structure SeenMax (net : List Int) (g m : Nat) : Prop where
  ex : ∃ s, s < 2 ^ net.length ∧ size s ≤ g ∧ size (seen net s) = m
  le : ∀ s, s < 2 ^ net.length → size s ≤ g → size (seen net s) ≤ m
def seenMost (net : List Int) (g : Nat) : Nat := fold (2 ^ net.length) (fun t s => if size s ≤ g then max t (size (seen net s)) else t) 0
theorem seenMost_is (net : List Int) (g : Nat) : SeenMax net g (seenMost net g) := by
  have key : ∀ n, (fold n (fun t s => if size s ≤ g then max t (size (seen net s)) else t) 0 = 0 ∨ ∃ s, s < n ∧ size s ≤ g ∧ size (seen net s) = fold n (fun t s => if size s ≤ g then max t (size (seen net s)) else t) 0) ∧
      ∀ s, s < n → size s ≤ g → size (seen net s) ≤ fold n (fun t s => if size s ≤ g then max t (size (seen net s)) else t) 0 := by
    intro n
    induction n with
    | zero => exact ⟨.inl rfl, fun s hs => by omega⟩
    | succ n ih =>
      obtain ⟨a, b⟩ := ih
      rw [fold_succ]
      generalize fold n (fun t s => if size s ≤ g then max t (size (seen net s)) else t) 0 = t at a b ⊢
      by_cases hc : size n ≤ g
      · rw [if_pos hc]
        refine ⟨?_, fun s hs hsg => ?_⟩
        · by_cases hm : t ≤ size (seen net n)
          · rw [Nat.max_eq_right hm]; exact .inr ⟨n, by omega, hc, rfl⟩
          · rw [Nat.max_eq_left (by omega)]
            rcases a with a | ⟨s, s1, s2, s3⟩
            · exact .inl a
            · exact .inr ⟨s, by omega, s2, s3⟩
        · by_cases he : s = n
          · rw [he]; exact Nat.le_max_right _ _
          · exact Nat.le_trans (b s (by omega) hsg) (Nat.le_max_left _ _)
      · rw [if_neg hc]
        refine ⟨?_, fun s hs hsg => ?_⟩
        · rcases a with a | ⟨s, s1, s2, s3⟩
          · exact .inl a
          · exact .inr ⟨s, by omega, s2, s3⟩
        · by_cases he : s = n
          · rw [he] at hsg; exact absurd hsg hc
          · exact b s (by omega) hsg
  obtain ⟨a, b⟩ := key (2 ^ net.length)
  refine ⟨?_, b⟩
  rcases a with a | a
  · have hz : size 0 = 0 := by decide +kernel
    exact ⟨0, Nat.two_pow_pos _, by omega, by rw [seen_zero, hz]; exact a.symm⟩
  · exact a
theorem SeenMax.uniq {net : List Int} {g a b : Nat} (ha : SeenMax net g a) (hb : SeenMax net g b) : a = b := by
  obtain ⟨s, s1, s2, s3⟩ := ha.ex
  obtain ⟨t, t1, t2, t3⟩ := hb.ex
  have := hb.le s s1 s2
  have := ha.le t t1 t2
  omega
end Go.Proofs.Ytlamfgocbekgpaa
/- Fewest joins by what one guard less can see. Conditions: those of each theorem. -/
namespace Go.Proofs.Ytlamfgocbekgpaa
open D Go.RowKit
set_option linter.unusedVariables false
set_option linter.unusedSimpArgs false

theorem seenMost_mono {net : List Int} {g k : Nat} (hg : g ≤ k) : seenMost net g ≤ seenMost net k := by
  obtain ⟨s, s1, s2, s3⟩ := (seenMost_is net g).ex
  have := (seenMost_is net k).le s s1 (by omega)
  omega
theorem seenMost_le {net : List Int} (h : Ok net) (g : Nat) : seenMost net g ≤ net.length := by
  obtain ⟨s, s1, s2, s3⟩ := (seenMost_is net g).ex
  have := size_le_len h (h.seen_lt s1)
  omega
theorem seenMost_all {net : List Int} (h : Ok net) (g : Nat) : seenMost net g = net.length ↔ fewest net ≤ g := by
  constructor
  · intro he
    obtain ⟨s, s1, s2, s3⟩ := (seenMost_is net g).ex
    have hf := full_size h (h.seen_lt s1) (by omega)
    have := (fewest_few h).le s s1 (by unfold W; rw [hf]; simp)
    omega
  · intro hg
    obtain ⟨s, s1, s2, s3⟩ := (fewest_few h).ex
    have hs : seen net s = allOf net := by unfold W at s2; simpa using s2
    have a := (seenMost_is net g).le s s1 (by omega)
    rw [hs, size_all h] at a
    have := seenMost_le h g
    omega
theorem low_dec : ∀ k : Fin 7, size (2 ^ k.val - 1) = k.val := by decide +kernel
theorem seenMost_min {net : List Int} (h : Ok net) (g : Nat) : min net.length g ≤ seenMost net g := by
  have h6 := h.hi
  have hsz : size (2 ^ min net.length g - 1) = min net.length g := low_dec ⟨min net.length g, by omega⟩
  have hp : 2 ^ min net.length g ≤ 2 ^ net.length := Nat.pow_le_pow_right (by omega) (Nat.min_le_left _ _)
  have hpos : 0 < 2 ^ min net.length g := Nat.two_pow_pos _
  have hs : 2 ^ min net.length g - 1 < 2 ^ net.length := by omega
  have a := (seenMost_is net g).le _ hs (by omega)
  have b : size (2 ^ min net.length g - 1) ≤ size (seen net (2 ^ min net.length g - 1)) := by
    rw [size_cnt h hs, size_cnt h (h.seen_lt hs)]
    exact cnt_mono fun k _ hk => (seen_testBit _ _ _).2 (.inl hk)
  omega
theorem few_place {net : List Int} (h : Ok net) : 1 ≤ seenMost net 1 := by
  have := seenMost_min h 1
  have := h.lo
  omega
/-- One guard sees all that one guard less does not, if it has a wire to each. -/
theorem join_upper {net : List Int} (h : Ok net) (h2 : 2 ≤ fewest net) : JoinBy net (net.length - seenMost net (fewest net - 1)) := by
  obtain ⟨S, s1, s2, s3⟩ := (seenMost_is net (fewest net - 1)).ex
  have hone : 1 ≤ seenMost net (fewest net - 1) := Nat.le_trans (few_place h) (seenMost_mono (by omega))
  have hz0 : size 0 = 0 := by decide +kernel
  have hne : S ≠ 0 := fun e => by rw [e, seen_zero, hz0] at s3; omega
  obtain ⟨g, hg⟩ : ∃ g, S.testBit g = true := Classical.byContradiction fun hn => hne (zero_iff.2 fun j => not_true fun hj => hn ⟨j, hj⟩)
  have hgl := in_lt s1 hg
  let q : Nat → Bool := fun j => !(seen net S).testBit j
  have hqg : q g = false := by simp only [q]; rw [(seen_testBit _ _ _).2 (.inl hg)]; rfl
  have hqn : ∀ j, j < net.length → q j = true → (nb net g).testBit j = false := fun j hj hq => not_true fun hb => by
    simp only [q, Bool.not_eq_true'] at hq
    rw [(seen_testBit _ _ _).2 (.inr ⟨g, hgl, hg, hb⟩)] at hq; cases hq
  let f : Nat → Nat → Bool := fun i j => decide (i < net.length) && (decide (j < net.length) && ((nb net i).testBit j || (decide (i = g) && q j || decide (j = g) && q i)))
  have hsym : ∀ i j, f i j = f j i := fun i j => by
    simp only [f]
    by_cases hi : i < net.length
    · by_cases hj : j < net.length
      · rw [decide_eq_true hi, decide_eq_true hj, h.sym j i hj hi, Bool.or_comm (decide (i = g) && q j)]
      · rw [decide_eq_false hj]; simp
    · rw [decide_eq_false hi]; simp
  have hirr : ∀ i, f i i = false := fun i => by
    simp only [f]
    by_cases hi : i < net.length
    · rw [h.irr i hi]
      by_cases he : i = g
      · rw [he, hqg]; simp
      · rw [decide_eq_false he]; simp
    · rw [decide_eq_false hi]; rfl
  have hok := netB_ok h.lo h.hi hsym hirr
  have hl := netB_len net.length f
  have hbit : ∀ i j, i < net.length → j < net.length → (nb (netB net.length f) i).testBit j = ((nb net i).testBit j || (decide (i = g) && q j || decide (j = g) && q i)) := fun i j hi hj => by
    rw [netB_bit hi]
    simp only [f]
    rw [decide_eq_true hi, decide_eq_true hj]; rfl
  have hb : BelowN (netB net.length f) net := ⟨h, hl.symm, fun i j hi hj => by
    rw [hl] at hi
    rw [hbit i j hi (h.nb_lt hi hj), hj]; rfl⟩
  have hS : W (netB net.length f) S = true := (W_iff hok (by rw [hl]; exact s1)).2 fun j hj => by
    rw [hl] at hj
    rw [seen_testBit]
    cases hq : (seen net S).testBit j with
    | true =>
      rcases (seen_testBit _ _ _).1 hq with a | ⟨k, hk, a, b⟩
      · exact .inl a
      · exact .inr ⟨k, by rw [hl]; exact hk, a, hb.sub k j (by rw [hl]; exact hk) b⟩
    | false =>
      refine .inr ⟨g, by rw [hl]; exact hgl, hg, ?_⟩
      rw [hbit g j hgl hj]
      simp only [q, hq]
      simp
  have hfew := (fewest_few hok).le S (by rw [hl]; exact s1) hS
  have hcount := below_wires hok hb
  rw [hl] at hcount
  have hcq : cnt net.length q = net.length - seenMost net (fewest net - 1) := by
    have := cnt_not net.length (fun j => (seen net S).testBit j)
    rw [← size_cnt h (h.seen_lt s1), s3] at this
    show cnt net.length (fun j => !(seen net S).testBit j) = _
    omega
  have e1 : dsum net.length (fun i j => ((nb (netB net.length f) i).testBit j && !(nb net i).testBit j).toNat) = dsum net.length (fun i j => (decide (i = g) && q j).toNat + (decide (j = g) && q i).toNat) := dsum_congr fun i j hi hj => by
    rw [hbit i j hi hj]
    by_cases hig : i = g
    · rw [hig, decide_eq_true rfl, hqg]
      cases hq : q j with
      | false => cases (nb net g).testBit j <;> simp
      | true => rw [hqn j hj hq]; simp
    · rw [decide_eq_false hig]
      by_cases hjg : j = g
      · rw [hjg, decide_eq_true rfl]
        cases hq : q i with
        | false => cases (nb net i).testBit g <;> simp
        | true =>
          have := hqn i hi hq
          rw [h.sym i g hi hgl] at this
          rw [this]; simp
      · rw [decide_eq_false hjg]
        cases (nb net i).testBit j <;> simp
  have e2 : dsum net.length (fun i j => (decide (i = g) && q j).toNat) = cnt net.length q := by
    unfold dsum
    rw [sumN_one hgl (fun i hi hne => by rw [sumN_congr (g := fun _ => 0) (fun j _ => by show (decide (i = g) && q j).toNat = 0; rw [decide_eq_false hne]; rfl), sumN_zero])]
    exact sumN_congr fun j _ => by show (decide (g = g) && q j).toNat = (q j).toNat; rw [decide_eq_true rfl]; rfl
  have e3 : dsum net.length (fun i j => (decide (j = g) && q i).toNat) = cnt net.length q := by rw [dsum_swap]; exact e2
  rw [e1, dsum_add, e2, e3] at hcount
  exact ⟨_, hok, hb, by omega, by omega⟩
theorem join_lower {net : List Int} (h : Ok net) {m : Nat} (hm : JoinBy net m) : 2 ≤ fewest net ∧ net.length - seenMost net (fewest net - 1) ≤ m := by
  obtain ⟨o, hok, hb, hw, hf⟩ := hm
  have hl := hb.len
  obtain ⟨T, t1, t2, t3⟩ := (fewest_few hok).ex
  have t1n : T < 2 ^ net.length := by rw [hl]; exact t1
  have hz0 : size 0 = 0 := by decide +kernel
  have hT1 : 1 ≤ size T := by
    rcases Nat.eq_zero_or_pos (size T) with hz | hz
    · exfalso
      have hs0 : T = 0 := by
        rw [size_cnt hok t1] at hz
        refine zero_iff.2 fun j => not_true fun hj => ?_
        have := cnt_inj (n := 1) (m := o.length) (p := fun _ => true) (q := fun k => T.testBit k) (fun _ => j) (fun _ _ _ => ⟨in_lt t1 hj, hj⟩) (fun a b ha hb _ _ _ => by omega)
        rw [cnt_true] at this
        omega
      rw [hs0, W_zero hok] at t2; cases t2
    · exact hz
  refine ⟨by omega, ?_⟩
  have hM := (seenMost_is net (fewest net - 1)).le T t1n (by omega)
  let q : Nat → Bool := fun j => !(seen net T).testBit j
  have hcq : cnt net.length q + size (seen net T) = net.length := by
    have := cnt_not net.length (fun j => (seen net T).testBit j)
    rw [← size_cnt h (h.seen_lt t1n)] at this
    show cnt net.length (fun j => !(seen net T).testBit j) + _ = _
    omega
  have hqT : ∀ j, q j = true → T.testBit j = false := fun j hq => not_true fun hj => by
    simp only [q, Bool.not_eq_true'] at hq
    rw [(seen_testBit _ _ _).2 (.inl hj)] at hq; cases hq
  have hqn : ∀ i j, i < net.length → q j = true → T.testBit i = true → (nb net i).testBit j = false := fun i j hi hq ht => not_true fun hbb => by
    simp only [q, Bool.not_eq_true'] at hq
    rw [(seen_testBit _ _ _).2 (.inr ⟨i, hi, ht, hbb⟩)] at hq; cases hq
  have hcount := below_wires hok hb
  rw [← hl] at hcount
  -- each place that is not seen has a new wire
  let D : Nat → Nat → Nat := fun i j => (q j && (T.testBit i && (nb o i).testBit j)).toNat
  have hsum : dsum net.length (fun i j => D i j + D j i) ≤ dsum net.length (fun i j => ((nb o i).testBit j && !(nb net i).testBit j).toNat) := by
    refine sumN_le fun i hi => sumN_le fun j hj => ?_
    simp only [D]
    cases hq : q j with
    | true =>
      have hTj := hqT j hq
      rw [hTj]
      cases hTi : T.testBit i with
      | false => cases q i <;> simp
      | true =>
        rw [hqn i j hi hq hTi]
        cases q i <;> cases (nb o i).testBit j <;> simp
    | false =>
      cases hqi : q i with
      | false => simp
      | true =>
        cases hTj : T.testBit j with
        | false => simp
        | true =>
          have a := hqn j i hj hqi hTj
          rw [h.sym i j hi hj] at a
          rw [hok.sym i j (by omega) (by omega), a]
          cases (nb o i).testBit j <;> simp
  have hD : cnt net.length q ≤ dsum net.length D := by
    rw [dsum_swap]
    refine sumN_le fun j hj => ?_
    cases hq : q j with
    | false => exact Nat.zero_le _
    | true =>
      rcases (seen_testBit _ _ _).1 ((W_iff hok t1).1 t2 j (by omega)) with a | ⟨k, hk, a, b⟩
      · rw [hqT j hq] at a; cases a
      · have := sumN_pos (n := net.length) (f := fun i => D i j) (k := k) (by omega)
        simp only [D, hq, a, b, Bool.and_self, Bool.toNat_true] at this ⊢
        exact this
  have hD2 : dsum net.length (fun i j => D j i) = dsum net.length D := (dsum_swap net.length D).symm
  rw [dsum_add, hD2] at hsum
  omega
theorem joins_is {net : List Int} (h : Ok net) : LeastI (JoinBy net) (if 2 ≤ fewest net then ((net.length - seenMost net (fewest net - 1) : Nat) : Int) else -1) := by
  by_cases h2 : 2 ≤ fewest net
  · rw [if_pos h2]
    exact .inr ⟨_, rfl, join_upper h h2, fun k hk => (join_lower h hk).2⟩
  · rw [if_neg h2]
    exact .inl ⟨rfl, fun m hm => h2 (join_lower h hm).1⟩
end Go.Proofs.Ytlamfgocbekgpaa
/- All guards move: who can go where, by Hall's condition. Conditions: those of each theorem. -/
namespace Go.Proofs.Ytlamfgocbekgpaa
set_option linter.unusedVariables false
set_option linter.unusedSimpArgs false

theorem size_eq6 {s : Nat} (hs : s < 64) : size s = cnt 6 (fun k => s.testBit k) := by unfold size; rw [card_sum]
theorem in6 {s k : Nat} (hs : s < 64) (hk : s.testBit k = true) : k < 6 := testBit_lt (n := 6) hs hk
theorem size_mono6 {s t : Nat} (hs : s < 64) (ht : t < 64) (h : ∀ j, s.testBit j = true → t.testBit j = true) : size s ≤ size t := by
  rw [size_eq6 hs, size_eq6 ht]; exact cnt_mono fun k _ => h k
theorem size_disj {s t : Nat} (hs : s < 64) (ht : t < 64) (h : ∀ j, s.testBit j = true → t.testBit j = false) : size (s ||| t) = size s + size t := by
  have hl : s ||| t < 2 ^ 6 := Nat.or_lt_two_pow (by omega) (by omega)
  rw [size_eq6 hs, size_eq6 ht, size_eq6 (by omega)]
  unfold cnt
  rw [← sumN_add]
  refine sumN_congr fun k _ => ?_
  show ((s ||| t).testBit k).toNat = (s.testBit k).toNat + (t.testBit k).toNat
  rw [Nat.testBit_or]
  cases hb : s.testBit k with
  | false => simp
  | true => rw [h k hb]; rfl
theorem diff_testBit {s t : Nat} (hs : s < 64) (ht : t < 64) (j : Nat) : (minus s t).testBit j = true ↔ s.testBit j = true ∧ t.testBit j = false := by
  rw [minus_testBit _ _ (by omega) (by omega), Bool.and_eq_true, Bool.not_eq_true']
theorem diff_lt {s t : Nat} (hs : s < 64) : minus s t < 64 := Nat.lt_of_le_of_lt Nat.and_le_left hs
theorem size_diff {s t : Nat} (hs : s < 64) (ht : t < 64) (h : ∀ j, t.testBit j = true → s.testBit j = true) : size (minus s t) + size t = size s := by
  rw [← size_disj (diff_lt hs) ht (fun j hj => ((diff_testBit hs ht j).1 hj).2)]
  congr 1
  apply Nat.eq_of_testBit_eq
  intro j
  rw [Bool.eq_iff_iff, or2, diff_testBit hs ht]
  constructor
  · rintro (⟨a, _⟩ | a)
    · exact a
    · exact h j a
  · intro a
    cases hb : t.testBit j with
    | true => exact .inr rfl
    | false => exact .inl ⟨a, rfl⟩
theorem size_zero {s : Nat} (hs : s < 64) (h : size s = 0) : s = 0 := Classical.byContradiction fun hne => by
  obtain ⟨j, hj⟩ := pos_iff.1 hne
  have := size_pos hs (in6 hs hj) hj
  omega
/-- Those of b next to some of x. -/
def nbs (R : Nat → Nat → Bool) (x b : Nat) : Nat := orN 6 (fun j => b.testBit j && (List.range 6).any fun i => x.testBit i && R i j) (fun j => 2 ^ j)
theorem nbs_testBit {R : Nat → Nat → Bool} {x b : Nat} (hx : x < 64) (hb : b < 64) (j : Nat) : (nbs R x b).testBit j = true ↔ b.testBit j = true ∧ ∃ i, x.testBit i = true ∧ R i j = true := by
  unfold nbs
  rw [orN_testBit]
  simp only [Bool.and_eq_true, List.any_eq_true, List.mem_range]
  constructor
  · rintro ⟨k, hk, ⟨a, i, _, b1, c⟩, d⟩
    rw [testBit_pow, decide_eq_true_eq] at d
    subst d
    exact ⟨a, i, b1, c⟩
  · rintro ⟨a, i, b1, c⟩
    exact ⟨j, in6 hb a, ⟨a, i, in6 hx b1, b1, c⟩, by rw [testBit_pow]; simp⟩
theorem nbs_lt (R : Nat → Nat → Bool) (x b : Nat) : nbs R x b < 64 := orN_lt (m := 6) fun k hk _ => Nat.pow_lt_pow_right (by omega) hk
/-- Each can be given another one, if no set has too few. -/
theorem hall (R : Nat → Nat → Bool) : ∀ m a b, a < 64 → b < 64 → size a ≤ m → (∀ x, x < 64 → (∀ j, x.testBit j = true → a.testBit j = true) → size x ≤ size (nbs R x b)) →
    ∃ f : Nat → Nat, (∀ i, a.testBit i = true → b.testBit (f i) = true ∧ R i (f i) = true) ∧ ∀ i j, a.testBit i = true → a.testBit j = true → f i = f j → i = j := by
  intro m
  induction m with
  | zero =>
    intro a b ha hb hm _
    have := size_zero ha (by omega)
    subst this
    exact ⟨fun i => i, fun i hi => (by rw [Nat.zero_testBit] at hi; cases hi), fun i j hi => (by rw [Nat.zero_testBit] at hi; cases hi)⟩
  | succ m ih =>
    intro a b ha hb hm hc
    by_cases h0 : a = 0
    · subst h0
      exact ⟨fun i => i, fun i hi => (by rw [Nat.zero_testBit] at hi; cases hi), fun i j hi => (by rw [Nat.zero_testBit] at hi; cases hi)⟩
    by_cases ht : ∃ x, x < 64 ∧ (∀ j, x.testBit j = true → a.testBit j = true) ∧ x ≠ 0 ∧ x ≠ a ∧ size (nbs R x b) ≤ size x
    · -- a tight set is given its own, the others the others
      obtain ⟨x, hx, hxa, hx0, hxne, hxt⟩ := ht
      have hdz := size_diff ha hx hxa
      have hxp : 1 ≤ size x := by
        obtain ⟨j, hj⟩ := pos_iff.1 hx0
        exact size_pos hx (in6 hx hj) hj
      have hdp : 1 ≤ size (minus a x) := by
        refine Nat.one_le_iff_ne_zero.2 fun hz => hxne ?_
        have h1 := size_zero (diff_lt ha) hz
        apply Nat.eq_of_testBit_eq
        intro j
        rw [Bool.eq_iff_iff]
        refine ⟨hxa j, fun hj => Classical.byContradiction fun hno => ?_⟩
        have := (diff_testBit ha hx j).2 ⟨hj, not_true hno⟩
        rw [h1, Nat.zero_testBit] at this; cases this
      obtain ⟨f1, p1, q1⟩ := ih x b hx hb (by omega) (fun y hy hyx => hc y hy fun j hj => hxa j (hyx j hj))
      have hnl := nbs_lt R x b
      obtain ⟨f2, p2, q2⟩ := ih (minus a x) (minus b (nbs R x b)) (diff_lt ha) (diff_lt hb) (by omega) (fun z hz hza => by
        have hzx : z ||| x < 64 := by
          have : z ||| x < 2 ^ 6 := Nat.or_lt_two_pow (by omega) (by omega)
          omega
        have hdis : ∀ j, z.testBit j = true → x.testBit j = false := fun j hj => ((diff_testBit ha hx j).1 (hza j hj)).2
        have h1 := hc (z ||| x) hzx (fun j hj => by
          rcases (or2 _ _ _).1 hj with hj | hj
          · exact ((diff_testBit ha hx j).1 (hza j hj)).1
          · exact hxa j hj)
        rw [size_disj hz hx hdis] at h1
        have h2 : size (nbs R (z ||| x) b) ≤ size (nbs R z (minus b (nbs R x b))) + size (nbs R x b) := by
          rw [← size_disj (nbs_lt _ _ _) hnl (fun j hj => ((diff_testBit hb hnl j).1 ((nbs_testBit hz (diff_lt hb) j).1 hj).1).2)]
          refine size_mono6 (nbs_lt _ _ _) (by have : nbs R z (minus b (nbs R x b)) ||| nbs R x b < 2 ^ 6 := Nat.or_lt_two_pow (nbs_lt _ _ _) hnl
                                               omega) fun j hj => ?_
          obtain ⟨a1, i, a2, a3⟩ := (nbs_testBit hzx hb j).1 hj
          rw [or2]
          cases hb2 : (nbs R x b).testBit j with
          | true => exact .inr rfl
          | false =>
            left
            rcases (or2 _ _ _).1 a2 with a2 | a2
            · exact (nbs_testBit hz (diff_lt hb) j).2 ⟨(diff_testBit hb hnl j).2 ⟨a1, hb2⟩, i, a2, a3⟩
            · rw [(nbs_testBit hx hb j).2 ⟨a1, i, a2, a3⟩] at hb2; cases hb2
        omega)
      have in1 : ∀ i, x.testBit i = true → (nbs R x b).testBit (f1 i) = true := fun i hi => (nbs_testBit hx hb _).2 ⟨(p1 i hi).1, i, hi, (p1 i hi).2⟩
      have in2 : ∀ i, a.testBit i = true → x.testBit i = false → (minus a x).testBit i = true := fun i hi hn => (diff_testBit ha hx i).2 ⟨hi, hn⟩
      refine ⟨fun i => if x.testBit i = true then f1 i else f2 i, fun i hi => ?_, fun i j hi hj he => ?_⟩
      · cases hxi : x.testBit i with
        | true => simp only [hxi, if_true]; exact p1 i hxi
        | false =>
          simp only [hxi, Bool.false_eq_true, if_false]
          obtain ⟨u, v⟩ := p2 i (in2 i hi hxi)
          exact ⟨((diff_testBit hb hnl _).1 u).1, v⟩
      · cases hxi : x.testBit i with
        | true =>
          cases hxj : x.testBit j with
          | true => simp only [hxi, hxj, if_true] at he; exact q1 i j hxi hxj he
          | false =>
            simp only [hxi, hxj, if_true, Bool.false_eq_true, if_false] at he
            have h1 := in1 i hxi
            have h2 := ((diff_testBit hb hnl _).1 (p2 j (in2 j hj hxj)).1).2
            rw [← he, h1] at h2; cases h2
        | false =>
          cases hxj : x.testBit j with
          | true =>
            simp only [hxi, hxj, if_true, Bool.false_eq_true, if_false] at he
            have h1 := in1 j hxj
            have h2 := ((diff_testBit hb hnl _).1 (p2 i (in2 i hi hxi)).1).2
            rw [he, h1] at h2; cases h2
          | false =>
            simp only [hxi, hxj, Bool.false_eq_true, if_false] at he
            exact q2 i j (in2 i hi hxi) (in2 j hj hxj) he
    · -- one is given any, and the rest goes on
      obtain ⟨g, hg⟩ := pos_iff.1 h0
      have hg6 := in6 ha hg
      have hpg : 2 ^ g < 64 := by
        have : 2 ^ g < 2 ^ 6 := Nat.pow_lt_pow_right (by omega) hg6
        omega
      have hgs : ∀ j, (2 ^ g).testBit j = true → a.testBit j = true := fun j hj => by rw [testBit_pow, decide_eq_true_eq] at hj; rw [← hj]; exact hg
      have z1 : size (2 ^ g) = 1 := by
        have := size_add (s := 0) (k := g) (by omega) hg6 (Nat.zero_testBit g)
        rw [Nat.zero_or] at this
        rw [this]; decide
      have h1 := hc (2 ^ g) hpg hgs
      have hne : nbs R (2 ^ g) b ≠ 0 := fun he => by
        have : size (nbs R (2 ^ g) b) = 0 := by rw [he]; decide
        omega
      obtain ⟨t, htb⟩ := pos_iff.1 hne
      obtain ⟨hbt, i, hi, hR⟩ := (nbs_testBit hpg hb t).1 htb
      have hig : i = g := by rw [testBit_pow, decide_eq_true_eq] at hi; exact hi.symm
      subst hig
      have ht6 := in6 hb hbt
      have ba := bits_sub a ha i hg6 hg
      have bb := bits_sub b hb t ht6 hbt
      obtain ⟨f, p, q⟩ := ih (a - 2 ^ i) (b - 2 ^ t) ba.1 bb.1 (by omega) (fun x hx hxa => by
        by_cases hx0 : x = 0
        · subst hx0
          have : size 0 = 0 := by decide
          omega
        have hxa' : ∀ j, x.testBit j = true → a.testBit j = true := fun j hj => by
          have := hxa j hj
          rw [sub_testBit ha hg6 hg, Bool.and_eq_true] at this
          exact this.1
        have hxne : x ≠ a := fun he => by
          have := hxa i (by rw [he]; exact hg)
          rw [sub_testBit ha hg6 hg] at this
          simp at this
        have h2 : size x + 1 ≤ size (nbs R x b) := by
          refine Classical.byContradiction fun hlt => ht ⟨x, hx, hxa', hx0, hxne, by omega⟩
        have h3 : size (nbs R x b) ≤ size (nbs R x (b - 2 ^ t)) + 1 := by
          have hle : size (nbs R x b) ≤ size (nbs R x (b - 2 ^ t) ||| 2 ^ t) := by
            refine size_mono6 (nbs_lt _ _ _) (by
              have hp : 2 ^ t < 2 ^ 6 := Nat.pow_lt_pow_right (by omega) ht6
              have : nbs R x (b - 2 ^ t) ||| 2 ^ t < 2 ^ 6 := Nat.or_lt_two_pow (nbs_lt _ _ _) hp
              omega) fun j hj => ?_
            obtain ⟨a1, k, a2, a3⟩ := (nbs_testBit hx hb j).1 hj
            rw [or_testBit]
            by_cases hjt : j = t
            · exact .inr hjt
            · exact .inl ((nbs_testBit hx bb.1 j).2 ⟨by rw [sub_testBit hb ht6 hbt, a1]; simp [hjt], k, a2, a3⟩)
          rw [size_add (nbs_lt _ _ _) ht6 (not_true fun hcc => by
            have := ((nbs_testBit hx bb.1 t).1 hcc).1
            rw [sub_testBit hb ht6 hbt] at this; simp at this)] at hle
          exact hle
        omega)
      have ina : ∀ k, a.testBit k = true → k ≠ i → (a - 2 ^ i).testBit k = true := fun k hk hki => by rw [sub_testBit ha hg6 hg, hk]; simp [hki]
      have outb : ∀ k, a.testBit k = true → k ≠ i → f k ≠ t ∧ b.testBit (f k) = true := fun k hk hki => by
        have := (p k (ina k hk hki)).1
        rw [sub_testBit hb ht6 hbt, Bool.and_eq_true] at this
        exact ⟨by simpa using this.2, this.1⟩
      refine ⟨fun k => if k = i then t else f k, fun k hk => ?_, fun k j hk hj he => ?_⟩
      · by_cases hki : k = i
        · simp only [hki, if_true]; exact ⟨hbt, hR⟩
        · simp only [hki, if_false]; exact ⟨(outb k hk hki).2, (p k (ina k hk hki)).2⟩
      · by_cases hki : k = i
        · by_cases hji : j = i
          · rw [hki, hji]
          · simp only [hki, hji, if_true, if_false] at he
            exact absurd he.symm (outb j hj hji).1
        · by_cases hji : j = i
          · simp only [hki, hji, if_true, if_false] at he
            exact absurd he (outb k hk hki).1
          · simp only [hki, hji, if_false] at he
            exact q k j (ina k hk hki) (ina j hj hji) he
end Go.Proofs.Ytlamfgocbekgpaa
/- All guards move, for ever: plain facts. Conditions: those of each theorem. -/
namespace Go.Proofs.Ytlamfgocbekgpaa
set_option linter.unusedVariables false
set_option linter.unusedSimpArgs false

/-- The guards of one set can be at the places of another one, each staying or moving to a neighbour. -/
def AllMove (net : List Int) (a b : Nat) : Prop := size a = size b ∧ ∃ f : Nat → Nat, (∀ i, a.testBit i = true → b.testBit (f i) = true ∧ (ball net i).testBit (f i) = true) ∧ ∀ i j, a.testBit i = true → a.testBit j = true → f i = f j → i = j
theorem allMove_refl (net : List Int) (a : Nat) : AllMove net a a := ⟨rfl, fun i => i, fun i hi => ⟨hi, sees_self net i⟩, fun i j _ _ he => he⟩
/-- A family of sets that can answer each place by all moving. -/
def ClosedA (net : List Int) (F : Nat → Prop) : Prop := ∀ t, t < 2 ^ net.length → F t → ∀ k, k < net.length → t.testBit k = false → ∃ u, u < 2 ^ net.length ∧ u.testBit k = true ∧ AllMove net t u ∧ F u
def AllEternal (net : List Int) (s : Nat) : Prop := ∃ F, ClosedA net F ∧ F s
/-! ### No more than are apart -/
theorem allMove_union {net : List Int} (h : Ok net) {a b c : Nat} (ha : a < 2 ^ net.length) (hb : b < 2 ^ net.length) (hc : c < 2 ^ net.length) (hac : ∀ j, a.testBit j = true → c.testBit j = false) (hbc : ∀ j, b.testBit j = true → c.testBit j = false) {d : Nat} (hd : d < 2 ^ net.length) (had : ∀ j, b.testBit j = true → d.testBit j = false) (hm : AllMove net a b) (hm2 : AllMove net c d) : AllMove net (a ||| c) (b ||| d) := by
  obtain ⟨hz, f, hf, hi⟩ := hm
  obtain ⟨hz2, g, hg, hj⟩ := hm2
  refine ⟨by rw [size_disj (lt64 h ha) (lt64 h hc) hac, size_disj (lt64 h hb) (lt64 h hd) had]; omega, fun i => if a.testBit i = true then f i else g i, fun i hx => ?_, fun i j hx hy he => ?_⟩
  · cases hai : a.testBit i with
    | true => simp only [hai, if_true]; exact ⟨(or2 _ _ _).2 (.inl (hf i hai).1), (hf i hai).2⟩
    | false =>
      have hci : c.testBit i = true := by
        rcases (or2 _ _ _).1 hx with hh | hh
        · rw [hai] at hh; cases hh
        · exact hh
      simp only [hai, Bool.false_eq_true, if_false]; exact ⟨(or2 _ _ _).2 (.inr (hg i hci).1), (hg i hci).2⟩
  · have inc : ∀ k, (a ||| c).testBit k = true → a.testBit k = false → c.testBit k = true := fun k hk hn => by
      rcases (or2 _ _ _).1 hk with hh | hh
      · rw [hn] at hh; cases hh
      · exact hh
    cases hai : a.testBit i with
    | true =>
      cases haj : a.testBit j with
      | true => simp only [hai, haj, if_true] at he; exact hi i j hai haj he
      | false =>
        simp only [hai, haj, if_true, Bool.false_eq_true, if_false] at he
        have h1 := had _ (hf i hai).1
        rw [he, (hg j (inc j hy haj)).1] at h1; cases h1
    | false =>
      cases haj : a.testBit j with
      | true =>
        simp only [hai, haj, if_true, Bool.false_eq_true, if_false] at he
        have h1 := had _ (hf j haj).1
        rw [← he, (hg i (inc i hx hai)).1] at h1; cases h1
      | false => simp only [hai, haj, Bool.false_eq_true, if_false] at he; exact hj i j (inc i hx hai) (inc j hy haj) he
/-- From largest apart set to largest apart set all can move. -/
theorem allMove_apart {net : List Int} (h : Ok net) {u m a b : Nat} (hu : u < 2 ^ net.length) (hmax : ∀ x, x < 2 ^ net.length → (∀ j, x.testBit j = true → u.testBit j = true) → Apart net x → size x ≤ m)
    (ha : a < 2 ^ net.length) (hau : ∀ j, a.testBit j = true → u.testBit j = true) (hA : Apart net a) (haz : size a = m) (hb : b < 2 ^ net.length) (hbu : ∀ j, b.testBit j = true → u.testBit j = true) (hB : Apart net b) (hbz : size b = m) : AllMove net a b := by
  have h64 := h.pow
  refine ⟨by omega, ?_⟩
  have key : ∀ x, x < 64 → (∀ j, x.testBit j = true → a.testBit j = true) → size x ≤ size (nbs (fun i j => (ball net i).testBit j) x b) := by
    intro x hx hxa
    have hxl : x < 2 ^ net.length := by
      refine Classical.byContradiction fun hge => ?_
      have hle := Nat.ge_of_not_lt hge
      have : ∃ j, net.length ≤ j ∧ x.testBit j = true := by
        obtain ⟨j, hj1, hj2⟩ := Nat.exists_ge_and_testBit_of_ge_two_pow hle
        exact ⟨j, hj1, hj2⟩
      obtain ⟨j, hj1, hj2⟩ := this
      have := in_lt ha (hxa j hj2)
      omega
    have hnl := nbs_lt (fun i j => (ball net i).testBit j) x b
    have hnb := fun j => nbs_testBit (R := fun i j => (ball net i).testBit j) hx (lt64 h hb) j
    have hdl : minus b (nbs (fun i j => (ball net i).testBit j) x b) < 2 ^ net.length := Nat.lt_of_le_of_lt Nat.and_le_left hb
    have hd := fun j => diff_testBit (lt64 h hb) hnl j
    have hdis : ∀ j, (minus b (nbs (fun i j => (ball net i).testBit j) x b)).testBit j = true → x.testBit j = false := fun j hj => not_true fun hc => by
      obtain ⟨h1, h2⟩ := (hd j).1 hj
      rw [(hnb j).2 ⟨h1, j, hc, sees_self net j⟩] at h2; cases h2
    have hcross : ∀ i j, x.testBit i = true → (minus b (nbs (fun i j => (ball net i).testBit j) x b)).testBit j = true → (nb net i).testBit j = false := fun i j hi hj => not_true fun hc => by
      obtain ⟨h1, h2⟩ := (hd j).1 hj
      rw [(hnb j).2 ⟨h1, i, hi, (ball_testBit _ _ _).2 (.inl hc)⟩] at h2; cases h2
    have hU : Apart net (minus b (nbs (fun i j => (ball net i).testBit j) x b) ||| x) := fun i j hi hj => by
      rcases (or2 _ _ _).1 hi with hi | hi <;> rcases (or2 _ _ _).1 hj with hj | hj
      · exact hB i j ((hd i).1 hi).1 ((hd j).1 hj).1
      · rw [h.sym j i (in_lt hxl hj) (in_lt hdl hi)]; exact hcross j i hj hi
      · exact hcross i j hi hj
      · exact hA i j (hxa i hi) (hxa j hj)
    have h1 := hmax _ (Nat.or_lt_two_pow hdl hxl) (fun j hj => by
      rcases (or2 _ _ _).1 hj with hj | hj
      · exact hbu j ((hd j).1 hj).1
      · exact hau j (hxa j hj)) hU
    rw [size_disj (lt64 h hdl) hx hdis] at h1
    have h2 := size_diff (lt64 h hb) hnl (fun j hj => ((hnb j).1 hj).1)
    omega
  obtain ⟨f, p, q⟩ := hall (fun i j => (ball net i).testBit j) 6 a b (lt64 h ha) (lt64 h hb) (size_le a) key
  exact ⟨f, p, q⟩
theorem size_one {k : Nat} (hk : k < 6) : size (2 ^ k) = 1 := by
  have := size_add (s := 0) (k := k) (by omega) hk (Nat.zero_testBit k)
  rw [Nat.zero_or] at this
  rw [this]; decide
/-- Within any set of places: a family with no more guards than are apart in it. -/
theorem family {net : List Int} (h : Ok net) : ∀ c u, size u ≤ c → u < 2 ^ net.length → ∀ m, (∀ x, x < 2 ^ net.length → (∀ j, x.testBit j = true → u.testBit j = true) → Apart net x → size x ≤ m) →
    ∃ F : Nat → Prop, (∃ s, F s) ∧ (∀ t, F t → t < 2 ^ net.length ∧ (∀ j, t.testBit j = true → u.testBit j = true) ∧ size t ≤ m) ∧
      ∀ t, F t → ∀ k, u.testBit k = true → t.testBit k = false → ∃ v, v.testBit k = true ∧ AllMove net t v ∧ F v := by
  have h6 := h.hi
  intro c
  induction c with
  | zero =>
    intro u hc hu m hm
    have hu0 := size_zero (lt64 h hu) (by omega)
    subst hu0
    refine ⟨fun t => t = 0, ⟨0, rfl⟩, fun t ht => ?_, fun t _ k hk => by rw [Nat.zero_testBit] at hk; cases hk⟩
    subst ht
    have : size 0 = 0 := by decide
    exact ⟨hu, fun j hj => hj, by omega⟩
  | succ c ih =>
    intro u hc hu m hm
    -- the most that are apart in u
    have hmx : ∃ M, M ≤ m ∧ (∃ x, x < 2 ^ net.length ∧ (∀ j, x.testBit j = true → u.testBit j = true) ∧ Apart net x ∧ size x = M) ∧ ∀ x, x < 2 ^ net.length → (∀ j, x.testBit j = true → u.testBit j = true) → Apart net x → size x ≤ M := by
      have hex : ∀ d, d ≤ m → (∃ x, x < 2 ^ net.length ∧ (∀ j, x.testBit j = true → u.testBit j = true) ∧ Apart net x ∧ m - d ≤ size x) → ∃ M, M ≤ m ∧ (∃ x, x < 2 ^ net.length ∧ (∀ j, x.testBit j = true → u.testBit j = true) ∧ Apart net x ∧ size x = M) ∧ ∀ x, x < 2 ^ net.length → (∀ j, x.testBit j = true → u.testBit j = true) → Apart net x → size x ≤ M := by
        intro d
        induction d with
        | zero =>
          rintro _ ⟨x, a, b, e, f⟩
          have := hm x a b e
          exact ⟨m, Nat.le_refl _, ⟨x, a, b, e, by omega⟩, hm⟩
        | succ d ihd =>
          rintro hd ⟨x, a, b, e, f⟩
          by_cases hy : ∃ y, y < 2 ^ net.length ∧ (∀ j, y.testBit j = true → u.testBit j = true) ∧ Apart net y ∧ m - d ≤ size y
          · exact ihd (by omega) hy
          · have hno : ∀ y, y < 2 ^ net.length → (∀ j, y.testBit j = true → u.testBit j = true) → Apart net y → size y ≤ m - (d + 1) := fun y p q r => by
              refine Classical.byContradiction fun hlt => hy ⟨y, p, q, r, by omega⟩
            have := hno x a b e
            exact ⟨m - (d + 1), by omega, ⟨x, a, b, e, by omega⟩, hno⟩
      refine hex m (Nat.le_refl _) ⟨0, Nat.two_pow_pos _, fun j hj => (by rw [Nat.zero_testBit] at hj; cases hj), Apart.zero net, by omega⟩
    obtain ⟨M, hMm, ⟨x0, x0l, x0u, x0A, x0z⟩, hM⟩ := hmx
    by_cases hcov : ∀ v, u.testBit v = true → ∃ x, x < 2 ^ net.length ∧ (∀ j, x.testBit j = true → u.testBit j = true) ∧ Apart net x ∧ size x = M ∧ x.testBit v = true
    · -- all largest apart sets
      refine ⟨fun t => t < 2 ^ net.length ∧ (∀ j, t.testBit j = true → u.testBit j = true) ∧ Apart net t ∧ size t = M, ⟨x0, x0l, x0u, x0A, x0z⟩, fun t ⟨a, b, _, d⟩ => ⟨a, b, by omega⟩, fun t ⟨a, b, e, d⟩ k hk hb => ?_⟩
      obtain ⟨y, y1, y2, y3, y4, y5⟩ := hcov k hk
      exact ⟨y, y5, allMove_apart h hu hM a b e d y1 y2 y3 y4, y1, y2, y3, y4⟩
    · -- a place that is in none: it and its neighbours take two
      have : ∃ v, u.testBit v = true ∧ ∀ x, x < 2 ^ net.length → (∀ j, x.testBit j = true → u.testBit j = true) → Apart net x → x.testBit v = true → size x + 1 ≤ M := by
        refine Classical.byContradiction fun hno => hcov fun v hv => Classical.byContradiction fun hno2 => hno ⟨v, hv, fun x p q r s => ?_⟩
        have h1 := hM x p q r
        refine Classical.byContradiction fun hlt => hno2 ⟨x, p, q, r, by omega, s⟩
      obtain ⟨v, hv, hvn⟩ := this
      have hvl := in_lt hu hv
      have hbl := h.ball_lt hvl
      have hul : minus u (ball net v) < 2 ^ net.length := Nat.lt_of_le_of_lt Nat.and_le_left hu
      have hub : ∀ j, (minus u (ball net v)).testBit j = true ↔ u.testBit j = true ∧ (ball net v).testBit j = false := fun j => diff_testBit (lt64 h hu) (lt64 h hbl) j
      -- fewer are apart there
      have hless : ∀ x, x < 2 ^ net.length → (∀ j, x.testBit j = true → (minus u (ball net v)).testBit j = true) → Apart net x → size x + 2 ≤ M := fun x p q r => by
        have hxv : x.testBit v = false := not_true fun hcc => by
          have := ((hub v).1 (q v hcc)).2
          rw [sees_self] at this; cases this
        have hA := r.add h p hvl (fun j hj => not_true fun hcc => by
          have := ((hub j).1 (q j hj)).2
          rw [(ball_testBit _ _ _).2 (.inl hcc)] at this; cases this)
        have h1 := hvn (x ||| 2 ^ v) (or_lt p hvl) (fun j hj => by
          rcases (or_testBit _ _ _).1 hj with hj | rfl
          · exact ((hub j).1 (q j hj)).1
          · exact hv) hA ((or_testBit _ _ _).2 (.inr rfl))
        rw [size_add (lt64 h p) (by omega) hxv] at h1
        omega
      have hM2 : 2 ≤ M := by
        have := hless 0 (Nat.two_pow_pos _) (fun j hj => by rw [Nat.zero_testBit] at hj; cases hj) (Apart.zero net)
        omega
      -- a neighbour in u
      have hnbr : ∃ y, u.testBit y = true ∧ (nb net v).testBit y = true := by
        refine Classical.byContradiction fun hno => ?_
        have hA := x0A.add h x0l hvl (fun j hj => not_true fun hcc => hno ⟨j, x0u j hj, hcc⟩)
        have h1 := hvn (x0 ||| 2 ^ v) (or_lt x0l hvl) (fun j hj => by
          rcases (or_testBit _ _ _).1 hj with hj | rfl
          · exact x0u j hj
          · exact hv) hA ((or_testBit _ _ _).2 (.inr rfl))
        have h2 : size x0 ≤ size (x0 ||| 2 ^ v) := size_mono6 (lt64 h x0l) (lt64 h (or_lt x0l hvl)) fun j hj => (or_testBit _ _ _).2 (.inl hj)
        omega
      obtain ⟨y0, hy0u, hy0⟩ := hnbr
      have hsz : size (minus u (ball net v)) ≤ c := by
        have h1 : size (minus u (ball net v)) + 1 ≤ size u := by
          have hvb : (minus u (ball net v)).testBit v = false := not_true fun hcc => by
            have := ((hub v).1 hcc).2
            rw [sees_self] at this; cases this
          rw [← size_add (lt64 h hul) (k := v) (by omega) hvb]
          refine size_mono6 (lt64 h (or_lt hul hvl)) (lt64 h hu) fun j hj => ?_
          rcases (or_testBit _ _ _).1 hj with hj | rfl
          · exact ((hub j).1 hj).1
          · exact hv
        omega
      obtain ⟨F, ⟨s0, hs0⟩, hF, hcl⟩ := ih (minus u (ball net v)) hsz hul (M - 2) (fun x p q r => by have := hless x p q r; omega)
      -- the pairs of the place and a neighbour
      have pl : ∀ y, y < net.length → 2 ^ v ||| 2 ^ y < 2 ^ net.length := fun y hy => or_lt (Nat.pow_lt_pow_right (by omega) hvl) hy
      have pb : ∀ y j, (2 ^ v ||| 2 ^ y).testBit j = true ↔ j = v ∨ j = y := fun y j => by
        rw [or_testBit, testBit_pow, decide_eq_true_eq]
        exact ⟨fun hh => hh.elim (fun e => .inl e.symm) .inr, fun hh => hh.elim (fun e => .inl e.symm) .inr⟩
      have pz : ∀ y, y < net.length → y ≠ v → size (2 ^ v ||| 2 ^ y) = 2 := fun y hy hne => by
        have hpv : 2 ^ v < 64 := lt64 h (Nat.pow_lt_pow_right (by omega) hvl)
        rw [size_add hpv (by omega) (by rw [testBit_pow]; simp; omega), size_one (by omega)]
      have yne : ∀ y, (nb net v).testBit y = true → y ≠ v := fun y hy he => by rw [he, h.irr v hvl] at hy; cases hy
      have apart2 : ∀ t, F t → ∀ y, (nb net v).testBit y = true → ∀ j, t.testBit j = true → (2 ^ v ||| 2 ^ y).testBit j = false := fun t ht y hy j hj => not_true fun hcc => by
        have h1 := ((hub j).1 ((hF t ht).2.1 j hj)).2
        rcases (pb y j).1 hcc with e | e
        · rw [e, sees_self] at h1; cases h1
        · rw [e, (ball_testBit _ _ _).2 (.inl hy)] at h1; cases h1
      refine ⟨fun q => ∃ t y, F t ∧ u.testBit y = true ∧ (nb net v).testBit y = true ∧ q = t ||| (2 ^ v ||| 2 ^ y), ⟨_, s0, y0, hs0, hy0u, hy0, rfl⟩, ?_, ?_⟩
      · rintro _ ⟨t, y, ht, hyu, hy, rfl⟩
        obtain ⟨t1, t2, t3⟩ := hF t ht
        have hyl := h.nb_lt hvl hy
        refine ⟨Nat.or_lt_two_pow t1 (pl y hyl), fun j hj => ?_, ?_⟩
        · rcases (or2 _ _ _).1 hj with hj | hj
          · exact ((hub j).1 (t2 j hj)).1
          · rcases (pb y j).1 hj with e | e
            · rw [e]; exact hv
            · rw [e]; exact hyu
        · rw [size_disj (lt64 h t1) (lt64 h (pl y hyl)) (apart2 t ht y hy), pz y hyl (yne y hy)]; omega
      · rintro _ ⟨t, y, ht, hyu, hy, rfl⟩ k hk hb
        obtain ⟨t1, t2, t3⟩ := hF t ht
        have hyl := h.nb_lt hvl hy
        have hkl := in_lt hu hk
        cases hkb : (ball net v).testBit k with
        | false =>
          -- the others answer
          have htk : t.testBit k = false := not_true fun hcc => by rw [(or2 _ _ _).2 (.inl hcc)] at hb; cases hb
          obtain ⟨w, w1, w2, w3⟩ := hcl t ht k ((hub k).2 ⟨hk, hkb⟩) htk
          exact ⟨w ||| (2 ^ v ||| 2 ^ y), (or2 _ _ _).2 (.inl w1), allMove_union h t1 (hF w w3).1 (pl y hyl) (apart2 t ht y hy) (apart2 w w3 y hy) (pl y hyl) (apart2 w w3 y hy) w2 (allMove_refl net _), w, y, w3, hyu, hy, rfl⟩
        | true =>
          -- the two of them answer
          have hkv : k ≠ v := fun he => by rw [he, (or2 _ _ _).2 (.inr ((pb y v).2 (.inl rfl)))] at hb; cases hb
          have hky : k ≠ y := fun he => by rw [he, (or2 _ _ _).2 (.inr ((pb y y).2 (.inr rfl)))] at hb; cases hb
          have hkn : (nb net v).testBit k = true := by
            rcases (ball_testBit _ _ _).1 hkb with e | e
            · exact e
            · exact absurd e.symm hkv
          have hmv : AllMove net (2 ^ v ||| 2 ^ y) (2 ^ v ||| 2 ^ k) := by
            refine ⟨by rw [pz y hyl (yne y hy), pz k hkl hkv], fun i => if i = y then v else k, fun i hi => ?_, fun i j hi hj he => ?_⟩
            · by_cases hiy : i = y
              · simp only [hiy, if_true]
                exact ⟨(pb k v).2 (.inl rfl), (ball_testBit _ _ _).2 (.inl (by rw [h.sym v y hvl hyl]; exact hy))⟩
              · simp only [hiy, if_false]
                have hiv : i = v := by
                  rcases (pb y i).1 hi with e | e
                  · exact e
                  · exact absurd e hiy
                rw [hiv]
                exact ⟨(pb k k).2 (.inr rfl), (ball_testBit _ _ _).2 (.inl hkn)⟩
            · by_cases hiy : i = y <;> by_cases hjy : j = y
              · rw [hiy, hjy]
              · simp only [hiy, hjy, if_true, if_false] at he; exact absurd he.symm hkv
              · simp only [hiy, hjy, if_true, if_false] at he; exact absurd he hkv
              · rcases (pb y i).1 hi with e | e
                · rcases (pb y j).1 hj with e2 | e2
                  · rw [e, e2]
                  · exact absurd e2 hjy
                · exact absurd e hiy
          exact ⟨t ||| (2 ^ v ||| 2 ^ k), (or2 _ _ _).2 (.inr ((pb k k).2 (.inr rfl))), allMove_union h t1 t1 (pl y hyl) (apart2 t ht y hy) (apart2 t ht y hy) (pl k hkl) (apart2 t ht k hkn) (allMove_refl net _) hmv, t, k, ht, hk, hkn, rfl⟩
end Go.Proofs.Ytlamfgocbekgpaa
/- All guards move over a joined watch: one more guard than stand together. Conditions: those of each theorem. -/
namespace Go.Proofs.Ytlamfgocbekgpaa
set_option linter.unusedVariables false
set_option linter.unusedSimpArgs false

/-- The way from a towards r by parents. -/
def wayTo (p : Nat → Nat) (r a : Nat) : Nat → Nat
  | 0 => a
  | i + 1 => if wayTo p r a i = r then r else p (wayTo p r a i)
theorem shift {net : List Int} (h : Ok net) {s : Nat} (hs : s < 2 ^ net.length) (hT : Together net s) {v w a b : Nat} (hv : v < net.length) (hvs : s.testBit v = false) (hw : w < net.length) (hws : s.testBit w = false)
    (ha : s.testBit a = true) (hva : (nb net v).testBit a = true) (hb : s.testBit b = true) (hbw : (nb net b).testBit w = true) : AllMove net (s ||| 2 ^ v) (s ||| 2 ^ w) := by
  have h6 := h.hi
  obtain ⟨lv, p, hl0, hp⟩ := steps_lvl h hs hb hT
  let q := wayTo p b a
  have q0 : q 0 = a := rfl
  have qs : ∀ i, q (i + 1) = if q i = b then b else p (q i) := fun i => rfl
  have qin : ∀ i, s.testBit (q i) = true := by
    intro i
    induction i with
    | zero => exact ha
    | succ i ih =>
      rw [qs]
      split
      · exact hb
      · rename_i hne; exact (hp _ ih hne).1
  have qlv : ∀ i, lv (q (i + 1)) ≤ lv (q i) := fun i => by
    rw [qs]
    split
    · rw [hl0]; exact Nat.zero_le _
    · rename_i hne; exact Nat.le_of_lt (hp _ (qin i) hne).2.2.1
  have qmono : ∀ i j, i ≤ j → lv (q j) ≤ lv (q i) := by
    intro i j hij
    induction j with
    | zero => obtain rfl : i = 0 := by omega
              exact Nat.le_refl _
    | succ j ih =>
      by_cases he : i = j + 1
      · rw [he]; exact Nat.le_refl _
      · exact Nat.le_trans (qlv j) (ih (by omega))
  have hvb : ∀ x, (s ||| 2 ^ v).testBit x = true ↔ s.testBit x = true ∨ x = v := fun x => or_testBit _ _ _
  have hwb : ∀ x, (s ||| 2 ^ w).testBit x = true ↔ s.testBit x = true ∨ x = w := fun x => or_testBit _ _ _
  -- on the way or not
  let f : Nat → Nat := fun x => if x = v then a else @ite _ (∃ i, q i = x) (Classical.propDecidable _) (if x = b then w else p x) x
  have f1 : ∀ x, x = v → f x = a := fun x hx => by show (if x = v then _ else _) = _; rw [if_pos hx]
  have f2 : ∀ x, x ≠ v → (∃ i, q i = x) → x = b → f x = w := fun x hx hi he => by show (if x = v then _ else _) = _; rw [if_neg hx, if_pos hi, if_pos he]
  have f3 : ∀ x, x ≠ v → (∃ i, q i = x) → x ≠ b → f x = p x := fun x hx hi he => by show (if x = v then _ else _) = _; rw [if_neg hx, if_pos hi, if_neg he]
  have f4 : ∀ x, x ≠ v → (¬ ∃ i, q i = x) → f x = x := fun x hx hi => by show (if x = v then _ else _) = _; rw [if_neg hx, if_neg hi]
  have sv : ∀ x, s.testBit x = true → x ≠ v := fun x hx he => by rw [he, hvs] at hx; cases hx
  have sw : ∀ x, s.testBit x = true → x ≠ w := fun x hx he => by rw [he, hws] at hx; cases hx
  have pway : ∀ x, (∃ i, q i = x) → x ≠ b → ∃ i, q i = p x := fun x ⟨i, hi⟩ hne => ⟨i + 1, by rw [qs, hi, if_neg hne]⟩
  refine ⟨?_, f, fun x hx => ?_, fun x y hx hy he => ?_⟩
  · rw [size_add (lt64 h hs) (by omega) hvs, size_add (lt64 h hs) (by omega) hws]
  · rcases (hvb x).1 hx with hx | hx
    · by_cases hi : ∃ i, q i = x
      · by_cases hxb : x = b
        · rw [f2 x (sv x hx) hi hxb, hxb]
          exact ⟨(hwb w).2 (.inr rfl), (ball_testBit _ _ _).2 (.inl hbw)⟩
        · rw [f3 x (sv x hx) hi hxb]
          obtain ⟨c, d, _⟩ := hp x hx hxb
          exact ⟨(hwb _).2 (.inl c), (ball_testBit _ _ _).2 (.inl d)⟩
      · rw [f4 x (sv x hx) hi]
        exact ⟨(hwb x).2 (.inl hx), sees_self net x⟩
    · rw [f1 x hx, hx]
      exact ⟨(hwb a).2 (.inl ha), (ball_testBit _ _ _).2 (.inl hva)⟩
  · -- no two go to one place
    have key : ∀ x y, s.testBit x = true → s.testBit y = true → f x = f y → x = y := by
      intro x y hx hy he
      by_cases hi : ∃ i, q i = x
      · by_cases hxb : x = b
        · rw [f2 x (sv x hx) hi hxb] at he
          by_cases hj : ∃ i, q i = y
          · by_cases hyb : y = b
            · rw [hxb, hyb]
            · rw [f3 y (sv y hy) hj hyb] at he
              exact absurd he.symm (sw _ (hp y hy hyb).1)
          · rw [f4 y (sv y hy) hj] at he
            exact absurd he.symm (sw _ hy)
        · rw [f3 x (sv x hx) hi hxb] at he
          by_cases hj : ∃ i, q i = y
          · by_cases hyb : y = b
            · rw [f2 y (sv y hy) hj hyb] at he
              exact absurd he (sw _ (hp x hx hxb).1)
            · rw [f3 y (sv y hy) hj hyb] at he
              obtain ⟨i, hi⟩ := hi
              obtain ⟨j, hj⟩ := hj
              have e1 : q (i + 1) = p x := by rw [qs, hi, if_neg hxb]
              have e2 : q (j + 1) = p y := by rw [qs, hj, if_neg hyb]
              have l1 := (hp x hx hxb).2.2.1
              have l2 := (hp y hy hyb).2.2.1
              rcases Nat.lt_trichotomy i j with hlt | heq | hgt
              · have := qmono (i + 1) j (by omega)
                rw [e1, hj, he] at this; omega
              · rw [← hi, ← hj, heq]
              · have := qmono (j + 1) i (by omega)
                rw [e2, hi, ← he] at this; omega
          · rw [f4 y (sv y hy) hj] at he
            exact absurd (he ▸ pway x hi hxb) hj
      · rw [f4 x (sv x hx) hi] at he
        by_cases hj : ∃ i, q i = y
        · by_cases hyb : y = b
          · rw [f2 y (sv y hy) hj hyb] at he
            exact absurd he (sw _ hx)
          · rw [f3 y (sv y hy) hj hyb] at he
            exact absurd (he ▸ pway y hj hyb) hi
        · rw [f4 y (sv y hy) hj] at he; exact he
    have keyv : ∀ y, s.testBit y = true → f y ≠ a := by
      intro y hy he
      by_cases hj : ∃ i, q i = y
      · by_cases hyb : y = b
        · rw [f2 y (sv y hy) hj hyb] at he
          exact sw a ha he.symm
        · rw [f3 y (sv y hy) hj hyb] at he
          obtain ⟨j, hj⟩ := hj
          have l2 := (hp y hy hyb).2.2.1
          have := qmono 0 j (Nat.zero_le _)
          rw [q0, hj] at this
          rw [he] at l2
          omega
      · rw [f4 y (sv y hy) hj] at he
        exact hj ⟨0, by rw [q0, he]⟩
    rcases (hvb x).1 hx with hx | hx <;> rcases (hvb y).1 hy with hy | hy
    · exact key x y hx hy he
    · rw [f1 y hy] at he; exact absurd he (keyv x hx)
    · rw [f1 x hx] at he; exact absurd he.symm (keyv y hy)
    · rw [hx, hy]
end Go.Proofs.Ytlamfgocbekgpaa
/- Lists of watches, counts of watches, thinned watches. Conditions: those of each theorem. -/
namespace Go.Proofs.Ytlamfgocbekgpaa
open D Go.RowKit
set_option linter.unusedVariables false
set_option linter.unusedSimpArgs false


theorem small_of {n : Nat} (h : n ≤ 1000000) : small n = true := by unfold small; rw [decide_eq_true_eq]; omega
/-- All numbers below N of a kind. -/
def listOfN (N : Nat) (p : Nat → Bool) : List Int := fold N (fun l s => if p s = true then l ++ [(s : Int)] else l) []
/-- How many watches there are of each number of places. -/
def counts (net : List Int) : List Int := fold (2 ^ net.length) (fun l s => if W net s = true then l.set (size s) (D.eli l (size s) + 1) else l) (List.replicate (net.length + 1) 0)
theorem eli_set {l : List Int} {a b : Nat} {v : Int} (ha : a < l.length) : D.eli (l.set a v) b = if a = b then v else D.eli l b := by
  unfold D.eli
  by_cases h : a = b
  · subst h; simp [List.getD, ha]
  · simp [List.getD, List.getElem?_set_ne h, h]
theorem eli_rep (n k : Nat) : D.eli (List.replicate n 0) k = 0 := by
  unfold D.eli
  by_cases h : k < n <;> simp [List.getD, h]
/-- The bounds of the counts on the way. -/
def CInv (net : List Int) (k : Nat) (t : List Int) : Prop := t.length = net.length + 1 ∧ ∀ j, 0 ≤ D.eli t j ∧ D.eli t j ≤ k
theorem CInv.step {net : List Int} (h : Ok net) {k : Nat} {t : List Int} (hk : k < 2 ^ net.length) (ht : CInv net k t) : CInv net (k + 1) (if W net k = true then t.set (size k) (D.eli t (size k) + 1) else t) := by
  have hz := size_le_len h hk
  split
  · refine ⟨by rw [List.length_set]; exact ht.1, fun j => ?_⟩
    rw [eli_set (by rw [ht.1]; omega)]
    have h1 := ht.2 j
    have h2 := ht.2 (size k)
    split <;> omega
  · exact ⟨ht.1, fun j => by have := ht.2 j; omega⟩
theorem CInv.zero (net : List Int) : CInv net 0 (List.replicate (net.length + 1) 0) := ⟨by simp, fun j => by rw [eli_rep]; omega⟩
/-- What is left of a watch. -/
def thinStep (net : List Int) (t p : Nat) : Nat := if (t.testBit p && W net (t - 2 ^ p)) = true then t - 2 ^ p else t
def thin (net : List Int) (s : Nat) : Nat := fold net.length (fun t k => thinStep net t (net.length - 1 - k)) s
end Go.Proofs.Ytlamfgocbekgpaa
/- What the exact laws need of rows that are marked. Conditions: those of each theorem. -/
namespace Go.Proofs.Ytlamfgocbekgpaa
open D Go.RowKit
set_option linter.unusedVariables false
set_option linter.unusedSimpArgs false


theorem eli_set2 {l : List Int} {a b : Nat} {v : Int} (ha : a < l.length) : D.eli (l.set a v) b = if a = b then v else D.eli l b := by
  unfold D.eli
  by_cases h : a = b
  · subst h; simp [List.getD, ha]
  · simp [List.getD, List.getElem?_set_ne h, h]
theorem L.markIntS_is {a : List Int} {k0 : Nat} (ha : a.length ≤ 3000000) (hk0 : k0 ≤ 3000000) : ∃ m : List Int, L.markIntS_t a k0 = some (((k0 + a.length : Nat) : Int), m) ∧ m.length = a.length ∧ ∀ j, j < a.length → D.eli m j = ((k0 + j : Nat) : Int) := by
  unfold L.markIntS_t L.markIntS_tree
  have := run_for (run := L.markIntS_run2) (len := a.length) (fun k (t : List Int) => (((k0 + k : Nat) : Int), (k : Int), t)) (fun t k => t.set k ((k0 + k : Nat) : Int)) (fun t => (((k0 + a.length : Nat) : Int), t)) (fun k t => t.length = a.length ∧ ∀ j, j < k → D.eli t j = ((k0 + j : Nat) : Int)) (by omega) (fun n k t hk ht => ?_) (fun n t ht => ?_) (t0 := a) ⟨rfl, fun j hj => by omega⟩
  · refine ⟨_, ?_, this.2.1, this.2.2⟩
    exact congrArg (fun o => optC o (fun q => some (q.1, q.2)) none) this.1
  · refine ⟨?_, by rw [List.length_set]; exact ht.1, fun j hj => ?_⟩
    · simp only [L.markIntS_run2, L.markIntS_step2]
      have := ht.1
      rw [cnd_t (by simp; omega), cnd_t (by simp; omega), cnd_t (by simp; omega), Int.toNat_natCast, add1_nat (by omega), add1_nat (by omega)]
      rfl
    · rw [eli_set2 (by rw [ht.1]; exact hk)]
      by_cases hkj : k = j
      · rw [if_pos hkj, hkj]
      · rw [if_neg hkj]; exact ht.2 j (by omega)
  · simp only [L.markIntS_run2, L.markIntS_step2]
    rw [cnd_f (by simp; omega)]
theorem L.heldIntS_is {m : List Int} (ha : m.length ≤ 3000000) (hm : ∀ j, j < m.length → D.eli m j = ((1 + j : Nat) : Int)) : L.heldIntS_t m 1 = some ((1 + m.length : Nat) : Int) := by
  unfold L.heldIntS_t L.heldIntS_tree
  have := (run_for (run := L.heldIntS_run2 m) (len := m.length) (fun k (t : Unit) => (((1 + k : Nat) : Int), (k : Int))) (fun t k => ()) (fun t => Sum.inr (((1 + m.length : Nat) : Int))) (fun k t => True) (by omega) (fun n k t hk ht => ?_) (fun n t ht => ?_) (t0 := ()) trivial).1
  · exact congrArg (fun o => optC o (fun q => sumC q (fun q => some q.2) (fun q => some q)) none) this
  · refine ⟨?_, trivial⟩
    simp only [L.heldIntS_run2, L.heldIntS_step2]
    rw [cnd_t (by simp; omega), cnd_t (by simp; omega), Int.toNat_natCast, hm k hk, cnd_f (by simp), add1_nat (by omega), add1_nat (by omega)]
    rfl
  · simp only [L.heldIntS_run2, L.heldIntS_step2]
    rw [cnd_f (by simp)]
/-- A row marked and held. -/
theorem L.marked {v : List Int} (hv : v.length ≤ 2000000) : ∃ m : List Int, L.markIntS_t v 1 = some (((1 + v.length : Nat) : Int), m) ∧ L.heldIntS_t m 1 = some ((1 + v.length : Nat) : Int) := by
  obtain ⟨m, h1, h2, h3⟩ := L.markIntS_is (a := v) (k0 := 1) (by omega) (by omega)
  refine ⟨m, h1, ?_⟩
  rw [← h2]
  exact L.heldIntS_is (by omega) (by rw [h2]; exact h3)
theorem neg_nat (a : Nat) : decide ((a : Int) < 0) = false := by rw [decide_eq_false_iff_not]; omega
theorem not_beq_self (a : Nat) : (!((a : Int) == (a : Int))) = false := by simp
end Go.Proofs.Ytlamfgocbekgpaa
/- The exact laws of chapter 2. Conditions: those of each theorem. -/
namespace Go.Proofs.Ytlamfgocbekgpaa
open D Go.RowKit
set_option linter.unusedVariables false
set_option linter.unusedSimpArgs false


theorem I.FewestWatch_x {net : List Int} (e : I.NetOk_t net = some false) : I.FewestWatch_t net = some (-1) := by
  unfold I.FewestWatch_t I.FewestWatch_tree; rw [e]; rfl
theorem S.FewestWatch_x {net : List Int} (e : S.NetOk_t net = some false) : S.FewestWatch_t net = some (-1) := by
  unfold S.FewestWatch_t S.FewestWatch_tree; rw [e]; rfl
end Go.Proofs.Ytlamfgocbekgpaa
/- The model's functions of chapters 3 to 5 in natural numbers. Conditions: those of each theorem. -/
namespace Go.Proofs.Ytlamfgocbekgpaa
open D Go.RowKit
set_option linter.unusedVariables false
set_option linter.unusedSimpArgs false


theorem nat_eq0 (a : Nat) : ((a : Int) == 0) = (a == 0) := nat_beq a 0
/-- The answers that are told for any argument. -/
def privI (net : List Int) (s g : Int) : Int := if (0 ≤ s ∧ s < 2 ^ net.length) ∧ (0 ≤ g ∧ g < net.length) ∧ s.toNat.testBit g.toNat = true then ((priv net s.toNat g.toNat : Nat) : Int) else -1
def twiceI (net : List Int) (s : Int) : Int := if 0 ≤ s ∧ s < 2 ^ net.length then ((twice net s.toNat : Nat) : Int) else -1
def grownI (net : List Int) (s : Int) : Int := if (0 ≤ s ∧ s < 2 ^ net.length) ∧ apart net s.toNat = true then ((grown net s.toNat : Nat) : Int) else -1
def chain (net : List Int) : List Int := [((minSize net (fullN net) : Nat) : Int), ((fewest net : Nat) : Int), ((minSize net (fullA net) : Nat) : Int), ((maxSize net (apart net) : Nat) : Int), ((maxSize net (least net) : Nat) : Int), ((maxSize net (needs net) : Nat) : Int)]
end Go.Proofs.Ytlamfgocbekgpaa
