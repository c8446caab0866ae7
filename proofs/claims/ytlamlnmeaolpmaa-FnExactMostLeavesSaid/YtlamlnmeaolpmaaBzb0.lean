/- Several texts in one: Nt1, Nt2, N1, N2, N4, Chap1, Ch3, Ch5, Ch6, Tree, Lf, Ch7, Ch9, Hall, Ch10, Shift, N3, Ex, Ex2, S3, Nt3, Dr, Dr2, Dr3, S6, S6b, S7, S8, Pm, Br3, I3, I6, Fl. Conditions: those of each theorem. -/
import Derived.Test.YtlamlnmeaolpmaaBza3
import Derived.Test.YtlamlnmeaolpmaaBzTz
/- What the laws' own small functions come to. Conditions: those of each theorem. -/
namespace Go.Proofs.Ytlamlnmeaolpmaa
open D Go.RowKit
set_option linter.unusedVariables false
set_option linter.unusedSimpArgs false


theorem L.toIntS_is {a : List Int} (ha : a.length ≤ 1048576) : L.toIntS_t a = some a := by
  have hloop : L.toIntS_run3 a FUEL (0, List.replicate (↑a.length : Int).toNat 0) = some a := by
    refine run_fuel (run := L.toIntS_run3 a) (fun s => 0 ≤ s.1 ∧ s.1 ≤ a.length ∧ s.2.length = a.length ∧ ∀ j, j < s.1.toNat → s.2.getD j 0 = a.getD j 0) (fun s => a.length - s.1.toNat) (fun _ => a) ?_ ?_ ?_
    · rintro n ⟨x, r⟩ ⟨h0, h1, h2, h3⟩
      simp only at h0 h1 h2 h3
      by_cases hx : x < (a.length : Int)
      · refine .inr ⟨(IntKind.i64.wrap (x + 1), r.set x.toNat (eli a x.toNat)), ?_, ?_, ?_, rfl⟩
        · simp only [L.toIntS_run3, L.toIntS_step3]
          rw [cnd_t (by simpa using hx), cnd_t (by simp; omega), cnd_t (by simp; omega), cnd_t (by simp; omega)]
        · rw [i64_wrap (by omega) (by omega)]
          refine ⟨by simp only; omega, by simp only; omega, by simp only [List.length_set]; exact h2, fun j hj => ?_⟩
          simp only at hj ⊢
          by_cases hjx : j = x.toNat
          · subst hjx
            have hlt : x.toNat < r.length := by omega
            simp [List.getD, hlt, eli]
          · rw [← h3 j (by omega)]
            simp [List.getD, List.getElem?_set_ne (Ne.symm hjx)]
        · rw [i64_wrap (by omega) (by omega)]; simp only; omega
      · refine .inl ?_
        simp only [L.toIntS_run3, L.toIntS_step3]
        rw [cnd_f (by simpa using hx)]
        congr 1
        apply List.ext_getElem?
        intro j
        by_cases hj : j < a.length
        · have := h3 j (by omega)
          simp only [List.getD, h2, hj, List.getElem?_eq_getElem, Option.getD_some, hj] at this ⊢
          rw [this]
        · rw [List.getElem?_eq_none (by omega), List.getElem?_eq_none (by omega)]
    · refine ⟨by simp, by simp, by simp, fun j hj => by simp at hj⟩
    · simp; omega
  unfold L.toIntS_t L.toIntS_tree
  rw [cnd_t (by simp [small]; omega), hloop]
  rfl

theorem L.eqIntS_is {a b : List Int} (ha : a.length ≤ 2097152) : L.eqIntS_t a b = some (decide (a = b)) := by
  unfold L.eqIntS_t L.eqIntS_tree
  by_cases hl : a.length = b.length
  · rw [cnd_f (by simp [hl])]
    have hloop : L.eqIntS_run4 a b FUEL 0 = some (if a = b then .inr () else .inl false) := by
      refine run_fuel (run := L.eqIntS_run4 a b) (fun x => 0 ≤ x ∧ x ≤ a.length ∧ ∀ j, j < x.toNat → a.getD j 0 = b.getD j 0) (fun x => a.length - x.toNat) (fun _ => if a = b then .inr () else .inl false) ?_ ?_ ?_
      · rintro n x ⟨h0, h1, h3⟩
        by_cases hx : x < (a.length : Int)
        · by_cases he : eli a x.toNat = eli b x.toNat
          · refine .inr ⟨IntKind.i64.wrap (x + 1), ?_, ?_, ?_, rfl⟩
            · simp only [L.eqIntS_run4, L.eqIntS_step4]
              rw [cnd_t (by simpa using hx), cnd_t (by simp; omega), cnd_t (by simp; omega), cnd_f (by simp [he])]
            · rw [i64_wrap (by omega) (by omega)]
              refine ⟨by omega, by omega, fun j hj => ?_⟩
              by_cases hjx : j = x.toNat
              · subst hjx; exact he
              · exact h3 j (by omega)
            · rw [i64_wrap (by omega) (by omega)]; omega
          · refine .inl ?_
            simp only [L.eqIntS_run4, L.eqIntS_step4]
            rw [cnd_t (by simpa using hx), cnd_t (by simp; omega), cnd_t (by simp; omega), cnd_t (by simp [he])]
            rw [if_neg (fun h => he (by rw [h]))]
        · refine .inl ?_
          simp only [L.eqIntS_run4, L.eqIntS_step4]
          rw [cnd_f (by simpa using hx)]
          have : a = b := by
            apply List.ext_getElem hl
            intro j hj hj'
            have := h3 j (by omega)
            simpa [List.getD, hj, hj'] using this
          rw [if_pos this]
      · exact ⟨by simp, by simp, fun j hj => by simp at hj⟩
      · simp; omega
    rw [hloop]
    by_cases h : a = b
    · simp [h, optC, sumC]
    · simp [h, optC, sumC]
  · rw [cnd_t (by simp; omega)]
    have : ¬ a = b := fun h => hl (by rw [h])
    simp [this]
end Go.Proofs.Ytlamlnmeaolpmaa
/- What is a net: the program's test and the model's come to the same. Conditions: those of each theorem. -/
namespace Go.Proofs.Ytlamlnmeaolpmaa
open D Go.RowKit
set_option linter.unusedVariables false
set_option linter.unusedSimpArgs false


theorem i64_bits : IntKind.i64.bits = 64 := by kernel_rfl
def hasI (s : Int) (p : Nat) : Bool := (s.fdiv (2 ^ min p 64)) % 2 == 1
theorem I.hasPlace_is {s p : Int} (hp : 0 ≤ p) : I.hasPlace_t s p = some (hasI s p.toNat) := by
  unfold I.hasPlace_t I.hasPlace_tree
  rw [cnd_f (by simp; omega), i64_and1, i64_bits]
  rfl
theorem I.setIn_is {net : List Int} {s : Int} (hl : net.length ≤ 6) : I.setIn_t net s = some (decide (0 ≤ s ∧ s < 2 ^ net.length)) := by
  unfold I.setIn_t I.setIn_tree
  have e : IntKind.i64.wrap (1 * 2 ^ min (↑net.length : Int).toNat IntKind.i64.bits) = 2 ^ net.length := by
    rw [i64_bits, Int.toNat_natCast, Int.one_mul]
    generalize net.length = k at hl
    match k, hl with
    | 0, _ | 1, _ | 2, _ | 3, _ | 4, _ | 5, _ | 6, _ => exact i64_wrap (by decide) (by decide)
  by_cases h : 0 ≤ s
  · rw [cnd_t (by simpa using h), e]; simp [h]
  · rw [cnd_f (by simpa using h)]; simp [h]
theorem I.knownBack_is {net : List Int} {p : Int} (hl : net.length ≤ 6) (h0 : 0 ≤ p) (h1 : p < net.length) :
    I.knownBack_t net p = some ((List.range net.length).all fun q => !hasI (eli net p.toNat) q || hasI (eli net q) p.toNat) := by
  unfold I.knownBack_t I.knownBack_tree
  rw [run_all (run := I.knownBack_run2 net p) (len := net.length) (fun q => !hasI (eli net p.toNat) q || hasI (eli net q) p.toNat) (by omega) (fun n x hx0 hx1 => by
    simp only [I.knownBack_run2, I.knownBack_step2]
    by_cases hx : x < (net.length : Int)
    · rw [if_pos hx, cnd_t (by simpa using hx), cnd_t (by simp; omega), I.hasPlace_is hx0]
      simp only [optC]
      cases ha : hasI (eli net p.toNat) x.toNat with
      | false => simp only [cond_false, Bool.not_false, Bool.true_or, cond_true]; rw [i64_wrap (by omega) (by omega)]
      | true =>
        rw [cond_true, cnd_t (by simp; omega), I.hasPlace_is h0]
        simp only [optC]
        cases hb : hasI (eli net x.toNat) p.toNat with
        | false => rfl
        | true => simp only [Bool.not_true, cond_false, Bool.or_true, cond_true]; rw [i64_wrap (by omega) (by omega)]
    · rw [if_neg hx, cnd_f (by simpa using hx)])]
  cases (List.range net.length).all _ <;> rfl
theorem I.NetOk_is {net : List Int} : I.NetOk_t net = some (decide (1 ≤ net.length) && decide (net.length ≤ 6) && (List.range net.length).all fun p =>
    decide (0 ≤ eli net p ∧ eli net p < 2 ^ net.length) && !hasI (eli net p) p && (List.range net.length).all fun q => !hasI (eli net p) q || hasI (eli net q) p) := by
  unfold I.NetOk_t I.NetOk_tree
  rcases Nat.lt_or_ge net.length 1 with hlo | hlo
  · rw [cnd_t (by simp; omega), decide_eq_false (by omega : ¬ 1 ≤ net.length)]; rfl
  rw [cnd_f (by simp; omega)]
  rcases Nat.lt_or_ge 6 net.length with hl | hl
  · rw [cnd_t (by simp; omega), decide_eq_false (by omega : ¬ net.length ≤ 6), Bool.and_false]; rfl
  rw [cnd_f (by simp; omega)]
  rw [run_all (run := I.NetOk_run4 net) (len := net.length) (fun p => decide (0 ≤ eli net p ∧ eli net p < 2 ^ net.length) && !hasI (eli net p) p && (List.range net.length).all fun q => !hasI (eli net p) q || hasI (eli net q) p) (by omega) (fun n x hx0 hx1 => by
    simp only [I.NetOk_run4, I.NetOk_step4]
    by_cases hx : x < (net.length : Int)
    · rw [if_pos hx, cnd_t (by simpa using hx), cnd_t (by simp; omega), I.setIn_is hl]
      simp only [optC]
      cases ha : decide (0 ≤ eli net x.toNat ∧ eli net x.toNat < 2 ^ net.length) with
      | false => rfl
      | true =>
        rw [Bool.not_true, cond_false, cnd_t (by simp; omega), I.hasPlace_is hx0]
        simp only [optC]
        cases hb : hasI (eli net x.toNat) x.toNat with
        | true => rfl
        | false =>
          rw [cond_false, I.knownBack_is hl hx0 hx]
          simp only [optC]
          cases hc : (List.range net.length).all fun q => !hasI (eli net x.toNat) q || hasI (eli net q) x.toNat with
          | false => rfl
          | true => simp only [Bool.not_true, Bool.not_false, cond_false, Bool.and_true, cond_true]; rw [i64_wrap (by omega) (by omega)]
    · rw [if_neg hx, cnd_f (by simpa using hx)])]
  simp only [hlo, hl, decide_true, Bool.true_and]
  cases (List.range net.length).all _ <;> rfl
def bitS (s : Int) (p : Nat) : Int := (s.fdiv (2 ^ min p 64)).tmod 2
theorem S.l1In_is {x a b : Int} : S.l1In_t x a b = some (decide (a ≤ x ∧ x ≤ b)) := by
  unfold S.l1In_t S.l1In_tree
  by_cases h : a ≤ x
  · rw [cnd_t (by simpa using h)]; simp [h]
  · rw [cnd_f (by simpa using h)]; simp [h]
theorem S.NetOk_is {net : List Int} : S.NetOk_t net = some (decide (1 ≤ net.length) && decide (net.length ≤ 6) &&
    ((List.range net.length).all fun p => decide (0 ≤ eli net p ∧ eli net p < 2 ^ net.length)) && (List.range net.length).all fun p =>
    (List.range net.length).all fun q => bitS (eli net p) q == bitS (eli net q) p && !(q == p && bitS (eli net p) q == 1)) := by
  unfold S.NetOk_t S.NetOk_tree
  rw [S.l1In_is]
  simp only [optC]
  rcases Nat.lt_or_ge net.length 1 with hlo | hlo
  · rw [decide_eq_false (by omega : ¬ 1 ≤ net.length), decide_eq_false (by omega : ¬ ((1 : Int) ≤ (net.length : Int) ∧ (net.length : Int) ≤ 6))]; rfl
  rcases Nat.lt_or_ge 6 net.length with hl | hl
  · rw [decide_eq_false (by omega : ¬ net.length ≤ 6), decide_eq_false (by omega : ¬ ((1 : Int) ≤ (net.length : Int) ∧ (net.length : Int) ≤ 6)), Bool.and_false]; rfl
  rw [decide_eq_true (by omega : ((1 : Int) ≤ (net.length : Int) ∧ (net.length : Int) ≤ 6)), Bool.not_true, cond_false]
  have e : IntKind.i64.wrap (IntKind.i64.wrap (1 * 2 ^ min (↑net.length : Int).toNat IntKind.i64.bits) - 1) = 2 ^ net.length - 1 := by
    rw [i64_bits, Int.toNat_natCast, Int.one_mul]
    generalize net.length = k at hl
    match k, hl with
    | 0, _ | 1, _ | 2, _ | 3, _ | 4, _ | 5, _ | 6, _ => rw [i64_wrap (n := 2 ^ min _ 64) (by decide) (by decide)]; exact i64_wrap (by decide) (by decide)
  rw [run_all (run := S.NetOk_run4 net) (len := net.length) (fun p => decide (0 ≤ eli net p ∧ eli net p < 2 ^ net.length)) (by omega) (fun n x hx0 hx1 => by
    simp only [S.NetOk_run4, S.NetOk_step4]
    by_cases hx : x < (net.length : Int)
    · rw [if_pos hx, cnd_t (by simpa using hx), cnd_t (by simp; omega), S.l1In_is, e]
      simp only [optC]
      have : decide (0 ≤ eli net x.toNat ∧ eli net x.toNat ≤ 2 ^ net.length - 1) = decide (0 ≤ eli net x.toNat ∧ eli net x.toNat < 2 ^ net.length) := decide_eq_decide.2 (by omega)
      rw [this]
      cases decide (0 ≤ eli net x.toNat ∧ eli net x.toNat < 2 ^ net.length) with
      | false => rfl
      | true => simp only [Bool.not_true, cond_false, cond_true]; rw [i64_wrap (by omega) (by omega)]
    · rw [if_neg hx, cnd_f (by simpa using hx)])]
  have inner : ∀ p : Int, 0 ≤ p → p < net.length → S.NetOk_run12 net p FUEL 0 = some (bif (List.range net.length).all (fun q => bitS (eli net p.toNat) q == bitS (eli net q) p.toNat && !(q == p.toNat && bitS (eli net p.toNat) q == 1)) then .inr () else .inl false) := by
    intro p hp0 hp1
    refine run_all (run := S.NetOk_run12 net p) (len := net.length) _ (by omega) (fun n x hx0 hx1 => ?_)
    simp only [S.NetOk_run12, S.NetOk_step12]
    by_cases hx : x < (net.length : Int)
    · rw [if_pos hx, cnd_t (by simpa using hx), cnd_t (by simp; omega), cnd_f (by simp; omega), cnd_t (by simp; omega), cnd_f (by simp; omega), i64_bits]
      show (bif !(bitS (eli net p.toNat) x.toNat == bitS (eli net x.toNat) p.toNat) then _ else _) = _
      cases ha : (bitS (eli net p.toNat) x.toNat == bitS (eli net x.toNat) p.toNat) with
      | false => rfl
      | true =>
        rw [Bool.not_true, cond_false, Bool.true_and]
        by_cases hxp : x = p
        · subst hxp
          rw [cnd_t (by simp), cnd_t (by simp; omega), cnd_f (by simp; omega), BEq.rfl, Bool.true_and]
          show (bif (bitS (eli net x.toNat) x.toNat == 1) then _ else _) = _
          cases (bitS (eli net x.toNat) x.toNat == 1) with
          | true => rfl
          | false => simp only [cond_false, Bool.not_false, cond_true]; rw [i64_wrap (by omega) (by omega)]
        · rw [cnd_f (by simpa using hxp)]
          have : (x.toNat == p.toNat) = false := by simp; omega
          rw [this, Bool.false_and, Bool.not_false, cond_true, i64_wrap (by omega) (by omega)]
    · rw [if_neg hx, cnd_f (by simpa using hx)]
  rw [run_all (run := S.NetOk_run9 net) (len := net.length) (fun p => (List.range net.length).all fun q => bitS (eli net p) q == bitS (eli net q) p && !(q == p && bitS (eli net p) q == 1)) (by omega) (fun n x hx0 hx1 => by
    simp only [S.NetOk_run9, S.NetOk_step9]
    by_cases hx : x < (net.length : Int)
    · rw [if_pos hx, cnd_t (by simpa using hx), inner x hx0 hx]
      simp only [optC]
      cases (List.range net.length).all fun q => bitS (eli net x.toNat) q == bitS (eli net q) x.toNat && !(q == x.toNat && bitS (eli net x.toNat) q == 1) with
      | false => rfl
      | true => simp only [cond_true, sumC]; rw [i64_wrap (by omega) (by omega)]
    · rw [if_neg hx, cnd_f (by simpa using hx)])]
  simp only [hlo, hl, decide_true, Bool.true_and]
  cases (List.range net.length).all fun p => decide (0 ≤ eli net p ∧ eli net p < 2 ^ net.length) with
  | false => rfl
  | true =>
    simp only [cond_true, sumC, Bool.true_and]
    cases (List.range net.length).all _ <;> rfl
theorem bitS_is {s : Int} (h : 0 ≤ s) (p : Nat) : bitS s p = if hasI s p = true then 1 else 0 := by
  unfold bitS hasI
  have h2 : (0 : Int) < 2 ^ min p 64 := Int.pow_pos (by decide)
  have h3 : 0 ≤ s.fdiv (2 ^ min p 64) := Int.fdiv_nonneg h (by omega)
  rw [Int.tmod_eq_emod_of_nonneg h3]
  by_cases h4 : s.fdiv (2 ^ min p 64) % 2 = 1
  · simp [h4]
  · have : s.fdiv (2 ^ min p 64) % 2 = 0 := by omega
    simp [this]
theorem NetOk_eq {net : List Int} : I.NetOk_t net = S.NetOk_t net := by
  rw [I.NetOk_is, S.NetOk_is]
  congr 1
  rw [Bool.eq_iff_iff]
  simp only [Bool.and_eq_true, List.all_eq_true, List.mem_range, decide_eq_true_eq, Bool.or_eq_true, Bool.not_eq_true', beq_iff_eq, Bool.and_eq_false_iff, beq_eq_false_iff_ne]
  constructor
  · rintro ⟨⟨h1, h2⟩, h3⟩
    refine ⟨⟨⟨h1, h2⟩, fun p hp => (h3 p hp).1.1⟩, fun p hp q hq => ⟨?_, ?_⟩⟩
    · rw [bitS_is (h3 p hp).1.1.1, bitS_is (h3 q hq).1.1.1]
      have a1 := (h3 p hp).2 q hq
      have a2 := (h3 q hq).2 p hp
      cases ha : hasI (eli net p) q <;> cases hb : hasI (eli net q) p <;> simp_all
    · by_cases hqp : q = p
      · subst hqp
        right
        rw [bitS_is (h3 q hq).1.1.1, (h3 q hq).1.2]
        decide
      · exact .inl hqp
  · rintro ⟨⟨⟨h1, h2⟩, h3⟩, h4⟩
    refine ⟨⟨h1, h2⟩, fun p hp => ⟨⟨h3 p hp, ?_⟩, fun q hq => ?_⟩⟩
    · have := (h4 p hp p hp).2
      rw [bitS_is (h3 p hp).1] at this
      cases ha : hasI (eli net p) p with
      | false => rfl
      | true => rw [ha] at this; simp at this
    · have := (h4 p hp q hq).1
      rw [bitS_is (h3 p hp).1, bitS_is (h3 q hq).1] at this
      cases ha : hasI (eli net p) q <;> cases hb : hasI (eli net q) p <;> simp_all
end Go.Proofs.Ytlamlnmeaolpmaa
/- What the small functions on nets and sets come to, in natural numbers. Conditions: those of each theorem. -/
namespace Go.Proofs.Ytlamlnmeaolpmaa
open D Go.RowKit
set_option linter.unusedVariables false
set_option linter.unusedSimpArgs false


theorem hasI_nat (s p : Nat) (hp : p ≤ 64) : hasI (s : Int) p = s.testBit p := by
  have h := shr_is s p hp
  unfold hasI
  rw [bits64, Int.toNat_natCast] at h
  rw [h, testBit_div, Bool.eq_iff_iff, beq_iff_eq, beq_iff_eq]
  omega
theorem two_pow_cast (n : Nat) : ((2 : Int) ^ n) = ((2 ^ n : Nat) : Int) := by simp
theorem Ok.of {net : List Int} (h1 : 1 ≤ net.length) (h2 : net.length ≤ 6) (h3 : ∀ p, p < net.length → (0 ≤ eli net p ∧ eli net p < 2 ^ net.length) ∧ hasI (eli net p) p = false ∧ ∀ q, q < net.length → hasI (eli net p) q = true → hasI (eli net q) p = true) : Ok net := by
  have hel : ∀ k, k < net.length → eli net k = (nb net k : Int) := fun k hk => by
    have := (h3 k hk).1.1
    show _ = ((eli net k).toNat : Int)
    omega
  refine ⟨h1, h2, hel, fun k hk => ?_, fun j k hj hk => ?_, fun k hk => ?_⟩
  · have := (h3 k hk).1.2
    rw [hel k hk, two_pow_cast] at this
    omega
  · have a1 := (h3 k hk).2.2 j hj
    have a2 := (h3 j hj).2.2 k hk
    rw [hel k hk, hel j hj, hasI_nat _ _ (by omega), hasI_nat _ _ (by omega)] at a1 a2
    cases hx : (nb net k).testBit j with
    | true => exact (a1 hx).symm
    | false => cases hy : (nb net j).testBit k with
      | false => rfl
      | true => rw [a2 hy] at hx; cases hx
  · have := (h3 k hk).2.1
    rw [hel k hk, hasI_nat _ _ (by omega)] at this
    exact this
theorem NetOk_cases (net : List Int) : (Ok net ∧ I.NetOk_t net = some true ∧ S.NetOk_t net = some true) ∨ (¬ Ok net ∧ I.NetOk_t net = some false ∧ S.NetOk_t net = some false) := by
  rw [← NetOk_eq, I.NetOk_is]
  generalize hb : (decide (1 ≤ net.length) && decide (net.length ≤ 6) && (List.range net.length).all fun p => decide (0 ≤ eli net p ∧ eli net p < 2 ^ net.length) && !hasI (eli net p) p && (List.range net.length).all fun q => !hasI (eli net p) q || hasI (eli net q) p) = b
  cases b with
  | true =>
    left
    simp only [Bool.and_eq_true, List.all_eq_true, List.mem_range, decide_eq_true_eq, Bool.or_eq_true, Bool.not_eq_true'] at hb
    refine ⟨Ok.of hb.1.1 hb.1.2 fun p hp => ⟨(hb.2 p hp).1.1, (hb.2 p hp).1.2, fun q hq hx => ?_⟩, rfl, rfl⟩
    rcases (hb.2 p hp).2 q hq with h | h
    · rw [h] at hx; cases hx
    · exact h
  | false =>
    right
    refine ⟨fun h => ?_, rfl, rfl⟩
    have : (decide (1 ≤ net.length) && decide (net.length ≤ 6) && (List.range net.length).all fun p => decide (0 ≤ eli net p ∧ eli net p < 2 ^ net.length) && !hasI (eli net p) p && (List.range net.length).all fun q => !hasI (eli net p) q || hasI (eli net q) p) = true := by
      simp only [Bool.and_eq_true, List.all_eq_true, List.mem_range, decide_eq_true_eq, Bool.or_eq_true, Bool.not_eq_true']
      have hhi := h.hi
      refine ⟨⟨h.lo, h.hi⟩, fun p hp => ⟨⟨?_, ?_⟩, fun q hq => ?_⟩⟩
      · rw [show eli net p = (nb net p : Int) from h.el p hp, two_pow_cast]
        have := h.lt p hp
        omega
      · rw [show eli net p = (nb net p : Int) from h.el p hp, hasI_nat _ _ (by omega)]; exact h.irr p hp
      · rw [show eli net p = (nb net p : Int) from h.el p hp, show eli net q = (nb net q : Int) from h.el q hq, hasI_nat _ _ (by omega), hasI_nat _ _ (by omega), h.sym q p hq hp]
        cases (nb net q).testBit p <;> simp
    rw [hb] at this; cases this
theorem Ok.eli {net : List Int} (h : Ok net) {k : Nat} (hk : k < net.length) : D.eli net k = (nb net k : Int) := h.el k hk

/-! ### The program's small functions -/
theorem I.hasPlace_n (s p : Nat) (hp : p ≤ 64) : I.hasPlace_t s p = some (s.testBit p) := by
  rw [I.hasPlace_is (by omega), Int.toNat_natCast, hasI_nat s p hp]
theorem I.allOf_n {net : List Int} (h : Ok net) : I.allOf_t net = some ((allOf net : Nat) : Int) := by
  unfold I.allOf_t I.allOf_tree
  have h2 := h.pow
  have h3 : 0 < 2 ^ net.length := Nat.two_pow_pos _
  rw [one_shl (by have := h.hi; omega), sub1_nat (by omega) (by omega)]
  rfl
theorem I.ballIn_n {net : List Int} (h : Ok net) {p : Nat} (hp : p < net.length) : I.ballIn_t net p = some ((ball net p : Nat) : Int) := by
  unfold I.ballIn_t I.ballIn_tree
  have h6 := h.hi
  have h64 := h.lt64 hp
  rw [cnd_t (by simp; omega), cnd_f (by simp), one_shl (by omega), Int.toNat_natCast, h.eli hp, i64_or_nat _ _ (by omega) (pow2_lt (by omega))]
  rfl
theorem fold_balls {net : List Int} (h : Ok net) {s : Nat} (hs : s < 2 ^ net.length) : fold net.length (fun t k => if s.testBit k = true then t ||| ball net k else t) 0 = seen net s := h.seen_balls hs
theorem I.seenIn_n {net : List Int} (h : Ok net) {s : Nat} (hs : s < 2 ^ net.length) : I.seenIn_t net s = some ((seen net s : Nat) : Int) := by
  unfold I.seenIn_t I.seenIn_tree
  have h6 := h.hi
  have h64 := h.pow
  have := (run_for (run := I.seenIn_run3 net s) (len := net.length) (fun k (t : Nat) => ((t : Int), (k : Int))) (fun t k => if s.testBit k = true then t ||| ball net k else t) (fun t => (t : Int)) (fun k t => t < 2 ^ net.length) (by omega) (fun n k t hk ht => ?_) (fun n t ht => ?_) (t0 := 0) (Nat.two_pow_pos _)).1
  · rw [fold_balls h hs] at this
    exact congrArg (fun o => optC o (fun q => some q) none) this
  · simp only [I.seenIn_run3, I.seenIn_step3]
    rw [cnd_t (by simp; omega), I.hasPlace_n _ _ (by omega)]
    simp only [optC]
    have hb := h.ball_lt hk
    cases hbit : s.testBit k with
    | true =>
      rw [cond_true, I.ballIn_n h hk, if_pos rfl]
      simp only
      rw [i64_or_nat _ _ (by omega) (by omega), add1_nat (by omega)]
      exact ⟨rfl, Nat.or_lt_two_pow ht hb⟩
    | false =>
      rw [cond_false, if_neg (by simp), add1_nat (by omega)]
      exact ⟨rfl, ht⟩
  · simp only [I.seenIn_run3, I.seenIn_step3]
    rw [cnd_f (by simp)]
theorem I.watchIn_n {net : List Int} (h : Ok net) {s : Nat} (hs : s < 2 ^ net.length) : I.watchIn_t net s = some (W net s) := by
  unfold I.watchIn_t I.watchIn_tree
  rw [I.seenIn_n h hs, I.allOf_n h]
  simp only [optC]
  rw [nat_beq]
  rfl
theorem size_fold (s : Nat) : fold 6 (fun t k => t + (s.testBit k).toNat) 0 = size s := by
  unfold size card
  congr 1
  funext t k
  cases s.testBit k <;> simp
theorem I.sizeOf_n (s : Nat) : I.sizeOf_t s = some ((size s : Nat) : Int) := by
  unfold I.sizeOf_t I.sizeOf_tree
  have := (run_for (run := I.sizeOf_run3 s) (len := 6) (fun k (t : Nat) => ((t : Int), (k : Int))) (fun t k => t + (s.testBit k).toNat) (fun t => (t : Int)) (fun k t => t ≤ k) (by omega) (fun n k t hk ht => ?_) (fun n t ht => ?_) (t0 := 0) (Nat.le_refl _)).1
  · rw [size_fold] at this
    exact congrArg (fun o => optC o (fun q => some q) none) this
  · simp only [I.sizeOf_run3, I.sizeOf_step3]
    have hb : (s.testBit k).toNat ≤ 1 := by cases s.testBit k <;> decide
    rw [cnd_t (by simp; omega), cnd_f (by simp), bit_shr1 _ _ (by omega), add_nat (by omega), add1_nat (by omega)]
    exact ⟨rfl, by omega⟩
  · simp only [I.sizeOf_run3, I.sizeOf_step3]
    rw [cnd_f (by simp)]
/-! ### The model's small functions -/
theorem S.l1Near_n {net : List Int} (h : Ok net) (s : Nat) : S.l1Near_t net s = some ((near net s : Nat) : Int) := by
  unfold S.l1Near_t S.l1Near_tree
  have h6 := h.hi
  have h64 := h.pow
  have := (run_for (run := S.l1Near_run3 net s) (len := net.length) (fun k (t : Nat) => ((t : Int), (k : Int))) (fun t k => if s.testBit k = true then t ||| nb net k else t) (fun t => (t : Int)) (fun k t => t < 2 ^ net.length) (by omega) (fun n k t hk ht => ?_) (fun n t ht => ?_) (t0 := 0) (Nat.two_pow_pos _)).1
  · exact congrArg (fun o => optC o (fun q => some q) none) this
  · simp only [S.l1Near_run3, S.l1Near_step3]
    have hb := h.lt k hk
    rw [cnd_t (by simp; omega), cnd_f (by simp), bit_shr _ _ (by omega), bool_eq1]
    cases hbit : s.testBit k with
    | true =>
      rw [cond_true, cnd_t (by simp; omega), Int.toNat_natCast, h.eli hk, if_pos rfl]
      rw [i64_or_nat _ _ (by omega) (by omega), add1_nat (by omega)]
      exact ⟨rfl, Nat.or_lt_two_pow ht hb⟩
    | false =>
      rw [cond_false, if_neg (by simp), add1_nat (by omega)]
      exact ⟨rfl, ht⟩
  · simp only [S.l1Near_run3, S.l1Near_step3]
    rw [cnd_f (by simp)]
theorem all_shl {net : List Int} (h : Ok net) : IntKind.i64.wrap (IntKind.i64.wrap (1 * 2 ^ min (↑net.length : Int).toNat IntKind.i64.bits) - 1) = ((allOf net : Nat) : Int) := by
  have h2 := h.pow
  have h3 : 0 < 2 ^ net.length := Nat.two_pow_pos _
  rw [one_shl (by have := h.hi; omega), sub1_nat (by omega) (by omega)]
  rfl
theorem l1Size_spec : ∀ s, s < 64 → size s = s % 2 + size (s / 2) := by decide +kernel
theorem S.l1Size_n {s : Nat} (hs : s < 64) : S.l1Size_t s = some ((size s : Nat) : Int) := by
  unfold S.l1Size_t S.l1Size_tree
  have : S.l1Size_run2 FUEL ((s : Int), 0) = some ((size s : Nat) : Int) := by
    refine run_fuel (run := S.l1Size_run2) (fun q => ∃ a t : Nat, q = ((a : Int), (t : Int)) ∧ a < 64 ∧ t + size a = size s) (fun q => q.1.toNat) (fun _ => ((size s : Nat) : Int)) ?_ ⟨s, 0, rfl, hs, by omega⟩ (by simp only [Int.toNat_natCast]; omega)
    rintro n _ ⟨a, t, rfl, ha, ht⟩
    have hz := size_le s
    simp only [S.l1Size_run2, S.l1Size_step2]
    by_cases h0 : a = 0
    · subst h0
      left
      rw [cnd_f (by simp)]
      have : size 0 = 0 := by decide
      rw [← ht, this]; rfl
    · right
      have h1 := l1Size_spec a ha
      rw [cnd_t (by simp; omega), div2_nat (by omega), tmod2_nat, add_nat (by omega)]
      exact ⟨_, rfl, ⟨_, _, rfl, by omega, by omega⟩, by simp only [Int.toNat_natCast]; omega, trivial⟩
  rw [this]; rfl
end Go.Proofs.Ytlamlnmeaolpmaa
/- What the functions on watches come to. Conditions: those of each theorem. -/
namespace Go.Proofs.Ytlamlnmeaolpmaa
open D Go.RowKit
set_option linter.unusedVariables false
set_option linter.unusedSimpArgs false


theorem allOf_succ (net : List Int) : allOf net + 1 = 2 ^ net.length := by
  have : 0 < 2 ^ net.length := Nat.two_pow_pos _
  unfold allOf; omega
theorem size_le_len {net : List Int} (h : Ok net) {s : Nat} (hs : s < 2 ^ net.length) : size s ≤ net.length := by
  rw [size_cnt h hs]; exact cnt_le _ _
/-- The fewest guards that watch. -/
def fewest (net : List Int) : Nat := fold (2 ^ net.length) (fun t s => if W net s = true then (if size s < t then size s else t) else t) net.length
/-- The first of the smallest watches. -/
structure First (net : List Int) (r : Nat) : Prop where
  lt : r < 2 ^ net.length
  w : W net r = true
  le : ∀ s, s < 2 ^ net.length → W net s = true → size r ≤ size s
  first : ∀ s, s < r → W net s = true → size r < size s
theorem First.few {net : List Int} {r : Nat} (h : First net r) : Few net (size r) := ⟨⟨r, h.lt, h.w, rfl⟩, h.le⟩
theorem First.uniq {net : List Int} {r q : Nat} (h : First net r) (g : First net q) : r = q := by
  have h1 := h.few.uniq g.few
  rcases Nat.lt_trichotomy r q with hl | hl | hl
  · have := g.first r hl h.w; omega
  · exact hl
  · have := h.first q hl g.w; omega
def smallest (net : List Int) : Nat := fold (allOf net) (fun t s => if (decide (size s < size t) && W net s) = true then s else t) (allOf net)
/-! ### Least watches -/
end Go.Proofs.Ytlamlnmeaolpmaa
/- What the functions of chapter 1 come to. Conditions: those of each theorem. -/
namespace Go.Proofs.Ytlamlnmeaolpmaa
open D Go.RowKit
set_option linter.unusedVariables false
set_option linter.unusedSimpArgs false


/-! ### Wires -/
def ends (net : List Int) : Nat := sumN net.length (fun k => size (nb net k))
def wires (net : List Int) : Nat := ends net / 2
/-! ### Parts -/
theorem fold_steps {net : List Int} (h : Ok net) (m s : Nat) : fold m (fun t _ => seen net t) s = steps net (allOf net) m s := by
  induction m with
  | zero => rfl
  | succ m ih => rw [fold_succ, ih]; show seen net _ = grow net _ _; rw [h.grow_all]
theorem I.partIn_n {net : List Int} (h : Ok net) {p : Nat} (hp : p < net.length) : I.partIn_t net p = some ((comp net p : Nat) : Int) := by
  unfold I.partIn_t I.partIn_tree
  have h6 := h.hi
  have hpl : 2 ^ p < 2 ^ net.length := Nat.pow_lt_pow_right (by omega) hp
  have := (run_for (run := I.partIn_run3 net) (len := net.length - 1) (fun k (t : Nat) => ((t : Int), ((k + 1 : Nat) : Int))) (fun t k => seen net t) (fun t => (t : Int)) (fun k t => t < 2 ^ net.length) (by omega) (fun n k t hk ht => ?_) (fun n t ht => ?_) (t0 := 2 ^ p) hpl).1
  · rw [cnd_f (by simp), one_shl (by omega), show I.partIn_run3 net FUEL (((2 ^ p : Nat) : Int), 1) = _ from this, fold_steps h, h.comp_eq hp (by omega)]
    rfl
  · simp only [I.partIn_run3, I.partIn_step3]
    rw [cnd_t (by simp; omega), I.seenIn_n h ht]
    simp only [optC]
    rw [add1_nat (by omega)]
    exact ⟨rfl, h.seen_lt ht⟩
  · simp only [I.partIn_run3, I.partIn_step3]
    rw [cnd_f (by simp; omega)]
theorem steps_part {net : List Int} (h : Ok net) {A i m : Nat} (hi : i < net.length) (hf : grow net A (steps net A m (2 ^ i &&& A)) = steps net A m (2 ^ i &&& A)) : steps net A m (2 ^ i &&& A) = part net A i := by
  by_cases hm : m ≤ 6
  · exact (steps_fix hf 6 hm).symm
  · exact steps_fix (h.part_fix hi) m (by omega)
theorem S.l1Part_n {net : List Int} (h : Ok net) {A p : Nat} (hA : A < 2 ^ net.length) (hp : p < net.length) : S.l1Part_t net A p = some ((part net A p : Nat) : Int) := by
  unfold S.l1Part_t S.l1Part_tree
  have h6 := h.hi
  have h64 := h.pow
  have hst := Ok.start_lt (net := net) (A := A) hp
  have := run_fuel (run := S.l1Part_run3 net A) (fun q => ∃ (m : Nat) (b : Bool), q = (((steps net A m (2 ^ p &&& A) : Nat) : Int), b) ∧ (b = false → grow net A (steps net A m (2 ^ p &&& A)) = steps net A m (2 ^ p &&& A)))
    (fun q => 2 * (net.length - card net.length q.1.toNat) + q.2.toNat) (fun _ => ((part net A p : Nat) : Int)) ?_ (s := (((2 ^ p &&& A : Nat) : Int), true)) ⟨0, true, rfl, fun hb => by cases hb⟩ (by simp only [Bool.toNat_true]; omega)
  · rw [cnd_f (by simp), one_shl (by omega), i64_and_nat _ _ (pow2_lt (by omega)) (by omega), this]
    rfl
  · rintro n _ ⟨m, b, rfl, hb⟩
    have hlt := h.steps_lt hst (A := A) m
    cases b with
    | false =>
      left
      simp only [S.l1Part_run3, S.l1Part_step3, cond_false]
      rw [steps_part h hp (hb rfl)]
    | true =>
      right
      have hnl := h.near_lt (steps net A m (2 ^ p &&& A))
      have hg : bits .or .i64 ((steps net A m (2 ^ p &&& A) : Nat) : Int) (bits .and .i64 ((near net (steps net A m (2 ^ p &&& A)) : Nat) : Int) (A : Int)) = ((steps net A (m + 1) (2 ^ p &&& A) : Nat) : Int) := by
        rw [i64_and_nat _ _ (by omega) (by omega), i64_or_nat _ _ (by omega) (by have := Nat.and_le_left (n := near net (steps net A m (2 ^ p &&& A))) (m := A); omega)]
        rfl
      simp only [S.l1Part_run3, S.l1Part_step3, cond_true]
      rw [S.l1Near_n h]
      simp only [optC, hg]
      rw [nat_bne]
      refine ⟨_, rfl, ⟨m + 1, _, rfl, fun hb2 => ?_⟩, ?_, trivial⟩
      · have he : steps net A (m + 1) (2 ^ p &&& A) = steps net A m (2 ^ p &&& A) := by simpa using hb2
        rw [he]; exact he
      · simp only [Int.toNat_natCast, Bool.toNat_true]
        have hc := card_le net.length (steps net A (m + 1) (2 ^ p &&& A))
        by_cases he : steps net A (m + 1) (2 ^ p &&& A) = steps net A m (2 ^ p &&& A)
        · rw [he]
          rw [show (steps net A m (2 ^ p &&& A) != steps net A m (2 ^ p &&& A)) = false by simp]
          simp
        · have := h.grow_more hlt he
          have e2 : card net.length (grow net A (steps net A m (2 ^ p &&& A))) = card net.length (steps net A (m + 1) (2 ^ p &&& A)) := rfl
          rw [show (steps net A (m + 1) (2 ^ p &&& A) != steps net A m (2 ^ p &&& A)) = true by simpa using he]
          simp only [Bool.toNat_true]
          omega
theorem root_reached {net : List Int} (h : Ok net) {k : Nat} (hk : k < net.length) : root net k = true ↔ ∀ i, i < k → (comp net i).testBit k = false := by
  rw [root_iff]
  constructor
  · intro ha i hi; rw [h.comp_symm (by omega) hk]; exact ha i hi
  · intro ha i hi; rw [h.comp_symm hk (by omega)]; exact ha i hi
theorem I.PartMany_n {net : List Int} (h : Ok net) (e : I.NetOk_t net = some true) : I.PartMany_t net = some ((parts net : Nat) : Int) := by
  unfold I.PartMany_t I.PartMany_tree
  have h6 := h.hi
  have h64 := h.pow
  rw [e]
  have := run_for (run := I.PartMany_run6 net) (len := net.length) (fun k (t : Nat × Nat) => ((t.1 : Int), (t.2 : Int), (k : Int))) (fun t k => if t.2.testBit k = true then t else (t.1 + 1, t.2 ||| comp net k)) (fun t => (t.1 : Int))
    (fun k t => t.1 = cnt k (root net) ∧ t.2 < 2 ^ net.length ∧ ∀ j, t.2.testBit j = true ↔ ∃ i, i < k ∧ (comp net i).testBit j = true) (by omega) (fun n k t hk ht => ?_) (fun n t ht => ?_) (t0 := (0, 0)) ⟨rfl, Nat.two_pow_pos _, fun j => by simp⟩
  · rw [parts_cnt, ← this.2.1]
    simp only [optC, Bool.not_true, cond_false]
    rw [show I.PartMany_run6 net FUEL (0, 0, 0) = _ from this.1]
  · obtain ⟨a, b⟩ := t
    obtain ⟨h1, h2, h3⟩ := ht
    simp only at h1 h2 h3
    have hcl := cnt_le k (root net)
    have hc := h.comp_lt hk
    have hroot : root net k = !b.testBit k := by
      rw [Bool.eq_iff_iff, root_reached h hk, Bool.not_eq_true']
      constructor
      · intro ha
        cases hb : b.testBit k with
        | false => rfl
        | true =>
          obtain ⟨i, hi, hx⟩ := (h3 k).1 hb
          rw [ha i hi] at hx; cases hx
      · intro hb i hi
        cases hx : (comp net i).testBit k with
        | false => rfl
        | true => rw [(h3 k).2 ⟨i, hi, hx⟩] at hb; cases hb
    simp only [I.PartMany_run6, I.PartMany_step6]
    rw [cnd_t (by simp; omega), I.hasPlace_n _ _ (by omega)]
    simp only [optC]
    cases hb : b.testBit k with
    | true =>
      simp only [Bool.not_true, cond_false, if_true]
      rw [add1_nat (by omega)]
      refine ⟨rfl, ?_, h2, fun j => ?_⟩
      · show a = cnt k (root net) + (root net k).toNat
        rw [hroot, hb]; simpa using h1
      · rw [h3 j]
        constructor
        · rintro ⟨i, hi, hx⟩; exact ⟨i, by omega, hx⟩
        · rintro ⟨i, hi, hx⟩
          by_cases hik : i = k
          · subst hik
            obtain ⟨q, hq, hqx⟩ := (h3 i).1 hb
            have := h.comp_same (by omega) hk hqx
            exact ⟨q, hq, by rw [this]; exact hx⟩
          · exact ⟨i, by omega, hx⟩
    | false =>
      simp only [Bool.not_false, cond_true, Bool.false_eq_true, if_false]
      rw [I.partIn_n h hk]
      simp only
      rw [add1_nat (by omega), add1_nat (by omega), i64_or_nat _ _ (by omega) (by omega)]
      refine ⟨rfl, ?_, Nat.or_lt_two_pow h2 hc, fun j => ?_⟩
      · show a + 1 = cnt k (root net) + (root net k).toNat
        rw [hroot, hb, h1]; rfl
      · rw [Nat.testBit_or, Bool.or_eq_true, h3 j]
        constructor
        · rintro (⟨i, hi, hx⟩ | hx)
          · exact ⟨i, by omega, hx⟩
          · exact ⟨k, by omega, hx⟩
        · rintro ⟨i, hi, hx⟩
          by_cases hik : i = k
          · subst hik; exact .inr hx
          · exact .inl ⟨i, by omega, hx⟩
  · simp only [I.PartMany_run6, I.PartMany_step6]
    rw [cnd_f (by simp)]
theorem S.l1Parts_n {net : List Int} (h : Ok net) : S.l1Parts_t net = some ((parts net : Nat) : Int) := by
  unfold S.l1Parts_t S.l1Parts_tree
  have h6 := h.hi
  have h64 := h.pow
  have := run_for (run := S.l1Parts_run3 net) (len := net.length) (fun k (t : Nat) => ((t : Int), (k : Int))) (fun t k => t + (root net k).toNat) (fun t => (t : Int)) (fun k t => t ≤ k) (by omega) (fun n k t hk ht => ?_) (fun n t ht => ?_) (t0 := 0) (by omega)
  · rw [parts_cnt]
    unfold cnt
    rw [← fold_sum]
    exact congrArg (fun o => optC o (fun q => some q) none) this.1
  · have hc := h.comp_lt hk
    have hpk : 0 < 2 ^ k := Nat.two_pow_pos _
    have hpk2 := pow2_lt (k := k) (by omega)
    simp only [S.l1Parts_run3, S.l1Parts_step3]
    rw [cnd_t (by simp; omega), all_shl h, S.l1Part_n h (allOf_lt net) hk]
    simp only [optC]
    rw [cnd_f (by simp), one_shl (by omega), sub1_nat hpk (by omega), i64_and_nat _ _ (by have : part net (allOf net) k = comp net k := rfl; omega) (by omega)]
    have e2 : (((part net (allOf net) k &&& (2 ^ k - 1) : Nat) : Int) == 0) = root net k := nat_beq _ 0
    rw [e2]
    cases root net k with
    | true => rw [cond_true, add1_nat (by omega), add1_nat (by omega)]; exact ⟨rfl, by simp; omega⟩
    | false => rw [cond_false, add1_nat (by omega)]; exact ⟨rfl, by simp; omega⟩
  · simp only [S.l1Parts_run3, S.l1Parts_step3]
    rw [cnd_f (by simp)]
theorem I.PartMany_x {net : List Int} (e : I.NetOk_t net = some false) : I.PartMany_t net = some (-1) := by
  unfold I.PartMany_t I.PartMany_tree; rw [e]; rfl
/-! ### Lone places -/
def lone (net : List Int) : Nat := orN net.length (fun k => nb net k == 0) (fun k => 2 ^ k)
end Go.Proofs.Ytlamlnmeaolpmaa
/- Wires and parts: plain facts. Conditions: those of each theorem. -/
namespace Go.Proofs.Ytlamlnmeaolpmaa
set_option linter.unusedVariables false
set_option linter.unusedSimpArgs false

theorem nb_size {net : List Int} (h : Ok net) {k : Nat} (hk : k < net.length) : size (nb net k) = sumN net.length (fun j => ((nb net k).testBit j).toNat) := size_cnt h (h.lt k hk)
theorem ends_is {net : List Int} (h : Ok net) : ends net = sumN net.length (fun k => sumN net.length (fun j => ((nb net k).testBit j).toNat)) := sumN_congr fun k hk => nb_size h hk
/-- Each wire has two ends. -/
theorem ends_wires {net : List Int} (h : Ok net) : ends net = 2 * wires net := by
  unfold wires
  have := sumN_sym (n := net.length) (a := fun k j => ((nb net k).testBit j).toNat) (fun k j hk hj => by rw [h.sym j k hj hk])
  rw [ends_is h, this, sumN_congr (f := fun k => ((nb net k).testBit k).toNat) (g := fun _ => 0) (fun k hk => by rw [h.irr k hk]; rfl), sumN_zero]
  omega
theorem cnt_below (N m : Nat) (hm : m ≤ N) : cnt N (fun i => decide (i < m)) = m := by
  induction N with
  | zero => obtain rfl : m = 0 := by omega
            rfl
  | succ N ih =>
    show cnt N (fun i => decide (i < m)) + (decide (N < m)).toNat = m
    by_cases hmN : m ≤ N
    · rw [ih hmN]; simp; omega
    · obtain rfl : m = N + 1 := by omega
      rw [cnt_congr (q := fun _ => true) (fun k hk => by simp; omega), cnt_true]; simp
/-- After m steps from the least places of the parts. -/
def lvl (net : List Int) (m k : Nat) : Bool := (List.range net.length).any fun r => root net r && (steps net (allOf net) m (2 ^ r)).testBit k
theorem lvl_iff {net : List Int} {m k : Nat} : lvl net m k = true ↔ ∃ r, r < net.length ∧ root net r = true ∧ (steps net (allOf net) m (2 ^ r)).testBit k = true := by
  unfold lvl
  simp only [List.any_eq_true, List.mem_range, Bool.and_eq_true]
theorem lvl_succ {net : List Int} {m k : Nat} (h : lvl net m k = true) : lvl net (m + 1) k = true := by
  obtain ⟨r, a, b, c⟩ := lvl_iff.1 h
  exact lvl_iff.2 ⟨r, a, b, (grow_testBit _ _ _ _).2 (.inl c)⟩
theorem lvl_mono {net : List Int} {m m' k : Nat} (hm : m ≤ m') (h : lvl net m k = true) : lvl net m' k = true := by
  induction m' with
  | zero => obtain rfl : m = 0 := by omega
            exact h
  | succ m' ih =>
    by_cases he : m = m' + 1
    · rw [← he]; exact h
    · exact lvl_succ (ih (by omega))
def lev (net : List Int) (k : Nat) : Nat := cnt 6 (fun m => !lvl net m k)
theorem root_of {net : List Int} (h : Ok net) {k : Nat} (hk : k < net.length) : ∃ r, r ≤ k ∧ root net r = true ∧ comp net r = comp net k := by
  have key : ∀ m, m ≤ k → (∃ r, r ≤ k ∧ root net r = true ∧ comp net r = comp net k) ∨ ∀ j, j < m → (comp net k).testBit j = false := by
    intro m
    induction m with
    | zero => intro _; right; intro j hj; omega
    | succ m ih =>
      intro hm
      rcases ih (by omega) with h1 | h1
      · exact .inl h1
      · cases hb : (comp net k).testBit m with
        | true =>
          left
          have he := h.comp_same hk (by omega) hb
          exact ⟨m, by omega, root_iff.2 fun j hj => by rw [← he]; exact h1 j hj, he.symm⟩
        | false =>
          right
          intro j hj
          by_cases hjm : j = m
          · rw [hjm]; exact hb
          · exact h1 j (by omega)
  rcases key k (Nat.le_refl _) with h1 | h1
  · exact h1
  · exact ⟨k, Nat.le_refl _, root_iff.2 h1, rfl⟩
theorem lvl_six {net : List Int} (h : Ok net) {k : Nat} (hk : k < net.length) : lvl net 6 k = true := by
  obtain ⟨r, hr, hroot, he⟩ := root_of h hk
  refine lvl_iff.2 ⟨r, by omega, hroot, ?_⟩
  have e2 : comp net r = steps net (allOf net) 6 (2 ^ r) := (h.comp_eq (by omega) (by have := h.hi; omega)).symm
  rw [← e2, he]
  exact h.comp_self hk
/-- Each place that is not the least one of its part has a neighbour that is nearer. -/
theorem nearer {net : List Int} (h : Ok net) {k : Nat} (hk : k < net.length) (hr : root net k = false) : ∃ j, j < net.length ∧ (nb net k).testBit j = true ∧ lev net j < lev net k := by
  have h0 : lvl net 0 k = false := by
    cases hb : lvl net 0 k with
    | false => rfl
    | true =>
      obtain ⟨r, a, b, c⟩ := lvl_iff.1 hb
      have : r = k := by
        have c' : (2 ^ r).testBit k = true := c
        rw [testBit_pow] at c'; simpa using c'
      rw [this] at b; rw [b] at hr; cases hr
  have hex : ∀ m, m ≤ 6 → lvl net m k = true → ∃ q, q < m ∧ lvl net q k = false ∧ lvl net (q + 1) k = true := by
    intro m
    induction m with
    | zero => intro _ hb; rw [h0] at hb; cases hb
    | succ m ih =>
      intro hm hb
      cases hc : lvl net m k with
      | false => exact ⟨m, by omega, hc, hb⟩
      | true => obtain ⟨q, a, b⟩ := ih (by omega) hc; exact ⟨q, by omega, b⟩
  obtain ⟨q, hq, hqf, hqt⟩ := hex 6 (Nat.le_refl _) (lvl_six h hk)
  obtain ⟨r, a, b, c⟩ := lvl_iff.1 hqt
  rcases (grow_testBit _ _ _ _).1 c with c1 | ⟨⟨j, hj, c1, c2⟩, _⟩
  · rw [lvl_iff.2 ⟨r, a, b, c1⟩] at hqf; cases hqf
  · refine ⟨j, hj, by rw [h.sym j k hj hk]; exact c2, ?_⟩
    have hjl : lvl net q j = true := lvl_iff.2 ⟨r, a, b, c1⟩
    have h1 : lev net j ≤ q := by
      have := cnt_mono (n := 6) (p := fun m => !lvl net m j) (q := fun i => decide (i < q)) (fun m hm hp => by
        have hp' : lvl net m j = false := by simpa using hp
        rw [decide_eq_true_eq]
        refine Classical.byContradiction fun hc => ?_
        rw [lvl_mono (by omega) hjl] at hp'; cases hp')
      rw [cnt_below 6 q (by omega)] at this
      exact this
    have h2 : q + 1 ≤ lev net k := by
      have := cnt_mono (n := 6) (p := fun i => decide (i < q + 1)) (q := fun m => !lvl net m k) (fun m hm hp => by
        have hp' : m < q + 1 := by simpa using hp
        cases hx : lvl net m k with
        | false => rfl
        | true => rw [lvl_mono (by omega) hx] at hqf; cases hqf)
      rw [cnt_below 6 (q + 1) (by omega)] at this
      exact this
    omega
/-- Lone places are parts alone. -/
theorem comp_alone {net : List Int} (h : Ok net) {k : Nat} (hk : k < net.length) : comp net k = 2 ^ k ↔ nb net k = 0 := by
  constructor
  · intro he
    apply Nat.eq_of_testBit_eq
    intro j
    rw [Nat.zero_testBit]
    cases hb : (nb net k).testBit j with
    | false => rfl
    | true =>
      have := comp_nb h hk hb
      rw [he, testBit_pow, decide_eq_true_eq] at this
      subst this
      rw [h.irr k hk] at hb; cases hb
  · intro he
    have h1 : seen net (2 ^ k) = 2 ^ k := by
      apply Nat.eq_of_testBit_eq
      intro j
      rw [Bool.eq_iff_iff, seen_testBit]
      constructor
      · rintro (a | ⟨i, hi, a, b⟩)
        · exact a
        · rw [testBit_pow, decide_eq_true_eq] at a; subst a; rw [he, Nat.zero_testBit] at b; cases b
      · exact .inl
    have h2 : grow net (allOf net) (2 ^ k &&& allOf net) = (2 ^ k &&& allOf net) := by rw [Ok.start_all hk, h.grow_all]; exact h1
    have := steps_fix (m := 0) h2 6 (by omega)
    show part net (allOf net) k = _
    unfold part
    rw [this]
    exact Ok.start_all hk
end Go.Proofs.Ytlamlnmeaolpmaa
/- Guards that are needed, guards apart, the chain of numbers: plain facts. Conditions: those of each theorem. -/
namespace Go.Proofs.Ytlamlnmeaolpmaa
set_option linter.unusedVariables false
set_option linter.unusedSimpArgs false

theorem not_true {b : Bool} (h : ¬ b = true) : b = false := by cases b with
  | true => exact absurd rfl h
  | false => rfl
theorem sees_symm {net : List Int} (h : Ok net) {j k : Nat} (hj : j < net.length) (hk : k < net.length) : (ball net k).testBit j = (ball net j).testBit k := by
  rw [Bool.eq_iff_iff, ball_testBit, ball_testBit, h.sym j k hj hk]
  constructor <;> (rintro (a | a); exact .inl a; exact .inr a.symm)
theorem sees_self (net : List Int) (k : Nat) : (ball net k).testBit k = true := (ball_testBit _ _ _).2 (.inr rfl)
theorem sees_lt {net : List Int} (h : Ok net) {j k : Nat} (hk : k < net.length) (hs : (ball net k).testBit j = true) : j < net.length := testBit_lt (h.ball_lt hk) hs
theorem seen_balls {net : List Int} (h : Ok net) {s : Nat} (hs : s < 2 ^ net.length) {j : Nat} : (seen net s).testBit j = true ↔ ∃ k, k < net.length ∧ s.testBit k = true ∧ (ball net k).testBit j = true := by
  rw [← h.seen_balls hs, orN_testBit]
theorem in_lt {net : List Int} {s k : Nat} (hs : s < 2 ^ net.length) (hk : s.testBit k = true) : k < net.length := testBit_lt hs hk

/-! ### Private places -/
def priv (net : List Int) (s g : Nat) : Nat := minus (ball net g) (seen net (s - 2 ^ g))
theorem zero_iff {a : Nat} : a = 0 ↔ ∀ j, a.testBit j = false := by
  constructor
  · rintro rfl j; exact Nat.zero_testBit j
  · intro ha; exact Nat.eq_of_testBit_eq fun j => by rw [ha j, Nat.zero_testBit]
theorem pos_iff {a : Nat} : a ≠ 0 ↔ ∃ j, a.testBit j = true := by
  rw [Ne, zero_iff]
  constructor
  · intro hn
    refine Classical.byContradiction fun hc => hn fun j => not_true fun hj => hc ⟨j, hj⟩
  · rintro ⟨j, hj⟩ ha; rw [ha j] at hj; cases hj
/-- Each guard has a place of its own. -/
def Needs (net : List Int) (s : Nat) : Prop := ∀ g, s.testBit g = true → ∃ j, (ball net g).testBit j = true ∧ ∀ i, s.testBit i = true → (ball net i).testBit j = true → i = g
def needs (net : List Int) (s : Nat) : Bool := (List.range net.length).all fun k => !(s.testBit k && priv net s k == 0)
theorem Needs.mono {net : List Int} {s t : Nat} (hst : ∀ j, t.testBit j = true → s.testBit j = true) (hn : Needs net s) : Needs net t := fun g hg => by
  obtain ⟨j, h1, h2⟩ := hn g (hst g hg)
  exact ⟨j, h1, fun i hi hb => h2 i (hst i hi) hb⟩
theorem Needs.zero (net : List Int) : Needs net 0 := fun g hg => by rw [Nat.zero_testBit] at hg; cases hg
theorem Needs.one (net : List Int) (k : Nat) : Needs net (2 ^ k) := fun g hg => by
  rw [testBit_pow, decide_eq_true_eq] at hg
  subst hg
  exact ⟨k, sees_self net k, fun i hi _ => by rw [testBit_pow, decide_eq_true_eq] at hi; exact hi.symm⟩
theorem or_testBit (s k j : Nat) : (s ||| 2 ^ k).testBit j = true ↔ s.testBit j = true ∨ j = k := by
  rw [Nat.testBit_or, Bool.or_eq_true, testBit_pow, decide_eq_true_eq]
  exact ⟨fun a => a.elim .inl (fun b => .inr b.symm), fun a => a.elim .inl (fun b => .inr b.symm)⟩
theorem or_lt {n s k : Nat} (hs : s < 2 ^ n) (hk : k < n) : s ||| 2 ^ k < 2 ^ n := Nat.or_lt_two_pow hs (Nat.pow_lt_pow_right (by omega) hk)
/-- A set that needs all guards, and does not with any further place. -/
def FullN (net : List Int) (s : Nat) : Prop := Needs net s ∧ ∀ k, k < net.length → s.testBit k = false → ¬ Needs net (s ||| 2 ^ k)
def fullN (net : List Int) (s : Nat) : Bool := ((List.range net.length).all fun k => !(!s.testBit k && needs net (s ||| 2 ^ k))) && needs net s
/-! ### Seen twice -/
/-- The places that two guards of a set see. -/
structure Twice (net : List Int) (s t : Nat) : Prop where
  lt : t < 2 ^ net.length
  bit : ∀ j, t.testBit j = true ↔ ∃ a b, s.testBit a = true ∧ s.testBit b = true ∧ a ≠ b ∧ (ball net a).testBit j = true ∧ (ball net b).testBit j = true
theorem Twice.uniq {net : List Int} {s t u : Nat} (ht : Twice net s t) (hu : Twice net s u) : t = u := Nat.eq_of_testBit_eq fun j => by rw [Bool.eq_iff_iff, ht.bit, hu.bit]
def twice (net : List Int) (s : Nat) : Nat := (fold net.length (fun (t : Nat × Nat) k => if s.testBit k = true then (t.1 ||| ball net k, t.2 ||| (t.1 &&& ball net k)) else t) (0, 0)).2
/-! ### Guards apart -/
def Apart (net : List Int) (s : Nat) : Prop := ∀ j k, s.testBit j = true → s.testBit k = true → (nb net j).testBit k = false
def apart (net : List Int) (s : Nat) : Bool := (near net s &&& s) == 0
theorem Apart.mono {net : List Int} {s t : Nat} (hst : ∀ j, t.testBit j = true → s.testBit j = true) (h : Apart net s) : Apart net t := fun j k hj hk => h j k (hst j hj) (hst k hk)
theorem Apart.zero (net : List Int) : Apart net 0 := fun j k hj _ => by rw [Nat.zero_testBit] at hj; cases hj
theorem Apart.one {net : List Int} (h : Ok net) {k : Nat} (hk : k < net.length) : Apart net (2 ^ k) := fun i j hi hj => by
  rw [testBit_pow, decide_eq_true_eq] at hi hj
  subst hi; subst hj
  exact h.irr _ hk
theorem apart_only {net : List Int} (h : Ok net) {s : Nat} (hs : s < 2 ^ net.length) (ha : Apart net s) {g : Nat} (hg : s.testBit g = true) : ∀ i, s.testBit i = true → (ball net i).testBit g = true → i = g := fun i hi hb => by
  rcases (ball_testBit _ _ _).1 hb with a | a
  · rw [ha i g hi hg] at a; cases a
  · exact a
theorem Apart.needs {net : List Int} (h : Ok net) {s : Nat} (hs : s < 2 ^ net.length) (ha : Apart net s) : Needs net s := fun g hg => ⟨g, sees_self net g, apart_only h hs ha hg⟩
theorem Apart.add {net : List Int} (h : Ok net) {s k : Nat} (hs : s < 2 ^ net.length) (hk : k < net.length) (ha : Apart net s) (hn : ∀ j, s.testBit j = true → (nb net k).testBit j = false) : Apart net (s ||| 2 ^ k) := fun i j hi hj => by
  rw [or_testBit] at hi hj
  rcases hi with hi | hi
  · rcases hj with hj | hj
    · exact ha i j hi hj
    · rw [hj, h.sym k i hk (in_lt hs hi)]; exact hn i hi
  · rcases hj with hj | hj
    · rw [hi]; exact hn j hj
    · rw [hi, hj]; exact h.irr k hk
def fullA (net : List Int) (s : Nat) : Bool := apart net s && (List.range net.length).all fun k => !(!s.testBit k && apart net (s ||| 2 ^ k))
/-! ### Grown sets -/
def grownStep (net : List Int) (t k : Nat) : Nat := if (!t.testBit k && (nb net k &&& t) == 0) = true then t ||| 2 ^ k else t
def grown (net : List Int) (s : Nat) : Nat := fold net.length (grownStep net) s
end Go.Proofs.Ytlamlnmeaolpmaa
/- The chain of numbers: plain facts. Conditions: those of each theorem. -/
namespace Go.Proofs.Ytlamlnmeaolpmaa
set_option linter.unusedVariables false
set_option linter.unusedSimpArgs false

/-- The least number of places of sets of a kind, and the greatest. -/
structure MinOf (net : List Int) (p : Nat → Bool) (m : Nat) : Prop where
  ex : ∃ s, s < 2 ^ net.length ∧ p s = true ∧ size s = m
  le : ∀ s, s < 2 ^ net.length → p s = true → m ≤ size s
structure MaxOf (net : List Int) (p : Nat → Bool) (m : Nat) : Prop where
  ex : ∃ s, s < 2 ^ net.length ∧ p s = true ∧ size s = m
  le : ∀ s, s < 2 ^ net.length → p s = true → size s ≤ m
theorem MinOf.uniq {net : List Int} {p : Nat → Bool} {a b : Nat} (ha : MinOf net p a) (hb : MinOf net p b) : a = b := by
  obtain ⟨s, h1, h2, h3⟩ := ha.ex
  obtain ⟨t, g1, g2, g3⟩ := hb.ex
  have := ha.le t g1 g2
  have := hb.le s h1 h2
  omega
theorem MaxOf.uniq {net : List Int} {p : Nat → Bool} {a b : Nat} (ha : MaxOf net p a) (hb : MaxOf net p b) : a = b := by
  obtain ⟨s, h1, h2, h3⟩ := ha.ex
  obtain ⟨t, g1, g2, g3⟩ := hb.ex
  have := ha.le t g1 g2
  have := hb.le s h1 h2
  omega
def minSize (net : List Int) (p : Nat → Bool) : Nat := fold (2 ^ net.length) (fun t s => if p s = true then (if size s < t then size s else t) else t) net.length
def maxSize (net : List Int) (p : Nat → Bool) : Nat := fold (2 ^ net.length) (fun t s => if p s = true then (if size s > t then size s else t) else t) 0
/-! ### What there is of each kind -/
theorem size_add {s k : Nat} (hs : s < 64) (hk : k < 6) (hb : s.testBit k = false) : size (s ||| 2 ^ k) = size s + 1 := bits_or s hs k hk hb
theorem size_pos {s : Nat} (hs : s < 64) {k : Nat} (hk : k < 6) (hb : s.testBit k = true) : 1 ≤ size s := by
  have := (bits_sub s hs k hk hb).2.2.1
  omega
/-! ### A full set and its private places watch -/
/-! ### Bounds by balls, and nets without wires -/
/-! ### How many sets are apart -/
def apartCount (net : List Int) : Nat := cnt (2 ^ net.length) (apart net)
end Go.Proofs.Ytlamlnmeaolpmaa
/- Guards near each other: plain facts of total and joined watches. Conditions: those of each theorem. -/
namespace Go.Proofs.Ytlamlnmeaolpmaa
set_option linter.unusedVariables false
set_option linter.unusedSimpArgs false

/-! ### Total watches -/
def total (net : List Int) (s : Nat) : Bool := near net s == allOf net
theorem or2 (s t j : Nat) : (s ||| t).testBit j = true ↔ s.testBit j = true ∨ t.testBit j = true := by rw [Nat.testBit_or, Bool.or_eq_true]
/-! ### Sets that stand together -/
def Together (net : List Int) (s : Nat) : Prop := s ≠ 0 ∧ ∀ i j, s.testBit i = true → s.testBit j = true → Reach net s i j
theorem Reach.mono {net : List Int} {A B i j : Nat} (hAB : ∀ k, A.testBit k = true → B.testBit k = true) (hr : Reach net A i j) : Reach net B i j := by
  induction hr with
  | here ha => exact .here (hAB _ ha)
  | step _ hj hn ha ih => exact .step ih hj hn (hAB _ ha)
/-- From one place to all is enough. -/
theorem together_of {net : List Int} (h : Ok net) {s i : Nat} (hs : s < 2 ^ net.length) (hi : s.testBit i = true) (ha : ∀ j, s.testBit j = true → Reach net s i j) : Together net s :=
  ⟨fun h0 => (by rw [h0, Nat.zero_testBit] at hi; cases hi), fun j k hj hk => ((ha j hj).symm h (in_lt hs hi)).trans (ha k hk)⟩
theorem together_part {net : List Int} (h : Ok net) {s i : Nat} (hs : s < 2 ^ net.length) (hi : s.testBit i = true) : part net s i = s ↔ Together net s := by
  have hil := in_lt hs hi
  constructor
  · intro he
    exact together_of h hs hi fun j hj => (h.part_testBit hil j).1 (by rw [he]; exact hj)
  · rintro ⟨_, ha⟩
    apply Nat.eq_of_testBit_eq
    intro j
    rw [Bool.eq_iff_iff, h.part_testBit hil]
    exact ⟨fun hr => hr.among.2, fun hj => ha i j hi hj⟩
theorem together_one {net : List Int} (h : Ok net) {k : Nat} (hk : k < net.length) : Together net (2 ^ k) := by
  have hb : (2 ^ k).testBit k = true := by rw [testBit_pow]; simp
  refine together_of h (Nat.pow_lt_pow_right (by omega) hk) hb fun j hj => ?_
  rw [testBit_pow, decide_eq_true_eq] at hj
  subst hj
  exact .here hb
/-- One part. -/
theorem one_part {net : List Int} (h : Ok net) : parts net = 1 ↔ ∀ j k, j < net.length → k < net.length → (comp net j).testBit k = true := by
  rw [parts_cnt]
  constructor
  · intro he j k hj hk
    obtain ⟨r, hr, hrr, hrc⟩ := root_of h hj
    obtain ⟨q, hq, hqr, hqc⟩ := root_of h hk
    have : r = q := Classical.byContradiction fun hne => by
      have h2 : 2 ≤ cnt net.length (root net) := by
        have := cnt_inj (n := 2) (m := net.length) (p := fun _ => true) (q := root net) (fun i => if i = 0 then r else q) (fun i hi _ => by
          by_cases h0 : i = 0
          · rw [if_pos h0]; exact ⟨by omega, hrr⟩
          · rw [if_neg h0]; exact ⟨by omega, hqr⟩) (fun a b ha hb _ _ hab => by
          by_cases h0 : a = 0 <;> by_cases h1 : b = 0
          · omega
          · rw [if_pos h0, if_neg h1] at hab; exact absurd hab hne
          · rw [if_neg h0, if_pos h1] at hab; exact absurd hab.symm hne
          · omega)
        rw [cnt_true] at this; exact this
      omega
    subst this
    rw [← hrc, hqc]; exact h.comp_self hk
  · intro ha
    have h0 := h.lo
    have hr : ∀ k, k < net.length → root net k = decide (k = 0) := fun k hk => by
      rw [Bool.eq_iff_iff, root_iff, decide_eq_true_eq]
      constructor
      · intro hx
        refine Classical.byContradiction fun hne => ?_
        have := hx 0 (by omega)
        rw [ha k 0 hk h0] at this; cases this
      · rintro rfl j hj; omega
    show sumN net.length (fun k => (root net k).toNat) = 1
    rw [sumN_one (k := 0) h0 (fun j hj hne => by rw [hr j hj]; simp [hne]), hr 0 h0]
    rfl
theorem size_or_one {net : List Int} (h : Ok net) {s k : Nat} (hs : s < 2 ^ net.length) (hk : k < net.length) : size (s ||| 2 ^ k) ≤ size s + 1 := by
  cases hb : s.testBit k with
  | false => rw [size_add (lt64 h hs) (by have := h.hi; omega) hb]; exact Nat.le_refl _
  | true =>
    have : s ||| 2 ^ k = s := Nat.eq_of_testBit_eq fun j => by
      rw [Bool.eq_iff_iff, or_testBit]
      exact ⟨fun hh => hh.elim id (fun he => by rw [he]; exact hb), .inl⟩
    rw [this]; omega
/-- A neighbour joins a set that stands together. -/
theorem together_add {net : List Int} (h : Ok net) {s u v : Nat} (hs : s < 2 ^ net.length) (ht : Together net s) (hu : s.testBit u = true) (hv : (ball net u).testBit v = true) : Together net (s ||| 2 ^ v) := by
  have hul := in_lt hs hu
  have hvl := sees_lt h hul hv
  have hsub : ∀ k, s.testBit k = true → (s ||| 2 ^ v).testBit k = true := fun k hk => (or_testBit _ _ _).2 (.inl hk)
  refine together_of h (or_lt hs hvl) (hsub u hu) fun j hj => ?_
  rcases (or_testBit _ _ _).1 hj with hj | rfl
  · exact (ht.2 u j hu hj).mono hsub
  · rcases (ball_testBit _ _ _).1 hv with a | rfl
    · exact .step (.here (hsub u hu)) hul a ((or_testBit _ _ _).2 (.inr rfl))
    · exact .here (hsub u hu)
/-- From within to without there is a wire. -/
theorem leaves {net : List Int} {A i j t : Nat} (hr : Reach net A i j) (hi : t.testBit i = true) (hj : t.testBit j = false) : ∃ u v, t.testBit u = true ∧ t.testBit v = false ∧ u < net.length ∧ (nb net u).testBit v = true := by
  induction hr with
  | here _ => rw [hi] at hj; cases hj
  | @step a b hr hl hn _ ih =>
    cases hb : t.testBit a with
    | true => exact ⟨a, b, hb, hj, hl, hn⟩
    | false => exact ih hb
/-- A joined watch: three for each guard of a watch, less two. -/
theorem joined_three {net : List Int} (h : Ok net) (h1 : parts net = 1) {s : Nat} (hs : s < 2 ^ net.length) (hw : W net s = true) : ∃ t, t < 2 ^ net.length ∧ Together net t ∧ W net t = true ∧ size t + 2 ≤ 3 * size s := by
  have h6 := h.hi
  have hone := (one_part h).1 h1
  have inter : ∀ j : Nat, ∀ t d : Nat, t.testBit d = false → s.testBit d = true → d < net.length → t < 2 ^ net.length → size (s &&& t) + 1 ≤ size (s &&& (t ||| 2 ^ d)) := fun _ t d hd hsd hdl ht => by
    have e : s &&& (t ||| 2 ^ d) = (s &&& t) ||| 2 ^ d := Nat.eq_of_testBit_eq fun j => by
      rw [Bool.eq_iff_iff, Nat.testBit_and, Bool.and_eq_true, or_testBit, or_testBit, Nat.testBit_and, Bool.and_eq_true]
      constructor
      · rintro ⟨a, b | b⟩
        · exact .inl ⟨a, b⟩
        · exact .inr b
      · rintro (⟨a, b⟩ | b)
        · exact ⟨a, .inl b⟩
        · rw [b]; exact ⟨hsd, .inr rfl⟩
    have hlt : s &&& t < 64 := Nat.lt_of_le_of_lt Nat.and_le_left (lt64 h hs)
    rw [e, size_add hlt (by omega) (by rw [Nat.testBit_and, hd, Bool.and_false])]
    exact Nat.le_refl _
  have mono : ∀ t u : Nat, (∀ j, t.testBit j = true → u.testBit j = true) → size (s &&& t) ≤ size (s &&& u) := fun t u htu => by
    have h1 : s &&& t < 2 ^ net.length := Nat.lt_of_le_of_lt Nat.and_le_left hs
    have h2 : s &&& u < 2 ^ net.length := Nat.lt_of_le_of_lt Nat.and_le_left hs
    rw [size_cnt h h1, size_cnt h h2]
    refine cnt_mono fun k _ hk => ?_
    rw [Nat.testBit_and, Bool.and_eq_true] at hk ⊢
    exact ⟨hk.1, htu k hk.2⟩
  have bound : ∀ t : Nat, size (s &&& t) ≤ size s := fun t => by
    have h1 : s &&& t < 2 ^ net.length := Nat.lt_of_le_of_lt Nat.and_le_left hs
    rw [size_cnt h h1, size_cnt h hs]
    refine cnt_mono fun k _ hk => ?_
    rw [Nat.testBit_and, Bool.and_eq_true] at hk
    exact hk.1
  have grow : ∀ m t, size s - size (s &&& t) ≤ m → t < 2 ^ net.length → Together net t → 1 ≤ size (s &&& t) → size t + 2 ≤ 3 * size (s &&& t) → ∃ t', t' < 2 ^ net.length ∧ Together net t' ∧ W net t' = true ∧ size t' + 2 ≤ 3 * size s := by
    intro m
    induction m with
    | zero =>
      intro t hm ht hT hp hz
      -- all of s is in t
      have hle := bound t
      have hall : ∀ j, s.testBit j = true → t.testBit j = true := fun j hj => Classical.byContradiction fun hc => by
        have hd : t.testBit j = false := not_true hc
        have h2 := inter 0 t j hd hj (in_lt hs hj) ht
        have h3 := bound (t ||| 2 ^ j)
        omega
      exact ⟨t, ht, hT, W_mono h hs ht hall hw, by omega⟩
    | succ m ih =>
      intro t hm ht hT hp hz
      have hle := bound t
      cases hW : W net t with
      | true => exact ⟨t, ht, hT, hW, by omega⟩
      | false =>
        -- a place that t does not see
        have hex : ∃ v, v < net.length ∧ (seen net t).testBit v = false := by
          refine Classical.byContradiction fun hc => ?_
          rw [(W_iff h ht).2 (fun v hv => ?_)] at hW
          · cases hW
          · cases hv2 : (seen net t).testBit v with
            | true => rfl
            | false => exact absurd ⟨v, hv, hv2⟩ hc
        obtain ⟨y, hy, hyn⟩ := hex
        obtain ⟨x, hx⟩ := pos_iff.1 hT.1
        have hxl := in_lt ht hx
        obtain ⟨u, v, hu, hv, hul, huv⟩ := leaves ((h.comp_testBit hxl y).1 (hone x y hxl hy)) ((seen_testBit net t x).2 (.inl hx)) hyn
        have hvl := h.nb_lt hul huv
        -- u is seen by t
        obtain ⟨g, hgl, hg, hgu⟩ := (seen_balls h ht).1 hu
        -- v is seen by s
        obtain ⟨d, hdl, hd, hdv⟩ := (seen_balls h hs).1 ((W_iff h hs).1 hw v hvl)
        have hdt : t.testBit d = false := not_true fun hc => by rw [(seen_balls h ht).2 ⟨d, hdl, hc, hdv⟩] at hv; cases hv
        have ht1 : t ||| 2 ^ u < 2 ^ net.length := or_lt ht hul
        have hT1 := together_add h ht hT hg hgu
        have hu1 : (t ||| 2 ^ u).testBit u = true := (or_testBit _ _ _).2 (.inr rfl)
        have ht2 : (t ||| 2 ^ u) ||| 2 ^ v < 2 ^ net.length := or_lt ht1 hvl
        have hT2 := together_add h ht1 hT1 hu1 ((ball_testBit _ _ _).2 (.inl huv))
        have hv2 : ((t ||| 2 ^ u) ||| 2 ^ v).testBit v = true := (or_testBit _ _ _).2 (.inr rfl)
        have ht3 : ((t ||| 2 ^ u) ||| 2 ^ v) ||| 2 ^ d < 2 ^ net.length := or_lt ht2 hdl
        have hT3 := together_add h ht2 hT2 hv2 (by rw [sees_symm h hdl hvl]; exact hdv)
        have z1 := size_or_one h ht hul
        have z2 := size_or_one h ht1 hvl
        have z3 := size_or_one h ht2 hdl
        have hsub : ∀ j, (t ||| 2 ^ d).testBit j = true → (((t ||| 2 ^ u) ||| 2 ^ v) ||| 2 ^ d).testBit j = true := fun j hj => by
          rcases (or_testBit _ _ _).1 hj with hj | hj
          · exact (or_testBit _ _ _).2 (.inl ((or_testBit _ _ _).2 (.inl ((or_testBit _ _ _).2 (.inl hj)))))
          · exact (or_testBit _ _ _).2 (.inr hj)
        have z4 := mono _ _ hsub
        have z5 := inter 0 t d hdt hd hdl ht
        have z6 := bound (((t ||| 2 ^ u) ||| 2 ^ v) ||| 2 ^ d)
        exact ih _ (by omega) ht3 hT3 (by omega) (by omega)
  -- begin with one guard
  have hne : s ≠ 0 := fun h0 => by rw [h0, W_zero h] at hw; cases hw
  obtain ⟨x, hx⟩ := pos_iff.1 hne
  have hxl := in_lt hs hx
  have hpl : 2 ^ x < 2 ^ net.length := Nat.pow_lt_pow_right (by omega) hxl
  have e1 : s &&& 2 ^ x = 2 ^ x := Nat.eq_of_testBit_eq fun j => by
    rw [Nat.testBit_and, testBit_pow]
    by_cases hxj : x = j
    · rw [← hxj, hx]; rfl
    · simp [hxj]
  have e2 : size (2 ^ x) = 1 := by
    rw [size_cnt h hpl]
    show sumN net.length (fun k => ((2 ^ x).testBit k).toNat) = 1
    rw [sumN_one (k := x) hxl (fun j _ hj => by rw [testBit_pow]; simp; omega), testBit_pow]
    simp
  exact grow _ (2 ^ x) (Nat.le_refl _) hpl (together_one h hxl) (by rw [e1, e2]; exact Nat.le_refl _) (by rw [e1, e2]; exact Nat.le_refl _)
end Go.Proofs.Ytlamlnmeaolpmaa
/- Trees of wires: the places with one wire, and the sets that stand together, make all places. Conditions: those of each theorem. -/
namespace Go.Proofs.Ytlamlnmeaolpmaa
set_option linter.unusedVariables false
set_option linter.unusedSimpArgs false

/-- A net of some of the wires. -/
structure Sub (net t : List Int) : Prop where
  ok : Ok t
  len : t.length = net.length
  sub : ∀ k j, k < net.length → (nb t k).testBit j = true → (nb net k).testBit j = true
/-- A tree: one part, of as few wires as can be. -/
structure Tree (net t : List Int) : Prop where
  sub : Sub net t
  one : parts t = 1
  wires_ : wires t + 1 = net.length
/-- How many places have one wire alone. -/
def leafs (t : List Int) : Nat := cnt t.length (fun k => size (nb t k) == 1)
theorem sub_one {net t : List Int} (h : Ok net) (ht : Sub net t) (h1 : parts t = 1) : parts net = 1 := by
  rw [one_part h]
  intro j k hj hk
  have hr := (ht.ok.comp_testBit (by rw [ht.len]; exact hj) k).1 ((one_part ht.ok).1 h1 j k (by rw [ht.len]; exact hj) (by rw [ht.len]; exact hk))
  refine (h.comp_testBit hj k).2 ?_
  clear hk
  induction hr with
  | here ha => exact .here (by rw [allOf_testBit]; simpa using hj)
  | @step a b _ hl hn ha ih =>
    have hl' : a < net.length := by rw [← ht.len]; exact hl
    have := ht.sub _ _ hl' hn
    exact .step ih hl' this (by rw [allOf_testBit]; simpa using h.nb_lt hl' this)
/-- In one part of two places or more each place has a wire. -/
theorem one_deg {t : List Int} (h : Ok t) (h1 : parts t = 1) (h2 : 2 ≤ t.length) {k : Nat} (hk : k < t.length) : 1 ≤ size (nb t k) := by
  have h6 := h.hi
  have hne : nb t k ≠ 0 := fun h0 => by
    have hc := (comp_alone h hk).2 h0
    have : ∃ j, j < t.length ∧ j ≠ k := by
      by_cases hk0 : k = 0
      · exact ⟨1, by omega, by omega⟩
      · exact ⟨0, by omega, by omega⟩
    obtain ⟨j, hj, hjk⟩ := this
    have := (one_part h).1 h1 k j hk hj
    rw [hc, testBit_pow] at this
    simp at this; omega
  obtain ⟨j, hj⟩ := pos_iff.1 hne
  have := h.nb_lt hk hj
  exact size_pos (h.lt64 hk) (by omega) hj
/-- A tree of two places or more has two leaves. -/
theorem leafs_two {net t : List Int} (ht : Tree net t) (h2 : 2 ≤ net.length) : 2 ≤ leafs t := by
  have hl := ht.sub.len
  have hw := ends_wires ht.sub.ok
  have h1 : 2 * t.length ≤ ends t + leafs t := by
    unfold ends leafs cnt
    rw [← sumN_add, show 2 * t.length = sumN t.length (fun _ => 2) by rw [sumN_const]; omega]
    refine sumN_le fun k hk => ?_
    have := one_deg ht.sub.ok ht.one (by omega) hk
    show 2 ≤ size (nb t k) + (size (nb t k) == 1).toNat
    by_cases h1 : size (nb t k) = 1
    · simp [h1]
    · have : (size (nb t k) == 1) = false := by simpa using h1
      rw [this]; simp; omega
  have := ht.wires_
  omega
/-- The places with more than one wire. -/
def inner (t : List Int) : Nat := orN t.length (fun k => !(size (nb t k) == 1)) (fun k => 2 ^ k)
theorem inner_testBit (t : List Int) (j : Nat) : (inner t).testBit j = true ↔ j < t.length ∧ size (nb t j) ≠ 1 := by
  unfold inner
  rw [orN_testBit]
  constructor
  · rintro ⟨k, hk, a, b⟩
    rw [testBit_pow, decide_eq_true_eq] at b
    subst b
    exact ⟨hk, by simpa using a⟩
  · rintro ⟨a, b⟩
    exact ⟨j, a, by simpa using b, by rw [testBit_pow]; simp⟩
theorem inner_lt (t : List Int) : inner t < 2 ^ t.length := orN_lt fun k hk _ => Nat.pow_lt_pow_right (by omega) hk
theorem inner_size {t : List Int} (h : Ok t) : size (inner t) + leafs t = t.length := by
  rw [size_cnt h (inner_lt t)]
  have := cnt_not t.length (fun k => size (nb t k) == 1)
  have e : cnt t.length (fun k => (inner t).testBit k) = cnt t.length (fun k => !(size (nb t k) == 1)) := cnt_congr fun k hk => by
    rw [Bool.eq_iff_iff, inner_testBit]
    constructor
    · rintro ⟨_, b⟩; simpa using b
    · intro b; exact ⟨hk, by simpa using b⟩
  rw [e]; unfold leafs; omega
theorem bits_one (s : Nat) (hs : s < 64) (i : Nat) (hi6 : i < 6) (j : Nat) (hj6 : j < 6) (hz : size s = 1) (hi : s.testBit i = true) (hj : s.testBit j = true) : i = j := by
  refine Classical.byContradiction fun hne => ?_
  have h1 := bits_sub s hs i hi6 hi
  have h2 : (s - 2 ^ i).testBit j = true := by rw [sub_testBit hs hi6 hi, hj]; simp; omega
  have := size_pos h1.1 hj6 h2
  omega
/-- What is not a leaf stands together and watches, in one part of three places or more. -/
theorem inner_joined {net t : List Int} (h : Ok net) (ht : Sub net t) (h1 : parts t = 1) (h3 : 3 ≤ net.length) : Together net (inner t) ∧ W net (inner t) = true := by
  have hO := ht.ok
  have hl := ht.len
  have h6 := h.hi
  have only : ∀ {k i j : Nat}, k < t.length → size (nb t k) = 1 → (nb t k).testBit i = true → (nb t k).testBit j = true → i = j := fun {k i j} hk hz hi hj =>
    bits_one _ (hO.lt64 hk) i (by have := hO.nb_lt hk hi; omega) j (by have := hO.nb_lt hk hj; omega) hz hi hj
  have hone := (one_part hO).1 h1
  -- a closed set has all places
  have closed : ∀ (A : Nat) (i : Nat), i < t.length → A.testBit i = true → (∀ x y, A.testBit x = true → x < t.length → (nb t x).testBit y = true → A.testBit y = true) → ∀ j, j < t.length → A.testBit j = true := by
    intro A i hi hA hcl j hj
    have hr := (hO.comp_testBit hi j).1 (hone i j hi hj)
    clear hj
    induction hr with
    | here _ => exact hA
    | step _ hx hn _ ih => exact hcl _ _ ih hx hn
  -- the neighbour of a leaf is none
  have nbr : ∀ {k j : Nat}, k < t.length → size (nb t k) = 1 → (nb t k).testBit j = true → (inner t).testBit j = true := by
    intro k j hk hz hj
    have hjl := hO.nb_lt hk hj
    refine (inner_testBit t j).2 ⟨hjl, fun hz2 => ?_⟩
    have hjk : (nb t j).testBit k = true := by rw [hO.sym k j hk hjl]; exact hj
    -- both alone: the two would be all places
    have hall := closed (2 ^ k ||| 2 ^ j) k hk ((or2 _ _ _).2 (.inl (by rw [testBit_pow]; simp))) (fun x y hx hxl hy => by
      rw [or2, testBit_pow, testBit_pow, decide_eq_true_eq, decide_eq_true_eq] at hx
      rw [or2, testBit_pow, testBit_pow, decide_eq_true_eq, decide_eq_true_eq]
      rcases hx with rfl | rfl
      · exact .inr (only hxl hz hj hy)
      · exact .inl (only hxl hz2 hjk hy))
    have : ∃ m, m < t.length ∧ m ≠ k ∧ m ≠ j := by
      refine Classical.byContradiction fun hc => ?_
      have h0 : ∀ m, m < t.length → m = k ∨ m = j := fun m hm => Classical.byContradiction fun hx => hc ⟨m, hm, fun he => hx (.inl he), fun he => hx (.inr he)⟩
      have a0 := h0 0 (by omega)
      have a1 := h0 1 (by omega)
      have a2 := h0 2 (by omega)
      omega
    obtain ⟨m, hm, n1, n2⟩ := this
    have := hall m hm
    rw [or2, testBit_pow, testBit_pow, decide_eq_true_eq, decide_eq_true_eq] at this
    omega
  have hil : inner t < 2 ^ net.length := by rw [← hl]; exact inner_lt t
  -- there is one
  have hex : ∃ i, (inner t).testBit i = true := by
    by_cases hz : size (nb t 0) = 1
    · have hne : nb t 0 ≠ 0 := fun h0 => by rw [h0] at hz; exact absurd hz (by decide)
      obtain ⟨j, hj⟩ := pos_iff.1 hne
      exact ⟨j, nbr (by omega) hz hj⟩
    · exact ⟨0, (inner_testBit t 0).2 ⟨by omega, hz⟩⟩
  obtain ⟨i, hi⟩ := hex
  have hit := ((inner_testBit t i).1 hi).1
  have hin : i < net.length := by omega
  constructor
  · refine together_of h hil hi fun j hj => ?_
    have hjt := ((inner_testBit t j).1 hj).1
    -- what is reached within, and the leaves beside it
    let C := part net (inner t) i
    have hC : ∀ x, C.testBit x = true ↔ Reach net (inner t) i x := fun x => h.part_testBit hin x
    let A := C ||| orN t.length (fun k => (size (nb t k) == 1) && ((nb t k &&& C) != 0)) (fun k => 2 ^ k)
    have hA : ∀ x, A.testBit x = true ↔ C.testBit x = true ∨ (x < t.length ∧ size (nb t x) = 1 ∧ ∃ c, (nb t x).testBit c = true ∧ C.testBit c = true) := fun x => by
      show (C ||| _).testBit x = true ↔ _
      rw [or2, orN_testBit]
      constructor
      · rintro (a | ⟨k, hk, a, b⟩)
        · exact .inl a
        · rw [testBit_pow, decide_eq_true_eq] at b
          subst b
          rw [Bool.and_eq_true, beq_iff_eq, bne_iff_ne] at a
          obtain ⟨c, hc⟩ := pos_iff.1 a.2
          rw [Nat.testBit_and, Bool.and_eq_true] at hc
          exact .inr ⟨hk, a.1, c, hc.1, hc.2⟩
      · rintro (a | ⟨hk, a, c, hc1, hc2⟩)
        · exact .inl a
        · refine .inr ⟨x, hk, ?_, by rw [testBit_pow]; simp⟩
          rw [Bool.and_eq_true, beq_iff_eq, bne_iff_ne]
          exact ⟨a, pos_iff.2 ⟨c, by rw [Nat.testBit_and, hc1, hc2]; rfl⟩⟩
    have hall := closed A i hit ((hA i).2 (.inl ((hC i).2 (.here hi)))) (fun x y hx hxl hy => by
      have hyl := hO.nb_lt hxl hy
      rcases (hA x).1 hx with hx | ⟨_, hz, c, hc1, hc2⟩
      · by_cases hzy : size (nb t y) = 1
        · exact (hA y).2 (.inr ⟨hyl, hzy, x, by rw [hO.sym x y hxl hyl]; exact hy, hx⟩)
        · have hyi := (inner_testBit t y).2 ⟨hyl, hzy⟩
          have hxn : x < net.length := by omega
          exact (hA y).2 (.inl ((hC y).2 (.step ((hC x).1 hx) hxn (ht.sub x y hxn hy) hyi)))
      · have := only hxl hz hc1 hy
        rw [← this]
        exact (hA c).2 (.inl hc2))
    rcases (hA j).1 (hall j hjt) with a | ⟨_, hz, _⟩
    · exact (hC j).1 a
    · exact absurd hz ((inner_testBit t j).1 hj).2
  · refine (W_iff h hil).2 fun j hj => (seen_iff h _ hj).2 ?_
    have hjt : j < t.length := by omega
    by_cases hz : size (nb t j) = 1
    · right
      have hne : nb t j ≠ 0 := fun h0 => by rw [h0] at hz; exact absurd hz (by decide)
      obtain ⟨c, hc⟩ := pos_iff.1 hne
      have := hO.nb_lt hjt hc
      exact ⟨c, by omega, nbr hjt hz hc, ht.sub j c hj hc⟩
    · exact .inl ((inner_testBit t j).2 ⟨hjt, hz⟩)

/-! ### A tree over a joined watch -/
/-- After m steps from r within a set. -/
theorem steps_lvl {net : List Int} (h : Ok net) {s r : Nat} (hs : s < 2 ^ net.length) (hr : s.testBit r = true) (hT : Together net s) : ∃ lv : Nat → Nat, ∃ p : Nat → Nat, lv r = 0 ∧ ∀ v, s.testBit v = true → v ≠ r → s.testBit (p v) = true ∧ (nb net v).testBit (p v) = true ∧ lv (p v) < lv v ∧ lv v ≤ 6 := by
  have hrl := in_lt hs hr
  have h6 := h.hi
  have e0 : 2 ^ r &&& s = 2 ^ r := Nat.eq_of_testBit_eq fun j => by
    rw [Nat.testBit_and, testBit_pow]
    by_cases hxj : r = j
    · rw [← hxj, hr]; simp
    · simp [hxj]
  let L := fun m k => (steps net s m (2 ^ r)).testBit k
  have mono1 : ∀ m k, L m k = true → L (m + 1) k = true := fun m k hk => (grow_testBit _ _ _ _).2 (.inl hk)
  have mono : ∀ m m' k, m ≤ m' → L m k = true → L m' k = true := by
    intro m m' k hm hk
    induction m' with
    | zero => obtain rfl : m = 0 := by omega
              exact hk
    | succ m' ih =>
      by_cases he : m = m' + 1
      · rw [← he]; exact hk
      · exact mono1 m' k (ih (by omega))
  let lv := fun k => cnt 6 (fun m => !L m k)
  have six : ∀ v, s.testBit v = true → L 6 v = true := fun v hv => by
    have hx : (part net s r).testBit v = true := (h.part_testBit hrl v).2 (hT.2 r v hr hv)
    unfold part at hx
    rw [e0] at hx
    exact hx
  have hp : ∀ v, ∃ j, s.testBit v = true → v ≠ r → s.testBit j = true ∧ (nb net v).testBit j = true ∧ lv j < lv v := fun v => by
    by_cases hv : s.testBit v = true ∧ v ≠ r
    · have h0 : L 0 v = false := by
        show (2 ^ r).testBit v = false
        rw [testBit_pow]; simp; exact fun he => hv.2 he.symm
      have hex : ∀ m, m ≤ 6 → L m v = true → ∃ q, q < m ∧ L q v = false ∧ L (q + 1) v = true := by
        intro m
        induction m with
        | zero => intro _ hb; rw [h0] at hb; cases hb
        | succ m ih =>
          intro hm hb
          cases hc : L m v with
          | false => exact ⟨m, by omega, hc, hb⟩
          | true => obtain ⟨q, a, b⟩ := ih (by omega) hc; exact ⟨q, by omega, b⟩
      obtain ⟨q, hq, hqf, hqt⟩ := hex 6 (Nat.le_refl _) (six v hv.1)
      rcases (grow_testBit _ _ _ _).1 hqt with c1 | ⟨⟨j, hj, c1, c2⟩, _⟩
      · have : L q v = true := c1
        rw [hqf] at this; cases this
      · have hjs : s.testBit j = true := by
          have := steps_reach (net := net) (A := s) (i := r) q (j := j) (by rw [e0]; exact c1)
          exact this.among.2
        have hvl := in_lt hs hv.1
        refine ⟨j, fun _ _ => ⟨hjs, by rw [h.sym j v hj hvl]; exact c2, ?_⟩⟩
        have hjl : L q j = true := c1
        have h1 : lv j ≤ q := by
          have := cnt_mono (n := 6) (p := fun m => !L m j) (q := fun i => decide (i < q)) (fun m hm hp => by
            have hp' : L m j = false := by simpa using hp
            rw [decide_eq_true_eq]
            refine Classical.byContradiction fun hc => ?_
            rw [mono q m j (by omega) hjl] at hp'; cases hp')
          rw [cnt_below 6 q (by omega)] at this
          exact this
        have h2 : q + 1 ≤ lv v := by
          have := cnt_mono (n := 6) (p := fun i => decide (i < q + 1)) (q := fun m => !L m v) (fun m hm hp => by
            have hp' : m < q + 1 := by simpa using hp
            cases hx : L m v with
            | false => rfl
            | true => rw [mono m q v (by omega) hx] at hqf; cases hqf)
          rw [cnt_below 6 (q + 1) (by omega)] at this
          exact this
        omega
    · exact ⟨0, fun a b => absurd ⟨a, b⟩ hv⟩
  refine ⟨lv, fun v => Classical.choose (hp v), ?_, fun v hv hne => ?_⟩
  · show cnt 6 (fun m => !L m r) = 0
    have : cnt 6 (fun m => !L m r) = cnt 6 (fun _ => false) := cnt_congr fun m _ => by
      have : L m r = true := mono 0 m r (by omega) (by show (2 ^ r).testBit r = true; rw [testBit_pow]; simp)
      rw [this]; rfl
    rw [this]; rfl
  · obtain ⟨a, b, c⟩ := Classical.choose_spec (hp v) hv hne
    exact ⟨a, b, c, cnt_le _ _⟩
/-- The net of the wires from each place but r to its parent. -/
def treeOf (n r : Nat) (p : Nat → Nat) : List Int := (List.range n).map fun k => ((orN n (fun j => (!(k == r) && (p k == j)) || (!(j == r) && (p j == k))) (fun j => 2 ^ j) : Nat) : Int)
theorem treeOf_len (n r : Nat) (p : Nat → Nat) : (treeOf n r p).length = n := by simp [treeOf]
theorem treeOf_nb {n r k : Nat} {p : Nat → Nat} (hk : k < n) : nb (treeOf n r p) k = orN n (fun j => (!(k == r) && (p k == j)) || (!(j == r) && (p j == k))) (fun j => 2 ^ j) := by
  unfold nb el treeOf
  simp [List.getD, hk]
theorem treeOf_bit {n r k j : Nat} {p : Nat → Nat} (hk : k < n) : (nb (treeOf n r p) k).testBit j = true ↔ j < n ∧ ((k ≠ r ∧ p k = j) ∨ (j ≠ r ∧ p j = k)) := by
  rw [treeOf_nb hk, orN_testBit]
  constructor
  · rintro ⟨i, hi, a, b⟩
    rw [testBit_pow, decide_eq_true_eq] at b
    subst b
    refine ⟨hi, ?_⟩
    simpa using a
  · rintro ⟨a, b⟩
    exact ⟨j, a, by simpa using b, by rw [testBit_pow]; simp⟩
theorem tree_over {net : List Int} (h : Ok net) {s : Nat} (hs : s < 2 ^ net.length) (hT : Together net s) (hw : W net s = true) : ∃ t, Tree net t ∧ net.length - size s ≤ leafs t := by
  have h6 := h.hi
  obtain ⟨r, hr⟩ := pos_iff.1 hT.1
  have hrl := in_lt hs hr
  obtain ⟨lv, p, hlr, hp⟩ := steps_lvl h hs hr hT
  -- parents of all places
  have hq : ∀ v, ∃ j, v < net.length → v ≠ r → s.testBit j = true ∧ (nb net v).testBit j = true ∧ (s.testBit v = true → lv j < lv v) := fun v => by
    by_cases hv : v < net.length
    · cases hb : s.testBit v with
      | true =>
        by_cases hne : v = r
        · exact ⟨0, fun _ hh => absurd hne hh⟩
        · obtain ⟨a, b, c, _⟩ := hp v hb hne
          exact ⟨p v, fun _ _ => ⟨a, b, fun _ => c⟩⟩
      | false =>
        rcases (seen_iff h s hv).1 ((W_iff h hs).1 hw v hv) with x | ⟨i, _, x, y⟩
        · rw [hb] at x; cases x
        · exact ⟨i, fun _ _ => ⟨x, y, fun hh => by cases hh⟩⟩
    · exact ⟨0, fun hh => absurd hh hv⟩
  have hPex : ∃ P : Nat → Nat, ∀ v, v < net.length → v ≠ r → s.testBit (P v) = true ∧ (nb net v).testBit (P v) = true ∧ (s.testBit v = true → lv (P v) < lv v) := ⟨fun v => Classical.choose (hq v), fun v => Classical.choose_spec (hq v)⟩
  obtain ⟨P, hP⟩ := hPex
  have hPl : ∀ v, v < net.length → v ≠ r → P v < net.length := fun v hv hne => in_lt hs (hP v hv hne).1
  -- no two are each other's parents
  have hnot : ∀ k j, k < net.length → j < net.length → k ≠ r → j ≠ r → P k = j → P j = k → False := fun k j hk hj hkr hjr h1 h2 => by
    obtain ⟨a, _, c⟩ := hP k hk hkr
    obtain ⟨d, _, f⟩ := hP j hj hjr
    rw [h1] at a c
    rw [h2] at d f
    have := c d
    have := f a
    omega
  let t := treeOf net.length r P
  have hlen : t.length = net.length := treeOf_len _ _ _
  have hbit : ∀ {k j : Nat}, k < net.length → ((nb t k).testBit j = true ↔ j < net.length ∧ ((k ≠ r ∧ P k = j) ∨ (j ≠ r ∧ P j = k))) := fun hk => treeOf_bit hk
  have hOk : Ok t := by
    refine ⟨by rw [hlen]; exact h.lo, by rw [hlen]; exact h.hi, fun k hk => ?_, fun k hk => ?_, fun j k hj hk => ?_, fun k hk => ?_⟩
    · show el (treeOf net.length r P) k = _
      have hk' : k < net.length := by rw [← hlen]; exact hk
      have := treeOf_nb (r := r) (p := P) hk'
      show _ = ((nb (treeOf net.length r P) k : Nat) : Int)
      rw [this]
      unfold el treeOf
      simp [List.getD, hk']
    · have hk' : k < net.length := by rw [← hlen]; exact hk
      show nb (treeOf net.length r P) k < _
      rw [treeOf_nb hk', hlen]
      exact orN_lt fun j hj _ => Nat.pow_lt_pow_right (by omega) hj
    · rw [hlen] at hj hk
      rw [Bool.eq_iff_iff, hbit hk, hbit hj]
      constructor
      · rintro ⟨_, a | a⟩
        · exact ⟨hk, .inr a⟩
        · exact ⟨hk, .inl a⟩
      · rintro ⟨_, a | a⟩
        · exact ⟨hj, .inr a⟩
        · exact ⟨hj, .inl a⟩
    · rw [hlen] at hk
      refine not_true fun hc => ?_
      obtain ⟨_, a | a⟩ := (hbit hk).1 hc
      · have := (hP k hk a.1).2.1
        rw [a.2, h.irr k hk] at this; cases this
      · have := (hP k hk a.1).2.1
        rw [a.2, h.irr k hk] at this; cases this
  have hSub : Sub net t := by
    refine ⟨hOk, hlen, fun k j hk hj => ?_⟩
    obtain ⟨hjl, a | a⟩ := (hbit hk).1 hj
    · have := (hP k hk a.1).2.1
      rw [a.2] at this; exact this
    · have := (hP j hjl a.1).2.1
      rw [a.2, h.sym k j hk hjl] at this; exact this
  -- one part: each place comes to r
  have reach : ∀ m v, v < net.length → (if s.testBit v = true then lv v else 7) ≤ m → Reach t (allOf t) r v := by
    intro m
    induction m with
    | zero =>
      intro v hv hm
      cases hb : s.testBit v with
      | false => rw [hb] at hm; simp at hm
      | true =>
        rw [hb, if_pos rfl] at hm
        by_cases hvr : v = r
        · rw [hvr]; exact .here (by rw [allOf_testBit, hlen]; simpa using hrl)
        · have := (hP v hv hvr).2.2 hb; omega
    | succ m ih =>
      intro v hv hm
      by_cases hvr : v = r
      · rw [hvr]; exact .here (by rw [allOf_testBit, hlen]; simpa using hrl)
      · obtain ⟨a, b, c⟩ := hP v hv hvr
        have hpl := hPl v hv hvr
        have hle : (if s.testBit (P v) = true then lv (P v) else 7) ≤ m := by
          rw [if_pos a]
          cases hb : s.testBit v with
          | true => have := c hb; rw [hb, if_pos rfl] at hm; omega
          | false =>
            rw [hb] at hm
            simp at hm
            by_cases hpr : P v = r
            · rw [hpr, hlr]; omega
            · obtain ⟨_, _, _, h6'⟩ := hp (P v) a hpr
              omega
        exact .step (ih (P v) hpl hle) (by rw [hlen]; exact hpl) ((hbit hpl).2 ⟨hv, .inr ⟨hvr, rfl⟩⟩) (by rw [allOf_testBit, hlen]; simpa using hv)
  have hone : parts t = 1 := by
    rw [one_part hOk]
    intro j k hj hk
    rw [hlen] at hj hk
    refine (hOk.comp_testBit (by rw [hlen]; exact hj) k).2 ?_
    have a := reach _ j hj (Nat.le_refl _)
    have b := reach _ k hk (Nat.le_refl _)
    exact (a.symm hOk (by rw [hlen]; exact hrl)).trans b
  -- as many wires as places but one
  have hends : ends t = 2 * (net.length - 1) := by
    rw [ends_is hOk, hlen]
    have e1 : sumN net.length (fun k => sumN net.length (fun j => ((nb t k).testBit j).toNat)) = sumN net.length (fun k => sumN net.length (fun j => (decide (k ≠ r ∧ P k = j)).toNat)) + sumN net.length (fun k => sumN net.length (fun j => (decide (j ≠ r ∧ P j = k)).toNat)) := by
      rw [← sumN_add]
      refine sumN_congr fun k hk => ?_
      rw [← sumN_add]
      refine sumN_congr fun j hj => ?_
      have hb := hbit (j := j) hk
      by_cases h1 : k ≠ r ∧ P k = j
      · by_cases h2 : j ≠ r ∧ P j = k
        · exact (hnot k j hk hj h1.1 h2.1 h1.2 h2.2).elim
        · rw [hb.2 ⟨hj, .inl h1⟩, decide_eq_true h1, decide_eq_false h2]; rfl
      · by_cases h2 : j ≠ r ∧ P j = k
        · rw [hb.2 ⟨hj, .inr h2⟩, decide_eq_false h1, decide_eq_true h2]; rfl
        · have : (nb t k).testBit j = false := not_true fun hc => by
            rcases (hb.1 hc).2 with a | a
            · exact h1 a
            · exact h2 a
          rw [this, decide_eq_false h1, decide_eq_false h2]; rfl
    have e2 : sumN net.length (fun k => sumN net.length (fun j => (decide (k ≠ r ∧ P k = j)).toNat)) = net.length - 1 := by
      have e3 : sumN net.length (fun k => sumN net.length (fun j => (decide (k ≠ r ∧ P k = j)).toNat)) = cnt net.length (fun k => !(k == r)) := by
        refine sumN_congr fun k hk => ?_
        by_cases hkr : k = r
        · rw [sumN_congr (g := fun _ => 0) (fun j _ => by simp [hkr]), sumN_zero]; simp [hkr]
        · rw [sumN_one (k := P k) (hPl k hk hkr) (fun j _ hj => by rw [decide_eq_false (fun hc => hj hc.2.symm)]; rfl)]
          show (decide (k ≠ r ∧ P k = P k)).toNat = (!(k == r)).toNat
          rw [decide_eq_true (⟨hkr, rfl⟩ : k ≠ r ∧ P k = P k), show (k == r) = false by simpa using hkr]
          rfl
      have e4 := cnt_not net.length (fun k => k == r)
      have e5 : cnt net.length (fun k => k == r) = 1 := by
        show sumN net.length (fun k => (k == r).toNat) = 1
        rw [sumN_one (k := r) hrl (fun j _ hj => by simp [hj])]
        simp
      omega
    have e6 : sumN net.length (fun k => sumN net.length (fun j => (decide (j ≠ r ∧ P j = k)).toNat)) = sumN net.length (fun k => sumN net.length (fun j => (decide (k ≠ r ∧ P k = j)).toNat)) := by
      rw [sumN_swap]
    rw [e1, e6, e2]; omega
  have hwt := ends_wires hOk
  have hlo := h.lo
  refine ⟨t, ⟨hSub, hone, by omega⟩, ?_⟩
  -- the places outside are leaves
  rw [size_cnt h hs]
  have hn := cnt_not net.length (fun k => s.testBit k)
  have : cnt net.length (fun k => !s.testBit k) ≤ leafs t := by
    unfold leafs
    rw [hlen]
    refine cnt_mono fun k hk hb => ?_
    have hkr : k ≠ r := fun he => by rw [he, hr] at hb; cases hb
    have hkb : s.testBit k = false := by simpa using hb
    rw [beq_iff_eq, size_cnt hOk (hOk.lt k (by rw [hlen]; exact hk)), hlen]
    show sumN net.length (fun j => ((nb t k).testBit j).toNat) = 1
    rw [sumN_one (k := P k) (hPl k hk hkr) (fun j hj hne => ?_), (hbit hk).2 ⟨hPl k hk hkr, .inl ⟨hkr, rfl⟩⟩]
    · rfl
    · have : (nb t k).testBit j = false := not_true fun hc => by
        rcases ((hbit hk).1 hc).2 with a | a
        · exact hne a.2.symm
        · have := (hP j hj a.1).1
          rw [a.2, hkb] at this; cases this
      rw [this]; rfl
  omega
end Go.Proofs.Ytlamlnmeaolpmaa
/- The wires of a net in a row, and the nets of some of them. Conditions: those of each theorem. -/
namespace Go.Proofs.Ytlamlnmeaolpmaa
set_option linter.unusedVariables false
set_option linter.unusedSimpArgs false

def pairStep (net : List Int) (k : Nat) (t : List (Nat × Nat)) (i : Nat) : List (Nat × Nat) := if (nb net k).testBit (k + 1 + i) = true then t ++ [(k, k + 1 + i)] else t
def pairRow (net : List Int) (t : List (Nat × Nat)) (k : Nat) : List (Nat × Nat) := fold (net.length - (k + 1)) (pairStep net k) t
def pairs (net : List Int) : List (Nat × Nat) := fold net.length (pairRow net) []
def bound15 (k : Nat) : Nat := k * (11 - k) / 2
def RowI (net : List Int) (k i : Nat) (t : List (Nat × Nat)) : Prop :=
  (∀ a b, (a, b) ∈ t ↔ ((a < k ∧ a < b ∧ b < net.length) ∨ (a = k ∧ k < b ∧ b < k + 1 + i)) ∧ (nb net a).testBit b = true) ∧ t.Nodup ∧ t.length ≤ bound15 k + i
theorem snoc_nodup {α : Type} {t : List α} {x : α} (h : t.Nodup) (hx : x ∉ t) : (t ++ [x]).Nodup := by
  rw [List.nodup_append]
  refine ⟨h, by simp, fun a ha b hb => ?_⟩
  have := List.mem_singleton.1 hb
  subst this
  exact fun e => hx (e ▸ ha)
theorem row_step {net : List Int} {k i : Nat} {t : List (Nat × Nat)} (hi : i < net.length - (k + 1)) (h : RowI net k i t) : RowI net k (i + 1) (pairStep net k t i) := by
  obtain ⟨h1, h2, h3⟩ := h
  unfold pairStep
  by_cases hb : (nb net k).testBit (k + 1 + i) = true
  · rw [if_pos hb]
    refine ⟨fun a b => ?_, snoc_nodup h2 fun hm => ?_, by rw [List.length_append]; simp; omega⟩
    · rw [List.mem_append, h1, List.mem_singleton, Prod.mk.injEq]
      constructor
      · rintro (⟨hab, hc⟩ | ⟨rfl, rfl⟩)
        · exact ⟨by omega, hc⟩
        · exact ⟨by omega, hb⟩
      · rintro ⟨hab, hc⟩
        by_cases he : a = k ∧ b = k + 1 + i
        · exact .inr he
        · exact .inl ⟨by omega, hc⟩
    · have := ((h1 _ _).1 hm).1
      omega
  · rw [if_neg hb]
    refine ⟨fun a b => ?_, h2, by omega⟩
    rw [h1]
    constructor
    · rintro ⟨hab, hc⟩; exact ⟨by omega, hc⟩
    · rintro ⟨hab, hc⟩
      by_cases he : a = k ∧ b = k + 1 + i
      · rw [he.1, he.2] at hc; exact absurd hc hb
      · exact ⟨by omega, hc⟩
theorem row_row {net : List Int} {k : Nat} {t : List (Nat × Nat)} (hk : k < net.length) (h6 : net.length ≤ 6) (h : RowI net k 0 t) : RowI net (k + 1) 0 (pairRow net t k) := by
  have key : ∀ i, i ≤ net.length - (k + 1) → RowI net k i (fold i (pairStep net k) t) := by
    intro i
    induction i with
    | zero => exact fun _ => h
    | succ i ih => intro hi; rw [fold_succ]; exact row_step (by omega) (ih (by omega))
  obtain ⟨h1, h2, h3⟩ := key _ (Nat.le_refl _)
  have hb : ∀ k, k < 6 → bound15 k + (5 - k) ≤ bound15 (k + 1) := by decide
  have := hb k (by omega)
  refine ⟨fun a b => ?_, h2, by unfold pairRow; omega⟩
  show (a, b) ∈ fold (net.length - (k + 1)) (pairStep net k) t ↔ _
  rw [h1]
  constructor
  · rintro ⟨hab, hc⟩; exact ⟨by omega, hc⟩
  · rintro ⟨hab, hc⟩; exact ⟨by omega, hc⟩
theorem pairs_is {net : List Int} (h6 : net.length ≤ 6) : (∀ a b, (a, b) ∈ pairs net ↔ a < b ∧ b < net.length ∧ (nb net a).testBit b = true) ∧ (pairs net).Nodup ∧ (pairs net).length ≤ 15 := by
  have key : ∀ k, k ≤ net.length → RowI net k 0 (fold k (pairRow net) []) := by
    intro k
    induction k with
    | zero => exact fun _ => ⟨fun a b => ⟨fun hm => (by cases hm), fun hm => (by omega)⟩, List.nodup_nil, Nat.zero_le _⟩
    | succ k ih => intro hk; rw [fold_succ]; exact row_row (by omega) h6 (ih (by omega))
  obtain ⟨h1, h2, h3⟩ := key _ (Nat.le_refl _)
  have hb : ∀ k, k ≤ 6 → bound15 k ≤ 15 := by decide
  have := hb _ h6
  refine ⟨fun a b => ?_, h2, by unfold pairs; omega⟩
  show (a, b) ∈ fold net.length (pairRow net) [] ↔ _
  rw [h1]
  constructor
  · rintro ⟨hab, hc⟩; exact ⟨by omega, by omega, hc⟩
  · rintro ⟨x, y, hc⟩; exact ⟨by omega, hc⟩
def pt (L : List (Nat × Nat)) (i : Nat) : Nat × Nat := L.getD i (0, 0)
theorem pt_mem {L : List (Nat × Nat)} {i : Nat} (hi : i < L.length) : pt L i ∈ L := by unfold pt; simp [List.getD, hi]
theorem mem_pt {L : List (Nat × Nat)} {p : Nat × Nat} (hp : p ∈ L) : ∃ i, i < L.length ∧ pt L i = p := by
  obtain ⟨i, hi, e⟩ := List.getElem_of_mem hp
  exact ⟨i, hi, by unfold pt; simp [List.getD, hi, e]⟩
theorem pt_inj {L : List (Nat × Nat)} (h : L.Nodup) {i j : Nat} (hi : i < L.length) (hj : j < L.length) (e : pt L i = pt L j) : i = j := by
  unfold pt at e
  simp only [List.getD, List.getElem?_eq_getElem hi, List.getElem?_eq_getElem hj, Option.getD_some] at e
  exact (List.getElem_inj h).1 e
/-- One wire more. -/
def addWire (T : List Int) (a b : Nat) : List Int := (T.set a ((nb T a ||| 2 ^ b : Nat) : Int)).set b ((nb (T.set a ((nb T a ||| 2 ^ b : Nat) : Int)) b ||| 2 ^ a : Nat) : Int)
def treeStep (L : List (Nat × Nat)) (x : Nat) (T : List Int) (i : Nat) : List Int := if x.testBit i = true then addWire T (pt L i).1 (pt L i).2 else T
def treeN (n : Nat) (L : List (Nat × Nat)) (x : Nat) : List Int := fold L.length (treeStep L x) (List.replicate n 0)
theorem el_set {T : List Int} {k : Nat} {v : Int} (hk : k < T.length) (j : Nat) : el (T.set k v) j = if j = k then v else el T j := by
  unfold el
  by_cases hj : j = k
  · subst hj; simp [List.getD, hk]
  · rw [if_neg hj]; simp [List.getD, List.getElem?_set, Ne.symm hj]
theorem nb_set {T : List Int} {k v : Nat} (hk : k < T.length) (j : Nat) : nb (T.set k (v : Int)) j = if j = k then v else nb T j := by
  unfold nb
  rw [el_set hk]
  split <;> simp
theorem addWire_nb {T : List Int} {a b : Nat} (ha : a < T.length) (hb : b < T.length) (hab : a ≠ b) (j : Nat) : nb (addWire T a b) j = if j = b then nb T b ||| 2 ^ a else if j = a then nb T a ||| 2 ^ b else nb T j := by
  unfold addWire
  rw [nb_set (by simpa using hb), nb_set ha, if_neg (Ne.symm hab), nb_set ha]
theorem addWire_len (T : List Int) (a b : Nat) : (addWire T a b).length = T.length := by simp [addWire]
theorem addWire_el {T : List Int} {a b : Nat} (ha : a < T.length) (hb : b < T.length) (hab : a ≠ b) (h : ∀ k, k < T.length → el T k = (nb T k : Int)) : ∀ k, k < T.length → el (addWire T a b) k = (nb (addWire T a b) k : Int) := by
  intro k hk
  rw [addWire_nb ha hb hab]
  unfold addWire
  rw [el_set (by simpa using hb), el_set ha, nb_set ha, if_neg (Ne.symm hab)]
  by_cases h1 : k = b
  · rw [if_pos h1, if_pos h1]
  · rw [if_neg h1, if_neg h1]
    by_cases h2 : k = a
    · rw [if_pos h2, if_pos h2]
    · rw [if_neg h2, if_neg h2]; exact h k hk
def TreeI (n : Nat) (L : List (Nat × Nat)) (x i : Nat) (T : List Int) : Prop :=
  T.length = n ∧ (∀ k, k < n → el T k = (nb T k : Int)) ∧ (∀ k j, k < n → ((nb T k).testBit j = true ↔ ∃ m, m < i ∧ x.testBit m = true ∧ (pt L m = (k, j) ∨ pt L m = (j, k)))) ∧ ends T = 2 * cnt i (fun m => x.testBit m)
theorem size_bit {a b : Nat} (ha : a < 64) (hb : b < 6) (hn : a.testBit b = false) : size (a ||| 2 ^ b) = size a + 1 := by
  have key : ((List.range 64).all fun a => (List.range 6).all fun b => a.testBit b || size (a ||| 2 ^ b) == size a + 1) = true := by decide +kernel
  have := List.all_eq_true.1 (List.all_eq_true.1 key a (List.mem_range.2 ha)) b (List.mem_range.2 hb)
  rw [hn, Bool.false_or, beq_iff_eq] at this
  exact this
theorem treeI_step {net : List Int} (h6 : net.length ≤ 6) {x i : Nat} {T : List Int} (hi : i < (pairs net).length) (h : TreeI net.length (pairs net) x i T) : TreeI net.length (pairs net) x (i + 1) (treeStep (pairs net) x T i) := by
  obtain ⟨p1, p2, p3⟩ := pairs_is h6
  obtain ⟨h1, h2, h3, h4⟩ := h
  have hcnt : cnt (i + 1) (fun m => x.testBit m) = cnt i (fun m => x.testBit m) + (x.testBit i).toNat := rfl
  unfold treeStep
  cases hx : x.testBit i with
  | false =>
    rw [if_neg (by simp)]
    refine ⟨h1, h2, fun k j hk => ?_, by rw [h4, hcnt, hx]; rfl⟩
    rw [h3 k j hk]
    constructor
    · rintro ⟨m, a, b, c⟩; exact ⟨m, by omega, b, c⟩
    · rintro ⟨m, a, b, c⟩
      have : m ≠ i := fun e => by rw [e, hx] at b; cases b
      exact ⟨m, by omega, b, c⟩
  | true =>
    rw [if_pos rfl]
    obtain ⟨a, b, hab⟩ : ∃ a b, pt (pairs net) i = (a, b) := ⟨_, _, rfl⟩
    have hm := (p1 a b).1 (hab ▸ pt_mem hi)
    obtain ⟨m1, m2, m3⟩ := hm
    rw [hab]
    simp only
    have ha : a < T.length := by omega
    have hb : b < T.length := by omega
    have hne : a ≠ b := by omega
    have fresh : ∀ k j, k < net.length → ((k = a ∧ j = b) ∨ (k = b ∧ j = a)) → (nb T k).testBit j = false := fun k j hk he => not_true fun hc => by
      obtain ⟨m, q1, q2, q3⟩ := (h3 k j hk).1 hc
      have hml : m < (pairs net).length := by omega
      have hw := pt_mem hml
      have : pt (pairs net) m = (a, b) := by
        rcases he with ⟨rfl, rfl⟩ | ⟨rfl, rfl⟩
        · rcases q3 with q3 | q3
          · exact q3
          · rw [q3] at hw; have := (p1 _ _).1 hw; omega
        · rcases q3 with q3 | q3
          · rw [q3] at hw; have := (p1 _ _).1 hw; omega
          · exact q3
      have := pt_inj p2 hml hi (this.trans hab.symm)
      omega
    have hlt : ∀ k, k < net.length → nb T k < 64 := fun k hk => by
      refine Nat.lt_pow_two_of_testBit (n := 6) _ fun j hj => not_true fun hc => ?_
      obtain ⟨m, q1, q2, q3⟩ := (h3 k j hk).1 hc
      have hw := pt_mem (L := pairs net) (i := m) (by omega)
      rcases q3 with q3 | q3 <;> rw [q3] at hw <;> have := (p1 _ _).1 hw <;> omega
    refine ⟨by rw [addWire_len]; exact h1, fun k hk => addWire_el ha hb hne (fun k hk => h2 k (by omega)) k (by omega), fun k j hk => ?_, ?_⟩
    · rw [addWire_nb ha hb hne]
      have base := h3 k j hk
      have hnew : (∃ m, m < i + 1 ∧ x.testBit m = true ∧ (pt (pairs net) m = (k, j) ∨ pt (pairs net) m = (j, k))) ↔ (nb T k).testBit j = true ∨ ((a, b) = (k, j) ∨ (a, b) = (j, k)) := by
        rw [base]
        constructor
        · rintro ⟨m, q1, q2, q3⟩
          by_cases he : m = i
          · subst he; rw [hab] at q3; exact .inr q3
          · exact .inl ⟨m, by omega, q2, q3⟩
        · rintro (⟨m, q1, q2, q3⟩ | q)
          · exact ⟨m, by omega, q2, q3⟩
          · exact ⟨i, by omega, hx, by rw [hab]; exact q⟩
      rw [hnew]
      simp only [Prod.mk.injEq]
      by_cases hkb : k = b
      · subst hkb
        rw [if_pos rfl, or2, testBit_pow, decide_eq_true_eq]
        constructor
        · rintro (q | q)
          · exact .inl q
          · exact .inr (.inr ⟨q, rfl⟩)
        · rintro (q | q | q)
          · exact .inl q
          · exact absurd q.1 hne
          · exact .inr q.1
      · rw [if_neg hkb]
        by_cases hka : k = a
        · subst hka
          rw [if_pos rfl, or2, testBit_pow, decide_eq_true_eq]
          constructor
          · rintro (q | q)
            · exact .inl q
            · exact .inr (.inl ⟨rfl, q⟩)
          · rintro (q | q | q)
            · exact .inl q
            · exact .inr q.2
            · exact absurd q.2.symm hkb
        · rw [if_neg hka]
          constructor
          · exact .inl
          · rintro (q | q | q)
            · exact q
            · exact absurd q.1.symm hka
            · exact absurd q.2.symm hkb
    · rw [hcnt, hx]
      unfold ends at h4 ⊢
      rw [addWire_len, h1]
      rw [h1] at h4
      have e : sumN net.length (fun k => size (nb (addWire T a b) k)) = sumN net.length (fun k => size (nb T k) + ((k == a).toNat + (k == b).toNat)) := sumN_congr fun k hk => by
        rw [addWire_nb ha hb hne]
        by_cases hkb : k = b
        · subst hkb
          rw [if_pos rfl, size_bit (hlt _ hk) (by omega) (fresh _ _ hk (.inr ⟨rfl, rfl⟩))]
          simp [Ne.symm hne]
        · rw [if_neg hkb]
          by_cases hka : k = a
          · subst hka
            rw [if_pos rfl, size_bit (hlt _ hk) (by omega) (fresh _ _ hk (.inl ⟨rfl, rfl⟩))]
            simp [hne]
          · rw [if_neg hka]; simp [hka, hkb]
      have one : ∀ c, c < net.length → sumN net.length (fun k => (k == c).toNat) = 1 := fun c hc => by
        rw [sumN_one (k := c) hc (fun j _ hj => by simp [hj])]; simp
      rw [e, sumN_add, sumN_add, one a (by omega), one b (by omega), h4]
      show _ = 2 * (_ + 1)
      omega
theorem treeN_is {net : List Int} (h6 : net.length ≤ 6) (x : Nat) : TreeI net.length (pairs net) x (pairs net).length (treeN net.length (pairs net) x) := by
  have key : ∀ i, i ≤ (pairs net).length → TreeI net.length (pairs net) x i (fold i (treeStep (pairs net) x) (List.replicate net.length 0)) := by
    intro i
    induction i with
    | zero =>
      intro _
      have e0 : ∀ k, nb (List.replicate net.length 0) k = 0 := fun k => by
        unfold nb el
        by_cases hk : k < net.length <;> simp [List.getD, List.getElem?_replicate, hk]
      refine ⟨by simp [fold_zero], fun k hk => ?_, fun k j hk => ?_, ?_⟩
      · rw [fold_zero, e0]; unfold el; simp [List.getD, List.getElem?_replicate, hk]
      · rw [fold_zero, e0, Nat.zero_testBit]
        exact ⟨fun hh => (by cases hh), fun ⟨m, a, _⟩ => (by omega)⟩
      · rw [fold_zero]
        show sumN (List.replicate net.length 0).length (fun k => size (nb (List.replicate net.length 0) k)) = 0
        rw [sumN_congr (g := fun _ => 0) (fun k _ => by rw [e0]; decide), sumN_zero]
    | succ i ih => intro hi; rw [fold_succ]; exact treeI_step h6 (by omega) (ih (by omega))
  exact key _ (Nat.le_refl _)
theorem treeN_sub {net : List Int} (h : Ok net) (x : Nat) : Sub net (treeN net.length (pairs net) x) ∧ wires (treeN net.length (pairs net) x) = cnt (pairs net).length (fun m => x.testBit m) := by
  have h6 := h.hi
  obtain ⟨p1, p2, p3⟩ := pairs_is h6
  obtain ⟨t1, t2, t3, t4⟩ := treeN_is h6 x
  generalize treeN net.length (pairs net) x = T at t1 t2 t3 t4 ⊢
  have hsub : ∀ k j, k < net.length → (nb T k).testBit j = true → (nb net k).testBit j = true ∧ j < net.length := fun k j hk hb => by
    obtain ⟨m, q1, q2, q3⟩ := (t3 k j hk).1 hb
    have hw := pt_mem q1
    rcases q3 with q3 | q3
    · rw [q3] at hw; obtain ⟨a, b, c⟩ := (p1 _ _).1 hw; exact ⟨c, b⟩
    · rw [q3] at hw
      obtain ⟨a, b, c⟩ := (p1 _ _).1 hw
      exact ⟨by rw [h.sym j k (by omega) hk]; exact c, by omega⟩
  refine ⟨⟨⟨by rw [t1]; exact h.lo, by rw [t1]; exact h6, fun k hk => t2 k (by omega), fun k hk => ?_, fun j k hj hk => ?_, fun k hk => ?_⟩, t1, fun k j hk hb => (hsub k j hk hb).1⟩, ?_⟩
  · rw [t1] at hk ⊢
    exact Nat.lt_pow_two_of_testBit _ fun j hj => not_true fun hc => by have := (hsub k j hk hc).2; omega
  · rw [t1] at hj hk
    rw [Bool.eq_iff_iff, t3 k j hk, t3 j k hj]
    constructor
    · rintro ⟨m, a, b, c⟩; exact ⟨m, a, b, c.symm⟩
    · rintro ⟨m, a, b, c⟩; exact ⟨m, a, b, c.symm⟩
  · rw [t1] at hk
    exact not_true fun hc => by have := (hsub k k hk hc).1; rw [h.irr k hk] at this; cases this
  · unfold wires; rw [t4]; omega
/-- Which wires of the row a net has. -/
def selW (L : List (Nat × Nat)) (t : List Int) : Nat := orN L.length (fun i => (nb t (pt L i).1).testBit (pt L i).2) (fun i => 2 ^ i)
theorem selW_testBit (L : List (Nat × Nat)) (t : List Int) (j : Nat) : (selW L t).testBit j = true ↔ j < L.length ∧ (nb t (pt L j).1).testBit (pt L j).2 = true := by
  unfold selW
  rw [orN_testBit]
  constructor
  · rintro ⟨k, hk, a, b⟩
    rw [testBit_pow, decide_eq_true_eq] at b
    subst b
    exact ⟨hk, a⟩
  · rintro ⟨a, b⟩
    exact ⟨j, a, b, by rw [testBit_pow]; simp⟩
theorem selW_lt (L : List (Nat × Nat)) (t : List Int) : selW L t < 2 ^ L.length := orN_lt fun k hk _ => Nat.pow_lt_pow_right (by omega) hk
theorem list_el {a b : List Int} (hl : a.length = b.length) (h : ∀ k, k < a.length → el a k = el b k) : a = b := by
  refine List.ext_getElem hl fun k h1 h2 => ?_
  have := h k h1
  unfold el at this
  simpa [List.getD, h1, h2] using this
theorem treeN_sel {net t : List Int} (h : Ok net) (ht : Sub net t) : treeN net.length (pairs net) (selW (pairs net) t) = t := by
  have h6 := h.hi
  obtain ⟨p1, p2, p3⟩ := pairs_is h6
  obtain ⟨t1, t2, t3, t4⟩ := treeN_is h6 (selW (pairs net) t)
  generalize treeN net.length (pairs net) (selW (pairs net) t) = T at t1 t2 t3 t4 ⊢
  have hl := ht.len
  refine list_el (by omega) fun k hk => ?_
  rw [t1] at hk
  rw [t2 k hk, ht.ok.el k (by omega)]
  congr 1
  refine Nat.eq_of_testBit_eq fun j => ?_
  rw [Bool.eq_iff_iff, t3 k j hk]
  constructor
  · rintro ⟨m, a, b, c⟩
    have := ((selW_testBit _ _ _).1 b).2
    have hw := pt_mem a
    rcases c with c | c
    · rw [c] at this; exact this
    · rw [c] at this hw
      have := (p1 _ _).1 hw
      rw [ht.ok.sym j k (by omega) (by omega)]; assumption
  · intro hb
    have hn := ht.sub k j hk hb
    have hj := h.nb_lt hk hn
    have hne : k ≠ j := fun e => by rw [e, h.irr j hj] at hn; cases hn
    rcases Nat.lt_or_gt_of_ne hne with hlt | hlt
    · obtain ⟨i, hi, e⟩ := mem_pt ((p1 k j).2 ⟨hlt, hj, hn⟩)
      exact ⟨i, hi, (selW_testBit _ _ _).2 ⟨hi, by rw [e]; exact hb⟩, .inl e⟩
    · obtain ⟨i, hi, e⟩ := mem_pt ((p1 j k).2 ⟨hlt, hk, by rw [h.sym k j hk hj]; exact hn⟩)
      exact ⟨i, hi, (selW_testBit _ _ _).2 ⟨hi, by rw [e]; show (nb t j).testBit k = true; rw [ht.ok.sym k j (by omega) (by omega)]; exact hb⟩, .inr e⟩
theorem cnt_more {n m : Nat} {p : Nat → Bool} (hnm : n ≤ m) (h : ∀ k, n ≤ k → p k = false) : cnt m p = cnt n p := by
  obtain ⟨d, rfl⟩ : ∃ d, m = n + d := ⟨m - n, by omega⟩
  clear hnm
  induction d with
  | zero => rfl
  | succ d ih =>
    show cnt (n + d) p + (p (n + d)).toNat = _
    rw [ih, h (n + d) (by omega)]; rfl
/-- The greatest number of leaves of a tree; -1 if there is none. -/
def LfMax (net : List Int) (m : Int) : Prop := (m = -1 ∧ ∀ t, ¬ Tree net t) ∨ ∃ k : Nat, m = (k : Int) ∧ (∃ t, Tree net t ∧ leafs t = k) ∧ ∀ t, Tree net t → leafs t ≤ k
theorem LfMax.uniq {net : List Int} {a b : Int} (ha : LfMax net a) (hb : LfMax net b) : a = b := by
  rcases ha with ⟨rfl, h1⟩ | ⟨k, rfl, ⟨t, h1, h2⟩, h3⟩
  · rcases hb with ⟨rfl, _⟩ | ⟨_, _, ⟨t, h, _⟩, _⟩
    · rfl
    · exact absurd h (h1 t)
  · rcases hb with ⟨_, h4⟩ | ⟨k', rfl, ⟨t', h4, h5⟩, h6⟩
    · exact absurd h1 (h4 t)
    · have := h3 t' h4
      have := h6 t h1
      omega
def goodB (net : List Int) (x : Nat) : Bool := cnt 15 (fun m => x.testBit m) + 1 == net.length && parts (treeN net.length (pairs net) x) == 1
def lfStep (net : List Int) (b : Int) (x : Nat) : Int := if goodB net x = true then (if ((leafs (treeN net.length (pairs net) x) : Nat) : Int) > b then ((leafs (treeN net.length (pairs net) x) : Nat) : Int) else b) else b
theorem good_tree {net : List Int} (h : Ok net) {x : Nat} (hx : x < 2 ^ (pairs net).length) : goodB net x = true ↔ Tree net (treeN net.length (pairs net) x) := by
  have h6 := h.hi
  obtain ⟨p1, p2, p3⟩ := pairs_is h6
  obtain ⟨s1, s2⟩ := treeN_sub h x
  have e : cnt 15 (fun m => x.testBit m) = cnt (pairs net).length (fun m => x.testBit m) := cnt_more p3 fun k hk => Nat.testBit_lt_two_pow (Nat.lt_of_lt_of_le hx (Nat.pow_le_pow_right (by omega) hk))
  unfold goodB
  rw [Bool.and_eq_true, beq_iff_eq, beq_iff_eq, e, ← s2]
  exact ⟨fun a => ⟨s1, a.2, a.1⟩, fun a => ⟨a.wires_, a.one⟩⟩
theorem lf_max {net : List Int} (h : Ok net) : LfMax net (fold (2 ^ (pairs net).length) (lfStep net) (-1)) := by
  have key : ∀ K, (fold K (lfStep net) (-1) = -1 ∧ ∀ x, x < K → goodB net x = false) ∨ ∃ k : Nat, fold K (lfStep net) (-1) = (k : Int) ∧ (∃ x, x < K ∧ goodB net x = true ∧ leafs (treeN net.length (pairs net) x) = k) ∧ ∀ x, x < K → goodB net x = true → leafs (treeN net.length (pairs net) x) ≤ k := by
    intro K
    induction K with
    | zero => exact .inl ⟨rfl, fun x hx => by omega⟩
    | succ K ih =>
      rw [fold_succ]
      unfold lfStep at ih ⊢
      cases hg : goodB net K with
      | false =>
        rw [if_neg (by simp)]
        rcases ih with ⟨a, b⟩ | ⟨k, a, ⟨x, x1, x2, x3⟩, c⟩
        · refine .inl ⟨a, fun x hx => ?_⟩
          by_cases e : x = K
          · rw [e]; exact hg
          · exact b x (by omega)
        · refine .inr ⟨k, a, ⟨x, by omega, x2, x3⟩, fun y hy hgy => ?_⟩
          by_cases e : y = K
          · rw [e, hg] at hgy; cases hgy
          · exact c y (by omega) hgy
      | true =>
        rw [if_pos rfl]
        rcases ih with ⟨a, b⟩ | ⟨k, a, ⟨x, x1, x2, x3⟩, c⟩
        · rw [a, if_pos (by omega)]
          refine .inr ⟨_, rfl, ⟨K, by omega, hg, rfl⟩, fun y hy hgy => ?_⟩
          by_cases e : y = K
          · rw [e]; exact Nat.le_refl _
          · rw [b y (by omega)] at hgy; cases hgy
        · rw [a]
          by_cases hlt : ((leafs (treeN net.length (pairs net) K) : Nat) : Int) > (k : Int)
          · rw [if_pos hlt]
            refine .inr ⟨_, rfl, ⟨K, by omega, hg, rfl⟩, fun y hy hgy => ?_⟩
            by_cases e : y = K
            · rw [e]; exact Nat.le_refl _
            · have := c y (by omega) hgy; omega
          · rw [if_neg hlt]
            refine .inr ⟨k, rfl, ⟨x, by omega, x2, x3⟩, fun y hy hgy => ?_⟩
            by_cases e : y = K
            · rw [e]; omega
            · exact c y (by omega) hgy
  have all : ∀ t, Tree net t → ∃ x, x < 2 ^ (pairs net).length ∧ goodB net x = true ∧ treeN net.length (pairs net) x = t := fun t ht => by
    have e := treeN_sel h ht.sub
    exact ⟨_, selW_lt _ _, (good_tree h (selW_lt _ _)).2 (by rw [e]; exact ht), e⟩
  rcases key (2 ^ (pairs net).length) with ⟨a, b⟩ | ⟨k, a, ⟨x, x1, x2, x3⟩, c⟩
  · refine .inl ⟨a, fun t ht => ?_⟩
    obtain ⟨x, x1, x2, _⟩ := all t ht
    rw [b x x1] at x2; cases x2
  · refine .inr ⟨k, a, ⟨_, (good_tree h x1).1 x2, x3⟩, fun t ht => ?_⟩
    obtain ⟨y, y1, y2, y3⟩ := all t ht
    rw [← y3]; exact c y y1 y2
/-- What the law says of it. -/
theorem lf_law {net : List Int} (h : Ok net) {m : Int} (hm : LfMax net m) : (parts net ≠ 1 → m = -1) ∧ (parts net = 1 → 2 ≤ net.length → 2 ≤ m ∧ (3 ≤ net.length → ∀ w : Nat, (∃ s, s < 2 ^ net.length ∧ Together net s ∧ W net s = true ∧ size s = w) → (∀ s, s < 2 ^ net.length → Together net s → W net s = true → w ≤ size s) → m + w = net.length)) := by
  constructor
  · intro hp
    rcases hm with ⟨a, _⟩ | ⟨k, _, ⟨t, ht, _⟩, _⟩
    · exact a
    · exact absurd (sub_one h ht.sub ht.one) hp
  · intro h1 h2
    rcases hm with ⟨_, hno⟩ | ⟨k, rfl, ⟨t, ht, hk⟩, hmx⟩
    · obtain ⟨s, s1, s2, s3, _⟩ := joined_three h h1 (allOf_lt net) (W_all h)
      obtain ⟨t, ht, _⟩ := tree_over h s1 s2 s3
      exact absurd ht (hno t)
    · have hz := leafs_two ht h2
      refine ⟨by omega, fun h3 w ⟨s, s1, s2, s3, s4⟩ hmin => ?_⟩
      obtain ⟨i1, i2⟩ := inner_joined h ht.sub ht.one h3
      have hl := ht.sub.len
      have i3 := inner_size ht.sub.ok
      have i4 := hmin (inner t) (by rw [← hl]; exact inner_lt t) i1 i2
      obtain ⟨t', ht', h5⟩ := tree_over h s1 s2 s3
      have := hmx t' ht'
      omega
end Go.Proofs.Ytlamlnmeaolpmaa
/- Two guards at a place, and a guard that leaves: plain facts. Conditions: those of each theorem. -/
namespace Go.Proofs.Ytlamlnmeaolpmaa
set_option linter.unusedVariables false
set_option linter.unusedSimpArgs false

/-! ### Rows of small numbers -/
/-- The places with at least m guards. -/
def withN (n : Nat) (r : Nat → Nat) (m : Nat) : Nat := orN n (fun k => decide (m ≤ r k)) (fun k => 2 ^ k)
/-- The digits of a number to the base three, the first one ahead. -/
def dig (n m k : Nat) : Nat := m / 3 ^ (n - 1 - k) % 3
theorem dig_lt (n m k : Nat) : dig n m k ≤ 2 := by unfold dig; omega
theorem dig_last (n m : Nat) : dig (n + 1) m n = m % 3 := by
  unfold dig
  rw [show n + 1 - 1 - n = 0 by omega]; simp
theorem dig_ahead {n m k : Nat} (hk : k < n) : dig (n + 1) m k = dig n (m / 3) k := by
  unfold dig
  rw [show n + 1 - 1 - k = (n - 1 - k) + 1 by omega, Nat.pow_succ, Nat.mul_comm, ← Nat.div_div_eq_div_mul]
/-- Each row is one of the rows that are counted up. -/
theorem dig_all {n : Nat} {r : Nat → Nat} (hr : ∀ k, k < n → r k ≤ 2) : ∃ m, m < 3 ^ n ∧ ∀ k, k < n → dig n m k = r k := by
  induction n with
  | zero => exact ⟨0, by simp, fun k hk => by omega⟩
  | succ n ih =>
    obtain ⟨m, hm, hd⟩ := ih (fun k hk => hr k (by omega))
    have h2 := hr n (by omega)
    refine ⟨3 * m + r n, by rw [Nat.pow_succ]; omega, fun k hk => ?_⟩
    by_cases hkn : k = n
    · rw [hkn, dig_last]; omega
    · rw [dig_ahead (by omega), show (3 * m + r n) / 3 = m by omega]
      exact hd k (by omega)
/-- So few guards a row of a kind can have. -/
structure MinRow (n : Nat) (p : (Nat → Nat) → Prop) (m : Nat) : Prop where
  ex : ∃ r, (∀ k, k < n → r k ≤ 2) ∧ p r ∧ sumN n r = m
  le : ∀ r, (∀ k, k < n → r k ≤ 2) → p r → m ≤ sumN n r
theorem MinRow.uniq {n : Nat} {p : (Nat → Nat) → Prop} {a b : Nat} (ha : MinRow n p a) (hb : MinRow n p b) : a = b := by
  obtain ⟨r, h1, h2, h3⟩ := ha.ex
  obtain ⟨q, g1, g2, g3⟩ := hb.ex
  have := ha.le q g1 g2
  have := hb.le r h1 h2
  omega
def RomanP (net : List Int) (r : Nat → Nat) : Prop := ∀ k, k < net.length → r k = 0 → ∃ j, j < net.length ∧ (nb net k).testBit j = true ∧ 2 ≤ r j
def help (net : List Int) (r : Nat → Nat) (k : Nat) : Nat := sumN net.length (fun j => ((nb net k).testBit j).toNat * r j)
def ItalianP (net : List Int) (r : Nat → Nat) : Prop := ∀ k, k < net.length → r k = 0 → 2 ≤ help net r k
/-- The row of a set: two at its places, one where it does not see. -/
def rowOfN (net : List Int) (s k : Nat) : Nat := if s.testBit k = true then 2 else if (seen net s).testBit k = true then 0 else 1
/-! ### A guard that leaves -/
def moved (s f t : Nat) : Nat := (s - 2 ^ f) ||| 2 ^ t
/-- A guard next to a place can go there, and all is watched. -/
def Can (net : List Int) (s t : Nat) : Prop := ∃ f, s.testBit f = true ∧ (nb net t).testBit f = true ∧ W net (moved s f t) = true
def Secure (net : List Int) (s : Nat) : Prop := W net s = true ∧ ∀ k, k < net.length → s.testBit k = false → Can net s k
/-- The row behind a guard's move. -/
def leave (r : Nat → Nat) (f t k : Nat) : Nat := if k = t then 1 else if k = f then r f - 1 else r k
def WeakP (net : List Int) (r : Nat → Nat) : Prop := ∀ k, k < net.length → r k = 0 → ∃ f, f < net.length ∧ 1 ≤ r f ∧ (nb net k).testBit f = true ∧ W net (withN net.length (leave r f k) 1) = true
end Go.Proofs.Ytlamlnmeaolpmaa
/- Guards that answer for ever, one at a time: plain facts. Conditions: those of each theorem. -/
namespace Go.Proofs.Ytlamlnmeaolpmaa
set_option linter.unusedVariables false
set_option linter.unusedSimpArgs false

/-- A family of sets that can answer each place by one move, and be in the family again. -/
def Closed1 (net : List Int) (F : Nat → Prop) : Prop := ∀ t, t < 2 ^ net.length → F t → ∀ k, k < net.length → t.testBit k = false → ∃ f, t.testBit f = true ∧ (nb net k).testBit f = true ∧ F (moved t f k)
def Eternal (net : List Int) (s : Nat) : Prop := ∃ F, Closed1 net F ∧ F s
end Go.Proofs.Ytlamlnmeaolpmaa
/- All guards move: who can go where, by Hall's condition. Conditions: those of each theorem. -/
namespace Go.Proofs.Ytlamlnmeaolpmaa
set_option linter.unusedVariables false
set_option linter.unusedSimpArgs false

theorem size_eq6 {s : Nat} (hs : s < 64) : size s = cnt 6 (fun k => s.testBit k) := by unfold size; rw [card_sum]
theorem in6 {s k : Nat} (hs : s < 64) (hk : s.testBit k = true) : k < 6 := testBit_lt (n := 6) hs hk
theorem size_mono6 {s t : Nat} (hs : s < 64) (ht : t < 64) (h : ∀ j, s.testBit j = true → t.testBit j = true) : size s ≤ size t := by
  rw [size_eq6 hs, size_eq6 ht]; exact cnt_mono fun k _ => h k
theorem size_disj {s t : Nat} (hs : s < 64) (ht : t < 64) (h : ∀ j, s.testBit j = true → t.testBit j = false) : size (s ||| t) = size s + size t := by
  have hl : s ||| t < 2 ^ 6 := Nat.or_lt_two_pow (by omega) (by omega)
  rw [size_eq6 hs, size_eq6 ht, size_eq6 (by omega)]
  unfold cnt
  rw [← sumN_add]
  refine sumN_congr fun k _ => ?_
  show ((s ||| t).testBit k).toNat = (s.testBit k).toNat + (t.testBit k).toNat
  rw [Nat.testBit_or]
  cases hb : s.testBit k with
  | false => simp
  | true => rw [h k hb]; rfl
theorem diff_testBit {s t : Nat} (hs : s < 64) (ht : t < 64) (j : Nat) : (minus s t).testBit j = true ↔ s.testBit j = true ∧ t.testBit j = false := by
  rw [minus_testBit _ _ (by omega) (by omega), Bool.and_eq_true, Bool.not_eq_true']
theorem diff_lt {s t : Nat} (hs : s < 64) : minus s t < 64 := Nat.lt_of_le_of_lt Nat.and_le_left hs
theorem size_diff {s t : Nat} (hs : s < 64) (ht : t < 64) (h : ∀ j, t.testBit j = true → s.testBit j = true) : size (minus s t) + size t = size s := by
  rw [← size_disj (diff_lt hs) ht (fun j hj => ((diff_testBit hs ht j).1 hj).2)]
  congr 1
  apply Nat.eq_of_testBit_eq
  intro j
  rw [Bool.eq_iff_iff, or2, diff_testBit hs ht]
  constructor
  · rintro (⟨a, _⟩ | a)
    · exact a
    · exact h j a
  · intro a
    cases hb : t.testBit j with
    | true => exact .inr rfl
    | false => exact .inl ⟨a, rfl⟩
theorem size_zero {s : Nat} (hs : s < 64) (h : size s = 0) : s = 0 := Classical.byContradiction fun hne => by
  obtain ⟨j, hj⟩ := pos_iff.1 hne
  have := size_pos hs (in6 hs hj) hj
  omega
/-- Those of b next to some of x. -/
def nbs (R : Nat → Nat → Bool) (x b : Nat) : Nat := orN 6 (fun j => b.testBit j && (List.range 6).any fun i => x.testBit i && R i j) (fun j => 2 ^ j)
theorem nbs_testBit {R : Nat → Nat → Bool} {x b : Nat} (hx : x < 64) (hb : b < 64) (j : Nat) : (nbs R x b).testBit j = true ↔ b.testBit j = true ∧ ∃ i, x.testBit i = true ∧ R i j = true := by
  unfold nbs
  rw [orN_testBit]
  simp only [Bool.and_eq_true, List.any_eq_true, List.mem_range]
  constructor
  · rintro ⟨k, hk, ⟨a, i, _, b1, c⟩, d⟩
    rw [testBit_pow, decide_eq_true_eq] at d
    subst d
    exact ⟨a, i, b1, c⟩
  · rintro ⟨a, i, b1, c⟩
    exact ⟨j, in6 hb a, ⟨a, i, in6 hx b1, b1, c⟩, by rw [testBit_pow]; simp⟩
theorem nbs_lt (R : Nat → Nat → Bool) (x b : Nat) : nbs R x b < 64 := orN_lt (m := 6) fun k hk _ => Nat.pow_lt_pow_right (by omega) hk
/-- Each can be given another one, if no set has too few. -/
theorem hall (R : Nat → Nat → Bool) : ∀ m a b, a < 64 → b < 64 → size a ≤ m → (∀ x, x < 64 → (∀ j, x.testBit j = true → a.testBit j = true) → size x ≤ size (nbs R x b)) →
    ∃ f : Nat → Nat, (∀ i, a.testBit i = true → b.testBit (f i) = true ∧ R i (f i) = true) ∧ ∀ i j, a.testBit i = true → a.testBit j = true → f i = f j → i = j := by
  intro m
  induction m with
  | zero =>
    intro a b ha hb hm _
    have := size_zero ha (by omega)
    subst this
    exact ⟨fun i => i, fun i hi => (by rw [Nat.zero_testBit] at hi; cases hi), fun i j hi => (by rw [Nat.zero_testBit] at hi; cases hi)⟩
  | succ m ih =>
    intro a b ha hb hm hc
    by_cases h0 : a = 0
    · subst h0
      exact ⟨fun i => i, fun i hi => (by rw [Nat.zero_testBit] at hi; cases hi), fun i j hi => (by rw [Nat.zero_testBit] at hi; cases hi)⟩
    by_cases ht : ∃ x, x < 64 ∧ (∀ j, x.testBit j = true → a.testBit j = true) ∧ x ≠ 0 ∧ x ≠ a ∧ size (nbs R x b) ≤ size x
    · -- a tight set is given its own, the others the others
      obtain ⟨x, hx, hxa, hx0, hxne, hxt⟩ := ht
      have hdz := size_diff ha hx hxa
      have hxp : 1 ≤ size x := by
        obtain ⟨j, hj⟩ := pos_iff.1 hx0
        exact size_pos hx (in6 hx hj) hj
      have hdp : 1 ≤ size (minus a x) := by
        refine Nat.one_le_iff_ne_zero.2 fun hz => hxne ?_
        have h1 := size_zero (diff_lt ha) hz
        apply Nat.eq_of_testBit_eq
        intro j
        rw [Bool.eq_iff_iff]
        refine ⟨hxa j, fun hj => Classical.byContradiction fun hno => ?_⟩
        have := (diff_testBit ha hx j).2 ⟨hj, not_true hno⟩
        rw [h1, Nat.zero_testBit] at this; cases this
      obtain ⟨f1, p1, q1⟩ := ih x b hx hb (by omega) (fun y hy hyx => hc y hy fun j hj => hxa j (hyx j hj))
      have hnl := nbs_lt R x b
      obtain ⟨f2, p2, q2⟩ := ih (minus a x) (minus b (nbs R x b)) (diff_lt ha) (diff_lt hb) (by omega) (fun z hz hza => by
        have hzx : z ||| x < 64 := by
          have : z ||| x < 2 ^ 6 := Nat.or_lt_two_pow (by omega) (by omega)
          omega
        have hdis : ∀ j, z.testBit j = true → x.testBit j = false := fun j hj => ((diff_testBit ha hx j).1 (hza j hj)).2
        have h1 := hc (z ||| x) hzx (fun j hj => by
          rcases (or2 _ _ _).1 hj with hj | hj
          · exact ((diff_testBit ha hx j).1 (hza j hj)).1
          · exact hxa j hj)
        rw [size_disj hz hx hdis] at h1
        have h2 : size (nbs R (z ||| x) b) ≤ size (nbs R z (minus b (nbs R x b))) + size (nbs R x b) := by
          rw [← size_disj (nbs_lt _ _ _) hnl (fun j hj => ((diff_testBit hb hnl j).1 ((nbs_testBit hz (diff_lt hb) j).1 hj).1).2)]
          refine size_mono6 (nbs_lt _ _ _) (by have : nbs R z (minus b (nbs R x b)) ||| nbs R x b < 2 ^ 6 := Nat.or_lt_two_pow (nbs_lt _ _ _) hnl
                                               omega) fun j hj => ?_
          obtain ⟨a1, i, a2, a3⟩ := (nbs_testBit hzx hb j).1 hj
          rw [or2]
          cases hb2 : (nbs R x b).testBit j with
          | true => exact .inr rfl
          | false =>
            left
            rcases (or2 _ _ _).1 a2 with a2 | a2
            · exact (nbs_testBit hz (diff_lt hb) j).2 ⟨(diff_testBit hb hnl j).2 ⟨a1, hb2⟩, i, a2, a3⟩
            · rw [(nbs_testBit hx hb j).2 ⟨a1, i, a2, a3⟩] at hb2; cases hb2
        omega)
      have in1 : ∀ i, x.testBit i = true → (nbs R x b).testBit (f1 i) = true := fun i hi => (nbs_testBit hx hb _).2 ⟨(p1 i hi).1, i, hi, (p1 i hi).2⟩
      have in2 : ∀ i, a.testBit i = true → x.testBit i = false → (minus a x).testBit i = true := fun i hi hn => (diff_testBit ha hx i).2 ⟨hi, hn⟩
      refine ⟨fun i => if x.testBit i = true then f1 i else f2 i, fun i hi => ?_, fun i j hi hj he => ?_⟩
      · cases hxi : x.testBit i with
        | true => simp only [hxi, if_true]; exact p1 i hxi
        | false =>
          simp only [hxi, Bool.false_eq_true, if_false]
          obtain ⟨u, v⟩ := p2 i (in2 i hi hxi)
          exact ⟨((diff_testBit hb hnl _).1 u).1, v⟩
      · cases hxi : x.testBit i with
        | true =>
          cases hxj : x.testBit j with
          | true => simp only [hxi, hxj, if_true] at he; exact q1 i j hxi hxj he
          | false =>
            simp only [hxi, hxj, if_true, Bool.false_eq_true, if_false] at he
            have h1 := in1 i hxi
            have h2 := ((diff_testBit hb hnl _).1 (p2 j (in2 j hj hxj)).1).2
            rw [← he, h1] at h2; cases h2
        | false =>
          cases hxj : x.testBit j with
          | true =>
            simp only [hxi, hxj, if_true, Bool.false_eq_true, if_false] at he
            have h1 := in1 j hxj
            have h2 := ((diff_testBit hb hnl _).1 (p2 i (in2 i hi hxi)).1).2
            rw [he, h1] at h2; cases h2
          | false =>
            simp only [hxi, hxj, Bool.false_eq_true, if_false] at he
            exact q2 i j (in2 i hi hxi) (in2 j hj hxj) he
    · -- one is given any, and the rest goes on
      obtain ⟨g, hg⟩ := pos_iff.1 h0
      have hg6 := in6 ha hg
      have hpg : 2 ^ g < 64 := by
        have : 2 ^ g < 2 ^ 6 := Nat.pow_lt_pow_right (by omega) hg6
        omega
      have hgs : ∀ j, (2 ^ g).testBit j = true → a.testBit j = true := fun j hj => by rw [testBit_pow, decide_eq_true_eq] at hj; rw [← hj]; exact hg
      have z1 : size (2 ^ g) = 1 := by
        have := size_add (s := 0) (k := g) (by omega) hg6 (Nat.zero_testBit g)
        rw [Nat.zero_or] at this
        rw [this]; decide
      have h1 := hc (2 ^ g) hpg hgs
      have hne : nbs R (2 ^ g) b ≠ 0 := fun he => by
        have : size (nbs R (2 ^ g) b) = 0 := by rw [he]; decide
        omega
      obtain ⟨t, htb⟩ := pos_iff.1 hne
      obtain ⟨hbt, i, hi, hR⟩ := (nbs_testBit hpg hb t).1 htb
      have hig : i = g := by rw [testBit_pow, decide_eq_true_eq] at hi; exact hi.symm
      subst hig
      have ht6 := in6 hb hbt
      have ba := bits_sub a ha i hg6 hg
      have bb := bits_sub b hb t ht6 hbt
      obtain ⟨f, p, q⟩ := ih (a - 2 ^ i) (b - 2 ^ t) ba.1 bb.1 (by omega) (fun x hx hxa => by
        by_cases hx0 : x = 0
        · subst hx0
          have : size 0 = 0 := by decide
          omega
        have hxa' : ∀ j, x.testBit j = true → a.testBit j = true := fun j hj => by
          have := hxa j hj
          rw [sub_testBit ha hg6 hg, Bool.and_eq_true] at this
          exact this.1
        have hxne : x ≠ a := fun he => by
          have := hxa i (by rw [he]; exact hg)
          rw [sub_testBit ha hg6 hg] at this
          simp at this
        have h2 : size x + 1 ≤ size (nbs R x b) := by
          refine Classical.byContradiction fun hlt => ht ⟨x, hx, hxa', hx0, hxne, by omega⟩
        have h3 : size (nbs R x b) ≤ size (nbs R x (b - 2 ^ t)) + 1 := by
          have hle : size (nbs R x b) ≤ size (nbs R x (b - 2 ^ t) ||| 2 ^ t) := by
            refine size_mono6 (nbs_lt _ _ _) (by
              have hp : 2 ^ t < 2 ^ 6 := Nat.pow_lt_pow_right (by omega) ht6
              have : nbs R x (b - 2 ^ t) ||| 2 ^ t < 2 ^ 6 := Nat.or_lt_two_pow (nbs_lt _ _ _) hp
              omega) fun j hj => ?_
            obtain ⟨a1, k, a2, a3⟩ := (nbs_testBit hx hb j).1 hj
            rw [or_testBit]
            by_cases hjt : j = t
            · exact .inr hjt
            · exact .inl ((nbs_testBit hx bb.1 j).2 ⟨by rw [sub_testBit hb ht6 hbt, a1]; simp [hjt], k, a2, a3⟩)
          rw [size_add (nbs_lt _ _ _) ht6 (not_true fun hcc => by
            have := ((nbs_testBit hx bb.1 t).1 hcc).1
            rw [sub_testBit hb ht6 hbt] at this; simp at this)] at hle
          exact hle
        omega)
      have ina : ∀ k, a.testBit k = true → k ≠ i → (a - 2 ^ i).testBit k = true := fun k hk hki => by rw [sub_testBit ha hg6 hg, hk]; simp [hki]
      have outb : ∀ k, a.testBit k = true → k ≠ i → f k ≠ t ∧ b.testBit (f k) = true := fun k hk hki => by
        have := (p k (ina k hk hki)).1
        rw [sub_testBit hb ht6 hbt, Bool.and_eq_true] at this
        exact ⟨by simpa using this.2, this.1⟩
      refine ⟨fun k => if k = i then t else f k, fun k hk => ?_, fun k j hk hj he => ?_⟩
      · by_cases hki : k = i
        · simp only [hki, if_true]; exact ⟨hbt, hR⟩
        · simp only [hki, if_false]; exact ⟨(outb k hk hki).2, (p k (ina k hk hki)).2⟩
      · by_cases hki : k = i
        · by_cases hji : j = i
          · rw [hki, hji]
          · simp only [hki, hji, if_true, if_false] at he
            exact absurd he.symm (outb j hj hji).1
        · by_cases hji : j = i
          · simp only [hki, hji, if_true, if_false] at he
            exact absurd he (outb k hk hki).1
          · simp only [hki, hji, if_false] at he
            exact q k j (ina k hk hki) (ina j hj hji) he
end Go.Proofs.Ytlamlnmeaolpmaa
/- All guards move, for ever: plain facts. Conditions: those of each theorem. -/
namespace Go.Proofs.Ytlamlnmeaolpmaa
set_option linter.unusedVariables false
set_option linter.unusedSimpArgs false

/-- The guards of one set can be at the places of another one, each staying or moving to a neighbour. -/
def AllMove (net : List Int) (a b : Nat) : Prop := size a = size b ∧ ∃ f : Nat → Nat, (∀ i, a.testBit i = true → b.testBit (f i) = true ∧ (ball net i).testBit (f i) = true) ∧ ∀ i j, a.testBit i = true → a.testBit j = true → f i = f j → i = j
theorem allMove_refl (net : List Int) (a : Nat) : AllMove net a a := ⟨rfl, fun i => i, fun i hi => ⟨hi, sees_self net i⟩, fun i j _ _ he => he⟩
/-- A family of sets that can answer each place by all moving. -/
def ClosedA (net : List Int) (F : Nat → Prop) : Prop := ∀ t, t < 2 ^ net.length → F t → ∀ k, k < net.length → t.testBit k = false → ∃ u, u < 2 ^ net.length ∧ u.testBit k = true ∧ AllMove net t u ∧ F u
def AllEternal (net : List Int) (s : Nat) : Prop := ∃ F, ClosedA net F ∧ F s
/-! ### No more than are apart -/
theorem allMove_union {net : List Int} (h : Ok net) {a b c : Nat} (ha : a < 2 ^ net.length) (hb : b < 2 ^ net.length) (hc : c < 2 ^ net.length) (hac : ∀ j, a.testBit j = true → c.testBit j = false) (hbc : ∀ j, b.testBit j = true → c.testBit j = false) {d : Nat} (hd : d < 2 ^ net.length) (had : ∀ j, b.testBit j = true → d.testBit j = false) (hm : AllMove net a b) (hm2 : AllMove net c d) : AllMove net (a ||| c) (b ||| d) := by
  obtain ⟨hz, f, hf, hi⟩ := hm
  obtain ⟨hz2, g, hg, hj⟩ := hm2
  refine ⟨by rw [size_disj (lt64 h ha) (lt64 h hc) hac, size_disj (lt64 h hb) (lt64 h hd) had]; omega, fun i => if a.testBit i = true then f i else g i, fun i hx => ?_, fun i j hx hy he => ?_⟩
  · cases hai : a.testBit i with
    | true => simp only [hai, if_true]; exact ⟨(or2 _ _ _).2 (.inl (hf i hai).1), (hf i hai).2⟩
    | false =>
      have hci : c.testBit i = true := by
        rcases (or2 _ _ _).1 hx with hh | hh
        · rw [hai] at hh; cases hh
        · exact hh
      simp only [hai, Bool.false_eq_true, if_false]; exact ⟨(or2 _ _ _).2 (.inr (hg i hci).1), (hg i hci).2⟩
  · have inc : ∀ k, (a ||| c).testBit k = true → a.testBit k = false → c.testBit k = true := fun k hk hn => by
      rcases (or2 _ _ _).1 hk with hh | hh
      · rw [hn] at hh; cases hh
      · exact hh
    cases hai : a.testBit i with
    | true =>
      cases haj : a.testBit j with
      | true => simp only [hai, haj, if_true] at he; exact hi i j hai haj he
      | false =>
        simp only [hai, haj, if_true, Bool.false_eq_true, if_false] at he
        have h1 := had _ (hf i hai).1
        rw [he, (hg j (inc j hy haj)).1] at h1; cases h1
    | false =>
      cases haj : a.testBit j with
      | true =>
        simp only [hai, haj, if_true, Bool.false_eq_true, if_false] at he
        have h1 := had _ (hf j haj).1
        rw [← he, (hg i (inc i hx hai)).1] at h1; cases h1
      | false => simp only [hai, haj, Bool.false_eq_true, if_false] at he; exact hj i j (inc i hx hai) (inc j hy haj) he
/-- From largest apart set to largest apart set all can move. -/
theorem allMove_apart {net : List Int} (h : Ok net) {u m a b : Nat} (hu : u < 2 ^ net.length) (hmax : ∀ x, x < 2 ^ net.length → (∀ j, x.testBit j = true → u.testBit j = true) → Apart net x → size x ≤ m)
    (ha : a < 2 ^ net.length) (hau : ∀ j, a.testBit j = true → u.testBit j = true) (hA : Apart net a) (haz : size a = m) (hb : b < 2 ^ net.length) (hbu : ∀ j, b.testBit j = true → u.testBit j = true) (hB : Apart net b) (hbz : size b = m) : AllMove net a b := by
  have h64 := h.pow
  refine ⟨by omega, ?_⟩
  have key : ∀ x, x < 64 → (∀ j, x.testBit j = true → a.testBit j = true) → size x ≤ size (nbs (fun i j => (ball net i).testBit j) x b) := by
    intro x hx hxa
    have hxl : x < 2 ^ net.length := by
      refine Classical.byContradiction fun hge => ?_
      have hle := Nat.ge_of_not_lt hge
      have : ∃ j, net.length ≤ j ∧ x.testBit j = true := by
        obtain ⟨j, hj1, hj2⟩ := Nat.exists_ge_and_testBit_of_ge_two_pow hle
        exact ⟨j, hj1, hj2⟩
      obtain ⟨j, hj1, hj2⟩ := this
      have := in_lt ha (hxa j hj2)
      omega
    have hnl := nbs_lt (fun i j => (ball net i).testBit j) x b
    have hnb := fun j => nbs_testBit (R := fun i j => (ball net i).testBit j) hx (lt64 h hb) j
    have hdl : minus b (nbs (fun i j => (ball net i).testBit j) x b) < 2 ^ net.length := Nat.lt_of_le_of_lt Nat.and_le_left hb
    have hd := fun j => diff_testBit (lt64 h hb) hnl j
    have hdis : ∀ j, (minus b (nbs (fun i j => (ball net i).testBit j) x b)).testBit j = true → x.testBit j = false := fun j hj => not_true fun hc => by
      obtain ⟨h1, h2⟩ := (hd j).1 hj
      rw [(hnb j).2 ⟨h1, j, hc, sees_self net j⟩] at h2; cases h2
    have hcross : ∀ i j, x.testBit i = true → (minus b (nbs (fun i j => (ball net i).testBit j) x b)).testBit j = true → (nb net i).testBit j = false := fun i j hi hj => not_true fun hc => by
      obtain ⟨h1, h2⟩ := (hd j).1 hj
      rw [(hnb j).2 ⟨h1, i, hi, (ball_testBit _ _ _).2 (.inl hc)⟩] at h2; cases h2
    have hU : Apart net (minus b (nbs (fun i j => (ball net i).testBit j) x b) ||| x) := fun i j hi hj => by
      rcases (or2 _ _ _).1 hi with hi | hi <;> rcases (or2 _ _ _).1 hj with hj | hj
      · exact hB i j ((hd i).1 hi).1 ((hd j).1 hj).1
      · rw [h.sym j i (in_lt hxl hj) (in_lt hdl hi)]; exact hcross j i hj hi
      · exact hcross i j hi hj
      · exact hA i j (hxa i hi) (hxa j hj)
    have h1 := hmax _ (Nat.or_lt_two_pow hdl hxl) (fun j hj => by
      rcases (or2 _ _ _).1 hj with hj | hj
      · exact hbu j ((hd j).1 hj).1
      · exact hau j (hxa j hj)) hU
    rw [size_disj (lt64 h hdl) hx hdis] at h1
    have h2 := size_diff (lt64 h hb) hnl (fun j hj => ((hnb j).1 hj).1)
    omega
  obtain ⟨f, p, q⟩ := hall (fun i j => (ball net i).testBit j) 6 a b (lt64 h ha) (lt64 h hb) (size_le a) key
  exact ⟨f, p, q⟩
theorem size_one {k : Nat} (hk : k < 6) : size (2 ^ k) = 1 := by
  have := size_add (s := 0) (k := k) (by omega) hk (Nat.zero_testBit k)
  rw [Nat.zero_or] at this
  rw [this]; decide
/-- Within any set of places: a family with no more guards than are apart in it. -/
theorem family {net : List Int} (h : Ok net) : ∀ c u, size u ≤ c → u < 2 ^ net.length → ∀ m, (∀ x, x < 2 ^ net.length → (∀ j, x.testBit j = true → u.testBit j = true) → Apart net x → size x ≤ m) →
    ∃ F : Nat → Prop, (∃ s, F s) ∧ (∀ t, F t → t < 2 ^ net.length ∧ (∀ j, t.testBit j = true → u.testBit j = true) ∧ size t ≤ m) ∧
      ∀ t, F t → ∀ k, u.testBit k = true → t.testBit k = false → ∃ v, v.testBit k = true ∧ AllMove net t v ∧ F v := by
  have h6 := h.hi
  intro c
  induction c with
  | zero =>
    intro u hc hu m hm
    have hu0 := size_zero (lt64 h hu) (by omega)
    subst hu0
    refine ⟨fun t => t = 0, ⟨0, rfl⟩, fun t ht => ?_, fun t _ k hk => by rw [Nat.zero_testBit] at hk; cases hk⟩
    subst ht
    have : size 0 = 0 := by decide
    exact ⟨hu, fun j hj => hj, by omega⟩
  | succ c ih =>
    intro u hc hu m hm
    -- the most that are apart in u
    have hmx : ∃ M, M ≤ m ∧ (∃ x, x < 2 ^ net.length ∧ (∀ j, x.testBit j = true → u.testBit j = true) ∧ Apart net x ∧ size x = M) ∧ ∀ x, x < 2 ^ net.length → (∀ j, x.testBit j = true → u.testBit j = true) → Apart net x → size x ≤ M := by
      have hex : ∀ d, d ≤ m → (∃ x, x < 2 ^ net.length ∧ (∀ j, x.testBit j = true → u.testBit j = true) ∧ Apart net x ∧ m - d ≤ size x) → ∃ M, M ≤ m ∧ (∃ x, x < 2 ^ net.length ∧ (∀ j, x.testBit j = true → u.testBit j = true) ∧ Apart net x ∧ size x = M) ∧ ∀ x, x < 2 ^ net.length → (∀ j, x.testBit j = true → u.testBit j = true) → Apart net x → size x ≤ M := by
        intro d
        induction d with
        | zero =>
          rintro _ ⟨x, a, b, e, f⟩
          have := hm x a b e
          exact ⟨m, Nat.le_refl _, ⟨x, a, b, e, by omega⟩, hm⟩
        | succ d ihd =>
          rintro hd ⟨x, a, b, e, f⟩
          by_cases hy : ∃ y, y < 2 ^ net.length ∧ (∀ j, y.testBit j = true → u.testBit j = true) ∧ Apart net y ∧ m - d ≤ size y
          · exact ihd (by omega) hy
          · have hno : ∀ y, y < 2 ^ net.length → (∀ j, y.testBit j = true → u.testBit j = true) → Apart net y → size y ≤ m - (d + 1) := fun y p q r => by
              refine Classical.byContradiction fun hlt => hy ⟨y, p, q, r, by omega⟩
            have := hno x a b e
            exact ⟨m - (d + 1), by omega, ⟨x, a, b, e, by omega⟩, hno⟩
      refine hex m (Nat.le_refl _) ⟨0, Nat.two_pow_pos _, fun j hj => (by rw [Nat.zero_testBit] at hj; cases hj), Apart.zero net, by omega⟩
    obtain ⟨M, hMm, ⟨x0, x0l, x0u, x0A, x0z⟩, hM⟩ := hmx
    by_cases hcov : ∀ v, u.testBit v = true → ∃ x, x < 2 ^ net.length ∧ (∀ j, x.testBit j = true → u.testBit j = true) ∧ Apart net x ∧ size x = M ∧ x.testBit v = true
    · -- all largest apart sets
      refine ⟨fun t => t < 2 ^ net.length ∧ (∀ j, t.testBit j = true → u.testBit j = true) ∧ Apart net t ∧ size t = M, ⟨x0, x0l, x0u, x0A, x0z⟩, fun t ⟨a, b, _, d⟩ => ⟨a, b, by omega⟩, fun t ⟨a, b, e, d⟩ k hk hb => ?_⟩
      obtain ⟨y, y1, y2, y3, y4, y5⟩ := hcov k hk
      exact ⟨y, y5, allMove_apart h hu hM a b e d y1 y2 y3 y4, y1, y2, y3, y4⟩
    · -- a place that is in none: it and its neighbours take two
      have : ∃ v, u.testBit v = true ∧ ∀ x, x < 2 ^ net.length → (∀ j, x.testBit j = true → u.testBit j = true) → Apart net x → x.testBit v = true → size x + 1 ≤ M := by
        refine Classical.byContradiction fun hno => hcov fun v hv => Classical.byContradiction fun hno2 => hno ⟨v, hv, fun x p q r s => ?_⟩
        have h1 := hM x p q r
        refine Classical.byContradiction fun hlt => hno2 ⟨x, p, q, r, by omega, s⟩
      obtain ⟨v, hv, hvn⟩ := this
      have hvl := in_lt hu hv
      have hbl := h.ball_lt hvl
      have hul : minus u (ball net v) < 2 ^ net.length := Nat.lt_of_le_of_lt Nat.and_le_left hu
      have hub : ∀ j, (minus u (ball net v)).testBit j = true ↔ u.testBit j = true ∧ (ball net v).testBit j = false := fun j => diff_testBit (lt64 h hu) (lt64 h hbl) j
      -- fewer are apart there
      have hless : ∀ x, x < 2 ^ net.length → (∀ j, x.testBit j = true → (minus u (ball net v)).testBit j = true) → Apart net x → size x + 2 ≤ M := fun x p q r => by
        have hxv : x.testBit v = false := not_true fun hcc => by
          have := ((hub v).1 (q v hcc)).2
          rw [sees_self] at this; cases this
        have hA := r.add h p hvl (fun j hj => not_true fun hcc => by
          have := ((hub j).1 (q j hj)).2
          rw [(ball_testBit _ _ _).2 (.inl hcc)] at this; cases this)
        have h1 := hvn (x ||| 2 ^ v) (or_lt p hvl) (fun j hj => by
          rcases (or_testBit _ _ _).1 hj with hj | rfl
          · exact ((hub j).1 (q j hj)).1
          · exact hv) hA ((or_testBit _ _ _).2 (.inr rfl))
        rw [size_add (lt64 h p) (by omega) hxv] at h1
        omega
      have hM2 : 2 ≤ M := by
        have := hless 0 (Nat.two_pow_pos _) (fun j hj => by rw [Nat.zero_testBit] at hj; cases hj) (Apart.zero net)
        omega
      -- a neighbour in u
      have hnbr : ∃ y, u.testBit y = true ∧ (nb net v).testBit y = true := by
        refine Classical.byContradiction fun hno => ?_
        have hA := x0A.add h x0l hvl (fun j hj => not_true fun hcc => hno ⟨j, x0u j hj, hcc⟩)
        have h1 := hvn (x0 ||| 2 ^ v) (or_lt x0l hvl) (fun j hj => by
          rcases (or_testBit _ _ _).1 hj with hj | rfl
          · exact x0u j hj
          · exact hv) hA ((or_testBit _ _ _).2 (.inr rfl))
        have h2 : size x0 ≤ size (x0 ||| 2 ^ v) := size_mono6 (lt64 h x0l) (lt64 h (or_lt x0l hvl)) fun j hj => (or_testBit _ _ _).2 (.inl hj)
        omega
      obtain ⟨y0, hy0u, hy0⟩ := hnbr
      have hsz : size (minus u (ball net v)) ≤ c := by
        have h1 : size (minus u (ball net v)) + 1 ≤ size u := by
          have hvb : (minus u (ball net v)).testBit v = false := not_true fun hcc => by
            have := ((hub v).1 hcc).2
            rw [sees_self] at this; cases this
          rw [← size_add (lt64 h hul) (k := v) (by omega) hvb]
          refine size_mono6 (lt64 h (or_lt hul hvl)) (lt64 h hu) fun j hj => ?_
          rcases (or_testBit _ _ _).1 hj with hj | rfl
          · exact ((hub j).1 hj).1
          · exact hv
        omega
      obtain ⟨F, ⟨s0, hs0⟩, hF, hcl⟩ := ih (minus u (ball net v)) hsz hul (M - 2) (fun x p q r => by have := hless x p q r; omega)
      -- the pairs of the place and a neighbour
      have pl : ∀ y, y < net.length → 2 ^ v ||| 2 ^ y < 2 ^ net.length := fun y hy => or_lt (Nat.pow_lt_pow_right (by omega) hvl) hy
      have pb : ∀ y j, (2 ^ v ||| 2 ^ y).testBit j = true ↔ j = v ∨ j = y := fun y j => by
        rw [or_testBit, testBit_pow, decide_eq_true_eq]
        exact ⟨fun hh => hh.elim (fun e => .inl e.symm) .inr, fun hh => hh.elim (fun e => .inl e.symm) .inr⟩
      have pz : ∀ y, y < net.length → y ≠ v → size (2 ^ v ||| 2 ^ y) = 2 := fun y hy hne => by
        have hpv : 2 ^ v < 64 := lt64 h (Nat.pow_lt_pow_right (by omega) hvl)
        rw [size_add hpv (by omega) (by rw [testBit_pow]; simp; omega), size_one (by omega)]
      have yne : ∀ y, (nb net v).testBit y = true → y ≠ v := fun y hy he => by rw [he, h.irr v hvl] at hy; cases hy
      have apart2 : ∀ t, F t → ∀ y, (nb net v).testBit y = true → ∀ j, t.testBit j = true → (2 ^ v ||| 2 ^ y).testBit j = false := fun t ht y hy j hj => not_true fun hcc => by
        have h1 := ((hub j).1 ((hF t ht).2.1 j hj)).2
        rcases (pb y j).1 hcc with e | e
        · rw [e, sees_self] at h1; cases h1
        · rw [e, (ball_testBit _ _ _).2 (.inl hy)] at h1; cases h1
      refine ⟨fun q => ∃ t y, F t ∧ u.testBit y = true ∧ (nb net v).testBit y = true ∧ q = t ||| (2 ^ v ||| 2 ^ y), ⟨_, s0, y0, hs0, hy0u, hy0, rfl⟩, ?_, ?_⟩
      · rintro _ ⟨t, y, ht, hyu, hy, rfl⟩
        obtain ⟨t1, t2, t3⟩ := hF t ht
        have hyl := h.nb_lt hvl hy
        refine ⟨Nat.or_lt_two_pow t1 (pl y hyl), fun j hj => ?_, ?_⟩
        · rcases (or2 _ _ _).1 hj with hj | hj
          · exact ((hub j).1 (t2 j hj)).1
          · rcases (pb y j).1 hj with e | e
            · rw [e]; exact hv
            · rw [e]; exact hyu
        · rw [size_disj (lt64 h t1) (lt64 h (pl y hyl)) (apart2 t ht y hy), pz y hyl (yne y hy)]; omega
      · rintro _ ⟨t, y, ht, hyu, hy, rfl⟩ k hk hb
        obtain ⟨t1, t2, t3⟩ := hF t ht
        have hyl := h.nb_lt hvl hy
        have hkl := in_lt hu hk
        cases hkb : (ball net v).testBit k with
        | false =>
          -- the others answer
          have htk : t.testBit k = false := not_true fun hcc => by rw [(or2 _ _ _).2 (.inl hcc)] at hb; cases hb
          obtain ⟨w, w1, w2, w3⟩ := hcl t ht k ((hub k).2 ⟨hk, hkb⟩) htk
          exact ⟨w ||| (2 ^ v ||| 2 ^ y), (or2 _ _ _).2 (.inl w1), allMove_union h t1 (hF w w3).1 (pl y hyl) (apart2 t ht y hy) (apart2 w w3 y hy) (pl y hyl) (apart2 w w3 y hy) w2 (allMove_refl net _), w, y, w3, hyu, hy, rfl⟩
        | true =>
          -- the two of them answer
          have hkv : k ≠ v := fun he => by rw [he, (or2 _ _ _).2 (.inr ((pb y v).2 (.inl rfl)))] at hb; cases hb
          have hky : k ≠ y := fun he => by rw [he, (or2 _ _ _).2 (.inr ((pb y y).2 (.inr rfl)))] at hb; cases hb
          have hkn : (nb net v).testBit k = true := by
            rcases (ball_testBit _ _ _).1 hkb with e | e
            · exact e
            · exact absurd e.symm hkv
          have hmv : AllMove net (2 ^ v ||| 2 ^ y) (2 ^ v ||| 2 ^ k) := by
            refine ⟨by rw [pz y hyl (yne y hy), pz k hkl hkv], fun i => if i = y then v else k, fun i hi => ?_, fun i j hi hj he => ?_⟩
            · by_cases hiy : i = y
              · simp only [hiy, if_true]
                exact ⟨(pb k v).2 (.inl rfl), (ball_testBit _ _ _).2 (.inl (by rw [h.sym v y hvl hyl]; exact hy))⟩
              · simp only [hiy, if_false]
                have hiv : i = v := by
                  rcases (pb y i).1 hi with e | e
                  · exact e
                  · exact absurd e hiy
                rw [hiv]
                exact ⟨(pb k k).2 (.inr rfl), (ball_testBit _ _ _).2 (.inl hkn)⟩
            · by_cases hiy : i = y <;> by_cases hjy : j = y
              · rw [hiy, hjy]
              · simp only [hiy, hjy, if_true, if_false] at he; exact absurd he.symm hkv
              · simp only [hiy, hjy, if_true, if_false] at he; exact absurd he hkv
              · rcases (pb y i).1 hi with e | e
                · rcases (pb y j).1 hj with e2 | e2
                  · rw [e, e2]
                  · exact absurd e2 hjy
                · exact absurd e hiy
          exact ⟨t ||| (2 ^ v ||| 2 ^ k), (or2 _ _ _).2 (.inr ((pb k k).2 (.inr rfl))), allMove_union h t1 t1 (pl y hyl) (apart2 t ht y hy) (apart2 t ht y hy) (pl k hkl) (apart2 t ht k hkn) (allMove_refl net _) hmv, t, k, ht, hk, hkn, rfl⟩
end Go.Proofs.Ytlamlnmeaolpmaa
/- All guards move over a joined watch: one more guard than stand together. Conditions: those of each theorem. -/
namespace Go.Proofs.Ytlamlnmeaolpmaa
set_option linter.unusedVariables false
set_option linter.unusedSimpArgs false

/-- The way from a towards r by parents. -/
def wayTo (p : Nat → Nat) (r a : Nat) : Nat → Nat
  | 0 => a
  | i + 1 => if wayTo p r a i = r then r else p (wayTo p r a i)
theorem shift {net : List Int} (h : Ok net) {s : Nat} (hs : s < 2 ^ net.length) (hT : Together net s) {v w a b : Nat} (hv : v < net.length) (hvs : s.testBit v = false) (hw : w < net.length) (hws : s.testBit w = false)
    (ha : s.testBit a = true) (hva : (nb net v).testBit a = true) (hb : s.testBit b = true) (hbw : (nb net b).testBit w = true) : AllMove net (s ||| 2 ^ v) (s ||| 2 ^ w) := by
  have h6 := h.hi
  obtain ⟨lv, p, hl0, hp⟩ := steps_lvl h hs hb hT
  let q := wayTo p b a
  have q0 : q 0 = a := rfl
  have qs : ∀ i, q (i + 1) = if q i = b then b else p (q i) := fun i => rfl
  have qin : ∀ i, s.testBit (q i) = true := by
    intro i
    induction i with
    | zero => exact ha
    | succ i ih =>
      rw [qs]
      split
      · exact hb
      · rename_i hne; exact (hp _ ih hne).1
  have qlv : ∀ i, lv (q (i + 1)) ≤ lv (q i) := fun i => by
    rw [qs]
    split
    · rw [hl0]; exact Nat.zero_le _
    · rename_i hne; exact Nat.le_of_lt (hp _ (qin i) hne).2.2.1
  have qmono : ∀ i j, i ≤ j → lv (q j) ≤ lv (q i) := by
    intro i j hij
    induction j with
    | zero => obtain rfl : i = 0 := by omega
              exact Nat.le_refl _
    | succ j ih =>
      by_cases he : i = j + 1
      · rw [he]; exact Nat.le_refl _
      · exact Nat.le_trans (qlv j) (ih (by omega))
  have hvb : ∀ x, (s ||| 2 ^ v).testBit x = true ↔ s.testBit x = true ∨ x = v := fun x => or_testBit _ _ _
  have hwb : ∀ x, (s ||| 2 ^ w).testBit x = true ↔ s.testBit x = true ∨ x = w := fun x => or_testBit _ _ _
  -- on the way or not
  let f : Nat → Nat := fun x => if x = v then a else @ite _ (∃ i, q i = x) (Classical.propDecidable _) (if x = b then w else p x) x
  have f1 : ∀ x, x = v → f x = a := fun x hx => by show (if x = v then _ else _) = _; rw [if_pos hx]
  have f2 : ∀ x, x ≠ v → (∃ i, q i = x) → x = b → f x = w := fun x hx hi he => by show (if x = v then _ else _) = _; rw [if_neg hx, if_pos hi, if_pos he]
  have f3 : ∀ x, x ≠ v → (∃ i, q i = x) → x ≠ b → f x = p x := fun x hx hi he => by show (if x = v then _ else _) = _; rw [if_neg hx, if_pos hi, if_neg he]
  have f4 : ∀ x, x ≠ v → (¬ ∃ i, q i = x) → f x = x := fun x hx hi => by show (if x = v then _ else _) = _; rw [if_neg hx, if_neg hi]
  have sv : ∀ x, s.testBit x = true → x ≠ v := fun x hx he => by rw [he, hvs] at hx; cases hx
  have sw : ∀ x, s.testBit x = true → x ≠ w := fun x hx he => by rw [he, hws] at hx; cases hx
  have pway : ∀ x, (∃ i, q i = x) → x ≠ b → ∃ i, q i = p x := fun x ⟨i, hi⟩ hne => ⟨i + 1, by rw [qs, hi, if_neg hne]⟩
  refine ⟨?_, f, fun x hx => ?_, fun x y hx hy he => ?_⟩
  · rw [size_add (lt64 h hs) (by omega) hvs, size_add (lt64 h hs) (by omega) hws]
  · rcases (hvb x).1 hx with hx | hx
    · by_cases hi : ∃ i, q i = x
      · by_cases hxb : x = b
        · rw [f2 x (sv x hx) hi hxb, hxb]
          exact ⟨(hwb w).2 (.inr rfl), (ball_testBit _ _ _).2 (.inl hbw)⟩
        · rw [f3 x (sv x hx) hi hxb]
          obtain ⟨c, d, _⟩ := hp x hx hxb
          exact ⟨(hwb _).2 (.inl c), (ball_testBit _ _ _).2 (.inl d)⟩
      · rw [f4 x (sv x hx) hi]
        exact ⟨(hwb x).2 (.inl hx), sees_self net x⟩
    · rw [f1 x hx, hx]
      exact ⟨(hwb a).2 (.inl ha), (ball_testBit _ _ _).2 (.inl hva)⟩
  · -- no two go to one place
    have key : ∀ x y, s.testBit x = true → s.testBit y = true → f x = f y → x = y := by
      intro x y hx hy he
      by_cases hi : ∃ i, q i = x
      · by_cases hxb : x = b
        · rw [f2 x (sv x hx) hi hxb] at he
          by_cases hj : ∃ i, q i = y
          · by_cases hyb : y = b
            · rw [hxb, hyb]
            · rw [f3 y (sv y hy) hj hyb] at he
              exact absurd he.symm (sw _ (hp y hy hyb).1)
          · rw [f4 y (sv y hy) hj] at he
            exact absurd he.symm (sw _ hy)
        · rw [f3 x (sv x hx) hi hxb] at he
          by_cases hj : ∃ i, q i = y
          · by_cases hyb : y = b
            · rw [f2 y (sv y hy) hj hyb] at he
              exact absurd he (sw _ (hp x hx hxb).1)
            · rw [f3 y (sv y hy) hj hyb] at he
              obtain ⟨i, hi⟩ := hi
              obtain ⟨j, hj⟩ := hj
              have e1 : q (i + 1) = p x := by rw [qs, hi, if_neg hxb]
              have e2 : q (j + 1) = p y := by rw [qs, hj, if_neg hyb]
              have l1 := (hp x hx hxb).2.2.1
              have l2 := (hp y hy hyb).2.2.1
              rcases Nat.lt_trichotomy i j with hlt | heq | hgt
              · have := qmono (i + 1) j (by omega)
                rw [e1, hj, he] at this; omega
              · rw [← hi, ← hj, heq]
              · have := qmono (j + 1) i (by omega)
                rw [e2, hi, ← he] at this; omega
          · rw [f4 y (sv y hy) hj] at he
            exact absurd (he ▸ pway x hi hxb) hj
      · rw [f4 x (sv x hx) hi] at he
        by_cases hj : ∃ i, q i = y
        · by_cases hyb : y = b
          · rw [f2 y (sv y hy) hj hyb] at he
            exact absurd he (sw _ hx)
          · rw [f3 y (sv y hy) hj hyb] at he
            exact absurd (he ▸ pway y hj hyb) hi
        · rw [f4 y (sv y hy) hj] at he; exact he
    have keyv : ∀ y, s.testBit y = true → f y ≠ a := by
      intro y hy he
      by_cases hj : ∃ i, q i = y
      · by_cases hyb : y = b
        · rw [f2 y (sv y hy) hj hyb] at he
          exact sw a ha he.symm
        · rw [f3 y (sv y hy) hj hyb] at he
          obtain ⟨j, hj⟩ := hj
          have l2 := (hp y hy hyb).2.2.1
          have := qmono 0 j (Nat.zero_le _)
          rw [q0, hj] at this
          rw [he] at l2
          omega
      · rw [f4 y (sv y hy) hj] at he
        exact hj ⟨0, by rw [q0, he]⟩
    rcases (hvb x).1 hx with hx | hx <;> rcases (hvb y).1 hy with hy | hy
    · exact key x y hx hy he
    · rw [f1 y hy] at he; exact absurd he (keyv x hx)
    · rw [f1 x hx] at he; exact absurd he.symm (keyv y hy)
    · rw [hx, hy]
end Go.Proofs.Ytlamlnmeaolpmaa
/- Lists of watches, counts of watches, thinned watches. Conditions: those of each theorem. -/
namespace Go.Proofs.Ytlamlnmeaolpmaa
open D Go.RowKit
set_option linter.unusedVariables false
set_option linter.unusedSimpArgs false


theorem small_of {n : Nat} (h : n ≤ 1000000) : small n = true := by unfold small; rw [decide_eq_true_eq]; omega
/-- All numbers below N of a kind. -/
def listOfN (N : Nat) (p : Nat → Bool) : List Int := fold N (fun l s => if p s = true then l ++ [(s : Int)] else l) []
/-- How many watches there are of each number of places. -/
def counts (net : List Int) : List Int := fold (2 ^ net.length) (fun l s => if W net s = true then l.set (size s) (D.eli l (size s) + 1) else l) (List.replicate (net.length + 1) 0)
theorem eli_set {l : List Int} {a b : Nat} {v : Int} (ha : a < l.length) : D.eli (l.set a v) b = if a = b then v else D.eli l b := by
  unfold D.eli
  by_cases h : a = b
  · subst h; simp [List.getD, ha]
  · simp [List.getD, List.getElem?_set_ne h, h]
theorem eli_rep (n k : Nat) : D.eli (List.replicate n 0) k = 0 := by
  unfold D.eli
  by_cases h : k < n <;> simp [List.getD, h]
/-- The bounds of the counts on the way. -/
def CInv (net : List Int) (k : Nat) (t : List Int) : Prop := t.length = net.length + 1 ∧ ∀ j, 0 ≤ D.eli t j ∧ D.eli t j ≤ k
theorem CInv.step {net : List Int} (h : Ok net) {k : Nat} {t : List Int} (hk : k < 2 ^ net.length) (ht : CInv net k t) : CInv net (k + 1) (if W net k = true then t.set (size k) (D.eli t (size k) + 1) else t) := by
  have hz := size_le_len h hk
  split
  · refine ⟨by rw [List.length_set]; exact ht.1, fun j => ?_⟩
    rw [eli_set (by rw [ht.1]; omega)]
    have h1 := ht.2 j
    have h2 := ht.2 (size k)
    split <;> omega
  · exact ⟨ht.1, fun j => by have := ht.2 j; omega⟩
theorem CInv.zero (net : List Int) : CInv net 0 (List.replicate (net.length + 1) 0) := ⟨by simp, fun j => by rw [eli_rep]; omega⟩
/-- What is left of a watch. -/
def thinStep (net : List Int) (t p : Nat) : Nat := if (t.testBit p && W net (t - 2 ^ p)) = true then t - 2 ^ p else t
def thin (net : List Int) (s : Nat) : Nat := fold net.length (fun t k => thinStep net t (net.length - 1 - k)) s
end Go.Proofs.Ytlamlnmeaolpmaa
/- What the exact laws need of rows that are marked. Conditions: those of each theorem. -/
namespace Go.Proofs.Ytlamlnmeaolpmaa
open D Go.RowKit
set_option linter.unusedVariables false
set_option linter.unusedSimpArgs false


end Go.Proofs.Ytlamlnmeaolpmaa
/- The exact laws of chapter 2. Conditions: those of each theorem. -/
namespace Go.Proofs.Ytlamlnmeaolpmaa
open D Go.RowKit
set_option linter.unusedVariables false
set_option linter.unusedSimpArgs false


end Go.Proofs.Ytlamlnmeaolpmaa
/- The model's functions of chapters 3 to 5 in natural numbers. Conditions: those of each theorem. -/
namespace Go.Proofs.Ytlamlnmeaolpmaa
open D Go.RowKit
set_option linter.unusedVariables false
set_option linter.unusedSimpArgs false


/-- The answers that are told for any argument. -/
def privI (net : List Int) (s g : Int) : Int := if (0 ≤ s ∧ s < 2 ^ net.length) ∧ (0 ≤ g ∧ g < net.length) ∧ s.toNat.testBit g.toNat = true then ((priv net s.toNat g.toNat : Nat) : Int) else -1
def twiceI (net : List Int) (s : Int) : Int := if 0 ≤ s ∧ s < 2 ^ net.length then ((twice net s.toNat : Nat) : Int) else -1
def grownI (net : List Int) (s : Int) : Int := if (0 ≤ s ∧ s < 2 ^ net.length) ∧ apart net s.toNat = true then ((grown net s.toNat : Nat) : Int) else -1
def chain (net : List Int) : List Int := [((minSize net (fullN net) : Nat) : Int), ((fewest net : Nat) : Int), ((minSize net (fullA net) : Nat) : Int), ((maxSize net (apart net) : Nat) : Int), ((maxSize net (least net) : Nat) : Int), ((maxSize net (needs net) : Nat) : Int)]
end Go.Proofs.Ytlamlnmeaolpmaa
/- What drawn nets are. Conditions: those of each theorem. -/
namespace Go.Proofs.Ytlamlnmeaolpmaa
open D Go.RowKit
set_option linter.unusedVariables false
set_option linter.unusedSimpArgs false


/-- A code of bytes. -/
def Bytes (rb : List Int) : Prop := ∀ n ∈ rb, 0 ≤ n ∧ n ≤ 255
theorem Bytes.eli {rb : List Int} (h : Bytes rb) (k : Nat) : 0 ≤ D.eli rb k ∧ D.eli rb k ≤ 255 := by
  by_cases hk : k < rb.length
  · have : D.eli rb k = rb[k] := by simp [D.eli, List.getD, hk]
    rw [this]; exact h _ (List.getElem_mem hk)
  · have : D.eli rb k = 0 := by simp [D.eli, List.getD, List.getElem?_eq_none (by omega : rb.length ≤ k)]
    rw [this]; decide
theorem Bytes.wf {rb : List Int} (h : ∀ n ∈ rb, (Lit.int .u8 n).wf = true) : Bytes rb := fun n hn => by
  have := h n hn
  have e1 : IntKind.u8.min = 0 := by kernel_rfl
  have e2 : IntKind.u8.max = 255 := by kernel_rfl
  simpa [Lit.wf, e1, e2] using this

theorem xor_pos {a b : Int} (ha : 0 ≤ a ∧ a < 9223372036854775808) (hb : 0 ≤ b ∧ b < 9223372036854775808) : 0 ≤ bits .xor .i64 a b := by
  obtain ⟨x, rfl⟩ := Int.eq_ofNat_of_zero_le ha.1
  obtain ⟨y, rfl⟩ := Int.eq_ofNat_of_zero_le hb.1
  rw [i64_xor_nat x y (by omega) (by omega)]
  omega

theorem S.l20Rd_pick_is {rb : List Int} {rp n : Int} (hb : Bytes rb) (hl : rb.length ≤ 2000) (h0 : 0 ≤ rp) (h1 : rp ≤ 1099511627776) :
    ∃ v, S.l20Rd_pick_t rb rp n = some (v, rb, rp + 1) ∧ 0 ≤ v ∧ (1 ≤ n → v < n) := by
  unfold S.l20Rd_pick_t S.l20Rd_pick_tree
  have e1 : IntKind.i64.wrap (rp + 1) = rp + 1 := i64_wrap (by omega) (by omega)
  have e2 : IntKind.i64.wrap (rp + 1 - 1) = rp := by rw [i64_wrap (by omega) (by omega)]; omega
  rw [e1, e2]
  by_cases hn : n < 1
  · rw [cnd_t (by simpa using hn)]; exact ⟨_, rfl, Int.le_refl _, fun h => by omega⟩
  rw [cnd_f (by simpa using hn)]
  by_cases hz : rb.length = 0
  · rw [cnd_t (by simp [hz])]; exact ⟨_, rfl, Int.le_refl _, fun h => by omega⟩
  have hnz : (n == 0) = false := by simp; omega
  have hlz : ((rb.length : Int) == 0) = false := by simp; exact fun h => hz (by simp [h])
  rw [cnd_f hlz]
  have fin : ∀ x : Int, 0 ≤ x → 0 ≤ x.tmod n ∧ (1 ≤ n → x.tmod n < n) := fun x hx => ⟨Int.tmod_nonneg _ hx, fun h => Int.tmod_lt_of_pos _ (by omega)⟩
  by_cases hx : rp < rb.length
  · rw [cnd_t (by simpa using hx), cnd_t (by simp; omega), cnd_f hnz]
    have hv := hb.eli rp.toNat
    rw [i64_wrap (n := D.eli rb rp.toNat) (by omega) (by omega)]
    exact ⟨_, rfl, fin _ hv.1⟩
  · rw [cnd_f (by simpa using hx), cnd_f hlz]
    have hL : 0 < (rb.length : Int) := by omega
    have m1 : 0 ≤ rp.tmod rb.length := Int.tmod_nonneg _ h0
    have m2 : rp.tmod rb.length < rb.length := Int.tmod_lt_of_pos _ hL
    rw [cnd_t (by simp; omega), cnd_f hlz]
    have e3 : IntKind.i64.wrap (IntKind.i64.wrap (rp * 7) + 3) = rp * 7 + 3 := by rw [i64_wrap (n := rp * 7) (by omega) (by omega)]; exact i64_wrap (by omega) (by omega)
    rw [e3]
    have m3 : 0 ≤ (rp * 7 + 3).tmod rb.length := Int.tmod_nonneg _ (by omega)
    have m4 : (rp * 7 + 3).tmod rb.length < rb.length := Int.tmod_lt_of_pos _ hL
    rw [cnd_t (by simp; omega), cnd_f hlz, cnd_f hnz]
    have d1 : 0 ≤ rp.tdiv rb.length := Int.tdiv_nonneg h0 (by omega)
    have d2 : rp.tdiv rb.length ≤ rp := Int.tdiv_le_self _ h0
    have v1 := hb.eli (rp.tmod rb.length).toNat
    have v2 := hb.eli ((rp * 7 + 3).tmod rb.length).toNat
    generalize rp.tdiv rb.length = d at d1 d2
    generalize D.eli rb (rp.tmod rb.length).toNat = b1 at v1
    generalize D.eli rb ((rp * 7 + 3).tmod rb.length).toNat = b2 at v2
    have key : ∀ x : Int, 0 ≤ x → x < 9223372036854775808 → 0 ≤ bits .xor .i64 x (IntKind.i64.wrap (x.tdiv 64)) := fun x hx0 hx1 => by
      have a1 : 0 ≤ x.tdiv 64 := Int.tdiv_nonneg hx0 (by decide)
      have a2 : x.tdiv 64 ≤ x := Int.tdiv_le_self _ hx0
      rw [i64_wrap (by omega) (by omega)]
      exact xor_pos ⟨hx0, hx1⟩ ⟨a1, by omega⟩
    refine ⟨_, rfl, fin _ (key _ ?_ ?_)⟩ <;> simp (disch := omega) only [i64_wrap] <;> omega
theorem cnd_case {α : Type} {P : α → Prop} {b : Bool} {x y : α} (h1 : b = true → P x) (h2 : b = false → P y) : P (bif b then x else y) := by
  cases b with
  | true => exact h1 rfl
  | false => exact h2 rfl
theorem S.l20Net_p8 {α : Type} (P : α → Prop) {x1 x5 x7 x8 x9 rp : Int} {rb r : List Int} {next : Int × (List Int) × Int × (List Int) → α} {out : (List Int) × Int × (List Int) → α} {fail : α}
    (hb : Bytes rb) (hl : rb.length ≤ 2000) (h0 : 0 ≤ rp) (h1 : rp ≤ 1099511627000) (h9 : 0 ≤ x9) (h8 : x8 < r.length) (hr : r.length ≤ 1048576)
    (hleaf : x9 < x8 → ∀ rp' r', rp < rp' → rp' ≤ rp + 2 → r'.length = r.length → P (next (x9 + 1, rb, rp', r')))
    (hout : ¬ x9 < x8 → P (out (rb, rp, r))) : P (S.l20Net_step8 x1 x5 x7 x8 x9 rb rp r next out fail) := by
  unfold S.l20Net_step8
  refine cnd_case (P := P) (fun h => ?_) (fun h => hout (by simpa using h))
  have hlt : x9 < x8 := by simpa using h
  obtain ⟨v, hv, _, _⟩ := S.l20Rd_pick_is (n := 3) hb hl h0 (by omega)
  obtain ⟨v', hv', _, _⟩ := S.l20Rd_pick_is (n := 3) (rp := rp + 1) hb hl (by omega) (by omega)
  rw [hv]
  simp only [optC]
  rw [hv']
  simp only [optC]
  rw [i64_wrap (n := x9 + 1) (by omega) (by omega)]
  repeat' first
    | exact hleaf hlt _ _ (by omega) (by omega) (by simp)
    | rw [cnd_t (by simp; omega)]
    | rw [cnd_f (by simp; omega)]
    | refine cnd_case (P := P) (fun _ => ?_) (fun _ => ?_)
theorem S.l20Net_q8 {x1 x5 x7 x8 rp : Int} {rb r : List Int} (hb : Bytes rb) (hl : rb.length ≤ 2000) (h0 : 0 ≤ rp) (h1 : rp ≤ 1099511620000) (hx : 0 ≤ x8) (h8 : x8 < r.length) (h6 : x8 ≤ 100) (hr : r.length ≤ 1048576) :
    ∃ d, S.l20Net_run8 x1 x5 x7 x8 FUEL (0, rb, rp, r) = some d ∧ d.1 = rb ∧ rp ≤ d.2.1 ∧ d.2.1 ≤ rp + 2 * x8 ∧ d.2.2.length = r.length := by
  refine run_post (run := S.l20Net_run8 x1 x5 x7 x8) (fun s => s.2.1 = rb ∧ 0 ≤ s.1 ∧ s.1 ≤ x8 ∧ rp ≤ s.2.2.1 ∧ s.2.2.1 ≤ rp + 2 * s.1 ∧ s.2.2.2.length = r.length) (fun s => (x8 - s.1).toNat) (fun d => d.1 = rb ∧ rp ≤ d.2.1 ∧ d.2.1 ≤ rp + 2 * x8 ∧ d.2.2.length = r.length) ?_ ?_ ?_
  · rintro n ⟨x9, rb', rp', r'⟩ ⟨i0, i1, i2, i3, i4, i5⟩
    simp only at i0 i1 i2 i3 i4 i5
    subst i0
    refine S.l20Net_p8 (x1 := x1) (x5 := x5) (x7 := x7) (x8 := x8) (x9 := x9) (rp := rp') (rb := rb') (r := r') (next := S.l20Net_run8 x1 x5 x7 x8 n) (out := fun d => some d) (fail := none) (fun t => (∃ d, t = some d ∧ (d.1 = rb' ∧ rp ≤ d.2.1 ∧ d.2.1 ≤ rp + 2 * x8 ∧ d.2.2.length = r.length)) ∨ ∃ s', t = S.l20Net_run8 x1 x5 x7 x8 n s' ∧ (s'.2.1 = rb' ∧ 0 ≤ s'.1 ∧ s'.1 ≤ x8 ∧ rp ≤ s'.2.2.1 ∧ s'.2.2.1 ≤ rp + 2 * s'.1 ∧ s'.2.2.2.length = r.length) ∧ (x8 - s'.1).toNat < (x8 - x9).toNat) hb hl (by omega) (by omega) i1 (by omega) (by omega) (fun hlt rp2 r2 a1 a2 a3 => .inr ⟨_, rfl, ⟨rfl, ?_, ?_, ?_, ?_, ?_⟩, ?_⟩) (fun hge => .inl ⟨_, rfl, rfl, ?_, ?_, ?_⟩) <;> simp only <;> omega
  · exact ⟨rfl, by simp only; omega, by simp only; omega, by simp only; omega, by simp only; omega, rfl⟩
  · simp only; omega
theorem S.l20Net_q5 {x1 x5 x7 rp : Int} {rb r : List Int} (hb : Bytes rb) (hl : rb.length ≤ 2000) (h0 : 0 ≤ rp) (h1 : rp ≤ 1099511600000) (hx : 0 ≤ x5) (h5 : x5 = r.length) (h6 : x5 ≤ 6) :
    ∃ d, S.l20Net_run5 x1 x5 x7 FUEL (0, rb, rp, r) = some d ∧ d.1 = rb ∧ rp ≤ d.2.1 ∧ d.2.1 ≤ rp + 100 ∧ d.2.2.length = r.length := by
  refine run_post (run := S.l20Net_run5 x1 x5 x7) (fun s => s.2.1 = rb ∧ 0 ≤ s.1 ∧ s.1 ≤ x5 ∧ rp ≤ s.2.2.1 ∧ s.2.2.1 ≤ rp + 12 * s.1 ∧ s.2.2.2.length = r.length) (fun s => (x5 - s.1).toNat) (fun d => d.1 = rb ∧ rp ≤ d.2.1 ∧ d.2.1 ≤ rp + 100 ∧ d.2.2.length = r.length) ?_ ?_ ?_
  · rintro n ⟨x8, rb', rp', r'⟩ ⟨i0, i1, i2, i3, i4, i5⟩
    simp only at i0 i1 i2 i3 i4 i5
    subst i0
    simp only [S.l20Net_run5, S.l20Net_step5]
    by_cases hlt : x8 < x5
    · rw [cnd_t (by simpa using hlt)]
      obtain ⟨⟨d1, d2, d3⟩, e1, e2, e3, e4, e5⟩ := S.l20Net_q8 (x1 := x1) (x5 := x5) (x7 := x7) (x8 := x8) (r := r') hb hl (by omega : 0 ≤ rp') (by omega) i1 (by omega) (by omega) (by omega)
      simp only at e2 e3 e4 e5
      rw [e1]
      simp only [optC]
      rw [i64_wrap (n := x8 + 1) (by omega) (by omega)]
      refine .inr ⟨_, rfl, ⟨e2, ?_, ?_, ?_, ?_, ?_⟩, ?_⟩ <;> simp only <;> omega
    · rw [cnd_f (by simpa using hlt)]
      refine .inl ⟨_, rfl, rfl, ?_, ?_, ?_⟩ <;> simp only <;> omega
  · exact ⟨rfl, by simp only; omega, by simp only; omega, by simp only; omega, by simp only; omega, rfl⟩
  · simp only; omega
theorem S.l20Rd_odd_is {rb : List Int} {rp n : Int} (hb : Bytes rb) (hl : rb.length ≤ 2000) (h0 : 0 ≤ rp) (h1 : rp ≤ 1099511627776) :
    ∃ b rp', S.l20Rd_odd_t rb rp n = some (b, rb, rp') ∧ rp ≤ rp' ∧ rp' ≤ rp + 1 := by
  unfold S.l20Rd_odd_t S.l20Rd_odd_tree
  by_cases hn : n > 0
  · rw [cnd_t (by simpa using hn)]
    obtain ⟨v, hv, _, _⟩ := S.l20Rd_pick_is (n := n) hb hl h0 h1
    rw [hv]
    exact ⟨_, rp + 1, rfl, by omega, by omega⟩
  · rw [cnd_f (by simpa using hn)]
    exact ⟨_, rp, rfl, by omega, by omega⟩
theorem S.l20Net_is {rb : List Int} {rp n : Int} (hb : Bytes rb) (hl : rb.length ≤ 2000) (h0 : 0 ≤ rp) (h1 : rp ≤ 1000000) :
    ∃ rp' net, S.l20Net_t rb rp n = some (rb, rp', net) ∧ rp ≤ rp' ∧ rp' ≤ rp + 200 ∧ net.length ≤ 6 := by
  unfold S.l20Net_t
  have gen : ∀ {α : Type} (P : α → Prop) (leaf : (List Int) × Int × (List Int) → α) (fail : α), (∀ rp' net, rp ≤ rp' → rp' ≤ rp + 200 → net.length ≤ 6 → P (leaf (rb, rp', net))) → P (S.l20Net_tree rb rp n leaf fail) := by
    intro α P leaf fail hleaf
    unfold S.l20Net_tree
    obtain ⟨v1, e1, a1, a2⟩ := S.l20Rd_pick_is (n := 6) hb hl h0 (by omega)
    have a2' := a2 (by decide)
    rw [e1]
    simp only [optC]
    rw [i64_wrap (n := 1 + v1) (by omega) (by omega)]
    rw [cnd_t (by simp [small]; omega)]
    obtain ⟨v2, e2, _, _⟩ := S.l20Rd_pick_is (n := 4) (rp := rp + 1) hb hl (by omega) (by omega)
    rw [e2]
    simp only
    obtain ⟨⟨d1, d2, d3⟩, e3, f1, f2, f3, f4⟩ := S.l20Net_q5 (x1 := n) (x5 := 1 + v1) (x7 := v2) (rp := rp + 1 + 1) (r := List.replicate (1 + v1).toNat 0) hb hl (by omega) (by omega) (by omega) (by simp; omega) (by omega)
    simp only at f1 f2 f3 f4
    subst f1
    rw [e3]
    simp only [List.length_replicate] at f4 ⊢
    obtain ⟨b, rp4, e4, g1, g2⟩ := S.l20Rd_odd_is (n := n) (rp := d2) hb hl (by omega) (by omega)
    rw [e4]
    simp only
    obtain ⟨v5, e5, _, _⟩ := S.l20Rd_pick_is (n := 3) (rp := rp4) hb hl (by omega) (by omega)
    rw [e5]
    simp only
    have e6 : IntKind.i64.wrap (1 + v1 - 1) = v1 := by rw [i64_wrap (by omega) (by omega)]; omega
    rw [e6]
    repeat' first
      | exact hleaf _ _ (by omega) (by omega) (by (try simp only [List.length_set, List.length_nil]); omega)
      | rw [cnd_t (by simp; omega)]
      | rw [cnd_f (by simp; omega)]
      | refine cnd_case (P := P) (fun _ => ?_) (fun _ => ?_)
  exact gen (fun t => ∃ rp' net, t = some (rb, rp', net) ∧ rp ≤ rp' ∧ rp' ≤ rp + 200 ∧ net.length ≤ 6) (fun d => some d) none (fun rp' net a b c => ⟨rp', net, rfl, a, b, c⟩)
theorem S.l20Open_is {code : List Int} (hb : Bytes code) : ∃ rb, S.l20Open_t code = some (rb, 0) ∧ Bytes rb ∧ rb.length ≤ 2000 := by
  unfold S.l20Open_t S.l20Open_tree
  by_cases h : (code.length : Int) > 2000
  · rw [cnd_t (by simpa using h), cnd_t (by simp; omega)]
    refine ⟨_, rfl, fun n hn => hb n ?_, ?_⟩
    · exact List.mem_of_mem_drop (List.mem_of_mem_take hn)
    · rw [List.length_take]; exact Nat.min_le_left _ _
  · rw [cnd_f (by simpa using h)]
    exact ⟨_, rfl, hb, by omega⟩
end Go.Proofs.Ytlamlnmeaolpmaa
/- What the draws give: nets of at most six places, sets and places within bounds. Conditions: those of each theorem. -/
namespace Go.Proofs.Ytlamlnmeaolpmaa
open D Go.RowKit
set_option linter.unusedVariables false
set_option linter.unusedSimpArgs false


theorem I.NetOk_12 : I.NetOk_t [2, 1] = some true := by rw [I.NetOk_is]; decide +kernel
theorem I.NetOk_1 : I.NetOk_t [1] = some false := by rw [I.NetOk_is]; decide +kernel
theorem L.alive_is : L.alive_t = some true := by
  unfold L.alive_t L.alive_tree
  rw [I.NetOk_12, I.NetOk_1]
  rfl
/-! ### The draws of the laws -/
end Go.Proofs.Ytlamlnmeaolpmaa
/- Draws that use watches; lists of all numbers of a kind. Conditions: those of each theorem. -/
namespace Go.Proofs.Ytlamlnmeaolpmaa
open D Go.RowKit
set_option linter.unusedVariables false
set_option linter.unusedSimpArgs false


end Go.Proofs.Ytlamlnmeaolpmaa
/- Draws of chapters 3 to 5. Conditions: those of each theorem. -/
namespace Go.Proofs.Ytlamlnmeaolpmaa
open D Go.RowKit
set_option linter.unusedVariables false
set_option linter.unusedSimpArgs false


end Go.Proofs.Ytlamlnmeaolpmaa
/- The model's functions of chapter 6 in natural numbers, and draws. Conditions: those of each theorem. -/
namespace Go.Proofs.Ytlamlnmeaolpmaa
open D Go.RowKit
set_option linter.unusedVariables false
set_option linter.unusedSimpArgs false


/-- The least size of sets of a kind; -1 if there is none. -/
def minStep (p : Nat → Bool) (t : Int) (s : Nat) : Int := if p s = true then (if t < 0 then ((size s : Nat) : Int) else if ((size s : Nat) : Int) < t then ((size s : Nat) : Int) else t) else t
def minI (net : List Int) (p : Nat → Bool) : Int := fold (2 ^ net.length) (minStep p) (-1)
theorem minI_fold (p : Nat → Bool) (N : Nat) : (fold N (minStep p) (-1) = -1 ∧ ∀ s, s < N → p s = false) ∨ ∃ m : Nat, fold N (minStep p) (-1) = m ∧ (∃ s, s < N ∧ p s = true ∧ size s = m) ∧ ∀ s, s < N → p s = true → m ≤ size s := by
  induction N with
  | zero => exact .inl ⟨rfl, fun s hs => by omega⟩
  | succ N ih =>
    rw [fold_succ]
    generalize fold N (minStep p) (-1) = g at ih ⊢
    unfold minStep
    cases hp : p N with
    | false =>
      simp only [Bool.false_eq_true, if_false]
      rcases ih with ⟨a, b⟩ | ⟨m, a, ⟨s, s1, s2⟩, c⟩
      · exact .inl ⟨a, fun s hs => by
          by_cases he : s = N
          · rw [he]; exact hp
          · exact b s (by omega)⟩
      · exact .inr ⟨m, a, ⟨s, by omega, s2⟩, fun s hs hps => by
          by_cases he : s = N
          · rw [he, hp] at hps; cases hps
          · exact c s (by omega) hps⟩
    | true =>
      simp only [if_true]
      right
      rcases ih with ⟨a, b⟩ | ⟨m, a, ⟨s, s1, s2, s3⟩, c⟩
      · rw [a, if_pos (by decide)]
        exact ⟨_, rfl, ⟨N, by omega, hp, rfl⟩, fun s hs hps => by
          by_cases he : s = N
          · rw [he]; exact Nat.le_refl _
          · rw [b s (by omega)] at hps; cases hps⟩
      · rw [a, if_neg (by omega)]
        by_cases hlt : ((size N : Nat) : Int) < (m : Int)
        · rw [if_pos hlt]
          exact ⟨_, rfl, ⟨N, by omega, hp, rfl⟩, fun s hs hps => by
            by_cases he : s = N
            · rw [he]; exact Nat.le_refl _
            · have := c s (by omega) hps; omega⟩
        · rw [if_neg hlt]
          exact ⟨m, rfl, ⟨s, by omega, s2, s3⟩, fun q hq hpq => by
            by_cases he : q = N
            · rw [he]; omega
            · exact c q (by omega) hpq⟩
theorem minI_is (net : List Int) (p : Nat → Bool) : (minI net p = -1 ∧ ∀ s, s < 2 ^ net.length → p s = false) ∨ ∃ m : Nat, minI net p = m ∧ MinOf net p m := by
  rcases minI_fold p (2 ^ net.length) with h | ⟨m, a, b, c⟩
  · exact .inl h
  · exact .inr ⟨m, a, b, c⟩
/-- Does a set stand together? -/
noncomputable def together (net : List Int) (s : Nat) : Bool := @decide (Together net s) (Classical.propDecidable _)
theorem together_iff {net : List Int} {s : Nat} : together net s = true ↔ Together net s := by unfold together; exact @decide_eq_true_iff _ (Classical.propDecidable _)
noncomputable def joined (net : List Int) (s : Nat) : Bool := together net s && W net s
theorem S.DrawMostLeaves_is {code : List Int} (hb : Bytes code) : ∃ net, S.DrawMostLeaves_t code = some net ∧ net.length ≤ 6 := by
  unfold S.DrawMostLeaves_t S.DrawMostLeaves_tree
  obtain ⟨rb, e1, h1, h2⟩ := S.l20Open_is hb
  rw [e1]
  simp only [optC]
  obtain ⟨rp', net, e2, _, _, h3⟩ := S.l20Net_is (n := 9) h1 h2 (Int.le_refl 0) (by decide)
  rw [e2]
  exact ⟨_, rfl, h3⟩
end Go.Proofs.Ytlamlnmeaolpmaa
/- MostLeaves of the model. Conditions: those of each theorem. -/
namespace Go.Proofs.Ytlamlnmeaolpmaa
open D Go.RowKit
set_option linter.unusedVariables false
set_option linter.unusedSimpArgs false


theorem sumN_front (n : Nat) (f : Nat → Nat) : sumN (n + 1) f = f 0 + sumN n (fun k => f (k + 1)) := by
  induction n with
  | zero => show 0 + f 0 = f 0 + 0; omega
  | succ n ih =>
    show sumN (n + 1) f + f (n + 1) = f 0 + (sumN n (fun k => f (k + 1)) + f (n + 1))
    rw [ih]; omega
theorem cnt_half {s : Nat} (hs : s < 2 ^ 15) : cnt 15 (fun k => s.testBit k) = s % 2 + cnt 15 (fun k => (s / 2).testBit k) := by
  have e1 : cnt 15 (fun k => s.testBit k) = (s.testBit 0).toNat + cnt 14 (fun k => s.testBit (k + 1)) := by unfold cnt; exact sumN_front 14 _
  have e2 : cnt 15 (fun k => (s / 2).testBit k) = cnt 14 (fun k => (s / 2).testBit k) := cnt_more (by omega) fun k hk => Nat.testBit_lt_two_pow (Nat.lt_of_lt_of_le (by omega : s / 2 < 2 ^ 14) (Nat.pow_le_pow_right (by omega) hk))
  rw [e1, e2, cnt_congr (q := fun k => (s / 2).testBit k) (fun k _ => by rw [Nat.testBit_succ])]
  congr 1
  rw [Nat.testBit_zero]
  have : s % 2 = 0 ∨ s % 2 = 1 := by omega
  rcases this with e | e <;> rw [e] <;> rfl
theorem S.l1Size_w {s : Nat} (hs : s < 2 ^ 15) : S.l1Size_t s = some ((cnt 15 (fun k => s.testBit k) : Nat) : Int) := by
  unfold S.l1Size_t S.l1Size_tree
  have : S.l1Size_run2 FUEL ((s : Int), 0) = some ((cnt 15 (fun k => s.testBit k) : Nat) : Int) := by
    have hc := cnt_le 15 (fun k => s.testBit k)
    refine run_fuel (run := S.l1Size_run2) (fun q => ∃ a t : Nat, q = ((a : Int), (t : Int)) ∧ a < 2 ^ 15 ∧ t + cnt 15 (fun k => a.testBit k) = cnt 15 (fun k => s.testBit k)) (fun q => q.1.toNat) (fun _ => ((cnt 15 (fun k => s.testBit k) : Nat) : Int)) ?_ ⟨s, 0, rfl, hs, by omega⟩ (by simp only [Int.toNat_natCast]; omega)
    rintro n _ ⟨a, t, rfl, ha, ht⟩
    simp only [S.l1Size_run2, S.l1Size_step2]
    by_cases h0 : a = 0
    · subst h0
      left
      rw [cnd_f (by simp)]
      have e0 : cnt 15 (fun k => (0 : Nat).testBit k) = 0 := by decide
      rw [← ht, e0]; rfl
    · right
      have h1 := cnt_half ha
      rw [cnd_t (by simp; omega), div2_nat (by omega), tmod2_nat, add_nat (by omega)]
      exact ⟨_, rfl, ⟨_, _, rfl, by omega, by omega⟩, by simp only [Int.toNat_natCast]; omega, trivial⟩
  rw [this]; rfl
def wl (L : List (Nat × Nat)) : List (List Int) := L.map fun p => [(p.1 : Int), (p.2 : Int)]
theorem wl_len (L : List (Nat × Nat)) : (wl L).length = L.length := by simp [wl]
theorem wl_app (L : List (Nat × Nat)) (a b : Nat) : wl (L ++ [(a, b)]) = wl L ++ [[(a : Int), (b : Int)]] := by simp [wl]
theorem wl_at {L : List (Nat × Nat)} {i : Nat} (hi : i < L.length) : D.elr (wl L) i = [((pt L i).1 : Int), ((pt L i).2 : Int)] := by
  unfold D.elr wl pt
  simp [List.getD, hi]
theorem S.l6Wires_n {net : List Int} (h : Ok net) : S.l6Wires_t net = some (wl (pairs net)) := by
  unfold S.l6Wires_t S.l6Wires_tree
  have h6 := h.hi
  have := (run_for (run := S.l6Wires_run3 net) (len := net.length) (fun k (t : List (Nat × Nat)) => ((k : Int), wl t)) (pairRow net) (fun t => wl t) (fun k t => t.length ≤ 6 * k) (by omega) (fun n k t hk ht => ?_) (fun n t ht => ?_) (t0 := []) (by simp)).1
  · exact congrArg (fun o => optC o (fun q => some q) none) this
  · have hlt := h.lt64 hk
    have inner := run_for (run := S.l6Wires_run6 net (k : Int)) (len := net.length - (k + 1)) (fun i (t : List (Nat × Nat)) => (((k + 1 + i : Nat) : Int), wl t)) (pairStep net k) (fun t => wl t) (fun i u => u.length ≤ t.length + i) (by omega) (fun n i u hi hu => ?_) (fun n u hu => ?_) (t0 := t) (Nat.le_refl _)
    · obtain ⟨e, hlen⟩ := inner
      simp only [S.l6Wires_run3, S.l6Wires_step3]
      rw [cnd_t (by rw [decide_eq_true_eq]; omega), add1_nat (by omega), show S.l6Wires_run6 net (k : Int) FUEL (((k + 1 : Nat) : Int), wl t) = _ from e]
      exact ⟨rfl, Nat.le_trans hlen (by omega)⟩
    · simp only [S.l6Wires_run6, S.l6Wires_step6]
      rw [cnd_t (by rw [decide_eq_true_eq]; omega), cnd_t (by simp only [Bool.and_eq_true, decide_eq_true_eq]; omega), cnd_f (by rw [decide_eq_false_iff_not]; omega), show D.eli net (k : Int).toNat = (nb net k : Int) by rw [Int.toNat_natCast]; exact h.eli hk, bit_shr _ _ (by omega), bool_eq1, add1_nat (by omega)]
      unfold pairStep
      cases hb : (nb net k).testBit (k + 1 + i) with
      | false => rw [cond_false, if_neg (by simp)]; exact ⟨rfl, by omega⟩
      | true =>
        rw [cond_true, cnd_t (small_of (by rw [List.length_append, wl_len]; simp; omega)), if_pos rfl, wl_app]
        exact ⟨rfl, by rw [List.length_append]; simp; omega⟩
    · simp only [S.l6Wires_run6, S.l6Wires_step6]
      rw [cnd_f (by rw [decide_eq_false_iff_not]; omega)]
  · simp only [S.l6Wires_run3, S.l6Wires_step3]
    rw [cnd_f (by rw [decide_eq_false_iff_not]; omega)]
theorem S.l6Tree_n {net : List Int} (h : Ok net) {x : Nat} : S.l6Tree_t (net.length : Int) (wl (pairs net)) (x : Int) = some (treeN net.length (pairs net) x) := by
  unfold S.l6Tree_t S.l6Tree_tree
  have h6 := h.hi
  obtain ⟨p1, p2, p3⟩ := pairs_is h6
  have hlt : ∀ T i, TreeI net.length (pairs net) x i T → i ≤ (pairs net).length → ∀ k, k < net.length → nb T k < 64 := fun T i ⟨_, _, t3, _⟩ hi k hk => by
    refine Nat.lt_pow_two_of_testBit (n := 6) _ fun j hj => not_true fun hc => ?_
    obtain ⟨m, q1, q2, q3⟩ := (t3 k j hk).1 hc
    have hw := pt_mem (L := pairs net) (i := m) (by omega)
    rcases q3 with q3 | q3 <;> rw [q3] at hw <;> have := (p1 _ _).1 hw <;> omega
  have base : TreeI net.length (pairs net) x 0 (List.replicate net.length 0) := by
    have e0 : ∀ k, nb (List.replicate net.length 0) k = 0 := fun k => by
      unfold nb el
      by_cases hk : k < net.length <;> simp [List.getD, List.getElem?_replicate, hk]
    refine ⟨by simp, fun k hk => ?_, fun k j hk => ?_, ?_⟩
    · rw [e0]; unfold el; simp [List.getD, List.getElem?_replicate, hk]
    · rw [e0, Nat.zero_testBit]
      exact ⟨fun hh => (by cases hh), fun ⟨m, a, _⟩ => (by omega)⟩
    · show sumN (List.replicate net.length 0).length (fun k => size (nb (List.replicate net.length 0) k)) = 0
      rw [sumN_congr (g := fun _ => 0) (fun k _ => by rw [e0]; decide), sumN_zero]
  rw [cnd_t (by simp only [Bool.and_true, Bool.and_eq_true, decide_eq_true_eq]; exact ⟨by omega, small_of (by omega)⟩), Int.toNat_natCast]
  have := (run_for (run := S.l6Tree_run3 (wl (pairs net)) (x : Int)) (len := (pairs net).length) (fun i (T : List Int) => ((i : Int), T)) (treeStep (pairs net) x) (fun T => T) (fun i T => TreeI net.length (pairs net) x i T) (by omega) (fun n i T hi hT => ?_) (fun n T hT => ?_) (t0 := List.replicate net.length 0) base).1
  · exact congrArg (fun o => optC o (fun q => some q) none) this
  · refine ⟨?_, treeI_step h6 hi hT⟩
    have h64 := hlt T i hT (by omega)
    obtain ⟨t1, t2, t3, t4⟩ := hT
    simp only [S.l6Tree_run3, S.l6Tree_step3]
    rw [wl_len, cnd_t (by rw [decide_eq_true_eq]; omega), cnd_f (by simp), bit_shr _ _ (by omega), bool_eq1, add1_nat (by omega)]
    unfold treeStep
    cases hb : x.testBit i with
    | false => rfl
    | true =>
      obtain ⟨a, b, hab⟩ : ∃ a b, pt (pairs net) i = (a, b) := ⟨_, _, rfl⟩
      obtain ⟨m1, m2, m3⟩ := (p1 a b).1 (hab ▸ pt_mem hi)
      have e := wl_at hi
      rw [hab] at e
      rw [cond_true, if_pos rfl, hab, Int.toNat_natCast, e]
      have pa : 2 ^ a < 2 ^ 6 := Nat.pow_lt_pow_right (by omega) (by omega)
      have pb : 2 ^ b < 2 ^ 6 := Nat.pow_lt_pow_right (by omega) (by omega)
      have ea : D.eli [(a : Int), (b : Int)] (Int.toNat 0) = (a : Int) := rfl
      have eb : D.eli [(a : Int), (b : Int)] (Int.toNat 1) = (b : Int) := rfl
      have na := h64 a (by omega)
      have nbb := h64 b (by omega)
      have eT : D.eli T a = (nb T a : Int) := t2 a (by omega)
      have e2 : ∀ v : Int, D.eli (T.set a v) b = (nb T b : Int) := fun v => by
        have : el (T.set a v) b = el T b := by rw [el_set (by omega), if_neg (by omega)]
        exact this.trans (t2 b (by omega))
      rw [ea, eb]
      simp only [List.length_cons, List.length_nil, List.length_set]
      rw [cnd_t (by simp only [Bool.and_eq_true, decide_eq_true_eq]; omega), cnd_t (by rw [decide_eq_true_eq]; omega), cnd_t (by simp only [Bool.and_eq_true, decide_eq_true_eq]; omega), cnd_t (by rw [decide_eq_true_eq]; omega), cnd_t (by simp only [Bool.and_eq_true, decide_eq_true_eq]; omega), cnd_t (by rw [decide_eq_true_eq]; omega), cnd_f (by simp),
        cnd_t (by simp only [Bool.and_eq_true, decide_eq_true_eq]; omega), cnd_t (by rw [decide_eq_true_eq]; omega), cnd_t (by simp only [Bool.and_eq_true, decide_eq_true_eq]; omega), cnd_t (by rw [decide_eq_true_eq]; omega), cnd_f (by simp), cnd_t (by simp only [Bool.and_eq_true, decide_eq_true_eq]; omega), cnd_t (by rw [decide_eq_true_eq]; omega),
        one_shl (k := b) (by omega), one_shl (k := a) (by omega)]
      simp only [Int.toNat_natCast]
      rw [eT, i64_or_nat _ _ (by omega) (by omega), e2, i64_or_nat _ _ (by omega) (by omega)]
      unfold addWire
      rw [nb_set (by omega), if_neg (by omega)]
  · simp only [S.l6Tree_run3, S.l6Tree_step3]
    rw [wl_len, cnd_f (by rw [decide_eq_false_iff_not]; omega)]
def mostLeaves (net : List Int) : Int := if net.length < 2 then -1 else fold (2 ^ (pairs net).length) (lfStep net) (-1)
theorem S.MostLeaves_x {net : List Int} (e : S.NetOk_t net = some false) : S.MostLeaves_t net = some (-1) := by
  unfold S.MostLeaves_t S.MostLeaves_tree; rw [e]; rfl
theorem S.MostLeaves_y {net : List Int} (h : Ok net) (e : S.NetOk_t net = some true) : S.MostLeaves_t net = some (mostLeaves net) := by
  unfold S.MostLeaves_t S.MostLeaves_tree mostLeaves
  have h6 := h.hi
  have hlo := h.lo
  obtain ⟨p1, p2, p3⟩ := pairs_is h6
  have hp15 : 2 ^ (pairs net).length ≤ 2 ^ 15 := Nat.pow_le_pow_right (by omega) p3
  rw [e]
  simp only [optC]
  rw [Bool.not_true, cond_false]
  by_cases h2 : net.length < 2
  · rw [cnd_t (by rw [decide_eq_true_eq]; omega), if_pos h2]
  rw [cnd_f (by rw [decide_eq_false_iff_not]; omega), if_neg h2, S.l6Wires_n h]
  simp only
  have := (run_for (run := S.MostLeaves_run6 net) (len := 2 ^ (pairs net).length) (fun x (b : Int) => (b, (x : Int), wl (pairs net))) (lfStep net) (fun b => b) (fun x b => True) (by omega) (fun n x b hx _ => ?_) (fun n b _ => ?_) (t0 := -1) trivial).1
  · exact congrArg (fun o => optC o (fun q => some q) none) this
  · refine ⟨?_, trivial⟩
    simp only [S.MostLeaves_run6, S.MostLeaves_step6]
    have hsub := (treeN_sub h x).1
    have hl := hsub.len
    have hc := cnt_le 15 (fun k => x.testBit k)
    rw [wl_len, one_shl (by omega), cnd_t (by rw [decide_eq_true_eq]; omega), S.l1Size_w (by omega), sub1_nat (by omega) (by omega)]
    simp only [optC]
    rw [nat_beq, add1_nat (by omega)]
    unfold lfStep goodB
    by_cases hz : cnt 15 (fun k => x.testBit k) = net.length - 1
    · have hz2 : (cnt 15 (fun m => x.testBit m) + 1 == net.length) = true := by rw [beq_iff_eq]; omega
      rw [cnd_t (by simpa using hz), S.l6Tree_n h, hz2, Bool.true_and]
      simp only
      generalize treeN net.length (pairs net) x = T at hsub hl ⊢
      have loop := (run_for (run := S.MostLeaves_run12 net b (x : Int)) (len := T.length) (fun k (t : Nat) => ((t : Int), (k : Int), wl (pairs net), T)) (fun t k => t + (size (nb T k) == 1).toNat) (fun t => ((t : Int), wl (pairs net), T)) (fun k t => t ≤ k) (by omega) (fun n k t hk ht => ?_) (fun n t ht => ?_) (t0 := 0) (Nat.zero_le _)).1
      · rw [show S.MostLeaves_run12 net b (x : Int) FUEL (0, 0, wl (pairs net), T) = _ from loop, fold_sum]
        simp only
        rw [S.l1Parts_n hsub.ok, show sumN T.length (fun k => (size (nb T k) == 1).toNat) = leafs T from rfl]
        simp only
        by_cases hp : parts T = 1
        · have hp2 : (parts T == 1) = true := by simpa using hp
          rw [cnd_t (by rw [hp]; rfl), hp2]; rfl
        · have hp2 : (parts T == 1) = false := by simpa using hp
          rw [cnd_f (by simp; omega), hp2]; rfl
      · simp only [S.MostLeaves_run12, S.MostLeaves_step12]
        have hT64 : nb T k < 64 := hsub.ok.lt64 hk
        rw [cnd_t (by rw [decide_eq_true_eq]; omega), cnd_t (by simp only [Bool.and_eq_true, decide_eq_true_eq]; omega), cnd_t (by rw [decide_eq_true_eq]; omega), Int.toNat_natCast, hsub.ok.eli hk, S.l1Size_n hT64, add1_nat (a := k) (by omega)]
        simp only [optC]
        by_cases h1 : size (nb T k) = 1
        · rw [cnd_t (by rw [h1]; rfl), add1_nat (by omega), h1]; exact ⟨rfl, by simp; omega⟩
        · have : (size (nb T k) == 1) = false := by simpa using h1
          rw [cnd_f (by simp; omega), this]; exact ⟨rfl, by simp; omega⟩
      · simp only [S.MostLeaves_run12, S.MostLeaves_step12]
        rw [cnd_f (by rw [decide_eq_false_iff_not]; omega)]
    · have hz2 : (cnt 15 (fun m => x.testBit m) + 1 == net.length) = false := by simp; omega
      rw [cnd_f (by simpa using hz), hz2, Bool.false_and, if_neg (by simp)]
  · simp only [S.MostLeaves_run6, S.MostLeaves_step6]
    rw [wl_len, one_shl (by omega), cnd_f (by rw [decide_eq_false_iff_not]; omega)]
end Go.Proofs.Ytlamlnmeaolpmaa
/- The model's functions of chapter 7 in natural numbers. Conditions: those of each theorem. -/
namespace Go.Proofs.Ytlamlnmeaolpmaa
open D Go.RowKit
set_option linter.unusedVariables false
set_option linter.unusedSimpArgs false


/-- The number at a place of a row. -/
def rv (row : List Int) (k : Nat) : Nat := (D.eli row k).toNat
def rowB (n : Nat) (row : List Int) : Bool := decide (row.length = n) && (List.range row.length).all fun k => decide (0 ≤ D.eli row k ∧ D.eli row k ≤ 2)
structure RowIs (n : Nat) (row : List Int) : Prop where
  len : row.length = n
  eq : ∀ k, k < n → D.eli row k = (rv row k : Int)
  le : ∀ k, k < n → rv row k ≤ 2
def romanB (net row : List Int) : Bool := (List.range net.length).all fun k => !(rv row k == 0 && (nb net k &&& withN net.length (rv row) 2) == 0)
def italianB (net row : List Int) : Bool := (List.range net.length).all fun k => !(rv row k == 0 && decide (help net (rv row) k < 2))
/-- The row of the digits of a number. -/
def digs (n m : Nat) : List Int := (List.range n).map fun k => ((dig n m k : Nat) : Int)
/-- The first least row of a kind, and the least sum. -/
def rowStep (n : Nat) (p : List Int → Bool) (best : List Int) (m : Nat) : List Int := if p (digs n m) = true ∧ (best.length = 0 ∨ sumN n (rv (digs n m)) < sumN n (rv best)) then digs n m else best
def bestRow (n : Nat) (p : List Int → Bool) : List Int := fold (3 ^ n) (rowStep n p) []
theorem roman_congr {net : List Int} {r q : Nat → Nat} (h : ∀ k, k < net.length → r k = q k) (hr : RomanP net r) : RomanP net q := fun k hk h0 => by
  obtain ⟨j, hj, a, b⟩ := hr k hk (by rw [h k hk]; exact h0)
  exact ⟨j, hj, a, by rw [← h j hj]; exact b⟩
/-- The least Roman row. -/
structure FirstRoman (net : List Int) (b : Nat) : Prop where
  lt : b < 3 ^ net.length
  roman : RomanP net (dig net.length b)
  le : ∀ m, m < 3 ^ net.length → RomanP net (dig net.length m) → sumN net.length (dig net.length b) ≤ sumN net.length (dig net.length m)
  first : ∀ m, m < b → RomanP net (dig net.length m) → sumN net.length (dig net.length b) < sumN net.length (dig net.length m)
theorem FirstRoman.uniq {net : List Int} {a b : Nat} (ha : FirstRoman net a) (hb : FirstRoman net b) : a = b := by
  have h1 := ha.le b hb.lt hb.roman
  have h2 := hb.le a ha.lt ha.roman
  rcases Nat.lt_trichotomy a b with hl | hl | hl
  · have := hb.first a hl ha.roman; omega
  · exact hl
  · have := ha.first b hl hb.roman; omega
theorem FirstRoman.min {net : List Int} {b : Nat} (hb : FirstRoman net b) : MinRow net.length (RomanP net) (sumN net.length (dig net.length b)) := by
  refine ⟨⟨dig net.length b, fun k _ => dig_lt _ _ _, hb.roman, rfl⟩, fun r hr hR => ?_⟩
  obtain ⟨m, hm, hd⟩ := dig_all hr
  have h1 := hb.le m hm (roman_congr (fun k hk => (hd k hk).symm) hR)
  rw [sumN_congr (f := dig net.length m) hd] at h1
  exact h1
def fewestRoman (net : List Int) : Nat := sumN net.length (rv (bestRow net.length (romanB net)))
def fewestItalian (net : List Int) : Nat := fold (3 ^ net.length) (fun t m => if italianB net (digs net.length m) = true then (if sumN net.length (rv (digs net.length m)) < t then sumN net.length (rv (digs net.length m)) else t) else t) net.length
/-- The row of a set. -/
def rowOf (net : List Int) (s : Nat) : List Int := fold net.length (fun l k => l ++ [((rowOfN net s k : Nat) : Int)]) []
def rowOfI (net : List Int) (s : Int) : List Int := if 0 ≤ s ∧ s < 2 ^ net.length then rowOf net s.toNat else []
end Go.Proofs.Ytlamlnmeaolpmaa
/- The model's functions of chapter 8 in natural numbers. Conditions: those of each theorem. -/
namespace Go.Proofs.Ytlamlnmeaolpmaa
open D Go.RowKit
set_option linter.unusedVariables false
set_option linter.unusedSimpArgs false


/-- Can a guard come? -/
def canB (net : List Int) (s t : Nat) : Bool := (List.range net.length).any fun f => s.testBit f && ((nb net t).testBit f && W net (moved s f t))
def secureB (net : List Int) (s : Nat) : Bool := W net s && (List.range net.length).all fun k => !(!s.testBit k && !canB net s k)
def fewestSecure (net : List Int) : Nat := minSize net (secureB net)
def leaveB (net : List Int) (r : Nat → Nat) (p : Nat) : Bool := (List.range net.length).any fun f => decide (1 ≤ r f) && ((nb net p).testBit f && W net (withN net.length (leave r f p) 1))
def weakB (net row : List Int) : Bool := (List.range net.length).all fun k => !(rv row k == 0 && !leaveB net (rv row) k)
def fewestWeak (net : List Int) : Nat := fold (3 ^ net.length) (fun t m => if weakB net (digs net.length m) = true then (if sumN net.length (rv (digs net.length m)) < t then sumN net.length (rv (digs net.length m)) else t) else t) net.length
end Go.Proofs.Ytlamlnmeaolpmaa
/- Plain facts about the program's own ways of chapters 6 to 9: least numbers from -1 on, the first row of the fewest guards, the least place of a set. Conditions: those of each theorem. -/
namespace Go.Proofs.Ytlamlnmeaolpmaa
open D Go.RowKit
set_option linter.unusedVariables false
set_option linter.unusedSimpArgs false

/-- The least number of a kind; -1 if there is none. -/
def minStepV (p : Nat → Bool) (v : Nat → Nat) (t : Int) (s : Nat) : Int := if p s = true then (if t < 0 then ((v s : Nat) : Int) else if ((v s : Nat) : Int) < t then ((v s : Nat) : Int) else t) else t
theorem minStepV_bound {p : Nat → Bool} {v : Nat → Nat} {t : Int} {s b : Nat} (hv : v s ≤ b) (ht : -1 ≤ t ∧ t ≤ b) : -1 ≤ minStepV p v t s ∧ minStepV p v t s ≤ b := by
  unfold minStepV
  split
  · split
    · omega
    · split <;> omega
  · exact ht
def lessStep (n : Nat) (p : List Int → Bool) (best : List Int) (m : Nat) : List Int := if sumN n (rv (digs n m)) < sumN n (rv best) ∧ p (digs n m) = true then digs n m else best
/-- The least place of a set, as the bit that Go finds with the negative of it. -/
theorem low_bit : ∀ s, s < 64 → s ≠ 0 → ∃ i, i < 6 ∧ bits .and .i64 ((s : Nat) : Int) (IntKind.i64.wrap (0 - ((s : Nat) : Int))) = ((2 ^ i : Nat) : Int) ∧ s.testBit i = true := by decide +kernel
end Go.Proofs.Ytlamlnmeaolpmaa
/- Other ways to the sets and numbers of chapters 3 to 5. Conditions: those of each theorem. -/
namespace Go.Proofs.Ytlamlnmeaolpmaa
set_option linter.unusedVariables false
set_option linter.unusedSimpArgs false

theorem fold_near (net : List Int) (s : Nat) : fold net.length (fun t k => if s.testBit k = true then t ||| nb net k else t) 0 = near net s := rfl
def minStepN (p : Nat → Bool) (t s : Nat) : Nat := if p s = true then (if size s < t then size s else t) else t
def maxStepN (p : Nat → Bool) (t s : Nat) : Nat := if p s = true then (if size s > t then size s else t) else t
end Go.Proofs.Ytlamlnmeaolpmaa
/- The program's functions of chapters 3 and 4 in natural numbers. Conditions: those of each theorem. -/
namespace Go.Proofs.Ytlamlnmeaolpmaa
open D Go.RowKit
set_option linter.unusedVariables false
set_option linter.unusedSimpArgs false


theorem I.with_n {s k : Nat} (hs : s < 64) (hk : k < 6) : I.with_t s k = some ((s ||| 2 ^ k : Nat) : Int) := by
  unfold I.with_t I.with_tree
  rw [cnd_f (by simp), one_shl (by omega), i64_or_nat _ _ (by omega) (pow2_lt (by omega))]
theorem I.nextTo_n {net : List Int} (h : Ok net) {s : Nat} (hs : s < 2 ^ net.length) : I.nextTo_t net s = some ((near net s : Nat) : Int) := by
  unfold I.nextTo_t I.nextTo_tree
  have h6 := h.hi
  have h64 := h.pow
  have := (run_for (run := I.nextTo_run3 net s) (len := net.length) (fun k (t : Nat) => ((t : Int), (k : Int))) (fun t k => if s.testBit k = true then t ||| nb net k else t) (fun t => (t : Int)) (fun k t => t < 2 ^ net.length) (by omega) (fun n k t hk ht => ?_) (fun n t ht => ?_) (t0 := 0) (Nat.two_pow_pos _)).1
  · rw [fold_near] at this
    exact congrArg (fun o => optC o (fun q => some q) none) this
  · have hb := h.lt k hk
    simp only [I.nextTo_run3, I.nextTo_step3]
    rw [cnd_t (by simp; omega), I.hasPlace_n _ _ (by omega)]
    simp only [optC]
    cases hbit : s.testBit k with
    | true =>
      rw [cond_true, cnd_t (by simp; omega), if_pos rfl, Int.toNat_natCast, h.eli hk, i64_or_nat _ _ (by omega) (by omega), add1_nat (by omega)]
      exact ⟨rfl, Nat.or_lt_two_pow ht hb⟩
    | false =>
      rw [cond_false, if_neg (by simp), add1_nat (by omega)]
      exact ⟨rfl, ht⟩
  · simp only [I.nextTo_run3, I.nextTo_step3]
    rw [cnd_f (by simp)]
end Go.Proofs.Ytlamlnmeaolpmaa
/- The program's functions of chapter 6 but MostLeaves, in natural numbers. Conditions: those of each theorem. -/
namespace Go.Proofs.Ytlamlnmeaolpmaa
open D Go.RowKit
set_option linter.unusedVariables false
set_option linter.unusedSimpArgs false


theorem I.fewerOf_n (t : Int) (v : Nat) : I.fewerOf_t t ((v : Nat) : Int) = some (if t < 0 then ((v : Nat) : Int) else if ((v : Nat) : Int) < t then ((v : Nat) : Int) else t) := by
  unfold I.fewerOf_t I.fewerOf_tree
  by_cases h0 : t < 0
  · simp [h0]
  · by_cases h1 : ((v : Nat) : Int) < t <;> simp [h0, h1]
theorem I.fewerOf_V (p : Nat → Bool) (v : Nat → Nat) {t : Int} {k : Nat} (hp : p k = true) : I.fewerOf_t t ((v k : Nat) : Int) = some (minStepV p v t k) := by
  rw [I.fewerOf_n]; unfold minStepV; rw [if_pos hp]
theorem minStepV_no {p : Nat → Bool} {v : Nat → Nat} {t : Int} {k : Nat} (hp : p k = false) : minStepV p v t k = t := by unfold minStepV; rw [hp]; rfl
theorem fold_reach (net : List Int) (A m s : Nat) : fold m (fun t _ => t ||| (A &&& near net t)) s = steps net A m s := by
  induction m with
  | zero => rfl
  | succ m ih => rw [fold_succ, ih, Nat.and_comm]; rfl
theorem I.reachedIn_n {net : List Int} (h : Ok net) {s : Nat} (hs : s < 2 ^ net.length) (h0 : s ≠ 0) : ∃ i, i < net.length ∧ s.testBit i = true ∧ I.reachedIn_t net s = some ((part net s i : Nat) : Int) := by
  have h6 := h.hi
  have h64 := h.pow
  obtain ⟨i, _, e, hi⟩ := low_bit s (by omega) h0
  have hin := in_lt hs hi
  refine ⟨i, hin, hi, ?_⟩
  have hpl : 2 ^ i < 2 ^ net.length := Nat.pow_lt_pow_right (by omega) hin
  have hst : 2 ^ i &&& s = 2 ^ i := by
    refine eq_of_bits (n := net.length) (Nat.lt_of_le_of_lt Nat.and_le_left hpl) hpl (fun j _ => ?_)
    rw [Nat.testBit_and, testBit_pow]
    by_cases hj : i = j
    · subst hj; rw [hi]; simp
    · simp [hj]
  unfold I.reachedIn_t I.reachedIn_tree
  have := (run_for (run := I.reachedIn_run3 net s) (len := net.length - 1) (fun k (t : Nat) => ((t : Int), ((k + 1 : Nat) : Int))) (fun t k => t ||| (s &&& near net t)) (fun t => (t : Int)) (fun k t => t < 2 ^ net.length) (by omega) (fun n k t hk ht => ?_) (fun n t ht => ?_) (t0 := 2 ^ i) hpl).1
  · rw [e, show I.reachedIn_run3 net s FUEL (((2 ^ i : Nat) : Int), 1) = _ from this, fold_reach]
    simp only [optC]
    congr 2
    have hc : 1 ≤ card net.length (2 ^ i) := card_pow hin
    have hf := h.steps_done (A := s) hpl (net.length - 1) (by omega)
    rw [← hst] at hf
    have := steps_part h hin hf
    rw [hst] at this
    exact this
  · have hn := h.near_lt t
    have ha : s &&& near net t < 2 ^ net.length := Nat.lt_of_le_of_lt Nat.and_le_left hs
    simp only [I.reachedIn_run3, I.reachedIn_step3]
    rw [cnd_t (by simp; omega), I.nextTo_n h ht]
    simp only [optC]
    rw [i64_and_nat _ _ (by omega) (by omega), i64_or_nat _ _ (by omega) (by omega), add1_nat (by omega)]
    exact ⟨rfl, Nat.or_lt_two_pow ht ha⟩
  · simp only [I.reachedIn_run3, I.reachedIn_step3]
    rw [cnd_f (by simp; omega)]
theorem I.togetherIn_n {net : List Int} (h : Ok net) {s : Nat} (hs : s < 2 ^ net.length) : I.togetherIn_t net s = some (together net s) := by
  unfold I.togetherIn_t I.togetherIn_tree
  by_cases h0 : s = 0
  · subst h0
    have : together net 0 = false := not_true fun hc => (together_iff.1 hc).1 rfl
    rw [this]
    rfl
  · obtain ⟨i, hi, hb, e⟩ := I.reachedIn_n h hs h0
    rw [cnd_t (by simp; omega), e]
    simp only [optC]
    rw [nat_beq]
    congr 1
    rw [Bool.eq_iff_iff, beq_iff_eq, together_iff, together_part h hs hb]
theorem I.joinedWatchIn_n {net : List Int} (h : Ok net) {s : Nat} (hs : s < 2 ^ net.length) : I.joinedWatchIn_t net s = some (joined net s) := by
  unfold I.joinedWatchIn_t I.joinedWatchIn_tree
  rw [I.togetherIn_n h hs]
  simp only [optC]
  unfold joined
  cases together net s with
  | false => rfl
  | true => rw [cond_true, I.watchIn_n h hs]; rfl
theorem I.FewestJoined_y {net : List Int} (h : Ok net) (e : I.NetOk_t net = some true) : I.FewestJoined_t net = some (minI net (joined net)) := by
  unfold I.FewestJoined_t I.FewestJoined_tree
  have h64 := h.pow
  have h6 := h.hi
  have hsu := allOf_succ net
  rw [e]
  have := (run_for (run := I.FewestJoined_run5 net) (len := 2 ^ net.length) (fun k (t : Int) => (t, (k : Int))) (minStepV (joined net) size) (fun t => t) (fun k t => -1 ≤ t ∧ t ≤ (6 : Nat)) (by omega) (fun n k t hk ht => ?_) (fun n t ht => ?_) (t0 := -1) (by omega)).1
  · exact congrArg (fun o => optC o (fun q => some q) none) this
  · refine ⟨?_, minStepV_bound (size_le k) ht⟩
    simp only [I.FewestJoined_run5, I.FewestJoined_step5]
    rw [I.allOf_n h]
    simp only [optC]
    rw [cnd_t (by rw [decide_eq_true_eq]; omega), I.joinedWatchIn_n h hk]
    simp only
    cases hp : joined net k with
    | false => rw [cond_false, minStepV_no hp, add1_nat (by omega)]
    | true =>
      rw [cond_true, I.sizeOf_n]
      simp only
      rw [I.fewerOf_V (joined net) size hp]
      simp only
      rw [add1_nat (by omega)]
  · simp only [I.FewestJoined_run5, I.FewestJoined_step5]
    rw [I.allOf_n h]
    simp only [optC]
    rw [cnd_f (by rw [decide_eq_false_iff_not]; omega)]
end Go.Proofs.Ytlamlnmeaolpmaa
/- Wires in a row, each two numbers; some of them. Conditions: those of each theorem. -/
namespace Go.Proofs.Ytlamlnmeaolpmaa
open D Go.RowKit
set_option linter.unusedVariables false
set_option linter.unusedSimpArgs false


/-- Pairs of numbers, one behind the other. -/
def fl : List (Nat × Nat) → List Int
  | [] => []
  | p :: r => (p.1 : Int) :: (p.2 : Int) :: fl r
theorem fl_len : ∀ P : List (Nat × Nat), (fl P).length = P.length * 2
  | [] => rfl
  | p :: r => by simp only [fl, List.length_cons, fl_len r]; omega
theorem fl_app : ∀ (P : List (Nat × Nat)) (a b : Nat), fl (P ++ [(a, b)]) = fl P ++ [(a : Int), (b : Int)]
  | [], a, b => rfl
  | p :: r, a, b => by simp only [List.cons_append, fl, fl_app r a b]
theorem fl_div (P : List (Nat × Nat)) : (fl P).length / 2 = P.length := by rw [fl_len]; omega
def PairsIn (n : Nat) (P : List (Nat × Nat)) : Prop := ∀ p, p ∈ P → p.1 < p.2 ∧ p.2 < n
theorem I.wiresIn_n {net : List Int} (h : Ok net) : I.wiresIn_t net = some (fl (pairs net)) := by
  unfold I.wiresIn_t I.wiresIn_tree
  have h6 := h.hi
  have := (run_for (run := I.wiresIn_run3 net) (len := net.length) (fun k (t : List (Nat × Nat)) => ((k : Int), fl t)) (pairRow net) (fun t => fl t) (fun k t => t.length ≤ 6 * k) (by omega) (fun n k t hk ht => ?_) (fun n t ht => ?_) (t0 := []) (by simp)).1
  · exact congrArg (fun o => optC o (fun q => some q) none) this
  · have hlt := h.lt64 hk
    have inner := run_for (run := I.wiresIn_run6 net (k : Int)) (len := net.length - (k + 1)) (fun i (t : List (Nat × Nat)) => (((k + 1 + i : Nat) : Int), fl t)) (pairStep net k) (fun t => fl t) (fun i u => u.length ≤ t.length + i) (by omega) (fun n i u hi hu => ?_) (fun n u hu => ?_) (t0 := t) (Nat.le_refl _)
    · obtain ⟨e, hlen⟩ := inner
      simp only [I.wiresIn_run3, I.wiresIn_step3]
      rw [cnd_t (by rw [decide_eq_true_eq]; omega), add1_nat (by omega), show I.wiresIn_run6 net (k : Int) FUEL (((k + 1 : Nat) : Int), fl t) = _ from e]
      exact ⟨rfl, Nat.le_trans hlen (by omega)⟩
    · simp only [I.wiresIn_run6, I.wiresIn_step6]
      rw [cnd_t (by rw [decide_eq_true_eq]; omega), cnd_t (by simp only [Bool.and_eq_true, decide_eq_true_eq]; omega), show D.eli net (k : Int).toNat = (nb net k : Int) by rw [Int.toNat_natCast]; exact h.eli hk, I.hasPlace_n _ _ (by omega), add1_nat (by omega)]
      simp only [optC]
      unfold pairStep
      cases hb : (nb net k).testBit (k + 1 + i) with
      | false => rw [cond_false, if_neg (by simp)]; exact ⟨rfl, by omega⟩
      | true =>
        rw [cond_true, cnd_t (small_of (by rw [fl_len]; simp; omega)), if_pos rfl, fl_app]
        exact ⟨rfl, by rw [List.length_append]; simp; omega⟩
    · simp only [I.wiresIn_run6, I.wiresIn_step6]
      rw [cnd_f (by rw [decide_eq_false_iff_not]; omega)]
  · simp only [I.wiresIn_run3, I.wiresIn_step3]
    rw [cnd_f (by rw [decide_eq_false_iff_not]; omega)]
theorem fold_first {T : Type} (f : T → Nat → T) : ∀ (n : Nat) (t : T), fold (n + 1) f t = fold n (fun t k => f t (k + 1)) (f t 0) := by
  intro n
  induction n with
  | zero => intro t; rfl
  | succ n ih => intro t; rw [fold_succ, ih, fold_succ]
theorem cnt_cons (L x : Nat) : cnt (L + 1) (fun k => x.testBit k) = (x.testBit 0).toNat + cnt L (fun k => (x / 2).testBit k) := by
  induction L with
  | zero => show 0 + (x.testBit 0).toNat = (x.testBit 0).toNat + 0; omega
  | succ L ih =>
    have e1 : cnt (L + 1 + 1) (fun k => x.testBit k) = cnt (L + 1) (fun k => x.testBit k) + (x.testBit (L + 1)).toNat := rfl
    have e2 : cnt (L + 1) (fun k => (x / 2).testBit k) = cnt L (fun k => (x / 2).testBit k) + ((x / 2).testBit L).toNat := rfl
    rw [e1, e2, ih, Nat.testBit_succ]; omega
theorem cnt_zero_of {L x : Nat} (hx : x < 2 ^ L) (hc : cnt L (fun k => x.testBit k) = 0) : x = 0 := by
  have hn := cnt_not L (fun k => x.testBit k)
  refine Nat.eq_of_testBit_eq fun j => ?_
  rw [Nat.zero_testBit]
  rcases Nat.lt_or_ge j L with hj | hj
  · have : cnt L (fun k => !x.testBit k) = L := by omega
    have := cnt_all this hj
    simpa using this
  · exact Nat.testBit_lt_two_pow (Nat.lt_of_lt_of_le hx (Nat.pow_le_pow_right (by omega) hj))
theorem cnt_of_zero (L : Nat) : cnt L (fun k => Nat.testBit 0 k) = 0 := by
  have h1 := cnt_not L (fun k => Nat.testBit 0 k)
  have h2 : cnt L (fun k => !Nat.testBit 0 k) = L := by rw [cnt_congr (q := fun _ => true) (fun k _ => by simp), cnt_true]
  omega
theorem pairs_in {net : List Int} (h : Ok net) : PairsIn net.length (pairs net) ∧ (pairs net).length ≤ 15 := by
  obtain ⟨p1, _, p3⟩ := pairs_is h.hi
  exact ⟨fun p hp => by obtain ⟨a, b, _⟩ := (p1 p.1 p.2).1 hp; exact ⟨a, b⟩, p3⟩
end Go.Proofs.Ytlamlnmeaolpmaa
