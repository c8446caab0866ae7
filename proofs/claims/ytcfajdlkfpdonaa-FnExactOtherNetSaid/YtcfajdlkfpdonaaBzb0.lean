/- Several texts in one: Nt1, Nt2, N1, N2, N4, Chap1, Ch3, Ch5, Ch6, Ch12, N3, Ex, Ex2, S3, Ch7, Nt3, Dr, Dr2, S7, S8, S12, Ch9, Ch11, Ch13, Ch13b, Ch13c, Ch15, Ot, S9, Hall, Ch10, S10, Br3, S13, Dr9, Dr12, Tree. Conditions: those of each theorem. -/
import Derived.Test.YtcfajdlkfpdonaaBza2
import Derived.Test.YtcfajdlkfpdonaaBzTz
/- What the laws' own small functions come to. Conditions: those of each theorem. -/
namespace Go.Proofs.Ytcfajdlkfpdonaa
open D Go.RowKit
set_option linter.unusedVariables false
set_option linter.unusedSimpArgs false


theorem L.toIntS_is {a : List Int} (ha : a.length ≤ 1048576) : L.toIntS_t a = some a := by
  have hloop : L.toIntS_run3 a FUEL (0, List.replicate (↑a.length : Int).toNat 0) = some a := by
    refine run_fuel (run := L.toIntS_run3 a) (fun s => 0 ≤ s.1 ∧ s.1 ≤ a.length ∧ s.2.length = a.length ∧ ∀ j, j < s.1.toNat → s.2.getD j 0 = a.getD j 0) (fun s => a.length - s.1.toNat) (fun _ => a) ?_ ?_ ?_
    · rintro n ⟨x, r⟩ ⟨h0, h1, h2, h3⟩
      simp only at h0 h1 h2 h3
      by_cases hx : x < (a.length : Int)
      · refine .inr ⟨(IntKind.i64.wrap (x + 1), r.set x.toNat (eli a x.toNat)), ?_, ?_, ?_, rfl⟩
        · simp only [L.toIntS_run3, L.toIntS_step3]
          rw [cnd_t (by simpa using hx), cnd_t (by simp; omega), cnd_t (by simp; omega), cnd_t (by simp; omega)]
        · rw [i64_wrap (by omega) (by omega)]
          refine ⟨by simp only; omega, by simp only; omega, by simp only [List.length_set]; exact h2, fun j hj => ?_⟩
          simp only at hj ⊢
          by_cases hjx : j = x.toNat
          · subst hjx
            have hlt : x.toNat < r.length := by omega
            simp [List.getD, hlt, eli]
          · rw [← h3 j (by omega)]
            simp [List.getD, List.getElem?_set_ne (Ne.symm hjx)]
        · rw [i64_wrap (by omega) (by omega)]; simp only; omega
      · refine .inl ?_
        simp only [L.toIntS_run3, L.toIntS_step3]
        rw [cnd_f (by simpa using hx)]
        congr 1
        apply List.ext_getElem?
        intro j
        by_cases hj : j < a.length
        · have := h3 j (by omega)
          simp only [List.getD, h2, hj, List.getElem?_eq_getElem, Option.getD_some, hj] at this ⊢
          rw [this]
        · rw [List.getElem?_eq_none (by omega), List.getElem?_eq_none (by omega)]
    · refine ⟨by simp, by simp, by simp, fun j hj => by simp at hj⟩
    · simp; omega
  unfold L.toIntS_t L.toIntS_tree
  rw [cnd_t (by simp [small]; omega), hloop]
  rfl

theorem L.eqIntS_is {a b : List Int} (ha : a.length ≤ 2097152) : L.eqIntS_t a b = some (decide (a = b)) := by
  unfold L.eqIntS_t L.eqIntS_tree
  by_cases hl : a.length = b.length
  · rw [cnd_f (by simp [hl])]
    have hloop : L.eqIntS_run4 a b FUEL 0 = some (if a = b then .inr () else .inl false) := by
      refine run_fuel (run := L.eqIntS_run4 a b) (fun x => 0 ≤ x ∧ x ≤ a.length ∧ ∀ j, j < x.toNat → a.getD j 0 = b.getD j 0) (fun x => a.length - x.toNat) (fun _ => if a = b then .inr () else .inl false) ?_ ?_ ?_
      · rintro n x ⟨h0, h1, h3⟩
        by_cases hx : x < (a.length : Int)
        · by_cases he : eli a x.toNat = eli b x.toNat
          · refine .inr ⟨IntKind.i64.wrap (x + 1), ?_, ?_, ?_, rfl⟩
            · simp only [L.eqIntS_run4, L.eqIntS_step4]
              rw [cnd_t (by simpa using hx), cnd_t (by simp; omega), cnd_t (by simp; omega), cnd_f (by simp [he])]
            · rw [i64_wrap (by omega) (by omega)]
              refine ⟨by omega, by omega, fun j hj => ?_⟩
              by_cases hjx : j = x.toNat
              · subst hjx; exact he
              · exact h3 j (by omega)
            · rw [i64_wrap (by omega) (by omega)]; omega
          · refine .inl ?_
            simp only [L.eqIntS_run4, L.eqIntS_step4]
            rw [cnd_t (by simpa using hx), cnd_t (by simp; omega), cnd_t (by simp; omega), cnd_t (by simp [he])]
            rw [if_neg (fun h => he (by rw [h]))]
        · refine .inl ?_
          simp only [L.eqIntS_run4, L.eqIntS_step4]
          rw [cnd_f (by simpa using hx)]
          have : a = b := by
            apply List.ext_getElem hl
            intro j hj hj'
            have := h3 j (by omega)
            simpa [List.getD, hj, hj'] using this
          rw [if_pos this]
      · exact ⟨by simp, by simp, fun j hj => by simp at hj⟩
      · simp; omega
    rw [hloop]
    by_cases h : a = b
    · simp [h, optC, sumC]
    · simp [h, optC, sumC]
  · rw [cnd_t (by simp; omega)]
    have : ¬ a = b := fun h => hl (by rw [h])
    simp [this]
end Go.Proofs.Ytcfajdlkfpdonaa
/- What is a net: the program's test and the model's come to the same. Conditions: those of each theorem. -/
namespace Go.Proofs.Ytcfajdlkfpdonaa
open D Go.RowKit
set_option linter.unusedVariables false
set_option linter.unusedSimpArgs false


theorem i64_bits : IntKind.i64.bits = 64 := by kernel_rfl
def hasI (s : Int) (p : Nat) : Bool := (s.fdiv (2 ^ min p 64)) % 2 == 1
theorem I.hasPlace_is {s p : Int} (hp : 0 ≤ p) : I.hasPlace_t s p = some (hasI s p.toNat) := by
  unfold I.hasPlace_t I.hasPlace_tree
  rw [cnd_f (by simp; omega), i64_and1, i64_bits]
  rfl
theorem I.setIn_is {net : List Int} {s : Int} (hl : net.length ≤ 6) : I.setIn_t net s = some (decide (0 ≤ s ∧ s < 2 ^ net.length)) := by
  unfold I.setIn_t I.setIn_tree
  have e : IntKind.i64.wrap (1 * 2 ^ min (↑net.length : Int).toNat IntKind.i64.bits) = 2 ^ net.length := by
    rw [i64_bits, Int.toNat_natCast, Int.one_mul]
    generalize net.length = k at hl
    match k, hl with
    | 0, _ | 1, _ | 2, _ | 3, _ | 4, _ | 5, _ | 6, _ => exact i64_wrap (by decide) (by decide)
  by_cases h : 0 ≤ s
  · rw [cnd_t (by simpa using h), e]; simp [h]
  · rw [cnd_f (by simpa using h)]; simp [h]
theorem I.knownBack_is {net : List Int} {p : Int} (hl : net.length ≤ 6) (h0 : 0 ≤ p) (h1 : p < net.length) :
    I.knownBack_t net p = some ((List.range net.length).all fun q => !hasI (eli net p.toNat) q || hasI (eli net q) p.toNat) := by
  unfold I.knownBack_t I.knownBack_tree
  rw [run_all (run := I.knownBack_run2 net p) (len := net.length) (fun q => !hasI (eli net p.toNat) q || hasI (eli net q) p.toNat) (by omega) (fun n x hx0 hx1 => by
    simp only [I.knownBack_run2, I.knownBack_step2]
    by_cases hx : x < (net.length : Int)
    · rw [if_pos hx, cnd_t (by simpa using hx), cnd_t (by simp; omega), I.hasPlace_is hx0]
      simp only [optC]
      cases ha : hasI (eli net p.toNat) x.toNat with
      | false => simp only [cond_false, Bool.not_false, Bool.true_or, cond_true]; rw [i64_wrap (by omega) (by omega)]
      | true =>
        rw [cond_true, cnd_t (by simp; omega), I.hasPlace_is h0]
        simp only [optC]
        cases hb : hasI (eli net x.toNat) p.toNat with
        | false => rfl
        | true => simp only [Bool.not_true, cond_false, Bool.or_true, cond_true]; rw [i64_wrap (by omega) (by omega)]
    · rw [if_neg hx, cnd_f (by simpa using hx)])]
  cases (List.range net.length).all _ <;> rfl
theorem I.NetOk_is {net : List Int} : I.NetOk_t net = some (decide (1 ≤ net.length) && decide (net.length ≤ 6) && (List.range net.length).all fun p =>
    decide (0 ≤ eli net p ∧ eli net p < 2 ^ net.length) && !hasI (eli net p) p && (List.range net.length).all fun q => !hasI (eli net p) q || hasI (eli net q) p) := by
  unfold I.NetOk_t I.NetOk_tree
  rcases Nat.lt_or_ge net.length 1 with hlo | hlo
  · rw [cnd_t (by simp; omega), decide_eq_false (by omega : ¬ 1 ≤ net.length)]; rfl
  rw [cnd_f (by simp; omega)]
  rcases Nat.lt_or_ge 6 net.length with hl | hl
  · rw [cnd_t (by simp; omega), decide_eq_false (by omega : ¬ net.length ≤ 6), Bool.and_false]; rfl
  rw [cnd_f (by simp; omega)]
  rw [run_all (run := I.NetOk_run4 net) (len := net.length) (fun p => decide (0 ≤ eli net p ∧ eli net p < 2 ^ net.length) && !hasI (eli net p) p && (List.range net.length).all fun q => !hasI (eli net p) q || hasI (eli net q) p) (by omega) (fun n x hx0 hx1 => by
    simp only [I.NetOk_run4, I.NetOk_step4]
    by_cases hx : x < (net.length : Int)
    · rw [if_pos hx, cnd_t (by simpa using hx), cnd_t (by simp; omega), I.setIn_is hl]
      simp only [optC]
      cases ha : decide (0 ≤ eli net x.toNat ∧ eli net x.toNat < 2 ^ net.length) with
      | false => rfl
      | true =>
        rw [Bool.not_true, cond_false, cnd_t (by simp; omega), I.hasPlace_is hx0]
        simp only [optC]
        cases hb : hasI (eli net x.toNat) x.toNat with
        | true => rfl
        | false =>
          rw [cond_false, I.knownBack_is hl hx0 hx]
          simp only [optC]
          cases hc : (List.range net.length).all fun q => !hasI (eli net x.toNat) q || hasI (eli net q) x.toNat with
          | false => rfl
          | true => simp only [Bool.not_true, Bool.not_false, cond_false, Bool.and_true, cond_true]; rw [i64_wrap (by omega) (by omega)]
    · rw [if_neg hx, cnd_f (by simpa using hx)])]
  simp only [hlo, hl, decide_true, Bool.true_and]
  cases (List.range net.length).all _ <;> rfl
def bitS (s : Int) (p : Nat) : Int := (s.fdiv (2 ^ min p 64)).tmod 2
theorem S.l1In_is {x a b : Int} : S.l1In_t x a b = some (decide (a ≤ x ∧ x ≤ b)) := by
  unfold S.l1In_t S.l1In_tree
  by_cases h : a ≤ x
  · rw [cnd_t (by simpa using h)]; simp [h]
  · rw [cnd_f (by simpa using h)]; simp [h]
theorem S.NetOk_is {net : List Int} : S.NetOk_t net = some (decide (1 ≤ net.length) && decide (net.length ≤ 6) &&
    ((List.range net.length).all fun p => decide (0 ≤ eli net p ∧ eli net p < 2 ^ net.length)) && (List.range net.length).all fun p =>
    (List.range net.length).all fun q => bitS (eli net p) q == bitS (eli net q) p && !(q == p && bitS (eli net p) q == 1)) := by
  unfold S.NetOk_t S.NetOk_tree
  rw [S.l1In_is]
  simp only [optC]
  rcases Nat.lt_or_ge net.length 1 with hlo | hlo
  · rw [decide_eq_false (by omega : ¬ 1 ≤ net.length), decide_eq_false (by omega : ¬ ((1 : Int) ≤ (net.length : Int) ∧ (net.length : Int) ≤ 6))]; rfl
  rcases Nat.lt_or_ge 6 net.length with hl | hl
  · rw [decide_eq_false (by omega : ¬ net.length ≤ 6), decide_eq_false (by omega : ¬ ((1 : Int) ≤ (net.length : Int) ∧ (net.length : Int) ≤ 6)), Bool.and_false]; rfl
  rw [decide_eq_true (by omega : ((1 : Int) ≤ (net.length : Int) ∧ (net.length : Int) ≤ 6)), Bool.not_true, cond_false]
  have e : IntKind.i64.wrap (IntKind.i64.wrap (1 * 2 ^ min (↑net.length : Int).toNat IntKind.i64.bits) - 1) = 2 ^ net.length - 1 := by
    rw [i64_bits, Int.toNat_natCast, Int.one_mul]
    generalize net.length = k at hl
    match k, hl with
    | 0, _ | 1, _ | 2, _ | 3, _ | 4, _ | 5, _ | 6, _ => rw [i64_wrap (n := 2 ^ min _ 64) (by decide) (by decide)]; exact i64_wrap (by decide) (by decide)
  rw [run_all (run := S.NetOk_run4 net) (len := net.length) (fun p => decide (0 ≤ eli net p ∧ eli net p < 2 ^ net.length)) (by omega) (fun n x hx0 hx1 => by
    simp only [S.NetOk_run4, S.NetOk_step4]
    by_cases hx : x < (net.length : Int)
    · rw [if_pos hx, cnd_t (by simpa using hx), cnd_t (by simp; omega), S.l1In_is, e]
      simp only [optC]
      have : decide (0 ≤ eli net x.toNat ∧ eli net x.toNat ≤ 2 ^ net.length - 1) = decide (0 ≤ eli net x.toNat ∧ eli net x.toNat < 2 ^ net.length) := decide_eq_decide.2 (by omega)
      rw [this]
      cases decide (0 ≤ eli net x.toNat ∧ eli net x.toNat < 2 ^ net.length) with
      | false => rfl
      | true => simp only [Bool.not_true, cond_false, cond_true]; rw [i64_wrap (by omega) (by omega)]
    · rw [if_neg hx, cnd_f (by simpa using hx)])]
  have inner : ∀ p : Int, 0 ≤ p → p < net.length → S.NetOk_run12 net p FUEL 0 = some (bif (List.range net.length).all (fun q => bitS (eli net p.toNat) q == bitS (eli net q) p.toNat && !(q == p.toNat && bitS (eli net p.toNat) q == 1)) then .inr () else .inl false) := by
    intro p hp0 hp1
    refine run_all (run := S.NetOk_run12 net p) (len := net.length) _ (by omega) (fun n x hx0 hx1 => ?_)
    simp only [S.NetOk_run12, S.NetOk_step12]
    by_cases hx : x < (net.length : Int)
    · rw [if_pos hx, cnd_t (by simpa using hx), cnd_t (by simp; omega), cnd_f (by simp; omega), cnd_t (by simp; omega), cnd_f (by simp; omega), i64_bits]
      show (bif !(bitS (eli net p.toNat) x.toNat == bitS (eli net x.toNat) p.toNat) then _ else _) = _
      cases ha : (bitS (eli net p.toNat) x.toNat == bitS (eli net x.toNat) p.toNat) with
      | false => rfl
      | true =>
        rw [Bool.not_true, cond_false, Bool.true_and]
        by_cases hxp : x = p
        · subst hxp
          rw [cnd_t (by simp), cnd_t (by simp; omega), cnd_f (by simp; omega), BEq.rfl, Bool.true_and]
          show (bif (bitS (eli net x.toNat) x.toNat == 1) then _ else _) = _
          cases (bitS (eli net x.toNat) x.toNat == 1) with
          | true => rfl
          | false => simp only [cond_false, Bool.not_false, cond_true]; rw [i64_wrap (by omega) (by omega)]
        · rw [cnd_f (by simpa using hxp)]
          have : (x.toNat == p.toNat) = false := by simp; omega
          rw [this, Bool.false_and, Bool.not_false, cond_true, i64_wrap (by omega) (by omega)]
    · rw [if_neg hx, cnd_f (by simpa using hx)]
  rw [run_all (run := S.NetOk_run9 net) (len := net.length) (fun p => (List.range net.length).all fun q => bitS (eli net p) q == bitS (eli net q) p && !(q == p && bitS (eli net p) q == 1)) (by omega) (fun n x hx0 hx1 => by
    simp only [S.NetOk_run9, S.NetOk_step9]
    by_cases hx : x < (net.length : Int)
    · rw [if_pos hx, cnd_t (by simpa using hx), inner x hx0 hx]
      simp only [optC]
      cases (List.range net.length).all fun q => bitS (eli net x.toNat) q == bitS (eli net q) x.toNat && !(q == x.toNat && bitS (eli net x.toNat) q == 1) with
      | false => rfl
      | true => simp only [cond_true, sumC]; rw [i64_wrap (by omega) (by omega)]
    · rw [if_neg hx, cnd_f (by simpa using hx)])]
  simp only [hlo, hl, decide_true, Bool.true_and]
  cases (List.range net.length).all fun p => decide (0 ≤ eli net p ∧ eli net p < 2 ^ net.length) with
  | false => rfl
  | true =>
    simp only [cond_true, sumC, Bool.true_and]
    cases (List.range net.length).all _ <;> rfl
theorem bitS_is {s : Int} (h : 0 ≤ s) (p : Nat) : bitS s p = if hasI s p = true then 1 else 0 := by
  unfold bitS hasI
  have h2 : (0 : Int) < 2 ^ min p 64 := Int.pow_pos (by decide)
  have h3 : 0 ≤ s.fdiv (2 ^ min p 64) := Int.fdiv_nonneg h (by omega)
  rw [Int.tmod_eq_emod_of_nonneg h3]
  by_cases h4 : s.fdiv (2 ^ min p 64) % 2 = 1
  · simp [h4]
  · have : s.fdiv (2 ^ min p 64) % 2 = 0 := by omega
    simp [this]
theorem NetOk_eq {net : List Int} : I.NetOk_t net = S.NetOk_t net := by
  rw [I.NetOk_is, S.NetOk_is]
  congr 1
  rw [Bool.eq_iff_iff]
  simp only [Bool.and_eq_true, List.all_eq_true, List.mem_range, decide_eq_true_eq, Bool.or_eq_true, Bool.not_eq_true', beq_iff_eq, Bool.and_eq_false_iff, beq_eq_false_iff_ne]
  constructor
  · rintro ⟨⟨h1, h2⟩, h3⟩
    refine ⟨⟨⟨h1, h2⟩, fun p hp => (h3 p hp).1.1⟩, fun p hp q hq => ⟨?_, ?_⟩⟩
    · rw [bitS_is (h3 p hp).1.1.1, bitS_is (h3 q hq).1.1.1]
      have a1 := (h3 p hp).2 q hq
      have a2 := (h3 q hq).2 p hp
      cases ha : hasI (eli net p) q <;> cases hb : hasI (eli net q) p <;> simp_all
    · by_cases hqp : q = p
      · subst hqp
        right
        rw [bitS_is (h3 q hq).1.1.1, (h3 q hq).1.2]
        decide
      · exact .inl hqp
  · rintro ⟨⟨⟨h1, h2⟩, h3⟩, h4⟩
    refine ⟨⟨h1, h2⟩, fun p hp => ⟨⟨h3 p hp, ?_⟩, fun q hq => ?_⟩⟩
    · have := (h4 p hp p hp).2
      rw [bitS_is (h3 p hp).1] at this
      cases ha : hasI (eli net p) p with
      | false => rfl
      | true => rw [ha] at this; simp at this
    · have := (h4 p hp q hq).1
      rw [bitS_is (h3 p hp).1, bitS_is (h3 q hq).1] at this
      cases ha : hasI (eli net p) q <;> cases hb : hasI (eli net q) p <;> simp_all
end Go.Proofs.Ytcfajdlkfpdonaa
/- What the small functions on nets and sets come to, in natural numbers. Conditions: those of each theorem. -/
namespace Go.Proofs.Ytcfajdlkfpdonaa
open D Go.RowKit
set_option linter.unusedVariables false
set_option linter.unusedSimpArgs false


theorem hasI_nat (s p : Nat) (hp : p ≤ 64) : hasI (s : Int) p = s.testBit p := by
  have h := shr_is s p hp
  unfold hasI
  rw [bits64, Int.toNat_natCast] at h
  rw [h, testBit_div, Bool.eq_iff_iff, beq_iff_eq, beq_iff_eq]
  omega
theorem two_pow_cast (n : Nat) : ((2 : Int) ^ n) = ((2 ^ n : Nat) : Int) := by simp
theorem Ok.of {net : List Int} (h1 : 1 ≤ net.length) (h2 : net.length ≤ 6) (h3 : ∀ p, p < net.length → (0 ≤ eli net p ∧ eli net p < 2 ^ net.length) ∧ hasI (eli net p) p = false ∧ ∀ q, q < net.length → hasI (eli net p) q = true → hasI (eli net q) p = true) : Ok net := by
  have hel : ∀ k, k < net.length → eli net k = (nb net k : Int) := fun k hk => by
    have := (h3 k hk).1.1
    show _ = ((eli net k).toNat : Int)
    omega
  refine ⟨h1, h2, hel, fun k hk => ?_, fun j k hj hk => ?_, fun k hk => ?_⟩
  · have := (h3 k hk).1.2
    rw [hel k hk, two_pow_cast] at this
    omega
  · have a1 := (h3 k hk).2.2 j hj
    have a2 := (h3 j hj).2.2 k hk
    rw [hel k hk, hel j hj, hasI_nat _ _ (by omega), hasI_nat _ _ (by omega)] at a1 a2
    cases hx : (nb net k).testBit j with
    | true => exact (a1 hx).symm
    | false => cases hy : (nb net j).testBit k with
      | false => rfl
      | true => rw [a2 hy] at hx; cases hx
  · have := (h3 k hk).2.1
    rw [hel k hk, hasI_nat _ _ (by omega)] at this
    exact this
theorem NetOk_cases (net : List Int) : (Ok net ∧ I.NetOk_t net = some true ∧ S.NetOk_t net = some true) ∨ (¬ Ok net ∧ I.NetOk_t net = some false ∧ S.NetOk_t net = some false) := by
  rw [← NetOk_eq, I.NetOk_is]
  generalize hb : (decide (1 ≤ net.length) && decide (net.length ≤ 6) && (List.range net.length).all fun p => decide (0 ≤ eli net p ∧ eli net p < 2 ^ net.length) && !hasI (eli net p) p && (List.range net.length).all fun q => !hasI (eli net p) q || hasI (eli net q) p) = b
  cases b with
  | true =>
    left
    simp only [Bool.and_eq_true, List.all_eq_true, List.mem_range, decide_eq_true_eq, Bool.or_eq_true, Bool.not_eq_true'] at hb
    refine ⟨Ok.of hb.1.1 hb.1.2 fun p hp => ⟨(hb.2 p hp).1.1, (hb.2 p hp).1.2, fun q hq hx => ?_⟩, rfl, rfl⟩
    rcases (hb.2 p hp).2 q hq with h | h
    · rw [h] at hx; cases hx
    · exact h
  | false =>
    right
    refine ⟨fun h => ?_, rfl, rfl⟩
    have : (decide (1 ≤ net.length) && decide (net.length ≤ 6) && (List.range net.length).all fun p => decide (0 ≤ eli net p ∧ eli net p < 2 ^ net.length) && !hasI (eli net p) p && (List.range net.length).all fun q => !hasI (eli net p) q || hasI (eli net q) p) = true := by
      simp only [Bool.and_eq_true, List.all_eq_true, List.mem_range, decide_eq_true_eq, Bool.or_eq_true, Bool.not_eq_true']
      have hhi := h.hi
      refine ⟨⟨h.lo, h.hi⟩, fun p hp => ⟨⟨?_, ?_⟩, fun q hq => ?_⟩⟩
      · rw [show eli net p = (nb net p : Int) from h.el p hp, two_pow_cast]
        have := h.lt p hp
        omega
      · rw [show eli net p = (nb net p : Int) from h.el p hp, hasI_nat _ _ (by omega)]; exact h.irr p hp
      · rw [show eli net p = (nb net p : Int) from h.el p hp, show eli net q = (nb net q : Int) from h.el q hq, hasI_nat _ _ (by omega), hasI_nat _ _ (by omega), h.sym q p hq hp]
        cases (nb net q).testBit p <;> simp
    rw [hb] at this; cases this
theorem Ok.eli {net : List Int} (h : Ok net) {k : Nat} (hk : k < net.length) : D.eli net k = (nb net k : Int) := h.el k hk

/-! ### The program's small functions -/
theorem I.hasPlace_n (s p : Nat) (hp : p ≤ 64) : I.hasPlace_t s p = some (s.testBit p) := by
  rw [I.hasPlace_is (by omega), Int.toNat_natCast, hasI_nat s p hp]
theorem I.setIn_n {net : List Int} (h : Ok net) (s : Int) : I.setIn_t net s = some (decide (0 ≤ s ∧ s < 2 ^ net.length)) := I.setIn_is h.hi
theorem I.placeIn_n (net : List Int) (p : Int) : I.placeIn_t net p = some (decide (0 ≤ p ∧ p < net.length)) := by
  unfold I.placeIn_t I.placeIn_tree
  by_cases h : 0 ≤ p
  · rw [cnd_t (by simpa using h)]; simp [h]
  · rw [cnd_f (by simpa using h)]; simp [h]
theorem I.allOf_n {net : List Int} (h : Ok net) : I.allOf_t net = some ((allOf net : Nat) : Int) := by
  unfold I.allOf_t I.allOf_tree
  have h2 := h.pow
  have h3 : 0 < 2 ^ net.length := Nat.two_pow_pos _
  rw [one_shl (by have := h.hi; omega), sub1_nat (by omega) (by omega)]
  rfl
theorem I.ballIn_n {net : List Int} (h : Ok net) {p : Nat} (hp : p < net.length) : I.ballIn_t net p = some ((ball net p : Nat) : Int) := by
  unfold I.ballIn_t I.ballIn_tree
  have h6 := h.hi
  have h64 := h.lt64 hp
  rw [cnd_t (by simp; omega), cnd_f (by simp), one_shl (by omega), Int.toNat_natCast, h.eli hp, i64_or_nat _ _ (by omega) (pow2_lt (by omega))]
  rfl
theorem fold_balls {net : List Int} (h : Ok net) {s : Nat} (hs : s < 2 ^ net.length) : fold net.length (fun t k => if s.testBit k = true then t ||| ball net k else t) 0 = seen net s := h.seen_balls hs
theorem I.seenIn_n {net : List Int} (h : Ok net) {s : Nat} (hs : s < 2 ^ net.length) : I.seenIn_t net s = some ((seen net s : Nat) : Int) := by
  unfold I.seenIn_t I.seenIn_tree
  have h6 := h.hi
  have h64 := h.pow
  have := (run_for (run := I.seenIn_run3 net s) (len := net.length) (fun k (t : Nat) => ((t : Int), (k : Int))) (fun t k => if s.testBit k = true then t ||| ball net k else t) (fun t => (t : Int)) (fun k t => t < 2 ^ net.length) (by omega) (fun n k t hk ht => ?_) (fun n t ht => ?_) (t0 := 0) (Nat.two_pow_pos _)).1
  · rw [fold_balls h hs] at this
    exact congrArg (fun o => optC o (fun q => some q) none) this
  · simp only [I.seenIn_run3, I.seenIn_step3]
    rw [cnd_t (by simp; omega), I.hasPlace_n _ _ (by omega)]
    simp only [optC]
    have hb := h.ball_lt hk
    cases hbit : s.testBit k with
    | true =>
      rw [cond_true, I.ballIn_n h hk, if_pos rfl]
      simp only
      rw [i64_or_nat _ _ (by omega) (by omega), add1_nat (by omega)]
      exact ⟨rfl, Nat.or_lt_two_pow ht hb⟩
    | false =>
      rw [cond_false, if_neg (by simp), add1_nat (by omega)]
      exact ⟨rfl, ht⟩
  · simp only [I.seenIn_run3, I.seenIn_step3]
    rw [cnd_f (by simp)]
theorem size_fold (s : Nat) : fold 6 (fun t k => t + (s.testBit k).toNat) 0 = size s := by
  unfold size card
  congr 1
  funext t k
  cases s.testBit k <;> simp
theorem I.sizeOf_n (s : Nat) : I.sizeOf_t s = some ((size s : Nat) : Int) := by
  unfold I.sizeOf_t I.sizeOf_tree
  have := (run_for (run := I.sizeOf_run3 s) (len := 6) (fun k (t : Nat) => ((t : Int), (k : Int))) (fun t k => t + (s.testBit k).toNat) (fun t => (t : Int)) (fun k t => t ≤ k) (by omega) (fun n k t hk ht => ?_) (fun n t ht => ?_) (t0 := 0) (Nat.le_refl _)).1
  · rw [size_fold] at this
    exact congrArg (fun o => optC o (fun q => some q) none) this
  · simp only [I.sizeOf_run3, I.sizeOf_step3]
    have hb : (s.testBit k).toNat ≤ 1 := by cases s.testBit k <;> decide
    rw [cnd_t (by simp; omega), cnd_f (by simp), bit_shr1 _ _ (by omega), add_nat (by omega), add1_nat (by omega)]
    exact ⟨rfl, by omega⟩
  · simp only [I.sizeOf_run3, I.sizeOf_step3]
    rw [cnd_f (by simp)]
/-! ### The model's small functions -/
theorem S.l1Near_n {net : List Int} (h : Ok net) (s : Nat) : S.l1Near_t net s = some ((near net s : Nat) : Int) := by
  unfold S.l1Near_t S.l1Near_tree
  have h6 := h.hi
  have h64 := h.pow
  have := (run_for (run := S.l1Near_run3 net s) (len := net.length) (fun k (t : Nat) => ((t : Int), (k : Int))) (fun t k => if s.testBit k = true then t ||| nb net k else t) (fun t => (t : Int)) (fun k t => t < 2 ^ net.length) (by omega) (fun n k t hk ht => ?_) (fun n t ht => ?_) (t0 := 0) (Nat.two_pow_pos _)).1
  · exact congrArg (fun o => optC o (fun q => some q) none) this
  · simp only [S.l1Near_run3, S.l1Near_step3]
    have hb := h.lt k hk
    rw [cnd_t (by simp; omega), cnd_f (by simp), bit_shr _ _ (by omega), bool_eq1]
    cases hbit : s.testBit k with
    | true =>
      rw [cond_true, cnd_t (by simp; omega), Int.toNat_natCast, h.eli hk, if_pos rfl]
      rw [i64_or_nat _ _ (by omega) (by omega), add1_nat (by omega)]
      exact ⟨rfl, Nat.or_lt_two_pow ht hb⟩
    | false =>
      rw [cond_false, if_neg (by simp), add1_nat (by omega)]
      exact ⟨rfl, ht⟩
  · simp only [S.l1Near_run3, S.l1Near_step3]
    rw [cnd_f (by simp)]
theorem all_shl {net : List Int} (h : Ok net) : IntKind.i64.wrap (IntKind.i64.wrap (1 * 2 ^ min (↑net.length : Int).toNat IntKind.i64.bits) - 1) = ((allOf net : Nat) : Int) := by
  have h2 := h.pow
  have h3 : 0 < 2 ^ net.length := Nat.two_pow_pos _
  rw [one_shl (by have := h.hi; omega), sub1_nat (by omega) (by omega)]
  rfl
theorem S.l1SetOk_n {net : List Int} (h : Ok net) (he : S.NetOk_t net = some true) (s : Int) : S.l1SetOk_t net s = some (decide (0 ≤ s ∧ s < 2 ^ net.length)) := by
  unfold S.l1SetOk_t S.l1SetOk_tree
  rw [he]
  simp only [optC]
  rw [cond_true, all_shl h, S.l1In_is]
  simp only
  congr 1
  rw [decide_eq_decide, two_pow_cast]
  have : 0 < 2 ^ net.length := Nat.two_pow_pos _
  unfold allOf
  omega
theorem l1Size_spec : ∀ s, s < 64 → size s = s % 2 + size (s / 2) := by decide +kernel
theorem S.l1Size_n {s : Nat} (hs : s < 64) : S.l1Size_t s = some ((size s : Nat) : Int) := by
  unfold S.l1Size_t S.l1Size_tree
  have : S.l1Size_run2 FUEL ((s : Int), 0) = some ((size s : Nat) : Int) := by
    refine run_fuel (run := S.l1Size_run2) (fun q => ∃ a t : Nat, q = ((a : Int), (t : Int)) ∧ a < 64 ∧ t + size a = size s) (fun q => q.1.toNat) (fun _ => ((size s : Nat) : Int)) ?_ ⟨s, 0, rfl, hs, by omega⟩ (by simp only [Int.toNat_natCast]; omega)
    rintro n _ ⟨a, t, rfl, ha, ht⟩
    have hz := size_le s
    simp only [S.l1Size_run2, S.l1Size_step2]
    by_cases h0 : a = 0
    · subst h0
      left
      rw [cnd_f (by simp)]
      have : size 0 = 0 := by decide
      rw [← ht, this]; rfl
    · right
      have h1 := l1Size_spec a ha
      rw [cnd_t (by simp; omega), div2_nat (by omega), tmod2_nat, add_nat (by omega)]
      exact ⟨_, rfl, ⟨_, _, rfl, by omega, by omega⟩, by simp only [Int.toNat_natCast]; omega, trivial⟩
  rw [this]; rfl
theorem set_cases {net : List Int} (h : Ok net) (s : Int) : (∃ t : Nat, s = (t : Int) ∧ t < 2 ^ net.length ∧ decide (0 ≤ s ∧ s < 2 ^ net.length) = true) ∨ decide (0 ≤ s ∧ s < 2 ^ net.length) = false := by
  by_cases hs : 0 ≤ s ∧ s < 2 ^ net.length
  · left
    refine ⟨s.toNat, by omega, ?_, by simpa using hs⟩
    have := hs.2
    rw [two_pow_cast] at this
    omega
  · right; simpa using hs
theorem place_cases (net : List Int) (p : Int) : (∃ t : Nat, p = (t : Int) ∧ t < net.length ∧ decide (0 ≤ p ∧ p < net.length) = true) ∨ decide (0 ≤ p ∧ p < net.length) = false := by
  by_cases hs : 0 ≤ p ∧ p < net.length
  · exact .inl ⟨p.toNat, by omega, by omega, by simpa using hs⟩
  · right; simpa using hs
end Go.Proofs.Ytcfajdlkfpdonaa
/- What the functions on watches come to. Conditions: those of each theorem. -/
namespace Go.Proofs.Ytcfajdlkfpdonaa
open D Go.RowKit
set_option linter.unusedVariables false
set_option linter.unusedSimpArgs false


theorem allOf_succ (net : List Int) : allOf net + 1 = 2 ^ net.length := by
  have : 0 < 2 ^ net.length := Nat.two_pow_pos _
  unfold allOf; omega
theorem size_le_len {net : List Int} (h : Ok net) {s : Nat} (hs : s < 2 ^ net.length) : size s ≤ net.length := by
  rw [size_cnt h hs]; exact cnt_le _ _
/-- The fewest guards that watch. -/
def fewest (net : List Int) : Nat := fold (2 ^ net.length) (fun t s => if W net s = true then (if size s < t then size s else t) else t) net.length
/-- The first of the smallest watches. -/
structure First (net : List Int) (r : Nat) : Prop where
  lt : r < 2 ^ net.length
  w : W net r = true
  le : ∀ s, s < 2 ^ net.length → W net s = true → size r ≤ size s
  first : ∀ s, s < r → W net s = true → size r < size s
theorem First.few {net : List Int} {r : Nat} (h : First net r) : Few net (size r) := ⟨⟨r, h.lt, h.w, rfl⟩, h.le⟩
theorem First.uniq {net : List Int} {r q : Nat} (h : First net r) (g : First net q) : r = q := by
  have h1 := h.few.uniq g.few
  rcases Nat.lt_trichotomy r q with hl | hl | hl
  · have := g.first r hl h.w; omega
  · exact hl
  · have := h.first q hl g.w; omega
def smallest (net : List Int) : Nat := fold (allOf net) (fun t s => if (decide (size s < size t) && W net s) = true then s else t) (allOf net)
theorem pow_shl {net : List Int} (h : Ok net) : IntKind.i64.wrap (1 * 2 ^ min (↑net.length : Int).toNat IntKind.i64.bits) = ((2 ^ net.length : Nat) : Int) := one_shl (by have := h.hi; omega)
/-- A search that counts up. -/
theorem run_search {D F : Type} {run : Nat → Int → Option (D ⊕ F)} {len : Nat} (f : Nat → Option D) (e : F) (hl : len ≤ 1000000)
    (h : ∀ n k, k < len → run (n + 1) (k : Int) = (match f k with | some d => some (.inl d) | none => run n ((k + 1 : Nat) : Int))) (he : ∀ n, run (n + 1) (len : Int) = some (.inr e)) :
    run FUEL 0 = some (match find len f with | some d => .inl d | none => .inr e) := by
  refine run_find (run := run) (len := len) f e (by omega) (fun n x h0 h1 => ?_)
  obtain ⟨k, rfl⟩ : ∃ k : Nat, x = k := ⟨x.toNat, by omega⟩
  by_cases hk : k < len
  · rw [if_pos (by omega), h n k hk, Int.toNat_natCast]
    rfl
  · obtain rfl : k = len := by omega
    rw [if_neg (by omega), he]
/-! ### Least watches -/
end Go.Proofs.Ytcfajdlkfpdonaa
/- What the functions of chapter 1 come to. Conditions: those of each theorem. -/
namespace Go.Proofs.Ytcfajdlkfpdonaa
open D Go.RowKit
set_option linter.unusedVariables false
set_option linter.unusedSimpArgs false


theorem I.BallOf_x {net : List Int} (e : I.NetOk_t net = some false) (p : Int) : I.BallOf_t net p = some (-1) := by
  unfold I.BallOf_t I.BallOf_tree; rw [e]; rfl
theorem I.BallOf_o {net : List Int} (e : I.NetOk_t net = some true) {p : Int} (hp : decide (0 ≤ p ∧ p < net.length) = false) : I.BallOf_t net p = some (-1) := by
  unfold I.BallOf_t I.BallOf_tree; rw [e, I.placeIn_n, hp]; rfl
theorem I.BallOf_n {net : List Int} (h : Ok net) (e : I.NetOk_t net = some true) {p : Nat} (hp : p < net.length) : I.BallOf_t net p = some ((ball net p : Nat) : Int) := by
  unfold I.BallOf_t I.BallOf_tree
  rw [e, I.placeIn_n, show decide (0 ≤ (p : Int) ∧ (p : Int) < net.length) = true by simp; omega, I.ballIn_n h hp]
  rfl
theorem l1In_place {net : List Int} (h : Ok net) (p : Int) : decide (0 ≤ p ∧ p ≤ IntKind.i64.wrap ((↑net.length : Int) - 1)) = decide (0 ≤ p ∧ p < net.length) := by
  have h1 := h.lo
  have h6 := h.hi
  rw [i64_wrap (by omega) (by omega), decide_eq_decide]
  omega
theorem set_in {net : List Int} {s : Nat} (hs : s < 2 ^ net.length) : decide (0 ≤ (s : Int) ∧ (s : Int) < 2 ^ net.length) = true := by
  rw [two_pow_cast, decide_eq_true_eq]; omega
theorem S.SeenBy_n {net : List Int} (h : Ok net) (e : S.NetOk_t net = some true) {s : Nat} (hs : s < 2 ^ net.length) : S.SeenBy_t net s = some ((seen net s : Nat) : Int) := by
  unfold S.SeenBy_t S.SeenBy_tree
  have h1 := h.near_lt s
  have h64 := h.pow
  rw [S.l1SetOk_n h e, set_in hs, S.l1Near_n h]
  simp only [optC, Bool.not_true, cond_false]
  rw [i64_or_nat _ _ (by omega) (by omega)]
  rfl

/-! ### Wires -/
def ends (net : List Int) : Nat := sumN net.length (fun k => size (nb net k))
def wires (net : List Int) : Nat := ends net / 2
theorem I.WiresOf_n {net : List Int} (h : Ok net) (e : I.NetOk_t net = some true) : I.WiresOf_t net = some ((wires net : Nat) : Int) := by
  unfold I.WiresOf_t I.WiresOf_tree
  have h6 := h.hi
  rw [e]
  have := run_for (run := I.WiresOf_run5 net) (len := net.length) (fun k (t : Nat) => ((t : Int), (k : Int))) (fun t k => t + size (nb net k)) (fun t => (t : Int)) (fun k t => t ≤ 6 * k) (by omega) (fun n k t hk ht => ?_) (fun n t ht => ?_) (t0 := 0) (by omega)
  · obtain ⟨this, hb⟩ := this
    simp only [optC, Bool.not_true, cond_false]
    rw [show I.WiresOf_run5 net FUEL (0, 0) = _ from this]
    simp only
    rw [fold_sum] at hb
    rw [fold_sum, div2_nat (by omega)]
    rfl
  · simp only [I.WiresOf_run5, I.WiresOf_step5]
    have hz := size_le (nb net k)
    rw [cnd_t (by simp; omega), cnd_t (by simp; omega), Int.toNat_natCast, h.eli hk, I.sizeOf_n]
    simp only [optC]
    rw [add_nat (by omega), add1_nat (by omega)]
    exact ⟨rfl, by omega⟩
  · simp only [I.WiresOf_run5, I.WiresOf_step5]
    rw [cnd_f (by simp)]
/-! ### Parts -/
theorem fold_steps {net : List Int} (h : Ok net) (m s : Nat) : fold m (fun t _ => seen net t) s = steps net (allOf net) m s := by
  induction m with
  | zero => rfl
  | succ m ih => rw [fold_succ, ih]; show seen net _ = grow net _ _; rw [h.grow_all]
theorem I.partIn_n {net : List Int} (h : Ok net) {p : Nat} (hp : p < net.length) : I.partIn_t net p = some ((comp net p : Nat) : Int) := by
  unfold I.partIn_t I.partIn_tree
  have h6 := h.hi
  have hpl : 2 ^ p < 2 ^ net.length := Nat.pow_lt_pow_right (by omega) hp
  have := (run_for (run := I.partIn_run3 net) (len := net.length - 1) (fun k (t : Nat) => ((t : Int), ((k + 1 : Nat) : Int))) (fun t k => seen net t) (fun t => (t : Int)) (fun k t => t < 2 ^ net.length) (by omega) (fun n k t hk ht => ?_) (fun n t ht => ?_) (t0 := 2 ^ p) hpl).1
  · rw [cnd_f (by simp), one_shl (by omega), show I.partIn_run3 net FUEL (((2 ^ p : Nat) : Int), 1) = _ from this, fold_steps h, h.comp_eq hp (by omega)]
    rfl
  · simp only [I.partIn_run3, I.partIn_step3]
    rw [cnd_t (by simp; omega), I.seenIn_n h ht]
    simp only [optC]
    rw [add1_nat (by omega)]
    exact ⟨rfl, h.seen_lt ht⟩
  · simp only [I.partIn_run3, I.partIn_step3]
    rw [cnd_f (by simp; omega)]
theorem root_reached {net : List Int} (h : Ok net) {k : Nat} (hk : k < net.length) : root net k = true ↔ ∀ i, i < k → (comp net i).testBit k = false := by
  rw [root_iff]
  constructor
  · intro ha i hi; rw [h.comp_symm (by omega) hk]; exact ha i hi
  · intro ha i hi; rw [h.comp_symm hk (by omega)]; exact ha i hi
theorem I.PartMany_n {net : List Int} (h : Ok net) (e : I.NetOk_t net = some true) : I.PartMany_t net = some ((parts net : Nat) : Int) := by
  unfold I.PartMany_t I.PartMany_tree
  have h6 := h.hi
  have h64 := h.pow
  rw [e]
  have := run_for (run := I.PartMany_run6 net) (len := net.length) (fun k (t : Nat × Nat) => ((t.1 : Int), (t.2 : Int), (k : Int))) (fun t k => if t.2.testBit k = true then t else (t.1 + 1, t.2 ||| comp net k)) (fun t => (t.1 : Int))
    (fun k t => t.1 = cnt k (root net) ∧ t.2 < 2 ^ net.length ∧ ∀ j, t.2.testBit j = true ↔ ∃ i, i < k ∧ (comp net i).testBit j = true) (by omega) (fun n k t hk ht => ?_) (fun n t ht => ?_) (t0 := (0, 0)) ⟨rfl, Nat.two_pow_pos _, fun j => by simp⟩
  · rw [parts_cnt, ← this.2.1]
    simp only [optC, Bool.not_true, cond_false]
    rw [show I.PartMany_run6 net FUEL (0, 0, 0) = _ from this.1]
  · obtain ⟨a, b⟩ := t
    obtain ⟨h1, h2, h3⟩ := ht
    simp only at h1 h2 h3
    have hcl := cnt_le k (root net)
    have hc := h.comp_lt hk
    have hroot : root net k = !b.testBit k := by
      rw [Bool.eq_iff_iff, root_reached h hk, Bool.not_eq_true']
      constructor
      · intro ha
        cases hb : b.testBit k with
        | false => rfl
        | true =>
          obtain ⟨i, hi, hx⟩ := (h3 k).1 hb
          rw [ha i hi] at hx; cases hx
      · intro hb i hi
        cases hx : (comp net i).testBit k with
        | false => rfl
        | true => rw [(h3 k).2 ⟨i, hi, hx⟩] at hb; cases hb
    simp only [I.PartMany_run6, I.PartMany_step6]
    rw [cnd_t (by simp; omega), I.hasPlace_n _ _ (by omega)]
    simp only [optC]
    cases hb : b.testBit k with
    | true =>
      simp only [Bool.not_true, cond_false, if_true]
      rw [add1_nat (by omega)]
      refine ⟨rfl, ?_, h2, fun j => ?_⟩
      · show a = cnt k (root net) + (root net k).toNat
        rw [hroot, hb]; simpa using h1
      · rw [h3 j]
        constructor
        · rintro ⟨i, hi, hx⟩; exact ⟨i, by omega, hx⟩
        · rintro ⟨i, hi, hx⟩
          by_cases hik : i = k
          · subst hik
            obtain ⟨q, hq, hqx⟩ := (h3 i).1 hb
            have := h.comp_same (by omega) hk hqx
            exact ⟨q, hq, by rw [this]; exact hx⟩
          · exact ⟨i, by omega, hx⟩
    | false =>
      simp only [Bool.not_false, cond_true, Bool.false_eq_true, if_false]
      rw [I.partIn_n h hk]
      simp only
      rw [add1_nat (by omega), add1_nat (by omega), i64_or_nat _ _ (by omega) (by omega)]
      refine ⟨rfl, ?_, Nat.or_lt_two_pow h2 hc, fun j => ?_⟩
      · show a + 1 = cnt k (root net) + (root net k).toNat
        rw [hroot, hb, h1]; rfl
      · rw [Nat.testBit_or, Bool.or_eq_true, h3 j]
        constructor
        · rintro (⟨i, hi, hx⟩ | hx)
          · exact ⟨i, by omega, hx⟩
          · exact ⟨k, by omega, hx⟩
        · rintro ⟨i, hi, hx⟩
          by_cases hik : i = k
          · subst hik; exact .inr hx
          · exact .inl ⟨i, by omega, hx⟩
  · simp only [I.PartMany_run6, I.PartMany_step6]
    rw [cnd_f (by simp)]
/-! ### Lone places -/
def lone (net : List Int) : Nat := orN net.length (fun k => nb net k == 0) (fun k => 2 ^ k)
end Go.Proofs.Ytcfajdlkfpdonaa
/- Wires and parts: plain facts. Conditions: those of each theorem. -/
namespace Go.Proofs.Ytcfajdlkfpdonaa
set_option linter.unusedVariables false
set_option linter.unusedSimpArgs false

theorem nb_size {net : List Int} (h : Ok net) {k : Nat} (hk : k < net.length) : size (nb net k) = sumN net.length (fun j => ((nb net k).testBit j).toNat) := size_cnt h (h.lt k hk)
theorem ends_is {net : List Int} (h : Ok net) : ends net = sumN net.length (fun k => sumN net.length (fun j => ((nb net k).testBit j).toNat)) := sumN_congr fun k hk => nb_size h hk
/-- Each wire has two ends. -/
theorem ends_wires {net : List Int} (h : Ok net) : ends net = 2 * wires net := by
  unfold wires
  have := sumN_sym (n := net.length) (a := fun k j => ((nb net k).testBit j).toNat) (fun k j hk hj => by rw [h.sym j k hj hk])
  rw [ends_is h, this, sumN_congr (f := fun k => ((nb net k).testBit k).toNat) (g := fun _ => 0) (fun k hk => by rw [h.irr k hk]; rfl), sumN_zero]
  omega
theorem ball_size {net : List Int} (h : Ok net) {k : Nat} (hk : k < net.length) : size (ball net k) = size (nb net k) + 1 := bits_or _ (h.lt64 hk) k (by have := h.hi; omega) (h.irr k hk)
theorem balls_sum {net : List Int} (h : Ok net) : sumN net.length (fun k => size (ball net k)) = 2 * wires net + net.length := by
  rw [sumN_congr (g := fun k => size (nb net k) + 1) (fun k hk => ball_size h hk), sumN_add, sumN_const, ← ends_wires h]
  unfold ends; omega
theorem cnt_below (N m : Nat) (hm : m ≤ N) : cnt N (fun i => decide (i < m)) = m := by
  induction N with
  | zero => obtain rfl : m = 0 := by omega
            rfl
  | succ N ih =>
    show cnt N (fun i => decide (i < m)) + (decide (N < m)).toNat = m
    by_cases hmN : m ≤ N
    · rw [ih hmN]; simp; omega
    · obtain rfl : m = N + 1 := by omega
      rw [cnt_congr (q := fun _ => true) (fun k hk => by simp; omega), cnt_true]; simp
/-- After m steps from the least places of the parts. -/
def lvl (net : List Int) (m k : Nat) : Bool := (List.range net.length).any fun r => root net r && (steps net (allOf net) m (2 ^ r)).testBit k
theorem lvl_iff {net : List Int} {m k : Nat} : lvl net m k = true ↔ ∃ r, r < net.length ∧ root net r = true ∧ (steps net (allOf net) m (2 ^ r)).testBit k = true := by
  unfold lvl
  simp only [List.any_eq_true, List.mem_range, Bool.and_eq_true]
theorem lvl_succ {net : List Int} {m k : Nat} (h : lvl net m k = true) : lvl net (m + 1) k = true := by
  obtain ⟨r, a, b, c⟩ := lvl_iff.1 h
  exact lvl_iff.2 ⟨r, a, b, (grow_testBit _ _ _ _).2 (.inl c)⟩
theorem lvl_mono {net : List Int} {m m' k : Nat} (hm : m ≤ m') (h : lvl net m k = true) : lvl net m' k = true := by
  induction m' with
  | zero => obtain rfl : m = 0 := by omega
            exact h
  | succ m' ih =>
    by_cases he : m = m' + 1
    · rw [← he]; exact h
    · exact lvl_succ (ih (by omega))
def lev (net : List Int) (k : Nat) : Nat := cnt 6 (fun m => !lvl net m k)
theorem root_of {net : List Int} (h : Ok net) {k : Nat} (hk : k < net.length) : ∃ r, r ≤ k ∧ root net r = true ∧ comp net r = comp net k := by
  have key : ∀ m, m ≤ k → (∃ r, r ≤ k ∧ root net r = true ∧ comp net r = comp net k) ∨ ∀ j, j < m → (comp net k).testBit j = false := by
    intro m
    induction m with
    | zero => intro _; right; intro j hj; omega
    | succ m ih =>
      intro hm
      rcases ih (by omega) with h1 | h1
      · exact .inl h1
      · cases hb : (comp net k).testBit m with
        | true =>
          left
          have he := h.comp_same hk (by omega) hb
          exact ⟨m, by omega, root_iff.2 fun j hj => by rw [← he]; exact h1 j hj, he.symm⟩
        | false =>
          right
          intro j hj
          by_cases hjm : j = m
          · rw [hjm]; exact hb
          · exact h1 j (by omega)
  rcases key k (Nat.le_refl _) with h1 | h1
  · exact h1
  · exact ⟨k, Nat.le_refl _, root_iff.2 h1, rfl⟩
theorem lvl_six {net : List Int} (h : Ok net) {k : Nat} (hk : k < net.length) : lvl net 6 k = true := by
  obtain ⟨r, hr, hroot, he⟩ := root_of h hk
  refine lvl_iff.2 ⟨r, by omega, hroot, ?_⟩
  have e2 : comp net r = steps net (allOf net) 6 (2 ^ r) := (h.comp_eq (by omega) (by have := h.hi; omega)).symm
  rw [← e2, he]
  exact h.comp_self hk
/-- Each place that is not the least one of its part has a neighbour that is nearer. -/
theorem nearer {net : List Int} (h : Ok net) {k : Nat} (hk : k < net.length) (hr : root net k = false) : ∃ j, j < net.length ∧ (nb net k).testBit j = true ∧ lev net j < lev net k := by
  have h0 : lvl net 0 k = false := by
    cases hb : lvl net 0 k with
    | false => rfl
    | true =>
      obtain ⟨r, a, b, c⟩ := lvl_iff.1 hb
      have : r = k := by
        have c' : (2 ^ r).testBit k = true := c
        rw [testBit_pow] at c'; simpa using c'
      rw [this] at b; rw [b] at hr; cases hr
  have hex : ∀ m, m ≤ 6 → lvl net m k = true → ∃ q, q < m ∧ lvl net q k = false ∧ lvl net (q + 1) k = true := by
    intro m
    induction m with
    | zero => intro _ hb; rw [h0] at hb; cases hb
    | succ m ih =>
      intro hm hb
      cases hc : lvl net m k with
      | false => exact ⟨m, by omega, hc, hb⟩
      | true => obtain ⟨q, a, b⟩ := ih (by omega) hc; exact ⟨q, by omega, b⟩
  obtain ⟨q, hq, hqf, hqt⟩ := hex 6 (Nat.le_refl _) (lvl_six h hk)
  obtain ⟨r, a, b, c⟩ := lvl_iff.1 hqt
  rcases (grow_testBit _ _ _ _).1 c with c1 | ⟨⟨j, hj, c1, c2⟩, _⟩
  · rw [lvl_iff.2 ⟨r, a, b, c1⟩] at hqf; cases hqf
  · refine ⟨j, hj, by rw [h.sym j k hj hk]; exact c2, ?_⟩
    have hjl : lvl net q j = true := lvl_iff.2 ⟨r, a, b, c1⟩
    have h1 : lev net j ≤ q := by
      have := cnt_mono (n := 6) (p := fun m => !lvl net m j) (q := fun i => decide (i < q)) (fun m hm hp => by
        have hp' : lvl net m j = false := by simpa using hp
        rw [decide_eq_true_eq]
        refine Classical.byContradiction fun hc => ?_
        rw [lvl_mono (by omega) hjl] at hp'; cases hp')
      rw [cnt_below 6 q (by omega)] at this
      exact this
    have h2 : q + 1 ≤ lev net k := by
      have := cnt_mono (n := 6) (p := fun i => decide (i < q + 1)) (q := fun m => !lvl net m k) (fun m hm hp => by
        have hp' : m < q + 1 := by simpa using hp
        cases hx : lvl net m k with
        | false => rfl
        | true => rw [lvl_mono (by omega) hx] at hqf; cases hqf)
      rw [cnt_below 6 (q + 1) (by omega)] at this
      exact this
    omega
end Go.Proofs.Ytcfajdlkfpdonaa
/- Guards that are needed, guards apart, the chain of numbers: plain facts. Conditions: those of each theorem. -/
namespace Go.Proofs.Ytcfajdlkfpdonaa
set_option linter.unusedVariables false
set_option linter.unusedSimpArgs false

theorem not_true {b : Bool} (h : ¬ b = true) : b = false := by cases b with
  | true => exact absurd rfl h
  | false => rfl
theorem sees_self (net : List Int) (k : Nat) : (ball net k).testBit k = true := (ball_testBit _ _ _).2 (.inr rfl)
theorem sees_lt {net : List Int} (h : Ok net) {j k : Nat} (hk : k < net.length) (hs : (ball net k).testBit j = true) : j < net.length := testBit_lt (h.ball_lt hk) hs
theorem seen_balls {net : List Int} (h : Ok net) {s : Nat} (hs : s < 2 ^ net.length) {j : Nat} : (seen net s).testBit j = true ↔ ∃ k, k < net.length ∧ s.testBit k = true ∧ (ball net k).testBit j = true := by
  rw [← h.seen_balls hs, orN_testBit]
theorem in_lt {net : List Int} {s k : Nat} (hs : s < 2 ^ net.length) (hk : s.testBit k = true) : k < net.length := testBit_lt hs hk

/-! ### Private places -/
def priv (net : List Int) (s g : Nat) : Nat := minus (ball net g) (seen net (s - 2 ^ g))
theorem zero_iff {a : Nat} : a = 0 ↔ ∀ j, a.testBit j = false := by
  constructor
  · rintro rfl j; exact Nat.zero_testBit j
  · intro ha; exact Nat.eq_of_testBit_eq fun j => by rw [ha j, Nat.zero_testBit]
theorem pos_iff {a : Nat} : a ≠ 0 ↔ ∃ j, a.testBit j = true := by
  rw [Ne, zero_iff]
  constructor
  · intro hn
    refine Classical.byContradiction fun hc => hn fun j => not_true fun hj => hc ⟨j, hj⟩
  · rintro ⟨j, hj⟩ ha; rw [ha j] at hj; cases hj
/-- Each guard has a place of its own. -/
def Needs (net : List Int) (s : Nat) : Prop := ∀ g, s.testBit g = true → ∃ j, (ball net g).testBit j = true ∧ ∀ i, s.testBit i = true → (ball net i).testBit j = true → i = g
def needs (net : List Int) (s : Nat) : Bool := (List.range net.length).all fun k => !(s.testBit k && priv net s k == 0)
theorem Needs.mono {net : List Int} {s t : Nat} (hst : ∀ j, t.testBit j = true → s.testBit j = true) (hn : Needs net s) : Needs net t := fun g hg => by
  obtain ⟨j, h1, h2⟩ := hn g (hst g hg)
  exact ⟨j, h1, fun i hi hb => h2 i (hst i hi) hb⟩
theorem Needs.zero (net : List Int) : Needs net 0 := fun g hg => by rw [Nat.zero_testBit] at hg; cases hg
theorem Needs.one (net : List Int) (k : Nat) : Needs net (2 ^ k) := fun g hg => by
  rw [testBit_pow, decide_eq_true_eq] at hg
  subst hg
  exact ⟨k, sees_self net k, fun i hi _ => by rw [testBit_pow, decide_eq_true_eq] at hi; exact hi.symm⟩
theorem or_testBit (s k j : Nat) : (s ||| 2 ^ k).testBit j = true ↔ s.testBit j = true ∨ j = k := by
  rw [Nat.testBit_or, Bool.or_eq_true, testBit_pow, decide_eq_true_eq]
  exact ⟨fun a => a.elim .inl (fun b => .inr b.symm), fun a => a.elim .inl (fun b => .inr b.symm)⟩
theorem or_lt {n s k : Nat} (hs : s < 2 ^ n) (hk : k < n) : s ||| 2 ^ k < 2 ^ n := Nat.or_lt_two_pow hs (Nat.pow_lt_pow_right (by omega) hk)
/-- A set that needs all guards, and does not with any further place. -/
def FullN (net : List Int) (s : Nat) : Prop := Needs net s ∧ ∀ k, k < net.length → s.testBit k = false → ¬ Needs net (s ||| 2 ^ k)
def fullN (net : List Int) (s : Nat) : Bool := ((List.range net.length).all fun k => !(!s.testBit k && needs net (s ||| 2 ^ k))) && needs net s
/-! ### Seen twice -/
/-- The places that two guards of a set see. -/
structure Twice (net : List Int) (s t : Nat) : Prop where
  lt : t < 2 ^ net.length
  bit : ∀ j, t.testBit j = true ↔ ∃ a b, s.testBit a = true ∧ s.testBit b = true ∧ a ≠ b ∧ (ball net a).testBit j = true ∧ (ball net b).testBit j = true
theorem Twice.uniq {net : List Int} {s t u : Nat} (ht : Twice net s t) (hu : Twice net s u) : t = u := Nat.eq_of_testBit_eq fun j => by rw [Bool.eq_iff_iff, ht.bit, hu.bit]
def twice (net : List Int) (s : Nat) : Nat := (fold net.length (fun (t : Nat × Nat) k => if s.testBit k = true then (t.1 ||| ball net k, t.2 ||| (t.1 &&& ball net k)) else t) (0, 0)).2
/-! ### Guards apart -/
def Apart (net : List Int) (s : Nat) : Prop := ∀ j k, s.testBit j = true → s.testBit k = true → (nb net j).testBit k = false
def apart (net : List Int) (s : Nat) : Bool := (near net s &&& s) == 0
theorem apart_iff {net : List Int} {s : Nat} (hs : s < 2 ^ net.length) : apart net s = true ↔ Apart net s := by
  unfold apart
  rw [beq_iff_eq, zero_iff]
  constructor
  · intro ha j k hj hk
    have := ha k
    rw [Nat.testBit_and, hk, Bool.and_true] at this
    refine not_true fun hb => ?_
    rw [(near_testBit _ _ _).2 ⟨j, in_lt hs hj, hj, hb⟩] at this; cases this
  · intro ha j
    refine not_true fun hb => ?_
    rw [Nat.testBit_and, Bool.and_eq_true, near_testBit] at hb
    obtain ⟨⟨k, _, h1, h2⟩, h3⟩ := hb
    rw [ha k j h1 h3] at h2; cases h2
theorem Apart.mono {net : List Int} {s t : Nat} (hst : ∀ j, t.testBit j = true → s.testBit j = true) (h : Apart net s) : Apart net t := fun j k hj hk => h j k (hst j hj) (hst k hk)
theorem Apart.zero (net : List Int) : Apart net 0 := fun j k hj _ => by rw [Nat.zero_testBit] at hj; cases hj
theorem Apart.one {net : List Int} (h : Ok net) {k : Nat} (hk : k < net.length) : Apart net (2 ^ k) := fun i j hi hj => by
  rw [testBit_pow, decide_eq_true_eq] at hi hj
  subst hi; subst hj
  exact h.irr _ hk
theorem apart_only {net : List Int} (h : Ok net) {s : Nat} (hs : s < 2 ^ net.length) (ha : Apart net s) {g : Nat} (hg : s.testBit g = true) : ∀ i, s.testBit i = true → (ball net i).testBit g = true → i = g := fun i hi hb => by
  rcases (ball_testBit _ _ _).1 hb with a | a
  · rw [ha i g hi hg] at a; cases a
  · exact a
theorem Apart.needs {net : List Int} (h : Ok net) {s : Nat} (hs : s < 2 ^ net.length) (ha : Apart net s) : Needs net s := fun g hg => ⟨g, sees_self net g, apart_only h hs ha hg⟩
theorem Apart.add {net : List Int} (h : Ok net) {s k : Nat} (hs : s < 2 ^ net.length) (hk : k < net.length) (ha : Apart net s) (hn : ∀ j, s.testBit j = true → (nb net k).testBit j = false) : Apart net (s ||| 2 ^ k) := fun i j hi hj => by
  rw [or_testBit] at hi hj
  rcases hi with hi | hi
  · rcases hj with hj | hj
    · exact ha i j hi hj
    · rw [hj, h.sym k i hk (in_lt hs hi)]; exact hn i hi
  · rcases hj with hj | hj
    · rw [hi]; exact hn j hj
    · rw [hi, hj]; exact h.irr k hk
def fullA (net : List Int) (s : Nat) : Bool := apart net s && (List.range net.length).all fun k => !(!s.testBit k && apart net (s ||| 2 ^ k))
/-! ### Grown sets -/
def grownStep (net : List Int) (t k : Nat) : Nat := if (!t.testBit k && (nb net k &&& t) == 0) = true then t ||| 2 ^ k else t
def grown (net : List Int) (s : Nat) : Nat := fold net.length (grownStep net) s
end Go.Proofs.Ytcfajdlkfpdonaa
/- The chain of numbers: plain facts. Conditions: those of each theorem. -/
namespace Go.Proofs.Ytcfajdlkfpdonaa
set_option linter.unusedVariables false
set_option linter.unusedSimpArgs false

/-- The least number of places of sets of a kind, and the greatest. -/
structure MinOf (net : List Int) (p : Nat → Bool) (m : Nat) : Prop where
  ex : ∃ s, s < 2 ^ net.length ∧ p s = true ∧ size s = m
  le : ∀ s, s < 2 ^ net.length → p s = true → m ≤ size s
structure MaxOf (net : List Int) (p : Nat → Bool) (m : Nat) : Prop where
  ex : ∃ s, s < 2 ^ net.length ∧ p s = true ∧ size s = m
  le : ∀ s, s < 2 ^ net.length → p s = true → size s ≤ m
theorem MinOf.uniq {net : List Int} {p : Nat → Bool} {a b : Nat} (ha : MinOf net p a) (hb : MinOf net p b) : a = b := by
  obtain ⟨s, h1, h2, h3⟩ := ha.ex
  obtain ⟨t, g1, g2, g3⟩ := hb.ex
  have := ha.le t g1 g2
  have := hb.le s h1 h2
  omega
theorem MaxOf.uniq {net : List Int} {p : Nat → Bool} {a b : Nat} (ha : MaxOf net p a) (hb : MaxOf net p b) : a = b := by
  obtain ⟨s, h1, h2, h3⟩ := ha.ex
  obtain ⟨t, g1, g2, g3⟩ := hb.ex
  have := ha.le t g1 g2
  have := hb.le s h1 h2
  omega
def minSize (net : List Int) (p : Nat → Bool) : Nat := fold (2 ^ net.length) (fun t s => if p s = true then (if size s < t then size s else t) else t) net.length
def maxSize (net : List Int) (p : Nat → Bool) : Nat := fold (2 ^ net.length) (fun t s => if p s = true then (if size s > t then size s else t) else t) 0
theorem maxFoldP {N : Nat} {p : Nat → Bool} {f : Nat → Nat} :
    (∀ s, s < N → p s = true → f s ≤ fold N (fun t s => if p s = true then (if f s > t then f s else t) else t) 0) ∧
    (fold N (fun t s => if p s = true then (if f s > t then f s else t) else t) 0 = 0 ∨ ∃ s, s < N ∧ p s = true ∧ f s = fold N (fun t s => if p s = true then (if f s > t then f s else t) else t) 0) := by
  induction N with
  | zero => exact ⟨fun s hs => by omega, .inl rfl⟩
  | succ N ih =>
    rw [fold_succ]
    generalize fold N _ 0 = g at ih ⊢
    obtain ⟨h1, h3⟩ := ih
    cases hp : p N with
    | false =>
      simp only [Bool.false_eq_true, if_false]
      refine ⟨fun s hs hps => ?_, ?_⟩
      · by_cases he : s = N
        · subst he; rw [hp] at hps; cases hps
        · exact h1 s (by omega) hps
      · rcases h3 with h3 | ⟨s, a, b⟩
        · exact .inl h3
        · exact .inr ⟨s, by omega, b⟩
    | true =>
      simp only [if_true]
      refine ⟨fun s hs hps => ?_, ?_⟩
      · by_cases he : s = N
        · subst he; split <;> omega
        · have := h1 s (by omega) hps
          split <;> omega
      · split
        · exact .inr ⟨N, by omega, hp, rfl⟩
        · rcases h3 with h3 | ⟨s, a, b⟩
          · exact .inl h3
          · exact .inr ⟨s, by omega, b⟩
theorem maxSize_is {net : List Int} {p : Nat → Bool} (hex : ∃ s, s < 2 ^ net.length ∧ p s = true) : MaxOf net p (maxSize net p) := by
  obtain ⟨h1, h3⟩ := maxFoldP (N := 2 ^ net.length) (p := p) (f := size)
  refine ⟨?_, h1⟩
  rcases h3 with h3 | h3
  · obtain ⟨s, hs, hp⟩ := hex
    have := h1 s hs hp
    exact ⟨s, hs, hp, by unfold maxSize; omega⟩
  · exact h3
/-! ### What there is of each kind -/
theorem ex_apart (net : List Int) : ∃ s, s < 2 ^ net.length ∧ apart net s = true := ⟨0, Nat.two_pow_pos _, (apart_iff (Nat.two_pow_pos _)).2 (Apart.zero net)⟩
theorem size_add {s k : Nat} (hs : s < 64) (hk : k < 6) (hb : s.testBit k = false) : size (s ||| 2 ^ k) = size s + 1 := bits_or s hs k hk hb
theorem size_pos {s : Nat} (hs : s < 64) {k : Nat} (hk : k < 6) (hb : s.testBit k = true) : 1 ≤ size s := by
  have := (bits_sub s hs k hk hb).2.2.1
  omega
/-! ### A full set and its private places watch -/
/-! ### Bounds by balls, and nets without wires -/
theorem ends_zero {net : List Int} (h : Ok net) : wires net = 0 ↔ ∀ k, k < net.length → nb net k = 0 := by
  have he := ends_wires h
  constructor
  · intro hw k hk
    have h1 : size (nb net k) ≤ ends net := sumN_pos (f := fun k => size (nb net k)) hk
    have h2 : size (nb net k) = 0 := by omega
    refine zero_iff.2 fun j => not_true fun hj => ?_
    have := size_pos (h.lt64 hk) (by have := h.hi; have := h.nb_lt hk hj; omega) hj
    omega
  · intro ha
    have : ends net = 0 := by
      unfold ends
      rw [sumN_congr (g := fun _ => 0) (fun k hk => by rw [ha k hk]; rfl), sumN_zero]
    omega
/-! ### How many sets are apart -/
def apartCount (net : List Int) : Nat := cnt (2 ^ net.length) (apart net)
end Go.Proofs.Ytcfajdlkfpdonaa
/- Guards near each other: plain facts of total and joined watches. Conditions: those of each theorem. -/
namespace Go.Proofs.Ytcfajdlkfpdonaa
set_option linter.unusedVariables false
set_option linter.unusedSimpArgs false

/-! ### Total watches -/
def total (net : List Int) (s : Nat) : Bool := near net s == allOf net
theorem or2 (s t j : Nat) : (s ||| t).testBit j = true ↔ s.testBit j = true ∨ t.testBit j = true := by rw [Nat.testBit_or, Bool.or_eq_true]
/-! ### Sets that stand together -/
def Together (net : List Int) (s : Nat) : Prop := s ≠ 0 ∧ ∀ i j, s.testBit i = true → s.testBit j = true → Reach net s i j
theorem Reach.mono {net : List Int} {A B i j : Nat} (hAB : ∀ k, A.testBit k = true → B.testBit k = true) (hr : Reach net A i j) : Reach net B i j := by
  induction hr with
  | here ha => exact .here (hAB _ ha)
  | step _ hj hn ha ih => exact .step ih hj hn (hAB _ ha)
/-- One part. -/
theorem one_part {net : List Int} (h : Ok net) : parts net = 1 ↔ ∀ j k, j < net.length → k < net.length → (comp net j).testBit k = true := by
  rw [parts_cnt]
  constructor
  · intro he j k hj hk
    obtain ⟨r, hr, hrr, hrc⟩ := root_of h hj
    obtain ⟨q, hq, hqr, hqc⟩ := root_of h hk
    have : r = q := Classical.byContradiction fun hne => by
      have h2 : 2 ≤ cnt net.length (root net) := by
        have := cnt_inj (n := 2) (m := net.length) (p := fun _ => true) (q := root net) (fun i => if i = 0 then r else q) (fun i hi _ => by
          by_cases h0 : i = 0
          · rw [if_pos h0]; exact ⟨by omega, hrr⟩
          · rw [if_neg h0]; exact ⟨by omega, hqr⟩) (fun a b ha hb _ _ hab => by
          by_cases h0 : a = 0 <;> by_cases h1 : b = 0
          · omega
          · rw [if_pos h0, if_neg h1] at hab; exact absurd hab hne
          · rw [if_neg h0, if_pos h1] at hab; exact absurd hab.symm hne
          · omega)
        rw [cnt_true] at this; exact this
      omega
    subst this
    rw [← hrc, hqc]; exact h.comp_self hk
  · intro ha
    have h0 := h.lo
    have hr : ∀ k, k < net.length → root net k = decide (k = 0) := fun k hk => by
      rw [Bool.eq_iff_iff, root_iff, decide_eq_true_eq]
      constructor
      · intro hx
        refine Classical.byContradiction fun hne => ?_
        have := hx 0 (by omega)
        rw [ha k 0 hk h0] at this; cases this
      · rintro rfl j hj; omega
    show sumN net.length (fun k => (root net k).toNat) = 1
    rw [sumN_one (k := 0) h0 (fun j hj hne => by rw [hr j hj]; simp [hne]), hr 0 h0]
    rfl
/-- From within to without there is a wire. -/
theorem leaves {net : List Int} {A i j t : Nat} (hr : Reach net A i j) (hi : t.testBit i = true) (hj : t.testBit j = false) : ∃ u v, t.testBit u = true ∧ t.testBit v = false ∧ u < net.length ∧ (nb net u).testBit v = true := by
  induction hr with
  | here _ => rw [hi] at hj; cases hj
  | @step a b hr hl hn _ ih =>
    cases hb : t.testBit a with
    | true => exact ⟨a, b, hb, hj, hl, hn⟩
    | false => exact ih hb
end Go.Proofs.Ytcfajdlkfpdonaa
/- The game by turns: plain facts. Conditions: those of each theorem. -/
namespace Go.Proofs.Ytcfajdlkfpdonaa
set_option linter.unusedVariables false
set_option linter.unusedSimpArgs false

/-- The best of the numbers of those that pass a test: the least one, or the greatest. -/
def bestStep (p : Nat → Bool) (f : Nat → Nat) (few : Bool) (o : Option Nat) (k : Nat) : Option Nat :=
  if p k = true then (match o with
    | none => some (f k)
    | some b => if (few && decide (f k < b) || !few && decide (f k > b)) = true then some (f k) else some b) else o
def bestN (n : Nat) (p : Nat → Bool) (f : Nat → Nat) (few : Bool) : Option Nat := fold n (bestStep p f few) none
/-- May a guard be put there? -/
def leg (net : List Int) (A k : Nat) : Bool := minus (ball net k) A != 0
theorem leg_iff {net : List Int} (h : Ok net) {A k : Nat} (hA : A < 2 ^ net.length) (hk : k < net.length) : leg net A k = true ↔ ∃ j, j < net.length ∧ (ball net k).testBit j = true ∧ A.testBit j = false := by
  have h64 := h.pow
  have hb := h.ball_lt hk
  unfold leg
  rw [bne_iff_ne, pos_iff]
  constructor
  · rintro ⟨j, hj⟩
    rw [minus_testBit _ _ (by omega) (by omega), Bool.and_eq_true, Bool.not_eq_true'] at hj
    exact ⟨j, sees_lt h hk hj.1, hj⟩
  · rintro ⟨j, _, hj⟩
    refine ⟨j, ?_⟩
    rw [minus_testBit _ _ (by omega) (by omega), Bool.and_eq_true, Bool.not_eq_true']
    exact hj
theorem full_iff {net : List Int} {A : Nat} (hA : A < 2 ^ net.length) : A = allOf net ↔ ∀ j, j < net.length → A.testBit j = true := by
  constructor
  · rintro rfl j hj; rw [allOf_testBit]; simpa using hj
  · intro ha
    refine Nat.eq_of_testBit_eq fun j => ?_
    rw [Bool.eq_iff_iff, allOf_testBit, decide_eq_true_eq]
    exact ⟨fun hj => testBit_lt hA hj, ha j⟩
theorem no_leg {net : List Int} (h : Ok net) {A : Nat} (hA : A < 2 ^ net.length) : (∀ k, k < net.length → leg net A k = false) ↔ A = allOf net := by
  rw [full_iff hA]
  constructor
  · intro hn j hj
    cases hb : A.testBit j with
    | true => rfl
    | false =>
      have := hn j hj
      rw [(leg_iff h hA hj).2 ⟨j, hj, sees_self net j, hb⟩] at this; cases this
  · intro ha k hk
    refine not_true fun hl => ?_
    obtain ⟨j, hj, _, hb⟩ := (leg_iff h hA hk).1 hl
    rw [ha j hj] at hb; cases hb
/-- How many guards it takes, as far as n more can be. -/
def gv (net : List Int) : Nat → Nat → Bool → Nat
  | 0, _, _ => 0
  | n + 1, A, few => (bestN net.length (leg net A) (fun k => 1 + gv net n (A ||| ball net k) (!few)) few).getD 0
def game (net : List Int) (A : Nat) (few : Bool) : Nat := gv net 6 A few
end Go.Proofs.Ytcfajdlkfpdonaa
/- Lists of watches, counts of watches, thinned watches. Conditions: those of each theorem. -/
namespace Go.Proofs.Ytcfajdlkfpdonaa
open D Go.RowKit
set_option linter.unusedVariables false
set_option linter.unusedSimpArgs false


theorem small_of {n : Nat} (h : n ≤ 1000000) : small n = true := by unfold small; rw [decide_eq_true_eq]; omega
/-- All numbers below N of a kind. -/
def listOfN (N : Nat) (p : Nat → Bool) : List Int := fold N (fun l s => if p s = true then l ++ [(s : Int)] else l) []
/-- How many watches there are of each number of places. -/
def counts (net : List Int) : List Int := fold (2 ^ net.length) (fun l s => if W net s = true then l.set (size s) (D.eli l (size s) + 1) else l) (List.replicate (net.length + 1) 0)
theorem eli_set {l : List Int} {a b : Nat} {v : Int} (ha : a < l.length) : D.eli (l.set a v) b = if a = b then v else D.eli l b := by
  unfold D.eli
  by_cases h : a = b
  · subst h; simp [List.getD, ha]
  · simp [List.getD, List.getElem?_set_ne h, h]
theorem eli_rep (n k : Nat) : D.eli (List.replicate n 0) k = 0 := by
  unfold D.eli
  by_cases h : k < n <;> simp [List.getD, h]
/-- The bounds of the counts on the way. -/
def CInv (net : List Int) (k : Nat) (t : List Int) : Prop := t.length = net.length + 1 ∧ ∀ j, 0 ≤ D.eli t j ∧ D.eli t j ≤ k
theorem CInv.step {net : List Int} (h : Ok net) {k : Nat} {t : List Int} (hk : k < 2 ^ net.length) (ht : CInv net k t) : CInv net (k + 1) (if W net k = true then t.set (size k) (D.eli t (size k) + 1) else t) := by
  have hz := size_le_len h hk
  split
  · refine ⟨by rw [List.length_set]; exact ht.1, fun j => ?_⟩
    rw [eli_set (by rw [ht.1]; omega)]
    have h1 := ht.2 j
    have h2 := ht.2 (size k)
    split <;> omega
  · exact ⟨ht.1, fun j => by have := ht.2 j; omega⟩
theorem CInv.zero (net : List Int) : CInv net 0 (List.replicate (net.length + 1) 0) := ⟨by simp, fun j => by rw [eli_rep]; omega⟩
/-- What is left of a watch. -/
def thinStep (net : List Int) (t p : Nat) : Nat := if (t.testBit p && W net (t - 2 ^ p)) = true then t - 2 ^ p else t
def thin (net : List Int) (s : Nat) : Nat := fold net.length (fun t k => thinStep net t (net.length - 1 - k)) s
end Go.Proofs.Ytcfajdlkfpdonaa
/- What the exact laws need of rows that are marked. Conditions: those of each theorem. -/
namespace Go.Proofs.Ytcfajdlkfpdonaa
open D Go.RowKit
set_option linter.unusedVariables false
set_option linter.unusedSimpArgs false


theorem eli_set2 {l : List Int} {a b : Nat} {v : Int} (ha : a < l.length) : D.eli (l.set a v) b = if a = b then v else D.eli l b := by
  unfold D.eli
  by_cases h : a = b
  · subst h; simp [List.getD, ha]
  · simp [List.getD, List.getElem?_set_ne h, h]
theorem L.markIntS_is {a : List Int} {k0 : Nat} (ha : a.length ≤ 3000000) (hk0 : k0 ≤ 3000000) : ∃ m : List Int, L.markIntS_t a k0 = some (((k0 + a.length : Nat) : Int), m) ∧ m.length = a.length ∧ ∀ j, j < a.length → D.eli m j = ((k0 + j : Nat) : Int) := by
  unfold L.markIntS_t L.markIntS_tree
  have := run_for (run := L.markIntS_run2) (len := a.length) (fun k (t : List Int) => (((k0 + k : Nat) : Int), (k : Int), t)) (fun t k => t.set k ((k0 + k : Nat) : Int)) (fun t => (((k0 + a.length : Nat) : Int), t)) (fun k t => t.length = a.length ∧ ∀ j, j < k → D.eli t j = ((k0 + j : Nat) : Int)) (by omega) (fun n k t hk ht => ?_) (fun n t ht => ?_) (t0 := a) ⟨rfl, fun j hj => by omega⟩
  · refine ⟨_, ?_, this.2.1, this.2.2⟩
    exact congrArg (fun o => optC o (fun q => some (q.1, q.2)) none) this.1
  · refine ⟨?_, by rw [List.length_set]; exact ht.1, fun j hj => ?_⟩
    · simp only [L.markIntS_run2, L.markIntS_step2]
      have := ht.1
      rw [cnd_t (by simp; omega), cnd_t (by simp; omega), cnd_t (by simp; omega), Int.toNat_natCast, add1_nat (by omega), add1_nat (by omega)]
      rfl
    · rw [eli_set2 (by rw [ht.1]; exact hk)]
      by_cases hkj : k = j
      · rw [if_pos hkj, hkj]
      · rw [if_neg hkj]; exact ht.2 j (by omega)
  · simp only [L.markIntS_run2, L.markIntS_step2]
    rw [cnd_f (by simp; omega)]
theorem L.heldIntS_is {m : List Int} (ha : m.length ≤ 3000000) (hm : ∀ j, j < m.length → D.eli m j = ((1 + j : Nat) : Int)) : L.heldIntS_t m 1 = some ((1 + m.length : Nat) : Int) := by
  unfold L.heldIntS_t L.heldIntS_tree
  have := (run_for (run := L.heldIntS_run2 m) (len := m.length) (fun k (t : Unit) => (((1 + k : Nat) : Int), (k : Int))) (fun t k => ()) (fun t => Sum.inr (((1 + m.length : Nat) : Int))) (fun k t => True) (by omega) (fun n k t hk ht => ?_) (fun n t ht => ?_) (t0 := ()) trivial).1
  · exact congrArg (fun o => optC o (fun q => sumC q (fun q => some q.2) (fun q => some q)) none) this
  · refine ⟨?_, trivial⟩
    simp only [L.heldIntS_run2, L.heldIntS_step2]
    rw [cnd_t (by simp; omega), cnd_t (by simp; omega), Int.toNat_natCast, hm k hk, cnd_f (by simp), add1_nat (by omega), add1_nat (by omega)]
    rfl
  · simp only [L.heldIntS_run2, L.heldIntS_step2]
    rw [cnd_f (by simp)]
/-- A row marked and held. -/
theorem L.marked {v : List Int} (hv : v.length ≤ 2000000) : ∃ m : List Int, L.markIntS_t v 1 = some (((1 + v.length : Nat) : Int), m) ∧ L.heldIntS_t m 1 = some ((1 + v.length : Nat) : Int) := by
  obtain ⟨m, h1, h2, h3⟩ := L.markIntS_is (a := v) (k0 := 1) (by omega) (by omega)
  refine ⟨m, h1, ?_⟩
  rw [← h2]
  exact L.heldIntS_is (by omega) (by rw [h2]; exact h3)
theorem neg_nat (a : Nat) : decide ((a : Int) < 0) = false := by rw [decide_eq_false_iff_not]; omega
theorem not_beq_self (a : Nat) : (!((a : Int) == (a : Int))) = false := by simp
end Go.Proofs.Ytcfajdlkfpdonaa
/- The exact laws of chapter 2. Conditions: those of each theorem. -/
namespace Go.Proofs.Ytcfajdlkfpdonaa
open D Go.RowKit
set_option linter.unusedVariables false
set_option linter.unusedSimpArgs false


theorem S.l1SetOk_x {net : List Int} (e : S.NetOk_t net = some false) (s : Int) : S.l1SetOk_t net s = some false := by
  unfold S.l1SetOk_t S.l1SetOk_tree; rw [e]; rfl
end Go.Proofs.Ytcfajdlkfpdonaa
/- The model's functions of chapters 3 to 5 in natural numbers. Conditions: those of each theorem. -/
namespace Go.Proofs.Ytcfajdlkfpdonaa
open D Go.RowKit
set_option linter.unusedVariables false
set_option linter.unusedSimpArgs false


theorem nat_eq0 (a : Nat) : ((a : Int) == 0) = (a == 0) := nat_beq a 0
/-- The answers that are told for any argument. -/
def privI (net : List Int) (s g : Int) : Int := if (0 ≤ s ∧ s < 2 ^ net.length) ∧ (0 ≤ g ∧ g < net.length) ∧ s.toNat.testBit g.toNat = true then ((priv net s.toNat g.toNat : Nat) : Int) else -1
def twiceI (net : List Int) (s : Int) : Int := if 0 ≤ s ∧ s < 2 ^ net.length then ((twice net s.toNat : Nat) : Int) else -1
def grownI (net : List Int) (s : Int) : Int := if (0 ≤ s ∧ s < 2 ^ net.length) ∧ apart net s.toNat = true then ((grown net s.toNat : Nat) : Int) else -1
/-- All places below n pass a test, by a search for one that doesn't. -/
theorem find_test {n : Nat} {p : Nat → Bool} : find n (fun k => if p k = true then some false else none) = if ((List.range n).all fun k => !p k) = true then none else some false := by
  cases hall : (List.range n).all fun k => !p k with
  | true =>
    rw [if_pos rfl, find_none]
    intro j hj
    rw [List.all_eq_true] at hall
    have := hall j (List.mem_range.2 hj)
    rw [Bool.not_eq_true'] at this
    rw [this]; rfl
  | false =>
    rw [if_neg (by simp)]
    rw [List.all_eq_false] at hall
    obtain ⟨k, hk, hb⟩ := hall
    rw [Bool.not_eq_true', Bool.not_eq_false] at hb
    cases hf : find n (fun k => if p k = true then some false else none) with
    | none =>
      have := find_none.1 hf k (List.mem_range.1 hk)
      rw [hb] at this; cases this
    | some b =>
      obtain ⟨j, hj, he⟩ := find_some_ex hf
      split at he
      · cases he; rfl
      · cases he

def chain (net : List Int) : List Int := [((minSize net (fullN net) : Nat) : Int), ((fewest net : Nat) : Int), ((minSize net (fullA net) : Nat) : Int), ((maxSize net (apart net) : Nat) : Int), ((maxSize net (least net) : Nat) : Int), ((maxSize net (needs net) : Nat) : Int)]
end Go.Proofs.Ytcfajdlkfpdonaa
/- Two guards at a place, and a guard that leaves: plain facts. Conditions: those of each theorem. -/
namespace Go.Proofs.Ytcfajdlkfpdonaa
set_option linter.unusedVariables false
set_option linter.unusedSimpArgs false

/-! ### Rows of small numbers -/
/-- The places with at least m guards. -/
def withN (n : Nat) (r : Nat → Nat) (m : Nat) : Nat := orN n (fun k => decide (m ≤ r k)) (fun k => 2 ^ k)
/-- The digits of a number to the base three, the first one ahead. -/
def dig (n m k : Nat) : Nat := m / 3 ^ (n - 1 - k) % 3
theorem dig_lt (n m k : Nat) : dig n m k ≤ 2 := by unfold dig; omega
theorem dig_last (n m : Nat) : dig (n + 1) m n = m % 3 := by
  unfold dig
  rw [show n + 1 - 1 - n = 0 by omega]; simp
theorem dig_ahead {n m k : Nat} (hk : k < n) : dig (n + 1) m k = dig n (m / 3) k := by
  unfold dig
  rw [show n + 1 - 1 - k = (n - 1 - k) + 1 by omega, Nat.pow_succ, Nat.mul_comm, ← Nat.div_div_eq_div_mul]
/-- Each row is one of the rows that are counted up. -/
theorem dig_all {n : Nat} {r : Nat → Nat} (hr : ∀ k, k < n → r k ≤ 2) : ∃ m, m < 3 ^ n ∧ ∀ k, k < n → dig n m k = r k := by
  induction n with
  | zero => exact ⟨0, by simp, fun k hk => by omega⟩
  | succ n ih =>
    obtain ⟨m, hm, hd⟩ := ih (fun k hk => hr k (by omega))
    have h2 := hr n (by omega)
    refine ⟨3 * m + r n, by rw [Nat.pow_succ]; omega, fun k hk => ?_⟩
    by_cases hkn : k = n
    · rw [hkn, dig_last]; omega
    · rw [dig_ahead (by omega), show (3 * m + r n) / 3 = m by omega]
      exact hd k (by omega)
/-- So few guards a row of a kind can have. -/
structure MinRow (n : Nat) (p : (Nat → Nat) → Prop) (m : Nat) : Prop where
  ex : ∃ r, (∀ k, k < n → r k ≤ 2) ∧ p r ∧ sumN n r = m
  le : ∀ r, (∀ k, k < n → r k ≤ 2) → p r → m ≤ sumN n r
theorem MinRow.uniq {n : Nat} {p : (Nat → Nat) → Prop} {a b : Nat} (ha : MinRow n p a) (hb : MinRow n p b) : a = b := by
  obtain ⟨r, h1, h2, h3⟩ := ha.ex
  obtain ⟨q, g1, g2, g3⟩ := hb.ex
  have := ha.le q g1 g2
  have := hb.le r h1 h2
  omega
def RomanP (net : List Int) (r : Nat → Nat) : Prop := ∀ k, k < net.length → r k = 0 → ∃ j, j < net.length ∧ (nb net k).testBit j = true ∧ 2 ≤ r j
def help (net : List Int) (r : Nat → Nat) (k : Nat) : Nat := sumN net.length (fun j => ((nb net k).testBit j).toNat * r j)
def ItalianP (net : List Int) (r : Nat → Nat) : Prop := ∀ k, k < net.length → r k = 0 → 2 ≤ help net r k
/-- The row of a set: two at its places, one where it does not see. -/
def rowOfN (net : List Int) (s k : Nat) : Nat := if s.testBit k = true then 2 else if (seen net s).testBit k = true then 0 else 1
/-! ### A guard that leaves -/
def moved (s f t : Nat) : Nat := (s - 2 ^ f) ||| 2 ^ t
/-- A guard next to a place can go there, and all is watched. -/
def Can (net : List Int) (s t : Nat) : Prop := ∃ f, s.testBit f = true ∧ (nb net t).testBit f = true ∧ W net (moved s f t) = true
def Secure (net : List Int) (s : Nat) : Prop := W net s = true ∧ ∀ k, k < net.length → s.testBit k = false → Can net s k
/-- The row behind a guard's move. -/
def leave (r : Nat → Nat) (f t k : Nat) : Nat := if k = t then 1 else if k = f then r f - 1 else r k
def WeakP (net : List Int) (r : Nat → Nat) : Prop := ∀ k, k < net.length → r k = 0 → ∃ f, f < net.length ∧ 1 ≤ r f ∧ (nb net k).testBit f = true ∧ W net (withN net.length (leave r f k) 1) = true
end Go.Proofs.Ytcfajdlkfpdonaa
/- What drawn nets are. Conditions: those of each theorem. -/
namespace Go.Proofs.Ytcfajdlkfpdonaa
open D Go.RowKit
set_option linter.unusedVariables false
set_option linter.unusedSimpArgs false


/-- A code of bytes. -/
def Bytes (rb : List Int) : Prop := ∀ n ∈ rb, 0 ≤ n ∧ n ≤ 255
theorem Bytes.eli {rb : List Int} (h : Bytes rb) (k : Nat) : 0 ≤ D.eli rb k ∧ D.eli rb k ≤ 255 := by
  by_cases hk : k < rb.length
  · have : D.eli rb k = rb[k] := by simp [D.eli, List.getD, hk]
    rw [this]; exact h _ (List.getElem_mem hk)
  · have : D.eli rb k = 0 := by simp [D.eli, List.getD, List.getElem?_eq_none (by omega : rb.length ≤ k)]
    rw [this]; decide
theorem Bytes.wf {rb : List Int} (h : ∀ n ∈ rb, (Lit.int .u8 n).wf = true) : Bytes rb := fun n hn => by
  have := h n hn
  have e1 : IntKind.u8.min = 0 := by kernel_rfl
  have e2 : IntKind.u8.max = 255 := by kernel_rfl
  simpa [Lit.wf, e1, e2] using this

theorem xor_pos {a b : Int} (ha : 0 ≤ a ∧ a < 9223372036854775808) (hb : 0 ≤ b ∧ b < 9223372036854775808) : 0 ≤ bits .xor .i64 a b := by
  obtain ⟨x, rfl⟩ := Int.eq_ofNat_of_zero_le ha.1
  obtain ⟨y, rfl⟩ := Int.eq_ofNat_of_zero_le hb.1
  rw [i64_xor_nat x y (by omega) (by omega)]
  omega

theorem S.l20Rd_pick_is {rb : List Int} {rp n : Int} (hb : Bytes rb) (hl : rb.length ≤ 2000) (h0 : 0 ≤ rp) (h1 : rp ≤ 1099511627776) :
    ∃ v, S.l20Rd_pick_t rb rp n = some (v, rb, rp + 1) ∧ 0 ≤ v ∧ (1 ≤ n → v < n) := by
  unfold S.l20Rd_pick_t S.l20Rd_pick_tree
  have e1 : IntKind.i64.wrap (rp + 1) = rp + 1 := i64_wrap (by omega) (by omega)
  have e2 : IntKind.i64.wrap (rp + 1 - 1) = rp := by rw [i64_wrap (by omega) (by omega)]; omega
  rw [e1, e2]
  by_cases hn : n < 1
  · rw [cnd_t (by simpa using hn)]; exact ⟨_, rfl, Int.le_refl _, fun h => by omega⟩
  rw [cnd_f (by simpa using hn)]
  by_cases hz : rb.length = 0
  · rw [cnd_t (by simp [hz])]; exact ⟨_, rfl, Int.le_refl _, fun h => by omega⟩
  have hnz : (n == 0) = false := by simp; omega
  have hlz : ((rb.length : Int) == 0) = false := by simp; exact fun h => hz (by simp [h])
  rw [cnd_f hlz]
  have fin : ∀ x : Int, 0 ≤ x → 0 ≤ x.tmod n ∧ (1 ≤ n → x.tmod n < n) := fun x hx => ⟨Int.tmod_nonneg _ hx, fun h => Int.tmod_lt_of_pos _ (by omega)⟩
  by_cases hx : rp < rb.length
  · rw [cnd_t (by simpa using hx), cnd_t (by simp; omega), cnd_f hnz]
    have hv := hb.eli rp.toNat
    rw [i64_wrap (n := D.eli rb rp.toNat) (by omega) (by omega)]
    exact ⟨_, rfl, fin _ hv.1⟩
  · rw [cnd_f (by simpa using hx), cnd_f hlz]
    have hL : 0 < (rb.length : Int) := by omega
    have m1 : 0 ≤ rp.tmod rb.length := Int.tmod_nonneg _ h0
    have m2 : rp.tmod rb.length < rb.length := Int.tmod_lt_of_pos _ hL
    rw [cnd_t (by simp; omega), cnd_f hlz]
    have e3 : IntKind.i64.wrap (IntKind.i64.wrap (rp * 7) + 3) = rp * 7 + 3 := by rw [i64_wrap (n := rp * 7) (by omega) (by omega)]; exact i64_wrap (by omega) (by omega)
    rw [e3]
    have m3 : 0 ≤ (rp * 7 + 3).tmod rb.length := Int.tmod_nonneg _ (by omega)
    have m4 : (rp * 7 + 3).tmod rb.length < rb.length := Int.tmod_lt_of_pos _ hL
    rw [cnd_t (by simp; omega), cnd_f hlz, cnd_f hnz]
    have d1 : 0 ≤ rp.tdiv rb.length := Int.tdiv_nonneg h0 (by omega)
    have d2 : rp.tdiv rb.length ≤ rp := Int.tdiv_le_self _ h0
    have v1 := hb.eli (rp.tmod rb.length).toNat
    have v2 := hb.eli ((rp * 7 + 3).tmod rb.length).toNat
    generalize rp.tdiv rb.length = d at d1 d2
    generalize D.eli rb (rp.tmod rb.length).toNat = b1 at v1
    generalize D.eli rb ((rp * 7 + 3).tmod rb.length).toNat = b2 at v2
    have key : ∀ x : Int, 0 ≤ x → x < 9223372036854775808 → 0 ≤ bits .xor .i64 x (IntKind.i64.wrap (x.tdiv 64)) := fun x hx0 hx1 => by
      have a1 : 0 ≤ x.tdiv 64 := Int.tdiv_nonneg hx0 (by decide)
      have a2 : x.tdiv 64 ≤ x := Int.tdiv_le_self _ hx0
      rw [i64_wrap (by omega) (by omega)]
      exact xor_pos ⟨hx0, hx1⟩ ⟨a1, by omega⟩
    refine ⟨_, rfl, fin _ (key _ ?_ ?_)⟩ <;> simp (disch := omega) only [i64_wrap] <;> omega
theorem cnd_case {α : Type} {P : α → Prop} {b : Bool} {x y : α} (h1 : b = true → P x) (h2 : b = false → P y) : P (bif b then x else y) := by
  cases b with
  | true => exact h1 rfl
  | false => exact h2 rfl
theorem S.l20Net_p8 {α : Type} (P : α → Prop) {x1 x5 x7 x8 x9 rp : Int} {rb r : List Int} {next : Int × (List Int) × Int × (List Int) → α} {out : (List Int) × Int × (List Int) → α} {fail : α}
    (hb : Bytes rb) (hl : rb.length ≤ 2000) (h0 : 0 ≤ rp) (h1 : rp ≤ 1099511627000) (h9 : 0 ≤ x9) (h8 : x8 < r.length) (hr : r.length ≤ 1048576)
    (hleaf : x9 < x8 → ∀ rp' r', rp < rp' → rp' ≤ rp + 2 → r'.length = r.length → P (next (x9 + 1, rb, rp', r')))
    (hout : ¬ x9 < x8 → P (out (rb, rp, r))) : P (S.l20Net_step8 x1 x5 x7 x8 x9 rb rp r next out fail) := by
  unfold S.l20Net_step8
  refine cnd_case (P := P) (fun h => ?_) (fun h => hout (by simpa using h))
  have hlt : x9 < x8 := by simpa using h
  obtain ⟨v, hv, _, _⟩ := S.l20Rd_pick_is (n := 3) hb hl h0 (by omega)
  obtain ⟨v', hv', _, _⟩ := S.l20Rd_pick_is (n := 3) (rp := rp + 1) hb hl (by omega) (by omega)
  rw [hv]
  simp only [optC]
  rw [hv']
  simp only [optC]
  rw [i64_wrap (n := x9 + 1) (by omega) (by omega)]
  repeat' first
    | exact hleaf hlt _ _ (by omega) (by omega) (by simp)
    | rw [cnd_t (by simp; omega)]
    | rw [cnd_f (by simp; omega)]
    | refine cnd_case (P := P) (fun _ => ?_) (fun _ => ?_)
theorem S.l20Net_q8 {x1 x5 x7 x8 rp : Int} {rb r : List Int} (hb : Bytes rb) (hl : rb.length ≤ 2000) (h0 : 0 ≤ rp) (h1 : rp ≤ 1099511620000) (hx : 0 ≤ x8) (h8 : x8 < r.length) (h6 : x8 ≤ 100) (hr : r.length ≤ 1048576) :
    ∃ d, S.l20Net_run8 x1 x5 x7 x8 FUEL (0, rb, rp, r) = some d ∧ d.1 = rb ∧ rp ≤ d.2.1 ∧ d.2.1 ≤ rp + 2 * x8 ∧ d.2.2.length = r.length := by
  refine run_post (run := S.l20Net_run8 x1 x5 x7 x8) (fun s => s.2.1 = rb ∧ 0 ≤ s.1 ∧ s.1 ≤ x8 ∧ rp ≤ s.2.2.1 ∧ s.2.2.1 ≤ rp + 2 * s.1 ∧ s.2.2.2.length = r.length) (fun s => (x8 - s.1).toNat) (fun d => d.1 = rb ∧ rp ≤ d.2.1 ∧ d.2.1 ≤ rp + 2 * x8 ∧ d.2.2.length = r.length) ?_ ?_ ?_
  · rintro n ⟨x9, rb', rp', r'⟩ ⟨i0, i1, i2, i3, i4, i5⟩
    simp only at i0 i1 i2 i3 i4 i5
    subst i0
    refine S.l20Net_p8 (x1 := x1) (x5 := x5) (x7 := x7) (x8 := x8) (x9 := x9) (rp := rp') (rb := rb') (r := r') (next := S.l20Net_run8 x1 x5 x7 x8 n) (out := fun d => some d) (fail := none) (fun t => (∃ d, t = some d ∧ (d.1 = rb' ∧ rp ≤ d.2.1 ∧ d.2.1 ≤ rp + 2 * x8 ∧ d.2.2.length = r.length)) ∨ ∃ s', t = S.l20Net_run8 x1 x5 x7 x8 n s' ∧ (s'.2.1 = rb' ∧ 0 ≤ s'.1 ∧ s'.1 ≤ x8 ∧ rp ≤ s'.2.2.1 ∧ s'.2.2.1 ≤ rp + 2 * s'.1 ∧ s'.2.2.2.length = r.length) ∧ (x8 - s'.1).toNat < (x8 - x9).toNat) hb hl (by omega) (by omega) i1 (by omega) (by omega) (fun hlt rp2 r2 a1 a2 a3 => .inr ⟨_, rfl, ⟨rfl, ?_, ?_, ?_, ?_, ?_⟩, ?_⟩) (fun hge => .inl ⟨_, rfl, rfl, ?_, ?_, ?_⟩) <;> simp only <;> omega
  · exact ⟨rfl, by simp only; omega, by simp only; omega, by simp only; omega, by simp only; omega, rfl⟩
  · simp only; omega
theorem S.l20Net_q5 {x1 x5 x7 rp : Int} {rb r : List Int} (hb : Bytes rb) (hl : rb.length ≤ 2000) (h0 : 0 ≤ rp) (h1 : rp ≤ 1099511600000) (hx : 0 ≤ x5) (h5 : x5 = r.length) (h6 : x5 ≤ 6) :
    ∃ d, S.l20Net_run5 x1 x5 x7 FUEL (0, rb, rp, r) = some d ∧ d.1 = rb ∧ rp ≤ d.2.1 ∧ d.2.1 ≤ rp + 100 ∧ d.2.2.length = r.length := by
  refine run_post (run := S.l20Net_run5 x1 x5 x7) (fun s => s.2.1 = rb ∧ 0 ≤ s.1 ∧ s.1 ≤ x5 ∧ rp ≤ s.2.2.1 ∧ s.2.2.1 ≤ rp + 12 * s.1 ∧ s.2.2.2.length = r.length) (fun s => (x5 - s.1).toNat) (fun d => d.1 = rb ∧ rp ≤ d.2.1 ∧ d.2.1 ≤ rp + 100 ∧ d.2.2.length = r.length) ?_ ?_ ?_
  · rintro n ⟨x8, rb', rp', r'⟩ ⟨i0, i1, i2, i3, i4, i5⟩
    simp only at i0 i1 i2 i3 i4 i5
    subst i0
    simp only [S.l20Net_run5, S.l20Net_step5]
    by_cases hlt : x8 < x5
    · rw [cnd_t (by simpa using hlt)]
      obtain ⟨⟨d1, d2, d3⟩, e1, e2, e3, e4, e5⟩ := S.l20Net_q8 (x1 := x1) (x5 := x5) (x7 := x7) (x8 := x8) (r := r') hb hl (by omega : 0 ≤ rp') (by omega) i1 (by omega) (by omega) (by omega)
      simp only at e2 e3 e4 e5
      rw [e1]
      simp only [optC]
      rw [i64_wrap (n := x8 + 1) (by omega) (by omega)]
      refine .inr ⟨_, rfl, ⟨e2, ?_, ?_, ?_, ?_, ?_⟩, ?_⟩ <;> simp only <;> omega
    · rw [cnd_f (by simpa using hlt)]
      refine .inl ⟨_, rfl, rfl, ?_, ?_, ?_⟩ <;> simp only <;> omega
  · exact ⟨rfl, by simp only; omega, by simp only; omega, by simp only; omega, by simp only; omega, rfl⟩
  · simp only; omega
theorem S.l20Rd_odd_is {rb : List Int} {rp n : Int} (hb : Bytes rb) (hl : rb.length ≤ 2000) (h0 : 0 ≤ rp) (h1 : rp ≤ 1099511627776) :
    ∃ b rp', S.l20Rd_odd_t rb rp n = some (b, rb, rp') ∧ rp ≤ rp' ∧ rp' ≤ rp + 1 := by
  unfold S.l20Rd_odd_t S.l20Rd_odd_tree
  by_cases hn : n > 0
  · rw [cnd_t (by simpa using hn)]
    obtain ⟨v, hv, _, _⟩ := S.l20Rd_pick_is (n := n) hb hl h0 h1
    rw [hv]
    exact ⟨_, rp + 1, rfl, by omega, by omega⟩
  · rw [cnd_f (by simpa using hn)]
    exact ⟨_, rp, rfl, by omega, by omega⟩
theorem S.l20Net_is {rb : List Int} {rp n : Int} (hb : Bytes rb) (hl : rb.length ≤ 2000) (h0 : 0 ≤ rp) (h1 : rp ≤ 1000000) :
    ∃ rp' net, S.l20Net_t rb rp n = some (rb, rp', net) ∧ rp ≤ rp' ∧ rp' ≤ rp + 200 ∧ net.length ≤ 6 := by
  unfold S.l20Net_t
  have gen : ∀ {α : Type} (P : α → Prop) (leaf : (List Int) × Int × (List Int) → α) (fail : α), (∀ rp' net, rp ≤ rp' → rp' ≤ rp + 200 → net.length ≤ 6 → P (leaf (rb, rp', net))) → P (S.l20Net_tree rb rp n leaf fail) := by
    intro α P leaf fail hleaf
    unfold S.l20Net_tree
    obtain ⟨v1, e1, a1, a2⟩ := S.l20Rd_pick_is (n := 6) hb hl h0 (by omega)
    have a2' := a2 (by decide)
    rw [e1]
    simp only [optC]
    rw [i64_wrap (n := 1 + v1) (by omega) (by omega)]
    rw [cnd_t (by simp [small]; omega)]
    obtain ⟨v2, e2, _, _⟩ := S.l20Rd_pick_is (n := 4) (rp := rp + 1) hb hl (by omega) (by omega)
    rw [e2]
    simp only
    obtain ⟨⟨d1, d2, d3⟩, e3, f1, f2, f3, f4⟩ := S.l20Net_q5 (x1 := n) (x5 := 1 + v1) (x7 := v2) (rp := rp + 1 + 1) (r := List.replicate (1 + v1).toNat 0) hb hl (by omega) (by omega) (by omega) (by simp; omega) (by omega)
    simp only at f1 f2 f3 f4
    subst f1
    rw [e3]
    simp only [List.length_replicate] at f4 ⊢
    obtain ⟨b, rp4, e4, g1, g2⟩ := S.l20Rd_odd_is (n := n) (rp := d2) hb hl (by omega) (by omega)
    rw [e4]
    simp only
    obtain ⟨v5, e5, _, _⟩ := S.l20Rd_pick_is (n := 3) (rp := rp4) hb hl (by omega) (by omega)
    rw [e5]
    simp only
    have e6 : IntKind.i64.wrap (1 + v1 - 1) = v1 := by rw [i64_wrap (by omega) (by omega)]; omega
    rw [e6]
    repeat' first
      | exact hleaf _ _ (by omega) (by omega) (by (try simp only [List.length_set, List.length_nil]); omega)
      | rw [cnd_t (by simp; omega)]
      | rw [cnd_f (by simp; omega)]
      | refine cnd_case (P := P) (fun _ => ?_) (fun _ => ?_)
  exact gen (fun t => ∃ rp' net, t = some (rb, rp', net) ∧ rp ≤ rp' ∧ rp' ≤ rp + 200 ∧ net.length ≤ 6) (fun d => some d) none (fun rp' net a b c => ⟨rp', net, rfl, a, b, c⟩)
theorem S.l20Open_is {code : List Int} (hb : Bytes code) : ∃ rb, S.l20Open_t code = some (rb, 0) ∧ Bytes rb ∧ rb.length ≤ 2000 := by
  unfold S.l20Open_t S.l20Open_tree
  by_cases h : (code.length : Int) > 2000
  · rw [cnd_t (by simpa using h), cnd_t (by simp; omega)]
    refine ⟨_, rfl, fun n hn => hb n ?_, ?_⟩
    · exact List.mem_of_mem_drop (List.mem_of_mem_take hn)
    · rw [List.length_take]; exact Nat.min_le_left _ _
  · rw [cnd_f (by simpa using h)]
    exact ⟨_, rfl, hb, by omega⟩
end Go.Proofs.Ytcfajdlkfpdonaa
/- What the draws give: nets of at most six places, sets and places within bounds. Conditions: those of each theorem. -/
namespace Go.Proofs.Ytcfajdlkfpdonaa
open D Go.RowKit
set_option linter.unusedVariables false
set_option linter.unusedSimpArgs false


theorem I.NetOk_12 : I.NetOk_t [2, 1] = some true := by rw [I.NetOk_is]; decide +kernel
theorem I.NetOk_1 : I.NetOk_t [1] = some false := by rw [I.NetOk_is]; decide +kernel
theorem L.alive_is : L.alive_t = some true := by
  unfold L.alive_t L.alive_tree
  rw [I.NetOk_12, I.NetOk_1]
  rfl
theorem tdiv_small {v a : Int} (h0 : 0 ≤ v) (h1 : v ≤ a) : v.tdiv a = 0 ∨ v.tdiv a = 1 := by
  have ha : 0 ≤ a := by omega
  rw [Int.tdiv_eq_ediv_of_nonneg h0]
  rcases Int.lt_or_eq_of_le h1 with h | h
  · exact .inl (Int.ediv_eq_zero_of_lt h0 h)
  · subst h
    by_cases hz : v = 0
    · subst hz; exact .inl rfl
    · exact .inr (Int.ediv_self hz)
theorem pow_le_64i {n : Nat} (h : n ≤ 6) : ((2 ^ n : Nat) : Int) ≤ 64 := by have := pow_le_64 h; omega
theorem len_shl {net : List Int} (h : net.length ≤ 6) : IntKind.i64.wrap (1 * 2 ^ min (↑net.length : Int).toNat IntKind.i64.bits) = ((2 ^ net.length : Nat) : Int) := one_shl (by omega)
theorem S.l20Set_is {rb : List Int} {rp n : Int} (hb : Bytes rb) (hl : rb.length ≤ 2000) (h0 : 0 ≤ rp) (h1 : rp ≤ 1000000) :
    ∃ rp' net v, S.l20Set_t rb rp n = some (v, rb, rp', net) ∧ rp ≤ rp' ∧ rp' ≤ rp + 300 ∧ net.length ≤ 6 ∧ 0 ≤ v ∧ v < 128 := by
  unfold S.l20Set_t S.l20Set_tree
  obtain ⟨rp1, net, e1, a1, a2, a3⟩ := S.l20Net_is (n := n) hb hl h0 h1
  rw [e1]
  simp only [optC]
  rw [len_shl a3]
  have hp := pow_le_64i a3
  obtain ⟨v, e2, b1, b2⟩ := S.l20Rd_pick_is (rp := rp1) (n := ((2 ^ net.length : Nat) : Int)) hb hl (by omega) (by omega)
  have b2' := b2 (by have : 0 < 2 ^ net.length := Nat.two_pow_pos _; omega)
  rw [e2]
  simp only
  obtain ⟨u, e3, c1, c2⟩ := S.l20Rd_pick_is (rp := rp1 + 1) (n := 40) hb hl (by omega) (by omega)
  have c2' := c2 (by decide)
  rw [e3]
  simp only
  rcases tdiv_small (v := u) (a := 39) c1 (by omega) with h | h
  · rw [h]
    refine ⟨_, _, _, rfl, by omega, by omega, a3, ?_⟩
    rw [i64_wrap (n := 0) (by decide) (by decide), i64_wrap (n := 0 * 64) (by decide) (by decide), i64_wrap (by omega) (by omega)]
    omega
  · rw [h]
    refine ⟨_, _, _, rfl, by omega, by omega, a3, ?_⟩
    rw [i64_wrap (n := 1) (by decide) (by decide), i64_wrap (n := 1 * 64) (by decide) (by decide), i64_wrap (by omega) (by omega)]
    omega
/-! ### The draws of the laws -/
end Go.Proofs.Ytcfajdlkfpdonaa
/- Draws that use watches; lists of all numbers of a kind. Conditions: those of each theorem. -/
namespace Go.Proofs.Ytcfajdlkfpdonaa
open D Go.RowKit
set_option linter.unusedVariables false
set_option linter.unusedSimpArgs false


end Go.Proofs.Ytcfajdlkfpdonaa
/- The model's functions of chapter 7 in natural numbers. Conditions: those of each theorem. -/
namespace Go.Proofs.Ytcfajdlkfpdonaa
open D Go.RowKit
set_option linter.unusedVariables false
set_option linter.unusedSimpArgs false


/-- The number at a place of a row. -/
def rv (row : List Int) (k : Nat) : Nat := (D.eli row k).toNat
def rowB (n : Nat) (row : List Int) : Bool := decide (row.length = n) && (List.range row.length).all fun k => decide (0 ≤ D.eli row k ∧ D.eli row k ≤ 2)
structure RowIs (n : Nat) (row : List Int) : Prop where
  len : row.length = n
  eq : ∀ k, k < n → D.eli row k = (rv row k : Int)
  le : ∀ k, k < n → rv row k ≤ 2
def romanB (net row : List Int) : Bool := (List.range net.length).all fun k => !(rv row k == 0 && (nb net k &&& withN net.length (rv row) 2) == 0)
def italianB (net row : List Int) : Bool := (List.range net.length).all fun k => !(rv row k == 0 && decide (help net (rv row) k < 2))
/-- The row of the digits of a number. -/
def digs (n m : Nat) : List Int := (List.range n).map fun k => ((dig n m k : Nat) : Int)
/-- The first least row of a kind, and the least sum. -/
def rowStep (n : Nat) (p : List Int → Bool) (best : List Int) (m : Nat) : List Int := if p (digs n m) = true ∧ (best.length = 0 ∨ sumN n (rv (digs n m)) < sumN n (rv best)) then digs n m else best
def bestRow (n : Nat) (p : List Int → Bool) : List Int := fold (3 ^ n) (rowStep n p) []
theorem roman_congr {net : List Int} {r q : Nat → Nat} (h : ∀ k, k < net.length → r k = q k) (hr : RomanP net r) : RomanP net q := fun k hk h0 => by
  obtain ⟨j, hj, a, b⟩ := hr k hk (by rw [h k hk]; exact h0)
  exact ⟨j, hj, a, by rw [← h j hj]; exact b⟩
/-- The least Roman row. -/
structure FirstRoman (net : List Int) (b : Nat) : Prop where
  lt : b < 3 ^ net.length
  roman : RomanP net (dig net.length b)
  le : ∀ m, m < 3 ^ net.length → RomanP net (dig net.length m) → sumN net.length (dig net.length b) ≤ sumN net.length (dig net.length m)
  first : ∀ m, m < b → RomanP net (dig net.length m) → sumN net.length (dig net.length b) < sumN net.length (dig net.length m)
theorem FirstRoman.uniq {net : List Int} {a b : Nat} (ha : FirstRoman net a) (hb : FirstRoman net b) : a = b := by
  have h1 := ha.le b hb.lt hb.roman
  have h2 := hb.le a ha.lt ha.roman
  rcases Nat.lt_trichotomy a b with hl | hl | hl
  · have := hb.first a hl ha.roman; omega
  · exact hl
  · have := ha.first b hl hb.roman; omega
theorem FirstRoman.min {net : List Int} {b : Nat} (hb : FirstRoman net b) : MinRow net.length (RomanP net) (sumN net.length (dig net.length b)) := by
  refine ⟨⟨dig net.length b, fun k _ => dig_lt _ _ _, hb.roman, rfl⟩, fun r hr hR => ?_⟩
  obtain ⟨m, hm, hd⟩ := dig_all hr
  have h1 := hb.le m hm (roman_congr (fun k hk => (hd k hk).symm) hR)
  rw [sumN_congr (f := dig net.length m) hd] at h1
  exact h1
def fewestRoman (net : List Int) : Nat := sumN net.length (rv (bestRow net.length (romanB net)))
def fewestItalian (net : List Int) : Nat := fold (3 ^ net.length) (fun t m => if italianB net (digs net.length m) = true then (if sumN net.length (rv (digs net.length m)) < t then sumN net.length (rv (digs net.length m)) else t) else t) net.length
/-- The row of a set. -/
def rowOf (net : List Int) (s : Nat) : List Int := fold net.length (fun l k => l ++ [((rowOfN net s k : Nat) : Int)]) []
def rowOfI (net : List Int) (s : Int) : List Int := if 0 ≤ s ∧ s < 2 ^ net.length then rowOf net s.toNat else []
end Go.Proofs.Ytcfajdlkfpdonaa
/- The model's functions of chapter 8 in natural numbers. Conditions: those of each theorem. -/
namespace Go.Proofs.Ytcfajdlkfpdonaa
open D Go.RowKit
set_option linter.unusedVariables false
set_option linter.unusedSimpArgs false


/-- Can a guard come? -/
def canB (net : List Int) (s t : Nat) : Bool := (List.range net.length).any fun f => s.testBit f && ((nb net t).testBit f && W net (moved s f t))
def secureB (net : List Int) (s : Nat) : Bool := W net s && (List.range net.length).all fun k => !(!s.testBit k && !canB net s k)
def fewestSecure (net : List Int) : Nat := minSize net (secureB net)
def leaveB (net : List Int) (r : Nat → Nat) (p : Nat) : Bool := (List.range net.length).any fun f => decide (1 ≤ r f) && ((nb net p).testBit f && W net (withN net.length (leave r f p) 1))
def weakB (net row : List Int) : Bool := (List.range net.length).all fun k => !(rv row k == 0 && !leaveB net (rv row) k)
def fewestWeak (net : List Int) : Nat := fold (3 ^ net.length) (fun t m => if weakB net (digs net.length m) = true then (if sumN net.length (rv (digs net.length m)) < t then sumN net.length (rv (digs net.length m)) else t) else t) net.length
end Go.Proofs.Ytcfajdlkfpdonaa
/- The model's functions of chapter 12 in natural numbers: the game by turns. Conditions: those of each theorem. -/
namespace Go.Proofs.Ytcfajdlkfpdonaa
open D Go.RowKit
set_option linter.unusedVariables false
set_option linter.unusedSimpArgs false


theorem leg_pos (net : List Int) (A k : Nat) : decide (((minus (ball net k) A : Nat) : Int) > 0) = leg net A k := by
  unfold leg; rw [Bool.eq_iff_iff, decide_eq_true_eq, bne_iff_ne]; omega
theorem S.l12New_n {net : List Int} (h : Ok net) {A k : Nat} (hA : A < 2 ^ net.length) (hk : k < net.length) : S.l12New_t net (A : Int) (k : Int) = some (leg net A k) := by
  unfold S.l12New_t S.l12New_tree
  have h6 := h.hi
  have h64 := h.pow
  have hnb := h.lt64 hk
  have h2 : 2 ^ k < 2 ^ 6 := Nat.pow_lt_pow_right (by omega) (by omega)
  have hbl := h.ball_lt hk
  rw [cnd_t (by simp; omega), cnd_f (by simp), one_shl (by omega), Int.toNat_natCast, h.eli hk, i64_or_nat _ _ (by omega) (by omega), show nb net k ||| 2 ^ k = ball net k from rfl, i64_andNot_nat _ _ (by omega) (by omega), leg_pos]
def mayB (net : List Int) (s p : Int) : Bool := decide (0 ≤ s ∧ s < 2 ^ net.length) && (decide (0 ≤ p ∧ p < net.length) && leg net s.toNat p.toNat)
theorem S.PlayMay_x {net : List Int} (e : S.NetOk_t net = some false) (s p : Int) : S.PlayMay_t net s p = some false := by
  unfold S.PlayMay_t S.PlayMay_tree; rw [S.l1SetOk_x e]; rfl
theorem S.PlayMay_n {net : List Int} (h : Ok net) (e : S.NetOk_t net = some true) (s p : Int) : S.PlayMay_t net s p = some (mayB net s p) := by
  unfold S.PlayMay_t S.PlayMay_tree
  rw [S.l1SetOk_n h e]
  simp only [optC]
  unfold mayB
  rcases set_cases h s with ⟨t, rfl, ht, hd⟩ | hd
  · rw [hd, cond_true, S.l1In_is, l1In_place h]
    simp only
    rcases place_cases net p with ⟨k, rfl, hk, hd2⟩ | hd2
    · rw [hd2, cond_true, S.l12New_n h ht hk]
      simp
    · rw [hd2]; rfl
  · rw [hd]; rfl
/-- A number that there may be. -/
def enc : Option Nat → Int
  | none => -1
  | some b => (b : Int)
def stepI (p : Nat → Bool) (f : Nat → Nat) (few : Bool) (t : Int) (k : Nat) : Int := if p k = true then (if t < 0 then ((f k : Nat) : Int) else if (few && decide (((f k : Nat) : Int) < t) || !few && decide (((f k : Nat) : Int) > t)) = true then ((f k : Nat) : Int) else t) else t
noncomputable def gameI (net : List Int) (s : Int) (few : Bool) : Int := if 0 ≤ s ∧ s < 2 ^ net.length then ((game net s.toNat few : Nat) : Int) else -1
/-- The least place of who plays as well as possible; -1 if all is seen. -/
def playP (net : List Int) (A : Nat) (few : Bool) (k : Nat) : Bool := leg net A k && (1 + game net (A ||| ball net k) (!few) == game net A few)
def playK (net : List Int) (A : Nat) (few : Bool) : Int := (find net.length (fun k => if playP net A few k = true then some (k : Int) else none)).getD (-1)
noncomputable def bestI (net : List Int) (s : Int) (few : Bool) : Int := if 0 ≤ s ∧ s < 2 ^ net.length then playK net s.toNat few else -1
/-- The plays, one after the other, as far as n more can be. -/
def playN (net : List Int) : Nat → Nat → Bool → List Int
  | 0, _, _ => []
  | n + 1, A, few => if A = allOf net then [] else playK net A few :: playN net n (A ||| ball net (playK net A few).toNat) (!few)
def plays (net : List Int) (few : Bool) : List Int := playN net 7 0 few
end Go.Proofs.Ytcfajdlkfpdonaa
/- Guards that answer for ever, one at a time: plain facts. Conditions: those of each theorem. -/
namespace Go.Proofs.Ytcfajdlkfpdonaa
set_option linter.unusedVariables false
set_option linter.unusedSimpArgs false

/-- A family of sets that can answer each place by one move, and be in the family again. -/
def Closed1 (net : List Int) (F : Nat → Prop) : Prop := ∀ t, t < 2 ^ net.length → F t → ∀ k, k < net.length → t.testBit k = false → ∃ f, t.testBit f = true ∧ (nb net k).testBit f = true ∧ F (moved t f k)
def Eternal (net : List Int) (s : Nat) : Prop := ∃ F, Closed1 net F ∧ F s
end Go.Proofs.Ytcfajdlkfpdonaa
/- Packings and forests: plain facts. Conditions: those of each theorem. -/
namespace Go.Proofs.Ytcfajdlkfpdonaa
set_option linter.unusedVariables false
set_option linter.unusedSimpArgs false

def packed (net : List Int) (s : Nat) : Bool := (List.range net.length).all fun k => !decide (1 < size (ball net k &&& s))
/-- No two guards see one place. -/
def Packed (net : List Int) (s : Nat) : Prop := ∀ i j w, s.testBit i = true → s.testBit j = true → (ball net i).testBit w = true → (ball net j).testBit w = true → i = j
theorem Packed.mono {net : List Int} {s t : Nat} (hst : ∀ j, t.testBit j = true → s.testBit j = true) (hp : Packed net s) : Packed net t := fun i j w hi hj => hp i j w (hst i hi) (hst j hj)
theorem Packed.apart {net : List Int} (h : Ok net) {s : Nat} (hs : s < 2 ^ net.length) (hp : Packed net s) : Apart net s := fun j k hj hk => not_true fun hx => by
  have := hp j k k hj hk ((ball_testBit _ _ _).2 (.inl hx)) (sees_self net k)
  rw [this, h.irr k (in_lt hs hk)] at hx; cases hx
/-- The least places of the parts. -/
def roots (net : List Int) : Nat := orN net.length (root net) (fun k => 2 ^ k)
/-! ### Forests -/
/-- Places go one by one, each with at most one neighbour left. -/
inductive Peel (net : List Int) : Nat → Prop
  | zero : Peel net 0
  | step {s k : Nat} : s.testBit k = true → size (nb net k &&& s) ≤ 1 → Peel net (s - 2 ^ k) → Peel net s
/-- Nobody can go. -/
def Stuck (net : List Int) (s : Nat) : Prop := ∀ k, s.testBit k = true → 2 ≤ size (nb net k &&& s)
end Go.Proofs.Ytcfajdlkfpdonaa
/- Cliques: plain facts. Conditions: those of each theorem. -/
namespace Go.Proofs.Ytcfajdlkfpdonaa
set_option linter.unusedVariables false
set_option linter.unusedSimpArgs false

/-- Places with the same number are neighbours. -/
def CliqueP (net : List Int) (c : Nat → Nat) : Prop := ∀ i j, i < net.length → j < net.length → c i = c j → i ≠ j → (nb net i).testBit j = true
/-- At most so many cliques have all places. -/
def InCliques (net : List Int) (m : Nat) : Prop := ∃ c : Nat → Nat, CliqueP net c ∧ ∀ i, i < net.length → c i < m
/-- One guard in each clique that has a place. -/
def OneEach (net : List Int) (c : Nat → Nat) (s : Nat) : Prop := ∀ k, k < net.length → ∃ g, g < net.length ∧ s.testBit g = true ∧ c g = c k
/-- All places are alone in a clique each. -/
theorem cliques_all (net : List Int) : InCliques net net.length := ⟨fun i => i, fun i j _ _ he hne => absurd he hne, fun i hi => hi⟩
def Clique (net : List Int) (s : Nat) : Prop := ∀ i j, s.testBit i = true → s.testBit j = true → i ≠ j → (nb net i).testBit j = true
end Go.Proofs.Ytcfajdlkfpdonaa
/- Cliques of forests: as many as are apart. Conditions: those of each theorem. -/
namespace Go.Proofs.Ytcfajdlkfpdonaa
set_option linter.unusedVariables false
set_option linter.unusedSimpArgs false

end Go.Proofs.Ytcfajdlkfpdonaa
/- Rows of cliques and of shares: plain facts. Conditions: those of each theorem. -/
namespace Go.Proofs.Ytcfajdlkfpdonaa
open D Go.RowKit
set_option linter.unusedVariables false
set_option linter.unusedSimpArgs false

/-- The places with a number. -/
def setL (r : List Nat) (v : Nat) : Nat := orN r.length (fun k => decide (r.getD k 0 = v)) (fun k => 2 ^ k)
theorem setL_bit {r : List Nat} {v j : Nat} : (setL r v).testBit j = true ↔ j < r.length ∧ r.getD j 0 = v := by
  unfold setL
  rw [orN_testBit]
  constructor
  · rintro ⟨k, hk, a, b⟩
    rw [testBit_pow, decide_eq_true_eq] at b
    subst b
    exact ⟨hk, by simpa using a⟩
  · rintro ⟨a, b⟩
    exact ⟨j, a, by simpa using b, by rw [testBit_pow]; simp⟩
theorem setL_lt {r : List Nat} {v n : Nat} (hn : r.length ≤ n) : setL r v < 2 ^ n := orN_lt fun k hk _ => Nat.pow_lt_pow_right (by omega) (by omega)
def CliqueL (net : List Int) (r : List Nat) : Prop := ∀ i j, i < r.length → j < r.length → i ≠ j → r.getD i 0 = r.getD j 0 → (nb net i).testBit j = true
theorem CliqueL.nil (net : List Int) : CliqueL net [] := fun i j hi => by simp at hi
theorem CliqueL.sets {net : List Int} {r : List Nat} (h : CliqueL net r) (v : Nat) : Clique net (setL r v) := fun i j hi hj hne => by
  obtain ⟨a, b⟩ := setL_bit.1 hi
  obtain ⟨c, d⟩ := setL_bit.1 hj
  exact h i j a c hne (by omega)
theorem CliqueL.of_sets {net : List Int} {r : List Nat} (h : ∀ v, v < nx r → Clique net (setL r v)) : CliqueL net r := fun i j hi hj hne he =>
  h (r.getD i 0) (by have e : r.getD i 0 = r[i] := by simp [List.getD, hi]
                     rw [e]; exact nx_gt (List.getElem_mem hi)) i j (setL_bit.2 ⟨hi, rfl⟩) (setL_bit.2 ⟨hj, he.symm⟩) hne
theorem CliqueL.append {net : List Int} {r : List Nat} {v : Nat} : CliqueL net (r ++ [v]) ↔ CliqueL net r ∧ Clique net (setL (r ++ [v]) v) := by
  constructor
  · intro h
    refine ⟨fun i j hi hj hne he => h i j (by simp; omega) (by simp; omega) hne (by rw [getD_app_lt hi, getD_app_lt hj]; exact he), h.sets v⟩
  · rintro ⟨h1, h2⟩ i j hi hj hne he
    simp only [List.length_append, List.length_singleton] at hi hj
    by_cases a : i < r.length
    · by_cases b : j < r.length
      · rw [getD_app_lt a, getD_app_lt b] at he
        exact h1 i j a b hne he
      · obtain rfl : j = r.length := by omega
        rw [getD_app_lt a, getD_app_end] at he
        exact h2 i r.length (setL_bit.2 ⟨by simp; omega, by rw [getD_app_lt a]; exact he⟩) (setL_bit.2 ⟨by simp, getD_app_end r v⟩) hne
    · obtain rfl : i = r.length := by omega
      have b : j < r.length := by omega
      rw [getD_app_lt b, getD_app_end] at he
      exact h2 r.length j (setL_bit.2 ⟨by simp, getD_app_end r v⟩) (setL_bit.2 ⟨by simp; omega, by rw [getD_app_lt b]; exact he.symm⟩) hne
theorem CliqueL.pre {net : List Int} {r q : List Nat} (h : CliqueL net q) (hp : r <+: q) : CliqueL net r := fun i j hi hj hne he => by
  have hl := hp.length_le
  exact h i j (by omega) (by omega) hne (by rw [pre_at hp hi, pre_at hp hj]; exact he)
/-- A row of at most so many cliques. -/
structure CRow (net : List Int) (m : Nat) (q : List Nat) : Prop where
  len : q.length = net.length
  rg : RG q
  le : nx q ≤ m
  cl : CliqueL net q
/-- In a row that counts up each number is there. -/
theorem RG.all {r : List Nat} (h : RG r) : ∀ v, v < nx r → ∃ k, k < r.length ∧ r.getD k 0 = v := by
  have key : ∀ m, m ≤ r.length → ∀ v, v < nx (r.take m) → ∃ k, k < m ∧ r.getD k 0 = v := by
    intro m
    induction m with
    | zero => intro _ v hv; simp [nx] at hv
    | succ m ih =>
      intro hm v hv
      rw [nx_take_succ (by omega)] at hv
      by_cases hlt : v < nx (r.take m)
      · obtain ⟨k, hk, e⟩ := ih (by omega) v hlt
        exact ⟨k, by omega, e⟩
      · have := h m (by omega)
        exact ⟨m, by omega, by omega⟩
  intro v hv
  exact key r.length (Nat.le_refl _) v (by rwa [List.take_length])
/-- A row with the same parts, that counts up. -/
theorem renumber (c : Nat → Nat) : ∀ n, ∃ q : List Nat, q.length = n ∧ RG q ∧ ∀ i j, i < n → j < n → (q.getD i 0 = q.getD j 0 ↔ c i = c j) := by
  intro n
  induction n with
  | zero => exact ⟨[], rfl, RG.nil, fun i j hi => by omega⟩
  | succ n ih =>
    obtain ⟨q, h1, h2, h3⟩ := ih
    by_cases hex : ∃ i, i < n ∧ c i = c n
    · obtain ⟨i, hi, he⟩ := hex
      have hmem : q.getD i 0 < nx q := by
        have e : q.getD i 0 = q[i] := by simp [List.getD, show i < q.length by omega]
        rw [e]; exact nx_gt (List.getElem_mem _)
      refine ⟨q ++ [q.getD i 0], by simp [h1], RG_append.2 ⟨h2, by omega⟩, fun a b ha hb => ?_⟩
      have val : ∀ a, a < n + 1 → ∃ a', a' < n ∧ (q ++ [q.getD i 0]).getD a 0 = q.getD a' 0 ∧ c a' = c a := fun a ha => by
        by_cases hlt : a < n
        · exact ⟨a, hlt, getD_app_lt (by omega), rfl⟩
        · obtain rfl : a = n := by omega
          exact ⟨i, hi, by rw [← h1]; exact getD_app_end _ _, he⟩
      obtain ⟨a', a1, a2, a3⟩ := val a ha
      obtain ⟨b', b1, b2, b3⟩ := val b hb
      rw [a2, b2, h3 a' b' a1 b1, a3, b3]
    · refine ⟨q ++ [nx q], by simp [h1], RG_append.2 ⟨h2, Nat.le_refl _⟩, fun a b ha hb => ?_⟩
      have lt : ∀ a, a < n → (q ++ [nx q]).getD a 0 = q.getD a 0 ∧ q.getD a 0 < nx q := fun a ha => by
        have e : q.getD a 0 = q[a] := by simp [List.getD, show a < q.length by omega]
        exact ⟨getD_app_lt (by omega), by rw [e]; exact nx_gt (List.getElem_mem _)⟩
      have last : (q ++ [nx q]).getD n 0 = nx q := by rw [← h1]; exact getD_app_end _ _
      by_cases h1a : a < n
      · by_cases h1b : b < n
        · rw [(lt a h1a).1, (lt b h1b).1]; exact h3 a b h1a h1b
        · obtain rfl : b = n := by omega
          rw [(lt a h1a).1, last]
          have := (lt a h1a).2
          exact ⟨fun e => by omega, fun e => absurd ⟨a, h1a, e⟩ hex⟩
      · obtain rfl : a = n := by omega
        by_cases h1b : b < a
        · rw [(lt b h1b).1, last]
          have := (lt b h1b).2
          exact ⟨fun e => by omega, fun e => absurd ⟨b, h1b, e.symm⟩ hex⟩
        · obtain rfl : b = a := by omega
          exact ⟨fun _ => rfl, fun _ => rfl⟩
theorem nx_le_of {c : Nat → Nat} {q : List Nat} {m : Nat} (hr : RG q) (hq : ∀ i j, i < q.length → j < q.length → (q.getD i 0 = q.getD j 0 ↔ c i = c j)) (hc : ∀ i, i < q.length → c i < m) : nx q ≤ m := by
  have hpick : ∀ v, ∃ k, v < nx q → k < q.length ∧ q.getD k 0 = v := fun v => by
    by_cases hv : v < nx q
    · obtain ⟨k, hk, e⟩ := hr.all v hv; exact ⟨k, fun _ => ⟨hk, e⟩⟩
    · exact ⟨0, fun h => absurd h hv⟩
  have := cnt_inj (n := nx q) (m := m) (p := fun _ => true) (q := fun _ => true) (fun v => c (hpick v).choose) (fun v hv _ => ⟨hc _ ((hpick v).choose_spec hv).1, rfl⟩) (fun u v hu hv _ _ he => by
    obtain ⟨a1, a2⟩ := (hpick u).choose_spec hu
    obtain ⟨b1, b2⟩ := (hpick v).choose_spec hv
    have := (hq _ _ a1 b1).2 he
    omega)
  rwa [cnt_true, cnt_true] at this
theorem crow_of {net : List Int} {m : Nat} (h : InCliques net m) : ∃ q, CRow net m q := by
  obtain ⟨c, hc, hm⟩ := h
  obtain ⟨q, h1, h2, h3⟩ := renumber c net.length
  refine ⟨q, h1, h2, nx_le_of (c := c) h2 (fun i j hi hj => h3 i j (by omega) (by omega)) (fun i hi => hm i (by omega)), fun i j hi hj hne he => ?_⟩
  exact hc i j (by omega) (by omega) ((h3 i j (by omega) (by omega)).1 he) hne
theorem of_crow {net : List Int} {m : Nat} {q : List Nat} (h : CRow net m q) : InCliques net m := by
  refine ⟨fun i => q.getD i 0, fun i j hi hj he hne => h.cl i j (by rw [h.len]; exact hi) (by rw [h.len]; exact hj) hne he, fun i hi => ?_⟩
  have e : q.getD i 0 = q[i]'(by rw [h.len]; exact hi) := by simp [List.getD, h.len, hi]
  have := nx_gt (List.getElem_mem (l := q) (n := i) (by rw [h.len]; exact hi))
  have := h.le
  simp only [e]
  omega
/-- So few cliques have all places. -/
structure MinCl (net : List Int) (m : Nat) : Prop where
  ex : InCliques net m
  le : ∀ k, InCliques net k → m ≤ k
theorem MinCl.uniq {net : List Int} {a b : Nat} (ha : MinCl net a) (hb : MinCl net b) : a = b := Nat.le_antisymm (ha.le b hb.ex) (hb.le a ha.ex)
theorem minCl_ex (net : List Int) : ∃ m, m ≤ net.length ∧ MinCl net m := by
  have key : ∀ b, InCliques net b → ∃ m, m ≤ b ∧ MinCl net m := by
    intro b
    induction b using Nat.strongRecOn with
    | _ b ih =>
      intro hb
      by_cases hex : ∃ k, k < b ∧ InCliques net k
      · obtain ⟨k, hk, hi⟩ := hex
        obtain ⟨m, hm, hM⟩ := ih k hk hi
        exact ⟨m, by omega, hM⟩
      · exact ⟨b, Nat.le_refl _, hb, fun k hk => Nat.not_lt.1 fun hlt => hex ⟨k, hlt, hk⟩⟩
  exact key _ (cliques_all net)
noncomputable def fewestCl (net : List Int) : Nat := (minCl_ex net).choose
theorem fewestCl_min (net : List Int) : MinCl net (fewestCl net) := (minCl_ex net).choose_spec.2
theorem fewestCl_le (net : List Int) : fewestCl net ≤ net.length := (minCl_ex net).choose_spec.1
theorem fewestCl_pos {net : List Int} (h : 1 ≤ net.length) : 1 ≤ fewestCl net := by
  obtain ⟨c, _, hc⟩ := (fewestCl_min net).ex
  have := hc 0 (by omega)
  omega
theorem crow_nx {net : List Int} {q : List Nat} (h : CRow net (fewestCl net) q) : nx q = fewestCl net := by
  have := (fewestCl_min net).le (nx q) (of_crow ⟨h.len, h.rg, Nat.le_refl _, h.cl⟩)
  have := h.le
  omega
end Go.Proofs.Ytcfajdlkfpdonaa
/- Watches that share the places, a net and its other net: plain facts. Conditions: those of each theorem. -/
namespace Go.Proofs.Ytcfajdlkfpdonaa
set_option linter.unusedVariables false
set_option linter.unusedSimpArgs false

/-- All places shared out among so many watches. -/
def SharesP (net : List Int) (c : Nat → Nat) (m : Nat) : Prop := (∀ i, i < net.length → c i < m) ∧ ∀ q, q < m → ∀ j, j < net.length → ∃ i, i < net.length ∧ c i = q ∧ (ball net j).testBit i = true
def InShares (net : List Int) (m : Nat) : Prop := ∃ c : Nat → Nat, SharesP net c m
/-- The places with a number. -/
def classOf (n : Nat) (c : Nat → Nat) (q : Nat) : Nat := orN n (fun k => c k == q) (fun k => 2 ^ k)
/-! ### The other net -/
/-- Just those are neighbours that are not in the net. -/
structure Other (net o : List Int) : Prop where
  ok : Ok o
  len : o.length = net.length
  bit : ∀ i j, i < net.length → j < net.length → (nb o i).testBit j = (!decide (i = j) && !(nb net i).testBit j)
/-- Each place by a guard of the watch that sees it. -/
structure Served (net : List Int) (D : Nat) (p : Nat → Nat) : Prop where
  mem : ∀ v, v < net.length → D.testBit (p v) = true
  sees : ∀ v, v < net.length → (ball net (p v)).testBit v = true
  own : ∀ d, D.testBit d = true → p d = d
/-- Who sees all that are served with it. -/
noncomputable def univ (net : List Int) (p : Nat → Nat) (v : Nat) : Bool := @decide (∀ u, u < net.length → p u = p v → (ball net v).testBit u = true) (Classical.propDecidable _)
end Go.Proofs.Ytcfajdlkfpdonaa
/- The other net. Conditions: those of each theorem. -/
namespace Go.Proofs.Ytcfajdlkfpdonaa
open D Go.RowKit
set_option linter.unusedVariables false
set_option linter.unusedSimpArgs false

def otherN (net : List Int) : List Int := (List.range net.length).map fun k => ((minus (allOf net) (ball net k) : Nat) : Int)
theorem otherN_len (net : List Int) : (otherN net).length = net.length := by simp [otherN]
theorem otherN_eli {net : List Int} {k : Nat} (hk : k < net.length) : D.eli (otherN net) k = ((minus (allOf net) (ball net k) : Nat) : Int) := by unfold D.eli otherN; simp [List.getD, hk]
theorem otherN_nb {net : List Int} {k : Nat} (hk : k < net.length) : nb (otherN net) k = minus (allOf net) (ball net k) := by
  show (D.eli (otherN net) k).toNat = _
  rw [otherN_eli hk]; omega
theorem otherN_bit {net : List Int} (h : Ok net) {i : Nat} (hi : i < net.length) (j : Nat) : (nb (otherN net) i).testBit j = (decide (j < net.length) && (!decide (i = j) && !(nb net i).testBit j)) := by
  have h64 := h.pow
  have ha := allOf_lt net
  have hb := h.ball_lt hi
  rw [otherN_nb hi, minus_testBit _ _ (by omega) (by omega), allOf_testBit]
  congr 1
  unfold ball
  rw [Nat.testBit_or, testBit_pow, Bool.not_or, Bool.and_comm]
theorem otherN_ok {net : List Int} (h : Ok net) : Ok (otherN net) := by
  have hl := otherN_len net
  refine ⟨by rw [hl]; exact h.lo, by rw [hl]; exact h.hi, fun k hk => ?_, fun k hk => ?_, fun j k hj hk => ?_, fun k hk => ?_⟩
  · rw [hl] at hk
    show D.eli (otherN net) k = ((D.eli (otherN net) k).toNat : Int)
    rw [otherN_eli hk]; omega
  · rw [hl] at hk ⊢
    rw [otherN_nb hk]
    exact Nat.lt_of_le_of_lt Nat.and_le_left (allOf_lt net)
  · rw [hl] at hj hk
    rw [otherN_bit h hk, otherN_bit h hj, h.sym j k hj hk]
    have e : decide (k = j) = decide (j = k) := by rw [decide_eq_decide]; exact ⟨Eq.symm, Eq.symm⟩
    rw [decide_eq_true hj, decide_eq_true hk, e]
  · rw [hl] at hk
    rw [otherN_bit h hk]; simp
/-- Nets with the same neighbours are the same. -/
theorem nets_eq {net o : List Int} (h : Ok net) (ho : Ok o) (hl : o.length = net.length) (hb : ∀ i j, i < net.length → j < net.length → (nb o i).testBit j = (nb net i).testBit j) : o = net := by
  refine List.ext_getElem hl fun k h1 h2 => ?_
  have e1 := ho.eli h1
  have e2 := h.eli h2
  have e3 : nb o k = nb net k := eq_of_bits (n := net.length) (by rw [← hl]; exact ho.lt k h1) (h.lt k h2) fun j hj => hb k j h2 hj
  rw [e3, ← e2] at e1
  unfold D.eli at e1
  simpa [List.getD, h1, h2] using e1
theorem otherN_twice {net : List Int} (h : Ok net) : otherN (otherN net) = net := by
  have ho := otherN_ok h
  have hl := otherN_len net
  refine nets_eq h (otherN_ok ho) (by rw [otherN_len, hl]) fun i j hi hj => ?_
  rw [otherN_bit ho (by omega), otherN_bit h hi, hl, decide_eq_true hj]
  by_cases he : i = j
  · subst he; rw [h.irr i hi]; simp
  · simp [he]
theorem clique_other {net : List Int} (h : Ok net) {s : Nat} (hs : s < 2 ^ net.length) : Clique net s ↔ Apart (otherN net) s := by
  have hin : ∀ {i}, s.testBit i = true → i < net.length := fun hi => in_lt hs hi
  constructor
  · intro hc i j hi hj
    rw [otherN_bit h (hin hi), decide_eq_true (hin hj), Bool.true_and]
    by_cases he : i = j
    · subst he; simp
    · rw [hc i j hi hj he]; simp
  · intro ha i j hi hj hne
    have := ha i j hi hj
    rw [otherN_bit h (hin hi), decide_eq_true (hin hj), decide_eq_false hne] at this
    simpa using this
theorem wires_other {net : List Int} (h : Ok net) : 2 * wires net + 2 * wires (otherN net) + net.length = net.length * net.length := by
  have ho := otherN_ok h
  have hl := otherN_len net
  have b1 := balls_sum h
  have b2 := balls_sum ho
  rw [hl] at b2
  have hs : sumN net.length (fun k => size (ball net k) + size (ball (otherN net) k)) = sumN net.length (fun _ => net.length + 1) := sumN_congr fun k hk => by
    rw [ball_size h hk, ball_size ho (by omega)]
    have e1 := h.size_eq (h.lt k hk)
    have e2 := ho.size_eq (ho.lt k (by omega))
    rw [hl] at e2
    rw [e1, e2, card_sum, card_sum]
    have := cnt_not net.length (fun j => (ball net k).testBit j)
    have hb := h.size_eq (h.ball_lt hk)
    rw [card_sum, ball_size h hk, e1, card_sum] at hb
    have hc : cnt net.length (fun j => (nb (otherN net) k).testBit j) = cnt net.length (fun j => !(ball net k).testBit j) := cnt_congr fun j hj => by
      rw [otherN_bit h hk, decide_eq_true hj, Bool.true_and]
      unfold ball
      rw [Nat.testBit_or, testBit_pow, Bool.not_or, Bool.and_comm]
    omega
  rw [sumN_add, sumN_const, b1, b2] at hs
  have : net.length * (net.length + 1) = net.length * net.length + net.length := Nat.mul_succ _ _
  omega
theorem parts_other {net : List Int} (h : Ok net) : parts net = 1 ∨ parts (otherN net) = 1 := by
  have ho := otherN_ok h
  have hl := otherN_len net
  by_cases h1 : parts net = 1
  · exact .inl h1
  right
  rw [one_part ho]
  have hno : ¬ ∀ j k, j < net.length → k < net.length → (comp net j).testBit k = true := fun hc => h1 ((one_part h).2 hc)
  intro x y hx hy
  rw [hl] at hx hy
  -- somebody is not of the part of x
  have hz : ∃ z, z < net.length ∧ (comp net x).testBit z = false := Classical.byContradiction fun hn => hno fun j k hj hk => by
    have hx1 : ∀ z, z < net.length → (comp net x).testBit z = true := fun z hz => by
      cases hb : (comp net x).testBit z with
      | true => rfl
      | false => exact absurd ⟨z, hz, hb⟩ hn
    rw [← h.comp_same hx hj (hx1 j hj)]
    exact hx1 k hk
  have step : ∀ a b, a < net.length → b < net.length → a ≠ b → (nb net a).testBit b = false → (nb (otherN net) a).testBit b = true := fun a b ha hb hne hnb => by
    rw [otherN_bit h ha, decide_eq_true hb, decide_eq_false hne, hnb]; rfl
  have inall : ∀ a, a < net.length → (allOf (otherN net)).testBit a = true := fun a ha => by rw [allOf_testBit, hl]; simpa using ha
  have far : ∀ a z, a < net.length → z < net.length → (comp net a).testBit z = false → a ≠ z ∧ (nb net a).testBit z = false := fun a z ha hz hc => by
    refine ⟨fun e => (by rw [e, h.comp_self hz] at hc; cases hc), not_true fun hb => ?_⟩
    have : (comp net a).testBit z = true := (h.comp_testBit ha z).2 (.step (.here (by rw [allOf_testBit]; simpa using ha)) ha hb (by rw [allOf_testBit]; simpa using hz))
    rw [this] at hc; cases hc
  rw [ho.comp_testBit (by omega)]
  have here : Reach (otherN net) (allOf (otherN net)) x x := .here (inall x hx)
  by_cases he : x = y
  · subst he; exact here
  cases hb : (nb net x).testBit y with
  | false => exact .step here (by omega) (step x y hx hy he hb) (inall y hy)
  | true =>
    obtain ⟨z, hz, hc⟩ := hz
    obtain ⟨n1, f1⟩ := far x z hx hz hc
    have hxy : comp net x = comp net y := h.comp_same hx hy ((h.comp_testBit hx y).2 (.step (.here (by rw [allOf_testBit]; simpa using hx)) hx hb (by rw [allOf_testBit]; simpa using hy)))
    obtain ⟨n2, f2⟩ := far y z hy hz (by rw [← hxy]; exact hc)
    have f2' : (nb net z).testBit y = false := by rw [h.sym y z hy hz]; exact f2
    exact .step (.step here (by omega) (step x z hx hz n1 f1) (inall z hz)) (by omega) (step z y hz hy (fun e => n2 e.symm) f2') (inall y hy)
end Go.Proofs.Ytcfajdlkfpdonaa
/- The model's functions of chapter 9 in natural numbers. Conditions: those of each theorem. -/
namespace Go.Proofs.Ytcfajdlkfpdonaa
open D Go.RowKit
set_option linter.unusedVariables false
set_option linter.unusedSimpArgs false


/-- Can this guard come, so that a set of the list is there? -/
def ansP (net : List Int) (l : List Bool) (s t f : Nat) : Bool := s.testBit f && ((nb net t).testBit f && D.elb l (moved s f t))
def ansI (net : List Int) (l : List Bool) (s t : Nat) : Int := (find net.length (fun f => if ansP net l s t f = true then some (f : Int) else none)).getD (-1)
def holdsB (net : List Int) (l : List Bool) (s : Nat) : Bool := ((List.range net.length).all fun k => !(!s.testBit k && decide (ansI net l s k < 0))) && D.elb l s
noncomputable def eternalB (net : List Int) (s : Nat) : Bool := @decide (Eternal net s) (Classical.propDecidable _)
noncomputable def lasts (net : List Int) : List Bool := (List.range (2 ^ net.length)).map (eternalB net)
noncomputable def fewestEternal (net : List Int) : Nat := minSize net (eternalB net)
/-- The answer of an eternal set. -/
noncomputable def answerI (net : List Int) (s p : Int) : Int := if (0 ≤ s ∧ s < 2 ^ net.length) ∧ (0 ≤ p ∧ p < net.length) ∧ eternalB net s.toNat = true ∧ s.toNat.testBit p.toNat = false then ansI net (lasts net) s.toNat p.toNat else -1
end Go.Proofs.Ytcfajdlkfpdonaa
/- All guards move: who can go where, by Hall's condition. Conditions: those of each theorem. -/
namespace Go.Proofs.Ytcfajdlkfpdonaa
set_option linter.unusedVariables false
set_option linter.unusedSimpArgs false

theorem size_eq6 {s : Nat} (hs : s < 64) : size s = cnt 6 (fun k => s.testBit k) := by unfold size; rw [card_sum]
theorem in6 {s k : Nat} (hs : s < 64) (hk : s.testBit k = true) : k < 6 := testBit_lt (n := 6) hs hk
theorem size_mono6 {s t : Nat} (hs : s < 64) (ht : t < 64) (h : ∀ j, s.testBit j = true → t.testBit j = true) : size s ≤ size t := by
  rw [size_eq6 hs, size_eq6 ht]; exact cnt_mono fun k _ => h k
theorem size_disj {s t : Nat} (hs : s < 64) (ht : t < 64) (h : ∀ j, s.testBit j = true → t.testBit j = false) : size (s ||| t) = size s + size t := by
  have hl : s ||| t < 2 ^ 6 := Nat.or_lt_two_pow (by omega) (by omega)
  rw [size_eq6 hs, size_eq6 ht, size_eq6 (by omega)]
  unfold cnt
  rw [← sumN_add]
  refine sumN_congr fun k _ => ?_
  show ((s ||| t).testBit k).toNat = (s.testBit k).toNat + (t.testBit k).toNat
  rw [Nat.testBit_or]
  cases hb : s.testBit k with
  | false => simp
  | true => rw [h k hb]; rfl
theorem diff_testBit {s t : Nat} (hs : s < 64) (ht : t < 64) (j : Nat) : (minus s t).testBit j = true ↔ s.testBit j = true ∧ t.testBit j = false := by
  rw [minus_testBit _ _ (by omega) (by omega), Bool.and_eq_true, Bool.not_eq_true']
theorem diff_lt {s t : Nat} (hs : s < 64) : minus s t < 64 := Nat.lt_of_le_of_lt Nat.and_le_left hs
theorem size_diff {s t : Nat} (hs : s < 64) (ht : t < 64) (h : ∀ j, t.testBit j = true → s.testBit j = true) : size (minus s t) + size t = size s := by
  rw [← size_disj (diff_lt hs) ht (fun j hj => ((diff_testBit hs ht j).1 hj).2)]
  congr 1
  apply Nat.eq_of_testBit_eq
  intro j
  rw [Bool.eq_iff_iff, or2, diff_testBit hs ht]
  constructor
  · rintro (⟨a, _⟩ | a)
    · exact a
    · exact h j a
  · intro a
    cases hb : t.testBit j with
    | true => exact .inr rfl
    | false => exact .inl ⟨a, rfl⟩
theorem size_zero {s : Nat} (hs : s < 64) (h : size s = 0) : s = 0 := Classical.byContradiction fun hne => by
  obtain ⟨j, hj⟩ := pos_iff.1 hne
  have := size_pos hs (in6 hs hj) hj
  omega
/-- Those of b next to some of x. -/
def nbs (R : Nat → Nat → Bool) (x b : Nat) : Nat := orN 6 (fun j => b.testBit j && (List.range 6).any fun i => x.testBit i && R i j) (fun j => 2 ^ j)
theorem nbs_testBit {R : Nat → Nat → Bool} {x b : Nat} (hx : x < 64) (hb : b < 64) (j : Nat) : (nbs R x b).testBit j = true ↔ b.testBit j = true ∧ ∃ i, x.testBit i = true ∧ R i j = true := by
  unfold nbs
  rw [orN_testBit]
  simp only [Bool.and_eq_true, List.any_eq_true, List.mem_range]
  constructor
  · rintro ⟨k, hk, ⟨a, i, _, b1, c⟩, d⟩
    rw [testBit_pow, decide_eq_true_eq] at d
    subst d
    exact ⟨a, i, b1, c⟩
  · rintro ⟨a, i, b1, c⟩
    exact ⟨j, in6 hb a, ⟨a, i, in6 hx b1, b1, c⟩, by rw [testBit_pow]; simp⟩
theorem nbs_lt (R : Nat → Nat → Bool) (x b : Nat) : nbs R x b < 64 := orN_lt (m := 6) fun k hk _ => Nat.pow_lt_pow_right (by omega) hk
/-- Each can be given another one, if no set has too few. -/
theorem hall (R : Nat → Nat → Bool) : ∀ m a b, a < 64 → b < 64 → size a ≤ m → (∀ x, x < 64 → (∀ j, x.testBit j = true → a.testBit j = true) → size x ≤ size (nbs R x b)) →
    ∃ f : Nat → Nat, (∀ i, a.testBit i = true → b.testBit (f i) = true ∧ R i (f i) = true) ∧ ∀ i j, a.testBit i = true → a.testBit j = true → f i = f j → i = j := by
  intro m
  induction m with
  | zero =>
    intro a b ha hb hm _
    have := size_zero ha (by omega)
    subst this
    exact ⟨fun i => i, fun i hi => (by rw [Nat.zero_testBit] at hi; cases hi), fun i j hi => (by rw [Nat.zero_testBit] at hi; cases hi)⟩
  | succ m ih =>
    intro a b ha hb hm hc
    by_cases h0 : a = 0
    · subst h0
      exact ⟨fun i => i, fun i hi => (by rw [Nat.zero_testBit] at hi; cases hi), fun i j hi => (by rw [Nat.zero_testBit] at hi; cases hi)⟩
    by_cases ht : ∃ x, x < 64 ∧ (∀ j, x.testBit j = true → a.testBit j = true) ∧ x ≠ 0 ∧ x ≠ a ∧ size (nbs R x b) ≤ size x
    · -- a tight set is given its own, the others the others
      obtain ⟨x, hx, hxa, hx0, hxne, hxt⟩ := ht
      have hdz := size_diff ha hx hxa
      have hxp : 1 ≤ size x := by
        obtain ⟨j, hj⟩ := pos_iff.1 hx0
        exact size_pos hx (in6 hx hj) hj
      have hdp : 1 ≤ size (minus a x) := by
        refine Nat.one_le_iff_ne_zero.2 fun hz => hxne ?_
        have h1 := size_zero (diff_lt ha) hz
        apply Nat.eq_of_testBit_eq
        intro j
        rw [Bool.eq_iff_iff]
        refine ⟨hxa j, fun hj => Classical.byContradiction fun hno => ?_⟩
        have := (diff_testBit ha hx j).2 ⟨hj, not_true hno⟩
        rw [h1, Nat.zero_testBit] at this; cases this
      obtain ⟨f1, p1, q1⟩ := ih x b hx hb (by omega) (fun y hy hyx => hc y hy fun j hj => hxa j (hyx j hj))
      have hnl := nbs_lt R x b
      obtain ⟨f2, p2, q2⟩ := ih (minus a x) (minus b (nbs R x b)) (diff_lt ha) (diff_lt hb) (by omega) (fun z hz hza => by
        have hzx : z ||| x < 64 := by
          have : z ||| x < 2 ^ 6 := Nat.or_lt_two_pow (by omega) (by omega)
          omega
        have hdis : ∀ j, z.testBit j = true → x.testBit j = false := fun j hj => ((diff_testBit ha hx j).1 (hza j hj)).2
        have h1 := hc (z ||| x) hzx (fun j hj => by
          rcases (or2 _ _ _).1 hj with hj | hj
          · exact ((diff_testBit ha hx j).1 (hza j hj)).1
          · exact hxa j hj)
        rw [size_disj hz hx hdis] at h1
        have h2 : size (nbs R (z ||| x) b) ≤ size (nbs R z (minus b (nbs R x b))) + size (nbs R x b) := by
          rw [← size_disj (nbs_lt _ _ _) hnl (fun j hj => ((diff_testBit hb hnl j).1 ((nbs_testBit hz (diff_lt hb) j).1 hj).1).2)]
          refine size_mono6 (nbs_lt _ _ _) (by have : nbs R z (minus b (nbs R x b)) ||| nbs R x b < 2 ^ 6 := Nat.or_lt_two_pow (nbs_lt _ _ _) hnl
                                               omega) fun j hj => ?_
          obtain ⟨a1, i, a2, a3⟩ := (nbs_testBit hzx hb j).1 hj
          rw [or2]
          cases hb2 : (nbs R x b).testBit j with
          | true => exact .inr rfl
          | false =>
            left
            rcases (or2 _ _ _).1 a2 with a2 | a2
            · exact (nbs_testBit hz (diff_lt hb) j).2 ⟨(diff_testBit hb hnl j).2 ⟨a1, hb2⟩, i, a2, a3⟩
            · rw [(nbs_testBit hx hb j).2 ⟨a1, i, a2, a3⟩] at hb2; cases hb2
        omega)
      have in1 : ∀ i, x.testBit i = true → (nbs R x b).testBit (f1 i) = true := fun i hi => (nbs_testBit hx hb _).2 ⟨(p1 i hi).1, i, hi, (p1 i hi).2⟩
      have in2 : ∀ i, a.testBit i = true → x.testBit i = false → (minus a x).testBit i = true := fun i hi hn => (diff_testBit ha hx i).2 ⟨hi, hn⟩
      refine ⟨fun i => if x.testBit i = true then f1 i else f2 i, fun i hi => ?_, fun i j hi hj he => ?_⟩
      · cases hxi : x.testBit i with
        | true => simp only [hxi, if_true]; exact p1 i hxi
        | false =>
          simp only [hxi, Bool.false_eq_true, if_false]
          obtain ⟨u, v⟩ := p2 i (in2 i hi hxi)
          exact ⟨((diff_testBit hb hnl _).1 u).1, v⟩
      · cases hxi : x.testBit i with
        | true =>
          cases hxj : x.testBit j with
          | true => simp only [hxi, hxj, if_true] at he; exact q1 i j hxi hxj he
          | false =>
            simp only [hxi, hxj, if_true, Bool.false_eq_true, if_false] at he
            have h1 := in1 i hxi
            have h2 := ((diff_testBit hb hnl _).1 (p2 j (in2 j hj hxj)).1).2
            rw [← he, h1] at h2; cases h2
        | false =>
          cases hxj : x.testBit j with
          | true =>
            simp only [hxi, hxj, if_true, Bool.false_eq_true, if_false] at he
            have h1 := in1 j hxj
            have h2 := ((diff_testBit hb hnl _).1 (p2 i (in2 i hi hxi)).1).2
            rw [he, h1] at h2; cases h2
          | false =>
            simp only [hxi, hxj, Bool.false_eq_true, if_false] at he
            exact q2 i j (in2 i hi hxi) (in2 j hj hxj) he
    · -- one is given any, and the rest goes on
      obtain ⟨g, hg⟩ := pos_iff.1 h0
      have hg6 := in6 ha hg
      have hpg : 2 ^ g < 64 := by
        have : 2 ^ g < 2 ^ 6 := Nat.pow_lt_pow_right (by omega) hg6
        omega
      have hgs : ∀ j, (2 ^ g).testBit j = true → a.testBit j = true := fun j hj => by rw [testBit_pow, decide_eq_true_eq] at hj; rw [← hj]; exact hg
      have z1 : size (2 ^ g) = 1 := by
        have := size_add (s := 0) (k := g) (by omega) hg6 (Nat.zero_testBit g)
        rw [Nat.zero_or] at this
        rw [this]; decide
      have h1 := hc (2 ^ g) hpg hgs
      have hne : nbs R (2 ^ g) b ≠ 0 := fun he => by
        have : size (nbs R (2 ^ g) b) = 0 := by rw [he]; decide
        omega
      obtain ⟨t, htb⟩ := pos_iff.1 hne
      obtain ⟨hbt, i, hi, hR⟩ := (nbs_testBit hpg hb t).1 htb
      have hig : i = g := by rw [testBit_pow, decide_eq_true_eq] at hi; exact hi.symm
      subst hig
      have ht6 := in6 hb hbt
      have ba := bits_sub a ha i hg6 hg
      have bb := bits_sub b hb t ht6 hbt
      obtain ⟨f, p, q⟩ := ih (a - 2 ^ i) (b - 2 ^ t) ba.1 bb.1 (by omega) (fun x hx hxa => by
        by_cases hx0 : x = 0
        · subst hx0
          have : size 0 = 0 := by decide
          omega
        have hxa' : ∀ j, x.testBit j = true → a.testBit j = true := fun j hj => by
          have := hxa j hj
          rw [sub_testBit ha hg6 hg, Bool.and_eq_true] at this
          exact this.1
        have hxne : x ≠ a := fun he => by
          have := hxa i (by rw [he]; exact hg)
          rw [sub_testBit ha hg6 hg] at this
          simp at this
        have h2 : size x + 1 ≤ size (nbs R x b) := by
          refine Classical.byContradiction fun hlt => ht ⟨x, hx, hxa', hx0, hxne, by omega⟩
        have h3 : size (nbs R x b) ≤ size (nbs R x (b - 2 ^ t)) + 1 := by
          have hle : size (nbs R x b) ≤ size (nbs R x (b - 2 ^ t) ||| 2 ^ t) := by
            refine size_mono6 (nbs_lt _ _ _) (by
              have hp : 2 ^ t < 2 ^ 6 := Nat.pow_lt_pow_right (by omega) ht6
              have : nbs R x (b - 2 ^ t) ||| 2 ^ t < 2 ^ 6 := Nat.or_lt_two_pow (nbs_lt _ _ _) hp
              omega) fun j hj => ?_
            obtain ⟨a1, k, a2, a3⟩ := (nbs_testBit hx hb j).1 hj
            rw [or_testBit]
            by_cases hjt : j = t
            · exact .inr hjt
            · exact .inl ((nbs_testBit hx bb.1 j).2 ⟨by rw [sub_testBit hb ht6 hbt, a1]; simp [hjt], k, a2, a3⟩)
          rw [size_add (nbs_lt _ _ _) ht6 (not_true fun hcc => by
            have := ((nbs_testBit hx bb.1 t).1 hcc).1
            rw [sub_testBit hb ht6 hbt] at this; simp at this)] at hle
          exact hle
        omega)
      have ina : ∀ k, a.testBit k = true → k ≠ i → (a - 2 ^ i).testBit k = true := fun k hk hki => by rw [sub_testBit ha hg6 hg, hk]; simp [hki]
      have outb : ∀ k, a.testBit k = true → k ≠ i → f k ≠ t ∧ b.testBit (f k) = true := fun k hk hki => by
        have := (p k (ina k hk hki)).1
        rw [sub_testBit hb ht6 hbt, Bool.and_eq_true] at this
        exact ⟨by simpa using this.2, this.1⟩
      refine ⟨fun k => if k = i then t else f k, fun k hk => ?_, fun k j hk hj he => ?_⟩
      · by_cases hki : k = i
        · simp only [hki, if_true]; exact ⟨hbt, hR⟩
        · simp only [hki, if_false]; exact ⟨(outb k hk hki).2, (p k (ina k hk hki)).2⟩
      · by_cases hki : k = i
        · by_cases hji : j = i
          · rw [hki, hji]
          · simp only [hki, hji, if_true, if_false] at he
            exact absurd he.symm (outb j hj hji).1
        · by_cases hji : j = i
          · simp only [hki, hji, if_true, if_false] at he
            exact absurd he (outb k hk hki).1
          · simp only [hki, hji, if_false] at he
            exact q k j (ina k hk hki) (ina j hj hji) he
end Go.Proofs.Ytcfajdlkfpdonaa
/- All guards move, for ever: plain facts. Conditions: those of each theorem. -/
namespace Go.Proofs.Ytcfajdlkfpdonaa
set_option linter.unusedVariables false
set_option linter.unusedSimpArgs false

/-- The guards of one set can be at the places of another one, each staying or moving to a neighbour. -/
def AllMove (net : List Int) (a b : Nat) : Prop := size a = size b ∧ ∃ f : Nat → Nat, (∀ i, a.testBit i = true → b.testBit (f i) = true ∧ (ball net i).testBit (f i) = true) ∧ ∀ i j, a.testBit i = true → a.testBit j = true → f i = f j → i = j
theorem allMove_refl (net : List Int) (a : Nat) : AllMove net a a := ⟨rfl, fun i => i, fun i hi => ⟨hi, sees_self net i⟩, fun i j _ _ he => he⟩
/-- A family of sets that can answer each place by all moving. -/
def ClosedA (net : List Int) (F : Nat → Prop) : Prop := ∀ t, t < 2 ^ net.length → F t → ∀ k, k < net.length → t.testBit k = false → ∃ u, u < 2 ^ net.length ∧ u.testBit k = true ∧ AllMove net t u ∧ F u
def AllEternal (net : List Int) (s : Nat) : Prop := ∃ F, ClosedA net F ∧ F s
/-! ### No more than are apart -/
theorem allMove_union {net : List Int} (h : Ok net) {a b c : Nat} (ha : a < 2 ^ net.length) (hb : b < 2 ^ net.length) (hc : c < 2 ^ net.length) (hac : ∀ j, a.testBit j = true → c.testBit j = false) (hbc : ∀ j, b.testBit j = true → c.testBit j = false) {d : Nat} (hd : d < 2 ^ net.length) (had : ∀ j, b.testBit j = true → d.testBit j = false) (hm : AllMove net a b) (hm2 : AllMove net c d) : AllMove net (a ||| c) (b ||| d) := by
  obtain ⟨hz, f, hf, hi⟩ := hm
  obtain ⟨hz2, g, hg, hj⟩ := hm2
  refine ⟨by rw [size_disj (lt64 h ha) (lt64 h hc) hac, size_disj (lt64 h hb) (lt64 h hd) had]; omega, fun i => if a.testBit i = true then f i else g i, fun i hx => ?_, fun i j hx hy he => ?_⟩
  · cases hai : a.testBit i with
    | true => simp only [hai, if_true]; exact ⟨(or2 _ _ _).2 (.inl (hf i hai).1), (hf i hai).2⟩
    | false =>
      have hci : c.testBit i = true := by
        rcases (or2 _ _ _).1 hx with hh | hh
        · rw [hai] at hh; cases hh
        · exact hh
      simp only [hai, Bool.false_eq_true, if_false]; exact ⟨(or2 _ _ _).2 (.inr (hg i hci).1), (hg i hci).2⟩
  · have inc : ∀ k, (a ||| c).testBit k = true → a.testBit k = false → c.testBit k = true := fun k hk hn => by
      rcases (or2 _ _ _).1 hk with hh | hh
      · rw [hn] at hh; cases hh
      · exact hh
    cases hai : a.testBit i with
    | true =>
      cases haj : a.testBit j with
      | true => simp only [hai, haj, if_true] at he; exact hi i j hai haj he
      | false =>
        simp only [hai, haj, if_true, Bool.false_eq_true, if_false] at he
        have h1 := had _ (hf i hai).1
        rw [he, (hg j (inc j hy haj)).1] at h1; cases h1
    | false =>
      cases haj : a.testBit j with
      | true =>
        simp only [hai, haj, if_true, Bool.false_eq_true, if_false] at he
        have h1 := had _ (hf j haj).1
        rw [← he, (hg i (inc i hx hai)).1] at h1; cases h1
      | false => simp only [hai, haj, Bool.false_eq_true, if_false] at he; exact hj i j (inc i hx hai) (inc j hy haj) he
/-- From largest apart set to largest apart set all can move. -/
theorem allMove_apart {net : List Int} (h : Ok net) {u m a b : Nat} (hu : u < 2 ^ net.length) (hmax : ∀ x, x < 2 ^ net.length → (∀ j, x.testBit j = true → u.testBit j = true) → Apart net x → size x ≤ m)
    (ha : a < 2 ^ net.length) (hau : ∀ j, a.testBit j = true → u.testBit j = true) (hA : Apart net a) (haz : size a = m) (hb : b < 2 ^ net.length) (hbu : ∀ j, b.testBit j = true → u.testBit j = true) (hB : Apart net b) (hbz : size b = m) : AllMove net a b := by
  have h64 := h.pow
  refine ⟨by omega, ?_⟩
  have key : ∀ x, x < 64 → (∀ j, x.testBit j = true → a.testBit j = true) → size x ≤ size (nbs (fun i j => (ball net i).testBit j) x b) := by
    intro x hx hxa
    have hxl : x < 2 ^ net.length := by
      refine Classical.byContradiction fun hge => ?_
      have hle := Nat.ge_of_not_lt hge
      have : ∃ j, net.length ≤ j ∧ x.testBit j = true := by
        obtain ⟨j, hj1, hj2⟩ := Nat.exists_ge_and_testBit_of_ge_two_pow hle
        exact ⟨j, hj1, hj2⟩
      obtain ⟨j, hj1, hj2⟩ := this
      have := in_lt ha (hxa j hj2)
      omega
    have hnl := nbs_lt (fun i j => (ball net i).testBit j) x b
    have hnb := fun j => nbs_testBit (R := fun i j => (ball net i).testBit j) hx (lt64 h hb) j
    have hdl : minus b (nbs (fun i j => (ball net i).testBit j) x b) < 2 ^ net.length := Nat.lt_of_le_of_lt Nat.and_le_left hb
    have hd := fun j => diff_testBit (lt64 h hb) hnl j
    have hdis : ∀ j, (minus b (nbs (fun i j => (ball net i).testBit j) x b)).testBit j = true → x.testBit j = false := fun j hj => not_true fun hc => by
      obtain ⟨h1, h2⟩ := (hd j).1 hj
      rw [(hnb j).2 ⟨h1, j, hc, sees_self net j⟩] at h2; cases h2
    have hcross : ∀ i j, x.testBit i = true → (minus b (nbs (fun i j => (ball net i).testBit j) x b)).testBit j = true → (nb net i).testBit j = false := fun i j hi hj => not_true fun hc => by
      obtain ⟨h1, h2⟩ := (hd j).1 hj
      rw [(hnb j).2 ⟨h1, i, hi, (ball_testBit _ _ _).2 (.inl hc)⟩] at h2; cases h2
    have hU : Apart net (minus b (nbs (fun i j => (ball net i).testBit j) x b) ||| x) := fun i j hi hj => by
      rcases (or2 _ _ _).1 hi with hi | hi <;> rcases (or2 _ _ _).1 hj with hj | hj
      · exact hB i j ((hd i).1 hi).1 ((hd j).1 hj).1
      · rw [h.sym j i (in_lt hxl hj) (in_lt hdl hi)]; exact hcross j i hj hi
      · exact hcross i j hi hj
      · exact hA i j (hxa i hi) (hxa j hj)
    have h1 := hmax _ (Nat.or_lt_two_pow hdl hxl) (fun j hj => by
      rcases (or2 _ _ _).1 hj with hj | hj
      · exact hbu j ((hd j).1 hj).1
      · exact hau j (hxa j hj)) hU
    rw [size_disj (lt64 h hdl) hx hdis] at h1
    have h2 := size_diff (lt64 h hb) hnl (fun j hj => ((hnb j).1 hj).1)
    omega
  obtain ⟨f, p, q⟩ := hall (fun i j => (ball net i).testBit j) 6 a b (lt64 h ha) (lt64 h hb) (size_le a) key
  exact ⟨f, p, q⟩
theorem size_one {k : Nat} (hk : k < 6) : size (2 ^ k) = 1 := by
  have := size_add (s := 0) (k := k) (by omega) hk (Nat.zero_testBit k)
  rw [Nat.zero_or] at this
  rw [this]; decide
/-- Within any set of places: a family with no more guards than are apart in it. -/
theorem family {net : List Int} (h : Ok net) : ∀ c u, size u ≤ c → u < 2 ^ net.length → ∀ m, (∀ x, x < 2 ^ net.length → (∀ j, x.testBit j = true → u.testBit j = true) → Apart net x → size x ≤ m) →
    ∃ F : Nat → Prop, (∃ s, F s) ∧ (∀ t, F t → t < 2 ^ net.length ∧ (∀ j, t.testBit j = true → u.testBit j = true) ∧ size t ≤ m) ∧
      ∀ t, F t → ∀ k, u.testBit k = true → t.testBit k = false → ∃ v, v.testBit k = true ∧ AllMove net t v ∧ F v := by
  have h6 := h.hi
  intro c
  induction c with
  | zero =>
    intro u hc hu m hm
    have hu0 := size_zero (lt64 h hu) (by omega)
    subst hu0
    refine ⟨fun t => t = 0, ⟨0, rfl⟩, fun t ht => ?_, fun t _ k hk => by rw [Nat.zero_testBit] at hk; cases hk⟩
    subst ht
    have : size 0 = 0 := by decide
    exact ⟨hu, fun j hj => hj, by omega⟩
  | succ c ih =>
    intro u hc hu m hm
    -- the most that are apart in u
    have hmx : ∃ M, M ≤ m ∧ (∃ x, x < 2 ^ net.length ∧ (∀ j, x.testBit j = true → u.testBit j = true) ∧ Apart net x ∧ size x = M) ∧ ∀ x, x < 2 ^ net.length → (∀ j, x.testBit j = true → u.testBit j = true) → Apart net x → size x ≤ M := by
      have hex : ∀ d, d ≤ m → (∃ x, x < 2 ^ net.length ∧ (∀ j, x.testBit j = true → u.testBit j = true) ∧ Apart net x ∧ m - d ≤ size x) → ∃ M, M ≤ m ∧ (∃ x, x < 2 ^ net.length ∧ (∀ j, x.testBit j = true → u.testBit j = true) ∧ Apart net x ∧ size x = M) ∧ ∀ x, x < 2 ^ net.length → (∀ j, x.testBit j = true → u.testBit j = true) → Apart net x → size x ≤ M := by
        intro d
        induction d with
        | zero =>
          rintro _ ⟨x, a, b, e, f⟩
          have := hm x a b e
          exact ⟨m, Nat.le_refl _, ⟨x, a, b, e, by omega⟩, hm⟩
        | succ d ihd =>
          rintro hd ⟨x, a, b, e, f⟩
          by_cases hy : ∃ y, y < 2 ^ net.length ∧ (∀ j, y.testBit j = true → u.testBit j = true) ∧ Apart net y ∧ m - d ≤ size y
          · exact ihd (by omega) hy
          · have hno : ∀ y, y < 2 ^ net.length → (∀ j, y.testBit j = true → u.testBit j = true) → Apart net y → size y ≤ m - (d + 1) := fun y p q r => by
              refine Classical.byContradiction fun hlt => hy ⟨y, p, q, r, by omega⟩
            have := hno x a b e
            exact ⟨m - (d + 1), by omega, ⟨x, a, b, e, by omega⟩, hno⟩
      refine hex m (Nat.le_refl _) ⟨0, Nat.two_pow_pos _, fun j hj => (by rw [Nat.zero_testBit] at hj; cases hj), Apart.zero net, by omega⟩
    obtain ⟨M, hMm, ⟨x0, x0l, x0u, x0A, x0z⟩, hM⟩ := hmx
    by_cases hcov : ∀ v, u.testBit v = true → ∃ x, x < 2 ^ net.length ∧ (∀ j, x.testBit j = true → u.testBit j = true) ∧ Apart net x ∧ size x = M ∧ x.testBit v = true
    · -- all largest apart sets
      refine ⟨fun t => t < 2 ^ net.length ∧ (∀ j, t.testBit j = true → u.testBit j = true) ∧ Apart net t ∧ size t = M, ⟨x0, x0l, x0u, x0A, x0z⟩, fun t ⟨a, b, _, d⟩ => ⟨a, b, by omega⟩, fun t ⟨a, b, e, d⟩ k hk hb => ?_⟩
      obtain ⟨y, y1, y2, y3, y4, y5⟩ := hcov k hk
      exact ⟨y, y5, allMove_apart h hu hM a b e d y1 y2 y3 y4, y1, y2, y3, y4⟩
    · -- a place that is in none: it and its neighbours take two
      have : ∃ v, u.testBit v = true ∧ ∀ x, x < 2 ^ net.length → (∀ j, x.testBit j = true → u.testBit j = true) → Apart net x → x.testBit v = true → size x + 1 ≤ M := by
        refine Classical.byContradiction fun hno => hcov fun v hv => Classical.byContradiction fun hno2 => hno ⟨v, hv, fun x p q r s => ?_⟩
        have h1 := hM x p q r
        refine Classical.byContradiction fun hlt => hno2 ⟨x, p, q, r, by omega, s⟩
      obtain ⟨v, hv, hvn⟩ := this
      have hvl := in_lt hu hv
      have hbl := h.ball_lt hvl
      have hul : minus u (ball net v) < 2 ^ net.length := Nat.lt_of_le_of_lt Nat.and_le_left hu
      have hub : ∀ j, (minus u (ball net v)).testBit j = true ↔ u.testBit j = true ∧ (ball net v).testBit j = false := fun j => diff_testBit (lt64 h hu) (lt64 h hbl) j
      -- fewer are apart there
      have hless : ∀ x, x < 2 ^ net.length → (∀ j, x.testBit j = true → (minus u (ball net v)).testBit j = true) → Apart net x → size x + 2 ≤ M := fun x p q r => by
        have hxv : x.testBit v = false := not_true fun hcc => by
          have := ((hub v).1 (q v hcc)).2
          rw [sees_self] at this; cases this
        have hA := r.add h p hvl (fun j hj => not_true fun hcc => by
          have := ((hub j).1 (q j hj)).2
          rw [(ball_testBit _ _ _).2 (.inl hcc)] at this; cases this)
        have h1 := hvn (x ||| 2 ^ v) (or_lt p hvl) (fun j hj => by
          rcases (or_testBit _ _ _).1 hj with hj | rfl
          · exact ((hub j).1 (q j hj)).1
          · exact hv) hA ((or_testBit _ _ _).2 (.inr rfl))
        rw [size_add (lt64 h p) (by omega) hxv] at h1
        omega
      have hM2 : 2 ≤ M := by
        have := hless 0 (Nat.two_pow_pos _) (fun j hj => by rw [Nat.zero_testBit] at hj; cases hj) (Apart.zero net)
        omega
      -- a neighbour in u
      have hnbr : ∃ y, u.testBit y = true ∧ (nb net v).testBit y = true := by
        refine Classical.byContradiction fun hno => ?_
        have hA := x0A.add h x0l hvl (fun j hj => not_true fun hcc => hno ⟨j, x0u j hj, hcc⟩)
        have h1 := hvn (x0 ||| 2 ^ v) (or_lt x0l hvl) (fun j hj => by
          rcases (or_testBit _ _ _).1 hj with hj | rfl
          · exact x0u j hj
          · exact hv) hA ((or_testBit _ _ _).2 (.inr rfl))
        have h2 : size x0 ≤ size (x0 ||| 2 ^ v) := size_mono6 (lt64 h x0l) (lt64 h (or_lt x0l hvl)) fun j hj => (or_testBit _ _ _).2 (.inl hj)
        omega
      obtain ⟨y0, hy0u, hy0⟩ := hnbr
      have hsz : size (minus u (ball net v)) ≤ c := by
        have h1 : size (minus u (ball net v)) + 1 ≤ size u := by
          have hvb : (minus u (ball net v)).testBit v = false := not_true fun hcc => by
            have := ((hub v).1 hcc).2
            rw [sees_self] at this; cases this
          rw [← size_add (lt64 h hul) (k := v) (by omega) hvb]
          refine size_mono6 (lt64 h (or_lt hul hvl)) (lt64 h hu) fun j hj => ?_
          rcases (or_testBit _ _ _).1 hj with hj | rfl
          · exact ((hub j).1 hj).1
          · exact hv
        omega
      obtain ⟨F, ⟨s0, hs0⟩, hF, hcl⟩ := ih (minus u (ball net v)) hsz hul (M - 2) (fun x p q r => by have := hless x p q r; omega)
      -- the pairs of the place and a neighbour
      have pl : ∀ y, y < net.length → 2 ^ v ||| 2 ^ y < 2 ^ net.length := fun y hy => or_lt (Nat.pow_lt_pow_right (by omega) hvl) hy
      have pb : ∀ y j, (2 ^ v ||| 2 ^ y).testBit j = true ↔ j = v ∨ j = y := fun y j => by
        rw [or_testBit, testBit_pow, decide_eq_true_eq]
        exact ⟨fun hh => hh.elim (fun e => .inl e.symm) .inr, fun hh => hh.elim (fun e => .inl e.symm) .inr⟩
      have pz : ∀ y, y < net.length → y ≠ v → size (2 ^ v ||| 2 ^ y) = 2 := fun y hy hne => by
        have hpv : 2 ^ v < 64 := lt64 h (Nat.pow_lt_pow_right (by omega) hvl)
        rw [size_add hpv (by omega) (by rw [testBit_pow]; simp; omega), size_one (by omega)]
      have yne : ∀ y, (nb net v).testBit y = true → y ≠ v := fun y hy he => by rw [he, h.irr v hvl] at hy; cases hy
      have apart2 : ∀ t, F t → ∀ y, (nb net v).testBit y = true → ∀ j, t.testBit j = true → (2 ^ v ||| 2 ^ y).testBit j = false := fun t ht y hy j hj => not_true fun hcc => by
        have h1 := ((hub j).1 ((hF t ht).2.1 j hj)).2
        rcases (pb y j).1 hcc with e | e
        · rw [e, sees_self] at h1; cases h1
        · rw [e, (ball_testBit _ _ _).2 (.inl hy)] at h1; cases h1
      refine ⟨fun q => ∃ t y, F t ∧ u.testBit y = true ∧ (nb net v).testBit y = true ∧ q = t ||| (2 ^ v ||| 2 ^ y), ⟨_, s0, y0, hs0, hy0u, hy0, rfl⟩, ?_, ?_⟩
      · rintro _ ⟨t, y, ht, hyu, hy, rfl⟩
        obtain ⟨t1, t2, t3⟩ := hF t ht
        have hyl := h.nb_lt hvl hy
        refine ⟨Nat.or_lt_two_pow t1 (pl y hyl), fun j hj => ?_, ?_⟩
        · rcases (or2 _ _ _).1 hj with hj | hj
          · exact ((hub j).1 (t2 j hj)).1
          · rcases (pb y j).1 hj with e | e
            · rw [e]; exact hv
            · rw [e]; exact hyu
        · rw [size_disj (lt64 h t1) (lt64 h (pl y hyl)) (apart2 t ht y hy), pz y hyl (yne y hy)]; omega
      · rintro _ ⟨t, y, ht, hyu, hy, rfl⟩ k hk hb
        obtain ⟨t1, t2, t3⟩ := hF t ht
        have hyl := h.nb_lt hvl hy
        have hkl := in_lt hu hk
        cases hkb : (ball net v).testBit k with
        | false =>
          -- the others answer
          have htk : t.testBit k = false := not_true fun hcc => by rw [(or2 _ _ _).2 (.inl hcc)] at hb; cases hb
          obtain ⟨w, w1, w2, w3⟩ := hcl t ht k ((hub k).2 ⟨hk, hkb⟩) htk
          exact ⟨w ||| (2 ^ v ||| 2 ^ y), (or2 _ _ _).2 (.inl w1), allMove_union h t1 (hF w w3).1 (pl y hyl) (apart2 t ht y hy) (apart2 w w3 y hy) (pl y hyl) (apart2 w w3 y hy) w2 (allMove_refl net _), w, y, w3, hyu, hy, rfl⟩
        | true =>
          -- the two of them answer
          have hkv : k ≠ v := fun he => by rw [he, (or2 _ _ _).2 (.inr ((pb y v).2 (.inl rfl)))] at hb; cases hb
          have hky : k ≠ y := fun he => by rw [he, (or2 _ _ _).2 (.inr ((pb y y).2 (.inr rfl)))] at hb; cases hb
          have hkn : (nb net v).testBit k = true := by
            rcases (ball_testBit _ _ _).1 hkb with e | e
            · exact e
            · exact absurd e.symm hkv
          have hmv : AllMove net (2 ^ v ||| 2 ^ y) (2 ^ v ||| 2 ^ k) := by
            refine ⟨by rw [pz y hyl (yne y hy), pz k hkl hkv], fun i => if i = y then v else k, fun i hi => ?_, fun i j hi hj he => ?_⟩
            · by_cases hiy : i = y
              · simp only [hiy, if_true]
                exact ⟨(pb k v).2 (.inl rfl), (ball_testBit _ _ _).2 (.inl (by rw [h.sym v y hvl hyl]; exact hy))⟩
              · simp only [hiy, if_false]
                have hiv : i = v := by
                  rcases (pb y i).1 hi with e | e
                  · exact e
                  · exact absurd e hiy
                rw [hiv]
                exact ⟨(pb k k).2 (.inr rfl), (ball_testBit _ _ _).2 (.inl hkn)⟩
            · by_cases hiy : i = y <;> by_cases hjy : j = y
              · rw [hiy, hjy]
              · simp only [hiy, hjy, if_true, if_false] at he; exact absurd he.symm hkv
              · simp only [hiy, hjy, if_true, if_false] at he; exact absurd he hkv
              · rcases (pb y i).1 hi with e | e
                · rcases (pb y j).1 hj with e2 | e2
                  · rw [e, e2]
                  · exact absurd e2 hjy
                · exact absurd e hiy
          exact ⟨t ||| (2 ^ v ||| 2 ^ k), (or2 _ _ _).2 (.inr ((pb k k).2 (.inr rfl))), allMove_union h t1 t1 (pl y hyl) (apart2 t ht y hy) (apart2 t ht y hy) (pl k hkl) (apart2 t ht k hkn) (allMove_refl net _) hmv, t, k, ht, hk, hkn, rfl⟩
end Go.Proofs.Ytcfajdlkfpdonaa
/- The model's functions of chapter 10 in natural numbers. Conditions: those of each theorem. -/
namespace Go.Proofs.Ytcfajdlkfpdonaa
open D Go.RowKit
set_option linter.unusedVariables false
set_option linter.unusedSimpArgs false


/-- The guards from a place on fit into a set. -/
def FitP (net : List Int) (f a l : Nat) : Prop := ∃ g : Nat → Nat, (∀ i, a ≤ i → f.testBit i = true → l.testBit (g i) = true ∧ (ball net i).testBit (g i) = true) ∧ ∀ i j, a ≤ i → a ≤ j → f.testBit i = true → f.testBit j = true → g i = g j → i = j
noncomputable def fitB (net : List Int) (f a l : Nat) : Bool := @decide (FitP net f a l) (Classical.propDecidable _)
noncomputable def allMoveB (net : List Int) (a b : Nat) : Bool := size a == size b && fitB net a 0 b
def ansAP (net : List Int) (l : List Bool) (fit : Nat → Bool) (s p u : Nat) : Bool := D.elb l u && (u.testBit p && (size u == size s && fit u))
noncomputable def ansA (net : List Int) (l : List Bool) (s p : Nat) : Int := (find (2 ^ net.length) (fun u => if ansAP net l (fitB net s 0) s p u = true then some (u : Int) else none)).getD (-1)
noncomputable def badA (net : List Int) (l : List Bool) (s k : Nat) : Bool := !s.testBit k && decide (ansA net l s k < 0)
noncomputable def holdsA (net : List Int) (l : List Bool) (s : Nat) : Bool := !((List.range net.length).any (badA net l s))
noncomputable def inStep (net : List Int) (s : Nat) (t : Bool × List Bool) (k : Nat) : Bool × List Bool := if (D.elb t.2 s && badA net t.2 s k) = true then (true, t.2.set s false) else t
noncomputable def allEternalB (net : List Int) (s : Nat) : Bool := @decide (AllEternal net s) (Classical.propDecidable _)
noncomputable def lastsA (net : List Int) : List Bool := (List.range (2 ^ net.length)).map (allEternalB net)
noncomputable def fewestAllEternal (net : List Int) : Nat := minSize net (allEternalB net)
/-- The answer of a set that all can keep up. -/
noncomputable def allAnswerI (net : List Int) (s p : Int) : Int := if (0 ≤ s ∧ s < 2 ^ net.length) ∧ (0 ≤ p ∧ p < net.length) ∧ allEternalB net s.toNat = true ∧ s.toNat.testBit p.toNat = false then ansA net (lastsA net) s.toNat p.toNat else -1
end Go.Proofs.Ytcfajdlkfpdonaa
/- Other ways to the sets and numbers of chapters 3 to 5. Conditions: those of each theorem. -/
namespace Go.Proofs.Ytcfajdlkfpdonaa
set_option linter.unusedVariables false
set_option linter.unusedSimpArgs false

theorem fold_near (net : List Int) (s : Nat) : fold net.length (fun t k => if s.testBit k = true then t ||| nb net k else t) 0 = near net s := rfl
def minStepN (p : Nat → Bool) (t s : Nat) : Nat := if p s = true then (if size s < t then size s else t) else t
def maxStepN (p : Nat → Bool) (t s : Nat) : Nat := if p s = true then (if size s > t then size s else t) else t
theorem maxStepN_lt {p : Nat → Bool} {t s : Nat} (hl : size s > t) : maxStepN p t s = if p s = true then size s else t := by unfold maxStepN; rw [if_pos hl]
theorem maxStepN_ge {p : Nat → Bool} {t s : Nat} (hl : ¬ size s > t) : maxStepN p t s = t := by unfold maxStepN; rw [if_neg hl, ite_self]
theorem maxStepN_le {p : Nat → Bool} {t s : Nat} (ht : t ≤ 6) : maxStepN p t s ≤ 6 := by
  have := size_le s
  unfold maxStepN; split
  · split <;> omega
  · exact ht
end Go.Proofs.Ytcfajdlkfpdonaa
/- The model's functions of chapter 13 in natural numbers: cliques and the other net. Conditions: those of each theorem. -/
namespace Go.Proofs.Ytcfajdlkfpdonaa
open D Go.RowKit
set_option linter.unusedVariables false
set_option linter.unusedSimpArgs false


def cliqueB (net : List Int) (s : Nat) : Bool := (List.range net.length).all fun k => !(s.testBit k && (minus s (ball net k) != 0))
theorem cliqueB_iff {net : List Int} (h : Ok net) {s : Nat} (hs : s < 2 ^ net.length) : cliqueB net s = true ↔ Clique net s := by
  have h64 := h.pow
  unfold cliqueB Clique
  rw [List.all_eq_true]
  constructor
  · intro ha i j hi hj hne
    have := ha i (List.mem_range.2 (in_lt hs hi))
    rw [hi, Bool.true_and, Bool.not_eq_true', bne_eq_false_iff_eq] at this
    have hb := h.ball_lt (in_lt hs hi)
    have h0 : (minus s (ball net i)).testBit j = false := by rw [this]; simp
    rw [minus_testBit _ _ (by omega) (by omega), hj, Bool.true_and, Bool.not_eq_false', ball_testBit] at h0
    rcases h0 with h0 | h0
    · exact h0
    · exact absurd h0 hne
  · intro hc k hk
    have hk := List.mem_range.1 hk
    have hb := h.ball_lt hk
    cases hsk : s.testBit k with
    | false => rfl
    | true =>
      have : minus s (ball net k) = 0 := Nat.eq_of_testBit_eq fun j => by
        rw [minus_testBit _ _ (by omega) (by omega), Nat.zero_testBit]
        cases hj : s.testBit j with
        | false => rfl
        | true =>
          rw [Bool.true_and, Bool.not_eq_false', ball_testBit]
          by_cases he : k = j
          · exact .inr he
          · exact .inl (hc k j hsk hj he)
      rw [this]; rfl
theorem S.l13Clique_n {net : List Int} (h : Ok net) {s : Nat} (hs : s < 2 ^ net.length) : S.l13Clique_t net (s : Int) = some (cliqueB net s) := by
  unfold S.l13Clique_t S.l13Clique_tree
  have h6 := h.hi
  have h64 := h.pow
  rw [run_search (run := S.l13Clique_run2 net s) (len := net.length) (fun k => if (s.testBit k && (minus s (ball net k) != 0)) = true then some false else none) () (by omega) (fun n k hk => ?_) (fun n => ?_), find_test (p := fun k => s.testBit k && (minus s (ball net k) != 0))]
  · unfold cliqueB
    cases (List.range net.length).all fun k => !(s.testBit k && (minus s (ball net k) != 0)) <;> rfl
  · have hnb := h.lt64 hk
    have h2 : 2 ^ k < 2 ^ 6 := Nat.pow_lt_pow_right (by omega) (by omega)
    have hbl := h.ball_lt hk
    simp only [S.l13Clique_run2, S.l13Clique_step2]
    rw [cnd_t (by simp; omega), cnd_f (by simp), bit_shr _ _ (by omega), bool_eq1, add1_nat (by omega)]
    cases hb : s.testBit k with
    | false => rfl
    | true =>
      have hpos : decide (((minus s (ball net k) : Nat) : Int) > 0) = (minus s (ball net k) != 0) := by rw [Bool.eq_iff_iff, decide_eq_true_eq, bne_iff_ne]; omega
      rw [cond_true, cnd_t (by simp; omega), cnd_f (by simp), one_shl (by omega), Int.toNat_natCast, h.eli hk, i64_or_nat _ _ (by omega) (by omega), show nb net k ||| 2 ^ k = ball net k from rfl, i64_andNot_nat _ _ (by omega) (by omega), hpos]
      cases minus s (ball net k) != 0 <;> rfl
  · simp only [S.l13Clique_run2, S.l13Clique_step2]
    rw [cnd_f (by simp)]
theorem S.CliqueOk_x {net : List Int} (e : S.NetOk_t net = some false) (s : Int) : S.CliqueOk_t net s = some false := by
  unfold S.CliqueOk_t S.CliqueOk_tree; rw [S.l1SetOk_x e]; rfl
theorem S.CliqueOk_n {net : List Int} (h : Ok net) (e : S.NetOk_t net = some true) (s : Int) : S.CliqueOk_t net s = some (decide (0 ≤ s ∧ s < 2 ^ net.length) && cliqueB net s.toNat) := by
  unfold S.CliqueOk_t S.CliqueOk_tree
  rw [S.l1SetOk_n h e]
  simp only [optC]
  rcases set_cases h s with ⟨t, rfl, ht, hd⟩ | hd
  · rw [hd, cond_true, S.l13Clique_n h ht]; rfl
  · rw [hd]; rfl
theorem S.MostClique_x {net : List Int} (e : S.NetOk_t net = some false) : S.MostClique_t net = some (-1) := by
  unfold S.MostClique_t S.MostClique_tree; rw [e]; rfl
theorem S.MostClique_y {net : List Int} (h : Ok net) (e : S.NetOk_t net = some true) : S.MostClique_t net = some ((maxSize net (cliqueB net) : Nat) : Int) := by
  unfold S.MostClique_t S.MostClique_tree
  have h64 := h.pow
  have hn := h.hi
  rw [e]
  have := (run_for (run := S.MostClique_run5 net) (len := 2 ^ net.length) (fun k (t : Nat) => ((t : Int), (k : Int))) (fun t s => if cliqueB net s = true then (if size s > t then size s else t) else t) (fun t => (t : Int)) (fun k t => t ≤ 6) (by omega) (fun n k t hk ht => ?_) (fun n t ht => ?_) (t0 := 0) (by omega)).1
  · exact congrArg (fun o => optC o (fun q => some q) none) this
  · simp only [S.MostClique_run5, S.MostClique_step5]
    rw [pow_shl h, cnd_t (by rw [decide_eq_true_eq]; omega), S.l13Clique_n h hk]
    simp only [optC]
    have hz := size_le k
    cases hw : cliqueB net k with
    | true =>
      rw [cond_true, S.l1Size_n (by omega)]
      simp only [if_true]
      rw [add1_nat (by omega)]
      by_cases hc : size k > t
      · rw [if_pos (by omega), if_pos hc]; exact ⟨rfl, by omega⟩
      · rw [if_neg (by omega), if_neg hc]; exact ⟨rfl, by omega⟩
    | false => simp only [cond_false, Bool.false_eq_true, if_false]; rw [add1_nat (by omega)]; exact ⟨rfl, ht⟩
  · simp only [S.MostClique_run5, S.MostClique_step5]
    rw [pow_shl h, cnd_f (by rw [decide_eq_false_iff_not]; omega)]
theorem S.l13Set_n {r : List Nat} (hr : r.length ≤ 7) (v : Nat) : S.l13Set_t (nl r) (v : Int) = some ((setL r v : Nat) : Int) := by
  unfold S.l13Set_t S.l13Set_tree
  have hl := nl_len r
  have h7 : (2 : Nat) ^ r.length ≤ 2 ^ 7 := Nat.pow_le_pow_right (by omega) hr
  have := (run_for (run := S.l13Set_run3 (nl r) v) (len := r.length) (fun k (t : Nat) => ((t : Int), (k : Int))) (fun t k => if decide (r.getD k 0 = v) = true then t ||| 2 ^ k else t) (fun t => (t : Int)) (fun k t => t < 2 ^ r.length) (by omega) (fun f k t hk ht => ?_) (fun f t ht => ?_) (t0 := 0) (Nat.two_pow_pos _)).1
  · exact congrArg (fun o => optC o (fun q => some q) none) this
  · have hpk : 2 ^ k < 2 ^ r.length := Nat.pow_lt_pow_right (by omega) hk
    simp only [S.l13Set_run3, S.l13Set_step3]
    rw [cnd_t (by simp; omega), cnd_t (by simp; omega), Int.toNat_natCast, nl_at hk, nat_beq, add1_nat (by omega)]
    by_cases hv : r.getD k 0 = v
    · rw [cnd_t (by simpa using hv), cnd_f (by simp), if_pos (by simpa using hv), show IntKind.i64.wrap (1 * 2 ^ min k IntKind.i64.bits) = ((2 ^ k : Nat) : Int) from one_shl (k := k) (by omega), i64_or_nat _ _ (by omega) (by omega)]
      exact ⟨rfl, Nat.or_lt_two_pow ht hpk⟩
    · rw [cnd_f (by simpa using hv), if_neg (by simpa using hv)]; exact ⟨rfl, ht⟩
  · simp only [S.l13Set_run3, S.l13Set_step3]
    rw [cnd_f (by simp; omega)]
/-- Does a list of numbers begin with a row that counts up? -/
def rgStep (row : List Int) (t k : Nat) : Unit ⊕ Nat := if 0 ≤ D.eli row k ∧ D.eli row k ≤ t then .inr (max t ((D.eli row k).toNat + 1)) else .inl ()
theorem rg_loop (row : List Int) : ∀ k, (∃ q : List Nat, q.length = k ∧ RG q ∧ (∀ j, j < k → D.eli row j = ((q.getD j 0 : Nat) : Int)) ∧ loopE k (rgStep row) 0 = .inr (nx q)) ∨
    (loopE k (rgStep row) 0 = .inl () ∧ ¬ ∃ q : List Nat, q.length = k ∧ RG q ∧ ∀ j, j < k → D.eli row j = ((q.getD j 0 : Nat) : Int)) := by
  intro k
  induction k with
  | zero => exact .inl ⟨[], rfl, RG.nil, fun j hj => by omega, rfl⟩
  | succ k ih =>
    rcases ih with ⟨q, h1, h2, h3, h4⟩ | ⟨h4, h5⟩
    · rw [loopE_succ h4]
      unfold rgStep
      by_cases hc : 0 ≤ D.eli row k ∧ D.eli row k ≤ ((nx q : Nat) : Int)
      · rw [if_pos hc]
        left
        refine ⟨q ++ [(D.eli row k).toNat], by simp [h1], RG_append.2 ⟨h2, by omega⟩, fun j hj => ?_, by rw [nx_append]⟩
        by_cases he : j < k
        · rw [getD_app_lt (by omega)]; exact h3 j he
        · obtain rfl : j = k := by omega
          rw [← h1, getD_app_end, h1]; omega
      · rw [if_neg hc]
        right
        refine ⟨rfl, ?_⟩
        rintro ⟨p, p1, p2, p3⟩
        apply hc
        -- p begins with q
        have hpq : p.take k = q := List.ext_getElem (by simp [p1, h1]) fun j a b => by
          simp only [List.length_take] at a
          have e1 := p3 j (by omega)
          have e2 := h3 j (by omega)
          have e3 : p.getD j 0 = p[j]'(by omega) := by simp [List.getD, show j < p.length by omega]
          have e4 : q.getD j 0 = q[j] := by simp [List.getD, b]
          rw [e3] at e1
          rw [e4] at e2
          rw [List.getElem_take]
          omega
        have e := p3 k (by omega)
        have := p2 k (by omega)
        rw [hpq] at this
        omega
    · right
      refine ⟨?_, fun ⟨q, q1, q2, q3⟩ => h5 ⟨q.take k, by simp [q1], q2.pre (List.take_prefix _ _), fun j hj => ?_⟩⟩
      · unfold loopE at h4 ⊢; rw [fold_succ, h4]
      · rw [q3 j (by omega)]
        congr 1
        simp [List.getD, List.getElem?_take, hj]
theorem row_is {row : List Int} {q : List Nat} (hl : q.length = row.length) (h : ∀ j, j < row.length → D.eli row j = ((q.getD j 0 : Nat) : Int)) : row = nl q := by
  refine List.ext_getElem (by rw [nl_len, hl]) fun j h1 h2 => ?_
  have a := h j h1
  rw [nl_len] at h2
  rw [← nl_at h2] at a
  unfold D.eli at a
  simpa [List.getD, h1, nl_len, h2] using a
noncomputable def crB (net row : List Int) : Bool := @decide (∃ q : List Nat, row = nl q ∧ q.length = net.length ∧ RG q ∧ CliqueL net q) (Classical.propDecidable _)
theorem crB_iff {net row : List Int} : crB net row = true ↔ ∃ q : List Nat, row = nl q ∧ q.length = net.length ∧ RG q ∧ CliqueL net q := by unfold crB; exact @decide_eq_true_iff _ (Classical.propDecidable _)
theorem crB_row {net : List Int} {q : List Nat} : crB net (nl q) = true ↔ q.length = net.length ∧ RG q ∧ CliqueL net q := by
  rw [crB_iff]
  exact ⟨fun ⟨p, e, h⟩ => by rw [nl_inj e]; exact h, fun h => ⟨q, rfl, h⟩⟩
theorem S.CliqueRowOk_x {net row : List Int} (e : S.NetOk_t net = some false) : S.CliqueRowOk_t net row = some false := by
  unfold S.CliqueRowOk_t S.CliqueRowOk_tree; rw [e]; rfl
theorem S.CliqueRowOk_n {net row : List Int} (h : Ok net) (e : S.NetOk_t net = some true) : S.CliqueRowOk_t net row = some (crB net row) := by
  unfold S.CliqueRowOk_t S.CliqueRowOk_tree
  have h6 := h.hi
  rw [e]
  simp only [optC, Bool.not_true, cond_false]
  by_cases hl : row.length = net.length
  · rw [cnd_f (by simp [hl])]
    have hbound : ∀ k, k ≤ row.length → ∀ t, loopE k (rgStep row) 0 = .inr t → t ≤ k := by
      intro k hk t ht
      rcases rg_loop row k with ⟨q, q1, q2, q3, q4⟩ | ⟨q4, _⟩
      · rw [q4] at ht
        injection ht with ht
        subst ht
        have : ∀ m, m ≤ q.length → nx (q.take m) ≤ m := by
          intro m
          induction m with
          | zero => intro _; simp [nx]
          | succ m ih => intro hm; rw [nx_take_succ (by omega)]; have := ih (by omega); have := q2 m (by omega); omega
        have := this q.length (Nat.le_refl _)
        rw [List.take_length] at this
        omega
      · rw [q4] at ht; cases ht
    have l5 := (run_forE (run := S.CliqueRowOk_run5 net row) (len := row.length) (fun k (t : Nat) => ((t : Int), (k : Int))) (fun t k => match rgStep row t k with | .inl _ => .inl t | .inr t' => .inr t') (fun (q : Nat) => Sum.inl (false, ((q : Nat) : Int))) (fun t => Sum.inr (t : Int)) (fun k t => t ≤ k) (by omega) (fun n k t hk ht => ?_) (fun n t ht => ?_) (t0 := 0) (Nat.le_refl _)).1
    · -- the two loops tell the same
      have same : ∀ k, (∃ t, loopE k (rgStep row) 0 = .inr t ∧ loopE k (fun t k => match rgStep row t k with | .inl _ => .inl t | .inr t' => .inr t') 0 = (.inr t : Nat ⊕ Nat)) ∨ (loopE k (rgStep row) 0 = .inl () ∧ ∃ t, loopE k (fun t k => match rgStep row t k with | .inl _ => .inl t | .inr t' => .inr t') 0 = (.inl t : Nat ⊕ Nat)) := by
        intro k
        induction k with
        | zero => exact .inl ⟨0, rfl, rfl⟩
        | succ k ih =>
          rcases ih with ⟨t, a, b⟩ | ⟨a, t, b⟩
          · rw [loopE_succ a, loopE_succ b]
            cases hs : rgStep row t k with
            | inl u => exact .inr ⟨rfl, t, rfl⟩
            | inr t' => exact .inl ⟨t', rfl, rfl⟩
          · right
            refine ⟨by unfold loopE at a ⊢; rw [fold_succ, a], t, by unfold loopE at b ⊢; rw [fold_succ, b]⟩
      rw [show S.CliqueRowOk_run5 net row FUEL (0, 0) = _ from l5]
      rcases same row.length with ⟨t, a, b⟩ | ⟨a, t, b⟩
      · rw [b]
        simp only [sumC]
        rcases rg_loop row row.length with ⟨q, q1, q2, q3, q4⟩ | ⟨q4, _⟩
        · rw [q4] at a
          injection a with a
          subst a
          have hrow := row_is q1 q3
          have hnx := hbound row.length (Nat.le_refl _) _ q4
          rw [run_search (run := S.CliqueRowOk_run11 net row (nx q : Nat)) (len := nx q) (fun v => if (!cliqueB net (setL q v)) = true then some false else none) () (by omega) (fun n k hk => ?_) (fun n => ?_), find_test (p := fun v => !cliqueB net (setL q v))]
          · have : ((List.range (nx q)).all fun k => !!cliqueB net (setL q k)) = crB net row := by
              rw [hrow, Bool.eq_iff_iff, List.all_eq_true, crB_row]
              constructor
              · intro ha
                exact ⟨by omega, q2, CliqueL.of_sets fun v hv => (cliqueB_iff h (setL_lt (by omega))).1 (by have := ha v (List.mem_range.2 hv); rwa [Bool.not_not] at this)⟩
              · rintro ⟨_, _, hc⟩ v _
                rw [Bool.not_not]
                exact (cliqueB_iff h (setL_lt (by omega))).2 (hc.sets v)
            rw [← this]
            cases (List.range (nx q)).all fun k => !!cliqueB net (setL q k) <;> rfl
          · simp only [S.CliqueRowOk_run11, S.CliqueRowOk_step11]
            have hset : S.l13Set_t row (k : Int) = some ((setL q k : Nat) : Int) := by rw [hrow]; exact S.l13Set_n (by omega) k
            rw [cnd_t (by rw [decide_eq_true_eq]; omega), hset]
            simp only [optC]
            rw [S.l13Clique_n h (setL_lt (by omega)), add1_nat (by omega)]
            simp only
            cases cliqueB net (setL q k) <;> rfl
          · simp only [S.CliqueRowOk_run11, S.CliqueRowOk_step11]
            rw [cnd_f (by rw [decide_eq_false_iff_not]; omega)]
        · rw [q4] at a; cases a
      · rw [b]
        simp only [sumC]
        rcases rg_loop row row.length with ⟨q, q1, q2, q3, q4⟩ | ⟨_, q5⟩
        · rw [q4] at a; cases a
        · have : crB net row = false := not_true fun hc => by
            obtain ⟨q, rfl, q1, q2, _⟩ := crB_iff.1 hc
            exact q5 ⟨q, by rw [nl_len], q2, fun j hj => nl_at (by rw [nl_len] at hj; exact hj)⟩
          rw [this]
    · simp only [S.CliqueRowOk_run5, S.CliqueRowOk_step5]
      rw [cnd_t (by simp; omega), cnd_t (by simp; omega), Int.toNat_natCast, S.l1In_is]
      simp only [optC]
      unfold rgStep
      by_cases hc : 0 ≤ D.eli row k ∧ D.eli row k ≤ ((t : Nat) : Int)
      · rw [if_pos hc, decide_eq_true hc, Bool.not_true, cond_false, cnd_t (by simp; omega), add1_nat (a := k) (by omega)]
        obtain ⟨v, hv⟩ : ∃ v : Nat, D.eli row k = v := ⟨(D.eli row k).toNat, by omega⟩
        rw [hv, add1_nat (by omega), Int.toNat_natCast]
        refine ⟨?_, ?_⟩
        · congr 2
          by_cases hm : v + 1 > t
          · rw [if_pos (by omega), Nat.max_eq_right (by omega)]
          · rw [if_neg (by omega), Nat.max_eq_left (by omega)]
        · have hv2 : (v : Int) ≤ t := by rw [← hv]; exact hc.2
          omega
      · rw [if_neg hc, decide_eq_false hc]
        rfl
    · simp only [S.CliqueRowOk_run5, S.CliqueRowOk_step5]
      rw [cnd_f (by simp)]
  · have : crB net row = false := not_true fun hc => by
      obtain ⟨q, rfl, q1, _⟩ := crB_iff.1 hc
      exact hl (by rw [nl_len]; exact q1)
    rw [cnd_t (by simp; omega), this]
/-- The row that a call hands back. -/
def outOf : (List Int) ⊕ ((List Int) × (List Int)) → List Int
  | .inl r => r
  | .inr p => p.2
def rowO : Option (List Nat) → List Int
  | none => []
  | some q => nl q
def findStep {Q : Type} (g : Nat → Option Q) (_ : Unit) (v : Nat) : Q ⊕ Unit := match g v with | some q => .inl q | none => .inr ()
theorem loopE_find {Q : Type} (g : Nat → Option Q) : ∀ b, (∃ q, find b g = some q ∧ loopE b (findStep g) () = .inl q) ∨ (find b g = none ∧ loopE b (findStep g) () = .inr ()) := by
  intro b
  induction b with
  | zero => exact .inr ⟨rfl, rfl⟩
  | succ b ih =>
    rcases ih with ⟨q, a1, a2⟩ | ⟨a1, a2⟩
    · refine .inl ⟨q, by rw [find_succ, a1]; rfl, ?_⟩
      unfold loopE at a2 ⊢; rw [fold_succ, a2]
    · rw [find_succ, a1, loopE_succ a2]
      unfold findStep
      cases g b with
      | some q => exact .inl ⟨q, rfl, rfl⟩
      | none => exact .inr ⟨rfl, rfl⟩
theorem l13Next_n [r_ : S.l13Grow_r_R] {net : List Int} {m : Nat} {r : List Nat} (hr : r.length ≤ 6) (hr2 : ∀ k, k < r.length → r.getD k 0 < 100) : S.l13Grow_r_run5 net (m : Int) FUEL (0, 0, nl r) = some (((nx r : Nat) : Int), nl r) := by
  have hl := nl_len r
  have := (run_for (run := S.l13Grow_r_run5 net (m : Int)) (len := r.length) (fun k (t : Nat) => ((t : Int), (k : Int), nl r)) (fun t k => max t (r.getD k 0 + 1)) (fun t => ((t : Int), nl r)) (fun k t => True) (by omega) (fun f k t hk ht => ?_) (fun f t ht => ?_) (t0 := 0) trivial).1
  · have e : fold r.length (fun t k => max t (r.getD k 0 + 1)) 0 = nx r := by
      have key : ∀ k, k ≤ r.length → fold k (fun t k => max t (r.getD k 0 + 1)) 0 = nx (r.take k) := by
        intro k
        induction k with
        | zero => intro _; simp [nx, fold_zero]
        | succ k ih => intro hk; rw [fold_succ, ih (by omega), nx_take_succ (by omega)]
      have := key r.length (Nat.le_refl _)
      rwa [List.take_length] at this
    rw [e] at this
    exact this
  · simp only [S.l13Grow_r_run5, S.l13Grow_r_step5]
    rw [cnd_t (by simp; omega), cnd_t (by simp; omega), cnd_t (by simp; omega), Int.toNat_natCast, nl_at hk, add1_nat (a := k) (by omega)]
    have hv : r.getD k 0 < 100 := hr2 k hk
    rw [add1_nat (by omega)]
    refine ⟨?_, trivial⟩
    congr 3
    by_cases hm : r.getD k 0 + 1 > t
    · rw [if_pos (by omega), Nat.max_eq_right (by omega)]
    · rw [if_neg (by omega), Nat.max_eq_left (by omega)]
  · simp only [S.l13Grow_r_run5, S.l13Grow_r_step5]
    rw [cnd_f (by simp; omega)]
theorem getD_lt_nx {r : List Nat} {k : Nat} (hk : k < r.length) : r.getD k 0 < nx r := by
  have e : r.getD k 0 = r[k] := by simp [List.getD, hk]
  rw [e]; exact nx_gt (List.getElem_mem hk)
theorem rowO_len {net : List Int} {m : Nat} {r : List Nat} {q : Option (List Nat)} (h0 : 1 ≤ net.length) (hq : FirstExt (CRow net m) r q) : decide (((rowO q).length : Int) > 0) = q.isSome := by
  cases q with
  | none => rfl
  | some q =>
    have := hq.mem.2.len
    simp only [rowO, nl_len, Option.isSome_some, decide_eq_true_eq]
    omega
theorem S.l13Grow_step [c : S.l13Grow_r_R] {net : List Int} (h : Ok net) {m : Nat} (hm : m ≤ 6) {r : List Nat} (hr : RG r) (hlen : r.length ≤ net.length) (hn : nx r ≤ m) (hc : CliqueL net r)
    (hrec : ∀ v, r.length < net.length → v ≤ nx r → v < m → Clique net (setL (r ++ [v]) v) → ∃ o q, S.l13Grow_r0_t net (nl (r ++ [v])) (m : Int) = some o ∧ outOf o = rowO q ∧ FirstExt (CRow net m) (r ++ [v]) q) :
    ∃ o q, S.l13Grow_r_t net (nl r) (m : Int) = some o ∧ outOf o = rowO q ∧ FirstExt (CRow net m) r q := by
  have h6 := h.hi
  have h1 := h.lo
  have hll := nl_len r
  by_cases hl : r.length = net.length
  · refine ⟨.inl (nl r), some r, ?_, rfl, ⟨⟨List.prefix_rfl, ⟨hl, hr, hn, hc⟩⟩, fun q hq => .inl (hq.1.eq_of_length (by rw [hq.2.len]; exact hl))⟩⟩
    unfold S.l13Grow_r_t S.l13Grow_r_tree
    rw [cnd_t (by rw [hll]; simp; omega)]
  · have hlt : r.length < net.length := by omega
    have hex : ∀ v, ∃ q : Option (List Nat), v < min m (nx r + 1) → (cliqueB net (setL (r ++ [v]) v) = true → ∃ o, S.l13Grow_r0_t net (nl (r ++ [v])) (m : Int) = some o ∧ outOf o = rowO q ∧ FirstExt (CRow net m) (r ++ [v]) q) ∧ (cliqueB net (setL (r ++ [v]) v) = false → q = none) := fun v => by
      by_cases hv : v < min m (nx r + 1)
      · cases hq : cliqueB net (setL (r ++ [v]) v) with
        | true =>
          obtain ⟨o, q, a1, a2, a3⟩ := hrec v hlt (by omega) (by omega) ((cliqueB_iff h (setL_lt (by simp; omega))).1 hq)
          exact ⟨q, fun _ => ⟨fun _ => ⟨o, a1, a2, a3⟩, fun hh => by cases hh⟩⟩
        | false => exact ⟨none, fun _ => ⟨fun hh => (by cases hh), fun _ => rfl⟩⟩
      · exact ⟨none, fun hh => absurd hh hv⟩
    obtain ⟨f, hf⟩ := Classical.axiomOfChoice hex
    have hfirst : FirstExt (CRow net m) r (find (min m (nx r + 1)) f) := firstExt_loop (n := net.length) (fun q hq => hq.len) hlt (fun q hp hq => by
        have a := hq.rg r.length (by rw [hq.len]; exact hlt)
        rw [pre_take hp] at a
        have b := getD_lt_nx (r := q) (k := r.length) (by rw [hq.len]; exact hlt)
        have := hq.le
        omega) (fun v hv => by
        cases hq : cliqueB net (setL (r ++ [v]) v) with
        | true => exact ((hf v hv).1 hq).choose_spec.2.2
        | false =>
          rw [(hf v hv).2 hq]
          intro q hp hcr
          have := (cliqueB_iff h (setL_lt (r := r ++ [v]) (v := v) (by simp; omega))).2 ((CliqueL.append.1 (hcr.cl.pre hp)).2)
          rw [hq] at this; cases this)
    have l9 := (run_forE (run := S.l13Grow_r_run9 net (m : Int) (nx r : Nat)) (len := min m (nx r + 1)) (fun k (t : Unit) => ((k : Int), nl r)) (findStep f) (fun (q : List Nat) => Sum.inl (nl r, nl q)) (fun _ => Sum.inr (nl r)) (fun k t => True) (by omega) (fun n k t hk ht => ?_) (fun n t ht => ?_) (t0 := ()) trivial).1
    · unfold S.l13Grow_r_t S.l13Grow_r_tree
      rw [cnd_f (by rw [hll]; simp; omega), l13Next_n (by omega) (fun k hk => by have := getD_lt_nx hk; omega)]
      simp only [optC]
      rw [show S.l13Grow_r_run9 net (m : Int) (nx r : Nat) FUEL (0, nl r) = _ from l9]
      rcases loopE_find f (min m (nx r + 1)) with ⟨q, hfd, hlp⟩ | ⟨hfd, hlp⟩
      · rw [hlp]; exact ⟨.inr (nl r, nl q), some q, rfl, rfl, by rw [← hfd]; exact hfirst⟩
      · rw [hlp]; exact ⟨.inr (nl r, []), none, rfl, rfl, by rw [← hfd]; exact hfirst⟩
    · have hset : S.l13Set_t (nl (r ++ [k])) (k : Int) = some ((setL (r ++ [k]) k : Nat) : Int) := S.l13Set_n (by simp; omega) k
      have hst : S.l13Clique_t net ((setL (r ++ [k]) k : Nat) : Int) = some (cliqueB net (setL (r ++ [k]) k)) := S.l13Clique_n h (setL_lt (by simp; omega))
      have hcond : decide ((k : Int) < if (m : Int) < IntKind.i64.wrap (((nx r : Nat) : Int) + 1) then (m : Int) else IntKind.i64.wrap (((nx r : Nat) : Int) + 1)) = true := by
        rw [add1_nat (by omega), decide_eq_true_eq]
        split <;> omega
      have hcons := hf k hk
      simp only [S.l13Grow_r_run9, S.l13Grow_r_step9]
      rw [hcond, cond_true, cnd_t (by simp [small, nl_len]; omega), cnd_t (by simp [small, nl_len]; omega), List.nil_append, ← nl_append, hset]
      simp only [optC]
      rw [hst]
      simp only
      rw [add1_nat (by omega)]
      unfold findStep
      cases hq : cliqueB net (setL (r ++ [k]) k) with
      | false =>
        rw [hcons.2 hq]
        exact ⟨rfl, trivial⟩
      | true =>
        obtain ⟨o, a1, a2, a3⟩ := hcons.1 hq
        rw [cond_true, a1]
        have hlo := rowO_len h1 a3
        simp only
        cases o with
        | inl c =>
          simp only [sumC]
          have a2 : c = rowO (f k) := a2
          rw [a2, hlo]
          cases hfk : f k with
          | some q => rfl
          | none => exact ⟨rfl, trivial⟩
        | inr c =>
          simp only [sumC]
          have a2 : c.2 = rowO (f k) := a2
          rw [a2, hlo]
          cases hfk : f k with
          | some q => rfl
          | none => exact ⟨rfl, trivial⟩
    · have hcond : decide (((min m (nx r + 1) : Nat) : Int) < if (m : Int) < IntKind.i64.wrap (((nx r : Nat) : Int) + 1) then (m : Int) else IntKind.i64.wrap (((nx r : Nat) : Int) + 1)) = false := by
        rw [add1_nat (by omega), decide_eq_false_iff_not]
        split <;> omega
      simp only [S.l13Grow_r_run9, S.l13Grow_r_step9]
      rw [hcond]; rfl
theorem S.l13Grow_d {net : List Int} (h : Ok net) {m : Nat} (hm : m ≤ 6) : ∀ (k d : Nat) (r : List Nat), r.length + k = net.length → k < d → RG r → nx r ≤ m → CliqueL net r →
    ∃ o q, S.l13Grow_td d net (nl r) (m : Int) = some o ∧ outOf o = rowO q ∧ FirstExt (CRow net m) r q := by
  intro k
  induction k with
  | zero =>
    intro d r hk hd h1 h2 h3
    obtain ⟨d, rfl⟩ : ∃ q, d = q + 1 := ⟨d - 1, by omega⟩
    exact @S.l13Grow_step ⟨S.l13Grow_td d⟩ net h m hm r h1 (by omega) h2 h3 (fun v hv => by omega)
  | succ k ih =>
    intro d r hk hd h1 h2 h3
    obtain ⟨d, rfl⟩ : ∃ q, d = q + 1 := ⟨d - 1, by omega⟩
    exact @S.l13Grow_step ⟨S.l13Grow_td d⟩ net h m hm r h1 (by omega) h2 h3 (fun v hv a b hcl => ih d (r ++ [v]) (by simp; omega) (by omega) (RG_append.2 ⟨h1, a⟩) (by rw [nx_append]; omega) (CliqueL.append.2 ⟨h3, hcl⟩))
theorem S.l13Grow_n {net : List Int} (h : Ok net) {m : Nat} (hm : m ≤ 6) : ∃ o q, S.l13Grow_t net [] (m : Int) = some o ∧ outOf o = rowO q ∧ FirstExt (CRow net m) [] q := by
  have hF := FUEL_le
  have h6 := h.hi
  exact S.l13Grow_d h hm net.length FUEL [] (by simp) (by omega) RG.nil (Nat.zero_le _) (CliqueL.nil net)
/-- The first row of a kind. -/
noncomputable def firstOf (P : List Nat → Prop) : List Nat := @dite _ (∃ q, IsFirst P q) (Classical.propDecidable _) (fun h => h.choose) (fun _ => [])
theorem firstOf_is {P : List Nat → Prop} {q : List Nat} (h : IsFirst P q) : firstOf P = q := by
  have he : ∃ q, IsFirst P q := ⟨q, h⟩
  unfold firstOf
  rw [dif_pos he]
  exact he.choose_spec.uniq h
noncomputable def clRow (net : List Int) : List Nat := firstOf (CRow net (fewestCl net))
theorem first_of_ext {P : List Nat → Prop} {q : List Nat} (h : FirstExt P [] (some q)) : IsFirst P q := ⟨h.mem.2, fun r hr => h.le r ⟨List.nil_prefix, hr⟩⟩
theorem S.CliqueRow_x {net : List Int} (e : S.NetOk_t net = some false) : S.CliqueRow_t net = some [] := by
  unfold S.CliqueRow_t S.CliqueRow_tree
  have hF := FUEL_le
  obtain ⟨n, hn⟩ : ∃ q, FUEL = q + 1 := ⟨FUEL - 1, by omega⟩
  rw [hn]
  simp only [S.CliqueRow_run3, S.CliqueRow_step3]
  rw [e]; rfl
theorem S.CliqueRow_y {net : List Int} (h : Ok net) (e : S.NetOk_t net = some true) : S.CliqueRow_t net = some (nl (clRow net)) ∧ IsFirst (CRow net (fewestCl net)) (clRow net) := by
  have hF := FUEL_le
  have h6 := h.hi
  have h1 := h.lo
  have hle := fewestCl_le net
  have hmin := fewestCl_min net
  obtain ⟨o, q, a1, a2, a3⟩ := S.l13Grow_n h (m := fewestCl net) (by omega)
  have hq : ∃ p, q = some p := by
    cases q with
    | some p => exact ⟨p, rfl⟩
    | none =>
      obtain ⟨p, hp⟩ := crow_of hmin.ex
      exact absurd hp (a3 p List.nil_prefix)
  obtain ⟨p, rfl⟩ := hq
  have hfp := first_of_ext a3
  have hcl : clRow net = p := firstOf_is hfp
  rw [hcl]
  refine ⟨?_, hfp⟩
  have key : ∀ d j n, j + d = fewestCl net → 1 ≤ j → d + 1 < n → S.CliqueRow_run3 net n ((j : Int), []) = some (nl p) := by
    intro d
    induction d with
    | zero =>
      intro j n hj _ hn
      obtain ⟨n, rfl⟩ : ∃ q, n = q + 2 := ⟨n - 2, by omega⟩
      have hp := hfp.mem.len
      simp only [S.CliqueRow_run3, S.CliqueRow_step3]
      rw [e]
      simp only [optC, cond_true]
      rw [cnd_t (by rfl), show j = fewestCl net by omega, a1]
      simp only
      have hnl : ((nl p).length : Int) = ((net.length : Nat) : Int) := by rw [nl_len, hp]
      cases o with
      | inl c =>
        have a2 : c = nl p := a2
        simp only [sumC]
        rw [a2, cnd_f (by rw [beq_eq_false_iff_ne]; omega)]
      | inr c =>
        have a2 : c.2 = nl p := a2
        simp only [sumC]
        rw [a2, cnd_f (by rw [beq_eq_false_iff_ne]; omega)]
    | succ d ih =>
      intro j n hj h1j hn
      obtain ⟨n, rfl⟩ : ∃ q, n = q + 1 := ⟨n - 1, by omega⟩
      obtain ⟨o, q, b1, b2, b3⟩ := S.l13Grow_n h (m := j) (by omega)
      have hq : q = none := by
        cases q with
        | none => rfl
        | some q => have := hmin.le j (of_crow (first_of_ext b3).mem); omega
      subst hq
      simp only [S.CliqueRow_run3, S.CliqueRow_step3]
      rw [e]
      simp only [optC, cond_true]
      rw [cnd_t (by rfl), b1, add1_nat (by omega)]
      simp only
      cases o with
      | inl c =>
        have b2 : c = [] := b2
        simp only [sumC]
        rw [b2]
        exact ih (j + 1) n (by omega) (by omega) (by omega)
      | inr c =>
        have b2 : c.2 = [] := b2
        simp only [sumC]
        rw [b2]
        exact ih (j + 1) n (by omega) (by omega) (by omega)
  unfold S.CliqueRow_t S.CliqueRow_tree
  have hpos := fewestCl_pos h1
  rw [show S.CliqueRow_run3 net FUEL (1, []) = _ from key (fewestCl net - 1) 1 FUEL (by omega) (Nat.le_refl _) (by omega)]
  rfl
theorem minus_all_dec : ∀ n : Fin 7, ∀ b : Fin 64, b.val < 2 ^ n.val → minus (2 ^ n.val - 1) b.val = 2 ^ n.val - 1 - b.val := by decide +kernel
theorem or_pow_dec : ∀ b : Fin 64, ∀ k : Fin 6, b.val.testBit k.val = false → b.val ||| 2 ^ k.val = b.val + 2 ^ k.val := by decide +kernel
theorem other_num {net : List Int} (h : Ok net) {k : Nat} (hk : k < net.length) : nb net k + 2 ^ k ≤ allOf net ∧ allOf net - nb net k - 2 ^ k = minus (allOf net) (ball net k) := by
  have h6 := h.hi
  have hb := h.ball_lt hk
  have h64 := h.pow
  have e1 : ball net k = nb net k + 2 ^ k := or_pow_dec ⟨nb net k, h.lt64 hk⟩ ⟨k, by omega⟩ (h.irr k hk)
  have e2 : minus (allOf net) (ball net k) = allOf net - ball net k := minus_all_dec ⟨net.length, by omega⟩ ⟨ball net k, by omega⟩ hb
  rw [e2, e1]
  rw [e1] at hb
  unfold allOf
  omega
theorem S.OtherNet_x {net : List Int} (e : S.NetOk_t net = some false) : S.OtherNet_t net = some [] := by
  unfold S.OtherNet_t S.OtherNet_tree
  have hF := FUEL_le
  obtain ⟨n, hn⟩ : ∃ q, FUEL = q + 1 := ⟨FUEL - 1, by omega⟩
  rw [hn]
  simp only [S.OtherNet_run3, S.OtherNet_step3]
  rw [e]
  cases decide ((0 : Int) < ↑net.length) <;> rfl
theorem S.OtherNet_y {net : List Int} (h : Ok net) (e : S.NetOk_t net = some true) : S.OtherNet_t net = some (otherN net) := by
  have h6 := h.hi
  have h64 := h.pow
  unfold S.OtherNet_t S.OtherNet_tree
  have := (run_for (run := S.OtherNet_run3 net) (len := net.length) (fun k (t : Unit) => ((k : Int), (List.range k).map fun k => ((minus (allOf net) (ball net k) : Nat) : Int))) (fun t k => t) (fun t => otherN net) (fun k t => True) (by omega) (fun f k t hk ht => ?_) (fun f t ht => ?_) (t0 := ()) trivial).1
  · exact congrArg (fun o => optC o (fun q => some q) none) this
  · obtain ⟨hle, hnum⟩ := other_num h hk
    have hall := allOf_succ net
    have h2k : 2 ^ k < 2 ^ 6 := Nat.pow_lt_pow_right (by omega) (by omega)
    have h2p : 0 < 2 ^ k := Nat.two_pow_pos k
    simp only [S.OtherNet_run3, S.OtherNet_step3]
    rw [cnd_t (by simp; omega), e]
    simp only [optC, cond_true]
    rw [cnd_t (by simp; omega), cnd_f (by simp), all_shl h, one_shl (by omega), Int.toNat_natCast, h.eli hk, sub_nat (by omega) (by omega), sub_nat (by omega) (by omega), hnum, add1_nat (by omega),
      cnd_t (by simp [small]; omega)]
    refine ⟨?_, trivial⟩
    rw [List.range_succ, List.map_append]
    rfl
  · simp only [S.OtherNet_run3, S.OtherNet_step3]
    rw [cnd_f (by simp)]
    rfl
end Go.Proofs.Ytcfajdlkfpdonaa
/- Draws of chapters 9 and 10. Conditions: those of each theorem. -/
namespace Go.Proofs.Ytcfajdlkfpdonaa
open D Go.RowKit
set_option linter.unusedVariables false
set_option linter.unusedSimpArgs false


end Go.Proofs.Ytcfajdlkfpdonaa
/- Draws of chapters 12 and 13. Conditions: those of each theorem. -/
namespace Go.Proofs.Ytcfajdlkfpdonaa
open D Go.RowKit
set_option linter.unusedVariables false
set_option linter.unusedSimpArgs false


theorem S.l20Seen_is {rb : List Int} {rp n : Int} (hb : Bytes rb) (hl : rb.length ≤ 2000) (h0 : 0 ≤ rp) (h1 : rp ≤ 1000000) :
    ∃ rp' net v, S.l20Seen_t rb rp n = some (v, rb, rp', net) ∧ rp ≤ rp' ∧ rp' ≤ rp + 400 ∧ net.length ≤ 6 ∧ 0 ≤ v ∧ v < 128 := by
  unfold S.l20Seen_t S.l20Seen_tree
  obtain ⟨rp1, net, v, e1, a1, a2, a3, a4, a5⟩ := S.l20Set_is (n := n) hb hl h0 h1
  rw [e1]
  simp only [optC]
  rcases NetOk_cases net with ⟨h, g1, g2⟩ | ⟨_, g1, g2⟩
  · rw [S.l1SetOk_n h g2]
    simp only
    rcases set_cases h v with ⟨w, rfl, hw, hd⟩ | hd
    · rw [hd]
      simp only [cond_true]
      have h64 := h.pow
      obtain ⟨u, e2, b1, b2⟩ := S.l20Rd_pick_is (rp := rp1) (n := 2) hb hl (by omega) (by omega)
      rw [e2]
      simp only
      by_cases hu : u = 0
      · obtain ⟨x, e3, c1, c2⟩ := S.l20Rd_pick_is (rp := rp1 + 1) (n := ((2 ^ net.length : Nat) : Int)) hb hl (by omega) (by omega)
        have hp : 0 < 2 ^ net.length := Nat.two_pow_pos _
        have c2' := c2 (by omega)
        rw [cnd_t (by simpa using hu), len_shl a3, e3]
        simp only
        obtain ⟨y, rfl⟩ : ∃ y : Nat, x = y := ⟨x.toNat, by omega⟩
        have ha : w &&& y ≤ w := Nat.and_le_left
        rw [i64_and_nat _ _ (by omega) (by omega)]
        exact ⟨_, _, _, rfl, by omega, by omega, a3, by omega, by omega⟩
      · rw [cnd_f (by simpa using hu)]
        exact ⟨_, _, _, rfl, by omega, by omega, a3, a4, a5⟩
    · rw [hd]
      exact ⟨_, _, _, rfl, by omega, by omega, a3, a4, a5⟩
  · rw [S.l1SetOk_x g2]
    exact ⟨_, _, _, rfl, by omega, by omega, a3, a4, a5⟩
theorem seen_small {net : List Int} (h : Ok net) {s : Nat} (hs : s < 2 ^ net.length) : seen net s < 64 := Nat.lt_of_lt_of_le (h.seen_lt hs) h.pow
theorem S.DrawPlayMay_is {code : List Int} (hb : Bytes code) : ∃ (v q : Nat) (net : List Int), S.DrawPlayMay_t code = some ((v : Int), (q : Int), net) ∧ net.length ≤ 6 ∧ v < 128 ∧ q ≤ 12 := by
  unfold S.DrawPlayMay_t S.DrawPlayMay_tree
  obtain ⟨rb, e1, h1, h2⟩ := S.l20Open_is hb
  rw [e1]
  simp only [optC]
  obtain ⟨rp', net, v, e2, a1, a2, h3, h4, h5⟩ := S.l20Seen_is (n := 12) h1 h2 (Int.le_refl 0) (by decide)
  rw [e2]
  obtain ⟨w, rfl⟩ : ∃ w : Nat, v = w := ⟨v.toNat, by omega⟩
  simp only
  have fin : ∀ (rq : Int) (u : Nat), rp' ≤ rq → rq ≤ rp' + 5 → u < 128 → ∃ (v q : Nat) (net' : List Int), optC (S.l20Rd_pick_t rb rq (if 1 > (net.length : Int) then 1 else (net.length : Int))) (fun b => optC (S.l20Rd_pick_t b.2.1 b.2.2 40) (fun d => some ((u : Int), IntKind.i64.wrap (b.1 + IntKind.i64.wrap (IntKind.i64.wrap (d.1.tdiv 39) * 6)), net)) none) none = some ((v : Int), (q : Int), net') ∧ net'.length ≤ 6 ∧ v < 128 ∧ q ≤ 12 := by
    intro rq u q1 q2 hu
    obtain ⟨x, e3, x1, x2⟩ := S.l20Rd_pick_is (rp := rq) (n := if 1 > (net.length : Int) then 1 else (net.length : Int)) h1 h2 (by omega) (by omega)
    have x3 : x < 7 := by
      have := x2 (by split <;> omega)
      split at this <;> omega
    rw [e3]
    simp only [optC]
    obtain ⟨y, e4, y1, y2⟩ := S.l20Rd_pick_is (rp := rq + 1) (n := 40) h1 h2 (by omega) (by omega)
    have y3 := y2 (by decide)
    rw [e4]
    simp only
    obtain ⟨g, hg, hgl⟩ : ∃ g : Nat, IntKind.i64.wrap (x + IntKind.i64.wrap (IntKind.i64.wrap (y.tdiv 39) * 6)) = (g : Int) ∧ g ≤ 12 := by
      rcases tdiv_small (v := y) (a := 39) y1 (by omega) with hh | hh
      · rw [hh, i64_wrap (n := 0) (by decide) (by decide), i64_wrap (n := 0 * 6) (by decide) (by decide), i64_wrap (by omega) (by omega)]
        exact ⟨x.toNat, by omega, by omega⟩
      · rw [hh, i64_wrap (n := 1) (by decide) (by decide), i64_wrap (n := 1 * 6) (by decide) (by decide), i64_wrap (by omega) (by omega)]
        exact ⟨(x + 6).toNat, by omega, by omega⟩
    rw [hg]
    exact ⟨_, _, _, rfl, h3, hu, hgl⟩
  rcases NetOk_cases net with ⟨h, g1, g2⟩ | ⟨_, g1, g2⟩
  · rw [g2]
    simp only [cond_true]
    obtain ⟨x, e3, x1, x2⟩ := S.l20Rd_pick_is (rp := rp') (n := 2) h1 h2 (by omega) (by omega)
    rw [e3]
    simp only
    by_cases hx : x = 0
    · have hp : 0 < 2 ^ net.length := Nat.two_pow_pos _
      have hmod : w % 2 ^ net.length < 2 ^ net.length := Nat.mod_lt _ hp
      have hss := seen_small h hmod
      rw [cnd_t (by simpa using hx), len_shl h3, cnd_f (by rw [beq_eq_false_iff_ne]; omega), tmod_nat, S.SeenBy_n h g2 hmod]
      simpa only [optC] using fin (rp' + 1) (seen net (w % 2 ^ net.length)) (by omega) (by omega) (by omega)
    · rw [cnd_f (by simpa using hx)]
      simpa only [optC] using fin (rp' + 1) w (by omega) (by omega) (by omega)
  · rw [g2]
    simpa only [optC, cond_false] using fin rp' w (by omega) (by omega) (by omega)
theorem S.DrawCliqueOk_loop {rb : List Int} (hb : Bytes rb) (hl : rb.length ≤ 2000) {net : List Int} (h : Ok net) : ∀ (m x8 w : Nat) (rp : Int) (n : Nat), x8 + m = 8 → w < 2 ^ net.length → 0 ≤ rp → rp ≤ 900000 + x8 → m < n →
    ∃ w' : Nat, S.DrawCliqueOk_run6 n ((w : Int), (x8 : Int), rb, rp, net) = some ((w' : Int), net) ∧ w' < 2 ^ net.length := by
  have h6 := h.hi
  have h1 := h.lo
  have h64 := h.pow
  intro m
  induction m with
  | zero =>
    intro x8 w rp n hx hw h0 h1 hn
    obtain ⟨n, rfl⟩ : ∃ q, n = q + 1 := ⟨n - 1, by omega⟩
    simp only [S.DrawCliqueOk_run6, S.DrawCliqueOk_step6]
    rw [cnd_f (by rw [decide_eq_false_iff_not]; omega)]
    exact ⟨w, rfl, hw⟩
  | succ m ih =>
    intro x8 w rp n hx hw h0 h1 hn
    obtain ⟨n, rfl⟩ : ∃ q, n = q + 1 := ⟨n - 1, by omega⟩
    obtain ⟨u, e2, b1, b2⟩ := S.l20Rd_pick_is (rp := rp) (n := (net.length : Int)) hb hl (by omega) (by omega)
    have b2' := b2 (by omega)
    obtain ⟨k, rfl⟩ : ∃ k : Nat, u = k := ⟨u.toNat, by omega⟩
    have h2k : 2 ^ k < 2 ^ 6 := Nat.pow_lt_pow_right (by omega) (by omega)
    have hor : w ||| 2 ^ k < 2 ^ net.length := or_lt hw (by omega)
    have hck := S.l13Clique_n h hor
    simp only [S.DrawCliqueOk_run6, S.DrawCliqueOk_step6]
    rw [cnd_t (by rw [decide_eq_true_eq]; omega), e2]
    simp only [optC]
    rw [cnd_f (by simp), one_shl (by omega), i64_or_nat _ _ (by omega) (by omega), hck, add1_nat (by omega)]
    simp only
    cases cliqueB net (w ||| 2 ^ k) with
    | true => rw [cond_true, cnd_f (by simp)]; exact ih (x8 + 1) (w ||| 2 ^ k) (rp + 1) n (by omega) hor (by omega) (by omega) (by omega)
    | false => rw [cond_false]; exact ih (x8 + 1) w (rp + 1) n (by omega) hw (by omega) (by omega) (by omega)
theorem S.DrawCliqueOk_is {code : List Int} (hb : Bytes code) : ∃ (v : Nat) (net : List Int), S.DrawCliqueOk_t code = some ((v : Int), net) ∧ net.length ≤ 6 ∧ v < 128 := by
  unfold S.DrawCliqueOk_t S.DrawCliqueOk_tree
  obtain ⟨rb, e1, h1, h2⟩ := S.l20Open_is hb
  rw [e1]
  simp only [optC]
  obtain ⟨rp', net, v, e2, a1, a2, h3, h4, h5⟩ := S.l20Set_is (n := 12) h1 h2 (Int.le_refl 0) (by decide)
  rw [e2]
  obtain ⟨w, rfl⟩ : ∃ w : Nat, v = w := ⟨v.toNat, by omega⟩
  simp only
  rcases NetOk_cases net with ⟨h, g1, g2⟩ | ⟨_, g1, g2⟩
  · rw [g2]
    simp only [cond_true]
    obtain ⟨x, e3, x1, x2⟩ := S.l20Rd_pick_is (rp := rp') (n := 3) h1 h2 (by omega) (by omega)
    rw [e3]
    simp only
    by_cases hx : 0 < x
    · have hF := FUEL_le
      have h64 := h.pow
      obtain ⟨w', e4, hw'⟩ := S.DrawCliqueOk_loop h1 h2 h 8 0 0 (rp' + 1) FUEL (by omega) (Nat.two_pow_pos _) (by omega) (by omega) (by omega)
      rw [cnd_t (by rw [decide_eq_true_eq]; omega), show S.DrawCliqueOk_run6 FUEL (0, 0, rb, rp' + 1, net) = _ from e4]
      exact ⟨_, _, rfl, h3, by omega⟩
    · rw [cnd_f (by rw [decide_eq_false_iff_not]; omega)]
      exact ⟨_, _, rfl, h3, by omega⟩
  · rw [g2]
    exact ⟨_, _, rfl, h3, by omega⟩
theorem S.l13Set_g {row : List Int} (hr : row.length ≤ 7) (v : Int) : ∃ w : Nat, S.l13Set_t row v = some (w : Int) ∧ w < 2 ^ row.length := by
  unfold S.l13Set_t S.l13Set_tree
  have h7 : (2 : Nat) ^ row.length ≤ 2 ^ 7 := Nat.pow_le_pow_right (by omega) hr
  have := (run_for (run := S.l13Set_run3 row v) (len := row.length) (fun k (t : Nat) => ((t : Int), (k : Int))) (fun t k => if (D.eli row k == v) = true then t ||| 2 ^ k else t) (fun t => (t : Int)) (fun k t => t < 2 ^ row.length) (by omega) (fun f k t hk ht => ?_) (fun f t ht => ?_) (t0 := 0) (Nat.two_pow_pos _))
  · exact ⟨_, congrArg (fun o => optC o (fun q => some q) none) this.1, this.2⟩
  · have hpk : 2 ^ k < 2 ^ row.length := Nat.pow_lt_pow_right (by omega) hk
    simp only [S.l13Set_run3, S.l13Set_step3]
    rw [cnd_t (by simp; omega), cnd_t (by simp; omega), Int.toNat_natCast, add1_nat (by omega)]
    by_cases hv : (D.eli row k == v) = true
    · rw [cnd_t hv, cnd_f (by simp), if_pos hv, show IntKind.i64.wrap (1 * 2 ^ min k IntKind.i64.bits) = ((2 ^ k : Nat) : Int) from one_shl (k := k) (by omega), i64_or_nat _ _ (by omega) (by omega)]
      exact ⟨rfl, Nat.or_lt_two_pow ht hpk⟩
    · rw [cnd_f (by simpa using hv), if_neg hv]; exact ⟨rfl, ht⟩
  · simp only [S.l13Set_run3, S.l13Set_step3]
    rw [cnd_f (by simp)]
theorem S.DrawCliqueRowOk_inner {rb : List Int} (hb : Bytes rb) (hl : rb.length ≤ 2000) {net row : List Int} (hn : net.length ≤ 6) (hr : row.length < net.length) (x7 x8 : Nat) (hx7 : x7 ≤ 1000) : ∀ (m x10 x9 : Nat) (rp : Int) (n : Nat), x10 + m = x7 → x9 ≤ x7 → 0 ≤ rp → rp ≤ 900000 + x10 → m < n →
    ∃ (y : Nat) (rp' : Int), S.DrawCliqueRowOk_run10 (x7 : Int) (x8 : Int) n ((x9 : Int), (x10 : Int), rb, rp, net, row) = some ((y : Int), rb, rp', net, row) ∧ y ≤ x7 ∧ rp ≤ rp' ∧ rp' ≤ rp + m := by
  intro m
  induction m with
  | zero =>
    intro x10 x9 rp n hx hy h0 h1 hn
    obtain ⟨n, rfl⟩ : ∃ q, n = q + 1 := ⟨n - 1, by omega⟩
    simp only [S.DrawCliqueRowOk_run10, S.DrawCliqueRowOk_step10]
    rw [cnd_f (by rw [decide_eq_false_iff_not]; omega)]
    exact ⟨_, _, rfl, hy, Int.le_refl _, by omega⟩
  | succ m ih =>
    intro x10 x9 rp n hx hy h0 h1 hn
    obtain ⟨n, rfl⟩ : ∃ q, n = q + 1 := ⟨n - 1, by omega⟩
    obtain ⟨u, e2, b1, b2⟩ := S.l20Rd_pick_is (rp := rp) (n := 4) hb hl (by omega) (by omega)
    have next : ∀ z : Nat, z ≤ x7 → ∃ (y : Nat) (rp' : Int), S.DrawCliqueRowOk_run10 (x7 : Int) (x8 : Int) n ((z : Int), ((x10 + 1 : Nat) : Int), rb, rp + 1, net, row) = some ((y : Int), rb, rp', net, row) ∧ y ≤ x7 ∧ rp ≤ rp' ∧ rp' ≤ rp + ((m + 1 : Nat) : Int) := by
      intro z hz
      obtain ⟨y, rp', a, b, c, d⟩ := ih (x10 + 1) z (rp + 1) n (by omega) hz (by omega) (by omega) (by omega)
      exact ⟨y, rp', a, b, by omega, by omega⟩
    simp only [S.DrawCliqueRowOk_run10, S.DrawCliqueRowOk_step10]
    rw [cnd_t (by rw [decide_eq_true_eq]; omega), e2]
    simp only [optC]
    rw [add1_nat (by omega)]
    by_cases hu : 0 < u
    · rw [cnd_t (by rw [decide_eq_true_eq]; omega)]
      rcases NetOk_cases net with ⟨h, g1, g2⟩ | ⟨_, g1, g2⟩
      · rw [g2]
        simp only [cond_true]
        have hpw : 2 ^ ([] ++ row ++ [(x10 : Int)]).length ≤ 2 ^ net.length := Nat.pow_le_pow_right (by omega) (by simp; omega)
        obtain ⟨w, e3, hw⟩ := S.l13Set_g (row := [] ++ row ++ [(x10 : Int)]) (by simp; omega) (x10 : Int)
        rw [cnd_t (small_of (by simp; omega)), cnd_t (small_of (by simp; omega)), e3]
        simp only
        rw [S.l13Clique_n h (by omega)]
        simp only
        cases cliqueB net w with
        | true => exact next x10 (by omega)
        | false => exact next x9 hy
      · rw [g2]; exact next x9 hy
    · rw [cnd_f (by rw [decide_eq_false_iff_not]; omega)]
      exact ⟨_, _, rfl, hy, by omega, by omega⟩
theorem four_of (a : Int) {k : Nat} (hk : k < 4) : D.eli [-1, a, 0, 6] k = -1 ∨ D.eli [-1, a, 0, 6] k = a ∨ D.eli [-1, a, 0, 6] k = 0 ∨ D.eli [-1, a, 0, 6] k = 6 := by
  obtain rfl | rfl | rfl | rfl : k = 0 ∨ k = 1 ∨ k = 2 ∨ k = 3 := by omega
  · exact .inl rfl
  · exact .inr (.inl rfl)
  · exact .inr (.inr (.inl rfl))
  · exact .inr (.inr (.inr rfl))
theorem S.DrawCliqueRowOk_outer {rb : List Int} (hb : Bytes rb) (hl : rb.length ≤ 2000) {net : List Int} (hn : net.length ≤ 6) : ∀ (m x8 x7 : Nat) (row : List Int) (rp : Int) (n : Nat), x8 + m = net.length → row.length = x8 → x7 ≤ 7 + 2 * x8 → 0 ≤ rp → rp ≤ 500000 + 100 * x8 → m < n →
    ∃ (row' : List Int) (rp' : Int), S.DrawCliqueRowOk_run6 n ((x7 : Int), (x8 : Int), rb, rp, net, row) = some (rb, rp', net, row') ∧ row'.length = net.length ∧ 0 ≤ rp' ∧ rp' ≤ 900000 := by
  intro m
  induction m with
  | zero =>
    intro x8 x7 row rp n hx hr h7 h0 h1 hm
    obtain ⟨n, rfl⟩ : ∃ q, n = q + 1 := ⟨n - 1, by omega⟩
    simp only [S.DrawCliqueRowOk_run6, S.DrawCliqueRowOk_step6]
    rw [cnd_f (by rw [decide_eq_false_iff_not]; omega)]
    exact ⟨_, _, rfl, by omega, h0, by omega⟩
  | succ m ih =>
    intro x8 x7 row rp n hx hr h7 h0 h1 hm
    obtain ⟨n, rfl⟩ : ∃ q, n = q + 1 := ⟨n - 1, by omega⟩
    have hF := FUEL_le
    obtain ⟨y, rp2, e2, b1, b2, b3⟩ := S.DrawCliqueRowOk_inner hb hl hn (row := row) (by omega) x7 x8 (by omega) x7 0 x7 rp FUEL (by omega) (Nat.le_refl _) h0 (by omega) (by omega)
    simp only [S.DrawCliqueRowOk_run6, S.DrawCliqueRowOk_step6]
    rw [cnd_t (by rw [decide_eq_true_eq]; omega), show S.DrawCliqueRowOk_run10 (x7 : Int) (x8 : Int) FUEL ((x7 : Int), 0, rb, rp, net, row) = _ from e2]
    simp only [optC]
    obtain ⟨u, e3, c1, c2⟩ := S.l20Rd_pick_is (rp := rp2) (n := 25) hb hl (by omega) (by omega)
    rw [e3]
    simp only
    rw [add1_nat (a := x8) (by omega)]
    by_cases hu : u = 0
    · obtain ⟨t, e4, d1, d2⟩ := S.l20Rd_pick_is (rp := rp2 + 1) (n := 4) hb hl (by omega) (by omega)
      have d2' := d2 (by decide)
      rw [cnd_t (by simpa using hu), e4]
      simp only
      rw [add1_nat (a := x7) (by omega), cnd_t (by simp only [Bool.and_eq_true, decide_eq_true_eq, List.length_cons, List.length_nil]; omega), cnd_t (by simp only [decide_eq_true_eq, List.length_cons, List.length_nil]; omega), cnd_t (small_of (by simp; omega))]
      have hx : ∃ z : Nat, (if IntKind.i64.wrap (D.eli [-1, ((x7 + 1 : Nat) : Int), 0, 6] t.toNat + 1) > (x7 : Int) then IntKind.i64.wrap (D.eli [-1, ((x7 + 1 : Nat) : Int), 0, 6] t.toNat + 1) else (x7 : Int)) = (z : Int) ∧ z ≤ 7 + 2 * (x8 + 1) := by
        have hfour := four_of ((x7 + 1 : Nat) : Int) (k := t.toNat) (by omega)
        generalize D.eli [-1, ((x7 + 1 : Nat) : Int), 0, 6] t.toNat = q at hfour ⊢
        rw [i64_wrap (by omega) (by omega)]
        split
        · exact ⟨(q + 1).toNat, by omega, by omega⟩
        · exact ⟨x7, rfl, by omega⟩
      obtain ⟨z, hz, hzl⟩ := hx
      rw [hz]
      exact ih (x8 + 1) z _ (rp2 + 1 + 1) n (by omega) (by simp; omega) hzl (by omega) (by omega) (by omega)
    · rw [cnd_f (by simpa using hu), cnd_t (small_of (by simp; omega)), add1_nat (a := y) (by omega)]
      have hx : ∃ z : Nat, (if ((y + 1 : Nat) : Int) > (x7 : Int) then ((y + 1 : Nat) : Int) else (x7 : Int)) = (z : Int) ∧ z ≤ 7 + 2 * (x8 + 1) := by
        split
        · exact ⟨y + 1, rfl, by omega⟩
        · exact ⟨x7, rfl, by omega⟩
      obtain ⟨z, hz, hzl⟩ := hx
      rw [hz]
      exact ih (x8 + 1) z _ (rp2 + 1) n (by omega) (by simp; omega) hzl (by omega) (by omega) (by omega)
theorem S.DrawCliqueRowOk_is {code : List Int} (hb : Bytes code) : ∃ (net row : List Int), S.DrawCliqueRowOk_t code = some (net, row) ∧ net.length ≤ 6 ∧ row.length ≤ 7 := by
  unfold S.DrawCliqueRowOk_t S.DrawCliqueRowOk_tree
  have hF := FUEL_le
  obtain ⟨rb, e1, h1, h2⟩ := S.l20Open_is hb
  rw [e1]
  simp only [optC]
  obtain ⟨rp1, net, e2, a1, a2, h3⟩ := S.l20Net_is (n := 12) h1 h2 (Int.le_refl 0) (by decide)
  rw [e2]
  simp only
  obtain ⟨row, rp2, e3, b1, b2, b3⟩ := S.DrawCliqueRowOk_outer h1 h2 h3 net.length 0 0 [] rp1 FUEL (by omega) rfl (by omega) (by omega) (by omega) (by omega)
  rw [show S.DrawCliqueRowOk_run6 FUEL (0, 0, rb, rp1, net, []) = _ from e3]
  simp only
  obtain ⟨x, e4, x1, x2⟩ := S.l20Rd_pick_is (rp := rp2) (n := 20) h1 h2 (by omega) (by omega)
  rw [e4]
  simp only
  cases hx : x == 0 with
  | true => rw [cond_true, cnd_t (small_of (by simp; omega))]; exact ⟨_, _, rfl, h3, by simp; omega⟩
  | false => exact ⟨_, _, rfl, h3, by omega⟩
theorem S.DrawMostClique_is {code : List Int} (hb : Bytes code) : ∃ net, S.DrawMostClique_t code = some net ∧ net.length ≤ 6 := by
  unfold S.DrawMostClique_t S.DrawMostClique_tree
  obtain ⟨rb, e1, h1, h2⟩ := S.l20Open_is hb
  rw [e1]
  simp only [optC]
  obtain ⟨rp', net, e2, _, _, h3⟩ := S.l20Net_is (n := 9) h1 h2 (Int.le_refl 0) (by decide)
  rw [e2]
  exact ⟨_, rfl, h3⟩
theorem S.DrawCliqueRow_is {code : List Int} (hb : Bytes code) : ∃ net, S.DrawCliqueRow_t code = some net ∧ net.length ≤ 6 := by
  unfold S.DrawCliqueRow_t S.DrawCliqueRow_tree
  obtain ⟨rb, e1, h1, h2⟩ := S.l20Open_is hb
  rw [e1]
  simp only [optC]
  obtain ⟨rp', net, e2, _, _, h3⟩ := S.l20Net_is (n := 9) h1 h2 (Int.le_refl 0) (by decide)
  rw [e2]
  exact ⟨_, rfl, h3⟩
theorem S.DrawOtherNet_is {code : List Int} (hb : Bytes code) : ∃ net, S.DrawOtherNet_t code = some net ∧ net.length ≤ 6 := by
  unfold S.DrawOtherNet_t S.DrawOtherNet_tree
  obtain ⟨rb, e1, h1, h2⟩ := S.l20Open_is hb
  rw [e1]
  simp only [optC]
  obtain ⟨rp', net, e2, _, _, h3⟩ := S.l20Net_is (n := 9) h1 h2 (Int.le_refl 0) (by decide)
  rw [e2]
  exact ⟨_, rfl, h3⟩
end Go.Proofs.Ytcfajdlkfpdonaa
/- Trees of wires: the places with one wire, and the sets that stand together, make all places. Conditions: those of each theorem. -/
namespace Go.Proofs.Ytcfajdlkfpdonaa
set_option linter.unusedVariables false
set_option linter.unusedSimpArgs false

/-- A net of some of the wires. -/
structure Sub (net t : List Int) : Prop where
  ok : Ok t
  len : t.length = net.length
  sub : ∀ k j, k < net.length → (nb t k).testBit j = true → (nb net k).testBit j = true
/-- A tree: one part, of as few wires as can be. -/
structure Tree (net t : List Int) : Prop where
  sub : Sub net t
  one : parts t = 1
  wires_ : wires t + 1 = net.length
/-- How many places have one wire alone. -/
def leafs (t : List Int) : Nat := cnt t.length (fun k => size (nb t k) == 1)
/-- The places with more than one wire. -/
def inner (t : List Int) : Nat := orN t.length (fun k => !(size (nb t k) == 1)) (fun k => 2 ^ k)
/-! ### A tree over a joined watch -/
/-- After m steps from r within a set. -/
theorem steps_lvl {net : List Int} (h : Ok net) {s r : Nat} (hs : s < 2 ^ net.length) (hr : s.testBit r = true) (hT : Together net s) : ∃ lv : Nat → Nat, ∃ p : Nat → Nat, lv r = 0 ∧ ∀ v, s.testBit v = true → v ≠ r → s.testBit (p v) = true ∧ (nb net v).testBit (p v) = true ∧ lv (p v) < lv v ∧ lv v ≤ 6 := by
  have hrl := in_lt hs hr
  have h6 := h.hi
  have e0 : 2 ^ r &&& s = 2 ^ r := Nat.eq_of_testBit_eq fun j => by
    rw [Nat.testBit_and, testBit_pow]
    by_cases hxj : r = j
    · rw [← hxj, hr]; simp
    · simp [hxj]
  let L := fun m k => (steps net s m (2 ^ r)).testBit k
  have mono1 : ∀ m k, L m k = true → L (m + 1) k = true := fun m k hk => (grow_testBit _ _ _ _).2 (.inl hk)
  have mono : ∀ m m' k, m ≤ m' → L m k = true → L m' k = true := by
    intro m m' k hm hk
    induction m' with
    | zero => obtain rfl : m = 0 := by omega
              exact hk
    | succ m' ih =>
      by_cases he : m = m' + 1
      · rw [← he]; exact hk
      · exact mono1 m' k (ih (by omega))
  let lv := fun k => cnt 6 (fun m => !L m k)
  have six : ∀ v, s.testBit v = true → L 6 v = true := fun v hv => by
    have hx : (part net s r).testBit v = true := (h.part_testBit hrl v).2 (hT.2 r v hr hv)
    unfold part at hx
    rw [e0] at hx
    exact hx
  have hp : ∀ v, ∃ j, s.testBit v = true → v ≠ r → s.testBit j = true ∧ (nb net v).testBit j = true ∧ lv j < lv v := fun v => by
    by_cases hv : s.testBit v = true ∧ v ≠ r
    · have h0 : L 0 v = false := by
        show (2 ^ r).testBit v = false
        rw [testBit_pow]; simp; exact fun he => hv.2 he.symm
      have hex : ∀ m, m ≤ 6 → L m v = true → ∃ q, q < m ∧ L q v = false ∧ L (q + 1) v = true := by
        intro m
        induction m with
        | zero => intro _ hb; rw [h0] at hb; cases hb
        | succ m ih =>
          intro hm hb
          cases hc : L m v with
          | false => exact ⟨m, by omega, hc, hb⟩
          | true => obtain ⟨q, a, b⟩ := ih (by omega) hc; exact ⟨q, by omega, b⟩
      obtain ⟨q, hq, hqf, hqt⟩ := hex 6 (Nat.le_refl _) (six v hv.1)
      rcases (grow_testBit _ _ _ _).1 hqt with c1 | ⟨⟨j, hj, c1, c2⟩, _⟩
      · have : L q v = true := c1
        rw [hqf] at this; cases this
      · have hjs : s.testBit j = true := by
          have := steps_reach (net := net) (A := s) (i := r) q (j := j) (by rw [e0]; exact c1)
          exact this.among.2
        have hvl := in_lt hs hv.1
        refine ⟨j, fun _ _ => ⟨hjs, by rw [h.sym j v hj hvl]; exact c2, ?_⟩⟩
        have hjl : L q j = true := c1
        have h1 : lv j ≤ q := by
          have := cnt_mono (n := 6) (p := fun m => !L m j) (q := fun i => decide (i < q)) (fun m hm hp => by
            have hp' : L m j = false := by simpa using hp
            rw [decide_eq_true_eq]
            refine Classical.byContradiction fun hc => ?_
            rw [mono q m j (by omega) hjl] at hp'; cases hp')
          rw [cnt_below 6 q (by omega)] at this
          exact this
        have h2 : q + 1 ≤ lv v := by
          have := cnt_mono (n := 6) (p := fun i => decide (i < q + 1)) (q := fun m => !L m v) (fun m hm hp => by
            have hp' : m < q + 1 := by simpa using hp
            cases hx : L m v with
            | false => rfl
            | true => rw [mono m q v (by omega) hx] at hqf; cases hqf)
          rw [cnt_below 6 (q + 1) (by omega)] at this
          exact this
        omega
    · exact ⟨0, fun a b => absurd ⟨a, b⟩ hv⟩
  refine ⟨lv, fun v => Classical.choose (hp v), ?_, fun v hv hne => ?_⟩
  · show cnt 6 (fun m => !L m r) = 0
    have : cnt 6 (fun m => !L m r) = cnt 6 (fun _ => false) := cnt_congr fun m _ => by
      have : L m r = true := mono 0 m r (by omega) (by show (2 ^ r).testBit r = true; rw [testBit_pow]; simp)
      rw [this]; rfl
    rw [this]; rfl
  · obtain ⟨a, b, c⟩ := Classical.choose_spec (hp v) hv hne
    exact ⟨a, b, c, cnt_le _ _⟩
/-- The net of the wires from each place but r to its parent. -/
def treeOf (n r : Nat) (p : Nat → Nat) : List Int := (List.range n).map fun k => ((orN n (fun j => (!(k == r) && (p k == j)) || (!(j == r) && (p j == k))) (fun j => 2 ^ j) : Nat) : Int)
end Go.Proofs.Ytcfajdlkfpdonaa
