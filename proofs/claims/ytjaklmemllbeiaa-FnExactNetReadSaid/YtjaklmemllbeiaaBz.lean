/- Several texts in one: Nt1, Nt2, Nt3, Str, N1, N2, N4, Chap1, Ch3, Ch5, Ch6, Tree, Lf, Tx, Ch7, Ch9, Hall, Ch10, Shift, N3, Ex, Ex2, S3, Dr, Dr2, Dr3, S6, S6b, S7, S8, Pm, Br3, I3, I6, Fl, J14t, J14u, L2, L3, L14t, Ex14t. Conditions: those of each theorem. -/
import Derived.Test.YtjaklmemllbeiaaBza3
import Derived.Test.YtjaklmemllbeiaaBzTz
/- What the laws' own small functions come to. Conditions: those of each theorem. -/
namespace Go.Proofs.Ytjaklmemllbeiaa
open D Go.RowKit
set_option linter.unusedVariables false
set_option linter.unusedSimpArgs false


theorem L.toIntS_is {a : List Int} (ha : a.length ≤ 1048576) : L.toIntS_t a = some a := by
  have hloop : L.toIntS_run3 a FUEL (0, List.replicate (↑a.length : Int).toNat 0) = some a := by
    refine run_fuel (run := L.toIntS_run3 a) (fun s => 0 ≤ s.1 ∧ s.1 ≤ a.length ∧ s.2.length = a.length ∧ ∀ j, j < s.1.toNat → s.2.getD j 0 = a.getD j 0) (fun s => a.length - s.1.toNat) (fun _ => a) ?_ ?_ ?_
    · rintro n ⟨x, r⟩ ⟨h0, h1, h2, h3⟩
      simp only at h0 h1 h2 h3
      by_cases hx : x < (a.length : Int)
      · refine .inr ⟨(IntKind.i64.wrap (x + 1), r.set x.toNat (eli a x.toNat)), ?_, ?_, ?_, rfl⟩
        · simp only [L.toIntS_run3, L.toIntS_step3]
          rw [cnd_t (by simpa using hx), cnd_t (by simp; omega), cnd_t (by simp; omega), cnd_t (by simp; omega)]
        · rw [i64_wrap (by omega) (by omega)]
          refine ⟨by simp only; omega, by simp only; omega, by simp only [List.length_set]; exact h2, fun j hj => ?_⟩
          simp only at hj ⊢
          by_cases hjx : j = x.toNat
          · subst hjx
            have hlt : x.toNat < r.length := by omega
            simp [List.getD, hlt, eli]
          · rw [← h3 j (by omega)]
            simp [List.getD, List.getElem?_set_ne (Ne.symm hjx)]
        · rw [i64_wrap (by omega) (by omega)]; simp only; omega
      · refine .inl ?_
        simp only [L.toIntS_run3, L.toIntS_step3]
        rw [cnd_f (by simpa using hx)]
        congr 1
        apply List.ext_getElem?
        intro j
        by_cases hj : j < a.length
        · have := h3 j (by omega)
          simp only [List.getD, h2, hj, List.getElem?_eq_getElem, Option.getD_some, hj] at this ⊢
          rw [this]
        · rw [List.getElem?_eq_none (by omega), List.getElem?_eq_none (by omega)]
    · refine ⟨by simp, by simp, by simp, fun j hj => by simp at hj⟩
    · simp; omega
  unfold L.toIntS_t L.toIntS_tree
  rw [cnd_t (by simp [small]; omega), hloop]
  rfl

theorem L.eqIntS_is {a b : List Int} (ha : a.length ≤ 2097152) : L.eqIntS_t a b = some (decide (a = b)) := by
  unfold L.eqIntS_t L.eqIntS_tree
  by_cases hl : a.length = b.length
  · rw [cnd_f (by simp [hl])]
    have hloop : L.eqIntS_run4 a b FUEL 0 = some (if a = b then .inr () else .inl false) := by
      refine run_fuel (run := L.eqIntS_run4 a b) (fun x => 0 ≤ x ∧ x ≤ a.length ∧ ∀ j, j < x.toNat → a.getD j 0 = b.getD j 0) (fun x => a.length - x.toNat) (fun _ => if a = b then .inr () else .inl false) ?_ ?_ ?_
      · rintro n x ⟨h0, h1, h3⟩
        by_cases hx : x < (a.length : Int)
        · by_cases he : eli a x.toNat = eli b x.toNat
          · refine .inr ⟨IntKind.i64.wrap (x + 1), ?_, ?_, ?_, rfl⟩
            · simp only [L.eqIntS_run4, L.eqIntS_step4]
              rw [cnd_t (by simpa using hx), cnd_t (by simp; omega), cnd_t (by simp; omega), cnd_f (by simp [he])]
            · rw [i64_wrap (by omega) (by omega)]
              refine ⟨by omega, by omega, fun j hj => ?_⟩
              by_cases hjx : j = x.toNat
              · subst hjx; exact he
              · exact h3 j (by omega)
            · rw [i64_wrap (by omega) (by omega)]; omega
          · refine .inl ?_
            simp only [L.eqIntS_run4, L.eqIntS_step4]
            rw [cnd_t (by simpa using hx), cnd_t (by simp; omega), cnd_t (by simp; omega), cnd_t (by simp [he])]
            rw [if_neg (fun h => he (by rw [h]))]
        · refine .inl ?_
          simp only [L.eqIntS_run4, L.eqIntS_step4]
          rw [cnd_f (by simpa using hx)]
          have : a = b := by
            apply List.ext_getElem hl
            intro j hj hj'
            have := h3 j (by omega)
            simpa [List.getD, hj, hj'] using this
          rw [if_pos this]
      · exact ⟨by simp, by simp, fun j hj => by simp at hj⟩
      · simp; omega
    rw [hloop]
    by_cases h : a = b
    · simp [h, optC, sumC]
    · simp [h, optC, sumC]
  · rw [cnd_t (by simp; omega)]
    have : ¬ a = b := fun h => hl (by rw [h])
    simp [this]
end Go.Proofs.Ytjaklmemllbeiaa
/- What is a net: the program's test and the model's come to the same. Conditions: those of each theorem. -/
namespace Go.Proofs.Ytjaklmemllbeiaa
open D Go.RowKit
set_option linter.unusedVariables false
set_option linter.unusedSimpArgs false


theorem i64_bits : IntKind.i64.bits = 64 := by kernel_rfl
def hasI (s : Int) (p : Nat) : Bool := (s.fdiv (2 ^ min p 64)) % 2 == 1
theorem I.hasPlace_is {s p : Int} (hp : 0 ≤ p) : I.hasPlace_t s p = some (hasI s p.toNat) := by
  unfold I.hasPlace_t I.hasPlace_tree
  rw [cnd_f (by simp; omega), i64_and1, i64_bits]
  rfl
theorem I.setIn_is {net : List Int} {s : Int} (hl : net.length ≤ 6) : I.setIn_t net s = some (decide (0 ≤ s ∧ s < 2 ^ net.length)) := by
  unfold I.setIn_t I.setIn_tree
  have e : IntKind.i64.wrap (1 * 2 ^ min (↑net.length : Int).toNat IntKind.i64.bits) = 2 ^ net.length := by
    rw [i64_bits, Int.toNat_natCast, Int.one_mul]
    generalize net.length = k at hl
    match k, hl with
    | 0, _ | 1, _ | 2, _ | 3, _ | 4, _ | 5, _ | 6, _ => exact i64_wrap (by decide) (by decide)
  by_cases h : 0 ≤ s
  · rw [cnd_t (by simpa using h), e]; simp [h]
  · rw [cnd_f (by simpa using h)]; simp [h]
theorem I.knownBack_is {net : List Int} {p : Int} (hl : net.length ≤ 6) (h0 : 0 ≤ p) (h1 : p < net.length) :
    I.knownBack_t net p = some ((List.range net.length).all fun q => !hasI (eli net p.toNat) q || hasI (eli net q) p.toNat) := by
  unfold I.knownBack_t I.knownBack_tree
  rw [run_all (run := I.knownBack_run2 net p) (len := net.length) (fun q => !hasI (eli net p.toNat) q || hasI (eli net q) p.toNat) (by omega) (fun n x hx0 hx1 => by
    simp only [I.knownBack_run2, I.knownBack_step2]
    by_cases hx : x < (net.length : Int)
    · rw [if_pos hx, cnd_t (by simpa using hx), cnd_t (by simp; omega), I.hasPlace_is hx0]
      simp only [optC]
      cases ha : hasI (eli net p.toNat) x.toNat with
      | false => simp only [cond_false, Bool.not_false, Bool.true_or, cond_true]; rw [i64_wrap (by omega) (by omega)]
      | true =>
        rw [cond_true, cnd_t (by simp; omega), I.hasPlace_is h0]
        simp only [optC]
        cases hb : hasI (eli net x.toNat) p.toNat with
        | false => rfl
        | true => simp only [Bool.not_true, cond_false, Bool.or_true, cond_true]; rw [i64_wrap (by omega) (by omega)]
    · rw [if_neg hx, cnd_f (by simpa using hx)])]
  cases (List.range net.length).all _ <;> rfl
theorem I.NetOk_is {net : List Int} : I.NetOk_t net = some (decide (1 ≤ net.length) && decide (net.length ≤ 6) && (List.range net.length).all fun p =>
    decide (0 ≤ eli net p ∧ eli net p < 2 ^ net.length) && !hasI (eli net p) p && (List.range net.length).all fun q => !hasI (eli net p) q || hasI (eli net q) p) := by
  unfold I.NetOk_t I.NetOk_tree
  rcases Nat.lt_or_ge net.length 1 with hlo | hlo
  · rw [cnd_t (by simp; omega), decide_eq_false (by omega : ¬ 1 ≤ net.length)]; rfl
  rw [cnd_f (by simp; omega)]
  rcases Nat.lt_or_ge 6 net.length with hl | hl
  · rw [cnd_t (by simp; omega), decide_eq_false (by omega : ¬ net.length ≤ 6), Bool.and_false]; rfl
  rw [cnd_f (by simp; omega)]
  rw [run_all (run := I.NetOk_run4 net) (len := net.length) (fun p => decide (0 ≤ eli net p ∧ eli net p < 2 ^ net.length) && !hasI (eli net p) p && (List.range net.length).all fun q => !hasI (eli net p) q || hasI (eli net q) p) (by omega) (fun n x hx0 hx1 => by
    simp only [I.NetOk_run4, I.NetOk_step4]
    by_cases hx : x < (net.length : Int)
    · rw [if_pos hx, cnd_t (by simpa using hx), cnd_t (by simp; omega), I.setIn_is hl]
      simp only [optC]
      cases ha : decide (0 ≤ eli net x.toNat ∧ eli net x.toNat < 2 ^ net.length) with
      | false => rfl
      | true =>
        rw [Bool.not_true, cond_false, cnd_t (by simp; omega), I.hasPlace_is hx0]
        simp only [optC]
        cases hb : hasI (eli net x.toNat) x.toNat with
        | true => rfl
        | false =>
          rw [cond_false, I.knownBack_is hl hx0 hx]
          simp only [optC]
          cases hc : (List.range net.length).all fun q => !hasI (eli net x.toNat) q || hasI (eli net q) x.toNat with
          | false => rfl
          | true => simp only [Bool.not_true, Bool.not_false, cond_false, Bool.and_true, cond_true]; rw [i64_wrap (by omega) (by omega)]
    · rw [if_neg hx, cnd_f (by simpa using hx)])]
  simp only [hlo, hl, decide_true, Bool.true_and]
  cases (List.range net.length).all _ <;> rfl
def bitS (s : Int) (p : Nat) : Int := (s.fdiv (2 ^ min p 64)).tmod 2
theorem S.l1In_is {x a b : Int} : S.l1In_t x a b = some (decide (a ≤ x ∧ x ≤ b)) := by
  unfold S.l1In_t S.l1In_tree
  by_cases h : a ≤ x
  · rw [cnd_t (by simpa using h)]; simp [h]
  · rw [cnd_f (by simpa using h)]; simp [h]
theorem S.NetOk_is {net : List Int} : S.NetOk_t net = some (decide (1 ≤ net.length) && decide (net.length ≤ 6) &&
    ((List.range net.length).all fun p => decide (0 ≤ eli net p ∧ eli net p < 2 ^ net.length)) && (List.range net.length).all fun p =>
    (List.range net.length).all fun q => bitS (eli net p) q == bitS (eli net q) p && !(q == p && bitS (eli net p) q == 1)) := by
  unfold S.NetOk_t S.NetOk_tree
  rw [S.l1In_is]
  simp only [optC]
  rcases Nat.lt_or_ge net.length 1 with hlo | hlo
  · rw [decide_eq_false (by omega : ¬ 1 ≤ net.length), decide_eq_false (by omega : ¬ ((1 : Int) ≤ (net.length : Int) ∧ (net.length : Int) ≤ 6))]; rfl
  rcases Nat.lt_or_ge 6 net.length with hl | hl
  · rw [decide_eq_false (by omega : ¬ net.length ≤ 6), decide_eq_false (by omega : ¬ ((1 : Int) ≤ (net.length : Int) ∧ (net.length : Int) ≤ 6)), Bool.and_false]; rfl
  rw [decide_eq_true (by omega : ((1 : Int) ≤ (net.length : Int) ∧ (net.length : Int) ≤ 6)), Bool.not_true, cond_false]
  have e : IntKind.i64.wrap (IntKind.i64.wrap (1 * 2 ^ min (↑net.length : Int).toNat IntKind.i64.bits) - 1) = 2 ^ net.length - 1 := by
    rw [i64_bits, Int.toNat_natCast, Int.one_mul]
    generalize net.length = k at hl
    match k, hl with
    | 0, _ | 1, _ | 2, _ | 3, _ | 4, _ | 5, _ | 6, _ => rw [i64_wrap (n := 2 ^ min _ 64) (by decide) (by decide)]; exact i64_wrap (by decide) (by decide)
  rw [run_all (run := S.NetOk_run4 net) (len := net.length) (fun p => decide (0 ≤ eli net p ∧ eli net p < 2 ^ net.length)) (by omega) (fun n x hx0 hx1 => by
    simp only [S.NetOk_run4, S.NetOk_step4]
    by_cases hx : x < (net.length : Int)
    · rw [if_pos hx, cnd_t (by simpa using hx), cnd_t (by simp; omega), S.l1In_is, e]
      simp only [optC]
      have : decide (0 ≤ eli net x.toNat ∧ eli net x.toNat ≤ 2 ^ net.length - 1) = decide (0 ≤ eli net x.toNat ∧ eli net x.toNat < 2 ^ net.length) := decide_eq_decide.2 (by omega)
      rw [this]
      cases decide (0 ≤ eli net x.toNat ∧ eli net x.toNat < 2 ^ net.length) with
      | false => rfl
      | true => simp only [Bool.not_true, cond_false, cond_true]; rw [i64_wrap (by omega) (by omega)]
    · rw [if_neg hx, cnd_f (by simpa using hx)])]
  have inner : ∀ p : Int, 0 ≤ p → p < net.length → S.NetOk_run12 net p FUEL 0 = some (bif (List.range net.length).all (fun q => bitS (eli net p.toNat) q == bitS (eli net q) p.toNat && !(q == p.toNat && bitS (eli net p.toNat) q == 1)) then .inr () else .inl false) := by
    intro p hp0 hp1
    refine run_all (run := S.NetOk_run12 net p) (len := net.length) _ (by omega) (fun n x hx0 hx1 => ?_)
    simp only [S.NetOk_run12, S.NetOk_step12]
    by_cases hx : x < (net.length : Int)
    · rw [if_pos hx, cnd_t (by simpa using hx), cnd_t (by simp; omega), cnd_f (by simp; omega), cnd_t (by simp; omega), cnd_f (by simp; omega), i64_bits]
      show (bif !(bitS (eli net p.toNat) x.toNat == bitS (eli net x.toNat) p.toNat) then _ else _) = _
      cases ha : (bitS (eli net p.toNat) x.toNat == bitS (eli net x.toNat) p.toNat) with
      | false => rfl
      | true =>
        rw [Bool.not_true, cond_false, Bool.true_and]
        by_cases hxp : x = p
        · subst hxp
          rw [cnd_t (by simp), cnd_t (by simp; omega), cnd_f (by simp; omega), BEq.rfl, Bool.true_and]
          show (bif (bitS (eli net x.toNat) x.toNat == 1) then _ else _) = _
          cases (bitS (eli net x.toNat) x.toNat == 1) with
          | true => rfl
          | false => simp only [cond_false, Bool.not_false, cond_true]; rw [i64_wrap (by omega) (by omega)]
        · rw [cnd_f (by simpa using hxp)]
          have : (x.toNat == p.toNat) = false := by simp; omega
          rw [this, Bool.false_and, Bool.not_false, cond_true, i64_wrap (by omega) (by omega)]
    · rw [if_neg hx, cnd_f (by simpa using hx)]
  rw [run_all (run := S.NetOk_run9 net) (len := net.length) (fun p => (List.range net.length).all fun q => bitS (eli net p) q == bitS (eli net q) p && !(q == p && bitS (eli net p) q == 1)) (by omega) (fun n x hx0 hx1 => by
    simp only [S.NetOk_run9, S.NetOk_step9]
    by_cases hx : x < (net.length : Int)
    · rw [if_pos hx, cnd_t (by simpa using hx), inner x hx0 hx]
      simp only [optC]
      cases (List.range net.length).all fun q => bitS (eli net x.toNat) q == bitS (eli net q) x.toNat && !(q == x.toNat && bitS (eli net x.toNat) q == 1) with
      | false => rfl
      | true => simp only [cond_true, sumC]; rw [i64_wrap (by omega) (by omega)]
    · rw [if_neg hx, cnd_f (by simpa using hx)])]
  simp only [hlo, hl, decide_true, Bool.true_and]
  cases (List.range net.length).all fun p => decide (0 ≤ eli net p ∧ eli net p < 2 ^ net.length) with
  | false => rfl
  | true =>
    simp only [cond_true, sumC, Bool.true_and]
    cases (List.range net.length).all _ <;> rfl
theorem bitS_is {s : Int} (h : 0 ≤ s) (p : Nat) : bitS s p = if hasI s p = true then 1 else 0 := by
  unfold bitS hasI
  have h2 : (0 : Int) < 2 ^ min p 64 := Int.pow_pos (by decide)
  have h3 : 0 ≤ s.fdiv (2 ^ min p 64) := Int.fdiv_nonneg h (by omega)
  rw [Int.tmod_eq_emod_of_nonneg h3]
  by_cases h4 : s.fdiv (2 ^ min p 64) % 2 = 1
  · simp [h4]
  · have : s.fdiv (2 ^ min p 64) % 2 = 0 := by omega
    simp [this]
theorem NetOk_eq {net : List Int} : I.NetOk_t net = S.NetOk_t net := by
  rw [I.NetOk_is, S.NetOk_is]
  congr 1
  rw [Bool.eq_iff_iff]
  simp only [Bool.and_eq_true, List.all_eq_true, List.mem_range, decide_eq_true_eq, Bool.or_eq_true, Bool.not_eq_true', beq_iff_eq, Bool.and_eq_false_iff, beq_eq_false_iff_ne]
  constructor
  · rintro ⟨⟨h1, h2⟩, h3⟩
    refine ⟨⟨⟨h1, h2⟩, fun p hp => (h3 p hp).1.1⟩, fun p hp q hq => ⟨?_, ?_⟩⟩
    · rw [bitS_is (h3 p hp).1.1.1, bitS_is (h3 q hq).1.1.1]
      have a1 := (h3 p hp).2 q hq
      have a2 := (h3 q hq).2 p hp
      cases ha : hasI (eli net p) q <;> cases hb : hasI (eli net q) p <;> simp_all
    · by_cases hqp : q = p
      · subst hqp
        right
        rw [bitS_is (h3 q hq).1.1.1, (h3 q hq).1.2]
        decide
      · exact .inl hqp
  · rintro ⟨⟨⟨h1, h2⟩, h3⟩, h4⟩
    refine ⟨⟨h1, h2⟩, fun p hp => ⟨⟨h3 p hp, ?_⟩, fun q hq => ?_⟩⟩
    · have := (h4 p hp p hp).2
      rw [bitS_is (h3 p hp).1] at this
      cases ha : hasI (eli net p) p with
      | false => rfl
      | true => rw [ha] at this; simp at this
    · have := (h4 p hp q hq).1
      rw [bitS_is (h3 p hp).1, bitS_is (h3 q hq).1] at this
      cases ha : hasI (eli net p) q <;> cases hb : hasI (eli net q) p <;> simp_all
end Go.Proofs.Ytjaklmemllbeiaa
/- What drawn nets are. Conditions: those of each theorem. -/
namespace Go.Proofs.Ytjaklmemllbeiaa
open D Go.RowKit
set_option linter.unusedVariables false
set_option linter.unusedSimpArgs false


/-- A code of bytes. -/
def Bytes (rb : List Int) : Prop := ∀ n ∈ rb, 0 ≤ n ∧ n ≤ 255
theorem Bytes.eli {rb : List Int} (h : Bytes rb) (k : Nat) : 0 ≤ D.eli rb k ∧ D.eli rb k ≤ 255 := by
  by_cases hk : k < rb.length
  · have : D.eli rb k = rb[k] := by simp [D.eli, List.getD, hk]
    rw [this]; exact h _ (List.getElem_mem hk)
  · have : D.eli rb k = 0 := by simp [D.eli, List.getD, List.getElem?_eq_none (by omega : rb.length ≤ k)]
    rw [this]; decide
theorem Bytes.wf {rb : List Int} (h : ∀ n ∈ rb, (Lit.int .u8 n).wf = true) : Bytes rb := fun n hn => by
  have := h n hn
  have e1 : IntKind.u8.min = 0 := by kernel_rfl
  have e2 : IntKind.u8.max = 255 := by kernel_rfl
  simpa [Lit.wf, e1, e2] using this

theorem xor_pos {a b : Int} (ha : 0 ≤ a ∧ a < 9223372036854775808) (hb : 0 ≤ b ∧ b < 9223372036854775808) : 0 ≤ bits .xor .i64 a b := by
  obtain ⟨x, rfl⟩ := Int.eq_ofNat_of_zero_le ha.1
  obtain ⟨y, rfl⟩ := Int.eq_ofNat_of_zero_le hb.1
  rw [i64_xor_nat x y (by omega) (by omega)]
  omega

theorem S.l20Rd_pick_is {rb : List Int} {rp n : Int} (hb : Bytes rb) (hl : rb.length ≤ 2000) (h0 : 0 ≤ rp) (h1 : rp ≤ 1099511627776) :
    ∃ v, S.l20Rd_pick_t rb rp n = some (v, rb, rp + 1) ∧ 0 ≤ v ∧ (1 ≤ n → v < n) := by
  unfold S.l20Rd_pick_t S.l20Rd_pick_tree
  have e1 : IntKind.i64.wrap (rp + 1) = rp + 1 := i64_wrap (by omega) (by omega)
  have e2 : IntKind.i64.wrap (rp + 1 - 1) = rp := by rw [i64_wrap (by omega) (by omega)]; omega
  rw [e1, e2]
  by_cases hn : n < 1
  · rw [cnd_t (by simpa using hn)]; exact ⟨_, rfl, Int.le_refl _, fun h => by omega⟩
  rw [cnd_f (by simpa using hn)]
  by_cases hz : rb.length = 0
  · rw [cnd_t (by simp [hz])]; exact ⟨_, rfl, Int.le_refl _, fun h => by omega⟩
  have hnz : (n == 0) = false := by simp; omega
  have hlz : ((rb.length : Int) == 0) = false := by simp; exact fun h => hz (by simp [h])
  rw [cnd_f hlz]
  have fin : ∀ x : Int, 0 ≤ x → 0 ≤ x.tmod n ∧ (1 ≤ n → x.tmod n < n) := fun x hx => ⟨Int.tmod_nonneg _ hx, fun h => Int.tmod_lt_of_pos _ (by omega)⟩
  by_cases hx : rp < rb.length
  · rw [cnd_t (by simpa using hx), cnd_t (by simp; omega), cnd_f hnz]
    have hv := hb.eli rp.toNat
    rw [i64_wrap (n := D.eli rb rp.toNat) (by omega) (by omega)]
    exact ⟨_, rfl, fin _ hv.1⟩
  · rw [cnd_f (by simpa using hx), cnd_f hlz]
    have hL : 0 < (rb.length : Int) := by omega
    have m1 : 0 ≤ rp.tmod rb.length := Int.tmod_nonneg _ h0
    have m2 : rp.tmod rb.length < rb.length := Int.tmod_lt_of_pos _ hL
    rw [cnd_t (by simp; omega), cnd_f hlz]
    have e3 : IntKind.i64.wrap (IntKind.i64.wrap (rp * 7) + 3) = rp * 7 + 3 := by rw [i64_wrap (n := rp * 7) (by omega) (by omega)]; exact i64_wrap (by omega) (by omega)
    rw [e3]
    have m3 : 0 ≤ (rp * 7 + 3).tmod rb.length := Int.tmod_nonneg _ (by omega)
    have m4 : (rp * 7 + 3).tmod rb.length < rb.length := Int.tmod_lt_of_pos _ hL
    rw [cnd_t (by simp; omega), cnd_f hlz, cnd_f hnz]
    have d1 : 0 ≤ rp.tdiv rb.length := Int.tdiv_nonneg h0 (by omega)
    have d2 : rp.tdiv rb.length ≤ rp := Int.tdiv_le_self _ h0
    have v1 := hb.eli (rp.tmod rb.length).toNat
    have v2 := hb.eli ((rp * 7 + 3).tmod rb.length).toNat
    generalize rp.tdiv rb.length = d at d1 d2
    generalize D.eli rb (rp.tmod rb.length).toNat = b1 at v1
    generalize D.eli rb ((rp * 7 + 3).tmod rb.length).toNat = b2 at v2
    have key : ∀ x : Int, 0 ≤ x → x < 9223372036854775808 → 0 ≤ bits .xor .i64 x (IntKind.i64.wrap (x.tdiv 64)) := fun x hx0 hx1 => by
      have a1 : 0 ≤ x.tdiv 64 := Int.tdiv_nonneg hx0 (by decide)
      have a2 : x.tdiv 64 ≤ x := Int.tdiv_le_self _ hx0
      rw [i64_wrap (by omega) (by omega)]
      exact xor_pos ⟨hx0, hx1⟩ ⟨a1, by omega⟩
    refine ⟨_, rfl, fin _ (key _ ?_ ?_)⟩ <;> simp (disch := omega) only [i64_wrap] <;> omega
theorem cnd_case {α : Type} {P : α → Prop} {b : Bool} {x y : α} (h1 : b = true → P x) (h2 : b = false → P y) : P (bif b then x else y) := by
  cases b with
  | true => exact h1 rfl
  | false => exact h2 rfl
theorem S.l20Net_p8 {α : Type} (P : α → Prop) {x1 x5 x7 x8 x9 rp : Int} {rb r : List Int} {next : Int × (List Int) × Int × (List Int) → α} {out : (List Int) × Int × (List Int) → α} {fail : α}
    (hb : Bytes rb) (hl : rb.length ≤ 2000) (h0 : 0 ≤ rp) (h1 : rp ≤ 1099511627000) (h9 : 0 ≤ x9) (h8 : x8 < r.length) (hr : r.length ≤ 1048576)
    (hleaf : x9 < x8 → ∀ rp' r', rp < rp' → rp' ≤ rp + 2 → r'.length = r.length → P (next (x9 + 1, rb, rp', r')))
    (hout : ¬ x9 < x8 → P (out (rb, rp, r))) : P (S.l20Net_step8 x1 x5 x7 x8 x9 rb rp r next out fail) := by
  unfold S.l20Net_step8
  refine cnd_case (P := P) (fun h => ?_) (fun h => hout (by simpa using h))
  have hlt : x9 < x8 := by simpa using h
  obtain ⟨v, hv, _, _⟩ := S.l20Rd_pick_is (n := 3) hb hl h0 (by omega)
  obtain ⟨v', hv', _, _⟩ := S.l20Rd_pick_is (n := 3) (rp := rp + 1) hb hl (by omega) (by omega)
  rw [hv]
  simp only [optC]
  rw [hv']
  simp only [optC]
  rw [i64_wrap (n := x9 + 1) (by omega) (by omega)]
  repeat' first
    | exact hleaf hlt _ _ (by omega) (by omega) (by simp)
    | rw [cnd_t (by simp; omega)]
    | rw [cnd_f (by simp; omega)]
    | refine cnd_case (P := P) (fun _ => ?_) (fun _ => ?_)
theorem S.l20Net_q8 {x1 x5 x7 x8 rp : Int} {rb r : List Int} (hb : Bytes rb) (hl : rb.length ≤ 2000) (h0 : 0 ≤ rp) (h1 : rp ≤ 1099511620000) (hx : 0 ≤ x8) (h8 : x8 < r.length) (h6 : x8 ≤ 100) (hr : r.length ≤ 1048576) :
    ∃ d, S.l20Net_run8 x1 x5 x7 x8 FUEL (0, rb, rp, r) = some d ∧ d.1 = rb ∧ rp ≤ d.2.1 ∧ d.2.1 ≤ rp + 2 * x8 ∧ d.2.2.length = r.length := by
  refine run_post (run := S.l20Net_run8 x1 x5 x7 x8) (fun s => s.2.1 = rb ∧ 0 ≤ s.1 ∧ s.1 ≤ x8 ∧ rp ≤ s.2.2.1 ∧ s.2.2.1 ≤ rp + 2 * s.1 ∧ s.2.2.2.length = r.length) (fun s => (x8 - s.1).toNat) (fun d => d.1 = rb ∧ rp ≤ d.2.1 ∧ d.2.1 ≤ rp + 2 * x8 ∧ d.2.2.length = r.length) ?_ ?_ ?_
  · rintro n ⟨x9, rb', rp', r'⟩ ⟨i0, i1, i2, i3, i4, i5⟩
    simp only at i0 i1 i2 i3 i4 i5
    subst i0
    refine S.l20Net_p8 (x1 := x1) (x5 := x5) (x7 := x7) (x8 := x8) (x9 := x9) (rp := rp') (rb := rb') (r := r') (next := S.l20Net_run8 x1 x5 x7 x8 n) (out := fun d => some d) (fail := none) (fun t => (∃ d, t = some d ∧ (d.1 = rb' ∧ rp ≤ d.2.1 ∧ d.2.1 ≤ rp + 2 * x8 ∧ d.2.2.length = r.length)) ∨ ∃ s', t = S.l20Net_run8 x1 x5 x7 x8 n s' ∧ (s'.2.1 = rb' ∧ 0 ≤ s'.1 ∧ s'.1 ≤ x8 ∧ rp ≤ s'.2.2.1 ∧ s'.2.2.1 ≤ rp + 2 * s'.1 ∧ s'.2.2.2.length = r.length) ∧ (x8 - s'.1).toNat < (x8 - x9).toNat) hb hl (by omega) (by omega) i1 (by omega) (by omega) (fun hlt rp2 r2 a1 a2 a3 => .inr ⟨_, rfl, ⟨rfl, ?_, ?_, ?_, ?_, ?_⟩, ?_⟩) (fun hge => .inl ⟨_, rfl, rfl, ?_, ?_, ?_⟩) <;> simp only <;> omega
  · exact ⟨rfl, by simp only; omega, by simp only; omega, by simp only; omega, by simp only; omega, rfl⟩
  · simp only; omega
theorem S.l20Net_q5 {x1 x5 x7 rp : Int} {rb r : List Int} (hb : Bytes rb) (hl : rb.length ≤ 2000) (h0 : 0 ≤ rp) (h1 : rp ≤ 1099511600000) (hx : 0 ≤ x5) (h5 : x5 = r.length) (h6 : x5 ≤ 6) :
    ∃ d, S.l20Net_run5 x1 x5 x7 FUEL (0, rb, rp, r) = some d ∧ d.1 = rb ∧ rp ≤ d.2.1 ∧ d.2.1 ≤ rp + 100 ∧ d.2.2.length = r.length := by
  refine run_post (run := S.l20Net_run5 x1 x5 x7) (fun s => s.2.1 = rb ∧ 0 ≤ s.1 ∧ s.1 ≤ x5 ∧ rp ≤ s.2.2.1 ∧ s.2.2.1 ≤ rp + 12 * s.1 ∧ s.2.2.2.length = r.length) (fun s => (x5 - s.1).toNat) (fun d => d.1 = rb ∧ rp ≤ d.2.1 ∧ d.2.1 ≤ rp + 100 ∧ d.2.2.length = r.length) ?_ ?_ ?_
  · rintro n ⟨x8, rb', rp', r'⟩ ⟨i0, i1, i2, i3, i4, i5⟩
    simp only at i0 i1 i2 i3 i4 i5
    subst i0
    simp only [S.l20Net_run5, S.l20Net_step5]
    by_cases hlt : x8 < x5
    · rw [cnd_t (by simpa using hlt)]
      obtain ⟨⟨d1, d2, d3⟩, e1, e2, e3, e4, e5⟩ := S.l20Net_q8 (x1 := x1) (x5 := x5) (x7 := x7) (x8 := x8) (r := r') hb hl (by omega : 0 ≤ rp') (by omega) i1 (by omega) (by omega) (by omega)
      simp only at e2 e3 e4 e5
      rw [e1]
      simp only [optC]
      rw [i64_wrap (n := x8 + 1) (by omega) (by omega)]
      refine .inr ⟨_, rfl, ⟨e2, ?_, ?_, ?_, ?_, ?_⟩, ?_⟩ <;> simp only <;> omega
    · rw [cnd_f (by simpa using hlt)]
      refine .inl ⟨_, rfl, rfl, ?_, ?_, ?_⟩ <;> simp only <;> omega
  · exact ⟨rfl, by simp only; omega, by simp only; omega, by simp only; omega, by simp only; omega, rfl⟩
  · simp only; omega
theorem S.l20Rd_odd_is {rb : List Int} {rp n : Int} (hb : Bytes rb) (hl : rb.length ≤ 2000) (h0 : 0 ≤ rp) (h1 : rp ≤ 1099511627776) :
    ∃ b rp', S.l20Rd_odd_t rb rp n = some (b, rb, rp') ∧ rp ≤ rp' ∧ rp' ≤ rp + 1 := by
  unfold S.l20Rd_odd_t S.l20Rd_odd_tree
  by_cases hn : n > 0
  · rw [cnd_t (by simpa using hn)]
    obtain ⟨v, hv, _, _⟩ := S.l20Rd_pick_is (n := n) hb hl h0 h1
    rw [hv]
    exact ⟨_, rp + 1, rfl, by omega, by omega⟩
  · rw [cnd_f (by simpa using hn)]
    exact ⟨_, rp, rfl, by omega, by omega⟩
theorem S.l20Net_is {rb : List Int} {rp n : Int} (hb : Bytes rb) (hl : rb.length ≤ 2000) (h0 : 0 ≤ rp) (h1 : rp ≤ 1000000) :
    ∃ rp' net, S.l20Net_t rb rp n = some (rb, rp', net) ∧ rp ≤ rp' ∧ rp' ≤ rp + 200 ∧ net.length ≤ 6 := by
  unfold S.l20Net_t
  have gen : ∀ {α : Type} (P : α → Prop) (leaf : (List Int) × Int × (List Int) → α) (fail : α), (∀ rp' net, rp ≤ rp' → rp' ≤ rp + 200 → net.length ≤ 6 → P (leaf (rb, rp', net))) → P (S.l20Net_tree rb rp n leaf fail) := by
    intro α P leaf fail hleaf
    unfold S.l20Net_tree
    obtain ⟨v1, e1, a1, a2⟩ := S.l20Rd_pick_is (n := 6) hb hl h0 (by omega)
    have a2' := a2 (by decide)
    rw [e1]
    simp only [optC]
    rw [i64_wrap (n := 1 + v1) (by omega) (by omega)]
    rw [cnd_t (by simp [small]; omega)]
    obtain ⟨v2, e2, _, _⟩ := S.l20Rd_pick_is (n := 4) (rp := rp + 1) hb hl (by omega) (by omega)
    rw [e2]
    simp only
    obtain ⟨⟨d1, d2, d3⟩, e3, f1, f2, f3, f4⟩ := S.l20Net_q5 (x1 := n) (x5 := 1 + v1) (x7 := v2) (rp := rp + 1 + 1) (r := List.replicate (1 + v1).toNat 0) hb hl (by omega) (by omega) (by omega) (by simp; omega) (by omega)
    simp only at f1 f2 f3 f4
    subst f1
    rw [e3]
    simp only [List.length_replicate] at f4 ⊢
    obtain ⟨b, rp4, e4, g1, g2⟩ := S.l20Rd_odd_is (n := n) (rp := d2) hb hl (by omega) (by omega)
    rw [e4]
    simp only
    obtain ⟨v5, e5, _, _⟩ := S.l20Rd_pick_is (n := 3) (rp := rp4) hb hl (by omega) (by omega)
    rw [e5]
    simp only
    have e6 : IntKind.i64.wrap (1 + v1 - 1) = v1 := by rw [i64_wrap (by omega) (by omega)]; omega
    rw [e6]
    repeat' first
      | exact hleaf _ _ (by omega) (by omega) (by (try simp only [List.length_set, List.length_nil]); omega)
      | rw [cnd_t (by simp; omega)]
      | rw [cnd_f (by simp; omega)]
      | refine cnd_case (P := P) (fun _ => ?_) (fun _ => ?_)
  exact gen (fun t => ∃ rp' net, t = some (rb, rp', net) ∧ rp ≤ rp' ∧ rp' ≤ rp + 200 ∧ net.length ≤ 6) (fun d => some d) none (fun rp' net a b c => ⟨rp', net, rfl, a, b, c⟩)
theorem S.l20Open_is {code : List Int} (hb : Bytes code) : ∃ rb, S.l20Open_t code = some (rb, 0) ∧ Bytes rb ∧ rb.length ≤ 2000 := by
  unfold S.l20Open_t S.l20Open_tree
  by_cases h : (code.length : Int) > 2000
  · rw [cnd_t (by simpa using h), cnd_t (by simp; omega)]
    refine ⟨_, rfl, fun n hn => hb n ?_, ?_⟩
    · exact List.mem_of_mem_drop (List.mem_of_mem_take hn)
    · rw [List.length_take]; exact Nat.min_le_left _ _
  · rw [cnd_f (by simpa using h)]
    exact ⟨_, rfl, hb, by omega⟩
end Go.Proofs.Ytjaklmemllbeiaa
/- Texts as lists of bytes. Conditions: those of each theorem. -/
namespace Go.Proofs.Ytjaklmemllbeiaa
open D Go.RowKit
set_option linter.unusedVariables false
set_option linter.unusedSimpArgs false

theorem toList_loop (bs : ByteArray) : ∀ (n i : Nat) (r : List UInt8), bs.size - i = n → ByteArray.toList.loop bs i r = r.reverse ++ bs.data.toList.drop i := by
  have hsz : bs.size = bs.data.toList.length := by rw [Array.length_toList]; rfl
  intro n
  induction n with
  | zero =>
    intro i r h
    unfold ByteArray.toList.loop
    rw [if_neg (by omega), List.drop_eq_nil_of_le (by omega)]; simp
  | succ n ih =>
    intro i r h
    unfold ByteArray.toList.loop
    rw [if_pos (by omega), ih (i + 1) _ (by omega), List.drop_eq_getElem_cons (i := i) (by omega)]
    have : bs.get! i = bs.data.toList[i]'(by omega) := by
      cases bs with
      | mk d =>
        have hi : i < d.size := (show i < ByteArray.size ⟨d⟩ by omega)
        show d[i]! = _
        simp [hi]
    rw [this]; simp
theorem toList_data (bs : ByteArray) : bs.toList = bs.data.toList := by
  have := toList_loop bs _ 0 [] rfl
  simpa [ByteArray.toList] using this
theorem u8_wrap {n : Int} (h1 : 0 ≤ n) (h2 : n ≤ 255) : IntKind.u8.wrap n = n := by
  rw [IntKind.wrap_u8]; omega
theorem bytesOf_list (xs : List Int) : (bytesOf xs).toList = xs.map fun n => UInt8.ofNat n.toNat := by
  rw [toList_data]; simp [bytesOf]
theorem bytesOf_inj {a b : List Int} (ha : Bytes a) (hb : Bytes b) (h : (bytesOf a).toList = (bytesOf b).toList) : a = b := by
  rw [bytesOf_list, bytesOf_list] at h
  have hl : a.length = b.length := by simpa using congrArg List.length h
  refine List.ext_getElem hl fun k h1 h2 => ?_
  have e : (a.map fun n => UInt8.ofNat n.toNat)[k]'(by simpa using h1) = (b.map fun n => UInt8.ofNat n.toNat)[k]'(by simpa using h2) := by simp only [h]
  simp only [List.getElem_map] at e
  have e2 := congrArg UInt8.toNat e
  have x := ha _ (List.getElem_mem h1)
  have y := hb _ (List.getElem_mem h2)
  simp only [UInt8.toNat_ofNat'] at e2
  omega
theorem strEq_bytes {a b : List Int} (ha : Bytes a) (hb : Bytes b) : strEq (bytesOf a) (bytesOf b) = decide (a = b) := by
  unfold strEq
  rw [Bool.eq_iff_iff, beq_iff_eq, decide_eq_true_eq]
  exact ⟨bytesOf_inj ha hb, fun e => by rw [e]⟩
theorem strEq_self (a : ByteArray) : strEq a a = true := by unfold strEq; exact beq_self_eq_true _
end Go.Proofs.Ytjaklmemllbeiaa
/- What the small functions on nets and sets come to, in natural numbers. Conditions: those of each theorem. -/
namespace Go.Proofs.Ytjaklmemllbeiaa
open D Go.RowKit
set_option linter.unusedVariables false
set_option linter.unusedSimpArgs false


theorem hasI_nat (s p : Nat) (hp : p ≤ 64) : hasI (s : Int) p = s.testBit p := by
  have h := shr_is s p hp
  unfold hasI
  rw [bits64, Int.toNat_natCast] at h
  rw [h, testBit_div, Bool.eq_iff_iff, beq_iff_eq, beq_iff_eq]
  omega
theorem two_pow_cast (n : Nat) : ((2 : Int) ^ n) = ((2 ^ n : Nat) : Int) := by simp
theorem Ok.of {net : List Int} (h1 : 1 ≤ net.length) (h2 : net.length ≤ 6) (h3 : ∀ p, p < net.length → (0 ≤ eli net p ∧ eli net p < 2 ^ net.length) ∧ hasI (eli net p) p = false ∧ ∀ q, q < net.length → hasI (eli net p) q = true → hasI (eli net q) p = true) : Ok net := by
  have hel : ∀ k, k < net.length → eli net k = (nb net k : Int) := fun k hk => by
    have := (h3 k hk).1.1
    show _ = ((eli net k).toNat : Int)
    omega
  refine ⟨h1, h2, hel, fun k hk => ?_, fun j k hj hk => ?_, fun k hk => ?_⟩
  · have := (h3 k hk).1.2
    rw [hel k hk, two_pow_cast] at this
    omega
  · have a1 := (h3 k hk).2.2 j hj
    have a2 := (h3 j hj).2.2 k hk
    rw [hel k hk, hel j hj, hasI_nat _ _ (by omega), hasI_nat _ _ (by omega)] at a1 a2
    cases hx : (nb net k).testBit j with
    | true => exact (a1 hx).symm
    | false => cases hy : (nb net j).testBit k with
      | false => rfl
      | true => rw [a2 hy] at hx; cases hx
  · have := (h3 k hk).2.1
    rw [hel k hk, hasI_nat _ _ (by omega)] at this
    exact this
theorem NetOk_cases (net : List Int) : (Ok net ∧ I.NetOk_t net = some true ∧ S.NetOk_t net = some true) ∨ (¬ Ok net ∧ I.NetOk_t net = some false ∧ S.NetOk_t net = some false) := by
  rw [← NetOk_eq, I.NetOk_is]
  generalize hb : (decide (1 ≤ net.length) && decide (net.length ≤ 6) && (List.range net.length).all fun p => decide (0 ≤ eli net p ∧ eli net p < 2 ^ net.length) && !hasI (eli net p) p && (List.range net.length).all fun q => !hasI (eli net p) q || hasI (eli net q) p) = b
  cases b with
  | true =>
    left
    simp only [Bool.and_eq_true, List.all_eq_true, List.mem_range, decide_eq_true_eq, Bool.or_eq_true, Bool.not_eq_true'] at hb
    refine ⟨Ok.of hb.1.1 hb.1.2 fun p hp => ⟨(hb.2 p hp).1.1, (hb.2 p hp).1.2, fun q hq hx => ?_⟩, rfl, rfl⟩
    rcases (hb.2 p hp).2 q hq with h | h
    · rw [h] at hx; cases hx
    · exact h
  | false =>
    right
    refine ⟨fun h => ?_, rfl, rfl⟩
    have : (decide (1 ≤ net.length) && decide (net.length ≤ 6) && (List.range net.length).all fun p => decide (0 ≤ eli net p ∧ eli net p < 2 ^ net.length) && !hasI (eli net p) p && (List.range net.length).all fun q => !hasI (eli net p) q || hasI (eli net q) p) = true := by
      simp only [Bool.and_eq_true, List.all_eq_true, List.mem_range, decide_eq_true_eq, Bool.or_eq_true, Bool.not_eq_true']
      have hhi := h.hi
      refine ⟨⟨h.lo, h.hi⟩, fun p hp => ⟨⟨?_, ?_⟩, fun q hq => ?_⟩⟩
      · rw [show eli net p = (nb net p : Int) from h.el p hp, two_pow_cast]
        have := h.lt p hp
        omega
      · rw [show eli net p = (nb net p : Int) from h.el p hp, hasI_nat _ _ (by omega)]; exact h.irr p hp
      · rw [show eli net p = (nb net p : Int) from h.el p hp, show eli net q = (nb net q : Int) from h.el q hq, hasI_nat _ _ (by omega), hasI_nat _ _ (by omega), h.sym q p hq hp]
        cases (nb net q).testBit p <;> simp
    rw [hb] at this; cases this
theorem Ok.eli {net : List Int} (h : Ok net) {k : Nat} (hk : k < net.length) : D.eli net k = (nb net k : Int) := h.el k hk

/-! ### The program's small functions -/
theorem I.hasPlace_n (s p : Nat) (hp : p ≤ 64) : I.hasPlace_t s p = some (s.testBit p) := by
  rw [I.hasPlace_is (by omega), Int.toNat_natCast, hasI_nat s p hp]
theorem I.placeIn_n (net : List Int) (p : Int) : I.placeIn_t net p = some (decide (0 ≤ p ∧ p < net.length)) := by
  unfold I.placeIn_t I.placeIn_tree
  by_cases h : 0 ≤ p
  · rw [cnd_t (by simpa using h)]; simp [h]
  · rw [cnd_f (by simpa using h)]; simp [h]
/-! ### The model's small functions -/
end Go.Proofs.Ytjaklmemllbeiaa
/- What the functions on watches come to. Conditions: those of each theorem. -/
namespace Go.Proofs.Ytjaklmemllbeiaa
open D Go.RowKit
set_option linter.unusedVariables false
set_option linter.unusedSimpArgs false


theorem size_le_len {net : List Int} (h : Ok net) {s : Nat} (hs : s < 2 ^ net.length) : size s ≤ net.length := by
  rw [size_cnt h hs]; exact cnt_le _ _
/-- The fewest guards that watch. -/
def fewest (net : List Int) : Nat := fold (2 ^ net.length) (fun t s => if W net s = true then (if size s < t then size s else t) else t) net.length
/-- The first of the smallest watches. -/
structure First (net : List Int) (r : Nat) : Prop where
  lt : r < 2 ^ net.length
  w : W net r = true
  le : ∀ s, s < 2 ^ net.length → W net s = true → size r ≤ size s
  first : ∀ s, s < r → W net s = true → size r < size s
theorem First.few {net : List Int} {r : Nat} (h : First net r) : Few net (size r) := ⟨⟨r, h.lt, h.w, rfl⟩, h.le⟩
def smallest (net : List Int) : Nat := fold (allOf net) (fun t s => if (decide (size s < size t) && W net s) = true then s else t) (allOf net)
/-! ### Least watches -/
end Go.Proofs.Ytjaklmemllbeiaa
/- What the functions of chapter 1 come to. Conditions: those of each theorem. -/
namespace Go.Proofs.Ytjaklmemllbeiaa
open D Go.RowKit
set_option linter.unusedVariables false
set_option linter.unusedSimpArgs false


/-! ### Wires -/
def ends (net : List Int) : Nat := sumN net.length (fun k => size (nb net k))
def wires (net : List Int) : Nat := ends net / 2
/-! ### Parts -/
/-! ### Lone places -/
def lone (net : List Int) : Nat := orN net.length (fun k => nb net k == 0) (fun k => 2 ^ k)
end Go.Proofs.Ytjaklmemllbeiaa
/- Wires and parts: plain facts. Conditions: those of each theorem. -/
namespace Go.Proofs.Ytjaklmemllbeiaa
set_option linter.unusedVariables false
set_option linter.unusedSimpArgs false

theorem cnt_below (N m : Nat) (hm : m ≤ N) : cnt N (fun i => decide (i < m)) = m := by
  induction N with
  | zero => obtain rfl : m = 0 := by omega
            rfl
  | succ N ih =>
    show cnt N (fun i => decide (i < m)) + (decide (N < m)).toNat = m
    by_cases hmN : m ≤ N
    · rw [ih hmN]; simp; omega
    · obtain rfl : m = N + 1 := by omega
      rw [cnt_congr (q := fun _ => true) (fun k hk => by simp; omega), cnt_true]; simp
/-- After m steps from the least places of the parts. -/
def lvl (net : List Int) (m k : Nat) : Bool := (List.range net.length).any fun r => root net r && (steps net (allOf net) m (2 ^ r)).testBit k
theorem lvl_iff {net : List Int} {m k : Nat} : lvl net m k = true ↔ ∃ r, r < net.length ∧ root net r = true ∧ (steps net (allOf net) m (2 ^ r)).testBit k = true := by
  unfold lvl
  simp only [List.any_eq_true, List.mem_range, Bool.and_eq_true]
theorem lvl_succ {net : List Int} {m k : Nat} (h : lvl net m k = true) : lvl net (m + 1) k = true := by
  obtain ⟨r, a, b, c⟩ := lvl_iff.1 h
  exact lvl_iff.2 ⟨r, a, b, (grow_testBit _ _ _ _).2 (.inl c)⟩
theorem lvl_mono {net : List Int} {m m' k : Nat} (hm : m ≤ m') (h : lvl net m k = true) : lvl net m' k = true := by
  induction m' with
  | zero => obtain rfl : m = 0 := by omega
            exact h
  | succ m' ih =>
    by_cases he : m = m' + 1
    · rw [← he]; exact h
    · exact lvl_succ (ih (by omega))
def lev (net : List Int) (k : Nat) : Nat := cnt 6 (fun m => !lvl net m k)
theorem root_of {net : List Int} (h : Ok net) {k : Nat} (hk : k < net.length) : ∃ r, r ≤ k ∧ root net r = true ∧ comp net r = comp net k := by
  have key : ∀ m, m ≤ k → (∃ r, r ≤ k ∧ root net r = true ∧ comp net r = comp net k) ∨ ∀ j, j < m → (comp net k).testBit j = false := by
    intro m
    induction m with
    | zero => intro _; right; intro j hj; omega
    | succ m ih =>
      intro hm
      rcases ih (by omega) with h1 | h1
      · exact .inl h1
      · cases hb : (comp net k).testBit m with
        | true =>
          left
          have he := h.comp_same hk (by omega) hb
          exact ⟨m, by omega, root_iff.2 fun j hj => by rw [← he]; exact h1 j hj, he.symm⟩
        | false =>
          right
          intro j hj
          by_cases hjm : j = m
          · rw [hjm]; exact hb
          · exact h1 j (by omega)
  rcases key k (Nat.le_refl _) with h1 | h1
  · exact h1
  · exact ⟨k, Nat.le_refl _, root_iff.2 h1, rfl⟩
theorem lvl_six {net : List Int} (h : Ok net) {k : Nat} (hk : k < net.length) : lvl net 6 k = true := by
  obtain ⟨r, hr, hroot, he⟩ := root_of h hk
  refine lvl_iff.2 ⟨r, by omega, hroot, ?_⟩
  have e2 : comp net r = steps net (allOf net) 6 (2 ^ r) := (h.comp_eq (by omega) (by have := h.hi; omega)).symm
  rw [← e2, he]
  exact h.comp_self hk
/-- Each place that is not the least one of its part has a neighbour that is nearer. -/
theorem nearer {net : List Int} (h : Ok net) {k : Nat} (hk : k < net.length) (hr : root net k = false) : ∃ j, j < net.length ∧ (nb net k).testBit j = true ∧ lev net j < lev net k := by
  have h0 : lvl net 0 k = false := by
    cases hb : lvl net 0 k with
    | false => rfl
    | true =>
      obtain ⟨r, a, b, c⟩ := lvl_iff.1 hb
      have : r = k := by
        have c' : (2 ^ r).testBit k = true := c
        rw [testBit_pow] at c'; simpa using c'
      rw [this] at b; rw [b] at hr; cases hr
  have hex : ∀ m, m ≤ 6 → lvl net m k = true → ∃ q, q < m ∧ lvl net q k = false ∧ lvl net (q + 1) k = true := by
    intro m
    induction m with
    | zero => intro _ hb; rw [h0] at hb; cases hb
    | succ m ih =>
      intro hm hb
      cases hc : lvl net m k with
      | false => exact ⟨m, by omega, hc, hb⟩
      | true => obtain ⟨q, a, b⟩ := ih (by omega) hc; exact ⟨q, by omega, b⟩
  obtain ⟨q, hq, hqf, hqt⟩ := hex 6 (Nat.le_refl _) (lvl_six h hk)
  obtain ⟨r, a, b, c⟩ := lvl_iff.1 hqt
  rcases (grow_testBit _ _ _ _).1 c with c1 | ⟨⟨j, hj, c1, c2⟩, _⟩
  · rw [lvl_iff.2 ⟨r, a, b, c1⟩] at hqf; cases hqf
  · refine ⟨j, hj, by rw [h.sym j k hj hk]; exact c2, ?_⟩
    have hjl : lvl net q j = true := lvl_iff.2 ⟨r, a, b, c1⟩
    have h1 : lev net j ≤ q := by
      have := cnt_mono (n := 6) (p := fun m => !lvl net m j) (q := fun i => decide (i < q)) (fun m hm hp => by
        have hp' : lvl net m j = false := by simpa using hp
        rw [decide_eq_true_eq]
        refine Classical.byContradiction fun hc => ?_
        rw [lvl_mono (by omega) hjl] at hp'; cases hp')
      rw [cnt_below 6 q (by omega)] at this
      exact this
    have h2 : q + 1 ≤ lev net k := by
      have := cnt_mono (n := 6) (p := fun i => decide (i < q + 1)) (q := fun m => !lvl net m k) (fun m hm hp => by
        have hp' : m < q + 1 := by simpa using hp
        cases hx : lvl net m k with
        | false => rfl
        | true => rw [lvl_mono (by omega) hx] at hqf; cases hqf)
      rw [cnt_below 6 (q + 1) (by omega)] at this
      exact this
    omega
end Go.Proofs.Ytjaklmemllbeiaa
/- Guards that are needed, guards apart, the chain of numbers: plain facts. Conditions: those of each theorem. -/
namespace Go.Proofs.Ytjaklmemllbeiaa
set_option linter.unusedVariables false
set_option linter.unusedSimpArgs false

theorem not_true {b : Bool} (h : ¬ b = true) : b = false := by cases b with
  | true => exact absurd rfl h
  | false => rfl
theorem sees_self (net : List Int) (k : Nat) : (ball net k).testBit k = true := (ball_testBit _ _ _).2 (.inr rfl)
theorem in_lt {net : List Int} {s k : Nat} (hs : s < 2 ^ net.length) (hk : s.testBit k = true) : k < net.length := testBit_lt hs hk

/-! ### Private places -/
def priv (net : List Int) (s g : Nat) : Nat := minus (ball net g) (seen net (s - 2 ^ g))
theorem zero_iff {a : Nat} : a = 0 ↔ ∀ j, a.testBit j = false := by
  constructor
  · rintro rfl j; exact Nat.zero_testBit j
  · intro ha; exact Nat.eq_of_testBit_eq fun j => by rw [ha j, Nat.zero_testBit]
theorem pos_iff {a : Nat} : a ≠ 0 ↔ ∃ j, a.testBit j = true := by
  rw [Ne, zero_iff]
  constructor
  · intro hn
    refine Classical.byContradiction fun hc => hn fun j => not_true fun hj => hc ⟨j, hj⟩
  · rintro ⟨j, hj⟩ ha; rw [ha j] at hj; cases hj
/-- Each guard has a place of its own. -/
def Needs (net : List Int) (s : Nat) : Prop := ∀ g, s.testBit g = true → ∃ j, (ball net g).testBit j = true ∧ ∀ i, s.testBit i = true → (ball net i).testBit j = true → i = g
def needs (net : List Int) (s : Nat) : Bool := (List.range net.length).all fun k => !(s.testBit k && priv net s k == 0)
theorem Needs.mono {net : List Int} {s t : Nat} (hst : ∀ j, t.testBit j = true → s.testBit j = true) (hn : Needs net s) : Needs net t := fun g hg => by
  obtain ⟨j, h1, h2⟩ := hn g (hst g hg)
  exact ⟨j, h1, fun i hi hb => h2 i (hst i hi) hb⟩
theorem Needs.zero (net : List Int) : Needs net 0 := fun g hg => by rw [Nat.zero_testBit] at hg; cases hg
theorem Needs.one (net : List Int) (k : Nat) : Needs net (2 ^ k) := fun g hg => by
  rw [testBit_pow, decide_eq_true_eq] at hg
  subst hg
  exact ⟨k, sees_self net k, fun i hi _ => by rw [testBit_pow, decide_eq_true_eq] at hi; exact hi.symm⟩
theorem or_testBit (s k j : Nat) : (s ||| 2 ^ k).testBit j = true ↔ s.testBit j = true ∨ j = k := by
  rw [Nat.testBit_or, Bool.or_eq_true, testBit_pow, decide_eq_true_eq]
  exact ⟨fun a => a.elim .inl (fun b => .inr b.symm), fun a => a.elim .inl (fun b => .inr b.symm)⟩
theorem or_lt {n s k : Nat} (hs : s < 2 ^ n) (hk : k < n) : s ||| 2 ^ k < 2 ^ n := Nat.or_lt_two_pow hs (Nat.pow_lt_pow_right (by omega) hk)
/-- A set that needs all guards, and does not with any further place. -/
def FullN (net : List Int) (s : Nat) : Prop := Needs net s ∧ ∀ k, k < net.length → s.testBit k = false → ¬ Needs net (s ||| 2 ^ k)
def fullN (net : List Int) (s : Nat) : Bool := ((List.range net.length).all fun k => !(!s.testBit k && needs net (s ||| 2 ^ k))) && needs net s
/-! ### Seen twice -/
/-- The places that two guards of a set see. -/
structure Twice (net : List Int) (s t : Nat) : Prop where
  lt : t < 2 ^ net.length
  bit : ∀ j, t.testBit j = true ↔ ∃ a b, s.testBit a = true ∧ s.testBit b = true ∧ a ≠ b ∧ (ball net a).testBit j = true ∧ (ball net b).testBit j = true
def twice (net : List Int) (s : Nat) : Nat := (fold net.length (fun (t : Nat × Nat) k => if s.testBit k = true then (t.1 ||| ball net k, t.2 ||| (t.1 &&& ball net k)) else t) (0, 0)).2
/-! ### Guards apart -/
def Apart (net : List Int) (s : Nat) : Prop := ∀ j k, s.testBit j = true → s.testBit k = true → (nb net j).testBit k = false
def apart (net : List Int) (s : Nat) : Bool := (near net s &&& s) == 0
theorem Apart.mono {net : List Int} {s t : Nat} (hst : ∀ j, t.testBit j = true → s.testBit j = true) (h : Apart net s) : Apart net t := fun j k hj hk => h j k (hst j hj) (hst k hk)
theorem Apart.zero (net : List Int) : Apart net 0 := fun j k hj _ => by rw [Nat.zero_testBit] at hj; cases hj
theorem Apart.one {net : List Int} (h : Ok net) {k : Nat} (hk : k < net.length) : Apart net (2 ^ k) := fun i j hi hj => by
  rw [testBit_pow, decide_eq_true_eq] at hi hj
  subst hi; subst hj
  exact h.irr _ hk
theorem apart_only {net : List Int} (h : Ok net) {s : Nat} (hs : s < 2 ^ net.length) (ha : Apart net s) {g : Nat} (hg : s.testBit g = true) : ∀ i, s.testBit i = true → (ball net i).testBit g = true → i = g := fun i hi hb => by
  rcases (ball_testBit _ _ _).1 hb with a | a
  · rw [ha i g hi hg] at a; cases a
  · exact a
theorem Apart.needs {net : List Int} (h : Ok net) {s : Nat} (hs : s < 2 ^ net.length) (ha : Apart net s) : Needs net s := fun g hg => ⟨g, sees_self net g, apart_only h hs ha hg⟩
theorem Apart.add {net : List Int} (h : Ok net) {s k : Nat} (hs : s < 2 ^ net.length) (hk : k < net.length) (ha : Apart net s) (hn : ∀ j, s.testBit j = true → (nb net k).testBit j = false) : Apart net (s ||| 2 ^ k) := fun i j hi hj => by
  rw [or_testBit] at hi hj
  rcases hi with hi | hi
  · rcases hj with hj | hj
    · exact ha i j hi hj
    · rw [hj, h.sym k i hk (in_lt hs hi)]; exact hn i hi
  · rcases hj with hj | hj
    · rw [hi]; exact hn j hj
    · rw [hi, hj]; exact h.irr k hk
def fullA (net : List Int) (s : Nat) : Bool := apart net s && (List.range net.length).all fun k => !(!s.testBit k && apart net (s ||| 2 ^ k))
/-! ### Grown sets -/
def grownStep (net : List Int) (t k : Nat) : Nat := if (!t.testBit k && (nb net k &&& t) == 0) = true then t ||| 2 ^ k else t
def grown (net : List Int) (s : Nat) : Nat := fold net.length (grownStep net) s
end Go.Proofs.Ytjaklmemllbeiaa
/- The chain of numbers: plain facts. Conditions: those of each theorem. -/
namespace Go.Proofs.Ytjaklmemllbeiaa
set_option linter.unusedVariables false
set_option linter.unusedSimpArgs false

/-- The least number of places of sets of a kind, and the greatest. -/
structure MinOf (net : List Int) (p : Nat → Bool) (m : Nat) : Prop where
  ex : ∃ s, s < 2 ^ net.length ∧ p s = true ∧ size s = m
  le : ∀ s, s < 2 ^ net.length → p s = true → m ≤ size s
structure MaxOf (net : List Int) (p : Nat → Bool) (m : Nat) : Prop where
  ex : ∃ s, s < 2 ^ net.length ∧ p s = true ∧ size s = m
  le : ∀ s, s < 2 ^ net.length → p s = true → size s ≤ m
def minSize (net : List Int) (p : Nat → Bool) : Nat := fold (2 ^ net.length) (fun t s => if p s = true then (if size s < t then size s else t) else t) net.length
def maxSize (net : List Int) (p : Nat → Bool) : Nat := fold (2 ^ net.length) (fun t s => if p s = true then (if size s > t then size s else t) else t) 0
/-! ### What there is of each kind -/
theorem size_add {s k : Nat} (hs : s < 64) (hk : k < 6) (hb : s.testBit k = false) : size (s ||| 2 ^ k) = size s + 1 := bits_or s hs k hk hb
theorem size_pos {s : Nat} (hs : s < 64) {k : Nat} (hk : k < 6) (hb : s.testBit k = true) : 1 ≤ size s := by
  have := (bits_sub s hs k hk hb).2.2.1
  omega
/-! ### A full set and its private places watch -/
/-! ### Bounds by balls, and nets without wires -/
/-! ### How many sets are apart -/
def apartCount (net : List Int) : Nat := cnt (2 ^ net.length) (apart net)
end Go.Proofs.Ytjaklmemllbeiaa
/- Guards near each other: plain facts of total and joined watches. Conditions: those of each theorem. -/
namespace Go.Proofs.Ytjaklmemllbeiaa
set_option linter.unusedVariables false
set_option linter.unusedSimpArgs false

/-! ### Total watches -/
def total (net : List Int) (s : Nat) : Bool := near net s == allOf net
theorem or2 (s t j : Nat) : (s ||| t).testBit j = true ↔ s.testBit j = true ∨ t.testBit j = true := by rw [Nat.testBit_or, Bool.or_eq_true]
/-! ### Sets that stand together -/
def Together (net : List Int) (s : Nat) : Prop := s ≠ 0 ∧ ∀ i j, s.testBit i = true → s.testBit j = true → Reach net s i j
theorem Reach.mono {net : List Int} {A B i j : Nat} (hAB : ∀ k, A.testBit k = true → B.testBit k = true) (hr : Reach net A i j) : Reach net B i j := by
  induction hr with
  | here ha => exact .here (hAB _ ha)
  | step _ hj hn ha ih => exact .step ih hj hn (hAB _ ha)
/-- From within to without there is a wire. -/
theorem leaves {net : List Int} {A i j t : Nat} (hr : Reach net A i j) (hi : t.testBit i = true) (hj : t.testBit j = false) : ∃ u v, t.testBit u = true ∧ t.testBit v = false ∧ u < net.length ∧ (nb net u).testBit v = true := by
  induction hr with
  | here _ => rw [hi] at hj; cases hj
  | @step a b hr hl hn _ ih =>
    cases hb : t.testBit a with
    | true => exact ⟨a, b, hb, hj, hl, hn⟩
    | false => exact ih hb
end Go.Proofs.Ytjaklmemllbeiaa
/- Trees of wires: the places with one wire, and the sets that stand together, make all places. Conditions: those of each theorem. -/
namespace Go.Proofs.Ytjaklmemllbeiaa
set_option linter.unusedVariables false
set_option linter.unusedSimpArgs false

/-- A net of some of the wires. -/
structure Sub (net t : List Int) : Prop where
  ok : Ok t
  len : t.length = net.length
  sub : ∀ k j, k < net.length → (nb t k).testBit j = true → (nb net k).testBit j = true
/-- A tree: one part, of as few wires as can be. -/
structure Tree (net t : List Int) : Prop where
  sub : Sub net t
  one : parts t = 1
  wires_ : wires t + 1 = net.length
/-- How many places have one wire alone. -/
def leafs (t : List Int) : Nat := cnt t.length (fun k => size (nb t k) == 1)
/-- The places with more than one wire. -/
def inner (t : List Int) : Nat := orN t.length (fun k => !(size (nb t k) == 1)) (fun k => 2 ^ k)
/-! ### A tree over a joined watch -/
/-- After m steps from r within a set. -/
theorem steps_lvl {net : List Int} (h : Ok net) {s r : Nat} (hs : s < 2 ^ net.length) (hr : s.testBit r = true) (hT : Together net s) : ∃ lv : Nat → Nat, ∃ p : Nat → Nat, lv r = 0 ∧ ∀ v, s.testBit v = true → v ≠ r → s.testBit (p v) = true ∧ (nb net v).testBit (p v) = true ∧ lv (p v) < lv v ∧ lv v ≤ 6 := by
  have hrl := in_lt hs hr
  have h6 := h.hi
  have e0 : 2 ^ r &&& s = 2 ^ r := Nat.eq_of_testBit_eq fun j => by
    rw [Nat.testBit_and, testBit_pow]
    by_cases hxj : r = j
    · rw [← hxj, hr]; simp
    · simp [hxj]
  let L := fun m k => (steps net s m (2 ^ r)).testBit k
  have mono1 : ∀ m k, L m k = true → L (m + 1) k = true := fun m k hk => (grow_testBit _ _ _ _).2 (.inl hk)
  have mono : ∀ m m' k, m ≤ m' → L m k = true → L m' k = true := by
    intro m m' k hm hk
    induction m' with
    | zero => obtain rfl : m = 0 := by omega
              exact hk
    | succ m' ih =>
      by_cases he : m = m' + 1
      · rw [← he]; exact hk
      · exact mono1 m' k (ih (by omega))
  let lv := fun k => cnt 6 (fun m => !L m k)
  have six : ∀ v, s.testBit v = true → L 6 v = true := fun v hv => by
    have hx : (part net s r).testBit v = true := (h.part_testBit hrl v).2 (hT.2 r v hr hv)
    unfold part at hx
    rw [e0] at hx
    exact hx
  have hp : ∀ v, ∃ j, s.testBit v = true → v ≠ r → s.testBit j = true ∧ (nb net v).testBit j = true ∧ lv j < lv v := fun v => by
    by_cases hv : s.testBit v = true ∧ v ≠ r
    · have h0 : L 0 v = false := by
        show (2 ^ r).testBit v = false
        rw [testBit_pow]; simp; exact fun he => hv.2 he.symm
      have hex : ∀ m, m ≤ 6 → L m v = true → ∃ q, q < m ∧ L q v = false ∧ L (q + 1) v = true := by
        intro m
        induction m with
        | zero => intro _ hb; rw [h0] at hb; cases hb
        | succ m ih =>
          intro hm hb
          cases hc : L m v with
          | false => exact ⟨m, by omega, hc, hb⟩
          | true => obtain ⟨q, a, b⟩ := ih (by omega) hc; exact ⟨q, by omega, b⟩
      obtain ⟨q, hq, hqf, hqt⟩ := hex 6 (Nat.le_refl _) (six v hv.1)
      rcases (grow_testBit _ _ _ _).1 hqt with c1 | ⟨⟨j, hj, c1, c2⟩, _⟩
      · have : L q v = true := c1
        rw [hqf] at this; cases this
      · have hjs : s.testBit j = true := by
          have := steps_reach (net := net) (A := s) (i := r) q (j := j) (by rw [e0]; exact c1)
          exact this.among.2
        have hvl := in_lt hs hv.1
        refine ⟨j, fun _ _ => ⟨hjs, by rw [h.sym j v hj hvl]; exact c2, ?_⟩⟩
        have hjl : L q j = true := c1
        have h1 : lv j ≤ q := by
          have := cnt_mono (n := 6) (p := fun m => !L m j) (q := fun i => decide (i < q)) (fun m hm hp => by
            have hp' : L m j = false := by simpa using hp
            rw [decide_eq_true_eq]
            refine Classical.byContradiction fun hc => ?_
            rw [mono q m j (by omega) hjl] at hp'; cases hp')
          rw [cnt_below 6 q (by omega)] at this
          exact this
        have h2 : q + 1 ≤ lv v := by
          have := cnt_mono (n := 6) (p := fun i => decide (i < q + 1)) (q := fun m => !L m v) (fun m hm hp => by
            have hp' : m < q + 1 := by simpa using hp
            cases hx : L m v with
            | false => rfl
            | true => rw [mono m q v (by omega) hx] at hqf; cases hqf)
          rw [cnt_below 6 (q + 1) (by omega)] at this
          exact this
        omega
    · exact ⟨0, fun a b => absurd ⟨a, b⟩ hv⟩
  refine ⟨lv, fun v => Classical.choose (hp v), ?_, fun v hv hne => ?_⟩
  · show cnt 6 (fun m => !L m r) = 0
    have : cnt 6 (fun m => !L m r) = cnt 6 (fun _ => false) := cnt_congr fun m _ => by
      have : L m r = true := mono 0 m r (by omega) (by show (2 ^ r).testBit r = true; rw [testBit_pow]; simp)
      rw [this]; rfl
    rw [this]; rfl
  · obtain ⟨a, b, c⟩ := Classical.choose_spec (hp v) hv hne
    exact ⟨a, b, c, cnt_le _ _⟩
/-- The net of the wires from each place but r to its parent. -/
def treeOf (n r : Nat) (p : Nat → Nat) : List Int := (List.range n).map fun k => ((orN n (fun j => (!(k == r) && (p k == j)) || (!(j == r) && (p j == k))) (fun j => 2 ^ j) : Nat) : Int)
end Go.Proofs.Ytjaklmemllbeiaa
/- The wires of a net in a row, and the nets of some of them. Conditions: those of each theorem. -/
namespace Go.Proofs.Ytjaklmemllbeiaa
set_option linter.unusedVariables false
set_option linter.unusedSimpArgs false

def pairStep (net : List Int) (k : Nat) (t : List (Nat × Nat)) (i : Nat) : List (Nat × Nat) := if (nb net k).testBit (k + 1 + i) = true then t ++ [(k, k + 1 + i)] else t
def pairRow (net : List Int) (t : List (Nat × Nat)) (k : Nat) : List (Nat × Nat) := fold (net.length - (k + 1)) (pairStep net k) t
def pairs (net : List Int) : List (Nat × Nat) := fold net.length (pairRow net) []
def bound15 (k : Nat) : Nat := k * (11 - k) / 2
def RowI (net : List Int) (k i : Nat) (t : List (Nat × Nat)) : Prop :=
  (∀ a b, (a, b) ∈ t ↔ ((a < k ∧ a < b ∧ b < net.length) ∨ (a = k ∧ k < b ∧ b < k + 1 + i)) ∧ (nb net a).testBit b = true) ∧ t.Nodup ∧ t.length ≤ bound15 k + i
theorem snoc_nodup {α : Type} {t : List α} {x : α} (h : t.Nodup) (hx : x ∉ t) : (t ++ [x]).Nodup := by
  rw [List.nodup_append]
  refine ⟨h, by simp, fun a ha b hb => ?_⟩
  have := List.mem_singleton.1 hb
  subst this
  exact fun e => hx (e ▸ ha)
theorem row_step {net : List Int} {k i : Nat} {t : List (Nat × Nat)} (hi : i < net.length - (k + 1)) (h : RowI net k i t) : RowI net k (i + 1) (pairStep net k t i) := by
  obtain ⟨h1, h2, h3⟩ := h
  unfold pairStep
  by_cases hb : (nb net k).testBit (k + 1 + i) = true
  · rw [if_pos hb]
    refine ⟨fun a b => ?_, snoc_nodup h2 fun hm => ?_, by rw [List.length_append]; simp; omega⟩
    · rw [List.mem_append, h1, List.mem_singleton, Prod.mk.injEq]
      constructor
      · rintro (⟨hab, hc⟩ | ⟨rfl, rfl⟩)
        · exact ⟨by omega, hc⟩
        · exact ⟨by omega, hb⟩
      · rintro ⟨hab, hc⟩
        by_cases he : a = k ∧ b = k + 1 + i
        · exact .inr he
        · exact .inl ⟨by omega, hc⟩
    · have := ((h1 _ _).1 hm).1
      omega
  · rw [if_neg hb]
    refine ⟨fun a b => ?_, h2, by omega⟩
    rw [h1]
    constructor
    · rintro ⟨hab, hc⟩; exact ⟨by omega, hc⟩
    · rintro ⟨hab, hc⟩
      by_cases he : a = k ∧ b = k + 1 + i
      · rw [he.1, he.2] at hc; exact absurd hc hb
      · exact ⟨by omega, hc⟩
theorem row_row {net : List Int} {k : Nat} {t : List (Nat × Nat)} (hk : k < net.length) (h6 : net.length ≤ 6) (h : RowI net k 0 t) : RowI net (k + 1) 0 (pairRow net t k) := by
  have key : ∀ i, i ≤ net.length - (k + 1) → RowI net k i (fold i (pairStep net k) t) := by
    intro i
    induction i with
    | zero => exact fun _ => h
    | succ i ih => intro hi; rw [fold_succ]; exact row_step (by omega) (ih (by omega))
  obtain ⟨h1, h2, h3⟩ := key _ (Nat.le_refl _)
  have hb : ∀ k, k < 6 → bound15 k + (5 - k) ≤ bound15 (k + 1) := by decide
  have := hb k (by omega)
  refine ⟨fun a b => ?_, h2, by unfold pairRow; omega⟩
  show (a, b) ∈ fold (net.length - (k + 1)) (pairStep net k) t ↔ _
  rw [h1]
  constructor
  · rintro ⟨hab, hc⟩; exact ⟨by omega, hc⟩
  · rintro ⟨hab, hc⟩; exact ⟨by omega, hc⟩
theorem pairs_is {net : List Int} (h6 : net.length ≤ 6) : (∀ a b, (a, b) ∈ pairs net ↔ a < b ∧ b < net.length ∧ (nb net a).testBit b = true) ∧ (pairs net).Nodup ∧ (pairs net).length ≤ 15 := by
  have key : ∀ k, k ≤ net.length → RowI net k 0 (fold k (pairRow net) []) := by
    intro k
    induction k with
    | zero => exact fun _ => ⟨fun a b => ⟨fun hm => (by cases hm), fun hm => (by omega)⟩, List.nodup_nil, Nat.zero_le _⟩
    | succ k ih => intro hk; rw [fold_succ]; exact row_row (by omega) h6 (ih (by omega))
  obtain ⟨h1, h2, h3⟩ := key _ (Nat.le_refl _)
  have hb : ∀ k, k ≤ 6 → bound15 k ≤ 15 := by decide
  have := hb _ h6
  refine ⟨fun a b => ?_, h2, by unfold pairs; omega⟩
  show (a, b) ∈ fold net.length (pairRow net) [] ↔ _
  rw [h1]
  constructor
  · rintro ⟨hab, hc⟩; exact ⟨by omega, by omega, hc⟩
  · rintro ⟨x, y, hc⟩; exact ⟨by omega, hc⟩
def pt (L : List (Nat × Nat)) (i : Nat) : Nat × Nat := L.getD i (0, 0)
theorem pt_mem {L : List (Nat × Nat)} {i : Nat} (hi : i < L.length) : pt L i ∈ L := by unfold pt; simp [List.getD, hi]
theorem mem_pt {L : List (Nat × Nat)} {p : Nat × Nat} (hp : p ∈ L) : ∃ i, i < L.length ∧ pt L i = p := by
  obtain ⟨i, hi, e⟩ := List.getElem_of_mem hp
  exact ⟨i, hi, by unfold pt; simp [List.getD, hi, e]⟩
theorem pt_inj {L : List (Nat × Nat)} (h : L.Nodup) {i j : Nat} (hi : i < L.length) (hj : j < L.length) (e : pt L i = pt L j) : i = j := by
  unfold pt at e
  simp only [List.getD, List.getElem?_eq_getElem hi, List.getElem?_eq_getElem hj, Option.getD_some] at e
  exact (List.getElem_inj h).1 e
/-- One wire more. -/
def addWire (T : List Int) (a b : Nat) : List Int := (T.set a ((nb T a ||| 2 ^ b : Nat) : Int)).set b ((nb (T.set a ((nb T a ||| 2 ^ b : Nat) : Int)) b ||| 2 ^ a : Nat) : Int)
def treeStep (L : List (Nat × Nat)) (x : Nat) (T : List Int) (i : Nat) : List Int := if x.testBit i = true then addWire T (pt L i).1 (pt L i).2 else T
def treeN (n : Nat) (L : List (Nat × Nat)) (x : Nat) : List Int := fold L.length (treeStep L x) (List.replicate n 0)
theorem el_set {T : List Int} {k : Nat} {v : Int} (hk : k < T.length) (j : Nat) : el (T.set k v) j = if j = k then v else el T j := by
  unfold el
  by_cases hj : j = k
  · subst hj; simp [List.getD, hk]
  · rw [if_neg hj]; simp [List.getD, List.getElem?_set, Ne.symm hj]
theorem nb_set {T : List Int} {k v : Nat} (hk : k < T.length) (j : Nat) : nb (T.set k (v : Int)) j = if j = k then v else nb T j := by
  unfold nb
  rw [el_set hk]
  split <;> simp
theorem addWire_nb {T : List Int} {a b : Nat} (ha : a < T.length) (hb : b < T.length) (hab : a ≠ b) (j : Nat) : nb (addWire T a b) j = if j = b then nb T b ||| 2 ^ a else if j = a then nb T a ||| 2 ^ b else nb T j := by
  unfold addWire
  rw [nb_set (by simpa using hb), nb_set ha, if_neg (Ne.symm hab), nb_set ha]
theorem addWire_len (T : List Int) (a b : Nat) : (addWire T a b).length = T.length := by simp [addWire]
theorem addWire_el {T : List Int} {a b : Nat} (ha : a < T.length) (hb : b < T.length) (hab : a ≠ b) (h : ∀ k, k < T.length → el T k = (nb T k : Int)) : ∀ k, k < T.length → el (addWire T a b) k = (nb (addWire T a b) k : Int) := by
  intro k hk
  rw [addWire_nb ha hb hab]
  unfold addWire
  rw [el_set (by simpa using hb), el_set ha, nb_set ha, if_neg (Ne.symm hab)]
  by_cases h1 : k = b
  · rw [if_pos h1, if_pos h1]
  · rw [if_neg h1, if_neg h1]
    by_cases h2 : k = a
    · rw [if_pos h2, if_pos h2]
    · rw [if_neg h2, if_neg h2]; exact h k hk
def TreeI (n : Nat) (L : List (Nat × Nat)) (x i : Nat) (T : List Int) : Prop :=
  T.length = n ∧ (∀ k, k < n → el T k = (nb T k : Int)) ∧ (∀ k j, k < n → ((nb T k).testBit j = true ↔ ∃ m, m < i ∧ x.testBit m = true ∧ (pt L m = (k, j) ∨ pt L m = (j, k)))) ∧ ends T = 2 * cnt i (fun m => x.testBit m)
theorem size_bit {a b : Nat} (ha : a < 64) (hb : b < 6) (hn : a.testBit b = false) : size (a ||| 2 ^ b) = size a + 1 := by
  have key : ((List.range 64).all fun a => (List.range 6).all fun b => a.testBit b || size (a ||| 2 ^ b) == size a + 1) = true := by decide +kernel
  have := List.all_eq_true.1 (List.all_eq_true.1 key a (List.mem_range.2 ha)) b (List.mem_range.2 hb)
  rw [hn, Bool.false_or, beq_iff_eq] at this
  exact this
theorem treeI_step {net : List Int} (h6 : net.length ≤ 6) {x i : Nat} {T : List Int} (hi : i < (pairs net).length) (h : TreeI net.length (pairs net) x i T) : TreeI net.length (pairs net) x (i + 1) (treeStep (pairs net) x T i) := by
  obtain ⟨p1, p2, p3⟩ := pairs_is h6
  obtain ⟨h1, h2, h3, h4⟩ := h
  have hcnt : cnt (i + 1) (fun m => x.testBit m) = cnt i (fun m => x.testBit m) + (x.testBit i).toNat := rfl
  unfold treeStep
  cases hx : x.testBit i with
  | false =>
    rw [if_neg (by simp)]
    refine ⟨h1, h2, fun k j hk => ?_, by rw [h4, hcnt, hx]; rfl⟩
    rw [h3 k j hk]
    constructor
    · rintro ⟨m, a, b, c⟩; exact ⟨m, by omega, b, c⟩
    · rintro ⟨m, a, b, c⟩
      have : m ≠ i := fun e => by rw [e, hx] at b; cases b
      exact ⟨m, by omega, b, c⟩
  | true =>
    rw [if_pos rfl]
    obtain ⟨a, b, hab⟩ : ∃ a b, pt (pairs net) i = (a, b) := ⟨_, _, rfl⟩
    have hm := (p1 a b).1 (hab ▸ pt_mem hi)
    obtain ⟨m1, m2, m3⟩ := hm
    rw [hab]
    simp only
    have ha : a < T.length := by omega
    have hb : b < T.length := by omega
    have hne : a ≠ b := by omega
    have fresh : ∀ k j, k < net.length → ((k = a ∧ j = b) ∨ (k = b ∧ j = a)) → (nb T k).testBit j = false := fun k j hk he => not_true fun hc => by
      obtain ⟨m, q1, q2, q3⟩ := (h3 k j hk).1 hc
      have hml : m < (pairs net).length := by omega
      have hw := pt_mem hml
      have : pt (pairs net) m = (a, b) := by
        rcases he with ⟨rfl, rfl⟩ | ⟨rfl, rfl⟩
        · rcases q3 with q3 | q3
          · exact q3
          · rw [q3] at hw; have := (p1 _ _).1 hw; omega
        · rcases q3 with q3 | q3
          · rw [q3] at hw; have := (p1 _ _).1 hw; omega
          · exact q3
      have := pt_inj p2 hml hi (this.trans hab.symm)
      omega
    have hlt : ∀ k, k < net.length → nb T k < 64 := fun k hk => by
      refine Nat.lt_pow_two_of_testBit (n := 6) _ fun j hj => not_true fun hc => ?_
      obtain ⟨m, q1, q2, q3⟩ := (h3 k j hk).1 hc
      have hw := pt_mem (L := pairs net) (i := m) (by omega)
      rcases q3 with q3 | q3 <;> rw [q3] at hw <;> have := (p1 _ _).1 hw <;> omega
    refine ⟨by rw [addWire_len]; exact h1, fun k hk => addWire_el ha hb hne (fun k hk => h2 k (by omega)) k (by omega), fun k j hk => ?_, ?_⟩
    · rw [addWire_nb ha hb hne]
      have base := h3 k j hk
      have hnew : (∃ m, m < i + 1 ∧ x.testBit m = true ∧ (pt (pairs net) m = (k, j) ∨ pt (pairs net) m = (j, k))) ↔ (nb T k).testBit j = true ∨ ((a, b) = (k, j) ∨ (a, b) = (j, k)) := by
        rw [base]
        constructor
        · rintro ⟨m, q1, q2, q3⟩
          by_cases he : m = i
          · subst he; rw [hab] at q3; exact .inr q3
          · exact .inl ⟨m, by omega, q2, q3⟩
        · rintro (⟨m, q1, q2, q3⟩ | q)
          · exact ⟨m, by omega, q2, q3⟩
          · exact ⟨i, by omega, hx, by rw [hab]; exact q⟩
      rw [hnew]
      simp only [Prod.mk.injEq]
      by_cases hkb : k = b
      · subst hkb
        rw [if_pos rfl, or2, testBit_pow, decide_eq_true_eq]
        constructor
        · rintro (q | q)
          · exact .inl q
          · exact .inr (.inr ⟨q, rfl⟩)
        · rintro (q | q | q)
          · exact .inl q
          · exact absurd q.1 hne
          · exact .inr q.1
      · rw [if_neg hkb]
        by_cases hka : k = a
        · subst hka
          rw [if_pos rfl, or2, testBit_pow, decide_eq_true_eq]
          constructor
          · rintro (q | q)
            · exact .inl q
            · exact .inr (.inl ⟨rfl, q⟩)
          · rintro (q | q | q)
            · exact .inl q
            · exact .inr q.2
            · exact absurd q.2.symm hkb
        · rw [if_neg hka]
          constructor
          · exact .inl
          · rintro (q | q | q)
            · exact q
            · exact absurd q.1.symm hka
            · exact absurd q.2.symm hkb
    · rw [hcnt, hx]
      unfold ends at h4 ⊢
      rw [addWire_len, h1]
      rw [h1] at h4
      have e : sumN net.length (fun k => size (nb (addWire T a b) k)) = sumN net.length (fun k => size (nb T k) + ((k == a).toNat + (k == b).toNat)) := sumN_congr fun k hk => by
        rw [addWire_nb ha hb hne]
        by_cases hkb : k = b
        · subst hkb
          rw [if_pos rfl, size_bit (hlt _ hk) (by omega) (fresh _ _ hk (.inr ⟨rfl, rfl⟩))]
          simp [Ne.symm hne]
        · rw [if_neg hkb]
          by_cases hka : k = a
          · subst hka
            rw [if_pos rfl, size_bit (hlt _ hk) (by omega) (fresh _ _ hk (.inl ⟨rfl, rfl⟩))]
            simp [hne]
          · rw [if_neg hka]; simp [hka, hkb]
      have one : ∀ c, c < net.length → sumN net.length (fun k => (k == c).toNat) = 1 := fun c hc => by
        rw [sumN_one (k := c) hc (fun j _ hj => by simp [hj])]; simp
      rw [e, sumN_add, sumN_add, one a (by omega), one b (by omega), h4]
      show _ = 2 * (_ + 1)
      omega
theorem treeN_is {net : List Int} (h6 : net.length ≤ 6) (x : Nat) : TreeI net.length (pairs net) x (pairs net).length (treeN net.length (pairs net) x) := by
  have key : ∀ i, i ≤ (pairs net).length → TreeI net.length (pairs net) x i (fold i (treeStep (pairs net) x) (List.replicate net.length 0)) := by
    intro i
    induction i with
    | zero =>
      intro _
      have e0 : ∀ k, nb (List.replicate net.length 0) k = 0 := fun k => by
        unfold nb el
        by_cases hk : k < net.length <;> simp [List.getD, List.getElem?_replicate, hk]
      refine ⟨by simp [fold_zero], fun k hk => ?_, fun k j hk => ?_, ?_⟩
      · rw [fold_zero, e0]; unfold el; simp [List.getD, List.getElem?_replicate, hk]
      · rw [fold_zero, e0, Nat.zero_testBit]
        exact ⟨fun hh => (by cases hh), fun ⟨m, a, _⟩ => (by omega)⟩
      · rw [fold_zero]
        show sumN (List.replicate net.length 0).length (fun k => size (nb (List.replicate net.length 0) k)) = 0
        rw [sumN_congr (g := fun _ => 0) (fun k _ => by rw [e0]; decide), sumN_zero]
    | succ i ih => intro hi; rw [fold_succ]; exact treeI_step h6 (by omega) (ih (by omega))
  exact key _ (Nat.le_refl _)
/-- Which wires of the row a net has. -/
def selW (L : List (Nat × Nat)) (t : List Int) : Nat := orN L.length (fun i => (nb t (pt L i).1).testBit (pt L i).2) (fun i => 2 ^ i)
theorem selW_testBit (L : List (Nat × Nat)) (t : List Int) (j : Nat) : (selW L t).testBit j = true ↔ j < L.length ∧ (nb t (pt L j).1).testBit (pt L j).2 = true := by
  unfold selW
  rw [orN_testBit]
  constructor
  · rintro ⟨k, hk, a, b⟩
    rw [testBit_pow, decide_eq_true_eq] at b
    subst b
    exact ⟨hk, a⟩
  · rintro ⟨a, b⟩
    exact ⟨j, a, b, by rw [testBit_pow]; simp⟩
theorem list_el {a b : List Int} (hl : a.length = b.length) (h : ∀ k, k < a.length → el a k = el b k) : a = b := by
  refine List.ext_getElem hl fun k h1 h2 => ?_
  have := h k h1
  unfold el at this
  simpa [List.getD, h1, h2] using this
theorem treeN_sel {net t : List Int} (h : Ok net) (ht : Sub net t) : treeN net.length (pairs net) (selW (pairs net) t) = t := by
  have h6 := h.hi
  obtain ⟨p1, p2, p3⟩ := pairs_is h6
  obtain ⟨t1, t2, t3, t4⟩ := treeN_is h6 (selW (pairs net) t)
  generalize treeN net.length (pairs net) (selW (pairs net) t) = T at t1 t2 t3 t4 ⊢
  have hl := ht.len
  refine list_el (by omega) fun k hk => ?_
  rw [t1] at hk
  rw [t2 k hk, ht.ok.el k (by omega)]
  congr 1
  refine Nat.eq_of_testBit_eq fun j => ?_
  rw [Bool.eq_iff_iff, t3 k j hk]
  constructor
  · rintro ⟨m, a, b, c⟩
    have := ((selW_testBit _ _ _).1 b).2
    have hw := pt_mem a
    rcases c with c | c
    · rw [c] at this; exact this
    · rw [c] at this hw
      have := (p1 _ _).1 hw
      rw [ht.ok.sym j k (by omega) (by omega)]; assumption
  · intro hb
    have hn := ht.sub k j hk hb
    have hj := h.nb_lt hk hn
    have hne : k ≠ j := fun e => by rw [e, h.irr j hj] at hn; cases hn
    rcases Nat.lt_or_gt_of_ne hne with hlt | hlt
    · obtain ⟨i, hi, e⟩ := mem_pt ((p1 k j).2 ⟨hlt, hj, hn⟩)
      exact ⟨i, hi, (selW_testBit _ _ _).2 ⟨hi, by rw [e]; exact hb⟩, .inl e⟩
    · obtain ⟨i, hi, e⟩ := mem_pt ((p1 j k).2 ⟨hlt, hk, by rw [h.sym k j hk hj]; exact hn⟩)
      exact ⟨i, hi, (selW_testBit _ _ _).2 ⟨hi, by rw [e]; show (nb t j).testBit k = true; rw [ht.ok.sym k j (by omega) (by omega)]; exact hb⟩, .inr e⟩
/-- The greatest number of leaves of a tree; -1 if there is none. -/
def LfMax (net : List Int) (m : Int) : Prop := (m = -1 ∧ ∀ t, ¬ Tree net t) ∨ ∃ k : Nat, m = (k : Int) ∧ (∃ t, Tree net t ∧ leafs t = k) ∧ ∀ t, Tree net t → leafs t ≤ k
def goodB (net : List Int) (x : Nat) : Bool := cnt 15 (fun m => x.testBit m) + 1 == net.length && parts (treeN net.length (pairs net) x) == 1
def lfStep (net : List Int) (b : Int) (x : Nat) : Int := if goodB net x = true then (if ((leafs (treeN net.length (pairs net) x) : Nat) : Int) > b then ((leafs (treeN net.length (pairs net) x) : Nat) : Int) else b) else b
end Go.Proofs.Ytjaklmemllbeiaa
/- Texts of nets. Plain facts. Conditions: those of each theorem. -/
namespace Go.Proofs.Ytjaklmemllbeiaa
open D Go.RowKit
set_option linter.unusedVariables false
set_option linter.unusedSimpArgs false

/-! Texts as lists of bytes. -/
def lst (s : ByteArray) : List Int := s.data.toList.map fun b => (b.toNat : Int)
theorem lst_bytes (s : ByteArray) : Bytes (lst s) := by
  intro n hn
  unfold lst at hn
  rw [List.mem_map] at hn
  obtain ⟨b, _, rfl⟩ := hn
  have := b.toNat_lt
  omega
theorem bytesOf_lst (s : ByteArray) : bytesOf (lst s) = s := by
  cases s with
  | mk d =>
    unfold bytesOf lst
    simp [List.map_map, Function.comp_def]
theorem size_of (l : List Int) : (bytesOf l).size = l.length := by
  show (List.map _ l).toArray.size = _
  simp
theorem data_of (l : List Int) : (bytesOf l).data.toList = l.map fun n => UInt8.ofNat n.toNat := by simp [bytesOf]
theorem strAt_of {l : List Int} (h : Bytes l) {i : Nat} (hi : i < l.length) : strAt (bytesOf l) i = D.eli l i := by
  unfold strAt D.eli
  rw [data_of]
  have := h _ (List.getElem_mem hi)
  simp [List.getD, hi]
  omega
theorem cut_of (l : List Int) (a b : Nat) : (bytesOf l).extract a (a + (b - a)) = bytesOf ((l.drop a).take (b - a)) := by
  have e : ((bytesOf l).extract a (a + (b - a))).data.toList = (bytesOf ((l.drop a).take (b - a))).data.toList := by
    rw [ByteArray.data_extract, Array.toList_extract, data_of, data_of, List.extract_eq_take_drop, List.map_take, List.map_drop]
    congr 1; omega
  cases h1 : (bytesOf l).extract a (a + (b - a)) with
  | mk d1 =>
    cases h2 : bytesOf ((l.drop a).take (b - a)) with
    | mk d2 =>
      rw [h1, h2] at e
      congr 1
      exact Array.toList_inj.1 e
theorem app_of (a b : List Int) : bytesOf a ++ bytesOf b = bytesOf (a ++ b) := by
  have e : (bytesOf a ++ bytesOf b).data.toList = (bytesOf (a ++ b)).data.toList := by
    rw [ByteArray.data_append, Array.toList_append, data_of, data_of, data_of, List.map_append]
  cases h1 : bytesOf a ++ bytesOf b with
  | mk d1 =>
    cases h2 : bytesOf (a ++ b) with
    | mk d2 =>
      rw [h1, h2] at e
      congr 1
      exact Array.toList_inj.1 e
theorem els_of (W : List (List Int)) (i : Nat) : D.els (W.map bytesOf) i = bytesOf (W.getD i []) := by
  unfold D.els
  rcases Nat.lt_or_ge i W.length with hi | hi
  · simp [List.getD, hi]
  · simp [List.getD, List.getElem?_eq_none hi]
    rfl
/-! A text cut at each of some bytes. -/
def cutR (sep : Int) : List Int → List (List Int)
  | [] => [[]]
  | c :: r => if c = sep then [] :: cutR sep r else match cutR sep r with
    | [] => [[c]]
    | w :: ws => (c :: w) :: ws
theorem cutR_eq (sep c : Int) (r : List Int) : cutR sep (c :: r) = if c = sep then [] :: cutR sep r else match cutR sep r with
    | [] => [[c]]
    | w :: ws => (c :: w) :: ws := rfl
theorem cutR_ne (sep : Int) (l : List Int) : cutR sep l ≠ [] := by
  cases l with
  | nil => simp [cutR]
  | cons c r =>
    unfold cutR
    split
    · simp
    · split <;> simp
theorem cutR_plain {sep : Int} : ∀ {w : List Int}, sep ∉ w → cutR sep w = [w] := by
  intro w
  induction w with
  | nil => intro _; rfl
  | cons c r ih =>
    intro h
    have h1 : ¬ c = sep := fun e => h (by simp [e])
    have h2 : sep ∉ r := fun e => h (by simp [e])
    unfold cutR
    rw [if_neg h1, ih h2]
theorem cutR_cons {sep : Int} (r : List Int) : ∀ {w : List Int}, sep ∉ w → cutR sep (w ++ sep :: r) = w :: cutR sep r := by
  intro w
  induction w with
  | nil => intro _; show cutR sep (sep :: r) = _; rw [cutR_eq, if_pos rfl]
  | cons c w ih =>
    intro h
    have h1 : ¬ c = sep := fun e => h (by simp [e])
    have h2 : sep ∉ w := fun e => h (by simp [e])
    show cutR sep (c :: (w ++ sep :: r)) = _
    rw [cutR_eq, if_neg h1, ih h2]
theorem cutR_mem {sep : Int} : ∀ {l : List Int} {w : List Int}, w ∈ cutR sep l → (∀ c ∈ w, c ∈ l) ∧ w.length ≤ l.length := by
  intro l
  induction l with
  | nil => intro w hw; simp [cutR] at hw; subst hw; exact ⟨fun c hc => hc, Nat.le_refl _⟩
  | cons c r ih =>
    intro w hw
    rw [cutR_eq] at hw
    split at hw
    · rcases List.mem_cons.1 hw with rfl | hw
      · exact ⟨fun c hc => (by cases hc), by simp⟩
      · have := ih hw
        exact ⟨fun d hd => by simp [this.1 d hd], by simp; omega⟩
    · cases hq : cutR sep r with
      | nil => exact absurd hq (cutR_ne sep r)
      | cons w0 ws =>
        rw [hq] at hw ih
        simp only at hw
        rcases List.mem_cons.1 hw with rfl | hw
        · have := ih (w := w0) (by simp)
          refine ⟨fun d hd => ?_, by simp; omega⟩
          rcases List.mem_cons.1 hd with rfl | hd
          · simp
          · simp [this.1 d hd]
        · have := ih (w := w) (by simp [hw])
          exact ⟨fun d hd => by simp [this.1 d hd], by simp; omega⟩
theorem cutR_len (sep : Int) : ∀ l : List Int, (cutR sep l).length ≤ l.length + 1 := by
  intro l
  induction l with
  | nil => simp [cutR]
  | cons c r ih =>
    unfold cutR
    split
    · simp; omega
    · cases hq : cutR sep r with
      | nil => simp
      | cons w ws => rw [hq] at ih; simp at ih ⊢; omega

/-! The text of a net. -/
def tw (p : Nat × Nat) : List Int := [48 + (p.1 : Int), 45, 48 + (p.2 : Int)]
def tx (T : List Int) : List Int := (48 + (T.length : Int)) :: (pairs T).flatMap fun p => 32 :: tw p
theorem tw_inj {p q : Nat × Nat} (h : tw p = tw q) : p = q := by
  unfold tw at h
  injection h with h1 h
  injection h with _ h
  injection h with h2 _
  exact Prod.ext (by omega) (by omega)
theorem cut_rows (w : List Int) (hw : (32 : Int) ∉ w) : ∀ P : List (Nat × Nat), cutR 32 (w ++ P.flatMap fun p => 32 :: tw p) = w :: P.map tw := by
  intro P
  induction P generalizing w with
  | nil => simp [cutR_plain hw]
  | cons p P ih =>
    simp only [List.flatMap_cons, List.cons_append, List.map_cons]
    rw [cutR_cons _ hw, ih (tw p) (by unfold tw; simp; omega)]
theorem cut_tx (T : List Int) : cutR 32 (tx T) = [48 + (T.length : Int)] :: (pairs T).map tw :=
  cut_rows [48 + (T.length : Int)] (by simp; omega) (pairs T)
theorem cut_tw (p : Nat × Nat) : cutR 45 (tw p) = [[48 + (p.1 : Int)], [48 + (p.2 : Int)]] := by
  unfold tw
  have := cutR_cons (sep := 45) [48 + (p.2 : Int)] (w := [48 + (p.1 : Int)]) (by simp; omega)
  rw [show [48 + (p.1 : Int), 45, 48 + (p.2 : Int)] = [48 + (p.1 : Int)] ++ 45 :: [48 + (p.2 : Int)] from rfl, this, cutR_plain (by simp; omega)]
theorem rows_len (P : List (Nat × Nat)) : (P.flatMap fun p => 32 :: tw p).length = 4 * P.length := by
  induction P with
  | nil => rfl
  | cons p P ih => simp only [List.flatMap_cons, List.length_append, ih, List.length_cons]; simp [tw]; omega
theorem tx_len (T : List Int) : (tx T).length = 1 + 4 * (pairs T).length := by
  unfold tx; rw [List.length_cons, rows_len]; omega
theorem tx_short {T : List Int} (h : Ok T) : (tx T).length ≤ 61 := by
  have := (pairs_is h.hi).2.2
  rw [tx_len]; omega
theorem tx_bytes {T : List Int} (h : Ok T) : Bytes (tx T) := by
  have h6 := h.hi
  intro n hn
  unfold tx at hn
  rcases List.mem_cons.1 hn with rfl | hn
  · omega
  · rw [List.mem_flatMap] at hn
    obtain ⟨p, hp, hn⟩ := hn
    obtain ⟨a, b, _⟩ := ((pairs_is h6).1 p.1 p.2).1 hp
    unfold tw at hn
    simp only [List.mem_cons, List.not_mem_nil, or_false] at hn
    omega
/-- Wires joined one after the other. -/
def jn (n : Nat) (L : List (Nat × Nat)) : List Int := fold L.length (fun t i => addWire t (pt L i).1 (pt L i).2) (List.replicate n 0)
theorem fold_same {T : Type} {f g : T → Nat → T} : ∀ (n : Nat) (t : T), (∀ i, i < n → ∀ t, f t i = g t i) → fold n f t = fold n g t := by
  intro n
  induction n with
  | zero => intro t _; rfl
  | succ n ih => intro t h; rw [fold_succ, fold_succ, ih t (fun i hi => h i (by omega)), h n (by omega)]
theorem sub_self {T : List Int} (h : Ok T) : Sub T T := ⟨h, rfl, fun k j _ hb => hb⟩
theorem jn_pairs {T : List Int} (h : Ok T) : jn T.length (pairs T) = T := by
  have e := treeN_sel h (sub_self h)
  have h6 := h.hi
  rw [← e]
  conv => lhs; rw [e]
  unfold jn treeN
  refine fold_same _ _ (fun i hi t => ?_)
  unfold treeStep
  have hm := pt_mem hi
  have := ((pairs_is h6).1 (pt (pairs T) i).1 (pt (pairs T) i).2).1 hm
  rw [if_pos ((selW_testBit _ _ _).2 ⟨hi, this.2.2⟩)]
theorem tx_inj {T T' : List Int} (h : Ok T) (h' : Ok T') (e : tx T = tx T') : T = T' := by
  have e1 := cut_tx T
  rw [e, cut_tx T'] at e1
  injection e1 with e2 e3
  injection e2 with e2 _
  have e4 : pairs T = pairs T' := by
    refine List.ext_getElem (by simpa using (congrArg List.length e3).symm) (fun i h1 h2 => ?_)
    have := congrArg (fun l => l[i]?) e3
    simp only [List.getElem?_map, List.getElem?_eq_getElem h1, List.getElem?_eq_getElem h2, Option.map_some, Option.some.injEq] at this
    exact (tw_inj this).symm
  rw [← jn_pairs h, ← jn_pairs h', e4, show T.length = T'.length by omega]

/-- Rows of small numbers. -/
def N64 (T : List Int) : Prop := T.length ≤ 6 ∧ ∀ k, k < T.length → D.eli T k = (nb T k : Int) ∧ nb T k < 64
theorem N64_zero {n : Nat} (h : n ≤ 6) : N64 (List.replicate n 0) := by
  refine ⟨by simpa using h, fun k hk => ?_⟩
  have hk' : k < n := by simpa using hk
  have e : el (List.replicate n 0) k = 0 := by unfold el; simp [List.getD, List.getElem?_replicate, hk']
  have e2 : nb (List.replicate n 0) k = 0 := by unfold nb; rw [e]; rfl
  rw [e2]
  exact ⟨e, by omega⟩
theorem half_64 {T : List Int} (h : N64 T) {a b : Nat} (ha : a < T.length) (hb : b < T.length) : (T.set a ((nb T a ||| 2 ^ b : Nat) : Int)).length = T.length ∧ ∀ k, k < T.length → D.eli (T.set a ((nb T a ||| 2 ^ b : Nat) : Int)) k = (nb (T.set a ((nb T a ||| 2 ^ b : Nat) : Int)) k : Int) ∧ nb (T.set a ((nb T a ||| 2 ^ b : Nat) : Int)) k < 64 := by
  obtain ⟨h6, hn⟩ := h
  have pb : 2 ^ b < 2 ^ 6 := Nat.pow_lt_pow_right (by omega) (by omega)
  have v1 : nb T a ||| 2 ^ b < 2 ^ 6 := Nat.or_lt_two_pow (by have := (hn a ha).2; omega) pb
  refine ⟨by simp, fun k hk => ?_⟩
  have e1 : el (T.set a ((nb T a ||| 2 ^ b : Nat) : Int)) k = if k = a then ((nb T a ||| 2 ^ b : Nat) : Int) else el T k := el_set ha k
  rw [nb_set ha]
  by_cases hka : k = a
  · rw [if_pos hka] at e1 ⊢; exact ⟨e1, v1⟩
  · rw [if_neg hka] at e1 ⊢; exact ⟨e1.trans (hn k hk).1, (hn k hk).2⟩
theorem addWire_64 {T : List Int} (h : N64 T) {a b : Nat} (ha : a < T.length) (hb : b < T.length) : N64 (addWire T a b) := by
  obtain ⟨h6, hn⟩ := h
  have pa : 2 ^ a < 2 ^ 6 := Nat.pow_lt_pow_right (by omega) (by omega)
  have pb : 2 ^ b < 2 ^ 6 := Nat.pow_lt_pow_right (by omega) (by omega)
  have v1 : nb T a ||| 2 ^ b < 2 ^ 6 := Nat.or_lt_two_pow (by have := (hn a ha).2; omega) pb
  have hl : (T.set a ((nb T a ||| 2 ^ b : Nat) : Int)).length = T.length := by simp
  have q : ∀ k, k < T.length → D.eli (T.set a ((nb T a ||| 2 ^ b : Nat) : Int)) k = (nb (T.set a ((nb T a ||| 2 ^ b : Nat) : Int)) k : Int) ∧ nb (T.set a ((nb T a ||| 2 ^ b : Nat) : Int)) k < 64 := fun k hk => by
    have e1 : el (T.set a ((nb T a ||| 2 ^ b : Nat) : Int)) k = if k = a then ((nb T a ||| 2 ^ b : Nat) : Int) else el T k := el_set ha k
    rw [nb_set ha]
    by_cases hka : k = a
    · rw [if_pos hka] at e1 ⊢; exact ⟨e1, v1⟩
    · rw [if_neg hka] at e1 ⊢; exact ⟨e1.trans (hn k hk).1, (hn k hk).2⟩
  unfold addWire
  generalize T.set a ((nb T a ||| 2 ^ b : Nat) : Int) = R at hl q ⊢
  rw [← hl] at hb h6
  have v2 : nb R b ||| 2 ^ a < 2 ^ 6 := Nat.or_lt_two_pow (by have := (q b (by omega)).2; omega) pa
  refine ⟨by simpa using h6, fun k hk => ?_⟩
  have hk' : k < R.length := by simpa using hk
  have e1 : el (R.set b ((nb R b ||| 2 ^ a : Nat) : Int)) k = if k = b then ((nb R b ||| 2 ^ a : Nat) : Int) else el R k := el_set hb k
  rw [nb_set hb]
  by_cases hkb : k = b
  · rw [if_pos hkb] at e1 ⊢; exact ⟨e1, v2⟩
  · rw [if_neg hkb] at e1 ⊢; exact ⟨e1.trans (q k (by omega)).1, (q k (by omega)).2⟩
end Go.Proofs.Ytjaklmemllbeiaa
/- Two guards at a place, and a guard that leaves: plain facts. Conditions: those of each theorem. -/
namespace Go.Proofs.Ytjaklmemllbeiaa
set_option linter.unusedVariables false
set_option linter.unusedSimpArgs false

/-! ### Rows of small numbers -/
/-- The places with at least m guards. -/
def withN (n : Nat) (r : Nat → Nat) (m : Nat) : Nat := orN n (fun k => decide (m ≤ r k)) (fun k => 2 ^ k)
/-- The digits of a number to the base three, the first one ahead. -/
def dig (n m k : Nat) : Nat := m / 3 ^ (n - 1 - k) % 3
theorem dig_lt (n m k : Nat) : dig n m k ≤ 2 := by unfold dig; omega
theorem dig_last (n m : Nat) : dig (n + 1) m n = m % 3 := by
  unfold dig
  rw [show n + 1 - 1 - n = 0 by omega]; simp
theorem dig_ahead {n m k : Nat} (hk : k < n) : dig (n + 1) m k = dig n (m / 3) k := by
  unfold dig
  rw [show n + 1 - 1 - k = (n - 1 - k) + 1 by omega, Nat.pow_succ, Nat.mul_comm, ← Nat.div_div_eq_div_mul]
/-- Each row is one of the rows that are counted up. -/
theorem dig_all {n : Nat} {r : Nat → Nat} (hr : ∀ k, k < n → r k ≤ 2) : ∃ m, m < 3 ^ n ∧ ∀ k, k < n → dig n m k = r k := by
  induction n with
  | zero => exact ⟨0, by simp, fun k hk => by omega⟩
  | succ n ih =>
    obtain ⟨m, hm, hd⟩ := ih (fun k hk => hr k (by omega))
    have h2 := hr n (by omega)
    refine ⟨3 * m + r n, by rw [Nat.pow_succ]; omega, fun k hk => ?_⟩
    by_cases hkn : k = n
    · rw [hkn, dig_last]; omega
    · rw [dig_ahead (by omega), show (3 * m + r n) / 3 = m by omega]
      exact hd k (by omega)
/-- So few guards a row of a kind can have. -/
structure MinRow (n : Nat) (p : (Nat → Nat) → Prop) (m : Nat) : Prop where
  ex : ∃ r, (∀ k, k < n → r k ≤ 2) ∧ p r ∧ sumN n r = m
  le : ∀ r, (∀ k, k < n → r k ≤ 2) → p r → m ≤ sumN n r
def RomanP (net : List Int) (r : Nat → Nat) : Prop := ∀ k, k < net.length → r k = 0 → ∃ j, j < net.length ∧ (nb net k).testBit j = true ∧ 2 ≤ r j
def help (net : List Int) (r : Nat → Nat) (k : Nat) : Nat := sumN net.length (fun j => ((nb net k).testBit j).toNat * r j)
def ItalianP (net : List Int) (r : Nat → Nat) : Prop := ∀ k, k < net.length → r k = 0 → 2 ≤ help net r k
/-- The row of a set: two at its places, one where it does not see. -/
def rowOfN (net : List Int) (s k : Nat) : Nat := if s.testBit k = true then 2 else if (seen net s).testBit k = true then 0 else 1
/-! ### A guard that leaves -/
def moved (s f t : Nat) : Nat := (s - 2 ^ f) ||| 2 ^ t
/-- A guard next to a place can go there, and all is watched. -/
def Can (net : List Int) (s t : Nat) : Prop := ∃ f, s.testBit f = true ∧ (nb net t).testBit f = true ∧ W net (moved s f t) = true
def Secure (net : List Int) (s : Nat) : Prop := W net s = true ∧ ∀ k, k < net.length → s.testBit k = false → Can net s k
/-- The row behind a guard's move. -/
def leave (r : Nat → Nat) (f t k : Nat) : Nat := if k = t then 1 else if k = f then r f - 1 else r k
def WeakP (net : List Int) (r : Nat → Nat) : Prop := ∀ k, k < net.length → r k = 0 → ∃ f, f < net.length ∧ 1 ≤ r f ∧ (nb net k).testBit f = true ∧ W net (withN net.length (leave r f k) 1) = true
end Go.Proofs.Ytjaklmemllbeiaa
/- Guards that answer for ever, one at a time: plain facts. Conditions: those of each theorem. -/
namespace Go.Proofs.Ytjaklmemllbeiaa
set_option linter.unusedVariables false
set_option linter.unusedSimpArgs false

/-- A family of sets that can answer each place by one move, and be in the family again. -/
def Closed1 (net : List Int) (F : Nat → Prop) : Prop := ∀ t, t < 2 ^ net.length → F t → ∀ k, k < net.length → t.testBit k = false → ∃ f, t.testBit f = true ∧ (nb net k).testBit f = true ∧ F (moved t f k)
def Eternal (net : List Int) (s : Nat) : Prop := ∃ F, Closed1 net F ∧ F s
end Go.Proofs.Ytjaklmemllbeiaa
/- All guards move: who can go where, by Hall's condition. Conditions: those of each theorem. -/
namespace Go.Proofs.Ytjaklmemllbeiaa
set_option linter.unusedVariables false
set_option linter.unusedSimpArgs false

theorem size_eq6 {s : Nat} (hs : s < 64) : size s = cnt 6 (fun k => s.testBit k) := by unfold size; rw [card_sum]
theorem in6 {s k : Nat} (hs : s < 64) (hk : s.testBit k = true) : k < 6 := testBit_lt (n := 6) hs hk
theorem size_mono6 {s t : Nat} (hs : s < 64) (ht : t < 64) (h : ∀ j, s.testBit j = true → t.testBit j = true) : size s ≤ size t := by
  rw [size_eq6 hs, size_eq6 ht]; exact cnt_mono fun k _ => h k
theorem size_disj {s t : Nat} (hs : s < 64) (ht : t < 64) (h : ∀ j, s.testBit j = true → t.testBit j = false) : size (s ||| t) = size s + size t := by
  have hl : s ||| t < 2 ^ 6 := Nat.or_lt_two_pow (by omega) (by omega)
  rw [size_eq6 hs, size_eq6 ht, size_eq6 (by omega)]
  unfold cnt
  rw [← sumN_add]
  refine sumN_congr fun k _ => ?_
  show ((s ||| t).testBit k).toNat = (s.testBit k).toNat + (t.testBit k).toNat
  rw [Nat.testBit_or]
  cases hb : s.testBit k with
  | false => simp
  | true => rw [h k hb]; rfl
theorem diff_testBit {s t : Nat} (hs : s < 64) (ht : t < 64) (j : Nat) : (minus s t).testBit j = true ↔ s.testBit j = true ∧ t.testBit j = false := by
  rw [minus_testBit _ _ (by omega) (by omega), Bool.and_eq_true, Bool.not_eq_true']
theorem diff_lt {s t : Nat} (hs : s < 64) : minus s t < 64 := Nat.lt_of_le_of_lt Nat.and_le_left hs
theorem size_diff {s t : Nat} (hs : s < 64) (ht : t < 64) (h : ∀ j, t.testBit j = true → s.testBit j = true) : size (minus s t) + size t = size s := by
  rw [← size_disj (diff_lt hs) ht (fun j hj => ((diff_testBit hs ht j).1 hj).2)]
  congr 1
  apply Nat.eq_of_testBit_eq
  intro j
  rw [Bool.eq_iff_iff, or2, diff_testBit hs ht]
  constructor
  · rintro (⟨a, _⟩ | a)
    · exact a
    · exact h j a
  · intro a
    cases hb : t.testBit j with
    | true => exact .inr rfl
    | false => exact .inl ⟨a, rfl⟩
theorem size_zero {s : Nat} (hs : s < 64) (h : size s = 0) : s = 0 := Classical.byContradiction fun hne => by
  obtain ⟨j, hj⟩ := pos_iff.1 hne
  have := size_pos hs (in6 hs hj) hj
  omega
/-- Those of b next to some of x. -/
def nbs (R : Nat → Nat → Bool) (x b : Nat) : Nat := orN 6 (fun j => b.testBit j && (List.range 6).any fun i => x.testBit i && R i j) (fun j => 2 ^ j)
theorem nbs_testBit {R : Nat → Nat → Bool} {x b : Nat} (hx : x < 64) (hb : b < 64) (j : Nat) : (nbs R x b).testBit j = true ↔ b.testBit j = true ∧ ∃ i, x.testBit i = true ∧ R i j = true := by
  unfold nbs
  rw [orN_testBit]
  simp only [Bool.and_eq_true, List.any_eq_true, List.mem_range]
  constructor
  · rintro ⟨k, hk, ⟨a, i, _, b1, c⟩, d⟩
    rw [testBit_pow, decide_eq_true_eq] at d
    subst d
    exact ⟨a, i, b1, c⟩
  · rintro ⟨a, i, b1, c⟩
    exact ⟨j, in6 hb a, ⟨a, i, in6 hx b1, b1, c⟩, by rw [testBit_pow]; simp⟩
theorem nbs_lt (R : Nat → Nat → Bool) (x b : Nat) : nbs R x b < 64 := orN_lt (m := 6) fun k hk _ => Nat.pow_lt_pow_right (by omega) hk
/-- Each can be given another one, if no set has too few. -/
theorem hall (R : Nat → Nat → Bool) : ∀ m a b, a < 64 → b < 64 → size a ≤ m → (∀ x, x < 64 → (∀ j, x.testBit j = true → a.testBit j = true) → size x ≤ size (nbs R x b)) →
    ∃ f : Nat → Nat, (∀ i, a.testBit i = true → b.testBit (f i) = true ∧ R i (f i) = true) ∧ ∀ i j, a.testBit i = true → a.testBit j = true → f i = f j → i = j := by
  intro m
  induction m with
  | zero =>
    intro a b ha hb hm _
    have := size_zero ha (by omega)
    subst this
    exact ⟨fun i => i, fun i hi => (by rw [Nat.zero_testBit] at hi; cases hi), fun i j hi => (by rw [Nat.zero_testBit] at hi; cases hi)⟩
  | succ m ih =>
    intro a b ha hb hm hc
    by_cases h0 : a = 0
    · subst h0
      exact ⟨fun i => i, fun i hi => (by rw [Nat.zero_testBit] at hi; cases hi), fun i j hi => (by rw [Nat.zero_testBit] at hi; cases hi)⟩
    by_cases ht : ∃ x, x < 64 ∧ (∀ j, x.testBit j = true → a.testBit j = true) ∧ x ≠ 0 ∧ x ≠ a ∧ size (nbs R x b) ≤ size x
    · -- a tight set is given its own, the others the others
      obtain ⟨x, hx, hxa, hx0, hxne, hxt⟩ := ht
      have hdz := size_diff ha hx hxa
      have hxp : 1 ≤ size x := by
        obtain ⟨j, hj⟩ := pos_iff.1 hx0
        exact size_pos hx (in6 hx hj) hj
      have hdp : 1 ≤ size (minus a x) := by
        refine Nat.one_le_iff_ne_zero.2 fun hz => hxne ?_
        have h1 := size_zero (diff_lt ha) hz
        apply Nat.eq_of_testBit_eq
        intro j
        rw [Bool.eq_iff_iff]
        refine ⟨hxa j, fun hj => Classical.byContradiction fun hno => ?_⟩
        have := (diff_testBit ha hx j).2 ⟨hj, not_true hno⟩
        rw [h1, Nat.zero_testBit] at this; cases this
      obtain ⟨f1, p1, q1⟩ := ih x b hx hb (by omega) (fun y hy hyx => hc y hy fun j hj => hxa j (hyx j hj))
      have hnl := nbs_lt R x b
      obtain ⟨f2, p2, q2⟩ := ih (minus a x) (minus b (nbs R x b)) (diff_lt ha) (diff_lt hb) (by omega) (fun z hz hza => by
        have hzx : z ||| x < 64 := by
          have : z ||| x < 2 ^ 6 := Nat.or_lt_two_pow (by omega) (by omega)
          omega
        have hdis : ∀ j, z.testBit j = true → x.testBit j = false := fun j hj => ((diff_testBit ha hx j).1 (hza j hj)).2
        have h1 := hc (z ||| x) hzx (fun j hj => by
          rcases (or2 _ _ _).1 hj with hj | hj
          · exact ((diff_testBit ha hx j).1 (hza j hj)).1
          · exact hxa j hj)
        rw [size_disj hz hx hdis] at h1
        have h2 : size (nbs R (z ||| x) b) ≤ size (nbs R z (minus b (nbs R x b))) + size (nbs R x b) := by
          rw [← size_disj (nbs_lt _ _ _) hnl (fun j hj => ((diff_testBit hb hnl j).1 ((nbs_testBit hz (diff_lt hb) j).1 hj).1).2)]
          refine size_mono6 (nbs_lt _ _ _) (by have : nbs R z (minus b (nbs R x b)) ||| nbs R x b < 2 ^ 6 := Nat.or_lt_two_pow (nbs_lt _ _ _) hnl
                                               omega) fun j hj => ?_
          obtain ⟨a1, i, a2, a3⟩ := (nbs_testBit hzx hb j).1 hj
          rw [or2]
          cases hb2 : (nbs R x b).testBit j with
          | true => exact .inr rfl
          | false =>
            left
            rcases (or2 _ _ _).1 a2 with a2 | a2
            · exact (nbs_testBit hz (diff_lt hb) j).2 ⟨(diff_testBit hb hnl j).2 ⟨a1, hb2⟩, i, a2, a3⟩
            · rw [(nbs_testBit hx hb j).2 ⟨a1, i, a2, a3⟩] at hb2; cases hb2
        omega)
      have in1 : ∀ i, x.testBit i = true → (nbs R x b).testBit (f1 i) = true := fun i hi => (nbs_testBit hx hb _).2 ⟨(p1 i hi).1, i, hi, (p1 i hi).2⟩
      have in2 : ∀ i, a.testBit i = true → x.testBit i = false → (minus a x).testBit i = true := fun i hi hn => (diff_testBit ha hx i).2 ⟨hi, hn⟩
      refine ⟨fun i => if x.testBit i = true then f1 i else f2 i, fun i hi => ?_, fun i j hi hj he => ?_⟩
      · cases hxi : x.testBit i with
        | true => simp only [hxi, if_true]; exact p1 i hxi
        | false =>
          simp only [hxi, Bool.false_eq_true, if_false]
          obtain ⟨u, v⟩ := p2 i (in2 i hi hxi)
          exact ⟨((diff_testBit hb hnl _).1 u).1, v⟩
      · cases hxi : x.testBit i with
        | true =>
          cases hxj : x.testBit j with
          | true => simp only [hxi, hxj, if_true] at he; exact q1 i j hxi hxj he
          | false =>
            simp only [hxi, hxj, if_true, Bool.false_eq_true, if_false] at he
            have h1 := in1 i hxi
            have h2 := ((diff_testBit hb hnl _).1 (p2 j (in2 j hj hxj)).1).2
            rw [← he, h1] at h2; cases h2
        | false =>
          cases hxj : x.testBit j with
          | true =>
            simp only [hxi, hxj, if_true, Bool.false_eq_true, if_false] at he
            have h1 := in1 j hxj
            have h2 := ((diff_testBit hb hnl _).1 (p2 i (in2 i hi hxi)).1).2
            rw [he, h1] at h2; cases h2
          | false =>
            simp only [hxi, hxj, Bool.false_eq_true, if_false] at he
            exact q2 i j (in2 i hi hxi) (in2 j hj hxj) he
    · -- one is given any, and the rest goes on
      obtain ⟨g, hg⟩ := pos_iff.1 h0
      have hg6 := in6 ha hg
      have hpg : 2 ^ g < 64 := by
        have : 2 ^ g < 2 ^ 6 := Nat.pow_lt_pow_right (by omega) hg6
        omega
      have hgs : ∀ j, (2 ^ g).testBit j = true → a.testBit j = true := fun j hj => by rw [testBit_pow, decide_eq_true_eq] at hj; rw [← hj]; exact hg
      have z1 : size (2 ^ g) = 1 := by
        have := size_add (s := 0) (k := g) (by omega) hg6 (Nat.zero_testBit g)
        rw [Nat.zero_or] at this
        rw [this]; decide
      have h1 := hc (2 ^ g) hpg hgs
      have hne : nbs R (2 ^ g) b ≠ 0 := fun he => by
        have : size (nbs R (2 ^ g) b) = 0 := by rw [he]; decide
        omega
      obtain ⟨t, htb⟩ := pos_iff.1 hne
      obtain ⟨hbt, i, hi, hR⟩ := (nbs_testBit hpg hb t).1 htb
      have hig : i = g := by rw [testBit_pow, decide_eq_true_eq] at hi; exact hi.symm
      subst hig
      have ht6 := in6 hb hbt
      have ba := bits_sub a ha i hg6 hg
      have bb := bits_sub b hb t ht6 hbt
      obtain ⟨f, p, q⟩ := ih (a - 2 ^ i) (b - 2 ^ t) ba.1 bb.1 (by omega) (fun x hx hxa => by
        by_cases hx0 : x = 0
        · subst hx0
          have : size 0 = 0 := by decide
          omega
        have hxa' : ∀ j, x.testBit j = true → a.testBit j = true := fun j hj => by
          have := hxa j hj
          rw [sub_testBit ha hg6 hg, Bool.and_eq_true] at this
          exact this.1
        have hxne : x ≠ a := fun he => by
          have := hxa i (by rw [he]; exact hg)
          rw [sub_testBit ha hg6 hg] at this
          simp at this
        have h2 : size x + 1 ≤ size (nbs R x b) := by
          refine Classical.byContradiction fun hlt => ht ⟨x, hx, hxa', hx0, hxne, by omega⟩
        have h3 : size (nbs R x b) ≤ size (nbs R x (b - 2 ^ t)) + 1 := by
          have hle : size (nbs R x b) ≤ size (nbs R x (b - 2 ^ t) ||| 2 ^ t) := by
            refine size_mono6 (nbs_lt _ _ _) (by
              have hp : 2 ^ t < 2 ^ 6 := Nat.pow_lt_pow_right (by omega) ht6
              have : nbs R x (b - 2 ^ t) ||| 2 ^ t < 2 ^ 6 := Nat.or_lt_two_pow (nbs_lt _ _ _) hp
              omega) fun j hj => ?_
            obtain ⟨a1, k, a2, a3⟩ := (nbs_testBit hx hb j).1 hj
            rw [or_testBit]
            by_cases hjt : j = t
            · exact .inr hjt
            · exact .inl ((nbs_testBit hx bb.1 j).2 ⟨by rw [sub_testBit hb ht6 hbt, a1]; simp [hjt], k, a2, a3⟩)
          rw [size_add (nbs_lt _ _ _) ht6 (not_true fun hcc => by
            have := ((nbs_testBit hx bb.1 t).1 hcc).1
            rw [sub_testBit hb ht6 hbt] at this; simp at this)] at hle
          exact hle
        omega)
      have ina : ∀ k, a.testBit k = true → k ≠ i → (a - 2 ^ i).testBit k = true := fun k hk hki => by rw [sub_testBit ha hg6 hg, hk]; simp [hki]
      have outb : ∀ k, a.testBit k = true → k ≠ i → f k ≠ t ∧ b.testBit (f k) = true := fun k hk hki => by
        have := (p k (ina k hk hki)).1
        rw [sub_testBit hb ht6 hbt, Bool.and_eq_true] at this
        exact ⟨by simpa using this.2, this.1⟩
      refine ⟨fun k => if k = i then t else f k, fun k hk => ?_, fun k j hk hj he => ?_⟩
      · by_cases hki : k = i
        · simp only [hki, if_true]; exact ⟨hbt, hR⟩
        · simp only [hki, if_false]; exact ⟨(outb k hk hki).2, (p k (ina k hk hki)).2⟩
      · by_cases hki : k = i
        · by_cases hji : j = i
          · rw [hki, hji]
          · simp only [hki, hji, if_true, if_false] at he
            exact absurd he.symm (outb j hj hji).1
        · by_cases hji : j = i
          · simp only [hki, hji, if_true, if_false] at he
            exact absurd he (outb k hk hki).1
          · simp only [hki, hji, if_false] at he
            exact q k j (ina k hk hki) (ina j hj hji) he
end Go.Proofs.Ytjaklmemllbeiaa
/- All guards move, for ever: plain facts. Conditions: those of each theorem. -/
namespace Go.Proofs.Ytjaklmemllbeiaa
set_option linter.unusedVariables false
set_option linter.unusedSimpArgs false

/-- The guards of one set can be at the places of another one, each staying or moving to a neighbour. -/
def AllMove (net : List Int) (a b : Nat) : Prop := size a = size b ∧ ∃ f : Nat → Nat, (∀ i, a.testBit i = true → b.testBit (f i) = true ∧ (ball net i).testBit (f i) = true) ∧ ∀ i j, a.testBit i = true → a.testBit j = true → f i = f j → i = j
theorem allMove_refl (net : List Int) (a : Nat) : AllMove net a a := ⟨rfl, fun i => i, fun i hi => ⟨hi, sees_self net i⟩, fun i j _ _ he => he⟩
/-- A family of sets that can answer each place by all moving. -/
def ClosedA (net : List Int) (F : Nat → Prop) : Prop := ∀ t, t < 2 ^ net.length → F t → ∀ k, k < net.length → t.testBit k = false → ∃ u, u < 2 ^ net.length ∧ u.testBit k = true ∧ AllMove net t u ∧ F u
def AllEternal (net : List Int) (s : Nat) : Prop := ∃ F, ClosedA net F ∧ F s
/-! ### No more than are apart -/
theorem allMove_union {net : List Int} (h : Ok net) {a b c : Nat} (ha : a < 2 ^ net.length) (hb : b < 2 ^ net.length) (hc : c < 2 ^ net.length) (hac : ∀ j, a.testBit j = true → c.testBit j = false) (hbc : ∀ j, b.testBit j = true → c.testBit j = false) {d : Nat} (hd : d < 2 ^ net.length) (had : ∀ j, b.testBit j = true → d.testBit j = false) (hm : AllMove net a b) (hm2 : AllMove net c d) : AllMove net (a ||| c) (b ||| d) := by
  obtain ⟨hz, f, hf, hi⟩ := hm
  obtain ⟨hz2, g, hg, hj⟩ := hm2
  refine ⟨by rw [size_disj (lt64 h ha) (lt64 h hc) hac, size_disj (lt64 h hb) (lt64 h hd) had]; omega, fun i => if a.testBit i = true then f i else g i, fun i hx => ?_, fun i j hx hy he => ?_⟩
  · cases hai : a.testBit i with
    | true => simp only [hai, if_true]; exact ⟨(or2 _ _ _).2 (.inl (hf i hai).1), (hf i hai).2⟩
    | false =>
      have hci : c.testBit i = true := by
        rcases (or2 _ _ _).1 hx with hh | hh
        · rw [hai] at hh; cases hh
        · exact hh
      simp only [hai, Bool.false_eq_true, if_false]; exact ⟨(or2 _ _ _).2 (.inr (hg i hci).1), (hg i hci).2⟩
  · have inc : ∀ k, (a ||| c).testBit k = true → a.testBit k = false → c.testBit k = true := fun k hk hn => by
      rcases (or2 _ _ _).1 hk with hh | hh
      · rw [hn] at hh; cases hh
      · exact hh
    cases hai : a.testBit i with
    | true =>
      cases haj : a.testBit j with
      | true => simp only [hai, haj, if_true] at he; exact hi i j hai haj he
      | false =>
        simp only [hai, haj, if_true, Bool.false_eq_true, if_false] at he
        have h1 := had _ (hf i hai).1
        rw [he, (hg j (inc j hy haj)).1] at h1; cases h1
    | false =>
      cases haj : a.testBit j with
      | true =>
        simp only [hai, haj, if_true, Bool.false_eq_true, if_false] at he
        have h1 := had _ (hf j haj).1
        rw [← he, (hg i (inc i hx hai)).1] at h1; cases h1
      | false => simp only [hai, haj, Bool.false_eq_true, if_false] at he; exact hj i j (inc i hx hai) (inc j hy haj) he
/-- From largest apart set to largest apart set all can move. -/
theorem allMove_apart {net : List Int} (h : Ok net) {u m a b : Nat} (hu : u < 2 ^ net.length) (hmax : ∀ x, x < 2 ^ net.length → (∀ j, x.testBit j = true → u.testBit j = true) → Apart net x → size x ≤ m)
    (ha : a < 2 ^ net.length) (hau : ∀ j, a.testBit j = true → u.testBit j = true) (hA : Apart net a) (haz : size a = m) (hb : b < 2 ^ net.length) (hbu : ∀ j, b.testBit j = true → u.testBit j = true) (hB : Apart net b) (hbz : size b = m) : AllMove net a b := by
  have h64 := h.pow
  refine ⟨by omega, ?_⟩
  have key : ∀ x, x < 64 → (∀ j, x.testBit j = true → a.testBit j = true) → size x ≤ size (nbs (fun i j => (ball net i).testBit j) x b) := by
    intro x hx hxa
    have hxl : x < 2 ^ net.length := by
      refine Classical.byContradiction fun hge => ?_
      have hle := Nat.ge_of_not_lt hge
      have : ∃ j, net.length ≤ j ∧ x.testBit j = true := by
        obtain ⟨j, hj1, hj2⟩ := Nat.exists_ge_and_testBit_of_ge_two_pow hle
        exact ⟨j, hj1, hj2⟩
      obtain ⟨j, hj1, hj2⟩ := this
      have := in_lt ha (hxa j hj2)
      omega
    have hnl := nbs_lt (fun i j => (ball net i).testBit j) x b
    have hnb := fun j => nbs_testBit (R := fun i j => (ball net i).testBit j) hx (lt64 h hb) j
    have hdl : minus b (nbs (fun i j => (ball net i).testBit j) x b) < 2 ^ net.length := Nat.lt_of_le_of_lt Nat.and_le_left hb
    have hd := fun j => diff_testBit (lt64 h hb) hnl j
    have hdis : ∀ j, (minus b (nbs (fun i j => (ball net i).testBit j) x b)).testBit j = true → x.testBit j = false := fun j hj => not_true fun hc => by
      obtain ⟨h1, h2⟩ := (hd j).1 hj
      rw [(hnb j).2 ⟨h1, j, hc, sees_self net j⟩] at h2; cases h2
    have hcross : ∀ i j, x.testBit i = true → (minus b (nbs (fun i j => (ball net i).testBit j) x b)).testBit j = true → (nb net i).testBit j = false := fun i j hi hj => not_true fun hc => by
      obtain ⟨h1, h2⟩ := (hd j).1 hj
      rw [(hnb j).2 ⟨h1, i, hi, (ball_testBit _ _ _).2 (.inl hc)⟩] at h2; cases h2
    have hU : Apart net (minus b (nbs (fun i j => (ball net i).testBit j) x b) ||| x) := fun i j hi hj => by
      rcases (or2 _ _ _).1 hi with hi | hi <;> rcases (or2 _ _ _).1 hj with hj | hj
      · exact hB i j ((hd i).1 hi).1 ((hd j).1 hj).1
      · rw [h.sym j i (in_lt hxl hj) (in_lt hdl hi)]; exact hcross j i hj hi
      · exact hcross i j hi hj
      · exact hA i j (hxa i hi) (hxa j hj)
    have h1 := hmax _ (Nat.or_lt_two_pow hdl hxl) (fun j hj => by
      rcases (or2 _ _ _).1 hj with hj | hj
      · exact hbu j ((hd j).1 hj).1
      · exact hau j (hxa j hj)) hU
    rw [size_disj (lt64 h hdl) hx hdis] at h1
    have h2 := size_diff (lt64 h hb) hnl (fun j hj => ((hnb j).1 hj).1)
    omega
  obtain ⟨f, p, q⟩ := hall (fun i j => (ball net i).testBit j) 6 a b (lt64 h ha) (lt64 h hb) (size_le a) key
  exact ⟨f, p, q⟩
theorem size_one {k : Nat} (hk : k < 6) : size (2 ^ k) = 1 := by
  have := size_add (s := 0) (k := k) (by omega) hk (Nat.zero_testBit k)
  rw [Nat.zero_or] at this
  rw [this]; decide
/-- Within any set of places: a family with no more guards than are apart in it. -/
theorem family {net : List Int} (h : Ok net) : ∀ c u, size u ≤ c → u < 2 ^ net.length → ∀ m, (∀ x, x < 2 ^ net.length → (∀ j, x.testBit j = true → u.testBit j = true) → Apart net x → size x ≤ m) →
    ∃ F : Nat → Prop, (∃ s, F s) ∧ (∀ t, F t → t < 2 ^ net.length ∧ (∀ j, t.testBit j = true → u.testBit j = true) ∧ size t ≤ m) ∧
      ∀ t, F t → ∀ k, u.testBit k = true → t.testBit k = false → ∃ v, v.testBit k = true ∧ AllMove net t v ∧ F v := by
  have h6 := h.hi
  intro c
  induction c with
  | zero =>
    intro u hc hu m hm
    have hu0 := size_zero (lt64 h hu) (by omega)
    subst hu0
    refine ⟨fun t => t = 0, ⟨0, rfl⟩, fun t ht => ?_, fun t _ k hk => by rw [Nat.zero_testBit] at hk; cases hk⟩
    subst ht
    have : size 0 = 0 := by decide
    exact ⟨hu, fun j hj => hj, by omega⟩
  | succ c ih =>
    intro u hc hu m hm
    -- the most that are apart in u
    have hmx : ∃ M, M ≤ m ∧ (∃ x, x < 2 ^ net.length ∧ (∀ j, x.testBit j = true → u.testBit j = true) ∧ Apart net x ∧ size x = M) ∧ ∀ x, x < 2 ^ net.length → (∀ j, x.testBit j = true → u.testBit j = true) → Apart net x → size x ≤ M := by
      have hex : ∀ d, d ≤ m → (∃ x, x < 2 ^ net.length ∧ (∀ j, x.testBit j = true → u.testBit j = true) ∧ Apart net x ∧ m - d ≤ size x) → ∃ M, M ≤ m ∧ (∃ x, x < 2 ^ net.length ∧ (∀ j, x.testBit j = true → u.testBit j = true) ∧ Apart net x ∧ size x = M) ∧ ∀ x, x < 2 ^ net.length → (∀ j, x.testBit j = true → u.testBit j = true) → Apart net x → size x ≤ M := by
        intro d
        induction d with
        | zero =>
          rintro _ ⟨x, a, b, e, f⟩
          have := hm x a b e
          exact ⟨m, Nat.le_refl _, ⟨x, a, b, e, by omega⟩, hm⟩
        | succ d ihd =>
          rintro hd ⟨x, a, b, e, f⟩
          by_cases hy : ∃ y, y < 2 ^ net.length ∧ (∀ j, y.testBit j = true → u.testBit j = true) ∧ Apart net y ∧ m - d ≤ size y
          · exact ihd (by omega) hy
          · have hno : ∀ y, y < 2 ^ net.length → (∀ j, y.testBit j = true → u.testBit j = true) → Apart net y → size y ≤ m - (d + 1) := fun y p q r => by
              refine Classical.byContradiction fun hlt => hy ⟨y, p, q, r, by omega⟩
            have := hno x a b e
            exact ⟨m - (d + 1), by omega, ⟨x, a, b, e, by omega⟩, hno⟩
      refine hex m (Nat.le_refl _) ⟨0, Nat.two_pow_pos _, fun j hj => (by rw [Nat.zero_testBit] at hj; cases hj), Apart.zero net, by omega⟩
    obtain ⟨M, hMm, ⟨x0, x0l, x0u, x0A, x0z⟩, hM⟩ := hmx
    by_cases hcov : ∀ v, u.testBit v = true → ∃ x, x < 2 ^ net.length ∧ (∀ j, x.testBit j = true → u.testBit j = true) ∧ Apart net x ∧ size x = M ∧ x.testBit v = true
    · -- all largest apart sets
      refine ⟨fun t => t < 2 ^ net.length ∧ (∀ j, t.testBit j = true → u.testBit j = true) ∧ Apart net t ∧ size t = M, ⟨x0, x0l, x0u, x0A, x0z⟩, fun t ⟨a, b, _, d⟩ => ⟨a, b, by omega⟩, fun t ⟨a, b, e, d⟩ k hk hb => ?_⟩
      obtain ⟨y, y1, y2, y3, y4, y5⟩ := hcov k hk
      exact ⟨y, y5, allMove_apart h hu hM a b e d y1 y2 y3 y4, y1, y2, y3, y4⟩
    · -- a place that is in none: it and its neighbours take two
      have : ∃ v, u.testBit v = true ∧ ∀ x, x < 2 ^ net.length → (∀ j, x.testBit j = true → u.testBit j = true) → Apart net x → x.testBit v = true → size x + 1 ≤ M := by
        refine Classical.byContradiction fun hno => hcov fun v hv => Classical.byContradiction fun hno2 => hno ⟨v, hv, fun x p q r s => ?_⟩
        have h1 := hM x p q r
        refine Classical.byContradiction fun hlt => hno2 ⟨x, p, q, r, by omega, s⟩
      obtain ⟨v, hv, hvn⟩ := this
      have hvl := in_lt hu hv
      have hbl := h.ball_lt hvl
      have hul : minus u (ball net v) < 2 ^ net.length := Nat.lt_of_le_of_lt Nat.and_le_left hu
      have hub : ∀ j, (minus u (ball net v)).testBit j = true ↔ u.testBit j = true ∧ (ball net v).testBit j = false := fun j => diff_testBit (lt64 h hu) (lt64 h hbl) j
      -- fewer are apart there
      have hless : ∀ x, x < 2 ^ net.length → (∀ j, x.testBit j = true → (minus u (ball net v)).testBit j = true) → Apart net x → size x + 2 ≤ M := fun x p q r => by
        have hxv : x.testBit v = false := not_true fun hcc => by
          have := ((hub v).1 (q v hcc)).2
          rw [sees_self] at this; cases this
        have hA := r.add h p hvl (fun j hj => not_true fun hcc => by
          have := ((hub j).1 (q j hj)).2
          rw [(ball_testBit _ _ _).2 (.inl hcc)] at this; cases this)
        have h1 := hvn (x ||| 2 ^ v) (or_lt p hvl) (fun j hj => by
          rcases (or_testBit _ _ _).1 hj with hj | rfl
          · exact ((hub j).1 (q j hj)).1
          · exact hv) hA ((or_testBit _ _ _).2 (.inr rfl))
        rw [size_add (lt64 h p) (by omega) hxv] at h1
        omega
      have hM2 : 2 ≤ M := by
        have := hless 0 (Nat.two_pow_pos _) (fun j hj => by rw [Nat.zero_testBit] at hj; cases hj) (Apart.zero net)
        omega
      -- a neighbour in u
      have hnbr : ∃ y, u.testBit y = true ∧ (nb net v).testBit y = true := by
        refine Classical.byContradiction fun hno => ?_
        have hA := x0A.add h x0l hvl (fun j hj => not_true fun hcc => hno ⟨j, x0u j hj, hcc⟩)
        have h1 := hvn (x0 ||| 2 ^ v) (or_lt x0l hvl) (fun j hj => by
          rcases (or_testBit _ _ _).1 hj with hj | rfl
          · exact x0u j hj
          · exact hv) hA ((or_testBit _ _ _).2 (.inr rfl))
        have h2 : size x0 ≤ size (x0 ||| 2 ^ v) := size_mono6 (lt64 h x0l) (lt64 h (or_lt x0l hvl)) fun j hj => (or_testBit _ _ _).2 (.inl hj)
        omega
      obtain ⟨y0, hy0u, hy0⟩ := hnbr
      have hsz : size (minus u (ball net v)) ≤ c := by
        have h1 : size (minus u (ball net v)) + 1 ≤ size u := by
          have hvb : (minus u (ball net v)).testBit v = false := not_true fun hcc => by
            have := ((hub v).1 hcc).2
            rw [sees_self] at this; cases this
          rw [← size_add (lt64 h hul) (k := v) (by omega) hvb]
          refine size_mono6 (lt64 h (or_lt hul hvl)) (lt64 h hu) fun j hj => ?_
          rcases (or_testBit _ _ _).1 hj with hj | rfl
          · exact ((hub j).1 hj).1
          · exact hv
        omega
      obtain ⟨F, ⟨s0, hs0⟩, hF, hcl⟩ := ih (minus u (ball net v)) hsz hul (M - 2) (fun x p q r => by have := hless x p q r; omega)
      -- the pairs of the place and a neighbour
      have pl : ∀ y, y < net.length → 2 ^ v ||| 2 ^ y < 2 ^ net.length := fun y hy => or_lt (Nat.pow_lt_pow_right (by omega) hvl) hy
      have pb : ∀ y j, (2 ^ v ||| 2 ^ y).testBit j = true ↔ j = v ∨ j = y := fun y j => by
        rw [or_testBit, testBit_pow, decide_eq_true_eq]
        exact ⟨fun hh => hh.elim (fun e => .inl e.symm) .inr, fun hh => hh.elim (fun e => .inl e.symm) .inr⟩
      have pz : ∀ y, y < net.length → y ≠ v → size (2 ^ v ||| 2 ^ y) = 2 := fun y hy hne => by
        have hpv : 2 ^ v < 64 := lt64 h (Nat.pow_lt_pow_right (by omega) hvl)
        rw [size_add hpv (by omega) (by rw [testBit_pow]; simp; omega), size_one (by omega)]
      have yne : ∀ y, (nb net v).testBit y = true → y ≠ v := fun y hy he => by rw [he, h.irr v hvl] at hy; cases hy
      have apart2 : ∀ t, F t → ∀ y, (nb net v).testBit y = true → ∀ j, t.testBit j = true → (2 ^ v ||| 2 ^ y).testBit j = false := fun t ht y hy j hj => not_true fun hcc => by
        have h1 := ((hub j).1 ((hF t ht).2.1 j hj)).2
        rcases (pb y j).1 hcc with e | e
        · rw [e, sees_self] at h1; cases h1
        · rw [e, (ball_testBit _ _ _).2 (.inl hy)] at h1; cases h1
      refine ⟨fun q => ∃ t y, F t ∧ u.testBit y = true ∧ (nb net v).testBit y = true ∧ q = t ||| (2 ^ v ||| 2 ^ y), ⟨_, s0, y0, hs0, hy0u, hy0, rfl⟩, ?_, ?_⟩
      · rintro _ ⟨t, y, ht, hyu, hy, rfl⟩
        obtain ⟨t1, t2, t3⟩ := hF t ht
        have hyl := h.nb_lt hvl hy
        refine ⟨Nat.or_lt_two_pow t1 (pl y hyl), fun j hj => ?_, ?_⟩
        · rcases (or2 _ _ _).1 hj with hj | hj
          · exact ((hub j).1 (t2 j hj)).1
          · rcases (pb y j).1 hj with e | e
            · rw [e]; exact hv
            · rw [e]; exact hyu
        · rw [size_disj (lt64 h t1) (lt64 h (pl y hyl)) (apart2 t ht y hy), pz y hyl (yne y hy)]; omega
      · rintro _ ⟨t, y, ht, hyu, hy, rfl⟩ k hk hb
        obtain ⟨t1, t2, t3⟩ := hF t ht
        have hyl := h.nb_lt hvl hy
        have hkl := in_lt hu hk
        cases hkb : (ball net v).testBit k with
        | false =>
          -- the others answer
          have htk : t.testBit k = false := not_true fun hcc => by rw [(or2 _ _ _).2 (.inl hcc)] at hb; cases hb
          obtain ⟨w, w1, w2, w3⟩ := hcl t ht k ((hub k).2 ⟨hk, hkb⟩) htk
          exact ⟨w ||| (2 ^ v ||| 2 ^ y), (or2 _ _ _).2 (.inl w1), allMove_union h t1 (hF w w3).1 (pl y hyl) (apart2 t ht y hy) (apart2 w w3 y hy) (pl y hyl) (apart2 w w3 y hy) w2 (allMove_refl net _), w, y, w3, hyu, hy, rfl⟩
        | true =>
          -- the two of them answer
          have hkv : k ≠ v := fun he => by rw [he, (or2 _ _ _).2 (.inr ((pb y v).2 (.inl rfl)))] at hb; cases hb
          have hky : k ≠ y := fun he => by rw [he, (or2 _ _ _).2 (.inr ((pb y y).2 (.inr rfl)))] at hb; cases hb
          have hkn : (nb net v).testBit k = true := by
            rcases (ball_testBit _ _ _).1 hkb with e | e
            · exact e
            · exact absurd e.symm hkv
          have hmv : AllMove net (2 ^ v ||| 2 ^ y) (2 ^ v ||| 2 ^ k) := by
            refine ⟨by rw [pz y hyl (yne y hy), pz k hkl hkv], fun i => if i = y then v else k, fun i hi => ?_, fun i j hi hj he => ?_⟩
            · by_cases hiy : i = y
              · simp only [hiy, if_true]
                exact ⟨(pb k v).2 (.inl rfl), (ball_testBit _ _ _).2 (.inl (by rw [h.sym v y hvl hyl]; exact hy))⟩
              · simp only [hiy, if_false]
                have hiv : i = v := by
                  rcases (pb y i).1 hi with e | e
                  · exact e
                  · exact absurd e hiy
                rw [hiv]
                exact ⟨(pb k k).2 (.inr rfl), (ball_testBit _ _ _).2 (.inl hkn)⟩
            · by_cases hiy : i = y <;> by_cases hjy : j = y
              · rw [hiy, hjy]
              · simp only [hiy, hjy, if_true, if_false] at he; exact absurd he.symm hkv
              · simp only [hiy, hjy, if_true, if_false] at he; exact absurd he hkv
              · rcases (pb y i).1 hi with e | e
                · rcases (pb y j).1 hj with e2 | e2
                  · rw [e, e2]
                  · exact absurd e2 hjy
                · exact absurd e hiy
          exact ⟨t ||| (2 ^ v ||| 2 ^ k), (or2 _ _ _).2 (.inr ((pb k k).2 (.inr rfl))), allMove_union h t1 t1 (pl y hyl) (apart2 t ht y hy) (apart2 t ht y hy) (pl k hkl) (apart2 t ht k hkn) (allMove_refl net _) hmv, t, k, ht, hk, hkn, rfl⟩
end Go.Proofs.Ytjaklmemllbeiaa
/- All guards move over a joined watch: one more guard than stand together. Conditions: those of each theorem. -/
namespace Go.Proofs.Ytjaklmemllbeiaa
set_option linter.unusedVariables false
set_option linter.unusedSimpArgs false

/-- The way from a towards r by parents. -/
def wayTo (p : Nat → Nat) (r a : Nat) : Nat → Nat
  | 0 => a
  | i + 1 => if wayTo p r a i = r then r else p (wayTo p r a i)
theorem shift {net : List Int} (h : Ok net) {s : Nat} (hs : s < 2 ^ net.length) (hT : Together net s) {v w a b : Nat} (hv : v < net.length) (hvs : s.testBit v = false) (hw : w < net.length) (hws : s.testBit w = false)
    (ha : s.testBit a = true) (hva : (nb net v).testBit a = true) (hb : s.testBit b = true) (hbw : (nb net b).testBit w = true) : AllMove net (s ||| 2 ^ v) (s ||| 2 ^ w) := by
  have h6 := h.hi
  obtain ⟨lv, p, hl0, hp⟩ := steps_lvl h hs hb hT
  let q := wayTo p b a
  have q0 : q 0 = a := rfl
  have qs : ∀ i, q (i + 1) = if q i = b then b else p (q i) := fun i => rfl
  have qin : ∀ i, s.testBit (q i) = true := by
    intro i
    induction i with
    | zero => exact ha
    | succ i ih =>
      rw [qs]
      split
      · exact hb
      · rename_i hne; exact (hp _ ih hne).1
  have qlv : ∀ i, lv (q (i + 1)) ≤ lv (q i) := fun i => by
    rw [qs]
    split
    · rw [hl0]; exact Nat.zero_le _
    · rename_i hne; exact Nat.le_of_lt (hp _ (qin i) hne).2.2.1
  have qmono : ∀ i j, i ≤ j → lv (q j) ≤ lv (q i) := by
    intro i j hij
    induction j with
    | zero => obtain rfl : i = 0 := by omega
              exact Nat.le_refl _
    | succ j ih =>
      by_cases he : i = j + 1
      · rw [he]; exact Nat.le_refl _
      · exact Nat.le_trans (qlv j) (ih (by omega))
  have hvb : ∀ x, (s ||| 2 ^ v).testBit x = true ↔ s.testBit x = true ∨ x = v := fun x => or_testBit _ _ _
  have hwb : ∀ x, (s ||| 2 ^ w).testBit x = true ↔ s.testBit x = true ∨ x = w := fun x => or_testBit _ _ _
  -- on the way or not
  let f : Nat → Nat := fun x => if x = v then a else @ite _ (∃ i, q i = x) (Classical.propDecidable _) (if x = b then w else p x) x
  have f1 : ∀ x, x = v → f x = a := fun x hx => by show (if x = v then _ else _) = _; rw [if_pos hx]
  have f2 : ∀ x, x ≠ v → (∃ i, q i = x) → x = b → f x = w := fun x hx hi he => by show (if x = v then _ else _) = _; rw [if_neg hx, if_pos hi, if_pos he]
  have f3 : ∀ x, x ≠ v → (∃ i, q i = x) → x ≠ b → f x = p x := fun x hx hi he => by show (if x = v then _ else _) = _; rw [if_neg hx, if_pos hi, if_neg he]
  have f4 : ∀ x, x ≠ v → (¬ ∃ i, q i = x) → f x = x := fun x hx hi => by show (if x = v then _ else _) = _; rw [if_neg hx, if_neg hi]
  have sv : ∀ x, s.testBit x = true → x ≠ v := fun x hx he => by rw [he, hvs] at hx; cases hx
  have sw : ∀ x, s.testBit x = true → x ≠ w := fun x hx he => by rw [he, hws] at hx; cases hx
  have pway : ∀ x, (∃ i, q i = x) → x ≠ b → ∃ i, q i = p x := fun x ⟨i, hi⟩ hne => ⟨i + 1, by rw [qs, hi, if_neg hne]⟩
  refine ⟨?_, f, fun x hx => ?_, fun x y hx hy he => ?_⟩
  · rw [size_add (lt64 h hs) (by omega) hvs, size_add (lt64 h hs) (by omega) hws]
  · rcases (hvb x).1 hx with hx | hx
    · by_cases hi : ∃ i, q i = x
      · by_cases hxb : x = b
        · rw [f2 x (sv x hx) hi hxb, hxb]
          exact ⟨(hwb w).2 (.inr rfl), (ball_testBit _ _ _).2 (.inl hbw)⟩
        · rw [f3 x (sv x hx) hi hxb]
          obtain ⟨c, d, _⟩ := hp x hx hxb
          exact ⟨(hwb _).2 (.inl c), (ball_testBit _ _ _).2 (.inl d)⟩
      · rw [f4 x (sv x hx) hi]
        exact ⟨(hwb x).2 (.inl hx), sees_self net x⟩
    · rw [f1 x hx, hx]
      exact ⟨(hwb a).2 (.inl ha), (ball_testBit _ _ _).2 (.inl hva)⟩
  · -- no two go to one place
    have key : ∀ x y, s.testBit x = true → s.testBit y = true → f x = f y → x = y := by
      intro x y hx hy he
      by_cases hi : ∃ i, q i = x
      · by_cases hxb : x = b
        · rw [f2 x (sv x hx) hi hxb] at he
          by_cases hj : ∃ i, q i = y
          · by_cases hyb : y = b
            · rw [hxb, hyb]
            · rw [f3 y (sv y hy) hj hyb] at he
              exact absurd he.symm (sw _ (hp y hy hyb).1)
          · rw [f4 y (sv y hy) hj] at he
            exact absurd he.symm (sw _ hy)
        · rw [f3 x (sv x hx) hi hxb] at he
          by_cases hj : ∃ i, q i = y
          · by_cases hyb : y = b
            · rw [f2 y (sv y hy) hj hyb] at he
              exact absurd he (sw _ (hp x hx hxb).1)
            · rw [f3 y (sv y hy) hj hyb] at he
              obtain ⟨i, hi⟩ := hi
              obtain ⟨j, hj⟩ := hj
              have e1 : q (i + 1) = p x := by rw [qs, hi, if_neg hxb]
              have e2 : q (j + 1) = p y := by rw [qs, hj, if_neg hyb]
              have l1 := (hp x hx hxb).2.2.1
              have l2 := (hp y hy hyb).2.2.1
              rcases Nat.lt_trichotomy i j with hlt | heq | hgt
              · have := qmono (i + 1) j (by omega)
                rw [e1, hj, he] at this; omega
              · rw [← hi, ← hj, heq]
              · have := qmono (j + 1) i (by omega)
                rw [e2, hi, ← he] at this; omega
          · rw [f4 y (sv y hy) hj] at he
            exact absurd (he ▸ pway x hi hxb) hj
      · rw [f4 x (sv x hx) hi] at he
        by_cases hj : ∃ i, q i = y
        · by_cases hyb : y = b
          · rw [f2 y (sv y hy) hj hyb] at he
            exact absurd he (sw _ hx)
          · rw [f3 y (sv y hy) hj hyb] at he
            exact absurd (he ▸ pway y hj hyb) hi
        · rw [f4 y (sv y hy) hj] at he; exact he
    have keyv : ∀ y, s.testBit y = true → f y ≠ a := by
      intro y hy he
      by_cases hj : ∃ i, q i = y
      · by_cases hyb : y = b
        · rw [f2 y (sv y hy) hj hyb] at he
          exact sw a ha he.symm
        · rw [f3 y (sv y hy) hj hyb] at he
          obtain ⟨j, hj⟩ := hj
          have l2 := (hp y hy hyb).2.2.1
          have := qmono 0 j (Nat.zero_le _)
          rw [q0, hj] at this
          rw [he] at l2
          omega
      · rw [f4 y (sv y hy) hj] at he
        exact hj ⟨0, by rw [q0, he]⟩
    rcases (hvb x).1 hx with hx | hx <;> rcases (hvb y).1 hy with hy | hy
    · exact key x y hx hy he
    · rw [f1 y hy] at he; exact absurd he (keyv x hx)
    · rw [f1 x hx] at he; exact absurd he.symm (keyv y hy)
    · rw [hx, hy]
end Go.Proofs.Ytjaklmemllbeiaa
/- Lists of watches, counts of watches, thinned watches. Conditions: those of each theorem. -/
namespace Go.Proofs.Ytjaklmemllbeiaa
open D Go.RowKit
set_option linter.unusedVariables false
set_option linter.unusedSimpArgs false


theorem small_of {n : Nat} (h : n ≤ 1000000) : small n = true := by unfold small; rw [decide_eq_true_eq]; omega
/-- All numbers below N of a kind. -/
def listOfN (N : Nat) (p : Nat → Bool) : List Int := fold N (fun l s => if p s = true then l ++ [(s : Int)] else l) []
/-- How many watches there are of each number of places. -/
def counts (net : List Int) : List Int := fold (2 ^ net.length) (fun l s => if W net s = true then l.set (size s) (D.eli l (size s) + 1) else l) (List.replicate (net.length + 1) 0)
theorem eli_set {l : List Int} {a b : Nat} {v : Int} (ha : a < l.length) : D.eli (l.set a v) b = if a = b then v else D.eli l b := by
  unfold D.eli
  by_cases h : a = b
  · subst h; simp [List.getD, ha]
  · simp [List.getD, List.getElem?_set_ne h, h]
theorem eli_rep (n k : Nat) : D.eli (List.replicate n 0) k = 0 := by
  unfold D.eli
  by_cases h : k < n <;> simp [List.getD, h]
/-- The bounds of the counts on the way. -/
def CInv (net : List Int) (k : Nat) (t : List Int) : Prop := t.length = net.length + 1 ∧ ∀ j, 0 ≤ D.eli t j ∧ D.eli t j ≤ k
theorem CInv.step {net : List Int} (h : Ok net) {k : Nat} {t : List Int} (hk : k < 2 ^ net.length) (ht : CInv net k t) : CInv net (k + 1) (if W net k = true then t.set (size k) (D.eli t (size k) + 1) else t) := by
  have hz := size_le_len h hk
  split
  · refine ⟨by rw [List.length_set]; exact ht.1, fun j => ?_⟩
    rw [eli_set (by rw [ht.1]; omega)]
    have h1 := ht.2 j
    have h2 := ht.2 (size k)
    split <;> omega
  · exact ⟨ht.1, fun j => by have := ht.2 j; omega⟩
theorem CInv.zero (net : List Int) : CInv net 0 (List.replicate (net.length + 1) 0) := ⟨by simp, fun j => by rw [eli_rep]; omega⟩
/-- What is left of a watch. -/
def thinStep (net : List Int) (t p : Nat) : Nat := if (t.testBit p && W net (t - 2 ^ p)) = true then t - 2 ^ p else t
def thin (net : List Int) (s : Nat) : Nat := fold net.length (fun t k => thinStep net t (net.length - 1 - k)) s
end Go.Proofs.Ytjaklmemllbeiaa
/- What the exact laws need of rows that are marked. Conditions: those of each theorem. -/
namespace Go.Proofs.Ytjaklmemllbeiaa
open D Go.RowKit
set_option linter.unusedVariables false
set_option linter.unusedSimpArgs false


theorem eli_set2 {l : List Int} {a b : Nat} {v : Int} (ha : a < l.length) : D.eli (l.set a v) b = if a = b then v else D.eli l b := by
  unfold D.eli
  by_cases h : a = b
  · subst h; simp [List.getD, ha]
  · simp [List.getD, List.getElem?_set_ne h, h]
theorem L.markIntS_is {a : List Int} {k0 : Nat} (ha : a.length ≤ 3000000) (hk0 : k0 ≤ 3000000) : ∃ m : List Int, L.markIntS_t a k0 = some (((k0 + a.length : Nat) : Int), m) ∧ m.length = a.length ∧ ∀ j, j < a.length → D.eli m j = ((k0 + j : Nat) : Int) := by
  unfold L.markIntS_t L.markIntS_tree
  have := run_for (run := L.markIntS_run2) (len := a.length) (fun k (t : List Int) => (((k0 + k : Nat) : Int), (k : Int), t)) (fun t k => t.set k ((k0 + k : Nat) : Int)) (fun t => (((k0 + a.length : Nat) : Int), t)) (fun k t => t.length = a.length ∧ ∀ j, j < k → D.eli t j = ((k0 + j : Nat) : Int)) (by omega) (fun n k t hk ht => ?_) (fun n t ht => ?_) (t0 := a) ⟨rfl, fun j hj => by omega⟩
  · refine ⟨_, ?_, this.2.1, this.2.2⟩
    exact congrArg (fun o => optC o (fun q => some (q.1, q.2)) none) this.1
  · refine ⟨?_, by rw [List.length_set]; exact ht.1, fun j hj => ?_⟩
    · simp only [L.markIntS_run2, L.markIntS_step2]
      have := ht.1
      rw [cnd_t (by simp; omega), cnd_t (by simp; omega), cnd_t (by simp; omega), Int.toNat_natCast, add1_nat (by omega), add1_nat (by omega)]
      rfl
    · rw [eli_set2 (by rw [ht.1]; exact hk)]
      by_cases hkj : k = j
      · rw [if_pos hkj, hkj]
      · rw [if_neg hkj]; exact ht.2 j (by omega)
  · simp only [L.markIntS_run2, L.markIntS_step2]
    rw [cnd_f (by simp; omega)]
theorem L.heldIntS_is {m : List Int} (ha : m.length ≤ 3000000) (hm : ∀ j, j < m.length → D.eli m j = ((1 + j : Nat) : Int)) : L.heldIntS_t m 1 = some ((1 + m.length : Nat) : Int) := by
  unfold L.heldIntS_t L.heldIntS_tree
  have := (run_for (run := L.heldIntS_run2 m) (len := m.length) (fun k (t : Unit) => (((1 + k : Nat) : Int), (k : Int))) (fun t k => ()) (fun t => Sum.inr (((1 + m.length : Nat) : Int))) (fun k t => True) (by omega) (fun n k t hk ht => ?_) (fun n t ht => ?_) (t0 := ()) trivial).1
  · exact congrArg (fun o => optC o (fun q => sumC q (fun q => some q.2) (fun q => some q)) none) this
  · refine ⟨?_, trivial⟩
    simp only [L.heldIntS_run2, L.heldIntS_step2]
    rw [cnd_t (by simp; omega), cnd_t (by simp; omega), Int.toNat_natCast, hm k hk, cnd_f (by simp), add1_nat (by omega), add1_nat (by omega)]
    rfl
  · simp only [L.heldIntS_run2, L.heldIntS_step2]
    rw [cnd_f (by simp)]
/-- A row marked and held. -/
theorem L.marked {v : List Int} (hv : v.length ≤ 2000000) : ∃ m : List Int, L.markIntS_t v 1 = some (((1 + v.length : Nat) : Int), m) ∧ L.heldIntS_t m 1 = some ((1 + v.length : Nat) : Int) := by
  obtain ⟨m, h1, h2, h3⟩ := L.markIntS_is (a := v) (k0 := 1) (by omega) (by omega)
  refine ⟨m, h1, ?_⟩
  rw [← h2]
  exact L.heldIntS_is (by omega) (by rw [h2]; exact h3)
theorem neg_nat (a : Nat) : decide ((a : Int) < 0) = false := by rw [decide_eq_false_iff_not]; omega
theorem not_beq_self (a : Nat) : (!((a : Int) == (a : Int))) = false := by simp
end Go.Proofs.Ytjaklmemllbeiaa
/- The exact laws of chapter 2. Conditions: those of each theorem. -/
namespace Go.Proofs.Ytjaklmemllbeiaa
open D Go.RowKit
set_option linter.unusedVariables false
set_option linter.unusedSimpArgs false


end Go.Proofs.Ytjaklmemllbeiaa
/- The model's functions of chapters 3 to 5 in natural numbers. Conditions: those of each theorem. -/
namespace Go.Proofs.Ytjaklmemllbeiaa
open D Go.RowKit
set_option linter.unusedVariables false
set_option linter.unusedSimpArgs false


/-- The answers that are told for any argument. -/
def privI (net : List Int) (s g : Int) : Int := if (0 ≤ s ∧ s < 2 ^ net.length) ∧ (0 ≤ g ∧ g < net.length) ∧ s.toNat.testBit g.toNat = true then ((priv net s.toNat g.toNat : Nat) : Int) else -1
def twiceI (net : List Int) (s : Int) : Int := if 0 ≤ s ∧ s < 2 ^ net.length then ((twice net s.toNat : Nat) : Int) else -1
def grownI (net : List Int) (s : Int) : Int := if (0 ≤ s ∧ s < 2 ^ net.length) ∧ apart net s.toNat = true then ((grown net s.toNat : Nat) : Int) else -1
def chain (net : List Int) : List Int := [((minSize net (fullN net) : Nat) : Int), ((fewest net : Nat) : Int), ((minSize net (fullA net) : Nat) : Int), ((maxSize net (apart net) : Nat) : Int), ((maxSize net (least net) : Nat) : Int), ((maxSize net (needs net) : Nat) : Int)]
end Go.Proofs.Ytjaklmemllbeiaa
/- What the draws give: nets of at most six places, sets and places within bounds. Conditions: those of each theorem. -/
namespace Go.Proofs.Ytjaklmemllbeiaa
open D Go.RowKit
set_option linter.unusedVariables false
set_option linter.unusedSimpArgs false


theorem I.NetOk_12 : I.NetOk_t [2, 1] = some true := by rw [I.NetOk_is]; decide +kernel
theorem I.NetOk_1 : I.NetOk_t [1] = some false := by rw [I.NetOk_is]; decide +kernel
theorem L.alive_is : L.alive_t = some true := by
  unfold L.alive_t L.alive_tree
  rw [I.NetOk_12, I.NetOk_1]
  rfl
/-! ### The draws of the laws -/
end Go.Proofs.Ytjaklmemllbeiaa
/- Draws that use watches; lists of all numbers of a kind. Conditions: those of each theorem. -/
namespace Go.Proofs.Ytjaklmemllbeiaa
open D Go.RowKit
set_option linter.unusedVariables false
set_option linter.unusedSimpArgs false


end Go.Proofs.Ytjaklmemllbeiaa
/- Draws of chapters 3 to 5. Conditions: those of each theorem. -/
namespace Go.Proofs.Ytjaklmemllbeiaa
open D Go.RowKit
set_option linter.unusedVariables false
set_option linter.unusedSimpArgs false


end Go.Proofs.Ytjaklmemllbeiaa
/- The model's functions of chapter 6 in natural numbers, and draws. Conditions: those of each theorem. -/
namespace Go.Proofs.Ytjaklmemllbeiaa
open D Go.RowKit
set_option linter.unusedVariables false
set_option linter.unusedSimpArgs false


/-- The least size of sets of a kind; -1 if there is none. -/
def minStep (p : Nat → Bool) (t : Int) (s : Nat) : Int := if p s = true then (if t < 0 then ((size s : Nat) : Int) else if ((size s : Nat) : Int) < t then ((size s : Nat) : Int) else t) else t
def minI (net : List Int) (p : Nat → Bool) : Int := fold (2 ^ net.length) (minStep p) (-1)
/-- Does a set stand together? -/
noncomputable def together (net : List Int) (s : Nat) : Bool := @decide (Together net s) (Classical.propDecidable _)
noncomputable def joined (net : List Int) (s : Nat) : Bool := together net s && W net s
end Go.Proofs.Ytjaklmemllbeiaa
/- MostLeaves of the model. Conditions: those of each theorem. -/
namespace Go.Proofs.Ytjaklmemllbeiaa
open D Go.RowKit
set_option linter.unusedVariables false
set_option linter.unusedSimpArgs false


def wl (L : List (Nat × Nat)) : List (List Int) := L.map fun p => [(p.1 : Int), (p.2 : Int)]
theorem wl_len (L : List (Nat × Nat)) : (wl L).length = L.length := by simp [wl]
theorem wl_app (L : List (Nat × Nat)) (a b : Nat) : wl (L ++ [(a, b)]) = wl L ++ [[(a : Int), (b : Int)]] := by simp [wl]
theorem wl_at {L : List (Nat × Nat)} {i : Nat} (hi : i < L.length) : D.elr (wl L) i = [((pt L i).1 : Int), ((pt L i).2 : Int)] := by
  unfold D.elr wl pt
  simp [List.getD, hi]
theorem S.l6Wires_n {net : List Int} (h : Ok net) : S.l6Wires_t net = some (wl (pairs net)) := by
  unfold S.l6Wires_t S.l6Wires_tree
  have h6 := h.hi
  have := (run_for (run := S.l6Wires_run3 net) (len := net.length) (fun k (t : List (Nat × Nat)) => ((k : Int), wl t)) (pairRow net) (fun t => wl t) (fun k t => t.length ≤ 6 * k) (by omega) (fun n k t hk ht => ?_) (fun n t ht => ?_) (t0 := []) (by simp)).1
  · exact congrArg (fun o => optC o (fun q => some q) none) this
  · have hlt := h.lt64 hk
    have inner := run_for (run := S.l6Wires_run6 net (k : Int)) (len := net.length - (k + 1)) (fun i (t : List (Nat × Nat)) => (((k + 1 + i : Nat) : Int), wl t)) (pairStep net k) (fun t => wl t) (fun i u => u.length ≤ t.length + i) (by omega) (fun n i u hi hu => ?_) (fun n u hu => ?_) (t0 := t) (Nat.le_refl _)
    · obtain ⟨e, hlen⟩ := inner
      simp only [S.l6Wires_run3, S.l6Wires_step3]
      rw [cnd_t (by rw [decide_eq_true_eq]; omega), add1_nat (by omega), show S.l6Wires_run6 net (k : Int) FUEL (((k + 1 : Nat) : Int), wl t) = _ from e]
      exact ⟨rfl, Nat.le_trans hlen (by omega)⟩
    · simp only [S.l6Wires_run6, S.l6Wires_step6]
      rw [cnd_t (by rw [decide_eq_true_eq]; omega), cnd_t (by simp only [Bool.and_eq_true, decide_eq_true_eq]; omega), cnd_f (by rw [decide_eq_false_iff_not]; omega), show D.eli net (k : Int).toNat = (nb net k : Int) by rw [Int.toNat_natCast]; exact h.eli hk, bit_shr _ _ (by omega), bool_eq1, add1_nat (by omega)]
      unfold pairStep
      cases hb : (nb net k).testBit (k + 1 + i) with
      | false => rw [cond_false, if_neg (by simp)]; exact ⟨rfl, by omega⟩
      | true =>
        rw [cond_true, cnd_t (small_of (by rw [List.length_append, wl_len]; simp; omega)), if_pos rfl, wl_app]
        exact ⟨rfl, by rw [List.length_append]; simp; omega⟩
    · simp only [S.l6Wires_run6, S.l6Wires_step6]
      rw [cnd_f (by rw [decide_eq_false_iff_not]; omega)]
  · simp only [S.l6Wires_run3, S.l6Wires_step3]
    rw [cnd_f (by rw [decide_eq_false_iff_not]; omega)]
def mostLeaves (net : List Int) : Int := if net.length < 2 then -1 else fold (2 ^ (pairs net).length) (lfStep net) (-1)
end Go.Proofs.Ytjaklmemllbeiaa
/- The model's functions of chapter 7 in natural numbers. Conditions: those of each theorem. -/
namespace Go.Proofs.Ytjaklmemllbeiaa
open D Go.RowKit
set_option linter.unusedVariables false
set_option linter.unusedSimpArgs false


/-- The number at a place of a row. -/
def rv (row : List Int) (k : Nat) : Nat := (D.eli row k).toNat
def rowB (n : Nat) (row : List Int) : Bool := decide (row.length = n) && (List.range row.length).all fun k => decide (0 ≤ D.eli row k ∧ D.eli row k ≤ 2)
structure RowIs (n : Nat) (row : List Int) : Prop where
  len : row.length = n
  eq : ∀ k, k < n → D.eli row k = (rv row k : Int)
  le : ∀ k, k < n → rv row k ≤ 2
def romanB (net row : List Int) : Bool := (List.range net.length).all fun k => !(rv row k == 0 && (nb net k &&& withN net.length (rv row) 2) == 0)
def italianB (net row : List Int) : Bool := (List.range net.length).all fun k => !(rv row k == 0 && decide (help net (rv row) k < 2))
/-- The row of the digits of a number. -/
def digs (n m : Nat) : List Int := (List.range n).map fun k => ((dig n m k : Nat) : Int)
/-- The first least row of a kind, and the least sum. -/
def rowStep (n : Nat) (p : List Int → Bool) (best : List Int) (m : Nat) : List Int := if p (digs n m) = true ∧ (best.length = 0 ∨ sumN n (rv (digs n m)) < sumN n (rv best)) then digs n m else best
def bestRow (n : Nat) (p : List Int → Bool) : List Int := fold (3 ^ n) (rowStep n p) []
theorem roman_congr {net : List Int} {r q : Nat → Nat} (h : ∀ k, k < net.length → r k = q k) (hr : RomanP net r) : RomanP net q := fun k hk h0 => by
  obtain ⟨j, hj, a, b⟩ := hr k hk (by rw [h k hk]; exact h0)
  exact ⟨j, hj, a, by rw [← h j hj]; exact b⟩
/-- The least Roman row. -/
structure FirstRoman (net : List Int) (b : Nat) : Prop where
  lt : b < 3 ^ net.length
  roman : RomanP net (dig net.length b)
  le : ∀ m, m < 3 ^ net.length → RomanP net (dig net.length m) → sumN net.length (dig net.length b) ≤ sumN net.length (dig net.length m)
  first : ∀ m, m < b → RomanP net (dig net.length m) → sumN net.length (dig net.length b) < sumN net.length (dig net.length m)
theorem FirstRoman.min {net : List Int} {b : Nat} (hb : FirstRoman net b) : MinRow net.length (RomanP net) (sumN net.length (dig net.length b)) := by
  refine ⟨⟨dig net.length b, fun k _ => dig_lt _ _ _, hb.roman, rfl⟩, fun r hr hR => ?_⟩
  obtain ⟨m, hm, hd⟩ := dig_all hr
  have h1 := hb.le m hm (roman_congr (fun k hk => (hd k hk).symm) hR)
  rw [sumN_congr (f := dig net.length m) hd] at h1
  exact h1
def fewestRoman (net : List Int) : Nat := sumN net.length (rv (bestRow net.length (romanB net)))
def fewestItalian (net : List Int) : Nat := fold (3 ^ net.length) (fun t m => if italianB net (digs net.length m) = true then (if sumN net.length (rv (digs net.length m)) < t then sumN net.length (rv (digs net.length m)) else t) else t) net.length
/-- The row of a set. -/
def rowOf (net : List Int) (s : Nat) : List Int := fold net.length (fun l k => l ++ [((rowOfN net s k : Nat) : Int)]) []
def rowOfI (net : List Int) (s : Int) : List Int := if 0 ≤ s ∧ s < 2 ^ net.length then rowOf net s.toNat else []
end Go.Proofs.Ytjaklmemllbeiaa
/- The model's functions of chapter 8 in natural numbers. Conditions: those of each theorem. -/
namespace Go.Proofs.Ytjaklmemllbeiaa
open D Go.RowKit
set_option linter.unusedVariables false
set_option linter.unusedSimpArgs false


/-- Can a guard come? -/
def canB (net : List Int) (s t : Nat) : Bool := (List.range net.length).any fun f => s.testBit f && ((nb net t).testBit f && W net (moved s f t))
def secureB (net : List Int) (s : Nat) : Bool := W net s && (List.range net.length).all fun k => !(!s.testBit k && !canB net s k)
def fewestSecure (net : List Int) : Nat := minSize net (secureB net)
def leaveB (net : List Int) (r : Nat → Nat) (p : Nat) : Bool := (List.range net.length).any fun f => decide (1 ≤ r f) && ((nb net p).testBit f && W net (withN net.length (leave r f p) 1))
def weakB (net row : List Int) : Bool := (List.range net.length).all fun k => !(rv row k == 0 && !leaveB net (rv row) k)
def fewestWeak (net : List Int) : Nat := fold (3 ^ net.length) (fun t m => if weakB net (digs net.length m) = true then (if sumN net.length (rv (digs net.length m)) < t then sumN net.length (rv (digs net.length m)) else t) else t) net.length
end Go.Proofs.Ytjaklmemllbeiaa
/- Plain facts about the program's own ways of chapters 6 to 9: least numbers from -1 on, the first row of the fewest guards, the least place of a set. Conditions: those of each theorem. -/
namespace Go.Proofs.Ytjaklmemllbeiaa
open D Go.RowKit
set_option linter.unusedVariables false
set_option linter.unusedSimpArgs false

/-- The least number of a kind; -1 if there is none. -/
def minStepV (p : Nat → Bool) (v : Nat → Nat) (t : Int) (s : Nat) : Int := if p s = true then (if t < 0 then ((v s : Nat) : Int) else if ((v s : Nat) : Int) < t then ((v s : Nat) : Int) else t) else t
def lessStep (n : Nat) (p : List Int → Bool) (best : List Int) (m : Nat) : List Int := if sumN n (rv (digs n m)) < sumN n (rv best) ∧ p (digs n m) = true then digs n m else best
end Go.Proofs.Ytjaklmemllbeiaa
/- Other ways to the sets and numbers of chapters 3 to 5. Conditions: those of each theorem. -/
namespace Go.Proofs.Ytjaklmemllbeiaa
set_option linter.unusedVariables false
set_option linter.unusedSimpArgs false

def minStepN (p : Nat → Bool) (t s : Nat) : Nat := if p s = true then (if size s < t then size s else t) else t
def maxStepN (p : Nat → Bool) (t s : Nat) : Nat := if p s = true then (if size s > t then size s else t) else t
end Go.Proofs.Ytjaklmemllbeiaa
/- The program's functions of chapters 3 and 4 in natural numbers. Conditions: those of each theorem. -/
namespace Go.Proofs.Ytjaklmemllbeiaa
open D Go.RowKit
set_option linter.unusedVariables false
set_option linter.unusedSimpArgs false


theorem I.with_n {s k : Nat} (hs : s < 64) (hk : k < 6) : I.with_t s k = some ((s ||| 2 ^ k : Nat) : Int) := by
  unfold I.with_t I.with_tree
  rw [cnd_f (by simp), one_shl (by omega), i64_or_nat _ _ (by omega) (pow2_lt (by omega))]
end Go.Proofs.Ytjaklmemllbeiaa
/- The program's functions of chapter 6 but MostLeaves, in natural numbers. Conditions: those of each theorem. -/
namespace Go.Proofs.Ytjaklmemllbeiaa
open D Go.RowKit
set_option linter.unusedVariables false
set_option linter.unusedSimpArgs false


end Go.Proofs.Ytjaklmemllbeiaa
/- Wires in a row, each two numbers; some of them. Conditions: those of each theorem. -/
namespace Go.Proofs.Ytjaklmemllbeiaa
open D Go.RowKit
set_option linter.unusedVariables false
set_option linter.unusedSimpArgs false


/-- Pairs of numbers, one behind the other. -/
def fl : List (Nat × Nat) → List Int
  | [] => []
  | p :: r => (p.1 : Int) :: (p.2 : Int) :: fl r
theorem fl_len : ∀ P : List (Nat × Nat), (fl P).length = P.length * 2
  | [] => rfl
  | p :: r => by simp only [fl, List.length_cons, fl_len r]; omega
theorem fl_app : ∀ (P : List (Nat × Nat)) (a b : Nat), fl (P ++ [(a, b)]) = fl P ++ [(a : Int), (b : Int)]
  | [], a, b => rfl
  | p :: r, a, b => by simp only [List.cons_append, fl, fl_app r a b]
theorem fl_div (P : List (Nat × Nat)) : (fl P).length / 2 = P.length := by rw [fl_len]; omega
def PairsIn (n : Nat) (P : List (Nat × Nat)) : Prop := ∀ p, p ∈ P → p.1 < p.2 ∧ p.2 < n
theorem I.wiresIn_n {net : List Int} (h : Ok net) : I.wiresIn_t net = some (fl (pairs net)) := by
  unfold I.wiresIn_t I.wiresIn_tree
  have h6 := h.hi
  have := (run_for (run := I.wiresIn_run3 net) (len := net.length) (fun k (t : List (Nat × Nat)) => ((k : Int), fl t)) (pairRow net) (fun t => fl t) (fun k t => t.length ≤ 6 * k) (by omega) (fun n k t hk ht => ?_) (fun n t ht => ?_) (t0 := []) (by simp)).1
  · exact congrArg (fun o => optC o (fun q => some q) none) this
  · have hlt := h.lt64 hk
    have inner := run_for (run := I.wiresIn_run6 net (k : Int)) (len := net.length - (k + 1)) (fun i (t : List (Nat × Nat)) => (((k + 1 + i : Nat) : Int), fl t)) (pairStep net k) (fun t => fl t) (fun i u => u.length ≤ t.length + i) (by omega) (fun n i u hi hu => ?_) (fun n u hu => ?_) (t0 := t) (Nat.le_refl _)
    · obtain ⟨e, hlen⟩ := inner
      simp only [I.wiresIn_run3, I.wiresIn_step3]
      rw [cnd_t (by rw [decide_eq_true_eq]; omega), add1_nat (by omega), show I.wiresIn_run6 net (k : Int) FUEL (((k + 1 : Nat) : Int), fl t) = _ from e]
      exact ⟨rfl, Nat.le_trans hlen (by omega)⟩
    · simp only [I.wiresIn_run6, I.wiresIn_step6]
      rw [cnd_t (by rw [decide_eq_true_eq]; omega), cnd_t (by simp only [Bool.and_eq_true, decide_eq_true_eq]; omega), show D.eli net (k : Int).toNat = (nb net k : Int) by rw [Int.toNat_natCast]; exact h.eli hk, I.hasPlace_n _ _ (by omega), add1_nat (by omega)]
      simp only [optC]
      unfold pairStep
      cases hb : (nb net k).testBit (k + 1 + i) with
      | false => rw [cond_false, if_neg (by simp)]; exact ⟨rfl, by omega⟩
      | true =>
        rw [cond_true, cnd_t (small_of (by rw [fl_len]; simp; omega)), if_pos rfl, fl_app]
        exact ⟨rfl, by rw [List.length_append]; simp; omega⟩
    · simp only [I.wiresIn_run6, I.wiresIn_step6]
      rw [cnd_f (by rw [decide_eq_false_iff_not]; omega)]
  · simp only [I.wiresIn_run3, I.wiresIn_step3]
    rw [cnd_f (by rw [decide_eq_false_iff_not]; omega)]
theorem pairs_in {net : List Int} (h : Ok net) : PairsIn net.length (pairs net) ∧ (pairs net).length ≤ 15 := by
  obtain ⟨p1, _, p3⟩ := pairs_is h.hi
  exact ⟨fun p hp => by obtain ⟨a, b, _⟩ := (p1 p.1 p.2).1 hp; exact ⟨a, b⟩, p3⟩
end Go.Proofs.Ytjaklmemllbeiaa
/- NetText and NetRead, of the program (at ae9a42a) and of the model. Conditions: those of each theorem. -/
namespace Go.Proofs.Ytjaklmemllbeiaa
open D Go.RowKit
set_option linter.unusedVariables false
set_option linter.unusedSimpArgs false


theorem sp_is : ByteArray.mk #[32] = bytesOf [32] := rfl
theorem hy_is : ByteArray.mk #[45] = bytesOf [45] := rfl
theorem no_is : ByteArray.mk #[] = bytesOf [] := rfl
theorem I.digitOf_n {n : Nat} (h : n ≤ 9) : I.digitOf_t (n : Int) = some (bytesOf [48 + (n : Int)]) := by
  unfold I.digitOf_t I.digitOf_tree
  rw [i64_wrap (by omega) (by omega), u8_wrap (by omega) (by omega)]
theorem S.l1Number_n {n : Nat} (h : n ≤ 9) : S.l1Number_t (n : Int) = some (bytesOf [48 + (n : Int)]) := by
  obtain ⟨d, hd⟩ : ∃ d, FUEL = d + 1 := ⟨FUEL - 1, by have := FUEL_le; omega⟩
  unfold S.l1Number_t
  rw [hd]
  show @S.l1Number_r_t ⟨S.l1Number_td d⟩ (n : Int) = _
  unfold S.l1Number_r_t S.l1Number_r_tree
  rw [cnd_t (by rw [decide_eq_true_eq]; omega), if_neg (by omega), i64_wrap (by omega) (by omega), u8_wrap (by omega) (by omega)]
theorem fl_at : ∀ (P : List (Nat × Nat)) (k : Nat), k < P.length → D.eli (fl P) (k * 2 + 0) = ((pt P k).1 : Int) ∧ D.eli (fl P) (k * 2 + 1) = ((pt P k).2 : Int) := by
  intro P
  induction P with
  | nil => intro k hk; simp at hk
  | cons p P ih =>
    intro k hk
    cases k with
    | zero => exact ⟨rfl, rfl⟩
    | succ k =>
      have := ih k (by simpa using hk)
      rw [show (k + 1) * 2 + 0 = k * 2 + 0 + 1 + 1 by omega, show (k + 1) * 2 + 1 = k * 2 + 1 + 1 + 1 by omega]
      exact ⟨this.1, this.2⟩
theorem rows_take (P : List (Nat × Nat)) {k : Nat} (hk : k < P.length) : (P.take (k + 1)).flatMap (fun p => 32 :: tw p) = (P.take k).flatMap (fun p => 32 :: tw p) ++ 32 :: tw (pt P k) := by
  rw [List.take_add_one, List.flatMap_append]
  have : P[k]? = some (pt P k) := by unfold pt; simp [List.getD, hk]
  rw [this]
  simp
theorem I.NetText_x {net : List Int} (e : I.NetOk_t net = some false) : I.NetText_t net = some (bytesOf []) := by
  unfold I.NetText_t I.NetText_tree; rw [e]; rfl
theorem S.NetText_x {net : List Int} (e : S.NetOk_t net = some false) : S.NetText_t net = some (bytesOf []) := by
  unfold S.NetText_t S.NetText_tree; rw [e]; rfl
theorem I.NetText_y {net : List Int} (h : Ok net) (e : I.NetOk_t net = some true) : I.NetText_t net = some (bytesOf (tx net)) := by
  unfold I.NetText_t I.NetText_tree
  have h6 := h.hi
  obtain ⟨hP, hl⟩ := pairs_in h
  rw [e]
  simp only [optC, Bool.not_true, cond_false]
  rw [I.digitOf_n (by omega), I.wiresIn_n h]
  simp only
  have := run_for (run := I.NetText_run6) (len := (pairs net).length) (fun k (t : List Int) => (bytesOf t, (k : Int), fl (pairs net))) (fun t k => t ++ 32 :: tw (pt (pairs net) k)) (fun t => bytesOf t)
    (fun k t => t = (48 + (net.length : Int)) :: ((pairs net).take k).flatMap (fun p => 32 :: tw p)) (by omega) (fun n k t hk ht => ?_) (fun n t ht => ?_) (t0 := [48 + (net.length : Int)]) (by simp)
  · rw [show I.NetText_run6 FUEL (bytesOf [48 + (net.length : Int)], 0, fl (pairs net)) = _ from this.1, this.2, List.take_length]
    rfl
  · have hp := hP _ (pt_mem hk)
    obtain ⟨e1, e2⟩ := fl_at (pairs net) k hk
    have hlen : t.length = 1 + 4 * k := by rw [ht, List.length_cons, rows_len, List.length_take]; omega
    simp only [I.NetText_run6, I.NetText_step6, List.getElem_toArray, List.getElem_cons_zero, List.getElem_cons_succ]
    rw [fl_div, fl_len, cnd_t (by rw [decide_eq_true_eq]; omega), cnd_t (by simp only [Bool.and_eq_true, decide_eq_true_eq]; omega), Int.toNat_natCast, cnd_t (by rw [decide_eq_true_eq]; omega), e1, I.digitOf_n (by omega)]
    simp only [optC, sp_is, hy_is, app_of, size_of]
    rw [cnd_t (small_of (by simp)), cnd_t (small_of (by simp)), cnd_t (by simp only [Bool.and_eq_true, decide_eq_true_eq]; omega), cnd_t (by rw [decide_eq_true_eq]; omega), e2, I.digitOf_n (by omega)]
    simp only [app_of, size_of]
    rw [cnd_t (small_of (by simp)), cnd_t (small_of (by simp; omega)), add1_nat (by omega)]
    refine ⟨rfl, ?_⟩
    rw [rows_take _ hk, ht]; rfl
  · simp only [I.NetText_run6, I.NetText_step6]
    rw [fl_div, cnd_f (by rw [decide_eq_false_iff_not]; omega)]
theorem S.NetText_y {net : List Int} (h : Ok net) (e : S.NetOk_t net = some true) : S.NetText_t net = some (bytesOf (tx net)) := by
  unfold S.NetText_t S.NetText_tree
  have h6 := h.hi
  obtain ⟨hP, hl⟩ := pairs_in h
  rw [e]
  simp only [optC, Bool.not_true, cond_false]
  rw [S.l1Number_n (by omega), S.l6Wires_n h]
  simp only
  have := run_for (run := S.NetText_run6) (len := (pairs net).length) (fun k (t : List Int) => (bytesOf t, (k : Int), wl (pairs net))) (fun t k => t ++ 32 :: tw (pt (pairs net) k)) (fun t => bytesOf t)
    (fun k t => t = (48 + (net.length : Int)) :: ((pairs net).take k).flatMap (fun p => 32 :: tw p)) (by omega) (fun n k t hk ht => ?_) (fun n t ht => ?_) (t0 := [48 + (net.length : Int)]) (by simp)
  · rw [show S.NetText_run6 FUEL (bytesOf [48 + (net.length : Int)], 0, wl (pairs net)) = _ from this.1, this.2, List.take_length]
    rfl
  · have hp := hP _ (pt_mem hk)
    have hw := wl_at hk
    have hlen : t.length = 1 + 4 * k := by rw [ht, List.length_cons, rows_len, List.length_take]; omega
    have ea : D.eli [((pt (pairs net) k).1 : Int), ((pt (pairs net) k).2 : Int)] (Int.toNat 0) = ((pt (pairs net) k).1 : Int) := rfl
    have eb : D.eli [((pt (pairs net) k).1 : Int), ((pt (pairs net) k).2 : Int)] (Int.toNat 1) = ((pt (pairs net) k).2 : Int) := rfl
    simp only [S.NetText_run6, S.NetText_step6, sp_is, hy_is, app_of, size_of]
    rw [wl_len, cnd_t (by rw [decide_eq_true_eq]; omega), cnd_t (small_of (by simp; omega)), cnd_t (by simp only [Bool.and_eq_true, decide_eq_true_eq]; omega), Int.toNat_natCast, cnd_t (by rw [decide_eq_true_eq]; omega), hw, cnd_t (by simp), ea, S.l1Number_n (by omega)]
    simp only [optC, app_of, size_of]
    rw [cnd_t (small_of (by simp; omega)), cnd_t (small_of (by simp; omega)), cnd_t (by simp only [Bool.and_eq_true, decide_eq_true_eq]; omega), cnd_t (by rw [decide_eq_true_eq]; omega), cnd_t (by simp), eb, S.l1Number_n (by omega)]
    simp only [app_of, size_of]
    rw [cnd_t (small_of (by simp; omega)), add1_nat (by omega)]
    refine ⟨?_, ?_⟩
    · congr 3
      simp [tw]
    · rw [rows_take _ hk, ht]; rfl
  · simp only [S.NetText_run6, S.NetText_step6]
    rw [wl_len, cnd_f (by rw [decide_eq_false_iff_not]; omega)]

/-! Cuts. -/
def cutF (sep : Int) (l : List Int) (t : Nat × List (List Int)) (k : Nat) : Nat × List (List Int) := if D.eli l k = sep then (k + 1, t.2 ++ [(l.drop t.1).take (k - t.1)]) else t
def CutI (sep : Int) (l : List Int) (k : Nat) (t : Nat × List (List Int)) : Prop := t.1 ≤ k ∧ sep ∉ (l.drop t.1).take (k - t.1) ∧ cutR sep l = t.2 ++ cutR sep (l.drop t.1) ∧ t.2.length ≤ k
theorem cutF_ok {sep : Int} {l : List Int} {k : Nat} {t : Nat × List (List Int)} (hk : k < l.length) (ht : CutI sep l k t) : CutI sep l (k + 1) (cutF sep l t k) := by
  obtain ⟨t1, t2, t3, t4⟩ := ht
  have ek : D.eli l k = l[k] := by unfold D.eli; simp [List.getD, hk]
  have hd : (l.drop t.1).drop (k - t.1) = l[k] :: l.drop (k + 1) := by
    rw [List.drop_drop, show t.1 + (k - t.1) = k by omega, List.drop_eq_getElem_cons hk]
  unfold cutF
  by_cases he : D.eli l k = sep
  · rw [if_pos he]
    refine ⟨Nat.le_refl _, by simp, ?_, by simp; omega⟩
    have e1 : l.drop t.1 = (l.drop t.1).take (k - t.1) ++ sep :: l.drop (k + 1) := by
      conv => lhs; rw [← List.take_append_drop (k - t.1) (l.drop t.1), hd]
      rw [← ek, he]
    rw [t3]
    conv => lhs; rw [e1, cutR_cons _ t2]
    simp
  · rw [if_neg he]
    refine ⟨by omega, ?_, t3, by omega⟩
    rw [show k + 1 - t.1 = (k - t.1) + 1 by omega, List.take_add_one]
    intro hm
    rcases List.mem_append.1 hm with hm | hm
    · exact t2 hm
    · rw [List.getElem?_drop, show t.1 + (k - t.1) = k by omega, List.getElem?_eq_getElem hk] at hm
      simp at hm
      exact he (by rw [ek, hm])
theorem cut_end {sep : Int} {l : List Int} {t : Nat × List (List Int)} (ht : CutI sep l l.length t) : cutR sep l = t.2 ++ [(l.drop t.1).take (l.length - t.1)] ∧ (l.drop t.1).take (l.length - t.1) = l.drop t.1 := by
  obtain ⟨t1, t2, t3, t4⟩ := ht
  have e : (l.drop t.1).take (l.length - t.1) = l.drop t.1 := List.take_of_length_le (by simp)
  rw [e] at t2 ⊢
  exact ⟨by rw [t3, cutR_plain t2], rfl⟩
theorem S.l1Cut_n {l : List Int} (hb : Bytes l) (hl : l.length ≤ 100000) (sep : Int) : S.l1Cut_t (bytesOf l) sep = some ((cutR sep l).map bytesOf) := by
  unfold S.l1Cut_t S.l1Cut_tree
  have rr := run_for (run := S.l1Cut_run4 (bytesOf l) sep) (len := l.length) (fun k (t : Nat × List (List Int)) => ((t.1 : Int), (k : Int), t.2.map bytesOf)) (cutF sep l) (fun t => ((t.1 : Int), t.2.map bytesOf))
    (CutI sep l) (by omega) (fun n k t hk ht => ?_) (fun n t ht => ?_) (t0 := (0, [])) ⟨Nat.le_refl _, by simp, by simp, by simp⟩
  · obtain ⟨r1, r2⟩ := rr
    rw [show S.l1Cut_run4 (bytesOf l) sep FUEL (0, 0, []) = _ from r1]
    generalize fold l.length (cutF sep l) (0, []) = t at r2 ⊢
    obtain ⟨e1, e2⟩ := cut_end r2
    have h1 := r2.1
    have h4 := r2.2.2.2
    simp only [optC, size_of]
    rw [cnd_t (by simp only [Bool.and_eq_true, decide_eq_true_eq]; omega), Int.toNat_natCast, cut_of, cnd_t (small_of (by simp; omega)), e1]
    simp
  · refine ⟨?_, cutF_ok hk ht⟩
    obtain ⟨t1, t2, t3, t4⟩ := ht
    simp only [S.l1Cut_run4, S.l1Cut_step4]
    rw [size_of, cnd_t (by rw [decide_eq_true_eq]; omega), cnd_t (by simp only [Bool.and_eq_true, decide_eq_true_eq]; omega), Int.toNat_natCast, strAt_of hb hk]
    unfold cutF
    by_cases he : D.eli l k = sep
    · rw [cnd_t (by rw [beq_iff_eq]; exact he), if_pos he, cnd_t (by simp only [Bool.and_eq_true, decide_eq_true_eq]; omega), Int.toNat_natCast, cut_of, cnd_t (small_of (by simp; omega)), add1_nat (by omega)]
      simp
    · rw [cnd_f (by rw [beq_eq_false_iff_ne]; exact he), if_neg he, add1_nat (by omega)]
  · simp only [S.l1Cut_run4, S.l1Cut_step4]
    rw [size_of, cnd_f (by rw [decide_eq_false_iff_not]; omega)]
theorem I.wordsOf_n {l : List Int} (hb : Bytes l) (hl : l.length ≤ 100000) : I.wordsOf_t (bytesOf l) = some ((cutR 32 l).map bytesOf) := by
  unfold I.wordsOf_t I.wordsOf_tree
  have rr := run_for (run := I.wordsOf_run4 (bytesOf l)) (len := l.length) (fun k (t : Nat × List (List Int)) => ((t.1 : Int), (k : Int), t.2.map bytesOf)) (cutF 32 l) (fun t => ((t.1 : Int), t.2.map bytesOf))
    (CutI 32 l) (by omega) (fun n k t hk ht => ?_) (fun n t ht => ?_) (t0 := (0, [])) ⟨Nat.le_refl _, by simp, by simp, by simp⟩
  · obtain ⟨r1, r2⟩ := rr
    rw [show I.wordsOf_run4 (bytesOf l) FUEL (0, 0, []) = _ from r1]
    generalize fold l.length (cutF 32 l) (0, []) = t at r2 ⊢
    obtain ⟨e1, e2⟩ := cut_end r2
    have h1 := r2.1
    have h4 := r2.2.2.2
    simp only [optC, size_of]
    rw [cnd_t (by simp only [Bool.and_eq_true, decide_eq_true_eq]; omega), Int.toNat_natCast, cut_of, cnd_t (small_of (by simp; omega)), e1]
    simp
  · refine ⟨?_, cutF_ok hk ht⟩
    obtain ⟨t1, t2, t3, t4⟩ := ht
    simp only [I.wordsOf_run4, I.wordsOf_step4]
    rw [size_of, cnd_t (by rw [decide_eq_true_eq]; omega), cnd_t (by simp only [Bool.and_eq_true, decide_eq_true_eq]; omega), Int.toNat_natCast, strAt_of hb hk]
    unfold cutF
    by_cases he : D.eli l k = 32
    · rw [cnd_t (by rw [beq_iff_eq]; exact he), if_pos he, cnd_t (by simp only [Bool.and_eq_true, decide_eq_true_eq]; omega), Int.toNat_natCast, cut_of, cnd_t (small_of (by simp; omega)), add1_nat (by omega)]
      simp
    · rw [cnd_f (by rw [beq_eq_false_iff_ne]; exact he), if_neg he, add1_nat (by omega)]
  · simp only [I.wordsOf_run4, I.wordsOf_step4]
    rw [size_of, cnd_f (by rw [decide_eq_false_iff_not]; omega)]

/-! Numbers. -/
def dAt (w : List Int) (at_ : Nat) : Int := if at_ < w.length ∧ 48 ≤ D.eli w at_ ∧ D.eli w at_ ≤ 57 then D.eli w at_ - 48 else -1
theorem I.digitAt_n {w : List Int} (hb : Bytes w) (at_ : Nat) : I.digitAt_t (bytesOf w) (at_ : Int) = some (dAt w at_) := by
  unfold I.digitAt_t I.digitAt_tree dAt
  rw [size_of]
  by_cases h1 : at_ < w.length
  · have hel := Bytes.eli hb at_
    rw [cnd_f (by rw [decide_eq_false_iff_not]; omega), cnd_t (by simp only [Bool.and_eq_true, decide_eq_true_eq]; omega), Int.toNat_natCast, strAt_of hb h1]
    by_cases h2 : D.eli w at_ < 48
    · rw [cnd_t (by rw [decide_eq_true_eq]; exact h2), if_neg (by omega)]
    · rw [cnd_f (by rw [decide_eq_false_iff_not]; exact h2), cnd_t (by simp only [Bool.and_eq_true, decide_eq_true_eq]; omega)]
      by_cases h3 : D.eli w at_ > 57
      · rw [cnd_t (by rw [decide_eq_true_eq]; exact h3), if_neg (by omega)]
      · rw [cnd_f (by rw [decide_eq_false_iff_not]; exact h3), cnd_t (by simp only [Bool.and_eq_true, decide_eq_true_eq]; omega), if_pos (by omega), u8_wrap (by omega) (by omega), i64_wrap (by omega) (by omega)]
  · rw [cnd_t (by rw [decide_eq_true_eq]; omega), if_neg (by omega)]
def dgF (w : List Int) (t : Int) (k : Nat) : Int ⊕ Int := if D.eli w k < 48 ∨ 57 < D.eli w k then .inl t else .inr (10 * t + (D.eli w k - 48))
def dgt (w : List Int) : Int := if 1 ≤ w.length ∧ w.length ≤ 6 ∧ ¬ (1 < w.length ∧ D.eli w 0 = 48) then (match loopE w.length (dgF w) 0 with | .inl _ => -1 | .inr t => t) else -1
theorem dg_run {w : List Int} (hb : Bytes w) (h6 : w.length ≤ 6) : S.l1Digits_run5 (bytesOf w) FUEL (0, 0) = some (match loopE w.length (dgF w) 0 with | .inl t => .inl (-1, t) | .inr t => .inr t) ∧ ∀ t, loopE w.length (dgF w) 0 = .inr t → 0 ≤ t ∧ t < 10 ^ w.length := by
  have r := run_forE (run := S.l1Digits_run5 (bytesOf w)) (len := w.length) (fun k (t : Int) => (t, (k : Int))) (dgF w) (fun t => Sum.inl (-1, t)) (fun t => Sum.inr t) (fun k t => 0 ≤ t ∧ t < 10 ^ k) (by omega) (fun n k t hk ht => ?_) (fun n t ht => ?_) (t0 := 0) ⟨by omega, by simp⟩
  · refine ⟨?_, r.2⟩
    rw [show S.l1Digits_run5 (bytesOf w) FUEL (0, 0) = _ from r.1]
    cases loopE w.length (dgF w) 0 <;> rfl
  · obtain ⟨t1, t2⟩ := ht
    have hp : (10 : Int) ^ k ≤ 10 ^ 6 := by
      have : (10 : Nat) ^ k ≤ 10 ^ 6 := Nat.pow_le_pow_right (by omega) (by omega)
      exact_mod_cast this
    have hel := Bytes.eli hb k
    unfold dgF
    by_cases h1 : D.eli w k < 48 ∨ 57 < D.eli w k
    · rw [if_pos h1]
      simp only [S.l1Digits_run5, S.l1Digits_step5]
      rw [size_of, cnd_t (by rw [decide_eq_true_eq]; omega), cnd_t (by simp only [Bool.and_eq_true, decide_eq_true_eq]; omega), Int.toNat_natCast, strAt_of hb hk]
      by_cases h2 : D.eli w k < 48
      · rw [cnd_t (by rw [decide_eq_true_eq]; exact h2)]
      · rw [cnd_f (by rw [decide_eq_false_iff_not]; exact h2), cnd_t (by simp only [Bool.and_eq_true, decide_eq_true_eq]; omega), cnd_t (by rw [decide_eq_true_eq]; omega)]
    · rw [if_neg h1]
      simp only [S.l1Digits_run5, S.l1Digits_step5]
      rw [size_of, cnd_t (by rw [decide_eq_true_eq]; omega), cnd_t (by simp only [Bool.and_eq_true, decide_eq_true_eq]; omega), Int.toNat_natCast, strAt_of hb hk, cnd_f (by rw [decide_eq_false_iff_not]; omega),
        cnd_t (by simp only [Bool.and_eq_true, decide_eq_true_eq]; omega), cnd_f (by rw [decide_eq_false_iff_not]; omega), cnd_t (by simp only [Bool.and_eq_true, decide_eq_true_eq]; omega), u8_wrap (by omega) (by omega), i64_wrap (n := D.eli w k - 48) (by omega) (by omega),
        i64_wrap (n := 10 * t) (by omega) (by omega), i64_wrap (by omega) (by omega), add1_nat (by omega)]
      refine ⟨rfl, by omega, ?_⟩
      rw [Int.pow_succ]; omega
  · simp only [S.l1Digits_run5, S.l1Digits_step5]
    rw [size_of, cnd_f (by rw [decide_eq_false_iff_not]; omega)]
theorem dgt_bound {w : List Int} (hb : Bytes w) : -1 ≤ dgt w ∧ dgt w < 1000000 := by
  unfold dgt
  split
  · rename_i hc
    have := (dg_run hb hc.2.1).2
    cases hl : loopE w.length (dgF w) 0 with
    | inl t => exact ⟨by simp, by simp⟩
    | inr t =>
      have := this t hl
      have hp : (10 : Int) ^ w.length ≤ 10 ^ 6 := by
        have : (10 : Nat) ^ w.length ≤ 10 ^ 6 := Nat.pow_le_pow_right (by omega) hc.2.1
        exact_mod_cast this
      simp only
      omega
  · omega
theorem S.l1Digits_n {w : List Int} (hb : Bytes w) : S.l1Digits_t (bytesOf w) = some (dgt w) := by
  unfold S.l1Digits_t S.l1Digits_tree dgt
  rw [size_of, S.l1In_is]
  simp only [optC]
  by_cases h1 : 1 ≤ w.length ∧ w.length ≤ 6
  · rw [show decide ((1 : Int) ≤ (w.length : Int) ∧ (w.length : Int) ≤ 6) = true from decide_eq_true (by omega), Bool.not_true, cond_false]
    have hr := (dg_run hb h1.2).1
    by_cases h2 : 1 < w.length
    · rw [cnd_t (by rw [decide_eq_true_eq]; omega), cnd_t (by rw [decide_eq_true_eq]; omega), show Int.toNat 0 = 0 from rfl, strAt_of hb (by omega)]
      by_cases h3 : D.eli w 0 = 48
      · rw [cnd_t (by rw [beq_iff_eq]; exact h3), if_neg (fun hc => hc.2.2 ⟨h2, h3⟩)]
      · rw [cnd_f (by rw [beq_eq_false_iff_ne]; exact h3), if_pos ⟨h1.1, h1.2, fun hc => h3 hc.2⟩, hr]
        cases loopE w.length (dgF w) 0 <;> rfl
    · rw [cnd_f (by rw [decide_eq_false_iff_not]; omega), if_pos ⟨h1.1, h1.2, fun hc => h2 hc.1⟩, hr]
      cases loopE w.length (dgF w) 0 <;> rfl
  · rw [show decide ((1 : Int) ≤ (w.length : Int) ∧ (w.length : Int) ≤ 6) = false from decide_eq_false (by omega), Bool.not_false, cond_true, if_neg (fun hc => h1 ⟨hc.1, hc.2.1⟩)]
theorem dgt_one {n : Nat} (h : n ≤ 9) : dgt [48 + (n : Int)] = n := by
  unfold dgt
  rw [if_pos ⟨by simp, by simp, by simp⟩]
  have : loopE [48 + (n : Int)].length (dgF [48 + (n : Int)]) 0 = dgF [48 + (n : Int)] 0 0 := loopE_succ (n := 0) rfl
  rw [this]
  unfold dgF
  have e : D.eli [48 + (n : Int)] 0 = 48 + (n : Int) := rfl
  rw [e, if_neg (by omega)]
  simp only
  omega
end Go.Proofs.Ytjaklmemllbeiaa
/- NetRead, of the program (at ae9a42a) and of the model. Conditions: those of each theorem. -/
namespace Go.Proofs.Ytjaklmemllbeiaa
open D Go.RowKit
set_option linter.unusedVariables false
set_option linter.unusedSimpArgs false


def wS (w : List Int) : Int × Int := (dgt ((cutR 45 w).getD 0 []), dgt ((cutR 45 w).getD ((cutR 45 w).length - 1) []))
def wI (w : List Int) : Int × Int := (dAt w 0, dAt w 2)
def jwF (g : List Int → Int × Int) (W : List (List Int)) (t : List Int) (j : Nat) : List Int ⊕ List Int :=
  if (0 ≤ (g (W.getD (1 + j) [])).1 ∧ (g (W.getD (1 + j) [])).1 < t.length) ∧ (0 ≤ (g (W.getD (1 + j) [])).2 ∧ (g (W.getD (1 + j) [])).2 < t.length) then
    .inr (addWire t (g (W.getD (1 + j) [])).1.toNat (g (W.getD (1 + j) [])).2.toNat) else .inl t
def jw (g : List Int → Int × Int) (n : Nat) (W : List (List Int)) : List Int ⊕ List Int := loopE (W.length - 1) (jwF g W) (List.replicate n 0)
theorem jwF_ok {g : List Int → Int × Int} {W : List (List Int)} {t t' : List Int} {j n : Nat} (h : N64 t ∧ t.length = n) (e : jwF g W t j = .inr t') : N64 t' ∧ t'.length = n := by
  unfold jwF at e
  split at e
  · rename_i hc
    injection e with e
    subst e
    exact ⟨addWire_64 h.1 (by omega) (by omega), by rw [addWire_len]; exact h.2⟩
  · cases e
theorem getD_words {sep : Int} {l : List Int} {k : Nat} {m : Nat} (hb : Bytes l) (hl : l.length ≤ m) : Bytes ((cutR sep l).getD k []) ∧ ((cutR sep l).getD k []).length ≤ m := by
  rcases Nat.lt_or_ge k (cutR sep l).length with h | h
  · have e : (cutR sep l).getD k [] = (cutR sep l)[k] := by simp [List.getD, h]
    rw [e]
    obtain ⟨h1, h2⟩ := cutR_mem (List.getElem_mem h)
    exact ⟨fun c hc => hb c (h1 c hc), by omega⟩
  · have e : (cutR sep l).getD k [] = [] := by simp [List.getD, List.getElem?_eq_none h]
    rw [e]
    exact ⟨fun c hc => (by cases hc), by simp⟩
theorem cutR_pos (sep : Int) (l : List Int) : 0 < (cutR sep l).length := List.length_pos_iff.2 (cutR_ne sep l)

theorem S.NetRead_loop {s : ByteArray} {l : List Int} (hb : Bytes l) (hl : l.length ≤ 100) {n : Nat} (hn : 1 ≤ n ∧ n ≤ 6) :
    S.NetRead_run9 s (n : Int) FUEL (1, (cutR 32 l).map bytesOf, List.replicate n 0) = some (match jw wS n (cutR 32 l) with | .inl t => .inl (false, [], t) | .inr t => .inr t) ∧ ∀ t, jw wS n (cutR 32 l) = .inr t → N64 t ∧ t.length = n := by
  have hW := cutR_len 32 l
  have hW0 := cutR_pos 32 l
  have r := run_forE (run := S.NetRead_run9 s (n : Int)) (len := (cutR 32 l).length - 1) (fun j (t : List Int) => (((1 + j : Nat) : Int), (cutR 32 l).map bytesOf, t)) (jwF wS (cutR 32 l)) (fun t => Sum.inl (false, [], t)) (fun t => Sum.inr t)
    (fun j t => N64 t ∧ t.length = n) (by omega) (fun N j t hj ht => ?_) (fun N t ht => ?_) (t0 := List.replicate n 0) ⟨N64_zero hn.2, by simp⟩
  · refine ⟨?_, r.2⟩
    rw [show S.NetRead_run9 s (n : Int) FUEL (1, (cutR 32 l).map bytesOf, List.replicate n 0) = _ from r.1]
    unfold jw
    cases loopE ((cutR 32 l).length - 1) (jwF wS (cutR 32 l)) (List.replicate n 0) <;> rfl
  · obtain ⟨b1, b2⟩ := getD_words (sep := 32) (k := 1 + j) hb hl
    have step : ∀ (p : Bool), S.NetRead_run9 s (n : Int) (N + 1) (((1 + j : Nat) : Int), (cutR 32 l).map bytesOf, t) = match jwF wS (cutR 32 l) t j with | .inl t => some (.inl (false, [], t)) | .inr t' => S.NetRead_run9 s (n : Int) N (((1 + (j + 1) : Nat) : Int), (cutR 32 l).map bytesOf, t') := by
      intro _
      simp only [S.NetRead_run9, S.NetRead_step9]
      rw [List.length_map, cnd_t (by rw [decide_eq_true_eq]; omega), cnd_t (by simp only [Bool.and_eq_true, decide_eq_true_eq]; omega), Int.toNat_natCast, cnd_t (by rw [decide_eq_true_eq]; omega), els_of]
      unfold jwF wS
      generalize (cutR 32 l).getD (1 + j) [] = w at b1 b2 ⊢
      have hC := cutR_len 45 w
      have hC0 := cutR_pos 45 w
      rw [S.l1Cut_n b1 (by omega)]
      simp only [optC, List.length_map]
      obtain ⟨c1, c2⟩ := getD_words (sep := 45) (k := 0) b1 b2
      obtain ⟨d1, d2⟩ := getD_words (sep := 45) (k := (cutR 45 w).length - 1) b1 b2
      rw [cnd_t (by rw [decide_eq_true_eq]; omega), cnd_t (by rw [decide_eq_true_eq]; omega), els_of, S.l1Digits_n c1]
      simp only
      rw [sub1_nat (by omega) (by omega), cnd_t (by simp only [Bool.and_eq_true, decide_eq_true_eq]; omega), Int.toNat_natCast, cnd_t (by rw [decide_eq_true_eq]; omega), els_of, S.l1Digits_n d1]
      simp only
      have q1 := dgt_bound c1
      have q2 := dgt_bound d1
      generalize dgt ((cutR 45 w).getD 0 []) = a at q1 ⊢
      generalize dgt ((cutR 45 w).getD ((cutR 45 w).length - 1) []) = b at q2 ⊢
      rw [S.l1In_is, sub1_nat (by omega) (by omega)]
      simp only
      have hlen := ht.2
      by_cases ha : 0 ≤ a ∧ a < t.length
      rotate_left
      · rw [show decide ((0 : Int) ≤ a ∧ a ≤ ((n - 1 : Nat) : Int)) = false from decide_eq_false (by omega), Bool.not_false, cond_true, if_neg (fun hc => ha hc.1)]
      rw [show decide ((0 : Int) ≤ a ∧ a ≤ ((n - 1 : Nat) : Int)) = true from decide_eq_true (by omega), Bool.not_true, cond_false, S.l1In_is]
      simp only
      by_cases hb2 : 0 ≤ b ∧ b < t.length
      rotate_left
      · rw [show decide ((0 : Int) ≤ b ∧ b ≤ ((n - 1 : Nat) : Int)) = false from decide_eq_false (by omega), Bool.not_false, cond_true, if_neg (fun hc => hb2 hc.2)]
      rw [show decide ((0 : Int) ≤ b ∧ b ≤ ((n - 1 : Nat) : Int)) = true from decide_eq_true (by omega), Bool.not_true, cond_false, if_pos ⟨ha, hb2⟩]
      obtain ⟨a, rfl⟩ : ∃ k : Nat, a = k := ⟨a.toNat, by omega⟩
      obtain ⟨b, rfl⟩ : ∃ k : Nat, b = k := ⟨b.toNat, by omega⟩
      simp only [List.length_set]
      have h6 := ht.1.1
      obtain ⟨s1, s2⟩ := half_64 ht.1 (a := a) (b := b) (by omega) (by omega)
      have na := ht.1.2 a (by omega)
      have nb' := s2 b (by omega)
      have pa : 2 ^ a < 2 ^ 6 := Nat.pow_lt_pow_right (by omega) (by omega)
      have pb : 2 ^ b < 2 ^ 6 := Nat.pow_lt_pow_right (by omega) (by omega)
      rw [cnd_t (by simp only [Bool.and_eq_true, decide_eq_true_eq]; omega), cnd_t (by rw [decide_eq_true_eq]; omega), cnd_f (by rw [decide_eq_false_iff_not]; omega), cnd_t (by simp only [Bool.and_eq_true, decide_eq_true_eq]; omega), cnd_t (by rw [decide_eq_true_eq]; omega),
        cnd_t (by simp only [Bool.and_eq_true, decide_eq_true_eq]; omega), cnd_t (by rw [decide_eq_true_eq]; omega), cnd_f (by rw [decide_eq_false_iff_not]; omega), cnd_t (by simp only [Bool.and_eq_true, decide_eq_true_eq]; omega), cnd_t (by rw [decide_eq_true_eq]; omega),
        one_shl (k := b) (by omega), one_shl (k := a) (by omega)]
      simp only [Int.toNat_natCast]
      rw [na.1, i64_or_nat _ _ (by omega) (by omega), nb'.1, i64_or_nat _ _ (by omega) (by omega), add1_nat (by omega)]
      rfl
    have := step true
    cases hq : jwF wS (cutR 32 l) t j with
    | inl t' => rw [hq] at this; exact this
    | inr t' => rw [hq] at this; exact ⟨this, jwF_ok ht hq⟩
  · simp only [S.NetRead_run9, S.NetRead_step9]
    rw [List.length_map, cnd_f (by rw [decide_eq_false_iff_not]; omega)]

theorem I.joinedBy_g {T : List Int} (h : N64 T) {a b : Nat} (ha : a < T.length) (hb : b < T.length) : I.joinedBy_t T (a : Int) (b : Int) = some (addWire T a b) := by
  unfold I.joinedBy_t I.joinedBy_tree
  have h6 := h.1
  have na := h.2 a ha
  obtain ⟨s1, s2⟩ := half_64 h (a := a) (b := b) ha hb
  have nb' := s2 b hb
  simp only [List.nil_append, List.length_set]
  rw [cnd_t (small_of (by omega)), cnd_t (by simp only [Bool.and_eq_true, decide_eq_true_eq]; omega), cnd_t (by rw [decide_eq_true_eq]; omega), Int.toNat_natCast, na.1, I.with_n na.2 (by omega)]
  simp only [optC]
  rw [cnd_t (by simp only [Bool.and_eq_true, decide_eq_true_eq]; omega), cnd_t (by rw [decide_eq_true_eq]; omega), cnd_t (by simp only [Bool.and_eq_true, decide_eq_true_eq]; omega), cnd_t (by rw [decide_eq_true_eq]; omega), Int.toNat_natCast, nb'.1, I.with_n nb'.2 (by omega)]
  simp only
  rw [cnd_t (by simp only [Bool.and_eq_true, decide_eq_true_eq]; omega), cnd_t (by rw [decide_eq_true_eq]; omega)]
  rfl
theorem dAt_bound {w : List Int} (at_ : Nat) : -1 ≤ dAt w at_ ∧ dAt w at_ ≤ 9 := by unfold dAt; split <;> omega
theorem I.netOfWords_loop {l : List Int} (hb : Bytes l) (hl : l.length ≤ 100) {n : Nat} (hn : 1 ≤ n ∧ n ≤ 6) :
    I.netOfWords_run6 ((cutR 32 l).map bytesOf) FUEL (1, List.replicate n 0) = some (match jw wI n (cutR 32 l) with | .inl t => .inl ([], t) | .inr t => .inr t) ∧ ∀ t, jw wI n (cutR 32 l) = .inr t → N64 t ∧ t.length = n := by
  have hW := cutR_len 32 l
  have hW0 := cutR_pos 32 l
  have r := run_forE (run := I.netOfWords_run6 ((cutR 32 l).map bytesOf)) (len := (cutR 32 l).length - 1) (fun j (t : List Int) => (((1 + j : Nat) : Int), t)) (jwF wI (cutR 32 l)) (fun t => Sum.inl ([], t)) (fun t => Sum.inr t)
    (fun j t => N64 t ∧ t.length = n) (by omega) (fun N j t hj ht => ?_) (fun N t ht => ?_) (t0 := List.replicate n 0) ⟨N64_zero hn.2, by simp⟩
  · refine ⟨?_, r.2⟩
    rw [show I.netOfWords_run6 ((cutR 32 l).map bytesOf) FUEL (1, List.replicate n 0) = _ from r.1]
    unfold jw
    cases loopE ((cutR 32 l).length - 1) (jwF wI (cutR 32 l)) (List.replicate n 0) <;> rfl
  · obtain ⟨b1, b2⟩ := getD_words (sep := 32) (k := 1 + j) hb hl
    have step : ∀ (p : Bool), I.netOfWords_run6 ((cutR 32 l).map bytesOf) (N + 1) (((1 + j : Nat) : Int), t) = match jwF wI (cutR 32 l) t j with | .inl t => some (.inl ([], t)) | .inr t' => I.netOfWords_run6 ((cutR 32 l).map bytesOf) N (((1 + (j + 1) : Nat) : Int), t') := by
      intro _
      simp only [I.netOfWords_run6, I.netOfWords_step6]
      rw [List.length_map, cnd_t (by rw [decide_eq_true_eq]; omega), cnd_t (by simp only [Bool.and_eq_true, decide_eq_true_eq]; omega), Int.toNat_natCast, els_of]
      unfold jwF wI
      generalize (cutR 32 l).getD (1 + j) [] = w at b1 b2 ⊢
      rw [show I.digitAt_t (bytesOf w) 0 = some (dAt w 0) from I.digitAt_n b1 0]
      simp only [optC]
      rw [cnd_t (by simp only [Bool.and_eq_true, decide_eq_true_eq]; omega), show I.digitAt_t (bytesOf w) 2 = some (dAt w 2) from I.digitAt_n b1 2]
      simp only
      have q1 := dAt_bound (w := w) 0
      have q2 := dAt_bound (w := w) 2
      generalize dAt w 0 = a at q1 ⊢
      generalize dAt w 2 = b at q2 ⊢
      rw [I.placeIn_n]
      simp only
      by_cases ha : 0 ≤ a ∧ a < t.length
      rotate_left
      · rw [show decide ((0 : Int) ≤ a ∧ a < (t.length : Int)) = false from decide_eq_false ha, Bool.not_false, cond_true, if_neg (fun hc => ha hc.1)]
      rw [show decide ((0 : Int) ≤ a ∧ a < (t.length : Int)) = true from decide_eq_true ha, Bool.not_true, cond_false, I.placeIn_n]
      simp only
      by_cases hb2 : 0 ≤ b ∧ b < t.length
      rotate_left
      · rw [show decide ((0 : Int) ≤ b ∧ b < (t.length : Int)) = false from decide_eq_false hb2, Bool.not_false, cond_true, if_neg (fun hc => hb2 hc.2)]
      rw [show decide ((0 : Int) ≤ b ∧ b < (t.length : Int)) = true from decide_eq_true hb2, Bool.not_true, cond_false, if_pos ⟨ha, hb2⟩]
      obtain ⟨a, rfl⟩ : ∃ k : Nat, a = k := ⟨a.toNat, by omega⟩
      obtain ⟨b, rfl⟩ : ∃ k : Nat, b = k := ⟨b.toNat, by omega⟩
      rw [I.joinedBy_g ht.1 (by omega) (by omega), add1_nat (by omega)]
      rfl
    have := step true
    cases hq : jwF wI (cutR 32 l) t j with
    | inl t' => rw [hq] at this; exact this
    | inr t' => rw [hq] at this; exact ⟨this, jwF_ok ht hq⟩
  · simp only [I.netOfWords_run6, I.netOfWords_step6]
    rw [List.length_map, cnd_f (by rw [decide_eq_false_iff_not]; omega)]

open Classical in
/-- What is read, where the words tell so many places and such wires. -/
noncomputable def readR (d : Int) (x : List Int ⊕ List Int) (l : List Int) : Bool × List Int := if 1 ≤ d ∧ d ≤ 6 then (match x with | .inl _ => (false, []) | .inr t => if Ok t ∧ tx t = l then (true, t) else (false, [])) else (false, [])
theorem dgt_nil : dgt [] = -1 := by unfold dgt; rw [if_neg (by simp)]
theorem text_same {t l : List Int} (h : Ok t) (hb : Bytes l) : strEq (bytesOf (tx t)) (bytesOf l) = decide (tx t = l) := strEq_bytes (tx_bytes h) hb
theorem text_none {l : List Int} (hb : Bytes l) (hl : l ≠ []) : strEq (bytesOf []) (bytesOf l) = false := by
  rw [strEq_bytes (fun x hx => (by cases hx)) hb]
  exact decide_eq_false (fun e => hl e.symm)
theorem S.NetRead_f {l : List Int} (hb : Bytes l) (hl : l.length ≤ 100) : S.NetRead_t (bytesOf l) = some (readR (dgt ((cutR 32 l).getD 0 [])) (jw wS (dgt ((cutR 32 l).getD 0 [])).toNat (cutR 32 l)) l) := by
  unfold S.NetRead_t S.NetRead_tree readR
  have hW0 := cutR_pos 32 l
  obtain ⟨b1, b2⟩ := getD_words (sep := 32) (k := 0) hb hl
  rw [size_of, cnd_f (by rw [decide_eq_false_iff_not]; omega), S.l1Cut_n hb (by omega)]
  simp only [optC, List.length_map]
  rw [cnd_t (by rw [decide_eq_true_eq]; omega), cnd_t (by rw [decide_eq_true_eq]; omega), els_of, S.l1Digits_n b1]
  simp only
  rw [S.l1In_is]
  simp only
  have hne : 1 ≤ dgt ((cutR 32 l).getD 0 []) → l ≠ [] := fun h e => by
    subst e
    rw [show (cutR 32 []).getD 0 [] = [] from rfl, dgt_nil] at h
    omega
  generalize dgt ((cutR 32 l).getD 0 []) = d at hne ⊢
  by_cases hd : 1 ≤ d ∧ d ≤ 6
  rotate_left
  · rw [show decide ((1 : Int) ≤ d ∧ d ≤ 6) = false from decide_eq_false hd, Bool.not_false, cond_true, if_neg hd]
  rw [show decide ((1 : Int) ≤ d ∧ d ≤ 6) = true from decide_eq_true hd, Bool.not_true, cond_false, if_pos hd]
  obtain ⟨n, rfl⟩ : ∃ k : Nat, d = k := ⟨d.toNat, by omega⟩
  obtain ⟨r1, r2⟩ := S.NetRead_loop (s := bytesOf l) hb hl (n := n) (by omega)
  rw [cnd_t (by simp only [Bool.and_true, Bool.and_eq_true, decide_eq_true_eq]; exact ⟨by omega, small_of (by omega)⟩), Int.toNat_natCast, r1]
  cases hj : jw wS n (cutR 32 l) with
  | inl t => rfl
  | inr t =>
    simp only [sumC]
    rcases NetOk_cases t with ⟨h, _, e2⟩ | ⟨h, _, e2⟩
    · rw [S.NetText_y h e2]
      simp only
      rw [text_same h hb]
      by_cases he : tx t = l
      · rw [decide_eq_true he, Bool.not_true, cond_false, if_pos ⟨h, he⟩]
      · rw [decide_eq_false he, Bool.not_false, cond_true, if_neg (fun hc => he hc.2)]
    · rw [S.NetText_x e2]
      simp only
      rw [text_none hb (hne (by omega)), Bool.not_false, cond_true, if_neg (fun hc => h hc.1)]
theorem I.netOfWords_f {l : List Int} (hb : Bytes l) (hl : l.length ≤ 100) : I.netOfWords_t ((cutR 32 l).map bytesOf) = some (if 1 ≤ dAt ((cutR 32 l).getD 0 []) 0 ∧ dAt ((cutR 32 l).getD 0 []) 0 ≤ 6 then (match jw wI (dAt ((cutR 32 l).getD 0 []) 0).toNat (cutR 32 l) with | .inl _ => [] | .inr t => t) else []) := by
  unfold I.netOfWords_t I.netOfWords_tree
  have hW0 := cutR_pos 32 l
  obtain ⟨b1, b2⟩ := getD_words (sep := 32) (k := 0) hb hl
  rw [List.length_map, cnd_t (by rw [decide_eq_true_eq]; omega), show Int.toNat 0 = 0 from rfl, els_of, show I.digitAt_t (bytesOf ((cutR 32 l).getD 0 [])) 0 = _ from I.digitAt_n b1 0]
  simp only [optC]
  generalize dAt ((cutR 32 l).getD 0 []) 0 = d
  by_cases h1 : d < 1
  · rw [cnd_t (by rw [decide_eq_true_eq]; exact h1), if_neg (by omega)]
  rw [cnd_f (by rw [decide_eq_false_iff_not]; exact h1)]
  by_cases h2 : d > 6
  · rw [cnd_t (by rw [decide_eq_true_eq]; exact h2), if_neg (by omega)]
  rw [cnd_f (by rw [decide_eq_false_iff_not]; exact h2), if_pos (by omega)]
  obtain ⟨n, rfl⟩ : ∃ k : Nat, d = k := ⟨d.toNat, by omega⟩
  obtain ⟨r1, r2⟩ := I.netOfWords_loop hb hl (n := n) (by omega)
  rw [cnd_t (by simp only [Bool.and_true, Bool.and_eq_true, decide_eq_true_eq]; exact ⟨by omega, small_of (by omega)⟩), Int.toNat_natCast, r1]
  cases hj : jw wI n (cutR 32 l) <;> rfl
theorem not_ok_nil : ¬ Ok [] := fun h => by have := h.lo; simp at this
theorem I.NetRead_f {l : List Int} (hb : Bytes l) (hl : l.length ≤ 100) : I.NetRead_t (bytesOf l) = some (readR (dAt ((cutR 32 l).getD 0 []) 0) (jw wI (dAt ((cutR 32 l).getD 0 []) 0).toNat (cutR 32 l)) l) := by
  unfold I.NetRead_t I.NetRead_tree readR
  rw [size_of, cnd_f (by rw [decide_eq_false_iff_not]; omega), I.wordsOf_n hb (by omega)]
  simp only [optC]
  rw [I.netOfWords_f hb hl]
  simp only
  have none_ : ∀ {t : List Int}, ¬ Ok t → I.NetOk_t t = some false := fun {t} h => by
    rcases NetOk_cases t with ⟨h2, _, _⟩ | ⟨_, e1, _⟩
    · exact absurd h2 h
    · exact e1
  by_cases hd : 1 ≤ dAt ((cutR 32 l).getD 0 []) 0 ∧ dAt ((cutR 32 l).getD 0 []) 0 ≤ 6
  · rw [if_pos hd, if_pos hd]
    cases hj : jw wI (dAt ((cutR 32 l).getD 0 []) 0).toNat (cutR 32 l) with
    | inl t => simp only [none_ not_ok_nil]; rfl
    | inr t =>
      simp only
      rcases NetOk_cases t with ⟨h, e1, _⟩ | ⟨h, _, _⟩
      · rw [e1]
        simp only [Bool.not_true, cond_false]
        rw [I.NetText_y h e1]
        simp only
        rw [text_same h hb]
        by_cases he : tx t = l
        · rw [decide_eq_true he, Bool.not_true, cond_false, if_pos ⟨h, he⟩]
        · rw [decide_eq_false he, Bool.not_false, cond_true, if_neg (fun hc => he hc.2)]
      · rw [if_neg (fun hc => h hc.1)]
        rw [none_ h]; rfl
  · rw [if_neg hd, if_neg hd, none_ not_ok_nil]
    rfl

/-! What is read of a net's text. -/
theorem loopE_all {σ ρ : Type} {f : σ → Nat → ρ ⊕ σ} {h : σ → Nat → σ} (I : Nat → σ → Prop) : ∀ (n : Nat) (s : σ), I 0 s → (∀ k, k < n → ∀ t, I k t → f t k = .inr (h t k) ∧ I (k + 1) (h t k)) → loopE n f s = .inr (fold n h s) ∧ I n (fold n h s) := by
  intro n
  induction n with
  | zero => intro s h0 _; exact ⟨rfl, h0⟩
  | succ n ih =>
    intro s h0 hs
    obtain ⟨e, hi⟩ := ih s h0 (fun k hk => hs k (by omega))
    obtain ⟨e2, hi2⟩ := hs n (by omega) _ hi
    rw [loopE_succ e, fold_succ]
    exact ⟨e2, hi2⟩
theorem jw_tx {g : List Int → Int × Int} {T : List Int} (h : Ok T) (hg : ∀ p : Nat × Nat, p.1 < 6 → p.2 < 6 → g (tw p) = ((p.1 : Int), (p.2 : Int))) : jw g T.length (cutR 32 (tx T)) = .inr T := by
  have h6 := h.hi
  obtain ⟨hP, hl⟩ := pairs_in h
  unfold jw
  rw [cut_tx]
  simp only [List.length_cons, List.length_map, Nat.add_sub_cancel]
  have := (loopE_all (f := jwF g ([48 + (T.length : Int)] :: (pairs T).map tw)) (h := fun t i => addWire t (pt (pairs T) i).1 (pt (pairs T) i).2) (fun k t => t.length = T.length) (pairs T).length (List.replicate T.length 0) (by simp) (fun k hk t ht => by
    have hp := hP _ (pt_mem hk)
    refine ⟨?_, by rw [addWire_len]; exact ht⟩
    unfold jwF
    have e : (([48 + (T.length : Int)] :: (pairs T).map tw).getD (1 + k) []) = tw (pt (pairs T) k) := by
      rw [Nat.add_comm]
      unfold pt
      simp [List.getD, hk]
    rw [e, hg _ (by omega) (by omega), if_pos ⟨⟨by simp, by simp only [ht]; omega⟩, by simp, by simp only [ht]; omega⟩]
    rfl)).1
  rw [this]
  congr 1
  exact jn_pairs h
theorem wS_tw (p : Nat × Nat) (h1 : p.1 < 6) (h2 : p.2 < 6) : wS (tw p) = ((p.1 : Int), (p.2 : Int)) := by
  unfold wS
  rw [cut_tw]
  show (dgt [48 + (p.1 : Int)], dgt [48 + (p.2 : Int)]) = _
  rw [dgt_one (by omega), dgt_one (by omega)]
theorem dAt_of {w : List Int} {k n : Nat} (hk : k < w.length) (e : D.eli w k = 48 + (n : Int)) (h : n ≤ 9) : dAt w k = n := by
  unfold dAt
  rw [if_pos ⟨hk, by omega, by omega⟩]; omega
theorem wI_tw (p : Nat × Nat) (h1 : p.1 < 6) (h2 : p.2 < 6) : wI (tw p) = ((p.1 : Int), (p.2 : Int)) := by
  unfold wI
  rw [dAt_of (n := p.1) (by simp [tw]) rfl (by omega), dAt_of (n := p.2) (by simp [tw]) rfl (by omega)]
theorem readR_no {d : Int} {x : List Int ⊕ List Int} {l : List Int} (h : ∀ T, Ok T → tx T ≠ l) : readR d x l = (false, []) := by
  unfold readR
  split
  · cases x with
    | inl t => rfl
    | inr t =>
      simp only
      rw [if_neg (fun hc => h t hc.1 hc.2)]
  · rfl
/-- What both read: a net by its text alone. -/
theorem NetRead_two {l : List Int} (hb : Bytes l) : ∃ r, S.NetRead_t (bytesOf l) = some r ∧ I.NetRead_t (bytesOf l) = some r ∧ ((∃ T, Ok T ∧ tx T = l ∧ r = (true, T)) ∨ ((∀ T, Ok T → tx T ≠ l) ∧ r = (false, []))) := by
  by_cases hT : ∃ T, Ok T ∧ tx T = l
  · obtain ⟨T, h, rfl⟩ := hT
    have h1 := h.lo
    have h6 := h.hi
    have hs := tx_short h
    have w0 : (cutR 32 (tx T)).getD 0 [] = [48 + (T.length : Int)] := by rw [cut_tx]; rfl
    refine ⟨(true, T), ?_, ?_, .inl ⟨T, h, rfl, rfl⟩⟩
    · rw [S.NetRead_f hb (by omega), w0, dgt_one (by omega), Int.toNat_natCast, jw_tx h wS_tw]
      unfold readR
      rw [if_pos (by omega)]
      simp only
      rw [if_pos ⟨h, rfl⟩]
    · rw [I.NetRead_f hb (by omega), w0, dAt_of (n := T.length) (by simp) rfl (by omega), Int.toNat_natCast, jw_tx h wI_tw]
      unfold readR
      rw [if_pos (by omega)]
      simp only
      rw [if_pos ⟨h, rfl⟩]
  · have hno : ∀ T, Ok T → tx T ≠ l := fun T h e => hT ⟨T, h, e⟩
    refine ⟨(false, []), ?_, ?_, .inr ⟨hno, rfl⟩⟩
    · by_cases hl : l.length ≤ 100
      · rw [S.NetRead_f hb hl, readR_no hno]
      · unfold S.NetRead_t S.NetRead_tree
        rw [size_of, cnd_t (by rw [decide_eq_true_eq]; omega)]
    · by_cases hl : l.length ≤ 100
      · rw [I.NetRead_f hb hl, readR_no hno]
      · unfold I.NetRead_t I.NetRead_tree
        rw [size_of, cnd_t (by rw [decide_eq_true_eq]; omega)]
end Go.Proofs.Ytjaklmemllbeiaa
/- The laws of chapter 2: WatchOk, LeastWatchOk, FewestWatch, WatchOf. Conditions: those of each theorem. -/
namespace Go.Proofs.Ytjaklmemllbeiaa
open D Go.RowKit
set_option linter.unusedVariables false
set_option linter.unusedSimpArgs false


end Go.Proofs.Ytjaklmemllbeiaa
/- The laws of chapter 2: ThinnedWatch, WatchCounts, LeastWatches. Conditions: those of each theorem. -/
namespace Go.Proofs.Ytjaklmemllbeiaa
open D Go.RowKit
set_option linter.unusedVariables false
set_option linter.unusedSimpArgs false


/-! ### Counts -/
def cw (net : List Int) (j : Nat) : Nat := cnt (2 ^ net.length) (fun s => W net s && (size s == j))
theorem L.sameInts_is {a : List Int} (ha : a.length ≤ 1000000) : L.sameInts_t a a = some true := by
  unfold L.sameInts_t L.sameInts_tree
  have := (run_for (run := L.sameInts_run4 a a) (len := a.length) (fun k (_ : Unit) => (k : Int)) (fun t k => ()) (fun t => Sum.inr ()) (fun k t => True) (by omega) (fun n k t hk ht => ?_) (fun n t ht => ?_) (t0 := ()) trivial).1
  · rw [cnd_f (by simp), show L.sameInts_run4 a a FUEL 0 = _ from this]
    rfl
  · refine ⟨?_, trivial⟩
    simp only [L.sameInts_run4, L.sameInts_step4]
    rw [cnd_t (by simp; omega), cnd_t (by simp; omega), cnd_t (by simp; omega), cnd_f (by simp), add1_nat (by omega)]
  · simp only [L.sameInts_run4, L.sameInts_step4]
    rw [cnd_f (by simp)]
/-! ### Least watches -/
end Go.Proofs.Ytjaklmemllbeiaa
/- Laws of texts of nets. Conditions: those of each theorem. -/
namespace Go.Proofs.Ytjaklmemllbeiaa
open D Go.RowKit
set_option linter.unusedVariables false
set_option linter.unusedSimpArgs false


theorem S.DrawNetText_is {code : List Int} (hb : Bytes code) : ∃ net, S.DrawNetText_t code = some net ∧ net.length ≤ 6 := by
  unfold S.DrawNetText_t S.DrawNetText_tree
  obtain ⟨rb, e1, h1, h2⟩ := S.l20Open_is hb
  rw [e1]
  simp only [optC]
  obtain ⟨rp', net, e2, _, _, h3⟩ := S.l20Net_is (n := 9) h1 h2 (Int.le_refl 0) (by decide)
  rw [e2]
  exact ⟨_, rfl, h3⟩
theorem NetText_two (net : List Int) : ∃ l, S.NetText_t net = some (bytesOf l) ∧ I.NetText_t net = some (bytesOf l) ∧ Bytes l ∧ l.length ≤ 61 := by
  rcases NetOk_cases net with ⟨h, e1, e2⟩ | ⟨_, e1, e2⟩
  · exact ⟨_, S.NetText_y h e2, I.NetText_y h e1, tx_bytes h, tx_short h⟩
  · exact ⟨[], S.NetText_x e2, I.NetText_x e1, fun x hx => (by cases hx), by simp⟩
theorem L.FnNetText_is {code : List Int} (hm : code.length ≤ maxLen) (hw : ∀ n ∈ code, (Lit.int .u8 n).wf = true) : L.FnNetText_t code = some true := by
  unfold L.FnNetText_t L.FnNetText_tree
  by_cases hc : (code.length : Int) > 1048576
  · rw [cnd_t (by simpa using hc)]
  rw [cnd_f (by simpa using hc)]
  obtain ⟨net, e1, h1⟩ := S.DrawNetText_is (Bytes.wf hw)
  rw [e1]
  simp only [optC]
  rcases NetOk_cases net with ⟨h, g1, g2⟩ | ⟨_, g1, g2⟩
  · rw [I.NetText_y h g1, S.NetText_y h g2]
    simp only
    rw [strEq_self, g1]
    simp only [Bool.not_true, cond_false]
    obtain ⟨r, _, r2, hr⟩ := NetRead_two (tx_bytes h)
    rw [r2]
    rcases hr with ⟨T, hT, eT, rfl⟩ | ⟨hn, _⟩
    · have := tx_inj hT h eT
      subst this
      simp only [cond_true]
      rw [L.sameInts_is (by omega)]
      first | done | simp
    · exact absurd rfl (hn net h)
  · rw [I.NetText_x g1, S.NetText_x g2]
    simp only
    rw [strEq_self, g1, no_is, strEq_self, L.alive_is]
    rfl
theorem pieces : ∀ k, k < 6 → (D.els [ByteArray.mk #[], ByteArray.mk #[32], ByteArray.mk #[48], ByteArray.mk #[45], ByteArray.mk #[54], ByteArray.mk #[120]] k).size ≤ 1 := by decide
theorem S.l20Text_is {rb : List Int} {rp : Int} (hb : Bytes rb) (hl : rb.length ≤ 2000) (h0 : 0 ≤ rp) (h1 : rp ≤ 500000) :
    ∃ s rp', S.l20Text_t rb rp = some (s, rb, rp') ∧ rp ≤ rp' ∧ rp' ≤ rp + 210 ∧ s.size ≤ 130 := by
  unfold S.l20Text_t S.l20Text_tree
  obtain ⟨rp1, net, e2, a1, a2, h3⟩ := S.l20Net_is (n := 30) hb hl h0 (by omega)
  rw [e2]
  simp only [optC]
  obtain ⟨l, t1, _, lb, ll⟩ := NetText_two net
  rw [t1]
  simp only
  by_cases hn : l = []
  · subst hn
    rw [no_is, strEq_self]
    exact ⟨_, _, rfl, by omega, by omega, by simp [size_of]⟩
  · have hpos : 1 ≤ l.length := by cases l <;> simp_all
    have hne : strEq (bytesOf l) (ByteArray.mk #[]) = false := by
      rw [no_is, strEq_bytes lb (fun x hx => (by cases hx))]
      exact decide_eq_false hn
    rw [hne]
    simp only [Bool.not_false, cond_true]
    obtain ⟨x, ex, x1, x2⟩ := S.l20Rd_pick_is (rp := rp1) (n := 4) hb hl (by omega) (by omega)
    rw [ex]
    simp only
    by_cases hx : x = 0
    rotate_left
    · rw [cnd_f (by simpa using hx)]
      exact ⟨_, _, rfl, by omega, by omega, by rw [size_of]; omega⟩
    rw [cnd_t (by simpa using hx), size_of]
    obtain ⟨y, ey, y1, y2⟩ := S.l20Rd_pick_is (rp := rp1 + 1) (n := (l.length : Int)) hb hl (by omega) (by omega)
    have y3 := y2 (by omega)
    rw [ey]
    simp only
    rw [cnd_t (by simp only [Bool.and_eq_true, decide_eq_true_eq]; omega)]
    obtain ⟨z, ez, z1, z2⟩ := S.l20Rd_pick_is (rp := rp1 + 1 + 1) (n := 6) hb hl (by omega) (by omega)
    have z3 := z2 (by omega)
    rw [ez]
    simp only
    have hz := pieces z.toNat (by omega)
    have hs : ∀ a b, ((bytesOf l).extract a b).size ≤ l.length := fun a b => by rw [ByteArray.size_extract, size_of]; omega
    rw [cnd_t (by simp only [Bool.and_eq_true, decide_eq_true_eq]; simp; omega), cnd_t (by rw [decide_eq_true_eq]; simp; omega), cnd_t (small_of (by have := hs 0 (0 + y.toNat); omega))]
    obtain ⟨u, eu, u1, u2⟩ := S.l20Rd_pick_is (rp := rp1 + 1 + 1 + 1) (n := 2) hb hl (by omega) (by omega)
    have u3 := u2 (by omega)
    rw [eu]
    simp only
    rw [i64_wrap (n := y + u) (by omega) (by omega), cnd_t (by simp only [Bool.and_eq_true, decide_eq_true_eq]; omega)]
    have q1 := hs 0 (0 + y.toNat)
    have q2 := hs (y + u).toNat ((y + u).toNat + (l.length - (y + u).toNat))
    rw [cnd_t (small_of (by rw [ByteArray.size_append]; omega))]
    refine ⟨_, _, rfl, by omega, by omega, ?_⟩
    rw [ByteArray.size_append, ByteArray.size_append]; omega
theorem S.DrawNetRead_is {code : List Int} (hb : Bytes code) : ∃ s, S.DrawNetRead_t code = some s := by
  unfold S.DrawNetRead_t S.DrawNetRead_tree
  obtain ⟨rb, e1, h1, h2⟩ := S.l20Open_is hb
  rw [e1]
  simp only [optC]
  obtain ⟨s, rp', e2, _⟩ := S.l20Text_is h1 h2 (Int.le_refl 0) (by omega)
  rw [e2]
  exact ⟨_, rfl⟩
theorem L.FnNetRead_is {code : List Int} (hm : code.length ≤ maxLen) (hw : ∀ n ∈ code, (Lit.int .u8 n).wf = true) : L.FnNetRead_t code = some true := by
  unfold L.FnNetRead_t L.FnNetRead_tree
  by_cases hc : (code.length : Int) > 1048576
  · rw [cnd_t (by simpa using hc)]
  rw [cnd_f (by simpa using hc)]
  obtain ⟨s, e1⟩ := S.DrawNetRead_is (Bytes.wf hw)
  rw [e1, ← bytesOf_lst s]
  simp only [optC]
  obtain ⟨r, r1, r2, hr⟩ := NetRead_two (lst_bytes s)
  rw [r1, r2]
  rcases hr with ⟨T, hT, eT, rfl⟩ | ⟨hn, rfl⟩
  · have h6 := hT.hi
    simp only
    rw [L.sameInts_is (by omega)]
    rcases NetOk_cases T with ⟨_, g1, _⟩ | ⟨hno, _, _⟩
    · rw [I.NetText_y hT g1, eT]
      simp [strEq_self, L.alive_is]
    · exact absurd hT hno
  · simp only
    rw [L.sameInts_is (by simp)]
    simp [L.alive_is]
end Go.Proofs.Ytjaklmemllbeiaa
/- Exact laws of texts of nets. Conditions: those of each theorem. -/
namespace Go.Proofs.Ytjaklmemllbeiaa
open D Go.RowKit
set_option linter.unusedVariables false
set_option linter.unusedSimpArgs false


theorem NetText_same {a0 : List Int} : ∃ v, S.NetText_t a0 = some v ∧ I.NetText_t a0 = some v := by
  rcases NetOk_cases a0 with ⟨h, e1, e2⟩ | ⟨_, e1, e2⟩
  · exact ⟨_, S.NetText_y h e2, I.NetText_y h e1⟩
  · exact ⟨_, S.NetText_x e2, I.NetText_x e1⟩
theorem L.FnExactNetText_is {a0 : List Int} : L.FnExactNetText_t a0 = some true := by
  unfold L.FnExactNetText_t L.FnExactNetText_tree
  by_cases ha0 : (a0.length : Int) > 1048576
  · rw [cnd_t (by simpa using ha0)]
  rw [cnd_f (by simpa using ha0)]
  have ta0 := L.toIntS_is (a := a0) (by omega)
  have ea0 := L.eqIntS_is (a := a0) (b := a0) (by omega)
  obtain ⟨v, h1, h2⟩ := NetText_same (a0 := a0)
  simp only [optC, ta0, ea0, h1, h2, strEq_self]
  simp
theorem L.FnExactNetRead_is {s : ByteArray} : L.FnExactNetRead_t s = some true := by
  unfold L.FnExactNetRead_t L.FnExactNetRead_tree
  by_cases ha0 : (s.size : Int) > 1048576
  · rw [cnd_t (by simpa using ha0)]
  rw [cnd_f (by simpa using ha0)]
  obtain ⟨r, r1, r2, hr⟩ := NetRead_two (lst_bytes s)
  rw [bytesOf_lst] at r1 r2
  have hl : r.2.length ≤ 6 := by
    rcases hr with ⟨T, hT, _, rfl⟩ | ⟨_, rfl⟩
    · exact hT.hi
    · simp
  obtain ⟨m, m1, m4⟩ := L.marked (v := r.2) (by omega)
  have ev := L.eqIntS_is (a := r.2) (b := r.2) (by omega)
  simp only [optC, r1, r2, ev, m1, m4, decide_true, Bool.not_true, cond_false, neg_nat, not_beq_self]
  simp
end Go.Proofs.Ytjaklmemllbeiaa
