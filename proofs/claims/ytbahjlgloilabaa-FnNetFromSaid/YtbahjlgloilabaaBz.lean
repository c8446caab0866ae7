/- Several texts in one: Nt1, Nt2, Nt3, Str, N1, N2, N4, Chap1, Ch3, Ch5, Ch6, Tree, Lf, Ch7, Ch9, Hall, Ch10, Shift, N3, Ex, Ex2, S3, Dr, Dr2, Dr3, S6, S6b, S7, S8, Pm, Br3, I3, I6, Fl, Ch11, Ch13, Ch13b, Ch13c, Ch15, Ot, S9, S10, S13, I5, J7, S8b, J8, S9b, J9, Kuhn, Jm, J10, J13, Ch14, J14, L2, L3, Set, L14. Conditions: those of each theorem. -/
import Derived.Test.YtbahjlgloilabaaBza2
import Derived.Test.YtbahjlgloilabaaBzTz
/- What the laws' own small functions come to. Conditions: those of each theorem. -/
namespace Go.Proofs.Ytbahjlgloilabaa
open D Go.RowKit
set_option linter.unusedVariables false
set_option linter.unusedSimpArgs false


end Go.Proofs.Ytbahjlgloilabaa
/- What is a net: the program's test and the model's come to the same. Conditions: those of each theorem. -/
namespace Go.Proofs.Ytbahjlgloilabaa
open D Go.RowKit
set_option linter.unusedVariables false
set_option linter.unusedSimpArgs false


theorem i64_bits : IntKind.i64.bits = 64 := by kernel_rfl
def hasI (s : Int) (p : Nat) : Bool := (s.fdiv (2 ^ min p 64)) % 2 == 1
theorem I.hasPlace_is {s p : Int} (hp : 0 ≤ p) : I.hasPlace_t s p = some (hasI s p.toNat) := by
  unfold I.hasPlace_t I.hasPlace_tree
  rw [cnd_f (by simp; omega), i64_and1, i64_bits]
  rfl
theorem I.setIn_is {net : List Int} {s : Int} (hl : net.length ≤ 6) : I.setIn_t net s = some (decide (0 ≤ s ∧ s < 2 ^ net.length)) := by
  unfold I.setIn_t I.setIn_tree
  have e : IntKind.i64.wrap (1 * 2 ^ min (↑net.length : Int).toNat IntKind.i64.bits) = 2 ^ net.length := by
    rw [i64_bits, Int.toNat_natCast, Int.one_mul]
    generalize net.length = k at hl
    match k, hl with
    | 0, _ | 1, _ | 2, _ | 3, _ | 4, _ | 5, _ | 6, _ => exact i64_wrap (by decide) (by decide)
  by_cases h : 0 ≤ s
  · rw [cnd_t (by simpa using h), e]; simp [h]
  · rw [cnd_f (by simpa using h)]; simp [h]
theorem I.knownBack_is {net : List Int} {p : Int} (hl : net.length ≤ 6) (h0 : 0 ≤ p) (h1 : p < net.length) :
    I.knownBack_t net p = some ((List.range net.length).all fun q => !hasI (eli net p.toNat) q || hasI (eli net q) p.toNat) := by
  unfold I.knownBack_t I.knownBack_tree
  rw [run_all (run := I.knownBack_run2 net p) (len := net.length) (fun q => !hasI (eli net p.toNat) q || hasI (eli net q) p.toNat) (by omega) (fun n x hx0 hx1 => by
    simp only [I.knownBack_run2, I.knownBack_step2]
    by_cases hx : x < (net.length : Int)
    · rw [if_pos hx, cnd_t (by simpa using hx), cnd_t (by simp; omega), I.hasPlace_is hx0]
      simp only [optC]
      cases ha : hasI (eli net p.toNat) x.toNat with
      | false => simp only [cond_false, Bool.not_false, Bool.true_or, cond_true]; rw [i64_wrap (by omega) (by omega)]
      | true =>
        rw [cond_true, cnd_t (by simp; omega), I.hasPlace_is h0]
        simp only [optC]
        cases hb : hasI (eli net x.toNat) p.toNat with
        | false => rfl
        | true => simp only [Bool.not_true, cond_false, Bool.or_true, cond_true]; rw [i64_wrap (by omega) (by omega)]
    · rw [if_neg hx, cnd_f (by simpa using hx)])]
  cases (List.range net.length).all _ <;> rfl
theorem I.NetOk_is {net : List Int} : I.NetOk_t net = some (decide (1 ≤ net.length) && decide (net.length ≤ 6) && (List.range net.length).all fun p =>
    decide (0 ≤ eli net p ∧ eli net p < 2 ^ net.length) && !hasI (eli net p) p && (List.range net.length).all fun q => !hasI (eli net p) q || hasI (eli net q) p) := by
  unfold I.NetOk_t I.NetOk_tree
  rcases Nat.lt_or_ge net.length 1 with hlo | hlo
  · rw [cnd_t (by simp; omega), decide_eq_false (by omega : ¬ 1 ≤ net.length)]; rfl
  rw [cnd_f (by simp; omega)]
  rcases Nat.lt_or_ge 6 net.length with hl | hl
  · rw [cnd_t (by simp; omega), decide_eq_false (by omega : ¬ net.length ≤ 6), Bool.and_false]; rfl
  rw [cnd_f (by simp; omega)]
  rw [run_all (run := I.NetOk_run4 net) (len := net.length) (fun p => decide (0 ≤ eli net p ∧ eli net p < 2 ^ net.length) && !hasI (eli net p) p && (List.range net.length).all fun q => !hasI (eli net p) q || hasI (eli net q) p) (by omega) (fun n x hx0 hx1 => by
    simp only [I.NetOk_run4, I.NetOk_step4]
    by_cases hx : x < (net.length : Int)
    · rw [if_pos hx, cnd_t (by simpa using hx), cnd_t (by simp; omega), I.setIn_is hl]
      simp only [optC]
      cases ha : decide (0 ≤ eli net x.toNat ∧ eli net x.toNat < 2 ^ net.length) with
      | false => rfl
      | true =>
        rw [Bool.not_true, cond_false, cnd_t (by simp; omega), I.hasPlace_is hx0]
        simp only [optC]
        cases hb : hasI (eli net x.toNat) x.toNat with
        | true => rfl
        | false =>
          rw [cond_false, I.knownBack_is hl hx0 hx]
          simp only [optC]
          cases hc : (List.range net.length).all fun q => !hasI (eli net x.toNat) q || hasI (eli net q) x.toNat with
          | false => rfl
          | true => simp only [Bool.not_true, Bool.not_false, cond_false, Bool.and_true, cond_true]; rw [i64_wrap (by omega) (by omega)]
    · rw [if_neg hx, cnd_f (by simpa using hx)])]
  simp only [hlo, hl, decide_true, Bool.true_and]
  cases (List.range net.length).all _ <;> rfl
def bitS (s : Int) (p : Nat) : Int := (s.fdiv (2 ^ min p 64)).tmod 2
theorem S.l1In_is {x a b : Int} : S.l1In_t x a b = some (decide (a ≤ x ∧ x ≤ b)) := by
  unfold S.l1In_t S.l1In_tree
  by_cases h : a ≤ x
  · rw [cnd_t (by simpa using h)]; simp [h]
  · rw [cnd_f (by simpa using h)]; simp [h]
theorem S.NetOk_is {net : List Int} : S.NetOk_t net = some (decide (1 ≤ net.length) && decide (net.length ≤ 6) &&
    ((List.range net.length).all fun p => decide (0 ≤ eli net p ∧ eli net p < 2 ^ net.length)) && (List.range net.length).all fun p =>
    (List.range net.length).all fun q => bitS (eli net p) q == bitS (eli net q) p && !(q == p && bitS (eli net p) q == 1)) := by
  unfold S.NetOk_t S.NetOk_tree
  rw [S.l1In_is]
  simp only [optC]
  rcases Nat.lt_or_ge net.length 1 with hlo | hlo
  · rw [decide_eq_false (by omega : ¬ 1 ≤ net.length), decide_eq_false (by omega : ¬ ((1 : Int) ≤ (net.length : Int) ∧ (net.length : Int) ≤ 6))]; rfl
  rcases Nat.lt_or_ge 6 net.length with hl | hl
  · rw [decide_eq_false (by omega : ¬ net.length ≤ 6), decide_eq_false (by omega : ¬ ((1 : Int) ≤ (net.length : Int) ∧ (net.length : Int) ≤ 6)), Bool.and_false]; rfl
  rw [decide_eq_true (by omega : ((1 : Int) ≤ (net.length : Int) ∧ (net.length : Int) ≤ 6)), Bool.not_true, cond_false]
  have e : IntKind.i64.wrap (IntKind.i64.wrap (1 * 2 ^ min (↑net.length : Int).toNat IntKind.i64.bits) - 1) = 2 ^ net.length - 1 := by
    rw [i64_bits, Int.toNat_natCast, Int.one_mul]
    generalize net.length = k at hl
    match k, hl with
    | 0, _ | 1, _ | 2, _ | 3, _ | 4, _ | 5, _ | 6, _ => rw [i64_wrap (n := 2 ^ min _ 64) (by decide) (by decide)]; exact i64_wrap (by decide) (by decide)
  rw [run_all (run := S.NetOk_run4 net) (len := net.length) (fun p => decide (0 ≤ eli net p ∧ eli net p < 2 ^ net.length)) (by omega) (fun n x hx0 hx1 => by
    simp only [S.NetOk_run4, S.NetOk_step4]
    by_cases hx : x < (net.length : Int)
    · rw [if_pos hx, cnd_t (by simpa using hx), cnd_t (by simp; omega), S.l1In_is, e]
      simp only [optC]
      have : decide (0 ≤ eli net x.toNat ∧ eli net x.toNat ≤ 2 ^ net.length - 1) = decide (0 ≤ eli net x.toNat ∧ eli net x.toNat < 2 ^ net.length) := decide_eq_decide.2 (by omega)
      rw [this]
      cases decide (0 ≤ eli net x.toNat ∧ eli net x.toNat < 2 ^ net.length) with
      | false => rfl
      | true => simp only [Bool.not_true, cond_false, cond_true]; rw [i64_wrap (by omega) (by omega)]
    · rw [if_neg hx, cnd_f (by simpa using hx)])]
  have inner : ∀ p : Int, 0 ≤ p → p < net.length → S.NetOk_run12 net p FUEL 0 = some (bif (List.range net.length).all (fun q => bitS (eli net p.toNat) q == bitS (eli net q) p.toNat && !(q == p.toNat && bitS (eli net p.toNat) q == 1)) then .inr () else .inl false) := by
    intro p hp0 hp1
    refine run_all (run := S.NetOk_run12 net p) (len := net.length) _ (by omega) (fun n x hx0 hx1 => ?_)
    simp only [S.NetOk_run12, S.NetOk_step12]
    by_cases hx : x < (net.length : Int)
    · rw [if_pos hx, cnd_t (by simpa using hx), cnd_t (by simp; omega), cnd_f (by simp; omega), cnd_t (by simp; omega), cnd_f (by simp; omega), i64_bits]
      show (bif !(bitS (eli net p.toNat) x.toNat == bitS (eli net x.toNat) p.toNat) then _ else _) = _
      cases ha : (bitS (eli net p.toNat) x.toNat == bitS (eli net x.toNat) p.toNat) with
      | false => rfl
      | true =>
        rw [Bool.not_true, cond_false, Bool.true_and]
        by_cases hxp : x = p
        · subst hxp
          rw [cnd_t (by simp), cnd_t (by simp; omega), cnd_f (by simp; omega), BEq.rfl, Bool.true_and]
          show (bif (bitS (eli net x.toNat) x.toNat == 1) then _ else _) = _
          cases (bitS (eli net x.toNat) x.toNat == 1) with
          | true => rfl
          | false => simp only [cond_false, Bool.not_false, cond_true]; rw [i64_wrap (by omega) (by omega)]
        · rw [cnd_f (by simpa using hxp)]
          have : (x.toNat == p.toNat) = false := by simp; omega
          rw [this, Bool.false_and, Bool.not_false, cond_true, i64_wrap (by omega) (by omega)]
    · rw [if_neg hx, cnd_f (by simpa using hx)]
  rw [run_all (run := S.NetOk_run9 net) (len := net.length) (fun p => (List.range net.length).all fun q => bitS (eli net p) q == bitS (eli net q) p && !(q == p && bitS (eli net p) q == 1)) (by omega) (fun n x hx0 hx1 => by
    simp only [S.NetOk_run9, S.NetOk_step9]
    by_cases hx : x < (net.length : Int)
    · rw [if_pos hx, cnd_t (by simpa using hx), inner x hx0 hx]
      simp only [optC]
      cases (List.range net.length).all fun q => bitS (eli net x.toNat) q == bitS (eli net q) x.toNat && !(q == x.toNat && bitS (eli net x.toNat) q == 1) with
      | false => rfl
      | true => simp only [cond_true, sumC]; rw [i64_wrap (by omega) (by omega)]
    · rw [if_neg hx, cnd_f (by simpa using hx)])]
  simp only [hlo, hl, decide_true, Bool.true_and]
  cases (List.range net.length).all fun p => decide (0 ≤ eli net p ∧ eli net p < 2 ^ net.length) with
  | false => rfl
  | true =>
    simp only [cond_true, sumC, Bool.true_and]
    cases (List.range net.length).all _ <;> rfl
theorem bitS_is {s : Int} (h : 0 ≤ s) (p : Nat) : bitS s p = if hasI s p = true then 1 else 0 := by
  unfold bitS hasI
  have h2 : (0 : Int) < 2 ^ min p 64 := Int.pow_pos (by decide)
  have h3 : 0 ≤ s.fdiv (2 ^ min p 64) := Int.fdiv_nonneg h (by omega)
  rw [Int.tmod_eq_emod_of_nonneg h3]
  by_cases h4 : s.fdiv (2 ^ min p 64) % 2 = 1
  · simp [h4]
  · have : s.fdiv (2 ^ min p 64) % 2 = 0 := by omega
    simp [this]
theorem NetOk_eq {net : List Int} : I.NetOk_t net = S.NetOk_t net := by
  rw [I.NetOk_is, S.NetOk_is]
  congr 1
  rw [Bool.eq_iff_iff]
  simp only [Bool.and_eq_true, List.all_eq_true, List.mem_range, decide_eq_true_eq, Bool.or_eq_true, Bool.not_eq_true', beq_iff_eq, Bool.and_eq_false_iff, beq_eq_false_iff_ne]
  constructor
  · rintro ⟨⟨h1, h2⟩, h3⟩
    refine ⟨⟨⟨h1, h2⟩, fun p hp => (h3 p hp).1.1⟩, fun p hp q hq => ⟨?_, ?_⟩⟩
    · rw [bitS_is (h3 p hp).1.1.1, bitS_is (h3 q hq).1.1.1]
      have a1 := (h3 p hp).2 q hq
      have a2 := (h3 q hq).2 p hp
      cases ha : hasI (eli net p) q <;> cases hb : hasI (eli net q) p <;> simp_all
    · by_cases hqp : q = p
      · subst hqp
        right
        rw [bitS_is (h3 q hq).1.1.1, (h3 q hq).1.2]
        decide
      · exact .inl hqp
  · rintro ⟨⟨⟨h1, h2⟩, h3⟩, h4⟩
    refine ⟨⟨h1, h2⟩, fun p hp => ⟨⟨h3 p hp, ?_⟩, fun q hq => ?_⟩⟩
    · have := (h4 p hp p hp).2
      rw [bitS_is (h3 p hp).1] at this
      cases ha : hasI (eli net p) p with
      | false => rfl
      | true => rw [ha] at this; simp at this
    · have := (h4 p hp q hq).1
      rw [bitS_is (h3 p hp).1, bitS_is (h3 q hq).1] at this
      cases ha : hasI (eli net p) q <;> cases hb : hasI (eli net q) p <;> simp_all
end Go.Proofs.Ytbahjlgloilabaa
/- What drawn nets are. Conditions: those of each theorem. -/
namespace Go.Proofs.Ytbahjlgloilabaa
open D Go.RowKit
set_option linter.unusedVariables false
set_option linter.unusedSimpArgs false


/-- A code of bytes. -/
def Bytes (rb : List Int) : Prop := ∀ n ∈ rb, 0 ≤ n ∧ n ≤ 255
theorem Bytes.eli {rb : List Int} (h : Bytes rb) (k : Nat) : 0 ≤ D.eli rb k ∧ D.eli rb k ≤ 255 := by
  by_cases hk : k < rb.length
  · have : D.eli rb k = rb[k] := by simp [D.eli, List.getD, hk]
    rw [this]; exact h _ (List.getElem_mem hk)
  · have : D.eli rb k = 0 := by simp [D.eli, List.getD, List.getElem?_eq_none (by omega : rb.length ≤ k)]
    rw [this]; decide
theorem Bytes.wf {rb : List Int} (h : ∀ n ∈ rb, (Lit.int .u8 n).wf = true) : Bytes rb := fun n hn => by
  have := h n hn
  have e1 : IntKind.u8.min = 0 := by kernel_rfl
  have e2 : IntKind.u8.max = 255 := by kernel_rfl
  simpa [Lit.wf, e1, e2] using this

theorem xor_pos {a b : Int} (ha : 0 ≤ a ∧ a < 9223372036854775808) (hb : 0 ≤ b ∧ b < 9223372036854775808) : 0 ≤ bits .xor .i64 a b := by
  obtain ⟨x, rfl⟩ := Int.eq_ofNat_of_zero_le ha.1
  obtain ⟨y, rfl⟩ := Int.eq_ofNat_of_zero_le hb.1
  rw [i64_xor_nat x y (by omega) (by omega)]
  omega

theorem S.l20Rd_pick_is {rb : List Int} {rp n : Int} (hb : Bytes rb) (hl : rb.length ≤ 2000) (h0 : 0 ≤ rp) (h1 : rp ≤ 1099511627776) :
    ∃ v, S.l20Rd_pick_t rb rp n = some (v, rb, rp + 1) ∧ 0 ≤ v ∧ (1 ≤ n → v < n) := by
  unfold S.l20Rd_pick_t S.l20Rd_pick_tree
  have e1 : IntKind.i64.wrap (rp + 1) = rp + 1 := i64_wrap (by omega) (by omega)
  have e2 : IntKind.i64.wrap (rp + 1 - 1) = rp := by rw [i64_wrap (by omega) (by omega)]; omega
  rw [e1, e2]
  by_cases hn : n < 1
  · rw [cnd_t (by simpa using hn)]; exact ⟨_, rfl, Int.le_refl _, fun h => by omega⟩
  rw [cnd_f (by simpa using hn)]
  by_cases hz : rb.length = 0
  · rw [cnd_t (by simp [hz])]; exact ⟨_, rfl, Int.le_refl _, fun h => by omega⟩
  have hnz : (n == 0) = false := by simp; omega
  have hlz : ((rb.length : Int) == 0) = false := by simp; exact fun h => hz (by simp [h])
  rw [cnd_f hlz]
  have fin : ∀ x : Int, 0 ≤ x → 0 ≤ x.tmod n ∧ (1 ≤ n → x.tmod n < n) := fun x hx => ⟨Int.tmod_nonneg _ hx, fun h => Int.tmod_lt_of_pos _ (by omega)⟩
  by_cases hx : rp < rb.length
  · rw [cnd_t (by simpa using hx), cnd_t (by simp; omega), cnd_f hnz]
    have hv := hb.eli rp.toNat
    rw [i64_wrap (n := D.eli rb rp.toNat) (by omega) (by omega)]
    exact ⟨_, rfl, fin _ hv.1⟩
  · rw [cnd_f (by simpa using hx), cnd_f hlz]
    have hL : 0 < (rb.length : Int) := by omega
    have m1 : 0 ≤ rp.tmod rb.length := Int.tmod_nonneg _ h0
    have m2 : rp.tmod rb.length < rb.length := Int.tmod_lt_of_pos _ hL
    rw [cnd_t (by simp; omega), cnd_f hlz]
    have e3 : IntKind.i64.wrap (IntKind.i64.wrap (rp * 7) + 3) = rp * 7 + 3 := by rw [i64_wrap (n := rp * 7) (by omega) (by omega)]; exact i64_wrap (by omega) (by omega)
    rw [e3]
    have m3 : 0 ≤ (rp * 7 + 3).tmod rb.length := Int.tmod_nonneg _ (by omega)
    have m4 : (rp * 7 + 3).tmod rb.length < rb.length := Int.tmod_lt_of_pos _ hL
    rw [cnd_t (by simp; omega), cnd_f hlz, cnd_f hnz]
    have d1 : 0 ≤ rp.tdiv rb.length := Int.tdiv_nonneg h0 (by omega)
    have d2 : rp.tdiv rb.length ≤ rp := Int.tdiv_le_self _ h0
    have v1 := hb.eli (rp.tmod rb.length).toNat
    have v2 := hb.eli ((rp * 7 + 3).tmod rb.length).toNat
    generalize rp.tdiv rb.length = d at d1 d2
    generalize D.eli rb (rp.tmod rb.length).toNat = b1 at v1
    generalize D.eli rb ((rp * 7 + 3).tmod rb.length).toNat = b2 at v2
    have key : ∀ x : Int, 0 ≤ x → x < 9223372036854775808 → 0 ≤ bits .xor .i64 x (IntKind.i64.wrap (x.tdiv 64)) := fun x hx0 hx1 => by
      have a1 : 0 ≤ x.tdiv 64 := Int.tdiv_nonneg hx0 (by decide)
      have a2 : x.tdiv 64 ≤ x := Int.tdiv_le_self _ hx0
      rw [i64_wrap (by omega) (by omega)]
      exact xor_pos ⟨hx0, hx1⟩ ⟨a1, by omega⟩
    refine ⟨_, rfl, fin _ (key _ ?_ ?_)⟩ <;> simp (disch := omega) only [i64_wrap] <;> omega
theorem cnd_case {α : Type} {P : α → Prop} {b : Bool} {x y : α} (h1 : b = true → P x) (h2 : b = false → P y) : P (bif b then x else y) := by
  cases b with
  | true => exact h1 rfl
  | false => exact h2 rfl
theorem S.l20Net_p8 {α : Type} (P : α → Prop) {x1 x5 x7 x8 x9 rp : Int} {rb r : List Int} {next : Int × (List Int) × Int × (List Int) → α} {out : (List Int) × Int × (List Int) → α} {fail : α}
    (hb : Bytes rb) (hl : rb.length ≤ 2000) (h0 : 0 ≤ rp) (h1 : rp ≤ 1099511627000) (h9 : 0 ≤ x9) (h8 : x8 < r.length) (hr : r.length ≤ 1048576)
    (hleaf : x9 < x8 → ∀ rp' r', rp < rp' → rp' ≤ rp + 2 → r'.length = r.length → P (next (x9 + 1, rb, rp', r')))
    (hout : ¬ x9 < x8 → P (out (rb, rp, r))) : P (S.l20Net_step8 x1 x5 x7 x8 x9 rb rp r next out fail) := by
  unfold S.l20Net_step8
  refine cnd_case (P := P) (fun h => ?_) (fun h => hout (by simpa using h))
  have hlt : x9 < x8 := by simpa using h
  obtain ⟨v, hv, _, _⟩ := S.l20Rd_pick_is (n := 3) hb hl h0 (by omega)
  obtain ⟨v', hv', _, _⟩ := S.l20Rd_pick_is (n := 3) (rp := rp + 1) hb hl (by omega) (by omega)
  rw [hv]
  simp only [optC]
  rw [hv']
  simp only [optC]
  rw [i64_wrap (n := x9 + 1) (by omega) (by omega)]
  repeat' first
    | exact hleaf hlt _ _ (by omega) (by omega) (by simp)
    | rw [cnd_t (by simp; omega)]
    | rw [cnd_f (by simp; omega)]
    | refine cnd_case (P := P) (fun _ => ?_) (fun _ => ?_)
theorem S.l20Net_q8 {x1 x5 x7 x8 rp : Int} {rb r : List Int} (hb : Bytes rb) (hl : rb.length ≤ 2000) (h0 : 0 ≤ rp) (h1 : rp ≤ 1099511620000) (hx : 0 ≤ x8) (h8 : x8 < r.length) (h6 : x8 ≤ 100) (hr : r.length ≤ 1048576) :
    ∃ d, S.l20Net_run8 x1 x5 x7 x8 FUEL (0, rb, rp, r) = some d ∧ d.1 = rb ∧ rp ≤ d.2.1 ∧ d.2.1 ≤ rp + 2 * x8 ∧ d.2.2.length = r.length := by
  refine run_post (run := S.l20Net_run8 x1 x5 x7 x8) (fun s => s.2.1 = rb ∧ 0 ≤ s.1 ∧ s.1 ≤ x8 ∧ rp ≤ s.2.2.1 ∧ s.2.2.1 ≤ rp + 2 * s.1 ∧ s.2.2.2.length = r.length) (fun s => (x8 - s.1).toNat) (fun d => d.1 = rb ∧ rp ≤ d.2.1 ∧ d.2.1 ≤ rp + 2 * x8 ∧ d.2.2.length = r.length) ?_ ?_ ?_
  · rintro n ⟨x9, rb', rp', r'⟩ ⟨i0, i1, i2, i3, i4, i5⟩
    simp only at i0 i1 i2 i3 i4 i5
    subst i0
    refine S.l20Net_p8 (x1 := x1) (x5 := x5) (x7 := x7) (x8 := x8) (x9 := x9) (rp := rp') (rb := rb') (r := r') (next := S.l20Net_run8 x1 x5 x7 x8 n) (out := fun d => some d) (fail := none) (fun t => (∃ d, t = some d ∧ (d.1 = rb' ∧ rp ≤ d.2.1 ∧ d.2.1 ≤ rp + 2 * x8 ∧ d.2.2.length = r.length)) ∨ ∃ s', t = S.l20Net_run8 x1 x5 x7 x8 n s' ∧ (s'.2.1 = rb' ∧ 0 ≤ s'.1 ∧ s'.1 ≤ x8 ∧ rp ≤ s'.2.2.1 ∧ s'.2.2.1 ≤ rp + 2 * s'.1 ∧ s'.2.2.2.length = r.length) ∧ (x8 - s'.1).toNat < (x8 - x9).toNat) hb hl (by omega) (by omega) i1 (by omega) (by omega) (fun hlt rp2 r2 a1 a2 a3 => .inr ⟨_, rfl, ⟨rfl, ?_, ?_, ?_, ?_, ?_⟩, ?_⟩) (fun hge => .inl ⟨_, rfl, rfl, ?_, ?_, ?_⟩) <;> simp only <;> omega
  · exact ⟨rfl, by simp only; omega, by simp only; omega, by simp only; omega, by simp only; omega, rfl⟩
  · simp only; omega
theorem S.l20Net_q5 {x1 x5 x7 rp : Int} {rb r : List Int} (hb : Bytes rb) (hl : rb.length ≤ 2000) (h0 : 0 ≤ rp) (h1 : rp ≤ 1099511600000) (hx : 0 ≤ x5) (h5 : x5 = r.length) (h6 : x5 ≤ 6) :
    ∃ d, S.l20Net_run5 x1 x5 x7 FUEL (0, rb, rp, r) = some d ∧ d.1 = rb ∧ rp ≤ d.2.1 ∧ d.2.1 ≤ rp + 100 ∧ d.2.2.length = r.length := by
  refine run_post (run := S.l20Net_run5 x1 x5 x7) (fun s => s.2.1 = rb ∧ 0 ≤ s.1 ∧ s.1 ≤ x5 ∧ rp ≤ s.2.2.1 ∧ s.2.2.1 ≤ rp + 12 * s.1 ∧ s.2.2.2.length = r.length) (fun s => (x5 - s.1).toNat) (fun d => d.1 = rb ∧ rp ≤ d.2.1 ∧ d.2.1 ≤ rp + 100 ∧ d.2.2.length = r.length) ?_ ?_ ?_
  · rintro n ⟨x8, rb', rp', r'⟩ ⟨i0, i1, i2, i3, i4, i5⟩
    simp only at i0 i1 i2 i3 i4 i5
    subst i0
    simp only [S.l20Net_run5, S.l20Net_step5]
    by_cases hlt : x8 < x5
    · rw [cnd_t (by simpa using hlt)]
      obtain ⟨⟨d1, d2, d3⟩, e1, e2, e3, e4, e5⟩ := S.l20Net_q8 (x1 := x1) (x5 := x5) (x7 := x7) (x8 := x8) (r := r') hb hl (by omega : 0 ≤ rp') (by omega) i1 (by omega) (by omega) (by omega)
      simp only at e2 e3 e4 e5
      rw [e1]
      simp only [optC]
      rw [i64_wrap (n := x8 + 1) (by omega) (by omega)]
      refine .inr ⟨_, rfl, ⟨e2, ?_, ?_, ?_, ?_, ?_⟩, ?_⟩ <;> simp only <;> omega
    · rw [cnd_f (by simpa using hlt)]
      refine .inl ⟨_, rfl, rfl, ?_, ?_, ?_⟩ <;> simp only <;> omega
  · exact ⟨rfl, by simp only; omega, by simp only; omega, by simp only; omega, by simp only; omega, rfl⟩
  · simp only; omega
theorem S.l20Rd_odd_is {rb : List Int} {rp n : Int} (hb : Bytes rb) (hl : rb.length ≤ 2000) (h0 : 0 ≤ rp) (h1 : rp ≤ 1099511627776) :
    ∃ b rp', S.l20Rd_odd_t rb rp n = some (b, rb, rp') ∧ rp ≤ rp' ∧ rp' ≤ rp + 1 := by
  unfold S.l20Rd_odd_t S.l20Rd_odd_tree
  by_cases hn : n > 0
  · rw [cnd_t (by simpa using hn)]
    obtain ⟨v, hv, _, _⟩ := S.l20Rd_pick_is (n := n) hb hl h0 h1
    rw [hv]
    exact ⟨_, rp + 1, rfl, by omega, by omega⟩
  · rw [cnd_f (by simpa using hn)]
    exact ⟨_, rp, rfl, by omega, by omega⟩
theorem S.l20Net_is {rb : List Int} {rp n : Int} (hb : Bytes rb) (hl : rb.length ≤ 2000) (h0 : 0 ≤ rp) (h1 : rp ≤ 1000000) :
    ∃ rp' net, S.l20Net_t rb rp n = some (rb, rp', net) ∧ rp ≤ rp' ∧ rp' ≤ rp + 200 ∧ net.length ≤ 6 := by
  unfold S.l20Net_t
  have gen : ∀ {α : Type} (P : α → Prop) (leaf : (List Int) × Int × (List Int) → α) (fail : α), (∀ rp' net, rp ≤ rp' → rp' ≤ rp + 200 → net.length ≤ 6 → P (leaf (rb, rp', net))) → P (S.l20Net_tree rb rp n leaf fail) := by
    intro α P leaf fail hleaf
    unfold S.l20Net_tree
    obtain ⟨v1, e1, a1, a2⟩ := S.l20Rd_pick_is (n := 6) hb hl h0 (by omega)
    have a2' := a2 (by decide)
    rw [e1]
    simp only [optC]
    rw [i64_wrap (n := 1 + v1) (by omega) (by omega)]
    rw [cnd_t (by simp [small]; omega)]
    obtain ⟨v2, e2, _, _⟩ := S.l20Rd_pick_is (n := 4) (rp := rp + 1) hb hl (by omega) (by omega)
    rw [e2]
    simp only
    obtain ⟨⟨d1, d2, d3⟩, e3, f1, f2, f3, f4⟩ := S.l20Net_q5 (x1 := n) (x5 := 1 + v1) (x7 := v2) (rp := rp + 1 + 1) (r := List.replicate (1 + v1).toNat 0) hb hl (by omega) (by omega) (by omega) (by simp; omega) (by omega)
    simp only at f1 f2 f3 f4
    subst f1
    rw [e3]
    simp only [List.length_replicate] at f4 ⊢
    obtain ⟨b, rp4, e4, g1, g2⟩ := S.l20Rd_odd_is (n := n) (rp := d2) hb hl (by omega) (by omega)
    rw [e4]
    simp only
    obtain ⟨v5, e5, _, _⟩ := S.l20Rd_pick_is (n := 3) (rp := rp4) hb hl (by omega) (by omega)
    rw [e5]
    simp only
    have e6 : IntKind.i64.wrap (1 + v1 - 1) = v1 := by rw [i64_wrap (by omega) (by omega)]; omega
    rw [e6]
    repeat' first
      | exact hleaf _ _ (by omega) (by omega) (by (try simp only [List.length_set, List.length_nil]); omega)
      | rw [cnd_t (by simp; omega)]
      | rw [cnd_f (by simp; omega)]
      | refine cnd_case (P := P) (fun _ => ?_) (fun _ => ?_)
  exact gen (fun t => ∃ rp' net, t = some (rb, rp', net) ∧ rp ≤ rp' ∧ rp' ≤ rp + 200 ∧ net.length ≤ 6) (fun d => some d) none (fun rp' net a b c => ⟨rp', net, rfl, a, b, c⟩)
theorem S.l20Open_is {code : List Int} (hb : Bytes code) : ∃ rb, S.l20Open_t code = some (rb, 0) ∧ Bytes rb ∧ rb.length ≤ 2000 := by
  unfold S.l20Open_t S.l20Open_tree
  by_cases h : (code.length : Int) > 2000
  · rw [cnd_t (by simpa using h), cnd_t (by simp; omega)]
    refine ⟨_, rfl, fun n hn => hb n ?_, ?_⟩
    · exact List.mem_of_mem_drop (List.mem_of_mem_take hn)
    · rw [List.length_take]; exact Nat.min_le_left _ _
  · rw [cnd_f (by simpa using h)]
    exact ⟨_, rfl, hb, by omega⟩
end Go.Proofs.Ytbahjlgloilabaa
/- Texts as lists of bytes. Conditions: those of each theorem. -/
namespace Go.Proofs.Ytbahjlgloilabaa
open D Go.RowKit
set_option linter.unusedVariables false
set_option linter.unusedSimpArgs false

theorem toList_loop (bs : ByteArray) : ∀ (n i : Nat) (r : List UInt8), bs.size - i = n → ByteArray.toList.loop bs i r = r.reverse ++ bs.data.toList.drop i := by
  have hsz : bs.size = bs.data.toList.length := by rw [Array.length_toList]; rfl
  intro n
  induction n with
  | zero =>
    intro i r h
    unfold ByteArray.toList.loop
    rw [if_neg (by omega), List.drop_eq_nil_of_le (by omega)]; simp
  | succ n ih =>
    intro i r h
    unfold ByteArray.toList.loop
    rw [if_pos (by omega), ih (i + 1) _ (by omega), List.drop_eq_getElem_cons (i := i) (by omega)]
    have : bs.get! i = bs.data.toList[i]'(by omega) := by
      cases bs with
      | mk d =>
        have hi : i < d.size := (show i < ByteArray.size ⟨d⟩ by omega)
        show d[i]! = _
        simp [hi]
    rw [this]; simp
theorem toList_data (bs : ByteArray) : bs.toList = bs.data.toList := by
  have := toList_loop bs _ 0 [] rfl
  simpa [ByteArray.toList] using this
theorem u8_wrap {n : Int} (h1 : 0 ≤ n) (h2 : n ≤ 255) : IntKind.u8.wrap n = n := by
  rw [IntKind.wrap_u8]; omega
theorem bytesOf_list (xs : List Int) : (bytesOf xs).toList = xs.map fun n => UInt8.ofNat n.toNat := by
  rw [toList_data]; simp [bytesOf]
theorem bytesOf_inj {a b : List Int} (ha : Bytes a) (hb : Bytes b) (h : (bytesOf a).toList = (bytesOf b).toList) : a = b := by
  rw [bytesOf_list, bytesOf_list] at h
  have hl : a.length = b.length := by simpa using congrArg List.length h
  refine List.ext_getElem hl fun k h1 h2 => ?_
  have e : (a.map fun n => UInt8.ofNat n.toNat)[k]'(by simpa using h1) = (b.map fun n => UInt8.ofNat n.toNat)[k]'(by simpa using h2) := by simp only [h]
  simp only [List.getElem_map] at e
  have e2 := congrArg UInt8.toNat e
  have x := ha _ (List.getElem_mem h1)
  have y := hb _ (List.getElem_mem h2)
  simp only [UInt8.toNat_ofNat'] at e2
  omega
theorem strEq_bytes {a b : List Int} (ha : Bytes a) (hb : Bytes b) : strEq (bytesOf a) (bytesOf b) = decide (a = b) := by
  unfold strEq
  rw [Bool.eq_iff_iff, beq_iff_eq, decide_eq_true_eq]
  exact ⟨bytesOf_inj ha hb, fun e => by rw [e]⟩
theorem strEq_self (a : ByteArray) : strEq a a = true := by unfold strEq; exact beq_self_eq_true _
end Go.Proofs.Ytbahjlgloilabaa
/- What the small functions on nets and sets come to, in natural numbers. Conditions: those of each theorem. -/
namespace Go.Proofs.Ytbahjlgloilabaa
open D Go.RowKit
set_option linter.unusedVariables false
set_option linter.unusedSimpArgs false


theorem hasI_nat (s p : Nat) (hp : p ≤ 64) : hasI (s : Int) p = s.testBit p := by
  have h := shr_is s p hp
  unfold hasI
  rw [bits64, Int.toNat_natCast] at h
  rw [h, testBit_div, Bool.eq_iff_iff, beq_iff_eq, beq_iff_eq]
  omega
theorem two_pow_cast (n : Nat) : ((2 : Int) ^ n) = ((2 ^ n : Nat) : Int) := by simp
theorem Ok.of {net : List Int} (h1 : 1 ≤ net.length) (h2 : net.length ≤ 6) (h3 : ∀ p, p < net.length → (0 ≤ eli net p ∧ eli net p < 2 ^ net.length) ∧ hasI (eli net p) p = false ∧ ∀ q, q < net.length → hasI (eli net p) q = true → hasI (eli net q) p = true) : Ok net := by
  have hel : ∀ k, k < net.length → eli net k = (nb net k : Int) := fun k hk => by
    have := (h3 k hk).1.1
    show _ = ((eli net k).toNat : Int)
    omega
  refine ⟨h1, h2, hel, fun k hk => ?_, fun j k hj hk => ?_, fun k hk => ?_⟩
  · have := (h3 k hk).1.2
    rw [hel k hk, two_pow_cast] at this
    omega
  · have a1 := (h3 k hk).2.2 j hj
    have a2 := (h3 j hj).2.2 k hk
    rw [hel k hk, hel j hj, hasI_nat _ _ (by omega), hasI_nat _ _ (by omega)] at a1 a2
    cases hx : (nb net k).testBit j with
    | true => exact (a1 hx).symm
    | false => cases hy : (nb net j).testBit k with
      | false => rfl
      | true => rw [a2 hy] at hx; cases hx
  · have := (h3 k hk).2.1
    rw [hel k hk, hasI_nat _ _ (by omega)] at this
    exact this
theorem NetOk_cases (net : List Int) : (Ok net ∧ I.NetOk_t net = some true ∧ S.NetOk_t net = some true) ∨ (¬ Ok net ∧ I.NetOk_t net = some false ∧ S.NetOk_t net = some false) := by
  rw [← NetOk_eq, I.NetOk_is]
  generalize hb : (decide (1 ≤ net.length) && decide (net.length ≤ 6) && (List.range net.length).all fun p => decide (0 ≤ eli net p ∧ eli net p < 2 ^ net.length) && !hasI (eli net p) p && (List.range net.length).all fun q => !hasI (eli net p) q || hasI (eli net q) p) = b
  cases b with
  | true =>
    left
    simp only [Bool.and_eq_true, List.all_eq_true, List.mem_range, decide_eq_true_eq, Bool.or_eq_true, Bool.not_eq_true'] at hb
    refine ⟨Ok.of hb.1.1 hb.1.2 fun p hp => ⟨(hb.2 p hp).1.1, (hb.2 p hp).1.2, fun q hq hx => ?_⟩, rfl, rfl⟩
    rcases (hb.2 p hp).2 q hq with h | h
    · rw [h] at hx; cases hx
    · exact h
  | false =>
    right
    refine ⟨fun h => ?_, rfl, rfl⟩
    have : (decide (1 ≤ net.length) && decide (net.length ≤ 6) && (List.range net.length).all fun p => decide (0 ≤ eli net p ∧ eli net p < 2 ^ net.length) && !hasI (eli net p) p && (List.range net.length).all fun q => !hasI (eli net p) q || hasI (eli net q) p) = true := by
      simp only [Bool.and_eq_true, List.all_eq_true, List.mem_range, decide_eq_true_eq, Bool.or_eq_true, Bool.not_eq_true']
      have hhi := h.hi
      refine ⟨⟨h.lo, h.hi⟩, fun p hp => ⟨⟨?_, ?_⟩, fun q hq => ?_⟩⟩
      · rw [show eli net p = (nb net p : Int) from h.el p hp, two_pow_cast]
        have := h.lt p hp
        omega
      · rw [show eli net p = (nb net p : Int) from h.el p hp, hasI_nat _ _ (by omega)]; exact h.irr p hp
      · rw [show eli net p = (nb net p : Int) from h.el p hp, show eli net q = (nb net q : Int) from h.el q hq, hasI_nat _ _ (by omega), hasI_nat _ _ (by omega), h.sym q p hq hp]
        cases (nb net q).testBit p <;> simp
    rw [hb] at this; cases this
theorem Ok.eli {net : List Int} (h : Ok net) {k : Nat} (hk : k < net.length) : D.eli net k = (nb net k : Int) := h.el k hk

/-! ### The program's small functions -/
/-! ### The model's small functions -/
end Go.Proofs.Ytbahjlgloilabaa
/- What the functions on watches come to. Conditions: those of each theorem. -/
namespace Go.Proofs.Ytbahjlgloilabaa
open D Go.RowKit
set_option linter.unusedVariables false
set_option linter.unusedSimpArgs false


theorem size_le_len {net : List Int} (h : Ok net) {s : Nat} (hs : s < 2 ^ net.length) : size s ≤ net.length := by
  rw [size_cnt h hs]; exact cnt_le _ _
/-- The fewest guards that watch. -/
def fewest (net : List Int) : Nat := fold (2 ^ net.length) (fun t s => if W net s = true then (if size s < t then size s else t) else t) net.length
/-- The first of the smallest watches. -/
structure First (net : List Int) (r : Nat) : Prop where
  lt : r < 2 ^ net.length
  w : W net r = true
  le : ∀ s, s < 2 ^ net.length → W net s = true → size r ≤ size s
  first : ∀ s, s < r → W net s = true → size r < size s
theorem First.few {net : List Int} {r : Nat} (h : First net r) : Few net (size r) := ⟨⟨r, h.lt, h.w, rfl⟩, h.le⟩
def smallest (net : List Int) : Nat := fold (allOf net) (fun t s => if (decide (size s < size t) && W net s) = true then s else t) (allOf net)
/-! ### Least watches -/
end Go.Proofs.Ytbahjlgloilabaa
/- What the functions of chapter 1 come to. Conditions: those of each theorem. -/
namespace Go.Proofs.Ytbahjlgloilabaa
open D Go.RowKit
set_option linter.unusedVariables false
set_option linter.unusedSimpArgs false


/-! ### Wires -/
def ends (net : List Int) : Nat := sumN net.length (fun k => size (nb net k))
def wires (net : List Int) : Nat := ends net / 2
/-! ### Parts -/
/-! ### Lone places -/
def lone (net : List Int) : Nat := orN net.length (fun k => nb net k == 0) (fun k => 2 ^ k)
end Go.Proofs.Ytbahjlgloilabaa
/- Wires and parts: plain facts. Conditions: those of each theorem. -/
namespace Go.Proofs.Ytbahjlgloilabaa
set_option linter.unusedVariables false
set_option linter.unusedSimpArgs false

theorem cnt_below (N m : Nat) (hm : m ≤ N) : cnt N (fun i => decide (i < m)) = m := by
  induction N with
  | zero => obtain rfl : m = 0 := by omega
            rfl
  | succ N ih =>
    show cnt N (fun i => decide (i < m)) + (decide (N < m)).toNat = m
    by_cases hmN : m ≤ N
    · rw [ih hmN]; simp; omega
    · obtain rfl : m = N + 1 := by omega
      rw [cnt_congr (q := fun _ => true) (fun k hk => by simp; omega), cnt_true]; simp
/-- After m steps from the least places of the parts. -/
def lvl (net : List Int) (m k : Nat) : Bool := (List.range net.length).any fun r => root net r && (steps net (allOf net) m (2 ^ r)).testBit k
def lev (net : List Int) (k : Nat) : Nat := cnt 6 (fun m => !lvl net m k)
end Go.Proofs.Ytbahjlgloilabaa
/- Guards that are needed, guards apart, the chain of numbers: plain facts. Conditions: those of each theorem. -/
namespace Go.Proofs.Ytbahjlgloilabaa
set_option linter.unusedVariables false
set_option linter.unusedSimpArgs false

theorem not_true {b : Bool} (h : ¬ b = true) : b = false := by cases b with
  | true => exact absurd rfl h
  | false => rfl
theorem sees_self (net : List Int) (k : Nat) : (ball net k).testBit k = true := (ball_testBit _ _ _).2 (.inr rfl)
theorem in_lt {net : List Int} {s k : Nat} (hs : s < 2 ^ net.length) (hk : s.testBit k = true) : k < net.length := testBit_lt hs hk

/-! ### Private places -/
def priv (net : List Int) (s g : Nat) : Nat := minus (ball net g) (seen net (s - 2 ^ g))
theorem zero_iff {a : Nat} : a = 0 ↔ ∀ j, a.testBit j = false := by
  constructor
  · rintro rfl j; exact Nat.zero_testBit j
  · intro ha; exact Nat.eq_of_testBit_eq fun j => by rw [ha j, Nat.zero_testBit]
theorem pos_iff {a : Nat} : a ≠ 0 ↔ ∃ j, a.testBit j = true := by
  rw [Ne, zero_iff]
  constructor
  · intro hn
    refine Classical.byContradiction fun hc => hn fun j => not_true fun hj => hc ⟨j, hj⟩
  · rintro ⟨j, hj⟩ ha; rw [ha j] at hj; cases hj
/-- Each guard has a place of its own. -/
def Needs (net : List Int) (s : Nat) : Prop := ∀ g, s.testBit g = true → ∃ j, (ball net g).testBit j = true ∧ ∀ i, s.testBit i = true → (ball net i).testBit j = true → i = g
def needs (net : List Int) (s : Nat) : Bool := (List.range net.length).all fun k => !(s.testBit k && priv net s k == 0)
theorem Needs.mono {net : List Int} {s t : Nat} (hst : ∀ j, t.testBit j = true → s.testBit j = true) (hn : Needs net s) : Needs net t := fun g hg => by
  obtain ⟨j, h1, h2⟩ := hn g (hst g hg)
  exact ⟨j, h1, fun i hi hb => h2 i (hst i hi) hb⟩
theorem Needs.zero (net : List Int) : Needs net 0 := fun g hg => by rw [Nat.zero_testBit] at hg; cases hg
theorem Needs.one (net : List Int) (k : Nat) : Needs net (2 ^ k) := fun g hg => by
  rw [testBit_pow, decide_eq_true_eq] at hg
  subst hg
  exact ⟨k, sees_self net k, fun i hi _ => by rw [testBit_pow, decide_eq_true_eq] at hi; exact hi.symm⟩
theorem or_testBit (s k j : Nat) : (s ||| 2 ^ k).testBit j = true ↔ s.testBit j = true ∨ j = k := by
  rw [Nat.testBit_or, Bool.or_eq_true, testBit_pow, decide_eq_true_eq]
  exact ⟨fun a => a.elim .inl (fun b => .inr b.symm), fun a => a.elim .inl (fun b => .inr b.symm)⟩
theorem or_lt {n s k : Nat} (hs : s < 2 ^ n) (hk : k < n) : s ||| 2 ^ k < 2 ^ n := Nat.or_lt_two_pow hs (Nat.pow_lt_pow_right (by omega) hk)
/-- A set that needs all guards, and does not with any further place. -/
def FullN (net : List Int) (s : Nat) : Prop := Needs net s ∧ ∀ k, k < net.length → s.testBit k = false → ¬ Needs net (s ||| 2 ^ k)
def fullN (net : List Int) (s : Nat) : Bool := ((List.range net.length).all fun k => !(!s.testBit k && needs net (s ||| 2 ^ k))) && needs net s
/-! ### Seen twice -/
/-- The places that two guards of a set see. -/
structure Twice (net : List Int) (s t : Nat) : Prop where
  lt : t < 2 ^ net.length
  bit : ∀ j, t.testBit j = true ↔ ∃ a b, s.testBit a = true ∧ s.testBit b = true ∧ a ≠ b ∧ (ball net a).testBit j = true ∧ (ball net b).testBit j = true
def twice (net : List Int) (s : Nat) : Nat := (fold net.length (fun (t : Nat × Nat) k => if s.testBit k = true then (t.1 ||| ball net k, t.2 ||| (t.1 &&& ball net k)) else t) (0, 0)).2
/-! ### Guards apart -/
def Apart (net : List Int) (s : Nat) : Prop := ∀ j k, s.testBit j = true → s.testBit k = true → (nb net j).testBit k = false
def apart (net : List Int) (s : Nat) : Bool := (near net s &&& s) == 0
theorem Apart.mono {net : List Int} {s t : Nat} (hst : ∀ j, t.testBit j = true → s.testBit j = true) (h : Apart net s) : Apart net t := fun j k hj hk => h j k (hst j hj) (hst k hk)
theorem Apart.zero (net : List Int) : Apart net 0 := fun j k hj _ => by rw [Nat.zero_testBit] at hj; cases hj
theorem Apart.one {net : List Int} (h : Ok net) {k : Nat} (hk : k < net.length) : Apart net (2 ^ k) := fun i j hi hj => by
  rw [testBit_pow, decide_eq_true_eq] at hi hj
  subst hi; subst hj
  exact h.irr _ hk
theorem apart_only {net : List Int} (h : Ok net) {s : Nat} (hs : s < 2 ^ net.length) (ha : Apart net s) {g : Nat} (hg : s.testBit g = true) : ∀ i, s.testBit i = true → (ball net i).testBit g = true → i = g := fun i hi hb => by
  rcases (ball_testBit _ _ _).1 hb with a | a
  · rw [ha i g hi hg] at a; cases a
  · exact a
theorem Apart.needs {net : List Int} (h : Ok net) {s : Nat} (hs : s < 2 ^ net.length) (ha : Apart net s) : Needs net s := fun g hg => ⟨g, sees_self net g, apart_only h hs ha hg⟩
theorem Apart.add {net : List Int} (h : Ok net) {s k : Nat} (hs : s < 2 ^ net.length) (hk : k < net.length) (ha : Apart net s) (hn : ∀ j, s.testBit j = true → (nb net k).testBit j = false) : Apart net (s ||| 2 ^ k) := fun i j hi hj => by
  rw [or_testBit] at hi hj
  rcases hi with hi | hi
  · rcases hj with hj | hj
    · exact ha i j hi hj
    · rw [hj, h.sym k i hk (in_lt hs hi)]; exact hn i hi
  · rcases hj with hj | hj
    · rw [hi]; exact hn j hj
    · rw [hi, hj]; exact h.irr k hk
def fullA (net : List Int) (s : Nat) : Bool := apart net s && (List.range net.length).all fun k => !(!s.testBit k && apart net (s ||| 2 ^ k))
/-! ### Grown sets -/
def grownStep (net : List Int) (t k : Nat) : Nat := if (!t.testBit k && (nb net k &&& t) == 0) = true then t ||| 2 ^ k else t
def grown (net : List Int) (s : Nat) : Nat := fold net.length (grownStep net) s
end Go.Proofs.Ytbahjlgloilabaa
/- The chain of numbers: plain facts. Conditions: those of each theorem. -/
namespace Go.Proofs.Ytbahjlgloilabaa
set_option linter.unusedVariables false
set_option linter.unusedSimpArgs false

/-- The least number of places of sets of a kind, and the greatest. -/
structure MinOf (net : List Int) (p : Nat → Bool) (m : Nat) : Prop where
  ex : ∃ s, s < 2 ^ net.length ∧ p s = true ∧ size s = m
  le : ∀ s, s < 2 ^ net.length → p s = true → m ≤ size s
structure MaxOf (net : List Int) (p : Nat → Bool) (m : Nat) : Prop where
  ex : ∃ s, s < 2 ^ net.length ∧ p s = true ∧ size s = m
  le : ∀ s, s < 2 ^ net.length → p s = true → size s ≤ m
def minSize (net : List Int) (p : Nat → Bool) : Nat := fold (2 ^ net.length) (fun t s => if p s = true then (if size s < t then size s else t) else t) net.length
def maxSize (net : List Int) (p : Nat → Bool) : Nat := fold (2 ^ net.length) (fun t s => if p s = true then (if size s > t then size s else t) else t) 0
/-! ### What there is of each kind -/
theorem size_add {s k : Nat} (hs : s < 64) (hk : k < 6) (hb : s.testBit k = false) : size (s ||| 2 ^ k) = size s + 1 := bits_or s hs k hk hb
theorem size_pos {s : Nat} (hs : s < 64) {k : Nat} (hk : k < 6) (hb : s.testBit k = true) : 1 ≤ size s := by
  have := (bits_sub s hs k hk hb).2.2.1
  omega
/-! ### A full set and its private places watch -/
/-! ### Bounds by balls, and nets without wires -/
/-! ### How many sets are apart -/
def apartCount (net : List Int) : Nat := cnt (2 ^ net.length) (apart net)
end Go.Proofs.Ytbahjlgloilabaa
/- Guards near each other: plain facts of total and joined watches. Conditions: those of each theorem. -/
namespace Go.Proofs.Ytbahjlgloilabaa
set_option linter.unusedVariables false
set_option linter.unusedSimpArgs false

/-! ### Total watches -/
def total (net : List Int) (s : Nat) : Bool := near net s == allOf net
theorem or2 (s t j : Nat) : (s ||| t).testBit j = true ↔ s.testBit j = true ∨ t.testBit j = true := by rw [Nat.testBit_or, Bool.or_eq_true]
/-! ### Sets that stand together -/
def Together (net : List Int) (s : Nat) : Prop := s ≠ 0 ∧ ∀ i j, s.testBit i = true → s.testBit j = true → Reach net s i j
theorem Reach.mono {net : List Int} {A B i j : Nat} (hAB : ∀ k, A.testBit k = true → B.testBit k = true) (hr : Reach net A i j) : Reach net B i j := by
  induction hr with
  | here ha => exact .here (hAB _ ha)
  | step _ hj hn ha ih => exact .step ih hj hn (hAB _ ha)
/-- From within to without there is a wire. -/
theorem leaves {net : List Int} {A i j t : Nat} (hr : Reach net A i j) (hi : t.testBit i = true) (hj : t.testBit j = false) : ∃ u v, t.testBit u = true ∧ t.testBit v = false ∧ u < net.length ∧ (nb net u).testBit v = true := by
  induction hr with
  | here _ => rw [hi] at hj; cases hj
  | @step a b hr hl hn _ ih =>
    cases hb : t.testBit a with
    | true => exact ⟨a, b, hb, hj, hl, hn⟩
    | false => exact ih hb
end Go.Proofs.Ytbahjlgloilabaa
/- Trees of wires: the places with one wire, and the sets that stand together, make all places. Conditions: those of each theorem. -/
namespace Go.Proofs.Ytbahjlgloilabaa
set_option linter.unusedVariables false
set_option linter.unusedSimpArgs false

/-- A net of some of the wires. -/
structure Sub (net t : List Int) : Prop where
  ok : Ok t
  len : t.length = net.length
  sub : ∀ k j, k < net.length → (nb t k).testBit j = true → (nb net k).testBit j = true
/-- A tree: one part, of as few wires as can be. -/
structure Tree (net t : List Int) : Prop where
  sub : Sub net t
  one : parts t = 1
  wires_ : wires t + 1 = net.length
/-- How many places have one wire alone. -/
def leafs (t : List Int) : Nat := cnt t.length (fun k => size (nb t k) == 1)
/-- The places with more than one wire. -/
def inner (t : List Int) : Nat := orN t.length (fun k => !(size (nb t k) == 1)) (fun k => 2 ^ k)
/-! ### A tree over a joined watch -/
/-- After m steps from r within a set. -/
theorem steps_lvl {net : List Int} (h : Ok net) {s r : Nat} (hs : s < 2 ^ net.length) (hr : s.testBit r = true) (hT : Together net s) : ∃ lv : Nat → Nat, ∃ p : Nat → Nat, lv r = 0 ∧ ∀ v, s.testBit v = true → v ≠ r → s.testBit (p v) = true ∧ (nb net v).testBit (p v) = true ∧ lv (p v) < lv v ∧ lv v ≤ 6 := by
  have hrl := in_lt hs hr
  have h6 := h.hi
  have e0 : 2 ^ r &&& s = 2 ^ r := Nat.eq_of_testBit_eq fun j => by
    rw [Nat.testBit_and, testBit_pow]
    by_cases hxj : r = j
    · rw [← hxj, hr]; simp
    · simp [hxj]
  let L := fun m k => (steps net s m (2 ^ r)).testBit k
  have mono1 : ∀ m k, L m k = true → L (m + 1) k = true := fun m k hk => (grow_testBit _ _ _ _).2 (.inl hk)
  have mono : ∀ m m' k, m ≤ m' → L m k = true → L m' k = true := by
    intro m m' k hm hk
    induction m' with
    | zero => obtain rfl : m = 0 := by omega
              exact hk
    | succ m' ih =>
      by_cases he : m = m' + 1
      · rw [← he]; exact hk
      · exact mono1 m' k (ih (by omega))
  let lv := fun k => cnt 6 (fun m => !L m k)
  have six : ∀ v, s.testBit v = true → L 6 v = true := fun v hv => by
    have hx : (part net s r).testBit v = true := (h.part_testBit hrl v).2 (hT.2 r v hr hv)
    unfold part at hx
    rw [e0] at hx
    exact hx
  have hp : ∀ v, ∃ j, s.testBit v = true → v ≠ r → s.testBit j = true ∧ (nb net v).testBit j = true ∧ lv j < lv v := fun v => by
    by_cases hv : s.testBit v = true ∧ v ≠ r
    · have h0 : L 0 v = false := by
        show (2 ^ r).testBit v = false
        rw [testBit_pow]; simp; exact fun he => hv.2 he.symm
      have hex : ∀ m, m ≤ 6 → L m v = true → ∃ q, q < m ∧ L q v = false ∧ L (q + 1) v = true := by
        intro m
        induction m with
        | zero => intro _ hb; rw [h0] at hb; cases hb
        | succ m ih =>
          intro hm hb
          cases hc : L m v with
          | false => exact ⟨m, by omega, hc, hb⟩
          | true => obtain ⟨q, a, b⟩ := ih (by omega) hc; exact ⟨q, by omega, b⟩
      obtain ⟨q, hq, hqf, hqt⟩ := hex 6 (Nat.le_refl _) (six v hv.1)
      rcases (grow_testBit _ _ _ _).1 hqt with c1 | ⟨⟨j, hj, c1, c2⟩, _⟩
      · have : L q v = true := c1
        rw [hqf] at this; cases this
      · have hjs : s.testBit j = true := by
          have := steps_reach (net := net) (A := s) (i := r) q (j := j) (by rw [e0]; exact c1)
          exact this.among.2
        have hvl := in_lt hs hv.1
        refine ⟨j, fun _ _ => ⟨hjs, by rw [h.sym j v hj hvl]; exact c2, ?_⟩⟩
        have hjl : L q j = true := c1
        have h1 : lv j ≤ q := by
          have := cnt_mono (n := 6) (p := fun m => !L m j) (q := fun i => decide (i < q)) (fun m hm hp => by
            have hp' : L m j = false := by simpa using hp
            rw [decide_eq_true_eq]
            refine Classical.byContradiction fun hc => ?_
            rw [mono q m j (by omega) hjl] at hp'; cases hp')
          rw [cnt_below 6 q (by omega)] at this
          exact this
        have h2 : q + 1 ≤ lv v := by
          have := cnt_mono (n := 6) (p := fun i => decide (i < q + 1)) (q := fun m => !L m v) (fun m hm hp => by
            have hp' : m < q + 1 := by simpa using hp
            cases hx : L m v with
            | false => rfl
            | true => rw [mono m q v (by omega) hx] at hqf; cases hqf)
          rw [cnt_below 6 (q + 1) (by omega)] at this
          exact this
        omega
    · exact ⟨0, fun a b => absurd ⟨a, b⟩ hv⟩
  refine ⟨lv, fun v => Classical.choose (hp v), ?_, fun v hv hne => ?_⟩
  · show cnt 6 (fun m => !L m r) = 0
    have : cnt 6 (fun m => !L m r) = cnt 6 (fun _ => false) := cnt_congr fun m _ => by
      have : L m r = true := mono 0 m r (by omega) (by show (2 ^ r).testBit r = true; rw [testBit_pow]; simp)
      rw [this]; rfl
    rw [this]; rfl
  · obtain ⟨a, b, c⟩ := Classical.choose_spec (hp v) hv hne
    exact ⟨a, b, c, cnt_le _ _⟩
/-- The net of the wires from each place but r to its parent. -/
def treeOf (n r : Nat) (p : Nat → Nat) : List Int := (List.range n).map fun k => ((orN n (fun j => (!(k == r) && (p k == j)) || (!(j == r) && (p j == k))) (fun j => 2 ^ j) : Nat) : Int)
end Go.Proofs.Ytbahjlgloilabaa
/- The wires of a net in a row, and the nets of some of them. Conditions: those of each theorem. -/
namespace Go.Proofs.Ytbahjlgloilabaa
set_option linter.unusedVariables false
set_option linter.unusedSimpArgs false

def pairStep (net : List Int) (k : Nat) (t : List (Nat × Nat)) (i : Nat) : List (Nat × Nat) := if (nb net k).testBit (k + 1 + i) = true then t ++ [(k, k + 1 + i)] else t
def pairRow (net : List Int) (t : List (Nat × Nat)) (k : Nat) : List (Nat × Nat) := fold (net.length - (k + 1)) (pairStep net k) t
def pairs (net : List Int) : List (Nat × Nat) := fold net.length (pairRow net) []
def bound15 (k : Nat) : Nat := k * (11 - k) / 2
def RowI (net : List Int) (k i : Nat) (t : List (Nat × Nat)) : Prop :=
  (∀ a b, (a, b) ∈ t ↔ ((a < k ∧ a < b ∧ b < net.length) ∨ (a = k ∧ k < b ∧ b < k + 1 + i)) ∧ (nb net a).testBit b = true) ∧ t.Nodup ∧ t.length ≤ bound15 k + i
def pt (L : List (Nat × Nat)) (i : Nat) : Nat × Nat := L.getD i (0, 0)
/-- One wire more. -/
def addWire (T : List Int) (a b : Nat) : List Int := (T.set a ((nb T a ||| 2 ^ b : Nat) : Int)).set b ((nb (T.set a ((nb T a ||| 2 ^ b : Nat) : Int)) b ||| 2 ^ a : Nat) : Int)
def treeStep (L : List (Nat × Nat)) (x : Nat) (T : List Int) (i : Nat) : List Int := if x.testBit i = true then addWire T (pt L i).1 (pt L i).2 else T
def treeN (n : Nat) (L : List (Nat × Nat)) (x : Nat) : List Int := fold L.length (treeStep L x) (List.replicate n 0)
def TreeI (n : Nat) (L : List (Nat × Nat)) (x i : Nat) (T : List Int) : Prop :=
  T.length = n ∧ (∀ k, k < n → el T k = (nb T k : Int)) ∧ (∀ k j, k < n → ((nb T k).testBit j = true ↔ ∃ m, m < i ∧ x.testBit m = true ∧ (pt L m = (k, j) ∨ pt L m = (j, k)))) ∧ ends T = 2 * cnt i (fun m => x.testBit m)
/-- Which wires of the row a net has. -/
def selW (L : List (Nat × Nat)) (t : List Int) : Nat := orN L.length (fun i => (nb t (pt L i).1).testBit (pt L i).2) (fun i => 2 ^ i)
/-- The greatest number of leaves of a tree; -1 if there is none. -/
def LfMax (net : List Int) (m : Int) : Prop := (m = -1 ∧ ∀ t, ¬ Tree net t) ∨ ∃ k : Nat, m = (k : Int) ∧ (∃ t, Tree net t ∧ leafs t = k) ∧ ∀ t, Tree net t → leafs t ≤ k
def goodB (net : List Int) (x : Nat) : Bool := cnt 15 (fun m => x.testBit m) + 1 == net.length && parts (treeN net.length (pairs net) x) == 1
def lfStep (net : List Int) (b : Int) (x : Nat) : Int := if goodB net x = true then (if ((leafs (treeN net.length (pairs net) x) : Nat) : Int) > b then ((leafs (treeN net.length (pairs net) x) : Nat) : Int) else b) else b
end Go.Proofs.Ytbahjlgloilabaa
/- Two guards at a place, and a guard that leaves: plain facts. Conditions: those of each theorem. -/
namespace Go.Proofs.Ytbahjlgloilabaa
set_option linter.unusedVariables false
set_option linter.unusedSimpArgs false

/-! ### Rows of small numbers -/
/-- The places with at least m guards. -/
def withN (n : Nat) (r : Nat → Nat) (m : Nat) : Nat := orN n (fun k => decide (m ≤ r k)) (fun k => 2 ^ k)
/-- The digits of a number to the base three, the first one ahead. -/
def dig (n m k : Nat) : Nat := m / 3 ^ (n - 1 - k) % 3
theorem dig_lt (n m k : Nat) : dig n m k ≤ 2 := by unfold dig; omega
theorem dig_last (n m : Nat) : dig (n + 1) m n = m % 3 := by
  unfold dig
  rw [show n + 1 - 1 - n = 0 by omega]; simp
theorem dig_ahead {n m k : Nat} (hk : k < n) : dig (n + 1) m k = dig n (m / 3) k := by
  unfold dig
  rw [show n + 1 - 1 - k = (n - 1 - k) + 1 by omega, Nat.pow_succ, Nat.mul_comm, ← Nat.div_div_eq_div_mul]
/-- Each row is one of the rows that are counted up. -/
theorem dig_all {n : Nat} {r : Nat → Nat} (hr : ∀ k, k < n → r k ≤ 2) : ∃ m, m < 3 ^ n ∧ ∀ k, k < n → dig n m k = r k := by
  induction n with
  | zero => exact ⟨0, by simp, fun k hk => by omega⟩
  | succ n ih =>
    obtain ⟨m, hm, hd⟩ := ih (fun k hk => hr k (by omega))
    have h2 := hr n (by omega)
    refine ⟨3 * m + r n, by rw [Nat.pow_succ]; omega, fun k hk => ?_⟩
    by_cases hkn : k = n
    · rw [hkn, dig_last]; omega
    · rw [dig_ahead (by omega), show (3 * m + r n) / 3 = m by omega]
      exact hd k (by omega)
/-- So few guards a row of a kind can have. -/
structure MinRow (n : Nat) (p : (Nat → Nat) → Prop) (m : Nat) : Prop where
  ex : ∃ r, (∀ k, k < n → r k ≤ 2) ∧ p r ∧ sumN n r = m
  le : ∀ r, (∀ k, k < n → r k ≤ 2) → p r → m ≤ sumN n r
def RomanP (net : List Int) (r : Nat → Nat) : Prop := ∀ k, k < net.length → r k = 0 → ∃ j, j < net.length ∧ (nb net k).testBit j = true ∧ 2 ≤ r j
def help (net : List Int) (r : Nat → Nat) (k : Nat) : Nat := sumN net.length (fun j => ((nb net k).testBit j).toNat * r j)
def ItalianP (net : List Int) (r : Nat → Nat) : Prop := ∀ k, k < net.length → r k = 0 → 2 ≤ help net r k
/-- The row of a set: two at its places, one where it does not see. -/
def rowOfN (net : List Int) (s k : Nat) : Nat := if s.testBit k = true then 2 else if (seen net s).testBit k = true then 0 else 1
/-! ### A guard that leaves -/
def moved (s f t : Nat) : Nat := (s - 2 ^ f) ||| 2 ^ t
/-- A guard next to a place can go there, and all is watched. -/
def Can (net : List Int) (s t : Nat) : Prop := ∃ f, s.testBit f = true ∧ (nb net t).testBit f = true ∧ W net (moved s f t) = true
def Secure (net : List Int) (s : Nat) : Prop := W net s = true ∧ ∀ k, k < net.length → s.testBit k = false → Can net s k
/-- The row behind a guard's move. -/
def leave (r : Nat → Nat) (f t k : Nat) : Nat := if k = t then 1 else if k = f then r f - 1 else r k
def WeakP (net : List Int) (r : Nat → Nat) : Prop := ∀ k, k < net.length → r k = 0 → ∃ f, f < net.length ∧ 1 ≤ r f ∧ (nb net k).testBit f = true ∧ W net (withN net.length (leave r f k) 1) = true
end Go.Proofs.Ytbahjlgloilabaa
/- Guards that answer for ever, one at a time: plain facts. Conditions: those of each theorem. -/
namespace Go.Proofs.Ytbahjlgloilabaa
set_option linter.unusedVariables false
set_option linter.unusedSimpArgs false

/-- A family of sets that can answer each place by one move, and be in the family again. -/
def Closed1 (net : List Int) (F : Nat → Prop) : Prop := ∀ t, t < 2 ^ net.length → F t → ∀ k, k < net.length → t.testBit k = false → ∃ f, t.testBit f = true ∧ (nb net k).testBit f = true ∧ F (moved t f k)
def Eternal (net : List Int) (s : Nat) : Prop := ∃ F, Closed1 net F ∧ F s
end Go.Proofs.Ytbahjlgloilabaa
/- All guards move: who can go where, by Hall's condition. Conditions: those of each theorem. -/
namespace Go.Proofs.Ytbahjlgloilabaa
set_option linter.unusedVariables false
set_option linter.unusedSimpArgs false

theorem size_eq6 {s : Nat} (hs : s < 64) : size s = cnt 6 (fun k => s.testBit k) := by unfold size; rw [card_sum]
theorem in6 {s k : Nat} (hs : s < 64) (hk : s.testBit k = true) : k < 6 := testBit_lt (n := 6) hs hk
theorem size_mono6 {s t : Nat} (hs : s < 64) (ht : t < 64) (h : ∀ j, s.testBit j = true → t.testBit j = true) : size s ≤ size t := by
  rw [size_eq6 hs, size_eq6 ht]; exact cnt_mono fun k _ => h k
theorem size_disj {s t : Nat} (hs : s < 64) (ht : t < 64) (h : ∀ j, s.testBit j = true → t.testBit j = false) : size (s ||| t) = size s + size t := by
  have hl : s ||| t < 2 ^ 6 := Nat.or_lt_two_pow (by omega) (by omega)
  rw [size_eq6 hs, size_eq6 ht, size_eq6 (by omega)]
  unfold cnt
  rw [← sumN_add]
  refine sumN_congr fun k _ => ?_
  show ((s ||| t).testBit k).toNat = (s.testBit k).toNat + (t.testBit k).toNat
  rw [Nat.testBit_or]
  cases hb : s.testBit k with
  | false => simp
  | true => rw [h k hb]; rfl
theorem diff_testBit {s t : Nat} (hs : s < 64) (ht : t < 64) (j : Nat) : (minus s t).testBit j = true ↔ s.testBit j = true ∧ t.testBit j = false := by
  rw [minus_testBit _ _ (by omega) (by omega), Bool.and_eq_true, Bool.not_eq_true']
theorem diff_lt {s t : Nat} (hs : s < 64) : minus s t < 64 := Nat.lt_of_le_of_lt Nat.and_le_left hs
theorem size_diff {s t : Nat} (hs : s < 64) (ht : t < 64) (h : ∀ j, t.testBit j = true → s.testBit j = true) : size (minus s t) + size t = size s := by
  rw [← size_disj (diff_lt hs) ht (fun j hj => ((diff_testBit hs ht j).1 hj).2)]
  congr 1
  apply Nat.eq_of_testBit_eq
  intro j
  rw [Bool.eq_iff_iff, or2, diff_testBit hs ht]
  constructor
  · rintro (⟨a, _⟩ | a)
    · exact a
    · exact h j a
  · intro a
    cases hb : t.testBit j with
    | true => exact .inr rfl
    | false => exact .inl ⟨a, rfl⟩
theorem size_zero {s : Nat} (hs : s < 64) (h : size s = 0) : s = 0 := Classical.byContradiction fun hne => by
  obtain ⟨j, hj⟩ := pos_iff.1 hne
  have := size_pos hs (in6 hs hj) hj
  omega
/-- Those of b next to some of x. -/
def nbs (R : Nat → Nat → Bool) (x b : Nat) : Nat := orN 6 (fun j => b.testBit j && (List.range 6).any fun i => x.testBit i && R i j) (fun j => 2 ^ j)
theorem nbs_testBit {R : Nat → Nat → Bool} {x b : Nat} (hx : x < 64) (hb : b < 64) (j : Nat) : (nbs R x b).testBit j = true ↔ b.testBit j = true ∧ ∃ i, x.testBit i = true ∧ R i j = true := by
  unfold nbs
  rw [orN_testBit]
  simp only [Bool.and_eq_true, List.any_eq_true, List.mem_range]
  constructor
  · rintro ⟨k, hk, ⟨a, i, _, b1, c⟩, d⟩
    rw [testBit_pow, decide_eq_true_eq] at d
    subst d
    exact ⟨a, i, b1, c⟩
  · rintro ⟨a, i, b1, c⟩
    exact ⟨j, in6 hb a, ⟨a, i, in6 hx b1, b1, c⟩, by rw [testBit_pow]; simp⟩
theorem nbs_lt (R : Nat → Nat → Bool) (x b : Nat) : nbs R x b < 64 := orN_lt (m := 6) fun k hk _ => Nat.pow_lt_pow_right (by omega) hk
/-- Each can be given another one, if no set has too few. -/
theorem hall (R : Nat → Nat → Bool) : ∀ m a b, a < 64 → b < 64 → size a ≤ m → (∀ x, x < 64 → (∀ j, x.testBit j = true → a.testBit j = true) → size x ≤ size (nbs R x b)) →
    ∃ f : Nat → Nat, (∀ i, a.testBit i = true → b.testBit (f i) = true ∧ R i (f i) = true) ∧ ∀ i j, a.testBit i = true → a.testBit j = true → f i = f j → i = j := by
  intro m
  induction m with
  | zero =>
    intro a b ha hb hm _
    have := size_zero ha (by omega)
    subst this
    exact ⟨fun i => i, fun i hi => (by rw [Nat.zero_testBit] at hi; cases hi), fun i j hi => (by rw [Nat.zero_testBit] at hi; cases hi)⟩
  | succ m ih =>
    intro a b ha hb hm hc
    by_cases h0 : a = 0
    · subst h0
      exact ⟨fun i => i, fun i hi => (by rw [Nat.zero_testBit] at hi; cases hi), fun i j hi => (by rw [Nat.zero_testBit] at hi; cases hi)⟩
    by_cases ht : ∃ x, x < 64 ∧ (∀ j, x.testBit j = true → a.testBit j = true) ∧ x ≠ 0 ∧ x ≠ a ∧ size (nbs R x b) ≤ size x
    · -- a tight set is given its own, the others the others
      obtain ⟨x, hx, hxa, hx0, hxne, hxt⟩ := ht
      have hdz := size_diff ha hx hxa
      have hxp : 1 ≤ size x := by
        obtain ⟨j, hj⟩ := pos_iff.1 hx0
        exact size_pos hx (in6 hx hj) hj
      have hdp : 1 ≤ size (minus a x) := by
        refine Nat.one_le_iff_ne_zero.2 fun hz => hxne ?_
        have h1 := size_zero (diff_lt ha) hz
        apply Nat.eq_of_testBit_eq
        intro j
        rw [Bool.eq_iff_iff]
        refine ⟨hxa j, fun hj => Classical.byContradiction fun hno => ?_⟩
        have := (diff_testBit ha hx j).2 ⟨hj, not_true hno⟩
        rw [h1, Nat.zero_testBit] at this; cases this
      obtain ⟨f1, p1, q1⟩ := ih x b hx hb (by omega) (fun y hy hyx => hc y hy fun j hj => hxa j (hyx j hj))
      have hnl := nbs_lt R x b
      obtain ⟨f2, p2, q2⟩ := ih (minus a x) (minus b (nbs R x b)) (diff_lt ha) (diff_lt hb) (by omega) (fun z hz hza => by
        have hzx : z ||| x < 64 := by
          have : z ||| x < 2 ^ 6 := Nat.or_lt_two_pow (by omega) (by omega)
          omega
        have hdis : ∀ j, z.testBit j = true → x.testBit j = false := fun j hj => ((diff_testBit ha hx j).1 (hza j hj)).2
        have h1 := hc (z ||| x) hzx (fun j hj => by
          rcases (or2 _ _ _).1 hj with hj | hj
          · exact ((diff_testBit ha hx j).1 (hza j hj)).1
          · exact hxa j hj)
        rw [size_disj hz hx hdis] at h1
        have h2 : size (nbs R (z ||| x) b) ≤ size (nbs R z (minus b (nbs R x b))) + size (nbs R x b) := by
          rw [← size_disj (nbs_lt _ _ _) hnl (fun j hj => ((diff_testBit hb hnl j).1 ((nbs_testBit hz (diff_lt hb) j).1 hj).1).2)]
          refine size_mono6 (nbs_lt _ _ _) (by have : nbs R z (minus b (nbs R x b)) ||| nbs R x b < 2 ^ 6 := Nat.or_lt_two_pow (nbs_lt _ _ _) hnl
                                               omega) fun j hj => ?_
          obtain ⟨a1, i, a2, a3⟩ := (nbs_testBit hzx hb j).1 hj
          rw [or2]
          cases hb2 : (nbs R x b).testBit j with
          | true => exact .inr rfl
          | false =>
            left
            rcases (or2 _ _ _).1 a2 with a2 | a2
            · exact (nbs_testBit hz (diff_lt hb) j).2 ⟨(diff_testBit hb hnl j).2 ⟨a1, hb2⟩, i, a2, a3⟩
            · rw [(nbs_testBit hx hb j).2 ⟨a1, i, a2, a3⟩] at hb2; cases hb2
        omega)
      have in1 : ∀ i, x.testBit i = true → (nbs R x b).testBit (f1 i) = true := fun i hi => (nbs_testBit hx hb _).2 ⟨(p1 i hi).1, i, hi, (p1 i hi).2⟩
      have in2 : ∀ i, a.testBit i = true → x.testBit i = false → (minus a x).testBit i = true := fun i hi hn => (diff_testBit ha hx i).2 ⟨hi, hn⟩
      refine ⟨fun i => if x.testBit i = true then f1 i else f2 i, fun i hi => ?_, fun i j hi hj he => ?_⟩
      · cases hxi : x.testBit i with
        | true => simp only [hxi, if_true]; exact p1 i hxi
        | false =>
          simp only [hxi, Bool.false_eq_true, if_false]
          obtain ⟨u, v⟩ := p2 i (in2 i hi hxi)
          exact ⟨((diff_testBit hb hnl _).1 u).1, v⟩
      · cases hxi : x.testBit i with
        | true =>
          cases hxj : x.testBit j with
          | true => simp only [hxi, hxj, if_true] at he; exact q1 i j hxi hxj he
          | false =>
            simp only [hxi, hxj, if_true, Bool.false_eq_true, if_false] at he
            have h1 := in1 i hxi
            have h2 := ((diff_testBit hb hnl _).1 (p2 j (in2 j hj hxj)).1).2
            rw [← he, h1] at h2; cases h2
        | false =>
          cases hxj : x.testBit j with
          | true =>
            simp only [hxi, hxj, if_true, Bool.false_eq_true, if_false] at he
            have h1 := in1 j hxj
            have h2 := ((diff_testBit hb hnl _).1 (p2 i (in2 i hi hxi)).1).2
            rw [he, h1] at h2; cases h2
          | false =>
            simp only [hxi, hxj, Bool.false_eq_true, if_false] at he
            exact q2 i j (in2 i hi hxi) (in2 j hj hxj) he
    · -- one is given any, and the rest goes on
      obtain ⟨g, hg⟩ := pos_iff.1 h0
      have hg6 := in6 ha hg
      have hpg : 2 ^ g < 64 := by
        have : 2 ^ g < 2 ^ 6 := Nat.pow_lt_pow_right (by omega) hg6
        omega
      have hgs : ∀ j, (2 ^ g).testBit j = true → a.testBit j = true := fun j hj => by rw [testBit_pow, decide_eq_true_eq] at hj; rw [← hj]; exact hg
      have z1 : size (2 ^ g) = 1 := by
        have := size_add (s := 0) (k := g) (by omega) hg6 (Nat.zero_testBit g)
        rw [Nat.zero_or] at this
        rw [this]; decide
      have h1 := hc (2 ^ g) hpg hgs
      have hne : nbs R (2 ^ g) b ≠ 0 := fun he => by
        have : size (nbs R (2 ^ g) b) = 0 := by rw [he]; decide
        omega
      obtain ⟨t, htb⟩ := pos_iff.1 hne
      obtain ⟨hbt, i, hi, hR⟩ := (nbs_testBit hpg hb t).1 htb
      have hig : i = g := by rw [testBit_pow, decide_eq_true_eq] at hi; exact hi.symm
      subst hig
      have ht6 := in6 hb hbt
      have ba := bits_sub a ha i hg6 hg
      have bb := bits_sub b hb t ht6 hbt
      obtain ⟨f, p, q⟩ := ih (a - 2 ^ i) (b - 2 ^ t) ba.1 bb.1 (by omega) (fun x hx hxa => by
        by_cases hx0 : x = 0
        · subst hx0
          have : size 0 = 0 := by decide
          omega
        have hxa' : ∀ j, x.testBit j = true → a.testBit j = true := fun j hj => by
          have := hxa j hj
          rw [sub_testBit ha hg6 hg, Bool.and_eq_true] at this
          exact this.1
        have hxne : x ≠ a := fun he => by
          have := hxa i (by rw [he]; exact hg)
          rw [sub_testBit ha hg6 hg] at this
          simp at this
        have h2 : size x + 1 ≤ size (nbs R x b) := by
          refine Classical.byContradiction fun hlt => ht ⟨x, hx, hxa', hx0, hxne, by omega⟩
        have h3 : size (nbs R x b) ≤ size (nbs R x (b - 2 ^ t)) + 1 := by
          have hle : size (nbs R x b) ≤ size (nbs R x (b - 2 ^ t) ||| 2 ^ t) := by
            refine size_mono6 (nbs_lt _ _ _) (by
              have hp : 2 ^ t < 2 ^ 6 := Nat.pow_lt_pow_right (by omega) ht6
              have : nbs R x (b - 2 ^ t) ||| 2 ^ t < 2 ^ 6 := Nat.or_lt_two_pow (nbs_lt _ _ _) hp
              omega) fun j hj => ?_
            obtain ⟨a1, k, a2, a3⟩ := (nbs_testBit hx hb j).1 hj
            rw [or_testBit]
            by_cases hjt : j = t
            · exact .inr hjt
            · exact .inl ((nbs_testBit hx bb.1 j).2 ⟨by rw [sub_testBit hb ht6 hbt, a1]; simp [hjt], k, a2, a3⟩)
          rw [size_add (nbs_lt _ _ _) ht6 (not_true fun hcc => by
            have := ((nbs_testBit hx bb.1 t).1 hcc).1
            rw [sub_testBit hb ht6 hbt] at this; simp at this)] at hle
          exact hle
        omega)
      have ina : ∀ k, a.testBit k = true → k ≠ i → (a - 2 ^ i).testBit k = true := fun k hk hki => by rw [sub_testBit ha hg6 hg, hk]; simp [hki]
      have outb : ∀ k, a.testBit k = true → k ≠ i → f k ≠ t ∧ b.testBit (f k) = true := fun k hk hki => by
        have := (p k (ina k hk hki)).1
        rw [sub_testBit hb ht6 hbt, Bool.and_eq_true] at this
        exact ⟨by simpa using this.2, this.1⟩
      refine ⟨fun k => if k = i then t else f k, fun k hk => ?_, fun k j hk hj he => ?_⟩
      · by_cases hki : k = i
        · simp only [hki, if_true]; exact ⟨hbt, hR⟩
        · simp only [hki, if_false]; exact ⟨(outb k hk hki).2, (p k (ina k hk hki)).2⟩
      · by_cases hki : k = i
        · by_cases hji : j = i
          · rw [hki, hji]
          · simp only [hki, hji, if_true, if_false] at he
            exact absurd he.symm (outb j hj hji).1
        · by_cases hji : j = i
          · simp only [hki, hji, if_true, if_false] at he
            exact absurd he (outb k hk hki).1
          · simp only [hki, hji, if_false] at he
            exact q k j (ina k hk hki) (ina j hj hji) he
end Go.Proofs.Ytbahjlgloilabaa
/- All guards move, for ever: plain facts. Conditions: those of each theorem. -/
namespace Go.Proofs.Ytbahjlgloilabaa
set_option linter.unusedVariables false
set_option linter.unusedSimpArgs false

/-- The guards of one set can be at the places of another one, each staying or moving to a neighbour. -/
def AllMove (net : List Int) (a b : Nat) : Prop := size a = size b ∧ ∃ f : Nat → Nat, (∀ i, a.testBit i = true → b.testBit (f i) = true ∧ (ball net i).testBit (f i) = true) ∧ ∀ i j, a.testBit i = true → a.testBit j = true → f i = f j → i = j
theorem allMove_refl (net : List Int) (a : Nat) : AllMove net a a := ⟨rfl, fun i => i, fun i hi => ⟨hi, sees_self net i⟩, fun i j _ _ he => he⟩
/-- A family of sets that can answer each place by all moving. -/
def ClosedA (net : List Int) (F : Nat → Prop) : Prop := ∀ t, t < 2 ^ net.length → F t → ∀ k, k < net.length → t.testBit k = false → ∃ u, u < 2 ^ net.length ∧ u.testBit k = true ∧ AllMove net t u ∧ F u
def AllEternal (net : List Int) (s : Nat) : Prop := ∃ F, ClosedA net F ∧ F s
/-! ### No more than are apart -/
theorem allMove_union {net : List Int} (h : Ok net) {a b c : Nat} (ha : a < 2 ^ net.length) (hb : b < 2 ^ net.length) (hc : c < 2 ^ net.length) (hac : ∀ j, a.testBit j = true → c.testBit j = false) (hbc : ∀ j, b.testBit j = true → c.testBit j = false) {d : Nat} (hd : d < 2 ^ net.length) (had : ∀ j, b.testBit j = true → d.testBit j = false) (hm : AllMove net a b) (hm2 : AllMove net c d) : AllMove net (a ||| c) (b ||| d) := by
  obtain ⟨hz, f, hf, hi⟩ := hm
  obtain ⟨hz2, g, hg, hj⟩ := hm2
  refine ⟨by rw [size_disj (lt64 h ha) (lt64 h hc) hac, size_disj (lt64 h hb) (lt64 h hd) had]; omega, fun i => if a.testBit i = true then f i else g i, fun i hx => ?_, fun i j hx hy he => ?_⟩
  · cases hai : a.testBit i with
    | true => simp only [hai, if_true]; exact ⟨(or2 _ _ _).2 (.inl (hf i hai).1), (hf i hai).2⟩
    | false =>
      have hci : c.testBit i = true := by
        rcases (or2 _ _ _).1 hx with hh | hh
        · rw [hai] at hh; cases hh
        · exact hh
      simp only [hai, Bool.false_eq_true, if_false]; exact ⟨(or2 _ _ _).2 (.inr (hg i hci).1), (hg i hci).2⟩
  · have inc : ∀ k, (a ||| c).testBit k = true → a.testBit k = false → c.testBit k = true := fun k hk hn => by
      rcases (or2 _ _ _).1 hk with hh | hh
      · rw [hn] at hh; cases hh
      · exact hh
    cases hai : a.testBit i with
    | true =>
      cases haj : a.testBit j with
      | true => simp only [hai, haj, if_true] at he; exact hi i j hai haj he
      | false =>
        simp only [hai, haj, if_true, Bool.false_eq_true, if_false] at he
        have h1 := had _ (hf i hai).1
        rw [he, (hg j (inc j hy haj)).1] at h1; cases h1
    | false =>
      cases haj : a.testBit j with
      | true =>
        simp only [hai, haj, if_true, Bool.false_eq_true, if_false] at he
        have h1 := had _ (hf j haj).1
        rw [← he, (hg i (inc i hx hai)).1] at h1; cases h1
      | false => simp only [hai, haj, Bool.false_eq_true, if_false] at he; exact hj i j (inc i hx hai) (inc j hy haj) he
/-- From largest apart set to largest apart set all can move. -/
theorem allMove_apart {net : List Int} (h : Ok net) {u m a b : Nat} (hu : u < 2 ^ net.length) (hmax : ∀ x, x < 2 ^ net.length → (∀ j, x.testBit j = true → u.testBit j = true) → Apart net x → size x ≤ m)
    (ha : a < 2 ^ net.length) (hau : ∀ j, a.testBit j = true → u.testBit j = true) (hA : Apart net a) (haz : size a = m) (hb : b < 2 ^ net.length) (hbu : ∀ j, b.testBit j = true → u.testBit j = true) (hB : Apart net b) (hbz : size b = m) : AllMove net a b := by
  have h64 := h.pow
  refine ⟨by omega, ?_⟩
  have key : ∀ x, x < 64 → (∀ j, x.testBit j = true → a.testBit j = true) → size x ≤ size (nbs (fun i j => (ball net i).testBit j) x b) := by
    intro x hx hxa
    have hxl : x < 2 ^ net.length := by
      refine Classical.byContradiction fun hge => ?_
      have hle := Nat.ge_of_not_lt hge
      have : ∃ j, net.length ≤ j ∧ x.testBit j = true := by
        obtain ⟨j, hj1, hj2⟩ := Nat.exists_ge_and_testBit_of_ge_two_pow hle
        exact ⟨j, hj1, hj2⟩
      obtain ⟨j, hj1, hj2⟩ := this
      have := in_lt ha (hxa j hj2)
      omega
    have hnl := nbs_lt (fun i j => (ball net i).testBit j) x b
    have hnb := fun j => nbs_testBit (R := fun i j => (ball net i).testBit j) hx (lt64 h hb) j
    have hdl : minus b (nbs (fun i j => (ball net i).testBit j) x b) < 2 ^ net.length := Nat.lt_of_le_of_lt Nat.and_le_left hb
    have hd := fun j => diff_testBit (lt64 h hb) hnl j
    have hdis : ∀ j, (minus b (nbs (fun i j => (ball net i).testBit j) x b)).testBit j = true → x.testBit j = false := fun j hj => not_true fun hc => by
      obtain ⟨h1, h2⟩ := (hd j).1 hj
      rw [(hnb j).2 ⟨h1, j, hc, sees_self net j⟩] at h2; cases h2
    have hcross : ∀ i j, x.testBit i = true → (minus b (nbs (fun i j => (ball net i).testBit j) x b)).testBit j = true → (nb net i).testBit j = false := fun i j hi hj => not_true fun hc => by
      obtain ⟨h1, h2⟩ := (hd j).1 hj
      rw [(hnb j).2 ⟨h1, i, hi, (ball_testBit _ _ _).2 (.inl hc)⟩] at h2; cases h2
    have hU : Apart net (minus b (nbs (fun i j => (ball net i).testBit j) x b) ||| x) := fun i j hi hj => by
      rcases (or2 _ _ _).1 hi with hi | hi <;> rcases (or2 _ _ _).1 hj with hj | hj
      · exact hB i j ((hd i).1 hi).1 ((hd j).1 hj).1
      · rw [h.sym j i (in_lt hxl hj) (in_lt hdl hi)]; exact hcross j i hj hi
      · exact hcross i j hi hj
      · exact hA i j (hxa i hi) (hxa j hj)
    have h1 := hmax _ (Nat.or_lt_two_pow hdl hxl) (fun j hj => by
      rcases (or2 _ _ _).1 hj with hj | hj
      · exact hbu j ((hd j).1 hj).1
      · exact hau j (hxa j hj)) hU
    rw [size_disj (lt64 h hdl) hx hdis] at h1
    have h2 := size_diff (lt64 h hb) hnl (fun j hj => ((hnb j).1 hj).1)
    omega
  obtain ⟨f, p, q⟩ := hall (fun i j => (ball net i).testBit j) 6 a b (lt64 h ha) (lt64 h hb) (size_le a) key
  exact ⟨f, p, q⟩
theorem size_one {k : Nat} (hk : k < 6) : size (2 ^ k) = 1 := by
  have := size_add (s := 0) (k := k) (by omega) hk (Nat.zero_testBit k)
  rw [Nat.zero_or] at this
  rw [this]; decide
/-- Within any set of places: a family with no more guards than are apart in it. -/
theorem family {net : List Int} (h : Ok net) : ∀ c u, size u ≤ c → u < 2 ^ net.length → ∀ m, (∀ x, x < 2 ^ net.length → (∀ j, x.testBit j = true → u.testBit j = true) → Apart net x → size x ≤ m) →
    ∃ F : Nat → Prop, (∃ s, F s) ∧ (∀ t, F t → t < 2 ^ net.length ∧ (∀ j, t.testBit j = true → u.testBit j = true) ∧ size t ≤ m) ∧
      ∀ t, F t → ∀ k, u.testBit k = true → t.testBit k = false → ∃ v, v.testBit k = true ∧ AllMove net t v ∧ F v := by
  have h6 := h.hi
  intro c
  induction c with
  | zero =>
    intro u hc hu m hm
    have hu0 := size_zero (lt64 h hu) (by omega)
    subst hu0
    refine ⟨fun t => t = 0, ⟨0, rfl⟩, fun t ht => ?_, fun t _ k hk => by rw [Nat.zero_testBit] at hk; cases hk⟩
    subst ht
    have : size 0 = 0 := by decide
    exact ⟨hu, fun j hj => hj, by omega⟩
  | succ c ih =>
    intro u hc hu m hm
    -- the most that are apart in u
    have hmx : ∃ M, M ≤ m ∧ (∃ x, x < 2 ^ net.length ∧ (∀ j, x.testBit j = true → u.testBit j = true) ∧ Apart net x ∧ size x = M) ∧ ∀ x, x < 2 ^ net.length → (∀ j, x.testBit j = true → u.testBit j = true) → Apart net x → size x ≤ M := by
      have hex : ∀ d, d ≤ m → (∃ x, x < 2 ^ net.length ∧ (∀ j, x.testBit j = true → u.testBit j = true) ∧ Apart net x ∧ m - d ≤ size x) → ∃ M, M ≤ m ∧ (∃ x, x < 2 ^ net.length ∧ (∀ j, x.testBit j = true → u.testBit j = true) ∧ Apart net x ∧ size x = M) ∧ ∀ x, x < 2 ^ net.length → (∀ j, x.testBit j = true → u.testBit j = true) → Apart net x → size x ≤ M := by
        intro d
        induction d with
        | zero =>
          rintro _ ⟨x, a, b, e, f⟩
          have := hm x a b e
          exact ⟨m, Nat.le_refl _, ⟨x, a, b, e, by omega⟩, hm⟩
        | succ d ihd =>
          rintro hd ⟨x, a, b, e, f⟩
          by_cases hy : ∃ y, y < 2 ^ net.length ∧ (∀ j, y.testBit j = true → u.testBit j = true) ∧ Apart net y ∧ m - d ≤ size y
          · exact ihd (by omega) hy
          · have hno : ∀ y, y < 2 ^ net.length → (∀ j, y.testBit j = true → u.testBit j = true) → Apart net y → size y ≤ m - (d + 1) := fun y p q r => by
              refine Classical.byContradiction fun hlt => hy ⟨y, p, q, r, by omega⟩
            have := hno x a b e
            exact ⟨m - (d + 1), by omega, ⟨x, a, b, e, by omega⟩, hno⟩
      refine hex m (Nat.le_refl _) ⟨0, Nat.two_pow_pos _, fun j hj => (by rw [Nat.zero_testBit] at hj; cases hj), Apart.zero net, by omega⟩
    obtain ⟨M, hMm, ⟨x0, x0l, x0u, x0A, x0z⟩, hM⟩ := hmx
    by_cases hcov : ∀ v, u.testBit v = true → ∃ x, x < 2 ^ net.length ∧ (∀ j, x.testBit j = true → u.testBit j = true) ∧ Apart net x ∧ size x = M ∧ x.testBit v = true
    · -- all largest apart sets
      refine ⟨fun t => t < 2 ^ net.length ∧ (∀ j, t.testBit j = true → u.testBit j = true) ∧ Apart net t ∧ size t = M, ⟨x0, x0l, x0u, x0A, x0z⟩, fun t ⟨a, b, _, d⟩ => ⟨a, b, by omega⟩, fun t ⟨a, b, e, d⟩ k hk hb => ?_⟩
      obtain ⟨y, y1, y2, y3, y4, y5⟩ := hcov k hk
      exact ⟨y, y5, allMove_apart h hu hM a b e d y1 y2 y3 y4, y1, y2, y3, y4⟩
    · -- a place that is in none: it and its neighbours take two
      have : ∃ v, u.testBit v = true ∧ ∀ x, x < 2 ^ net.length → (∀ j, x.testBit j = true → u.testBit j = true) → Apart net x → x.testBit v = true → size x + 1 ≤ M := by
        refine Classical.byContradiction fun hno => hcov fun v hv => Classical.byContradiction fun hno2 => hno ⟨v, hv, fun x p q r s => ?_⟩
        have h1 := hM x p q r
        refine Classical.byContradiction fun hlt => hno2 ⟨x, p, q, r, by omega, s⟩
      obtain ⟨v, hv, hvn⟩ := this
      have hvl := in_lt hu hv
      have hbl := h.ball_lt hvl
      have hul : minus u (ball net v) < 2 ^ net.length := Nat.lt_of_le_of_lt Nat.and_le_left hu
      have hub : ∀ j, (minus u (ball net v)).testBit j = true ↔ u.testBit j = true ∧ (ball net v).testBit j = false := fun j => diff_testBit (lt64 h hu) (lt64 h hbl) j
      -- fewer are apart there
      have hless : ∀ x, x < 2 ^ net.length → (∀ j, x.testBit j = true → (minus u (ball net v)).testBit j = true) → Apart net x → size x + 2 ≤ M := fun x p q r => by
        have hxv : x.testBit v = false := not_true fun hcc => by
          have := ((hub v).1 (q v hcc)).2
          rw [sees_self] at this; cases this
        have hA := r.add h p hvl (fun j hj => not_true fun hcc => by
          have := ((hub j).1 (q j hj)).2
          rw [(ball_testBit _ _ _).2 (.inl hcc)] at this; cases this)
        have h1 := hvn (x ||| 2 ^ v) (or_lt p hvl) (fun j hj => by
          rcases (or_testBit _ _ _).1 hj with hj | rfl
          · exact ((hub j).1 (q j hj)).1
          · exact hv) hA ((or_testBit _ _ _).2 (.inr rfl))
        rw [size_add (lt64 h p) (by omega) hxv] at h1
        omega
      have hM2 : 2 ≤ M := by
        have := hless 0 (Nat.two_pow_pos _) (fun j hj => by rw [Nat.zero_testBit] at hj; cases hj) (Apart.zero net)
        omega
      -- a neighbour in u
      have hnbr : ∃ y, u.testBit y = true ∧ (nb net v).testBit y = true := by
        refine Classical.byContradiction fun hno => ?_
        have hA := x0A.add h x0l hvl (fun j hj => not_true fun hcc => hno ⟨j, x0u j hj, hcc⟩)
        have h1 := hvn (x0 ||| 2 ^ v) (or_lt x0l hvl) (fun j hj => by
          rcases (or_testBit _ _ _).1 hj with hj | rfl
          · exact x0u j hj
          · exact hv) hA ((or_testBit _ _ _).2 (.inr rfl))
        have h2 : size x0 ≤ size (x0 ||| 2 ^ v) := size_mono6 (lt64 h x0l) (lt64 h (or_lt x0l hvl)) fun j hj => (or_testBit _ _ _).2 (.inl hj)
        omega
      obtain ⟨y0, hy0u, hy0⟩ := hnbr
      have hsz : size (minus u (ball net v)) ≤ c := by
        have h1 : size (minus u (ball net v)) + 1 ≤ size u := by
          have hvb : (minus u (ball net v)).testBit v = false := not_true fun hcc => by
            have := ((hub v).1 hcc).2
            rw [sees_self] at this; cases this
          rw [← size_add (lt64 h hul) (k := v) (by omega) hvb]
          refine size_mono6 (lt64 h (or_lt hul hvl)) (lt64 h hu) fun j hj => ?_
          rcases (or_testBit _ _ _).1 hj with hj | rfl
          · exact ((hub j).1 hj).1
          · exact hv
        omega
      obtain ⟨F, ⟨s0, hs0⟩, hF, hcl⟩ := ih (minus u (ball net v)) hsz hul (M - 2) (fun x p q r => by have := hless x p q r; omega)
      -- the pairs of the place and a neighbour
      have pl : ∀ y, y < net.length → 2 ^ v ||| 2 ^ y < 2 ^ net.length := fun y hy => or_lt (Nat.pow_lt_pow_right (by omega) hvl) hy
      have pb : ∀ y j, (2 ^ v ||| 2 ^ y).testBit j = true ↔ j = v ∨ j = y := fun y j => by
        rw [or_testBit, testBit_pow, decide_eq_true_eq]
        exact ⟨fun hh => hh.elim (fun e => .inl e.symm) .inr, fun hh => hh.elim (fun e => .inl e.symm) .inr⟩
      have pz : ∀ y, y < net.length → y ≠ v → size (2 ^ v ||| 2 ^ y) = 2 := fun y hy hne => by
        have hpv : 2 ^ v < 64 := lt64 h (Nat.pow_lt_pow_right (by omega) hvl)
        rw [size_add hpv (by omega) (by rw [testBit_pow]; simp; omega), size_one (by omega)]
      have yne : ∀ y, (nb net v).testBit y = true → y ≠ v := fun y hy he => by rw [he, h.irr v hvl] at hy; cases hy
      have apart2 : ∀ t, F t → ∀ y, (nb net v).testBit y = true → ∀ j, t.testBit j = true → (2 ^ v ||| 2 ^ y).testBit j = false := fun t ht y hy j hj => not_true fun hcc => by
        have h1 := ((hub j).1 ((hF t ht).2.1 j hj)).2
        rcases (pb y j).1 hcc with e | e
        · rw [e, sees_self] at h1; cases h1
        · rw [e, (ball_testBit _ _ _).2 (.inl hy)] at h1; cases h1
      refine ⟨fun q => ∃ t y, F t ∧ u.testBit y = true ∧ (nb net v).testBit y = true ∧ q = t ||| (2 ^ v ||| 2 ^ y), ⟨_, s0, y0, hs0, hy0u, hy0, rfl⟩, ?_, ?_⟩
      · rintro _ ⟨t, y, ht, hyu, hy, rfl⟩
        obtain ⟨t1, t2, t3⟩ := hF t ht
        have hyl := h.nb_lt hvl hy
        refine ⟨Nat.or_lt_two_pow t1 (pl y hyl), fun j hj => ?_, ?_⟩
        · rcases (or2 _ _ _).1 hj with hj | hj
          · exact ((hub j).1 (t2 j hj)).1
          · rcases (pb y j).1 hj with e | e
            · rw [e]; exact hv
            · rw [e]; exact hyu
        · rw [size_disj (lt64 h t1) (lt64 h (pl y hyl)) (apart2 t ht y hy), pz y hyl (yne y hy)]; omega
      · rintro _ ⟨t, y, ht, hyu, hy, rfl⟩ k hk hb
        obtain ⟨t1, t2, t3⟩ := hF t ht
        have hyl := h.nb_lt hvl hy
        have hkl := in_lt hu hk
        cases hkb : (ball net v).testBit k with
        | false =>
          -- the others answer
          have htk : t.testBit k = false := not_true fun hcc => by rw [(or2 _ _ _).2 (.inl hcc)] at hb; cases hb
          obtain ⟨w, w1, w2, w3⟩ := hcl t ht k ((hub k).2 ⟨hk, hkb⟩) htk
          exact ⟨w ||| (2 ^ v ||| 2 ^ y), (or2 _ _ _).2 (.inl w1), allMove_union h t1 (hF w w3).1 (pl y hyl) (apart2 t ht y hy) (apart2 w w3 y hy) (pl y hyl) (apart2 w w3 y hy) w2 (allMove_refl net _), w, y, w3, hyu, hy, rfl⟩
        | true =>
          -- the two of them answer
          have hkv : k ≠ v := fun he => by rw [he, (or2 _ _ _).2 (.inr ((pb y v).2 (.inl rfl)))] at hb; cases hb
          have hky : k ≠ y := fun he => by rw [he, (or2 _ _ _).2 (.inr ((pb y y).2 (.inr rfl)))] at hb; cases hb
          have hkn : (nb net v).testBit k = true := by
            rcases (ball_testBit _ _ _).1 hkb with e | e
            · exact e
            · exact absurd e.symm hkv
          have hmv : AllMove net (2 ^ v ||| 2 ^ y) (2 ^ v ||| 2 ^ k) := by
            refine ⟨by rw [pz y hyl (yne y hy), pz k hkl hkv], fun i => if i = y then v else k, fun i hi => ?_, fun i j hi hj he => ?_⟩
            · by_cases hiy : i = y
              · simp only [hiy, if_true]
                exact ⟨(pb k v).2 (.inl rfl), (ball_testBit _ _ _).2 (.inl (by rw [h.sym v y hvl hyl]; exact hy))⟩
              · simp only [hiy, if_false]
                have hiv : i = v := by
                  rcases (pb y i).1 hi with e | e
                  · exact e
                  · exact absurd e hiy
                rw [hiv]
                exact ⟨(pb k k).2 (.inr rfl), (ball_testBit _ _ _).2 (.inl hkn)⟩
            · by_cases hiy : i = y <;> by_cases hjy : j = y
              · rw [hiy, hjy]
              · simp only [hiy, hjy, if_true, if_false] at he; exact absurd he.symm hkv
              · simp only [hiy, hjy, if_true, if_false] at he; exact absurd he hkv
              · rcases (pb y i).1 hi with e | e
                · rcases (pb y j).1 hj with e2 | e2
                  · rw [e, e2]
                  · exact absurd e2 hjy
                · exact absurd e hiy
          exact ⟨t ||| (2 ^ v ||| 2 ^ k), (or2 _ _ _).2 (.inr ((pb k k).2 (.inr rfl))), allMove_union h t1 t1 (pl y hyl) (apart2 t ht y hy) (apart2 t ht y hy) (pl k hkl) (apart2 t ht k hkn) (allMove_refl net _) hmv, t, k, ht, hk, hkn, rfl⟩
end Go.Proofs.Ytbahjlgloilabaa
/- All guards move over a joined watch: one more guard than stand together. Conditions: those of each theorem. -/
namespace Go.Proofs.Ytbahjlgloilabaa
set_option linter.unusedVariables false
set_option linter.unusedSimpArgs false

/-- The way from a towards r by parents. -/
def wayTo (p : Nat → Nat) (r a : Nat) : Nat → Nat
  | 0 => a
  | i + 1 => if wayTo p r a i = r then r else p (wayTo p r a i)
theorem shift {net : List Int} (h : Ok net) {s : Nat} (hs : s < 2 ^ net.length) (hT : Together net s) {v w a b : Nat} (hv : v < net.length) (hvs : s.testBit v = false) (hw : w < net.length) (hws : s.testBit w = false)
    (ha : s.testBit a = true) (hva : (nb net v).testBit a = true) (hb : s.testBit b = true) (hbw : (nb net b).testBit w = true) : AllMove net (s ||| 2 ^ v) (s ||| 2 ^ w) := by
  have h6 := h.hi
  obtain ⟨lv, p, hl0, hp⟩ := steps_lvl h hs hb hT
  let q := wayTo p b a
  have q0 : q 0 = a := rfl
  have qs : ∀ i, q (i + 1) = if q i = b then b else p (q i) := fun i => rfl
  have qin : ∀ i, s.testBit (q i) = true := by
    intro i
    induction i with
    | zero => exact ha
    | succ i ih =>
      rw [qs]
      split
      · exact hb
      · rename_i hne; exact (hp _ ih hne).1
  have qlv : ∀ i, lv (q (i + 1)) ≤ lv (q i) := fun i => by
    rw [qs]
    split
    · rw [hl0]; exact Nat.zero_le _
    · rename_i hne; exact Nat.le_of_lt (hp _ (qin i) hne).2.2.1
  have qmono : ∀ i j, i ≤ j → lv (q j) ≤ lv (q i) := by
    intro i j hij
    induction j with
    | zero => obtain rfl : i = 0 := by omega
              exact Nat.le_refl _
    | succ j ih =>
      by_cases he : i = j + 1
      · rw [he]; exact Nat.le_refl _
      · exact Nat.le_trans (qlv j) (ih (by omega))
  have hvb : ∀ x, (s ||| 2 ^ v).testBit x = true ↔ s.testBit x = true ∨ x = v := fun x => or_testBit _ _ _
  have hwb : ∀ x, (s ||| 2 ^ w).testBit x = true ↔ s.testBit x = true ∨ x = w := fun x => or_testBit _ _ _
  -- on the way or not
  let f : Nat → Nat := fun x => if x = v then a else @ite _ (∃ i, q i = x) (Classical.propDecidable _) (if x = b then w else p x) x
  have f1 : ∀ x, x = v → f x = a := fun x hx => by show (if x = v then _ else _) = _; rw [if_pos hx]
  have f2 : ∀ x, x ≠ v → (∃ i, q i = x) → x = b → f x = w := fun x hx hi he => by show (if x = v then _ else _) = _; rw [if_neg hx, if_pos hi, if_pos he]
  have f3 : ∀ x, x ≠ v → (∃ i, q i = x) → x ≠ b → f x = p x := fun x hx hi he => by show (if x = v then _ else _) = _; rw [if_neg hx, if_pos hi, if_neg he]
  have f4 : ∀ x, x ≠ v → (¬ ∃ i, q i = x) → f x = x := fun x hx hi => by show (if x = v then _ else _) = _; rw [if_neg hx, if_neg hi]
  have sv : ∀ x, s.testBit x = true → x ≠ v := fun x hx he => by rw [he, hvs] at hx; cases hx
  have sw : ∀ x, s.testBit x = true → x ≠ w := fun x hx he => by rw [he, hws] at hx; cases hx
  have pway : ∀ x, (∃ i, q i = x) → x ≠ b → ∃ i, q i = p x := fun x ⟨i, hi⟩ hne => ⟨i + 1, by rw [qs, hi, if_neg hne]⟩
  refine ⟨?_, f, fun x hx => ?_, fun x y hx hy he => ?_⟩
  · rw [size_add (lt64 h hs) (by omega) hvs, size_add (lt64 h hs) (by omega) hws]
  · rcases (hvb x).1 hx with hx | hx
    · by_cases hi : ∃ i, q i = x
      · by_cases hxb : x = b
        · rw [f2 x (sv x hx) hi hxb, hxb]
          exact ⟨(hwb w).2 (.inr rfl), (ball_testBit _ _ _).2 (.inl hbw)⟩
        · rw [f3 x (sv x hx) hi hxb]
          obtain ⟨c, d, _⟩ := hp x hx hxb
          exact ⟨(hwb _).2 (.inl c), (ball_testBit _ _ _).2 (.inl d)⟩
      · rw [f4 x (sv x hx) hi]
        exact ⟨(hwb x).2 (.inl hx), sees_self net x⟩
    · rw [f1 x hx, hx]
      exact ⟨(hwb a).2 (.inl ha), (ball_testBit _ _ _).2 (.inl hva)⟩
  · -- no two go to one place
    have key : ∀ x y, s.testBit x = true → s.testBit y = true → f x = f y → x = y := by
      intro x y hx hy he
      by_cases hi : ∃ i, q i = x
      · by_cases hxb : x = b
        · rw [f2 x (sv x hx) hi hxb] at he
          by_cases hj : ∃ i, q i = y
          · by_cases hyb : y = b
            · rw [hxb, hyb]
            · rw [f3 y (sv y hy) hj hyb] at he
              exact absurd he.symm (sw _ (hp y hy hyb).1)
          · rw [f4 y (sv y hy) hj] at he
            exact absurd he.symm (sw _ hy)
        · rw [f3 x (sv x hx) hi hxb] at he
          by_cases hj : ∃ i, q i = y
          · by_cases hyb : y = b
            · rw [f2 y (sv y hy) hj hyb] at he
              exact absurd he (sw _ (hp x hx hxb).1)
            · rw [f3 y (sv y hy) hj hyb] at he
              obtain ⟨i, hi⟩ := hi
              obtain ⟨j, hj⟩ := hj
              have e1 : q (i + 1) = p x := by rw [qs, hi, if_neg hxb]
              have e2 : q (j + 1) = p y := by rw [qs, hj, if_neg hyb]
              have l1 := (hp x hx hxb).2.2.1
              have l2 := (hp y hy hyb).2.2.1
              rcases Nat.lt_trichotomy i j with hlt | heq | hgt
              · have := qmono (i + 1) j (by omega)
                rw [e1, hj, he] at this; omega
              · rw [← hi, ← hj, heq]
              · have := qmono (j + 1) i (by omega)
                rw [e2, hi, ← he] at this; omega
          · rw [f4 y (sv y hy) hj] at he
            exact absurd (he ▸ pway x hi hxb) hj
      · rw [f4 x (sv x hx) hi] at he
        by_cases hj : ∃ i, q i = y
        · by_cases hyb : y = b
          · rw [f2 y (sv y hy) hj hyb] at he
            exact absurd he (sw _ hx)
          · rw [f3 y (sv y hy) hj hyb] at he
            exact absurd (he ▸ pway y hj hyb) hi
        · rw [f4 y (sv y hy) hj] at he; exact he
    have keyv : ∀ y, s.testBit y = true → f y ≠ a := by
      intro y hy he
      by_cases hj : ∃ i, q i = y
      · by_cases hyb : y = b
        · rw [f2 y (sv y hy) hj hyb] at he
          exact sw a ha he.symm
        · rw [f3 y (sv y hy) hj hyb] at he
          obtain ⟨j, hj⟩ := hj
          have l2 := (hp y hy hyb).2.2.1
          have := qmono 0 j (Nat.zero_le _)
          rw [q0, hj] at this
          rw [he] at l2
          omega
      · rw [f4 y (sv y hy) hj] at he
        exact hj ⟨0, by rw [q0, he]⟩
    rcases (hvb x).1 hx with hx | hx <;> rcases (hvb y).1 hy with hy | hy
    · exact key x y hx hy he
    · rw [f1 y hy] at he; exact absurd he (keyv x hx)
    · rw [f1 x hx] at he; exact absurd he.symm (keyv y hy)
    · rw [hx, hy]
end Go.Proofs.Ytbahjlgloilabaa
/- Lists of watches, counts of watches, thinned watches. Conditions: those of each theorem. -/
namespace Go.Proofs.Ytbahjlgloilabaa
open D Go.RowKit
set_option linter.unusedVariables false
set_option linter.unusedSimpArgs false


theorem small_of {n : Nat} (h : n ≤ 1000000) : small n = true := by unfold small; rw [decide_eq_true_eq]; omega
/-- All numbers below N of a kind. -/
def listOfN (N : Nat) (p : Nat → Bool) : List Int := fold N (fun l s => if p s = true then l ++ [(s : Int)] else l) []
/-- How many watches there are of each number of places. -/
def counts (net : List Int) : List Int := fold (2 ^ net.length) (fun l s => if W net s = true then l.set (size s) (D.eli l (size s) + 1) else l) (List.replicate (net.length + 1) 0)
theorem eli_set {l : List Int} {a b : Nat} {v : Int} (ha : a < l.length) : D.eli (l.set a v) b = if a = b then v else D.eli l b := by
  unfold D.eli
  by_cases h : a = b
  · subst h; simp [List.getD, ha]
  · simp [List.getD, List.getElem?_set_ne h, h]
theorem eli_rep (n k : Nat) : D.eli (List.replicate n 0) k = 0 := by
  unfold D.eli
  by_cases h : k < n <;> simp [List.getD, h]
/-- The bounds of the counts on the way. -/
def CInv (net : List Int) (k : Nat) (t : List Int) : Prop := t.length = net.length + 1 ∧ ∀ j, 0 ≤ D.eli t j ∧ D.eli t j ≤ k
theorem CInv.step {net : List Int} (h : Ok net) {k : Nat} {t : List Int} (hk : k < 2 ^ net.length) (ht : CInv net k t) : CInv net (k + 1) (if W net k = true then t.set (size k) (D.eli t (size k) + 1) else t) := by
  have hz := size_le_len h hk
  split
  · refine ⟨by rw [List.length_set]; exact ht.1, fun j => ?_⟩
    rw [eli_set (by rw [ht.1]; omega)]
    have h1 := ht.2 j
    have h2 := ht.2 (size k)
    split <;> omega
  · exact ⟨ht.1, fun j => by have := ht.2 j; omega⟩
theorem CInv.zero (net : List Int) : CInv net 0 (List.replicate (net.length + 1) 0) := ⟨by simp, fun j => by rw [eli_rep]; omega⟩
/-- What is left of a watch. -/
def thinStep (net : List Int) (t p : Nat) : Nat := if (t.testBit p && W net (t - 2 ^ p)) = true then t - 2 ^ p else t
def thin (net : List Int) (s : Nat) : Nat := fold net.length (fun t k => thinStep net t (net.length - 1 - k)) s
end Go.Proofs.Ytbahjlgloilabaa
/- What the exact laws need of rows that are marked. Conditions: those of each theorem. -/
namespace Go.Proofs.Ytbahjlgloilabaa
open D Go.RowKit
set_option linter.unusedVariables false
set_option linter.unusedSimpArgs false


theorem eli_set2 {l : List Int} {a b : Nat} {v : Int} (ha : a < l.length) : D.eli (l.set a v) b = if a = b then v else D.eli l b := by
  unfold D.eli
  by_cases h : a = b
  · subst h; simp [List.getD, ha]
  · simp [List.getD, List.getElem?_set_ne h, h]
theorem L.markIntS_is {a : List Int} {k0 : Nat} (ha : a.length ≤ 3000000) (hk0 : k0 ≤ 3000000) : ∃ m : List Int, L.markIntS_t a k0 = some (((k0 + a.length : Nat) : Int), m) ∧ m.length = a.length ∧ ∀ j, j < a.length → D.eli m j = ((k0 + j : Nat) : Int) := by
  unfold L.markIntS_t L.markIntS_tree
  have := run_for (run := L.markIntS_run2) (len := a.length) (fun k (t : List Int) => (((k0 + k : Nat) : Int), (k : Int), t)) (fun t k => t.set k ((k0 + k : Nat) : Int)) (fun t => (((k0 + a.length : Nat) : Int), t)) (fun k t => t.length = a.length ∧ ∀ j, j < k → D.eli t j = ((k0 + j : Nat) : Int)) (by omega) (fun n k t hk ht => ?_) (fun n t ht => ?_) (t0 := a) ⟨rfl, fun j hj => by omega⟩
  · refine ⟨_, ?_, this.2.1, this.2.2⟩
    exact congrArg (fun o => optC o (fun q => some (q.1, q.2)) none) this.1
  · refine ⟨?_, by rw [List.length_set]; exact ht.1, fun j hj => ?_⟩
    · simp only [L.markIntS_run2, L.markIntS_step2]
      have := ht.1
      rw [cnd_t (by simp; omega), cnd_t (by simp; omega), cnd_t (by simp; omega), Int.toNat_natCast, add1_nat (by omega), add1_nat (by omega)]
      rfl
    · rw [eli_set2 (by rw [ht.1]; exact hk)]
      by_cases hkj : k = j
      · rw [if_pos hkj, hkj]
      · rw [if_neg hkj]; exact ht.2 j (by omega)
  · simp only [L.markIntS_run2, L.markIntS_step2]
    rw [cnd_f (by simp; omega)]
theorem L.heldIntS_is {m : List Int} (ha : m.length ≤ 3000000) (hm : ∀ j, j < m.length → D.eli m j = ((1 + j : Nat) : Int)) : L.heldIntS_t m 1 = some ((1 + m.length : Nat) : Int) := by
  unfold L.heldIntS_t L.heldIntS_tree
  have := (run_for (run := L.heldIntS_run2 m) (len := m.length) (fun k (t : Unit) => (((1 + k : Nat) : Int), (k : Int))) (fun t k => ()) (fun t => Sum.inr (((1 + m.length : Nat) : Int))) (fun k t => True) (by omega) (fun n k t hk ht => ?_) (fun n t ht => ?_) (t0 := ()) trivial).1
  · exact congrArg (fun o => optC o (fun q => sumC q (fun q => some q.2) (fun q => some q)) none) this
  · refine ⟨?_, trivial⟩
    simp only [L.heldIntS_run2, L.heldIntS_step2]
    rw [cnd_t (by simp; omega), cnd_t (by simp; omega), Int.toNat_natCast, hm k hk, cnd_f (by simp), add1_nat (by omega), add1_nat (by omega)]
    rfl
  · simp only [L.heldIntS_run2, L.heldIntS_step2]
    rw [cnd_f (by simp)]
/-- A row marked and held. -/
theorem L.marked {v : List Int} (hv : v.length ≤ 2000000) : ∃ m : List Int, L.markIntS_t v 1 = some (((1 + v.length : Nat) : Int), m) ∧ L.heldIntS_t m 1 = some ((1 + v.length : Nat) : Int) := by
  obtain ⟨m, h1, h2, h3⟩ := L.markIntS_is (a := v) (k0 := 1) (by omega) (by omega)
  refine ⟨m, h1, ?_⟩
  rw [← h2]
  exact L.heldIntS_is (by omega) (by rw [h2]; exact h3)
end Go.Proofs.Ytbahjlgloilabaa
/- The exact laws of chapter 2. Conditions: those of each theorem. -/
namespace Go.Proofs.Ytbahjlgloilabaa
open D Go.RowKit
set_option linter.unusedVariables false
set_option linter.unusedSimpArgs false


end Go.Proofs.Ytbahjlgloilabaa
/- The model's functions of chapters 3 to 5 in natural numbers. Conditions: those of each theorem. -/
namespace Go.Proofs.Ytbahjlgloilabaa
open D Go.RowKit
set_option linter.unusedVariables false
set_option linter.unusedSimpArgs false


/-- The answers that are told for any argument. -/
def privI (net : List Int) (s g : Int) : Int := if (0 ≤ s ∧ s < 2 ^ net.length) ∧ (0 ≤ g ∧ g < net.length) ∧ s.toNat.testBit g.toNat = true then ((priv net s.toNat g.toNat : Nat) : Int) else -1
def twiceI (net : List Int) (s : Int) : Int := if 0 ≤ s ∧ s < 2 ^ net.length then ((twice net s.toNat : Nat) : Int) else -1
def grownI (net : List Int) (s : Int) : Int := if (0 ≤ s ∧ s < 2 ^ net.length) ∧ apart net s.toNat = true then ((grown net s.toNat : Nat) : Int) else -1
def chain (net : List Int) : List Int := [((minSize net (fullN net) : Nat) : Int), ((fewest net : Nat) : Int), ((minSize net (fullA net) : Nat) : Int), ((maxSize net (apart net) : Nat) : Int), ((maxSize net (least net) : Nat) : Int), ((maxSize net (needs net) : Nat) : Int)]
end Go.Proofs.Ytbahjlgloilabaa
/- What the draws give: nets of at most six places, sets and places within bounds. Conditions: those of each theorem. -/
namespace Go.Proofs.Ytbahjlgloilabaa
open D Go.RowKit
set_option linter.unusedVariables false
set_option linter.unusedSimpArgs false


theorem I.NetOk_12 : I.NetOk_t [2, 1] = some true := by rw [I.NetOk_is]; decide +kernel
theorem I.NetOk_1 : I.NetOk_t [1] = some false := by rw [I.NetOk_is]; decide +kernel
theorem L.alive_is : L.alive_t = some true := by
  unfold L.alive_t L.alive_tree
  rw [I.NetOk_12, I.NetOk_1]
  rfl
/-! ### The draws of the laws -/
end Go.Proofs.Ytbahjlgloilabaa
/- Draws that use watches; lists of all numbers of a kind. Conditions: those of each theorem. -/
namespace Go.Proofs.Ytbahjlgloilabaa
open D Go.RowKit
set_option linter.unusedVariables false
set_option linter.unusedSimpArgs false


end Go.Proofs.Ytbahjlgloilabaa
/- Draws of chapters 3 to 5. Conditions: those of each theorem. -/
namespace Go.Proofs.Ytbahjlgloilabaa
open D Go.RowKit
set_option linter.unusedVariables false
set_option linter.unusedSimpArgs false


end Go.Proofs.Ytbahjlgloilabaa
/- The model's functions of chapter 6 in natural numbers, and draws. Conditions: those of each theorem. -/
namespace Go.Proofs.Ytbahjlgloilabaa
open D Go.RowKit
set_option linter.unusedVariables false
set_option linter.unusedSimpArgs false


/-- The least size of sets of a kind; -1 if there is none. -/
def minStep (p : Nat → Bool) (t : Int) (s : Nat) : Int := if p s = true then (if t < 0 then ((size s : Nat) : Int) else if ((size s : Nat) : Int) < t then ((size s : Nat) : Int) else t) else t
def minI (net : List Int) (p : Nat → Bool) : Int := fold (2 ^ net.length) (minStep p) (-1)
/-- Does a set stand together? -/
noncomputable def together (net : List Int) (s : Nat) : Bool := @decide (Together net s) (Classical.propDecidable _)
noncomputable def joined (net : List Int) (s : Nat) : Bool := together net s && W net s
end Go.Proofs.Ytbahjlgloilabaa
/- MostLeaves of the model. Conditions: those of each theorem. -/
namespace Go.Proofs.Ytbahjlgloilabaa
open D Go.RowKit
set_option linter.unusedVariables false
set_option linter.unusedSimpArgs false


def wl (L : List (Nat × Nat)) : List (List Int) := L.map fun p => [(p.1 : Int), (p.2 : Int)]
def mostLeaves (net : List Int) : Int := if net.length < 2 then -1 else fold (2 ^ (pairs net).length) (lfStep net) (-1)
end Go.Proofs.Ytbahjlgloilabaa
/- The model's functions of chapter 7 in natural numbers. Conditions: those of each theorem. -/
namespace Go.Proofs.Ytbahjlgloilabaa
open D Go.RowKit
set_option linter.unusedVariables false
set_option linter.unusedSimpArgs false


/-- The number at a place of a row. -/
def rv (row : List Int) (k : Nat) : Nat := (D.eli row k).toNat
def rowB (n : Nat) (row : List Int) : Bool := decide (row.length = n) && (List.range row.length).all fun k => decide (0 ≤ D.eli row k ∧ D.eli row k ≤ 2)
structure RowIs (n : Nat) (row : List Int) : Prop where
  len : row.length = n
  eq : ∀ k, k < n → D.eli row k = (rv row k : Int)
  le : ∀ k, k < n → rv row k ≤ 2
def romanB (net row : List Int) : Bool := (List.range net.length).all fun k => !(rv row k == 0 && (nb net k &&& withN net.length (rv row) 2) == 0)
def italianB (net row : List Int) : Bool := (List.range net.length).all fun k => !(rv row k == 0 && decide (help net (rv row) k < 2))
/-- The row of the digits of a number. -/
def digs (n m : Nat) : List Int := (List.range n).map fun k => ((dig n m k : Nat) : Int)
/-- The first least row of a kind, and the least sum. -/
def rowStep (n : Nat) (p : List Int → Bool) (best : List Int) (m : Nat) : List Int := if p (digs n m) = true ∧ (best.length = 0 ∨ sumN n (rv (digs n m)) < sumN n (rv best)) then digs n m else best
def bestRow (n : Nat) (p : List Int → Bool) : List Int := fold (3 ^ n) (rowStep n p) []
theorem roman_congr {net : List Int} {r q : Nat → Nat} (h : ∀ k, k < net.length → r k = q k) (hr : RomanP net r) : RomanP net q := fun k hk h0 => by
  obtain ⟨j, hj, a, b⟩ := hr k hk (by rw [h k hk]; exact h0)
  exact ⟨j, hj, a, by rw [← h j hj]; exact b⟩
/-- The least Roman row. -/
structure FirstRoman (net : List Int) (b : Nat) : Prop where
  lt : b < 3 ^ net.length
  roman : RomanP net (dig net.length b)
  le : ∀ m, m < 3 ^ net.length → RomanP net (dig net.length m) → sumN net.length (dig net.length b) ≤ sumN net.length (dig net.length m)
  first : ∀ m, m < b → RomanP net (dig net.length m) → sumN net.length (dig net.length b) < sumN net.length (dig net.length m)
theorem FirstRoman.min {net : List Int} {b : Nat} (hb : FirstRoman net b) : MinRow net.length (RomanP net) (sumN net.length (dig net.length b)) := by
  refine ⟨⟨dig net.length b, fun k _ => dig_lt _ _ _, hb.roman, rfl⟩, fun r hr hR => ?_⟩
  obtain ⟨m, hm, hd⟩ := dig_all hr
  have h1 := hb.le m hm (roman_congr (fun k hk => (hd k hk).symm) hR)
  rw [sumN_congr (f := dig net.length m) hd] at h1
  exact h1
def fewestRoman (net : List Int) : Nat := sumN net.length (rv (bestRow net.length (romanB net)))
def fewestItalian (net : List Int) : Nat := fold (3 ^ net.length) (fun t m => if italianB net (digs net.length m) = true then (if sumN net.length (rv (digs net.length m)) < t then sumN net.length (rv (digs net.length m)) else t) else t) net.length
/-- The row of a set. -/
def rowOf (net : List Int) (s : Nat) : List Int := fold net.length (fun l k => l ++ [((rowOfN net s k : Nat) : Int)]) []
def rowOfI (net : List Int) (s : Int) : List Int := if 0 ≤ s ∧ s < 2 ^ net.length then rowOf net s.toNat else []
end Go.Proofs.Ytbahjlgloilabaa
/- The model's functions of chapter 8 in natural numbers. Conditions: those of each theorem. -/
namespace Go.Proofs.Ytbahjlgloilabaa
open D Go.RowKit
set_option linter.unusedVariables false
set_option linter.unusedSimpArgs false


/-- Can a guard come? -/
def canB (net : List Int) (s t : Nat) : Bool := (List.range net.length).any fun f => s.testBit f && ((nb net t).testBit f && W net (moved s f t))
def secureB (net : List Int) (s : Nat) : Bool := W net s && (List.range net.length).all fun k => !(!s.testBit k && !canB net s k)
def fewestSecure (net : List Int) : Nat := minSize net (secureB net)
def leaveB (net : List Int) (r : Nat → Nat) (p : Nat) : Bool := (List.range net.length).any fun f => decide (1 ≤ r f) && ((nb net p).testBit f && W net (withN net.length (leave r f p) 1))
def weakB (net row : List Int) : Bool := (List.range net.length).all fun k => !(rv row k == 0 && !leaveB net (rv row) k)
def fewestWeak (net : List Int) : Nat := fold (3 ^ net.length) (fun t m => if weakB net (digs net.length m) = true then (if sumN net.length (rv (digs net.length m)) < t then sumN net.length (rv (digs net.length m)) else t) else t) net.length
end Go.Proofs.Ytbahjlgloilabaa
/- Plain facts about the program's own ways of chapters 6 to 9: least numbers from -1 on, the first row of the fewest guards, the least place of a set. Conditions: those of each theorem. -/
namespace Go.Proofs.Ytbahjlgloilabaa
open D Go.RowKit
set_option linter.unusedVariables false
set_option linter.unusedSimpArgs false

/-- The least number of a kind; -1 if there is none. -/
def minStepV (p : Nat → Bool) (v : Nat → Nat) (t : Int) (s : Nat) : Int := if p s = true then (if t < 0 then ((v s : Nat) : Int) else if ((v s : Nat) : Int) < t then ((v s : Nat) : Int) else t) else t
def lessStep (n : Nat) (p : List Int → Bool) (best : List Int) (m : Nat) : List Int := if sumN n (rv (digs n m)) < sumN n (rv best) ∧ p (digs n m) = true then digs n m else best
end Go.Proofs.Ytbahjlgloilabaa
/- Other ways to the sets and numbers of chapters 3 to 5. Conditions: those of each theorem. -/
namespace Go.Proofs.Ytbahjlgloilabaa
set_option linter.unusedVariables false
set_option linter.unusedSimpArgs false

def minStepN (p : Nat → Bool) (t s : Nat) : Nat := if p s = true then (if size s < t then size s else t) else t
def maxStepN (p : Nat → Bool) (t s : Nat) : Nat := if p s = true then (if size s > t then size s else t) else t
end Go.Proofs.Ytbahjlgloilabaa
/- The program's functions of chapters 3 and 4 in natural numbers. Conditions: those of each theorem. -/
namespace Go.Proofs.Ytbahjlgloilabaa
open D Go.RowKit
set_option linter.unusedVariables false
set_option linter.unusedSimpArgs false


end Go.Proofs.Ytbahjlgloilabaa
/- The program's functions of chapter 6 but MostLeaves, in natural numbers. Conditions: those of each theorem. -/
namespace Go.Proofs.Ytbahjlgloilabaa
open D Go.RowKit
set_option linter.unusedVariables false
set_option linter.unusedSimpArgs false


end Go.Proofs.Ytbahjlgloilabaa
/- Wires in a row, each two numbers; some of them. Conditions: those of each theorem. -/
namespace Go.Proofs.Ytbahjlgloilabaa
open D Go.RowKit
set_option linter.unusedVariables false
set_option linter.unusedSimpArgs false


/-- Pairs of numbers, one behind the other. -/
def fl : List (Nat × Nat) → List Int
  | [] => []
  | p :: r => (p.1 : Int) :: (p.2 : Int) :: fl r
def PairsIn (n : Nat) (P : List (Nat × Nat)) : Prop := ∀ p, p ∈ P → p.1 < p.2 ∧ p.2 < n
theorem fold_first {T : Type} (f : T → Nat → T) : ∀ (n : Nat) (t : T), fold (n + 1) f t = fold n (fun t k => f t (k + 1)) (f t 0) := by
  intro n
  induction n with
  | zero => intro t; rfl
  | succ n ih => intro t; rw [fold_succ, ih, fold_succ]
end Go.Proofs.Ytbahjlgloilabaa
/- Packings and forests: plain facts. Conditions: those of each theorem. -/
namespace Go.Proofs.Ytbahjlgloilabaa
set_option linter.unusedVariables false
set_option linter.unusedSimpArgs false

def packed (net : List Int) (s : Nat) : Bool := (List.range net.length).all fun k => !decide (1 < size (ball net k &&& s))
/-- No two guards see one place. -/
def Packed (net : List Int) (s : Nat) : Prop := ∀ i j w, s.testBit i = true → s.testBit j = true → (ball net i).testBit w = true → (ball net j).testBit w = true → i = j
theorem Packed.mono {net : List Int} {s t : Nat} (hst : ∀ j, t.testBit j = true → s.testBit j = true) (hp : Packed net s) : Packed net t := fun i j w hi hj => hp i j w (hst i hi) (hst j hj)
theorem Packed.apart {net : List Int} (h : Ok net) {s : Nat} (hs : s < 2 ^ net.length) (hp : Packed net s) : Apart net s := fun j k hj hk => not_true fun hx => by
  have := hp j k k hj hk ((ball_testBit _ _ _).2 (.inl hx)) (sees_self net k)
  rw [this, h.irr k (in_lt hs hk)] at hx; cases hx
/-- The least places of the parts. -/
def roots (net : List Int) : Nat := orN net.length (root net) (fun k => 2 ^ k)
/-! ### Forests -/
/-- Places go one by one, each with at most one neighbour left. -/
inductive Peel (net : List Int) : Nat → Prop
  | zero : Peel net 0
  | step {s k : Nat} : s.testBit k = true → size (nb net k &&& s) ≤ 1 → Peel net (s - 2 ^ k) → Peel net s
/-- Nobody can go. -/
def Stuck (net : List Int) (s : Nat) : Prop := ∀ k, s.testBit k = true → 2 ≤ size (nb net k &&& s)
end Go.Proofs.Ytbahjlgloilabaa
/- Cliques: plain facts. Conditions: those of each theorem. -/
namespace Go.Proofs.Ytbahjlgloilabaa
set_option linter.unusedVariables false
set_option linter.unusedSimpArgs false

/-- Places with the same number are neighbours. -/
def CliqueP (net : List Int) (c : Nat → Nat) : Prop := ∀ i j, i < net.length → j < net.length → c i = c j → i ≠ j → (nb net i).testBit j = true
/-- At most so many cliques have all places. -/
def InCliques (net : List Int) (m : Nat) : Prop := ∃ c : Nat → Nat, CliqueP net c ∧ ∀ i, i < net.length → c i < m
/-- One guard in each clique that has a place. -/
def OneEach (net : List Int) (c : Nat → Nat) (s : Nat) : Prop := ∀ k, k < net.length → ∃ g, g < net.length ∧ s.testBit g = true ∧ c g = c k
/-- All places are alone in a clique each. -/
theorem cliques_all (net : List Int) : InCliques net net.length := ⟨fun i => i, fun i j _ _ he hne => absurd he hne, fun i hi => hi⟩
def Clique (net : List Int) (s : Nat) : Prop := ∀ i j, s.testBit i = true → s.testBit j = true → i ≠ j → (nb net i).testBit j = true
end Go.Proofs.Ytbahjlgloilabaa
/- Cliques of forests: as many as are apart. Conditions: those of each theorem. -/
namespace Go.Proofs.Ytbahjlgloilabaa
set_option linter.unusedVariables false
set_option linter.unusedSimpArgs false

end Go.Proofs.Ytbahjlgloilabaa
/- Rows of cliques and of shares: plain facts. Conditions: those of each theorem. -/
namespace Go.Proofs.Ytbahjlgloilabaa
open D Go.RowKit
set_option linter.unusedVariables false
set_option linter.unusedSimpArgs false

/-- The places with a number. -/
def setL (r : List Nat) (v : Nat) : Nat := orN r.length (fun k => decide (r.getD k 0 = v)) (fun k => 2 ^ k)
theorem setL_bit {r : List Nat} {v j : Nat} : (setL r v).testBit j = true ↔ j < r.length ∧ r.getD j 0 = v := by
  unfold setL
  rw [orN_testBit]
  constructor
  · rintro ⟨k, hk, a, b⟩
    rw [testBit_pow, decide_eq_true_eq] at b
    subst b
    exact ⟨hk, by simpa using a⟩
  · rintro ⟨a, b⟩
    exact ⟨j, a, by simpa using b, by rw [testBit_pow]; simp⟩
def CliqueL (net : List Int) (r : List Nat) : Prop := ∀ i j, i < r.length → j < r.length → i ≠ j → r.getD i 0 = r.getD j 0 → (nb net i).testBit j = true
theorem CliqueL.nil (net : List Int) : CliqueL net [] := fun i j hi => by simp at hi
theorem CliqueL.sets {net : List Int} {r : List Nat} (h : CliqueL net r) (v : Nat) : Clique net (setL r v) := fun i j hi hj hne => by
  obtain ⟨a, b⟩ := setL_bit.1 hi
  obtain ⟨c, d⟩ := setL_bit.1 hj
  exact h i j a c hne (by omega)
theorem CliqueL.append {net : List Int} {r : List Nat} {v : Nat} : CliqueL net (r ++ [v]) ↔ CliqueL net r ∧ Clique net (setL (r ++ [v]) v) := by
  constructor
  · intro h
    refine ⟨fun i j hi hj hne he => h i j (by simp; omega) (by simp; omega) hne (by rw [getD_app_lt hi, getD_app_lt hj]; exact he), h.sets v⟩
  · rintro ⟨h1, h2⟩ i j hi hj hne he
    simp only [List.length_append, List.length_singleton] at hi hj
    by_cases a : i < r.length
    · by_cases b : j < r.length
      · rw [getD_app_lt a, getD_app_lt b] at he
        exact h1 i j a b hne he
      · obtain rfl : j = r.length := by omega
        rw [getD_app_lt a, getD_app_end] at he
        exact h2 i r.length (setL_bit.2 ⟨by simp; omega, by rw [getD_app_lt a]; exact he⟩) (setL_bit.2 ⟨by simp, getD_app_end r v⟩) hne
    · obtain rfl : i = r.length := by omega
      have b : j < r.length := by omega
      rw [getD_app_lt b, getD_app_end] at he
      exact h2 r.length j (setL_bit.2 ⟨by simp, getD_app_end r v⟩) (setL_bit.2 ⟨by simp; omega, by rw [getD_app_lt b]; exact he.symm⟩) hne
theorem CliqueL.pre {net : List Int} {r q : List Nat} (h : CliqueL net q) (hp : r <+: q) : CliqueL net r := fun i j hi hj hne he => by
  have hl := hp.length_le
  exact h i j (by omega) (by omega) hne (by rw [pre_at hp hi, pre_at hp hj]; exact he)
/-- A row of at most so many cliques. -/
structure CRow (net : List Int) (m : Nat) (q : List Nat) : Prop where
  len : q.length = net.length
  rg : RG q
  le : nx q ≤ m
  cl : CliqueL net q
/-- In a row that counts up each number is there. -/
theorem RG.all {r : List Nat} (h : RG r) : ∀ v, v < nx r → ∃ k, k < r.length ∧ r.getD k 0 = v := by
  have key : ∀ m, m ≤ r.length → ∀ v, v < nx (r.take m) → ∃ k, k < m ∧ r.getD k 0 = v := by
    intro m
    induction m with
    | zero => intro _ v hv; simp [nx] at hv
    | succ m ih =>
      intro hm v hv
      rw [nx_take_succ (by omega)] at hv
      by_cases hlt : v < nx (r.take m)
      · obtain ⟨k, hk, e⟩ := ih (by omega) v hlt
        exact ⟨k, by omega, e⟩
      · have := h m (by omega)
        exact ⟨m, by omega, by omega⟩
  intro v hv
  exact key r.length (Nat.le_refl _) v (by rwa [List.take_length])
/-- So few cliques have all places. -/
structure MinCl (net : List Int) (m : Nat) : Prop where
  ex : InCliques net m
  le : ∀ k, InCliques net k → m ≤ k
theorem minCl_ex (net : List Int) : ∃ m, m ≤ net.length ∧ MinCl net m := by
  have key : ∀ b, InCliques net b → ∃ m, m ≤ b ∧ MinCl net m := by
    intro b
    induction b using Nat.strongRecOn with
    | _ b ih =>
      intro hb
      by_cases hex : ∃ k, k < b ∧ InCliques net k
      · obtain ⟨k, hk, hi⟩ := hex
        obtain ⟨m, hm, hM⟩ := ih k hk hi
        exact ⟨m, by omega, hM⟩
      · exact ⟨b, Nat.le_refl _, hb, fun k hk => Nat.not_lt.1 fun hlt => hex ⟨k, hlt, hk⟩⟩
  exact key _ (cliques_all net)
noncomputable def fewestCl (net : List Int) : Nat := (minCl_ex net).choose
end Go.Proofs.Ytbahjlgloilabaa
/- Watches that share the places, a net and its other net: plain facts. Conditions: those of each theorem. -/
namespace Go.Proofs.Ytbahjlgloilabaa
set_option linter.unusedVariables false
set_option linter.unusedSimpArgs false

/-- All places shared out among so many watches. -/
def SharesP (net : List Int) (c : Nat → Nat) (m : Nat) : Prop := (∀ i, i < net.length → c i < m) ∧ ∀ q, q < m → ∀ j, j < net.length → ∃ i, i < net.length ∧ c i = q ∧ (ball net j).testBit i = true
def InShares (net : List Int) (m : Nat) : Prop := ∃ c : Nat → Nat, SharesP net c m
/-- The places with a number. -/
def classOf (n : Nat) (c : Nat → Nat) (q : Nat) : Nat := orN n (fun k => c k == q) (fun k => 2 ^ k)
/-! ### The other net -/
/-- Just those are neighbours that are not in the net. -/
structure Other (net o : List Int) : Prop where
  ok : Ok o
  len : o.length = net.length
  bit : ∀ i j, i < net.length → j < net.length → (nb o i).testBit j = (!decide (i = j) && !(nb net i).testBit j)
/-- Each place by a guard of the watch that sees it. -/
structure Served (net : List Int) (D : Nat) (p : Nat → Nat) : Prop where
  mem : ∀ v, v < net.length → D.testBit (p v) = true
  sees : ∀ v, v < net.length → (ball net (p v)).testBit v = true
  own : ∀ d, D.testBit d = true → p d = d
/-- Who sees all that are served with it. -/
noncomputable def univ (net : List Int) (p : Nat → Nat) (v : Nat) : Bool := @decide (∀ u, u < net.length → p u = p v → (ball net v).testBit u = true) (Classical.propDecidable _)
end Go.Proofs.Ytbahjlgloilabaa
/- The other net. Conditions: those of each theorem. -/
namespace Go.Proofs.Ytbahjlgloilabaa
open D Go.RowKit
set_option linter.unusedVariables false
set_option linter.unusedSimpArgs false

def otherN (net : List Int) : List Int := (List.range net.length).map fun k => ((minus (allOf net) (ball net k) : Nat) : Int)
end Go.Proofs.Ytbahjlgloilabaa
/- The model's functions of chapter 9 in natural numbers. Conditions: those of each theorem. -/
namespace Go.Proofs.Ytbahjlgloilabaa
open D Go.RowKit
set_option linter.unusedVariables false
set_option linter.unusedSimpArgs false


/-- Can this guard come, so that a set of the list is there? -/
def ansP (net : List Int) (l : List Bool) (s t f : Nat) : Bool := s.testBit f && ((nb net t).testBit f && D.elb l (moved s f t))
def ansI (net : List Int) (l : List Bool) (s t : Nat) : Int := (find net.length (fun f => if ansP net l s t f = true then some (f : Int) else none)).getD (-1)
def holdsB (net : List Int) (l : List Bool) (s : Nat) : Bool := ((List.range net.length).all fun k => !(!s.testBit k && decide (ansI net l s k < 0))) && D.elb l s
noncomputable def eternalB (net : List Int) (s : Nat) : Bool := @decide (Eternal net s) (Classical.propDecidable _)
noncomputable def lasts (net : List Int) : List Bool := (List.range (2 ^ net.length)).map (eternalB net)
noncomputable def fewestEternal (net : List Int) : Nat := minSize net (eternalB net)
/-- The answer of an eternal set. -/
noncomputable def answerI (net : List Int) (s p : Int) : Int := if (0 ≤ s ∧ s < 2 ^ net.length) ∧ (0 ≤ p ∧ p < net.length) ∧ eternalB net s.toNat = true ∧ s.toNat.testBit p.toNat = false then ansI net (lasts net) s.toNat p.toNat else -1
end Go.Proofs.Ytbahjlgloilabaa
/- The model's functions of chapter 10 in natural numbers. Conditions: those of each theorem. -/
namespace Go.Proofs.Ytbahjlgloilabaa
open D Go.RowKit
set_option linter.unusedVariables false
set_option linter.unusedSimpArgs false


/-- The guards from a place on fit into a set. -/
def FitP (net : List Int) (f a l : Nat) : Prop := ∃ g : Nat → Nat, (∀ i, a ≤ i → f.testBit i = true → l.testBit (g i) = true ∧ (ball net i).testBit (g i) = true) ∧ ∀ i j, a ≤ i → a ≤ j → f.testBit i = true → f.testBit j = true → g i = g j → i = j
noncomputable def fitB (net : List Int) (f a l : Nat) : Bool := @decide (FitP net f a l) (Classical.propDecidable _)
noncomputable def allMoveB (net : List Int) (a b : Nat) : Bool := size a == size b && fitB net a 0 b
def ansAP (net : List Int) (l : List Bool) (fit : Nat → Bool) (s p u : Nat) : Bool := D.elb l u && (u.testBit p && (size u == size s && fit u))
noncomputable def ansA (net : List Int) (l : List Bool) (s p : Nat) : Int := (find (2 ^ net.length) (fun u => if ansAP net l (fitB net s 0) s p u = true then some (u : Int) else none)).getD (-1)
noncomputable def badA (net : List Int) (l : List Bool) (s k : Nat) : Bool := !s.testBit k && decide (ansA net l s k < 0)
noncomputable def holdsA (net : List Int) (l : List Bool) (s : Nat) : Bool := !((List.range net.length).any (badA net l s))
noncomputable def inStep (net : List Int) (s : Nat) (t : Bool × List Bool) (k : Nat) : Bool × List Bool := if (D.elb t.2 s && badA net t.2 s k) = true then (true, t.2.set s false) else t
noncomputable def allEternalB (net : List Int) (s : Nat) : Bool := @decide (AllEternal net s) (Classical.propDecidable _)
noncomputable def lastsA (net : List Int) : List Bool := (List.range (2 ^ net.length)).map (allEternalB net)
noncomputable def fewestAllEternal (net : List Int) : Nat := minSize net (allEternalB net)
/-- The answer of a set that all can keep up. -/
noncomputable def allAnswerI (net : List Int) (s p : Int) : Int := if (0 ≤ s ∧ s < 2 ^ net.length) ∧ (0 ≤ p ∧ p < net.length) ∧ allEternalB net s.toNat = true ∧ s.toNat.testBit p.toNat = false then ansA net (lastsA net) s.toNat p.toNat else -1
end Go.Proofs.Ytbahjlgloilabaa
/- The model's functions of chapter 13 in natural numbers: cliques and the other net. Conditions: those of each theorem. -/
namespace Go.Proofs.Ytbahjlgloilabaa
open D Go.RowKit
set_option linter.unusedVariables false
set_option linter.unusedSimpArgs false


def cliqueB (net : List Int) (s : Nat) : Bool := (List.range net.length).all fun k => !(s.testBit k && (minus s (ball net k) != 0))
/-- Does a list of numbers begin with a row that counts up? -/
def rgStep (row : List Int) (t k : Nat) : Unit ⊕ Nat := if 0 ≤ D.eli row k ∧ D.eli row k ≤ t then .inr (max t ((D.eli row k).toNat + 1)) else .inl ()
noncomputable def crB (net row : List Int) : Bool := @decide (∃ q : List Nat, row = nl q ∧ q.length = net.length ∧ RG q ∧ CliqueL net q) (Classical.propDecidable _)
/-- The row that a call hands back. -/
def outOf : (List Int) ⊕ ((List Int) × (List Int)) → List Int
  | .inl r => r
  | .inr p => p.2
def rowO : Option (List Nat) → List Int
  | none => []
  | some q => nl q
def findStep {Q : Type} (g : Nat → Option Q) (_ : Unit) (v : Nat) : Q ⊕ Unit := match g v with | some q => .inl q | none => .inr ()
/-- The first row of a kind. -/
noncomputable def firstOf (P : List Nat → Prop) : List Nat := @dite _ (∃ q, IsFirst P q) (Classical.propDecidable _) (fun h => h.choose) (fun _ => [])
noncomputable def clRow (net : List Int) : List Nat := firstOf (CRow net (fewestCl net))
end Go.Proofs.Ytbahjlgloilabaa
/- The program's functions of chapter 4 over nets, and of chapter 5, in natural numbers. Conditions: those of each theorem. -/
namespace Go.Proofs.Ytbahjlgloilabaa
open D Go.RowKit
set_option linter.unusedVariables false
set_option linter.unusedSimpArgs false


/-- One of two numbers, by a test and then a call. -/
def sel {α : Type} (a : Bool) (o : Option Bool) (x y : Int) (k : Int → Option α) : Option α := bif a then optC o (fun c => bif c then k x else k y) none else k y
def ch6 (net : List Int) (q : Nat × Nat × Nat × Nat × Nat × Nat) (s : Nat) : Nat × Nat × Nat × Nat × Nat × Nat :=
  (minStepN (fullN net) q.1 s, minStepN (W net) q.2.1 s, minStepN (fullA net) q.2.2.1 s, maxStepN (apart net) q.2.2.2.1 s, maxStepN (least net) q.2.2.2.2.1 s, maxStepN (needs net) q.2.2.2.2.2 s)
end Go.Proofs.Ytbahjlgloilabaa
/- The program's functions of chapter 7 in natural numbers. Conditions: those of each theorem. -/
namespace Go.Proofs.Ytbahjlgloilabaa
open D Go.RowKit
set_option linter.unusedVariables false
set_option linter.unusedSimpArgs false


/-- The places that have just so many. -/
def eqN (n : Nat) (r : Nat → Nat) (m : Nat) : Nat := orN n (fun k => decide (r k = m)) (fun k => 2 ^ k)
end Go.Proofs.Ytbahjlgloilabaa
/- GuardMoved in natural numbers. Conditions: those of each theorem. -/
namespace Go.Proofs.Ytbahjlgloilabaa
open D Go.RowKit
set_option linter.unusedVariables false
set_option linter.unusedSimpArgs false


def mayMove (net : List Int) (s f t : Nat) : Bool := s.testBit f && (!s.testBit t && (nb net f).testBit t)
def movedI (net : List Int) (s f t : Int) : Int := if (0 ≤ s ∧ s < 2 ^ net.length) ∧ (0 ≤ f ∧ f < net.length) ∧ (0 ≤ t ∧ t < net.length) ∧ mayMove net s.toNat f.toNat t.toNat = true then ((moved s.toNat f.toNat t.toNat : Nat) : Int) else -1
end Go.Proofs.Ytbahjlgloilabaa
/- The program's functions of chapter 8 in natural numbers. Conditions: those of each theorem. -/
namespace Go.Proofs.Ytbahjlgloilabaa
open D Go.RowKit
set_option linter.unusedVariables false
set_option linter.unusedSimpArgs false


/-- Can a guard come to a place without one? -/
def comeB (net : List Int) (s t : Nat) : Bool := (List.range net.length).any fun f => mayMove net s f t && W net (moved s f t)
/-- The places with guards, when one guard leaves a place. -/
def lessN (n : Nat) (r : Nat → Nat) (f : Nat) : Nat := if r f = 1 then (if (eqN n r 1 ||| eqN n r 2).testBit f = true then (eqN n r 1 ||| eqN n r 2) - 2 ^ f else eqN n r 1 ||| eqN n r 2) else eqN n r 1 ||| eqN n r 2
end Go.Proofs.Ytbahjlgloilabaa
/- AnsweredAll in natural numbers. Conditions: those of each theorem. -/
namespace Go.Proofs.Ytbahjlgloilabaa
open D Go.RowKit
set_option linter.unusedVariables false
set_option linter.unusedSimpArgs false


/-- The set after one ask. -/
noncomputable def ansNext (net : List Int) (s p : Nat) : Nat := if s.testBit p = true then s else moved s (ansI net (lasts net) s p).toNat p
noncomputable def ansStep (net places : List Int) (t : Nat × List Int) (k : Nat) : List Int ⊕ (Nat × List Int) :=
  if 0 ≤ D.eli places k ∧ D.eli places k < net.length then .inr (ansNext net t.1 (D.eli places k).toNat, t.2 ++ [((ansNext net t.1 (D.eli places k).toNat : Nat) : Int)]) else .inl t.2
noncomputable def answered (net : List Int) (s : Nat) (places : List Int) : List Int := match loopE places.length (ansStep net places) (s, [(s : Int)]) with | .inl _ => [] | .inr t => t.2
noncomputable def answeredI (net : List Int) (s : Int) (places : List Int) : List Int := if (0 ≤ s ∧ s < 2 ^ net.length) ∧ eternalB net s.toNat = true then answered net s.toNat places else []
/-- What the list of answers holds. -/
def AnsInv (net places : List Int) (s k : Nat) (t : Nat × List Int) : Prop :=
  t.1 < 2 ^ net.length ∧ t.2.length = k + 1 ∧ D.eli t.2 0 = s ∧
  (∀ j, j ≤ k → ∃ u : Nat, D.eli t.2 j = u ∧ u < 2 ^ net.length ∧ Eternal net u ∧ size u = size s ∧ (j = k → u = t.1)) ∧
  ∀ j, j < k → ∃ p : Nat, D.eli places j = p ∧ p < net.length ∧ (D.eli t.2 (j + 1)).toNat.testBit p = true
end Go.Proofs.Ytbahjlgloilabaa
/- The program's functions of chapter 9 in natural numbers. Conditions: those of each theorem. -/
namespace Go.Proofs.Ytbahjlgloilabaa
open D Go.RowKit
set_option linter.unusedVariables false
set_option linter.unusedSimpArgs false


/-- The sets in which one guard has moved. -/
def mvIn (net : List Int) (s f : Nat) (l : List Int) (t : Nat) : List Int := if mayMove net s f t = true then l ++ [((moved s f t : Nat) : Int)] else l
def mvOut (net : List Int) (s : Nat) (l : List Int) (f : Nat) : List Int := fold net.length (mvIn net s f) l
def mvs (net : List Int) (s : Nat) : List Int := fold net.length (mvOut net s) []
/-- What is answered by going to sets that last. -/
def ansS (l : List Bool) (s : Nat) (L : List Int) : Nat := fold L.length (fun t k => if D.elb l (D.eli L k).toNat = true then t ||| (D.eli L k).toNat else t) s
def Among (n : Nat) (L : List Int) : Prop := L.length ≤ 1000 ∧ ∀ k, k < L.length → ∃ u : Nat, D.eli L k = (u : Int) ∧ u < 2 ^ n
end Go.Proofs.Ytbahjlgloilabaa
/- All guards move: a place for one more guard, who is matched already may have to take another one. Conditions: those of each theorem. -/
namespace Go.Proofs.Ytbahjlgloilabaa
open D Go.RowKit
set_option linter.unusedVariables false
set_option linter.unusedSimpArgs false

/-- Whom a place has is near, and the place is one of the new ones. -/
def KValid (net : List Int) (to : Nat) (c : Nat → Nat) : Prop := ∀ p, p < 6 → c p ≠ 0 → to.testBit p = true ∧ (ball net (c p - 1)).testBit p = true ∧ c p ≤ net.length
def upd (c : Nat → Nat) (k v p : Nat) : Nat := if p = k then v else c p
structure KOut (net : List Int) (to g T : Nat) (c : Nat → Nat) (T' : Nat) (c' : Nat → Nat) (f : Bool) : Prop where
  lt : T' < 2 ^ net.length
  sub : ∀ p, T.testBit p = true → T'.testBit p = true
  no : f = false → (∀ p, p < 6 → c' p = c p) ∧ (∀ p, to.testBit p = true → (ball net g).testBit p = true → T'.testBit p = true) ∧
    ∀ p, T'.testBit p = true → T.testBit p = false → c p ≠ 0 ∧ ∀ q, to.testBit q = true → (ball net (c p - 1)).testBit q = true → T'.testBit q = true
  yes : f = true → (∀ p, p < 6 → T.testBit p = true → c' p = c p) ∧ KValid net to c' ∧ ∀ x, cnt 6 (fun p => !T.testBit p && c' p == x + 1) = cnt 6 (fun p => !T.testBit p && c p == x + 1) + (decide (x = g)).toNat
structure KInv (net : List Int) (to g T0 : Nat) (c : Nat → Nat) (k T : Nat) : Prop where
  lt : T < 2 ^ net.length
  sub : ∀ p, T0.testBit p = true → T.testBit p = true
  done : ∀ p, p < k → to.testBit p = true → (ball net g).testBit p = true → T.testBit p = true
  clo : ∀ p, T.testBit p = true → T0.testBit p = false → c p ≠ 0 ∧ ∀ q, to.testBit q = true → (ball net (c p - 1)).testBit q = true → T.testBit q = true
/-- Those of the guards below k that are in a set have one place each. -/
def KDone (src : Nat) (c : Nat → Nat) (k : Nat) : Prop := ∀ x, cnt 6 (fun p => c p == x + 1) = (decide (x < k) && src.testBit x).toNat
end Go.Proofs.Ytbahjlgloilabaa
/- A new place for each guard: the program's matching. Conditions: those of each theorem. -/
namespace Go.Proofs.Ytbahjlgloilabaa
open D Go.RowKit
set_option linter.unusedVariables false
set_option linter.unusedSimpArgs false


/-- The answer of a matching, in Go's numbers. -/
def kAns (c : Nat → Nat) (T : Nat) (f : Bool) : Int × Int × Int × Int × Int × Int × Int × Bool := (((c 0 : Nat) : Int), ((c 1 : Nat) : Int), ((c 2 : Nat) : Int), ((c 3 : Nat) : Int), ((c 4 : Nat) : Int), ((c 5 : Nat) : Int), ((T : Nat) : Int), f)
end Go.Proofs.Ytbahjlgloilabaa
/- The program's functions of chapter 10 in natural numbers. Conditions: those of each theorem. -/
namespace Go.Proofs.Ytbahjlgloilabaa
open D Go.RowKit
set_option linter.unusedVariables false
set_option linter.unusedSimpArgs false


/-- The sets to which all can move. -/
noncomputable def avs (net : List Int) (s : Nat) : List Int := listOfN (2 ^ net.length) (allMoveB net s)
end Go.Proofs.Ytbahjlgloilabaa
/- The program's functions of chapter 13 (at ae9a42a), and PlayMay, in natural numbers. Conditions: those of each theorem. -/
namespace Go.Proofs.Ytbahjlgloilabaa
open D Go.RowKit
set_option linter.unusedVariables false
set_option linter.unusedSimpArgs false


theorem eli_ext {l m : List Int} (hl : l.length = m.length) (h : ∀ k, k < l.length → D.eli l k = D.eli m k) : l = m := by
  refine List.ext_getElem hl fun k h1 h2 => ?_
  have := h k h1
  unfold D.eli at this
  simpa [List.getD, h1, h2] using this
end Go.Proofs.Ytbahjlgloilabaa
/- The bytes of a net. Plain facts. Conditions: those of each theorem. -/
namespace Go.Proofs.Ytbahjlgloilabaa
open D Go.RowKit
set_option linter.unusedVariables false
set_option linter.unusedSimpArgs false

/-- The sum of numbers, from a first one on. -/
def sumF (c : Int) (l : List Int) : Int := fold l.length (fun t k => t + D.eli l k) c
theorem sumF_cons (c a : Int) (l : List Int) : sumF c (a :: l) = sumF (c + a) l := by
  unfold sumF
  rw [show (a :: l).length = l.length + 1 from rfl, fold_first]
  rfl
theorem sumF_mod (c : Int) (l : List Int) (m : Nat) : fold m (fun t k => (t + D.eli l k) % 251) (c % 251) = fold m (fun t k => t + D.eli l k) c % 251 := by
  induction m with
  | zero => rfl
  | succ m ih => rw [fold_succ, fold_succ, ih]; omega
theorem fold_bound {b : Nat} {l : List Int} (h : ∀ k, k < l.length → 0 ≤ D.eli l k ∧ D.eli l k ≤ b) (c : Int) : ∀ m, m ≤ l.length → c ≤ fold m (fun t k => t + D.eli l k) c ∧ fold m (fun t k => t + D.eli l k) c ≤ c + m * b := by
  intro m
  induction m with
  | zero => intro _; simp [fold]
  | succ m ih =>
    intro hm
    have := ih (by omega)
    have := h m (by omega)
    rw [fold_succ]
    have e : ((m + 1 : Nat) : Int) * b = m * b + b := by rw [Int.natCast_add, Int.add_mul]; simp
    rw [e]
    omega
def lastByte (net : List Int) : Int := sumF (net.length : Int) net % 251
def bytesN (net : List Int) : List Int := ((net.length : Int) :: net) ++ [lastByte net]
theorem bytesN_len (net : List Int) : (bytesN net).length = net.length + 2 := by simp [bytesN]
/-- What stands between the first and the last one. -/
def mid (b : List Int) : List Int := (b.drop 1).take (b.length - 2)
theorem mid_len {b : List Int} (h : 2 ≤ b.length) : (mid b).length = b.length - 2 := by unfold mid; rw [List.length_take, List.length_drop]; omega
theorem mid_bytes (net : List Int) : mid (bytesN net) = net := by
  unfold mid
  rw [bytesN_len]
  show List.take net.length (net ++ [lastByte net]) = net
  rw [List.take_left']; rfl
theorem mid_eli {b : List Int} {k : Nat} (hk : k + 2 < b.length) : D.eli (mid b) k = D.eli b (k + 1) := by
  unfold mid D.eli
  simp only [List.getD, List.getElem?_take, List.getElem?_drop]
  rw [if_pos (by omega), Nat.add_comm 1 k]
theorem bytes_eq {b : List Int} (h : 2 ≤ b.length) : b = bytesN (mid b) ↔ D.eli b 0 = (mid b).length ∧ D.eli b (b.length - 1) = lastByte (mid b) := by
  have hm := mid_len h
  constructor
  · intro e
    have e0 : D.eli b 0 = D.eli (bytesN (mid b)) 0 := congrArg (fun l => D.eli l 0) e
    refine ⟨e0, ?_⟩
    have e1 : D.eli b (b.length - 1) = D.eli (bytesN (mid b)) (b.length - 1) := congrArg (fun l => D.eli l (b.length - 1)) e
    rw [e1]
    unfold bytesN D.eli
    rw [List.getD, List.getElem?_append_right (by simp; omega)]
    have : b.length - 1 - ((mid b).length + 1) = 0 := by omega
    simp [this]
  · rintro ⟨e0, e1⟩
    refine eli_ext (by rw [bytesN_len]; omega) fun k hk => ?_
    rcases Nat.eq_zero_or_pos k with rfl | hp
    · rw [e0]; rfl
    · obtain ⟨j, rfl⟩ : ∃ j, k = j + 1 := ⟨k - 1, by omega⟩
      by_cases hl : j + 2 < b.length
      · rw [← mid_eli hl]
        show _ = D.eli (mid b ++ [lastByte (mid b)]) j
        unfold D.eli
        rw [List.getD, List.getD, List.getElem?_append_left (by omega)]
      · have hj : j + 1 = b.length - 1 := by omega
        rw [hj, e1]
        unfold bytesN D.eli
        rw [List.getD, List.getElem?_append_right (by simp; omega)]
        have : b.length - 1 - ((mid b).length + 1) = 0 := by omega
        simp [this]
/-- Are these the bytes of a net? -/
def isBytes (b : List Int) : Prop := Ok (mid b) ∧ b = bytesN (mid b)
theorem isBytes_net {net : List Int} (h : Ok net) : isBytes (bytesN net) := by
  unfold isBytes; rw [mid_bytes]; exact ⟨h, rfl⟩
theorem isBytes_len {b : List Int} (h : isBytes b) : 3 ≤ b.length ∧ b.length ≤ 8 := by
  have h1 := h.1.lo
  have h6 := h.1.hi
  have := bytesN_len (mid b)
  rw [← h.2] at this
  omega
/-- No bytes of a net begin with those of another one. -/
theorem isBytes_less {b : List Int} (h : isBytes b) : ¬ isBytes (b.take (b.length - 1)) := by
  intro h2
  have hl := isBytes_len h
  have hl2 := isBytes_len h2
  have a := ((bytes_eq (by omega)).1 h.2).1
  have c := ((bytes_eq (by omega)).1 h2.2).1
  rw [mid_len (by omega)] at a c
  rw [List.length_take] at c hl2
  have e : D.eli (b.take (b.length - 1)) 0 = D.eli b 0 := by
    unfold D.eli; simp only [List.getD, List.getElem?_take]; rw [if_pos (by omega)]
  rw [e, a] at c
  omega
end Go.Proofs.Ytbahjlgloilabaa
/- NetBytes and NetFrom, of the program (at ae9a42a) and of the model. Conditions: those of each theorem. -/
namespace Go.Proofs.Ytbahjlgloilabaa
open D Go.RowKit
set_option linter.unusedVariables false
set_option linter.unusedSimpArgs false


theorem Ok.el63 {net : List Int} (h : Ok net) : ∀ k, k < net.length → 0 ≤ D.eli net k ∧ D.eli net k ≤ (63 : Nat) := fun k hk => by
  have := h.lt64 hk
  rw [h.eli hk]; omega
theorem tot_bound {net : List Int} (h : Ok net) : ∀ m, m ≤ net.length → (net.length : Int) ≤ fold m (fun t k => t + D.eli net k) (net.length : Int) ∧ fold m (fun t k => t + D.eli net k) (net.length : Int) ≤ 400 := fun m hm => by
  have := fold_bound (h.el63) (net.length : Int) m hm
  have h6 := h.hi
  have h2 : (m : Int) * (63 : Nat) ≤ 6 * 63 := by
    have : (m : Int) ≤ 6 := by omega
    omega
  omega
theorem byte_net {net : List Int} (h : Ok net) : Bytes (bytesN net) := fun x hx => by
  have h6 := h.hi
  unfold bytesN at hx
  rcases List.mem_append.1 hx with hx | hx
  · rcases List.mem_cons.1 hx with rfl | hx
    · omega
    · obtain ⟨k, hk, e⟩ := List.mem_iff_getElem.1 hx
      have := h.el63 k hk
      unfold D.eli at this
      simp [List.getD, hk, e] at this
      omega
  · rw [List.mem_singleton.1 hx]; unfold lastByte; omega
theorem take_more {l : List Int} {k : Nat} (hk : k < l.length) : l.take (k + 1) = l.take k ++ [D.eli l k] := by
  rw [List.take_add_one]
  unfold D.eli
  simp [List.getD, hk]
theorem I.NetBytes_x {net : List Int} (e : I.NetOk_t net = some false) : I.NetBytes_t net = some [] := by
  unfold I.NetBytes_t I.NetBytes_tree; rw [e]; rfl
theorem S.NetBytes_x {net : List Int} (e : S.NetOk_t net = some false) : S.NetBytes_t net = some [] := by
  unfold S.NetBytes_t S.NetBytes_tree; rw [e]; rfl
theorem I.NetBytes_y {net : List Int} (h : Ok net) (e : I.NetOk_t net = some true) : I.NetBytes_t net = some (bytesN net) := by
  unfold I.NetBytes_t I.NetBytes_tree
  have h6 := h.hi
  rw [e]
  simp only [optC, Bool.not_true, cond_false]
  rw [u8_wrap (by omega) (by omega)]
  have := run_for (run := I.NetBytes_run6 net) (len := net.length) (fun k (t : Int × List Int) => (t.1, (k : Int), t.2)) (fun t k => (t.1 + D.eli net k, t.2 ++ [D.eli net k])) (fun t => t) (fun k t => t.1 = fold k (fun t k => t + D.eli net k) (net.length : Int) ∧ t.2 = (net.length : Int) :: net.take k) (by omega) (fun n k t hk ht => ?_) (fun n t ht => ?_) (t0 := ((net.length : Int), [(net.length : Int)])) ⟨rfl, rfl⟩
  · obtain ⟨e1, i1, i2⟩ := this
    rw [show I.NetBytes_run6 net FUEL ((net.length : Int), 0, [(net.length : Int)]) = _ from e1]
    simp only
    rw [i1, i2, List.take_length]
    have hb := tot_bound h net.length (Nat.le_refl _)
    have hs : fold net.length (fun t k => t + D.eli net k) (net.length : Int) = sumF (net.length : Int) net := rfl
    rw [hs] at hb ⊢
    rw [Int.tmod_eq_emod_of_nonneg (by omega), u8_wrap (by omega) (by omega), cnd_t (small_of (by simp; omega))]
    rfl
  · obtain ⟨i1, i2⟩ := ht
    have hb := tot_bound h k (by omega)
    have hel := h.el63 k hk
    simp only [I.NetBytes_run6, I.NetBytes_step6]
    rw [cnd_t (by rw [decide_eq_true_eq]; omega), cnd_t (by simp only [Bool.and_eq_true, decide_eq_true_eq]; omega), Int.toNat_natCast, u8_wrap (by omega) (by omega), cnd_t (small_of (by rw [i2]; simp; omega)), cnd_t (by simp only [Bool.and_eq_true, decide_eq_true_eq]; omega), add1_nat (by omega), i64_wrap (by rw [i1]; omega) (by rw [i1]; omega)]
    refine ⟨rfl, by rw [i1, fold_succ], ?_⟩
    rw [i2, take_more hk]; rfl
  · simp only [I.NetBytes_run6, I.NetBytes_step6]
    rw [cnd_f (by rw [decide_eq_false_iff_not]; omega)]
theorem S.l14Sum_n {b : List Int} (hb : Bytes b) (hl : b.length ≤ 1000) : S.l14Sum_t b = some (sumF 0 b % 251) := by
  unfold S.l14Sum_t S.l14Sum_tree
  have hm := sumF_mod 0 b
  have := run_for (run := S.l14Sum_run3 b) (len := b.length) (fun k (t : Int) => (t, (k : Int))) (fun t k => (t + D.eli b k) % 251) (fun t => t) (fun k t => 0 ≤ t ∧ t < 251) (by omega) (fun n k t hk ht => ?_) (fun n t ht => ?_) (t0 := 0) ⟨by omega, by omega⟩
  · rw [show S.l14Sum_run3 b FUEL (0, 0) = _ from this.1]
    have e := hm b.length
    rw [show (0 : Int) % 251 = 0 from rfl] at e
    rw [e]; rfl
  · have hel := hb.eli k
    simp only [S.l14Sum_run3, S.l14Sum_step3]
    rw [cnd_t (by rw [decide_eq_true_eq]; omega), cnd_t (by simp only [Bool.and_eq_true, decide_eq_true_eq]; omega), Int.toNat_natCast, i64_wrap (n := D.eli b k) (by omega) (by omega), i64_wrap (by omega) (by omega), Int.tmod_eq_emod_of_nonneg (by omega), add1_nat (by omega)]
    exact ⟨rfl, by omega, by omega⟩
  · simp only [S.l14Sum_run3, S.l14Sum_step3]
    rw [cnd_f (by rw [decide_eq_false_iff_not]; omega)]
theorem S.NetBytes_y {net : List Int} (h : Ok net) (e : S.NetOk_t net = some true) : S.NetBytes_t net = some (bytesN net) := by
  unfold S.NetBytes_t S.NetBytes_tree
  have h6 := h.hi
  rw [e]
  simp only [optC, Bool.not_true, cond_false]
  rw [u8_wrap (by omega) (by omega)]
  have := run_for (run := S.NetBytes_run6 net) (len := net.length) (fun k (t : List Int) => ((k : Int), t)) (fun t k => t ++ [D.eli net k]) (fun t => t) (fun k t => t = (net.length : Int) :: net.take k) (by omega) (fun n k t hk ht => ?_) (fun n t ht => ?_) (t0 := [(net.length : Int)]) rfl
  · obtain ⟨e1, i2⟩ := this
    rw [show S.NetBytes_run6 net FUEL (0, [(net.length : Int)]) = _ from e1]
    simp only
    rw [i2, List.take_length]
    have hbb : Bytes ((net.length : Int) :: net) := fun x hx => byte_net h x (List.mem_append_left _ hx)
    rw [S.l14Sum_n hbb (by simp; omega), sumF_cons, Int.zero_add]
    simp only
    rw [u8_wrap (by omega) (by omega), cnd_t (small_of (by simp; omega))]
    rfl
  · have hel := h.el63 k hk
    simp only [S.NetBytes_run6, S.NetBytes_step6]
    rw [cnd_t (by rw [decide_eq_true_eq]; omega), cnd_t (by simp only [Bool.and_eq_true, decide_eq_true_eq]; omega), Int.toNat_natCast, u8_wrap (by omega) (by omega), cnd_t (small_of (by rw [ht]; simp; omega)), add1_nat (by omega)]
    exact ⟨rfl, by rw [ht, take_more hk]; rfl⟩
  · simp only [S.NetBytes_run6, S.NetBytes_step6]
    rw [cnd_f (by rw [decide_eq_false_iff_not]; omega)]
theorem I.NetFrom_is {b : List Int} (hb : Bytes b) : (isBytes b ∧ I.NetFrom_t b = some (true, mid b)) ∨ (¬ isBytes b ∧ I.NetFrom_t b = some (false, [])) := by
  unfold I.NetFrom_t I.NetFrom_tree
  by_cases h3 : b.length < 3
  · rw [cnd_t (by rw [decide_eq_true_eq]; omega)]
    exact .inr ⟨fun hc => by have := isBytes_len hc; omega, rfl⟩
  rw [cnd_f (by rw [decide_eq_false_iff_not]; omega)]
  by_cases h8 : b.length > 8
  · rw [cnd_t (by rw [decide_eq_true_eq]; omega)]
    exact .inr ⟨fun hc => by have := isBytes_len hc; omega, rfl⟩
  rw [cnd_f (by rw [decide_eq_false_iff_not]; omega), i64_wrap (n := (b.length : Int) - 2) (by omega) (by omega), show (b.length : Int) - 2 = ((b.length - 2 : Nat) : Int) by omega, Int.toNat_natCast, cnd_t (by simp [small]; omega)]
  have hml := mid_len (b := b) (by omega)
  have := run_for (run := I.NetFrom_run5 b) (len := b.length - 2) (fun k (t : List Int) => ((k : Int), t)) (fun t k => t.set k (D.eli b (k + 1))) (fun t => t) (fun k t => t.length = b.length - 2 ∧ ∀ j, j < k → D.eli t j = D.eli b (j + 1)) (by omega) (fun f k t hk ht => ?_) (fun f t ht => ?_) (t0 := List.replicate (b.length - 2) 0) ⟨by simp, fun j hj => by omega⟩
  · obtain ⟨e1, i1, i2⟩ := this
    rw [show I.NetFrom_run5 b FUEL (0, List.replicate (b.length - 2) 0) = _ from e1]
    simp only [optC]
    generalize fold (b.length - 2) (fun t k => t.set k (D.eli b (k + 1))) (List.replicate (b.length - 2) 0) = r at i1 i2 ⊢
    have hr : r = mid b := eli_ext (by omega) fun k hk => by rw [i2 k (by omega), mid_eli (by omega)]
    subst hr
    rcases NetOk_cases (mid b) with ⟨h, g1, _⟩ | ⟨hn, g1, _⟩
    · rw [I.NetBytes_y h g1]
      simp only
      rw [strEq_bytes (byte_net h) hb]
      by_cases he : bytesN (mid b) = b
      · rw [decide_eq_true he]; exact .inl ⟨⟨h, he.symm⟩, rfl⟩
      · rw [decide_eq_false he]; exact .inr ⟨fun hc => he hc.2.symm, rfl⟩
    · rw [I.NetBytes_x g1]
      simp only
      rw [strEq_bytes (fun x hx => by simp at hx) hb, decide_eq_false (fun hc => by rw [← hc] at h3; simp at h3)]
      exact .inr ⟨fun hc => hn hc.1, rfl⟩
  · obtain ⟨i1, i2⟩ := ht
    have hel := hb.eli (k + 1)
    simp only [I.NetFrom_run5, I.NetFrom_step5]
    rw [i1, cnd_t (by rw [decide_eq_true_eq]; omega), add1_nat (by omega), cnd_t (by simp only [Bool.and_eq_true, decide_eq_true_eq]; omega), cnd_t (by simp only [Bool.and_eq_true, decide_eq_true_eq]; omega), Int.toNat_natCast, Int.toNat_natCast, cnd_t (by rw [decide_eq_true_eq]; omega), i64_wrap (by omega) (by omega)]
    refine ⟨rfl, by rw [List.length_set]; exact i1, fun j hj => ?_⟩
    unfold D.eli
    by_cases hjk : j = k
    · subst hjk
      simp [List.getD, show j < t.length by omega]
    · have := i2 j (by omega)
      unfold D.eli at this
      simpa [List.getD, List.getElem?_set, show ¬ k = j from fun e => hjk e.symm] using this
  · simp only [I.NetFrom_run5, I.NetFrom_step5]
    rw [ht.1, cnd_f (by rw [decide_eq_false_iff_not]; omega)]
theorem take_mid {b : List Int} (h : 2 ≤ b.length) : b.take (b.length - 1) = D.eli b 0 :: mid b := by
  cases b with
  | nil => simp at h
  | cons a r =>
    unfold mid
    simp only [List.length_cons] at h
    show List.take (r.length + 1 - 1) (a :: r) = a :: List.take (r.length + 1 - 2) r
    obtain ⟨m, hm⟩ : ∃ m, r.length = m + 1 := ⟨r.length - 1, by omega⟩
    rw [show r.length + 1 - 1 = m + 1 by omega, show r.length + 1 - 2 = m by omega]
    rfl
theorem S.NetFrom_is {b : List Int} (hb : Bytes b) : (isBytes b ∧ S.NetFrom_t b = some (true, mid b)) ∨ (¬ isBytes b ∧ S.NetFrom_t b = some (false, [])) := by
  unfold S.NetFrom_t S.NetFrom_tree
  by_cases h3 : b.length < 3
  · rw [cnd_t (by rw [decide_eq_true_eq]; omega)]
    exact .inr ⟨fun hc => by have := isBytes_len hc; omega, rfl⟩
  have h0 := hb.eli 0
  have hml := mid_len (b := b) (by omega)
  have hbe := bytes_eq (b := b) (by omega)
  rw [cnd_f (by rw [decide_eq_false_iff_not]; omega), cnd_t (by rw [decide_eq_true_eq]; omega), show D.eli b (Int.toNat 0) = D.eli b 0 from rfl, i64_wrap (n := D.eli b 0) (by omega) (by omega), i64_wrap (n := D.eli b 0 + 2) (by omega) (by omega)]
  by_cases hl : (b.length : Int) = D.eli b 0 + 2
  rotate_left
  · rw [cnd_t (by rw [Bool.not_eq_true', beq_eq_false_iff_ne]; exact hl)]
    exact .inr ⟨fun hc => hl (by have := (hbe.1 hc.2).1; omega), rfl⟩
  have hz := hb.eli (b.length - 1)
  rw [cnd_f (by rw [Bool.not_eq_false', beq_iff_eq]; exact hl), i64_wrap (n := (b.length : Int) - 1) (by omega) (by omega), show (b.length : Int) - 1 = ((b.length - 1 : Nat) : Int) by omega, cnd_t (by simp only [Bool.and_eq_true, decide_eq_true_eq]; omega), Int.toNat_natCast, List.drop_zero,
    S.l14Sum_n (fun x hx => hb x (List.mem_of_mem_take hx)) (by rw [List.length_take]; omega), take_mid (by omega), sumF_cons, Int.zero_add]
  simp only [optC]
  have hlast : sumF (D.eli b 0) (mid b) % 251 = lastByte (mid b) := by unfold lastByte; rw [show D.eli b 0 = ((mid b).length : Int) by omega]
  rw [cnd_t (by simp only [Bool.and_eq_true, decide_eq_true_eq]; omega), hlast, i64_wrap (n := D.eli b (b.length - 1)) (by omega) (by omega)]
  by_cases hs : lastByte (mid b) = D.eli b (b.length - 1)
  rotate_left
  · rw [cnd_t (by rw [Bool.not_eq_true', beq_eq_false_iff_ne]; exact hs)]
    exact .inr ⟨fun hc => hs ((hbe.1 hc.2).2).symm, rfl⟩
  rw [cnd_f (by rw [Bool.not_eq_false', beq_iff_eq]; exact hs)]
  have heq : b = bytesN (mid b) := hbe.2 ⟨by omega, hs.symm⟩
  have := run_for (run := S.NetFrom_run5 b) (len := b.length - 2) (fun k (t : List Int) => (((1 + k : Nat) : Int), t)) (fun t k => t ++ [D.eli b (k + 1)]) (fun t => t) (fun k t => t = (mid b).take k) (by omega) (fun f k t hk ht => ?_) (fun f t ht => ?_) (t0 := []) rfl
  · obtain ⟨e1, i1⟩ := this
    rw [show S.NetFrom_run5 b FUEL (1, []) = _ from e1]
    simp only
    rw [i1, ← hml, List.take_length]
    rcases NetOk_cases (mid b) with ⟨h, _, g2⟩ | ⟨hn, _, g2⟩
    · rw [g2]; exact .inl ⟨⟨h, heq⟩, rfl⟩
    · rw [g2]; exact .inr ⟨fun hc => hn hc.1, rfl⟩
  · have hel := hb.eli (k + 1)
    simp only [S.NetFrom_run5, S.NetFrom_step5]
    rw [i64_wrap (n := (b.length : Int) - 1) (by omega) (by omega), cnd_t (by rw [decide_eq_true_eq]; omega), cnd_t (by simp only [Bool.and_eq_true, decide_eq_true_eq]; omega), Int.toNat_natCast, show 1 + k = k + 1 by omega, i64_wrap (n := D.eli b (k + 1)) (by omega) (by omega), cnd_t (small_of (by rw [ht, List.length_append, List.length_take]; simp; omega)), add1_nat (by omega)]
    refine ⟨by rw [show k + 1 + 1 = 1 + (k + 1) by omega], ?_⟩
    rw [ht, take_more (by omega), mid_eli (by omega)]
  · simp only [S.NetFrom_run5, S.NetFrom_step5]
    rw [i64_wrap (n := (b.length : Int) - 1) (by omega) (by omega), cnd_f (by rw [decide_eq_false_iff_not]; omega)]
end Go.Proofs.Ytbahjlgloilabaa
/- The laws of chapter 2: WatchOk, LeastWatchOk, FewestWatch, WatchOf. Conditions: those of each theorem. -/
namespace Go.Proofs.Ytbahjlgloilabaa
open D Go.RowKit
set_option linter.unusedVariables false
set_option linter.unusedSimpArgs false


end Go.Proofs.Ytbahjlgloilabaa
/- The laws of chapter 2: ThinnedWatch, WatchCounts, LeastWatches. Conditions: those of each theorem. -/
namespace Go.Proofs.Ytbahjlgloilabaa
open D Go.RowKit
set_option linter.unusedVariables false
set_option linter.unusedSimpArgs false


/-! ### Counts -/
def cw (net : List Int) (j : Nat) : Nat := cnt (2 ^ net.length) (fun s => W net s && (size s == j))
theorem L.sameInts_is {a : List Int} (ha : a.length ≤ 1000000) : L.sameInts_t a a = some true := by
  unfold L.sameInts_t L.sameInts_tree
  have := (run_for (run := L.sameInts_run4 a a) (len := a.length) (fun k (_ : Unit) => (k : Int)) (fun t k => ()) (fun t => Sum.inr ()) (fun k t => True) (by omega) (fun n k t hk ht => ?_) (fun n t ht => ?_) (t0 := ()) trivial).1
  · rw [cnd_f (by simp), show L.sameInts_run4 a a FUEL 0 = _ from this]
    rfl
  · refine ⟨?_, trivial⟩
    simp only [L.sameInts_run4, L.sameInts_step4]
    rw [cnd_t (by simp; omega), cnd_t (by simp; omega), cnd_t (by simp; omega), cnd_f (by simp), add1_nat (by omega)]
  · simp only [L.sameInts_run4, L.sameInts_step4]
    rw [cnd_f (by simp)]
/-! ### Least watches -/
end Go.Proofs.Ytbahjlgloilabaa
/- A net that is one; the places with a number, by the laws' own function. Conditions: those of each theorem. -/
namespace Go.Proofs.Ytbahjlgloilabaa
open D Go.RowKit
set_option linter.unusedVariables false
set_option linter.unusedSimpArgs false


theorem netOk_of {net : List Int} (h : Ok net) : I.NetOk_t net = some true ∧ S.NetOk_t net = some true := by
  rcases NetOk_cases net with ⟨_, g1, g2⟩ | ⟨hn, _, _⟩
  · exact ⟨g1, g2⟩
  · exact absurd h hn
end Go.Proofs.Ytbahjlgloilabaa
/- Laws of chapter 14. Conditions: those of each theorem. -/
namespace Go.Proofs.Ytbahjlgloilabaa
open D Go.RowKit
set_option linter.unusedVariables false
set_option linter.unusedSimpArgs false


theorem S.DrawNetBytes_is {code : List Int} (hb : Bytes code) : ∃ net, S.DrawNetBytes_t code = some net ∧ net.length ≤ 6 := by
  unfold S.DrawNetBytes_t S.DrawNetBytes_tree
  obtain ⟨rb, e1, h1, h2⟩ := S.l20Open_is hb
  rw [e1]
  simp only [optC]
  obtain ⟨rp', net, e2, _, _, h3⟩ := S.l20Net_is (n := 9) h1 h2 (Int.le_refl 0) (by decide)
  rw [e2]
  exact ⟨_, rfl, h3⟩
theorem L.FnNetBytes_is {code : List Int} (hm : code.length ≤ maxLen) (hw : ∀ n ∈ code, (Lit.int .u8 n).wf = true) : L.FnNetBytes_t code = some true := by
  unfold L.FnNetBytes_t L.FnNetBytes_tree
  by_cases hc : (code.length : Int) > 1048576
  · rw [cnd_t (by simpa using hc)]
  rw [cnd_f (by simpa using hc)]
  obtain ⟨net, e1, h1⟩ := S.DrawNetBytes_is (Bytes.wf hw)
  rw [e1]
  simp only [optC]
  rcases NetOk_cases net with ⟨h, g1, g2⟩ | ⟨_, g1, g2⟩
  · have h6 := h.hi
    rw [I.NetBytes_y h g1, S.NetBytes_y h g2]
    simp only
    rw [strEq_self, g1]
    simp only [Bool.not_true, cond_false]
    rcases I.NetFrom_is (byte_net h) with ⟨_, e2⟩ | ⟨hn, _⟩
    · rw [e2, mid_bytes]
      simp only [cond_true]
      rw [L.sameInts_is (by omega), bytesN_len, i64_wrap (by omega) (by omega)]
      simp
    · exact absurd (isBytes_net h) hn
  · rw [I.NetBytes_x g1, S.NetBytes_x g2]
    simp only
    rw [strEq_self, g1, L.alive_is]
    rfl
theorem u8_byte (n : Int) : 0 ≤ IntKind.u8.wrap n ∧ IntKind.u8.wrap n ≤ 255 := by rw [IntKind.wrap_u8]; omega
theorem Bytes.snoc {b : List Int} (h : Bytes b) {x : Int} (h0 : 0 ≤ x) (h1 : x ≤ 255) : Bytes (b ++ [x]) := fun y hy => by
  rcases List.mem_append.1 hy with hy | hy
  · exact h y hy
  · rw [List.mem_singleton.1 hy]; exact ⟨h0, h1⟩
theorem Bytes.put {b : List Int} (h : Bytes b) {k : Nat} {x : Int} (h0 : 0 ≤ x) (h1 : x ≤ 255) : Bytes (b.set k x) := fun y hy => by
  rcases List.mem_or_eq_of_mem_set hy with hy | rfl
  · exact h y hy
  · exact ⟨h0, h1⟩
theorem S.DrawNetFrom_is {code : List Int} (hb : Bytes code) : ∃ b, S.DrawNetFrom_t code = some b ∧ Bytes b ∧ b.length ≤ 9 := by
  unfold S.DrawNetFrom_t S.DrawNetFrom_tree
  obtain ⟨rb, e1, h1, h2⟩ := S.l20Open_is hb
  rw [e1]
  simp only [optC]
  obtain ⟨rp1, net, e2, a1, a2, h3⟩ := S.l20Net_is (n := 30) h1 h2 (Int.le_refl 0) (by decide)
  rw [e2]
  simp only
  obtain ⟨w, ew, wb, wl⟩ : ∃ w, S.NetBytes_t net = some w ∧ Bytes w ∧ w.length ≤ 8 := by
    rcases NetOk_cases net with ⟨h, _, g2⟩ | ⟨_, _, g2⟩
    · exact ⟨_, S.NetBytes_y h g2, byte_net h, by rw [bytesN_len]; have := h.hi; omega⟩
    · exact ⟨_, S.NetBytes_x g2, fun x hx => by simp at hx, by simp⟩
  rw [ew]
  simp only
  have fin : ∀ (rp : Int) (u : List Int), rp1 ≤ rp → rp ≤ rp1 + 10 → Bytes u → u.length ≤ 8 →
      ∃ b, D.optC (S.l20Rd_pick_t rb rp 15) (fun b => bif b.1 == 0 then D.optC (S.l20Rd_pick_t b.2.1 b.2.2 256) (fun d => bif D.small (u ++ [IntKind.u8.wrap d.1]).length then some (u ++ [IntKind.u8.wrap d.1]) else none) none else some u) none = some b ∧ Bytes b ∧ b.length ≤ 9 := by
    intro rp u q1 q2 hu hul
    obtain ⟨x, e3, x1, x2⟩ := S.l20Rd_pick_is (rp := rp) (n := 15) h1 h2 (by omega) (by omega)
    rw [e3]
    simp only [optC]
    by_cases hx : x = 0
    · obtain ⟨y, e4, y1, y2⟩ := S.l20Rd_pick_is (rp := rp + 1) (n := 256) h1 h2 (by omega) (by omega)
      have y3 := y2 (by decide)
      rw [cnd_t (by simpa using hx), e4]
      simp only
      rw [cnd_t (small_of (by simp; omega))]
      exact ⟨_, rfl, hu.snoc (u8_byte _).1 (u8_byte _).2, by simp; omega⟩
    · rw [cnd_f (by simpa using hx)]
      exact ⟨_, rfl, hu, by omega⟩
  by_cases hw : w.length = 0
  · rw [cnd_f (by rw [decide_eq_false_iff_not]; omega)]
    simpa only [optC] using fin rp1 w (by omega) (by omega) wb wl
  · rw [cnd_t (by rw [decide_eq_true_eq]; omega)]
    obtain ⟨x, e3, x1, x2⟩ := S.l20Rd_pick_is (rp := rp1) (n := 3) h1 h2 (by omega) (by omega)
    rw [e3]
    simp only
    by_cases hx : x = 0
    · obtain ⟨y, e4, y1, y2⟩ := S.l20Rd_pick_is (rp := rp1 + 1) (n := (w.length : Int)) h1 h2 (by omega) (by omega)
      have y3 := y2 (by omega)
      rw [cnd_t (by simpa using hx), e4]
      simp only
      obtain ⟨z, e5, z1, z2⟩ := S.l20Rd_pick_is (rp := rp1 + 1 + 1) (n := 256) h1 h2 (by omega) (by omega)
      rw [cnd_t (by simp only [Bool.and_eq_true, decide_eq_true_eq]; omega), cnd_t (by rw [decide_eq_true_eq]; omega), e5]
      simp only
      rw [cnd_t (by simp only [Bool.and_eq_true, decide_eq_true_eq]; omega), cnd_t (by rw [decide_eq_true_eq]; omega)]
      simpa only [optC] using fin (rp1 + 1 + 1 + 1) (w.set y.toNat (IntKind.u8.wrap (IntKind.i64.wrap (IntKind.i64.wrap (D.eli w y.toNat) + z)))) (by omega) (by omega) (wb.put (u8_byte _).1 (u8_byte _).2) (by rw [List.length_set]; omega)
    · rw [cnd_f (by simpa using hx)]
      simpa only [optC] using fin (rp1 + 1) w (by omega) (by omega) wb wl
theorem L.FnNetFrom_is {code : List Int} (hm : code.length ≤ maxLen) (hw : ∀ n ∈ code, (Lit.int .u8 n).wf = true) : L.FnNetFrom_t code = some true := by
  unfold L.FnNetFrom_t L.FnNetFrom_tree
  by_cases hc : (code.length : Int) > 1048576
  · rw [cnd_t (by simpa using hc)]
  rw [cnd_f (by simpa using hc)]
  obtain ⟨b, e1, hb, hl⟩ := S.DrawNetFrom_is (Bytes.wf hw)
  rw [e1]
  simp only [optC]
  rcases S.NetFrom_is hb with ⟨h, e2⟩ | ⟨h, e2⟩ <;> rcases I.NetFrom_is hb with ⟨h3, e3⟩ | ⟨h3, e3⟩
  · have hlen := isBytes_len h
    have h6 := h.1.hi
    have hml := mid_len (b := b) (by omega)
    obtain ⟨g1, _⟩ := netOk_of h.1
    rw [e2, e3]
    simp only
    rw [beq_self_eq_true, Bool.not_true, cond_false, L.sameInts_is (by omega)]
    simp only [Bool.not_true, cond_false]
    rw [i64_wrap (n := (b.length : Int) - 1) (by omega) (by omega), show (b.length : Int) - 1 = ((b.length - 1 : Nat) : Int) by omega, cnd_t (by simp only [Bool.and_eq_true, decide_eq_true_eq]; omega), Int.toNat_natCast, List.drop_zero, List.nil_append, cnd_t (small_of (by rw [List.length_take]; omega))]
    rcases I.NetFrom_is (b := b.take (b.length - 1)) (fun x hx => hb x (List.mem_of_mem_take hx)) with ⟨h4, _⟩ | ⟨_, e4⟩
    · exact absurd h4 (isBytes_less h)
    · rw [e4]
      simp only
      rw [I.NetBytes_y h.1 g1, ← h.2]
      simp only
      rw [strEq_self]
      rfl
  · exact absurd h h3
  · exact absurd h3 h
  · rw [e2, e3]
    simp only
    rw [beq_self_eq_true, Bool.not_true, cond_false, L.sameInts_is (by simp)]
    simp only [Bool.not_true, Bool.not_false, cond_false, cond_true]
    rw [L.alive_is]
end Go.Proofs.Ytbahjlgloilabaa
