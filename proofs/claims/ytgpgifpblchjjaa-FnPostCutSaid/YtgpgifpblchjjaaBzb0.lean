/- Several texts in one: Nt1, Nt2, Nt3, Str, N1, N2, N4, Chap1, Ch3, Ch5, Ch6, Ch7, Ch9, Hall, Ch10, Tree, Shift, N3, Ex, Ex2, S3, Dr, Dr2, Dr3, S6, S7, S8, Pm, Br3, I3, I6, J7, S8b, J8, S9, S9b, J9, Ch12, J17. Conditions: those of each theorem. -/
import Derived.Test.YtgpgifpblchjjaaBza3
import Derived.Test.YtgpgifpblchjjaaBzTz
/- What the laws' own small functions come to. Conditions: those of each theorem. -/
namespace Go.Proofs.Ytgpgifpblchjjaa
open D Go.RowKit
set_option linter.unusedVariables false
set_option linter.unusedSimpArgs false


end Go.Proofs.Ytgpgifpblchjjaa
/- What is a net: the program's test and the model's come to the same. Conditions: those of each theorem. -/
namespace Go.Proofs.Ytgpgifpblchjjaa
open D Go.RowKit
set_option linter.unusedVariables false
set_option linter.unusedSimpArgs false


theorem i64_bits : IntKind.i64.bits = 64 := by kernel_rfl
def hasI (s : Int) (p : Nat) : Bool := (s.fdiv (2 ^ min p 64)) % 2 == 1
theorem I.hasPlace_is {s p : Int} (hp : 0 ≤ p) : I.hasPlace_t s p = some (hasI s p.toNat) := by
  unfold I.hasPlace_t I.hasPlace_tree
  rw [cnd_f (by simp; omega), i64_and1, i64_bits]
  rfl
theorem I.setIn_is {net : List Int} {s : Int} (hl : net.length ≤ 6) : I.setIn_t net s = some (decide (0 ≤ s ∧ s < 2 ^ net.length)) := by
  unfold I.setIn_t I.setIn_tree
  have e : IntKind.i64.wrap (1 * 2 ^ min (↑net.length : Int).toNat IntKind.i64.bits) = 2 ^ net.length := by
    rw [i64_bits, Int.toNat_natCast, Int.one_mul]
    generalize net.length = k at hl
    match k, hl with
    | 0, _ | 1, _ | 2, _ | 3, _ | 4, _ | 5, _ | 6, _ => exact i64_wrap (by decide) (by decide)
  by_cases h : 0 ≤ s
  · rw [cnd_t (by simpa using h), e]; simp [h]
  · rw [cnd_f (by simpa using h)]; simp [h]
theorem I.knownBack_is {net : List Int} {p : Int} (hl : net.length ≤ 6) (h0 : 0 ≤ p) (h1 : p < net.length) :
    I.knownBack_t net p = some ((List.range net.length).all fun q => !hasI (eli net p.toNat) q || hasI (eli net q) p.toNat) := by
  unfold I.knownBack_t I.knownBack_tree
  rw [run_all (run := I.knownBack_run2 net p) (len := net.length) (fun q => !hasI (eli net p.toNat) q || hasI (eli net q) p.toNat) (by omega) (fun n x hx0 hx1 => by
    simp only [I.knownBack_run2, I.knownBack_step2]
    by_cases hx : x < (net.length : Int)
    · rw [if_pos hx, cnd_t (by simpa using hx), cnd_t (by simp; omega), I.hasPlace_is hx0]
      simp only [optC]
      cases ha : hasI (eli net p.toNat) x.toNat with
      | false => simp only [cond_false, Bool.not_false, Bool.true_or, cond_true]; rw [i64_wrap (by omega) (by omega)]
      | true =>
        rw [cond_true, cnd_t (by simp; omega), I.hasPlace_is h0]
        simp only [optC]
        cases hb : hasI (eli net x.toNat) p.toNat with
        | false => rfl
        | true => simp only [Bool.not_true, cond_false, Bool.or_true, cond_true]; rw [i64_wrap (by omega) (by omega)]
    · rw [if_neg hx, cnd_f (by simpa using hx)])]
  cases (List.range net.length).all _ <;> rfl
theorem I.NetOk_is {net : List Int} : I.NetOk_t net = some (decide (1 ≤ net.length) && decide (net.length ≤ 6) && (List.range net.length).all fun p =>
    decide (0 ≤ eli net p ∧ eli net p < 2 ^ net.length) && !hasI (eli net p) p && (List.range net.length).all fun q => !hasI (eli net p) q || hasI (eli net q) p) := by
  unfold I.NetOk_t I.NetOk_tree
  rcases Nat.lt_or_ge net.length 1 with hlo | hlo
  · rw [cnd_t (by simp; omega), decide_eq_false (by omega : ¬ 1 ≤ net.length)]; rfl
  rw [cnd_f (by simp; omega)]
  rcases Nat.lt_or_ge 6 net.length with hl | hl
  · rw [cnd_t (by simp; omega), decide_eq_false (by omega : ¬ net.length ≤ 6), Bool.and_false]; rfl
  rw [cnd_f (by simp; omega)]
  rw [run_all (run := I.NetOk_run4 net) (len := net.length) (fun p => decide (0 ≤ eli net p ∧ eli net p < 2 ^ net.length) && !hasI (eli net p) p && (List.range net.length).all fun q => !hasI (eli net p) q || hasI (eli net q) p) (by omega) (fun n x hx0 hx1 => by
    simp only [I.NetOk_run4, I.NetOk_step4]
    by_cases hx : x < (net.length : Int)
    · rw [if_pos hx, cnd_t (by simpa using hx), cnd_t (by simp; omega), I.setIn_is hl]
      simp only [optC]
      cases ha : decide (0 ≤ eli net x.toNat ∧ eli net x.toNat < 2 ^ net.length) with
      | false => rfl
      | true =>
        rw [Bool.not_true, cond_false, cnd_t (by simp; omega), I.hasPlace_is hx0]
        simp only [optC]
        cases hb : hasI (eli net x.toNat) x.toNat with
        | true => rfl
        | false =>
          rw [cond_false, I.knownBack_is hl hx0 hx]
          simp only [optC]
          cases hc : (List.range net.length).all fun q => !hasI (eli net x.toNat) q || hasI (eli net q) x.toNat with
          | false => rfl
          | true => simp only [Bool.not_true, Bool.not_false, cond_false, Bool.and_true, cond_true]; rw [i64_wrap (by omega) (by omega)]
    · rw [if_neg hx, cnd_f (by simpa using hx)])]
  simp only [hlo, hl, decide_true, Bool.true_and]
  cases (List.range net.length).all _ <;> rfl
def bitS (s : Int) (p : Nat) : Int := (s.fdiv (2 ^ min p 64)).tmod 2
theorem S.l1In_is {x a b : Int} : S.l1In_t x a b = some (decide (a ≤ x ∧ x ≤ b)) := by
  unfold S.l1In_t S.l1In_tree
  by_cases h : a ≤ x
  · rw [cnd_t (by simpa using h)]; simp [h]
  · rw [cnd_f (by simpa using h)]; simp [h]
theorem S.NetOk_is {net : List Int} : S.NetOk_t net = some (decide (1 ≤ net.length) && decide (net.length ≤ 6) &&
    ((List.range net.length).all fun p => decide (0 ≤ eli net p ∧ eli net p < 2 ^ net.length)) && (List.range net.length).all fun p =>
    (List.range net.length).all fun q => bitS (eli net p) q == bitS (eli net q) p && !(q == p && bitS (eli net p) q == 1)) := by
  unfold S.NetOk_t S.NetOk_tree
  rw [S.l1In_is]
  simp only [optC]
  rcases Nat.lt_or_ge net.length 1 with hlo | hlo
  · rw [decide_eq_false (by omega : ¬ 1 ≤ net.length), decide_eq_false (by omega : ¬ ((1 : Int) ≤ (net.length : Int) ∧ (net.length : Int) ≤ 6))]; rfl
  rcases Nat.lt_or_ge 6 net.length with hl | hl
  · rw [decide_eq_false (by omega : ¬ net.length ≤ 6), decide_eq_false (by omega : ¬ ((1 : Int) ≤ (net.length : Int) ∧ (net.length : Int) ≤ 6)), Bool.and_false]; rfl
  rw [decide_eq_true (by omega : ((1 : Int) ≤ (net.length : Int) ∧ (net.length : Int) ≤ 6)), Bool.not_true, cond_false]
  have e : IntKind.i64.wrap (IntKind.i64.wrap (1 * 2 ^ min (↑net.length : Int).toNat IntKind.i64.bits) - 1) = 2 ^ net.length - 1 := by
    rw [i64_bits, Int.toNat_natCast, Int.one_mul]
    generalize net.length = k at hl
    match k, hl with
    | 0, _ | 1, _ | 2, _ | 3, _ | 4, _ | 5, _ | 6, _ => rw [i64_wrap (n := 2 ^ min _ 64) (by decide) (by decide)]; exact i64_wrap (by decide) (by decide)
  rw [run_all (run := S.NetOk_run4 net) (len := net.length) (fun p => decide (0 ≤ eli net p ∧ eli net p < 2 ^ net.length)) (by omega) (fun n x hx0 hx1 => by
    simp only [S.NetOk_run4, S.NetOk_step4]
    by_cases hx : x < (net.length : Int)
    · rw [if_pos hx, cnd_t (by simpa using hx), cnd_t (by simp; omega), S.l1In_is, e]
      simp only [optC]
      have : decide (0 ≤ eli net x.toNat ∧ eli net x.toNat ≤ 2 ^ net.length - 1) = decide (0 ≤ eli net x.toNat ∧ eli net x.toNat < 2 ^ net.length) := decide_eq_decide.2 (by omega)
      rw [this]
      cases decide (0 ≤ eli net x.toNat ∧ eli net x.toNat < 2 ^ net.length) with
      | false => rfl
      | true => simp only [Bool.not_true, cond_false, cond_true]; rw [i64_wrap (by omega) (by omega)]
    · rw [if_neg hx, cnd_f (by simpa using hx)])]
  have inner : ∀ p : Int, 0 ≤ p → p < net.length → S.NetOk_run12 net p FUEL 0 = some (bif (List.range net.length).all (fun q => bitS (eli net p.toNat) q == bitS (eli net q) p.toNat && !(q == p.toNat && bitS (eli net p.toNat) q == 1)) then .inr () else .inl false) := by
    intro p hp0 hp1
    refine run_all (run := S.NetOk_run12 net p) (len := net.length) _ (by omega) (fun n x hx0 hx1 => ?_)
    simp only [S.NetOk_run12, S.NetOk_step12]
    by_cases hx : x < (net.length : Int)
    · rw [if_pos hx, cnd_t (by simpa using hx), cnd_t (by simp; omega), cnd_f (by simp; omega), cnd_t (by simp; omega), cnd_f (by simp; omega), i64_bits]
      show (bif !(bitS (eli net p.toNat) x.toNat == bitS (eli net x.toNat) p.toNat) then _ else _) = _
      cases ha : (bitS (eli net p.toNat) x.toNat == bitS (eli net x.toNat) p.toNat) with
      | false => rfl
      | true =>
        rw [Bool.not_true, cond_false, Bool.true_and]
        by_cases hxp : x = p
        · subst hxp
          rw [cnd_t (by simp), cnd_t (by simp; omega), cnd_f (by simp; omega), BEq.rfl, Bool.true_and]
          show (bif (bitS (eli net x.toNat) x.toNat == 1) then _ else _) = _
          cases (bitS (eli net x.toNat) x.toNat == 1) with
          | true => rfl
          | false => simp only [cond_false, Bool.not_false, cond_true]; rw [i64_wrap (by omega) (by omega)]
        · rw [cnd_f (by simpa using hxp)]
          have : (x.toNat == p.toNat) = false := by simp; omega
          rw [this, Bool.false_and, Bool.not_false, cond_true, i64_wrap (by omega) (by omega)]
    · rw [if_neg hx, cnd_f (by simpa using hx)]
  rw [run_all (run := S.NetOk_run9 net) (len := net.length) (fun p => (List.range net.length).all fun q => bitS (eli net p) q == bitS (eli net q) p && !(q == p && bitS (eli net p) q == 1)) (by omega) (fun n x hx0 hx1 => by
    simp only [S.NetOk_run9, S.NetOk_step9]
    by_cases hx : x < (net.length : Int)
    · rw [if_pos hx, cnd_t (by simpa using hx), inner x hx0 hx]
      simp only [optC]
      cases (List.range net.length).all fun q => bitS (eli net x.toNat) q == bitS (eli net q) x.toNat && !(q == x.toNat && bitS (eli net x.toNat) q == 1) with
      | false => rfl
      | true => simp only [cond_true, sumC]; rw [i64_wrap (by omega) (by omega)]
    · rw [if_neg hx, cnd_f (by simpa using hx)])]
  simp only [hlo, hl, decide_true, Bool.true_and]
  cases (List.range net.length).all fun p => decide (0 ≤ eli net p ∧ eli net p < 2 ^ net.length) with
  | false => rfl
  | true =>
    simp only [cond_true, sumC, Bool.true_and]
    cases (List.range net.length).all _ <;> rfl
theorem bitS_is {s : Int} (h : 0 ≤ s) (p : Nat) : bitS s p = if hasI s p = true then 1 else 0 := by
  unfold bitS hasI
  have h2 : (0 : Int) < 2 ^ min p 64 := Int.pow_pos (by decide)
  have h3 : 0 ≤ s.fdiv (2 ^ min p 64) := Int.fdiv_nonneg h (by omega)
  rw [Int.tmod_eq_emod_of_nonneg h3]
  by_cases h4 : s.fdiv (2 ^ min p 64) % 2 = 1
  · simp [h4]
  · have : s.fdiv (2 ^ min p 64) % 2 = 0 := by omega
    simp [this]
theorem NetOk_eq {net : List Int} : I.NetOk_t net = S.NetOk_t net := by
  rw [I.NetOk_is, S.NetOk_is]
  congr 1
  rw [Bool.eq_iff_iff]
  simp only [Bool.and_eq_true, List.all_eq_true, List.mem_range, decide_eq_true_eq, Bool.or_eq_true, Bool.not_eq_true', beq_iff_eq, Bool.and_eq_false_iff, beq_eq_false_iff_ne]
  constructor
  · rintro ⟨⟨h1, h2⟩, h3⟩
    refine ⟨⟨⟨h1, h2⟩, fun p hp => (h3 p hp).1.1⟩, fun p hp q hq => ⟨?_, ?_⟩⟩
    · rw [bitS_is (h3 p hp).1.1.1, bitS_is (h3 q hq).1.1.1]
      have a1 := (h3 p hp).2 q hq
      have a2 := (h3 q hq).2 p hp
      cases ha : hasI (eli net p) q <;> cases hb : hasI (eli net q) p <;> simp_all
    · by_cases hqp : q = p
      · subst hqp
        right
        rw [bitS_is (h3 q hq).1.1.1, (h3 q hq).1.2]
        decide
      · exact .inl hqp
  · rintro ⟨⟨⟨h1, h2⟩, h3⟩, h4⟩
    refine ⟨⟨h1, h2⟩, fun p hp => ⟨⟨h3 p hp, ?_⟩, fun q hq => ?_⟩⟩
    · have := (h4 p hp p hp).2
      rw [bitS_is (h3 p hp).1] at this
      cases ha : hasI (eli net p) p with
      | false => rfl
      | true => rw [ha] at this; simp at this
    · have := (h4 p hp q hq).1
      rw [bitS_is (h3 p hp).1, bitS_is (h3 q hq).1] at this
      cases ha : hasI (eli net p) q <;> cases hb : hasI (eli net q) p <;> simp_all
end Go.Proofs.Ytgpgifpblchjjaa
/- What drawn nets are. Conditions: those of each theorem. -/
namespace Go.Proofs.Ytgpgifpblchjjaa
open D Go.RowKit
set_option linter.unusedVariables false
set_option linter.unusedSimpArgs false


/-- A code of bytes. -/
def Bytes (rb : List Int) : Prop := ∀ n ∈ rb, 0 ≤ n ∧ n ≤ 255
theorem Bytes.eli {rb : List Int} (h : Bytes rb) (k : Nat) : 0 ≤ D.eli rb k ∧ D.eli rb k ≤ 255 := by
  by_cases hk : k < rb.length
  · have : D.eli rb k = rb[k] := by simp [D.eli, List.getD, hk]
    rw [this]; exact h _ (List.getElem_mem hk)
  · have : D.eli rb k = 0 := by simp [D.eli, List.getD, List.getElem?_eq_none (by omega : rb.length ≤ k)]
    rw [this]; decide
theorem Bytes.wf {rb : List Int} (h : ∀ n ∈ rb, (Lit.int .u8 n).wf = true) : Bytes rb := fun n hn => by
  have := h n hn
  have e1 : IntKind.u8.min = 0 := by kernel_rfl
  have e2 : IntKind.u8.max = 255 := by kernel_rfl
  simpa [Lit.wf, e1, e2] using this

theorem xor_pos {a b : Int} (ha : 0 ≤ a ∧ a < 9223372036854775808) (hb : 0 ≤ b ∧ b < 9223372036854775808) : 0 ≤ bits .xor .i64 a b := by
  obtain ⟨x, rfl⟩ := Int.eq_ofNat_of_zero_le ha.1
  obtain ⟨y, rfl⟩ := Int.eq_ofNat_of_zero_le hb.1
  rw [i64_xor_nat x y (by omega) (by omega)]
  omega

theorem S.l20Rd_pick_is {rb : List Int} {rp n : Int} (hb : Bytes rb) (hl : rb.length ≤ 2000) (h0 : 0 ≤ rp) (h1 : rp ≤ 1099511627776) :
    ∃ v, S.l20Rd_pick_t rb rp n = some (v, rb, rp + 1) ∧ 0 ≤ v ∧ (1 ≤ n → v < n) := by
  unfold S.l20Rd_pick_t S.l20Rd_pick_tree
  have e1 : IntKind.i64.wrap (rp + 1) = rp + 1 := i64_wrap (by omega) (by omega)
  have e2 : IntKind.i64.wrap (rp + 1 - 1) = rp := by rw [i64_wrap (by omega) (by omega)]; omega
  rw [e1, e2]
  by_cases hn : n < 1
  · rw [cnd_t (by simpa using hn)]; exact ⟨_, rfl, Int.le_refl _, fun h => by omega⟩
  rw [cnd_f (by simpa using hn)]
  by_cases hz : rb.length = 0
  · rw [cnd_t (by simp [hz])]; exact ⟨_, rfl, Int.le_refl _, fun h => by omega⟩
  have hnz : (n == 0) = false := by simp; omega
  have hlz : ((rb.length : Int) == 0) = false := by simp; exact fun h => hz (by simp [h])
  rw [cnd_f hlz]
  have fin : ∀ x : Int, 0 ≤ x → 0 ≤ x.tmod n ∧ (1 ≤ n → x.tmod n < n) := fun x hx => ⟨Int.tmod_nonneg _ hx, fun h => Int.tmod_lt_of_pos _ (by omega)⟩
  by_cases hx : rp < rb.length
  · rw [cnd_t (by simpa using hx), cnd_t (by simp; omega), cnd_f hnz]
    have hv := hb.eli rp.toNat
    rw [i64_wrap (n := D.eli rb rp.toNat) (by omega) (by omega)]
    exact ⟨_, rfl, fin _ hv.1⟩
  · rw [cnd_f (by simpa using hx), cnd_f hlz]
    have hL : 0 < (rb.length : Int) := by omega
    have m1 : 0 ≤ rp.tmod rb.length := Int.tmod_nonneg _ h0
    have m2 : rp.tmod rb.length < rb.length := Int.tmod_lt_of_pos _ hL
    rw [cnd_t (by simp; omega), cnd_f hlz]
    have e3 : IntKind.i64.wrap (IntKind.i64.wrap (rp * 7) + 3) = rp * 7 + 3 := by rw [i64_wrap (n := rp * 7) (by omega) (by omega)]; exact i64_wrap (by omega) (by omega)
    rw [e3]
    have m3 : 0 ≤ (rp * 7 + 3).tmod rb.length := Int.tmod_nonneg _ (by omega)
    have m4 : (rp * 7 + 3).tmod rb.length < rb.length := Int.tmod_lt_of_pos _ hL
    rw [cnd_t (by simp; omega), cnd_f hlz, cnd_f hnz]
    have d1 : 0 ≤ rp.tdiv rb.length := Int.tdiv_nonneg h0 (by omega)
    have d2 : rp.tdiv rb.length ≤ rp := Int.tdiv_le_self _ h0
    have v1 := hb.eli (rp.tmod rb.length).toNat
    have v2 := hb.eli ((rp * 7 + 3).tmod rb.length).toNat
    generalize rp.tdiv rb.length = d at d1 d2
    generalize D.eli rb (rp.tmod rb.length).toNat = b1 at v1
    generalize D.eli rb ((rp * 7 + 3).tmod rb.length).toNat = b2 at v2
    have key : ∀ x : Int, 0 ≤ x → x < 9223372036854775808 → 0 ≤ bits .xor .i64 x (IntKind.i64.wrap (x.tdiv 64)) := fun x hx0 hx1 => by
      have a1 : 0 ≤ x.tdiv 64 := Int.tdiv_nonneg hx0 (by decide)
      have a2 : x.tdiv 64 ≤ x := Int.tdiv_le_self _ hx0
      rw [i64_wrap (by omega) (by omega)]
      exact xor_pos ⟨hx0, hx1⟩ ⟨a1, by omega⟩
    refine ⟨_, rfl, fin _ (key _ ?_ ?_)⟩ <;> simp (disch := omega) only [i64_wrap] <;> omega
theorem cnd_case {α : Type} {P : α → Prop} {b : Bool} {x y : α} (h1 : b = true → P x) (h2 : b = false → P y) : P (bif b then x else y) := by
  cases b with
  | true => exact h1 rfl
  | false => exact h2 rfl
theorem S.l20Net_p8 {α : Type} (P : α → Prop) {x1 x5 x7 x8 x9 rp : Int} {rb r : List Int} {next : Int × (List Int) × Int × (List Int) → α} {out : (List Int) × Int × (List Int) → α} {fail : α}
    (hb : Bytes rb) (hl : rb.length ≤ 2000) (h0 : 0 ≤ rp) (h1 : rp ≤ 1099511627000) (h9 : 0 ≤ x9) (h8 : x8 < r.length) (hr : r.length ≤ 1048576)
    (hleaf : x9 < x8 → ∀ rp' r', rp < rp' → rp' ≤ rp + 2 → r'.length = r.length → P (next (x9 + 1, rb, rp', r')))
    (hout : ¬ x9 < x8 → P (out (rb, rp, r))) : P (S.l20Net_step8 x1 x5 x7 x8 x9 rb rp r next out fail) := by
  unfold S.l20Net_step8
  refine cnd_case (P := P) (fun h => ?_) (fun h => hout (by simpa using h))
  have hlt : x9 < x8 := by simpa using h
  obtain ⟨v, hv, _, _⟩ := S.l20Rd_pick_is (n := 3) hb hl h0 (by omega)
  obtain ⟨v', hv', _, _⟩ := S.l20Rd_pick_is (n := 3) (rp := rp + 1) hb hl (by omega) (by omega)
  rw [hv]
  simp only [optC]
  rw [hv']
  simp only [optC]
  rw [i64_wrap (n := x9 + 1) (by omega) (by omega)]
  repeat' first
    | exact hleaf hlt _ _ (by omega) (by omega) (by simp)
    | rw [cnd_t (by simp; omega)]
    | rw [cnd_f (by simp; omega)]
    | refine cnd_case (P := P) (fun _ => ?_) (fun _ => ?_)
theorem S.l20Net_q8 {x1 x5 x7 x8 rp : Int} {rb r : List Int} (hb : Bytes rb) (hl : rb.length ≤ 2000) (h0 : 0 ≤ rp) (h1 : rp ≤ 1099511620000) (hx : 0 ≤ x8) (h8 : x8 < r.length) (h6 : x8 ≤ 100) (hr : r.length ≤ 1048576) :
    ∃ d, S.l20Net_run8 x1 x5 x7 x8 FUEL (0, rb, rp, r) = some d ∧ d.1 = rb ∧ rp ≤ d.2.1 ∧ d.2.1 ≤ rp + 2 * x8 ∧ d.2.2.length = r.length := by
  refine run_post (run := S.l20Net_run8 x1 x5 x7 x8) (fun s => s.2.1 = rb ∧ 0 ≤ s.1 ∧ s.1 ≤ x8 ∧ rp ≤ s.2.2.1 ∧ s.2.2.1 ≤ rp + 2 * s.1 ∧ s.2.2.2.length = r.length) (fun s => (x8 - s.1).toNat) (fun d => d.1 = rb ∧ rp ≤ d.2.1 ∧ d.2.1 ≤ rp + 2 * x8 ∧ d.2.2.length = r.length) ?_ ?_ ?_
  · rintro n ⟨x9, rb', rp', r'⟩ ⟨i0, i1, i2, i3, i4, i5⟩
    simp only at i0 i1 i2 i3 i4 i5
    subst i0
    refine S.l20Net_p8 (x1 := x1) (x5 := x5) (x7 := x7) (x8 := x8) (x9 := x9) (rp := rp') (rb := rb') (r := r') (next := S.l20Net_run8 x1 x5 x7 x8 n) (out := fun d => some d) (fail := none) (fun t => (∃ d, t = some d ∧ (d.1 = rb' ∧ rp ≤ d.2.1 ∧ d.2.1 ≤ rp + 2 * x8 ∧ d.2.2.length = r.length)) ∨ ∃ s', t = S.l20Net_run8 x1 x5 x7 x8 n s' ∧ (s'.2.1 = rb' ∧ 0 ≤ s'.1 ∧ s'.1 ≤ x8 ∧ rp ≤ s'.2.2.1 ∧ s'.2.2.1 ≤ rp + 2 * s'.1 ∧ s'.2.2.2.length = r.length) ∧ (x8 - s'.1).toNat < (x8 - x9).toNat) hb hl (by omega) (by omega) i1 (by omega) (by omega) (fun hlt rp2 r2 a1 a2 a3 => .inr ⟨_, rfl, ⟨rfl, ?_, ?_, ?_, ?_, ?_⟩, ?_⟩) (fun hge => .inl ⟨_, rfl, rfl, ?_, ?_, ?_⟩) <;> simp only <;> omega
  · exact ⟨rfl, by simp only; omega, by simp only; omega, by simp only; omega, by simp only; omega, rfl⟩
  · simp only; omega
theorem S.l20Net_q5 {x1 x5 x7 rp : Int} {rb r : List Int} (hb : Bytes rb) (hl : rb.length ≤ 2000) (h0 : 0 ≤ rp) (h1 : rp ≤ 1099511600000) (hx : 0 ≤ x5) (h5 : x5 = r.length) (h6 : x5 ≤ 6) :
    ∃ d, S.l20Net_run5 x1 x5 x7 FUEL (0, rb, rp, r) = some d ∧ d.1 = rb ∧ rp ≤ d.2.1 ∧ d.2.1 ≤ rp + 100 ∧ d.2.2.length = r.length := by
  refine run_post (run := S.l20Net_run5 x1 x5 x7) (fun s => s.2.1 = rb ∧ 0 ≤ s.1 ∧ s.1 ≤ x5 ∧ rp ≤ s.2.2.1 ∧ s.2.2.1 ≤ rp + 12 * s.1 ∧ s.2.2.2.length = r.length) (fun s => (x5 - s.1).toNat) (fun d => d.1 = rb ∧ rp ≤ d.2.1 ∧ d.2.1 ≤ rp + 100 ∧ d.2.2.length = r.length) ?_ ?_ ?_
  · rintro n ⟨x8, rb', rp', r'⟩ ⟨i0, i1, i2, i3, i4, i5⟩
    simp only at i0 i1 i2 i3 i4 i5
    subst i0
    simp only [S.l20Net_run5, S.l20Net_step5]
    by_cases hlt : x8 < x5
    · rw [cnd_t (by simpa using hlt)]
      obtain ⟨⟨d1, d2, d3⟩, e1, e2, e3, e4, e5⟩ := S.l20Net_q8 (x1 := x1) (x5 := x5) (x7 := x7) (x8 := x8) (r := r') hb hl (by omega : 0 ≤ rp') (by omega) i1 (by omega) (by omega) (by omega)
      simp only at e2 e3 e4 e5
      rw [e1]
      simp only [optC]
      rw [i64_wrap (n := x8 + 1) (by omega) (by omega)]
      refine .inr ⟨_, rfl, ⟨e2, ?_, ?_, ?_, ?_, ?_⟩, ?_⟩ <;> simp only <;> omega
    · rw [cnd_f (by simpa using hlt)]
      refine .inl ⟨_, rfl, rfl, ?_, ?_, ?_⟩ <;> simp only <;> omega
  · exact ⟨rfl, by simp only; omega, by simp only; omega, by simp only; omega, by simp only; omega, rfl⟩
  · simp only; omega
theorem S.l20Rd_odd_is {rb : List Int} {rp n : Int} (hb : Bytes rb) (hl : rb.length ≤ 2000) (h0 : 0 ≤ rp) (h1 : rp ≤ 1099511627776) :
    ∃ b rp', S.l20Rd_odd_t rb rp n = some (b, rb, rp') ∧ rp ≤ rp' ∧ rp' ≤ rp + 1 := by
  unfold S.l20Rd_odd_t S.l20Rd_odd_tree
  by_cases hn : n > 0
  · rw [cnd_t (by simpa using hn)]
    obtain ⟨v, hv, _, _⟩ := S.l20Rd_pick_is (n := n) hb hl h0 h1
    rw [hv]
    exact ⟨_, rp + 1, rfl, by omega, by omega⟩
  · rw [cnd_f (by simpa using hn)]
    exact ⟨_, rp, rfl, by omega, by omega⟩
theorem S.l20Net_is {rb : List Int} {rp n : Int} (hb : Bytes rb) (hl : rb.length ≤ 2000) (h0 : 0 ≤ rp) (h1 : rp ≤ 1000000) :
    ∃ rp' net, S.l20Net_t rb rp n = some (rb, rp', net) ∧ rp ≤ rp' ∧ rp' ≤ rp + 200 ∧ net.length ≤ 6 := by
  unfold S.l20Net_t
  have gen : ∀ {α : Type} (P : α → Prop) (leaf : (List Int) × Int × (List Int) → α) (fail : α), (∀ rp' net, rp ≤ rp' → rp' ≤ rp + 200 → net.length ≤ 6 → P (leaf (rb, rp', net))) → P (S.l20Net_tree rb rp n leaf fail) := by
    intro α P leaf fail hleaf
    unfold S.l20Net_tree
    obtain ⟨v1, e1, a1, a2⟩ := S.l20Rd_pick_is (n := 6) hb hl h0 (by omega)
    have a2' := a2 (by decide)
    rw [e1]
    simp only [optC]
    rw [i64_wrap (n := 1 + v1) (by omega) (by omega)]
    rw [cnd_t (by simp [small]; omega)]
    obtain ⟨v2, e2, _, _⟩ := S.l20Rd_pick_is (n := 4) (rp := rp + 1) hb hl (by omega) (by omega)
    rw [e2]
    simp only
    obtain ⟨⟨d1, d2, d3⟩, e3, f1, f2, f3, f4⟩ := S.l20Net_q5 (x1 := n) (x5 := 1 + v1) (x7 := v2) (rp := rp + 1 + 1) (r := List.replicate (1 + v1).toNat 0) hb hl (by omega) (by omega) (by omega) (by simp; omega) (by omega)
    simp only at f1 f2 f3 f4
    subst f1
    rw [e3]
    simp only [List.length_replicate] at f4 ⊢
    obtain ⟨b, rp4, e4, g1, g2⟩ := S.l20Rd_odd_is (n := n) (rp := d2) hb hl (by omega) (by omega)
    rw [e4]
    simp only
    obtain ⟨v5, e5, _, _⟩ := S.l20Rd_pick_is (n := 3) (rp := rp4) hb hl (by omega) (by omega)
    rw [e5]
    simp only
    have e6 : IntKind.i64.wrap (1 + v1 - 1) = v1 := by rw [i64_wrap (by omega) (by omega)]; omega
    rw [e6]
    repeat' first
      | exact hleaf _ _ (by omega) (by omega) (by (try simp only [List.length_set, List.length_nil]); omega)
      | rw [cnd_t (by simp; omega)]
      | rw [cnd_f (by simp; omega)]
      | refine cnd_case (P := P) (fun _ => ?_) (fun _ => ?_)
  exact gen (fun t => ∃ rp' net, t = some (rb, rp', net) ∧ rp ≤ rp' ∧ rp' ≤ rp + 200 ∧ net.length ≤ 6) (fun d => some d) none (fun rp' net a b c => ⟨rp', net, rfl, a, b, c⟩)
theorem S.l20Open_is {code : List Int} (hb : Bytes code) : ∃ rb, S.l20Open_t code = some (rb, 0) ∧ Bytes rb ∧ rb.length ≤ 2000 := by
  unfold S.l20Open_t S.l20Open_tree
  by_cases h : (code.length : Int) > 2000
  · rw [cnd_t (by simpa using h), cnd_t (by simp; omega)]
    refine ⟨_, rfl, fun n hn => hb n ?_, ?_⟩
    · exact List.mem_of_mem_drop (List.mem_of_mem_take hn)
    · rw [List.length_take]; exact Nat.min_le_left _ _
  · rw [cnd_f (by simpa using h)]
    exact ⟨_, rfl, hb, by omega⟩
end Go.Proofs.Ytgpgifpblchjjaa
/- Texts as lists of bytes. Conditions: those of each theorem. -/
namespace Go.Proofs.Ytgpgifpblchjjaa
open D Go.RowKit
set_option linter.unusedVariables false
set_option linter.unusedSimpArgs false

theorem toList_loop (bs : ByteArray) : ∀ (n i : Nat) (r : List UInt8), bs.size - i = n → ByteArray.toList.loop bs i r = r.reverse ++ bs.data.toList.drop i := by
  have hsz : bs.size = bs.data.toList.length := by rw [Array.length_toList]; rfl
  intro n
  induction n with
  | zero =>
    intro i r h
    unfold ByteArray.toList.loop
    rw [if_neg (by omega), List.drop_eq_nil_of_le (by omega)]; simp
  | succ n ih =>
    intro i r h
    unfold ByteArray.toList.loop
    rw [if_pos (by omega), ih (i + 1) _ (by omega), List.drop_eq_getElem_cons (i := i) (by omega)]
    have : bs.get! i = bs.data.toList[i]'(by omega) := by
      cases bs with
      | mk d =>
        have hi : i < d.size := (show i < ByteArray.size ⟨d⟩ by omega)
        show d[i]! = _
        simp [hi]
    rw [this]; simp
theorem toList_data (bs : ByteArray) : bs.toList = bs.data.toList := by
  have := toList_loop bs _ 0 [] rfl
  simpa [ByteArray.toList] using this
theorem u8_wrap {n : Int} (h1 : 0 ≤ n) (h2 : n ≤ 255) : IntKind.u8.wrap n = n := by
  rw [IntKind.wrap_u8]; omega
theorem bytesOf_list (xs : List Int) : (bytesOf xs).toList = xs.map fun n => UInt8.ofNat n.toNat := by
  rw [toList_data]; simp [bytesOf]
theorem bytesOf_inj {a b : List Int} (ha : Bytes a) (hb : Bytes b) (h : (bytesOf a).toList = (bytesOf b).toList) : a = b := by
  rw [bytesOf_list, bytesOf_list] at h
  have hl : a.length = b.length := by simpa using congrArg List.length h
  refine List.ext_getElem hl fun k h1 h2 => ?_
  have e : (a.map fun n => UInt8.ofNat n.toNat)[k]'(by simpa using h1) = (b.map fun n => UInt8.ofNat n.toNat)[k]'(by simpa using h2) := by simp only [h]
  simp only [List.getElem_map] at e
  have e2 := congrArg UInt8.toNat e
  have x := ha _ (List.getElem_mem h1)
  have y := hb _ (List.getElem_mem h2)
  simp only [UInt8.toNat_ofNat'] at e2
  omega
theorem strEq_bytes {a b : List Int} (ha : Bytes a) (hb : Bytes b) : strEq (bytesOf a) (bytesOf b) = decide (a = b) := by
  unfold strEq
  rw [Bool.eq_iff_iff, beq_iff_eq, decide_eq_true_eq]
  exact ⟨bytesOf_inj ha hb, fun e => by rw [e]⟩
theorem strEq_self (a : ByteArray) : strEq a a = true := by unfold strEq; exact beq_self_eq_true _
end Go.Proofs.Ytgpgifpblchjjaa
/- What the small functions on nets and sets come to, in natural numbers. Conditions: those of each theorem. -/
namespace Go.Proofs.Ytgpgifpblchjjaa
open D Go.RowKit
set_option linter.unusedVariables false
set_option linter.unusedSimpArgs false


theorem hasI_nat (s p : Nat) (hp : p ≤ 64) : hasI (s : Int) p = s.testBit p := by
  have h := shr_is s p hp
  unfold hasI
  rw [bits64, Int.toNat_natCast] at h
  rw [h, testBit_div, Bool.eq_iff_iff, beq_iff_eq, beq_iff_eq]
  omega
theorem two_pow_cast (n : Nat) : ((2 : Int) ^ n) = ((2 ^ n : Nat) : Int) := by simp
theorem Ok.of {net : List Int} (h1 : 1 ≤ net.length) (h2 : net.length ≤ 6) (h3 : ∀ p, p < net.length → (0 ≤ eli net p ∧ eli net p < 2 ^ net.length) ∧ hasI (eli net p) p = false ∧ ∀ q, q < net.length → hasI (eli net p) q = true → hasI (eli net q) p = true) : Ok net := by
  have hel : ∀ k, k < net.length → eli net k = (nb net k : Int) := fun k hk => by
    have := (h3 k hk).1.1
    show _ = ((eli net k).toNat : Int)
    omega
  refine ⟨h1, h2, hel, fun k hk => ?_, fun j k hj hk => ?_, fun k hk => ?_⟩
  · have := (h3 k hk).1.2
    rw [hel k hk, two_pow_cast] at this
    omega
  · have a1 := (h3 k hk).2.2 j hj
    have a2 := (h3 j hj).2.2 k hk
    rw [hel k hk, hel j hj, hasI_nat _ _ (by omega), hasI_nat _ _ (by omega)] at a1 a2
    cases hx : (nb net k).testBit j with
    | true => exact (a1 hx).symm
    | false => cases hy : (nb net j).testBit k with
      | false => rfl
      | true => rw [a2 hy] at hx; cases hx
  · have := (h3 k hk).2.1
    rw [hel k hk, hasI_nat _ _ (by omega)] at this
    exact this
theorem NetOk_cases (net : List Int) : (Ok net ∧ I.NetOk_t net = some true ∧ S.NetOk_t net = some true) ∨ (¬ Ok net ∧ I.NetOk_t net = some false ∧ S.NetOk_t net = some false) := by
  rw [← NetOk_eq, I.NetOk_is]
  generalize hb : (decide (1 ≤ net.length) && decide (net.length ≤ 6) && (List.range net.length).all fun p => decide (0 ≤ eli net p ∧ eli net p < 2 ^ net.length) && !hasI (eli net p) p && (List.range net.length).all fun q => !hasI (eli net p) q || hasI (eli net q) p) = b
  cases b with
  | true =>
    left
    simp only [Bool.and_eq_true, List.all_eq_true, List.mem_range, decide_eq_true_eq, Bool.or_eq_true, Bool.not_eq_true'] at hb
    refine ⟨Ok.of hb.1.1 hb.1.2 fun p hp => ⟨(hb.2 p hp).1.1, (hb.2 p hp).1.2, fun q hq hx => ?_⟩, rfl, rfl⟩
    rcases (hb.2 p hp).2 q hq with h | h
    · rw [h] at hx; cases hx
    · exact h
  | false =>
    right
    refine ⟨fun h => ?_, rfl, rfl⟩
    have : (decide (1 ≤ net.length) && decide (net.length ≤ 6) && (List.range net.length).all fun p => decide (0 ≤ eli net p ∧ eli net p < 2 ^ net.length) && !hasI (eli net p) p && (List.range net.length).all fun q => !hasI (eli net p) q || hasI (eli net q) p) = true := by
      simp only [Bool.and_eq_true, List.all_eq_true, List.mem_range, decide_eq_true_eq, Bool.or_eq_true, Bool.not_eq_true']
      have hhi := h.hi
      refine ⟨⟨h.lo, h.hi⟩, fun p hp => ⟨⟨?_, ?_⟩, fun q hq => ?_⟩⟩
      · rw [show eli net p = (nb net p : Int) from h.el p hp, two_pow_cast]
        have := h.lt p hp
        omega
      · rw [show eli net p = (nb net p : Int) from h.el p hp, hasI_nat _ _ (by omega)]; exact h.irr p hp
      · rw [show eli net p = (nb net p : Int) from h.el p hp, show eli net q = (nb net q : Int) from h.el q hq, hasI_nat _ _ (by omega), hasI_nat _ _ (by omega), h.sym q p hq hp]
        cases (nb net q).testBit p <;> simp
    rw [hb] at this; cases this
theorem Ok.eli {net : List Int} (h : Ok net) {k : Nat} (hk : k < net.length) : D.eli net k = (nb net k : Int) := h.el k hk

/-! ### The program's small functions -/
theorem I.hasPlace_n (s p : Nat) (hp : p ≤ 64) : I.hasPlace_t s p = some (s.testBit p) := by
  rw [I.hasPlace_is (by omega), Int.toNat_natCast, hasI_nat s p hp]
theorem I.setIn_n {net : List Int} (h : Ok net) (s : Int) : I.setIn_t net s = some (decide (0 ≤ s ∧ s < 2 ^ net.length)) := I.setIn_is h.hi
theorem I.placeIn_n (net : List Int) (p : Int) : I.placeIn_t net p = some (decide (0 ≤ p ∧ p < net.length)) := by
  unfold I.placeIn_t I.placeIn_tree
  by_cases h : 0 ≤ p
  · rw [cnd_t (by simpa using h)]; simp [h]
  · rw [cnd_f (by simpa using h)]; simp [h]
theorem I.allOf_n {net : List Int} (h : Ok net) : I.allOf_t net = some ((allOf net : Nat) : Int) := by
  unfold I.allOf_t I.allOf_tree
  have h2 := h.pow
  have h3 : 0 < 2 ^ net.length := Nat.two_pow_pos _
  rw [one_shl (by have := h.hi; omega), sub1_nat (by omega) (by omega)]
  rfl
theorem size_fold (s : Nat) : fold 6 (fun t k => t + (s.testBit k).toNat) 0 = size s := by
  unfold size card
  congr 1
  funext t k
  cases s.testBit k <;> simp
theorem I.sizeOf_n (s : Nat) : I.sizeOf_t s = some ((size s : Nat) : Int) := by
  unfold I.sizeOf_t I.sizeOf_tree
  have := (run_for (run := I.sizeOf_run3 s) (len := 6) (fun k (t : Nat) => ((t : Int), (k : Int))) (fun t k => t + (s.testBit k).toNat) (fun t => (t : Int)) (fun k t => t ≤ k) (by omega) (fun n k t hk ht => ?_) (fun n t ht => ?_) (t0 := 0) (Nat.le_refl _)).1
  · rw [size_fold] at this
    exact congrArg (fun o => optC o (fun q => some q) none) this
  · simp only [I.sizeOf_run3, I.sizeOf_step3]
    have hb : (s.testBit k).toNat ≤ 1 := by cases s.testBit k <;> decide
    rw [cnd_t (by simp; omega), cnd_f (by simp), bit_shr1 _ _ (by omega), add_nat (by omega), add1_nat (by omega)]
    exact ⟨rfl, by omega⟩
  · simp only [I.sizeOf_run3, I.sizeOf_step3]
    rw [cnd_f (by simp)]
theorem I.without_n {s p : Nat} (hs : s < 64) (hp : p < 6) : I.without_t s p = some (((if s.testBit p = true then s - 2 ^ p else s : Nat)) : Int) := by
  unfold I.without_t I.without_tree
  rw [cnd_f (by simp), one_shl (by omega), i64_andNot_nat _ _ (by omega) (pow2_lt (by omega)), bits_minus s hs p hp]

/-! ### The model's small functions -/
theorem all_shl {net : List Int} (h : Ok net) : IntKind.i64.wrap (IntKind.i64.wrap (1 * 2 ^ min (↑net.length : Int).toNat IntKind.i64.bits) - 1) = ((allOf net : Nat) : Int) := by
  have h2 := h.pow
  have h3 : 0 < 2 ^ net.length := Nat.two_pow_pos _
  rw [one_shl (by have := h.hi; omega), sub1_nat (by omega) (by omega)]
  rfl
theorem S.l1SetOk_n {net : List Int} (h : Ok net) (he : S.NetOk_t net = some true) (s : Int) : S.l1SetOk_t net s = some (decide (0 ≤ s ∧ s < 2 ^ net.length)) := by
  unfold S.l1SetOk_t S.l1SetOk_tree
  rw [he]
  simp only [optC]
  rw [cond_true, all_shl h, S.l1In_is]
  simp only
  congr 1
  rw [decide_eq_decide, two_pow_cast]
  have : 0 < 2 ^ net.length := Nat.two_pow_pos _
  unfold allOf
  omega
theorem l1Size_spec : ∀ s, s < 64 → size s = s % 2 + size (s / 2) := by decide +kernel
theorem S.l1Size_n {s : Nat} (hs : s < 64) : S.l1Size_t s = some ((size s : Nat) : Int) := by
  unfold S.l1Size_t S.l1Size_tree
  have : S.l1Size_run2 FUEL ((s : Int), 0) = some ((size s : Nat) : Int) := by
    refine run_fuel (run := S.l1Size_run2) (fun q => ∃ a t : Nat, q = ((a : Int), (t : Int)) ∧ a < 64 ∧ t + size a = size s) (fun q => q.1.toNat) (fun _ => ((size s : Nat) : Int)) ?_ ⟨s, 0, rfl, hs, by omega⟩ (by simp only [Int.toNat_natCast]; omega)
    rintro n _ ⟨a, t, rfl, ha, ht⟩
    have hz := size_le s
    simp only [S.l1Size_run2, S.l1Size_step2]
    by_cases h0 : a = 0
    · subst h0
      left
      rw [cnd_f (by simp)]
      have : size 0 = 0 := by decide
      rw [← ht, this]; rfl
    · right
      have h1 := l1Size_spec a ha
      rw [cnd_t (by simp; omega), div2_nat (by omega), tmod2_nat, add_nat (by omega)]
      exact ⟨_, rfl, ⟨_, _, rfl, by omega, by omega⟩, by simp only [Int.toNat_natCast]; omega, trivial⟩
  rw [this]; rfl
theorem set_cases {net : List Int} (h : Ok net) (s : Int) : (∃ t : Nat, s = (t : Int) ∧ t < 2 ^ net.length ∧ decide (0 ≤ s ∧ s < 2 ^ net.length) = true) ∨ decide (0 ≤ s ∧ s < 2 ^ net.length) = false := by
  by_cases hs : 0 ≤ s ∧ s < 2 ^ net.length
  · left
    refine ⟨s.toNat, by omega, ?_, by simpa using hs⟩
    have := hs.2
    rw [two_pow_cast] at this
    omega
  · right; simpa using hs
theorem place_cases (net : List Int) (p : Int) : (∃ t : Nat, p = (t : Int) ∧ t < net.length ∧ decide (0 ≤ p ∧ p < net.length) = true) ∨ decide (0 ≤ p ∧ p < net.length) = false := by
  by_cases hs : 0 ≤ p ∧ p < net.length
  · exact .inl ⟨p.toNat, by omega, by omega, by simpa using hs⟩
  · right; simpa using hs
end Go.Proofs.Ytgpgifpblchjjaa
/- What the functions on watches come to. Conditions: those of each theorem. -/
namespace Go.Proofs.Ytgpgifpblchjjaa
open D Go.RowKit
set_option linter.unusedVariables false
set_option linter.unusedSimpArgs false


theorem allOf_succ (net : List Int) : allOf net + 1 = 2 ^ net.length := by
  have : 0 < 2 ^ net.length := Nat.two_pow_pos _
  unfold allOf; omega
/-- The least of all, or what one began with. -/
theorem minFold {N : Nat} {p : Nat → Bool} {f : Nat → Nat} (t0 : Nat) :
    (∀ s, s < N → p s = true → fold N (fun t s => if p s = true then (if f s < t then f s else t) else t) t0 ≤ f s) ∧ fold N (fun t s => if p s = true then (if f s < t then f s else t) else t) t0 ≤ t0 ∧
    (fold N (fun t s => if p s = true then (if f s < t then f s else t) else t) t0 = t0 ∨ ∃ s, s < N ∧ p s = true ∧ f s = fold N (fun t s => if p s = true then (if f s < t then f s else t) else t) t0) := by
  induction N with
  | zero => exact ⟨fun s hs => by omega, Nat.le_refl _, .inl rfl⟩
  | succ N ih =>
    rw [fold_succ]
    generalize fold N _ t0 = g at ih ⊢
    obtain ⟨h1, h2, h3⟩ := ih
    cases hp : p N with
    | false =>
      simp only [Bool.false_eq_true, if_false]
      refine ⟨fun s hs hps => ?_, h2, ?_⟩
      · by_cases he : s = N
        · subst he; rw [hp] at hps; cases hps
        · exact h1 s (by omega) hps
      · rcases h3 with h3 | ⟨s, a, b⟩
        · exact .inl h3
        · exact .inr ⟨s, by omega, b⟩
    | true =>
      simp only [if_true]
      refine ⟨fun s hs hps => ?_, by split <;> omega, ?_⟩
      · by_cases he : s = N
        · subst he; split <;> omega
        · have := h1 s (by omega) hps
          split <;> omega
      · split
        · exact .inr ⟨N, by omega, hp, rfl⟩
        · rcases h3 with h3 | ⟨s, a, b⟩
          · exact .inl h3
          · exact .inr ⟨s, by omega, b⟩
theorem size_all {net : List Int} (h : Ok net) : size (allOf net) = net.length := by
  rw [size_cnt h (allOf_lt net), cnt_congr (q := fun _ => true) (fun k hk => by rw [allOf_testBit]; simpa using hk), cnt_true]
theorem size_le_len {net : List Int} (h : Ok net) {s : Nat} (hs : s < 2 ^ net.length) : size s ≤ net.length := by
  rw [size_cnt h hs]; exact cnt_le _ _
/-- The fewest guards that watch. -/
def fewest (net : List Int) : Nat := fold (2 ^ net.length) (fun t s => if W net s = true then (if size s < t then size s else t) else t) net.length
/-- The first of the smallest watches. -/
structure First (net : List Int) (r : Nat) : Prop where
  lt : r < 2 ^ net.length
  w : W net r = true
  le : ∀ s, s < 2 ^ net.length → W net s = true → size r ≤ size s
  first : ∀ s, s < r → W net s = true → size r < size s
theorem First.few {net : List Int} {r : Nat} (h : First net r) : Few net (size r) := ⟨⟨r, h.lt, h.w, rfl⟩, h.le⟩
theorem First.uniq {net : List Int} {r q : Nat} (h : First net r) (g : First net q) : r = q := by
  have h1 := h.few.uniq g.few
  rcases Nat.lt_trichotomy r q with hl | hl | hl
  · have := g.first r hl h.w; omega
  · exact hl
  · have := h.first q hl g.w; omega
def smallest (net : List Int) : Nat := fold (allOf net) (fun t s => if (decide (size s < size t) && W net s) = true then s else t) (allOf net)
theorem pow_shl {net : List Int} (h : Ok net) : IntKind.i64.wrap (1 * 2 ^ min (↑net.length : Int).toNat IntKind.i64.bits) = ((2 ^ net.length : Nat) : Int) := one_shl (by have := h.hi; omega)
/-- A search that counts up. -/
theorem run_search {D F : Type} {run : Nat → Int → Option (D ⊕ F)} {len : Nat} (f : Nat → Option D) (e : F) (hl : len ≤ 1000000)
    (h : ∀ n k, k < len → run (n + 1) (k : Int) = (match f k with | some d => some (.inl d) | none => run n ((k + 1 : Nat) : Int))) (he : ∀ n, run (n + 1) (len : Int) = some (.inr e)) :
    run FUEL 0 = some (match find len f with | some d => .inl d | none => .inr e) := by
  refine run_find (run := run) (len := len) f e (by omega) (fun n x h0 h1 => ?_)
  obtain ⟨k, rfl⟩ : ∃ k : Nat, x = k := ⟨x.toNat, by omega⟩
  by_cases hk : k < len
  · rw [if_pos (by omega), h n k hk, Int.toNat_natCast]
    rfl
  · obtain rfl : k = len := by omega
    rw [if_neg (by omega), he]
/-! ### Least watches -/
end Go.Proofs.Ytgpgifpblchjjaa
/- What the functions of chapter 1 come to. Conditions: those of each theorem. -/
namespace Go.Proofs.Ytgpgifpblchjjaa
open D Go.RowKit
set_option linter.unusedVariables false
set_option linter.unusedSimpArgs false


theorem l1In_place {net : List Int} (h : Ok net) (p : Int) : decide (0 ≤ p ∧ p ≤ IntKind.i64.wrap ((↑net.length : Int) - 1)) = decide (0 ≤ p ∧ p < net.length) := by
  have h1 := h.lo
  have h6 := h.hi
  rw [i64_wrap (by omega) (by omega), decide_eq_decide]
  omega
theorem set_in {net : List Int} {s : Nat} (hs : s < 2 ^ net.length) : decide (0 ≤ (s : Int) ∧ (s : Int) < 2 ^ net.length) = true := by
  rw [two_pow_cast, decide_eq_true_eq]; omega
/-! ### Wires -/
def ends (net : List Int) : Nat := sumN net.length (fun k => size (nb net k))
def wires (net : List Int) : Nat := ends net / 2
/-! ### Parts -/
/-! ### Lone places -/
def lone (net : List Int) : Nat := orN net.length (fun k => nb net k == 0) (fun k => 2 ^ k)
theorem L.sizeOf_n {s : Nat} (hs : s < 64) : L.sizeOf_t s = some ((size s : Nat) : Int) := by
  unfold L.sizeOf_t L.sizeOf_tree
  have : L.sizeOf_run2 FUEL ((s : Int), 0) = some ((size s : Nat) : Int) := by
    refine run_fuel (run := L.sizeOf_run2) (fun q => ∃ a t : Nat, q = ((a : Int), (t : Int)) ∧ a < 64 ∧ t + size a = size s) (fun q => q.1.toNat) (fun _ => ((size s : Nat) : Int)) ?_ ⟨s, 0, rfl, hs, by omega⟩ (by simp only [Int.toNat_natCast]; omega)
    rintro n _ ⟨a, t, rfl, ha, ht⟩
    have hz := size_le s
    simp only [L.sizeOf_run2, L.sizeOf_step2]
    by_cases h0 : a = 0
    · subst h0
      left
      rw [cnd_f (by simp)]
      have : size 0 = 0 := by decide
      rw [← ht, this]; rfl
    · right
      have h1 := l1Size_spec a ha
      rw [cnd_t (by simp; omega), div2_nat (by omega), tmod2_nat, add_nat (by omega)]
      exact ⟨_, rfl, ⟨_, _, rfl, by omega, by omega⟩, by simp only [Int.toNat_natCast]; omega, trivial⟩
  rw [this]; rfl
end Go.Proofs.Ytgpgifpblchjjaa
/- Wires and parts: plain facts. Conditions: those of each theorem. -/
namespace Go.Proofs.Ytgpgifpblchjjaa
set_option linter.unusedVariables false
set_option linter.unusedSimpArgs false

theorem cnt_below (N m : Nat) (hm : m ≤ N) : cnt N (fun i => decide (i < m)) = m := by
  induction N with
  | zero => obtain rfl : m = 0 := by omega
            rfl
  | succ N ih =>
    show cnt N (fun i => decide (i < m)) + (decide (N < m)).toNat = m
    by_cases hmN : m ≤ N
    · rw [ih hmN]; simp; omega
    · obtain rfl : m = N + 1 := by omega
      rw [cnt_congr (q := fun _ => true) (fun k hk => by simp; omega), cnt_true]; simp
/-- After m steps from the least places of the parts. -/
def lvl (net : List Int) (m k : Nat) : Bool := (List.range net.length).any fun r => root net r && (steps net (allOf net) m (2 ^ r)).testBit k
theorem lvl_iff {net : List Int} {m k : Nat} : lvl net m k = true ↔ ∃ r, r < net.length ∧ root net r = true ∧ (steps net (allOf net) m (2 ^ r)).testBit k = true := by
  unfold lvl
  simp only [List.any_eq_true, List.mem_range, Bool.and_eq_true]
theorem lvl_succ {net : List Int} {m k : Nat} (h : lvl net m k = true) : lvl net (m + 1) k = true := by
  obtain ⟨r, a, b, c⟩ := lvl_iff.1 h
  exact lvl_iff.2 ⟨r, a, b, (grow_testBit _ _ _ _).2 (.inl c)⟩
theorem lvl_mono {net : List Int} {m m' k : Nat} (hm : m ≤ m') (h : lvl net m k = true) : lvl net m' k = true := by
  induction m' with
  | zero => obtain rfl : m = 0 := by omega
            exact h
  | succ m' ih =>
    by_cases he : m = m' + 1
    · rw [← he]; exact h
    · exact lvl_succ (ih (by omega))
def lev (net : List Int) (k : Nat) : Nat := cnt 6 (fun m => !lvl net m k)
theorem root_of {net : List Int} (h : Ok net) {k : Nat} (hk : k < net.length) : ∃ r, r ≤ k ∧ root net r = true ∧ comp net r = comp net k := by
  have key : ∀ m, m ≤ k → (∃ r, r ≤ k ∧ root net r = true ∧ comp net r = comp net k) ∨ ∀ j, j < m → (comp net k).testBit j = false := by
    intro m
    induction m with
    | zero => intro _; right; intro j hj; omega
    | succ m ih =>
      intro hm
      rcases ih (by omega) with h1 | h1
      · exact .inl h1
      · cases hb : (comp net k).testBit m with
        | true =>
          left
          have he := h.comp_same hk (by omega) hb
          exact ⟨m, by omega, root_iff.2 fun j hj => by rw [← he]; exact h1 j hj, he.symm⟩
        | false =>
          right
          intro j hj
          by_cases hjm : j = m
          · rw [hjm]; exact hb
          · exact h1 j (by omega)
  rcases key k (Nat.le_refl _) with h1 | h1
  · exact h1
  · exact ⟨k, Nat.le_refl _, root_iff.2 h1, rfl⟩
theorem lvl_six {net : List Int} (h : Ok net) {k : Nat} (hk : k < net.length) : lvl net 6 k = true := by
  obtain ⟨r, hr, hroot, he⟩ := root_of h hk
  refine lvl_iff.2 ⟨r, by omega, hroot, ?_⟩
  have e2 : comp net r = steps net (allOf net) 6 (2 ^ r) := (h.comp_eq (by omega) (by have := h.hi; omega)).symm
  rw [← e2, he]
  exact h.comp_self hk
/-- Each place that is not the least one of its part has a neighbour that is nearer. -/
theorem nearer {net : List Int} (h : Ok net) {k : Nat} (hk : k < net.length) (hr : root net k = false) : ∃ j, j < net.length ∧ (nb net k).testBit j = true ∧ lev net j < lev net k := by
  have h0 : lvl net 0 k = false := by
    cases hb : lvl net 0 k with
    | false => rfl
    | true =>
      obtain ⟨r, a, b, c⟩ := lvl_iff.1 hb
      have : r = k := by
        have c' : (2 ^ r).testBit k = true := c
        rw [testBit_pow] at c'; simpa using c'
      rw [this] at b; rw [b] at hr; cases hr
  have hex : ∀ m, m ≤ 6 → lvl net m k = true → ∃ q, q < m ∧ lvl net q k = false ∧ lvl net (q + 1) k = true := by
    intro m
    induction m with
    | zero => intro _ hb; rw [h0] at hb; cases hb
    | succ m ih =>
      intro hm hb
      cases hc : lvl net m k with
      | false => exact ⟨m, by omega, hc, hb⟩
      | true => obtain ⟨q, a, b⟩ := ih (by omega) hc; exact ⟨q, by omega, b⟩
  obtain ⟨q, hq, hqf, hqt⟩ := hex 6 (Nat.le_refl _) (lvl_six h hk)
  obtain ⟨r, a, b, c⟩ := lvl_iff.1 hqt
  rcases (grow_testBit _ _ _ _).1 c with c1 | ⟨⟨j, hj, c1, c2⟩, _⟩
  · rw [lvl_iff.2 ⟨r, a, b, c1⟩] at hqf; cases hqf
  · refine ⟨j, hj, by rw [h.sym j k hj hk]; exact c2, ?_⟩
    have hjl : lvl net q j = true := lvl_iff.2 ⟨r, a, b, c1⟩
    have h1 : lev net j ≤ q := by
      have := cnt_mono (n := 6) (p := fun m => !lvl net m j) (q := fun i => decide (i < q)) (fun m hm hp => by
        have hp' : lvl net m j = false := by simpa using hp
        rw [decide_eq_true_eq]
        refine Classical.byContradiction fun hc => ?_
        rw [lvl_mono (by omega) hjl] at hp'; cases hp')
      rw [cnt_below 6 q (by omega)] at this
      exact this
    have h2 : q + 1 ≤ lev net k := by
      have := cnt_mono (n := 6) (p := fun i => decide (i < q + 1)) (q := fun m => !lvl net m k) (fun m hm hp => by
        have hp' : m < q + 1 := by simpa using hp
        cases hx : lvl net m k with
        | false => rfl
        | true => rw [lvl_mono (by omega) hx] at hqf; cases hqf)
      rw [cnt_below 6 (q + 1) (by omega)] at this
      exact this
    omega
end Go.Proofs.Ytgpgifpblchjjaa
/- Guards that are needed, guards apart, the chain of numbers: plain facts. Conditions: those of each theorem. -/
namespace Go.Proofs.Ytgpgifpblchjjaa
set_option linter.unusedVariables false
set_option linter.unusedSimpArgs false

theorem not_true {b : Bool} (h : ¬ b = true) : b = false := by cases b with
  | true => exact absurd rfl h
  | false => rfl
theorem sees_self (net : List Int) (k : Nat) : (ball net k).testBit k = true := (ball_testBit _ _ _).2 (.inr rfl)
theorem in_lt {net : List Int} {s k : Nat} (hs : s < 2 ^ net.length) (hk : s.testBit k = true) : k < net.length := testBit_lt hs hk

/-! ### Private places -/
def priv (net : List Int) (s g : Nat) : Nat := minus (ball net g) (seen net (s - 2 ^ g))
theorem zero_iff {a : Nat} : a = 0 ↔ ∀ j, a.testBit j = false := by
  constructor
  · rintro rfl j; exact Nat.zero_testBit j
  · intro ha; exact Nat.eq_of_testBit_eq fun j => by rw [ha j, Nat.zero_testBit]
theorem pos_iff {a : Nat} : a ≠ 0 ↔ ∃ j, a.testBit j = true := by
  rw [Ne, zero_iff]
  constructor
  · intro hn
    refine Classical.byContradiction fun hc => hn fun j => not_true fun hj => hc ⟨j, hj⟩
  · rintro ⟨j, hj⟩ ha; rw [ha j] at hj; cases hj
/-- Each guard has a place of its own. -/
def Needs (net : List Int) (s : Nat) : Prop := ∀ g, s.testBit g = true → ∃ j, (ball net g).testBit j = true ∧ ∀ i, s.testBit i = true → (ball net i).testBit j = true → i = g
def needs (net : List Int) (s : Nat) : Bool := (List.range net.length).all fun k => !(s.testBit k && priv net s k == 0)
theorem Needs.mono {net : List Int} {s t : Nat} (hst : ∀ j, t.testBit j = true → s.testBit j = true) (hn : Needs net s) : Needs net t := fun g hg => by
  obtain ⟨j, h1, h2⟩ := hn g (hst g hg)
  exact ⟨j, h1, fun i hi hb => h2 i (hst i hi) hb⟩
theorem Needs.zero (net : List Int) : Needs net 0 := fun g hg => by rw [Nat.zero_testBit] at hg; cases hg
theorem Needs.one (net : List Int) (k : Nat) : Needs net (2 ^ k) := fun g hg => by
  rw [testBit_pow, decide_eq_true_eq] at hg
  subst hg
  exact ⟨k, sees_self net k, fun i hi _ => by rw [testBit_pow, decide_eq_true_eq] at hi; exact hi.symm⟩
theorem or_testBit (s k j : Nat) : (s ||| 2 ^ k).testBit j = true ↔ s.testBit j = true ∨ j = k := by
  rw [Nat.testBit_or, Bool.or_eq_true, testBit_pow, decide_eq_true_eq]
  exact ⟨fun a => a.elim .inl (fun b => .inr b.symm), fun a => a.elim .inl (fun b => .inr b.symm)⟩
theorem or_lt {n s k : Nat} (hs : s < 2 ^ n) (hk : k < n) : s ||| 2 ^ k < 2 ^ n := Nat.or_lt_two_pow hs (Nat.pow_lt_pow_right (by omega) hk)
/-- A set that needs all guards, and does not with any further place. -/
def FullN (net : List Int) (s : Nat) : Prop := Needs net s ∧ ∀ k, k < net.length → s.testBit k = false → ¬ Needs net (s ||| 2 ^ k)
def fullN (net : List Int) (s : Nat) : Bool := ((List.range net.length).all fun k => !(!s.testBit k && needs net (s ||| 2 ^ k))) && needs net s
/-! ### Seen twice -/
/-- The places that two guards of a set see. -/
structure Twice (net : List Int) (s t : Nat) : Prop where
  lt : t < 2 ^ net.length
  bit : ∀ j, t.testBit j = true ↔ ∃ a b, s.testBit a = true ∧ s.testBit b = true ∧ a ≠ b ∧ (ball net a).testBit j = true ∧ (ball net b).testBit j = true
theorem Twice.uniq {net : List Int} {s t u : Nat} (ht : Twice net s t) (hu : Twice net s u) : t = u := Nat.eq_of_testBit_eq fun j => by rw [Bool.eq_iff_iff, ht.bit, hu.bit]
def twice (net : List Int) (s : Nat) : Nat := (fold net.length (fun (t : Nat × Nat) k => if s.testBit k = true then (t.1 ||| ball net k, t.2 ||| (t.1 &&& ball net k)) else t) (0, 0)).2
/-! ### Guards apart -/
def Apart (net : List Int) (s : Nat) : Prop := ∀ j k, s.testBit j = true → s.testBit k = true → (nb net j).testBit k = false
def apart (net : List Int) (s : Nat) : Bool := (near net s &&& s) == 0
theorem Apart.mono {net : List Int} {s t : Nat} (hst : ∀ j, t.testBit j = true → s.testBit j = true) (h : Apart net s) : Apart net t := fun j k hj hk => h j k (hst j hj) (hst k hk)
theorem Apart.zero (net : List Int) : Apart net 0 := fun j k hj _ => by rw [Nat.zero_testBit] at hj; cases hj
theorem Apart.one {net : List Int} (h : Ok net) {k : Nat} (hk : k < net.length) : Apart net (2 ^ k) := fun i j hi hj => by
  rw [testBit_pow, decide_eq_true_eq] at hi hj
  subst hi; subst hj
  exact h.irr _ hk
theorem apart_only {net : List Int} (h : Ok net) {s : Nat} (hs : s < 2 ^ net.length) (ha : Apart net s) {g : Nat} (hg : s.testBit g = true) : ∀ i, s.testBit i = true → (ball net i).testBit g = true → i = g := fun i hi hb => by
  rcases (ball_testBit _ _ _).1 hb with a | a
  · rw [ha i g hi hg] at a; cases a
  · exact a
theorem Apart.needs {net : List Int} (h : Ok net) {s : Nat} (hs : s < 2 ^ net.length) (ha : Apart net s) : Needs net s := fun g hg => ⟨g, sees_self net g, apart_only h hs ha hg⟩
theorem Apart.add {net : List Int} (h : Ok net) {s k : Nat} (hs : s < 2 ^ net.length) (hk : k < net.length) (ha : Apart net s) (hn : ∀ j, s.testBit j = true → (nb net k).testBit j = false) : Apart net (s ||| 2 ^ k) := fun i j hi hj => by
  rw [or_testBit] at hi hj
  rcases hi with hi | hi
  · rcases hj with hj | hj
    · exact ha i j hi hj
    · rw [hj, h.sym k i hk (in_lt hs hi)]; exact hn i hi
  · rcases hj with hj | hj
    · rw [hi]; exact hn j hj
    · rw [hi, hj]; exact h.irr k hk
def fullA (net : List Int) (s : Nat) : Bool := apart net s && (List.range net.length).all fun k => !(!s.testBit k && apart net (s ||| 2 ^ k))
/-! ### Grown sets -/
def grownStep (net : List Int) (t k : Nat) : Nat := if (!t.testBit k && (nb net k &&& t) == 0) = true then t ||| 2 ^ k else t
def grown (net : List Int) (s : Nat) : Nat := fold net.length (grownStep net) s
end Go.Proofs.Ytgpgifpblchjjaa
/- The chain of numbers: plain facts. Conditions: those of each theorem. -/
namespace Go.Proofs.Ytgpgifpblchjjaa
set_option linter.unusedVariables false
set_option linter.unusedSimpArgs false

/-- The least number of places of sets of a kind, and the greatest. -/
structure MinOf (net : List Int) (p : Nat → Bool) (m : Nat) : Prop where
  ex : ∃ s, s < 2 ^ net.length ∧ p s = true ∧ size s = m
  le : ∀ s, s < 2 ^ net.length → p s = true → m ≤ size s
structure MaxOf (net : List Int) (p : Nat → Bool) (m : Nat) : Prop where
  ex : ∃ s, s < 2 ^ net.length ∧ p s = true ∧ size s = m
  le : ∀ s, s < 2 ^ net.length → p s = true → size s ≤ m
theorem MinOf.uniq {net : List Int} {p : Nat → Bool} {a b : Nat} (ha : MinOf net p a) (hb : MinOf net p b) : a = b := by
  obtain ⟨s, h1, h2, h3⟩ := ha.ex
  obtain ⟨t, g1, g2, g3⟩ := hb.ex
  have := ha.le t g1 g2
  have := hb.le s h1 h2
  omega
theorem MaxOf.uniq {net : List Int} {p : Nat → Bool} {a b : Nat} (ha : MaxOf net p a) (hb : MaxOf net p b) : a = b := by
  obtain ⟨s, h1, h2, h3⟩ := ha.ex
  obtain ⟨t, g1, g2, g3⟩ := hb.ex
  have := ha.le t g1 g2
  have := hb.le s h1 h2
  omega
def minSize (net : List Int) (p : Nat → Bool) : Nat := fold (2 ^ net.length) (fun t s => if p s = true then (if size s < t then size s else t) else t) net.length
def maxSize (net : List Int) (p : Nat → Bool) : Nat := fold (2 ^ net.length) (fun t s => if p s = true then (if size s > t then size s else t) else t) 0
theorem minSize_is {net : List Int} (h : Ok net) {p : Nat → Bool} (hex : ∃ s, s < 2 ^ net.length ∧ p s = true) : MinOf net p (minSize net p) := by
  obtain ⟨h1, h2, h3⟩ := minFold (N := 2 ^ net.length) (p := p) (f := size) net.length
  refine ⟨?_, h1⟩
  rcases h3 with h3 | h3
  · obtain ⟨s, hs, hp⟩ := hex
    have := h1 s hs hp
    have := size_le_len h hs
    exact ⟨s, hs, hp, by unfold minSize; omega⟩
  · exact h3
/-! ### What there is of each kind -/
theorem size_add {s k : Nat} (hs : s < 64) (hk : k < 6) (hb : s.testBit k = false) : size (s ||| 2 ^ k) = size s + 1 := bits_or s hs k hk hb
theorem size_pos {s : Nat} (hs : s < 64) {k : Nat} (hk : k < 6) (hb : s.testBit k = true) : 1 ≤ size s := by
  have := (bits_sub s hs k hk hb).2.2.1
  omega
/-! ### A full set and its private places watch -/
/-! ### Bounds by balls, and nets without wires -/
/-! ### How many sets are apart -/
def apartCount (net : List Int) : Nat := cnt (2 ^ net.length) (apart net)
end Go.Proofs.Ytgpgifpblchjjaa
/- Guards near each other: plain facts of total and joined watches. Conditions: those of each theorem. -/
namespace Go.Proofs.Ytgpgifpblchjjaa
set_option linter.unusedVariables false
set_option linter.unusedSimpArgs false

/-! ### Total watches -/
def total (net : List Int) (s : Nat) : Bool := near net s == allOf net
theorem or2 (s t j : Nat) : (s ||| t).testBit j = true ↔ s.testBit j = true ∨ t.testBit j = true := by rw [Nat.testBit_or, Bool.or_eq_true]
/-! ### Sets that stand together -/
def Together (net : List Int) (s : Nat) : Prop := s ≠ 0 ∧ ∀ i j, s.testBit i = true → s.testBit j = true → Reach net s i j
theorem Reach.mono {net : List Int} {A B i j : Nat} (hAB : ∀ k, A.testBit k = true → B.testBit k = true) (hr : Reach net A i j) : Reach net B i j := by
  induction hr with
  | here ha => exact .here (hAB _ ha)
  | step _ hj hn ha ih => exact .step ih hj hn (hAB _ ha)
/-- From within to without there is a wire. -/
theorem leaves {net : List Int} {A i j t : Nat} (hr : Reach net A i j) (hi : t.testBit i = true) (hj : t.testBit j = false) : ∃ u v, t.testBit u = true ∧ t.testBit v = false ∧ u < net.length ∧ (nb net u).testBit v = true := by
  induction hr with
  | here _ => rw [hi] at hj; cases hj
  | @step a b hr hl hn _ ih =>
    cases hb : t.testBit a with
    | true => exact ⟨a, b, hb, hj, hl, hn⟩
    | false => exact ih hb
end Go.Proofs.Ytgpgifpblchjjaa
/- Two guards at a place, and a guard that leaves: plain facts. Conditions: those of each theorem. -/
namespace Go.Proofs.Ytgpgifpblchjjaa
set_option linter.unusedVariables false
set_option linter.unusedSimpArgs false

/-! ### Rows of small numbers -/
/-- The places with at least m guards. -/
def withN (n : Nat) (r : Nat → Nat) (m : Nat) : Nat := orN n (fun k => decide (m ≤ r k)) (fun k => 2 ^ k)
/-- The digits of a number to the base three, the first one ahead. -/
def dig (n m k : Nat) : Nat := m / 3 ^ (n - 1 - k) % 3
theorem dig_lt (n m k : Nat) : dig n m k ≤ 2 := by unfold dig; omega
theorem dig_last (n m : Nat) : dig (n + 1) m n = m % 3 := by
  unfold dig
  rw [show n + 1 - 1 - n = 0 by omega]; simp
theorem dig_ahead {n m k : Nat} (hk : k < n) : dig (n + 1) m k = dig n (m / 3) k := by
  unfold dig
  rw [show n + 1 - 1 - k = (n - 1 - k) + 1 by omega, Nat.pow_succ, Nat.mul_comm, ← Nat.div_div_eq_div_mul]
/-- Each row is one of the rows that are counted up. -/
theorem dig_all {n : Nat} {r : Nat → Nat} (hr : ∀ k, k < n → r k ≤ 2) : ∃ m, m < 3 ^ n ∧ ∀ k, k < n → dig n m k = r k := by
  induction n with
  | zero => exact ⟨0, by simp, fun k hk => by omega⟩
  | succ n ih =>
    obtain ⟨m, hm, hd⟩ := ih (fun k hk => hr k (by omega))
    have h2 := hr n (by omega)
    refine ⟨3 * m + r n, by rw [Nat.pow_succ]; omega, fun k hk => ?_⟩
    by_cases hkn : k = n
    · rw [hkn, dig_last]; omega
    · rw [dig_ahead (by omega), show (3 * m + r n) / 3 = m by omega]
      exact hd k (by omega)
/-- So few guards a row of a kind can have. -/
structure MinRow (n : Nat) (p : (Nat → Nat) → Prop) (m : Nat) : Prop where
  ex : ∃ r, (∀ k, k < n → r k ≤ 2) ∧ p r ∧ sumN n r = m
  le : ∀ r, (∀ k, k < n → r k ≤ 2) → p r → m ≤ sumN n r
theorem MinRow.uniq {n : Nat} {p : (Nat → Nat) → Prop} {a b : Nat} (ha : MinRow n p a) (hb : MinRow n p b) : a = b := by
  obtain ⟨r, h1, h2, h3⟩ := ha.ex
  obtain ⟨q, g1, g2, g3⟩ := hb.ex
  have := ha.le q g1 g2
  have := hb.le r h1 h2
  omega
def RomanP (net : List Int) (r : Nat → Nat) : Prop := ∀ k, k < net.length → r k = 0 → ∃ j, j < net.length ∧ (nb net k).testBit j = true ∧ 2 ≤ r j
def help (net : List Int) (r : Nat → Nat) (k : Nat) : Nat := sumN net.length (fun j => ((nb net k).testBit j).toNat * r j)
def ItalianP (net : List Int) (r : Nat → Nat) : Prop := ∀ k, k < net.length → r k = 0 → 2 ≤ help net r k
/-- The row of a set: two at its places, one where it does not see. -/
def rowOfN (net : List Int) (s k : Nat) : Nat := if s.testBit k = true then 2 else if (seen net s).testBit k = true then 0 else 1
/-! ### A guard that leaves -/
def moved (s f t : Nat) : Nat := (s - 2 ^ f) ||| 2 ^ t
theorem moved_testBit {s f t : Nat} (hs : s < 64) (hf : f < 6) (hb : s.testBit f = true) (j : Nat) : (moved s f t).testBit j = true ↔ (s.testBit j = true ∧ j ≠ f) ∨ j = t := by
  unfold moved
  rw [or_testBit, sub_testBit hs hf hb]
  simp
theorem moved_lt {n s f t : Nat} (hs : s < 2 ^ n) (ht : t < n) : moved s f t < 2 ^ n := or_lt (sub_lt hs) ht
theorem moved_size {s f t : Nat} (hs : s < 64) (hf : f < 6) (ht : t < 6) (hb : s.testBit f = true) (hn : s.testBit t = false) : size (moved s f t) = size s := by
  have h1 := bits_sub s hs f hf hb
  unfold moved
  rw [size_add h1.1 ht (by rw [sub_testBit hs hf hb, hn]; rfl)]
  omega
/-- A guard next to a place can go there, and all is watched. -/
def Can (net : List Int) (s t : Nat) : Prop := ∃ f, s.testBit f = true ∧ (nb net t).testBit f = true ∧ W net (moved s f t) = true
def Secure (net : List Int) (s : Nat) : Prop := W net s = true ∧ ∀ k, k < net.length → s.testBit k = false → Can net s k
/-- The row behind a guard's move. -/
def leave (r : Nat → Nat) (f t k : Nat) : Nat := if k = t then 1 else if k = f then r f - 1 else r k
def WeakP (net : List Int) (r : Nat → Nat) : Prop := ∀ k, k < net.length → r k = 0 → ∃ f, f < net.length ∧ 1 ≤ r f ∧ (nb net k).testBit f = true ∧ W net (withN net.length (leave r f k) 1) = true
end Go.Proofs.Ytgpgifpblchjjaa
/- Guards that answer for ever, one at a time: plain facts. Conditions: those of each theorem. -/
namespace Go.Proofs.Ytgpgifpblchjjaa
set_option linter.unusedVariables false
set_option linter.unusedSimpArgs false

/-- A family of sets that can answer each place by one move, and be in the family again. -/
def Closed1 (net : List Int) (F : Nat → Prop) : Prop := ∀ t, t < 2 ^ net.length → F t → ∀ k, k < net.length → t.testBit k = false → ∃ f, t.testBit f = true ∧ (nb net k).testBit f = true ∧ F (moved t f k)
def Eternal (net : List Int) (s : Nat) : Prop := ∃ F, Closed1 net F ∧ F s
theorem eternal_closed (net : List Int) : Closed1 net (Eternal net) := fun t ht ⟨F, hF, hFt⟩ k hk hb => by
  obtain ⟨f, a, b, c⟩ := hF t ht hFt k hk hb
  exact ⟨f, a, b, F, hF, c⟩
theorem eternal_all {net : List Int} : Eternal net (allOf net) := ⟨fun q => q = allOf net, fun q _ hq k hk hb => by rw [hq, allOf_testBit] at hb; simp at hb; omega, rfl⟩
end Go.Proofs.Ytgpgifpblchjjaa
/- All guards move: who can go where, by Hall's condition. Conditions: those of each theorem. -/
namespace Go.Proofs.Ytgpgifpblchjjaa
set_option linter.unusedVariables false
set_option linter.unusedSimpArgs false

theorem size_eq6 {s : Nat} (hs : s < 64) : size s = cnt 6 (fun k => s.testBit k) := by unfold size; rw [card_sum]
theorem in6 {s k : Nat} (hs : s < 64) (hk : s.testBit k = true) : k < 6 := testBit_lt (n := 6) hs hk
theorem size_mono6 {s t : Nat} (hs : s < 64) (ht : t < 64) (h : ∀ j, s.testBit j = true → t.testBit j = true) : size s ≤ size t := by
  rw [size_eq6 hs, size_eq6 ht]; exact cnt_mono fun k _ => h k
theorem size_disj {s t : Nat} (hs : s < 64) (ht : t < 64) (h : ∀ j, s.testBit j = true → t.testBit j = false) : size (s ||| t) = size s + size t := by
  have hl : s ||| t < 2 ^ 6 := Nat.or_lt_two_pow (by omega) (by omega)
  rw [size_eq6 hs, size_eq6 ht, size_eq6 (by omega)]
  unfold cnt
  rw [← sumN_add]
  refine sumN_congr fun k _ => ?_
  show ((s ||| t).testBit k).toNat = (s.testBit k).toNat + (t.testBit k).toNat
  rw [Nat.testBit_or]
  cases hb : s.testBit k with
  | false => simp
  | true => rw [h k hb]; rfl
theorem diff_testBit {s t : Nat} (hs : s < 64) (ht : t < 64) (j : Nat) : (minus s t).testBit j = true ↔ s.testBit j = true ∧ t.testBit j = false := by
  rw [minus_testBit _ _ (by omega) (by omega), Bool.and_eq_true, Bool.not_eq_true']
theorem diff_lt {s t : Nat} (hs : s < 64) : minus s t < 64 := Nat.lt_of_le_of_lt Nat.and_le_left hs
theorem size_diff {s t : Nat} (hs : s < 64) (ht : t < 64) (h : ∀ j, t.testBit j = true → s.testBit j = true) : size (minus s t) + size t = size s := by
  rw [← size_disj (diff_lt hs) ht (fun j hj => ((diff_testBit hs ht j).1 hj).2)]
  congr 1
  apply Nat.eq_of_testBit_eq
  intro j
  rw [Bool.eq_iff_iff, or2, diff_testBit hs ht]
  constructor
  · rintro (⟨a, _⟩ | a)
    · exact a
    · exact h j a
  · intro a
    cases hb : t.testBit j with
    | true => exact .inr rfl
    | false => exact .inl ⟨a, rfl⟩
theorem size_zero {s : Nat} (hs : s < 64) (h : size s = 0) : s = 0 := Classical.byContradiction fun hne => by
  obtain ⟨j, hj⟩ := pos_iff.1 hne
  have := size_pos hs (in6 hs hj) hj
  omega
/-- Those of b next to some of x. -/
def nbs (R : Nat → Nat → Bool) (x b : Nat) : Nat := orN 6 (fun j => b.testBit j && (List.range 6).any fun i => x.testBit i && R i j) (fun j => 2 ^ j)
theorem nbs_testBit {R : Nat → Nat → Bool} {x b : Nat} (hx : x < 64) (hb : b < 64) (j : Nat) : (nbs R x b).testBit j = true ↔ b.testBit j = true ∧ ∃ i, x.testBit i = true ∧ R i j = true := by
  unfold nbs
  rw [orN_testBit]
  simp only [Bool.and_eq_true, List.any_eq_true, List.mem_range]
  constructor
  · rintro ⟨k, hk, ⟨a, i, _, b1, c⟩, d⟩
    rw [testBit_pow, decide_eq_true_eq] at d
    subst d
    exact ⟨a, i, b1, c⟩
  · rintro ⟨a, i, b1, c⟩
    exact ⟨j, in6 hb a, ⟨a, i, in6 hx b1, b1, c⟩, by rw [testBit_pow]; simp⟩
theorem nbs_lt (R : Nat → Nat → Bool) (x b : Nat) : nbs R x b < 64 := orN_lt (m := 6) fun k hk _ => Nat.pow_lt_pow_right (by omega) hk
/-- Each can be given another one, if no set has too few. -/
theorem hall (R : Nat → Nat → Bool) : ∀ m a b, a < 64 → b < 64 → size a ≤ m → (∀ x, x < 64 → (∀ j, x.testBit j = true → a.testBit j = true) → size x ≤ size (nbs R x b)) →
    ∃ f : Nat → Nat, (∀ i, a.testBit i = true → b.testBit (f i) = true ∧ R i (f i) = true) ∧ ∀ i j, a.testBit i = true → a.testBit j = true → f i = f j → i = j := by
  intro m
  induction m with
  | zero =>
    intro a b ha hb hm _
    have := size_zero ha (by omega)
    subst this
    exact ⟨fun i => i, fun i hi => (by rw [Nat.zero_testBit] at hi; cases hi), fun i j hi => (by rw [Nat.zero_testBit] at hi; cases hi)⟩
  | succ m ih =>
    intro a b ha hb hm hc
    by_cases h0 : a = 0
    · subst h0
      exact ⟨fun i => i, fun i hi => (by rw [Nat.zero_testBit] at hi; cases hi), fun i j hi => (by rw [Nat.zero_testBit] at hi; cases hi)⟩
    by_cases ht : ∃ x, x < 64 ∧ (∀ j, x.testBit j = true → a.testBit j = true) ∧ x ≠ 0 ∧ x ≠ a ∧ size (nbs R x b) ≤ size x
    · -- a tight set is given its own, the others the others
      obtain ⟨x, hx, hxa, hx0, hxne, hxt⟩ := ht
      have hdz := size_diff ha hx hxa
      have hxp : 1 ≤ size x := by
        obtain ⟨j, hj⟩ := pos_iff.1 hx0
        exact size_pos hx (in6 hx hj) hj
      have hdp : 1 ≤ size (minus a x) := by
        refine Nat.one_le_iff_ne_zero.2 fun hz => hxne ?_
        have h1 := size_zero (diff_lt ha) hz
        apply Nat.eq_of_testBit_eq
        intro j
        rw [Bool.eq_iff_iff]
        refine ⟨hxa j, fun hj => Classical.byContradiction fun hno => ?_⟩
        have := (diff_testBit ha hx j).2 ⟨hj, not_true hno⟩
        rw [h1, Nat.zero_testBit] at this; cases this
      obtain ⟨f1, p1, q1⟩ := ih x b hx hb (by omega) (fun y hy hyx => hc y hy fun j hj => hxa j (hyx j hj))
      have hnl := nbs_lt R x b
      obtain ⟨f2, p2, q2⟩ := ih (minus a x) (minus b (nbs R x b)) (diff_lt ha) (diff_lt hb) (by omega) (fun z hz hza => by
        have hzx : z ||| x < 64 := by
          have : z ||| x < 2 ^ 6 := Nat.or_lt_two_pow (by omega) (by omega)
          omega
        have hdis : ∀ j, z.testBit j = true → x.testBit j = false := fun j hj => ((diff_testBit ha hx j).1 (hza j hj)).2
        have h1 := hc (z ||| x) hzx (fun j hj => by
          rcases (or2 _ _ _).1 hj with hj | hj
          · exact ((diff_testBit ha hx j).1 (hza j hj)).1
          · exact hxa j hj)
        rw [size_disj hz hx hdis] at h1
        have h2 : size (nbs R (z ||| x) b) ≤ size (nbs R z (minus b (nbs R x b))) + size (nbs R x b) := by
          rw [← size_disj (nbs_lt _ _ _) hnl (fun j hj => ((diff_testBit hb hnl j).1 ((nbs_testBit hz (diff_lt hb) j).1 hj).1).2)]
          refine size_mono6 (nbs_lt _ _ _) (by have : nbs R z (minus b (nbs R x b)) ||| nbs R x b < 2 ^ 6 := Nat.or_lt_two_pow (nbs_lt _ _ _) hnl
                                               omega) fun j hj => ?_
          obtain ⟨a1, i, a2, a3⟩ := (nbs_testBit hzx hb j).1 hj
          rw [or2]
          cases hb2 : (nbs R x b).testBit j with
          | true => exact .inr rfl
          | false =>
            left
            rcases (or2 _ _ _).1 a2 with a2 | a2
            · exact (nbs_testBit hz (diff_lt hb) j).2 ⟨(diff_testBit hb hnl j).2 ⟨a1, hb2⟩, i, a2, a3⟩
            · rw [(nbs_testBit hx hb j).2 ⟨a1, i, a2, a3⟩] at hb2; cases hb2
        omega)
      have in1 : ∀ i, x.testBit i = true → (nbs R x b).testBit (f1 i) = true := fun i hi => (nbs_testBit hx hb _).2 ⟨(p1 i hi).1, i, hi, (p1 i hi).2⟩
      have in2 : ∀ i, a.testBit i = true → x.testBit i = false → (minus a x).testBit i = true := fun i hi hn => (diff_testBit ha hx i).2 ⟨hi, hn⟩
      refine ⟨fun i => if x.testBit i = true then f1 i else f2 i, fun i hi => ?_, fun i j hi hj he => ?_⟩
      · cases hxi : x.testBit i with
        | true => simp only [hxi, if_true]; exact p1 i hxi
        | false =>
          simp only [hxi, Bool.false_eq_true, if_false]
          obtain ⟨u, v⟩ := p2 i (in2 i hi hxi)
          exact ⟨((diff_testBit hb hnl _).1 u).1, v⟩
      · cases hxi : x.testBit i with
        | true =>
          cases hxj : x.testBit j with
          | true => simp only [hxi, hxj, if_true] at he; exact q1 i j hxi hxj he
          | false =>
            simp only [hxi, hxj, if_true, Bool.false_eq_true, if_false] at he
            have h1 := in1 i hxi
            have h2 := ((diff_testBit hb hnl _).1 (p2 j (in2 j hj hxj)).1).2
            rw [← he, h1] at h2; cases h2
        | false =>
          cases hxj : x.testBit j with
          | true =>
            simp only [hxi, hxj, if_true, Bool.false_eq_true, if_false] at he
            have h1 := in1 j hxj
            have h2 := ((diff_testBit hb hnl _).1 (p2 i (in2 i hi hxi)).1).2
            rw [he, h1] at h2; cases h2
          | false =>
            simp only [hxi, hxj, Bool.false_eq_true, if_false] at he
            exact q2 i j (in2 i hi hxi) (in2 j hj hxj) he
    · -- one is given any, and the rest goes on
      obtain ⟨g, hg⟩ := pos_iff.1 h0
      have hg6 := in6 ha hg
      have hpg : 2 ^ g < 64 := by
        have : 2 ^ g < 2 ^ 6 := Nat.pow_lt_pow_right (by omega) hg6
        omega
      have hgs : ∀ j, (2 ^ g).testBit j = true → a.testBit j = true := fun j hj => by rw [testBit_pow, decide_eq_true_eq] at hj; rw [← hj]; exact hg
      have z1 : size (2 ^ g) = 1 := by
        have := size_add (s := 0) (k := g) (by omega) hg6 (Nat.zero_testBit g)
        rw [Nat.zero_or] at this
        rw [this]; decide
      have h1 := hc (2 ^ g) hpg hgs
      have hne : nbs R (2 ^ g) b ≠ 0 := fun he => by
        have : size (nbs R (2 ^ g) b) = 0 := by rw [he]; decide
        omega
      obtain ⟨t, htb⟩ := pos_iff.1 hne
      obtain ⟨hbt, i, hi, hR⟩ := (nbs_testBit hpg hb t).1 htb
      have hig : i = g := by rw [testBit_pow, decide_eq_true_eq] at hi; exact hi.symm
      subst hig
      have ht6 := in6 hb hbt
      have ba := bits_sub a ha i hg6 hg
      have bb := bits_sub b hb t ht6 hbt
      obtain ⟨f, p, q⟩ := ih (a - 2 ^ i) (b - 2 ^ t) ba.1 bb.1 (by omega) (fun x hx hxa => by
        by_cases hx0 : x = 0
        · subst hx0
          have : size 0 = 0 := by decide
          omega
        have hxa' : ∀ j, x.testBit j = true → a.testBit j = true := fun j hj => by
          have := hxa j hj
          rw [sub_testBit ha hg6 hg, Bool.and_eq_true] at this
          exact this.1
        have hxne : x ≠ a := fun he => by
          have := hxa i (by rw [he]; exact hg)
          rw [sub_testBit ha hg6 hg] at this
          simp at this
        have h2 : size x + 1 ≤ size (nbs R x b) := by
          refine Classical.byContradiction fun hlt => ht ⟨x, hx, hxa', hx0, hxne, by omega⟩
        have h3 : size (nbs R x b) ≤ size (nbs R x (b - 2 ^ t)) + 1 := by
          have hle : size (nbs R x b) ≤ size (nbs R x (b - 2 ^ t) ||| 2 ^ t) := by
            refine size_mono6 (nbs_lt _ _ _) (by
              have hp : 2 ^ t < 2 ^ 6 := Nat.pow_lt_pow_right (by omega) ht6
              have : nbs R x (b - 2 ^ t) ||| 2 ^ t < 2 ^ 6 := Nat.or_lt_two_pow (nbs_lt _ _ _) hp
              omega) fun j hj => ?_
            obtain ⟨a1, k, a2, a3⟩ := (nbs_testBit hx hb j).1 hj
            rw [or_testBit]
            by_cases hjt : j = t
            · exact .inr hjt
            · exact .inl ((nbs_testBit hx bb.1 j).2 ⟨by rw [sub_testBit hb ht6 hbt, a1]; simp [hjt], k, a2, a3⟩)
          rw [size_add (nbs_lt _ _ _) ht6 (not_true fun hcc => by
            have := ((nbs_testBit hx bb.1 t).1 hcc).1
            rw [sub_testBit hb ht6 hbt] at this; simp at this)] at hle
          exact hle
        omega)
      have ina : ∀ k, a.testBit k = true → k ≠ i → (a - 2 ^ i).testBit k = true := fun k hk hki => by rw [sub_testBit ha hg6 hg, hk]; simp [hki]
      have outb : ∀ k, a.testBit k = true → k ≠ i → f k ≠ t ∧ b.testBit (f k) = true := fun k hk hki => by
        have := (p k (ina k hk hki)).1
        rw [sub_testBit hb ht6 hbt, Bool.and_eq_true] at this
        exact ⟨by simpa using this.2, this.1⟩
      refine ⟨fun k => if k = i then t else f k, fun k hk => ?_, fun k j hk hj he => ?_⟩
      · by_cases hki : k = i
        · simp only [hki, if_true]; exact ⟨hbt, hR⟩
        · simp only [hki, if_false]; exact ⟨(outb k hk hki).2, (p k (ina k hk hki)).2⟩
      · by_cases hki : k = i
        · by_cases hji : j = i
          · rw [hki, hji]
          · simp only [hki, hji, if_true, if_false] at he
            exact absurd he.symm (outb j hj hji).1
        · by_cases hji : j = i
          · simp only [hki, hji, if_true, if_false] at he
            exact absurd he (outb k hk hki).1
          · simp only [hki, hji, if_false] at he
            exact q k j (ina k hk hki) (ina j hj hji) he
end Go.Proofs.Ytgpgifpblchjjaa
/- All guards move, for ever: plain facts. Conditions: those of each theorem. -/
namespace Go.Proofs.Ytgpgifpblchjjaa
set_option linter.unusedVariables false
set_option linter.unusedSimpArgs false

/-- The guards of one set can be at the places of another one, each staying or moving to a neighbour. -/
def AllMove (net : List Int) (a b : Nat) : Prop := size a = size b ∧ ∃ f : Nat → Nat, (∀ i, a.testBit i = true → b.testBit (f i) = true ∧ (ball net i).testBit (f i) = true) ∧ ∀ i j, a.testBit i = true → a.testBit j = true → f i = f j → i = j
theorem allMove_refl (net : List Int) (a : Nat) : AllMove net a a := ⟨rfl, fun i => i, fun i hi => ⟨hi, sees_self net i⟩, fun i j _ _ he => he⟩
/-- A family of sets that can answer each place by all moving. -/
def ClosedA (net : List Int) (F : Nat → Prop) : Prop := ∀ t, t < 2 ^ net.length → F t → ∀ k, k < net.length → t.testBit k = false → ∃ u, u < 2 ^ net.length ∧ u.testBit k = true ∧ AllMove net t u ∧ F u
def AllEternal (net : List Int) (s : Nat) : Prop := ∃ F, ClosedA net F ∧ F s
/-! ### No more than are apart -/
theorem allMove_union {net : List Int} (h : Ok net) {a b c : Nat} (ha : a < 2 ^ net.length) (hb : b < 2 ^ net.length) (hc : c < 2 ^ net.length) (hac : ∀ j, a.testBit j = true → c.testBit j = false) (hbc : ∀ j, b.testBit j = true → c.testBit j = false) {d : Nat} (hd : d < 2 ^ net.length) (had : ∀ j, b.testBit j = true → d.testBit j = false) (hm : AllMove net a b) (hm2 : AllMove net c d) : AllMove net (a ||| c) (b ||| d) := by
  obtain ⟨hz, f, hf, hi⟩ := hm
  obtain ⟨hz2, g, hg, hj⟩ := hm2
  refine ⟨by rw [size_disj (lt64 h ha) (lt64 h hc) hac, size_disj (lt64 h hb) (lt64 h hd) had]; omega, fun i => if a.testBit i = true then f i else g i, fun i hx => ?_, fun i j hx hy he => ?_⟩
  · cases hai : a.testBit i with
    | true => simp only [hai, if_true]; exact ⟨(or2 _ _ _).2 (.inl (hf i hai).1), (hf i hai).2⟩
    | false =>
      have hci : c.testBit i = true := by
        rcases (or2 _ _ _).1 hx with hh | hh
        · rw [hai] at hh; cases hh
        · exact hh
      simp only [hai, Bool.false_eq_true, if_false]; exact ⟨(or2 _ _ _).2 (.inr (hg i hci).1), (hg i hci).2⟩
  · have inc : ∀ k, (a ||| c).testBit k = true → a.testBit k = false → c.testBit k = true := fun k hk hn => by
      rcases (or2 _ _ _).1 hk with hh | hh
      · rw [hn] at hh; cases hh
      · exact hh
    cases hai : a.testBit i with
    | true =>
      cases haj : a.testBit j with
      | true => simp only [hai, haj, if_true] at he; exact hi i j hai haj he
      | false =>
        simp only [hai, haj, if_true, Bool.false_eq_true, if_false] at he
        have h1 := had _ (hf i hai).1
        rw [he, (hg j (inc j hy haj)).1] at h1; cases h1
    | false =>
      cases haj : a.testBit j with
      | true =>
        simp only [hai, haj, if_true, Bool.false_eq_true, if_false] at he
        have h1 := had _ (hf j haj).1
        rw [← he, (hg i (inc i hx hai)).1] at h1; cases h1
      | false => simp only [hai, haj, Bool.false_eq_true, if_false] at he; exact hj i j (inc i hx hai) (inc j hy haj) he
/-- From largest apart set to largest apart set all can move. -/
theorem allMove_apart {net : List Int} (h : Ok net) {u m a b : Nat} (hu : u < 2 ^ net.length) (hmax : ∀ x, x < 2 ^ net.length → (∀ j, x.testBit j = true → u.testBit j = true) → Apart net x → size x ≤ m)
    (ha : a < 2 ^ net.length) (hau : ∀ j, a.testBit j = true → u.testBit j = true) (hA : Apart net a) (haz : size a = m) (hb : b < 2 ^ net.length) (hbu : ∀ j, b.testBit j = true → u.testBit j = true) (hB : Apart net b) (hbz : size b = m) : AllMove net a b := by
  have h64 := h.pow
  refine ⟨by omega, ?_⟩
  have key : ∀ x, x < 64 → (∀ j, x.testBit j = true → a.testBit j = true) → size x ≤ size (nbs (fun i j => (ball net i).testBit j) x b) := by
    intro x hx hxa
    have hxl : x < 2 ^ net.length := by
      refine Classical.byContradiction fun hge => ?_
      have hle := Nat.ge_of_not_lt hge
      have : ∃ j, net.length ≤ j ∧ x.testBit j = true := by
        obtain ⟨j, hj1, hj2⟩ := Nat.exists_ge_and_testBit_of_ge_two_pow hle
        exact ⟨j, hj1, hj2⟩
      obtain ⟨j, hj1, hj2⟩ := this
      have := in_lt ha (hxa j hj2)
      omega
    have hnl := nbs_lt (fun i j => (ball net i).testBit j) x b
    have hnb := fun j => nbs_testBit (R := fun i j => (ball net i).testBit j) hx (lt64 h hb) j
    have hdl : minus b (nbs (fun i j => (ball net i).testBit j) x b) < 2 ^ net.length := Nat.lt_of_le_of_lt Nat.and_le_left hb
    have hd := fun j => diff_testBit (lt64 h hb) hnl j
    have hdis : ∀ j, (minus b (nbs (fun i j => (ball net i).testBit j) x b)).testBit j = true → x.testBit j = false := fun j hj => not_true fun hc => by
      obtain ⟨h1, h2⟩ := (hd j).1 hj
      rw [(hnb j).2 ⟨h1, j, hc, sees_self net j⟩] at h2; cases h2
    have hcross : ∀ i j, x.testBit i = true → (minus b (nbs (fun i j => (ball net i).testBit j) x b)).testBit j = true → (nb net i).testBit j = false := fun i j hi hj => not_true fun hc => by
      obtain ⟨h1, h2⟩ := (hd j).1 hj
      rw [(hnb j).2 ⟨h1, i, hi, (ball_testBit _ _ _).2 (.inl hc)⟩] at h2; cases h2
    have hU : Apart net (minus b (nbs (fun i j => (ball net i).testBit j) x b) ||| x) := fun i j hi hj => by
      rcases (or2 _ _ _).1 hi with hi | hi <;> rcases (or2 _ _ _).1 hj with hj | hj
      · exact hB i j ((hd i).1 hi).1 ((hd j).1 hj).1
      · rw [h.sym j i (in_lt hxl hj) (in_lt hdl hi)]; exact hcross j i hj hi
      · exact hcross i j hi hj
      · exact hA i j (hxa i hi) (hxa j hj)
    have h1 := hmax _ (Nat.or_lt_two_pow hdl hxl) (fun j hj => by
      rcases (or2 _ _ _).1 hj with hj | hj
      · exact hbu j ((hd j).1 hj).1
      · exact hau j (hxa j hj)) hU
    rw [size_disj (lt64 h hdl) hx hdis] at h1
    have h2 := size_diff (lt64 h hb) hnl (fun j hj => ((hnb j).1 hj).1)
    omega
  obtain ⟨f, p, q⟩ := hall (fun i j => (ball net i).testBit j) 6 a b (lt64 h ha) (lt64 h hb) (size_le a) key
  exact ⟨f, p, q⟩
theorem size_one {k : Nat} (hk : k < 6) : size (2 ^ k) = 1 := by
  have := size_add (s := 0) (k := k) (by omega) hk (Nat.zero_testBit k)
  rw [Nat.zero_or] at this
  rw [this]; decide
/-- Within any set of places: a family with no more guards than are apart in it. -/
theorem family {net : List Int} (h : Ok net) : ∀ c u, size u ≤ c → u < 2 ^ net.length → ∀ m, (∀ x, x < 2 ^ net.length → (∀ j, x.testBit j = true → u.testBit j = true) → Apart net x → size x ≤ m) →
    ∃ F : Nat → Prop, (∃ s, F s) ∧ (∀ t, F t → t < 2 ^ net.length ∧ (∀ j, t.testBit j = true → u.testBit j = true) ∧ size t ≤ m) ∧
      ∀ t, F t → ∀ k, u.testBit k = true → t.testBit k = false → ∃ v, v.testBit k = true ∧ AllMove net t v ∧ F v := by
  have h6 := h.hi
  intro c
  induction c with
  | zero =>
    intro u hc hu m hm
    have hu0 := size_zero (lt64 h hu) (by omega)
    subst hu0
    refine ⟨fun t => t = 0, ⟨0, rfl⟩, fun t ht => ?_, fun t _ k hk => by rw [Nat.zero_testBit] at hk; cases hk⟩
    subst ht
    have : size 0 = 0 := by decide
    exact ⟨hu, fun j hj => hj, by omega⟩
  | succ c ih =>
    intro u hc hu m hm
    -- the most that are apart in u
    have hmx : ∃ M, M ≤ m ∧ (∃ x, x < 2 ^ net.length ∧ (∀ j, x.testBit j = true → u.testBit j = true) ∧ Apart net x ∧ size x = M) ∧ ∀ x, x < 2 ^ net.length → (∀ j, x.testBit j = true → u.testBit j = true) → Apart net x → size x ≤ M := by
      have hex : ∀ d, d ≤ m → (∃ x, x < 2 ^ net.length ∧ (∀ j, x.testBit j = true → u.testBit j = true) ∧ Apart net x ∧ m - d ≤ size x) → ∃ M, M ≤ m ∧ (∃ x, x < 2 ^ net.length ∧ (∀ j, x.testBit j = true → u.testBit j = true) ∧ Apart net x ∧ size x = M) ∧ ∀ x, x < 2 ^ net.length → (∀ j, x.testBit j = true → u.testBit j = true) → Apart net x → size x ≤ M := by
        intro d
        induction d with
        | zero =>
          rintro _ ⟨x, a, b, e, f⟩
          have := hm x a b e
          exact ⟨m, Nat.le_refl _, ⟨x, a, b, e, by omega⟩, hm⟩
        | succ d ihd =>
          rintro hd ⟨x, a, b, e, f⟩
          by_cases hy : ∃ y, y < 2 ^ net.length ∧ (∀ j, y.testBit j = true → u.testBit j = true) ∧ Apart net y ∧ m - d ≤ size y
          · exact ihd (by omega) hy
          · have hno : ∀ y, y < 2 ^ net.length → (∀ j, y.testBit j = true → u.testBit j = true) → Apart net y → size y ≤ m - (d + 1) := fun y p q r => by
              refine Classical.byContradiction fun hlt => hy ⟨y, p, q, r, by omega⟩
            have := hno x a b e
            exact ⟨m - (d + 1), by omega, ⟨x, a, b, e, by omega⟩, hno⟩
      refine hex m (Nat.le_refl _) ⟨0, Nat.two_pow_pos _, fun j hj => (by rw [Nat.zero_testBit] at hj; cases hj), Apart.zero net, by omega⟩
    obtain ⟨M, hMm, ⟨x0, x0l, x0u, x0A, x0z⟩, hM⟩ := hmx
    by_cases hcov : ∀ v, u.testBit v = true → ∃ x, x < 2 ^ net.length ∧ (∀ j, x.testBit j = true → u.testBit j = true) ∧ Apart net x ∧ size x = M ∧ x.testBit v = true
    · -- all largest apart sets
      refine ⟨fun t => t < 2 ^ net.length ∧ (∀ j, t.testBit j = true → u.testBit j = true) ∧ Apart net t ∧ size t = M, ⟨x0, x0l, x0u, x0A, x0z⟩, fun t ⟨a, b, _, d⟩ => ⟨a, b, by omega⟩, fun t ⟨a, b, e, d⟩ k hk hb => ?_⟩
      obtain ⟨y, y1, y2, y3, y4, y5⟩ := hcov k hk
      exact ⟨y, y5, allMove_apart h hu hM a b e d y1 y2 y3 y4, y1, y2, y3, y4⟩
    · -- a place that is in none: it and its neighbours take two
      have : ∃ v, u.testBit v = true ∧ ∀ x, x < 2 ^ net.length → (∀ j, x.testBit j = true → u.testBit j = true) → Apart net x → x.testBit v = true → size x + 1 ≤ M := by
        refine Classical.byContradiction fun hno => hcov fun v hv => Classical.byContradiction fun hno2 => hno ⟨v, hv, fun x p q r s => ?_⟩
        have h1 := hM x p q r
        refine Classical.byContradiction fun hlt => hno2 ⟨x, p, q, r, by omega, s⟩
      obtain ⟨v, hv, hvn⟩ := this
      have hvl := in_lt hu hv
      have hbl := h.ball_lt hvl
      have hul : minus u (ball net v) < 2 ^ net.length := Nat.lt_of_le_of_lt Nat.and_le_left hu
      have hub : ∀ j, (minus u (ball net v)).testBit j = true ↔ u.testBit j = true ∧ (ball net v).testBit j = false := fun j => diff_testBit (lt64 h hu) (lt64 h hbl) j
      -- fewer are apart there
      have hless : ∀ x, x < 2 ^ net.length → (∀ j, x.testBit j = true → (minus u (ball net v)).testBit j = true) → Apart net x → size x + 2 ≤ M := fun x p q r => by
        have hxv : x.testBit v = false := not_true fun hcc => by
          have := ((hub v).1 (q v hcc)).2
          rw [sees_self] at this; cases this
        have hA := r.add h p hvl (fun j hj => not_true fun hcc => by
          have := ((hub j).1 (q j hj)).2
          rw [(ball_testBit _ _ _).2 (.inl hcc)] at this; cases this)
        have h1 := hvn (x ||| 2 ^ v) (or_lt p hvl) (fun j hj => by
          rcases (or_testBit _ _ _).1 hj with hj | rfl
          · exact ((hub j).1 (q j hj)).1
          · exact hv) hA ((or_testBit _ _ _).2 (.inr rfl))
        rw [size_add (lt64 h p) (by omega) hxv] at h1
        omega
      have hM2 : 2 ≤ M := by
        have := hless 0 (Nat.two_pow_pos _) (fun j hj => by rw [Nat.zero_testBit] at hj; cases hj) (Apart.zero net)
        omega
      -- a neighbour in u
      have hnbr : ∃ y, u.testBit y = true ∧ (nb net v).testBit y = true := by
        refine Classical.byContradiction fun hno => ?_
        have hA := x0A.add h x0l hvl (fun j hj => not_true fun hcc => hno ⟨j, x0u j hj, hcc⟩)
        have h1 := hvn (x0 ||| 2 ^ v) (or_lt x0l hvl) (fun j hj => by
          rcases (or_testBit _ _ _).1 hj with hj | rfl
          · exact x0u j hj
          · exact hv) hA ((or_testBit _ _ _).2 (.inr rfl))
        have h2 : size x0 ≤ size (x0 ||| 2 ^ v) := size_mono6 (lt64 h x0l) (lt64 h (or_lt x0l hvl)) fun j hj => (or_testBit _ _ _).2 (.inl hj)
        omega
      obtain ⟨y0, hy0u, hy0⟩ := hnbr
      have hsz : size (minus u (ball net v)) ≤ c := by
        have h1 : size (minus u (ball net v)) + 1 ≤ size u := by
          have hvb : (minus u (ball net v)).testBit v = false := not_true fun hcc => by
            have := ((hub v).1 hcc).2
            rw [sees_self] at this; cases this
          rw [← size_add (lt64 h hul) (k := v) (by omega) hvb]
          refine size_mono6 (lt64 h (or_lt hul hvl)) (lt64 h hu) fun j hj => ?_
          rcases (or_testBit _ _ _).1 hj with hj | rfl
          · exact ((hub j).1 hj).1
          · exact hv
        omega
      obtain ⟨F, ⟨s0, hs0⟩, hF, hcl⟩ := ih (minus u (ball net v)) hsz hul (M - 2) (fun x p q r => by have := hless x p q r; omega)
      -- the pairs of the place and a neighbour
      have pl : ∀ y, y < net.length → 2 ^ v ||| 2 ^ y < 2 ^ net.length := fun y hy => or_lt (Nat.pow_lt_pow_right (by omega) hvl) hy
      have pb : ∀ y j, (2 ^ v ||| 2 ^ y).testBit j = true ↔ j = v ∨ j = y := fun y j => by
        rw [or_testBit, testBit_pow, decide_eq_true_eq]
        exact ⟨fun hh => hh.elim (fun e => .inl e.symm) .inr, fun hh => hh.elim (fun e => .inl e.symm) .inr⟩
      have pz : ∀ y, y < net.length → y ≠ v → size (2 ^ v ||| 2 ^ y) = 2 := fun y hy hne => by
        have hpv : 2 ^ v < 64 := lt64 h (Nat.pow_lt_pow_right (by omega) hvl)
        rw [size_add hpv (by omega) (by rw [testBit_pow]; simp; omega), size_one (by omega)]
      have yne : ∀ y, (nb net v).testBit y = true → y ≠ v := fun y hy he => by rw [he, h.irr v hvl] at hy; cases hy
      have apart2 : ∀ t, F t → ∀ y, (nb net v).testBit y = true → ∀ j, t.testBit j = true → (2 ^ v ||| 2 ^ y).testBit j = false := fun t ht y hy j hj => not_true fun hcc => by
        have h1 := ((hub j).1 ((hF t ht).2.1 j hj)).2
        rcases (pb y j).1 hcc with e | e
        · rw [e, sees_self] at h1; cases h1
        · rw [e, (ball_testBit _ _ _).2 (.inl hy)] at h1; cases h1
      refine ⟨fun q => ∃ t y, F t ∧ u.testBit y = true ∧ (nb net v).testBit y = true ∧ q = t ||| (2 ^ v ||| 2 ^ y), ⟨_, s0, y0, hs0, hy0u, hy0, rfl⟩, ?_, ?_⟩
      · rintro _ ⟨t, y, ht, hyu, hy, rfl⟩
        obtain ⟨t1, t2, t3⟩ := hF t ht
        have hyl := h.nb_lt hvl hy
        refine ⟨Nat.or_lt_two_pow t1 (pl y hyl), fun j hj => ?_, ?_⟩
        · rcases (or2 _ _ _).1 hj with hj | hj
          · exact ((hub j).1 (t2 j hj)).1
          · rcases (pb y j).1 hj with e | e
            · rw [e]; exact hv
            · rw [e]; exact hyu
        · rw [size_disj (lt64 h t1) (lt64 h (pl y hyl)) (apart2 t ht y hy), pz y hyl (yne y hy)]; omega
      · rintro _ ⟨t, y, ht, hyu, hy, rfl⟩ k hk hb
        obtain ⟨t1, t2, t3⟩ := hF t ht
        have hyl := h.nb_lt hvl hy
        have hkl := in_lt hu hk
        cases hkb : (ball net v).testBit k with
        | false =>
          -- the others answer
          have htk : t.testBit k = false := not_true fun hcc => by rw [(or2 _ _ _).2 (.inl hcc)] at hb; cases hb
          obtain ⟨w, w1, w2, w3⟩ := hcl t ht k ((hub k).2 ⟨hk, hkb⟩) htk
          exact ⟨w ||| (2 ^ v ||| 2 ^ y), (or2 _ _ _).2 (.inl w1), allMove_union h t1 (hF w w3).1 (pl y hyl) (apart2 t ht y hy) (apart2 w w3 y hy) (pl y hyl) (apart2 w w3 y hy) w2 (allMove_refl net _), w, y, w3, hyu, hy, rfl⟩
        | true =>
          -- the two of them answer
          have hkv : k ≠ v := fun he => by rw [he, (or2 _ _ _).2 (.inr ((pb y v).2 (.inl rfl)))] at hb; cases hb
          have hky : k ≠ y := fun he => by rw [he, (or2 _ _ _).2 (.inr ((pb y y).2 (.inr rfl)))] at hb; cases hb
          have hkn : (nb net v).testBit k = true := by
            rcases (ball_testBit _ _ _).1 hkb with e | e
            · exact e
            · exact absurd e.symm hkv
          have hmv : AllMove net (2 ^ v ||| 2 ^ y) (2 ^ v ||| 2 ^ k) := by
            refine ⟨by rw [pz y hyl (yne y hy), pz k hkl hkv], fun i => if i = y then v else k, fun i hi => ?_, fun i j hi hj he => ?_⟩
            · by_cases hiy : i = y
              · simp only [hiy, if_true]
                exact ⟨(pb k v).2 (.inl rfl), (ball_testBit _ _ _).2 (.inl (by rw [h.sym v y hvl hyl]; exact hy))⟩
              · simp only [hiy, if_false]
                have hiv : i = v := by
                  rcases (pb y i).1 hi with e | e
                  · exact e
                  · exact absurd e hiy
                rw [hiv]
                exact ⟨(pb k k).2 (.inr rfl), (ball_testBit _ _ _).2 (.inl hkn)⟩
            · by_cases hiy : i = y <;> by_cases hjy : j = y
              · rw [hiy, hjy]
              · simp only [hiy, hjy, if_true, if_false] at he; exact absurd he.symm hkv
              · simp only [hiy, hjy, if_true, if_false] at he; exact absurd he hkv
              · rcases (pb y i).1 hi with e | e
                · rcases (pb y j).1 hj with e2 | e2
                  · rw [e, e2]
                  · exact absurd e2 hjy
                · exact absurd e hiy
          exact ⟨t ||| (2 ^ v ||| 2 ^ k), (or2 _ _ _).2 (.inr ((pb k k).2 (.inr rfl))), allMove_union h t1 t1 (pl y hyl) (apart2 t ht y hy) (apart2 t ht y hy) (pl k hkl) (apart2 t ht k hkn) (allMove_refl net _) hmv, t, k, ht, hk, hkn, rfl⟩
end Go.Proofs.Ytgpgifpblchjjaa
/- Trees of wires: the places with one wire, and the sets that stand together, make all places. Conditions: those of each theorem. -/
namespace Go.Proofs.Ytgpgifpblchjjaa
set_option linter.unusedVariables false
set_option linter.unusedSimpArgs false

/-- A net of some of the wires. -/
structure Sub (net t : List Int) : Prop where
  ok : Ok t
  len : t.length = net.length
  sub : ∀ k j, k < net.length → (nb t k).testBit j = true → (nb net k).testBit j = true
/-- A tree: one part, of as few wires as can be. -/
structure Tree (net t : List Int) : Prop where
  sub : Sub net t
  one : parts t = 1
  wires_ : wires t + 1 = net.length
/-- How many places have one wire alone. -/
def leafs (t : List Int) : Nat := cnt t.length (fun k => size (nb t k) == 1)
/-- The places with more than one wire. -/
def inner (t : List Int) : Nat := orN t.length (fun k => !(size (nb t k) == 1)) (fun k => 2 ^ k)
/-! ### A tree over a joined watch -/
/-- After m steps from r within a set. -/
theorem steps_lvl {net : List Int} (h : Ok net) {s r : Nat} (hs : s < 2 ^ net.length) (hr : s.testBit r = true) (hT : Together net s) : ∃ lv : Nat → Nat, ∃ p : Nat → Nat, lv r = 0 ∧ ∀ v, s.testBit v = true → v ≠ r → s.testBit (p v) = true ∧ (nb net v).testBit (p v) = true ∧ lv (p v) < lv v ∧ lv v ≤ 6 := by
  have hrl := in_lt hs hr
  have h6 := h.hi
  have e0 : 2 ^ r &&& s = 2 ^ r := Nat.eq_of_testBit_eq fun j => by
    rw [Nat.testBit_and, testBit_pow]
    by_cases hxj : r = j
    · rw [← hxj, hr]; simp
    · simp [hxj]
  let L := fun m k => (steps net s m (2 ^ r)).testBit k
  have mono1 : ∀ m k, L m k = true → L (m + 1) k = true := fun m k hk => (grow_testBit _ _ _ _).2 (.inl hk)
  have mono : ∀ m m' k, m ≤ m' → L m k = true → L m' k = true := by
    intro m m' k hm hk
    induction m' with
    | zero => obtain rfl : m = 0 := by omega
              exact hk
    | succ m' ih =>
      by_cases he : m = m' + 1
      · rw [← he]; exact hk
      · exact mono1 m' k (ih (by omega))
  let lv := fun k => cnt 6 (fun m => !L m k)
  have six : ∀ v, s.testBit v = true → L 6 v = true := fun v hv => by
    have hx : (part net s r).testBit v = true := (h.part_testBit hrl v).2 (hT.2 r v hr hv)
    unfold part at hx
    rw [e0] at hx
    exact hx
  have hp : ∀ v, ∃ j, s.testBit v = true → v ≠ r → s.testBit j = true ∧ (nb net v).testBit j = true ∧ lv j < lv v := fun v => by
    by_cases hv : s.testBit v = true ∧ v ≠ r
    · have h0 : L 0 v = false := by
        show (2 ^ r).testBit v = false
        rw [testBit_pow]; simp; exact fun he => hv.2 he.symm
      have hex : ∀ m, m ≤ 6 → L m v = true → ∃ q, q < m ∧ L q v = false ∧ L (q + 1) v = true := by
        intro m
        induction m with
        | zero => intro _ hb; rw [h0] at hb; cases hb
        | succ m ih =>
          intro hm hb
          cases hc : L m v with
          | false => exact ⟨m, by omega, hc, hb⟩
          | true => obtain ⟨q, a, b⟩ := ih (by omega) hc; exact ⟨q, by omega, b⟩
      obtain ⟨q, hq, hqf, hqt⟩ := hex 6 (Nat.le_refl _) (six v hv.1)
      rcases (grow_testBit _ _ _ _).1 hqt with c1 | ⟨⟨j, hj, c1, c2⟩, _⟩
      · have : L q v = true := c1
        rw [hqf] at this; cases this
      · have hjs : s.testBit j = true := by
          have := steps_reach (net := net) (A := s) (i := r) q (j := j) (by rw [e0]; exact c1)
          exact this.among.2
        have hvl := in_lt hs hv.1
        refine ⟨j, fun _ _ => ⟨hjs, by rw [h.sym j v hj hvl]; exact c2, ?_⟩⟩
        have hjl : L q j = true := c1
        have h1 : lv j ≤ q := by
          have := cnt_mono (n := 6) (p := fun m => !L m j) (q := fun i => decide (i < q)) (fun m hm hp => by
            have hp' : L m j = false := by simpa using hp
            rw [decide_eq_true_eq]
            refine Classical.byContradiction fun hc => ?_
            rw [mono q m j (by omega) hjl] at hp'; cases hp')
          rw [cnt_below 6 q (by omega)] at this
          exact this
        have h2 : q + 1 ≤ lv v := by
          have := cnt_mono (n := 6) (p := fun i => decide (i < q + 1)) (q := fun m => !L m v) (fun m hm hp => by
            have hp' : m < q + 1 := by simpa using hp
            cases hx : L m v with
            | false => rfl
            | true => rw [mono m q v (by omega) hx] at hqf; cases hqf)
          rw [cnt_below 6 (q + 1) (by omega)] at this
          exact this
        omega
    · exact ⟨0, fun a b => absurd ⟨a, b⟩ hv⟩
  refine ⟨lv, fun v => Classical.choose (hp v), ?_, fun v hv hne => ?_⟩
  · show cnt 6 (fun m => !L m r) = 0
    have : cnt 6 (fun m => !L m r) = cnt 6 (fun _ => false) := cnt_congr fun m _ => by
      have : L m r = true := mono 0 m r (by omega) (by show (2 ^ r).testBit r = true; rw [testBit_pow]; simp)
      rw [this]; rfl
    rw [this]; rfl
  · obtain ⟨a, b, c⟩ := Classical.choose_spec (hp v) hv hne
    exact ⟨a, b, c, cnt_le _ _⟩
/-- The net of the wires from each place but r to its parent. -/
def treeOf (n r : Nat) (p : Nat → Nat) : List Int := (List.range n).map fun k => ((orN n (fun j => (!(k == r) && (p k == j)) || (!(j == r) && (p j == k))) (fun j => 2 ^ j) : Nat) : Int)
end Go.Proofs.Ytgpgifpblchjjaa
/- All guards move over a joined watch: one more guard than stand together. Conditions: those of each theorem. -/
namespace Go.Proofs.Ytgpgifpblchjjaa
set_option linter.unusedVariables false
set_option linter.unusedSimpArgs false

/-- The way from a towards r by parents. -/
def wayTo (p : Nat → Nat) (r a : Nat) : Nat → Nat
  | 0 => a
  | i + 1 => if wayTo p r a i = r then r else p (wayTo p r a i)
theorem shift {net : List Int} (h : Ok net) {s : Nat} (hs : s < 2 ^ net.length) (hT : Together net s) {v w a b : Nat} (hv : v < net.length) (hvs : s.testBit v = false) (hw : w < net.length) (hws : s.testBit w = false)
    (ha : s.testBit a = true) (hva : (nb net v).testBit a = true) (hb : s.testBit b = true) (hbw : (nb net b).testBit w = true) : AllMove net (s ||| 2 ^ v) (s ||| 2 ^ w) := by
  have h6 := h.hi
  obtain ⟨lv, p, hl0, hp⟩ := steps_lvl h hs hb hT
  let q := wayTo p b a
  have q0 : q 0 = a := rfl
  have qs : ∀ i, q (i + 1) = if q i = b then b else p (q i) := fun i => rfl
  have qin : ∀ i, s.testBit (q i) = true := by
    intro i
    induction i with
    | zero => exact ha
    | succ i ih =>
      rw [qs]
      split
      · exact hb
      · rename_i hne; exact (hp _ ih hne).1
  have qlv : ∀ i, lv (q (i + 1)) ≤ lv (q i) := fun i => by
    rw [qs]
    split
    · rw [hl0]; exact Nat.zero_le _
    · rename_i hne; exact Nat.le_of_lt (hp _ (qin i) hne).2.2.1
  have qmono : ∀ i j, i ≤ j → lv (q j) ≤ lv (q i) := by
    intro i j hij
    induction j with
    | zero => obtain rfl : i = 0 := by omega
              exact Nat.le_refl _
    | succ j ih =>
      by_cases he : i = j + 1
      · rw [he]; exact Nat.le_refl _
      · exact Nat.le_trans (qlv j) (ih (by omega))
  have hvb : ∀ x, (s ||| 2 ^ v).testBit x = true ↔ s.testBit x = true ∨ x = v := fun x => or_testBit _ _ _
  have hwb : ∀ x, (s ||| 2 ^ w).testBit x = true ↔ s.testBit x = true ∨ x = w := fun x => or_testBit _ _ _
  -- on the way or not
  let f : Nat → Nat := fun x => if x = v then a else @ite _ (∃ i, q i = x) (Classical.propDecidable _) (if x = b then w else p x) x
  have f1 : ∀ x, x = v → f x = a := fun x hx => by show (if x = v then _ else _) = _; rw [if_pos hx]
  have f2 : ∀ x, x ≠ v → (∃ i, q i = x) → x = b → f x = w := fun x hx hi he => by show (if x = v then _ else _) = _; rw [if_neg hx, if_pos hi, if_pos he]
  have f3 : ∀ x, x ≠ v → (∃ i, q i = x) → x ≠ b → f x = p x := fun x hx hi he => by show (if x = v then _ else _) = _; rw [if_neg hx, if_pos hi, if_neg he]
  have f4 : ∀ x, x ≠ v → (¬ ∃ i, q i = x) → f x = x := fun x hx hi => by show (if x = v then _ else _) = _; rw [if_neg hx, if_neg hi]
  have sv : ∀ x, s.testBit x = true → x ≠ v := fun x hx he => by rw [he, hvs] at hx; cases hx
  have sw : ∀ x, s.testBit x = true → x ≠ w := fun x hx he => by rw [he, hws] at hx; cases hx
  have pway : ∀ x, (∃ i, q i = x) → x ≠ b → ∃ i, q i = p x := fun x ⟨i, hi⟩ hne => ⟨i + 1, by rw [qs, hi, if_neg hne]⟩
  refine ⟨?_, f, fun x hx => ?_, fun x y hx hy he => ?_⟩
  · rw [size_add (lt64 h hs) (by omega) hvs, size_add (lt64 h hs) (by omega) hws]
  · rcases (hvb x).1 hx with hx | hx
    · by_cases hi : ∃ i, q i = x
      · by_cases hxb : x = b
        · rw [f2 x (sv x hx) hi hxb, hxb]
          exact ⟨(hwb w).2 (.inr rfl), (ball_testBit _ _ _).2 (.inl hbw)⟩
        · rw [f3 x (sv x hx) hi hxb]
          obtain ⟨c, d, _⟩ := hp x hx hxb
          exact ⟨(hwb _).2 (.inl c), (ball_testBit _ _ _).2 (.inl d)⟩
      · rw [f4 x (sv x hx) hi]
        exact ⟨(hwb x).2 (.inl hx), sees_self net x⟩
    · rw [f1 x hx, hx]
      exact ⟨(hwb a).2 (.inl ha), (ball_testBit _ _ _).2 (.inl hva)⟩
  · -- no two go to one place
    have key : ∀ x y, s.testBit x = true → s.testBit y = true → f x = f y → x = y := by
      intro x y hx hy he
      by_cases hi : ∃ i, q i = x
      · by_cases hxb : x = b
        · rw [f2 x (sv x hx) hi hxb] at he
          by_cases hj : ∃ i, q i = y
          · by_cases hyb : y = b
            · rw [hxb, hyb]
            · rw [f3 y (sv y hy) hj hyb] at he
              exact absurd he.symm (sw _ (hp y hy hyb).1)
          · rw [f4 y (sv y hy) hj] at he
            exact absurd he.symm (sw _ hy)
        · rw [f3 x (sv x hx) hi hxb] at he
          by_cases hj : ∃ i, q i = y
          · by_cases hyb : y = b
            · rw [f2 y (sv y hy) hj hyb] at he
              exact absurd he (sw _ (hp x hx hxb).1)
            · rw [f3 y (sv y hy) hj hyb] at he
              obtain ⟨i, hi⟩ := hi
              obtain ⟨j, hj⟩ := hj
              have e1 : q (i + 1) = p x := by rw [qs, hi, if_neg hxb]
              have e2 : q (j + 1) = p y := by rw [qs, hj, if_neg hyb]
              have l1 := (hp x hx hxb).2.2.1
              have l2 := (hp y hy hyb).2.2.1
              rcases Nat.lt_trichotomy i j with hlt | heq | hgt
              · have := qmono (i + 1) j (by omega)
                rw [e1, hj, he] at this; omega
              · rw [← hi, ← hj, heq]
              · have := qmono (j + 1) i (by omega)
                rw [e2, hi, ← he] at this; omega
          · rw [f4 y (sv y hy) hj] at he
            exact absurd (he ▸ pway x hi hxb) hj
      · rw [f4 x (sv x hx) hi] at he
        by_cases hj : ∃ i, q i = y
        · by_cases hyb : y = b
          · rw [f2 y (sv y hy) hj hyb] at he
            exact absurd he (sw _ hx)
          · rw [f3 y (sv y hy) hj hyb] at he
            exact absurd (he ▸ pway y hj hyb) hi
        · rw [f4 y (sv y hy) hj] at he; exact he
    have keyv : ∀ y, s.testBit y = true → f y ≠ a := by
      intro y hy he
      by_cases hj : ∃ i, q i = y
      · by_cases hyb : y = b
        · rw [f2 y (sv y hy) hj hyb] at he
          exact sw a ha he.symm
        · rw [f3 y (sv y hy) hj hyb] at he
          obtain ⟨j, hj⟩ := hj
          have l2 := (hp y hy hyb).2.2.1
          have := qmono 0 j (Nat.zero_le _)
          rw [q0, hj] at this
          rw [he] at l2
          omega
      · rw [f4 y (sv y hy) hj] at he
        exact hj ⟨0, by rw [q0, he]⟩
    rcases (hvb x).1 hx with hx | hx <;> rcases (hvb y).1 hy with hy | hy
    · exact key x y hx hy he
    · rw [f1 y hy] at he; exact absurd he (keyv x hx)
    · rw [f1 x hx] at he; exact absurd he.symm (keyv y hy)
    · rw [hx, hy]
end Go.Proofs.Ytgpgifpblchjjaa
/- Lists of watches, counts of watches, thinned watches. Conditions: those of each theorem. -/
namespace Go.Proofs.Ytgpgifpblchjjaa
open D Go.RowKit
set_option linter.unusedVariables false
set_option linter.unusedSimpArgs false


theorem small_of {n : Nat} (h : n ≤ 1000000) : small n = true := by unfold small; rw [decide_eq_true_eq]; omega
/-- All numbers below N of a kind. -/
def listOfN (N : Nat) (p : Nat → Bool) : List Int := fold N (fun l s => if p s = true then l ++ [(s : Int)] else l) []
theorem listOfN_len (N : Nat) (p : Nat → Bool) : (listOfN N p).length ≤ N := by
  unfold listOfN
  induction N with
  | zero => exact Nat.le_refl _
  | succ N ih =>
    rw [fold_succ]
    split
    · rw [List.length_append]; simp only [List.length_singleton]; omega
    · omega
/-- How many watches there are of each number of places. -/
def counts (net : List Int) : List Int := fold (2 ^ net.length) (fun l s => if W net s = true then l.set (size s) (D.eli l (size s) + 1) else l) (List.replicate (net.length + 1) 0)
theorem eli_set {l : List Int} {a b : Nat} {v : Int} (ha : a < l.length) : D.eli (l.set a v) b = if a = b then v else D.eli l b := by
  unfold D.eli
  by_cases h : a = b
  · subst h; simp [List.getD, ha]
  · simp [List.getD, List.getElem?_set_ne h, h]
theorem eli_rep (n k : Nat) : D.eli (List.replicate n 0) k = 0 := by
  unfold D.eli
  by_cases h : k < n <;> simp [List.getD, h]
/-- The bounds of the counts on the way. -/
def CInv (net : List Int) (k : Nat) (t : List Int) : Prop := t.length = net.length + 1 ∧ ∀ j, 0 ≤ D.eli t j ∧ D.eli t j ≤ k
theorem CInv.step {net : List Int} (h : Ok net) {k : Nat} {t : List Int} (hk : k < 2 ^ net.length) (ht : CInv net k t) : CInv net (k + 1) (if W net k = true then t.set (size k) (D.eli t (size k) + 1) else t) := by
  have hz := size_le_len h hk
  split
  · refine ⟨by rw [List.length_set]; exact ht.1, fun j => ?_⟩
    rw [eli_set (by rw [ht.1]; omega)]
    have h1 := ht.2 j
    have h2 := ht.2 (size k)
    split <;> omega
  · exact ⟨ht.1, fun j => by have := ht.2 j; omega⟩
theorem CInv.zero (net : List Int) : CInv net 0 (List.replicate (net.length + 1) 0) := ⟨by simp, fun j => by rw [eli_rep]; omega⟩
/-- What is left of a watch. -/
def thinStep (net : List Int) (t p : Nat) : Nat := if (t.testBit p && W net (t - 2 ^ p)) = true then t - 2 ^ p else t
def thin (net : List Int) (s : Nat) : Nat := fold net.length (fun t k => thinStep net t (net.length - 1 - k)) s
end Go.Proofs.Ytgpgifpblchjjaa
/- What the exact laws need of rows that are marked. Conditions: those of each theorem. -/
namespace Go.Proofs.Ytgpgifpblchjjaa
open D Go.RowKit
set_option linter.unusedVariables false
set_option linter.unusedSimpArgs false


end Go.Proofs.Ytgpgifpblchjjaa
/- The exact laws of chapter 2. Conditions: those of each theorem. -/
namespace Go.Proofs.Ytgpgifpblchjjaa
open D Go.RowKit
set_option linter.unusedVariables false
set_option linter.unusedSimpArgs false


end Go.Proofs.Ytgpgifpblchjjaa
/- The model's functions of chapters 3 to 5 in natural numbers. Conditions: those of each theorem. -/
namespace Go.Proofs.Ytgpgifpblchjjaa
open D Go.RowKit
set_option linter.unusedVariables false
set_option linter.unusedSimpArgs false


theorem minus_pow {s k : Nat} (hs : s < 64) (hk : k < 6) (hb : s.testBit k = true) : minus s (2 ^ k) = s - 2 ^ k := by rw [bits_minus s hs k hk, if_pos hb]
/-- The answers that are told for any argument. -/
def privI (net : List Int) (s g : Int) : Int := if (0 ≤ s ∧ s < 2 ^ net.length) ∧ (0 ≤ g ∧ g < net.length) ∧ s.toNat.testBit g.toNat = true then ((priv net s.toNat g.toNat : Nat) : Int) else -1
def twiceI (net : List Int) (s : Int) : Int := if 0 ≤ s ∧ s < 2 ^ net.length then ((twice net s.toNat : Nat) : Int) else -1
def grownI (net : List Int) (s : Int) : Int := if (0 ≤ s ∧ s < 2 ^ net.length) ∧ apart net s.toNat = true then ((grown net s.toNat : Nat) : Int) else -1
theorem dec_true {p : Prop} [Decidable p] (h : decide p = true) : p := of_decide_eq_true h
theorem dec_false {p : Prop} [Decidable p] (h : decide p = false) : ¬ p := of_decide_eq_false h
/-- All places below n pass a test, by a search for one that doesn't. -/
theorem find_test {n : Nat} {p : Nat → Bool} : find n (fun k => if p k = true then some false else none) = if ((List.range n).all fun k => !p k) = true then none else some false := by
  cases hall : (List.range n).all fun k => !p k with
  | true =>
    rw [if_pos rfl, find_none]
    intro j hj
    rw [List.all_eq_true] at hall
    have := hall j (List.mem_range.2 hj)
    rw [Bool.not_eq_true'] at this
    rw [this]; rfl
  | false =>
    rw [if_neg (by simp)]
    rw [List.all_eq_false] at hall
    obtain ⟨k, hk, hb⟩ := hall
    rw [Bool.not_eq_true', Bool.not_eq_false] at hb
    cases hf : find n (fun k => if p k = true then some false else none) with
    | none =>
      have := find_none.1 hf k (List.mem_range.1 hk)
      rw [hb] at this; cases this
    | some b =>
      obtain ⟨j, hj, he⟩ := find_some_ex hf
      split at he
      · cases he; rfl
      · cases he

def chain (net : List Int) : List Int := [((minSize net (fullN net) : Nat) : Int), ((fewest net : Nat) : Int), ((minSize net (fullA net) : Nat) : Int), ((maxSize net (apart net) : Nat) : Int), ((maxSize net (least net) : Nat) : Int), ((maxSize net (needs net) : Nat) : Int)]
end Go.Proofs.Ytgpgifpblchjjaa
/- What the draws give: nets of at most six places, sets and places within bounds. Conditions: those of each theorem. -/
namespace Go.Proofs.Ytgpgifpblchjjaa
open D Go.RowKit
set_option linter.unusedVariables false
set_option linter.unusedSimpArgs false


theorem I.NetOk_12 : I.NetOk_t [2, 1] = some true := by rw [I.NetOk_is]; decide +kernel
theorem I.NetOk_1 : I.NetOk_t [1] = some false := by rw [I.NetOk_is]; decide +kernel
theorem L.alive_is : L.alive_t = some true := by
  unfold L.alive_t L.alive_tree
  rw [I.NetOk_12, I.NetOk_1]
  rfl
/-! ### The draws of the laws -/
end Go.Proofs.Ytgpgifpblchjjaa
/- Draws that use watches; lists of all numbers of a kind. Conditions: those of each theorem. -/
namespace Go.Proofs.Ytgpgifpblchjjaa
open D Go.RowKit
set_option linter.unusedVariables false
set_option linter.unusedSimpArgs false


theorem listOfN_succ (N : Nat) (p : Nat → Bool) : listOfN (N + 1) p = if p N = true then listOfN N p ++ [(N : Int)] else listOfN N p := by unfold listOfN; rw [fold_succ]
theorem listOfN_mem (N : Nat) (p : Nat → Bool) (x : Int) : x ∈ listOfN N p ↔ ∃ s : Nat, s < N ∧ p s = true ∧ x = s := by
  induction N with
  | zero => simp [listOfN, fold_zero]
  | succ N ih =>
    rw [listOfN_succ]
    split
    · rename_i hp
      rw [List.mem_append, ih, List.mem_singleton]
      constructor
      · rintro (⟨s, a, b, c⟩ | rfl)
        · exact ⟨s, by omega, b, c⟩
        · exact ⟨N, by omega, hp, rfl⟩
      · rintro ⟨s, a, b, c⟩
        by_cases hs : s = N
        · subst hs; exact .inr c
        · exact .inl ⟨s, by omega, b, c⟩
    · rename_i hp
      rw [ih]
      constructor
      · rintro ⟨s, a, b, c⟩; exact ⟨s, by omega, b, c⟩
      · rintro ⟨s, a, b, c⟩
        by_cases hs : s = N
        · subst hs; exact absurd b hp
        · exact ⟨s, by omega, b, c⟩
theorem eli_mem {l : List Int} {k : Nat} (hk : k < l.length) : D.eli l k ∈ l := by
  unfold D.eli
  simp [List.getD, hk]
theorem mem_eli {l : List Int} {x : Int} (h : x ∈ l) : ∃ k, k < l.length ∧ D.eli l k = x := by
  obtain ⟨k, hk, he⟩ := List.getElem_of_mem h
  exact ⟨k, hk, by unfold D.eli; simp [List.getD, hk, he]⟩
theorem listOfN_eli {N : Nat} {p : Nat → Bool} {k : Nat} (hk : k < (listOfN N p).length) : ∃ s : Nat, s < N ∧ p s = true ∧ D.eli (listOfN N p) k = s := (listOfN_mem N p _).1 (eli_mem hk)
theorem eli_append {l r : List Int} {k : Nat} : D.eli (l ++ r) k = if k < l.length then D.eli l k else D.eli r (k - l.length) := by
  unfold D.eli
  by_cases h : k < l.length
  · simp [List.getD, List.getElem?_append_left h, h]
  · simp [List.getD, List.getElem?_append_right (by omega : l.length ≤ k), h]
theorem listOfN_asc {N : Nat} {p : Nat → Bool} {j k : Nat} (hjk : j < k) (hk : k < (listOfN N p).length) : D.eli (listOfN N p) j < D.eli (listOfN N p) k := by
  induction N with
  | zero => simp [listOfN, fold_zero] at hk
  | succ N ih =>
    rw [listOfN_succ] at hk ⊢
    split at hk
    · rename_i hp
      rw [if_pos hp, eli_append, eli_append]
      rw [List.length_append, List.length_singleton] at hk
      by_cases hkl : k < (listOfN N p).length
      · rw [if_pos hkl, if_pos (by omega)]; exact ih hkl
      · rw [if_neg hkl, if_pos (by omega)]
        obtain ⟨s, hs, _, he⟩ := listOfN_eli (N := N) (p := p) (k := j) (by omega)
        rw [he, show k - (listOfN N p).length = 0 by omega]
        show (s : Int) < (N : Int)
        omega
    · rename_i hp
      rw [if_neg hp]; exact ih hk
end Go.Proofs.Ytgpgifpblchjjaa
/- Draws of chapters 3 to 5. Conditions: those of each theorem. -/
namespace Go.Proofs.Ytgpgifpblchjjaa
open D Go.RowKit
set_option linter.unusedVariables false
set_option linter.unusedSimpArgs false


end Go.Proofs.Ytgpgifpblchjjaa
/- The model's functions of chapter 6 in natural numbers, and draws. Conditions: those of each theorem. -/
namespace Go.Proofs.Ytgpgifpblchjjaa
open D Go.RowKit
set_option linter.unusedVariables false
set_option linter.unusedSimpArgs false


/-- The least size of sets of a kind; -1 if there is none. -/
def minStep (p : Nat → Bool) (t : Int) (s : Nat) : Int := if p s = true then (if t < 0 then ((size s : Nat) : Int) else if ((size s : Nat) : Int) < t then ((size s : Nat) : Int) else t) else t
def minI (net : List Int) (p : Nat → Bool) : Int := fold (2 ^ net.length) (minStep p) (-1)
/-- Does a set stand together? -/
noncomputable def together (net : List Int) (s : Nat) : Bool := @decide (Together net s) (Classical.propDecidable _)
noncomputable def joined (net : List Int) (s : Nat) : Bool := together net s && W net s
end Go.Proofs.Ytgpgifpblchjjaa
/- The model's functions of chapter 7 in natural numbers. Conditions: those of each theorem. -/
namespace Go.Proofs.Ytgpgifpblchjjaa
open D Go.RowKit
set_option linter.unusedVariables false
set_option linter.unusedSimpArgs false


/-- The number at a place of a row. -/
def rv (row : List Int) (k : Nat) : Nat := (D.eli row k).toNat
def rowB (n : Nat) (row : List Int) : Bool := decide (row.length = n) && (List.range row.length).all fun k => decide (0 ≤ D.eli row k ∧ D.eli row k ≤ 2)
structure RowIs (n : Nat) (row : List Int) : Prop where
  len : row.length = n
  eq : ∀ k, k < n → D.eli row k = (rv row k : Int)
  le : ∀ k, k < n → rv row k ≤ 2
def romanB (net row : List Int) : Bool := (List.range net.length).all fun k => !(rv row k == 0 && (nb net k &&& withN net.length (rv row) 2) == 0)
def italianB (net row : List Int) : Bool := (List.range net.length).all fun k => !(rv row k == 0 && decide (help net (rv row) k < 2))
/-- The row of the digits of a number. -/
def digs (n m : Nat) : List Int := (List.range n).map fun k => ((dig n m k : Nat) : Int)
/-- The first least row of a kind, and the least sum. -/
def rowStep (n : Nat) (p : List Int → Bool) (best : List Int) (m : Nat) : List Int := if p (digs n m) = true ∧ (best.length = 0 ∨ sumN n (rv (digs n m)) < sumN n (rv best)) then digs n m else best
def bestRow (n : Nat) (p : List Int → Bool) : List Int := fold (3 ^ n) (rowStep n p) []
theorem roman_congr {net : List Int} {r q : Nat → Nat} (h : ∀ k, k < net.length → r k = q k) (hr : RomanP net r) : RomanP net q := fun k hk h0 => by
  obtain ⟨j, hj, a, b⟩ := hr k hk (by rw [h k hk]; exact h0)
  exact ⟨j, hj, a, by rw [← h j hj]; exact b⟩
/-- The least Roman row. -/
structure FirstRoman (net : List Int) (b : Nat) : Prop where
  lt : b < 3 ^ net.length
  roman : RomanP net (dig net.length b)
  le : ∀ m, m < 3 ^ net.length → RomanP net (dig net.length m) → sumN net.length (dig net.length b) ≤ sumN net.length (dig net.length m)
  first : ∀ m, m < b → RomanP net (dig net.length m) → sumN net.length (dig net.length b) < sumN net.length (dig net.length m)
theorem FirstRoman.uniq {net : List Int} {a b : Nat} (ha : FirstRoman net a) (hb : FirstRoman net b) : a = b := by
  have h1 := ha.le b hb.lt hb.roman
  have h2 := hb.le a ha.lt ha.roman
  rcases Nat.lt_trichotomy a b with hl | hl | hl
  · have := hb.first a hl ha.roman; omega
  · exact hl
  · have := ha.first b hl hb.roman; omega
theorem FirstRoman.min {net : List Int} {b : Nat} (hb : FirstRoman net b) : MinRow net.length (RomanP net) (sumN net.length (dig net.length b)) := by
  refine ⟨⟨dig net.length b, fun k _ => dig_lt _ _ _, hb.roman, rfl⟩, fun r hr hR => ?_⟩
  obtain ⟨m, hm, hd⟩ := dig_all hr
  have h1 := hb.le m hm (roman_congr (fun k hk => (hd k hk).symm) hR)
  rw [sumN_congr (f := dig net.length m) hd] at h1
  exact h1
def fewestRoman (net : List Int) : Nat := sumN net.length (rv (bestRow net.length (romanB net)))
def fewestItalian (net : List Int) : Nat := fold (3 ^ net.length) (fun t m => if italianB net (digs net.length m) = true then (if sumN net.length (rv (digs net.length m)) < t then sumN net.length (rv (digs net.length m)) else t) else t) net.length
/-- The row of a set. -/
def rowOf (net : List Int) (s : Nat) : List Int := fold net.length (fun l k => l ++ [((rowOfN net s k : Nat) : Int)]) []
def rowOfI (net : List Int) (s : Int) : List Int := if 0 ≤ s ∧ s < 2 ^ net.length then rowOf net s.toNat else []
end Go.Proofs.Ytgpgifpblchjjaa
/- The model's functions of chapter 8 in natural numbers. Conditions: those of each theorem. -/
namespace Go.Proofs.Ytgpgifpblchjjaa
open D Go.RowKit
set_option linter.unusedVariables false
set_option linter.unusedSimpArgs false


theorem S.l8Moved_n {s f t : Nat} (hs : s < 64) (hf : f < 6) (ht : t < 6) (hb : s.testBit f = true) : S.l8Moved_t (s : Int) (f : Int) (t : Int) = some ((moved s f t : Nat) : Int) := by
  unfold S.l8Moved_t S.l8Moved_tree
  have h1 : 2 ^ f < 2 ^ 6 := Nat.pow_lt_pow_right (by omega) hf
  have h2 : 2 ^ t < 2 ^ 6 := Nat.pow_lt_pow_right (by omega) ht
  rw [cnd_f (by simp), cnd_f (by simp), one_shl (by omega), one_shl (by omega), i64_andNot_nat _ _ (by omega) (by omega), minus_pow hs hf hb, i64_or_nat _ _ (Nat.lt_of_le_of_lt (Nat.sub_le _ _) (by omega)) (by omega)]
  rfl
/-- Can a guard come? -/
def canB (net : List Int) (s t : Nat) : Bool := (List.range net.length).any fun f => s.testBit f && ((nb net t).testBit f && W net (moved s f t))
def secureB (net : List Int) (s : Nat) : Bool := W net s && (List.range net.length).all fun k => !(!s.testBit k && !canB net s k)
def fewestSecure (net : List Int) : Nat := minSize net (secureB net)
def leaveB (net : List Int) (r : Nat → Nat) (p : Nat) : Bool := (List.range net.length).any fun f => decide (1 ≤ r f) && ((nb net p).testBit f && W net (withN net.length (leave r f p) 1))
def weakB (net row : List Int) : Bool := (List.range net.length).all fun k => !(rv row k == 0 && !leaveB net (rv row) k)
def fewestWeak (net : List Int) : Nat := fold (3 ^ net.length) (fun t m => if weakB net (digs net.length m) = true then (if sumN net.length (rv (digs net.length m)) < t then sumN net.length (rv (digs net.length m)) else t) else t) net.length
end Go.Proofs.Ytgpgifpblchjjaa
/- Plain facts about the program's own ways of chapters 6 to 9: least numbers from -1 on, the first row of the fewest guards, the least place of a set. Conditions: those of each theorem. -/
namespace Go.Proofs.Ytgpgifpblchjjaa
open D Go.RowKit
set_option linter.unusedVariables false
set_option linter.unusedSimpArgs false

/-- The least number of a kind; -1 if there is none. -/
def minStepV (p : Nat → Bool) (v : Nat → Nat) (t : Int) (s : Nat) : Int := if p s = true then (if t < 0 then ((v s : Nat) : Int) else if ((v s : Nat) : Int) < t then ((v s : Nat) : Int) else t) else t
def lessStep (n : Nat) (p : List Int → Bool) (best : List Int) (m : Nat) : List Int := if sumN n (rv (digs n m)) < sumN n (rv best) ∧ p (digs n m) = true then digs n m else best
end Go.Proofs.Ytgpgifpblchjjaa
/- Other ways to the sets and numbers of chapters 3 to 5. Conditions: those of each theorem. -/
namespace Go.Proofs.Ytgpgifpblchjjaa
set_option linter.unusedVariables false
set_option linter.unusedSimpArgs false

def minStepN (p : Nat → Bool) (t s : Nat) : Nat := if p s = true then (if size s < t then size s else t) else t
def maxStepN (p : Nat → Bool) (t s : Nat) : Nat := if p s = true then (if size s > t then size s else t) else t
end Go.Proofs.Ytgpgifpblchjjaa
/- The program's functions of chapters 3 and 4 in natural numbers. Conditions: those of each theorem. -/
namespace Go.Proofs.Ytgpgifpblchjjaa
open D Go.RowKit
set_option linter.unusedVariables false
set_option linter.unusedSimpArgs false


theorem I.with_n {s k : Nat} (hs : s < 64) (hk : k < 6) : I.with_t s k = some ((s ||| 2 ^ k : Nat) : Int) := by
  unfold I.with_t I.with_tree
  rw [cnd_f (by simp), one_shl (by omega), i64_or_nat _ _ (by omega) (pow2_lt (by omega))]
end Go.Proofs.Ytgpgifpblchjjaa
/- The program's functions of chapter 6 but MostLeaves, in natural numbers. Conditions: those of each theorem. -/
namespace Go.Proofs.Ytgpgifpblchjjaa
open D Go.RowKit
set_option linter.unusedVariables false
set_option linter.unusedSimpArgs false


end Go.Proofs.Ytgpgifpblchjjaa
/- The program's functions of chapter 7 in natural numbers. Conditions: those of each theorem. -/
namespace Go.Proofs.Ytgpgifpblchjjaa
open D Go.RowKit
set_option linter.unusedVariables false
set_option linter.unusedSimpArgs false


/-- The places that have just so many. -/
def eqN (n : Nat) (r : Nat → Nat) (m : Nat) : Nat := orN n (fun k => decide (r k = m)) (fun k => 2 ^ k)
end Go.Proofs.Ytgpgifpblchjjaa
/- GuardMoved in natural numbers. Conditions: those of each theorem. -/
namespace Go.Proofs.Ytgpgifpblchjjaa
open D Go.RowKit
set_option linter.unusedVariables false
set_option linter.unusedSimpArgs false


def mayMove (net : List Int) (s f t : Nat) : Bool := s.testBit f && (!s.testBit t && (nb net f).testBit t)
def movedI (net : List Int) (s f t : Int) : Int := if (0 ≤ s ∧ s < 2 ^ net.length) ∧ (0 ≤ f ∧ f < net.length) ∧ (0 ≤ t ∧ t < net.length) ∧ mayMove net s.toNat f.toNat t.toNat = true then ((moved s.toNat f.toNat t.toNat : Nat) : Int) else -1
end Go.Proofs.Ytgpgifpblchjjaa
/- The program's functions of chapter 8 in natural numbers. Conditions: those of each theorem. -/
namespace Go.Proofs.Ytgpgifpblchjjaa
open D Go.RowKit
set_option linter.unusedVariables false
set_option linter.unusedSimpArgs false


theorem I.moveIn_n {net : List Int} (h : Ok net) {s f t : Nat} (hf : f < net.length) (ht : t < net.length) : I.moveIn_t net (s : Int) (f : Int) (t : Int) = some (mayMove net s f t) := by
  unfold I.moveIn_t I.moveIn_tree
  have h6 := h.hi
  rw [I.hasPlace_n _ _ (by omega)]
  simp only [optC]
  unfold mayMove
  cases hb : s.testBit f with
  | false => rfl
  | true =>
    rw [cond_true, I.hasPlace_n _ _ (by omega)]
    simp only
    cases hb2 : s.testBit t with
    | true => rfl
    | false =>
      rw [Bool.not_false, cond_true, cnd_t (by simp; omega), show D.eli net (f : Int).toNat = (nb net f : Int) by rw [Int.toNat_natCast]; exact h.eli hf, I.hasPlace_n _ _ (by omega)]
      rfl
theorem I.moved_n {s f t : Nat} (hs : s < 64) (hf : f < 6) (ht : t < 6) (hb : s.testBit f = true) : I.moved_t (s : Int) (f : Int) (t : Int) = some ((moved s f t : Nat) : Int) := by
  unfold I.moved_t I.moved_tree
  rw [I.without_n hs hf, if_pos hb]
  simp only [optC]
  rw [I.with_n (Nat.lt_of_le_of_lt (Nat.sub_le _ _) hs) ht]
  rfl
/-- Can a guard come to a place without one? -/
def comeB (net : List Int) (s t : Nat) : Bool := (List.range net.length).any fun f => mayMove net s f t && W net (moved s f t)
/-- The places with guards, when one guard leaves a place. -/
def lessN (n : Nat) (r : Nat → Nat) (f : Nat) : Nat := if r f = 1 then (if (eqN n r 1 ||| eqN n r 2).testBit f = true then (eqN n r 1 ||| eqN n r 2) - 2 ^ f else eqN n r 1 ||| eqN n r 2) else eqN n r 1 ||| eqN n r 2
end Go.Proofs.Ytgpgifpblchjjaa
/- The model's functions of chapter 9 in natural numbers. Conditions: those of each theorem. -/
namespace Go.Proofs.Ytgpgifpblchjjaa
open D Go.RowKit
set_option linter.unusedVariables false
set_option linter.unusedSimpArgs false


/-- Can this guard come, so that a set of the list is there? -/
def ansP (net : List Int) (l : List Bool) (s t f : Nat) : Bool := s.testBit f && ((nb net t).testBit f && D.elb l (moved s f t))
def ansI (net : List Int) (l : List Bool) (s t : Nat) : Int := (find net.length (fun f => if ansP net l s t f = true then some (f : Int) else none)).getD (-1)
theorem ansI_cases (net : List Int) (l : List Bool) (s t : Nat) : (ansI net l s t = -1 ∧ ∀ f, f < net.length → ansP net l s t f = false) ∨ ∃ f, f < net.length ∧ ansI net l s t = (f : Int) ∧ ansP net l s t f = true := by
  unfold ansI
  cases hf : find net.length (fun f => if ansP net l s t f = true then some (f : Int) else none) with
  | none =>
    refine .inl ⟨rfl, fun f hfl => not_true fun hc => ?_⟩
    have := find_none.1 hf f hfl
    rw [if_pos hc] at this; cases this
  | some r =>
    obtain ⟨f, hfl, he⟩ := find_some_ex hf
    right
    by_cases hc : ansP net l s t f = true
    · rw [if_pos hc] at he; injection he with he; exact ⟨f, hfl, he.symm, hc⟩
    · rw [if_neg hc] at he; cases he
theorem S.l9Answer_n {net : List Int} (h : Ok net) {l : List Bool} (hl : l.length = 2 ^ net.length) {s t : Nat} (hs : s < 2 ^ net.length) (ht : t < net.length) : S.l9Answer_t net l (s : Int) (t : Int) = some (ansI net l s t) := by
  unfold S.l9Answer_t S.l9Answer_tree
  have h6 := h.hi
  have h64 := h.pow
  rw [run_search (run := S.l9Answer_run2 net l s t) (len := net.length) (fun f => if ansP net l s t f = true then some (f : Int) else none) () (by omega) (fun n k hk => ?_) (fun n => ?_)]
  · unfold ansI
    cases find net.length (fun f => if ansP net l s t f = true then some (f : Int) else none) <;> rfl
  · simp only [S.l9Answer_run2, S.l9Answer_step2]
    rw [cnd_t (by simp; omega), cnd_f (by simp), bit_shr _ _ (by omega), add1_nat (by omega)]
    unfold ansP
    cases hb : s.testBit k with
    | false => rfl
    | true =>
      rw [cnd_t (by rfl), cnd_t (by simp; omega), cnd_f (by simp), show D.eli net (t : Int).toNat = (nb net t : Int) by rw [Int.toNat_natCast]; exact h.eli ht, bit_shr _ _ (by omega)]
      cases hb2 : (nb net t).testBit k with
      | false => rfl
      | true =>
        have hm := moved_lt (f := k) hs ht
        rw [cnd_t (by rfl), S.l8Moved_n (lt64 h hs) (by omega) (by omega) hb]
        simp only [optC]
        rw [cnd_t (by simp; omega), Int.toNat_natCast]
        cases D.elb l (moved s k t) <;> rfl
  · simp only [S.l9Answer_run2, S.l9Answer_step2]
    rw [cnd_f (by simp)]
def holdsB (net : List Int) (l : List Bool) (s : Nat) : Bool := ((List.range net.length).all fun k => !(!s.testBit k && decide (ansI net l s k < 0))) && D.elb l s
theorem S.l9Holds_n {net : List Int} (h : Ok net) {l : List Bool} (hl : l.length = 2 ^ net.length) {s : Nat} (hs : s < 2 ^ net.length) : S.l9Holds_t net l (s : Int) = some (holdsB net l s) := by
  unfold S.l9Holds_t S.l9Holds_tree
  have h6 := h.hi
  rw [run_search (run := S.l9Holds_run2 net l s) (len := net.length) (fun k => if (!s.testBit k && decide (ansI net l s k < 0)) = true then some false else none) () (by omega) (fun n k hk => ?_) (fun n => ?_), find_test (p := fun k => !s.testBit k && decide (ansI net l s k < 0))]
  · unfold holdsB
    cases (List.range net.length).all fun k => !(!s.testBit k && decide (ansI net l s k < 0)) with
    | false => rfl
    | true =>
      simp only [optC, sumC, if_true, Bool.true_and]
      rw [cnd_t (by simp; omega), Int.toNat_natCast]
  · simp only [S.l9Holds_run2, S.l9Holds_step2]
    rw [cnd_t (by simp; omega), cnd_f (by simp), bit_shr _ _ (by omega), add1_nat (by omega)]
    cases hb : s.testBit k with
    | true => rfl
    | false =>
      rw [cnd_t (by rfl), S.l9Answer_n h hl hs hk]
      simp only [optC, Bool.not_false, Bool.true_and]
      cases decide (ansI net l s k < 0) <;> rfl
  · simp only [S.l9Holds_run2, S.l9Holds_step2]
    rw [cnd_f (by simp)]
noncomputable def eternalB (net : List Int) (s : Nat) : Bool := @decide (Eternal net s) (Classical.propDecidable _)
theorem eternalB_iff {net : List Int} {s : Nat} : eternalB net s = true ↔ Eternal net s := by unfold eternalB; exact @decide_eq_true_iff _ (Classical.propDecidable _)
noncomputable def lasts (net : List Int) : List Bool := (List.range (2 ^ net.length)).map (eternalB net)
theorem lasts_len (net : List Int) : (lasts net).length = 2 ^ net.length := by simp [lasts]
theorem lasts_elb {net : List Int} {s : Nat} (hs : s < 2 ^ net.length) : D.elb (lasts net) s = eternalB net s := by unfold D.elb lasts; simp [List.getD, hs]
theorem holds_eternal {net : List Int} (h : Ok net) (m : List Bool) (hm : m.length = 2 ^ net.length) (hin : ∀ s, s < 2 ^ net.length → Eternal net s → D.elb m s = true) :
    ∀ s, s < 2 ^ net.length → Eternal net s → holdsB net m s = true := by
  intro s hs he
  unfold holdsB
  rw [hin s hs he, Bool.and_true, List.all_eq_true]
  intro k hk
  have hk := List.mem_range.1 hk
  cases hb : s.testBit k with
  | true => rfl
  | false =>
    obtain ⟨f, a, b, c⟩ := eternal_closed net s hs he k hk hb
    rcases ansI_cases net m s k with ⟨_, hno⟩ | ⟨g, _, hg, _⟩
    · have := hno f (in_lt hs a)
      unfold ansP at this
      rw [a, b, hin _ (moved_lt hs hk) c] at this
      cases this
    · rw [hg, decide_eq_false (by omega)]; rfl
theorem stable_eternal {net : List Int} (h : Ok net) {m : List Bool} (hm : m.length = 2 ^ net.length) (hst : ∀ s, s < 2 ^ net.length → D.elb m s = true → holdsB net m s = true) :
    ∀ s, s < 2 ^ net.length → D.elb m s = true → Eternal net s := by
  intro s hs hb
  refine ⟨fun q => q < 2 ^ net.length ∧ D.elb m q = true, fun t ht ⟨_, htm⟩ k hk hb => ?_, hs, hb⟩
  have := hst t ht htm
  unfold holdsB at this
  rw [Bool.and_eq_true, List.all_eq_true] at this
  have := this.1 k (List.mem_range.2 hk)
  rw [hb] at this
  rcases ansI_cases net m t k with ⟨hn, _⟩ | ⟨f, hf, hg, hp⟩
  · rw [hn] at this; cases this
  · unfold ansP at hp
    rw [Bool.and_eq_true, Bool.and_eq_true] at hp
    exact ⟨f, hp.1, hp.2.1, moved_lt ht hk, hp.2.2⟩
theorem S.l9Lasts_n {net : List Int} (h : Ok net) : S.l9Lasts_t net = some (lasts net) := by
  unfold S.l9Lasts_t S.l9Lasts_tree
  have h6 := h.hi
  have h64 := h.pow
  rw [pow_shl h, Int.toNat_natCast, cnd_t (by simp only [D.small, Bool.and_true, Bool.and_eq_true, decide_eq_true_eq]; exact ⟨Int.natCast_nonneg _, by omega⟩)]
  have l3 := (run_for (run := S.l9Lasts_run3 net) (len := 2 ^ net.length) (fun k (t : List Bool) => ((k : Int), t)) (fun t k => t.set k true) (fun t => t) (fun k t => t.length = 2 ^ net.length ∧ ∀ j, j < k → D.elb t j = true) (by omega) (fun n k t hk ht => ?_) (fun n t ht => ?_) (t0 := List.replicate (2 ^ net.length) false) ⟨by simp, fun j hj => by omega⟩)
  · obtain ⟨e1, hl, hall⟩ := l3
    rw [show S.l9Lasts_run3 net FUEL (0, List.replicate (2 ^ net.length) false) = _ from e1]
    simp only [optC]
    generalize fold (2 ^ net.length) (fun (t : List Bool) k => t.set k true) (List.replicate (2 ^ net.length) false) = T at hl hall ⊢
    have hF := FUEL_le
    obtain ⟨m, r1, r2, r3, r4⟩ := settles (H := holdsB net) (N := 2 ^ net.length) (G := Eternal net) (holds_eternal h) (run := S.l9Lasts_run7 net) (fun n l hl => by
      have l10 := (run_for (run := S.l9Lasts_run10 net) (len := 2 ^ net.length) (fun k (t : Bool × List Bool) => (t.1, (k : Int), t.2)) (sweepStep (holdsB net)) (fun t => (t.1, t.2)) (fun k t => t.2.length = 2 ^ net.length) (by omega) (fun n k t hk ht => by
        simp only [S.l9Lasts_run10, S.l9Lasts_step10]
        rw [cnd_t (by simp; omega), cnd_t (by simp; omega), Int.toNat_natCast, cnd_t (by simp; omega), add1_nat (by omega)]
        unfold sweepStep
        cases hb : D.elb t.2 k with
        | false => simp only [cond_false, Bool.false_and, Bool.false_eq_true, if_false]; exact ⟨trivial, ht⟩
        | true =>
          rw [cond_true, S.l9Holds_n h ht hk]
          simp only [optC, Bool.true_and]
          cases hh : holdsB net t.2 k with
          | true => simp only [Bool.not_true, cond_false, Bool.false_eq_true, if_false]; exact ⟨trivial, ht⟩
          | false =>
            rw [Bool.not_false, cond_true, cnd_t (by simp; omega), cnd_t (by simp; omega), if_pos rfl]
            exact ⟨rfl, by simp [ht]⟩) (fun n t ht => by
        simp only [S.l9Lasts_run10, S.l9Lasts_step10]
        rw [cnd_f (by rw [decide_eq_false_iff_not]; omega)]) (t0 := (false, l)) hl).1
      simp only [S.l9Lasts_run7, S.l9Lasts_step7]
      rw [cond_true, show S.l9Lasts_run10 net FUEL (false, 0, l) = _ from l10]
      rfl) (fun n l => by simp only [S.l9Lasts_run7, S.l9Lasts_step7]; rfl) (2 ^ net.length) T hl (by have := trues_le T; omega) (fun s hs _ => hall s hs) FUEL (by omega)
    rw [r1]
    simp only
    congr 1
    refine elb_ext (by rw [r2, lasts_len]) (fun s hs => ?_)
    rw [r2] at hs
    rw [lasts_elb hs, Bool.eq_iff_iff, eternalB_iff]
    exact ⟨stable_eternal h r2 r4 s hs, r3 s hs⟩
  · simp only [S.l9Lasts_run3, S.l9Lasts_step3]
    have hl := ht.1
    rw [cnd_t (by simp; omega), cnd_t (by simp; omega), Int.toNat_natCast, cnd_t (by simp; omega), add1_nat (by omega)]
    refine ⟨rfl, by simp [hl], fun j hj => ?_⟩
    rw [elb_set (by omega)]
    by_cases he : j = k
    · rw [if_pos he]
    · rw [if_neg he]; exact ht.2 j (by omega)
  · simp only [S.l9Lasts_run3, S.l9Lasts_step3]
    have hl := ht.1
    rw [cnd_f (by rw [decide_eq_false_iff_not]; omega)]
theorem S.EternalOk_n {net : List Int} (h : Ok net) (e : S.NetOk_t net = some true) (s : Int) : S.EternalOk_t net s = some (decide (0 ≤ s ∧ s < 2 ^ net.length) && eternalB net s.toNat) := by
  unfold S.EternalOk_t S.EternalOk_tree
  rw [S.l1SetOk_n h e]
  simp only [optC]
  rcases set_cases h s with ⟨t, rfl, ht, hd⟩ | hd
  · rw [hd, cond_true, S.l9Lasts_n h]
    simp only
    rw [lasts_len, cnd_t (by simp only [Bool.and_eq_true, decide_eq_true_eq]; omega), Int.toNat_natCast, cnd_t (by simpa using ht), lasts_elb ht]
    rfl
  · rw [hd]; rfl
theorem S.EternalSets_y {net : List Int} (h : Ok net) (e : S.NetOk_t net = some true) : S.EternalSets_t net = some (listOfN (2 ^ net.length) (eternalB net)) := by
  unfold S.EternalSets_t S.EternalSets_tree
  have h6 := h.hi
  have h64 := h.pow
  rw [e]
  simp only [optC, Bool.not_true, cond_false]
  rw [S.l9Lasts_n h]
  simp only
  have hll := lasts_len net
  have := (run_for (run := S.EternalSets_run6) (len := 2 ^ net.length) (fun k (t : List Int) => ((k : Int), t, lasts net)) (fun t k => if eternalB net k = true then t ++ [(k : Int)] else t) (fun t => t) (fun k t => t.length ≤ k) (by omega) (fun n k t hk ht => ?_) (fun n t ht => ?_) (t0 := []) (Nat.le_refl _)).1
  · exact congrArg (fun o => optC o (fun q => some q) none) this
  · simp only [S.EternalSets_run6, S.EternalSets_step6]
    rw [cnd_t (by rw [decide_eq_true_eq]; omega), cnd_t (by simp only [Bool.and_eq_true, decide_eq_true_eq]; omega), Int.toNat_natCast, cnd_t (by rw [decide_eq_true_eq]; omega), lasts_elb hk, add1_nat (by omega)]
    cases hb : eternalB net k with
    | false => simp only [cond_false, Bool.false_eq_true, if_false]; exact ⟨trivial, by omega⟩
    | true =>
      rw [cond_true, if_pos rfl, cnd_t (by unfold D.small; rw [decide_eq_true_eq, List.length_append]; simp; omega)]
      exact ⟨rfl, by rw [List.length_append]; simp; omega⟩
  · simp only [S.EternalSets_run6, S.EternalSets_step6]
    rw [cnd_f (by rw [decide_eq_false_iff_not]; omega)]
theorem eternal_some (net : List Int) : ∃ s, s < 2 ^ net.length ∧ eternalB net s = true := ⟨allOf net, allOf_lt net, eternalB_iff.2 eternal_all⟩
theorem fold_least {net : List Int} (h : Ok net) (L : List Int) (p : Nat → Bool) (hL : ∀ x, x ∈ L ↔ ∃ s : Nat, s < 2 ^ net.length ∧ p s = true ∧ x = s) (N : Nat) (hN : N ≤ L.length) :
    (fold N (fun t k => if size (D.eli L k).toNat < t then size (D.eli L k).toNat else t) net.length = net.length ∨ ∃ s, s < 2 ^ net.length ∧ p s = true ∧ size s = fold N (fun t k => if size (D.eli L k).toNat < t then size (D.eli L k).toNat else t) net.length) ∧
    ∀ k, k < N → fold N (fun t k => if size (D.eli L k).toNat < t then size (D.eli L k).toNat else t) net.length ≤ size (D.eli L k).toNat := by
  induction N with
  | zero => exact ⟨.inl rfl, fun k hk => by omega⟩
  | succ N ih =>
    obtain ⟨a, b⟩ := ih (by omega)
    rw [fold_succ]
    generalize fold N (fun t k => if size (D.eli L k).toNat < t then size (D.eli L k).toNat else t) net.length = g at a b ⊢
    obtain ⟨s, s1, s2, s3⟩ := (hL _).1 (eli_mem (l := L) (k := N) (by omega))
    by_cases hlt : size (D.eli L N).toNat < g
    · rw [if_pos hlt]
      refine ⟨.inr ⟨s, s1, s2, by rw [s3, Int.toNat_natCast]⟩, fun k hk => ?_⟩
      by_cases he : k = N
      · rw [he]; exact Nat.le_refl _
      · have := b k (by omega); omega
    · rw [if_neg hlt]
      refine ⟨a, fun k hk => ?_⟩
      by_cases he : k = N
      · rw [he]; omega
      · exact b k (by omega)
theorem fold_minOf {net : List Int} (h : Ok net) (L : List Int) (p : Nat → Bool) (hL : ∀ x, x ∈ L ↔ ∃ s : Nat, s < 2 ^ net.length ∧ p s = true ∧ x = s) (hall : p (allOf net) = true) :
    MinOf net p (fold L.length (fun t k => if size (D.eli L k).toNat < t then size (D.eli L k).toNat else t) net.length) := by
  obtain ⟨a, b⟩ := fold_least h L p hL L.length (Nat.le_refl _)
  refine ⟨?_, fun s hs hp => ?_⟩
  · rcases a with a | a
    · rw [a]; exact ⟨allOf net, allOf_lt net, hall, size_all h⟩
    · exact a
  · obtain ⟨k, hk, he⟩ := mem_eli ((hL (s : Int)).2 ⟨s, hs, hp, rfl⟩)
    have := b k hk
    rw [he, Int.toNat_natCast] at this
    exact this
theorem S.FewestEternal_ex {net : List Int} (h : Ok net) (e : S.NetOk_t net = some true) : ∃ m : Nat, S.FewestEternal_t net = some (m : Int) ∧ MinOf net (eternalB net) m := by
  unfold S.FewestEternal_t S.FewestEternal_tree
  have h6 := h.hi
  have h64 := h.pow
  rw [e]
  simp only [optC, Bool.not_true, cond_false]
  rw [S.EternalSets_y h e]
  simp only
  have hll := listOfN_len (2 ^ net.length) (eternalB net)
  refine ⟨_, ?_, fold_minOf h (listOfN (2 ^ net.length) (eternalB net)) (eternalB net) (listOfN_mem _ _) (eternalB_iff.2 eternal_all)⟩
  have hmem : ∀ k, k < (listOfN (2 ^ net.length) (eternalB net)).length → ∃ s : Nat, s < 2 ^ net.length ∧ eternalB net s = true ∧ D.eli (listOfN (2 ^ net.length) (eternalB net)) k = s := fun k hk => listOfN_eli hk
  generalize listOfN (2 ^ net.length) (eternalB net) = L at hll hmem ⊢
  have := (run_for (run := S.FewestEternal_run6) (len := L.length) (fun k (t : Nat) => ((t : Int), (k : Int), L)) (fun t k => if size (D.eli L k).toNat < t then size (D.eli L k).toNat else t) (fun t => (t : Int)) (fun k t => t ≤ 6) (by omega) (fun n k t hk ht => ?_) (fun n t ht => ?_) (t0 := net.length) (by omega)).1
  · exact congrArg (fun o => optC o (fun q => some q) none) this
  · simp only [S.FewestEternal_run6, S.FewestEternal_step6]
    obtain ⟨s, s1, _, s3⟩ := hmem k hk
    have hz := size_le s
    rw [cnd_t (by rw [decide_eq_true_eq]; omega), cnd_t (by simp only [Bool.and_eq_true, decide_eq_true_eq]; omega), Int.toNat_natCast, cnd_t (by rw [decide_eq_true_eq]; omega), s3, S.l1Size_n (by omega), Int.toNat_natCast, add1_nat (by omega)]
    simp only [optC]
    by_cases hc : size s < t
    · rw [if_pos (by omega), if_pos hc]; exact ⟨rfl, by omega⟩
    · rw [if_neg (by omega), if_neg hc]; exact ⟨rfl, by omega⟩
  · simp only [S.FewestEternal_run6, S.FewestEternal_step6]
    rw [cnd_f (by rw [decide_eq_false_iff_not]; omega)]
noncomputable def fewestEternal (net : List Int) : Nat := minSize net (eternalB net)
theorem fewestEternal_min {net : List Int} (h : Ok net) : MinOf net (eternalB net) (fewestEternal net) := minSize_is h (eternal_some net)
theorem S.FewestEternal_y {net : List Int} (h : Ok net) (e : S.NetOk_t net = some true) : S.FewestEternal_t net = some ((fewestEternal net : Nat) : Int) := by
  obtain ⟨m, h1, h2⟩ := S.FewestEternal_ex h e
  rw [h1, h2.uniq (fewestEternal_min h)]
/-- The answer of an eternal set. -/
noncomputable def answerI (net : List Int) (s p : Int) : Int := if (0 ≤ s ∧ s < 2 ^ net.length) ∧ (0 ≤ p ∧ p < net.length) ∧ eternalB net s.toNat = true ∧ s.toNat.testBit p.toNat = false then ansI net (lasts net) s.toNat p.toNat else -1
end Go.Proofs.Ytgpgifpblchjjaa
/- AnsweredAll in natural numbers. Conditions: those of each theorem. -/
namespace Go.Proofs.Ytgpgifpblchjjaa
open D Go.RowKit
set_option linter.unusedVariables false
set_option linter.unusedSimpArgs false


/-- The set after one ask. -/
noncomputable def ansNext (net : List Int) (s p : Nat) : Nat := if s.testBit p = true then s else moved s (ansI net (lasts net) s p).toNat p
noncomputable def ansStep (net places : List Int) (t : Nat × List Int) (k : Nat) : List Int ⊕ (Nat × List Int) :=
  if 0 ≤ D.eli places k ∧ D.eli places k < net.length then .inr (ansNext net t.1 (D.eli places k).toNat, t.2 ++ [((ansNext net t.1 (D.eli places k).toNat : Nat) : Int)]) else .inl t.2
noncomputable def answered (net : List Int) (s : Nat) (places : List Int) : List Int := match loopE places.length (ansStep net places) (s, [(s : Int)]) with | .inl _ => [] | .inr t => t.2
noncomputable def answeredI (net : List Int) (s : Int) (places : List Int) : List Int := if (0 ≤ s ∧ s < 2 ^ net.length) ∧ eternalB net s.toNat = true then answered net s.toNat places else []
theorem ansI_eternal {net : List Int} {s p : Nat} (hs : s < 2 ^ net.length) (hp : p < net.length) (he : Eternal net s) (hb : s.testBit p = false) :
    ∃ f, f < net.length ∧ ansI net (lasts net) s p = (f : Int) ∧ s.testBit f = true ∧ (nb net p).testBit f = true ∧ Eternal net (moved s f p) := by
  rcases ansI_cases net (lasts net) s p with ⟨_, hno⟩ | ⟨f, hf, hg, hP⟩
  · exfalso
    obtain ⟨f, a, b, c⟩ := eternal_closed net s hs he p hp hb
    have := hno f (in_lt hs a)
    unfold ansP at this
    rw [a, b, lasts_elb (moved_lt hs hp), eternalB_iff.2 c] at this
    cases this
  · unfold ansP at hP
    rw [Bool.and_eq_true, Bool.and_eq_true, lasts_elb (moved_lt hs hp), eternalB_iff] at hP
    exact ⟨f, hf, hg, hP.1, hP.2.1, hP.2.2⟩
theorem ansNext_is {net : List Int} (h : Ok net) {s p : Nat} (hs : s < 2 ^ net.length) (hp : p < net.length) (he : Eternal net s) :
    ansNext net s p < 2 ^ net.length ∧ Eternal net (ansNext net s p) ∧ size (ansNext net s p) = size s ∧ (ansNext net s p).testBit p = true := by
  unfold ansNext
  have h6 := h.hi
  have h64 := h.pow
  cases hb : s.testBit p with
  | true => rw [if_pos rfl]; exact ⟨hs, he, rfl, hb⟩
  | false =>
    rw [if_neg (by simp)]
    obtain ⟨f, hf, e, a, _, c⟩ := ansI_eternal hs hp he hb
    rw [e, Int.toNat_natCast]
    exact ⟨moved_lt hs hp, c, moved_size (by omega) (by omega) (by omega) a hb, (moved_testBit (by omega) (by omega) a p).2 (.inr rfl)⟩
theorem S.AnsweredAll_n {net : List Int} (h : Ok net) (e : S.NetOk_t net = some true) (s : Int) {places : List Int} (hl : places.length ≤ 100000000) : S.AnsweredAll_t net s places = some (answeredI net s places) := by
  unfold S.AnsweredAll_t S.AnsweredAll_tree
  have h6 := h.hi
  have h64 := h.pow
  rw [S.EternalOk_n h e]
  simp only [optC]
  rcases set_cases h s with ⟨a, rfl, ha, hd⟩ | hd
  · rw [hd, Int.toNat_natCast, Bool.true_and]
    cases he : eternalB net a with
    | false =>
      unfold answeredI
      rw [if_neg (fun hc => by have := hc.2; rw [Int.toNat_natCast, he] at this; cases this)]; rfl
    | true =>
      unfold answeredI
      rw [if_pos ⟨dec_true hd, by simpa using he⟩, Int.toNat_natCast, Bool.not_true, cond_false, S.l9Lasts_n h]
      simp only
      have := (run_forE (run := S.AnsweredAll_run6 net places) (len := places.length) (fun k (t : Nat × List Int) => ((t.1 : Int), (k : Int), lasts net, t.2)) (ansStep net places) (fun q => Sum.inl ([], q)) (fun t => Sum.inr t.2) (fun k t => t.1 < 2 ^ net.length ∧ Eternal net t.1 ∧ t.2.length = k + 1) hl (fun n k t hk ht => ?_) (fun n t ht => ?_) (t0 := (a, [(a : Int)])) ⟨ha, eternalB_iff.1 he, rfl⟩).1
      · rw [show S.AnsweredAll_run6 net places FUEL ((a : Int), 0, lasts net, [(a : Int)]) = _ from this]
        unfold answered
        cases loopE places.length (ansStep net places) (a, [(a : Int)]) <;> rfl
      · simp only [S.AnsweredAll_run6, S.AnsweredAll_step6]
        obtain ⟨t1, t2, t3⟩ := ht
        rw [cnd_t (by rw [decide_eq_true_eq]; omega), cnd_t (by simp only [Bool.and_eq_true, decide_eq_true_eq]; omega), S.l1In_is, l1In_place h, Int.toNat_natCast]
        simp only [optC]
        unfold ansStep
        rcases place_cases net (D.eli places k) with ⟨p, hp1, hp, hd2⟩ | hd2
        · obtain ⟨n1, n2, _, _⟩ := ansNext_is h t1 hp t2
          rw [if_pos (dec_true hd2), hd2, hp1, show ((p : Nat) : Int).toNat = p from Int.toNat_natCast p, Bool.not_true, cond_false]
          rw [cnd_t (by simp only [Bool.and_eq_true, decide_eq_true_eq]; omega), cnd_f (by simp), show ((t.1 : Int).fdiv (2 ^ min p IntKind.i64.bits)).tmod 2 = ((t.1.testBit p).toNat : Int) from bit_shr t.1 p (by omega), bool_eq0, add1_nat (by omega)]
          have hsm : ∀ v : Int, D.small (t.2 ++ [v]).length = true := fun v => by unfold D.small; rw [decide_eq_true_eq, List.length_append]; simp; omega
          unfold ansNext at n1 n2 ⊢
          cases hb : t.1.testBit p with
          | true =>
            rw [hb, if_pos rfl] at n1 n2
            rw [Bool.not_true, cond_false, hsm, cond_true, if_pos rfl]
            exact ⟨rfl, t1, t2, by rw [List.length_append]; simp; omega⟩
          | false =>
            rw [hb, if_neg (by simp)] at n1 n2
            rw [Bool.not_false, cond_true, if_neg (by simp), cnd_t (by simp only [Bool.and_eq_true, decide_eq_true_eq]; omega), S.l9Answer_n h (lasts_len net) t1 hp]
            simp only
            obtain ⟨f, hf, ef, a1, _, _⟩ := ansI_eternal t1 hp t2 hb
            rw [ef] at n1 n2 ⊢
            rw [Int.toNat_natCast] at n1 n2
            rw [cnd_t (by simp only [Bool.and_eq_true, decide_eq_true_eq]; omega), S.l8Moved_n (by omega) (by omega) (by omega) a1]
            simp only
            rw [hsm, cond_true, Int.toNat_natCast]
            exact ⟨rfl, n1, n2, by rw [List.length_append]; simp; omega⟩
        · rw [if_neg (dec_false hd2), hd2]
          rfl
      · simp only [S.AnsweredAll_run6, S.AnsweredAll_step6]
        rw [cnd_f (by rw [decide_eq_false_iff_not]; omega)]
  · unfold answeredI
    rw [hd, if_neg (fun hc => dec_false hd hc.1)]; rfl
/-- What the list of answers holds. -/
def AnsInv (net places : List Int) (s k : Nat) (t : Nat × List Int) : Prop :=
  t.1 < 2 ^ net.length ∧ t.2.length = k + 1 ∧ D.eli t.2 0 = s ∧
  (∀ j, j ≤ k → ∃ u : Nat, D.eli t.2 j = u ∧ u < 2 ^ net.length ∧ Eternal net u ∧ size u = size s ∧ (j = k → u = t.1)) ∧
  ∀ j, j < k → ∃ p : Nat, D.eli places j = p ∧ p < net.length ∧ (D.eli t.2 (j + 1)).toNat.testBit p = true
theorem eli_app {l m : List Int} {k : Nat} (hk : k < l.length) : D.eli (l ++ m) k = D.eli l k := by
  unfold D.eli; simp [List.getD, List.getElem?_append_left hk]
theorem eli_app_end (l : List Int) (x : Int) : D.eli (l ++ [x]) l.length = x := by
  unfold D.eli; simp [List.getD]
theorem ans_inv {net : List Int} (h : Ok net) (places : List Int) {s : Nat} (hs : s < 2 ^ net.length) (he : Eternal net s) : ∀ k, ∀ t, loopE k (ansStep net places) (s, [(s : Int)]) = .inr t → AnsInv net places s k t := by
  intro k
  induction k with
  | zero =>
    intro t ht
    rw [loopE_zero] at ht
    injection ht with ht
    subst ht
    refine ⟨hs, rfl, rfl, fun j hj => ⟨s, ?_, hs, he, rfl, fun _ => rfl⟩, fun j hj => by omega⟩
    rw [show j = 0 by omega]; rfl
  | succ k ih =>
    intro t ht
    cases hq : loopE k (ansStep net places) (s, [(s : Int)]) with
    | inl d =>
      have e : loopE (k + 1) (ansStep net places) (s, [(s : Int)]) = .inl d := by unfold loopE at hq ⊢; rw [fold_succ, hq]
      rw [e] at ht; cases ht
    | inr u =>
      rw [loopE_succ hq] at ht
      obtain ⟨i1, i2, i3, i4, i5⟩ := ih u hq
      unfold ansStep at ht
      by_cases hp : 0 ≤ D.eli places k ∧ D.eli places k < net.length
      · rw [if_pos hp] at ht
        injection ht with ht
        subst ht
        obtain ⟨p, hp1⟩ : ∃ p : Nat, D.eli places k = p := ⟨(D.eli places k).toNat, by omega⟩
        rw [hp1, Int.toNat_natCast]
        have hp2 : p < net.length := by omega
        obtain ⟨w, w1, w2, w3, w4, w5⟩ := i4 k (Nat.le_refl _)
        have w6 := w5 rfl
        subst w6
        obtain ⟨n1, n2, n3, n4⟩ := ansNext_is h w2 hp2 w3
        have last : D.eli (u.2 ++ [((ansNext net u.1 p : Nat) : Int)]) (k + 1) = ((ansNext net u.1 p : Nat) : Int) := by rw [← i2]; exact eli_app_end _ _
        refine ⟨n1, by rw [List.length_append, i2]; rfl, by rw [eli_app (by omega)]; exact i3, fun j hj => ?_, fun j hj => ?_⟩
        · by_cases hjk : j = k + 1
          · subst hjk
            exact ⟨_, last, n1, n2, n3.trans w4, fun _ => rfl⟩
          · obtain ⟨v, v1, v2, v3, v4, _⟩ := i4 j (by omega)
            exact ⟨v, by rw [eli_app (by omega)]; exact v1, v2, v3, v4, fun e => absurd e hjk⟩
        · by_cases hjk : j = k
          · subst hjk
            exact ⟨p, hp1, hp2, by rw [last, Int.toNat_natCast]; exact n4⟩
          · obtain ⟨q, q1, q2, q3⟩ := i5 j (by omega)
            exact ⟨q, q1, q2, by rw [eli_app (by omega)]; exact q3⟩
      · rw [if_neg hp] at ht; cases ht
end Go.Proofs.Ytgpgifpblchjjaa
/- The program's functions of chapter 9 in natural numbers. Conditions: those of each theorem. -/
namespace Go.Proofs.Ytgpgifpblchjjaa
open D Go.RowKit
set_option linter.unusedVariables false
set_option linter.unusedSimpArgs false


/-- The sets in which one guard has moved. -/
def mvIn (net : List Int) (s f : Nat) (l : List Int) (t : Nat) : List Int := if mayMove net s f t = true then l ++ [((moved s f t : Nat) : Int)] else l
def mvOut (net : List Int) (s : Nat) (l : List Int) (f : Nat) : List Int := fold net.length (mvIn net s f) l
def mvs (net : List Int) (s : Nat) : List Int := fold net.length (mvOut net s) []
theorem mvIn_fold (net : List Int) (s f : Nat) (l : List Int) : ∀ m, (fold m (mvIn net s f) l).length ≤ l.length + m ∧ ∀ x, x ∈ fold m (mvIn net s f) l ↔ x ∈ l ∨ ∃ t, t < m ∧ mayMove net s f t = true ∧ x = ((moved s f t : Nat) : Int) := by
  intro m
  induction m with
  | zero => exact ⟨Nat.le_refl _, fun x => ⟨.inl, fun h => h.elim id fun ⟨t, ht, _⟩ => by omega⟩⟩
  | succ m ih =>
    rw [fold_succ]
    generalize fold m (mvIn net s f) l = g at ih ⊢
    obtain ⟨a, b⟩ := ih
    unfold mvIn
    by_cases hm : mayMove net s f m = true
    · rw [if_pos hm]
      refine ⟨by rw [List.length_append]; simp; omega, fun x => ?_⟩
      rw [List.mem_append, b, List.mem_singleton]
      constructor
      · rintro ((h | ⟨t, h1, h2⟩) | h)
        · exact .inl h
        · exact .inr ⟨t, by omega, h2⟩
        · exact .inr ⟨m, by omega, hm, h⟩
      · rintro (h | ⟨t, h1, h2, h3⟩)
        · exact .inl (.inl h)
        · by_cases he : t = m
          · subst he; exact .inr h3
          · exact .inl (.inr ⟨t, by omega, h2, h3⟩)
    · rw [if_neg hm]
      refine ⟨by omega, fun x => ?_⟩
      rw [b]
      constructor
      · rintro (h | ⟨t, h1, h2⟩)
        · exact .inl h
        · exact .inr ⟨t, by omega, h2⟩
      · rintro (h | ⟨t, h1, h2, h3⟩)
        · exact .inl h
        · by_cases he : t = m
          · subst he; exact absurd h2 hm
          · exact .inr ⟨t, by omega, h2, h3⟩
theorem mvOut_fold (net : List Int) (s : Nat) : ∀ m, (fold m (mvOut net s) []).length ≤ m * net.length ∧ ∀ x, x ∈ fold m (mvOut net s) [] ↔ ∃ f t, f < m ∧ t < net.length ∧ mayMove net s f t = true ∧ x = ((moved s f t : Nat) : Int) := by
  intro m
  induction m with
  | zero => exact ⟨Nat.zero_le _, fun x => ⟨fun h => (by cases h), fun ⟨f, t, hf, _⟩ => by omega⟩⟩
  | succ m ih =>
    rw [fold_succ]
    generalize fold m (mvOut net s) [] = g at ih ⊢
    obtain ⟨a, b⟩ := ih
    unfold mvOut
    obtain ⟨a2, b2⟩ := mvIn_fold net s m g net.length
    refine ⟨by rw [Nat.succ_mul]; omega, fun x => ?_⟩
    rw [b2, b]
    constructor
    · rintro (⟨f, t, h1, h2⟩ | ⟨t, h1, h2, h3⟩)
      · exact ⟨f, t, by omega, h2⟩
      · exact ⟨m, t, by omega, h1, h2, h3⟩
    · rintro ⟨f, t, h1, h2, h3, h4⟩
      by_cases he : f = m
      · subst he; exact .inr ⟨t, h2, h3, h4⟩
      · exact .inl ⟨f, t, by omega, h2, h3, h4⟩
theorem mvs_len {net : List Int} (h : Ok net) (s : Nat) : (mvs net s).length ≤ 36 := by
  have := (mvOut_fold net s net.length).1
  have h6 := h.hi
  have := Nat.mul_le_mul h6 h6
  unfold mvs
  omega
theorem mvs_mem (net : List Int) (s : Nat) (x : Int) : x ∈ mvs net s ↔ ∃ f t, f < net.length ∧ t < net.length ∧ mayMove net s f t = true ∧ x = ((moved s f t : Nat) : Int) := (mvOut_fold net s net.length).2 x
theorem mayMove_bit {net : List Int} {s f t : Nat} (h : mayMove net s f t = true) : s.testBit f = true ∧ s.testBit t = false ∧ (nb net f).testBit t = true := by
  unfold mayMove at h
  rw [Bool.and_eq_true, Bool.and_eq_true, Bool.not_eq_true'] at h
  exact ⟨h.1, h.2.1, h.2.2⟩
theorem I.movesOf_n {net : List Int} (h : Ok net) {s : Nat} (hs : s < 2 ^ net.length) : I.movesOf_t net (s : Int) = some (mvs net s) := by
  unfold I.movesOf_t I.movesOf_tree
  have h6 := h.hi
  have h64 := h.pow
  have := (run_for (run := I.movesOf_run3 net s) (len := net.length) (fun k (t : List Int) => ((k : Int), t)) (mvOut net s) (fun t => t) (fun k t => t.length ≤ k * net.length) (by omega) (fun n k t hk ht => ?_) (fun n t ht => ?_) (t0 := []) (Nat.zero_le _)).1
  · exact congrArg (fun o => optC o (fun q => some q) none) this
  · have hkl : k * net.length ≤ 36 := by have := Nat.mul_le_mul (show k ≤ 6 by omega) h6; omega
    refine ⟨?_, by have := (mvIn_fold net s k t net.length).1; rw [Nat.succ_mul]; unfold mvOut; omega⟩
    simp only [I.movesOf_run3, I.movesOf_step3]
    rw [cnd_t (by simp; omega)]
    have l6 := (run_for (run := I.movesOf_run6 net s k) (len := net.length) (fun j (t : List Int) => ((j : Int), t)) (mvIn net s k) (fun t => t) (fun j t => t.length ≤ 36 + j) (by omega) (fun n j t hj ht => by
      simp only [I.movesOf_run6, I.movesOf_step6]
      rw [cnd_t (by simp; omega), I.moveIn_n h hk hj, add1_nat (by omega)]
      simp only [optC]
      unfold mvIn
      cases hm : mayMove net s k j with
      | false => rw [cond_false, if_neg (by simp)]; exact ⟨rfl, by omega⟩
      | true =>
        rw [cond_true, I.moved_n (by omega) (by omega) (by omega) (mayMove_bit hm).1, if_pos rfl]
        simp only
        rw [cnd_t (by unfold D.small; rw [decide_eq_true_eq, List.length_append]; simp; omega)]
        exact ⟨rfl, by rw [List.length_append]; simp; omega⟩) (fun n t ht => by
      simp only [I.movesOf_run6, I.movesOf_step6]
      rw [cnd_f (by simp)]) (t0 := t) (by omega)).1
    rw [show I.movesOf_run6 net s k FUEL (0, t) = _ from l6]
    simp only [optC]
    rw [add1_nat (by omega)]
    rfl
  · simp only [I.movesOf_run3, I.movesOf_step3]
    rw [cnd_f (by simp)]
theorem elr_set {l : List (List Int)} {k j : Nat} {v : List Int} (hk : k < l.length) : D.elr (l.set k v) j = if j = k then v else D.elr l j := by
  unfold D.elr
  by_cases hj : j = k
  · subst hj; simp [List.getD, hk]
  · rw [if_neg hj]
    simp [List.getD, List.getElem?_set_ne (fun e => hj e.symm)]
theorem rows_ext {N : Nat} {l : List (List Int)} {f : Nat → List Int} (hl : l.length = N) (h : ∀ k, k < N → D.elr l k = f k) : l = (List.range N).map f := by
  apply List.ext_getElem (by simp [hl])
  intro j hj hj2
  have a := h j (by omega)
  unfold D.elr at a
  simp only [List.getD, List.getElem?_eq_getElem hj, Option.getD_some] at a
  rw [a]; simp
theorem rows_at {N k : Nat} {f : Nat → List Int} (hk : k < N) : D.elr ((List.range N).map f) k = f k := by unfold D.elr; simp [List.getD, hk]
theorem I.movesIn_n {net : List Int} (h : Ok net) : I.movesIn_t net = some ((List.range (2 ^ net.length)).map (mvs net)) := by
  unfold I.movesIn_t I.movesIn_tree
  have h6 := h.hi
  have h64 := h.pow
  have hsu := allOf_succ net
  rw [I.allOf_n h]
  simp only [optC]
  have := run_for (run := I.movesIn_run3 net) (len := 2 ^ net.length) (fun k (t : List (List Int)) => ((k : Int), t)) (fun t k => t.set k (mvs net k)) (fun t => t) (fun k t => t.length = 2 ^ net.length ∧ ∀ j, j < k → D.elr t j = mvs net j) (by omega) (fun n k t hk ht => ?_) (fun n t ht => ?_) (t0 := List.replicate (2 ^ net.length) []) ⟨by simp, fun j hj => by omega⟩
  · obtain ⟨e, l1, l2⟩ := this
    rw [add1_nat (by omega), hsu, Int.toNat_natCast, cnd_t (by simp only [D.small, Bool.and_true, Bool.and_eq_true, decide_eq_true_eq]; exact ⟨Int.natCast_nonneg _, by omega⟩), show I.movesIn_run3 net FUEL (0, List.replicate (2 ^ net.length) []) = _ from e]
    show some _ = some _
    rw [rows_ext l1 l2]
  · obtain ⟨l1, l2⟩ := ht
    refine ⟨?_, by simp [l1], fun j hj => ?_⟩
    · simp only [I.movesIn_run3, I.movesIn_step3]
      rw [I.allOf_n h]
      simp only [optC]
      rw [cnd_t (by rw [decide_eq_true_eq]; omega), I.movesOf_n h hk, add1_nat (by omega)]
      simp only
      rw [cnd_t (by simp only [Bool.and_eq_true, decide_eq_true_eq]; omega), Int.toNat_natCast, cnd_t (by rw [decide_eq_true_eq]; omega)]
    · rw [elr_set (by omega)]
      by_cases he : j = k
      · rw [if_pos he, he]
      · rw [if_neg he]; exact l2 j (by omega)
  · simp only [I.movesIn_run3, I.movesIn_step3]
    rw [I.allOf_n h]
    simp only [optC]
    rw [cnd_f (by rw [decide_eq_false_iff_not]; omega)]
/-- What is answered by going to sets that last. -/
def ansS (l : List Bool) (s : Nat) (L : List Int) : Nat := fold L.length (fun t k => if D.elb l (D.eli L k).toNat = true then t ||| (D.eli L k).toNat else t) s
theorem ansS_bit (l : List Bool) (s : Nat) (L : List Int) (j : Nat) : (ansS l s L).testBit j = true ↔ s.testBit j = true ∨ ∃ k, k < L.length ∧ D.elb l (D.eli L k).toNat = true ∧ (D.eli L k).toNat.testBit j = true := by
  unfold ansS
  generalize L.length = N
  induction N with
  | zero => exact ⟨.inl, fun h => h.elim id fun ⟨k, hk, _⟩ => by omega⟩
  | succ N ih =>
    rw [fold_succ]
    by_cases hb : D.elb l (D.eli L N).toNat = true
    · rw [if_pos hb, Nat.testBit_or, Bool.or_eq_true, ih]
      constructor
      · rintro ((h | ⟨k, h1, h2⟩) | h)
        · exact .inl h
        · exact .inr ⟨k, by omega, h2⟩
        · exact .inr ⟨N, by omega, hb, h⟩
      · rintro (h | ⟨k, h1, h2, h3⟩)
        · exact .inl (.inl h)
        · by_cases he : k = N
          · subst he; exact .inr h3
          · exact .inl (.inr ⟨k, by omega, h2, h3⟩)
    · rw [if_neg hb, ih]
      constructor
      · rintro (h | ⟨k, h1, h2⟩)
        · exact .inl h
        · exact .inr ⟨k, by omega, h2⟩
      · rintro (h | ⟨k, h1, h2, h3⟩)
        · exact .inl h
        · by_cases he : k = N
          · subst he; exact absurd h2 hb
          · exact .inr ⟨k, by omega, h2, h3⟩
def Among (n : Nat) (L : List Int) : Prop := L.length ≤ 1000 ∧ ∀ k, k < L.length → ∃ u : Nat, D.eli L k = (u : Int) ∧ u < 2 ^ n
theorem ansS_lt {n : Nat} {l : List Bool} {s : Nat} {L : List Int} (hs : s < 2 ^ n) (hL : Among n L) : ∀ N, N ≤ L.length → fold N (fun t k => if D.elb l (D.eli L k).toNat = true then t ||| (D.eli L k).toNat else t) s < 2 ^ n := by
  intro N
  induction N with
  | zero => intro _; exact hs
  | succ N ih =>
    intro hN
    rw [fold_succ]
    have := ih (by omega)
    split
    · obtain ⟨u, e, hu⟩ := hL.2 N (by omega)
      rw [e, Int.toNat_natCast]
      exact Nat.or_lt_two_pow this hu
    · exact this
theorem ansS_lt2 {n : Nat} {l : List Bool} {s : Nat} {L : List Int} (hs : s < 2 ^ n) (hL : Among n L) : ansS l s L < 2 ^ n := ansS_lt hs hL _ (Nat.le_refl _)
theorem I.answeredBy_n {n : Nat} (hn : n ≤ 6) {l : List Bool} (hl : l.length = 2 ^ n) {s : Nat} (hs : s < 2 ^ n) {L : List Int} (hL : Among n L) : I.answeredBy_t l (s : Int) L = some ((ansS l s L : Nat) : Int) := by
  unfold I.answeredBy_t I.answeredBy_tree
  have h64 := pow_le_64 hn
  have hlen := hL.1
  have := (run_for (run := I.answeredBy_run3 l L) (len := L.length) (fun k (t : Nat) => ((t : Int), (k : Int))) (fun t k => if D.elb l (D.eli L k).toNat = true then t ||| (D.eli L k).toNat else t) (fun t => (t : Int)) (fun k t => t < 2 ^ n) (by omega) (fun f k t hk ht => ?_) (fun f t ht => ?_) (t0 := s) hs).1
  · exact congrArg (fun o => optC o (fun q => some q) none) this
  · obtain ⟨u, e, hu⟩ := hL.2 k hk
    simp only [I.answeredBy_run3, I.answeredBy_step3]
    rw [cnd_t (by simp; omega), cnd_t (by simp; omega), Int.toNat_natCast, e, Int.toNat_natCast, cnd_t (by simp only [Bool.and_eq_true, decide_eq_true_eq]; omega), add1_nat (by omega)]
    cases hb : D.elb l u with
    | true =>
      rw [cond_true, if_pos rfl, cnd_t (by simp; omega), i64_or_nat _ _ (by omega) (by omega)]
      exact ⟨rfl, Nat.or_lt_two_pow ht hu⟩
    | false => rw [cond_false, if_neg (by simp)]; exact ⟨rfl, ht⟩
  · simp only [I.answeredBy_run3, I.answeredBy_step3]
    rw [cnd_f (by simp)]
/-- The sets that last, if those that a kind has are closed under it, and all that are closed are of the kind. -/
theorem I.lastingIn_n {net : List Int} (h : Ok net) {R : List (List Int)} (hR : R.length = 2 ^ net.length) (hA : ∀ s, s < 2 ^ net.length → Among net.length (D.elr R s)) {G : Nat → Prop}
    (hG : ∀ m : List Bool, m.length = 2 ^ net.length → (∀ s, s < 2 ^ net.length → G s → D.elb m s = true) → ∀ s, s < 2 ^ net.length → G s → (ansS m s (D.elr R s) == allOf net) = true)
    (hS : ∀ m : List Bool, m.length = 2 ^ net.length → (∀ s, s < 2 ^ net.length → D.elb m s = true → (ansS m s (D.elr R s) == allOf net) = true) → ∀ s, s < 2 ^ net.length → D.elb m s = true → G s) :
    ∃ m : List Bool, I.lastingIn_t net R = some m ∧ m.length = 2 ^ net.length ∧ ∀ s, s < 2 ^ net.length → (D.elb m s = true ↔ G s) := by
  unfold I.lastingIn_t I.lastingIn_tree
  have h6 := h.hi
  have h64 := h.pow
  have hsu := allOf_succ net
  rw [I.allOf_n h]
  simp only [optC]
  rw [add1_nat (by omega), hsu, Int.toNat_natCast, cnd_t (by simp only [D.small, Bool.and_true, Bool.and_eq_true, decide_eq_true_eq]; exact ⟨Int.natCast_nonneg _, by omega⟩)]
  have l3 := (run_for (run := I.lastingIn_run3 net R) (len := 2 ^ net.length) (fun k (t : List Bool) => ((k : Int), t)) (fun t k => t.set k true) (fun t => t) (fun k t => t.length = 2 ^ net.length ∧ ∀ j, j < k → D.elb t j = true) (by omega) (fun n k t hk ht => ?_) (fun n t ht => ?_) (t0 := List.replicate (2 ^ net.length) false) ⟨by simp, fun j hj => by omega⟩)
  · obtain ⟨e1, hl, hall⟩ := l3
    rw [show I.lastingIn_run3 net R FUEL (0, List.replicate (2 ^ net.length) false) = _ from e1]
    simp only [optC]
    generalize fold (2 ^ net.length) (fun (t : List Bool) k => t.set k true) (List.replicate (2 ^ net.length) false) = T at hl hall ⊢
    have hF := FUEL_le
    obtain ⟨m, r1, r2, r3, r4⟩ := settles (H := fun m s => ansS m s (D.elr R s) == allOf net) (N := 2 ^ net.length) (G := G) hG (run := I.lastingIn_run7 net R) (fun n l hl => by
      have l10 := (run_for (run := I.lastingIn_run10 net R) (len := 2 ^ net.length) (fun k (t : Bool × List Bool) => (t.1, (k : Int), t.2)) (sweepStep (fun m s => ansS m s (D.elr R s) == allOf net)) (fun t => (t.1, t.2)) (fun k t => t.2.length = 2 ^ net.length) (by omega) (fun n k t hk ht => by
        simp only [I.lastingIn_run10, I.lastingIn_step10]
        rw [I.allOf_n h]
        simp only [optC]
        rw [cnd_t (by rw [decide_eq_true_eq]; omega), cnd_t (by simp; omega), Int.toNat_natCast, cnd_t (by simp; omega), add1_nat (by omega)]
        unfold sweepStep
        cases hb : D.elb t.2 k with
        | false => simp only [cond_false, Bool.false_and, Bool.false_eq_true, if_false]; exact ⟨trivial, ht⟩
        | true =>
          have hlt := ansS_lt2 (l := t.2) (s := k) hk (hA k hk)
          rw [cond_true, cnd_t (by simp; omega), I.answeredBy_n h6 ht hk (hA k hk)]
          simp only [optC, Bool.true_and]
          rw [nat_beq]
          cases hh : (ansS t.2 k (D.elr R k) == allOf net) with
          | true => simp only [Bool.not_true, cond_false, Bool.false_eq_true, if_false]; exact ⟨trivial, ht⟩
          | false =>
            simp only [Bool.not_false, cond_true, if_true]
            rw [cnd_t (by simp; omega), cnd_t (by simp; omega)]
            exact ⟨rfl, by simp [ht]⟩) (fun n t ht => by
        simp only [I.lastingIn_run10, I.lastingIn_step10]
        rw [I.allOf_n h]
        simp only [optC]
        rw [cnd_f (by rw [decide_eq_false_iff_not]; omega)]) (t0 := (false, l)) hl).1
      simp only [I.lastingIn_run7, I.lastingIn_step7]
      rw [cond_true, show I.lastingIn_run10 net R FUEL (false, 0, l) = _ from l10]
      rfl) (fun n l => by simp only [I.lastingIn_run7, I.lastingIn_step7]; rfl) (2 ^ net.length) T hl (by have := trues_le T; omega) (fun s hs _ => hall s hs) FUEL (by omega)
    rw [r1]
    simp only
    exact ⟨m, rfl, r2, fun s hs => ⟨hS m r2 r4 s hs, r3 s hs⟩⟩
  · simp only [I.lastingIn_run3, I.lastingIn_step3]
    have hl := ht.1
    rw [I.allOf_n h]
    simp only [optC]
    rw [cnd_t (by rw [decide_eq_true_eq]; omega), cnd_t (by simp; omega), Int.toNat_natCast, cnd_t (by simp; omega), add1_nat (by omega)]
    refine ⟨rfl, by simp [hl], fun j hj => ?_⟩
    rw [elb_set (by omega)]
    by_cases he : j = k
    · rw [if_pos he]
    · rw [if_neg he]; exact ht.2 j (by omega)
  · simp only [I.lastingIn_run3, I.lastingIn_step3]
    rw [I.allOf_n h]
    simp only [optC]
    rw [cnd_f (by rw [decide_eq_false_iff_not]; omega)]
theorem all_bits {net : List Int} {x : Nat} (hx : x < 2 ^ net.length) : (x == allOf net) = true ↔ ∀ k, k < net.length → x.testBit k = true := by
  rw [beq_iff_eq]
  constructor
  · intro e k hk; rw [e, allOf_testBit]; simpa using hk
  · intro ha
    exact eq_of_bits hx (allOf_lt net) (fun j hj => by rw [ha j hj, allOf_testBit]; simp [hj])
theorem mem_at {L : List Int} {x : Int} (h : x ∈ L) : ∃ k, k < L.length ∧ D.eli L k = x := by
  obtain ⟨k, hk, e⟩ := List.getElem_of_mem h
  exact ⟨k, hk, by unfold D.eli; simp [List.getD, hk, e]⟩
theorem at_mem {L : List Int} {k : Nat} (hk : k < L.length) : D.eli L k ∈ L := by
  have : D.eli L k = L[k] := by unfold D.eli; simp [List.getD, hk]
  rw [this]; exact List.getElem_mem hk
theorem mvs_among {net : List Int} (h : Ok net) {s : Nat} (hs : s < 2 ^ net.length) : Among net.length (mvs net s) := by
  refine ⟨by have := mvs_len h s; omega, fun k hk => ?_⟩
  obtain ⟨f, t, _, ht, _, e⟩ := (mvs_mem net s _).1 (at_mem hk)
  exact ⟨_, e, moved_lt hs ht⟩
theorem I.eternalIn_n {net : List Int} (h : Ok net) : I.eternalIn_t net = some (lasts net) := by
  unfold I.eternalIn_t I.eternalIn_tree
  have h6 := h.hi
  have h64 := h.pow
  rw [I.movesIn_n h]
  simp only [optC]
  obtain ⟨m, e, hm, hiff⟩ := I.lastingIn_n h (R := (List.range (2 ^ net.length)).map (mvs net)) (by simp) (fun s hs => by rw [rows_at hs]; exact mvs_among h hs) (G := Eternal net)
    (fun m hm hin s hs he => by
      rw [rows_at hs, all_bits (ansS_lt2 hs (mvs_among h hs))]
      intro k hk
      refine (ansS_bit _ _ _ _).2 ?_
      cases hb : s.testBit k with
      | true => exact .inl rfl
      | false =>
        right
        obtain ⟨f, a, b, c⟩ := eternal_closed net s hs he k hk hb
        have hf := in_lt hs a
        obtain ⟨i, hi, ei⟩ := mem_at ((mvs_mem net s _).2 ⟨f, k, hf, hk, by unfold mayMove; rw [a, hb, h.sym k f hk hf, b]; rfl, rfl⟩)
        refine ⟨i, hi, ?_, ?_⟩
        · rw [ei, Int.toNat_natCast]; exact hin _ (moved_lt hs hk) c
        · rw [ei, Int.toNat_natCast]; exact (moved_testBit (by omega) (by omega) a k).2 (.inr rfl))
    (fun m hm hst s hs hb => by
      refine ⟨fun q => q < 2 ^ net.length ∧ D.elb m q = true, fun t ht ⟨_, htm⟩ k hk hbk => ?_, hs, hb⟩
      have hx := hst t ht htm
      rw [rows_at ht, all_bits (ansS_lt2 ht (mvs_among h ht))] at hx
      rcases (ansS_bit _ _ _ _).1 (hx k hk) with h1 | ⟨i, hi, h1, h2⟩
      · rw [hbk] at h1; cases h1
      · obtain ⟨f, u, hf, hu, hmv, e⟩ := (mvs_mem net t _).1 (at_mem hi)
        obtain ⟨a, b, c⟩ := mayMove_bit hmv
        rw [e, Int.toNat_natCast] at h1 h2
        rcases (moved_testBit (by omega) (by omega) a k).1 h2 with ⟨hc, _⟩ | hc
        · rw [hbk] at hc; cases hc
        · subst hc
          exact ⟨f, a, by rw [h.sym f k hf hk]; exact c, moved_lt ht hk, h1⟩)
  rw [e]
  simp only
  congr 1
  refine elb_ext (by rw [hm, lasts_len]) (fun s hs => ?_)
  rw [hm] at hs
  rw [lasts_elb hs, Bool.eq_iff_iff, eternalB_iff]
  exact hiff s hs
theorem I.EternalOk_n {net : List Int} (h : Ok net) (e : I.NetOk_t net = some true) (s : Int) : I.EternalOk_t net s = some (decide (0 ≤ s ∧ s < 2 ^ net.length) && eternalB net s.toNat) := by
  unfold I.EternalOk_t I.EternalOk_tree
  rw [e]
  simp only [optC]
  rw [cond_true, I.setIn_n h]
  simp only
  rcases set_cases h s with ⟨t, rfl, ht, hd⟩ | hd
  · rw [hd, cond_true, I.eternalIn_n h]
    simp only
    rw [lasts_len, cnd_t (by simp only [Bool.and_eq_true, decide_eq_true_eq]; omega), Int.toNat_natCast, cnd_t (by simpa using ht), lasts_elb ht]
    rfl
  · rw [hd]; rfl
theorem I.answerIn_n {net : List Int} (h : Ok net) {l : List Bool} (hl : l.length = 2 ^ net.length) {s t : Nat} (hs : s < 2 ^ net.length) (ht : t < net.length) : I.answerIn_t net l (s : Int) (t : Int) = some (if s.testBit t = true then -1 else ansI net l s t) := by
  unfold I.answerIn_t I.answerIn_tree
  have h6 := h.hi
  have h64 := h.pow
  rw [run_search (run := I.answerIn_run2 net l s t) (len := net.length) (fun f => if (mayMove net s f t && D.elb l (moved s f t)) = true then some (f : Int) else none) () (by omega) (fun n k hk => ?_) (fun n => ?_)]
  · cases hb : s.testBit t with
    | true =>
      have : find net.length (fun f => if (mayMove net s f t && D.elb l (moved s f t)) = true then some (f : Int) else none) = none := find_none.2 fun j _ => by
        unfold mayMove; rw [hb]; simp
      rw [this]; rfl
    | false =>
      have : (fun f => if (mayMove net s f t && D.elb l (moved s f t)) = true then some (f : Int) else none) = fun f => if (s.testBit f && ((nb net f).testBit t && D.elb l (moved s f t))) = true then some (f : Int) else none := by
        funext f
        unfold mayMove; rw [hb]
        cases s.testBit f <;> cases (nb net f).testBit t <;> simp
      rw [this, if_neg (by simp)]
      have e2 : find net.length (fun f => if (s.testBit f && ((nb net f).testBit t && D.elb l (moved s f t))) = true then some (f : Int) else none) = find net.length (fun f => if ansP net l s t f = true then some (f : Int) else none) := by
        have key : ∀ N, N ≤ net.length → find N (fun f => if (s.testBit f && ((nb net f).testBit t && D.elb l (moved s f t))) = true then some (f : Int) else none) = find N (fun f => if ansP net l s t f = true then some (f : Int) else none) := by
          intro N
          induction N with
          | zero => intro _; rfl
          | succ N ih =>
            intro hN
            rw [find_succ, find_succ, ih (by omega)]
            unfold ansP
            rw [h.sym N t (by omega) ht]
        exact key _ (Nat.le_refl _)
      rw [e2]
      unfold ansI
      cases find net.length (fun f => if ansP net l s t f = true then some (f : Int) else none) <;> rfl
  · simp only [I.answerIn_run2, I.answerIn_step2]
    rw [cnd_t (by simp; omega), I.moveIn_n h hk ht, add1_nat (by omega)]
    simp only [optC]
    cases hm : mayMove net s k t with
    | false => rfl
    | true =>
      have hml := moved_lt (f := k) hs ht
      rw [cond_true, I.moved_n (by omega) (by omega) (by omega) (mayMove_bit hm).1]
      simp only
      rw [cnd_t (by simp only [Bool.and_eq_true, decide_eq_true_eq]; omega), Int.toNat_natCast, Bool.true_and]
      cases D.elb l (moved s k t) <;> rfl
  · simp only [I.answerIn_run2, I.answerIn_step2]
    rw [cnd_f (by simp)]
theorem I.answeredIn_n {net : List Int} (h : Ok net) {s p : Nat} (hs : s < 2 ^ net.length) (hp : p < net.length) (he : Eternal net s) : I.answeredIn_t net (lasts net) (s : Int) (p : Int) = some ((ansNext net s p : Nat) : Int) := by
  unfold I.answeredIn_t I.answeredIn_tree
  have h6 := h.hi
  have h64 := h.pow
  rw [I.hasPlace_n _ _ (by omega)]
  simp only [optC]
  unfold ansNext
  cases hb : s.testBit p with
  | true => rfl
  | false =>
    obtain ⟨f, hf, ef, a1, _, _⟩ := ansI_eternal hs hp he hb
    rw [cond_false, I.answerIn_n h (lasts_len net) hs hp, hb, if_neg (by simp), if_neg (by simp), ef]
    simp only
    rw [I.moved_n (by omega) (by omega) (by omega) a1, Int.toNat_natCast]
theorem I.AnsweredAll_n {net : List Int} (h : Ok net) (e : I.NetOk_t net = some true) (s : Int) {places : List Int} (hl : places.length ≤ 100000000) : I.AnsweredAll_t net s places = some (answeredI net s places) := by
  unfold I.AnsweredAll_t I.AnsweredAll_tree
  have h6 := h.hi
  have h64 := h.pow
  rw [e]
  simp only [optC]
  rw [Bool.not_true, cond_false, I.setIn_n h]
  simp only
  rcases set_cases h s with ⟨a, rfl, ha, hd⟩ | hd
  · rw [hd, Bool.not_true, cond_false, I.eternalIn_n h]
    simp only
    rw [lasts_len, cnd_t (by simp only [Bool.and_eq_true, decide_eq_true_eq]; omega), Int.toNat_natCast, cnd_t (by simpa using ha), lasts_elb ha]
    unfold answeredI
    cases he : eternalB net a with
    | false => rw [if_neg (fun hc => by have := hc.2; rw [Int.toNat_natCast, he] at this; cases this)]; rfl
    | true =>
      rw [if_pos ⟨dec_true hd, by simpa using he⟩, Int.toNat_natCast, Bool.not_true, cond_false]
      have := (run_forE (run := I.AnsweredAll_run8 net places) (len := places.length) (fun k (t : Nat × List Int) => ((k : Int), lasts net, t.2)) (ansStep net places) (fun q => Sum.inl ([], q)) (fun t => Sum.inr t.2) (fun k t => t.1 < 2 ^ net.length ∧ Eternal net t.1 ∧ t.2.length = k + 1 ∧ D.eli t.2 k = t.1) hl (fun n k t hk ht => ?_) (fun n t ht => ?_) (t0 := (a, [(a : Int)])) ⟨ha, eternalB_iff.1 he, rfl, rfl⟩).1
      · rw [show I.AnsweredAll_run8 net places FUEL (0, lasts net, [(a : Int)]) = _ from this]
        unfold answered
        cases loopE places.length (ansStep net places) (a, [(a : Int)]) <;> rfl
      · simp only [I.AnsweredAll_run8, I.AnsweredAll_step8]
        obtain ⟨t1, t2, t3, t4⟩ := ht
        rw [cnd_t (by rw [decide_eq_true_eq]; omega), cnd_t (by simp only [Bool.and_eq_true, decide_eq_true_eq]; omega), I.placeIn_n, Int.toNat_natCast]
        simp only [optC]
        unfold ansStep
        rcases place_cases net (D.eli places k) with ⟨p, hp1, hp, hd2⟩ | hd2
        · obtain ⟨n1, n2, _, _⟩ := ansNext_is h t1 hp t2
          rw [if_pos (dec_true hd2), hd2, hp1, show ((p : Nat) : Int).toNat = p from Int.toNat_natCast p, Bool.not_true, cond_false]
          rw [cnd_t (by simp only [Bool.and_eq_true, decide_eq_true_eq]; omega), cnd_t (by rw [decide_eq_true_eq]; omega), cnd_t (by simp only [Bool.and_eq_true, decide_eq_true_eq]; omega), t4, I.answeredIn_n h t1 hp t2, add1_nat (by omega)]
          simp only
          rw [cnd_t (by unfold D.small; rw [decide_eq_true_eq, List.length_append]; simp; omega)]
          exact ⟨by trivial, n1, n2, by rw [List.length_append]; simp; omega, by rw [show k + 1 = t.2.length by omega]; exact eli_app_end _ _⟩
        · rw [if_neg (dec_false hd2), hd2]
          rfl
      · simp only [I.AnsweredAll_run8, I.AnsweredAll_step8]
        rw [cnd_f (by rw [decide_eq_false_iff_not]; omega)]
  · unfold answeredI
    rw [hd, if_neg (fun hc => dec_false hd hc.1)]; rfl
end Go.Proofs.Ytgpgifpblchjjaa
/- The game by turns: plain facts. Conditions: those of each theorem. -/
namespace Go.Proofs.Ytgpgifpblchjjaa
set_option linter.unusedVariables false
set_option linter.unusedSimpArgs false

/-- The best of the numbers of those that pass a test: the least one, or the greatest. -/
def bestStep (p : Nat → Bool) (f : Nat → Nat) (few : Bool) (o : Option Nat) (k : Nat) : Option Nat :=
  if p k = true then (match o with
    | none => some (f k)
    | some b => if (few && decide (f k < b) || !few && decide (f k > b)) = true then some (f k) else some b) else o
def bestN (n : Nat) (p : Nat → Bool) (f : Nat → Nat) (few : Bool) : Option Nat := fold n (bestStep p f few) none
/-- May a guard be put there? -/
def leg (net : List Int) (A k : Nat) : Bool := minus (ball net k) A != 0
theorem full_iff {net : List Int} {A : Nat} (hA : A < 2 ^ net.length) : A = allOf net ↔ ∀ j, j < net.length → A.testBit j = true := by
  constructor
  · rintro rfl j hj; rw [allOf_testBit]; simpa using hj
  · intro ha
    refine Nat.eq_of_testBit_eq fun j => ?_
    rw [Bool.eq_iff_iff, allOf_testBit, decide_eq_true_eq]
    exact ⟨fun hj => testBit_lt hA hj, ha j⟩
theorem size_lt_of {a b : Nat} (h : ∀ j, a.testBit j = true → b.testBit j = true) {i : Nat} (hi : i < 6) (h0 : a.testBit i = false) (h1 : b.testBit i = true) : size a < size b :=
  card_lt (fun j _ hj => h j hj) hi h0 h1
/-- How many guards it takes, as far as n more can be. -/
def gv (net : List Int) : Nat → Nat → Bool → Nat
  | 0, _, _ => 0
  | n + 1, A, few => (bestN net.length (leg net A) (fun k => 1 + gv net n (A ||| ball net k) (!few)) few).getD 0
def game (net : List Int) (A : Nat) (few : Bool) : Nat := gv net 6 A few
end Go.Proofs.Ytgpgifpblchjjaa
/- FirstPost, LogOf and LogPlaces, of the program (at ae9a42a) and of the model. Conditions: those of each theorem. -/
namespace Go.Proofs.Ytgpgifpblchjjaa
open D Go.RowKit
set_option linter.unusedVariables false
set_option linter.unusedSimpArgs false


theorem nl_bytes {q : List Nat} (h : ∀ x, x ∈ q → x < 256) : Bytes (nl q) := fun n hn => by
  unfold nl at hn
  obtain ⟨x, hx, rfl⟩ := List.mem_map.1 hn
  have := h x hx
  omega
theorem nl_back {l : List Int} (h : Bytes l) : ∃ q : List Nat, l = nl q ∧ ∀ x, x ∈ q → x < 256 := by
  refine ⟨l.map Int.toNat, ?_, fun x hx => ?_⟩
  · unfold nl
    rw [List.map_map]
    refine List.ext_getElem (by simp) fun k h1 h2 => ?_
    have := h _ (List.getElem_mem h1)
    simp only [List.getElem_map, Function.comp]
    omega
  · obtain ⟨y, hy, rfl⟩ := List.mem_map.1 hx
    have := h y hy
    omega
theorem rec3_bytes {p k : Nat} (hp : p < 6) (hk : k ≤ 40) : ∀ x, x ∈ rec3 p k → x < 256 := fun x hx => by
  unfold rec3 at hx
  simp only [List.mem_cons, List.not_mem_nil, or_false] at hx
  have := Nat.mod_lt ((p + 1) * (k + 7)) (show 251 > 0 by omega)
  omega
theorem rec_math {p k : Nat} (hp : p < 6) (hk : k ≤ 40) : ([IntKind.u8.wrap (IntKind.i64.wrap ((p : Int) + 1)), IntKind.u8.wrap (IntKind.i64.wrap ((k : Int) + 1)), IntKind.u8.wrap ((IntKind.i64.wrap (IntKind.i64.wrap ((p : Int) + 1) * IntKind.i64.wrap ((k : Int) + 7))).tmod 251)] : List Int) = nl (rec3 p k) := by
  have hm : (p + 1) * (k + 7) ≤ 6 * 47 := Nat.mul_le_mul (by omega) (by omega)
  have hlt := Nat.mod_lt ((p + 1) * (k + 7)) (show 251 > 0 by omega)
  rw [i64_wrap (n := (p : Int) + 1) (by omega) (by omega), i64_wrap (n := (k : Int) + 1) (by omega) (by omega), i64_wrap (n := (k : Int) + 7) (by omega) (by omega)]
  have e : ((p : Int) + 1) * ((k : Int) + 7) = (((p + 1) * (k + 7) : Nat) : Int) := by rw [Int.natCast_mul]; rfl
  rw [e, i64_wrap (by omega) (by omega), show (251 : Int) = ((251 : Nat) : Int) from rfl, tmod_nat, u8_wrap (by omega) (by omega), u8_wrap (by omega) (by omega), u8_wrap (by omega) (by omega)]
  rfl
theorem I.recordOf_n {p k : Nat} (hp : p < 6) (hk : k ≤ 40) : I.recordOf_t (p : Int) (k : Int) = some (nl (rec3 p k)) := by
  unfold I.recordOf_t I.recordOf_tree
  rw [rec_math hp hk]
theorem S.l17Record_n {p k : Nat} (hp : p < 6) (hk : k ≤ 40) : S.l17Record_t (p : Int) (k : Int) = some (nl (rec3 p k)) := by
  unfold S.l17Record_t S.l17Record_tree
  rw [rec_math hp hk]
theorem nl_app2 (a b : List Nat) : nl (a ++ b) = nl a ++ nl b := by simp [nl]
theorem I.LogOf_n (l : List Int) : I.LogOf_t l = some (nl (logI l)) := by
  unfold I.LogOf_t I.LogOf_tree logI
  by_cases h40 : l.length ≤ 40
  · rw [cnd_f (by rw [decide_eq_false_iff_not]; omega), if_pos h40]
    have l3 := (run_forE (run := I.LogOf_run5 l) (len := l.length) (fun k (t : List Nat) => ((k : Int), nl t)) (logStep l) (fun t => Sum.inl ([], nl t)) (fun t => Sum.inr (nl t)) (fun k t => t.length ≤ 3 * k) (by omega) (fun n k t hk ht => ?_) (fun n t ht => ?_) (t0 := []) (by simp)).1
    · rw [show I.LogOf_run5 l FUEL (0, []) = _ from l3]
      simp only [optC]
      cases loopE l.length (logStep l) [] <;> rfl
    · simp only [I.LogOf_run5, I.LogOf_step5]
      unfold logStep
      rw [cnd_t (by rw [decide_eq_true_eq]; omega), cnd_t (by simp only [Bool.and_eq_true, decide_eq_true_eq]; omega), Int.toNat_natCast, add1_nat (by omega)]
      by_cases hc : 0 ≤ D.eli l k ∧ D.eli l k < 6
      · obtain ⟨p, hp⟩ : ∃ p : Nat, D.eli l k = (p : Int) := ⟨(D.eli l k).toNat, by omega⟩
        rw [hp] at hc ⊢
        have hr : (nl (rec3 p k)).length = 3 := by rw [nl_len]; rfl
        rw [if_pos hc, cnd_f (by rw [decide_eq_false_iff_not]; omega), cnd_t (by simp only [Bool.and_eq_true, decide_eq_true_eq]; omega), cnd_f (by rw [decide_eq_false_iff_not]; omega), cnd_t (by simp only [Bool.and_eq_true, decide_eq_true_eq]; omega), I.recordOf_n (by omega) (by omega), Int.toNat_natCast]
        simp only [optC]
        rw [cnd_t (small_of (by rw [List.length_append, nl_len, hr]; omega)), nl_app2]
        exact ⟨rfl, by rw [List.length_append]; simp [rec3]; omega⟩
      · rw [if_neg hc]
        by_cases h0 : D.eli l k < 0
        · rw [cnd_t (by rw [decide_eq_true_eq]; omega)]
        · rw [cnd_f (by rw [decide_eq_false_iff_not]; omega), cnd_t (by simp only [Bool.and_eq_true, decide_eq_true_eq]; omega), cnd_t (by rw [decide_eq_true_eq]; omega)]
    · simp only [I.LogOf_run5, I.LogOf_step5]
      rw [cnd_f (by rw [decide_eq_false_iff_not]; omega)]
  · rw [cnd_t (by rw [decide_eq_true_eq]; omega), if_neg h40]; rfl
theorem S.LogOf_n (l : List Int) : S.LogOf_t l = some (nl (logI l)) := by
  unfold S.LogOf_t S.LogOf_tree logI
  by_cases h40 : l.length ≤ 40
  · rw [cnd_f (by rw [decide_eq_false_iff_not]; omega), if_pos h40]
    have l3 := (run_forE (run := S.LogOf_run5 l) (len := l.length) (fun k (t : List Nat) => ((k : Int), nl t)) (logStep l) (fun t => Sum.inl ([], nl t)) (fun t => Sum.inr (nl t)) (fun k t => t.length ≤ 3 * k) (by omega) (fun n k t hk ht => ?_) (fun n t ht => ?_) (t0 := []) (by simp)).1
    · rw [show S.LogOf_run5 l FUEL (0, []) = _ from l3]
      simp only [optC]
      cases loopE l.length (logStep l) [] <;> rfl
    · simp only [S.LogOf_run5, S.LogOf_step5]
      unfold logStep
      rw [cnd_t (by rw [decide_eq_true_eq]; omega), cnd_t (by simp only [Bool.and_eq_true, decide_eq_true_eq]; omega), Int.toNat_natCast, add1_nat (by omega), S.l1In_is]
      simp only [optC]
      by_cases hc : 0 ≤ D.eli l k ∧ D.eli l k < 6
      · obtain ⟨p, hp⟩ : ∃ p : Nat, D.eli l k = (p : Int) := ⟨(D.eli l k).toNat, by omega⟩
        rw [hp] at hc ⊢
        have hr : (nl (rec3 p k)).length = 3 := by rw [nl_len]; rfl
        rw [if_pos hc, cnd_f (by rw [Bool.not_eq_false', decide_eq_true_eq]; omega), cnd_t (by simp only [Bool.and_eq_true, decide_eq_true_eq]; omega), S.l17Record_n (by omega) (by omega), Int.toNat_natCast]
        simp only
        rw [cnd_t (small_of (by rw [List.length_append, nl_len, hr]; omega)), nl_app2]
        exact ⟨rfl, by rw [List.length_append]; simp [rec3]; omega⟩
      · rw [if_neg hc, cnd_t (by rw [Bool.not_eq_true', decide_eq_false_iff_not]; omega)]
    · simp only [S.LogOf_run5, S.LogOf_step5]
      rw [cnd_f (by rw [decide_eq_false_iff_not]; omega)]
  · rw [cnd_t (by rw [decide_eq_true_eq]; omega), if_neg h40]; rfl
/-! The places of a log. -/
theorem wr3 {k : Nat} (hk : k ≤ 1000000) : IntKind.i64.wrap (3 * (k : Int)) = ((3 * k : Nat) : Int) := by rw [i64_wrap (by omega) (by omega)]; omega
theorem wr33 {k : Nat} (hk : k ≤ 1000000) : IntKind.i64.wrap (((3 * k : Nat) : Int) + 3) = ((3 * k + 3 : Nat) : Int) := by rw [i64_wrap (by omega) (by omega)]; omega
theorem nl_cut (l : List Nat) (k : Nat) : List.take (((3 * k + 3 : Nat) : Int).toNat - ((3 * k : Nat) : Int).toNat) (List.drop ((3 * k : Nat) : Int).toNat (nl l)) = nl ((l.drop (3 * k)).take 3) := by
  rw [Int.toNat_natCast, Int.toNat_natCast, show 3 * k + 3 - 3 * k = 3 by omega]
  unfold nl
  rw [← List.map_drop, ← List.map_take]
theorem cut_bytes {l : List Nat} (hb : ∀ x, x ∈ l → x < 256) (k : Nat) : ∀ x, x ∈ (l.drop k).take 3 → x < 256 := fun x hx => hb x (List.mem_of_mem_drop (List.mem_of_mem_take hx))
theorem getD_byte {l : List Nat} (hb : ∀ x, x ∈ l → x < 256) {k : Nat} (hk : k < l.length) : l.getD k 0 < 256 := by
  have : l.getD k 0 = l[k] := by simp [List.getD, hk]
  rw [this]; exact hb _ (List.getElem_mem hk)
theorem I.placeAt_n {log : List Nat} (hb : ∀ x, x ∈ log → x < 256) {k : Nat} (hk : k ≤ 40) (h3 : 3 * k < log.length) : I.placeAt_t (nl log) (k : Int) = some (((log.getD (3 * k) 0 : Nat) : Int) - 1) := by
  unfold I.placeAt_t I.placeAt_tree
  have := getD_byte hb h3
  rw [wr3 (by omega), nl_len, cnd_t (by simp only [Bool.and_eq_true, decide_eq_true_eq]; omega), Int.toNat_natCast, nl_at h3, i64_wrap (n := ((log.getD (3 * k) 0 : Nat) : Int)) (by omega) (by omega), i64_wrap (by omega) (by omega)]
theorem I.recordIn_n {log : List Nat} (hb : ∀ x, x ∈ log → x < 256) {k : Nat} (hk : k ≤ 40) : I.recordIn_t (nl log) (k : Int) = some (rin log k) := by
  unfold I.recordIn_t I.recordIn_tree rin
  by_cases h40 : k < 40
  rotate_left
  · rw [cnd_t (by rw [decide_eq_true_eq]; omega), decide_eq_false h40]; rfl
  rw [cnd_f (by rw [decide_eq_false_iff_not]; omega), decide_eq_true h40, Bool.true_and, wr3 (by omega), wr33 (by omega), nl_len]
  by_cases h3 : 3 * k + 3 ≤ log.length
  rotate_left
  · rw [cnd_t (by rw [decide_eq_true_eq]; omega), decide_eq_false h3]; rfl
  rw [cnd_f (by rw [decide_eq_false_iff_not]; omega), decide_eq_true h3, Bool.true_and, I.placeAt_n hb (by omega) (by omega)]
  simp only [optC]
  by_cases hp : 1 ≤ log.getD (3 * k) 0 ∧ log.getD (3 * k) 0 ≤ 6
  rotate_left
  · rw [decide_eq_false hp, Bool.false_and]
    by_cases h1 : 1 ≤ log.getD (3 * k) 0
    · rw [cnd_t (by rw [decide_eq_true_eq]; omega), cnd_f (by rw [decide_eq_false_iff_not]; omega)]
    · rw [cnd_f (by rw [decide_eq_false_iff_not]; omega)]
  rw [decide_eq_true hp, Bool.true_and, cnd_t (by rw [decide_eq_true_eq]; omega), cnd_t (by rw [decide_eq_true_eq]; omega), cnd_t (by simp only [Bool.and_eq_true, decide_eq_true_eq]; omega), nl_cut,
    show ((log.getD (3 * k) 0 : Nat) : Int) - 1 = ((log.getD (3 * k) 0 - 1 : Nat) : Int) by omega, I.recordOf_n (by omega) (by omega)]
  simp only
  rw [strEq_bytes (nl_bytes (cut_bytes hb _)) (nl_bytes (rec3_bytes (by omega) (by omega)))]
  congr 1
  rw [decide_eq_decide]
  exact ⟨fun e => nl_inj e, fun e => by rw [e]⟩
def plN (log : List Nat) (t : Nat) : List Nat := (List.range t).map fun k => log.getD (3 * k) 0 - 1
theorem plN_len (log : List Nat) (t : Nat) : (plN log t).length = t := by simp [plN]
theorem plN_succ (log : List Nat) (t : Nat) : nl (plN log (t + 1)) = nl (plN log t) ++ [((log.getD (3 * t) 0 - 1 : Nat) : Int)] := by
  unfold plN; rw [List.range_succ, List.map_append, nl_app2]; rfl
theorem I.LogPlaces_n {log : List Nat} (hb : ∀ x, x ∈ log → x < 256) : I.LogPlaces_t (nl log) = some (((3 * lpL log : Nat) : Int), nl (lp log)) := by
  unfold I.LogPlaces_t I.LogPlaces_tree
  obtain ⟨a1, a2, a3⟩ := lpL_is log
  have hF := FUEL_le
  have key : ∀ m t N, t + m = lpL log → m < N → I.LogPlaces_run2 (nl log) N (nl (plN log t)) = some (nl (lp log)) := by
    intro m
    induction m with
    | zero =>
      intro t N ht hN
      obtain ⟨N, rfl⟩ : ∃ q, N = q + 1 := ⟨N - 1, by omega⟩
      obtain rfl : t = lpL log := by omega
      simp only [I.LogPlaces_run2, I.LogPlaces_step2]
      rw [nl_len, plN_len, I.recordIn_n hb a3, a2]
      rfl
    | succ m ih =>
      intro t N ht hN
      obtain ⟨N, rfl⟩ : ∃ q, N = q + 1 := ⟨N - 1, by omega⟩
      have hr := a1 t (by omega)
      obtain ⟨r1, r2, r3, r4⟩ := rin_iff.1 hr
      simp only [I.LogPlaces_run2, I.LogPlaces_step2]
      rw [nl_len, plN_len, I.recordIn_n hb (by omega), hr]
      simp only [optC, cond_true]
      rw [I.placeAt_n hb (by omega) (by omega)]
      simp only
      rw [show ((log.getD (3 * t) 0 : Nat) : Int) - 1 = ((log.getD (3 * t) 0 - 1 : Nat) : Int) by omega, ← plN_succ, cnd_t (small_of (by rw [nl_len, plN_len]; omega))]
      exact ih (t + 1) N (by omega) (by omega)
  rw [show I.LogPlaces_run2 (nl log) FUEL [] = _ from key (lpL log) 0 FUEL (by omega) (by omega)]
  simp only [optC]
  rw [nl_len, lp_len, wr3 (by omega)]
theorem S.LogPlaces_n {log : List Nat} (hb : ∀ x, x ∈ log → x < 256) : S.LogPlaces_t (nl log) = some (((3 * lpL log : Nat) : Int), nl (lp log)) := by
  unfold S.LogPlaces_t S.LogPlaces_tree
  obtain ⟨a1, a2, a3⟩ := lpL_is log
  have hF := FUEL_le
  have key : ∀ m t N, t + m = lpL log → m < N → S.LogPlaces_run3 (nl log) N ((t : Int), nl (plN log t)) = some (.inl (((3 * lpL log : Nat) : Int), nl (lp log))) ∨ S.LogPlaces_run3 (nl log) N ((t : Int), nl (plN log t)) = some (.inr (nl (lp log))) := by
    intro m
    induction m with
    | zero =>
      intro t N ht hN
      obtain ⟨N, rfl⟩ : ∃ q, N = q + 1 := ⟨N - 1, by omega⟩
      obtain rfl : t = lpL log := by omega
      simp only [S.LogPlaces_run3, S.LogPlaces_step3]
      rw [nl_len]
      by_cases h40 : lpL log < 40
      rotate_left
      · rw [cnd_f (by rw [decide_eq_false_iff_not]; omega)]; exact .inr rfl
      rw [cnd_t (by rw [decide_eq_true_eq]; omega), wr3 (by omega), wr33 (by omega)]
      by_cases h3 : 3 * lpL log + 3 ≤ log.length
      rotate_left
      · rw [cnd_f (by rw [decide_eq_false_iff_not]; omega)]; exact .inr rfl
      have hg := getD_byte hb (k := 3 * lpL log) (by omega)
      rw [cnd_t (by rw [decide_eq_true_eq]; omega), cnd_t (by simp only [Bool.and_eq_true, decide_eq_true_eq]; omega), Int.toNat_natCast, nl_at (by omega), i64_wrap (n := ((log.getD (3 * lpL log) 0 : Nat) : Int)) (by omega) (by omega), i64_wrap (n := ((log.getD (3 * lpL log) 0 : Nat) : Int) - 1) (by omega) (by omega), S.l1In_is]
      simp only [optC]
      by_cases hp : 1 ≤ log.getD (3 * lpL log) 0 ∧ log.getD (3 * lpL log) 0 ≤ 6
      rotate_left
      · rw [cnd_t (by rw [Bool.not_eq_true', decide_eq_false_iff_not]; omega)]; exact .inl rfl
      have hc := nl_cut log (lpL log)
      simp only [Int.toNat_natCast] at hc
      rw [cnd_f (by rw [Bool.not_eq_false', decide_eq_true_eq]; omega), show ((log.getD (3 * lpL log) 0 : Nat) : Int) - 1 = ((log.getD (3 * lpL log) 0 - 1 : Nat) : Int) by omega, S.l17Record_n (by omega) (by omega)]
      simp only [Int.toNat_natCast]
      rw [cnd_t (by simp only [Bool.and_eq_true, decide_eq_true_eq]; omega), hc, strEq_bytes (nl_bytes (rec3_bytes (by omega) (by omega))) (nl_bytes (cut_bytes hb _))]
      by_cases he : (log.drop (3 * lpL log)).take 3 = rec3 (log.getD (3 * lpL log) 0 - 1) (lpL log)
      · rw [rin_iff.2 ⟨h40, h3, hp, he⟩] at a2; cases a2
      · rw [cnd_t (by rw [Bool.not_eq_true', decide_eq_false_iff_not]; exact fun e => he (nl_inj e).symm)]; exact .inl rfl
    | succ m ih =>
      intro t N ht hN
      obtain ⟨N, rfl⟩ : ∃ q, N = q + 1 := ⟨N - 1, by omega⟩
      obtain ⟨r1, r2, r3, r4⟩ := rin_iff.1 (a1 t (by omega))
      have hg := getD_byte hb (k := 3 * t) (by omega)
      have hc := nl_cut log t
      simp only [Int.toNat_natCast] at hc
      simp only [S.LogPlaces_run3, S.LogPlaces_step3]
      rw [nl_len, cnd_t (by rw [decide_eq_true_eq]; omega), wr3 (by omega), wr33 (by omega), cnd_t (by rw [decide_eq_true_eq]; omega), cnd_t (by simp only [Bool.and_eq_true, decide_eq_true_eq]; omega), Int.toNat_natCast, nl_at (by omega), i64_wrap (n := ((log.getD (3 * t) 0 : Nat) : Int)) (by omega) (by omega), i64_wrap (n := ((log.getD (3 * t) 0 : Nat) : Int) - 1) (by omega) (by omega), S.l1In_is]
      simp only [optC]
      rw [cnd_f (by rw [Bool.not_eq_false', decide_eq_true_eq]; omega), show ((log.getD (3 * t) 0 : Nat) : Int) - 1 = ((log.getD (3 * t) 0 - 1 : Nat) : Int) by omega, S.l17Record_n (by omega) (by omega)]
      simp only [Int.toNat_natCast]
      rw [cnd_t (by simp only [Bool.and_eq_true, decide_eq_true_eq]; omega), hc, strEq_bytes (nl_bytes (rec3_bytes (by omega) (by omega))) (nl_bytes (cut_bytes hb _)), r4, cnd_f (by simp), ← plN_succ, cnd_t (small_of (by rw [nl_len, plN_len]; omega)), add1_nat (by omega)]
      exact ih (t + 1) N (by omega) (by omega)
  rcases key (lpL log) 0 FUEL (by omega) (by omega) with e | e
  · rw [show S.LogPlaces_run3 (nl log) FUEL (0, []) = _ from e]; rfl
  · rw [show S.LogPlaces_run3 (nl log) FUEL (0, []) = _ from e]
    simp only [optC, sumC]
    rw [nl_len, lp_len, wr3 (by omega)]
/-! The first post. -/
structure IsPost (net : List Int) (r : Nat) : Prop where
  lt : r < 2 ^ net.length
  et : eternalB net r = true
  sz : size r = fewestEternal net
  first : ∀ s, s < r → eternalB net s = true → size s ≠ fewestEternal net
theorem IsPost.uniq {net : List Int} {a b : Nat} (ha : IsPost net a) (hb : IsPost net b) : a = b := by
  rcases Nat.lt_trichotomy a b with h | h | h
  · exact absurd ha.sz (hb.first a h ha.et)
  · exact h
  · exact absurd hb.sz (ha.first b h hb.et)
noncomputable def fpStep (net : List Int) (t s : Nat) : Nat := if size s < size t ∧ eternalB net s = true then s else t
theorem size_all_lt {net : List Int} (h : Ok net) {s : Nat} (hs : s < allOf net) : size s < size (allOf net) := by
  have hall : allOf net = 2 ^ net.length - 1 := rfl
  have hp := Nat.two_pow_pos net.length
  have h6 := h.hi
  have hne : s ≠ allOf net := by omega
  obtain ⟨j, hj, hb⟩ : ∃ j, j < net.length ∧ s.testBit j = false := by
    refine Classical.byContradiction fun hno => hne ((full_iff (by omega)).2 fun j hj => ?_)
    cases hb : s.testBit j with
    | true => rfl
    | false => exact absurd ⟨j, hj, hb⟩ hno
  refine size_lt_of (fun i hi => ?_) (by omega) hb ?_
  · rw [allOf_testBit]; simpa using testBit_lt (show s < 2 ^ net.length by omega) hi
  · rw [allOf_testBit]; simpa using hj
theorem fp_loop {net : List Int} (h : Ok net) : IsPost net (fold (allOf net) (fpStep net) (allOf net)) := by
  have hall : allOf net = 2 ^ net.length - 1 := rfl
  have hp := Nat.two_pow_pos net.length
  have key : ∀ k, k ≤ allOf net → ∃ t, fold k (fpStep net) (allOf net) = t ∧ t ≤ allOf net ∧ eternalB net t = true ∧ (∀ s, s < k → eternalB net s = true → size t ≤ size s) ∧ (∀ s, s < k → s < t → eternalB net s = true → size t < size s) ∧ (t = allOf net ∨ t < k) := by
    intro k
    induction k with
    | zero => intro _; exact ⟨_, rfl, Nat.le_refl _, eternalB_iff.2 eternal_all, fun s hs => by omega, fun s hs => by omega, .inl rfl⟩
    | succ k ih =>
      intro hk
      obtain ⟨t, e, b0, b1, b2, b3, b4⟩ := ih (by omega)
      rw [fold_succ, e]
      unfold fpStep
      by_cases hc : size k < size t ∧ eternalB net k = true
      · rw [if_pos hc]
        refine ⟨k, rfl, by omega, hc.2, fun s hs he => ?_, fun s hs hs2 he => ?_, .inr (by omega)⟩
        · rcases Nat.lt_or_ge s k with hlt | hge
          · have := b2 s hlt he; omega
          · obtain rfl : s = k := by omega
            exact Nat.le_refl _
        · have := b2 s hs2 he; omega
      · rw [if_neg hc]
        have hkk : eternalB net k = true → size t ≤ size k := fun he => by
          rcases Nat.lt_or_ge (size k) (size t) with hlt | hge
          · exact absurd ⟨hlt, he⟩ hc
          · exact hge
        refine ⟨t, rfl, b0, b1, fun s hs he => ?_, fun s hs hs2 he => ?_, ?_⟩
        · rcases Nat.lt_or_ge s k with hlt | hge
          · exact b2 s hlt he
          · obtain rfl : s = k := by omega
            exact hkk he
        · rcases Nat.lt_or_ge s k with hlt | hge
          · exact b3 s hlt hs2 he
          · obtain rfl : s = k := by omega
            rcases b4 with b4 | b4
            · have := size_all_lt h (s := s) (by omega)
              have := hkk he
              rw [b4] at this; omega
            · omega
        · rcases b4 with b4 | b4
          · exact .inl b4
          · exact .inr (by omega)
  obtain ⟨t, e, b0, b1, b2, b3, _⟩ := key (allOf net) (Nat.le_refl _)
  rw [e]
  have hm := fewestEternal_min h
  have le : ∀ s, s < 2 ^ net.length → eternalB net s = true → size t ≤ size s := fun s hs he => by
    rcases Nat.lt_or_ge s (allOf net) with hlt | hge
    · exact b2 s hlt he
    · obtain rfl : s = allOf net := by omega
      rcases Nat.lt_or_ge t (allOf net) with ht | ht
      · exact Nat.le_of_lt (size_all_lt h ht)
      · rw [show t = allOf net by omega]; exact Nat.le_refl _
  have hsz : size t = fewestEternal net := MinOf.uniq ⟨⟨t, by omega, b1, rfl⟩, le⟩ hm
  exact ⟨by omega, b1, hsz, fun s hs he => by have := b3 s (by omega) hs he; omega⟩
noncomputable def firstPost (net : List Int) : Nat := fold (allOf net) (fpStep net) (allOf net)
theorem I.firstPostIn_n {net : List Int} (h : Ok net) : I.firstPostIn_t net = some ((firstPost net : Nat) : Int) := by
  unfold I.firstPostIn_t I.firstPostIn_tree firstPost
  have hall : allOf net = 2 ^ net.length - 1 := rfl
  have hp := Nat.two_pow_pos net.length
  have h6 := h.hi
  have h64 := h.pow
  have hll := lasts_len net
  rw [I.eternalIn_n h]
  simp only [optC]
  rw [I.allOf_n h]
  simp only
  have := (run_for (run := I.firstPostIn_run4 net) (len := allOf net) (fun k (t : Nat) => ((t : Int), (k : Int), lasts net)) (fpStep net) (fun t => (t : Int)) (fun k t => True) (by omega) (fun n k t hk ht => ?_) (fun n t ht => ?_) (t0 := allOf net) trivial).1
  · exact congrArg (fun o => optC o (fun q => some q) none) this
  · refine ⟨?_, trivial⟩
    simp only [I.firstPostIn_run4, I.firstPostIn_step4]
    rw [I.allOf_n h, I.sizeOf_n, I.sizeOf_n, add1_nat (by omega)]
    simp only [optC]
    rw [cnd_t (by rw [decide_eq_true_eq]; omega)]
    unfold fpStep
    by_cases hs : size k < size t
    · rw [cnd_t (by rw [decide_eq_true_eq]; omega), hll, cnd_t (by simp only [Bool.and_eq_true, decide_eq_true_eq]; omega), Int.toNat_natCast, cnd_t (by rw [decide_eq_true_eq]; omega), lasts_elb (by omega)]
      cases he : eternalB net k with
      | true => rw [cond_true, if_pos ⟨hs, rfl⟩]
      | false => rw [cond_false, if_neg (fun hc => by cases hc.2)]
    · rw [cnd_f (by rw [decide_eq_false_iff_not]; omega), if_neg (fun hc => hs hc.1)]
  · simp only [I.firstPostIn_run4, I.firstPostIn_step4]
    rw [I.allOf_n h]
    simp only [optC]
    rw [cnd_f (by rw [decide_eq_false_iff_not]; omega)]
theorem S.FirstPost_y {net : List Int} (h : Ok net) (e : S.NetOk_t net = some true) : S.FirstPost_t net = some ((firstPost net : Nat) : Int) := by
  unfold S.FirstPost_t S.FirstPost_tree
  have h64 := h.pow
  rw [S.EternalSets_y h e, S.FewestEternal_y h e]
  simp only [optC]
  have hll := listOfN_len (2 ^ net.length) (eternalB net)
  have hP : IsPost net (firstPost net) := fp_loop h
  have hmem := listOfN_mem (2 ^ net.length) (eternalB net)
  have hasc : ∀ j k, j < k → k < (listOfN (2 ^ net.length) (eternalB net)).length → D.eli (listOfN (2 ^ net.length) (eternalB net)) j < D.eli (listOfN (2 ^ net.length) (eternalB net)) k := fun j k a b => listOfN_asc a b
  have hel : ∀ k, k < (listOfN (2 ^ net.length) (eternalB net)).length → ∃ s : Nat, s < 2 ^ net.length ∧ eternalB net s = true ∧ D.eli (listOfN (2 ^ net.length) (eternalB net)) k = s := fun k hk => listOfN_eli hk
  generalize listOfN (2 ^ net.length) (eternalB net) = L at hll hmem hasc hel ⊢
  have l3 := (run_forE (run := S.FirstPost_run4 ((fewestEternal net : Nat) : Int)) (len := L.length) (fun k (_ : Unit) => ((k : Int), L)) (fun _ k => if size (D.eli L k).toNat = fewestEternal net then Sum.inl (D.eli L k) else Sum.inr ()) (fun d => Sum.inl d) (fun _ => Sum.inr ()) (fun k t => ∀ j, j < k → size (D.eli L j).toNat ≠ fewestEternal net) (by omega) (fun n k t hk ht => ?_) (fun n t ht => ?_) (t0 := ()) (fun j hj => by omega))
  · obtain ⟨l3, l4⟩ := l3
    rw [show S.FirstPost_run4 ((fewestEternal net : Nat) : Int) FUEL (0, L) = _ from l3]
    -- the place of the first post in the list
    obtain ⟨i, hi, hie⟩ := List.mem_iff_getElem.1 ((hmem ((firstPost net : Nat) : Int)).2 ⟨_, hP.lt, hP.et, rfl⟩)
    have hie2 : D.eli L i = ((firstPost net : Nat) : Int) := by unfold D.eli; simp [List.getD, hi, hie]
    have hpre : ∀ k, k ≤ i → loopE k (fun _ k => if size (D.eli L k).toNat = fewestEternal net then Sum.inl (D.eli L k) else Sum.inr ()) () = (Sum.inr () : Int ⊕ Unit) := by
      intro k
      induction k with
      | zero => intro _; rfl
      | succ k ih =>
        intro hk
        rw [loopE_succ (ih (by omega)), if_neg]
        obtain ⟨s, s1, s2, s3⟩ := hel k (by omega)
        have hlt := hasc k i (by omega) hi
        rw [hie2, s3] at hlt
        rw [s3, Int.toNat_natCast]
        exact hP.first s (by omega) s2
    have hat : loopE (i + 1) (fun _ k => if size (D.eli L k).toNat = fewestEternal net then Sum.inl (D.eli L k) else Sum.inr ()) () = (Sum.inl ((firstPost net : Nat) : Int) : Int ⊕ Unit) := by
      rw [loopE_succ (hpre i (Nat.le_refl _)), hie2, Int.toNat_natCast, if_pos hP.sz]
    have hend : ∀ m, loopE (i + 1 + m) (fun _ k => if size (D.eli L k).toNat = fewestEternal net then Sum.inl (D.eli L k) else Sum.inr ()) () = (Sum.inl ((firstPost net : Nat) : Int) : Int ⊕ Unit) := by
      intro m
      induction m with
      | zero => exact hat
      | succ m ih =>
        show loopE (i + 1 + m + 1) _ _ = _
        unfold loopE at ih ⊢
        rw [fold_succ, ih]
    have := hend (L.length - (i + 1))
    rw [show i + 1 + (L.length - (i + 1)) = L.length by omega] at this
    rw [this]
    rfl
  · obtain ⟨s, s1, s2, s3⟩ := hel k hk
    simp only [S.FirstPost_run4, S.FirstPost_step4]
    rw [cnd_t (by rw [decide_eq_true_eq]; omega), cnd_t (by simp only [Bool.and_eq_true, decide_eq_true_eq]; omega), Int.toNat_natCast, cnd_t (by rw [decide_eq_true_eq]; omega), s3, S.l1Size_n (by omega), Int.toNat_natCast]
    simp only [optC]
    rw [nat_beq]
    by_cases hs : size s = fewestEternal net
    · rw [if_pos hs, cnd_t (by simpa using hs), cnd_t (by simp only [Bool.and_eq_true, decide_eq_true_eq]; omega), cnd_t (by rw [decide_eq_true_eq]; omega)]
    · rw [if_neg hs, cnd_f (by simpa using hs), add1_nat (by omega)]
      refine ⟨rfl, fun j hj => ?_⟩
      by_cases hjk : j = k
      · rw [hjk, s3, Int.toNat_natCast]; exact hs
      · exact ht j (by omega)
  · simp only [S.FirstPost_run4, S.FirstPost_step4]
    rw [cnd_f (by rw [decide_eq_false_iff_not]; omega)]
end Go.Proofs.Ytgpgifpblchjjaa
