/- Several texts in one: J7, S8b, J8, S9b, J9, Kuhn, Jm, J10, J13, J15, Ch11b, Ch11c, S11, I11, L2, L3, I15, L4, I5, L5, Set, L15, Ex15. Conditions: those of each theorem. -/
import Derived.Test.YthcidiihfjjpdaaBzb1
import Derived.Test.YthcidiihfjjpdaaBzb0
/- The program's functions of chapter 7 in natural numbers. Conditions: those of each theorem. -/
namespace Go.Proofs.Ythcidiihfjjpdaa
open D Go.RowKit
set_option linter.unusedVariables false
set_option linter.unusedSimpArgs false


/-- The places that have just so many. -/
def eqN (n : Nat) (r : Nat → Nat) (m : Nat) : Nat := orN n (fun k => decide (r k = m)) (fun k => 2 ^ k)
theorem eqN_testBit (n : Nat) (r : Nat → Nat) (m j : Nat) : (eqN n r m).testBit j = true ↔ j < n ∧ r j = m := by
  unfold eqN
  rw [orN_testBit]
  constructor
  · rintro ⟨k, hk, a, b⟩
    rw [testBit_pow, decide_eq_true_eq] at b
    subst b
    exact ⟨hk, by simpa using a⟩
  · rintro ⟨a, b⟩
    exact ⟨j, a, by simpa using b, by rw [testBit_pow]; simp⟩
theorem eqN_lt (n : Nat) (r : Nat → Nat) (m : Nat) : eqN n r m < 2 ^ n := orN_lt fun k hk _ => Nat.pow_lt_pow_right (by omega) hk
theorem I.placesWith_n {n : Nat} {row : List Int} (hr : RowIs n row) (hn : n ≤ 6) (m : Nat) : I.placesWith_t row (m : Int) = some ((eqN n (rv row) m : Nat) : Int) := by
  unfold I.placesWith_t I.placesWith_tree
  have h64 := pow_le_64 hn
  have hl := hr.len
  have := (run_for (run := I.placesWith_run3 row m) (len := n) (fun k (t : Nat) => ((t : Int), (k : Int))) (fun t k => if decide (rv row k = m) = true then t ||| 2 ^ k else t) (fun t => (t : Int)) (fun k t => t < 2 ^ n) (by omega) (fun f k t hk ht => ?_) (fun f t ht => ?_) (t0 := 0) (Nat.two_pow_pos _)).1
  · exact congrArg (fun o => optC o (fun q => some q) none) this
  · have hpk : 2 ^ k < 2 ^ n := Nat.pow_lt_pow_right (by omega) hk
    simp only [I.placesWith_run3, I.placesWith_step3]
    rw [cnd_t (by simp; omega), cnd_t (by simp; omega), Int.toNat_natCast, hr.eq k hk]
    by_cases hm : rv row k = m
    · rw [cnd_t (by rw [beq_iff_eq]; omega), I.with_n (by omega) (by omega), if_pos (by simpa using hm)]
      simp only [optC]
      rw [add1_nat (by omega)]
      exact ⟨rfl, Nat.or_lt_two_pow ht hpk⟩
    · rw [cnd_f (by rw [beq_eq_false_iff_ne]; omega), add1_nat (by omega), if_neg (by simpa using hm)]; exact ⟨rfl, ht⟩
  · simp only [I.placesWith_run3, I.placesWith_step3]
    rw [cnd_f (by simp; omega)]
theorem roman_sets {net row : List Int} (h : Ok net) (hr : RowIs net.length row) : (minus (eqN net.length (rv row) 0) (near net (eqN net.length (rv row) 2)) == 0) = romanB net row := by
  have h64 := h.pow
  have a0 := eqN_lt net.length (rv row) 0
  have hn := h.near_lt (eqN net.length (rv row) 2)
  rw [Bool.eq_iff_iff, beq_iff_eq, romanB_iff]
  constructor
  · intro he k hk h0
    have h1 : (minus (eqN net.length (rv row) 0) (near net (eqN net.length (rv row) 2))).testBit k = false := by rw [he]; simp
    rw [minus_testBit _ _ (by omega) (by omega), (eqN_testBit _ _ _ _).2 ⟨hk, h0⟩, Bool.true_and, Bool.not_eq_false'] at h1
    obtain ⟨j, hj, b, c⟩ := (near_iff h _ hk).1 h1
    rw [eqN_testBit] at b
    exact ⟨j, hj, c, by omega⟩
  · intro hR
    refine Nat.eq_of_testBit_eq fun k => ?_
    rw [minus_testBit _ _ (by omega) (by omega), Nat.zero_testBit]
    cases hb : (eqN net.length (rv row) 0).testBit k with
    | false => rfl
    | true =>
      obtain ⟨hk, h0⟩ := (eqN_testBit _ _ _ _).1 hb
      obtain ⟨j, hj, b, c⟩ := hR k hk h0
      have h2 := hr.le j hj
      rw [(near_iff h _ hk).2 ⟨j, hj, (eqN_testBit _ _ _ _).2 ⟨hj, by omega⟩, b⟩]
      rfl
theorem best_row {net : List Int} (h : Ok net) : RowIs net.length (bestRow net.length (romanB net)) := by
  have h3 : 0 < 3 ^ net.length := Nat.pow_pos (by omega)
  rcases bestRow_fold h.lo (romanB net) (3 ^ net.length) with ⟨_, b⟩ | ⟨b, _, e, _⟩
  · have := b (3 ^ net.length - 1) (by omega)
    rw [roman_last h] at this; cases this
  · unfold bestRow; rw [e]; exact digs_row _ _
theorem row_ext {n : Nat} {l : List Int} {f : Nat → Int} (hl : l.length = n) (h : ∀ k, k < n → D.eli l k = f k) : l = fold n (fun l k => l ++ [f k]) [] := by
  apply List.ext_getElem (by rw [hl, fold_app_len])
  intro j hj hj2
  have a := h j (by omega)
  have b := fold_app_eli (n := n) (k := j) (f := f) (by omega)
  unfold D.eli at a b
  simp only [List.getD, List.getElem?_eq_getElem hj, List.getElem?_eq_getElem hj2, Option.getD_some] at a b
  rw [a, b]
end Go.Proofs.Ythcidiihfjjpdaa
/- GuardMoved in natural numbers. Conditions: those of each theorem. -/
namespace Go.Proofs.Ythcidiihfjjpdaa
open D Go.RowKit
set_option linter.unusedVariables false
set_option linter.unusedSimpArgs false


def mayMove (net : List Int) (s f t : Nat) : Bool := s.testBit f && (!s.testBit t && (nb net f).testBit t)
def movedI (net : List Int) (s f t : Int) : Int := if (0 ≤ s ∧ s < 2 ^ net.length) ∧ (0 ≤ f ∧ f < net.length) ∧ (0 ≤ t ∧ t < net.length) ∧ mayMove net s.toNat f.toNat t.toNat = true then ((moved s.toNat f.toNat t.toNat : Nat) : Int) else -1
theorem movedI_nat {net : List Int} {s f t : Nat} (hs : s < 2 ^ net.length) (hf : f < net.length) (ht : t < net.length) : movedI net s f t = if mayMove net s f t = true then ((moved s f t : Nat) : Int) else -1 := by
  unfold movedI
  simp only [Int.toNat_natCast]
  cases mayMove net s f t with
  | true => rw [if_pos ⟨⟨by omega, by rw [two_pow_cast]; omega⟩, ⟨by omega, by omega⟩, ⟨by omega, by omega⟩, rfl⟩, if_pos rfl]
  | false => rw [if_neg (fun hc => by have := hc.2.2.2; simp at this), if_neg (by simp)]
end Go.Proofs.Ythcidiihfjjpdaa
/- The program's functions of chapter 8 in natural numbers. Conditions: those of each theorem. -/
namespace Go.Proofs.Ythcidiihfjjpdaa
open D Go.RowKit
set_option linter.unusedVariables false
set_option linter.unusedSimpArgs false


/-- Can a guard come to a place without one? -/
def comeB (net : List Int) (s t : Nat) : Bool := (List.range net.length).any fun f => mayMove net s f t && W net (moved s f t)
theorem come_can {net : List Int} (h : Ok net) {s t : Nat} (ht : t < net.length) (hb : s.testBit t = false) : comeB net s t = canB net s t := by
  unfold comeB canB
  rw [Bool.eq_iff_iff, List.any_eq_true, List.any_eq_true]
  refine exists_congr fun f => and_congr_right fun hf => ?_
  have hf := List.mem_range.1 hf
  unfold mayMove
  rw [hb, h.sym t f ht hf]
  cases s.testBit f <;> cases (nb net f).testBit t <;> simp
/-- The places with guards, when one guard leaves a place. -/
def lessN (n : Nat) (r : Nat → Nat) (f : Nat) : Nat := if r f = 1 then (if (eqN n r 1 ||| eqN n r 2).testBit f = true then (eqN n r 1 ||| eqN n r 2) - 2 ^ f else eqN n r 1 ||| eqN n r 2) else eqN n r 1 ||| eqN n r 2
theorem guarded_lt (n : Nat) (r : Nat → Nat) : (eqN n r 1 ||| eqN n r 2) < 2 ^ n := Nat.or_lt_two_pow (eqN_lt _ _ _) (eqN_lt _ _ _)
theorem lessN_lt (n : Nat) (r : Nat → Nat) (f : Nat) : lessN n r f < 2 ^ n := by
  have := guarded_lt n r
  unfold lessN
  split
  · split
    · exact Nat.lt_of_le_of_lt (Nat.sub_le _ _) this
    · exact this
  · exact this
theorem lessN_leave {net row : List Int} (h : Ok net) (hr : RowIs net.length row) {f p : Nat} (hf : f < net.length) (hp : p < net.length) (h0 : rv row p = 0) (h1 : 1 ≤ rv row f) :
    (lessN net.length (rv row) f ||| 2 ^ p) = withN net.length (leave (rv row) f p) 1 := by
  have h6 := h.hi
  have h64 := h.pow
  have hg := guarded_lt net.length (rv row)
  have hlt := lessN_lt net.length (rv row) f
  have hpl : 2 ^ p < 2 ^ net.length := Nat.pow_lt_pow_right (by omega) hp
  have hgb : ∀ j, j < net.length → ((eqN net.length (rv row) 1 ||| eqN net.length (rv row) 2).testBit j = true ↔ 1 ≤ rv row j) := fun j hj => by
    have := hr.le j hj
    rw [or2, eqN_testBit, eqN_testBit]
    omega
  refine eq_of_bits (n := net.length) (Nat.or_lt_two_pow hlt hpl) (withN_lt _ _ _) (fun j hj => ?_)
  have hl := hr.le j hj
  rw [Bool.eq_iff_iff, or2, testBit_pow, decide_eq_true_eq, withN_testBit]
  unfold leave lessN
  by_cases hjp : j = p
  · subst hjp; simp [hj]
  · have hpj : ¬ p = j := fun e => hjp e.symm
    simp only [hpj, or_false, hj, true_and, if_neg hjp]
    by_cases hjf : j = f
    · subst hjf
      rw [if_pos rfl]
      by_cases e1 : rv row j = 1
      · rw [if_pos e1, if_pos ((hgb j hj).2 (by omega)), sub_testBit (by omega) (by omega) ((hgb j hj).2 (by omega)), Bool.and_eq_true, Bool.not_eq_true', decide_eq_false_iff_not]
        exact ⟨fun a => absurd rfl a.2, fun a => by omega⟩
      · rw [if_neg e1, hgb j hj]; omega
    · rw [if_neg hjf]
      by_cases e1 : rv row f = 1
      · rw [if_pos e1, if_pos ((hgb f hf).2 (by omega)), sub_testBit (by omega) (by omega) ((hgb f hf).2 (by omega)), Bool.and_eq_true, Bool.not_eq_true', decide_eq_false_iff_not, hgb j hj]
        exact ⟨fun a => a.1, fun a => ⟨a, hjf⟩⟩
      · rw [if_neg e1, hgb j hj]
end Go.Proofs.Ythcidiihfjjpdaa
/- AnsweredAll in natural numbers. Conditions: those of each theorem. -/
namespace Go.Proofs.Ythcidiihfjjpdaa
open D Go.RowKit
set_option linter.unusedVariables false
set_option linter.unusedSimpArgs false


/-- The set after one ask. -/
noncomputable def ansNext (net : List Int) (s p : Nat) : Nat := if s.testBit p = true then s else moved s (ansI net (lasts net) s p).toNat p
noncomputable def ansStep (net places : List Int) (t : Nat × List Int) (k : Nat) : List Int ⊕ (Nat × List Int) :=
  if 0 ≤ D.eli places k ∧ D.eli places k < net.length then .inr (ansNext net t.1 (D.eli places k).toNat, t.2 ++ [((ansNext net t.1 (D.eli places k).toNat : Nat) : Int)]) else .inl t.2
noncomputable def answered (net : List Int) (s : Nat) (places : List Int) : List Int := match loopE places.length (ansStep net places) (s, [(s : Int)]) with | .inl _ => [] | .inr t => t.2
noncomputable def answeredI (net : List Int) (s : Int) (places : List Int) : List Int := if (0 ≤ s ∧ s < 2 ^ net.length) ∧ eternalB net s.toNat = true then answered net s.toNat places else []
theorem ansI_eternal {net : List Int} {s p : Nat} (hs : s < 2 ^ net.length) (hp : p < net.length) (he : Eternal net s) (hb : s.testBit p = false) :
    ∃ f, f < net.length ∧ ansI net (lasts net) s p = (f : Int) ∧ s.testBit f = true ∧ (nb net p).testBit f = true ∧ Eternal net (moved s f p) := by
  rcases ansI_cases net (lasts net) s p with ⟨_, hno⟩ | ⟨f, hf, hg, hP⟩
  · exfalso
    obtain ⟨f, a, b, c⟩ := eternal_closed net s hs he p hp hb
    have := hno f (in_lt hs a)
    unfold ansP at this
    rw [a, b, lasts_elb (moved_lt hs hp), eternalB_iff.2 c] at this
    cases this
  · unfold ansP at hP
    rw [Bool.and_eq_true, Bool.and_eq_true, lasts_elb (moved_lt hs hp), eternalB_iff] at hP
    exact ⟨f, hf, hg, hP.1, hP.2.1, hP.2.2⟩
theorem ansNext_is {net : List Int} (h : Ok net) {s p : Nat} (hs : s < 2 ^ net.length) (hp : p < net.length) (he : Eternal net s) :
    ansNext net s p < 2 ^ net.length ∧ Eternal net (ansNext net s p) ∧ size (ansNext net s p) = size s ∧ (ansNext net s p).testBit p = true := by
  unfold ansNext
  have h6 := h.hi
  have h64 := h.pow
  cases hb : s.testBit p with
  | true => rw [if_pos rfl]; exact ⟨hs, he, rfl, hb⟩
  | false =>
    rw [if_neg (by simp)]
    obtain ⟨f, hf, e, a, _, c⟩ := ansI_eternal hs hp he hb
    rw [e, Int.toNat_natCast]
    exact ⟨moved_lt hs hp, c, moved_size (by omega) (by omega) (by omega) a hb, (moved_testBit (by omega) (by omega) a p).2 (.inr rfl)⟩
/-- What the list of answers holds. -/
def AnsInv (net places : List Int) (s k : Nat) (t : Nat × List Int) : Prop :=
  t.1 < 2 ^ net.length ∧ t.2.length = k + 1 ∧ D.eli t.2 0 = s ∧
  (∀ j, j ≤ k → ∃ u : Nat, D.eli t.2 j = u ∧ u < 2 ^ net.length ∧ Eternal net u ∧ size u = size s ∧ (j = k → u = t.1)) ∧
  ∀ j, j < k → ∃ p : Nat, D.eli places j = p ∧ p < net.length ∧ (D.eli t.2 (j + 1)).toNat.testBit p = true
theorem eli_app {l m : List Int} {k : Nat} (hk : k < l.length) : D.eli (l ++ m) k = D.eli l k := by
  unfold D.eli; simp [List.getD, List.getElem?_append_left hk]
theorem eli_app_end (l : List Int) (x : Int) : D.eli (l ++ [x]) l.length = x := by
  unfold D.eli; simp [List.getD]
theorem ans_inv {net : List Int} (h : Ok net) (places : List Int) {s : Nat} (hs : s < 2 ^ net.length) (he : Eternal net s) : ∀ k, ∀ t, loopE k (ansStep net places) (s, [(s : Int)]) = .inr t → AnsInv net places s k t := by
  intro k
  induction k with
  | zero =>
    intro t ht
    rw [loopE_zero] at ht
    injection ht with ht
    subst ht
    refine ⟨hs, rfl, rfl, fun j hj => ⟨s, ?_, hs, he, rfl, fun _ => rfl⟩, fun j hj => by omega⟩
    rw [show j = 0 by omega]; rfl
  | succ k ih =>
    intro t ht
    cases hq : loopE k (ansStep net places) (s, [(s : Int)]) with
    | inl d =>
      have e : loopE (k + 1) (ansStep net places) (s, [(s : Int)]) = .inl d := by unfold loopE at hq ⊢; rw [fold_succ, hq]
      rw [e] at ht; cases ht
    | inr u =>
      rw [loopE_succ hq] at ht
      obtain ⟨i1, i2, i3, i4, i5⟩ := ih u hq
      unfold ansStep at ht
      by_cases hp : 0 ≤ D.eli places k ∧ D.eli places k < net.length
      · rw [if_pos hp] at ht
        injection ht with ht
        subst ht
        obtain ⟨p, hp1⟩ : ∃ p : Nat, D.eli places k = p := ⟨(D.eli places k).toNat, by omega⟩
        rw [hp1, Int.toNat_natCast]
        have hp2 : p < net.length := by omega
        obtain ⟨w, w1, w2, w3, w4, w5⟩ := i4 k (Nat.le_refl _)
        have w6 := w5 rfl
        subst w6
        obtain ⟨n1, n2, n3, n4⟩ := ansNext_is h w2 hp2 w3
        have last : D.eli (u.2 ++ [((ansNext net u.1 p : Nat) : Int)]) (k + 1) = ((ansNext net u.1 p : Nat) : Int) := by rw [← i2]; exact eli_app_end _ _
        refine ⟨n1, by rw [List.length_append, i2]; rfl, by rw [eli_app (by omega)]; exact i3, fun j hj => ?_, fun j hj => ?_⟩
        · by_cases hjk : j = k + 1
          · subst hjk
            exact ⟨_, last, n1, n2, n3.trans w4, fun _ => rfl⟩
          · obtain ⟨v, v1, v2, v3, v4, _⟩ := i4 j (by omega)
            exact ⟨v, by rw [eli_app (by omega)]; exact v1, v2, v3, v4, fun e => absurd e hjk⟩
        · by_cases hjk : j = k
          · subst hjk
            exact ⟨p, hp1, hp2, by rw [last, Int.toNat_natCast]; exact n4⟩
          · obtain ⟨q, q1, q2, q3⟩ := i5 j (by omega)
            exact ⟨q, q1, q2, by rw [eli_app (by omega)]; exact q3⟩
      · rw [if_neg hp] at ht; cases ht
end Go.Proofs.Ythcidiihfjjpdaa
/- The program's functions of chapter 9 in natural numbers. Conditions: those of each theorem. -/
namespace Go.Proofs.Ythcidiihfjjpdaa
open D Go.RowKit
set_option linter.unusedVariables false
set_option linter.unusedSimpArgs false


/-- The sets in which one guard has moved. -/
def mvIn (net : List Int) (s f : Nat) (l : List Int) (t : Nat) : List Int := if mayMove net s f t = true then l ++ [((moved s f t : Nat) : Int)] else l
def mvOut (net : List Int) (s : Nat) (l : List Int) (f : Nat) : List Int := fold net.length (mvIn net s f) l
def mvs (net : List Int) (s : Nat) : List Int := fold net.length (mvOut net s) []
theorem mvIn_fold (net : List Int) (s f : Nat) (l : List Int) : ∀ m, (fold m (mvIn net s f) l).length ≤ l.length + m ∧ ∀ x, x ∈ fold m (mvIn net s f) l ↔ x ∈ l ∨ ∃ t, t < m ∧ mayMove net s f t = true ∧ x = ((moved s f t : Nat) : Int) := by
  intro m
  induction m with
  | zero => exact ⟨Nat.le_refl _, fun x => ⟨.inl, fun h => h.elim id fun ⟨t, ht, _⟩ => by omega⟩⟩
  | succ m ih =>
    rw [fold_succ]
    generalize fold m (mvIn net s f) l = g at ih ⊢
    obtain ⟨a, b⟩ := ih
    unfold mvIn
    by_cases hm : mayMove net s f m = true
    · rw [if_pos hm]
      refine ⟨by rw [List.length_append]; simp; omega, fun x => ?_⟩
      rw [List.mem_append, b, List.mem_singleton]
      constructor
      · rintro ((h | ⟨t, h1, h2⟩) | h)
        · exact .inl h
        · exact .inr ⟨t, by omega, h2⟩
        · exact .inr ⟨m, by omega, hm, h⟩
      · rintro (h | ⟨t, h1, h2, h3⟩)
        · exact .inl (.inl h)
        · by_cases he : t = m
          · subst he; exact .inr h3
          · exact .inl (.inr ⟨t, by omega, h2, h3⟩)
    · rw [if_neg hm]
      refine ⟨by omega, fun x => ?_⟩
      rw [b]
      constructor
      · rintro (h | ⟨t, h1, h2⟩)
        · exact .inl h
        · exact .inr ⟨t, by omega, h2⟩
      · rintro (h | ⟨t, h1, h2, h3⟩)
        · exact .inl h
        · by_cases he : t = m
          · subst he; exact absurd h2 hm
          · exact .inr ⟨t, by omega, h2, h3⟩
theorem mvOut_fold (net : List Int) (s : Nat) : ∀ m, (fold m (mvOut net s) []).length ≤ m * net.length ∧ ∀ x, x ∈ fold m (mvOut net s) [] ↔ ∃ f t, f < m ∧ t < net.length ∧ mayMove net s f t = true ∧ x = ((moved s f t : Nat) : Int) := by
  intro m
  induction m with
  | zero => exact ⟨Nat.zero_le _, fun x => ⟨fun h => (by cases h), fun ⟨f, t, hf, _⟩ => by omega⟩⟩
  | succ m ih =>
    rw [fold_succ]
    generalize fold m (mvOut net s) [] = g at ih ⊢
    obtain ⟨a, b⟩ := ih
    unfold mvOut
    obtain ⟨a2, b2⟩ := mvIn_fold net s m g net.length
    refine ⟨by rw [Nat.succ_mul]; omega, fun x => ?_⟩
    rw [b2, b]
    constructor
    · rintro (⟨f, t, h1, h2⟩ | ⟨t, h1, h2, h3⟩)
      · exact ⟨f, t, by omega, h2⟩
      · exact ⟨m, t, by omega, h1, h2, h3⟩
    · rintro ⟨f, t, h1, h2, h3, h4⟩
      by_cases he : f = m
      · subst he; exact .inr ⟨t, h2, h3, h4⟩
      · exact .inl ⟨f, t, by omega, h2, h3, h4⟩
theorem mvs_len {net : List Int} (h : Ok net) (s : Nat) : (mvs net s).length ≤ 36 := by
  have := (mvOut_fold net s net.length).1
  have h6 := h.hi
  have := Nat.mul_le_mul h6 h6
  unfold mvs
  omega
theorem mvs_mem (net : List Int) (s : Nat) (x : Int) : x ∈ mvs net s ↔ ∃ f t, f < net.length ∧ t < net.length ∧ mayMove net s f t = true ∧ x = ((moved s f t : Nat) : Int) := (mvOut_fold net s net.length).2 x
theorem mayMove_bit {net : List Int} {s f t : Nat} (h : mayMove net s f t = true) : s.testBit f = true ∧ s.testBit t = false ∧ (nb net f).testBit t = true := by
  unfold mayMove at h
  rw [Bool.and_eq_true, Bool.and_eq_true, Bool.not_eq_true'] at h
  exact ⟨h.1, h.2.1, h.2.2⟩
theorem elr_set {l : List (List Int)} {k j : Nat} {v : List Int} (hk : k < l.length) : D.elr (l.set k v) j = if j = k then v else D.elr l j := by
  unfold D.elr
  by_cases hj : j = k
  · subst hj; simp [List.getD, hk]
  · rw [if_neg hj]
    simp [List.getD, List.getElem?_set_ne (fun e => hj e.symm)]
theorem rows_ext {N : Nat} {l : List (List Int)} {f : Nat → List Int} (hl : l.length = N) (h : ∀ k, k < N → D.elr l k = f k) : l = (List.range N).map f := by
  apply List.ext_getElem (by simp [hl])
  intro j hj hj2
  have a := h j (by omega)
  unfold D.elr at a
  simp only [List.getD, List.getElem?_eq_getElem hj, Option.getD_some] at a
  rw [a]; simp
theorem rows_at {N k : Nat} {f : Nat → List Int} (hk : k < N) : D.elr ((List.range N).map f) k = f k := by unfold D.elr; simp [List.getD, hk]
/-- What is answered by going to sets that last. -/
def ansS (l : List Bool) (s : Nat) (L : List Int) : Nat := fold L.length (fun t k => if D.elb l (D.eli L k).toNat = true then t ||| (D.eli L k).toNat else t) s
theorem ansS_bit (l : List Bool) (s : Nat) (L : List Int) (j : Nat) : (ansS l s L).testBit j = true ↔ s.testBit j = true ∨ ∃ k, k < L.length ∧ D.elb l (D.eli L k).toNat = true ∧ (D.eli L k).toNat.testBit j = true := by
  unfold ansS
  generalize L.length = N
  induction N with
  | zero => exact ⟨.inl, fun h => h.elim id fun ⟨k, hk, _⟩ => by omega⟩
  | succ N ih =>
    rw [fold_succ]
    by_cases hb : D.elb l (D.eli L N).toNat = true
    · rw [if_pos hb, Nat.testBit_or, Bool.or_eq_true, ih]
      constructor
      · rintro ((h | ⟨k, h1, h2⟩) | h)
        · exact .inl h
        · exact .inr ⟨k, by omega, h2⟩
        · exact .inr ⟨N, by omega, hb, h⟩
      · rintro (h | ⟨k, h1, h2, h3⟩)
        · exact .inl (.inl h)
        · by_cases he : k = N
          · subst he; exact .inr h3
          · exact .inl (.inr ⟨k, by omega, h2, h3⟩)
    · rw [if_neg hb, ih]
      constructor
      · rintro (h | ⟨k, h1, h2⟩)
        · exact .inl h
        · exact .inr ⟨k, by omega, h2⟩
      · rintro (h | ⟨k, h1, h2, h3⟩)
        · exact .inl h
        · by_cases he : k = N
          · subst he; exact absurd h2 hb
          · exact .inr ⟨k, by omega, h2, h3⟩
def Among (n : Nat) (L : List Int) : Prop := L.length ≤ 1000 ∧ ∀ k, k < L.length → ∃ u : Nat, D.eli L k = (u : Int) ∧ u < 2 ^ n
theorem ansS_lt {n : Nat} {l : List Bool} {s : Nat} {L : List Int} (hs : s < 2 ^ n) (hL : Among n L) : ∀ N, N ≤ L.length → fold N (fun t k => if D.elb l (D.eli L k).toNat = true then t ||| (D.eli L k).toNat else t) s < 2 ^ n := by
  intro N
  induction N with
  | zero => intro _; exact hs
  | succ N ih =>
    intro hN
    rw [fold_succ]
    have := ih (by omega)
    split
    · obtain ⟨u, e, hu⟩ := hL.2 N (by omega)
      rw [e, Int.toNat_natCast]
      exact Nat.or_lt_two_pow this hu
    · exact this
theorem ansS_lt2 {n : Nat} {l : List Bool} {s : Nat} {L : List Int} (hs : s < 2 ^ n) (hL : Among n L) : ansS l s L < 2 ^ n := ansS_lt hs hL _ (Nat.le_refl _)
theorem all_bits {net : List Int} {x : Nat} (hx : x < 2 ^ net.length) : (x == allOf net) = true ↔ ∀ k, k < net.length → x.testBit k = true := by
  rw [beq_iff_eq]
  constructor
  · intro e k hk; rw [e, allOf_testBit]; simpa using hk
  · intro ha
    exact eq_of_bits hx (allOf_lt net) (fun j hj => by rw [ha j hj, allOf_testBit]; simp [hj])
theorem mem_at {L : List Int} {x : Int} (h : x ∈ L) : ∃ k, k < L.length ∧ D.eli L k = x := by
  obtain ⟨k, hk, e⟩ := List.getElem_of_mem h
  exact ⟨k, hk, by unfold D.eli; simp [List.getD, hk, e]⟩
theorem at_mem {L : List Int} {k : Nat} (hk : k < L.length) : D.eli L k ∈ L := by
  have : D.eli L k = L[k] := by unfold D.eli; simp [List.getD, hk]
  rw [this]; exact List.getElem_mem hk
theorem mvs_among {net : List Int} (h : Ok net) {s : Nat} (hs : s < 2 ^ net.length) : Among net.length (mvs net s) := by
  refine ⟨by have := mvs_len h s; omega, fun k hk => ?_⟩
  obtain ⟨f, t, _, ht, _, e⟩ := (mvs_mem net s _).1 (at_mem hk)
  exact ⟨_, e, moved_lt hs ht⟩
theorem fewest_marks {net : List Int} (h : Ok net) {l : List Bool} (hl : l.length = 2 ^ net.length) {p : Nat → Bool} (hp : ∀ s, s < 2 ^ net.length → D.elb l s = p s) (hex : ∃ s, s < 2 ^ net.length ∧ p s = true) :
    fold l.length (minStepV (D.elb l) size) (-1) = ((minSize net p : Nat) : Int) := by
  rw [← minI_min h hex, hl]
  unfold minI
  rw [minStep_V]
  have key : ∀ N, N ≤ 2 ^ net.length → fold N (minStepV (D.elb l) size) (-1) = fold N (minStepV p size) (-1) := by
    intro N
    induction N with
    | zero => intro _; rfl
    | succ N ih =>
      intro hN
      rw [fold_succ, fold_succ, ih (by omega)]
      unfold minStepV
      rw [hp N (by omega)]
  exact key _ (Nat.le_refl _)
end Go.Proofs.Ythcidiihfjjpdaa
/- All guards move: a place for one more guard, who is matched already may have to take another one. Conditions: those of each theorem. -/
namespace Go.Proofs.Ythcidiihfjjpdaa
open D Go.RowKit
set_option linter.unusedVariables false
set_option linter.unusedSimpArgs false

theorem cnt_some {n : Nat} {P : Nat → Bool} (h : 1 ≤ cnt n P) : ∃ p, p < n ∧ P p = true := Classical.byContradiction fun hc => by
  have : cnt n P = cnt n (fun _ => false) := cnt_congr fun k hk => not_true fun hP => hc ⟨k, hk, hP⟩
  have hz : cnt n (fun _ => false) = 0 := sumN_zero n
  omega
theorem cnt_once {n : Nat} {P : Nat → Bool} (h : cnt n P ≤ 1) {p q : Nat} (hp : p < n) (hq : q < n) (a : P p = true) (b : P q = true) : p = q := Classical.byContradiction fun hne => by
  have := cnt_inj (n := 2) (m := n) (p := fun _ => true) (q := P) (fun k => if k = 0 then p else q) (fun k hk _ => by
    show (if k = 0 then p else q) < n ∧ P (if k = 0 then p else q) = true
    split
    · exact ⟨hp, a⟩
    · exact ⟨hq, b⟩) (fun j k hj hk _ _ he => by
    by_cases h1 : j = 0 <;> by_cases h2 : k = 0 <;> simp only [h1, h2, if_true, if_false] at he <;> omega)
  rw [cnt_true] at this
  omega
/-- Whom a place has is near, and the place is one of the new ones. -/
def KValid (net : List Int) (to : Nat) (c : Nat → Nat) : Prop := ∀ p, p < 6 → c p ≠ 0 → to.testBit p = true ∧ (ball net (c p - 1)).testBit p = true ∧ c p ≤ net.length
def upd (c : Nat → Nat) (k v p : Nat) : Nat := if p = k then v else c p
structure KOut (net : List Int) (to g T : Nat) (c : Nat → Nat) (T' : Nat) (c' : Nat → Nat) (f : Bool) : Prop where
  lt : T' < 2 ^ net.length
  sub : ∀ p, T.testBit p = true → T'.testBit p = true
  no : f = false → (∀ p, p < 6 → c' p = c p) ∧ (∀ p, to.testBit p = true → (ball net g).testBit p = true → T'.testBit p = true) ∧
    ∀ p, T'.testBit p = true → T.testBit p = false → c p ≠ 0 ∧ ∀ q, to.testBit q = true → (ball net (c p - 1)).testBit q = true → T'.testBit q = true
  yes : f = true → (∀ p, p < 6 → T.testBit p = true → c' p = c p) ∧ KValid net to c' ∧ ∀ x, cnt 6 (fun p => !T.testBit p && c' p == x + 1) = cnt 6 (fun p => !T.testBit p && c p == x + 1) + (decide (x = g)).toNat
structure KInv (net : List Int) (to g T0 : Nat) (c : Nat → Nat) (k T : Nat) : Prop where
  lt : T < 2 ^ net.length
  sub : ∀ p, T0.testBit p = true → T.testBit p = true
  done : ∀ p, p < k → to.testBit p = true → (ball net g).testBit p = true → T.testBit p = true
  clo : ∀ p, T.testBit p = true → T0.testBit p = false → c p ≠ 0 ∧ ∀ q, to.testBit q = true → (ball net (c p - 1)).testBit q = true → T.testBit q = true
theorem kinv_start {net : List Int} {to g T0 : Nat} {c : Nat → Nat} (h : T0 < 2 ^ net.length) : KInv net to g T0 c 0 T0 :=
  ⟨h, fun p hp => hp, fun p hp => by omega, fun p hp hn => by rw [hp] at hn; cases hn⟩
theorem kinv_skip {net : List Int} {to g T0 : Nat} {c : Nat → Nat} {k T : Nat} (h : KInv net to g T0 c k T) (hc : to.testBit k = true → (ball net g).testBit k = true → T.testBit k = true) : KInv net to g T0 c (k + 1) T :=
  ⟨h.lt, h.sub, fun p hp a b => by
    by_cases he : p = k
    · subst he; exact hc a b
    · exact h.done p (by omega) a b, h.clo⟩
theorem or_pow {T k p : Nat} : (T ||| 2 ^ k).testBit p = true ↔ T.testBit p = true ∨ p = k := by
  rw [Nat.testBit_or, testBit_pow, Bool.or_eq_true, decide_eq_true_eq]
  exact ⟨fun a => a.imp id Eq.symm, fun a => a.imp id Eq.symm⟩
theorem or_pow_f {T k p : Nat} : (T ||| 2 ^ k).testBit p = false ↔ T.testBit p = false ∧ p ≠ k := by
  rw [Nat.testBit_or, testBit_pow, Bool.or_eq_false_iff, decide_eq_false_iff_not]
  exact ⟨fun a => ⟨a.1, fun e => a.2 e.symm⟩, fun a => ⟨a.1, fun e => a.2 e.symm⟩⟩
theorem kinv_fail {net : List Int} {to g T0 : Nat} {c : Nat → Nat} {k T T2 : Nat} {c2 : Nat → Nat} (h : KInv net to g T0 c k T) (hck : c k ≠ 0)
    (ho : KOut net to (c k - 1) (T ||| 2 ^ k) c T2 c2 false) : KInv net to g T0 c (k + 1) T2 := by
  obtain ⟨h1, h2, h3⟩ := ho.no rfl
  have hTT : ∀ p, T.testBit p = true → T2.testBit p = true := fun p hp => ho.sub p (or_pow.2 (.inl hp))
  refine ⟨ho.lt, fun p hp => hTT p (h.sub p hp), fun p hp a b => ?_, fun p hp hn => ?_⟩
  · by_cases he : p = k
    · subst he; exact ho.sub p (or_pow.2 (.inr rfl))
    · exact hTT p (h.done p (by omega) a b)
  · by_cases he : p = k
    · subst he
      exact ⟨hck, h2⟩
    · cases hT : T.testBit p with
      | true =>
        obtain ⟨a, b⟩ := h.clo p hT hn
        exact ⟨a, fun q hq hb => hTT q (b q hq hb)⟩
      | false => exact h3 p hp (or_pow_f.2 ⟨hT, he⟩)
theorem kout_end {net : List Int} (h : Ok net) {to g T0 : Nat} {c : Nat → Nat} {T : Nat} (hg : g < net.length) (hi : KInv net to g T0 c net.length T) : KOut net to g T0 c T c false :=
  ⟨hi.lt, hi.sub, fun _ => ⟨fun _ _ => rfl, fun p a b => hi.done p (testBit_lt (h.ball_lt hg) b) a b, hi.clo⟩, fun hf => (by cases hf)⟩
theorem kout_free {net : List Int} {to g T0 : Nat} {c : Nat → Nat} {k T : Nat} (hn : net.length ≤ 6) (hi : KInv net to g T0 c k T) (hv : KValid net to c) (hg : g < net.length) (hk : k < net.length)
    (a : to.testBit k = true) (b : (ball net g).testBit k = true) (hT : T.testBit k = false) (hck : c k = 0) : KOut net to g T0 c (T ||| 2 ^ k) (upd c k (g + 1)) true := by
  have hT0 : T0.testBit k = false := not_true fun hc => by rw [hi.sub k hc] at hT; cases hT
  refine ⟨Nat.or_lt_two_pow hi.lt (Nat.pow_lt_pow_right (by omega) hk), fun p hp => or_pow.2 (.inl (hi.sub p hp)), fun hf => (by cases hf), fun _ => ⟨fun p hp hT2 => ?_, fun p hp h0 => ?_, fun x => ?_⟩⟩
  · unfold upd
    rw [if_neg (fun he => by rw [he, hT0] at hT2; cases hT2)]
  · unfold upd at h0 ⊢
    by_cases he : p = k
    · simp only [he, if_true]
      exact ⟨a, by simpa using b, by omega⟩
    · rw [if_neg he] at h0 ⊢
      exact hv p hp h0
  · have hs := sumN_add 6 (fun p => (!T0.testBit p && c p == x + 1).toNat) (fun p => (decide (p = k) && decide (x = g)).toNat)
    have e1 : sumN 6 (fun p => (decide (p = k) && decide (x = g)).toNat) = (decide (x = g)).toNat := by
      rw [sumN_one (k := k) (by omega) (fun j _ hj => by simp [hj])]
      simp
    rw [e1] at hs
    show sumN 6 _ = sumN 6 _ + _
    rw [← hs]
    refine sumN_congr fun p hp => ?_
    show (!T0.testBit p && upd c k (g + 1) p == x + 1).toNat = (!T0.testBit p && c p == x + 1).toNat + (decide (p = k) && decide (x = g)).toNat
    unfold upd
    by_cases he : p = k
    · subst he
      rw [hT0, hck]
      by_cases hx : x = g
      · subst hx; simp
      · have : ¬ g = x := fun e => hx e.symm
        simp [hx, this]
    · rw [if_neg he]
      simp [he]
theorem kout_take {net : List Int} {to g T0 : Nat} {c : Nat → Nat} {k T T2 : Nat} {c2 : Nat → Nat} (hn : net.length ≤ 6) (hi : KInv net to g T0 c k T) (hg : g < net.length) (hk : k < net.length)
    (a : to.testBit k = true) (b : (ball net g).testBit k = true) (hT : T.testBit k = false) (hck : c k ≠ 0) (ho : KOut net to (c k - 1) (T ||| 2 ^ k) c T2 c2 true) : KOut net to g T0 c T2 (upd c2 k (g + 1)) true := by
  obtain ⟨h1, h2, h3⟩ := ho.yes rfl
  have hT0 : T0.testBit k = false := not_true fun hc => by rw [hi.sub k hc] at hT; cases hT
  refine ⟨ho.lt, fun p hp => ho.sub p (or_pow.2 (.inl (hi.sub p hp))), fun hf => (by cases hf), fun _ => ⟨fun p hp hT2 => ?_, fun p hp h0 => ?_, fun x => ?_⟩⟩
  · unfold upd
    rw [if_neg (fun he => by rw [he, hT0] at hT2; cases hT2)]
    exact h1 p hp (or_pow.2 (.inl (hi.sub p hT2)))
  · unfold upd at h0 ⊢
    by_cases he : p = k
    · simp only [he, if_true]
      exact ⟨a, by simpa using b, by omega⟩
    · rw [if_neg he] at h0 ⊢
      exact h2 p hp h0
  · have h3x := h3 x
    have hone : ∀ y : Nat, sumN 6 (fun p => (decide (p = k) && decide (x = y)).toNat) = (decide (x = y)).toNat := fun y => by
      rw [sumN_one (k := k) (by omega) (fun j _ hj => by simp [hj])]
      simp
    have hL := sumN_add 6 (fun p => (!T0.testBit p && upd c2 k (g + 1) p == x + 1).toNat) (fun p => (!(T ||| 2 ^ k).testBit p && c p == x + 1).toNat + (decide (p = k) && decide (x = c k - 1)).toNat)
    have hL2 := sumN_add 6 (fun p => (!(T ||| 2 ^ k).testBit p && c p == x + 1).toNat) (fun p => (decide (p = k) && decide (x = c k - 1)).toNat)
    have hR := sumN_add 6 (fun p => (!T0.testBit p && c p == x + 1).toNat) (fun p => (!(T ||| 2 ^ k).testBit p && c2 p == x + 1).toNat + (decide (p = k) && decide (x = g)).toNat)
    have hR2 := sumN_add 6 (fun p => (!(T ||| 2 ^ k).testBit p && c2 p == x + 1).toNat) (fun p => (decide (p = k) && decide (x = g)).toNat)
    have hE := sumN_congr (n := 6) (f := fun p => (!T0.testBit p && upd c2 k (g + 1) p == x + 1).toNat + ((!(T ||| 2 ^ k).testBit p && c p == x + 1).toNat + (decide (p = k) && decide (x = c k - 1)).toNat))
      (g := fun p => (!T0.testBit p && c p == x + 1).toNat + ((!(T ||| 2 ^ k).testBit p && c2 p == x + 1).toNat + (decide (p = k) && decide (x = g)).toNat)) (fun p hp => by
        unfold upd
        by_cases he : p = k
        · subst he
          rw [hT0, or_pow.2 (.inr rfl)]
          have e1 : (g + 1 == x + 1) = decide (x = g) := by rw [Bool.eq_iff_iff, beq_iff_eq, decide_eq_true_eq]; omega
          have e2 : (c p == x + 1) = decide (x = c p - 1) := by rw [Bool.eq_iff_iff, beq_iff_eq, decide_eq_true_eq]; omega
          simp only [if_true, Bool.not_false, Bool.not_true, Bool.true_and, Bool.false_and, e1, e2, decide_true]
          simp only [Bool.toNat_false]
          omega
        · simp only [if_neg he, decide_eq_false he, Bool.false_and, Bool.toNat_false, Nat.add_zero]
          cases hTp : (T ||| 2 ^ k).testBit p with
          | true => rw [h1 p hp hTp]
          | false =>
            have : T0.testBit p = false := not_true fun hc => by
              have := (or_pow_f.1 hTp).1
              rw [hi.sub p hc] at this; cases this
            rw [this]
            simp only [Bool.not_false, Bool.true_and]
            omega)
    rw [hone] at hL2 hR2
    have e0 : cnt 6 (fun p => !T0.testBit p && upd c2 k (g + 1) p == x + 1) = sumN 6 (fun p => (!T0.testBit p && upd c2 k (g + 1) p == x + 1).toNat) := rfl
    have e1 : cnt 6 (fun p => !T0.testBit p && c p == x + 1) = sumN 6 (fun p => (!T0.testBit p && c p == x + 1).toNat) := rfl
    have e2 : cnt 6 (fun p => !(T ||| 2 ^ k).testBit p && c2 p == x + 1) = sumN 6 (fun p => (!(T ||| 2 ^ k).testBit p && c2 p == x + 1).toNat) := rfl
    have e3 : cnt 6 (fun p => !(T ||| 2 ^ k).testBit p && c p == x + 1) = sumN 6 (fun p => (!(T ||| 2 ^ k).testBit p && c p == x + 1).toNat) := rfl
    rw [hL2] at hL
    rw [hR2] at hR
    rw [hE] at hL
    omega
/-- Those of the guards below k that are in a set have one place each. -/
def KDone (src : Nat) (c : Nat → Nat) (k : Nat) : Prop := ∀ x, cnt 6 (fun p => c p == x + 1) = (decide (x < k) && src.testBit x).toNat
theorem kdone_start (src : Nat) {c : Nat → Nat} (hc : ∀ p, p < 6 → c p = 0) : KDone src c 0 := fun x => by
  rw [cnt_congr (q := fun _ => false) (fun p hp => by rw [hc p hp]; simp)]
  exact sumN_zero 6
theorem kdone_skip {src k : Nat} {c : Nat → Nat} (h : KDone src c k) (hb : src.testBit k = false) : KDone src c (k + 1) := fun x => by
  rw [h x]
  congr 1
  by_cases he : x = k
  · subst he; rw [hb, Bool.and_false, Bool.and_false]
  · congr 1
    rw [decide_eq_decide]; omega
theorem cnt_zero_T {c : Nat → Nat} (x : Nat) : cnt 6 (fun p => !(0 : Nat).testBit p && c p == x + 1) = cnt 6 (fun p => c p == x + 1) := cnt_congr fun p _ => by simp
theorem kdone_step {net : List Int} {src to k T' : Nat} {c c' : Nat → Nat} (h : KDone src c k) (hb : src.testBit k = true) (ho : KOut net to k 0 c T' c' true) : KDone src c' (k + 1) := fun x => by
  have := (ho.yes rfl).2.2 x
  rw [cnt_zero_T, cnt_zero_T, h x] at this
  rw [this]
  by_cases he : x = k
  · subst he; simp [hb]
  · have e1 : decide (x < k + 1) = decide (x < k) := by rw [decide_eq_decide]; omega
    rw [e1, decide_eq_false he]; simp
theorem kuhn_no {net : List Int} (h : Ok net) {src to k T' : Nat} {c c' : Nat → Nat} (hto : to < 2 ^ net.length) (hd : KDone src c k) (hb : src.testBit k = true) (ho : KOut net to k 0 c T' c' false) : ¬ FitP net src 0 to := by
  rintro ⟨f, f1, f2⟩
  obtain ⟨_, h2, h3⟩ := ho.no rfl
  have h6 := h.hi
  have hT6 : ∀ p, T'.testBit p = true → p < 6 := fun p hp => by have := testBit_lt ho.lt hp; omega
  have hin : ∀ p, T'.testBit p = true → c p ≠ 0 ∧ c p - 1 < k ∧ src.testBit (c p - 1) = true := fun p hp => by
    have h0 := (h3 p hp (by simp)).1
    have hc := hd (c p - 1)
    have h1 : 1 ≤ cnt 6 (fun q => c q == c p - 1 + 1) := by
      have := cnt_inj (n := 1) (m := 6) (p := fun _ => true) (q := fun q => c q == c p - 1 + 1) (fun _ => p) (fun j _ _ => ⟨hT6 p hp, by simp only [beq_iff_eq]; omega⟩) (fun i j hi hj _ _ _ => by omega)
      rw [cnt_true] at this
      exact this
    rw [hc] at h1
    cases hx : decide (c p - 1 < k) && src.testBit (c p - 1) with
    | false => rw [hx] at h1; simp at h1
    | true =>
      rw [Bool.and_eq_true, decide_eq_true_eq] at hx
      exact ⟨h0, hx.1, hx.2⟩
  have hinj : ∀ p q, T'.testBit p = true → T'.testBit q = true → c p = c q → p = q := fun p q hp hq he => by
    have hc := hd (c p - 1)
    have h0 := (hin p hp).1
    exact cnt_once (n := 6) (P := fun r => c r == c p - 1 + 1) (by rw [hc]; cases (decide (c p - 1 < k) && src.testBit (c p - 1)) <;> simp) (hT6 p hp) (hT6 q hq) (by simp only [beq_iff_eq]; omega) (by simp only [beq_iff_eq]; omega)
  have key := cnt_inj (n := 7) (m := 6) (p := fun p => decide (p = 6) || T'.testBit p) (q := fun p => T'.testBit p) (fun p => if p = 6 then f k else f (c p - 1)) (fun p hp hP => by
    by_cases he : p = 6
    · rw [if_pos he]
      obtain ⟨a, b⟩ := f1 k (by omega) hb
      have := h2 _ a b
      exact ⟨hT6 _ this, this⟩
    · rw [if_neg he]
      have hTp : T'.testBit p = true := by simpa [he] using hP
      obtain ⟨a, b⟩ := f1 (c p - 1) (by omega) (hin p hTp).2.2
      have := (h3 p hTp (by simp)).2 _ a b
      exact ⟨hT6 _ this, this⟩) (fun p q hp hq hP hQ he => by
    by_cases e1 : p = 6
    · by_cases e2 : q = 6
      · omega
      · rw [if_pos e1, if_neg e2] at he
        have hTq : T'.testBit q = true := by simpa [e2] using hQ
        obtain ⟨_, a, b⟩ := hin q hTq
        have := f2 k (c q - 1) (by omega) (by omega) hb b he
        omega
    · have hTp : T'.testBit p = true := by simpa [e1] using hP
      obtain ⟨a0, a, b⟩ := hin p hTp
      by_cases e2 : q = 6
      · rw [if_neg e1, if_pos e2] at he
        have := f2 (c p - 1) k (by omega) (by omega) b hb he
        omega
      · rw [if_neg e1, if_neg e2] at he
        have hTq : T'.testBit q = true := by simpa [e2] using hQ
        obtain ⟨b0, a2, b2⟩ := hin q hTq
        have := f2 (c p - 1) (c q - 1) (by omega) (by omega) b b2 he
        exact hinj p q hTp hTq (by omega))
  have e7 : cnt 7 (fun p => decide (p = 6) || T'.testBit p) = cnt 6 (fun p => decide (p = 6) || T'.testBit p) + 1 := rfl
  rw [e7, cnt_congr (q := fun p => T'.testBit p) (fun p hp => by simp [show p ≠ 6 by omega])] at key
  omega
theorem kuhn_yes {net : List Int} (h : Ok net) {src to : Nat} {c : Nat → Nat} (hs : src < 2 ^ net.length) (hv : KValid net to c) (hd : KDone src c net.length) : FitP net src 0 to := by
  have hex : ∀ x, ∃ p, src.testBit x = true → p < 6 ∧ c p = x + 1 := fun x => by
    cases hb : src.testBit x with
    | false => exact ⟨0, fun hc => by cases hc⟩
    | true =>
      have hx := in_lt hs hb
      have hc := hd x
      rw [hb, decide_eq_true hx] at hc
      obtain ⟨p, hp, he⟩ := cnt_some (n := 6) (P := fun p => c p == x + 1) (by rw [hc]; decide)
      exact ⟨p, fun _ => ⟨hp, by simpa using he⟩⟩
  refine ⟨fun x => (hex x).choose, fun x _ hb => ?_, fun x y _ _ hx hy he => ?_⟩
  · obtain ⟨hp, hc⟩ := (hex x).choose_spec hb
    obtain ⟨a, b, _⟩ := hv _ hp (by omega)
    exact ⟨a, by rw [hc] at b; exact b⟩
  · obtain ⟨_, hc⟩ := (hex x).choose_spec hx
    obtain ⟨_, hc2⟩ := (hex y).choose_spec hy
    simp only at he
    rw [he] at hc
    omega
end Go.Proofs.Ythcidiihfjjpdaa
/- A new place for each guard: the program's matching. Conditions: those of each theorem. -/
namespace Go.Proofs.Ythcidiihfjjpdaa
open D Go.RowKit
set_option linter.unusedVariables false
set_option linter.unusedSimpArgs false


/-- The answer of a matching, in Go's numbers. -/
def kAns (c : Nat → Nat) (T : Nat) (f : Bool) : Int × Int × Int × Int × Int × Int × Int × Bool := (((c 0 : Nat) : Int), ((c 1 : Nat) : Int), ((c 2 : Nat) : Int), ((c 3 : Nat) : Int), ((c 4 : Nat) : Int), ((c 5 : Nat) : Int), ((T : Nat) : Int), f)
theorem eli6 (c : Nat → Nat) {k : Nat} (hk : k < 6) : D.eli [((c 0 : Nat) : Int), ((c 1 : Nat) : Int), ((c 2 : Nat) : Int), ((c 3 : Nat) : Int), ((c 4 : Nat) : Int), ((c 5 : Nat) : Int)] k = ((c k : Nat) : Int) := by
  match k, hk with
  | 0, _ => rfl
  | 1, _ => rfl
  | 2, _ => rfl
  | 3, _ => rfl
  | 4, _ => rfl
  | 5, _ => rfl
theorem upd_bif (c : Nat → Nat) (k v j : Nat) : (bif ((k : Nat) : Int) == ((j : Nat) : Int) then ((v : Nat) : Int) else ((c j : Nat) : Int)) = ((upd c k v j : Nat) : Int) := by
  rw [nat_beq]
  unfold upd
  by_cases h : j = k
  · subst h; simp
  · rw [if_neg h]
    have : (k == j) = false := by rw [beq_eq_false_iff_ne]; exact fun e => h e.symm
    rw [this]; rfl
theorem upd_b0 (c : Nat → Nat) (k v : Nat) : (bif ((k : Nat) : Int) == (0 : Int) then ((v : Nat) : Int) else ((c 0 : Nat) : Int)) = ((upd c k v 0 : Nat) : Int) := upd_bif c k v 0
theorem upd_b1 (c : Nat → Nat) (k v : Nat) : (bif ((k : Nat) : Int) == (0 + 1 : Int) then ((v : Nat) : Int) else ((c 1 : Nat) : Int)) = ((upd c k v 1 : Nat) : Int) := upd_bif c k v 1
theorem upd_b2 (c : Nat → Nat) (k v : Nat) : (bif ((k : Nat) : Int) == (0 + 1 + 1 : Int) then ((v : Nat) : Int) else ((c 2 : Nat) : Int)) = ((upd c k v 2 : Nat) : Int) := upd_bif c k v 2
theorem upd_b3 (c : Nat → Nat) (k v : Nat) : (bif ((k : Nat) : Int) == (0 + 1 + 1 + 1 : Int) then ((v : Nat) : Int) else ((c 3 : Nat) : Int)) = ((upd c k v 3 : Nat) : Int) := upd_bif c k v 3
theorem upd_b4 (c : Nat → Nat) (k v : Nat) : (bif ((k : Nat) : Int) == (0 + 1 + 1 + 1 + 1 : Int) then ((v : Nat) : Int) else ((c 4 : Nat) : Int)) = ((upd c k v 4 : Nat) : Int) := upd_bif c k v 4
theorem upd_b5 (c : Nat → Nat) (k v : Nat) : (bif ((k : Nat) : Int) == (0 + 1 + 1 + 1 + 1 + 1 : Int) then ((v : Nat) : Int) else ((c 5 : Nat) : Int)) = ((upd c k v 5 : Nat) : Int) := upd_bif c k v 5
end Go.Proofs.Ythcidiihfjjpdaa
/- The program's functions of chapter 10 in natural numbers. Conditions: those of each theorem. -/
namespace Go.Proofs.Ythcidiihfjjpdaa
open D Go.RowKit
set_option linter.unusedVariables false
set_option linter.unusedSimpArgs false


/-- The sets to which all can move. -/
noncomputable def avs (net : List Int) (s : Nat) : List Int := listOfN (2 ^ net.length) (allMoveB net s)
theorem avs_among {net : List Int} (h : Ok net) (s : Nat) : Among net.length (avs net s) := by
  have h64 := h.pow
  refine ⟨by have := listOfN_len (2 ^ net.length) (allMoveB net s); unfold avs; omega, fun k hk => ?_⟩
  obtain ⟨u, hu, _, e⟩ := listOfN_eli hk
  exact ⟨u, e, hu⟩
end Go.Proofs.Ythcidiihfjjpdaa
/- The program's functions of chapter 13 (at ae9a42a), and PlayMay, in natural numbers. Conditions: those of each theorem. -/
namespace Go.Proofs.Ythcidiihfjjpdaa
open D Go.RowKit
set_option linter.unusedVariables false
set_option linter.unusedSimpArgs false


theorem eli_ext {l m : List Int} (hl : l.length = m.length) (h : ∀ k, k < l.length → D.eli l k = D.eli m k) : l = m := by
  refine List.ext_getElem hl fun k h1 h2 => ?_
  have := h k h1
  unfold D.eli at this
  simpa [List.getD, h1, h2] using this
theorem RG.nx_len {r : List Nat} (h : RG r) : nx r ≤ r.length := by
  have : ∀ m, m ≤ r.length → nx (r.take m) ≤ m := by
    intro m
    induction m with
    | zero => intro _; simp [nx]
    | succ m ih => intro hm; rw [nx_take_succ (by omega)]; have := ih (by omega); have := h m (by omega); omega
  have := this r.length (Nat.le_refl _)
  rwa [List.take_length] at this
theorem I.numbersOf_n {q : List Nat} (hq : RG q) (hl : q.length ≤ 7) : I.numbersOf_t (nl q) = some ((nx q : Nat) : Int) := by
  unfold I.numbersOf_t I.numbersOf_tree
  have hll := nl_len q
  have := run_for (run := I.numbersOf_run3 (nl q)) (len := q.length) (fun k (t : Nat) => ((t : Int), (k : Int))) (fun t k => max t (q.getD k 0 + 1)) (fun t => (t : Int)) (fun k t => t = nx (q.take k) ∧ t ≤ k) (by omega) (fun n k t hk ht => ?_) (fun n t ht => ?_) (t0 := 0) ⟨by simp [nx], Nat.le_refl _⟩
  · obtain ⟨h1, h2, _⟩ := this
    rw [List.take_length] at h2
    rw [h2] at h1
    exact congrArg (fun o => optC o (fun q => some q) none) h1
  · obtain ⟨e, hle⟩ := ht
    have hr := hq k hk
    rw [← e] at hr
    refine ⟨?_, by rw [nx_take_succ hk, e], by omega⟩
    simp only [I.numbersOf_run3, I.numbersOf_step3]
    rw [cnd_t (by simp; omega), cnd_t (by simp; omega), Int.toNat_natCast, nl_at hk, nat_beq, add1_nat (a := k) (by omega), add1_nat (by omega)]
    by_cases hv : q.getD k 0 = t
    · rw [cnd_t (by simpa using hv), hv, Nat.max_eq_right (by omega)]
    · rw [cnd_f (by simpa using hv), Nat.max_eq_left (by omega)]
  · simp only [I.numbersOf_run3, I.numbersOf_step3]
    rw [cnd_f (by simp; omega)]
theorem I.countsUp_is {row : List Int} (hl : row.length ≤ 100) : (∃ q : List Nat, row = nl q ∧ RG q ∧ I.countsUp_t row = some true) ∨ (I.countsUp_t row = some false ∧ ¬ ∃ q : List Nat, row = nl q ∧ RG q) := by
  have l3 := (run_forE (run := I.countsUp_run3 row) (len := row.length) (fun k (t : Nat) => ((t : Int), (k : Int))) (rgStep row) (fun (_ : Unit) => Sum.inl false) (fun (_ : Nat) => Sum.inr ()) (fun k t => t ≤ k) (by omega) (fun n k t hk ht => ?_) (fun n t ht => ?_) (t0 := 0) (Nat.le_refl _)).1
  · unfold I.countsUp_t I.countsUp_tree
    rw [show I.countsUp_run3 row FUEL (0, 0) = _ from l3]
    rcases rg_loop row row.length with ⟨q, q1, q2, q3, q4⟩ | ⟨q4, q5⟩
    · rw [q4]; exact .inl ⟨q, row_is q1 q3, q2, rfl⟩
    · rw [q4]
      refine .inr ⟨rfl, fun ⟨q, e, hq⟩ => q5 ⟨q, by rw [e, nl_len], hq, fun j hj => ?_⟩⟩
      rw [e, nl_len] at hj
      rw [e]; exact nl_at hj
  · simp only [I.countsUp_run3, I.countsUp_step3]
    unfold rgStep
    rw [cnd_t (by simp; omega), cnd_t (by simp; omega), Int.toNat_natCast]
    by_cases hc : 0 ≤ D.eli row k ∧ D.eli row k ≤ ((t : Nat) : Int)
    · rw [if_pos hc, cnd_f (by rw [decide_eq_false_iff_not]; omega), cnd_t (by simp; omega), cnd_f (by rw [decide_eq_false_iff_not]; omega), cnd_t (by simp; omega), add1_nat (a := k) (by omega), add1_nat (by omega)]
      refine ⟨?_, by omega⟩
      by_cases hv : D.eli row k = (t : Int)
      · rw [cnd_t (by simpa using hv), hv, Int.toNat_natCast, Nat.max_eq_right (by omega)]
      · rw [cnd_f (by simpa using hv), Nat.max_eq_left (by omega)]
    · rw [if_neg hc]
      by_cases h0 : D.eli row k < 0
      · rw [cnd_t (by simpa using h0)]
      · rw [cnd_f (by simpa using h0), cnd_t (by simp; omega), cnd_t (by rw [decide_eq_true_eq]; omega)]
  · simp only [I.countsUp_run3, I.countsUp_step3]
    rw [cnd_f (by simp)]
theorem I.placesWith_sl {r : List Nat} (hr : r.length ≤ 6) (v : Nat) : I.placesWith_t (nl r) (v : Int) = some ((setL r v : Nat) : Int) := by
  unfold I.placesWith_t I.placesWith_tree
  have hl := nl_len r
  have h7 : (2 : Nat) ^ r.length ≤ 2 ^ 6 := Nat.pow_le_pow_right (by omega) hr
  have := (run_for (run := I.placesWith_run3 (nl r) v) (len := r.length) (fun k (t : Nat) => ((t : Int), (k : Int))) (fun t k => if decide (r.getD k 0 = v) = true then t ||| 2 ^ k else t) (fun t => (t : Int)) (fun k t => t < 2 ^ r.length) (by omega) (fun f k t hk ht => ?_) (fun f t ht => ?_) (t0 := 0) (Nat.two_pow_pos _)).1
  · exact congrArg (fun o => optC o (fun q => some q) none) this
  · have hpk : 2 ^ k < 2 ^ r.length := Nat.pow_lt_pow_right (by omega) hk
    simp only [I.placesWith_run3, I.placesWith_step3]
    rw [cnd_t (by simp; omega), cnd_t (by simp; omega), Int.toNat_natCast, nl_at hk, nat_beq, add1_nat (by omega)]
    by_cases hv : r.getD k 0 = v
    · rw [cnd_t (by simpa using hv), if_pos (by simpa using hv), I.with_n (by omega) (by omega)]
      exact ⟨rfl, Nat.or_lt_two_pow ht hpk⟩
    · rw [cnd_f (by simpa using hv), if_neg (by simpa using hv)]; exact ⟨rfl, ht⟩
  · simp only [I.placesWith_run3, I.placesWith_step3]
    rw [cnd_f (by simp; omega)]
theorem I.rowWith_n {r : List Nat} (hr : r.length ≤ 6) (v : Nat) : I.rowWith_t (nl r) (v : Int) = some (nl (r ++ [v])) := by
  unfold I.rowWith_t I.rowWith_tree
  have hl := nl_len r
  rw [cnd_t (by simp [small]; omega), cnd_t (by simp [small]; omega), List.nil_append, ← nl_append]
theorem netOkI_is {net : List Int} (h : Ok net) : I.NetOk_t net = some true := by
  rcases NetOk_cases net with ⟨_, g1, _⟩ | ⟨hn, _, _⟩
  · exact g1
  · exact absurd h hn
theorem netOkI_nil : I.NetOk_t [] = some false := by
  rcases NetOk_cases [] with ⟨h, _, _⟩ | ⟨_, g1, _⟩
  · have := h.lo; simp at this
  · exact g1
theorem I.OtherNet_x {net : List Int} (e : I.NetOk_t net = some false) : I.OtherNet_t net = some [] := by
  unfold I.OtherNet_t I.OtherNet_tree; rw [e]; rfl
theorem I.OtherNet_y {net : List Int} (h : Ok net) (e : I.NetOk_t net = some true) : I.OtherNet_t net = some (otherN net) := by
  unfold I.OtherNet_t I.OtherNet_tree
  have h6 := h.hi
  have h64 := h.pow
  rw [e]
  simp only [optC, Bool.not_true, cond_false]
  rw [cnd_t (by simp [small]; omega)]
  have := run_for (run := I.OtherNet_run5 net) (len := net.length) (fun k (t : List Int) => ((k : Int), t)) (fun t k => t.set k ((minus (allOf net) (ball net k) : Nat) : Int)) (fun t => t) (fun k t => t.length = net.length ∧ ∀ j, j < k → D.eli t j = ((minus (allOf net) (ball net j) : Nat) : Int)) (by omega) (fun f k t hk ht => ?_) (fun f t ht => ?_) (t0 := List.replicate net.length 0) ⟨by simp, fun j hj => by omega⟩
  · obtain ⟨h1, h2, h3⟩ := this
    rw [show I.OtherNet_run5 net FUEL (0, List.replicate ((net.length : Nat) : Int).toNat 0) = _ from h1]
    simp only
    congr 1
    refine eli_ext (by rw [h2, otherN_len]) fun k hk => ?_
    rw [h2] at hk
    rw [h3 k hk, otherN_eli hk]
  · obtain ⟨hl, hv⟩ := ht
    have hb := h.ball_lt hk
    have hall := allOf_lt net
    simp only [I.OtherNet_run5, I.OtherNet_step5]
    rw [cnd_t (by simp; omega), I.allOf_n h]
    simp only [optC]
    rw [I.ballIn_n h hk]
    simp only
    rw [cnd_t (by simp; omega), cnd_t (by simp; omega), Int.toNat_natCast, i64_andNot_nat _ _ (by omega) (by omega), add1_nat (by omega)]
    refine ⟨rfl, by simpa using hl, fun j hj => ?_⟩
    unfold D.eli
    by_cases hjk : j = k
    · subst hjk
      simp [List.getD, show j < t.length by omega]
    · have := hv j (by omega)
      unfold D.eli at this
      simpa [List.getD, List.getElem?_set, show ¬ k = j from fun e => hjk e.symm] using this
  · simp only [I.OtherNet_run5, I.OtherNet_step5]
    rw [cnd_f (by simp)]
end Go.Proofs.Ythcidiihfjjpdaa
/- The program's functions of chapter 15 (at ae9a42a) in natural numbers. Conditions: those of each theorem. -/
namespace Go.Proofs.Ythcidiihfjjpdaa
open D Go.RowKit
set_option linter.unusedVariables false
set_option linter.unusedSimpArgs false


theorem cnt_full {n : Nat} {p : Nat → Bool} : cnt n p = n ↔ ∀ k, k < n → p k = true :=
  ⟨fun h k hk => cnt_all h hk, fun h => by rw [cnt_congr (q := fun _ => true) (fun k hk => h k hk), cnt_true]⟩
/-- The least number so far, from -1 on. -/
theorem near_loop {net : List Int} (h : Ok net) : ∀ k, k ≤ net.length → fold k (fun (t : Int) k => if t < 0 then ((size (nb net k) : Nat) : Int) else if ((size (nb net k) : Nat) : Int) < t then ((size (nb net k) : Nat) : Int) else t) (-1) =
    if k = 0 then -1 else ((fold k (fun t k => if size (nb net k) < t then size (nb net k) else t) net.length : Nat) : Int) := by
  intro k
  induction k with
  | zero => intro _; rfl
  | succ k ih =>
    intro hk
    rw [fold_succ, ih (by omega), fold_succ, if_neg (show ¬ k + 1 = 0 by omega)]
    by_cases h0 : k = 0
    · subst h0
      have hlt := nb_size_lt h (k := 0) (by omega)
      have e0 : fold 0 (fun t k => if size (nb net k) < t then size (nb net k) else t) net.length = net.length := rfl
      rw [if_pos rfl, if_pos (show (-1 : Int) < 0 by omega), e0, if_pos hlt]
    · rw [if_neg h0]
      generalize fold k (fun t k => if size (nb net k) < t then size (nb net k) else t) net.length = t
      rw [if_neg (show ¬ ((t : Nat) : Int) < 0 by omega)]
      by_cases hc : size (nb net k) < t
      · rw [if_pos (show ((size (nb net k) : Nat) : Int) < t by omega), if_pos hc]
      · rw [if_neg (show ¬ ((size (nb net k) : Nat) : Int) < t by omega), if_neg hc]
theorem I.leastNearIn_n {net : List Int} (h : Ok net) : I.leastNearIn_t net = some ((leastNear net : Nat) : Int) := by
  unfold I.leastNearIn_t I.leastNearIn_tree
  have h6 := h.hi
  have h1 := h.lo
  have := (run_for (run := I.leastNearIn_run3 net) (len := net.length) (fun k (t : Int) => (t, (k : Int))) (fun (t : Int) k => if t < 0 then ((size (nb net k) : Nat) : Int) else if ((size (nb net k) : Nat) : Int) < t then ((size (nb net k) : Nat) : Int) else t) (fun t => t) (fun k t => True) (by omega) (fun n k t hk ht => ?_) (fun n t ht => ?_) (t0 := -1) trivial).1
  · rw [near_loop h _ (Nat.le_refl _), if_neg (by omega)] at this
    exact congrArg (fun o => optC o (fun q => some q) none) this
  · simp only [I.leastNearIn_run3, I.leastNearIn_step3]
    rw [cnd_t (by simp; omega), cnd_t (by simp; omega), Int.toNat_natCast, h.eli hk, I.sizeOf_n]
    simp only [optC]
    rw [I.fewerOf_n, add1_nat (by omega)]
    exact ⟨rfl, trivial⟩
  · simp only [I.leastNearIn_run3, I.leastNearIn_step3]
    rw [cnd_f (by simp)]
theorem I.LeastNear_x {net : List Int} (e : I.NetOk_t net = some false) : I.LeastNear_t net = some (-1) := by
  unfold I.LeastNear_t I.LeastNear_tree; rw [e]; rfl
theorem I.LeastNear_y {net : List Int} (h : Ok net) (e : I.NetOk_t net = some true) : I.LeastNear_t net = some ((leastNear net : Nat) : Int) := by
  unfold I.LeastNear_t I.LeastNear_tree
  rw [e]
  simp only [optC, Bool.not_true, cond_false]
  rw [I.leastNearIn_n h]
theorem I.fullShares_n {net : List Int} (h : Ok net) {q : List Nat} (hq : RG q) (hl : q.length = net.length) : I.fullShares_t net (nl q) = some ((cnt (nx q) (fun v => W net (setL q v)) : Nat) : Int) := by
  unfold I.fullShares_t I.fullShares_tree
  have h6 := h.hi
  have hx := hq.nx_len
  have := (run_for (run := I.fullShares_run3 net (nl q)) (len := nx q) (fun k (t : Nat) => ((t : Int), (k : Int))) (fun t k => t + (W net (setL q k)).toNat) (fun t => (t : Int)) (fun k t => t ≤ k) (by omega) (fun n k t hk ht => ?_) (fun n t ht => ?_) (t0 := 0) (Nat.le_refl _)).1
  · have e : ∀ n, fold n (fun t k => t + (W net (setL q k)).toNat) 0 = cnt n (fun v => W net (setL q v)) := by
      intro n
      induction n with
      | zero => rfl
      | succ n ih => rw [fold_succ, ih]; rfl
    rw [e] at this
    exact congrArg (fun o => optC o (fun q => some q) none) this
  · simp only [I.fullShares_run3, I.fullShares_step3]
    rw [I.numbersOf_n hq (by omega)]
    simp only [optC]
    rw [cnd_t (by simp; omega), I.placesWith_sl (by omega)]
    simp only
    rw [I.watchIn_n h (setL_lt (by omega)), add1_nat (a := k) (by omega)]
    simp only
    rw [add1_nat (by omega)]
    cases W net (setL q k) with
    | true => exact ⟨rfl, by simp [Bool.toNat]; omega⟩
    | false => exact ⟨rfl, by simp [Bool.toNat]; omega⟩
  · simp only [I.fullShares_run3, I.fullShares_step3]
    rw [I.numbersOf_n hq (by omega)]
    simp only [optC]
    rw [cnd_f (by simp)]
theorem I.ShareRowOk_x {net row : List Int} (e : I.NetOk_t net = some false) : I.ShareRowOk_t net row = some false := by
  unfold I.ShareRowOk_t I.ShareRowOk_tree; rw [e]; rfl
theorem I.ShareRowOk_n {net row : List Int} (h : Ok net) (e : I.NetOk_t net = some true) : I.ShareRowOk_t net row = some (shB net row) := by
  unfold I.ShareRowOk_t I.ShareRowOk_tree
  have h6 := h.hi
  rw [e]
  simp only [optC]
  rw [cond_true]
  by_cases hl : row.length = net.length
  · rw [cnd_t (by simp [hl])]
    rcases I.countsUp_is (row := row) (by omega) with ⟨q, rfl, hq, hc⟩ | ⟨hc, hno⟩
    · rw [nl_len] at hl
      rw [hc]
      simp only
      rw [cond_true, I.fullShares_n h hq hl, I.numbersOf_n hq (by omega)]
      simp only
      rw [nat_beq]
      congr 1
      rw [Bool.eq_iff_iff, beq_iff_eq, shB_row, cnt_full]
      exact ⟨fun hh => ⟨hl, hq, hh⟩, fun hh => hh.2.2⟩
    · rw [hc]
      simp only
      rw [cond_false]
      congr 1
      refine (not_true fun hs => ?_).symm
      obtain ⟨q, e1, _, e2, _⟩ := shB_iff.1 hs
      exact hno ⟨q, e1, e2⟩
  · rw [cnd_f (by simp; omega)]
    congr 1
    refine (not_true fun hs => ?_).symm
    obtain ⟨q, rfl, e2, _⟩ := shB_iff.1 hs
    rw [nl_len] at hl
    exact hl e2
theorem cnt_le_eq {n m : Nat} {p : Nat → Bool} (hn : n ≤ m) : cnt n p = m ↔ n = m ∧ ∀ k, k < m → p k = true := by
  have := cnt_le n p
  constructor
  · intro h
    have hnm : n = m := by omega
    subst hnm
    exact ⟨rfl, cnt_full.1 h⟩
  · rintro ⟨rfl, h⟩; exact cnt_full.2 h
theorem I.sharesFrom_step [c : I.sharesFrom_r_R] {net : List Int} (h : Ok net) {m : Nat} (hm : m ≤ 6) {r : List Nat} (hr : RG r) (hlen : r.length ≤ net.length) (hn : nx r ≤ m)
    (hrec : ∀ v, r.length < net.length → v ≤ nx r → v < m → ∃ o q, I.sharesFrom_r0_t net (nl (r ++ [v])) (m : Int) = some o ∧ outOf o = rowO q ∧ FirstExt (SRow net m) (r ++ [v]) q) :
    ∃ o q, I.sharesFrom_r_t net (nl r) (m : Int) = some o ∧ outOf o = rowO q ∧ FirstExt (SRow net m) r q := by
  have h6 := h.hi
  have h1 := h.lo
  have hll := nl_len r
  have hnx := hr.nx_len
  unfold I.sharesFrom_r_t I.sharesFrom_r_tree
  by_cases hl : r.length = net.length
  · rw [cnd_t (by rw [hll]; simp; omega), I.fullShares_n h hr hl]
    simp only [optC]
    rw [nat_beq]
    have hiff := cnt_le_eq (p := fun v => W net (setL r v)) hn
    by_cases hq : cnt (nx r) (fun v => W net (setL r v)) = m
    · rw [cnd_t (by simpa using hq)]
      obtain ⟨a1, a2⟩ := hiff.1 hq
      exact ⟨.inl (nl r), some r, rfl, rfl, ⟨⟨List.prefix_rfl, ⟨hl, hr, a1, a2⟩⟩, fun p hp => .inl (hp.1.eq_of_length (by rw [hp.2.len]; exact hl))⟩⟩
    · rw [cnd_f (by simpa using hq)]
      exact ⟨.inr (nl r, []), none, rfl, rfl, fun p hp hs => hq (by
        have := hp.eq_of_length (by rw [hs.len]; exact hl)
        subst this
        exact hiff.2 ⟨hs.eq, hs.wa⟩)⟩
  · have hlt : r.length < net.length := by omega
    rw [cnd_f (by rw [hll]; simp; omega)]
    have hex : ∀ v, ∃ q : Option (List Nat), v < min m (nx r + 1) → ∃ o, I.sharesFrom_r0_t net (nl (r ++ [v])) (m : Int) = some o ∧ outOf o = rowO q ∧ FirstExt (SRow net m) (r ++ [v]) q := fun v => by
      by_cases hv : v < min m (nx r + 1)
      · obtain ⟨o, q, a⟩ := hrec v hlt (by omega) (by omega)
        exact ⟨q, fun _ => ⟨o, a⟩⟩
      · exact ⟨none, fun hh => absurd hh hv⟩
    obtain ⟨f, hf⟩ := Classical.axiomOfChoice hex
    have hfirst : FirstExt (SRow net m) r (find (min m (nx r + 1)) f) := firstExt_loop (n := net.length) (fun q hq => hq.len) hlt (fun q hp hq => by
        have a := hq.rg r.length (by rw [hq.len]; exact hlt)
        rw [pre_take hp] at a
        have b := getD_lt_nx (r := q) (k := r.length) (by rw [hq.len]; exact hlt)
        have := hq.eq
        omega) (fun v hv => (hf v hv).choose_spec.2.2)
    have l6 := (run_forE (run := I.sharesFrom_r_run6 net (m : Int)) (len := min m (nx r + 1)) (fun k (t : Unit) => ((k : Int), nl r)) (findStep f) (fun (q : List Nat) => Sum.inl (nl r, nl q)) (fun _ => Sum.inr (nl r)) (fun k t => True) (by omega) (fun n k t hk ht => ?_) (fun n t ht => ?_) (t0 := ()) trivial).1
    · rw [show I.sharesFrom_r_run6 net (m : Int) FUEL (0, nl r) = _ from l6]
      rcases loopE_find f (min m (nx r + 1)) with ⟨q, hfd, hlp⟩ | ⟨hfd, hlp⟩
      · rw [hlp]; exact ⟨.inr (nl r, nl q), some q, rfl, rfl, by rw [← hfd]; exact hfirst⟩
      · rw [hlp]; exact ⟨.inr (nl r, []), none, rfl, rfl, by rw [← hfd]; exact hfirst⟩
    · obtain ⟨o, a1, a2, a3⟩ := hf k hk
      have hlo := srow_len h1 a3
      simp only [I.sharesFrom_r_run6, I.sharesFrom_r_step6]
      rw [I.numbersOf_n hr (by omega)]
      simp only [optC]
      rw [cnd_t (by rw [decide_eq_true_eq]; omega), cnd_t (by rw [decide_eq_true_eq]; omega), I.rowWith_n (by omega)]
      simp only
      rw [a1, add1_nat (by omega)]
      simp only
      unfold findStep
      cases o with
      | inl c =>
        simp only [sumC]
        have a2 : c = rowO (f k) := a2
        rw [a2, hlo]
        cases hfk : f k with
        | some q => rfl
        | none => exact ⟨rfl, trivial⟩
      | inr c =>
        simp only [sumC]
        have a2 : c.2 = rowO (f k) := a2
        rw [a2, hlo]
        cases hfk : f k with
        | some q => rfl
        | none => exact ⟨rfl, trivial⟩
    · simp only [I.sharesFrom_r_run6, I.sharesFrom_r_step6]
      rw [I.numbersOf_n hr (by omega)]
      simp only [optC]
      by_cases hc : ((min m (nx r + 1) : Nat) : Int) ≤ ((nx r : Nat) : Int)
      · rw [cnd_t (by rw [decide_eq_true_eq]; exact hc), cnd_f (by rw [decide_eq_false_iff_not]; omega)]
      · rw [cnd_f (by rw [decide_eq_false_iff_not]; exact hc)]
theorem I.sharesFrom_d {net : List Int} (h : Ok net) {m : Nat} (hm : m ≤ 6) : ∀ (k d : Nat) (r : List Nat), r.length + k = net.length → k < d → RG r → nx r ≤ m →
    ∃ o q, I.sharesFrom_td d net (nl r) (m : Int) = some o ∧ outOf o = rowO q ∧ FirstExt (SRow net m) r q := by
  intro k
  induction k with
  | zero =>
    intro d r hk hd h1 h2
    obtain ⟨d, rfl⟩ : ∃ q, d = q + 1 := ⟨d - 1, by omega⟩
    exact @I.sharesFrom_step ⟨I.sharesFrom_td d⟩ net h m hm r h1 (by omega) h2 (fun v hv => by omega)
  | succ k ih =>
    intro d r hk hd h1 h2
    obtain ⟨d, rfl⟩ : ∃ q, d = q + 1 := ⟨d - 1, by omega⟩
    exact @I.sharesFrom_step ⟨I.sharesFrom_td d⟩ net h m hm r h1 (by omega) h2 (fun v hv a b => ih d (r ++ [v]) (by simp; omega) (by omega) (RG_append.2 ⟨h1, a⟩) (by rw [nx_append]; omega))
theorem I.sharesFrom_n {net : List Int} (h : Ok net) {m : Nat} (hm : m ≤ 6) : ∃ o q, I.sharesFrom_t net [] (m : Int) = some o ∧ outOf o = rowO q ∧ FirstExt (SRow net m) [] q := by
  have hF := FUEL_le
  have h6 := h.hi
  exact I.sharesFrom_d h hm net.length FUEL [] (by simp) (by omega) RG.nil (Nat.zero_le _)
/-- One share of all places. -/
theorem setL_zero (n : Nat) : setL (List.replicate n 0) 0 = 2 ^ n - 1 := Nat.eq_of_testBit_eq fun j => by
  rw [Bool.eq_iff_iff, setL_bit, Nat.testBit_two_pow_sub_one, decide_eq_true_eq, List.length_replicate]
  constructor
  · exact fun h => h.1
  · exact fun h => ⟨h, by simp [List.getD, h]⟩
theorem srow_one {net : List Int} (h : Ok net) : IsFirst (SRow net 1) (List.replicate net.length 0) := by
  have h1 := h.lo
  have hnx : nx (List.replicate net.length 0) = 1 := by
    have a : nx (List.replicate net.length 0) ≤ 1 := nx_least fun v hv => by rw [(List.mem_replicate.1 hv).2]; omega
    have b : 0 < nx (List.replicate net.length 0) := nx_gt (List.mem_replicate.2 ⟨by omega, rfl⟩)
    omega
  refine ⟨⟨by simp, fun k hk => ?_, hnx, fun v hv => ?_⟩, fun q hq => .inl ?_⟩
  · have : (List.replicate net.length 0).getD k 0 = 0 := by simp at hk; simp [List.getD, hk]
    rw [this]; exact Nat.zero_le _
  · obtain rfl : v = 0 := by omega
    rw [setL_zero]
    exact W_all h
  · refine List.ext_getElem (by simp [hq.len]) fun j a b => ?_
    have := nx_gt (List.getElem_mem b)
    have := hq.eq
    rw [List.getElem_replicate]; omega
theorem I.shareRowIn_n {net : List Int} (h : Ok net) : I.shareRowIn_t net = some (nl (shRow net)) ∧ IsFirst (SRow net (mostSh net)) (shRow net) := by
  have hF := FUEL_le
  have h6 := h.hi
  have h1 := h.lo
  have hmax := mostSh_max h
  have hle := mostSh_le h
  have hpos := mostSh_pos h
  obtain ⟨⟨k0, hk0, ek0⟩, _⟩ := leastNear_is h
  have hnl := nb_size_lt h hk0
  have hln : mostSh net ≤ leastNear net + 1 := by
    have := shares_ball h hmax.ex hk0
    unfold ball at this
    rw [size_add (h.lt64 hk0) (by omega) (h.irr k0 hk0)] at this
    omega
  obtain ⟨a1, a2⟩ := S.ShareRow_y h (netOkS_of h)
  refine ⟨?_, a2⟩
  unfold I.shareRowIn_t I.shareRowIn_tree
  rw [I.leastNearIn_n h]
  simp only [optC]
  rw [add1_nat (by omega)]
  have key : ∀ d j n, j = mostSh net + d → j ≤ net.length → d + 1 < n → I.shareRowIn_run2 net n (j : Int) = if 2 ≤ mostSh net then some (.inl (nl (shRow net))) else some (.inr ()) := by
    intro d
    induction d with
    | zero =>
      intro j n hj _ hn
      obtain ⟨n, rfl⟩ : ∃ q, n = q + 1 := ⟨n - 1, by omega⟩
      simp only [I.shareRowIn_run2, I.shareRowIn_step2]
      by_cases h2 : 2 ≤ mostSh net
      · obtain ⟨o, q, b1, b2, b3⟩ := I.sharesFrom_n h (m := j) (by omega)
        have hq : ∃ p, q = some p := by
          cases q with
          | some p => exact ⟨p, rfl⟩
          | none =>
            obtain ⟨p, hp⟩ := srow_of h hmax.ex
            obtain rfl : j = mostSh net := by omega
            exact absurd hp (b3 p List.nil_prefix)
        obtain ⟨p, rfl⟩ := hq
        have hfp := first_of_ext b3
        have hp := hfp.mem.len
        obtain rfl : j = mostSh net := by omega
        have hcl : shRow net = p := firstOf_is hfp
        have hnl : decide (((nl p).length : Int) > 0) = true := by rw [nl_len, hp, decide_eq_true_eq]; omega
        rw [cnd_t (by rw [decide_eq_true_eq]; omega), b1, if_pos h2, hcl]
        simp only [optC]
        cases o with
        | inl c =>
          have b2 : c = nl p := b2
          simp only [sumC]
          rw [b2, hnl]; rfl
        | inr c =>
          have b2 : c.2 = nl p := b2
          simp only [sumC]
          rw [b2, hnl]; rfl
      · rw [cnd_f (by rw [decide_eq_false_iff_not]; omega), if_neg h2]
    | succ d ih =>
      intro j n hj hjl hn
      obtain ⟨n, rfl⟩ : ∃ q, n = q + 1 := ⟨n - 1, by omega⟩
      obtain ⟨o, q, b1, b2, b3⟩ := I.sharesFrom_n h (m := j) (by omega)
      have hq : q = none := by
        cases q with
        | none => rfl
        | some q => have := hmax.le j (of_srow h (first_of_ext b3).mem); omega
      subst hq
      simp only [I.shareRowIn_run2, I.shareRowIn_step2]
      rw [cnd_t (by rw [decide_eq_true_eq]; omega), b1, i64_wrap (by omega) (by omega), show (j : Int) - 1 = ((j - 1 : Nat) : Int) by omega]
      simp only [optC]
      cases o with
      | inl c =>
        have b2 : c = [] := b2
        simp only [sumC]
        rw [b2]
        exact ih (j - 1) n (by omega) (by omega) (by omega)
      | inr c =>
        have b2 : c.2 = [] := b2
        simp only [sumC]
        rw [b2]
        exact ih (j - 1) n (by omega) (by omega) (by omega)
  rw [key (leastNear net + 1 - mostSh net) (leastNear net + 1) FUEL (by omega) (by omega) (by omega)]
  by_cases h2 : 2 ≤ mostSh net
  · rw [if_pos h2]; rfl
  · rw [if_neg h2]
    have hm1 : mostSh net = 1 := by omega
    have hsr : shRow net = List.replicate net.length 0 := by
      unfold shRow
      rw [hm1]
      exact firstOf_is (srow_one h)
    simp only [sumC]
    rw [cnd_t (by simp [small]; omega), hsr]
    unfold nl
    simp
theorem I.ShareRow_x {net : List Int} (e : I.NetOk_t net = some false) : I.ShareRow_t net = some [] := by
  unfold I.ShareRow_t I.ShareRow_tree; rw [e]; rfl
theorem I.ShareRow_y {net : List Int} (h : Ok net) (e : I.NetOk_t net = some true) : I.ShareRow_t net = some (nl (shRow net)) ∧ IsFirst (SRow net (mostSh net)) (shRow net) := by
  obtain ⟨a, b⟩ := I.shareRowIn_n h
  refine ⟨?_, b⟩
  unfold I.ShareRow_t I.ShareRow_tree
  rw [e]
  simp only [optC, Bool.not_true, cond_false]
  rw [a]
theorem I.MostShares_x {net : List Int} (e : I.NetOk_t net = some false) : I.MostShares_t net = some (-1) := by
  unfold I.MostShares_t I.MostShares_tree; rw [e]; rfl
theorem I.MostShares_y {net : List Int} (h : Ok net) (e : I.NetOk_t net = some true) : I.MostShares_t net = some ((mostSh net : Nat) : Int) := by
  obtain ⟨a, b⟩ := I.shareRowIn_n h
  have h6 := h.hi
  have hl := b.mem.len
  unfold I.MostShares_t I.MostShares_tree
  rw [e]
  simp only [optC, Bool.not_true, cond_false]
  rw [a]
  simp only
  rw [I.numbersOf_n b.mem.rg (by omega), b.mem.eq]
theorem I.WatchPair_x {net : List Int} (e : I.NetOk_t net = some false) : I.WatchPair_t net = some (-1, -1) := by
  unfold I.WatchPair_t I.WatchPair_tree
  rw [I.FewestWatch_x e, I.OtherNet_x e]
  simp only [optC]
  rw [I.FewestWatch_x netOkI_nil]
theorem I.WatchPair_y {net : List Int} (h : Ok net) (e : I.NetOk_t net = some true) : I.WatchPair_t net = some (((fewest net : Nat) : Int), ((fewest (otherN net) : Nat) : Int)) := by
  unfold I.WatchPair_t I.WatchPair_tree
  have ho := otherN_ok h
  rw [I.FewestWatch_y h e, I.OtherNet_y h e]
  simp only [optC]
  rw [I.FewestWatch_y ho (netOkI_is ho)]
theorem I.SharePair_x {net : List Int} (e : I.NetOk_t net = some false) : I.SharePair_t net = some (-1, -1) := by
  unfold I.SharePair_t I.SharePair_tree
  rw [I.MostShares_x e, I.OtherNet_x e]
  simp only [optC]
  rw [I.MostShares_x netOkI_nil]
theorem I.SharePair_y {net : List Int} (h : Ok net) (e : I.NetOk_t net = some true) : I.SharePair_t net = some (((mostSh net : Nat) : Int), ((mostSh (otherN net) : Nat) : Int)) := by
  unfold I.SharePair_t I.SharePair_tree
  have ho := otherN_ok h
  rw [I.MostShares_y h e, I.OtherNet_y h e]
  simp only [optC]
  rw [I.MostShares_y ho (netOkI_is ho)]
end Go.Proofs.Ythcidiihfjjpdaa
/- Forests: wires and parts are places. Conditions: those of each theorem. -/
namespace Go.Proofs.Ythcidiihfjjpdaa
set_option linter.unusedVariables false
set_option linter.unusedSimpArgs false

/-- The ends of wires within a set. -/
def inEnd (net : List Int) (s i j : Nat) : Nat := (s.testBit i && s.testBit j && (nb net i).testBit j).toNat
def ends2 (net : List Int) (s : Nat) : Nat := sumN net.length fun i => sumN net.length (inEnd net s i)
theorem in_row {net : List Int} (h : Ok net) {s i : Nat} (hs : s < 2 ^ net.length) : sumN net.length (inEnd net s i) = if s.testBit i = true then size (nb net i &&& s) else 0 := by
  have hlt : nb net i &&& s < 2 ^ net.length := Nat.lt_of_le_of_lt Nat.and_le_right hs
  cases hi : s.testBit i with
  | false =>
    rw [if_neg (by simp), sumN_congr (g := fun _ => 0) (fun j hj => by unfold inEnd; rw [hi]; rfl), sumN_zero]
  | true =>
    rw [if_pos rfl, size_cnt h hlt]
    exact sumN_congr fun j hj => by show _ = ((nb net i &&& s).testBit j).toNat; unfold inEnd; rw [hi, Bool.true_and, Nat.testBit_and, Bool.and_comm]
theorem ends2_all {net : List Int} (h : Ok net) : ends2 net (allOf net) = 2 * wires net := by
  rw [← ends_wires h, ends_is h]
  unfold ends2
  refine sumN_congr fun i hi => sumN_congr fun j hj => ?_
  unfold inEnd
  rw [allOf_testBit, allOf_testBit, decide_eq_true hi, decide_eq_true hj]
  rfl
theorem ends2_zero (net : List Int) : ends2 net 0 = 0 := by
  unfold ends2
  rw [sumN_congr (g := fun _ => 0) (fun i _ => ?_), sumN_zero]
  rw [sumN_congr (g := fun _ => 0) (fun j _ => by unfold inEnd; rw [Nat.zero_testBit]; rfl), sumN_zero]
theorem ends2_sub {net : List Int} (h : Ok net) {s k : Nat} (hs : s < 2 ^ net.length) (hk : s.testBit k = true) : ends2 net s = ends2 net (s - 2 ^ k) + 2 * size (nb net k &&& s) := by
  have h6 := h.hi
  have hkl := in_lt hs hk
  have hsub : ∀ j, (s - 2 ^ k).testBit j = (s.testBit j && !decide (j = k)) := sub_testBit (lt64 h hs) (by omega) hk
  have hrow : sumN net.length (fun j => (s.testBit j && (nb net k).testBit j).toNat) = size (nb net k &&& s) := by
    rw [size_cnt h (Nat.lt_of_le_of_lt Nat.and_le_right hs)]
    exact sumN_congr fun j _ => by show _ = ((nb net k &&& s).testBit j).toNat; rw [Nat.testBit_and, Bool.and_comm]
  have key : ∀ i, i < net.length → ∀ j, j < net.length → inEnd net s i j = (inEnd net (s - 2 ^ k) i j + if i = k then (s.testBit j && (nb net k).testBit j).toNat else 0) + if j = k then (s.testBit i && (nb net k).testBit i).toNat else 0 := by
    intro i hi j hj
    unfold inEnd
    rw [hsub i, hsub j]
    by_cases hik : i = k
    · by_cases hjk : j = k
      · rw [hik, hjk, h.irr k hkl]; simp
      · rw [hik, hk]; simp [hjk]
    · by_cases hjk : j = k
      · rw [hjk, hk, h.sym k i hkl hi]; simp [hik]
      · simp [hik, hjk]
  have e1 : ends2 net s = sumN net.length (fun i => (sumN net.length (inEnd net (s - 2 ^ k) i) + sumN net.length (fun j => if i = k then (s.testBit j && (nb net k).testBit j).toNat else 0)) + sumN net.length (fun j => if j = k then (s.testBit i && (nb net k).testBit i).toNat else 0)) := by
    refine sumN_congr fun i hi => ?_
    rw [← sumN_add, ← sumN_add]
    exact sumN_congr fun j hj => key i hi j hj
  have e2 : sumN net.length (fun i => sumN net.length (fun j => if i = k then (s.testBit j && (nb net k).testBit j).toNat else 0)) = size (nb net k &&& s) := by
    rw [sumN_one hkl (fun i _ hne => by rw [sumN_congr (g := fun _ => 0) (fun j _ => if_neg hne), sumN_zero]), ← hrow]
    exact sumN_congr fun j _ => if_pos rfl
  have e3 : sumN net.length (fun i => sumN net.length (fun j => if j = k then (s.testBit i && (nb net k).testBit i).toNat else 0)) = size (nb net k &&& s) := by
    rw [← hrow]
    refine sumN_congr fun i _ => ?_
    rw [sumN_one hkl (fun j _ hne => if_neg hne), if_pos rfl]
  rw [e1, sumN_add, sumN_add, e2, e3]
  show ends2 net (s - 2 ^ k) + size (nb net k &&& s) + size (nb net k &&& s) = _
  omega
theorem stuck_ends {net : List Int} (h : Ok net) {r : Nat} (hr : r < 2 ^ net.length) (hst : Stuck net r) : 2 * size r ≤ ends2 net r := by
  unfold ends2
  rw [size_cnt h hr]
  have : sumN net.length (fun i => (r.testBit i).toNat * 2) ≤ sumN net.length fun i => sumN net.length (inEnd net r i) := sumN_le fun i hi => by
    rw [in_row h hr]
    cases hb : r.testBit i with
    | false => simp
    | true =>
      have := hst i hb
      simpa using this
  rw [sumN_mul] at this
  show 2 * sumN net.length (fun i => (r.testBit i).toNat) ≤ _
  omega

/-- A set within another one that nobody leaves by a wire. -/
def Closed (net : List Int) (s t : Nat) : Prop := (∀ j, t.testBit j = true → s.testBit j = true) ∧ ∀ i j, t.testBit i = true → s.testBit j = true → (nb net i).testBit j = true → t.testBit j = true
def Covers (net : List Int) (s z : Nat) : Prop := (∀ j, z.testBit j = true → s.testBit j = true) ∧ ∀ t, t < 2 ^ net.length → t ≠ 0 → Closed net s t → ∃ j, z.testBit j = true ∧ t.testBit j = true
theorem nb_none {a s : Nat} (ha : a &&& s = 0) {j : Nat} (hs : s.testBit j = true) : a.testBit j = false := not_true fun hx => by
  have : (a &&& s).testBit j = true := by rw [Nat.testBit_and, hx, hs]; rfl
  rw [ha, Nat.zero_testBit] at this; cases this
/-- A place with at most one neighbour left: none, or the one. -/
theorem one_or {net : List Int} (h : Ok net) {s k : Nat} (hs : s < 2 ^ net.length) (hz : size (nb net k &&& s) ≤ 1) :
    (nb net k &&& s = 0 ∧ size (nb net k &&& s) = 0) ∨ ∃ g, s.testBit g = true ∧ (nb net k).testBit g = true ∧ size (nb net k &&& s) = 1 ∧ ∀ v, s.testBit v = true → (nb net k).testBit v = true → v = g := by
  have h64 := h.pow
  have hlt : nb net k &&& s < 64 := Nat.lt_of_le_of_lt Nat.and_le_right (by omega)
  by_cases h0 : nb net k &&& s = 0
  · exact .inl ⟨h0, by rw [h0]; rfl⟩
  · obtain ⟨g, hg⟩ := pos_iff.1 h0
    have h1 := hg
    rw [Nat.testBit_and, Bool.and_eq_true] at h1
    have := size_pos hlt (testBit_lt (n := 6) hlt hg) hg
    exact .inr ⟨g, h1.2, h1.1, by omega, fun v v1 v2 => (le_one hlt).1 hz v g (by rw [Nat.testBit_and, v1, v2]; rfl) hg⟩
theorem peel_covers {net : List Int} (h : Ok net) {s : Nat} (hp : Peel net s) : s < 2 ^ net.length → ∃ z, z < 2 ^ net.length ∧ Covers net s z ∧ ends2 net s + 2 * size z = 2 * size s := by
  induction hp with
  | zero =>
    intro _
    refine ⟨0, Nat.two_pow_pos _, ⟨fun j hj => hj, fun t ht hne hc => ?_⟩, by rw [ends2_zero]; rfl⟩
    obtain ⟨j, hj⟩ := pos_iff.1 hne
    have := hc.1 j hj
    rw [Nat.zero_testBit] at this; cases this
  | @step s k hk hone hp ih =>
    intro hs
    have h6 := h.hi
    have hkl := in_lt hs hk
    obtain ⟨z, hz, hc, he⟩ := ih (sub_lt hs)
    have hsub : ∀ j, (s - 2 ^ k).testBit j = true ↔ s.testBit j = true ∧ j ≠ k := fun j => by
      rw [sub_testBit (lt64 h hs) (by omega) hk]; simp
    have hsz := (bits_sub s (lt64 h hs) k (by omega) hk).2.2.1
    have hE := ends2_sub h hs hk
    have hzk : z.testBit k = false := not_true fun hx => ((hsub k).1 (hc.1 k hx)).2 rfl
    rcases one_or h hs hone with ⟨h0, h0z⟩ | ⟨g, g1, g2, g3, g4⟩
    · refine ⟨z ||| 2 ^ k, or_lt hz hkl, ⟨fun j hj => ?_, fun t ht hne hct => ?_⟩, ?_⟩
      · rcases (or_testBit _ _ _).1 hj with a | a
        · exact ((hsub j).1 (hc.1 j a)).1
        · rw [a]; exact hk
      · by_cases htk : t.testBit k = true
        · exact ⟨k, (or_testBit _ _ _).2 (.inr rfl), htk⟩
        · obtain ⟨j, a, b⟩ := hc.2 t ht hne ⟨fun j hj => (hsub j).2 ⟨hct.1 j hj, fun e => htk (e ▸ hj)⟩, fun i j hi hj hij => hct.2 i j hi ((hsub j).1 hj).1 hij⟩
          exact ⟨j, (or_testBit _ _ _).2 (.inl a), b⟩
      · rw [size_add (lt64 h hz) (by omega) hzk]
        omega
    · refine ⟨z, hz, ⟨fun j hj => ((hsub j).1 (hc.1 j hj)).1, fun t ht hne hct => ?_⟩, by omega⟩
      by_cases htk : t.testBit k = true
      · have hgk : g ≠ k := fun e => by rw [e, h.irr k hkl] at g2; cases g2
        have hts : ∀ j, (t - 2 ^ k).testBit j = true ↔ t.testBit j = true ∧ j ≠ k := fun j => by
          rw [sub_testBit (lt64 h ht) (by omega) htk]; simp
        obtain ⟨j, a, b⟩ := hc.2 (t - 2 ^ k) (sub_lt ht) (pos_iff.2 ⟨g, (hts g).2 ⟨hct.2 k g htk g1 g2, hgk⟩⟩)
          ⟨fun j hj => (hsub j).2 ⟨hct.1 j ((hts j).1 hj).1, ((hts j).1 hj).2⟩, fun i j hi hj hij => (hts j).2 ⟨hct.2 i j ((hts i).1 hi).1 ((hsub j).1 hj).1 hij, ((hsub j).1 hj).2⟩⟩
        exact ⟨j, a, ((hts j).1 b).1⟩
      · exact hc.2 t ht hne ⟨fun j hj => (hsub j).2 ⟨hct.1 j hj, fun e => htk (e ▸ hj)⟩, fun i j hi hj hij => hct.2 i j hi ((hsub j).1 hj).1 hij⟩
/-- Places go till nobody can. -/
inductive Down (net : List Int) (r : Nat) : Nat → Prop
  | here : Down net r r
  | step {s k : Nat} : s.testBit k = true → size (nb net k &&& s) ≤ 1 → Down net r (s - 2 ^ k) → Down net r s
theorem down_zero {net : List Int} {s : Nat} (hd : Down net 0 s) : Peel net s := by
  induction hd with
  | here => exact .zero
  | step a b _ ih => exact .step a b ih
theorem down_ex {net : List Int} (h : Ok net) : ∀ (m s : Nat), size s ≤ m → s < 2 ^ net.length → ∃ r, Down net r s ∧ r < 2 ^ net.length ∧ Stuck net r := by
  intro m
  induction m with
  | zero =>
    intro s hz hs
    have h6 := h.hi
    refine ⟨s, .here, hs, fun k hk => ?_⟩
    have := size_pos (lt64 h hs) (by have := in_lt hs hk; omega) hk
    omega
  | succ m ih =>
    intro s hz hs
    have h6 := h.hi
    by_cases hst : Stuck net s
    · exact ⟨s, .here, hs, hst⟩
    · obtain ⟨k, k1, k2⟩ := stuck_or hst
      have := (bits_sub s (lt64 h hs) k (by have := in_lt hs k1; omega) k1).2.2.1
      obtain ⟨r, r1, r2, r3⟩ := ih (s - 2 ^ k) (by omega) (sub_lt hs)
      exact ⟨r, .step k1 k2 r1, r2, r3⟩
theorem down_covers {net : List Int} (h : Ok net) {r s : Nat} (hd : Down net r s) : s < 2 ^ net.length → Stuck net r → r ≠ 0 → ∀ z, z < 2 ^ net.length → Covers net s z → 2 * size s + 2 ≤ ends2 net s + 2 * size z := by
  induction hd with
  | here =>
    intro hs hst hne z hz hc
    have h6 := h.hi
    obtain ⟨j, a, b⟩ := hc.2 r hs hne ⟨fun j hj => hj, fun i j hi hj _ => hj⟩
    have := size_pos (lt64 h hz) (by have := in_lt hz a; omega) a
    have := stuck_ends h hs hst
    omega
  | @step s k hk hone hd ih =>
    intro hs hst hne z hz hc
    have h6 := h.hi
    have hkl := in_lt hs hk
    have hsub : ∀ j, (s - 2 ^ k).testBit j = true ↔ s.testBit j = true ∧ j ≠ k := fun j => by
      rw [sub_testBit (lt64 h hs) (by omega) hk]; simp
    have hsz := (bits_sub s (lt64 h hs) k (by omega) hk).2.2.1
    have hE := ends2_sub h hs hk
    rcases one_or h hs hone with ⟨h0, h0z⟩ | ⟨g, g1, g2, g3, g4⟩
    · -- the place is a part by itself
      have hzk : z.testBit k = true := by
        obtain ⟨j, a, b⟩ := hc.2 (2 ^ k) (Nat.pow_lt_pow_right (by omega) hkl) (pos_iff.2 ⟨k, by rw [testBit_pow]; simp⟩) ⟨fun j hj => by
          rw [testBit_pow, decide_eq_true_eq] at hj; rw [← hj]; exact hk, fun i j hi hj hij => by
          rw [testBit_pow, decide_eq_true_eq] at hi
          rw [← hi, nb_none h0 hj] at hij; cases hij⟩
        rw [testBit_pow, decide_eq_true_eq] at b
        rw [b]; exact a
      have hzs : ∀ j, (z - 2 ^ k).testBit j = true ↔ z.testBit j = true ∧ j ≠ k := fun j => by
        rw [sub_testBit (lt64 h hz) (by omega) hzk]; simp
      have hzz := (bits_sub z (lt64 h hz) k (by omega) hzk).2.2.1
      have := ih (sub_lt hs) hst hne (z - 2 ^ k) (sub_lt hz) ⟨fun j hj => (hsub j).2 ⟨hc.1 j ((hzs j).1 hj).1, ((hzs j).1 hj).2⟩, fun t ht htn hct => by
        obtain ⟨j, a, b⟩ := hc.2 t ht htn ⟨fun j hj => ((hsub j).1 (hct.1 j hj)).1, fun i j hi hj hij => by
          by_cases hjk : j = k
          · have hi1 := (hsub i).1 (hct.1 i hi)
            rw [hjk, h.sym k i hkl (in_lt hs hi1.1), nb_none h0 hi1.1] at hij; cases hij
          · exact hct.2 i j hi ((hsub j).2 ⟨hj, hjk⟩) hij⟩
        exact ⟨j, (hzs j).2 ⟨a, ((hsub j).1 (hct.1 j b)).2⟩, b⟩⟩
      omega
    · have hgk : g ≠ k := fun e => by rw [e, h.irr k hkl] at g2; cases g2
      have hgl := in_lt hs g1
      -- the guard of the leaf goes to its neighbour
      have hex : ∃ z', z' < 2 ^ net.length ∧ size z' ≤ size z ∧ (∀ j, z'.testBit j = true → (s - 2 ^ k).testBit j = true) ∧ (∀ j, z.testBit j = true → j ≠ k → z'.testBit j = true) ∧ (z.testBit k = true → z'.testBit g = true) := by
        by_cases hzk : z.testBit k = true
        · have hzs : ∀ j, (z - 2 ^ k).testBit j = true ↔ z.testBit j = true ∧ j ≠ k := fun j => by
            rw [sub_testBit (lt64 h hz) (by omega) hzk]; simp
          have hzz := (bits_sub z (lt64 h hz) k (by omega) hzk).2.2.1
          have h1 := size_or_one h (sub_lt (k := k) hz) hgl
          refine ⟨(z - 2 ^ k) ||| 2 ^ g, or_lt (sub_lt hz) hgl, by omega, fun j hj => ?_, fun j hj hne => (or_testBit _ _ _).2 (.inl ((hzs j).2 ⟨hj, hne⟩)), fun _ => (or_testBit _ _ _).2 (.inr rfl)⟩
          rcases (or_testBit _ _ _).1 hj with a | a
          · exact (hsub j).2 ⟨hc.1 j ((hzs j).1 a).1, ((hzs j).1 a).2⟩
          · rw [a]; exact (hsub g).2 ⟨g1, hgk⟩
        · exact ⟨z, hz, Nat.le_refl _, fun j hj => (hsub j).2 ⟨hc.1 j hj, fun e => hzk (e ▸ hj)⟩, fun j hj _ => hj, fun hx => absurd hx hzk⟩
      obtain ⟨z', z1, z2, z3, z4, z5⟩ := hex
      have := ih (sub_lt hs) hst hne z' z1 ⟨z3, fun t ht htn hct => by
        have htk : t.testBit k = false := not_true fun hx => ((hsub k).1 (hct.1 k hx)).2 rfl
        by_cases htg : t.testBit g = true
        · -- the leaf belongs to the set
          obtain ⟨j, a, b⟩ := hc.2 (t ||| 2 ^ k) (or_lt ht hkl) (pos_iff.2 ⟨k, (or_testBit _ _ _).2 (.inr rfl)⟩) ⟨fun j hj => by
            rcases (or_testBit _ _ _).1 hj with a | a
            · exact ((hsub j).1 (hct.1 j a)).1
            · rw [a]; exact hk, fun i j hi hj hij => by
            rw [or_testBit]
            by_cases hjk : j = k
            · exact .inr hjk
            · left
              rcases (or_testBit _ _ _).1 hi with a | a
              · exact hct.2 i j a ((hsub j).2 ⟨hj, hjk⟩) hij
              · rw [a] at hij
                rw [g4 j hj hij]; exact htg⟩
          rcases (or_testBit _ _ _).1 b with b | b
          · exact ⟨j, z4 j a (fun e => by rw [e, htk] at b; cases b), b⟩
          · rw [b] at a
            exact ⟨g, z5 a, htg⟩
        · obtain ⟨j, a, b⟩ := hc.2 t ht htn ⟨fun j hj => ((hsub j).1 (hct.1 j hj)).1, fun i j hi hj hij => by
            by_cases hjk : j = k
            · have hi1 := (hsub i).1 (hct.1 i hi)
              rw [hjk, h.sym k i hkl (in_lt hs hi1.1)] at hij
              rw [g4 i hi1.1 hij] at hi
              exact absurd hi htg
            · exact hct.2 i j hi ((hsub j).2 ⟨hj, hjk⟩) hij⟩
          exact ⟨j, z4 j a (fun e => by rw [e, htk] at b; cases b), b⟩⟩
      omega
theorem reach_closed {net : List Int} (h : Ok net) {t i j : Nat} (hc : Closed net (allOf net) t) (hr : Reach net (allOf net) i j) (hi : t.testBit i = true) : t.testBit j = true := by
  refine Classical.byContradiction fun hj => ?_
  obtain ⟨u, v, hu, hv, hul, hn⟩ := leaves hr hi (not_true hj)
  have huv := hn
  rw [hc.2 u v hu (by rw [allOf_testBit]; simpa using h.nb_lt hul huv) huv] at hv
  cases hv
theorem roots_cover {net : List Int} (h : Ok net) : Covers net (allOf net) (roots net) := by
  refine ⟨fun j hj => by rw [allOf_testBit]; simpa using ((roots_testBit _ _).1 hj).1, fun t ht hne hc => ?_⟩
  obtain ⟨k, hk⟩ := pos_iff.1 hne
  have hkl := in_lt ht hk
  obtain ⟨r, r1, r2, r3⟩ := root_of h hkl
  refine ⟨r, (roots_testBit _ _).2 ⟨by omega, r2⟩, reach_closed h hc ((h.comp_testBit hkl r).1 ?_) hk⟩
  rw [← r3]; exact h.comp_self (by omega)
theorem cover_parts {net : List Int} (h : Ok net) {z : Nat} (hz : z < 2 ^ net.length) (hc : Covers net (allOf net) z) : parts net ≤ size z := by
  rw [parts_cnt, size_cnt h hz]
  have hex : ∀ k, ∃ i, k < net.length → i < net.length ∧ z.testBit i = true ∧ (comp net k).testBit i = true := by
    intro k
    by_cases hk : k < net.length
    · obtain ⟨j, a, b⟩ := hc.2 (comp net k) (h.comp_lt hk) (pos_iff.2 ⟨k, h.comp_self hk⟩) ⟨fun j hj => by rw [allOf_testBit]; simpa using in_lt (h.comp_lt hk) hj, fun i j hi hj hij => by
        have hil := in_lt (h.comp_lt hk) hi
        rw [h.comp_same hk hil hi]
        exact comp_nb h hil hij⟩
      exact ⟨j, fun _ => ⟨in_lt hz a, a, b⟩⟩
    · exact ⟨0, fun hx => absurd hx hk⟩
  refine cnt_inj (fun k => Classical.choose (hex k)) (fun k hk _ => ?_) (fun j k hj hk hrj hrk he => ?_)
  · have := Classical.choose_spec (hex k) hk
    exact ⟨this.1, this.2.1⟩
  · have h1 := Classical.choose_spec (hex j) hj
    have h2 := Classical.choose_spec (hex k) hk
    rw [he] at h1
    exact root_same h hj hk hrj hrk ((h.comp_same hj h2.1 h1.2.2).trans (h.comp_same hk h2.1 h2.2.2).symm)
/-- Wires and parts are places just in forests. -/
theorem forest_wires {net : List Int} (h : Ok net) : Peel net (allOf net) ↔ wires net + parts net = net.length := by
  have hge := wires_parts h
  have hz := size_all h
  constructor
  · intro hp
    obtain ⟨z, z1, z2, z3⟩ := peel_covers h hp (allOf_lt net)
    have := cover_parts h z1 z2
    rw [ends2_all h] at z3
    omega
  · intro he
    obtain ⟨r, r1, r2, r3⟩ := down_ex h _ (allOf net) (Nat.le_refl _) (allOf_lt net)
    by_cases hr : r = 0
    · rw [hr] at r1; exact down_zero r1
    · have := down_covers h r1 (allOf_lt net) r3 hr (roots net) (roots_lt net) (roots_cover h)
      rw [ends2_all h, roots_size h] at this
      omega
/-- What is left where nobody can go is nothing, just in forests. -/
theorem forest_left {net : List Int} (h : Ok net) {r : Nat} (hd : Down net r (allOf net)) (hr : r < 2 ^ net.length) (hst : Stuck net r) : r = 0 ↔ Peel net (allOf net) := by
  constructor
  · intro he; rw [he] at hd; exact down_zero hd
  · intro hp
    exact peel_stuck h hp (allOf_lt net) r (fun j hj => by rw [allOf_testBit]; simpa using in_lt hr hj) hst
end Go.Proofs.Ythcidiihfjjpdaa
/- Grown packings and sets that see each place once. Conditions: those of each theorem. -/
namespace Go.Proofs.Ythcidiihfjjpdaa
open D Go.RowKit
set_option linter.unusedVariables false
set_option linter.unusedSimpArgs false

def growP (net : List Int) (t k : Nat) : Nat := if packed net (t ||| 2 ^ k) = true then t ||| 2 ^ k else t
def grownP (net : List Int) (s : Nat) : Nat := fold net.length (growP net) s
def GrowI (net : List Int) (s k t : Nat) : Prop := t < 2 ^ net.length ∧ packed net t = true ∧ (∀ j, s.testBit j = true → t.testBit j = true) ∧ ∀ j, j < k → t.testBit j = false → packed net (t ||| 2 ^ j) = false
theorem or_bit {t k j : Nat} : (t ||| 2 ^ k).testBit j = (t.testBit j || decide (j = k)) := by
  rw [Nat.testBit_or, Nat.testBit_two_pow]
  congr 1
  rw [decide_eq_decide]; exact ⟨fun a => a.symm, fun a => a.symm⟩
theorem packed_mono {net : List Int} (h : Ok net) {s t : Nat} (hs : s < 2 ^ net.length) (hst : ∀ j, t.testBit j = true → s.testBit j = true) (hp : packed net s = true) : packed net t = true := by
  have ht : t < 2 ^ net.length := Nat.lt_pow_two_of_testBit _ fun j hj => not_true fun hx => by have := in_lt hs (hst j hx); omega
  exact (packed_two h ht).2 (((packed_two h hs).1 hp).mono hst)
theorem growP_step {net : List Int} (h : Ok net) {s k t : Nat} (hk : k < net.length) (hi : GrowI net s k t) : GrowI net s (k + 1) (growP net t k) := by
  obtain ⟨a, b, c, d⟩ := hi
  have hp : 2 ^ k < 2 ^ net.length := Nat.pow_lt_pow_right (by omega) hk
  unfold growP
  by_cases hq : packed net (t ||| 2 ^ k) = true
  · rw [if_pos hq]
    have hlt := Nat.or_lt_two_pow a hp
    refine ⟨hlt, hq, fun j hj => by rw [or_bit, c j hj]; rfl, fun j hj hb => ?_⟩
    rw [or_bit, Bool.or_eq_false_iff, decide_eq_false_iff_not] at hb
    have := d j (by omega) hb.1
    have hp2 : 2 ^ j < 2 ^ net.length := Nat.pow_lt_pow_right (by omega) (by omega)
    refine not_true fun hx => ?_
    rw [packed_mono h (Nat.or_lt_two_pow hlt hp2) (fun i hi => ?_) hx] at this
    · cases this
    · rw [or_bit, Bool.or_eq_true] at hi
      rw [or_bit, or_bit]
      rcases hi with hi | hi
      · rw [hi]; rfl
      · rw [hi]; simp
  · rw [if_neg hq]
    refine ⟨a, b, c, fun j hj hb => ?_⟩
    by_cases hjk : j = k
    · rw [hjk]; exact not_true hq
    · exact d j (by omega) hb
theorem grownP_is {net : List Int} (h : Ok net) {s : Nat} (hs : s < 2 ^ net.length) (hp : packed net s = true) : GrowI net s net.length (grownP net s) := by
  have key : ∀ k, k ≤ net.length → GrowI net s k (fold k (growP net) s) := by
    intro k
    induction k with
    | zero => exact fun _ => ⟨hs, hp, fun _ hj => hj, fun j hj => by omega⟩
    | succ k ih => intro hk; rw [fold_succ]; exact growP_step h (by omega) (ih (by omega))
  exact key _ (Nat.le_refl _)
/-- Each place is seen once. -/
def efficientB (net : List Int) (s : Nat) : Bool := packed net s && W net s
theorem efficient_is {net : List Int} (h : Ok net) {s m w : Nat} (hs : s < 2 ^ net.length) (he : efficientB net s = true) (hm : MaxOf net (packed net) m) (hw : MinOf net (W net) w) : size s = w ∧ m = w := by
  unfold efficientB at he
  rw [Bool.and_eq_true] at he
  exact packed_watch h hs he.1 he.2 hm hw
/-- Packed sets are apart, and each guard is needed. -/
theorem packed_needs {net : List Int} (h : Ok net) {s : Nat} (hs : s < 2 ^ net.length) (hp : packed net s = true) : Apart net s ∧ Needs net s := by
  have ha := ((packed_two h hs).1 hp).apart h hs
  exact ⟨ha, ha.needs h hs⟩
theorem Down.trans {net : List Int} {r t s : Nat} (h1 : Down net r t) (h2 : Down net t s) : Down net r s := by
  induction h2 with
  | here => exact h1
  | step a b _ ih => exact .step a b ih
/-- One sweep over the places: each with at most one neighbour left goes. -/
def peelStep (net : List Int) (t : Bool × Nat) (k : Nat) : Bool × Nat := if (t.2.testBit k && decide (size (nb net k &&& t.2) < 2)) = true then (true, t.2 - 2 ^ k) else t
def PeelI (net : List Int) (s k : Nat) (t : Bool × Nat) : Prop := Down net t.2 s ∧ t.2 ≤ s ∧ (t.1 = false → t.2 = s ∧ ∀ j, j < k → s.testBit j = true → 2 ≤ size (nb net j &&& s)) ∧ (t.1 = true → t.2 < s)
theorem peel_go {net : List Int} {s k : Nat} {t : Bool × Nat} (hi : PeelI net s k t) : PeelI net s (k + 1) (peelStep net t k) := by
  obtain ⟨a, b, c, d⟩ := hi
  unfold peelStep
  by_cases hq : (t.2.testBit k && decide (size (nb net k &&& t.2) < 2)) = true
  · rw [if_pos hq]
    rw [Bool.and_eq_true, decide_eq_true_eq] at hq
    have hge : 2 ^ k ≤ t.2 := Nat.ge_two_pow_of_testBit hq.1
    have hp := Nat.two_pow_pos k
    exact ⟨(Down.step hq.1 (by omega) .here : Down net (t.2 - 2 ^ k) t.2).trans a, Nat.le_trans (Nat.sub_le _ _) b, fun hf => (by cases hf), fun _ => (by show t.2 - 2 ^ k < s; omega)⟩
  · rw [if_neg hq]
    refine ⟨a, b, fun hf => ⟨(c hf).1, fun j hj hb => ?_⟩, d⟩
    by_cases hjk : j = k
    · subst hjk
      rw [(c hf).1, hb, Bool.true_and, decide_eq_true_eq] at hq
      omega
    · exact (c hf).2 j (by omega) hb
theorem peel_sweep (net : List Int) (s n : Nat) : PeelI net s n (fold n (peelStep net) (false, s)) := by
  induction n with
  | zero => exact ⟨.here, Nat.le_refl _, fun _ => ⟨rfl, fun j hj => by omega⟩, fun hf => (by cases hf)⟩
  | succ n ih => rw [fold_succ]; exact peel_go ih
noncomputable def forestB (net : List Int) : Bool := @decide (Peel net (allOf net)) (Classical.propDecidable _)
theorem forestB_iff {net : List Int} : forestB net = true ↔ Peel net (allOf net) := by unfold forestB; exact @decide_eq_true_iff _ (Classical.propDecidable _)
theorem forestB_wires {net : List Int} (h : Ok net) : forestB net = (wires net + parts net == net.length) := by
  rw [Bool.eq_iff_iff, forestB_iff, forest_wires h, beq_iff_eq]
end Go.Proofs.Ythcidiihfjjpdaa
/- The model's functions of chapter 11 in natural numbers: packings. Conditions: those of each theorem. -/
namespace Go.Proofs.Ythcidiihfjjpdaa
open D Go.RowKit
set_option linter.unusedVariables false
set_option linter.unusedSimpArgs false


def mostPacked (net : List Int) : Nat := maxSize net (packed net)
def efficientI (net : List Int) : Int := (find (2 ^ net.length) (fun s => if efficientB net s = true then some (s : Int) else none)).getD (-1)
def grownPI (net : List Int) (s : Int) : Int := if (0 ≤ s ∧ s < 2 ^ net.length) ∧ packed net s.toNat = true then ((grownP net s.toNat : Nat) : Int) else -1
end Go.Proofs.Ythcidiihfjjpdaa
/- The program's functions of chapter 11 in natural numbers. Conditions: those of each theorem. -/
namespace Go.Proofs.Ythcidiihfjjpdaa
open D Go.RowKit
set_option linter.unusedVariables false
set_option linter.unusedSimpArgs false


/-- The first place with at most one neighbour left. -/
def leafF (net : List Int) (s : Nat) : Int := (find net.length (fun k => if (s.testBit k && decide (size (nb net k &&& s) ≤ 1)) = true then some (k : Int) else none)).getD (-1)
theorem leafF_cases (net : List Int) {s : Nat} (hs : s < 2 ^ net.length) : (leafF net s = -1 ∧ Stuck net s) ∨ ∃ k : Nat, k < net.length ∧ leafF net s = (k : Int) ∧ s.testBit k = true ∧ size (nb net k &&& s) ≤ 1 := by
  unfold leafF
  cases hf : find net.length (fun k => if (s.testBit k && decide (size (nb net k &&& s) ≤ 1)) = true then some (k : Int) else none) with
  | none =>
    refine .inl ⟨rfl, fun k hk => ?_⟩
    have := find_none.1 hf k (in_lt hs hk)
    by_cases hc : size (nb net k &&& s) ≤ 1
    · rw [hk, decide_eq_true hc] at this; simp at this
    · omega
  | some r =>
    obtain ⟨k, hk, he⟩ := find_some_ex hf
    right
    by_cases hc : (s.testBit k && decide (size (nb net k &&& s) ≤ 1)) = true
    · rw [if_pos hc] at he
      injection he with he
      rw [Bool.and_eq_true, decide_eq_true_eq] at hc
      exact ⟨k, hk, he.symm, hc.1, hc.2⟩
    · rw [if_neg hc] at he; cases he
end Go.Proofs.Ythcidiihfjjpdaa
/- The laws of chapter 2: WatchOk, LeastWatchOk, FewestWatch, WatchOf. Conditions: those of each theorem. -/
namespace Go.Proofs.Ythcidiihfjjpdaa
open D Go.RowKit
set_option linter.unusedVariables false
set_option linter.unusedSimpArgs false


theorem and_not_zero {p s : Nat} (hp : p < 64) (hs : s < 64) : (((minus p s : Nat) : Int) == 0) = true ↔ ∀ j, p.testBit j = true → s.testBit j = true := by
  rw [show (((minus p s : Nat) : Int) == 0) = (minus p s == 0) from nat_beq _ 0, beq_iff_eq]
  constructor
  · intro he j hj
    have : (minus p s).testBit j = false := by rw [he, Nat.zero_testBit]
    rw [minus_testBit _ _ (by omega) (by omega), hj] at this
    simpa using this
  · intro ha
    apply Nat.eq_of_testBit_eq
    intro j
    rw [Nat.zero_testBit, minus_testBit _ _ (by omega) (by omega)]
    cases hb : p.testBit j with
    | false => rfl
    | true => rw [ha j hb]; rfl
theorem lone_zero {net : List Int} : ((lone net : Nat) : Int) = 0 ↔ ∀ k, k < net.length → nb net k ≠ 0 := by
  constructor
  · intro he k hk hz
    have h0 : lone net = 0 := by omega
    have := (lone_testBit net k).2 ⟨hk, hz⟩
    rw [h0, Nat.zero_testBit] at this; cases this
  · intro ha
    have : lone net = 0 := Nat.eq_of_testBit_eq fun j => by
      rw [Nat.zero_testBit]
      cases hb : (lone net).testBit j with
      | false => rfl
      | true =>
        obtain ⟨a, b⟩ := (lone_testBit net j).1 hb
        exact absurd b (ha j a)
    rw [this]; rfl
/-- The greatest of all. -/
theorem maxFold {n : Nat} {f : Nat → Nat} (k : Nat) (hk : k < n) : f k ≤ fold n (fun t k => if f k > t then f k else t) 0 := by
  induction n with
  | zero => omega
  | succ n ih =>
    rw [fold_succ]
    by_cases hkn : k = n
    · subst hkn; split <;> omega
    · have := ih (by omega)
      split <;> omega
theorem few_size {net : List Int} (h : Ok net) : ∃ s, s < 2 ^ net.length ∧ W net s = true ∧ size s = fewest net := (fewest_few h).ex
end Go.Proofs.Ythcidiihfjjpdaa
/- The laws of chapter 2: ThinnedWatch, WatchCounts, LeastWatches. Conditions: those of each theorem. -/
namespace Go.Proofs.Ythcidiihfjjpdaa
open D Go.RowKit
set_option linter.unusedVariables false
set_option linter.unusedSimpArgs false


theorem thinStep_sub {net : List Int} {t p : Nat} (ht : t < 64) (hp : p < 6) {j : Nat} (hj : (thinStep net t p).testBit j = true) : t.testBit j = true := by
  unfold thinStep at hj
  split at hj
  · rename_i hc
    rw [Bool.and_eq_true] at hc
    rw [sub_testBit ht hp hc.1, Bool.and_eq_true] at hj
    exact hj.1
  · exact hj
/-- What is left is a least watch within the set. -/
theorem thin_least {net : List Int} (h : Ok net) {s : Nat} (hs : s < 2 ^ net.length) (hw : W net s = true) : thin net s < 2 ^ net.length ∧ least net (thin net s) = true ∧ ∀ j, (thin net s).testBit j = true → s.testBit j = true := by
  have h6 := h.hi
  have key : ∀ k, k ≤ net.length → fold k (fun t k => thinStep net t (net.length - 1 - k)) s < 2 ^ net.length ∧ W net (fold k (fun t k => thinStep net t (net.length - 1 - k)) s) = true ∧
      (∀ j, (fold k (fun t k => thinStep net t (net.length - 1 - k)) s).testBit j = true → s.testBit j = true) ∧
      ∀ q, net.length - k ≤ q → q < net.length → (fold k (fun t k => thinStep net t (net.length - 1 - k)) s).testBit q = true → W net (fold k (fun t k => thinStep net t (net.length - 1 - k)) s - 2 ^ q) = false := by
    intro k
    induction k with
    | zero => intro _; exact ⟨hs, hw, fun j hj => hj, fun q h1 h2 => by omega⟩
    | succ k ih =>
      intro hk
      rw [fold_succ]
      obtain ⟨a, b, c, d⟩ := ih (by omega)
      generalize fold k (fun t k => thinStep net t (net.length - 1 - k)) s = t at a b c d ⊢
      have ht := lt64 h a
      have hp : net.length - 1 - k < 6 := by omega
      have hlt : thinStep net t (net.length - 1 - k) < 2 ^ net.length := thinStep_lt a
      refine ⟨hlt, thinStep_W b, fun j hj => c j (thinStep_sub ht hp hj), fun q h1 h2 hq => ?_⟩
      have hqt := thinStep_sub ht hp hq
      by_cases hqp : q = net.length - 1 - k
      · rw [hqp] at hq hqt ⊢
        unfold thinStep at hq ⊢
        split at hq
        · rw [sub_testBit ht hp hqt] at hq; simp at hq
        · rename_i hc
          rw [if_neg hc]
          rw [hqt, Bool.true_and] at hc
          simpa using hc
      · have hd := d q (by omega) h2 hqt
        cases hx : W net (thinStep net t (net.length - 1 - k) - 2 ^ q) with
        | false => rfl
        | true =>
          rw [W_mono h (sub_lt hlt) (sub_lt a) (fun j hj => ?_) hx] at hd
          · cases hd
          · rw [sub_testBit (lt64 h hlt) (by omega) hq, Bool.and_eq_true] at hj
            rw [sub_testBit ht (by omega) hqt, thinStep_sub ht hp hj.1, Bool.true_and]
            exact hj.2
  obtain ⟨a, b, c, d⟩ := key net.length (Nat.le_refl _)
  exact ⟨a, least_iff.2 ⟨b, fun k hk hb => d k (by omega) hk hb⟩, c⟩
theorem thin_same {net : List Int} (h : Ok net) {s : Nat} (hl : least net s = true) : thin net s = s := by
  have key : ∀ k, k ≤ net.length → fold k (fun t k => thinStep net t (net.length - 1 - k)) s = s := by
    intro k
    induction k with
    | zero => intro _; rfl
    | succ k ih =>
      intro hk
      rw [fold_succ, ih (by omega)]
      unfold thinStep
      rw [if_neg]
      intro hc
      rw [Bool.and_eq_true] at hc
      rw [(least_iff.1 hl).2 _ (by omega) hc.1] at hc
      exact absurd hc.2 (by simp)
  exact key _ (Nat.le_refl _)
/-! ### Counts -/
def cw (net : List Int) (j : Nat) : Nat := cnt (2 ^ net.length) (fun s => W net s && (size s == j))
theorem counts_at {net : List Int} (h : Ok net) {j : Nat} : D.eli (counts net) j = ((cw net j : Nat) : Int) := by
  have key : ∀ N, N ≤ 2 ^ net.length → (fold N (fun l s => if W net s = true then l.set (size s) (D.eli l (size s) + 1) else l) (List.replicate (net.length + 1) 0)).length = net.length + 1 ∧
      D.eli (fold N (fun l s => if W net s = true then l.set (size s) (D.eli l (size s) + 1) else l) (List.replicate (net.length + 1) 0)) j = ((cnt N (fun s => W net s && (size s == j)) : Nat) : Int) := by
    intro N
    induction N with
    | zero => intro _; exact ⟨by simp [fold_zero], by rw [fold_zero, eli_rep]; rfl⟩
    | succ N ih =>
      intro hN
      rw [fold_succ]
      obtain ⟨a, b⟩ := ih (by omega)
      generalize fold N _ (List.replicate (net.length + 1) 0) = l at a b ⊢
      have hz := size_le_len h (s := N) (by omega)
      have e2 : cnt (N + 1) (fun s => W net s && (size s == j)) = cnt N (fun s => W net s && (size s == j)) + (W net N && (size N == j)).toNat := rfl
      rw [e2]
      cases hW : W net N with
      | false => simp only [Bool.false_eq_true, if_false, Bool.false_and, Bool.toNat_false]; exact ⟨a, by rw [b]; rfl⟩
      | true =>
        simp only [if_true, Bool.true_and]
        refine ⟨by rw [List.length_set]; exact a, ?_⟩
        rw [eli_set (by omega)]
        by_cases hj : size N = j
        · rw [if_pos hj, hj, b]; simp
        · rw [if_neg hj, b, show (size N == j) = false by simpa using hj]; rfl
  exact (key _ (Nat.le_refl _)).2
theorem cw_sum {net : List Int} (h : Ok net) : sumN (net.length + 1) (cw net) = cnt (2 ^ net.length) (W net) := by
  unfold cw cnt
  rw [sumN_swap]
  refine sumN_congr fun s hs => ?_
  have hz := size_le_len h hs
  rw [sumN_one (k := size s) (by omega) (fun j _ hj => by
    show (W net s && (size s == j)).toNat = 0
    rw [show (size s == j) = false by simp; omega, Bool.and_false]; rfl)]
  simp
theorem cw_few {net : List Int} (h : Ok net) : 0 < cw net (fewest net) ∧ ∀ i, i < fewest net → cw net i = 0 := by
  obtain ⟨s, hs, hW, hz⟩ := few_size h
  constructor
  · have := sumN_pos (f := fun s => (W net s && (size s == fewest net)).toNat) hs
    rw [hW, hz] at this
    simp only [BEq.rfl, Bool.and_self, Bool.toNat_true] at this
    exact this
  · intro i hi
    show sumN (2 ^ net.length) (fun s => (W net s && (size s == i)).toNat) = 0
    rw [sumN_congr (g := fun _ => 0) (fun t ht => ?_), sumN_zero]
    cases hWt : W net t with
    | false => rfl
    | true =>
      have := (fewest_few h).le t ht hWt
      rw [show (size t == i) = false by simp; omega]; rfl
theorem cw_last {net : List Int} (h : Ok net) : cw net net.length = 1 := by
  show sumN (2 ^ net.length) (fun s => (W net s && (size s == net.length)).toNat) = 1
  have hsu := allOf_succ net
  rw [sumN_one (k := allOf net) (allOf_lt net) (fun t ht hne => ?_)]
  · rw [W_all h, size_all h]; simp
  · have := size_lt_len h (s := t) (by omega)
    rw [show (size t == net.length) = false by simp; omega, Bool.and_false]; rfl
theorem cw_le {net : List Int} (h : Ok net) (j : Nat) : cw net j ≤ 64 := Nat.le_trans (cnt_le _ _) h.pow
theorem L.sameInts_is {a : List Int} (ha : a.length ≤ 1000000) : L.sameInts_t a a = some true := by
  unfold L.sameInts_t L.sameInts_tree
  have := (run_for (run := L.sameInts_run4 a a) (len := a.length) (fun k (_ : Unit) => (k : Int)) (fun t k => ()) (fun t => Sum.inr ()) (fun k t => True) (by omega) (fun n k t hk ht => ?_) (fun n t ht => ?_) (t0 := ()) trivial).1
  · rw [cnd_f (by simp), show L.sameInts_run4 a a FUEL 0 = _ from this]
    rfl
  · refine ⟨?_, trivial⟩
    simp only [L.sameInts_run4, L.sameInts_step4]
    rw [cnd_t (by simp; omega), cnd_t (by simp; omega), cnd_t (by simp; omega), cnd_f (by simp), add1_nat (by omega)]
  · simp only [L.sameInts_run4, L.sameInts_step4]
    rw [cnd_f (by simp)]
/-! ### Least watches -/
end Go.Proofs.Ythcidiihfjjpdaa
/- The program's functions that the laws of chapter 15 call. Conditions: none. -/
namespace Go.Proofs.Ythcidiihfjjpdaa
end Go.Proofs.Ythcidiihfjjpdaa
/- Laws of chapter 3, and of chapter 4 over sets. Conditions: those of each theorem. -/
namespace Go.Proofs.Ythcidiihfjjpdaa
open D Go.RowKit
set_option linter.unusedVariables false
set_option linter.unusedSimpArgs false


theorem set_lt {net : List Int} {s : Nat} (h : decide (0 ≤ (s : Int) ∧ (s : Int) < 2 ^ net.length) = true) : s < 2 ^ net.length := by
  have := dec_true h
  rw [two_pow_cast] at this; omega
theorem minus_key : ∀ a, a < 64 → ∀ b, b < 64 → (minus b a = 0) → minus a b = a - b ∧ b ≤ a := by decide +kernel
/-- Without the guard the set sees just less by its private places. -/
theorem seen_less {net : List Int} (h : Ok net) {s g : Nat} (hs : s < 2 ^ net.length) (hg : s.testBit g = true) : seen net (s - 2 ^ g) = seen net s - priv net s g ∧ priv net s g ≤ seen net s := by
  have h6 := h.hi
  have hgl := in_lt hs hg
  have h64 := h.pow
  have hp := priv_lt h hs hgl
  have hsl := h.seen_lt hs
  have hsl2 := h.seen_lt (sub_lt (k := g) hs)
  have hsub : ∀ j, (priv net s g).testBit j = true → (seen net s).testBit j = true := fun j hj => (seen_balls h hs).2 ⟨g, hgl, hg, ((priv_testBit h hs hg j).1 hj).1⟩
  obtain ⟨k1, k2⟩ := minus_key (seen net s) (by omega) (priv net s g) (by omega) (by
    refine zero_iff.2 fun j => ?_
    rw [minus_testBit _ _ (by omega) (by omega)]
    cases hb : (priv net s g).testBit j with
    | false => rfl
    | true => rw [hsub j hb]; rfl)
  refine ⟨?_, k2⟩
  rw [← k1]
  apply Nat.eq_of_testBit_eq
  intro j
  rw [minus_testBit _ _ (by omega) (by omega), Bool.eq_iff_iff, Bool.and_eq_true, Bool.not_eq_true', seen_balls h (sub_lt hs), seen_balls h hs]
  constructor
  · rintro ⟨k, hk, a, b⟩
    rw [sub_testBit (by omega) (by omega) hg, Bool.and_eq_true] at a
    refine ⟨⟨k, hk, a.1, b⟩, not_true fun hc => ?_⟩
    have := ((priv_testBit h hs hg j).1 hc).2 k a.1 b
    rw [this] at a; simp at a
  · rintro ⟨⟨k, hk, a, b⟩, c⟩
    by_cases hkg : k = g
    · -- another guard sees it, too
      refine Classical.byContradiction fun hno => ?_
      rw [(priv_testBit h hs hg j).2 ⟨by rw [← hkg]; exact b, fun i hi hb => Classical.byContradiction fun hne => hno ⟨i, in_lt hs hi, by rw [sub_testBit (by omega) (by omega) hg, hi]; simp [hne], hb⟩⟩] at c
      cases c
    · exact ⟨k, hk, by rw [sub_testBit (by omega) (by omega) hg, a]; simp [hkg], b⟩
theorem privs_twice {net : List Int} (h : Ok net) {s : Nat} (hs : s < 2 ^ net.length) {p : Nat} (hp : ∀ j, p.testBit j = true ↔ ∃ g, g < net.length ∧ s.testBit g = true ∧ (priv net s g).testBit j = true) : p &&& twice net s = 0 ∧ p ||| twice net s = seen net s := by
  have hT := twice_is h hs
  have key : ∀ j, p.testBit j = true → ∀ a, s.testBit a = true → ∀ b, s.testBit b = true → (ball net a).testBit j = true → (ball net b).testBit j = true → a = b := fun j hj a ha b hb h1 h2 => by
    obtain ⟨g, _, hg, hgp⟩ := (hp j).1 hj
    have hx := ((priv_testBit h hs hg j).1 hgp).2
    rw [hx a ha h1, hx b hb h2]
  constructor
  · refine and_zero.2 fun j hj => not_true fun hc => ?_
    obtain ⟨a, b, ha, hb, hne, h1, h2⟩ := (hT.bit j).1 hj
    exact hne (key j hc a ha b hb h1 h2)
  · apply Nat.eq_of_testBit_eq
    intro j
    rw [Nat.testBit_or, Bool.eq_iff_iff, Bool.or_eq_true, hp, hT.bit, seen_balls h hs]
    constructor
    · rintro (⟨g, hgl, hg, hx⟩ | ⟨a, b, ha, hb, _, h1, _⟩)
      · exact ⟨g, hgl, hg, ((priv_testBit h hs hg j).1 hx).1⟩
      · exact ⟨a, in_lt hs ha, ha, h1⟩
    · rintro ⟨k, hk, hks, hkb⟩
      by_cases hx : ∃ b, s.testBit b = true ∧ b ≠ k ∧ (ball net b).testBit j = true
      · obtain ⟨b, hb, hne, hbb⟩ := hx
        exact .inr ⟨k, b, hks, hb, Ne.symm hne, hkb, hbb⟩
      · exact .inl ⟨k, hk, hks, (priv_testBit h hs hks j).2 ⟨hkb, fun i hi hib => Classical.byContradiction fun hne => hx ⟨i, hi, hne, hib⟩⟩⟩
end Go.Proofs.Ythcidiihfjjpdaa
/- The program's functions of chapter 4 over nets, and of chapter 5, in natural numbers. Conditions: those of each theorem. -/
namespace Go.Proofs.Ythcidiihfjjpdaa
open D Go.RowKit
set_option linter.unusedVariables false
set_option linter.unusedSimpArgs false


/-- One of two numbers, by a test and then a call. -/
def sel {α : Type} (a : Bool) (o : Option Bool) (x y : Int) (k : Int → Option α) : Option α := bif a then optC o (fun c => bif c then k x else k y) none else k y
theorem sel_is {α : Type} (a p : Bool) (x y : Int) (k : Int → Option α) : sel a (some p) x y k = k (bif a && p then x else y) := by cases a <;> cases p <;> rfl
theorem sel_min (p : Nat → Bool) (t s : Nat) : (bif decide (((size s : Nat) : Int) < (t : Int)) && p s then ((size s : Nat) : Int) else (t : Int)) = ((minStepN p t s : Nat) : Int) := by
  unfold minStepN
  by_cases h : size s < t
  · rw [decide_eq_true (by omega), Bool.true_and]
    cases p s with
    | true => rw [if_pos rfl, if_pos h]; rfl
    | false => rw [if_neg (by simp)]; rfl
  · rw [decide_eq_false (by omega), Bool.false_and]
    cases p s with
    | true => rw [if_pos rfl, if_neg h]; rfl
    | false => rw [if_neg (by simp)]; rfl
theorem sel_max (p : Nat → Bool) (t s : Nat) : (bif decide (((size s : Nat) : Int) > (t : Int)) && p s then ((size s : Nat) : Int) else (t : Int)) = ((maxStepN p t s : Nat) : Int) := by
  unfold maxStepN
  by_cases h : size s > t
  · rw [decide_eq_true (by omega), Bool.true_and]
    cases p s with
    | true => rw [if_pos rfl, if_pos h]; rfl
    | false => rw [if_neg (by simp)]; rfl
  · rw [decide_eq_false (by omega), Bool.false_and]
    cases p s with
    | true => rw [if_pos rfl, if_neg h]; rfl
    | false => rw [if_neg (by simp)]; rfl
def ch6 (net : List Int) (q : Nat × Nat × Nat × Nat × Nat × Nat) (s : Nat) : Nat × Nat × Nat × Nat × Nat × Nat :=
  (minStepN (fullN net) q.1 s, minStepN (W net) q.2.1 s, minStepN (fullA net) q.2.2.1 s, maxStepN (apart net) q.2.2.2.1 s, maxStepN (least net) q.2.2.2.2.1 s, maxStepN (needs net) q.2.2.2.2.2 s)
theorem fold_ch6 (net : List Int) (n a b c d e f : Nat) : fold n (ch6 net) (a, b, c, d, e, f) = (fold n (minStepN (fullN net)) a, fold n (minStepN (W net)) b, fold n (minStepN (fullA net)) c, fold n (maxStepN (apart net)) d, fold n (maxStepN (least net)) e, fold n (maxStepN (needs net)) f) := by
  induction n with
  | zero => rfl
  | succ n ih => simp only [fold_succ, ih]; rfl
end Go.Proofs.Ythcidiihfjjpdaa
/- Laws of chapter 5, and of chapter 4 over a net. Conditions: those of each theorem. -/
namespace Go.Proofs.Ythcidiihfjjpdaa
open D Go.RowKit
set_option linter.unusedVariables false
set_option linter.unusedSimpArgs false


theorem mins {net : List Int} (h : Ok net) : MinOf net (fullN net) (minSize net (fullN net)) ∧ MinOf net (W net) (fewest net) ∧ MinOf net (fullA net) (minSize net (fullA net)) ∧ MaxOf net (apart net) (maxSize net (apart net)) ∧ MaxOf net (least net) (maxSize net (least net)) ∧ MaxOf net (needs net) (maxSize net (needs net)) :=
  ⟨minSize_is h (ex_fullN h), few_min.1 (fewest_few h), minSize_is h (ex_fullA h), maxSize_is (ex_apart net), maxSize_is (ex_least h), maxSize_is (ex_needs h)⟩
theorem maxSize_le {net : List Int} (h : Ok net) {p : Nat → Bool} {m : Nat} (hm : MaxOf net p m) : m ≤ net.length := by
  obtain ⟨s, a, _, c⟩ := hm.ex
  have := size_le_len h a; omega
theorem minSize_le {net : List Int} (h : Ok net) {p : Nat → Bool} {m : Nat} (hm : MinOf net p m) : m ≤ net.length := by
  obtain ⟨s, a, _, c⟩ := hm.ex
  have := size_le_len h a; omega
theorem minFold2 {n c : Nat} {f : Nat → Nat} : (∀ k, k < n → fold n (fun t k => if f k < t then f k else t) c ≤ f k) ∧ fold n (fun t k => if f k < t then f k else t) c ≤ c := by
  induction n with
  | zero => exact ⟨fun k hk => by omega, Nat.le_refl _⟩
  | succ n ih =>
    rw [fold_succ]
    obtain ⟨a, b⟩ := ih
    refine ⟨fun k hk => ?_, by split <;> omega⟩
    by_cases hkn : k = n
    · rw [hkn]; split <;> omega
    · have := a k (by omega)
      split <;> omega
theorem L.sameInts_self {a : List Int} (ha : a.length ≤ 1000000) : L.sameInts_t a a = some true := by
  unfold L.sameInts_t L.sameInts_tree
  have := (run_for (run := L.sameInts_run4 a a) (len := a.length) (fun k (_ : Unit) => (k : Int)) (fun t k => ()) (fun t => Sum.inr ()) (fun k t => True) (by omega) (fun n k t hk ht => ?_) (fun n t ht => ?_) (t0 := ()) trivial).1
  · rw [cnd_f (by simp), show L.sameInts_run4 a a FUEL 0 = _ from this]
    rfl
  · refine ⟨?_, trivial⟩
    simp only [L.sameInts_run4, L.sameInts_step4]
    rw [cnd_t (by simp; omega), cnd_t (by simp; omega), cnd_t (by simp; omega), cnd_f (by simp), add1_nat (by omega)]
  · simp only [L.sameInts_run4, L.sameInts_step4]
    rw [cnd_f (by simp)]
/-- The net in which all are neighbours. -/
def whole (n : Nat) : List Int := fold n (fun l k => l ++ [((2 ^ n - 1 - 2 ^ k : Nat) : Int)]) []
theorem I.NetOk_whole {n : Nat} (h1 : 1 ≤ n) (h6 : n ≤ 6) : I.NetOk_t (whole n) = some true := by
  rw [I.NetOk_is]
  have hn : n = 1 ∨ n = 2 ∨ n = 3 ∨ n = 4 ∨ n = 5 ∨ n = 6 := by omega
  rcases hn with rfl | rfl | rfl | rfl | rfl | rfl <;> decide +kernel
theorem even_whole {n : Nat} (h1 : 1 ≤ n) (h6 : n ≤ 6) : (fewest (whole n) == maxSize (whole n) (least (whole n))) = true := by
  have hn : n = 1 ∨ n = 2 ∨ n = 3 ∨ n = 4 ∨ n = 5 ∨ n = 6 := by omega
  rcases hn with rfl | rfl | rfl | rfl | rfl | rfl <;> decide +kernel
theorem even_none {n : Nat} (h1 : 1 ≤ n) (h6 : n ≤ 6) : (fewest (List.replicate n 0) == maxSize (List.replicate n 0) (least (List.replicate n 0))) = true := by
  have hn : n = 1 ∨ n = 2 ∨ n = 3 ∨ n = 4 ∨ n = 5 ∨ n = 6 := by omega
  rcases hn with rfl | rfl | rfl | rfl | rfl | rfl <;> decide +kernel
theorem I.NetOk_none {n : Nat} (h1 : 1 ≤ n) (h6 : n ≤ 6) : I.NetOk_t (List.replicate n 0) = some true := by
  rw [I.NetOk_is]
  have hn : n = 1 ∨ n = 2 ∨ n = 3 ∨ n = 4 ∨ n = 5 ∨ n = 6 := by omega
  rcases hn with rfl | rfl | rfl | rfl | rfl | rfl <;> decide +kernel
theorem ok_of {net : List Int} (e : I.NetOk_t net = some true) : Ok net := by
  rcases NetOk_cases net with ⟨h, _⟩ | ⟨_, e1, _⟩
  · exact h
  · rw [e] at e1; cases e1
end Go.Proofs.Ythcidiihfjjpdaa
/- A net that is one; the places with a number, by the laws' own function. Conditions: those of each theorem. -/
namespace Go.Proofs.Ythcidiihfjjpdaa
open D Go.RowKit
set_option linter.unusedVariables false
set_option linter.unusedSimpArgs false


theorem netOk_of {net : List Int} (h : Ok net) : I.NetOk_t net = some true ∧ S.NetOk_t net = some true := by
  rcases NetOk_cases net with ⟨_, g1, g2⟩ | ⟨hn, _, _⟩
  · exact ⟨g1, g2⟩
  · exact absurd h hn
theorem L.setOf_n {r : List Nat} (hr : r.length ≤ 7) (v : Nat) : L.setOf_t (nl r) (v : Int) = some ((setL r v : Nat) : Int) := by
  unfold L.setOf_t L.setOf_tree
  have hl := nl_len r
  have h7 : (2 : Nat) ^ r.length ≤ 2 ^ 7 := Nat.pow_le_pow_right (by omega) hr
  have := (run_for (run := L.setOf_run3 (nl r) v) (len := r.length) (fun k (t : Nat) => ((t : Int), (k : Int))) (fun t k => if decide (r.getD k 0 = v) = true then t ||| 2 ^ k else t) (fun t => (t : Int)) (fun k t => t < 2 ^ r.length) (by omega) (fun f k t hk ht => ?_) (fun f t ht => ?_) (t0 := 0) (Nat.two_pow_pos _)).1
  · exact congrArg (fun o => optC o (fun q => some q) none) this
  · have hpk : 2 ^ k < 2 ^ r.length := Nat.pow_lt_pow_right (by omega) hk
    simp only [L.setOf_run3, L.setOf_step3]
    rw [cnd_t (by simp; omega), cnd_t (by simp; omega), Int.toNat_natCast, nl_at hk, nat_beq, add1_nat (by omega)]
    by_cases hv : r.getD k 0 = v
    · rw [cnd_t (by simpa using hv), cnd_f (by simp), if_pos (by simpa using hv), show IntKind.i64.wrap (1 * 2 ^ min k IntKind.i64.bits) = ((2 ^ k : Nat) : Int) from one_shl (k := k) (by omega), i64_or_nat _ _ (by omega) (by omega)]
      exact ⟨rfl, Nat.or_lt_two_pow ht hpk⟩
    · rw [cnd_f (by simpa using hv), if_neg (by simpa using hv)]; exact ⟨rfl, ht⟩
  · simp only [L.setOf_run3, L.setOf_step3]
    rw [cnd_f (by simp; omega)]
end Go.Proofs.Ythcidiihfjjpdaa
/- Laws of chapter 15. Conditions: those of each theorem. -/
namespace Go.Proofs.Ythcidiihfjjpdaa
open D Go.RowKit
set_option linter.unusedVariables false
set_option linter.unusedSimpArgs false


theorem sumN_ge {n m : Nat} {f : Nat → Nat} (h : ∀ k, k < n → m ≤ f k) : n * m ≤ sumN n f := by
  have := sumN_const n m
  have h2 : sumN n (fun _ => m) ≤ sumN n f := by
    clear this
    induction n with
    | zero => exact Nat.le_refl _
    | succ n ih =>
      show sumN n (fun _ => m) + m ≤ sumN n f + f n
      have := ih (fun k hk => h k (by omega))
      have := h n (by omega)
      omega
  omega
theorem leastNear_lone {net : List Int} (h : Ok net) : leastNear net = 0 ↔ lone net ≠ 0 := by
  obtain ⟨⟨k, hk, ek⟩, hle⟩ := leastNear_is h
  constructor
  · intro h0 hl
    have hz := lone_zero.1 (show ((lone net : Nat) : Int) = 0 by omega) k hk
    rw [h0] at ek
    apply hz
    have := size_cnt h (h.lt k hk)
    rw [ek] at this
    refine zero_iff.2 fun j => not_true fun hj => ?_
    have hjn := in_lt (h.lt k hk) hj
    have := cnt_inj (n := 1) (m := net.length) (p := fun _ => true) (q := fun i => (nb net k).testBit i) (fun _ => j) (fun _ _ _ => ⟨hjn, hj⟩) (fun a b ha hb _ _ _ => by omega)
    rw [cnt_true] at this
    omega
  · intro hl
    refine Classical.byContradiction fun hne => hl ?_
    have := (lone_zero (net := net)).2 fun k hk hz => by
      have := hle k hk
      rw [hz, show size 0 = 0 from by decide +kernel] at this
      omega
    omega
theorem L.FnLeastNear_is {code : List Int} (hm : code.length ≤ maxLen) (hw : ∀ n ∈ code, (Lit.int .u8 n).wf = true) : L.FnLeastNear_t code = some true := by
  unfold L.FnLeastNear_t L.FnLeastNear_tree
  by_cases hc : (code.length : Int) > 1048576
  · rw [cnd_t (by simpa using hc)]
  rw [cnd_f (by simpa using hc)]
  obtain ⟨net, e1, h1⟩ := S.DrawLeastNear_is (Bytes.wf hw)
  rw [e1]
  simp only [optC]
  rcases NetOk_cases net with ⟨h, g1, g2⟩ | ⟨_, g1, g2⟩
  · have h6 := h.hi
    have h64 := h.pow
    rw [I.LeastNear_y h g1, S.LeastNear_y h g2]
    simp only
    rw [cnd_f (by simp), cnd_f (by simp)]
    rw [I.LoneOf_n h g1]
    simp only
    have hl := leastNear_lone h
    obtain ⟨⟨k, hk, ek⟩, hle⟩ := leastNear_is h
    have e3 : (((leastNear net : Nat) : Int) == 0) = (((lone net : Nat) : Int) != 0) := by
      rw [Bool.eq_iff_iff, beq_iff_eq, bne_iff_ne]
      constructor
      · intro e; have := hl.1 (by omega); omega
      · intro e; have := hl.2 (by omega); omega
    rw [cnd_t (by rw [e3]; simp), I.WiresOf_n h g1]
    simp only
    have hsum := sumN_ge (n := net.length) (m := leastNear net) (f := fun k => size (nb net k)) hle
    have hends := ends_wires h
    unfold ends at hends
    have hlt := nb_size_lt h hk
    have hprod : leastNear net * net.length ≤ 6 * 6 := Nat.mul_le_mul (by omega) h6
    have hw : wires net ≤ 36 := by
      have : sumN net.length (fun k => size (nb net k)) ≤ sumN net.length (fun _ => 6) := by
        have key : ∀ n, n ≤ net.length → sumN n (fun k => size (nb net k)) ≤ sumN n (fun _ => 6) := by
          intro n
          induction n with
          | zero => intro _; exact Nat.le_refl _
          | succ n ih =>
            intro hn
            have a := ih (by omega)
            have b := nb_size_lt h (k := n) (by omega)
            show sumN n (fun k => size (nb net k)) + size (nb net n) ≤ sumN n (fun _ => 6) + 6
            omega
        exact key _ (Nat.le_refl _)
      rw [sumN_const] at this
      omega
    rw [← Int.natCast_mul, i64_wrap (n := ((leastNear net * net.length : Nat) : Int)) (by omega) (by omega), i64_wrap (by omega) (by omega)]
    congr 1
    rw [decide_eq_true_eq]
    rw [Nat.mul_comm] at hsum
    omega
  · rw [I.LeastNear_x g1, S.LeastNear_x g2, g1]
    simp only
    rw [cnd_f (by decide), cnd_t (by decide), cnd_t (by decide), cnd_t (by decide), L.alive_is]
theorem L.FnShareRowOk_is {code : List Int} (hm : code.length ≤ maxLen) (hw : ∀ n ∈ code, (Lit.int .u8 n).wf = true) : L.FnShareRowOk_t code = some true := by
  unfold L.FnShareRowOk_t L.FnShareRowOk_tree
  by_cases hc : (code.length : Int) > 1048576
  · rw [cnd_t (by simpa using hc)]
  rw [cnd_f (by simpa using hc)]
  obtain ⟨net, row, e1, h1, h2⟩ := S.DrawShareRowOk_is (Bytes.wf hw)
  rw [e1]
  simp only [optC]
  rcases NetOk_cases net with ⟨h, g1, g2⟩ | ⟨_, g1, g2⟩
  · have h6 := h.hi
    have hlo := h.lo
    have h64 := h.pow
    have hF := FUEL_le
    rw [I.ShareRowOk_n h g1, S.ShareRowOk_n h g2]
    simp only
    rw [cnd_f (by simp), g1]
    simp only [Bool.not_true, cond_false]
    have loop : L.FnShareRowOk_run10 (shB net row) FUEL (0, net, row) = some (.inr net) := by
      cases hcr : shB net row with
      | false =>
        obtain ⟨n, hn⟩ : ∃ q, FUEL = q + 1 := ⟨FUEL - 1, by omega⟩
        rw [hn]
        simp only [L.FnShareRowOk_run10, L.FnShareRowOk_step10]
        cases decide ((0 : Int) < ↑row.length) <;> rfl
      | true =>
        obtain ⟨q, rfl, q1, q2, q3⟩ := shB_iff.1 hcr
        have hll := nl_len q
        refine (run_for (run := L.FnShareRowOk_run10 true) (len := q.length) (fun k (_ : Unit) => ((k : Int), net, nl q)) (fun t k => ()) (fun _ => Sum.inr net) (fun k t => True) (by omega) (fun n k t hk ht => ?_) (fun n t ht => ?_) (t0 := ()) trivial).1
        · have hst : setL q (q.getD k 0) < 2 ^ net.length := setL_lt (by omega)
          simp only [L.FnShareRowOk_run10, L.FnShareRowOk_step10]
          rw [cnd_t (by rw [decide_eq_true_eq]; omega), cond_true, cnd_t (by rw [Bool.and_eq_true, decide_eq_true_eq, decide_eq_true_eq]; omega), cnd_t (by rw [decide_eq_true_eq]; omega), Int.toNat_natCast, nl_at hk, L.setOf_n (by omega)]
          simp only [optC]
          rw [I.WatchOk_n h g1, set_in hst, Int.toNat_natCast, q3 _ (getD_lt_nx hk), add1_nat (by omega)]
          exact ⟨rfl, trivial⟩
        · simp only [L.FnShareRowOk_run10, L.FnShareRowOk_step10]
          rw [cnd_f (by rw [decide_eq_false_iff_not]; omega)]
    rw [loop]
    simp only [sumC]
    have hrep : (List.replicate (net.length : Int).toNat 0 : List Int) = nl (List.replicate net.length 0) := by simp [nl]
    have hnx : nx (List.replicate net.length 0) = 1 := by
      apply Nat.le_antisymm
      · exact nx_least fun v hv => by rw [List.eq_of_mem_replicate hv]; omega
      · exact nx_gt (List.mem_replicate.2 ⟨by omega, rfl⟩)
    have hat : ∀ k, (List.replicate net.length 0).getD k 0 = 0 := fun k => by simp [List.getD, List.getElem?_replicate]; split <;> rfl
    have hset : setL (List.replicate net.length 0) 0 = allOf net := Nat.eq_of_testBit_eq fun j => by
      rw [Bool.eq_iff_iff, setL_bit, allOf_testBit, hat, List.length_replicate]
      simp
    have hfin : shB net (List.replicate (net.length : Int).toNat 0) = true := by
      rw [hrep, shB_row]
      refine ⟨List.length_replicate, fun k hk => by rw [hat]; exact Nat.zero_le _, fun v hv => ?_⟩
      obtain rfl : v = 0 := by omega
      rw [hset]; exact W_all h
    rw [cnd_t (by rw [Int.toNat_natCast, small_of (by omega)]; rfl), I.ShareRowOk_n h g1, hfin, L.alive_is]
    rfl
  · rw [I.ShareRowOk_x g1, S.ShareRowOk_x g2, g1]
    simp only
    rw [cnd_f (by decide), cnd_t (by decide), cnd_t (by decide), L.alive_is]
theorem L.FnShareRow_is {code : List Int} (hm : code.length ≤ maxLen) (hw : ∀ n ∈ code, (Lit.int .u8 n).wf = true) : L.FnShareRow_t code = some true := by
  unfold L.FnShareRow_t L.FnShareRow_tree
  by_cases hc : (code.length : Int) > 1048576
  · rw [cnd_t (by simpa using hc)]
  rw [cnd_f (by simpa using hc)]
  obtain ⟨net, e1, h1⟩ := S.DrawShareRow_is (Bytes.wf hw)
  rw [e1]
  simp only [optC]
  rcases NetOk_cases net with ⟨h, g1, g2⟩ | ⟨_, g1, g2⟩
  rotate_left
  · rw [I.ShareRow_x g1, S.ShareRow_x g2]
    simp only
    rw [L.sameInts_is (by simp)]
    simp only [Bool.not_true, cond_false]
    rw [cnd_t (by rfl), g1]
    simp only [Bool.not_false, cond_true]
    rw [L.alive_is]
  have h6 := h.hi
  have hlo := h.lo
  have h64 := h.pow
  obtain ⟨a1, a2⟩ := I.ShareRow_y h g1
  obtain ⟨b1, _⟩ := S.ShareRow_y h g2
  have hlen := a2.mem.len
  have hnx := a2.mem.eq
  have hll := nl_len (shRow net)
  have hle := mostSh_le h
  rw [a1, b1]
  simp only
  rw [L.sameInts_is (by omega)]
  simp only [Bool.not_true, cond_false]
  rw [cnd_f (by rw [beq_eq_false_iff_ne]; omega)]
  have loop := (run_for (run := L.FnShareRow_run11) (len := (shRow net).length) (fun k (t : Nat) => ((t : Int), (k : Int), net, nl (shRow net))) (fun t k => max t ((shRow net).getD k 0 + 1)) (fun t => ((t : Int), net, nl (shRow net))) (fun k t => True) (by omega) (fun f k t hk ht => ?_) (fun f t ht => ?_) (t0 := 0) trivial).1
  · have e2 : fold (shRow net).length (fun t k => max t ((shRow net).getD k 0 + 1)) 0 = mostSh net := by
      have key : ∀ k, k ≤ (shRow net).length → fold k (fun t k => max t ((shRow net).getD k 0 + 1)) 0 = nx ((shRow net).take k) := by
        intro k
        induction k with
        | zero => intro _; simp [nx, fold_zero]
        | succ k ih => intro hk; rw [fold_succ, ih (by omega), nx_take_succ (by omega)]
      have := key (shRow net).length (Nat.le_refl _)
      rwa [List.take_length, hnx] at this
    rw [e2] at loop
    rw [show L.FnShareRow_run11 FUEL (0, 0, net, nl (shRow net)) = _ from loop]
    simp only
    rw [I.ShareRowOk_n h g1, shB_row.2 ⟨hlen, a2.mem.rg, fun v hv => a2.mem.wa v (by omega)⟩]
    simp only [cond_true]
    rw [I.MostShares_y h g1]
    simp only [beq_self_eq_true]
  · simp only [L.FnShareRow_run11, L.FnShareRow_step11]
    have hv := getD_lt_nx hk
    rw [cnd_t (by simp; omega), cnd_t (by simp; omega), cnd_t (by simp; omega), Int.toNat_natCast, nl_at hk, add1_nat (a := k) (by omega), add1_nat (by omega)]
    refine ⟨?_, trivial⟩
    congr 3
    by_cases hm : (shRow net).getD k 0 + 1 > t
    · rw [if_pos (by omega), Nat.max_eq_right (by omega)]
    · rw [if_neg (by omega), Nat.max_eq_left (by omega)]
  · simp only [L.FnShareRow_run11, L.FnShareRow_step11]
    rw [cnd_f (by simp; omega)]
theorem L.FnMostShares_is {code : List Int} (hm : code.length ≤ maxLen) (hw : ∀ n ∈ code, (Lit.int .u8 n).wf = true) : L.FnMostShares_t code = some true := by
  unfold L.FnMostShares_t L.FnMostShares_tree
  by_cases hc : (code.length : Int) > 1048576
  · rw [cnd_t (by simpa using hc)]
  rw [cnd_f (by simpa using hc)]
  obtain ⟨net, e1, h1⟩ := S.DrawMostShares_is (Bytes.wf hw)
  rw [e1]
  simp only [optC]
  rcases NetOk_cases net with ⟨h, g1, g2⟩ | ⟨_, g1, g2⟩
  · have h6 := h.hi
    have h64 := h.pow
    rw [I.MostShares_y h g1, S.MostShares_y h g2]
    simp only
    rw [cnd_f (by simp), cnd_f (by simp)]
    have hmax := mostSh_max h
    have hpos := mostSh_pos h
    have hle := mostSh_le h
    obtain ⟨⟨k, hk, ek⟩, hln⟩ := leastNear_is h
    have hlt := nb_size_lt h hk
    rw [cnd_t (by rw [decide_eq_true_eq]; omega), I.LeastNear_y h g1]
    simp only
    have f1 := shares_ball h hmax.ex hk
    rw [ball_size h hk, ek] at f1
    rw [i64_wrap (by omega) (by omega), cnd_t (by rw [decide_eq_true_eq]; omega), I.FewestWatch_y h g1]
    simp only
    have f2 := shares_times h hmax.ex (few_min.1 (fewest_few h))
    rw [← Int.natCast_mul, i64_wrap (by omega) (by omega), cnd_t (by rw [decide_eq_true_eq]; omega), I.LoneOf_n h g1]
    simp only
    have f3 := shares_two h
    have f4 := lone_zero (net := net)
    congr 1
    rw [Bool.eq_iff_iff] 
    simp only [beq_iff_eq, iff_true]
    rw [Bool.eq_iff_iff, decide_eq_true_eq, beq_iff_eq]
    constructor
    · intro hm
      exact f4.2 (f3.1 ⟨mostSh net, by omega, hmax.ex⟩)
    · intro hz
      obtain ⟨m, m1, m2⟩ := f3.2 (f4.1 hz)
      have := hmax.le m m2
      omega
  · rw [I.MostShares_x g1, S.MostShares_x g2, g1]
    simp only
    rw [cnd_f (by decide), cnd_t (by decide), cnd_t (by decide), cnd_t (by decide), L.alive_is]
theorem L.FnWatchPair_is {code : List Int} (hm : code.length ≤ maxLen) (hw : ∀ n ∈ code, (Lit.int .u8 n).wf = true) : L.FnWatchPair_t code = some true := by
  unfold L.FnWatchPair_t L.FnWatchPair_tree
  by_cases hc : (code.length : Int) > 1048576
  · rw [cnd_t (by simpa using hc)]
  rw [cnd_f (by simpa using hc)]
  obtain ⟨net, e1, h1⟩ := S.DrawWatchPair_is (Bytes.wf hw)
  rw [e1]
  simp only [optC]
  rcases NetOk_cases net with ⟨h, g1, g2⟩ | ⟨_, g1, g2⟩
  rotate_left
  · rw [I.WatchPair_x g1, S.WatchPair_x g2, g1]
    simp only
    rw [cnd_f (by decide), cnd_f (by decide), cnd_t (by decide), cnd_t (by decide), cnd_t (by decide), cnd_t (by decide), L.alive_is]
  have h6 := h.hi
  have hlo := h.lo
  have h64 := h.pow
  have ho := otherN_ok h
  have hoo := otherN_other h
  obtain ⟨o1, o2⟩ := netOk_of ho
  have hl := otherN_len net
  rw [I.WatchPair_y h g1, S.WatchPair_y h g2]
  simp only
  rw [cnd_f (by simp), cnd_f (by simp), cnd_f (by rw [decide_eq_false_iff_not]; omega)]
  have f1 := watch_times h hoo (few_min.1 (fewest_few h)) (few_min.1 (fewest_few ho))
  have f2 := watch_sum h hoo (few_min.1 (fewest_few h)) (few_min.1 (fewest_few ho))
  rw [← Int.natCast_mul, i64_wrap (n := ((fewest net * fewest (otherN net) : Nat) : Int)) (by omega) (by omega), cnd_t (by rw [decide_eq_true_eq]; omega), i64_wrap (n := ((fewest net : Nat) : Int) + ((fewest (otherN net) : Nat) : Int)) (by omega) (by omega), i64_wrap (by omega) (by omega), cnd_t (by rw [decide_eq_true_eq]; omega), I.FewestWatch_y h g1]
  simp only [beq_self_eq_true]
theorem L.FnSharePair_is {code : List Int} (hm : code.length ≤ maxLen) (hw : ∀ n ∈ code, (Lit.int .u8 n).wf = true) : L.FnSharePair_t code = some true := by
  unfold L.FnSharePair_t L.FnSharePair_tree
  by_cases hc : (code.length : Int) > 1048576
  · rw [cnd_t (by simpa using hc)]
  rw [cnd_f (by simpa using hc)]
  obtain ⟨net, e1, h1⟩ := S.DrawSharePair_is (Bytes.wf hw)
  rw [e1]
  simp only [optC]
  rcases NetOk_cases net with ⟨h, g1, g2⟩ | ⟨_, g1, g2⟩
  rotate_left
  · rw [I.SharePair_x g1, S.SharePair_x g2, g1]
    simp only
    rw [cnd_f (by decide), cnd_f (by decide), cnd_t (by decide), cnd_t (by decide), cnd_t (by decide), cnd_t (by decide), L.alive_is]
  have h6 := h.hi
  have hlo := h.lo
  have h64 := h.pow
  have ho := otherN_ok h
  have hoo := otherN_other h
  obtain ⟨o1, o2⟩ := netOk_of ho
  have hl := otherN_len net
  rw [I.SharePair_y h g1, S.SharePair_y h g2]
  simp only
  rw [cnd_f (by simp), cnd_f (by simp), cnd_f (by rw [decide_eq_false_iff_not]; omega)]
  have f2 := shares_sum h hoo (mostSh_max h).ex (mostSh_max ho).ex
  have f3 := mostSh_pos h
  have f4 := mostSh_pos ho
  rw [i64_wrap (n := ((mostSh net : Nat) : Int) + ((mostSh (otherN net) : Nat) : Int)) (by omega) (by omega), i64_wrap (by omega) (by omega), cnd_t (by rw [decide_eq_true_eq]; omega), cnd_t (by rw [decide_eq_true_eq]; omega), cnd_t (by rw [decide_eq_true_eq]; omega), I.OtherNet_y h g1]
  simp only
  rw [I.MostShares_y ho o1]
  simp only [beq_self_eq_true]
end Go.Proofs.Ythcidiihfjjpdaa
/- Exact laws of chapters 15 and 16. Conditions: those of each theorem. -/
namespace Go.Proofs.Ythcidiihfjjpdaa
open D Go.RowKit
set_option linter.unusedVariables false
set_option linter.unusedSimpArgs false


theorem LeastNear_same {a0 : List Int} : ∃ v, S.LeastNear_t a0 = some v ∧ I.LeastNear_t a0 = some v := by
  rcases NetOk_cases a0 with ⟨h, e1, e2⟩ | ⟨_, e1, e2⟩
  · exact ⟨_, S.LeastNear_y h e2, I.LeastNear_y h e1⟩
  · exact ⟨_, S.LeastNear_x e2, I.LeastNear_x e1⟩
theorem L.FnExactLeastNear_is {a0 : List Int} : L.FnExactLeastNear_t a0 = some true := by
  unfold L.FnExactLeastNear_t L.FnExactLeastNear_tree
  by_cases ha0 : (a0.length : Int) > 1048576
  · rw [cnd_t (by simpa using ha0)]
  rw [cnd_f (by simpa using ha0)]
  have ta0 := L.toIntS_is (a := a0) (by omega)
  have ea0 := L.eqIntS_is (a := a0) (b := a0) (by omega)
  obtain ⟨b, h1, h2⟩ := LeastNear_same (a0 := a0)
  simp only [optC, ta0, ea0, h1, h2]
  simp
theorem MostShares_same {a0 : List Int} : ∃ v, S.MostShares_t a0 = some v ∧ I.MostShares_t a0 = some v := by
  rcases NetOk_cases a0 with ⟨h, e1, e2⟩ | ⟨_, e1, e2⟩
  · exact ⟨_, S.MostShares_y h e2, I.MostShares_y h e1⟩
  · exact ⟨_, S.MostShares_x e2, I.MostShares_x e1⟩
theorem L.FnExactMostShares_is {a0 : List Int} : L.FnExactMostShares_t a0 = some true := by
  unfold L.FnExactMostShares_t L.FnExactMostShares_tree
  by_cases ha0 : (a0.length : Int) > 1048576
  · rw [cnd_t (by simpa using ha0)]
  rw [cnd_f (by simpa using ha0)]
  have ta0 := L.toIntS_is (a := a0) (by omega)
  have ea0 := L.eqIntS_is (a := a0) (b := a0) (by omega)
  obtain ⟨b, h1, h2⟩ := MostShares_same (a0 := a0)
  simp only [optC, ta0, ea0, h1, h2]
  simp
theorem WatchPair_same {a0 : List Int} : ∃ v, S.WatchPair_t a0 = some v ∧ I.WatchPair_t a0 = some v := by
  rcases NetOk_cases a0 with ⟨h, e1, e2⟩ | ⟨_, e1, e2⟩
  · exact ⟨_, S.WatchPair_y h e2, I.WatchPair_y h e1⟩
  · exact ⟨_, S.WatchPair_x e2, I.WatchPair_x e1⟩
theorem L.FnExactWatchPair_is {a0 : List Int} : L.FnExactWatchPair_t a0 = some true := by
  unfold L.FnExactWatchPair_t L.FnExactWatchPair_tree
  by_cases ha0 : (a0.length : Int) > 1048576
  · rw [cnd_t (by simpa using ha0)]
  rw [cnd_f (by simpa using ha0)]
  have ta0 := L.toIntS_is (a := a0) (by omega)
  have ea0 := L.eqIntS_is (a := a0) (b := a0) (by omega)
  obtain ⟨b, h1, h2⟩ := WatchPair_same (a0 := a0)
  simp only [optC, ta0, ea0, h1, h2]
  simp
theorem SharePair_same {a0 : List Int} : ∃ v, S.SharePair_t a0 = some v ∧ I.SharePair_t a0 = some v := by
  rcases NetOk_cases a0 with ⟨h, e1, e2⟩ | ⟨_, e1, e2⟩
  · exact ⟨_, S.SharePair_y h e2, I.SharePair_y h e1⟩
  · exact ⟨_, S.SharePair_x e2, I.SharePair_x e1⟩
theorem L.FnExactSharePair_is {a0 : List Int} : L.FnExactSharePair_t a0 = some true := by
  unfold L.FnExactSharePair_t L.FnExactSharePair_tree
  by_cases ha0 : (a0.length : Int) > 1048576
  · rw [cnd_t (by simpa using ha0)]
  rw [cnd_f (by simpa using ha0)]
  have ta0 := L.toIntS_is (a := a0) (by omega)
  have ea0 := L.eqIntS_is (a := a0) (b := a0) (by omega)
  obtain ⟨b, h1, h2⟩ := SharePair_same (a0 := a0)
  simp only [optC, ta0, ea0, h1, h2]
  simp
theorem ShareRowOk_same {a0 a1 : List Int} : ∃ v, S.ShareRowOk_t a0 a1 = some v ∧ I.ShareRowOk_t a0 a1 = some v := by
  rcases NetOk_cases a0 with ⟨h, e1, e2⟩ | ⟨_, e1, e2⟩
  · exact ⟨_, S.ShareRowOk_n h e2, I.ShareRowOk_n h e1⟩
  · exact ⟨_, S.ShareRowOk_x e2, I.ShareRowOk_x e1⟩
theorem L.FnExactShareRowOk_is {a0 : List Int} {a1 : List Int} : L.FnExactShareRowOk_t a0 a1 = some true := by
  unfold L.FnExactShareRowOk_t L.FnExactShareRowOk_tree
  by_cases ha0 : (a0.length : Int) > 1048576
  · rw [cnd_t (by simpa using ha0)]
  rw [cnd_f (by simpa using ha0)]
  by_cases ha1 : (a1.length : Int) > 1048576
  · rw [cnd_t (by simpa using ha1)]
  rw [cnd_f (by simpa using ha1)]
  have ta0 := L.toIntS_is (a := a0) (by omega)
  have ea0 := L.eqIntS_is (a := a0) (b := a0) (by omega)
  have ta1 := L.toIntS_is (a := a1) (by omega)
  have ea1 := L.eqIntS_is (a := a1) (b := a1) (by omega)
  obtain ⟨b, h1, h2⟩ := ShareRowOk_same (a0 := a0) (a1 := a1)
  simp only [optC, ta0, ta1, ea0, ea1, h1, h2]
  simp
theorem ShareRow_same {a0 : List Int} : ∃ v, S.ShareRow_t a0 = some v ∧ I.ShareRow_t a0 = some v ∧ v.length ≤ 1000000 := by
  rcases NetOk_cases a0 with ⟨h, e1, e2⟩ | ⟨_, e1, e2⟩
  · have h6 := h.hi
    refine ⟨_, (S.ShareRow_y h e2).1, (I.ShareRow_y h e1).1, ?_⟩
    rw [nl_len, (S.ShareRow_y h e2).2.mem.len]; omega
  · exact ⟨_, S.ShareRow_x e2, I.ShareRow_x e1, by simp⟩
theorem L.FnExactShareRow_is {a0 : List Int} : L.FnExactShareRow_t a0 = some true := by
  unfold L.FnExactShareRow_t L.FnExactShareRow_tree
  by_cases ha0 : (a0.length : Int) > 1048576
  · rw [cnd_t (by simpa using ha0)]
  rw [cnd_f (by simpa using ha0)]
  have ta0 := L.toIntS_is (a := a0) (by omega)
  have ea0 := L.eqIntS_is (a := a0) (b := a0) (by omega)
  obtain ⟨v, h1, h2, hv⟩ := ShareRow_same (a0 := a0)
  obtain ⟨m, m1, m4⟩ := L.marked (v := v) (by omega)
  have ev := L.eqIntS_is (a := v) (b := v) (by omega)
  obtain ⟨ma0, ka0, _, _⟩ := L.markIntS_is (a := a0) (k0 := 1) (by omega) (by omega)
  have ka0' : L.markIntS_t a0 1 = _ := ka0
  simp only [optC, ta0, ea0, h1, h2, ev, m1, m4, ka0', decide_true, Bool.not_true, cond_false, neg_nat, not_beq_self]
end Go.Proofs.Ythcidiihfjjpdaa
