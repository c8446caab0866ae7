/- Several texts in one: Ot, N3, Ex, Ex2, S3, Nt3, Dr, Dr2, S7, S8, S9, Hall, Ch10, S10, Br3, S13, Ch15b, S15, Dr15, Tree, Shift, Dr3, S6, Pm, I3, I6. Conditions: those of each theorem. -/
import Derived.Test.YthcidiihfjjpdaaBzb0
import Derived.Test.YthcidiihfjjpdaaBza2
/- The other net. Conditions: those of each theorem. -/
namespace Go.Proofs.Ythcidiihfjjpdaa
open D Go.RowKit
set_option linter.unusedVariables false
set_option linter.unusedSimpArgs false

def otherN (net : List Int) : List Int := (List.range net.length).map fun k => ((minus (allOf net) (ball net k) : Nat) : Int)
theorem otherN_len (net : List Int) : (otherN net).length = net.length := by simp [otherN]
theorem otherN_eli {net : List Int} {k : Nat} (hk : k < net.length) : D.eli (otherN net) k = ((minus (allOf net) (ball net k) : Nat) : Int) := by unfold D.eli otherN; simp [List.getD, hk]
theorem otherN_nb {net : List Int} {k : Nat} (hk : k < net.length) : nb (otherN net) k = minus (allOf net) (ball net k) := by
  show (D.eli (otherN net) k).toNat = _
  rw [otherN_eli hk]; omega
theorem otherN_bit {net : List Int} (h : Ok net) {i : Nat} (hi : i < net.length) (j : Nat) : (nb (otherN net) i).testBit j = (decide (j < net.length) && (!decide (i = j) && !(nb net i).testBit j)) := by
  have h64 := h.pow
  have ha := allOf_lt net
  have hb := h.ball_lt hi
  rw [otherN_nb hi, minus_testBit _ _ (by omega) (by omega), allOf_testBit]
  congr 1
  unfold ball
  rw [Nat.testBit_or, testBit_pow, Bool.not_or, Bool.and_comm]
theorem otherN_ok {net : List Int} (h : Ok net) : Ok (otherN net) := by
  have hl := otherN_len net
  refine ⟨by rw [hl]; exact h.lo, by rw [hl]; exact h.hi, fun k hk => ?_, fun k hk => ?_, fun j k hj hk => ?_, fun k hk => ?_⟩
  · rw [hl] at hk
    show D.eli (otherN net) k = ((D.eli (otherN net) k).toNat : Int)
    rw [otherN_eli hk]; omega
  · rw [hl] at hk ⊢
    rw [otherN_nb hk]
    exact Nat.lt_of_le_of_lt Nat.and_le_left (allOf_lt net)
  · rw [hl] at hj hk
    rw [otherN_bit h hk, otherN_bit h hj, h.sym j k hj hk]
    have e : decide (k = j) = decide (j = k) := by rw [decide_eq_decide]; exact ⟨Eq.symm, Eq.symm⟩
    rw [decide_eq_true hj, decide_eq_true hk, e]
  · rw [hl] at hk
    rw [otherN_bit h hk]; simp
theorem otherN_other {net : List Int} (h : Ok net) : Other net (otherN net) := ⟨otherN_ok h, otherN_len net, fun i j hi hj => by rw [otherN_bit h hi, decide_eq_true hj, Bool.true_and]⟩
/-- Nets with the same neighbours are the same. -/
theorem nets_eq {net o : List Int} (h : Ok net) (ho : Ok o) (hl : o.length = net.length) (hb : ∀ i j, i < net.length → j < net.length → (nb o i).testBit j = (nb net i).testBit j) : o = net := by
  refine List.ext_getElem hl fun k h1 h2 => ?_
  have e1 := ho.eli h1
  have e2 := h.eli h2
  have e3 : nb o k = nb net k := eq_of_bits (n := net.length) (by rw [← hl]; exact ho.lt k h1) (h.lt k h2) fun j hj => hb k j h2 hj
  rw [e3, ← e2] at e1
  unfold D.eli at e1
  simpa [List.getD, h1, h2] using e1
theorem otherN_twice {net : List Int} (h : Ok net) : otherN (otherN net) = net := by
  have ho := otherN_ok h
  have hl := otherN_len net
  refine nets_eq h (otherN_ok ho) (by rw [otherN_len, hl]) fun i j hi hj => ?_
  rw [otherN_bit ho (by omega), otherN_bit h hi, hl, decide_eq_true hj]
  by_cases he : i = j
  · subst he; rw [h.irr i hi]; simp
  · simp [he]
theorem clique_other {net : List Int} (h : Ok net) {s : Nat} (hs : s < 2 ^ net.length) : Clique net s ↔ Apart (otherN net) s := by
  have hin : ∀ {i}, s.testBit i = true → i < net.length := fun hi => in_lt hs hi
  constructor
  · intro hc i j hi hj
    rw [otherN_bit h (hin hi), decide_eq_true (hin hj), Bool.true_and]
    by_cases he : i = j
    · subst he; simp
    · rw [hc i j hi hj he]; simp
  · intro ha i j hi hj hne
    have := ha i j hi hj
    rw [otherN_bit h (hin hi), decide_eq_true (hin hj), decide_eq_false hne] at this
    simpa using this
theorem wires_other {net : List Int} (h : Ok net) : 2 * wires net + 2 * wires (otherN net) + net.length = net.length * net.length := by
  have ho := otherN_ok h
  have hl := otherN_len net
  have b1 := balls_sum h
  have b2 := balls_sum ho
  rw [hl] at b2
  have hs : sumN net.length (fun k => size (ball net k) + size (ball (otherN net) k)) = sumN net.length (fun _ => net.length + 1) := sumN_congr fun k hk => by
    rw [ball_size h hk, ball_size ho (by omega)]
    have e1 := h.size_eq (h.lt k hk)
    have e2 := ho.size_eq (ho.lt k (by omega))
    rw [hl] at e2
    rw [e1, e2, card_sum, card_sum]
    have := cnt_not net.length (fun j => (ball net k).testBit j)
    have hb := h.size_eq (h.ball_lt hk)
    rw [card_sum, ball_size h hk, e1, card_sum] at hb
    have hc : cnt net.length (fun j => (nb (otherN net) k).testBit j) = cnt net.length (fun j => !(ball net k).testBit j) := cnt_congr fun j hj => by
      rw [otherN_bit h hk, decide_eq_true hj, Bool.true_and]
      unfold ball
      rw [Nat.testBit_or, testBit_pow, Bool.not_or, Bool.and_comm]
    omega
  rw [sumN_add, sumN_const, b1, b2] at hs
  have : net.length * (net.length + 1) = net.length * net.length + net.length := Nat.mul_succ _ _
  omega
theorem parts_other {net : List Int} (h : Ok net) : parts net = 1 ∨ parts (otherN net) = 1 := by
  have ho := otherN_ok h
  have hl := otherN_len net
  by_cases h1 : parts net = 1
  · exact .inl h1
  right
  rw [one_part ho]
  have hno : ¬ ∀ j k, j < net.length → k < net.length → (comp net j).testBit k = true := fun hc => h1 ((one_part h).2 hc)
  intro x y hx hy
  rw [hl] at hx hy
  -- somebody is not of the part of x
  have hz : ∃ z, z < net.length ∧ (comp net x).testBit z = false := Classical.byContradiction fun hn => hno fun j k hj hk => by
    have hx1 : ∀ z, z < net.length → (comp net x).testBit z = true := fun z hz => by
      cases hb : (comp net x).testBit z with
      | true => rfl
      | false => exact absurd ⟨z, hz, hb⟩ hn
    rw [← h.comp_same hx hj (hx1 j hj)]
    exact hx1 k hk
  have step : ∀ a b, a < net.length → b < net.length → a ≠ b → (nb net a).testBit b = false → (nb (otherN net) a).testBit b = true := fun a b ha hb hne hnb => by
    rw [otherN_bit h ha, decide_eq_true hb, decide_eq_false hne, hnb]; rfl
  have inall : ∀ a, a < net.length → (allOf (otherN net)).testBit a = true := fun a ha => by rw [allOf_testBit, hl]; simpa using ha
  have far : ∀ a z, a < net.length → z < net.length → (comp net a).testBit z = false → a ≠ z ∧ (nb net a).testBit z = false := fun a z ha hz hc => by
    refine ⟨fun e => (by rw [e, h.comp_self hz] at hc; cases hc), not_true fun hb => ?_⟩
    have : (comp net a).testBit z = true := (h.comp_testBit ha z).2 (.step (.here (by rw [allOf_testBit]; simpa using ha)) ha hb (by rw [allOf_testBit]; simpa using hz))
    rw [this] at hc; cases hc
  rw [ho.comp_testBit (by omega)]
  have here : Reach (otherN net) (allOf (otherN net)) x x := .here (inall x hx)
  by_cases he : x = y
  · subst he; exact here
  cases hb : (nb net x).testBit y with
  | false => exact .step here (by omega) (step x y hx hy he hb) (inall y hy)
  | true =>
    obtain ⟨z, hz, hc⟩ := hz
    obtain ⟨n1, f1⟩ := far x z hx hz hc
    have hxy : comp net x = comp net y := h.comp_same hx hy ((h.comp_testBit hx y).2 (.step (.here (by rw [allOf_testBit]; simpa using hx)) hx hb (by rw [allOf_testBit]; simpa using hy)))
    obtain ⟨n2, f2⟩ := far y z hy hz (by rw [← hxy]; exact hc)
    have f2' : (nb net z).testBit y = false := by rw [h.sym y z hy hz]; exact f2
    exact .step (.step here (by omega) (step x z hx hz n1 f1) (inall z hz)) (by omega) (step z y hz hy (fun e => n2 e.symm) f2') (inall y hy)
end Go.Proofs.Ythcidiihfjjpdaa
/- Lists of watches, counts of watches, thinned watches. Conditions: those of each theorem. -/
namespace Go.Proofs.Ythcidiihfjjpdaa
open D Go.RowKit
set_option linter.unusedVariables false
set_option linter.unusedSimpArgs false


theorem small_of {n : Nat} (h : n ≤ 1000000) : small n = true := by unfold small; rw [decide_eq_true_eq]; omega
/-- All numbers below N of a kind. -/
def listOfN (N : Nat) (p : Nat → Bool) : List Int := fold N (fun l s => if p s = true then l ++ [(s : Int)] else l) []
theorem listOfN_len (N : Nat) (p : Nat → Bool) : (listOfN N p).length ≤ N := by
  unfold listOfN
  induction N with
  | zero => exact Nat.le_refl _
  | succ N ih =>
    rw [fold_succ]
    split
    · rw [List.length_append]; simp only [List.length_singleton]; omega
    · omega
/-- How many watches there are of each number of places. -/
def counts (net : List Int) : List Int := fold (2 ^ net.length) (fun l s => if W net s = true then l.set (size s) (D.eli l (size s) + 1) else l) (List.replicate (net.length + 1) 0)
theorem eli_set {l : List Int} {a b : Nat} {v : Int} (ha : a < l.length) : D.eli (l.set a v) b = if a = b then v else D.eli l b := by
  unfold D.eli
  by_cases h : a = b
  · subst h; simp [List.getD, ha]
  · simp [List.getD, List.getElem?_set_ne h, h]
theorem eli_rep (n k : Nat) : D.eli (List.replicate n 0) k = 0 := by
  unfold D.eli
  by_cases h : k < n <;> simp [List.getD, h]
/-- The bounds of the counts on the way. -/
def CInv (net : List Int) (k : Nat) (t : List Int) : Prop := t.length = net.length + 1 ∧ ∀ j, 0 ≤ D.eli t j ∧ D.eli t j ≤ k
theorem CInv.step {net : List Int} (h : Ok net) {k : Nat} {t : List Int} (hk : k < 2 ^ net.length) (ht : CInv net k t) : CInv net (k + 1) (if W net k = true then t.set (size k) (D.eli t (size k) + 1) else t) := by
  have hz := size_le_len h hk
  split
  · refine ⟨by rw [List.length_set]; exact ht.1, fun j => ?_⟩
    rw [eli_set (by rw [ht.1]; omega)]
    have h1 := ht.2 j
    have h2 := ht.2 (size k)
    split <;> omega
  · exact ⟨ht.1, fun j => by have := ht.2 j; omega⟩
theorem CInv.zero (net : List Int) : CInv net 0 (List.replicate (net.length + 1) 0) := ⟨by simp, fun j => by rw [eli_rep]; omega⟩
/-- What is left of a watch. -/
def thinStep (net : List Int) (t p : Nat) : Nat := if (t.testBit p && W net (t - 2 ^ p)) = true then t - 2 ^ p else t
def thin (net : List Int) (s : Nat) : Nat := fold net.length (fun t k => thinStep net t (net.length - 1 - k)) s
theorem thinStep_lt {net : List Int} {t p n : Nat} (ht : t < 2 ^ n) : thinStep net t p < 2 ^ n := by
  unfold thinStep; split
  · exact sub_lt ht
  · exact ht
theorem thinStep_W {net : List Int} {t p : Nat} (hw : W net t = true) : W net (thinStep net t p) = true := by
  unfold thinStep; split
  · rename_i hc; rw [Bool.and_eq_true] at hc; exact hc.2
  · exact hw
theorem I.WatchOk_n {net : List Int} (h : Ok net) (e : I.NetOk_t net = some true) (s : Int) : I.WatchOk_t net s = some (decide (0 ≤ s ∧ s < 2 ^ net.length) && W net s.toNat) := by
  unfold I.WatchOk_t I.WatchOk_tree
  rw [e, I.setIn_n h]
  simp only [optC, cond_true]
  rcases set_cases h s with ⟨t, rfl, ht, hd⟩ | hd
  · rw [hd, cond_true, I.watchIn_n h ht]; rfl
  · rw [hd]; rfl
end Go.Proofs.Ythcidiihfjjpdaa
/- What the exact laws need of rows that are marked. Conditions: those of each theorem. -/
namespace Go.Proofs.Ythcidiihfjjpdaa
open D Go.RowKit
set_option linter.unusedVariables false
set_option linter.unusedSimpArgs false


theorem eli_set2 {l : List Int} {a b : Nat} {v : Int} (ha : a < l.length) : D.eli (l.set a v) b = if a = b then v else D.eli l b := by
  unfold D.eli
  by_cases h : a = b
  · subst h; simp [List.getD, ha]
  · simp [List.getD, List.getElem?_set_ne h, h]
theorem L.markIntS_is {a : List Int} {k0 : Nat} (ha : a.length ≤ 3000000) (hk0 : k0 ≤ 3000000) : ∃ m : List Int, L.markIntS_t a k0 = some (((k0 + a.length : Nat) : Int), m) ∧ m.length = a.length ∧ ∀ j, j < a.length → D.eli m j = ((k0 + j : Nat) : Int) := by
  unfold L.markIntS_t L.markIntS_tree
  have := run_for (run := L.markIntS_run2) (len := a.length) (fun k (t : List Int) => (((k0 + k : Nat) : Int), (k : Int), t)) (fun t k => t.set k ((k0 + k : Nat) : Int)) (fun t => (((k0 + a.length : Nat) : Int), t)) (fun k t => t.length = a.length ∧ ∀ j, j < k → D.eli t j = ((k0 + j : Nat) : Int)) (by omega) (fun n k t hk ht => ?_) (fun n t ht => ?_) (t0 := a) ⟨rfl, fun j hj => by omega⟩
  · refine ⟨_, ?_, this.2.1, this.2.2⟩
    exact congrArg (fun o => optC o (fun q => some (q.1, q.2)) none) this.1
  · refine ⟨?_, by rw [List.length_set]; exact ht.1, fun j hj => ?_⟩
    · simp only [L.markIntS_run2, L.markIntS_step2]
      have := ht.1
      rw [cnd_t (by simp; omega), cnd_t (by simp; omega), cnd_t (by simp; omega), Int.toNat_natCast, add1_nat (by omega), add1_nat (by omega)]
      rfl
    · rw [eli_set2 (by rw [ht.1]; exact hk)]
      by_cases hkj : k = j
      · rw [if_pos hkj, hkj]
      · rw [if_neg hkj]; exact ht.2 j (by omega)
  · simp only [L.markIntS_run2, L.markIntS_step2]
    rw [cnd_f (by simp; omega)]
theorem L.heldIntS_is {m : List Int} (ha : m.length ≤ 3000000) (hm : ∀ j, j < m.length → D.eli m j = ((1 + j : Nat) : Int)) : L.heldIntS_t m 1 = some ((1 + m.length : Nat) : Int) := by
  unfold L.heldIntS_t L.heldIntS_tree
  have := (run_for (run := L.heldIntS_run2 m) (len := m.length) (fun k (t : Unit) => (((1 + k : Nat) : Int), (k : Int))) (fun t k => ()) (fun t => Sum.inr (((1 + m.length : Nat) : Int))) (fun k t => True) (by omega) (fun n k t hk ht => ?_) (fun n t ht => ?_) (t0 := ()) trivial).1
  · exact congrArg (fun o => optC o (fun q => sumC q (fun q => some q.2) (fun q => some q)) none) this
  · refine ⟨?_, trivial⟩
    simp only [L.heldIntS_run2, L.heldIntS_step2]
    rw [cnd_t (by simp; omega), cnd_t (by simp; omega), Int.toNat_natCast, hm k hk, cnd_f (by simp), add1_nat (by omega), add1_nat (by omega)]
    rfl
  · simp only [L.heldIntS_run2, L.heldIntS_step2]
    rw [cnd_f (by simp)]
/-- A row marked and held. -/
theorem L.marked {v : List Int} (hv : v.length ≤ 2000000) : ∃ m : List Int, L.markIntS_t v 1 = some (((1 + v.length : Nat) : Int), m) ∧ L.heldIntS_t m 1 = some ((1 + v.length : Nat) : Int) := by
  obtain ⟨m, h1, h2, h3⟩ := L.markIntS_is (a := v) (k0 := 1) (by omega) (by omega)
  refine ⟨m, h1, ?_⟩
  rw [← h2]
  exact L.heldIntS_is (by omega) (by rw [h2]; exact h3)
theorem neg_nat (a : Nat) : decide ((a : Int) < 0) = false := by rw [decide_eq_false_iff_not]; omega
theorem not_beq_self (a : Nat) : (!((a : Int) == (a : Int))) = false := by simp
end Go.Proofs.Ythcidiihfjjpdaa
/- The exact laws of chapter 2. Conditions: those of each theorem. -/
namespace Go.Proofs.Ythcidiihfjjpdaa
open D Go.RowKit
set_option linter.unusedVariables false
set_option linter.unusedSimpArgs false


theorem I.WatchOk_x {net : List Int} (e : I.NetOk_t net = some false) (s : Int) : I.WatchOk_t net s = some false := by
  unfold I.WatchOk_t I.WatchOk_tree; rw [e]; rfl
theorem I.FewestWatch_x {net : List Int} (e : I.NetOk_t net = some false) : I.FewestWatch_t net = some (-1) := by
  unfold I.FewestWatch_t I.FewestWatch_tree; rw [e]; rfl
theorem S.FewestWatch_x {net : List Int} (e : S.NetOk_t net = some false) : S.FewestWatch_t net = some (-1) := by
  unfold S.FewestWatch_t S.FewestWatch_tree; rw [e]; rfl
theorem FewestWatch_same {a0 : List Int} : ∃ v, S.FewestWatch_t a0 = some v ∧ I.FewestWatch_t a0 = some v := by
  rcases NetOk_cases a0 with ⟨h, e1, e2⟩ | ⟨_, e1, e2⟩
  · exact ⟨_, S.FewestWatch_y h e2, I.FewestWatch_y h e1⟩
  · exact ⟨_, S.FewestWatch_x e2, I.FewestWatch_x e1⟩
theorem fuel_succ : ∃ n, FUEL = n + 1 := ⟨FUEL - 1, by have := FUEL_le; omega⟩
theorem counts_len {net : List Int} (h : Ok net) : (counts net).length = net.length + 1 := by
  have key : ∀ k, k ≤ 2 ^ net.length → CInv net k (fold k (fun l s => if W net s = true then l.set (size s) (D.eli l (size s) + 1) else l) (List.replicate (net.length + 1) 0)) := by
    intro k
    induction k with
    | zero => intro _; exact CInv.zero net
    | succ k ih => intro hk; rw [fold_succ]; exact (ih (by omega)).step h (by omega)
  exact (key _ (Nat.le_refl _)).1
end Go.Proofs.Ythcidiihfjjpdaa
/- The model's functions of chapters 3 to 5 in natural numbers. Conditions: those of each theorem. -/
namespace Go.Proofs.Ythcidiihfjjpdaa
open D Go.RowKit
set_option linter.unusedVariables false
set_option linter.unusedSimpArgs false


theorem nat_eq0 (a : Nat) : ((a : Int) == 0) = (a == 0) := nat_beq a 0
theorem nat_ne0 (a : Nat) : ((a : Int) != 0) = (a != 0) := nat_bne a 0
theorem minus_lt {a b n : Nat} (ha : a < 2 ^ n) : minus a b < 2 ^ n := Nat.lt_of_le_of_lt Nat.and_le_left ha
theorem minus_pow {s k : Nat} (hs : s < 64) (hk : k < 6) (hb : s.testBit k = true) : minus s (2 ^ k) = s - 2 ^ k := by rw [bits_minus s hs k hk, if_pos hb]
/-- The answers that are told for any argument. -/
def privI (net : List Int) (s g : Int) : Int := if (0 ≤ s ∧ s < 2 ^ net.length) ∧ (0 ≤ g ∧ g < net.length) ∧ s.toNat.testBit g.toNat = true then ((priv net s.toNat g.toNat : Nat) : Int) else -1
def twiceI (net : List Int) (s : Int) : Int := if 0 ≤ s ∧ s < 2 ^ net.length then ((twice net s.toNat : Nat) : Int) else -1
def grownI (net : List Int) (s : Int) : Int := if (0 ≤ s ∧ s < 2 ^ net.length) ∧ apart net s.toNat = true then ((grown net s.toNat : Nat) : Int) else -1
theorem dec_true {p : Prop} [Decidable p] (h : decide p = true) : p := of_decide_eq_true h
theorem dec_false {p : Prop} [Decidable p] (h : decide p = false) : ¬ p := of_decide_eq_false h
/-- All places below n pass a test, by a search for one that doesn't. -/
theorem find_test {n : Nat} {p : Nat → Bool} : find n (fun k => if p k = true then some false else none) = if ((List.range n).all fun k => !p k) = true then none else some false := by
  cases hall : (List.range n).all fun k => !p k with
  | true =>
    rw [if_pos rfl, find_none]
    intro j hj
    rw [List.all_eq_true] at hall
    have := hall j (List.mem_range.2 hj)
    rw [Bool.not_eq_true'] at this
    rw [this]; rfl
  | false =>
    rw [if_neg (by simp)]
    rw [List.all_eq_false] at hall
    obtain ⟨k, hk, hb⟩ := hall
    rw [Bool.not_eq_true', Bool.not_eq_false] at hb
    cases hf : find n (fun k => if p k = true then some false else none) with
    | none =>
      have := find_none.1 hf k (List.mem_range.1 hk)
      rw [hb] at this; cases this
    | some b =>
      obtain ⟨j, hj, he⟩ := find_some_ex hf
      split at he
      · cases he; rfl
      · cases he

theorem and_all_mono {s k n : Nat} (hk : k < n) (hs : s < 2 ^ n) : s ||| 2 ^ k < 2 ^ n := or_lt hs hk
theorem grownStep_lt {net : List Int} {t k n : Nat} (ht : t < 2 ^ n) (hk : k < n) : grownStep net t k < 2 ^ n := by
  unfold grownStep; split
  · exact or_lt ht hk
  · exact ht
def chain (net : List Int) : List Int := [((minSize net (fullN net) : Nat) : Int), ((fewest net : Nat) : Int), ((minSize net (fullA net) : Nat) : Int), ((maxSize net (apart net) : Nat) : Int), ((maxSize net (least net) : Nat) : Int), ((maxSize net (needs net) : Nat) : Int)]
end Go.Proofs.Ythcidiihfjjpdaa
/- What drawn nets are. Conditions: those of each theorem. -/
namespace Go.Proofs.Ythcidiihfjjpdaa
open D Go.RowKit
set_option linter.unusedVariables false
set_option linter.unusedSimpArgs false


/-- A code of bytes. -/
def Bytes (rb : List Int) : Prop := ∀ n ∈ rb, 0 ≤ n ∧ n ≤ 255
theorem Bytes.eli {rb : List Int} (h : Bytes rb) (k : Nat) : 0 ≤ D.eli rb k ∧ D.eli rb k ≤ 255 := by
  by_cases hk : k < rb.length
  · have : D.eli rb k = rb[k] := by simp [D.eli, List.getD, hk]
    rw [this]; exact h _ (List.getElem_mem hk)
  · have : D.eli rb k = 0 := by simp [D.eli, List.getD, List.getElem?_eq_none (by omega : rb.length ≤ k)]
    rw [this]; decide
theorem Bytes.wf {rb : List Int} (h : ∀ n ∈ rb, (Lit.int .u8 n).wf = true) : Bytes rb := fun n hn => by
  have := h n hn
  have e1 : IntKind.u8.min = 0 := by kernel_rfl
  have e2 : IntKind.u8.max = 255 := by kernel_rfl
  simpa [Lit.wf, e1, e2] using this

theorem xor_pos {a b : Int} (ha : 0 ≤ a ∧ a < 9223372036854775808) (hb : 0 ≤ b ∧ b < 9223372036854775808) : 0 ≤ bits .xor .i64 a b := by
  obtain ⟨x, rfl⟩ := Int.eq_ofNat_of_zero_le ha.1
  obtain ⟨y, rfl⟩ := Int.eq_ofNat_of_zero_le hb.1
  rw [i64_xor_nat x y (by omega) (by omega)]
  omega

theorem S.l20Rd_pick_is {rb : List Int} {rp n : Int} (hb : Bytes rb) (hl : rb.length ≤ 2000) (h0 : 0 ≤ rp) (h1 : rp ≤ 1099511627776) :
    ∃ v, S.l20Rd_pick_t rb rp n = some (v, rb, rp + 1) ∧ 0 ≤ v ∧ (1 ≤ n → v < n) := by
  unfold S.l20Rd_pick_t S.l20Rd_pick_tree
  have e1 : IntKind.i64.wrap (rp + 1) = rp + 1 := i64_wrap (by omega) (by omega)
  have e2 : IntKind.i64.wrap (rp + 1 - 1) = rp := by rw [i64_wrap (by omega) (by omega)]; omega
  rw [e1, e2]
  by_cases hn : n < 1
  · rw [cnd_t (by simpa using hn)]; exact ⟨_, rfl, Int.le_refl _, fun h => by omega⟩
  rw [cnd_f (by simpa using hn)]
  by_cases hz : rb.length = 0
  · rw [cnd_t (by simp [hz])]; exact ⟨_, rfl, Int.le_refl _, fun h => by omega⟩
  have hnz : (n == 0) = false := by simp; omega
  have hlz : ((rb.length : Int) == 0) = false := by simp; exact fun h => hz (by simp [h])
  rw [cnd_f hlz]
  have fin : ∀ x : Int, 0 ≤ x → 0 ≤ x.tmod n ∧ (1 ≤ n → x.tmod n < n) := fun x hx => ⟨Int.tmod_nonneg _ hx, fun h => Int.tmod_lt_of_pos _ (by omega)⟩
  by_cases hx : rp < rb.length
  · rw [cnd_t (by simpa using hx), cnd_t (by simp; omega), cnd_f hnz]
    have hv := hb.eli rp.toNat
    rw [i64_wrap (n := D.eli rb rp.toNat) (by omega) (by omega)]
    exact ⟨_, rfl, fin _ hv.1⟩
  · rw [cnd_f (by simpa using hx), cnd_f hlz]
    have hL : 0 < (rb.length : Int) := by omega
    have m1 : 0 ≤ rp.tmod rb.length := Int.tmod_nonneg _ h0
    have m2 : rp.tmod rb.length < rb.length := Int.tmod_lt_of_pos _ hL
    rw [cnd_t (by simp; omega), cnd_f hlz]
    have e3 : IntKind.i64.wrap (IntKind.i64.wrap (rp * 7) + 3) = rp * 7 + 3 := by rw [i64_wrap (n := rp * 7) (by omega) (by omega)]; exact i64_wrap (by omega) (by omega)
    rw [e3]
    have m3 : 0 ≤ (rp * 7 + 3).tmod rb.length := Int.tmod_nonneg _ (by omega)
    have m4 : (rp * 7 + 3).tmod rb.length < rb.length := Int.tmod_lt_of_pos _ hL
    rw [cnd_t (by simp; omega), cnd_f hlz, cnd_f hnz]
    have d1 : 0 ≤ rp.tdiv rb.length := Int.tdiv_nonneg h0 (by omega)
    have d2 : rp.tdiv rb.length ≤ rp := Int.tdiv_le_self _ h0
    have v1 := hb.eli (rp.tmod rb.length).toNat
    have v2 := hb.eli ((rp * 7 + 3).tmod rb.length).toNat
    generalize rp.tdiv rb.length = d at d1 d2
    generalize D.eli rb (rp.tmod rb.length).toNat = b1 at v1
    generalize D.eli rb ((rp * 7 + 3).tmod rb.length).toNat = b2 at v2
    have key : ∀ x : Int, 0 ≤ x → x < 9223372036854775808 → 0 ≤ bits .xor .i64 x (IntKind.i64.wrap (x.tdiv 64)) := fun x hx0 hx1 => by
      have a1 : 0 ≤ x.tdiv 64 := Int.tdiv_nonneg hx0 (by decide)
      have a2 : x.tdiv 64 ≤ x := Int.tdiv_le_self _ hx0
      rw [i64_wrap (by omega) (by omega)]
      exact xor_pos ⟨hx0, hx1⟩ ⟨a1, by omega⟩
    refine ⟨_, rfl, fin _ (key _ ?_ ?_)⟩ <;> simp (disch := omega) only [i64_wrap] <;> omega
theorem cnd_case {α : Type} {P : α → Prop} {b : Bool} {x y : α} (h1 : b = true → P x) (h2 : b = false → P y) : P (bif b then x else y) := by
  cases b with
  | true => exact h1 rfl
  | false => exact h2 rfl
theorem S.l20Net_p8 {α : Type} (P : α → Prop) {x1 x5 x7 x8 x9 rp : Int} {rb r : List Int} {next : Int × (List Int) × Int × (List Int) → α} {out : (List Int) × Int × (List Int) → α} {fail : α}
    (hb : Bytes rb) (hl : rb.length ≤ 2000) (h0 : 0 ≤ rp) (h1 : rp ≤ 1099511627000) (h9 : 0 ≤ x9) (h8 : x8 < r.length) (hr : r.length ≤ 1048576)
    (hleaf : x9 < x8 → ∀ rp' r', rp < rp' → rp' ≤ rp + 2 → r'.length = r.length → P (next (x9 + 1, rb, rp', r')))
    (hout : ¬ x9 < x8 → P (out (rb, rp, r))) : P (S.l20Net_step8 x1 x5 x7 x8 x9 rb rp r next out fail) := by
  unfold S.l20Net_step8
  refine cnd_case (P := P) (fun h => ?_) (fun h => hout (by simpa using h))
  have hlt : x9 < x8 := by simpa using h
  obtain ⟨v, hv, _, _⟩ := S.l20Rd_pick_is (n := 3) hb hl h0 (by omega)
  obtain ⟨v', hv', _, _⟩ := S.l20Rd_pick_is (n := 3) (rp := rp + 1) hb hl (by omega) (by omega)
  rw [hv]
  simp only [optC]
  rw [hv']
  simp only [optC]
  rw [i64_wrap (n := x9 + 1) (by omega) (by omega)]
  repeat' first
    | exact hleaf hlt _ _ (by omega) (by omega) (by simp)
    | rw [cnd_t (by simp; omega)]
    | rw [cnd_f (by simp; omega)]
    | refine cnd_case (P := P) (fun _ => ?_) (fun _ => ?_)
theorem S.l20Net_q8 {x1 x5 x7 x8 rp : Int} {rb r : List Int} (hb : Bytes rb) (hl : rb.length ≤ 2000) (h0 : 0 ≤ rp) (h1 : rp ≤ 1099511620000) (hx : 0 ≤ x8) (h8 : x8 < r.length) (h6 : x8 ≤ 100) (hr : r.length ≤ 1048576) :
    ∃ d, S.l20Net_run8 x1 x5 x7 x8 FUEL (0, rb, rp, r) = some d ∧ d.1 = rb ∧ rp ≤ d.2.1 ∧ d.2.1 ≤ rp + 2 * x8 ∧ d.2.2.length = r.length := by
  refine run_post (run := S.l20Net_run8 x1 x5 x7 x8) (fun s => s.2.1 = rb ∧ 0 ≤ s.1 ∧ s.1 ≤ x8 ∧ rp ≤ s.2.2.1 ∧ s.2.2.1 ≤ rp + 2 * s.1 ∧ s.2.2.2.length = r.length) (fun s => (x8 - s.1).toNat) (fun d => d.1 = rb ∧ rp ≤ d.2.1 ∧ d.2.1 ≤ rp + 2 * x8 ∧ d.2.2.length = r.length) ?_ ?_ ?_
  · rintro n ⟨x9, rb', rp', r'⟩ ⟨i0, i1, i2, i3, i4, i5⟩
    simp only at i0 i1 i2 i3 i4 i5
    subst i0
    refine S.l20Net_p8 (x1 := x1) (x5 := x5) (x7 := x7) (x8 := x8) (x9 := x9) (rp := rp') (rb := rb') (r := r') (next := S.l20Net_run8 x1 x5 x7 x8 n) (out := fun d => some d) (fail := none) (fun t => (∃ d, t = some d ∧ (d.1 = rb' ∧ rp ≤ d.2.1 ∧ d.2.1 ≤ rp + 2 * x8 ∧ d.2.2.length = r.length)) ∨ ∃ s', t = S.l20Net_run8 x1 x5 x7 x8 n s' ∧ (s'.2.1 = rb' ∧ 0 ≤ s'.1 ∧ s'.1 ≤ x8 ∧ rp ≤ s'.2.2.1 ∧ s'.2.2.1 ≤ rp + 2 * s'.1 ∧ s'.2.2.2.length = r.length) ∧ (x8 - s'.1).toNat < (x8 - x9).toNat) hb hl (by omega) (by omega) i1 (by omega) (by omega) (fun hlt rp2 r2 a1 a2 a3 => .inr ⟨_, rfl, ⟨rfl, ?_, ?_, ?_, ?_, ?_⟩, ?_⟩) (fun hge => .inl ⟨_, rfl, rfl, ?_, ?_, ?_⟩) <;> simp only <;> omega
  · exact ⟨rfl, by simp only; omega, by simp only; omega, by simp only; omega, by simp only; omega, rfl⟩
  · simp only; omega
theorem S.l20Net_q5 {x1 x5 x7 rp : Int} {rb r : List Int} (hb : Bytes rb) (hl : rb.length ≤ 2000) (h0 : 0 ≤ rp) (h1 : rp ≤ 1099511600000) (hx : 0 ≤ x5) (h5 : x5 = r.length) (h6 : x5 ≤ 6) :
    ∃ d, S.l20Net_run5 x1 x5 x7 FUEL (0, rb, rp, r) = some d ∧ d.1 = rb ∧ rp ≤ d.2.1 ∧ d.2.1 ≤ rp + 100 ∧ d.2.2.length = r.length := by
  refine run_post (run := S.l20Net_run5 x1 x5 x7) (fun s => s.2.1 = rb ∧ 0 ≤ s.1 ∧ s.1 ≤ x5 ∧ rp ≤ s.2.2.1 ∧ s.2.2.1 ≤ rp + 12 * s.1 ∧ s.2.2.2.length = r.length) (fun s => (x5 - s.1).toNat) (fun d => d.1 = rb ∧ rp ≤ d.2.1 ∧ d.2.1 ≤ rp + 100 ∧ d.2.2.length = r.length) ?_ ?_ ?_
  · rintro n ⟨x8, rb', rp', r'⟩ ⟨i0, i1, i2, i3, i4, i5⟩
    simp only at i0 i1 i2 i3 i4 i5
    subst i0
    simp only [S.l20Net_run5, S.l20Net_step5]
    by_cases hlt : x8 < x5
    · rw [cnd_t (by simpa using hlt)]
      obtain ⟨⟨d1, d2, d3⟩, e1, e2, e3, e4, e5⟩ := S.l20Net_q8 (x1 := x1) (x5 := x5) (x7 := x7) (x8 := x8) (r := r') hb hl (by omega : 0 ≤ rp') (by omega) i1 (by omega) (by omega) (by omega)
      simp only at e2 e3 e4 e5
      rw [e1]
      simp only [optC]
      rw [i64_wrap (n := x8 + 1) (by omega) (by omega)]
      refine .inr ⟨_, rfl, ⟨e2, ?_, ?_, ?_, ?_, ?_⟩, ?_⟩ <;> simp only <;> omega
    · rw [cnd_f (by simpa using hlt)]
      refine .inl ⟨_, rfl, rfl, ?_, ?_, ?_⟩ <;> simp only <;> omega
  · exact ⟨rfl, by simp only; omega, by simp only; omega, by simp only; omega, by simp only; omega, rfl⟩
  · simp only; omega
theorem S.l20Rd_odd_is {rb : List Int} {rp n : Int} (hb : Bytes rb) (hl : rb.length ≤ 2000) (h0 : 0 ≤ rp) (h1 : rp ≤ 1099511627776) :
    ∃ b rp', S.l20Rd_odd_t rb rp n = some (b, rb, rp') ∧ rp ≤ rp' ∧ rp' ≤ rp + 1 := by
  unfold S.l20Rd_odd_t S.l20Rd_odd_tree
  by_cases hn : n > 0
  · rw [cnd_t (by simpa using hn)]
    obtain ⟨v, hv, _, _⟩ := S.l20Rd_pick_is (n := n) hb hl h0 h1
    rw [hv]
    exact ⟨_, rp + 1, rfl, by omega, by omega⟩
  · rw [cnd_f (by simpa using hn)]
    exact ⟨_, rp, rfl, by omega, by omega⟩
theorem S.l20Net_is {rb : List Int} {rp n : Int} (hb : Bytes rb) (hl : rb.length ≤ 2000) (h0 : 0 ≤ rp) (h1 : rp ≤ 1000000) :
    ∃ rp' net, S.l20Net_t rb rp n = some (rb, rp', net) ∧ rp ≤ rp' ∧ rp' ≤ rp + 200 ∧ net.length ≤ 6 := by
  unfold S.l20Net_t
  have gen : ∀ {α : Type} (P : α → Prop) (leaf : (List Int) × Int × (List Int) → α) (fail : α), (∀ rp' net, rp ≤ rp' → rp' ≤ rp + 200 → net.length ≤ 6 → P (leaf (rb, rp', net))) → P (S.l20Net_tree rb rp n leaf fail) := by
    intro α P leaf fail hleaf
    unfold S.l20Net_tree
    obtain ⟨v1, e1, a1, a2⟩ := S.l20Rd_pick_is (n := 6) hb hl h0 (by omega)
    have a2' := a2 (by decide)
    rw [e1]
    simp only [optC]
    rw [i64_wrap (n := 1 + v1) (by omega) (by omega)]
    rw [cnd_t (by simp [small]; omega)]
    obtain ⟨v2, e2, _, _⟩ := S.l20Rd_pick_is (n := 4) (rp := rp + 1) hb hl (by omega) (by omega)
    rw [e2]
    simp only
    obtain ⟨⟨d1, d2, d3⟩, e3, f1, f2, f3, f4⟩ := S.l20Net_q5 (x1 := n) (x5 := 1 + v1) (x7 := v2) (rp := rp + 1 + 1) (r := List.replicate (1 + v1).toNat 0) hb hl (by omega) (by omega) (by omega) (by simp; omega) (by omega)
    simp only at f1 f2 f3 f4
    subst f1
    rw [e3]
    simp only [List.length_replicate] at f4 ⊢
    obtain ⟨b, rp4, e4, g1, g2⟩ := S.l20Rd_odd_is (n := n) (rp := d2) hb hl (by omega) (by omega)
    rw [e4]
    simp only
    obtain ⟨v5, e5, _, _⟩ := S.l20Rd_pick_is (n := 3) (rp := rp4) hb hl (by omega) (by omega)
    rw [e5]
    simp only
    have e6 : IntKind.i64.wrap (1 + v1 - 1) = v1 := by rw [i64_wrap (by omega) (by omega)]; omega
    rw [e6]
    repeat' first
      | exact hleaf _ _ (by omega) (by omega) (by (try simp only [List.length_set, List.length_nil]); omega)
      | rw [cnd_t (by simp; omega)]
      | rw [cnd_f (by simp; omega)]
      | refine cnd_case (P := P) (fun _ => ?_) (fun _ => ?_)
  exact gen (fun t => ∃ rp' net, t = some (rb, rp', net) ∧ rp ≤ rp' ∧ rp' ≤ rp + 200 ∧ net.length ≤ 6) (fun d => some d) none (fun rp' net a b c => ⟨rp', net, rfl, a, b, c⟩)
theorem S.l20Open_is {code : List Int} (hb : Bytes code) : ∃ rb, S.l20Open_t code = some (rb, 0) ∧ Bytes rb ∧ rb.length ≤ 2000 := by
  unfold S.l20Open_t S.l20Open_tree
  by_cases h : (code.length : Int) > 2000
  · rw [cnd_t (by simpa using h), cnd_t (by simp; omega)]
    refine ⟨_, rfl, fun n hn => hb n ?_, ?_⟩
    · exact List.mem_of_mem_drop (List.mem_of_mem_take hn)
    · rw [List.length_take]; exact Nat.min_le_left _ _
  · rw [cnd_f (by simpa using h)]
    exact ⟨_, rfl, hb, by omega⟩
end Go.Proofs.Ythcidiihfjjpdaa
/- What the draws give: nets of at most six places, sets and places within bounds. Conditions: those of each theorem. -/
namespace Go.Proofs.Ythcidiihfjjpdaa
open D Go.RowKit
set_option linter.unusedVariables false
set_option linter.unusedSimpArgs false


theorem I.NetOk_12 : I.NetOk_t [2, 1] = some true := by rw [I.NetOk_is]; decide +kernel
theorem I.NetOk_1 : I.NetOk_t [1] = some false := by rw [I.NetOk_is]; decide +kernel
theorem L.alive_is : L.alive_t = some true := by
  unfold L.alive_t L.alive_tree
  rw [I.NetOk_12, I.NetOk_1]
  rfl
theorem tdiv_small {v a : Int} (h0 : 0 ≤ v) (h1 : v ≤ a) : v.tdiv a = 0 ∨ v.tdiv a = 1 := by
  have ha : 0 ≤ a := by omega
  rw [Int.tdiv_eq_ediv_of_nonneg h0]
  rcases Int.lt_or_eq_of_le h1 with h | h
  · exact .inl (Int.ediv_eq_zero_of_lt h0 h)
  · subst h
    by_cases hz : v = 0
    · subst hz; exact .inl rfl
    · exact .inr (Int.ediv_self hz)
theorem pow_le_64i {n : Nat} (h : n ≤ 6) : ((2 ^ n : Nat) : Int) ≤ 64 := by have := pow_le_64 h; omega
theorem len_shl {net : List Int} (h : net.length ≤ 6) : IntKind.i64.wrap (1 * 2 ^ min (↑net.length : Int).toNat IntKind.i64.bits) = ((2 ^ net.length : Nat) : Int) := one_shl (by omega)
/-! ### The draws of the laws -/
end Go.Proofs.Ythcidiihfjjpdaa
/- Draws that use watches; lists of all numbers of a kind. Conditions: those of each theorem. -/
namespace Go.Proofs.Ythcidiihfjjpdaa
open D Go.RowKit
set_option linter.unusedVariables false
set_option linter.unusedSimpArgs false


theorem listOfN_succ (N : Nat) (p : Nat → Bool) : listOfN (N + 1) p = if p N = true then listOfN N p ++ [(N : Int)] else listOfN N p := by unfold listOfN; rw [fold_succ]
theorem listOfN_mem (N : Nat) (p : Nat → Bool) (x : Int) : x ∈ listOfN N p ↔ ∃ s : Nat, s < N ∧ p s = true ∧ x = s := by
  induction N with
  | zero => simp [listOfN, fold_zero]
  | succ N ih =>
    rw [listOfN_succ]
    split
    · rename_i hp
      rw [List.mem_append, ih, List.mem_singleton]
      constructor
      · rintro (⟨s, a, b, c⟩ | rfl)
        · exact ⟨s, by omega, b, c⟩
        · exact ⟨N, by omega, hp, rfl⟩
      · rintro ⟨s, a, b, c⟩
        by_cases hs : s = N
        · subst hs; exact .inr c
        · exact .inl ⟨s, by omega, b, c⟩
    · rename_i hp
      rw [ih]
      constructor
      · rintro ⟨s, a, b, c⟩; exact ⟨s, by omega, b, c⟩
      · rintro ⟨s, a, b, c⟩
        by_cases hs : s = N
        · subst hs; exact absurd b hp
        · exact ⟨s, by omega, b, c⟩
theorem eli_mem {l : List Int} {k : Nat} (hk : k < l.length) : D.eli l k ∈ l := by
  unfold D.eli
  simp [List.getD, hk]
theorem mem_eli {l : List Int} {x : Int} (h : x ∈ l) : ∃ k, k < l.length ∧ D.eli l k = x := by
  obtain ⟨k, hk, he⟩ := List.getElem_of_mem h
  exact ⟨k, hk, by unfold D.eli; simp [List.getD, hk, he]⟩
theorem listOfN_eli {N : Nat} {p : Nat → Bool} {k : Nat} (hk : k < (listOfN N p).length) : ∃ s : Nat, s < N ∧ p s = true ∧ D.eli (listOfN N p) k = s := (listOfN_mem N p _).1 (eli_mem hk)
theorem eli_append {l r : List Int} {k : Nat} : D.eli (l ++ r) k = if k < l.length then D.eli l k else D.eli r (k - l.length) := by
  unfold D.eli
  by_cases h : k < l.length
  · simp [List.getD, List.getElem?_append_left h, h]
  · simp [List.getD, List.getElem?_append_right (by omega : l.length ≤ k), h]
theorem listOfN_asc {N : Nat} {p : Nat → Bool} {j k : Nat} (hjk : j < k) (hk : k < (listOfN N p).length) : D.eli (listOfN N p) j < D.eli (listOfN N p) k := by
  induction N with
  | zero => simp [listOfN, fold_zero] at hk
  | succ N ih =>
    rw [listOfN_succ] at hk ⊢
    split at hk
    · rename_i hp
      rw [if_pos hp, eli_append, eli_append]
      rw [List.length_append, List.length_singleton] at hk
      by_cases hkl : k < (listOfN N p).length
      · rw [if_pos hkl, if_pos (by omega)]; exact ih hkl
      · rw [if_neg hkl, if_pos (by omega)]
        obtain ⟨s, hs, _, he⟩ := listOfN_eli (N := N) (p := p) (k := j) (by omega)
        rw [he, show k - (listOfN N p).length = 0 by omega]
        show (s : Int) < (N : Int)
        omega
    · rename_i hp
      rw [if_neg hp]; exact ih hk
theorem leasts_pos {net : List Int} (h : Ok net) : 0 < (listOfN (2 ^ net.length) (least net)).length := by
  obtain ⟨t, ht, _, hl, _⟩ := least_in h 6 (allOf net) (size_le _) (allOf_lt net) (W_all h)
  exact List.length_pos_of_mem ((listOfN_mem _ _ (t : Int)).2 ⟨t, ht, hl, rfl⟩)
end Go.Proofs.Ythcidiihfjjpdaa
/- The model's functions of chapter 7 in natural numbers. Conditions: those of each theorem. -/
namespace Go.Proofs.Ythcidiihfjjpdaa
open D Go.RowKit
set_option linter.unusedVariables false
set_option linter.unusedSimpArgs false


/-- The number at a place of a row. -/
def rv (row : List Int) (k : Nat) : Nat := (D.eli row k).toNat
def rowB (n : Nat) (row : List Int) : Bool := decide (row.length = n) && (List.range row.length).all fun k => decide (0 ≤ D.eli row k ∧ D.eli row k ≤ 2)
structure RowIs (n : Nat) (row : List Int) : Prop where
  len : row.length = n
  eq : ∀ k, k < n → D.eli row k = (rv row k : Int)
  le : ∀ k, k < n → rv row k ≤ 2
theorem rowB_iff {n : Nat} {row : List Int} : rowB n row = true ↔ RowIs n row := by
  unfold rowB
  rw [Bool.and_eq_true, decide_eq_true_eq, List.all_eq_true]
  simp only [List.mem_range, decide_eq_true_eq]
  constructor
  · rintro ⟨a, b⟩
    refine ⟨a, fun k hk => ?_, fun k hk => ?_⟩
    · have := b k (by omega); show _ = ((D.eli row k).toNat : Int); omega
    · have := b k (by omega); show (D.eli row k).toNat ≤ 2; omega
  · intro h
    refine ⟨h.len, fun k hk => ?_⟩
    have h1 := h.eq k (by rw [← h.len]; exact hk)
    have h2 := h.le k (by rw [← h.len]; exact hk)
    omega
theorem help_le {net : List Int} {r : Nat → Nat} (hb : ∀ k, k < net.length → r k ≤ 2) (k m : Nat) (hm : m ≤ net.length) : sumN m (fun j => ((nb net k).testBit j).toNat * r j) ≤ 2 * m := by
  have := sumN_le (n := m) (f := fun j => ((nb net k).testBit j).toNat * r j) (g := fun _ => 2) (fun j hj => by
    have := hb j (by omega)
    cases (nb net k).testBit j <;> simp <;> omega)
  rw [sumN_const] at this; omega
def romanB (net row : List Int) : Bool := (List.range net.length).all fun k => !(rv row k == 0 && (nb net k &&& withN net.length (rv row) 2) == 0)
def italianB (net row : List Int) : Bool := (List.range net.length).all fun k => !(rv row k == 0 && decide (help net (rv row) k < 2))
theorem romanB_iff {net row : List Int} : romanB net row = true ↔ RomanP net (rv row) := by
  unfold romanB
  rw [List.all_eq_true]
  simp only [List.mem_range, Bool.not_eq_true', Bool.and_eq_false_imp, beq_iff_eq]
  constructor
  · intro ha k hk h0
    have h1 := ha k hk h0
    have hne : (nb net k &&& withN net.length (rv row) 2) ≠ 0 := fun he => by rw [he] at h1; cases h1
    obtain ⟨j, hj⟩ := pos_iff.1 hne
    rw [Nat.testBit_and, Bool.and_eq_true, withN_testBit] at hj
    exact ⟨j, hj.2.1, hj.1, hj.2.2⟩
  · intro ha k hk h0
    obtain ⟨j, hj, a, b⟩ := ha k hk h0
    have : (nb net k &&& withN net.length (rv row) 2) ≠ 0 := pos_iff.2 ⟨j, by rw [Nat.testBit_and, a, (withN_testBit _ _ _ _).2 ⟨hj, b⟩]; rfl⟩
    simpa using this
theorem italianB_iff {net row : List Int} : italianB net row = true ↔ ItalianP net (rv row) := by
  unfold italianB
  rw [List.all_eq_true]
  simp only [List.mem_range, Bool.not_eq_true', Bool.and_eq_false_imp, beq_iff_eq, decide_eq_false_iff_not]
  constructor
  · intro ha k hk h0; have := ha k hk h0; omega
  · intro ha k hk h0; have := ha k hk h0; omega
/-- The row of the digits of a number. -/
def digs (n m : Nat) : List Int := (List.range n).map fun k => ((dig n m k : Nat) : Int)
theorem digs_len (n m : Nat) : (digs n m).length = n := by simp [digs]
theorem digs_eli {n m k : Nat} (hk : k < n) : D.eli (digs n m) k = ((dig n m k : Nat) : Int) := by unfold D.eli digs; simp [List.getD, hk]
theorem digs_row (n m : Nat) : RowIs n (digs n m) := by
  refine ⟨digs_len n m, fun k hk => ?_, fun k hk => ?_⟩
  · show _ = ((D.eli (digs n m) k).toNat : Int); rw [digs_eli hk]; omega
  · show (D.eli (digs n m) k).toNat ≤ 2; rw [digs_eli hk]; have := dig_lt n m k; omega
theorem digs_rv {n m k : Nat} (hk : k < n) : rv (digs n m) k = dig n m k := by show (D.eli (digs n m) k).toNat = _; rw [digs_eli hk]; omega
theorem pow3_le {n : Nat} (hn : n ≤ 6) : 3 ^ n ≤ 729 := by
  have : (3 : Nat) ^ n ≤ 3 ^ 6 := Nat.pow_le_pow_right (by omega) hn
  omega
/-- The first least row of a kind, and the least sum. -/
def rowStep (n : Nat) (p : List Int → Bool) (best : List Int) (m : Nat) : List Int := if p (digs n m) = true ∧ (best.length = 0 ∨ sumN n (rv (digs n m)) < sumN n (rv best)) then digs n m else best
def bestRow (n : Nat) (p : List Int → Bool) : List Int := fold (3 ^ n) (rowStep n p) []
theorem bestRow_fold {n : Nat} (h1 : 1 ≤ n) (p : List Int → Bool) (N : Nat) : (fold N (rowStep n p) [] = [] ∧ ∀ m, m < N → p (digs n m) = false) ∨
    ∃ b, b < N ∧ fold N (rowStep n p) [] = digs n b ∧ p (digs n b) = true ∧ (∀ m, m < N → p (digs n m) = true → sumN n (rv (digs n b)) ≤ sumN n (rv (digs n m))) ∧ ∀ m, m < b → p (digs n m) = true → sumN n (rv (digs n b)) < sumN n (rv (digs n m)) := by
  induction N with
  | zero => exact .inl ⟨rfl, fun m hm => by omega⟩
  | succ N ih =>
    rw [fold_succ]
    generalize fold N (rowStep n p) [] = g at ih ⊢
    unfold rowStep
    cases hp : p (digs n N) with
    | false =>
      rw [if_neg (fun hc => by cases hc.1)]
      rcases ih with ⟨a, b⟩ | ⟨b, b1, b2, b3, b4, b5⟩
      · exact .inl ⟨a, fun m hm => by
          by_cases he : m = N
          · rw [he]; exact hp
          · exact b m (by omega)⟩
      · exact .inr ⟨b, by omega, b2, b3, fun m hm hpm => by
          by_cases he : m = N
          · rw [he, hp] at hpm; cases hpm
          · exact b4 m (by omega) hpm, b5⟩
    | true =>
      right
      rcases ih with ⟨a, b⟩ | ⟨b, b1, b2, b3, b4, b5⟩
      · rw [a, if_pos ⟨rfl, .inl rfl⟩]
        refine ⟨N, by omega, rfl, hp, fun m hm hpm => ?_, fun m hm hpm => ?_⟩
        · by_cases he : m = N
          · rw [he]; exact Nat.le_refl _
          · rw [b m (by omega)] at hpm; cases hpm
        · rw [b m hm] at hpm; cases hpm
      · by_cases hlt : sumN n (rv (digs n N)) < sumN n (rv (digs n b))
        · rw [b2, if_pos ⟨rfl, .inr hlt⟩]
          refine ⟨N, by omega, rfl, hp, fun m hm hpm => ?_, fun m hm hpm => ?_⟩
          · by_cases he : m = N
            · rw [he]; exact Nat.le_refl _
            · have := b4 m (by omega) hpm; omega
          · have := b4 m hm hpm; omega
        · rw [b2, if_neg (fun hc => by
            rcases hc.2 with hx | hx
            · rw [digs_len] at hx; omega
            · exact hlt hx)]
          refine ⟨b, by omega, rfl, b3, fun m hm hpm => ?_, b5⟩
          by_cases he : m = N
          · rw [he]; omega
          · exact b4 m (by omega) hpm
theorem ones_digs {n : Nat} : ∃ m, m < 3 ^ n ∧ ∀ k, k < n → dig n m k = 1 := dig_all (r := fun _ => 1) (fun k _ => by omega)
theorem roman_congr {net : List Int} {r q : Nat → Nat} (h : ∀ k, k < net.length → r k = q k) (hr : RomanP net r) : RomanP net q := fun k hk h0 => by
  obtain ⟨j, hj, a, b⟩ := hr k hk (by rw [h k hk]; exact h0)
  exact ⟨j, hj, a, by rw [← h j hj]; exact b⟩
/-- The least Roman row. -/
structure FirstRoman (net : List Int) (b : Nat) : Prop where
  lt : b < 3 ^ net.length
  roman : RomanP net (dig net.length b)
  le : ∀ m, m < 3 ^ net.length → RomanP net (dig net.length m) → sumN net.length (dig net.length b) ≤ sumN net.length (dig net.length m)
  first : ∀ m, m < b → RomanP net (dig net.length m) → sumN net.length (dig net.length b) < sumN net.length (dig net.length m)
theorem FirstRoman.uniq {net : List Int} {a b : Nat} (ha : FirstRoman net a) (hb : FirstRoman net b) : a = b := by
  have h1 := ha.le b hb.lt hb.roman
  have h2 := hb.le a ha.lt ha.roman
  rcases Nat.lt_trichotomy a b with hl | hl | hl
  · have := hb.first a hl ha.roman; omega
  · exact hl
  · have := ha.first b hl hb.roman; omega
theorem FirstRoman.min {net : List Int} {b : Nat} (hb : FirstRoman net b) : MinRow net.length (RomanP net) (sumN net.length (dig net.length b)) := by
  refine ⟨⟨dig net.length b, fun k _ => dig_lt _ _ _, hb.roman, rfl⟩, fun r hr hR => ?_⟩
  obtain ⟨m, hm, hd⟩ := dig_all hr
  have h1 := hb.le m hm (roman_congr (fun k hk => (hd k hk).symm) hR)
  rw [sumN_congr (f := dig net.length m) hd] at h1
  exact h1
theorem bestRow_roman {net : List Int} (h : Ok net) : ∃ b, bestRow net.length (romanB net) = digs net.length b ∧ FirstRoman net b := by
  have e : ∀ m, romanB net (digs net.length m) = true ↔ RomanP net (dig net.length m) := fun m => by
    rw [romanB_iff]
    exact ⟨roman_congr fun k hk => digs_rv hk, roman_congr fun k hk => (digs_rv hk).symm⟩
  have es : ∀ m, sumN net.length (rv (digs net.length m)) = sumN net.length (dig net.length m) := fun m => sumN_congr fun k hk => digs_rv hk
  rcases bestRow_fold h.lo (romanB net) (3 ^ net.length) with ⟨_, hno⟩ | ⟨b, b1, b2, b3, b4, b5⟩
  · obtain ⟨m, hm, hd⟩ := ones_digs (n := net.length)
    have := hno m hm
    rw [(e m).2 (roman_congr (fun k hk => (hd k hk).symm) ones_row.1)] at this; cases this
  · refine ⟨b, b2, b1, (e b).1 b3, fun m hm hR => ?_, fun m hm hR => ?_⟩
    · have := b4 m hm ((e m).2 hR); rw [es, es] at this; exact this
    · have := b5 m hm ((e m).2 hR); rw [es, es] at this; exact this
def fewestRoman (net : List Int) : Nat := sumN net.length (rv (bestRow net.length (romanB net)))
theorem fewestRoman_min {net : List Int} (h : Ok net) : MinRow net.length (RomanP net) (fewestRoman net) := by
  obtain ⟨b, e, hb⟩ := bestRow_roman h
  have := hb.min
  unfold fewestRoman
  rw [e, sumN_congr (f := rv (digs net.length b)) (g := dig net.length b) (fun k hk => digs_rv hk)]
  exact this
def fewestItalian (net : List Int) : Nat := fold (3 ^ net.length) (fun t m => if italianB net (digs net.length m) = true then (if sumN net.length (rv (digs net.length m)) < t then sumN net.length (rv (digs net.length m)) else t) else t) net.length
theorem italian_congr {net : List Int} {r q : Nat → Nat} (h : ∀ k, k < net.length → r k = q k) (hr : ItalianP net r) : ItalianP net q := fun k hk h0 => by
  have := hr k hk (by rw [h k hk]; exact h0)
  unfold help at this ⊢
  rw [sumN_congr (g := fun j => ((nb net k).testBit j).toNat * q j) (fun j hj => by rw [h j hj])] at this
  exact this
theorem fewestItalian_min {net : List Int} (h : Ok net) : MinRow net.length (ItalianP net) (fewestItalian net) := by
  have e : ∀ m, italianB net (digs net.length m) = true ↔ ItalianP net (dig net.length m) := fun m => by
    rw [italianB_iff]
    exact ⟨italian_congr fun k hk => digs_rv hk, italian_congr fun k hk => (digs_rv hk).symm⟩
  have es : ∀ m, sumN net.length (rv (digs net.length m)) = sumN net.length (dig net.length m) := fun m => sumN_congr fun k hk => digs_rv hk
  obtain ⟨h1, h2, h3⟩ := minFold (N := 3 ^ net.length) (p := fun m => italianB net (digs net.length m)) (f := fun m => sumN net.length (rv (digs net.length m))) net.length
  obtain ⟨o, ho, hd⟩ := ones_digs (n := net.length)
  have hone : italianB net (digs net.length o) = true := (e o).2 (italian_congr (fun k hk => (hd k hk).symm) (roman_italian ones_row.1))
  have hos : sumN net.length (rv (digs net.length o)) = net.length := by rw [es, sumN_congr (g := fun _ => 1) hd, sumN_const]; omega
  refine ⟨?_, fun r hr hR => ?_⟩
  · have hcase : ∃ m, m < 3 ^ net.length ∧ italianB net (digs net.length m) = true ∧ sumN net.length (rv (digs net.length m)) = fewestItalian net := by
      rcases h3 with h3 | h3
      · exact ⟨o, ho, hone, by rw [hos]; exact h3.symm⟩
      · exact h3
    obtain ⟨m, hm, hp, hs⟩ := hcase
    exact ⟨dig net.length m, fun k _ => dig_lt _ _ _, (e m).1 hp, by rw [← es]; exact hs⟩
  · obtain ⟨m, hm, hd2⟩ := dig_all hr
    have := h1 m hm ((e m).2 (italian_congr (fun k hk => (hd2 k hk).symm) hR))
    rw [es, sumN_congr hd2] at this
    exact this
theorem sum_le12 {n m : Nat} (hn : n ≤ 6) : sumN n (rv (digs n m)) ≤ 12 := by
  have := sumN_le (n := n) (f := rv (digs n m)) (g := fun _ => 2) (fun k hk => (digs_row n m).le k hk)
  rw [sumN_const] at this; omega
/-- The row of a set. -/
def rowOf (net : List Int) (s : Nat) : List Int := fold net.length (fun l k => l ++ [((rowOfN net s k : Nat) : Int)]) []
def rowOfI (net : List Int) (s : Int) : List Int := if 0 ≤ s ∧ s < 2 ^ net.length then rowOf net s.toNat else []
theorem fold_app_len {n : Nat} {f : Nat → Int} : (fold n (fun l k => l ++ [f k]) []).length = n := by
  induction n with
  | zero => rfl
  | succ n ih => rw [fold_succ, List.length_append, ih]; rfl
theorem fold_app_eli {n k : Nat} {f : Nat → Int} (hk : k < n) : D.eli (fold n (fun l k => l ++ [f k]) []) k = f k := by
  induction n with
  | zero => omega
  | succ n ih =>
    rw [fold_succ, eli_append, fold_app_len]
    by_cases hkn : k < n
    · rw [if_pos hkn]; exact ih hkn
    · rw [if_neg hkn, show k - n = 0 by omega, show k = n by omega]; rfl
end Go.Proofs.Ythcidiihfjjpdaa
/- The model's functions of chapter 8 in natural numbers. Conditions: those of each theorem. -/
namespace Go.Proofs.Ythcidiihfjjpdaa
open D Go.RowKit
set_option linter.unusedVariables false
set_option linter.unusedSimpArgs false


theorem find_testT {n : Nat} {p : Nat → Bool} : find n (fun k => if p k = true then some true else none) = if ((List.range n).any p) = true then some true else none := by
  have key := find_any (n := n) (f := fun k => if p k = true then some true else none) (c := p) (fun k hk => rfl)
  cases hany : (List.range n).any p with
  | false =>
    rw [if_neg (by simp), find_none]
    intro j hj
    rw [List.any_eq_false] at hany
    exact if_neg (hany j (List.mem_range.2 hj))
  | true =>
    rw [if_pos rfl]
    rw [List.any_eq_true] at hany
    obtain ⟨k, hk, hp⟩ := hany
    have := key.2 ⟨k, List.mem_range.1 hk, hp⟩
    cases hf : find n (fun k => if p k = true then some true else none) with
    | none => rw [hf] at this; cases this
    | some b => rw [hf] at this; cases b with
      | true => rfl
      | false => cases this
/-- Can a guard come? -/
def canB (net : List Int) (s t : Nat) : Bool := (List.range net.length).any fun f => s.testBit f && ((nb net t).testBit f && W net (moved s f t))
theorem canB_iff {net : List Int} (h : Ok net) {s t : Nat} (hs : s < 2 ^ net.length) (ht : t < net.length) : canB net s t = true ↔ Can net s t := by
  unfold canB Can
  rw [List.any_eq_true]
  simp only [List.mem_range, Bool.and_eq_true]
  exact ⟨fun ⟨f, _, a, b, c⟩ => ⟨f, a, b, c⟩, fun ⟨f, a, b, c⟩ => ⟨f, in_lt hs a, a, b, c⟩⟩
def secureB (net : List Int) (s : Nat) : Bool := W net s && (List.range net.length).all fun k => !(!s.testBit k && !canB net s k)
theorem secureB_iff {net : List Int} (h : Ok net) {s : Nat} (hs : s < 2 ^ net.length) : secureB net s = true ↔ Secure net s := by
  unfold secureB Secure
  rw [Bool.and_eq_true, List.all_eq_true]
  simp only [List.mem_range]
  refine and_congr Iff.rfl ⟨fun a k hk hb => ?_, fun a k hk => ?_⟩
  · have := a k hk
    rw [hb] at this
    refine (canB_iff h hs hk).1 ?_
    cases hc : canB net s k with
    | true => rfl
    | false => rw [hc] at this; cases this
  · cases hb : s.testBit k with
    | true => rfl
    | false => rw [(canB_iff h hs hk).2 (a k hk hb)]; rfl
def fewestSecure (net : List Int) : Nat := minSize net (secureB net)
theorem fewestSecure_min {net : List Int} (h : Ok net) : MinOf net (secureB net) (fewestSecure net) := minSize_is h ⟨allOf net, allOf_lt net, (secureB_iff h (allOf_lt net)).2 (secure_all h)⟩
theorem eli_set8 {l : List Int} {k j : Nat} {v : Int} (hk : k < l.length) : D.eli (l.set k v) j = if j = k then v else D.eli l j := by
  unfold D.eli
  by_cases hj : j = k
  · subst hj; simp [List.getD, hk]
  · rw [if_neg hj]
    simp [List.getD, List.getElem?_set_ne (fun e => hj e.symm)]
theorem withN_same {n m : Nat} {r q : Nat → Nat} (h : ∀ k, k < n → r k = q k) : withN n r m = withN n q m := by
  apply Nat.eq_of_testBit_eq
  intro j
  rw [Bool.eq_iff_iff, withN_testBit, withN_testBit]
  constructor
  · rintro ⟨a, b⟩; exact ⟨a, by rw [← h j a]; exact b⟩
  · rintro ⟨a, b⟩; exact ⟨a, by rw [h j a]; exact b⟩
theorem leave_row {n : Nat} {row : List Int} (hr : RowIs n row) {f p : Nat} (hf : f < n) (hp : p < n) (h1 : 1 ≤ rv row f) :
    RowIs n ((row.set f ((rv row f : Int) - 1)).set p 1) ∧ ∀ j, j < n → rv ((row.set f ((rv row f : Int) - 1)).set p 1) j = leave (rv row) f p j := by
  have hl := hr.len
  have he : ∀ j, j < n → D.eli ((row.set f ((rv row f : Int) - 1)).set p 1) j = ((leave (rv row) f p j : Nat) : Int) := fun j hj => by
    rw [eli_set8 (by simp; omega)]
    unfold leave
    by_cases hjp : j = p
    · rw [if_pos hjp, if_pos hjp]; rfl
    · rw [if_neg hjp, if_neg hjp, eli_set8 (by omega)]
      by_cases hjf : j = f
      · rw [if_pos hjf, if_pos hjf]; omega
      · rw [if_neg hjf, if_neg hjf]; exact hr.eq j hj
  have hv : ∀ j, j < n → rv ((row.set f ((rv row f : Int) - 1)).set p 1) j = leave (rv row) f p j := fun j hj => by
    show (D.eli _ j).toNat = _
    rw [he j hj]; omega
  refine ⟨⟨by simp [hl], fun j hj => by rw [hv j hj]; exact he j hj, fun j hj => ?_⟩, hv⟩
  rw [hv j hj]
  unfold leave
  have := hr.le f hf
  have := hr.le j hj
  split
  · omega
  · split <;> omega
def leaveB (net : List Int) (r : Nat → Nat) (p : Nat) : Bool := (List.range net.length).any fun f => decide (1 ≤ r f) && ((nb net p).testBit f && W net (withN net.length (leave r f p) 1))
def weakB (net row : List Int) : Bool := (List.range net.length).all fun k => !(rv row k == 0 && !leaveB net (rv row) k)
theorem leaveB_iff {net : List Int} {r : Nat → Nat} {p : Nat} : leaveB net r p = true ↔ ∃ f, f < net.length ∧ 1 ≤ r f ∧ (nb net p).testBit f = true ∧ W net (withN net.length (leave r f p) 1) = true := by
  unfold leaveB
  rw [List.any_eq_true]
  simp only [List.mem_range, Bool.and_eq_true, decide_eq_true_eq]
theorem weakB_iff {net row : List Int} : weakB net row = true ↔ WeakP net (rv row) := by
  unfold weakB WeakP
  rw [List.all_eq_true]
  simp only [List.mem_range]
  refine ⟨fun a k hk h0 => ?_, fun a k hk => ?_⟩
  · have := a k hk
    rw [h0] at this
    refine leaveB_iff.1 ?_
    cases hc : leaveB net (rv row) k with
    | true => rfl
    | false => rw [hc] at this; cases this
  · cases h0 : rv row k == 0 with
    | false => rfl
    | true => rw [leaveB_iff.2 (a k hk (by simpa using h0))]; rfl
def fewestWeak (net : List Int) : Nat := fold (3 ^ net.length) (fun t m => if weakB net (digs net.length m) = true then (if sumN net.length (rv (digs net.length m)) < t then sumN net.length (rv (digs net.length m)) else t) else t) net.length
theorem weak_congr {net : List Int} {r q : Nat → Nat} (h : ∀ k, k < net.length → r k = q k) (hr : WeakP net r) : WeakP net q := fun k hk h0 => by
  obtain ⟨f, a, b, c, d⟩ := hr k hk (by rw [h k hk]; exact h0)
  refine ⟨f, a, by rw [← h f a]; exact b, c, ?_⟩
  rw [← withN_same (r := leave r f k) (q := leave q f k) (fun j hj => by unfold leave; rw [h f a, h j hj])]
  exact d
theorem fewestWeak_min {net : List Int} (h : Ok net) : MinRow net.length (WeakP net) (fewestWeak net) := by
  have e : ∀ m, weakB net (digs net.length m) = true ↔ WeakP net (dig net.length m) := fun m => by
    rw [weakB_iff]
    exact ⟨weak_congr fun k hk => digs_rv hk, weak_congr fun k hk => (digs_rv hk).symm⟩
  have es : ∀ m, sumN net.length (rv (digs net.length m)) = sumN net.length (dig net.length m) := fun m => sumN_congr fun k hk => digs_rv hk
  obtain ⟨h1, h2, h3⟩ := minFold (N := 3 ^ net.length) (p := fun m => weakB net (digs net.length m)) (f := fun m => sumN net.length (rv (digs net.length m))) net.length
  obtain ⟨o, ho, hd⟩ := ones_digs (n := net.length)
  have hone : weakB net (digs net.length o) = true := (e o).2 (weak_congr (fun k hk => (hd k hk).symm) (roman_weak h ones_row.1))
  have hos : sumN net.length (rv (digs net.length o)) = net.length := by rw [es, sumN_congr (g := fun _ => 1) hd, sumN_const]; omega
  refine ⟨?_, fun r hr hR => ?_⟩
  · have hcase : ∃ m, m < 3 ^ net.length ∧ weakB net (digs net.length m) = true ∧ sumN net.length (rv (digs net.length m)) = fewestWeak net := by
      rcases h3 with h3 | h3
      · exact ⟨o, ho, hone, by rw [hos]; exact h3.symm⟩
      · exact h3
    obtain ⟨m, hm, hp, hs⟩ := hcase
    exact ⟨dig net.length m, fun k _ => dig_lt _ _ _, (e m).1 hp, by rw [← es]; exact hs⟩
  · obtain ⟨m, hm, hd2⟩ := dig_all hr
    have := h1 m hm ((e m).2 (weak_congr (fun k hk => (hd2 k hk).symm) hR))
    rw [es, sumN_congr hd2] at this
    exact this
end Go.Proofs.Ythcidiihfjjpdaa
/- The model's functions of chapter 9 in natural numbers. Conditions: those of each theorem. -/
namespace Go.Proofs.Ythcidiihfjjpdaa
open D Go.RowKit
set_option linter.unusedVariables false
set_option linter.unusedSimpArgs false


/-- Can this guard come, so that a set of the list is there? -/
def ansP (net : List Int) (l : List Bool) (s t f : Nat) : Bool := s.testBit f && ((nb net t).testBit f && D.elb l (moved s f t))
def ansI (net : List Int) (l : List Bool) (s t : Nat) : Int := (find net.length (fun f => if ansP net l s t f = true then some (f : Int) else none)).getD (-1)
theorem ansI_cases (net : List Int) (l : List Bool) (s t : Nat) : (ansI net l s t = -1 ∧ ∀ f, f < net.length → ansP net l s t f = false) ∨ ∃ f, f < net.length ∧ ansI net l s t = (f : Int) ∧ ansP net l s t f = true := by
  unfold ansI
  cases hf : find net.length (fun f => if ansP net l s t f = true then some (f : Int) else none) with
  | none =>
    refine .inl ⟨rfl, fun f hfl => not_true fun hc => ?_⟩
    have := find_none.1 hf f hfl
    rw [if_pos hc] at this; cases this
  | some r =>
    obtain ⟨f, hfl, he⟩ := find_some_ex hf
    right
    by_cases hc : ansP net l s t f = true
    · rw [if_pos hc] at he; injection he with he; exact ⟨f, hfl, he.symm, hc⟩
    · rw [if_neg hc] at he; cases he
def holdsB (net : List Int) (l : List Bool) (s : Nat) : Bool := ((List.range net.length).all fun k => !(!s.testBit k && decide (ansI net l s k < 0))) && D.elb l s
noncomputable def eternalB (net : List Int) (s : Nat) : Bool := @decide (Eternal net s) (Classical.propDecidable _)
theorem eternalB_iff {net : List Int} {s : Nat} : eternalB net s = true ↔ Eternal net s := by unfold eternalB; exact @decide_eq_true_iff _ (Classical.propDecidable _)
noncomputable def lasts (net : List Int) : List Bool := (List.range (2 ^ net.length)).map (eternalB net)
theorem lasts_len (net : List Int) : (lasts net).length = 2 ^ net.length := by simp [lasts]
theorem lasts_elb {net : List Int} {s : Nat} (hs : s < 2 ^ net.length) : D.elb (lasts net) s = eternalB net s := by unfold D.elb lasts; simp [List.getD, hs]
theorem holds_eternal {net : List Int} (h : Ok net) (m : List Bool) (hm : m.length = 2 ^ net.length) (hin : ∀ s, s < 2 ^ net.length → Eternal net s → D.elb m s = true) :
    ∀ s, s < 2 ^ net.length → Eternal net s → holdsB net m s = true := by
  intro s hs he
  unfold holdsB
  rw [hin s hs he, Bool.and_true, List.all_eq_true]
  intro k hk
  have hk := List.mem_range.1 hk
  cases hb : s.testBit k with
  | true => rfl
  | false =>
    obtain ⟨f, a, b, c⟩ := eternal_closed net s hs he k hk hb
    rcases ansI_cases net m s k with ⟨_, hno⟩ | ⟨g, _, hg, _⟩
    · have := hno f (in_lt hs a)
      unfold ansP at this
      rw [a, b, hin _ (moved_lt hs hk) c] at this
      cases this
    · rw [hg, decide_eq_false (by omega)]; rfl
theorem stable_eternal {net : List Int} (h : Ok net) {m : List Bool} (hm : m.length = 2 ^ net.length) (hst : ∀ s, s < 2 ^ net.length → D.elb m s = true → holdsB net m s = true) :
    ∀ s, s < 2 ^ net.length → D.elb m s = true → Eternal net s := by
  intro s hs hb
  refine ⟨fun q => q < 2 ^ net.length ∧ D.elb m q = true, fun t ht ⟨_, htm⟩ k hk hb => ?_, hs, hb⟩
  have := hst t ht htm
  unfold holdsB at this
  rw [Bool.and_eq_true, List.all_eq_true] at this
  have := this.1 k (List.mem_range.2 hk)
  rw [hb] at this
  rcases ansI_cases net m t k with ⟨hn, _⟩ | ⟨f, hf, hg, hp⟩
  · rw [hn] at this; cases this
  · unfold ansP at hp
    rw [Bool.and_eq_true, Bool.and_eq_true] at hp
    exact ⟨f, hp.1, hp.2.1, moved_lt ht hk, hp.2.2⟩
theorem eternal_some (net : List Int) : ∃ s, s < 2 ^ net.length ∧ eternalB net s = true := ⟨allOf net, allOf_lt net, eternalB_iff.2 eternal_all⟩
theorem fold_least {net : List Int} (h : Ok net) (L : List Int) (p : Nat → Bool) (hL : ∀ x, x ∈ L ↔ ∃ s : Nat, s < 2 ^ net.length ∧ p s = true ∧ x = s) (N : Nat) (hN : N ≤ L.length) :
    (fold N (fun t k => if size (D.eli L k).toNat < t then size (D.eli L k).toNat else t) net.length = net.length ∨ ∃ s, s < 2 ^ net.length ∧ p s = true ∧ size s = fold N (fun t k => if size (D.eli L k).toNat < t then size (D.eli L k).toNat else t) net.length) ∧
    ∀ k, k < N → fold N (fun t k => if size (D.eli L k).toNat < t then size (D.eli L k).toNat else t) net.length ≤ size (D.eli L k).toNat := by
  induction N with
  | zero => exact ⟨.inl rfl, fun k hk => by omega⟩
  | succ N ih =>
    obtain ⟨a, b⟩ := ih (by omega)
    rw [fold_succ]
    generalize fold N (fun t k => if size (D.eli L k).toNat < t then size (D.eli L k).toNat else t) net.length = g at a b ⊢
    obtain ⟨s, s1, s2, s3⟩ := (hL _).1 (eli_mem (l := L) (k := N) (by omega))
    by_cases hlt : size (D.eli L N).toNat < g
    · rw [if_pos hlt]
      refine ⟨.inr ⟨s, s1, s2, by rw [s3, Int.toNat_natCast]⟩, fun k hk => ?_⟩
      by_cases he : k = N
      · rw [he]; exact Nat.le_refl _
      · have := b k (by omega); omega
    · rw [if_neg hlt]
      refine ⟨a, fun k hk => ?_⟩
      by_cases he : k = N
      · rw [he]; omega
      · exact b k (by omega)
theorem fold_minOf {net : List Int} (h : Ok net) (L : List Int) (p : Nat → Bool) (hL : ∀ x, x ∈ L ↔ ∃ s : Nat, s < 2 ^ net.length ∧ p s = true ∧ x = s) (hall : p (allOf net) = true) :
    MinOf net p (fold L.length (fun t k => if size (D.eli L k).toNat < t then size (D.eli L k).toNat else t) net.length) := by
  obtain ⟨a, b⟩ := fold_least h L p hL L.length (Nat.le_refl _)
  refine ⟨?_, fun s hs hp => ?_⟩
  · rcases a with a | a
    · rw [a]; exact ⟨allOf net, allOf_lt net, hall, size_all h⟩
    · exact a
  · obtain ⟨k, hk, he⟩ := mem_eli ((hL (s : Int)).2 ⟨s, hs, hp, rfl⟩)
    have := b k hk
    rw [he, Int.toNat_natCast] at this
    exact this
noncomputable def fewestEternal (net : List Int) : Nat := minSize net (eternalB net)
theorem fewestEternal_min {net : List Int} (h : Ok net) : MinOf net (eternalB net) (fewestEternal net) := minSize_is h (eternal_some net)
/-- The answer of an eternal set. -/
noncomputable def answerI (net : List Int) (s p : Int) : Int := if (0 ≤ s ∧ s < 2 ^ net.length) ∧ (0 ≤ p ∧ p < net.length) ∧ eternalB net s.toNat = true ∧ s.toNat.testBit p.toNat = false then ansI net (lasts net) s.toNat p.toNat else -1
/-- An eternal set has an answer, and the answer is eternal. -/
theorem answerI_is {net : List Int} (h : Ok net) {s p : Nat} (hs : s < 2 ^ net.length) (hp : p < net.length) (he : Eternal net s) (hb : s.testBit p = false) :
    ∃ f, f < net.length ∧ answerI net s p = (f : Int) ∧ s.testBit f = true ∧ (nb net p).testBit f = true ∧ Eternal net (moved s f p) := by
  have e1 : answerI net s p = ansI net (lasts net) s p := by
    unfold answerI
    rw [if_pos ⟨⟨by omega, by have : (s : Int) < ((2 ^ net.length : Nat) : Int) := by omega
                              simpa using this⟩, ⟨by omega, by omega⟩, by rw [Int.toNat_natCast]; exact eternalB_iff.2 he, by simpa using hb⟩]
    simp only [Int.toNat_natCast]
  rw [e1]
  rcases ansI_cases net (lasts net) s p with ⟨_, hno⟩ | ⟨f, hf, hg, hP⟩
  · exfalso
    obtain ⟨f, a, b, c⟩ := eternal_closed net s hs he p hp hb
    have := hno f (in_lt hs a)
    unfold ansP at this
    rw [a, b, lasts_elb (moved_lt hs hp), eternalB_iff.2 c] at this
    cases this
  · unfold ansP at hP
    rw [Bool.and_eq_true, Bool.and_eq_true, lasts_elb (moved_lt hs hp), eternalB_iff] at hP
    exact ⟨f, hf, hg, hP.1, hP.2.1, hP.2.2⟩
end Go.Proofs.Ythcidiihfjjpdaa
/- All guards move: who can go where, by Hall's condition. Conditions: those of each theorem. -/
namespace Go.Proofs.Ythcidiihfjjpdaa
set_option linter.unusedVariables false
set_option linter.unusedSimpArgs false

theorem size_eq6 {s : Nat} (hs : s < 64) : size s = cnt 6 (fun k => s.testBit k) := by unfold size; rw [card_sum]
theorem in6 {s k : Nat} (hs : s < 64) (hk : s.testBit k = true) : k < 6 := testBit_lt (n := 6) hs hk
theorem size_mono6 {s t : Nat} (hs : s < 64) (ht : t < 64) (h : ∀ j, s.testBit j = true → t.testBit j = true) : size s ≤ size t := by
  rw [size_eq6 hs, size_eq6 ht]; exact cnt_mono fun k _ => h k
theorem size_disj {s t : Nat} (hs : s < 64) (ht : t < 64) (h : ∀ j, s.testBit j = true → t.testBit j = false) : size (s ||| t) = size s + size t := by
  have hl : s ||| t < 2 ^ 6 := Nat.or_lt_two_pow (by omega) (by omega)
  rw [size_eq6 hs, size_eq6 ht, size_eq6 (by omega)]
  unfold cnt
  rw [← sumN_add]
  refine sumN_congr fun k _ => ?_
  show ((s ||| t).testBit k).toNat = (s.testBit k).toNat + (t.testBit k).toNat
  rw [Nat.testBit_or]
  cases hb : s.testBit k with
  | false => simp
  | true => rw [h k hb]; rfl
theorem diff_testBit {s t : Nat} (hs : s < 64) (ht : t < 64) (j : Nat) : (minus s t).testBit j = true ↔ s.testBit j = true ∧ t.testBit j = false := by
  rw [minus_testBit _ _ (by omega) (by omega), Bool.and_eq_true, Bool.not_eq_true']
theorem diff_lt {s t : Nat} (hs : s < 64) : minus s t < 64 := Nat.lt_of_le_of_lt Nat.and_le_left hs
theorem size_diff {s t : Nat} (hs : s < 64) (ht : t < 64) (h : ∀ j, t.testBit j = true → s.testBit j = true) : size (minus s t) + size t = size s := by
  rw [← size_disj (diff_lt hs) ht (fun j hj => ((diff_testBit hs ht j).1 hj).2)]
  congr 1
  apply Nat.eq_of_testBit_eq
  intro j
  rw [Bool.eq_iff_iff, or2, diff_testBit hs ht]
  constructor
  · rintro (⟨a, _⟩ | a)
    · exact a
    · exact h j a
  · intro a
    cases hb : t.testBit j with
    | true => exact .inr rfl
    | false => exact .inl ⟨a, rfl⟩
theorem size_zero {s : Nat} (hs : s < 64) (h : size s = 0) : s = 0 := Classical.byContradiction fun hne => by
  obtain ⟨j, hj⟩ := pos_iff.1 hne
  have := size_pos hs (in6 hs hj) hj
  omega
/-- Those of b next to some of x. -/
def nbs (R : Nat → Nat → Bool) (x b : Nat) : Nat := orN 6 (fun j => b.testBit j && (List.range 6).any fun i => x.testBit i && R i j) (fun j => 2 ^ j)
theorem nbs_testBit {R : Nat → Nat → Bool} {x b : Nat} (hx : x < 64) (hb : b < 64) (j : Nat) : (nbs R x b).testBit j = true ↔ b.testBit j = true ∧ ∃ i, x.testBit i = true ∧ R i j = true := by
  unfold nbs
  rw [orN_testBit]
  simp only [Bool.and_eq_true, List.any_eq_true, List.mem_range]
  constructor
  · rintro ⟨k, hk, ⟨a, i, _, b1, c⟩, d⟩
    rw [testBit_pow, decide_eq_true_eq] at d
    subst d
    exact ⟨a, i, b1, c⟩
  · rintro ⟨a, i, b1, c⟩
    exact ⟨j, in6 hb a, ⟨a, i, in6 hx b1, b1, c⟩, by rw [testBit_pow]; simp⟩
theorem nbs_lt (R : Nat → Nat → Bool) (x b : Nat) : nbs R x b < 64 := orN_lt (m := 6) fun k hk _ => Nat.pow_lt_pow_right (by omega) hk
/-- Each can be given another one, if no set has too few. -/
theorem hall (R : Nat → Nat → Bool) : ∀ m a b, a < 64 → b < 64 → size a ≤ m → (∀ x, x < 64 → (∀ j, x.testBit j = true → a.testBit j = true) → size x ≤ size (nbs R x b)) →
    ∃ f : Nat → Nat, (∀ i, a.testBit i = true → b.testBit (f i) = true ∧ R i (f i) = true) ∧ ∀ i j, a.testBit i = true → a.testBit j = true → f i = f j → i = j := by
  intro m
  induction m with
  | zero =>
    intro a b ha hb hm _
    have := size_zero ha (by omega)
    subst this
    exact ⟨fun i => i, fun i hi => (by rw [Nat.zero_testBit] at hi; cases hi), fun i j hi => (by rw [Nat.zero_testBit] at hi; cases hi)⟩
  | succ m ih =>
    intro a b ha hb hm hc
    by_cases h0 : a = 0
    · subst h0
      exact ⟨fun i => i, fun i hi => (by rw [Nat.zero_testBit] at hi; cases hi), fun i j hi => (by rw [Nat.zero_testBit] at hi; cases hi)⟩
    by_cases ht : ∃ x, x < 64 ∧ (∀ j, x.testBit j = true → a.testBit j = true) ∧ x ≠ 0 ∧ x ≠ a ∧ size (nbs R x b) ≤ size x
    · -- a tight set is given its own, the others the others
      obtain ⟨x, hx, hxa, hx0, hxne, hxt⟩ := ht
      have hdz := size_diff ha hx hxa
      have hxp : 1 ≤ size x := by
        obtain ⟨j, hj⟩ := pos_iff.1 hx0
        exact size_pos hx (in6 hx hj) hj
      have hdp : 1 ≤ size (minus a x) := by
        refine Nat.one_le_iff_ne_zero.2 fun hz => hxne ?_
        have h1 := size_zero (diff_lt ha) hz
        apply Nat.eq_of_testBit_eq
        intro j
        rw [Bool.eq_iff_iff]
        refine ⟨hxa j, fun hj => Classical.byContradiction fun hno => ?_⟩
        have := (diff_testBit ha hx j).2 ⟨hj, not_true hno⟩
        rw [h1, Nat.zero_testBit] at this; cases this
      obtain ⟨f1, p1, q1⟩ := ih x b hx hb (by omega) (fun y hy hyx => hc y hy fun j hj => hxa j (hyx j hj))
      have hnl := nbs_lt R x b
      obtain ⟨f2, p2, q2⟩ := ih (minus a x) (minus b (nbs R x b)) (diff_lt ha) (diff_lt hb) (by omega) (fun z hz hza => by
        have hzx : z ||| x < 64 := by
          have : z ||| x < 2 ^ 6 := Nat.or_lt_two_pow (by omega) (by omega)
          omega
        have hdis : ∀ j, z.testBit j = true → x.testBit j = false := fun j hj => ((diff_testBit ha hx j).1 (hza j hj)).2
        have h1 := hc (z ||| x) hzx (fun j hj => by
          rcases (or2 _ _ _).1 hj with hj | hj
          · exact ((diff_testBit ha hx j).1 (hza j hj)).1
          · exact hxa j hj)
        rw [size_disj hz hx hdis] at h1
        have h2 : size (nbs R (z ||| x) b) ≤ size (nbs R z (minus b (nbs R x b))) + size (nbs R x b) := by
          rw [← size_disj (nbs_lt _ _ _) hnl (fun j hj => ((diff_testBit hb hnl j).1 ((nbs_testBit hz (diff_lt hb) j).1 hj).1).2)]
          refine size_mono6 (nbs_lt _ _ _) (by have : nbs R z (minus b (nbs R x b)) ||| nbs R x b < 2 ^ 6 := Nat.or_lt_two_pow (nbs_lt _ _ _) hnl
                                               omega) fun j hj => ?_
          obtain ⟨a1, i, a2, a3⟩ := (nbs_testBit hzx hb j).1 hj
          rw [or2]
          cases hb2 : (nbs R x b).testBit j with
          | true => exact .inr rfl
          | false =>
            left
            rcases (or2 _ _ _).1 a2 with a2 | a2
            · exact (nbs_testBit hz (diff_lt hb) j).2 ⟨(diff_testBit hb hnl j).2 ⟨a1, hb2⟩, i, a2, a3⟩
            · rw [(nbs_testBit hx hb j).2 ⟨a1, i, a2, a3⟩] at hb2; cases hb2
        omega)
      have in1 : ∀ i, x.testBit i = true → (nbs R x b).testBit (f1 i) = true := fun i hi => (nbs_testBit hx hb _).2 ⟨(p1 i hi).1, i, hi, (p1 i hi).2⟩
      have in2 : ∀ i, a.testBit i = true → x.testBit i = false → (minus a x).testBit i = true := fun i hi hn => (diff_testBit ha hx i).2 ⟨hi, hn⟩
      refine ⟨fun i => if x.testBit i = true then f1 i else f2 i, fun i hi => ?_, fun i j hi hj he => ?_⟩
      · cases hxi : x.testBit i with
        | true => simp only [hxi, if_true]; exact p1 i hxi
        | false =>
          simp only [hxi, Bool.false_eq_true, if_false]
          obtain ⟨u, v⟩ := p2 i (in2 i hi hxi)
          exact ⟨((diff_testBit hb hnl _).1 u).1, v⟩
      · cases hxi : x.testBit i with
        | true =>
          cases hxj : x.testBit j with
          | true => simp only [hxi, hxj, if_true] at he; exact q1 i j hxi hxj he
          | false =>
            simp only [hxi, hxj, if_true, Bool.false_eq_true, if_false] at he
            have h1 := in1 i hxi
            have h2 := ((diff_testBit hb hnl _).1 (p2 j (in2 j hj hxj)).1).2
            rw [← he, h1] at h2; cases h2
        | false =>
          cases hxj : x.testBit j with
          | true =>
            simp only [hxi, hxj, if_true, Bool.false_eq_true, if_false] at he
            have h1 := in1 j hxj
            have h2 := ((diff_testBit hb hnl _).1 (p2 i (in2 i hi hxi)).1).2
            rw [he, h1] at h2; cases h2
          | false =>
            simp only [hxi, hxj, Bool.false_eq_true, if_false] at he
            exact q2 i j (in2 i hi hxi) (in2 j hj hxj) he
    · -- one is given any, and the rest goes on
      obtain ⟨g, hg⟩ := pos_iff.1 h0
      have hg6 := in6 ha hg
      have hpg : 2 ^ g < 64 := by
        have : 2 ^ g < 2 ^ 6 := Nat.pow_lt_pow_right (by omega) hg6
        omega
      have hgs : ∀ j, (2 ^ g).testBit j = true → a.testBit j = true := fun j hj => by rw [testBit_pow, decide_eq_true_eq] at hj; rw [← hj]; exact hg
      have z1 : size (2 ^ g) = 1 := by
        have := size_add (s := 0) (k := g) (by omega) hg6 (Nat.zero_testBit g)
        rw [Nat.zero_or] at this
        rw [this]; decide
      have h1 := hc (2 ^ g) hpg hgs
      have hne : nbs R (2 ^ g) b ≠ 0 := fun he => by
        have : size (nbs R (2 ^ g) b) = 0 := by rw [he]; decide
        omega
      obtain ⟨t, htb⟩ := pos_iff.1 hne
      obtain ⟨hbt, i, hi, hR⟩ := (nbs_testBit hpg hb t).1 htb
      have hig : i = g := by rw [testBit_pow, decide_eq_true_eq] at hi; exact hi.symm
      subst hig
      have ht6 := in6 hb hbt
      have ba := bits_sub a ha i hg6 hg
      have bb := bits_sub b hb t ht6 hbt
      obtain ⟨f, p, q⟩ := ih (a - 2 ^ i) (b - 2 ^ t) ba.1 bb.1 (by omega) (fun x hx hxa => by
        by_cases hx0 : x = 0
        · subst hx0
          have : size 0 = 0 := by decide
          omega
        have hxa' : ∀ j, x.testBit j = true → a.testBit j = true := fun j hj => by
          have := hxa j hj
          rw [sub_testBit ha hg6 hg, Bool.and_eq_true] at this
          exact this.1
        have hxne : x ≠ a := fun he => by
          have := hxa i (by rw [he]; exact hg)
          rw [sub_testBit ha hg6 hg] at this
          simp at this
        have h2 : size x + 1 ≤ size (nbs R x b) := by
          refine Classical.byContradiction fun hlt => ht ⟨x, hx, hxa', hx0, hxne, by omega⟩
        have h3 : size (nbs R x b) ≤ size (nbs R x (b - 2 ^ t)) + 1 := by
          have hle : size (nbs R x b) ≤ size (nbs R x (b - 2 ^ t) ||| 2 ^ t) := by
            refine size_mono6 (nbs_lt _ _ _) (by
              have hp : 2 ^ t < 2 ^ 6 := Nat.pow_lt_pow_right (by omega) ht6
              have : nbs R x (b - 2 ^ t) ||| 2 ^ t < 2 ^ 6 := Nat.or_lt_two_pow (nbs_lt _ _ _) hp
              omega) fun j hj => ?_
            obtain ⟨a1, k, a2, a3⟩ := (nbs_testBit hx hb j).1 hj
            rw [or_testBit]
            by_cases hjt : j = t
            · exact .inr hjt
            · exact .inl ((nbs_testBit hx bb.1 j).2 ⟨by rw [sub_testBit hb ht6 hbt, a1]; simp [hjt], k, a2, a3⟩)
          rw [size_add (nbs_lt _ _ _) ht6 (not_true fun hcc => by
            have := ((nbs_testBit hx bb.1 t).1 hcc).1
            rw [sub_testBit hb ht6 hbt] at this; simp at this)] at hle
          exact hle
        omega)
      have ina : ∀ k, a.testBit k = true → k ≠ i → (a - 2 ^ i).testBit k = true := fun k hk hki => by rw [sub_testBit ha hg6 hg, hk]; simp [hki]
      have outb : ∀ k, a.testBit k = true → k ≠ i → f k ≠ t ∧ b.testBit (f k) = true := fun k hk hki => by
        have := (p k (ina k hk hki)).1
        rw [sub_testBit hb ht6 hbt, Bool.and_eq_true] at this
        exact ⟨by simpa using this.2, this.1⟩
      refine ⟨fun k => if k = i then t else f k, fun k hk => ?_, fun k j hk hj he => ?_⟩
      · by_cases hki : k = i
        · simp only [hki, if_true]; exact ⟨hbt, hR⟩
        · simp only [hki, if_false]; exact ⟨(outb k hk hki).2, (p k (ina k hk hki)).2⟩
      · by_cases hki : k = i
        · by_cases hji : j = i
          · rw [hki, hji]
          · simp only [hki, hji, if_true, if_false] at he
            exact absurd he.symm (outb j hj hji).1
        · by_cases hji : j = i
          · simp only [hki, hji, if_true, if_false] at he
            exact absurd he (outb k hk hki).1
          · simp only [hki, hji, if_false] at he
            exact q k j (ina k hk hki) (ina j hj hji) he
end Go.Proofs.Ythcidiihfjjpdaa
/- All guards move, for ever: plain facts. Conditions: those of each theorem. -/
namespace Go.Proofs.Ythcidiihfjjpdaa
set_option linter.unusedVariables false
set_option linter.unusedSimpArgs false

/-- The guards of one set can be at the places of another one, each staying or moving to a neighbour. -/
def AllMove (net : List Int) (a b : Nat) : Prop := size a = size b ∧ ∃ f : Nat → Nat, (∀ i, a.testBit i = true → b.testBit (f i) = true ∧ (ball net i).testBit (f i) = true) ∧ ∀ i j, a.testBit i = true → a.testBit j = true → f i = f j → i = j
theorem allMove_refl (net : List Int) (a : Nat) : AllMove net a a := ⟨rfl, fun i => i, fun i hi => ⟨hi, sees_self net i⟩, fun i j _ _ he => he⟩
/-- Each new place is met. -/
theorem allMove_onto {a b : Nat} (ha : a < 64) (hb : b < 64) (hz : size a = size b) {f : Nat → Nat} (hf : ∀ i, a.testBit i = true → b.testBit (f i) = true) (hi : ∀ i j, a.testBit i = true → a.testBit j = true → f i = f j → i = j) {v : Nat} (hv : b.testBit v = true) : ∃ i, a.testBit i = true ∧ f i = v := by
  refine Classical.byContradiction fun hno => ?_
  have hv6 := in6 hb hv
  have h1 := bits_sub b hb v hv6 hv
  have h2 : size a ≤ size (b - 2 ^ v) := by
    rw [size_eq6 ha, size_eq6 h1.1]
    refine cnt_inj f (fun k hk hak => ?_) (fun i j _ _ hai haj he => hi i j hai haj he)
    have hbf := hf k hak
    refine ⟨in6 hb hbf, ?_⟩
    rw [sub_testBit hb hv6 hv, hbf]
    have : f k ≠ v := fun he => hno ⟨k, hak, he⟩
    simp [this]
  omega
theorem allMove_symm {net : List Int} (h : Ok net) {a b : Nat} (ha : a < 2 ^ net.length) (hb : b < 2 ^ net.length) (hm : AllMove net a b) : AllMove net b a := by
  obtain ⟨hz, f, hf, hi⟩ := hm
  have hex : ∀ v, ∃ i, b.testBit v = true → a.testBit i = true ∧ f i = v := fun v => by
    by_cases hv : b.testBit v = true
    · obtain ⟨i, hx⟩ := allMove_onto (lt64 h ha) (lt64 h hb) hz (fun i hi => (hf i hi).1) hi hv
      exact ⟨i, fun _ => hx⟩
    · exact ⟨0, fun hh => absurd hh hv⟩
  have hg : ∃ g : Nat → Nat, ∀ v, b.testBit v = true → a.testBit (g v) = true ∧ f (g v) = v := ⟨fun v => Classical.choose (hex v), fun v => Classical.choose_spec (hex v)⟩
  obtain ⟨g, hg⟩ := hg
  refine ⟨hz.symm, g, fun v hv => ⟨(hg v hv).1, ?_⟩, fun u v hu hv he => ?_⟩
  · have h1 := (hf (g v) (hg v hv).1).2
    rw [(hg v hv).2] at h1
    rw [sees_symm h (in_lt ha (hg v hv).1) (in_lt hb hv)]
    exact h1
  · rw [← (hg u hu).2, ← (hg v hv).2, he]
/-- A guard that moves alone. -/
theorem allMove_one {net : List Int} (h : Ok net) {s f t : Nat} (hs : s < 2 ^ net.length) (ht : t < net.length) (hf : s.testBit f = true) (hn : s.testBit t = false) (hft : (nb net f).testBit t = true) : AllMove net s (moved s f t) := by
  have h6 := h.hi
  have hfl := in_lt hs hf
  have hb := moved_testBit (t := t) (lt64 h hs) (by omega) hf
  refine ⟨(moved_size (lt64 h hs) (by omega) (by omega) hf hn).symm, fun i => if i = f then t else i, fun i hi => ?_, fun i j hi hj he => ?_⟩
  · by_cases hif : i = f
    · simp only [hif, if_true]; exact ⟨(hb t).2 (.inr rfl), (ball_testBit _ _ _).2 (.inl hft)⟩
    · simp only [hif, if_false]; exact ⟨(hb i).2 (.inl ⟨hi, hif⟩), sees_self net i⟩
  · by_cases hif : i = f <;> by_cases hjf : j = f
    · rw [hif, hjf]
    · simp only [hif, hjf, if_true, if_false] at he
      rw [← he, hn] at hj; cases hj
    · simp only [hif, hjf, if_true, if_false] at he
      rw [he, hn] at hi; cases hi
    · simp only [hif, hjf, if_false] at he; exact he
/-- The new places are seen from the old ones. -/
theorem allMove_seen {net : List Int} (h : Ok net) {a b : Nat} (ha : a < 2 ^ net.length) (hb : b < 2 ^ net.length) (hm : AllMove net a b) : ∀ j, b.testBit j = true → (seen net a).testBit j = true := fun j hj => by
  obtain ⟨hz, f, hf, hi⟩ := hm
  obtain ⟨i, hia, hfi⟩ := allMove_onto (lt64 h ha) (lt64 h hb) hz (fun i hi => (hf i hi).1) hi hj
  exact (seen_balls h ha).2 ⟨i, in_lt ha hia, hia, by rw [← hfi]; exact (hf i hia).2⟩
/-- A family of sets that can answer each place by all moving. -/
def ClosedA (net : List Int) (F : Nat → Prop) : Prop := ∀ t, t < 2 ^ net.length → F t → ∀ k, k < net.length → t.testBit k = false → ∃ u, u < 2 ^ net.length ∧ u.testBit k = true ∧ AllMove net t u ∧ F u
def AllEternal (net : List Int) (s : Nat) : Prop := ∃ F, ClosedA net F ∧ F s
theorem allEternal_closed (net : List Int) : ClosedA net (AllEternal net) := fun t ht ⟨F, hF, hFt⟩ k hk hb => by
  obtain ⟨u, a, b, c, d⟩ := hF t ht hFt k hk hb
  exact ⟨u, a, b, c, F, hF, d⟩
/-- With all it is easier. -/
theorem eternal_allEternal {net : List Int} (h : Ok net) {s : Nat} (hs : s < 2 ^ net.length) (he : Eternal net s) : AllEternal net s := by
  have h6 := h.hi
  refine ⟨Eternal net, fun t ht hte k hk hb => ?_, he⟩
  obtain ⟨f, a, b, c⟩ := eternal_closed net t ht hte k hk hb
  have hfl := in_lt ht a
  exact ⟨moved t f k, moved_lt ht hk, (moved_testBit (lt64 h ht) (by omega) a k).2 (.inr rfl), allMove_one h ht hk a hb (by rw [h.sym k f hk hfl]; exact b), c⟩
theorem allEternal_watch {net : List Int} (h : Ok net) {s : Nat} (hs : s < 2 ^ net.length) (he : AllEternal net s) : W net s = true := by
  refine (W_iff h hs).2 fun j hj => ?_
  cases hb : s.testBit j with
  | true => exact (seen_testBit net s j).2 (.inl hb)
  | false =>
    obtain ⟨u, a, b, c, _⟩ := allEternal_closed net s hs he j hj hb
    exact allMove_seen h hs a c j b

/-! ### No more than are apart -/
theorem allMove_union {net : List Int} (h : Ok net) {a b c : Nat} (ha : a < 2 ^ net.length) (hb : b < 2 ^ net.length) (hc : c < 2 ^ net.length) (hac : ∀ j, a.testBit j = true → c.testBit j = false) (hbc : ∀ j, b.testBit j = true → c.testBit j = false) {d : Nat} (hd : d < 2 ^ net.length) (had : ∀ j, b.testBit j = true → d.testBit j = false) (hm : AllMove net a b) (hm2 : AllMove net c d) : AllMove net (a ||| c) (b ||| d) := by
  obtain ⟨hz, f, hf, hi⟩ := hm
  obtain ⟨hz2, g, hg, hj⟩ := hm2
  refine ⟨by rw [size_disj (lt64 h ha) (lt64 h hc) hac, size_disj (lt64 h hb) (lt64 h hd) had]; omega, fun i => if a.testBit i = true then f i else g i, fun i hx => ?_, fun i j hx hy he => ?_⟩
  · cases hai : a.testBit i with
    | true => simp only [hai, if_true]; exact ⟨(or2 _ _ _).2 (.inl (hf i hai).1), (hf i hai).2⟩
    | false =>
      have hci : c.testBit i = true := by
        rcases (or2 _ _ _).1 hx with hh | hh
        · rw [hai] at hh; cases hh
        · exact hh
      simp only [hai, Bool.false_eq_true, if_false]; exact ⟨(or2 _ _ _).2 (.inr (hg i hci).1), (hg i hci).2⟩
  · have inc : ∀ k, (a ||| c).testBit k = true → a.testBit k = false → c.testBit k = true := fun k hk hn => by
      rcases (or2 _ _ _).1 hk with hh | hh
      · rw [hn] at hh; cases hh
      · exact hh
    cases hai : a.testBit i with
    | true =>
      cases haj : a.testBit j with
      | true => simp only [hai, haj, if_true] at he; exact hi i j hai haj he
      | false =>
        simp only [hai, haj, if_true, Bool.false_eq_true, if_false] at he
        have h1 := had _ (hf i hai).1
        rw [he, (hg j (inc j hy haj)).1] at h1; cases h1
    | false =>
      cases haj : a.testBit j with
      | true =>
        simp only [hai, haj, if_true, Bool.false_eq_true, if_false] at he
        have h1 := had _ (hf j haj).1
        rw [← he, (hg i (inc i hx hai)).1] at h1; cases h1
      | false => simp only [hai, haj, Bool.false_eq_true, if_false] at he; exact hj i j (inc i hx hai) (inc j hy haj) he
/-- From largest apart set to largest apart set all can move. -/
theorem allMove_apart {net : List Int} (h : Ok net) {u m a b : Nat} (hu : u < 2 ^ net.length) (hmax : ∀ x, x < 2 ^ net.length → (∀ j, x.testBit j = true → u.testBit j = true) → Apart net x → size x ≤ m)
    (ha : a < 2 ^ net.length) (hau : ∀ j, a.testBit j = true → u.testBit j = true) (hA : Apart net a) (haz : size a = m) (hb : b < 2 ^ net.length) (hbu : ∀ j, b.testBit j = true → u.testBit j = true) (hB : Apart net b) (hbz : size b = m) : AllMove net a b := by
  have h64 := h.pow
  refine ⟨by omega, ?_⟩
  have key : ∀ x, x < 64 → (∀ j, x.testBit j = true → a.testBit j = true) → size x ≤ size (nbs (fun i j => (ball net i).testBit j) x b) := by
    intro x hx hxa
    have hxl : x < 2 ^ net.length := by
      refine Classical.byContradiction fun hge => ?_
      have hle := Nat.ge_of_not_lt hge
      have : ∃ j, net.length ≤ j ∧ x.testBit j = true := by
        obtain ⟨j, hj1, hj2⟩ := Nat.exists_ge_and_testBit_of_ge_two_pow hle
        exact ⟨j, hj1, hj2⟩
      obtain ⟨j, hj1, hj2⟩ := this
      have := in_lt ha (hxa j hj2)
      omega
    have hnl := nbs_lt (fun i j => (ball net i).testBit j) x b
    have hnb := fun j => nbs_testBit (R := fun i j => (ball net i).testBit j) hx (lt64 h hb) j
    have hdl : minus b (nbs (fun i j => (ball net i).testBit j) x b) < 2 ^ net.length := Nat.lt_of_le_of_lt Nat.and_le_left hb
    have hd := fun j => diff_testBit (lt64 h hb) hnl j
    have hdis : ∀ j, (minus b (nbs (fun i j => (ball net i).testBit j) x b)).testBit j = true → x.testBit j = false := fun j hj => not_true fun hc => by
      obtain ⟨h1, h2⟩ := (hd j).1 hj
      rw [(hnb j).2 ⟨h1, j, hc, sees_self net j⟩] at h2; cases h2
    have hcross : ∀ i j, x.testBit i = true → (minus b (nbs (fun i j => (ball net i).testBit j) x b)).testBit j = true → (nb net i).testBit j = false := fun i j hi hj => not_true fun hc => by
      obtain ⟨h1, h2⟩ := (hd j).1 hj
      rw [(hnb j).2 ⟨h1, i, hi, (ball_testBit _ _ _).2 (.inl hc)⟩] at h2; cases h2
    have hU : Apart net (minus b (nbs (fun i j => (ball net i).testBit j) x b) ||| x) := fun i j hi hj => by
      rcases (or2 _ _ _).1 hi with hi | hi <;> rcases (or2 _ _ _).1 hj with hj | hj
      · exact hB i j ((hd i).1 hi).1 ((hd j).1 hj).1
      · rw [h.sym j i (in_lt hxl hj) (in_lt hdl hi)]; exact hcross j i hj hi
      · exact hcross i j hi hj
      · exact hA i j (hxa i hi) (hxa j hj)
    have h1 := hmax _ (Nat.or_lt_two_pow hdl hxl) (fun j hj => by
      rcases (or2 _ _ _).1 hj with hj | hj
      · exact hbu j ((hd j).1 hj).1
      · exact hau j (hxa j hj)) hU
    rw [size_disj (lt64 h hdl) hx hdis] at h1
    have h2 := size_diff (lt64 h hb) hnl (fun j hj => ((hnb j).1 hj).1)
    omega
  obtain ⟨f, p, q⟩ := hall (fun i j => (ball net i).testBit j) 6 a b (lt64 h ha) (lt64 h hb) (size_le a) key
  exact ⟨f, p, q⟩
theorem size_one {k : Nat} (hk : k < 6) : size (2 ^ k) = 1 := by
  have := size_add (s := 0) (k := k) (by omega) hk (Nat.zero_testBit k)
  rw [Nat.zero_or] at this
  rw [this]; decide
/-- Within any set of places: a family with no more guards than are apart in it. -/
theorem family {net : List Int} (h : Ok net) : ∀ c u, size u ≤ c → u < 2 ^ net.length → ∀ m, (∀ x, x < 2 ^ net.length → (∀ j, x.testBit j = true → u.testBit j = true) → Apart net x → size x ≤ m) →
    ∃ F : Nat → Prop, (∃ s, F s) ∧ (∀ t, F t → t < 2 ^ net.length ∧ (∀ j, t.testBit j = true → u.testBit j = true) ∧ size t ≤ m) ∧
      ∀ t, F t → ∀ k, u.testBit k = true → t.testBit k = false → ∃ v, v.testBit k = true ∧ AllMove net t v ∧ F v := by
  have h6 := h.hi
  intro c
  induction c with
  | zero =>
    intro u hc hu m hm
    have hu0 := size_zero (lt64 h hu) (by omega)
    subst hu0
    refine ⟨fun t => t = 0, ⟨0, rfl⟩, fun t ht => ?_, fun t _ k hk => by rw [Nat.zero_testBit] at hk; cases hk⟩
    subst ht
    have : size 0 = 0 := by decide
    exact ⟨hu, fun j hj => hj, by omega⟩
  | succ c ih =>
    intro u hc hu m hm
    -- the most that are apart in u
    have hmx : ∃ M, M ≤ m ∧ (∃ x, x < 2 ^ net.length ∧ (∀ j, x.testBit j = true → u.testBit j = true) ∧ Apart net x ∧ size x = M) ∧ ∀ x, x < 2 ^ net.length → (∀ j, x.testBit j = true → u.testBit j = true) → Apart net x → size x ≤ M := by
      have hex : ∀ d, d ≤ m → (∃ x, x < 2 ^ net.length ∧ (∀ j, x.testBit j = true → u.testBit j = true) ∧ Apart net x ∧ m - d ≤ size x) → ∃ M, M ≤ m ∧ (∃ x, x < 2 ^ net.length ∧ (∀ j, x.testBit j = true → u.testBit j = true) ∧ Apart net x ∧ size x = M) ∧ ∀ x, x < 2 ^ net.length → (∀ j, x.testBit j = true → u.testBit j = true) → Apart net x → size x ≤ M := by
        intro d
        induction d with
        | zero =>
          rintro _ ⟨x, a, b, e, f⟩
          have := hm x a b e
          exact ⟨m, Nat.le_refl _, ⟨x, a, b, e, by omega⟩, hm⟩
        | succ d ihd =>
          rintro hd ⟨x, a, b, e, f⟩
          by_cases hy : ∃ y, y < 2 ^ net.length ∧ (∀ j, y.testBit j = true → u.testBit j = true) ∧ Apart net y ∧ m - d ≤ size y
          · exact ihd (by omega) hy
          · have hno : ∀ y, y < 2 ^ net.length → (∀ j, y.testBit j = true → u.testBit j = true) → Apart net y → size y ≤ m - (d + 1) := fun y p q r => by
              refine Classical.byContradiction fun hlt => hy ⟨y, p, q, r, by omega⟩
            have := hno x a b e
            exact ⟨m - (d + 1), by omega, ⟨x, a, b, e, by omega⟩, hno⟩
      refine hex m (Nat.le_refl _) ⟨0, Nat.two_pow_pos _, fun j hj => (by rw [Nat.zero_testBit] at hj; cases hj), Apart.zero net, by omega⟩
    obtain ⟨M, hMm, ⟨x0, x0l, x0u, x0A, x0z⟩, hM⟩ := hmx
    by_cases hcov : ∀ v, u.testBit v = true → ∃ x, x < 2 ^ net.length ∧ (∀ j, x.testBit j = true → u.testBit j = true) ∧ Apart net x ∧ size x = M ∧ x.testBit v = true
    · -- all largest apart sets
      refine ⟨fun t => t < 2 ^ net.length ∧ (∀ j, t.testBit j = true → u.testBit j = true) ∧ Apart net t ∧ size t = M, ⟨x0, x0l, x0u, x0A, x0z⟩, fun t ⟨a, b, _, d⟩ => ⟨a, b, by omega⟩, fun t ⟨a, b, e, d⟩ k hk hb => ?_⟩
      obtain ⟨y, y1, y2, y3, y4, y5⟩ := hcov k hk
      exact ⟨y, y5, allMove_apart h hu hM a b e d y1 y2 y3 y4, y1, y2, y3, y4⟩
    · -- a place that is in none: it and its neighbours take two
      have : ∃ v, u.testBit v = true ∧ ∀ x, x < 2 ^ net.length → (∀ j, x.testBit j = true → u.testBit j = true) → Apart net x → x.testBit v = true → size x + 1 ≤ M := by
        refine Classical.byContradiction fun hno => hcov fun v hv => Classical.byContradiction fun hno2 => hno ⟨v, hv, fun x p q r s => ?_⟩
        have h1 := hM x p q r
        refine Classical.byContradiction fun hlt => hno2 ⟨x, p, q, r, by omega, s⟩
      obtain ⟨v, hv, hvn⟩ := this
      have hvl := in_lt hu hv
      have hbl := h.ball_lt hvl
      have hul : minus u (ball net v) < 2 ^ net.length := Nat.lt_of_le_of_lt Nat.and_le_left hu
      have hub : ∀ j, (minus u (ball net v)).testBit j = true ↔ u.testBit j = true ∧ (ball net v).testBit j = false := fun j => diff_testBit (lt64 h hu) (lt64 h hbl) j
      -- fewer are apart there
      have hless : ∀ x, x < 2 ^ net.length → (∀ j, x.testBit j = true → (minus u (ball net v)).testBit j = true) → Apart net x → size x + 2 ≤ M := fun x p q r => by
        have hxv : x.testBit v = false := not_true fun hcc => by
          have := ((hub v).1 (q v hcc)).2
          rw [sees_self] at this; cases this
        have hA := r.add h p hvl (fun j hj => not_true fun hcc => by
          have := ((hub j).1 (q j hj)).2
          rw [(ball_testBit _ _ _).2 (.inl hcc)] at this; cases this)
        have h1 := hvn (x ||| 2 ^ v) (or_lt p hvl) (fun j hj => by
          rcases (or_testBit _ _ _).1 hj with hj | rfl
          · exact ((hub j).1 (q j hj)).1
          · exact hv) hA ((or_testBit _ _ _).2 (.inr rfl))
        rw [size_add (lt64 h p) (by omega) hxv] at h1
        omega
      have hM2 : 2 ≤ M := by
        have := hless 0 (Nat.two_pow_pos _) (fun j hj => by rw [Nat.zero_testBit] at hj; cases hj) (Apart.zero net)
        omega
      -- a neighbour in u
      have hnbr : ∃ y, u.testBit y = true ∧ (nb net v).testBit y = true := by
        refine Classical.byContradiction fun hno => ?_
        have hA := x0A.add h x0l hvl (fun j hj => not_true fun hcc => hno ⟨j, x0u j hj, hcc⟩)
        have h1 := hvn (x0 ||| 2 ^ v) (or_lt x0l hvl) (fun j hj => by
          rcases (or_testBit _ _ _).1 hj with hj | rfl
          · exact x0u j hj
          · exact hv) hA ((or_testBit _ _ _).2 (.inr rfl))
        have h2 : size x0 ≤ size (x0 ||| 2 ^ v) := size_mono6 (lt64 h x0l) (lt64 h (or_lt x0l hvl)) fun j hj => (or_testBit _ _ _).2 (.inl hj)
        omega
      obtain ⟨y0, hy0u, hy0⟩ := hnbr
      have hsz : size (minus u (ball net v)) ≤ c := by
        have h1 : size (minus u (ball net v)) + 1 ≤ size u := by
          have hvb : (minus u (ball net v)).testBit v = false := not_true fun hcc => by
            have := ((hub v).1 hcc).2
            rw [sees_self] at this; cases this
          rw [← size_add (lt64 h hul) (k := v) (by omega) hvb]
          refine size_mono6 (lt64 h (or_lt hul hvl)) (lt64 h hu) fun j hj => ?_
          rcases (or_testBit _ _ _).1 hj with hj | rfl
          · exact ((hub j).1 hj).1
          · exact hv
        omega
      obtain ⟨F, ⟨s0, hs0⟩, hF, hcl⟩ := ih (minus u (ball net v)) hsz hul (M - 2) (fun x p q r => by have := hless x p q r; omega)
      -- the pairs of the place and a neighbour
      have pl : ∀ y, y < net.length → 2 ^ v ||| 2 ^ y < 2 ^ net.length := fun y hy => or_lt (Nat.pow_lt_pow_right (by omega) hvl) hy
      have pb : ∀ y j, (2 ^ v ||| 2 ^ y).testBit j = true ↔ j = v ∨ j = y := fun y j => by
        rw [or_testBit, testBit_pow, decide_eq_true_eq]
        exact ⟨fun hh => hh.elim (fun e => .inl e.symm) .inr, fun hh => hh.elim (fun e => .inl e.symm) .inr⟩
      have pz : ∀ y, y < net.length → y ≠ v → size (2 ^ v ||| 2 ^ y) = 2 := fun y hy hne => by
        have hpv : 2 ^ v < 64 := lt64 h (Nat.pow_lt_pow_right (by omega) hvl)
        rw [size_add hpv (by omega) (by rw [testBit_pow]; simp; omega), size_one (by omega)]
      have yne : ∀ y, (nb net v).testBit y = true → y ≠ v := fun y hy he => by rw [he, h.irr v hvl] at hy; cases hy
      have apart2 : ∀ t, F t → ∀ y, (nb net v).testBit y = true → ∀ j, t.testBit j = true → (2 ^ v ||| 2 ^ y).testBit j = false := fun t ht y hy j hj => not_true fun hcc => by
        have h1 := ((hub j).1 ((hF t ht).2.1 j hj)).2
        rcases (pb y j).1 hcc with e | e
        · rw [e, sees_self] at h1; cases h1
        · rw [e, (ball_testBit _ _ _).2 (.inl hy)] at h1; cases h1
      refine ⟨fun q => ∃ t y, F t ∧ u.testBit y = true ∧ (nb net v).testBit y = true ∧ q = t ||| (2 ^ v ||| 2 ^ y), ⟨_, s0, y0, hs0, hy0u, hy0, rfl⟩, ?_, ?_⟩
      · rintro _ ⟨t, y, ht, hyu, hy, rfl⟩
        obtain ⟨t1, t2, t3⟩ := hF t ht
        have hyl := h.nb_lt hvl hy
        refine ⟨Nat.or_lt_two_pow t1 (pl y hyl), fun j hj => ?_, ?_⟩
        · rcases (or2 _ _ _).1 hj with hj | hj
          · exact ((hub j).1 (t2 j hj)).1
          · rcases (pb y j).1 hj with e | e
            · rw [e]; exact hv
            · rw [e]; exact hyu
        · rw [size_disj (lt64 h t1) (lt64 h (pl y hyl)) (apart2 t ht y hy), pz y hyl (yne y hy)]; omega
      · rintro _ ⟨t, y, ht, hyu, hy, rfl⟩ k hk hb
        obtain ⟨t1, t2, t3⟩ := hF t ht
        have hyl := h.nb_lt hvl hy
        have hkl := in_lt hu hk
        cases hkb : (ball net v).testBit k with
        | false =>
          -- the others answer
          have htk : t.testBit k = false := not_true fun hcc => by rw [(or2 _ _ _).2 (.inl hcc)] at hb; cases hb
          obtain ⟨w, w1, w2, w3⟩ := hcl t ht k ((hub k).2 ⟨hk, hkb⟩) htk
          exact ⟨w ||| (2 ^ v ||| 2 ^ y), (or2 _ _ _).2 (.inl w1), allMove_union h t1 (hF w w3).1 (pl y hyl) (apart2 t ht y hy) (apart2 w w3 y hy) (pl y hyl) (apart2 w w3 y hy) w2 (allMove_refl net _), w, y, w3, hyu, hy, rfl⟩
        | true =>
          -- the two of them answer
          have hkv : k ≠ v := fun he => by rw [he, (or2 _ _ _).2 (.inr ((pb y v).2 (.inl rfl)))] at hb; cases hb
          have hky : k ≠ y := fun he => by rw [he, (or2 _ _ _).2 (.inr ((pb y y).2 (.inr rfl)))] at hb; cases hb
          have hkn : (nb net v).testBit k = true := by
            rcases (ball_testBit _ _ _).1 hkb with e | e
            · exact e
            · exact absurd e.symm hkv
          have hmv : AllMove net (2 ^ v ||| 2 ^ y) (2 ^ v ||| 2 ^ k) := by
            refine ⟨by rw [pz y hyl (yne y hy), pz k hkl hkv], fun i => if i = y then v else k, fun i hi => ?_, fun i j hi hj he => ?_⟩
            · by_cases hiy : i = y
              · simp only [hiy, if_true]
                exact ⟨(pb k v).2 (.inl rfl), (ball_testBit _ _ _).2 (.inl (by rw [h.sym v y hvl hyl]; exact hy))⟩
              · simp only [hiy, if_false]
                have hiv : i = v := by
                  rcases (pb y i).1 hi with e | e
                  · exact e
                  · exact absurd e hiy
                rw [hiv]
                exact ⟨(pb k k).2 (.inr rfl), (ball_testBit _ _ _).2 (.inl hkn)⟩
            · by_cases hiy : i = y <;> by_cases hjy : j = y
              · rw [hiy, hjy]
              · simp only [hiy, hjy, if_true, if_false] at he; exact absurd he.symm hkv
              · simp only [hiy, hjy, if_true, if_false] at he; exact absurd he hkv
              · rcases (pb y i).1 hi with e | e
                · rcases (pb y j).1 hj with e2 | e2
                  · rw [e, e2]
                  · exact absurd e2 hjy
                · exact absurd e hiy
          exact ⟨t ||| (2 ^ v ||| 2 ^ k), (or2 _ _ _).2 (.inr ((pb k k).2 (.inr rfl))), allMove_union h t1 t1 (pl y hyl) (apart2 t ht y hy) (apart2 t ht y hy) (pl k hkl) (apart2 t ht k hkn) (allMove_refl net _) hmv, t, k, ht, hk, hkn, rfl⟩
/-- Where all move it takes no more than are apart. -/
theorem allEternal_upper {net : List Int} (h : Ok net) {m : Nat} (hm : MaxOf net (apart net) m) : ∃ s, s < 2 ^ net.length ∧ AllEternal net s ∧ size s ≤ m := by
  obtain ⟨F, ⟨s, hs⟩, hF, hcl⟩ := family h 6 (allOf net) (size_le _) (allOf_lt net) m (fun x hx _ hA => hm.le x hx ((apart_iff hx).2 hA))
  refine ⟨s, (hF s hs).1, ⟨F, fun t ht hFt k hk hb => ?_, hs⟩, (hF s hs).2.2⟩
  obtain ⟨u, a, b, c⟩ := hcl t hFt k (by rw [allOf_testBit]; simpa using hk) hb
  exact ⟨u, (hF u c).1, a, b, c⟩
end Go.Proofs.Ythcidiihfjjpdaa
/- The model's functions of chapter 10 in natural numbers. Conditions: those of each theorem. -/
namespace Go.Proofs.Ythcidiihfjjpdaa
open D Go.RowKit
set_option linter.unusedVariables false
set_option linter.unusedSimpArgs false


/-- The guards from a place on fit into a set. -/
def FitP (net : List Int) (f a l : Nat) : Prop := ∃ g : Nat → Nat, (∀ i, a ≤ i → f.testBit i = true → l.testBit (g i) = true ∧ (ball net i).testBit (g i) = true) ∧ ∀ i j, a ≤ i → a ≤ j → f.testBit i = true → f.testBit j = true → g i = g j → i = j
noncomputable def fitB (net : List Int) (f a l : Nat) : Bool := @decide (FitP net f a l) (Classical.propDecidable _)
theorem fitB_iff {net : List Int} {f a l : Nat} : fitB net f a l = true ↔ FitP net f a l := by unfold fitB; exact @decide_eq_true_iff _ (Classical.propDecidable _)
theorem fit_skip {net : List Int} {f a b l : Nat} (hab : a ≤ b) (hno : ∀ i, a ≤ i → i < b → f.testBit i = false) : FitP net f a l ↔ FitP net f b l := by
  have up : ∀ i, a ≤ i → f.testBit i = true → b ≤ i := fun i hi hb => by
    rcases Nat.lt_or_ge i b with h | h
    · rw [hno i hi h] at hb; cases hb
    · exact h
  constructor
  · rintro ⟨g, h1, h2⟩
    exact ⟨g, fun i hi hb => h1 i (by omega) hb, fun i j hi hj a b c => h2 i j (by omega) (by omega) a b c⟩
  · rintro ⟨g, h1, h2⟩
    exact ⟨g, fun i hi hb => h1 i (up i hi hb) hb, fun i j hi hj a b c => h2 i j (up i hi a) (up j hj b) a b c⟩
theorem fit_end {net : List Int} {f a l : Nat} (hno : ∀ i, a ≤ i → f.testBit i = false) : FitP net f a l :=
  ⟨fun i => i, fun i hi hb => (by rw [hno i hi] at hb; cases hb), fun i j _ _ _ _ he => he⟩
theorem fit_one {net : List Int} (h : Ok net) {f a l : Nat} (ha : a < net.length) (hb : f.testBit a = true) (hl : l < 2 ^ net.length) :
    FitP net f a l ↔ ∃ k, k < net.length ∧ ((ball net a) &&& l).testBit k = true ∧ FitP net f (a + 1) (minus l (2 ^ k)) := by
  have h6 := h.hi
  have hl64 := lt64 h hl
  have hm : ∀ k, k < net.length → ∀ j, (minus l (2 ^ k)).testBit j = true ↔ l.testBit j = true ∧ j ≠ k := fun k hk j => by
    have h1 : 2 ^ k < 2 ^ 6 := Nat.pow_lt_pow_right (by omega) (by omega)
    rw [minus_testBit _ _ (by omega) (by omega), Nat.testBit_two_pow, Bool.and_eq_true, Bool.not_eq_true', decide_eq_false_iff_not]
    constructor
    · rintro ⟨x, y⟩; exact ⟨x, fun e => y e.symm⟩
    · rintro ⟨x, y⟩; exact ⟨x, fun e => y e.symm⟩
  constructor
  · rintro ⟨g, h1, h2⟩
    obtain ⟨x, y⟩ := h1 a (Nat.le_refl _) hb
    refine ⟨g a, in_lt hl x, by rw [Nat.testBit_and, x, y]; rfl, g, fun i hi hbi => ?_, fun i j hi hj p q e => h2 i j (by omega) (by omega) p q e⟩
    obtain ⟨p, q⟩ := h1 i (by omega) hbi
    refine ⟨(hm _ (in_lt hl x) _).2 ⟨p, fun e => ?_⟩, q⟩
    have := h2 i a (by omega) (Nat.le_refl _) hbi hb e
    omega
  · rintro ⟨k, hk, hkb, g, h1, h2⟩
    rw [Nat.testBit_and, Bool.and_eq_true] at hkb
    refine ⟨fun i => if i = a then k else g i, fun i hi hbi => ?_, fun i j hi hj p q e => ?_⟩
    · by_cases he : i = a
      · subst he; simp only [if_true]; exact ⟨hkb.2, hkb.1⟩
      · simp only [if_neg he]
        obtain ⟨x, y⟩ := h1 i (by omega) hbi
        exact ⟨((hm k hk _).1 x).1, y⟩
    · by_cases hi2 : i = a <;> by_cases hj2 : j = a
      · omega
      · simp only [hi2, if_true, if_neg hj2] at e
        have := (h1 j (by omega) q).1
        rw [hm k hk] at this
        exact absurd e.symm this.2
      · simp only [hj2, if_true, if_neg hi2] at e
        have := (h1 i (by omega) p).1
        rw [hm k hk] at this
        exact absurd e this.2
      · simp only [if_neg hi2, if_neg hj2] at e
        exact h2 i j (by omega) (by omega) p q e
theorem fit_allMove {net : List Int} {a b : Nat} : AllMove net a b ↔ size a = size b ∧ FitP net a 0 b := by
  unfold AllMove FitP
  refine and_congr Iff.rfl ⟨fun ⟨g, h1, h2⟩ => ⟨g, fun i _ hi => h1 i hi, fun i j _ _ => h2 i j⟩, fun ⟨g, h1, h2⟩ => ⟨g, fun i hi => h1 i (Nat.zero_le _) hi, fun i j => h2 i j (Nat.zero_le _) (Nat.zero_le _)⟩⟩
noncomputable def allMoveB (net : List Int) (a b : Nat) : Bool := size a == size b && fitB net a 0 b
theorem allMoveB_iff {net : List Int} {a b : Nat} : allMoveB net a b = true ↔ AllMove net a b := by
  unfold allMoveB
  rw [Bool.and_eq_true, beq_iff_eq, fitB_iff, fit_allMove]
def ansAP (net : List Int) (l : List Bool) (fit : Nat → Bool) (s p u : Nat) : Bool := D.elb l u && (u.testBit p && (size u == size s && fit u))
noncomputable def ansA (net : List Int) (l : List Bool) (s p : Nat) : Int := (find (2 ^ net.length) (fun u => if ansAP net l (fitB net s 0) s p u = true then some (u : Int) else none)).getD (-1)
theorem ansA_cases (net : List Int) (l : List Bool) (s p : Nat) : (ansA net l s p = -1 ∧ ∀ u, u < 2 ^ net.length → ansAP net l (fitB net s 0) s p u = false) ∨ ∃ u : Nat, u < 2 ^ net.length ∧ ansA net l s p = (u : Int) ∧ ansAP net l (fitB net s 0) s p u = true := by
  unfold ansA
  cases hf : find (2 ^ net.length) (fun u => if ansAP net l (fitB net s 0) s p u = true then some (u : Int) else none) with
  | none =>
    refine .inl ⟨rfl, fun u hu => not_true fun hc => ?_⟩
    have := find_none.1 hf u hu
    rw [if_pos hc] at this; cases this
  | some r =>
    obtain ⟨u, hu, he⟩ := find_some_ex hf
    right
    by_cases hc : ansAP net l (fitB net s 0) s p u = true
    · rw [if_pos hc] at he; injection he with he; exact ⟨u, hu, he.symm, hc⟩
    · rw [if_neg hc] at he; cases he
theorem ansAP_iff {net : List Int} {l : List Bool} {s p u : Nat} : ansAP net l (fitB net s 0) s p u = true ↔ D.elb l u = true ∧ u.testBit p = true ∧ AllMove net s u := by
  unfold ansAP
  rw [Bool.and_eq_true, Bool.and_eq_true, Bool.and_eq_true, beq_iff_eq, fitB_iff, fit_allMove]
  exact and_congr Iff.rfl (and_congr Iff.rfl (and_congr ⟨fun e => e.symm, fun e => e.symm⟩ Iff.rfl))
noncomputable def badA (net : List Int) (l : List Bool) (s k : Nat) : Bool := !s.testBit k && decide (ansA net l s k < 0)
noncomputable def holdsA (net : List Int) (l : List Bool) (s : Nat) : Bool := !((List.range net.length).any (badA net l s))
noncomputable def inStep (net : List Int) (s : Nat) (t : Bool × List Bool) (k : Nat) : Bool × List Bool := if (D.elb t.2 s && badA net t.2 s k) = true then (true, t.2.set s false) else t
theorem inStep_fold {net : List Int} {s : Nat} {t : Bool × List Bool} (hs : s < t.2.length) (N : Nat) :
    fold N (inStep net s) t = if (D.elb t.2 s && (List.range N).any (badA net t.2 s)) = true then (true, t.2.set s false) else t := by
  induction N with
  | zero => simp [fold_zero]
  | succ N ih =>
    rw [fold_succ, ih, List.range_succ, List.any_append, List.any_cons, List.any_nil, Bool.or_false]
    cases hb : D.elb t.2 s with
    | false => simp [inStep, hb]
    | true =>
      cases ha : (List.range N).any (badA net t.2 s) with
      | true =>
        simp only [Bool.true_and, Bool.true_or, if_true]
        unfold inStep
        have : D.elb (t.2.set s false) s = false := by rw [elb_set hs, if_pos rfl]
        simp [this]
      | false =>
        simp only [Bool.true_and, Bool.false_or, Bool.false_eq_true, if_false]
        unfold inStep
        rw [hb, Bool.true_and]
theorem inStep_sweep {net : List Int} {s : Nat} {t : Bool × List Bool} (hs : s < t.2.length) : fold net.length (inStep net s) t = sweepStep (holdsA net) t s := by
  rw [inStep_fold hs]
  unfold sweepStep holdsA
  rw [Bool.not_not]
noncomputable def allEternalB (net : List Int) (s : Nat) : Bool := @decide (AllEternal net s) (Classical.propDecidable _)
theorem allEternalB_iff {net : List Int} {s : Nat} : allEternalB net s = true ↔ AllEternal net s := by unfold allEternalB; exact @decide_eq_true_iff _ (Classical.propDecidable _)
noncomputable def lastsA (net : List Int) : List Bool := (List.range (2 ^ net.length)).map (allEternalB net)
theorem lastsA_len (net : List Int) : (lastsA net).length = 2 ^ net.length := by simp [lastsA]
theorem lastsA_elb {net : List Int} {s : Nat} (hs : s < 2 ^ net.length) : D.elb (lastsA net) s = allEternalB net s := by unfold D.elb lastsA; simp [List.getD, hs]
theorem holdsA_eternal {net : List Int} (m : List Bool) (hin : ∀ s, s < 2 ^ net.length → AllEternal net s → D.elb m s = true) : ∀ s, s < 2 ^ net.length → AllEternal net s → holdsA net m s = true := by
  intro s hs he
  unfold holdsA
  rw [Bool.not_eq_true', List.any_eq_false]
  intro k hk
  have hk := List.mem_range.1 hk
  unfold badA
  cases hb : s.testBit k with
  | true => simp
  | false =>
    obtain ⟨u, a, b, c, d⟩ := allEternal_closed net s hs he k hk hb
    rcases ansA_cases net m s k with ⟨_, hno⟩ | ⟨g, _, hg, _⟩
    · have := hno u a
      rw [ansAP_iff.2 ⟨hin u a d, b, c⟩] at this
      cases this
    · rw [hg, decide_eq_false (by omega)]; simp
theorem stableA_eternal {net : List Int} {m : List Bool} (hst : ∀ s, s < 2 ^ net.length → D.elb m s = true → holdsA net m s = true) : ∀ s, s < 2 ^ net.length → D.elb m s = true → AllEternal net s := by
  intro s hs hb
  refine ⟨fun q => q < 2 ^ net.length ∧ D.elb m q = true, fun t ht ⟨_, htm⟩ k hk hb => ?_, hs, hb⟩
  have := hst t ht htm
  unfold holdsA at this
  rw [Bool.not_eq_true', List.any_eq_false] at this
  have := this k (List.mem_range.2 hk)
  unfold badA at this
  rw [hb] at this
  rcases ansA_cases net m t k with ⟨hn, _⟩ | ⟨u, hu, hg, hP⟩
  · rw [hn] at this; exact absurd rfl this
  · obtain ⟨x, y, z⟩ := ansAP_iff.1 hP
    exact ⟨u, hu, y, z, hu, x⟩
theorem allEternal_all (net : List Int) (h : Ok net) : AllEternal net (allOf net) := eternal_allEternal h (allOf_lt net) eternal_all
noncomputable def fewestAllEternal (net : List Int) : Nat := minSize net (allEternalB net)
theorem fewestAllEternal_min {net : List Int} (h : Ok net) : MinOf net (allEternalB net) (fewestAllEternal net) := minSize_is h ⟨allOf net, allOf_lt net, allEternalB_iff.2 (allEternal_all net h)⟩
/-- The answer of a set that all can keep up. -/
noncomputable def allAnswerI (net : List Int) (s p : Int) : Int := if (0 ≤ s ∧ s < 2 ^ net.length) ∧ (0 ≤ p ∧ p < net.length) ∧ allEternalB net s.toNat = true ∧ s.toNat.testBit p.toNat = false then ansA net (lastsA net) s.toNat p.toNat else -1
theorem allAnswerI_is {net : List Int} (h : Ok net) {s p : Nat} (hs : s < 2 ^ net.length) (hp : p < net.length) (he : AllEternal net s) (hb : s.testBit p = false) :
    ∃ u : Nat, u < 2 ^ net.length ∧ allAnswerI net s p = (u : Int) ∧ u.testBit p = true ∧ AllMove net s u ∧ AllEternal net u := by
  have e1 : allAnswerI net s p = ansA net (lastsA net) s p := by
    unfold allAnswerI
    rw [if_pos ⟨⟨by omega, by have : (s : Int) < ((2 ^ net.length : Nat) : Int) := by omega
                              simpa using this⟩, ⟨by omega, by omega⟩, by rw [Int.toNat_natCast]; exact allEternalB_iff.2 he, by simpa using hb⟩]
    simp only [Int.toNat_natCast]
  rw [e1]
  rcases ansA_cases net (lastsA net) s p with ⟨_, hno⟩ | ⟨u, hu, hg, hP⟩
  · exfalso
    obtain ⟨u, a, b, c, d⟩ := allEternal_closed net s hs he p hp hb
    have := hno u a
    rw [ansAP_iff.2 ⟨by rw [lastsA_elb a]; exact allEternalB_iff.2 d, b, c⟩] at this
    cases this
  · obtain ⟨x, y, z⟩ := ansAP_iff.1 hP
    rw [lastsA_elb hu, allEternalB_iff] at x
    exact ⟨u, hu, hg, y, z, x⟩
end Go.Proofs.Ythcidiihfjjpdaa
/- Other ways to the sets and numbers of chapters 3 to 5. Conditions: those of each theorem. -/
namespace Go.Proofs.Ythcidiihfjjpdaa
set_option linter.unusedVariables false
set_option linter.unusedSimpArgs false

theorem minus_twice {net : List Int} (h : Ok net) {s g : Nat} (hs : s < 2 ^ net.length) (hg : s.testBit g = true) : minus (ball net g) (twice net s) = priv net s g := by
  have h6 := h.hi
  have h64 := h.pow
  have hb := h.ball_lt (in_lt hs hg)
  have ht := twice_is h hs
  have htl := ht.lt
  refine Nat.eq_of_testBit_eq fun j => ?_
  rw [Bool.eq_iff_iff, minus_testBit _ _ (by omega) (by omega), Bool.and_eq_true, Bool.not_eq_true', priv_testBit h hs hg]
  constructor
  · rintro ⟨a, b⟩
    refine ⟨a, fun i hi hb2 => Classical.byContradiction fun hne => ?_⟩
    rw [(ht.bit j).2 ⟨i, g, hi, hg, hne, hb2, a⟩] at b; cases b
  · rintro ⟨a, b⟩
    refine ⟨a, not_true fun hc => ?_⟩
    obtain ⟨x, y, hx, hy, hxy, hbx, hby⟩ := (ht.bit j).1 hc
    exact hxy ((b x hx hbx).trans (b y hy hby).symm)
theorem fullA_watch {net : List Int} (h : Ok net) {s : Nat} (hs : s < 2 ^ net.length) : fullA net s = (apart net s && W net s) := by
  rw [Bool.eq_iff_iff, fullA_iff h hs, Bool.and_eq_true, apart_iff hs]
theorem fold_near (net : List Int) (s : Nat) : fold net.length (fun t k => if s.testBit k = true then t ||| nb net k else t) 0 = near net s := rfl
/-- One step of growing, told by the set with the place. -/
theorem grownStep_apart {net : List Int} (h : Ok net) {t k : Nat} (ht : t < 2 ^ net.length) (hk : k < net.length) (ha : Apart net t) : (if apart net (t ||| 2 ^ k) = true then t ||| 2 ^ k else t) = grownStep net t k := by
  unfold grownStep
  cases hb : t.testBit k with
  | true =>
    have e : t ||| 2 ^ k = t := Nat.eq_of_testBit_eq fun j => by
      rw [Bool.eq_iff_iff, or_testBit]
      exact ⟨fun a => a.elim id fun b => by rw [b]; exact hb, .inl⟩
    rw [e]; simp
  | false =>
    rw [Bool.not_false, Bool.true_and]
    congr 1
    rw [eq_iff_iff, beq_iff_eq, and_zero, apart_iff (or_lt ht hk)]
    constructor
    · intro hA i hi
      exact hA k i ((or_testBit _ _ _).2 (.inr rfl)) ((or_testBit _ _ _).2 (.inl hi))
    · exact fun hn => ha.add h ht hk hn
theorem grownStep_keeps {net : List Int} (h : Ok net) {t k : Nat} (ht : t < 2 ^ net.length) (hk : k < net.length) (ha : Apart net t) : Apart net (grownStep net t k) := by
  rw [← grownStep_apart h ht hk ha]
  split
  · rename_i hc; exact (apart_iff (or_lt ht hk)).1 hc
  · exact ha
def minStepN (p : Nat → Bool) (t s : Nat) : Nat := if p s = true then (if size s < t then size s else t) else t
def maxStepN (p : Nat → Bool) (t s : Nat) : Nat := if p s = true then (if size s > t then size s else t) else t
theorem minSize_fold (net : List Int) (p : Nat → Bool) : fold (2 ^ net.length) (minStepN p) net.length = minSize net p := rfl
theorem maxSize_fold (net : List Int) (p : Nat → Bool) : fold (2 ^ net.length) (maxStepN p) 0 = maxSize net p := rfl
theorem minStepN_lt {p : Nat → Bool} {t s : Nat} (hl : size s < t) : minStepN p t s = if p s = true then size s else t := by unfold minStepN; rw [if_pos hl]
theorem minStepN_ge {p : Nat → Bool} {t s : Nat} (hl : ¬ size s < t) : minStepN p t s = t := by unfold minStepN; rw [if_neg hl, ite_self]
theorem maxStepN_lt {p : Nat → Bool} {t s : Nat} (hl : size s > t) : maxStepN p t s = if p s = true then size s else t := by unfold maxStepN; rw [if_pos hl]
theorem maxStepN_ge {p : Nat → Bool} {t s : Nat} (hl : ¬ size s > t) : maxStepN p t s = t := by unfold maxStepN; rw [if_neg hl, ite_self]
theorem minStepN_le {p : Nat → Bool} {t s : Nat} (ht : t ≤ 6) : minStepN p t s ≤ 6 := by
  have := size_le s
  unfold minStepN; split
  · split <;> omega
  · exact ht
theorem maxStepN_le {p : Nat → Bool} {t s : Nat} (ht : t ≤ 6) : maxStepN p t s ≤ 6 := by
  have := size_le s
  unfold maxStepN; split
  · split <;> omega
  · exact ht
/-- Folds side by side. -/
theorem fold_pair {A B : Type} (f : A → Nat → A) (g : B → Nat → B) (n : Nat) (a : A) (b : B) : fold n (fun (q : A × B) k => (f q.1 k, g q.2 k)) (a, b) = (fold n f a, fold n g b) := by
  induction n with
  | zero => rfl
  | succ n ih => rw [fold_succ, fold_succ, fold_succ, ih]
end Go.Proofs.Ythcidiihfjjpdaa
/- The model's functions of chapter 13 in natural numbers: cliques and the other net. Conditions: those of each theorem. -/
namespace Go.Proofs.Ythcidiihfjjpdaa
open D Go.RowKit
set_option linter.unusedVariables false
set_option linter.unusedSimpArgs false


def cliqueB (net : List Int) (s : Nat) : Bool := (List.range net.length).all fun k => !(s.testBit k && (minus s (ball net k) != 0))
theorem cliqueB_iff {net : List Int} (h : Ok net) {s : Nat} (hs : s < 2 ^ net.length) : cliqueB net s = true ↔ Clique net s := by
  have h64 := h.pow
  unfold cliqueB Clique
  rw [List.all_eq_true]
  constructor
  · intro ha i j hi hj hne
    have := ha i (List.mem_range.2 (in_lt hs hi))
    rw [hi, Bool.true_and, Bool.not_eq_true', bne_eq_false_iff_eq] at this
    have hb := h.ball_lt (in_lt hs hi)
    have h0 : (minus s (ball net i)).testBit j = false := by rw [this]; simp
    rw [minus_testBit _ _ (by omega) (by omega), hj, Bool.true_and, Bool.not_eq_false', ball_testBit] at h0
    rcases h0 with h0 | h0
    · exact h0
    · exact absurd h0 hne
  · intro hc k hk
    have hk := List.mem_range.1 hk
    have hb := h.ball_lt hk
    cases hsk : s.testBit k with
    | false => rfl
    | true =>
      have : minus s (ball net k) = 0 := Nat.eq_of_testBit_eq fun j => by
        rw [minus_testBit _ _ (by omega) (by omega), Nat.zero_testBit]
        cases hj : s.testBit j with
        | false => rfl
        | true =>
          rw [Bool.true_and, Bool.not_eq_false', ball_testBit]
          by_cases he : k = j
          · exact .inr he
          · exact .inl (hc k j hsk hj he)
      rw [this]; rfl
theorem S.l13Set_n {r : List Nat} (hr : r.length ≤ 7) (v : Nat) : S.l13Set_t (nl r) (v : Int) = some ((setL r v : Nat) : Int) := by
  unfold S.l13Set_t S.l13Set_tree
  have hl := nl_len r
  have h7 : (2 : Nat) ^ r.length ≤ 2 ^ 7 := Nat.pow_le_pow_right (by omega) hr
  have := (run_for (run := S.l13Set_run3 (nl r) v) (len := r.length) (fun k (t : Nat) => ((t : Int), (k : Int))) (fun t k => if decide (r.getD k 0 = v) = true then t ||| 2 ^ k else t) (fun t => (t : Int)) (fun k t => t < 2 ^ r.length) (by omega) (fun f k t hk ht => ?_) (fun f t ht => ?_) (t0 := 0) (Nat.two_pow_pos _)).1
  · exact congrArg (fun o => optC o (fun q => some q) none) this
  · have hpk : 2 ^ k < 2 ^ r.length := Nat.pow_lt_pow_right (by omega) hk
    simp only [S.l13Set_run3, S.l13Set_step3]
    rw [cnd_t (by simp; omega), cnd_t (by simp; omega), Int.toNat_natCast, nl_at hk, nat_beq, add1_nat (by omega)]
    by_cases hv : r.getD k 0 = v
    · rw [cnd_t (by simpa using hv), cnd_f (by simp), if_pos (by simpa using hv), show IntKind.i64.wrap (1 * 2 ^ min k IntKind.i64.bits) = ((2 ^ k : Nat) : Int) from one_shl (k := k) (by omega), i64_or_nat _ _ (by omega) (by omega)]
      exact ⟨rfl, Nat.or_lt_two_pow ht hpk⟩
    · rw [cnd_f (by simpa using hv), if_neg (by simpa using hv)]; exact ⟨rfl, ht⟩
  · simp only [S.l13Set_run3, S.l13Set_step3]
    rw [cnd_f (by simp; omega)]
/-- Does a list of numbers begin with a row that counts up? -/
def rgStep (row : List Int) (t k : Nat) : Unit ⊕ Nat := if 0 ≤ D.eli row k ∧ D.eli row k ≤ t then .inr (max t ((D.eli row k).toNat + 1)) else .inl ()
theorem rg_loop (row : List Int) : ∀ k, (∃ q : List Nat, q.length = k ∧ RG q ∧ (∀ j, j < k → D.eli row j = ((q.getD j 0 : Nat) : Int)) ∧ loopE k (rgStep row) 0 = .inr (nx q)) ∨
    (loopE k (rgStep row) 0 = .inl () ∧ ¬ ∃ q : List Nat, q.length = k ∧ RG q ∧ ∀ j, j < k → D.eli row j = ((q.getD j 0 : Nat) : Int)) := by
  intro k
  induction k with
  | zero => exact .inl ⟨[], rfl, RG.nil, fun j hj => by omega, rfl⟩
  | succ k ih =>
    rcases ih with ⟨q, h1, h2, h3, h4⟩ | ⟨h4, h5⟩
    · rw [loopE_succ h4]
      unfold rgStep
      by_cases hc : 0 ≤ D.eli row k ∧ D.eli row k ≤ ((nx q : Nat) : Int)
      · rw [if_pos hc]
        left
        refine ⟨q ++ [(D.eli row k).toNat], by simp [h1], RG_append.2 ⟨h2, by omega⟩, fun j hj => ?_, by rw [nx_append]⟩
        by_cases he : j < k
        · rw [getD_app_lt (by omega)]; exact h3 j he
        · obtain rfl : j = k := by omega
          rw [← h1, getD_app_end, h1]; omega
      · rw [if_neg hc]
        right
        refine ⟨rfl, ?_⟩
        rintro ⟨p, p1, p2, p3⟩
        apply hc
        -- p begins with q
        have hpq : p.take k = q := List.ext_getElem (by simp [p1, h1]) fun j a b => by
          simp only [List.length_take] at a
          have e1 := p3 j (by omega)
          have e2 := h3 j (by omega)
          have e3 : p.getD j 0 = p[j]'(by omega) := by simp [List.getD, show j < p.length by omega]
          have e4 : q.getD j 0 = q[j] := by simp [List.getD, b]
          rw [e3] at e1
          rw [e4] at e2
          rw [List.getElem_take]
          omega
        have e := p3 k (by omega)
        have := p2 k (by omega)
        rw [hpq] at this
        omega
    · right
      refine ⟨?_, fun ⟨q, q1, q2, q3⟩ => h5 ⟨q.take k, by simp [q1], q2.pre (List.take_prefix _ _), fun j hj => ?_⟩⟩
      · unfold loopE at h4 ⊢; rw [fold_succ, h4]
      · rw [q3 j (by omega)]
        congr 1
        simp [List.getD, List.getElem?_take, hj]
theorem row_is {row : List Int} {q : List Nat} (hl : q.length = row.length) (h : ∀ j, j < row.length → D.eli row j = ((q.getD j 0 : Nat) : Int)) : row = nl q := by
  refine List.ext_getElem (by rw [nl_len, hl]) fun j h1 h2 => ?_
  have a := h j h1
  rw [nl_len] at h2
  rw [← nl_at h2] at a
  unfold D.eli at a
  simpa [List.getD, h1, nl_len, h2] using a
noncomputable def crB (net row : List Int) : Bool := @decide (∃ q : List Nat, row = nl q ∧ q.length = net.length ∧ RG q ∧ CliqueL net q) (Classical.propDecidable _)
theorem crB_iff {net row : List Int} : crB net row = true ↔ ∃ q : List Nat, row = nl q ∧ q.length = net.length ∧ RG q ∧ CliqueL net q := by unfold crB; exact @decide_eq_true_iff _ (Classical.propDecidable _)
theorem crB_row {net : List Int} {q : List Nat} : crB net (nl q) = true ↔ q.length = net.length ∧ RG q ∧ CliqueL net q := by
  rw [crB_iff]
  exact ⟨fun ⟨p, e, h⟩ => by rw [nl_inj e]; exact h, fun h => ⟨q, rfl, h⟩⟩
/-- The row that a call hands back. -/
def outOf : (List Int) ⊕ ((List Int) × (List Int)) → List Int
  | .inl r => r
  | .inr p => p.2
def rowO : Option (List Nat) → List Int
  | none => []
  | some q => nl q
def findStep {Q : Type} (g : Nat → Option Q) (_ : Unit) (v : Nat) : Q ⊕ Unit := match g v with | some q => .inl q | none => .inr ()
theorem loopE_find {Q : Type} (g : Nat → Option Q) : ∀ b, (∃ q, find b g = some q ∧ loopE b (findStep g) () = .inl q) ∨ (find b g = none ∧ loopE b (findStep g) () = .inr ()) := by
  intro b
  induction b with
  | zero => exact .inr ⟨rfl, rfl⟩
  | succ b ih =>
    rcases ih with ⟨q, a1, a2⟩ | ⟨a1, a2⟩
    · refine .inl ⟨q, by rw [find_succ, a1]; rfl, ?_⟩
      unfold loopE at a2 ⊢; rw [fold_succ, a2]
    · rw [find_succ, a1, loopE_succ a2]
      unfold findStep
      cases g b with
      | some q => exact .inl ⟨q, rfl, rfl⟩
      | none => exact .inr ⟨rfl, rfl⟩
theorem getD_lt_nx {r : List Nat} {k : Nat} (hk : k < r.length) : r.getD k 0 < nx r := by
  have e : r.getD k 0 = r[k] := by simp [List.getD, hk]
  rw [e]; exact nx_gt (List.getElem_mem hk)
theorem rowO_len {net : List Int} {m : Nat} {r : List Nat} {q : Option (List Nat)} (h0 : 1 ≤ net.length) (hq : FirstExt (CRow net m) r q) : decide (((rowO q).length : Int) > 0) = q.isSome := by
  cases q with
  | none => rfl
  | some q =>
    have := hq.mem.2.len
    simp only [rowO, nl_len, Option.isSome_some, decide_eq_true_eq]
    omega
/-- The first row of a kind. -/
noncomputable def firstOf (P : List Nat → Prop) : List Nat := @dite _ (∃ q, IsFirst P q) (Classical.propDecidable _) (fun h => h.choose) (fun _ => [])
theorem firstOf_is {P : List Nat → Prop} {q : List Nat} (h : IsFirst P q) : firstOf P = q := by
  have he : ∃ q, IsFirst P q := ⟨q, h⟩
  unfold firstOf
  rw [dif_pos he]
  exact he.choose_spec.uniq h
noncomputable def clRow (net : List Int) : List Nat := firstOf (CRow net (fewestCl net))
theorem first_of_ext {P : List Nat → Prop} {q : List Nat} (h : FirstExt P [] (some q)) : IsFirst P q := ⟨h.mem.2, fun r hr => h.le r ⟨List.nil_prefix, hr⟩⟩
theorem minus_all_dec : ∀ n : Fin 7, ∀ b : Fin 64, b.val < 2 ^ n.val → minus (2 ^ n.val - 1) b.val = 2 ^ n.val - 1 - b.val := by decide +kernel
theorem or_pow_dec : ∀ b : Fin 64, ∀ k : Fin 6, b.val.testBit k.val = false → b.val ||| 2 ^ k.val = b.val + 2 ^ k.val := by decide +kernel
theorem other_num {net : List Int} (h : Ok net) {k : Nat} (hk : k < net.length) : nb net k + 2 ^ k ≤ allOf net ∧ allOf net - nb net k - 2 ^ k = minus (allOf net) (ball net k) := by
  have h6 := h.hi
  have hb := h.ball_lt hk
  have h64 := h.pow
  have e1 : ball net k = nb net k + 2 ^ k := or_pow_dec ⟨nb net k, h.lt64 hk⟩ ⟨k, by omega⟩ (h.irr k hk)
  have e2 : minus (allOf net) (ball net k) = allOf net - ball net k := minus_all_dec ⟨net.length, by omega⟩ ⟨ball net k, by omega⟩ hb
  rw [e2, e1]
  rw [e1] at hb
  unfold allOf
  omega
theorem S.OtherNet_x {net : List Int} (e : S.NetOk_t net = some false) : S.OtherNet_t net = some [] := by
  unfold S.OtherNet_t S.OtherNet_tree
  have hF := FUEL_le
  obtain ⟨n, hn⟩ : ∃ q, FUEL = q + 1 := ⟨FUEL - 1, by omega⟩
  rw [hn]
  simp only [S.OtherNet_run3, S.OtherNet_step3]
  rw [e]
  cases decide ((0 : Int) < ↑net.length) <;> rfl
theorem S.OtherNet_y {net : List Int} (h : Ok net) (e : S.NetOk_t net = some true) : S.OtherNet_t net = some (otherN net) := by
  have h6 := h.hi
  have h64 := h.pow
  unfold S.OtherNet_t S.OtherNet_tree
  have := (run_for (run := S.OtherNet_run3 net) (len := net.length) (fun k (t : Unit) => ((k : Int), (List.range k).map fun k => ((minus (allOf net) (ball net k) : Nat) : Int))) (fun t k => t) (fun t => otherN net) (fun k t => True) (by omega) (fun f k t hk ht => ?_) (fun f t ht => ?_) (t0 := ()) trivial).1
  · exact congrArg (fun o => optC o (fun q => some q) none) this
  · obtain ⟨hle, hnum⟩ := other_num h hk
    have hall := allOf_succ net
    have h2k : 2 ^ k < 2 ^ 6 := Nat.pow_lt_pow_right (by omega) (by omega)
    have h2p : 0 < 2 ^ k := Nat.two_pow_pos k
    simp only [S.OtherNet_run3, S.OtherNet_step3]
    rw [cnd_t (by simp; omega), e]
    simp only [optC, cond_true]
    rw [cnd_t (by simp; omega), cnd_f (by simp), all_shl h, one_shl (by omega), Int.toNat_natCast, h.eli hk, sub_nat (by omega) (by omega), sub_nat (by omega) (by omega), hnum, add1_nat (by omega),
      cnd_t (by simp [small]; omega)]
    refine ⟨?_, trivial⟩
    rw [List.range_succ, List.map_append]
    rfl
  · simp only [S.OtherNet_run3, S.OtherNet_step3]
    rw [cnd_f (by simp)]
    rfl
end Go.Proofs.Ythcidiihfjjpdaa
/- Rows of shares: plain facts. Conditions: those of each theorem. -/
namespace Go.Proofs.Ythcidiihfjjpdaa
open D Go.RowKit
set_option linter.unusedVariables false
set_option linter.unusedSimpArgs false

/-- A row of just so many shares. -/
structure SRow (net : List Int) (m : Nat) (q : List Nat) : Prop where
  len : q.length = net.length
  rg : RG q
  eq : nx q = m
  wa : ∀ v, v < m → W net (setL q v) = true
theorem watch_balls {net : List Int} (h : Ok net) {s : Nat} (hs : s < 2 ^ net.length) : W net s = true ↔ ∀ j, j < net.length → ∃ i, i < net.length ∧ s.testBit i = true ∧ (ball net j).testBit i = true := by
  rw [W_iff h hs]
  refine forall_congr' fun j => forall_congr' fun hj => (seen_balls h hs).trans (exists_congr fun i => and_congr_right fun hi => and_congr_right fun _ => ?_)
  rw [sees_symm h hi hj]
theorem srow_of {net : List Int} (h : Ok net) {m : Nat} (hm : InShares net m) : ∃ q, SRow net m q := by
  obtain ⟨c, hc, hw⟩ := hm
  obtain ⟨q, h1, h2, h3⟩ := renumber c net.length
  have hle : nx q ≤ m := nx_le_of (c := c) h2 (fun i j hi hj => h3 i j (by omega) (by omega)) (fun i hi => hc i (by omega))
  -- each number of c is there
  have hat : ∀ v, v < m → ∃ i, i < net.length ∧ c i = v := fun v hv => by
    obtain ⟨i, hi, e, _⟩ := hw v hv 0 (by have := h.lo; omega)
    exact ⟨i, hi, e⟩
  have hpick : ∀ v, ∃ i, v < m → i < net.length ∧ c i = v := fun v => by
    by_cases hv : v < m
    · obtain ⟨i, a, b⟩ := hat v hv; exact ⟨i, fun _ => ⟨a, b⟩⟩
    · exact ⟨0, fun hx => absurd hx hv⟩
  have hge : m ≤ nx q := by
    have := cnt_inj (n := m) (m := nx q) (p := fun _ => true) (q := fun _ => true) (fun v => q.getD (hpick v).choose 0) (fun v hv _ => by
      obtain ⟨a, b⟩ := (hpick v).choose_spec hv
      have e : q.getD (hpick v).choose 0 = q[(hpick v).choose]'(by omega) := by simp [List.getD, show (hpick v).choose < q.length by omega]
      simp only [e]
      exact ⟨nx_gt (List.getElem_mem _), trivial⟩) (fun u v hu hv _ _ he => by
      obtain ⟨a1, a2⟩ := (hpick u).choose_spec hu
      obtain ⟨b1, b2⟩ := (hpick v).choose_spec hv
      have := (h3 _ _ a1 b1).1 he
      omega)
    rwa [cnt_true, cnt_true] at this
  refine ⟨q, h1, h2, by omega, fun v hv => ?_⟩
  obtain ⟨k, hk, hkv⟩ := h2.all v (by omega)
  rw [watch_balls h (setL_lt (by omega))]
  intro j hj
  obtain ⟨i, hi, e, hb⟩ := hw (c k) (hc k (by omega)) j hj
  exact ⟨i, hi, setL_bit.2 ⟨by omega, by rw [← hkv]; exact (h3 i k hi (by omega)).2 e⟩, hb⟩
theorem of_srow {net : List Int} (h : Ok net) {m : Nat} {q : List Nat} (hq : SRow net m q) : InShares net m := by
  refine ⟨fun i => q.getD i 0, fun i hi => ?_, fun v hv j hj => ?_⟩
  · have e : q.getD i 0 = q[i]'(by rw [hq.len]; exact hi) := by simp [List.getD, hq.len, hi]
    have := nx_gt (List.getElem_mem (l := q) (n := i) (by rw [hq.len]; exact hi))
    have := hq.eq
    simp only [e]
    omega
  · obtain ⟨i, hi, a, b⟩ := (watch_balls h (setL_lt (by rw [hq.len]; exact Nat.le_refl _))).1 (hq.wa v hv) j hj
    exact ⟨i, hi, (setL_bit.1 a).2, b⟩
/-- So many watches can share the places. -/
structure MaxSh (net : List Int) (m : Nat) : Prop where
  ex : InShares net m
  le : ∀ k, InShares net k → k ≤ m
theorem MaxSh.uniq {net : List Int} {a b : Nat} (ha : MaxSh net a) (hb : MaxSh net b) : a = b := Nat.le_antisymm (hb.le a ha.ex) (ha.le b hb.ex)
theorem shares_le {net : List Int} (h : Ok net) {m : Nat} (hm : InShares net m) : m ≤ net.length := by
  have := shares_ball h hm (j := 0) (by have := h.lo; omega)
  have := size_le_len h (h.ball_lt (k := 0) (by have := h.lo; omega))
  omega
theorem maxSh_ex {net : List Int} (h : Ok net) : ∃ m, MaxSh net m := by
  have key : ∀ b, (∀ k, InShares net k → k ≤ b) → ∃ m, MaxSh net m := by
    intro b
    induction b with
    | zero =>
      intro hb
      have := hb 1 (shares_one h)
      omega
    | succ b ih =>
      intro hb
      by_cases hx : InShares net (b + 1)
      · exact ⟨b + 1, hx, hb⟩
      · exact ih fun k hk => by
          have := hb k hk
          by_cases he : k = b + 1
          · rw [he] at hk; exact absurd hk hx
          · omega
  exact key net.length fun k hk => shares_le h hk
noncomputable def mostSh (net : List Int) : Nat := @dite Nat (∃ m, MaxSh net m) (Classical.propDecidable _) (fun hx => hx.choose) (fun _ => 0)
theorem mostSh_max {net : List Int} (h : Ok net) : MaxSh net (mostSh net) := by
  unfold mostSh
  rw [dif_pos (maxSh_ex h)]
  exact (maxSh_ex h).choose_spec
theorem mostSh_le {net : List Int} (h : Ok net) : mostSh net ≤ net.length := shares_le h (mostSh_max h).ex
theorem mostSh_pos {net : List Int} (h : Ok net) : 1 ≤ mostSh net := (mostSh_max h).le 1 (shares_one h)
end Go.Proofs.Ythcidiihfjjpdaa
/- The model's functions of chapter 15 in natural numbers: shares. Conditions: those of each theorem. -/
namespace Go.Proofs.Ythcidiihfjjpdaa
open D Go.RowKit
set_option linter.unusedVariables false
set_option linter.unusedSimpArgs false


def leastNear (net : List Int) : Nat := fold net.length (fun t k => if size (nb net k) < t then size (nb net k) else t) net.length
theorem nb_size_lt {net : List Int} (h : Ok net) {k : Nat} (hk : k < net.length) : size (nb net k) < net.length := by
  have h6 := h.hi
  have hb := h.ball_lt hk
  have := size_le_len h hb
  unfold ball at this
  rw [size_add (h.lt64 hk) (by omega) (h.irr k hk)] at this
  omega
theorem leastNear_is {net : List Int} (h : Ok net) : (∃ k, k < net.length ∧ size (nb net k) = leastNear net) ∧ ∀ k, k < net.length → leastNear net ≤ size (nb net k) := by
  have key : ∀ n, n ≤ net.length → (fold n (fun t k => if size (nb net k) < t then size (nb net k) else t) net.length = net.length ∧ n = 0 ∨ ∃ k, k < n ∧ size (nb net k) = fold n (fun t k => if size (nb net k) < t then size (nb net k) else t) net.length) ∧
      ∀ k, k < n → fold n (fun t k => if size (nb net k) < t then size (nb net k) else t) net.length ≤ size (nb net k) := by
    intro n
    induction n with
    | zero => intro _; exact ⟨.inl ⟨rfl, rfl⟩, fun k hk => by omega⟩
    | succ n ih =>
      intro hn
      obtain ⟨a, b⟩ := ih (by omega)
      have hlt := nb_size_lt h (k := n) (by omega)
      rw [fold_succ]
      generalize fold n (fun t k => if size (nb net k) < t then size (nb net k) else t) net.length = t at a b ⊢
      by_cases hc : size (nb net n) < t
      · rw [if_pos hc]
        refine ⟨.inr ⟨n, by omega, rfl⟩, fun k hk => ?_⟩
        by_cases he : k = n
        · rw [he]; exact Nat.le_refl _
        · have := b k (by omega); omega
      · rw [if_neg hc]
        refine ⟨.inr ?_, fun k hk => ?_⟩
        · rcases a with ⟨a1, a2⟩ | ⟨k, k1, k2⟩
          · omega
          · exact ⟨k, by omega, k2⟩
        · by_cases he : k = n
          · rw [he]; omega
          · exact b k (by omega)
  obtain ⟨a, b⟩ := key net.length (Nat.le_refl _)
  have := h.lo
  refine ⟨?_, b⟩
  rcases a with ⟨_, a⟩ | a
  · omega
  · exact a
theorem S.LeastNear_x {net : List Int} (e : S.NetOk_t net = some false) : S.LeastNear_t net = some (-1) := by
  unfold S.LeastNear_t S.LeastNear_tree; rw [e]; rfl
theorem S.LeastNear_y {net : List Int} (h : Ok net) (e : S.NetOk_t net = some true) : S.LeastNear_t net = some ((leastNear net : Nat) : Int) := by
  unfold S.LeastNear_t S.LeastNear_tree
  have h6 := h.hi
  rw [e]
  have := (run_for (run := S.LeastNear_run5 net) (len := net.length) (fun k (t : Nat) => ((t : Int), (k : Int))) (fun t k => if size (nb net k) < t then size (nb net k) else t) (fun t => (t : Int)) (fun k t => True) (by omega) (fun n k t hk ht => ?_) (fun n t ht => ?_) (t0 := net.length) trivial).1
  · exact congrArg (fun o => optC o (fun q => some q) none) this
  · simp only [S.LeastNear_run5, S.LeastNear_step5]
    rw [cnd_t (by simp; omega), cnd_t (by simp; omega), Int.toNat_natCast, h.eli hk, S.l1Size_n (h.lt64 hk)]
    simp only [optC]
    rw [add1_nat (by omega)]
    refine ⟨?_, trivial⟩
    congr 2
    by_cases hc : size (nb net k) < t
    · rw [if_pos (by omega), if_pos hc]
    · rw [if_neg (by omega), if_neg hc]
  · simp only [S.LeastNear_run5, S.LeastNear_step5]
    rw [cnd_f (by simp)]
theorem RG.nx_le {r : List Nat} (h : RG r) : nx r ≤ r.length := by
  have : ∀ m, m ≤ r.length → nx (r.take m) ≤ m := by
    intro m
    induction m with
    | zero => intro _; simp [nx]
    | succ m ih => intro hm; rw [nx_take_succ (by omega)]; have := ih (by omega); have := h m (by omega); omega
  have := this r.length (Nat.le_refl _)
  rwa [List.take_length] at this
noncomputable def shB (net row : List Int) : Bool := @decide (∃ q : List Nat, row = nl q ∧ q.length = net.length ∧ RG q ∧ ∀ v, v < nx q → W net (setL q v) = true) (Classical.propDecidable _)
theorem shB_iff {net row : List Int} : shB net row = true ↔ ∃ q : List Nat, row = nl q ∧ q.length = net.length ∧ RG q ∧ ∀ v, v < nx q → W net (setL q v) = true := by unfold shB; exact @decide_eq_true_iff _ (Classical.propDecidable _)
theorem shB_row {net : List Int} {q : List Nat} : shB net (nl q) = true ↔ q.length = net.length ∧ RG q ∧ ∀ v, v < nx q → W net (setL q v) = true := by
  rw [shB_iff]
  exact ⟨fun ⟨p, e, h⟩ => by rw [nl_inj e]; exact h, fun h => ⟨q, rfl, h⟩⟩
theorem S.ShareRowOk_x {net row : List Int} (e : S.NetOk_t net = some false) : S.ShareRowOk_t net row = some false := by
  unfold S.ShareRowOk_t S.ShareRowOk_tree; rw [e]; rfl
theorem S.ShareRowOk_n {net row : List Int} (h : Ok net) (e : S.NetOk_t net = some true) : S.ShareRowOk_t net row = some (shB net row) := by
  unfold S.ShareRowOk_t S.ShareRowOk_tree
  have h6 := h.hi
  rw [e]
  simp only [optC, Bool.not_true, cond_false]
  by_cases hl : row.length = net.length
  · rw [cnd_f (by simp [hl])]
    have hbound : ∀ k, k ≤ row.length → ∀ t, loopE k (rgStep row) 0 = .inr t → t ≤ k := by
      intro k hk t ht
      rcases rg_loop row k with ⟨q, q1, q2, q3, q4⟩ | ⟨q4, _⟩
      · rw [q4] at ht
        injection ht with ht
        subst ht
        have : ∀ m, m ≤ q.length → nx (q.take m) ≤ m := by
          intro m
          induction m with
          | zero => intro _; simp [nx]
          | succ m ih => intro hm; rw [nx_take_succ (by omega)]; have := ih (by omega); have := q2 m (by omega); omega
        have := this q.length (Nat.le_refl _)
        rw [List.take_length] at this
        omega
      · rw [q4] at ht; cases ht
    have l5 := (run_forE (run := S.ShareRowOk_run5 net row) (len := row.length) (fun k (t : Nat) => ((t : Int), (k : Int))) (fun t k => match rgStep row t k with | .inl _ => .inl t | .inr t' => .inr t') (fun (q : Nat) => Sum.inl (false, ((q : Nat) : Int))) (fun t => Sum.inr (t : Int)) (fun k t => t ≤ k) (by omega) (fun n k t hk ht => ?_) (fun n t ht => ?_) (t0 := 0) (Nat.le_refl _)).1
    · -- the two loops tell the same
      have same : ∀ k, (∃ t, loopE k (rgStep row) 0 = .inr t ∧ loopE k (fun t k => match rgStep row t k with | .inl _ => .inl t | .inr t' => .inr t') 0 = (.inr t : Nat ⊕ Nat)) ∨ (loopE k (rgStep row) 0 = .inl () ∧ ∃ t, loopE k (fun t k => match rgStep row t k with | .inl _ => .inl t | .inr t' => .inr t') 0 = (.inl t : Nat ⊕ Nat)) := by
        intro k
        induction k with
        | zero => exact .inl ⟨0, rfl, rfl⟩
        | succ k ih =>
          rcases ih with ⟨t, a, b⟩ | ⟨a, t, b⟩
          · rw [loopE_succ a, loopE_succ b]
            cases hs : rgStep row t k with
            | inl u => exact .inr ⟨rfl, t, rfl⟩
            | inr t' => exact .inl ⟨t', rfl, rfl⟩
          · right
            refine ⟨by unfold loopE at a ⊢; rw [fold_succ, a], t, by unfold loopE at b ⊢; rw [fold_succ, b]⟩
      rw [show S.ShareRowOk_run5 net row FUEL (0, 0) = _ from l5]
      rcases same row.length with ⟨t, a, b⟩ | ⟨a, t, b⟩
      · rw [b]
        simp only [sumC]
        rcases rg_loop row row.length with ⟨q, q1, q2, q3, q4⟩ | ⟨q4, _⟩
        · rw [q4] at a
          injection a with a
          subst a
          have hrow := row_is q1 q3
          have hnx := hbound row.length (Nat.le_refl _) _ q4
          rw [run_search (run := S.ShareRowOk_run11 net row (nx q : Nat)) (len := nx q) (fun v => if (!W net (setL q v)) = true then some false else none) () (by omega) (fun n k hk => ?_) (fun n => ?_), find_test (p := fun v => !W net (setL q v))]
          · have : ((List.range (nx q)).all fun k => !!W net (setL q k)) = shB net row := by
              rw [hrow, Bool.eq_iff_iff, List.all_eq_true, shB_row]
              constructor
              · intro ha
                exact ⟨by omega, q2, fun v hv => by have := ha v (List.mem_range.2 hv); rwa [Bool.not_not] at this⟩
              · rintro ⟨_, _, hc⟩ v hv
                rw [Bool.not_not]
                exact hc v (List.mem_range.1 hv)
            rw [← this]
            cases (List.range (nx q)).all fun k => !!W net (setL q k) <;> rfl
          · simp only [S.ShareRowOk_run11, S.ShareRowOk_step11]
            have hset : S.l13Set_t row (k : Int) = some ((setL q k : Nat) : Int) := by rw [hrow]; exact S.l13Set_n (by omega) k
            rw [cnd_t (by rw [decide_eq_true_eq]; omega), hset]
            simp only [optC]
            rw [S.l2Watch_n h (setL_lt (by omega)), add1_nat (by omega)]
            simp only
            cases W net (setL q k) <;> rfl
          · simp only [S.ShareRowOk_run11, S.ShareRowOk_step11]
            rw [cnd_f (by rw [decide_eq_false_iff_not]; omega)]
        · rw [q4] at a; cases a
      · rw [b]
        simp only [sumC]
        rcases rg_loop row row.length with ⟨q, q1, q2, q3, q4⟩ | ⟨_, q5⟩
        · rw [q4] at a; cases a
        · have : shB net row = false := not_true fun hc => by
            obtain ⟨q, rfl, q1, q2, _⟩ := shB_iff.1 hc
            exact q5 ⟨q, by rw [nl_len], q2, fun j hj => nl_at (by rw [nl_len] at hj; exact hj)⟩
          rw [this]
    · simp only [S.ShareRowOk_run5, S.ShareRowOk_step5]
      rw [cnd_t (by simp; omega), cnd_t (by simp; omega), Int.toNat_natCast, S.l1In_is]
      simp only [optC]
      unfold rgStep
      by_cases hc : 0 ≤ D.eli row k ∧ D.eli row k ≤ ((t : Nat) : Int)
      · rw [if_pos hc, decide_eq_true hc, Bool.not_true, cond_false, cnd_t (by simp; omega), add1_nat (a := k) (by omega)]
        obtain ⟨v, hv⟩ : ∃ v : Nat, D.eli row k = v := ⟨(D.eli row k).toNat, by omega⟩
        rw [hv, add1_nat (by omega), Int.toNat_natCast]
        refine ⟨?_, ?_⟩
        · congr 2
          by_cases hm : v + 1 > t
          · rw [if_pos (by omega), Nat.max_eq_right (by omega)]
          · rw [if_neg (by omega), Nat.max_eq_left (by omega)]
        · have hv2 : (v : Int) ≤ t := by rw [← hv]; exact hc.2
          omega
      · rw [if_neg hc, decide_eq_false hc]
        rfl
    · simp only [S.ShareRowOk_run5, S.ShareRowOk_step5]
      rw [cnd_f (by simp)]
  · have : shB net row = false := not_true fun hc => by
      obtain ⟨q, rfl, q1, _⟩ := shB_iff.1 hc
      exact hl (by rw [nl_len]; exact q1)
    rw [cnd_t (by simp; omega), this]
theorem l15Next_n [r_ : S.l15Grow_r_R] {net : List Int} {m : Nat} {r : List Nat} (hr : r.length ≤ 6) (hr2 : ∀ k, k < r.length → r.getD k 0 < 100) : S.l15Grow_r_run3 net (m : Int) FUEL (0, 0, nl r) = some (((nx r : Nat) : Int), nl r) := by
  have hl := nl_len r
  have := (run_for (run := S.l15Grow_r_run3 net (m : Int)) (len := r.length) (fun k (t : Nat) => ((t : Int), (k : Int), nl r)) (fun t k => max t (r.getD k 0 + 1)) (fun t => ((t : Int), nl r)) (fun k t => True) (by omega) (fun f k t hk ht => ?_) (fun f t ht => ?_) (t0 := 0) trivial).1
  · have e : fold r.length (fun t k => max t (r.getD k 0 + 1)) 0 = nx r := by
      have key : ∀ k, k ≤ r.length → fold k (fun t k => max t (r.getD k 0 + 1)) 0 = nx (r.take k) := by
        intro k
        induction k with
        | zero => intro _; simp [nx, fold_zero]
        | succ k ih => intro hk; rw [fold_succ, ih (by omega), nx_take_succ (by omega)]
      have := key r.length (Nat.le_refl _)
      rwa [List.take_length] at this
    rw [e] at this
    exact this
  · simp only [S.l15Grow_r_run3, S.l15Grow_r_step3]
    rw [cnd_t (by simp; omega), cnd_t (by simp; omega), cnd_t (by simp; omega), Int.toNat_natCast, nl_at hk, add1_nat (a := k) (by omega)]
    have hv : r.getD k 0 < 100 := hr2 k hk
    rw [add1_nat (by omega)]
    refine ⟨?_, trivial⟩
    congr 3
    by_cases hm : r.getD k 0 + 1 > t
    · rw [if_pos (by omega), Nat.max_eq_right (by omega)]
    · rw [if_neg (by omega), Nat.max_eq_left (by omega)]
  · simp only [S.l15Grow_r_run3, S.l15Grow_r_step3]
    rw [cnd_f (by simp; omega)]
theorem srow_len {net : List Int} {m : Nat} {r : List Nat} {q : Option (List Nat)} (h0 : 1 ≤ net.length) (hq : FirstExt (SRow net m) r q) : decide (((rowO q).length : Int) > 0) = q.isSome := by
  cases q with
  | none => rfl
  | some q =>
    have := hq.mem.2.len
    simp only [rowO, nl_len, Option.isSome_some, decide_eq_true_eq]
    omega
theorem S.l15Grow_step [c : S.l15Grow_r_R] {net : List Int} (h : Ok net) (e : S.NetOk_t net = some true) {m : Nat} (hm : m ≤ 6) {r : List Nat} (hr : RG r) (hlen : r.length ≤ net.length)
    (hrec : ∀ v, r.length < net.length → v ≤ nx r → v < m → ∃ o q, S.l15Grow_r0_t net (nl (r ++ [v])) (m : Int) = some o ∧ outOf o = rowO q ∧ FirstExt (SRow net m) (r ++ [v]) q) :
    ∃ o q, S.l15Grow_r_t net (nl r) (m : Int) = some o ∧ outOf o = rowO q ∧ FirstExt (SRow net m) r q := by
  have h6 := h.hi
  have h1 := h.lo
  have hll := nl_len r
  have hnx := hr.nx_le
  have h5 := l15Next_n (r_ := c) (net := net) (m := m) (r := r) (by omega) (fun k hk => by have := getD_lt_nx hk; omega)
  unfold S.l15Grow_r_t S.l15Grow_r_tree
  rw [h5]
  simp only [optC]
  by_cases hl : r.length = net.length
  · rw [cnd_t (by rw [hll]; simp; omega)]
    have none_ : ¬ SRow net m r → ∃ o q, (some (.inr (nl r, [])) : Option ((List Int) ⊕ ((List Int) × (List Int)))) = some o ∧ outOf o = rowO q ∧ FirstExt (SRow net m) r q := fun hn =>
      ⟨_, none, rfl, rfl, fun q hp hq => hn (by rw [hp.eq_of_length (by rw [hq.len]; exact hl)]; exact hq)⟩
    by_cases hq : nx r = m
    · rw [cnd_t (by rw [hq]; simp), S.ShareRowOk_n h e]
      simp only
      cases hs : shB net (nl r) with
      | true =>
        obtain ⟨b1, b2, b3⟩ := shB_row.1 hs
        refine ⟨.inl (nl r), some r, rfl, rfl, ⟨⟨List.prefix_rfl, ⟨hl, hr, hq, fun v hv => b3 v (by omega)⟩⟩, fun p hp => .inl (hp.1.eq_of_length (by rw [hp.2.len]; exact hl))⟩⟩
      | false =>
        exact none_ fun hx => by
          rw [shB_row.2 ⟨hl, hr, fun v hv => hx.wa v (by omega)⟩] at hs; cases hs
    · rw [cnd_f (by rw [beq_eq_false_iff_ne]; omega)]
      exact none_ fun hx => hq hx.eq
  · have hlt : r.length < net.length := by omega
    rw [cnd_f (by rw [hll]; simp; omega)]
    have hex : ∀ v, ∃ q : Option (List Nat), v < min m (nx r + 1) → ∃ o, S.l15Grow_r0_t net (nl (r ++ [v])) (m : Int) = some o ∧ outOf o = rowO q ∧ FirstExt (SRow net m) (r ++ [v]) q := fun v => by
      by_cases hv : v < min m (nx r + 1)
      · obtain ⟨o, q, a⟩ := hrec v hlt (by omega) (by omega)
        exact ⟨q, fun _ => ⟨o, a⟩⟩
      · exact ⟨none, fun hh => absurd hh hv⟩
    obtain ⟨f, hf⟩ := Classical.axiomOfChoice hex
    have hfirst : FirstExt (SRow net m) r (find (min m (nx r + 1)) f) := firstExt_loop (n := net.length) (fun q hq => hq.len) hlt (fun q hp hq => by
        have a := hq.rg r.length (by rw [hq.len]; exact hlt)
        rw [pre_take hp] at a
        have b := getD_lt_nx (r := q) (k := r.length) (by rw [hq.len]; exact hlt)
        have := hq.eq
        omega) (fun v hv => (hf v hv).choose_spec.2.2)
    have l9 := (run_forE (run := S.l15Grow_r_run11 net (m : Int) (nx r : Nat)) (len := min m (nx r + 1)) (fun k (t : Unit) => ((k : Int), nl r)) (findStep f) (fun (q : List Nat) => Sum.inl (nl r, nl q)) (fun _ => Sum.inr (nl r)) (fun k t => True) (by omega) (fun n k t hk ht => ?_) (fun n t ht => ?_) (t0 := ()) trivial).1
    · rw [show S.l15Grow_r_run11 net (m : Int) (nx r : Nat) FUEL (0, nl r) = _ from l9]
      rcases loopE_find f (min m (nx r + 1)) with ⟨q, hfd, hlp⟩ | ⟨hfd, hlp⟩
      · rw [hlp]; exact ⟨.inr (nl r, nl q), some q, rfl, rfl, by rw [← hfd]; exact hfirst⟩
      · rw [hlp]; exact ⟨.inr (nl r, []), none, rfl, rfl, by rw [← hfd]; exact hfirst⟩
    · have hcond : decide ((k : Int) < if (m : Int) < IntKind.i64.wrap (((nx r : Nat) : Int) + 1) then (m : Int) else IntKind.i64.wrap (((nx r : Nat) : Int) + 1)) = true := by
        rw [add1_nat (by omega), decide_eq_true_eq]
        split <;> omega
      obtain ⟨o, a1, a2, a3⟩ := hf k hk
      have hlo := srow_len h1 a3
      simp only [S.l15Grow_r_run11, S.l15Grow_r_step11]
      rw [hcond, cond_true, cnd_t (by simp [small, nl_len]; omega), cnd_t (by simp [small, nl_len]; omega), List.nil_append, ← nl_append, a1, add1_nat (by omega)]
      simp only [optC]
      unfold findStep
      cases o with
      | inl c =>
        simp only [sumC]
        have a2 : c = rowO (f k) := a2
        rw [a2, hlo]
        cases hfk : f k with
        | some q => rfl
        | none => exact ⟨rfl, trivial⟩
      | inr c =>
        simp only [sumC]
        have a2 : c.2 = rowO (f k) := a2
        rw [a2, hlo]
        cases hfk : f k with
        | some q => rfl
        | none => exact ⟨rfl, trivial⟩
    · have hcond : decide (((min m (nx r + 1) : Nat) : Int) < if (m : Int) < IntKind.i64.wrap (((nx r : Nat) : Int) + 1) then (m : Int) else IntKind.i64.wrap (((nx r : Nat) : Int) + 1)) = false := by
        rw [add1_nat (by omega), decide_eq_false_iff_not]
        split <;> omega
      simp only [S.l15Grow_r_run11, S.l15Grow_r_step11]
      rw [hcond]; rfl
theorem S.l15Grow_d {net : List Int} (h : Ok net) (e : S.NetOk_t net = some true) {m : Nat} (hm : m ≤ 6) : ∀ (k d : Nat) (r : List Nat), r.length + k = net.length → k < d → RG r →
    ∃ o q, S.l15Grow_td d net (nl r) (m : Int) = some o ∧ outOf o = rowO q ∧ FirstExt (SRow net m) r q := by
  intro k
  induction k with
  | zero =>
    intro d r hk hd h1
    obtain ⟨d, rfl⟩ : ∃ q, d = q + 1 := ⟨d - 1, by omega⟩
    exact @S.l15Grow_step ⟨S.l15Grow_td d⟩ net h e m hm r h1 (by omega) (fun v hv => by omega)
  | succ k ih =>
    intro d r hk hd h1
    obtain ⟨d, rfl⟩ : ∃ q, d = q + 1 := ⟨d - 1, by omega⟩
    exact @S.l15Grow_step ⟨S.l15Grow_td d⟩ net h e m hm r h1 (by omega) (fun v hv a b => ih d (r ++ [v]) (by simp; omega) (by omega) (RG_append.2 ⟨h1, a⟩))
theorem S.l15Grow_n {net : List Int} (h : Ok net) (e : S.NetOk_t net = some true) {m : Nat} (hm : m ≤ 6) : ∃ o q, S.l15Grow_t net [] (m : Int) = some o ∧ outOf o = rowO q ∧ FirstExt (SRow net m) [] q := by
  have hF := FUEL_le
  have h6 := h.hi
  exact S.l15Grow_d h e hm net.length FUEL [] (by simp) (by omega) RG.nil
noncomputable def shRow (net : List Int) : List Nat := firstOf (SRow net (mostSh net))
theorem S.ShareRow_x {net : List Int} (e : S.NetOk_t net = some false) : S.ShareRow_t net = some [] := by
  unfold S.ShareRow_t S.ShareRow_tree
  have hF := FUEL_le
  obtain ⟨n, hn⟩ : ∃ q, FUEL = q + 1 := ⟨FUEL - 1, by omega⟩
  rw [hn]
  simp only [S.ShareRow_run3, S.ShareRow_step3]
  rw [e]; rfl
theorem S.ShareRow_y {net : List Int} (h : Ok net) (e : S.NetOk_t net = some true) : S.ShareRow_t net = some (nl (shRow net)) ∧ IsFirst (SRow net (mostSh net)) (shRow net) := by
  have hF := FUEL_le
  have h6 := h.hi
  have h1 := h.lo
  have hmax := mostSh_max h
  have hle := mostSh_le h
  have hpos := mostSh_pos h
  obtain ⟨o, q, a1, a2, a3⟩ := S.l15Grow_n h e (m := mostSh net) (by omega)
  have hq : ∃ p, q = some p := by
    cases q with
    | some p => exact ⟨p, rfl⟩
    | none =>
      obtain ⟨p, hp⟩ := srow_of h hmax.ex
      exact absurd hp (a3 p List.nil_prefix)
  obtain ⟨p, rfl⟩ := hq
  have hfp := first_of_ext a3
  have hcl : shRow net = p := firstOf_is hfp
  rw [hcl]
  refine ⟨?_, hfp⟩
  have key : ∀ d j n, j = mostSh net + d → j ≤ net.length → d + 1 < n → S.ShareRow_run3 net n ((j : Int), []) = some (nl p) := by
    intro d
    induction d with
    | zero =>
      intro j n hj _ hn
      obtain ⟨n, rfl⟩ : ∃ q, n = q + 2 := ⟨n - 2, by omega⟩
      have hp := hfp.mem.len
      simp only [S.ShareRow_run3, S.ShareRow_step3]
      rw [e]
      simp only [optC, cond_true]
      rw [cnd_t (by rfl), show j = mostSh net by omega, a1]
      simp only
      have hnl : ((nl p).length : Int) = ((net.length : Nat) : Int) := by rw [nl_len, hp]
      cases o with
      | inl c =>
        have a2 : c = nl p := a2
        simp only [sumC]
        rw [a2, cnd_f (by rw [beq_eq_false_iff_ne]; omega)]
      | inr c =>
        have a2 : c.2 = nl p := a2
        simp only [sumC]
        rw [a2, cnd_f (by rw [beq_eq_false_iff_ne]; omega)]
    | succ d ih =>
      intro j n hj hjl hn
      obtain ⟨n, rfl⟩ : ∃ q, n = q + 1 := ⟨n - 1, by omega⟩
      obtain ⟨o, q, b1, b2, b3⟩ := S.l15Grow_n h e (m := j) (by omega)
      have hq : q = none := by
        cases q with
        | none => rfl
        | some q => have := hmax.le j (of_srow h (first_of_ext b3).mem); omega
      subst hq
      simp only [S.ShareRow_run3, S.ShareRow_step3]
      rw [e]
      simp only [optC, cond_true]
      rw [cnd_t (by rfl), b1, i64_wrap (by omega) (by omega), show (j : Int) - 1 = ((j - 1 : Nat) : Int) by omega]
      simp only
      cases o with
      | inl c =>
        have b2 : c = [] := b2
        simp only [sumC]
        rw [b2]
        exact ih (j - 1) n (by omega) (by omega) (by omega)
      | inr c =>
        have b2 : c.2 = [] := b2
        simp only [sumC]
        rw [b2]
        exact ih (j - 1) n (by omega) (by omega) (by omega)
  unfold S.ShareRow_t S.ShareRow_tree
  rw [key (net.length - mostSh net) net.length FUEL (by omega) (Nat.le_refl _) (by omega)]
  rfl
theorem S.MostShares_x {net : List Int} (e : S.NetOk_t net = some false) : S.MostShares_t net = some (-1) := by
  unfold S.MostShares_t S.MostShares_tree; rw [e]; rfl
theorem S.MostShares_y {net : List Int} (h : Ok net) (e : S.NetOk_t net = some true) : S.MostShares_t net = some ((mostSh net : Nat) : Int) := by
  obtain ⟨a1, a2⟩ := S.ShareRow_y h e
  have h6 := h.hi
  have hlen := a2.mem.len
  have hnx := a2.mem.eq
  have hle := mostSh_le h
  have hll := nl_len (shRow net)
  unfold S.MostShares_t S.MostShares_tree
  rw [e, a1]
  simp only [optC, Bool.not_true, cond_false]
  have := (run_for (run := S.MostShares_run6) (len := (shRow net).length) (fun k (t : Nat) => ((t : Int), (k : Int), nl (shRow net))) (fun t k => max t ((shRow net).getD k 0 + 1)) (fun t => (t : Int)) (fun k t => True) (by omega) (fun f k t hk ht => ?_) (fun f t ht => ?_) (t0 := 0) trivial).1
  · have e2 : fold (shRow net).length (fun t k => max t ((shRow net).getD k 0 + 1)) 0 = mostSh net := by
      have key : ∀ k, k ≤ (shRow net).length → fold k (fun t k => max t ((shRow net).getD k 0 + 1)) 0 = nx ((shRow net).take k) := by
        intro k
        induction k with
        | zero => intro _; simp [nx, fold_zero]
        | succ k ih => intro hk; rw [fold_succ, ih (by omega), nx_take_succ (by omega)]
      have := key (shRow net).length (Nat.le_refl _)
      rwa [List.take_length, hnx] at this
    rw [e2] at this
    exact congrArg (fun o => optC o (fun q => some q) none) this
  · simp only [S.MostShares_run6, S.MostShares_step6]
    have hv := getD_lt_nx hk
    rw [cnd_t (by simp; omega), cnd_t (by simp; omega), cnd_t (by simp; omega), Int.toNat_natCast, nl_at hk, add1_nat (a := k) (by omega), add1_nat (by omega)]
    refine ⟨?_, trivial⟩
    congr 3
    by_cases hm : (shRow net).getD k 0 + 1 > t
    · rw [if_pos (by omega), Nat.max_eq_right (by omega)]
    · rw [if_neg (by omega), Nat.max_eq_left (by omega)]
  · simp only [S.MostShares_run6, S.MostShares_step6]
    rw [cnd_f (by simp; omega)]
theorem netOkS_of {net : List Int} (h : Ok net) : S.NetOk_t net = some true := by
  rcases NetOk_cases net with ⟨_, _, g2⟩ | ⟨hn, _, _⟩
  · exact g2
  · exact absurd h hn
theorem S.WatchPair_x {net : List Int} (e : S.NetOk_t net = some false) : S.WatchPair_t net = some (-1, -1) := by
  unfold S.WatchPair_t S.WatchPair_tree; rw [e]; rfl
theorem S.WatchPair_y {net : List Int} (h : Ok net) (e : S.NetOk_t net = some true) : S.WatchPair_t net = some (((fewest net : Nat) : Int), ((fewest (otherN net) : Nat) : Int)) := by
  unfold S.WatchPair_t S.WatchPair_tree
  have ho := otherN_ok h
  rw [e, S.FewestWatch_y h e, S.OtherNet_y h e, ]
  simp only [optC]
  rw [S.FewestWatch_y ho (netOkS_of ho)]; rfl
theorem S.SharePair_x {net : List Int} (e : S.NetOk_t net = some false) : S.SharePair_t net = some (-1, -1) := by
  unfold S.SharePair_t S.SharePair_tree; rw [e]; rfl
theorem S.SharePair_y {net : List Int} (h : Ok net) (e : S.NetOk_t net = some true) : S.SharePair_t net = some (((mostSh net : Nat) : Int), ((mostSh (otherN net) : Nat) : Int)) := by
  unfold S.SharePair_t S.SharePair_tree
  have ho := otherN_ok h
  rw [e, S.MostShares_y h e, S.OtherNet_y h e]
  simp only [optC]
  rw [S.MostShares_y ho (netOkS_of ho)]; rfl
end Go.Proofs.Ythcidiihfjjpdaa
/- Draws of chapter 15. Conditions: those of each theorem. -/
namespace Go.Proofs.Ythcidiihfjjpdaa
open D Go.RowKit
set_option linter.unusedVariables false
set_option linter.unusedSimpArgs false


theorem S.DrawShareRowOk_loop {rb : List Int} (hb : Bytes rb) (hl : rb.length ≤ 2000) {net : List Int} (hn : net.length ≤ 6) : ∀ (m x7 : Nat) (row : List Int) (rp : Int) (n : Nat), x7 + m = net.length + 1 → row.length = x7 → 0 ≤ rp → rp ≤ 900000 + 4 * x7 → m < n →
    ∃ row' : List Int, S.DrawShareRowOk_run10 n ((x7 : Int), rb, rp, net, row) = some (net, row') ∧ row'.length ≤ 7 := by
  intro m
  induction m with
  | zero =>
    intro x7 row rp n hx hr h0 h1 hm
    obtain ⟨n, rfl⟩ : ∃ q, n = q + 1 := ⟨n - 1, by omega⟩
    obtain ⟨u, e2, b1, b2⟩ := S.l20Rd_pick_is (rp := rp) (n := 20) hb hl (by omega) (by omega)
    have b3 := b2 (by decide)
    simp only [S.DrawShareRowOk_run10, S.DrawShareRowOk_step10]
    rw [e2]
    simp only [optC]
    rcases tdiv_small (v := u) (a := 19) b1 (by omega) with hh | hh
    · rw [hh, i64_wrap (n := 0) (by decide) (by decide), i64_wrap (by omega) (by omega), cnd_f (by rw [decide_eq_false_iff_not]; omega)]
      exact ⟨_, rfl, by omega⟩
    · rw [hh, i64_wrap (n := 1) (by decide) (by decide), i64_wrap (by omega) (by omega), cnd_f (by rw [decide_eq_false_iff_not]; omega)]
      exact ⟨_, rfl, by omega⟩
  | succ m ih =>
    intro x7 row rp n hx hr h0 h1 hm
    obtain ⟨n, rfl⟩ : ∃ q, n = q + 1 := ⟨n - 1, by omega⟩
    obtain ⟨u, e2, b1, b2⟩ := S.l20Rd_pick_is (rp := rp) (n := 20) hb hl (by omega) (by omega)
    simp only [S.DrawShareRowOk_run10, S.DrawShareRowOk_step10]
    rw [e2]
    simp only [optC]
    by_cases hc : (x7 : Int) < IntKind.i64.wrap ((net.length : Int) + IntKind.i64.wrap (u.tdiv 19))
    · rw [cnd_t (by simpa using hc)]
      obtain ⟨a, e3, c1, c2⟩ := S.l20Rd_pick_is (rp := rp + 1) (n := 2) hb hl (by omega) (by omega)
      rw [e3]
      simp only
      obtain ⟨b, e4, d1, d2⟩ := S.l20Rd_pick_is (rp := rp + 1 + 1) (n := IntKind.i64.wrap (2 + a)) hb hl (by omega) (by omega)
      rw [e4]
      simp only
      obtain ⟨d, e5, f1, f2⟩ := S.l20Rd_pick_is (rp := rp + 1 + 1 + 1) (n := IntKind.i64.wrap ((if 1 < (x7 : Int) then 1 else (x7 : Int)) + 1)) hb hl (by omega) (by omega)
      rw [e5]
      simp only
      rw [cnd_t (small_of (by simp; omega)), add1_nat (by omega)]
      exact ih (x7 + 1) _ (rp + 1 + 1 + 1 + 1) n (by omega) (by simp; omega) (by omega) (by omega) (by omega)
    · rw [cnd_f (by simpa using hc)]
      exact ⟨_, rfl, by omega⟩
theorem S.DrawShareRowOk_is {code : List Int} (hb : Bytes code) : ∃ (net row : List Int), S.DrawShareRowOk_t code = some (net, row) ∧ net.length ≤ 6 ∧ row.length ≤ 7 := by
  unfold S.DrawShareRowOk_t S.DrawShareRowOk_tree
  have hF := FUEL_le
  obtain ⟨rb, e1, h1, h2⟩ := S.l20Open_is hb
  rw [e1]
  simp only [optC]
  obtain ⟨rp1, net, e2, a1, a2, h3⟩ := S.l20Net_is (n := 12) h1 h2 (Int.le_refl 0) (by decide)
  rw [e2]
  simp only
  have fill : ∀ rp : Int, 0 ≤ rp → rp ≤ 900000 → ∃ row : List Int, S.DrawShareRowOk_run10 FUEL (0, rb, rp, net, []) = some (net, row) ∧ row.length ≤ 7 := fun rp p1 p2 =>
    S.DrawShareRowOk_loop h1 h2 h3 (net.length + 1) 0 [] rp FUEL (by omega) rfl p1 (by omega) (by omega)
  rcases NetOk_cases net with ⟨h, g1, g2⟩ | ⟨_, g1, g2⟩
  · have hlo := h.lo
    rw [g2]
    simp only [cond_true]
    obtain ⟨u, e3, b1, b2⟩ := S.l20Rd_pick_is (rp := rp1) (n := 3) h1 h2 (by omega) (by omega)
    rw [e3]
    simp only
    by_cases hu : 0 < u
    · obtain ⟨s1, s2⟩ := S.ShareRow_y h g2
      have hlen : (nl (shRow net)).length = net.length := by rw [nl_len]; exact s2.mem.len
      rw [cnd_t (by rw [decide_eq_true_eq]; omega), s1]
      simp only
      obtain ⟨w, e4, c1, c2⟩ := S.l20Rd_pick_is (rp := rp1 + 1) (n := 3) h1 h2 (by omega) (by omega)
      rw [e4]
      simp only
      by_cases hw : w = 0
      · obtain ⟨x, e5, d1, d2⟩ := S.l20Rd_pick_is (rp := rp1 + 1 + 1) (n := ((nl (shRow net)).length : Int)) h1 h2 (by omega) (by omega)
        have d3 := d2 (by omega)
        rw [cnd_t (by simpa using hw), e5]
        simp only
        obtain ⟨y, e6, f1, f2⟩ := S.l20Rd_pick_is (rp := rp1 + 1 + 1 + 1) (n := 4) h1 h2 (by omega) (by omega)
        rw [e6]
        simp only
        rw [cnd_t (by simp only [Bool.and_eq_true, decide_eq_true_eq]; omega), cnd_t (by rw [decide_eq_true_eq]; omega)]
        exact ⟨_, _, rfl, h3, by rw [List.length_set]; omega⟩
      · rw [cnd_f (by simpa using hw)]
        exact ⟨_, _, rfl, h3, by omega⟩
    · obtain ⟨row, e4, hr⟩ := fill (rp1 + 1) (by omega) (by omega)
      rw [cnd_f (by rw [decide_eq_false_iff_not]; omega), e4]
      exact ⟨_, _, rfl, h3, hr⟩
  · obtain ⟨row, e4, hr⟩ := fill rp1 (by omega) (by omega)
    rw [g2]
    simp only [cond_false]
    rw [e4]
    exact ⟨_, _, rfl, h3, hr⟩
theorem S.DrawLeastNear_is {code : List Int} (hb : Bytes code) : ∃ net, S.DrawLeastNear_t code = some net ∧ net.length ≤ 6 := by
  unfold S.DrawLeastNear_t S.DrawLeastNear_tree
  obtain ⟨rb, e1, h1, h2⟩ := S.l20Open_is hb
  rw [e1]
  simp only [optC]
  obtain ⟨rp', net, e2, _, _, h3⟩ := S.l20Net_is (n := 9) h1 h2 (Int.le_refl 0) (by decide)
  rw [e2]
  exact ⟨_, rfl, h3⟩
theorem S.DrawShareRow_is {code : List Int} (hb : Bytes code) : ∃ net, S.DrawShareRow_t code = some net ∧ net.length ≤ 6 := by
  unfold S.DrawShareRow_t S.DrawShareRow_tree
  obtain ⟨rb, e1, h1, h2⟩ := S.l20Open_is hb
  rw [e1]
  simp only [optC]
  obtain ⟨rp', net, e2, _, _, h3⟩ := S.l20Net_is (n := 9) h1 h2 (Int.le_refl 0) (by decide)
  rw [e2]
  exact ⟨_, rfl, h3⟩
theorem S.DrawMostShares_is {code : List Int} (hb : Bytes code) : ∃ net, S.DrawMostShares_t code = some net ∧ net.length ≤ 6 := by
  unfold S.DrawMostShares_t S.DrawMostShares_tree
  obtain ⟨rb, e1, h1, h2⟩ := S.l20Open_is hb
  rw [e1]
  simp only [optC]
  obtain ⟨rp', net, e2, _, _, h3⟩ := S.l20Net_is (n := 9) h1 h2 (Int.le_refl 0) (by decide)
  rw [e2]
  exact ⟨_, rfl, h3⟩
theorem S.DrawWatchPair_is {code : List Int} (hb : Bytes code) : ∃ net, S.DrawWatchPair_t code = some net ∧ net.length ≤ 6 := by
  unfold S.DrawWatchPair_t S.DrawWatchPair_tree
  obtain ⟨rb, e1, h1, h2⟩ := S.l20Open_is hb
  rw [e1]
  simp only [optC]
  obtain ⟨rp', net, e2, _, _, h3⟩ := S.l20Net_is (n := 9) h1 h2 (Int.le_refl 0) (by decide)
  rw [e2]
  exact ⟨_, rfl, h3⟩
theorem S.DrawSharePair_is {code : List Int} (hb : Bytes code) : ∃ net, S.DrawSharePair_t code = some net ∧ net.length ≤ 6 := by
  unfold S.DrawSharePair_t S.DrawSharePair_tree
  obtain ⟨rb, e1, h1, h2⟩ := S.l20Open_is hb
  rw [e1]
  simp only [optC]
  obtain ⟨rp', net, e2, _, _, h3⟩ := S.l20Net_is (n := 9) h1 h2 (Int.le_refl 0) (by decide)
  rw [e2]
  exact ⟨_, rfl, h3⟩
end Go.Proofs.Ythcidiihfjjpdaa
/- Trees of wires: the places with one wire, and the sets that stand together, make all places. Conditions: those of each theorem. -/
namespace Go.Proofs.Ythcidiihfjjpdaa
set_option linter.unusedVariables false
set_option linter.unusedSimpArgs false

/-- A net of some of the wires. -/
structure Sub (net t : List Int) : Prop where
  ok : Ok t
  len : t.length = net.length
  sub : ∀ k j, k < net.length → (nb t k).testBit j = true → (nb net k).testBit j = true
/-- A tree: one part, of as few wires as can be. -/
structure Tree (net t : List Int) : Prop where
  sub : Sub net t
  one : parts t = 1
  wires_ : wires t + 1 = net.length
/-- How many places have one wire alone. -/
def leafs (t : List Int) : Nat := cnt t.length (fun k => size (nb t k) == 1)
theorem sub_one {net t : List Int} (h : Ok net) (ht : Sub net t) (h1 : parts t = 1) : parts net = 1 := by
  rw [one_part h]
  intro j k hj hk
  have hr := (ht.ok.comp_testBit (by rw [ht.len]; exact hj) k).1 ((one_part ht.ok).1 h1 j k (by rw [ht.len]; exact hj) (by rw [ht.len]; exact hk))
  refine (h.comp_testBit hj k).2 ?_
  clear hk
  induction hr with
  | here ha => exact .here (by rw [allOf_testBit]; simpa using hj)
  | @step a b _ hl hn ha ih =>
    have hl' : a < net.length := by rw [← ht.len]; exact hl
    have := ht.sub _ _ hl' hn
    exact .step ih hl' this (by rw [allOf_testBit]; simpa using h.nb_lt hl' this)
/-- In one part of two places or more each place has a wire. -/
theorem one_deg {t : List Int} (h : Ok t) (h1 : parts t = 1) (h2 : 2 ≤ t.length) {k : Nat} (hk : k < t.length) : 1 ≤ size (nb t k) := by
  have h6 := h.hi
  have hne : nb t k ≠ 0 := fun h0 => by
    have hc := (comp_alone h hk).2 h0
    have : ∃ j, j < t.length ∧ j ≠ k := by
      by_cases hk0 : k = 0
      · exact ⟨1, by omega, by omega⟩
      · exact ⟨0, by omega, by omega⟩
    obtain ⟨j, hj, hjk⟩ := this
    have := (one_part h).1 h1 k j hk hj
    rw [hc, testBit_pow] at this
    simp at this; omega
  obtain ⟨j, hj⟩ := pos_iff.1 hne
  have := h.nb_lt hk hj
  exact size_pos (h.lt64 hk) (by omega) hj
/-- A tree of two places or more has two leaves. -/
theorem leafs_two {net t : List Int} (ht : Tree net t) (h2 : 2 ≤ net.length) : 2 ≤ leafs t := by
  have hl := ht.sub.len
  have hw := ends_wires ht.sub.ok
  have h1 : 2 * t.length ≤ ends t + leafs t := by
    unfold ends leafs cnt
    rw [← sumN_add, show 2 * t.length = sumN t.length (fun _ => 2) by rw [sumN_const]; omega]
    refine sumN_le fun k hk => ?_
    have := one_deg ht.sub.ok ht.one (by omega) hk
    show 2 ≤ size (nb t k) + (size (nb t k) == 1).toNat
    by_cases h1 : size (nb t k) = 1
    · simp [h1]
    · have : (size (nb t k) == 1) = false := by simpa using h1
      rw [this]; simp; omega
  have := ht.wires_
  omega
/-- The places with more than one wire. -/
def inner (t : List Int) : Nat := orN t.length (fun k => !(size (nb t k) == 1)) (fun k => 2 ^ k)
theorem inner_testBit (t : List Int) (j : Nat) : (inner t).testBit j = true ↔ j < t.length ∧ size (nb t j) ≠ 1 := by
  unfold inner
  rw [orN_testBit]
  constructor
  · rintro ⟨k, hk, a, b⟩
    rw [testBit_pow, decide_eq_true_eq] at b
    subst b
    exact ⟨hk, by simpa using a⟩
  · rintro ⟨a, b⟩
    exact ⟨j, a, by simpa using b, by rw [testBit_pow]; simp⟩
theorem inner_lt (t : List Int) : inner t < 2 ^ t.length := orN_lt fun k hk _ => Nat.pow_lt_pow_right (by omega) hk
theorem inner_size {t : List Int} (h : Ok t) : size (inner t) + leafs t = t.length := by
  rw [size_cnt h (inner_lt t)]
  have := cnt_not t.length (fun k => size (nb t k) == 1)
  have e : cnt t.length (fun k => (inner t).testBit k) = cnt t.length (fun k => !(size (nb t k) == 1)) := cnt_congr fun k hk => by
    rw [Bool.eq_iff_iff, inner_testBit]
    constructor
    · rintro ⟨_, b⟩; simpa using b
    · intro b; exact ⟨hk, by simpa using b⟩
  rw [e]; unfold leafs; omega
theorem bits_one (s : Nat) (hs : s < 64) (i : Nat) (hi6 : i < 6) (j : Nat) (hj6 : j < 6) (hz : size s = 1) (hi : s.testBit i = true) (hj : s.testBit j = true) : i = j := by
  refine Classical.byContradiction fun hne => ?_
  have h1 := bits_sub s hs i hi6 hi
  have h2 : (s - 2 ^ i).testBit j = true := by rw [sub_testBit hs hi6 hi, hj]; simp; omega
  have := size_pos h1.1 hj6 h2
  omega
/-- What is not a leaf stands together and watches, in one part of three places or more. -/
theorem inner_joined {net t : List Int} (h : Ok net) (ht : Sub net t) (h1 : parts t = 1) (h3 : 3 ≤ net.length) : Together net (inner t) ∧ W net (inner t) = true := by
  have hO := ht.ok
  have hl := ht.len
  have h6 := h.hi
  have only : ∀ {k i j : Nat}, k < t.length → size (nb t k) = 1 → (nb t k).testBit i = true → (nb t k).testBit j = true → i = j := fun {k i j} hk hz hi hj =>
    bits_one _ (hO.lt64 hk) i (by have := hO.nb_lt hk hi; omega) j (by have := hO.nb_lt hk hj; omega) hz hi hj
  have hone := (one_part hO).1 h1
  -- a closed set has all places
  have closed : ∀ (A : Nat) (i : Nat), i < t.length → A.testBit i = true → (∀ x y, A.testBit x = true → x < t.length → (nb t x).testBit y = true → A.testBit y = true) → ∀ j, j < t.length → A.testBit j = true := by
    intro A i hi hA hcl j hj
    have hr := (hO.comp_testBit hi j).1 (hone i j hi hj)
    clear hj
    induction hr with
    | here _ => exact hA
    | step _ hx hn _ ih => exact hcl _ _ ih hx hn
  -- the neighbour of a leaf is none
  have nbr : ∀ {k j : Nat}, k < t.length → size (nb t k) = 1 → (nb t k).testBit j = true → (inner t).testBit j = true := by
    intro k j hk hz hj
    have hjl := hO.nb_lt hk hj
    refine (inner_testBit t j).2 ⟨hjl, fun hz2 => ?_⟩
    have hjk : (nb t j).testBit k = true := by rw [hO.sym k j hk hjl]; exact hj
    -- both alone: the two would be all places
    have hall := closed (2 ^ k ||| 2 ^ j) k hk ((or2 _ _ _).2 (.inl (by rw [testBit_pow]; simp))) (fun x y hx hxl hy => by
      rw [or2, testBit_pow, testBit_pow, decide_eq_true_eq, decide_eq_true_eq] at hx
      rw [or2, testBit_pow, testBit_pow, decide_eq_true_eq, decide_eq_true_eq]
      rcases hx with rfl | rfl
      · exact .inr (only hxl hz hj hy)
      · exact .inl (only hxl hz2 hjk hy))
    have : ∃ m, m < t.length ∧ m ≠ k ∧ m ≠ j := by
      refine Classical.byContradiction fun hc => ?_
      have h0 : ∀ m, m < t.length → m = k ∨ m = j := fun m hm => Classical.byContradiction fun hx => hc ⟨m, hm, fun he => hx (.inl he), fun he => hx (.inr he)⟩
      have a0 := h0 0 (by omega)
      have a1 := h0 1 (by omega)
      have a2 := h0 2 (by omega)
      omega
    obtain ⟨m, hm, n1, n2⟩ := this
    have := hall m hm
    rw [or2, testBit_pow, testBit_pow, decide_eq_true_eq, decide_eq_true_eq] at this
    omega
  have hil : inner t < 2 ^ net.length := by rw [← hl]; exact inner_lt t
  -- there is one
  have hex : ∃ i, (inner t).testBit i = true := by
    by_cases hz : size (nb t 0) = 1
    · have hne : nb t 0 ≠ 0 := fun h0 => by rw [h0] at hz; exact absurd hz (by decide)
      obtain ⟨j, hj⟩ := pos_iff.1 hne
      exact ⟨j, nbr (by omega) hz hj⟩
    · exact ⟨0, (inner_testBit t 0).2 ⟨by omega, hz⟩⟩
  obtain ⟨i, hi⟩ := hex
  have hit := ((inner_testBit t i).1 hi).1
  have hin : i < net.length := by omega
  constructor
  · refine together_of h hil hi fun j hj => ?_
    have hjt := ((inner_testBit t j).1 hj).1
    -- what is reached within, and the leaves beside it
    let C := part net (inner t) i
    have hC : ∀ x, C.testBit x = true ↔ Reach net (inner t) i x := fun x => h.part_testBit hin x
    let A := C ||| orN t.length (fun k => (size (nb t k) == 1) && ((nb t k &&& C) != 0)) (fun k => 2 ^ k)
    have hA : ∀ x, A.testBit x = true ↔ C.testBit x = true ∨ (x < t.length ∧ size (nb t x) = 1 ∧ ∃ c, (nb t x).testBit c = true ∧ C.testBit c = true) := fun x => by
      show (C ||| _).testBit x = true ↔ _
      rw [or2, orN_testBit]
      constructor
      · rintro (a | ⟨k, hk, a, b⟩)
        · exact .inl a
        · rw [testBit_pow, decide_eq_true_eq] at b
          subst b
          rw [Bool.and_eq_true, beq_iff_eq, bne_iff_ne] at a
          obtain ⟨c, hc⟩ := pos_iff.1 a.2
          rw [Nat.testBit_and, Bool.and_eq_true] at hc
          exact .inr ⟨hk, a.1, c, hc.1, hc.2⟩
      · rintro (a | ⟨hk, a, c, hc1, hc2⟩)
        · exact .inl a
        · refine .inr ⟨x, hk, ?_, by rw [testBit_pow]; simp⟩
          rw [Bool.and_eq_true, beq_iff_eq, bne_iff_ne]
          exact ⟨a, pos_iff.2 ⟨c, by rw [Nat.testBit_and, hc1, hc2]; rfl⟩⟩
    have hall := closed A i hit ((hA i).2 (.inl ((hC i).2 (.here hi)))) (fun x y hx hxl hy => by
      have hyl := hO.nb_lt hxl hy
      rcases (hA x).1 hx with hx | ⟨_, hz, c, hc1, hc2⟩
      · by_cases hzy : size (nb t y) = 1
        · exact (hA y).2 (.inr ⟨hyl, hzy, x, by rw [hO.sym x y hxl hyl]; exact hy, hx⟩)
        · have hyi := (inner_testBit t y).2 ⟨hyl, hzy⟩
          have hxn : x < net.length := by omega
          exact (hA y).2 (.inl ((hC y).2 (.step ((hC x).1 hx) hxn (ht.sub x y hxn hy) hyi)))
      · have := only hxl hz hc1 hy
        rw [← this]
        exact (hA c).2 (.inl hc2))
    rcases (hA j).1 (hall j hjt) with a | ⟨_, hz, _⟩
    · exact (hC j).1 a
    · exact absurd hz ((inner_testBit t j).1 hj).2
  · refine (W_iff h hil).2 fun j hj => (seen_iff h _ hj).2 ?_
    have hjt : j < t.length := by omega
    by_cases hz : size (nb t j) = 1
    · right
      have hne : nb t j ≠ 0 := fun h0 => by rw [h0] at hz; exact absurd hz (by decide)
      obtain ⟨c, hc⟩ := pos_iff.1 hne
      have := hO.nb_lt hjt hc
      exact ⟨c, by omega, nbr hjt hz hc, ht.sub j c hj hc⟩
    · exact .inl ((inner_testBit t j).2 ⟨hjt, hz⟩)

/-! ### A tree over a joined watch -/
/-- After m steps from r within a set. -/
theorem steps_lvl {net : List Int} (h : Ok net) {s r : Nat} (hs : s < 2 ^ net.length) (hr : s.testBit r = true) (hT : Together net s) : ∃ lv : Nat → Nat, ∃ p : Nat → Nat, lv r = 0 ∧ ∀ v, s.testBit v = true → v ≠ r → s.testBit (p v) = true ∧ (nb net v).testBit (p v) = true ∧ lv (p v) < lv v ∧ lv v ≤ 6 := by
  have hrl := in_lt hs hr
  have h6 := h.hi
  have e0 : 2 ^ r &&& s = 2 ^ r := Nat.eq_of_testBit_eq fun j => by
    rw [Nat.testBit_and, testBit_pow]
    by_cases hxj : r = j
    · rw [← hxj, hr]; simp
    · simp [hxj]
  let L := fun m k => (steps net s m (2 ^ r)).testBit k
  have mono1 : ∀ m k, L m k = true → L (m + 1) k = true := fun m k hk => (grow_testBit _ _ _ _).2 (.inl hk)
  have mono : ∀ m m' k, m ≤ m' → L m k = true → L m' k = true := by
    intro m m' k hm hk
    induction m' with
    | zero => obtain rfl : m = 0 := by omega
              exact hk
    | succ m' ih =>
      by_cases he : m = m' + 1
      · rw [← he]; exact hk
      · exact mono1 m' k (ih (by omega))
  let lv := fun k => cnt 6 (fun m => !L m k)
  have six : ∀ v, s.testBit v = true → L 6 v = true := fun v hv => by
    have hx : (part net s r).testBit v = true := (h.part_testBit hrl v).2 (hT.2 r v hr hv)
    unfold part at hx
    rw [e0] at hx
    exact hx
  have hp : ∀ v, ∃ j, s.testBit v = true → v ≠ r → s.testBit j = true ∧ (nb net v).testBit j = true ∧ lv j < lv v := fun v => by
    by_cases hv : s.testBit v = true ∧ v ≠ r
    · have h0 : L 0 v = false := by
        show (2 ^ r).testBit v = false
        rw [testBit_pow]; simp; exact fun he => hv.2 he.symm
      have hex : ∀ m, m ≤ 6 → L m v = true → ∃ q, q < m ∧ L q v = false ∧ L (q + 1) v = true := by
        intro m
        induction m with
        | zero => intro _ hb; rw [h0] at hb; cases hb
        | succ m ih =>
          intro hm hb
          cases hc : L m v with
          | false => exact ⟨m, by omega, hc, hb⟩
          | true => obtain ⟨q, a, b⟩ := ih (by omega) hc; exact ⟨q, by omega, b⟩
      obtain ⟨q, hq, hqf, hqt⟩ := hex 6 (Nat.le_refl _) (six v hv.1)
      rcases (grow_testBit _ _ _ _).1 hqt with c1 | ⟨⟨j, hj, c1, c2⟩, _⟩
      · have : L q v = true := c1
        rw [hqf] at this; cases this
      · have hjs : s.testBit j = true := by
          have := steps_reach (net := net) (A := s) (i := r) q (j := j) (by rw [e0]; exact c1)
          exact this.among.2
        have hvl := in_lt hs hv.1
        refine ⟨j, fun _ _ => ⟨hjs, by rw [h.sym j v hj hvl]; exact c2, ?_⟩⟩
        have hjl : L q j = true := c1
        have h1 : lv j ≤ q := by
          have := cnt_mono (n := 6) (p := fun m => !L m j) (q := fun i => decide (i < q)) (fun m hm hp => by
            have hp' : L m j = false := by simpa using hp
            rw [decide_eq_true_eq]
            refine Classical.byContradiction fun hc => ?_
            rw [mono q m j (by omega) hjl] at hp'; cases hp')
          rw [cnt_below 6 q (by omega)] at this
          exact this
        have h2 : q + 1 ≤ lv v := by
          have := cnt_mono (n := 6) (p := fun i => decide (i < q + 1)) (q := fun m => !L m v) (fun m hm hp => by
            have hp' : m < q + 1 := by simpa using hp
            cases hx : L m v with
            | false => rfl
            | true => rw [mono m q v (by omega) hx] at hqf; cases hqf)
          rw [cnt_below 6 (q + 1) (by omega)] at this
          exact this
        omega
    · exact ⟨0, fun a b => absurd ⟨a, b⟩ hv⟩
  refine ⟨lv, fun v => Classical.choose (hp v), ?_, fun v hv hne => ?_⟩
  · show cnt 6 (fun m => !L m r) = 0
    have : cnt 6 (fun m => !L m r) = cnt 6 (fun _ => false) := cnt_congr fun m _ => by
      have : L m r = true := mono 0 m r (by omega) (by show (2 ^ r).testBit r = true; rw [testBit_pow]; simp)
      rw [this]; rfl
    rw [this]; rfl
  · obtain ⟨a, b, c⟩ := Classical.choose_spec (hp v) hv hne
    exact ⟨a, b, c, cnt_le _ _⟩
/-- The net of the wires from each place but r to its parent. -/
def treeOf (n r : Nat) (p : Nat → Nat) : List Int := (List.range n).map fun k => ((orN n (fun j => (!(k == r) && (p k == j)) || (!(j == r) && (p j == k))) (fun j => 2 ^ j) : Nat) : Int)
theorem treeOf_len (n r : Nat) (p : Nat → Nat) : (treeOf n r p).length = n := by simp [treeOf]
theorem treeOf_nb {n r k : Nat} {p : Nat → Nat} (hk : k < n) : nb (treeOf n r p) k = orN n (fun j => (!(k == r) && (p k == j)) || (!(j == r) && (p j == k))) (fun j => 2 ^ j) := by
  unfold nb el treeOf
  simp [List.getD, hk]
theorem treeOf_bit {n r k j : Nat} {p : Nat → Nat} (hk : k < n) : (nb (treeOf n r p) k).testBit j = true ↔ j < n ∧ ((k ≠ r ∧ p k = j) ∨ (j ≠ r ∧ p j = k)) := by
  rw [treeOf_nb hk, orN_testBit]
  constructor
  · rintro ⟨i, hi, a, b⟩
    rw [testBit_pow, decide_eq_true_eq] at b
    subst b
    refine ⟨hi, ?_⟩
    simpa using a
  · rintro ⟨a, b⟩
    exact ⟨j, a, by simpa using b, by rw [testBit_pow]; simp⟩
theorem tree_over {net : List Int} (h : Ok net) {s : Nat} (hs : s < 2 ^ net.length) (hT : Together net s) (hw : W net s = true) : ∃ t, Tree net t ∧ net.length - size s ≤ leafs t := by
  have h6 := h.hi
  obtain ⟨r, hr⟩ := pos_iff.1 hT.1
  have hrl := in_lt hs hr
  obtain ⟨lv, p, hlr, hp⟩ := steps_lvl h hs hr hT
  -- parents of all places
  have hq : ∀ v, ∃ j, v < net.length → v ≠ r → s.testBit j = true ∧ (nb net v).testBit j = true ∧ (s.testBit v = true → lv j < lv v) := fun v => by
    by_cases hv : v < net.length
    · cases hb : s.testBit v with
      | true =>
        by_cases hne : v = r
        · exact ⟨0, fun _ hh => absurd hne hh⟩
        · obtain ⟨a, b, c, _⟩ := hp v hb hne
          exact ⟨p v, fun _ _ => ⟨a, b, fun _ => c⟩⟩
      | false =>
        rcases (seen_iff h s hv).1 ((W_iff h hs).1 hw v hv) with x | ⟨i, _, x, y⟩
        · rw [hb] at x; cases x
        · exact ⟨i, fun _ _ => ⟨x, y, fun hh => by cases hh⟩⟩
    · exact ⟨0, fun hh => absurd hh hv⟩
  have hPex : ∃ P : Nat → Nat, ∀ v, v < net.length → v ≠ r → s.testBit (P v) = true ∧ (nb net v).testBit (P v) = true ∧ (s.testBit v = true → lv (P v) < lv v) := ⟨fun v => Classical.choose (hq v), fun v => Classical.choose_spec (hq v)⟩
  obtain ⟨P, hP⟩ := hPex
  have hPl : ∀ v, v < net.length → v ≠ r → P v < net.length := fun v hv hne => in_lt hs (hP v hv hne).1
  -- no two are each other's parents
  have hnot : ∀ k j, k < net.length → j < net.length → k ≠ r → j ≠ r → P k = j → P j = k → False := fun k j hk hj hkr hjr h1 h2 => by
    obtain ⟨a, _, c⟩ := hP k hk hkr
    obtain ⟨d, _, f⟩ := hP j hj hjr
    rw [h1] at a c
    rw [h2] at d f
    have := c d
    have := f a
    omega
  let t := treeOf net.length r P
  have hlen : t.length = net.length := treeOf_len _ _ _
  have hbit : ∀ {k j : Nat}, k < net.length → ((nb t k).testBit j = true ↔ j < net.length ∧ ((k ≠ r ∧ P k = j) ∨ (j ≠ r ∧ P j = k))) := fun hk => treeOf_bit hk
  have hOk : Ok t := by
    refine ⟨by rw [hlen]; exact h.lo, by rw [hlen]; exact h.hi, fun k hk => ?_, fun k hk => ?_, fun j k hj hk => ?_, fun k hk => ?_⟩
    · show el (treeOf net.length r P) k = _
      have hk' : k < net.length := by rw [← hlen]; exact hk
      have := treeOf_nb (r := r) (p := P) hk'
      show _ = ((nb (treeOf net.length r P) k : Nat) : Int)
      rw [this]
      unfold el treeOf
      simp [List.getD, hk']
    · have hk' : k < net.length := by rw [← hlen]; exact hk
      show nb (treeOf net.length r P) k < _
      rw [treeOf_nb hk', hlen]
      exact orN_lt fun j hj _ => Nat.pow_lt_pow_right (by omega) hj
    · rw [hlen] at hj hk
      rw [Bool.eq_iff_iff, hbit hk, hbit hj]
      constructor
      · rintro ⟨_, a | a⟩
        · exact ⟨hk, .inr a⟩
        · exact ⟨hk, .inl a⟩
      · rintro ⟨_, a | a⟩
        · exact ⟨hj, .inr a⟩
        · exact ⟨hj, .inl a⟩
    · rw [hlen] at hk
      refine not_true fun hc => ?_
      obtain ⟨_, a | a⟩ := (hbit hk).1 hc
      · have := (hP k hk a.1).2.1
        rw [a.2, h.irr k hk] at this; cases this
      · have := (hP k hk a.1).2.1
        rw [a.2, h.irr k hk] at this; cases this
  have hSub : Sub net t := by
    refine ⟨hOk, hlen, fun k j hk hj => ?_⟩
    obtain ⟨hjl, a | a⟩ := (hbit hk).1 hj
    · have := (hP k hk a.1).2.1
      rw [a.2] at this; exact this
    · have := (hP j hjl a.1).2.1
      rw [a.2, h.sym k j hk hjl] at this; exact this
  -- one part: each place comes to r
  have reach : ∀ m v, v < net.length → (if s.testBit v = true then lv v else 7) ≤ m → Reach t (allOf t) r v := by
    intro m
    induction m with
    | zero =>
      intro v hv hm
      cases hb : s.testBit v with
      | false => rw [hb] at hm; simp at hm
      | true =>
        rw [hb, if_pos rfl] at hm
        by_cases hvr : v = r
        · rw [hvr]; exact .here (by rw [allOf_testBit, hlen]; simpa using hrl)
        · have := (hP v hv hvr).2.2 hb; omega
    | succ m ih =>
      intro v hv hm
      by_cases hvr : v = r
      · rw [hvr]; exact .here (by rw [allOf_testBit, hlen]; simpa using hrl)
      · obtain ⟨a, b, c⟩ := hP v hv hvr
        have hpl := hPl v hv hvr
        have hle : (if s.testBit (P v) = true then lv (P v) else 7) ≤ m := by
          rw [if_pos a]
          cases hb : s.testBit v with
          | true => have := c hb; rw [hb, if_pos rfl] at hm; omega
          | false =>
            rw [hb] at hm
            simp at hm
            by_cases hpr : P v = r
            · rw [hpr, hlr]; omega
            · obtain ⟨_, _, _, h6'⟩ := hp (P v) a hpr
              omega
        exact .step (ih (P v) hpl hle) (by rw [hlen]; exact hpl) ((hbit hpl).2 ⟨hv, .inr ⟨hvr, rfl⟩⟩) (by rw [allOf_testBit, hlen]; simpa using hv)
  have hone : parts t = 1 := by
    rw [one_part hOk]
    intro j k hj hk
    rw [hlen] at hj hk
    refine (hOk.comp_testBit (by rw [hlen]; exact hj) k).2 ?_
    have a := reach _ j hj (Nat.le_refl _)
    have b := reach _ k hk (Nat.le_refl _)
    exact (a.symm hOk (by rw [hlen]; exact hrl)).trans b
  -- as many wires as places but one
  have hends : ends t = 2 * (net.length - 1) := by
    rw [ends_is hOk, hlen]
    have e1 : sumN net.length (fun k => sumN net.length (fun j => ((nb t k).testBit j).toNat)) = sumN net.length (fun k => sumN net.length (fun j => (decide (k ≠ r ∧ P k = j)).toNat)) + sumN net.length (fun k => sumN net.length (fun j => (decide (j ≠ r ∧ P j = k)).toNat)) := by
      rw [← sumN_add]
      refine sumN_congr fun k hk => ?_
      rw [← sumN_add]
      refine sumN_congr fun j hj => ?_
      have hb := hbit (j := j) hk
      by_cases h1 : k ≠ r ∧ P k = j
      · by_cases h2 : j ≠ r ∧ P j = k
        · exact (hnot k j hk hj h1.1 h2.1 h1.2 h2.2).elim
        · rw [hb.2 ⟨hj, .inl h1⟩, decide_eq_true h1, decide_eq_false h2]; rfl
      · by_cases h2 : j ≠ r ∧ P j = k
        · rw [hb.2 ⟨hj, .inr h2⟩, decide_eq_false h1, decide_eq_true h2]; rfl
        · have : (nb t k).testBit j = false := not_true fun hc => by
            rcases (hb.1 hc).2 with a | a
            · exact h1 a
            · exact h2 a
          rw [this, decide_eq_false h1, decide_eq_false h2]; rfl
    have e2 : sumN net.length (fun k => sumN net.length (fun j => (decide (k ≠ r ∧ P k = j)).toNat)) = net.length - 1 := by
      have e3 : sumN net.length (fun k => sumN net.length (fun j => (decide (k ≠ r ∧ P k = j)).toNat)) = cnt net.length (fun k => !(k == r)) := by
        refine sumN_congr fun k hk => ?_
        by_cases hkr : k = r
        · rw [sumN_congr (g := fun _ => 0) (fun j _ => by simp [hkr]), sumN_zero]; simp [hkr]
        · rw [sumN_one (k := P k) (hPl k hk hkr) (fun j _ hj => by rw [decide_eq_false (fun hc => hj hc.2.symm)]; rfl)]
          show (decide (k ≠ r ∧ P k = P k)).toNat = (!(k == r)).toNat
          rw [decide_eq_true (⟨hkr, rfl⟩ : k ≠ r ∧ P k = P k), show (k == r) = false by simpa using hkr]
          rfl
      have e4 := cnt_not net.length (fun k => k == r)
      have e5 : cnt net.length (fun k => k == r) = 1 := by
        show sumN net.length (fun k => (k == r).toNat) = 1
        rw [sumN_one (k := r) hrl (fun j _ hj => by simp [hj])]
        simp
      omega
    have e6 : sumN net.length (fun k => sumN net.length (fun j => (decide (j ≠ r ∧ P j = k)).toNat)) = sumN net.length (fun k => sumN net.length (fun j => (decide (k ≠ r ∧ P k = j)).toNat)) := by
      rw [sumN_swap]
    rw [e1, e6, e2]; omega
  have hwt := ends_wires hOk
  have hlo := h.lo
  refine ⟨t, ⟨hSub, hone, by omega⟩, ?_⟩
  -- the places outside are leaves
  rw [size_cnt h hs]
  have hn := cnt_not net.length (fun k => s.testBit k)
  have : cnt net.length (fun k => !s.testBit k) ≤ leafs t := by
    unfold leafs
    rw [hlen]
    refine cnt_mono fun k hk hb => ?_
    have hkr : k ≠ r := fun he => by rw [he, hr] at hb; cases hb
    have hkb : s.testBit k = false := by simpa using hb
    rw [beq_iff_eq, size_cnt hOk (hOk.lt k (by rw [hlen]; exact hk)), hlen]
    show sumN net.length (fun j => ((nb t k).testBit j).toNat) = 1
    rw [sumN_one (k := P k) (hPl k hk hkr) (fun j hj hne => ?_), (hbit hk).2 ⟨hPl k hk hkr, .inl ⟨hkr, rfl⟩⟩]
    · rfl
    · have : (nb t k).testBit j = false := not_true fun hc => by
        rcases ((hbit hk).1 hc).2 with a | a
        · exact hne a.2.symm
        · have := (hP j hj a.1).1
          rw [a.2, hkb] at this; cases this
      rw [this]; rfl
  omega
end Go.Proofs.Ythcidiihfjjpdaa
/- All guards move over a joined watch: one more guard than stand together. Conditions: those of each theorem. -/
namespace Go.Proofs.Ythcidiihfjjpdaa
set_option linter.unusedVariables false
set_option linter.unusedSimpArgs false

/-- The way from a towards r by parents. -/
def wayTo (p : Nat → Nat) (r a : Nat) : Nat → Nat
  | 0 => a
  | i + 1 => if wayTo p r a i = r then r else p (wayTo p r a i)
theorem shift {net : List Int} (h : Ok net) {s : Nat} (hs : s < 2 ^ net.length) (hT : Together net s) {v w a b : Nat} (hv : v < net.length) (hvs : s.testBit v = false) (hw : w < net.length) (hws : s.testBit w = false)
    (ha : s.testBit a = true) (hva : (nb net v).testBit a = true) (hb : s.testBit b = true) (hbw : (nb net b).testBit w = true) : AllMove net (s ||| 2 ^ v) (s ||| 2 ^ w) := by
  have h6 := h.hi
  obtain ⟨lv, p, hl0, hp⟩ := steps_lvl h hs hb hT
  let q := wayTo p b a
  have q0 : q 0 = a := rfl
  have qs : ∀ i, q (i + 1) = if q i = b then b else p (q i) := fun i => rfl
  have qin : ∀ i, s.testBit (q i) = true := by
    intro i
    induction i with
    | zero => exact ha
    | succ i ih =>
      rw [qs]
      split
      · exact hb
      · rename_i hne; exact (hp _ ih hne).1
  have qlv : ∀ i, lv (q (i + 1)) ≤ lv (q i) := fun i => by
    rw [qs]
    split
    · rw [hl0]; exact Nat.zero_le _
    · rename_i hne; exact Nat.le_of_lt (hp _ (qin i) hne).2.2.1
  have qmono : ∀ i j, i ≤ j → lv (q j) ≤ lv (q i) := by
    intro i j hij
    induction j with
    | zero => obtain rfl : i = 0 := by omega
              exact Nat.le_refl _
    | succ j ih =>
      by_cases he : i = j + 1
      · rw [he]; exact Nat.le_refl _
      · exact Nat.le_trans (qlv j) (ih (by omega))
  have hvb : ∀ x, (s ||| 2 ^ v).testBit x = true ↔ s.testBit x = true ∨ x = v := fun x => or_testBit _ _ _
  have hwb : ∀ x, (s ||| 2 ^ w).testBit x = true ↔ s.testBit x = true ∨ x = w := fun x => or_testBit _ _ _
  -- on the way or not
  let f : Nat → Nat := fun x => if x = v then a else @ite _ (∃ i, q i = x) (Classical.propDecidable _) (if x = b then w else p x) x
  have f1 : ∀ x, x = v → f x = a := fun x hx => by show (if x = v then _ else _) = _; rw [if_pos hx]
  have f2 : ∀ x, x ≠ v → (∃ i, q i = x) → x = b → f x = w := fun x hx hi he => by show (if x = v then _ else _) = _; rw [if_neg hx, if_pos hi, if_pos he]
  have f3 : ∀ x, x ≠ v → (∃ i, q i = x) → x ≠ b → f x = p x := fun x hx hi he => by show (if x = v then _ else _) = _; rw [if_neg hx, if_pos hi, if_neg he]
  have f4 : ∀ x, x ≠ v → (¬ ∃ i, q i = x) → f x = x := fun x hx hi => by show (if x = v then _ else _) = _; rw [if_neg hx, if_neg hi]
  have sv : ∀ x, s.testBit x = true → x ≠ v := fun x hx he => by rw [he, hvs] at hx; cases hx
  have sw : ∀ x, s.testBit x = true → x ≠ w := fun x hx he => by rw [he, hws] at hx; cases hx
  have pway : ∀ x, (∃ i, q i = x) → x ≠ b → ∃ i, q i = p x := fun x ⟨i, hi⟩ hne => ⟨i + 1, by rw [qs, hi, if_neg hne]⟩
  refine ⟨?_, f, fun x hx => ?_, fun x y hx hy he => ?_⟩
  · rw [size_add (lt64 h hs) (by omega) hvs, size_add (lt64 h hs) (by omega) hws]
  · rcases (hvb x).1 hx with hx | hx
    · by_cases hi : ∃ i, q i = x
      · by_cases hxb : x = b
        · rw [f2 x (sv x hx) hi hxb, hxb]
          exact ⟨(hwb w).2 (.inr rfl), (ball_testBit _ _ _).2 (.inl hbw)⟩
        · rw [f3 x (sv x hx) hi hxb]
          obtain ⟨c, d, _⟩ := hp x hx hxb
          exact ⟨(hwb _).2 (.inl c), (ball_testBit _ _ _).2 (.inl d)⟩
      · rw [f4 x (sv x hx) hi]
        exact ⟨(hwb x).2 (.inl hx), sees_self net x⟩
    · rw [f1 x hx, hx]
      exact ⟨(hwb a).2 (.inl ha), (ball_testBit _ _ _).2 (.inl hva)⟩
  · -- no two go to one place
    have key : ∀ x y, s.testBit x = true → s.testBit y = true → f x = f y → x = y := by
      intro x y hx hy he
      by_cases hi : ∃ i, q i = x
      · by_cases hxb : x = b
        · rw [f2 x (sv x hx) hi hxb] at he
          by_cases hj : ∃ i, q i = y
          · by_cases hyb : y = b
            · rw [hxb, hyb]
            · rw [f3 y (sv y hy) hj hyb] at he
              exact absurd he.symm (sw _ (hp y hy hyb).1)
          · rw [f4 y (sv y hy) hj] at he
            exact absurd he.symm (sw _ hy)
        · rw [f3 x (sv x hx) hi hxb] at he
          by_cases hj : ∃ i, q i = y
          · by_cases hyb : y = b
            · rw [f2 y (sv y hy) hj hyb] at he
              exact absurd he (sw _ (hp x hx hxb).1)
            · rw [f3 y (sv y hy) hj hyb] at he
              obtain ⟨i, hi⟩ := hi
              obtain ⟨j, hj⟩ := hj
              have e1 : q (i + 1) = p x := by rw [qs, hi, if_neg hxb]
              have e2 : q (j + 1) = p y := by rw [qs, hj, if_neg hyb]
              have l1 := (hp x hx hxb).2.2.1
              have l2 := (hp y hy hyb).2.2.1
              rcases Nat.lt_trichotomy i j with hlt | heq | hgt
              · have := qmono (i + 1) j (by omega)
                rw [e1, hj, he] at this; omega
              · rw [← hi, ← hj, heq]
              · have := qmono (j + 1) i (by omega)
                rw [e2, hi, ← he] at this; omega
          · rw [f4 y (sv y hy) hj] at he
            exact absurd (he ▸ pway x hi hxb) hj
      · rw [f4 x (sv x hx) hi] at he
        by_cases hj : ∃ i, q i = y
        · by_cases hyb : y = b
          · rw [f2 y (sv y hy) hj hyb] at he
            exact absurd he (sw _ hx)
          · rw [f3 y (sv y hy) hj hyb] at he
            exact absurd (he ▸ pway y hj hyb) hi
        · rw [f4 y (sv y hy) hj] at he; exact he
    have keyv : ∀ y, s.testBit y = true → f y ≠ a := by
      intro y hy he
      by_cases hj : ∃ i, q i = y
      · by_cases hyb : y = b
        · rw [f2 y (sv y hy) hj hyb] at he
          exact sw a ha he.symm
        · rw [f3 y (sv y hy) hj hyb] at he
          obtain ⟨j, hj⟩ := hj
          have l2 := (hp y hy hyb).2.2.1
          have := qmono 0 j (Nat.zero_le _)
          rw [q0, hj] at this
          rw [he] at l2
          omega
      · rw [f4 y (sv y hy) hj] at he
        exact hj ⟨0, by rw [q0, he]⟩
    rcases (hvb x).1 hx with hx | hx <;> rcases (hvb y).1 hy with hy | hy
    · exact key x y hx hy he
    · rw [f1 y hy] at he; exact absurd he (keyv x hx)
    · rw [f1 x hx] at he; exact absurd he.symm (keyv y hy)
    · rw [hx, hy]
/-- One more guard than stand together, and watch. -/
theorem allEternal_joined {net : List Int} (h : Ok net) {s : Nat} (hs : s < 2 ^ net.length) (hT : Together net s) (hW : W net s = true) : ∃ t, t < 2 ^ net.length ∧ AllEternal net t ∧ size t ≤ size s + 1 := by
  have h6 := h.hi
  have hnb : ∀ j, j < net.length → s.testBit j = false → ∃ i, s.testBit i = true ∧ (nb net j).testBit i = true := fun j hj hb => by
    rcases (seen_iff h s hj).1 ((W_iff h hs).1 hW j hj) with x | ⟨i, _, x, y⟩
    · rw [hb] at x; cases x
    · exact ⟨i, x, y⟩
  by_cases hex : ∃ v, v < net.length ∧ s.testBit v = false
  · obtain ⟨v0, hv0, hb0⟩ := hex
    refine ⟨s ||| 2 ^ v0, or_lt hs hv0, ⟨fun t => ∃ v, v < net.length ∧ s.testBit v = false ∧ t = s ||| 2 ^ v, ?_, v0, hv0, hb0, rfl⟩, by rw [size_add (lt64 h hs) (by omega) hb0]; exact Nat.le_refl _⟩
    rintro _ _ ⟨v, hv, hvb, rfl⟩ k hk hkb
    have hks : s.testBit k = false := not_true fun hc => by rw [(or_testBit _ _ _).2 (.inl hc)] at hkb; cases hkb
    obtain ⟨a, ha, hva⟩ := hnb v hv hvb
    obtain ⟨b, hb, hkb2⟩ := hnb k hk hks
    have hbl := in_lt hs hb
    exact ⟨s ||| 2 ^ k, or_lt hs hk, (or_testBit _ _ _).2 (.inr rfl), shift h hs hT hv hvb hk hks ha hva hb (by rw [h.sym k b hk hbl]; exact hkb2), k, hk, hks, rfl⟩
  · have : s = allOf net := eq_of_bits hs (allOf_lt net) fun j hj => by
      rw [allOf_testBit]
      cases hb : s.testBit j with
      | true => simpa using hj
      | false => exact absurd ⟨j, hj, hb⟩ hex
    refine ⟨s, hs, eternal_allEternal h hs (by rw [this]; exact eternal_all), by omega⟩
end Go.Proofs.Ythcidiihfjjpdaa
/- Draws of chapters 3 to 5. Conditions: those of each theorem. -/
namespace Go.Proofs.Ythcidiihfjjpdaa
open D Go.RowKit
set_option linter.unusedVariables false
set_option linter.unusedSimpArgs false


end Go.Proofs.Ythcidiihfjjpdaa
/- The model's functions of chapter 6 in natural numbers, and draws. Conditions: those of each theorem. -/
namespace Go.Proofs.Ythcidiihfjjpdaa
open D Go.RowKit
set_option linter.unusedVariables false
set_option linter.unusedSimpArgs false


theorem fold_shift {α : Type} (N : Nat) (f : α → Nat → α) (a : α) : fold (N + 1) f a = fold N (fun t k => f t (k + 1)) (f a 0) := by
  induction N with
  | zero => rfl
  | succ N ih => rw [fold_succ, ih, fold_succ]
/-- The least size of sets of a kind; -1 if there is none. -/
def minStep (p : Nat → Bool) (t : Int) (s : Nat) : Int := if p s = true then (if t < 0 then ((size s : Nat) : Int) else if ((size s : Nat) : Int) < t then ((size s : Nat) : Int) else t) else t
def minI (net : List Int) (p : Nat → Bool) : Int := fold (2 ^ net.length) (minStep p) (-1)
theorem minI_fold (p : Nat → Bool) (N : Nat) : (fold N (minStep p) (-1) = -1 ∧ ∀ s, s < N → p s = false) ∨ ∃ m : Nat, fold N (minStep p) (-1) = m ∧ (∃ s, s < N ∧ p s = true ∧ size s = m) ∧ ∀ s, s < N → p s = true → m ≤ size s := by
  induction N with
  | zero => exact .inl ⟨rfl, fun s hs => by omega⟩
  | succ N ih =>
    rw [fold_succ]
    generalize fold N (minStep p) (-1) = g at ih ⊢
    unfold minStep
    cases hp : p N with
    | false =>
      simp only [Bool.false_eq_true, if_false]
      rcases ih with ⟨a, b⟩ | ⟨m, a, ⟨s, s1, s2⟩, c⟩
      · exact .inl ⟨a, fun s hs => by
          by_cases he : s = N
          · rw [he]; exact hp
          · exact b s (by omega)⟩
      · exact .inr ⟨m, a, ⟨s, by omega, s2⟩, fun s hs hps => by
          by_cases he : s = N
          · rw [he, hp] at hps; cases hps
          · exact c s (by omega) hps⟩
    | true =>
      simp only [if_true]
      right
      rcases ih with ⟨a, b⟩ | ⟨m, a, ⟨s, s1, s2, s3⟩, c⟩
      · rw [a, if_pos (by decide)]
        exact ⟨_, rfl, ⟨N, by omega, hp, rfl⟩, fun s hs hps => by
          by_cases he : s = N
          · rw [he]; exact Nat.le_refl _
          · rw [b s (by omega)] at hps; cases hps⟩
      · rw [a, if_neg (by omega)]
        by_cases hlt : ((size N : Nat) : Int) < (m : Int)
        · rw [if_pos hlt]
          exact ⟨_, rfl, ⟨N, by omega, hp, rfl⟩, fun s hs hps => by
            by_cases he : s = N
            · rw [he]; exact Nat.le_refl _
            · have := c s (by omega) hps; omega⟩
        · rw [if_neg hlt]
          exact ⟨m, rfl, ⟨s, by omega, s2, s3⟩, fun q hq hpq => by
            by_cases he : q = N
            · rw [he]; omega
            · exact c q (by omega) hpq⟩
theorem minI_is (net : List Int) (p : Nat → Bool) : (minI net p = -1 ∧ ∀ s, s < 2 ^ net.length → p s = false) ∨ ∃ m : Nat, minI net p = m ∧ MinOf net p m := by
  rcases minI_fold p (2 ^ net.length) with h | ⟨m, a, b, c⟩
  · exact .inl h
  · exact .inr ⟨m, a, b, c⟩
theorem minStep_bound {p : Nat → Bool} {t : Int} {s : Nat} (ht : -1 ≤ t ∧ t ≤ 6) : -1 ≤ minStep p t s ∧ minStep p t s ≤ 6 := by
  have := size_le s
  unfold minStep
  split
  · split
    · omega
    · split <;> omega
  · exact ht
/-- Does a set stand together? -/
noncomputable def together (net : List Int) (s : Nat) : Bool := @decide (Together net s) (Classical.propDecidable _)
theorem together_iff {net : List Int} {s : Nat} : together net s = true ↔ Together net s := by unfold together; exact @decide_eq_true_iff _ (Classical.propDecidable _)
noncomputable def joined (net : List Int) (s : Nat) : Bool := together net s && W net s
theorem joined_zero (net : List Int) : joined net 0 = false := by
  have : together net 0 = false := not_true fun hc => (together_iff.1 hc).1 rfl
  unfold joined; rw [this]; rfl
end Go.Proofs.Ythcidiihfjjpdaa
/- Plain facts about the program's own ways of chapters 6 to 9: least numbers from -1 on, the first row of the fewest guards, the least place of a set. Conditions: those of each theorem. -/
namespace Go.Proofs.Ythcidiihfjjpdaa
open D Go.RowKit
set_option linter.unusedVariables false
set_option linter.unusedSimpArgs false

theorem minI_min {net : List Int} (h : Ok net) {p : Nat → Bool} (hex : ∃ s, s < 2 ^ net.length ∧ p s = true) : minI net p = ((minSize net p : Nat) : Int) := by
  rcases minI_is net p with ⟨_, hno⟩ | ⟨m, e, hm⟩
  · obtain ⟨s, hs, hp⟩ := hex
    rw [hno s hs] at hp; cases hp
  · rw [e, hm.uniq (minSize_is h hex)]
/-- The least number of a kind; -1 if there is none. -/
def minStepV (p : Nat → Bool) (v : Nat → Nat) (t : Int) (s : Nat) : Int := if p s = true then (if t < 0 then ((v s : Nat) : Int) else if ((v s : Nat) : Int) < t then ((v s : Nat) : Int) else t) else t
theorem minStep_V (p : Nat → Bool) : minStep p = minStepV p size := rfl
theorem minStepV_bound {p : Nat → Bool} {v : Nat → Nat} {t : Int} {s b : Nat} (hv : v s ≤ b) (ht : -1 ≤ t ∧ t ≤ b) : -1 ≤ minStepV p v t s ∧ minStepV p v t s ≤ b := by
  unfold minStepV
  split
  · split
    · omega
    · split <;> omega
  · exact ht
theorem minV_fold (p : Nat → Bool) (v : Nat → Nat) (N : Nat) : (fold N (minStepV p v) (-1) = -1 ∧ ∀ s, s < N → p s = false) ∨ ∃ m : Nat, fold N (minStepV p v) (-1) = m ∧ (∃ s, s < N ∧ p s = true ∧ v s = m) ∧ ∀ s, s < N → p s = true → m ≤ v s := by
  induction N with
  | zero => exact .inl ⟨rfl, fun s hs => by omega⟩
  | succ N ih =>
    rw [fold_succ]
    generalize fold N (minStepV p v) (-1) = g at ih ⊢
    unfold minStepV
    cases hp : p N with
    | false =>
      simp only [Bool.false_eq_true, if_false]
      rcases ih with ⟨a, b⟩ | ⟨m, a, ⟨s, s1, s2⟩, c⟩
      · exact .inl ⟨a, fun s hs => by
          by_cases he : s = N
          · rw [he]; exact hp
          · exact b s (by omega)⟩
      · exact .inr ⟨m, a, ⟨s, by omega, s2⟩, fun s hs hps => by
          by_cases he : s = N
          · rw [he, hp] at hps; cases hps
          · exact c s (by omega) hps⟩
    | true =>
      simp only [if_true]
      right
      rcases ih with ⟨a, b⟩ | ⟨m, a, ⟨s, s1, s2, s3⟩, c⟩
      · rw [a, if_pos (by decide)]
        exact ⟨_, rfl, ⟨N, by omega, hp, rfl⟩, fun s hs hps => by
          by_cases he : s = N
          · rw [he]; exact Nat.le_refl _
          · rw [b s (by omega)] at hps; cases hps⟩
      · rw [a, if_neg (by omega)]
        by_cases hlt : ((v N : Nat) : Int) < (m : Int)
        · rw [if_pos hlt]
          exact ⟨_, rfl, ⟨N, by omega, hp, rfl⟩, fun s hs hps => by
            by_cases he : s = N
            · rw [he]; exact Nat.le_refl _
            · have := c s (by omega) hps; omega⟩
        · rw [if_neg hlt]
          exact ⟨m, rfl, ⟨s, by omega, s2, s3⟩, fun q hq hpq => by
            by_cases he : q = N
            · rw [he]; omega
            · exact c q (by omega) hpq⟩
theorem minV_eq {N : Nat} {p : Nat → Bool} {v : Nat → Nat} {t0 : Nat} (hex : ∃ o, o < N ∧ p o = true ∧ v o = t0) :
    fold N (minStepV p v) (-1) = ((fold N (fun t m => if p m = true then (if v m < t then v m else t) else t) t0 : Nat) : Int) := by
  obtain ⟨h1, h2, h3⟩ := minFold (N := N) (p := p) (f := v) t0
  generalize fold N (fun t m => if p m = true then (if v m < t then v m else t) else t) t0 = b at h1 h2 h3 ⊢
  obtain ⟨o, o1, o2, o3⟩ := hex
  rcases minV_fold p v N with ⟨_, hno⟩ | ⟨m, e, ⟨s, s1, s2, s3⟩, hm⟩
  · rw [hno o o1] at o2; cases o2
  · rw [e]
    have a := h1 s s1 s2
    have : m ≤ b := by
      rcases h3 with h3 | ⟨q, q1, q2, q3⟩
      · have := hm o o1 o2; omega
      · have := hm q q1 q2; omega
    omega
theorem italian_one {net : List Int} (h : Ok net) : ∃ o, o < 3 ^ net.length ∧ italianB net (digs net.length o) = true ∧ sumN net.length (rv (digs net.length o)) = net.length := by
  obtain ⟨o, ho, hd⟩ := ones_digs (n := net.length)
  refine ⟨o, ho, italianB_iff.2 (italian_congr (fun k hk => ?_) (roman_italian ones_row.1)), ?_⟩
  · rw [digs_rv hk]; exact (hd k hk).symm
  · rw [sumN_congr (g := fun _ => 1) (fun k hk => by rw [digs_rv hk]; exact hd k hk), sumN_const]; omega
theorem weak_one {net : List Int} (h : Ok net) : ∃ o, o < 3 ^ net.length ∧ weakB net (digs net.length o) = true ∧ sumN net.length (rv (digs net.length o)) = net.length := by
  obtain ⟨o, ho, hd⟩ := ones_digs (n := net.length)
  refine ⟨o, ho, weakB_iff.2 (weak_congr (fun k hk => ?_) (roman_weak h ones_row.1)), ?_⟩
  · rw [digs_rv hk]; exact (hd k hk).symm
  · rw [sumN_congr (g := fun _ => 1) (fun k hk => by rw [digs_rv hk]; exact hd k hk), sumN_const]; omega
theorem minV_italian {net : List Int} (h : Ok net) : fold (3 ^ net.length) (minStepV (fun m => italianB net (digs net.length m)) fun m => sumN net.length (rv (digs net.length m))) (-1) = ((fewestItalian net : Nat) : Int) := minV_eq (italian_one h)
theorem minV_weak {net : List Int} (h : Ok net) : fold (3 ^ net.length) (minStepV (fun m => weakB net (digs net.length m)) fun m => sumN net.length (rv (digs net.length m))) (-1) = ((fewestWeak net : Nat) : Int) := minV_eq (weak_one h)
/-- All rows but the last one have fewer guards than two at each place. -/
theorem sums_last : ∀ n, n < 7 → ∀ m, m < 3 ^ n - 1 → sumN n (dig n m) < 2 * n := by decide +kernel
theorem last_two : ∀ n, n < 7 → ∀ k, k < n → dig n (3 ^ n - 1) k = 2 := by decide +kernel
theorem sum_digs (n m : Nat) : sumN n (rv (digs n m)) = sumN n (dig n m) := sumN_congr fun k hk => digs_rv hk
def lessStep (n : Nat) (p : List Int → Bool) (best : List Int) (m : Nat) : List Int := if sumN n (rv (digs n m)) < sumN n (rv best) ∧ p (digs n m) = true then digs n m else best
theorem best_last {n : Nat} (h1 : 1 ≤ n) (h6 : n ≤ 6) (p : List Int → Bool) (hp : p (digs n (3 ^ n - 1)) = true) : fold (3 ^ n - 1) (lessStep n p) (digs n (3 ^ n - 1)) = bestRow n p := by
  have h3 : 0 < 3 ^ n := Nat.pow_pos (by omega)
  have hl : sumN n (rv (digs n (3 ^ n - 1))) = 2 * n := by rw [sum_digs, sumN_congr (g := fun _ => 2) (last_two n (by omega)), sumN_const]; omega
  have key : ∀ k, k ≤ 3 ^ n - 1 → (fold k (rowStep n p) [] = [] ∧ fold k (lessStep n p) (digs n (3 ^ n - 1)) = digs n (3 ^ n - 1)) ∨ ∃ b, fold k (rowStep n p) [] = digs n b ∧ fold k (lessStep n p) (digs n (3 ^ n - 1)) = digs n b ∧ sumN n (rv (digs n b)) < 2 * n := by
    intro k
    induction k with
    | zero => intro _; exact .inl ⟨rfl, rfl⟩
    | succ k ih =>
      intro hk
      have hs : sumN n (rv (digs n k)) < 2 * n := by rw [sum_digs]; exact sums_last n (by omega) k (by omega)
      rcases ih (by omega) with ⟨a, b⟩ | ⟨b, a1, a2, a3⟩
      · rw [fold_succ, fold_succ, a, b]
        unfold rowStep lessStep
        cases hq : p (digs n k) with
        | false => rw [if_neg (fun hc => by cases hc.1), if_neg (fun hc => by cases hc.2)]; exact .inl ⟨rfl, rfl⟩
        | true => rw [if_pos ⟨rfl, .inl rfl⟩, if_pos ⟨by omega, rfl⟩]; exact .inr ⟨k, rfl, rfl, hs⟩
      · rw [fold_succ, fold_succ, a1, a2]
        unfold rowStep lessStep
        right
        by_cases hc : p (digs n k) = true ∧ sumN n (rv (digs n k)) < sumN n (rv (digs n b))
        · rw [if_pos ⟨hc.1, .inr hc.2⟩, if_pos ⟨hc.2, hc.1⟩]; exact ⟨k, rfl, rfl, hs⟩
        · rw [if_neg (fun hd => by
            rcases hd.2 with hx | hx
            · rw [digs_len] at hx; omega
            · exact hc ⟨hd.1, hx⟩), if_neg (fun hd => hc ⟨hd.2, hd.1⟩)]
          exact ⟨b, rfl, rfl, a3⟩
  unfold bestRow
  have e3 : 3 ^ n = (3 ^ n - 1) + 1 := by omega
  rw [show fold (3 ^ n) (rowStep n p) [] = fold ((3 ^ n - 1) + 1) (rowStep n p) [] by rw [← e3], fold_succ]
  rcases key _ (Nat.le_refl _) with ⟨a, b⟩ | ⟨b, a1, a2, a3⟩
  · rw [a, b]; unfold rowStep; rw [if_pos ⟨hp, .inl rfl⟩]
  · rw [a1, a2]; unfold rowStep
    rw [if_neg (fun hd => by
      rcases hd.2 with hx | hx
      · rw [digs_len] at hx; omega
      · omega)]
theorem roman_last {net : List Int} (h : Ok net) : romanB net (digs net.length (3 ^ net.length - 1)) = true := by
  have h6 := h.hi
  rw [romanB_iff]
  intro k hk h0
  rw [digs_rv hk, last_two _ (by omega) k hk] at h0
  omega
/-- The least place of a set, as the bit that Go finds with the negative of it. -/
theorem low_bit : ∀ s, s < 64 → s ≠ 0 → ∃ i, i < 6 ∧ bits .and .i64 ((s : Nat) : Int) (IntKind.i64.wrap (0 - ((s : Nat) : Int))) = ((2 ^ i : Nat) : Int) ∧ s.testBit i = true := by decide +kernel
end Go.Proofs.Ythcidiihfjjpdaa
/- The program's functions of chapters 3 and 4 in natural numbers. Conditions: those of each theorem. -/
namespace Go.Proofs.Ythcidiihfjjpdaa
open D Go.RowKit
set_option linter.unusedVariables false
set_option linter.unusedSimpArgs false


theorem I.with_n {s k : Nat} (hs : s < 64) (hk : k < 6) : I.with_t s k = some ((s ||| 2 ^ k : Nat) : Int) := by
  unfold I.with_t I.with_tree
  rw [cnd_f (by simp), one_shl (by omega), i64_or_nat _ _ (by omega) (pow2_lt (by omega))]
theorem twice_lt {net : List Int} (h : Ok net) {s : Nat} (hs : s < 2 ^ net.length) : twice net s < 2 ^ net.length := (twice_is h hs).lt
end Go.Proofs.Ythcidiihfjjpdaa
/- The program's functions of chapter 6 but MostLeaves, in natural numbers. Conditions: those of each theorem. -/
namespace Go.Proofs.Ythcidiihfjjpdaa
open D Go.RowKit
set_option linter.unusedVariables false
set_option linter.unusedSimpArgs false


theorem I.fewerOf_n (t : Int) (v : Nat) : I.fewerOf_t t ((v : Nat) : Int) = some (if t < 0 then ((v : Nat) : Int) else if ((v : Nat) : Int) < t then ((v : Nat) : Int) else t) := by
  unfold I.fewerOf_t I.fewerOf_tree
  by_cases h0 : t < 0
  · simp [h0]
  · by_cases h1 : ((v : Nat) : Int) < t <;> simp [h0, h1]
theorem I.fewerOf_V (p : Nat → Bool) (v : Nat → Nat) {t : Int} {k : Nat} (hp : p k = true) : I.fewerOf_t t ((v k : Nat) : Int) = some (minStepV p v t k) := by
  rw [I.fewerOf_n]; unfold minStepV; rw [if_pos hp]
theorem minStepV_no {p : Nat → Bool} {v : Nat → Nat} {t : Int} {k : Nat} (hp : p k = false) : minStepV p v t k = t := by unfold minStepV; rw [hp]; rfl
theorem fold_reach (net : List Int) (A m s : Nat) : fold m (fun t _ => t ||| (A &&& near net t)) s = steps net A m s := by
  induction m with
  | zero => rfl
  | succ m ih => rw [fold_succ, ih, Nat.and_comm]; rfl
end Go.Proofs.Ythcidiihfjjpdaa
