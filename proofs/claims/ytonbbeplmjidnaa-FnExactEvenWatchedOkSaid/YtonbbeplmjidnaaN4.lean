/- What the functions of chapter 1 come to. Conditions: those of each theorem. -/
import Derived.Test.YtonbbeplmjidnaaN2
namespace Go.Proofs.Ytonbbeplmjidnaa
open D Go.RowKit
set_option linter.unusedVariables false
set_option linter.unusedSimpArgs false


theorem I.BallOf_x {net : List Int} (e : I.NetOk_t net = some false) (p : Int) : I.BallOf_t net p = some (-1) := by
  unfold I.BallOf_t I.BallOf_tree; rw [e]; rfl
theorem I.BallOf_o {net : List Int} (e : I.NetOk_t net = some true) {p : Int} (hp : decide (0 ≤ p ∧ p < net.length) = false) : I.BallOf_t net p = some (-1) := by
  unfold I.BallOf_t I.BallOf_tree; rw [e, I.placeIn_n, hp]; rfl
theorem I.BallOf_n {net : List Int} (h : Ok net) (e : I.NetOk_t net = some true) {p : Nat} (hp : p < net.length) : I.BallOf_t net p = some ((ball net p : Nat) : Int) := by
  unfold I.BallOf_t I.BallOf_tree
  rw [e, I.placeIn_n, show decide (0 ≤ (p : Int) ∧ (p : Int) < net.length) = true by simp; omega, I.ballIn_n h hp]
  rfl
theorem l1In_place {net : List Int} (h : Ok net) (p : Int) : decide (0 ≤ p ∧ p ≤ IntKind.i64.wrap ((↑net.length : Int) - 1)) = decide (0 ≤ p ∧ p < net.length) := by
  have h1 := h.lo
  have h6 := h.hi
  rw [i64_wrap (by omega) (by omega), decide_eq_decide]
  omega
theorem set_in {net : List Int} {s : Nat} (hs : s < 2 ^ net.length) : decide (0 ≤ (s : Int) ∧ (s : Int) < 2 ^ net.length) = true := by
  rw [two_pow_cast, decide_eq_true_eq]; omega
/-! ### Wires -/
def ends (net : List Int) : Nat := sumN net.length (fun k => size (nb net k))
def wires (net : List Int) : Nat := ends net / 2
theorem I.WiresOf_x {net : List Int} (e : I.NetOk_t net = some false) : I.WiresOf_t net = some (-1) := by
  unfold I.WiresOf_t I.WiresOf_tree; rw [e]; rfl
theorem I.WiresOf_n {net : List Int} (h : Ok net) (e : I.NetOk_t net = some true) : I.WiresOf_t net = some ((wires net : Nat) : Int) := by
  unfold I.WiresOf_t I.WiresOf_tree
  have h6 := h.hi
  rw [e]
  have := run_for (run := I.WiresOf_run5 net) (len := net.length) (fun k (t : Nat) => ((t : Int), (k : Int))) (fun t k => t + size (nb net k)) (fun t => (t : Int)) (fun k t => t ≤ 6 * k) (by omega) (fun n k t hk ht => ?_) (fun n t ht => ?_) (t0 := 0) (by omega)
  · obtain ⟨this, hb⟩ := this
    simp only [optC, Bool.not_true, cond_false]
    rw [show I.WiresOf_run5 net FUEL (0, 0) = _ from this]
    simp only
    rw [fold_sum] at hb
    rw [fold_sum, div2_nat (by omega)]
    rfl
  · simp only [I.WiresOf_run5, I.WiresOf_step5]
    have hz := size_le (nb net k)
    rw [cnd_t (by simp; omega), cnd_t (by simp; omega), Int.toNat_natCast, h.eli hk, I.sizeOf_n]
    simp only [optC]
    rw [add_nat (by omega), add1_nat (by omega)]
    exact ⟨rfl, by omega⟩
  · simp only [I.WiresOf_run5, I.WiresOf_step5]
    rw [cnd_f (by simp)]
/-! ### Parts -/
theorem fold_steps {net : List Int} (h : Ok net) (m s : Nat) : fold m (fun t _ => seen net t) s = steps net (allOf net) m s := by
  induction m with
  | zero => rfl
  | succ m ih => rw [fold_succ, ih]; show seen net _ = grow net _ _; rw [h.grow_all]
theorem I.partIn_n {net : List Int} (h : Ok net) {p : Nat} (hp : p < net.length) : I.partIn_t net p = some ((comp net p : Nat) : Int) := by
  unfold I.partIn_t I.partIn_tree
  have h6 := h.hi
  have hpl : 2 ^ p < 2 ^ net.length := Nat.pow_lt_pow_right (by omega) hp
  have := (run_for (run := I.partIn_run3 net) (len := net.length - 1) (fun k (t : Nat) => ((t : Int), ((k + 1 : Nat) : Int))) (fun t k => seen net t) (fun t => (t : Int)) (fun k t => t < 2 ^ net.length) (by omega) (fun n k t hk ht => ?_) (fun n t ht => ?_) (t0 := 2 ^ p) hpl).1
  · rw [cnd_f (by simp), one_shl (by omega), show I.partIn_run3 net FUEL (((2 ^ p : Nat) : Int), 1) = _ from this, fold_steps h, h.comp_eq hp (by omega)]
    rfl
  · simp only [I.partIn_run3, I.partIn_step3]
    rw [cnd_t (by simp; omega), I.seenIn_n h ht]
    simp only [optC]
    rw [add1_nat (by omega)]
    exact ⟨rfl, h.seen_lt ht⟩
  · simp only [I.partIn_run3, I.partIn_step3]
    rw [cnd_f (by simp; omega)]
theorem steps_part {net : List Int} (h : Ok net) {A i m : Nat} (hi : i < net.length) (hf : grow net A (steps net A m (2 ^ i &&& A)) = steps net A m (2 ^ i &&& A)) : steps net A m (2 ^ i &&& A) = part net A i := by
  by_cases hm : m ≤ 6
  · exact (steps_fix hf 6 hm).symm
  · exact steps_fix (h.part_fix hi) m (by omega)
theorem place_in {net : List Int} {p : Nat} (hp : p < net.length) : decide (0 ≤ (p : Int) ∧ (p : Int) < net.length) = true := by simp; omega
theorem root_reached {net : List Int} (h : Ok net) {k : Nat} (hk : k < net.length) : root net k = true ↔ ∀ i, i < k → (comp net i).testBit k = false := by
  rw [root_iff]
  constructor
  · intro ha i hi; rw [h.comp_symm (by omega) hk]; exact ha i hi
  · intro ha i hi; rw [h.comp_symm hk (by omega)]; exact ha i hi
theorem I.PartMany_n {net : List Int} (h : Ok net) (e : I.NetOk_t net = some true) : I.PartMany_t net = some ((parts net : Nat) : Int) := by
  unfold I.PartMany_t I.PartMany_tree
  have h6 := h.hi
  have h64 := h.pow
  rw [e]
  have := run_for (run := I.PartMany_run6 net) (len := net.length) (fun k (t : Nat × Nat) => ((t.1 : Int), (t.2 : Int), (k : Int))) (fun t k => if t.2.testBit k = true then t else (t.1 + 1, t.2 ||| comp net k)) (fun t => (t.1 : Int))
    (fun k t => t.1 = cnt k (root net) ∧ t.2 < 2 ^ net.length ∧ ∀ j, t.2.testBit j = true ↔ ∃ i, i < k ∧ (comp net i).testBit j = true) (by omega) (fun n k t hk ht => ?_) (fun n t ht => ?_) (t0 := (0, 0)) ⟨rfl, Nat.two_pow_pos _, fun j => by simp⟩
  · rw [parts_cnt, ← this.2.1]
    simp only [optC, Bool.not_true, cond_false]
    rw [show I.PartMany_run6 net FUEL (0, 0, 0) = _ from this.1]
  · obtain ⟨a, b⟩ := t
    obtain ⟨h1, h2, h3⟩ := ht
    simp only at h1 h2 h3
    have hcl := cnt_le k (root net)
    have hc := h.comp_lt hk
    have hroot : root net k = !b.testBit k := by
      rw [Bool.eq_iff_iff, root_reached h hk, Bool.not_eq_true']
      constructor
      · intro ha
        cases hb : b.testBit k with
        | false => rfl
        | true =>
          obtain ⟨i, hi, hx⟩ := (h3 k).1 hb
          rw [ha i hi] at hx; cases hx
      · intro hb i hi
        cases hx : (comp net i).testBit k with
        | false => rfl
        | true => rw [(h3 k).2 ⟨i, hi, hx⟩] at hb; cases hb
    simp only [I.PartMany_run6, I.PartMany_step6]
    rw [cnd_t (by simp; omega), I.hasPlace_n _ _ (by omega)]
    simp only [optC]
    cases hb : b.testBit k with
    | true =>
      simp only [Bool.not_true, cond_false, if_true]
      rw [add1_nat (by omega)]
      refine ⟨rfl, ?_, h2, fun j => ?_⟩
      · show a = cnt k (root net) + (root net k).toNat
        rw [hroot, hb]; simpa using h1
      · rw [h3 j]
        constructor
        · rintro ⟨i, hi, hx⟩; exact ⟨i, by omega, hx⟩
        · rintro ⟨i, hi, hx⟩
          by_cases hik : i = k
          · subst hik
            obtain ⟨q, hq, hqx⟩ := (h3 i).1 hb
            have := h.comp_same (by omega) hk hqx
            exact ⟨q, hq, by rw [this]; exact hx⟩
          · exact ⟨i, by omega, hx⟩
    | false =>
      simp only [Bool.not_false, cond_true, Bool.false_eq_true, if_false]
      rw [I.partIn_n h hk]
      simp only
      rw [add1_nat (by omega), add1_nat (by omega), i64_or_nat _ _ (by omega) (by omega)]
      refine ⟨rfl, ?_, Nat.or_lt_two_pow h2 hc, fun j => ?_⟩
      · show a + 1 = cnt k (root net) + (root net k).toNat
        rw [hroot, hb, h1]; rfl
      · rw [Nat.testBit_or, Bool.or_eq_true, h3 j]
        constructor
        · rintro (⟨i, hi, hx⟩ | hx)
          · exact ⟨i, by omega, hx⟩
          · exact ⟨k, by omega, hx⟩
        · rintro ⟨i, hi, hx⟩
          by_cases hik : i = k
          · subst hik; exact .inr hx
          · exact .inl ⟨i, by omega, hx⟩
  · simp only [I.PartMany_run6, I.PartMany_step6]
    rw [cnd_f (by simp)]
theorem I.PartMany_x {net : List Int} (e : I.NetOk_t net = some false) : I.PartMany_t net = some (-1) := by
  unfold I.PartMany_t I.PartMany_tree; rw [e]; rfl
/-! ### Lone places -/
def lone (net : List Int) : Nat := orN net.length (fun k => nb net k == 0) (fun k => 2 ^ k)
theorem lone_lt (net : List Int) : lone net < 2 ^ net.length := orN_lt fun k hk _ => Nat.pow_lt_pow_right (by omega) hk
theorem lone_testBit (net : List Int) (j : Nat) : (lone net).testBit j = true ↔ j < net.length ∧ nb net j = 0 := by
  unfold lone
  rw [orN_testBit]
  constructor
  · rintro ⟨k, hk, a, b⟩
    rw [testBit_pow, decide_eq_true_eq] at b
    subst b
    exact ⟨hk, by simpa using a⟩
  · rintro ⟨a, b⟩
    exact ⟨j, a, by simpa using b, by rw [testBit_pow]; simp⟩
theorem L.sizeOf_n {s : Nat} (hs : s < 64) : L.sizeOf_t s = some ((size s : Nat) : Int) := by
  unfold L.sizeOf_t L.sizeOf_tree
  have : L.sizeOf_run2 FUEL ((s : Int), 0) = some ((size s : Nat) : Int) := by
    refine run_fuel (run := L.sizeOf_run2) (fun q => ∃ a t : Nat, q = ((a : Int), (t : Int)) ∧ a < 64 ∧ t + size a = size s) (fun q => q.1.toNat) (fun _ => ((size s : Nat) : Int)) ?_ ⟨s, 0, rfl, hs, by omega⟩ (by simp only [Int.toNat_natCast]; omega)
    rintro n _ ⟨a, t, rfl, ha, ht⟩
    have hz := size_le s
    simp only [L.sizeOf_run2, L.sizeOf_step2]
    by_cases h0 : a = 0
    · subst h0
      left
      rw [cnd_f (by simp)]
      have : size 0 = 0 := by decide
      rw [← ht, this]; rfl
    · right
      have h1 := l1Size_spec a ha
      rw [cnd_t (by simp; omega), div2_nat (by omega), tmod2_nat, add_nat (by omega)]
      exact ⟨_, rfl, ⟨_, _, rfl, by omega, by omega⟩, by simp only [Int.toNat_natCast]; omega, trivial⟩
  rw [this]; rfl
end Go.Proofs.Ytonbbeplmjidnaa
