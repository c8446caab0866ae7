/- Plain lemmas on the twins of chapter 1. Conditions: those of each theorem. -/
import Derived.Test.YtpgcbaaopeinkaaNet
import Derived.Test.YtpgcbaaopeinkaaPi1
namespace Go.Proofs.Ytpgcbaaopeinkaa
open Go.RowKit
set_option linter.unusedVariables false
set_option linter.unusedSimpArgs false

theorem I.NetOk_len {net : List Int} (h : I.NetOk net = true) : 1 ≤ net.length ∧ net.length ≤ 6 := by
  unfold I.NetOk at h
  split at h
  · simp at h
  · rename_i hc
    simp at hc
    omega
theorem I.placeIn_iff {net : List Int} {p : Int} (h : I.placeIn net p = true) : 0 ≤ p ∧ p < (net.length : Int) := by
  unfold I.placeIn at h
  simp at h
  exact h
theorem I.placeIn_eq (net : List Int) (p : Int) : I.placeIn net p = true ↔ 0 ≤ p ∧ p < (net.length : Int) := by
  unfold I.placeIn; simp
theorem I.setIn_iff {net : List Int} (h : net.length ≤ 6) (s : Int) : I.setIn net s = true ↔ 0 ≤ s ∧ s < ((2 ^ net.length : Nat) : Int) := by
  unfold I.setIn
  rw [Nat.min_eq_left (by omega), wrap64_pow _ (by omega)]
  simp
theorem I.hasPlace_nat (s k : Nat) : I.hasPlace (s : Int) (k : Int) = s.testBit k := by
  unfold I.hasPlace
  rw [Int.toNat_natCast]
  exact bit_and1 s k
theorem I.knownBack_iff (net : List Int) (p : Nat) : I.knownBack net (p : Int) = true ↔ ∀ j, j < net.length → (I.hasPlace (el net p) (j : Int) && !(I.hasPlace (el net j) (p : Int))) = false := by
  unfold I.knownBack
  refine find_all fun k _ => ?_
  simp only [I.knownBack_L0, Int.toNat_natCast]
theorem I.NetOk_iff (net : List Int) : I.NetOk net = true ↔ Ok net := by
  unfold I.NetOk
  split
  · rename_i h
    simp at h
    constructor
    · intro h; cases h
    · intro h; have := h.lo; have := h.hi; omega
  · rename_i h
    simp at h
    rw [find_all (f := I.NetOk_L0 net) (c := fun k => (((!(I.setIn net (el net k))) || (I.hasPlace (el net k) (k : Int))) || (!(I.knownBack net (k : Int))))) (fun k _ => rfl)]
    constructor
    · intro hk
      have hE : ∀ k, k < net.length → 0 ≤ el net k ∧ el net k < ((2 ^ net.length : Nat) : Int) := by
        intro k hl
        have := hk k hl
        simp only [Bool.or_eq_false_iff, Bool.not_eq_false'] at this
        exact (I.setIn_iff (by omega) _).1 this.1.1
      have hN : ∀ k, k < net.length → el net k = (nb net k : Int) := fun k hl => by have := hE k hl; unfold nb; omega
      refine ⟨by omega, by omega, hN, fun k hl => ?_, ?_, fun k hl => ?_⟩
      · have := hE k hl; have := hN k hl; omega
      · have one : ∀ j k, j < net.length → k < net.length → (nb net k).testBit j = true → (nb net j).testBit k = true := by
          intro j k hj hl h1
          have := hk k hl
          simp only [Bool.or_eq_false_iff, Bool.not_eq_false'] at this
          have := (I.knownBack_iff net k).1 this.2 j hj
          rw [hN k hl, hN j hj, I.hasPlace_nat, I.hasPlace_nat, h1] at this
          simpa using this
        intro j k hj hl
        rw [Bool.eq_iff_iff]
        exact ⟨one j k hj hl, one k j hl hj⟩
      · have := hk k hl
        simp only [Bool.or_eq_false_iff, Bool.not_eq_false'] at this
        rw [hN k hl, I.hasPlace_nat] at this
        exact this.1.2
    · intro ho k hl
      simp only [Bool.or_eq_false_iff, Bool.not_eq_false']
      refine ⟨⟨?_, ?_⟩, ?_⟩
      · rw [I.setIn_iff ho.hi, ho.el k hl]
        have := ho.lt k hl
        omega
      · rw [ho.el k hl, I.hasPlace_nat]; exact ho.irr k hl
      · rw [I.knownBack_iff]
        intro j hj
        rw [ho.el k hl, ho.el j hj, I.hasPlace_nat, I.hasPlace_nat, ho.sym j k hj hl]
        simp

theorem I.ballIn_nat {net : List Int} (h : Ok net) {k : Nat} (hk : k < net.length) : I.ballIn net (k : Int) = ((ball net k : Nat) : Int) := by
  unfold I.ballIn ball
  have h1 := h.lt64 hk
  have h2 : (2 : Nat) ^ k < 9223372036854775808 := Nat.lt_of_le_of_lt (Nat.pow_le_pow_right (by omega) (show k ≤ 6 by have := h.hi; omega)) (by decide)
  rw [Int.toNat_natCast, h.el k hk, wrap64_pow _ (by have := h.hi; omega), i64_or_nat _ _ (by omega) h2]
theorem I.seenIn_nat {net : List Int} (h : Ok net) {s : Nat} (hs : s < 2 ^ net.length) : I.seenIn net (s : Int) = ((seen net s : Nat) : Int) := by
  unfold I.seenIn
  rw [← h.seen_balls hs]
  refine fold_orN (m := 6) (fun k hk _ => Nat.lt_of_lt_of_le (h.ball_lt hk) h.pow) fun acc k ha hk => ?_
  simp only [I.seenIn_L0, I.hasPlace_nat]
  split
  · rw [I.ballIn_nat h hk, i64_or_nat _ _ (by omega) (by have := h.ball_lt hk; have := h.pow; omega)]
  · rfl
theorem I.partIn_nat {net : List Int} (h : Ok net) {i : Nat} (hi : i < net.length) : I.partIn net (i : Int) = ((comp net i : Nat) : Int) := by
  unfold I.partIn
  rw [Int.toNat_natCast, wrap64_pow _ (by have := h.hi; omega), ← h.comp_eq hi (m := net.length - 1) (by omega)]
  generalize net.length - 1 = m
  induction m with
  | zero => rfl
  | succ m ih =>
    rw [fold_succ, ih]
    simp only [I.partIn_L0]
    rw [I.seenIn_nat h (h.steps_lt (Nat.pow_lt_pow_right (by omega) hi) m)]
    show _ = ((grow net _ _ : Nat) : Int)
    rw [h.grow_all]
theorem I.sizeOf_nat (s : Nat) (hs : s < 64) : I.sizeOf (s : Int) = ((size s : Nat) : Int) := by
  have h : ∀ s : Fin 64, I.sizeOf ((s.val : Nat) : Int) = ((size s.val : Nat) : Int) := by decide +kernel
  exact h ⟨s, hs⟩

end Go.Proofs.Ytpgcbaaopeinkaa
