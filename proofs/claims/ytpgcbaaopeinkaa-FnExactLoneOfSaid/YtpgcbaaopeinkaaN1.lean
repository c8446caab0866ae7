/- Plain lemmas on the twins of the model's chapter 1. Conditions: those of each theorem. -/
import Derived.Test.YtpgcbaaopeinkaaNet
import Derived.Test.YtpgcbaaopeinkaaPs1
namespace Go.Proofs.Ytpgcbaaopeinkaa
open Go.RowKit
set_option linter.unusedVariables false
set_option linter.unusedSimpArgs false

theorem S.l1In_iff {n low high : Int} (h : S.l1In n low high = true) : low ≤ n ∧ n ≤ high := by
  unfold S.l1In at h
  simp at h
  exact h
theorem S.NetOk_len {net : List Int} (h : S.NetOk net = true) : 1 ≤ net.length ∧ net.length ≤ 6 := by
  unfold S.NetOk at h
  split at h
  · simp at h
  · rename_i hc
    have := S.l1In_iff (n := (net.length : Int)) (low := 1) (high := 6) (by simpa using hc)
    omega
theorem S.NetOk_el {net : List Int} (h : S.NetOk net = true) {k : Nat} (hk : k < net.length) : 0 ≤ el net k ∧ el net k ≤ 63 := by
  have hl := S.NetOk_len h
  unfold S.NetOk at h
  split at h
  · simp at h
  · cases h0 : find net.length (S.NetOk_L0 net) with
    | some r =>
      exfalso
      rw [h0] at h
      simp at h
      subst h
      obtain ⟨k, hk, h1⟩ := find_some_ex h0
      simp [S.NetOk_L0] at h1
    | none =>
      have h2 := find_none.1 h0 k hk
      simp only [S.NetOk_L0] at h2
      split at h2
      · simp at h2
      · rename_i h3
        have h4 := S.l1In_iff (n := el net k) (low := 0) (high := wrap64 (wrap64 (2 ^ net.length) - 1)) (by simpa using h3)
        have h5 : wrap64 (wrap64 (2 ^ net.length) - 1) ≤ 63 := by
          have : net.length = 1 ∨ net.length = 2 ∨ net.length = 3 ∨ net.length = 4 ∨ net.length = 5 ∨ net.length = 6 := by omega
          rcases this with e | e | e | e | e | e <;> rw [e] <;> decide +kernel
        omega
theorem S.l1SetOk_len {net : List Int} {set_ : Int} (h : S.l1SetOk net set_ = true) : 1 ≤ net.length ∧ net.length ≤ 6 := by
  unfold S.l1SetOk at h
  simp at h
  exact S.NetOk_len h.1
theorem S.l1Size_end (set_ : Int) : (S.l1Size_L0_c set_) (wh set_.toNat (S.l1Size_L0_c set_) (S.l1Size_L0 set_) (0, set_)) = false := by
  refine (wh_inv (fun _ => True) (fun s => s.2.toNat) ?_ trivial (by simp)).2
  intro s _ hc
  simp [S.l1Size_L0_c] at hc
  refine ⟨trivial, ?_⟩
  simp only [S.l1Size_L0]
  omega

theorem S.pow_len {net : List Int} (h : S.NetOk net = true) : 0 ≤ wrap64 (wrap64 (2 ^ net.length) - 1) ∧ wrap64 (wrap64 (2 ^ net.length) - 1) ≤ 63 := by
  have hl := S.NetOk_len h
  have : net.length = 1 ∨ net.length = 2 ∨ net.length = 3 ∨ net.length = 4 ∨ net.length = 5 ∨ net.length = 6 := by omega
  rcases this with e | e | e | e | e | e <;> rw [e] <;> decide +kernel
theorem S.l1In_eq (n low high : Int) : S.l1In n low high = true ↔ low ≤ n ∧ n ≤ high := by unfold S.l1In; simp
theorem S.NetOk_iff (net : List Int) : S.NetOk net = true ↔ Ok net := by
  unfold S.NetOk
  split
  · rename_i h
    simp only [Bool.not_eq_true', ← Bool.not_eq_true, S.l1In_eq] at h
    constructor
    · intro h; cases h
    · intro h1; exact absurd ⟨by have := h1.lo; omega, by have := h1.hi; omega⟩ h
  · rename_i h
    simp only [Bool.not_eq_true', Bool.not_eq_false, S.l1In_eq] at h
    rw [find_false (f := S.NetOk_L0 net) (fun k _ => if_either _), find_false (f := S.NetOk_L1 net) (fun k _ => by
      simp only [S.NetOk_L1]
      cases h : find net.length (S.NetOk_L2 net k) with
      | none => exact .inl rfl
      | some r =>
        obtain ⟨j, _, h1⟩ := find_some_ex h
        rcases if_either (((Int.tmod ((el net k) / 2 ^ j) 2) != (Int.tmod ((el net j) / 2 ^ k) 2)) || (((j : Int) == (k : Int)) && ((Int.tmod ((el net k) / 2 ^ j) 2) == 1))) with h2 | h2
        · simp only [S.NetOk_L2] at h1; rw [h2] at h1; cases h1
        · simp only [S.NetOk_L2] at h1; rw [h2] at h1; cases h1; exact .inr rfl)]
    have hpw : wrap64 (wrap64 (2 ^ net.length) - 1) = ((2 ^ net.length : Nat) : Int) - 1 := by
      have h1 : (2 : Nat) ^ net.length ≤ 64 := pow_le_64 (by omega)
      have h2 : 1 ≤ (2 : Nat) ^ net.length := Nat.two_pow_pos _
      rw [wrap64_pow _ (by omega)]
      generalize (2 : Nat) ^ net.length = P at h1 h2 ⊢
      unfold wrap64; omega
    have e0 : ∀ k, S.NetOk_L0 net k = none ↔ 0 ≤ el net k ∧ el net k ≤ ((2 ^ net.length : Nat) : Int) - 1 := by
      intro k
      simp only [S.NetOk_L0]
      rw [if_none, Bool.not_eq_false', S.l1In_eq, hpw]
    have e1 : ∀ k, S.NetOk_L1 net k = none ↔ ∀ j, j < net.length → (((Int.tmod ((el net k) / 2 ^ j) 2) != (Int.tmod ((el net j) / 2 ^ k) 2)) || (((j : Int) == (k : Int)) && ((Int.tmod ((el net k) / 2 ^ j) 2) == 1))) = false := by
      intro k
      have : S.NetOk_L1 net k = find net.length (S.NetOk_L2 net k) := by simp only [S.NetOk_L1]; cases find net.length (S.NetOk_L2 net k) <;> rfl
      rw [this, find_none]
      simp only [S.NetOk_L2, if_none]
    constructor
    · rintro ⟨h0, h1, _⟩
      have hN : ∀ k, k < net.length → el net k = (nb net k : Int) := fun k hl => by have := (e0 k).1 (h0 k hl); unfold nb; omega
      have hc : ∀ k, k < net.length → ∀ j, j < net.length → ((nb net k).testBit j != (nb net j).testBit k || (decide (j = k) && (nb net k).testBit j)) = false := by
        intro k hk j hj
        have := (e1 k).1 (h1 k hk) j hj
        rw [hN k hk, hN j hj, bit_mod, bit_mod, bit_ne, bit_one] at this
        have e : ((j : Int) == (k : Int)) = decide (j = k) := by rw [Bool.eq_iff_iff]; simp; omega
        rw [e] at this
        exact this
      refine ⟨by omega, by omega, hN, fun k hk => ?_, fun j k hj hk => ?_, fun k hk => ?_⟩
      · have := (e0 k).1 (h0 k hk); have := hN k hk; omega
      · have := hc k hk j hj
        simp only [Bool.or_eq_false_iff, bne_eq_false_iff_eq] at this
        exact this.1
      · have := hc k hk k hk
        simpa using this
    · intro ho
      refine ⟨fun k hk => ?_, fun k hk => ?_, rfl⟩
      · rw [e0, ho.el k hk]; have := ho.lt k hk; omega
      · rw [e1]
        intro j hj
        rw [ho.el k hk, ho.el j hj, bit_mod, bit_mod, bit_ne, bit_one, ho.sym j k hj hk]
        have e : ((j : Int) == (k : Int)) = decide (j = k) := by rw [Bool.eq_iff_iff]; simp; omega
        rw [e]
        by_cases hjk : j = k
        · subst hjk; simp [ho.irr j hj]
        · simp [hjk]
theorem S.l1Near_nat {net : List Int} (h : Ok net) (s : Nat) : S.l1Near net (s : Int) = ((near net s : Nat) : Int) := by
  unfold S.l1Near near
  refine fold_orN (m := 6) (fun k hk _ => Nat.lt_of_lt_of_le (h.lt k hk) h.pow) fun acc k ha hk => ?_
  simp only [S.l1Near_L0, bit_tmod]
  split
  · rw [h.el k hk, i64_or_nat _ _ (by omega) (by have := h.lt64 hk; omega)]
  · rfl
theorem S.l1Size_nat (s : Nat) (hs : s < 64) : S.l1Size (s : Int) = ((size s : Nat) : Int) := by
  have h : ∀ s : Fin 64, S.l1Size ((s.val : Nat) : Int) = ((size s.val : Nat) : Int) := by decide +kernel
  exact h ⟨s, hs⟩
theorem S.l1Part_step {net : List Int} (h : Ok net) (A s : Nat) (hA : A < 64) (hs : s < 64) (p : Int) (b : Bool) :
    S.l1Part_L0 net (A : Int) p (b, (s : Int)) = (grow net A s != s, ((grow net A s : Nat) : Int)) := by
  simp only [S.l1Part_L0]
  have h1 : near net s < 64 := Nat.lt_of_lt_of_le (h.near_lt s) h.pow
  have h2 : near net s &&& A < 2 ^ 6 := Nat.and_lt_two_pow _ (by omega)
  rw [S.l1Near_nat h, i64_and_nat _ _ (by omega) (by omega), i64_or_nat _ _ (by omega) (by omega)]
  have e : (((s ||| near net s &&& A : Nat) : Int) != (s : Int)) = ((s ||| near net s &&& A) != s) := by
    rw [Bool.eq_iff_iff]; simp only [bne_iff_ne, ne_eq]; omega
  rw [e]
  rfl
/-- What the model's loop comes to. -/
theorem S.l1Part_wh {net : List Int} (h : Ok net) (A s : Nat) (hA : A < 64) (hs : s < 64) (p : Int) :
    ∃ j, wh 66 (S.l1Part_L0_c net (A : Int) p) (S.l1Part_L0 net (A : Int) p) (true, (s : Int)) = (false, ((steps net A j s : Nat) : Int)) ∧ grow net A (steps net A j s) = steps net A j s := by
  have hg : ∀ t, t < 64 → grow net A t < 64 := fun t ht => by
    have h1 : near net t < 2 ^ 6 := Nat.lt_of_lt_of_le (h.near_lt t) h.pow
    exact Nat.or_lt_two_pow (n := 6) (by omega) (by rw [Nat.and_comm]; exact Nat.and_lt_two_pow _ h1)
  have := wh_inv (n := 66) (c := S.l1Part_L0_c net (A : Int) p) (f := S.l1Part_L0 net (A : Int) p)
    (fun st => ∃ j, st.2 = ((steps net A j s : Nat) : Int) ∧ steps net A j s < 64 ∧ (st.1 = false → grow net A (steps net A j s) = steps net A j s))
    (fun st => if st.1 = true then 65 - st.2.toNat else 0)
    (by
      rintro ⟨b, x⟩ ⟨j, hx, hlt, hb⟩ hc
      simp only [S.l1Part_L0_c] at hc
      simp only at hx
      subst hc hx
      rw [S.l1Part_step h A _ hA hlt]
      refine ⟨⟨j + 1, rfl, hg _ hlt, ?_⟩, ?_⟩
      · intro hn
        simp only [bne_eq_false_iff_eq] at hn
        show grow net A (grow net A (steps net A j s)) = grow net A (steps net A j s)
        rw [hn, hn]
      · simp only [if_true, Int.toNat_natCast]
        split
        · rename_i hne
          simp only [bne_iff_ne, ne_eq] at hne
          have h2 : steps net A j s ≤ grow net A (steps net A j s) := Nat.left_le_or
          omega
        · omega)
    (s := (true, (s : Int))) ⟨0, rfl, hs, fun h => by cases h⟩ (by simp; omega)
  obtain ⟨⟨j, h1, _, h3⟩, h4⟩ := this
  simp only [S.l1Part_L0_c] at h4
  exact ⟨j, Prod.ext h4 h1, h3 h4⟩
theorem S.l1Part_end {net : List Int} {among place : Int} (hv : S.NetOk net = true) (h0 : 0 ≤ among) (h1 : among ≤ 63) (h2 : 0 ≤ place) (h3 : place ≤ 5) :
    (S.l1Part_L0_c net among place) (wh 66 (S.l1Part_L0_c net among place) (S.l1Part_L0 net among place) (true, (bits BinOp.and IntKind.i64 (wrap64 (2 ^ place.toNat)) among))) = false := by
  obtain ⟨A, rfl⟩ := Int.eq_ofNat_of_zero_le h0
  obtain ⟨p, rfl⟩ := Int.eq_ofNat_of_zero_le h2
  have hp : (2 : Nat) ^ p < 64 := Nat.lt_of_le_of_lt (Nat.pow_le_pow_right (by omega) (show p ≤ 5 by omega)) (by decide)
  have hs : 2 ^ p &&& A < 2 ^ 6 := Nat.and_lt_two_pow _ (by omega)
  rw [Int.toNat_natCast, wrap64_pow _ (by omega), i64_and_nat _ _ (by omega) (by omega)]
  obtain ⟨j, h4, _⟩ := S.l1Part_wh ((S.NetOk_iff net).1 hv) A (2 ^ p &&& A) (by omega) hs ((p : Nat) : Int)
  rw [h4]
  rfl
theorem S.l1Part_nat {net : List Int} (h : Ok net) {A i : Nat} (hA : A < 64) (hi : i < net.length) : S.l1Part net (A : Int) (i : Int) = ((part net A i : Nat) : Int) := by
  have hp : (2 : Nat) ^ i < 64 := Nat.lt_of_le_of_lt (Nat.pow_le_pow_right (by omega) (show i ≤ 5 by have := h.hi; omega)) (by decide)
  have hs : 2 ^ i &&& A < 2 ^ 6 := Nat.and_lt_two_pow _ (by omega)
  have e : (bits BinOp.and IntKind.i64 (wrap64 (2 ^ ((i : Nat) : Int).toNat)) ((A : Nat) : Int)) = ((2 ^ i &&& A : Nat) : Int) := by
    rw [Int.toNat_natCast, wrap64_pow _ (by have := h.hi; omega), i64_and_nat _ _ (by omega) (by omega)]
  obtain ⟨j, h4, h5⟩ := S.l1Part_wh h A (2 ^ i &&& A) (by omega) hs ((i : Nat) : Int)
  have h6 : steps net A j (2 ^ i &&& A) = part net A i := by
    by_cases hj : j ≤ 6
    · exact (steps_fix h5 6 hj).symm
    · exact steps_fix (h.part_fix hi) j (by omega)
  rw [h6] at h4
  simp only [S.l1Part, e, h4, sn_eq]

end Go.Proofs.Ytpgcbaaopeinkaa
