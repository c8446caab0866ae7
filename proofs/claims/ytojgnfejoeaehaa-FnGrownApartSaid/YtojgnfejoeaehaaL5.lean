/- Laws of chapter 5, and of chapter 4 over a net. Conditions: those of each theorem. -/
import Derived.Test.YtojgnfejoeaehaaDr3
import Derived.Test.YtojgnfejoeaehaaL2
import Derived.Test.YtojgnfejoeaehaaI3
namespace Go.Proofs.Ytojgnfejoeaehaa
open D Go.RowKit
set_option linter.unusedVariables false
set_option linter.unusedSimpArgs false


theorem mins {net : List Int} (h : Ok net) : MinOf net (fullN net) (minSize net (fullN net)) ∧ MinOf net (W net) (fewest net) ∧ MinOf net (fullA net) (minSize net (fullA net)) ∧ MaxOf net (apart net) (maxSize net (apart net)) ∧ MaxOf net (least net) (maxSize net (least net)) ∧ MaxOf net (needs net) (maxSize net (needs net)) :=
  ⟨minSize_is h (ex_fullN h), few_min.1 (fewest_few h), minSize_is h (ex_fullA h), maxSize_is (ex_apart net), maxSize_is (ex_least h), maxSize_is (ex_needs h)⟩
theorem maxSize_le {net : List Int} (h : Ok net) {p : Nat → Bool} {m : Nat} (hm : MaxOf net p m) : m ≤ net.length := by
  obtain ⟨s, a, _, c⟩ := hm.ex
  have := size_le_len h a; omega
theorem minSize_le {net : List Int} (h : Ok net) {p : Nat → Bool} {m : Nat} (hm : MinOf net p m) : m ≤ net.length := by
  obtain ⟨s, a, _, c⟩ := hm.ex
  have := size_le_len h a; omega
theorem minFold2 {n c : Nat} {f : Nat → Nat} : (∀ k, k < n → fold n (fun t k => if f k < t then f k else t) c ≤ f k) ∧ fold n (fun t k => if f k < t then f k else t) c ≤ c := by
  induction n with
  | zero => exact ⟨fun k hk => by omega, Nat.le_refl _⟩
  | succ n ih =>
    rw [fold_succ]
    obtain ⟨a, b⟩ := ih
    refine ⟨fun k hk => ?_, by split <;> omega⟩
    by_cases hkn : k = n
    · rw [hkn]; split <;> omega
    · have := a k (by omega)
      split <;> omega
theorem L.FnGrownApart_is {code : List Int} (hm : code.length ≤ maxLen) (hw : ∀ n ∈ code, (Lit.int .u8 n).wf = true) : L.FnGrownApart_t code = some true := by
  unfold L.FnGrownApart_t L.FnGrownApart_tree
  by_cases hc : (code.length : Int) > 1048576
  · rw [cnd_t (by simpa using hc)]
  rw [cnd_f (by simpa using hc)]
  obtain ⟨s, net, e1, h1, h2⟩ := S.DrawGrownApart_is (Bytes.wf hw)
  rw [e1]
  simp only [optC]
  rcases NetOk_cases net with ⟨h, g1, g2⟩ | ⟨_, g1, g2⟩
  · have h6 := h.hi
    have h64 := h.pow
    rw [I.GrownApart_n h g1, S.GrownApart_n h g2]
    simp only
    rw [cnd_f (by simp)]
    by_cases hA : (0 ≤ (s : Int) ∧ (s : Int) < 2 ^ net.length) ∧ apart net (s : Int).toNat = true
    · have hs : s < 2 ^ net.length := by have := hA.1.2; rw [two_pow_cast] at this; omega
      obtain ⟨a, b, c⟩ := grown_is h hs ((apart_iff hs).1 hA.2)
      have hb := (fullA_iff h a).1 b
      have e2 : grownI net (s : Int) = ((grown net s : Nat) : Int) := by unfold grownI; rw [if_pos hA, Int.toNat_natCast]
      have e3 : grownI net ((grown net s : Nat) : Int) = ((grown net s : Nat) : Int) := by
        unfold grownI
        rw [if_pos ⟨dec_true (set_in a), (apart_iff a).2 hb.1⟩, Int.toNat_natCast, grown_same h a b]
      rw [e2, cnd_f (by simp), I.FullApartOk_n h g1, set_in a, Int.toNat_natCast, b]
      simp only
      rw [cnd_t (by rfl), i64_andNot_nat _ _ (by omega) (by omega), cnd_t ((and_not_zero (by omega) (by omega)).2 c), I.GrownApart_n h g1, e3]
      simp
    · have e2 : grownI net (s : Int) = -1 := by unfold grownI; rw [if_neg hA]
      have e3 : (decide (0 ≤ (s : Int) ∧ (s : Int) < 2 ^ net.length) && apart net (s : Int).toNat) = false := not_true fun hh => hA (by rw [Bool.and_eq_true] at hh; exact ⟨dec_true hh.1, hh.2⟩)
      rw [e2, cnd_t (by decide), cnd_t (by decide), I.ApartOk_n h g1, e3]
      simp only
      rw [cnd_t (by rfl), L.alive_is]
  · rw [I.GrownApart_x g1, S.GrownApart_x g2, I.ApartOk_x g1]
    simp only
    rw [cnd_f (by decide), cnd_t (by decide), cnd_t (by decide), cnd_t (by decide), L.alive_is]
/-- The net in which all are neighbours. -/
def whole (n : Nat) : List Int := fold n (fun l k => l ++ [((2 ^ n - 1 - 2 ^ k : Nat) : Int)]) []
theorem I.NetOk_whole {n : Nat} (h1 : 1 ≤ n) (h6 : n ≤ 6) : I.NetOk_t (whole n) = some true := by
  rw [I.NetOk_is]
  have hn : n = 1 ∨ n = 2 ∨ n = 3 ∨ n = 4 ∨ n = 5 ∨ n = 6 := by omega
  rcases hn with rfl | rfl | rfl | rfl | rfl | rfl <;> decide +kernel
theorem even_whole {n : Nat} (h1 : 1 ≤ n) (h6 : n ≤ 6) : (fewest (whole n) == maxSize (whole n) (least (whole n))) = true := by
  have hn : n = 1 ∨ n = 2 ∨ n = 3 ∨ n = 4 ∨ n = 5 ∨ n = 6 := by omega
  rcases hn with rfl | rfl | rfl | rfl | rfl | rfl <;> decide +kernel
theorem even_none {n : Nat} (h1 : 1 ≤ n) (h6 : n ≤ 6) : (fewest (List.replicate n 0) == maxSize (List.replicate n 0) (least (List.replicate n 0))) = true := by
  have hn : n = 1 ∨ n = 2 ∨ n = 3 ∨ n = 4 ∨ n = 5 ∨ n = 6 := by omega
  rcases hn with rfl | rfl | rfl | rfl | rfl | rfl <;> decide +kernel
theorem I.NetOk_none {n : Nat} (h1 : 1 ≤ n) (h6 : n ≤ 6) : I.NetOk_t (List.replicate n 0) = some true := by
  rw [I.NetOk_is]
  have hn : n = 1 ∨ n = 2 ∨ n = 3 ∨ n = 4 ∨ n = 5 ∨ n = 6 := by omega
  rcases hn with rfl | rfl | rfl | rfl | rfl | rfl <;> decide +kernel
theorem ok_of {net : List Int} (e : I.NetOk_t net = some true) : Ok net := by
  rcases NetOk_cases net with ⟨h, _⟩ | ⟨_, e1, _⟩
  · exact h
  · rw [e] at e1; cases e1
end Go.Proofs.Ytojgnfejoeaehaa
