/- Lists of watches, counts of watches, thinned watches. Conditions: those of each theorem. -/
import Derived.Test.YtjflfhcdphkejaaN2
namespace Go.Proofs.Ytjflfhcdphkejaa
open D Go.RowKit
set_option linter.unusedVariables false
set_option linter.unusedSimpArgs false


theorem small_of {n : Nat} (h : n ≤ 1000000) : small n = true := by unfold small; rw [decide_eq_true_eq]; omega
/-- All numbers below N of a kind. -/
def listOfN (N : Nat) (p : Nat → Bool) : List Int := fold N (fun l s => if p s = true then l ++ [(s : Int)] else l) []
theorem listOfN_len (N : Nat) (p : Nat → Bool) : (listOfN N p).length ≤ N := by
  unfold listOfN
  induction N with
  | zero => exact Nat.le_refl _
  | succ N ih =>
    rw [fold_succ]
    split
    · rw [List.length_append]; simp only [List.length_singleton]; omega
    · omega
theorem I.LeastWatches_y {net : List Int} (h : Ok net) (e : I.NetOk_t net = some true) : I.LeastWatches_t net = some (listOfN (2 ^ net.length) (least net)) := by
  unfold I.LeastWatches_t I.LeastWatches_tree
  have h64 := h.pow
  have hsu := allOf_succ net
  rw [e]
  have := (run_for (run := I.LeastWatches_run5 net) (len := 2 ^ net.length) (fun k (t : List Int) => ((k : Int), t)) (fun l s => if least net s = true then l ++ [(s : Int)] else l) (fun t => t) (fun k t => t.length ≤ k) (by omega) (fun n k t hk ht => ?_) (fun n t ht => ?_) (t0 := []) (Nat.le_refl _)).1
  · exact congrArg (fun o => optC o (fun q => some q) none) this
  · simp only [I.LeastWatches_run5, I.LeastWatches_step5]
    rw [I.allOf_n h]
    simp only [optC]
    rw [cnd_t (by rw [decide_eq_true_eq]; omega), I.leastWatchIn_n h hk]
    simp only
    cases hw : least net k with
    | true =>
      rw [cond_true, cnd_t (small_of (by simp; omega)), add1_nat (by omega)]
      simp only [if_true]
      exact ⟨by trivial, by simp; omega⟩
    | false => simp only [cond_false, Bool.false_eq_true, if_false]; rw [add1_nat (by omega)]; exact ⟨rfl, by omega⟩
  · simp only [I.LeastWatches_run5, I.LeastWatches_step5]
    rw [I.allOf_n h]
    simp only [optC]
    rw [cnd_f (by rw [decide_eq_false_iff_not]; omega)]
theorem S.LeastWatches_y {net : List Int} (h : Ok net) (e : S.NetOk_t net = some true) : S.LeastWatches_t net = some (listOfN (2 ^ net.length) (least net)) := by
  unfold S.LeastWatches_t S.LeastWatches_tree
  have h64 := h.pow
  have := (run_for (run := S.LeastWatches_run3 net) (len := 2 ^ net.length) (fun k (t : List Int) => ((k : Int), t)) (fun l s => if least net s = true then l ++ [(s : Int)] else l) (fun t => t) (fun k t => t.length ≤ k) (by omega) (fun n k t hk ht => ?_) (fun n t ht => ?_) (t0 := []) (Nat.le_refl _)).1
  · exact congrArg (fun o => optC o (fun q => some q) none) this
  · simp only [S.LeastWatches_run3, S.LeastWatches_step3]
    rw [e]
    simp only [optC]
    rw [cond_true, pow_shl h, cnd_t (by rw [decide_eq_true_eq]; omega), S.l2Least_n h hk]
    simp only
    cases hw : least net k with
    | true =>
      rw [cond_true, cnd_t (small_of (by simp; omega)), add1_nat (by omega)]
      simp only [if_true]
      exact ⟨by trivial, by simp; omega⟩
    | false => simp only [cond_false, Bool.false_eq_true, if_false]; rw [add1_nat (by omega)]; exact ⟨rfl, by omega⟩
  · simp only [S.LeastWatches_run3, S.LeastWatches_step3]
    rw [e]
    simp only [optC]
    rw [cond_true, pow_shl h, cnd_f (by rw [decide_eq_false_iff_not]; omega)]
theorem S.LeastWatches_x {net : List Int} (e : S.NetOk_t net = some false) : S.LeastWatches_t net = some [] := by
  unfold S.LeastWatches_t S.LeastWatches_tree
  obtain ⟨n, hn⟩ : ∃ n, FUEL = n + 1 := ⟨FUEL - 1, by have := FUEL_le; omega⟩
  rw [hn]
  simp only [S.LeastWatches_run3, S.LeastWatches_step3]
  rw [e]
  rfl

/-- How many watches there are of each number of places. -/
def counts (net : List Int) : List Int := fold (2 ^ net.length) (fun l s => if W net s = true then l.set (size s) (D.eli l (size s) + 1) else l) (List.replicate (net.length + 1) 0)
theorem eli_set {l : List Int} {a b : Nat} {v : Int} (ha : a < l.length) : D.eli (l.set a v) b = if a = b then v else D.eli l b := by
  unfold D.eli
  by_cases h : a = b
  · subst h; simp [List.getD, ha]
  · simp [List.getD, List.getElem?_set_ne h, h]
theorem eli_rep (n k : Nat) : D.eli (List.replicate n 0) k = 0 := by
  unfold D.eli
  by_cases h : k < n <;> simp [List.getD, h]
/-- The bounds of the counts on the way. -/
def CInv (net : List Int) (k : Nat) (t : List Int) : Prop := t.length = net.length + 1 ∧ ∀ j, 0 ≤ D.eli t j ∧ D.eli t j ≤ k
theorem CInv.step {net : List Int} (h : Ok net) {k : Nat} {t : List Int} (hk : k < 2 ^ net.length) (ht : CInv net k t) : CInv net (k + 1) (if W net k = true then t.set (size k) (D.eli t (size k) + 1) else t) := by
  have hz := size_le_len h hk
  split
  · refine ⟨by rw [List.length_set]; exact ht.1, fun j => ?_⟩
    rw [eli_set (by rw [ht.1]; omega)]
    have h1 := ht.2 j
    have h2 := ht.2 (size k)
    split <;> omega
  · exact ⟨ht.1, fun j => by have := ht.2 j; omega⟩
theorem CInv.zero (net : List Int) : CInv net 0 (List.replicate (net.length + 1) 0) := ⟨by simp, fun j => by rw [eli_rep]; omega⟩
theorem I.WatchCounts_y {net : List Int} (h : Ok net) (e : I.NetOk_t net = some true) : I.WatchCounts_t net = some (counts net) := by
  unfold I.WatchCounts_t I.WatchCounts_tree
  have h64 := h.pow
  have h6 := h.hi
  have hsu := allOf_succ net
  rw [e]
  have := (run_for (run := I.WatchCounts_run5 net) (len := 2 ^ net.length) (fun k (t : List Int) => ((k : Int), t)) (fun l s => if W net s = true then l.set (size s) (D.eli l (size s) + 1) else l) (fun t => t) (CInv net) (by omega) (fun n k t hk ht => ?_) (fun n t ht => ?_) (t0 := List.replicate (net.length + 1) 0) (CInv.zero net)).1
  · simp only [optC, Bool.not_true, cond_false]
    rw [add1_nat (by omega), cnd_t (by rw [Int.toNat_natCast, small_of (by omega)]; simp; omega), Int.toNat_natCast]
    rw [show I.WatchCounts_run5 net FUEL (0, List.replicate (net.length + 1) 0) = _ from this]
    rfl
  · refine ⟨?_, ht.step h hk⟩
    simp only [I.WatchCounts_run5, I.WatchCounts_step5]
    rw [I.allOf_n h]
    simp only [optC]
    rw [cnd_t (by rw [decide_eq_true_eq]; omega), I.watchIn_n h hk]
    simp only
    have hz := size_le_len h hk
    have hl := ht.1
    cases hw : W net k with
    | true =>
      rw [cond_true, I.sizeOf_n]
      simp only
      have hb := ht.2 (size k)
      rw [cnd_t (by simp; omega), cnd_t (by simp; omega), cnd_t (by simp; omega), cnd_t (by simp; omega), Int.toNat_natCast, i64_wrap (n := D.eli t (size k) + 1) (by omega) (by omega), add1_nat (by omega)]
      simp only [if_true]
    | false => simp only [cond_false, Bool.false_eq_true, if_false]; rw [add1_nat (by omega)]
  · simp only [I.WatchCounts_run5, I.WatchCounts_step5]
    rw [I.allOf_n h]
    simp only [optC]
    rw [cnd_f (by rw [decide_eq_false_iff_not]; omega)]
theorem S.WatchCounts_y {net : List Int} (h : Ok net) (e : S.NetOk_t net = some true) : S.WatchCounts_t net = some (counts net) := by
  unfold S.WatchCounts_t S.WatchCounts_tree
  have h64 := h.pow
  have h6 := h.hi
  rw [e]
  have := (run_for (run := S.WatchCounts_run5 net) (len := 2 ^ net.length) (fun k (t : List Int) => ((k : Int), t)) (fun l s => if W net s = true then l.set (size s) (D.eli l (size s) + 1) else l) (fun t => t) (CInv net) (by omega) (fun n k t hk ht => ?_) (fun n t ht => ?_) (t0 := List.replicate (net.length + 1) 0) (CInv.zero net)).1
  · simp only [optC, Bool.not_true, cond_false]
    rw [add1_nat (by omega), cnd_t (by rw [Int.toNat_natCast, small_of (by omega)]; simp; omega), Int.toNat_natCast]
    rw [show S.WatchCounts_run5 net FUEL (0, List.replicate (net.length + 1) 0) = _ from this]
    rfl
  · refine ⟨?_, ht.step h hk⟩
    simp only [S.WatchCounts_run5, S.WatchCounts_step5]
    rw [pow_shl h, cnd_t (by rw [decide_eq_true_eq]; omega), S.l2Watch_n h hk]
    simp only [optC]
    have hz := size_le_len h hk
    have hl := ht.1
    cases hw : W net k with
    | true =>
      rw [cond_true, S.l1Size_n (by omega)]
      simp only
      have hb := ht.2 (size k)
      rw [cnd_t (by simp; omega), cnd_t (by simp; omega), cnd_t (by simp; omega), cnd_t (by simp; omega), Int.toNat_natCast, i64_wrap (n := D.eli t (size k) + 1) (by omega) (by omega), add1_nat (by omega)]
      simp only [if_true]
    | false => simp only [cond_false, Bool.false_eq_true, if_false]; rw [add1_nat (by omega)]
  · simp only [S.WatchCounts_run5, S.WatchCounts_step5]
    rw [pow_shl h, cnd_f (by rw [decide_eq_false_iff_not]; omega)]

/-- What is left of a watch. -/
def thinStep (net : List Int) (t p : Nat) : Nat := if (t.testBit p && W net (t - 2 ^ p)) = true then t - 2 ^ p else t
def thin (net : List Int) (s : Nat) : Nat := fold net.length (fun t k => thinStep net t (net.length - 1 - k)) s
theorem thinStep_lt {net : List Int} {t p n : Nat} (ht : t < 2 ^ n) : thinStep net t p < 2 ^ n := by
  unfold thinStep; split
  · exact sub_lt ht
  · exact ht
theorem thinStep_W {net : List Int} {t p : Nat} (hw : W net t = true) : W net (thinStep net t p) = true := by
  unfold thinStep; split
  · rename_i hc; rw [Bool.and_eq_true] at hc; exact hc.2
  · exact hw
theorem I.WatchOk_n {net : List Int} (h : Ok net) (e : I.NetOk_t net = some true) (s : Int) : I.WatchOk_t net s = some (decide (0 ≤ s ∧ s < 2 ^ net.length) && W net s.toNat) := by
  unfold I.WatchOk_t I.WatchOk_tree
  rw [e, I.setIn_n h]
  simp only [optC, cond_true]
  rcases set_cases h s with ⟨t, rfl, ht, hd⟩ | hd
  · rw [hd, cond_true, I.watchIn_n h ht]; rfl
  · rw [hd]; rfl
theorem S.WatchOk_n {net : List Int} (h : Ok net) (e : S.NetOk_t net = some true) (s : Int) : S.WatchOk_t net s = some (decide (0 ≤ s ∧ s < 2 ^ net.length) && W net s.toNat) := by
  unfold S.WatchOk_t S.WatchOk_tree
  rw [S.l1SetOk_n h e]
  simp only [optC]
  rcases set_cases h s with ⟨t, rfl, ht, hd⟩ | hd
  · rw [hd, cond_true, S.l2Watch_n h ht]; rfl
  · rw [hd]; rfl
theorem I.ThinnedWatch_y {net : List Int} (h : Ok net) (e : I.NetOk_t net = some true) {s : Nat} (hs : s < 2 ^ net.length) (hw : W net s = true) : I.ThinnedWatch_t net s = some ((thin net s : Nat) : Int) := by
  unfold I.ThinnedWatch_t I.ThinnedWatch_tree
  have h64 := h.pow
  have h6 := h.hi
  have h1 := h.lo
  rw [I.WatchOk_n h e]
  have := (run_for (run := I.ThinnedWatch_run5 net) (len := net.length) (fun k (t : Nat) => ((t : Int), ((net.length : Int) - 1 - k))) (fun t k => thinStep net t (net.length - 1 - k)) (fun t => (t : Int)) (fun k t => t < 2 ^ net.length ∧ W net t = true) (by omega) (fun n k t hk ht => ?_) (fun n t ht => ?_) (t0 := s) ⟨hs, hw⟩).1
  · simp only [optC, Int.toNat_natCast]
    rw [hw, show decide (0 ≤ (s : Int) ∧ (s : Int) < 2 ^ net.length) = true by rw [two_pow_cast, decide_eq_true_eq]; omega]
    simp only [Bool.and_true, Bool.not_true, cond_false]
    rw [i64_wrap (n := (net.length : Int) - 1) (by omega) (by omega)]
    rw [show ((net.length : Int) - 1) = (net.length : Int) - 1 - ((0 : Nat) : Int) by omega, this]
    rfl
  · refine ⟨?_, thinStep_lt ht.1, thinStep_W ht.2⟩
    simp only [I.ThinnedWatch_run5, I.ThinnedWatch_step5]
    have hp : ((net.length : Int) - 1 - k) = ((net.length - 1 - k : Nat) : Int) := by omega
    rw [hp]
    have ht64 := lt64 h ht.1
    have hlt : t - 2 ^ (net.length - 1 - k) < 2 ^ net.length := sub_lt ht.1
    rw [cnd_t (by simp), I.without_n ht64 (by omega)]
    simp only [optC]
    have hnx : IntKind.i64.wrap (((net.length - 1 - k : Nat) : Int) - 1) = (net.length : Int) - 1 - ((k + 1 : Nat) : Int) := by rw [i64_wrap (by omega) (by omega)]; omega
    rw [hnx]
    unfold thinStep
    cases hb : t.testBit (net.length - 1 - k) with
    | true =>
      simp only [if_true, Bool.true_and]
      rw [I.watchIn_n h hlt]
      simp only
      cases hw2 : W net (t - 2 ^ (net.length - 1 - k)) with
      | true => rfl
      | false => rfl
    | false =>
      simp only [Bool.false_eq_true, if_false, Bool.false_and]
      rw [I.watchIn_n h ht.1, ht.2]
      rfl
  · simp only [I.ThinnedWatch_run5, I.ThinnedWatch_step5]
    rw [cnd_f (by rw [decide_eq_false_iff_not]; omega)]
theorem S.ThinnedWatch_y {net : List Int} (h : Ok net) (e : S.NetOk_t net = some true) {s : Nat} (hs : s < 2 ^ net.length) (hw : W net s = true) : S.ThinnedWatch_t net s = some ((thin net s : Nat) : Int) := by
  unfold S.ThinnedWatch_t S.ThinnedWatch_tree
  have h64 := h.pow
  have h6 := h.hi
  have h1 := h.lo
  rw [S.WatchOk_n h e]
  have := (run_for (run := S.ThinnedWatch_run4 net) (len := net.length) (fun k (t : Nat) => ((t : Int), ((net.length : Int) - 1 - k))) (fun t k => thinStep net t (net.length - 1 - k)) (fun t => (t : Int)) (fun k t => t < 2 ^ net.length ∧ W net t = true) (by omega) (fun n k t hk ht => ?_) (fun n t ht => ?_) (t0 := s) ⟨hs, hw⟩).1
  · simp only [optC, Int.toNat_natCast]
    rw [hw, show decide (0 ≤ (s : Int) ∧ (s : Int) < 2 ^ net.length) = true by rw [two_pow_cast, decide_eq_true_eq]; omega]
    simp only [Bool.and_true, Bool.not_true, cond_false]
    rw [i64_wrap (n := (net.length : Int) - 1) (by omega) (by omega)]
    rw [show ((net.length : Int) - 1) = (net.length : Int) - 1 - ((0 : Nat) : Int) by omega, this]
    rfl
  · refine ⟨?_, thinStep_lt ht.1, thinStep_W ht.2⟩
    simp only [S.ThinnedWatch_run4, S.ThinnedWatch_step4]
    have hp : ((net.length : Int) - 1 - k) = ((net.length - 1 - k : Nat) : Int) := by omega
    rw [hp]
    have ht64 := lt64 h ht.1
    have hlt : t - 2 ^ (net.length - 1 - k) < 2 ^ net.length := sub_lt ht.1
    have hnx : IntKind.i64.wrap (((net.length - 1 - k : Nat) : Int) - 1) = (net.length : Int) - 1 - ((k + 1 : Nat) : Int) := by rw [i64_wrap (by omega) (by omega)]; omega
    rw [cnd_t (by simp), cnd_f (by simp), bit_shr _ _ (by omega), bool_eq1, hnx]
    unfold thinStep
    cases hb : t.testBit (net.length - 1 - k) with
    | true =>
      have hge := (bits_sub t ht64 _ (by omega) hb).2.1
      simp only [cond_true, Bool.true_and]
      rw [cnd_f (by simp), one_shl (by omega), sub_nat hge (by omega), S.l2Watch_n h hlt]
      simp only [optC]
      rw [cnd_f (x := none) (by simp)]
      cases hw2 : W net (t - 2 ^ (net.length - 1 - k)) with
      | true => rfl
      | false => rfl
    | false =>
      simp only [cond_false, Bool.false_eq_true, if_false, Bool.false_and]
  · simp only [S.ThinnedWatch_run4, S.ThinnedWatch_step4]
    rw [cnd_f (by rw [decide_eq_false_iff_not]; omega)]
theorem I.LeastWatchOk_n {net : List Int} (h : Ok net) (e : I.NetOk_t net = some true) (s : Int) : I.LeastWatchOk_t net s = some (decide (0 ≤ s ∧ s < 2 ^ net.length) && least net s.toNat) := by
  unfold I.LeastWatchOk_t I.LeastWatchOk_tree
  rw [e, I.setIn_n h]
  simp only [optC, cond_true]
  rcases set_cases h s with ⟨t, rfl, ht, hd⟩ | hd
  · rw [hd, cond_true, I.leastWatchIn_n h ht]; rfl
  · rw [hd]; rfl
theorem S.LeastWatchOk_n {net : List Int} (h : Ok net) (e : S.NetOk_t net = some true) (s : Int) : S.LeastWatchOk_t net s = some (decide (0 ≤ s ∧ s < 2 ^ net.length) && least net s.toNat) := by
  unfold S.LeastWatchOk_t S.LeastWatchOk_tree
  rw [S.l1SetOk_n h e]
  simp only [optC]
  rcases set_cases h s with ⟨t, rfl, ht, hd⟩ | hd
  · rw [hd, cond_true, S.l2Least_n h ht]; rfl
  · rw [hd]; rfl
end Go.Proofs.Ytjflfhcdphkejaa
