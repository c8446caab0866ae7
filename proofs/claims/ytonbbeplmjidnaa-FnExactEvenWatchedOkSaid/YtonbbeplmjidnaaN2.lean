/- What the functions on watches come to. Conditions: those of each theorem. -/
import Derived.Test.YtonbbeplmjidnaaN1
namespace Go.Proofs.Ytonbbeplmjidnaa
open D Go.RowKit
set_option linter.unusedVariables false
set_option linter.unusedSimpArgs false


theorem allOf_succ (net : List Int) : allOf net + 1 = 2 ^ net.length := by
  have : 0 < 2 ^ net.length := Nat.two_pow_pos _
  unfold allOf; omega
/-- The least of all, or what one began with. -/
theorem minFold {N : Nat} {p : Nat → Bool} {f : Nat → Nat} (t0 : Nat) :
    (∀ s, s < N → p s = true → fold N (fun t s => if p s = true then (if f s < t then f s else t) else t) t0 ≤ f s) ∧ fold N (fun t s => if p s = true then (if f s < t then f s else t) else t) t0 ≤ t0 ∧
    (fold N (fun t s => if p s = true then (if f s < t then f s else t) else t) t0 = t0 ∨ ∃ s, s < N ∧ p s = true ∧ f s = fold N (fun t s => if p s = true then (if f s < t then f s else t) else t) t0) := by
  induction N with
  | zero => exact ⟨fun s hs => by omega, Nat.le_refl _, .inl rfl⟩
  | succ N ih =>
    rw [fold_succ]
    generalize fold N _ t0 = g at ih ⊢
    obtain ⟨h1, h2, h3⟩ := ih
    cases hp : p N with
    | false =>
      simp only [Bool.false_eq_true, if_false]
      refine ⟨fun s hs hps => ?_, h2, ?_⟩
      · by_cases he : s = N
        · subst he; rw [hp] at hps; cases hps
        · exact h1 s (by omega) hps
      · rcases h3 with h3 | ⟨s, a, b⟩
        · exact .inl h3
        · exact .inr ⟨s, by omega, b⟩
    | true =>
      simp only [if_true]
      refine ⟨fun s hs hps => ?_, by split <;> omega, ?_⟩
      · by_cases he : s = N
        · subst he; split <;> omega
        · have := h1 s (by omega) hps
          split <;> omega
      · split
        · exact .inr ⟨N, by omega, hp, rfl⟩
        · rcases h3 with h3 | ⟨s, a, b⟩
          · exact .inl h3
          · exact .inr ⟨s, by omega, b⟩
theorem size_all {net : List Int} (h : Ok net) : size (allOf net) = net.length := by
  rw [size_cnt h (allOf_lt net), cnt_congr (q := fun _ => true) (fun k hk => by rw [allOf_testBit]; simpa using hk), cnt_true]
theorem size_le_len {net : List Int} (h : Ok net) {s : Nat} (hs : s < 2 ^ net.length) : size s ≤ net.length := by
  rw [size_cnt h hs]; exact cnt_le _ _
theorem size_lt_len {net : List Int} (h : Ok net) {s : Nat} (hs : s < allOf net) : size s < net.length := by
  have hs' : s < 2 ^ net.length := Nat.lt_trans hs (allOf_lt net)
  have : ∃ k, k < net.length ∧ s.testBit k = false := by
    refine Classical.byContradiction fun hc => ?_
    have : s = allOf net := eq_of_bits hs' (allOf_lt net) fun j hj => by
      rw [allOf_testBit]
      cases hb : s.testBit j with
      | true => simpa using hj
      | false => exact absurd ⟨j, hj, hb⟩ hc
    omega
  obtain ⟨k, hk, hb⟩ := this
  rw [size_cnt h hs']
  exact cnt_lt_of hk hb
/-- The fewest guards that watch. -/
def fewest (net : List Int) : Nat := fold (2 ^ net.length) (fun t s => if W net s = true then (if size s < t then size s else t) else t) net.length
theorem fewest_few {net : List Int} (h : Ok net) : Few net (fewest net) := by
  obtain ⟨h1, h2, h3⟩ := minFold (N := 2 ^ net.length) (p := W net) (f := size) net.length
  refine ⟨?_, h1⟩
  rcases h3 with h3 | h3
  · exact ⟨allOf net, allOf_lt net, W_all h, by rw [size_all h]; exact h3.symm⟩
  · exact h3
/-- The first of the smallest watches. -/
structure First (net : List Int) (r : Nat) : Prop where
  lt : r < 2 ^ net.length
  w : W net r = true
  le : ∀ s, s < 2 ^ net.length → W net s = true → size r ≤ size s
  first : ∀ s, s < r → W net s = true → size r < size s
theorem First.few {net : List Int} {r : Nat} (h : First net r) : Few net (size r) := ⟨⟨r, h.lt, h.w, rfl⟩, h.le⟩
theorem First.uniq {net : List Int} {r q : Nat} (h : First net r) (g : First net q) : r = q := by
  have h1 := h.few.uniq g.few
  rcases Nat.lt_trichotomy r q with hl | hl | hl
  · have := g.first r hl h.w; omega
  · exact hl
  · have := h.first q hl g.w; omega
theorem small_first {net : List Int} (h : Ok net) : First net (fold (allOf net) (fun t s => if (decide (size s < size t) && W net s) = true then s else t) (allOf net)) := by
  have key : ∀ k, k ≤ allOf net → ∀ t, t = fold k (fun t s => if (decide (size s < size t) && W net s) = true then s else t) (allOf net) →
      t < 2 ^ net.length ∧ W net t = true ∧ (∀ s, s < k → W net s = true → size t ≤ size s) ∧ (t = allOf net ∨ t < k) ∧ ∀ s, s < t → s < k → W net s = true → size t < size s := by
    intro k
    induction k with
    | zero => rintro _ t rfl; exact ⟨allOf_lt net, W_all h, fun s hs => by omega, .inl rfl, fun s _ hs => by omega⟩
    | succ k ih =>
      rintro hk t rfl
      rw [fold_succ]
      obtain ⟨h1, h2, h3, h4, h5⟩ := ih (by omega) _ rfl
      generalize fold k _ (allOf net) = g at h1 h2 h3 h4 h5 ⊢
      cases hc : (decide (size k < size g) && W net k) with
      | true =>
        simp only [if_true]
        rw [Bool.and_eq_true, decide_eq_true_eq] at hc
        refine ⟨by have := allOf_lt net; omega, hc.2, fun s hs hw => ?_, .inr (by omega), fun s hs _ hw => ?_⟩
        · by_cases he : s = k
          · subst he; exact Nat.le_refl _
          · have := h3 s (by omega) hw; omega
        · have := h3 s (by omega) hw; omega
      | false =>
        simp only [Bool.false_eq_true, if_false]
        have hno : W net k = true → size g ≤ size k := fun hw => by
          rw [hw, Bool.and_true] at hc
          simpa using hc
        refine ⟨h1, h2, fun s hs hw => ?_, by omega, fun s hs hs2 hw => ?_⟩
        · by_cases he : s = k
          · subst he; exact hno hw
          · exact h3 s (by omega) hw
        · by_cases he : s = k
          · subst he
            have hg : g = allOf net := by omega
            have := hno hw
            have := size_lt_len h (s := s) (by omega)
            rw [hg, size_all h] at *
            omega
          · exact h5 s hs (by omega) hw
  obtain ⟨h1, h2, h3, h4, h5⟩ := key (allOf net) (Nat.le_refl _) _ rfl
  generalize fold (allOf net) _ (allOf net) = g at h1 h2 h3 h4 h5 ⊢
  have hs := allOf_succ net
  refine ⟨h1, h2, fun s hs2 hw => ?_, fun s hs2 hw => h5 s hs2 (by omega) hw⟩
  by_cases he : s = allOf net
  · subst he; rw [size_all h]; exact size_le_len h h1
  · exact h3 s (by omega) hw
def smallest (net : List Int) : Nat := fold (allOf net) (fun t s => if (decide (size s < size t) && W net s) = true then s else t) (allOf net)
theorem size_smallest {net : List Int} (h : Ok net) : size (smallest net) = fewest net := (small_first h).few.uniq (fewest_few h)

theorem I.smallWatchIn_n {net : List Int} (h : Ok net) : I.smallWatchIn_t net = some ((smallest net : Nat) : Int) := by
  unfold I.smallWatchIn_t I.smallWatchIn_tree
  have h64 := h.pow
  have hsu := allOf_succ net
  rw [I.allOf_n h]
  have := (run_for (run := I.smallWatchIn_run3 net) (len := allOf net) (fun k (t : Nat) => ((t : Int), (k : Int))) (fun t s => if (decide (size s < size t) && W net s) = true then s else t) (fun t => (t : Int)) (fun k t => t < 2 ^ net.length) (by omega) (fun n k t hk ht => ?_) (fun n t ht => ?_) (t0 := allOf net) (by omega)).1
  · exact congrArg (fun o => optC o (fun q => some q) none) this
  · simp only [I.smallWatchIn_run3, I.smallWatchIn_step3]
    rw [I.allOf_n h]
    simp only [optC]
    rw [cnd_t (by simp; omega), I.sizeOf_n, I.sizeOf_n]
    simp only
    by_cases hc : size k < size t
    · rw [cnd_t (by simp; omega), I.watchIn_n h (by omega)]
      simp only [hc, decide_true, Bool.true_and]
      cases hw : W net k with
      | true => simp only [cond_true, if_true]; rw [add1_nat (by omega)]; exact ⟨rfl, by omega⟩
      | false => simp only [cond_false, Bool.false_eq_true, if_false]; rw [add1_nat (by omega)]; exact ⟨rfl, ht⟩
    · rw [cnd_f (by simp; omega)]
      simp only [hc, decide_false, Bool.false_and, Bool.false_eq_true, if_false]
      rw [add1_nat (by omega)]; exact ⟨rfl, ht⟩
  · simp only [I.smallWatchIn_run3, I.smallWatchIn_step3]
    rw [I.allOf_n h]
    simp only [optC]
    rw [cnd_f (by simp)]
theorem pow_shl {net : List Int} (h : Ok net) : IntKind.i64.wrap (1 * 2 ^ min (↑net.length : Int).toNat IntKind.i64.bits) = ((2 ^ net.length : Nat) : Int) := one_shl (by have := h.hi; omega)
theorem S.FewestWatch_y {net : List Int} (h : Ok net) (e : S.NetOk_t net = some true) : S.FewestWatch_t net = some ((fewest net : Nat) : Int) := by
  unfold S.FewestWatch_t S.FewestWatch_tree
  have h64 := h.pow
  have hn := h.hi
  rw [e]
  have := (run_for (run := S.FewestWatch_run5 net) (len := 2 ^ net.length) (fun k (t : Nat) => ((t : Int), (k : Int))) (fun t s => if W net s = true then (if size s < t then size s else t) else t) (fun t => (t : Int)) (fun k t => t ≤ 6) (by omega) (fun n k t hk ht => ?_) (fun n t ht => ?_) (t0 := net.length) (by omega)).1
  · exact congrArg (fun o => optC o (fun q => some q) none) this
  · simp only [S.FewestWatch_run5, S.FewestWatch_step5]
    rw [pow_shl h, cnd_t (by rw [decide_eq_true_eq]; omega), S.l2Watch_n h hk]
    simp only [optC]
    have hz := size_le k
    cases hw : W net k with
    | true =>
      rw [cond_true, S.l1Size_n (by omega)]
      simp only [if_true]
      rw [add1_nat (by omega)]
      by_cases hc : size k < t
      · rw [if_pos (by omega), if_pos hc]; exact ⟨rfl, by omega⟩
      · rw [if_neg (by omega), if_neg hc]; exact ⟨rfl, by omega⟩
    | false => simp only [cond_false, Bool.false_eq_true, if_false]; rw [add1_nat (by omega)]; exact ⟨rfl, ht⟩
  · simp only [S.FewestWatch_run5, S.FewestWatch_step5]
    rw [pow_shl h, cnd_f (by rw [decide_eq_false_iff_not]; omega)]
theorem I.FewestWatch_y {net : List Int} (h : Ok net) (e : I.NetOk_t net = some true) : I.FewestWatch_t net = some ((fewest net : Nat) : Int) := by
  unfold I.FewestWatch_t I.FewestWatch_tree
  rw [e, I.smallWatchIn_n h]
  simp only [optC, Bool.not_true, cond_false]
  rw [I.sizeOf_n, size_smallest h]
theorem first_find {net : List Int} (h : Ok net) {N : Nat} {p : Nat → Bool} {r : Nat} (hr : r < N) (hp : p r = true) (hf : ∀ s, s < r → p s = false) : find N (fun s => if p s = true then some ((s : Nat) : Int) else none) = some (r : Int) := by
  refine find_some_of hr (find_none.2 fun j hj => by rw [hf j hj]; rfl) (by rw [hp]; rfl)
/-- A search that counts up. -/
theorem run_search {D F : Type} {run : Nat → Int → Option (D ⊕ F)} {len : Nat} (f : Nat → Option D) (e : F) (hl : len ≤ 1000000)
    (h : ∀ n k, k < len → run (n + 1) (k : Int) = (match f k with | some d => some (.inl d) | none => run n ((k + 1 : Nat) : Int))) (he : ∀ n, run (n + 1) (len : Int) = some (.inr e)) :
    run FUEL 0 = some (match find len f with | some d => .inl d | none => .inr e) := by
  refine run_find (run := run) (len := len) f e (by omega) (fun n x h0 h1 => ?_)
  obtain ⟨k, rfl⟩ : ∃ k : Nat, x = k := ⟨x.toNat, by omega⟩
  by_cases hk : k < len
  · rw [if_pos (by omega), h n k hk, Int.toNat_natCast]
    rfl
  · obtain rfl : k = len := by omega
    rw [if_neg (by omega), he]
/-! ### Least watches -/
theorem find_least {net : List Int} {s : Nat} : find net.length (fun k => if (s.testBit k && W net (s - 2 ^ k)) = true then some false else none) = if ((List.range net.length).all fun k => !(s.testBit k && W net (s - 2 ^ k))) = true then none else some false := by
  cases hall : (List.range net.length).all fun k => !(s.testBit k && W net (s - 2 ^ k)) with
  | true =>
    rw [if_pos rfl, find_none]
    intro j hj
    rw [List.all_eq_true] at hall
    have := hall j (List.mem_range.2 hj)
    rw [Bool.not_eq_true'] at this
    rw [this]; rfl
  | false =>
    rw [if_neg (by simp)]
    rw [List.all_eq_false] at hall
    obtain ⟨k, hk, hb⟩ := hall
    rw [Bool.not_eq_true', Bool.not_eq_false] at hb
    cases hf : find net.length (fun k => if (s.testBit k && W net (s - 2 ^ k)) = true then some false else none) with
    | none =>
      have := find_none.1 hf k (List.mem_range.1 hk)
      rw [hb] at this; cases this
    | some b =>
      obtain ⟨j, hj, he⟩ := find_some_ex hf
      split at he
      · cases he; rfl
      · cases he
theorem I.leastWatchIn_n {net : List Int} (h : Ok net) {s : Nat} (hs : s < 2 ^ net.length) : I.leastWatchIn_t net s = some (least net s) := by
  unfold I.leastWatchIn_t I.leastWatchIn_tree
  have h64 := h.pow
  have h6 := h.hi
  rw [I.watchIn_n h hs]
  simp only [optC]
  unfold least
  cases hw : W net s with
  | false => rfl
  | true =>
    rw [Bool.not_true, cond_false, Bool.true_and, run_search (run := I.leastWatchIn_run4 net s) (len := net.length) (fun k => if (s.testBit k && W net (s - 2 ^ k)) = true then some false else none) () (by omega) (fun n k hk => ?_) (fun n => ?_), find_least]
    · cases (List.range net.length).all fun k => !(s.testBit k && W net (s - 2 ^ k)) <;> rfl
    · simp only [I.leastWatchIn_run4, I.leastWatchIn_step4]
      rw [cnd_t (by simp; omega), I.hasPlace_n _ _ (by omega)]
      simp only [optC]
      cases hb : s.testBit k with
      | false => simp only [cond_false, Bool.false_and, Bool.false_eq_true, if_false]; rw [add1_nat (by omega)]
      | true =>
        rw [cond_true, I.without_n (by omega) (by omega), if_pos hb]
        simp only
        rw [I.watchIn_n h (sub_lt hs)]
        simp only [Bool.true_and]
        cases hw2 : W net (s - 2 ^ k) with
        | false => simp only [cond_false, Bool.false_eq_true, if_false]; rw [add1_nat (by omega)]
        | true => rfl
    · simp only [I.leastWatchIn_run4, I.leastWatchIn_step4]
      rw [cnd_f (by simp)]
theorem S.l2Least_n {net : List Int} (h : Ok net) {s : Nat} (hs : s < 2 ^ net.length) : S.l2Least_t net s = some (least net s) := by
  unfold S.l2Least_t S.l2Least_tree
  have h64 := h.pow
  have h6 := h.hi
  rw [run_search (run := S.l2Least_run2 net s) (len := net.length) (fun k => if (s.testBit k && W net (s - 2 ^ k)) = true then some false else none) () (by omega) (fun n k hk => ?_) (fun n => ?_), find_least]
  · simp only [optC]
    rw [S.l2Watch_n h hs]
    unfold least
    cases (List.range net.length).all fun k => !(s.testBit k && W net (s - 2 ^ k)) with
    | true => simp [sumC]
    | false => simp [sumC]
  · simp only [S.l2Least_run2, S.l2Least_step2]
    rw [cnd_t (by simp; omega), cnd_f (by simp), bit_shr _ _ (by omega), bool_eq1]
    cases hb : s.testBit k with
    | false => simp only [cond_false, Bool.false_and, Bool.false_eq_true, if_false]; rw [add1_nat (by omega)]
    | true =>
      have := (bits_sub s (by omega) k (by omega) hb).2.1
      rw [cond_true, cnd_f (by simp), one_shl (by omega), sub_nat this (by omega), S.l2Watch_n h (sub_lt hs)]
      simp only [optC, Bool.true_and]
      cases hw2 : W net (s - 2 ^ k) with
      | false => simp only [cond_false, Bool.false_eq_true, if_false]; rw [add1_nat (by omega)]
      | true => rfl
  · simp only [S.l2Least_run2, S.l2Least_step2]
    rw [cnd_f (by simp)]
end Go.Proofs.Ytonbbeplmjidnaa
