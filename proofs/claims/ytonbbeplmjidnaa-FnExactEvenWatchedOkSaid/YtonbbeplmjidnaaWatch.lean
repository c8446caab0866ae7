/- Watches: plain facts of nets and sets of their places. Conditions: those of each theorem. -/
import Derived.Test.YtonbbeplmjidnaaSum
namespace Go.Proofs.Ytonbbeplmjidnaa
set_option linter.unusedVariables false
set_option linter.unusedSimpArgs false

theorem allOf_lt (net : List Int) : allOf net < 2 ^ net.length := by
  unfold allOf
  have : 0 < 2 ^ net.length := Nat.two_pow_pos _
  omega
/-- Does a set watch the net? -/
def W (net : List Int) (s : Nat) : Bool := seen net s == allOf net
theorem W_iff {net : List Int} (h : Ok net) {s : Nat} (hs : s < 2 ^ net.length) : W net s = true ↔ ∀ j, j < net.length → (seen net s).testBit j = true := by
  unfold W
  rw [beq_iff_eq]
  constructor
  · intro he j hj; rw [he, allOf_testBit]; simpa using hj
  · intro ha
    refine eq_of_bits (h.seen_lt hs) (allOf_lt net) fun j hj => ?_
    rw [ha j hj, allOf_testBit]; simp [hj]
theorem seen_iff {net : List Int} (h : Ok net) (s : Nat) {j : Nat} (hj : j < net.length) : (seen net s).testBit j = true ↔ s.testBit j = true ∨ ∃ k, k < net.length ∧ s.testBit k = true ∧ (nb net j).testBit k = true := by
  rw [seen_testBit]
  constructor
  · rintro (a | ⟨k, hk, a, b⟩)
    · exact .inl a
    · exact .inr ⟨k, hk, a, by rw [← h.sym _ _ hj hk]; exact b⟩
  · rintro (a | ⟨k, hk, a, b⟩)
    · exact .inl a
    · exact .inr ⟨k, hk, a, by rw [h.sym _ _ hj hk]; exact b⟩
theorem seen_mono {net : List Int} {s t : Nat} (h : ∀ j, s.testBit j = true → t.testBit j = true) {j : Nat} (hj : (seen net s).testBit j = true) : (seen net t).testBit j = true := by
  rw [seen_testBit] at hj ⊢
  rcases hj with a | ⟨k, hk, a, b⟩
  · exact .inl (h _ a)
  · exact .inr ⟨k, hk, h _ a, b⟩
theorem W_mono {net : List Int} (h : Ok net) {s t : Nat} (hs : s < 2 ^ net.length) (ht : t < 2 ^ net.length) (hst : ∀ j, s.testBit j = true → t.testBit j = true) (hw : W net s = true) : W net t = true :=
  (W_iff h ht).2 fun j hj => seen_mono hst ((W_iff h hs).1 hw j hj)
theorem W_all {net : List Int} (h : Ok net) : W net (allOf net) = true :=
  (W_iff h (allOf_lt net)).2 fun j hj => by rw [seen_testBit, allOf_testBit]; simp [hj]
theorem W_zero {net : List Int} (h : Ok net) : W net 0 = false := by
  cases hw : W net 0 with
  | false => rfl
  | true =>
    have := (W_iff h (Nat.two_pow_pos _)).1 hw 0 h.lo
    rw [seen_testBit] at this
    simp at this
theorem seen_or (net : List Int) (s t : Nat) : seen net (s ||| t) = seen net s ||| seen net t := by
  apply Nat.eq_of_testBit_eq
  intro j
  rw [Bool.eq_iff_iff, Nat.testBit_or, Bool.or_eq_true, seen_testBit, seen_testBit, seen_testBit]
  simp only [Nat.testBit_or, Bool.or_eq_true]
  constructor
  · rintro ((a | a) | ⟨k, hk, a | a, b⟩)
    · exact .inl (.inl a)
    · exact .inr (.inl a)
    · exact .inl (.inr ⟨k, hk, a, b⟩)
    · exact .inr (.inr ⟨k, hk, a, b⟩)
  · rintro ((a | ⟨k, hk, a, b⟩) | (a | ⟨k, hk, a, b⟩))
    · exact .inl (.inl a)
    · exact .inr ⟨k, hk, .inl a, b⟩
    · exact .inl (.inr a)
    · exact .inr ⟨k, hk, .inr a, b⟩
theorem seen_zero (net : List Int) : seen net 0 = 0 := by
  apply Nat.eq_of_testBit_eq
  intro j
  rw [Bool.eq_iff_iff, seen_testBit]
  simp
theorem ball_and {net : List Int} (h : Ok net) {k s : Nat} (hk : k < net.length) (hs : s < 2 ^ net.length) : ((ball net k &&& s) != 0) = (seen net s).testBit k := by
  rw [Bool.eq_iff_iff, seen_iff h s hk, bne_iff_ne, ne_eq]
  constructor
  · intro hne
    have : ∃ j, (ball net k &&& s).testBit j = true := by
      refine Classical.byContradiction fun hc => hne (Nat.eq_of_testBit_eq fun j => ?_)
      rw [Nat.zero_testBit]
      cases hb : (ball net k &&& s).testBit j with
      | false => rfl
      | true => exact absurd ⟨j, hb⟩ hc
    obtain ⟨j, hj⟩ := this
    rw [Nat.testBit_and, Bool.and_eq_true, ball_testBit] at hj
    rcases hj with ⟨a | rfl, b⟩
    · exact .inr ⟨j, h.nb_lt hk a, b, a⟩
    · exact .inl b
  · intro hor he
    have hz : ∀ j, (ball net k &&& s).testBit j = false := fun j => by rw [he, Nat.zero_testBit]
    rcases hor with a | ⟨j, hj, a, b⟩
    · have := hz k
      rw [Nat.testBit_and, a, (ball_testBit net k k).2 (.inr rfl)] at this; cases this
    · have := hz j
      rw [Nat.testBit_and, a, (ball_testBit net k j).2 (.inl b)] at this; cases this

/-! ### Without one place -/
theorem bits_sub : ∀ s, s < 64 → ∀ k, k < 6 → s.testBit k = true → s - 2 ^ k < 64 ∧ 2 ^ k ≤ s ∧ size (s - 2 ^ k) + 1 = size s ∧ ∀ j, j < 6 → (s - 2 ^ k).testBit j = (s.testBit j && !decide (j = k)) := by decide +kernel
theorem bits_or : ∀ s, s < 64 → ∀ k, k < 6 → s.testBit k = false → size (s ||| 2 ^ k) = size s + 1 := by decide +kernel
theorem bits_minus : ∀ s, s < 64 → ∀ k, k < 6 → minus s (2 ^ k) = if s.testBit k = true then s - 2 ^ k else s := by decide +kernel
theorem testBit_big {s j : Nat} (hs : s < 64) (hj : 6 ≤ j) : s.testBit j = false := by
  cases h : s.testBit j with
  | false => rfl
  | true => have := testBit_lt (n := 6) hs h; omega
theorem sub_testBit {s k : Nat} (hs : s < 64) (hk : k < 6) (hb : s.testBit k = true) (j : Nat) : (s - 2 ^ k).testBit j = (s.testBit j && !decide (j = k)) := by
  have h := bits_sub s hs k hk hb
  by_cases hj : j < 6
  · exact h.2.2.2 j hj
  · rw [testBit_big h.1 (by omega), testBit_big hs (by omega)]; rfl
theorem sub_lt {s k n : Nat} (hs : s < 2 ^ n) : s - 2 ^ k < 2 ^ n := Nat.lt_of_le_of_lt (Nat.sub_le _ _) hs

/-- A watch that needs each of its places. -/
def least (net : List Int) (s : Nat) : Bool := W net s && (List.range net.length).all fun k => !(s.testBit k && W net (s - 2 ^ k))
theorem least_iff {net : List Int} {s : Nat} : least net s = true ↔ W net s = true ∧ ∀ k, k < net.length → s.testBit k = true → W net (s - 2 ^ k) = false := by
  unfold least
  rw [Bool.and_eq_true, List.all_eq_true]
  simp only [List.mem_range, Bool.not_eq_true', Bool.and_eq_false_imp]
theorem lt64 {net : List Int} (h : Ok net) {s : Nat} (hs : s < 2 ^ net.length) : s < 64 := Nat.lt_of_lt_of_le hs h.pow
/-- No other watch is within a least one. -/
theorem least_min {net : List Int} (h : Ok net) {s t : Nat} (hs : s < 2 ^ net.length) (hl : least net s = true) (hts : ∀ j, t.testBit j = true → s.testBit j = true) (ht : t < 2 ^ net.length) (hw : W net t = true) : t = s := by
  refine Classical.byContradiction fun hne => ?_
  have : ∃ k, k < net.length ∧ s.testBit k = true ∧ t.testBit k = false := by
    refine Classical.byContradiction fun hc => hne (eq_of_bits ht hs fun j hj => ?_)
    cases hb : t.testBit j with
    | true => exact (hts j hb).symm
    | false => cases hb2 : s.testBit j with
      | false => rfl
      | true => exact absurd ⟨j, hj, hb2, hb⟩ hc
  obtain ⟨k, hk, h1, h2⟩ := this
  have h3 := (least_iff.1 hl).2 k hk h1
  rw [W_mono h ht (sub_lt hs) (fun j hj => ?_) hw] at h3
  · cases h3
  · rw [sub_testBit (lt64 h hs) (by have := h.hi; omega) h1, hts j hj, Bool.true_and]
    by_cases hjk : j = k
    · subst hjk; rw [h2] at hj; cases hj
    · simp [hjk]
/-- Each watch has a least one in it. -/
theorem least_in {net : List Int} (h : Ok net) : ∀ (m s : Nat), size s ≤ m → s < 2 ^ net.length → W net s = true → ∃ t, t < 2 ^ net.length ∧ (∀ j, t.testBit j = true → s.testBit j = true) ∧ least net t = true ∧ size t ≤ size s := by
  intro m
  induction m with
  | zero =>
    intro s hm hs hw
    refine ⟨s, hs, fun _ hj => hj, least_iff.2 ⟨hw, fun k hk hb => ?_⟩, Nat.le_refl _⟩
    have := (bits_sub s (lt64 h hs) k (by have := h.hi; omega) hb).2.2.1
    omega
  | succ m ih =>
    intro s hm hs hw
    by_cases hex : ∃ k, k < net.length ∧ s.testBit k = true ∧ W net (s - 2 ^ k) = true
    · obtain ⟨k, hk, hb, hw2⟩ := hex
      have h6 : k < 6 := by have := h.hi; omega
      have hz := (bits_sub s (lt64 h hs) k h6 hb).2.2.1
      obtain ⟨t, ht, hsub, hl, hsz⟩ := ih (s - 2 ^ k) (by omega) (sub_lt hs) hw2
      refine ⟨t, ht, fun j hj => ?_, hl, by omega⟩
      have := hsub j hj
      rw [sub_testBit (lt64 h hs) h6 hb, Bool.and_eq_true] at this
      exact this.1
    · refine ⟨s, hs, fun _ hj => hj, least_iff.2 ⟨hw, fun k hk hb => ?_⟩, Nat.le_refl _⟩
      cases hw2 : W net (s - 2 ^ k) with
      | false => rfl
      | true => exact absurd ⟨k, hk, hb, hw2⟩ hex
/-- The complement. -/
theorem compl_testBit {net : List Int} {s : Nat} (hs : s < 2 ^ net.length) (j : Nat) : (allOf net - s).testBit j = (decide (j < net.length) && !s.testBit j) := by
  unfold allOf
  rw [show 2 ^ net.length - 1 - s = 2 ^ net.length - (s + 1) by omega, Nat.testBit_two_pow_sub_succ hs]
theorem compl_lt (net : List Int) (s : Nat) : allOf net - s < 2 ^ net.length := Nat.lt_of_le_of_lt (Nat.sub_le _ _) (allOf_lt net)
/-- What a least watch leaves free is a watch, where no place is alone. -/
theorem free_watch {net : List Int} (h : Ok net) (hlone : ∀ k, k < net.length → nb net k ≠ 0) {s : Nat} (hs : s < 2 ^ net.length) (hl : least net s = true) : W net (allOf net - s) = true := by
  refine (W_iff h (compl_lt net s)).2 fun j hj => ?_
  rw [seen_iff h _ hj]
  cases hb : s.testBit j with
  | false => left; rw [compl_testBit hs]; simp [hj, hb]
  | true =>
    right
    have hn := (least_iff.1 hl).2 j hj hb
    have h6 : j < 6 := by have := h.hi; omega
    have hex : ∃ v, v < net.length ∧ (seen net (s - 2 ^ j)).testBit v = false := by
      refine Classical.byContradiction fun hc => ?_
      rw [(W_iff h (sub_lt hs)).2 (fun v hv => ?_)] at hn
      · cases hn
      · cases hv2 : (seen net (s - 2 ^ j)).testBit v with
        | true => rfl
        | false => exact absurd ⟨v, hv, hv2⟩ hc
    obtain ⟨v, hv, hv2⟩ := hex
    have hnot : ¬ ((s - 2 ^ j).testBit v = true ∨ ∃ k, k < net.length ∧ (s - 2 ^ j).testBit k = true ∧ (nb net v).testBit k = true) := by
      rw [← seen_iff h _ hv, hv2]; simp
    have hall := (W_iff h hs).1 (least_iff.1 hl).1
    by_cases hvj : v = j
    · subst hvj
      -- a neighbour of v is outside
      obtain ⟨i, hi⟩ : ∃ i, (nb net v).testBit i = true := by
        refine Classical.byContradiction fun hc => hlone v hv (Nat.eq_of_testBit_eq fun i => ?_)
        rw [Nat.zero_testBit]
        cases hb2 : (nb net v).testBit i with
        | false => rfl
        | true => exact absurd ⟨i, hb2⟩ hc
      have hil := h.nb_lt hv hi
      refine ⟨i, hil, ?_, hi⟩
      rw [compl_testBit hs]
      cases hsi : s.testBit i with
      | false => simp [hil]
      | true =>
        refine absurd (.inr ⟨i, hil, ?_, hi⟩) hnot
        rw [sub_testBit (lt64 h hs) h6 hb, hsi]
        have : i ≠ v := fun he => by rw [he, h.irr v hv] at hi; cases hi
        simp [this]
    · have hv3 := (seen_iff h s hv).1 (hall v hv)
      have hnv : s.testBit v = false := by
        cases hsv : s.testBit v with
        | false => rfl
        | true => refine absurd (.inl ?_) hnot; rw [sub_testBit (lt64 h hs) h6 hb, hsv]; simp [hvj]
      rcases hv3 with a | ⟨k, hk, a, b⟩
      · rw [hnv] at a; cases a
      · have hkj : k = j := by
          refine Classical.byContradiction fun hne => hnot (.inr ⟨k, hk, ?_, b⟩)
          rw [sub_testBit (lt64 h hs) h6 hb, a]; simp [hne]
        subst hkj
        refine ⟨v, hv, ?_, by rw [h.sym _ _ hv hk]; exact b⟩
        rw [compl_testBit hs, hnv]; simp [hv]
end Go.Proofs.Ytonbbeplmjidnaa
