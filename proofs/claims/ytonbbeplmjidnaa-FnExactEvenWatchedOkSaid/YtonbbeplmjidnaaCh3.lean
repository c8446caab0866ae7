/- Guards that are needed, guards apart, the chain of numbers: plain facts. Conditions: those of each theorem. -/
import Derived.Test.YtonbbeplmjidnaaChap1
namespace Go.Proofs.Ytonbbeplmjidnaa
set_option linter.unusedVariables false
set_option linter.unusedSimpArgs false

theorem not_true {b : Bool} (h : ¬ b = true) : b = false := by cases b with
  | true => exact absurd rfl h
  | false => rfl
theorem sees_symm {net : List Int} (h : Ok net) {j k : Nat} (hj : j < net.length) (hk : k < net.length) : (ball net k).testBit j = (ball net j).testBit k := by
  rw [Bool.eq_iff_iff, ball_testBit, ball_testBit, h.sym j k hj hk]
  constructor <;> (rintro (a | a); exact .inl a; exact .inr a.symm)
theorem sees_self (net : List Int) (k : Nat) : (ball net k).testBit k = true := (ball_testBit _ _ _).2 (.inr rfl)
theorem sees_lt {net : List Int} (h : Ok net) {j k : Nat} (hk : k < net.length) (hs : (ball net k).testBit j = true) : j < net.length := testBit_lt (h.ball_lt hk) hs
theorem seen_balls {net : List Int} (h : Ok net) {s : Nat} (hs : s < 2 ^ net.length) {j : Nat} : (seen net s).testBit j = true ↔ ∃ k, k < net.length ∧ s.testBit k = true ∧ (ball net k).testBit j = true := by
  rw [← h.seen_balls hs, orN_testBit]
theorem in_lt {net : List Int} {s k : Nat} (hs : s < 2 ^ net.length) (hk : s.testBit k = true) : k < net.length := testBit_lt hs hk

/-! ### Private places -/
def priv (net : List Int) (s g : Nat) : Nat := minus (ball net g) (seen net (s - 2 ^ g))
theorem priv_testBit {net : List Int} (h : Ok net) {s g : Nat} (hs : s < 2 ^ net.length) (hg : s.testBit g = true) (j : Nat) :
    (priv net s g).testBit j = true ↔ (ball net g).testBit j = true ∧ ∀ i, s.testBit i = true → (ball net i).testBit j = true → i = g := by
  have h6 := h.hi
  have hgl := in_lt hs hg
  have h64 := h.pow
  have hb := h.ball_lt hgl
  have hsl := h.seen_lt (sub_lt (k := g) hs)
  unfold priv
  rw [minus_testBit _ _ (by omega) (by omega), Bool.and_eq_true, Bool.not_eq_true']
  have hsub : ∀ i, (s - 2 ^ g).testBit i = true ↔ s.testBit i = true ∧ i ≠ g := fun i => by
    rw [sub_testBit (lt64 h hs) (by omega) hg]; simp
  constructor
  · rintro ⟨a, b⟩
    refine ⟨a, fun i hi hb2 => Classical.byContradiction fun hne => ?_⟩
    rw [(seen_balls h (sub_lt hs)).2 ⟨i, in_lt hs hi, (hsub i).2 ⟨hi, hne⟩, hb2⟩] at b; cases b
  · rintro ⟨a, b⟩
    refine ⟨a, not_true fun hc => ?_⟩
    obtain ⟨i, hi, h1, h2⟩ := (seen_balls h (sub_lt hs)).1 hc
    exact ((hsub i).1 h1).2 (b i ((hsub i).1 h1).1 h2)
theorem priv_lt {net : List Int} (h : Ok net) {s g : Nat} (hs : s < 2 ^ net.length) (hg : g < net.length) : priv net s g < 2 ^ net.length := by
  unfold priv minus
  exact Nat.lt_of_le_of_lt Nat.and_le_left (h.ball_lt hg)
theorem zero_iff {a : Nat} : a = 0 ↔ ∀ j, a.testBit j = false := by
  constructor
  · rintro rfl j; exact Nat.zero_testBit j
  · intro ha; exact Nat.eq_of_testBit_eq fun j => by rw [ha j, Nat.zero_testBit]
theorem pos_iff {a : Nat} : a ≠ 0 ↔ ∃ j, a.testBit j = true := by
  rw [Ne, zero_iff]
  constructor
  · intro hn
    refine Classical.byContradiction fun hc => hn fun j => not_true fun hj => hc ⟨j, hj⟩
  · rintro ⟨j, hj⟩ ha; rw [ha j] at hj; cases hj
/-- Each guard has a place of its own. -/
def Needs (net : List Int) (s : Nat) : Prop := ∀ g, s.testBit g = true → ∃ j, (ball net g).testBit j = true ∧ ∀ i, s.testBit i = true → (ball net i).testBit j = true → i = g
def needs (net : List Int) (s : Nat) : Bool := (List.range net.length).all fun k => !(s.testBit k && priv net s k == 0)
theorem needs_iff {net : List Int} (h : Ok net) {s : Nat} (hs : s < 2 ^ net.length) : needs net s = true ↔ Needs net s := by
  unfold needs
  rw [List.all_eq_true]
  simp only [List.mem_range, Bool.not_eq_true', Bool.and_eq_false_imp]
  constructor
  · intro ha g hg
    have := ha g (in_lt hs hg) hg
    have hne : priv net s g ≠ 0 := fun he => by rw [he] at this; cases this
    obtain ⟨j, hj⟩ := pos_iff.1 hne
    exact ⟨j, (priv_testBit h hs hg j).1 hj⟩
  · intro ha g _ hg
    obtain ⟨j, hj⟩ := ha g hg
    have : priv net s g ≠ 0 := pos_iff.2 ⟨j, (priv_testBit h hs hg j).2 hj⟩
    simpa using this
theorem Needs.mono {net : List Int} {s t : Nat} (hst : ∀ j, t.testBit j = true → s.testBit j = true) (hn : Needs net s) : Needs net t := fun g hg => by
  obtain ⟨j, h1, h2⟩ := hn g (hst g hg)
  exact ⟨j, h1, fun i hi hb => h2 i (hst i hi) hb⟩
theorem Needs.zero (net : List Int) : Needs net 0 := fun g hg => by rw [Nat.zero_testBit] at hg; cases hg
theorem Needs.one (net : List Int) (k : Nat) : Needs net (2 ^ k) := fun g hg => by
  rw [testBit_pow, decide_eq_true_eq] at hg
  subst hg
  exact ⟨k, sees_self net k, fun i hi _ => by rw [testBit_pow, decide_eq_true_eq] at hi; exact hi.symm⟩
/-- Least watches are just the watches that need all guards. -/
theorem least_needs {net : List Int} (h : Ok net) {s : Nat} (hs : s < 2 ^ net.length) : least net s = true ↔ W net s = true ∧ Needs net s := by
  have h6 := h.hi
  rw [least_iff]
  constructor
  · rintro ⟨hw, hl⟩
    refine ⟨hw, fun g hg => ?_⟩
    have hgl := in_lt hs hg
    have hn := hl g hgl hg
    have hex : ∃ v, v < net.length ∧ (seen net (s - 2 ^ g)).testBit v = false := by
      refine Classical.byContradiction fun hc => ?_
      rw [(W_iff h (sub_lt hs)).2 (fun v hv => ?_)] at hn
      · cases hn
      · cases hv2 : (seen net (s - 2 ^ g)).testBit v with
        | true => rfl
        | false => exact absurd ⟨v, hv, hv2⟩ hc
    obtain ⟨v, hv, hv2⟩ := hex
    obtain ⟨k, hk, hks, hkb⟩ := (seen_balls h hs).1 ((W_iff h hs).1 hw v hv)
    have only : ∀ i, s.testBit i = true → (ball net i).testBit v = true → i = g := fun i hi hb => Classical.byContradiction fun hne => by
      rw [(seen_balls h (sub_lt hs)).2 ⟨i, in_lt hs hi, by rw [sub_testBit (lt64 h hs) (by omega) hg, hi]; simp [hne], hb⟩] at hv2; cases hv2
    have := only k hks hkb
    subst this
    exact ⟨v, hkb, only⟩
  · rintro ⟨hw, hn⟩
    refine ⟨hw, fun g hgl hg => not_true fun hc => ?_⟩
    obtain ⟨j, h1, h2⟩ := hn g hg
    obtain ⟨k, hk, hks, hkb⟩ := (seen_balls h (sub_lt hs)).1 ((W_iff h (sub_lt hs)).1 hc j (sees_lt h hgl h1))
    rw [sub_testBit (lt64 h hs) (by omega) hg, Bool.and_eq_true] at hks
    have := h2 k hks.1 hkb
    subst this
    simp at hks
theorem or_testBit (s k j : Nat) : (s ||| 2 ^ k).testBit j = true ↔ s.testBit j = true ∨ j = k := by
  rw [Nat.testBit_or, Bool.or_eq_true, testBit_pow, decide_eq_true_eq]
  exact ⟨fun a => a.elim .inl (fun b => .inr b.symm), fun a => a.elim .inl (fun b => .inr b.symm)⟩
theorem or_lt {n s k : Nat} (hs : s < 2 ^ n) (hk : k < n) : s ||| 2 ^ k < 2 ^ n := Nat.or_lt_two_pow hs (Nat.pow_lt_pow_right (by omega) hk)
/-- A set that needs all guards, and does not with any further place. -/
def FullN (net : List Int) (s : Nat) : Prop := Needs net s ∧ ∀ k, k < net.length → s.testBit k = false → ¬ Needs net (s ||| 2 ^ k)
def fullN (net : List Int) (s : Nat) : Bool := ((List.range net.length).all fun k => !(!s.testBit k && needs net (s ||| 2 ^ k))) && needs net s
theorem fullN_iff {net : List Int} (h : Ok net) {s : Nat} (hs : s < 2 ^ net.length) : fullN net s = true ↔ FullN net s := by
  unfold fullN
  rw [Bool.and_eq_true, List.all_eq_true, needs_iff h hs]
  simp only [List.mem_range, Bool.not_eq_true', Bool.and_eq_false_imp]
  constructor
  · rintro ⟨a, b⟩
    refine ⟨b, fun k hk hb hc => ?_⟩
    have := a k hk hb
    rw [(needs_iff h (or_lt hs hk)).2 hc] at this; cases this
  · rintro ⟨a, b⟩
    exact ⟨fun k hk hb => not_true fun hc => b k hk hb ((needs_iff h (or_lt hs hk)).1 hc), a⟩
/-- Each least watch is full. -/
theorem least_full {net : List Int} (h : Ok net) {s : Nat} (hs : s < 2 ^ net.length) (hl : least net s = true) : FullN net s := by
  obtain ⟨hw, hn⟩ := (least_needs h hs).1 hl
  refine ⟨hn, fun k hk hb hc => ?_⟩
  obtain ⟨j, h1, h2⟩ := hc k ((or_testBit _ _ _).2 (.inr rfl))
  obtain ⟨i, hi, his, hib⟩ := (seen_balls h hs).1 ((W_iff h hs).1 hw j (sees_lt h hk h1))
  have := h2 i ((or_testBit _ _ _).2 (.inl his)) hib
  rw [this, hb] at his; cases his

/-! ### Seen twice -/
/-- The places that two guards of a set see. -/
structure Twice (net : List Int) (s t : Nat) : Prop where
  lt : t < 2 ^ net.length
  bit : ∀ j, t.testBit j = true ↔ ∃ a b, s.testBit a = true ∧ s.testBit b = true ∧ a ≠ b ∧ (ball net a).testBit j = true ∧ (ball net b).testBit j = true
theorem Twice.uniq {net : List Int} {s t u : Nat} (ht : Twice net s t) (hu : Twice net s u) : t = u := Nat.eq_of_testBit_eq fun j => by rw [Bool.eq_iff_iff, ht.bit, hu.bit]
def twice (net : List Int) (s : Nat) : Nat := (fold net.length (fun (t : Nat × Nat) k => if s.testBit k = true then (t.1 ||| ball net k, t.2 ||| (t.1 &&& ball net k)) else t) (0, 0)).2
theorem twice_is {net : List Int} (h : Ok net) {s : Nat} (hs : s < 2 ^ net.length) : Twice net s (twice net s) := by
  have key : ∀ m, m ≤ net.length → (∀ j, (fold m (fun (t : Nat × Nat) k => if s.testBit k = true then (t.1 ||| ball net k, t.2 ||| (t.1 &&& ball net k)) else t) (0, 0)).1.testBit j = true ↔ ∃ a, a < m ∧ s.testBit a = true ∧ (ball net a).testBit j = true) ∧
      (∀ j, (fold m (fun (t : Nat × Nat) k => if s.testBit k = true then (t.1 ||| ball net k, t.2 ||| (t.1 &&& ball net k)) else t) (0, 0)).2.testBit j = true ↔ ∃ a b, a < b ∧ b < m ∧ s.testBit a = true ∧ s.testBit b = true ∧ (ball net a).testBit j = true ∧ (ball net b).testBit j = true) ∧
      (fold m (fun (t : Nat × Nat) k => if s.testBit k = true then (t.1 ||| ball net k, t.2 ||| (t.1 &&& ball net k)) else t) (0, 0)).2 < 2 ^ net.length := by
    intro m
    induction m with
    | zero => intro _; exact ⟨fun j => by simp [fold_zero], fun j => by simp [fold_zero], Nat.two_pow_pos _⟩
    | succ m ih =>
      intro hm
      rw [fold_succ]
      obtain ⟨a1, a2, a3⟩ := ih (by omega)
      generalize fold m _ (0, 0) = t at a1 a2 a3 ⊢
      obtain ⟨o, w⟩ := t
      simp only at a1 a2 a3 ⊢
      cases hb : s.testBit m with
      | false =>
        simp only [Bool.false_eq_true, if_false]
        refine ⟨fun j => ?_, fun j => ?_, a3⟩
        · rw [a1]
          constructor
          · rintro ⟨a, x, y⟩; exact ⟨a, by omega, y⟩
          · rintro ⟨a, x, y, z⟩
            have : a ≠ m := fun he => by rw [he, hb] at y; cases y
            exact ⟨a, by omega, y, z⟩
        · rw [a2]
          constructor
          · rintro ⟨a, b, x, y, z⟩; exact ⟨a, b, x, by omega, z⟩
          · rintro ⟨a, b, x, y, z1, z2, z3⟩
            have : b ≠ m := fun he => by rw [he, hb] at z2; cases z2
            exact ⟨a, b, x, by omega, z1, z2, z3⟩
      | true =>
        simp only [if_true]
        refine ⟨fun j => ?_, fun j => ?_, Nat.or_lt_two_pow a3 (Nat.lt_of_le_of_lt Nat.and_le_right (h.ball_lt (by omega)))⟩
        · rw [Nat.testBit_or, Bool.or_eq_true, a1]
          constructor
          · rintro (⟨a, x, y⟩ | x)
            · exact ⟨a, by omega, y⟩
            · exact ⟨m, by omega, hb, x⟩
          · rintro ⟨a, x, y, z⟩
            by_cases he : a = m
            · rw [he] at z; exact .inr z
            · exact .inl ⟨a, by omega, y, z⟩
        · rw [Nat.testBit_or, Bool.or_eq_true, Nat.testBit_and, Bool.and_eq_true, a2, a1]
          constructor
          · rintro (⟨a, b, x, y, z⟩ | ⟨⟨a, x, y, z⟩, w⟩)
            · exact ⟨a, b, x, by omega, z⟩
            · exact ⟨a, m, x, by omega, y, hb, z, w⟩
          · rintro ⟨a, b, x, y, z1, z2, z3, z4⟩
            by_cases he : b = m
            · rw [he] at x z4; exact .inr ⟨⟨a, x, z1, z3⟩, z4⟩
            · exact .inl ⟨a, b, x, by omega, z1, z2, z3, z4⟩
  obtain ⟨_, a2, a3⟩ := key net.length (Nat.le_refl _)
  refine ⟨a3, fun j => (a2 j).trans ?_⟩
  constructor
  · rintro ⟨a, b, x, y, z1, z2, z3, z4⟩; exact ⟨a, b, z1, z2, by omega, z3, z4⟩
  · rintro ⟨a, b, z1, z2, x, z3, z4⟩
    rcases Nat.lt_or_ge a b with hab | hab
    · exact ⟨a, b, hab, in_lt hs z2, z1, z2, z3, z4⟩
    · exact ⟨b, a, by omega, in_lt hs z1, z2, z1, z4, z3⟩

/-! ### Guards apart -/
def Apart (net : List Int) (s : Nat) : Prop := ∀ j k, s.testBit j = true → s.testBit k = true → (nb net j).testBit k = false
def apart (net : List Int) (s : Nat) : Bool := (near net s &&& s) == 0
theorem apart_iff {net : List Int} {s : Nat} (hs : s < 2 ^ net.length) : apart net s = true ↔ Apart net s := by
  unfold apart
  rw [beq_iff_eq, zero_iff]
  constructor
  · intro ha j k hj hk
    have := ha k
    rw [Nat.testBit_and, hk, Bool.and_true] at this
    refine not_true fun hb => ?_
    rw [(near_testBit _ _ _).2 ⟨j, in_lt hs hj, hj, hb⟩] at this; cases this
  · intro ha j
    refine not_true fun hb => ?_
    rw [Nat.testBit_and, Bool.and_eq_true, near_testBit] at hb
    obtain ⟨⟨k, _, h1, h2⟩, h3⟩ := hb
    rw [ha k j h1 h3] at h2; cases h2
theorem Apart.mono {net : List Int} {s t : Nat} (hst : ∀ j, t.testBit j = true → s.testBit j = true) (h : Apart net s) : Apart net t := fun j k hj hk => h j k (hst j hj) (hst k hk)
theorem Apart.zero (net : List Int) : Apart net 0 := fun j k hj _ => by rw [Nat.zero_testBit] at hj; cases hj
theorem Apart.one {net : List Int} (h : Ok net) {k : Nat} (hk : k < net.length) : Apart net (2 ^ k) := fun i j hi hj => by
  rw [testBit_pow, decide_eq_true_eq] at hi hj
  subst hi; subst hj
  exact h.irr _ hk
theorem apart_only {net : List Int} (h : Ok net) {s : Nat} (hs : s < 2 ^ net.length) (ha : Apart net s) {g : Nat} (hg : s.testBit g = true) : ∀ i, s.testBit i = true → (ball net i).testBit g = true → i = g := fun i hi hb => by
  rcases (ball_testBit _ _ _).1 hb with a | a
  · rw [ha i g hi hg] at a; cases a
  · exact a
theorem Apart.needs {net : List Int} (h : Ok net) {s : Nat} (hs : s < 2 ^ net.length) (ha : Apart net s) : Needs net s := fun g hg => ⟨g, sees_self net g, apart_only h hs ha hg⟩
theorem Apart.add {net : List Int} (h : Ok net) {s k : Nat} (hs : s < 2 ^ net.length) (hk : k < net.length) (ha : Apart net s) (hn : ∀ j, s.testBit j = true → (nb net k).testBit j = false) : Apart net (s ||| 2 ^ k) := fun i j hi hj => by
  rw [or_testBit] at hi hj
  rcases hi with hi | hi
  · rcases hj with hj | hj
    · exact ha i j hi hj
    · rw [hj, h.sym k i hk (in_lt hs hi)]; exact hn i hi
  · rcases hj with hj | hj
    · rw [hi]; exact hn j hj
    · rw [hi, hj]; exact h.irr k hk
def fullA (net : List Int) (s : Nat) : Bool := apart net s && (List.range net.length).all fun k => !(!s.testBit k && apart net (s ||| 2 ^ k))
/-- Full apart sets are apart watches. -/
theorem fullA_iff {net : List Int} (h : Ok net) {s : Nat} (hs : s < 2 ^ net.length) : fullA net s = true ↔ Apart net s ∧ W net s = true := by
  unfold fullA
  rw [Bool.and_eq_true, List.all_eq_true, apart_iff hs]
  simp only [List.mem_range, Bool.not_eq_true', Bool.and_eq_false_imp]
  constructor
  · rintro ⟨a, b⟩
    refine ⟨a, (W_iff h hs).2 fun j hj => ?_⟩
    rw [seen_iff h s hj]
    cases hb : s.testBit j with
    | true => exact .inl rfl
    | false =>
      right
      refine Classical.byContradiction fun hc => ?_
      have := b j hj hb
      rw [(apart_iff (or_lt hs hj)).2 (a.add h hs hj fun i hi => not_true fun hx => hc ⟨i, in_lt hs hi, hi, hx⟩)] at this; cases this
  · rintro ⟨a, b⟩
    refine ⟨a, fun k hk hb => not_true fun hc => ?_⟩
    have hA := (apart_iff (or_lt hs hk)).1 hc
    rcases (seen_iff h s hk).1 ((W_iff h hs).1 b k hk) with x | ⟨i, hi, x, y⟩
    · rw [hb] at x; cases x
    · rw [hA k i ((or_testBit _ _ _).2 (.inr rfl)) ((or_testBit _ _ _).2 (.inl x))] at y; cases y
theorem fullA_least {net : List Int} (h : Ok net) {s : Nat} (hs : s < 2 ^ net.length) (hf : fullA net s = true) : least net s = true := by
  obtain ⟨a, b⟩ := (fullA_iff h hs).1 hf
  exact (least_needs h hs).2 ⟨b, a.needs h hs⟩

/-! ### Grown sets -/
def grownStep (net : List Int) (t k : Nat) : Nat := if (!t.testBit k && (nb net k &&& t) == 0) = true then t ||| 2 ^ k else t
def grown (net : List Int) (s : Nat) : Nat := fold net.length (grownStep net) s
theorem and_zero {a b : Nat} : (a &&& b) = 0 ↔ ∀ j, b.testBit j = true → a.testBit j = false := by
  rw [zero_iff]
  constructor
  · intro ha j hj
    have := ha j
    rw [Nat.testBit_and, hj, Bool.and_true] at this; exact this
  · intro ha j
    rw [Nat.testBit_and]
    cases hb : b.testBit j with
    | false => simp
    | true => rw [ha j hb]; rfl
theorem grown_is {net : List Int} (h : Ok net) {s : Nat} (hs : s < 2 ^ net.length) (ha : Apart net s) : grown net s < 2 ^ net.length ∧ fullA net (grown net s) = true ∧ ∀ j, s.testBit j = true → (grown net s).testBit j = true := by
  have key : ∀ m, m ≤ net.length → fold m (grownStep net) s < 2 ^ net.length ∧ Apart net (fold m (grownStep net) s) ∧ (∀ j, s.testBit j = true → (fold m (grownStep net) s).testBit j = true) ∧
      ∀ k, k < m → (fold m (grownStep net) s).testBit k = true ∨ ∃ i, (fold m (grownStep net) s).testBit i = true ∧ (nb net k).testBit i = true := by
    intro m
    induction m with
    | zero => intro _; exact ⟨hs, ha, fun j hj => hj, fun k hk => by omega⟩
    | succ m ih =>
      intro hm
      rw [fold_succ]
      obtain ⟨a1, a2, a3, a4⟩ := ih (by omega)
      generalize fold m (grownStep net) s = t at a1 a2 a3 a4 ⊢
      unfold grownStep
      cases hc : (!t.testBit m && (nb net m &&& t) == 0) with
      | true =>
        rw [Bool.and_eq_true, Bool.not_eq_true', beq_iff_eq, and_zero] at hc
        simp only [if_true]
        refine ⟨or_lt a1 (by omega), a2.add h a1 (by omega) hc.2, fun j hj => (or_testBit _ _ _).2 (.inl (a3 j hj)), fun k hk => ?_⟩
        by_cases hkm : k = m
        · exact .inl ((or_testBit _ _ _).2 (.inr hkm))
        · rcases a4 k (by omega) with x | ⟨i, x, y⟩
          · exact .inl ((or_testBit _ _ _).2 (.inl x))
          · exact .inr ⟨i, (or_testBit _ _ _).2 (.inl x), y⟩
      | false =>
        simp only [Bool.false_eq_true, if_false]
        refine ⟨a1, a2, a3, fun k hk => ?_⟩
        by_cases hkm : k = m
        · rw [hkm]
          cases hb : t.testBit m with
          | true => exact .inl rfl
          | false =>
            right
            rw [hb, Bool.not_false, Bool.true_and] at hc
            have hne : (nb net m &&& t) ≠ 0 := fun he => by rw [he] at hc; cases hc
            obtain ⟨i, hi⟩ := pos_iff.1 hne
            rw [Nat.testBit_and, Bool.and_eq_true] at hi
            exact ⟨i, hi.2, hi.1⟩
        · exact a4 k (by omega)
  obtain ⟨a1, a2, a3, a4⟩ := key net.length (Nat.le_refl _)
  refine ⟨a1, (fullA_iff h a1).2 ⟨a2, (W_iff h a1).2 fun j hj => (seen_iff h _ hj).2 ?_⟩, a3⟩
  rcases a4 j hj with x | ⟨i, x, y⟩
  · exact .inl x
  · exact .inr ⟨i, in_lt a1 x, x, y⟩
theorem grown_same {net : List Int} (h : Ok net) {s : Nat} (hs : s < 2 ^ net.length) (hf : fullA net s = true) : grown net s = s := by
  obtain ⟨_, hw⟩ := (fullA_iff h hs).1 hf
  have key : ∀ m, m ≤ net.length → fold m (grownStep net) s = s := by
    intro m
    induction m with
    | zero => intro _; rfl
    | succ m ih =>
      intro hm
      rw [fold_succ, ih (by omega)]
      unfold grownStep
      rw [if_neg]
      intro hc
      rw [Bool.and_eq_true, Bool.not_eq_true', beq_iff_eq, and_zero] at hc
      rcases (seen_iff h s (by omega)).1 ((W_iff h hs).1 hw m (by omega)) with x | ⟨i, hi, x, y⟩
      · rw [hc.1] at x; cases x
      · rw [hc.2 i x] at y; cases y
  exact key _ (Nat.le_refl _)
end Go.Proofs.Ytonbbeplmjidnaa
