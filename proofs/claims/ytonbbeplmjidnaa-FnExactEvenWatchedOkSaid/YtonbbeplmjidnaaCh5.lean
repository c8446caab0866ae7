/- The chain of numbers: plain facts. Conditions: those of each theorem. -/
import Derived.Test.YtonbbeplmjidnaaCh3
namespace Go.Proofs.Ytonbbeplmjidnaa
set_option linter.unusedVariables false
set_option linter.unusedSimpArgs false

/-- The least number of places of sets of a kind, and the greatest. -/
structure MinOf (net : List Int) (p : Nat → Bool) (m : Nat) : Prop where
  ex : ∃ s, s < 2 ^ net.length ∧ p s = true ∧ size s = m
  le : ∀ s, s < 2 ^ net.length → p s = true → m ≤ size s
structure MaxOf (net : List Int) (p : Nat → Bool) (m : Nat) : Prop where
  ex : ∃ s, s < 2 ^ net.length ∧ p s = true ∧ size s = m
  le : ∀ s, s < 2 ^ net.length → p s = true → size s ≤ m
theorem MinOf.uniq {net : List Int} {p : Nat → Bool} {a b : Nat} (ha : MinOf net p a) (hb : MinOf net p b) : a = b := by
  obtain ⟨s, h1, h2, h3⟩ := ha.ex
  obtain ⟨t, g1, g2, g3⟩ := hb.ex
  have := ha.le t g1 g2
  have := hb.le s h1 h2
  omega
theorem MaxOf.uniq {net : List Int} {p : Nat → Bool} {a b : Nat} (ha : MaxOf net p a) (hb : MaxOf net p b) : a = b := by
  obtain ⟨s, h1, h2, h3⟩ := ha.ex
  obtain ⟨t, g1, g2, g3⟩ := hb.ex
  have := ha.le t g1 g2
  have := hb.le s h1 h2
  omega
def minSize (net : List Int) (p : Nat → Bool) : Nat := fold (2 ^ net.length) (fun t s => if p s = true then (if size s < t then size s else t) else t) net.length
def maxSize (net : List Int) (p : Nat → Bool) : Nat := fold (2 ^ net.length) (fun t s => if p s = true then (if size s > t then size s else t) else t) 0
theorem minSize_is {net : List Int} (h : Ok net) {p : Nat → Bool} (hex : ∃ s, s < 2 ^ net.length ∧ p s = true) : MinOf net p (minSize net p) := by
  obtain ⟨h1, h2, h3⟩ := minFold (N := 2 ^ net.length) (p := p) (f := size) net.length
  refine ⟨?_, h1⟩
  rcases h3 with h3 | h3
  · obtain ⟨s, hs, hp⟩ := hex
    have := h1 s hs hp
    have := size_le_len h hs
    exact ⟨s, hs, hp, by unfold minSize; omega⟩
  · exact h3
theorem maxFoldP {N : Nat} {p : Nat → Bool} {f : Nat → Nat} :
    (∀ s, s < N → p s = true → f s ≤ fold N (fun t s => if p s = true then (if f s > t then f s else t) else t) 0) ∧
    (fold N (fun t s => if p s = true then (if f s > t then f s else t) else t) 0 = 0 ∨ ∃ s, s < N ∧ p s = true ∧ f s = fold N (fun t s => if p s = true then (if f s > t then f s else t) else t) 0) := by
  induction N with
  | zero => exact ⟨fun s hs => by omega, .inl rfl⟩
  | succ N ih =>
    rw [fold_succ]
    generalize fold N _ 0 = g at ih ⊢
    obtain ⟨h1, h3⟩ := ih
    cases hp : p N with
    | false =>
      simp only [Bool.false_eq_true, if_false]
      refine ⟨fun s hs hps => ?_, ?_⟩
      · by_cases he : s = N
        · subst he; rw [hp] at hps; cases hps
        · exact h1 s (by omega) hps
      · rcases h3 with h3 | ⟨s, a, b⟩
        · exact .inl h3
        · exact .inr ⟨s, by omega, b⟩
    | true =>
      simp only [if_true]
      refine ⟨fun s hs hps => ?_, ?_⟩
      · by_cases he : s = N
        · subst he; split <;> omega
        · have := h1 s (by omega) hps
          split <;> omega
      · split
        · exact .inr ⟨N, by omega, hp, rfl⟩
        · rcases h3 with h3 | ⟨s, a, b⟩
          · exact .inl h3
          · exact .inr ⟨s, by omega, b⟩
theorem maxSize_is {net : List Int} {p : Nat → Bool} (hex : ∃ s, s < 2 ^ net.length ∧ p s = true) : MaxOf net p (maxSize net p) := by
  obtain ⟨h1, h3⟩ := maxFoldP (N := 2 ^ net.length) (p := p) (f := size)
  refine ⟨?_, h1⟩
  rcases h3 with h3 | h3
  · obtain ⟨s, hs, hp⟩ := hex
    have := h1 s hs hp
    exact ⟨s, hs, hp, by unfold maxSize; omega⟩
  · exact h3
theorem few_min {net : List Int} {m : Nat} : Few net m ↔ MinOf net (W net) m := ⟨fun a => ⟨a.ex, a.le⟩, fun a => ⟨a.ex, a.le⟩⟩
theorem fewest_min (net : List Int) : fewest net = minSize net (W net) := rfl

/-! ### What there is of each kind -/
theorem ex_fullA {net : List Int} (h : Ok net) : ∃ s, s < 2 ^ net.length ∧ fullA net s = true := by
  obtain ⟨a, b, _⟩ := grown_is h (Nat.two_pow_pos _) (Apart.zero net)
  exact ⟨_, a, b⟩
theorem ex_apart (net : List Int) : ∃ s, s < 2 ^ net.length ∧ apart net s = true := ⟨0, Nat.two_pow_pos _, (apart_iff (Nat.two_pow_pos _)).2 (Apart.zero net)⟩
theorem ex_least {net : List Int} (h : Ok net) : ∃ s, s < 2 ^ net.length ∧ least net s = true := by
  obtain ⟨s, a, b⟩ := ex_fullA h
  exact ⟨s, a, fullA_least h a b⟩
theorem ex_fullN {net : List Int} (h : Ok net) : ∃ s, s < 2 ^ net.length ∧ fullN net s = true := by
  obtain ⟨s, a, b⟩ := ex_least h
  exact ⟨s, a, (fullN_iff h a).2 (least_full h a b)⟩
theorem ex_needs {net : List Int} (h : Ok net) : ∃ s, s < 2 ^ net.length ∧ needs net s = true := ⟨0, Nat.two_pow_pos _, (needs_iff h (Nat.two_pow_pos _)).2 (Needs.zero net)⟩
theorem size_add {s k : Nat} (hs : s < 64) (hk : k < 6) (hb : s.testBit k = false) : size (s ||| 2 ^ k) = size s + 1 := bits_or s hs k hk hb
/-- The largest apart sets are full. -/
theorem most_full {net : List Int} (h : Ok net) {m s : Nat} (hm : MaxOf net (apart net) m) (hs : s < 2 ^ net.length) (ha : apart net s = true) (hz : size s = m) : fullA net s = true := by
  unfold fullA
  rw [ha, Bool.true_and, List.all_eq_true]
  intro k hk
  rw [List.mem_range] at hk
  cases hb : s.testBit k with
  | true => rfl
  | false =>
    cases hc : apart net (s ||| 2 ^ k) with
    | false => rfl
    | true =>
      have h1 := hm.le _ (or_lt hs hk) hc
      rw [size_add (lt64 h hs) (by have := h.hi; omega) hb] at h1
      omega
theorem chain12 {net : List Int} (h : Ok net) {a b : Nat} (ha : MinOf net (fullN net) a) (hb : MinOf net (W net) b) : a ≤ b := by
  obtain ⟨s, h1, h2, h3⟩ := hb.ex
  have hl := few_least h (few_min.2 hb) h1 h2 h3
  have := ha.le s h1 ((fullN_iff h h1).2 (least_full h h1 hl))
  omega
theorem chain23 {net : List Int} (h : Ok net) {a b : Nat} (ha : MinOf net (W net) a) (hb : MinOf net (fullA net) b) : a ≤ b := by
  obtain ⟨s, h1, h2, h3⟩ := hb.ex
  have := ha.le s h1 ((fullA_iff h h1).1 h2).2
  omega
theorem chain34 {net : List Int} (h : Ok net) {a b : Nat} (ha : MinOf net (fullA net) a) (hb : MaxOf net (apart net) b) : a ≤ b := by
  obtain ⟨s, h1, h2, h3⟩ := ha.ex
  have := hb.le s h1 ((apart_iff h1).2 ((fullA_iff h h1).1 h2).1)
  omega
theorem chain45 {net : List Int} (h : Ok net) {a b : Nat} (ha : MaxOf net (apart net) a) (hb : MaxOf net (least net) b) : a ≤ b := by
  obtain ⟨s, h1, h2, h3⟩ := ha.ex
  have := hb.le s h1 (fullA_least h h1 (most_full h ha h1 h2 h3))
  omega
theorem chain56 {net : List Int} (h : Ok net) {a b : Nat} (ha : MaxOf net (least net) a) (hb : MaxOf net (needs net) b) : a ≤ b := by
  obtain ⟨s, h1, h2, h3⟩ := ha.ex
  have := hb.le s h1 ((needs_iff h h1).2 ((least_needs h h1).1 h2).2)
  omega
/-- A set that needs all guards is within a full one. -/
theorem needs_in_full {net : List Int} (h : Ok net) : ∀ (m s : Nat), net.length - size s ≤ m → s < 2 ^ net.length → Needs net s → ∃ t, t < 2 ^ net.length ∧ FullN net t ∧ ∀ j, s.testBit j = true → t.testBit j = true := by
  intro m
  induction m with
  | zero =>
    intro s hm hs hn
    refine ⟨s, hs, ⟨hn, fun k hk hb _ => ?_⟩, fun j hj => hj⟩
    have := size_le_len h (or_lt hs hk)
    rw [size_add (lt64 h hs) (by have := h.hi; omega) hb] at this
    omega
  | succ m ih =>
    intro s hm hs hn
    by_cases hex : ∃ k, k < net.length ∧ s.testBit k = false ∧ Needs net (s ||| 2 ^ k)
    · obtain ⟨k, hk, hb, hn2⟩ := hex
      have hz := size_add (lt64 h hs) (by have := h.hi; omega) hb
      obtain ⟨t, a, b, c⟩ := ih (s ||| 2 ^ k) (by omega) (or_lt hs hk) hn2
      exact ⟨t, a, b, fun j hj => c j ((or_testBit _ _ _).2 (.inl hj))⟩
    · exact ⟨s, hs, ⟨hn, fun k hk hb hc => hex ⟨k, hk, hb, hc⟩⟩, fun j hj => hj⟩
theorem size_pos {s : Nat} (hs : s < 64) {k : Nat} (hk : k < 6) (hb : s.testBit k = true) : 1 ≤ size s := by
  have := (bits_sub s hs k hk hb).2.2.1
  omega
theorem fullN_pos {net : List Int} (h : Ok net) {s : Nat} (hs : s < 2 ^ net.length) (hf : FullN net s) : 1 ≤ size s := by
  have h6 := h.hi
  by_cases h0 : s = 0
  · subst h0
    refine absurd (Needs.one net 0) ?_
    have := hf.2 0 h.lo (Nat.zero_testBit 0)
    rw [Nat.zero_or] at this
    exact this
  · obtain ⟨j, hj⟩ := pos_iff.1 h0
    have := in_lt hs hj
    exact size_pos (lt64 h hs) (by omega) hj

/-! ### A full set and its private places watch -/
theorem size_union {net : List Int} (h : Ok net) {s t : Nat} (hs : s < 2 ^ net.length) (ht : t < 2 ^ net.length) : size (s ||| t) ≤ size s + size t := by
  rw [size_cnt h hs, size_cnt h ht, size_cnt h (Nat.or_lt_two_pow hs ht)]
  unfold cnt
  rw [← sumN_add]
  refine sumN_le fun k _ => ?_
  show ((s ||| t).testBit k).toNat ≤ (s.testBit k).toNat + (t.testBit k).toNat
  rw [Nat.testBit_or]
  cases s.testBit k <;> cases t.testBit k <;> decide
/-- The fewest watch is less than twice as many. -/
theorem watch_twice {net : List Int} (h : Ok net) {s m : Nat} (hs : s < 2 ^ net.length) (hf : FullN net s) (hm : MinOf net (W net) m) : m < 2 * size s := by
  have h6 := h.hi
  -- a private place for each guard
  have hpv : ∀ g, ∃ j, s.testBit g = true → (ball net g).testBit j = true ∧ ∀ i, s.testBit i = true → (ball net i).testBit j = true → i = g := fun g => by
    by_cases hg : s.testBit g = true
    · obtain ⟨j, hj⟩ := hf.1 g hg; exact ⟨j, fun _ => hj⟩
    · exact ⟨0, fun hh => absurd hh hg⟩
  have hp : ∀ g, s.testBit g = true → (ball net g).testBit (Classical.choose (hpv g)) = true ∧ ∀ i, s.testBit i = true → (ball net i).testBit (Classical.choose (hpv g)) = true → i = g := fun g => Classical.choose_spec (hpv g)
  generalize hP : (fun g => Classical.choose (hpv g)) = P at hp
  have hp' : ∀ g, s.testBit g = true → (ball net g).testBit (P g) = true ∧ ∀ i, s.testBit i = true → (ball net i).testBit (P g) = true → i = g := fun g hg => by rw [← hP]; exact Classical.choose_spec (hpv g) hg
  -- those places together
  let q := orN net.length (fun g => s.testBit g) (fun g => 2 ^ P g)
  have hq : ∀ j, q.testBit j = true ↔ ∃ g, g < net.length ∧ s.testBit g = true ∧ P g = j := fun j => by
    show (orN _ _ _).testBit j = true ↔ _
    rw [orN_testBit]
    simp only [testBit_pow, decide_eq_true_eq]
  have hql : q < 2 ^ net.length := orN_lt fun g hg hb => Nat.pow_lt_pow_right (by omega) (sees_lt h hg (hp' g hb).1)
  have hqs : size q ≤ size s := by
    rw [size_cnt h hql, size_cnt h hs]
    -- each place of q goes to its guard
    have hback : ∀ j, ∃ g, q.testBit j = true → g < net.length ∧ s.testBit g = true ∧ P g = j := fun j => by
      by_cases hj : q.testBit j = true
      · obtain ⟨g, hg⟩ := (hq j).1 hj; exact ⟨g, fun _ => hg⟩
      · exact ⟨0, fun hh => absurd hh hj⟩
    refine cnt_inj (fun j => Classical.choose (hback j)) (fun j _ hj => ?_) (fun i j _ _ hi hj he => ?_)
    · have := Classical.choose_spec (hback j) hj
      exact ⟨this.1, this.2.1⟩
    · have h1 := (Classical.choose_spec (hback i) hi).2.2
      have h2 := (Classical.choose_spec (hback j) hj).2.2
      rw [he] at h1
      exact h1.symm.trans h2
  have hul : s ||| q < 2 ^ net.length := Nat.or_lt_two_pow hs hql
  have hub : ∀ j, (s ||| q).testBit j = true ↔ s.testBit j = true ∨ q.testBit j = true := fun j => by rw [Nat.testBit_or, Bool.or_eq_true]
  have hW : W net (s ||| q) = true := by
    refine (W_iff h hul).2 fun w hw => Classical.byContradiction fun hc => ?_
    have hno : ∀ i, i < net.length → (s ||| q).testBit i = true → (ball net i).testBit w = false := fun i hi hb => not_true fun hx => hc ((seen_balls h hul).2 ⟨i, hi, hb, hx⟩)
    have hws : s.testBit w = false := not_true fun hx => by
      have := hno w hw ((hub w).2 (.inl hx))
      rw [sees_self] at this; cases this
    refine hf.2 w hw hws fun g hg => ?_
    rcases (or_testBit _ _ _).1 hg with hgs | rfl
    · have hgl := in_lt hs hgs
      obtain ⟨a, b⟩ := hp' g hgs
      refine ⟨P g, a, fun i hi hib => ?_⟩
      rcases (or_testBit _ _ _).1 hi with hi | rfl
      · exact b i hi hib
      · have hPl := sees_lt h hgl a
        have h1 := hno (P g) hPl ((hub _).2 (.inr ((hq _).2 ⟨g, hgl, hgs, rfl⟩)))
        rw [sees_symm h hw hPl, hib] at h1; cases h1
    · refine ⟨g, sees_self net g, fun i hi hib => ?_⟩
      rcases (or_testBit _ _ _).1 hi with hi | rfl
      · rw [hno i (in_lt hs hi) ((hub i).2 (.inl hi))] at hib; cases hib
      · rfl
  have hsz := size_union h hs hql
  have hle := hm.le _ hul hW
  refine Classical.byContradiction fun hge => ?_
  -- then the union is a smallest watch, and s is not full
  have hz : size (s ||| q) = m := by omega
  have hl := few_least h (few_min.2 hm) hul hW hz
  have hN := ((least_needs h hul).1 hl).2
  have hpos := fullN_pos h hs hf
  have : ∃ w, w < net.length ∧ (s ||| q).testBit w = true ∧ s.testBit w = false := by
    refine Classical.byContradiction fun hc => ?_
    have : s ||| q = s := eq_of_bits hul hs fun j hj => by
      rw [Bool.eq_iff_iff]
      refine ⟨fun hx => Classical.byContradiction fun hy => hc ⟨j, hj, hx, not_true hy⟩, fun hx => (hub j).2 (.inl hx)⟩
    rw [this] at hz
    omega
  obtain ⟨w, hw, h1, h2⟩ := this
  refine hf.2 w hw h2 (hN.mono fun j hj => ?_)
  rcases (or_testBit _ _ _).1 hj with hj | rfl
  · exact (hub j).2 (.inl hj)
  · exact h1

/-! ### Bounds by balls, and nets without wires -/
/-- With the least ball, at most one more than the places need all. -/
theorem needs_ball {net : List Int} (h : Ok net) {s d : Nat} (hs : s < 2 ^ net.length) (hn : Needs net s) (hd : ∀ k, k < net.length → d ≤ size (ball net k)) (hd1 : d ≤ net.length + 1) : size s + d ≤ net.length + 1 := by
  have h6 := h.hi
  by_cases h0 : s = 0
  · subst h0
    have : size 0 = 0 := by decide
    omega
  obtain ⟨v, hv⟩ := pos_iff.1 h0
  have hvl := in_lt hs hv
  obtain ⟨w, hw, honly⟩ := hn v hv
  have hwl := sees_lt h hvl hw
  -- the ball of w has v alone of s
  have hb := hd w hwl
  rw [size_cnt h (h.ball_lt hwl)] at hb
  rw [size_cnt h hs]
  have : cnt net.length (fun k => s.testBit k) + cnt net.length (fun k => (ball net w).testBit k) ≤ net.length + 1 := by
    have h1 : cnt net.length (fun k => s.testBit k) + cnt net.length (fun k => (ball net w).testBit k) ≤ sumN net.length (fun k => 1 + (if k = v then 1 else 0)) := by
      unfold cnt
      rw [← sumN_add]
      refine sumN_le fun k hk => ?_
      show (s.testBit k).toNat + ((ball net w).testBit k).toNat ≤ _
      by_cases hkv : k = v
      · rw [if_pos hkv]
        cases s.testBit k <;> cases (ball net w).testBit k <;> decide
      · rw [if_neg hkv]
        cases hsk : s.testBit k with
        | false => cases (ball net w).testBit k <;> decide
        | true =>
          cases hbk : (ball net w).testBit k with
          | false => decide
          | true =>
            rw [sees_symm h hk hwl] at hbk
            exact absurd (honly k hsk hbk) hkv
    rw [sumN_add, sumN_const, sumN_one (k := v) hvl (fun j _ hj => by rw [if_neg hj]), if_pos rfl] at h1
    omega
  omega
theorem ends_zero {net : List Int} (h : Ok net) : wires net = 0 ↔ ∀ k, k < net.length → nb net k = 0 := by
  have he := ends_wires h
  constructor
  · intro hw k hk
    have h1 : size (nb net k) ≤ ends net := sumN_pos (f := fun k => size (nb net k)) hk
    have h2 : size (nb net k) = 0 := by omega
    refine zero_iff.2 fun j => not_true fun hj => ?_
    have := size_pos (h.lt64 hk) (by have := h.hi; have := h.nb_lt hk hj; omega) hj
    omega
  · intro ha
    have : ends net = 0 := by
      unfold ends
      rw [sumN_congr (g := fun _ => 0) (fun k hk => by rw [ha k hk]; rfl), sumN_zero]
    omega
theorem apart_none {net : List Int} (ha : ∀ k, k < net.length → nb net k = 0) {s : Nat} (hs : s < 2 ^ net.length) : Apart net s := fun j k hj hk => by
  rw [ha j (in_lt hs hj), Nat.zero_testBit]
/-- All places are apart just if there are no wires. -/
theorem apart_all {net : List Int} (h : Ok net) (ha : Apart net (allOf net)) : ∀ k, k < net.length → nb net k = 0 := fun k hk => zero_iff.2 fun j => not_true fun hj => by
  rw [ha k j (by rw [allOf_testBit]; simpa using hk) (by rw [allOf_testBit]; simpa using h.nb_lt hk hj)] at hj; cases hj
theorem needs_all {net : List Int} (h : Ok net) (hn : Needs net (allOf net)) : ∀ k, k < net.length → nb net k = 0 := fun k hk => by
  obtain ⟨j, hj, honly⟩ := hn k (by rw [allOf_testBit]; simpa using hk)
  have hjl := sees_lt h hk hj
  have hjk := honly j (by rw [allOf_testBit]; simpa using hjl) (sees_self net j)
  subst hjk
  refine zero_iff.2 fun i => not_true fun hi => ?_
  have hil := h.nb_lt hk hi
  have := honly i (by rw [allOf_testBit]; simpa using hil) (by rw [sees_symm h hk hil]; exact (ball_testBit _ _ _).2 (.inl hi))
  rw [this, h.irr j hk] at hi; cases hi
theorem full_size {net : List Int} (h : Ok net) {s : Nat} (hs : s < 2 ^ net.length) (hz : size s = net.length) : s = allOf net := by
  have := allOf_succ net
  refine Classical.byContradiction fun hne => ?_
  have := size_lt_len h (s := s) (by omega)
  omega
theorem most_wires {net : List Int} (h : Ok net) {m : Nat} (hm : MaxOf net (apart net) m) : wires net = 0 ↔ m = net.length := by
  rw [ends_zero h]
  constructor
  · intro ha
    have h1 := hm.le _ (allOf_lt net) ((apart_iff (allOf_lt net)).2 (apart_none ha (allOf_lt net)))
    rw [size_all h] at h1
    obtain ⟨s, a, _, c⟩ := hm.ex
    have := size_le_len h a
    omega
  · intro he
    obtain ⟨s, a, b, c⟩ := hm.ex
    have := full_size h a (by omega)
    subst this
    exact apart_all h ((apart_iff (allOf_lt net)).1 b)
theorem needs_wires {net : List Int} (h : Ok net) {m : Nat} (hm : MaxOf net (needs net) m) : wires net = 0 ↔ m = net.length := by
  rw [ends_zero h]
  constructor
  · intro ha
    have hA := apart_none ha (allOf_lt net)
    have h1 := hm.le _ (allOf_lt net) ((needs_iff h (allOf_lt net)).2 (hA.needs h (allOf_lt net)))
    rw [size_all h] at h1
    obtain ⟨s, a, _, c⟩ := hm.ex
    have := size_le_len h a
    omega
  · intro he
    obtain ⟨s, a, b, c⟩ := hm.ex
    have := full_size h a (by omega)
    subst this
    exact needs_all h ((needs_iff h (allOf_lt net)).1 b)
/-- Without wires all places are the only full set. -/
theorem none_full {net : List Int} (h : Ok net) (ha : ∀ k, k < net.length → nb net k = 0) {m : Nat} (hm : MinOf net (fullN net) m) : m = net.length := by
  obtain ⟨s, a, b, c⟩ := hm.ex
  have hf := (fullN_iff h a).1 b
  refine Classical.byContradiction fun hne => ?_
  have hlt : s ≠ allOf net := fun he => by rw [he, size_all h] at c; omega
  have : ∃ k, k < net.length ∧ s.testBit k = false := by
    refine Classical.byContradiction fun hc => hlt (eq_of_bits a (allOf_lt net) fun j hj => ?_)
    rw [allOf_testBit]
    cases hb : s.testBit j with
    | true => simpa using hj
    | false => exact absurd ⟨j, hj, hb⟩ hc
  obtain ⟨k, hk, hb⟩ := this
  exact hf.2 k hk hb ((apart_none ha (or_lt a hk)).needs h (or_lt a hk))
/-- There are at least as many places apart as parts. -/
theorem most_parts {net : List Int} (h : Ok net) {m : Nat} (hm : MaxOf net (apart net) m) : parts net ≤ m := by
  let s := orN net.length (root net) (fun k => 2 ^ k)
  have hb : ∀ j, s.testBit j = true ↔ j < net.length ∧ root net j = true := fun j => by
    show (orN _ _ _).testBit j = true ↔ _
    rw [orN_testBit]
    constructor
    · rintro ⟨k, hk, a, b⟩
      rw [testBit_pow, decide_eq_true_eq] at b
      subst b
      exact ⟨hk, a⟩
    · rintro ⟨a, b⟩
      exact ⟨j, a, b, by rw [testBit_pow]; simp⟩
  have hs : s < 2 ^ net.length := orN_lt fun k hk _ => Nat.pow_lt_pow_right (by omega) hk
  have hA : Apart net s := fun j k hj hk => not_true fun hx => by
    obtain ⟨a, b⟩ := (hb j).1 hj
    obtain ⟨c, d⟩ := (hb k).1 hk
    have := root_same h a c b d (h.comp_same a c (comp_nb h a hx))
    rw [this, h.irr k c] at hx; cases hx
  have := hm.le s hs ((apart_iff hs).2 hA)
  rw [size_cnt h hs] at this
  rw [parts_cnt]
  refine Nat.le_trans (cnt_mono fun k hk hr => (hb k).2 ⟨hk, hr⟩) this

/-! ### How many sets are apart -/
def apartCount (net : List Int) : Nat := cnt (2 ^ net.length) (apart net)
theorem apartCount_le (net : List Int) : apartCount net ≤ 2 ^ net.length := cnt_le _ _
theorem pow_inj_pos {j k : Nat} (h : 2 ^ j = 2 ^ k) : j = k := by
  have : (2 ^ j).testBit k = true := by rw [h, testBit_pow]; simp
  rw [testBit_pow, decide_eq_true_eq] at this
  exact this
theorem apartCount_ge {net : List Int} (h : Ok net) : net.length + 1 ≤ apartCount net := by
  unfold apartCount
  have := cnt_inj (n := net.length + 1) (m := 2 ^ net.length) (p := fun _ => true) (q := apart net) (fun k => if k = 0 then 0 else 2 ^ (k - 1)) (fun k hk _ => ?_) (fun j k hj hk _ _ he => ?_)
  · rw [cnt_true] at this; exact this
  · by_cases h0 : k = 0
    · simp only [h0, if_true]
      exact ⟨Nat.two_pow_pos _, (apart_iff (Nat.two_pow_pos _)).2 (Apart.zero net)⟩
    · simp only [h0, if_false]
      have hlt : 2 ^ (k - 1) < 2 ^ net.length := Nat.pow_lt_pow_right (by omega) (by omega)
      exact ⟨hlt, (apart_iff hlt).2 (Apart.one h (by omega))⟩
  · have hp1 := Nat.two_pow_pos (j - 1)
    have hp2 := Nat.two_pow_pos (k - 1)
    by_cases h0 : j = 0 <;> by_cases h1 : k = 0
    · omega
    · rw [if_pos h0, if_neg h1] at he; omega
    · rw [if_neg h0, if_pos h1] at he; omega
    · rw [if_neg h0, if_neg h1] at he
      have := pow_inj_pos he
      omega
theorem apartCount_wires {net : List Int} (h : Ok net) : apartCount net = 2 ^ net.length ↔ wires net = 0 := by
  rw [ends_zero h]
  unfold apartCount
  constructor
  · intro he
    exact apart_all h ((apart_iff (allOf_lt net)).1 (cnt_all he (allOf_lt net)))
  · intro ha
    rw [cnt_congr (q := fun _ => true) (fun s hs => (apart_iff hs).2 (apart_none ha hs)), cnt_true]
end Go.Proofs.Ytonbbeplmjidnaa
