/- The fewest guards of watches, and how many watches there are. Conditions: those of each theorem. -/
import Derived.Test.YtonbbeplmjidnaaWatch
namespace Go.Proofs.Ytonbbeplmjidnaa
set_option linter.unusedVariables false
set_option linter.unusedSimpArgs false

theorem size_cnt {net : List Int} (h : Ok net) {s : Nat} (hs : s < 2 ^ net.length) : size s = cnt net.length (fun k => s.testBit k) := by
  rw [h.size_eq hs, card_sum]
theorem size_compl {net : List Int} (h : Ok net) {s : Nat} (hs : s < 2 ^ net.length) : size s + size (allOf net - s) = net.length := by
  rw [size_cnt h hs, size_cnt h (compl_lt net s)]
  rw [cnt_congr (p := fun k => (allOf net - s).testBit k) (q := fun k => !s.testBit k) (fun k hk => by rw [compl_testBit hs]; simp [hk])]
  exact cnt_not _ _
/-- So many places has the smallest watch. -/
structure Few (net : List Int) (m : Nat) : Prop where
  ex : ∃ s, s < 2 ^ net.length ∧ W net s = true ∧ size s = m
  le : ∀ s, s < 2 ^ net.length → W net s = true → m ≤ size s
theorem Few.uniq {net : List Int} {a b : Nat} (ha : Few net a) (hb : Few net b) : a = b := by
  obtain ⟨s, h1, h2, h3⟩ := ha.ex
  obtain ⟨t, g1, g2, g3⟩ := hb.ex
  have := ha.le t g1 g2
  have := hb.le s h1 h2
  omega
/-- A smallest watch is a least one. -/
theorem few_least {net : List Int} (h : Ok net) {s m : Nat} (hf : Few net m) (hs : s < 2 ^ net.length) (hw : W net s = true) (hz : size s = m) : least net s = true := by
  refine least_iff.2 ⟨hw, fun k hk hb => ?_⟩
  cases hw2 : W net (s - 2 ^ k) with
  | false => rfl
  | true =>
    have h1 := hf.le _ (sub_lt hs) hw2
    have h2 := (bits_sub s (lt64 h hs) k (by have := h.hi; omega) hb).2.2.1
    omega
/-- Half of the places suffice. -/
theorem few_half {net : List Int} (h : Ok net) (hlone : ∀ k, k < net.length → nb net k ≠ 0) {m : Nat} (hf : Few net m) : 2 * m ≤ net.length := by
  obtain ⟨s, h1, h2, h3⟩ := hf.ex
  have hl := few_least h hf h1 h2 h3
  have h4 := hf.le _ (compl_lt net s) (free_watch h hlone h1 hl)
  have h5 := size_compl h h1
  omega
/-- The least place of a part. -/
def root (net : List Int) (k : Nat) : Bool := (comp net k &&& (2 ^ k - 1)) == 0
theorem parts_cnt (net : List Int) : parts net = cnt net.length (root net) := by
  unfold parts cnt root
  rw [← fold_sum]
  congr 1
  funext a k
  cases hk : (comp net k &&& (2 ^ k - 1)) == 0 with
  | true => rw [if_pos (by simpa using hk)]; rfl
  | false => rw [if_neg (fun he => by rw [he] at hk; cases hk)]; rfl
theorem root_iff {net : List Int} {k : Nat} : root net k = true ↔ ∀ j, j < k → (comp net k).testBit j = false := by
  unfold root
  rw [beq_iff_eq]
  constructor
  · intro he j hj
    have : (comp net k &&& (2 ^ k - 1)).testBit j = false := by rw [he, Nat.zero_testBit]
    rw [Nat.testBit_and, Nat.testBit_two_pow_sub_one] at this
    simpa [hj] using this
  · intro ha
    apply Nat.eq_of_testBit_eq
    intro j
    rw [Nat.zero_testBit, Nat.testBit_and, Nat.testBit_two_pow_sub_one]
    by_cases hj : j < k
    · rw [ha j hj]; rfl
    · simp [hj]
theorem root_same {net : List Int} (h : Ok net) {j k : Nat} (hj : j < net.length) (hk : k < net.length) (hrj : root net j = true) (hrk : root net k = true) (he : comp net j = comp net k) : j = k := by
  have h1 := h.comp_self hj
  have h2 := h.comp_self hk
  rcases Nat.lt_trichotomy j k with hl | hl | hl
  · have := root_iff.1 hrk j hl; rw [← he, h1] at this; cases this
  · exact hl
  · have := root_iff.1 hrj k hl; rw [he, h2] at this; cases this
theorem comp_nb {net : List Int} (h : Ok net) {j k : Nat} (hj : j < net.length) (hn : (nb net j).testBit k = true) : (comp net j).testBit k = true :=
  (h.comp_testBit hj k).2 (.step (.here (by rw [allOf_testBit]; simpa using hj)) hj hn (by rw [allOf_testBit]; simpa using h.nb_lt hj hn))
/-- There are at least as many guards as parts. -/
theorem few_parts {net : List Int} (h : Ok net) {s : Nat} (hs : s < 2 ^ net.length) (hw : W net s = true) : parts net ≤ size s := by
  rw [parts_cnt, size_cnt h hs]
  have hex : ∀ k, k < net.length → ∃ i, i < net.length ∧ s.testBit i = true ∧ (comp net k).testBit i = true := by
    intro k hk
    rcases (seen_iff h s hk).1 ((W_iff h hs).1 hw k hk) with a | ⟨i, hi, a, b⟩
    · exact ⟨k, hk, a, h.comp_self hk⟩
    · exact ⟨i, hi, a, comp_nb h hk b⟩
  have hex2 : ∀ k, ∃ i, k < net.length → i < net.length ∧ s.testBit i = true ∧ (comp net k).testBit i = true := by
    intro k
    by_cases hk : k < net.length
    · obtain ⟨i, hi⟩ := hex k hk; exact ⟨i, fun _ => hi⟩
    · exact ⟨0, fun hk2 => absurd hk2 hk⟩
  refine cnt_inj (fun k => Classical.choose (hex2 k)) (fun k hk _ => ?_) (fun j k hj hk hrj hrk he => ?_)
  · have := Classical.choose_spec (hex2 k) hk
    exact ⟨this.1, this.2.1⟩
  · have h1 := Classical.choose_spec (hex2 j) hj
    have h2 := Classical.choose_spec (hex2 k) hk
    rw [he] at h1
    exact root_same h hj hk hrj hrk ((h.comp_same hj h2.1 h1.2.2).trans (h.comp_same hk h2.1 h2.2.2).symm)
/-- The balls of the guards have all places. -/
theorem few_ball {net : List Int} (h : Ok net) {s most : Nat} (hs : s < 2 ^ net.length) (hw : W net s = true) (hm : ∀ k, k < net.length → size (ball net k) ≤ most) : net.length ≤ size s * most := by
  have h1 : sumN net.length (fun v => sumN net.length (fun k => (s.testBit k && (ball net k).testBit v).toNat)) ≤ size s * most := by
    rw [sumN_swap, size_cnt h hs]
    unfold cnt
    rw [← sumN_mul]
    refine sumN_le fun k hk => ?_
    cases hb : s.testBit k with
    | false => rw [sumN_congr (g := fun _ => 0) (fun v _ => by simp), sumN_zero]; exact Nat.zero_le _
    | true =>
      have := hm k hk
      rw [size_cnt h (h.ball_lt hk)] at this
      show _ ≤ (s.testBit k).toNat * most
      rw [hb, Bool.toNat_true, Nat.one_mul]
      exact this
  refine Nat.le_trans ?_ h1
  have : sumN net.length (fun _ => 1) ≤ sumN net.length (fun v => sumN net.length (fun k => (s.testBit k && (ball net k).testBit v).toNat)) := by
    refine sumN_le fun v hv => ?_
    have hx : ∃ k, k < net.length ∧ s.testBit k = true ∧ (ball net k).testBit v = true := by
      rcases (seen_iff h s hv).1 ((W_iff h hs).1 hw v hv) with a | ⟨i, hi, a, b⟩
      · exact ⟨v, hv, a, (ball_testBit _ _ _).2 (.inr rfl)⟩
      · exact ⟨i, hi, a, (ball_testBit _ _ _).2 (.inl (by rw [h.sym _ _ hv hi]; exact b))⟩
    obtain ⟨k, hk, a, b⟩ := hx
    have := sumN_pos (f := fun k => (s.testBit k && (ball net k).testBit v).toNat) hk
    simp only [a, b] at this
    exact this
  rw [sumN_const] at this; omega

/-! ### How many watches there are -/
theorem sumN_mod {n : Nat} {f g : Nat → Nat} (h : ∀ k, k < n → f k % 2 = g k % 2) : sumN n f % 2 = sumN n g % 2 := by
  induction n with
  | zero => rfl
  | succ n ih =>
    have h1 := ih (fun k hk => h k (by omega))
    have h2 := h n (by omega)
    simp only [sumN]; omega
theorem free_cnt : ∀ n, n < 7 → ∀ m, m < 2 ^ n → cnt (2 ^ n) (fun b => (m &&& b) == 0) % 2 = if m = 2 ^ n - 1 then 1 else 0 := by decide +kernel
theorem seen_and_symm {net : List Int} (h : Ok net) {a b : Nat} (ha : a < 2 ^ net.length) (hb : b < 2 ^ net.length) : ((seen net a &&& b) == 0) = ((seen net b &&& a) == 0) := by
  have key : ∀ {a b : Nat}, a < 2 ^ net.length → b < 2 ^ net.length → (seen net a &&& b) = 0 → (seen net b &&& a) = 0 := by
    intro a b ha hb he
    have hz : ∀ j, ¬ ((seen net a).testBit j = true ∧ b.testBit j = true) := fun j hj => by
      have : (seen net a &&& b).testBit j = false := by rw [he, Nat.zero_testBit]
      rw [Nat.testBit_and, hj.1, hj.2] at this; cases this
    apply Nat.eq_of_testBit_eq
    intro j
    rw [Nat.zero_testBit]
    cases hc : (seen net b &&& a).testBit j with
    | false => rfl
    | true =>
      rw [Nat.testBit_and, Bool.and_eq_true] at hc
      have hj := testBit_lt ha hc.2
      rcases (seen_iff h b hj).1 hc.1 with x | ⟨k, hk, x, y⟩
      · exact absurd ⟨(seen_testBit net a j).2 (.inl hc.2), x⟩ (hz j)
      · exact absurd ⟨(seen_testBit net a k).2 (.inr ⟨j, hj, hc.2, y⟩), x⟩ (hz k)
  rw [Bool.eq_iff_iff, beq_iff_eq, beq_iff_eq]
  exact ⟨key ha hb, key hb ha⟩
/-- There is an odd number of watches. -/
theorem watch_odd {net : List Int} (h : Ok net) : cnt (2 ^ net.length) (W net) % 2 = 1 := by
  have h1 : sumN (2 ^ net.length) (fun a => sumN (2 ^ net.length) (fun b => ((seen net a &&& b) == 0).toNat)) % 2 = cnt (2 ^ net.length) (W net) % 2 := by
    refine sumN_mod fun a ha => ?_
    have := free_cnt net.length (by have := h.hi; omega) (seen net a) (h.seen_lt ha)
    unfold cnt at this
    rw [this]
    unfold W allOf
    by_cases he : seen net a = 2 ^ net.length - 1
    · simp [he]
    · rw [if_neg he, show (seen net a == 2 ^ net.length - 1) = false by simpa using he]; rfl
  rw [← h1, sumN_sym (a := fun a b => ((seen net a &&& b) == 0).toNat) (fun a b ha hb => by rw [seen_and_symm h ha hb])]
  rw [sumN_one (k := 0) (Nat.two_pow_pos _) (fun a ha hne => ?_)]
  · simp
  · have : (seen net a &&& a) ≠ 0 := fun he => hne (Nat.eq_of_testBit_eq fun j => by
      rw [Nat.zero_testBit]
      cases hb : a.testBit j with
      | false => rfl
      | true =>
        have : (seen net a &&& a).testBit j = false := by rw [he, Nat.zero_testBit]
        rw [Nat.testBit_and, hb, (seen_testBit net a j).2 (.inl hb)] at this; cases this)
    simp [this]
end Go.Proofs.Ytonbbeplmjidnaa
