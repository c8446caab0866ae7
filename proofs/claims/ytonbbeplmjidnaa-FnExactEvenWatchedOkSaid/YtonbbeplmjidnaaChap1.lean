/- Wires and parts: plain facts. Conditions: those of each theorem. -/
import Derived.Test.YtonbbeplmjidnaaN4
namespace Go.Proofs.Ytonbbeplmjidnaa
set_option linter.unusedVariables false
set_option linter.unusedSimpArgs false

theorem nb_size {net : List Int} (h : Ok net) {k : Nat} (hk : k < net.length) : size (nb net k) = sumN net.length (fun j => ((nb net k).testBit j).toNat) := size_cnt h (h.lt k hk)
theorem ends_is {net : List Int} (h : Ok net) : ends net = sumN net.length (fun k => sumN net.length (fun j => ((nb net k).testBit j).toNat)) := sumN_congr fun k hk => nb_size h hk
/-- Each wire has two ends. -/
theorem ends_wires {net : List Int} (h : Ok net) : ends net = 2 * wires net := by
  unfold wires
  have := sumN_sym (n := net.length) (a := fun k j => ((nb net k).testBit j).toNat) (fun k j hk hj => by rw [h.sym j k hj hk])
  rw [ends_is h, this, sumN_congr (f := fun k => ((nb net k).testBit k).toNat) (g := fun _ => 0) (fun k hk => by rw [h.irr k hk]; rfl), sumN_zero]
  omega
theorem ball_size {net : List Int} (h : Ok net) {k : Nat} (hk : k < net.length) : size (ball net k) = size (nb net k) + 1 := bits_or _ (h.lt64 hk) k (by have := h.hi; omega) (h.irr k hk)
theorem balls_sum {net : List Int} (h : Ok net) : sumN net.length (fun k => size (ball net k)) = 2 * wires net + net.length := by
  rw [sumN_congr (g := fun k => size (nb net k) + 1) (fun k hk => ball_size h hk), sumN_add, sumN_const, ← ends_wires h]
  unfold ends; omega
theorem cnt_below (N m : Nat) (hm : m ≤ N) : cnt N (fun i => decide (i < m)) = m := by
  induction N with
  | zero => obtain rfl : m = 0 := by omega
            rfl
  | succ N ih =>
    show cnt N (fun i => decide (i < m)) + (decide (N < m)).toNat = m
    by_cases hmN : m ≤ N
    · rw [ih hmN]; simp; omega
    · obtain rfl : m = N + 1 := by omega
      rw [cnt_congr (q := fun _ => true) (fun k hk => by simp; omega), cnt_true]; simp
/-- After m steps from the least places of the parts. -/
def lvl (net : List Int) (m k : Nat) : Bool := (List.range net.length).any fun r => root net r && (steps net (allOf net) m (2 ^ r)).testBit k
theorem lvl_iff {net : List Int} {m k : Nat} : lvl net m k = true ↔ ∃ r, r < net.length ∧ root net r = true ∧ (steps net (allOf net) m (2 ^ r)).testBit k = true := by
  unfold lvl
  simp only [List.any_eq_true, List.mem_range, Bool.and_eq_true]
theorem lvl_succ {net : List Int} {m k : Nat} (h : lvl net m k = true) : lvl net (m + 1) k = true := by
  obtain ⟨r, a, b, c⟩ := lvl_iff.1 h
  exact lvl_iff.2 ⟨r, a, b, (grow_testBit _ _ _ _).2 (.inl c)⟩
theorem lvl_mono {net : List Int} {m m' k : Nat} (hm : m ≤ m') (h : lvl net m k = true) : lvl net m' k = true := by
  induction m' with
  | zero => obtain rfl : m = 0 := by omega
            exact h
  | succ m' ih =>
    by_cases he : m = m' + 1
    · rw [← he]; exact h
    · exact lvl_succ (ih (by omega))
def lev (net : List Int) (k : Nat) : Nat := cnt 6 (fun m => !lvl net m k)
theorem root_of {net : List Int} (h : Ok net) {k : Nat} (hk : k < net.length) : ∃ r, r ≤ k ∧ root net r = true ∧ comp net r = comp net k := by
  have key : ∀ m, m ≤ k → (∃ r, r ≤ k ∧ root net r = true ∧ comp net r = comp net k) ∨ ∀ j, j < m → (comp net k).testBit j = false := by
    intro m
    induction m with
    | zero => intro _; right; intro j hj; omega
    | succ m ih =>
      intro hm
      rcases ih (by omega) with h1 | h1
      · exact .inl h1
      · cases hb : (comp net k).testBit m with
        | true =>
          left
          have he := h.comp_same hk (by omega) hb
          exact ⟨m, by omega, root_iff.2 fun j hj => by rw [← he]; exact h1 j hj, he.symm⟩
        | false =>
          right
          intro j hj
          by_cases hjm : j = m
          · rw [hjm]; exact hb
          · exact h1 j (by omega)
  rcases key k (Nat.le_refl _) with h1 | h1
  · exact h1
  · exact ⟨k, Nat.le_refl _, root_iff.2 h1, rfl⟩
theorem lvl_six {net : List Int} (h : Ok net) {k : Nat} (hk : k < net.length) : lvl net 6 k = true := by
  obtain ⟨r, hr, hroot, he⟩ := root_of h hk
  refine lvl_iff.2 ⟨r, by omega, hroot, ?_⟩
  have e2 : comp net r = steps net (allOf net) 6 (2 ^ r) := (h.comp_eq (by omega) (by have := h.hi; omega)).symm
  rw [← e2, he]
  exact h.comp_self hk
/-- Each place that is not the least one of its part has a neighbour that is nearer. -/
theorem nearer {net : List Int} (h : Ok net) {k : Nat} (hk : k < net.length) (hr : root net k = false) : ∃ j, j < net.length ∧ (nb net k).testBit j = true ∧ lev net j < lev net k := by
  have h0 : lvl net 0 k = false := by
    cases hb : lvl net 0 k with
    | false => rfl
    | true =>
      obtain ⟨r, a, b, c⟩ := lvl_iff.1 hb
      have : r = k := by
        have c' : (2 ^ r).testBit k = true := c
        rw [testBit_pow] at c'; simpa using c'
      rw [this] at b; rw [b] at hr; cases hr
  have hex : ∀ m, m ≤ 6 → lvl net m k = true → ∃ q, q < m ∧ lvl net q k = false ∧ lvl net (q + 1) k = true := by
    intro m
    induction m with
    | zero => intro _ hb; rw [h0] at hb; cases hb
    | succ m ih =>
      intro hm hb
      cases hc : lvl net m k with
      | false => exact ⟨m, by omega, hc, hb⟩
      | true => obtain ⟨q, a, b⟩ := ih (by omega) hc; exact ⟨q, by omega, b⟩
  obtain ⟨q, hq, hqf, hqt⟩ := hex 6 (Nat.le_refl _) (lvl_six h hk)
  obtain ⟨r, a, b, c⟩ := lvl_iff.1 hqt
  rcases (grow_testBit _ _ _ _).1 c with c1 | ⟨⟨j, hj, c1, c2⟩, _⟩
  · rw [lvl_iff.2 ⟨r, a, b, c1⟩] at hqf; cases hqf
  · refine ⟨j, hj, by rw [h.sym j k hj hk]; exact c2, ?_⟩
    have hjl : lvl net q j = true := lvl_iff.2 ⟨r, a, b, c1⟩
    have h1 : lev net j ≤ q := by
      have := cnt_mono (n := 6) (p := fun m => !lvl net m j) (q := fun i => decide (i < q)) (fun m hm hp => by
        have hp' : lvl net m j = false := by simpa using hp
        rw [decide_eq_true_eq]
        refine Classical.byContradiction fun hc => ?_
        rw [lvl_mono (by omega) hjl] at hp'; cases hp')
      rw [cnt_below 6 q (by omega)] at this
      exact this
    have h2 : q + 1 ≤ lev net k := by
      have := cnt_mono (n := 6) (p := fun i => decide (i < q + 1)) (q := fun m => !lvl net m k) (fun m hm hp => by
        have hp' : m < q + 1 := by simpa using hp
        cases hx : lvl net m k with
        | false => rfl
        | true => rw [lvl_mono (by omega) hx] at hqf; cases hqf)
      rw [cnt_below 6 (q + 1) (by omega)] at this
      exact this
    omega
/-- There are at least as many wires as places less parts. -/
theorem wires_parts {net : List Int} (h : Ok net) : net.length ≤ wires net + parts net := by
  have hb : ∀ k j, k < net.length → j < net.length → ((nb net k).testBit j && decide (lev net j < lev net k)).toNat + ((nb net j).testBit k && decide (lev net k < lev net j)).toNat ≤ ((nb net k).testBit j).toNat := by
    intro k j hk hj
    rw [h.sym k j hk hj]
    cases (nb net k).testBit j with
    | false => simp
    | true =>
      by_cases h1 : lev net j < lev net k
      · have : ¬ lev net k < lev net j := by omega
        simp [h1, this]
      · by_cases h2 : lev net k < lev net j <;> simp [h1, h2]
  have h1 : sumN net.length (fun k => sumN net.length (fun j => ((nb net k).testBit j && decide (lev net j < lev net k)).toNat)) + sumN net.length (fun k => sumN net.length (fun j => ((nb net j).testBit k && decide (lev net k < lev net j)).toNat)) ≤ ends net := by
    rw [ends_is h, ← sumN_add]
    refine sumN_le fun k hk => ?_
    show sumN net.length _ + sumN net.length _ ≤ _
    rw [← sumN_add]
    exact sumN_le fun j hj => hb k j hk hj
  rw [sumN_swap net.length net.length (fun k j => ((nb net j).testBit k && decide (lev net k < lev net j)).toNat)] at h1
  have h2 : cnt net.length (fun k => !root net k) ≤ sumN net.length (fun k => sumN net.length (fun j => ((nb net k).testBit j && decide (lev net j < lev net k)).toNat)) := by
    refine sumN_le fun k hk => ?_
    show (!root net k).toNat ≤ _
    cases hr : root net k with
    | true => exact Nat.zero_le _
    | false =>
      obtain ⟨j, hj, a, b⟩ := nearer h hk hr
      have := sumN_pos (f := fun j => ((nb net k).testBit j && decide (lev net j < lev net k)).toNat) hj
      simp only [a, b, decide_true, Bool.and_true] at this
      exact this
  have h3 := cnt_not net.length (root net)
  rw [← parts_cnt] at h3
  have h4 := ends_wires h
  omega
theorem comp_closed {net : List Int} (h : Ok net) {i : Nat} (hi : i < net.length) : seen net (comp net i) = comp net i := by
  rw [← h.grow_all]; exact h.part_fix hi
/-- Lone places are parts alone. -/
theorem comp_alone {net : List Int} (h : Ok net) {k : Nat} (hk : k < net.length) : comp net k = 2 ^ k ↔ nb net k = 0 := by
  constructor
  · intro he
    apply Nat.eq_of_testBit_eq
    intro j
    rw [Nat.zero_testBit]
    cases hb : (nb net k).testBit j with
    | false => rfl
    | true =>
      have := comp_nb h hk hb
      rw [he, testBit_pow, decide_eq_true_eq] at this
      subst this
      rw [h.irr k hk] at hb; cases hb
  · intro he
    have h1 : seen net (2 ^ k) = 2 ^ k := by
      apply Nat.eq_of_testBit_eq
      intro j
      rw [Bool.eq_iff_iff, seen_testBit]
      constructor
      · rintro (a | ⟨i, hi, a, b⟩)
        · exact a
        · rw [testBit_pow, decide_eq_true_eq] at a; subst a; rw [he, Nat.zero_testBit] at b; cases b
      · exact .inl
    have h2 : grow net (allOf net) (2 ^ k &&& allOf net) = (2 ^ k &&& allOf net) := by rw [Ok.start_all hk, h.grow_all]; exact h1
    have := steps_fix (m := 0) h2 6 (by omega)
    show part net (allOf net) k = _
    unfold part
    rw [this]
    exact Ok.start_all hk
end Go.Proofs.Ytonbbeplmjidnaa
