/- Several texts in one: Tree, Shift, N3, Ex, Ex2, S3, Nt3, Dr, Dr2, Dr3, S6, L2, Br3, I3, L4, I5, L5, S7, S8, Pm, I6, L6, S9, S10, Dr9, Dr7, J7, S8b, J8, S9b, J9, I7, L7, Ex6. Conditions: those of each theorem. -/
import Derived.Test.YtpmiinabjkdggaaBzb0
import Derived.Test.YtpmiinabjkdggaaBza1
/- Trees of wires: the places with one wire, and the sets that stand together, make all places. Conditions: those of each theorem. -/
namespace Go.Proofs.Ytpmiinabjkdggaa
set_option linter.unusedVariables false
set_option linter.unusedSimpArgs false

/-- A net of some of the wires. -/
structure Sub (net t : List Int) : Prop where
  ok : Ok t
  len : t.length = net.length
  sub : ∀ k j, k < net.length → (nb t k).testBit j = true → (nb net k).testBit j = true
/-- A tree: one part, of as few wires as can be. -/
structure Tree (net t : List Int) : Prop where
  sub : Sub net t
  one : parts t = 1
  wires_ : wires t + 1 = net.length
/-- How many places have one wire alone. -/
def leafs (t : List Int) : Nat := cnt t.length (fun k => size (nb t k) == 1)
theorem sub_one {net t : List Int} (h : Ok net) (ht : Sub net t) (h1 : parts t = 1) : parts net = 1 := by
  rw [one_part h]
  intro j k hj hk
  have hr := (ht.ok.comp_testBit (by rw [ht.len]; exact hj) k).1 ((one_part ht.ok).1 h1 j k (by rw [ht.len]; exact hj) (by rw [ht.len]; exact hk))
  refine (h.comp_testBit hj k).2 ?_
  clear hk
  induction hr with
  | here ha => exact .here (by rw [allOf_testBit]; simpa using hj)
  | @step a b _ hl hn ha ih =>
    have hl' : a < net.length := by rw [← ht.len]; exact hl
    have := ht.sub _ _ hl' hn
    exact .step ih hl' this (by rw [allOf_testBit]; simpa using h.nb_lt hl' this)
/-- In one part of two places or more each place has a wire. -/
theorem one_deg {t : List Int} (h : Ok t) (h1 : parts t = 1) (h2 : 2 ≤ t.length) {k : Nat} (hk : k < t.length) : 1 ≤ size (nb t k) := by
  have h6 := h.hi
  have hne : nb t k ≠ 0 := fun h0 => by
    have hc := (comp_alone h hk).2 h0
    have : ∃ j, j < t.length ∧ j ≠ k := by
      by_cases hk0 : k = 0
      · exact ⟨1, by omega, by omega⟩
      · exact ⟨0, by omega, by omega⟩
    obtain ⟨j, hj, hjk⟩ := this
    have := (one_part h).1 h1 k j hk hj
    rw [hc, testBit_pow] at this
    simp at this; omega
  obtain ⟨j, hj⟩ := pos_iff.1 hne
  have := h.nb_lt hk hj
  exact size_pos (h.lt64 hk) (by omega) hj
/-- A tree of two places or more has two leaves. -/
theorem leafs_two {net t : List Int} (ht : Tree net t) (h2 : 2 ≤ net.length) : 2 ≤ leafs t := by
  have hl := ht.sub.len
  have hw := ends_wires ht.sub.ok
  have h1 : 2 * t.length ≤ ends t + leafs t := by
    unfold ends leafs cnt
    rw [← sumN_add, show 2 * t.length = sumN t.length (fun _ => 2) by rw [sumN_const]; omega]
    refine sumN_le fun k hk => ?_
    have := one_deg ht.sub.ok ht.one (by omega) hk
    show 2 ≤ size (nb t k) + (size (nb t k) == 1).toNat
    by_cases h1 : size (nb t k) = 1
    · simp [h1]
    · have : (size (nb t k) == 1) = false := by simpa using h1
      rw [this]; simp; omega
  have := ht.wires_
  omega
/-- The places with more than one wire. -/
def inner (t : List Int) : Nat := orN t.length (fun k => !(size (nb t k) == 1)) (fun k => 2 ^ k)
theorem inner_testBit (t : List Int) (j : Nat) : (inner t).testBit j = true ↔ j < t.length ∧ size (nb t j) ≠ 1 := by
  unfold inner
  rw [orN_testBit]
  constructor
  · rintro ⟨k, hk, a, b⟩
    rw [testBit_pow, decide_eq_true_eq] at b
    subst b
    exact ⟨hk, by simpa using a⟩
  · rintro ⟨a, b⟩
    exact ⟨j, a, by simpa using b, by rw [testBit_pow]; simp⟩
theorem inner_lt (t : List Int) : inner t < 2 ^ t.length := orN_lt fun k hk _ => Nat.pow_lt_pow_right (by omega) hk
theorem inner_size {t : List Int} (h : Ok t) : size (inner t) + leafs t = t.length := by
  rw [size_cnt h (inner_lt t)]
  have := cnt_not t.length (fun k => size (nb t k) == 1)
  have e : cnt t.length (fun k => (inner t).testBit k) = cnt t.length (fun k => !(size (nb t k) == 1)) := cnt_congr fun k hk => by
    rw [Bool.eq_iff_iff, inner_testBit]
    constructor
    · rintro ⟨_, b⟩; simpa using b
    · intro b; exact ⟨hk, by simpa using b⟩
  rw [e]; unfold leafs; omega
theorem bits_one (s : Nat) (hs : s < 64) (i : Nat) (hi6 : i < 6) (j : Nat) (hj6 : j < 6) (hz : size s = 1) (hi : s.testBit i = true) (hj : s.testBit j = true) : i = j := by
  refine Classical.byContradiction fun hne => ?_
  have h1 := bits_sub s hs i hi6 hi
  have h2 : (s - 2 ^ i).testBit j = true := by rw [sub_testBit hs hi6 hi, hj]; simp; omega
  have := size_pos h1.1 hj6 h2
  omega
/-- What is not a leaf stands together and watches, in one part of three places or more. -/
theorem inner_joined {net t : List Int} (h : Ok net) (ht : Sub net t) (h1 : parts t = 1) (h3 : 3 ≤ net.length) : Together net (inner t) ∧ W net (inner t) = true := by
  have hO := ht.ok
  have hl := ht.len
  have h6 := h.hi
  have only : ∀ {k i j : Nat}, k < t.length → size (nb t k) = 1 → (nb t k).testBit i = true → (nb t k).testBit j = true → i = j := fun {k i j} hk hz hi hj =>
    bits_one _ (hO.lt64 hk) i (by have := hO.nb_lt hk hi; omega) j (by have := hO.nb_lt hk hj; omega) hz hi hj
  have hone := (one_part hO).1 h1
  -- a closed set has all places
  have closed : ∀ (A : Nat) (i : Nat), i < t.length → A.testBit i = true → (∀ x y, A.testBit x = true → x < t.length → (nb t x).testBit y = true → A.testBit y = true) → ∀ j, j < t.length → A.testBit j = true := by
    intro A i hi hA hcl j hj
    have hr := (hO.comp_testBit hi j).1 (hone i j hi hj)
    clear hj
    induction hr with
    | here _ => exact hA
    | step _ hx hn _ ih => exact hcl _ _ ih hx hn
  -- the neighbour of a leaf is none
  have nbr : ∀ {k j : Nat}, k < t.length → size (nb t k) = 1 → (nb t k).testBit j = true → (inner t).testBit j = true := by
    intro k j hk hz hj
    have hjl := hO.nb_lt hk hj
    refine (inner_testBit t j).2 ⟨hjl, fun hz2 => ?_⟩
    have hjk : (nb t j).testBit k = true := by rw [hO.sym k j hk hjl]; exact hj
    -- both alone: the two would be all places
    have hall := closed (2 ^ k ||| 2 ^ j) k hk ((or2 _ _ _).2 (.inl (by rw [testBit_pow]; simp))) (fun x y hx hxl hy => by
      rw [or2, testBit_pow, testBit_pow, decide_eq_true_eq, decide_eq_true_eq] at hx
      rw [or2, testBit_pow, testBit_pow, decide_eq_true_eq, decide_eq_true_eq]
      rcases hx with rfl | rfl
      · exact .inr (only hxl hz hj hy)
      · exact .inl (only hxl hz2 hjk hy))
    have : ∃ m, m < t.length ∧ m ≠ k ∧ m ≠ j := by
      refine Classical.byContradiction fun hc => ?_
      have h0 : ∀ m, m < t.length → m = k ∨ m = j := fun m hm => Classical.byContradiction fun hx => hc ⟨m, hm, fun he => hx (.inl he), fun he => hx (.inr he)⟩
      have a0 := h0 0 (by omega)
      have a1 := h0 1 (by omega)
      have a2 := h0 2 (by omega)
      omega
    obtain ⟨m, hm, n1, n2⟩ := this
    have := hall m hm
    rw [or2, testBit_pow, testBit_pow, decide_eq_true_eq, decide_eq_true_eq] at this
    omega
  have hil : inner t < 2 ^ net.length := by rw [← hl]; exact inner_lt t
  -- there is one
  have hex : ∃ i, (inner t).testBit i = true := by
    by_cases hz : size (nb t 0) = 1
    · have hne : nb t 0 ≠ 0 := fun h0 => by rw [h0] at hz; exact absurd hz (by decide)
      obtain ⟨j, hj⟩ := pos_iff.1 hne
      exact ⟨j, nbr (by omega) hz hj⟩
    · exact ⟨0, (inner_testBit t 0).2 ⟨by omega, hz⟩⟩
  obtain ⟨i, hi⟩ := hex
  have hit := ((inner_testBit t i).1 hi).1
  have hin : i < net.length := by omega
  constructor
  · refine together_of h hil hi fun j hj => ?_
    have hjt := ((inner_testBit t j).1 hj).1
    -- what is reached within, and the leaves beside it
    let C := part net (inner t) i
    have hC : ∀ x, C.testBit x = true ↔ Reach net (inner t) i x := fun x => h.part_testBit hin x
    let A := C ||| orN t.length (fun k => (size (nb t k) == 1) && ((nb t k &&& C) != 0)) (fun k => 2 ^ k)
    have hA : ∀ x, A.testBit x = true ↔ C.testBit x = true ∨ (x < t.length ∧ size (nb t x) = 1 ∧ ∃ c, (nb t x).testBit c = true ∧ C.testBit c = true) := fun x => by
      show (C ||| _).testBit x = true ↔ _
      rw [or2, orN_testBit]
      constructor
      · rintro (a | ⟨k, hk, a, b⟩)
        · exact .inl a
        · rw [testBit_pow, decide_eq_true_eq] at b
          subst b
          rw [Bool.and_eq_true, beq_iff_eq, bne_iff_ne] at a
          obtain ⟨c, hc⟩ := pos_iff.1 a.2
          rw [Nat.testBit_and, Bool.and_eq_true] at hc
          exact .inr ⟨hk, a.1, c, hc.1, hc.2⟩
      · rintro (a | ⟨hk, a, c, hc1, hc2⟩)
        · exact .inl a
        · refine .inr ⟨x, hk, ?_, by rw [testBit_pow]; simp⟩
          rw [Bool.and_eq_true, beq_iff_eq, bne_iff_ne]
          exact ⟨a, pos_iff.2 ⟨c, by rw [Nat.testBit_and, hc1, hc2]; rfl⟩⟩
    have hall := closed A i hit ((hA i).2 (.inl ((hC i).2 (.here hi)))) (fun x y hx hxl hy => by
      have hyl := hO.nb_lt hxl hy
      rcases (hA x).1 hx with hx | ⟨_, hz, c, hc1, hc2⟩
      · by_cases hzy : size (nb t y) = 1
        · exact (hA y).2 (.inr ⟨hyl, hzy, x, by rw [hO.sym x y hxl hyl]; exact hy, hx⟩)
        · have hyi := (inner_testBit t y).2 ⟨hyl, hzy⟩
          have hxn : x < net.length := by omega
          exact (hA y).2 (.inl ((hC y).2 (.step ((hC x).1 hx) hxn (ht.sub x y hxn hy) hyi)))
      · have := only hxl hz hc1 hy
        rw [← this]
        exact (hA c).2 (.inl hc2))
    rcases (hA j).1 (hall j hjt) with a | ⟨_, hz, _⟩
    · exact (hC j).1 a
    · exact absurd hz ((inner_testBit t j).1 hj).2
  · refine (W_iff h hil).2 fun j hj => (seen_iff h _ hj).2 ?_
    have hjt : j < t.length := by omega
    by_cases hz : size (nb t j) = 1
    · right
      have hne : nb t j ≠ 0 := fun h0 => by rw [h0] at hz; exact absurd hz (by decide)
      obtain ⟨c, hc⟩ := pos_iff.1 hne
      have := hO.nb_lt hjt hc
      exact ⟨c, by omega, nbr hjt hz hc, ht.sub j c hj hc⟩
    · exact .inl ((inner_testBit t j).2 ⟨hjt, hz⟩)

/-! ### A tree over a joined watch -/
/-- After m steps from r within a set. -/
theorem steps_lvl {net : List Int} (h : Ok net) {s r : Nat} (hs : s < 2 ^ net.length) (hr : s.testBit r = true) (hT : Together net s) : ∃ lv : Nat → Nat, ∃ p : Nat → Nat, lv r = 0 ∧ ∀ v, s.testBit v = true → v ≠ r → s.testBit (p v) = true ∧ (nb net v).testBit (p v) = true ∧ lv (p v) < lv v ∧ lv v ≤ 6 := by
  have hrl := in_lt hs hr
  have h6 := h.hi
  have e0 : 2 ^ r &&& s = 2 ^ r := Nat.eq_of_testBit_eq fun j => by
    rw [Nat.testBit_and, testBit_pow]
    by_cases hxj : r = j
    · rw [← hxj, hr]; simp
    · simp [hxj]
  let L := fun m k => (steps net s m (2 ^ r)).testBit k
  have mono1 : ∀ m k, L m k = true → L (m + 1) k = true := fun m k hk => (grow_testBit _ _ _ _).2 (.inl hk)
  have mono : ∀ m m' k, m ≤ m' → L m k = true → L m' k = true := by
    intro m m' k hm hk
    induction m' with
    | zero => obtain rfl : m = 0 := by omega
              exact hk
    | succ m' ih =>
      by_cases he : m = m' + 1
      · rw [← he]; exact hk
      · exact mono1 m' k (ih (by omega))
  let lv := fun k => cnt 6 (fun m => !L m k)
  have six : ∀ v, s.testBit v = true → L 6 v = true := fun v hv => by
    have hx : (part net s r).testBit v = true := (h.part_testBit hrl v).2 (hT.2 r v hr hv)
    unfold part at hx
    rw [e0] at hx
    exact hx
  have hp : ∀ v, ∃ j, s.testBit v = true → v ≠ r → s.testBit j = true ∧ (nb net v).testBit j = true ∧ lv j < lv v := fun v => by
    by_cases hv : s.testBit v = true ∧ v ≠ r
    · have h0 : L 0 v = false := by
        show (2 ^ r).testBit v = false
        rw [testBit_pow]; simp; exact fun he => hv.2 he.symm
      have hex : ∀ m, m ≤ 6 → L m v = true → ∃ q, q < m ∧ L q v = false ∧ L (q + 1) v = true := by
        intro m
        induction m with
        | zero => intro _ hb; rw [h0] at hb; cases hb
        | succ m ih =>
          intro hm hb
          cases hc : L m v with
          | false => exact ⟨m, by omega, hc, hb⟩
          | true => obtain ⟨q, a, b⟩ := ih (by omega) hc; exact ⟨q, by omega, b⟩
      obtain ⟨q, hq, hqf, hqt⟩ := hex 6 (Nat.le_refl _) (six v hv.1)
      rcases (grow_testBit _ _ _ _).1 hqt with c1 | ⟨⟨j, hj, c1, c2⟩, _⟩
      · have : L q v = true := c1
        rw [hqf] at this; cases this
      · have hjs : s.testBit j = true := by
          have := steps_reach (net := net) (A := s) (i := r) q (j := j) (by rw [e0]; exact c1)
          exact this.among.2
        have hvl := in_lt hs hv.1
        refine ⟨j, fun _ _ => ⟨hjs, by rw [h.sym j v hj hvl]; exact c2, ?_⟩⟩
        have hjl : L q j = true := c1
        have h1 : lv j ≤ q := by
          have := cnt_mono (n := 6) (p := fun m => !L m j) (q := fun i => decide (i < q)) (fun m hm hp => by
            have hp' : L m j = false := by simpa using hp
            rw [decide_eq_true_eq]
            refine Classical.byContradiction fun hc => ?_
            rw [mono q m j (by omega) hjl] at hp'; cases hp')
          rw [cnt_below 6 q (by omega)] at this
          exact this
        have h2 : q + 1 ≤ lv v := by
          have := cnt_mono (n := 6) (p := fun i => decide (i < q + 1)) (q := fun m => !L m v) (fun m hm hp => by
            have hp' : m < q + 1 := by simpa using hp
            cases hx : L m v with
            | false => rfl
            | true => rw [mono m q v (by omega) hx] at hqf; cases hqf)
          rw [cnt_below 6 (q + 1) (by omega)] at this
          exact this
        omega
    · exact ⟨0, fun a b => absurd ⟨a, b⟩ hv⟩
  refine ⟨lv, fun v => Classical.choose (hp v), ?_, fun v hv hne => ?_⟩
  · show cnt 6 (fun m => !L m r) = 0
    have : cnt 6 (fun m => !L m r) = cnt 6 (fun _ => false) := cnt_congr fun m _ => by
      have : L m r = true := mono 0 m r (by omega) (by show (2 ^ r).testBit r = true; rw [testBit_pow]; simp)
      rw [this]; rfl
    rw [this]; rfl
  · obtain ⟨a, b, c⟩ := Classical.choose_spec (hp v) hv hne
    exact ⟨a, b, c, cnt_le _ _⟩
/-- The net of the wires from each place but r to its parent. -/
def treeOf (n r : Nat) (p : Nat → Nat) : List Int := (List.range n).map fun k => ((orN n (fun j => (!(k == r) && (p k == j)) || (!(j == r) && (p j == k))) (fun j => 2 ^ j) : Nat) : Int)
theorem treeOf_len (n r : Nat) (p : Nat → Nat) : (treeOf n r p).length = n := by simp [treeOf]
theorem treeOf_nb {n r k : Nat} {p : Nat → Nat} (hk : k < n) : nb (treeOf n r p) k = orN n (fun j => (!(k == r) && (p k == j)) || (!(j == r) && (p j == k))) (fun j => 2 ^ j) := by
  unfold nb el treeOf
  simp [List.getD, hk]
theorem treeOf_bit {n r k j : Nat} {p : Nat → Nat} (hk : k < n) : (nb (treeOf n r p) k).testBit j = true ↔ j < n ∧ ((k ≠ r ∧ p k = j) ∨ (j ≠ r ∧ p j = k)) := by
  rw [treeOf_nb hk, orN_testBit]
  constructor
  · rintro ⟨i, hi, a, b⟩
    rw [testBit_pow, decide_eq_true_eq] at b
    subst b
    refine ⟨hi, ?_⟩
    simpa using a
  · rintro ⟨a, b⟩
    exact ⟨j, a, by simpa using b, by rw [testBit_pow]; simp⟩
theorem tree_over {net : List Int} (h : Ok net) {s : Nat} (hs : s < 2 ^ net.length) (hT : Together net s) (hw : W net s = true) : ∃ t, Tree net t ∧ net.length - size s ≤ leafs t := by
  have h6 := h.hi
  obtain ⟨r, hr⟩ := pos_iff.1 hT.1
  have hrl := in_lt hs hr
  obtain ⟨lv, p, hlr, hp⟩ := steps_lvl h hs hr hT
  -- parents of all places
  have hq : ∀ v, ∃ j, v < net.length → v ≠ r → s.testBit j = true ∧ (nb net v).testBit j = true ∧ (s.testBit v = true → lv j < lv v) := fun v => by
    by_cases hv : v < net.length
    · cases hb : s.testBit v with
      | true =>
        by_cases hne : v = r
        · exact ⟨0, fun _ hh => absurd hne hh⟩
        · obtain ⟨a, b, c, _⟩ := hp v hb hne
          exact ⟨p v, fun _ _ => ⟨a, b, fun _ => c⟩⟩
      | false =>
        rcases (seen_iff h s hv).1 ((W_iff h hs).1 hw v hv) with x | ⟨i, _, x, y⟩
        · rw [hb] at x; cases x
        · exact ⟨i, fun _ _ => ⟨x, y, fun hh => by cases hh⟩⟩
    · exact ⟨0, fun hh => absurd hh hv⟩
  have hPex : ∃ P : Nat → Nat, ∀ v, v < net.length → v ≠ r → s.testBit (P v) = true ∧ (nb net v).testBit (P v) = true ∧ (s.testBit v = true → lv (P v) < lv v) := ⟨fun v => Classical.choose (hq v), fun v => Classical.choose_spec (hq v)⟩
  obtain ⟨P, hP⟩ := hPex
  have hPl : ∀ v, v < net.length → v ≠ r → P v < net.length := fun v hv hne => in_lt hs (hP v hv hne).1
  -- no two are each other's parents
  have hnot : ∀ k j, k < net.length → j < net.length → k ≠ r → j ≠ r → P k = j → P j = k → False := fun k j hk hj hkr hjr h1 h2 => by
    obtain ⟨a, _, c⟩ := hP k hk hkr
    obtain ⟨d, _, f⟩ := hP j hj hjr
    rw [h1] at a c
    rw [h2] at d f
    have := c d
    have := f a
    omega
  let t := treeOf net.length r P
  have hlen : t.length = net.length := treeOf_len _ _ _
  have hbit : ∀ {k j : Nat}, k < net.length → ((nb t k).testBit j = true ↔ j < net.length ∧ ((k ≠ r ∧ P k = j) ∨ (j ≠ r ∧ P j = k))) := fun hk => treeOf_bit hk
  have hOk : Ok t := by
    refine ⟨by rw [hlen]; exact h.lo, by rw [hlen]; exact h.hi, fun k hk => ?_, fun k hk => ?_, fun j k hj hk => ?_, fun k hk => ?_⟩
    · show el (treeOf net.length r P) k = _
      have hk' : k < net.length := by rw [← hlen]; exact hk
      have := treeOf_nb (r := r) (p := P) hk'
      show _ = ((nb (treeOf net.length r P) k : Nat) : Int)
      rw [this]
      unfold el treeOf
      simp [List.getD, hk']
    · have hk' : k < net.length := by rw [← hlen]; exact hk
      show nb (treeOf net.length r P) k < _
      rw [treeOf_nb hk', hlen]
      exact orN_lt fun j hj _ => Nat.pow_lt_pow_right (by omega) hj
    · rw [hlen] at hj hk
      rw [Bool.eq_iff_iff, hbit hk, hbit hj]
      constructor
      · rintro ⟨_, a | a⟩
        · exact ⟨hk, .inr a⟩
        · exact ⟨hk, .inl a⟩
      · rintro ⟨_, a | a⟩
        · exact ⟨hj, .inr a⟩
        · exact ⟨hj, .inl a⟩
    · rw [hlen] at hk
      refine not_true fun hc => ?_
      obtain ⟨_, a | a⟩ := (hbit hk).1 hc
      · have := (hP k hk a.1).2.1
        rw [a.2, h.irr k hk] at this; cases this
      · have := (hP k hk a.1).2.1
        rw [a.2, h.irr k hk] at this; cases this
  have hSub : Sub net t := by
    refine ⟨hOk, hlen, fun k j hk hj => ?_⟩
    obtain ⟨hjl, a | a⟩ := (hbit hk).1 hj
    · have := (hP k hk a.1).2.1
      rw [a.2] at this; exact this
    · have := (hP j hjl a.1).2.1
      rw [a.2, h.sym k j hk hjl] at this; exact this
  -- one part: each place comes to r
  have reach : ∀ m v, v < net.length → (if s.testBit v = true then lv v else 7) ≤ m → Reach t (allOf t) r v := by
    intro m
    induction m with
    | zero =>
      intro v hv hm
      cases hb : s.testBit v with
      | false => rw [hb] at hm; simp at hm
      | true =>
        rw [hb, if_pos rfl] at hm
        by_cases hvr : v = r
        · rw [hvr]; exact .here (by rw [allOf_testBit, hlen]; simpa using hrl)
        · have := (hP v hv hvr).2.2 hb; omega
    | succ m ih =>
      intro v hv hm
      by_cases hvr : v = r
      · rw [hvr]; exact .here (by rw [allOf_testBit, hlen]; simpa using hrl)
      · obtain ⟨a, b, c⟩ := hP v hv hvr
        have hpl := hPl v hv hvr
        have hle : (if s.testBit (P v) = true then lv (P v) else 7) ≤ m := by
          rw [if_pos a]
          cases hb : s.testBit v with
          | true => have := c hb; rw [hb, if_pos rfl] at hm; omega
          | false =>
            rw [hb] at hm
            simp at hm
            by_cases hpr : P v = r
            · rw [hpr, hlr]; omega
            · obtain ⟨_, _, _, h6'⟩ := hp (P v) a hpr
              omega
        exact .step (ih (P v) hpl hle) (by rw [hlen]; exact hpl) ((hbit hpl).2 ⟨hv, .inr ⟨hvr, rfl⟩⟩) (by rw [allOf_testBit, hlen]; simpa using hv)
  have hone : parts t = 1 := by
    rw [one_part hOk]
    intro j k hj hk
    rw [hlen] at hj hk
    refine (hOk.comp_testBit (by rw [hlen]; exact hj) k).2 ?_
    have a := reach _ j hj (Nat.le_refl _)
    have b := reach _ k hk (Nat.le_refl _)
    exact (a.symm hOk (by rw [hlen]; exact hrl)).trans b
  -- as many wires as places but one
  have hends : ends t = 2 * (net.length - 1) := by
    rw [ends_is hOk, hlen]
    have e1 : sumN net.length (fun k => sumN net.length (fun j => ((nb t k).testBit j).toNat)) = sumN net.length (fun k => sumN net.length (fun j => (decide (k ≠ r ∧ P k = j)).toNat)) + sumN net.length (fun k => sumN net.length (fun j => (decide (j ≠ r ∧ P j = k)).toNat)) := by
      rw [← sumN_add]
      refine sumN_congr fun k hk => ?_
      rw [← sumN_add]
      refine sumN_congr fun j hj => ?_
      have hb := hbit (j := j) hk
      by_cases h1 : k ≠ r ∧ P k = j
      · by_cases h2 : j ≠ r ∧ P j = k
        · exact (hnot k j hk hj h1.1 h2.1 h1.2 h2.2).elim
        · rw [hb.2 ⟨hj, .inl h1⟩, decide_eq_true h1, decide_eq_false h2]; rfl
      · by_cases h2 : j ≠ r ∧ P j = k
        · rw [hb.2 ⟨hj, .inr h2⟩, decide_eq_false h1, decide_eq_true h2]; rfl
        · have : (nb t k).testBit j = false := not_true fun hc => by
            rcases (hb.1 hc).2 with a | a
            · exact h1 a
            · exact h2 a
          rw [this, decide_eq_false h1, decide_eq_false h2]; rfl
    have e2 : sumN net.length (fun k => sumN net.length (fun j => (decide (k ≠ r ∧ P k = j)).toNat)) = net.length - 1 := by
      have e3 : sumN net.length (fun k => sumN net.length (fun j => (decide (k ≠ r ∧ P k = j)).toNat)) = cnt net.length (fun k => !(k == r)) := by
        refine sumN_congr fun k hk => ?_
        by_cases hkr : k = r
        · rw [sumN_congr (g := fun _ => 0) (fun j _ => by simp [hkr]), sumN_zero]; simp [hkr]
        · rw [sumN_one (k := P k) (hPl k hk hkr) (fun j _ hj => by rw [decide_eq_false (fun hc => hj hc.2.symm)]; rfl)]
          show (decide (k ≠ r ∧ P k = P k)).toNat = (!(k == r)).toNat
          rw [decide_eq_true (⟨hkr, rfl⟩ : k ≠ r ∧ P k = P k), show (k == r) = false by simpa using hkr]
          rfl
      have e4 := cnt_not net.length (fun k => k == r)
      have e5 : cnt net.length (fun k => k == r) = 1 := by
        show sumN net.length (fun k => (k == r).toNat) = 1
        rw [sumN_one (k := r) hrl (fun j _ hj => by simp [hj])]
        simp
      omega
    have e6 : sumN net.length (fun k => sumN net.length (fun j => (decide (j ≠ r ∧ P j = k)).toNat)) = sumN net.length (fun k => sumN net.length (fun j => (decide (k ≠ r ∧ P k = j)).toNat)) := by
      rw [sumN_swap]
    rw [e1, e6, e2]; omega
  have hwt := ends_wires hOk
  have hlo := h.lo
  refine ⟨t, ⟨hSub, hone, by omega⟩, ?_⟩
  -- the places outside are leaves
  rw [size_cnt h hs]
  have hn := cnt_not net.length (fun k => s.testBit k)
  have : cnt net.length (fun k => !s.testBit k) ≤ leafs t := by
    unfold leafs
    rw [hlen]
    refine cnt_mono fun k hk hb => ?_
    have hkr : k ≠ r := fun he => by rw [he, hr] at hb; cases hb
    have hkb : s.testBit k = false := by simpa using hb
    rw [beq_iff_eq, size_cnt hOk (hOk.lt k (by rw [hlen]; exact hk)), hlen]
    show sumN net.length (fun j => ((nb t k).testBit j).toNat) = 1
    rw [sumN_one (k := P k) (hPl k hk hkr) (fun j hj hne => ?_), (hbit hk).2 ⟨hPl k hk hkr, .inl ⟨hkr, rfl⟩⟩]
    · rfl
    · have : (nb t k).testBit j = false := not_true fun hc => by
        rcases ((hbit hk).1 hc).2 with a | a
        · exact hne a.2.symm
        · have := (hP j hj a.1).1
          rw [a.2, hkb] at this; cases this
      rw [this]; rfl
  omega
end Go.Proofs.Ytpmiinabjkdggaa
/- All guards move over a joined watch: one more guard than stand together. Conditions: those of each theorem. -/
namespace Go.Proofs.Ytpmiinabjkdggaa
set_option linter.unusedVariables false
set_option linter.unusedSimpArgs false

/-- The way from a towards r by parents. -/
def wayTo (p : Nat → Nat) (r a : Nat) : Nat → Nat
  | 0 => a
  | i + 1 => if wayTo p r a i = r then r else p (wayTo p r a i)
theorem shift {net : List Int} (h : Ok net) {s : Nat} (hs : s < 2 ^ net.length) (hT : Together net s) {v w a b : Nat} (hv : v < net.length) (hvs : s.testBit v = false) (hw : w < net.length) (hws : s.testBit w = false)
    (ha : s.testBit a = true) (hva : (nb net v).testBit a = true) (hb : s.testBit b = true) (hbw : (nb net b).testBit w = true) : AllMove net (s ||| 2 ^ v) (s ||| 2 ^ w) := by
  have h6 := h.hi
  obtain ⟨lv, p, hl0, hp⟩ := steps_lvl h hs hb hT
  let q := wayTo p b a
  have q0 : q 0 = a := rfl
  have qs : ∀ i, q (i + 1) = if q i = b then b else p (q i) := fun i => rfl
  have qin : ∀ i, s.testBit (q i) = true := by
    intro i
    induction i with
    | zero => exact ha
    | succ i ih =>
      rw [qs]
      split
      · exact hb
      · rename_i hne; exact (hp _ ih hne).1
  have qlv : ∀ i, lv (q (i + 1)) ≤ lv (q i) := fun i => by
    rw [qs]
    split
    · rw [hl0]; exact Nat.zero_le _
    · rename_i hne; exact Nat.le_of_lt (hp _ (qin i) hne).2.2.1
  have qmono : ∀ i j, i ≤ j → lv (q j) ≤ lv (q i) := by
    intro i j hij
    induction j with
    | zero => obtain rfl : i = 0 := by omega
              exact Nat.le_refl _
    | succ j ih =>
      by_cases he : i = j + 1
      · rw [he]; exact Nat.le_refl _
      · exact Nat.le_trans (qlv j) (ih (by omega))
  have hvb : ∀ x, (s ||| 2 ^ v).testBit x = true ↔ s.testBit x = true ∨ x = v := fun x => or_testBit _ _ _
  have hwb : ∀ x, (s ||| 2 ^ w).testBit x = true ↔ s.testBit x = true ∨ x = w := fun x => or_testBit _ _ _
  -- on the way or not
  let f : Nat → Nat := fun x => if x = v then a else @ite _ (∃ i, q i = x) (Classical.propDecidable _) (if x = b then w else p x) x
  have f1 : ∀ x, x = v → f x = a := fun x hx => by show (if x = v then _ else _) = _; rw [if_pos hx]
  have f2 : ∀ x, x ≠ v → (∃ i, q i = x) → x = b → f x = w := fun x hx hi he => by show (if x = v then _ else _) = _; rw [if_neg hx, if_pos hi, if_pos he]
  have f3 : ∀ x, x ≠ v → (∃ i, q i = x) → x ≠ b → f x = p x := fun x hx hi he => by show (if x = v then _ else _) = _; rw [if_neg hx, if_pos hi, if_neg he]
  have f4 : ∀ x, x ≠ v → (¬ ∃ i, q i = x) → f x = x := fun x hx hi => by show (if x = v then _ else _) = _; rw [if_neg hx, if_neg hi]
  have sv : ∀ x, s.testBit x = true → x ≠ v := fun x hx he => by rw [he, hvs] at hx; cases hx
  have sw : ∀ x, s.testBit x = true → x ≠ w := fun x hx he => by rw [he, hws] at hx; cases hx
  have pway : ∀ x, (∃ i, q i = x) → x ≠ b → ∃ i, q i = p x := fun x ⟨i, hi⟩ hne => ⟨i + 1, by rw [qs, hi, if_neg hne]⟩
  refine ⟨?_, f, fun x hx => ?_, fun x y hx hy he => ?_⟩
  · rw [size_add (lt64 h hs) (by omega) hvs, size_add (lt64 h hs) (by omega) hws]
  · rcases (hvb x).1 hx with hx | hx
    · by_cases hi : ∃ i, q i = x
      · by_cases hxb : x = b
        · rw [f2 x (sv x hx) hi hxb, hxb]
          exact ⟨(hwb w).2 (.inr rfl), (ball_testBit _ _ _).2 (.inl hbw)⟩
        · rw [f3 x (sv x hx) hi hxb]
          obtain ⟨c, d, _⟩ := hp x hx hxb
          exact ⟨(hwb _).2 (.inl c), (ball_testBit _ _ _).2 (.inl d)⟩
      · rw [f4 x (sv x hx) hi]
        exact ⟨(hwb x).2 (.inl hx), sees_self net x⟩
    · rw [f1 x hx, hx]
      exact ⟨(hwb a).2 (.inl ha), (ball_testBit _ _ _).2 (.inl hva)⟩
  · -- no two go to one place
    have key : ∀ x y, s.testBit x = true → s.testBit y = true → f x = f y → x = y := by
      intro x y hx hy he
      by_cases hi : ∃ i, q i = x
      · by_cases hxb : x = b
        · rw [f2 x (sv x hx) hi hxb] at he
          by_cases hj : ∃ i, q i = y
          · by_cases hyb : y = b
            · rw [hxb, hyb]
            · rw [f3 y (sv y hy) hj hyb] at he
              exact absurd he.symm (sw _ (hp y hy hyb).1)
          · rw [f4 y (sv y hy) hj] at he
            exact absurd he.symm (sw _ hy)
        · rw [f3 x (sv x hx) hi hxb] at he
          by_cases hj : ∃ i, q i = y
          · by_cases hyb : y = b
            · rw [f2 y (sv y hy) hj hyb] at he
              exact absurd he (sw _ (hp x hx hxb).1)
            · rw [f3 y (sv y hy) hj hyb] at he
              obtain ⟨i, hi⟩ := hi
              obtain ⟨j, hj⟩ := hj
              have e1 : q (i + 1) = p x := by rw [qs, hi, if_neg hxb]
              have e2 : q (j + 1) = p y := by rw [qs, hj, if_neg hyb]
              have l1 := (hp x hx hxb).2.2.1
              have l2 := (hp y hy hyb).2.2.1
              rcases Nat.lt_trichotomy i j with hlt | heq | hgt
              · have := qmono (i + 1) j (by omega)
                rw [e1, hj, he] at this; omega
              · rw [← hi, ← hj, heq]
              · have := qmono (j + 1) i (by omega)
                rw [e2, hi, ← he] at this; omega
          · rw [f4 y (sv y hy) hj] at he
            exact absurd (he ▸ pway x hi hxb) hj
      · rw [f4 x (sv x hx) hi] at he
        by_cases hj : ∃ i, q i = y
        · by_cases hyb : y = b
          · rw [f2 y (sv y hy) hj hyb] at he
            exact absurd he (sw _ hx)
          · rw [f3 y (sv y hy) hj hyb] at he
            exact absurd (he ▸ pway y hj hyb) hi
        · rw [f4 y (sv y hy) hj] at he; exact he
    have keyv : ∀ y, s.testBit y = true → f y ≠ a := by
      intro y hy he
      by_cases hj : ∃ i, q i = y
      · by_cases hyb : y = b
        · rw [f2 y (sv y hy) hj hyb] at he
          exact sw a ha he.symm
        · rw [f3 y (sv y hy) hj hyb] at he
          obtain ⟨j, hj⟩ := hj
          have l2 := (hp y hy hyb).2.2.1
          have := qmono 0 j (Nat.zero_le _)
          rw [q0, hj] at this
          rw [he] at l2
          omega
      · rw [f4 y (sv y hy) hj] at he
        exact hj ⟨0, by rw [q0, he]⟩
    rcases (hvb x).1 hx with hx | hx <;> rcases (hvb y).1 hy with hy | hy
    · exact key x y hx hy he
    · rw [f1 y hy] at he; exact absurd he (keyv x hx)
    · rw [f1 x hx] at he; exact absurd he.symm (keyv y hy)
    · rw [hx, hy]
/-- One more guard than stand together, and watch. -/
theorem allEternal_joined {net : List Int} (h : Ok net) {s : Nat} (hs : s < 2 ^ net.length) (hT : Together net s) (hW : W net s = true) : ∃ t, t < 2 ^ net.length ∧ AllEternal net t ∧ size t ≤ size s + 1 := by
  have h6 := h.hi
  have hnb : ∀ j, j < net.length → s.testBit j = false → ∃ i, s.testBit i = true ∧ (nb net j).testBit i = true := fun j hj hb => by
    rcases (seen_iff h s hj).1 ((W_iff h hs).1 hW j hj) with x | ⟨i, _, x, y⟩
    · rw [hb] at x; cases x
    · exact ⟨i, x, y⟩
  by_cases hex : ∃ v, v < net.length ∧ s.testBit v = false
  · obtain ⟨v0, hv0, hb0⟩ := hex
    refine ⟨s ||| 2 ^ v0, or_lt hs hv0, ⟨fun t => ∃ v, v < net.length ∧ s.testBit v = false ∧ t = s ||| 2 ^ v, ?_, v0, hv0, hb0, rfl⟩, by rw [size_add (lt64 h hs) (by omega) hb0]; exact Nat.le_refl _⟩
    rintro _ _ ⟨v, hv, hvb, rfl⟩ k hk hkb
    have hks : s.testBit k = false := not_true fun hc => by rw [(or_testBit _ _ _).2 (.inl hc)] at hkb; cases hkb
    obtain ⟨a, ha, hva⟩ := hnb v hv hvb
    obtain ⟨b, hb, hkb2⟩ := hnb k hk hks
    have hbl := in_lt hs hb
    exact ⟨s ||| 2 ^ k, or_lt hs hk, (or_testBit _ _ _).2 (.inr rfl), shift h hs hT hv hvb hk hks ha hva hb (by rw [h.sym k b hk hbl]; exact hkb2), k, hk, hks, rfl⟩
  · have : s = allOf net := eq_of_bits hs (allOf_lt net) fun j hj => by
      rw [allOf_testBit]
      cases hb : s.testBit j with
      | true => simpa using hj
      | false => exact absurd ⟨j, hj, hb⟩ hex
    refine ⟨s, hs, eternal_allEternal h hs (by rw [this]; exact eternal_all), by omega⟩
end Go.Proofs.Ytpmiinabjkdggaa
/- Lists of watches, counts of watches, thinned watches. Conditions: those of each theorem. -/
namespace Go.Proofs.Ytpmiinabjkdggaa
open D Go.RowKit
set_option linter.unusedVariables false
set_option linter.unusedSimpArgs false


theorem small_of {n : Nat} (h : n ≤ 1000000) : small n = true := by unfold small; rw [decide_eq_true_eq]; omega
/-- All numbers below N of a kind. -/
def listOfN (N : Nat) (p : Nat → Bool) : List Int := fold N (fun l s => if p s = true then l ++ [(s : Int)] else l) []
theorem listOfN_len (N : Nat) (p : Nat → Bool) : (listOfN N p).length ≤ N := by
  unfold listOfN
  induction N with
  | zero => exact Nat.le_refl _
  | succ N ih =>
    rw [fold_succ]
    split
    · rw [List.length_append]; simp only [List.length_singleton]; omega
    · omega
/-- How many watches there are of each number of places. -/
def counts (net : List Int) : List Int := fold (2 ^ net.length) (fun l s => if W net s = true then l.set (size s) (D.eli l (size s) + 1) else l) (List.replicate (net.length + 1) 0)
theorem eli_set {l : List Int} {a b : Nat} {v : Int} (ha : a < l.length) : D.eli (l.set a v) b = if a = b then v else D.eli l b := by
  unfold D.eli
  by_cases h : a = b
  · subst h; simp [List.getD, ha]
  · simp [List.getD, List.getElem?_set_ne h, h]
theorem eli_rep (n k : Nat) : D.eli (List.replicate n 0) k = 0 := by
  unfold D.eli
  by_cases h : k < n <;> simp [List.getD, h]
/-- The bounds of the counts on the way. -/
def CInv (net : List Int) (k : Nat) (t : List Int) : Prop := t.length = net.length + 1 ∧ ∀ j, 0 ≤ D.eli t j ∧ D.eli t j ≤ k
theorem CInv.step {net : List Int} (h : Ok net) {k : Nat} {t : List Int} (hk : k < 2 ^ net.length) (ht : CInv net k t) : CInv net (k + 1) (if W net k = true then t.set (size k) (D.eli t (size k) + 1) else t) := by
  have hz := size_le_len h hk
  split
  · refine ⟨by rw [List.length_set]; exact ht.1, fun j => ?_⟩
    rw [eli_set (by rw [ht.1]; omega)]
    have h1 := ht.2 j
    have h2 := ht.2 (size k)
    split <;> omega
  · exact ⟨ht.1, fun j => by have := ht.2 j; omega⟩
theorem CInv.zero (net : List Int) : CInv net 0 (List.replicate (net.length + 1) 0) := ⟨by simp, fun j => by rw [eli_rep]; omega⟩
/-- What is left of a watch. -/
def thinStep (net : List Int) (t p : Nat) : Nat := if (t.testBit p && W net (t - 2 ^ p)) = true then t - 2 ^ p else t
def thin (net : List Int) (s : Nat) : Nat := fold net.length (fun t k => thinStep net t (net.length - 1 - k)) s
theorem thinStep_lt {net : List Int} {t p n : Nat} (ht : t < 2 ^ n) : thinStep net t p < 2 ^ n := by
  unfold thinStep; split
  · exact sub_lt ht
  · exact ht
theorem thinStep_W {net : List Int} {t p : Nat} (hw : W net t = true) : W net (thinStep net t p) = true := by
  unfold thinStep; split
  · rename_i hc; rw [Bool.and_eq_true] at hc; exact hc.2
  · exact hw
theorem I.WatchOk_n {net : List Int} (h : Ok net) (e : I.NetOk_t net = some true) (s : Int) : I.WatchOk_t net s = some (decide (0 ≤ s ∧ s < 2 ^ net.length) && W net s.toNat) := by
  unfold I.WatchOk_t I.WatchOk_tree
  rw [e, I.setIn_n h]
  simp only [optC, cond_true]
  rcases set_cases h s with ⟨t, rfl, ht, hd⟩ | hd
  · rw [hd, cond_true, I.watchIn_n h ht]; rfl
  · rw [hd]; rfl
end Go.Proofs.Ytpmiinabjkdggaa
/- What the exact laws need of rows that are marked. Conditions: those of each theorem. -/
namespace Go.Proofs.Ytpmiinabjkdggaa
open D Go.RowKit
set_option linter.unusedVariables false
set_option linter.unusedSimpArgs false


theorem eli_set2 {l : List Int} {a b : Nat} {v : Int} (ha : a < l.length) : D.eli (l.set a v) b = if a = b then v else D.eli l b := by
  unfold D.eli
  by_cases h : a = b
  · subst h; simp [List.getD, ha]
  · simp [List.getD, List.getElem?_set_ne h, h]
theorem neg_nat (a : Nat) : decide ((a : Int) < 0) = false := by rw [decide_eq_false_iff_not]; omega
theorem not_beq_self (a : Nat) : (!((a : Int) == (a : Int))) = false := by simp
end Go.Proofs.Ytpmiinabjkdggaa
/- The exact laws of chapter 2. Conditions: those of each theorem. -/
namespace Go.Proofs.Ytpmiinabjkdggaa
open D Go.RowKit
set_option linter.unusedVariables false
set_option linter.unusedSimpArgs false


theorem I.WatchOk_x {net : List Int} (e : I.NetOk_t net = some false) (s : Int) : I.WatchOk_t net s = some false := by
  unfold I.WatchOk_t I.WatchOk_tree; rw [e]; rfl
theorem S.l1SetOk_x {net : List Int} (e : S.NetOk_t net = some false) (s : Int) : S.l1SetOk_t net s = some false := by
  unfold S.l1SetOk_t S.l1SetOk_tree; rw [e]; rfl
theorem I.FewestWatch_x {net : List Int} (e : I.NetOk_t net = some false) : I.FewestWatch_t net = some (-1) := by
  unfold I.FewestWatch_t I.FewestWatch_tree; rw [e]; rfl
theorem fuel_succ : ∃ n, FUEL = n + 1 := ⟨FUEL - 1, by have := FUEL_le; omega⟩
theorem counts_len {net : List Int} (h : Ok net) : (counts net).length = net.length + 1 := by
  have key : ∀ k, k ≤ 2 ^ net.length → CInv net k (fold k (fun l s => if W net s = true then l.set (size s) (D.eli l (size s) + 1) else l) (List.replicate (net.length + 1) 0)) := by
    intro k
    induction k with
    | zero => intro _; exact CInv.zero net
    | succ k ih => intro hk; rw [fold_succ]; exact (ih (by omega)).step h (by omega)
  exact (key _ (Nat.le_refl _)).1
end Go.Proofs.Ytpmiinabjkdggaa
/- The model's functions of chapters 3 to 5 in natural numbers. Conditions: those of each theorem. -/
namespace Go.Proofs.Ytpmiinabjkdggaa
open D Go.RowKit
set_option linter.unusedVariables false
set_option linter.unusedSimpArgs false


theorem nat_eq0 (a : Nat) : ((a : Int) == 0) = (a == 0) := nat_beq a 0
theorem nat_ne0 (a : Nat) : ((a : Int) != 0) = (a != 0) := nat_bne a 0
theorem minus_lt {a b n : Nat} (ha : a < 2 ^ n) : minus a b < 2 ^ n := Nat.lt_of_le_of_lt Nat.and_le_left ha
theorem minus_pow {s k : Nat} (hs : s < 64) (hk : k < 6) (hb : s.testBit k = true) : minus s (2 ^ k) = s - 2 ^ k := by rw [bits_minus s hs k hk, if_pos hb]
/-- The answers that are told for any argument. -/
def privI (net : List Int) (s g : Int) : Int := if (0 ≤ s ∧ s < 2 ^ net.length) ∧ (0 ≤ g ∧ g < net.length) ∧ s.toNat.testBit g.toNat = true then ((priv net s.toNat g.toNat : Nat) : Int) else -1
def twiceI (net : List Int) (s : Int) : Int := if 0 ≤ s ∧ s < 2 ^ net.length then ((twice net s.toNat : Nat) : Int) else -1
def grownI (net : List Int) (s : Int) : Int := if (0 ≤ s ∧ s < 2 ^ net.length) ∧ apart net s.toNat = true then ((grown net s.toNat : Nat) : Int) else -1
theorem dec_true {p : Prop} [Decidable p] (h : decide p = true) : p := of_decide_eq_true h
theorem dec_false {p : Prop} [Decidable p] (h : decide p = false) : ¬ p := of_decide_eq_false h
/-- All places below n pass a test, by a search for one that doesn't. -/
theorem find_test {n : Nat} {p : Nat → Bool} : find n (fun k => if p k = true then some false else none) = if ((List.range n).all fun k => !p k) = true then none else some false := by
  cases hall : (List.range n).all fun k => !p k with
  | true =>
    rw [if_pos rfl, find_none]
    intro j hj
    rw [List.all_eq_true] at hall
    have := hall j (List.mem_range.2 hj)
    rw [Bool.not_eq_true'] at this
    rw [this]; rfl
  | false =>
    rw [if_neg (by simp)]
    rw [List.all_eq_false] at hall
    obtain ⟨k, hk, hb⟩ := hall
    rw [Bool.not_eq_true', Bool.not_eq_false] at hb
    cases hf : find n (fun k => if p k = true then some false else none) with
    | none =>
      have := find_none.1 hf k (List.mem_range.1 hk)
      rw [hb] at this; cases this
    | some b =>
      obtain ⟨j, hj, he⟩ := find_some_ex hf
      split at he
      · cases he; rfl
      · cases he

theorem and_all_mono {s k n : Nat} (hk : k < n) (hs : s < 2 ^ n) : s ||| 2 ^ k < 2 ^ n := or_lt hs hk
theorem grownStep_lt {net : List Int} {t k n : Nat} (ht : t < 2 ^ n) (hk : k < n) : grownStep net t k < 2 ^ n := by
  unfold grownStep; split
  · exact or_lt ht hk
  · exact ht
def chain (net : List Int) : List Int := [((minSize net (fullN net) : Nat) : Int), ((fewest net : Nat) : Int), ((minSize net (fullA net) : Nat) : Int), ((maxSize net (apart net) : Nat) : Int), ((maxSize net (least net) : Nat) : Int), ((maxSize net (needs net) : Nat) : Int)]
end Go.Proofs.Ytpmiinabjkdggaa
/- What drawn nets are. Conditions: those of each theorem. -/
namespace Go.Proofs.Ytpmiinabjkdggaa
open D Go.RowKit
set_option linter.unusedVariables false
set_option linter.unusedSimpArgs false


/-- A code of bytes. -/
def Bytes (rb : List Int) : Prop := ∀ n ∈ rb, 0 ≤ n ∧ n ≤ 255
theorem Bytes.eli {rb : List Int} (h : Bytes rb) (k : Nat) : 0 ≤ D.eli rb k ∧ D.eli rb k ≤ 255 := by
  by_cases hk : k < rb.length
  · have : D.eli rb k = rb[k] := by simp [D.eli, List.getD, hk]
    rw [this]; exact h _ (List.getElem_mem hk)
  · have : D.eli rb k = 0 := by simp [D.eli, List.getD, List.getElem?_eq_none (by omega : rb.length ≤ k)]
    rw [this]; decide
theorem Bytes.wf {rb : List Int} (h : ∀ n ∈ rb, (Lit.int .u8 n).wf = true) : Bytes rb := fun n hn => by
  have := h n hn
  have e1 : IntKind.u8.min = 0 := by kernel_rfl
  have e2 : IntKind.u8.max = 255 := by kernel_rfl
  simpa [Lit.wf, e1, e2] using this

theorem xor_pos {a b : Int} (ha : 0 ≤ a ∧ a < 9223372036854775808) (hb : 0 ≤ b ∧ b < 9223372036854775808) : 0 ≤ bits .xor .i64 a b := by
  obtain ⟨x, rfl⟩ := Int.eq_ofNat_of_zero_le ha.1
  obtain ⟨y, rfl⟩ := Int.eq_ofNat_of_zero_le hb.1
  rw [i64_xor_nat x y (by omega) (by omega)]
  omega

theorem S.l20Rd_pick_is {rb : List Int} {rp n : Int} (hb : Bytes rb) (hl : rb.length ≤ 2000) (h0 : 0 ≤ rp) (h1 : rp ≤ 1099511627776) :
    ∃ v, S.l20Rd_pick_t rb rp n = some (v, rb, rp + 1) ∧ 0 ≤ v ∧ (1 ≤ n → v < n) := by
  unfold S.l20Rd_pick_t S.l20Rd_pick_tree
  have e1 : IntKind.i64.wrap (rp + 1) = rp + 1 := i64_wrap (by omega) (by omega)
  have e2 : IntKind.i64.wrap (rp + 1 - 1) = rp := by rw [i64_wrap (by omega) (by omega)]; omega
  rw [e1, e2]
  by_cases hn : n < 1
  · rw [cnd_t (by simpa using hn)]; exact ⟨_, rfl, Int.le_refl _, fun h => by omega⟩
  rw [cnd_f (by simpa using hn)]
  by_cases hz : rb.length = 0
  · rw [cnd_t (by simp [hz])]; exact ⟨_, rfl, Int.le_refl _, fun h => by omega⟩
  have hnz : (n == 0) = false := by simp; omega
  have hlz : ((rb.length : Int) == 0) = false := by simp; exact fun h => hz (by simp [h])
  rw [cnd_f hlz]
  have fin : ∀ x : Int, 0 ≤ x → 0 ≤ x.tmod n ∧ (1 ≤ n → x.tmod n < n) := fun x hx => ⟨Int.tmod_nonneg _ hx, fun h => Int.tmod_lt_of_pos _ (by omega)⟩
  by_cases hx : rp < rb.length
  · rw [cnd_t (by simpa using hx), cnd_t (by simp; omega), cnd_f hnz]
    have hv := hb.eli rp.toNat
    rw [i64_wrap (n := D.eli rb rp.toNat) (by omega) (by omega)]
    exact ⟨_, rfl, fin _ hv.1⟩
  · rw [cnd_f (by simpa using hx), cnd_f hlz]
    have hL : 0 < (rb.length : Int) := by omega
    have m1 : 0 ≤ rp.tmod rb.length := Int.tmod_nonneg _ h0
    have m2 : rp.tmod rb.length < rb.length := Int.tmod_lt_of_pos _ hL
    rw [cnd_t (by simp; omega), cnd_f hlz]
    have e3 : IntKind.i64.wrap (IntKind.i64.wrap (rp * 7) + 3) = rp * 7 + 3 := by rw [i64_wrap (n := rp * 7) (by omega) (by omega)]; exact i64_wrap (by omega) (by omega)
    rw [e3]
    have m3 : 0 ≤ (rp * 7 + 3).tmod rb.length := Int.tmod_nonneg _ (by omega)
    have m4 : (rp * 7 + 3).tmod rb.length < rb.length := Int.tmod_lt_of_pos _ hL
    rw [cnd_t (by simp; omega), cnd_f hlz, cnd_f hnz]
    have d1 : 0 ≤ rp.tdiv rb.length := Int.tdiv_nonneg h0 (by omega)
    have d2 : rp.tdiv rb.length ≤ rp := Int.tdiv_le_self _ h0
    have v1 := hb.eli (rp.tmod rb.length).toNat
    have v2 := hb.eli ((rp * 7 + 3).tmod rb.length).toNat
    generalize rp.tdiv rb.length = d at d1 d2
    generalize D.eli rb (rp.tmod rb.length).toNat = b1 at v1
    generalize D.eli rb ((rp * 7 + 3).tmod rb.length).toNat = b2 at v2
    have key : ∀ x : Int, 0 ≤ x → x < 9223372036854775808 → 0 ≤ bits .xor .i64 x (IntKind.i64.wrap (x.tdiv 64)) := fun x hx0 hx1 => by
      have a1 : 0 ≤ x.tdiv 64 := Int.tdiv_nonneg hx0 (by decide)
      have a2 : x.tdiv 64 ≤ x := Int.tdiv_le_self _ hx0
      rw [i64_wrap (by omega) (by omega)]
      exact xor_pos ⟨hx0, hx1⟩ ⟨a1, by omega⟩
    refine ⟨_, rfl, fin _ (key _ ?_ ?_)⟩ <;> simp (disch := omega) only [i64_wrap] <;> omega
theorem cnd_case {α : Type} {P : α → Prop} {b : Bool} {x y : α} (h1 : b = true → P x) (h2 : b = false → P y) : P (bif b then x else y) := by
  cases b with
  | true => exact h1 rfl
  | false => exact h2 rfl
theorem S.l20Net_p8 {α : Type} (P : α → Prop) {x1 x5 x7 x8 x9 rp : Int} {rb r : List Int} {next : Int × (List Int) × Int × (List Int) → α} {out : (List Int) × Int × (List Int) → α} {fail : α}
    (hb : Bytes rb) (hl : rb.length ≤ 2000) (h0 : 0 ≤ rp) (h1 : rp ≤ 1099511627000) (h9 : 0 ≤ x9) (h8 : x8 < r.length) (hr : r.length ≤ 1048576)
    (hleaf : x9 < x8 → ∀ rp' r', rp < rp' → rp' ≤ rp + 2 → r'.length = r.length → P (next (x9 + 1, rb, rp', r')))
    (hout : ¬ x9 < x8 → P (out (rb, rp, r))) : P (S.l20Net_step8 x1 x5 x7 x8 x9 rb rp r next out fail) := by
  unfold S.l20Net_step8
  refine cnd_case (P := P) (fun h => ?_) (fun h => hout (by simpa using h))
  have hlt : x9 < x8 := by simpa using h
  obtain ⟨v, hv, _, _⟩ := S.l20Rd_pick_is (n := 3) hb hl h0 (by omega)
  obtain ⟨v', hv', _, _⟩ := S.l20Rd_pick_is (n := 3) (rp := rp + 1) hb hl (by omega) (by omega)
  rw [hv]
  simp only [optC]
  rw [hv']
  simp only [optC]
  rw [i64_wrap (n := x9 + 1) (by omega) (by omega)]
  repeat' first
    | exact hleaf hlt _ _ (by omega) (by omega) (by simp)
    | rw [cnd_t (by simp; omega)]
    | rw [cnd_f (by simp; omega)]
    | refine cnd_case (P := P) (fun _ => ?_) (fun _ => ?_)
theorem S.l20Net_q8 {x1 x5 x7 x8 rp : Int} {rb r : List Int} (hb : Bytes rb) (hl : rb.length ≤ 2000) (h0 : 0 ≤ rp) (h1 : rp ≤ 1099511620000) (hx : 0 ≤ x8) (h8 : x8 < r.length) (h6 : x8 ≤ 100) (hr : r.length ≤ 1048576) :
    ∃ d, S.l20Net_run8 x1 x5 x7 x8 FUEL (0, rb, rp, r) = some d ∧ d.1 = rb ∧ rp ≤ d.2.1 ∧ d.2.1 ≤ rp + 2 * x8 ∧ d.2.2.length = r.length := by
  refine run_post (run := S.l20Net_run8 x1 x5 x7 x8) (fun s => s.2.1 = rb ∧ 0 ≤ s.1 ∧ s.1 ≤ x8 ∧ rp ≤ s.2.2.1 ∧ s.2.2.1 ≤ rp + 2 * s.1 ∧ s.2.2.2.length = r.length) (fun s => (x8 - s.1).toNat) (fun d => d.1 = rb ∧ rp ≤ d.2.1 ∧ d.2.1 ≤ rp + 2 * x8 ∧ d.2.2.length = r.length) ?_ ?_ ?_
  · rintro n ⟨x9, rb', rp', r'⟩ ⟨i0, i1, i2, i3, i4, i5⟩
    simp only at i0 i1 i2 i3 i4 i5
    subst i0
    refine S.l20Net_p8 (x1 := x1) (x5 := x5) (x7 := x7) (x8 := x8) (x9 := x9) (rp := rp') (rb := rb') (r := r') (next := S.l20Net_run8 x1 x5 x7 x8 n) (out := fun d => some d) (fail := none) (fun t => (∃ d, t = some d ∧ (d.1 = rb' ∧ rp ≤ d.2.1 ∧ d.2.1 ≤ rp + 2 * x8 ∧ d.2.2.length = r.length)) ∨ ∃ s', t = S.l20Net_run8 x1 x5 x7 x8 n s' ∧ (s'.2.1 = rb' ∧ 0 ≤ s'.1 ∧ s'.1 ≤ x8 ∧ rp ≤ s'.2.2.1 ∧ s'.2.2.1 ≤ rp + 2 * s'.1 ∧ s'.2.2.2.length = r.length) ∧ (x8 - s'.1).toNat < (x8 - x9).toNat) hb hl (by omega) (by omega) i1 (by omega) (by omega) (fun hlt rp2 r2 a1 a2 a3 => .inr ⟨_, rfl, ⟨rfl, ?_, ?_, ?_, ?_, ?_⟩, ?_⟩) (fun hge => .inl ⟨_, rfl, rfl, ?_, ?_, ?_⟩) <;> simp only <;> omega
  · exact ⟨rfl, by simp only; omega, by simp only; omega, by simp only; omega, by simp only; omega, rfl⟩
  · simp only; omega
theorem S.l20Net_q5 {x1 x5 x7 rp : Int} {rb r : List Int} (hb : Bytes rb) (hl : rb.length ≤ 2000) (h0 : 0 ≤ rp) (h1 : rp ≤ 1099511600000) (hx : 0 ≤ x5) (h5 : x5 = r.length) (h6 : x5 ≤ 6) :
    ∃ d, S.l20Net_run5 x1 x5 x7 FUEL (0, rb, rp, r) = some d ∧ d.1 = rb ∧ rp ≤ d.2.1 ∧ d.2.1 ≤ rp + 100 ∧ d.2.2.length = r.length := by
  refine run_post (run := S.l20Net_run5 x1 x5 x7) (fun s => s.2.1 = rb ∧ 0 ≤ s.1 ∧ s.1 ≤ x5 ∧ rp ≤ s.2.2.1 ∧ s.2.2.1 ≤ rp + 12 * s.1 ∧ s.2.2.2.length = r.length) (fun s => (x5 - s.1).toNat) (fun d => d.1 = rb ∧ rp ≤ d.2.1 ∧ d.2.1 ≤ rp + 100 ∧ d.2.2.length = r.length) ?_ ?_ ?_
  · rintro n ⟨x8, rb', rp', r'⟩ ⟨i0, i1, i2, i3, i4, i5⟩
    simp only at i0 i1 i2 i3 i4 i5
    subst i0
    simp only [S.l20Net_run5, S.l20Net_step5]
    by_cases hlt : x8 < x5
    · rw [cnd_t (by simpa using hlt)]
      obtain ⟨⟨d1, d2, d3⟩, e1, e2, e3, e4, e5⟩ := S.l20Net_q8 (x1 := x1) (x5 := x5) (x7 := x7) (x8 := x8) (r := r') hb hl (by omega : 0 ≤ rp') (by omega) i1 (by omega) (by omega) (by omega)
      simp only at e2 e3 e4 e5
      rw [e1]
      simp only [optC]
      rw [i64_wrap (n := x8 + 1) (by omega) (by omega)]
      refine .inr ⟨_, rfl, ⟨e2, ?_, ?_, ?_, ?_, ?_⟩, ?_⟩ <;> simp only <;> omega
    · rw [cnd_f (by simpa using hlt)]
      refine .inl ⟨_, rfl, rfl, ?_, ?_, ?_⟩ <;> simp only <;> omega
  · exact ⟨rfl, by simp only; omega, by simp only; omega, by simp only; omega, by simp only; omega, rfl⟩
  · simp only; omega
theorem S.l20Rd_odd_is {rb : List Int} {rp n : Int} (hb : Bytes rb) (hl : rb.length ≤ 2000) (h0 : 0 ≤ rp) (h1 : rp ≤ 1099511627776) :
    ∃ b rp', S.l20Rd_odd_t rb rp n = some (b, rb, rp') ∧ rp ≤ rp' ∧ rp' ≤ rp + 1 := by
  unfold S.l20Rd_odd_t S.l20Rd_odd_tree
  by_cases hn : n > 0
  · rw [cnd_t (by simpa using hn)]
    obtain ⟨v, hv, _, _⟩ := S.l20Rd_pick_is (n := n) hb hl h0 h1
    rw [hv]
    exact ⟨_, rp + 1, rfl, by omega, by omega⟩
  · rw [cnd_f (by simpa using hn)]
    exact ⟨_, rp, rfl, by omega, by omega⟩
theorem S.l20Net_is {rb : List Int} {rp n : Int} (hb : Bytes rb) (hl : rb.length ≤ 2000) (h0 : 0 ≤ rp) (h1 : rp ≤ 1000000) :
    ∃ rp' net, S.l20Net_t rb rp n = some (rb, rp', net) ∧ rp ≤ rp' ∧ rp' ≤ rp + 200 ∧ net.length ≤ 6 := by
  unfold S.l20Net_t
  have gen : ∀ {α : Type} (P : α → Prop) (leaf : (List Int) × Int × (List Int) → α) (fail : α), (∀ rp' net, rp ≤ rp' → rp' ≤ rp + 200 → net.length ≤ 6 → P (leaf (rb, rp', net))) → P (S.l20Net_tree rb rp n leaf fail) := by
    intro α P leaf fail hleaf
    unfold S.l20Net_tree
    obtain ⟨v1, e1, a1, a2⟩ := S.l20Rd_pick_is (n := 6) hb hl h0 (by omega)
    have a2' := a2 (by decide)
    rw [e1]
    simp only [optC]
    rw [i64_wrap (n := 1 + v1) (by omega) (by omega)]
    rw [cnd_t (by simp [small]; omega)]
    obtain ⟨v2, e2, _, _⟩ := S.l20Rd_pick_is (n := 4) (rp := rp + 1) hb hl (by omega) (by omega)
    rw [e2]
    simp only
    obtain ⟨⟨d1, d2, d3⟩, e3, f1, f2, f3, f4⟩ := S.l20Net_q5 (x1 := n) (x5 := 1 + v1) (x7 := v2) (rp := rp + 1 + 1) (r := List.replicate (1 + v1).toNat 0) hb hl (by omega) (by omega) (by omega) (by simp; omega) (by omega)
    simp only at f1 f2 f3 f4
    subst f1
    rw [e3]
    simp only [List.length_replicate] at f4 ⊢
    obtain ⟨b, rp4, e4, g1, g2⟩ := S.l20Rd_odd_is (n := n) (rp := d2) hb hl (by omega) (by omega)
    rw [e4]
    simp only
    obtain ⟨v5, e5, _, _⟩ := S.l20Rd_pick_is (n := 3) (rp := rp4) hb hl (by omega) (by omega)
    rw [e5]
    simp only
    have e6 : IntKind.i64.wrap (1 + v1 - 1) = v1 := by rw [i64_wrap (by omega) (by omega)]; omega
    rw [e6]
    repeat' first
      | exact hleaf _ _ (by omega) (by omega) (by (try simp only [List.length_set, List.length_nil]); omega)
      | rw [cnd_t (by simp; omega)]
      | rw [cnd_f (by simp; omega)]
      | refine cnd_case (P := P) (fun _ => ?_) (fun _ => ?_)
  exact gen (fun t => ∃ rp' net, t = some (rb, rp', net) ∧ rp ≤ rp' ∧ rp' ≤ rp + 200 ∧ net.length ≤ 6) (fun d => some d) none (fun rp' net a b c => ⟨rp', net, rfl, a, b, c⟩)
theorem S.l20Open_is {code : List Int} (hb : Bytes code) : ∃ rb, S.l20Open_t code = some (rb, 0) ∧ Bytes rb ∧ rb.length ≤ 2000 := by
  unfold S.l20Open_t S.l20Open_tree
  by_cases h : (code.length : Int) > 2000
  · rw [cnd_t (by simpa using h), cnd_t (by simp; omega)]
    refine ⟨_, rfl, fun n hn => hb n ?_, ?_⟩
    · exact List.mem_of_mem_drop (List.mem_of_mem_take hn)
    · rw [List.length_take]; exact Nat.min_le_left _ _
  · rw [cnd_f (by simpa using h)]
    exact ⟨_, rfl, hb, by omega⟩
end Go.Proofs.Ytpmiinabjkdggaa
/- What the draws give: nets of at most six places, sets and places within bounds. Conditions: those of each theorem. -/
namespace Go.Proofs.Ytpmiinabjkdggaa
open D Go.RowKit
set_option linter.unusedVariables false
set_option linter.unusedSimpArgs false


theorem I.NetOk_12 : I.NetOk_t [2, 1] = some true := by rw [I.NetOk_is]; decide +kernel
theorem I.NetOk_1 : I.NetOk_t [1] = some false := by rw [I.NetOk_is]; decide +kernel
theorem L.alive_is : L.alive_t = some true := by
  unfold L.alive_t L.alive_tree
  rw [I.NetOk_12, I.NetOk_1]
  rfl
theorem tdiv_small {v a : Int} (h0 : 0 ≤ v) (h1 : v ≤ a) : v.tdiv a = 0 ∨ v.tdiv a = 1 := by
  have ha : 0 ≤ a := by omega
  rw [Int.tdiv_eq_ediv_of_nonneg h0]
  rcases Int.lt_or_eq_of_le h1 with h | h
  · exact .inl (Int.ediv_eq_zero_of_lt h0 h)
  · subst h
    by_cases hz : v = 0
    · subst hz; exact .inl rfl
    · exact .inr (Int.ediv_self hz)
theorem pow_le_64i {n : Nat} (h : n ≤ 6) : ((2 ^ n : Nat) : Int) ≤ 64 := by have := pow_le_64 h; omega
theorem len_shl {net : List Int} (h : net.length ≤ 6) : IntKind.i64.wrap (1 * 2 ^ min (↑net.length : Int).toNat IntKind.i64.bits) = ((2 ^ net.length : Nat) : Int) := one_shl (by omega)
theorem S.l20Set_is {rb : List Int} {rp n : Int} (hb : Bytes rb) (hl : rb.length ≤ 2000) (h0 : 0 ≤ rp) (h1 : rp ≤ 1000000) :
    ∃ rp' net v, S.l20Set_t rb rp n = some (v, rb, rp', net) ∧ rp ≤ rp' ∧ rp' ≤ rp + 300 ∧ net.length ≤ 6 ∧ 0 ≤ v ∧ v < 128 := by
  unfold S.l20Set_t S.l20Set_tree
  obtain ⟨rp1, net, e1, a1, a2, a3⟩ := S.l20Net_is (n := n) hb hl h0 h1
  rw [e1]
  simp only [optC]
  rw [len_shl a3]
  have hp := pow_le_64i a3
  obtain ⟨v, e2, b1, b2⟩ := S.l20Rd_pick_is (rp := rp1) (n := ((2 ^ net.length : Nat) : Int)) hb hl (by omega) (by omega)
  have b2' := b2 (by have : 0 < 2 ^ net.length := Nat.two_pow_pos _; omega)
  rw [e2]
  simp only
  obtain ⟨u, e3, c1, c2⟩ := S.l20Rd_pick_is (rp := rp1 + 1) (n := 40) hb hl (by omega) (by omega)
  have c2' := c2 (by decide)
  rw [e3]
  simp only
  rcases tdiv_small (v := u) (a := 39) c1 (by omega) with h | h
  · rw [h]
    refine ⟨_, _, _, rfl, by omega, by omega, a3, ?_⟩
    rw [i64_wrap (n := 0) (by decide) (by decide), i64_wrap (n := 0 * 64) (by decide) (by decide), i64_wrap (by omega) (by omega)]
    omega
  · rw [h]
    refine ⟨_, _, _, rfl, by omega, by omega, a3, ?_⟩
    rw [i64_wrap (n := 1) (by decide) (by decide), i64_wrap (n := 1 * 64) (by decide) (by decide), i64_wrap (by omega) (by omega)]
    omega
/-! ### The draws of the laws -/
end Go.Proofs.Ytpmiinabjkdggaa
/- Draws that use watches; lists of all numbers of a kind. Conditions: those of each theorem. -/
namespace Go.Proofs.Ytpmiinabjkdggaa
open D Go.RowKit
set_option linter.unusedVariables false
set_option linter.unusedSimpArgs false


theorem listOfN_succ (N : Nat) (p : Nat → Bool) : listOfN (N + 1) p = if p N = true then listOfN N p ++ [(N : Int)] else listOfN N p := by unfold listOfN; rw [fold_succ]
theorem listOfN_mem (N : Nat) (p : Nat → Bool) (x : Int) : x ∈ listOfN N p ↔ ∃ s : Nat, s < N ∧ p s = true ∧ x = s := by
  induction N with
  | zero => simp [listOfN, fold_zero]
  | succ N ih =>
    rw [listOfN_succ]
    split
    · rename_i hp
      rw [List.mem_append, ih, List.mem_singleton]
      constructor
      · rintro (⟨s, a, b, c⟩ | rfl)
        · exact ⟨s, by omega, b, c⟩
        · exact ⟨N, by omega, hp, rfl⟩
      · rintro ⟨s, a, b, c⟩
        by_cases hs : s = N
        · subst hs; exact .inr c
        · exact .inl ⟨s, by omega, b, c⟩
    · rename_i hp
      rw [ih]
      constructor
      · rintro ⟨s, a, b, c⟩; exact ⟨s, by omega, b, c⟩
      · rintro ⟨s, a, b, c⟩
        by_cases hs : s = N
        · subst hs; exact absurd b hp
        · exact ⟨s, by omega, b, c⟩
theorem eli_mem {l : List Int} {k : Nat} (hk : k < l.length) : D.eli l k ∈ l := by
  unfold D.eli
  simp [List.getD, hk]
theorem mem_eli {l : List Int} {x : Int} (h : x ∈ l) : ∃ k, k < l.length ∧ D.eli l k = x := by
  obtain ⟨k, hk, he⟩ := List.getElem_of_mem h
  exact ⟨k, hk, by unfold D.eli; simp [List.getD, hk, he]⟩
theorem listOfN_eli {N : Nat} {p : Nat → Bool} {k : Nat} (hk : k < (listOfN N p).length) : ∃ s : Nat, s < N ∧ p s = true ∧ D.eli (listOfN N p) k = s := (listOfN_mem N p _).1 (eli_mem hk)
theorem eli_append {l r : List Int} {k : Nat} : D.eli (l ++ r) k = if k < l.length then D.eli l k else D.eli r (k - l.length) := by
  unfold D.eli
  by_cases h : k < l.length
  · simp [List.getD, List.getElem?_append_left h, h]
  · simp [List.getD, List.getElem?_append_right (by omega : l.length ≤ k), h]
theorem listOfN_asc {N : Nat} {p : Nat → Bool} {j k : Nat} (hjk : j < k) (hk : k < (listOfN N p).length) : D.eli (listOfN N p) j < D.eli (listOfN N p) k := by
  induction N with
  | zero => simp [listOfN, fold_zero] at hk
  | succ N ih =>
    rw [listOfN_succ] at hk ⊢
    split at hk
    · rename_i hp
      rw [if_pos hp, eli_append, eli_append]
      rw [List.length_append, List.length_singleton] at hk
      by_cases hkl : k < (listOfN N p).length
      · rw [if_pos hkl, if_pos (by omega)]; exact ih hkl
      · rw [if_neg hkl, if_pos (by omega)]
        obtain ⟨s, hs, _, he⟩ := listOfN_eli (N := N) (p := p) (k := j) (by omega)
        rw [he, show k - (listOfN N p).length = 0 by omega]
        show (s : Int) < (N : Int)
        omega
    · rename_i hp
      rw [if_neg hp]; exact ih hk
theorem leasts_pos {net : List Int} (h : Ok net) : 0 < (listOfN (2 ^ net.length) (least net)).length := by
  obtain ⟨t, ht, _, hl, _⟩ := least_in h 6 (allOf net) (size_le _) (allOf_lt net) (W_all h)
  exact List.length_pos_of_mem ((listOfN_mem _ _ (t : Int)).2 ⟨t, ht, hl, rfl⟩)
end Go.Proofs.Ytpmiinabjkdggaa
/- Draws of chapters 3 to 5. Conditions: those of each theorem. -/
namespace Go.Proofs.Ytpmiinabjkdggaa
open D Go.RowKit
set_option linter.unusedVariables false
set_option linter.unusedSimpArgs false


end Go.Proofs.Ytpmiinabjkdggaa
/- The model's functions of chapter 6 in natural numbers, and draws. Conditions: those of each theorem. -/
namespace Go.Proofs.Ytpmiinabjkdggaa
open D Go.RowKit
set_option linter.unusedVariables false
set_option linter.unusedSimpArgs false


theorem fold_shift {α : Type} (N : Nat) (f : α → Nat → α) (a : α) : fold (N + 1) f a = fold N (fun t k => f t (k + 1)) (f a 0) := by
  induction N with
  | zero => rfl
  | succ N ih => rw [fold_succ, ih, fold_succ]
/-- The least size of sets of a kind; -1 if there is none. -/
def minStep (p : Nat → Bool) (t : Int) (s : Nat) : Int := if p s = true then (if t < 0 then ((size s : Nat) : Int) else if ((size s : Nat) : Int) < t then ((size s : Nat) : Int) else t) else t
def minI (net : List Int) (p : Nat → Bool) : Int := fold (2 ^ net.length) (minStep p) (-1)
theorem minI_fold (p : Nat → Bool) (N : Nat) : (fold N (minStep p) (-1) = -1 ∧ ∀ s, s < N → p s = false) ∨ ∃ m : Nat, fold N (minStep p) (-1) = m ∧ (∃ s, s < N ∧ p s = true ∧ size s = m) ∧ ∀ s, s < N → p s = true → m ≤ size s := by
  induction N with
  | zero => exact .inl ⟨rfl, fun s hs => by omega⟩
  | succ N ih =>
    rw [fold_succ]
    generalize fold N (minStep p) (-1) = g at ih ⊢
    unfold minStep
    cases hp : p N with
    | false =>
      simp only [Bool.false_eq_true, if_false]
      rcases ih with ⟨a, b⟩ | ⟨m, a, ⟨s, s1, s2⟩, c⟩
      · exact .inl ⟨a, fun s hs => by
          by_cases he : s = N
          · rw [he]; exact hp
          · exact b s (by omega)⟩
      · exact .inr ⟨m, a, ⟨s, by omega, s2⟩, fun s hs hps => by
          by_cases he : s = N
          · rw [he, hp] at hps; cases hps
          · exact c s (by omega) hps⟩
    | true =>
      simp only [if_true]
      right
      rcases ih with ⟨a, b⟩ | ⟨m, a, ⟨s, s1, s2, s3⟩, c⟩
      · rw [a, if_pos (by decide)]
        exact ⟨_, rfl, ⟨N, by omega, hp, rfl⟩, fun s hs hps => by
          by_cases he : s = N
          · rw [he]; exact Nat.le_refl _
          · rw [b s (by omega)] at hps; cases hps⟩
      · rw [a, if_neg (by omega)]
        by_cases hlt : ((size N : Nat) : Int) < (m : Int)
        · rw [if_pos hlt]
          exact ⟨_, rfl, ⟨N, by omega, hp, rfl⟩, fun s hs hps => by
            by_cases he : s = N
            · rw [he]; exact Nat.le_refl _
            · have := c s (by omega) hps; omega⟩
        · rw [if_neg hlt]
          exact ⟨m, rfl, ⟨s, by omega, s2, s3⟩, fun q hq hpq => by
            by_cases he : q = N
            · rw [he]; omega
            · exact c q (by omega) hpq⟩
theorem minI_is (net : List Int) (p : Nat → Bool) : (minI net p = -1 ∧ ∀ s, s < 2 ^ net.length → p s = false) ∨ ∃ m : Nat, minI net p = m ∧ MinOf net p m := by
  rcases minI_fold p (2 ^ net.length) with h | ⟨m, a, b, c⟩
  · exact .inl h
  · exact .inr ⟨m, a, b, c⟩
theorem minStep_bound {p : Nat → Bool} {t : Int} {s : Nat} (ht : -1 ≤ t ∧ t ≤ 6) : -1 ≤ minStep p t s ∧ minStep p t s ≤ 6 := by
  have := size_le s
  unfold minStep
  split
  · split
    · omega
    · split <;> omega
  · exact ht
theorem S.l6Total_n {net : List Int} (h : Ok net) (s : Nat) : S.l6Total_t net s = some (total net s) := by
  unfold S.l6Total_t S.l6Total_tree
  rw [S.l1Near_n h]
  simp only [optC]
  rw [all_shl h, nat_beq]
  rfl
theorem S.TotalOk_x {net : List Int} (e : S.NetOk_t net = some false) (s : Int) : S.TotalOk_t net s = some false := by
  unfold S.TotalOk_t S.TotalOk_tree; rw [S.l1SetOk_x e]; rfl
theorem S.TotalOk_n {net : List Int} (h : Ok net) (e : S.NetOk_t net = some true) (s : Int) : S.TotalOk_t net s = some (decide (0 ≤ s ∧ s < 2 ^ net.length) && total net s.toNat) := by
  unfold S.TotalOk_t S.TotalOk_tree
  rw [S.l1SetOk_n h e]
  simp only [optC]
  rcases set_cases h s with ⟨t, rfl, ht, hd⟩ | hd
  · rw [hd, cond_true, S.l6Total_n h]; rfl
  · rw [hd]; rfl
theorem S.FewestTotal_x {net : List Int} (e : S.NetOk_t net = some false) : S.FewestTotal_t net = some (-1) := by
  unfold S.FewestTotal_t S.FewestTotal_tree; rw [e]; rfl
theorem S.FewestTotal_y {net : List Int} (h : Ok net) (e : S.NetOk_t net = some true) : S.FewestTotal_t net = some (minI net (total net)) := by
  unfold S.FewestTotal_t S.FewestTotal_tree
  have h64 := h.pow
  rw [e]
  have := (run_for (run := S.FewestTotal_run5 net) (len := 2 ^ net.length) (fun k (t : Int) => (t, (k : Int))) (minStep (total net)) (fun t => t) (fun k t => -1 ≤ t ∧ t ≤ 6) (by omega) (fun n k t hk ht => ?_) (fun n t ht => ?_) (t0 := -1) (by omega)).1
  · exact congrArg (fun o => optC o (fun q => some q) none) this
  · refine ⟨?_, minStep_bound ht⟩
    simp only [S.FewestTotal_run5, S.FewestTotal_step5]
    rw [pow_shl h, cnd_t (by rw [decide_eq_true_eq]; omega), S.l6Total_n h]
    simp only [optC]
    unfold minStep
    rw [add1_nat (by omega), S.l1Size_n (by omega)]
    simp only
    cases hw : total net k with
    | false => simp
    | true =>
      simp only [cond_true, if_true]
      by_cases h0 : t < 0
      · rw [cnd_t (by simpa using h0), if_pos h0]
      · rw [cnd_f (by simpa using h0), if_neg h0]
        by_cases h1 : ((size k : Nat) : Int) < t
        · rw [cnd_t (by simpa using h1), if_pos h1]
        · rw [cnd_f (by simpa using h1), if_neg h1]
  · simp only [S.FewestTotal_run5, S.FewestTotal_step5]
    rw [pow_shl h, cnd_f (by rw [decide_eq_false_iff_not]; omega)]
theorem S.l6First_n {s : Nat} (hs : s < 64) (hne : s ≠ 0) : ∃ i : Nat, S.l6First_t s = some (i : Int) ∧ s.testBit i = true := by
  unfold S.l6First_t S.l6First_tree
  obtain ⟨j, hj⟩ := pos_iff.1 hne
  have hj6 := in6 hs hj
  have := run_post (run := S.l6First_run2 s) (fun x => ∃ k : Nat, x = k ∧ k ≤ j) (fun x => j + 1 - x.toNat) (fun d => ∃ i : Nat, d = i ∧ s.testBit i = true) (fun n x => ?_) (s := (0 : Int)) ⟨0, rfl, by omega⟩ (by simp; omega)
  · obtain ⟨d, e, i, rfl, hi⟩ := this
    rw [e]
    exact ⟨i, rfl, hi⟩
  · rintro ⟨k, rfl, hk⟩
    simp only [S.l6First_run2, S.l6First_step2]
    rw [cnd_f (by simp), bit_shr _ _ (by omega), bool_eq0]
    cases hb : s.testBit k with
    | true => exact .inl ⟨_, rfl, k, rfl, hb⟩
    | false =>
      right
      have hkj : k ≠ j := fun he => by rw [he, hj] at hb; cases hb
      rw [Bool.not_false, cond_true, add1_nat (by omega)]
      exact ⟨_, rfl, ⟨k + 1, rfl, by omega⟩, by simp only [Int.toNat_natCast]; omega⟩
/-- Does a set stand together? -/
noncomputable def together (net : List Int) (s : Nat) : Bool := @decide (Together net s) (Classical.propDecidable _)
theorem together_iff {net : List Int} {s : Nat} : together net s = true ↔ Together net s := by unfold together; exact @decide_eq_true_iff _ (Classical.propDecidable _)
theorem S.l6Joined_n {net : List Int} (h : Ok net) {s : Nat} (hs : s < 2 ^ net.length) : S.l6Joined_t net s = some (together net s) := by
  unfold S.l6Joined_t S.l6Joined_tree
  by_cases h0 : s = 0
  · subst h0
    have : together net 0 = false := not_true fun hc => (together_iff.1 hc).1 rfl
    rw [this, cnd_f (by decide)]
  · obtain ⟨i, hi, hb⟩ := S.l6First_n (lt64 h hs) h0
    rw [cnd_t (by rw [decide_eq_true_eq]; omega), hi]
    simp only [optC]
    rw [S.l1Part_n h hs (in_lt hs hb)]
    simp only
    rw [nat_beq]
    congr 1
    rw [Bool.eq_iff_iff, beq_iff_eq, together_iff, together_part h hs hb]
theorem S.TogetherOk_x {net : List Int} (e : S.NetOk_t net = some false) (s : Int) : S.TogetherOk_t net s = some false := by
  unfold S.TogetherOk_t S.TogetherOk_tree; rw [S.l1SetOk_x e]; rfl
theorem S.TogetherOk_n {net : List Int} (h : Ok net) (e : S.NetOk_t net = some true) (s : Int) : S.TogetherOk_t net s = some (decide (0 ≤ s ∧ s < 2 ^ net.length) && together net s.toNat) := by
  unfold S.TogetherOk_t S.TogetherOk_tree
  rw [S.l1SetOk_n h e]
  simp only [optC]
  rcases set_cases h s with ⟨t, rfl, ht, hd⟩ | hd
  · rw [hd, cond_true, S.l6Joined_n h ht]; rfl
  · rw [hd]; rfl
noncomputable def joined (net : List Int) (s : Nat) : Bool := together net s && W net s
theorem S.JoinedWatchOk_x {net : List Int} (e : S.NetOk_t net = some false) (s : Int) : S.JoinedWatchOk_t net s = some false := by
  unfold S.JoinedWatchOk_t S.JoinedWatchOk_tree; rw [S.TogetherOk_x e]; rfl
theorem S.JoinedWatchOk_n {net : List Int} (h : Ok net) (e : S.NetOk_t net = some true) (s : Int) : S.JoinedWatchOk_t net s = some (decide (0 ≤ s ∧ s < 2 ^ net.length) && joined net s.toNat) := by
  unfold S.JoinedWatchOk_t S.JoinedWatchOk_tree
  rw [S.TogetherOk_n h e]
  simp only [optC]
  rcases set_cases h s with ⟨t, rfl, ht, hd⟩ | hd
  · rw [hd, Int.toNat_natCast, Bool.true_and, Bool.true_and, S.l2Watch_n h ht]
    unfold joined
    cases together net t <;> rfl
  · rw [hd]; rfl
theorem S.FewestJoined_x {net : List Int} (e : S.NetOk_t net = some false) : S.FewestJoined_t net = some (-1) := by
  unfold S.FewestJoined_t S.FewestJoined_tree; rw [e]; rfl
theorem joined_zero (net : List Int) : joined net 0 = false := by
  have : together net 0 = false := not_true fun hc => (together_iff.1 hc).1 rfl
  unfold joined; rw [this]; rfl
theorem S.FewestJoined_y {net : List Int} (h : Ok net) (e : S.NetOk_t net = some true) : S.FewestJoined_t net = some (minI net (joined net)) := by
  unfold S.FewestJoined_t S.FewestJoined_tree
  have h64 := h.pow
  have hpos : 0 < 2 ^ net.length := Nat.two_pow_pos _
  rw [e]
  have hm : minI net (joined net) = fold (2 ^ net.length - 1) (fun t k => minStep (joined net) t (k + 1)) (-1) := by
    unfold minI
    rw [show 2 ^ net.length = (2 ^ net.length - 1) + 1 by omega, fold_shift]
    have : minStep (joined net) (-1) 0 = -1 := by unfold minStep; rw [joined_zero]; rfl
    rw [this]; simp
  have := (run_for (run := S.FewestJoined_run5 net) (len := 2 ^ net.length - 1) (fun k (t : Int) => (t, ((k + 1 : Nat) : Int))) (fun t k => minStep (joined net) t (k + 1)) (fun t => t) (fun k t => -1 ≤ t ∧ t ≤ 6) (by omega) (fun n k t hk ht => ?_) (fun n t ht => ?_) (t0 := -1) (by omega)).1
  · rw [hm]
    exact congrArg (fun o => optC o (fun q => some q) none) this
  · refine ⟨?_, minStep_bound ht⟩
    simp only [S.FewestJoined_run5, S.FewestJoined_step5]
    rw [pow_shl h, cnd_t (by rw [decide_eq_true_eq]; omega), S.JoinedWatchOk_n h e, set_in (by omega), Int.toNat_natCast, Bool.true_and]
    simp only [optC]
    unfold minStep
    rw [add1_nat (by omega), S.l1Size_n (by omega)]
    simp only
    cases hw : joined net (k + 1) with
    | false => simp
    | true =>
      simp only [cond_true, if_true]
      by_cases h0 : t < 0
      · rw [cnd_t (by simpa using h0), if_pos h0]
      · rw [cnd_f (by simpa using h0), if_neg h0]
        by_cases h1 : ((size (k + 1) : Nat) : Int) < t
        · rw [cnd_t (by simpa using h1), if_pos h1]
        · rw [cnd_f (by simpa using h1), if_neg h1]
  · simp only [S.FewestJoined_run5, S.FewestJoined_step5]
    rw [pow_shl h, cnd_f (by rw [decide_eq_false_iff_not]; omega)]
theorem S.l20Joined_is {rb : List Int} {rp n : Int} (hb : Bytes rb) (hl : rb.length ≤ 2000) (h0 : 0 ≤ rp) (h1 : rp ≤ 900000) :
    ∃ rp' net v, S.l20Joined_t rb rp n = some (v, rb, rp', net) ∧ rp ≤ rp' ∧ rp' ≤ rp + 400 ∧ net.length ≤ 6 ∧ 0 ≤ v ∧ v < 128 := by
  unfold S.l20Joined_t S.l20Joined_tree
  obtain ⟨rp1, net, v, e1, a1, a2, a3, a4, a5⟩ := S.l20Set_is (n := n) hb hl h0 (by omega)
  rw [e1]
  simp only [optC]
  rcases NetOk_cases net with ⟨h, g1, g2⟩ | ⟨_, g1, g2⟩
  · rw [g2]
    simp only [cond_true]
    have h64 := h.pow
    have hlo := h.lo
    obtain ⟨u, e2, b1, b2⟩ := S.l20Rd_pick_is (rp := rp1) (n := 3) hb hl (by omega) (by omega)
    rw [e2]
    simp only
    by_cases hu : u > 0
    · rw [cnd_t (by simpa using hu)]
      obtain ⟨w, e3, c1, c2⟩ := S.l20Rd_pick_is (rp := rp1 + 1) (n := (net.length : Int)) hb hl (by omega) (by omega)
      have c3 := c2 (by omega)
      rw [e3]
      simp only
      obtain ⟨w, rfl⟩ : ∃ w' : Nat, w = w' := ⟨w.toNat, by omega⟩
      have hpw : 2 ^ w < 2 ^ net.length := Nat.pow_lt_pow_right (by omega) (by omega)
      rw [cnd_f (by simp), one_shl (by omega)]
      have := run_post (run := S.l20Joined_run5) (fun s => ∃ (t k : Nat) (rq : Int), s = ((t : Int), (k : Int), rb, rq, net) ∧ t < 2 ^ net.length ∧ k ≤ 6 ∧ rp1 ≤ rq ∧ rq ≤ rp1 + 2 + 2 * k) (fun s => 6 - s.2.1.toNat)
        (fun d => ∃ (t : Nat) (rq : Int), d = ((t : Int), rb, rq, net) ∧ t < 2 ^ net.length ∧ rp1 ≤ rq ∧ rq ≤ rp1 + 14) (fun f s => ?_) (s := (((2 ^ w : Nat) : Int), 0, rb, rp1 + 1 + 1, net)) ⟨2 ^ w, 0, rp1 + 1 + 1, rfl, hpw, by omega, by omega, by omega⟩ (by simp)
      · obtain ⟨d, e4, t, rq, rfl, d1, d2, d3⟩ := this
        rw [e4]
        exact ⟨_, _, _, rfl, by simp only; omega, by simp only; omega, a3, by simp only; omega, by simp only; omega⟩
      · rintro ⟨t, k, rq, rfl, i1, i2, i3, i4⟩
        simp only [S.l20Joined_run5, S.l20Joined_step5]
        by_cases hlt : k < 6
        · right
          obtain ⟨y, e4, y1, y2⟩ := S.l20Rd_pick_is (rp := rq) (n := (net.length : Int)) hb hl (by omega) (by omega)
          have y3 := y2 (by omega)
          obtain ⟨y, rfl⟩ : ∃ y' : Nat, y = y' := ⟨y.toNat, by omega⟩
          have hpy : 2 ^ y < 2 ^ net.length := Nat.pow_lt_pow_right (by omega) (by omega)
          rw [cnd_t (by simp; omega), e4]
          simp only [optC]
          rw [cnd_t (by simp; omega), cnd_t (by simp; omega), add1_nat (by omega)]
          by_cases hx : bits .and .i64 (D.eli net (y : Int).toNat) (t : Int) > 0
          · rw [cnd_t (by simpa using hx)]
            obtain ⟨z, e5, z1, z2⟩ := S.l20Rd_pick_is (rp := rq + 1) (n := 3) hb hl (by omega) (by omega)
            rw [e5]
            simp only
            by_cases hz : z > 0
            · rw [cnd_t (by simpa using hz), cnd_f (by simp), one_shl (by omega), i64_or_nat _ _ (by omega) (by omega)]
              exact ⟨_, rfl, ⟨_, k + 1, _, rfl, Nat.or_lt_two_pow i1 hpy, by omega, by omega, by omega⟩, by simp only [Int.toNat_natCast]; omega⟩
            · rw [cnd_f (by simpa using hz)]
              exact ⟨_, rfl, ⟨_, k + 1, _, rfl, i1, by omega, by omega, by omega⟩, by simp only [Int.toNat_natCast]; omega⟩
          · rw [cnd_f (by simpa using hx)]
            exact ⟨_, rfl, ⟨_, k + 1, _, rfl, i1, by omega, by omega, by omega⟩, by simp only [Int.toNat_natCast]; omega⟩
        · left
          rw [cnd_f (by simp; omega)]
          exact ⟨_, rfl, t, rq, rfl, i1, by omega, by omega⟩
    · rw [cnd_f (by simpa using hu)]
      exact ⟨_, _, _, rfl, by omega, by omega, a3, a4, a5⟩
  · rw [g2]
    simp only [cond_false]
    exact ⟨_, _, _, rfl, by omega, by omega, a3, a4, a5⟩
theorem S.DrawFewestTotal_is {code : List Int} (hb : Bytes code) : ∃ net, S.DrawFewestTotal_t code = some net ∧ net.length ≤ 6 := by
  unfold S.DrawFewestTotal_t S.DrawFewestTotal_tree
  obtain ⟨rb, e1, h1, h2⟩ := S.l20Open_is hb
  rw [e1]
  simp only [optC]
  obtain ⟨rp', net, e2, _, _, h3⟩ := S.l20Net_is (n := 9) h1 h2 (Int.le_refl 0) (by decide)
  rw [e2]
  exact ⟨_, rfl, h3⟩
theorem S.DrawFewestJoined_is {code : List Int} (hb : Bytes code) : ∃ net, S.DrawFewestJoined_t code = some net ∧ net.length ≤ 6 := by
  unfold S.DrawFewestJoined_t S.DrawFewestJoined_tree
  obtain ⟨rb, e1, h1, h2⟩ := S.l20Open_is hb
  rw [e1]
  simp only [optC]
  obtain ⟨rp', net, e2, _, _, h3⟩ := S.l20Net_is (n := 9) h1 h2 (Int.le_refl 0) (by decide)
  rw [e2]
  exact ⟨_, rfl, h3⟩
theorem S.DrawTogetherOk_is {code : List Int} (hb : Bytes code) : ∃ (v : Nat) (net : List Int), S.DrawTogetherOk_t code = some ((v : Int), net) ∧ net.length ≤ 6 ∧ v < 128 := by
  unfold S.DrawTogetherOk_t S.DrawTogetherOk_tree
  obtain ⟨rb, e1, h1, h2⟩ := S.l20Open_is hb
  rw [e1]
  simp only [optC]
  obtain ⟨rp', net, v, e2, _, _, h3, h4, h5⟩ := S.l20Joined_is (n := 12) h1 h2 (Int.le_refl 0) (by decide)
  rw [e2]
  obtain ⟨w, rfl⟩ : ∃ w : Nat, v = w := ⟨v.toNat, by omega⟩
  exact ⟨_, _, rfl, h3, by omega⟩
theorem S.DrawJoinedWatchOk_is {code : List Int} (hb : Bytes code) : ∃ (v : Nat) (net : List Int), S.DrawJoinedWatchOk_t code = some ((v : Int), net) ∧ net.length ≤ 6 ∧ v < 128 := by
  unfold S.DrawJoinedWatchOk_t S.DrawJoinedWatchOk_tree
  obtain ⟨rb, e1, h1, h2⟩ := S.l20Open_is hb
  rw [e1]
  simp only [optC]
  obtain ⟨rp', net, v, e2, _, _, h3, h4, h5⟩ := S.l20Joined_is (n := 12) h1 h2 (Int.le_refl 0) (by decide)
  rw [e2]
  obtain ⟨w, rfl⟩ : ∃ w : Nat, v = w := ⟨v.toNat, by omega⟩
  exact ⟨_, _, rfl, h3, by omega⟩
end Go.Proofs.Ytpmiinabjkdggaa
/- The laws of chapter 2: WatchOk, LeastWatchOk, FewestWatch, WatchOf. Conditions: those of each theorem. -/
namespace Go.Proofs.Ytpmiinabjkdggaa
open D Go.RowKit
set_option linter.unusedVariables false
set_option linter.unusedSimpArgs false


theorem and_not_zero {p s : Nat} (hp : p < 64) (hs : s < 64) : (((minus p s : Nat) : Int) == 0) = true ↔ ∀ j, p.testBit j = true → s.testBit j = true := by
  rw [show (((minus p s : Nat) : Int) == 0) = (minus p s == 0) from nat_beq _ 0, beq_iff_eq]
  constructor
  · intro he j hj
    have : (minus p s).testBit j = false := by rw [he, Nat.zero_testBit]
    rw [minus_testBit _ _ (by omega) (by omega), hj] at this
    simpa using this
  · intro ha
    apply Nat.eq_of_testBit_eq
    intro j
    rw [Nat.zero_testBit, minus_testBit _ _ (by omega) (by omega)]
    cases hb : p.testBit j with
    | false => rfl
    | true => rw [ha j hb]; rfl
theorem lone_zero {net : List Int} : ((lone net : Nat) : Int) = 0 ↔ ∀ k, k < net.length → nb net k ≠ 0 := by
  constructor
  · intro he k hk hz
    have h0 : lone net = 0 := by omega
    have := (lone_testBit net k).2 ⟨hk, hz⟩
    rw [h0, Nat.zero_testBit] at this; cases this
  · intro ha
    have : lone net = 0 := Nat.eq_of_testBit_eq fun j => by
      rw [Nat.zero_testBit]
      cases hb : (lone net).testBit j with
      | false => rfl
      | true =>
        obtain ⟨a, b⟩ := (lone_testBit net j).1 hb
        exact absurd b (ha j a)
    rw [this]; rfl
/-- The greatest of all. -/
theorem maxFold {n : Nat} {f : Nat → Nat} (k : Nat) (hk : k < n) : f k ≤ fold n (fun t k => if f k > t then f k else t) 0 := by
  induction n with
  | zero => omega
  | succ n ih =>
    rw [fold_succ]
    by_cases hkn : k = n
    · subst hkn; split <;> omega
    · have := ih (by omega)
      split <;> omega
theorem few_size {net : List Int} (h : Ok net) : ∃ s, s < 2 ^ net.length ∧ W net s = true ∧ size s = fewest net := (fewest_few h).ex
end Go.Proofs.Ytpmiinabjkdggaa
/- Other ways to the sets and numbers of chapters 3 to 5. Conditions: those of each theorem. -/
namespace Go.Proofs.Ytpmiinabjkdggaa
set_option linter.unusedVariables false
set_option linter.unusedSimpArgs false

theorem minus_twice {net : List Int} (h : Ok net) {s g : Nat} (hs : s < 2 ^ net.length) (hg : s.testBit g = true) : minus (ball net g) (twice net s) = priv net s g := by
  have h6 := h.hi
  have h64 := h.pow
  have hb := h.ball_lt (in_lt hs hg)
  have ht := twice_is h hs
  have htl := ht.lt
  refine Nat.eq_of_testBit_eq fun j => ?_
  rw [Bool.eq_iff_iff, minus_testBit _ _ (by omega) (by omega), Bool.and_eq_true, Bool.not_eq_true', priv_testBit h hs hg]
  constructor
  · rintro ⟨a, b⟩
    refine ⟨a, fun i hi hb2 => Classical.byContradiction fun hne => ?_⟩
    rw [(ht.bit j).2 ⟨i, g, hi, hg, hne, hb2, a⟩] at b; cases b
  · rintro ⟨a, b⟩
    refine ⟨a, not_true fun hc => ?_⟩
    obtain ⟨x, y, hx, hy, hxy, hbx, hby⟩ := (ht.bit j).1 hc
    exact hxy ((b x hx hbx).trans (b y hy hby).symm)
theorem fullA_watch {net : List Int} (h : Ok net) {s : Nat} (hs : s < 2 ^ net.length) : fullA net s = (apart net s && W net s) := by
  rw [Bool.eq_iff_iff, fullA_iff h hs, Bool.and_eq_true, apart_iff hs]
theorem fold_near (net : List Int) (s : Nat) : fold net.length (fun t k => if s.testBit k = true then t ||| nb net k else t) 0 = near net s := rfl
/-- One step of growing, told by the set with the place. -/
theorem grownStep_apart {net : List Int} (h : Ok net) {t k : Nat} (ht : t < 2 ^ net.length) (hk : k < net.length) (ha : Apart net t) : (if apart net (t ||| 2 ^ k) = true then t ||| 2 ^ k else t) = grownStep net t k := by
  unfold grownStep
  cases hb : t.testBit k with
  | true =>
    have e : t ||| 2 ^ k = t := Nat.eq_of_testBit_eq fun j => by
      rw [Bool.eq_iff_iff, or_testBit]
      exact ⟨fun a => a.elim id fun b => by rw [b]; exact hb, .inl⟩
    rw [e]; simp
  | false =>
    rw [Bool.not_false, Bool.true_and]
    congr 1
    rw [eq_iff_iff, beq_iff_eq, and_zero, apart_iff (or_lt ht hk)]
    constructor
    · intro hA i hi
      exact hA k i ((or_testBit _ _ _).2 (.inr rfl)) ((or_testBit _ _ _).2 (.inl hi))
    · exact fun hn => ha.add h ht hk hn
theorem grownStep_keeps {net : List Int} (h : Ok net) {t k : Nat} (ht : t < 2 ^ net.length) (hk : k < net.length) (ha : Apart net t) : Apart net (grownStep net t k) := by
  rw [← grownStep_apart h ht hk ha]
  split
  · rename_i hc; exact (apart_iff (or_lt ht hk)).1 hc
  · exact ha
def minStepN (p : Nat → Bool) (t s : Nat) : Nat := if p s = true then (if size s < t then size s else t) else t
def maxStepN (p : Nat → Bool) (t s : Nat) : Nat := if p s = true then (if size s > t then size s else t) else t
theorem minSize_fold (net : List Int) (p : Nat → Bool) : fold (2 ^ net.length) (minStepN p) net.length = minSize net p := rfl
theorem maxSize_fold (net : List Int) (p : Nat → Bool) : fold (2 ^ net.length) (maxStepN p) 0 = maxSize net p := rfl
theorem minStepN_lt {p : Nat → Bool} {t s : Nat} (hl : size s < t) : minStepN p t s = if p s = true then size s else t := by unfold minStepN; rw [if_pos hl]
theorem minStepN_ge {p : Nat → Bool} {t s : Nat} (hl : ¬ size s < t) : minStepN p t s = t := by unfold minStepN; rw [if_neg hl, ite_self]
theorem maxStepN_lt {p : Nat → Bool} {t s : Nat} (hl : size s > t) : maxStepN p t s = if p s = true then size s else t := by unfold maxStepN; rw [if_pos hl]
theorem maxStepN_ge {p : Nat → Bool} {t s : Nat} (hl : ¬ size s > t) : maxStepN p t s = t := by unfold maxStepN; rw [if_neg hl, ite_self]
theorem minStepN_le {p : Nat → Bool} {t s : Nat} (ht : t ≤ 6) : minStepN p t s ≤ 6 := by
  have := size_le s
  unfold minStepN; split
  · split <;> omega
  · exact ht
theorem maxStepN_le {p : Nat → Bool} {t s : Nat} (ht : t ≤ 6) : maxStepN p t s ≤ 6 := by
  have := size_le s
  unfold maxStepN; split
  · split <;> omega
  · exact ht
/-- Folds side by side. -/
theorem fold_pair {A B : Type} (f : A → Nat → A) (g : B → Nat → B) (n : Nat) (a : A) (b : B) : fold n (fun (q : A × B) k => (f q.1 k, g q.2 k)) (a, b) = (fold n f a, fold n g b) := by
  induction n with
  | zero => rfl
  | succ n ih => rw [fold_succ, fold_succ, fold_succ, ih]
end Go.Proofs.Ytpmiinabjkdggaa
/- The program's functions of chapters 3 and 4 in natural numbers. Conditions: those of each theorem. -/
namespace Go.Proofs.Ytpmiinabjkdggaa
open D Go.RowKit
set_option linter.unusedVariables false
set_option linter.unusedSimpArgs false


theorem twice_lt {net : List Int} (h : Ok net) {s : Nat} (hs : s < 2 ^ net.length) : twice net s < 2 ^ net.length := (twice_is h hs).lt
theorem I.nextTo_n {net : List Int} (h : Ok net) {s : Nat} (hs : s < 2 ^ net.length) : I.nextTo_t net s = some ((near net s : Nat) : Int) := by
  unfold I.nextTo_t I.nextTo_tree
  have h6 := h.hi
  have h64 := h.pow
  have := (run_for (run := I.nextTo_run3 net s) (len := net.length) (fun k (t : Nat) => ((t : Int), (k : Int))) (fun t k => if s.testBit k = true then t ||| nb net k else t) (fun t => (t : Int)) (fun k t => t < 2 ^ net.length) (by omega) (fun n k t hk ht => ?_) (fun n t ht => ?_) (t0 := 0) (Nat.two_pow_pos _)).1
  · rw [fold_near] at this
    exact congrArg (fun o => optC o (fun q => some q) none) this
  · have hb := h.lt k hk
    simp only [I.nextTo_run3, I.nextTo_step3]
    rw [cnd_t (by simp; omega), I.hasPlace_n _ _ (by omega)]
    simp only [optC]
    cases hbit : s.testBit k with
    | true =>
      rw [cond_true, cnd_t (by simp; omega), if_pos rfl, Int.toNat_natCast, h.eli hk, i64_or_nat _ _ (by omega) (by omega), add1_nat (by omega)]
      exact ⟨rfl, Nat.or_lt_two_pow ht hb⟩
    | false =>
      rw [cond_false, if_neg (by simp), add1_nat (by omega)]
      exact ⟨rfl, ht⟩
  · simp only [I.nextTo_run3, I.nextTo_step3]
    rw [cnd_f (by simp)]
end Go.Proofs.Ytpmiinabjkdggaa
/- Laws of chapter 3, and of chapter 4 over sets. Conditions: those of each theorem. -/
namespace Go.Proofs.Ytpmiinabjkdggaa
open D Go.RowKit
set_option linter.unusedVariables false
set_option linter.unusedSimpArgs false


theorem set_lt {net : List Int} {s : Nat} (h : decide (0 ≤ (s : Int) ∧ (s : Int) < 2 ^ net.length) = true) : s < 2 ^ net.length := by
  have := dec_true h
  rw [two_pow_cast] at this; omega
theorem minus_key : ∀ a, a < 64 → ∀ b, b < 64 → (minus b a = 0) → minus a b = a - b ∧ b ≤ a := by decide +kernel
/-- Without the guard the set sees just less by its private places. -/
theorem seen_less {net : List Int} (h : Ok net) {s g : Nat} (hs : s < 2 ^ net.length) (hg : s.testBit g = true) : seen net (s - 2 ^ g) = seen net s - priv net s g ∧ priv net s g ≤ seen net s := by
  have h6 := h.hi
  have hgl := in_lt hs hg
  have h64 := h.pow
  have hp := priv_lt h hs hgl
  have hsl := h.seen_lt hs
  have hsl2 := h.seen_lt (sub_lt (k := g) hs)
  have hsub : ∀ j, (priv net s g).testBit j = true → (seen net s).testBit j = true := fun j hj => (seen_balls h hs).2 ⟨g, hgl, hg, ((priv_testBit h hs hg j).1 hj).1⟩
  obtain ⟨k1, k2⟩ := minus_key (seen net s) (by omega) (priv net s g) (by omega) (by
    refine zero_iff.2 fun j => ?_
    rw [minus_testBit _ _ (by omega) (by omega)]
    cases hb : (priv net s g).testBit j with
    | false => rfl
    | true => rw [hsub j hb]; rfl)
  refine ⟨?_, k2⟩
  rw [← k1]
  apply Nat.eq_of_testBit_eq
  intro j
  rw [minus_testBit _ _ (by omega) (by omega), Bool.eq_iff_iff, Bool.and_eq_true, Bool.not_eq_true', seen_balls h (sub_lt hs), seen_balls h hs]
  constructor
  · rintro ⟨k, hk, a, b⟩
    rw [sub_testBit (by omega) (by omega) hg, Bool.and_eq_true] at a
    refine ⟨⟨k, hk, a.1, b⟩, not_true fun hc => ?_⟩
    have := ((priv_testBit h hs hg j).1 hc).2 k a.1 b
    rw [this] at a; simp at a
  · rintro ⟨⟨k, hk, a, b⟩, c⟩
    by_cases hkg : k = g
    · -- another guard sees it, too
      refine Classical.byContradiction fun hno => ?_
      rw [(priv_testBit h hs hg j).2 ⟨by rw [← hkg]; exact b, fun i hi hb => Classical.byContradiction fun hne => hno ⟨i, in_lt hs hi, by rw [sub_testBit (by omega) (by omega) hg, hi]; simp [hne], hb⟩⟩] at c
      cases c
    · exact ⟨k, hk, by rw [sub_testBit (by omega) (by omega) hg, a]; simp [hkg], b⟩
theorem privs_twice {net : List Int} (h : Ok net) {s : Nat} (hs : s < 2 ^ net.length) {p : Nat} (hp : ∀ j, p.testBit j = true ↔ ∃ g, g < net.length ∧ s.testBit g = true ∧ (priv net s g).testBit j = true) : p &&& twice net s = 0 ∧ p ||| twice net s = seen net s := by
  have hT := twice_is h hs
  have key : ∀ j, p.testBit j = true → ∀ a, s.testBit a = true → ∀ b, s.testBit b = true → (ball net a).testBit j = true → (ball net b).testBit j = true → a = b := fun j hj a ha b hb h1 h2 => by
    obtain ⟨g, _, hg, hgp⟩ := (hp j).1 hj
    have hx := ((priv_testBit h hs hg j).1 hgp).2
    rw [hx a ha h1, hx b hb h2]
  constructor
  · refine and_zero.2 fun j hj => not_true fun hc => ?_
    obtain ⟨a, b, ha, hb, hne, h1, h2⟩ := (hT.bit j).1 hj
    exact hne (key j hc a ha b hb h1 h2)
  · apply Nat.eq_of_testBit_eq
    intro j
    rw [Nat.testBit_or, Bool.eq_iff_iff, Bool.or_eq_true, hp, hT.bit, seen_balls h hs]
    constructor
    · rintro (⟨g, hgl, hg, hx⟩ | ⟨a, b, ha, hb, _, h1, _⟩)
      · exact ⟨g, hgl, hg, ((priv_testBit h hs hg j).1 hx).1⟩
      · exact ⟨a, in_lt hs ha, ha, h1⟩
    · rintro ⟨k, hk, hks, hkb⟩
      by_cases hx : ∃ b, s.testBit b = true ∧ b ≠ k ∧ (ball net b).testBit j = true
      · obtain ⟨b, hb, hne, hbb⟩ := hx
        exact .inr ⟨k, b, hks, hb, Ne.symm hne, hkb, hbb⟩
      · exact .inl ⟨k, hk, hks, (priv_testBit h hs hks j).2 ⟨hkb, fun i hi hib => Classical.byContradiction fun hne => hx ⟨i, hi, hne, hib⟩⟩⟩
end Go.Proofs.Ytpmiinabjkdggaa
/- The program's functions of chapter 4 over nets, and of chapter 5, in natural numbers. Conditions: those of each theorem. -/
namespace Go.Proofs.Ytpmiinabjkdggaa
open D Go.RowKit
set_option linter.unusedVariables false
set_option linter.unusedSimpArgs false


/-- One of two numbers, by a test and then a call. -/
def sel {α : Type} (a : Bool) (o : Option Bool) (x y : Int) (k : Int → Option α) : Option α := bif a then optC o (fun c => bif c then k x else k y) none else k y
theorem sel_is {α : Type} (a p : Bool) (x y : Int) (k : Int → Option α) : sel a (some p) x y k = k (bif a && p then x else y) := by cases a <;> cases p <;> rfl
theorem sel_min (p : Nat → Bool) (t s : Nat) : (bif decide (((size s : Nat) : Int) < (t : Int)) && p s then ((size s : Nat) : Int) else (t : Int)) = ((minStepN p t s : Nat) : Int) := by
  unfold minStepN
  by_cases h : size s < t
  · rw [decide_eq_true (by omega), Bool.true_and]
    cases p s with
    | true => rw [if_pos rfl, if_pos h]; rfl
    | false => rw [if_neg (by simp)]; rfl
  · rw [decide_eq_false (by omega), Bool.false_and]
    cases p s with
    | true => rw [if_pos rfl, if_neg h]; rfl
    | false => rw [if_neg (by simp)]; rfl
theorem sel_max (p : Nat → Bool) (t s : Nat) : (bif decide (((size s : Nat) : Int) > (t : Int)) && p s then ((size s : Nat) : Int) else (t : Int)) = ((maxStepN p t s : Nat) : Int) := by
  unfold maxStepN
  by_cases h : size s > t
  · rw [decide_eq_true (by omega), Bool.true_and]
    cases p s with
    | true => rw [if_pos rfl, if_pos h]; rfl
    | false => rw [if_neg (by simp)]; rfl
  · rw [decide_eq_false (by omega), Bool.false_and]
    cases p s with
    | true => rw [if_pos rfl, if_neg h]; rfl
    | false => rw [if_neg (by simp)]; rfl
def ch6 (net : List Int) (q : Nat × Nat × Nat × Nat × Nat × Nat) (s : Nat) : Nat × Nat × Nat × Nat × Nat × Nat :=
  (minStepN (fullN net) q.1 s, minStepN (W net) q.2.1 s, minStepN (fullA net) q.2.2.1 s, maxStepN (apart net) q.2.2.2.1 s, maxStepN (least net) q.2.2.2.2.1 s, maxStepN (needs net) q.2.2.2.2.2 s)
theorem fold_ch6 (net : List Int) (n a b c d e f : Nat) : fold n (ch6 net) (a, b, c, d, e, f) = (fold n (minStepN (fullN net)) a, fold n (minStepN (W net)) b, fold n (minStepN (fullA net)) c, fold n (maxStepN (apart net)) d, fold n (maxStepN (least net)) e, fold n (maxStepN (needs net)) f) := by
  induction n with
  | zero => rfl
  | succ n ih => simp only [fold_succ, ih]; rfl
end Go.Proofs.Ytpmiinabjkdggaa
/- Laws of chapter 5, and of chapter 4 over a net. Conditions: those of each theorem. -/
namespace Go.Proofs.Ytpmiinabjkdggaa
open D Go.RowKit
set_option linter.unusedVariables false
set_option linter.unusedSimpArgs false


theorem mins {net : List Int} (h : Ok net) : MinOf net (fullN net) (minSize net (fullN net)) ∧ MinOf net (W net) (fewest net) ∧ MinOf net (fullA net) (minSize net (fullA net)) ∧ MaxOf net (apart net) (maxSize net (apart net)) ∧ MaxOf net (least net) (maxSize net (least net)) ∧ MaxOf net (needs net) (maxSize net (needs net)) :=
  ⟨minSize_is h (ex_fullN h), few_min.1 (fewest_few h), minSize_is h (ex_fullA h), maxSize_is (ex_apart net), maxSize_is (ex_least h), maxSize_is (ex_needs h)⟩
theorem maxSize_le {net : List Int} (h : Ok net) {p : Nat → Bool} {m : Nat} (hm : MaxOf net p m) : m ≤ net.length := by
  obtain ⟨s, a, _, c⟩ := hm.ex
  have := size_le_len h a; omega
theorem minSize_le {net : List Int} (h : Ok net) {p : Nat → Bool} {m : Nat} (hm : MinOf net p m) : m ≤ net.length := by
  obtain ⟨s, a, _, c⟩ := hm.ex
  have := size_le_len h a; omega
theorem minFold2 {n c : Nat} {f : Nat → Nat} : (∀ k, k < n → fold n (fun t k => if f k < t then f k else t) c ≤ f k) ∧ fold n (fun t k => if f k < t then f k else t) c ≤ c := by
  induction n with
  | zero => exact ⟨fun k hk => by omega, Nat.le_refl _⟩
  | succ n ih =>
    rw [fold_succ]
    obtain ⟨a, b⟩ := ih
    refine ⟨fun k hk => ?_, by split <;> omega⟩
    by_cases hkn : k = n
    · rw [hkn]; split <;> omega
    · have := a k (by omega)
      split <;> omega
/-- The net in which all are neighbours. -/
def whole (n : Nat) : List Int := fold n (fun l k => l ++ [((2 ^ n - 1 - 2 ^ k : Nat) : Int)]) []
theorem I.NetOk_whole {n : Nat} (h1 : 1 ≤ n) (h6 : n ≤ 6) : I.NetOk_t (whole n) = some true := by
  rw [I.NetOk_is]
  have hn : n = 1 ∨ n = 2 ∨ n = 3 ∨ n = 4 ∨ n = 5 ∨ n = 6 := by omega
  rcases hn with rfl | rfl | rfl | rfl | rfl | rfl <;> decide +kernel
theorem even_whole {n : Nat} (h1 : 1 ≤ n) (h6 : n ≤ 6) : (fewest (whole n) == maxSize (whole n) (least (whole n))) = true := by
  have hn : n = 1 ∨ n = 2 ∨ n = 3 ∨ n = 4 ∨ n = 5 ∨ n = 6 := by omega
  rcases hn with rfl | rfl | rfl | rfl | rfl | rfl <;> decide +kernel
theorem even_none {n : Nat} (h1 : 1 ≤ n) (h6 : n ≤ 6) : (fewest (List.replicate n 0) == maxSize (List.replicate n 0) (least (List.replicate n 0))) = true := by
  have hn : n = 1 ∨ n = 2 ∨ n = 3 ∨ n = 4 ∨ n = 5 ∨ n = 6 := by omega
  rcases hn with rfl | rfl | rfl | rfl | rfl | rfl <;> decide +kernel
theorem I.NetOk_none {n : Nat} (h1 : 1 ≤ n) (h6 : n ≤ 6) : I.NetOk_t (List.replicate n 0) = some true := by
  rw [I.NetOk_is]
  have hn : n = 1 ∨ n = 2 ∨ n = 3 ∨ n = 4 ∨ n = 5 ∨ n = 6 := by omega
  rcases hn with rfl | rfl | rfl | rfl | rfl | rfl <;> decide +kernel
theorem ok_of {net : List Int} (e : I.NetOk_t net = some true) : Ok net := by
  rcases NetOk_cases net with ⟨h, _⟩ | ⟨_, e1, _⟩
  · exact h
  · rw [e] at e1; cases e1
end Go.Proofs.Ytpmiinabjkdggaa
/- The model's functions of chapter 7 in natural numbers. Conditions: those of each theorem. -/
namespace Go.Proofs.Ytpmiinabjkdggaa
open D Go.RowKit
set_option linter.unusedVariables false
set_option linter.unusedSimpArgs false


/-- The number at a place of a row. -/
def rv (row : List Int) (k : Nat) : Nat := (D.eli row k).toNat
def rowB (n : Nat) (row : List Int) : Bool := decide (row.length = n) && (List.range row.length).all fun k => decide (0 ≤ D.eli row k ∧ D.eli row k ≤ 2)
structure RowIs (n : Nat) (row : List Int) : Prop where
  len : row.length = n
  eq : ∀ k, k < n → D.eli row k = (rv row k : Int)
  le : ∀ k, k < n → rv row k ≤ 2
theorem rowB_iff {n : Nat} {row : List Int} : rowB n row = true ↔ RowIs n row := by
  unfold rowB
  rw [Bool.and_eq_true, decide_eq_true_eq, List.all_eq_true]
  simp only [List.mem_range, decide_eq_true_eq]
  constructor
  · rintro ⟨a, b⟩
    refine ⟨a, fun k hk => ?_, fun k hk => ?_⟩
    · have := b k (by omega); show _ = ((D.eli row k).toNat : Int); omega
    · have := b k (by omega); show (D.eli row k).toNat ≤ 2; omega
  · intro h
    refine ⟨h.len, fun k hk => ?_⟩
    have h1 := h.eq k (by rw [← h.len]; exact hk)
    have h2 := h.le k (by rw [← h.len]; exact hk)
    omega
theorem help_le {net : List Int} {r : Nat → Nat} (hb : ∀ k, k < net.length → r k ≤ 2) (k m : Nat) (hm : m ≤ net.length) : sumN m (fun j => ((nb net k).testBit j).toNat * r j) ≤ 2 * m := by
  have := sumN_le (n := m) (f := fun j => ((nb net k).testBit j).toNat * r j) (g := fun _ => 2) (fun j hj => by
    have := hb j (by omega)
    cases (nb net k).testBit j <;> simp <;> omega)
  rw [sumN_const] at this; omega
def romanB (net row : List Int) : Bool := (List.range net.length).all fun k => !(rv row k == 0 && (nb net k &&& withN net.length (rv row) 2) == 0)
def italianB (net row : List Int) : Bool := (List.range net.length).all fun k => !(rv row k == 0 && decide (help net (rv row) k < 2))
theorem romanB_iff {net row : List Int} : romanB net row = true ↔ RomanP net (rv row) := by
  unfold romanB
  rw [List.all_eq_true]
  simp only [List.mem_range, Bool.not_eq_true', Bool.and_eq_false_imp, beq_iff_eq]
  constructor
  · intro ha k hk h0
    have h1 := ha k hk h0
    have hne : (nb net k &&& withN net.length (rv row) 2) ≠ 0 := fun he => by rw [he] at h1; cases h1
    obtain ⟨j, hj⟩ := pos_iff.1 hne
    rw [Nat.testBit_and, Bool.and_eq_true, withN_testBit] at hj
    exact ⟨j, hj.2.1, hj.1, hj.2.2⟩
  · intro ha k hk h0
    obtain ⟨j, hj, a, b⟩ := ha k hk h0
    have : (nb net k &&& withN net.length (rv row) 2) ≠ 0 := pos_iff.2 ⟨j, by rw [Nat.testBit_and, a, (withN_testBit _ _ _ _).2 ⟨hj, b⟩]; rfl⟩
    simpa using this
theorem italianB_iff {net row : List Int} : italianB net row = true ↔ ItalianP net (rv row) := by
  unfold italianB
  rw [List.all_eq_true]
  simp only [List.mem_range, Bool.not_eq_true', Bool.and_eq_false_imp, beq_iff_eq, decide_eq_false_iff_not]
  constructor
  · intro ha k hk h0; have := ha k hk h0; omega
  · intro ha k hk h0; have := ha k hk h0; omega
/-- The row of the digits of a number. -/
def digs (n m : Nat) : List Int := (List.range n).map fun k => ((dig n m k : Nat) : Int)
theorem digs_len (n m : Nat) : (digs n m).length = n := by simp [digs]
theorem digs_eli {n m k : Nat} (hk : k < n) : D.eli (digs n m) k = ((dig n m k : Nat) : Int) := by unfold D.eli digs; simp [List.getD, hk]
theorem digs_row (n m : Nat) : RowIs n (digs n m) := by
  refine ⟨digs_len n m, fun k hk => ?_, fun k hk => ?_⟩
  · show _ = ((D.eli (digs n m) k).toNat : Int); rw [digs_eli hk]; omega
  · show (D.eli (digs n m) k).toNat ≤ 2; rw [digs_eli hk]; have := dig_lt n m k; omega
theorem digs_rv {n m k : Nat} (hk : k < n) : rv (digs n m) k = dig n m k := by show (D.eli (digs n m) k).toNat = _; rw [digs_eli hk]; omega
theorem pow3_le {n : Nat} (hn : n ≤ 6) : 3 ^ n ≤ 729 := by
  have : (3 : Nat) ^ n ≤ 3 ^ 6 := Nat.pow_le_pow_right (by omega) hn
  omega
/-- The first least row of a kind, and the least sum. -/
def rowStep (n : Nat) (p : List Int → Bool) (best : List Int) (m : Nat) : List Int := if p (digs n m) = true ∧ (best.length = 0 ∨ sumN n (rv (digs n m)) < sumN n (rv best)) then digs n m else best
def bestRow (n : Nat) (p : List Int → Bool) : List Int := fold (3 ^ n) (rowStep n p) []
theorem bestRow_fold {n : Nat} (h1 : 1 ≤ n) (p : List Int → Bool) (N : Nat) : (fold N (rowStep n p) [] = [] ∧ ∀ m, m < N → p (digs n m) = false) ∨
    ∃ b, b < N ∧ fold N (rowStep n p) [] = digs n b ∧ p (digs n b) = true ∧ (∀ m, m < N → p (digs n m) = true → sumN n (rv (digs n b)) ≤ sumN n (rv (digs n m))) ∧ ∀ m, m < b → p (digs n m) = true → sumN n (rv (digs n b)) < sumN n (rv (digs n m)) := by
  induction N with
  | zero => exact .inl ⟨rfl, fun m hm => by omega⟩
  | succ N ih =>
    rw [fold_succ]
    generalize fold N (rowStep n p) [] = g at ih ⊢
    unfold rowStep
    cases hp : p (digs n N) with
    | false =>
      rw [if_neg (fun hc => by cases hc.1)]
      rcases ih with ⟨a, b⟩ | ⟨b, b1, b2, b3, b4, b5⟩
      · exact .inl ⟨a, fun m hm => by
          by_cases he : m = N
          · rw [he]; exact hp
          · exact b m (by omega)⟩
      · exact .inr ⟨b, by omega, b2, b3, fun m hm hpm => by
          by_cases he : m = N
          · rw [he, hp] at hpm; cases hpm
          · exact b4 m (by omega) hpm, b5⟩
    | true =>
      right
      rcases ih with ⟨a, b⟩ | ⟨b, b1, b2, b3, b4, b5⟩
      · rw [a, if_pos ⟨rfl, .inl rfl⟩]
        refine ⟨N, by omega, rfl, hp, fun m hm hpm => ?_, fun m hm hpm => ?_⟩
        · by_cases he : m = N
          · rw [he]; exact Nat.le_refl _
          · rw [b m (by omega)] at hpm; cases hpm
        · rw [b m hm] at hpm; cases hpm
      · by_cases hlt : sumN n (rv (digs n N)) < sumN n (rv (digs n b))
        · rw [b2, if_pos ⟨rfl, .inr hlt⟩]
          refine ⟨N, by omega, rfl, hp, fun m hm hpm => ?_, fun m hm hpm => ?_⟩
          · by_cases he : m = N
            · rw [he]; exact Nat.le_refl _
            · have := b4 m (by omega) hpm; omega
          · have := b4 m hm hpm; omega
        · rw [b2, if_neg (fun hc => by
            rcases hc.2 with hx | hx
            · rw [digs_len] at hx; omega
            · exact hlt hx)]
          refine ⟨b, by omega, rfl, b3, fun m hm hpm => ?_, b5⟩
          by_cases he : m = N
          · rw [he]; omega
          · exact b4 m (by omega) hpm
theorem ones_digs {n : Nat} : ∃ m, m < 3 ^ n ∧ ∀ k, k < n → dig n m k = 1 := dig_all (r := fun _ => 1) (fun k _ => by omega)
theorem roman_congr {net : List Int} {r q : Nat → Nat} (h : ∀ k, k < net.length → r k = q k) (hr : RomanP net r) : RomanP net q := fun k hk h0 => by
  obtain ⟨j, hj, a, b⟩ := hr k hk (by rw [h k hk]; exact h0)
  exact ⟨j, hj, a, by rw [← h j hj]; exact b⟩
/-- The least Roman row. -/
structure FirstRoman (net : List Int) (b : Nat) : Prop where
  lt : b < 3 ^ net.length
  roman : RomanP net (dig net.length b)
  le : ∀ m, m < 3 ^ net.length → RomanP net (dig net.length m) → sumN net.length (dig net.length b) ≤ sumN net.length (dig net.length m)
  first : ∀ m, m < b → RomanP net (dig net.length m) → sumN net.length (dig net.length b) < sumN net.length (dig net.length m)
theorem FirstRoman.uniq {net : List Int} {a b : Nat} (ha : FirstRoman net a) (hb : FirstRoman net b) : a = b := by
  have h1 := ha.le b hb.lt hb.roman
  have h2 := hb.le a ha.lt ha.roman
  rcases Nat.lt_trichotomy a b with hl | hl | hl
  · have := hb.first a hl ha.roman; omega
  · exact hl
  · have := ha.first b hl hb.roman; omega
theorem FirstRoman.min {net : List Int} {b : Nat} (hb : FirstRoman net b) : MinRow net.length (RomanP net) (sumN net.length (dig net.length b)) := by
  refine ⟨⟨dig net.length b, fun k _ => dig_lt _ _ _, hb.roman, rfl⟩, fun r hr hR => ?_⟩
  obtain ⟨m, hm, hd⟩ := dig_all hr
  have h1 := hb.le m hm (roman_congr (fun k hk => (hd k hk).symm) hR)
  rw [sumN_congr (f := dig net.length m) hd] at h1
  exact h1
theorem bestRow_roman {net : List Int} (h : Ok net) : ∃ b, bestRow net.length (romanB net) = digs net.length b ∧ FirstRoman net b := by
  have e : ∀ m, romanB net (digs net.length m) = true ↔ RomanP net (dig net.length m) := fun m => by
    rw [romanB_iff]
    exact ⟨roman_congr fun k hk => digs_rv hk, roman_congr fun k hk => (digs_rv hk).symm⟩
  have es : ∀ m, sumN net.length (rv (digs net.length m)) = sumN net.length (dig net.length m) := fun m => sumN_congr fun k hk => digs_rv hk
  rcases bestRow_fold h.lo (romanB net) (3 ^ net.length) with ⟨_, hno⟩ | ⟨b, b1, b2, b3, b4, b5⟩
  · obtain ⟨m, hm, hd⟩ := ones_digs (n := net.length)
    have := hno m hm
    rw [(e m).2 (roman_congr (fun k hk => (hd k hk).symm) ones_row.1)] at this; cases this
  · refine ⟨b, b2, b1, (e b).1 b3, fun m hm hR => ?_, fun m hm hR => ?_⟩
    · have := b4 m hm ((e m).2 hR); rw [es, es] at this; exact this
    · have := b5 m hm ((e m).2 hR); rw [es, es] at this; exact this
def fewestRoman (net : List Int) : Nat := sumN net.length (rv (bestRow net.length (romanB net)))
theorem fewestRoman_min {net : List Int} (h : Ok net) : MinRow net.length (RomanP net) (fewestRoman net) := by
  obtain ⟨b, e, hb⟩ := bestRow_roman h
  have := hb.min
  unfold fewestRoman
  rw [e, sumN_congr (f := rv (digs net.length b)) (g := dig net.length b) (fun k hk => digs_rv hk)]
  exact this
def fewestItalian (net : List Int) : Nat := fold (3 ^ net.length) (fun t m => if italianB net (digs net.length m) = true then (if sumN net.length (rv (digs net.length m)) < t then sumN net.length (rv (digs net.length m)) else t) else t) net.length
theorem italian_congr {net : List Int} {r q : Nat → Nat} (h : ∀ k, k < net.length → r k = q k) (hr : ItalianP net r) : ItalianP net q := fun k hk h0 => by
  have := hr k hk (by rw [h k hk]; exact h0)
  unfold help at this ⊢
  rw [sumN_congr (g := fun j => ((nb net k).testBit j).toNat * q j) (fun j hj => by rw [h j hj])] at this
  exact this
theorem fewestItalian_min {net : List Int} (h : Ok net) : MinRow net.length (ItalianP net) (fewestItalian net) := by
  have e : ∀ m, italianB net (digs net.length m) = true ↔ ItalianP net (dig net.length m) := fun m => by
    rw [italianB_iff]
    exact ⟨italian_congr fun k hk => digs_rv hk, italian_congr fun k hk => (digs_rv hk).symm⟩
  have es : ∀ m, sumN net.length (rv (digs net.length m)) = sumN net.length (dig net.length m) := fun m => sumN_congr fun k hk => digs_rv hk
  obtain ⟨h1, h2, h3⟩ := minFold (N := 3 ^ net.length) (p := fun m => italianB net (digs net.length m)) (f := fun m => sumN net.length (rv (digs net.length m))) net.length
  obtain ⟨o, ho, hd⟩ := ones_digs (n := net.length)
  have hone : italianB net (digs net.length o) = true := (e o).2 (italian_congr (fun k hk => (hd k hk).symm) (roman_italian ones_row.1))
  have hos : sumN net.length (rv (digs net.length o)) = net.length := by rw [es, sumN_congr (g := fun _ => 1) hd, sumN_const]; omega
  refine ⟨?_, fun r hr hR => ?_⟩
  · have hcase : ∃ m, m < 3 ^ net.length ∧ italianB net (digs net.length m) = true ∧ sumN net.length (rv (digs net.length m)) = fewestItalian net := by
      rcases h3 with h3 | h3
      · exact ⟨o, ho, hone, by rw [hos]; exact h3.symm⟩
      · exact h3
    obtain ⟨m, hm, hp, hs⟩ := hcase
    exact ⟨dig net.length m, fun k _ => dig_lt _ _ _, (e m).1 hp, by rw [← es]; exact hs⟩
  · obtain ⟨m, hm, hd2⟩ := dig_all hr
    have := h1 m hm ((e m).2 (italian_congr (fun k hk => (hd2 k hk).symm) hR))
    rw [es, sumN_congr hd2] at this
    exact this
theorem sum_le12 {n m : Nat} (hn : n ≤ 6) : sumN n (rv (digs n m)) ≤ 12 := by
  have := sumN_le (n := n) (f := rv (digs n m)) (g := fun _ => 2) (fun k hk => (digs_row n m).le k hk)
  rw [sumN_const] at this; omega
/-- The row of a set. -/
def rowOf (net : List Int) (s : Nat) : List Int := fold net.length (fun l k => l ++ [((rowOfN net s k : Nat) : Int)]) []
def rowOfI (net : List Int) (s : Int) : List Int := if 0 ≤ s ∧ s < 2 ^ net.length then rowOf net s.toNat else []
theorem fold_app_len {n : Nat} {f : Nat → Int} : (fold n (fun l k => l ++ [f k]) []).length = n := by
  induction n with
  | zero => rfl
  | succ n ih => rw [fold_succ, List.length_append, ih]; rfl
theorem fold_app_eli {n k : Nat} {f : Nat → Int} (hk : k < n) : D.eli (fold n (fun l k => l ++ [f k]) []) k = f k := by
  induction n with
  | zero => omega
  | succ n ih =>
    rw [fold_succ, eli_append, fold_app_len]
    by_cases hkn : k < n
    · rw [if_pos hkn]; exact ih hkn
    · rw [if_neg hkn, show k - n = 0 by omega, show k = n by omega]; rfl
end Go.Proofs.Ytpmiinabjkdggaa
/- The model's functions of chapter 8 in natural numbers. Conditions: those of each theorem. -/
namespace Go.Proofs.Ytpmiinabjkdggaa
open D Go.RowKit
set_option linter.unusedVariables false
set_option linter.unusedSimpArgs false


theorem find_testT {n : Nat} {p : Nat → Bool} : find n (fun k => if p k = true then some true else none) = if ((List.range n).any p) = true then some true else none := by
  have key := find_any (n := n) (f := fun k => if p k = true then some true else none) (c := p) (fun k hk => rfl)
  cases hany : (List.range n).any p with
  | false =>
    rw [if_neg (by simp), find_none]
    intro j hj
    rw [List.any_eq_false] at hany
    exact if_neg (hany j (List.mem_range.2 hj))
  | true =>
    rw [if_pos rfl]
    rw [List.any_eq_true] at hany
    obtain ⟨k, hk, hp⟩ := hany
    have := key.2 ⟨k, List.mem_range.1 hk, hp⟩
    cases hf : find n (fun k => if p k = true then some true else none) with
    | none => rw [hf] at this; cases this
    | some b => rw [hf] at this; cases b with
      | true => rfl
      | false => cases this
/-- Can a guard come? -/
def canB (net : List Int) (s t : Nat) : Bool := (List.range net.length).any fun f => s.testBit f && ((nb net t).testBit f && W net (moved s f t))
theorem canB_iff {net : List Int} (h : Ok net) {s t : Nat} (hs : s < 2 ^ net.length) (ht : t < net.length) : canB net s t = true ↔ Can net s t := by
  unfold canB Can
  rw [List.any_eq_true]
  simp only [List.mem_range, Bool.and_eq_true]
  exact ⟨fun ⟨f, _, a, b, c⟩ => ⟨f, a, b, c⟩, fun ⟨f, a, b, c⟩ => ⟨f, in_lt hs a, a, b, c⟩⟩
def secureB (net : List Int) (s : Nat) : Bool := W net s && (List.range net.length).all fun k => !(!s.testBit k && !canB net s k)
theorem secureB_iff {net : List Int} (h : Ok net) {s : Nat} (hs : s < 2 ^ net.length) : secureB net s = true ↔ Secure net s := by
  unfold secureB Secure
  rw [Bool.and_eq_true, List.all_eq_true]
  simp only [List.mem_range]
  refine and_congr Iff.rfl ⟨fun a k hk hb => ?_, fun a k hk => ?_⟩
  · have := a k hk
    rw [hb] at this
    refine (canB_iff h hs hk).1 ?_
    cases hc : canB net s k with
    | true => rfl
    | false => rw [hc] at this; cases this
  · cases hb : s.testBit k with
    | true => rfl
    | false => rw [(canB_iff h hs hk).2 (a k hk hb)]; rfl
def fewestSecure (net : List Int) : Nat := minSize net (secureB net)
theorem fewestSecure_min {net : List Int} (h : Ok net) : MinOf net (secureB net) (fewestSecure net) := minSize_is h ⟨allOf net, allOf_lt net, (secureB_iff h (allOf_lt net)).2 (secure_all h)⟩
theorem eli_set8 {l : List Int} {k j : Nat} {v : Int} (hk : k < l.length) : D.eli (l.set k v) j = if j = k then v else D.eli l j := by
  unfold D.eli
  by_cases hj : j = k
  · subst hj; simp [List.getD, hk]
  · rw [if_neg hj]
    simp [List.getD, List.getElem?_set_ne (fun e => hj e.symm)]
theorem withN_same {n m : Nat} {r q : Nat → Nat} (h : ∀ k, k < n → r k = q k) : withN n r m = withN n q m := by
  apply Nat.eq_of_testBit_eq
  intro j
  rw [Bool.eq_iff_iff, withN_testBit, withN_testBit]
  constructor
  · rintro ⟨a, b⟩; exact ⟨a, by rw [← h j a]; exact b⟩
  · rintro ⟨a, b⟩; exact ⟨a, by rw [h j a]; exact b⟩
theorem leave_row {n : Nat} {row : List Int} (hr : RowIs n row) {f p : Nat} (hf : f < n) (hp : p < n) (h1 : 1 ≤ rv row f) :
    RowIs n ((row.set f ((rv row f : Int) - 1)).set p 1) ∧ ∀ j, j < n → rv ((row.set f ((rv row f : Int) - 1)).set p 1) j = leave (rv row) f p j := by
  have hl := hr.len
  have he : ∀ j, j < n → D.eli ((row.set f ((rv row f : Int) - 1)).set p 1) j = ((leave (rv row) f p j : Nat) : Int) := fun j hj => by
    rw [eli_set8 (by simp; omega)]
    unfold leave
    by_cases hjp : j = p
    · rw [if_pos hjp, if_pos hjp]; rfl
    · rw [if_neg hjp, if_neg hjp, eli_set8 (by omega)]
      by_cases hjf : j = f
      · rw [if_pos hjf, if_pos hjf]; omega
      · rw [if_neg hjf, if_neg hjf]; exact hr.eq j hj
  have hv : ∀ j, j < n → rv ((row.set f ((rv row f : Int) - 1)).set p 1) j = leave (rv row) f p j := fun j hj => by
    show (D.eli _ j).toNat = _
    rw [he j hj]; omega
  refine ⟨⟨by simp [hl], fun j hj => by rw [hv j hj]; exact he j hj, fun j hj => ?_⟩, hv⟩
  rw [hv j hj]
  unfold leave
  have := hr.le f hf
  have := hr.le j hj
  split
  · omega
  · split <;> omega
def leaveB (net : List Int) (r : Nat → Nat) (p : Nat) : Bool := (List.range net.length).any fun f => decide (1 ≤ r f) && ((nb net p).testBit f && W net (withN net.length (leave r f p) 1))
def weakB (net row : List Int) : Bool := (List.range net.length).all fun k => !(rv row k == 0 && !leaveB net (rv row) k)
theorem leaveB_iff {net : List Int} {r : Nat → Nat} {p : Nat} : leaveB net r p = true ↔ ∃ f, f < net.length ∧ 1 ≤ r f ∧ (nb net p).testBit f = true ∧ W net (withN net.length (leave r f p) 1) = true := by
  unfold leaveB
  rw [List.any_eq_true]
  simp only [List.mem_range, Bool.and_eq_true, decide_eq_true_eq]
theorem weakB_iff {net row : List Int} : weakB net row = true ↔ WeakP net (rv row) := by
  unfold weakB WeakP
  rw [List.all_eq_true]
  simp only [List.mem_range]
  refine ⟨fun a k hk h0 => ?_, fun a k hk => ?_⟩
  · have := a k hk
    rw [h0] at this
    refine leaveB_iff.1 ?_
    cases hc : leaveB net (rv row) k with
    | true => rfl
    | false => rw [hc] at this; cases this
  · cases h0 : rv row k == 0 with
    | false => rfl
    | true => rw [leaveB_iff.2 (a k hk (by simpa using h0))]; rfl
def fewestWeak (net : List Int) : Nat := fold (3 ^ net.length) (fun t m => if weakB net (digs net.length m) = true then (if sumN net.length (rv (digs net.length m)) < t then sumN net.length (rv (digs net.length m)) else t) else t) net.length
theorem weak_congr {net : List Int} {r q : Nat → Nat} (h : ∀ k, k < net.length → r k = q k) (hr : WeakP net r) : WeakP net q := fun k hk h0 => by
  obtain ⟨f, a, b, c, d⟩ := hr k hk (by rw [h k hk]; exact h0)
  refine ⟨f, a, by rw [← h f a]; exact b, c, ?_⟩
  rw [← withN_same (r := leave r f k) (q := leave q f k) (fun j hj => by unfold leave; rw [h f a, h j hj])]
  exact d
theorem fewestWeak_min {net : List Int} (h : Ok net) : MinRow net.length (WeakP net) (fewestWeak net) := by
  have e : ∀ m, weakB net (digs net.length m) = true ↔ WeakP net (dig net.length m) := fun m => by
    rw [weakB_iff]
    exact ⟨weak_congr fun k hk => digs_rv hk, weak_congr fun k hk => (digs_rv hk).symm⟩
  have es : ∀ m, sumN net.length (rv (digs net.length m)) = sumN net.length (dig net.length m) := fun m => sumN_congr fun k hk => digs_rv hk
  obtain ⟨h1, h2, h3⟩ := minFold (N := 3 ^ net.length) (p := fun m => weakB net (digs net.length m)) (f := fun m => sumN net.length (rv (digs net.length m))) net.length
  obtain ⟨o, ho, hd⟩ := ones_digs (n := net.length)
  have hone : weakB net (digs net.length o) = true := (e o).2 (weak_congr (fun k hk => (hd k hk).symm) (roman_weak h ones_row.1))
  have hos : sumN net.length (rv (digs net.length o)) = net.length := by rw [es, sumN_congr (g := fun _ => 1) hd, sumN_const]; omega
  refine ⟨?_, fun r hr hR => ?_⟩
  · have hcase : ∃ m, m < 3 ^ net.length ∧ weakB net (digs net.length m) = true ∧ sumN net.length (rv (digs net.length m)) = fewestWeak net := by
      rcases h3 with h3 | h3
      · exact ⟨o, ho, hone, by rw [hos]; exact h3.symm⟩
      · exact h3
    obtain ⟨m, hm, hp, hs⟩ := hcase
    exact ⟨dig net.length m, fun k _ => dig_lt _ _ _, (e m).1 hp, by rw [← es]; exact hs⟩
  · obtain ⟨m, hm, hd2⟩ := dig_all hr
    have := h1 m hm ((e m).2 (weak_congr (fun k hk => (hd2 k hk).symm) hR))
    rw [es, sumN_congr hd2] at this
    exact this
end Go.Proofs.Ytpmiinabjkdggaa
/- Plain facts about the program's own ways of chapters 6 to 9: least numbers from -1 on, the first row of the fewest guards, the least place of a set. Conditions: those of each theorem. -/
namespace Go.Proofs.Ytpmiinabjkdggaa
open D Go.RowKit
set_option linter.unusedVariables false
set_option linter.unusedSimpArgs false

theorem minI_min {net : List Int} (h : Ok net) {p : Nat → Bool} (hex : ∃ s, s < 2 ^ net.length ∧ p s = true) : minI net p = ((minSize net p : Nat) : Int) := by
  rcases minI_is net p with ⟨_, hno⟩ | ⟨m, e, hm⟩
  · obtain ⟨s, hs, hp⟩ := hex
    rw [hno s hs] at hp; cases hp
  · rw [e, hm.uniq (minSize_is h hex)]
/-- The least number of a kind; -1 if there is none. -/
def minStepV (p : Nat → Bool) (v : Nat → Nat) (t : Int) (s : Nat) : Int := if p s = true then (if t < 0 then ((v s : Nat) : Int) else if ((v s : Nat) : Int) < t then ((v s : Nat) : Int) else t) else t
theorem minStep_V (p : Nat → Bool) : minStep p = minStepV p size := rfl
theorem minStepV_bound {p : Nat → Bool} {v : Nat → Nat} {t : Int} {s b : Nat} (hv : v s ≤ b) (ht : -1 ≤ t ∧ t ≤ b) : -1 ≤ minStepV p v t s ∧ minStepV p v t s ≤ b := by
  unfold minStepV
  split
  · split
    · omega
    · split <;> omega
  · exact ht
theorem minV_fold (p : Nat → Bool) (v : Nat → Nat) (N : Nat) : (fold N (minStepV p v) (-1) = -1 ∧ ∀ s, s < N → p s = false) ∨ ∃ m : Nat, fold N (minStepV p v) (-1) = m ∧ (∃ s, s < N ∧ p s = true ∧ v s = m) ∧ ∀ s, s < N → p s = true → m ≤ v s := by
  induction N with
  | zero => exact .inl ⟨rfl, fun s hs => by omega⟩
  | succ N ih =>
    rw [fold_succ]
    generalize fold N (minStepV p v) (-1) = g at ih ⊢
    unfold minStepV
    cases hp : p N with
    | false =>
      simp only [Bool.false_eq_true, if_false]
      rcases ih with ⟨a, b⟩ | ⟨m, a, ⟨s, s1, s2⟩, c⟩
      · exact .inl ⟨a, fun s hs => by
          by_cases he : s = N
          · rw [he]; exact hp
          · exact b s (by omega)⟩
      · exact .inr ⟨m, a, ⟨s, by omega, s2⟩, fun s hs hps => by
          by_cases he : s = N
          · rw [he, hp] at hps; cases hps
          · exact c s (by omega) hps⟩
    | true =>
      simp only [if_true]
      right
      rcases ih with ⟨a, b⟩ | ⟨m, a, ⟨s, s1, s2, s3⟩, c⟩
      · rw [a, if_pos (by decide)]
        exact ⟨_, rfl, ⟨N, by omega, hp, rfl⟩, fun s hs hps => by
          by_cases he : s = N
          · rw [he]; exact Nat.le_refl _
          · rw [b s (by omega)] at hps; cases hps⟩
      · rw [a, if_neg (by omega)]
        by_cases hlt : ((v N : Nat) : Int) < (m : Int)
        · rw [if_pos hlt]
          exact ⟨_, rfl, ⟨N, by omega, hp, rfl⟩, fun s hs hps => by
            by_cases he : s = N
            · rw [he]; exact Nat.le_refl _
            · have := c s (by omega) hps; omega⟩
        · rw [if_neg hlt]
          exact ⟨m, rfl, ⟨s, by omega, s2, s3⟩, fun q hq hpq => by
            by_cases he : q = N
            · rw [he]; omega
            · exact c q (by omega) hpq⟩
theorem minV_eq {N : Nat} {p : Nat → Bool} {v : Nat → Nat} {t0 : Nat} (hex : ∃ o, o < N ∧ p o = true ∧ v o = t0) :
    fold N (minStepV p v) (-1) = ((fold N (fun t m => if p m = true then (if v m < t then v m else t) else t) t0 : Nat) : Int) := by
  obtain ⟨h1, h2, h3⟩ := minFold (N := N) (p := p) (f := v) t0
  generalize fold N (fun t m => if p m = true then (if v m < t then v m else t) else t) t0 = b at h1 h2 h3 ⊢
  obtain ⟨o, o1, o2, o3⟩ := hex
  rcases minV_fold p v N with ⟨_, hno⟩ | ⟨m, e, ⟨s, s1, s2, s3⟩, hm⟩
  · rw [hno o o1] at o2; cases o2
  · rw [e]
    have a := h1 s s1 s2
    have : m ≤ b := by
      rcases h3 with h3 | ⟨q, q1, q2, q3⟩
      · have := hm o o1 o2; omega
      · have := hm q q1 q2; omega
    omega
theorem italian_one {net : List Int} (h : Ok net) : ∃ o, o < 3 ^ net.length ∧ italianB net (digs net.length o) = true ∧ sumN net.length (rv (digs net.length o)) = net.length := by
  obtain ⟨o, ho, hd⟩ := ones_digs (n := net.length)
  refine ⟨o, ho, italianB_iff.2 (italian_congr (fun k hk => ?_) (roman_italian ones_row.1)), ?_⟩
  · rw [digs_rv hk]; exact (hd k hk).symm
  · rw [sumN_congr (g := fun _ => 1) (fun k hk => by rw [digs_rv hk]; exact hd k hk), sumN_const]; omega
theorem weak_one {net : List Int} (h : Ok net) : ∃ o, o < 3 ^ net.length ∧ weakB net (digs net.length o) = true ∧ sumN net.length (rv (digs net.length o)) = net.length := by
  obtain ⟨o, ho, hd⟩ := ones_digs (n := net.length)
  refine ⟨o, ho, weakB_iff.2 (weak_congr (fun k hk => ?_) (roman_weak h ones_row.1)), ?_⟩
  · rw [digs_rv hk]; exact (hd k hk).symm
  · rw [sumN_congr (g := fun _ => 1) (fun k hk => by rw [digs_rv hk]; exact hd k hk), sumN_const]; omega
theorem minV_italian {net : List Int} (h : Ok net) : fold (3 ^ net.length) (minStepV (fun m => italianB net (digs net.length m)) fun m => sumN net.length (rv (digs net.length m))) (-1) = ((fewestItalian net : Nat) : Int) := minV_eq (italian_one h)
theorem minV_weak {net : List Int} (h : Ok net) : fold (3 ^ net.length) (minStepV (fun m => weakB net (digs net.length m)) fun m => sumN net.length (rv (digs net.length m))) (-1) = ((fewestWeak net : Nat) : Int) := minV_eq (weak_one h)
/-- All rows but the last one have fewer guards than two at each place. -/
theorem sums_last : ∀ n, n < 7 → ∀ m, m < 3 ^ n - 1 → sumN n (dig n m) < 2 * n := by decide +kernel
theorem last_two : ∀ n, n < 7 → ∀ k, k < n → dig n (3 ^ n - 1) k = 2 := by decide +kernel
theorem sum_digs (n m : Nat) : sumN n (rv (digs n m)) = sumN n (dig n m) := sumN_congr fun k hk => digs_rv hk
def lessStep (n : Nat) (p : List Int → Bool) (best : List Int) (m : Nat) : List Int := if sumN n (rv (digs n m)) < sumN n (rv best) ∧ p (digs n m) = true then digs n m else best
theorem best_last {n : Nat} (h1 : 1 ≤ n) (h6 : n ≤ 6) (p : List Int → Bool) (hp : p (digs n (3 ^ n - 1)) = true) : fold (3 ^ n - 1) (lessStep n p) (digs n (3 ^ n - 1)) = bestRow n p := by
  have h3 : 0 < 3 ^ n := Nat.pow_pos (by omega)
  have hl : sumN n (rv (digs n (3 ^ n - 1))) = 2 * n := by rw [sum_digs, sumN_congr (g := fun _ => 2) (last_two n (by omega)), sumN_const]; omega
  have key : ∀ k, k ≤ 3 ^ n - 1 → (fold k (rowStep n p) [] = [] ∧ fold k (lessStep n p) (digs n (3 ^ n - 1)) = digs n (3 ^ n - 1)) ∨ ∃ b, fold k (rowStep n p) [] = digs n b ∧ fold k (lessStep n p) (digs n (3 ^ n - 1)) = digs n b ∧ sumN n (rv (digs n b)) < 2 * n := by
    intro k
    induction k with
    | zero => intro _; exact .inl ⟨rfl, rfl⟩
    | succ k ih =>
      intro hk
      have hs : sumN n (rv (digs n k)) < 2 * n := by rw [sum_digs]; exact sums_last n (by omega) k (by omega)
      rcases ih (by omega) with ⟨a, b⟩ | ⟨b, a1, a2, a3⟩
      · rw [fold_succ, fold_succ, a, b]
        unfold rowStep lessStep
        cases hq : p (digs n k) with
        | false => rw [if_neg (fun hc => by cases hc.1), if_neg (fun hc => by cases hc.2)]; exact .inl ⟨rfl, rfl⟩
        | true => rw [if_pos ⟨rfl, .inl rfl⟩, if_pos ⟨by omega, rfl⟩]; exact .inr ⟨k, rfl, rfl, hs⟩
      · rw [fold_succ, fold_succ, a1, a2]
        unfold rowStep lessStep
        right
        by_cases hc : p (digs n k) = true ∧ sumN n (rv (digs n k)) < sumN n (rv (digs n b))
        · rw [if_pos ⟨hc.1, .inr hc.2⟩, if_pos ⟨hc.2, hc.1⟩]; exact ⟨k, rfl, rfl, hs⟩
        · rw [if_neg (fun hd => by
            rcases hd.2 with hx | hx
            · rw [digs_len] at hx; omega
            · exact hc ⟨hd.1, hx⟩), if_neg (fun hd => hc ⟨hd.2, hd.1⟩)]
          exact ⟨b, rfl, rfl, a3⟩
  unfold bestRow
  have e3 : 3 ^ n = (3 ^ n - 1) + 1 := by omega
  rw [show fold (3 ^ n) (rowStep n p) [] = fold ((3 ^ n - 1) + 1) (rowStep n p) [] by rw [← e3], fold_succ]
  rcases key _ (Nat.le_refl _) with ⟨a, b⟩ | ⟨b, a1, a2, a3⟩
  · rw [a, b]; unfold rowStep; rw [if_pos ⟨hp, .inl rfl⟩]
  · rw [a1, a2]; unfold rowStep
    rw [if_neg (fun hd => by
      rcases hd.2 with hx | hx
      · rw [digs_len] at hx; omega
      · omega)]
theorem roman_last {net : List Int} (h : Ok net) : romanB net (digs net.length (3 ^ net.length - 1)) = true := by
  have h6 := h.hi
  rw [romanB_iff]
  intro k hk h0
  rw [digs_rv hk, last_two _ (by omega) k hk] at h0
  omega
/-- The least place of a set, as the bit that Go finds with the negative of it. -/
theorem low_bit : ∀ s, s < 64 → s ≠ 0 → ∃ i, i < 6 ∧ bits .and .i64 ((s : Nat) : Int) (IntKind.i64.wrap (0 - ((s : Nat) : Int))) = ((2 ^ i : Nat) : Int) ∧ s.testBit i = true := by decide +kernel
end Go.Proofs.Ytpmiinabjkdggaa
/- The program's functions of chapter 6 but MostLeaves, in natural numbers. Conditions: those of each theorem. -/
namespace Go.Proofs.Ytpmiinabjkdggaa
open D Go.RowKit
set_option linter.unusedVariables false
set_option linter.unusedSimpArgs false


theorem I.fewerOf_n (t : Int) (v : Nat) : I.fewerOf_t t ((v : Nat) : Int) = some (if t < 0 then ((v : Nat) : Int) else if ((v : Nat) : Int) < t then ((v : Nat) : Int) else t) := by
  unfold I.fewerOf_t I.fewerOf_tree
  by_cases h0 : t < 0
  · simp [h0]
  · by_cases h1 : ((v : Nat) : Int) < t <;> simp [h0, h1]
theorem I.fewerOf_V (p : Nat → Bool) (v : Nat → Nat) {t : Int} {k : Nat} (hp : p k = true) : I.fewerOf_t t ((v k : Nat) : Int) = some (minStepV p v t k) := by
  rw [I.fewerOf_n]; unfold minStepV; rw [if_pos hp]
theorem minStepV_no {p : Nat → Bool} {v : Nat → Nat} {t : Int} {k : Nat} (hp : p k = false) : minStepV p v t k = t := by unfold minStepV; rw [hp]; rfl
theorem I.totalIn_n {net : List Int} (h : Ok net) {s : Nat} (hs : s < 2 ^ net.length) : I.totalIn_t net s = some (total net s) := by
  unfold I.totalIn_t I.totalIn_tree
  rw [I.nextTo_n h hs]
  simp only [optC]
  rw [I.allOf_n h]
  simp only
  rw [nat_beq]
  rfl
theorem fold_reach (net : List Int) (A m s : Nat) : fold m (fun t _ => t ||| (A &&& near net t)) s = steps net A m s := by
  induction m with
  | zero => rfl
  | succ m ih => rw [fold_succ, ih, Nat.and_comm]; rfl
theorem I.reachedIn_n {net : List Int} (h : Ok net) {s : Nat} (hs : s < 2 ^ net.length) (h0 : s ≠ 0) : ∃ i, i < net.length ∧ s.testBit i = true ∧ I.reachedIn_t net s = some ((part net s i : Nat) : Int) := by
  have h6 := h.hi
  have h64 := h.pow
  obtain ⟨i, _, e, hi⟩ := low_bit s (by omega) h0
  have hin := in_lt hs hi
  refine ⟨i, hin, hi, ?_⟩
  have hpl : 2 ^ i < 2 ^ net.length := Nat.pow_lt_pow_right (by omega) hin
  have hst : 2 ^ i &&& s = 2 ^ i := by
    refine eq_of_bits (n := net.length) (Nat.lt_of_le_of_lt Nat.and_le_left hpl) hpl (fun j _ => ?_)
    rw [Nat.testBit_and, testBit_pow]
    by_cases hj : i = j
    · subst hj; rw [hi]; simp
    · simp [hj]
  unfold I.reachedIn_t I.reachedIn_tree
  have := (run_for (run := I.reachedIn_run3 net s) (len := net.length - 1) (fun k (t : Nat) => ((t : Int), ((k + 1 : Nat) : Int))) (fun t k => t ||| (s &&& near net t)) (fun t => (t : Int)) (fun k t => t < 2 ^ net.length) (by omega) (fun n k t hk ht => ?_) (fun n t ht => ?_) (t0 := 2 ^ i) hpl).1
  · rw [e, show I.reachedIn_run3 net s FUEL (((2 ^ i : Nat) : Int), 1) = _ from this, fold_reach]
    simp only [optC]
    congr 2
    have hc : 1 ≤ card net.length (2 ^ i) := card_pow hin
    have hf := h.steps_done (A := s) hpl (net.length - 1) (by omega)
    rw [← hst] at hf
    have := steps_part h hin hf
    rw [hst] at this
    exact this
  · have hn := h.near_lt t
    have ha : s &&& near net t < 2 ^ net.length := Nat.lt_of_le_of_lt Nat.and_le_left hs
    simp only [I.reachedIn_run3, I.reachedIn_step3]
    rw [cnd_t (by simp; omega), I.nextTo_n h ht]
    simp only [optC]
    rw [i64_and_nat _ _ (by omega) (by omega), i64_or_nat _ _ (by omega) (by omega), add1_nat (by omega)]
    exact ⟨rfl, Nat.or_lt_two_pow ht ha⟩
  · simp only [I.reachedIn_run3, I.reachedIn_step3]
    rw [cnd_f (by simp; omega)]
theorem I.togetherIn_n {net : List Int} (h : Ok net) {s : Nat} (hs : s < 2 ^ net.length) : I.togetherIn_t net s = some (together net s) := by
  unfold I.togetherIn_t I.togetherIn_tree
  by_cases h0 : s = 0
  · subst h0
    have : together net 0 = false := not_true fun hc => (together_iff.1 hc).1 rfl
    rw [this]
    rfl
  · obtain ⟨i, hi, hb, e⟩ := I.reachedIn_n h hs h0
    rw [cnd_t (by simp; omega), e]
    simp only [optC]
    rw [nat_beq]
    congr 1
    rw [Bool.eq_iff_iff, beq_iff_eq, together_iff, together_part h hs hb]
theorem I.joinedWatchIn_n {net : List Int} (h : Ok net) {s : Nat} (hs : s < 2 ^ net.length) : I.joinedWatchIn_t net s = some (joined net s) := by
  unfold I.joinedWatchIn_t I.joinedWatchIn_tree
  rw [I.togetherIn_n h hs]
  simp only [optC]
  unfold joined
  cases together net s with
  | false => rfl
  | true => rw [cond_true, I.watchIn_n h hs]; rfl
theorem I.TotalOk_x {net : List Int} (e : I.NetOk_t net = some false) (s : Int) : I.TotalOk_t net s = some false := by
  unfold I.TotalOk_t I.TotalOk_tree; rw [e]; rfl
theorem I.TogetherOk_x {net : List Int} (e : I.NetOk_t net = some false) (s : Int) : I.TogetherOk_t net s = some false := by
  unfold I.TogetherOk_t I.TogetherOk_tree; rw [e]; rfl
theorem I.JoinedWatchOk_x {net : List Int} (e : I.NetOk_t net = some false) (s : Int) : I.JoinedWatchOk_t net s = some false := by
  unfold I.JoinedWatchOk_t I.JoinedWatchOk_tree; rw [e]; rfl
theorem I.FewestTotal_x {net : List Int} (e : I.NetOk_t net = some false) : I.FewestTotal_t net = some (-1) := by
  unfold I.FewestTotal_t I.FewestTotal_tree; rw [e]; rfl
theorem I.FewestJoined_x {net : List Int} (e : I.NetOk_t net = some false) : I.FewestJoined_t net = some (-1) := by
  unfold I.FewestJoined_t I.FewestJoined_tree; rw [e]; rfl
theorem I.TotalOk_n {net : List Int} (h : Ok net) (e : I.NetOk_t net = some true) (s : Int) : I.TotalOk_t net s = some (decide (0 ≤ s ∧ s < 2 ^ net.length) && total net s.toNat) := by
  unfold I.TotalOk_t I.TotalOk_tree
  rw [e]
  simp only [optC]
  rw [cond_true, I.setIn_n h]
  simp only
  rcases set_cases h s with ⟨t, rfl, ht, hd⟩ | hd
  · rw [hd, cond_true, I.totalIn_n h ht]; rfl
  · rw [hd]; rfl
theorem I.TogetherOk_n {net : List Int} (h : Ok net) (e : I.NetOk_t net = some true) (s : Int) : I.TogetherOk_t net s = some (decide (0 ≤ s ∧ s < 2 ^ net.length) && together net s.toNat) := by
  unfold I.TogetherOk_t I.TogetherOk_tree
  rw [e]
  simp only [optC]
  rw [cond_true, I.setIn_n h]
  simp only
  rcases set_cases h s with ⟨t, rfl, ht, hd⟩ | hd
  · rw [hd, cond_true, I.togetherIn_n h ht]; rfl
  · rw [hd]; rfl
theorem I.JoinedWatchOk_n {net : List Int} (h : Ok net) (e : I.NetOk_t net = some true) (s : Int) : I.JoinedWatchOk_t net s = some (decide (0 ≤ s ∧ s < 2 ^ net.length) && joined net s.toNat) := by
  unfold I.JoinedWatchOk_t I.JoinedWatchOk_tree
  rw [e]
  simp only [optC]
  rw [cond_true, I.setIn_n h]
  simp only
  rcases set_cases h s with ⟨t, rfl, ht, hd⟩ | hd
  · rw [hd, cond_true, I.joinedWatchIn_n h ht]; rfl
  · rw [hd]; rfl
theorem I.FewestTotal_y {net : List Int} (h : Ok net) (e : I.NetOk_t net = some true) : I.FewestTotal_t net = some (minI net (total net)) := by
  unfold I.FewestTotal_t I.FewestTotal_tree
  have h64 := h.pow
  have h6 := h.hi
  have hsu := allOf_succ net
  rw [e]
  have := (run_for (run := I.FewestTotal_run5 net) (len := 2 ^ net.length) (fun k (t : Int) => (t, (k : Int))) (minStepV (total net) size) (fun t => t) (fun k t => -1 ≤ t ∧ t ≤ (6 : Nat)) (by omega) (fun n k t hk ht => ?_) (fun n t ht => ?_) (t0 := -1) (by omega)).1
  · exact congrArg (fun o => optC o (fun q => some q) none) this
  · refine ⟨?_, minStepV_bound (size_le k) ht⟩
    simp only [I.FewestTotal_run5, I.FewestTotal_step5]
    rw [I.allOf_n h]
    simp only [optC]
    rw [cnd_t (by rw [decide_eq_true_eq]; omega), I.totalIn_n h hk]
    simp only
    cases hp : total net k with
    | false => rw [cond_false, minStepV_no hp, add1_nat (by omega)]
    | true =>
      rw [cond_true, I.sizeOf_n]
      simp only
      rw [I.fewerOf_V (total net) size hp]
      simp only
      rw [add1_nat (by omega)]
  · simp only [I.FewestTotal_run5, I.FewestTotal_step5]
    rw [I.allOf_n h]
    simp only [optC]
    rw [cnd_f (by rw [decide_eq_false_iff_not]; omega)]
theorem I.FewestJoined_y {net : List Int} (h : Ok net) (e : I.NetOk_t net = some true) : I.FewestJoined_t net = some (minI net (joined net)) := by
  unfold I.FewestJoined_t I.FewestJoined_tree
  have h64 := h.pow
  have h6 := h.hi
  have hsu := allOf_succ net
  rw [e]
  have := (run_for (run := I.FewestJoined_run5 net) (len := 2 ^ net.length) (fun k (t : Int) => (t, (k : Int))) (minStepV (joined net) size) (fun t => t) (fun k t => -1 ≤ t ∧ t ≤ (6 : Nat)) (by omega) (fun n k t hk ht => ?_) (fun n t ht => ?_) (t0 := -1) (by omega)).1
  · exact congrArg (fun o => optC o (fun q => some q) none) this
  · refine ⟨?_, minStepV_bound (size_le k) ht⟩
    simp only [I.FewestJoined_run5, I.FewestJoined_step5]
    rw [I.allOf_n h]
    simp only [optC]
    rw [cnd_t (by rw [decide_eq_true_eq]; omega), I.joinedWatchIn_n h hk]
    simp only
    cases hp : joined net k with
    | false => rw [cond_false, minStepV_no hp, add1_nat (by omega)]
    | true =>
      rw [cond_true, I.sizeOf_n]
      simp only
      rw [I.fewerOf_V (joined net) size hp]
      simp only
      rw [add1_nat (by omega)]
  · simp only [I.FewestJoined_run5, I.FewestJoined_step5]
    rw [I.allOf_n h]
    simp only [optC]
    rw [cnd_f (by rw [decide_eq_false_iff_not]; omega)]
end Go.Proofs.Ytpmiinabjkdggaa
/- Laws of chapter 6. Conditions: those of each theorem. -/
namespace Go.Proofs.Ytpmiinabjkdggaa
open D Go.RowKit
set_option linter.unusedVariables false
set_option linter.unusedSimpArgs false


theorem L.FnFewestTotal_is {code : List Int} (hm : code.length ≤ maxLen) (hw : ∀ n ∈ code, (Lit.int .u8 n).wf = true) : L.FnFewestTotal_t code = some true := by
  unfold L.FnFewestTotal_t L.FnFewestTotal_tree
  by_cases hc : (code.length : Int) > 1048576
  · rw [cnd_t (by simpa using hc)]
  rw [cnd_f (by simpa using hc)]
  obtain ⟨net, e1, h1⟩ := S.DrawFewestTotal_is (Bytes.wf hw)
  rw [e1]
  simp only [optC]
  rcases NetOk_cases net with ⟨h, g1, g2⟩ | ⟨_, g1, g2⟩
  · have h6 := h.hi
    have h64 := h.pow
    rw [I.FewestTotal_y h g1, S.FewestTotal_y h g2, g1]
    simp only
    rw [cnd_f (by simp), cnd_f (by rfl), I.LoneOf_n h g1]
    simp only
    by_cases hz : ((lone net : Nat) : Int) = 0
    · rw [hz, cnd_f (by rfl)]
      have hl := lone_zero.1 hz
      rcases minI_is net (total net) with ⟨_, hno⟩ | ⟨m, hm1, hm2⟩
      · have := hno (allOf net) (allOf_lt net)
        rw [(total_all h).2 hl] at this; cases this
      · obtain ⟨s, a, b, c⟩ := hm2.ex
        have t2 := total_two h a b
        have tw := (fewest_few h).le s a (total_watch h a b)
        obtain ⟨s2, a2, b2, c2⟩ := few_size h
        obtain ⟨t, p, q, r⟩ := total_twice h hl a2 b2
        have := hm2.le t p q
        rw [hm1, cnd_t (by rw [decide_eq_true_eq]; omega), I.FewestWatch_y h g1]
        simp only
        have hs6 := size_le s2
        rw [cnd_t (by rw [decide_eq_true_eq]; omega), i64_wrap (by omega) (by omega)]
        congr 1
        rw [decide_eq_true_eq]; omega
    · rw [cnd_t (by simpa using hz)]
      rcases minI_is net (total net) with ⟨hm1, _⟩ | ⟨m, hm1, hm2⟩
      · rw [hm1]; rfl
      · obtain ⟨s, a, b, c⟩ := hm2.ex
        have := (total_all h).1 (total_mono h (fun j hj => by rw [allOf_testBit]; simpa using in_lt a hj) b)
        exact absurd (lone_zero.2 this) hz
  · rw [I.FewestTotal_x g1, S.FewestTotal_x g2, g1]
    simp only
    rw [cnd_f (by decide), cnd_t (by decide), cnd_t (by decide), L.alive_is]
theorem L.FnTogetherOk_is {code : List Int} (hm : code.length ≤ maxLen) (hw : ∀ n ∈ code, (Lit.int .u8 n).wf = true) : L.FnTogetherOk_t code = some true := by
  unfold L.FnTogetherOk_t L.FnTogetherOk_tree
  by_cases hc : (code.length : Int) > 1048576
  · rw [cnd_t (by simpa using hc)]
  rw [cnd_f (by simpa using hc)]
  obtain ⟨s, net, e1, h1, h2⟩ := S.DrawTogetherOk_is (Bytes.wf hw)
  rw [e1]
  simp only [optC]
  rcases NetOk_cases net with ⟨h, g1, g2⟩ | ⟨_, g1, g2⟩
  · have h6 := h.hi
    have h64 := h.pow
    rw [I.TogetherOk_n h g1, S.TogetherOk_n h g2, g1]
    simp only
    rw [cnd_f (by simp), cnd_f (by rfl)]
    have hin : ∀ t : Nat, t < 2 ^ net.length → I.TogetherOk_t net (t : Int) = some (together net t) := fun t ht => by rw [I.TogetherOk_n h g1, set_in ht, Int.toNat_natCast]; rfl
    have zero : I.TogetherOk_t net 0 = some false := by
      have := hin 0 (Nat.two_pow_pos _)
      have e0 : together net 0 = false := not_true fun hc => (together_iff.1 hc).1 rfl
      rw [e0] at this; exact this
    generalize hok : (decide (0 ≤ (s : Int) ∧ (s : Int) < 2 ^ net.length) && together net (s : Int).toNat) = ok
    have loop := (run_for (run := L.FnTogetherOk_run10 (s : Int) ok) (len := net.length) (fun k (_ : Unit) => ((k : Int), net)) (fun t k => ()) (fun t => Sum.inr net) (fun k t => True) (by omega) (fun n k t hk ht => ?_) (fun n t ht => ?_) (t0 := ()) trivial).1
    · rw [show L.FnTogetherOk_run10 (s : Int) ok FUEL (0, net) = _ from loop]
      simp only [sumC]
      rw [zero]
      simp only
      rw [cnd_t (by rfl), L.alive_is]
    · refine ⟨?_, trivial⟩
      have hpk : 2 ^ k < 2 ^ net.length := Nat.pow_lt_pow_right (by omega) hk
      have hcl := h.comp_lt hk
      simp only [L.FnTogetherOk_run10, L.FnTogetherOk_step10]
      rw [cnd_t (by simp; omega), cnd_f (by simp), one_shl (by omega), hin _ hpk, together_iff.2 (together_one h hk), I.PartOf_n h g1 hk]
      simp only [optC]
      rw [cnd_f (by rfl), hin _ hcl, together_iff.2 (together_comp h hk)]
      simp only
      rw [cnd_f (by rfl), add1_nat (by omega)]
      cases ok with
      | false => rfl
      | true =>
        rw [Bool.and_eq_true, Int.toNat_natCast] at hok
        have hs := set_lt hok.1
        have hT := together_iff.1 hok.2
        rw [cond_true, cnd_f (by simp), bit_shr _ _ (by omega), bool_eq1]
        cases hb : s.testBit k with
        | false => rfl
        | true =>
          rw [cond_true, i64_andNot_nat _ _ (by omega) (by omega)]
          have : (((minus s (comp net k) : Nat) : Int) == 0) = true := (and_not_zero (by omega) (by omega)).2 fun j hj => together_in h hs hT hb hj
          rw [this]; rfl
    · simp only [L.FnTogetherOk_run10, L.FnTogetherOk_step10]
      rw [cnd_f (by simp)]
  · rw [I.TogetherOk_x g1, S.TogetherOk_x g2, g1]
    simp only
    rw [cnd_f (by decide), cnd_t (by decide), cnd_t (by decide), L.alive_is]
theorem L.FnJoinedWatchOk_is {code : List Int} (hm : code.length ≤ maxLen) (hw : ∀ n ∈ code, (Lit.int .u8 n).wf = true) : L.FnJoinedWatchOk_t code = some true := by
  unfold L.FnJoinedWatchOk_t L.FnJoinedWatchOk_tree
  by_cases hc : (code.length : Int) > 1048576
  · rw [cnd_t (by simpa using hc)]
  rw [cnd_f (by simpa using hc)]
  obtain ⟨s, net, e1, h1, h2⟩ := S.DrawJoinedWatchOk_is (Bytes.wf hw)
  rw [e1]
  simp only [optC]
  rcases NetOk_cases net with ⟨h, g1, g2⟩ | ⟨_, g1, g2⟩
  · have h6 := h.hi
    have h64 := h.pow
    rw [I.JoinedWatchOk_n h g1, S.JoinedWatchOk_n h g2, I.TogetherOk_n h g1]
    simp only
    rw [cnd_f (by simp)]
    cases hd : decide (0 ≤ (s : Int) ∧ (s : Int) < 2 ^ net.length) with
    | false => rw [L.alive_is]; rfl
    | true =>
      have hs := set_lt hd
      simp only [Bool.true_and, Int.toNat_natCast]
      unfold joined
      cases hT : together net s with
      | false => rw [L.alive_is]; rfl
      | true =>
        simp only [Bool.true_and, cond_true]
        rw [I.WatchOk_n h g1, hd, Int.toNat_natCast]
        simp only [Bool.true_and]
        cases hW : W net s with
        | false => rw [L.alive_is]; rfl
        | true =>
          have hJ := together_iff.1 hT
          rw [cnd_f (by rfl), cnd_f (by rfl), I.PartMany_n h g1, joined_part h hs hJ hW]
          simp only
          rw [cnd_t (by rfl), L.sizeOf_n (by omega), I.TotalOk_n h g1, hd, Int.toNat_natCast]
          simp only [Bool.true_and]
          by_cases h2 : size s < 2
          · rw [cnd_t (by rw [decide_eq_true_eq]; omega)]
          · rw [cnd_f (by rw [decide_eq_false_iff_not]; omega), joined_total h hs hJ hW (by omega)]
  · rw [I.JoinedWatchOk_x g1, S.JoinedWatchOk_x g2, I.TogetherOk_x g1]
    simp only
    rw [cnd_f (by decide), cnd_f (by decide), cnd_f (by decide), cnd_t (by decide), L.alive_is]
theorem L.FnFewestJoined_is {code : List Int} (hm : code.length ≤ maxLen) (hw : ∀ n ∈ code, (Lit.int .u8 n).wf = true) : L.FnFewestJoined_t code = some true := by
  unfold L.FnFewestJoined_t L.FnFewestJoined_tree
  by_cases hc : (code.length : Int) > 1048576
  · rw [cnd_t (by simpa using hc)]
  rw [cnd_f (by simpa using hc)]
  obtain ⟨net, e1, h1⟩ := S.DrawFewestJoined_is (Bytes.wf hw)
  rw [e1]
  simp only [optC]
  rcases NetOk_cases net with ⟨h, g1, g2⟩ | ⟨_, g1, g2⟩
  · have h6 := h.hi
    have h64 := h.pow
    rw [I.FewestJoined_y h g1, S.FewestJoined_y h g2, g1]
    simp only
    rw [cnd_f (by simp), cnd_f (by rfl), I.PartMany_n h g1]
    simp only
    by_cases hp : parts net = 1
    · rw [cnd_f (by rw [hp]; rfl)]
      obtain ⟨s2, a2, b2, c2⟩ := few_size h
      obtain ⟨t, p, q, r, z⟩ := joined_three h hp a2 b2
      rcases minI_is net (joined net) with ⟨_, hno⟩ | ⟨m, hm1, hm2⟩
      · have := hno t p
        unfold joined at this
        rw [together_iff.2 q, r] at this; cases this
      · obtain ⟨s, a, b, c⟩ := hm2.ex
        have hb := b
        unfold joined at hb
        rw [Bool.and_eq_true] at hb
        have hJ := together_iff.1 hb.1
        have tw := (fewest_few h).le s a hb.2
        have ht : m ≤ size t := hm2.le t p (by unfold joined; rw [together_iff.2 q, r]; rfl)
        have hs6 := size_le s2
        have hs7 := size_le s
        have fp : 1 ≤ fewest net := by
          have := few_parts h a2 b2
          omega
        rw [hm1, I.FewestWatch_y h g1]
        simp only
        rw [cnd_t (by rw [decide_eq_true_eq]; omega), i64_wrap (n := 3 * ((fewest net : Nat) : Int)) (by omega) (by omega), i64_wrap (by omega) (by omega), cnd_t (by rw [decide_eq_true_eq]; omega)]
        by_cases h2 : m < 2
        · rw [cnd_t (by rw [decide_eq_true_eq]; omega)]
        · rw [cnd_f (by rw [decide_eq_false_iff_not]; omega), I.FewestTotal_y h g1]
          simp only
          have hT := joined_total h a hJ hb.2 (by omega)
          congr 1
          rw [decide_eq_true_eq]
          rcases minI_is net (total net) with ⟨hn1, _⟩ | ⟨m', hn1, hn2⟩
          · rw [hn1]; omega
          · have := hn2.le s a hT
            rw [hn1]; omega
    · rw [cnd_t (by simp; omega)]
      rcases minI_is net (joined net) with ⟨hm1, _⟩ | ⟨m, hm1, hm2⟩
      · rw [hm1]; rfl
      · obtain ⟨s, a, b, c⟩ := hm2.ex
        unfold joined at b
        rw [Bool.and_eq_true] at b
        exact absurd (joined_part h a (together_iff.1 b.1) b.2) hp
  · rw [I.FewestJoined_x g1, S.FewestJoined_x g2, g1]
    simp only
    rw [cnd_f (by decide), cnd_t (by decide), cnd_t (by decide), L.alive_is]
end Go.Proofs.Ytpmiinabjkdggaa
/- The model's functions of chapter 9 in natural numbers. Conditions: those of each theorem. -/
namespace Go.Proofs.Ytpmiinabjkdggaa
open D Go.RowKit
set_option linter.unusedVariables false
set_option linter.unusedSimpArgs false


/-- Can this guard come, so that a set of the list is there? -/
def ansP (net : List Int) (l : List Bool) (s t f : Nat) : Bool := s.testBit f && ((nb net t).testBit f && D.elb l (moved s f t))
def ansI (net : List Int) (l : List Bool) (s t : Nat) : Int := (find net.length (fun f => if ansP net l s t f = true then some (f : Int) else none)).getD (-1)
theorem ansI_cases (net : List Int) (l : List Bool) (s t : Nat) : (ansI net l s t = -1 ∧ ∀ f, f < net.length → ansP net l s t f = false) ∨ ∃ f, f < net.length ∧ ansI net l s t = (f : Int) ∧ ansP net l s t f = true := by
  unfold ansI
  cases hf : find net.length (fun f => if ansP net l s t f = true then some (f : Int) else none) with
  | none =>
    refine .inl ⟨rfl, fun f hfl => not_true fun hc => ?_⟩
    have := find_none.1 hf f hfl
    rw [if_pos hc] at this; cases this
  | some r =>
    obtain ⟨f, hfl, he⟩ := find_some_ex hf
    right
    by_cases hc : ansP net l s t f = true
    · rw [if_pos hc] at he; injection he with he; exact ⟨f, hfl, he.symm, hc⟩
    · rw [if_neg hc] at he; cases he
def holdsB (net : List Int) (l : List Bool) (s : Nat) : Bool := ((List.range net.length).all fun k => !(!s.testBit k && decide (ansI net l s k < 0))) && D.elb l s
noncomputable def eternalB (net : List Int) (s : Nat) : Bool := @decide (Eternal net s) (Classical.propDecidable _)
theorem eternalB_iff {net : List Int} {s : Nat} : eternalB net s = true ↔ Eternal net s := by unfold eternalB; exact @decide_eq_true_iff _ (Classical.propDecidable _)
noncomputable def lasts (net : List Int) : List Bool := (List.range (2 ^ net.length)).map (eternalB net)
theorem lasts_len (net : List Int) : (lasts net).length = 2 ^ net.length := by simp [lasts]
theorem lasts_elb {net : List Int} {s : Nat} (hs : s < 2 ^ net.length) : D.elb (lasts net) s = eternalB net s := by unfold D.elb lasts; simp [List.getD, hs]
theorem holds_eternal {net : List Int} (h : Ok net) (m : List Bool) (hm : m.length = 2 ^ net.length) (hin : ∀ s, s < 2 ^ net.length → Eternal net s → D.elb m s = true) :
    ∀ s, s < 2 ^ net.length → Eternal net s → holdsB net m s = true := by
  intro s hs he
  unfold holdsB
  rw [hin s hs he, Bool.and_true, List.all_eq_true]
  intro k hk
  have hk := List.mem_range.1 hk
  cases hb : s.testBit k with
  | true => rfl
  | false =>
    obtain ⟨f, a, b, c⟩ := eternal_closed net s hs he k hk hb
    rcases ansI_cases net m s k with ⟨_, hno⟩ | ⟨g, _, hg, _⟩
    · have := hno f (in_lt hs a)
      unfold ansP at this
      rw [a, b, hin _ (moved_lt hs hk) c] at this
      cases this
    · rw [hg, decide_eq_false (by omega)]; rfl
theorem stable_eternal {net : List Int} (h : Ok net) {m : List Bool} (hm : m.length = 2 ^ net.length) (hst : ∀ s, s < 2 ^ net.length → D.elb m s = true → holdsB net m s = true) :
    ∀ s, s < 2 ^ net.length → D.elb m s = true → Eternal net s := by
  intro s hs hb
  refine ⟨fun q => q < 2 ^ net.length ∧ D.elb m q = true, fun t ht ⟨_, htm⟩ k hk hb => ?_, hs, hb⟩
  have := hst t ht htm
  unfold holdsB at this
  rw [Bool.and_eq_true, List.all_eq_true] at this
  have := this.1 k (List.mem_range.2 hk)
  rw [hb] at this
  rcases ansI_cases net m t k with ⟨hn, _⟩ | ⟨f, hf, hg, hp⟩
  · rw [hn] at this; cases this
  · unfold ansP at hp
    rw [Bool.and_eq_true, Bool.and_eq_true] at hp
    exact ⟨f, hp.1, hp.2.1, moved_lt ht hk, hp.2.2⟩
theorem eternal_some (net : List Int) : ∃ s, s < 2 ^ net.length ∧ eternalB net s = true := ⟨allOf net, allOf_lt net, eternalB_iff.2 eternal_all⟩
theorem fold_least {net : List Int} (h : Ok net) (L : List Int) (p : Nat → Bool) (hL : ∀ x, x ∈ L ↔ ∃ s : Nat, s < 2 ^ net.length ∧ p s = true ∧ x = s) (N : Nat) (hN : N ≤ L.length) :
    (fold N (fun t k => if size (D.eli L k).toNat < t then size (D.eli L k).toNat else t) net.length = net.length ∨ ∃ s, s < 2 ^ net.length ∧ p s = true ∧ size s = fold N (fun t k => if size (D.eli L k).toNat < t then size (D.eli L k).toNat else t) net.length) ∧
    ∀ k, k < N → fold N (fun t k => if size (D.eli L k).toNat < t then size (D.eli L k).toNat else t) net.length ≤ size (D.eli L k).toNat := by
  induction N with
  | zero => exact ⟨.inl rfl, fun k hk => by omega⟩
  | succ N ih =>
    obtain ⟨a, b⟩ := ih (by omega)
    rw [fold_succ]
    generalize fold N (fun t k => if size (D.eli L k).toNat < t then size (D.eli L k).toNat else t) net.length = g at a b ⊢
    obtain ⟨s, s1, s2, s3⟩ := (hL _).1 (eli_mem (l := L) (k := N) (by omega))
    by_cases hlt : size (D.eli L N).toNat < g
    · rw [if_pos hlt]
      refine ⟨.inr ⟨s, s1, s2, by rw [s3, Int.toNat_natCast]⟩, fun k hk => ?_⟩
      by_cases he : k = N
      · rw [he]; exact Nat.le_refl _
      · have := b k (by omega); omega
    · rw [if_neg hlt]
      refine ⟨a, fun k hk => ?_⟩
      by_cases he : k = N
      · rw [he]; omega
      · exact b k (by omega)
theorem fold_minOf {net : List Int} (h : Ok net) (L : List Int) (p : Nat → Bool) (hL : ∀ x, x ∈ L ↔ ∃ s : Nat, s < 2 ^ net.length ∧ p s = true ∧ x = s) (hall : p (allOf net) = true) :
    MinOf net p (fold L.length (fun t k => if size (D.eli L k).toNat < t then size (D.eli L k).toNat else t) net.length) := by
  obtain ⟨a, b⟩ := fold_least h L p hL L.length (Nat.le_refl _)
  refine ⟨?_, fun s hs hp => ?_⟩
  · rcases a with a | a
    · rw [a]; exact ⟨allOf net, allOf_lt net, hall, size_all h⟩
    · exact a
  · obtain ⟨k, hk, he⟩ := mem_eli ((hL (s : Int)).2 ⟨s, hs, hp, rfl⟩)
    have := b k hk
    rw [he, Int.toNat_natCast] at this
    exact this
noncomputable def fewestEternal (net : List Int) : Nat := minSize net (eternalB net)
theorem fewestEternal_min {net : List Int} (h : Ok net) : MinOf net (eternalB net) (fewestEternal net) := minSize_is h (eternal_some net)
/-- The answer of an eternal set. -/
noncomputable def answerI (net : List Int) (s p : Int) : Int := if (0 ≤ s ∧ s < 2 ^ net.length) ∧ (0 ≤ p ∧ p < net.length) ∧ eternalB net s.toNat = true ∧ s.toNat.testBit p.toNat = false then ansI net (lasts net) s.toNat p.toNat else -1
/-- An eternal set has an answer, and the answer is eternal. -/
theorem answerI_is {net : List Int} (h : Ok net) {s p : Nat} (hs : s < 2 ^ net.length) (hp : p < net.length) (he : Eternal net s) (hb : s.testBit p = false) :
    ∃ f, f < net.length ∧ answerI net s p = (f : Int) ∧ s.testBit f = true ∧ (nb net p).testBit f = true ∧ Eternal net (moved s f p) := by
  have e1 : answerI net s p = ansI net (lasts net) s p := by
    unfold answerI
    rw [if_pos ⟨⟨by omega, by have : (s : Int) < ((2 ^ net.length : Nat) : Int) := by omega
                              simpa using this⟩, ⟨by omega, by omega⟩, by rw [Int.toNat_natCast]; exact eternalB_iff.2 he, by simpa using hb⟩]
    simp only [Int.toNat_natCast]
  rw [e1]
  rcases ansI_cases net (lasts net) s p with ⟨_, hno⟩ | ⟨f, hf, hg, hP⟩
  · exfalso
    obtain ⟨f, a, b, c⟩ := eternal_closed net s hs he p hp hb
    have := hno f (in_lt hs a)
    unfold ansP at this
    rw [a, b, lasts_elb (moved_lt hs hp), eternalB_iff.2 c] at this
    cases this
  · unfold ansP at hP
    rw [Bool.and_eq_true, Bool.and_eq_true, lasts_elb (moved_lt hs hp), eternalB_iff] at hP
    exact ⟨f, hf, hg, hP.1, hP.2.1, hP.2.2⟩
end Go.Proofs.Ytpmiinabjkdggaa
/- The model's functions of chapter 10 in natural numbers. Conditions: those of each theorem. -/
namespace Go.Proofs.Ytpmiinabjkdggaa
open D Go.RowKit
set_option linter.unusedVariables false
set_option linter.unusedSimpArgs false


/-- The guards from a place on fit into a set. -/
def FitP (net : List Int) (f a l : Nat) : Prop := ∃ g : Nat → Nat, (∀ i, a ≤ i → f.testBit i = true → l.testBit (g i) = true ∧ (ball net i).testBit (g i) = true) ∧ ∀ i j, a ≤ i → a ≤ j → f.testBit i = true → f.testBit j = true → g i = g j → i = j
noncomputable def fitB (net : List Int) (f a l : Nat) : Bool := @decide (FitP net f a l) (Classical.propDecidable _)
theorem fitB_iff {net : List Int} {f a l : Nat} : fitB net f a l = true ↔ FitP net f a l := by unfold fitB; exact @decide_eq_true_iff _ (Classical.propDecidable _)
theorem fit_skip {net : List Int} {f a b l : Nat} (hab : a ≤ b) (hno : ∀ i, a ≤ i → i < b → f.testBit i = false) : FitP net f a l ↔ FitP net f b l := by
  have up : ∀ i, a ≤ i → f.testBit i = true → b ≤ i := fun i hi hb => by
    rcases Nat.lt_or_ge i b with h | h
    · rw [hno i hi h] at hb; cases hb
    · exact h
  constructor
  · rintro ⟨g, h1, h2⟩
    exact ⟨g, fun i hi hb => h1 i (by omega) hb, fun i j hi hj a b c => h2 i j (by omega) (by omega) a b c⟩
  · rintro ⟨g, h1, h2⟩
    exact ⟨g, fun i hi hb => h1 i (up i hi hb) hb, fun i j hi hj a b c => h2 i j (up i hi a) (up j hj b) a b c⟩
theorem fit_end {net : List Int} {f a l : Nat} (hno : ∀ i, a ≤ i → f.testBit i = false) : FitP net f a l :=
  ⟨fun i => i, fun i hi hb => (by rw [hno i hi] at hb; cases hb), fun i j _ _ _ _ he => he⟩
theorem fit_one {net : List Int} (h : Ok net) {f a l : Nat} (ha : a < net.length) (hb : f.testBit a = true) (hl : l < 2 ^ net.length) :
    FitP net f a l ↔ ∃ k, k < net.length ∧ ((ball net a) &&& l).testBit k = true ∧ FitP net f (a + 1) (minus l (2 ^ k)) := by
  have h6 := h.hi
  have hl64 := lt64 h hl
  have hm : ∀ k, k < net.length → ∀ j, (minus l (2 ^ k)).testBit j = true ↔ l.testBit j = true ∧ j ≠ k := fun k hk j => by
    have h1 : 2 ^ k < 2 ^ 6 := Nat.pow_lt_pow_right (by omega) (by omega)
    rw [minus_testBit _ _ (by omega) (by omega), Nat.testBit_two_pow, Bool.and_eq_true, Bool.not_eq_true', decide_eq_false_iff_not]
    constructor
    · rintro ⟨x, y⟩; exact ⟨x, fun e => y e.symm⟩
    · rintro ⟨x, y⟩; exact ⟨x, fun e => y e.symm⟩
  constructor
  · rintro ⟨g, h1, h2⟩
    obtain ⟨x, y⟩ := h1 a (Nat.le_refl _) hb
    refine ⟨g a, in_lt hl x, by rw [Nat.testBit_and, x, y]; rfl, g, fun i hi hbi => ?_, fun i j hi hj p q e => h2 i j (by omega) (by omega) p q e⟩
    obtain ⟨p, q⟩ := h1 i (by omega) hbi
    refine ⟨(hm _ (in_lt hl x) _).2 ⟨p, fun e => ?_⟩, q⟩
    have := h2 i a (by omega) (Nat.le_refl _) hbi hb e
    omega
  · rintro ⟨k, hk, hkb, g, h1, h2⟩
    rw [Nat.testBit_and, Bool.and_eq_true] at hkb
    refine ⟨fun i => if i = a then k else g i, fun i hi hbi => ?_, fun i j hi hj p q e => ?_⟩
    · by_cases he : i = a
      · subst he; simp only [if_true]; exact ⟨hkb.2, hkb.1⟩
      · simp only [if_neg he]
        obtain ⟨x, y⟩ := h1 i (by omega) hbi
        exact ⟨((hm k hk _).1 x).1, y⟩
    · by_cases hi2 : i = a <;> by_cases hj2 : j = a
      · omega
      · simp only [hi2, if_true, if_neg hj2] at e
        have := (h1 j (by omega) q).1
        rw [hm k hk] at this
        exact absurd e.symm this.2
      · simp only [hj2, if_true, if_neg hi2] at e
        have := (h1 i (by omega) p).1
        rw [hm k hk] at this
        exact absurd e this.2
      · simp only [if_neg hi2, if_neg hj2] at e
        exact h2 i j (by omega) (by omega) p q e
theorem fit_allMove {net : List Int} {a b : Nat} : AllMove net a b ↔ size a = size b ∧ FitP net a 0 b := by
  unfold AllMove FitP
  refine and_congr Iff.rfl ⟨fun ⟨g, h1, h2⟩ => ⟨g, fun i _ hi => h1 i hi, fun i j _ _ => h2 i j⟩, fun ⟨g, h1, h2⟩ => ⟨g, fun i hi => h1 i (Nat.zero_le _) hi, fun i j => h2 i j (Nat.zero_le _) (Nat.zero_le _)⟩⟩
noncomputable def allMoveB (net : List Int) (a b : Nat) : Bool := size a == size b && fitB net a 0 b
theorem allMoveB_iff {net : List Int} {a b : Nat} : allMoveB net a b = true ↔ AllMove net a b := by
  unfold allMoveB
  rw [Bool.and_eq_true, beq_iff_eq, fitB_iff, fit_allMove]
def ansAP (net : List Int) (l : List Bool) (fit : Nat → Bool) (s p u : Nat) : Bool := D.elb l u && (u.testBit p && (size u == size s && fit u))
noncomputable def ansA (net : List Int) (l : List Bool) (s p : Nat) : Int := (find (2 ^ net.length) (fun u => if ansAP net l (fitB net s 0) s p u = true then some (u : Int) else none)).getD (-1)
theorem ansA_cases (net : List Int) (l : List Bool) (s p : Nat) : (ansA net l s p = -1 ∧ ∀ u, u < 2 ^ net.length → ansAP net l (fitB net s 0) s p u = false) ∨ ∃ u : Nat, u < 2 ^ net.length ∧ ansA net l s p = (u : Int) ∧ ansAP net l (fitB net s 0) s p u = true := by
  unfold ansA
  cases hf : find (2 ^ net.length) (fun u => if ansAP net l (fitB net s 0) s p u = true then some (u : Int) else none) with
  | none =>
    refine .inl ⟨rfl, fun u hu => not_true fun hc => ?_⟩
    have := find_none.1 hf u hu
    rw [if_pos hc] at this; cases this
  | some r =>
    obtain ⟨u, hu, he⟩ := find_some_ex hf
    right
    by_cases hc : ansAP net l (fitB net s 0) s p u = true
    · rw [if_pos hc] at he; injection he with he; exact ⟨u, hu, he.symm, hc⟩
    · rw [if_neg hc] at he; cases he
theorem ansAP_iff {net : List Int} {l : List Bool} {s p u : Nat} : ansAP net l (fitB net s 0) s p u = true ↔ D.elb l u = true ∧ u.testBit p = true ∧ AllMove net s u := by
  unfold ansAP
  rw [Bool.and_eq_true, Bool.and_eq_true, Bool.and_eq_true, beq_iff_eq, fitB_iff, fit_allMove]
  exact and_congr Iff.rfl (and_congr Iff.rfl (and_congr ⟨fun e => e.symm, fun e => e.symm⟩ Iff.rfl))
noncomputable def badA (net : List Int) (l : List Bool) (s k : Nat) : Bool := !s.testBit k && decide (ansA net l s k < 0)
noncomputable def holdsA (net : List Int) (l : List Bool) (s : Nat) : Bool := !((List.range net.length).any (badA net l s))
noncomputable def inStep (net : List Int) (s : Nat) (t : Bool × List Bool) (k : Nat) : Bool × List Bool := if (D.elb t.2 s && badA net t.2 s k) = true then (true, t.2.set s false) else t
theorem inStep_fold {net : List Int} {s : Nat} {t : Bool × List Bool} (hs : s < t.2.length) (N : Nat) :
    fold N (inStep net s) t = if (D.elb t.2 s && (List.range N).any (badA net t.2 s)) = true then (true, t.2.set s false) else t := by
  induction N with
  | zero => simp [fold_zero]
  | succ N ih =>
    rw [fold_succ, ih, List.range_succ, List.any_append, List.any_cons, List.any_nil, Bool.or_false]
    cases hb : D.elb t.2 s with
    | false => simp [inStep, hb]
    | true =>
      cases ha : (List.range N).any (badA net t.2 s) with
      | true =>
        simp only [Bool.true_and, Bool.true_or, if_true]
        unfold inStep
        have : D.elb (t.2.set s false) s = false := by rw [elb_set hs, if_pos rfl]
        simp [this]
      | false =>
        simp only [Bool.true_and, Bool.false_or, Bool.false_eq_true, if_false]
        unfold inStep
        rw [hb, Bool.true_and]
theorem inStep_sweep {net : List Int} {s : Nat} {t : Bool × List Bool} (hs : s < t.2.length) : fold net.length (inStep net s) t = sweepStep (holdsA net) t s := by
  rw [inStep_fold hs]
  unfold sweepStep holdsA
  rw [Bool.not_not]
noncomputable def allEternalB (net : List Int) (s : Nat) : Bool := @decide (AllEternal net s) (Classical.propDecidable _)
theorem allEternalB_iff {net : List Int} {s : Nat} : allEternalB net s = true ↔ AllEternal net s := by unfold allEternalB; exact @decide_eq_true_iff _ (Classical.propDecidable _)
noncomputable def lastsA (net : List Int) : List Bool := (List.range (2 ^ net.length)).map (allEternalB net)
theorem lastsA_len (net : List Int) : (lastsA net).length = 2 ^ net.length := by simp [lastsA]
theorem lastsA_elb {net : List Int} {s : Nat} (hs : s < 2 ^ net.length) : D.elb (lastsA net) s = allEternalB net s := by unfold D.elb lastsA; simp [List.getD, hs]
theorem holdsA_eternal {net : List Int} (m : List Bool) (hin : ∀ s, s < 2 ^ net.length → AllEternal net s → D.elb m s = true) : ∀ s, s < 2 ^ net.length → AllEternal net s → holdsA net m s = true := by
  intro s hs he
  unfold holdsA
  rw [Bool.not_eq_true', List.any_eq_false]
  intro k hk
  have hk := List.mem_range.1 hk
  unfold badA
  cases hb : s.testBit k with
  | true => simp
  | false =>
    obtain ⟨u, a, b, c, d⟩ := allEternal_closed net s hs he k hk hb
    rcases ansA_cases net m s k with ⟨_, hno⟩ | ⟨g, _, hg, _⟩
    · have := hno u a
      rw [ansAP_iff.2 ⟨hin u a d, b, c⟩] at this
      cases this
    · rw [hg, decide_eq_false (by omega)]; simp
theorem stableA_eternal {net : List Int} {m : List Bool} (hst : ∀ s, s < 2 ^ net.length → D.elb m s = true → holdsA net m s = true) : ∀ s, s < 2 ^ net.length → D.elb m s = true → AllEternal net s := by
  intro s hs hb
  refine ⟨fun q => q < 2 ^ net.length ∧ D.elb m q = true, fun t ht ⟨_, htm⟩ k hk hb => ?_, hs, hb⟩
  have := hst t ht htm
  unfold holdsA at this
  rw [Bool.not_eq_true', List.any_eq_false] at this
  have := this k (List.mem_range.2 hk)
  unfold badA at this
  rw [hb] at this
  rcases ansA_cases net m t k with ⟨hn, _⟩ | ⟨u, hu, hg, hP⟩
  · rw [hn] at this; exact absurd rfl this
  · obtain ⟨x, y, z⟩ := ansAP_iff.1 hP
    exact ⟨u, hu, y, z, hu, x⟩
theorem allEternal_all (net : List Int) (h : Ok net) : AllEternal net (allOf net) := eternal_allEternal h (allOf_lt net) eternal_all
noncomputable def fewestAllEternal (net : List Int) : Nat := minSize net (allEternalB net)
theorem fewestAllEternal_min {net : List Int} (h : Ok net) : MinOf net (allEternalB net) (fewestAllEternal net) := minSize_is h ⟨allOf net, allOf_lt net, allEternalB_iff.2 (allEternal_all net h)⟩
/-- The answer of a set that all can keep up. -/
noncomputable def allAnswerI (net : List Int) (s p : Int) : Int := if (0 ≤ s ∧ s < 2 ^ net.length) ∧ (0 ≤ p ∧ p < net.length) ∧ allEternalB net s.toNat = true ∧ s.toNat.testBit p.toNat = false then ansA net (lastsA net) s.toNat p.toNat else -1
theorem allAnswerI_is {net : List Int} (h : Ok net) {s p : Nat} (hs : s < 2 ^ net.length) (hp : p < net.length) (he : AllEternal net s) (hb : s.testBit p = false) :
    ∃ u : Nat, u < 2 ^ net.length ∧ allAnswerI net s p = (u : Int) ∧ u.testBit p = true ∧ AllMove net s u ∧ AllEternal net u := by
  have e1 : allAnswerI net s p = ansA net (lastsA net) s p := by
    unfold allAnswerI
    rw [if_pos ⟨⟨by omega, by have : (s : Int) < ((2 ^ net.length : Nat) : Int) := by omega
                              simpa using this⟩, ⟨by omega, by omega⟩, by rw [Int.toNat_natCast]; exact allEternalB_iff.2 he, by simpa using hb⟩]
    simp only [Int.toNat_natCast]
  rw [e1]
  rcases ansA_cases net (lastsA net) s p with ⟨_, hno⟩ | ⟨u, hu, hg, hP⟩
  · exfalso
    obtain ⟨u, a, b, c, d⟩ := allEternal_closed net s hs he p hp hb
    have := hno u a
    rw [ansAP_iff.2 ⟨by rw [lastsA_elb a]; exact allEternalB_iff.2 d, b, c⟩] at this
    cases this
  · obtain ⟨x, y, z⟩ := ansAP_iff.1 hP
    rw [lastsA_elb hu, allEternalB_iff] at x
    exact ⟨u, hu, hg, y, z, x⟩
end Go.Proofs.Ytpmiinabjkdggaa
/- Draws of chapters 9 and 10. Conditions: those of each theorem. -/
namespace Go.Proofs.Ytpmiinabjkdggaa
open D Go.RowKit
set_option linter.unusedVariables false
set_option linter.unusedSimpArgs false


theorem thin_in {net : List Int} {s n : Nat} (hs : s < 2 ^ n) : thin net s < 2 ^ n := by
  unfold thin
  generalize net.length = m
  have key : ∀ k, fold k (fun t j => thinStep net t (m - 1 - j)) s < 2 ^ n := by
    intro k
    induction k with
    | zero => exact hs
    | succ k ih => rw [fold_succ]; exact thinStep_lt ih
  exact key m
end Go.Proofs.Ytpmiinabjkdggaa
/- Draws of rows, and of chapter 6's TotalOk. Conditions: those of each theorem. -/
namespace Go.Proofs.Ytpmiinabjkdggaa
open D Go.RowKit
set_option linter.unusedVariables false
set_option linter.unusedSimpArgs false


theorem rowOf_len (net : List Int) (s : Nat) : (rowOf net s).length = net.length := by
  unfold rowOf
  generalize net.length = n
  induction n with
  | zero => rfl
  | succ n ih => rw [fold_succ, List.length_append, ih]; rfl
theorem S.DrawTotalOk_is {code : List Int} (hb : Bytes code) : ∃ (v : Nat) (net : List Int), S.DrawTotalOk_t code = some ((v : Int), net) ∧ net.length ≤ 6 ∧ v < 128 := by
  unfold S.DrawTotalOk_t S.DrawTotalOk_tree
  obtain ⟨rb, e1, h1, h2⟩ := S.l20Open_is hb
  rw [e1]
  simp only [optC]
  obtain ⟨rp', net, v, e2, q1, q2, h3, h4, h5⟩ := S.l20Set_is (n := 12) h1 h2 (Int.le_refl 0) (by decide)
  rw [e2]
  simp only
  obtain ⟨w, rfl⟩ : ∃ w : Nat, v = w := ⟨v.toNat, by omega⟩
  rcases NetOk_cases net with ⟨h, g1, g2⟩ | ⟨_, g1, g2⟩
  · rw [g2]
    simp only [cond_true]
    have h64 := h.pow
    have hlo := h.lo
    obtain ⟨u, e3, b1, b2⟩ := S.l20Rd_pick_is (rp := rp') (n := 2) h1 h2 (by omega) (by omega)
    rw [e3]
    simp only
    cases hu : u == 0 with
    | true =>
      obtain ⟨y, e4, d1, d2⟩ := S.l20Rd_pick_is (rp := rp' + 1) (n := (net.length : Int)) h1 h2 (by omega) (by omega)
      have d2' := d2 (by omega)
      rw [cond_true, e4]
      simp only
      obtain ⟨k, rfl⟩ : ∃ k : Nat, y = k := ⟨y.toNat, by omega⟩
      have hk : k < net.length := by omega
      have hp : 2 ^ k < 2 ^ net.length := Nat.pow_lt_pow_right (by omega) hk
      have hpk : 0 < 2 ^ k := Nat.two_pow_pos _
      generalize ht : 2 ^ net.length - 1 - 2 ^ k = t
      rw [cnd_f (by rw [decide_eq_false_iff_not]; omega), pow_shl h, one_shl (by omega), sub1_nat (by omega) (by omega), sub_nat (by omega) (by omega), ht]
      exact ⟨_, _, rfl, h3, by omega⟩
    | false => exact ⟨_, _, rfl, h3, by omega⟩
  · rw [g2]
    exact ⟨_, _, rfl, h3, by omega⟩
end Go.Proofs.Ytpmiinabjkdggaa
/- The program's functions of chapter 7 in natural numbers. Conditions: those of each theorem. -/
namespace Go.Proofs.Ytpmiinabjkdggaa
open D Go.RowKit
set_option linter.unusedVariables false
set_option linter.unusedSimpArgs false


/-- The places that have just so many. -/
def eqN (n : Nat) (r : Nat → Nat) (m : Nat) : Nat := orN n (fun k => decide (r k = m)) (fun k => 2 ^ k)
theorem eqN_testBit (n : Nat) (r : Nat → Nat) (m j : Nat) : (eqN n r m).testBit j = true ↔ j < n ∧ r j = m := by
  unfold eqN
  rw [orN_testBit]
  constructor
  · rintro ⟨k, hk, a, b⟩
    rw [testBit_pow, decide_eq_true_eq] at b
    subst b
    exact ⟨hk, by simpa using a⟩
  · rintro ⟨a, b⟩
    exact ⟨j, a, by simpa using b, by rw [testBit_pow]; simp⟩
theorem eqN_lt (n : Nat) (r : Nat → Nat) (m : Nat) : eqN n r m < 2 ^ n := orN_lt fun k hk _ => Nat.pow_lt_pow_right (by omega) hk
theorem roman_sets {net row : List Int} (h : Ok net) (hr : RowIs net.length row) : (minus (eqN net.length (rv row) 0) (near net (eqN net.length (rv row) 2)) == 0) = romanB net row := by
  have h64 := h.pow
  have a0 := eqN_lt net.length (rv row) 0
  have hn := h.near_lt (eqN net.length (rv row) 2)
  rw [Bool.eq_iff_iff, beq_iff_eq, romanB_iff]
  constructor
  · intro he k hk h0
    have h1 : (minus (eqN net.length (rv row) 0) (near net (eqN net.length (rv row) 2))).testBit k = false := by rw [he]; simp
    rw [minus_testBit _ _ (by omega) (by omega), (eqN_testBit _ _ _ _).2 ⟨hk, h0⟩, Bool.true_and, Bool.not_eq_false'] at h1
    obtain ⟨j, hj, b, c⟩ := (near_iff h _ hk).1 h1
    rw [eqN_testBit] at b
    exact ⟨j, hj, c, by omega⟩
  · intro hR
    refine Nat.eq_of_testBit_eq fun k => ?_
    rw [minus_testBit _ _ (by omega) (by omega), Nat.zero_testBit]
    cases hb : (eqN net.length (rv row) 0).testBit k with
    | false => rfl
    | true =>
      obtain ⟨hk, h0⟩ := (eqN_testBit _ _ _ _).1 hb
      obtain ⟨j, hj, b, c⟩ := hR k hk h0
      have h2 := hr.le j hj
      rw [(near_iff h _ hk).2 ⟨j, hj, (eqN_testBit _ _ _ _).2 ⟨hj, by omega⟩, b⟩]
      rfl
theorem best_row {net : List Int} (h : Ok net) : RowIs net.length (bestRow net.length (romanB net)) := by
  have h3 : 0 < 3 ^ net.length := Nat.pow_pos (by omega)
  rcases bestRow_fold h.lo (romanB net) (3 ^ net.length) with ⟨_, b⟩ | ⟨b, _, e, _⟩
  · have := b (3 ^ net.length - 1) (by omega)
    rw [roman_last h] at this; cases this
  · unfold bestRow; rw [e]; exact digs_row _ _
theorem row_ext {n : Nat} {l : List Int} {f : Nat → Int} (hl : l.length = n) (h : ∀ k, k < n → D.eli l k = f k) : l = fold n (fun l k => l ++ [f k]) [] := by
  apply List.ext_getElem (by rw [hl, fold_app_len])
  intro j hj hj2
  have a := h j (by omega)
  have b := fold_app_eli (n := n) (k := j) (f := f) (by omega)
  unfold D.eli at a b
  simp only [List.getD, List.getElem?_eq_getElem hj, List.getElem?_eq_getElem hj2, Option.getD_some] at a b
  rw [a, b]
end Go.Proofs.Ytpmiinabjkdggaa
/- GuardMoved in natural numbers. Conditions: those of each theorem. -/
namespace Go.Proofs.Ytpmiinabjkdggaa
open D Go.RowKit
set_option linter.unusedVariables false
set_option linter.unusedSimpArgs false


def mayMove (net : List Int) (s f t : Nat) : Bool := s.testBit f && (!s.testBit t && (nb net f).testBit t)
def movedI (net : List Int) (s f t : Int) : Int := if (0 ≤ s ∧ s < 2 ^ net.length) ∧ (0 ≤ f ∧ f < net.length) ∧ (0 ≤ t ∧ t < net.length) ∧ mayMove net s.toNat f.toNat t.toNat = true then ((moved s.toNat f.toNat t.toNat : Nat) : Int) else -1
theorem movedI_nat {net : List Int} {s f t : Nat} (hs : s < 2 ^ net.length) (hf : f < net.length) (ht : t < net.length) : movedI net s f t = if mayMove net s f t = true then ((moved s f t : Nat) : Int) else -1 := by
  unfold movedI
  simp only [Int.toNat_natCast]
  cases mayMove net s f t with
  | true => rw [if_pos ⟨⟨by omega, by rw [two_pow_cast]; omega⟩, ⟨by omega, by omega⟩, ⟨by omega, by omega⟩, rfl⟩, if_pos rfl]
  | false => rw [if_neg (fun hc => by have := hc.2.2.2; simp at this), if_neg (by simp)]
end Go.Proofs.Ytpmiinabjkdggaa
/- The program's functions of chapter 8 in natural numbers. Conditions: those of each theorem. -/
namespace Go.Proofs.Ytpmiinabjkdggaa
open D Go.RowKit
set_option linter.unusedVariables false
set_option linter.unusedSimpArgs false


/-- Can a guard come to a place without one? -/
def comeB (net : List Int) (s t : Nat) : Bool := (List.range net.length).any fun f => mayMove net s f t && W net (moved s f t)
theorem come_can {net : List Int} (h : Ok net) {s t : Nat} (ht : t < net.length) (hb : s.testBit t = false) : comeB net s t = canB net s t := by
  unfold comeB canB
  rw [Bool.eq_iff_iff, List.any_eq_true, List.any_eq_true]
  refine exists_congr fun f => and_congr_right fun hf => ?_
  have hf := List.mem_range.1 hf
  unfold mayMove
  rw [hb, h.sym t f ht hf]
  cases s.testBit f <;> cases (nb net f).testBit t <;> simp
/-- The places with guards, when one guard leaves a place. -/
def lessN (n : Nat) (r : Nat → Nat) (f : Nat) : Nat := if r f = 1 then (if (eqN n r 1 ||| eqN n r 2).testBit f = true then (eqN n r 1 ||| eqN n r 2) - 2 ^ f else eqN n r 1 ||| eqN n r 2) else eqN n r 1 ||| eqN n r 2
theorem guarded_lt (n : Nat) (r : Nat → Nat) : (eqN n r 1 ||| eqN n r 2) < 2 ^ n := Nat.or_lt_two_pow (eqN_lt _ _ _) (eqN_lt _ _ _)
theorem lessN_lt (n : Nat) (r : Nat → Nat) (f : Nat) : lessN n r f < 2 ^ n := by
  have := guarded_lt n r
  unfold lessN
  split
  · split
    · exact Nat.lt_of_le_of_lt (Nat.sub_le _ _) this
    · exact this
  · exact this
theorem lessN_leave {net row : List Int} (h : Ok net) (hr : RowIs net.length row) {f p : Nat} (hf : f < net.length) (hp : p < net.length) (h0 : rv row p = 0) (h1 : 1 ≤ rv row f) :
    (lessN net.length (rv row) f ||| 2 ^ p) = withN net.length (leave (rv row) f p) 1 := by
  have h6 := h.hi
  have h64 := h.pow
  have hg := guarded_lt net.length (rv row)
  have hlt := lessN_lt net.length (rv row) f
  have hpl : 2 ^ p < 2 ^ net.length := Nat.pow_lt_pow_right (by omega) hp
  have hgb : ∀ j, j < net.length → ((eqN net.length (rv row) 1 ||| eqN net.length (rv row) 2).testBit j = true ↔ 1 ≤ rv row j) := fun j hj => by
    have := hr.le j hj
    rw [or2, eqN_testBit, eqN_testBit]
    omega
  refine eq_of_bits (n := net.length) (Nat.or_lt_two_pow hlt hpl) (withN_lt _ _ _) (fun j hj => ?_)
  have hl := hr.le j hj
  rw [Bool.eq_iff_iff, or2, testBit_pow, decide_eq_true_eq, withN_testBit]
  unfold leave lessN
  by_cases hjp : j = p
  · subst hjp; simp [hj]
  · have hpj : ¬ p = j := fun e => hjp e.symm
    simp only [hpj, or_false, hj, true_and, if_neg hjp]
    by_cases hjf : j = f
    · subst hjf
      rw [if_pos rfl]
      by_cases e1 : rv row j = 1
      · rw [if_pos e1, if_pos ((hgb j hj).2 (by omega)), sub_testBit (by omega) (by omega) ((hgb j hj).2 (by omega)), Bool.and_eq_true, Bool.not_eq_true', decide_eq_false_iff_not]
        exact ⟨fun a => absurd rfl a.2, fun a => by omega⟩
      · rw [if_neg e1, hgb j hj]; omega
    · rw [if_neg hjf]
      by_cases e1 : rv row f = 1
      · rw [if_pos e1, if_pos ((hgb f hf).2 (by omega)), sub_testBit (by omega) (by omega) ((hgb f hf).2 (by omega)), Bool.and_eq_true, Bool.not_eq_true', decide_eq_false_iff_not, hgb j hj]
        exact ⟨fun a => a.1, fun a => ⟨a, hjf⟩⟩
      · rw [if_neg e1, hgb j hj]
end Go.Proofs.Ytpmiinabjkdggaa
/- AnsweredAll in natural numbers. Conditions: those of each theorem. -/
namespace Go.Proofs.Ytpmiinabjkdggaa
open D Go.RowKit
set_option linter.unusedVariables false
set_option linter.unusedSimpArgs false


/-- The set after one ask. -/
noncomputable def ansNext (net : List Int) (s p : Nat) : Nat := if s.testBit p = true then s else moved s (ansI net (lasts net) s p).toNat p
noncomputable def ansStep (net places : List Int) (t : Nat × List Int) (k : Nat) : List Int ⊕ (Nat × List Int) :=
  if 0 ≤ D.eli places k ∧ D.eli places k < net.length then .inr (ansNext net t.1 (D.eli places k).toNat, t.2 ++ [((ansNext net t.1 (D.eli places k).toNat : Nat) : Int)]) else .inl t.2
noncomputable def answered (net : List Int) (s : Nat) (places : List Int) : List Int := match loopE places.length (ansStep net places) (s, [(s : Int)]) with | .inl _ => [] | .inr t => t.2
noncomputable def answeredI (net : List Int) (s : Int) (places : List Int) : List Int := if (0 ≤ s ∧ s < 2 ^ net.length) ∧ eternalB net s.toNat = true then answered net s.toNat places else []
theorem ansI_eternal {net : List Int} {s p : Nat} (hs : s < 2 ^ net.length) (hp : p < net.length) (he : Eternal net s) (hb : s.testBit p = false) :
    ∃ f, f < net.length ∧ ansI net (lasts net) s p = (f : Int) ∧ s.testBit f = true ∧ (nb net p).testBit f = true ∧ Eternal net (moved s f p) := by
  rcases ansI_cases net (lasts net) s p with ⟨_, hno⟩ | ⟨f, hf, hg, hP⟩
  · exfalso
    obtain ⟨f, a, b, c⟩ := eternal_closed net s hs he p hp hb
    have := hno f (in_lt hs a)
    unfold ansP at this
    rw [a, b, lasts_elb (moved_lt hs hp), eternalB_iff.2 c] at this
    cases this
  · unfold ansP at hP
    rw [Bool.and_eq_true, Bool.and_eq_true, lasts_elb (moved_lt hs hp), eternalB_iff] at hP
    exact ⟨f, hf, hg, hP.1, hP.2.1, hP.2.2⟩
theorem ansNext_is {net : List Int} (h : Ok net) {s p : Nat} (hs : s < 2 ^ net.length) (hp : p < net.length) (he : Eternal net s) :
    ansNext net s p < 2 ^ net.length ∧ Eternal net (ansNext net s p) ∧ size (ansNext net s p) = size s ∧ (ansNext net s p).testBit p = true := by
  unfold ansNext
  have h6 := h.hi
  have h64 := h.pow
  cases hb : s.testBit p with
  | true => rw [if_pos rfl]; exact ⟨hs, he, rfl, hb⟩
  | false =>
    rw [if_neg (by simp)]
    obtain ⟨f, hf, e, a, _, c⟩ := ansI_eternal hs hp he hb
    rw [e, Int.toNat_natCast]
    exact ⟨moved_lt hs hp, c, moved_size (by omega) (by omega) (by omega) a hb, (moved_testBit (by omega) (by omega) a p).2 (.inr rfl)⟩
/-- What the list of answers holds. -/
def AnsInv (net places : List Int) (s k : Nat) (t : Nat × List Int) : Prop :=
  t.1 < 2 ^ net.length ∧ t.2.length = k + 1 ∧ D.eli t.2 0 = s ∧
  (∀ j, j ≤ k → ∃ u : Nat, D.eli t.2 j = u ∧ u < 2 ^ net.length ∧ Eternal net u ∧ size u = size s ∧ (j = k → u = t.1)) ∧
  ∀ j, j < k → ∃ p : Nat, D.eli places j = p ∧ p < net.length ∧ (D.eli t.2 (j + 1)).toNat.testBit p = true
theorem eli_app {l m : List Int} {k : Nat} (hk : k < l.length) : D.eli (l ++ m) k = D.eli l k := by
  unfold D.eli; simp [List.getD, List.getElem?_append_left hk]
theorem eli_app_end (l : List Int) (x : Int) : D.eli (l ++ [x]) l.length = x := by
  unfold D.eli; simp [List.getD]
theorem ans_inv {net : List Int} (h : Ok net) (places : List Int) {s : Nat} (hs : s < 2 ^ net.length) (he : Eternal net s) : ∀ k, ∀ t, loopE k (ansStep net places) (s, [(s : Int)]) = .inr t → AnsInv net places s k t := by
  intro k
  induction k with
  | zero =>
    intro t ht
    rw [loopE_zero] at ht
    injection ht with ht
    subst ht
    refine ⟨hs, rfl, rfl, fun j hj => ⟨s, ?_, hs, he, rfl, fun _ => rfl⟩, fun j hj => by omega⟩
    rw [show j = 0 by omega]; rfl
  | succ k ih =>
    intro t ht
    cases hq : loopE k (ansStep net places) (s, [(s : Int)]) with
    | inl d =>
      have e : loopE (k + 1) (ansStep net places) (s, [(s : Int)]) = .inl d := by unfold loopE at hq ⊢; rw [fold_succ, hq]
      rw [e] at ht; cases ht
    | inr u =>
      rw [loopE_succ hq] at ht
      obtain ⟨i1, i2, i3, i4, i5⟩ := ih u hq
      unfold ansStep at ht
      by_cases hp : 0 ≤ D.eli places k ∧ D.eli places k < net.length
      · rw [if_pos hp] at ht
        injection ht with ht
        subst ht
        obtain ⟨p, hp1⟩ : ∃ p : Nat, D.eli places k = p := ⟨(D.eli places k).toNat, by omega⟩
        rw [hp1, Int.toNat_natCast]
        have hp2 : p < net.length := by omega
        obtain ⟨w, w1, w2, w3, w4, w5⟩ := i4 k (Nat.le_refl _)
        have w6 := w5 rfl
        subst w6
        obtain ⟨n1, n2, n3, n4⟩ := ansNext_is h w2 hp2 w3
        have last : D.eli (u.2 ++ [((ansNext net u.1 p : Nat) : Int)]) (k + 1) = ((ansNext net u.1 p : Nat) : Int) := by rw [← i2]; exact eli_app_end _ _
        refine ⟨n1, by rw [List.length_append, i2]; rfl, by rw [eli_app (by omega)]; exact i3, fun j hj => ?_, fun j hj => ?_⟩
        · by_cases hjk : j = k + 1
          · subst hjk
            exact ⟨_, last, n1, n2, n3.trans w4, fun _ => rfl⟩
          · obtain ⟨v, v1, v2, v3, v4, _⟩ := i4 j (by omega)
            exact ⟨v, by rw [eli_app (by omega)]; exact v1, v2, v3, v4, fun e => absurd e hjk⟩
        · by_cases hjk : j = k
          · subst hjk
            exact ⟨p, hp1, hp2, by rw [last, Int.toNat_natCast]; exact n4⟩
          · obtain ⟨q, q1, q2, q3⟩ := i5 j (by omega)
            exact ⟨q, q1, q2, by rw [eli_app (by omega)]; exact q3⟩
      · rw [if_neg hp] at ht; cases ht
end Go.Proofs.Ytpmiinabjkdggaa
/- The program's functions of chapter 9 in natural numbers. Conditions: those of each theorem. -/
namespace Go.Proofs.Ytpmiinabjkdggaa
open D Go.RowKit
set_option linter.unusedVariables false
set_option linter.unusedSimpArgs false


/-- The sets in which one guard has moved. -/
def mvIn (net : List Int) (s f : Nat) (l : List Int) (t : Nat) : List Int := if mayMove net s f t = true then l ++ [((moved s f t : Nat) : Int)] else l
def mvOut (net : List Int) (s : Nat) (l : List Int) (f : Nat) : List Int := fold net.length (mvIn net s f) l
def mvs (net : List Int) (s : Nat) : List Int := fold net.length (mvOut net s) []
theorem mvIn_fold (net : List Int) (s f : Nat) (l : List Int) : ∀ m, (fold m (mvIn net s f) l).length ≤ l.length + m ∧ ∀ x, x ∈ fold m (mvIn net s f) l ↔ x ∈ l ∨ ∃ t, t < m ∧ mayMove net s f t = true ∧ x = ((moved s f t : Nat) : Int) := by
  intro m
  induction m with
  | zero => exact ⟨Nat.le_refl _, fun x => ⟨.inl, fun h => h.elim id fun ⟨t, ht, _⟩ => by omega⟩⟩
  | succ m ih =>
    rw [fold_succ]
    generalize fold m (mvIn net s f) l = g at ih ⊢
    obtain ⟨a, b⟩ := ih
    unfold mvIn
    by_cases hm : mayMove net s f m = true
    · rw [if_pos hm]
      refine ⟨by rw [List.length_append]; simp; omega, fun x => ?_⟩
      rw [List.mem_append, b, List.mem_singleton]
      constructor
      · rintro ((h | ⟨t, h1, h2⟩) | h)
        · exact .inl h
        · exact .inr ⟨t, by omega, h2⟩
        · exact .inr ⟨m, by omega, hm, h⟩
      · rintro (h | ⟨t, h1, h2, h3⟩)
        · exact .inl (.inl h)
        · by_cases he : t = m
          · subst he; exact .inr h3
          · exact .inl (.inr ⟨t, by omega, h2, h3⟩)
    · rw [if_neg hm]
      refine ⟨by omega, fun x => ?_⟩
      rw [b]
      constructor
      · rintro (h | ⟨t, h1, h2⟩)
        · exact .inl h
        · exact .inr ⟨t, by omega, h2⟩
      · rintro (h | ⟨t, h1, h2, h3⟩)
        · exact .inl h
        · by_cases he : t = m
          · subst he; exact absurd h2 hm
          · exact .inr ⟨t, by omega, h2, h3⟩
theorem mvOut_fold (net : List Int) (s : Nat) : ∀ m, (fold m (mvOut net s) []).length ≤ m * net.length ∧ ∀ x, x ∈ fold m (mvOut net s) [] ↔ ∃ f t, f < m ∧ t < net.length ∧ mayMove net s f t = true ∧ x = ((moved s f t : Nat) : Int) := by
  intro m
  induction m with
  | zero => exact ⟨Nat.zero_le _, fun x => ⟨fun h => (by cases h), fun ⟨f, t, hf, _⟩ => by omega⟩⟩
  | succ m ih =>
    rw [fold_succ]
    generalize fold m (mvOut net s) [] = g at ih ⊢
    obtain ⟨a, b⟩ := ih
    unfold mvOut
    obtain ⟨a2, b2⟩ := mvIn_fold net s m g net.length
    refine ⟨by rw [Nat.succ_mul]; omega, fun x => ?_⟩
    rw [b2, b]
    constructor
    · rintro (⟨f, t, h1, h2⟩ | ⟨t, h1, h2, h3⟩)
      · exact ⟨f, t, by omega, h2⟩
      · exact ⟨m, t, by omega, h1, h2, h3⟩
    · rintro ⟨f, t, h1, h2, h3, h4⟩
      by_cases he : f = m
      · subst he; exact .inr ⟨t, h2, h3, h4⟩
      · exact .inl ⟨f, t, by omega, h2, h3, h4⟩
theorem mvs_len {net : List Int} (h : Ok net) (s : Nat) : (mvs net s).length ≤ 36 := by
  have := (mvOut_fold net s net.length).1
  have h6 := h.hi
  have := Nat.mul_le_mul h6 h6
  unfold mvs
  omega
theorem mvs_mem (net : List Int) (s : Nat) (x : Int) : x ∈ mvs net s ↔ ∃ f t, f < net.length ∧ t < net.length ∧ mayMove net s f t = true ∧ x = ((moved s f t : Nat) : Int) := (mvOut_fold net s net.length).2 x
theorem mayMove_bit {net : List Int} {s f t : Nat} (h : mayMove net s f t = true) : s.testBit f = true ∧ s.testBit t = false ∧ (nb net f).testBit t = true := by
  unfold mayMove at h
  rw [Bool.and_eq_true, Bool.and_eq_true, Bool.not_eq_true'] at h
  exact ⟨h.1, h.2.1, h.2.2⟩
theorem elr_set {l : List (List Int)} {k j : Nat} {v : List Int} (hk : k < l.length) : D.elr (l.set k v) j = if j = k then v else D.elr l j := by
  unfold D.elr
  by_cases hj : j = k
  · subst hj; simp [List.getD, hk]
  · rw [if_neg hj]
    simp [List.getD, List.getElem?_set_ne (fun e => hj e.symm)]
theorem rows_ext {N : Nat} {l : List (List Int)} {f : Nat → List Int} (hl : l.length = N) (h : ∀ k, k < N → D.elr l k = f k) : l = (List.range N).map f := by
  apply List.ext_getElem (by simp [hl])
  intro j hj hj2
  have a := h j (by omega)
  unfold D.elr at a
  simp only [List.getD, List.getElem?_eq_getElem hj, Option.getD_some] at a
  rw [a]; simp
theorem rows_at {N k : Nat} {f : Nat → List Int} (hk : k < N) : D.elr ((List.range N).map f) k = f k := by unfold D.elr; simp [List.getD, hk]
/-- What is answered by going to sets that last. -/
def ansS (l : List Bool) (s : Nat) (L : List Int) : Nat := fold L.length (fun t k => if D.elb l (D.eli L k).toNat = true then t ||| (D.eli L k).toNat else t) s
theorem ansS_bit (l : List Bool) (s : Nat) (L : List Int) (j : Nat) : (ansS l s L).testBit j = true ↔ s.testBit j = true ∨ ∃ k, k < L.length ∧ D.elb l (D.eli L k).toNat = true ∧ (D.eli L k).toNat.testBit j = true := by
  unfold ansS
  generalize L.length = N
  induction N with
  | zero => exact ⟨.inl, fun h => h.elim id fun ⟨k, hk, _⟩ => by omega⟩
  | succ N ih =>
    rw [fold_succ]
    by_cases hb : D.elb l (D.eli L N).toNat = true
    · rw [if_pos hb, Nat.testBit_or, Bool.or_eq_true, ih]
      constructor
      · rintro ((h | ⟨k, h1, h2⟩) | h)
        · exact .inl h
        · exact .inr ⟨k, by omega, h2⟩
        · exact .inr ⟨N, by omega, hb, h⟩
      · rintro (h | ⟨k, h1, h2, h3⟩)
        · exact .inl (.inl h)
        · by_cases he : k = N
          · subst he; exact .inr h3
          · exact .inl (.inr ⟨k, by omega, h2, h3⟩)
    · rw [if_neg hb, ih]
      constructor
      · rintro (h | ⟨k, h1, h2⟩)
        · exact .inl h
        · exact .inr ⟨k, by omega, h2⟩
      · rintro (h | ⟨k, h1, h2, h3⟩)
        · exact .inl h
        · by_cases he : k = N
          · subst he; exact absurd h2 hb
          · exact .inr ⟨k, by omega, h2, h3⟩
def Among (n : Nat) (L : List Int) : Prop := L.length ≤ 1000 ∧ ∀ k, k < L.length → ∃ u : Nat, D.eli L k = (u : Int) ∧ u < 2 ^ n
theorem ansS_lt {n : Nat} {l : List Bool} {s : Nat} {L : List Int} (hs : s < 2 ^ n) (hL : Among n L) : ∀ N, N ≤ L.length → fold N (fun t k => if D.elb l (D.eli L k).toNat = true then t ||| (D.eli L k).toNat else t) s < 2 ^ n := by
  intro N
  induction N with
  | zero => intro _; exact hs
  | succ N ih =>
    intro hN
    rw [fold_succ]
    have := ih (by omega)
    split
    · obtain ⟨u, e, hu⟩ := hL.2 N (by omega)
      rw [e, Int.toNat_natCast]
      exact Nat.or_lt_two_pow this hu
    · exact this
theorem all_bits {net : List Int} {x : Nat} (hx : x < 2 ^ net.length) : (x == allOf net) = true ↔ ∀ k, k < net.length → x.testBit k = true := by
  rw [beq_iff_eq]
  constructor
  · intro e k hk; rw [e, allOf_testBit]; simpa using hk
  · intro ha
    exact eq_of_bits hx (allOf_lt net) (fun j hj => by rw [ha j hj, allOf_testBit]; simp [hj])
theorem mem_at {L : List Int} {x : Int} (h : x ∈ L) : ∃ k, k < L.length ∧ D.eli L k = x := by
  obtain ⟨k, hk, e⟩ := List.getElem_of_mem h
  exact ⟨k, hk, by unfold D.eli; simp [List.getD, hk, e]⟩
theorem at_mem {L : List Int} {k : Nat} (hk : k < L.length) : D.eli L k ∈ L := by
  have : D.eli L k = L[k] := by unfold D.eli; simp [List.getD, hk]
  rw [this]; exact List.getElem_mem hk
theorem mvs_among {net : List Int} (h : Ok net) {s : Nat} (hs : s < 2 ^ net.length) : Among net.length (mvs net s) := by
  refine ⟨by have := mvs_len h s; omega, fun k hk => ?_⟩
  obtain ⟨f, t, _, ht, _, e⟩ := (mvs_mem net s _).1 (at_mem hk)
  exact ⟨_, e, moved_lt hs ht⟩
theorem fewest_marks {net : List Int} (h : Ok net) {l : List Bool} (hl : l.length = 2 ^ net.length) {p : Nat → Bool} (hp : ∀ s, s < 2 ^ net.length → D.elb l s = p s) (hex : ∃ s, s < 2 ^ net.length ∧ p s = true) :
    fold l.length (minStepV (D.elb l) size) (-1) = ((minSize net p : Nat) : Int) := by
  rw [← minI_min h hex, hl]
  unfold minI
  rw [minStep_V]
  have key : ∀ N, N ≤ 2 ^ net.length → fold N (minStepV (D.elb l) size) (-1) = fold N (minStepV p size) (-1) := by
    intro N
    induction N with
    | zero => intro _; rfl
    | succ N ih =>
      intro hN
      rw [fold_succ, fold_succ, ih (by omega)]
      unfold minStepV
      rw [hp N (by omega)]
  exact key _ (Nat.le_refl _)
end Go.Proofs.Ytpmiinabjkdggaa
/- The program's functions of chapters 4 to 9, together. Conditions: none. -/
/- Laws of chapter 7, and TotalOk. Conditions: those of each theorem. -/
namespace Go.Proofs.Ytpmiinabjkdggaa
open D Go.RowKit
set_option linter.unusedVariables false
set_option linter.unusedSimpArgs false


theorem watch_in {net : List Int} (h : Ok net) (g1 : I.NetOk_t net = some true) {t : Nat} (ht : t < 2 ^ net.length) (hw : W net t = true) : I.WatchOk_t net (t : Int) = some true := by
  rw [I.WatchOk_n h g1, set_in ht, Int.toNat_natCast, hw]; rfl
/-- All places have a guard, or are seen by two. -/
theorem roman_cover {net : List Int} (h : Ok net) {r : Nat → Nat} (hr : RomanP net r) : withN net.length r 1 ||| seen net (withN net.length r 2) = allOf net := by
  refine Nat.eq_of_testBit_eq fun j => ?_
  rw [Bool.eq_iff_iff, or2, allOf_testBit, decide_eq_true_eq]
  constructor
  · rintro (a | a)
    · exact ((withN_testBit _ _ _ _).1 a).1
    · exact testBit_lt (h.seen_lt (withN_lt _ _ _)) a
  · intro hj
    by_cases h0 : r j = 0
    · obtain ⟨k, hk, a, b⟩ := hr j hj h0
      exact .inr ((seen_balls h (withN_lt _ _ _)).2 ⟨k, hk, (withN_testBit _ _ _ _).2 ⟨hk, b⟩, (ball_testBit _ _ _).2 (.inl (by rw [h.sym j k hj hk]; exact a))⟩)
    · exact .inl ((withN_testBit _ _ _ _).2 ⟨hj, by omega⟩)
theorem L.FnTotalOk_is {code : List Int} (hm : code.length ≤ maxLen) (hw : ∀ n ∈ code, (Lit.int .u8 n).wf = true) : L.FnTotalOk_t code = some true := by
  unfold L.FnTotalOk_t L.FnTotalOk_tree
  by_cases hc : (code.length : Int) > 1048576
  · rw [cnd_t (by simpa using hc)]
  rw [cnd_f (by simpa using hc)]
  obtain ⟨s, net, e1, h1, h2⟩ := S.DrawTotalOk_is (Bytes.wf hw)
  rw [e1]
  simp only [optC]
  rcases NetOk_cases net with ⟨h, g1, g2⟩ | ⟨_, g1, g2⟩
  · have h6 := h.hi
    have h64 := h.pow
    have hb : ∀ t : Nat, t < 2 ^ net.length → I.TotalOk_t net (t : Int) = some (total net t) := fun t ht => by rw [I.TotalOk_n h g1, set_in ht, Int.toNat_natCast]; rfl
    have hall : I.TotalOk_t net (IntKind.i64.wrap (IntKind.i64.wrap (1 * 2 ^ min (↑net.length : Int).toNat IntKind.i64.bits) - 1)) = some (total net (allOf net)) := by rw [all_shl h]; exact hb _ (allOf_lt net)
    have hlone : (total net (allOf net) == (((lone net : Nat) : Int) == 0)) = true := by
      rw [beq_iff_eq, Bool.eq_iff_iff, beq_iff_eq, lone_zero, total_all h]
    rw [I.TotalOk_n h g1, S.TotalOk_n h g2, g1, hall, I.LoneOf_n h g1, L.alive_is]
    simp only [hlone]
    rw [cnd_f (by simp), cnd_f (by rfl)]
    cases hok : decide (0 ≤ (s : Int) ∧ (s : Int) < 2 ^ net.length) && total net (s : Int).toNat with
    | false => rfl
    | true =>
      rw [Bool.and_eq_true, Int.toNat_natCast] at hok
      have hs := set_lt hok.1
      rw [cond_true, watch_in h g1 hs (total_watch h hs hok.2)]
      have := total_mono h (fun j hj => by rw [allOf_testBit]; simpa using in_lt hs hj) hok.2
      rw [this]
      rfl
  · rw [I.TotalOk_x g1, S.TotalOk_x g2, g1, L.alive_is]
    rfl
def fr (net : List Int) (s : Nat) : Nat := 2 * size s + net.length - size (seen net s)
theorem roman_best {net : List Int} (h : Ok net) : fold (2 ^ net.length) (fun t s => if fr net s < t then fr net s else t) net.length = fewestRoman net := by
  have hmin := fewestRoman_min h
  obtain ⟨r, hr1, hr2, hr3⟩ := hmin.ex
  obtain ⟨m1, m2⟩ := minFold2 (n := 2 ^ net.length) (c := net.length) (f := fr net)
  have hge : fewestRoman net ≤ fold (2 ^ net.length) (fun t s => if fr net s < t then fr net s else t) net.length := by
    have key : ∀ N, N ≤ 2 ^ net.length → fewestRoman net ≤ fold N (fun t s => if fr net s < t then fr net s else t) net.length := by
      intro N
      induction N with
      | zero => intro _; have := hmin.le (fun _ => 1) (fun _ _ => by show 1 ≤ 2; omega) ones_row.1; rw [ones_row (net := net) |>.2] at this; exact this
      | succ N ih =>
        intro hN
        rw [fold_succ]
        split
        · have hs : N < 2 ^ net.length := by omega
          obtain ⟨q1, q2⟩ := rowOfN_roman h hs
          have := hmin.le _ q1 q2
          have := rowOfN_sum h hs
          unfold fr; omega
        · exact ih (by omega)
    exact key _ (Nat.le_refl _)
  have hle := m1 _ (withN_lt net.length r 2)
  have := roman_ge h hr2
  unfold fr at hle
  have hz := size_le_len h (h.seen_lt (withN_lt net.length r 2))
  unfold fr at hge ⊢
  omega
theorem rowOf_eli {net : List Int} {s k : Nat} (hk : k < net.length) : D.eli (rowOf net s) k = ((rowOfN net s k : Nat) : Int) := fold_app_eli hk
theorem rowOf_rv {net : List Int} {s k : Nat} (hk : k < net.length) : rv (rowOf net s) k = rowOfN net s k := by show (D.eli (rowOf net s) k).toNat = _; rw [rowOf_eli hk]; omega
theorem rowOf_row {net : List Int} (h : Ok net) {s : Nat} (hs : s < 2 ^ net.length) : RowIs net.length (rowOf net s) :=
  ⟨rowOf_len net s, fun k hk => by rw [rowOf_rv hk]; exact rowOf_eli hk, fun k hk => by rw [rowOf_rv hk]; exact (rowOfN_roman h hs).1 k hk⟩
theorem rowOf_two {net : List Int} {s : Nat} (hs : s < 2 ^ net.length) : withN net.length (rv (rowOf net s)) 2 = s := by
  refine Nat.eq_of_testBit_eq fun j => ?_
  rw [Bool.eq_iff_iff, withN_testBit]
  constructor
  · rintro ⟨hj, h2⟩
    rw [rowOf_rv hj] at h2
    unfold rowOfN at h2
    cases hb : s.testBit j with
    | true => rfl
    | false =>
      rw [hb] at h2
      simp only [Bool.false_eq_true, if_false] at h2
      split at h2 <;> omega
  · intro hj
    have hl := in_lt hs hj
    refine ⟨hl, ?_⟩
    rw [rowOf_rv hl]
    unfold rowOfN
    rw [if_pos hj]; omega
end Go.Proofs.Ytpmiinabjkdggaa
/- Exact laws of chapter 6 but MostLeaves. Conditions: those of each theorem. -/
namespace Go.Proofs.Ytpmiinabjkdggaa
open D Go.RowKit
set_option linter.unusedVariables false
set_option linter.unusedSimpArgs false


theorem TotalOk_same {a0 : List Int} {a1 : Int} : ∃ v, S.TotalOk_t a0 a1 = some v ∧ I.TotalOk_t a0 a1 = some v := by
  rcases NetOk_cases a0 with ⟨h, e1, e2⟩ | ⟨_, e1, e2⟩
  · exact ⟨_, S.TotalOk_n h e2 a1, I.TotalOk_n h e1 a1⟩
  · exact ⟨_, S.TotalOk_x e2 a1, I.TotalOk_x e1 a1⟩
theorem L.FnExactTotalOk_is {a0 : List Int} {a1 : Int} : L.FnExactTotalOk_t a0 a1 = some true := by
  unfold L.FnExactTotalOk_t L.FnExactTotalOk_tree
  by_cases ha0 : (a0.length : Int) > 1048576
  · rw [cnd_t (by simpa using ha0)]
  rw [cnd_f (by simpa using ha0)]
  have ta0 := L.toIntS_is (a := a0) (by omega)
  have ea0 := L.eqIntS_is (a := a0) (b := a0) (by omega)
  obtain ⟨b, h1, h2⟩ := TotalOk_same (a0 := a0) (a1 := a1)
  simp only [optC, ta0, ea0, h1, h2]
  simp
theorem TogetherOk_same {a0 : List Int} {a1 : Int} : ∃ v, S.TogetherOk_t a0 a1 = some v ∧ I.TogetherOk_t a0 a1 = some v := by
  rcases NetOk_cases a0 with ⟨h, e1, e2⟩ | ⟨_, e1, e2⟩
  · exact ⟨_, S.TogetherOk_n h e2 a1, I.TogetherOk_n h e1 a1⟩
  · exact ⟨_, S.TogetherOk_x e2 a1, I.TogetherOk_x e1 a1⟩
theorem L.FnExactTogetherOk_is {a0 : List Int} {a1 : Int} : L.FnExactTogetherOk_t a0 a1 = some true := by
  unfold L.FnExactTogetherOk_t L.FnExactTogetherOk_tree
  by_cases ha0 : (a0.length : Int) > 1048576
  · rw [cnd_t (by simpa using ha0)]
  rw [cnd_f (by simpa using ha0)]
  have ta0 := L.toIntS_is (a := a0) (by omega)
  have ea0 := L.eqIntS_is (a := a0) (b := a0) (by omega)
  obtain ⟨b, h1, h2⟩ := TogetherOk_same (a0 := a0) (a1 := a1)
  simp only [optC, ta0, ea0, h1, h2]
  simp
theorem JoinedWatchOk_same {a0 : List Int} {a1 : Int} : ∃ v, S.JoinedWatchOk_t a0 a1 = some v ∧ I.JoinedWatchOk_t a0 a1 = some v := by
  rcases NetOk_cases a0 with ⟨h, e1, e2⟩ | ⟨_, e1, e2⟩
  · exact ⟨_, S.JoinedWatchOk_n h e2 a1, I.JoinedWatchOk_n h e1 a1⟩
  · exact ⟨_, S.JoinedWatchOk_x e2 a1, I.JoinedWatchOk_x e1 a1⟩
theorem L.FnExactJoinedWatchOk_is {a0 : List Int} {a1 : Int} : L.FnExactJoinedWatchOk_t a0 a1 = some true := by
  unfold L.FnExactJoinedWatchOk_t L.FnExactJoinedWatchOk_tree
  by_cases ha0 : (a0.length : Int) > 1048576
  · rw [cnd_t (by simpa using ha0)]
  rw [cnd_f (by simpa using ha0)]
  have ta0 := L.toIntS_is (a := a0) (by omega)
  have ea0 := L.eqIntS_is (a := a0) (b := a0) (by omega)
  obtain ⟨b, h1, h2⟩ := JoinedWatchOk_same (a0 := a0) (a1 := a1)
  simp only [optC, ta0, ea0, h1, h2]
  simp
theorem FewestTotal_same {a0 : List Int} : ∃ v, S.FewestTotal_t a0 = some v ∧ I.FewestTotal_t a0 = some v := by
  rcases NetOk_cases a0 with ⟨h, e1, e2⟩ | ⟨_, e1, e2⟩
  · exact ⟨_, S.FewestTotal_y h e2, I.FewestTotal_y h e1⟩
  · exact ⟨_, S.FewestTotal_x e2, I.FewestTotal_x e1⟩
theorem L.FnExactFewestTotal_is {a0 : List Int} : L.FnExactFewestTotal_t a0 = some true := by
  unfold L.FnExactFewestTotal_t L.FnExactFewestTotal_tree
  by_cases ha0 : (a0.length : Int) > 1048576
  · rw [cnd_t (by simpa using ha0)]
  rw [cnd_f (by simpa using ha0)]
  have ta0 := L.toIntS_is (a := a0) (by omega)
  have ea0 := L.eqIntS_is (a := a0) (b := a0) (by omega)
  obtain ⟨b, h1, h2⟩ := FewestTotal_same (a0 := a0)
  simp only [optC, ta0, ea0, h1, h2]
  simp
theorem FewestJoined_same {a0 : List Int} : ∃ v, S.FewestJoined_t a0 = some v ∧ I.FewestJoined_t a0 = some v := by
  rcases NetOk_cases a0 with ⟨h, e1, e2⟩ | ⟨_, e1, e2⟩
  · exact ⟨_, S.FewestJoined_y h e2, I.FewestJoined_y h e1⟩
  · exact ⟨_, S.FewestJoined_x e2, I.FewestJoined_x e1⟩
theorem L.FnExactFewestJoined_is {a0 : List Int} : L.FnExactFewestJoined_t a0 = some true := by
  unfold L.FnExactFewestJoined_t L.FnExactFewestJoined_tree
  by_cases ha0 : (a0.length : Int) > 1048576
  · rw [cnd_t (by simpa using ha0)]
  rw [cnd_f (by simpa using ha0)]
  have ta0 := L.toIntS_is (a := a0) (by omega)
  have ea0 := L.eqIntS_is (a := a0) (b := a0) (by omega)
  obtain ⟨b, h1, h2⟩ := FewestJoined_same (a0 := a0)
  simp only [optC, ta0, ea0, h1, h2]
  simp
end Go.Proofs.Ytpmiinabjkdggaa
