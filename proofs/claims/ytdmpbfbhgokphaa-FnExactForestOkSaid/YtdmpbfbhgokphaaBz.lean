/- Several texts in one: Ch11b, Ch11c, S11, Dr3, Dr11, Br3, I3, I11, L2, I5, L5, L4, L11, Ex11. Conditions: those of each theorem. -/
import Derived.Test.YtdmpbfbhgokphaaBzb0
/- Forests: wires and parts are places. Conditions: those of each theorem. -/
namespace Go.Proofs.Ytdmpbfbhgokphaa
set_option linter.unusedVariables false
set_option linter.unusedSimpArgs false

/-- The ends of wires within a set. -/
def inEnd (net : List Int) (s i j : Nat) : Nat := (s.testBit i && s.testBit j && (nb net i).testBit j).toNat
def ends2 (net : List Int) (s : Nat) : Nat := sumN net.length fun i => sumN net.length (inEnd net s i)
theorem in_row {net : List Int} (h : Ok net) {s i : Nat} (hs : s < 2 ^ net.length) : sumN net.length (inEnd net s i) = if s.testBit i = true then size (nb net i &&& s) else 0 := by
  have hlt : nb net i &&& s < 2 ^ net.length := Nat.lt_of_le_of_lt Nat.and_le_right hs
  cases hi : s.testBit i with
  | false =>
    rw [if_neg (by simp), sumN_congr (g := fun _ => 0) (fun j hj => by unfold inEnd; rw [hi]; rfl), sumN_zero]
  | true =>
    rw [if_pos rfl, size_cnt h hlt]
    exact sumN_congr fun j hj => by show _ = ((nb net i &&& s).testBit j).toNat; unfold inEnd; rw [hi, Bool.true_and, Nat.testBit_and, Bool.and_comm]
theorem ends2_all {net : List Int} (h : Ok net) : ends2 net (allOf net) = 2 * wires net := by
  rw [← ends_wires h, ends_is h]
  unfold ends2
  refine sumN_congr fun i hi => sumN_congr fun j hj => ?_
  unfold inEnd
  rw [allOf_testBit, allOf_testBit, decide_eq_true hi, decide_eq_true hj]
  rfl
theorem ends2_zero (net : List Int) : ends2 net 0 = 0 := by
  unfold ends2
  rw [sumN_congr (g := fun _ => 0) (fun i _ => ?_), sumN_zero]
  rw [sumN_congr (g := fun _ => 0) (fun j _ => by unfold inEnd; rw [Nat.zero_testBit]; rfl), sumN_zero]
theorem ends2_sub {net : List Int} (h : Ok net) {s k : Nat} (hs : s < 2 ^ net.length) (hk : s.testBit k = true) : ends2 net s = ends2 net (s - 2 ^ k) + 2 * size (nb net k &&& s) := by
  have h6 := h.hi
  have hkl := in_lt hs hk
  have hsub : ∀ j, (s - 2 ^ k).testBit j = (s.testBit j && !decide (j = k)) := sub_testBit (lt64 h hs) (by omega) hk
  have hrow : sumN net.length (fun j => (s.testBit j && (nb net k).testBit j).toNat) = size (nb net k &&& s) := by
    rw [size_cnt h (Nat.lt_of_le_of_lt Nat.and_le_right hs)]
    exact sumN_congr fun j _ => by show _ = ((nb net k &&& s).testBit j).toNat; rw [Nat.testBit_and, Bool.and_comm]
  have key : ∀ i, i < net.length → ∀ j, j < net.length → inEnd net s i j = (inEnd net (s - 2 ^ k) i j + if i = k then (s.testBit j && (nb net k).testBit j).toNat else 0) + if j = k then (s.testBit i && (nb net k).testBit i).toNat else 0 := by
    intro i hi j hj
    unfold inEnd
    rw [hsub i, hsub j]
    by_cases hik : i = k
    · by_cases hjk : j = k
      · rw [hik, hjk, h.irr k hkl]; simp
      · rw [hik, hk]; simp [hjk]
    · by_cases hjk : j = k
      · rw [hjk, hk, h.sym k i hkl hi]; simp [hik]
      · simp [hik, hjk]
  have e1 : ends2 net s = sumN net.length (fun i => (sumN net.length (inEnd net (s - 2 ^ k) i) + sumN net.length (fun j => if i = k then (s.testBit j && (nb net k).testBit j).toNat else 0)) + sumN net.length (fun j => if j = k then (s.testBit i && (nb net k).testBit i).toNat else 0)) := by
    refine sumN_congr fun i hi => ?_
    rw [← sumN_add, ← sumN_add]
    exact sumN_congr fun j hj => key i hi j hj
  have e2 : sumN net.length (fun i => sumN net.length (fun j => if i = k then (s.testBit j && (nb net k).testBit j).toNat else 0)) = size (nb net k &&& s) := by
    rw [sumN_one hkl (fun i _ hne => by rw [sumN_congr (g := fun _ => 0) (fun j _ => if_neg hne), sumN_zero]), ← hrow]
    exact sumN_congr fun j _ => if_pos rfl
  have e3 : sumN net.length (fun i => sumN net.length (fun j => if j = k then (s.testBit i && (nb net k).testBit i).toNat else 0)) = size (nb net k &&& s) := by
    rw [← hrow]
    refine sumN_congr fun i _ => ?_
    rw [sumN_one hkl (fun j _ hne => if_neg hne), if_pos rfl]
  rw [e1, sumN_add, sumN_add, e2, e3]
  show ends2 net (s - 2 ^ k) + size (nb net k &&& s) + size (nb net k &&& s) = _
  omega
theorem stuck_ends {net : List Int} (h : Ok net) {r : Nat} (hr : r < 2 ^ net.length) (hst : Stuck net r) : 2 * size r ≤ ends2 net r := by
  unfold ends2
  rw [size_cnt h hr]
  have : sumN net.length (fun i => (r.testBit i).toNat * 2) ≤ sumN net.length fun i => sumN net.length (inEnd net r i) := sumN_le fun i hi => by
    rw [in_row h hr]
    cases hb : r.testBit i with
    | false => simp
    | true =>
      have := hst i hb
      simpa using this
  rw [sumN_mul] at this
  show 2 * sumN net.length (fun i => (r.testBit i).toNat) ≤ _
  omega

/-- A set within another one that nobody leaves by a wire. -/
def Closed (net : List Int) (s t : Nat) : Prop := (∀ j, t.testBit j = true → s.testBit j = true) ∧ ∀ i j, t.testBit i = true → s.testBit j = true → (nb net i).testBit j = true → t.testBit j = true
def Covers (net : List Int) (s z : Nat) : Prop := (∀ j, z.testBit j = true → s.testBit j = true) ∧ ∀ t, t < 2 ^ net.length → t ≠ 0 → Closed net s t → ∃ j, z.testBit j = true ∧ t.testBit j = true
theorem nb_none {a s : Nat} (ha : a &&& s = 0) {j : Nat} (hs : s.testBit j = true) : a.testBit j = false := not_true fun hx => by
  have : (a &&& s).testBit j = true := by rw [Nat.testBit_and, hx, hs]; rfl
  rw [ha, Nat.zero_testBit] at this; cases this
/-- A place with at most one neighbour left: none, or the one. -/
theorem one_or {net : List Int} (h : Ok net) {s k : Nat} (hs : s < 2 ^ net.length) (hz : size (nb net k &&& s) ≤ 1) :
    (nb net k &&& s = 0 ∧ size (nb net k &&& s) = 0) ∨ ∃ g, s.testBit g = true ∧ (nb net k).testBit g = true ∧ size (nb net k &&& s) = 1 ∧ ∀ v, s.testBit v = true → (nb net k).testBit v = true → v = g := by
  have h64 := h.pow
  have hlt : nb net k &&& s < 64 := Nat.lt_of_le_of_lt Nat.and_le_right (by omega)
  by_cases h0 : nb net k &&& s = 0
  · exact .inl ⟨h0, by rw [h0]; rfl⟩
  · obtain ⟨g, hg⟩ := pos_iff.1 h0
    have h1 := hg
    rw [Nat.testBit_and, Bool.and_eq_true] at h1
    have := size_pos hlt (testBit_lt (n := 6) hlt hg) hg
    exact .inr ⟨g, h1.2, h1.1, by omega, fun v v1 v2 => (le_one hlt).1 hz v g (by rw [Nat.testBit_and, v1, v2]; rfl) hg⟩
theorem peel_covers {net : List Int} (h : Ok net) {s : Nat} (hp : Peel net s) : s < 2 ^ net.length → ∃ z, z < 2 ^ net.length ∧ Covers net s z ∧ ends2 net s + 2 * size z = 2 * size s := by
  induction hp with
  | zero =>
    intro _
    refine ⟨0, Nat.two_pow_pos _, ⟨fun j hj => hj, fun t ht hne hc => ?_⟩, by rw [ends2_zero]; rfl⟩
    obtain ⟨j, hj⟩ := pos_iff.1 hne
    have := hc.1 j hj
    rw [Nat.zero_testBit] at this; cases this
  | @step s k hk hone hp ih =>
    intro hs
    have h6 := h.hi
    have hkl := in_lt hs hk
    obtain ⟨z, hz, hc, he⟩ := ih (sub_lt hs)
    have hsub : ∀ j, (s - 2 ^ k).testBit j = true ↔ s.testBit j = true ∧ j ≠ k := fun j => by
      rw [sub_testBit (lt64 h hs) (by omega) hk]; simp
    have hsz := (bits_sub s (lt64 h hs) k (by omega) hk).2.2.1
    have hE := ends2_sub h hs hk
    have hzk : z.testBit k = false := not_true fun hx => ((hsub k).1 (hc.1 k hx)).2 rfl
    rcases one_or h hs hone with ⟨h0, h0z⟩ | ⟨g, g1, g2, g3, g4⟩
    · refine ⟨z ||| 2 ^ k, or_lt hz hkl, ⟨fun j hj => ?_, fun t ht hne hct => ?_⟩, ?_⟩
      · rcases (or_testBit _ _ _).1 hj with a | a
        · exact ((hsub j).1 (hc.1 j a)).1
        · rw [a]; exact hk
      · by_cases htk : t.testBit k = true
        · exact ⟨k, (or_testBit _ _ _).2 (.inr rfl), htk⟩
        · obtain ⟨j, a, b⟩ := hc.2 t ht hne ⟨fun j hj => (hsub j).2 ⟨hct.1 j hj, fun e => htk (e ▸ hj)⟩, fun i j hi hj hij => hct.2 i j hi ((hsub j).1 hj).1 hij⟩
          exact ⟨j, (or_testBit _ _ _).2 (.inl a), b⟩
      · rw [size_add (lt64 h hz) (by omega) hzk]
        omega
    · refine ⟨z, hz, ⟨fun j hj => ((hsub j).1 (hc.1 j hj)).1, fun t ht hne hct => ?_⟩, by omega⟩
      by_cases htk : t.testBit k = true
      · have hgk : g ≠ k := fun e => by rw [e, h.irr k hkl] at g2; cases g2
        have hts : ∀ j, (t - 2 ^ k).testBit j = true ↔ t.testBit j = true ∧ j ≠ k := fun j => by
          rw [sub_testBit (lt64 h ht) (by omega) htk]; simp
        obtain ⟨j, a, b⟩ := hc.2 (t - 2 ^ k) (sub_lt ht) (pos_iff.2 ⟨g, (hts g).2 ⟨hct.2 k g htk g1 g2, hgk⟩⟩)
          ⟨fun j hj => (hsub j).2 ⟨hct.1 j ((hts j).1 hj).1, ((hts j).1 hj).2⟩, fun i j hi hj hij => (hts j).2 ⟨hct.2 i j ((hts i).1 hi).1 ((hsub j).1 hj).1 hij, ((hsub j).1 hj).2⟩⟩
        exact ⟨j, a, ((hts j).1 b).1⟩
      · exact hc.2 t ht hne ⟨fun j hj => (hsub j).2 ⟨hct.1 j hj, fun e => htk (e ▸ hj)⟩, fun i j hi hj hij => hct.2 i j hi ((hsub j).1 hj).1 hij⟩
/-- Places go till nobody can. -/
inductive Down (net : List Int) (r : Nat) : Nat → Prop
  | here : Down net r r
  | step {s k : Nat} : s.testBit k = true → size (nb net k &&& s) ≤ 1 → Down net r (s - 2 ^ k) → Down net r s
theorem down_zero {net : List Int} {s : Nat} (hd : Down net 0 s) : Peel net s := by
  induction hd with
  | here => exact .zero
  | step a b _ ih => exact .step a b ih
theorem down_ex {net : List Int} (h : Ok net) : ∀ (m s : Nat), size s ≤ m → s < 2 ^ net.length → ∃ r, Down net r s ∧ r < 2 ^ net.length ∧ Stuck net r := by
  intro m
  induction m with
  | zero =>
    intro s hz hs
    have h6 := h.hi
    refine ⟨s, .here, hs, fun k hk => ?_⟩
    have := size_pos (lt64 h hs) (by have := in_lt hs hk; omega) hk
    omega
  | succ m ih =>
    intro s hz hs
    have h6 := h.hi
    by_cases hst : Stuck net s
    · exact ⟨s, .here, hs, hst⟩
    · obtain ⟨k, k1, k2⟩ := stuck_or hst
      have := (bits_sub s (lt64 h hs) k (by have := in_lt hs k1; omega) k1).2.2.1
      obtain ⟨r, r1, r2, r3⟩ := ih (s - 2 ^ k) (by omega) (sub_lt hs)
      exact ⟨r, .step k1 k2 r1, r2, r3⟩
theorem down_covers {net : List Int} (h : Ok net) {r s : Nat} (hd : Down net r s) : s < 2 ^ net.length → Stuck net r → r ≠ 0 → ∀ z, z < 2 ^ net.length → Covers net s z → 2 * size s + 2 ≤ ends2 net s + 2 * size z := by
  induction hd with
  | here =>
    intro hs hst hne z hz hc
    have h6 := h.hi
    obtain ⟨j, a, b⟩ := hc.2 r hs hne ⟨fun j hj => hj, fun i j hi hj _ => hj⟩
    have := size_pos (lt64 h hz) (by have := in_lt hz a; omega) a
    have := stuck_ends h hs hst
    omega
  | @step s k hk hone hd ih =>
    intro hs hst hne z hz hc
    have h6 := h.hi
    have hkl := in_lt hs hk
    have hsub : ∀ j, (s - 2 ^ k).testBit j = true ↔ s.testBit j = true ∧ j ≠ k := fun j => by
      rw [sub_testBit (lt64 h hs) (by omega) hk]; simp
    have hsz := (bits_sub s (lt64 h hs) k (by omega) hk).2.2.1
    have hE := ends2_sub h hs hk
    rcases one_or h hs hone with ⟨h0, h0z⟩ | ⟨g, g1, g2, g3, g4⟩
    · -- the place is a part by itself
      have hzk : z.testBit k = true := by
        obtain ⟨j, a, b⟩ := hc.2 (2 ^ k) (Nat.pow_lt_pow_right (by omega) hkl) (pos_iff.2 ⟨k, by rw [testBit_pow]; simp⟩) ⟨fun j hj => by
          rw [testBit_pow, decide_eq_true_eq] at hj; rw [← hj]; exact hk, fun i j hi hj hij => by
          rw [testBit_pow, decide_eq_true_eq] at hi
          rw [← hi, nb_none h0 hj] at hij; cases hij⟩
        rw [testBit_pow, decide_eq_true_eq] at b
        rw [b]; exact a
      have hzs : ∀ j, (z - 2 ^ k).testBit j = true ↔ z.testBit j = true ∧ j ≠ k := fun j => by
        rw [sub_testBit (lt64 h hz) (by omega) hzk]; simp
      have hzz := (bits_sub z (lt64 h hz) k (by omega) hzk).2.2.1
      have := ih (sub_lt hs) hst hne (z - 2 ^ k) (sub_lt hz) ⟨fun j hj => (hsub j).2 ⟨hc.1 j ((hzs j).1 hj).1, ((hzs j).1 hj).2⟩, fun t ht htn hct => by
        obtain ⟨j, a, b⟩ := hc.2 t ht htn ⟨fun j hj => ((hsub j).1 (hct.1 j hj)).1, fun i j hi hj hij => by
          by_cases hjk : j = k
          · have hi1 := (hsub i).1 (hct.1 i hi)
            rw [hjk, h.sym k i hkl (in_lt hs hi1.1), nb_none h0 hi1.1] at hij; cases hij
          · exact hct.2 i j hi ((hsub j).2 ⟨hj, hjk⟩) hij⟩
        exact ⟨j, (hzs j).2 ⟨a, ((hsub j).1 (hct.1 j b)).2⟩, b⟩⟩
      omega
    · have hgk : g ≠ k := fun e => by rw [e, h.irr k hkl] at g2; cases g2
      have hgl := in_lt hs g1
      -- the guard of the leaf goes to its neighbour
      have hex : ∃ z', z' < 2 ^ net.length ∧ size z' ≤ size z ∧ (∀ j, z'.testBit j = true → (s - 2 ^ k).testBit j = true) ∧ (∀ j, z.testBit j = true → j ≠ k → z'.testBit j = true) ∧ (z.testBit k = true → z'.testBit g = true) := by
        by_cases hzk : z.testBit k = true
        · have hzs : ∀ j, (z - 2 ^ k).testBit j = true ↔ z.testBit j = true ∧ j ≠ k := fun j => by
            rw [sub_testBit (lt64 h hz) (by omega) hzk]; simp
          have hzz := (bits_sub z (lt64 h hz) k (by omega) hzk).2.2.1
          have h1 := size_or_one h (sub_lt (k := k) hz) hgl
          refine ⟨(z - 2 ^ k) ||| 2 ^ g, or_lt (sub_lt hz) hgl, by omega, fun j hj => ?_, fun j hj hne => (or_testBit _ _ _).2 (.inl ((hzs j).2 ⟨hj, hne⟩)), fun _ => (or_testBit _ _ _).2 (.inr rfl)⟩
          rcases (or_testBit _ _ _).1 hj with a | a
          · exact (hsub j).2 ⟨hc.1 j ((hzs j).1 a).1, ((hzs j).1 a).2⟩
          · rw [a]; exact (hsub g).2 ⟨g1, hgk⟩
        · exact ⟨z, hz, Nat.le_refl _, fun j hj => (hsub j).2 ⟨hc.1 j hj, fun e => hzk (e ▸ hj)⟩, fun j hj _ => hj, fun hx => absurd hx hzk⟩
      obtain ⟨z', z1, z2, z3, z4, z5⟩ := hex
      have := ih (sub_lt hs) hst hne z' z1 ⟨z3, fun t ht htn hct => by
        have htk : t.testBit k = false := not_true fun hx => ((hsub k).1 (hct.1 k hx)).2 rfl
        by_cases htg : t.testBit g = true
        · -- the leaf belongs to the set
          obtain ⟨j, a, b⟩ := hc.2 (t ||| 2 ^ k) (or_lt ht hkl) (pos_iff.2 ⟨k, (or_testBit _ _ _).2 (.inr rfl)⟩) ⟨fun j hj => by
            rcases (or_testBit _ _ _).1 hj with a | a
            · exact ((hsub j).1 (hct.1 j a)).1
            · rw [a]; exact hk, fun i j hi hj hij => by
            rw [or_testBit]
            by_cases hjk : j = k
            · exact .inr hjk
            · left
              rcases (or_testBit _ _ _).1 hi with a | a
              · exact hct.2 i j a ((hsub j).2 ⟨hj, hjk⟩) hij
              · rw [a] at hij
                rw [g4 j hj hij]; exact htg⟩
          rcases (or_testBit _ _ _).1 b with b | b
          · exact ⟨j, z4 j a (fun e => by rw [e, htk] at b; cases b), b⟩
          · rw [b] at a
            exact ⟨g, z5 a, htg⟩
        · obtain ⟨j, a, b⟩ := hc.2 t ht htn ⟨fun j hj => ((hsub j).1 (hct.1 j hj)).1, fun i j hi hj hij => by
            by_cases hjk : j = k
            · have hi1 := (hsub i).1 (hct.1 i hi)
              rw [hjk, h.sym k i hkl (in_lt hs hi1.1)] at hij
              rw [g4 i hi1.1 hij] at hi
              exact absurd hi htg
            · exact hct.2 i j hi ((hsub j).2 ⟨hj, hjk⟩) hij⟩
          exact ⟨j, z4 j a (fun e => by rw [e, htk] at b; cases b), b⟩⟩
      omega
theorem reach_closed {net : List Int} (h : Ok net) {t i j : Nat} (hc : Closed net (allOf net) t) (hr : Reach net (allOf net) i j) (hi : t.testBit i = true) : t.testBit j = true := by
  refine Classical.byContradiction fun hj => ?_
  obtain ⟨u, v, hu, hv, hul, hn⟩ := leaves hr hi (not_true hj)
  have huv := hn
  rw [hc.2 u v hu (by rw [allOf_testBit]; simpa using h.nb_lt hul huv) huv] at hv
  cases hv
theorem roots_cover {net : List Int} (h : Ok net) : Covers net (allOf net) (roots net) := by
  refine ⟨fun j hj => by rw [allOf_testBit]; simpa using ((roots_testBit _ _).1 hj).1, fun t ht hne hc => ?_⟩
  obtain ⟨k, hk⟩ := pos_iff.1 hne
  have hkl := in_lt ht hk
  obtain ⟨r, r1, r2, r3⟩ := root_of h hkl
  refine ⟨r, (roots_testBit _ _).2 ⟨by omega, r2⟩, reach_closed h hc ((h.comp_testBit hkl r).1 ?_) hk⟩
  rw [← r3]; exact h.comp_self (by omega)
theorem cover_parts {net : List Int} (h : Ok net) {z : Nat} (hz : z < 2 ^ net.length) (hc : Covers net (allOf net) z) : parts net ≤ size z := by
  rw [parts_cnt, size_cnt h hz]
  have hex : ∀ k, ∃ i, k < net.length → i < net.length ∧ z.testBit i = true ∧ (comp net k).testBit i = true := by
    intro k
    by_cases hk : k < net.length
    · obtain ⟨j, a, b⟩ := hc.2 (comp net k) (h.comp_lt hk) (pos_iff.2 ⟨k, h.comp_self hk⟩) ⟨fun j hj => by rw [allOf_testBit]; simpa using in_lt (h.comp_lt hk) hj, fun i j hi hj hij => by
        have hil := in_lt (h.comp_lt hk) hi
        rw [h.comp_same hk hil hi]
        exact comp_nb h hil hij⟩
      exact ⟨j, fun _ => ⟨in_lt hz a, a, b⟩⟩
    · exact ⟨0, fun hx => absurd hx hk⟩
  refine cnt_inj (fun k => Classical.choose (hex k)) (fun k hk _ => ?_) (fun j k hj hk hrj hrk he => ?_)
  · have := Classical.choose_spec (hex k) hk
    exact ⟨this.1, this.2.1⟩
  · have h1 := Classical.choose_spec (hex j) hj
    have h2 := Classical.choose_spec (hex k) hk
    rw [he] at h1
    exact root_same h hj hk hrj hrk ((h.comp_same hj h2.1 h1.2.2).trans (h.comp_same hk h2.1 h2.2.2).symm)
/-- Wires and parts are places just in forests. -/
theorem forest_wires {net : List Int} (h : Ok net) : Peel net (allOf net) ↔ wires net + parts net = net.length := by
  have hge := wires_parts h
  have hz := size_all h
  constructor
  · intro hp
    obtain ⟨z, z1, z2, z3⟩ := peel_covers h hp (allOf_lt net)
    have := cover_parts h z1 z2
    rw [ends2_all h] at z3
    omega
  · intro he
    obtain ⟨r, r1, r2, r3⟩ := down_ex h _ (allOf net) (Nat.le_refl _) (allOf_lt net)
    by_cases hr : r = 0
    · rw [hr] at r1; exact down_zero r1
    · have := down_covers h r1 (allOf_lt net) r3 hr (roots net) (roots_lt net) (roots_cover h)
      rw [ends2_all h, roots_size h] at this
      omega
/-- What is left where nobody can go is nothing, just in forests. -/
theorem forest_left {net : List Int} (h : Ok net) {r : Nat} (hd : Down net r (allOf net)) (hr : r < 2 ^ net.length) (hst : Stuck net r) : r = 0 ↔ Peel net (allOf net) := by
  constructor
  · intro he; rw [he] at hd; exact down_zero hd
  · intro hp
    exact peel_stuck h hp (allOf_lt net) r (fun j hj => by rw [allOf_testBit]; simpa using in_lt hr hj) hst
end Go.Proofs.Ytdmpbfbhgokphaa
/- Grown packings and sets that see each place once. Conditions: those of each theorem. -/
namespace Go.Proofs.Ytdmpbfbhgokphaa
open D Go.RowKit
set_option linter.unusedVariables false
set_option linter.unusedSimpArgs false

def growP (net : List Int) (t k : Nat) : Nat := if packed net (t ||| 2 ^ k) = true then t ||| 2 ^ k else t
def grownP (net : List Int) (s : Nat) : Nat := fold net.length (growP net) s
def GrowI (net : List Int) (s k t : Nat) : Prop := t < 2 ^ net.length ∧ packed net t = true ∧ (∀ j, s.testBit j = true → t.testBit j = true) ∧ ∀ j, j < k → t.testBit j = false → packed net (t ||| 2 ^ j) = false
theorem or_bit {t k j : Nat} : (t ||| 2 ^ k).testBit j = (t.testBit j || decide (j = k)) := by
  rw [Nat.testBit_or, Nat.testBit_two_pow]
  congr 1
  rw [decide_eq_decide]; exact ⟨fun a => a.symm, fun a => a.symm⟩
theorem packed_mono {net : List Int} (h : Ok net) {s t : Nat} (hs : s < 2 ^ net.length) (hst : ∀ j, t.testBit j = true → s.testBit j = true) (hp : packed net s = true) : packed net t = true := by
  have ht : t < 2 ^ net.length := Nat.lt_pow_two_of_testBit _ fun j hj => not_true fun hx => by have := in_lt hs (hst j hx); omega
  exact (packed_two h ht).2 (((packed_two h hs).1 hp).mono hst)
theorem growP_step {net : List Int} (h : Ok net) {s k t : Nat} (hk : k < net.length) (hi : GrowI net s k t) : GrowI net s (k + 1) (growP net t k) := by
  obtain ⟨a, b, c, d⟩ := hi
  have hp : 2 ^ k < 2 ^ net.length := Nat.pow_lt_pow_right (by omega) hk
  unfold growP
  by_cases hq : packed net (t ||| 2 ^ k) = true
  · rw [if_pos hq]
    have hlt := Nat.or_lt_two_pow a hp
    refine ⟨hlt, hq, fun j hj => by rw [or_bit, c j hj]; rfl, fun j hj hb => ?_⟩
    rw [or_bit, Bool.or_eq_false_iff, decide_eq_false_iff_not] at hb
    have := d j (by omega) hb.1
    have hp2 : 2 ^ j < 2 ^ net.length := Nat.pow_lt_pow_right (by omega) (by omega)
    refine not_true fun hx => ?_
    rw [packed_mono h (Nat.or_lt_two_pow hlt hp2) (fun i hi => ?_) hx] at this
    · cases this
    · rw [or_bit, Bool.or_eq_true] at hi
      rw [or_bit, or_bit]
      rcases hi with hi | hi
      · rw [hi]; rfl
      · rw [hi]; simp
  · rw [if_neg hq]
    refine ⟨a, b, c, fun j hj hb => ?_⟩
    by_cases hjk : j = k
    · rw [hjk]; exact not_true hq
    · exact d j (by omega) hb
theorem grownP_is {net : List Int} (h : Ok net) {s : Nat} (hs : s < 2 ^ net.length) (hp : packed net s = true) : GrowI net s net.length (grownP net s) := by
  have key : ∀ k, k ≤ net.length → GrowI net s k (fold k (growP net) s) := by
    intro k
    induction k with
    | zero => exact fun _ => ⟨hs, hp, fun _ hj => hj, fun j hj => by omega⟩
    | succ k ih => intro hk; rw [fold_succ]; exact growP_step h (by omega) (ih (by omega))
  exact key _ (Nat.le_refl _)
/-- Each place is seen once. -/
def efficientB (net : List Int) (s : Nat) : Bool := packed net s && W net s
theorem efficient_is {net : List Int} (h : Ok net) {s m w : Nat} (hs : s < 2 ^ net.length) (he : efficientB net s = true) (hm : MaxOf net (packed net) m) (hw : MinOf net (W net) w) : size s = w ∧ m = w := by
  unfold efficientB at he
  rw [Bool.and_eq_true] at he
  exact packed_watch h hs he.1 he.2 hm hw
/-- Packed sets are apart, and each guard is needed. -/
theorem packed_needs {net : List Int} (h : Ok net) {s : Nat} (hs : s < 2 ^ net.length) (hp : packed net s = true) : Apart net s ∧ Needs net s := by
  have ha := ((packed_two h hs).1 hp).apart h hs
  exact ⟨ha, ha.needs h hs⟩
theorem Down.trans {net : List Int} {r t s : Nat} (h1 : Down net r t) (h2 : Down net t s) : Down net r s := by
  induction h2 with
  | here => exact h1
  | step a b _ ih => exact .step a b ih
/-- One sweep over the places: each with at most one neighbour left goes. -/
def peelStep (net : List Int) (t : Bool × Nat) (k : Nat) : Bool × Nat := if (t.2.testBit k && decide (size (nb net k &&& t.2) < 2)) = true then (true, t.2 - 2 ^ k) else t
def PeelI (net : List Int) (s k : Nat) (t : Bool × Nat) : Prop := Down net t.2 s ∧ t.2 ≤ s ∧ (t.1 = false → t.2 = s ∧ ∀ j, j < k → s.testBit j = true → 2 ≤ size (nb net j &&& s)) ∧ (t.1 = true → t.2 < s)
theorem peel_go {net : List Int} {s k : Nat} {t : Bool × Nat} (hi : PeelI net s k t) : PeelI net s (k + 1) (peelStep net t k) := by
  obtain ⟨a, b, c, d⟩ := hi
  unfold peelStep
  by_cases hq : (t.2.testBit k && decide (size (nb net k &&& t.2) < 2)) = true
  · rw [if_pos hq]
    rw [Bool.and_eq_true, decide_eq_true_eq] at hq
    have hge : 2 ^ k ≤ t.2 := Nat.ge_two_pow_of_testBit hq.1
    have hp := Nat.two_pow_pos k
    exact ⟨(Down.step hq.1 (by omega) .here : Down net (t.2 - 2 ^ k) t.2).trans a, Nat.le_trans (Nat.sub_le _ _) b, fun hf => (by cases hf), fun _ => (by show t.2 - 2 ^ k < s; omega)⟩
  · rw [if_neg hq]
    refine ⟨a, b, fun hf => ⟨(c hf).1, fun j hj hb => ?_⟩, d⟩
    by_cases hjk : j = k
    · subst hjk
      rw [(c hf).1, hb, Bool.true_and, decide_eq_true_eq] at hq
      omega
    · exact (c hf).2 j (by omega) hb
theorem peel_sweep (net : List Int) (s n : Nat) : PeelI net s n (fold n (peelStep net) (false, s)) := by
  induction n with
  | zero => exact ⟨.here, Nat.le_refl _, fun _ => ⟨rfl, fun j hj => by omega⟩, fun hf => (by cases hf)⟩
  | succ n ih => rw [fold_succ]; exact peel_go ih
noncomputable def forestB (net : List Int) : Bool := @decide (Peel net (allOf net)) (Classical.propDecidable _)
theorem forestB_iff {net : List Int} : forestB net = true ↔ Peel net (allOf net) := by unfold forestB; exact @decide_eq_true_iff _ (Classical.propDecidable _)
theorem forestB_wires {net : List Int} (h : Ok net) : forestB net = (wires net + parts net == net.length) := by
  rw [Bool.eq_iff_iff, forestB_iff, forest_wires h, beq_iff_eq]
end Go.Proofs.Ytdmpbfbhgokphaa
/- The model's functions of chapter 11 in natural numbers: packings. Conditions: those of each theorem. -/
namespace Go.Proofs.Ytdmpbfbhgokphaa
open D Go.RowKit
set_option linter.unusedVariables false
set_option linter.unusedSimpArgs false


theorem S.l11Packed_n {net : List Int} (h : Ok net) {s : Nat} (hs : s < 2 ^ net.length) : S.l11Packed_t net (s : Int) = some (packed net s) := by
  unfold S.l11Packed_t S.l11Packed_tree
  have h6 := h.hi
  have h64 := h.pow
  rw [run_search (run := S.l11Packed_run2 net s) (len := net.length) (fun k => if decide (1 < size (ball net k &&& s)) = true then some false else none) () (by omega) (fun n k hk => ?_) (fun n => ?_), find_test (p := fun k => decide (1 < size (ball net k &&& s)))]
  · unfold packed
    cases (List.range net.length).all fun k => !decide (1 < size (ball net k &&& s)) <;> rfl
  · simp only [S.l11Packed_run2, S.l11Packed_step2]
    have hnb := h.lt64 hk
    have h2 : 2 ^ k < 2 ^ 6 := Nat.pow_lt_pow_right (by omega) (by omega)
    have hbl := h.ball_lt hk
    have ha : ball net k &&& s < 64 := Nat.lt_of_le_of_lt Nat.and_le_right (by omega)
    rw [cnd_t (by rw [decide_eq_true_eq]; omega), cnd_t (by simp only [Bool.and_eq_true, decide_eq_true_eq]; omega), cnd_f (by simp), one_shl (by omega), Int.toNat_natCast, h.eli hk, i64_or_nat _ _ (by omega) (by omega), show nb net k ||| 2 ^ k = ball net k from rfl,
      i64_and_nat _ _ (by omega) (by omega), S.l1Size_n ha, add1_nat (by omega)]
    simp only [optC]
    by_cases hc : 1 < size (ball net k &&& s)
    · rw [cnd_t (by rw [decide_eq_true_eq]; omega), if_pos (by simpa using hc)]
    · rw [cnd_f (by rw [decide_eq_false_iff_not]; omega), if_neg (by simpa using hc)]
  · simp only [S.l11Packed_run2, S.l11Packed_step2]
    rw [cnd_f (by rw [decide_eq_false_iff_not]; omega)]
theorem S.PackedOk_x {net : List Int} (e : S.NetOk_t net = some false) (s : Int) : S.PackedOk_t net s = some false := by
  unfold S.PackedOk_t S.PackedOk_tree; rw [S.l1SetOk_x e]; rfl
theorem S.PackedOk_n {net : List Int} (h : Ok net) (e : S.NetOk_t net = some true) (s : Int) : S.PackedOk_t net s = some (decide (0 ≤ s ∧ s < 2 ^ net.length) && packed net s.toNat) := by
  unfold S.PackedOk_t S.PackedOk_tree
  rw [S.l1SetOk_n h e]
  simp only [optC]
  rcases set_cases h s with ⟨t, rfl, ht, hd⟩ | hd
  · rw [hd, cond_true, S.l11Packed_n h ht]; rfl
  · rw [hd]; rfl
def mostPacked (net : List Int) : Nat := maxSize net (packed net)
theorem S.MostPacked_x {net : List Int} (e : S.NetOk_t net = some false) : S.MostPacked_t net = some (-1) := by
  unfold S.MostPacked_t S.MostPacked_tree; rw [e]; rfl
theorem S.MostPacked_y {net : List Int} (h : Ok net) (e : S.NetOk_t net = some true) : S.MostPacked_t net = some ((maxSize net (packed net) : Nat) : Int) := by
  unfold S.MostPacked_t S.MostPacked_tree
  have h64 := h.pow
  have hn := h.hi
  rw [e]
  have := (run_for (run := S.MostPacked_run5 net) (len := 2 ^ net.length) (fun k (t : Nat) => ((t : Int), (k : Int))) (fun t s => if packed net s = true then (if size s > t then size s else t) else t) (fun t => (t : Int)) (fun k t => t ≤ 6) (by omega) (fun n k t hk ht => ?_) (fun n t ht => ?_) (t0 := 0) (by omega)).1
  · exact congrArg (fun o => optC o (fun q => some q) none) this
  · simp only [S.MostPacked_run5, S.MostPacked_step5]
    rw [pow_shl h, cnd_t (by rw [decide_eq_true_eq]; omega), S.l11Packed_n h hk]
    simp only [optC]
    have hz := size_le k
    cases hw : packed net k with
    | true =>
      rw [cond_true, S.l1Size_n (by omega)]
      simp only [if_true]
      rw [add1_nat (by omega)]
      by_cases hc : size k > t
      · rw [if_pos (by omega), if_pos hc]; exact ⟨rfl, by omega⟩
      · rw [if_neg (by omega), if_neg hc]; exact ⟨rfl, by omega⟩
    | false => simp only [cond_false, Bool.false_eq_true, if_false]; rw [add1_nat (by omega)]; exact ⟨rfl, ht⟩
  · simp only [S.MostPacked_run5, S.MostPacked_step5]
    rw [pow_shl h, cnd_f (by rw [decide_eq_false_iff_not]; omega)]
theorem S.EfficientOk_x {net : List Int} (e : S.NetOk_t net = some false) (s : Int) : S.EfficientOk_t net s = some false := by
  unfold S.EfficientOk_t S.EfficientOk_tree; rw [S.PackedOk_x e]; rfl
theorem S.EfficientOk_n {net : List Int} (h : Ok net) (e : S.NetOk_t net = some true) (s : Int) : S.EfficientOk_t net s = some (decide (0 ≤ s ∧ s < 2 ^ net.length) && efficientB net s.toNat) := by
  unfold S.EfficientOk_t S.EfficientOk_tree
  rw [S.PackedOk_n h e]
  simp only [optC]
  rcases set_cases h s with ⟨t, rfl, ht, hd⟩ | hd
  · rw [hd, Int.toNat_natCast, Bool.true_and, Bool.true_and]
    unfold efficientB
    cases hp : packed net t with
    | true => rw [cond_true, S.l2Watch_n h ht]; rfl
    | false => rfl
  · rw [hd]; rfl
def efficientI (net : List Int) : Int := (find (2 ^ net.length) (fun s => if efficientB net s = true then some (s : Int) else none)).getD (-1)
theorem S.EfficientOf_x {net : List Int} (e : S.NetOk_t net = some false) : S.EfficientOf_t net = some (-1) := by
  unfold S.EfficientOf_t S.EfficientOf_tree
  have hF := FUEL_le
  obtain ⟨m, hm⟩ : ∃ m, FUEL = m + 1 := ⟨FUEL - 1, by omega⟩
  rw [hm]
  simp only [S.EfficientOf_run2, S.EfficientOf_step2]
  rw [e]; rfl
theorem S.EfficientOf_y {net : List Int} (h : Ok net) (e : S.NetOk_t net = some true) : S.EfficientOf_t net = some (efficientI net) := by
  unfold S.EfficientOf_t S.EfficientOf_tree
  have h6 := h.hi
  have h64 := h.pow
  rw [run_search (run := S.EfficientOf_run2 net) (len := 2 ^ net.length) (fun s => if efficientB net s = true then some (s : Int) else none) () (by omega) (fun n k hk => ?_) (fun n => ?_)]
  · unfold efficientI
    cases find (2 ^ net.length) (fun s => if efficientB net s = true then some (s : Int) else none) <;> rfl
  · simp only [S.EfficientOf_run2, S.EfficientOf_step2]
    rw [e]
    simp only [optC]
    rw [cond_true, pow_shl h, cnd_t (by rw [decide_eq_true_eq]; omega), S.EfficientOk_n h e, set_in hk, Int.toNat_natCast, Bool.true_and]
    simp only
    cases efficientB net k with
    | true => rfl
    | false => rw [cond_false, add1_nat (by omega)]; rfl
  · simp only [S.EfficientOf_run2, S.EfficientOf_step2]
    rw [e]
    simp only [optC]
    rw [cond_true, pow_shl h, cnd_f (by rw [decide_eq_false_iff_not]; omega)]
def grownPI (net : List Int) (s : Int) : Int := if (0 ≤ s ∧ s < 2 ^ net.length) ∧ packed net s.toNat = true then ((grownP net s.toNat : Nat) : Int) else -1
theorem S.GrownPacked_x {net : List Int} (e : S.NetOk_t net = some false) (s : Int) : S.GrownPacked_t net s = some (-1) := by
  unfold S.GrownPacked_t S.GrownPacked_tree; rw [S.PackedOk_x e]; rfl
theorem S.GrownPacked_n {net : List Int} (h : Ok net) (e : S.NetOk_t net = some true) (s : Int) : S.GrownPacked_t net s = some (grownPI net s) := by
  unfold S.GrownPacked_t S.GrownPacked_tree
  have h6 := h.hi
  have h64 := h.pow
  rw [S.PackedOk_n h e]
  simp only [optC]
  rcases set_cases h s with ⟨t, rfl, ht, hd⟩ | hd
  · rw [hd, Int.toNat_natCast, Bool.true_and]
    unfold grownPI
    cases hp : packed net t with
    | false => rw [if_neg (fun hc => by have := hc.2; rw [Int.toNat_natCast, hp] at this; cases this)]; rfl
    | true =>
      rw [if_pos ⟨dec_true hd, by simpa using hp⟩, Int.toNat_natCast, Bool.not_true, cond_false]
      have := (run_for (run := S.GrownPacked_run4 net) (len := net.length) (fun k (t : Nat) => ((t : Int), (k : Int))) (growP net) (fun t => (t : Int)) (fun k t => t < 2 ^ net.length) (by omega) (fun n k t hk ht => ?_) (fun n t ht => ?_) (t0 := t) ht).1
      · exact congrArg (fun o => optC o (fun q => some q) none) this
      · simp only [S.GrownPacked_run4, S.GrownPacked_step4]
        have hpw : 2 ^ k < 2 ^ net.length := Nat.pow_lt_pow_right (by omega) hk
        have hlt := Nat.or_lt_two_pow ht hpw
        rw [cnd_t (by rw [decide_eq_true_eq]; omega), cnd_f (by simp), one_shl (by omega), i64_or_nat _ _ (by omega) (by omega), S.l11Packed_n h hlt, add1_nat (by omega)]
        simp only [optC]
        unfold growP
        cases packed net (t ||| 2 ^ k) with
        | true =>
          rw [cond_true, if_pos rfl]
          exact ⟨rfl, hlt⟩
        | false => rw [cond_false, if_neg (by simp)]; exact ⟨rfl, ht⟩
      · simp only [S.GrownPacked_run4, S.GrownPacked_step4]
        rw [cnd_f (by rw [decide_eq_false_iff_not]; omega)]
  · unfold grownPI
    rw [hd, if_neg (fun hc => dec_false hd hc.1)]; rfl
theorem S.ForestOk_x {net : List Int} (e : S.NetOk_t net = some false) : S.ForestOk_t net = some false := by
  unfold S.ForestOk_t S.ForestOk_tree; rw [e]; rfl
theorem S.ForestOk_y {net : List Int} (h : Ok net) (e : S.NetOk_t net = some true) : S.ForestOk_t net = some (forestB net) := by
  unfold S.ForestOk_t S.ForestOk_tree
  have h6 := h.hi
  have h64 := h.pow
  rw [e]
  simp only [optC]
  rw [Bool.not_true, cond_false, all_shl h]
  have hall := allOf_lt net
  have := run_post (run := S.ForestOk_run5 net) (fun q => ∃ (t : Nat) (b : Bool), q = ((t : Int), b) ∧ t < 2 ^ net.length ∧ Down net t (allOf net) ∧ (b = false → Stuck net t)) (fun q => 2 * q.1.toNat + q.2.toNat)
    (fun d => ∃ r : Nat, d = (r : Int) ∧ r < 2 ^ net.length ∧ Down net r (allOf net) ∧ Stuck net r) (fun f q => ?_) (s := ((allOf net : Nat), true)) ⟨allOf net, true, rfl, hall, .here, fun hf => (by cases hf)⟩ (by simp only [Int.toNat_natCast, Bool.toNat_true]; omega)
  · obtain ⟨d, e1, r, rfl, r1, r2, r3⟩ := this
    rw [e1]
    simp only
    rw [nat_eq0]
    congr 1
    rw [Bool.eq_iff_iff, beq_iff_eq, forestB_iff]
    exact forest_left h r2 r1 r3
  · rintro ⟨t, b, rfl, i1, i2, i3⟩
    simp only [S.ForestOk_run5, S.ForestOk_step5]
    cases b with
    | false => left; rw [cond_false]; exact ⟨_, rfl, t, rfl, i1, i2, i3 rfl⟩
    | true =>
      right
      obtain ⟨p1, p2, p3, p4⟩ := peel_sweep net t net.length
      have loop := (run_for (run := S.ForestOk_run8 net) (len := net.length) (fun k (q : Bool × Nat) => ((q.2 : Int), q.1, (k : Int))) (peelStep net) (fun q => ((q.2 : Int), q.1)) (fun k q => q.2 < 2 ^ net.length) (by omega) (fun n k q hk hq => ?_) (fun n q hq => ?_) (t0 := (false, t)) i1).1
      · rw [cond_true, show S.ForestOk_run8 net FUEL ((t : Int), false, 0) = _ from loop]
        simp only [optC]
        generalize fold net.length (peelStep net) (false, t) = q at p1 p2 p3 p4 ⊢
        refine ⟨_, rfl, ⟨q.2, q.1, rfl, by omega, p1.trans i2, fun hf => ?_⟩, ?_⟩
        · obtain ⟨a, b⟩ := p3 hf
          rw [a]
          exact fun k hk => b k (in_lt i1 hk) hk
        · simp only [Int.toNat_natCast, Bool.toNat_true]
          cases hb : q.1 with
          | true => have := p4 hb; simp only [Bool.toNat_true]; omega
          | false => have := (p3 hb).1; simp only [Bool.toNat_false]; omega
      · simp only [S.ForestOk_run8, S.ForestOk_step8]
        have ha : nb net k &&& q.2 < 64 := Nat.lt_of_le_of_lt Nat.and_le_right (by omega)
        have hnb := h.lt64 hk
        rw [cnd_t (by rw [decide_eq_true_eq]; omega), cnd_f (by simp), bit_shr _ _ (by omega), bool_eq1, add1_nat (by omega)]
        unfold peelStep
        cases hb : q.2.testBit k with
        | false => rw [cond_false, Bool.false_and, if_neg (by simp)]; exact ⟨rfl, hq⟩
        | true =>
          have hge : 2 ^ k ≤ q.2 := Nat.ge_two_pow_of_testBit hb
          have hpw : 2 ^ k < 2 ^ 6 := Nat.pow_lt_pow_right (by omega) (by omega)
          have hsh : IntKind.i64.wrap (1 * 2 ^ min k IntKind.i64.bits) = ((2 ^ k : Nat) : Int) := one_shl (k := k) (by omega)
          rw [cond_true, Bool.true_and, cnd_t (by simp only [Bool.and_eq_true, decide_eq_true_eq]; omega), Int.toNat_natCast, h.eli hk, i64_and_nat _ _ (by omega) (by omega), S.l1Size_n ha]
          simp only [optC]
          by_cases hc : size (nb net k &&& q.2) < 2
          · rw [cnd_t (by rw [decide_eq_true_eq]; omega), cnd_f (by simp), if_pos (by simpa using hc), hsh, i64_andNot_nat _ _ (by omega) (by omega), minus_pow (by omega) (by omega) hb]
            exact ⟨rfl, Nat.lt_of_le_of_lt (Nat.sub_le _ _) hq⟩
          · rw [cnd_f (by rw [decide_eq_false_iff_not]; omega), if_neg (by simpa using hc)]
            exact ⟨rfl, hq⟩
      · simp only [S.ForestOk_run8, S.ForestOk_step8]
        rw [cnd_f (by rw [decide_eq_false_iff_not]; omega)]
end Go.Proofs.Ytdmpbfbhgokphaa
/- Draws of chapters 3 to 5. Conditions: those of each theorem. -/
namespace Go.Proofs.Ytdmpbfbhgokphaa
open D Go.RowKit
set_option linter.unusedVariables false
set_option linter.unusedSimpArgs false


theorem S.l20Order_in {rb : List Int} {rp n : Int} (m : Nat) (hb : Bytes rb) (hl : rb.length ≤ 2000) (h0 : 0 ≤ rp) (h1 : rp ≤ 1000000) (hm : m ≤ 6) :
    ∃ rp' o, S.l20Order_run3 (m : Int) n FUEL (0, rb, rp, []) = some (rb, rp', o) ∧ rp ≤ rp' ∧ rp' ≤ rp + 6 ∧ o.length = m ∧ ∀ x ∈ o, 0 ≤ x ∧ x < m := by
  have := run_post (run := S.l20Order_run3 (m : Int) n) (fun s => ∃ k : Nat, k ≤ m ∧ s.1 = k ∧ s.2.1 = rb ∧ rp ≤ s.2.2.1 ∧ s.2.2.1 ≤ rp + k ∧ s.2.2.2.length = k ∧ ∀ x ∈ s.2.2.2, 0 ≤ x ∧ x < m) (fun s => m - s.1.toNat) (fun d => d.1 = rb ∧ rp ≤ d.2.1 ∧ d.2.1 ≤ rp + 6 ∧ d.2.2.length = m ∧ ∀ x ∈ d.2.2, 0 ≤ x ∧ x < m)
    (fun f s => ?_) (s := (0, rb, rp, [])) ⟨0, by omega, rfl, rfl, by simp, by simp, rfl, fun x hx => by cases hx⟩ (by simp; omega)
  · obtain ⟨⟨d1, d2, d3⟩, e, rfl, g1, g2, g3, g4⟩ := this
    exact ⟨d2, d3, e, g1, g2, g3, g4⟩
  · obtain ⟨s1, s2, s3, s4⟩ := s
    rintro ⟨k, hk, i1, i2, i3, i4, i5, i6⟩
    simp only at i1 i2 i3 i4 i5 i6
    subst i1 i2
    by_cases hlt : k < m
    · right
      obtain ⟨v, e2, b1, b2⟩ := S.l20Rd_pick_is (rp := s3) (n := ((s4.length + 1 : Nat) : Int)) hb hl (by omega) (by omega)
      have b2' := b2 (by omega)
      simp only [S.l20Order_run3, S.l20Order_step3]
      rw [cnd_t (by simp; omega), add1_nat (by omega), e2]
      simp only [optC]
      rw [cnd_t (by simp; omega), cnd_t (small_of (by simp; omega)), cnd_t (small_of (by simp; omega)), cnd_t (by simp; omega), cnd_t (small_of (by simp; omega)), add1_nat (by omega)]
      refine ⟨_, rfl, ⟨k + 1, by omega, rfl, rfl, by simp only; omega, by simp only; omega, ?_, fun x hx => ?_⟩, by simp only [Int.toNat_natCast]; omega⟩
      · simp only [List.nil_append, List.drop_zero, List.length_append, List.length_take, List.length_drop, List.length_singleton]
        omega
      · simp only [List.nil_append, List.drop_zero, List.mem_append, List.mem_singleton] at hx
        rcases hx with (hx | hx) | hx
        · exact i6 x (List.mem_of_mem_take hx)
        · rw [hx]; omega
        · exact i6 x (List.mem_of_mem_drop (List.mem_of_mem_take hx))
    · left
      simp only [S.l20Order_run3, S.l20Order_step3]
      rw [cnd_f (by simp; omega)]
      exact ⟨_, rfl, rfl, by omega, by simp only; omega, by simp only; omega, i6⟩
theorem S.l20Order_zero {rb : List Int} {rp : Int} (m : Nat) (hb : Bytes rb) (hl : rb.length ≤ 2000) (h0 : 0 ≤ rp) (h1 : rp ≤ 1000000) (hm : m ≤ 6) :
    ∃ rp' o, S.l20Order_t rb rp (m : Int) 0 = some (rb, rp', o) ∧ rp ≤ rp' ∧ rp' ≤ rp + 6 ∧ o.length = m ∧ ∀ x ∈ o, 0 ≤ x ∧ x < m := by
  unfold S.l20Order_t S.l20Order_tree
  obtain ⟨rp1, o, e1, a1, a2, a3, a4⟩ := S.l20Order_in (n := 0) m hb hl h0 h1 hm
  rw [e1]
  simp only [optC]
  have e2 : S.l20Rd_odd_t rb rp1 0 = some (false, rb, rp1) := by unfold S.l20Rd_odd_t S.l20Rd_odd_tree; rw [cnd_f (by decide)]
  rw [e2]
  exact ⟨_, _, rfl, a1, a2, a3, a4⟩
end Go.Proofs.Ytdmpbfbhgokphaa
/- Draws of packings. Conditions: those of each theorem. -/
namespace Go.Proofs.Ytdmpbfbhgokphaa
open D Go.RowKit
set_option linter.unusedVariables false
set_option linter.unusedSimpArgs false


theorem S.l20Packed_is {rb : List Int} {rp n : Int} (hb : Bytes rb) (hl : rb.length ≤ 2000) (h0 : 0 ≤ rp) (h1 : rp ≤ 900000) :
    ∃ rp' net v, S.l20Packed_t rb rp n = some (v, rb, rp', net) ∧ rp ≤ rp' ∧ rp' ≤ rp + 400 ∧ net.length ≤ 6 ∧ 0 ≤ v ∧ v < 128 := by
  unfold S.l20Packed_t S.l20Packed_tree
  obtain ⟨rp1, net, v, e1, a1, a2, a3, a4, a5⟩ := S.l20Set_is (n := n) hb hl h0 (by omega)
  rw [e1]
  simp only [optC]
  rcases NetOk_cases net with ⟨h, g1, g2⟩ | ⟨_, g1, g2⟩
  · rw [g2]
    simp only [cond_true]
    have h64 := h.pow
    obtain ⟨u, e2, b1, b2⟩ := S.l20Rd_pick_is (rp := rp1) (n := 3) hb hl (by omega) (by omega)
    rw [e2]
    simp only
    by_cases hu : u > 0
    · rw [cnd_t (by simpa using hu)]
      obtain ⟨rp2, o, e3, c1, c2, c3, c4⟩ := S.l20Order_zero (rp := rp1 + 1) net.length hb hl (by omega) (by omega) a3
      rw [e3]
      simp only
      have := run_post (run := S.l20Packed_run6) (fun s => ∃ (t k : Nat) (rq : Int), s = ((t : Int), (k : Int), rb, rq, net, o) ∧ t < 2 ^ net.length ∧ k ≤ net.length ∧ rp2 ≤ rq ∧ rq ≤ rp2 + k) (fun s => net.length - s.2.1.toNat)
        (fun d => ∃ (t : Nat) (rq : Int), d = ((t : Int), rb, rq, net) ∧ t < 2 ^ net.length ∧ rp2 ≤ rq ∧ rq ≤ rp2 + 6) (fun f s => ?_) (s := (0, 0, rb, rp2, net, o)) ⟨0, 0, rp2, rfl, Nat.two_pow_pos _, by omega, by omega, by omega⟩ (by simp; omega)
      · obtain ⟨d, e4, t, rq, rfl, d1, d2, d3⟩ := this
        rw [e4]
        exact ⟨_, _, _, rfl, by simp only; omega, by simp only; omega, a3, by simp only; omega, by simp only; omega⟩
      · rintro ⟨t, k, rq, rfl, i1, i2, i3, i4⟩
        simp only [S.l20Packed_run6, S.l20Packed_step6]
        by_cases hlt : k < net.length
        · right
          have hx := c4 _ (eli_mem (l := o) (k := k) (by omega))
          obtain ⟨w, hw⟩ : ∃ w : Nat, D.eli o k = w := ⟨(D.eli o k).toNat, by omega⟩
          have hwl : w < net.length := by omega
          have hpw : 2 ^ w < 2 ^ net.length := Nat.pow_lt_pow_right (by omega) hwl
          have hor := Nat.or_lt_two_pow i1 hpw
          have hek : D.eli o (k : Int).toNat = (w : Int) := by rw [Int.toNat_natCast]; exact hw
          rw [hek, cnd_t (by simp; omega), cnd_t (by simp; omega), cnd_t (by simp; omega), cnd_f (by simp), one_shl (by omega), i64_or_nat _ _ (by omega) (by omega), S.l11Packed_n h hor]
          simp only [optC]
          rw [add1_nat (by omega)]
          cases packed net (t ||| 2 ^ w) with
          | true =>
            rw [cond_true]
            obtain ⟨x, e5, f1, f2⟩ := S.l20Rd_pick_is (rp := rq) (n := 4) hb hl (by omega) (by omega)
            rw [e5]
            simp only
            by_cases hx0 : x > 0
            · rw [cnd_t (by simpa using hx0), cnd_t (by simp; omega), cnd_t (by simp; omega), cnd_f (by simp)]
              exact ⟨_, rfl, ⟨_, k + 1, _, rfl, hor, by omega, by omega, by omega⟩, by simp only [Int.toNat_natCast]; omega⟩
            · rw [cnd_f (by simpa using hx0)]
              exact ⟨_, rfl, ⟨_, k + 1, _, rfl, i1, by omega, by omega, by omega⟩, by simp only [Int.toNat_natCast]; omega⟩
          | false =>
            rw [cond_false]
            exact ⟨_, rfl, ⟨_, k + 1, _, rfl, i1, by omega, by omega, by omega⟩, by simp only [Int.toNat_natCast]; omega⟩
        · left
          rw [cnd_f (by simp; omega)]
          exact ⟨_, rfl, t, rq, rfl, i1, by omega, by omega⟩
    · rw [cnd_f (by simpa using hu)]
      exact ⟨_, _, _, rfl, by omega, by omega, a3, a4, a5⟩
  · rw [g2]
    simp only [cond_false]
    exact ⟨_, _, _, rfl, by omega, by omega, a3, a4, a5⟩
theorem S.DrawPackedOk_is {code : List Int} (hb : Bytes code) : ∃ (v : Nat) (net : List Int), S.DrawPackedOk_t code = some ((v : Int), net) ∧ net.length ≤ 6 ∧ v < 128 := by
  unfold S.DrawPackedOk_t S.DrawPackedOk_tree
  obtain ⟨rb, e1, h1, h2⟩ := S.l20Open_is hb
  rw [e1]
  simp only [optC]
  obtain ⟨rp', net, v, e2, _, _, h3, h4, h5⟩ := S.l20Packed_is (n := 12) h1 h2 (Int.le_refl 0) (by decide)
  rw [e2]
  obtain ⟨w, rfl⟩ : ∃ w : Nat, v = w := ⟨v.toNat, by omega⟩
  exact ⟨_, _, rfl, h3, by omega⟩
theorem S.DrawEfficientOk_is {code : List Int} (hb : Bytes code) : ∃ (v : Nat) (net : List Int), S.DrawEfficientOk_t code = some ((v : Int), net) ∧ net.length ≤ 6 ∧ v < 128 := by
  unfold S.DrawEfficientOk_t S.DrawEfficientOk_tree
  obtain ⟨rb, e1, h1, h2⟩ := S.l20Open_is hb
  rw [e1]
  simp only [optC]
  obtain ⟨rp', net, v, e2, _, _, h3, h4, h5⟩ := S.l20Packed_is (n := 12) h1 h2 (Int.le_refl 0) (by decide)
  rw [e2]
  obtain ⟨w, rfl⟩ : ∃ w : Nat, v = w := ⟨v.toNat, by omega⟩
  exact ⟨_, _, rfl, h3, by omega⟩
theorem S.DrawGrownPacked_is {code : List Int} (hb : Bytes code) : ∃ (v : Nat) (net : List Int), S.DrawGrownPacked_t code = some ((v : Int), net) ∧ net.length ≤ 6 ∧ v < 128 := by
  unfold S.DrawGrownPacked_t S.DrawGrownPacked_tree
  obtain ⟨rb, e1, h1, h2⟩ := S.l20Open_is hb
  rw [e1]
  simp only [optC]
  obtain ⟨rp', net, v, e2, _, _, h3, h4, h5⟩ := S.l20Packed_is (n := 12) h1 h2 (Int.le_refl 0) (by decide)
  rw [e2]
  obtain ⟨w, rfl⟩ : ∃ w : Nat, v = w := ⟨v.toNat, by omega⟩
  exact ⟨_, _, rfl, h3, by omega⟩
theorem S.DrawMostPacked_is {code : List Int} (hb : Bytes code) : ∃ net, S.DrawMostPacked_t code = some net ∧ net.length ≤ 6 := by
  unfold S.DrawMostPacked_t S.DrawMostPacked_tree
  obtain ⟨rb, e1, h1, h2⟩ := S.l20Open_is hb
  rw [e1]
  simp only [optC]
  obtain ⟨rp', net, e2, _, _, h3⟩ := S.l20Net_is (n := 9) h1 h2 (Int.le_refl 0) (by decide)
  rw [e2]
  exact ⟨_, rfl, h3⟩
theorem S.DrawEfficientOf_is {code : List Int} (hb : Bytes code) : ∃ net, S.DrawEfficientOf_t code = some net ∧ net.length ≤ 6 := by
  unfold S.DrawEfficientOf_t S.DrawEfficientOf_tree
  obtain ⟨rb, e1, h1, h2⟩ := S.l20Open_is hb
  rw [e1]
  simp only [optC]
  obtain ⟨rp', net, e2, _, _, h3⟩ := S.l20Net_is (n := 9) h1 h2 (Int.le_refl 0) (by decide)
  rw [e2]
  exact ⟨_, rfl, h3⟩
theorem S.DrawForestOk_is {code : List Int} (hb : Bytes code) : ∃ net, S.DrawForestOk_t code = some net ∧ net.length ≤ 6 := by
  unfold S.DrawForestOk_t S.DrawForestOk_tree
  obtain ⟨rb, e1, h1, h2⟩ := S.l20Open_is hb
  rw [e1]
  simp only [optC]
  obtain ⟨rp', net, e2, _, _, h3⟩ := S.l20Net_is (n := 9) h1 h2 (Int.le_refl 0) (by decide)
  rw [e2]
  exact ⟨_, rfl, h3⟩
end Go.Proofs.Ytdmpbfbhgokphaa
/- Other ways to the sets and numbers of chapters 3 to 5. Conditions: those of each theorem. -/
namespace Go.Proofs.Ytdmpbfbhgokphaa
set_option linter.unusedVariables false
set_option linter.unusedSimpArgs false

theorem minus_twice {net : List Int} (h : Ok net) {s g : Nat} (hs : s < 2 ^ net.length) (hg : s.testBit g = true) : minus (ball net g) (twice net s) = priv net s g := by
  have h6 := h.hi
  have h64 := h.pow
  have hb := h.ball_lt (in_lt hs hg)
  have ht := twice_is h hs
  have htl := ht.lt
  refine Nat.eq_of_testBit_eq fun j => ?_
  rw [Bool.eq_iff_iff, minus_testBit _ _ (by omega) (by omega), Bool.and_eq_true, Bool.not_eq_true', priv_testBit h hs hg]
  constructor
  · rintro ⟨a, b⟩
    refine ⟨a, fun i hi hb2 => Classical.byContradiction fun hne => ?_⟩
    rw [(ht.bit j).2 ⟨i, g, hi, hg, hne, hb2, a⟩] at b; cases b
  · rintro ⟨a, b⟩
    refine ⟨a, not_true fun hc => ?_⟩
    obtain ⟨x, y, hx, hy, hxy, hbx, hby⟩ := (ht.bit j).1 hc
    exact hxy ((b x hx hbx).trans (b y hy hby).symm)
theorem fullA_watch {net : List Int} (h : Ok net) {s : Nat} (hs : s < 2 ^ net.length) : fullA net s = (apart net s && W net s) := by
  rw [Bool.eq_iff_iff, fullA_iff h hs, Bool.and_eq_true, apart_iff hs]
theorem fold_near (net : List Int) (s : Nat) : fold net.length (fun t k => if s.testBit k = true then t ||| nb net k else t) 0 = near net s := rfl
/-- One step of growing, told by the set with the place. -/
theorem grownStep_apart {net : List Int} (h : Ok net) {t k : Nat} (ht : t < 2 ^ net.length) (hk : k < net.length) (ha : Apart net t) : (if apart net (t ||| 2 ^ k) = true then t ||| 2 ^ k else t) = grownStep net t k := by
  unfold grownStep
  cases hb : t.testBit k with
  | true =>
    have e : t ||| 2 ^ k = t := Nat.eq_of_testBit_eq fun j => by
      rw [Bool.eq_iff_iff, or_testBit]
      exact ⟨fun a => a.elim id fun b => by rw [b]; exact hb, .inl⟩
    rw [e]; simp
  | false =>
    rw [Bool.not_false, Bool.true_and]
    congr 1
    rw [eq_iff_iff, beq_iff_eq, and_zero, apart_iff (or_lt ht hk)]
    constructor
    · intro hA i hi
      exact hA k i ((or_testBit _ _ _).2 (.inr rfl)) ((or_testBit _ _ _).2 (.inl hi))
    · exact fun hn => ha.add h ht hk hn
theorem grownStep_keeps {net : List Int} (h : Ok net) {t k : Nat} (ht : t < 2 ^ net.length) (hk : k < net.length) (ha : Apart net t) : Apart net (grownStep net t k) := by
  rw [← grownStep_apart h ht hk ha]
  split
  · rename_i hc; exact (apart_iff (or_lt ht hk)).1 hc
  · exact ha
def minStepN (p : Nat → Bool) (t s : Nat) : Nat := if p s = true then (if size s < t then size s else t) else t
def maxStepN (p : Nat → Bool) (t s : Nat) : Nat := if p s = true then (if size s > t then size s else t) else t
theorem minSize_fold (net : List Int) (p : Nat → Bool) : fold (2 ^ net.length) (minStepN p) net.length = minSize net p := rfl
theorem maxSize_fold (net : List Int) (p : Nat → Bool) : fold (2 ^ net.length) (maxStepN p) 0 = maxSize net p := rfl
theorem minStepN_lt {p : Nat → Bool} {t s : Nat} (hl : size s < t) : minStepN p t s = if p s = true then size s else t := by unfold minStepN; rw [if_pos hl]
theorem minStepN_ge {p : Nat → Bool} {t s : Nat} (hl : ¬ size s < t) : minStepN p t s = t := by unfold minStepN; rw [if_neg hl, ite_self]
theorem maxStepN_lt {p : Nat → Bool} {t s : Nat} (hl : size s > t) : maxStepN p t s = if p s = true then size s else t := by unfold maxStepN; rw [if_pos hl]
theorem maxStepN_ge {p : Nat → Bool} {t s : Nat} (hl : ¬ size s > t) : maxStepN p t s = t := by unfold maxStepN; rw [if_neg hl, ite_self]
theorem minStepN_le {p : Nat → Bool} {t s : Nat} (ht : t ≤ 6) : minStepN p t s ≤ 6 := by
  have := size_le s
  unfold minStepN; split
  · split <;> omega
  · exact ht
theorem maxStepN_le {p : Nat → Bool} {t s : Nat} (ht : t ≤ 6) : maxStepN p t s ≤ 6 := by
  have := size_le s
  unfold maxStepN; split
  · split <;> omega
  · exact ht
/-- Folds side by side. -/
theorem fold_pair {A B : Type} (f : A → Nat → A) (g : B → Nat → B) (n : Nat) (a : A) (b : B) : fold n (fun (q : A × B) k => (f q.1 k, g q.2 k)) (a, b) = (fold n f a, fold n g b) := by
  induction n with
  | zero => rfl
  | succ n ih => rw [fold_succ, fold_succ, fold_succ, ih]
end Go.Proofs.Ytdmpbfbhgokphaa
/- The program's functions of chapters 3 and 4 in natural numbers. Conditions: those of each theorem. -/
namespace Go.Proofs.Ytdmpbfbhgokphaa
open D Go.RowKit
set_option linter.unusedVariables false
set_option linter.unusedSimpArgs false


theorem I.with_n {s k : Nat} (hs : s < 64) (hk : k < 6) : I.with_t s k = some ((s ||| 2 ^ k : Nat) : Int) := by
  unfold I.with_t I.with_tree
  rw [cnd_f (by simp), one_shl (by omega), i64_or_nat _ _ (by omega) (pow2_lt (by omega))]
theorem I.twiceIn_n {net : List Int} (h : Ok net) {t : Nat} (ht : t < 2 ^ net.length) : I.twiceIn_t net t = some ((twice net t : Nat) : Int) := by
  unfold I.twiceIn_t I.twiceIn_tree
  have h6 := h.hi
  have h64 := h.pow
  have := (run_for (run := I.twiceIn_run4 net t) (len := net.length) (fun k (q : Nat × Nat) => ((q.1 : Int), (q.2 : Int), (k : Int))) (fun q k => if t.testBit k = true then (q.1 ||| ball net k, q.2 ||| (q.1 &&& ball net k)) else q) (fun q => (q.2 : Int)) (fun k q => q.1 < 2 ^ net.length ∧ q.2 < 2 ^ net.length) (by omega) (fun n k q hk hq => ?_) (fun n q hq => ?_) (t0 := (0, 0)) ⟨Nat.two_pow_pos _, Nat.two_pow_pos _⟩).1
  · exact congrArg (fun o => optC o (fun q => some q) none) this
  · obtain ⟨q1, q2⟩ := q
    obtain ⟨hq1, hq2⟩ := hq
    simp only at hq1 hq2
    have hb := h.ball_lt hk
    have hal : q1 &&& ball net k < 2 ^ net.length := Nat.lt_of_le_of_lt Nat.and_le_left hq1
    simp only [I.twiceIn_run4, I.twiceIn_step4]
    rw [cnd_t (by simp; omega), I.hasPlace_n _ _ (by omega)]
    simp only [optC]
    cases hbit : t.testBit k with
    | true =>
      rw [cond_true, I.ballIn_n h hk, if_pos rfl]
      simp only
      rw [i64_or_nat q1 _ (by omega) (by omega), i64_and_nat q1 _ (by omega) (by omega), i64_or_nat q2 _ (by omega) (by omega), add1_nat (by omega)]
      exact ⟨rfl, Nat.or_lt_two_pow hq1 hb, Nat.or_lt_two_pow hq2 hal⟩
    | false => rw [cond_false, add1_nat (by omega), if_neg (by simp)]; exact ⟨rfl, hq1, hq2⟩
  · simp only [I.twiceIn_run4, I.twiceIn_step4]
    rw [cnd_f (by simp)]
theorem twice_lt {net : List Int} (h : Ok net) {s : Nat} (hs : s < 2 ^ net.length) : twice net s < 2 ^ net.length := (twice_is h hs).lt
theorem I.needsAllIn_n {net : List Int} (h : Ok net) {s : Nat} (hs : s < 2 ^ net.length) : I.needsAllIn_t net s = some (needs net s) := by
  unfold I.needsAllIn_t I.needsAllIn_tree
  have h6 := h.hi
  have h64 := h.pow
  have htl := twice_lt h hs
  rw [I.twiceIn_n h hs]
  simp only [optC]
  rw [run_search (run := I.needsAllIn_run3 net s (twice net s : Nat)) (len := net.length) (fun k => if (s.testBit k && priv net s k == 0) = true then some false else none) () (by omega) (fun n k hk => ?_) (fun n => ?_), find_test (p := fun k => s.testBit k && priv net s k == 0)]
  · unfold needs
    cases (List.range net.length).all fun k => !(s.testBit k && priv net s k == 0) <;> rfl
  · have hb := h.ball_lt hk
    simp only [I.needsAllIn_run3, I.needsAllIn_step3]
    rw [cnd_t (by simp; omega), I.hasPlace_n _ _ (by omega)]
    simp only [optC]
    cases hbit : s.testBit k with
    | false => simp only [cond_false, Bool.false_and, Bool.false_eq_true, if_false]; rw [add1_nat (by omega)]
    | true =>
      rw [cond_true, I.ballIn_n h hk]
      simp only [Bool.true_and]
      rw [i64_andNot_nat _ _ (by omega) (by omega), minus_twice h hs hbit, nat_eq0]
      cases hp : priv net s k == 0 with
      | false => simp only [cond_false, Bool.false_eq_true, if_false]; rw [add1_nat (by omega)]
      | true => rfl
  · simp only [I.needsAllIn_run3, I.needsAllIn_step3]
    rw [cnd_f (by simp)]
theorem I.nextTo_n {net : List Int} (h : Ok net) {s : Nat} (hs : s < 2 ^ net.length) : I.nextTo_t net s = some ((near net s : Nat) : Int) := by
  unfold I.nextTo_t I.nextTo_tree
  have h6 := h.hi
  have h64 := h.pow
  have := (run_for (run := I.nextTo_run3 net s) (len := net.length) (fun k (t : Nat) => ((t : Int), (k : Int))) (fun t k => if s.testBit k = true then t ||| nb net k else t) (fun t => (t : Int)) (fun k t => t < 2 ^ net.length) (by omega) (fun n k t hk ht => ?_) (fun n t ht => ?_) (t0 := 0) (Nat.two_pow_pos _)).1
  · rw [fold_near] at this
    exact congrArg (fun o => optC o (fun q => some q) none) this
  · have hb := h.lt k hk
    simp only [I.nextTo_run3, I.nextTo_step3]
    rw [cnd_t (by simp; omega), I.hasPlace_n _ _ (by omega)]
    simp only [optC]
    cases hbit : s.testBit k with
    | true =>
      rw [cond_true, cnd_t (by simp; omega), if_pos rfl, Int.toNat_natCast, h.eli hk, i64_or_nat _ _ (by omega) (by omega), add1_nat (by omega)]
      exact ⟨rfl, Nat.or_lt_two_pow ht hb⟩
    | false =>
      rw [cond_false, if_neg (by simp), add1_nat (by omega)]
      exact ⟨rfl, ht⟩
  · simp only [I.nextTo_run3, I.nextTo_step3]
    rw [cnd_f (by simp)]
theorem I.apartIn_n {net : List Int} (h : Ok net) {s : Nat} (hs : s < 2 ^ net.length) : I.apartIn_t net s = some (apart net s) := by
  unfold I.apartIn_t I.apartIn_tree
  have h64 := h.pow
  have hnl := h.near_lt s
  rw [I.nextTo_n h hs]
  simp only [optC]
  rw [i64_and_nat _ _ (by omega) (by omega), nat_eq0, Nat.and_comm]
  rfl
theorem I.NeedsAllOk_x {net : List Int} (e : I.NetOk_t net = some false) (s : Int) : I.NeedsAllOk_t net s = some false := by
  unfold I.NeedsAllOk_t I.NeedsAllOk_tree; rw [e]; rfl
theorem I.ApartOk_x {net : List Int} (e : I.NetOk_t net = some false) (s : Int) : I.ApartOk_t net s = some false := by
  unfold I.ApartOk_t I.ApartOk_tree; rw [e]; rfl
theorem I.SeenTwice_x {net : List Int} (e : I.NetOk_t net = some false) (s : Int) : I.SeenTwice_t net s = some (-1) := by
  unfold I.SeenTwice_t I.SeenTwice_tree; rw [e]; rfl
theorem I.NeedsAllOk_n {net : List Int} (h : Ok net) (e : I.NetOk_t net = some true) (s : Int) : I.NeedsAllOk_t net s = some (decide (0 ≤ s ∧ s < 2 ^ net.length) && needs net s.toNat) := by
  unfold I.NeedsAllOk_t I.NeedsAllOk_tree
  rw [e]
  simp only [optC]
  rw [cond_true, I.setIn_n h]
  simp only
  rcases set_cases h s with ⟨t, rfl, ht, hd⟩ | hd
  · rw [hd, cond_true, I.needsAllIn_n h ht]; rfl
  · rw [hd]; rfl
theorem I.ApartOk_n {net : List Int} (h : Ok net) (e : I.NetOk_t net = some true) (s : Int) : I.ApartOk_t net s = some (decide (0 ≤ s ∧ s < 2 ^ net.length) && apart net s.toNat) := by
  unfold I.ApartOk_t I.ApartOk_tree
  rw [e]
  simp only [optC]
  rw [cond_true, I.setIn_n h]
  simp only
  rcases set_cases h s with ⟨t, rfl, ht, hd⟩ | hd
  · rw [hd, cond_true, I.apartIn_n h ht]; rfl
  · rw [hd]; rfl
theorem I.SeenTwice_n {net : List Int} (h : Ok net) (e : I.NetOk_t net = some true) (s : Int) : I.SeenTwice_t net s = some (twiceI net s) := by
  unfold I.SeenTwice_t I.SeenTwice_tree
  rw [e]
  simp only [optC]
  rw [Bool.not_true, cond_false, I.setIn_n h]
  simp only
  unfold twiceI
  rcases set_cases h s with ⟨t, rfl, ht, hd⟩ | hd
  · rw [hd, Bool.not_true, cond_false, I.twiceIn_n h ht, if_pos (dec_true hd)]; rfl
  · rw [hd, if_neg (dec_false hd)]; rfl
end Go.Proofs.Ytdmpbfbhgokphaa
/- The program's functions of chapter 11 in natural numbers. Conditions: those of each theorem. -/
namespace Go.Proofs.Ytdmpbfbhgokphaa
open D Go.RowKit
set_option linter.unusedVariables false
set_option linter.unusedSimpArgs false


theorem I.packedIn_n {net : List Int} (h : Ok net) {s : Nat} (hs : s < 2 ^ net.length) : I.packedIn_t net (s : Int) = some (packed net s) := by
  unfold I.packedIn_t I.packedIn_tree
  rw [I.twiceIn_n h hs]
  simp only [optC]
  rw [nat_eq0]
  congr 1
  rw [Bool.eq_iff_iff, beq_iff_eq, packed_two h hs, packed_twice h hs]
theorem I.efficientIn_n {net : List Int} (h : Ok net) {s : Nat} (hs : s < 2 ^ net.length) : I.efficientIn_t net (s : Int) = some (efficientB net s) := by
  unfold I.efficientIn_t I.efficientIn_tree
  rw [I.packedIn_n h hs]
  simp only [optC]
  unfold efficientB
  cases packed net s with
  | false => rfl
  | true => rw [cond_true, I.watchIn_n h hs]; rfl
theorem I.PackedOk_x {net : List Int} (e : I.NetOk_t net = some false) (s : Int) : I.PackedOk_t net s = some false := by
  unfold I.PackedOk_t I.PackedOk_tree; rw [e]; rfl
theorem I.PackedOk_n {net : List Int} (h : Ok net) (e : I.NetOk_t net = some true) (s : Int) : I.PackedOk_t net s = some (decide (0 ≤ s ∧ s < 2 ^ net.length) && packed net s.toNat) := by
  unfold I.PackedOk_t I.PackedOk_tree
  rw [e]
  simp only [optC]
  rw [cond_true, I.setIn_n h]
  simp only
  rcases set_cases h s with ⟨t, rfl, ht, hd⟩ | hd
  · rw [hd, cond_true, I.packedIn_n h ht]; rfl
  · rw [hd]; rfl
theorem I.EfficientOk_x {net : List Int} (e : I.NetOk_t net = some false) (s : Int) : I.EfficientOk_t net s = some false := by
  unfold I.EfficientOk_t I.EfficientOk_tree; rw [e]; rfl
theorem I.EfficientOk_n {net : List Int} (h : Ok net) (e : I.NetOk_t net = some true) (s : Int) : I.EfficientOk_t net s = some (decide (0 ≤ s ∧ s < 2 ^ net.length) && efficientB net s.toNat) := by
  unfold I.EfficientOk_t I.EfficientOk_tree
  rw [e]
  simp only [optC]
  rw [cond_true, I.setIn_n h]
  simp only
  rcases set_cases h s with ⟨t, rfl, ht, hd⟩ | hd
  · rw [hd, cond_true, I.efficientIn_n h ht]; rfl
  · rw [hd]; rfl
theorem I.MostPacked_x {net : List Int} (e : I.NetOk_t net = some false) : I.MostPacked_t net = some (-1) := by
  unfold I.MostPacked_t I.MostPacked_tree; rw [e]; rfl
theorem I.MostPacked_y {net : List Int} (h : Ok net) (e : I.NetOk_t net = some true) : I.MostPacked_t net = some ((maxSize net (packed net) : Nat) : Int) := by
  unfold I.MostPacked_t I.MostPacked_tree
  have h64 := h.pow
  have h6 := h.hi
  have hsu := allOf_succ net
  rw [e]
  have := (run_for (run := I.MostPacked_run5 net) (len := 2 ^ net.length) (fun k (t : Nat) => ((t : Int), (k : Int))) (maxStepN (packed net)) (fun t => (t : Int)) (fun k t => t ≤ 6) (by omega) (fun n k t hk ht => ?_) (fun n t ht => ?_) (t0 := 0) (by omega)).1
  · exact congrArg (fun o => optC o (fun q => some q) none) this
  · refine ⟨?_, maxStepN_le ht⟩
    simp only [I.MostPacked_run5, I.MostPacked_step5]
    rw [I.allOf_n h]
    simp only [optC]
    rw [cnd_t (by rw [decide_eq_true_eq]; omega), I.sizeOf_n]
    simp only
    by_cases hc : size k > t
    · rw [cnd_t (by rw [decide_eq_true_eq]; omega), I.packedIn_n h hk, maxStepN_lt hc]
      simp only
      cases hp : packed net k with
      | true => simp only [cond_true, if_true]; rw [add1_nat (by omega)]
      | false => simp only [cond_false, Bool.false_eq_true, if_false]; rw [add1_nat (by omega)]
    · rw [cnd_f (by rw [decide_eq_false_iff_not]; omega), maxStepN_ge hc, add1_nat (by omega)]
  · simp only [I.MostPacked_run5, I.MostPacked_step5]
    rw [I.allOf_n h]
    simp only [optC]
    rw [cnd_f (by rw [decide_eq_false_iff_not]; omega)]
theorem I.EfficientOf_x {net : List Int} (e : I.NetOk_t net = some false) : I.EfficientOf_t net = some (-1) := by
  unfold I.EfficientOf_t I.EfficientOf_tree; rw [e]; rfl
theorem I.EfficientOf_y {net : List Int} (h : Ok net) (e : I.NetOk_t net = some true) : I.EfficientOf_t net = some (efficientI net) := by
  unfold I.EfficientOf_t I.EfficientOf_tree
  have h6 := h.hi
  have h64 := h.pow
  have hsu := allOf_succ net
  rw [e]
  simp only [optC]
  rw [Bool.not_true, cond_false, run_search (run := I.EfficientOf_run4 net) (len := 2 ^ net.length) (fun s => if efficientB net s = true then some (s : Int) else none) () (by omega) (fun n k hk => ?_) (fun n => ?_)]
  · unfold efficientI
    cases find (2 ^ net.length) (fun s => if efficientB net s = true then some (s : Int) else none) <;> rfl
  · simp only [I.EfficientOf_run4, I.EfficientOf_step4]
    rw [I.allOf_n h]
    simp only [optC]
    rw [cnd_t (by rw [decide_eq_true_eq]; omega), I.efficientIn_n h hk]
    simp only
    cases efficientB net k with
    | true => rfl
    | false => rw [cond_false, add1_nat (by omega)]; rfl
  · simp only [I.EfficientOf_run4, I.EfficientOf_step4]
    rw [I.allOf_n h]
    simp only [optC]
    rw [cnd_f (by rw [decide_eq_false_iff_not]; omega)]
theorem I.GrownPacked_x {net : List Int} (e : I.NetOk_t net = some false) (s : Int) : I.GrownPacked_t net s = some (-1) := by
  unfold I.GrownPacked_t I.GrownPacked_tree; rw [I.PackedOk_x e]; rfl
theorem I.GrownPacked_n {net : List Int} (h : Ok net) (e : I.NetOk_t net = some true) (s : Int) : I.GrownPacked_t net s = some (grownPI net s) := by
  unfold I.GrownPacked_t I.GrownPacked_tree
  have h6 := h.hi
  have h64 := h.pow
  rw [I.PackedOk_n h e]
  simp only [optC]
  rcases set_cases h s with ⟨t, rfl, ht, hd⟩ | hd
  · rw [hd, Int.toNat_natCast, Bool.true_and]
    unfold grownPI
    cases hp : packed net t with
    | false => rw [if_neg (fun hc => by have := hc.2; rw [Int.toNat_natCast, hp] at this; cases this)]; rfl
    | true =>
      rw [if_pos ⟨dec_true hd, by simpa using hp⟩, Int.toNat_natCast, Bool.not_true, cond_false]
      have := (run_for (run := I.GrownPacked_run5 net) (len := net.length) (fun k (t : Nat) => ((t : Int), (k : Int))) (growP net) (fun t => (t : Int)) (fun k t => t < 2 ^ net.length) (by omega) (fun n k t hk ht => ?_) (fun n t ht => ?_) (t0 := t) ht).1
      · exact congrArg (fun o => optC o (fun q => some q) none) this
      · simp only [I.GrownPacked_run5, I.GrownPacked_step5]
        have hpw : 2 ^ k < 2 ^ net.length := Nat.pow_lt_pow_right (by omega) hk
        have hlt := Nat.or_lt_two_pow ht hpw
        rw [cnd_t (by rw [decide_eq_true_eq]; omega), I.with_n (by omega) (by omega), add1_nat (by omega)]
        simp only [optC]
        rw [I.packedIn_n h hlt]
        simp only
        unfold growP
        cases packed net (t ||| 2 ^ k) with
        | true => rw [cond_true, if_pos rfl]; exact ⟨rfl, hlt⟩
        | false => rw [cond_false, if_neg (by simp)]; exact ⟨rfl, ht⟩
      · simp only [I.GrownPacked_run5, I.GrownPacked_step5]
        rw [cnd_f (by rw [decide_eq_false_iff_not]; omega)]
  · unfold grownPI
    rw [hd, if_neg (fun hc => dec_false hd hc.1)]; rfl
/-- The first place with at most one neighbour left. -/
def leafF (net : List Int) (s : Nat) : Int := (find net.length (fun k => if (s.testBit k && decide (size (nb net k &&& s) ≤ 1)) = true then some (k : Int) else none)).getD (-1)
theorem leafF_cases (net : List Int) {s : Nat} (hs : s < 2 ^ net.length) : (leafF net s = -1 ∧ Stuck net s) ∨ ∃ k : Nat, k < net.length ∧ leafF net s = (k : Int) ∧ s.testBit k = true ∧ size (nb net k &&& s) ≤ 1 := by
  unfold leafF
  cases hf : find net.length (fun k => if (s.testBit k && decide (size (nb net k &&& s) ≤ 1)) = true then some (k : Int) else none) with
  | none =>
    refine .inl ⟨rfl, fun k hk => ?_⟩
    have := find_none.1 hf k (in_lt hs hk)
    by_cases hc : size (nb net k &&& s) ≤ 1
    · rw [hk, decide_eq_true hc] at this; simp at this
    · omega
  | some r =>
    obtain ⟨k, hk, he⟩ := find_some_ex hf
    right
    by_cases hc : (s.testBit k && decide (size (nb net k &&& s) ≤ 1)) = true
    · rw [if_pos hc] at he
      injection he with he
      rw [Bool.and_eq_true, decide_eq_true_eq] at hc
      exact ⟨k, hk, he.symm, hc.1, hc.2⟩
    · rw [if_neg hc] at he; cases he
theorem I.leafIn_n {net : List Int} (h : Ok net) {s : Nat} (hs : s < 2 ^ net.length) : I.leafIn_t net (s : Int) = some (leafF net s) := by
  unfold I.leafIn_t I.leafIn_tree
  have h6 := h.hi
  have h64 := h.pow
  rw [run_search (run := I.leafIn_run2 net s) (len := net.length) (fun k => if (s.testBit k && decide (size (nb net k &&& s) ≤ 1)) = true then some (k : Int) else none) () (by omega) (fun n k hk => ?_) (fun n => ?_)]
  · unfold leafF
    cases find net.length (fun k => if (s.testBit k && decide (size (nb net k &&& s) ≤ 1)) = true then some (k : Int) else none) <;> rfl
  · simp only [I.leafIn_run2, I.leafIn_step2]
    have hnb := h.lt64 hk
    rw [cnd_t (by simp; omega), I.hasPlace_n _ _ (by omega), add1_nat (by omega)]
    simp only [optC]
    cases hb : s.testBit k with
    | false => rfl
    | true =>
      rw [cond_true, cnd_t (by simp; omega), Int.toNat_natCast, h.eli hk, i64_and_nat _ _ (by omega) (by omega), I.sizeOf_n, Bool.true_and]
      simp only
      by_cases hc : size (nb net k &&& s) ≤ 1
      · rw [cnd_t (by rw [decide_eq_true_eq]; omega), if_pos (by simpa using hc)]
      · rw [cnd_f (by rw [decide_eq_false_iff_not]; omega), if_neg (by simpa using hc)]
  · simp only [I.leafIn_run2, I.leafIn_step2]
    rw [cnd_f (by simp)]
theorem I.prunedIn_n {net : List Int} (h : Ok net) : ∃ r : Nat, I.prunedIn_t net = some (r : Int) ∧ r < 2 ^ net.length ∧ Down net r (allOf net) ∧ Stuck net r := by
  unfold I.prunedIn_t I.prunedIn_tree
  have h6 := h.hi
  have h64 := h.pow
  have hall := allOf_lt net
  rw [I.allOf_n h]
  simp only [optC]
  rw [I.leafIn_n h hall]
  simp only
  have := run_post (run := I.prunedIn_run3 net) (fun q => ∃ t : Nat, q = ((t : Int), leafF net t) ∧ t < 2 ^ net.length ∧ Down net t (allOf net)) (fun q => q.1.toNat)
    (fun d => ∃ r : Nat, d = (r : Int) ∧ r < 2 ^ net.length ∧ Down net r (allOf net) ∧ Stuck net r) (fun f q => ?_) (s := ((allOf net : Nat), leafF net (allOf net))) ⟨allOf net, rfl, hall, .here⟩ (by simp only [Int.toNat_natCast]; omega)
  · obtain ⟨d, e1, r, rfl, r1, r2, r3⟩ := this
    rw [e1]
    exact ⟨r, rfl, r1, r2, r3⟩
  · rintro ⟨t, rfl, i1, i2⟩
    simp only [I.prunedIn_run3, I.prunedIn_step3]
    rcases leafF_cases net i1 with ⟨e1, hst⟩ | ⟨k, hk, e1, hb, hc⟩
    · left
      rw [e1, cnd_f (show decide ((-1 : Int) ≥ 0) = false from rfl)]
      exact ⟨_, rfl, t, rfl, i1, i2, hst⟩
    · right
      have hge : 2 ^ k ≤ t := Nat.ge_two_pow_of_testBit hb
      have hpos := Nat.two_pow_pos k
      have hlt : t - 2 ^ k < 2 ^ net.length := Nat.lt_of_le_of_lt (Nat.sub_le _ _) i1
      rw [e1, cnd_t (by rw [decide_eq_true_eq]; omega), I.without_n (by omega) (by omega), if_pos hb]
      simp only [optC]
      rw [I.leafIn_n h hlt]
      simp only
      exact ⟨_, rfl, ⟨t - 2 ^ k, rfl, hlt, (Down.step hb hc .here : Down net (t - 2 ^ k) t).trans i2⟩, by simp only [Int.toNat_natCast]; omega⟩
theorem I.ForestOk_x {net : List Int} (e : I.NetOk_t net = some false) : I.ForestOk_t net = some false := by
  unfold I.ForestOk_t I.ForestOk_tree; rw [e]; rfl
theorem I.ForestOk_y {net : List Int} (h : Ok net) (e : I.NetOk_t net = some true) : I.ForestOk_t net = some (forestB net) := by
  unfold I.ForestOk_t I.ForestOk_tree
  obtain ⟨r, e1, r1, r2, r3⟩ := I.prunedIn_n h
  rw [e]
  simp only [optC]
  rw [cond_true, e1]
  simp only
  rw [nat_eq0]
  congr 1
  rw [Bool.eq_iff_iff, beq_iff_eq, forestB_iff]
  exact forest_left h r2 r1 r3
end Go.Proofs.Ytdmpbfbhgokphaa
/- The laws of chapter 2: WatchOk, LeastWatchOk, FewestWatch, WatchOf. Conditions: those of each theorem. -/
namespace Go.Proofs.Ytdmpbfbhgokphaa
open D Go.RowKit
set_option linter.unusedVariables false
set_option linter.unusedSimpArgs false


theorem and_not_zero {p s : Nat} (hp : p < 64) (hs : s < 64) : (((minus p s : Nat) : Int) == 0) = true ↔ ∀ j, p.testBit j = true → s.testBit j = true := by
  rw [show (((minus p s : Nat) : Int) == 0) = (minus p s == 0) from nat_beq _ 0, beq_iff_eq]
  constructor
  · intro he j hj
    have : (minus p s).testBit j = false := by rw [he, Nat.zero_testBit]
    rw [minus_testBit _ _ (by omega) (by omega), hj] at this
    simpa using this
  · intro ha
    apply Nat.eq_of_testBit_eq
    intro j
    rw [Nat.zero_testBit, minus_testBit _ _ (by omega) (by omega)]
    cases hb : p.testBit j with
    | false => rfl
    | true => rw [ha j hb]; rfl
theorem lone_zero {net : List Int} : ((lone net : Nat) : Int) = 0 ↔ ∀ k, k < net.length → nb net k ≠ 0 := by
  constructor
  · intro he k hk hz
    have h0 : lone net = 0 := by omega
    have := (lone_testBit net k).2 ⟨hk, hz⟩
    rw [h0, Nat.zero_testBit] at this; cases this
  · intro ha
    have : lone net = 0 := Nat.eq_of_testBit_eq fun j => by
      rw [Nat.zero_testBit]
      cases hb : (lone net).testBit j with
      | false => rfl
      | true =>
        obtain ⟨a, b⟩ := (lone_testBit net j).1 hb
        exact absurd b (ha j a)
    rw [this]; rfl
/-- The greatest of all. -/
theorem maxFold {n : Nat} {f : Nat → Nat} (k : Nat) (hk : k < n) : f k ≤ fold n (fun t k => if f k > t then f k else t) 0 := by
  induction n with
  | zero => omega
  | succ n ih =>
    rw [fold_succ]
    by_cases hkn : k = n
    · subst hkn; split <;> omega
    · have := ih (by omega)
      split <;> omega
theorem few_size {net : List Int} (h : Ok net) : ∃ s, s < 2 ^ net.length ∧ W net s = true ∧ size s = fewest net := (fewest_few h).ex
end Go.Proofs.Ytdmpbfbhgokphaa
/- The program's functions of chapter 4 over nets, and of chapter 5, in natural numbers. Conditions: those of each theorem. -/
namespace Go.Proofs.Ytdmpbfbhgokphaa
open D Go.RowKit
set_option linter.unusedVariables false
set_option linter.unusedSimpArgs false


/-- One of two numbers, by a test and then a call. -/
def sel {α : Type} (a : Bool) (o : Option Bool) (x y : Int) (k : Int → Option α) : Option α := bif a then optC o (fun c => bif c then k x else k y) none else k y
theorem sel_is {α : Type} (a p : Bool) (x y : Int) (k : Int → Option α) : sel a (some p) x y k = k (bif a && p then x else y) := by cases a <;> cases p <;> rfl
theorem sel_min (p : Nat → Bool) (t s : Nat) : (bif decide (((size s : Nat) : Int) < (t : Int)) && p s then ((size s : Nat) : Int) else (t : Int)) = ((minStepN p t s : Nat) : Int) := by
  unfold minStepN
  by_cases h : size s < t
  · rw [decide_eq_true (by omega), Bool.true_and]
    cases p s with
    | true => rw [if_pos rfl, if_pos h]; rfl
    | false => rw [if_neg (by simp)]; rfl
  · rw [decide_eq_false (by omega), Bool.false_and]
    cases p s with
    | true => rw [if_pos rfl, if_neg h]; rfl
    | false => rw [if_neg (by simp)]; rfl
theorem sel_max (p : Nat → Bool) (t s : Nat) : (bif decide (((size s : Nat) : Int) > (t : Int)) && p s then ((size s : Nat) : Int) else (t : Int)) = ((maxStepN p t s : Nat) : Int) := by
  unfold maxStepN
  by_cases h : size s > t
  · rw [decide_eq_true (by omega), Bool.true_and]
    cases p s with
    | true => rw [if_pos rfl, if_pos h]; rfl
    | false => rw [if_neg (by simp)]; rfl
  · rw [decide_eq_false (by omega), Bool.false_and]
    cases p s with
    | true => rw [if_pos rfl, if_neg h]; rfl
    | false => rw [if_neg (by simp)]; rfl
def ch6 (net : List Int) (q : Nat × Nat × Nat × Nat × Nat × Nat) (s : Nat) : Nat × Nat × Nat × Nat × Nat × Nat :=
  (minStepN (fullN net) q.1 s, minStepN (W net) q.2.1 s, minStepN (fullA net) q.2.2.1 s, maxStepN (apart net) q.2.2.2.1 s, maxStepN (least net) q.2.2.2.2.1 s, maxStepN (needs net) q.2.2.2.2.2 s)
theorem fold_ch6 (net : List Int) (n a b c d e f : Nat) : fold n (ch6 net) (a, b, c, d, e, f) = (fold n (minStepN (fullN net)) a, fold n (minStepN (W net)) b, fold n (minStepN (fullA net)) c, fold n (maxStepN (apart net)) d, fold n (maxStepN (least net)) e, fold n (maxStepN (needs net)) f) := by
  induction n with
  | zero => rfl
  | succ n ih => simp only [fold_succ, ih]; rfl
end Go.Proofs.Ytdmpbfbhgokphaa
/- Laws of chapter 5, and of chapter 4 over a net. Conditions: those of each theorem. -/
namespace Go.Proofs.Ytdmpbfbhgokphaa
open D Go.RowKit
set_option linter.unusedVariables false
set_option linter.unusedSimpArgs false


theorem mins {net : List Int} (h : Ok net) : MinOf net (fullN net) (minSize net (fullN net)) ∧ MinOf net (W net) (fewest net) ∧ MinOf net (fullA net) (minSize net (fullA net)) ∧ MaxOf net (apart net) (maxSize net (apart net)) ∧ MaxOf net (least net) (maxSize net (least net)) ∧ MaxOf net (needs net) (maxSize net (needs net)) :=
  ⟨minSize_is h (ex_fullN h), few_min.1 (fewest_few h), minSize_is h (ex_fullA h), maxSize_is (ex_apart net), maxSize_is (ex_least h), maxSize_is (ex_needs h)⟩
theorem maxSize_le {net : List Int} (h : Ok net) {p : Nat → Bool} {m : Nat} (hm : MaxOf net p m) : m ≤ net.length := by
  obtain ⟨s, a, _, c⟩ := hm.ex
  have := size_le_len h a; omega
theorem minSize_le {net : List Int} (h : Ok net) {p : Nat → Bool} {m : Nat} (hm : MinOf net p m) : m ≤ net.length := by
  obtain ⟨s, a, _, c⟩ := hm.ex
  have := size_le_len h a; omega
theorem minFold2 {n c : Nat} {f : Nat → Nat} : (∀ k, k < n → fold n (fun t k => if f k < t then f k else t) c ≤ f k) ∧ fold n (fun t k => if f k < t then f k else t) c ≤ c := by
  induction n with
  | zero => exact ⟨fun k hk => by omega, Nat.le_refl _⟩
  | succ n ih =>
    rw [fold_succ]
    obtain ⟨a, b⟩ := ih
    refine ⟨fun k hk => ?_, by split <;> omega⟩
    by_cases hkn : k = n
    · rw [hkn]; split <;> omega
    · have := a k (by omega)
      split <;> omega
/-- The net in which all are neighbours. -/
def whole (n : Nat) : List Int := fold n (fun l k => l ++ [((2 ^ n - 1 - 2 ^ k : Nat) : Int)]) []
theorem I.NetOk_whole {n : Nat} (h1 : 1 ≤ n) (h6 : n ≤ 6) : I.NetOk_t (whole n) = some true := by
  rw [I.NetOk_is]
  have hn : n = 1 ∨ n = 2 ∨ n = 3 ∨ n = 4 ∨ n = 5 ∨ n = 6 := by omega
  rcases hn with rfl | rfl | rfl | rfl | rfl | rfl <;> decide +kernel
theorem even_whole {n : Nat} (h1 : 1 ≤ n) (h6 : n ≤ 6) : (fewest (whole n) == maxSize (whole n) (least (whole n))) = true := by
  have hn : n = 1 ∨ n = 2 ∨ n = 3 ∨ n = 4 ∨ n = 5 ∨ n = 6 := by omega
  rcases hn with rfl | rfl | rfl | rfl | rfl | rfl <;> decide +kernel
theorem even_none {n : Nat} (h1 : 1 ≤ n) (h6 : n ≤ 6) : (fewest (List.replicate n 0) == maxSize (List.replicate n 0) (least (List.replicate n 0))) = true := by
  have hn : n = 1 ∨ n = 2 ∨ n = 3 ∨ n = 4 ∨ n = 5 ∨ n = 6 := by omega
  rcases hn with rfl | rfl | rfl | rfl | rfl | rfl <;> decide +kernel
theorem I.NetOk_none {n : Nat} (h1 : 1 ≤ n) (h6 : n ≤ 6) : I.NetOk_t (List.replicate n 0) = some true := by
  rw [I.NetOk_is]
  have hn : n = 1 ∨ n = 2 ∨ n = 3 ∨ n = 4 ∨ n = 5 ∨ n = 6 := by omega
  rcases hn with rfl | rfl | rfl | rfl | rfl | rfl <;> decide +kernel
theorem ok_of {net : List Int} (e : I.NetOk_t net = some true) : Ok net := by
  rcases NetOk_cases net with ⟨h, _⟩ | ⟨_, e1, _⟩
  · exact h
  · rw [e] at e1; cases e1
end Go.Proofs.Ytdmpbfbhgokphaa
/- Laws of chapter 3, and of chapter 4 over sets. Conditions: those of each theorem. -/
namespace Go.Proofs.Ytdmpbfbhgokphaa
open D Go.RowKit
set_option linter.unusedVariables false
set_option linter.unusedSimpArgs false


theorem set_lt {net : List Int} {s : Nat} (h : decide (0 ≤ (s : Int) ∧ (s : Int) < 2 ^ net.length) = true) : s < 2 ^ net.length := by
  have := dec_true h
  rw [two_pow_cast] at this; omega
theorem minus_key : ∀ a, a < 64 → ∀ b, b < 64 → (minus b a = 0) → minus a b = a - b ∧ b ≤ a := by decide +kernel
/-- Without the guard the set sees just less by its private places. -/
theorem seen_less {net : List Int} (h : Ok net) {s g : Nat} (hs : s < 2 ^ net.length) (hg : s.testBit g = true) : seen net (s - 2 ^ g) = seen net s - priv net s g ∧ priv net s g ≤ seen net s := by
  have h6 := h.hi
  have hgl := in_lt hs hg
  have h64 := h.pow
  have hp := priv_lt h hs hgl
  have hsl := h.seen_lt hs
  have hsl2 := h.seen_lt (sub_lt (k := g) hs)
  have hsub : ∀ j, (priv net s g).testBit j = true → (seen net s).testBit j = true := fun j hj => (seen_balls h hs).2 ⟨g, hgl, hg, ((priv_testBit h hs hg j).1 hj).1⟩
  obtain ⟨k1, k2⟩ := minus_key (seen net s) (by omega) (priv net s g) (by omega) (by
    refine zero_iff.2 fun j => ?_
    rw [minus_testBit _ _ (by omega) (by omega)]
    cases hb : (priv net s g).testBit j with
    | false => rfl
    | true => rw [hsub j hb]; rfl)
  refine ⟨?_, k2⟩
  rw [← k1]
  apply Nat.eq_of_testBit_eq
  intro j
  rw [minus_testBit _ _ (by omega) (by omega), Bool.eq_iff_iff, Bool.and_eq_true, Bool.not_eq_true', seen_balls h (sub_lt hs), seen_balls h hs]
  constructor
  · rintro ⟨k, hk, a, b⟩
    rw [sub_testBit (by omega) (by omega) hg, Bool.and_eq_true] at a
    refine ⟨⟨k, hk, a.1, b⟩, not_true fun hc => ?_⟩
    have := ((priv_testBit h hs hg j).1 hc).2 k a.1 b
    rw [this] at a; simp at a
  · rintro ⟨⟨k, hk, a, b⟩, c⟩
    by_cases hkg : k = g
    · -- another guard sees it, too
      refine Classical.byContradiction fun hno => ?_
      rw [(priv_testBit h hs hg j).2 ⟨by rw [← hkg]; exact b, fun i hi hb => Classical.byContradiction fun hne => hno ⟨i, in_lt hs hi, by rw [sub_testBit (by omega) (by omega) hg, hi]; simp [hne], hb⟩⟩] at c
      cases c
    · exact ⟨k, hk, by rw [sub_testBit (by omega) (by omega) hg, a]; simp [hkg], b⟩
theorem privs_twice {net : List Int} (h : Ok net) {s : Nat} (hs : s < 2 ^ net.length) {p : Nat} (hp : ∀ j, p.testBit j = true ↔ ∃ g, g < net.length ∧ s.testBit g = true ∧ (priv net s g).testBit j = true) : p &&& twice net s = 0 ∧ p ||| twice net s = seen net s := by
  have hT := twice_is h hs
  have key : ∀ j, p.testBit j = true → ∀ a, s.testBit a = true → ∀ b, s.testBit b = true → (ball net a).testBit j = true → (ball net b).testBit j = true → a = b := fun j hj a ha b hb h1 h2 => by
    obtain ⟨g, _, hg, hgp⟩ := (hp j).1 hj
    have hx := ((priv_testBit h hs hg j).1 hgp).2
    rw [hx a ha h1, hx b hb h2]
  constructor
  · refine and_zero.2 fun j hj => not_true fun hc => ?_
    obtain ⟨a, b, ha, hb, hne, h1, h2⟩ := (hT.bit j).1 hj
    exact hne (key j hc a ha b hb h1 h2)
  · apply Nat.eq_of_testBit_eq
    intro j
    rw [Nat.testBit_or, Bool.eq_iff_iff, Bool.or_eq_true, hp, hT.bit, seen_balls h hs]
    constructor
    · rintro (⟨g, hgl, hg, hx⟩ | ⟨a, b, ha, hb, _, h1, _⟩)
      · exact ⟨g, hgl, hg, ((priv_testBit h hs hg j).1 hx).1⟩
      · exact ⟨a, in_lt hs ha, ha, h1⟩
    · rintro ⟨k, hk, hks, hkb⟩
      by_cases hx : ∃ b, s.testBit b = true ∧ b ≠ k ∧ (ball net b).testBit j = true
      · obtain ⟨b, hb, hne, hbb⟩ := hx
        exact .inr ⟨k, b, hks, hb, Ne.symm hne, hkb, hbb⟩
      · exact .inl ⟨k, hk, hks, (priv_testBit h hs hks j).2 ⟨hkb, fun i hi hib => Classical.byContradiction fun hne => hx ⟨i, hi, hne, hib⟩⟩⟩
end Go.Proofs.Ytdmpbfbhgokphaa
/- Laws of chapter 11. Conditions: those of each theorem. -/
namespace Go.Proofs.Ytdmpbfbhgokphaa
open D Go.RowKit
set_option linter.unusedVariables false
set_option linter.unusedSimpArgs false


theorem ex_packed (net : List Int) : ∃ s, s < 2 ^ net.length ∧ packed net s = true := ⟨0, Nat.two_pow_pos _, packed_zero net⟩
theorem L.FnPackedOk_is {code : List Int} (hm : code.length ≤ maxLen) (hw : ∀ n ∈ code, (Lit.int .u8 n).wf = true) : L.FnPackedOk_t code = some true := by
  unfold L.FnPackedOk_t L.FnPackedOk_tree
  by_cases hc : (code.length : Int) > 1048576
  · rw [cnd_t (by simpa using hc)]
  rw [cnd_f (by simpa using hc)]
  obtain ⟨s, net, e1, h1, h2⟩ := S.DrawPackedOk_is (Bytes.wf hw)
  rw [e1]
  simp only [optC]
  rcases NetOk_cases net with ⟨h, g1, g2⟩ | ⟨_, g1, g2⟩
  · have h6 := h.hi
    have h64 := h.pow
    have hb : ∀ t : Nat, t < 2 ^ net.length → I.PackedOk_t net (t : Int) = some (packed net t) := fun t ht => by rw [I.PackedOk_n h g1, set_in ht, Int.toNat_natCast]; rfl
    rw [I.PackedOk_n h g1, S.PackedOk_n h g2, I.SeenTwice_n h g1]
    simp only
    rw [cnd_f (by simp)]
    by_cases hin : (0 ≤ (s : Int) ∧ (s : Int) < 2 ^ net.length)
    · have hs : s < 2 ^ net.length := by have := hin.2; rw [two_pow_cast] at this; omega
      have e2 : twiceI net (s : Int) = ((twice net s : Nat) : Int) := by unfold twiceI; rw [if_pos hin, Int.toNat_natCast]
      have e3 : (packed net s == (twice net s == 0)) = true := by
        rw [beq_iff_eq, Bool.eq_iff_iff, beq_iff_eq, packed_two h hs]; exact packed_twice h hs
      rw [e2, nat_eq0, Int.toNat_natCast, decide_eq_true hin, Bool.true_and, e3, cnd_f (by rfl)]
      cases hp : packed net s with
      | false => rw [cnd_t (by rfl), L.alive_is]
      | true =>
        obtain ⟨n1, n2⟩ := packed_needs h hs hp
        rw [cnd_f (by rfl)]
        have loop := (run_for (run := L.FnPackedOk_run12 (s : Int)) (len := net.length) (fun k (_ : Unit) => ((k : Int), net)) (fun t k => ()) (fun t => Sum.inr net) (fun k t => True) (by omega) (fun n k t hk ht => ?_) (fun n t ht => ?_) (t0 := ()) trivial).1
        · rw [show L.FnPackedOk_run12 (s : Int) FUEL (0, net) = _ from loop]
          simp only [sumC]
          rw [I.ApartOk_n h g1, I.NeedsAllOk_n h g1, set_in hs, Int.toNat_natCast, (apart_iff hs).2 n1, (needs_iff h hs).2 n2]
          rfl
        · simp only [L.FnPackedOk_run12, L.FnPackedOk_step12]
          have hpw : 2 ^ k < 2 ^ 6 := Nat.pow_lt_pow_right (by omega) (by omega)
          rw [cnd_t (by rw [decide_eq_true_eq]; omega), cnd_f (by simp), one_shl (by omega), i64_andNot_nat _ _ (by omega) (by omega), hb _ (minus_lt hs), packed_mono h hs (fun j hj => by rw [minus_testBit _ _ (by omega) (by omega), Bool.and_eq_true] at hj; exact hj.1) hp, add1_nat (by omega)]
          exact ⟨rfl, trivial⟩
        · simp only [L.FnPackedOk_run12, L.FnPackedOk_step12]
          rw [cnd_f (by rw [decide_eq_false_iff_not]; omega)]
    · have e2 : twiceI net (s : Int) = -1 := by unfold twiceI; rw [if_neg hin]
      rw [e2, decide_eq_false hin, Bool.false_and, cnd_f (by decide), cnd_t (by decide), L.alive_is]
  · rw [I.PackedOk_x g1, S.PackedOk_x g2, I.SeenTwice_x g1]
    simp only
    rw [cnd_f (by decide), cnd_f (by decide), cnd_t (by decide), L.alive_is]
theorem L.FnMostPacked_is {code : List Int} (hm : code.length ≤ maxLen) (hw : ∀ n ∈ code, (Lit.int .u8 n).wf = true) : L.FnMostPacked_t code = some true := by
  unfold L.FnMostPacked_t L.FnMostPacked_tree
  by_cases hc : (code.length : Int) > 1048576
  · rw [cnd_t (by simpa using hc)]
  rw [cnd_f (by simpa using hc)]
  obtain ⟨net, e1, h1⟩ := S.DrawMostPacked_is (Bytes.wf hw)
  rw [e1]
  simp only [optC]
  rcases NetOk_cases net with ⟨h, g1, g2⟩ | ⟨_, g1, g2⟩
  · have h6 := h.hi
    have h64 := h.pow
    have hmx := maxSize_is (ex_packed net)
    have hmw := few_min.1 (fewest_few h)
    obtain ⟨c1, c2⟩ := most_packed h hmx hmw
    rw [I.MostPacked_y h g1, S.MostPacked_y h g2]
    simp only
    rw [cnd_f (by simp), cnd_f (by rw [decide_eq_false_iff_not]; omega), I.FewestWatch_y h g1]
    simp only
    rw [cnd_t (by rw [decide_eq_true_eq]; omega), I.PartMany_n h g1]
    simp only
    rw [cnd_t (by rw [decide_eq_true_eq]; omega), I.ForestOk_y h g1]
    simp only
    cases hf : forestB net with
    | false => rfl
    | true => rw [cnd_f (by rfl), forest_packed h (forestB_iff.1 hf) hmx hmw]; simp
  · rw [I.MostPacked_x g1, S.MostPacked_x g2, g1]
    simp only
    rw [cnd_f (by decide), cnd_t (by decide), cnd_t (by decide), cnd_t (by decide), L.alive_is]
theorem L.FnEfficientOk_is {code : List Int} (hm : code.length ≤ maxLen) (hw : ∀ n ∈ code, (Lit.int .u8 n).wf = true) : L.FnEfficientOk_t code = some true := by
  unfold L.FnEfficientOk_t L.FnEfficientOk_tree
  by_cases hc : (code.length : Int) > 1048576
  · rw [cnd_t (by simpa using hc)]
  rw [cnd_f (by simpa using hc)]
  obtain ⟨s, net, e1, h1, h2⟩ := S.DrawEfficientOk_is (Bytes.wf hw)
  rw [e1]
  simp only [optC]
  rcases NetOk_cases net with ⟨h, g1, g2⟩ | ⟨_, g1, g2⟩
  · have h6 := h.hi
    have h64 := h.pow
    rw [I.EfficientOk_n h g1, S.EfficientOk_n h g2, I.PackedOk_n h g1, I.WatchOk_n h g1, I.FewestWatch_y h g1, L.alive_is]
    simp only
    rw [cnd_f (by simp)]
    cases hd : decide (0 ≤ (s : Int) ∧ (s : Int) < 2 ^ net.length) with
    | false => rfl
    | true =>
      have hs := set_lt hd
      rw [Int.toNat_natCast, Bool.true_and, Bool.true_and, Bool.true_and]
      cases he : efficientB net s with
      | false =>
        have he2 := he
        unfold efficientB at he2
        cases hp : packed net s with
        | false => rfl
        | true =>
          rw [hp, Bool.true_and] at he2
          rw [he2]; rfl
      | true =>
        obtain ⟨c1, c2⟩ := efficient_is h hs he (maxSize_is (ex_packed net)) (few_min.1 (fewest_few h))
        unfold efficientB at he
        rw [Bool.and_eq_true] at he
        rw [he.1, he.2, cond_true, cnd_t (by rfl), cnd_f (by rfl), L.sizeOf_n (by omega), c1]
        simp only
        rw [cnd_t (by simp)]
  · rw [I.EfficientOk_x g1, S.EfficientOk_x g2, I.PackedOk_x g1, L.alive_is]
    rfl
theorem find_first {ρ : Type} {n : Nat} {f : Nat → Option ρ} {r : ρ} (h : find n f = some r) : ∃ k, k < n ∧ f k = some r ∧ ∀ j, j < k → f j = none := by
  induction n with
  | zero => rw [find_zero] at h; cases h
  | succ n ih =>
    rw [find_succ] at h
    cases hq : find n f with
    | some q =>
      rw [hq] at h
      obtain ⟨k, a, b, c⟩ := ih (hq.trans h)
      exact ⟨k, by omega, b, c⟩
    | none =>
      rw [hq] at h
      exact ⟨n, by omega, h, find_none.1 hq⟩
theorem wires_le {net : List Int} (h : Ok net) : wires net + parts net ≤ 100 := by
  have h6 := h.hi
  have h1 : ends net ≤ net.length * 6 := by
    unfold ends
    rw [← sumN_const]
    exact sumN_le fun k hk => size_le _
  have h2 : parts net ≤ net.length := by rw [parts_cnt]; exact cnt_le _ _
  unfold wires
  have h3 : net.length * 6 ≤ 6 * 6 := Nat.mul_le_mul_right 6 h6
  omega
theorem efficientI_cases (net : List Int) : (efficientI net = -1) ∨ ∃ s : Nat, efficientI net = (s : Int) ∧ s < 2 ^ net.length ∧ efficientB net s = true ∧ ∀ k, k < s → efficientB net k = false := by
  unfold efficientI
  cases hf : find (2 ^ net.length) (fun s => if efficientB net s = true then some (s : Int) else none) with
  | none => exact .inl rfl
  | some r =>
    obtain ⟨s, hs, he, hno⟩ := find_first hf
    by_cases hc : efficientB net s = true
    · rw [if_pos hc] at he
      injection he with he
      refine .inr ⟨s, he.symm, hs, hc, fun k hk => not_true fun hx => ?_⟩
      have := hno k hk
      rw [if_pos hx] at this; cases this
    · rw [if_neg hc] at he; cases he
theorem L.FnEfficientOf_is {code : List Int} (hm : code.length ≤ maxLen) (hw : ∀ n ∈ code, (Lit.int .u8 n).wf = true) : L.FnEfficientOf_t code = some true := by
  unfold L.FnEfficientOf_t L.FnEfficientOf_tree
  by_cases hc : (code.length : Int) > 1048576
  · rw [cnd_t (by simpa using hc)]
  rw [cnd_f (by simpa using hc)]
  obtain ⟨net, e1, h1⟩ := S.DrawEfficientOf_is (Bytes.wf hw)
  rw [e1]
  simp only [optC]
  rcases NetOk_cases net with ⟨h, g1, g2⟩ | ⟨_, g1, g2⟩
  · have h6 := h.hi
    have h64 := h.pow
    rw [I.EfficientOf_y h g1, S.EfficientOf_y h g2]
    simp only
    rw [cnd_f (by simp)]
    rcases efficientI_cases net with e | ⟨s, e, hs, he, hno⟩
    · rw [e, cnd_t (by decide), cnd_t (by decide), L.alive_is]
    · have hb : ∀ t : Nat, t < 2 ^ net.length → I.EfficientOk_t net (t : Int) = some (efficientB net t) := fun t ht => by rw [I.EfficientOk_n h g1, set_in ht, Int.toNat_natCast]; rfl
      obtain ⟨c1, c2⟩ := efficient_is h hs he (maxSize_is (ex_packed net)) (few_min.1 (fewest_few h))
      rw [e, cnd_f (by rw [decide_eq_false_iff_not]; omega)]
      have loop := (run_for (run := L.FnEfficientOf_run10 (s : Int)) (len := s) (fun k (_ : Unit) => ((k : Int), net)) (fun t k => ()) (fun t => Sum.inr net) (fun k t => True) (by omega) (fun n k t hk ht => ?_) (fun n t ht => ?_) (t0 := ()) trivial).1
      · rw [show L.FnEfficientOf_run10 (s : Int) FUEL (0, net) = _ from loop]
        simp only [sumC]
        rw [hb s hs, he, I.MostPacked_y h g1, I.FewestWatch_y h g1, c2]
        simp
      · simp only [L.FnEfficientOf_run10, L.FnEfficientOf_step10]
        rw [cnd_t (by rw [decide_eq_true_eq]; omega), hb k (by omega), hno k hk, add1_nat (by omega)]
        exact ⟨rfl, trivial⟩
      · simp only [L.FnEfficientOf_run10, L.FnEfficientOf_step10]
        rw [cnd_f (by rw [decide_eq_false_iff_not]; omega)]
  · rw [I.EfficientOf_x g1, S.EfficientOf_x g2]
    simp only
    rw [cnd_f (by decide), cnd_t (by decide), cnd_t (by decide), L.alive_is]
theorem L.FnGrownPacked_is {code : List Int} (hm : code.length ≤ maxLen) (hw : ∀ n ∈ code, (Lit.int .u8 n).wf = true) : L.FnGrownPacked_t code = some true := by
  unfold L.FnGrownPacked_t L.FnGrownPacked_tree
  by_cases hc : (code.length : Int) > 1048576
  · rw [cnd_t (by simpa using hc)]
  rw [cnd_f (by simpa using hc)]
  obtain ⟨s, net, e1, h1, h2⟩ := S.DrawGrownPacked_is (Bytes.wf hw)
  rw [e1]
  simp only [optC]
  rcases NetOk_cases net with ⟨h, g1, g2⟩ | ⟨_, g1, g2⟩
  · have h6 := h.hi
    have h64 := h.pow
    have hb : ∀ t : Nat, t < 2 ^ net.length → I.PackedOk_t net (t : Int) = some (packed net t) := fun t ht => by rw [I.PackedOk_n h g1, set_in ht, Int.toNat_natCast]; rfl
    rw [I.GrownPacked_n h g1, S.GrownPacked_n h g2]
    simp only
    rw [cnd_f (by simp)]
    by_cases hA : (0 ≤ (s : Int) ∧ (s : Int) < 2 ^ net.length) ∧ packed net (s : Int).toNat = true
    · have hs : s < 2 ^ net.length := by have := hA.1.2; rw [two_pow_cast] at this; omega
      obtain ⟨a, b, c, d⟩ := grownP_is h hs hA.2
      have e2 : grownPI net (s : Int) = ((grownP net s : Nat) : Int) := by unfold grownPI; rw [if_pos hA, Int.toNat_natCast]
      rw [e2, cnd_f (by rw [decide_eq_false_iff_not]; omega)]
      have hb' := hb _ a
      generalize grownP net s = g at a b c d hb' ⊢
      have loop := (run_for (run := L.FnGrownPacked_run10 (s : Int) (g : Int)) (len := net.length) (fun k (_ : Unit) => ((k : Int), net)) (fun t k => ()) (fun t => Sum.inr net) (fun k t => True) (by omega) (fun n k t hk ht => ?_) (fun n t ht => ?_) (t0 := ()) trivial).1
      · rw [show L.FnGrownPacked_run10 (s : Int) (g : Int) FUEL (0, net) = _ from loop]
        simp only [sumC]
        rw [hb', b]
        simp only [cond_true]
        rw [i64_andNot_nat _ _ (by omega) (by omega), (and_not_zero (by omega) (by omega)).2 c]
      · simp only [L.FnGrownPacked_run10, L.FnGrownPacked_step10]
        have hpw : 2 ^ k < 2 ^ net.length := Nat.pow_lt_pow_right (by omega) hk
        rw [cnd_t (by rw [decide_eq_true_eq]; omega), cnd_f (by simp), bit_shr _ _ (by omega), bool_eq0, add1_nat (by omega)]
        cases hbit : g.testBit k with
        | true => exact ⟨rfl, trivial⟩
        | false =>
          rw [Bool.not_false, cond_true, cnd_f (by simp), one_shl (by omega), i64_or_nat _ _ (by omega) (by omega), hb _ (Nat.or_lt_two_pow a hpw), d k hk hbit]
          exact ⟨rfl, trivial⟩
      · simp only [L.FnGrownPacked_run10, L.FnGrownPacked_step10]
        rw [cnd_f (by rw [decide_eq_false_iff_not]; omega)]
    · have e2 : grownPI net (s : Int) = -1 := by unfold grownPI; rw [if_neg hA]
      have e3 : (decide (0 ≤ (s : Int) ∧ (s : Int) < 2 ^ net.length) && packed net (s : Int).toNat) = false := not_true fun hh => hA (by rw [Bool.and_eq_true] at hh; exact ⟨dec_true hh.1, hh.2⟩)
      rw [e2, cnd_t (by decide), cnd_t (by decide), I.PackedOk_n h g1, e3]
      simp only
      rw [cnd_t (by rfl), L.alive_is]
  · rw [I.GrownPacked_x g1, S.GrownPacked_x g2, I.PackedOk_x g1]
    simp only
    rw [cnd_f (by decide), cnd_t (by decide), cnd_t (by decide), cnd_t (by decide), L.alive_is]
theorem L.FnForestOk_is {code : List Int} (hm : code.length ≤ maxLen) (hw : ∀ n ∈ code, (Lit.int .u8 n).wf = true) : L.FnForestOk_t code = some true := by
  unfold L.FnForestOk_t L.FnForestOk_tree
  by_cases hc : (code.length : Int) > 1048576
  · rw [cnd_t (by simpa using hc)]
  rw [cnd_f (by simpa using hc)]
  obtain ⟨net, e1, h1⟩ := S.DrawForestOk_is (Bytes.wf hw)
  rw [e1]
  simp only [optC]
  rcases NetOk_cases net with ⟨h, g1, g2⟩ | ⟨_, g1, g2⟩
  · have h6 := h.hi
    have h64 := h.pow
    have hge := wires_parts h
    have hwl := wires_le h
    rw [I.ForestOk_y h g1, S.ForestOk_y h g2, g1, I.WiresOf_n h g1, I.PartMany_n h g1, L.alive_is]
    simp only
    rw [cnd_f (by simp), cnd_f (by rfl), add_nat (by omega), nat_beq, forestB_wires h, cnd_t (by simp)]
  · rw [I.ForestOk_x g1, S.ForestOk_x g2, g1, L.alive_is]
    rfl
end Go.Proofs.Ytdmpbfbhgokphaa
/- Exact laws of chapter 11. Conditions: those of each theorem. -/
namespace Go.Proofs.Ytdmpbfbhgokphaa
open D Go.RowKit
set_option linter.unusedVariables false
set_option linter.unusedSimpArgs false


theorem PackedOk_same {a0 : List Int} {a1 : Int} : ∃ v, S.PackedOk_t a0 a1 = some v ∧ I.PackedOk_t a0 a1 = some v := by
  rcases NetOk_cases a0 with ⟨h, e1, e2⟩ | ⟨_, e1, e2⟩
  · exact ⟨_, S.PackedOk_n h e2 a1, I.PackedOk_n h e1 a1⟩
  · exact ⟨_, S.PackedOk_x e2 a1, I.PackedOk_x e1 a1⟩
theorem L.FnExactPackedOk_is {a0 : List Int} {a1 : Int} : L.FnExactPackedOk_t a0 a1 = some true := by
  unfold L.FnExactPackedOk_t L.FnExactPackedOk_tree
  by_cases ha0 : (a0.length : Int) > 1048576
  · rw [cnd_t (by simpa using ha0)]
  rw [cnd_f (by simpa using ha0)]
  have ta0 := L.toIntS_is (a := a0) (by omega)
  have ea0 := L.eqIntS_is (a := a0) (b := a0) (by omega)
  obtain ⟨b, h1, h2⟩ := PackedOk_same (a0 := a0) (a1 := a1)
  simp only [optC, ta0, ea0, h1, h2]
  simp
theorem EfficientOk_same {a0 : List Int} {a1 : Int} : ∃ v, S.EfficientOk_t a0 a1 = some v ∧ I.EfficientOk_t a0 a1 = some v := by
  rcases NetOk_cases a0 with ⟨h, e1, e2⟩ | ⟨_, e1, e2⟩
  · exact ⟨_, S.EfficientOk_n h e2 a1, I.EfficientOk_n h e1 a1⟩
  · exact ⟨_, S.EfficientOk_x e2 a1, I.EfficientOk_x e1 a1⟩
theorem L.FnExactEfficientOk_is {a0 : List Int} {a1 : Int} : L.FnExactEfficientOk_t a0 a1 = some true := by
  unfold L.FnExactEfficientOk_t L.FnExactEfficientOk_tree
  by_cases ha0 : (a0.length : Int) > 1048576
  · rw [cnd_t (by simpa using ha0)]
  rw [cnd_f (by simpa using ha0)]
  have ta0 := L.toIntS_is (a := a0) (by omega)
  have ea0 := L.eqIntS_is (a := a0) (b := a0) (by omega)
  obtain ⟨b, h1, h2⟩ := EfficientOk_same (a0 := a0) (a1 := a1)
  simp only [optC, ta0, ea0, h1, h2]
  simp
theorem GrownPacked_same {a0 : List Int} {a1 : Int} : ∃ v, S.GrownPacked_t a0 a1 = some v ∧ I.GrownPacked_t a0 a1 = some v := by
  rcases NetOk_cases a0 with ⟨h, e1, e2⟩ | ⟨_, e1, e2⟩
  · exact ⟨_, S.GrownPacked_n h e2 a1, I.GrownPacked_n h e1 a1⟩
  · exact ⟨_, S.GrownPacked_x e2 a1, I.GrownPacked_x e1 a1⟩
theorem L.FnExactGrownPacked_is {a0 : List Int} {a1 : Int} : L.FnExactGrownPacked_t a0 a1 = some true := by
  unfold L.FnExactGrownPacked_t L.FnExactGrownPacked_tree
  by_cases ha0 : (a0.length : Int) > 1048576
  · rw [cnd_t (by simpa using ha0)]
  rw [cnd_f (by simpa using ha0)]
  have ta0 := L.toIntS_is (a := a0) (by omega)
  have ea0 := L.eqIntS_is (a := a0) (b := a0) (by omega)
  obtain ⟨b, h1, h2⟩ := GrownPacked_same (a0 := a0) (a1 := a1)
  simp only [optC, ta0, ea0, h1, h2]
  simp
theorem MostPacked_same {a0 : List Int} : ∃ v, S.MostPacked_t a0 = some v ∧ I.MostPacked_t a0 = some v := by
  rcases NetOk_cases a0 with ⟨h, e1, e2⟩ | ⟨_, e1, e2⟩
  · exact ⟨_, S.MostPacked_y h e2, I.MostPacked_y h e1⟩
  · exact ⟨_, S.MostPacked_x e2, I.MostPacked_x e1⟩
theorem L.FnExactMostPacked_is {a0 : List Int} : L.FnExactMostPacked_t a0 = some true := by
  unfold L.FnExactMostPacked_t L.FnExactMostPacked_tree
  by_cases ha0 : (a0.length : Int) > 1048576
  · rw [cnd_t (by simpa using ha0)]
  rw [cnd_f (by simpa using ha0)]
  have ta0 := L.toIntS_is (a := a0) (by omega)
  have ea0 := L.eqIntS_is (a := a0) (b := a0) (by omega)
  obtain ⟨b, h1, h2⟩ := MostPacked_same (a0 := a0)
  simp only [optC, ta0, ea0, h1, h2]
  simp
theorem EfficientOf_same {a0 : List Int} : ∃ v, S.EfficientOf_t a0 = some v ∧ I.EfficientOf_t a0 = some v := by
  rcases NetOk_cases a0 with ⟨h, e1, e2⟩ | ⟨_, e1, e2⟩
  · exact ⟨_, S.EfficientOf_y h e2, I.EfficientOf_y h e1⟩
  · exact ⟨_, S.EfficientOf_x e2, I.EfficientOf_x e1⟩
theorem L.FnExactEfficientOf_is {a0 : List Int} : L.FnExactEfficientOf_t a0 = some true := by
  unfold L.FnExactEfficientOf_t L.FnExactEfficientOf_tree
  by_cases ha0 : (a0.length : Int) > 1048576
  · rw [cnd_t (by simpa using ha0)]
  rw [cnd_f (by simpa using ha0)]
  have ta0 := L.toIntS_is (a := a0) (by omega)
  have ea0 := L.eqIntS_is (a := a0) (b := a0) (by omega)
  obtain ⟨b, h1, h2⟩ := EfficientOf_same (a0 := a0)
  simp only [optC, ta0, ea0, h1, h2]
  simp
theorem ForestOk_same {a0 : List Int} : ∃ v, S.ForestOk_t a0 = some v ∧ I.ForestOk_t a0 = some v := by
  rcases NetOk_cases a0 with ⟨h, e1, e2⟩ | ⟨_, e1, e2⟩
  · exact ⟨_, S.ForestOk_y h e2, I.ForestOk_y h e1⟩
  · exact ⟨_, S.ForestOk_x e2, I.ForestOk_x e1⟩
theorem L.FnExactForestOk_is {a0 : List Int} : L.FnExactForestOk_t a0 = some true := by
  unfold L.FnExactForestOk_t L.FnExactForestOk_tree
  by_cases ha0 : (a0.length : Int) > 1048576
  · rw [cnd_t (by simpa using ha0)]
  rw [cnd_f (by simpa using ha0)]
  have ta0 := L.toIntS_is (a := a0) (by omega)
  have ea0 := L.eqIntS_is (a := a0) (b := a0) (by omega)
  obtain ⟨b, h1, h2⟩ := ForestOk_same (a0 := a0)
  simp only [optC, ta0, ea0, h1, h2]
  simp
end Go.Proofs.Ytdmpbfbhgokphaa
