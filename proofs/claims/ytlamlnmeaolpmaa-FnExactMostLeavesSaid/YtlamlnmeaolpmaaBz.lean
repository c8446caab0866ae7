/- Several texts in one: J6b, L2, L3, I6b, I5, L5, L6b, Ex6b. Conditions: those of each theorem. -/
import Derived.Test.YtlamlnmeaolpmaaBzb0
/- MostLeaves of the program (at ae9a42a). Conditions: those of each theorem. -/
namespace Go.Proofs.Ytlamlnmeaolpmaa
open D Go.RowKit
set_option linter.unusedVariables false
set_option linter.unusedSimpArgs false


theorem addWire_ok {T : List Int} (h : Ok T) {a b : Nat} (ha : a < T.length) (hb : b < T.length) (hab : a ≠ b) : Ok (addWire T a b) := by
  have hl := addWire_len T a b
  have hbit : ∀ i j, (nb (addWire T a b) i).testBit j = ((nb T i).testBit j || (decide (i = a ∧ j = b) || decide (i = b ∧ j = a))) := fun i j => by
    rw [addWire_nb ha hb hab]
    by_cases h1 : i = b
    · subst h1
      rw [if_pos rfl, Nat.testBit_or, testBit_pow]
      have e1 : decide (i = a ∧ j = i) = false := decide_eq_false fun hh => hab hh.1.symm
      rw [e1, Bool.false_or]
      congr 1
      rw [Bool.eq_iff_iff, decide_eq_true_eq]
      simp
      omega
    · rw [if_neg h1]
      by_cases h2 : i = a
      · subst h2
        rw [if_pos rfl, Nat.testBit_or, testBit_pow]
        have e1 : decide (i = b ∧ j = i) = false := decide_eq_false fun hh => h1 hh.1
        rw [e1, Bool.or_false]
        congr 1
        rw [Bool.eq_iff_iff, decide_eq_true_eq]
        simp
        omega
      · rw [if_neg h2, decide_eq_false (fun hh => h2 hh.1), decide_eq_false (fun hh => h1 hh.1)]; simp
  refine ⟨by rw [hl]; exact h.lo, by rw [hl]; exact h.hi, fun k hk => ?_, fun k hk => ?_, fun j k hj hk => ?_, fun k hk => ?_⟩
  · rw [hl] at hk; exact addWire_el ha hb hab h.el k hk
  · rw [hl] at hk ⊢
    rw [addWire_nb ha hb hab]
    split
    · exact Nat.or_lt_two_pow (h.lt b hb) (Nat.pow_lt_pow_right (by omega) ha)
    · split
      · exact Nat.or_lt_two_pow (h.lt a ha) (Nat.pow_lt_pow_right (by omega) hb)
      · exact h.lt k hk
  · rw [hl] at hj hk
    rw [hbit, hbit, h.sym j k hj hk]
    congr 1
    rw [Bool.eq_iff_iff]
    simp only [Bool.or_eq_true, decide_eq_true_eq]
    constructor
    · rintro (⟨x, y⟩ | ⟨x, y⟩)
      · exact .inr ⟨y, x⟩
      · exact .inl ⟨y, x⟩
    · rintro (⟨x, y⟩ | ⟨x, y⟩)
      · exact .inr ⟨y, x⟩
      · exact .inl ⟨y, x⟩
  · rw [hl] at hk
    rw [hbit, h.irr k hk, decide_eq_false (by omega), decide_eq_false (by omega)]; rfl
/-- The leaves of a net of one part; -1 of another. -/
def lfOf (T : List Int) : Int := if parts T = 1 then ((leafs T : Nat) : Int) else -1
theorem one_comp {T : List Int} (h : Ok T) : comp T 0 = allOf T ↔ parts T = 1 := by
  have h1 := h.lo
  rw [one_part h]
  constructor
  · intro e j k hj hk
    have h0 : ∀ i, i < T.length → (comp T 0).testBit i = true := fun i hi => by
      rw [e]; unfold allOf; rw [Nat.testBit_two_pow_sub_one]; simpa using hi
    rw [← h.comp_same (by omega) hj (h0 j hj)]; exact h0 k hk
  · intro ha
    refine Nat.eq_of_testBit_eq fun i => ?_
    unfold allOf
    rw [Nat.testBit_two_pow_sub_one]
    rcases Nat.lt_or_ge i T.length with hi | hi
    · rw [ha 0 i (by omega) hi]; simpa using hi
    · rw [Nat.testBit_lt_two_pow (Nat.lt_of_lt_of_le (h.comp_lt (by omega)) (Nat.pow_le_pow_right (by omega) hi))]
      simp; omega
theorem I.leavesIn_n {T : List Int} (h : Ok T) : I.leavesIn_t T = some (lfOf T) := by
  unfold I.leavesIn_t I.leavesIn_tree lfOf
  have h1 := h.lo
  have h6 := h.hi
  rw [show I.partIn_t T 0 = some ((comp T 0 : Nat) : Int) from I.partIn_n h (p := 0) (by omega)]
  simp only [optC]
  rw [I.allOf_n h]
  simp only
  by_cases hp : parts T = 1
  · have e := (one_comp h).2 hp
    rw [e, if_pos hp]
    have := (run_for (run := I.leavesIn_run5 T) (len := T.length) (fun k (t : Nat) => ((t : Int), (k : Int))) (fun t k => t + (size (nb T k) == 1).toNat) (fun t => (t : Int)) (fun k t => t ≤ k) (by omega) (fun n k t hk ht => ?_) (fun n t ht => ?_) (t0 := 0) (Nat.le_refl _)).1
    · have e2 : ∀ n, fold n (fun t k => t + (size (nb T k) == 1).toNat) 0 = cnt n (fun k => size (nb T k) == 1) := by
        intro n
        induction n with
        | zero => rfl
        | succ n ih => rw [fold_succ, ih]; rfl
      rw [e2] at this
      rw [cnd_f (by simp), show I.leavesIn_run5 T FUEL (0, 0) = _ from this]; rfl
    · simp only [I.leavesIn_run5, I.leavesIn_step5]
      rw [cnd_t (by simp; omega), cnd_t (by simp; omega), Int.toNat_natCast, h.eli hk, I.sizeOf_n]
      simp only [optC]
      rw [show (((size (nb T k) : Nat) : Int) == 1) = (size (nb T k) == 1) from nat_beq _ 1, add1_nat (a := k) (by omega), add1_nat (by omega)]
      cases hb : size (nb T k) == 1 with
      | true => exact ⟨rfl, by simp [Bool.toNat]; omega⟩
      | false => exact ⟨rfl, by simp [Bool.toNat]; omega⟩
    · simp only [I.leavesIn_run5, I.leavesIn_step5]
      rw [cnd_f (by simp)]
  · have e : comp T 0 ≠ allOf T := fun hc => hp ((one_comp h).1 hc)
    rw [if_neg hp, cnd_t (by simp; omega)]
/-! Some wires of a row joined, one after the other. -/
def selA (T : List Int) (P : List (Nat × Nat)) (x : Nat) : List Int := fold P.length (treeStep P x) T
theorem selA_cons (p : Nat × Nat) (r : List (Nat × Nat)) (T : List Int) (x : Nat) : selA T (p :: r) x = selA (if x.testBit 0 = true then addWire T p.1 p.2 else T) r (x / 2) := by
  unfold selA
  rw [show (p :: r).length = r.length + 1 from rfl, fold_first]
  have e0 : treeStep (p :: r) x T 0 = if x.testBit 0 = true then addWire T p.1 p.2 else T := rfl
  rw [e0]
  congr 1
  funext t k
  unfold treeStep
  rw [Nat.testBit_succ]
  rfl
theorem selA_zero (T : List Int) : ∀ P : List (Nat × Nat), selA T P 0 = T := by
  intro P
  induction P with
  | nil => rfl
  | cons p r ih => rw [selA_cons]; simpa using ih
def lwN : List (Nat × Nat) → List Int → Nat → Int
  | _, T, 0 => lfOf T
  | [], _, _ + 1 => -1
  | p :: P, T, m + 1 => if P.length + 1 < m + 1 then -1 else if lwN P (addWire T p.1 p.2) m > lwN P T (m + 1) then lwN P (addWire T p.1 p.2) m else lwN P T (m + 1)
theorem lfOf_ge (T : List Int) : -1 ≤ lfOf T := by unfold lfOf; split <;> omega
theorem lwN_is : ∀ (P : List (Nat × Nat)) (T : List Int) (m : Nat), (∀ x, x < 2 ^ P.length → cnt P.length (fun k => x.testBit k) = m → lfOf (selA T P x) ≤ lwN P T m) ∧
    (lwN P T m = -1 ∨ ∃ x, x < 2 ^ P.length ∧ cnt P.length (fun k => x.testBit k) = m ∧ lfOf (selA T P x) = lwN P T m) ∧ -1 ≤ lwN P T m := by
  intro P
  induction P with
  | nil =>
    intro T m
    cases m with
    | zero => exact ⟨fun x _ _ => Int.le_refl _, .inr ⟨0, by decide, rfl, rfl⟩, lfOf_ge T⟩
    | succ m => exact ⟨(fun x _ h => absurd (show (0 : Nat) = m + 1 from h) (by omega)), .inl rfl, Int.le_refl _⟩
  | cons p r ih =>
    intro T m
    have hpow : 2 ^ (p :: r).length = 2 * 2 ^ r.length := by rw [List.length_cons, Nat.pow_succ, Nat.mul_comm]
    cases m with
    | zero =>
      refine ⟨fun x h1 h2 => ?_, .inr ⟨0, Nat.two_pow_pos _, cnt_of_zero _, by rw [selA_zero]; rfl⟩, lfOf_ge T⟩
      have := cnt_zero_of h1 h2
      subst this
      rw [selA_zero]; exact Int.le_refl _
    | succ m =>
      obtain ⟨a1, a2, a3⟩ := ih (addWire T p.1 p.2) m
      obtain ⟨b1, b2, b3⟩ := ih T (m + 1)
      unfold lwN
      by_cases hc : r.length + 1 < m + 1
      · rw [if_pos hc]
        refine ⟨fun x _ h2 => ?_, .inl rfl, Int.le_refl _⟩
        have := cnt_le (p :: r).length (fun k => x.testBit k)
        rw [List.length_cons] at this h2
        omega
      · rw [if_neg hc]
        have up : ∀ x, x < 2 ^ (p :: r).length → cnt (p :: r).length (fun k => x.testBit k) = m + 1 → lfOf (selA T (p :: r) x) ≤ lwN r (addWire T p.1 p.2) m ∨ lfOf (selA T (p :: r) x) ≤ lwN r T (m + 1) := fun x h1 h2 => by
          rw [List.length_cons, cnt_cons] at h2
          rw [selA_cons]
          rw [hpow] at h1
          cases hb : x.testBit 0 with
          | true =>
            rw [if_pos rfl]
            rw [hb] at h2
            exact .inl (a1 (x / 2) (by omega) (by simp at h2; omega))
          | false =>
            rw [if_neg (by simp)]
            rw [hb] at h2
            exact .inr (b1 (x / 2) (by omega) (by simp at h2; omega))
        have fa : lwN r (addWire T p.1 p.2) m = -1 ∨ ∃ x, x < 2 ^ (p :: r).length ∧ cnt (p :: r).length (fun k => x.testBit k) = m + 1 ∧ lfOf (selA T (p :: r) x) = lwN r (addWire T p.1 p.2) m := by
          rcases a2 with a2 | ⟨x, h1, h2, h3⟩
          · exact .inl a2
          · have hb : (2 * x + 1).testBit 0 = true := by simp
            have hd : (2 * x + 1) / 2 = x := by omega
            refine .inr ⟨2 * x + 1, by rw [hpow]; omega, ?_, ?_⟩
            · rw [List.length_cons, cnt_cons, hb, hd, h2]; simp; omega
            · rw [selA_cons, hb, hd, if_pos rfl]; exact h3
        have fb : lwN r T (m + 1) = -1 ∨ ∃ x, x < 2 ^ (p :: r).length ∧ cnt (p :: r).length (fun k => x.testBit k) = m + 1 ∧ lfOf (selA T (p :: r) x) = lwN r T (m + 1) := by
          rcases b2 with b2 | ⟨x, h1, h2, h3⟩
          · exact .inl b2
          · have hb : (2 * x).testBit 0 = false := by simp
            have hd : (2 * x) / 2 = x := by omega
            refine .inr ⟨2 * x, by rw [hpow]; omega, ?_, ?_⟩
            · rw [List.length_cons, cnt_cons, hb, hd, h2]; simp
            · rw [selA_cons, hb, hd, if_neg (by simp)]; exact h3
        by_cases hgt : lwN r (addWire T p.1 p.2) m > lwN r T (m + 1)
        · rw [if_pos hgt]
          exact ⟨fun x h1 h2 => by rcases up x h1 h2 with h | h <;> omega, fa, a3⟩
        · rw [if_neg hgt]
          exact ⟨fun x h1 h2 => by rcases up x h1 h2 with h | h <;> omega, fb, b3⟩
theorem I.joinedBy_n {net : List Int} (h : Ok net) {a b : Nat} (ha : a < net.length) (hb : b < net.length) (hab : a ≠ b) : I.joinedBy_t net (a : Int) (b : Int) = some (addWire net a b) := by
  unfold I.joinedBy_t I.joinedBy_tree
  have h6 := h.hi
  have hna := h.lt64 ha
  have hnb := h.lt64 hb
  have e2 : ∀ v : Int, D.eli (net.set a v) b = (nb net b : Int) := fun v => by
    have : el (net.set a v) b = el net b := by rw [el_set ha, if_neg (Ne.symm hab)]
    exact this.trans (h.el b hb)
  simp only [List.nil_append, List.length_set]
  rw [cnd_t (small_of (by omega)), cnd_t (by simp only [Bool.and_eq_true, decide_eq_true_eq]; omega), cnd_t (by rw [decide_eq_true_eq]; omega), Int.toNat_natCast, h.eli ha, I.with_n hna (by omega)]
  simp only [optC]
  rw [cnd_t (by simp only [Bool.and_eq_true, decide_eq_true_eq]; omega), cnd_t (by rw [decide_eq_true_eq]; omega), cnd_t (by simp only [Bool.and_eq_true, decide_eq_true_eq]; omega), cnd_t (by rw [decide_eq_true_eq]; omega), Int.toNat_natCast, e2, I.with_n hnb (by omega)]
  simp only
  rw [cnd_t (by simp only [Bool.and_eq_true, decide_eq_true_eq]; omega), cnd_t (by rw [decide_eq_true_eq]; omega)]
  unfold addWire
  rw [nb_set ha, if_neg (Ne.symm hab)]
theorem lw_step [c : I.leavesWith_r_R] {T : List Int} (h : Ok T) {P : List (Nat × Nat)} (hP : PairsIn T.length P) (hl : P.length ≤ 15) (m : Nat) (hm : m ≤ 100)
    (hrec : ∀ p r, P = p :: r → ∀ T2, Ok T2 → T2.length = T.length → ∀ k : Nat, k ≤ 100 → I.leavesWith_r0_t T2 (fl r) (k : Int) = some (lwN r T2 k)) :
    I.leavesWith_r_t T (fl P) (m : Int) = some (lwN P T m) := by
  unfold I.leavesWith_r_t I.leavesWith_r_tree
  rw [fl_div]
  cases m with
  | zero =>
    rw [cnd_t (by rfl), I.leavesIn_n h]
    cases P <;> rfl
  | succ m =>
    rw [cnd_f (by rw [beq_eq_false_iff_ne]; omega)]
    cases P with
    | nil => rw [cnd_t (by rw [decide_eq_true_eq]; simp)]; rfl
    | cons p r =>
      have hp := hP p (by simp)
      have hl2 : (p :: r).length = r.length + 1 := rfl
      unfold lwN
      by_cases hc : r.length + 1 < m + 1
      · rw [cnd_t (by rw [decide_eq_true_eq]; omega), if_pos hc]
      · rw [cnd_f (by rw [decide_eq_false_iff_not]; omega), if_neg hc]
        have e1 : D.eli (fl (p :: r)) (Int.toNat 0 * 2 + 0) = (p.1 : Int) := rfl
        have e2 : D.eli (fl (p :: r)) (Int.toNat 0 * 2 + 1) = (p.2 : Int) := rfl
        have e3 : List.take (((p :: r).length - Int.toNat 1) * 2) (List.drop (Int.toNat 1 * 2) (fl (p :: r))) = fl r := by
          show List.take ((r.length + 1 - 1) * 2) (fl r) = fl r
          exact List.take_of_length_le (by rw [fl_len]; omega)
        have hadd := addWire_ok h (a := p.1) (b := p.2) (by omega) hp.2 (by omega)
        rw [cnd_t (by simp only [Bool.and_eq_true, decide_eq_true_eq]; omega), e3, hrec p r rfl T h rfl (m + 1) (by omega)]
        simp only [optC]
        rw [cnd_t (by rw [decide_eq_true_eq]; omega), e1, e2, I.joinedBy_n h (by omega) hp.2 (by omega)]
        simp only
        rw [cnd_t (by simp only [Bool.and_eq_true, decide_eq_true_eq]; omega), show IntKind.i64.wrap (((m + 1 : Nat) : Int) - 1) = ((m : Nat) : Int) from sub1_nat (a := m + 1) (by omega) (by omega), hrec p r rfl _ hadd (addWire_len T p.1 p.2) m (by omega)]
        simp only
        by_cases hgt : lwN r (addWire T p.1 p.2) m > lwN r T (m + 1)
        · rw [cnd_t (by rw [decide_eq_true_eq]; exact hgt), if_pos hgt]
        · rw [cnd_f (by rw [decide_eq_false_iff_not]; exact hgt), if_neg hgt]
theorem I.leavesWith_d : ∀ (P : List (Nat × Nat)) (d : Nat) (T : List Int), Ok T → PairsIn T.length P → P.length ≤ 15 → P.length < d → ∀ m : Nat, m ≤ 100 → I.leavesWith_td d T (fl P) (m : Int) = some (lwN P T m) := by
  intro P
  induction P with
  | nil =>
    intro d T h hP hl hd m hm
    obtain ⟨d, rfl⟩ : ∃ q, d = q + 1 := ⟨d - 1, by omega⟩
    exact @lw_step ⟨I.leavesWith_td d⟩ T h [] hP hl m hm (fun p r e => by cases e)
  | cons p r ih =>
    intro d T h hP hl hd m hm
    simp only [List.length_cons] at hd hl
    obtain ⟨d, rfl⟩ : ∃ q, d = q + 1 := ⟨d - 1, by omega⟩
    refine @lw_step ⟨I.leavesWith_td d⟩ T h (p :: r) hP (by simpa using hl) m hm (fun p2 r2 e T2 h2 hT2 k hk => ?_)
    cases e
    exact ih d T2 h2 (fun q hq => by rw [hT2]; exact hP q (by simp [hq])) (by omega) (by omega) k hk
theorem I.leavesWith_n {T : List Int} (h : Ok T) {P : List (Nat × Nat)} (hP : PairsIn T.length P) (hl : P.length ≤ 15) {m : Nat} (hm : m ≤ 100) : I.leavesWith_t T (fl P) (m : Int) = some (lwN P T m) :=
  I.leavesWith_d P FUEL T h hP hl (by have := FUEL_le; omega) m hm
theorem lw_max {net : List Int} (h : Ok net) : LfMax net (lwN (pairs net) (List.replicate net.length 0) (net.length - 1)) := by
  have h1 := h.lo
  obtain ⟨a1, a2, a3⟩ := lwN_is (pairs net) (List.replicate net.length 0) (net.length - 1)
  have hsel : ∀ x, selA (List.replicate net.length 0) (pairs net) x = treeN net.length (pairs net) x := fun x => rfl
  have tree : ∀ t, Tree net t → ((leafs t : Nat) : Int) ≤ lwN (pairs net) (List.replicate net.length 0) (net.length - 1) := fun t ht => by
    have e := treeN_sel h ht.sub
    obtain ⟨_, s2⟩ := treeN_sub h (selW (pairs net) t)
    rw [e] at s2
    have hw := ht.wires_
    have := a1 (selW (pairs net) t) (selW_lt _ _) (by omega)
    rw [hsel, e] at this
    unfold lfOf at this
    rw [if_pos ht.one] at this
    exact this
  rcases a2 with a2 | ⟨x, x1, x2, x3⟩
  · refine .inl ⟨a2, fun t ht => ?_⟩
    have := tree t ht
    omega
  · rw [hsel] at x3
    obtain ⟨s1, s2⟩ := treeN_sub h x
    unfold lfOf at x3
    by_cases hp : parts (treeN net.length (pairs net) x) = 1
    · rw [if_pos hp] at x3
      exact .inr ⟨leafs (treeN net.length (pairs net) x), x3.symm, ⟨_, ⟨s1, hp, by omega⟩, rfl⟩, fun t ht => by have := tree t ht; omega⟩
    · rw [if_neg hp] at x3
      refine .inl ⟨x3.symm, fun t ht => ?_⟩
      have := tree t ht
      omega
theorem I.MostLeaves_x {net : List Int} (e : I.NetOk_t net = some false) : I.MostLeaves_t net = some (-1) := by
  unfold I.MostLeaves_t I.MostLeaves_tree; rw [I.PartMany_x e]; rfl
theorem I.MostLeaves_y {net : List Int} (h : Ok net) (e : I.NetOk_t net = some true) : I.MostLeaves_t net = some (mostLeaves net) := by
  unfold I.MostLeaves_t I.MostLeaves_tree mostLeaves
  have h1 := h.lo
  have h6 := h.hi
  obtain ⟨f1, f2⟩ := lf_law h (lf_max h)
  obtain ⟨hP, hl⟩ := pairs_in h
  have hz : Ok (List.replicate net.length 0) := by
    have := (treeN_sub h 0).1.ok
    have e0 : treeN net.length (pairs net) 0 = List.replicate net.length 0 := selA_zero (List.replicate net.length 0) (pairs net)
    rw [e0] at this; exact this
  rw [I.PartMany_n h e]
  simp only [optC]
  have hw := (lf_max h).uniq (lw_max h)
  by_cases hp : parts net = 1
  · rw [cnd_f (by rw [hp]; rfl)]
    by_cases hn : net.length = 1
    · rw [cnd_t (by rw [hn]; rfl), if_pos (by omega)]
    · rw [cnd_f (by simp; omega), if_neg (by omega), cnd_t (by simp only [Bool.and_true]; exact small_of (by omega)), I.wiresIn_n h]
      simp only
      rw [sub1_nat (by omega) (by omega), Int.toNat_natCast, I.leavesWith_n hz (by simpa using hP) hl (by omega), ← hw]
  · rw [cnd_t (by simp; omega), f1 hp]
    split <;> rfl
end Go.Proofs.Ytlamlnmeaolpmaa
/- The laws of chapter 2: WatchOk, LeastWatchOk, FewestWatch, WatchOf. Conditions: those of each theorem. -/
namespace Go.Proofs.Ytlamlnmeaolpmaa
open D Go.RowKit
set_option linter.unusedVariables false
set_option linter.unusedSimpArgs false


end Go.Proofs.Ytlamlnmeaolpmaa
/- The laws of chapter 2: ThinnedWatch, WatchCounts, LeastWatches. Conditions: those of each theorem. -/
namespace Go.Proofs.Ytlamlnmeaolpmaa
open D Go.RowKit
set_option linter.unusedVariables false
set_option linter.unusedSimpArgs false


/-! ### Counts -/
def cw (net : List Int) (j : Nat) : Nat := cnt (2 ^ net.length) (fun s => W net s && (size s == j))
/-! ### Least watches -/
end Go.Proofs.Ytlamlnmeaolpmaa
/- The program's functions that the law of MostLeaves calls. Conditions: none. -/
namespace Go.Proofs.Ytlamlnmeaolpmaa
end Go.Proofs.Ytlamlnmeaolpmaa
/- The program's functions of chapter 4 over nets, and of chapter 5, in natural numbers. Conditions: those of each theorem. -/
namespace Go.Proofs.Ytlamlnmeaolpmaa
open D Go.RowKit
set_option linter.unusedVariables false
set_option linter.unusedSimpArgs false


/-- One of two numbers, by a test and then a call. -/
def sel {α : Type} (a : Bool) (o : Option Bool) (x y : Int) (k : Int → Option α) : Option α := bif a then optC o (fun c => bif c then k x else k y) none else k y
def ch6 (net : List Int) (q : Nat × Nat × Nat × Nat × Nat × Nat) (s : Nat) : Nat × Nat × Nat × Nat × Nat × Nat :=
  (minStepN (fullN net) q.1 s, minStepN (W net) q.2.1 s, minStepN (fullA net) q.2.2.1 s, maxStepN (apart net) q.2.2.2.1 s, maxStepN (least net) q.2.2.2.2.1 s, maxStepN (needs net) q.2.2.2.2.2 s)
end Go.Proofs.Ytlamlnmeaolpmaa
/- Laws of chapter 5, and of chapter 4 over a net. Conditions: those of each theorem. -/
namespace Go.Proofs.Ytlamlnmeaolpmaa
open D Go.RowKit
set_option linter.unusedVariables false
set_option linter.unusedSimpArgs false


/-- The net in which all are neighbours. -/
def whole (n : Nat) : List Int := fold n (fun l k => l ++ [((2 ^ n - 1 - 2 ^ k : Nat) : Int)]) []
end Go.Proofs.Ytlamlnmeaolpmaa
/- Law of MostLeaves. Conditions: those of each theorem. -/
namespace Go.Proofs.Ytlamlnmeaolpmaa
open D Go.RowKit
set_option linter.unusedVariables false
set_option linter.unusedSimpArgs false


theorem L.FnMostLeaves_is {code : List Int} (hm : code.length ≤ maxLen) (hw : ∀ n ∈ code, (Lit.int .u8 n).wf = true) : L.FnMostLeaves_t code = some true := by
  unfold L.FnMostLeaves_t L.FnMostLeaves_tree
  by_cases hc : (code.length : Int) > 1048576
  · rw [cnd_t (by simpa using hc)]
  rw [cnd_f (by simpa using hc)]
  obtain ⟨net, e1, h1⟩ := S.DrawMostLeaves_is (Bytes.wf hw)
  rw [e1]
  simp only [optC]
  rcases NetOk_cases net with ⟨h, g1, g2⟩ | ⟨_, g1, g2⟩
  · have h6 := h.hi
    have h64 := h.pow
    have hlo := h.lo
    have hpm : parts net ≤ net.length := by rw [parts_cnt]; exact cnt_le _ _
    obtain ⟨f1, f2⟩ := lf_law h (lf_max h)
    rw [I.MostLeaves_y h g1, S.MostLeaves_y h g2, g1, I.PartMany_n h g1]
    simp only
    rw [cnd_f (by simp), cnd_f (by rfl)]
    unfold mostLeaves
    generalize fold (2 ^ (pairs net).length) (lfStep net) (-1) = m at f1 f2 ⊢
    by_cases hp : parts net = 1
    · rw [cnd_f (by rw [hp]; rfl)]
      by_cases hn : net.length = 1
      · rw [cnd_t (by rw [hn]; rfl), if_pos (by omega)]; rfl
      · obtain ⟨m1, m2⟩ := f2 hp (by omega)
        rw [cnd_f (by simp; omega), if_neg (by omega), cnd_t (by rw [decide_eq_true_eq]; omega)]
        by_cases hn2 : net.length = 2
        · rw [cnd_t (by rw [hn2]; rfl)]
        · rw [cnd_f (by simp; omega), I.FewestJoined_y h g1]
          simp only
          have hj : ∀ s, joined net s = true ↔ Together net s ∧ W net s = true := fun s => by
            unfold joined; rw [Bool.and_eq_true, together_iff]
          rcases minI_is net (joined net) with ⟨_, hno⟩ | ⟨w, hw1, hw2⟩
          · obtain ⟨s, s1, s2, s3, _⟩ := joined_three h hp (allOf_lt net) (W_all h)
            have := hno s s1
            rw [(hj s).2 ⟨s2, s3⟩] at this; cases this
          · obtain ⟨s, s1, s2, s3⟩ := hw2.ex
            have hz := size_le s
            have := m2 (by omega) w ⟨s, s1, ((hj s).1 s2).1, ((hj s).1 s2).2, s3⟩ (fun t t1 t2 t3 => hw2.le t t1 ((hj t).2 ⟨t2, t3⟩))
            rw [hw1, i64_wrap (by omega) (by omega)]
            congr 1
            rw [beq_iff_eq]; omega
    · rw [cnd_t (by simp; omega), f1 hp]
      split <;> rfl
  · rw [I.MostLeaves_x g1, S.MostLeaves_x g2, g1]
    simp only
    rw [cnd_f (by decide), cnd_t (by decide), cnd_t (by decide), L.alive_is]
end Go.Proofs.Ytlamlnmeaolpmaa
/- Exact law of MostLeaves. Conditions: those of each theorem. -/
namespace Go.Proofs.Ytlamlnmeaolpmaa
open D Go.RowKit
set_option linter.unusedVariables false
set_option linter.unusedSimpArgs false


theorem MostLeaves_same {a0 : List Int} : ∃ v, S.MostLeaves_t a0 = some v ∧ I.MostLeaves_t a0 = some v := by
  rcases NetOk_cases a0 with ⟨h, e1, e2⟩ | ⟨_, e1, e2⟩
  · exact ⟨_, S.MostLeaves_y h e2, I.MostLeaves_y h e1⟩
  · exact ⟨_, S.MostLeaves_x e2, I.MostLeaves_x e1⟩
theorem L.FnExactMostLeaves_is {a0 : List Int} : L.FnExactMostLeaves_t a0 = some true := by
  unfold L.FnExactMostLeaves_t L.FnExactMostLeaves_tree
  by_cases ha0 : (a0.length : Int) > 1048576
  · rw [cnd_t (by simpa using ha0)]
  rw [cnd_f (by simpa using ha0)]
  have ta0 := L.toIntS_is (a := a0) (by omega)
  have ea0 := L.eqIntS_is (a := a0) (b := a0) (by omega)
  obtain ⟨b, h1, h2⟩ := MostLeaves_same (a0 := a0)
  simp only [optC, ta0, ea0, h1, h2]
  simp
end Go.Proofs.Ytlamlnmeaolpmaa
