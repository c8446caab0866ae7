/- Several texts in one: S9, Hall, Ch10, S10, Dr9, Dr7, S8b, Tree, Shift, Dr3, S6, Dr8, L2, Br3, I3, L4, I5, L5, Pm, I6, J7, J8, S9b, J9, Kuhn. Conditions: those of each theorem. -/
import Derived.Test.YtgocpgkhbamkcaaBzb0
import Derived.Test.YtgocpgkhbamkcaaBza2
/- The model's functions of chapter 9 in natural numbers. Conditions: those of each theorem. -/
namespace Go.Proofs.Ytgocpgkhbamkcaa
open D Go.RowKit
set_option linter.unusedVariables false
set_option linter.unusedSimpArgs false


/-- Can this guard come, so that a set of the list is there? -/
def ansP (net : List Int) (l : List Bool) (s t f : Nat) : Bool := s.testBit f && ((nb net t).testBit f && D.elb l (moved s f t))
def ansI (net : List Int) (l : List Bool) (s t : Nat) : Int := (find net.length (fun f => if ansP net l s t f = true then some (f : Int) else none)).getD (-1)
theorem ansI_cases (net : List Int) (l : List Bool) (s t : Nat) : (ansI net l s t = -1 ∧ ∀ f, f < net.length → ansP net l s t f = false) ∨ ∃ f, f < net.length ∧ ansI net l s t = (f : Int) ∧ ansP net l s t f = true := by
  unfold ansI
  cases hf : find net.length (fun f => if ansP net l s t f = true then some (f : Int) else none) with
  | none =>
    refine .inl ⟨rfl, fun f hfl => not_true fun hc => ?_⟩
    have := find_none.1 hf f hfl
    rw [if_pos hc] at this; cases this
  | some r =>
    obtain ⟨f, hfl, he⟩ := find_some_ex hf
    right
    by_cases hc : ansP net l s t f = true
    · rw [if_pos hc] at he; injection he with he; exact ⟨f, hfl, he.symm, hc⟩
    · rw [if_neg hc] at he; cases he
def holdsB (net : List Int) (l : List Bool) (s : Nat) : Bool := ((List.range net.length).all fun k => !(!s.testBit k && decide (ansI net l s k < 0))) && D.elb l s
noncomputable def eternalB (net : List Int) (s : Nat) : Bool := @decide (Eternal net s) (Classical.propDecidable _)
theorem eternalB_iff {net : List Int} {s : Nat} : eternalB net s = true ↔ Eternal net s := by unfold eternalB; exact @decide_eq_true_iff _ (Classical.propDecidable _)
noncomputable def lasts (net : List Int) : List Bool := (List.range (2 ^ net.length)).map (eternalB net)
theorem lasts_len (net : List Int) : (lasts net).length = 2 ^ net.length := by simp [lasts]
theorem lasts_elb {net : List Int} {s : Nat} (hs : s < 2 ^ net.length) : D.elb (lasts net) s = eternalB net s := by unfold D.elb lasts; simp [List.getD, hs]
theorem holds_eternal {net : List Int} (h : Ok net) (m : List Bool) (hm : m.length = 2 ^ net.length) (hin : ∀ s, s < 2 ^ net.length → Eternal net s → D.elb m s = true) :
    ∀ s, s < 2 ^ net.length → Eternal net s → holdsB net m s = true := by
  intro s hs he
  unfold holdsB
  rw [hin s hs he, Bool.and_true, List.all_eq_true]
  intro k hk
  have hk := List.mem_range.1 hk
  cases hb : s.testBit k with
  | true => rfl
  | false =>
    obtain ⟨f, a, b, c⟩ := eternal_closed net s hs he k hk hb
    rcases ansI_cases net m s k with ⟨_, hno⟩ | ⟨g, _, hg, _⟩
    · have := hno f (in_lt hs a)
      unfold ansP at this
      rw [a, b, hin _ (moved_lt hs hk) c] at this
      cases this
    · rw [hg, decide_eq_false (by omega)]; rfl
theorem stable_eternal {net : List Int} (h : Ok net) {m : List Bool} (hm : m.length = 2 ^ net.length) (hst : ∀ s, s < 2 ^ net.length → D.elb m s = true → holdsB net m s = true) :
    ∀ s, s < 2 ^ net.length → D.elb m s = true → Eternal net s := by
  intro s hs hb
  refine ⟨fun q => q < 2 ^ net.length ∧ D.elb m q = true, fun t ht ⟨_, htm⟩ k hk hb => ?_, hs, hb⟩
  have := hst t ht htm
  unfold holdsB at this
  rw [Bool.and_eq_true, List.all_eq_true] at this
  have := this.1 k (List.mem_range.2 hk)
  rw [hb] at this
  rcases ansI_cases net m t k with ⟨hn, _⟩ | ⟨f, hf, hg, hp⟩
  · rw [hn] at this; cases this
  · unfold ansP at hp
    rw [Bool.and_eq_true, Bool.and_eq_true] at hp
    exact ⟨f, hp.1, hp.2.1, moved_lt ht hk, hp.2.2⟩
theorem eternal_some (net : List Int) : ∃ s, s < 2 ^ net.length ∧ eternalB net s = true := ⟨allOf net, allOf_lt net, eternalB_iff.2 eternal_all⟩
theorem fold_least {net : List Int} (h : Ok net) (L : List Int) (p : Nat → Bool) (hL : ∀ x, x ∈ L ↔ ∃ s : Nat, s < 2 ^ net.length ∧ p s = true ∧ x = s) (N : Nat) (hN : N ≤ L.length) :
    (fold N (fun t k => if size (D.eli L k).toNat < t then size (D.eli L k).toNat else t) net.length = net.length ∨ ∃ s, s < 2 ^ net.length ∧ p s = true ∧ size s = fold N (fun t k => if size (D.eli L k).toNat < t then size (D.eli L k).toNat else t) net.length) ∧
    ∀ k, k < N → fold N (fun t k => if size (D.eli L k).toNat < t then size (D.eli L k).toNat else t) net.length ≤ size (D.eli L k).toNat := by
  induction N with
  | zero => exact ⟨.inl rfl, fun k hk => by omega⟩
  | succ N ih =>
    obtain ⟨a, b⟩ := ih (by omega)
    rw [fold_succ]
    generalize fold N (fun t k => if size (D.eli L k).toNat < t then size (D.eli L k).toNat else t) net.length = g at a b ⊢
    obtain ⟨s, s1, s2, s3⟩ := (hL _).1 (eli_mem (l := L) (k := N) (by omega))
    by_cases hlt : size (D.eli L N).toNat < g
    · rw [if_pos hlt]
      refine ⟨.inr ⟨s, s1, s2, by rw [s3, Int.toNat_natCast]⟩, fun k hk => ?_⟩
      by_cases he : k = N
      · rw [he]; exact Nat.le_refl _
      · have := b k (by omega); omega
    · rw [if_neg hlt]
      refine ⟨a, fun k hk => ?_⟩
      by_cases he : k = N
      · rw [he]; omega
      · exact b k (by omega)
theorem fold_minOf {net : List Int} (h : Ok net) (L : List Int) (p : Nat → Bool) (hL : ∀ x, x ∈ L ↔ ∃ s : Nat, s < 2 ^ net.length ∧ p s = true ∧ x = s) (hall : p (allOf net) = true) :
    MinOf net p (fold L.length (fun t k => if size (D.eli L k).toNat < t then size (D.eli L k).toNat else t) net.length) := by
  obtain ⟨a, b⟩ := fold_least h L p hL L.length (Nat.le_refl _)
  refine ⟨?_, fun s hs hp => ?_⟩
  · rcases a with a | a
    · rw [a]; exact ⟨allOf net, allOf_lt net, hall, size_all h⟩
    · exact a
  · obtain ⟨k, hk, he⟩ := mem_eli ((hL (s : Int)).2 ⟨s, hs, hp, rfl⟩)
    have := b k hk
    rw [he, Int.toNat_natCast] at this
    exact this
noncomputable def fewestEternal (net : List Int) : Nat := minSize net (eternalB net)
theorem fewestEternal_min {net : List Int} (h : Ok net) : MinOf net (eternalB net) (fewestEternal net) := minSize_is h (eternal_some net)
/-- The answer of an eternal set. -/
noncomputable def answerI (net : List Int) (s p : Int) : Int := if (0 ≤ s ∧ s < 2 ^ net.length) ∧ (0 ≤ p ∧ p < net.length) ∧ eternalB net s.toNat = true ∧ s.toNat.testBit p.toNat = false then ansI net (lasts net) s.toNat p.toNat else -1
/-- An eternal set has an answer, and the answer is eternal. -/
theorem answerI_is {net : List Int} (h : Ok net) {s p : Nat} (hs : s < 2 ^ net.length) (hp : p < net.length) (he : Eternal net s) (hb : s.testBit p = false) :
    ∃ f, f < net.length ∧ answerI net s p = (f : Int) ∧ s.testBit f = true ∧ (nb net p).testBit f = true ∧ Eternal net (moved s f p) := by
  have e1 : answerI net s p = ansI net (lasts net) s p := by
    unfold answerI
    rw [if_pos ⟨⟨by omega, by have : (s : Int) < ((2 ^ net.length : Nat) : Int) := by omega
                              simpa using this⟩, ⟨by omega, by omega⟩, by rw [Int.toNat_natCast]; exact eternalB_iff.2 he, by simpa using hb⟩]
    simp only [Int.toNat_natCast]
  rw [e1]
  rcases ansI_cases net (lasts net) s p with ⟨_, hno⟩ | ⟨f, hf, hg, hP⟩
  · exfalso
    obtain ⟨f, a, b, c⟩ := eternal_closed net s hs he p hp hb
    have := hno f (in_lt hs a)
    unfold ansP at this
    rw [a, b, lasts_elb (moved_lt hs hp), eternalB_iff.2 c] at this
    cases this
  · unfold ansP at hP
    rw [Bool.and_eq_true, Bool.and_eq_true, lasts_elb (moved_lt hs hp), eternalB_iff] at hP
    exact ⟨f, hf, hg, hP.1, hP.2.1, hP.2.2⟩
end Go.Proofs.Ytgocpgkhbamkcaa
/- All guards move: who can go where, by Hall's condition. Conditions: those of each theorem. -/
namespace Go.Proofs.Ytgocpgkhbamkcaa
set_option linter.unusedVariables false
set_option linter.unusedSimpArgs false

theorem size_eq6 {s : Nat} (hs : s < 64) : size s = cnt 6 (fun k => s.testBit k) := by unfold size; rw [card_sum]
theorem in6 {s k : Nat} (hs : s < 64) (hk : s.testBit k = true) : k < 6 := testBit_lt (n := 6) hs hk
theorem size_mono6 {s t : Nat} (hs : s < 64) (ht : t < 64) (h : ∀ j, s.testBit j = true → t.testBit j = true) : size s ≤ size t := by
  rw [size_eq6 hs, size_eq6 ht]; exact cnt_mono fun k _ => h k
theorem size_disj {s t : Nat} (hs : s < 64) (ht : t < 64) (h : ∀ j, s.testBit j = true → t.testBit j = false) : size (s ||| t) = size s + size t := by
  have hl : s ||| t < 2 ^ 6 := Nat.or_lt_two_pow (by omega) (by omega)
  rw [size_eq6 hs, size_eq6 ht, size_eq6 (by omega)]
  unfold cnt
  rw [← sumN_add]
  refine sumN_congr fun k _ => ?_
  show ((s ||| t).testBit k).toNat = (s.testBit k).toNat + (t.testBit k).toNat
  rw [Nat.testBit_or]
  cases hb : s.testBit k with
  | false => simp
  | true => rw [h k hb]; rfl
theorem diff_testBit {s t : Nat} (hs : s < 64) (ht : t < 64) (j : Nat) : (minus s t).testBit j = true ↔ s.testBit j = true ∧ t.testBit j = false := by
  rw [minus_testBit _ _ (by omega) (by omega), Bool.and_eq_true, Bool.not_eq_true']
theorem diff_lt {s t : Nat} (hs : s < 64) : minus s t < 64 := Nat.lt_of_le_of_lt Nat.and_le_left hs
theorem size_diff {s t : Nat} (hs : s < 64) (ht : t < 64) (h : ∀ j, t.testBit j = true → s.testBit j = true) : size (minus s t) + size t = size s := by
  rw [← size_disj (diff_lt hs) ht (fun j hj => ((diff_testBit hs ht j).1 hj).2)]
  congr 1
  apply Nat.eq_of_testBit_eq
  intro j
  rw [Bool.eq_iff_iff, or2, diff_testBit hs ht]
  constructor
  · rintro (⟨a, _⟩ | a)
    · exact a
    · exact h j a
  · intro a
    cases hb : t.testBit j with
    | true => exact .inr rfl
    | false => exact .inl ⟨a, rfl⟩
theorem size_zero {s : Nat} (hs : s < 64) (h : size s = 0) : s = 0 := Classical.byContradiction fun hne => by
  obtain ⟨j, hj⟩ := pos_iff.1 hne
  have := size_pos hs (in6 hs hj) hj
  omega
/-- Those of b next to some of x. -/
def nbs (R : Nat → Nat → Bool) (x b : Nat) : Nat := orN 6 (fun j => b.testBit j && (List.range 6).any fun i => x.testBit i && R i j) (fun j => 2 ^ j)
theorem nbs_testBit {R : Nat → Nat → Bool} {x b : Nat} (hx : x < 64) (hb : b < 64) (j : Nat) : (nbs R x b).testBit j = true ↔ b.testBit j = true ∧ ∃ i, x.testBit i = true ∧ R i j = true := by
  unfold nbs
  rw [orN_testBit]
  simp only [Bool.and_eq_true, List.any_eq_true, List.mem_range]
  constructor
  · rintro ⟨k, hk, ⟨a, i, _, b1, c⟩, d⟩
    rw [testBit_pow, decide_eq_true_eq] at d
    subst d
    exact ⟨a, i, b1, c⟩
  · rintro ⟨a, i, b1, c⟩
    exact ⟨j, in6 hb a, ⟨a, i, in6 hx b1, b1, c⟩, by rw [testBit_pow]; simp⟩
theorem nbs_lt (R : Nat → Nat → Bool) (x b : Nat) : nbs R x b < 64 := orN_lt (m := 6) fun k hk _ => Nat.pow_lt_pow_right (by omega) hk
/-- Each can be given another one, if no set has too few. -/
theorem hall (R : Nat → Nat → Bool) : ∀ m a b, a < 64 → b < 64 → size a ≤ m → (∀ x, x < 64 → (∀ j, x.testBit j = true → a.testBit j = true) → size x ≤ size (nbs R x b)) →
    ∃ f : Nat → Nat, (∀ i, a.testBit i = true → b.testBit (f i) = true ∧ R i (f i) = true) ∧ ∀ i j, a.testBit i = true → a.testBit j = true → f i = f j → i = j := by
  intro m
  induction m with
  | zero =>
    intro a b ha hb hm _
    have := size_zero ha (by omega)
    subst this
    exact ⟨fun i => i, fun i hi => (by rw [Nat.zero_testBit] at hi; cases hi), fun i j hi => (by rw [Nat.zero_testBit] at hi; cases hi)⟩
  | succ m ih =>
    intro a b ha hb hm hc
    by_cases h0 : a = 0
    · subst h0
      exact ⟨fun i => i, fun i hi => (by rw [Nat.zero_testBit] at hi; cases hi), fun i j hi => (by rw [Nat.zero_testBit] at hi; cases hi)⟩
    by_cases ht : ∃ x, x < 64 ∧ (∀ j, x.testBit j = true → a.testBit j = true) ∧ x ≠ 0 ∧ x ≠ a ∧ size (nbs R x b) ≤ size x
    · -- a tight set is given its own, the others the others
      obtain ⟨x, hx, hxa, hx0, hxne, hxt⟩ := ht
      have hdz := size_diff ha hx hxa
      have hxp : 1 ≤ size x := by
        obtain ⟨j, hj⟩ := pos_iff.1 hx0
        exact size_pos hx (in6 hx hj) hj
      have hdp : 1 ≤ size (minus a x) := by
        refine Nat.one_le_iff_ne_zero.2 fun hz => hxne ?_
        have h1 := size_zero (diff_lt ha) hz
        apply Nat.eq_of_testBit_eq
        intro j
        rw [Bool.eq_iff_iff]
        refine ⟨hxa j, fun hj => Classical.byContradiction fun hno => ?_⟩
        have := (diff_testBit ha hx j).2 ⟨hj, not_true hno⟩
        rw [h1, Nat.zero_testBit] at this; cases this
      obtain ⟨f1, p1, q1⟩ := ih x b hx hb (by omega) (fun y hy hyx => hc y hy fun j hj => hxa j (hyx j hj))
      have hnl := nbs_lt R x b
      obtain ⟨f2, p2, q2⟩ := ih (minus a x) (minus b (nbs R x b)) (diff_lt ha) (diff_lt hb) (by omega) (fun z hz hza => by
        have hzx : z ||| x < 64 := by
          have : z ||| x < 2 ^ 6 := Nat.or_lt_two_pow (by omega) (by omega)
          omega
        have hdis : ∀ j, z.testBit j = true → x.testBit j = false := fun j hj => ((diff_testBit ha hx j).1 (hza j hj)).2
        have h1 := hc (z ||| x) hzx (fun j hj => by
          rcases (or2 _ _ _).1 hj with hj | hj
          · exact ((diff_testBit ha hx j).1 (hza j hj)).1
          · exact hxa j hj)
        rw [size_disj hz hx hdis] at h1
        have h2 : size (nbs R (z ||| x) b) ≤ size (nbs R z (minus b (nbs R x b))) + size (nbs R x b) := by
          rw [← size_disj (nbs_lt _ _ _) hnl (fun j hj => ((diff_testBit hb hnl j).1 ((nbs_testBit hz (diff_lt hb) j).1 hj).1).2)]
          refine size_mono6 (nbs_lt _ _ _) (by have : nbs R z (minus b (nbs R x b)) ||| nbs R x b < 2 ^ 6 := Nat.or_lt_two_pow (nbs_lt _ _ _) hnl
                                               omega) fun j hj => ?_
          obtain ⟨a1, i, a2, a3⟩ := (nbs_testBit hzx hb j).1 hj
          rw [or2]
          cases hb2 : (nbs R x b).testBit j with
          | true => exact .inr rfl
          | false =>
            left
            rcases (or2 _ _ _).1 a2 with a2 | a2
            · exact (nbs_testBit hz (diff_lt hb) j).2 ⟨(diff_testBit hb hnl j).2 ⟨a1, hb2⟩, i, a2, a3⟩
            · rw [(nbs_testBit hx hb j).2 ⟨a1, i, a2, a3⟩] at hb2; cases hb2
        omega)
      have in1 : ∀ i, x.testBit i = true → (nbs R x b).testBit (f1 i) = true := fun i hi => (nbs_testBit hx hb _).2 ⟨(p1 i hi).1, i, hi, (p1 i hi).2⟩
      have in2 : ∀ i, a.testBit i = true → x.testBit i = false → (minus a x).testBit i = true := fun i hi hn => (diff_testBit ha hx i).2 ⟨hi, hn⟩
      refine ⟨fun i => if x.testBit i = true then f1 i else f2 i, fun i hi => ?_, fun i j hi hj he => ?_⟩
      · cases hxi : x.testBit i with
        | true => simp only [hxi, if_true]; exact p1 i hxi
        | false =>
          simp only [hxi, Bool.false_eq_true, if_false]
          obtain ⟨u, v⟩ := p2 i (in2 i hi hxi)
          exact ⟨((diff_testBit hb hnl _).1 u).1, v⟩
      · cases hxi : x.testBit i with
        | true =>
          cases hxj : x.testBit j with
          | true => simp only [hxi, hxj, if_true] at he; exact q1 i j hxi hxj he
          | false =>
            simp only [hxi, hxj, if_true, Bool.false_eq_true, if_false] at he
            have h1 := in1 i hxi
            have h2 := ((diff_testBit hb hnl _).1 (p2 j (in2 j hj hxj)).1).2
            rw [← he, h1] at h2; cases h2
        | false =>
          cases hxj : x.testBit j with
          | true =>
            simp only [hxi, hxj, if_true, Bool.false_eq_true, if_false] at he
            have h1 := in1 j hxj
            have h2 := ((diff_testBit hb hnl _).1 (p2 i (in2 i hi hxi)).1).2
            rw [he, h1] at h2; cases h2
          | false =>
            simp only [hxi, hxj, Bool.false_eq_true, if_false] at he
            exact q2 i j (in2 i hi hxi) (in2 j hj hxj) he
    · -- one is given any, and the rest goes on
      obtain ⟨g, hg⟩ := pos_iff.1 h0
      have hg6 := in6 ha hg
      have hpg : 2 ^ g < 64 := by
        have : 2 ^ g < 2 ^ 6 := Nat.pow_lt_pow_right (by omega) hg6
        omega
      have hgs : ∀ j, (2 ^ g).testBit j = true → a.testBit j = true := fun j hj => by rw [testBit_pow, decide_eq_true_eq] at hj; rw [← hj]; exact hg
      have z1 : size (2 ^ g) = 1 := by
        have := size_add (s := 0) (k := g) (by omega) hg6 (Nat.zero_testBit g)
        rw [Nat.zero_or] at this
        rw [this]; decide
      have h1 := hc (2 ^ g) hpg hgs
      have hne : nbs R (2 ^ g) b ≠ 0 := fun he => by
        have : size (nbs R (2 ^ g) b) = 0 := by rw [he]; decide
        omega
      obtain ⟨t, htb⟩ := pos_iff.1 hne
      obtain ⟨hbt, i, hi, hR⟩ := (nbs_testBit hpg hb t).1 htb
      have hig : i = g := by rw [testBit_pow, decide_eq_true_eq] at hi; exact hi.symm
      subst hig
      have ht6 := in6 hb hbt
      have ba := bits_sub a ha i hg6 hg
      have bb := bits_sub b hb t ht6 hbt
      obtain ⟨f, p, q⟩ := ih (a - 2 ^ i) (b - 2 ^ t) ba.1 bb.1 (by omega) (fun x hx hxa => by
        by_cases hx0 : x = 0
        · subst hx0
          have : size 0 = 0 := by decide
          omega
        have hxa' : ∀ j, x.testBit j = true → a.testBit j = true := fun j hj => by
          have := hxa j hj
          rw [sub_testBit ha hg6 hg, Bool.and_eq_true] at this
          exact this.1
        have hxne : x ≠ a := fun he => by
          have := hxa i (by rw [he]; exact hg)
          rw [sub_testBit ha hg6 hg] at this
          simp at this
        have h2 : size x + 1 ≤ size (nbs R x b) := by
          refine Classical.byContradiction fun hlt => ht ⟨x, hx, hxa', hx0, hxne, by omega⟩
        have h3 : size (nbs R x b) ≤ size (nbs R x (b - 2 ^ t)) + 1 := by
          have hle : size (nbs R x b) ≤ size (nbs R x (b - 2 ^ t) ||| 2 ^ t) := by
            refine size_mono6 (nbs_lt _ _ _) (by
              have hp : 2 ^ t < 2 ^ 6 := Nat.pow_lt_pow_right (by omega) ht6
              have : nbs R x (b - 2 ^ t) ||| 2 ^ t < 2 ^ 6 := Nat.or_lt_two_pow (nbs_lt _ _ _) hp
              omega) fun j hj => ?_
            obtain ⟨a1, k, a2, a3⟩ := (nbs_testBit hx hb j).1 hj
            rw [or_testBit]
            by_cases hjt : j = t
            · exact .inr hjt
            · exact .inl ((nbs_testBit hx bb.1 j).2 ⟨by rw [sub_testBit hb ht6 hbt, a1]; simp [hjt], k, a2, a3⟩)
          rw [size_add (nbs_lt _ _ _) ht6 (not_true fun hcc => by
            have := ((nbs_testBit hx bb.1 t).1 hcc).1
            rw [sub_testBit hb ht6 hbt] at this; simp at this)] at hle
          exact hle
        omega)
      have ina : ∀ k, a.testBit k = true → k ≠ i → (a - 2 ^ i).testBit k = true := fun k hk hki => by rw [sub_testBit ha hg6 hg, hk]; simp [hki]
      have outb : ∀ k, a.testBit k = true → k ≠ i → f k ≠ t ∧ b.testBit (f k) = true := fun k hk hki => by
        have := (p k (ina k hk hki)).1
        rw [sub_testBit hb ht6 hbt, Bool.and_eq_true] at this
        exact ⟨by simpa using this.2, this.1⟩
      refine ⟨fun k => if k = i then t else f k, fun k hk => ?_, fun k j hk hj he => ?_⟩
      · by_cases hki : k = i
        · simp only [hki, if_true]; exact ⟨hbt, hR⟩
        · simp only [hki, if_false]; exact ⟨(outb k hk hki).2, (p k (ina k hk hki)).2⟩
      · by_cases hki : k = i
        · by_cases hji : j = i
          · rw [hki, hji]
          · simp only [hki, hji, if_true, if_false] at he
            exact absurd he.symm (outb j hj hji).1
        · by_cases hji : j = i
          · simp only [hki, hji, if_true, if_false] at he
            exact absurd he (outb k hk hki).1
          · simp only [hki, hji, if_false] at he
            exact q k j (ina k hk hki) (ina j hj hji) he
end Go.Proofs.Ytgocpgkhbamkcaa
/- All guards move, for ever: plain facts. Conditions: those of each theorem. -/
namespace Go.Proofs.Ytgocpgkhbamkcaa
set_option linter.unusedVariables false
set_option linter.unusedSimpArgs false

/-- The guards of one set can be at the places of another one, each staying or moving to a neighbour. -/
def AllMove (net : List Int) (a b : Nat) : Prop := size a = size b ∧ ∃ f : Nat → Nat, (∀ i, a.testBit i = true → b.testBit (f i) = true ∧ (ball net i).testBit (f i) = true) ∧ ∀ i j, a.testBit i = true → a.testBit j = true → f i = f j → i = j
theorem allMove_refl (net : List Int) (a : Nat) : AllMove net a a := ⟨rfl, fun i => i, fun i hi => ⟨hi, sees_self net i⟩, fun i j _ _ he => he⟩
/-- Each new place is met. -/
theorem allMove_onto {a b : Nat} (ha : a < 64) (hb : b < 64) (hz : size a = size b) {f : Nat → Nat} (hf : ∀ i, a.testBit i = true → b.testBit (f i) = true) (hi : ∀ i j, a.testBit i = true → a.testBit j = true → f i = f j → i = j) {v : Nat} (hv : b.testBit v = true) : ∃ i, a.testBit i = true ∧ f i = v := by
  refine Classical.byContradiction fun hno => ?_
  have hv6 := in6 hb hv
  have h1 := bits_sub b hb v hv6 hv
  have h2 : size a ≤ size (b - 2 ^ v) := by
    rw [size_eq6 ha, size_eq6 h1.1]
    refine cnt_inj f (fun k hk hak => ?_) (fun i j _ _ hai haj he => hi i j hai haj he)
    have hbf := hf k hak
    refine ⟨in6 hb hbf, ?_⟩
    rw [sub_testBit hb hv6 hv, hbf]
    have : f k ≠ v := fun he => hno ⟨k, hak, he⟩
    simp [this]
  omega
theorem allMove_symm {net : List Int} (h : Ok net) {a b : Nat} (ha : a < 2 ^ net.length) (hb : b < 2 ^ net.length) (hm : AllMove net a b) : AllMove net b a := by
  obtain ⟨hz, f, hf, hi⟩ := hm
  have hex : ∀ v, ∃ i, b.testBit v = true → a.testBit i = true ∧ f i = v := fun v => by
    by_cases hv : b.testBit v = true
    · obtain ⟨i, hx⟩ := allMove_onto (lt64 h ha) (lt64 h hb) hz (fun i hi => (hf i hi).1) hi hv
      exact ⟨i, fun _ => hx⟩
    · exact ⟨0, fun hh => absurd hh hv⟩
  have hg : ∃ g : Nat → Nat, ∀ v, b.testBit v = true → a.testBit (g v) = true ∧ f (g v) = v := ⟨fun v => Classical.choose (hex v), fun v => Classical.choose_spec (hex v)⟩
  obtain ⟨g, hg⟩ := hg
  refine ⟨hz.symm, g, fun v hv => ⟨(hg v hv).1, ?_⟩, fun u v hu hv he => ?_⟩
  · have h1 := (hf (g v) (hg v hv).1).2
    rw [(hg v hv).2] at h1
    rw [sees_symm h (in_lt ha (hg v hv).1) (in_lt hb hv)]
    exact h1
  · rw [← (hg u hu).2, ← (hg v hv).2, he]
/-- A guard that moves alone. -/
theorem allMove_one {net : List Int} (h : Ok net) {s f t : Nat} (hs : s < 2 ^ net.length) (ht : t < net.length) (hf : s.testBit f = true) (hn : s.testBit t = false) (hft : (nb net f).testBit t = true) : AllMove net s (moved s f t) := by
  have h6 := h.hi
  have hfl := in_lt hs hf
  have hb := moved_testBit (t := t) (lt64 h hs) (by omega) hf
  refine ⟨(moved_size (lt64 h hs) (by omega) (by omega) hf hn).symm, fun i => if i = f then t else i, fun i hi => ?_, fun i j hi hj he => ?_⟩
  · by_cases hif : i = f
    · simp only [hif, if_true]; exact ⟨(hb t).2 (.inr rfl), (ball_testBit _ _ _).2 (.inl hft)⟩
    · simp only [hif, if_false]; exact ⟨(hb i).2 (.inl ⟨hi, hif⟩), sees_self net i⟩
  · by_cases hif : i = f <;> by_cases hjf : j = f
    · rw [hif, hjf]
    · simp only [hif, hjf, if_true, if_false] at he
      rw [← he, hn] at hj; cases hj
    · simp only [hif, hjf, if_true, if_false] at he
      rw [he, hn] at hi; cases hi
    · simp only [hif, hjf, if_false] at he; exact he
/-- The new places are seen from the old ones. -/
theorem allMove_seen {net : List Int} (h : Ok net) {a b : Nat} (ha : a < 2 ^ net.length) (hb : b < 2 ^ net.length) (hm : AllMove net a b) : ∀ j, b.testBit j = true → (seen net a).testBit j = true := fun j hj => by
  obtain ⟨hz, f, hf, hi⟩ := hm
  obtain ⟨i, hia, hfi⟩ := allMove_onto (lt64 h ha) (lt64 h hb) hz (fun i hi => (hf i hi).1) hi hj
  exact (seen_balls h ha).2 ⟨i, in_lt ha hia, hia, by rw [← hfi]; exact (hf i hia).2⟩
/-- A family of sets that can answer each place by all moving. -/
def ClosedA (net : List Int) (F : Nat → Prop) : Prop := ∀ t, t < 2 ^ net.length → F t → ∀ k, k < net.length → t.testBit k = false → ∃ u, u < 2 ^ net.length ∧ u.testBit k = true ∧ AllMove net t u ∧ F u
def AllEternal (net : List Int) (s : Nat) : Prop := ∃ F, ClosedA net F ∧ F s
theorem allEternal_closed (net : List Int) : ClosedA net (AllEternal net) := fun t ht ⟨F, hF, hFt⟩ k hk hb => by
  obtain ⟨u, a, b, c, d⟩ := hF t ht hFt k hk hb
  exact ⟨u, a, b, c, F, hF, d⟩
/-- With all it is easier. -/
theorem eternal_allEternal {net : List Int} (h : Ok net) {s : Nat} (hs : s < 2 ^ net.length) (he : Eternal net s) : AllEternal net s := by
  have h6 := h.hi
  refine ⟨Eternal net, fun t ht hte k hk hb => ?_, he⟩
  obtain ⟨f, a, b, c⟩ := eternal_closed net t ht hte k hk hb
  have hfl := in_lt ht a
  exact ⟨moved t f k, moved_lt ht hk, (moved_testBit (lt64 h ht) (by omega) a k).2 (.inr rfl), allMove_one h ht hk a hb (by rw [h.sym k f hk hfl]; exact b), c⟩
theorem allEternal_watch {net : List Int} (h : Ok net) {s : Nat} (hs : s < 2 ^ net.length) (he : AllEternal net s) : W net s = true := by
  refine (W_iff h hs).2 fun j hj => ?_
  cases hb : s.testBit j with
  | true => exact (seen_testBit net s j).2 (.inl hb)
  | false =>
    obtain ⟨u, a, b, c, _⟩ := allEternal_closed net s hs he j hj hb
    exact allMove_seen h hs a c j b

/-! ### No more than are apart -/
theorem allMove_union {net : List Int} (h : Ok net) {a b c : Nat} (ha : a < 2 ^ net.length) (hb : b < 2 ^ net.length) (hc : c < 2 ^ net.length) (hac : ∀ j, a.testBit j = true → c.testBit j = false) (hbc : ∀ j, b.testBit j = true → c.testBit j = false) {d : Nat} (hd : d < 2 ^ net.length) (had : ∀ j, b.testBit j = true → d.testBit j = false) (hm : AllMove net a b) (hm2 : AllMove net c d) : AllMove net (a ||| c) (b ||| d) := by
  obtain ⟨hz, f, hf, hi⟩ := hm
  obtain ⟨hz2, g, hg, hj⟩ := hm2
  refine ⟨by rw [size_disj (lt64 h ha) (lt64 h hc) hac, size_disj (lt64 h hb) (lt64 h hd) had]; omega, fun i => if a.testBit i = true then f i else g i, fun i hx => ?_, fun i j hx hy he => ?_⟩
  · cases hai : a.testBit i with
    | true => simp only [hai, if_true]; exact ⟨(or2 _ _ _).2 (.inl (hf i hai).1), (hf i hai).2⟩
    | false =>
      have hci : c.testBit i = true := by
        rcases (or2 _ _ _).1 hx with hh | hh
        · rw [hai] at hh; cases hh
        · exact hh
      simp only [hai, Bool.false_eq_true, if_false]; exact ⟨(or2 _ _ _).2 (.inr (hg i hci).1), (hg i hci).2⟩
  · have inc : ∀ k, (a ||| c).testBit k = true → a.testBit k = false → c.testBit k = true := fun k hk hn => by
      rcases (or2 _ _ _).1 hk with hh | hh
      · rw [hn] at hh; cases hh
      · exact hh
    cases hai : a.testBit i with
    | true =>
      cases haj : a.testBit j with
      | true => simp only [hai, haj, if_true] at he; exact hi i j hai haj he
      | false =>
        simp only [hai, haj, if_true, Bool.false_eq_true, if_false] at he
        have h1 := had _ (hf i hai).1
        rw [he, (hg j (inc j hy haj)).1] at h1; cases h1
    | false =>
      cases haj : a.testBit j with
      | true =>
        simp only [hai, haj, if_true, Bool.false_eq_true, if_false] at he
        have h1 := had _ (hf j haj).1
        rw [← he, (hg i (inc i hx hai)).1] at h1; cases h1
      | false => simp only [hai, haj, Bool.false_eq_true, if_false] at he; exact hj i j (inc i hx hai) (inc j hy haj) he
/-- From largest apart set to largest apart set all can move. -/
theorem allMove_apart {net : List Int} (h : Ok net) {u m a b : Nat} (hu : u < 2 ^ net.length) (hmax : ∀ x, x < 2 ^ net.length → (∀ j, x.testBit j = true → u.testBit j = true) → Apart net x → size x ≤ m)
    (ha : a < 2 ^ net.length) (hau : ∀ j, a.testBit j = true → u.testBit j = true) (hA : Apart net a) (haz : size a = m) (hb : b < 2 ^ net.length) (hbu : ∀ j, b.testBit j = true → u.testBit j = true) (hB : Apart net b) (hbz : size b = m) : AllMove net a b := by
  have h64 := h.pow
  refine ⟨by omega, ?_⟩
  have key : ∀ x, x < 64 → (∀ j, x.testBit j = true → a.testBit j = true) → size x ≤ size (nbs (fun i j => (ball net i).testBit j) x b) := by
    intro x hx hxa
    have hxl : x < 2 ^ net.length := by
      refine Classical.byContradiction fun hge => ?_
      have hle := Nat.ge_of_not_lt hge
      have : ∃ j, net.length ≤ j ∧ x.testBit j = true := by
        obtain ⟨j, hj1, hj2⟩ := Nat.exists_ge_and_testBit_of_ge_two_pow hle
        exact ⟨j, hj1, hj2⟩
      obtain ⟨j, hj1, hj2⟩ := this
      have := in_lt ha (hxa j hj2)
      omega
    have hnl := nbs_lt (fun i j => (ball net i).testBit j) x b
    have hnb := fun j => nbs_testBit (R := fun i j => (ball net i).testBit j) hx (lt64 h hb) j
    have hdl : minus b (nbs (fun i j => (ball net i).testBit j) x b) < 2 ^ net.length := Nat.lt_of_le_of_lt Nat.and_le_left hb
    have hd := fun j => diff_testBit (lt64 h hb) hnl j
    have hdis : ∀ j, (minus b (nbs (fun i j => (ball net i).testBit j) x b)).testBit j = true → x.testBit j = false := fun j hj => not_true fun hc => by
      obtain ⟨h1, h2⟩ := (hd j).1 hj
      rw [(hnb j).2 ⟨h1, j, hc, sees_self net j⟩] at h2; cases h2
    have hcross : ∀ i j, x.testBit i = true → (minus b (nbs (fun i j => (ball net i).testBit j) x b)).testBit j = true → (nb net i).testBit j = false := fun i j hi hj => not_true fun hc => by
      obtain ⟨h1, h2⟩ := (hd j).1 hj
      rw [(hnb j).2 ⟨h1, i, hi, (ball_testBit _ _ _).2 (.inl hc)⟩] at h2; cases h2
    have hU : Apart net (minus b (nbs (fun i j => (ball net i).testBit j) x b) ||| x) := fun i j hi hj => by
      rcases (or2 _ _ _).1 hi with hi | hi <;> rcases (or2 _ _ _).1 hj with hj | hj
      · exact hB i j ((hd i).1 hi).1 ((hd j).1 hj).1
      · rw [h.sym j i (in_lt hxl hj) (in_lt hdl hi)]; exact hcross j i hj hi
      · exact hcross i j hi hj
      · exact hA i j (hxa i hi) (hxa j hj)
    have h1 := hmax _ (Nat.or_lt_two_pow hdl hxl) (fun j hj => by
      rcases (or2 _ _ _).1 hj with hj | hj
      · exact hbu j ((hd j).1 hj).1
      · exact hau j (hxa j hj)) hU
    rw [size_disj (lt64 h hdl) hx hdis] at h1
    have h2 := size_diff (lt64 h hb) hnl (fun j hj => ((hnb j).1 hj).1)
    omega
  obtain ⟨f, p, q⟩ := hall (fun i j => (ball net i).testBit j) 6 a b (lt64 h ha) (lt64 h hb) (size_le a) key
  exact ⟨f, p, q⟩
theorem size_one {k : Nat} (hk : k < 6) : size (2 ^ k) = 1 := by
  have := size_add (s := 0) (k := k) (by omega) hk (Nat.zero_testBit k)
  rw [Nat.zero_or] at this
  rw [this]; decide
/-- Within any set of places: a family with no more guards than are apart in it. -/
theorem family {net : List Int} (h : Ok net) : ∀ c u, size u ≤ c → u < 2 ^ net.length → ∀ m, (∀ x, x < 2 ^ net.length → (∀ j, x.testBit j = true → u.testBit j = true) → Apart net x → size x ≤ m) →
    ∃ F : Nat → Prop, (∃ s, F s) ∧ (∀ t, F t → t < 2 ^ net.length ∧ (∀ j, t.testBit j = true → u.testBit j = true) ∧ size t ≤ m) ∧
      ∀ t, F t → ∀ k, u.testBit k = true → t.testBit k = false → ∃ v, v.testBit k = true ∧ AllMove net t v ∧ F v := by
  have h6 := h.hi
  intro c
  induction c with
  | zero =>
    intro u hc hu m hm
    have hu0 := size_zero (lt64 h hu) (by omega)
    subst hu0
    refine ⟨fun t => t = 0, ⟨0, rfl⟩, fun t ht => ?_, fun t _ k hk => by rw [Nat.zero_testBit] at hk; cases hk⟩
    subst ht
    have : size 0 = 0 := by decide
    exact ⟨hu, fun j hj => hj, by omega⟩
  | succ c ih =>
    intro u hc hu m hm
    -- the most that are apart in u
    have hmx : ∃ M, M ≤ m ∧ (∃ x, x < 2 ^ net.length ∧ (∀ j, x.testBit j = true → u.testBit j = true) ∧ Apart net x ∧ size x = M) ∧ ∀ x, x < 2 ^ net.length → (∀ j, x.testBit j = true → u.testBit j = true) → Apart net x → size x ≤ M := by
      have hex : ∀ d, d ≤ m → (∃ x, x < 2 ^ net.length ∧ (∀ j, x.testBit j = true → u.testBit j = true) ∧ Apart net x ∧ m - d ≤ size x) → ∃ M, M ≤ m ∧ (∃ x, x < 2 ^ net.length ∧ (∀ j, x.testBit j = true → u.testBit j = true) ∧ Apart net x ∧ size x = M) ∧ ∀ x, x < 2 ^ net.length → (∀ j, x.testBit j = true → u.testBit j = true) → Apart net x → size x ≤ M := by
        intro d
        induction d with
        | zero =>
          rintro _ ⟨x, a, b, e, f⟩
          have := hm x a b e
          exact ⟨m, Nat.le_refl _, ⟨x, a, b, e, by omega⟩, hm⟩
        | succ d ihd =>
          rintro hd ⟨x, a, b, e, f⟩
          by_cases hy : ∃ y, y < 2 ^ net.length ∧ (∀ j, y.testBit j = true → u.testBit j = true) ∧ Apart net y ∧ m - d ≤ size y
          · exact ihd (by omega) hy
          · have hno : ∀ y, y < 2 ^ net.length → (∀ j, y.testBit j = true → u.testBit j = true) → Apart net y → size y ≤ m - (d + 1) := fun y p q r => by
              refine Classical.byContradiction fun hlt => hy ⟨y, p, q, r, by omega⟩
            have := hno x a b e
            exact ⟨m - (d + 1), by omega, ⟨x, a, b, e, by omega⟩, hno⟩
      refine hex m (Nat.le_refl _) ⟨0, Nat.two_pow_pos _, fun j hj => (by rw [Nat.zero_testBit] at hj; cases hj), Apart.zero net, by omega⟩
    obtain ⟨M, hMm, ⟨x0, x0l, x0u, x0A, x0z⟩, hM⟩ := hmx
    by_cases hcov : ∀ v, u.testBit v = true → ∃ x, x < 2 ^ net.length ∧ (∀ j, x.testBit j = true → u.testBit j = true) ∧ Apart net x ∧ size x = M ∧ x.testBit v = true
    · -- all largest apart sets
      refine ⟨fun t => t < 2 ^ net.length ∧ (∀ j, t.testBit j = true → u.testBit j = true) ∧ Apart net t ∧ size t = M, ⟨x0, x0l, x0u, x0A, x0z⟩, fun t ⟨a, b, _, d⟩ => ⟨a, b, by omega⟩, fun t ⟨a, b, e, d⟩ k hk hb => ?_⟩
      obtain ⟨y, y1, y2, y3, y4, y5⟩ := hcov k hk
      exact ⟨y, y5, allMove_apart h hu hM a b e d y1 y2 y3 y4, y1, y2, y3, y4⟩
    · -- a place that is in none: it and its neighbours take two
      have : ∃ v, u.testBit v = true ∧ ∀ x, x < 2 ^ net.length → (∀ j, x.testBit j = true → u.testBit j = true) → Apart net x → x.testBit v = true → size x + 1 ≤ M := by
        refine Classical.byContradiction fun hno => hcov fun v hv => Classical.byContradiction fun hno2 => hno ⟨v, hv, fun x p q r s => ?_⟩
        have h1 := hM x p q r
        refine Classical.byContradiction fun hlt => hno2 ⟨x, p, q, r, by omega, s⟩
      obtain ⟨v, hv, hvn⟩ := this
      have hvl := in_lt hu hv
      have hbl := h.ball_lt hvl
      have hul : minus u (ball net v) < 2 ^ net.length := Nat.lt_of_le_of_lt Nat.and_le_left hu
      have hub : ∀ j, (minus u (ball net v)).testBit j = true ↔ u.testBit j = true ∧ (ball net v).testBit j = false := fun j => diff_testBit (lt64 h hu) (lt64 h hbl) j
      -- fewer are apart there
      have hless : ∀ x, x < 2 ^ net.length → (∀ j, x.testBit j = true → (minus u (ball net v)).testBit j = true) → Apart net x → size x + 2 ≤ M := fun x p q r => by
        have hxv : x.testBit v = false := not_true fun hcc => by
          have := ((hub v).1 (q v hcc)).2
          rw [sees_self] at this; cases this
        have hA := r.add h p hvl (fun j hj => not_true fun hcc => by
          have := ((hub j).1 (q j hj)).2
          rw [(ball_testBit _ _ _).2 (.inl hcc)] at this; cases this)
        have h1 := hvn (x ||| 2 ^ v) (or_lt p hvl) (fun j hj => by
          rcases (or_testBit _ _ _).1 hj with hj | rfl
          · exact ((hub j).1 (q j hj)).1
          · exact hv) hA ((or_testBit _ _ _).2 (.inr rfl))
        rw [size_add (lt64 h p) (by omega) hxv] at h1
        omega
      have hM2 : 2 ≤ M := by
        have := hless 0 (Nat.two_pow_pos _) (fun j hj => by rw [Nat.zero_testBit] at hj; cases hj) (Apart.zero net)
        omega
      -- a neighbour in u
      have hnbr : ∃ y, u.testBit y = true ∧ (nb net v).testBit y = true := by
        refine Classical.byContradiction fun hno => ?_
        have hA := x0A.add h x0l hvl (fun j hj => not_true fun hcc => hno ⟨j, x0u j hj, hcc⟩)
        have h1 := hvn (x0 ||| 2 ^ v) (or_lt x0l hvl) (fun j hj => by
          rcases (or_testBit _ _ _).1 hj with hj | rfl
          · exact x0u j hj
          · exact hv) hA ((or_testBit _ _ _).2 (.inr rfl))
        have h2 : size x0 ≤ size (x0 ||| 2 ^ v) := size_mono6 (lt64 h x0l) (lt64 h (or_lt x0l hvl)) fun j hj => (or_testBit _ _ _).2 (.inl hj)
        omega
      obtain ⟨y0, hy0u, hy0⟩ := hnbr
      have hsz : size (minus u (ball net v)) ≤ c := by
        have h1 : size (minus u (ball net v)) + 1 ≤ size u := by
          have hvb : (minus u (ball net v)).testBit v = false := not_true fun hcc => by
            have := ((hub v).1 hcc).2
            rw [sees_self] at this; cases this
          rw [← size_add (lt64 h hul) (k := v) (by omega) hvb]
          refine size_mono6 (lt64 h (or_lt hul hvl)) (lt64 h hu) fun j hj => ?_
          rcases (or_testBit _ _ _).1 hj with hj | rfl
          · exact ((hub j).1 hj).1
          · exact hv
        omega
      obtain ⟨F, ⟨s0, hs0⟩, hF, hcl⟩ := ih (minus u (ball net v)) hsz hul (M - 2) (fun x p q r => by have := hless x p q r; omega)
      -- the pairs of the place and a neighbour
      have pl : ∀ y, y < net.length → 2 ^ v ||| 2 ^ y < 2 ^ net.length := fun y hy => or_lt (Nat.pow_lt_pow_right (by omega) hvl) hy
      have pb : ∀ y j, (2 ^ v ||| 2 ^ y).testBit j = true ↔ j = v ∨ j = y := fun y j => by
        rw [or_testBit, testBit_pow, decide_eq_true_eq]
        exact ⟨fun hh => hh.elim (fun e => .inl e.symm) .inr, fun hh => hh.elim (fun e => .inl e.symm) .inr⟩
      have pz : ∀ y, y < net.length → y ≠ v → size (2 ^ v ||| 2 ^ y) = 2 := fun y hy hne => by
        have hpv : 2 ^ v < 64 := lt64 h (Nat.pow_lt_pow_right (by omega) hvl)
        rw [size_add hpv (by omega) (by rw [testBit_pow]; simp; omega), size_one (by omega)]
      have yne : ∀ y, (nb net v).testBit y = true → y ≠ v := fun y hy he => by rw [he, h.irr v hvl] at hy; cases hy
      have apart2 : ∀ t, F t → ∀ y, (nb net v).testBit y = true → ∀ j, t.testBit j = true → (2 ^ v ||| 2 ^ y).testBit j = false := fun t ht y hy j hj => not_true fun hcc => by
        have h1 := ((hub j).1 ((hF t ht).2.1 j hj)).2
        rcases (pb y j).1 hcc with e | e
        · rw [e, sees_self] at h1; cases h1
        · rw [e, (ball_testBit _ _ _).2 (.inl hy)] at h1; cases h1
      refine ⟨fun q => ∃ t y, F t ∧ u.testBit y = true ∧ (nb net v).testBit y = true ∧ q = t ||| (2 ^ v ||| 2 ^ y), ⟨_, s0, y0, hs0, hy0u, hy0, rfl⟩, ?_, ?_⟩
      · rintro _ ⟨t, y, ht, hyu, hy, rfl⟩
        obtain ⟨t1, t2, t3⟩ := hF t ht
        have hyl := h.nb_lt hvl hy
        refine ⟨Nat.or_lt_two_pow t1 (pl y hyl), fun j hj => ?_, ?_⟩
        · rcases (or2 _ _ _).1 hj with hj | hj
          · exact ((hub j).1 (t2 j hj)).1
          · rcases (pb y j).1 hj with e | e
            · rw [e]; exact hv
            · rw [e]; exact hyu
        · rw [size_disj (lt64 h t1) (lt64 h (pl y hyl)) (apart2 t ht y hy), pz y hyl (yne y hy)]; omega
      · rintro _ ⟨t, y, ht, hyu, hy, rfl⟩ k hk hb
        obtain ⟨t1, t2, t3⟩ := hF t ht
        have hyl := h.nb_lt hvl hy
        have hkl := in_lt hu hk
        cases hkb : (ball net v).testBit k with
        | false =>
          -- the others answer
          have htk : t.testBit k = false := not_true fun hcc => by rw [(or2 _ _ _).2 (.inl hcc)] at hb; cases hb
          obtain ⟨w, w1, w2, w3⟩ := hcl t ht k ((hub k).2 ⟨hk, hkb⟩) htk
          exact ⟨w ||| (2 ^ v ||| 2 ^ y), (or2 _ _ _).2 (.inl w1), allMove_union h t1 (hF w w3).1 (pl y hyl) (apart2 t ht y hy) (apart2 w w3 y hy) (pl y hyl) (apart2 w w3 y hy) w2 (allMove_refl net _), w, y, w3, hyu, hy, rfl⟩
        | true =>
          -- the two of them answer
          have hkv : k ≠ v := fun he => by rw [he, (or2 _ _ _).2 (.inr ((pb y v).2 (.inl rfl)))] at hb; cases hb
          have hky : k ≠ y := fun he => by rw [he, (or2 _ _ _).2 (.inr ((pb y y).2 (.inr rfl)))] at hb; cases hb
          have hkn : (nb net v).testBit k = true := by
            rcases (ball_testBit _ _ _).1 hkb with e | e
            · exact e
            · exact absurd e.symm hkv
          have hmv : AllMove net (2 ^ v ||| 2 ^ y) (2 ^ v ||| 2 ^ k) := by
            refine ⟨by rw [pz y hyl (yne y hy), pz k hkl hkv], fun i => if i = y then v else k, fun i hi => ?_, fun i j hi hj he => ?_⟩
            · by_cases hiy : i = y
              · simp only [hiy, if_true]
                exact ⟨(pb k v).2 (.inl rfl), (ball_testBit _ _ _).2 (.inl (by rw [h.sym v y hvl hyl]; exact hy))⟩
              · simp only [hiy, if_false]
                have hiv : i = v := by
                  rcases (pb y i).1 hi with e | e
                  · exact e
                  · exact absurd e hiy
                rw [hiv]
                exact ⟨(pb k k).2 (.inr rfl), (ball_testBit _ _ _).2 (.inl hkn)⟩
            · by_cases hiy : i = y <;> by_cases hjy : j = y
              · rw [hiy, hjy]
              · simp only [hiy, hjy, if_true, if_false] at he; exact absurd he.symm hkv
              · simp only [hiy, hjy, if_true, if_false] at he; exact absurd he hkv
              · rcases (pb y i).1 hi with e | e
                · rcases (pb y j).1 hj with e2 | e2
                  · rw [e, e2]
                  · exact absurd e2 hjy
                · exact absurd e hiy
          exact ⟨t ||| (2 ^ v ||| 2 ^ k), (or2 _ _ _).2 (.inr ((pb k k).2 (.inr rfl))), allMove_union h t1 t1 (pl y hyl) (apart2 t ht y hy) (apart2 t ht y hy) (pl k hkl) (apart2 t ht k hkn) (allMove_refl net _) hmv, t, k, ht, hk, hkn, rfl⟩
/-- Where all move it takes no more than are apart. -/
theorem allEternal_upper {net : List Int} (h : Ok net) {m : Nat} (hm : MaxOf net (apart net) m) : ∃ s, s < 2 ^ net.length ∧ AllEternal net s ∧ size s ≤ m := by
  obtain ⟨F, ⟨s, hs⟩, hF, hcl⟩ := family h 6 (allOf net) (size_le _) (allOf_lt net) m (fun x hx _ hA => hm.le x hx ((apart_iff hx).2 hA))
  refine ⟨s, (hF s hs).1, ⟨F, fun t ht hFt k hk hb => ?_, hs⟩, (hF s hs).2.2⟩
  obtain ⟨u, a, b, c⟩ := hcl t hFt k (by rw [allOf_testBit]; simpa using hk) hb
  exact ⟨u, (hF u c).1, a, b, c⟩
end Go.Proofs.Ytgocpgkhbamkcaa
/- The model's functions of chapter 10 in natural numbers. Conditions: those of each theorem. -/
namespace Go.Proofs.Ytgocpgkhbamkcaa
open D Go.RowKit
set_option linter.unusedVariables false
set_option linter.unusedSimpArgs false


/-- The guards from a place on fit into a set. -/
def FitP (net : List Int) (f a l : Nat) : Prop := ∃ g : Nat → Nat, (∀ i, a ≤ i → f.testBit i = true → l.testBit (g i) = true ∧ (ball net i).testBit (g i) = true) ∧ ∀ i j, a ≤ i → a ≤ j → f.testBit i = true → f.testBit j = true → g i = g j → i = j
noncomputable def fitB (net : List Int) (f a l : Nat) : Bool := @decide (FitP net f a l) (Classical.propDecidable _)
theorem fitB_iff {net : List Int} {f a l : Nat} : fitB net f a l = true ↔ FitP net f a l := by unfold fitB; exact @decide_eq_true_iff _ (Classical.propDecidable _)
theorem fit_skip {net : List Int} {f a b l : Nat} (hab : a ≤ b) (hno : ∀ i, a ≤ i → i < b → f.testBit i = false) : FitP net f a l ↔ FitP net f b l := by
  have up : ∀ i, a ≤ i → f.testBit i = true → b ≤ i := fun i hi hb => by
    rcases Nat.lt_or_ge i b with h | h
    · rw [hno i hi h] at hb; cases hb
    · exact h
  constructor
  · rintro ⟨g, h1, h2⟩
    exact ⟨g, fun i hi hb => h1 i (by omega) hb, fun i j hi hj a b c => h2 i j (by omega) (by omega) a b c⟩
  · rintro ⟨g, h1, h2⟩
    exact ⟨g, fun i hi hb => h1 i (up i hi hb) hb, fun i j hi hj a b c => h2 i j (up i hi a) (up j hj b) a b c⟩
theorem fit_end {net : List Int} {f a l : Nat} (hno : ∀ i, a ≤ i → f.testBit i = false) : FitP net f a l :=
  ⟨fun i => i, fun i hi hb => (by rw [hno i hi] at hb; cases hb), fun i j _ _ _ _ he => he⟩
theorem fit_one {net : List Int} (h : Ok net) {f a l : Nat} (ha : a < net.length) (hb : f.testBit a = true) (hl : l < 2 ^ net.length) :
    FitP net f a l ↔ ∃ k, k < net.length ∧ ((ball net a) &&& l).testBit k = true ∧ FitP net f (a + 1) (minus l (2 ^ k)) := by
  have h6 := h.hi
  have hl64 := lt64 h hl
  have hm : ∀ k, k < net.length → ∀ j, (minus l (2 ^ k)).testBit j = true ↔ l.testBit j = true ∧ j ≠ k := fun k hk j => by
    have h1 : 2 ^ k < 2 ^ 6 := Nat.pow_lt_pow_right (by omega) (by omega)
    rw [minus_testBit _ _ (by omega) (by omega), Nat.testBit_two_pow, Bool.and_eq_true, Bool.not_eq_true', decide_eq_false_iff_not]
    constructor
    · rintro ⟨x, y⟩; exact ⟨x, fun e => y e.symm⟩
    · rintro ⟨x, y⟩; exact ⟨x, fun e => y e.symm⟩
  constructor
  · rintro ⟨g, h1, h2⟩
    obtain ⟨x, y⟩ := h1 a (Nat.le_refl _) hb
    refine ⟨g a, in_lt hl x, by rw [Nat.testBit_and, x, y]; rfl, g, fun i hi hbi => ?_, fun i j hi hj p q e => h2 i j (by omega) (by omega) p q e⟩
    obtain ⟨p, q⟩ := h1 i (by omega) hbi
    refine ⟨(hm _ (in_lt hl x) _).2 ⟨p, fun e => ?_⟩, q⟩
    have := h2 i a (by omega) (Nat.le_refl _) hbi hb e
    omega
  · rintro ⟨k, hk, hkb, g, h1, h2⟩
    rw [Nat.testBit_and, Bool.and_eq_true] at hkb
    refine ⟨fun i => if i = a then k else g i, fun i hi hbi => ?_, fun i j hi hj p q e => ?_⟩
    · by_cases he : i = a
      · subst he; simp only [if_true]; exact ⟨hkb.2, hkb.1⟩
      · simp only [if_neg he]
        obtain ⟨x, y⟩ := h1 i (by omega) hbi
        exact ⟨((hm k hk _).1 x).1, y⟩
    · by_cases hi2 : i = a <;> by_cases hj2 : j = a
      · omega
      · simp only [hi2, if_true, if_neg hj2] at e
        have := (h1 j (by omega) q).1
        rw [hm k hk] at this
        exact absurd e.symm this.2
      · simp only [hj2, if_true, if_neg hi2] at e
        have := (h1 i (by omega) p).1
        rw [hm k hk] at this
        exact absurd e this.2
      · simp only [if_neg hi2, if_neg hj2] at e
        exact h2 i j (by omega) (by omega) p q e
theorem S.l10Fit_next [c : S.l10Fit_r_R] {net : List Int} (h : Ok net) {f : Nat} (x3 : Int) : ∀ (m a n : Nat), a + m = net.length → m < n →
    ∃ b, a ≤ b ∧ b ≤ net.length ∧ (∀ i, a ≤ i → i < b → f.testBit i = false) ∧ (b < net.length → f.testBit b = true) ∧ S.l10Fit_r_run1 net f x3 n a = some (b : Int) := by
  have h6 := h.hi
  intro m
  induction m with
  | zero =>
    intro a n ha hn
    obtain ⟨n, rfl⟩ : ∃ q, n = q + 1 := ⟨n - 1, by omega⟩
    refine ⟨a, Nat.le_refl _, by omega, fun i h1 h2 => by omega, fun hh => by omega, ?_⟩
    simp only [S.l10Fit_r_run1, S.l10Fit_r_step1]
    rw [cnd_f (by rw [decide_eq_false_iff_not]; omega)]
  | succ m ih =>
    intro a n ha hn
    obtain ⟨n, rfl⟩ : ∃ q, n = q + 1 := ⟨n - 1, by omega⟩
    simp only [S.l10Fit_r_run1, S.l10Fit_r_step1]
    rw [cnd_t (by rw [decide_eq_true_eq]; omega), cnd_f (by simp), bit_shr _ _ (by omega), bool_eq0, add1_nat (by omega)]
    cases hb : f.testBit a with
    | true => exact ⟨a, Nat.le_refl _, by omega, fun i h1 h2 => by omega, fun _ => hb, rfl⟩
    | false =>
      rw [Bool.not_false, cond_true]
      obtain ⟨b, b1, b2, b3, b4, b5⟩ := ih (a + 1) n (by omega) (by omega)
      refine ⟨b, by omega, b2, fun i h1 h2 => ?_, b4, b5⟩
      by_cases he : i = a
      · rw [he]; exact hb
      · exact b3 i (by omega) h2
theorem S.l10Fit_step [c : S.l10Fit_r_R] {net : List Int} (h : Ok net) {f : Nat} (hf : f < 2 ^ net.length) {a : Nat} (ha : a ≤ net.length)
    (hrec : ∀ b l : Nat, a < b → b ≤ net.length → l < 2 ^ net.length → S.l10Fit_r0_t net (f : Int) (b : Int) (l : Int) = some (fitB net f b l)) {l : Nat} (hl : l < 2 ^ net.length) :
    S.l10Fit_r_t net (f : Int) (a : Int) (l : Int) = some (fitB net f a l) := by
  have h6 := h.hi
  have h64 := h.pow
  have hF := FUEL_le
  unfold S.l10Fit_r_t S.l10Fit_r_tree
  obtain ⟨b, b1, b2, b3, b4, b5⟩ := S.l10Fit_next h (l : Int) (net.length - a) a FUEL (by omega) (by omega) (f := f)
  rw [b5]
  simp only [optC]
  by_cases hb : b < net.length
  · have hbb := b4 hb
    have hbl := h.ball_lt hb
    have hnb := h.lt64 hb
    have h2b : 2 ^ b < 2 ^ 6 := Nat.pow_lt_pow_right (by omega) (by omega)
    rw [cnd_f (by rw [decide_eq_false_iff_not]; omega), cnd_t (by simp only [Bool.and_eq_true, decide_eq_true_eq]; omega), cnd_f (by simp), one_shl (by omega), Int.toNat_natCast, h.eli hb, i64_or_nat _ _ (by omega) (by omega),
      i64_and_nat _ _ (by rw [show nb net b ||| 2 ^ b = ball net b from rfl]; omega) (by omega)]
    rw [run_search (run := S.l10Fit_r_run7 net (f : Int) (b : Int) (l : Int) (((nb net b ||| 2 ^ b) &&& l : Nat) : Int)) (len := net.length) (fun k => if (((nb net b ||| 2 ^ b) &&& l).testBit k && fitB net f (b + 1) (minus l (2 ^ k))) = true then some true else none) () (by omega) (fun n k hk => ?_) (fun n => ?_), find_testT]
    · have e : ((List.range net.length).any fun k => ((nb net b ||| 2 ^ b) &&& l).testBit k && fitB net f (b + 1) (minus l (2 ^ k))) = fitB net f a l := by
        rw [Bool.eq_iff_iff, fitB_iff, fit_skip b1 b3, fit_one h hb hbb hl, List.any_eq_true]
        simp only [List.mem_range, Bool.and_eq_true, fitB_iff]
        rfl
      rw [← e]
      cases (List.range net.length).any fun k => ((nb net b ||| 2 ^ b) &&& l).testBit k && fitB net f (b + 1) (minus l (2 ^ k)) <;> rfl
    · simp only [S.l10Fit_r_run7, S.l10Fit_r_step7]
      have h2k : 2 ^ k < 2 ^ 6 := Nat.pow_lt_pow_right (by omega) (by omega)
      rw [cnd_t (by rw [decide_eq_true_eq]; omega), cnd_f (by simp), bit_shr _ _ (by omega), bool_eq1]
      cases hbk : ((nb net b ||| 2 ^ b) &&& l).testBit k with
      | false => simp only [cond_false, Bool.false_and, Bool.false_eq_true, if_false]; rw [add1_nat (by omega)]
      | true =>
        rw [cond_true, cnd_f (by simp), one_shl (by omega), i64_andNot_nat _ _ (by omega) (by omega), add1_nat (by omega), add1_nat (by omega),
          hrec (b + 1) (minus l (2 ^ k)) (by omega) (by omega) (Nat.lt_of_le_of_lt Nat.and_le_left hl)]
        simp only [optC, Bool.true_and]
        cases fitB net f (b + 1) (minus l (2 ^ k)) <;> rfl
    · simp only [S.l10Fit_r_run7, S.l10Fit_r_step7]
      rw [cnd_f (by rw [decide_eq_false_iff_not]; omega)]
  · rw [cnd_t (by rw [decide_eq_true_eq]; omega)]
    congr 1
    symm
    rw [fitB_iff, fit_skip b1 b3]
    refine fit_end (fun i hi => not_true fun hc => ?_)
    have := in_lt hf hc
    omega
theorem S.l10Fit_d {net : List Int} (h : Ok net) {f : Nat} (hf : f < 2 ^ net.length) : ∀ (m d a l : Nat), a + m = net.length → m < d → l < 2 ^ net.length → S.l10Fit_td d net (f : Int) (a : Int) (l : Int) = some (fitB net f a l) := by
  intro m
  induction m using Nat.strongRecOn with
  | _ m ih =>
    intro d a l ha hd hl
    obtain ⟨d, rfl⟩ : ∃ q, d = q + 1 := ⟨d - 1, by omega⟩
    exact @S.l10Fit_step ⟨S.l10Fit_td d⟩ net h f hf a (by omega) (fun (b l' : Nat) h1 h2 h3 => ih (net.length - b) (by omega) d b l' (by omega) (by omega) h3) l hl
theorem S.l10Fit_n {net : List Int} (h : Ok net) {f l : Nat} (hf : f < 2 ^ net.length) (hl : l < 2 ^ net.length) : S.l10Fit_t net (f : Int) 0 (l : Int) = some (fitB net f 0 l) := by
  have hF := FUEL_le
  have h6 := h.hi
  exact S.l10Fit_d h hf net.length FUEL 0 l (by omega) (by omega) hl
theorem fit_allMove {net : List Int} {a b : Nat} : AllMove net a b ↔ size a = size b ∧ FitP net a 0 b := by
  unfold AllMove FitP
  refine and_congr Iff.rfl ⟨fun ⟨g, h1, h2⟩ => ⟨g, fun i _ hi => h1 i hi, fun i j _ _ => h2 i j⟩, fun ⟨g, h1, h2⟩ => ⟨g, fun i hi => h1 i (Nat.zero_le _) hi, fun i j => h2 i j (Nat.zero_le _) (Nat.zero_le _)⟩⟩
noncomputable def allMoveB (net : List Int) (a b : Nat) : Bool := size a == size b && fitB net a 0 b
theorem allMoveB_iff {net : List Int} {a b : Nat} : allMoveB net a b = true ↔ AllMove net a b := by
  unfold allMoveB
  rw [Bool.and_eq_true, beq_iff_eq, fitB_iff, fit_allMove]
theorem S.AllMoveOk_x {net : List Int} (e : S.NetOk_t net = some false) (s t : Int) : S.AllMoveOk_t net s t = some false := by
  unfold S.AllMoveOk_t S.AllMoveOk_tree; rw [S.l1SetOk_x e]; rfl
theorem S.AllMoveOk_n {net : List Int} (h : Ok net) (e : S.NetOk_t net = some true) (s t : Int) : S.AllMoveOk_t net s t = some (decide (0 ≤ s ∧ s < 2 ^ net.length) && (decide (0 ≤ t ∧ t < 2 ^ net.length) && allMoveB net s.toNat t.toNat)) := by
  unfold S.AllMoveOk_t S.AllMoveOk_tree
  have h64 := h.pow
  rw [S.l1SetOk_n h e]
  simp only [optC]
  rcases set_cases h s with ⟨a, rfl, ha, hd⟩ | hd
  · rw [hd, cond_true, S.l1SetOk_n h e]
    simp only
    rcases set_cases h t with ⟨b, rfl, hb, hd2⟩ | hd2
    · rw [hd2, cond_true, S.l1Size_n (by omega), S.l1Size_n (by omega)]
      simp only [Bool.true_and, Int.toNat_natCast]
      unfold allMoveB
      rw [nat_beq]
      cases size a == size b with
      | false => rfl
      | true => rw [cond_true, S.l10Fit_n h ha hb]; rfl
    · rw [hd2]; rfl
  · rw [hd]; rfl
def ansAP (net : List Int) (l : List Bool) (fit : Nat → Bool) (s p u : Nat) : Bool := D.elb l u && (u.testBit p && (size u == size s && fit u))
noncomputable def ansA (net : List Int) (l : List Bool) (s p : Nat) : Int := (find (2 ^ net.length) (fun u => if ansAP net l (fitB net s 0) s p u = true then some (u : Int) else none)).getD (-1)
theorem ansA_cases (net : List Int) (l : List Bool) (s p : Nat) : (ansA net l s p = -1 ∧ ∀ u, u < 2 ^ net.length → ansAP net l (fitB net s 0) s p u = false) ∨ ∃ u : Nat, u < 2 ^ net.length ∧ ansA net l s p = (u : Int) ∧ ansAP net l (fitB net s 0) s p u = true := by
  unfold ansA
  cases hf : find (2 ^ net.length) (fun u => if ansAP net l (fitB net s 0) s p u = true then some (u : Int) else none) with
  | none =>
    refine .inl ⟨rfl, fun u hu => not_true fun hc => ?_⟩
    have := find_none.1 hf u hu
    rw [if_pos hc] at this; cases this
  | some r =>
    obtain ⟨u, hu, he⟩ := find_some_ex hf
    right
    by_cases hc : ansAP net l (fitB net s 0) s p u = true
    · rw [if_pos hc] at he; injection he with he; exact ⟨u, hu, he.symm, hc⟩
    · rw [if_neg hc] at he; cases he
theorem ansAP_iff {net : List Int} {l : List Bool} {s p u : Nat} : ansAP net l (fitB net s 0) s p u = true ↔ D.elb l u = true ∧ u.testBit p = true ∧ AllMove net s u := by
  unfold ansAP
  rw [Bool.and_eq_true, Bool.and_eq_true, Bool.and_eq_true, beq_iff_eq, fitB_iff, fit_allMove]
  exact and_congr Iff.rfl (and_congr Iff.rfl (and_congr ⟨fun e => e.symm, fun e => e.symm⟩ Iff.rfl))
theorem S.l10Answer_n {net : List Int} (h : Ok net) {l : List Bool} (hl : l.length = 2 ^ net.length) {s p : Nat} (hs : s < 2 ^ net.length) (hp : p < net.length) : S.l10Answer_t net l (s : Int) (p : Int) = some (ansA net l s p) := by
  unfold S.l10Answer_t S.l10Answer_tree
  have h6 := h.hi
  have h64 := h.pow
  rw [run_search (run := S.l10Answer_run2 net l s p) (len := l.length) (fun u => if ansAP net l (fitB net s 0) s p u = true then some (u : Int) else none) () (by omega) (fun n k hk => ?_) (fun n => ?_)]
  · unfold ansA
    rw [hl]
    cases find (2 ^ net.length) (fun u => if ansAP net l (fitB net s 0) s p u = true then some (u : Int) else none) <;> rfl
  · simp only [S.l10Answer_run2, S.l10Answer_step2]
    rw [cnd_t (by rw [decide_eq_true_eq]; omega), cnd_t (by simp only [Bool.and_eq_true, decide_eq_true_eq]; omega), Int.toNat_natCast, add1_nat (by omega)]
    unfold ansAP
    cases hb : D.elb l k with
    | false => rfl
    | true =>
      rw [cond_true, cnd_f (by simp), ← Int.toNat_natCast p, bit_shr _ _ (by omega), bool_eq1, Int.toNat_natCast]
      cases hb2 : k.testBit p with
      | false => rfl
      | true =>
        rw [cond_true, S.l1Size_n (by omega), S.l1Size_n (by omega)]
        simp only [optC]
        rw [nat_beq]
        cases hz : size k == size s with
        | false => rfl
        | true =>
          rw [cond_true, S.l10Fit_n h hs (by omega)]
          simp only [Bool.true_and]
          cases fitB net s 0 k <;> rfl
  · simp only [S.l10Answer_run2, S.l10Answer_step2]
    rw [cnd_f (by rw [decide_eq_false_iff_not]; omega)]
noncomputable def badA (net : List Int) (l : List Bool) (s k : Nat) : Bool := !s.testBit k && decide (ansA net l s k < 0)
noncomputable def holdsA (net : List Int) (l : List Bool) (s : Nat) : Bool := !((List.range net.length).any (badA net l s))
noncomputable def inStep (net : List Int) (s : Nat) (t : Bool × List Bool) (k : Nat) : Bool × List Bool := if (D.elb t.2 s && badA net t.2 s k) = true then (true, t.2.set s false) else t
theorem inStep_fold {net : List Int} {s : Nat} {t : Bool × List Bool} (hs : s < t.2.length) (N : Nat) :
    fold N (inStep net s) t = if (D.elb t.2 s && (List.range N).any (badA net t.2 s)) = true then (true, t.2.set s false) else t := by
  induction N with
  | zero => simp [fold_zero]
  | succ N ih =>
    rw [fold_succ, ih, List.range_succ, List.any_append, List.any_cons, List.any_nil, Bool.or_false]
    cases hb : D.elb t.2 s with
    | false => simp [inStep, hb]
    | true =>
      cases ha : (List.range N).any (badA net t.2 s) with
      | true =>
        simp only [Bool.true_and, Bool.true_or, if_true]
        unfold inStep
        have : D.elb (t.2.set s false) s = false := by rw [elb_set hs, if_pos rfl]
        simp [this]
      | false =>
        simp only [Bool.true_and, Bool.false_or, Bool.false_eq_true, if_false]
        unfold inStep
        rw [hb, Bool.true_and]
theorem inStep_sweep {net : List Int} {s : Nat} {t : Bool × List Bool} (hs : s < t.2.length) : fold net.length (inStep net s) t = sweepStep (holdsA net) t s := by
  rw [inStep_fold hs]
  unfold sweepStep holdsA
  rw [Bool.not_not]
noncomputable def allEternalB (net : List Int) (s : Nat) : Bool := @decide (AllEternal net s) (Classical.propDecidable _)
theorem allEternalB_iff {net : List Int} {s : Nat} : allEternalB net s = true ↔ AllEternal net s := by unfold allEternalB; exact @decide_eq_true_iff _ (Classical.propDecidable _)
noncomputable def lastsA (net : List Int) : List Bool := (List.range (2 ^ net.length)).map (allEternalB net)
theorem lastsA_len (net : List Int) : (lastsA net).length = 2 ^ net.length := by simp [lastsA]
theorem lastsA_elb {net : List Int} {s : Nat} (hs : s < 2 ^ net.length) : D.elb (lastsA net) s = allEternalB net s := by unfold D.elb lastsA; simp [List.getD, hs]
theorem holdsA_eternal {net : List Int} (m : List Bool) (hin : ∀ s, s < 2 ^ net.length → AllEternal net s → D.elb m s = true) : ∀ s, s < 2 ^ net.length → AllEternal net s → holdsA net m s = true := by
  intro s hs he
  unfold holdsA
  rw [Bool.not_eq_true', List.any_eq_false]
  intro k hk
  have hk := List.mem_range.1 hk
  unfold badA
  cases hb : s.testBit k with
  | true => simp
  | false =>
    obtain ⟨u, a, b, c, d⟩ := allEternal_closed net s hs he k hk hb
    rcases ansA_cases net m s k with ⟨_, hno⟩ | ⟨g, _, hg, _⟩
    · have := hno u a
      rw [ansAP_iff.2 ⟨hin u a d, b, c⟩] at this
      cases this
    · rw [hg, decide_eq_false (by omega)]; simp
theorem stableA_eternal {net : List Int} {m : List Bool} (hst : ∀ s, s < 2 ^ net.length → D.elb m s = true → holdsA net m s = true) : ∀ s, s < 2 ^ net.length → D.elb m s = true → AllEternal net s := by
  intro s hs hb
  refine ⟨fun q => q < 2 ^ net.length ∧ D.elb m q = true, fun t ht ⟨_, htm⟩ k hk hb => ?_, hs, hb⟩
  have := hst t ht htm
  unfold holdsA at this
  rw [Bool.not_eq_true', List.any_eq_false] at this
  have := this k (List.mem_range.2 hk)
  unfold badA at this
  rw [hb] at this
  rcases ansA_cases net m t k with ⟨hn, _⟩ | ⟨u, hu, hg, hP⟩
  · rw [hn] at this; exact absurd rfl this
  · obtain ⟨x, y, z⟩ := ansAP_iff.1 hP
    exact ⟨u, hu, y, z, hu, x⟩
theorem S.l10Lasts_n {net : List Int} (h : Ok net) : S.l10Lasts_t net = some (lastsA net) := by
  unfold S.l10Lasts_t S.l10Lasts_tree
  have h6 := h.hi
  have h64 := h.pow
  rw [pow_shl h, Int.toNat_natCast, cnd_t (by simp only [D.small, Bool.and_true, Bool.and_eq_true, decide_eq_true_eq]; exact ⟨Int.natCast_nonneg _, by omega⟩)]
  have l3 := (run_for (run := S.l10Lasts_run3 net) (len := 2 ^ net.length) (fun k (t : List Bool) => ((k : Int), t)) (fun t k => t.set k true) (fun t => t) (fun k t => t.length = 2 ^ net.length ∧ ∀ j, j < k → D.elb t j = true) (by omega) (fun n k t hk ht => ?_) (fun n t ht => ?_) (t0 := List.replicate (2 ^ net.length) false) ⟨by simp, fun j hj => by omega⟩)
  · obtain ⟨e1, hl, hall⟩ := l3
    rw [show S.l10Lasts_run3 net FUEL (0, List.replicate (2 ^ net.length) false) = _ from e1]
    simp only [optC]
    generalize fold (2 ^ net.length) (fun (t : List Bool) k => t.set k true) (List.replicate (2 ^ net.length) false) = T at hl hall ⊢
    have hF := FUEL_le
    obtain ⟨m, r1, r2, r3, r4⟩ := settles (H := holdsA net) (N := 2 ^ net.length) (G := AllEternal net) (fun m _ => holdsA_eternal m) (run := S.l10Lasts_run7 net) (fun n l hl => by
      have l10 := (run_for (run := S.l10Lasts_run10 net) (len := 2 ^ net.length) (fun k (t : Bool × List Bool) => (t.1, (k : Int), t.2)) (sweepStep (holdsA net)) (fun t => (t.1, t.2)) (fun k t => t.2.length = 2 ^ net.length) (by omega) (fun n k t hk ht => by
        have l13 := (run_for (run := S.l10Lasts_run13 net (k : Int)) (len := net.length) (fun j (q : Bool × List Bool) => (q.1, (j : Int), q.2)) (inStep net k) (fun q => (q.1, q.2)) (fun j q => q.2.length = 2 ^ net.length) (by omega) (fun n j q hj hq => by
          simp only [S.l10Lasts_run13, S.l10Lasts_step13]
          rw [cnd_t (by rw [decide_eq_true_eq]; omega), cnd_t (by simp only [Bool.and_eq_true, decide_eq_true_eq]; omega), Int.toNat_natCast, cnd_t (by rw [decide_eq_true_eq]; omega), add1_nat (by omega)]
          unfold inStep badA
          cases hb : D.elb q.2 k with
          | false => simp only [cond_false, Bool.false_and, Bool.false_eq_true, if_false]; exact ⟨trivial, hq⟩
          | true =>
            rw [cond_true, cnd_f (by simp), ← Int.toNat_natCast j, bit_shr _ _ (by omega), bool_eq0, Int.toNat_natCast]
            cases hb2 : k.testBit j with
            | true => simp only [Bool.not_true, cond_false, Bool.false_and, Bool.and_false, Bool.false_eq_true, if_false]; exact ⟨trivial, hq⟩
            | false =>
              rw [Bool.not_false, cond_true, S.l10Answer_n h hq hk hj]
              simp only [optC, Bool.true_and]
              by_cases hn : ansA net q.2 k j < 0
              · rw [decide_eq_true hn, cond_true, cnd_t (by simp only [Bool.and_eq_true, decide_eq_true_eq]; omega), cnd_t (by rw [decide_eq_true_eq]; omega), if_pos rfl]
                exact ⟨rfl, by simp [hq]⟩
              · rw [decide_eq_false hn, cond_false, if_neg (by simp)]; exact ⟨rfl, hq⟩) (fun n q hq => by
          simp only [S.l10Lasts_run13, S.l10Lasts_step13]
          rw [cnd_f (by rw [decide_eq_false_iff_not]; omega)]) (t0 := t) ht)
        simp only [S.l10Lasts_run10, S.l10Lasts_step10]
        rw [cnd_t (by rw [decide_eq_true_eq]; omega), show S.l10Lasts_run13 net (k : Int) FUEL (t.1, 0, t.2) = _ from l13.1]
        simp only [optC]
        rw [add1_nat (by omega), ← inStep_sweep (by omega)]
        exact ⟨rfl, l13.2⟩) (fun n t ht => by
        simp only [S.l10Lasts_run10, S.l10Lasts_step10]
        rw [cnd_f (by rw [decide_eq_false_iff_not]; omega)]) (t0 := (false, l)) hl).1
      simp only [S.l10Lasts_run7, S.l10Lasts_step7]
      rw [cond_true, show S.l10Lasts_run10 net FUEL (false, 0, l) = _ from l10]
      rfl) (fun n l => by simp only [S.l10Lasts_run7, S.l10Lasts_step7]; rfl) (2 ^ net.length) T hl (by have := trues_le T; omega) (fun s hs _ => hall s hs) FUEL (by omega)
    rw [r1]
    simp only
    congr 1
    refine elb_ext (by rw [r2, lastsA_len]) (fun s hs => ?_)
    rw [r2] at hs
    rw [lastsA_elb hs, Bool.eq_iff_iff, allEternalB_iff]
    exact ⟨stableA_eternal r4 s hs, r3 s hs⟩
  · simp only [S.l10Lasts_run3, S.l10Lasts_step3]
    have hl := ht.1
    rw [cnd_t (by simp; omega), cnd_t (by simp; omega), Int.toNat_natCast, cnd_t (by simp; omega), add1_nat (by omega)]
    refine ⟨rfl, by simp [hl], fun j hj => ?_⟩
    rw [elb_set (by omega)]
    by_cases he : j = k
    · rw [if_pos he]
    · rw [if_neg he]; exact ht.2 j (by omega)
  · simp only [S.l10Lasts_run3, S.l10Lasts_step3]
    have hl := ht.1
    rw [cnd_f (by rw [decide_eq_false_iff_not]; omega)]
theorem S.AllEternalOk_x {net : List Int} (e : S.NetOk_t net = some false) (s : Int) : S.AllEternalOk_t net s = some false := by
  unfold S.AllEternalOk_t S.AllEternalOk_tree; rw [S.l1SetOk_x e]; rfl
theorem S.AllEternalOk_n {net : List Int} (h : Ok net) (e : S.NetOk_t net = some true) (s : Int) : S.AllEternalOk_t net s = some (decide (0 ≤ s ∧ s < 2 ^ net.length) && allEternalB net s.toNat) := by
  unfold S.AllEternalOk_t S.AllEternalOk_tree
  rw [S.l1SetOk_n h e]
  simp only [optC]
  rcases set_cases h s with ⟨t, rfl, ht, hd⟩ | hd
  · rw [hd, cond_true, S.l10Lasts_n h]
    simp only
    rw [lastsA_len, cnd_t (by simp only [Bool.and_eq_true, decide_eq_true_eq]; omega), Int.toNat_natCast, cnd_t (by simpa using ht), lastsA_elb ht]
    rfl
  · rw [hd]; rfl
theorem allEternal_all (net : List Int) (h : Ok net) : AllEternal net (allOf net) := eternal_allEternal h (allOf_lt net) eternal_all
noncomputable def fewestAllEternal (net : List Int) : Nat := minSize net (allEternalB net)
theorem fewestAllEternal_min {net : List Int} (h : Ok net) : MinOf net (allEternalB net) (fewestAllEternal net) := minSize_is h ⟨allOf net, allOf_lt net, allEternalB_iff.2 (allEternal_all net h)⟩
theorem S.FewestAllEternal_x {net : List Int} (e : S.NetOk_t net = some false) : S.FewestAllEternal_t net = some (-1) := by
  unfold S.FewestAllEternal_t S.FewestAllEternal_tree; rw [e]; rfl
theorem S.FewestAllEternal_y {net : List Int} (h : Ok net) (e : S.NetOk_t net = some true) : S.FewestAllEternal_t net = some ((fewestAllEternal net : Nat) : Int) := by
  unfold S.FewestAllEternal_t S.FewestAllEternal_tree
  have h6 := h.hi
  have h64 := h.pow
  have hll := lastsA_len net
  rw [e]
  simp only [optC, Bool.not_true, cond_false]
  rw [S.l10Lasts_n h]
  simp only
  have := (run_for (run := S.FewestAllEternal_run6) (len := 2 ^ net.length) (fun k (t : Nat) => ((t : Int), (k : Int), lastsA net)) (fun t s => if allEternalB net s = true then (if size s < t then size s else t) else t) (fun t => (t : Int)) (fun k t => t ≤ 6) (by omega) (fun n k t hk ht => ?_) (fun n t ht => ?_) (t0 := net.length) (by omega)).1
  · exact congrArg (fun o => optC o (fun q => some q) none) this
  · simp only [S.FewestAllEternal_run6, S.FewestAllEternal_step6]
    have hz := size_le k
    rw [cnd_t (by rw [decide_eq_true_eq]; omega), cnd_t (by simp only [Bool.and_eq_true, decide_eq_true_eq]; omega), Int.toNat_natCast, cnd_t (by rw [decide_eq_true_eq]; omega), lastsA_elb hk, add1_nat (by omega)]
    cases hw : allEternalB net k with
    | true =>
      rw [cond_true, S.l1Size_n (by omega)]
      simp only [optC, if_true]
      by_cases hc : size k < t
      · rw [if_pos (by omega), if_pos hc]; exact ⟨rfl, by omega⟩
      · rw [if_neg (by omega), if_neg hc]; exact ⟨rfl, by omega⟩
    | false => simp only [cond_false, Bool.false_eq_true, if_false]; exact ⟨trivial, ht⟩
  · simp only [S.FewestAllEternal_run6, S.FewestAllEternal_step6]
    rw [cnd_f (by rw [decide_eq_false_iff_not]; omega)]
/-- The answer of a set that all can keep up. -/
noncomputable def allAnswerI (net : List Int) (s p : Int) : Int := if (0 ≤ s ∧ s < 2 ^ net.length) ∧ (0 ≤ p ∧ p < net.length) ∧ allEternalB net s.toNat = true ∧ s.toNat.testBit p.toNat = false then ansA net (lastsA net) s.toNat p.toNat else -1
theorem S.AllAnswerOf_x {net : List Int} (e : S.NetOk_t net = some false) (s p : Int) : S.AllAnswerOf_t net s p = some (-1) := by
  unfold S.AllAnswerOf_t S.AllAnswerOf_tree; rw [S.AllEternalOk_x e]; rfl
theorem S.AllAnswerOf_n {net : List Int} (h : Ok net) (e : S.NetOk_t net = some true) (s p : Int) : S.AllAnswerOf_t net s p = some (allAnswerI net s p) := by
  unfold S.AllAnswerOf_t S.AllAnswerOf_tree
  have h6 := h.hi
  rw [S.AllEternalOk_n h e]
  simp only [optC]
  rcases set_cases h s with ⟨t, rfl, ht, hd⟩ | hd
  · rw [hd, Int.toNat_natCast, Bool.true_and]
    cases he : allEternalB net t with
    | false =>
      unfold allAnswerI
      rw [if_neg (fun hc => by have := hc.2.2.1; rw [Int.toNat_natCast, he] at this; cases this)]; rfl
    | true =>
      rw [Bool.not_true, cond_false, S.l1In_is, l1In_place h]
      simp only
      rcases place_cases net p with ⟨k, rfl, hk, hd2⟩ | hd2
      · rw [hd2, Bool.not_true, cond_false, cnd_f (by simp), bit_shr _ _ (by omega), bool_eq1]
        cases hb : t.testBit k with
        | true =>
          unfold allAnswerI
          rw [if_neg (fun hc => by have := hc.2.2.2; simp [hb] at this)]; rfl
        | false =>
          rw [cond_false, S.l10Lasts_n h]
          simp only
          rw [S.l10Answer_n h (lastsA_len net) ht hk]
          unfold allAnswerI
          rw [if_pos ⟨dec_true hd, dec_true hd2, by simpa using he, by simpa using hb⟩]
          rfl
      · unfold allAnswerI
        rw [hd2, if_neg (fun hc => dec_false hd2 hc.2.1)]; rfl
  · unfold allAnswerI
    rw [hd, if_neg (fun hc => dec_false hd hc.1)]; rfl
theorem allAnswerI_is {net : List Int} (h : Ok net) {s p : Nat} (hs : s < 2 ^ net.length) (hp : p < net.length) (he : AllEternal net s) (hb : s.testBit p = false) :
    ∃ u : Nat, u < 2 ^ net.length ∧ allAnswerI net s p = (u : Int) ∧ u.testBit p = true ∧ AllMove net s u ∧ AllEternal net u := by
  have e1 : allAnswerI net s p = ansA net (lastsA net) s p := by
    unfold allAnswerI
    rw [if_pos ⟨⟨by omega, by have : (s : Int) < ((2 ^ net.length : Nat) : Int) := by omega
                              simpa using this⟩, ⟨by omega, by omega⟩, by rw [Int.toNat_natCast]; exact allEternalB_iff.2 he, by simpa using hb⟩]
    simp only [Int.toNat_natCast]
  rw [e1]
  rcases ansA_cases net (lastsA net) s p with ⟨_, hno⟩ | ⟨u, hu, hg, hP⟩
  · exfalso
    obtain ⟨u, a, b, c, d⟩ := allEternal_closed net s hs he p hp hb
    have := hno u a
    rw [ansAP_iff.2 ⟨by rw [lastsA_elb a]; exact allEternalB_iff.2 d, b, c⟩] at this
    cases this
  · obtain ⟨x, y, z⟩ := ansAP_iff.1 hP
    rw [lastsA_elb hu, allEternalB_iff] at x
    exact ⟨u, hu, hg, y, z, x⟩
end Go.Proofs.Ytgocpgkhbamkcaa
/- Draws of chapters 9 and 10. Conditions: those of each theorem. -/
namespace Go.Proofs.Ytgocpgkhbamkcaa
open D Go.RowKit
set_option linter.unusedVariables false
set_option linter.unusedSimpArgs false


theorem thin_in {net : List Int} {s n : Nat} (hs : s < 2 ^ n) : thin net s < 2 ^ n := by
  unfold thin
  generalize net.length = m
  have key : ∀ k, fold k (fun t j => thinStep net t (m - 1 - j)) s < 2 ^ n := by
    intro k
    induction k with
    | zero => exact hs
    | succ k ih => rw [fold_succ]; exact thinStep_lt ih
  exact key m
theorem S.l20Guarded_is {rb : List Int} {rp n : Int} (hb : Bytes rb) (hl : rb.length ≤ 2000) (h0 : 0 ≤ rp) (h1 : rp ≤ 1000000) :
    ∃ rp' net v, S.l20Guarded_t rb rp n = some (v, rb, rp', net) ∧ rp ≤ rp' ∧ rp' ≤ rp + 400 ∧ net.length ≤ 6 ∧ 0 ≤ v ∧ v < 128 := by
  unfold S.l20Guarded_t S.l20Guarded_tree
  obtain ⟨rp1, net, v, e1, a1, a2, a3, a4, a5⟩ := S.l20Set_is (n := n) hb hl h0 h1
  rw [e1]
  simp only [optC]
  rcases NetOk_cases net with ⟨h, g1, g2⟩ | ⟨_, g1, g2⟩
  · rw [g2]
    simp only [cond_true]
    obtain ⟨u, e2, b1, b2⟩ := S.l20Rd_pick_is (rp := rp1) (n := 4) hb hl (by omega) (by omega)
    rw [e2]
    simp only
    by_cases hu : 0 < u
    · have h64 := h.pow
      have hall := allOf_lt net
      rw [cnd_t (by rw [decide_eq_true_eq]; omega), all_shl h, S.ThinnedWatch_y h g2 (allOf_lt net) (W_all h)]
      simp only
      obtain ⟨w, rfl⟩ : ∃ w : Nat, v = w := ⟨v.toNat, by omega⟩
      have ht := thin_in (net := net) (allOf_lt net)
      have ha : w &&& allOf net < 64 := Nat.lt_of_le_of_lt Nat.and_le_right (by omega)
      have ho : thin net (allOf net) ||| (w &&& allOf net) < 2 ^ 6 := Nat.or_lt_two_pow (by omega) (by omega)
      rw [i64_and_nat _ _ (by omega) (by omega), i64_or_nat _ _ (by omega) (by omega)]
      exact ⟨_, _, _, rfl, by omega, by omega, a3, by omega, by omega⟩
    · rw [cnd_f (by rw [decide_eq_false_iff_not]; omega)]
      exact ⟨_, _, _, rfl, by omega, by omega, a3, a4, a5⟩
  · rw [g2]
    exact ⟨_, _, _, rfl, by omega, by omega, a3, a4, a5⟩
theorem S.DrawAllEternalOk_is {code : List Int} (hb : Bytes code) : ∃ (v : Nat) (net : List Int), S.DrawAllEternalOk_t code = some ((v : Int), net) ∧ net.length ≤ 6 ∧ v < 128 := by
  unfold S.DrawAllEternalOk_t S.DrawAllEternalOk_tree
  obtain ⟨rb, e1, h1, h2⟩ := S.l20Open_is hb
  rw [e1]
  simp only [optC]
  obtain ⟨rp', net, v, e2, _, _, h3, h4, h5⟩ := S.l20Guarded_is (n := 12) h1 h2 (Int.le_refl 0) (by decide)
  rw [e2]
  obtain ⟨w, rfl⟩ : ∃ w : Nat, v = w := ⟨v.toNat, by omega⟩
  exact ⟨_, _, rfl, h3, by omega⟩
theorem S.DrawAllAnswerOf_is {code : List Int} (hb : Bytes code) : ∃ (v q : Nat) (net : List Int), S.DrawAllAnswerOf_t code = some ((v : Int), (q : Int), net) ∧ net.length ≤ 6 ∧ v < 128 ∧ q ≤ 12 := by
  unfold S.DrawAllAnswerOf_t S.DrawAllAnswerOf_tree
  obtain ⟨rb, e1, h1, h2⟩ := S.l20Open_is hb
  rw [e1]
  simp only [optC]
  obtain ⟨rp', net, v, e2, a1, a2, h3, h4, h5⟩ := S.l20Guarded_is (n := 12) h1 h2 (Int.le_refl 0) (by decide)
  rw [e2]
  obtain ⟨w, rfl⟩ : ∃ w : Nat, v = w := ⟨v.toNat, by omega⟩
  simp only
  obtain ⟨x, e3, x1, x2⟩ := S.l20Rd_pick_is (rp := rp') (n := if 1 > (net.length : Int) then 1 else (net.length : Int)) h1 h2 (by omega) (by omega)
  have x3 : x < 7 := by
    have := x2 (by split <;> omega)
    split at this <;> omega
  rw [e3]
  simp only
  obtain ⟨y, e4, y1, y2⟩ := S.l20Rd_pick_is (rp := rp' + 1) (n := 40) h1 h2 (by omega) (by omega)
  have y3 := y2 (by decide)
  rw [e4]
  simp only
  obtain ⟨g, hg, hgl⟩ : ∃ g : Nat, IntKind.i64.wrap (x + IntKind.i64.wrap (IntKind.i64.wrap (y.tdiv 39) * 6)) = (g : Int) ∧ g ≤ 12 := by
    rcases tdiv_small (v := y) (a := 39) y1 (by omega) with hh | hh
    · rw [hh, i64_wrap (n := 0) (by decide) (by decide), i64_wrap (n := 0 * 6) (by decide) (by decide), i64_wrap (by omega) (by omega)]
      exact ⟨x.toNat, by omega, by omega⟩
    · rw [hh, i64_wrap (n := 1) (by decide) (by decide), i64_wrap (n := 1 * 6) (by decide) (by decide), i64_wrap (by omega) (by omega)]
      exact ⟨(x + 6).toNat, by omega, by omega⟩
  rw [hg]
  exact ⟨_, _, _, rfl, h3, by omega, hgl⟩
end Go.Proofs.Ytgocpgkhbamkcaa
/- Draws of rows, and of chapter 6's TotalOk. Conditions: those of each theorem. -/
namespace Go.Proofs.Ytgocpgkhbamkcaa
open D Go.RowKit
set_option linter.unusedVariables false
set_option linter.unusedSimpArgs false


theorem rowOf_len (net : List Int) (s : Nat) : (rowOf net s).length = net.length := by
  unfold rowOf
  generalize net.length = n
  induction n with
  | zero => rfl
  | succ n ih => rw [fold_succ, List.length_append, ih]; rfl
end Go.Proofs.Ytgocpgkhbamkcaa
/- GuardMoved in natural numbers. Conditions: those of each theorem. -/
namespace Go.Proofs.Ytgocpgkhbamkcaa
open D Go.RowKit
set_option linter.unusedVariables false
set_option linter.unusedSimpArgs false


def mayMove (net : List Int) (s f t : Nat) : Bool := s.testBit f && (!s.testBit t && (nb net f).testBit t)
def movedI (net : List Int) (s f t : Int) : Int := if (0 ≤ s ∧ s < 2 ^ net.length) ∧ (0 ≤ f ∧ f < net.length) ∧ (0 ≤ t ∧ t < net.length) ∧ mayMove net s.toNat f.toNat t.toNat = true then ((moved s.toNat f.toNat t.toNat : Nat) : Int) else -1
theorem movedI_nat {net : List Int} {s f t : Nat} (hs : s < 2 ^ net.length) (hf : f < net.length) (ht : t < net.length) : movedI net s f t = if mayMove net s f t = true then ((moved s f t : Nat) : Int) else -1 := by
  unfold movedI
  simp only [Int.toNat_natCast]
  cases mayMove net s f t with
  | true => rw [if_pos ⟨⟨by omega, by rw [two_pow_cast]; omega⟩, ⟨by omega, by omega⟩, ⟨by omega, by omega⟩, rfl⟩, if_pos rfl]
  | false => rw [if_neg (fun hc => by have := hc.2.2.2; simp at this), if_neg (by simp)]
end Go.Proofs.Ytgocpgkhbamkcaa
/- Trees of wires: the places with one wire, and the sets that stand together, make all places. Conditions: those of each theorem. -/
namespace Go.Proofs.Ytgocpgkhbamkcaa
set_option linter.unusedVariables false
set_option linter.unusedSimpArgs false

/-- A net of some of the wires. -/
structure Sub (net t : List Int) : Prop where
  ok : Ok t
  len : t.length = net.length
  sub : ∀ k j, k < net.length → (nb t k).testBit j = true → (nb net k).testBit j = true
/-- A tree: one part, of as few wires as can be. -/
structure Tree (net t : List Int) : Prop where
  sub : Sub net t
  one : parts t = 1
  wires_ : wires t + 1 = net.length
/-- How many places have one wire alone. -/
def leafs (t : List Int) : Nat := cnt t.length (fun k => size (nb t k) == 1)
theorem sub_one {net t : List Int} (h : Ok net) (ht : Sub net t) (h1 : parts t = 1) : parts net = 1 := by
  rw [one_part h]
  intro j k hj hk
  have hr := (ht.ok.comp_testBit (by rw [ht.len]; exact hj) k).1 ((one_part ht.ok).1 h1 j k (by rw [ht.len]; exact hj) (by rw [ht.len]; exact hk))
  refine (h.comp_testBit hj k).2 ?_
  clear hk
  induction hr with
  | here ha => exact .here (by rw [allOf_testBit]; simpa using hj)
  | @step a b _ hl hn ha ih =>
    have hl' : a < net.length := by rw [← ht.len]; exact hl
    have := ht.sub _ _ hl' hn
    exact .step ih hl' this (by rw [allOf_testBit]; simpa using h.nb_lt hl' this)
/-- In one part of two places or more each place has a wire. -/
theorem one_deg {t : List Int} (h : Ok t) (h1 : parts t = 1) (h2 : 2 ≤ t.length) {k : Nat} (hk : k < t.length) : 1 ≤ size (nb t k) := by
  have h6 := h.hi
  have hne : nb t k ≠ 0 := fun h0 => by
    have hc := (comp_alone h hk).2 h0
    have : ∃ j, j < t.length ∧ j ≠ k := by
      by_cases hk0 : k = 0
      · exact ⟨1, by omega, by omega⟩
      · exact ⟨0, by omega, by omega⟩
    obtain ⟨j, hj, hjk⟩ := this
    have := (one_part h).1 h1 k j hk hj
    rw [hc, testBit_pow] at this
    simp at this; omega
  obtain ⟨j, hj⟩ := pos_iff.1 hne
  have := h.nb_lt hk hj
  exact size_pos (h.lt64 hk) (by omega) hj
/-- A tree of two places or more has two leaves. -/
theorem leafs_two {net t : List Int} (ht : Tree net t) (h2 : 2 ≤ net.length) : 2 ≤ leafs t := by
  have hl := ht.sub.len
  have hw := ends_wires ht.sub.ok
  have h1 : 2 * t.length ≤ ends t + leafs t := by
    unfold ends leafs cnt
    rw [← sumN_add, show 2 * t.length = sumN t.length (fun _ => 2) by rw [sumN_const]; omega]
    refine sumN_le fun k hk => ?_
    have := one_deg ht.sub.ok ht.one (by omega) hk
    show 2 ≤ size (nb t k) + (size (nb t k) == 1).toNat
    by_cases h1 : size (nb t k) = 1
    · simp [h1]
    · have : (size (nb t k) == 1) = false := by simpa using h1
      rw [this]; simp; omega
  have := ht.wires_
  omega
/-- The places with more than one wire. -/
def inner (t : List Int) : Nat := orN t.length (fun k => !(size (nb t k) == 1)) (fun k => 2 ^ k)
theorem inner_testBit (t : List Int) (j : Nat) : (inner t).testBit j = true ↔ j < t.length ∧ size (nb t j) ≠ 1 := by
  unfold inner
  rw [orN_testBit]
  constructor
  · rintro ⟨k, hk, a, b⟩
    rw [testBit_pow, decide_eq_true_eq] at b
    subst b
    exact ⟨hk, by simpa using a⟩
  · rintro ⟨a, b⟩
    exact ⟨j, a, by simpa using b, by rw [testBit_pow]; simp⟩
theorem inner_lt (t : List Int) : inner t < 2 ^ t.length := orN_lt fun k hk _ => Nat.pow_lt_pow_right (by omega) hk
theorem inner_size {t : List Int} (h : Ok t) : size (inner t) + leafs t = t.length := by
  rw [size_cnt h (inner_lt t)]
  have := cnt_not t.length (fun k => size (nb t k) == 1)
  have e : cnt t.length (fun k => (inner t).testBit k) = cnt t.length (fun k => !(size (nb t k) == 1)) := cnt_congr fun k hk => by
    rw [Bool.eq_iff_iff, inner_testBit]
    constructor
    · rintro ⟨_, b⟩; simpa using b
    · intro b; exact ⟨hk, by simpa using b⟩
  rw [e]; unfold leafs; omega
theorem bits_one (s : Nat) (hs : s < 64) (i : Nat) (hi6 : i < 6) (j : Nat) (hj6 : j < 6) (hz : size s = 1) (hi : s.testBit i = true) (hj : s.testBit j = true) : i = j := by
  refine Classical.byContradiction fun hne => ?_
  have h1 := bits_sub s hs i hi6 hi
  have h2 : (s - 2 ^ i).testBit j = true := by rw [sub_testBit hs hi6 hi, hj]; simp; omega
  have := size_pos h1.1 hj6 h2
  omega
/-- What is not a leaf stands together and watches, in one part of three places or more. -/
theorem inner_joined {net t : List Int} (h : Ok net) (ht : Sub net t) (h1 : parts t = 1) (h3 : 3 ≤ net.length) : Together net (inner t) ∧ W net (inner t) = true := by
  have hO := ht.ok
  have hl := ht.len
  have h6 := h.hi
  have only : ∀ {k i j : Nat}, k < t.length → size (nb t k) = 1 → (nb t k).testBit i = true → (nb t k).testBit j = true → i = j := fun {k i j} hk hz hi hj =>
    bits_one _ (hO.lt64 hk) i (by have := hO.nb_lt hk hi; omega) j (by have := hO.nb_lt hk hj; omega) hz hi hj
  have hone := (one_part hO).1 h1
  -- a closed set has all places
  have closed : ∀ (A : Nat) (i : Nat), i < t.length → A.testBit i = true → (∀ x y, A.testBit x = true → x < t.length → (nb t x).testBit y = true → A.testBit y = true) → ∀ j, j < t.length → A.testBit j = true := by
    intro A i hi hA hcl j hj
    have hr := (hO.comp_testBit hi j).1 (hone i j hi hj)
    clear hj
    induction hr with
    | here _ => exact hA
    | step _ hx hn _ ih => exact hcl _ _ ih hx hn
  -- the neighbour of a leaf is none
  have nbr : ∀ {k j : Nat}, k < t.length → size (nb t k) = 1 → (nb t k).testBit j = true → (inner t).testBit j = true := by
    intro k j hk hz hj
    have hjl := hO.nb_lt hk hj
    refine (inner_testBit t j).2 ⟨hjl, fun hz2 => ?_⟩
    have hjk : (nb t j).testBit k = true := by rw [hO.sym k j hk hjl]; exact hj
    -- both alone: the two would be all places
    have hall := closed (2 ^ k ||| 2 ^ j) k hk ((or2 _ _ _).2 (.inl (by rw [testBit_pow]; simp))) (fun x y hx hxl hy => by
      rw [or2, testBit_pow, testBit_pow, decide_eq_true_eq, decide_eq_true_eq] at hx
      rw [or2, testBit_pow, testBit_pow, decide_eq_true_eq, decide_eq_true_eq]
      rcases hx with rfl | rfl
      · exact .inr (only hxl hz hj hy)
      · exact .inl (only hxl hz2 hjk hy))
    have : ∃ m, m < t.length ∧ m ≠ k ∧ m ≠ j := by
      refine Classical.byContradiction fun hc => ?_
      have h0 : ∀ m, m < t.length → m = k ∨ m = j := fun m hm => Classical.byContradiction fun hx => hc ⟨m, hm, fun he => hx (.inl he), fun he => hx (.inr he)⟩
      have a0 := h0 0 (by omega)
      have a1 := h0 1 (by omega)
      have a2 := h0 2 (by omega)
      omega
    obtain ⟨m, hm, n1, n2⟩ := this
    have := hall m hm
    rw [or2, testBit_pow, testBit_pow, decide_eq_true_eq, decide_eq_true_eq] at this
    omega
  have hil : inner t < 2 ^ net.length := by rw [← hl]; exact inner_lt t
  -- there is one
  have hex : ∃ i, (inner t).testBit i = true := by
    by_cases hz : size (nb t 0) = 1
    · have hne : nb t 0 ≠ 0 := fun h0 => by rw [h0] at hz; exact absurd hz (by decide)
      obtain ⟨j, hj⟩ := pos_iff.1 hne
      exact ⟨j, nbr (by omega) hz hj⟩
    · exact ⟨0, (inner_testBit t 0).2 ⟨by omega, hz⟩⟩
  obtain ⟨i, hi⟩ := hex
  have hit := ((inner_testBit t i).1 hi).1
  have hin : i < net.length := by omega
  constructor
  · refine together_of h hil hi fun j hj => ?_
    have hjt := ((inner_testBit t j).1 hj).1
    -- what is reached within, and the leaves beside it
    let C := part net (inner t) i
    have hC : ∀ x, C.testBit x = true ↔ Reach net (inner t) i x := fun x => h.part_testBit hin x
    let A := C ||| orN t.length (fun k => (size (nb t k) == 1) && ((nb t k &&& C) != 0)) (fun k => 2 ^ k)
    have hA : ∀ x, A.testBit x = true ↔ C.testBit x = true ∨ (x < t.length ∧ size (nb t x) = 1 ∧ ∃ c, (nb t x).testBit c = true ∧ C.testBit c = true) := fun x => by
      show (C ||| _).testBit x = true ↔ _
      rw [or2, orN_testBit]
      constructor
      · rintro (a | ⟨k, hk, a, b⟩)
        · exact .inl a
        · rw [testBit_pow, decide_eq_true_eq] at b
          subst b
          rw [Bool.and_eq_true, beq_iff_eq, bne_iff_ne] at a
          obtain ⟨c, hc⟩ := pos_iff.1 a.2
          rw [Nat.testBit_and, Bool.and_eq_true] at hc
          exact .inr ⟨hk, a.1, c, hc.1, hc.2⟩
      · rintro (a | ⟨hk, a, c, hc1, hc2⟩)
        · exact .inl a
        · refine .inr ⟨x, hk, ?_, by rw [testBit_pow]; simp⟩
          rw [Bool.and_eq_true, beq_iff_eq, bne_iff_ne]
          exact ⟨a, pos_iff.2 ⟨c, by rw [Nat.testBit_and, hc1, hc2]; rfl⟩⟩
    have hall := closed A i hit ((hA i).2 (.inl ((hC i).2 (.here hi)))) (fun x y hx hxl hy => by
      have hyl := hO.nb_lt hxl hy
      rcases (hA x).1 hx with hx | ⟨_, hz, c, hc1, hc2⟩
      · by_cases hzy : size (nb t y) = 1
        · exact (hA y).2 (.inr ⟨hyl, hzy, x, by rw [hO.sym x y hxl hyl]; exact hy, hx⟩)
        · have hyi := (inner_testBit t y).2 ⟨hyl, hzy⟩
          have hxn : x < net.length := by omega
          exact (hA y).2 (.inl ((hC y).2 (.step ((hC x).1 hx) hxn (ht.sub x y hxn hy) hyi)))
      · have := only hxl hz hc1 hy
        rw [← this]
        exact (hA c).2 (.inl hc2))
    rcases (hA j).1 (hall j hjt) with a | ⟨_, hz, _⟩
    · exact (hC j).1 a
    · exact absurd hz ((inner_testBit t j).1 hj).2
  · refine (W_iff h hil).2 fun j hj => (seen_iff h _ hj).2 ?_
    have hjt : j < t.length := by omega
    by_cases hz : size (nb t j) = 1
    · right
      have hne : nb t j ≠ 0 := fun h0 => by rw [h0] at hz; exact absurd hz (by decide)
      obtain ⟨c, hc⟩ := pos_iff.1 hne
      have := hO.nb_lt hjt hc
      exact ⟨c, by omega, nbr hjt hz hc, ht.sub j c hj hc⟩
    · exact .inl ((inner_testBit t j).2 ⟨hjt, hz⟩)

/-! ### A tree over a joined watch -/
/-- After m steps from r within a set. -/
theorem steps_lvl {net : List Int} (h : Ok net) {s r : Nat} (hs : s < 2 ^ net.length) (hr : s.testBit r = true) (hT : Together net s) : ∃ lv : Nat → Nat, ∃ p : Nat → Nat, lv r = 0 ∧ ∀ v, s.testBit v = true → v ≠ r → s.testBit (p v) = true ∧ (nb net v).testBit (p v) = true ∧ lv (p v) < lv v ∧ lv v ≤ 6 := by
  have hrl := in_lt hs hr
  have h6 := h.hi
  have e0 : 2 ^ r &&& s = 2 ^ r := Nat.eq_of_testBit_eq fun j => by
    rw [Nat.testBit_and, testBit_pow]
    by_cases hxj : r = j
    · rw [← hxj, hr]; simp
    · simp [hxj]
  let L := fun m k => (steps net s m (2 ^ r)).testBit k
  have mono1 : ∀ m k, L m k = true → L (m + 1) k = true := fun m k hk => (grow_testBit _ _ _ _).2 (.inl hk)
  have mono : ∀ m m' k, m ≤ m' → L m k = true → L m' k = true := by
    intro m m' k hm hk
    induction m' with
    | zero => obtain rfl : m = 0 := by omega
              exact hk
    | succ m' ih =>
      by_cases he : m = m' + 1
      · rw [← he]; exact hk
      · exact mono1 m' k (ih (by omega))
  let lv := fun k => cnt 6 (fun m => !L m k)
  have six : ∀ v, s.testBit v = true → L 6 v = true := fun v hv => by
    have hx : (part net s r).testBit v = true := (h.part_testBit hrl v).2 (hT.2 r v hr hv)
    unfold part at hx
    rw [e0] at hx
    exact hx
  have hp : ∀ v, ∃ j, s.testBit v = true → v ≠ r → s.testBit j = true ∧ (nb net v).testBit j = true ∧ lv j < lv v := fun v => by
    by_cases hv : s.testBit v = true ∧ v ≠ r
    · have h0 : L 0 v = false := by
        show (2 ^ r).testBit v = false
        rw [testBit_pow]; simp; exact fun he => hv.2 he.symm
      have hex : ∀ m, m ≤ 6 → L m v = true → ∃ q, q < m ∧ L q v = false ∧ L (q + 1) v = true := by
        intro m
        induction m with
        | zero => intro _ hb; rw [h0] at hb; cases hb
        | succ m ih =>
          intro hm hb
          cases hc : L m v with
          | false => exact ⟨m, by omega, hc, hb⟩
          | true => obtain ⟨q, a, b⟩ := ih (by omega) hc; exact ⟨q, by omega, b⟩
      obtain ⟨q, hq, hqf, hqt⟩ := hex 6 (Nat.le_refl _) (six v hv.1)
      rcases (grow_testBit _ _ _ _).1 hqt with c1 | ⟨⟨j, hj, c1, c2⟩, _⟩
      · have : L q v = true := c1
        rw [hqf] at this; cases this
      · have hjs : s.testBit j = true := by
          have := steps_reach (net := net) (A := s) (i := r) q (j := j) (by rw [e0]; exact c1)
          exact this.among.2
        have hvl := in_lt hs hv.1
        refine ⟨j, fun _ _ => ⟨hjs, by rw [h.sym j v hj hvl]; exact c2, ?_⟩⟩
        have hjl : L q j = true := c1
        have h1 : lv j ≤ q := by
          have := cnt_mono (n := 6) (p := fun m => !L m j) (q := fun i => decide (i < q)) (fun m hm hp => by
            have hp' : L m j = false := by simpa using hp
            rw [decide_eq_true_eq]
            refine Classical.byContradiction fun hc => ?_
            rw [mono q m j (by omega) hjl] at hp'; cases hp')
          rw [cnt_below 6 q (by omega)] at this
          exact this
        have h2 : q + 1 ≤ lv v := by
          have := cnt_mono (n := 6) (p := fun i => decide (i < q + 1)) (q := fun m => !L m v) (fun m hm hp => by
            have hp' : m < q + 1 := by simpa using hp
            cases hx : L m v with
            | false => rfl
            | true => rw [mono m q v (by omega) hx] at hqf; cases hqf)
          rw [cnt_below 6 (q + 1) (by omega)] at this
          exact this
        omega
    · exact ⟨0, fun a b => absurd ⟨a, b⟩ hv⟩
  refine ⟨lv, fun v => Classical.choose (hp v), ?_, fun v hv hne => ?_⟩
  · show cnt 6 (fun m => !L m r) = 0
    have : cnt 6 (fun m => !L m r) = cnt 6 (fun _ => false) := cnt_congr fun m _ => by
      have : L m r = true := mono 0 m r (by omega) (by show (2 ^ r).testBit r = true; rw [testBit_pow]; simp)
      rw [this]; rfl
    rw [this]; rfl
  · obtain ⟨a, b, c⟩ := Classical.choose_spec (hp v) hv hne
    exact ⟨a, b, c, cnt_le _ _⟩
/-- The net of the wires from each place but r to its parent. -/
def treeOf (n r : Nat) (p : Nat → Nat) : List Int := (List.range n).map fun k => ((orN n (fun j => (!(k == r) && (p k == j)) || (!(j == r) && (p j == k))) (fun j => 2 ^ j) : Nat) : Int)
theorem treeOf_len (n r : Nat) (p : Nat → Nat) : (treeOf n r p).length = n := by simp [treeOf]
theorem treeOf_nb {n r k : Nat} {p : Nat → Nat} (hk : k < n) : nb (treeOf n r p) k = orN n (fun j => (!(k == r) && (p k == j)) || (!(j == r) && (p j == k))) (fun j => 2 ^ j) := by
  unfold nb el treeOf
  simp [List.getD, hk]
theorem treeOf_bit {n r k j : Nat} {p : Nat → Nat} (hk : k < n) : (nb (treeOf n r p) k).testBit j = true ↔ j < n ∧ ((k ≠ r ∧ p k = j) ∨ (j ≠ r ∧ p j = k)) := by
  rw [treeOf_nb hk, orN_testBit]
  constructor
  · rintro ⟨i, hi, a, b⟩
    rw [testBit_pow, decide_eq_true_eq] at b
    subst b
    refine ⟨hi, ?_⟩
    simpa using a
  · rintro ⟨a, b⟩
    exact ⟨j, a, by simpa using b, by rw [testBit_pow]; simp⟩
theorem tree_over {net : List Int} (h : Ok net) {s : Nat} (hs : s < 2 ^ net.length) (hT : Together net s) (hw : W net s = true) : ∃ t, Tree net t ∧ net.length - size s ≤ leafs t := by
  have h6 := h.hi
  obtain ⟨r, hr⟩ := pos_iff.1 hT.1
  have hrl := in_lt hs hr
  obtain ⟨lv, p, hlr, hp⟩ := steps_lvl h hs hr hT
  -- parents of all places
  have hq : ∀ v, ∃ j, v < net.length → v ≠ r → s.testBit j = true ∧ (nb net v).testBit j = true ∧ (s.testBit v = true → lv j < lv v) := fun v => by
    by_cases hv : v < net.length
    · cases hb : s.testBit v with
      | true =>
        by_cases hne : v = r
        · exact ⟨0, fun _ hh => absurd hne hh⟩
        · obtain ⟨a, b, c, _⟩ := hp v hb hne
          exact ⟨p v, fun _ _ => ⟨a, b, fun _ => c⟩⟩
      | false =>
        rcases (seen_iff h s hv).1 ((W_iff h hs).1 hw v hv) with x | ⟨i, _, x, y⟩
        · rw [hb] at x; cases x
        · exact ⟨i, fun _ _ => ⟨x, y, fun hh => by cases hh⟩⟩
    · exact ⟨0, fun hh => absurd hh hv⟩
  have hPex : ∃ P : Nat → Nat, ∀ v, v < net.length → v ≠ r → s.testBit (P v) = true ∧ (nb net v).testBit (P v) = true ∧ (s.testBit v = true → lv (P v) < lv v) := ⟨fun v => Classical.choose (hq v), fun v => Classical.choose_spec (hq v)⟩
  obtain ⟨P, hP⟩ := hPex
  have hPl : ∀ v, v < net.length → v ≠ r → P v < net.length := fun v hv hne => in_lt hs (hP v hv hne).1
  -- no two are each other's parents
  have hnot : ∀ k j, k < net.length → j < net.length → k ≠ r → j ≠ r → P k = j → P j = k → False := fun k j hk hj hkr hjr h1 h2 => by
    obtain ⟨a, _, c⟩ := hP k hk hkr
    obtain ⟨d, _, f⟩ := hP j hj hjr
    rw [h1] at a c
    rw [h2] at d f
    have := c d
    have := f a
    omega
  let t := treeOf net.length r P
  have hlen : t.length = net.length := treeOf_len _ _ _
  have hbit : ∀ {k j : Nat}, k < net.length → ((nb t k).testBit j = true ↔ j < net.length ∧ ((k ≠ r ∧ P k = j) ∨ (j ≠ r ∧ P j = k))) := fun hk => treeOf_bit hk
  have hOk : Ok t := by
    refine ⟨by rw [hlen]; exact h.lo, by rw [hlen]; exact h.hi, fun k hk => ?_, fun k hk => ?_, fun j k hj hk => ?_, fun k hk => ?_⟩
    · show el (treeOf net.length r P) k = _
      have hk' : k < net.length := by rw [← hlen]; exact hk
      have := treeOf_nb (r := r) (p := P) hk'
      show _ = ((nb (treeOf net.length r P) k : Nat) : Int)
      rw [this]
      unfold el treeOf
      simp [List.getD, hk']
    · have hk' : k < net.length := by rw [← hlen]; exact hk
      show nb (treeOf net.length r P) k < _
      rw [treeOf_nb hk', hlen]
      exact orN_lt fun j hj _ => Nat.pow_lt_pow_right (by omega) hj
    · rw [hlen] at hj hk
      rw [Bool.eq_iff_iff, hbit hk, hbit hj]
      constructor
      · rintro ⟨_, a | a⟩
        · exact ⟨hk, .inr a⟩
        · exact ⟨hk, .inl a⟩
      · rintro ⟨_, a | a⟩
        · exact ⟨hj, .inr a⟩
        · exact ⟨hj, .inl a⟩
    · rw [hlen] at hk
      refine not_true fun hc => ?_
      obtain ⟨_, a | a⟩ := (hbit hk).1 hc
      · have := (hP k hk a.1).2.1
        rw [a.2, h.irr k hk] at this; cases this
      · have := (hP k hk a.1).2.1
        rw [a.2, h.irr k hk] at this; cases this
  have hSub : Sub net t := by
    refine ⟨hOk, hlen, fun k j hk hj => ?_⟩
    obtain ⟨hjl, a | a⟩ := (hbit hk).1 hj
    · have := (hP k hk a.1).2.1
      rw [a.2] at this; exact this
    · have := (hP j hjl a.1).2.1
      rw [a.2, h.sym k j hk hjl] at this; exact this
  -- one part: each place comes to r
  have reach : ∀ m v, v < net.length → (if s.testBit v = true then lv v else 7) ≤ m → Reach t (allOf t) r v := by
    intro m
    induction m with
    | zero =>
      intro v hv hm
      cases hb : s.testBit v with
      | false => rw [hb] at hm; simp at hm
      | true =>
        rw [hb, if_pos rfl] at hm
        by_cases hvr : v = r
        · rw [hvr]; exact .here (by rw [allOf_testBit, hlen]; simpa using hrl)
        · have := (hP v hv hvr).2.2 hb; omega
    | succ m ih =>
      intro v hv hm
      by_cases hvr : v = r
      · rw [hvr]; exact .here (by rw [allOf_testBit, hlen]; simpa using hrl)
      · obtain ⟨a, b, c⟩ := hP v hv hvr
        have hpl := hPl v hv hvr
        have hle : (if s.testBit (P v) = true then lv (P v) else 7) ≤ m := by
          rw [if_pos a]
          cases hb : s.testBit v with
          | true => have := c hb; rw [hb, if_pos rfl] at hm; omega
          | false =>
            rw [hb] at hm
            simp at hm
            by_cases hpr : P v = r
            · rw [hpr, hlr]; omega
            · obtain ⟨_, _, _, h6'⟩ := hp (P v) a hpr
              omega
        exact .step (ih (P v) hpl hle) (by rw [hlen]; exact hpl) ((hbit hpl).2 ⟨hv, .inr ⟨hvr, rfl⟩⟩) (by rw [allOf_testBit, hlen]; simpa using hv)
  have hone : parts t = 1 := by
    rw [one_part hOk]
    intro j k hj hk
    rw [hlen] at hj hk
    refine (hOk.comp_testBit (by rw [hlen]; exact hj) k).2 ?_
    have a := reach _ j hj (Nat.le_refl _)
    have b := reach _ k hk (Nat.le_refl _)
    exact (a.symm hOk (by rw [hlen]; exact hrl)).trans b
  -- as many wires as places but one
  have hends : ends t = 2 * (net.length - 1) := by
    rw [ends_is hOk, hlen]
    have e1 : sumN net.length (fun k => sumN net.length (fun j => ((nb t k).testBit j).toNat)) = sumN net.length (fun k => sumN net.length (fun j => (decide (k ≠ r ∧ P k = j)).toNat)) + sumN net.length (fun k => sumN net.length (fun j => (decide (j ≠ r ∧ P j = k)).toNat)) := by
      rw [← sumN_add]
      refine sumN_congr fun k hk => ?_
      rw [← sumN_add]
      refine sumN_congr fun j hj => ?_
      have hb := hbit (j := j) hk
      by_cases h1 : k ≠ r ∧ P k = j
      · by_cases h2 : j ≠ r ∧ P j = k
        · exact (hnot k j hk hj h1.1 h2.1 h1.2 h2.2).elim
        · rw [hb.2 ⟨hj, .inl h1⟩, decide_eq_true h1, decide_eq_false h2]; rfl
      · by_cases h2 : j ≠ r ∧ P j = k
        · rw [hb.2 ⟨hj, .inr h2⟩, decide_eq_false h1, decide_eq_true h2]; rfl
        · have : (nb t k).testBit j = false := not_true fun hc => by
            rcases (hb.1 hc).2 with a | a
            · exact h1 a
            · exact h2 a
          rw [this, decide_eq_false h1, decide_eq_false h2]; rfl
    have e2 : sumN net.length (fun k => sumN net.length (fun j => (decide (k ≠ r ∧ P k = j)).toNat)) = net.length - 1 := by
      have e3 : sumN net.length (fun k => sumN net.length (fun j => (decide (k ≠ r ∧ P k = j)).toNat)) = cnt net.length (fun k => !(k == r)) := by
        refine sumN_congr fun k hk => ?_
        by_cases hkr : k = r
        · rw [sumN_congr (g := fun _ => 0) (fun j _ => by simp [hkr]), sumN_zero]; simp [hkr]
        · rw [sumN_one (k := P k) (hPl k hk hkr) (fun j _ hj => by rw [decide_eq_false (fun hc => hj hc.2.symm)]; rfl)]
          show (decide (k ≠ r ∧ P k = P k)).toNat = (!(k == r)).toNat
          rw [decide_eq_true (⟨hkr, rfl⟩ : k ≠ r ∧ P k = P k), show (k == r) = false by simpa using hkr]
          rfl
      have e4 := cnt_not net.length (fun k => k == r)
      have e5 : cnt net.length (fun k => k == r) = 1 := by
        show sumN net.length (fun k => (k == r).toNat) = 1
        rw [sumN_one (k := r) hrl (fun j _ hj => by simp [hj])]
        simp
      omega
    have e6 : sumN net.length (fun k => sumN net.length (fun j => (decide (j ≠ r ∧ P j = k)).toNat)) = sumN net.length (fun k => sumN net.length (fun j => (decide (k ≠ r ∧ P k = j)).toNat)) := by
      rw [sumN_swap]
    rw [e1, e6, e2]; omega
  have hwt := ends_wires hOk
  have hlo := h.lo
  refine ⟨t, ⟨hSub, hone, by omega⟩, ?_⟩
  -- the places outside are leaves
  rw [size_cnt h hs]
  have hn := cnt_not net.length (fun k => s.testBit k)
  have : cnt net.length (fun k => !s.testBit k) ≤ leafs t := by
    unfold leafs
    rw [hlen]
    refine cnt_mono fun k hk hb => ?_
    have hkr : k ≠ r := fun he => by rw [he, hr] at hb; cases hb
    have hkb : s.testBit k = false := by simpa using hb
    rw [beq_iff_eq, size_cnt hOk (hOk.lt k (by rw [hlen]; exact hk)), hlen]
    show sumN net.length (fun j => ((nb t k).testBit j).toNat) = 1
    rw [sumN_one (k := P k) (hPl k hk hkr) (fun j hj hne => ?_), (hbit hk).2 ⟨hPl k hk hkr, .inl ⟨hkr, rfl⟩⟩]
    · rfl
    · have : (nb t k).testBit j = false := not_true fun hc => by
        rcases ((hbit hk).1 hc).2 with a | a
        · exact hne a.2.symm
        · have := (hP j hj a.1).1
          rw [a.2, hkb] at this; cases this
      rw [this]; rfl
  omega
end Go.Proofs.Ytgocpgkhbamkcaa
/- All guards move over a joined watch: one more guard than stand together. Conditions: those of each theorem. -/
namespace Go.Proofs.Ytgocpgkhbamkcaa
set_option linter.unusedVariables false
set_option linter.unusedSimpArgs false

/-- The way from a towards r by parents. -/
def wayTo (p : Nat → Nat) (r a : Nat) : Nat → Nat
  | 0 => a
  | i + 1 => if wayTo p r a i = r then r else p (wayTo p r a i)
theorem shift {net : List Int} (h : Ok net) {s : Nat} (hs : s < 2 ^ net.length) (hT : Together net s) {v w a b : Nat} (hv : v < net.length) (hvs : s.testBit v = false) (hw : w < net.length) (hws : s.testBit w = false)
    (ha : s.testBit a = true) (hva : (nb net v).testBit a = true) (hb : s.testBit b = true) (hbw : (nb net b).testBit w = true) : AllMove net (s ||| 2 ^ v) (s ||| 2 ^ w) := by
  have h6 := h.hi
  obtain ⟨lv, p, hl0, hp⟩ := steps_lvl h hs hb hT
  let q := wayTo p b a
  have q0 : q 0 = a := rfl
  have qs : ∀ i, q (i + 1) = if q i = b then b else p (q i) := fun i => rfl
  have qin : ∀ i, s.testBit (q i) = true := by
    intro i
    induction i with
    | zero => exact ha
    | succ i ih =>
      rw [qs]
      split
      · exact hb
      · rename_i hne; exact (hp _ ih hne).1
  have qlv : ∀ i, lv (q (i + 1)) ≤ lv (q i) := fun i => by
    rw [qs]
    split
    · rw [hl0]; exact Nat.zero_le _
    · rename_i hne; exact Nat.le_of_lt (hp _ (qin i) hne).2.2.1
  have qmono : ∀ i j, i ≤ j → lv (q j) ≤ lv (q i) := by
    intro i j hij
    induction j with
    | zero => obtain rfl : i = 0 := by omega
              exact Nat.le_refl _
    | succ j ih =>
      by_cases he : i = j + 1
      · rw [he]; exact Nat.le_refl _
      · exact Nat.le_trans (qlv j) (ih (by omega))
  have hvb : ∀ x, (s ||| 2 ^ v).testBit x = true ↔ s.testBit x = true ∨ x = v := fun x => or_testBit _ _ _
  have hwb : ∀ x, (s ||| 2 ^ w).testBit x = true ↔ s.testBit x = true ∨ x = w := fun x => or_testBit _ _ _
  -- on the way or not
  let f : Nat → Nat := fun x => if x = v then a else @ite _ (∃ i, q i = x) (Classical.propDecidable _) (if x = b then w else p x) x
  have f1 : ∀ x, x = v → f x = a := fun x hx => by show (if x = v then _ else _) = _; rw [if_pos hx]
  have f2 : ∀ x, x ≠ v → (∃ i, q i = x) → x = b → f x = w := fun x hx hi he => by show (if x = v then _ else _) = _; rw [if_neg hx, if_pos hi, if_pos he]
  have f3 : ∀ x, x ≠ v → (∃ i, q i = x) → x ≠ b → f x = p x := fun x hx hi he => by show (if x = v then _ else _) = _; rw [if_neg hx, if_pos hi, if_neg he]
  have f4 : ∀ x, x ≠ v → (¬ ∃ i, q i = x) → f x = x := fun x hx hi => by show (if x = v then _ else _) = _; rw [if_neg hx, if_neg hi]
  have sv : ∀ x, s.testBit x = true → x ≠ v := fun x hx he => by rw [he, hvs] at hx; cases hx
  have sw : ∀ x, s.testBit x = true → x ≠ w := fun x hx he => by rw [he, hws] at hx; cases hx
  have pway : ∀ x, (∃ i, q i = x) → x ≠ b → ∃ i, q i = p x := fun x ⟨i, hi⟩ hne => ⟨i + 1, by rw [qs, hi, if_neg hne]⟩
  refine ⟨?_, f, fun x hx => ?_, fun x y hx hy he => ?_⟩
  · rw [size_add (lt64 h hs) (by omega) hvs, size_add (lt64 h hs) (by omega) hws]
  · rcases (hvb x).1 hx with hx | hx
    · by_cases hi : ∃ i, q i = x
      · by_cases hxb : x = b
        · rw [f2 x (sv x hx) hi hxb, hxb]
          exact ⟨(hwb w).2 (.inr rfl), (ball_testBit _ _ _).2 (.inl hbw)⟩
        · rw [f3 x (sv x hx) hi hxb]
          obtain ⟨c, d, _⟩ := hp x hx hxb
          exact ⟨(hwb _).2 (.inl c), (ball_testBit _ _ _).2 (.inl d)⟩
      · rw [f4 x (sv x hx) hi]
        exact ⟨(hwb x).2 (.inl hx), sees_self net x⟩
    · rw [f1 x hx, hx]
      exact ⟨(hwb a).2 (.inl ha), (ball_testBit _ _ _).2 (.inl hva)⟩
  · -- no two go to one place
    have key : ∀ x y, s.testBit x = true → s.testBit y = true → f x = f y → x = y := by
      intro x y hx hy he
      by_cases hi : ∃ i, q i = x
      · by_cases hxb : x = b
        · rw [f2 x (sv x hx) hi hxb] at he
          by_cases hj : ∃ i, q i = y
          · by_cases hyb : y = b
            · rw [hxb, hyb]
            · rw [f3 y (sv y hy) hj hyb] at he
              exact absurd he.symm (sw _ (hp y hy hyb).1)
          · rw [f4 y (sv y hy) hj] at he
            exact absurd he.symm (sw _ hy)
        · rw [f3 x (sv x hx) hi hxb] at he
          by_cases hj : ∃ i, q i = y
          · by_cases hyb : y = b
            · rw [f2 y (sv y hy) hj hyb] at he
              exact absurd he (sw _ (hp x hx hxb).1)
            · rw [f3 y (sv y hy) hj hyb] at he
              obtain ⟨i, hi⟩ := hi
              obtain ⟨j, hj⟩ := hj
              have e1 : q (i + 1) = p x := by rw [qs, hi, if_neg hxb]
              have e2 : q (j + 1) = p y := by rw [qs, hj, if_neg hyb]
              have l1 := (hp x hx hxb).2.2.1
              have l2 := (hp y hy hyb).2.2.1
              rcases Nat.lt_trichotomy i j with hlt | heq | hgt
              · have := qmono (i + 1) j (by omega)
                rw [e1, hj, he] at this; omega
              · rw [← hi, ← hj, heq]
              · have := qmono (j + 1) i (by omega)
                rw [e2, hi, ← he] at this; omega
          · rw [f4 y (sv y hy) hj] at he
            exact absurd (he ▸ pway x hi hxb) hj
      · rw [f4 x (sv x hx) hi] at he
        by_cases hj : ∃ i, q i = y
        · by_cases hyb : y = b
          · rw [f2 y (sv y hy) hj hyb] at he
            exact absurd he (sw _ hx)
          · rw [f3 y (sv y hy) hj hyb] at he
            exact absurd (he ▸ pway y hj hyb) hi
        · rw [f4 y (sv y hy) hj] at he; exact he
    have keyv : ∀ y, s.testBit y = true → f y ≠ a := by
      intro y hy he
      by_cases hj : ∃ i, q i = y
      · by_cases hyb : y = b
        · rw [f2 y (sv y hy) hj hyb] at he
          exact sw a ha he.symm
        · rw [f3 y (sv y hy) hj hyb] at he
          obtain ⟨j, hj⟩ := hj
          have l2 := (hp y hy hyb).2.2.1
          have := qmono 0 j (Nat.zero_le _)
          rw [q0, hj] at this
          rw [he] at l2
          omega
      · rw [f4 y (sv y hy) hj] at he
        exact hj ⟨0, by rw [q0, he]⟩
    rcases (hvb x).1 hx with hx | hx <;> rcases (hvb y).1 hy with hy | hy
    · exact key x y hx hy he
    · rw [f1 y hy] at he; exact absurd he (keyv x hx)
    · rw [f1 x hx] at he; exact absurd he.symm (keyv y hy)
    · rw [hx, hy]
/-- One more guard than stand together, and watch. -/
theorem allEternal_joined {net : List Int} (h : Ok net) {s : Nat} (hs : s < 2 ^ net.length) (hT : Together net s) (hW : W net s = true) : ∃ t, t < 2 ^ net.length ∧ AllEternal net t ∧ size t ≤ size s + 1 := by
  have h6 := h.hi
  have hnb : ∀ j, j < net.length → s.testBit j = false → ∃ i, s.testBit i = true ∧ (nb net j).testBit i = true := fun j hj hb => by
    rcases (seen_iff h s hj).1 ((W_iff h hs).1 hW j hj) with x | ⟨i, _, x, y⟩
    · rw [hb] at x; cases x
    · exact ⟨i, x, y⟩
  by_cases hex : ∃ v, v < net.length ∧ s.testBit v = false
  · obtain ⟨v0, hv0, hb0⟩ := hex
    refine ⟨s ||| 2 ^ v0, or_lt hs hv0, ⟨fun t => ∃ v, v < net.length ∧ s.testBit v = false ∧ t = s ||| 2 ^ v, ?_, v0, hv0, hb0, rfl⟩, by rw [size_add (lt64 h hs) (by omega) hb0]; exact Nat.le_refl _⟩
    rintro _ _ ⟨v, hv, hvb, rfl⟩ k hk hkb
    have hks : s.testBit k = false := not_true fun hc => by rw [(or_testBit _ _ _).2 (.inl hc)] at hkb; cases hkb
    obtain ⟨a, ha, hva⟩ := hnb v hv hvb
    obtain ⟨b, hb, hkb2⟩ := hnb k hk hks
    have hbl := in_lt hs hb
    exact ⟨s ||| 2 ^ k, or_lt hs hk, (or_testBit _ _ _).2 (.inr rfl), shift h hs hT hv hvb hk hks ha hva hb (by rw [h.sym k b hk hbl]; exact hkb2), k, hk, hks, rfl⟩
  · have : s = allOf net := eq_of_bits hs (allOf_lt net) fun j hj => by
      rw [allOf_testBit]
      cases hb : s.testBit j with
      | true => simpa using hj
      | false => exact absurd ⟨j, hj, hb⟩ hex
    refine ⟨s, hs, eternal_allEternal h hs (by rw [this]; exact eternal_all), by omega⟩
end Go.Proofs.Ytgocpgkhbamkcaa
/- Draws of chapters 3 to 5. Conditions: those of each theorem. -/
namespace Go.Proofs.Ytgocpgkhbamkcaa
open D Go.RowKit
set_option linter.unusedVariables false
set_option linter.unusedSimpArgs false


end Go.Proofs.Ytgocpgkhbamkcaa
/- The model's functions of chapter 6 in natural numbers, and draws. Conditions: those of each theorem. -/
namespace Go.Proofs.Ytgocpgkhbamkcaa
open D Go.RowKit
set_option linter.unusedVariables false
set_option linter.unusedSimpArgs false


theorem fold_shift {α : Type} (N : Nat) (f : α → Nat → α) (a : α) : fold (N + 1) f a = fold N (fun t k => f t (k + 1)) (f a 0) := by
  induction N with
  | zero => rfl
  | succ N ih => rw [fold_succ, ih, fold_succ]
/-- The least size of sets of a kind; -1 if there is none. -/
def minStep (p : Nat → Bool) (t : Int) (s : Nat) : Int := if p s = true then (if t < 0 then ((size s : Nat) : Int) else if ((size s : Nat) : Int) < t then ((size s : Nat) : Int) else t) else t
def minI (net : List Int) (p : Nat → Bool) : Int := fold (2 ^ net.length) (minStep p) (-1)
theorem minI_fold (p : Nat → Bool) (N : Nat) : (fold N (minStep p) (-1) = -1 ∧ ∀ s, s < N → p s = false) ∨ ∃ m : Nat, fold N (minStep p) (-1) = m ∧ (∃ s, s < N ∧ p s = true ∧ size s = m) ∧ ∀ s, s < N → p s = true → m ≤ size s := by
  induction N with
  | zero => exact .inl ⟨rfl, fun s hs => by omega⟩
  | succ N ih =>
    rw [fold_succ]
    generalize fold N (minStep p) (-1) = g at ih ⊢
    unfold minStep
    cases hp : p N with
    | false =>
      simp only [Bool.false_eq_true, if_false]
      rcases ih with ⟨a, b⟩ | ⟨m, a, ⟨s, s1, s2⟩, c⟩
      · exact .inl ⟨a, fun s hs => by
          by_cases he : s = N
          · rw [he]; exact hp
          · exact b s (by omega)⟩
      · exact .inr ⟨m, a, ⟨s, by omega, s2⟩, fun s hs hps => by
          by_cases he : s = N
          · rw [he, hp] at hps; cases hps
          · exact c s (by omega) hps⟩
    | true =>
      simp only [if_true]
      right
      rcases ih with ⟨a, b⟩ | ⟨m, a, ⟨s, s1, s2, s3⟩, c⟩
      · rw [a, if_pos (by decide)]
        exact ⟨_, rfl, ⟨N, by omega, hp, rfl⟩, fun s hs hps => by
          by_cases he : s = N
          · rw [he]; exact Nat.le_refl _
          · rw [b s (by omega)] at hps; cases hps⟩
      · rw [a, if_neg (by omega)]
        by_cases hlt : ((size N : Nat) : Int) < (m : Int)
        · rw [if_pos hlt]
          exact ⟨_, rfl, ⟨N, by omega, hp, rfl⟩, fun s hs hps => by
            by_cases he : s = N
            · rw [he]; exact Nat.le_refl _
            · have := c s (by omega) hps; omega⟩
        · rw [if_neg hlt]
          exact ⟨m, rfl, ⟨s, by omega, s2, s3⟩, fun q hq hpq => by
            by_cases he : q = N
            · rw [he]; omega
            · exact c q (by omega) hpq⟩
theorem minI_is (net : List Int) (p : Nat → Bool) : (minI net p = -1 ∧ ∀ s, s < 2 ^ net.length → p s = false) ∨ ∃ m : Nat, minI net p = m ∧ MinOf net p m := by
  rcases minI_fold p (2 ^ net.length) with h | ⟨m, a, b, c⟩
  · exact .inl h
  · exact .inr ⟨m, a, b, c⟩
theorem minStep_bound {p : Nat → Bool} {t : Int} {s : Nat} (ht : -1 ≤ t ∧ t ≤ 6) : -1 ≤ minStep p t s ∧ minStep p t s ≤ 6 := by
  have := size_le s
  unfold minStep
  split
  · split
    · omega
    · split <;> omega
  · exact ht
/-- Does a set stand together? -/
noncomputable def together (net : List Int) (s : Nat) : Bool := @decide (Together net s) (Classical.propDecidable _)
theorem together_iff {net : List Int} {s : Nat} : together net s = true ↔ Together net s := by unfold together; exact @decide_eq_true_iff _ (Classical.propDecidable _)
noncomputable def joined (net : List Int) (s : Nat) : Bool := together net s && W net s
theorem joined_zero (net : List Int) : joined net 0 = false := by
  have : together net 0 = false := not_true fun hc => (together_iff.1 hc).1 rfl
  unfold joined; rw [this]; rfl
end Go.Proofs.Ytgocpgkhbamkcaa
/- Draws of moves and of weak rows. Conditions: those of each theorem. -/
namespace Go.Proofs.Ytgocpgkhbamkcaa
open D Go.RowKit
set_option linter.unusedVariables false
set_option linter.unusedSimpArgs false


theorem wrap_part {c : Int} (h0 : 0 ≤ c) (h1 : c ≤ 39) : ∃ x : Int, IntKind.i64.wrap (IntKind.i64.wrap (c.tdiv 39) * 6) = x ∧ 0 ≤ x ∧ x ≤ 6 := by
  rcases tdiv_small h0 h1 with e | e <;> rw [e]
  · exact ⟨0, by decide, by omega, by omega⟩
  · exact ⟨6, by decide, by omega, by omega⟩
theorem max_len {n : Nat} (hn : n ≤ 6) : ∃ m : Int, (if 1 > (n : Int) then 1 else (n : Int)) = m ∧ 1 ≤ m ∧ m ≤ 6 ∧ (1 ≤ n → m = n) := by
  by_cases h : 1 > (n : Int)
  · exact ⟨1, if_pos h, by omega, by omega, fun _ => by omega⟩
  · exact ⟨n, if_neg h, by omega, by omega, fun _ => rfl⟩
theorem S.DrawAllMoveOk_run {rb : List Int} {net : List Int} (h : Ok net) (v : Int) (hb : Bytes rb) (hl : rb.length ≤ 2000) {rp : Int} (h0 : 0 ≤ rp) (h1 : rp ≤ 950000) :
    ∃ t : Int, S.DrawAllMoveOk_run7 v FUEL (v, 0, rb, rp, net) = some (t, net) := by
  have h6 := h.hi
  have := run_post (run := S.DrawAllMoveOk_run7 v) (fun s => ∃ (t : Int) (k : Nat) (rq : Int), s = (t, (k : Int), rb, rq, net) ∧ k ≤ net.length ∧ rp ≤ rq ∧ rq ≤ rp + 2 * k) (fun s => net.length - s.2.1.toNat)
    (fun d => ∃ t : Int, d = (t, net)) (fun f s => ?_) (s := (v, 0, rb, rp, net)) ⟨v, 0, rp, rfl, by omega, by omega, by omega⟩ (by simp; omega)
  · obtain ⟨d, e, t, rfl⟩ := this
    exact ⟨t, e⟩
  · rintro ⟨t, k, rq, rfl, i1, i2, i3⟩
    simp only [S.DrawAllMoveOk_run7, S.DrawAllMoveOk_step7]
    by_cases hlt : k < net.length
    · right
      obtain ⟨a, e1, a1, a2⟩ := S.l20Rd_pick_is (rp := rq) (n := (net.length : Int)) hb hl (by omega) (by omega)
      obtain ⟨c, e2, _, _⟩ := S.l20Rd_pick_is (rp := rq + 1) (n := 3) hb hl (by omega) (by omega)
      have fin : ∀ (t' : Int) (rq' : Int), rq ≤ rq' → rq' ≤ rq + 2 → ∃ s', S.DrawAllMoveOk_run7 v f (t', IntKind.i64.wrap ((k : Int) + 1), rb, rq', net) = S.DrawAllMoveOk_run7 v f s' ∧ (∃ (t : Int) (k : Nat) (rq : Int), s' = (t, (k : Int), rb, rq, net) ∧ k ≤ net.length ∧ rp ≤ rq ∧ rq ≤ rp + 2 * k) ∧ net.length - s'.2.1.toNat < net.length - (k : Int).toNat := by
        intro t' rq' q1 q2
        rw [add1_nat (by omega)]
        exact ⟨_, rfl, ⟨t', k + 1, rq', rfl, by omega, by omega, by omega⟩, by simp only [Int.toNat_natCast]; omega⟩
      rw [cnd_t (by rw [decide_eq_true_eq]; omega), e1]
      simp only [optC]
      have hk0 : decide ((k : Int) < 0) = false := by rw [decide_eq_false_iff_not]; omega
      have ha0 : decide (a < 0) = false := by rw [decide_eq_false_iff_not]; omega
      have hk1 : (decide (0 ≤ (k : Int)) && decide ((k : Int) < (net.length : Int))) = true := by simp only [Bool.and_eq_true, decide_eq_true_eq]; omega
      have hk2 : decide ((k : Int).toNat < net.length) = true := by rw [decide_eq_true_eq]; omega
      have hm : ∃ x, S.l8Moved_t t (k : Int) a = some x := by
        unfold S.l8Moved_t S.l8Moved_tree
        rw [hk0, ha0]
        exact ⟨_, rfl⟩
      obtain ⟨x, hx⟩ := hm
      rw [hk0, ha0, hk1, hk2, e2, hx]
      simp only [cond_true, cond_false]
      simp only [Bool.cond_eq_ite]
      split
      · split
        · split
          · split
            · split
              · exact fin _ _ (by omega) (by omega)
              · exact fin _ _ (by omega) (by omega)
            · exact fin _ _ (by omega) (by omega)
          · exact fin _ _ (by omega) (by omega)
        · exact fin _ _ (by omega) (by omega)
      · exact fin _ _ (by omega) (by omega)
    · left
      rw [cnd_f (by rw [decide_eq_false_iff_not]; omega)]
      exact ⟨_, rfl, t, rfl⟩
theorem S.DrawAllMoveOk_is {code : List Int} (hb : Bytes code) : ∃ (v t : Int) (net : List Int), S.DrawAllMoveOk_t code = some (v, t, net) ∧ net.length ≤ 6 := by
  unfold S.DrawAllMoveOk_t S.DrawAllMoveOk_tree
  obtain ⟨rb, e1, h1, h2⟩ := S.l20Open_is hb
  rw [e1]
  simp only [optC]
  obtain ⟨rp', net, v, e2, q1, q2, h3, h4, h5⟩ := S.l20Set_is (n := 12) h1 h2 (Int.le_refl 0) (by decide)
  rw [e2]
  simp only
  obtain ⟨a, e3, _, _⟩ := S.l20Rd_pick_is (rp := rp') (n := IntKind.i64.wrap (1 * 2 ^ min (net.length : Int).toNat IntKind.i64.bits)) h1 h2 (by omega) (by omega)
  rw [e3]
  simp only
  rcases NetOk_cases net with ⟨h, g1, g2⟩ | ⟨_, g1, g2⟩
  · rw [S.l1SetOk_n h g2]
    simp only
    cases decide (0 ≤ v ∧ v < 2 ^ net.length) with
    | false => exact ⟨_, _, _, rfl, h3⟩
    | true =>
      obtain ⟨u, e4, _, _⟩ := S.l20Rd_pick_is (rp := rp' + 1) (n := 3) h1 h2 (by omega) (by omega)
      rw [cond_true, e4]
      simp only
      cases hu : decide (u > 0) with
      | false => exact ⟨_, _, _, rfl, h3⟩
      | true =>
        obtain ⟨t, et⟩ := S.DrawAllMoveOk_run (net := net) h v h1 h2 (rp := rp' + 1 + 1) (by omega) (by omega)
        rw [cond_true, et]
        exact ⟨_, _, _, rfl, h3⟩
  · rw [S.l1SetOk_x g2]
    exact ⟨_, _, _, rfl, h3⟩
end Go.Proofs.Ytgocpgkhbamkcaa
/- The laws of chapter 2: WatchOk, LeastWatchOk, FewestWatch, WatchOf. Conditions: those of each theorem. -/
namespace Go.Proofs.Ytgocpgkhbamkcaa
open D Go.RowKit
set_option linter.unusedVariables false
set_option linter.unusedSimpArgs false


theorem and_not_zero {p s : Nat} (hp : p < 64) (hs : s < 64) : (((minus p s : Nat) : Int) == 0) = true ↔ ∀ j, p.testBit j = true → s.testBit j = true := by
  rw [show (((minus p s : Nat) : Int) == 0) = (minus p s == 0) from nat_beq _ 0, beq_iff_eq]
  constructor
  · intro he j hj
    have : (minus p s).testBit j = false := by rw [he, Nat.zero_testBit]
    rw [minus_testBit _ _ (by omega) (by omega), hj] at this
    simpa using this
  · intro ha
    apply Nat.eq_of_testBit_eq
    intro j
    rw [Nat.zero_testBit, minus_testBit _ _ (by omega) (by omega)]
    cases hb : p.testBit j with
    | false => rfl
    | true => rw [ha j hb]; rfl
theorem lone_zero {net : List Int} : ((lone net : Nat) : Int) = 0 ↔ ∀ k, k < net.length → nb net k ≠ 0 := by
  constructor
  · intro he k hk hz
    have h0 : lone net = 0 := by omega
    have := (lone_testBit net k).2 ⟨hk, hz⟩
    rw [h0, Nat.zero_testBit] at this; cases this
  · intro ha
    have : lone net = 0 := Nat.eq_of_testBit_eq fun j => by
      rw [Nat.zero_testBit]
      cases hb : (lone net).testBit j with
      | false => rfl
      | true =>
        obtain ⟨a, b⟩ := (lone_testBit net j).1 hb
        exact absurd b (ha j a)
    rw [this]; rfl
/-- The greatest of all. -/
theorem maxFold {n : Nat} {f : Nat → Nat} (k : Nat) (hk : k < n) : f k ≤ fold n (fun t k => if f k > t then f k else t) 0 := by
  induction n with
  | zero => omega
  | succ n ih =>
    rw [fold_succ]
    by_cases hkn : k = n
    · subst hkn; split <;> omega
    · have := ih (by omega)
      split <;> omega
theorem few_size {net : List Int} (h : Ok net) : ∃ s, s < 2 ^ net.length ∧ W net s = true ∧ size s = fewest net := (fewest_few h).ex
end Go.Proofs.Ytgocpgkhbamkcaa
/- Other ways to the sets and numbers of chapters 3 to 5. Conditions: those of each theorem. -/
namespace Go.Proofs.Ytgocpgkhbamkcaa
set_option linter.unusedVariables false
set_option linter.unusedSimpArgs false

theorem minus_twice {net : List Int} (h : Ok net) {s g : Nat} (hs : s < 2 ^ net.length) (hg : s.testBit g = true) : minus (ball net g) (twice net s) = priv net s g := by
  have h6 := h.hi
  have h64 := h.pow
  have hb := h.ball_lt (in_lt hs hg)
  have ht := twice_is h hs
  have htl := ht.lt
  refine Nat.eq_of_testBit_eq fun j => ?_
  rw [Bool.eq_iff_iff, minus_testBit _ _ (by omega) (by omega), Bool.and_eq_true, Bool.not_eq_true', priv_testBit h hs hg]
  constructor
  · rintro ⟨a, b⟩
    refine ⟨a, fun i hi hb2 => Classical.byContradiction fun hne => ?_⟩
    rw [(ht.bit j).2 ⟨i, g, hi, hg, hne, hb2, a⟩] at b; cases b
  · rintro ⟨a, b⟩
    refine ⟨a, not_true fun hc => ?_⟩
    obtain ⟨x, y, hx, hy, hxy, hbx, hby⟩ := (ht.bit j).1 hc
    exact hxy ((b x hx hbx).trans (b y hy hby).symm)
theorem fullA_watch {net : List Int} (h : Ok net) {s : Nat} (hs : s < 2 ^ net.length) : fullA net s = (apart net s && W net s) := by
  rw [Bool.eq_iff_iff, fullA_iff h hs, Bool.and_eq_true, apart_iff hs]
theorem fold_near (net : List Int) (s : Nat) : fold net.length (fun t k => if s.testBit k = true then t ||| nb net k else t) 0 = near net s := rfl
/-- One step of growing, told by the set with the place. -/
theorem grownStep_apart {net : List Int} (h : Ok net) {t k : Nat} (ht : t < 2 ^ net.length) (hk : k < net.length) (ha : Apart net t) : (if apart net (t ||| 2 ^ k) = true then t ||| 2 ^ k else t) = grownStep net t k := by
  unfold grownStep
  cases hb : t.testBit k with
  | true =>
    have e : t ||| 2 ^ k = t := Nat.eq_of_testBit_eq fun j => by
      rw [Bool.eq_iff_iff, or_testBit]
      exact ⟨fun a => a.elim id fun b => by rw [b]; exact hb, .inl⟩
    rw [e]; simp
  | false =>
    rw [Bool.not_false, Bool.true_and]
    congr 1
    rw [eq_iff_iff, beq_iff_eq, and_zero, apart_iff (or_lt ht hk)]
    constructor
    · intro hA i hi
      exact hA k i ((or_testBit _ _ _).2 (.inr rfl)) ((or_testBit _ _ _).2 (.inl hi))
    · exact fun hn => ha.add h ht hk hn
theorem grownStep_keeps {net : List Int} (h : Ok net) {t k : Nat} (ht : t < 2 ^ net.length) (hk : k < net.length) (ha : Apart net t) : Apart net (grownStep net t k) := by
  rw [← grownStep_apart h ht hk ha]
  split
  · rename_i hc; exact (apart_iff (or_lt ht hk)).1 hc
  · exact ha
def minStepN (p : Nat → Bool) (t s : Nat) : Nat := if p s = true then (if size s < t then size s else t) else t
def maxStepN (p : Nat → Bool) (t s : Nat) : Nat := if p s = true then (if size s > t then size s else t) else t
theorem minSize_fold (net : List Int) (p : Nat → Bool) : fold (2 ^ net.length) (minStepN p) net.length = minSize net p := rfl
theorem maxSize_fold (net : List Int) (p : Nat → Bool) : fold (2 ^ net.length) (maxStepN p) 0 = maxSize net p := rfl
theorem minStepN_lt {p : Nat → Bool} {t s : Nat} (hl : size s < t) : minStepN p t s = if p s = true then size s else t := by unfold minStepN; rw [if_pos hl]
theorem minStepN_ge {p : Nat → Bool} {t s : Nat} (hl : ¬ size s < t) : minStepN p t s = t := by unfold minStepN; rw [if_neg hl, ite_self]
theorem maxStepN_lt {p : Nat → Bool} {t s : Nat} (hl : size s > t) : maxStepN p t s = if p s = true then size s else t := by unfold maxStepN; rw [if_pos hl]
theorem maxStepN_ge {p : Nat → Bool} {t s : Nat} (hl : ¬ size s > t) : maxStepN p t s = t := by unfold maxStepN; rw [if_neg hl, ite_self]
theorem minStepN_le {p : Nat → Bool} {t s : Nat} (ht : t ≤ 6) : minStepN p t s ≤ 6 := by
  have := size_le s
  unfold minStepN; split
  · split <;> omega
  · exact ht
theorem maxStepN_le {p : Nat → Bool} {t s : Nat} (ht : t ≤ 6) : maxStepN p t s ≤ 6 := by
  have := size_le s
  unfold maxStepN; split
  · split <;> omega
  · exact ht
/-- Folds side by side. -/
theorem fold_pair {A B : Type} (f : A → Nat → A) (g : B → Nat → B) (n : Nat) (a : A) (b : B) : fold n (fun (q : A × B) k => (f q.1 k, g q.2 k)) (a, b) = (fold n f a, fold n g b) := by
  induction n with
  | zero => rfl
  | succ n ih => rw [fold_succ, fold_succ, fold_succ, ih]
end Go.Proofs.Ytgocpgkhbamkcaa
/- The program's functions of chapters 3 and 4 in natural numbers. Conditions: those of each theorem. -/
namespace Go.Proofs.Ytgocpgkhbamkcaa
open D Go.RowKit
set_option linter.unusedVariables false
set_option linter.unusedSimpArgs false


theorem I.with_n {s k : Nat} (hs : s < 64) (hk : k < 6) : I.with_t s k = some ((s ||| 2 ^ k : Nat) : Int) := by
  unfold I.with_t I.with_tree
  rw [cnd_f (by simp), one_shl (by omega), i64_or_nat _ _ (by omega) (pow2_lt (by omega))]
theorem twice_lt {net : List Int} (h : Ok net) {s : Nat} (hs : s < 2 ^ net.length) : twice net s < 2 ^ net.length := (twice_is h hs).lt
theorem I.nextTo_n {net : List Int} (h : Ok net) {s : Nat} (hs : s < 2 ^ net.length) : I.nextTo_t net s = some ((near net s : Nat) : Int) := by
  unfold I.nextTo_t I.nextTo_tree
  have h6 := h.hi
  have h64 := h.pow
  have := (run_for (run := I.nextTo_run3 net s) (len := net.length) (fun k (t : Nat) => ((t : Int), (k : Int))) (fun t k => if s.testBit k = true then t ||| nb net k else t) (fun t => (t : Int)) (fun k t => t < 2 ^ net.length) (by omega) (fun n k t hk ht => ?_) (fun n t ht => ?_) (t0 := 0) (Nat.two_pow_pos _)).1
  · rw [fold_near] at this
    exact congrArg (fun o => optC o (fun q => some q) none) this
  · have hb := h.lt k hk
    simp only [I.nextTo_run3, I.nextTo_step3]
    rw [cnd_t (by simp; omega), I.hasPlace_n _ _ (by omega)]
    simp only [optC]
    cases hbit : s.testBit k with
    | true =>
      rw [cond_true, cnd_t (by simp; omega), if_pos rfl, Int.toNat_natCast, h.eli hk, i64_or_nat _ _ (by omega) (by omega), add1_nat (by omega)]
      exact ⟨rfl, Nat.or_lt_two_pow ht hb⟩
    | false =>
      rw [cond_false, if_neg (by simp), add1_nat (by omega)]
      exact ⟨rfl, ht⟩
  · simp only [I.nextTo_run3, I.nextTo_step3]
    rw [cnd_f (by simp)]
theorem I.apartIn_n {net : List Int} (h : Ok net) {s : Nat} (hs : s < 2 ^ net.length) : I.apartIn_t net s = some (apart net s) := by
  unfold I.apartIn_t I.apartIn_tree
  have h64 := h.pow
  have hnl := h.near_lt s
  rw [I.nextTo_n h hs]
  simp only [optC]
  rw [i64_and_nat _ _ (by omega) (by omega), nat_eq0, Nat.and_comm]
  rfl
end Go.Proofs.Ytgocpgkhbamkcaa
/- Laws of chapter 3, and of chapter 4 over sets. Conditions: those of each theorem. -/
namespace Go.Proofs.Ytgocpgkhbamkcaa
open D Go.RowKit
set_option linter.unusedVariables false
set_option linter.unusedSimpArgs false


theorem set_lt {net : List Int} {s : Nat} (h : decide (0 ≤ (s : Int) ∧ (s : Int) < 2 ^ net.length) = true) : s < 2 ^ net.length := by
  have := dec_true h
  rw [two_pow_cast] at this; omega
theorem minus_key : ∀ a, a < 64 → ∀ b, b < 64 → (minus b a = 0) → minus a b = a - b ∧ b ≤ a := by decide +kernel
/-- Without the guard the set sees just less by its private places. -/
theorem seen_less {net : List Int} (h : Ok net) {s g : Nat} (hs : s < 2 ^ net.length) (hg : s.testBit g = true) : seen net (s - 2 ^ g) = seen net s - priv net s g ∧ priv net s g ≤ seen net s := by
  have h6 := h.hi
  have hgl := in_lt hs hg
  have h64 := h.pow
  have hp := priv_lt h hs hgl
  have hsl := h.seen_lt hs
  have hsl2 := h.seen_lt (sub_lt (k := g) hs)
  have hsub : ∀ j, (priv net s g).testBit j = true → (seen net s).testBit j = true := fun j hj => (seen_balls h hs).2 ⟨g, hgl, hg, ((priv_testBit h hs hg j).1 hj).1⟩
  obtain ⟨k1, k2⟩ := minus_key (seen net s) (by omega) (priv net s g) (by omega) (by
    refine zero_iff.2 fun j => ?_
    rw [minus_testBit _ _ (by omega) (by omega)]
    cases hb : (priv net s g).testBit j with
    | false => rfl
    | true => rw [hsub j hb]; rfl)
  refine ⟨?_, k2⟩
  rw [← k1]
  apply Nat.eq_of_testBit_eq
  intro j
  rw [minus_testBit _ _ (by omega) (by omega), Bool.eq_iff_iff, Bool.and_eq_true, Bool.not_eq_true', seen_balls h (sub_lt hs), seen_balls h hs]
  constructor
  · rintro ⟨k, hk, a, b⟩
    rw [sub_testBit (by omega) (by omega) hg, Bool.and_eq_true] at a
    refine ⟨⟨k, hk, a.1, b⟩, not_true fun hc => ?_⟩
    have := ((priv_testBit h hs hg j).1 hc).2 k a.1 b
    rw [this] at a; simp at a
  · rintro ⟨⟨k, hk, a, b⟩, c⟩
    by_cases hkg : k = g
    · -- another guard sees it, too
      refine Classical.byContradiction fun hno => ?_
      rw [(priv_testBit h hs hg j).2 ⟨by rw [← hkg]; exact b, fun i hi hb => Classical.byContradiction fun hne => hno ⟨i, in_lt hs hi, by rw [sub_testBit (by omega) (by omega) hg, hi]; simp [hne], hb⟩⟩] at c
      cases c
    · exact ⟨k, hk, by rw [sub_testBit (by omega) (by omega) hg, a]; simp [hkg], b⟩
theorem privs_twice {net : List Int} (h : Ok net) {s : Nat} (hs : s < 2 ^ net.length) {p : Nat} (hp : ∀ j, p.testBit j = true ↔ ∃ g, g < net.length ∧ s.testBit g = true ∧ (priv net s g).testBit j = true) : p &&& twice net s = 0 ∧ p ||| twice net s = seen net s := by
  have hT := twice_is h hs
  have key : ∀ j, p.testBit j = true → ∀ a, s.testBit a = true → ∀ b, s.testBit b = true → (ball net a).testBit j = true → (ball net b).testBit j = true → a = b := fun j hj a ha b hb h1 h2 => by
    obtain ⟨g, _, hg, hgp⟩ := (hp j).1 hj
    have hx := ((priv_testBit h hs hg j).1 hgp).2
    rw [hx a ha h1, hx b hb h2]
  constructor
  · refine and_zero.2 fun j hj => not_true fun hc => ?_
    obtain ⟨a, b, ha, hb, hne, h1, h2⟩ := (hT.bit j).1 hj
    exact hne (key j hc a ha b hb h1 h2)
  · apply Nat.eq_of_testBit_eq
    intro j
    rw [Nat.testBit_or, Bool.eq_iff_iff, Bool.or_eq_true, hp, hT.bit, seen_balls h hs]
    constructor
    · rintro (⟨g, hgl, hg, hx⟩ | ⟨a, b, ha, hb, _, h1, _⟩)
      · exact ⟨g, hgl, hg, ((priv_testBit h hs hg j).1 hx).1⟩
      · exact ⟨a, in_lt hs ha, ha, h1⟩
    · rintro ⟨k, hk, hks, hkb⟩
      by_cases hx : ∃ b, s.testBit b = true ∧ b ≠ k ∧ (ball net b).testBit j = true
      · obtain ⟨b, hb, hne, hbb⟩ := hx
        exact .inr ⟨k, b, hks, hb, Ne.symm hne, hkb, hbb⟩
      · exact .inl ⟨k, hk, hks, (priv_testBit h hs hks j).2 ⟨hkb, fun i hi hib => Classical.byContradiction fun hne => hx ⟨i, hi, hne, hib⟩⟩⟩
end Go.Proofs.Ytgocpgkhbamkcaa
/- The program's functions of chapter 4 over nets, and of chapter 5, in natural numbers. Conditions: those of each theorem. -/
namespace Go.Proofs.Ytgocpgkhbamkcaa
open D Go.RowKit
set_option linter.unusedVariables false
set_option linter.unusedSimpArgs false


theorem I.MostApart_x {net : List Int} (e : I.NetOk_t net = some false) : I.MostApart_t net = some (-1) := by
  unfold I.MostApart_t I.MostApart_tree; rw [e]; rfl
theorem I.MostApart_y {net : List Int} (h : Ok net) (e : I.NetOk_t net = some true) : I.MostApart_t net = some ((maxSize net (apart net) : Nat) : Int) := by
  unfold I.MostApart_t I.MostApart_tree
  have h64 := h.pow
  have h6 := h.hi
  have hsu := allOf_succ net
  rw [e]
  have := (run_for (run := I.MostApart_run5 net) (len := 2 ^ net.length) (fun k (t : Nat) => ((t : Int), (k : Int))) (maxStepN (apart net)) (fun t => (t : Int)) (fun k t => t ≤ 6) (by omega) (fun n k t hk ht => ?_) (fun n t ht => ?_) (t0 := 0) (by omega)).1
  · exact congrArg (fun o => optC o (fun q => some q) none) this
  · refine ⟨?_, maxStepN_le ht⟩
    simp only [I.MostApart_run5, I.MostApart_step5]
    rw [I.allOf_n h]
    simp only [optC]
    rw [cnd_t (by rw [decide_eq_true_eq]; omega), I.sizeOf_n]
    simp only
    by_cases hc : size k > t
    · rw [cnd_t (by rw [decide_eq_true_eq]; omega), I.apartIn_n h hk, maxStepN_lt hc]
      simp only
      cases hp : apart net k with
      | true => simp only [cond_true, if_true]; rw [add1_nat (by omega)]
      | false => simp only [cond_false, Bool.false_eq_true, if_false]; rw [add1_nat (by omega)]
    · rw [cnd_f (by rw [decide_eq_false_iff_not]; omega), maxStepN_ge hc, add1_nat (by omega)]
  · simp only [I.MostApart_run5, I.MostApart_step5]
    rw [I.allOf_n h]
    simp only [optC]
    rw [cnd_f (by rw [decide_eq_false_iff_not]; omega)]
/-- One of two numbers, by a test and then a call. -/
def sel {α : Type} (a : Bool) (o : Option Bool) (x y : Int) (k : Int → Option α) : Option α := bif a then optC o (fun c => bif c then k x else k y) none else k y
theorem sel_is {α : Type} (a p : Bool) (x y : Int) (k : Int → Option α) : sel a (some p) x y k = k (bif a && p then x else y) := by cases a <;> cases p <;> rfl
theorem sel_min (p : Nat → Bool) (t s : Nat) : (bif decide (((size s : Nat) : Int) < (t : Int)) && p s then ((size s : Nat) : Int) else (t : Int)) = ((minStepN p t s : Nat) : Int) := by
  unfold minStepN
  by_cases h : size s < t
  · rw [decide_eq_true (by omega), Bool.true_and]
    cases p s with
    | true => rw [if_pos rfl, if_pos h]; rfl
    | false => rw [if_neg (by simp)]; rfl
  · rw [decide_eq_false (by omega), Bool.false_and]
    cases p s with
    | true => rw [if_pos rfl, if_neg h]; rfl
    | false => rw [if_neg (by simp)]; rfl
theorem sel_max (p : Nat → Bool) (t s : Nat) : (bif decide (((size s : Nat) : Int) > (t : Int)) && p s then ((size s : Nat) : Int) else (t : Int)) = ((maxStepN p t s : Nat) : Int) := by
  unfold maxStepN
  by_cases h : size s > t
  · rw [decide_eq_true (by omega), Bool.true_and]
    cases p s with
    | true => rw [if_pos rfl, if_pos h]; rfl
    | false => rw [if_neg (by simp)]; rfl
  · rw [decide_eq_false (by omega), Bool.false_and]
    cases p s with
    | true => rw [if_pos rfl, if_neg h]; rfl
    | false => rw [if_neg (by simp)]; rfl
def ch6 (net : List Int) (q : Nat × Nat × Nat × Nat × Nat × Nat) (s : Nat) : Nat × Nat × Nat × Nat × Nat × Nat :=
  (minStepN (fullN net) q.1 s, minStepN (W net) q.2.1 s, minStepN (fullA net) q.2.2.1 s, maxStepN (apart net) q.2.2.2.1 s, maxStepN (least net) q.2.2.2.2.1 s, maxStepN (needs net) q.2.2.2.2.2 s)
theorem fold_ch6 (net : List Int) (n a b c d e f : Nat) : fold n (ch6 net) (a, b, c, d, e, f) = (fold n (minStepN (fullN net)) a, fold n (minStepN (W net)) b, fold n (minStepN (fullA net)) c, fold n (maxStepN (apart net)) d, fold n (maxStepN (least net)) e, fold n (maxStepN (needs net)) f) := by
  induction n with
  | zero => rfl
  | succ n ih => simp only [fold_succ, ih]; rfl
end Go.Proofs.Ytgocpgkhbamkcaa
/- Laws of chapter 5, and of chapter 4 over a net. Conditions: those of each theorem. -/
namespace Go.Proofs.Ytgocpgkhbamkcaa
open D Go.RowKit
set_option linter.unusedVariables false
set_option linter.unusedSimpArgs false


theorem mins {net : List Int} (h : Ok net) : MinOf net (fullN net) (minSize net (fullN net)) ∧ MinOf net (W net) (fewest net) ∧ MinOf net (fullA net) (minSize net (fullA net)) ∧ MaxOf net (apart net) (maxSize net (apart net)) ∧ MaxOf net (least net) (maxSize net (least net)) ∧ MaxOf net (needs net) (maxSize net (needs net)) :=
  ⟨minSize_is h (ex_fullN h), few_min.1 (fewest_few h), minSize_is h (ex_fullA h), maxSize_is (ex_apart net), maxSize_is (ex_least h), maxSize_is (ex_needs h)⟩
theorem maxSize_le {net : List Int} (h : Ok net) {p : Nat → Bool} {m : Nat} (hm : MaxOf net p m) : m ≤ net.length := by
  obtain ⟨s, a, _, c⟩ := hm.ex
  have := size_le_len h a; omega
theorem minSize_le {net : List Int} (h : Ok net) {p : Nat → Bool} {m : Nat} (hm : MinOf net p m) : m ≤ net.length := by
  obtain ⟨s, a, _, c⟩ := hm.ex
  have := size_le_len h a; omega
theorem minFold2 {n c : Nat} {f : Nat → Nat} : (∀ k, k < n → fold n (fun t k => if f k < t then f k else t) c ≤ f k) ∧ fold n (fun t k => if f k < t then f k else t) c ≤ c := by
  induction n with
  | zero => exact ⟨fun k hk => by omega, Nat.le_refl _⟩
  | succ n ih =>
    rw [fold_succ]
    obtain ⟨a, b⟩ := ih
    refine ⟨fun k hk => ?_, by split <;> omega⟩
    by_cases hkn : k = n
    · rw [hkn]; split <;> omega
    · have := a k (by omega)
      split <;> omega
/-- The net in which all are neighbours. -/
def whole (n : Nat) : List Int := fold n (fun l k => l ++ [((2 ^ n - 1 - 2 ^ k : Nat) : Int)]) []
theorem I.NetOk_whole {n : Nat} (h1 : 1 ≤ n) (h6 : n ≤ 6) : I.NetOk_t (whole n) = some true := by
  rw [I.NetOk_is]
  have hn : n = 1 ∨ n = 2 ∨ n = 3 ∨ n = 4 ∨ n = 5 ∨ n = 6 := by omega
  rcases hn with rfl | rfl | rfl | rfl | rfl | rfl <;> decide +kernel
theorem even_whole {n : Nat} (h1 : 1 ≤ n) (h6 : n ≤ 6) : (fewest (whole n) == maxSize (whole n) (least (whole n))) = true := by
  have hn : n = 1 ∨ n = 2 ∨ n = 3 ∨ n = 4 ∨ n = 5 ∨ n = 6 := by omega
  rcases hn with rfl | rfl | rfl | rfl | rfl | rfl <;> decide +kernel
theorem even_none {n : Nat} (h1 : 1 ≤ n) (h6 : n ≤ 6) : (fewest (List.replicate n 0) == maxSize (List.replicate n 0) (least (List.replicate n 0))) = true := by
  have hn : n = 1 ∨ n = 2 ∨ n = 3 ∨ n = 4 ∨ n = 5 ∨ n = 6 := by omega
  rcases hn with rfl | rfl | rfl | rfl | rfl | rfl <;> decide +kernel
theorem I.NetOk_none {n : Nat} (h1 : 1 ≤ n) (h6 : n ≤ 6) : I.NetOk_t (List.replicate n 0) = some true := by
  rw [I.NetOk_is]
  have hn : n = 1 ∨ n = 2 ∨ n = 3 ∨ n = 4 ∨ n = 5 ∨ n = 6 := by omega
  rcases hn with rfl | rfl | rfl | rfl | rfl | rfl <;> decide +kernel
theorem ok_of {net : List Int} (e : I.NetOk_t net = some true) : Ok net := by
  rcases NetOk_cases net with ⟨h, _⟩ | ⟨_, e1, _⟩
  · exact h
  · rw [e] at e1; cases e1
end Go.Proofs.Ytgocpgkhbamkcaa
/- Plain facts about the program's own ways of chapters 6 to 9: least numbers from -1 on, the first row of the fewest guards, the least place of a set. Conditions: those of each theorem. -/
namespace Go.Proofs.Ytgocpgkhbamkcaa
open D Go.RowKit
set_option linter.unusedVariables false
set_option linter.unusedSimpArgs false

theorem minI_min {net : List Int} (h : Ok net) {p : Nat → Bool} (hex : ∃ s, s < 2 ^ net.length ∧ p s = true) : minI net p = ((minSize net p : Nat) : Int) := by
  rcases minI_is net p with ⟨_, hno⟩ | ⟨m, e, hm⟩
  · obtain ⟨s, hs, hp⟩ := hex
    rw [hno s hs] at hp; cases hp
  · rw [e, hm.uniq (minSize_is h hex)]
/-- The least number of a kind; -1 if there is none. -/
def minStepV (p : Nat → Bool) (v : Nat → Nat) (t : Int) (s : Nat) : Int := if p s = true then (if t < 0 then ((v s : Nat) : Int) else if ((v s : Nat) : Int) < t then ((v s : Nat) : Int) else t) else t
theorem minStep_V (p : Nat → Bool) : minStep p = minStepV p size := rfl
theorem minStepV_bound {p : Nat → Bool} {v : Nat → Nat} {t : Int} {s b : Nat} (hv : v s ≤ b) (ht : -1 ≤ t ∧ t ≤ b) : -1 ≤ minStepV p v t s ∧ minStepV p v t s ≤ b := by
  unfold minStepV
  split
  · split
    · omega
    · split <;> omega
  · exact ht
theorem minV_fold (p : Nat → Bool) (v : Nat → Nat) (N : Nat) : (fold N (minStepV p v) (-1) = -1 ∧ ∀ s, s < N → p s = false) ∨ ∃ m : Nat, fold N (minStepV p v) (-1) = m ∧ (∃ s, s < N ∧ p s = true ∧ v s = m) ∧ ∀ s, s < N → p s = true → m ≤ v s := by
  induction N with
  | zero => exact .inl ⟨rfl, fun s hs => by omega⟩
  | succ N ih =>
    rw [fold_succ]
    generalize fold N (minStepV p v) (-1) = g at ih ⊢
    unfold minStepV
    cases hp : p N with
    | false =>
      simp only [Bool.false_eq_true, if_false]
      rcases ih with ⟨a, b⟩ | ⟨m, a, ⟨s, s1, s2⟩, c⟩
      · exact .inl ⟨a, fun s hs => by
          by_cases he : s = N
          · rw [he]; exact hp
          · exact b s (by omega)⟩
      · exact .inr ⟨m, a, ⟨s, by omega, s2⟩, fun s hs hps => by
          by_cases he : s = N
          · rw [he, hp] at hps; cases hps
          · exact c s (by omega) hps⟩
    | true =>
      simp only [if_true]
      right
      rcases ih with ⟨a, b⟩ | ⟨m, a, ⟨s, s1, s2, s3⟩, c⟩
      · rw [a, if_pos (by decide)]
        exact ⟨_, rfl, ⟨N, by omega, hp, rfl⟩, fun s hs hps => by
          by_cases he : s = N
          · rw [he]; exact Nat.le_refl _
          · rw [b s (by omega)] at hps; cases hps⟩
      · rw [a, if_neg (by omega)]
        by_cases hlt : ((v N : Nat) : Int) < (m : Int)
        · rw [if_pos hlt]
          exact ⟨_, rfl, ⟨N, by omega, hp, rfl⟩, fun s hs hps => by
            by_cases he : s = N
            · rw [he]; exact Nat.le_refl _
            · have := c s (by omega) hps; omega⟩
        · rw [if_neg hlt]
          exact ⟨m, rfl, ⟨s, by omega, s2, s3⟩, fun q hq hpq => by
            by_cases he : q = N
            · rw [he]; omega
            · exact c q (by omega) hpq⟩
theorem minV_eq {N : Nat} {p : Nat → Bool} {v : Nat → Nat} {t0 : Nat} (hex : ∃ o, o < N ∧ p o = true ∧ v o = t0) :
    fold N (minStepV p v) (-1) = ((fold N (fun t m => if p m = true then (if v m < t then v m else t) else t) t0 : Nat) : Int) := by
  obtain ⟨h1, h2, h3⟩ := minFold (N := N) (p := p) (f := v) t0
  generalize fold N (fun t m => if p m = true then (if v m < t then v m else t) else t) t0 = b at h1 h2 h3 ⊢
  obtain ⟨o, o1, o2, o3⟩ := hex
  rcases minV_fold p v N with ⟨_, hno⟩ | ⟨m, e, ⟨s, s1, s2, s3⟩, hm⟩
  · rw [hno o o1] at o2; cases o2
  · rw [e]
    have a := h1 s s1 s2
    have : m ≤ b := by
      rcases h3 with h3 | ⟨q, q1, q2, q3⟩
      · have := hm o o1 o2; omega
      · have := hm q q1 q2; omega
    omega
theorem italian_one {net : List Int} (h : Ok net) : ∃ o, o < 3 ^ net.length ∧ italianB net (digs net.length o) = true ∧ sumN net.length (rv (digs net.length o)) = net.length := by
  obtain ⟨o, ho, hd⟩ := ones_digs (n := net.length)
  refine ⟨o, ho, italianB_iff.2 (italian_congr (fun k hk => ?_) (roman_italian ones_row.1)), ?_⟩
  · rw [digs_rv hk]; exact (hd k hk).symm
  · rw [sumN_congr (g := fun _ => 1) (fun k hk => by rw [digs_rv hk]; exact hd k hk), sumN_const]; omega
theorem weak_one {net : List Int} (h : Ok net) : ∃ o, o < 3 ^ net.length ∧ weakB net (digs net.length o) = true ∧ sumN net.length (rv (digs net.length o)) = net.length := by
  obtain ⟨o, ho, hd⟩ := ones_digs (n := net.length)
  refine ⟨o, ho, weakB_iff.2 (weak_congr (fun k hk => ?_) (roman_weak h ones_row.1)), ?_⟩
  · rw [digs_rv hk]; exact (hd k hk).symm
  · rw [sumN_congr (g := fun _ => 1) (fun k hk => by rw [digs_rv hk]; exact hd k hk), sumN_const]; omega
theorem minV_italian {net : List Int} (h : Ok net) : fold (3 ^ net.length) (minStepV (fun m => italianB net (digs net.length m)) fun m => sumN net.length (rv (digs net.length m))) (-1) = ((fewestItalian net : Nat) : Int) := minV_eq (italian_one h)
theorem minV_weak {net : List Int} (h : Ok net) : fold (3 ^ net.length) (minStepV (fun m => weakB net (digs net.length m)) fun m => sumN net.length (rv (digs net.length m))) (-1) = ((fewestWeak net : Nat) : Int) := minV_eq (weak_one h)
/-- All rows but the last one have fewer guards than two at each place. -/
theorem sums_last : ∀ n, n < 7 → ∀ m, m < 3 ^ n - 1 → sumN n (dig n m) < 2 * n := by decide +kernel
theorem last_two : ∀ n, n < 7 → ∀ k, k < n → dig n (3 ^ n - 1) k = 2 := by decide +kernel
theorem sum_digs (n m : Nat) : sumN n (rv (digs n m)) = sumN n (dig n m) := sumN_congr fun k hk => digs_rv hk
def lessStep (n : Nat) (p : List Int → Bool) (best : List Int) (m : Nat) : List Int := if sumN n (rv (digs n m)) < sumN n (rv best) ∧ p (digs n m) = true then digs n m else best
theorem best_last {n : Nat} (h1 : 1 ≤ n) (h6 : n ≤ 6) (p : List Int → Bool) (hp : p (digs n (3 ^ n - 1)) = true) : fold (3 ^ n - 1) (lessStep n p) (digs n (3 ^ n - 1)) = bestRow n p := by
  have h3 : 0 < 3 ^ n := Nat.pow_pos (by omega)
  have hl : sumN n (rv (digs n (3 ^ n - 1))) = 2 * n := by rw [sum_digs, sumN_congr (g := fun _ => 2) (last_two n (by omega)), sumN_const]; omega
  have key : ∀ k, k ≤ 3 ^ n - 1 → (fold k (rowStep n p) [] = [] ∧ fold k (lessStep n p) (digs n (3 ^ n - 1)) = digs n (3 ^ n - 1)) ∨ ∃ b, fold k (rowStep n p) [] = digs n b ∧ fold k (lessStep n p) (digs n (3 ^ n - 1)) = digs n b ∧ sumN n (rv (digs n b)) < 2 * n := by
    intro k
    induction k with
    | zero => intro _; exact .inl ⟨rfl, rfl⟩
    | succ k ih =>
      intro hk
      have hs : sumN n (rv (digs n k)) < 2 * n := by rw [sum_digs]; exact sums_last n (by omega) k (by omega)
      rcases ih (by omega) with ⟨a, b⟩ | ⟨b, a1, a2, a3⟩
      · rw [fold_succ, fold_succ, a, b]
        unfold rowStep lessStep
        cases hq : p (digs n k) with
        | false => rw [if_neg (fun hc => by cases hc.1), if_neg (fun hc => by cases hc.2)]; exact .inl ⟨rfl, rfl⟩
        | true => rw [if_pos ⟨rfl, .inl rfl⟩, if_pos ⟨by omega, rfl⟩]; exact .inr ⟨k, rfl, rfl, hs⟩
      · rw [fold_succ, fold_succ, a1, a2]
        unfold rowStep lessStep
        right
        by_cases hc : p (digs n k) = true ∧ sumN n (rv (digs n k)) < sumN n (rv (digs n b))
        · rw [if_pos ⟨hc.1, .inr hc.2⟩, if_pos ⟨hc.2, hc.1⟩]; exact ⟨k, rfl, rfl, hs⟩
        · rw [if_neg (fun hd => by
            rcases hd.2 with hx | hx
            · rw [digs_len] at hx; omega
            · exact hc ⟨hd.1, hx⟩), if_neg (fun hd => hc ⟨hd.2, hd.1⟩)]
          exact ⟨b, rfl, rfl, a3⟩
  unfold bestRow
  have e3 : 3 ^ n = (3 ^ n - 1) + 1 := by omega
  rw [show fold (3 ^ n) (rowStep n p) [] = fold ((3 ^ n - 1) + 1) (rowStep n p) [] by rw [← e3], fold_succ]
  rcases key _ (Nat.le_refl _) with ⟨a, b⟩ | ⟨b, a1, a2, a3⟩
  · rw [a, b]; unfold rowStep; rw [if_pos ⟨hp, .inl rfl⟩]
  · rw [a1, a2]; unfold rowStep
    rw [if_neg (fun hd => by
      rcases hd.2 with hx | hx
      · rw [digs_len] at hx; omega
      · omega)]
theorem roman_last {net : List Int} (h : Ok net) : romanB net (digs net.length (3 ^ net.length - 1)) = true := by
  have h6 := h.hi
  rw [romanB_iff]
  intro k hk h0
  rw [digs_rv hk, last_two _ (by omega) k hk] at h0
  omega
/-- The least place of a set, as the bit that Go finds with the negative of it. -/
theorem low_bit : ∀ s, s < 64 → s ≠ 0 → ∃ i, i < 6 ∧ bits .and .i64 ((s : Nat) : Int) (IntKind.i64.wrap (0 - ((s : Nat) : Int))) = ((2 ^ i : Nat) : Int) ∧ s.testBit i = true := by decide +kernel
end Go.Proofs.Ytgocpgkhbamkcaa
/- The program's functions of chapter 6 but MostLeaves, in natural numbers. Conditions: those of each theorem. -/
namespace Go.Proofs.Ytgocpgkhbamkcaa
open D Go.RowKit
set_option linter.unusedVariables false
set_option linter.unusedSimpArgs false


theorem I.fewerOf_n (t : Int) (v : Nat) : I.fewerOf_t t ((v : Nat) : Int) = some (if t < 0 then ((v : Nat) : Int) else if ((v : Nat) : Int) < t then ((v : Nat) : Int) else t) := by
  unfold I.fewerOf_t I.fewerOf_tree
  by_cases h0 : t < 0
  · simp [h0]
  · by_cases h1 : ((v : Nat) : Int) < t <;> simp [h0, h1]
theorem I.fewerOf_V (p : Nat → Bool) (v : Nat → Nat) {t : Int} {k : Nat} (hp : p k = true) : I.fewerOf_t t ((v k : Nat) : Int) = some (minStepV p v t k) := by
  rw [I.fewerOf_n]; unfold minStepV; rw [if_pos hp]
theorem minStepV_no {p : Nat → Bool} {v : Nat → Nat} {t : Int} {k : Nat} (hp : p k = false) : minStepV p v t k = t := by unfold minStepV; rw [hp]; rfl
theorem fold_reach (net : List Int) (A m s : Nat) : fold m (fun t _ => t ||| (A &&& near net t)) s = steps net A m s := by
  induction m with
  | zero => rfl
  | succ m ih => rw [fold_succ, ih, Nat.and_comm]; rfl
theorem I.reachedIn_n {net : List Int} (h : Ok net) {s : Nat} (hs : s < 2 ^ net.length) (h0 : s ≠ 0) : ∃ i, i < net.length ∧ s.testBit i = true ∧ I.reachedIn_t net s = some ((part net s i : Nat) : Int) := by
  have h6 := h.hi
  have h64 := h.pow
  obtain ⟨i, _, e, hi⟩ := low_bit s (by omega) h0
  have hin := in_lt hs hi
  refine ⟨i, hin, hi, ?_⟩
  have hpl : 2 ^ i < 2 ^ net.length := Nat.pow_lt_pow_right (by omega) hin
  have hst : 2 ^ i &&& s = 2 ^ i := by
    refine eq_of_bits (n := net.length) (Nat.lt_of_le_of_lt Nat.and_le_left hpl) hpl (fun j _ => ?_)
    rw [Nat.testBit_and, testBit_pow]
    by_cases hj : i = j
    · subst hj; rw [hi]; simp
    · simp [hj]
  unfold I.reachedIn_t I.reachedIn_tree
  have := (run_for (run := I.reachedIn_run3 net s) (len := net.length - 1) (fun k (t : Nat) => ((t : Int), ((k + 1 : Nat) : Int))) (fun t k => t ||| (s &&& near net t)) (fun t => (t : Int)) (fun k t => t < 2 ^ net.length) (by omega) (fun n k t hk ht => ?_) (fun n t ht => ?_) (t0 := 2 ^ i) hpl).1
  · rw [e, show I.reachedIn_run3 net s FUEL (((2 ^ i : Nat) : Int), 1) = _ from this, fold_reach]
    simp only [optC]
    congr 2
    have hc : 1 ≤ card net.length (2 ^ i) := card_pow hin
    have hf := h.steps_done (A := s) hpl (net.length - 1) (by omega)
    rw [← hst] at hf
    have := steps_part h hin hf
    rw [hst] at this
    exact this
  · have hn := h.near_lt t
    have ha : s &&& near net t < 2 ^ net.length := Nat.lt_of_le_of_lt Nat.and_le_left hs
    simp only [I.reachedIn_run3, I.reachedIn_step3]
    rw [cnd_t (by simp; omega), I.nextTo_n h ht]
    simp only [optC]
    rw [i64_and_nat _ _ (by omega) (by omega), i64_or_nat _ _ (by omega) (by omega), add1_nat (by omega)]
    exact ⟨rfl, Nat.or_lt_two_pow ht ha⟩
  · simp only [I.reachedIn_run3, I.reachedIn_step3]
    rw [cnd_f (by simp; omega)]
theorem I.togetherIn_n {net : List Int} (h : Ok net) {s : Nat} (hs : s < 2 ^ net.length) : I.togetherIn_t net s = some (together net s) := by
  unfold I.togetherIn_t I.togetherIn_tree
  by_cases h0 : s = 0
  · subst h0
    have : together net 0 = false := not_true fun hc => (together_iff.1 hc).1 rfl
    rw [this]
    rfl
  · obtain ⟨i, hi, hb, e⟩ := I.reachedIn_n h hs h0
    rw [cnd_t (by simp; omega), e]
    simp only [optC]
    rw [nat_beq]
    congr 1
    rw [Bool.eq_iff_iff, beq_iff_eq, together_iff, together_part h hs hb]
theorem I.joinedWatchIn_n {net : List Int} (h : Ok net) {s : Nat} (hs : s < 2 ^ net.length) : I.joinedWatchIn_t net s = some (joined net s) := by
  unfold I.joinedWatchIn_t I.joinedWatchIn_tree
  rw [I.togetherIn_n h hs]
  simp only [optC]
  unfold joined
  cases together net s with
  | false => rfl
  | true => rw [cond_true, I.watchIn_n h hs]; rfl
theorem I.FewestJoined_x {net : List Int} (e : I.NetOk_t net = some false) : I.FewestJoined_t net = some (-1) := by
  unfold I.FewestJoined_t I.FewestJoined_tree; rw [e]; rfl
theorem I.FewestJoined_y {net : List Int} (h : Ok net) (e : I.NetOk_t net = some true) : I.FewestJoined_t net = some (minI net (joined net)) := by
  unfold I.FewestJoined_t I.FewestJoined_tree
  have h64 := h.pow
  have h6 := h.hi
  have hsu := allOf_succ net
  rw [e]
  have := (run_for (run := I.FewestJoined_run5 net) (len := 2 ^ net.length) (fun k (t : Int) => (t, (k : Int))) (minStepV (joined net) size) (fun t => t) (fun k t => -1 ≤ t ∧ t ≤ (6 : Nat)) (by omega) (fun n k t hk ht => ?_) (fun n t ht => ?_) (t0 := -1) (by omega)).1
  · exact congrArg (fun o => optC o (fun q => some q) none) this
  · refine ⟨?_, minStepV_bound (size_le k) ht⟩
    simp only [I.FewestJoined_run5, I.FewestJoined_step5]
    rw [I.allOf_n h]
    simp only [optC]
    rw [cnd_t (by rw [decide_eq_true_eq]; omega), I.joinedWatchIn_n h hk]
    simp only
    cases hp : joined net k with
    | false => rw [cond_false, minStepV_no hp, add1_nat (by omega)]
    | true =>
      rw [cond_true, I.sizeOf_n]
      simp only
      rw [I.fewerOf_V (joined net) size hp]
      simp only
      rw [add1_nat (by omega)]
  · simp only [I.FewestJoined_run5, I.FewestJoined_step5]
    rw [I.allOf_n h]
    simp only [optC]
    rw [cnd_f (by rw [decide_eq_false_iff_not]; omega)]
end Go.Proofs.Ytgocpgkhbamkcaa
/- The program's functions of chapter 7 in natural numbers. Conditions: those of each theorem. -/
namespace Go.Proofs.Ytgocpgkhbamkcaa
open D Go.RowKit
set_option linter.unusedVariables false
set_option linter.unusedSimpArgs false


/-- The places that have just so many. -/
def eqN (n : Nat) (r : Nat → Nat) (m : Nat) : Nat := orN n (fun k => decide (r k = m)) (fun k => 2 ^ k)
theorem eqN_testBit (n : Nat) (r : Nat → Nat) (m j : Nat) : (eqN n r m).testBit j = true ↔ j < n ∧ r j = m := by
  unfold eqN
  rw [orN_testBit]
  constructor
  · rintro ⟨k, hk, a, b⟩
    rw [testBit_pow, decide_eq_true_eq] at b
    subst b
    exact ⟨hk, by simpa using a⟩
  · rintro ⟨a, b⟩
    exact ⟨j, a, by simpa using b, by rw [testBit_pow]; simp⟩
theorem eqN_lt (n : Nat) (r : Nat → Nat) (m : Nat) : eqN n r m < 2 ^ n := orN_lt fun k hk _ => Nat.pow_lt_pow_right (by omega) hk
theorem roman_sets {net row : List Int} (h : Ok net) (hr : RowIs net.length row) : (minus (eqN net.length (rv row) 0) (near net (eqN net.length (rv row) 2)) == 0) = romanB net row := by
  have h64 := h.pow
  have a0 := eqN_lt net.length (rv row) 0
  have hn := h.near_lt (eqN net.length (rv row) 2)
  rw [Bool.eq_iff_iff, beq_iff_eq, romanB_iff]
  constructor
  · intro he k hk h0
    have h1 : (minus (eqN net.length (rv row) 0) (near net (eqN net.length (rv row) 2))).testBit k = false := by rw [he]; simp
    rw [minus_testBit _ _ (by omega) (by omega), (eqN_testBit _ _ _ _).2 ⟨hk, h0⟩, Bool.true_and, Bool.not_eq_false'] at h1
    obtain ⟨j, hj, b, c⟩ := (near_iff h _ hk).1 h1
    rw [eqN_testBit] at b
    exact ⟨j, hj, c, by omega⟩
  · intro hR
    refine Nat.eq_of_testBit_eq fun k => ?_
    rw [minus_testBit _ _ (by omega) (by omega), Nat.zero_testBit]
    cases hb : (eqN net.length (rv row) 0).testBit k with
    | false => rfl
    | true =>
      obtain ⟨hk, h0⟩ := (eqN_testBit _ _ _ _).1 hb
      obtain ⟨j, hj, b, c⟩ := hR k hk h0
      have h2 := hr.le j hj
      rw [(near_iff h _ hk).2 ⟨j, hj, (eqN_testBit _ _ _ _).2 ⟨hj, by omega⟩, b⟩]
      rfl
theorem best_row {net : List Int} (h : Ok net) : RowIs net.length (bestRow net.length (romanB net)) := by
  have h3 : 0 < 3 ^ net.length := Nat.pow_pos (by omega)
  rcases bestRow_fold h.lo (romanB net) (3 ^ net.length) with ⟨_, b⟩ | ⟨b, _, e, _⟩
  · have := b (3 ^ net.length - 1) (by omega)
    rw [roman_last h] at this; cases this
  · unfold bestRow; rw [e]; exact digs_row _ _
theorem row_ext {n : Nat} {l : List Int} {f : Nat → Int} (hl : l.length = n) (h : ∀ k, k < n → D.eli l k = f k) : l = fold n (fun l k => l ++ [f k]) [] := by
  apply List.ext_getElem (by rw [hl, fold_app_len])
  intro j hj hj2
  have a := h j (by omega)
  have b := fold_app_eli (n := n) (k := j) (f := f) (by omega)
  unfold D.eli at a b
  simp only [List.getD, List.getElem?_eq_getElem hj, List.getElem?_eq_getElem hj2, Option.getD_some] at a b
  rw [a, b]
end Go.Proofs.Ytgocpgkhbamkcaa
/- The program's functions of chapter 8 in natural numbers. Conditions: those of each theorem. -/
namespace Go.Proofs.Ytgocpgkhbamkcaa
open D Go.RowKit
set_option linter.unusedVariables false
set_option linter.unusedSimpArgs false


theorem I.moveIn_n {net : List Int} (h : Ok net) {s f t : Nat} (hf : f < net.length) (ht : t < net.length) : I.moveIn_t net (s : Int) (f : Int) (t : Int) = some (mayMove net s f t) := by
  unfold I.moveIn_t I.moveIn_tree
  have h6 := h.hi
  rw [I.hasPlace_n _ _ (by omega)]
  simp only [optC]
  unfold mayMove
  cases hb : s.testBit f with
  | false => rfl
  | true =>
    rw [cond_true, I.hasPlace_n _ _ (by omega)]
    simp only
    cases hb2 : s.testBit t with
    | true => rfl
    | false =>
      rw [Bool.not_false, cond_true, cnd_t (by simp; omega), show D.eli net (f : Int).toNat = (nb net f : Int) by rw [Int.toNat_natCast]; exact h.eli hf, I.hasPlace_n _ _ (by omega)]
      rfl
theorem I.moved_n {s f t : Nat} (hs : s < 64) (hf : f < 6) (ht : t < 6) (hb : s.testBit f = true) : I.moved_t (s : Int) (f : Int) (t : Int) = some ((moved s f t : Nat) : Int) := by
  unfold I.moved_t I.moved_tree
  rw [I.without_n hs hf, if_pos hb]
  simp only [optC]
  rw [I.with_n (Nat.lt_of_le_of_lt (Nat.sub_le _ _) hs) ht]
  rfl
theorem I.GuardMoved_x {net : List Int} (e : I.NetOk_t net = some false) (s f t : Int) : I.GuardMoved_t net s f t = some (-1) := by
  unfold I.GuardMoved_t I.GuardMoved_tree; rw [e]; rfl
theorem I.GuardMoved_n {net : List Int} (h : Ok net) (e : I.NetOk_t net = some true) (s f t : Int) : I.GuardMoved_t net s f t = some (movedI net s f t) := by
  unfold I.GuardMoved_t I.GuardMoved_tree
  have h6 := h.hi
  have h64 := h.pow
  rw [e]
  simp only [optC]
  rw [Bool.not_true, cond_false, I.setIn_n h]
  simp only
  unfold movedI
  rcases set_cases h s with ⟨a, rfl, ha, hd⟩ | hd
  · rw [hd, Bool.not_true, cond_false, I.placeIn_n]
    simp only
    rcases place_cases net f with ⟨k, rfl, hk, hd2⟩ | hd2
    · rw [hd2, Bool.not_true, cond_false, I.placeIn_n]
      simp only
      rcases place_cases net t with ⟨j, rfl, hj, hd3⟩ | hd3
      · rw [hd3, Bool.not_true, cond_false, I.moveIn_n h hk hj]
        simp only [Int.toNat_natCast]
        cases hm : mayMove net a k j with
        | false => rw [if_neg (fun hc => by cases hc.2.2.2)]; rfl
        | true =>
          have hb : a.testBit k = true := by unfold mayMove at hm; exact (Bool.and_eq_true _ _ ▸ hm).1
          rw [Bool.not_true, cond_false, I.moved_n (by omega) (by omega) (by omega) hb, if_pos ⟨dec_true hd, dec_true hd2, dec_true hd3, rfl⟩]
      · rw [hd3, if_neg (fun hc => dec_false hd3 hc.2.2.1)]; rfl
    · rw [hd2, if_neg (fun hc => dec_false hd2 hc.2.1)]; rfl
  · rw [hd, if_neg (fun hc => dec_false hd hc.1)]; rfl
/-- Can a guard come to a place without one? -/
def comeB (net : List Int) (s t : Nat) : Bool := (List.range net.length).any fun f => mayMove net s f t && W net (moved s f t)
theorem come_can {net : List Int} (h : Ok net) {s t : Nat} (ht : t < net.length) (hb : s.testBit t = false) : comeB net s t = canB net s t := by
  unfold comeB canB
  rw [Bool.eq_iff_iff, List.any_eq_true, List.any_eq_true]
  refine exists_congr fun f => and_congr_right fun hf => ?_
  have hf := List.mem_range.1 hf
  unfold mayMove
  rw [hb, h.sym t f ht hf]
  cases s.testBit f <;> cases (nb net f).testBit t <;> simp
/-- The places with guards, when one guard leaves a place. -/
def lessN (n : Nat) (r : Nat → Nat) (f : Nat) : Nat := if r f = 1 then (if (eqN n r 1 ||| eqN n r 2).testBit f = true then (eqN n r 1 ||| eqN n r 2) - 2 ^ f else eqN n r 1 ||| eqN n r 2) else eqN n r 1 ||| eqN n r 2
theorem guarded_lt (n : Nat) (r : Nat → Nat) : (eqN n r 1 ||| eqN n r 2) < 2 ^ n := Nat.or_lt_two_pow (eqN_lt _ _ _) (eqN_lt _ _ _)
theorem lessN_lt (n : Nat) (r : Nat → Nat) (f : Nat) : lessN n r f < 2 ^ n := by
  have := guarded_lt n r
  unfold lessN
  split
  · split
    · exact Nat.lt_of_le_of_lt (Nat.sub_le _ _) this
    · exact this
  · exact this
theorem lessN_leave {net row : List Int} (h : Ok net) (hr : RowIs net.length row) {f p : Nat} (hf : f < net.length) (hp : p < net.length) (h0 : rv row p = 0) (h1 : 1 ≤ rv row f) :
    (lessN net.length (rv row) f ||| 2 ^ p) = withN net.length (leave (rv row) f p) 1 := by
  have h6 := h.hi
  have h64 := h.pow
  have hg := guarded_lt net.length (rv row)
  have hlt := lessN_lt net.length (rv row) f
  have hpl : 2 ^ p < 2 ^ net.length := Nat.pow_lt_pow_right (by omega) hp
  have hgb : ∀ j, j < net.length → ((eqN net.length (rv row) 1 ||| eqN net.length (rv row) 2).testBit j = true ↔ 1 ≤ rv row j) := fun j hj => by
    have := hr.le j hj
    rw [or2, eqN_testBit, eqN_testBit]
    omega
  refine eq_of_bits (n := net.length) (Nat.or_lt_two_pow hlt hpl) (withN_lt _ _ _) (fun j hj => ?_)
  have hl := hr.le j hj
  rw [Bool.eq_iff_iff, or2, testBit_pow, decide_eq_true_eq, withN_testBit]
  unfold leave lessN
  by_cases hjp : j = p
  · subst hjp; simp [hj]
  · have hpj : ¬ p = j := fun e => hjp e.symm
    simp only [hpj, or_false, hj, true_and, if_neg hjp]
    by_cases hjf : j = f
    · subst hjf
      rw [if_pos rfl]
      by_cases e1 : rv row j = 1
      · rw [if_pos e1, if_pos ((hgb j hj).2 (by omega)), sub_testBit (by omega) (by omega) ((hgb j hj).2 (by omega)), Bool.and_eq_true, Bool.not_eq_true', decide_eq_false_iff_not]
        exact ⟨fun a => absurd rfl a.2, fun a => by omega⟩
      · rw [if_neg e1, hgb j hj]; omega
    · rw [if_neg hjf]
      by_cases e1 : rv row f = 1
      · rw [if_pos e1, if_pos ((hgb f hf).2 (by omega)), sub_testBit (by omega) (by omega) ((hgb f hf).2 (by omega)), Bool.and_eq_true, Bool.not_eq_true', decide_eq_false_iff_not, hgb j hj]
        exact ⟨fun a => a.1, fun a => ⟨a, hjf⟩⟩
      · rw [if_neg e1, hgb j hj]
end Go.Proofs.Ytgocpgkhbamkcaa
/- AnsweredAll in natural numbers. Conditions: those of each theorem. -/
namespace Go.Proofs.Ytgocpgkhbamkcaa
open D Go.RowKit
set_option linter.unusedVariables false
set_option linter.unusedSimpArgs false


/-- The set after one ask. -/
noncomputable def ansNext (net : List Int) (s p : Nat) : Nat := if s.testBit p = true then s else moved s (ansI net (lasts net) s p).toNat p
noncomputable def ansStep (net places : List Int) (t : Nat × List Int) (k : Nat) : List Int ⊕ (Nat × List Int) :=
  if 0 ≤ D.eli places k ∧ D.eli places k < net.length then .inr (ansNext net t.1 (D.eli places k).toNat, t.2 ++ [((ansNext net t.1 (D.eli places k).toNat : Nat) : Int)]) else .inl t.2
noncomputable def answered (net : List Int) (s : Nat) (places : List Int) : List Int := match loopE places.length (ansStep net places) (s, [(s : Int)]) with | .inl _ => [] | .inr t => t.2
noncomputable def answeredI (net : List Int) (s : Int) (places : List Int) : List Int := if (0 ≤ s ∧ s < 2 ^ net.length) ∧ eternalB net s.toNat = true then answered net s.toNat places else []
theorem ansI_eternal {net : List Int} {s p : Nat} (hs : s < 2 ^ net.length) (hp : p < net.length) (he : Eternal net s) (hb : s.testBit p = false) :
    ∃ f, f < net.length ∧ ansI net (lasts net) s p = (f : Int) ∧ s.testBit f = true ∧ (nb net p).testBit f = true ∧ Eternal net (moved s f p) := by
  rcases ansI_cases net (lasts net) s p with ⟨_, hno⟩ | ⟨f, hf, hg, hP⟩
  · exfalso
    obtain ⟨f, a, b, c⟩ := eternal_closed net s hs he p hp hb
    have := hno f (in_lt hs a)
    unfold ansP at this
    rw [a, b, lasts_elb (moved_lt hs hp), eternalB_iff.2 c] at this
    cases this
  · unfold ansP at hP
    rw [Bool.and_eq_true, Bool.and_eq_true, lasts_elb (moved_lt hs hp), eternalB_iff] at hP
    exact ⟨f, hf, hg, hP.1, hP.2.1, hP.2.2⟩
theorem ansNext_is {net : List Int} (h : Ok net) {s p : Nat} (hs : s < 2 ^ net.length) (hp : p < net.length) (he : Eternal net s) :
    ansNext net s p < 2 ^ net.length ∧ Eternal net (ansNext net s p) ∧ size (ansNext net s p) = size s ∧ (ansNext net s p).testBit p = true := by
  unfold ansNext
  have h6 := h.hi
  have h64 := h.pow
  cases hb : s.testBit p with
  | true => rw [if_pos rfl]; exact ⟨hs, he, rfl, hb⟩
  | false =>
    rw [if_neg (by simp)]
    obtain ⟨f, hf, e, a, _, c⟩ := ansI_eternal hs hp he hb
    rw [e, Int.toNat_natCast]
    exact ⟨moved_lt hs hp, c, moved_size (by omega) (by omega) (by omega) a hb, (moved_testBit (by omega) (by omega) a p).2 (.inr rfl)⟩
/-- What the list of answers holds. -/
def AnsInv (net places : List Int) (s k : Nat) (t : Nat × List Int) : Prop :=
  t.1 < 2 ^ net.length ∧ t.2.length = k + 1 ∧ D.eli t.2 0 = s ∧
  (∀ j, j ≤ k → ∃ u : Nat, D.eli t.2 j = u ∧ u < 2 ^ net.length ∧ Eternal net u ∧ size u = size s ∧ (j = k → u = t.1)) ∧
  ∀ j, j < k → ∃ p : Nat, D.eli places j = p ∧ p < net.length ∧ (D.eli t.2 (j + 1)).toNat.testBit p = true
theorem eli_app {l m : List Int} {k : Nat} (hk : k < l.length) : D.eli (l ++ m) k = D.eli l k := by
  unfold D.eli; simp [List.getD, List.getElem?_append_left hk]
theorem eli_app_end (l : List Int) (x : Int) : D.eli (l ++ [x]) l.length = x := by
  unfold D.eli; simp [List.getD]
theorem ans_inv {net : List Int} (h : Ok net) (places : List Int) {s : Nat} (hs : s < 2 ^ net.length) (he : Eternal net s) : ∀ k, ∀ t, loopE k (ansStep net places) (s, [(s : Int)]) = .inr t → AnsInv net places s k t := by
  intro k
  induction k with
  | zero =>
    intro t ht
    rw [loopE_zero] at ht
    injection ht with ht
    subst ht
    refine ⟨hs, rfl, rfl, fun j hj => ⟨s, ?_, hs, he, rfl, fun _ => rfl⟩, fun j hj => by omega⟩
    rw [show j = 0 by omega]; rfl
  | succ k ih =>
    intro t ht
    cases hq : loopE k (ansStep net places) (s, [(s : Int)]) with
    | inl d =>
      have e : loopE (k + 1) (ansStep net places) (s, [(s : Int)]) = .inl d := by unfold loopE at hq ⊢; rw [fold_succ, hq]
      rw [e] at ht; cases ht
    | inr u =>
      rw [loopE_succ hq] at ht
      obtain ⟨i1, i2, i3, i4, i5⟩ := ih u hq
      unfold ansStep at ht
      by_cases hp : 0 ≤ D.eli places k ∧ D.eli places k < net.length
      · rw [if_pos hp] at ht
        injection ht with ht
        subst ht
        obtain ⟨p, hp1⟩ : ∃ p : Nat, D.eli places k = p := ⟨(D.eli places k).toNat, by omega⟩
        rw [hp1, Int.toNat_natCast]
        have hp2 : p < net.length := by omega
        obtain ⟨w, w1, w2, w3, w4, w5⟩ := i4 k (Nat.le_refl _)
        have w6 := w5 rfl
        subst w6
        obtain ⟨n1, n2, n3, n4⟩ := ansNext_is h w2 hp2 w3
        have last : D.eli (u.2 ++ [((ansNext net u.1 p : Nat) : Int)]) (k + 1) = ((ansNext net u.1 p : Nat) : Int) := by rw [← i2]; exact eli_app_end _ _
        refine ⟨n1, by rw [List.length_append, i2]; rfl, by rw [eli_app (by omega)]; exact i3, fun j hj => ?_, fun j hj => ?_⟩
        · by_cases hjk : j = k + 1
          · subst hjk
            exact ⟨_, last, n1, n2, n3.trans w4, fun _ => rfl⟩
          · obtain ⟨v, v1, v2, v3, v4, _⟩ := i4 j (by omega)
            exact ⟨v, by rw [eli_app (by omega)]; exact v1, v2, v3, v4, fun e => absurd e hjk⟩
        · by_cases hjk : j = k
          · subst hjk
            exact ⟨p, hp1, hp2, by rw [last, Int.toNat_natCast]; exact n4⟩
          · obtain ⟨q, q1, q2, q3⟩ := i5 j (by omega)
            exact ⟨q, q1, q2, by rw [eli_app (by omega)]; exact q3⟩
      · rw [if_neg hp] at ht; cases ht
end Go.Proofs.Ytgocpgkhbamkcaa
/- The program's functions of chapter 9 in natural numbers. Conditions: those of each theorem. -/
namespace Go.Proofs.Ytgocpgkhbamkcaa
open D Go.RowKit
set_option linter.unusedVariables false
set_option linter.unusedSimpArgs false


/-- The sets in which one guard has moved. -/
def mvIn (net : List Int) (s f : Nat) (l : List Int) (t : Nat) : List Int := if mayMove net s f t = true then l ++ [((moved s f t : Nat) : Int)] else l
def mvOut (net : List Int) (s : Nat) (l : List Int) (f : Nat) : List Int := fold net.length (mvIn net s f) l
def mvs (net : List Int) (s : Nat) : List Int := fold net.length (mvOut net s) []
theorem mvIn_fold (net : List Int) (s f : Nat) (l : List Int) : ∀ m, (fold m (mvIn net s f) l).length ≤ l.length + m ∧ ∀ x, x ∈ fold m (mvIn net s f) l ↔ x ∈ l ∨ ∃ t, t < m ∧ mayMove net s f t = true ∧ x = ((moved s f t : Nat) : Int) := by
  intro m
  induction m with
  | zero => exact ⟨Nat.le_refl _, fun x => ⟨.inl, fun h => h.elim id fun ⟨t, ht, _⟩ => by omega⟩⟩
  | succ m ih =>
    rw [fold_succ]
    generalize fold m (mvIn net s f) l = g at ih ⊢
    obtain ⟨a, b⟩ := ih
    unfold mvIn
    by_cases hm : mayMove net s f m = true
    · rw [if_pos hm]
      refine ⟨by rw [List.length_append]; simp; omega, fun x => ?_⟩
      rw [List.mem_append, b, List.mem_singleton]
      constructor
      · rintro ((h | ⟨t, h1, h2⟩) | h)
        · exact .inl h
        · exact .inr ⟨t, by omega, h2⟩
        · exact .inr ⟨m, by omega, hm, h⟩
      · rintro (h | ⟨t, h1, h2, h3⟩)
        · exact .inl (.inl h)
        · by_cases he : t = m
          · subst he; exact .inr h3
          · exact .inl (.inr ⟨t, by omega, h2, h3⟩)
    · rw [if_neg hm]
      refine ⟨by omega, fun x => ?_⟩
      rw [b]
      constructor
      · rintro (h | ⟨t, h1, h2⟩)
        · exact .inl h
        · exact .inr ⟨t, by omega, h2⟩
      · rintro (h | ⟨t, h1, h2, h3⟩)
        · exact .inl h
        · by_cases he : t = m
          · subst he; exact absurd h2 hm
          · exact .inr ⟨t, by omega, h2, h3⟩
theorem mvOut_fold (net : List Int) (s : Nat) : ∀ m, (fold m (mvOut net s) []).length ≤ m * net.length ∧ ∀ x, x ∈ fold m (mvOut net s) [] ↔ ∃ f t, f < m ∧ t < net.length ∧ mayMove net s f t = true ∧ x = ((moved s f t : Nat) : Int) := by
  intro m
  induction m with
  | zero => exact ⟨Nat.zero_le _, fun x => ⟨fun h => (by cases h), fun ⟨f, t, hf, _⟩ => by omega⟩⟩
  | succ m ih =>
    rw [fold_succ]
    generalize fold m (mvOut net s) [] = g at ih ⊢
    obtain ⟨a, b⟩ := ih
    unfold mvOut
    obtain ⟨a2, b2⟩ := mvIn_fold net s m g net.length
    refine ⟨by rw [Nat.succ_mul]; omega, fun x => ?_⟩
    rw [b2, b]
    constructor
    · rintro (⟨f, t, h1, h2⟩ | ⟨t, h1, h2, h3⟩)
      · exact ⟨f, t, by omega, h2⟩
      · exact ⟨m, t, by omega, h1, h2, h3⟩
    · rintro ⟨f, t, h1, h2, h3, h4⟩
      by_cases he : f = m
      · subst he; exact .inr ⟨t, h2, h3, h4⟩
      · exact .inl ⟨f, t, by omega, h2, h3, h4⟩
theorem mvs_len {net : List Int} (h : Ok net) (s : Nat) : (mvs net s).length ≤ 36 := by
  have := (mvOut_fold net s net.length).1
  have h6 := h.hi
  have := Nat.mul_le_mul h6 h6
  unfold mvs
  omega
theorem mvs_mem (net : List Int) (s : Nat) (x : Int) : x ∈ mvs net s ↔ ∃ f t, f < net.length ∧ t < net.length ∧ mayMove net s f t = true ∧ x = ((moved s f t : Nat) : Int) := (mvOut_fold net s net.length).2 x
theorem mayMove_bit {net : List Int} {s f t : Nat} (h : mayMove net s f t = true) : s.testBit f = true ∧ s.testBit t = false ∧ (nb net f).testBit t = true := by
  unfold mayMove at h
  rw [Bool.and_eq_true, Bool.and_eq_true, Bool.not_eq_true'] at h
  exact ⟨h.1, h.2.1, h.2.2⟩
theorem I.movesOf_n {net : List Int} (h : Ok net) {s : Nat} (hs : s < 2 ^ net.length) : I.movesOf_t net (s : Int) = some (mvs net s) := by
  unfold I.movesOf_t I.movesOf_tree
  have h6 := h.hi
  have h64 := h.pow
  have := (run_for (run := I.movesOf_run3 net s) (len := net.length) (fun k (t : List Int) => ((k : Int), t)) (mvOut net s) (fun t => t) (fun k t => t.length ≤ k * net.length) (by omega) (fun n k t hk ht => ?_) (fun n t ht => ?_) (t0 := []) (Nat.zero_le _)).1
  · exact congrArg (fun o => optC o (fun q => some q) none) this
  · have hkl : k * net.length ≤ 36 := by have := Nat.mul_le_mul (show k ≤ 6 by omega) h6; omega
    refine ⟨?_, by have := (mvIn_fold net s k t net.length).1; rw [Nat.succ_mul]; unfold mvOut; omega⟩
    simp only [I.movesOf_run3, I.movesOf_step3]
    rw [cnd_t (by simp; omega)]
    have l6 := (run_for (run := I.movesOf_run6 net s k) (len := net.length) (fun j (t : List Int) => ((j : Int), t)) (mvIn net s k) (fun t => t) (fun j t => t.length ≤ 36 + j) (by omega) (fun n j t hj ht => by
      simp only [I.movesOf_run6, I.movesOf_step6]
      rw [cnd_t (by simp; omega), I.moveIn_n h hk hj, add1_nat (by omega)]
      simp only [optC]
      unfold mvIn
      cases hm : mayMove net s k j with
      | false => rw [cond_false, if_neg (by simp)]; exact ⟨rfl, by omega⟩
      | true =>
        rw [cond_true, I.moved_n (by omega) (by omega) (by omega) (mayMove_bit hm).1, if_pos rfl]
        simp only
        rw [cnd_t (by unfold D.small; rw [decide_eq_true_eq, List.length_append]; simp; omega)]
        exact ⟨rfl, by rw [List.length_append]; simp; omega⟩) (fun n t ht => by
      simp only [I.movesOf_run6, I.movesOf_step6]
      rw [cnd_f (by simp)]) (t0 := t) (by omega)).1
    rw [show I.movesOf_run6 net s k FUEL (0, t) = _ from l6]
    simp only [optC]
    rw [add1_nat (by omega)]
    rfl
  · simp only [I.movesOf_run3, I.movesOf_step3]
    rw [cnd_f (by simp)]
theorem elr_set {l : List (List Int)} {k j : Nat} {v : List Int} (hk : k < l.length) : D.elr (l.set k v) j = if j = k then v else D.elr l j := by
  unfold D.elr
  by_cases hj : j = k
  · subst hj; simp [List.getD, hk]
  · rw [if_neg hj]
    simp [List.getD, List.getElem?_set_ne (fun e => hj e.symm)]
theorem rows_ext {N : Nat} {l : List (List Int)} {f : Nat → List Int} (hl : l.length = N) (h : ∀ k, k < N → D.elr l k = f k) : l = (List.range N).map f := by
  apply List.ext_getElem (by simp [hl])
  intro j hj hj2
  have a := h j (by omega)
  unfold D.elr at a
  simp only [List.getD, List.getElem?_eq_getElem hj, Option.getD_some] at a
  rw [a]; simp
theorem rows_at {N k : Nat} {f : Nat → List Int} (hk : k < N) : D.elr ((List.range N).map f) k = f k := by unfold D.elr; simp [List.getD, hk]
theorem I.movesIn_n {net : List Int} (h : Ok net) : I.movesIn_t net = some ((List.range (2 ^ net.length)).map (mvs net)) := by
  unfold I.movesIn_t I.movesIn_tree
  have h6 := h.hi
  have h64 := h.pow
  have hsu := allOf_succ net
  rw [I.allOf_n h]
  simp only [optC]
  have := run_for (run := I.movesIn_run3 net) (len := 2 ^ net.length) (fun k (t : List (List Int)) => ((k : Int), t)) (fun t k => t.set k (mvs net k)) (fun t => t) (fun k t => t.length = 2 ^ net.length ∧ ∀ j, j < k → D.elr t j = mvs net j) (by omega) (fun n k t hk ht => ?_) (fun n t ht => ?_) (t0 := List.replicate (2 ^ net.length) []) ⟨by simp, fun j hj => by omega⟩
  · obtain ⟨e, l1, l2⟩ := this
    rw [add1_nat (by omega), hsu, Int.toNat_natCast, cnd_t (by simp only [D.small, Bool.and_true, Bool.and_eq_true, decide_eq_true_eq]; exact ⟨Int.natCast_nonneg _, by omega⟩), show I.movesIn_run3 net FUEL (0, List.replicate (2 ^ net.length) []) = _ from e]
    show some _ = some _
    rw [rows_ext l1 l2]
  · obtain ⟨l1, l2⟩ := ht
    refine ⟨?_, by simp [l1], fun j hj => ?_⟩
    · simp only [I.movesIn_run3, I.movesIn_step3]
      rw [I.allOf_n h]
      simp only [optC]
      rw [cnd_t (by rw [decide_eq_true_eq]; omega), I.movesOf_n h hk, add1_nat (by omega)]
      simp only
      rw [cnd_t (by simp only [Bool.and_eq_true, decide_eq_true_eq]; omega), Int.toNat_natCast, cnd_t (by rw [decide_eq_true_eq]; omega)]
    · rw [elr_set (by omega)]
      by_cases he : j = k
      · rw [if_pos he, he]
      · rw [if_neg he]; exact l2 j (by omega)
  · simp only [I.movesIn_run3, I.movesIn_step3]
    rw [I.allOf_n h]
    simp only [optC]
    rw [cnd_f (by rw [decide_eq_false_iff_not]; omega)]
/-- What is answered by going to sets that last. -/
def ansS (l : List Bool) (s : Nat) (L : List Int) : Nat := fold L.length (fun t k => if D.elb l (D.eli L k).toNat = true then t ||| (D.eli L k).toNat else t) s
theorem ansS_bit (l : List Bool) (s : Nat) (L : List Int) (j : Nat) : (ansS l s L).testBit j = true ↔ s.testBit j = true ∨ ∃ k, k < L.length ∧ D.elb l (D.eli L k).toNat = true ∧ (D.eli L k).toNat.testBit j = true := by
  unfold ansS
  generalize L.length = N
  induction N with
  | zero => exact ⟨.inl, fun h => h.elim id fun ⟨k, hk, _⟩ => by omega⟩
  | succ N ih =>
    rw [fold_succ]
    by_cases hb : D.elb l (D.eli L N).toNat = true
    · rw [if_pos hb, Nat.testBit_or, Bool.or_eq_true, ih]
      constructor
      · rintro ((h | ⟨k, h1, h2⟩) | h)
        · exact .inl h
        · exact .inr ⟨k, by omega, h2⟩
        · exact .inr ⟨N, by omega, hb, h⟩
      · rintro (h | ⟨k, h1, h2, h3⟩)
        · exact .inl (.inl h)
        · by_cases he : k = N
          · subst he; exact .inr h3
          · exact .inl (.inr ⟨k, by omega, h2, h3⟩)
    · rw [if_neg hb, ih]
      constructor
      · rintro (h | ⟨k, h1, h2⟩)
        · exact .inl h
        · exact .inr ⟨k, by omega, h2⟩
      · rintro (h | ⟨k, h1, h2, h3⟩)
        · exact .inl h
        · by_cases he : k = N
          · subst he; exact absurd h2 hb
          · exact .inr ⟨k, by omega, h2, h3⟩
def Among (n : Nat) (L : List Int) : Prop := L.length ≤ 1000 ∧ ∀ k, k < L.length → ∃ u : Nat, D.eli L k = (u : Int) ∧ u < 2 ^ n
theorem ansS_lt {n : Nat} {l : List Bool} {s : Nat} {L : List Int} (hs : s < 2 ^ n) (hL : Among n L) : ∀ N, N ≤ L.length → fold N (fun t k => if D.elb l (D.eli L k).toNat = true then t ||| (D.eli L k).toNat else t) s < 2 ^ n := by
  intro N
  induction N with
  | zero => intro _; exact hs
  | succ N ih =>
    intro hN
    rw [fold_succ]
    have := ih (by omega)
    split
    · obtain ⟨u, e, hu⟩ := hL.2 N (by omega)
      rw [e, Int.toNat_natCast]
      exact Nat.or_lt_two_pow this hu
    · exact this
theorem ansS_lt2 {n : Nat} {l : List Bool} {s : Nat} {L : List Int} (hs : s < 2 ^ n) (hL : Among n L) : ansS l s L < 2 ^ n := ansS_lt hs hL _ (Nat.le_refl _)
theorem I.answeredBy_n {n : Nat} (hn : n ≤ 6) {l : List Bool} (hl : l.length = 2 ^ n) {s : Nat} (hs : s < 2 ^ n) {L : List Int} (hL : Among n L) : I.answeredBy_t l (s : Int) L = some ((ansS l s L : Nat) : Int) := by
  unfold I.answeredBy_t I.answeredBy_tree
  have h64 := pow_le_64 hn
  have hlen := hL.1
  have := (run_for (run := I.answeredBy_run3 l L) (len := L.length) (fun k (t : Nat) => ((t : Int), (k : Int))) (fun t k => if D.elb l (D.eli L k).toNat = true then t ||| (D.eli L k).toNat else t) (fun t => (t : Int)) (fun k t => t < 2 ^ n) (by omega) (fun f k t hk ht => ?_) (fun f t ht => ?_) (t0 := s) hs).1
  · exact congrArg (fun o => optC o (fun q => some q) none) this
  · obtain ⟨u, e, hu⟩ := hL.2 k hk
    simp only [I.answeredBy_run3, I.answeredBy_step3]
    rw [cnd_t (by simp; omega), cnd_t (by simp; omega), Int.toNat_natCast, e, Int.toNat_natCast, cnd_t (by simp only [Bool.and_eq_true, decide_eq_true_eq]; omega), add1_nat (by omega)]
    cases hb : D.elb l u with
    | true =>
      rw [cond_true, if_pos rfl, cnd_t (by simp; omega), i64_or_nat _ _ (by omega) (by omega)]
      exact ⟨rfl, Nat.or_lt_two_pow ht hu⟩
    | false => rw [cond_false, if_neg (by simp)]; exact ⟨rfl, ht⟩
  · simp only [I.answeredBy_run3, I.answeredBy_step3]
    rw [cnd_f (by simp)]
/-- The sets that last, if those that a kind has are closed under it, and all that are closed are of the kind. -/
theorem I.lastingIn_n {net : List Int} (h : Ok net) {R : List (List Int)} (hR : R.length = 2 ^ net.length) (hA : ∀ s, s < 2 ^ net.length → Among net.length (D.elr R s)) {G : Nat → Prop}
    (hG : ∀ m : List Bool, m.length = 2 ^ net.length → (∀ s, s < 2 ^ net.length → G s → D.elb m s = true) → ∀ s, s < 2 ^ net.length → G s → (ansS m s (D.elr R s) == allOf net) = true)
    (hS : ∀ m : List Bool, m.length = 2 ^ net.length → (∀ s, s < 2 ^ net.length → D.elb m s = true → (ansS m s (D.elr R s) == allOf net) = true) → ∀ s, s < 2 ^ net.length → D.elb m s = true → G s) :
    ∃ m : List Bool, I.lastingIn_t net R = some m ∧ m.length = 2 ^ net.length ∧ ∀ s, s < 2 ^ net.length → (D.elb m s = true ↔ G s) := by
  unfold I.lastingIn_t I.lastingIn_tree
  have h6 := h.hi
  have h64 := h.pow
  have hsu := allOf_succ net
  rw [I.allOf_n h]
  simp only [optC]
  rw [add1_nat (by omega), hsu, Int.toNat_natCast, cnd_t (by simp only [D.small, Bool.and_true, Bool.and_eq_true, decide_eq_true_eq]; exact ⟨Int.natCast_nonneg _, by omega⟩)]
  have l3 := (run_for (run := I.lastingIn_run3 net R) (len := 2 ^ net.length) (fun k (t : List Bool) => ((k : Int), t)) (fun t k => t.set k true) (fun t => t) (fun k t => t.length = 2 ^ net.length ∧ ∀ j, j < k → D.elb t j = true) (by omega) (fun n k t hk ht => ?_) (fun n t ht => ?_) (t0 := List.replicate (2 ^ net.length) false) ⟨by simp, fun j hj => by omega⟩)
  · obtain ⟨e1, hl, hall⟩ := l3
    rw [show I.lastingIn_run3 net R FUEL (0, List.replicate (2 ^ net.length) false) = _ from e1]
    simp only [optC]
    generalize fold (2 ^ net.length) (fun (t : List Bool) k => t.set k true) (List.replicate (2 ^ net.length) false) = T at hl hall ⊢
    have hF := FUEL_le
    obtain ⟨m, r1, r2, r3, r4⟩ := settles (H := fun m s => ansS m s (D.elr R s) == allOf net) (N := 2 ^ net.length) (G := G) hG (run := I.lastingIn_run7 net R) (fun n l hl => by
      have l10 := (run_for (run := I.lastingIn_run10 net R) (len := 2 ^ net.length) (fun k (t : Bool × List Bool) => (t.1, (k : Int), t.2)) (sweepStep (fun m s => ansS m s (D.elr R s) == allOf net)) (fun t => (t.1, t.2)) (fun k t => t.2.length = 2 ^ net.length) (by omega) (fun n k t hk ht => by
        simp only [I.lastingIn_run10, I.lastingIn_step10]
        rw [I.allOf_n h]
        simp only [optC]
        rw [cnd_t (by rw [decide_eq_true_eq]; omega), cnd_t (by simp; omega), Int.toNat_natCast, cnd_t (by simp; omega), add1_nat (by omega)]
        unfold sweepStep
        cases hb : D.elb t.2 k with
        | false => simp only [cond_false, Bool.false_and, Bool.false_eq_true, if_false]; exact ⟨trivial, ht⟩
        | true =>
          have hlt := ansS_lt2 (l := t.2) (s := k) hk (hA k hk)
          rw [cond_true, cnd_t (by simp; omega), I.answeredBy_n h6 ht hk (hA k hk)]
          simp only [optC, Bool.true_and]
          rw [nat_beq]
          cases hh : (ansS t.2 k (D.elr R k) == allOf net) with
          | true => simp only [Bool.not_true, cond_false, Bool.false_eq_true, if_false]; exact ⟨trivial, ht⟩
          | false =>
            simp only [Bool.not_false, cond_true, if_true]
            rw [cnd_t (by simp; omega), cnd_t (by simp; omega)]
            exact ⟨rfl, by simp [ht]⟩) (fun n t ht => by
        simp only [I.lastingIn_run10, I.lastingIn_step10]
        rw [I.allOf_n h]
        simp only [optC]
        rw [cnd_f (by rw [decide_eq_false_iff_not]; omega)]) (t0 := (false, l)) hl).1
      simp only [I.lastingIn_run7, I.lastingIn_step7]
      rw [cond_true, show I.lastingIn_run10 net R FUEL (false, 0, l) = _ from l10]
      rfl) (fun n l => by simp only [I.lastingIn_run7, I.lastingIn_step7]; rfl) (2 ^ net.length) T hl (by have := trues_le T; omega) (fun s hs _ => hall s hs) FUEL (by omega)
    rw [r1]
    simp only
    exact ⟨m, rfl, r2, fun s hs => ⟨hS m r2 r4 s hs, r3 s hs⟩⟩
  · simp only [I.lastingIn_run3, I.lastingIn_step3]
    have hl := ht.1
    rw [I.allOf_n h]
    simp only [optC]
    rw [cnd_t (by rw [decide_eq_true_eq]; omega), cnd_t (by simp; omega), Int.toNat_natCast, cnd_t (by simp; omega), add1_nat (by omega)]
    refine ⟨rfl, by simp [hl], fun j hj => ?_⟩
    rw [elb_set (by omega)]
    by_cases he : j = k
    · rw [if_pos he]
    · rw [if_neg he]; exact ht.2 j (by omega)
  · simp only [I.lastingIn_run3, I.lastingIn_step3]
    rw [I.allOf_n h]
    simp only [optC]
    rw [cnd_f (by rw [decide_eq_false_iff_not]; omega)]
theorem all_bits {net : List Int} {x : Nat} (hx : x < 2 ^ net.length) : (x == allOf net) = true ↔ ∀ k, k < net.length → x.testBit k = true := by
  rw [beq_iff_eq]
  constructor
  · intro e k hk; rw [e, allOf_testBit]; simpa using hk
  · intro ha
    exact eq_of_bits hx (allOf_lt net) (fun j hj => by rw [ha j hj, allOf_testBit]; simp [hj])
theorem mem_at {L : List Int} {x : Int} (h : x ∈ L) : ∃ k, k < L.length ∧ D.eli L k = x := by
  obtain ⟨k, hk, e⟩ := List.getElem_of_mem h
  exact ⟨k, hk, by unfold D.eli; simp [List.getD, hk, e]⟩
theorem at_mem {L : List Int} {k : Nat} (hk : k < L.length) : D.eli L k ∈ L := by
  have : D.eli L k = L[k] := by unfold D.eli; simp [List.getD, hk]
  rw [this]; exact List.getElem_mem hk
theorem mvs_among {net : List Int} (h : Ok net) {s : Nat} (hs : s < 2 ^ net.length) : Among net.length (mvs net s) := by
  refine ⟨by have := mvs_len h s; omega, fun k hk => ?_⟩
  obtain ⟨f, t, _, ht, _, e⟩ := (mvs_mem net s _).1 (at_mem hk)
  exact ⟨_, e, moved_lt hs ht⟩
theorem I.eternalIn_n {net : List Int} (h : Ok net) : I.eternalIn_t net = some (lasts net) := by
  unfold I.eternalIn_t I.eternalIn_tree
  have h6 := h.hi
  have h64 := h.pow
  rw [I.movesIn_n h]
  simp only [optC]
  obtain ⟨m, e, hm, hiff⟩ := I.lastingIn_n h (R := (List.range (2 ^ net.length)).map (mvs net)) (by simp) (fun s hs => by rw [rows_at hs]; exact mvs_among h hs) (G := Eternal net)
    (fun m hm hin s hs he => by
      rw [rows_at hs, all_bits (ansS_lt2 hs (mvs_among h hs))]
      intro k hk
      refine (ansS_bit _ _ _ _).2 ?_
      cases hb : s.testBit k with
      | true => exact .inl rfl
      | false =>
        right
        obtain ⟨f, a, b, c⟩ := eternal_closed net s hs he k hk hb
        have hf := in_lt hs a
        obtain ⟨i, hi, ei⟩ := mem_at ((mvs_mem net s _).2 ⟨f, k, hf, hk, by unfold mayMove; rw [a, hb, h.sym k f hk hf, b]; rfl, rfl⟩)
        refine ⟨i, hi, ?_, ?_⟩
        · rw [ei, Int.toNat_natCast]; exact hin _ (moved_lt hs hk) c
        · rw [ei, Int.toNat_natCast]; exact (moved_testBit (by omega) (by omega) a k).2 (.inr rfl))
    (fun m hm hst s hs hb => by
      refine ⟨fun q => q < 2 ^ net.length ∧ D.elb m q = true, fun t ht ⟨_, htm⟩ k hk hbk => ?_, hs, hb⟩
      have hx := hst t ht htm
      rw [rows_at ht, all_bits (ansS_lt2 ht (mvs_among h ht))] at hx
      rcases (ansS_bit _ _ _ _).1 (hx k hk) with h1 | ⟨i, hi, h1, h2⟩
      · rw [hbk] at h1; cases h1
      · obtain ⟨f, u, hf, hu, hmv, e⟩ := (mvs_mem net t _).1 (at_mem hi)
        obtain ⟨a, b, c⟩ := mayMove_bit hmv
        rw [e, Int.toNat_natCast] at h1 h2
        rcases (moved_testBit (by omega) (by omega) a k).1 h2 with ⟨hc, _⟩ | hc
        · rw [hbk] at hc; cases hc
        · subst hc
          exact ⟨f, a, by rw [h.sym f k hf hk]; exact c, moved_lt ht hk, h1⟩)
  rw [e]
  simp only
  congr 1
  refine elb_ext (by rw [hm, lasts_len]) (fun s hs => ?_)
  rw [hm] at hs
  rw [lasts_elb hs, Bool.eq_iff_iff, eternalB_iff]
  exact hiff s hs
theorem I.fewestIn_n {l : List Bool} (hl : l.length ≤ 64) : I.fewestIn_t l = some (fold l.length (minStepV (D.elb l) size) (-1)) := by
  unfold I.fewestIn_t I.fewestIn_tree
  have := (run_for (run := I.fewestIn_run3 l) (len := l.length) (fun k (t : Int) => (t, (k : Int))) (minStepV (D.elb l) size) (fun t => t) (fun k t => -1 ≤ t ∧ t ≤ (6 : Nat)) (by omega) (fun n k t hk ht => ?_) (fun n t ht => ?_) (t0 := -1) (by omega)).1
  · exact congrArg (fun o => optC o (fun q => some q) none) this
  · refine ⟨?_, minStepV_bound (size_le k) ht⟩
    simp only [I.fewestIn_run3, I.fewestIn_step3]
    rw [cnd_t (by simp; omega), cnd_t (by simp; omega), Int.toNat_natCast, add1_nat (by omega)]
    cases hp : D.elb l k with
    | false => rw [cond_false, minStepV_no hp]
    | true =>
      rw [cond_true, I.sizeOf_n]
      simp only [optC]
      rw [I.fewerOf_V (D.elb l) size hp]
  · simp only [I.fewestIn_run3, I.fewestIn_step3]
    rw [cnd_f (by simp)]
theorem fewest_marks {net : List Int} (h : Ok net) {l : List Bool} (hl : l.length = 2 ^ net.length) {p : Nat → Bool} (hp : ∀ s, s < 2 ^ net.length → D.elb l s = p s) (hex : ∃ s, s < 2 ^ net.length ∧ p s = true) :
    fold l.length (minStepV (D.elb l) size) (-1) = ((minSize net p : Nat) : Int) := by
  rw [← minI_min h hex, hl]
  unfold minI
  rw [minStep_V]
  have key : ∀ N, N ≤ 2 ^ net.length → fold N (minStepV (D.elb l) size) (-1) = fold N (minStepV p size) (-1) := by
    intro N
    induction N with
    | zero => intro _; rfl
    | succ N ih =>
      intro hN
      rw [fold_succ, fold_succ, ih (by omega)]
      unfold minStepV
      rw [hp N (by omega)]
  exact key _ (Nat.le_refl _)
theorem I.EternalOk_x {net : List Int} (e : I.NetOk_t net = some false) (s : Int) : I.EternalOk_t net s = some false := by
  unfold I.EternalOk_t I.EternalOk_tree; rw [e]; rfl
theorem I.EternalOk_n {net : List Int} (h : Ok net) (e : I.NetOk_t net = some true) (s : Int) : I.EternalOk_t net s = some (decide (0 ≤ s ∧ s < 2 ^ net.length) && eternalB net s.toNat) := by
  unfold I.EternalOk_t I.EternalOk_tree
  rw [e]
  simp only [optC]
  rw [cond_true, I.setIn_n h]
  simp only
  rcases set_cases h s with ⟨t, rfl, ht, hd⟩ | hd
  · rw [hd, cond_true, I.eternalIn_n h]
    simp only
    rw [lasts_len, cnd_t (by simp only [Bool.and_eq_true, decide_eq_true_eq]; omega), Int.toNat_natCast, cnd_t (by simpa using ht), lasts_elb ht]
    rfl
  · rw [hd]; rfl
end Go.Proofs.Ytgocpgkhbamkcaa
/- All guards move: a place for one more guard, who is matched already may have to take another one. Conditions: those of each theorem. -/
namespace Go.Proofs.Ytgocpgkhbamkcaa
open D Go.RowKit
set_option linter.unusedVariables false
set_option linter.unusedSimpArgs false

theorem cnt_some {n : Nat} {P : Nat → Bool} (h : 1 ≤ cnt n P) : ∃ p, p < n ∧ P p = true := Classical.byContradiction fun hc => by
  have : cnt n P = cnt n (fun _ => false) := cnt_congr fun k hk => not_true fun hP => hc ⟨k, hk, hP⟩
  have hz : cnt n (fun _ => false) = 0 := sumN_zero n
  omega
theorem cnt_once {n : Nat} {P : Nat → Bool} (h : cnt n P ≤ 1) {p q : Nat} (hp : p < n) (hq : q < n) (a : P p = true) (b : P q = true) : p = q := Classical.byContradiction fun hne => by
  have := cnt_inj (n := 2) (m := n) (p := fun _ => true) (q := P) (fun k => if k = 0 then p else q) (fun k hk _ => by
    show (if k = 0 then p else q) < n ∧ P (if k = 0 then p else q) = true
    split
    · exact ⟨hp, a⟩
    · exact ⟨hq, b⟩) (fun j k hj hk _ _ he => by
    by_cases h1 : j = 0 <;> by_cases h2 : k = 0 <;> simp only [h1, h2, if_true, if_false] at he <;> omega)
  rw [cnt_true] at this
  omega
/-- Whom a place has is near, and the place is one of the new ones. -/
def KValid (net : List Int) (to : Nat) (c : Nat → Nat) : Prop := ∀ p, p < 6 → c p ≠ 0 → to.testBit p = true ∧ (ball net (c p - 1)).testBit p = true ∧ c p ≤ net.length
def upd (c : Nat → Nat) (k v p : Nat) : Nat := if p = k then v else c p
structure KOut (net : List Int) (to g T : Nat) (c : Nat → Nat) (T' : Nat) (c' : Nat → Nat) (f : Bool) : Prop where
  lt : T' < 2 ^ net.length
  sub : ∀ p, T.testBit p = true → T'.testBit p = true
  no : f = false → (∀ p, p < 6 → c' p = c p) ∧ (∀ p, to.testBit p = true → (ball net g).testBit p = true → T'.testBit p = true) ∧
    ∀ p, T'.testBit p = true → T.testBit p = false → c p ≠ 0 ∧ ∀ q, to.testBit q = true → (ball net (c p - 1)).testBit q = true → T'.testBit q = true
  yes : f = true → (∀ p, p < 6 → T.testBit p = true → c' p = c p) ∧ KValid net to c' ∧ ∀ x, cnt 6 (fun p => !T.testBit p && c' p == x + 1) = cnt 6 (fun p => !T.testBit p && c p == x + 1) + (decide (x = g)).toNat
structure KInv (net : List Int) (to g T0 : Nat) (c : Nat → Nat) (k T : Nat) : Prop where
  lt : T < 2 ^ net.length
  sub : ∀ p, T0.testBit p = true → T.testBit p = true
  done : ∀ p, p < k → to.testBit p = true → (ball net g).testBit p = true → T.testBit p = true
  clo : ∀ p, T.testBit p = true → T0.testBit p = false → c p ≠ 0 ∧ ∀ q, to.testBit q = true → (ball net (c p - 1)).testBit q = true → T.testBit q = true
theorem kinv_start {net : List Int} {to g T0 : Nat} {c : Nat → Nat} (h : T0 < 2 ^ net.length) : KInv net to g T0 c 0 T0 :=
  ⟨h, fun p hp => hp, fun p hp => by omega, fun p hp hn => by rw [hp] at hn; cases hn⟩
theorem kinv_skip {net : List Int} {to g T0 : Nat} {c : Nat → Nat} {k T : Nat} (h : KInv net to g T0 c k T) (hc : to.testBit k = true → (ball net g).testBit k = true → T.testBit k = true) : KInv net to g T0 c (k + 1) T :=
  ⟨h.lt, h.sub, fun p hp a b => by
    by_cases he : p = k
    · subst he; exact hc a b
    · exact h.done p (by omega) a b, h.clo⟩
theorem or_pow {T k p : Nat} : (T ||| 2 ^ k).testBit p = true ↔ T.testBit p = true ∨ p = k := by
  rw [Nat.testBit_or, testBit_pow, Bool.or_eq_true, decide_eq_true_eq]
  exact ⟨fun a => a.imp id Eq.symm, fun a => a.imp id Eq.symm⟩
theorem or_pow_f {T k p : Nat} : (T ||| 2 ^ k).testBit p = false ↔ T.testBit p = false ∧ p ≠ k := by
  rw [Nat.testBit_or, testBit_pow, Bool.or_eq_false_iff, decide_eq_false_iff_not]
  exact ⟨fun a => ⟨a.1, fun e => a.2 e.symm⟩, fun a => ⟨a.1, fun e => a.2 e.symm⟩⟩
theorem kinv_fail {net : List Int} {to g T0 : Nat} {c : Nat → Nat} {k T T2 : Nat} {c2 : Nat → Nat} (h : KInv net to g T0 c k T) (hck : c k ≠ 0)
    (ho : KOut net to (c k - 1) (T ||| 2 ^ k) c T2 c2 false) : KInv net to g T0 c (k + 1) T2 := by
  obtain ⟨h1, h2, h3⟩ := ho.no rfl
  have hTT : ∀ p, T.testBit p = true → T2.testBit p = true := fun p hp => ho.sub p (or_pow.2 (.inl hp))
  refine ⟨ho.lt, fun p hp => hTT p (h.sub p hp), fun p hp a b => ?_, fun p hp hn => ?_⟩
  · by_cases he : p = k
    · subst he; exact ho.sub p (or_pow.2 (.inr rfl))
    · exact hTT p (h.done p (by omega) a b)
  · by_cases he : p = k
    · subst he
      exact ⟨hck, h2⟩
    · cases hT : T.testBit p with
      | true =>
        obtain ⟨a, b⟩ := h.clo p hT hn
        exact ⟨a, fun q hq hb => hTT q (b q hq hb)⟩
      | false => exact h3 p hp (or_pow_f.2 ⟨hT, he⟩)
theorem kout_end {net : List Int} (h : Ok net) {to g T0 : Nat} {c : Nat → Nat} {T : Nat} (hg : g < net.length) (hi : KInv net to g T0 c net.length T) : KOut net to g T0 c T c false :=
  ⟨hi.lt, hi.sub, fun _ => ⟨fun _ _ => rfl, fun p a b => hi.done p (testBit_lt (h.ball_lt hg) b) a b, hi.clo⟩, fun hf => (by cases hf)⟩
theorem kout_free {net : List Int} {to g T0 : Nat} {c : Nat → Nat} {k T : Nat} (hn : net.length ≤ 6) (hi : KInv net to g T0 c k T) (hv : KValid net to c) (hg : g < net.length) (hk : k < net.length)
    (a : to.testBit k = true) (b : (ball net g).testBit k = true) (hT : T.testBit k = false) (hck : c k = 0) : KOut net to g T0 c (T ||| 2 ^ k) (upd c k (g + 1)) true := by
  have hT0 : T0.testBit k = false := not_true fun hc => by rw [hi.sub k hc] at hT; cases hT
  refine ⟨Nat.or_lt_two_pow hi.lt (Nat.pow_lt_pow_right (by omega) hk), fun p hp => or_pow.2 (.inl (hi.sub p hp)), fun hf => (by cases hf), fun _ => ⟨fun p hp hT2 => ?_, fun p hp h0 => ?_, fun x => ?_⟩⟩
  · unfold upd
    rw [if_neg (fun he => by rw [he, hT0] at hT2; cases hT2)]
  · unfold upd at h0 ⊢
    by_cases he : p = k
    · simp only [he, if_true]
      exact ⟨a, by simpa using b, by omega⟩
    · rw [if_neg he] at h0 ⊢
      exact hv p hp h0
  · have hs := sumN_add 6 (fun p => (!T0.testBit p && c p == x + 1).toNat) (fun p => (decide (p = k) && decide (x = g)).toNat)
    have e1 : sumN 6 (fun p => (decide (p = k) && decide (x = g)).toNat) = (decide (x = g)).toNat := by
      rw [sumN_one (k := k) (by omega) (fun j _ hj => by simp [hj])]
      simp
    rw [e1] at hs
    show sumN 6 _ = sumN 6 _ + _
    rw [← hs]
    refine sumN_congr fun p hp => ?_
    show (!T0.testBit p && upd c k (g + 1) p == x + 1).toNat = (!T0.testBit p && c p == x + 1).toNat + (decide (p = k) && decide (x = g)).toNat
    unfold upd
    by_cases he : p = k
    · subst he
      rw [hT0, hck]
      by_cases hx : x = g
      · subst hx; simp
      · have : ¬ g = x := fun e => hx e.symm
        simp [hx, this]
    · rw [if_neg he]
      simp [he]
theorem kout_take {net : List Int} {to g T0 : Nat} {c : Nat → Nat} {k T T2 : Nat} {c2 : Nat → Nat} (hn : net.length ≤ 6) (hi : KInv net to g T0 c k T) (hg : g < net.length) (hk : k < net.length)
    (a : to.testBit k = true) (b : (ball net g).testBit k = true) (hT : T.testBit k = false) (hck : c k ≠ 0) (ho : KOut net to (c k - 1) (T ||| 2 ^ k) c T2 c2 true) : KOut net to g T0 c T2 (upd c2 k (g + 1)) true := by
  obtain ⟨h1, h2, h3⟩ := ho.yes rfl
  have hT0 : T0.testBit k = false := not_true fun hc => by rw [hi.sub k hc] at hT; cases hT
  refine ⟨ho.lt, fun p hp => ho.sub p (or_pow.2 (.inl (hi.sub p hp))), fun hf => (by cases hf), fun _ => ⟨fun p hp hT2 => ?_, fun p hp h0 => ?_, fun x => ?_⟩⟩
  · unfold upd
    rw [if_neg (fun he => by rw [he, hT0] at hT2; cases hT2)]
    exact h1 p hp (or_pow.2 (.inl (hi.sub p hT2)))
  · unfold upd at h0 ⊢
    by_cases he : p = k
    · simp only [he, if_true]
      exact ⟨a, by simpa using b, by omega⟩
    · rw [if_neg he] at h0 ⊢
      exact h2 p hp h0
  · have h3x := h3 x
    have hone : ∀ y : Nat, sumN 6 (fun p => (decide (p = k) && decide (x = y)).toNat) = (decide (x = y)).toNat := fun y => by
      rw [sumN_one (k := k) (by omega) (fun j _ hj => by simp [hj])]
      simp
    have hL := sumN_add 6 (fun p => (!T0.testBit p && upd c2 k (g + 1) p == x + 1).toNat) (fun p => (!(T ||| 2 ^ k).testBit p && c p == x + 1).toNat + (decide (p = k) && decide (x = c k - 1)).toNat)
    have hL2 := sumN_add 6 (fun p => (!(T ||| 2 ^ k).testBit p && c p == x + 1).toNat) (fun p => (decide (p = k) && decide (x = c k - 1)).toNat)
    have hR := sumN_add 6 (fun p => (!T0.testBit p && c p == x + 1).toNat) (fun p => (!(T ||| 2 ^ k).testBit p && c2 p == x + 1).toNat + (decide (p = k) && decide (x = g)).toNat)
    have hR2 := sumN_add 6 (fun p => (!(T ||| 2 ^ k).testBit p && c2 p == x + 1).toNat) (fun p => (decide (p = k) && decide (x = g)).toNat)
    have hE := sumN_congr (n := 6) (f := fun p => (!T0.testBit p && upd c2 k (g + 1) p == x + 1).toNat + ((!(T ||| 2 ^ k).testBit p && c p == x + 1).toNat + (decide (p = k) && decide (x = c k - 1)).toNat))
      (g := fun p => (!T0.testBit p && c p == x + 1).toNat + ((!(T ||| 2 ^ k).testBit p && c2 p == x + 1).toNat + (decide (p = k) && decide (x = g)).toNat)) (fun p hp => by
        unfold upd
        by_cases he : p = k
        · subst he
          rw [hT0, or_pow.2 (.inr rfl)]
          have e1 : (g + 1 == x + 1) = decide (x = g) := by rw [Bool.eq_iff_iff, beq_iff_eq, decide_eq_true_eq]; omega
          have e2 : (c p == x + 1) = decide (x = c p - 1) := by rw [Bool.eq_iff_iff, beq_iff_eq, decide_eq_true_eq]; omega
          simp only [if_true, Bool.not_false, Bool.not_true, Bool.true_and, Bool.false_and, e1, e2, decide_true]
          simp only [Bool.toNat_false]
          omega
        · simp only [if_neg he, decide_eq_false he, Bool.false_and, Bool.toNat_false, Nat.add_zero]
          cases hTp : (T ||| 2 ^ k).testBit p with
          | true => rw [h1 p hp hTp]
          | false =>
            have : T0.testBit p = false := not_true fun hc => by
              have := (or_pow_f.1 hTp).1
              rw [hi.sub p hc] at this; cases this
            rw [this]
            simp only [Bool.not_false, Bool.true_and]
            omega)
    rw [hone] at hL2 hR2
    have e0 : cnt 6 (fun p => !T0.testBit p && upd c2 k (g + 1) p == x + 1) = sumN 6 (fun p => (!T0.testBit p && upd c2 k (g + 1) p == x + 1).toNat) := rfl
    have e1 : cnt 6 (fun p => !T0.testBit p && c p == x + 1) = sumN 6 (fun p => (!T0.testBit p && c p == x + 1).toNat) := rfl
    have e2 : cnt 6 (fun p => !(T ||| 2 ^ k).testBit p && c2 p == x + 1) = sumN 6 (fun p => (!(T ||| 2 ^ k).testBit p && c2 p == x + 1).toNat) := rfl
    have e3 : cnt 6 (fun p => !(T ||| 2 ^ k).testBit p && c p == x + 1) = sumN 6 (fun p => (!(T ||| 2 ^ k).testBit p && c p == x + 1).toNat) := rfl
    rw [hL2] at hL
    rw [hR2] at hR
    rw [hE] at hL
    omega
/-- Those of the guards below k that are in a set have one place each. -/
def KDone (src : Nat) (c : Nat → Nat) (k : Nat) : Prop := ∀ x, cnt 6 (fun p => c p == x + 1) = (decide (x < k) && src.testBit x).toNat
theorem kdone_start (src : Nat) {c : Nat → Nat} (hc : ∀ p, p < 6 → c p = 0) : KDone src c 0 := fun x => by
  rw [cnt_congr (q := fun _ => false) (fun p hp => by rw [hc p hp]; simp)]
  exact sumN_zero 6
theorem kdone_skip {src k : Nat} {c : Nat → Nat} (h : KDone src c k) (hb : src.testBit k = false) : KDone src c (k + 1) := fun x => by
  rw [h x]
  congr 1
  by_cases he : x = k
  · subst he; rw [hb, Bool.and_false, Bool.and_false]
  · congr 1
    rw [decide_eq_decide]; omega
theorem cnt_zero_T {c : Nat → Nat} (x : Nat) : cnt 6 (fun p => !(0 : Nat).testBit p && c p == x + 1) = cnt 6 (fun p => c p == x + 1) := cnt_congr fun p _ => by simp
theorem kdone_step {net : List Int} {src to k T' : Nat} {c c' : Nat → Nat} (h : KDone src c k) (hb : src.testBit k = true) (ho : KOut net to k 0 c T' c' true) : KDone src c' (k + 1) := fun x => by
  have := (ho.yes rfl).2.2 x
  rw [cnt_zero_T, cnt_zero_T, h x] at this
  rw [this]
  by_cases he : x = k
  · subst he; simp [hb]
  · have e1 : decide (x < k + 1) = decide (x < k) := by rw [decide_eq_decide]; omega
    rw [e1, decide_eq_false he]; simp
theorem kuhn_no {net : List Int} (h : Ok net) {src to k T' : Nat} {c c' : Nat → Nat} (hto : to < 2 ^ net.length) (hd : KDone src c k) (hb : src.testBit k = true) (ho : KOut net to k 0 c T' c' false) : ¬ FitP net src 0 to := by
  rintro ⟨f, f1, f2⟩
  obtain ⟨_, h2, h3⟩ := ho.no rfl
  have h6 := h.hi
  have hT6 : ∀ p, T'.testBit p = true → p < 6 := fun p hp => by have := testBit_lt ho.lt hp; omega
  have hin : ∀ p, T'.testBit p = true → c p ≠ 0 ∧ c p - 1 < k ∧ src.testBit (c p - 1) = true := fun p hp => by
    have h0 := (h3 p hp (by simp)).1
    have hc := hd (c p - 1)
    have h1 : 1 ≤ cnt 6 (fun q => c q == c p - 1 + 1) := by
      have := cnt_inj (n := 1) (m := 6) (p := fun _ => true) (q := fun q => c q == c p - 1 + 1) (fun _ => p) (fun j _ _ => ⟨hT6 p hp, by simp only [beq_iff_eq]; omega⟩) (fun i j hi hj _ _ _ => by omega)
      rw [cnt_true] at this
      exact this
    rw [hc] at h1
    cases hx : decide (c p - 1 < k) && src.testBit (c p - 1) with
    | false => rw [hx] at h1; simp at h1
    | true =>
      rw [Bool.and_eq_true, decide_eq_true_eq] at hx
      exact ⟨h0, hx.1, hx.2⟩
  have hinj : ∀ p q, T'.testBit p = true → T'.testBit q = true → c p = c q → p = q := fun p q hp hq he => by
    have hc := hd (c p - 1)
    have h0 := (hin p hp).1
    exact cnt_once (n := 6) (P := fun r => c r == c p - 1 + 1) (by rw [hc]; cases (decide (c p - 1 < k) && src.testBit (c p - 1)) <;> simp) (hT6 p hp) (hT6 q hq) (by simp only [beq_iff_eq]; omega) (by simp only [beq_iff_eq]; omega)
  have key := cnt_inj (n := 7) (m := 6) (p := fun p => decide (p = 6) || T'.testBit p) (q := fun p => T'.testBit p) (fun p => if p = 6 then f k else f (c p - 1)) (fun p hp hP => by
    by_cases he : p = 6
    · rw [if_pos he]
      obtain ⟨a, b⟩ := f1 k (by omega) hb
      have := h2 _ a b
      exact ⟨hT6 _ this, this⟩
    · rw [if_neg he]
      have hTp : T'.testBit p = true := by simpa [he] using hP
      obtain ⟨a, b⟩ := f1 (c p - 1) (by omega) (hin p hTp).2.2
      have := (h3 p hTp (by simp)).2 _ a b
      exact ⟨hT6 _ this, this⟩) (fun p q hp hq hP hQ he => by
    by_cases e1 : p = 6
    · by_cases e2 : q = 6
      · omega
      · rw [if_pos e1, if_neg e2] at he
        have hTq : T'.testBit q = true := by simpa [e2] using hQ
        obtain ⟨_, a, b⟩ := hin q hTq
        have := f2 k (c q - 1) (by omega) (by omega) hb b he
        omega
    · have hTp : T'.testBit p = true := by simpa [e1] using hP
      obtain ⟨a0, a, b⟩ := hin p hTp
      by_cases e2 : q = 6
      · rw [if_neg e1, if_pos e2] at he
        have := f2 (c p - 1) k (by omega) (by omega) b hb he
        omega
      · rw [if_neg e1, if_neg e2] at he
        have hTq : T'.testBit q = true := by simpa [e2] using hQ
        obtain ⟨b0, a2, b2⟩ := hin q hTq
        have := f2 (c p - 1) (c q - 1) (by omega) (by omega) b b2 he
        exact hinj p q hTp hTq (by omega))
  have e7 : cnt 7 (fun p => decide (p = 6) || T'.testBit p) = cnt 6 (fun p => decide (p = 6) || T'.testBit p) + 1 := rfl
  rw [e7, cnt_congr (q := fun p => T'.testBit p) (fun p hp => by simp [show p ≠ 6 by omega])] at key
  omega
theorem kuhn_yes {net : List Int} (h : Ok net) {src to : Nat} {c : Nat → Nat} (hs : src < 2 ^ net.length) (hv : KValid net to c) (hd : KDone src c net.length) : FitP net src 0 to := by
  have hex : ∀ x, ∃ p, src.testBit x = true → p < 6 ∧ c p = x + 1 := fun x => by
    cases hb : src.testBit x with
    | false => exact ⟨0, fun hc => by cases hc⟩
    | true =>
      have hx := in_lt hs hb
      have hc := hd x
      rw [hb, decide_eq_true hx] at hc
      obtain ⟨p, hp, he⟩ := cnt_some (n := 6) (P := fun p => c p == x + 1) (by rw [hc]; decide)
      exact ⟨p, fun _ => ⟨hp, by simpa using he⟩⟩
  refine ⟨fun x => (hex x).choose, fun x _ hb => ?_, fun x y _ _ hx hy he => ?_⟩
  · obtain ⟨hp, hc⟩ := (hex x).choose_spec hb
    obtain ⟨a, b, _⟩ := hv _ hp (by omega)
    exact ⟨a, by rw [hc] at b; exact b⟩
  · obtain ⟨_, hc⟩ := (hex x).choose_spec hx
    obtain ⟨_, hc2⟩ := (hex y).choose_spec hy
    simp only at he
    rw [he] at hc
    omega
end Go.Proofs.Ytgocpgkhbamkcaa
