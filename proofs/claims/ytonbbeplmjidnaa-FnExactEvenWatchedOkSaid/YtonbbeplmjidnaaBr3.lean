/- Other ways to the sets and numbers of chapters 3 to 5. Conditions: those of each theorem. -/
import Derived.Test.YtonbbeplmjidnaaCh5
namespace Go.Proofs.Ytonbbeplmjidnaa
set_option linter.unusedVariables false
set_option linter.unusedSimpArgs false

theorem minus_twice {net : List Int} (h : Ok net) {s g : Nat} (hs : s < 2 ^ net.length) (hg : s.testBit g = true) : minus (ball net g) (twice net s) = priv net s g := by
  have h6 := h.hi
  have h64 := h.pow
  have hb := h.ball_lt (in_lt hs hg)
  have ht := twice_is h hs
  have htl := ht.lt
  refine Nat.eq_of_testBit_eq fun j => ?_
  rw [Bool.eq_iff_iff, minus_testBit _ _ (by omega) (by omega), Bool.and_eq_true, Bool.not_eq_true', priv_testBit h hs hg]
  constructor
  · rintro ⟨a, b⟩
    refine ⟨a, fun i hi hb2 => Classical.byContradiction fun hne => ?_⟩
    rw [(ht.bit j).2 ⟨i, g, hi, hg, hne, hb2, a⟩] at b; cases b
  · rintro ⟨a, b⟩
    refine ⟨a, not_true fun hc => ?_⟩
    obtain ⟨x, y, hx, hy, hxy, hbx, hby⟩ := (ht.bit j).1 hc
    exact hxy ((b x hx hbx).trans (b y hy hby).symm)
theorem fullA_watch {net : List Int} (h : Ok net) {s : Nat} (hs : s < 2 ^ net.length) : fullA net s = (apart net s && W net s) := by
  rw [Bool.eq_iff_iff, fullA_iff h hs, Bool.and_eq_true, apart_iff hs]
theorem fold_near (net : List Int) (s : Nat) : fold net.length (fun t k => if s.testBit k = true then t ||| nb net k else t) 0 = near net s := rfl
/-- One step of growing, told by the set with the place. -/
theorem grownStep_apart {net : List Int} (h : Ok net) {t k : Nat} (ht : t < 2 ^ net.length) (hk : k < net.length) (ha : Apart net t) : (if apart net (t ||| 2 ^ k) = true then t ||| 2 ^ k else t) = grownStep net t k := by
  unfold grownStep
  cases hb : t.testBit k with
  | true =>
    have e : t ||| 2 ^ k = t := Nat.eq_of_testBit_eq fun j => by
      rw [Bool.eq_iff_iff, or_testBit]
      exact ⟨fun a => a.elim id fun b => by rw [b]; exact hb, .inl⟩
    rw [e]; simp
  | false =>
    rw [Bool.not_false, Bool.true_and]
    congr 1
    rw [eq_iff_iff, beq_iff_eq, and_zero, apart_iff (or_lt ht hk)]
    constructor
    · intro hA i hi
      exact hA k i ((or_testBit _ _ _).2 (.inr rfl)) ((or_testBit _ _ _).2 (.inl hi))
    · exact fun hn => ha.add h ht hk hn
theorem grownStep_keeps {net : List Int} (h : Ok net) {t k : Nat} (ht : t < 2 ^ net.length) (hk : k < net.length) (ha : Apart net t) : Apart net (grownStep net t k) := by
  rw [← grownStep_apart h ht hk ha]
  split
  · rename_i hc; exact (apart_iff (or_lt ht hk)).1 hc
  · exact ha
def minStep (p : Nat → Bool) (t s : Nat) : Nat := if p s = true then (if size s < t then size s else t) else t
def maxStep (p : Nat → Bool) (t s : Nat) : Nat := if p s = true then (if size s > t then size s else t) else t
theorem minSize_fold (net : List Int) (p : Nat → Bool) : fold (2 ^ net.length) (minStep p) net.length = minSize net p := rfl
theorem maxSize_fold (net : List Int) (p : Nat → Bool) : fold (2 ^ net.length) (maxStep p) 0 = maxSize net p := rfl
theorem minStep_lt {p : Nat → Bool} {t s : Nat} (hl : size s < t) : minStep p t s = if p s = true then size s else t := by unfold minStep; rw [if_pos hl]
theorem minStep_ge {p : Nat → Bool} {t s : Nat} (hl : ¬ size s < t) : minStep p t s = t := by unfold minStep; rw [if_neg hl, ite_self]
theorem maxStep_lt {p : Nat → Bool} {t s : Nat} (hl : size s > t) : maxStep p t s = if p s = true then size s else t := by unfold maxStep; rw [if_pos hl]
theorem maxStep_ge {p : Nat → Bool} {t s : Nat} (hl : ¬ size s > t) : maxStep p t s = t := by unfold maxStep; rw [if_neg hl, ite_self]
theorem minStep_le {p : Nat → Bool} {t s : Nat} (ht : t ≤ 6) : minStep p t s ≤ 6 := by
  have := size_le s
  unfold minStep; split
  · split <;> omega
  · exact ht
theorem maxStep_le {p : Nat → Bool} {t s : Nat} (ht : t ≤ 6) : maxStep p t s ≤ 6 := by
  have := size_le s
  unfold maxStep; split
  · split <;> omega
  · exact ht
/-- Folds side by side. -/
theorem fold_pair {A B : Type} (f : A → Nat → A) (g : B → Nat → B) (n : Nat) (a : A) (b : B) : fold n (fun (q : A × B) k => (f q.1 k, g q.2 k)) (a, b) = (fold n f a, fold n g b) := by
  induction n with
  | zero => rfl
  | succ n ih => rw [fold_succ, fold_succ, fold_succ, ih]
end Go.Proofs.Ytonbbeplmjidnaa
