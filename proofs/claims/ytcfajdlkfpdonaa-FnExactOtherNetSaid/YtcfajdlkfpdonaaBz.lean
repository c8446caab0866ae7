/- Several texts in one: Shift, Dr3, S6, Pm, I3, I6, J7, S8b, J8, S9b, J9, Kuhn, Jm, J10, J13, J12, Ch11b, Ch11c, S11, I11, L2, L3, I12, L4, I5, L5, L12, Set, L13, Ex12. Conditions: those of each theorem. -/
import Derived.Test.YtcfajdlkfpdonaaBzb0
/- All guards move over a joined watch: one more guard than stand together. Conditions: those of each theorem. -/
namespace Go.Proofs.Ytcfajdlkfpdonaa
set_option linter.unusedVariables false
set_option linter.unusedSimpArgs false

/-- The way from a towards r by parents. -/
def wayTo (p : Nat → Nat) (r a : Nat) : Nat → Nat
  | 0 => a
  | i + 1 => if wayTo p r a i = r then r else p (wayTo p r a i)
theorem shift {net : List Int} (h : Ok net) {s : Nat} (hs : s < 2 ^ net.length) (hT : Together net s) {v w a b : Nat} (hv : v < net.length) (hvs : s.testBit v = false) (hw : w < net.length) (hws : s.testBit w = false)
    (ha : s.testBit a = true) (hva : (nb net v).testBit a = true) (hb : s.testBit b = true) (hbw : (nb net b).testBit w = true) : AllMove net (s ||| 2 ^ v) (s ||| 2 ^ w) := by
  have h6 := h.hi
  obtain ⟨lv, p, hl0, hp⟩ := steps_lvl h hs hb hT
  let q := wayTo p b a
  have q0 : q 0 = a := rfl
  have qs : ∀ i, q (i + 1) = if q i = b then b else p (q i) := fun i => rfl
  have qin : ∀ i, s.testBit (q i) = true := by
    intro i
    induction i with
    | zero => exact ha
    | succ i ih =>
      rw [qs]
      split
      · exact hb
      · rename_i hne; exact (hp _ ih hne).1
  have qlv : ∀ i, lv (q (i + 1)) ≤ lv (q i) := fun i => by
    rw [qs]
    split
    · rw [hl0]; exact Nat.zero_le _
    · rename_i hne; exact Nat.le_of_lt (hp _ (qin i) hne).2.2.1
  have qmono : ∀ i j, i ≤ j → lv (q j) ≤ lv (q i) := by
    intro i j hij
    induction j with
    | zero => obtain rfl : i = 0 := by omega
              exact Nat.le_refl _
    | succ j ih =>
      by_cases he : i = j + 1
      · rw [he]; exact Nat.le_refl _
      · exact Nat.le_trans (qlv j) (ih (by omega))
  have hvb : ∀ x, (s ||| 2 ^ v).testBit x = true ↔ s.testBit x = true ∨ x = v := fun x => or_testBit _ _ _
  have hwb : ∀ x, (s ||| 2 ^ w).testBit x = true ↔ s.testBit x = true ∨ x = w := fun x => or_testBit _ _ _
  -- on the way or not
  let f : Nat → Nat := fun x => if x = v then a else @ite _ (∃ i, q i = x) (Classical.propDecidable _) (if x = b then w else p x) x
  have f1 : ∀ x, x = v → f x = a := fun x hx => by show (if x = v then _ else _) = _; rw [if_pos hx]
  have f2 : ∀ x, x ≠ v → (∃ i, q i = x) → x = b → f x = w := fun x hx hi he => by show (if x = v then _ else _) = _; rw [if_neg hx, if_pos hi, if_pos he]
  have f3 : ∀ x, x ≠ v → (∃ i, q i = x) → x ≠ b → f x = p x := fun x hx hi he => by show (if x = v then _ else _) = _; rw [if_neg hx, if_pos hi, if_neg he]
  have f4 : ∀ x, x ≠ v → (¬ ∃ i, q i = x) → f x = x := fun x hx hi => by show (if x = v then _ else _) = _; rw [if_neg hx, if_neg hi]
  have sv : ∀ x, s.testBit x = true → x ≠ v := fun x hx he => by rw [he, hvs] at hx; cases hx
  have sw : ∀ x, s.testBit x = true → x ≠ w := fun x hx he => by rw [he, hws] at hx; cases hx
  have pway : ∀ x, (∃ i, q i = x) → x ≠ b → ∃ i, q i = p x := fun x ⟨i, hi⟩ hne => ⟨i + 1, by rw [qs, hi, if_neg hne]⟩
  refine ⟨?_, f, fun x hx => ?_, fun x y hx hy he => ?_⟩
  · rw [size_add (lt64 h hs) (by omega) hvs, size_add (lt64 h hs) (by omega) hws]
  · rcases (hvb x).1 hx with hx | hx
    · by_cases hi : ∃ i, q i = x
      · by_cases hxb : x = b
        · rw [f2 x (sv x hx) hi hxb, hxb]
          exact ⟨(hwb w).2 (.inr rfl), (ball_testBit _ _ _).2 (.inl hbw)⟩
        · rw [f3 x (sv x hx) hi hxb]
          obtain ⟨c, d, _⟩ := hp x hx hxb
          exact ⟨(hwb _).2 (.inl c), (ball_testBit _ _ _).2 (.inl d)⟩
      · rw [f4 x (sv x hx) hi]
        exact ⟨(hwb x).2 (.inl hx), sees_self net x⟩
    · rw [f1 x hx, hx]
      exact ⟨(hwb a).2 (.inl ha), (ball_testBit _ _ _).2 (.inl hva)⟩
  · -- no two go to one place
    have key : ∀ x y, s.testBit x = true → s.testBit y = true → f x = f y → x = y := by
      intro x y hx hy he
      by_cases hi : ∃ i, q i = x
      · by_cases hxb : x = b
        · rw [f2 x (sv x hx) hi hxb] at he
          by_cases hj : ∃ i, q i = y
          · by_cases hyb : y = b
            · rw [hxb, hyb]
            · rw [f3 y (sv y hy) hj hyb] at he
              exact absurd he.symm (sw _ (hp y hy hyb).1)
          · rw [f4 y (sv y hy) hj] at he
            exact absurd he.symm (sw _ hy)
        · rw [f3 x (sv x hx) hi hxb] at he
          by_cases hj : ∃ i, q i = y
          · by_cases hyb : y = b
            · rw [f2 y (sv y hy) hj hyb] at he
              exact absurd he (sw _ (hp x hx hxb).1)
            · rw [f3 y (sv y hy) hj hyb] at he
              obtain ⟨i, hi⟩ := hi
              obtain ⟨j, hj⟩ := hj
              have e1 : q (i + 1) = p x := by rw [qs, hi, if_neg hxb]
              have e2 : q (j + 1) = p y := by rw [qs, hj, if_neg hyb]
              have l1 := (hp x hx hxb).2.2.1
              have l2 := (hp y hy hyb).2.2.1
              rcases Nat.lt_trichotomy i j with hlt | heq | hgt
              · have := qmono (i + 1) j (by omega)
                rw [e1, hj, he] at this; omega
              · rw [← hi, ← hj, heq]
              · have := qmono (j + 1) i (by omega)
                rw [e2, hi, ← he] at this; omega
          · rw [f4 y (sv y hy) hj] at he
            exact absurd (he ▸ pway x hi hxb) hj
      · rw [f4 x (sv x hx) hi] at he
        by_cases hj : ∃ i, q i = y
        · by_cases hyb : y = b
          · rw [f2 y (sv y hy) hj hyb] at he
            exact absurd he (sw _ hx)
          · rw [f3 y (sv y hy) hj hyb] at he
            exact absurd (he ▸ pway y hj hyb) hi
        · rw [f4 y (sv y hy) hj] at he; exact he
    have keyv : ∀ y, s.testBit y = true → f y ≠ a := by
      intro y hy he
      by_cases hj : ∃ i, q i = y
      · by_cases hyb : y = b
        · rw [f2 y (sv y hy) hj hyb] at he
          exact sw a ha he.symm
        · rw [f3 y (sv y hy) hj hyb] at he
          obtain ⟨j, hj⟩ := hj
          have l2 := (hp y hy hyb).2.2.1
          have := qmono 0 j (Nat.zero_le _)
          rw [q0, hj] at this
          rw [he] at l2
          omega
      · rw [f4 y (sv y hy) hj] at he
        exact hj ⟨0, by rw [q0, he]⟩
    rcases (hvb x).1 hx with hx | hx <;> rcases (hvb y).1 hy with hy | hy
    · exact key x y hx hy he
    · rw [f1 y hy] at he; exact absurd he (keyv x hx)
    · rw [f1 x hx] at he; exact absurd he.symm (keyv y hy)
    · rw [hx, hy]
end Go.Proofs.Ytcfajdlkfpdonaa
/- Draws of chapters 3 to 5. Conditions: those of each theorem. -/
namespace Go.Proofs.Ytcfajdlkfpdonaa
open D Go.RowKit
set_option linter.unusedVariables false
set_option linter.unusedSimpArgs false


end Go.Proofs.Ytcfajdlkfpdonaa
/- The model's functions of chapter 6 in natural numbers, and draws. Conditions: those of each theorem. -/
namespace Go.Proofs.Ytcfajdlkfpdonaa
open D Go.RowKit
set_option linter.unusedVariables false
set_option linter.unusedSimpArgs false


/-- The least size of sets of a kind; -1 if there is none. -/
def minStep (p : Nat → Bool) (t : Int) (s : Nat) : Int := if p s = true then (if t < 0 then ((size s : Nat) : Int) else if ((size s : Nat) : Int) < t then ((size s : Nat) : Int) else t) else t
def minI (net : List Int) (p : Nat → Bool) : Int := fold (2 ^ net.length) (minStep p) (-1)
/-- Does a set stand together? -/
noncomputable def together (net : List Int) (s : Nat) : Bool := @decide (Together net s) (Classical.propDecidable _)
noncomputable def joined (net : List Int) (s : Nat) : Bool := together net s && W net s
end Go.Proofs.Ytcfajdlkfpdonaa
/- Plain facts about the program's own ways of chapters 6 to 9: least numbers from -1 on, the first row of the fewest guards, the least place of a set. Conditions: those of each theorem. -/
namespace Go.Proofs.Ytcfajdlkfpdonaa
open D Go.RowKit
set_option linter.unusedVariables false
set_option linter.unusedSimpArgs false

/-- The least number of a kind; -1 if there is none. -/
def minStepV (p : Nat → Bool) (v : Nat → Nat) (t : Int) (s : Nat) : Int := if p s = true then (if t < 0 then ((v s : Nat) : Int) else if ((v s : Nat) : Int) < t then ((v s : Nat) : Int) else t) else t
def lessStep (n : Nat) (p : List Int → Bool) (best : List Int) (m : Nat) : List Int := if sumN n (rv (digs n m)) < sumN n (rv best) ∧ p (digs n m) = true then digs n m else best
end Go.Proofs.Ytcfajdlkfpdonaa
/- The program's functions of chapters 3 and 4 in natural numbers. Conditions: those of each theorem. -/
namespace Go.Proofs.Ytcfajdlkfpdonaa
open D Go.RowKit
set_option linter.unusedVariables false
set_option linter.unusedSimpArgs false


theorem I.with_n {s k : Nat} (hs : s < 64) (hk : k < 6) : I.with_t s k = some ((s ||| 2 ^ k : Nat) : Int) := by
  unfold I.with_t I.with_tree
  rw [cnd_f (by simp), one_shl (by omega), i64_or_nat _ _ (by omega) (pow2_lt (by omega))]
theorem I.nextTo_n {net : List Int} (h : Ok net) {s : Nat} (hs : s < 2 ^ net.length) : I.nextTo_t net s = some ((near net s : Nat) : Int) := by
  unfold I.nextTo_t I.nextTo_tree
  have h6 := h.hi
  have h64 := h.pow
  have := (run_for (run := I.nextTo_run3 net s) (len := net.length) (fun k (t : Nat) => ((t : Int), (k : Int))) (fun t k => if s.testBit k = true then t ||| nb net k else t) (fun t => (t : Int)) (fun k t => t < 2 ^ net.length) (by omega) (fun n k t hk ht => ?_) (fun n t ht => ?_) (t0 := 0) (Nat.two_pow_pos _)).1
  · rw [fold_near] at this
    exact congrArg (fun o => optC o (fun q => some q) none) this
  · have hb := h.lt k hk
    simp only [I.nextTo_run3, I.nextTo_step3]
    rw [cnd_t (by simp; omega), I.hasPlace_n _ _ (by omega)]
    simp only [optC]
    cases hbit : s.testBit k with
    | true =>
      rw [cond_true, cnd_t (by simp; omega), if_pos rfl, Int.toNat_natCast, h.eli hk, i64_or_nat _ _ (by omega) (by omega), add1_nat (by omega)]
      exact ⟨rfl, Nat.or_lt_two_pow ht hb⟩
    | false =>
      rw [cond_false, if_neg (by simp), add1_nat (by omega)]
      exact ⟨rfl, ht⟩
  · simp only [I.nextTo_run3, I.nextTo_step3]
    rw [cnd_f (by simp)]
theorem I.apartIn_n {net : List Int} (h : Ok net) {s : Nat} (hs : s < 2 ^ net.length) : I.apartIn_t net s = some (apart net s) := by
  unfold I.apartIn_t I.apartIn_tree
  have h64 := h.pow
  have hnl := h.near_lt s
  rw [I.nextTo_n h hs]
  simp only [optC]
  rw [i64_and_nat _ _ (by omega) (by omega), nat_eq0, Nat.and_comm]
  rfl
theorem I.ApartOk_n {net : List Int} (h : Ok net) (e : I.NetOk_t net = some true) (s : Int) : I.ApartOk_t net s = some (decide (0 ≤ s ∧ s < 2 ^ net.length) && apart net s.toNat) := by
  unfold I.ApartOk_t I.ApartOk_tree
  rw [e]
  simp only [optC]
  rw [cond_true, I.setIn_n h]
  simp only
  rcases set_cases h s with ⟨t, rfl, ht, hd⟩ | hd
  · rw [hd, cond_true, I.apartIn_n h ht]; rfl
  · rw [hd]; rfl
end Go.Proofs.Ytcfajdlkfpdonaa
/- The program's functions of chapter 6 but MostLeaves, in natural numbers. Conditions: those of each theorem. -/
namespace Go.Proofs.Ytcfajdlkfpdonaa
open D Go.RowKit
set_option linter.unusedVariables false
set_option linter.unusedSimpArgs false


end Go.Proofs.Ytcfajdlkfpdonaa
/- The program's functions of chapter 7 in natural numbers. Conditions: those of each theorem. -/
namespace Go.Proofs.Ytcfajdlkfpdonaa
open D Go.RowKit
set_option linter.unusedVariables false
set_option linter.unusedSimpArgs false


/-- The places that have just so many. -/
def eqN (n : Nat) (r : Nat → Nat) (m : Nat) : Nat := orN n (fun k => decide (r k = m)) (fun k => 2 ^ k)
end Go.Proofs.Ytcfajdlkfpdonaa
/- GuardMoved in natural numbers. Conditions: those of each theorem. -/
namespace Go.Proofs.Ytcfajdlkfpdonaa
open D Go.RowKit
set_option linter.unusedVariables false
set_option linter.unusedSimpArgs false


def mayMove (net : List Int) (s f t : Nat) : Bool := s.testBit f && (!s.testBit t && (nb net f).testBit t)
def movedI (net : List Int) (s f t : Int) : Int := if (0 ≤ s ∧ s < 2 ^ net.length) ∧ (0 ≤ f ∧ f < net.length) ∧ (0 ≤ t ∧ t < net.length) ∧ mayMove net s.toNat f.toNat t.toNat = true then ((moved s.toNat f.toNat t.toNat : Nat) : Int) else -1
end Go.Proofs.Ytcfajdlkfpdonaa
/- The program's functions of chapter 8 in natural numbers. Conditions: those of each theorem. -/
namespace Go.Proofs.Ytcfajdlkfpdonaa
open D Go.RowKit
set_option linter.unusedVariables false
set_option linter.unusedSimpArgs false


/-- Can a guard come to a place without one? -/
def comeB (net : List Int) (s t : Nat) : Bool := (List.range net.length).any fun f => mayMove net s f t && W net (moved s f t)
/-- The places with guards, when one guard leaves a place. -/
def lessN (n : Nat) (r : Nat → Nat) (f : Nat) : Nat := if r f = 1 then (if (eqN n r 1 ||| eqN n r 2).testBit f = true then (eqN n r 1 ||| eqN n r 2) - 2 ^ f else eqN n r 1 ||| eqN n r 2) else eqN n r 1 ||| eqN n r 2
end Go.Proofs.Ytcfajdlkfpdonaa
/- AnsweredAll in natural numbers. Conditions: those of each theorem. -/
namespace Go.Proofs.Ytcfajdlkfpdonaa
open D Go.RowKit
set_option linter.unusedVariables false
set_option linter.unusedSimpArgs false


/-- The set after one ask. -/
noncomputable def ansNext (net : List Int) (s p : Nat) : Nat := if s.testBit p = true then s else moved s (ansI net (lasts net) s p).toNat p
noncomputable def ansStep (net places : List Int) (t : Nat × List Int) (k : Nat) : List Int ⊕ (Nat × List Int) :=
  if 0 ≤ D.eli places k ∧ D.eli places k < net.length then .inr (ansNext net t.1 (D.eli places k).toNat, t.2 ++ [((ansNext net t.1 (D.eli places k).toNat : Nat) : Int)]) else .inl t.2
noncomputable def answered (net : List Int) (s : Nat) (places : List Int) : List Int := match loopE places.length (ansStep net places) (s, [(s : Int)]) with | .inl _ => [] | .inr t => t.2
noncomputable def answeredI (net : List Int) (s : Int) (places : List Int) : List Int := if (0 ≤ s ∧ s < 2 ^ net.length) ∧ eternalB net s.toNat = true then answered net s.toNat places else []
/-- What the list of answers holds. -/
def AnsInv (net places : List Int) (s k : Nat) (t : Nat × List Int) : Prop :=
  t.1 < 2 ^ net.length ∧ t.2.length = k + 1 ∧ D.eli t.2 0 = s ∧
  (∀ j, j ≤ k → ∃ u : Nat, D.eli t.2 j = u ∧ u < 2 ^ net.length ∧ Eternal net u ∧ size u = size s ∧ (j = k → u = t.1)) ∧
  ∀ j, j < k → ∃ p : Nat, D.eli places j = p ∧ p < net.length ∧ (D.eli t.2 (j + 1)).toNat.testBit p = true
end Go.Proofs.Ytcfajdlkfpdonaa
/- The program's functions of chapter 9 in natural numbers. Conditions: those of each theorem. -/
namespace Go.Proofs.Ytcfajdlkfpdonaa
open D Go.RowKit
set_option linter.unusedVariables false
set_option linter.unusedSimpArgs false


/-- The sets in which one guard has moved. -/
def mvIn (net : List Int) (s f : Nat) (l : List Int) (t : Nat) : List Int := if mayMove net s f t = true then l ++ [((moved s f t : Nat) : Int)] else l
def mvOut (net : List Int) (s : Nat) (l : List Int) (f : Nat) : List Int := fold net.length (mvIn net s f) l
def mvs (net : List Int) (s : Nat) : List Int := fold net.length (mvOut net s) []
/-- What is answered by going to sets that last. -/
def ansS (l : List Bool) (s : Nat) (L : List Int) : Nat := fold L.length (fun t k => if D.elb l (D.eli L k).toNat = true then t ||| (D.eli L k).toNat else t) s
def Among (n : Nat) (L : List Int) : Prop := L.length ≤ 1000 ∧ ∀ k, k < L.length → ∃ u : Nat, D.eli L k = (u : Int) ∧ u < 2 ^ n
end Go.Proofs.Ytcfajdlkfpdonaa
/- All guards move: a place for one more guard, who is matched already may have to take another one. Conditions: those of each theorem. -/
namespace Go.Proofs.Ytcfajdlkfpdonaa
open D Go.RowKit
set_option linter.unusedVariables false
set_option linter.unusedSimpArgs false

/-- Whom a place has is near, and the place is one of the new ones. -/
def KValid (net : List Int) (to : Nat) (c : Nat → Nat) : Prop := ∀ p, p < 6 → c p ≠ 0 → to.testBit p = true ∧ (ball net (c p - 1)).testBit p = true ∧ c p ≤ net.length
def upd (c : Nat → Nat) (k v p : Nat) : Nat := if p = k then v else c p
structure KOut (net : List Int) (to g T : Nat) (c : Nat → Nat) (T' : Nat) (c' : Nat → Nat) (f : Bool) : Prop where
  lt : T' < 2 ^ net.length
  sub : ∀ p, T.testBit p = true → T'.testBit p = true
  no : f = false → (∀ p, p < 6 → c' p = c p) ∧ (∀ p, to.testBit p = true → (ball net g).testBit p = true → T'.testBit p = true) ∧
    ∀ p, T'.testBit p = true → T.testBit p = false → c p ≠ 0 ∧ ∀ q, to.testBit q = true → (ball net (c p - 1)).testBit q = true → T'.testBit q = true
  yes : f = true → (∀ p, p < 6 → T.testBit p = true → c' p = c p) ∧ KValid net to c' ∧ ∀ x, cnt 6 (fun p => !T.testBit p && c' p == x + 1) = cnt 6 (fun p => !T.testBit p && c p == x + 1) + (decide (x = g)).toNat
structure KInv (net : List Int) (to g T0 : Nat) (c : Nat → Nat) (k T : Nat) : Prop where
  lt : T < 2 ^ net.length
  sub : ∀ p, T0.testBit p = true → T.testBit p = true
  done : ∀ p, p < k → to.testBit p = true → (ball net g).testBit p = true → T.testBit p = true
  clo : ∀ p, T.testBit p = true → T0.testBit p = false → c p ≠ 0 ∧ ∀ q, to.testBit q = true → (ball net (c p - 1)).testBit q = true → T.testBit q = true
/-- Those of the guards below k that are in a set have one place each. -/
def KDone (src : Nat) (c : Nat → Nat) (k : Nat) : Prop := ∀ x, cnt 6 (fun p => c p == x + 1) = (decide (x < k) && src.testBit x).toNat
end Go.Proofs.Ytcfajdlkfpdonaa
/- A new place for each guard: the program's matching. Conditions: those of each theorem. -/
namespace Go.Proofs.Ytcfajdlkfpdonaa
open D Go.RowKit
set_option linter.unusedVariables false
set_option linter.unusedSimpArgs false


/-- The answer of a matching, in Go's numbers. -/
def kAns (c : Nat → Nat) (T : Nat) (f : Bool) : Int × Int × Int × Int × Int × Int × Int × Bool := (((c 0 : Nat) : Int), ((c 1 : Nat) : Int), ((c 2 : Nat) : Int), ((c 3 : Nat) : Int), ((c 4 : Nat) : Int), ((c 5 : Nat) : Int), ((T : Nat) : Int), f)
end Go.Proofs.Ytcfajdlkfpdonaa
/- The program's functions of chapter 10 in natural numbers. Conditions: those of each theorem. -/
namespace Go.Proofs.Ytcfajdlkfpdonaa
open D Go.RowKit
set_option linter.unusedVariables false
set_option linter.unusedSimpArgs false


/-- The sets to which all can move. -/
noncomputable def avs (net : List Int) (s : Nat) : List Int := listOfN (2 ^ net.length) (allMoveB net s)
end Go.Proofs.Ytcfajdlkfpdonaa
/- The program's functions of chapter 13 (at ae9a42a), and PlayMay, in natural numbers. Conditions: those of each theorem. -/
namespace Go.Proofs.Ytcfajdlkfpdonaa
open D Go.RowKit
set_option linter.unusedVariables false
set_option linter.unusedSimpArgs false


theorem eli_ext {l m : List Int} (hl : l.length = m.length) (h : ∀ k, k < l.length → D.eli l k = D.eli m k) : l = m := by
  refine List.ext_getElem hl fun k h1 h2 => ?_
  have := h k h1
  unfold D.eli at this
  simpa [List.getD, h1, h2] using this
theorem RG.nx_len {r : List Nat} (h : RG r) : nx r ≤ r.length := by
  have : ∀ m, m ≤ r.length → nx (r.take m) ≤ m := by
    intro m
    induction m with
    | zero => intro _; simp [nx]
    | succ m ih => intro hm; rw [nx_take_succ (by omega)]; have := ih (by omega); have := h m (by omega); omega
  have := this r.length (Nat.le_refl _)
  rwa [List.take_length] at this
theorem I.numbersOf_n {q : List Nat} (hq : RG q) (hl : q.length ≤ 7) : I.numbersOf_t (nl q) = some ((nx q : Nat) : Int) := by
  unfold I.numbersOf_t I.numbersOf_tree
  have hll := nl_len q
  have := run_for (run := I.numbersOf_run3 (nl q)) (len := q.length) (fun k (t : Nat) => ((t : Int), (k : Int))) (fun t k => max t (q.getD k 0 + 1)) (fun t => (t : Int)) (fun k t => t = nx (q.take k) ∧ t ≤ k) (by omega) (fun n k t hk ht => ?_) (fun n t ht => ?_) (t0 := 0) ⟨by simp [nx], Nat.le_refl _⟩
  · obtain ⟨h1, h2, _⟩ := this
    rw [List.take_length] at h2
    rw [h2] at h1
    exact congrArg (fun o => optC o (fun q => some q) none) h1
  · obtain ⟨e, hle⟩ := ht
    have hr := hq k hk
    rw [← e] at hr
    refine ⟨?_, by rw [nx_take_succ hk, e], by omega⟩
    simp only [I.numbersOf_run3, I.numbersOf_step3]
    rw [cnd_t (by simp; omega), cnd_t (by simp; omega), Int.toNat_natCast, nl_at hk, nat_beq, add1_nat (a := k) (by omega), add1_nat (by omega)]
    by_cases hv : q.getD k 0 = t
    · rw [cnd_t (by simpa using hv), hv, Nat.max_eq_right (by omega)]
    · rw [cnd_f (by simpa using hv), Nat.max_eq_left (by omega)]
  · simp only [I.numbersOf_run3, I.numbersOf_step3]
    rw [cnd_f (by simp; omega)]
theorem I.countsUp_is {row : List Int} (hl : row.length ≤ 100) : (∃ q : List Nat, row = nl q ∧ RG q ∧ I.countsUp_t row = some true) ∨ (I.countsUp_t row = some false ∧ ¬ ∃ q : List Nat, row = nl q ∧ RG q) := by
  have l3 := (run_forE (run := I.countsUp_run3 row) (len := row.length) (fun k (t : Nat) => ((t : Int), (k : Int))) (rgStep row) (fun (_ : Unit) => Sum.inl false) (fun (_ : Nat) => Sum.inr ()) (fun k t => t ≤ k) (by omega) (fun n k t hk ht => ?_) (fun n t ht => ?_) (t0 := 0) (Nat.le_refl _)).1
  · unfold I.countsUp_t I.countsUp_tree
    rw [show I.countsUp_run3 row FUEL (0, 0) = _ from l3]
    rcases rg_loop row row.length with ⟨q, q1, q2, q3, q4⟩ | ⟨q4, q5⟩
    · rw [q4]; exact .inl ⟨q, row_is q1 q3, q2, rfl⟩
    · rw [q4]
      refine .inr ⟨rfl, fun ⟨q, e, hq⟩ => q5 ⟨q, by rw [e, nl_len], hq, fun j hj => ?_⟩⟩
      rw [e, nl_len] at hj
      rw [e]; exact nl_at hj
  · simp only [I.countsUp_run3, I.countsUp_step3]
    unfold rgStep
    rw [cnd_t (by simp; omega), cnd_t (by simp; omega), Int.toNat_natCast]
    by_cases hc : 0 ≤ D.eli row k ∧ D.eli row k ≤ ((t : Nat) : Int)
    · rw [if_pos hc, cnd_f (by rw [decide_eq_false_iff_not]; omega), cnd_t (by simp; omega), cnd_f (by rw [decide_eq_false_iff_not]; omega), cnd_t (by simp; omega), add1_nat (a := k) (by omega), add1_nat (by omega)]
      refine ⟨?_, by omega⟩
      by_cases hv : D.eli row k = (t : Int)
      · rw [cnd_t (by simpa using hv), hv, Int.toNat_natCast, Nat.max_eq_right (by omega)]
      · rw [cnd_f (by simpa using hv), Nat.max_eq_left (by omega)]
    · rw [if_neg hc]
      by_cases h0 : D.eli row k < 0
      · rw [cnd_t (by simpa using h0)]
      · rw [cnd_f (by simpa using h0), cnd_t (by simp; omega), cnd_t (by rw [decide_eq_true_eq]; omega)]
  · simp only [I.countsUp_run3, I.countsUp_step3]
    rw [cnd_f (by simp)]
theorem I.placesWith_sl {r : List Nat} (hr : r.length ≤ 6) (v : Nat) : I.placesWith_t (nl r) (v : Int) = some ((setL r v : Nat) : Int) := by
  unfold I.placesWith_t I.placesWith_tree
  have hl := nl_len r
  have h7 : (2 : Nat) ^ r.length ≤ 2 ^ 6 := Nat.pow_le_pow_right (by omega) hr
  have := (run_for (run := I.placesWith_run3 (nl r) v) (len := r.length) (fun k (t : Nat) => ((t : Int), (k : Int))) (fun t k => if decide (r.getD k 0 = v) = true then t ||| 2 ^ k else t) (fun t => (t : Int)) (fun k t => t < 2 ^ r.length) (by omega) (fun f k t hk ht => ?_) (fun f t ht => ?_) (t0 := 0) (Nat.two_pow_pos _)).1
  · exact congrArg (fun o => optC o (fun q => some q) none) this
  · have hpk : 2 ^ k < 2 ^ r.length := Nat.pow_lt_pow_right (by omega) hk
    simp only [I.placesWith_run3, I.placesWith_step3]
    rw [cnd_t (by simp; omega), cnd_t (by simp; omega), Int.toNat_natCast, nl_at hk, nat_beq, add1_nat (by omega)]
    by_cases hv : r.getD k 0 = v
    · rw [cnd_t (by simpa using hv), if_pos (by simpa using hv), I.with_n (by omega) (by omega)]
      exact ⟨rfl, Nat.or_lt_two_pow ht hpk⟩
    · rw [cnd_f (by simpa using hv), if_neg (by simpa using hv)]; exact ⟨rfl, ht⟩
  · simp only [I.placesWith_run3, I.placesWith_step3]
    rw [cnd_f (by simp; omega)]
theorem I.rowWith_n {r : List Nat} (hr : r.length ≤ 6) (v : Nat) : I.rowWith_t (nl r) (v : Int) = some (nl (r ++ [v])) := by
  unfold I.rowWith_t I.rowWith_tree
  have hl := nl_len r
  rw [cnd_t (by simp [small]; omega), cnd_t (by simp [small]; omega), List.nil_append, ← nl_append]
theorem I.OtherNet_x {net : List Int} (e : I.NetOk_t net = some false) : I.OtherNet_t net = some [] := by
  unfold I.OtherNet_t I.OtherNet_tree; rw [e]; rfl
theorem I.OtherNet_y {net : List Int} (h : Ok net) (e : I.NetOk_t net = some true) : I.OtherNet_t net = some (otherN net) := by
  unfold I.OtherNet_t I.OtherNet_tree
  have h6 := h.hi
  have h64 := h.pow
  rw [e]
  simp only [optC, Bool.not_true, cond_false]
  rw [cnd_t (by simp [small]; omega)]
  have := run_for (run := I.OtherNet_run5 net) (len := net.length) (fun k (t : List Int) => ((k : Int), t)) (fun t k => t.set k ((minus (allOf net) (ball net k) : Nat) : Int)) (fun t => t) (fun k t => t.length = net.length ∧ ∀ j, j < k → D.eli t j = ((minus (allOf net) (ball net j) : Nat) : Int)) (by omega) (fun f k t hk ht => ?_) (fun f t ht => ?_) (t0 := List.replicate net.length 0) ⟨by simp, fun j hj => by omega⟩
  · obtain ⟨h1, h2, h3⟩ := this
    rw [show I.OtherNet_run5 net FUEL (0, List.replicate ((net.length : Nat) : Int).toNat 0) = _ from h1]
    simp only
    congr 1
    refine eli_ext (by rw [h2, otherN_len]) fun k hk => ?_
    rw [h2] at hk
    rw [h3 k hk, otherN_eli hk]
  · obtain ⟨hl, hv⟩ := ht
    have hb := h.ball_lt hk
    have hall := allOf_lt net
    simp only [I.OtherNet_run5, I.OtherNet_step5]
    rw [cnd_t (by simp; omega), I.allOf_n h]
    simp only [optC]
    rw [I.ballIn_n h hk]
    simp only
    rw [cnd_t (by simp; omega), cnd_t (by simp; omega), Int.toNat_natCast, i64_andNot_nat _ _ (by omega) (by omega), add1_nat (by omega)]
    refine ⟨rfl, by simpa using hl, fun j hj => ?_⟩
    unfold D.eli
    by_cases hjk : j = k
    · subst hjk
      simp [List.getD, show j < t.length by omega]
    · have := hv j (by omega)
      unfold D.eli at this
      simpa [List.getD, List.getElem?_set, show ¬ k = j from fun e => hjk e.symm] using this
  · simp only [I.OtherNet_run5, I.OtherNet_step5]
    rw [cnd_f (by simp)]
theorem I.playIn_n {net : List Int} (h : Ok net) {s p : Nat} (hs : s < 2 ^ net.length) (hp : p < net.length) : I.playIn_t net (s : Int) (p : Int) = some (minus (ball net p) s != 0) := by
  unfold I.playIn_t I.playIn_tree
  have h64 := h.pow
  have hb := h.ball_lt hp
  rw [I.ballIn_n h hp]
  simp only [optC]
  rw [i64_andNot_nat _ _ (by omega) (by omega)]
  congr 1
  rw [Bool.eq_iff_iff, bne_iff_ne, bne_iff_ne]
  omega
theorem I.PlayMay_x {net : List Int} (e : I.NetOk_t net = some false) (s p : Int) : I.PlayMay_t net s p = some false := by
  unfold I.PlayMay_t I.PlayMay_tree; rw [e]; rfl
theorem I.cliqueIn_n {net : List Int} (h : Ok net) {s : Nat} (hs : s < 2 ^ net.length) : I.cliqueIn_t net (s : Int) = some (cliqueB net s) := by
  unfold I.cliqueIn_t I.cliqueIn_tree
  have h6 := h.hi
  have h64 := h.pow
  rw [run_search (run := I.cliqueIn_run2 net s) (len := net.length) (fun k => if (s.testBit k && (minus s (ball net k) != 0)) = true then some false else none) () (by omega) (fun n k hk => ?_) (fun n => ?_), find_test (p := fun k => s.testBit k && (minus s (ball net k) != 0))]
  · unfold cliqueB
    cases (List.range net.length).all fun k => !(s.testBit k && (minus s (ball net k) != 0)) <;> rfl
  · have hbl := h.ball_lt hk
    simp only [I.cliqueIn_run2, I.cliqueIn_step2]
    rw [cnd_t (by simp; omega), I.hasPlace_n _ _ (by omega), add1_nat (by omega)]
    simp only [optC]
    cases hb : s.testBit k with
    | false => rfl
    | true =>
      have hne : (!(((minus s (ball net k) : Nat) : Int) == 0)) = (minus s (ball net k) != 0) := by show (_ != _) = _; rw [Bool.eq_iff_iff, bne_iff_ne, bne_iff_ne]; omega
      rw [cond_true, I.ballIn_n h hk]
      simp only
      rw [i64_andNot_nat _ _ (by omega) (by omega), hne]
      cases minus s (ball net k) != 0 <;> rfl
  · simp only [I.cliqueIn_run2, I.cliqueIn_step2]
    rw [cnd_f (by simp)]
theorem I.CliqueOk_x {net : List Int} (e : I.NetOk_t net = some false) (s : Int) : I.CliqueOk_t net s = some false := by
  unfold I.CliqueOk_t I.CliqueOk_tree; rw [e]; rfl
theorem I.CliqueOk_n {net : List Int} (h : Ok net) (e : I.NetOk_t net = some true) (s : Int) : I.CliqueOk_t net s = some (decide (0 ≤ s ∧ s < 2 ^ net.length) && cliqueB net s.toNat) := by
  unfold I.CliqueOk_t I.CliqueOk_tree
  rw [e]
  simp only [optC]
  rw [cond_true, I.setIn_n h]
  simp only
  rcases set_cases h s with ⟨t, rfl, ht, hd⟩ | hd
  · rw [hd, cond_true, I.cliqueIn_n h ht]; rfl
  · rw [hd]; rfl
theorem I.MostClique_x {net : List Int} (e : I.NetOk_t net = some false) : I.MostClique_t net = some (-1) := by
  unfold I.MostClique_t I.MostClique_tree; rw [e]; rfl
theorem I.MostClique_y {net : List Int} (h : Ok net) (e : I.NetOk_t net = some true) : I.MostClique_t net = some ((maxSize net (cliqueB net) : Nat) : Int) := by
  unfold I.MostClique_t I.MostClique_tree
  have h64 := h.pow
  have h6 := h.hi
  have hsu := allOf_succ net
  rw [e]
  have := (run_for (run := I.MostClique_run5 net) (len := 2 ^ net.length) (fun k (t : Nat) => ((t : Int), (k : Int))) (maxStepN (cliqueB net)) (fun t => (t : Int)) (fun k t => t ≤ 6) (by omega) (fun n k t hk ht => ?_) (fun n t ht => ?_) (t0 := 0) (by omega)).1
  · exact congrArg (fun o => optC o (fun q => some q) none) this
  · refine ⟨?_, maxStepN_le ht⟩
    simp only [I.MostClique_run5, I.MostClique_step5]
    rw [I.allOf_n h]
    simp only [optC]
    rw [cnd_t (by rw [decide_eq_true_eq]; omega), I.sizeOf_n]
    simp only
    by_cases hc : size k > t
    · rw [cnd_t (by rw [decide_eq_true_eq]; omega), I.cliqueIn_n h hk, maxStepN_lt hc]
      simp only
      cases hp : cliqueB net k with
      | true => simp only [cond_true, if_true]; rw [add1_nat (by omega)]
      | false => simp only [cond_false, Bool.false_eq_true, if_false]; rw [add1_nat (by omega)]
    · rw [cnd_f (by rw [decide_eq_false_iff_not]; omega), maxStepN_ge hc, add1_nat (by omega)]
  · simp only [I.MostClique_run5, I.MostClique_step5]
    rw [I.allOf_n h]
    simp only [optC]
    rw [cnd_f (by rw [decide_eq_false_iff_not]; omega)]
theorem I.cliquesIn_n {net : List Int} (h : Ok net) {q : List Nat} (hq : RG q) (hl : q.length = net.length) : I.cliquesIn_t net (nl q) = some ((List.range (nx q)).all fun v => cliqueB net (setL q v)) := by
  unfold I.cliquesIn_t I.cliquesIn_tree
  have h6 := h.hi
  have hx := hq.nx_len
  rw [run_search (run := I.cliquesIn_run2 net (nl q)) (len := nx q) (fun v => if (!cliqueB net (setL q v)) = true then some false else none) () (by omega) (fun n k hk => ?_) (fun n => ?_), find_test (p := fun v => !cliqueB net (setL q v))]
  · simp only [Bool.not_not]
    cases (List.range (nx q)).all fun k => cliqueB net (setL q k) <;> rfl
  · simp only [I.cliquesIn_run2, I.cliquesIn_step2]
    rw [I.numbersOf_n hq (by omega)]
    simp only [optC]
    rw [cnd_t (by rw [decide_eq_true_eq]; omega), I.placesWith_sl (by omega)]
    simp only
    rw [I.cliqueIn_n h (setL_lt (by omega)), add1_nat (by omega)]
    simp only
    cases cliqueB net (setL q k) <;> rfl
  · simp only [I.cliquesIn_run2, I.cliquesIn_step2]
    rw [I.numbersOf_n hq (by omega)]
    simp only [optC]
    rw [cnd_f (by rw [decide_eq_false_iff_not]; omega)]
theorem cliquesL_all {net : List Int} (h : Ok net) {q : List Nat} (hl : q.length = net.length) : ((List.range (nx q)).all fun v => cliqueB net (setL q v)) = true ↔ CliqueL net q := by
  rw [List.all_eq_true]
  constructor
  · exact fun ha => CliqueL.of_sets fun v hv => (cliqueB_iff h (setL_lt (by omega))).1 (ha v (List.mem_range.2 hv))
  · exact fun hc v _ => (cliqueB_iff h (setL_lt (by omega))).2 (hc.sets v)
theorem I.CliqueRowOk_x {net row : List Int} (e : I.NetOk_t net = some false) : I.CliqueRowOk_t net row = some false := by
  unfold I.CliqueRowOk_t I.CliqueRowOk_tree; rw [e]; rfl
theorem I.CliqueRowOk_n {net row : List Int} (h : Ok net) (e : I.NetOk_t net = some true) : I.CliqueRowOk_t net row = some (crB net row) := by
  unfold I.CliqueRowOk_t I.CliqueRowOk_tree
  have h6 := h.hi
  rw [e]
  simp only [optC]
  rw [cond_true]
  by_cases hl : row.length = net.length
  · rw [cnd_t (by simp [hl])]
    rcases I.countsUp_is (row := row) (by omega) with ⟨q, rfl, hq, hc⟩ | ⟨hc, hno⟩
    · rw [nl_len] at hl
      rw [hc]
      simp only
      rw [cond_true, I.cliquesIn_n h hq hl]
      simp only
      congr 1
      rw [Bool.eq_iff_iff, cliquesL_all h hl, crB_row]
      exact ⟨fun hh => ⟨hl, hq, hh⟩, fun hh => hh.2.2⟩
    · rw [hc]
      simp only
      rw [cond_false]
      congr 1
      refine (not_true fun hs => ?_).symm
      obtain ⟨q, e1, _, e2, _⟩ := crB_iff.1 hs
      exact hno ⟨q, e1, e2⟩
  · rw [cnd_f (by simp; omega)]
    congr 1
    refine (not_true fun hs => ?_).symm
    obtain ⟨q, rfl, e2, _⟩ := crB_iff.1 hs
    rw [nl_len] at hl
    exact hl e2
/-- A place goes with a clique. -/
theorem clique_more {net : List Int} (h : Ok net) {r : List Nat} {v : Nat} (hlt : r.length < net.length) (hc : CliqueL net r) : minus (setL r v) (nb net r.length) = 0 ↔ Clique net (setL (r ++ [v]) v) := by
  have h6 := h.hi
  have h64 := h.pow
  have hs : setL r v < 2 ^ net.length := setL_lt (by omega)
  have hnb := h.lt64 hlt
  have hbit : ∀ j, (minus (setL r v) (nb net r.length)).testBit j = ((setL r v).testBit j && !(nb net r.length).testBit j) := fun j => minus_testBit _ _ (by omega) (by omega) j
  constructor
  · intro h0
    have key : ∀ j, (setL r v).testBit j = true → (nb net r.length).testBit j = true := fun j hj => by
      have := hbit j
      rw [h0, Nat.zero_testBit, hj, Bool.true_and] at this
      cases hb : (nb net r.length).testBit j with
      | true => rfl
      | false => rw [hb] at this; cases this
    refine (CliqueL.append (r := r) (v := v)).1 ?_ |>.2
    intro i j hi hj hne he
    simp only [List.length_append, List.length_singleton] at hi hj
    by_cases a : i < r.length
    · by_cases b : j < r.length
      · rw [getD_app_lt a, getD_app_lt b] at he
        exact hc i j a b hne he
      · obtain rfl : j = r.length := by omega
        rw [getD_app_lt a, getD_app_end] at he
        rw [← h.sym i r.length (by omega) hlt]
        exact key i (setL_bit.2 ⟨a, he⟩)
    · obtain rfl : i = r.length := by omega
      have b : j < r.length := by omega
      rw [getD_app_lt b, getD_app_end] at he
      exact key j (setL_bit.2 ⟨b, he.symm⟩)
  · intro hcl
    refine Nat.eq_of_testBit_eq fun j => ?_
    rw [hbit, Nat.zero_testBit]
    cases hj : (setL r v).testBit j with
    | false => rfl
    | true =>
      obtain ⟨a, b⟩ := setL_bit.1 hj
      have := hcl r.length j (setL_bit.2 ⟨by simp, getD_app_end r v⟩) (setL_bit.2 ⟨by simp; omega, by rw [getD_app_lt a]; exact b⟩) (by omega)
      rw [this]; rfl
theorem I.cliquesFrom_step [c : I.cliquesFrom_r_R] {net : List Int} (h : Ok net) {m : Nat} (hm : m ≤ 6) {r : List Nat} (hr : RG r) (hlen : r.length ≤ net.length) (hn : nx r ≤ m) (hc : CliqueL net r)
    (hrec : ∀ v, r.length < net.length → v ≤ nx r → v < m → Clique net (setL (r ++ [v]) v) → ∃ o q, I.cliquesFrom_r0_t net (nl (r ++ [v])) (m : Int) = some o ∧ outOf o = rowO q ∧ FirstExt (CRow net m) (r ++ [v]) q) :
    ∃ o q, I.cliquesFrom_r_t net (nl r) (m : Int) = some o ∧ outOf o = rowO q ∧ FirstExt (CRow net m) r q := by
  have h6 := h.hi
  have h1 := h.lo
  have h64 := h.pow
  have hll := nl_len r
  have hnx := hr.nx_len
  unfold I.cliquesFrom_r_t I.cliquesFrom_r_tree
  by_cases hl : r.length = net.length
  · rw [cnd_t (by rw [hll]; simp; omega)]
    exact ⟨.inl (nl r), some r, rfl, rfl, ⟨⟨List.prefix_rfl, ⟨hl, hr, hn, hc⟩⟩, fun q hq => .inl (hq.1.eq_of_length (by rw [hq.2.len]; exact hl))⟩⟩
  · have hlt : r.length < net.length := by omega
    have hnb := h.lt64 hlt
    rw [cnd_f (by rw [hll]; simp; omega)]
    have hex : ∀ v, ∃ q : Option (List Nat), v < min m (nx r + 1) → (cliqueB net (setL (r ++ [v]) v) = true → ∃ o, I.cliquesFrom_r0_t net (nl (r ++ [v])) (m : Int) = some o ∧ outOf o = rowO q ∧ FirstExt (CRow net m) (r ++ [v]) q) ∧ (cliqueB net (setL (r ++ [v]) v) = false → q = none) := fun v => by
      by_cases hv : v < min m (nx r + 1)
      · cases hq : cliqueB net (setL (r ++ [v]) v) with
        | true =>
          obtain ⟨o, q, a1, a2, a3⟩ := hrec v hlt (by omega) (by omega) ((cliqueB_iff h (setL_lt (by simp; omega))).1 hq)
          exact ⟨q, fun _ => ⟨fun _ => ⟨o, a1, a2, a3⟩, fun hh => by cases hh⟩⟩
        | false => exact ⟨none, fun _ => ⟨fun hh => (by cases hh), fun _ => rfl⟩⟩
      · exact ⟨none, fun hh => absurd hh hv⟩
    obtain ⟨f, hf⟩ := Classical.axiomOfChoice hex
    have hfirst : FirstExt (CRow net m) r (find (min m (nx r + 1)) f) := firstExt_loop (n := net.length) (fun q hq => hq.len) hlt (fun q hp hq => by
        have a := hq.rg r.length (by rw [hq.len]; exact hlt)
        rw [pre_take hp] at a
        have b := getD_lt_nx (r := q) (k := r.length) (by rw [hq.len]; exact hlt)
        have := hq.le
        omega) (fun v hv => by
        cases hq : cliqueB net (setL (r ++ [v]) v) with
        | true => exact ((hf v hv).1 hq).choose_spec.2.2
        | false =>
          rw [(hf v hv).2 hq]
          intro q hp hcr
          have := (cliqueB_iff h (setL_lt (r := r ++ [v]) (v := v) (by simp; omega))).2 ((CliqueL.append.1 (hcr.cl.pre hp)).2)
          rw [hq] at this; cases this)
    have l5 := (run_forE (run := I.cliquesFrom_r_run5 net (m : Int) (((nl r).length : Nat) : Int)) (len := min m (nx r + 1)) (fun k (t : Unit) => ((k : Int), nl r)) (findStep f) (fun (q : List Nat) => Sum.inl (nl r, nl q)) (fun _ => Sum.inr (nl r)) (fun k t => True) (by omega) (fun n k t hk ht => ?_) (fun n t ht => ?_) (t0 := ()) trivial).1
    · rw [show I.cliquesFrom_r_run5 net (m : Int) (((nl r).length : Nat) : Int) FUEL (0, nl r) = _ from l5]
      simp only [optC]
      rcases loopE_find f (min m (nx r + 1)) with ⟨q, hfd, hlp⟩ | ⟨hfd, hlp⟩
      · rw [hlp]; exact ⟨.inr (nl r, nl q), some q, rfl, rfl, by rw [← hfd]; exact hfirst⟩
      · rw [hlp]; exact ⟨.inr (nl r, []), none, rfl, rfl, by rw [← hfd]; exact hfirst⟩
    · have hcons := hf k hk
      have hset : setL r k < 2 ^ net.length := setL_lt (by omega)
      simp only [I.cliquesFrom_r_run5, I.cliquesFrom_r_step5]
      rw [I.numbersOf_n hr (by omega)]
      simp only [optC]
      rw [cnd_t (by rw [decide_eq_true_eq]; omega), cnd_t (by rw [decide_eq_true_eq]; omega), I.placesWith_sl (by omega)]
      simp only
      have hne : (!(((minus (setL r k) (nb net r.length) : Nat) : Int) == 0)) = !cliqueB net (setL (r ++ [k]) k) := by
        congr 1
        rw [Bool.eq_iff_iff, beq_iff_eq, cliqueB_iff h (setL_lt (by simp; omega)), ← clique_more h hlt hc]
        omega
      rw [cnd_t (by rw [hll]; simp; omega), hll, Int.toNat_natCast, h.eli hlt, i64_andNot_nat _ _ (by omega) (by omega), hne, add1_nat (by omega)]
      unfold findStep
      cases hq : cliqueB net (setL (r ++ [k]) k) with
      | false =>
        rw [hcons.2 hq]
        exact ⟨rfl, trivial⟩
      | true =>
        obtain ⟨o, a1, a2, a3⟩ := hcons.1 hq
        have hlo := rowO_len h1 a3
        rw [Bool.not_true, cond_false, I.rowWith_n (by omega)]
        simp only
        rw [a1]
        simp only
        cases o with
        | inl c =>
          simp only [sumC]
          have a2 : c = rowO (f k) := a2
          rw [a2, hlo]
          cases hfk : f k with
          | some q => rfl
          | none => exact ⟨rfl, trivial⟩
        | inr c =>
          simp only [sumC]
          have a2 : c.2 = rowO (f k) := a2
          rw [a2, hlo]
          cases hfk : f k with
          | some q => rfl
          | none => exact ⟨rfl, trivial⟩
    · simp only [I.cliquesFrom_r_run5, I.cliquesFrom_r_step5]
      rw [I.numbersOf_n hr (by omega)]
      simp only [optC]
      by_cases hc : ((min m (nx r + 1) : Nat) : Int) ≤ ((nx r : Nat) : Int)
      · rw [cnd_t (by rw [decide_eq_true_eq]; exact hc), cnd_f (by rw [decide_eq_false_iff_not]; omega)]
      · rw [cnd_f (by rw [decide_eq_false_iff_not]; exact hc)]
theorem I.cliquesFrom_d {net : List Int} (h : Ok net) {m : Nat} (hm : m ≤ 6) : ∀ (k d : Nat) (r : List Nat), r.length + k = net.length → k < d → RG r → nx r ≤ m → CliqueL net r →
    ∃ o q, I.cliquesFrom_td d net (nl r) (m : Int) = some o ∧ outOf o = rowO q ∧ FirstExt (CRow net m) r q := by
  intro k
  induction k with
  | zero =>
    intro d r hk hd h1 h2 h3
    obtain ⟨d, rfl⟩ : ∃ q, d = q + 1 := ⟨d - 1, by omega⟩
    exact @I.cliquesFrom_step ⟨I.cliquesFrom_td d⟩ net h m hm r h1 (by omega) h2 h3 (fun v hv => by omega)
  | succ k ih =>
    intro d r hk hd h1 h2 h3
    obtain ⟨d, rfl⟩ : ∃ q, d = q + 1 := ⟨d - 1, by omega⟩
    exact @I.cliquesFrom_step ⟨I.cliquesFrom_td d⟩ net h m hm r h1 (by omega) h2 h3 (fun v hv a b hcl => ih d (r ++ [v]) (by simp; omega) (by omega) (RG_append.2 ⟨h1, a⟩) (by rw [nx_append]; omega) (CliqueL.append.2 ⟨h3, hcl⟩))
theorem I.cliquesFrom_n {net : List Int} (h : Ok net) {m : Nat} (hm : m ≤ 6) : ∃ o q, I.cliquesFrom_t net [] (m : Int) = some o ∧ outOf o = rowO q ∧ FirstExt (CRow net m) [] q := by
  have hF := FUEL_le
  have h6 := h.hi
  exact I.cliquesFrom_d h hm net.length FUEL [] (by simp) (by omega) RG.nil (Nat.zero_le _) (CliqueL.nil net)
theorem I.cliqueRowIn_n {net : List Int} (h : Ok net) : I.cliqueRowIn_t net = some (nl (clRow net)) ∧ IsFirst (CRow net (fewestCl net)) (clRow net) := by
  have hF := FUEL_le
  have h6 := h.hi
  have h1 := h.lo
  have hle := fewestCl_le net
  have hmin := fewestCl_min net
  obtain ⟨o, q, a1, a2, a3⟩ := I.cliquesFrom_n h (m := fewestCl net) (by omega)
  have hq : ∃ p, q = some p := by
    cases q with
    | some p => exact ⟨p, rfl⟩
    | none =>
      obtain ⟨p, hp⟩ := crow_of hmin.ex
      exact absurd hp (a3 p List.nil_prefix)
  obtain ⟨p, rfl⟩ := hq
  have hfp := first_of_ext a3
  have hcl : clRow net = p := firstOf_is hfp
  have hp := hfp.mem.len
  rw [hcl]
  refine ⟨?_, hfp⟩
  unfold I.cliqueRowIn_t I.cliqueRowIn_tree
  have key : ∀ d j n, j + d = fewestCl net → 1 ≤ j → d + 1 < n → I.cliqueRowIn_run2 net n (j : Int) = if fewestCl net < net.length then some (.inl (nl p)) else some (.inr ()) := by
    intro d
    induction d with
    | zero =>
      intro j n hj _ hn
      obtain ⟨n, rfl⟩ : ∃ q, n = q + 1 := ⟨n - 1, by omega⟩
      obtain rfl : j = fewestCl net := by omega
      simp only [I.cliqueRowIn_run2, I.cliqueRowIn_step2]
      by_cases h2 : fewestCl net < net.length
      · have hnl : decide (((nl p).length : Int) > 0) = true := by rw [nl_len, hp, decide_eq_true_eq]; omega
        rw [cnd_t (by rw [decide_eq_true_eq]; omega), a1, if_pos h2]
        simp only [optC]
        cases o with
        | inl c =>
          have a2 : c = nl p := a2
          simp only [sumC]
          rw [a2, hnl]; rfl
        | inr c =>
          have a2 : c.2 = nl p := a2
          simp only [sumC]
          rw [a2, hnl]; rfl
      · rw [cnd_f (by rw [decide_eq_false_iff_not]; omega), if_neg h2]
    | succ d ih =>
      intro j n hj h1j hn
      obtain ⟨n, rfl⟩ : ∃ q, n = q + 1 := ⟨n - 1, by omega⟩
      obtain ⟨o, q, b1, b2, b3⟩ := I.cliquesFrom_n h (m := j) (by omega)
      have hq : q = none := by
        cases q with
        | none => rfl
        | some q => have := hmin.le j (of_crow (first_of_ext b3).mem); omega
      subst hq
      simp only [I.cliqueRowIn_run2, I.cliqueRowIn_step2]
      rw [cnd_t (by rw [decide_eq_true_eq]; omega), b1, add1_nat (by omega)]
      simp only [optC]
      cases o with
      | inl c =>
        have b2 : c = [] := b2
        simp only [sumC]
        rw [b2]
        exact ih (j + 1) n (by omega) (by omega) (by omega)
      | inr c =>
        have b2 : c.2 = [] := b2
        simp only [sumC]
        rw [b2]
        exact ih (j + 1) n (by omega) (by omega) (by omega)
  have hpos := fewestCl_pos h1
  rw [show I.cliqueRowIn_run2 net FUEL 1 = _ from key (fewestCl net - 1) 1 FUEL (by omega) (Nat.le_refl _) (by omega)]
  by_cases h2 : fewestCl net < net.length
  · rw [if_pos h2]; rfl
  · rw [if_neg h2]
    have hmn : fewestCl net = net.length := by omega
    rw [hmn] at a1
    simp only [optC, sumC]
    rw [a1]
    cases o with
    | inl c => have a2 : c = nl p := a2; simp only [sumC]; rw [a2]
    | inr c => have a2 : c.2 = nl p := a2; simp only [sumC]; rw [a2]
theorem I.CliqueRow_x {net : List Int} (e : I.NetOk_t net = some false) : I.CliqueRow_t net = some [] := by
  unfold I.CliqueRow_t I.CliqueRow_tree; rw [e]; rfl
theorem I.CliqueRow_y {net : List Int} (h : Ok net) (e : I.NetOk_t net = some true) : I.CliqueRow_t net = some (nl (clRow net)) ∧ IsFirst (CRow net (fewestCl net)) (clRow net) := by
  obtain ⟨a, b⟩ := I.cliqueRowIn_n h
  refine ⟨?_, b⟩
  unfold I.CliqueRow_t I.CliqueRow_tree
  rw [e]
  simp only [optC, Bool.not_true, cond_false]
  rw [a]
theorem I.FewestCliques_y {net : List Int} (h : Ok net) (e : I.NetOk_t net = some true) : I.FewestCliques_t net = some ((fewestCl net : Nat) : Int) := by
  obtain ⟨a, b⟩ := I.cliqueRowIn_n h
  have h6 := h.hi
  have hl := b.mem.len
  unfold I.FewestCliques_t I.FewestCliques_tree
  rw [e]
  simp only [optC, Bool.not_true, cond_false]
  rw [a]
  simp only
  rw [I.numbersOf_n b.mem.rg (by omega), crow_nx b.mem]
end Go.Proofs.Ytcfajdlkfpdonaa
/- The program's functions of chapters 12 and 13 (at ae9a42a) in natural numbers. Conditions: those of each theorem. -/
namespace Go.Proofs.Ytcfajdlkfpdonaa
open D Go.RowKit
set_option linter.unusedVariables false
set_option linter.unusedSimpArgs false


theorem I.PlayMay_n {net : List Int} (h : Ok net) (e : I.NetOk_t net = some true) (s p : Int) : I.PlayMay_t net s p = some (mayB net s p) := by
  unfold I.PlayMay_t I.PlayMay_tree
  rw [e]
  simp only [optC]
  rw [cond_true, I.setIn_n h]
  simp only
  unfold mayB
  rcases set_cases h s with ⟨t, rfl, ht, hd⟩ | hd
  · rw [hd, cond_true, I.placeIn_n]
    simp only
    rcases place_cases net p with ⟨k, rfl, hk, hd2⟩ | hd2
    · rw [hd2, cond_true, I.playIn_n h ht hk, Int.toNat_natCast, Int.toNat_natCast, Bool.true_and, Bool.true_and]; rfl
    · rw [hd2]; rfl
  · rw [hd]; rfl
end Go.Proofs.Ytcfajdlkfpdonaa
/- Forests: wires and parts are places. Conditions: those of each theorem. -/
namespace Go.Proofs.Ytcfajdlkfpdonaa
set_option linter.unusedVariables false
set_option linter.unusedSimpArgs false

/-- The ends of wires within a set. -/
def inEnd (net : List Int) (s i j : Nat) : Nat := (s.testBit i && s.testBit j && (nb net i).testBit j).toNat
def ends2 (net : List Int) (s : Nat) : Nat := sumN net.length fun i => sumN net.length (inEnd net s i)
/-- A set within another one that nobody leaves by a wire. -/
def Closed (net : List Int) (s t : Nat) : Prop := (∀ j, t.testBit j = true → s.testBit j = true) ∧ ∀ i j, t.testBit i = true → s.testBit j = true → (nb net i).testBit j = true → t.testBit j = true
def Covers (net : List Int) (s z : Nat) : Prop := (∀ j, z.testBit j = true → s.testBit j = true) ∧ ∀ t, t < 2 ^ net.length → t ≠ 0 → Closed net s t → ∃ j, z.testBit j = true ∧ t.testBit j = true
/-- Places go till nobody can. -/
inductive Down (net : List Int) (r : Nat) : Nat → Prop
  | here : Down net r r
  | step {s k : Nat} : s.testBit k = true → size (nb net k &&& s) ≤ 1 → Down net r (s - 2 ^ k) → Down net r s
end Go.Proofs.Ytcfajdlkfpdonaa
/- Grown packings and sets that see each place once. Conditions: those of each theorem. -/
namespace Go.Proofs.Ytcfajdlkfpdonaa
open D Go.RowKit
set_option linter.unusedVariables false
set_option linter.unusedSimpArgs false

def growP (net : List Int) (t k : Nat) : Nat := if packed net (t ||| 2 ^ k) = true then t ||| 2 ^ k else t
def grownP (net : List Int) (s : Nat) : Nat := fold net.length (growP net) s
def GrowI (net : List Int) (s k t : Nat) : Prop := t < 2 ^ net.length ∧ packed net t = true ∧ (∀ j, s.testBit j = true → t.testBit j = true) ∧ ∀ j, j < k → t.testBit j = false → packed net (t ||| 2 ^ j) = false
/-- Each place is seen once. -/
def efficientB (net : List Int) (s : Nat) : Bool := packed net s && W net s
theorem Down.trans {net : List Int} {r t s : Nat} (h1 : Down net r t) (h2 : Down net t s) : Down net r s := by
  induction h2 with
  | here => exact h1
  | step a b _ ih => exact .step a b ih
/-- One sweep over the places: each with at most one neighbour left goes. -/
def peelStep (net : List Int) (t : Bool × Nat) (k : Nat) : Bool × Nat := if (t.2.testBit k && decide (size (nb net k &&& t.2) < 2)) = true then (true, t.2 - 2 ^ k) else t
def PeelI (net : List Int) (s k : Nat) (t : Bool × Nat) : Prop := Down net t.2 s ∧ t.2 ≤ s ∧ (t.1 = false → t.2 = s ∧ ∀ j, j < k → s.testBit j = true → 2 ≤ size (nb net j &&& s)) ∧ (t.1 = true → t.2 < s)
noncomputable def forestB (net : List Int) : Bool := @decide (Peel net (allOf net)) (Classical.propDecidable _)
end Go.Proofs.Ytcfajdlkfpdonaa
/- The model's functions of chapter 11 in natural numbers: packings. Conditions: those of each theorem. -/
namespace Go.Proofs.Ytcfajdlkfpdonaa
open D Go.RowKit
set_option linter.unusedVariables false
set_option linter.unusedSimpArgs false


def mostPacked (net : List Int) : Nat := maxSize net (packed net)
def efficientI (net : List Int) : Int := (find (2 ^ net.length) (fun s => if efficientB net s = true then some (s : Int) else none)).getD (-1)
def grownPI (net : List Int) (s : Int) : Int := if (0 ≤ s ∧ s < 2 ^ net.length) ∧ packed net s.toNat = true then ((grownP net s.toNat : Nat) : Int) else -1
end Go.Proofs.Ytcfajdlkfpdonaa
/- The program's functions of chapter 11 in natural numbers. Conditions: those of each theorem. -/
namespace Go.Proofs.Ytcfajdlkfpdonaa
open D Go.RowKit
set_option linter.unusedVariables false
set_option linter.unusedSimpArgs false


/-- The first place with at most one neighbour left. -/
def leafF (net : List Int) (s : Nat) : Int := (find net.length (fun k => if (s.testBit k && decide (size (nb net k &&& s) ≤ 1)) = true then some (k : Int) else none)).getD (-1)
end Go.Proofs.Ytcfajdlkfpdonaa
/- The laws of chapter 2: WatchOk, LeastWatchOk, FewestWatch, WatchOf. Conditions: those of each theorem. -/
namespace Go.Proofs.Ytcfajdlkfpdonaa
open D Go.RowKit
set_option linter.unusedVariables false
set_option linter.unusedSimpArgs false


end Go.Proofs.Ytcfajdlkfpdonaa
/- The laws of chapter 2: ThinnedWatch, WatchCounts, LeastWatches. Conditions: those of each theorem. -/
namespace Go.Proofs.Ytcfajdlkfpdonaa
open D Go.RowKit
set_option linter.unusedVariables false
set_option linter.unusedSimpArgs false


/-! ### Counts -/
def cw (net : List Int) (j : Nat) : Nat := cnt (2 ^ net.length) (fun s => W net s && (size s == j))
theorem L.sameInts_is {a : List Int} (ha : a.length ≤ 1000000) : L.sameInts_t a a = some true := by
  unfold L.sameInts_t L.sameInts_tree
  have := (run_for (run := L.sameInts_run4 a a) (len := a.length) (fun k (_ : Unit) => (k : Int)) (fun t k => ()) (fun t => Sum.inr ()) (fun k t => True) (by omega) (fun n k t hk ht => ?_) (fun n t ht => ?_) (t0 := ()) trivial).1
  · rw [cnd_f (by simp), show L.sameInts_run4 a a FUEL 0 = _ from this]
    rfl
  · refine ⟨?_, trivial⟩
    simp only [L.sameInts_run4, L.sameInts_step4]
    rw [cnd_t (by simp; omega), cnd_t (by simp; omega), cnd_t (by simp; omega), cnd_f (by simp), add1_nat (by omega)]
  · simp only [L.sameInts_run4, L.sameInts_step4]
    rw [cnd_f (by simp)]
/-! ### Least watches -/
end Go.Proofs.Ytcfajdlkfpdonaa
/- The program's functions that the laws of chapters 12 and 13 call. Conditions: none. -/
namespace Go.Proofs.Ytcfajdlkfpdonaa
end Go.Proofs.Ytcfajdlkfpdonaa
/- Laws of chapter 3, and of chapter 4 over sets. Conditions: those of each theorem. -/
namespace Go.Proofs.Ytcfajdlkfpdonaa
open D Go.RowKit
set_option linter.unusedVariables false
set_option linter.unusedSimpArgs false


end Go.Proofs.Ytcfajdlkfpdonaa
/- The program's functions of chapter 4 over nets, and of chapter 5, in natural numbers. Conditions: those of each theorem. -/
namespace Go.Proofs.Ytcfajdlkfpdonaa
open D Go.RowKit
set_option linter.unusedVariables false
set_option linter.unusedSimpArgs false


theorem I.MostApart_y {net : List Int} (h : Ok net) (e : I.NetOk_t net = some true) : I.MostApart_t net = some ((maxSize net (apart net) : Nat) : Int) := by
  unfold I.MostApart_t I.MostApart_tree
  have h64 := h.pow
  have h6 := h.hi
  have hsu := allOf_succ net
  rw [e]
  have := (run_for (run := I.MostApart_run5 net) (len := 2 ^ net.length) (fun k (t : Nat) => ((t : Int), (k : Int))) (maxStepN (apart net)) (fun t => (t : Int)) (fun k t => t ≤ 6) (by omega) (fun n k t hk ht => ?_) (fun n t ht => ?_) (t0 := 0) (by omega)).1
  · exact congrArg (fun o => optC o (fun q => some q) none) this
  · refine ⟨?_, maxStepN_le ht⟩
    simp only [I.MostApart_run5, I.MostApart_step5]
    rw [I.allOf_n h]
    simp only [optC]
    rw [cnd_t (by rw [decide_eq_true_eq]; omega), I.sizeOf_n]
    simp only
    by_cases hc : size k > t
    · rw [cnd_t (by rw [decide_eq_true_eq]; omega), I.apartIn_n h hk, maxStepN_lt hc]
      simp only
      cases hp : apart net k with
      | true => simp only [cond_true, if_true]; rw [add1_nat (by omega)]
      | false => simp only [cond_false, Bool.false_eq_true, if_false]; rw [add1_nat (by omega)]
    · rw [cnd_f (by rw [decide_eq_false_iff_not]; omega), maxStepN_ge hc, add1_nat (by omega)]
  · simp only [I.MostApart_run5, I.MostApart_step5]
    rw [I.allOf_n h]
    simp only [optC]
    rw [cnd_f (by rw [decide_eq_false_iff_not]; omega)]
/-- One of two numbers, by a test and then a call. -/
def sel {α : Type} (a : Bool) (o : Option Bool) (x y : Int) (k : Int → Option α) : Option α := bif a then optC o (fun c => bif c then k x else k y) none else k y
def ch6 (net : List Int) (q : Nat × Nat × Nat × Nat × Nat × Nat) (s : Nat) : Nat × Nat × Nat × Nat × Nat × Nat :=
  (minStepN (fullN net) q.1 s, minStepN (W net) q.2.1 s, minStepN (fullA net) q.2.2.1 s, maxStepN (apart net) q.2.2.2.1 s, maxStepN (least net) q.2.2.2.2.1 s, maxStepN (needs net) q.2.2.2.2.2 s)
end Go.Proofs.Ytcfajdlkfpdonaa
/- Laws of chapter 5, and of chapter 4 over a net. Conditions: those of each theorem. -/
namespace Go.Proofs.Ytcfajdlkfpdonaa
open D Go.RowKit
set_option linter.unusedVariables false
set_option linter.unusedSimpArgs false


/-- The net in which all are neighbours. -/
def whole (n : Nat) : List Int := fold n (fun l k => l ++ [((2 ^ n - 1 - 2 ^ k : Nat) : Int)]) []
end Go.Proofs.Ytcfajdlkfpdonaa
/- Laws of chapters 12 and 13. Conditions: those of each theorem. -/
namespace Go.Proofs.Ytcfajdlkfpdonaa
open D Go.RowKit
set_option linter.unusedVariables false
set_option linter.unusedSimpArgs false


theorem mayB_in {net : List Int} {s p : Nat} (hs : s < 2 ^ net.length) (hp : p < net.length) : mayB net (s : Int) (p : Int) = leg net s p := by
  unfold mayB
  rw [set_in hs, Int.toNat_natCast, Int.toNat_natCast, show decide (0 ≤ (p : Int) ∧ (p : Int) < net.length) = true by simp; omega]
  rfl
theorem L.FnPlayMay_is {code : List Int} (hm : code.length ≤ maxLen) (hw : ∀ n ∈ code, (Lit.int .u8 n).wf = true) : L.FnPlayMay_t code = some true := by
  unfold L.FnPlayMay_t L.FnPlayMay_tree
  by_cases hc : (code.length : Int) > 1048576
  · rw [cnd_t (by simpa using hc)]
  rw [cnd_f (by simpa using hc)]
  obtain ⟨v, q, net, e1, h1, h2, h3⟩ := S.DrawPlayMay_is (Bytes.wf hw)
  rw [e1]
  simp only [optC]
  rcases NetOk_cases net with ⟨h, g1, g2⟩ | ⟨_, g1, g2⟩
  · have h6 := h.hi
    have h64 := h.pow
    rw [I.PlayMay_n h g1, S.PlayMay_n h g2]
    simp only
    rw [cnd_f (by simp)]
    rcases place_cases net (q : Int) with ⟨p, hp, hpl, hd⟩ | hd
    · obtain rfl : q = p := by omega
      rw [I.BallOf_n h g1 hpl, I.PlayMay_n h g1]
      simp only
      have hb := h.ball_lt hpl
      have hl0 : leg net 0 q = true := (leg_iff h (Nat.two_pow_pos _) hpl).2 ⟨q, hpl, sees_self net q, Nat.zero_testBit q⟩
      have hm0 : mayB net 0 (q : Int) = true := by
        have := mayB_in (net := net) (s := 0) (p := q) (Nat.two_pow_pos _) hpl
        rw [hl0] at this
        exact this
      have hl1 : leg net (allOf net) q = false := (no_leg h (allOf_lt net)).2 rfl q hpl
      rw [cnd_f (by rw [decide_eq_false_iff_not]; omega), hm0, cond_true, all_shl h, I.PlayMay_n h g1, mayB_in (allOf_lt net) hpl, hl1, L.alive_is]
      rfl
    · rw [I.BallOf_o g1 hd]
      simp only
      have : mayB net (v : Int) (q : Int) = false := by unfold mayB; rw [hd, Bool.false_and, Bool.and_false]
      rw [cnd_t (by decide), this, L.alive_is]
      rfl
  · rw [I.PlayMay_x g1, S.PlayMay_x g2, I.BallOf_x g1]
    simp only
    rw [cnd_f (by decide), cnd_t (by decide), L.alive_is]
    rfl
end Go.Proofs.Ytcfajdlkfpdonaa
/- A net that is one; the places with a number, by the laws' own function. Conditions: those of each theorem. -/
namespace Go.Proofs.Ytcfajdlkfpdonaa
open D Go.RowKit
set_option linter.unusedVariables false
set_option linter.unusedSimpArgs false


theorem netOk_of {net : List Int} (h : Ok net) : I.NetOk_t net = some true ∧ S.NetOk_t net = some true := by
  rcases NetOk_cases net with ⟨_, g1, g2⟩ | ⟨hn, _, _⟩
  · exact ⟨g1, g2⟩
  · exact absurd h hn
theorem L.setOf_n {r : List Nat} (hr : r.length ≤ 7) (v : Nat) : L.setOf_t (nl r) (v : Int) = some ((setL r v : Nat) : Int) := by
  unfold L.setOf_t L.setOf_tree
  have hl := nl_len r
  have h7 : (2 : Nat) ^ r.length ≤ 2 ^ 7 := Nat.pow_le_pow_right (by omega) hr
  have := (run_for (run := L.setOf_run3 (nl r) v) (len := r.length) (fun k (t : Nat) => ((t : Int), (k : Int))) (fun t k => if decide (r.getD k 0 = v) = true then t ||| 2 ^ k else t) (fun t => (t : Int)) (fun k t => t < 2 ^ r.length) (by omega) (fun f k t hk ht => ?_) (fun f t ht => ?_) (t0 := 0) (Nat.two_pow_pos _)).1
  · exact congrArg (fun o => optC o (fun q => some q) none) this
  · have hpk : 2 ^ k < 2 ^ r.length := Nat.pow_lt_pow_right (by omega) hk
    simp only [L.setOf_run3, L.setOf_step3]
    rw [cnd_t (by simp; omega), cnd_t (by simp; omega), Int.toNat_natCast, nl_at hk, nat_beq, add1_nat (by omega)]
    by_cases hv : r.getD k 0 = v
    · rw [cnd_t (by simpa using hv), cnd_f (by simp), if_pos (by simpa using hv), show IntKind.i64.wrap (1 * 2 ^ min k IntKind.i64.bits) = ((2 ^ k : Nat) : Int) from one_shl (k := k) (by omega), i64_or_nat _ _ (by omega) (by omega)]
      exact ⟨rfl, Nat.or_lt_two_pow ht hpk⟩
    · rw [cnd_f (by simpa using hv), if_neg (by simpa using hv)]; exact ⟨rfl, ht⟩
  · simp only [L.setOf_run3, L.setOf_step3]
    rw [cnd_f (by simp; omega)]
end Go.Proofs.Ytcfajdlkfpdonaa
/- Laws of chapter 13. Conditions: those of each theorem. -/
namespace Go.Proofs.Ytcfajdlkfpdonaa
open D Go.RowKit
set_option linter.unusedVariables false
set_option linter.unusedSimpArgs false


theorem cliqueB_other {net : List Int} (h : Ok net) {s : Nat} (hs : s < 2 ^ net.length) : cliqueB net s = apart (otherN net) s := by
  rw [Bool.eq_iff_iff, cliqueB_iff h hs, clique_other h hs, apart_iff (by rw [otherN_len]; exact hs)]
theorem ex_clique {net : List Int} (h : Ok net) : ∃ s, s < 2 ^ net.length ∧ cliqueB net s = true := ⟨0, Nat.two_pow_pos _, (cliqueB_iff h (Nat.two_pow_pos _)).2 fun i j hi => by rw [Nat.zero_testBit] at hi; cases hi⟩
theorem maxClique_other {net : List Int} (h : Ok net) : maxSize net (cliqueB net) = maxSize (otherN net) (apart (otherN net)) := by
  have hl := otherN_len net
  obtain ⟨⟨s, a, b, c⟩, hle⟩ := maxSize_is (ex_apart (otherN net))
  rw [hl] at a
  refine MaxOf.uniq (maxSize_is (ex_clique h)) ⟨⟨s, a, by rw [cliqueB_other h a]; exact b, c⟩, fun t ht hb => hle t (by rw [hl]; exact ht) (by rw [← cliqueB_other h ht]; exact hb)⟩
theorem maxClique_one {net : List Int} (h : Ok net) : maxSize net (cliqueB net) = 1 ↔ wires net = 0 := by
  have h6 := h.hi
  have hlo := h.lo
  have h64 := h.pow
  obtain ⟨⟨s, a, b, c⟩, hle⟩ := maxSize_is (ex_clique h)
  rw [ends_zero h]
  constructor
  · intro he k hk
    refine zero_iff.2 fun j => not_true fun hj => ?_
    have hjn : j < net.length := in_lt (h.lt k hk) hj
    have hne : k ≠ j := fun hh => by subst hh; rw [h.irr k hk] at hj; cases hj
    have h2k : 2 ^ k < 2 ^ net.length := Nat.pow_lt_pow_right (by omega) hk
    have hlt := or_lt h2k hjn
    have hcl : cliqueB net (2 ^ k ||| 2 ^ j) = true := (cliqueB_iff h hlt).2 fun x y hx hy hxy => by
      rw [or_testBit, testBit_pow, decide_eq_true_eq] at hx hy
      rcases hx with rfl | rfl <;> rcases hy with rfl | rfl
      · exact absurd rfl hxy
      · exact hj
      · rw [h.sym _ _ hk hjn]; exact hj
      · exact absurd rfl hxy
    have hz := hle _ hlt hcl
    rw [size_add (by omega) (by omega) (by rw [testBit_pow]; simpa using hne), size_one (by omega)] at hz
    omega
  · intro h0
    have hone := hle 1 (by have : 2 ^ 1 ≤ 2 ^ net.length := Nat.pow_le_pow_right (by omega) hlo; omega) ((cliqueB_iff h (by have : 2 ^ 1 ≤ 2 ^ net.length := Nat.pow_le_pow_right (by omega) hlo; omega)).2 fun x y hx hy hxy => by
      rw [show (1 : Nat) = 2 ^ 0 from rfl, testBit_pow, decide_eq_true_eq] at hx hy
      omega)
    have e1 : size 1 = 1 := by decide +kernel
    have hcl := (cliqueB_iff h a).1 b
    have : size s ≤ 1 := by
      rw [size_cnt h a]
      have := cnt_inj (n := net.length) (m := 1) (p := fun k => s.testBit k) (q := fun _ => true) (fun _ => 0) (fun _ _ _ => ⟨by omega, rfl⟩) (fun j k hj hk pj pk _ => Classical.byContradiction fun hne => by
        have := hcl j k pj pk hne
        rw [h0 j hj, Nat.zero_testBit] at this; cases this)
      rwa [cnt_true] at this
    omega
theorem L.FnCliqueOk_is {code : List Int} (hm : code.length ≤ maxLen) (hw : ∀ n ∈ code, (Lit.int .u8 n).wf = true) : L.FnCliqueOk_t code = some true := by
  unfold L.FnCliqueOk_t L.FnCliqueOk_tree
  by_cases hc : (code.length : Int) > 1048576
  · rw [cnd_t (by simpa using hc)]
  rw [cnd_f (by simpa using hc)]
  obtain ⟨v, net, e1, h1, h2⟩ := S.DrawCliqueOk_is (Bytes.wf hw)
  rw [e1]
  simp only [optC]
  rcases NetOk_cases net with ⟨h, g1, g2⟩ | ⟨_, g1, g2⟩
  · have h6 := h.hi
    have hlo := h.lo
    have h64 := h.pow
    have hF := FUEL_le
    have ho := otherN_ok h
    obtain ⟨o1, o2⟩ := netOk_of ho
    have hlen := otherN_len net
    rw [I.CliqueOk_n h g1, S.CliqueOk_n h g2]
    simp only
    rw [cnd_f (by simp), g1]
    simp only [Bool.not_true, cond_false]
    generalize hok : (decide (0 ≤ (v : Int) ∧ (v : Int) < 2 ^ net.length) && cliqueB net (v : Int).toNat) = ok
    have loop : L.FnCliqueOk_run10 (v : Int) ok FUEL (0, net) = some (.inr net) := by
      cases ok with
      | false =>
        obtain ⟨n, hn⟩ : ∃ q, FUEL = q + 1 := ⟨FUEL - 1, by omega⟩
        rw [hn]
        simp only [L.FnCliqueOk_run10, L.FnCliqueOk_step10]
        rw [cnd_t (by rw [decide_eq_true_eq]; omega)]
        rfl
      | true =>
        rw [Bool.and_eq_true] at hok
        obtain ⟨hk1, hk2⟩ := hok
        rcases set_cases h (v : Int) with ⟨s, hs, hsl, hd⟩ | hd
        · obtain rfl : v = s := by omega
          rw [Int.toNat_natCast] at hk2
          have hcl := (cliqueB_iff h hsl).1 hk2
          refine (run_for (run := L.FnCliqueOk_run10 (v : Int) true) (len := net.length) (fun k (_ : Unit) => ((k : Int), net)) (fun t k => ()) (fun _ => Sum.inr net) (fun k t => True) (by omega) (fun n k t hk ht => ?_) (fun n t ht => ?_) (t0 := ()) trivial).1
          · have hb := h.ball_lt hk
            simp only [L.FnCliqueOk_run10, L.FnCliqueOk_step10]
            rw [cnd_t (by rw [decide_eq_true_eq]; omega), cond_true, cnd_f (by simp), bit_shr _ _ (by omega), bool_eq1, add1_nat (by omega)]
            cases hbk : v.testBit k with
            | false => exact ⟨rfl, trivial⟩
            | true =>
              have hz : minus v (ball net k) = 0 := zero_iff.2 fun j => by
                rw [minus_testBit _ _ (by omega) (by omega)]
                cases hj : v.testBit j with
                | false => rfl
                | true =>
                  have : (ball net k).testBit j = true := (ball_testBit _ _ _).2 (by
                    by_cases he : k = j
                    · exact .inr he
                    · exact .inl (hcl k j hbk hj he))
                  rw [this]; rfl
              rw [cond_true, I.BallOf_n h g1 hk]
              simp only [optC]
              rw [i64_andNot_nat _ _ (by omega) (by omega), hz]
              exact ⟨rfl, trivial⟩
          · simp only [L.FnCliqueOk_run10, L.FnCliqueOk_step10]
            rw [cnd_f (by rw [decide_eq_false_iff_not]; omega)]
        · rw [hd] at hk1; cases hk1
    rw [loop]
    simp only [sumC]
    rw [I.OtherNet_y h g1]
    simp only
    rw [I.ApartOk_n ho o1, hlen]
    simp only
    have he : ok = (decide (0 ≤ (v : Int) ∧ (v : Int) < 2 ^ net.length) && apart (otherN net) (v : Int).toNat) := by
      rw [← hok]
      rcases set_cases h (v : Int) with ⟨s, hs, hsl, hd⟩ | hd
      · obtain rfl : v = s := by omega
        rw [hd, Int.toNat_natCast, cliqueB_other h hsl]
      · rw [hd]; rfl
    rw [← he, cnd_t (by simp), L.alive_is]
  · rw [I.CliqueOk_x g1, S.CliqueOk_x g2, g1]
    simp only
    rw [cnd_f (by decide), cnd_t (by decide), cnd_t (by decide), L.alive_is]
theorem L.FnMostClique_is {code : List Int} (hm : code.length ≤ maxLen) (hw : ∀ n ∈ code, (Lit.int .u8 n).wf = true) : L.FnMostClique_t code = some true := by
  unfold L.FnMostClique_t L.FnMostClique_tree
  by_cases hc : (code.length : Int) > 1048576
  · rw [cnd_t (by simpa using hc)]
  rw [cnd_f (by simpa using hc)]
  obtain ⟨net, e1, h1⟩ := S.DrawMostClique_is (Bytes.wf hw)
  rw [e1]
  simp only [optC]
  rcases NetOk_cases net with ⟨h, g1, g2⟩ | ⟨_, g1, g2⟩
  · have h6 := h.hi
    have h64 := h.pow
    rw [I.MostClique_y h g1, S.MostClique_y h g2]
    simp only
    rw [cnd_f (by simp), cnd_f (by simp)]
    have ho := otherN_ok h
    obtain ⟨o1, o2⟩ := netOk_of ho
    rw [I.OtherNet_y h g1]
    simp only
    rw [I.MostApart_y ho o1, maxClique_other h]
    simp only
    rw [cnd_t (by simp), I.WiresOf_n h g1]
    simp only
    have h1 := maxClique_one h
    rw [maxClique_other h] at h1
    have e3 : (((maxSize (otherN net) (apart (otherN net)) : Nat) : Int) == 1) = (((wires net : Nat) : Int) == 0) := by
      rw [Bool.eq_iff_iff, beq_iff_eq, beq_iff_eq]
      constructor
      · intro e; have := h1.1 (by omega); omega
      · intro e; have := h1.2 (by omega); omega
    rw [e3, beq_self_eq_true]
  · rw [I.MostClique_x g1, S.MostClique_x g2, g1]
    simp only
    rw [cnd_f (by decide), cnd_t (by decide), cnd_t (by decide), cnd_t (by decide), L.alive_is]
theorem range_at {n k : Nat} (hk : k < n) : (List.range n).getD k 0 = k := by simp [List.getD, hk]
theorem RG_range : ∀ n, RG (List.range n) ∧ nx (List.range n) = n := by
  intro n
  induction n with
  | zero => exact ⟨RG.nil, rfl⟩
  | succ n ih =>
    rw [List.range_succ]
    exact ⟨RG_append.2 ⟨ih.1, by rw [ih.2]; exact Nat.le_refl _⟩, by rw [nx_append, ih.2]; omega⟩
theorem CliqueL_range (net : List Int) (n : Nat) : CliqueL net (List.range n) := fun i j hi hj hne he => by
  rw [List.length_range] at hi hj
  rw [range_at hi, range_at hj] at he
  exact absurd he hne
theorem L.FnCliqueRowOk_is {code : List Int} (hm : code.length ≤ maxLen) (hw : ∀ n ∈ code, (Lit.int .u8 n).wf = true) : L.FnCliqueRowOk_t code = some true := by
  unfold L.FnCliqueRowOk_t L.FnCliqueRowOk_tree
  by_cases hc : (code.length : Int) > 1048576
  · rw [cnd_t (by simpa using hc)]
  rw [cnd_f (by simpa using hc)]
  obtain ⟨net, row, e1, h1, h2⟩ := S.DrawCliqueRowOk_is (Bytes.wf hw)
  rw [e1]
  simp only [optC]
  rcases NetOk_cases net with ⟨h, g1, g2⟩ | ⟨_, g1, g2⟩
  · have h6 := h.hi
    have hlo := h.lo
    have h64 := h.pow
    have hF := FUEL_le
    rw [I.CliqueRowOk_n h g1, S.CliqueRowOk_n h g2]
    simp only
    rw [cnd_f (by simp), g1]
    simp only [Bool.not_true, cond_false]
    have loop := (run_for (run := L.FnCliqueRowOk_run11 (crB net row)) (len := net.length) (fun k (_ : Unit) => ((k : Int), net, row, nl (List.range k))) (fun t k => ()) (fun _ => Sum.inr (net, nl (List.range net.length))) (fun k t => True) (by omega) (fun n k t hk ht => ?_) (fun n t ht => ?_) (t0 := ()) trivial).1
    · rw [show L.FnCliqueRowOk_run11 (crB net row) FUEL (0, net, row, []) = _ from loop]
      simp only [sumC]
      have hfin : crB net (nl (List.range net.length)) = true := crB_row.2 ⟨List.length_range, (RG_range _).1, CliqueL_range net _⟩
      rw [I.CliqueRowOk_n h g1, hfin, L.alive_is]
      rfl
    · simp only [L.FnCliqueRowOk_run11, L.FnCliqueRowOk_step11]
      rw [cnd_t (by rw [decide_eq_true_eq]; omega), cnd_t (small_of (by rw [List.length_append, nl_len]; simp; omega)), add1_nat (by omega), ← nl_append, ← List.range_succ]
      refine ⟨?_, trivial⟩
      cases hcr : crB net row with
      | false => rfl
      | true =>
        obtain ⟨q, rfl, q1, q2, q3⟩ := crB_iff.1 hcr
        have hst : setL q k < 2 ^ net.length := setL_lt (by omega)
        rw [cond_true, L.setOf_n (by omega)]
        simp only [optC]
        rw [I.CliqueOk_n h g1, set_in hst, Int.toNat_natCast, (cliqueB_iff h hst).2 (q3.sets k)]
        rfl
    · simp only [L.FnCliqueRowOk_run11, L.FnCliqueRowOk_step11]
      rw [cnd_f (by rw [decide_eq_false_iff_not]; omega)]
  · rw [I.CliqueRowOk_x g1, S.CliqueRowOk_x g2, g1]
    simp only
    rw [cnd_f (by decide), cnd_t (by decide), cnd_t (by decide), L.alive_is]
theorem L.FnCliqueRow_is {code : List Int} (hm : code.length ≤ maxLen) (hw : ∀ n ∈ code, (Lit.int .u8 n).wf = true) : L.FnCliqueRow_t code = some true := by
  unfold L.FnCliqueRow_t L.FnCliqueRow_tree
  by_cases hc : (code.length : Int) > 1048576
  · rw [cnd_t (by simpa using hc)]
  rw [cnd_f (by simpa using hc)]
  obtain ⟨net, e1, h1⟩ := S.DrawCliqueRow_is (Bytes.wf hw)
  rw [e1]
  simp only [optC]
  rcases NetOk_cases net with ⟨h, g1, g2⟩ | ⟨_, g1, g2⟩
  rotate_left
  · rw [I.CliqueRow_x g1, S.CliqueRow_x g2]
    simp only
    rw [L.sameInts_is (by simp)]
    simp only [Bool.not_true, cond_false]
    rw [cnd_t (by rfl), g1]
    simp only [Bool.not_false, cond_true]
    rw [L.alive_is]
  have h6 := h.hi
  have hlo := h.lo
  have h64 := h.pow
  obtain ⟨a1, a2⟩ := I.CliqueRow_y h g1
  obtain ⟨b1, _⟩ := S.CliqueRow_y h g2
  have hlen := a2.mem.len
  have hnx := crow_nx a2.mem
  have hll := nl_len (clRow net)
  have hle := fewestCl_le net
  rw [a1, b1]
  simp only
  rw [L.sameInts_is (by omega)]
  simp only [Bool.not_true, cond_false]
  rw [cnd_f (by rw [beq_eq_false_iff_ne]; omega)]
  have loop := (run_for (run := L.FnCliqueRow_run11) (len := (clRow net).length) (fun k (t : Nat) => ((t : Int), (k : Int), net, nl (clRow net))) (fun t k => max t ((clRow net).getD k 0 + 1)) (fun t => ((t : Int), net, nl (clRow net))) (fun k t => True) (by omega) (fun f k t hk ht => ?_) (fun f t ht => ?_) (t0 := 0) trivial).1
  · have e2 : fold (clRow net).length (fun t k => max t ((clRow net).getD k 0 + 1)) 0 = fewestCl net := by
      have key : ∀ k, k ≤ (clRow net).length → fold k (fun t k => max t ((clRow net).getD k 0 + 1)) 0 = nx ((clRow net).take k) := by
        intro k
        induction k with
        | zero => intro _; simp [nx, fold_zero]
        | succ k ih => intro hk; rw [fold_succ, ih (by omega), nx_take_succ (by omega)]
      have := key (clRow net).length (Nat.le_refl _)
      rwa [List.take_length, hnx] at this
    rw [e2] at loop
    rw [show L.FnCliqueRow_run11 FUEL (0, 0, net, nl (clRow net)) = _ from loop]
    simp only
    rw [I.CliqueRowOk_n h g1, crB_row.2 ⟨hlen, a2.mem.rg, a2.mem.cl⟩]
    simp only [cond_true]
    rw [I.FewestCliques_y h g1]
    simp only [beq_self_eq_true]
  · simp only [L.FnCliqueRow_run11, L.FnCliqueRow_step11]
    have hv := getD_lt_nx hk
    rw [cnd_t (by simp; omega), cnd_t (by simp; omega), cnd_t (by simp; omega), Int.toNat_natCast, nl_at hk, add1_nat (a := k) (by omega), add1_nat (by omega)]
    refine ⟨?_, trivial⟩
    congr 3
    by_cases hm : (clRow net).getD k 0 + 1 > t
    · rw [if_pos (by omega), Nat.max_eq_right (by omega)]
    · rw [if_neg (by omega), Nat.max_eq_left (by omega)]
  · simp only [L.FnCliqueRow_run11, L.FnCliqueRow_step11]
    rw [cnd_f (by simp; omega)]
theorem L.FnOtherNet_is {code : List Int} (hm : code.length ≤ maxLen) (hw : ∀ n ∈ code, (Lit.int .u8 n).wf = true) : L.FnOtherNet_t code = some true := by
  unfold L.FnOtherNet_t L.FnOtherNet_tree
  by_cases hc : (code.length : Int) > 1048576
  · rw [cnd_t (by simpa using hc)]
  rw [cnd_f (by simpa using hc)]
  obtain ⟨net, e1, h1⟩ := S.DrawOtherNet_is (Bytes.wf hw)
  rw [e1]
  simp only [optC]
  rcases NetOk_cases net with ⟨h, g1, g2⟩ | ⟨_, g1, g2⟩
  rotate_left
  · rw [I.OtherNet_x g1, S.OtherNet_x g2]
    simp only
    rw [L.sameInts_is (by simp)]
    simp only [Bool.not_true, cond_false]
    rw [cnd_t (by rfl), g1]
    simp only [Bool.not_false, cond_true]
    rw [L.alive_is]
  have h6 := h.hi
  have hlo := h.lo
  have h64 := h.pow
  have ho := otherN_ok h
  obtain ⟨o1, o2⟩ := netOk_of ho
  have hl := otherN_len net
  rw [I.OtherNet_y h g1, S.OtherNet_y h g2]
  simp only
  rw [L.sameInts_is (by omega)]
  simp only [Bool.not_true, cond_false]
  rw [cnd_f (by rw [beq_eq_false_iff_ne]; omega), o1]
  simp only [cond_true]
  rw [I.OtherNet_y ho o1, otherN_twice h]
  simp only
  rw [L.sameInts_is (by omega)]
  simp only [cond_true]
  rw [I.WiresOf_n h g1, I.WiresOf_n ho o1]
  simp only
  have hw := wires_other h
  have hnn : net.length * net.length ≤ 6 * 6 := Nat.mul_le_mul h6 h6
  have hmul : (net.length : Int) * ((net.length : Int) - 1) = 2 * ((wires net + wires (otherN net) : Nat) : Int) := by
    rw [Int.mul_sub, Int.mul_one, ← Int.natCast_mul]
    omega
  rw [i64_wrap (n := (net.length : Int) - 1) (by omega) (by omega), hmul, i64_wrap (n := 2 * ((wires net + wires (otherN net) : Nat) : Int)) (by omega) (by omega), Int.mul_tdiv_cancel_left _ (by decide), i64_wrap (n := ((wires net + wires (otherN net) : Nat) : Int)) (by omega) (by omega), i64_wrap (by omega) (by omega),
    cnd_t (by rw [beq_iff_eq]; omega), I.PartMany_n h g1]
  simp only
  rcases parts_other h with hp | hp
  · rw [cnd_t (by rw [hp]; rfl)]
  · by_cases hp1 : parts net = 1
    · rw [cnd_t (by rw [hp1]; rfl)]
    · rw [cnd_f (by rw [beq_eq_false_iff_ne]; omega), I.PartMany_n ho o1]
      simp only
      rw [hp]; rfl
end Go.Proofs.Ytcfajdlkfpdonaa
/- Exact laws of chapters 12 and 13. Conditions: those of each theorem. -/
namespace Go.Proofs.Ytcfajdlkfpdonaa
open D Go.RowKit
set_option linter.unusedVariables false
set_option linter.unusedSimpArgs false


theorem PlayMay_same {a0 : List Int} {a1 : Int} {a2 : Int} : ∃ v, S.PlayMay_t a0 a1 a2 = some v ∧ I.PlayMay_t a0 a1 a2 = some v := by
  rcases NetOk_cases a0 with ⟨h, e1, e2⟩ | ⟨_, e1, e2⟩
  · exact ⟨_, S.PlayMay_n h e2 a1 a2, I.PlayMay_n h e1 a1 a2⟩
  · exact ⟨_, S.PlayMay_x e2 a1 a2, I.PlayMay_x e1 a1 a2⟩
theorem L.FnExactPlayMay_is {a0 : List Int} {a1 : Int} {a2 : Int} : L.FnExactPlayMay_t a0 a1 a2 = some true := by
  unfold L.FnExactPlayMay_t L.FnExactPlayMay_tree
  by_cases ha0 : (a0.length : Int) > 1048576
  · rw [cnd_t (by simpa using ha0)]
  rw [cnd_f (by simpa using ha0)]
  have ta0 := L.toIntS_is (a := a0) (by omega)
  have ea0 := L.eqIntS_is (a := a0) (b := a0) (by omega)
  obtain ⟨b, h1, h2⟩ := PlayMay_same (a0 := a0) (a1 := a1) (a2 := a2)
  simp only [optC, ta0, ea0, h1, h2]
  simp
theorem CliqueOk_same {a0 : List Int} {a1 : Int} : ∃ v, S.CliqueOk_t a0 a1 = some v ∧ I.CliqueOk_t a0 a1 = some v := by
  rcases NetOk_cases a0 with ⟨h, e1, e2⟩ | ⟨_, e1, e2⟩
  · exact ⟨_, S.CliqueOk_n h e2 a1, I.CliqueOk_n h e1 a1⟩
  · exact ⟨_, S.CliqueOk_x e2 a1, I.CliqueOk_x e1 a1⟩
theorem L.FnExactCliqueOk_is {a0 : List Int} {a1 : Int} : L.FnExactCliqueOk_t a0 a1 = some true := by
  unfold L.FnExactCliqueOk_t L.FnExactCliqueOk_tree
  by_cases ha0 : (a0.length : Int) > 1048576
  · rw [cnd_t (by simpa using ha0)]
  rw [cnd_f (by simpa using ha0)]
  have ta0 := L.toIntS_is (a := a0) (by omega)
  have ea0 := L.eqIntS_is (a := a0) (b := a0) (by omega)
  obtain ⟨b, h1, h2⟩ := CliqueOk_same (a0 := a0) (a1 := a1)
  simp only [optC, ta0, ea0, h1, h2]
  simp
theorem MostClique_same {a0 : List Int} : ∃ v, S.MostClique_t a0 = some v ∧ I.MostClique_t a0 = some v := by
  rcases NetOk_cases a0 with ⟨h, e1, e2⟩ | ⟨_, e1, e2⟩
  · exact ⟨_, S.MostClique_y h e2, I.MostClique_y h e1⟩
  · exact ⟨_, S.MostClique_x e2, I.MostClique_x e1⟩
theorem L.FnExactMostClique_is {a0 : List Int} : L.FnExactMostClique_t a0 = some true := by
  unfold L.FnExactMostClique_t L.FnExactMostClique_tree
  by_cases ha0 : (a0.length : Int) > 1048576
  · rw [cnd_t (by simpa using ha0)]
  rw [cnd_f (by simpa using ha0)]
  have ta0 := L.toIntS_is (a := a0) (by omega)
  have ea0 := L.eqIntS_is (a := a0) (b := a0) (by omega)
  obtain ⟨b, h1, h2⟩ := MostClique_same (a0 := a0)
  simp only [optC, ta0, ea0, h1, h2]
  simp
theorem CliqueRowOk_same {a0 a1 : List Int} : ∃ v, S.CliqueRowOk_t a0 a1 = some v ∧ I.CliqueRowOk_t a0 a1 = some v := by
  rcases NetOk_cases a0 with ⟨h, e1, e2⟩ | ⟨_, e1, e2⟩
  · exact ⟨_, S.CliqueRowOk_n h e2, I.CliqueRowOk_n h e1⟩
  · exact ⟨_, S.CliqueRowOk_x e2, I.CliqueRowOk_x e1⟩
theorem L.FnExactCliqueRowOk_is {a0 : List Int} {a1 : List Int} : L.FnExactCliqueRowOk_t a0 a1 = some true := by
  unfold L.FnExactCliqueRowOk_t L.FnExactCliqueRowOk_tree
  by_cases ha0 : (a0.length : Int) > 1048576
  · rw [cnd_t (by simpa using ha0)]
  rw [cnd_f (by simpa using ha0)]
  by_cases ha1 : (a1.length : Int) > 1048576
  · rw [cnd_t (by simpa using ha1)]
  rw [cnd_f (by simpa using ha1)]
  have ta0 := L.toIntS_is (a := a0) (by omega)
  have ea0 := L.eqIntS_is (a := a0) (b := a0) (by omega)
  have ta1 := L.toIntS_is (a := a1) (by omega)
  have ea1 := L.eqIntS_is (a := a1) (b := a1) (by omega)
  obtain ⟨b, h1, h2⟩ := CliqueRowOk_same (a0 := a0) (a1 := a1)
  simp only [optC, ta0, ta1, ea0, ea1, h1, h2]
  simp
theorem CliqueRow_same {a0 : List Int} : ∃ v, S.CliqueRow_t a0 = some v ∧ I.CliqueRow_t a0 = some v ∧ v.length ≤ 1000000 := by
  rcases NetOk_cases a0 with ⟨h, e1, e2⟩ | ⟨_, e1, e2⟩
  · have h6 := h.hi
    refine ⟨_, (S.CliqueRow_y h e2).1, (I.CliqueRow_y h e1).1, ?_⟩
    rw [nl_len, (S.CliqueRow_y h e2).2.mem.len]; omega
  · exact ⟨_, S.CliqueRow_x e2, I.CliqueRow_x e1, by simp⟩
theorem L.FnExactCliqueRow_is {a0 : List Int} : L.FnExactCliqueRow_t a0 = some true := by
  unfold L.FnExactCliqueRow_t L.FnExactCliqueRow_tree
  by_cases ha0 : (a0.length : Int) > 1048576
  · rw [cnd_t (by simpa using ha0)]
  rw [cnd_f (by simpa using ha0)]
  have ta0 := L.toIntS_is (a := a0) (by omega)
  have ea0 := L.eqIntS_is (a := a0) (b := a0) (by omega)
  obtain ⟨v, h1, h2, hv⟩ := CliqueRow_same (a0 := a0)
  obtain ⟨m, m1, m4⟩ := L.marked (v := v) (by omega)
  have ev := L.eqIntS_is (a := v) (b := v) (by omega)
  obtain ⟨ma0, ka0, _, _⟩ := L.markIntS_is (a := a0) (k0 := 1) (by omega) (by omega)
  have ka0' : L.markIntS_t a0 1 = _ := ka0
  simp only [optC, ta0, ea0, h1, h2, ev, m1, m4, ka0', decide_true, Bool.not_true, cond_false, neg_nat, not_beq_self]
theorem OtherNet_same {a0 : List Int} : ∃ v, S.OtherNet_t a0 = some v ∧ I.OtherNet_t a0 = some v ∧ v.length ≤ 1000000 := by
  rcases NetOk_cases a0 with ⟨h, e1, e2⟩ | ⟨_, e1, e2⟩
  · have h6 := h.hi
    refine ⟨_, S.OtherNet_y h e2, I.OtherNet_y h e1, ?_⟩
    rw [otherN_len]; omega
  · exact ⟨_, S.OtherNet_x e2, I.OtherNet_x e1, by simp⟩
theorem L.FnExactOtherNet_is {a0 : List Int} : L.FnExactOtherNet_t a0 = some true := by
  unfold L.FnExactOtherNet_t L.FnExactOtherNet_tree
  by_cases ha0 : (a0.length : Int) > 1048576
  · rw [cnd_t (by simpa using ha0)]
  rw [cnd_f (by simpa using ha0)]
  have ta0 := L.toIntS_is (a := a0) (by omega)
  have ea0 := L.eqIntS_is (a := a0) (b := a0) (by omega)
  obtain ⟨v, h1, h2, hv⟩ := OtherNet_same (a0 := a0)
  obtain ⟨m, m1, m4⟩ := L.marked (v := v) (by omega)
  have ev := L.eqIntS_is (a := v) (b := v) (by omega)
  obtain ⟨ma0, ka0, _, _⟩ := L.markIntS_is (a := a0) (k0 := 1) (by omega) (by omega)
  have ka0' : L.markIntS_t a0 1 = _ := ka0
  simp only [optC, ta0, ea0, h1, h2, ev, m1, m4, ka0', decide_true, Bool.not_true, cond_false, neg_nat, not_beq_self]
end Go.Proofs.Ytcfajdlkfpdonaa
