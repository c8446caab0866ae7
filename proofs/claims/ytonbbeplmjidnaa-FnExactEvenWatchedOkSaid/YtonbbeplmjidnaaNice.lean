/- What loops of twins come to. Conditions: those of each theorem. -/
import Derived.Test.YtonbbeplmjidnaaLaw
import Derived.IntWalk
namespace Go.Proofs.Ytonbbeplmjidnaa.D
open Go.RowKit
set_option linter.unusedVariables false
set_option linter.unusedSimpArgs false

/-- A loop that has an aim and comes nearer to its end in each round. -/
theorem run_aim {S D : Type} {run : Nat → S → Option D} (Inv : S → Prop) (μ : S → Nat) (aim : S → D)
    (h : ∀ n s, Inv s → run (n + 1) s = some (aim s) ∨ ∃ s', run (n + 1) s = run n s' ∧ Inv s' ∧ μ s' < μ s ∧ aim s' = aim s) : ∀ n s, Inv s → μ s < n → run n s = some (aim s) := by
  intro n
  induction n with
  | zero => intro s _ hm; exact absurd hm (Nat.not_lt_zero _)
  | succ n ih =>
    intro s hi hm
    rcases h n s hi with h1 | ⟨s', h1, h2, h3, h4⟩
    · exact h1
    · rw [h1, ih s' h2 (by omega), h4]
theorem run_fuel {S D : Type} {run : Nat → S → Option D} (Inv : S → Prop) (μ : S → Nat) (aim : S → D)
    (h : ∀ n s, Inv s → run (n + 1) s = some (aim s) ∨ ∃ s', run (n + 1) s = run n s' ∧ Inv s' ∧ μ s' < μ s ∧ aim s' = aim s) {s : S} (hi : Inv s) (hm : μ s < 1000000000) : run FUEL s = some (aim s) :=
  run_aim Inv μ aim h FUEL s hi (by have := FUEL_le; omega)

theorem cnd_t {α : Type} {b : Bool} {x y : α} (h : b = true) : (bif b then x else y) = x := by rw [h]; rfl
theorem cnd_f {α : Type} {b : Bool} {x y : α} (h : b = false) : (bif b then x else y) = y := by rw [h]; rfl
theorem i64_wrap {n : Int} (h1 : -9223372036854775808 ≤ n) (h2 : n ≤ 9223372036854775807) : IntKind.i64.wrap n = n := by
  rw [IntKind.wrap_i64]; omega

/-- A loop that counts up and leaves at the first that tells something. -/
theorem run_find {D F : Type} {run : Nat → Int → Option (D ⊕ F)} {len : Nat} (f : Nat → Option D) (e : F) (hl : len ≤ 1048576)
    (h : ∀ n (x : Int), 0 ≤ x → x ≤ len → run (n + 1) x = if x < len then (match f x.toNat with | some d => some (.inl d) | none => run n (x + 1)) else some (.inr e)) :
    run FUEL 0 = some (match (List.range len).findSome? f with | some d => .inl d | none => .inr e) := by
  have key : ∀ n (k : Nat), k ≤ len → len - k < n → run n (k : Int) = some (match (List.range' k (len - k)).findSome? f with | some d => .inl d | none => .inr e) := by
    intro n
    induction n with
    | zero => intro k _ hk; omega
    | succ n ih =>
      intro k hk hn
      rw [h n k (by omega) (by omega)]
      by_cases hx : k < len
      · rw [if_pos (by omega)]
        have e1 : List.range' k (len - k) = k :: List.range' (k + 1) (len - (k + 1)) := by
          have : len - k = (len - (k + 1)) + 1 := by omega
          rw [this]; rfl
        rw [e1, List.findSome?_cons, Int.toNat_natCast]
        cases hf : f k with
        | some d => rfl
        | none =>
          have := ih (k + 1) (by omega) (by omega)
          rw [show ((k : Int) + 1) = ((k + 1 : Nat) : Int) by omega]
          exact this
      · rw [if_neg (by omega)]
        have : len - k = 0 := by omega
        rw [this]; rfl
  have := key FUEL 0 (by omega) (by have := FUEL_le; omega)
  rw [show len - 0 = len by omega, ← List.range_eq_range'] at this
  exact this
/-- The same with a test that must hold of all. -/
theorem run_all {run : Nat → Int → Option (Bool ⊕ Unit)} {len : Nat} (test : Nat → Bool) (hl : len ≤ 1048576)
    (h : ∀ n (x : Int), 0 ≤ x → x ≤ len → run (n + 1) x = if x < len then (bif test x.toNat then run n (x + 1) else some (.inl false)) else some (.inr ())) :
    run FUEL 0 = some (bif (List.range len).all test then .inr () else .inl false) := by
  rw [run_find (run := run) (len := len) (fun k => bif test k then none else some false) () hl (fun n x h0 h1 => by
    rw [h n x h0 h1]
    split
    · cases test x.toNat <;> rfl
    · rfl)]
  congr 1
  generalize List.range len = l
  induction l with
  | nil => rfl
  | cons a l ih =>
    rw [List.findSome?_cons, List.all_cons]
    cases ha : test a with
    | true => simpa using ih
    | false => rfl
/-- A loop that counts up and does the same thing to its state in each round. -/
theorem run_iter {S D : Type} {run : Nat → S → Option D} {len : Nat} (idx : S → Int) (next : S → S) (out : S → D) (Inv : S → Prop) (hl : len ≤ 1048576)
    (h : ∀ n s, Inv s → 0 ≤ idx s → idx s ≤ len → run (n + 1) s = if idx s < len then run n (next s) else some (out s))
    (hi : ∀ s, Inv s → 0 ≤ idx s → idx s < len → idx (next s) = idx s + 1 ∧ Inv (next s)) {s : S} (hs : Inv s) (h0 : 0 ≤ idx s) (h1 : idx s ≤ len) :
    run FUEL s = some (out (Nat.repeat next (len - (idx s).toNat) s)) := by
  have key : ∀ n (m : Nat) (s : S), Inv s → 0 ≤ idx s → idx s ≤ len → m = len - (idx s).toNat → m < n → run n s = some (out (Nat.repeat next m s)) := by
    intro n
    induction n with
    | zero => intro m s _ _ _ _ hm; omega
    | succ n ih =>
      intro m s hs h0 h1 hm hn
      rw [h n s hs h0 h1]
      by_cases hx : idx s < len
      · rw [if_pos hx]
        obtain ⟨e1, e2⟩ := hi s hs h0 hx
        obtain ⟨m, rfl⟩ : ∃ m', m = m' + 1 := ⟨m - 1, by omega⟩
        rw [ih m (next s) e2 (by omega) (by omega) (by omega) (by omega)]
        have : ∀ (k : Nat) (s : S), Nat.repeat next k (next s) = next (Nat.repeat next k s) := by
          intro k
          induction k with
          | zero => intro s; rfl
          | succ k ih => intro s; exact congrArg next (ih s)
        rw [this]; rfl
      · rw [if_neg hx]
        have : m = 0 := by omega
        subst this; rfl
  exact key FUEL _ s hs h0 h1 rfl (by have := FUEL_le; omega)
/-- A loop that ends with what is asked of it. -/
theorem run_post {S D : Type} {run : Nat → S → Option D} (Inv : S → Prop) (μ : S → Nat) (Post : D → Prop)
    (h : ∀ n s, Inv s → (∃ d, run (n + 1) s = some d ∧ Post d) ∨ ∃ s', run (n + 1) s = run n s' ∧ Inv s' ∧ μ s' < μ s) {s : S} (hi : Inv s) (hm : μ s < 1000000000) : ∃ d, run FUEL s = some d ∧ Post d := by
  have key : ∀ n s, Inv s → μ s < n → ∃ d, run n s = some d ∧ Post d := by
    intro n
    induction n with
    | zero => intro s _ hm; exact absurd hm (Nat.not_lt_zero _)
    | succ n ih =>
      intro s hi hm
      rcases h n s hi with h1 | ⟨s', h1, h2, h3⟩
      · exact h1
      · rw [h1]; exact ih s' h2 (by omega)
  exact key FUEL s hi (by have := FUEL_le; omega)
end Go.Proofs.Ytonbbeplmjidnaa.D
