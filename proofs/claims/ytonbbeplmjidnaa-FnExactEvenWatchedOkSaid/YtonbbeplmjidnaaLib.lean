/- Small plain words: folds, searches, loops. Conditions: none. -/
import Derived.WalkKit
import Derived.ProofKit
import Derived.IntWalk
import Derived.KernelRfl
namespace Go.Proofs.Ytonbbeplmjidnaa
open Go.RowKit
set_option linter.unusedVariables false
set_option linter.unusedSimpArgs false

/-- The k-th number of a list; 0 behind its end. -/
def el (zs : List Int) (k : Nat) : Int := zs.getD k 0


/-- A loop over 0 .. n-1 that carries a state. -/
def fold {α : Type} (n : Nat) (f : α → Nat → α) (a : α) : α := (List.range n).foldl f a
theorem fold_zero {α : Type} (f : α → Nat → α) (a : α) : fold 0 f a = a := rfl
theorem fold_succ {α : Type} (n : Nat) (f : α → Nat → α) (a : α) : fold (n+1) f a = f (fold n f a) n := by
  simp [fold, List.range_succ]

/-- A loop over 0 .. n-1 that leaves at the first k at which f answers. -/
def find {ρ : Type} (n : Nat) (f : Nat → Option ρ) : Option ρ := (List.range n).findSome? f
theorem find_none {ρ : Type} {n : Nat} {f : Nat → Option ρ} : find n f = none ↔ ∀ j, j < n → f j = none := by
  simp [find]
theorem find_some_ex {ρ : Type} {n : Nat} {f : Nat → Option ρ} {r : ρ} (h : find n f = some r) : ∃ k, k < n ∧ f k = some r := by
  obtain ⟨k, hk, h1⟩ := List.exists_of_findSome?_eq_some h
  exact ⟨k, by simpa using hk, h1⟩
theorem find_zero {ρ : Type} (f : Nat → Option ρ) : find 0 f = none := rfl
theorem find_succ {ρ : Type} (n : Nat) (f : Nat → Option ρ) : find (n+1) f = (find n f).or (f n) := by
  simp [find, List.range_succ, List.findSome?_append]
theorem find_some_of {ρ : Type} {n : Nat} {f : Nat → Option ρ} {k : Nat} {r : ρ} (hk : k < n) (h0 : find k f = none) (h1 : f k = some r) : find n f = some r := by
  obtain ⟨m, rfl⟩ : ∃ m, n = k + 1 + m := ⟨n - (k + 1), by omega⟩
  induction m with
  | zero => rw [Nat.add_zero, find_succ, h0, h1]; rfl
  | succ m ih => rw [← Nat.add_assoc, find_succ, ih (by omega)]; rfl
theorem find_none_succ {ρ : Type} {k : Nat} {f : Nat → Option ρ} (h0 : find k f = none) (h1 : f k = none) : find (k + 1) f = none := by
  rw [find_succ, h0, h1]; rfl

theorem find_false {n : Nat} {f : Nat → Option Bool} {x : Bool} (hf : ∀ k, k < n → f k = none ∨ f k = some false) : (find n f).getD x = true ↔ (∀ k, k < n → f k = none) ∧ x = true := by
  cases h : find n f with
  | none =>
    simp only [Option.getD_none]
    exact ⟨fun hx => ⟨find_none.1 h, hx⟩, fun hx => hx.2⟩
  | some r =>
    obtain ⟨k, hk, h1⟩ := find_some_ex h
    rcases hf k hk with h2 | h2
    · rw [h2] at h1; cases h1
    · rw [h2] at h1; cases h1
      simp only [Option.getD_some, Bool.false_eq_true, false_iff]
      intro h3
      have := h3.1 k hk
      rw [h2] at this; cases this
theorem if_none {c : Bool} {r : Bool} : (if c = true then some r else none) = (none : Option Bool) ↔ c = false := by cases c <;> simp
theorem if_either (c : Bool) : (if c = true then some false else none) = none ∨ (if c = true then some false else none) = some false := by cases c <;> simp
/-- A search that says false at the first k of which c holds. -/
theorem find_all {n : Nat} {f : Nat → Option Bool} {c : Nat → Bool} (hf : ∀ k, k < n → f k = if c k = true then some false else none) : (find n f).getD true = true ↔ ∀ k, k < n → c k = false := by
  cases h : find n f with
  | none =>
    simp only [Option.getD_none, true_iff]
    intro k hk
    have h1 := find_none.1 h k hk
    rw [hf k hk] at h1
    cases hc : c k with
    | false => rfl
    | true => rw [hc] at h1; simp at h1
  | some r =>
    obtain ⟨k, hk, h1⟩ := find_some_ex h
    rw [hf k hk] at h1
    cases hc : c k with
    | false => rw [hc] at h1; simp at h1
    | true =>
      rw [hc] at h1; simp at h1; subst h1
      simp only [Option.getD_some, Bool.false_eq_true, false_iff]
      intro h2
      rw [h2 k hk] at hc; cases hc
/-- A search that says true at the first k of which c holds. -/
theorem find_any {n : Nat} {f : Nat → Option Bool} {c : Nat → Bool} (hf : ∀ k, k < n → f k = if c k = true then some true else none) : (find n f).getD false = true ↔ ∃ k, k < n ∧ c k = true := by
  cases h : find n f with
  | none =>
    simp only [Option.getD_none, Bool.false_eq_true, false_iff]
    rintro ⟨k, hk, hc⟩
    have h1 := find_none.1 h k hk
    rw [hf k hk, hc] at h1
    simp at h1
  | some r =>
    obtain ⟨k, hk, h1⟩ := find_some_ex h
    rw [hf k hk] at h1
    cases hc : c k with
    | false => rw [hc] at h1; simp at h1
    | true =>
      rw [hc] at h1; simp at h1; subst h1
      simp only [Option.getD_some, true_iff]
      exact ⟨k, hk, hc⟩

/-- A loop over 0 .. n-1 that carries a state and may leave. -/
def loopE {σ ρ : Type} (n : Nat) (f : σ → Nat → ρ ⊕ σ) (s : σ) : ρ ⊕ σ := fold n (fun acc k => match acc with | .inl r => .inl r | .inr st => f st k) (.inr s)
theorem loopE_zero {σ ρ : Type} (f : σ → Nat → ρ ⊕ σ) (s : σ) : loopE 0 f s = .inr s := rfl
theorem loopE_succ {σ ρ : Type} {n : Nat} {f : σ → Nat → ρ ⊕ σ} {s st : σ} (h : loopE n f s = .inr st) : loopE (n + 1) f s = f st n := by
  unfold loopE at h ⊢; rw [fold_succ, h]
theorem loopE_left {σ ρ : Type} {n k : Nat} {f : σ → Nat → ρ ⊕ σ} {s st : σ} {r : ρ} (hk : k < n) (h : loopE k f s = .inr st) (h1 : f st k = .inl r) : loopE n f s = .inl r := by
  obtain ⟨m, rfl⟩ : ∃ m, n = k + 1 + m := ⟨n - (k + 1), by omega⟩
  induction m with
  | zero => rw [Nat.add_zero, loopE_succ h, h1]
  | succ m ih => have := ih (by omega); unfold loopE at this ⊢; rw [← Nat.add_assoc, fold_succ, this]

/-- A loop by a test, at most so many rounds. -/
def wh {σ : Type} : Nat → (σ → Bool) → (σ → σ) → σ → σ
  | 0, _, _, s => s
  | n + 1, c, f, s => if c s = true then wh n c f (f s) else s
theorem wh_more {σ : Type} {g : Nat} {c : σ → Bool} {f : σ → σ} {st V : σ} (h : wh g c f st = V) (hc : c st = true) (ht : c V = false) : ∃ g', g = g' + 1 := by
  cases g with
  | zero => simp only [wh] at h; subst h; rw [hc] at ht; cases ht
  | succ g => exact ⟨g, rfl⟩
theorem wh_step {σ : Type} {g : Nat} {c : σ → Bool} {f : σ → σ} {st V : σ} (h : wh (g + 1) c f st = V) (hc : c st = true) : wh g c f (f st) = V := by
  simpa only [wh, hc, if_true] using h
theorem wh_done {σ : Type} {g : Nat} {c : σ → Bool} {f : σ → σ} {st V : σ} (h : wh g c f st = V) (hc : c st = false) : V = st := by
  cases g with
  | zero => simp only [wh] at h; exact h.symm
  | succ g => simp only [wh, hc] at h; simpa using h.symm
theorem wh_inv {σ : Type} {n : Nat} {c : σ → Bool} {f : σ → σ} (I : σ → Prop) (m : σ → Nat) (hI : ∀ s, I s → c s = true → I (f s) ∧ m (f s) < m s) {s : σ} (hs : I s) (hn : m s ≤ n) : I (wh n c f s) ∧ c (wh n c f s) = false := by
  induction n generalizing s with
  | zero =>
    refine ⟨hs, ?_⟩
    cases hc : c s with
    | false => exact hc
    | true => have := (hI s hs hc).2; omega
  | succ n ih =>
    unfold wh
    cases hc : c s with
    | false => simp [hc, hs]
    | true => have h := hI s hs hc; simp; exact ih h.1 (by omega)


end Go.Proofs.Ytonbbeplmjidnaa
