/- Small words for walks and plain lemmas: folds, searches, rows of integers in memory. Conditions: none. -/
import Derived.WalkKit
import Derived.ProofKit
import Derived.BigQuiet
import Derived.Deep.QuietTactic
import Derived.Deep.LoopGhost
import Derived.Deep.Light
import Derived.Handy
namespace Go.Proofs.Ytcpdnljldlpnjaa
open Go.RowKit
set_option linter.unusedVariables false
set_option linter.unusedSimpArgs false

/-- The k-th number of a list; 0 behind its end. -/
def el (zs : List Int) (k : Nat) : Int := zs.getD k 0

/-- The first and the second of a pair, behind a name. -/
def fs {α β : Type} (p : α × β) : α := p.1
def sn {α β : Type} (p : α × β) : β := p.2
@[simp] theorem fs_eq {α β : Type} (p : α × β) : fs p = p.1 := rfl
@[simp] theorem sn_eq {α β : Type} (p : α × β) : sn p = p.2 := rfl

/-- A loop over 0 .. n-1 that carries a state. -/
def fold {α : Type} (n : Nat) (f : α → Nat → α) (a : α) : α := (List.range n).foldl f a
theorem fold_zero {α : Type} (f : α → Nat → α) (a : α) : fold 0 f a = a := rfl
theorem fold_succ {α : Type} (n : Nat) (f : α → Nat → α) (a : α) : fold (n+1) f a = f (fold n f a) n := by
  simp [fold, List.range_succ]

/-- A loop over 0 .. n-1 that leaves at the first k at which f answers. -/
def find {ρ : Type} (n : Nat) (f : Nat → Option ρ) : Option ρ := (List.range n).findSome? f
theorem find_none {ρ : Type} {n : Nat} {f : Nat → Option ρ} : find n f = none ↔ ∀ j, j < n → f j = none := by
  simp [find]
theorem find_some_ex {ρ : Type} {n : Nat} {f : Nat → Option ρ} {r : ρ} (h : find n f = some r) : ∃ k, k < n ∧ f k = some r := by
  obtain ⟨k, hk, h1⟩ := List.exists_of_findSome?_eq_some h
  exact ⟨k, by simpa using hk, h1⟩
theorem find_zero {ρ : Type} (f : Nat → Option ρ) : find 0 f = none := rfl
theorem find_succ {ρ : Type} (n : Nat) (f : Nat → Option ρ) : find (n+1) f = (find n f).or (f n) := by
  simp [find, List.range_succ, List.findSome?_append]
theorem find_some_of {ρ : Type} {n : Nat} {f : Nat → Option ρ} {k : Nat} {r : ρ} (hk : k < n) (h0 : find k f = none) (h1 : f k = some r) : find n f = some r := by
  obtain ⟨m, rfl⟩ : ∃ m, n = k + 1 + m := ⟨n - (k + 1), by omega⟩
  induction m with
  | zero => rw [Nat.add_zero, find_succ, h0, h1]; rfl
  | succ m ih => rw [← Nat.add_assoc, find_succ, ih (by omega)]; rfl
theorem find_none_succ {ρ : Type} {k : Nat} {f : Nat → Option ρ} (h0 : find k f = none) (h1 : f k = none) : find (k + 1) f = none := by
  rw [find_succ, h0, h1]; rfl

theorem find_false {n : Nat} {f : Nat → Option Bool} {x : Bool} (hf : ∀ k, k < n → f k = none ∨ f k = some false) : (find n f).getD x = true ↔ (∀ k, k < n → f k = none) ∧ x = true := by
  cases h : find n f with
  | none =>
    simp only [Option.getD_none]
    exact ⟨fun hx => ⟨find_none.1 h, hx⟩, fun hx => hx.2⟩
  | some r =>
    obtain ⟨k, hk, h1⟩ := find_some_ex h
    rcases hf k hk with h2 | h2
    · rw [h2] at h1; cases h1
    · rw [h2] at h1; cases h1
      simp only [Option.getD_some, Bool.false_eq_true, false_iff]
      intro h3
      have := h3.1 k hk
      rw [h2] at this; cases this
theorem if_none {c : Bool} {r : Bool} : (if c = true then some r else none) = (none : Option Bool) ↔ c = false := by cases c <;> simp
theorem if_either (c : Bool) : (if c = true then some false else none) = none ∨ (if c = true then some false else none) = some false := by cases c <;> simp
/-- A search that says false at the first k of which c holds. -/
theorem find_all {n : Nat} {f : Nat → Option Bool} {c : Nat → Bool} (hf : ∀ k, k < n → f k = if c k = true then some false else none) : (find n f).getD true = true ↔ ∀ k, k < n → c k = false := by
  cases h : find n f with
  | none =>
    simp only [Option.getD_none, true_iff]
    intro k hk
    have h1 := find_none.1 h k hk
    rw [hf k hk] at h1
    cases hc : c k with
    | false => rfl
    | true => rw [hc] at h1; simp at h1
  | some r =>
    obtain ⟨k, hk, h1⟩ := find_some_ex h
    rw [hf k hk] at h1
    cases hc : c k with
    | false => rw [hc] at h1; simp at h1
    | true =>
      rw [hc] at h1; simp at h1; subst h1
      simp only [Option.getD_some, Bool.false_eq_true, false_iff]
      intro h2
      rw [h2 k hk] at hc; cases hc
/-- A search that says true at the first k of which c holds. -/
theorem find_any {n : Nat} {f : Nat → Option Bool} {c : Nat → Bool} (hf : ∀ k, k < n → f k = if c k = true then some true else none) : (find n f).getD false = true ↔ ∃ k, k < n ∧ c k = true := by
  cases h : find n f with
  | none =>
    simp only [Option.getD_none, Bool.false_eq_true, false_iff]
    rintro ⟨k, hk, hc⟩
    have h1 := find_none.1 h k hk
    rw [hf k hk, hc] at h1
    simp at h1
  | some r =>
    obtain ⟨k, hk, h1⟩ := find_some_ex h
    rw [hf k hk] at h1
    cases hc : c k with
    | false => rw [hc] at h1; simp at h1
    | true =>
      rw [hc] at h1; simp at h1; subst h1
      simp only [Option.getD_some, true_iff]
      exact ⟨k, hk, hc⟩

/-- A loop over 0 .. n-1 that carries a state and may leave. -/
def loopE {σ ρ : Type} (n : Nat) (f : σ → Nat → ρ ⊕ σ) (s : σ) : ρ ⊕ σ := fold n (fun acc k => match acc with | .inl r => .inl r | .inr st => f st k) (.inr s)
theorem loopE_zero {σ ρ : Type} (f : σ → Nat → ρ ⊕ σ) (s : σ) : loopE 0 f s = .inr s := rfl
theorem loopE_succ {σ ρ : Type} {n : Nat} {f : σ → Nat → ρ ⊕ σ} {s st : σ} (h : loopE n f s = .inr st) : loopE (n + 1) f s = f st n := by
  unfold loopE at h ⊢; rw [fold_succ, h]
theorem loopE_left {σ ρ : Type} {n k : Nat} {f : σ → Nat → ρ ⊕ σ} {s st : σ} {r : ρ} (hk : k < n) (h : loopE k f s = .inr st) (h1 : f st k = .inl r) : loopE n f s = .inl r := by
  obtain ⟨m, rfl⟩ : ∃ m, n = k + 1 + m := ⟨n - (k + 1), by omega⟩
  induction m with
  | zero => rw [Nat.add_zero, loopE_succ h, h1]
  | succ m ih => have := ih (by omega); unfold loopE at this ⊢; rw [← Nat.add_assoc, fold_succ, this]

/-- A loop by a test, at most so many rounds. -/
def wh {σ : Type} : Nat → (σ → Bool) → (σ → σ) → σ → σ
  | 0, _, _, s => s
  | n + 1, c, f, s => if c s = true then wh n c f (f s) else s
theorem wh_more {σ : Type} {g : Nat} {c : σ → Bool} {f : σ → σ} {st V : σ} (h : wh g c f st = V) (hc : c st = true) (ht : c V = false) : ∃ g', g = g' + 1 := by
  cases g with
  | zero => simp only [wh] at h; subst h; rw [hc] at ht; cases ht
  | succ g => exact ⟨g, rfl⟩
theorem wh_step {σ : Type} {g : Nat} {c : σ → Bool} {f : σ → σ} {st V : σ} (h : wh (g + 1) c f st = V) (hc : c st = true) : wh g c f (f st) = V := by
  simpa only [wh, hc, if_true] using h
theorem wh_done {σ : Type} {g : Nat} {c : σ → Bool} {f : σ → σ} {st V : σ} (h : wh g c f st = V) (hc : c st = false) : V = st := by
  cases g with
  | zero => simp only [wh] at h; exact h.symm
  | succ g => simp only [wh, hc] at h; simpa using h.symm
theorem wh_inv {σ : Type} {n : Nat} {c : σ → Bool} {f : σ → σ} (I : σ → Prop) (m : σ → Nat) (hI : ∀ s, I s → c s = true → I (f s) ∧ m (f s) < m s) {s : σ} (hs : I s) (hn : m s ≤ n) : I (wh n c f s) ∧ c (wh n c f s) = false := by
  induction n generalizing s with
  | zero =>
    refine ⟨hs, ?_⟩
    cases hc : c s with
    | false => exact hc
    | true => have := (hI s hs hc).2; omega
  | succ n ih =>
    unfold wh
    cases hc : c s with
    | false => simp [hc, hs]
    | true => have h := hI s hs hc; simp; exact ih h.1 (by omega)

/-- The slice over 'a' of as many elements as zs has reads as zs. -/
structure Row (w : World) (a : Option Addr) (zs : List Int) : Prop where
  le : zs.length ≤ 9223372036854775807
  cells : zs.length = 0 ∨ ∃ b off, a = some ⟨b, off, none⟩ ∧ ∀ j, j < zs.length → w.cell? ⟨b, off + j, none⟩ = some (.int .i64 (el zs j))

theorem Row.get {w : World} {a : Option Addr} {zs : List Int} (h : Row w a zs) {k : Nat} (hk : k < zs.length) :
    ∃ b off, a = some ⟨b, off, none⟩ ∧ ∀ j, j < zs.length → w.cell? ⟨b, off + j, none⟩ = some (.int .i64 (el zs j)) := by
  rcases h.cells with h0 | h1
  · omega
  · exact h1
theorem Row.drewN {w : World} {a : Option Addr} {zs : List Int} (h : Row w a zs) (n : Nat) : Row (w.drewN n) a zs := ⟨h.le, h.cells⟩
theorem Row.drew {w : World} {a : Option Addr} {zs : List Int} (h : Row w a zs) : Row w.drew a zs := ⟨h.le, h.cells⟩
theorem Row.below {w w' : World} {a : Option Addr} {zs : List Int} (h : Row w a zs) (hb : Below w.heap.size w w') : Row w' a zs := by
  refine ⟨h.le, ?_⟩
  rcases h.cells with h0 | ⟨b, off, ha, hc⟩
  · exact .inl h0
  · refine .inr ⟨b, off, ha, fun j hj => ?_⟩
    have h1 := hc j hj
    have hlt : b < w.heap.size := block_lt_of_cell h1
    rw [hb.cell (p := ⟨b, off + j, none⟩) hlt]; exact h1
theorem Row.nil (w : World) (a : Option Addr) : Row w a [] := ⟨by simp, .inl rfl⟩

theorem ret_int {k : IntKind} {a b : Int} (h : a = b) : Ending.returned (.int k a) = .returned (.int k b) := by rw [h]
theorem ret_bool {a b : Bool} (h : a = b) : Ending.returned (.bool a) = .returned (.bool b) := by rw [h]
theorem val_int {k : IntKind} {a b : Int} (h : a = b) : Value.int k a = .int k b := by rw [h]
theorem val_bool {a b : Bool} (h : a = b) : Value.bool a = .bool b := by rw [h]
theorem quietA {P : Program} {f : FuncId} {args : Array Value} {w : World} {n : Nat} {v : Value}
    (h : Calls P f args (w.drewN n) fun e w' => e = .returned v ∧ w.drewN n = w') : Calls P f args (w.drewN n) fun e w'' => e = .returned v ∧ ∃ m, w'' = w.drewN m :=
  h.mono fun _ _ ⟨he, hm⟩ => ⟨he, n, hm.symm⟩
theorem quietB {P : Program} {f : FuncId} {args : Array Value} {w : World} {n : Nat} {v : Value}
    (h : Calls P f args (w.drewN n) fun e w' => e = .returned v ∧ ∃ m, (w.drewN n).drewN m = w') : Calls P f args (w.drewN n) fun e w'' => e = .returned v ∧ ∃ m, w'' = w.drewN m :=
  h.mono fun _ _ ⟨he, m, hm⟩ => ⟨he, n + m, by rw [← hm, World.drewN_drewN]⟩
theorem quietC {P : Program} {f : FuncId} {args : Array Value} {w : World} {a n : Nat} {v : Value}
    (h : Calls P f args (w.drewN (a + n)) fun e w' => e = .returned v ∧ w.drewN (a + n) = w') : Calls P f args (w.drewN (a + n)) fun e w'' => e = .returned v ∧ ∃ m, w'' = w.drewN (a + m) :=
  h.mono fun _ _ ⟨he, hm⟩ => ⟨he, n, hm.symm⟩
theorem quietD {P : Program} {f : FuncId} {args : Array Value} {w : World} {a n : Nat} {v : Value}
    (h : Calls P f args (w.drewN (a + n)) fun e w' => e = .returned v ∧ ∃ m, (w.drewN (a + n)).drewN m = w') : Calls P f args (w.drewN (a + n)) fun e w'' => e = .returned v ∧ ∃ m, w'' = w.drewN (a + m) :=
  h.mono fun _ _ ⟨he, m, hm⟩ => ⟨he, n + m, by rw [← hm, World.drewN_drewN, Nat.add_assoc]⟩
theorem wrap64_hi (n : Int) : wrap64 n ≤ 9223372036854775807 := by unfold wrap64; omega
theorem wrap64_lo (n : Int) : -9223372036854775808 ≤ wrap64 n := by unfold wrap64; omega

/-! ### Rows that a call makes -/
/-- v, in the world w, owns a row of the numbers L, in a block from B on (e: the number of the type int). -/
def OwnI (e B : Nat) (w : World) (v : Value) (L : List Int) : Prop := w.ownsRow B e 1 v L.length (L.map (Value.int .i64))
theorem OwnI.row {e B : Nat} {w : World} {v : Value} {L : List Int} (h : OwnI e B w v L) (hl : L.length ≤ 9223372036854775807) : ∃ a c, v = .slice a L.length c ∧ Row w a L := by
  rcases h.2 with ⟨hv, hn⟩ | ⟨g, cap, cur, hv, hb, hg, hn, hc, hs, ht⟩
  · exact ⟨none, 0, by rw [hv, hn], hl, .inl hn⟩
  · refine ⟨some ⟨g, 0, none⟩, cap, hv, hl, .inr ⟨g, 0, rfl, fun j hj => ?_⟩⟩
    subst hv
    have h1 := World.ownsRow.cellAt h j (by omega)
    rw [Nat.zero_add, h1]
    simp [el, List.getD, hj]
theorem OwnI.below {e B : Nat} {w w' : World} {v : Value} {L : List Int} (h : OwnI e B w v L) (hb : Below w.heap.size w w') : OwnI e B w' v L :=
  World.ownsRow.kept h (row := none) ⟨hb.os, hb.tape, hb.output, hb.size, fun k hk _ => hb.block k hk⟩ (by cases v.ownBlock <;> simp)
theorem OwnI.drewN {e B : Nat} {w : World} {v : Value} {L : List Int} (h : OwnI e B w v L) (n : Nat) : OwnI e B (w.drewN n) v L := h
theorem OwnI.other {e B : Nat} {w w' : World} {v : Value} {L : List Int} {g : Nat} (h : OwnI e B w v L) (hg : w.grownBy w' (some g)) (hne : v.ownBlock ≠ some g) : OwnI e B w' v L :=
  World.ownsRow.kept h hg (.inr hne)
theorem OwnI.block {e B : Nat} {w : World} {v : Value} {L : List Int} (h : OwnI e B w v L) {k : Nat} (hk : v.ownBlock = some k) : B ≤ k ∧ k < w.heap.size := World.ownsRow.lt h k hk
theorem OwnI.past {e B : Nat} {w w' : World} {v : Value} {L : List Int} {rb : Nat} (h : OwnI e B w v L) (hg : w.grownBy w' (some rb)) (hlt : rb < B) : OwnI e B w' v L :=
  h.other hg (fun he => by have := h.block he; omega)
theorem OwnI.nil (e B : Nat) (w : World) : OwnI e B w (.slice none 0 0) [] := World.ownsRow_nil w B e 1
theorem below_drewN' {B : Nat} {a w : World} (h : Below B a w) (n : Nat) : Below B a (w.drewN n) := h.trans ⟨rfl, rfl, rfl, Nat.le_refl _, fun _ _ => rfl⟩
theorem Row.grown {w w' : World} {a : Option Addr} {zs : List Int} {g : Nat} (h : Row w a zs) (hg : w.grownBy w' (some g)) (hne : ∀ x, a = some x → x.block ≠ g) : Row w' a zs := by
  refine ⟨h.le, ?_⟩
  rcases h.cells with h0 | ⟨b, off, ha, hc⟩
  · exact .inl h0
  · refine .inr ⟨b, off, ha, fun j hj => ?_⟩
    have h1 := hc j hj
    have hne2 : b ≠ g := hne _ ha
    exact hg.cell h1 (by simp; exact hne2)

/-- Block g holds the row L, head first; it may be written. -/
def Blk (e : Nat) (w : World) (g cap : Nat) (L : List Int) : Prop := w.ownsRow 0 e 1 (.slice (some ⟨g, 0, none⟩) L.length cap) L.length (L.map (Value.int .i64))
theorem Blk.cell {e : Nat} {w : World} {g cap : Nat} {L : List Int} (h : Blk e w g cap L) {k : Nat} (hk : k < L.length) : w.cell? ⟨g, k, none⟩ = some (.int .i64 (el L k)) := by
  rw [World.ownsRow.cellAt h k (by omega)]; simp [el, List.getD, hk]
theorem Blk.free {e : Nat} {w : World} {g cap : Nat} {L : List Int} (h : Blk e w g cap L) (k : Nat) : w.frozen? ⟨g, k, none⟩ = false := World.ownsRow.frozenAt h k
theorem Blk.set {e : Nat} {w : World} {g cap : Nat} {L : List Int} (h : Blk e w g cap L) (k : Nat) (x : Int) : Blk e (w.setCell ⟨g, k, none⟩ (.int .i64 x)) g cap (L.set k x) := by
  have h1 := (World.ownsRow.stored h k (.int .i64 x)).1
  rw [← List.map_set] at h1
  unfold Blk
  rw [List.length_set]
  exact h1
theorem Blk.keep {e : Nat} {w w' : World} {g cap r : Nat} {L : List Int} (h : Blk e w g cap L) (hg : w.grownBy w' (some r)) (hne : g ≠ r) : Blk e w' g cap L :=
  World.ownsRow.kept h hg (.inr (by simp [Value.ownBlock]; exact hne))
theorem Blk.drewN {e : Nat} {w : World} {g cap : Nat} {L : List Int} (h : Blk e w g cap L) (n : Nat) : Blk e (w.drewN n) g cap L := h
theorem Blk.below {e : Nat} {w w' : World} {g cap : Nat} {L : List Int} (h : Blk e w g cap L) (hb : Below w.heap.size w w') : Blk e w' g cap L :=
  World.ownsRow.kept h (row := none) ⟨hb.os, hb.tape, hb.output, hb.size, fun k hk _ => hb.block k hk⟩ (by simp [Value.ownBlock])
theorem Blk.lt {e : Nat} {w : World} {g cap : Nat} {L : List Int} (h : Blk e w g cap L) : g < w.heap.size := (World.ownsRow.lt h g rfl).2
theorem Blk.own {e B : Nat} {w : World} {g cap : Nat} {L : List Int} (h : Blk e w g cap L) (hb : B ≤ g) : OwnI e B w (.slice (some ⟨g, 0, none⟩) L.length cap) L := by
  refine ⟨h.1, ?_⟩
  rcases h.2 with h1 | ⟨g', cap', cur, h1, h2, h3⟩
  · exact .inl h1
  · refine .inr ⟨g', cap', cur, h1, ?_, h3⟩
    simp only [Value.slice.injEq, Option.some.injEq, Addr.mk.injEq] at h1
    omega
theorem OwnI.empty {e B : Nat} {w : World} (hb : B ≤ w.heap.size) : OwnI e B (w.alloc (.cells #[] e)) (.slice (some ⟨w.heap.size, 0, none⟩) 0 0) [] :=
  World.ownsRow_made w #[] 0 hb (by unfold maxLen; omega) rfl
theorem Blk.own' {e B n : Nat} {w : World} {g cap : Nat} {L : List Int} (h : Blk e w g cap L) (hb : B ≤ g) (hn : L.length = n) : OwnI e B w (.slice (some ⟨g, 0, none⟩) n cap) L := by
  subst hn; exact h.own hb
theorem grown_alloc (w : World) (o : Obj) (r : Option Nat) : w.grownBy (w.alloc o) r := World.grownBy_alloc w o r
theorem Blk.alloc {e : Nat} {w : World} {g cap : Nat} {L : List Int} (h : Blk e w g cap L) (o : Obj) : Blk e (w.alloc o) g cap L := World.ownsRow.alloc h o
theorem Blk.made {e : Nat} {w : World} {base g n : Nat} (h : w.ownsRow base e 1 (.slice (some ⟨g, 0, none⟩) n n) n (madeCells #[Value.int .i64 0] n).toList) : Blk e w g n (List.replicate n 0) := by
  rw [toList_madeCells_one] at h
  have e1 : List.replicate n (Value.int IntKind.i64 0) = (List.replicate n (0 : Int)).map (Value.int .i64) := by simp
  rw [e1] at h
  unfold Blk
  rw [List.length_replicate]
  refine ⟨h.1, ?_⟩
  rcases h.2 with h1 | ⟨g', cap', cur, h1, h2, h3⟩
  · exact .inl h1
  · exact .inr ⟨g', cap', cur, h1, Nat.zero_le _, h3⟩
theorem grown_trans {w w1 w2 : World} {r : Option Nat} (h : w.grownBy w1 r) (h2 : w1.grownBy w2 r) : w.grownBy w2 r :=
  ⟨h2.os.trans h.os, h2.tape.trans h.tape, h2.output.trans h.output, Nat.le_trans h.size h2.size, fun k hk hne => (h2.block k (Nat.lt_of_lt_of_le hk h.size) hne).trans (h.block k hk hne)⟩
theorem grown_new {w w1 w2 : World} {r : Option Nat} {g : Nat} (h : w.grownBy w1 r) (h2 : w1.grownBy w2 (some g)) (hg : w.heap.size ≤ g) : w.grownBy w2 r :=
  ⟨h2.os.trans h.os, h2.tape.trans h.tape, h2.output.trans h.output, Nat.le_trans h.size h2.size, fun k hk hne => (h2.block k (Nat.lt_of_lt_of_le hk h.size) (by intro e; injection e with e; omega)).trans (h.block k hk hne)⟩
theorem grown_none {w w1 w2 : World} {r : Option Nat} (h : w.grownBy w1 r) (h2 : w1.grownBy w2 none) : w.grownBy w2 r :=
  ⟨h2.os.trans h.os, h2.tape.trans h.tape, h2.output.trans h.output, Nat.le_trans h.size h2.size, fun k hk hne => (h2.block k (Nat.lt_of_lt_of_le hk h.size) (by simp)).trans (h.block k hk hne)⟩
theorem grown_refl (w : World) (r : Option Nat) : w.grownBy w r := ⟨rfl, rfl, rfl, Nat.le_refl _, fun _ _ _ => rfl⟩
theorem grown_dr {w w' : World} {row : Option Nat} (h : w.grownBy w' row) (m : Nat) : w.grownBy (w'.drewN m) row := ⟨h.os, h.tape, h.output, h.size, h.block⟩
theorem grown_set (w : World) (rb o : Nat) (v : Value) : w.grownBy (w.setCell ⟨rb, o, none⟩ v) (some rb) :=
  ⟨rfl, rfl, rfl, by simp, fun j _ hj => heap_setCell_other w ⟨rb, o, none⟩ j v (fun e => hj (by simp [e]))⟩
theorem grown_of_below {w w' : World} (r : Option Nat) (h : Below w.heap.size w w') : w.grownBy w' r := ⟨h.os, h.tape, h.output, h.size, fun k hk _ => h.block k hk⟩
theorem below_of_grown {w w' : World} (h : w.grownBy w' none) : Below w.heap.size w w' := ⟨h.os, h.tape, h.output, h.size, fun k hk => h.block k hk (by simp)⟩
theorem below_of_new {B : Nat} {w w1 w2 : World} {g : Nat} (h : Below B w w1) (hg : w1.grownBy w2 (some g)) (hb : B ≤ g) (hs : B ≤ w1.heap.size) : Below B w w2 := h.grown hg hs (fun k hk => by injection hk with hk; omega)
theorem below_drew' {B : Nat} {a w : World} (h : Below B a w) : Below B a w.drew := h.drew
theorem below_on {w w1 w2 : World} (h : Below w.heap.size w w1) (h2 : Below w1.heap.size w1 w2) : Below w.heap.size w w2 := h.trans (h2.mono h.size)
theorem below_same {B : Nat} {w w1 : World} (h : Below B w w1) : Below B w w1 := h

end Go.Proofs.Ytcpdnljldlpnjaa
