/- What the small machine's states have to do with the model's worlds, and that it lasts. Conditions: those of each theorem. -/
import Derived.Test.YtonbbeplmjidnaaDen
import Derived.Laws.OwnMore
import Derived.Laws.MakeOwn
namespace Go.Proofs.Ytonbbeplmjidnaa.D
open Go.RowKit
set_option linter.unusedVariables false
set_option linter.unusedSimpArgs false

/-- What a state is held against: the callers' blocks, the own blocks, their handles, the world. -/
structure Cx where
  F : Nat → Prop
  h : List E
  hv : Nat → Value
  w : World

def blk : Value → Option Nat
  | .slice (some a) _ _ => some a.block
  | .pointer (some a) => some a.block
  | _ => none

def E.alive : E → Bool
  | .dead => false
  | _ => true

/-- One of one's own blocks. -/
def Cx.U (c : Cx) (b : Nat) : Prop := ∃ i, (getE c.h i).alive = true ∧ blk (c.hv i) = some b

def RowV (c : Cx) (xs : List Int) (v : Value) : Prop :=
  ∃ a cap, v = .slice a xs.length cap ∧ xs.length ≤ cap ∧ (xs.length = 0 ∨ ∃ b off, a = some ⟨b, off, none⟩ ∧ ¬ c.F b ∧ ¬ c.U b ∧
    ∀ j, j < xs.length → c.w.cell? ⟨b, off + j, none⟩ = some (.int .i64 (eli xs j)))

def AtomR (c : Cx) : Atom → Value → Prop
  | .int k n, v => v = .int k n
  | .bool b, v => v = .bool b
  | .str s, v => v = .string s
  | .row xs, v => RowV c xs v

def RoR (c : Cx) (safe : Bool) (l : L) (v : Value) : Prop :=
  ∃ a cap, v = .slice a l.len cap ∧ l.len ≤ cap ∧ (l.len = 0 ∨ ∃ b off, a = some ⟨b, off, none⟩ ∧ (safe = true → ¬ c.F b) ∧ ¬ c.U b ∧
    ∀ j, j < l.len → ∃ x, c.w.cell? ⟨b, off + j, none⟩ = some x ∧ AtomR c (l.at_ j) x)

def VR0 (c : Cx) : V → Value → Prop
  | .int k n, v => v = .int k n
  | .bool b, v => v = .bool b
  | .str s, v => v = .string s
  | .ro s l, v => RoR c s l v
  | .nil, v => v = .slice none 0 0
  | .own id, v => id < c.h.length ∧ v = c.hv id
  | .sub id off n, v => id < c.h.length ∧ ∃ a cap, v = .slice a n cap ∧ n ≤ cap ∧
      (n = 0 ∨ ∃ g, blk (c.hv id) = some g ∧ a = some ⟨g, off, none⟩) ∧ (∀ l, getE c.h id = .row l → off + n ≤ l.len)
  | .ptr id off, v => id < c.h.length ∧ ∃ g, blk (c.hv id) = some g ∧ v = .pointer (some ⟨g, off, none⟩)
  | .ref a, v => ∃ b off x, v = .pointer (some ⟨b, off, none⟩) ∧ ¬ c.U b ∧ c.w.cell? ⟨b, off, none⟩ = some x ∧ AtomR c a x
  | .fn f, v => v = .func (.func f) #[] #[]
  | .junk, _ => True
  | .agg _, _ => False
  | .tup _, _ => False

def VR1 (c : Cx) : V → Value → Prop
  | .agg vs, v => ∃ cs : Array Value, v = .agg cs ∧ cs.size = vs.length ∧ ∀ j, j < vs.length → VR0 c (vs.getD j .junk) (cs.getD j undef)
  | u, v => VR0 c u v

def VR (c : Cx) : V → Value → Prop
  | .tup vs, v => ∃ cs : Array Value, v = .tuple cs ∧ cs.size = vs.length ∧ ∀ j, j < vs.length → VR1 c (vs.getD j .junk) (cs.getD j undef)
  | u, v => VR1 c u v

/-- What the blocks hold. -/
def Ent (c : Cx) (i : Nat) : E → Prop
  | .row l => ∃ e xs, c.w.ownsRow 0 e 1 (c.hv i) l.len xs ∧ ∀ j, j < l.len → ∃ x, xs[j]? = some x ∧ AtomR c (l.at_ j) x
  | .cells vs => ∃ b e cs, c.hv i = .pointer (some ⟨b, 0, none⟩) ∧ c.w.heap[b]? = some (.cells cs e (0, 0)) ∧ cs.size = vs.length ∧
      ∀ j, j < vs.length → ∃ x, cs[j]? = some x ∧ VR0 c (vs.getD j .junk) x
  | .dead => True

def Handle (v : Value) : Prop := (∃ a l k, v = .slice a l k) ∨ ∃ b, v = .pointer b
structure Rel (c : Cx) : Prop where
  one : ∀ i, i < c.h.length → Handle (c.hv i)
  ent : ∀ i, i < c.h.length → Ent c i (getE c.h i)
  inj : ∀ i j b, (getE c.h i).alive = true → (getE c.h j).alive = true → blk (c.hv i) = some b → blk (c.hv j) = some b → i = j
  lt : ∀ b, c.U b → b < c.w.heap.size
  far : ∀ b, c.F b → b < c.w.heap.size ∧ ¬ c.U b

def sameE : E → E → Bool
  | _, .dead => true
  | .row l, .row l' => decide (l.len = l'.len)
  | .cells vs, .cells ws => decide (vs.length = ws.length)
  | _, _ => false

/-- What a step leaves as it was. -/
structure Ext (c c' : Cx) : Prop where
  F : c'.F = c.F
  os : c'.w.os = c.w.os
  tape : c'.w.tape = c.w.tape
  output : c'.w.output = c.w.output
  size : c.w.heap.size ≤ c'.w.heap.size
  block : ∀ k, k < c.w.heap.size → ¬ c.U k → c'.w.heap[k]? = c.w.heap[k]?
  own : ∀ b, c'.U b → c.U b ∨ c.w.heap.size ≤ b
  len : c.h.length ≤ c'.h.length
  ids : ∀ i, i < c.h.length → c'.hv i = c.hv i ∧ sameE (getE c.h i) (getE c'.h i) = true

theorem getE_out {h : List E} {i : Nat} (hi : h.length ≤ i) : getE h i = .dead := by
  simp [getE, List.getD, List.getElem?_eq_none hi]
theorem alive_lt {h : List E} {i : Nat} (ha : (getE h i).alive = true) : i < h.length := by
  rcases Nat.lt_or_ge i h.length with hi | hi
  · exact hi
  · rw [getE_out hi] at ha; cases ha

theorem sameE_refl (e : E) : sameE e e = true := by cases e <;> simp [sameE]
theorem sameE_trans {a b c : E} (h1 : sameE a b = true) (h2 : sameE b c = true) : sameE a c = true := by
  cases a <;> cases b <;> cases c <;> simp_all [sameE]
theorem Ext.refl (c : Cx) : Ext c c := ⟨rfl, rfl, rfl, rfl, Nat.le_refl _, fun _ _ _ => rfl, fun _ h => .inl h, Nat.le_refl _, fun i _ => ⟨rfl, sameE_refl _⟩⟩
theorem Ext.trans {a b c : Cx} (h : Ext a b) (k : Ext b c) : Ext a c where
  F := k.F.trans h.F
  os := k.os.trans h.os
  tape := k.tape.trans h.tape
  output := k.output.trans h.output
  size := Nat.le_trans h.size k.size
  block := fun i hi hu => (k.block i (Nat.lt_of_lt_of_le hi h.size) (fun hb => (h.own i hb).elim hu (fun hle => by omega))).trans (h.block i hi hu)
  own := fun x hx => (k.own x hx).elim (h.own x) (fun hle => .inr (Nat.le_trans h.size hle))
  len := Nat.le_trans h.len k.len
  ids := fun i hi => ⟨(k.ids i (Nat.lt_of_lt_of_le hi h.len)).1.trans (h.ids i hi).1, sameE_trans (h.ids i hi).2 (k.ids i (Nat.lt_of_lt_of_le hi h.len)).2⟩

theorem Ext.cell {c c' : Cx} (h : Ext c c') {b o : Nat} {x : Value} (hc : c.w.cell? ⟨b, o, none⟩ = some x) (hu : ¬ c.U b) : c'.w.cell? ⟨b, o, none⟩ = some x ∧ ¬ c'.U b := by
  have hlt : b < c.w.heap.size := World.block_lt_of_cell? c.w ⟨b, o, none⟩ hc
  refine ⟨?_, fun hb => (h.own b hb).elim hu (fun hle => by omega)⟩
  rw [World.cell?_of_block (w := c.w) (h.block b hlt hu)]; exact hc

theorem Ext.rowV {c c' : Cx} (h : Ext c c') {xs : List Int} {v : Value} (hr : RowV c xs v) : RowV c' xs v := by
  obtain ⟨a, cap, rfl, hcap, hr⟩ := hr
  refine ⟨a, cap, rfl, hcap, ?_⟩
  rcases hr with h0 | ⟨b, off, ha, hF, hU, hcell⟩
  · exact .inl h0
  · rcases Nat.eq_zero_or_pos xs.length with h0 | hp
    · exact .inl h0
    · exact .inr ⟨b, off, ha, by rw [h.F]; exact hF, (h.cell (hcell 0 hp) hU).2, fun j hj => (h.cell (hcell j hj) hU).1⟩
theorem Ext.atom {c c' : Cx} (h : Ext c c') {a : Atom} {v : Value} (hr : AtomR c a v) : AtomR c' a v := by
  cases a <;> first | exact hr | exact h.rowV hr
theorem Ext.ro {c c' : Cx} (h : Ext c c') {s : Bool} {l : L} {v : Value} (hr : RoR c s l v) : RoR c' s l v := by
  obtain ⟨a, cap, rfl, hcap, hr⟩ := hr
  refine ⟨a, cap, rfl, hcap, ?_⟩
  rcases hr with h0 | ⟨b, off, ha, hF, hU, hcell⟩
  · exact .inl h0
  · rcases Nat.eq_zero_or_pos l.len with h0 | hp
    · exact .inl h0
    · refine .inr ⟨b, off, ha, by rw [h.F]; exact hF, ?_, fun j hj => ?_⟩
      · obtain ⟨x, hx, _⟩ := hcell 0 hp
        exact (h.cell hx hU).2
      · obtain ⟨x, hx, hxa⟩ := hcell j hj
        exact ⟨x, (h.cell hx hU).1, h.atom hxa⟩
theorem Ext.vr0 {c c' : Cx} (h : Ext c c') {u : V} {v : Value} (hr : VR0 c u v) : VR0 c' u v := by
  cases u with
  | ro s l => exact h.ro hr
  | own id => exact ⟨Nat.lt_of_lt_of_le hr.1 h.len, hr.2.trans (h.ids id hr.1).1.symm⟩
  | sub id off n =>
    obtain ⟨hi, a, cap, rfl, hn, hg, hl⟩ := hr
    obtain ⟨e1, e2⟩ := h.ids id hi
    refine ⟨Nat.lt_of_lt_of_le hi h.len, a, cap, rfl, hn, by rw [e1]; exact hg, fun l' hl' => ?_⟩
    rw [hl'] at e2
    cases he : getE c.h id with
    | row l => rw [he] at e2; simp [sameE] at e2; have := hl l he; omega
    | cells vs => rw [he] at e2; simp [sameE] at e2
    | dead => rw [he] at e2; simp [sameE] at e2
  | ptr id off =>
    obtain ⟨hi, g, hg, rfl⟩ := hr
    exact ⟨Nat.lt_of_lt_of_le hi h.len, g, by rw [(h.ids id hi).1]; exact hg, rfl⟩
  | ref a =>
    obtain ⟨b, off, x, rfl, hU, hc, ha⟩ := hr
    exact ⟨b, off, x, rfl, (h.cell hc hU).2, (h.cell hc hU).1, h.atom ha⟩
  | _ => exact hr
theorem vr1_eq {c : Cx} {u : V} {v : Value} (hu : ∀ vs, u ≠ .agg vs) : VR1 c u v ↔ VR0 c u v := by
  cases u <;> first | exact Iff.rfl | exact absurd rfl (hu _)
theorem vr_eq {c : Cx} {u : V} {v : Value} (hu : ∀ vs, u ≠ .tup vs) : VR c u v ↔ VR1 c u v := by
  cases u <;> first | exact Iff.rfl | exact absurd rfl (hu _)
theorem Ext.vr1 {c c' : Cx} (h : Ext c c') {u : V} {v : Value} (hr : VR1 c u v) : VR1 c' u v := by
  by_cases hu : ∃ vs, u = .agg vs
  · obtain ⟨vs, rfl⟩ := hu
    obtain ⟨cs, rfl, hs, ha⟩ := hr
    exact ⟨cs, rfl, hs, fun j hj => h.vr0 (ha j hj)⟩
  · have hu' : ∀ vs, u ≠ .agg vs := fun vs e => hu ⟨vs, e⟩
    exact (vr1_eq hu').2 (h.vr0 ((vr1_eq hu').1 hr))
theorem Ext.vr {c c' : Cx} (h : Ext c c') {u : V} {v : Value} (hr : VR c u v) : VR c' u v := by
  by_cases hu : ∃ vs, u = .tup vs
  · obtain ⟨vs, rfl⟩ := hu
    obtain ⟨cs, rfl, hs, ha⟩ := hr
    exact ⟨cs, rfl, hs, fun j hj => h.vr1 (ha j hj)⟩
  · have hu' : ∀ vs, u ≠ .tup vs := fun vs e => hu ⟨vs, e⟩
    exact (vr_eq hu').2 (h.vr1 ((vr_eq hu').1 hr))
theorem VR0.vr1 {c : Cx} {u : V} {v : Value} (h : VR0 c u v) : VR1 c u v := by cases u <;> first | exact h | exact h.elim
theorem VR1.vr {c : Cx} {u : V} {v : Value} (h : VR1 c u v) : VR c u v := by cases u <;> first | exact h | exact h.elim
theorem VR0.vr {c : Cx} {u : V} {v : Value} (h : VR0 c u v) : VR c u v := h.vr1.vr

/-- The state of a frame. -/
structure RelT (c : Cx) (σ : St) (a : Act) : Prop where
  size : a.tmps.size = σ.n
  defers : a.defers = []
  h : σ.h = c.h
  t : ∀ t, VR c (getT σ.t t) (a.tmps.getD t undef)

theorem nbeq_ne {a b : Nat} (h : a ≠ b) : Nat.beq a b = false := by
  cases hx : Nat.beq a b with
  | false => rfl
  | true => exact absurd (Nat.eq_of_beq_eq_true hx) h
theorem nbeq_self (a : Nat) : Nat.beq a a = true := Nat.beq_refl a
theorem getT_putT (l : List (Nat × V)) (n m : Nat) (v : V) : getT (putT l n v) m = if n = m then v else getT l m := by
  induction l with
  | nil =>
    by_cases h : n = m
    · subst h; simp [putT, getT, nbeq_self]
    · simp [putT, getT, h, nbeq_ne h]
  | cons p r ih =>
    obtain ⟨a, x⟩ := p
    unfold putT
    by_cases h : a = n
    · subst h
      by_cases h2 : a = m
      · subst h2; simp [getT, nbeq_self]
      · simp [getT, h2, nbeq_self, nbeq_ne h2]
    · rw [nbeq_ne h]
      simp only [cond_false, getT]
      by_cases h2 : a = m
      · subst h2
        have : ¬ n = a := fun e => h e.symm
        simp [this, nbeq_self]
      · rw [nbeq_ne h2, cond_false, cond_false, ih]

theorem RelT.ext {c c' : Cx} {σ : St} {a : Act} (h : RelT c σ a) (he : Ext c c') : RelT c' { σ with h := c'.h } a :=
  ⟨h.size, h.defers, rfl, fun t => he.vr (h.t t)⟩
theorem RelT.put {c : Cx} {σ : St} {a : Act} (h : RelT c σ a) {v : V} {x : Value} (hv : VR c v x) (d : Option Nat) : RelT c (σ.put d v) (a.put d x) := by
  cases d with
  | none => exact h
  | some n =>
    unfold St.put Act.put
    by_cases hn : n < σ.n
    · have hb : Nat.blt n σ.n = true := by simpa [Nat.blt_eq] using hn
      simp only [hb, cond_true]
      refine ⟨by simpa using h.size, h.defers, h.h, fun t => ?_⟩
      simp only [getT_putT]
      by_cases ht : n = t
      · subst ht
        simp [h.size, hn, hv]
      · simp only [ht, if_false]
        have : (a.tmps.setIfInBounds n x).getD t undef = a.tmps.getD t undef := by simp [Array.getElem?_setIfInBounds_ne ht]
        rw [this]; exact h.t t
    · have hb : Nat.blt n σ.n = false := by
        cases hx : Nat.blt n σ.n with
        | false => rfl
        | true => rw [Nat.blt_eq] at hx; omega
      simp only [hb, cond_false]
      refine ⟨by simpa using h.size, h.defers, h.h, fun t => ?_⟩
      have : a.tmps.setIfInBounds n x = a.tmps := Array.setIfInBounds_eq_of_size_le (by rw [h.size]; omega)
      rw [this]; exact h.t t

theorem vr0_const (c : Cx) (v : Value) : VR0 c (ofConst v) v := by
  unfold ofConst
  split <;> first | exact rfl | exact trivial | skip
  rename_i f first captured
  split
  · rename_i hh
    obtain ⟨h1, h2⟩ := hh
    have e1 : first = #[] := Array.eq_empty_of_size_eq_zero h1
    have e2 : captured = #[] := Array.eq_empty_of_size_eq_zero h2
    subst e1; subst e2; exact rfl
  · exact trivial
theorem vr_const (c : Cx) (v : Value) : VR c (ofConst v) v := (vr0_const c v).vr
theorem RelT.ev {c : Cx} {σ : St} {a : Act} (h : RelT c σ a) (x : Operand) : VR c (σ.ev x) (a.eval x) := by
  cases x with
  | tmp t => exact h.t t
  | const v => exact vr_const c v
  | global g => exact trivial
  | func f => exact rfl

end Go.Proofs.Ytonbbeplmjidnaa.D
