/- Steps of states: a new block, a store, an append. Conditions: those of each theorem. -/
import Derived.Test.YtonbbeplmjidnaaRel
namespace Go.Proofs.Ytonbbeplmjidnaa.D
open Go.RowKit
set_option linter.unusedVariables false
set_option linter.unusedSimpArgs false

theorem getE_append_lt {h : List E} {r : List E} {i : Nat} (hi : i < h.length) : getE (h ++ r) i = getE h i := by
  simp [getE, List.getD, List.getElem?_append_left hi]
theorem getE_append_new {h : List E} {e : E} : getE (h ++ [e]) h.length = e := by
  simp [getE, List.getD]
theorem getE_append_out {h : List E} {e : E} {i : Nat} (hi : h.length < i) : getE (h ++ [e]) i = .dead := getE_out (by simp; omega)
theorem getE_set {h : List E} {id i : Nat} {e : E} (hi : id < h.length) : getE (h.set id e) i = if id = i then e else getE h i := by
  by_cases hh : id = i
  · subst hh; simp [getE, List.getD, hi]
  · simp [getE, List.getD, hh]

theorem ownsRow_block {w w' : World} {e : TypeId} {v : Value} {n : Nat} {xs : List Value} (h : w.ownsRow 0 e 1 v n xs)
    (hb : ∀ b, blk v = some b → w'.heap[b]? = w.heap[b]?) : w'.ownsRow 0 e 1 v n xs := by
  refine ⟨h.1, ?_⟩
  rcases h.2 with hn | ⟨g, cap, cur, rfl, hb0, hg, rest⟩
  · exact .inl hn
  · exact .inr ⟨g, cap, cur, rfl, hb0, by rw [hb g rfl]; exact hg, rest⟩

theorem Ent.keep {c c' : Cx} {i : Nat} {e : E} (he : Ext c c') (hi : i < c.h.length) (h : Ent c i e)
    (hb : ∀ b, blk (c.hv i) = some b → c'.w.heap[b]? = c.w.heap[b]?) : Ent c' i e := by
  have e1 := (he.ids i hi).1
  cases e with
  | row l =>
    obtain ⟨e, xs, ho, ha⟩ := h
    refine ⟨e, xs, by rw [e1]; exact ownsRow_block ho hb, fun j hj => ?_⟩
    obtain ⟨x, hx, hxa⟩ := ha j hj
    exact ⟨x, hx, he.atom hxa⟩
  | cells vs =>
    obtain ⟨b, e, cs, hv, hg, hs, ha⟩ := h
    refine ⟨b, e, cs, by rw [e1]; exact hv, by rw [hb b (by rw [hv]; rfl)]; exact hg, hs, fun j hj => ?_⟩
    obtain ⟨x, hx, hxa⟩ := ha j hj
    exact ⟨x, hx, he.vr0 hxa⟩
  | dead => trivial

/-- A new own block. -/
def Cx.push (c : Cx) (e : E) (x : Value) (w' : World) : Cx :=
  ⟨c.F, c.h ++ [e], fun i => if i = c.h.length then x else c.hv i, w'⟩
theorem Cx.push_hv (c : Cx) (e : E) (x : Value) (w' : World) {i : Nat} (hi : i < c.h.length) : (c.push e x w').hv i = c.hv i := by
  have : i ≠ c.h.length := by omega
  simp [Cx.push, this]
theorem Cx.push_new (c : Cx) (e : E) (x : Value) (w' : World) : (c.push e x w').hv c.h.length = x := by simp [Cx.push]
theorem Cx.push_U {c : Cx} {e : E} {x : Value} {w' : World} {b : Nat} (h : (c.push e x w').U b) : c.U b ∨ blk x = some b := by
  obtain ⟨i, ha, hb⟩ := h
  have hl : i < (c.h ++ [e]).length := alive_lt ha
  simp at hl
  rcases Nat.lt_or_ge i c.h.length with hi | hi
  · left
    refine ⟨i, ?_, ?_⟩
    · rw [show (c.push e x w').h = c.h ++ [e] from rfl, getE_append_lt hi] at ha; exact ha
    · rw [c.push_hv e x w' hi] at hb; exact hb
  · obtain rfl : i = c.h.length := by omega
    right; rw [c.push_new] at hb; exact hb
theorem Cx.ext_push {c : Cx} (hr : Rel c) (e : E) (x : Value) {w' : World} (hg : c.w.grownBy w' none) (hx : ∀ b, blk x = some b → c.w.heap.size ≤ b) : Ext c (c.push e x w') where
  F := rfl
  os := hg.os
  tape := hg.tape
  output := hg.output
  size := hg.size
  block := fun k hk _ => hg.block k hk (by simp)
  own := fun b hb => (Cx.push_U hb).imp id (hx b)
  len := by simp [Cx.push]
  ids := fun i hi => ⟨c.push_hv e x w' hi, by rw [show (c.push e x w').h = c.h ++ [e] from rfl, getE_append_lt hi]; exact sameE_refl _⟩
theorem Cx.rel_push {c : Cx} (hr : Rel c) {e : E} {x : Value} {w' : World} (h1 : Handle x) (hg : c.w.grownBy w' none) (hx : ∀ b, blk x = some b → c.w.heap.size ≤ b ∧ b < w'.heap.size)
    (he : Ent (c.push e x w') c.h.length e) : Rel (c.push e x w') := by
  have hE := Cx.ext_push hr e x hg (fun b hb => (hx b hb).1)
  have hlt : ∀ i b, i < c.h.length → (getE c.h i).alive = true → blk (c.hv i) = some b → b < c.w.heap.size := fun i b _ ha hb => hr.lt b ⟨i, ha, hb⟩
  refine ⟨fun i hi => ?_, fun i hi => ?_, fun i j b hi hj hbi hbj => ?_, fun b hb => ?_, fun b hb => ?_⟩
  · rcases Nat.lt_or_ge i c.h.length with hi' | hi'
    · rw [c.push_hv e x w' hi']; exact hr.one i hi'
    · have : i < c.h.length + 1 := by simpa [Cx.push] using hi
      obtain rfl : i = c.h.length := by omega
      rw [c.push_new]; exact h1
  · have hl : i < (c.h ++ [e]).length := hi
    simp at hl
    rcases Nat.lt_or_ge i c.h.length with hi' | hi'
    · rw [show (c.push e x w').h = c.h ++ [e] from rfl, getE_append_lt hi']
      by_cases ha : (getE c.h i).alive = true
      · exact (hr.ent i hi').keep hE hi' (fun b hb => hg.block b (hlt i b hi' ha hb) (by simp))
      · cases hd : getE c.h i with
        | dead => trivial
        | row l => rw [hd] at ha; exact absurd rfl ha
        | cells vs => rw [hd] at ha; exact absurd rfl ha
    · obtain rfl : i = c.h.length := by omega
      rw [show (c.push e x w').h = c.h ++ [e] from rfl, getE_append_new]; exact he
  · have li : i < (c.h ++ [e]).length := alive_lt hi
    have lj : j < (c.h ++ [e]).length := alive_lt hj
    simp at li lj
    rcases Nat.lt_or_ge i c.h.length with hi' | hi' <;> rcases Nat.lt_or_ge j c.h.length with hj' | hj'
    · rw [show (c.push e x w').h = c.h ++ [e] from rfl, getE_append_lt hi'] at hi
      rw [show (c.push e x w').h = c.h ++ [e] from rfl, getE_append_lt hj'] at hj
      rw [c.push_hv e x w' hi'] at hbi
      rw [c.push_hv e x w' hj'] at hbj
      exact hr.inj i j b hi hj hbi hbj
    · obtain rfl : j = c.h.length := by omega
      rw [show (c.push e x w').h = c.h ++ [e] from rfl, getE_append_lt hi'] at hi
      rw [c.push_hv e x w' hi'] at hbi
      rw [c.push_new] at hbj
      have := hlt i b hi' hi hbi
      have := (hx b hbj).1
      omega
    · obtain rfl : i = c.h.length := by omega
      rw [show (c.push e x w').h = c.h ++ [e] from rfl, getE_append_lt hj'] at hj
      rw [c.push_hv e x w' hj'] at hbj
      rw [c.push_new] at hbi
      have := hlt j b hj' hj hbj
      have := (hx b hbi).1
      omega
    · omega
  · rcases Cx.push_U hb with h | h
    · exact Nat.lt_of_lt_of_le (hr.lt b h) hg.size
    · exact (hx b h).2
  · have h := hr.far b hb
    refine ⟨Nat.lt_of_lt_of_le h.1 hg.size, fun hu => ?_⟩
    rcases Cx.push_U hu with h' | h'
    · exact h.2 h'
    · have := (hx b h').1; omega

/-- An own block whose content is another. -/
def Cx.upd (c : Cx) (id : Nat) (e : E) (w' : World) : Cx := ⟨c.F, c.h.set id e, c.hv, w'⟩
theorem Cx.upd_U {c : Cx} {id : Nat} {e : E} {w' : World} (hid : id < c.h.length) (ha : (getE c.h id).alive = true) {b : Nat} (h : (c.upd id e w').U b) : c.U b := by
  obtain ⟨i, hi, hb⟩ := h
  rw [show (c.upd id e w').h = c.h.set id e from rfl, getE_set hid] at hi
  by_cases hh : id = i
  · subst hh; exact ⟨id, ha, hb⟩
  · rw [if_neg hh] at hi; exact ⟨i, hi, hb⟩
theorem Cx.ext_upd {c : Cx} {id : Nat} {e : E} {w' : World} (hid : id < c.h.length) (ha : (getE c.h id).alive = true) (hs : sameE (getE c.h id) e = true)
    (hg : c.w.grownBy w' (blk (c.hv id))) : Ext c (c.upd id e w') where
  F := rfl
  os := hg.os
  tape := hg.tape
  output := hg.output
  size := hg.size
  block := fun k hk hu => hg.block k hk (fun e => hu ⟨id, ha, e.symm⟩)
  own := fun b hb => .inl (Cx.upd_U hid ha hb)
  len := by simp [Cx.upd]
  ids := fun i hi => ⟨rfl, by
    rw [show (c.upd id e w').h = c.h.set id e from rfl, getE_set hid]
    by_cases hh : id = i
    · subst hh; simpa using hs
    · rw [if_neg hh]; exact sameE_refl _⟩
theorem Cx.rel_upd {c : Cx} (hr : Rel c) {id : Nat} {e : E} {w' : World} (hid : id < c.h.length) (ha : (getE c.h id).alive = true) (hs : sameE (getE c.h id) e = true)
    (hg : c.w.grownBy w' (blk (c.hv id))) (he : Ent (c.upd id e w') id e) : Rel (c.upd id e w') := by
  have hE := Cx.ext_upd (e := e) hid ha hs hg
  have hal : ∀ i, (getE (c.h.set id e) i).alive = true → (getE c.h i).alive = true := fun i hi => by
    rw [getE_set hid] at hi
    by_cases hh : id = i
    · subst hh; exact ha
    · rw [if_neg hh] at hi; exact hi
  refine ⟨fun i hi => hr.one i (by simpa [Cx.upd] using hi), fun i hi => ?_, fun i j b hi hj hbi hbj => hr.inj i j b (hal i hi) (hal j hj) hbi hbj, fun b hb => Nat.lt_of_lt_of_le (hr.lt b (Cx.upd_U hid ha hb)) hg.size, fun b hb => ?_⟩
  · rw [show (c.upd id e w').h = c.h.set id e from rfl, getE_set hid]
    have hi' : i < c.h.length := by simpa [Cx.upd] using hi
    by_cases hh : id = i
    · subst hh; simpa using he
    · rw [if_neg hh]
      by_cases hai : (getE c.h i).alive = true
      · refine (hr.ent i hi').keep hE hi' (fun b hb => hg.block b (hr.lt b ⟨i, hai, hb⟩) (fun e => hh ?_))
        exact hr.inj id i b ha hai e.symm hb
      · cases hd : getE c.h i with
        | dead => trivial
        | row l => rw [hd] at hai; exact absurd rfl hai
        | cells vs => rw [hd] at hai; exact absurd rfl hai
  · have h := hr.far b hb
    exact ⟨Nat.lt_of_lt_of_le h.1 hg.size, fun hu => h.2 (Cx.upd_U hid ha hu)⟩

/-- An own block that grows, perhaps elsewhere. -/
def Cx.grow (c : Cx) (id : Nat) (e : E) (x : Value) (w' : World) : Cx :=
  ⟨c.F, c.h.set id .dead ++ [e], fun i => if i = c.h.length then x else c.hv i, w'⟩
theorem Cx.grow_get {c : Cx} {id : Nat} {e : E} {x : Value} {w' : World} (hid : id < c.h.length) (i : Nat) :
    getE (c.grow id e x w').h i = if i = id then .dead else if i = c.h.length then e else getE c.h i := by
  rw [show (c.grow id e x w').h = c.h.set id .dead ++ [e] from rfl]
  have hl : (c.h.set id .dead).length = c.h.length := by simp
  rcases Nat.lt_or_ge i c.h.length with hi | hi
  · rw [getE_append_lt (by omega), getE_set hid]
    by_cases hh : id = i
    · subst hh; simp
    · have h1 : ¬ i = id := fun e => hh e.symm
      have h2 : ¬ i = c.h.length := by omega
      simp [hh, h1, h2]
  · have h1 : ¬ i = id := by omega
    rw [if_neg h1]
    by_cases h2 : i = c.h.length
    · subst h2
      rw [if_pos rfl]
      have := getE_append_new (h := c.h.set id .dead) (e := e)
      rw [hl] at this; exact this
    · rw [if_neg h2, getE_out (h := c.h) hi, getE_append_out (by omega)]
theorem Cx.grow_U {c : Cx} {id : Nat} {e : E} {x : Value} {w' : World} (hid : id < c.h.length) {b : Nat} (h : (c.grow id e x w').U b) :
    (∃ i, i < c.h.length ∧ i ≠ id ∧ (getE c.h i).alive = true ∧ blk (c.hv i) = some b) ∨ blk x = some b := by
  obtain ⟨i, ha, hb⟩ := h
  rw [Cx.grow_get hid] at ha
  by_cases h1 : i = id
  · rw [if_pos h1] at ha; cases ha
  · rw [if_neg h1] at ha
    by_cases h2 : i = c.h.length
    · subst h2
      right; simpa [Cx.grow] using hb
    · rw [if_neg h2] at ha
      left
      refine ⟨i, alive_lt ha, h1, ha, ?_⟩
      simpa [Cx.grow, h2] using hb
theorem Cx.ext_grow {c : Cx} {id : Nat} {e : E} {x : Value} {w' : World} (hid : id < c.h.length) (ha : (getE c.h id).alive = true)
    (hg : c.w.grownBy w' (blk (c.hv id))) (hx : ∀ b, blk x = some b → blk (c.hv id) = some b ∨ c.w.heap.size ≤ b) : Ext c (c.grow id e x w') where
  F := rfl
  os := hg.os
  tape := hg.tape
  output := hg.output
  size := hg.size
  block := fun k hk hu => hg.block k hk (fun e => hu ⟨id, ha, e.symm⟩)
  own := fun b hb => by
    rcases Cx.grow_U hid hb with ⟨i, _, _, h1, h2⟩ | h
    · exact .inl ⟨i, h1, h2⟩
    · exact (hx b h).imp (fun h => ⟨id, ha, h⟩) (fun h => h)
  len := by simp [Cx.grow]
  ids := fun i hi => ⟨by have : i ≠ c.h.length := by omega
                         simp [Cx.grow, this], by
    rw [Cx.grow_get hid]
    by_cases h1 : i = id
    · rw [if_pos h1]; cases getE c.h i <;> rfl
    · have h2 : ¬ i = c.h.length := by omega
      rw [if_neg h1, if_neg h2]; exact sameE_refl _⟩
theorem Cx.rel_grow {c : Cx} (hr : Rel c) {id : Nat} {e : E} {x : Value} {w' : World} (h1 : Handle x) (hid : id < c.h.length) (ha : (getE c.h id).alive = true)
    (hg : c.w.grownBy w' (blk (c.hv id))) (hx : ∀ b, blk x = some b → (blk (c.hv id) = some b ∨ c.w.heap.size ≤ b) ∧ b < w'.heap.size)
    (he : Ent (c.grow id e x w') c.h.length e) : Rel (c.grow id e x w') := by
  have hE := Cx.ext_grow (e := e) hid ha hg (fun b hb => (hx b hb).1)
  have hold : ∀ i b, i ≠ id → (getE c.h i).alive = true → blk (c.hv i) = some b → blk x ≠ some b := fun i b hne hai hb hxb => by
    rcases (hx b hxb).1 with h | h
    · exact hne (hr.inj i id b hai ha hb h)
    · have := hr.lt b ⟨i, hai, hb⟩; omega
  refine ⟨fun i hi => ?_, fun i hi => ?_, fun i j b hi hj hbi hbj => ?_, fun b hb => ?_, fun b hb => ?_⟩
  · have hl : i < c.h.length + 1 := by simpa [Cx.grow] using hi
    by_cases h2 : i = c.h.length
    · simpa [Cx.grow, h2] using h1
    · simpa [Cx.grow, h2] using hr.one i (by omega)
  · have hl : i < c.h.length + 1 := by simpa [Cx.grow] using hi
    rw [Cx.grow_get hid]
    by_cases h1 : i = id
    · rw [if_pos h1]; trivial
    · rw [if_neg h1]
      by_cases h2 : i = c.h.length
      · subst h2; rw [if_pos rfl]; exact he
      · rw [if_neg h2]
        have hi' : i < c.h.length := by omega
        by_cases hai : (getE c.h i).alive = true
        · exact (hr.ent i hi').keep hE hi' (fun b hb => hg.block b (hr.lt b ⟨i, hai, hb⟩) (fun e => h1 (hr.inj i id b hai ha hb e.symm)))
        · cases hd : getE c.h i with
          | dead => trivial
          | row l => rw [hd] at hai; exact absurd rfl hai
          | cells vs => rw [hd] at hai; exact absurd rfl hai
  · rw [Cx.grow_get hid] at hi hj
    by_cases i1 : i = id
    · rw [if_pos i1] at hi; cases hi
    by_cases j1 : j = id
    · rw [if_pos j1] at hj; cases hj
    rw [if_neg i1] at hi; rw [if_neg j1] at hj
    by_cases i2 : i = c.h.length <;> by_cases j2 : j = c.h.length
    · omega
    · rw [if_neg j2] at hj
      have hb1 : blk x = some b := by simpa [Cx.grow, i2] using hbi
      have hb2 : blk (c.hv j) = some b := by simpa [Cx.grow, j2] using hbj
      exact absurd hb1 (hold j b j1 hj hb2)
    · rw [if_neg i2] at hi
      have hb1 : blk x = some b := by simpa [Cx.grow, j2] using hbj
      have hb2 : blk (c.hv i) = some b := by simpa [Cx.grow, i2] using hbi
      exact absurd hb1 (hold i b i1 hi hb2)
    · rw [if_neg i2] at hi; rw [if_neg j2] at hj
      exact hr.inj i j b hi hj (by simpa [Cx.grow, i2] using hbi) (by simpa [Cx.grow, j2] using hbj)
  · rcases Cx.grow_U hid hb with ⟨i, _, _, h1, h2⟩ | h
    · exact Nat.lt_of_lt_of_le (hr.lt b ⟨i, h1, h2⟩) hg.size
    · exact (hx b h).2
  · have h := hr.far b hb
    refine ⟨Nat.lt_of_lt_of_le h.1 hg.size, fun hu => ?_⟩
    rcases Cx.grow_U hid hu with ⟨i, _, _, h1, h2⟩ | h'
    · exact h.2 ⟨i, h1, h2⟩
    · rcases (hx b h').1 with h'' | h''
      · exact h.2 ⟨id, ha, h''⟩
      · omega

/-- An own block given up: it is written no more. -/
theorem Cx.ext_kill {c : Cx} {id : Nat} (hid : id < c.h.length) (ha : (getE c.h id).alive = true) : Ext c (c.upd id .dead c.w) :=
  Cx.ext_upd hid ha (by cases getE c.h id <;> rfl) ⟨rfl, rfl, rfl, Nat.le_refl _, fun _ _ _ => rfl⟩
theorem Cx.rel_kill {c : Cx} (hr : Rel c) {id : Nat} (hid : id < c.h.length) (ha : (getE c.h id).alive = true) : Rel (c.upd id .dead c.w) :=
  Cx.rel_upd hr hid ha (by cases getE c.h id <;> rfl) ⟨rfl, rfl, rfl, Nat.le_refl _, fun _ _ _ => rfl⟩ trivial

end Go.Proofs.Ytonbbeplmjidnaa.D
