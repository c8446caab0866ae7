/- What a call hands back. Conditions: those of each theorem. -/
import Derived.Test.YtonbbeplmjidnaaCall
namespace Go.Proofs.Ytonbbeplmjidnaa.D
open Go.RowKit
set_option linter.unusedVariables false
set_option linter.unusedSimpArgs false

theorem backE_len : ∀ (ids : List Nat) (es h : List E), (backE ids es h).length = h.length := by
  intro ids
  induction ids with
  | nil => intro es h; cases es <;> rfl
  | cons i ids ih =>
    intro es h
    cases es with
    | nil => rfl
    | cons e es => simp only [backE]; rw [ih]; simp
theorem backE_old : ∀ (ids : List Nat) (es h : List E) (i : Nat), i ∉ ids → getE (backE ids es h) i = getE h i := by
  intro ids
  induction ids with
  | nil => intro es h i _; cases es <;> rfl
  | cons k ids ih =>
    intro es h i hi
    cases es with
    | nil => rfl
    | cons e es =>
      simp only [backE]
      have h1 : i ≠ k := fun e => hi (by simp [e])
      have h2 : i ∉ ids := fun e => hi (by simp [e])
      rw [ih es _ i h2]
      have h3 : ¬ k = i := fun e => h1 e.symm
      simp [getE, List.getD, h3]
theorem backE_at : ∀ (ids : List Nat) (es h : List E), ids.Nodup → (∀ i ∈ ids, i < h.length) → es.length = ids.length → ∀ j, j < ids.length → getE (backE ids es h) (ids.getD j 0) = getE es j := by
  intro ids
  induction ids with
  | nil => intro es h _ _ _ j hj; simp at hj
  | cons k ids ih =>
    intro es h hn hl he j hj
    cases es with
    | nil => simp at he
    | cons e es =>
      simp only [backE]
      have hn' := List.nodup_cons.1 hn
      cases j with
      | zero =>
        simp only [List.getD_cons_zero]
        rw [backE_old ids es _ k hn'.1]
        have := hl k (by simp)
        simp [getE, List.getD, this]
      | succ j =>
        simp only [List.getD_cons_succ]
        rw [ih es _ hn'.2 (fun i hi => by simpa using hl i (by simp [hi])) (by simpa using he) j (by simpa using hj)]
        simp [getE]

def Cx.back (c : Cx) (ids : List Nat) (c1 : Cx) : Cx :=
  ⟨c.F, backE ids ((c1.h.take ids.length).map (E.sh ids c.h.length)) c.h ++ (c1.h.drop ids.length).map (E.sh ids c.h.length),
    fun i => if i < c.h.length then c.hv i else c1.hv (ids.length + (i - c.h.length)), c1.w⟩

theorem getE_map_sh (f : E → E) (hf : f .dead = .dead) (h : List E) (i : Nat) : getE (h.map f) i = f (getE h i) := by
  rcases Nat.lt_or_ge i h.length with hi | hi
  · simp [getE, List.getD, hi]
  · rw [getE_out hi, getE_out (by simpa using hi), hf]

section
variable {c c1 : Cx} {ids : List Nat}

theorem back_len (hk : ids.length ≤ c1.h.length) : (c.back ids c1).h.length = c.h.length + (c1.h.length - ids.length) := by
  simp [Cx.back, backE_len]
theorem back_old {i : Nat} (hi : i < c.h.length) (hn : i ∉ ids) : getE (c.back ids c1).h i = getE c.h i := by
  show getE (backE _ _ _ ++ _) i = _
  rw [getE_append_lt (by rw [backE_len]; exact hi), backE_old _ _ _ _ hn]
theorem back_at (hh : Handed1 c ids) (hk : ids.length ≤ c1.h.length) {j : Nat} (hj : j < ids.length) : getE (c.back ids c1).h (ids.getD j 0) = (getE c1.h j).sh ids c.h.length := by
  show getE (backE _ _ _ ++ _) _ = _
  rw [getE_append_lt (by rw [backE_len]; exact hh.lt _ (hh.at hj)), backE_at ids _ _ hh.nodup hh.lt (by simp; omega) j hj, getE_map_sh _ rfl]
  congr 1
  simp [getE, List.getD, List.getElem?_take, hj]
theorem back_new {i : Nat} (hi : c.h.length ≤ i) : getE (c.back ids c1).h i = (getE c1.h (ids.length + (i - c.h.length))).sh ids c.h.length := by
  have hl : (backE ids ((c1.h.take ids.length).map (E.sh ids c.h.length)) c.h).length = c.h.length := backE_len _ _ _
  show getE (backE _ _ _ ++ _) i = _
  have : getE (backE ids ((c1.h.take ids.length).map (E.sh ids c.h.length)) c.h ++ (c1.h.drop ids.length).map (E.sh ids c.h.length)) i = getE ((c1.h.drop ids.length).map (E.sh ids c.h.length)) (i - c.h.length) := by
    simp only [getE, List.getD]
    rw [List.getElem?_append_right (by omega), hl]
  rw [this, getE_map_sh _ rfl]
  congr 1
  simp [getE, List.getD, List.getElem?_drop]

theorem E.sh_alive (e : E) (ids : List Nat) (n : Nat) : (e.sh ids n).alive = e.alive := by cases e <;> rfl
theorem E.sh_same (e : E) (ids : List Nat) (n : Nat) : sameE e (e.sh ids n) = true := by cases e <;> simp [E.sh, sameE]

theorem back_hv (_ : Rel c) (_ : Handed1 c ids) (hE : Ext (c.into ids) c1) (_ : Rel c1) {j : Nat} (hj : j < ids.length) : c.hv (ids.getD j 0) = c1.hv j := by
  have := (hE.ids j (by simpa [Cx.into] using hj)).1
  exact this.symm
theorem back_k (_ : Rel c) (_ : Handed1 c ids) (hE : Ext (c.into ids) c1) (_ : Rel c1) : ids.length ≤ c1.h.length := by have := hE.len; simpa [Cx.into] using this


/-- Where an own block of the caller's new state comes from. -/
theorem back_cases (hr : Rel c) (hh : Handed1 c ids) (hE : Ext (c.into ids) c1) (hr1 : Rel c1) {i : Nat} (ha : (getE (c.back ids c1).h i).alive = true) :
    (i < c.h.length ∧ i ∉ ids ∧ (getE c.h i).alive = true ∧ (c.back ids c1).hv i = c.hv i) ∨
    ∃ j, (getE c1.h j).alive = true ∧ (c.back ids c1).hv i = c1.hv j ∧ ((j < ids.length ∧ i = ids.getD j 0) ∨ (ids.length ≤ j ∧ i = c.h.length + (j - ids.length))) := by
  have hk := back_k hr hh hE hr1
  rcases Nat.lt_or_ge i c.h.length with hi | hi
  · by_cases hm : i ∈ ids
    · right
      obtain ⟨j, hj, hji⟩ := List.getElem_of_mem hm
      have e : ids.getD j 0 = i := by simp [List.getD, hj]; exact hji
      refine ⟨j, ?_, ?_, .inl ⟨hj, e.symm⟩⟩
      · rw [← e, back_at hh hk hj, E.sh_alive] at ha; exact ha
      · rw [← back_hv hr hh hE hr1 hj, e]; simp [Cx.back, hi]
    · left
      rw [back_old hi hm] at ha
      exact ⟨hi, hm, ha, by simp [Cx.back, hi]⟩
  · right
    rw [back_new hi, E.sh_alive] at ha
    exact ⟨_, ha, by have : ¬ i < c.h.length := by omega
                     simp [Cx.back, this], .inr ⟨by omega, by omega⟩⟩

theorem back_U (hr : Rel c) (hh : Handed1 c ids) (hE : Ext (c.into ids) c1) (hr1 : Rel c1) {b : Nat} (h : (c.back ids c1).U b) : (∃ i, i < c.h.length ∧ i ∉ ids ∧ (getE c.h i).alive = true ∧ blk (c.hv i) = some b) ∨ c1.U b := by
  obtain ⟨i, ha, hb⟩ := h
  rcases back_cases hr hh hE hr1 ha with ⟨h1, h2, h3, h4⟩ | ⟨j, h1, h2, _⟩
  · exact .inl ⟨i, h1, h2, h3, by rw [← h4]; exact hb⟩
  · exact .inr ⟨j, h1, by rw [← h2]; exact hb⟩

/-- A block of the caller's own that did not go over is none of the callee's. -/
theorem back_far (hr : Rel c) (hh : Handed1 c ids) (hE : Ext (c.into ids) c1) (hr1 : Rel c1) {i b : Nat} (hm : i ∉ ids) (ha : (getE c.h i).alive = true) (hb : blk (c.hv i) = some b) : (c.into ids).F b ∧ ¬ (c.into ids).U b ∧ ¬ c1.U b := by
  have hF : (c.into ids).F b := by
    refine .inr ⟨⟨i, ha, hb⟩, fun j hj hbj => hm ?_⟩
    have := hr.inj i (ids.getD j 0) b ha (hh.alive (hh.at hj)) hb hbj
    rw [this]; exact hh.at hj
  exact ⟨hF, ((into_rel hr hh).far b hF).2, (hr1.far b (by rw [hE.F]; exact hF)).2⟩

theorem back_ext (hr : Rel c) (hh : Handed1 c ids) (hE : Ext (c.into ids) c1) (hr1 : Rel c1) : Ext c (c.back ids c1) where
  F := rfl
  os := hE.os
  tape := hE.tape
  output := hE.output
  size := hE.size
  block := fun k hk hu => hE.block k hk (fun h => hu (into_U h).1)
  own := fun b hb => by
    rcases back_U hr hh hE hr1 hb with ⟨i, _, _, h1, h2⟩ | h
    · exact .inl ⟨i, h1, h2⟩
    · exact (hE.own b h).imp (fun h => (into_U h).1) id
  len := by rw [back_len (back_k hr hh hE hr1)]; omega
  ids := fun i hi => ⟨by simp [Cx.back, hi], by
    by_cases hm : i ∈ ids
    · obtain ⟨j, hj, hji⟩ := List.getElem_of_mem hm
      have e : ids.getD j 0 = i := by simp [List.getD, hj]; exact hji
      have h1 := (hE.ids j (by simpa [Cx.into] using hj)).2
      rw [into_get hj, e] at h1
      have h2 := back_at hh (back_k hr hh hE hr1) hj
      rw [e] at h2
      rw [h2]
      exact sameE_trans h1 (E.sh_same _ _ _)
    · rw [back_old hi hm]; exact sameE_refl _⟩

theorem back_free (hr : Rel c) (hh : Handed1 c ids) (hE : Ext (c.into ids) c1) (hr1 : Rel c1) {b : Nat} (hF : ¬ c1.F b) (hU : ¬ c1.U b) : ¬ (c.back ids c1).F b ∧ ¬ (c.back ids c1).U b := by
  rw [hE.F] at hF
  refine ⟨fun h => hF (.inl h), fun h => ?_⟩
  rcases back_U hr hh hE hr1 h with ⟨i, _, h1, h2, h3⟩ | h
  · exact hF (back_far hr hh hE hr1 h1 h2 h3).1
  · exact hU h

theorem back_rowV (hr : Rel c) (hh : Handed1 c ids) (hE : Ext (c.into ids) c1) (hr1 : Rel c1) {xs : List Int} {v : Value} (h : RowV c1 xs v) : RowV (c.back ids c1) xs v := by
  obtain ⟨a, cap, rfl, hc, h0⟩ := h
  refine ⟨a, cap, rfl, hc, ?_⟩
  rcases h0 with h0 | ⟨b, off, ha, hF, hU, hcell⟩
  · exact .inl h0
  · have := back_free hr hh hE hr1 hF hU
    exact .inr ⟨b, off, ha, this.1, this.2, hcell⟩
theorem back_atom (hr : Rel c) (hh : Handed1 c ids) (hE : Ext (c.into ids) c1) (hr1 : Rel c1) {a : Atom} {v : Value} (h : AtomR c1 a v) : AtomR (c.back ids c1) a v := by
  cases a <;> first | exact h | exact back_rowV hr hh hE hr1 h

theorem back_map (hr : Rel c) (hh : Handed1 c ids) (hE : Ext (c.into ids) c1) (hr1 : Rel c1) {id : Nat} (hid : id < c1.h.length) : mapId ids c.h.length id < (c.back ids c1).h.length ∧ (c.back ids c1).hv (mapId ids c.h.length id) = c1.hv id ∧
    getE (c.back ids c1).h (mapId ids c.h.length id) = (getE c1.h id).sh ids c.h.length := by
  have hk := back_k hr hh hE hr1
  have hl := back_len (c := c) (c1 := c1) (ids := ids) hk
  by_cases hj : id < ids.length
  · have hb : Nat.blt id ids.length = true := by simpa [Nat.blt_eq] using hj
    have hlt := hh.lt _ (hh.at hj)
    refine ⟨by rw [hl]; simp only [mapId, hb, cond_true]; omega, ?_, ?_⟩
    · simp only [mapId, hb, cond_true]
      rw [← back_hv hr hh hE hr1 hj]
      simp only [Cx.back, hlt, if_true]
    · simp only [mapId, hb, cond_true]
      exact back_at hh hk hj
  · have hb : Nat.blt id ids.length = false := by
      cases hx : Nat.blt id ids.length with
      | false => rfl
      | true => rw [Nat.blt_eq] at hx; omega
    refine ⟨by rw [hl]; simp only [mapId, hb, cond_false]; omega, ?_, ?_⟩
    · simp only [mapId, hb, cond_false, Cx.back]
      have h1 : ¬ (c.h.length + (id - ids.length) < c.h.length) := by omega
      rw [if_neg h1]
      congr 1; omega
    · simp only [mapId, hb, cond_false]
      rw [back_new (by omega)]
      congr 2; omega

theorem back_vr0 (hr : Rel c) (hh : Handed1 c ids) (hE : Ext (c.into ids) c1) (hr1 : Rel c1) {u : V} {v : Value} (ho : u.out0 = true) (h : VR0 c1 u v) : VR0 (c.back ids c1) (u.sh0 ids c.h.length) v := by
  cases u with
  | own id =>
    obtain ⟨h1, h2, h3⟩ := back_map hr hh hE hr1 h.1
    exact ⟨h1, h.2.trans h2.symm⟩
  | sub id o n =>
    obtain ⟨hid, a, cap, rfl, hn, hg, hl⟩ := h
    obtain ⟨h1, h2, h3⟩ := back_map hr hh hE hr1 hid
    refine ⟨h1, a, cap, rfl, hn, by rw [h2]; exact hg, fun l hl' => ?_⟩
    rw [h3] at hl'
    cases he : getE c1.h id with
    | row l2 => rw [he] at hl'; simp [E.sh] at hl'; subst hl'; exact hl l2 he
    | cells vs => rw [he] at hl'; simp [E.sh] at hl'
    | dead => rw [he] at hl'; simp [E.sh] at hl'
  | ptr id o =>
    obtain ⟨hid, g, hg, rfl⟩ := h
    obtain ⟨h1, h2, h3⟩ := back_map hr hh hE hr1 hid
    exact ⟨h1, g, by rw [h2]; exact hg, rfl⟩
  | ro s l =>
    have hs : s = true := ho
    subst hs
    obtain ⟨a, cap, rfl, hc, h0⟩ := h
    refine ⟨a, cap, rfl, hc, ?_⟩
    rcases h0 with h0 | ⟨b, off, ha, hF, hU, hcell⟩
    · exact .inl h0
    · have := back_free hr hh hE hr1 (hF rfl) hU
      refine .inr ⟨b, off, ha, fun _ => this.1, this.2, fun j hj => ?_⟩
      obtain ⟨x, hx, hxa⟩ := hcell j hj
      exact ⟨x, hx, back_atom hr hh hE hr1 hxa⟩
  | ref a => simp [V.out0] at ho
  | agg vs => exact h.elim
  | tup vs => exact h.elim
  | _ => exact h
theorem back_vr1 (hr : Rel c) (hh : Handed1 c ids) (hE : Ext (c.into ids) c1) (hr1 : Rel c1) {u : V} {v : Value} (ho : u.out1 = true) (h : VR1 c1 u v) : VR1 (c.back ids c1) (u.sh1 ids c.h.length) v := by
  cases u with
  | agg vs =>
    obtain ⟨cs, rfl, hs, ha⟩ := h
    refine ⟨cs, rfl, by simpa using hs, fun j hj => ?_⟩
    have hj' : j < vs.length := by simpa using hj
    have e : (vs.map (V.sh0 ids c.h.length)).getD j .junk = (vs.getD j .junk).sh0 ids c.h.length := by simp [List.getD, hj']
    rw [e]; exact back_vr0 hr hh hE hr1 (all_getD (p := V.out0) ho hj') (ha j hj')
  | tup vs => exact h.elim
  | own id => exact (back_vr0 hr hh hE hr1 (u := .own id) ho h).vr1
  | sub id o n => exact (back_vr0 hr hh hE hr1 (u := .sub id o n) ho h).vr1
  | ptr id o => exact (back_vr0 hr hh hE hr1 (u := .ptr id o) ho h).vr1
  | ro s l => exact (back_vr0 hr hh hE hr1 (u := .ro s l) ho h).vr1
  | ref a => simp [V.out1, V.out0] at ho
  | _ => exact h
theorem back_vr (hr : Rel c) (hh : Handed1 c ids) (hE : Ext (c.into ids) c1) (hr1 : Rel c1) {u : V} {v : Value} (ho : u.outs) (h : VR c1 u v) : VR (c.back ids c1) (u.sh ids c.h.length) v := by
  rcases ho with ho | ⟨vs, rfl, ho⟩
  · have hnt : ∀ ws, u ≠ .tup ws := fun ws e => by subst e; simp [V.out1, V.out0] at ho
    have h1 := back_vr1 hr hh hE hr1 ho ((vr_eq hnt).1 h)
    have e : u.sh ids c.h.length = u.sh1 ids c.h.length := by
      cases u <;> first | rfl | exact absurd rfl (hnt _)
    rw [e]; exact h1.vr
  · obtain ⟨cs, rfl, hs, ha⟩ := h
    refine ⟨cs, rfl, by simpa using hs, fun j hj => ?_⟩
    have hj' : j < vs.length := by simpa using hj
    have e : (vs.map (V.sh1 ids c.h.length)).getD j .junk = (vs.getD j .junk).sh1 ids c.h.length := by simp [List.getD, hj']
    rw [e]; exact back_vr1 hr hh hE hr1 (all_getD (p := V.out1) ho hj') (ha j hj')

theorem back_rel (hr : Rel c) (hh : Handed1 c ids) (hE : Ext (c.into ids) c1) (hr1 : Rel c1) (ho : c1.h.all E.out = true) : Rel (c.back ids c1) := by
  have hk := back_k hr hh hE hr1
  have hX := back_ext hr hh hE hr1
  have hout : ∀ j, (getE c1.h j).out = true := fun j => by
    rcases Nat.lt_or_ge j c1.h.length with hj | hj
    · rw [List.all_eq_true] at ho
      have e : getE c1.h j = c1.h[j] := by simp [getE, List.getD, hj]
      rw [e]; exact ho _ (List.getElem_mem hj)
    · rw [getE_out hj]; rfl
  have conv : ∀ i j, (c.back ids c1).hv i = c1.hv j → Ent c1 j (getE c1.h j) → Ent (c.back ids c1) i ((getE c1.h j).sh ids c.h.length) := by
    intro i j hv he
    have hoj := hout j
    cases hd : getE c1.h j with
    | row l =>
      rw [hd] at he
      obtain ⟨e, xs, ho, ha⟩ := he
      refine ⟨e, xs, by rw [hv]; exact ho, fun k hk => ?_⟩
      obtain ⟨x, hx, hxa⟩ := ha k hk
      exact ⟨x, hx, back_atom hr hh hE hr1 hxa⟩
    | cells vs =>
      rw [hd] at he hoj
      obtain ⟨b, e, cs, hvb, hg, hs, ha⟩ := he
      refine ⟨b, e, cs, by rw [hv]; exact hvb, hg, by simpa using hs, fun k hk => ?_⟩
      have hk' : k < vs.length := by simpa using hk
      obtain ⟨x, hx, hxa⟩ := ha k hk'
      refine ⟨x, hx, ?_⟩
      have e : (vs.map (V.sh0 ids c.h.length)).getD k .junk = (vs.getD k .junk).sh0 ids c.h.length := by simp [List.getD, hk']
      rw [e]; exact back_vr0 hr hh hE hr1 (all_getD (p := V.out0) hoj hk') hxa
    | dead => trivial
  refine ⟨fun i hi => ?_, fun i hi => ?_, fun i j b hi hj hbi hbj => ?_, fun b hb => ?_, fun b hb => ?_⟩
  · rcases Nat.lt_or_ge i c.h.length with h | h
    · have e : (c.back ids c1).hv i = c.hv i := by simp [Cx.back, h]
      rw [e]; exact hr.one i h
    · have e : (c.back ids c1).hv i = c1.hv (ids.length + (i - c.h.length)) := by
        have : ¬ i < c.h.length := by omega
        simp [Cx.back, this]
      rw [e]; exact hr1.one _ (by rw [back_len hk] at hi; omega)
  · rcases Nat.lt_or_ge i c.h.length with h | h
    · by_cases hm : i ∈ ids
      · obtain ⟨j, hj, hji⟩ := List.getElem_of_mem hm
        have e : ids.getD j 0 = i := by simp [List.getD, hj]; exact hji
        have h2 := back_at hh hk hj
        rw [e] at h2
        rw [h2]
        exact conv i j (by rw [← back_hv hr hh hE hr1 hj, e]; simp [Cx.back, h]) (hr1.ent j (by omega))
      · rw [back_old h hm]
        by_cases hal : (getE c.h i).alive = true
        · refine (hr.ent i h).keep hX h (fun b hb => ?_)
          exact hE.block b (hr.lt b ⟨i, hal, hb⟩) (back_far hr hh hE hr1 hm hal hb).2.1
        · cases hd : getE c.h i with
          | dead => trivial
          | row l => rw [hd] at hal; exact absurd rfl hal
          | cells vs => rw [hd] at hal; exact absurd rfl hal
    · rw [back_new h]
      refine conv i _ ?_ (hr1.ent _ (by rw [back_len hk] at hi; omega))
      have : ¬ i < c.h.length := by omega
      simp [Cx.back, this]
  · rcases back_cases hr hh hE hr1 hi with ⟨a1, a2, a3, a4⟩ | ⟨p, p1, p2, p3⟩ <;> rcases back_cases hr hh hE hr1 hj with ⟨b1, b2, b3, b4⟩ | ⟨q, q1, q2, q3⟩
    · rw [a4] at hbi; rw [b4] at hbj
      exact hr.inj i j b a3 b3 hbi hbj
    · rw [a4] at hbi; rw [q2] at hbj
      exact absurd ⟨q, q1, hbj⟩ (back_far hr hh hE hr1 a2 a3 hbi).2.2
    · rw [b4] at hbj; rw [p2] at hbi
      exact absurd ⟨p, p1, hbi⟩ (back_far hr hh hE hr1 b2 b3 hbj).2.2
    · rw [p2] at hbi; rw [q2] at hbj
      have hpq := hr1.inj p q b p1 q1 hbi hbj
      subst hpq
      rcases p3 with ⟨x1, x2⟩ | ⟨x1, x2⟩ <;> rcases q3 with ⟨y1, y2⟩ | ⟨y1, y2⟩
      · rw [x2, y2]
      · omega
      · omega
      · rw [x2, y2]
  · rcases back_U hr hh hE hr1 hb with ⟨i, h1, h2, h3, h4⟩ | h
    · exact Nat.lt_of_lt_of_le (hr.lt b ⟨i, h3, h4⟩) hE.size
    · exact hr1.lt b h
  · have h1 : c1.F b := by rw [hE.F]; exact .inl hb
    refine ⟨(hr1.far b h1).1, fun hu => ?_⟩
    rcases back_U hr hh hE hr1 hu with ⟨i, _, _, h3, h4⟩ | h
    · exact (hr.far b hb).2 ⟨i, h3, h4⟩
    · exact (hr1.far b h1).2 h
end

/-- A call by what is known of the callee. -/
theorem callC_ok {P : Program} {f : FuncId} {sp : List V → List E → (V → List E → R) → R} (hf : FnOk P f sp) {keep : Bool} {ds : List TypeDesc} {args : List V} {κ : V → List E → R} {r : V × List E} {c : Cx} {cargs : Array Value}
    (h : callC keep ds sp args c.h κ = some r) (hr : Rel c) (ha : ArgsR c args cargs.toList) :
    Calls P f cargs c.w fun e w' => ∃ x v c', e = .returned x ∧ κ v c'.h = some r ∧ Ext c c' ∧ Rel c' ∧ VR c' v x ∧ c'.w = w' := by
  unfold callC at h
  split at h
  · rename_i args' ids hp
    have h0 : Handed1 c [] := ⟨List.nodup_nil, by simp, by simp⟩
    obtain ⟨hh, _, hlen, hall⟩ := passC_ok hr ds args [] _ args' ids (passA_is hp).1 (passA_is hp).2 ha h0
    have harg : ArgsR (c.into ids) args' cargs.toList := ⟨by rw [hlen]; exact ha.1, fun j hj => hall j (by omega)⟩
    refine (hf args' _ r (c.into ids) cargs h (into_rel hr hh) harg).mono ?_
    rintro e w' ⟨x, v, c1, rfl, h2, h3, h4, h5, rfl, h7, h8⟩
    exact ⟨x, v.sh ids c.h.length, c.back ids c1, rfl, h2, back_ext hr hh h3 h4, back_rel hr hh h3 h4 h8, back_vr hr hh h3 h4 h7 h5, rfl⟩
  · cases h

end Go.Proofs.Ytonbbeplmjidnaa.D
