/- Regions and code of the small machine. Conditions: those of each theorem. -/
import Derived.Test.YtonbbeplmjidnaaOpw
namespace Go.Proofs.Ytonbbeplmjidnaa.D
open Go.RowKit
set_option linter.unusedVariables false
set_option linter.unusedSimpArgs false

theorem undef_not {c : Cx} {b : Bool} : ¬ VR c (.bool b) undef := by
  intro h; have := vr_bool h; cases this

theorem RelT.known {c : Cx} {σ : St} {a : Act} (h : RelT c σ a) {t : Nat} {b : Bool} (hb : getT σ.t t = .bool b) : RelT c (σ.put (some t) (.bool b)) a ∧ a.tmps[t]? = some (.bool b) := by
  have h1 := h.t t
  rw [hb] at h1
  have h2 := vr_bool h1
  have h3 : a.tmps[t]? = some (.bool b) := by
    cases ht : a.tmps[t]? with
    | none => simp [ht] at h2; cases h2
    | some v => simp [ht] at h2; rw [h2]
  refine ⟨?_, h3⟩
  have hp := h.put (v := .bool b) (x := .bool b) (show VR c _ _ from rfl) (some t)
  have : a.put (some t) (.bool b) = a := by
    show ({ a with tmps := a.tmps.setIfInBounds t (.bool b) } : Act) = a
    have hlt : t < a.tmps.size := (Array.getElem?_eq_some_iff.1 h3).1
    have e : a.tmps.setIfInBounds t (.bool b) = a.tmps := by
      apply Array.ext_getElem?
      intro i
      by_cases hi : t = i
      · subst hi; simp [hlt, h3]
        have := Array.getElem?_eq_some_iff.1 h3
        exact this.2.symm
      · rw [Array.getElem?_setIfInBounds_ne hi]
    rw [e]
  rw [this] at hp
  exact hp

section
variable {P : Program} {TD : TypeId → Option TI} {K : FuncId → List V → List E → (V → List E → R) → R}

/-- What a guard says. -/
theorem guard_ok {ops : Array Oper} {c : Cx} {σ : St} {a : Act} (ht : RelT c σ a) {o : Oper} {j : Nat} {want b : Bool} {t : Nat} (hg : o.guard = some (j, want)) (hj : (ops[j]?).bind (·.dst) = some t) (hb : getT σ.t t = .bool b) :
    Region.wanted o (yielded ops a.tmps) = (b == want) := by
  obtain ⟨_, h3⟩ := ht.known hb
  unfold Region.wanted
  rw [hg]
  have : yielded ops a.tmps j = some b := by
    unfold yielded
    simp [hj, h3]
  simp [this]

theorem vr_undef {c : Cx} : VR c (.tup []) undef := ⟨#[], rfl, rfl, fun j hj => absurd hj (Nat.not_lt_zero _)⟩
theorem guard_no {ops : Array Oper} {c : Cx} {σ : St} {a : Act} (ht : RelT c σ a) {o : Oper} {j : Nat} {want : Bool} {t : Nat} (hg : o.guard = some (j, want)) (hj : (ops[j]?).bind (·.dst) = some t) (hb : getT σ.t t = .tup []) :
    Region.wanted o (yielded ops a.tmps) = false := by
  have h := ht.t t
  rw [hb] at h
  obtain ⟨cs, h1, h2, _⟩ := h
  unfold Region.wanted
  rw [hg]
  have : yielded ops a.tmps j = none := by
    unfold yielded
    rw [hj]
    simp only [Option.bind_some]
    cases hx : a.tmps[t]? with
    | none => rfl
    | some x =>
      have : a.tmps.getD t undef = x := by simp [Array.getD_eq_getD_getElem?, hx]
      rw [this] at h1
      subst h1
      rfl
  simp [this]

theorem opsC_wp (hT : TyOk P TD) (hK : KOk P K) {ops : Array Oper} {Q : Exit → Act → World → Prop} {r : V × List E} {κ : St → R} (c0 : Cx) : ∀ (is : List Nat), (∀ i ∈ is, i < ops.size) → ∀ (σ : St) (a : Act) (c : Cx),
    opsC TD K ops (is.map fun i => ops.getD i default) σ κ = some r → Ext c0 c → Rel c → RelT c σ a →
    (∀ σ' c' a', κ σ' = some r → Ext c0 c' → Rel c' → RelT c' σ' a' → Q .normal a' c'.w) → wpOps P ops Q is a c.w := by
  intro is
  induction is with
  | nil => intro _ σ a c h hE hr ht hQ; exact hQ σ c a h hE hr ht
  | cons i is ih =>
    intro hi σ a c h hE hr ht hQ
    have hlt := hi i (by simp)
    have hget : ops[i]? = some (ops.getD i default) := by simp [hlt]
    have ih' := ih (fun j hj => hi j (by simp [hj]))
    simp only [List.map_cons] at h
    generalize ops.getD i default = o at h hget
    unfold wpOps
    simp only [hget]
    -- the operation is carried out
    have run : ∀ (σ1 : St), RelT c σ1 a → opC TD K o σ1 (fun v h => opsC TD K ops (is.map fun i => ops.getD i default) (St.put { σ1 with h } o.dst v) κ) = some r →
        o.wp P a c.w (wpOps P ops Q is) Q := by
      intro σ1 ht1 h1
      refine opC_wp hT hK h1 hr ht1 (fun v c' x hk hE' hr' hv => ?_)
      exact ih' _ _ _ hk (hE.trans hE') hr' ((ht1.ext hE').put hv o.dst) hQ
    unfold opsC at h
    split at h
    · rename_i hg
      have hw : Region.wanted o (yielded ops a.tmps) = true := by unfold Region.wanted; rw [hg]
      rw [hw, if_pos rfl]
      exact .inl (run σ ht h)
    · rename_i j want hg
      split at h
      · rename_i t hj
        split at h
        · rename_i b hb
          rw [guard_ok ht hg hj hb]
          have hk := (ht.known hb).1
          cases b with
          | true =>
            rw [cond_true] at h
            cases want with
            | true => rw [cond_true] at h; rw [if_pos (by rfl)]; exact .inl (run _ hk h)
            | false =>
              rw [cond_false] at h
              rw [if_neg (by decide)]
              exact ih' _ _ _ h hE hr (hk.put vr_undef o.dst) hQ
          | false =>
            rw [cond_false] at h
            cases want with
            | true =>
              rw [cond_true] at h
              rw [if_neg (by decide)]
              exact ih' _ _ _ h hE hr (hk.put vr_undef o.dst) hQ
            | false => rw [cond_false] at h; rw [if_pos (by rfl)]; exact .inl (run _ hk h)
        · rename_i hb
          rw [guard_no ht hg hj hb, if_neg (by decide)]
          exact ih' _ _ _ h hE hr (ht.put vr_undef o.dst) hQ
        · cases h
      · cases h

/-- An exit as the model has it. -/
def X.exit_ : X → Exit
  | .normal => .normal
  | .exit id => .exit id
  | .ret => .ret

/-- A region whose order is drawn. -/
def DrawOk (P : Program) (TD : TypeId → Option TI) (K : FuncId → List V → List E → (V → List E → R) → R) (drawOk : Array Oper → Bool) : Prop :=
  ∀ (ops : Array Oper) (Q : Exit → Act → World → Prop) (r : V × List E) (κ : St → R) (c0 : Cx) (σ : St) (a : Act) (c : Cx) (id : Nat), drawOk ops = true →
    opsC TD K ops ops.toList σ κ = some r → Ext c0 c → Rel c → RelT c σ a →
    (∀ σ' c' a', κ σ' = some r → Ext c0 c' → Rel c' → RelT c' σ' a' → Q .normal a' c'.w) → (Code.region id ops true).wp P Q a c.w

theorem toList_range (ops : Array Oper) : ops.toList = (List.range ops.size).map fun i => ops.getD i default := by
  apply List.ext_getElem?
  intro j
  by_cases hj : j < ops.size
  · simp [hj]
  · simp [hj]

end

/-! What stays of a state. -/

/-- The blocks of a context under other numbers. -/
def Cx.pick (c : Cx) (ids : List Nat) : Cx := ⟨c.F, ids.map fun i => (getE c.h i).re ids, fun j => c.hv (ids.getD j 0), c.w⟩

theorem re_some {ids : List Nat} {i j : Nat} (h : reName ids i = some j) : j < ids.length ∧ ids.getD j 0 = i := by
  unfold reName at h
  have := List.idxOf?_eq_some_iff.1 h
  obtain ⟨h1, h2, _⟩ := this
  exact ⟨h1, by simp [List.getD, h1]; exact h2⟩

theorem pick_get (c : Cx) (ids : List Nat) {j : Nat} (hj : j < ids.length) : getE (c.pick ids).h j = (getE c.h (ids.getD j 0)).re ids := by
  simp [Cx.pick, getE, List.getD, hj]
theorem E.re_alive (e : E) (ids : List Nat) : (e.re ids).alive = e.alive := by cases e <;> rfl

theorem pick_U {c : Cx} {ids : List Nat} {b : Nat} (h : (c.pick ids).U b) : c.U b := by
  obtain ⟨j, ha, hb⟩ := h
  have hj : j < ids.length := by have := alive_lt ha; simpa [Cx.pick] using this
  rw [pick_get c ids hj, E.re_alive] at ha
  exact ⟨_, ha, hb⟩

theorem pick_rowV {c : Cx} {ids : List Nat} {xs : List Int} {v : Value} (h : RowV c xs v) : RowV (c.pick ids) xs v := by
  obtain ⟨a, cap, rfl, hc, h0⟩ := h
  refine ⟨a, cap, rfl, hc, ?_⟩
  rcases h0 with h0 | ⟨b, off, ha, hF, hU, hcell⟩
  · exact .inl h0
  · exact .inr ⟨b, off, ha, hF, fun hu => hU (pick_U hu), hcell⟩
theorem pick_atom {c : Cx} {ids : List Nat} {a : Atom} {v : Value} (h : AtomR c a v) : AtomR (c.pick ids) a v := by
  cases a <;> first | exact h | exact pick_rowV h
theorem pick_ro {c : Cx} {ids : List Nat} {s : Bool} {l : L} {v : Value} (h : RoR c s l v) : RoR (c.pick ids) s l v := by
  obtain ⟨a, cap, rfl, hc, h0⟩ := h
  refine ⟨a, cap, rfl, hc, ?_⟩
  rcases h0 with h0 | ⟨b, off, ha, hF, hU, hcell⟩
  · exact .inl h0
  · refine .inr ⟨b, off, ha, hF, fun hu => hU (pick_U hu), fun j hj => ?_⟩
    obtain ⟨x, hx, hxa⟩ := hcell j hj
    exact ⟨x, hx, pick_atom hxa⟩
theorem pick_vr0 {c : Cx} {ids : List Nat} {u : V} {v : Value} (h : VR0 c u v) : VR0 (c.pick ids) (u.re0 ids) v := by
  cases u with
  | own id =>
    simp only [V.re0]
    split
    · rename_i j hj
      obtain ⟨h1, h2⟩ := re_some hj
      exact ⟨by simpa [Cx.pick] using h1, by simp only [Cx.pick, h2]; exact h.2⟩
    · trivial
  | sub id o n =>
    simp only [V.re0]
    split
    · rename_i j hj
      obtain ⟨h1, h2⟩ := re_some hj
      obtain ⟨_, a, cap, rfl, hn, hg, hl⟩ := h
      refine ⟨by simpa [Cx.pick] using h1, a, cap, rfl, hn, ?_, fun l hl' => ?_⟩
      · simp only [Cx.pick, h2]; exact hg
      · rw [pick_get c ids h1, h2] at hl'
        cases he : getE c.h id with
        | row l2 => rw [he] at hl'; simp [E.re] at hl'; subst hl'; exact hl l2 he
        | cells vs => rw [he] at hl'; simp [E.re] at hl'
        | dead => rw [he] at hl'; simp [E.re] at hl'
    · trivial
  | ptr id o =>
    simp only [V.re0]
    split
    · rename_i j hj
      obtain ⟨h1, h2⟩ := re_some hj
      obtain ⟨_, g, hg, rfl⟩ := h
      exact ⟨by simpa [Cx.pick] using h1, g, by simp only [Cx.pick, h2]; exact hg, rfl⟩
    · trivial
  | ro s l => exact pick_ro h
  | ref a =>
    obtain ⟨b, off, x, rfl, hU, hc, ha⟩ := h
    exact ⟨b, off, x, rfl, fun hu => hU (pick_U hu), hc, pick_atom ha⟩
  | agg vs => exact h.elim
  | tup vs => exact h.elim
  | _ => exact h
theorem pick_vr1 {c : Cx} {ids : List Nat} {u : V} {v : Value} (h : VR1 c u v) : VR1 (c.pick ids) (u.re ids) v := by
  cases u with
  | agg vs =>
    obtain ⟨cs, rfl, hs, ha⟩ := h
    refine ⟨cs, rfl, by simpa [V.re] using hs, fun j hj => ?_⟩
    have hj' : j < vs.length := by simpa using hj
    have e : (vs.map (V.re0 ids)).getD j .junk = (vs.getD j .junk).re0 ids := by simp [List.getD, hj']
    rw [e]; exact pick_vr0 (ha j hj')
  | tup vs => exact h.elim
  | own id => exact (pick_vr0 (u := .own id) h).vr1
  | sub id o n => exact (pick_vr0 (u := .sub id o n) h).vr1
  | ptr id o => exact (pick_vr0 (u := .ptr id o) h).vr1
  | ro s l => exact (pick_vr0 (u := .ro s l) h).vr1
  | ref a => exact (pick_vr0 (u := .ref a) h).vr1
  | _ => exact h
theorem pick_vr {c : Cx} {ids : List Nat} {u : V} {v : Value} (h : VR c u v) : VR (c.pick ids) (u.re ids) v := by
  cases u with
  | tup vs => exact trivial
  | own id => exact (pick_vr1 (u := .own id) h).vr
  | sub id o n => exact (pick_vr1 (u := .sub id o n) h).vr
  | ptr id o => exact (pick_vr1 (u := .ptr id o) h).vr
  | ro s l => exact (pick_vr1 (u := .ro s l) h).vr
  | ref a => exact (pick_vr1 (u := .ref a) h).vr
  | agg vs => exact (pick_vr1 (u := .agg vs) h).vr
  | _ => exact h

theorem pick_rel {c : Cx} (hr : Rel c) {ids : List Nat} (hn : ids.Nodup) (hl : ∀ i ∈ ids, i < c.h.length) : Rel (c.pick ids) := by
  have hin : ∀ j, j < ids.length → ids.getD j 0 < c.h.length := fun j hj => hl _ (by simp [List.getD, hj])
  have hlen : ∀ j, j < (c.pick ids).h.length ↔ j < ids.length := fun j => by simp [Cx.pick]
  refine ⟨fun j hj => hr.one _ (hin j ((hlen j).1 hj)), fun j hj => ?_, fun i j b hi hj hbi hbj => ?_, fun b hb => hr.lt b (pick_U hb), fun b hb => ⟨(hr.far b hb).1, fun hu => (hr.far b hb).2 (pick_U hu)⟩⟩
  · have hj' := (hlen j).1 hj
    have he := hr.ent _ (hin j hj')
    rw [pick_get c ids hj']
    cases hd : getE c.h (ids.getD j 0) with
    | row l =>
      rw [hd] at he
      obtain ⟨e, xs, ho, ha⟩ := he
      refine ⟨e, xs, ho, fun k hk => ?_⟩
      obtain ⟨x, hx, hxa⟩ := ha k hk
      exact ⟨x, hx, pick_atom hxa⟩
    | cells vs =>
      rw [hd] at he
      obtain ⟨b, e, cs, hv, hg, hs, ha⟩ := he
      refine ⟨b, e, cs, hv, hg, by simpa using hs, fun k hk => ?_⟩
      have hk' : k < vs.length := by simpa using hk
      obtain ⟨x, hx, hxa⟩ := ha k hk'
      refine ⟨x, hx, ?_⟩
      have e : (vs.map (V.re0 ids)).getD k .junk = (vs.getD k .junk).re0 ids := by simp [List.getD, hk']
      rw [e]; exact pick_vr0 hxa
    | dead => trivial
  · have hi' := (hlen i).1 (alive_lt hi)
    have hj' := (hlen j).1 (alive_lt hj)
    rw [pick_get c ids hi', E.re_alive] at hi
    rw [pick_get c ids hj', E.re_alive] at hj
    have := hr.inj _ _ b hi hj hbi hbj
    have e1 : ids.getD i 0 = ids[i] := by simp [List.getD, hi']
    have e2 : ids.getD j 0 = ids[j] := by simp [List.getD, hj']
    rw [e1, e2] at this
    have hp := List.pairwise_iff_getElem.1 hn
    rcases Nat.lt_trichotomy i j with h | h | h
    · exact absurd this (hp i j hi' hj' h)
    · exact h
    · exact absurd this.symm (hp j i hj' hi' h)

end Go.Proofs.Ytonbbeplmjidnaa.D
