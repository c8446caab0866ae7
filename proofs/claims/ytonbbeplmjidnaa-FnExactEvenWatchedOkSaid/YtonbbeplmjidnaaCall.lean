/- Calls by what is known of the callee. Conditions: those of each theorem. -/
import Derived.Test.YtonbbeplmjidnaaFun
namespace Go.Proofs.Ytonbbeplmjidnaa.D
open Go.RowKit
set_option linter.unusedVariables false
set_option linter.unusedSimpArgs false

def V.outs (v : V) : Prop := v.out1 = true ∨ ∃ vs, v = .tup vs ∧ vs.all V.out1 = true

/-- What is told of a function is true of every call of it. -/
def FnOk (P : Program) (f : FuncId) (sp : List V → List E → (V → List E → R) → R) : Prop :=
  ∀ args κ r (c : Cx) (cargs : Array Value), sp args c.h κ = some r → Rel c → ArgsR c args cargs.toList →
    Calls P f cargs c.w fun e w' => ∃ x v c', e = .returned x ∧ κ v c'.h = some r ∧ Ext c c' ∧ Rel c' ∧ VR c' v x ∧ c'.w = w' ∧ v.outs ∧ c'.h.all E.out = true

theorem FnOk.of {P : Program} {TD : TypeId → Option TI} {K : FuncId → List V → List E → (V → List E → R) → R} {ann : Nat → List Nat × List Nat} {drawOk : Array Oper → Bool}
    (hT : TyOk P TD) (hK : KOk P K) (hD : DrawOk P TD K drawOk) {f : FuncId} {fn : Func} (hf : P.funcs[f]? = some fn) {sp : List V → List E → (V → List E → R) → R}
    (h : ∀ args h κ r, sp args h κ = some r → ∃ fuel, funC TD K ann drawOk fuel fn args h κ = some r) : FnOk P f sp := by
  intro args κ r c cargs hs hr ha
  obtain ⟨fuel, hfn⟩ := h args c.h κ r hs
  exact (funC_calls hT hK hD hf hfn hr ha).mono fun e w' ⟨x, v, c', h1, h2, h3, h4, h5, h6, h7, h8⟩ => ⟨x, v, c', h1, h2, h3, h4, h5, h6, h7, h8⟩

/-! The callee's view of the caller's state. -/
def Cx.into (c : Cx) (ids : List Nat) : Cx :=
  ⟨fun b => c.F b ∨ (c.U b ∧ ∀ j, j < ids.length → blk (c.hv (ids.getD j 0)) ≠ some b), ids.map (getE c.h), fun j => c.hv (ids.getD j 0), c.w⟩

theorem into_get {c : Cx} {ids : List Nat} {j : Nat} (hj : j < ids.length) : getE (c.into ids).h j = getE c.h (ids.getD j 0) := by
  simp [Cx.into, getE, List.getD, hj]
theorem into_U {c : Cx} {ids : List Nat} {b : Nat} (h : (c.into ids).U b) : c.U b ∧ ∃ j, j < ids.length ∧ blk (c.hv (ids.getD j 0)) = some b := by
  obtain ⟨j, ha, hb⟩ := h
  have hj : j < ids.length := by have := alive_lt ha; simpa [Cx.into] using this
  rw [into_get hj] at ha
  exact ⟨⟨_, ha, hb⟩, j, hj, hb⟩

theorem into_rowV {c : Cx} {ids : List Nat} {xs : List Int} {v : Value} (h : RowV c xs v) : RowV (c.into ids) xs v := by
  obtain ⟨a, cap, rfl, hc, h0⟩ := h
  refine ⟨a, cap, rfl, hc, ?_⟩
  rcases h0 with h0 | ⟨b, off, ha, hF, hU, hcell⟩
  · exact .inl h0
  · exact .inr ⟨b, off, ha, fun hf => hf.elim hF (fun h => hU h.1), fun hu => hU (into_U hu).1, hcell⟩
theorem into_atom {c : Cx} {ids : List Nat} {a : Atom} {v : Value} (h : AtomR c a v) : AtomR (c.into ids) a v := by
  cases a <;> first | exact h | exact into_rowV h

/-- A list seen, away from the blocks that are handed over. -/
theorem into_seen {c : Cx} {ids : List Nat} {l : L} {v : Value} (h : Seen c l v) (hU : ∀ g, blk v = some g → l.len ≠ 0 → ¬ (c.into ids).U g) : RoR (c.into ids) false l v := by
  obtain ⟨a, cap, rfl, hc, h0⟩ := h
  refine ⟨a, cap, rfl, hc, ?_⟩
  rcases h0 with h0 | ⟨b, off, rfl, hcell⟩
  · exact .inl h0
  · rcases Nat.eq_zero_or_pos l.len with hz | hp
    · exact .inl hz
    · refine .inr ⟨b, off, rfl, fun h => (by cases h), hU b rfl (by omega), fun j hj => ?_⟩
      obtain ⟨y, hy, hya⟩ := hcell j hj
      exact ⟨y, hy, into_atom hya⟩

/-- The cells that may be handed over. -/
def plainCells (vs : List V) : Bool := vs.all fun v => v.ids0.isEmpty && v.flat && v.out0

theorem into_plain {c : Cx} {ids : List Nat} {v : V} {x : Value} (hp : (v.ids0.isEmpty && v.flat && v.out0) = true) (h : VR0 c v x) : VR0 (c.into ids) v x := by
  simp only [Bool.and_eq_true] at hp
  cases v with
  | ro s l =>
    have hs : s = true := hp.2
    subst hs
    obtain ⟨a, cap, rfl, hc, h0⟩ := h
    refine ⟨a, cap, rfl, hc, ?_⟩
    rcases h0 with h0 | ⟨b, off, ha, hF, hU, hcell⟩
    · exact .inl h0
    · refine .inr ⟨b, off, ha, fun _ hf => hf.elim (hF rfl) (fun h => hU h.1), fun hu => hU (into_U hu).1, fun j hj => ?_⟩
      obtain ⟨y, hy, hya⟩ := hcell j hj
      exact ⟨y, hy, into_atom hya⟩
  | own id => simp [V.ids0] at hp
  | sub id o n => simp [V.ids0] at hp
  | ptr id o => simp [V.ids0] at hp
  | ref a => simp [V.out0] at hp
  | agg vs => exact h.elim
  | tup vs => exact h.elim
  | _ => exact h

/-- The blocks handed over: different ones, each of plain cells, or a row. -/
structure Handed1 (c : Cx) (ids : List Nat) : Prop where
  nodup : ids.Nodup
  lt : ∀ i ∈ ids, i < c.h.length
  cells : ∀ i ∈ ids, (∃ vs, getE c.h i = .cells vs ∧ plainCells vs = true) ∨ ∃ l, getE c.h i = .row l

theorem Handed1.alive {c : Cx} {ids : List Nat} (h : Handed1 c ids) {i : Nat} (hi : i ∈ ids) : (getE c.h i).alive = true := by
  rcases h.cells i hi with ⟨vs, hvs, _⟩ | ⟨l, hl⟩
  · rw [hvs]; rfl
  · rw [hl]; rfl
theorem Handed1.more {c : Cx} {ids : List Nat} (hh : Handed1 c ids) {id : Nat} (hid : id < c.h.length) (hany : ids.any (Nat.beq id) = false) (hc : (∃ vs, getE c.h id = .cells vs ∧ plainCells vs = true) ∨ ∃ l, getE c.h id = .row l) : Handed1 c (ids ++ [id]) := by
  have hnot : id ∉ ids := fun hm => by
    have : ids.any (Nat.beq id) = true := List.any_eq_true.2 ⟨id, hm, by simp [Nat.beq_eq]⟩
    rw [this] at hany; cases hany
  refine ⟨?_, fun i hi => ?_, fun i hi => ?_⟩
  · rw [List.nodup_append]
    exact ⟨hh.nodup, by simp, fun p hp q hq e => by
      have hq' : q = id := by simpa using hq
      rw [e, hq'] at hp
      exact hnot hp⟩
  · rcases List.mem_append.1 hi with hi | hi
    · exact hh.lt i hi
    · have : i = id := by simpa using hi
      subst this; exact hid
  · rcases List.mem_append.1 hi with hi | hi
    · exact hh.cells i hi
    · have : i = id := by simpa using hi
      subst this; exact hc
theorem Handed1.at {c : Cx} {ids : List Nat} (h : Handed1 c ids) {j : Nat} (hj : j < ids.length) : ids.getD j 0 ∈ ids := by
  have e : ids.getD j 0 = ids[j] := by simp [List.getD, hj]
  rw [e]; exact List.getElem_mem hj
theorem Handed1.inj {c : Cx} {ids : List Nat} (h : Handed1 c ids) {i j : Nat} (hi : i < ids.length) (hj : j < ids.length) (he : ids.getD i 0 = ids.getD j 0) : i = j := by
  have e1 : ids.getD i 0 = ids[i] := by simp [List.getD, hi]
  have e2 : ids.getD j 0 = ids[j] := by simp [List.getD, hj]
  rw [e1, e2] at he
  have hp := List.pairwise_iff_getElem.1 h.nodup
  rcases Nat.lt_trichotomy i j with h | h | h
  · exact absurd he (hp i j hi hj h)
  · exact h
  · exact absurd he.symm (hp j i hj hi h)

theorem into_rel {c : Cx} (hr : Rel c) {ids : List Nat} (hh : Handed1 c ids) : Rel (c.into ids) := by
  have hlen : ∀ j, j < (c.into ids).h.length ↔ j < ids.length := fun j => by simp [Cx.into]
  have hin : ∀ j, j < ids.length → ids.getD j 0 < c.h.length := fun j hj => hh.lt _ (hh.at hj)
  refine ⟨fun j hj => hr.one _ (hin j ((hlen j).1 hj)), fun j hj => ?_, fun i j b hi hj hbi hbj => ?_, fun b hb => hr.lt b (into_U hb).1, fun b hb => ?_⟩
  · have hj' := (hlen j).1 hj
    rw [into_get hj']
    have he := hr.ent _ (hin j hj')
    rcases hh.cells _ (hh.at hj') with ⟨vs, hvs, hp⟩ | ⟨l, hl⟩
    case inr =>
      rw [hl] at he ⊢
      obtain ⟨e, xs, ho, ha⟩ := he
      refine ⟨e, xs, ho, fun k hk => ?_⟩
      obtain ⟨x, hx, hxa⟩ := ha k hk
      exact ⟨x, hx, into_atom hxa⟩
    rw [hvs] at he ⊢
    obtain ⟨b, e, cs, hv, hg, hs, ha⟩ := he
    refine ⟨b, e, cs, hv, hg, hs, fun k hk => ?_⟩
    obtain ⟨x, hx, hxa⟩ := ha k hk
    exact ⟨x, hx, into_plain (all_getD hp hk) hxa⟩
  · have hi' := (hlen i).1 (alive_lt hi)
    have hj' := (hlen j).1 (alive_lt hj)
    rw [into_get hi'] at hi
    rw [into_get hj'] at hj
    exact hh.inj hi' hj' (hr.inj _ _ b hi hj hbi hbj)
  · rcases hb with hb | ⟨hb, hn⟩
    · exact ⟨(hr.far b hb).1, fun hu => (hr.far b hb).2 (into_U hu).1⟩
    · refine ⟨hr.lt b hb, fun hu => ?_⟩
      obtain ⟨_, j, hj, hbj⟩ := into_U hu
      exact hn j hj hbj

theorem passC_ok {keep : Bool} {c : Cx} (hr : Rel c) : ∀ (ds : List TypeDesc) (args : List V) (ids0 : List Nat) (xs : List Value) (args' : List V) (ids : List Nat),
    passC keep c.h ds args ids0 = some (args', ids) → apartC ds args ids = true → ArgsR c args xs → Handed1 c ids0 →
    Handed1 c ids ∧ (∃ r, ids = ids0 ++ r) ∧ args'.length = args.length ∧ ∀ j, j < args.length → VR (c.into ids) (args'.getD j .junk) (xs.getD j undef) := by
  intro ds
  induction ds with
  | nil =>
    intro args ids0 xs args' ids h hap ha hh
    cases args with
    | nil =>
      simp [passC] at h
      obtain ⟨rfl, rfl⟩ := h
      exact ⟨hh, ⟨[], by simp⟩, rfl, fun j hj => by simp at hj⟩
    | cons v r => simp [passC] at h
  | cons d ds ih =>
    intro args ids0 xs args' ids h hap ha hh
    cases args with
    | nil => simp [passC] at h
    | cons v args =>
      obtain ⟨y, ys, rfl, hy, ha'⟩ := ha.tail
      have hap' : apartC ds args ids = true := by unfold apartC at hap; exact (Bool.and_eq_true_iff.1 hap).2
      -- a value that goes over by itself
      have go : ∀ (u : V), (passC keep c.h ds args ids0).map (fun p => (u :: p.1, p.2)) = some (args', ids) → (Handed1 c ids → VR (c.into ids) u y) →
          Handed1 c ids ∧ (∃ r, ids = ids0 ++ r) ∧ args'.length = (v :: args).length ∧ ∀ j, j < (v :: args).length → VR (c.into ids) (args'.getD j .junk) ((y :: ys).getD j undef) := by
        intro u h2 hu
        simp only [Option.map_eq_some_iff] at h2
        obtain ⟨⟨a2, i2⟩, h3, h4⟩ := h2
        simp at h4
        obtain ⟨rfl, rfl⟩ := h4
        obtain ⟨e1, e2, e3, e4⟩ := ih args ids0 ys a2 i2 h3 hap' ha' hh
        refine ⟨e1, e2, by simp [e3], fun j hj => ?_⟩
        cases j with
        | zero => simpa using hu e1
        | succ j => simpa using e4 j (by simpa using hj)
      -- a row of one's own is not among the blocks that go over
      have away : Handed1 c ids → ∀ (id : Nat) (l : L), ids.any (Nat.beq id) = false → getE c.h id = .row l → ∀ g, blk (c.hv id) = some g → ¬ (c.into ids).U g := by
        intro hids id l hne hl g hg hu
        obtain ⟨hu1, j, hj, hbj⟩ := into_U hu
        have := hr.inj id (ids.getD j 0) g (by rw [hl]; rfl) (hids.alive (hids.at hj)) hg hbj
        rw [any_beq.2 (by rw [this]; exact hids.at hj)] at hne; cases hne
      cases v with
      | ro s l =>
        simp only [passC] at h
        refine go _ h (fun hids => ?_)
        obtain ⟨a, cap, rfl, hc, h0⟩ := (show RoR c s l y from hy)
        refine ⟨a, cap, rfl, hc, ?_⟩
        rcases h0 with h0 | ⟨b, off, hab, hF, hU, hcell⟩
        · exact .inl h0
        · refine .inr ⟨b, off, hab, fun hs hf => ?_, fun hu => hU (into_U hu).1, fun j hj => ?_⟩
          · simp only [Bool.and_eq_true] at hs
            exact hf.elim (hF hs.1) (fun h => hU h.1)
          · obtain ⟨z, hz, hza⟩ := hcell j hj
            exact ⟨z, hz, into_atom hza⟩
      | own id =>
        simp only [passC] at h
        split at h
        · rename_i l hl
          obtain ⟨hid, rfl⟩ := (show id < c.h.length ∧ y = c.hv id from hy)
          cases hrw : rwD d with
          | true =>
            rw [hrw, cond_true] at h
            cases hany : ids0.any (Nat.beq id) with
            | true => simp [hany] at h
            | false =>
              rw [hany, cond_false] at h
              simp only [Option.map_eq_some_iff] at h
              obtain ⟨⟨a2, i2⟩, h3, h4⟩ := h
              simp at h4
              obtain ⟨rfl, rfl⟩ := h4
              obtain ⟨e1, ⟨rr, e2⟩, e3, e4⟩ := ih args _ ys a2 i2 h3 hap' ha' (hh.more hid hany (.inr ⟨l, hl⟩))
              refine ⟨e1, ⟨id :: rr, by rw [e2]; simp⟩, by simp [e3], fun j hj => ?_⟩
              cases j with
              | zero =>
                have hlt : ids0.length < i2.length := by rw [e2]; simp
                have hat : i2.getD ids0.length 0 = id := by rw [e2]; simp [List.getD]
                simp only [List.getD_cons_zero]
                exact ⟨by simpa [Cx.into] using hlt, by simp only [Cx.into, hat]⟩
              | succ j => simpa using e4 j (by simpa using hj)
          | false =>
          rw [hrw, cond_false] at h
          have hno : ids.any (Nat.beq id) = false := by
            unfold apartC at hap
            have := (Bool.and_eq_true_iff.1 hap).1
            simpa [hrw] using this
          refine go _ h (fun hids => ?_)
          obtain ⟨hs, h2⟩ := seen_own hr hid hl
          exact into_seen hs (fun g hg hne => away hids id l hno hl g hg)
        · cases h
      | sub id o n =>
        simp only [passC] at h
        split at h
        · rename_i l hl
          obtain ⟨hid, a, cap, rfl, hn, hg, hle⟩ := (show VR0 c (.sub id o n) y from hy)
          refine go _ h (fun hids => ?_)
          have hs := list_ok hr (x := .sub id o n) (l := l.cut o n) (by simp [listOf, hl]) (show VR c (.sub id o n) _ from hy)
          refine into_seen hs (fun g hg2 hne => ?_)
          rw [L.cut_len (hle l hl)] at hne
          rcases hg with h2 | ⟨g', hbg, rfl⟩
          · exact absurd h2 hne
          · simp [blk] at hg2
            subst hg2
            refine away hids id l ?_ hl _ hbg
            unfold apartC at hap
            have := (Bool.and_eq_true_iff.1 hap).1
            simpa using this
        · cases h
      | nil =>
        simp only [passC] at h
        split at h
        · rename_i l hl
          refine go _ h (fun hids => ?_)
          have e : y = .slice none 0 0 := hy
          subst e
          have hl0 : l.len = 0 := by
            unfold emptyRow at hl
            split at hl <;> simp at hl <;> subst hl <;> rfl
          exact ⟨none, 0, by rw [hl0], by omega, .inl hl0⟩
        · cases h
      | int k n => simp only [passC] at h; exact go _ h (fun hids => hy)
      | bool b => simp only [passC] at h; exact go _ h (fun hids => hy)
      | str s => simp only [passC] at h; exact go _ h (fun hids => hy)
      | agg vs =>
        simp only [passC] at h
        cases hpl : vs.all fun v => v.ids0.isEmpty && v.flat && v.out0 with
        | false => rw [hpl, cond_false] at h; cases h
        | true =>
          rw [hpl, cond_true] at h
          refine go _ h (fun hids => ?_)
          obtain ⟨cs, e, hs, hall⟩ := (show VR1 c (.agg vs) y from hy)
          exact ⟨cs, e, hs, fun j hj => into_plain (all_getD hpl hj) (hall j hj)⟩
      | ptr id off =>
        cases off with
        | succ off => simp [passC] at h
        | zero =>
          simp only [passC] at h
          cases hany : ids0.any (Nat.beq id) with
          | true => simp [hany] at h
          | false =>
            rw [hany, cond_false] at h
            split at h
            · rename_i vs hvs
              cases hpl : plainCells vs with
              | false =>
                have : (vs.all fun v => v.ids0.isEmpty && v.flat && v.out0) = false := hpl
                rw [this, cond_false] at h; cases h
              | true =>
                have : (vs.all fun v => v.ids0.isEmpty && v.flat && v.out0) = true := hpl
                rw [this, cond_true] at h
                obtain ⟨hid, g, hg, rfl⟩ := (show VR0 c (.ptr id 0) y from hy)
                have hh' : Handed1 c (ids0 ++ [id]) := hh.more hid hany (.inl ⟨vs, hvs, hpl⟩)
                simp only [Option.map_eq_some_iff] at h
                obtain ⟨⟨a2, i2⟩, h3, h4⟩ := h
                simp at h4
                obtain ⟨rfl, rfl⟩ := h4
                obtain ⟨e1, ⟨rr, e2⟩, e3, e4⟩ := ih args _ ys a2 i2 h3 hap' ha' hh'
                refine ⟨e1, ⟨id :: rr, by rw [e2]; simp⟩, by simp [e3], fun j hj => ?_⟩
                cases j with
                | zero =>
                  have hlt : ids0.length < i2.length := by rw [e2]; simp
                  have hat : i2.getD ids0.length 0 = id := by rw [e2]; simp [List.getD]
                  simp only [List.getD_cons_zero]
                  exact ⟨by simpa [Cx.into] using hlt, g, by simp only [Cx.into, hat]; exact hg, rfl⟩
                | succ j => simpa using e4 j (by simpa using hj)
            · cases h
      | _ => simp [passC] at h

end Go.Proofs.Ytonbbeplmjidnaa.D
