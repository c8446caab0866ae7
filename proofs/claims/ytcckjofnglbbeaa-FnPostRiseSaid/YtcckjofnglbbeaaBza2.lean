/- Several texts in one: Draw2, Call, Back, Twin, Law, Nice, Lib, Bits, Net, First, Log, For, Sum, Watch, Wat2, Fix. Conditions: those of each theorem. -/
import Derived.Test.YtcckjofnglbbeaaBza1
import Derived.KernelRfl
import Derived.Below
import Derived.OpenShut
import Derived.IntWalk
import Derived.WalkKit
import Derived.ProofKit
import Derived.Test.YtcckjofnglbbeaaBza0
/- Regions whose order is drawn: every order comes to the same (the walk over all orders). Conditions: those of each theorem. -/
namespace Go.Proofs.Ytcckjofnglbbeaa.D
open Go.RowKit
set_option linter.unusedVariables false
set_option linter.unusedSimpArgs false

section
variable {P : Program} {TD : TypeId → Option TI} {K : FuncId → List V → List E → (V → List E → R) → R}

/-- One operation in the written order. -/
def StepC (TD : TypeId → Option TI) (K : FuncId → List V → List E → (V → List E → R) → R) (ops : Array Oper) (o : Oper) (σ σ' : St) (v : V) : Prop :=
  (∀ t, getT σ'.t t = if o.dst = some t ∧ t < σ.n then v else getT σ.t t) ∧ σ'.n = σ.n ∧
  ((∃ g want t, o.guard = some (g, want) ∧ (ops[g]?).bind (·.dst) = some t ∧ (getT σ.t t = .tup [] ∨ ∃ b, getT σ.t t = .bool b ∧ (b == want) = false) ∧ v = .tup [] ∧ σ'.h = σ.h) ∨
   (∃ σ1 : St, (∀ t, getT σ1.t t = getT σ.t t) ∧ σ1.h = σ.h ∧ (∀ κ2, opC TD K o σ1 κ2 = κ2 v σ'.h) ∧
     (o.guard = none ∨ ∃ g want t b, o.guard = some (g, want) ∧ (ops[g]?).bind (·.dst) = some t ∧ getT σ.t t = .bool b ∧ (b == want) = true)))

theorem put_get (σ : St) (d : Option Nat) (v : V) : (∀ t, getT (σ.put d v).t t = if d = some t ∧ t < σ.n then v else getT σ.t t) ∧ (σ.put d v).n = σ.n ∧ (σ.put d v).h = σ.h := by
  cases d with
  | none => exact ⟨fun t => by simp [St.put], rfl, rfl⟩
  | some n =>
    unfold St.put
    by_cases hn : n < σ.n
    · have hb : Nat.blt n σ.n = true := by simpa [Nat.blt_eq] using hn
      simp only [hb, cond_true]
      refine ⟨fun t => ?_, by first | rfl | trivial, by first | rfl | trivial⟩
      rw [getT_putT]
      by_cases ht : n = t
      · subst ht; simp [hn]
      · simp [ht]
    · have hb : Nat.blt n σ.n = false := by
        cases hx : Nat.blt n σ.n with
        | false => rfl
        | true => rw [Nat.blt_eq] at hx; omega
      simp only [hb, cond_false]
      refine ⟨fun t => ?_, by first | rfl | trivial, by first | rfl | trivial⟩
      by_cases ht : n = t
      · subst ht; simp [hn]
      · simp [ht]
theorem put_known {σ : St} {t : Nat} {b : Bool} (hb : getT σ.t t = .bool b) : (∀ u, getT (σ.put (some t) (.bool b)).t u = getT σ.t u) ∧ (σ.put (some t) (.bool b)).n = σ.n ∧ (σ.put (some t) (.bool b)).h = σ.h := by
  obtain ⟨h1, h2, h3⟩ := put_get σ (some t) (.bool b)
  refine ⟨fun u => ?_, h2, h3⟩
  rw [h1]
  split
  · rename_i hh
    obtain ⟨e, _⟩ := hh
    cases e
    exact hb.symm
  · rfl

theorem trace_of (hK : KOk P K) {ops : Array Oper} {κ : St → R} {r : V × List E} : ∀ (l : List Oper) (σ : St), opsC TD K ops l σ κ = some r →
    ∃ (S : Nat → St) (val : Nat → V), S 0 = σ ∧ (∀ i, i < l.length → StepC TD K ops (l.getD i default) (S i) (S (i + 1)) (val i)) ∧ κ (S l.length) = some r := by
  intro l
  induction l with
  | nil => intro σ h; exact ⟨fun _ => σ, fun _ => .junk, rfl, fun i hi => by simp at hi, h⟩
  | cons o l ih =>
    intro σ h
    have fin : ∀ (σ' : St) (v : V), StepC TD K ops o σ σ' v → opsC TD K ops l σ' κ = some r →
        ∃ (S : Nat → St) (val : Nat → V), S 0 = σ ∧ (∀ i, i < (o :: l).length → StepC TD K ops ((o :: l).getD i default) (S i) (S (i + 1)) (val i)) ∧ κ (S (o :: l).length) = some r := by
      intro σ' v hs hl
      obtain ⟨S, val, h1, h2, h3⟩ := ih σ' hl
      refine ⟨fun i => match i with | 0 => σ | i + 1 => S i, fun i => match i with | 0 => v | i + 1 => val i, rfl, fun i hi => ?_, h3⟩
      cases i with
      | zero => simp only [List.getD_cons_zero]; rw [h1]; exact hs
      | succ i => simp only [List.getD_cons_succ]; exact h2 i (by simpa using hi)
    have exec : ∀ (σ1 : St), (∀ t, getT σ1.t t = getT σ.t t) → σ1.n = σ.n → σ1.h = σ.h → (o.guard = none ∨ ∃ g want t b, o.guard = some (g, want) ∧ (ops[g]?).bind (·.dst) = some t ∧ getT σ.t t = .bool b ∧ (b == want) = true) →
        opC TD K o σ1 (fun v h => opsC TD K ops l (St.put { σ1 with h } o.dst v) κ) = some r →
        ∃ (S : Nat → St) (val : Nat → V), S 0 = σ ∧ (∀ i, i < (o :: l).length → StepC TD K ops ((o :: l).getD i default) (S i) (S (i + 1)) (val i)) ∧ κ (S (o :: l).length) = some r := by
      intro σ1 g1 g2 g3 hg h1
      obtain ⟨v, h', e1, e2⟩ := opC_det hK.law h1
      obtain ⟨p1, p2, p3⟩ := put_get { σ1 with h := h' } o.dst v
      refine fin _ v ⟨fun t => ?_, p2.trans g2, .inr ⟨σ1, g1, g3, fun κ2 => ?_, hg⟩⟩ e1
      · rw [p1 t]
        show (if o.dst = some t ∧ t < σ1.n then v else getT σ1.t t) = _
        rw [g2, g1]
      · rw [p3]; exact e2 κ2
    have skip : ∀ (g : Nat) (want : Bool) (t : Nat) (b : Bool), o.guard = some (g, want) → (ops[g]?).bind (·.dst) = some t → getT σ.t t = .bool b → (b == want) = false →
        opsC TD K ops l ((σ.put (some t) (.bool b)).put o.dst (.tup [])) κ = some r →
        ∃ (S : Nat → St) (val : Nat → V), S 0 = σ ∧ (∀ i, i < (o :: l).length → StepC TD K ops ((o :: l).getD i default) (S i) (S (i + 1)) (val i)) ∧ κ (S (o :: l).length) = some r := by
      intro g want t b e1 e2 e3 e4 hl
      obtain ⟨k1, k2, k3⟩ := put_known e3
      obtain ⟨p1, p2, p3⟩ := put_get (σ.put (some t) (.bool b)) o.dst (.tup [])
      refine fin _ (.tup []) ⟨fun u => ?_, p2.trans k2, .inl ⟨g, want, t, e1, e2, .inr ⟨b, e3, e4⟩, rfl, p3.trans k3⟩⟩ hl
      rw [p1 u, k1 u, k2]
    unfold opsC at h
    split at h
    · rename_i hg
      exact exec σ (fun _ => rfl) rfl rfl (.inl hg) h
    · rename_i g want hg
      split at h
      · rename_i t ht
        split at h
        · rename_i b hb
          obtain ⟨k1, k2, k3⟩ := put_known hb
          cases b with
          | true =>
            rw [cond_true] at h
            cases want with
            | true => exact exec _ k1 k2 k3 (.inr ⟨g, true, t, true, hg, ht, hb, rfl⟩) h
            | false => exact skip g false t true hg ht hb rfl h
          | false =>
            rw [cond_false] at h
            cases want with
            | true => exact skip g true t false hg ht hb rfl h
            | false => exact exec _ k1 k2 k3 (.inr ⟨g, false, t, false, hg, ht, hb, rfl⟩) h
        · rename_i hb
          obtain ⟨p1, p2, p3⟩ := put_get σ o.dst (.tup [])
          exact fin _ (.tup []) ⟨p1, p2, .inl ⟨g, want, t, hg, ht, .inl hb, rfl, p3⟩⟩ h
        · cases h
      · cases h

theorem mask_bit {o : Oper} {M : List Nat} {i : Nat} (h : (maskOf o M).testBit i = true) : ∃ e ∈ o.after, Region.binds .any e = true ∧ (e.on = i ∨ (M.getD e.on 0).testBit i = true) := by
  have key : ∀ (l : List Edge) (s : Nat), (l.foldl (fun s e => bif Region.binds .any e then (s ||| 2 ^ e.on) ||| M.getD e.on 0 else s) s).testBit i = true →
      s.testBit i = true ∨ ∃ e ∈ l, Region.binds .any e = true ∧ (e.on = i ∨ (M.getD e.on 0).testBit i = true) := by
    intro l
    induction l with
    | nil => intro s h; exact .inl h
    | cons e l ih =>
      intro s h
      simp only [List.foldl_cons] at h
      rcases ih _ h with h1 | ⟨e', h1, h2⟩
      · cases hb : Region.binds .any e with
        | false => rw [hb, cond_false] at h1; exact .inl h1
        | true =>
          rw [hb, cond_true, Nat.testBit_or, Nat.testBit_or, Nat.testBit_two_pow] at h1
          simp only [Bool.or_eq_true, decide_eq_true_eq] at h1
          rcases h1 with (h1 | h1) | h1
          · exact .inl h1
          · exact .inr ⟨e, by simp, hb, .inl h1⟩
          · exact .inr ⟨e, by simp, hb, .inr h1⟩
      · exact .inr ⟨e', by simp [h1], h2⟩
  rcases key o.after.toList 0 h with h1 | ⟨e, h1, h2⟩
  · simp at h1
  · exact ⟨e, by simpa using h1, h2⟩

/-- What the check of a drawn region says. -/
structure DrawD (TD : TypeId → Option TI) (pureF rowsF addF : FuncId → Bool) (ops : Array Oper) (M : List Nat) : Prop where
  mask : ∀ j o, ops[j]? = some o → M.getD j 0 = maskOf o M
  lt : ∀ j o, ops[j]? = some o → ∀ e ∈ o.after, Region.binds .any e = true → e.on < j
  pair : ∀ i j oi oj, ops[i]? = some oi → ops[j]? = some oj → i ≠ j → pairOk TD pureF rowsF addF ops M i j oi oj = true

theorem drawOk_spec {pf : FuncId → Bool × Bool × Bool} {ops : Array Oper} (h : drawOk TD pf ops = true) : DrawD TD (fun f => (pf f).1) (fun f => (pf f).2.1) (fun f => (pf f).2.2) ops (reachL ops.toList []) := by
  unfold drawOk at h
  simp only [List.all_eq_true, List.mem_range] at h
  have hj : ∀ j oj, ops[j]? = some oj → _ := fun j oj ho => by
    have := h j (Array.getElem?_eq_some_iff.1 ho).1
    rw [ho] at this
    exact this
  refine ⟨fun j o ho => ?_, fun j o ho e he hb => ?_, fun i j oi oj hi ho hne => ?_⟩
  · have := hj j o ho
    simp only [Bool.and_eq_true] at this
    exact Nat.eq_of_beq_eq_true this.1.1.1
  · have := hj j o ho
    simp only [Bool.and_eq_true, List.all_eq_true] at this
    have h2 := this.1.1.2 e (by simpa using he)
    simp [hb, Nat.blt_eq] at h2
    exact h2
  · have := hj j oj ho
    simp only [Bool.and_eq_true, List.all_eq_true, List.mem_range] at this
    have h2 := this.2 i (Array.getElem?_eq_some_iff.1 hi).1
    rw [hi] at h2
    simp only [Bool.or_eq_true] at h2
    rcases h2 with h2 | h2
    · exact absurd (Nat.eq_of_beq_eq_true h2) hne
    · exact h2

theorem free_quiet {pureF : FuncId → Bool} {op : Op} (h : heapFree TD op = true) : quietOp TD pureF op = true := by
  cases op <;> first | (simp [heapFree] at h; done) | rfl | exact h | skip
  case call c =>
    obtain ⟨callee, cargs, cats⟩ := c
    cases callee with
    | builtin b => cases b <;> first | (simp [heapFree] at h; done) | rfl
    | _ => simp [heapFree] at h

/-- A draw turns nothing. -/
def Cx.drew (c : Cx) : Cx := { c with w := { c.w with drawn := c.w.drawn + 1 } }
theorem ext_drew (c : Cx) : Ext c c.drew := ⟨rfl, rfl, rfl, rfl, Nat.le_refl _, fun _ _ _ => rfl, fun _ h => .inl h, Nat.le_refl _, fun _ _ => ⟨rfl, sameE_refl _⟩⟩
theorem rel_drew {c : Cx} (hr : Rel c) : Rel c.drew :=
  ⟨hr.one, fun i hi => (hr.ent i hi).keep (ext_drew c) hi (fun _ _ => rfl), hr.inj, hr.lt, hr.far⟩

/-- A pure function's call leaves the blocks as they are. -/
def PureOk (K : FuncId → List V → List E → (V → List E → R) → R) (pureF : FuncId → Bool) : Prop := ∀ f, pureF f = true → ∀ args h κ, K f args h κ = K f args h fun v _ => κ v h

/-- A call that writes into no row leaves the rows. -/
def KeepOk (K : FuncId → List V → List E → (V → List E → R) → R) (rowsF : FuncId → Bool) : Prop :=
  ∀ f, rowsF f = true → ∀ args h v h', K f args h (fun v h => some (v, h)) = some (v, h') → ∀ id e, E.rowy e = true → getE h id = e → getE h' id = e
theorem opC_keep {rowsF : FuncId → Bool} (hw : KeepOk K rowsF) {o : Oper} (hk : keepOp rowsF o.op = true) {σ : St} {v : V} {h' : List E} (hs : ∀ κ2, opC TD K o σ κ2 = κ2 v h') :
    ∀ id e, E.rowy e = true → getE σ.h id = e → getE h' id = e := by
  obtain ⟨dst, op, ty, pos, after, guard⟩ := o
  cases op <;> first | (simp [keepOp] at hk; done) | skip
  case call c =>
    obtain ⟨callee, cargs, cats⟩ := c
    cases callee with
    | value f =>
      cases f with
      | func f => exact hw f hk _ _ _ _ (hs fun v h => some (v, h))
      | _ => simp [keepOp] at hk
    | _ => simp [keepOp] at hk
/-- A call that is handed no block but adds some. -/
def AddOk (K : FuncId → List V → List E → (V → List E → R) → R) (addF : FuncId → Bool) : Prop :=
  ∀ f, addF f = true → ∀ args h v h', K f args h (fun v h => some (v, h)) = some (v, h') → ∃ news, h' = h ++ news
theorem opC_add {addF : FuncId → Bool} (hw : AddOk K addF) {o : Oper} (hk : addOp addF o.op = true) {σ : St} {v : V} {h' : List E} (hs : ∀ κ2, opC TD K o σ κ2 = κ2 v h') : ∃ news, h' = σ.h ++ news := by
  obtain ⟨dst, op, ty, pos, after, guard⟩ := o
  cases op <;> first | (simp [addOp] at hk; done) | skip
  case call c =>
    obtain ⟨callee, cargs, cats⟩ := c
    cases callee with
    | value f =>
      cases f with
      | func f => exact hw f hk _ _ _ _ (hs fun v h => some (v, h))
      | _ => simp [addOp] at hk
    | _ => simp [addOp] at hk
/-- What stands behind an operation that adds stood before. -/
def NewH (h h' : List E) : Prop := h.length ≤ h'.length ∧ ∀ id en, E.alive en = true → id < h.length → getE h' id = en → getE h id = en
theorem NewH.refl (h : List E) : NewH h h := ⟨Nat.le_refl _, fun _ _ _ _ e => e⟩
theorem NewH.app (h l : List E) : NewH h (h ++ l) := ⟨by simp, fun id en _ hid e => by rwa [getE_append_lt hid] at e⟩
theorem NewH.kill (h : List E) (i : Nat) (x : E) : NewH h (h.set i .dead ++ [x]) := by
  refine ⟨by simp, fun id en ha hid e => ?_⟩
  rw [getE_append_lt (by simpa using hid)] at e
  by_cases hi : i = id
  · subst hi
    have : getE (h.set i .dead) i = .dead := by unfold getE; simp [List.getD, hid]
    rw [this] at e; subst e; cases ha
  · have : getE (h.set i .dead) id = getE h id := by unfold getE; simp [List.getD, List.getElem?_set_ne hi]
    rwa [this] at e
theorem NewH.trans {a b c : List E} (h1 : NewH a b) (h2 : NewH b c) : NewH a c :=
  ⟨Nat.le_trans h1.1 h2.1, fun id en ha hid e => h1.2 id en ha hid (h2.2 id en ha (Nat.lt_of_lt_of_le hid h1.1) e)⟩
theorem appC_new {s x : V} {h h' : List E} {v : V} (e : appC s x h (fun v h => some (v, h)) = some (v, h')) : NewH h h' := by
  unfold appC at e
  split at e
  · rename_i id
    split at e
    · rename_i l m hl hm
      split at e
      · rename_i q hq
        obtain ⟨_, e⟩ := bif_some e
        injection e with e; injection e with _ e; subst e
        exact NewH.kill h id _
      · cases e
    · cases e
  · split at e
    · rename_i m hm
      cases h0 : (m.len == 0) with
      | true => rw [h0, cond_true] at e; injection e with e; injection e with _ e; subst e; exact NewH.refl _
      | false =>
        rw [h0, cond_false] at e
        obtain ⟨_, e⟩ := bif_some e
        injection e with e; injection e with _ e; subst e
        exact NewH.app _ _
    · cases e
  · rename_i id n
    split at e
    · rename_i l m hl hm
      split at e
      · rename_i q hq
        obtain ⟨_, e⟩ := bif_some e
        injection e with e; injection e with _ e; subst e
        exact NewH.kill h id _
      · cases e
    · cases e
  · cases e
theorem opC_new {o : Oper} (hk : newOp o.op = true) {σ : St} {v : V} {h' : List E} (hs : ∀ κ2, opC TD K o σ κ2 = κ2 v h') : NewH σ.h h' := by
  have e := hs (fun v h => some (v, h))
  clear hs
  obtain ⟨dst, op, ty, pos, after, guard⟩ := o
  cases op <;> first | (simp [newOp] at hk; done) | skip
  case buildSlice t n parts =>
    cases n with
    | succ n => simp [newOp] at hk
    | zero =>
    unfold opC at e
    split at e
    · rename_i f hf
      simp only [opR] at hf
      split at hf
      · split at hf
        · injection hf with hf; subst hf
          injection e with e; injection e with _ e; subst e
          exact NewH.app _ _
        · rename_i hn _; cases hn
        · cases hf
      · cases hf
    · simp only [opC0] at e
      split at e
      · split at e
        · obtain ⟨c1, e⟩ := bif_some e
          simp only [Bool.and_eq_true] at c1
          have hp : parts.toList = [] := by
            have := Nat.eq_of_beq_eq_true c1.1.1.1
            exact List.eq_nil_of_length_eq_zero (by simpa using this)
          split at e
          · injection e with e; injection e with _ e; subst e; exact NewH.app _ _
          · split at e
            · rw [hp] at e
              simp only [List.map_nil, freeze] at e
              injection e with e; injection e with _ e; subst e; exact NewH.app _ _
            · cases e
        · cases e
      · cases e
  case makeSlice t l c =>
    unfold opC at e
    split at e
    · rename_i f hf
      simp only [opR] at hf
      split at hf
      · split at hf
        · injection hf with hf; subst hf
          obtain ⟨_, e⟩ := bif_some e
          injection e with e; injection e with _ e; subst e
          exact NewH.app _ _
        · cases hf
      · cases hf
    · simp only [opC0] at e
      split at e
      · split at e
        · obtain ⟨_, e⟩ := bif_some e
          split at e
          · injection e with e; injection e with _ e; subst e; exact NewH.app _ _
          · cases e
        · cases e
      · cases e
  case call c =>
    obtain ⟨callee, cargs, cats⟩ := c
    cases callee with
    | builtin b =>
      cases b <;> first | (simp [newOp] at hk; done) | skip
      unfold opC at e
      split at e
      · rename_i f hf
        simp only [opR] at hf
        repeat' split at hf
        all_goals first | (cases hf; done) | skip
        all_goals
          injection hf with hf; subst hf
          obtain ⟨_, e⟩ := bif_some e
          injection e with e; injection e with _ e; subst e
          exact NewH.kill _ _ _
      · simp only [opC0] at e
        split at e
        · cases hb : Nat.beq _ _ with
          | false => rw [hb] at e; cases e
          | true =>
            rw [hb, cond_true] at e
            split at e
            · split at e
              · obtain ⟨_, e⟩ := bif_some e
                exact appC_new e
              · cases e
            · cases e
        · cases e
    | _ => simp [newOp] at hk
theorem grow_quiet {pureF : FuncId → Bool} {op : Op} (h : growOp op = true) : quietOp TD pureF op = true := by
  cases op <;> first | (simp [growOp] at h; done) | rfl | skip
  case call c =>
    obtain ⟨callee, cargs, cats⟩ := c
    cases callee with
    | builtin b => cases b <;> first | (simp [growOp] at h; done) | rfl
    | _ => simp [growOp] at h
theorem len_grow {op : Op} (h : growOp op = false) : lenOp op = false := by
  cases op <;> first | rfl | skip
  case call c =>
    obtain ⟨callee, cargs, cats⟩ := c
    cases callee with
    | builtin b => cases b <;> first | (simp [growOp] at h; done) | rfl
    | _ => rfl
theorem rowRead_no {ops : Array Oper} {i : Nat} {o : Oper} (h : growOp o.op = false) : rowRead TD ops i o = false := by
  obtain ⟨dst, op, ty, pos, after, guard⟩ := o
  unfold rowRead
  rw [len_grow h]
  cases op <;> first | rfl | (simp [growOp] at h; done)
theorem idxC_rowy {x i : V} {h h' : List E} {v : V} (e : idxC x i h (fun v => some (v, h)) = some (v, h')) :
    (∀ id ∈ x.ids, E.rowy (getE h id) = true) ∧ (∀ id ∈ i.ids, E.rowy (getE h id) = true) ∧ ∀ id ∈ v.ids, E.rowy (getE h id) = true := by
  unfold idxC at e
  split at e
  · obtain ⟨_, e⟩ := bif_some e
    injection e with e; injection e with e _; subst e
    exact ⟨fun id hid => by simp [V.ids, V.ids0] at hid, fun id hid => by simp [V.ids, V.ids0] at hid, fun id hid => by simp [V.ids, V.ids0] at hid⟩
  · split at e
    · rename_i id _ _ _ l hl
      obtain ⟨_, e⟩ := bif_some e
      injection e with e; injection e with e _; subst e
      have hr : E.rowy (getE h id) = true := by rw [hl]; rfl
      exact ⟨fun j hj => by simp only [V.ids, V.ids0, List.mem_singleton] at hj; rw [hj]; exact hr, fun id hid => by simp [V.ids, V.ids0] at hid, fun j hj => by simp only [V.ids, V.ids0, List.mem_singleton] at hj; rw [hj]; exact hr⟩
    · cases e
  · split at e
    · rename_i id _ _ _ _ _ l hl
      obtain ⟨_, e⟩ := bif_some e
      injection e with e; injection e with e _; subst e
      have hr : E.rowy (getE h id) = true := by rw [hl]; rfl
      exact ⟨fun j hj => by simp only [V.ids, V.ids0, List.mem_singleton] at hj; rw [hj]; exact hr, fun id hid => by simp [V.ids, V.ids0] at hid, fun j hj => by simp only [V.ids, V.ids0, List.mem_singleton] at hj; rw [hj]; exact hr⟩
    · cases e
  · cases e
theorem idx_rowy {o : Oper} (hk : rowAddr TD o.op = true) {σ : St} {v : V} {h' : List E} (hs : ∀ κ2, opC TD K o σ κ2 = κ2 v h') :
    (∀ x ∈ o.op.operands, ∀ id ∈ (σ.ev x).ids, E.rowy (getE σ.h id) = true) ∧ ∀ id ∈ v.ids, E.rowy (getE σ.h id) = true := by
  have e := hs (fun v h => some (v, h))
  clear hs
  obtain ⟨dst, op, ty, pos, after, guard⟩ := o
  cases op <;> first | (simp [rowAddr] at hk; done) | skip
  case indexAddr t x i =>
    have fin : ((∀ id ∈ (σ.ev x).ids, E.rowy (getE σ.h id) = true) ∧ (∀ id ∈ (σ.ev i).ids, E.rowy (getE σ.h id) = true) ∧ ∀ id ∈ v.ids, E.rowy (getE σ.h id) = true) →
        (∀ y ∈ (Op.indexAddr t x i).operands, ∀ id ∈ (σ.ev y).ids, E.rowy (getE σ.h id) = true) ∧ ∀ id ∈ v.ids, E.rowy (getE σ.h id) = true := fun ⟨a, b, c⟩ => by
      refine ⟨fun y hy => ?_, c⟩
      simp only [Op.operands] at hy
      simp at hy
      rcases hy with rfl | rfl
      · exact a
      · exact b
    refine fin ?_
    unfold opC at e
    split at e
    · rename_i f hf
      simp only [opR] at hf
      split at hf
      · split at hf
        · rename_i hx hi
          injection hf with hf; subst hf
          obtain ⟨_, e⟩ := bif_some e
          injection e with e; injection e with e _; subst e
          rw [hx, hi]
          exact ⟨fun id hid => by simp [V.ids, V.ids0] at hid, fun id hid => by simp [V.ids, V.ids0] at hid, fun id hid => by simp [V.ids, V.ids0] at hid⟩
        · rename_i id _ _ hx hi
          split at hf
          · rename_i m xs hg
            injection hf with hf; subst hf
            obtain ⟨_, e⟩ := bif_some e
            injection e with e; injection e with e _; subst e
            rw [hx, hi]
            have hr : E.rowy (getE σ.h id) = true := by rw [hg]; rfl
            exact ⟨fun j hj => by simp only [V.ids, V.ids0, List.mem_singleton] at hj; rw [hj]; exact hr, fun id hid => by simp [V.ids, V.ids0] at hid, fun j hj => by simp only [V.ids, V.ids0, List.mem_singleton] at hj; rw [hj]; exact hr⟩
          · cases hf
        · cases hf
      · cases hf
    · simp only [rowAddr] at hk
      split at hk
      · rename_i htd
        simp only [opC0, htd] at e
        split at e
        · exact idxC_rowy e
        · cases e
      · cases hk
theorem load_ptr {dst : Option Tmp} {t : TypeId} {p : Operand} {ty : TypeId} {pos : String} {after : Array Edge} {guard : Option (Nat × Bool)} {σ : St} {v : V} {h' : List E}
    (hs : ∀ κ2, opC TD K ⟨dst, .load t p, ty, pos, after, guard⟩ σ κ2 = κ2 v h') : (σ.ev p).ids = [] ∨ ∃ id, (∃ off, σ.ev p = .ptr id off) ∨ ∃ off n i, σ.ev p = .elt id off n i := by
  have e := hs (fun v h => some (v, h))
  clear hs
  cases hp : σ.ev p with
  | own id =>
    exfalso
    simp only [opC, opR, opC0, hp] at e
    repeat' split at e
    all_goals first | (cases e; done) | (simp only [loadAggC, loadArrC, loadC] at e; cases e; done) | skip
    all_goals (rename_i hf; repeat' split at hf)
    all_goals first | (cases hf; done) | (cases e; done) | skip
  | sub id o n =>
    exfalso
    simp only [opC, opR, opC0, hp] at e
    repeat' split at e
    all_goals first | (cases e; done) | (simp only [loadAggC, loadArrC, loadC] at e; cases e; done) | skip
    all_goals (rename_i hf; repeat' split at hf)
    all_goals first | (cases hf; done) | (cases e; done) | skip
  | ptr id off => exact .inr ⟨id, .inl ⟨off, rfl⟩⟩
  | elt id off n i => exact .inr ⟨id, .inr ⟨off, n, i, rfl⟩⟩
  | agg vs =>
    exfalso
    simp only [opC, opR, opC0, hp] at e
    repeat' split at e
    all_goals first | (cases e; done) | (simp only [loadAggC, loadArrC, loadC] at e; cases e; done) | skip
    all_goals (rename_i hf; repeat' split at hf)
    all_goals first | (cases hf; done) | (cases e; done) | skip
  | _ => exact .inl rfl
theorem freeOp_quiet {pureF : FuncId → Bool} {op : Op} (h : freeOp TD op = true) : quietOp TD pureF op = true := by
  unfold freeOp at h
  rcases Bool.or_eq_true_iff.1 h with h | h
  · exact free_quiet h
  · exact grow_quiet h
theorem freeOp_no {op : Op} (h : freeOp TD op = false) : heapFree TD op = false ∧ growOp op = false := by
  unfold freeOp at h
  exact Bool.or_eq_false_iff.1 h

theorem draw_ok (hT : TyOk P TD) (hK : KOk P K) (hm : P.follows .mixedOrders = true) {pf : FuncId → Bool × Bool × Bool} (hp : PureOk K fun f => (pf f).1) (hw : KeepOk K fun f => (pf f).2.1) (hadd : AddOk K fun f => (pf f).2.2) : DrawOk P TD K (drawOk TD pf) := by
  intro ops Q r κ c0 σ a c id hd h hE hr ht hQ
  refine wp_region_any hm ?_
  have D := drawOk_spec hd
  clear hd
  revert D hp hw hadd
  generalize (fun f => (pf f).1) = pureF
  generalize (fun f => (pf f).2.1) = rowsF
  generalize (fun f => (pf f).2.2) = addF
  intro hp hw hadd D
  revert D
  generalize reachL ops.toList [] = M
  intro D
  obtain ⟨S, val, hS0, hstep0, hfin⟩ := trace_of hK ops.toList σ h
  have hn : ops.toList.length = ops.size := by simp
  rw [hn] at hstep0 hfin
  have hstep : ∀ i o, ops[i]? = some o → StepC TD K ops o (S i) (S (i + 1)) (val i) := fun i o ho => by
    have hi := (Array.getElem?_eq_some_iff.1 ho).1
    have e : ops.toList.getD i default = o := by simp [List.getD, ho]
    have := hstep0 i hi
    rw [e] at this; exact this
  have hSn : ∀ i, i ≤ ops.size → (S i).n = σ.n := by
    intro i
    induction i with
    | zero => intro _; rw [hS0]
    | succ i ih =>
      intro hi
      have ho : ops[i]? = some ops[i] := by simp
      exact (hstep i _ ho).2.1.trans (ih (by omega))
  -- what is written before
  have hT0 : ∀ i, i ≤ ops.size → ∀ t, (∃ i' o', i' < i ∧ ops[i']? = some o' ∧ o'.dst = some t ∧ t < σ.n ∧ getT (S i).t t = val i') ∨
      ((∀ i' o', i' < i → ops[i']? = some o' → o'.dst = some t → ¬ t < σ.n) ∧ getT (S i).t t = getT σ.t t) := by
    intro i
    induction i with
    | zero => intro _ t; exact .inr ⟨fun i' o' h => by omega, by rw [hS0]⟩
    | succ i ih =>
      intro hi t
      have ho : ops[i]? = some ops[i] := by simp
      have hs := (hstep i _ ho).1 t
      rw [hSn i (by omega)] at hs
      by_cases hw : ops[i].dst = some t ∧ t < σ.n
      · rw [if_pos hw] at hs
        exact .inl ⟨i, _, by omega, ho, hw.1, hw.2, hs⟩
      · rw [if_neg hw] at hs
        rcases ih (by omega) t with ⟨i', o', h1, h2, h3, h4, h5⟩ | ⟨h1, h2⟩
        · exact .inl ⟨i', o', by omega, h2, h3, h4, hs.trans h5⟩
        · refine .inr ⟨fun i' o' hlt h3 h4 h5 => ?_, hs.trans h2⟩
          rcases Nat.lt_or_ge i' i with h6 | h6
          · exact h1 i' o' h6 h3 h4 h5
          · obtain rfl : i' = i := by omega
            rw [ho] at h3; cases h3
            exact hw ⟨h4, h5⟩
  -- quiet operations leave the blocks
  have hquiet : ∀ i o, ops[i]? = some o → quietOp TD pureF o.op = true → (S (i + 1)).h = (S i).h := by
    intro i o ho hq
    rcases (hstep i o ho).2.2 with ⟨g, want, t, _, _, _, _, h1⟩ | ⟨σ1, h1, h2, h3, _⟩
    · exact h1
    · have e1 := h3 (fun v h => some (v, h))
      have e2 := h3 (fun v _ => some (v, σ1.h))
      rw [opC_quiet hp hq] at e1
      rw [e2] at e1
      have : σ1.h = (S (i + 1)).h := by injection e1 with e; injection e
      rw [← this, h2]
  have hconst : ∀ q, q ≤ ops.size → ∀ p, p ≤ q → (∀ e o, p ≤ e → e < q → ops[e]? = some o → quietOp TD pureF o.op = true) → (S q).h = (S p).h := by
    intro q
    induction q with
    | zero => intro _ p hpq _; obtain rfl : p = 0 := by omega
              rfl
    | succ q ih =>
      intro hq p hpq hall
      rcases Nat.lt_or_ge q p with h1 | h1
      · obtain rfl : p = q + 1 := by omega
        rfl
      · have ho : ops[q]? = some ops[q] := by simp
        rw [hquiet q _ ho (hall q _ h1 (by omega) ho)]
        exact ih (by omega) p h1 (fun e o a1 a2 => hall e o a1 (by omega))
  -- the invariant
  let Inv : Array Bool → Act → Cx → Prop := fun L a c =>
    Ext c0 c ∧ Rel c ∧ a.tmps.size = σ.n ∧ a.defers = [] ∧ L.size = ops.size ∧
    (∀ j o, ops[j]? = some o → L.getD j false = true → ∀ e ∈ o.after, Region.binds .any e = true → L.getD e.on false = true) ∧
    (∀ t j o, ops[j]? = some o → o.dst = some t → t < σ.n → L.getD j false = true → VR c (val j) (a.tmps.getD t undef)) ∧
    (∀ t, (∀ j o, ops[j]? = some o → o.dst = some t → t < σ.n → L.getD j false = false) → VR c (getT σ.t t) (a.tmps.getD t undef)) ∧
    ∃ k, k ≤ ops.size ∧ c.h = (S k).h ∧ ∀ e o, ops[e]? = some o → quietOp TD pureF o.op = false → (L.getD e false = true ↔ e < k)
  -- what lies ahead is listed
  have hclose : ∀ (L : Array Bool), (∀ j o, ops[j]? = some o → L.getD j false = true → ∀ e ∈ o.after, Region.binds .any e = true → L.getD e.on false = true) →
      ∀ j o, ops[j]? = some o → (∀ e ∈ o.after, Region.binds .any e = true → L.getD e.on false = true) → ∀ i, (M.getD j 0).testBit i = true → L.getD i false = true := by
    intro L hdown j
    induction j using Nat.strongRecOn with
    | _ j ih =>
      intro o ho hpre i hi
      rw [D.mask j o ho] at hi
      obtain ⟨e, he, hb, h1⟩ := mask_bit hi
      have hl := hpre e he hb
      rcases h1 with rfl | h1
      · exact hl
      · have hlt := D.lt j o ho e he hb
        have hjs := (Array.getElem?_eq_some_iff.1 ho).1
        have ho' : ops[e.on]? = some ops[e.on] := by simp
        exact ih e.on hlt _ ho' (hdown e.on _ ho' hl) i h1
  -- all listed
  have hend : ∀ L a c, Inv L a c → (∀ j, j < ops.size → L.getD j false = true) → Q .normal a c.w := by
    rintro L a c ⟨i1, i2, i3, i4, i5, i6, i7, i8, k, k1, k2, k3⟩ hall
    have hk : (S ops.size).h = (S k).h := hconst ops.size (Nat.le_refl _) k k1 (fun e o a1 a2 ho => by
      cases hq : quietOp TD pureF o.op with
      | true => rfl
      | false => have := (k3 e o ho hq).1 (hall e a2); omega)
    refine hQ (S ops.size) c a hfin i1 i2 ⟨i3.trans (hSn _ (Nat.le_refl _)).symm, i4, hk.trans k2.symm, fun t => ?_⟩
    rcases hT0 ops.size (Nat.le_refl _) t with ⟨i', o', h1, h2, h3, h4, h5⟩ | ⟨h1, h2⟩
    · rw [h5]; exact i7 t i' o' h2 h3 h4 (hall i' h1)
    · rw [h2]
      exact i8 t (fun j o ho hdst hlt => absurd hlt (h1 j o (Array.getElem?_eq_some_iff.1 ho).1 ho hdst))
  -- one step
  have hone : ∀ L a c, Inv L a c → ∀ i, i ∈ Region.ready .any ops L → ∀ (N : Act → World → Prop), (∀ a' c', Inv (L.setIfInBounds i true) a' c' → N a' c'.w) → wpOp P ops Q i N a c.w := by
    rintro L a c ⟨i1, i2, i3, i4, i5, i6, i7, i8, k, k1, k2, k3⟩ i hi N hN
    obtain ⟨hun, o, ho, hpre⟩ := mem_ready.1 hi
    have hlt : i < ops.size := (Array.getElem?_eq_some_iff.1 ho).1
    have hun' : L.getD i false = false := by
      have : i < L.size := by omega
      simp [this] at hun ⊢; exact hun
    -- what i looks at
    have hahead : ∀ j, (M.getD i 0).testBit j = true → L.getD j false = true := hclose L i6 i o ho hpre
    have hbehind : ∀ j oj, ops[j]? = some oj → (M.getD j 0).testBit i = true → L.getD j false = false := fun j oj hoj hb => by
      cases hl : L.getD j false with
      | false => rfl
      | true =>
        have := hclose L i6 j oj hoj (i6 j oj hoj hl) i hb
        rw [hun'] at this; cases this
    have hlook : ∀ t, t ∈ o.looksAt ops → VR c (getT (S i).t t) (a.tmps.getD t undef) := by
      intro t htl
      have hpl : ∀ j oj, ops[j]? = some oj → j ≠ i → oj.dst = some t → before_ M j i = true := fun j oj hoj hne hdst => by
        have := D.pair j i oj o hoj ho hne
        simp only [pairOk, Bool.and_eq_true] at this
        have h2 := this.1.2
        rw [hdst] at h2
        have h3 : (o.looksAt ops).any (Nat.beq t) = true := any_beq.2 htl
        simp only [h3, cond_true] at h2
        exact h2
      rcases hT0 i (by omega) t with ⟨j, oj, h1, h2, h3, h4, h5⟩ | ⟨h1, h2⟩
      · rw [h5]
        refine i7 t j oj h2 h3 h4 (hahead j ?_)
        have hb := hpl j oj h2 (by omega) h3
        have hjl : Nat.blt j i = true := by simpa [Nat.blt_eq] using h1
        simpa [before_, hjl] using hb
      · rw [h2]
        refine i8 t (fun j oj hoj hdst htn => ?_)
        rcases Nat.lt_trichotomy j i with h6 | h6 | h6
        · exact absurd htn (h1 j oj h6 hoj hdst)
        · subst h6; exact hun'
        · have hb := hpl j oj hoj (by omega) hdst
          have hjl : Nat.blt j i = false := by
            cases hx : Nat.blt j i with
            | false => rfl
            | true => rw [Nat.blt_eq] at hx; omega
          simp only [before_, hjl, cond_false] at hb
          exact hbehind j oj hoj hb
    let σL : St := { n := σ.n, t := (o.looksAt ops).map fun t => (t, getT (S i).t t), h := c.h }
    have hL : RelT c σL a := ⟨i3, i4, rfl, fun t => by
      show VR c (getT ((o.looksAt ops).map fun t => (t, getT (S i).t t)) t) _
      rw [getT_live (fun t => getT (S i).t t)]
      split
      · rename_i hm; exact hlook t hm
      · exact trivial⟩
    have hLget : ∀ t, t ∈ o.looksAt ops → getT σL.t t = getT (S i).t t := fun t htl => by
      show getT ((o.looksAt ops).map fun t => (t, getT (S i).t t)) t = _
      rw [getT_live (fun t => getT (S i).t t), if_pos htl]
    -- the blocks at i
    have hheap : freeOp TD o.op = false → c.h = (S i).h := by
      intro hf
      rw [k2]
      have hpair : ∀ e oe, ops[e]? = some oe → e ≠ i → quietOp TD pureF oe.op = false → before_ M e i = true := fun e oe hoe hne hq => by
        have := D.pair e i oe o hoe ho hne
        simp only [pairOk, Bool.and_eq_true] at this
        have h2 := this.2
        have hfe : freeOp TD oe.op = false := by
          cases hx : freeOp TD oe.op with
          | false => rfl
          | true => rw [freeOp_quiet hx] at hq; cases hq
        obtain ⟨a1, a2⟩ := freeOp_no hf
        obtain ⟨b1, b2⟩ := freeOp_no hfe
        simp only [hq, a1, b1, lenKeep, newFirst, a2, b2, rowRead_no a2, rowRead_no b2, Bool.false_and, Bool.and_false, Bool.or_self, cond_false] at h2
        exact h2
      rcases Nat.lt_or_ge i k with hik | hik
      · refine hconst k k1 i (by omega) (fun e oe a1 a2 hoe => ?_)
        cases hq : quietOp TD pureF oe.op with
        | true => rfl
        | false =>
          exfalso
          have hle := (k3 e oe hoe hq).2 a2
          rcases Nat.lt_or_ge i e with h6 | h6
          · have hb := hpair e oe hoe (by omega) hq
            have hjl : Nat.blt e i = false := by
              cases hx : Nat.blt e i with
              | false => rfl
              | true => rw [Nat.blt_eq] at hx; omega
            simp only [before_, hjl, cond_false] at hb
            rw [hbehind e oe hoe hb] at hle; cases hle
          · obtain rfl : e = i := by omega
            rw [hun'] at hle; cases hle
      · refine (hconst i (by omega) k hik (fun e oe a1 a2 hoe => ?_)).symm
        cases hq : quietOp TD pureF oe.op with
        | true => rfl
        | false =>
          exfalso
          have hb := hpair e oe hoe (by omega) hq
          have hjl : Nat.blt e i = true := by simpa [Nat.blt_eq] using a2
          simp only [before_, hjl, cond_true] at hb
          have := (k3 e oe hoe hq).1 (hahead e hb)
          omega
    -- the blocks that i looks at
    have hstand : growOp o.op = true → heapFree TD o.op = false → (∃ σ1 : St, σ1.h = (S i).h ∧ (∀ x ∈ o.op.operands, σL.ev x = σ1.ev x) ∧ ∀ κ2, opC TD K o σ1 κ2 = κ2 (val i) (S (i + 1)).h) → ∀ x ∈ o.op.operands, ∀ id ∈ (σL.ev x).ids, ∀ en, fitE o.op en = true → getE (S i).h id = en → getE c.h id = en := by
      intro hg a1 ⟨σ1, su1, su2, su3⟩ x hx id hid en hen hge
      have hidc : id < c.h.length := ids_lt (hL.ev x) id hid
      rw [k2] at hidc ⊢
      have hqo : quietOp TD pureF o.op = true := grow_quiet hg
      have hal : en.alive = true := by
        unfold fitE at hen
        cases hlo : lenOp o.op with
        | true => rw [hlo, cond_true] at hen; cases en <;> first | rfl | (simp [E.rowy] at hen; done)
        | false => rw [hlo, cond_false] at hen; exact hen
      have hrowy : rowRead TD ops i o = true → E.rowy en = true := by
        intro hrr
        unfold rowRead at hrr
        rcases Bool.or_eq_true_iff.1 hrr with hrr | hrr
        rcases Bool.or_eq_true_iff.1 hrr with hrr | hrr
        · unfold fitE at hen; rw [hrr, cond_true] at hen; exact hen
        · have := (idx_rowy hrr su3).1 x hx id (by rw [← su2 x hx]; exact hid)
          rw [su1, hge] at this; exact this
        · unfold rowLoad at hrr
          split at hrr
          · rename_i tl t hop
            split at hrr
            · rename_i k hik
              split at hrr
              · rename_i q hqk
                simp only [Bool.and_eq_true] at hrr
                obtain ⟨⟨r1, r2⟩, r3⟩ := hrr
                have hqd : q.dst = some t := by
                  cases hd : q.dst with
                  | none => rw [hd] at r2; cases r2
                  | some d => rw [hd] at r2; rw [Nat.eq_of_beq_eq_true r2]
                have hqg : q.guard = none := by
                  cases hd : q.guard with
                  | none => rfl
                  | some d => rw [hd] at r3; cases r3
                have hxt : x = .tmp t := by
                  rw [hop] at hx
                  simpa [Op.operands] using hx
                subst hxt
                have hqq : quietOp TD pureF q.op = true := by
                  cases hqo2 : q.op <;> rw [hqo2] at r1 <;> first | (simp [rowAddr] at r1; done) | rfl
                have hqh := hquiet k q hqk hqq
                rcases (hstep k q hqk).2.2 with ⟨_, _, _, z1, _⟩ | ⟨σ2, z1, z2, z3, _⟩
                · rw [hqg] at z1; cases z1
                have hv := (idx_rowy r1 z3).2
                have ht2 := (hstep k q hqk).1 t
                rw [hSn k (by omega)] at ht2
                have hget : σL.ev (.tmp t) = getT (S (k + 1)).t t := hLget t (by
                  unfold Oper.looksAt
                  refine List.mem_append_left _ (List.mem_filterMap.2 ⟨.tmp t, ?_, rfl⟩)
                  rw [hop]; simp [Op.operands])
                by_cases htn : t < σ.n
                · rw [if_pos ⟨hqd, htn⟩] at ht2
                  rw [hget, ht2] at hid
                  have := hv id hid
                  rw [z2, ← hqh, hge] at this
                  exact this
                · exfalso
                  have hund : a.tmps.getD t undef = undef := by simp [show ¬ t < a.tmps.size from by rw [i3]; exact htn]
                  have hvr := hL.ev (.tmp t)
                  have hev0 : a.eval (.tmp t) = a.tmps.getD t undef := rfl
                  rw [hev0, hund] at hvr
                  obtain ⟨od, oop, oty, opos, oaf, ogd⟩ := o
                  simp only at hop
                  subst hop
                  rcases load_ptr su3 with h0 | ⟨id2, ⟨off, h0⟩ | ⟨off, n2, i2, h0⟩⟩
                  · rw [← su2 _ hx] at h0; rw [h0] at hid; cases hid
                  · rw [← su2 _ hx] at h0; rw [h0] at hvr
                    obtain ⟨_, g, _, hp⟩ := (show VR0 c (.ptr id2 off) undef from hvr)
                    cases hp
                  · rw [← su2 _ hx] at h0; rw [h0] at hvr
                    obtain ⟨_, _, g, _, hp⟩ := (show VR0 c (.elt id2 off n2 i2) undef from hvr)
                    cases hp
              · cases hrr
            · cases hrr
          · cases hrr
      have hpair : ∀ e oe, ops[e]? = some oe → e ≠ i → quietOp TD pureF oe.op = false → (i < e ∧ rowRead TD ops i o = true ∧ keepOp rowsF oe.op = true) ∨ addOp addF oe.op = true ∨ before_ M e i = true ∨ (e < i ∧ newOp oe.op = true) := fun e oe hoe hne hq => by
        have := D.pair e i oe o hoe ho hne
        simp only [pairOk, Bool.and_eq_true] at this
        have h2 := this.2
        have hfe : freeOp TD oe.op = false := by
          cases hx : freeOp TD oe.op with
          | false => rfl
          | true => rw [freeOp_quiet hx] at hq; cases hq
        obtain ⟨b1, b2⟩ := freeOp_no hfe
        simp only [hq, a1, b1, lenKeep, newFirst, b2, rowRead_no b2, hg, Bool.false_and, Bool.and_false, Bool.false_or, Bool.or_false, Bool.true_and, Bool.and_true] at h2
        cases hnw : Nat.blt e i && newOp oe.op with
        | true =>
          rw [Bool.and_eq_true] at hnw
          exact .inr (.inr (.inr ⟨by simpa [Nat.blt_eq] using hnw.1, hnw.2⟩))
        | false =>
        rw [hnw] at h2
        cases ha : addOp addF oe.op with
        | true => exact .inr (.inl rfl)
        | false =>
          cases hlo : rowRead TD ops i o with
          | false =>
            right; right; left
            simp only [ha, hlo, Bool.and_false, Bool.false_and, Bool.or_self, cond_false] at h2
            exact h2
          | true =>
            cases hk : keepOp rowsF oe.op with
            | false =>
              right; right; left
              simp only [ha, hk, Bool.and_false, Bool.or_self, cond_false] at h2
              exact h2
            | true =>
              cases hb : Nat.blt i e with
              | false =>
                right; right; left
                simp only [ha, hb, Bool.false_and, Bool.or_self, cond_false] at h2
                exact h2
              | true => left; exact ⟨by simpa [Nat.blt_eq] using hb, rfl, rfl⟩
      rcases Nat.lt_or_ge i k with hik | hik
      · have step : ∀ q, i ≤ q → q ≤ k → getE (S q).h id = en := by
          intro q
          induction q with
          | zero => intro h1 _; obtain rfl : i = 0 := by omega
                    exact hge
          | succ q ih =>
            intro h1 h2
            rcases Nat.lt_or_ge q i with h3 | h3
            · obtain rfl : i = q + 1 := by omega
              exact hge
            have hprev := ih h3 (by omega)
            have hoe : ops[q]? = some ops[q] := by simp
            cases hq : quietOp TD pureF (ops[q]).op with
            | true => rw [hquiet q _ hoe hq]; exact hprev
            | false =>
              have hne : q ≠ i := fun e => by
                subst e
                rw [ho] at hoe; injection hoe with hoe
                rw [← hoe, hqo] at hq; cases hq
              rcases hpair q _ hoe hne hq with ⟨_, hlo, hk⟩ | ha | hb | ⟨hb, _⟩
              · have hrw : E.rowy en = true := hrowy hlo
                rcases (hstep q _ hoe).2.2 with ⟨_, _, _, _, _, _, _, s6⟩ | ⟨σ1, _, s2, s3, _⟩
                · rw [s6]; exact hprev
                · exact opC_keep hw hk s3 id en hrw (by rw [s2]; exact hprev)
              · rcases (hstep q _ hoe).2.2 with ⟨_, _, _, _, _, _, _, s6⟩ | ⟨σ1, _, s2, s3, _⟩
                · rw [s6]; exact hprev
                · obtain ⟨news, hn⟩ := opC_add hadd ha s3
                  rw [hn, s2, getE_append_lt (alive_lt (by rw [hprev]; exact hal))]
                  exact hprev
              · exfalso
                have hle := (k3 q _ hoe hq).2 (by omega)
                have hjl : Nat.blt q i = false := by
                  cases hx : Nat.blt q i with
                  | false => rfl
                  | true => rw [Nat.blt_eq] at hx; omega
                simp only [before_, hjl, cond_false] at hb
                rw [hbehind q _ hoe hb] at hle; cases hle
              · omega
        exact step k (by omega) (Nat.le_refl _)
      · have step : ∀ q, k ≤ q → q ≤ i → NewH (S k).h (S q).h := by
          intro q
          induction q with
          | zero => intro h1 _; obtain rfl : k = 0 := by omega
                    exact NewH.refl _
          | succ q ih =>
            intro h1 h2
            rcases Nat.lt_or_ge q k with h3 | h3
            · obtain rfl : k = q + 1 := by omega
              exact NewH.refl _
            have hprev := ih h3 (by omega)
            have hoe : ops[q]? = some ops[q] := by simp
            cases hq : quietOp TD pureF (ops[q]).op with
            | true => rw [hquiet q _ hoe hq]; exact hprev
            | false =>
              have hne : q ≠ i := by omega
              rcases hpair q _ hoe hne hq with ⟨h9, _⟩ | ha | hb | ⟨_, hnw⟩
              · omega
              · rcases (hstep q _ hoe).2.2 with ⟨_, _, _, _, _, _, _, s6⟩ | ⟨σ1, _, s2, s3, _⟩
                · rw [s6]; exact hprev
                · obtain ⟨n2, hn⟩ := opC_add hadd ha s3
                  rw [s2] at hn
                  rw [hn]
                  exact hprev.trans (NewH.app _ _)
              · exfalso
                have hjl : Nat.blt q i = true := by rw [Nat.blt_eq]; omega
                simp only [before_, hjl, cond_true] at hb
                have := (k3 q _ hoe hq).1 (hahead q hb)
                omega
              · rcases (hstep q _ hoe).2.2 with ⟨_, _, _, _, _, _, _, s6⟩ | ⟨σ1, _, s2, s3, _⟩
                · rw [s6]; exact hprev
                · have hn := opC_new hnw s3
                  rw [s2] at hn
                  exact hprev.trans hn
        exact (step i hik (Nat.le_refl _)).2 id en hal hidc hge
    -- the state behind i
    have hnext : ∀ (x : Value) (c' : Cx), Ext c c' → Rel c' → VR c' (val i) x → (freeOp TD o.op = true → c'.h = c.h) → (freeOp TD o.op = false → c'.h = (S (i + 1)).h) → Inv (L.setIfInBounds i true) (a.put o.dst x) c' := by
      intro x c' e1 e2 e3 e4 e5
      have hiL : i < L.size := by omega
      have hset : ∀ j, (L.setIfInBounds i true).getD j false = if j = i then true else L.getD j false := fun j => by
        by_cases hj : j = i
        · subst hj; simp [hiL]
        · have : ¬ i = j := fun e => hj e.symm
          simp [hj, Array.getElem?_setIfInBounds_ne this]
      have hdst : ∀ j oj t, ops[j]? = some oj → j ≠ i → oj.dst = some t → o.dst ≠ some t := fun j oj t hoj hne h1 h2 => by
        have := D.pair j i oj o hoj ho hne
        simp only [pairOk, Bool.and_eq_true] at this
        have h3 := this.1.1
        rw [h1, h2] at h3
        simp [nbeq_self] at h3
      have hput : ∀ t, o.dst ≠ some t → (a.put o.dst x).tmps.getD t undef = a.tmps.getD t undef := fun t hne => by
        cases hd : o.dst with
        | none => rfl
        | some d =>
          have : d ≠ t := fun e => hne (by rw [hd, e])
          simp [Act.put, Array.getElem?_setIfInBounds_ne this]
      have hsz : (a.put o.dst x).tmps.size = σ.n := by cases hd : o.dst <;> simp [Act.put, i3]
      have hdf : (a.put o.dst x).defers = [] := by cases hd : o.dst <;> simp [Act.put, i4]
      refine ⟨i1.trans e1, e2, hsz, hdf, by simpa using i5, fun j oj hoj hl e he hb => ?_, fun t j oj hoj hdj htn hl => ?_, fun t hall => ?_, ?_⟩
      · rw [hset]
        by_cases h1 : e.on = i
        · rw [if_pos h1]
        · rw [if_neg h1]
          rw [hset] at hl
          by_cases h2 : j = i
          · subst h2
            rw [ho] at hoj; cases hoj
            exact hpre e he hb
          · rw [if_neg h2] at hl; exact i6 j oj hoj hl e he hb
      · rw [hset] at hl
        by_cases h2 : j = i
        · subst h2
          rw [ho] at hoj; cases hoj
          have hlt' : t < a.tmps.size := by omega
          have : (a.put o.dst x).tmps.getD t undef = x := by rw [hdj]; simp [Act.put, hlt']
          rw [this]; exact e3
        · rw [if_neg h2] at hl
          rw [hput t (hdst j oj t hoj h2 hdj)]
          exact e1.vr (i7 t j oj hoj hdj htn hl)
      · have h3 : ¬ (o.dst = some t ∧ t < σ.n) := fun ⟨h4, h5⟩ => by
          have := hall i o ho h4 h5
          rw [hset, if_pos rfl] at this; cases this
        have hsame : (a.put o.dst x).tmps.getD t undef = a.tmps.getD t undef := by
          by_cases h4 : o.dst = some t
          · have h5 : a.tmps.size ≤ t := by
              rcases Nat.lt_or_ge t σ.n with h6 | h6
              · exact absurd ⟨h4, h6⟩ h3
              · omega
            rw [h4]
            simp [Act.put, Array.setIfInBounds_eq_of_size_le h5]
          · exact hput t h4
        rw [hsame]
        refine e1.vr (i8 t (fun j oj hoj h4 h5 => ?_))
        have := hall j oj hoj h4 h5
        rw [hset] at this
        by_cases h2 : j = i
        · rw [if_pos h2] at this; cases this
        · rw [if_neg h2] at this; exact this
      · cases hq : quietOp TD pureF o.op with
        | true =>
          refine ⟨k, k1, ?_, fun e oe hoe hqe => ?_⟩
          · cases hf : freeOp TD o.op with
            | true => rw [e4 hf]; exact k2
            | false => rw [e5 hf, hquiet i o ho hq, ← hheap hf]; exact k2
          · rw [hset]
            by_cases h2 : e = i
            · subst h2
              rw [ho] at hoe; cases hoe
              rw [hq] at hqe; cases hqe
            · rw [if_neg h2]; exact k3 e oe hoe hqe
        | false =>
          have hf : freeOp TD o.op = false := by
            cases hx : freeOp TD o.op with
            | false => rfl
            | true => rw [freeOp_quiet hx] at hq; cases hq
          refine ⟨i + 1, by omega, e5 hf, fun e oe hoe hqe => ?_⟩
          rw [hset]
          by_cases h2 : e = i
          · subst h2; simp
          · rw [if_neg h2]
            have hfe : freeOp TD oe.op = false := by
              cases hx : freeOp TD oe.op with
              | false => rfl
              | true => rw [freeOp_quiet hx] at hqe; cases hqe
            obtain ⟨a1, a2⟩ := freeOp_no hf
            obtain ⟨b1, b2⟩ := freeOp_no hfe
            have hb : before_ M e i = true := by
              have := D.pair e i oe o hoe ho h2
              simp only [pairOk, Bool.and_eq_true] at this
              have h3 := this.2
              simp only [hq, hqe, a1, b1, lenKeep, newFirst, a2, b2, rowRead_no a2, rowRead_no b2, Bool.false_and, Bool.and_false, Bool.or_self, cond_false] at h3
              exact h3
            rcases Nat.lt_or_ge e i with h6 | h6
            · have hjl : Nat.blt e i = true := by simpa [Nat.blt_eq] using h6
              simp only [before_, hjl, cond_true] at hb
              exact ⟨fun _ => by omega, fun _ => hahead e hb⟩
            · have hjl : Nat.blt e i = false := by
                cases hx : Nat.blt e i with
                | false => rfl
                | true => rw [Nat.blt_eq] at hx; omega
              simp only [before_, hjl, cond_false] at hb
              rw [hbehind e oe hoe hb]
              exact ⟨fun h => (by cases h), fun h => (by omega)⟩
    unfold wpOp
    simp only [ho]
    have hlookg : ∀ g want t, o.guard = some (g, want) → (ops[g]?).bind (·.dst) = some t → t ∈ o.looksAt ops := fun g want t h1 h2 => by
      unfold Oper.looksAt
      rw [h1]
      simp [h2]
    rcases (hstep i o ho).2.2 with ⟨g, want, t, s1, s2, s3, s5, s6⟩ | ⟨σ1, s1, s2, s3, s4⟩
    · -- passed by
      have hw : Region.wanted o (yielded ops a.tmps) = false := by
        rcases s3 with s3 | ⟨b, s3, s4⟩
        · exact guard_no hL s1 s2 (by rw [hLget t (hlookg g want t s1 s2)]; exact s3)
        · exact (guard_ok hL s1 s2 (by rw [hLget t (hlookg g want t s1 s2)]; exact s3)).trans s4
      rw [hw, if_neg (by decide)]
      refine hN _ c (hnext undef c (Ext.refl c) i2 (by rw [s5]; exact vr_undef) (fun _ => rfl) (fun hf => ?_))
      rw [s6]; exact hheap hf
    · -- carried out
      have hw : Region.wanted o (yielded ops a.tmps) = true := by
        rcases s4 with s4 | ⟨g, want, t, b, q1, q2, q3, q4⟩
        · unfold Region.wanted; rw [s4]
        · rw [guard_ok hL q1 q2 (by rw [hLget t (hlookg g want t q1 q2)]; exact q3)]; exact q4
      rw [hw, if_pos rfl]
      left
      have hev : ∀ x ∈ o.op.operands, σL.ev x = σ1.ev x := fun x hx => by
        cases x with
        | tmp t =>
          have htl : t ∈ o.looksAt ops := List.mem_append_left _ (List.mem_filterMap.2 ⟨.tmp t, by simpa using hx, rfl⟩)
          show getT σL.t t = getT σ1.t t
          rw [hLget t htl, s1 t]
        | _ => rfl
      cases hf : freeOp TD o.op with
      | false =>
        have hh : σL.h = σ1.h := by rw [s2]; exact hheap hf
        have hop : ∀ κ2, opC TD K o σL κ2 = κ2 (val i) (S (i + 1)).h := fun κ2 => (opC_congr hh hev).trans (s3 κ2)
        classical
        refine opC_wp hT hK (r := (val i, (S (i + 1)).h)) (κ := fun v h => if v = val i ∧ h = (S (i + 1)).h then some (val i, (S (i + 1)).h) else none) ((hop _).trans (by simp)) i2 hL (fun v c' x hk e1 e2 e3 => ?_)
        split at hk
        · rename_i hv
          obtain ⟨hv1, hv2⟩ := hv
          subst hv1
          exact hN _ c' (hnext x c' e1 e2 e3 (fun h => by rw [hf] at h; cases h) (fun _ => hv2))
        · cases hk
      | true =>
        have hop : ∀ κ2, opC TD K o σL κ2 = κ2 (val i) c.h := fun κ2 => by
          cases hh : heapFree TD o.op with
          | true =>
            rw [opC_free hh (S i).h]
            have hc := opC_congr (TD := TD) (K := K) (o := o) (σ := { σL with h := (S i).h }) (σ' := σ1) (κ := fun v _ => κ2 v σL.h) s2.symm hev
            rw [hc, s3]
          | false =>
            have hlo : growOp o.op = true := by simpa [freeOp, hh] using hf
            have hs : opC TD K o { σL with h := (S i).h } (fun v h => some (v, h)) = some (val i, (S (i + 1)).h) :=
              (opC_congr (TD := TD) (K := K) (o := o) (σ := { σL with h := (S i).h }) (σ' := σ1) s2.symm hev).trans (s3 _)
            exact opC_grow (σ := { σL with h := (S i).h }) hlo (h2 := c.h) (fun x hx id hid => hstand hlo hh ⟨σ1, s2, hev, s3⟩ x hx id (by rw [ev_heap] at hid; exact hid)) hs κ2
        classical
        refine opC_wp hT hK (r := (val i, c.h)) (κ := fun v h => if v = val i ∧ h = c.h then some (val i, c.h) else none) ((hop _).trans (by simp)) i2 hL (fun v c' x hk e1 e2 e3 => ?_)
        split at hk
        · rename_i hv
          obtain ⟨hv1, hv2⟩ := hv
          subst hv1
          exact hN _ c' (hnext x c' e1 e2 e3 (fun _ => hv2) (fun h => by rw [hf] at h; cases h))
        · cases hk
  -- all orders
  have hnone : ∀ (L : Array Bool), L.size = ops.size → Region.ready .any ops L = [] → ∀ j, j < ops.size → L.getD j false = true := by
    intro L hLs hre j
    induction j using Nat.strongRecOn with
    | _ j ih =>
      intro hj
      cases hl : L.getD j false with
      | true => rfl
      | false =>
        exfalso
        have ho : ops[j]? = some ops[j] := by simp
        have : j ∈ Region.ready .any ops L := by
          refine mem_ready.2 ⟨?_, _, ho, fun e he hb => ?_⟩
          · have : j < L.size := by omega
            simp [this] at hl ⊢; exact hl
          · have hlt := D.lt j _ ho e he hb
            exact ih e.on hlt (by omega)
        rw [hre] at this; cases this
  have hall : ∀ (fuel : Nat) (L : Array Bool) (a : Act) (c : Cx), Inv L a c → ((List.range ops.size).filter fun j => !L.getD j false).length ≤ fuel → wpAny P .any ops Q fuel L a c.w := by
    intro fuel
    induction fuel with
    | zero =>
      intro L a c hI hc
      have hall : ∀ j, j < ops.size → L.getD j false = true := fun j hj => by
        have h0 : (List.range ops.size).filter (fun j => !L.getD j false) = [] := List.eq_nil_of_length_eq_zero (by omega)
        rw [List.filter_eq_nil_iff] at h0
        have := h0 j (List.mem_range.2 hj)
        simpa using this
      refine ⟨?_, hend L a c hI hall⟩
      cases hre : Region.ready .any ops L with
      | nil => rfl
      | cons i rs =>
        have hi : i ∈ Region.ready .any ops L := by rw [hre]; simp
        obtain ⟨h1, o, ho, _⟩ := mem_ready.1 hi
        have hlt := (Array.getElem?_eq_some_iff.1 ho).1
        have h2 := hall i hlt
        have h3 : i < L.size := by have := hI.2.2.2.2.1; omega
        simp [h3] at h1 h2
        rw [h2] at h1; cases h1
    | succ fuel ih =>
      intro L a c hI hc
      have hLs := hI.2.2.2.2.1
      refine ⟨fun hre => hend L a c hI (hnone L hLs hre), fun i hi => ?_⟩
      refine hone L a c hI i hi _ (fun a' c' hI' => ih _ a' c' hI' ?_)
      obtain ⟨h1, o, ho, _⟩ := mem_ready.1 hi
      have hlt := (Array.getElem?_eq_some_iff.1 ho).1
      have h3 : i < L.size := by omega
      have hun : L.getD i false = false := by simp [h3] at h1 ⊢; exact h1
      have hset : ∀ j, (L.setIfInBounds i true).getD j false = if j = i then true else L.getD j false := fun j => by
        by_cases hj : j = i
        · subst hj; simp [h3]
        · have : ¬ i = j := fun e => hj e.symm
          simp [hj, Array.getElem?_setIfInBounds_ne this]
      have hf : (List.range ops.size).filter (fun j => !(L.setIfInBounds i true).getD j false) = ((List.range ops.size).filter fun j => !L.getD j false).filter fun j => !(Nat.beq j i) := by
        rw [List.filter_filter]
        refine List.filter_congr (fun j _ => ?_)
        rw [hset]
        by_cases hj : j = i
        · subst hj; simp [nbeq_self]
        · simp [hj, nbeq_ne hj]
      rw [hf]
      have : (((List.range ops.size).filter fun j => !L.getD j false).filter fun j => !(Nat.beq j i)).length < ((List.range ops.size).filter fun j => !L.getD j false).length := by
        rw [List.length_filter_lt_length_iff_exists]
        exact ⟨i, List.mem_filter.2 ⟨List.mem_range.2 hlt, by rw [hun]; rfl⟩, by simp [nbeq_self]⟩
      omega
  have hI0 : Inv (Array.replicate ops.size false) a c := by
    refine ⟨hE, hr, ht.size, ht.defers, by simp, fun j o ho hl => ?_, fun t j o ho hdj htn hl => ?_, fun t _ => ht.t t, 0, Nat.zero_le _, ?_, fun e o ho hq => ?_⟩
    · have := (Array.getElem?_eq_some_iff.1 ho).1
      simp [this] at hl
    · have := (Array.getElem?_eq_some_iff.1 ho).1
      simp [this] at hl
    · rw [hS0]; exact ht.h.symm
    · have := (Array.getElem?_eq_some_iff.1 ho).1
      simp [this]
  have hIw : Inv (Array.replicate ops.size false) a c.drew := by
    obtain ⟨j1, j2, j3, j4, j5, j6, j7, j8, j9⟩ := hI0
    exact ⟨j1.trans (ext_drew c), rel_drew j2, j3, j4, j5, j6, fun t j o a1 a2 a3 a4 => (ext_drew c).vr (j7 t j o a1 a2 a3 a4), fun t h => (ext_drew c).vr (j8 t h), j9⟩
  refine hall ops.size _ a _ hIw ?_
  exact Nat.le_trans (List.length_filter_le _ _) (by simp)
end

end Go.Proofs.Ytcckjofnglbbeaa.D
/- Calls by what is known of the callee. Conditions: those of each theorem. -/
namespace Go.Proofs.Ytcckjofnglbbeaa.D
open Go.RowKit
set_option linter.unusedVariables false
set_option linter.unusedSimpArgs false

def V.outs (v : V) : Prop := v.out1 = true ∨ ∃ vs, v = .tup vs ∧ vs.all V.out1 = true

/-- What is told of a function is true of every call of it. -/
def FnOk (P : Program) (f : FuncId) (sp : List V → List E → (V → List E → R) → R) : Prop :=
  ∀ args κ r (c : Cx) (cargs : Array Value), sp args c.h κ = some r → Rel c → ArgsR c args cargs.toList →
    Calls P f cargs c.w fun e w' => ∃ x v c', e = .returned x ∧ κ v c'.h = some r ∧ Ext c c' ∧ Rel c' ∧ VR c' v x ∧ c'.w = w' ∧ v.outs ∧ c'.h.all E.out = true

theorem FnOk.of {P : Program} {TD : TypeId → Option TI} {K : FuncId → List V → List E → (V → List E → R) → R} {ann : Nat → List Nat × List Nat} {drawOk : Array Oper → Bool}
    (hT : TyOk P TD) (hK : KOk P K) (hD : DrawOk P TD K drawOk) {f : FuncId} {fn : Func} (hf : P.funcs[f]? = some fn) {sp : List V → List E → (V → List E → R) → R}
    (h : ∀ args h κ r, sp args h κ = some r → ∃ fuel, funC TD K ann drawOk fuel fn args h κ = some r) : FnOk P f sp := by
  intro args κ r c cargs hs hr ha
  obtain ⟨fuel, hfn⟩ := h args c.h κ r hs
  exact (funC_calls hT hK hD hf hfn hr ha).mono fun e w' ⟨x, v, c', h1, h2, h3, h4, h5, h6, h7, h8⟩ => ⟨x, v, c', h1, h2, h3, h4, h5, h6, h7, h8⟩

/-! The callee's view of the caller's state. -/
def Cx.into (c : Cx) (ids : List Nat) : Cx :=
  ⟨fun b => c.F b ∨ (c.U b ∧ ∀ j, j < ids.length → blk (c.hv (ids.getD j 0)) ≠ some b), ids.map (getE c.h), fun j => c.hv (ids.getD j 0), c.w⟩

theorem into_get {c : Cx} {ids : List Nat} {j : Nat} (hj : j < ids.length) : getE (c.into ids).h j = getE c.h (ids.getD j 0) := by
  simp [Cx.into, getE, List.getD, hj]
theorem into_U {c : Cx} {ids : List Nat} {b : Nat} (h : (c.into ids).U b) : c.U b ∧ ∃ j, j < ids.length ∧ blk (c.hv (ids.getD j 0)) = some b := by
  obtain ⟨j, ha, hb⟩ := h
  have hj : j < ids.length := by have := alive_lt ha; simpa [Cx.into] using this
  rw [into_get hj] at ha
  exact ⟨⟨_, ha, hb⟩, j, hj, hb⟩

theorem into_rowV {c : Cx} {ids : List Nat} {xs : List Int} {v : Value} (h : RowV c xs v) : RowV (c.into ids) xs v := by
  obtain ⟨a, cap, rfl, hc, h0⟩ := h
  refine ⟨a, cap, rfl, hc, ?_⟩
  rcases h0 with h0 | ⟨b, off, ha, hF, hU, hcell⟩
  · exact .inl h0
  · exact .inr ⟨b, off, ha, fun hf => hf.elim hF (fun h => hU h.1), fun hu => hU (into_U hu).1, hcell⟩
theorem into_atom {c : Cx} {ids : List Nat} {a : Atom} {v : Value} (h : AtomR c a v) : AtomR (c.into ids) a v := by
  cases a <;> first | exact h | exact into_rowV h

/-- A list seen, away from the blocks that are handed over. -/
theorem into_seen {c : Cx} {ids : List Nat} {l : L} {v : Value} (h : Seen c l v) (hU : ∀ g, blk v = some g → l.len ≠ 0 → ¬ (c.into ids).U g) : RoR (c.into ids) false l v := by
  obtain ⟨a, cap, rfl, hc, h0⟩ := h
  refine ⟨a, cap, rfl, hc, ?_⟩
  rcases h0 with h0 | ⟨b, off, rfl, hcell⟩
  · exact .inl h0
  · rcases Nat.eq_zero_or_pos l.len with hz | hp
    · exact .inl hz
    · refine .inr ⟨b, off, rfl, fun h => (by cases h), hU b rfl (by omega), fun j hj => ?_⟩
      obtain ⟨y, hy, hya⟩ := hcell j hj
      exact ⟨y, hy, into_atom hya⟩

/-- The cells that may be handed over. -/
def plainCells (vs : List V) : Bool := vs.all fun v => v.ids0.isEmpty && v.flat && v.out0

theorem into_plain {c : Cx} {ids : List Nat} {v : V} {x : Value} (hp : (v.ids0.isEmpty && v.flat && v.out0) = true) (h : VR0 c v x) : VR0 (c.into ids) v x := by
  simp only [Bool.and_eq_true] at hp
  cases v with
  | ro s l =>
    have hs : s = true := hp.2
    subst hs
    obtain ⟨a, cap, rfl, hc, h0⟩ := h
    refine ⟨a, cap, rfl, hc, ?_⟩
    rcases h0 with h0 | ⟨b, off, ha, hF, hU, hcell⟩
    · exact .inl h0
    · refine .inr ⟨b, off, ha, fun _ hf => hf.elim (hF rfl) (fun h => hU h.1), fun hu => hU (into_U hu).1, fun j hj => ?_⟩
      obtain ⟨y, hy, hya⟩ := hcell j hj
      exact ⟨y, hy, into_atom hya⟩
  | own id => simp [V.ids0] at hp
  | sub id o n => simp [V.ids0] at hp
  | ptr id o => simp [V.ids0] at hp
  | ref a => simp [V.out0] at hp
  | rref n xs o => simp [V.out0] at hp
  | recs s n xs =>
    have hs : s = true := hp.2
    subst hs
    obtain ⟨hn, a, m, cap, rfl, hl, hc, h0⟩ := h
    refine ⟨hn, a, m, cap, rfl, hl, hc, ?_⟩
    rcases h0 with h0 | ⟨b, off, ha, hF, hU, hcell⟩
    · exact .inl h0
    · exact .inr ⟨b, off, ha, fun _ hf => hf.elim (hF rfl) (fun h => hU h.1), fun hu => hU (into_U hu).1, hcell⟩
  | elt id o n i => simp [V.ids0] at hp
  | agg vs => exact h.elim
  | tup vs => exact h.elim
  | _ => exact h

/-- The blocks handed over: different ones, each of plain cells, or a row. -/
structure Handed1 (c : Cx) (ids : List Nat) : Prop where
  nodup : ids.Nodup
  lt : ∀ i ∈ ids, i < c.h.length
  cells : ∀ i ∈ ids, (∃ vs, getE c.h i = .cells vs ∧ plainCells vs = true) ∨ ∃ l, getE c.h i = .row l

theorem Handed1.alive {c : Cx} {ids : List Nat} (h : Handed1 c ids) {i : Nat} (hi : i ∈ ids) : (getE c.h i).alive = true := by
  rcases h.cells i hi with ⟨vs, hvs, _⟩ | ⟨l, hl⟩
  · rw [hvs]; rfl
  · rw [hl]; rfl
theorem Handed1.more {c : Cx} {ids : List Nat} (hh : Handed1 c ids) {id : Nat} (hid : id < c.h.length) (hany : ids.any (Nat.beq id) = false) (hc : (∃ vs, getE c.h id = .cells vs ∧ plainCells vs = true) ∨ ∃ l, getE c.h id = .row l) : Handed1 c (ids ++ [id]) := by
  have hnot : id ∉ ids := fun hm => by
    have : ids.any (Nat.beq id) = true := List.any_eq_true.2 ⟨id, hm, by simp [Nat.beq_eq]⟩
    rw [this] at hany; cases hany
  refine ⟨?_, fun i hi => ?_, fun i hi => ?_⟩
  · rw [List.nodup_append]
    exact ⟨hh.nodup, by simp, fun p hp q hq e => by
      have hq' : q = id := by simpa using hq
      rw [e, hq'] at hp
      exact hnot hp⟩
  · rcases List.mem_append.1 hi with hi | hi
    · exact hh.lt i hi
    · have : i = id := by simpa using hi
      subst this; exact hid
  · rcases List.mem_append.1 hi with hi | hi
    · exact hh.cells i hi
    · have : i = id := by simpa using hi
      subst this; exact hc
theorem Handed1.at {c : Cx} {ids : List Nat} (h : Handed1 c ids) {j : Nat} (hj : j < ids.length) : ids.getD j 0 ∈ ids := by
  have e : ids.getD j 0 = ids[j] := by simp [List.getD, hj]
  rw [e]; exact List.getElem_mem hj
theorem Handed1.inj {c : Cx} {ids : List Nat} (h : Handed1 c ids) {i j : Nat} (hi : i < ids.length) (hj : j < ids.length) (he : ids.getD i 0 = ids.getD j 0) : i = j := by
  have e1 : ids.getD i 0 = ids[i] := by simp [List.getD, hi]
  have e2 : ids.getD j 0 = ids[j] := by simp [List.getD, hj]
  rw [e1, e2] at he
  have hp := List.pairwise_iff_getElem.1 h.nodup
  rcases Nat.lt_trichotomy i j with h | h | h
  · exact absurd he (hp i j hi hj h)
  · exact h
  · exact absurd he.symm (hp j i hj hi h)

theorem into_rel {c : Cx} (hr : Rel c) {ids : List Nat} (hh : Handed1 c ids) : Rel (c.into ids) := by
  have hlen : ∀ j, j < (c.into ids).h.length ↔ j < ids.length := fun j => by simp [Cx.into]
  have hin : ∀ j, j < ids.length → ids.getD j 0 < c.h.length := fun j hj => hh.lt _ (hh.at hj)
  refine ⟨fun j hj => hr.one _ (hin j ((hlen j).1 hj)), fun j hj => ?_, fun i j b hi hj hbi hbj => ?_, fun b hb => hr.lt b (into_U hb).1, fun b hb => ?_⟩
  · have hj' := (hlen j).1 hj
    rw [into_get hj']
    have he := hr.ent _ (hin j hj')
    rcases hh.cells _ (hh.at hj') with ⟨vs, hvs, hp⟩ | ⟨l, hl⟩
    case inr =>
      rw [hl] at he ⊢
      obtain ⟨e, xs, ho, ha⟩ := he
      refine ⟨e, xs, ho, fun k hk => ?_⟩
      obtain ⟨x, hx, hxa⟩ := ha k hk
      exact ⟨x, hx, into_atom hxa⟩
    rw [hvs] at he ⊢
    obtain ⟨b, e, cs, hv, hg, hs, ha⟩ := he
    refine ⟨b, e, cs, hv, hg, hs, fun k hk => ?_⟩
    obtain ⟨x, hx, hxa⟩ := ha k hk
    exact ⟨x, hx, into_plain (all_getD hp hk) hxa⟩
  · have hi' := (hlen i).1 (alive_lt hi)
    have hj' := (hlen j).1 (alive_lt hj)
    rw [into_get hi'] at hi
    rw [into_get hj'] at hj
    exact hh.inj hi' hj' (hr.inj _ _ b hi hj hbi hbj)
  · rcases hb with hb | ⟨hb, hn⟩
    · exact ⟨(hr.far b hb).1, fun hu => (hr.far b hb).2 (into_U hu).1⟩
    · refine ⟨hr.lt b hb, fun hu => ?_⟩
      obtain ⟨_, j, hj, hbj⟩ := into_U hu
      exact hn j hj hbj

/-- The cells of a struct go over. -/
theorem passVs_ok {rw keep : Bool} {c : Cx} (hr : Rel c) : ∀ (cs : List Nat) (vs : List V) (ids0 : List Nat) (xs : List Value) (us : List V) (ids1 : List Nat),
    passVs rw keep c.h cs vs ids0 = some (us, ids1) → xs.length = vs.length → (∀ j, j < vs.length → VR0 c (vs.getD j .junk) (xs.getD j undef)) → Handed1 c ids0 →
    Handed1 c ids1 ∧ (∃ r, ids1 = ids0 ++ r) ∧ us.length = vs.length ∧ ∀ ids, (∃ r, ids = ids1 ++ r) → Handed1 c ids → (rw = false → (vs.all fun v => v.ids0.all fun id => !ids.any (Nat.beq id)) = true) →
      ∀ j, j < vs.length → VR0 (c.into ids) (us.getD j .junk) (xs.getD j undef) := by
  intro cs
  induction cs with
  | nil =>
    intro vs ids0 xs us ids1 h hl hx hh
    cases vs with
    | nil =>
      simp [passVs] at h
      obtain ⟨rfl, rfl⟩ := h
      exact ⟨hh, ⟨[], by simp⟩, rfl, fun ids _ _ _ j hj => by simp at hj⟩
    | cons v r => simp [passVs] at h
  | cons code cs ih =>
    intro vs ids0 xs us ids1 h hl hx hh
    cases vs with
    | nil => simp [passVs] at h
    | cons v vs =>
      obtain ⟨x, xs, rfl⟩ : ∃ u us, xs = u :: us := by
        cases xs with
        | nil => simp at hl
        | cons u us => exact ⟨u, us, rfl⟩
      have hv : VR0 c v x := by simpa using hx 0 (by simp)
      have hx' : ∀ j, j < vs.length → VR0 c (vs.getD j .junk) (xs.getD j undef) := fun j hj => by simpa using hx (j + 1) (by simpa using hj)
      have hl' : xs.length = vs.length := by simpa using hl
      simp only [passVs] at h
      cases hp : passV rw keep c.h code ids0 v with
      | none => rw [hp] at h; cases h
      | some p =>
        rw [hp] at h
        simp only [Option.map_eq_some_iff] at h
        obtain ⟨⟨us2, i2⟩, h3, h4⟩ := h
        simp at h4
        obtain ⟨rfl, rfl⟩ := h4
        -- the first cell
        have one : Handed1 c p.2 ∧ (∃ r, p.2 = ids0 ++ r) ∧ ∀ ids, (∃ r, ids = p.2 ++ r) → Handed1 c ids → (rw = false → (v.ids0.all fun id => !ids.any (Nat.beq id)) = true) → VR0 (c.into ids) p.1 x := by
          cases v with
          | ro s l =>
            simp only [passV, Option.some.injEq] at hp
            subst hp
            refine ⟨hh, ⟨[], by simp⟩, fun ids _ hids _ => ?_⟩
            obtain ⟨a, cap, rfl, hc, h0⟩ := (show RoR c s l x from hv)
            refine ⟨a, cap, rfl, hc, ?_⟩
            rcases h0 with h0 | ⟨b, off, hab, hF, hU, hcell⟩
            · exact .inl h0
            · refine .inr ⟨b, off, hab, fun hs hf => ?_, fun hu => hU (into_U hu).1, fun j hj => ?_⟩
              · simp only [Bool.and_eq_true] at hs
                exact hf.elim (hF hs.1) (fun h => hU h.1)
              · obtain ⟨z, hz, hza⟩ := hcell j hj
                exact ⟨z, hz, into_atom hza⟩
          | own id =>
            simp only [passV] at hp
            split at hp
            · rename_i l hl2
              obtain ⟨hid, rfl⟩ := (show id < c.h.length ∧ x = c.hv id from hv)
              cases rw with
              | true =>
                rw [cond_true] at hp
                cases hany : ids0.any (Nat.beq id) with
                | true => simp [hany] at hp
                | false =>
                  rw [hany, cond_false, Option.some.injEq] at hp
                  subst hp
                  refine ⟨hh.more hid hany (.inr ⟨l, hl2⟩), ⟨[id], rfl⟩, fun ids ⟨rr, e⟩ hids _ => ?_⟩
                  have hlt : ids0.length < ids.length := by rw [e]; simp
                  have hat : ids.getD ids0.length 0 = id := by rw [e]; simp [List.getD]
                  exact ⟨by simpa [Cx.into] using hlt, by simp only [Cx.into, hat]⟩
              | false =>
                rw [cond_false, Option.some.injEq] at hp
                subst hp
                refine ⟨hh, ⟨[], by simp⟩, fun ids _ hids hno => ?_⟩
                have hno' : ids.any (Nat.beq id) = false := by simpa [V.ids0] using hno rfl
                obtain ⟨hs, h2⟩ := seen_own hr hid hl2
                refine into_seen hs (fun g hg hne hu => ?_)
                obtain ⟨hu1, j, hj, hbj⟩ := into_U hu
                have := hr.inj id (ids.getD j 0) g (by rw [hl2]; rfl) (hids.alive (hids.at hj)) hg hbj
                rw [any_beq.2 (by rw [this]; exact hids.at hj)] at hno'; cases hno'
            · cases hp
          | nil =>
            simp only [passV] at hp
            split at hp
            · rename_i l hl2
              rw [Option.some.injEq] at hp
              subst hp
              refine ⟨hh, ⟨[], by simp⟩, fun ids _ hids _ => ?_⟩
              have e : x = .slice none 0 0 := hv
              subst e
              have hl0 : l.len = 0 := by
                unfold codeL at hl2
                split at hl2 <;> simp at hl2 <;> subst hl2 <;> rfl
              exact ⟨none, 0, by rw [hl0], by omega, .inl hl0⟩
            · cases hp
          | int k n => simp only [passV, Option.some.injEq] at hp; subst hp; exact ⟨hh, ⟨[], by simp⟩, fun ids _ _ _ => hv⟩
          | bool b => simp only [passV, Option.some.injEq] at hp; subst hp; exact ⟨hh, ⟨[], by simp⟩, fun ids _ _ _ => hv⟩
          | str s => simp only [passV, Option.some.injEq] at hp; subst hp; exact ⟨hh, ⟨[], by simp⟩, fun ids _ _ _ => hv⟩
          | _ => simp [passV] at hp
        obtain ⟨o1, ⟨r1, o2⟩, o3⟩ := one
        obtain ⟨e1, ⟨r2, e2⟩, e3, e4⟩ := ih vs p.2 xs us2 i2 h3 hl' hx' o1
        refine ⟨e1, ⟨r1 ++ r2, by rw [e2, o2, List.append_assoc]⟩, by simp [e3], fun ids ⟨r3, he⟩ hids hno j hj => ?_⟩
        have hno1 : rw = false → (v.ids0.all fun id => !ids.any (Nat.beq id)) = true ∧ (vs.all fun v => v.ids0.all fun id => !ids.any (Nat.beq id)) = true := fun hrw => by
          have := hno hrw
          rw [List.all_cons, Bool.and_eq_true] at this
          exact this
        cases j with
        | zero => simpa using o3 ids ⟨r2 ++ r3, by rw [he, e2, List.append_assoc]⟩ hids (fun hrw => (hno1 hrw).1)
        | succ j => simpa using e4 ids ⟨r3, he⟩ hids (fun hrw => (hno1 hrw).2) j (by simpa using hj)
theorem passC_ok {keep : Bool} {c : Cx} (hr : Rel c) : ∀ (ds : List TypeDesc) (args : List V) (ids0 : List Nat) (xs : List Value) (args' : List V) (ids : List Nat),
    passC keep c.h ds args ids0 = some (args', ids) → apartC ds args ids = true → ArgsR c args xs → Handed1 c ids0 →
    Handed1 c ids ∧ (∃ r, ids = ids0 ++ r) ∧ args'.length = args.length ∧ ∀ j, j < args.length → VR (c.into ids) (args'.getD j .junk) (xs.getD j undef) := by
  intro ds
  induction ds with
  | nil =>
    intro args ids0 xs args' ids h hap ha hh
    cases args with
    | nil =>
      simp [passC] at h
      obtain ⟨rfl, rfl⟩ := h
      exact ⟨hh, ⟨[], by simp⟩, rfl, fun j hj => by simp at hj⟩
    | cons v r => simp [passC] at h
  | cons d ds ih =>
    intro args ids0 xs args' ids h hap ha hh
    cases args with
    | nil => simp [passC] at h
    | cons v args =>
      obtain ⟨y, ys, rfl, hy, ha'⟩ := ha.tail
      have hap' : apartC ds args ids = true := by unfold apartC at hap; exact (Bool.and_eq_true_iff.1 hap).2
      -- a value that goes over by itself
      have go : ∀ (u : V), (passC keep c.h ds args ids0).map (fun p => (u :: p.1, p.2)) = some (args', ids) → (Handed1 c ids → VR (c.into ids) u y) →
          Handed1 c ids ∧ (∃ r, ids = ids0 ++ r) ∧ args'.length = (v :: args).length ∧ ∀ j, j < (v :: args).length → VR (c.into ids) (args'.getD j .junk) ((y :: ys).getD j undef) := by
        intro u h2 hu
        simp only [Option.map_eq_some_iff] at h2
        obtain ⟨⟨a2, i2⟩, h3, h4⟩ := h2
        simp at h4
        obtain ⟨rfl, rfl⟩ := h4
        obtain ⟨e1, e2, e3, e4⟩ := ih args ids0 ys a2 i2 h3 hap' ha' hh
        refine ⟨e1, e2, by simp [e3], fun j hj => ?_⟩
        cases j with
        | zero => simpa using hu e1
        | succ j => simpa using e4 j (by simpa using hj)
      -- a row of one's own is not among the blocks that go over
      have away0 : Handed1 c ids → ∀ (id : Nat), ids.any (Nat.beq id) = false → (getE c.h id).alive = true → ∀ g, blk (c.hv id) = some g → ¬ (c.into ids).U g := by
        intro hids id hne hal g hg hu
        obtain ⟨hu1, j, hj, hbj⟩ := into_U hu
        have := hr.inj id (ids.getD j 0) g hal (hids.alive (hids.at hj)) hg hbj
        rw [any_beq.2 (by rw [this]; exact hids.at hj)] at hne; cases hne
      have away : Handed1 c ids → ∀ (id : Nat) (l : L), ids.any (Nat.beq id) = false → getE c.h id = .row l → ∀ g, blk (c.hv id) = some g → ¬ (c.into ids).U g := by
        intro hids id l hne hl g hg hu
        obtain ⟨hu1, j, hj, hbj⟩ := into_U hu
        have := hr.inj id (ids.getD j 0) g (by rw [hl]; rfl) (hids.alive (hids.at hj)) hg hbj
        rw [any_beq.2 (by rw [this]; exact hids.at hj)] at hne; cases hne
      cases v with
      | ro s l =>
        simp only [passC] at h
        refine go _ h (fun hids => ?_)
        obtain ⟨a, cap, rfl, hc, h0⟩ := (show RoR c s l y from hy)
        refine ⟨a, cap, rfl, hc, ?_⟩
        rcases h0 with h0 | ⟨b, off, hab, hF, hU, hcell⟩
        · exact .inl h0
        · refine .inr ⟨b, off, hab, fun hs hf => ?_, fun hu => hU (into_U hu).1, fun j hj => ?_⟩
          · simp only [Bool.and_eq_true] at hs
            exact hf.elim (hF hs.1) (fun h => hU h.1)
          · obtain ⟨z, hz, hza⟩ := hcell j hj
            exact ⟨z, hz, into_atom hza⟩
      | recs s n xs =>
        simp only [passC] at h
        refine go _ h (fun hids => ?_)
        obtain ⟨hn, a, m, cap, rfl, hl, hc, h0⟩ := (show RecR c s n xs y from hy)
        refine ⟨hn, a, m, cap, rfl, hl, hc, ?_⟩
        rcases h0 with h0 | ⟨b, off, hab, hF, hU, hcell⟩
        · exact .inl h0
        · refine .inr ⟨b, off, hab, fun hs hf => ?_, fun hu => hU (into_U hu).1, hcell⟩
          simp only [Bool.and_eq_true] at hs
          exact hf.elim (hF hs.1) (fun h => hU h.1)
      | own id =>
        simp only [passC] at h
        split at h
        · rename_i n xs hl
          cases hrw : rwD d with
          | true => rw [hrw, cond_true] at h; cases h
          | false =>
          rw [hrw, cond_false] at h
          obtain ⟨hid, rfl⟩ := (show id < c.h.length ∧ y = c.hv id from hy)
          have hno : ids.any (Nat.beq id) = false := by
            unfold apartC at hap
            have := (Bool.and_eq_true_iff.1 hap).1
            simpa [hrw] using this
          refine go _ h (fun hids => ?_)
          have he := hr.ent id hid
          rw [hl] at he
          obtain ⟨hn, e, m, hx, ho⟩ := he
          have hal : (getE c.h id).alive = true := by rw [hl]; rfl
          rcases ho.2 with ⟨hv, hm⟩ | ⟨g, cap, cur, hv, _, hg, hnc, hm, hs, ht⟩
          · exact ⟨hn, none, 0, 0, by rw [hv], by rw [hx, hm], Nat.le_refl _, .inl (by rw [hx, hm]; simp)⟩
          · have hbk : blk (c.hv id) = some g := by rw [hv]; rfl
            refine ⟨hn, _, m, cap, hv, hx, hnc, .inr ⟨g, 0, rfl, fun h => (by cases h), away0 hids id hno hal g hbk, fun j hj => ?_⟩⟩
            rw [hv] at ho
            show c.w.cell? _ = _
            rw [Nat.zero_add, ho.cellAt j (by omega), List.getElem?_map, List.getElem?_eq_getElem hj]
            simp [eli, List.getD, hj]
        · rename_i l hl
          obtain ⟨hid, rfl⟩ := (show id < c.h.length ∧ y = c.hv id from hy)
          cases hrw : rwD d with
          | true =>
            rw [hrw, cond_true] at h
            cases hany : ids0.any (Nat.beq id) with
            | true => simp [hany] at h
            | false =>
              rw [hany, cond_false] at h
              simp only [Option.map_eq_some_iff] at h
              obtain ⟨⟨a2, i2⟩, h3, h4⟩ := h
              simp at h4
              obtain ⟨rfl, rfl⟩ := h4
              obtain ⟨e1, ⟨rr, e2⟩, e3, e4⟩ := ih args _ ys a2 i2 h3 hap' ha' (hh.more hid hany (.inr ⟨l, hl⟩))
              refine ⟨e1, ⟨id :: rr, by rw [e2]; simp⟩, by simp [e3], fun j hj => ?_⟩
              cases j with
              | zero =>
                have hlt : ids0.length < i2.length := by rw [e2]; simp
                have hat : i2.getD ids0.length 0 = id := by rw [e2]; simp [List.getD]
                simp only [List.getD_cons_zero]
                exact ⟨by simpa [Cx.into] using hlt, by simp only [Cx.into, hat]⟩
              | succ j => simpa using e4 j (by simpa using hj)
          | false =>
          rw [hrw, cond_false] at h
          have hno : ids.any (Nat.beq id) = false := by
            unfold apartC at hap
            have := (Bool.and_eq_true_iff.1 hap).1
            simpa [hrw] using this
          refine go _ h (fun hids => ?_)
          obtain ⟨hs, h2⟩ := seen_own hr hid hl
          exact into_seen hs (fun g hg hne => away hids id l hno hl g hg)
        · cases h
      | sub id o n =>
        simp only [passC] at h
        split at h
        · rename_i l hl
          obtain ⟨hid, a, cap, rfl, hn, hg, hle, _⟩ := (show VR0 c (.sub id o n) y from hy)
          refine go _ h (fun hids => ?_)
          have hs := list_ok hr (x := .sub id o n) (l := l.cut o n) (by simp [listOf, hl]) (show VR c (.sub id o n) _ from hy)
          refine into_seen hs (fun g hg2 hne => ?_)
          rw [L.cut_len (hle l hl)] at hne
          rcases hg with h2 | ⟨g', hbg, rfl⟩
          · exact absurd h2 hne
          · simp [blk] at hg2
            subst hg2
            refine away hids id l ?_ hl _ hbg
            unfold apartC at hap
            have := (Bool.and_eq_true_iff.1 hap).1
            simpa using this
        · cases h
      | nil =>
        simp only [passC] at h
        split at h
        · rename_i l hl
          refine go _ h (fun hids => ?_)
          have e : y = .slice none 0 0 := hy
          subst e
          have hl0 : l.len = 0 := by
            unfold emptyRow at hl
            split at hl <;> simp at hl <;> subst hl <;> rfl
          exact ⟨none, 0, by rw [hl0], by omega, .inl hl0⟩
        · cases h
      | int k n => simp only [passC] at h; exact go _ h (fun hids => hy)
      | bool b => simp only [passC] at h; exact go _ h (fun hids => hy)
      | str s => simp only [passC] at h; exact go _ h (fun hids => hy)
      | agg vs =>
        -- the cells go over one by one
        have byCells : ∀ (rw : Bool) (cs : List Nat) (q : List V × List Nat), passVs rw keep c.h cs vs ids0 = some q → (passC keep c.h ds args q.2).map (fun p => (V.agg q.1 :: p.1, p.2)) = some (args', ids) →
            (rw = false → rwD d = false) →
            Handed1 c ids ∧ (∃ r, ids = ids0 ++ r) ∧ args'.length = (V.agg vs :: args).length ∧ ∀ j, j < (V.agg vs :: args).length → VR (c.into ids) (args'.getD j .junk) ((y :: ys).getD j undef) := by
          intro rw cs q hq h2 hrwd
          obtain ⟨arr, e, hs, hall⟩ := (show VR1 c (.agg vs) y from hy)
          have hall' : ∀ j, j < vs.length → VR0 c (vs.getD j .junk) (arr.toList.getD j undef) := fun j hj => by
            have := hall j hj
            simpa [Array.getD, List.getD, show j < arr.size by omega] using this
          obtain ⟨b1, ⟨r1, b2⟩, b3, b4⟩ := passVs_ok hr cs vs ids0 arr.toList q.1 q.2 hq (by simpa using hs) hall' hh
          simp only [Option.map_eq_some_iff] at h2
          obtain ⟨⟨a2, i2⟩, h3, h4⟩ := h2
          simp at h4
          obtain ⟨rfl, rfl⟩ := h4
          obtain ⟨e1, ⟨r2, e2⟩, e3, e4⟩ := ih args q.2 ys a2 i2 h3 hap' ha' b1
          refine ⟨e1, ⟨r1 ++ r2, by rw [e2, b2, List.append_assoc]⟩, by simp [e3], fun j hj => ?_⟩
          cases j with
          | zero =>
            have hno : rw = false → (vs.all fun v => v.ids0.all fun id => !i2.any (Nat.beq id)) = true := fun hrw => by
              unfold apartC at hap
              have := (Bool.and_eq_true_iff.1 hap).1
              simpa [hrwd hrw] using this
            have hc := b4 i2 ⟨r2, e2⟩ e1 hno
            simp only [List.getD_cons_zero]
            refine ⟨arr, e, by rw [b3]; exact hs, fun j hj => ?_⟩
            have hj' : j < vs.length := by rw [b3] at hj; exact hj
            have := hc j hj'
            simpa [Array.getD, List.getD, show j < arr.size by omega] using this
          | succ j => simpa using e4 j (by simpa using hj)
        simp only [passC] at h
        split at h
        · rename_i cs
          split at h
          · rename_i q hq
            exact byCells false cs.toList q hq h (fun _ => rfl)
          · cases h
        · rename_i cs rs va
          split at h
          · rename_i q hq
            exact byCells true cs.toList q hq h (fun hf => by cases hf)
          · cases h
        · cases hpl : vs.all fun v => v.ids0.isEmpty && v.flat && v.out0 with
          | false => rw [hpl, cond_false] at h; cases h
          | true =>
            rw [hpl, cond_true] at h
            refine go _ h (fun hids => ?_)
            obtain ⟨cs, e, hs, hall⟩ := (show VR1 c (.agg vs) y from hy)
            exact ⟨cs, e, hs, fun j hj => into_plain (all_getD hpl hj) (hall j hj)⟩
      | ptr id off =>
        cases off with
        | succ off => simp [passC] at h
        | zero =>
          simp only [passC] at h
          cases hany : ids0.any (Nat.beq id) with
          | true => simp [hany] at h
          | false =>
            rw [hany, cond_false] at h
            split at h
            · rename_i vs hvs
              cases hpl : plainCells vs with
              | false =>
                have : (vs.all fun v => v.ids0.isEmpty && v.flat && v.out0) = false := hpl
                rw [this, cond_false] at h; cases h
              | true =>
                have : (vs.all fun v => v.ids0.isEmpty && v.flat && v.out0) = true := hpl
                rw [this, cond_true] at h
                obtain ⟨hid, g, hg, rfl⟩ := (show VR0 c (.ptr id 0) y from hy)
                have hh' : Handed1 c (ids0 ++ [id]) := hh.more hid hany (.inl ⟨vs, hvs, hpl⟩)
                simp only [Option.map_eq_some_iff] at h
                obtain ⟨⟨a2, i2⟩, h3, h4⟩ := h
                simp at h4
                obtain ⟨rfl, rfl⟩ := h4
                obtain ⟨e1, ⟨rr, e2⟩, e3, e4⟩ := ih args _ ys a2 i2 h3 hap' ha' hh'
                refine ⟨e1, ⟨id :: rr, by rw [e2]; simp⟩, by simp [e3], fun j hj => ?_⟩
                cases j with
                | zero =>
                  have hlt : ids0.length < i2.length := by rw [e2]; simp
                  have hat : i2.getD ids0.length 0 = id := by rw [e2]; simp [List.getD]
                  simp only [List.getD_cons_zero]
                  exact ⟨by simpa [Cx.into] using hlt, g, by simp only [Cx.into, hat]; exact hg, rfl⟩
                | succ j => simpa using e4 j (by simpa using hj)
            · cases h
      | _ => simp [passC] at h

end Go.Proofs.Ytcckjofnglbbeaa.D
/- What a call hands back. Conditions: those of each theorem. -/
namespace Go.Proofs.Ytcckjofnglbbeaa.D
open Go.RowKit
set_option linter.unusedVariables false
set_option linter.unusedSimpArgs false

theorem backE_len : ∀ (ids : List Nat) (es h : List E), (backE ids es h).length = h.length := by
  intro ids
  induction ids with
  | nil => intro es h; cases es <;> rfl
  | cons i ids ih =>
    intro es h
    cases es with
    | nil => rfl
    | cons e es => simp only [backE]; rw [ih]; simp
theorem backE_old : ∀ (ids : List Nat) (es h : List E) (i : Nat), i ∉ ids → getE (backE ids es h) i = getE h i := by
  intro ids
  induction ids with
  | nil => intro es h i _; cases es <;> rfl
  | cons k ids ih =>
    intro es h i hi
    cases es with
    | nil => rfl
    | cons e es =>
      simp only [backE]
      have h1 : i ≠ k := fun e => hi (by simp [e])
      have h2 : i ∉ ids := fun e => hi (by simp [e])
      rw [ih es _ i h2]
      have h3 : ¬ k = i := fun e => h1 e.symm
      simp [getE, List.getD, h3]
theorem backE_at : ∀ (ids : List Nat) (es h : List E), ids.Nodup → (∀ i ∈ ids, i < h.length) → es.length = ids.length → ∀ j, j < ids.length → getE (backE ids es h) (ids.getD j 0) = getE es j := by
  intro ids
  induction ids with
  | nil => intro es h _ _ _ j hj; simp at hj
  | cons k ids ih =>
    intro es h hn hl he j hj
    cases es with
    | nil => simp at he
    | cons e es =>
      simp only [backE]
      have hn' := List.nodup_cons.1 hn
      cases j with
      | zero =>
        simp only [List.getD_cons_zero]
        rw [backE_old ids es _ k hn'.1]
        have := hl k (by simp)
        simp [getE, List.getD, this]
      | succ j =>
        simp only [List.getD_cons_succ]
        rw [ih es _ hn'.2 (fun i hi => by simpa using hl i (by simp [hi])) (by simpa using he) j (by simpa using hj)]
        simp [getE]

def Cx.back (c : Cx) (ids : List Nat) (c1 : Cx) : Cx :=
  ⟨c.F, backE ids ((c1.h.take ids.length).map (E.sh ids c.h.length)) c.h ++ (c1.h.drop ids.length).map (E.sh ids c.h.length),
    fun i => if i < c.h.length then c.hv i else c1.hv (ids.length + (i - c.h.length)), c1.w⟩

theorem getE_map_sh (f : E → E) (hf : f .dead = .dead) (h : List E) (i : Nat) : getE (h.map f) i = f (getE h i) := by
  rcases Nat.lt_or_ge i h.length with hi | hi
  · simp [getE, List.getD, hi]
  · rw [getE_out hi, getE_out (by simpa using hi), hf]

section
variable {c c1 : Cx} {ids : List Nat}

theorem back_len (hk : ids.length ≤ c1.h.length) : (c.back ids c1).h.length = c.h.length + (c1.h.length - ids.length) := by
  simp [Cx.back, backE_len]
theorem back_old {i : Nat} (hi : i < c.h.length) (hn : i ∉ ids) : getE (c.back ids c1).h i = getE c.h i := by
  show getE (backE _ _ _ ++ _) i = _
  rw [getE_append_lt (by rw [backE_len]; exact hi), backE_old _ _ _ _ hn]
theorem back_at (hh : Handed1 c ids) (hk : ids.length ≤ c1.h.length) {j : Nat} (hj : j < ids.length) : getE (c.back ids c1).h (ids.getD j 0) = (getE c1.h j).sh ids c.h.length := by
  show getE (backE _ _ _ ++ _) _ = _
  rw [getE_append_lt (by rw [backE_len]; exact hh.lt _ (hh.at hj)), backE_at ids _ _ hh.nodup hh.lt (by simp; omega) j hj, getE_map_sh _ rfl]
  congr 1
  simp [getE, List.getD, List.getElem?_take, hj]
theorem back_new {i : Nat} (hi : c.h.length ≤ i) : getE (c.back ids c1).h i = (getE c1.h (ids.length + (i - c.h.length))).sh ids c.h.length := by
  have hl : (backE ids ((c1.h.take ids.length).map (E.sh ids c.h.length)) c.h).length = c.h.length := backE_len _ _ _
  show getE (backE _ _ _ ++ _) i = _
  have : getE (backE ids ((c1.h.take ids.length).map (E.sh ids c.h.length)) c.h ++ (c1.h.drop ids.length).map (E.sh ids c.h.length)) i = getE ((c1.h.drop ids.length).map (E.sh ids c.h.length)) (i - c.h.length) := by
    simp only [getE, List.getD]
    rw [List.getElem?_append_right (by omega), hl]
  rw [this, getE_map_sh _ rfl]
  congr 1
  simp [getE, List.getD, List.getElem?_drop]

theorem E.sh_alive (e : E) (ids : List Nat) (n : Nat) : (e.sh ids n).alive = e.alive := by cases e <;> rfl
theorem E.sh_same (e : E) (ids : List Nat) (n : Nat) : sameE e (e.sh ids n) = true := by cases e <;> simp [E.sh, sameE]

theorem back_hv (_ : Rel c) (_ : Handed1 c ids) (hE : Ext (c.into ids) c1) (_ : Rel c1) {j : Nat} (hj : j < ids.length) : c.hv (ids.getD j 0) = c1.hv j := by
  have := (hE.ids j (by simpa [Cx.into] using hj)).1
  exact this.symm
theorem back_k (_ : Rel c) (_ : Handed1 c ids) (hE : Ext (c.into ids) c1) (_ : Rel c1) : ids.length ≤ c1.h.length := by have := hE.len; simpa [Cx.into] using this


/-- Where an own block of the caller's new state comes from. -/
theorem back_cases (hr : Rel c) (hh : Handed1 c ids) (hE : Ext (c.into ids) c1) (hr1 : Rel c1) {i : Nat} (ha : (getE (c.back ids c1).h i).alive = true) :
    (i < c.h.length ∧ i ∉ ids ∧ (getE c.h i).alive = true ∧ (c.back ids c1).hv i = c.hv i) ∨
    ∃ j, (getE c1.h j).alive = true ∧ (c.back ids c1).hv i = c1.hv j ∧ ((j < ids.length ∧ i = ids.getD j 0) ∨ (ids.length ≤ j ∧ i = c.h.length + (j - ids.length))) := by
  have hk := back_k hr hh hE hr1
  rcases Nat.lt_or_ge i c.h.length with hi | hi
  · by_cases hm : i ∈ ids
    · right
      obtain ⟨j, hj, hji⟩ := List.getElem_of_mem hm
      have e : ids.getD j 0 = i := by simp [List.getD, hj]; exact hji
      refine ⟨j, ?_, ?_, .inl ⟨hj, e.symm⟩⟩
      · rw [← e, back_at hh hk hj, E.sh_alive] at ha; exact ha
      · rw [← back_hv hr hh hE hr1 hj, e]; simp [Cx.back, hi]
    · left
      rw [back_old hi hm] at ha
      exact ⟨hi, hm, ha, by simp [Cx.back, hi]⟩
  · right
    rw [back_new hi, E.sh_alive] at ha
    exact ⟨_, ha, by have : ¬ i < c.h.length := by omega
                     simp [Cx.back, this], .inr ⟨by omega, by omega⟩⟩

theorem back_U (hr : Rel c) (hh : Handed1 c ids) (hE : Ext (c.into ids) c1) (hr1 : Rel c1) {b : Nat} (h : (c.back ids c1).U b) : (∃ i, i < c.h.length ∧ i ∉ ids ∧ (getE c.h i).alive = true ∧ blk (c.hv i) = some b) ∨ c1.U b := by
  obtain ⟨i, ha, hb⟩ := h
  rcases back_cases hr hh hE hr1 ha with ⟨h1, h2, h3, h4⟩ | ⟨j, h1, h2, _⟩
  · exact .inl ⟨i, h1, h2, h3, by rw [← h4]; exact hb⟩
  · exact .inr ⟨j, h1, by rw [← h2]; exact hb⟩

/-- A block of the caller's own that did not go over is none of the callee's. -/
theorem back_far (hr : Rel c) (hh : Handed1 c ids) (hE : Ext (c.into ids) c1) (hr1 : Rel c1) {i b : Nat} (hm : i ∉ ids) (ha : (getE c.h i).alive = true) (hb : blk (c.hv i) = some b) : (c.into ids).F b ∧ ¬ (c.into ids).U b ∧ ¬ c1.U b := by
  have hF : (c.into ids).F b := by
    refine .inr ⟨⟨i, ha, hb⟩, fun j hj hbj => hm ?_⟩
    have := hr.inj i (ids.getD j 0) b ha (hh.alive (hh.at hj)) hb hbj
    rw [this]; exact hh.at hj
  exact ⟨hF, ((into_rel hr hh).far b hF).2, (hr1.far b (by rw [hE.F]; exact hF)).2⟩

theorem back_ext (hr : Rel c) (hh : Handed1 c ids) (hE : Ext (c.into ids) c1) (hr1 : Rel c1) : Ext c (c.back ids c1) where
  F := rfl
  os := hE.os
  tape := hE.tape
  output := hE.output
  size := hE.size
  block := fun k hk hu => hE.block k hk (fun h => hu (into_U h).1)
  own := fun b hb => by
    rcases back_U hr hh hE hr1 hb with ⟨i, _, _, h1, h2⟩ | h
    · exact .inl ⟨i, h1, h2⟩
    · exact (hE.own b h).imp (fun h => (into_U h).1) id
  len := by rw [back_len (back_k hr hh hE hr1)]; omega
  ids := fun i hi => ⟨by simp [Cx.back, hi], by
    by_cases hm : i ∈ ids
    · obtain ⟨j, hj, hji⟩ := List.getElem_of_mem hm
      have e : ids.getD j 0 = i := by simp [List.getD, hj]; exact hji
      have h1 := (hE.ids j (by simpa [Cx.into] using hj)).2
      rw [into_get hj, e] at h1
      have h2 := back_at hh (back_k hr hh hE hr1) hj
      rw [e] at h2
      rw [h2]
      exact sameE_trans h1 (E.sh_same _ _ _)
    · rw [back_old hi hm]; exact sameE_refl _⟩

theorem back_free (hr : Rel c) (hh : Handed1 c ids) (hE : Ext (c.into ids) c1) (hr1 : Rel c1) {b : Nat} (hF : ¬ c1.F b) (hU : ¬ c1.U b) : ¬ (c.back ids c1).F b ∧ ¬ (c.back ids c1).U b := by
  rw [hE.F] at hF
  refine ⟨fun h => hF (.inl h), fun h => ?_⟩
  rcases back_U hr hh hE hr1 h with ⟨i, _, h1, h2, h3⟩ | h
  · exact hF (back_far hr hh hE hr1 h1 h2 h3).1
  · exact hU h

theorem back_rowV (hr : Rel c) (hh : Handed1 c ids) (hE : Ext (c.into ids) c1) (hr1 : Rel c1) {xs : List Int} {v : Value} (h : RowV c1 xs v) : RowV (c.back ids c1) xs v := by
  obtain ⟨a, cap, rfl, hc, h0⟩ := h
  refine ⟨a, cap, rfl, hc, ?_⟩
  rcases h0 with h0 | ⟨b, off, ha, hF, hU, hcell⟩
  · exact .inl h0
  · have := back_free hr hh hE hr1 hF hU
    exact .inr ⟨b, off, ha, this.1, this.2, hcell⟩
theorem back_atom (hr : Rel c) (hh : Handed1 c ids) (hE : Ext (c.into ids) c1) (hr1 : Rel c1) {a : Atom} {v : Value} (h : AtomR c1 a v) : AtomR (c.back ids c1) a v := by
  cases a <;> first | exact h | exact back_rowV hr hh hE hr1 h

theorem back_map (hr : Rel c) (hh : Handed1 c ids) (hE : Ext (c.into ids) c1) (hr1 : Rel c1) {id : Nat} (hid : id < c1.h.length) : mapId ids c.h.length id < (c.back ids c1).h.length ∧ (c.back ids c1).hv (mapId ids c.h.length id) = c1.hv id ∧
    getE (c.back ids c1).h (mapId ids c.h.length id) = (getE c1.h id).sh ids c.h.length := by
  have hk := back_k hr hh hE hr1
  have hl := back_len (c := c) (c1 := c1) (ids := ids) hk
  by_cases hj : id < ids.length
  · have hb : Nat.blt id ids.length = true := by simpa [Nat.blt_eq] using hj
    have hlt := hh.lt _ (hh.at hj)
    refine ⟨by rw [hl]; simp only [mapId, hb, cond_true]; omega, ?_, ?_⟩
    · simp only [mapId, hb, cond_true]
      rw [← back_hv hr hh hE hr1 hj]
      simp only [Cx.back, hlt, if_true]
    · simp only [mapId, hb, cond_true]
      exact back_at hh hk hj
  · have hb : Nat.blt id ids.length = false := by
      cases hx : Nat.blt id ids.length with
      | false => rfl
      | true => rw [Nat.blt_eq] at hx; omega
    refine ⟨by rw [hl]; simp only [mapId, hb, cond_false]; omega, ?_, ?_⟩
    · simp only [mapId, hb, cond_false, Cx.back]
      have h1 : ¬ (c.h.length + (id - ids.length) < c.h.length) := by omega
      rw [if_neg h1]
      congr 1; omega
    · simp only [mapId, hb, cond_false]
      rw [back_new (by omega)]
      congr 2; omega

theorem back_vr0 (hr : Rel c) (hh : Handed1 c ids) (hE : Ext (c.into ids) c1) (hr1 : Rel c1) {u : V} {v : Value} (ho : u.out0 = true) (h : VR0 c1 u v) : VR0 (c.back ids c1) (u.sh0 ids c.h.length) v := by
  cases u with
  | own id =>
    obtain ⟨h1, h2, h3⟩ := back_map hr hh hE hr1 h.1
    exact ⟨h1, h.2.trans h2.symm⟩
  | sub id o n =>
    obtain ⟨hid, a, cap, rfl, hn, hg, hl, hz⟩ := h
    obtain ⟨h1, h2, h3⟩ := back_map hr hh hE hr1 hid
    refine ⟨h1, a, cap, rfl, hn, by rw [h2]; exact hg, fun l hl' => ?_, fun h0 => by rw [h2]; exact hz h0⟩
    rw [h3] at hl'
    cases he : getE c1.h id with
    | row l2 => rw [he] at hl'; simp [E.sh] at hl'; subst hl'; exact hl l2 he
    | cells vs => rw [he] at hl'; simp [E.sh] at hl'
    | dead => rw [he] at hl'; simp [E.sh] at hl'
    | recs n xs => rw [he] at hl'; simp [E.sh] at hl'
  | ptr id o =>
    obtain ⟨hid, g, hg, rfl⟩ := h
    obtain ⟨h1, h2, h3⟩ := back_map hr hh hE hr1 hid
    exact ⟨h1, g, by rw [h2]; exact hg, rfl⟩
  | ro s l =>
    have hs : s = true := ho
    subst hs
    obtain ⟨a, cap, rfl, hc, h0⟩ := h
    refine ⟨a, cap, rfl, hc, ?_⟩
    rcases h0 with h0 | ⟨b, off, ha, hF, hU, hcell⟩
    · exact .inl h0
    · have := back_free hr hh hE hr1 (hF rfl) hU
      refine .inr ⟨b, off, ha, fun _ => this.1, this.2, fun j hj => ?_⟩
      obtain ⟨x, hx, hxa⟩ := hcell j hj
      exact ⟨x, hx, back_atom hr hh hE hr1 hxa⟩
  | ref a => simp [V.out0] at ho
  | rref n xs o => simp [V.out0] at ho
  | recs s n xs =>
    have hs : s = true := ho
    subst hs
    obtain ⟨hn, a, m, cap, rfl, hl, hc, h0⟩ := h
    refine ⟨hn, a, m, cap, rfl, hl, hc, ?_⟩
    rcases h0 with h0 | ⟨b, off, ha, hF, hU, hcell⟩
    · exact .inl h0
    · have := back_free hr hh hE hr1 (hF rfl) hU
      exact .inr ⟨b, off, ha, fun _ => this.1, this.2, hcell⟩
  | elt id o n i => simp [V.out0] at ho
  | agg vs => exact h.elim
  | tup vs => exact h.elim
  | _ => exact h
theorem back_vr1 (hr : Rel c) (hh : Handed1 c ids) (hE : Ext (c.into ids) c1) (hr1 : Rel c1) {u : V} {v : Value} (ho : u.out1 = true) (h : VR1 c1 u v) : VR1 (c.back ids c1) (u.sh1 ids c.h.length) v := by
  cases u with
  | agg vs =>
    obtain ⟨cs, rfl, hs, ha⟩ := h
    refine ⟨cs, rfl, by simpa using hs, fun j hj => ?_⟩
    have hj' : j < vs.length := by simpa using hj
    have e : (vs.map (V.sh0 ids c.h.length)).getD j .junk = (vs.getD j .junk).sh0 ids c.h.length := by simp [List.getD, hj']
    rw [e]; exact back_vr0 hr hh hE hr1 (all_getD (p := V.out0) ho hj') (ha j hj')
  | tup vs => exact h.elim
  | own id => exact (back_vr0 hr hh hE hr1 (u := .own id) ho h).vr1
  | sub id o n => exact (back_vr0 hr hh hE hr1 (u := .sub id o n) ho h).vr1
  | ptr id o => exact (back_vr0 hr hh hE hr1 (u := .ptr id o) ho h).vr1
  | ro s l => exact (back_vr0 hr hh hE hr1 (u := .ro s l) ho h).vr1
  | ref a => simp [V.out1, V.out0] at ho
  | rref n xs o => simp [V.out1, V.out0] at ho
  | recs s n xs => exact (back_vr0 hr hh hE hr1 (u := .recs s n xs) ho h).vr1
  | elt id o n i => simp [V.out1, V.out0] at ho
  | _ => exact h
theorem back_vr (hr : Rel c) (hh : Handed1 c ids) (hE : Ext (c.into ids) c1) (hr1 : Rel c1) {u : V} {v : Value} (ho : u.outs) (h : VR c1 u v) : VR (c.back ids c1) (u.sh ids c.h.length) v := by
  rcases ho with ho | ⟨vs, rfl, ho⟩
  · have hnt : ∀ ws, u ≠ .tup ws := fun ws e => by subst e; simp [V.out1, V.out0] at ho
    have h1 := back_vr1 hr hh hE hr1 ho ((vr_eq hnt).1 h)
    have e : u.sh ids c.h.length = u.sh1 ids c.h.length := by
      cases u <;> first | rfl | exact absurd rfl (hnt _)
    rw [e]; exact h1.vr
  · obtain ⟨cs, rfl, hs, ha⟩ := h
    refine ⟨cs, rfl, by simpa using hs, fun j hj => ?_⟩
    have hj' : j < vs.length := by simpa using hj
    have e : (vs.map (V.sh1 ids c.h.length)).getD j .junk = (vs.getD j .junk).sh1 ids c.h.length := by simp [List.getD, hj']
    rw [e]; exact back_vr1 hr hh hE hr1 (all_getD (p := V.out1) ho hj') (ha j hj')

theorem back_rel (hr : Rel c) (hh : Handed1 c ids) (hE : Ext (c.into ids) c1) (hr1 : Rel c1) (ho : c1.h.all E.out = true) : Rel (c.back ids c1) := by
  have hk := back_k hr hh hE hr1
  have hX := back_ext hr hh hE hr1
  have hout : ∀ j, (getE c1.h j).out = true := fun j => by
    rcases Nat.lt_or_ge j c1.h.length with hj | hj
    · rw [List.all_eq_true] at ho
      have e : getE c1.h j = c1.h[j] := by simp [getE, List.getD, hj]
      rw [e]; exact ho _ (List.getElem_mem hj)
    · rw [getE_out hj]; rfl
  have conv : ∀ i j, (c.back ids c1).hv i = c1.hv j → Ent c1 j (getE c1.h j) → Ent (c.back ids c1) i ((getE c1.h j).sh ids c.h.length) := by
    intro i j hv he
    have hoj := hout j
    cases hd : getE c1.h j with
    | row l =>
      rw [hd] at he
      obtain ⟨e, xs, ho, ha⟩ := he
      refine ⟨e, xs, by rw [hv]; exact ho, fun k hk => ?_⟩
      obtain ⟨x, hx, hxa⟩ := ha k hk
      exact ⟨x, hx, back_atom hr hh hE hr1 hxa⟩
    | cells vs =>
      rw [hd] at he hoj
      obtain ⟨b, e, cs, hvb, hg, hs, ha⟩ := he
      refine ⟨b, e, cs, by rw [hv]; exact hvb, hg, by simpa using hs, fun k hk => ?_⟩
      have hk' : k < vs.length := by simpa using hk
      obtain ⟨x, hx, hxa⟩ := ha k hk'
      refine ⟨x, hx, ?_⟩
      have e : (vs.map (V.sh0 ids c.h.length)).getD k .junk = (vs.getD k .junk).sh0 ids c.h.length := by simp [List.getD, hk']
      rw [e]; exact back_vr0 hr hh hE hr1 (all_getD (p := V.out0) hoj hk') hxa
    | dead => trivial
    | recs n xs =>
      rw [hd] at he
      obtain ⟨hn, e, m, hx, ho⟩ := he
      exact ⟨hn, e, m, hx, by rw [hv]; exact ho⟩
  refine ⟨fun i hi => ?_, fun i hi => ?_, fun i j b hi hj hbi hbj => ?_, fun b hb => ?_, fun b hb => ?_⟩
  · rcases Nat.lt_or_ge i c.h.length with h | h
    · have e : (c.back ids c1).hv i = c.hv i := by simp [Cx.back, h]
      rw [e]; exact hr.one i h
    · have e : (c.back ids c1).hv i = c1.hv (ids.length + (i - c.h.length)) := by
        have : ¬ i < c.h.length := by omega
        simp [Cx.back, this]
      rw [e]; exact hr1.one _ (by rw [back_len hk] at hi; omega)
  · rcases Nat.lt_or_ge i c.h.length with h | h
    · by_cases hm : i ∈ ids
      · obtain ⟨j, hj, hji⟩ := List.getElem_of_mem hm
        have e : ids.getD j 0 = i := by simp [List.getD, hj]; exact hji
        have h2 := back_at hh hk hj
        rw [e] at h2
        rw [h2]
        exact conv i j (by rw [← back_hv hr hh hE hr1 hj, e]; simp [Cx.back, h]) (hr1.ent j (by omega))
      · rw [back_old h hm]
        by_cases hal : (getE c.h i).alive = true
        · refine (hr.ent i h).keep hX h (fun b hb => ?_)
          exact hE.block b (hr.lt b ⟨i, hal, hb⟩) (back_far hr hh hE hr1 hm hal hb).2.1
        · cases hd : getE c.h i with
          | dead => trivial
          | row l => rw [hd] at hal; exact absurd rfl hal
          | cells vs => rw [hd] at hal; exact absurd rfl hal
          | recs n xs => rw [hd] at hal; exact absurd rfl hal
    · rw [back_new h]
      refine conv i _ ?_ (hr1.ent _ (by rw [back_len hk] at hi; omega))
      have : ¬ i < c.h.length := by omega
      simp [Cx.back, this]
  · rcases back_cases hr hh hE hr1 hi with ⟨a1, a2, a3, a4⟩ | ⟨p, p1, p2, p3⟩ <;> rcases back_cases hr hh hE hr1 hj with ⟨b1, b2, b3, b4⟩ | ⟨q, q1, q2, q3⟩
    · rw [a4] at hbi; rw [b4] at hbj
      exact hr.inj i j b a3 b3 hbi hbj
    · rw [a4] at hbi; rw [q2] at hbj
      exact absurd ⟨q, q1, hbj⟩ (back_far hr hh hE hr1 a2 a3 hbi).2.2
    · rw [b4] at hbj; rw [p2] at hbi
      exact absurd ⟨p, p1, hbi⟩ (back_far hr hh hE hr1 b2 b3 hbj).2.2
    · rw [p2] at hbi; rw [q2] at hbj
      have hpq := hr1.inj p q b p1 q1 hbi hbj
      subst hpq
      rcases p3 with ⟨x1, x2⟩ | ⟨x1, x2⟩ <;> rcases q3 with ⟨y1, y2⟩ | ⟨y1, y2⟩
      · rw [x2, y2]
      · omega
      · omega
      · rw [x2, y2]
  · rcases back_U hr hh hE hr1 hb with ⟨i, h1, h2, h3, h4⟩ | h
    · exact Nat.lt_of_lt_of_le (hr.lt b ⟨i, h3, h4⟩) hE.size
    · exact hr1.lt b h
  · have h1 : c1.F b := by rw [hE.F]; exact .inl hb
    refine ⟨(hr1.far b h1).1, fun hu => ?_⟩
    rcases back_U hr hh hE hr1 hu with ⟨i, _, _, h3, h4⟩ | h
    · exact (hr.far b hb).2 ⟨i, h3, h4⟩
    · exact (hr1.far b h1).2 h
end

/-- A call by what is known of the callee. -/
theorem callC_ok {P : Program} {f : FuncId} {sp : List V → List E → (V → List E → R) → R} (hf : FnOk P f sp) {keep : Bool} {ds : List TypeDesc} {args : List V} {κ : V → List E → R} {r : V × List E} {c : Cx} {cargs : Array Value}
    (h : callC keep ds sp args c.h κ = some r) (hr : Rel c) (ha : ArgsR c args cargs.toList) :
    Calls P f cargs c.w fun e w' => ∃ x v c', e = .returned x ∧ κ v c'.h = some r ∧ Ext c c' ∧ Rel c' ∧ VR c' v x ∧ c'.w = w' := by
  unfold callC at h
  split at h
  · rename_i args' ids hp
    have h0 : Handed1 c [] := ⟨List.nodup_nil, by simp, by simp⟩
    obtain ⟨hh, _, hlen, hall⟩ := passC_ok hr ds args [] _ args' ids (passA_is hp).1 (passA_is hp).2 ha h0
    have harg : ArgsR (c.into ids) args' cargs.toList := ⟨by rw [hlen]; exact ha.1, fun j hj => hall j (by omega)⟩
    refine (hf args' _ r (c.into ids) cargs h (into_rel hr hh) harg).mono ?_
    rintro e w' ⟨x, v, c1, rfl, h2, h3, h4, h5, rfl, h7, h8⟩
    exact ⟨x, v.sh ids c.h.length, c.back ids c1, rfl, h2, back_ext hr hh h3 h4, back_rel hr hh h3 h4 h8, back_vr hr hh h3 h4 h7 h5, rfl⟩
  · cases h

end Go.Proofs.Ytcckjofnglbbeaa.D
/- Small words for twins that are written by program off the translated code. Conditions: none. -/
namespace Go.Proofs.Ytcckjofnglbbeaa.D
open Go.RowKit
set_option linter.unusedVariables false
set_option linter.unusedSimpArgs false

/-- What goes on with an answer, or without one. -/
def optC {α β : Type} (o : Option β) (f : β → α) (fail : α) : α :=
  match o with
  | some b => f b
  | none => fail
def sumC {α β γ : Type} (q : α ⊕ β) (f : α → γ) (g : β → γ) : γ :=
  match q with
  | .inl a => f a
  | .inr b => g b
theorem apply_sumC {α β γ δ : Type} (k : γ → δ) (q : α ⊕ β) (f : α → γ) (g : β → γ) : k (sumC q f g) = sumC q (fun a => k (f a)) (fun b => k (g b)) := by
  cases q <;> rfl
theorem apply_optC {α β γ : Type} (g : α → γ) (o : Option β) (f : β → α) (fail : α) : g (optC o f fail) = optC o (fun b => g (f b)) (g fail) := by
  cases o <;> rfl
theorem apply_cnd {α γ : Type} (g : α → γ) (b : Bool) (x y : α) : g (cond b x y) = cond b (g x) (g y) := by cases b <;> rfl

theorem cnd_congr {α : Type} {b : Bool} {x y x' y' : α} (hx : x = x') (hy : y = y') : cond b x y = cond b x' y' := by rw [hx, hy]
theorem optC_congr {α β : Type} {o : Option β} {f g : β → α} {fail : α} (h : ∀ r, f r = g r) : optC o f fail = optC o g fail := by
  cases o with
  | none => rfl
  | some b => exact h b
theorem optC_law2 {β : Type} {o : Option β} {F : β → (V → List E → R) → R} {κ : V → List E → R} {r : V × List E} (hF : ∀ b κ r, F b κ = some r → ∃ v h', κ v h' = some r ∧ ∀ κ2, F b κ2 = κ2 v h')
    (h : optC o (fun b => F b κ) none = some r) : ∃ v h', κ v h' = some r ∧ ∀ κ2, optC o (fun b => F b κ2) none = κ2 v h' := by
  cases o with
  | none => cases h
  | some b => exact hF b κ r h

/-- How many rounds and calls are granted: more than any here takes. -/
theorem fuel_ex : ∃ n : Nat, 1000000000 ≤ n := ⟨1000000000, Nat.le_refl _⟩
noncomputable def FUEL : Nat := Classical.choose fuel_ex
theorem FUEL_le : 1000000000 ≤ FUEL := Classical.choose_spec fuel_ex

/-- What is done behind the loop with a number. -/
def afterC (TD : TypeId → Option TI) (K : FuncId → List V → List E → (V → List E → R) → R) (ann : Nat → List Nat × List Nat) (drawOk : Array Oper → Bool) (m fuel : Nat) (id : Nat) : Code → (X → St → R) → Option (X → St → R)
  | .seq a b, k =>
    match afterC TD K ann drawOk m fuel id a (seqK ann m b (fun σ => denC TD K ann drawOk m fuel b σ k) k) with
    | some r => some r
    | none => afterC TD K ann drawOk m fuel id b k
  | .cond _ a b, k =>
    match afterC TD K ann drawOk m fuel id a k with
    | some r => some r
    | none => afterC TD K ann drawOk m fuel id b k
  | .block j c, k => afterC TD K ann drawOk m fuel id c (fun x σ' => match x with
      | .exit i => bif Nat.beq i j then k .normal σ' else k (.exit i) σ'
      | x => k x σ')
  | .loop c, k => bif Nat.beq (headId c) id then some k else none
  | _, _ => none
/-- A row of steps, one after the other. -/
def tailsC : Nat → Code → Code
  | 0, c => c
  | n + 1, .seq _ b => tailsC n b
  | _, c => c
def headsC (n : Nat) (c : Code) : Code := match tailsC n c with
  | .seq a _ => a
  | c => c
def finC (TD : TypeId → Option TI) (m : Nat) (fn : Func) (κ : V → List E → R) : X → St → R := fun x σ => match x with
  | .exit _ => none
  | _ => match resAll TD σ fn.results.toList with
    | some vs => outC m vs σ.h κ
    | none => none
def roundC (m : Nat) (live out : List Nat) (it : St → R) (k : X → St → R) : X → St → R := fun x σ' => match x with
  | .normal => it (norm m live σ')
  | x => k x (norm m out σ')

/-- What is known of a function: which slices it may keep, its parameters, what it answers. -/
structure Spec where
  keep : Bool
  pure : Bool
  add : Bool
  ds : List TypeDesc
  sp : List V → List E → (V → List E → R) → R

def tableK : List (FuncId × Spec) → FuncId → List V → List E → (V → List E → R) → R
  | [], _, _, _, _ => none
  | (g, s) :: r, f, args, h, κ => bif Nat.beq g f then callC s.keep s.ds s.sp args h κ else tableK r f args h κ
def tableP : List (FuncId × Spec) → FuncId → Bool × Bool × Bool
  | [], _ => (false, false, false)
  | (g, s) :: r, f => bif Nat.beq g f then (s.pure, s.ds.all fun d => !rwD d, s.add) else tableP r f

structure SpecOk (P : Program) (f : FuncId) (s : Spec) : Prop where
  ok : FnOk P f s.sp
  fn : ∃ fn, P.funcs[f]? = some fn ∧ fn.body.isNone = false ∧ (fn.name == "runtime.NumGoroutine") = false
  law : ∀ args h κ r, s.sp args h κ = some r → ∃ v h', κ v h' = some r ∧ ∀ κ2, s.sp args h κ2 = κ2 v h'
  pur : s.pure = true → ∀ args h κ r, s.sp args h κ = some r → h = [] ∧ ∀ κ2, s.sp args h κ2 = s.sp args h fun v _ => κ2 v []
  ad : s.add = true → ∀ args h κ r, s.sp args h κ = some r → h = []

theorem callC_law {keep : Bool} {ds : List TypeDesc} {sp : List V → List E → (V → List E → R) → R} (hl : ∀ args h κ r, sp args h κ = some r → ∃ v h', κ v h' = some r ∧ ∀ κ2, sp args h κ2 = κ2 v h')
    {args : List V} {h : List E} {κ : V → List E → R} {r : V × List E} (hc : callC keep ds sp args h κ = some r) : ∃ v h', κ v h' = some r ∧ ∀ κ2, callC keep ds sp args h κ2 = κ2 v h' := by
  unfold callC at hc
  split at hc
  · rename_i args' ids hp
    obtain ⟨v, h', h1, h2⟩ := hl _ _ _ _ hc
    refine ⟨_, _, h1, fun κ2 => ?_⟩
    simp only [callC, hp]
    exact h2 _
  · cases hc

theorem table_ok {P : Program} : ∀ (T : List (FuncId × Spec)), (∀ p ∈ T, SpecOk P p.1 p.2) → KOk P (tableK T) := by
  intro T
  induction T with
  | nil => intro _; exact ⟨fun f args h κ r hh => (by cases hh), fun f args h κ r hh => (by cases hh), fun f args h κ r hh => (by cases hh)⟩
  | cons p T ih =>
    intro hT
    obtain ⟨g, s⟩ := p
    have ih' := ih (fun q hq => hT q (by simp [hq]))
    have hs : SpecOk P g s := hT (g, s) (by simp)
    refine ⟨fun f args h κ r hh => ?_, fun f args h κ r hh => ?_, fun f args h κ r hh c cargs hc hr ha => ?_⟩
    · simp only [tableK] at hh
      by_cases hg : g = f
      · subst hg; exact hs.fn
      · rw [nbeq_ne hg, cond_false] at hh; exact ih'.fn f args h κ r hh
    · simp only [tableK] at hh ⊢
      by_cases hg : g = f
      · subst hg
        rw [nbeq_self, cond_true] at hh
        obtain ⟨v, h', h1, h2⟩ := callC_law hs.law hh
        exact ⟨v, h', h1, fun κ2 => by rw [nbeq_self, cond_true]; exact h2 κ2⟩
      · rw [nbeq_ne hg, cond_false] at hh
        obtain ⟨v, h', h1, h2⟩ := ih'.law f args h κ r hh
        exact ⟨v, h', h1, fun κ2 => by rw [nbeq_ne hg, cond_false]; exact h2 κ2⟩
    · simp only [tableK] at hh
      by_cases hg : g = f
      · subst hg
        rw [nbeq_self, cond_true] at hh
        subst hc
        exact callC_ok hs.ok hh hr ha
      · rw [nbeq_ne hg, cond_false] at hh; exact ih'.ok f args h κ r hh c cargs hc hr ha

theorem table_pure {P : Program} : ∀ (T : List (FuncId × Spec)), (∀ p ∈ T, SpecOk P p.1 p.2) → PureOk (tableK T) (fun f => (tableP T f).1) := by
  intro T
  induction T with
  | nil => intro _ f hf; cases hf
  | cons p T ih =>
    intro hT
    obtain ⟨g, s⟩ := p
    have ih' := ih (fun q hq => hT q (by simp [hq]))
    have hs : SpecOk P g s := hT (g, s) (by simp)
    intro f hf args h κ
    simp only [tableP] at hf
    simp only [tableK]
    by_cases hg : g = f
    · subst hg
      rw [nbeq_self, cond_true] at hf ⊢
      rw [cond_true]
      unfold callC
      cases hp : passA s.keep h s.ds args with
      | none => rfl
      | some q =>
        obtain ⟨args', ids⟩ := q
        simp only
        -- the callee's own answer
        cases hsome : s.sp args' (ids.map (getE h)) (fun v h1 => some (v, h1)) with
        | none =>
          have hn : ∀ κ2, s.sp args' (ids.map (getE h)) κ2 = none := fun κ2 => by
            cases hx : s.sp args' (ids.map (getE h)) κ2 with
            | none => rfl
            | some r =>
              obtain ⟨v, h', _, h2⟩ := hs.law _ _ _ _ hx
              rw [h2] at hsome; cases hsome
          rw [hn, hn]
        | some r =>
          obtain ⟨h1, h2⟩ := hs.pur hf _ _ _ _ hsome
          have hids : ids = [] := by
            cases ids with
            | nil => rfl
            | cons i ids => simp at h1
          subst hids
          rw [h2, h2 (fun v h1 => κ _ _)]
          simp [backE]
    · rw [nbeq_ne hg, cond_false] at hf ⊢
      rw [cond_false]
      exact ih' f hf args h κ

theorem passVs_ids {keep : Bool} {h : List E} : ∀ {cs : List Nat} {vs : List V} {ids : List Nat} {q : List V × List Nat}, passVs false keep h cs vs ids = some q → q.2 = ids := by
  intro cs
  induction cs with
  | nil =>
    intro vs ids q hq
    cases vs with
    | nil => simp [passVs] at hq; rw [← hq]
    | cons v r => simp [passVs] at hq
  | cons code cs ih =>
    intro vs ids q hq
    cases vs with
    | nil => simp [passVs] at hq
    | cons v vs =>
      simp only [passVs] at hq
      cases hp : passV false keep h code ids v with
      | none => rw [hp] at hq; cases hq
      | some p =>
        rw [hp] at hq
        simp only [Option.map_eq_some_iff] at hq
        obtain ⟨u, h3, rfl⟩ := hq
        have hpi : p.2 = ids := by
          cases v with
          | own id =>
            simp only [passV] at hp
            split at hp
            · rw [cond_false, Option.some.injEq] at hp; rw [← hp]
            · cases hp
          | nil =>
            simp only [passV] at hp
            split at hp
            · rw [Option.some.injEq] at hp; rw [← hp]
            · cases hp
          | ro s l => simp only [passV, Option.some.injEq] at hp; rw [← hp]
          | int k n => simp only [passV, Option.some.injEq] at hp; rw [← hp]
          | bool b => simp only [passV, Option.some.injEq] at hp; rw [← hp]
          | str b => simp only [passV, Option.some.injEq] at hp; rw [← hp]
          | _ => simp [passV] at hp
        have := ih h3
        rw [← hpi]; exact this
/-- What a call hands over when no row is written: blocks of cells. -/
theorem pass_cells {keep : Bool} {h : List E} : ∀ (ds : List TypeDesc) (args : List V) (ids0 : List Nat) (args' : List V) (ids : List Nat), (ds.all fun d => !rwD d) = true →
    passC keep h ds args ids0 = some (args', ids) → (∀ i ∈ ids0, (getE h i).rowy = false) → ∀ i ∈ ids, (getE h i).rowy = false := by
  intro ds
  induction ds with
  | nil =>
    intro args ids0 args' ids _ h1 h0
    cases args with
    | nil => simp [passC] at h1; obtain ⟨_, rfl⟩ := h1; exact h0
    | cons v r => simp [passC] at h1
  | cons d ds ih =>
    intro args ids0 args' ids hd h1 h0
    rw [List.all_cons, Bool.and_eq_true] at hd
    obtain ⟨hd1, hd2⟩ := hd
    cases args with
    | nil => simp [passC] at h1
    | cons v args =>
      have go : ∀ (u : V) (ids1 : List Nat), (∀ i ∈ ids1, (getE h i).rowy = false) → (passC keep h ds args ids1).map (fun p => (u :: p.1, p.2)) = some (args', ids) → ∀ i ∈ ids, (getE h i).rowy = false := by
        intro u ids1 h3 h2
        simp only [Option.map_eq_some_iff] at h2
        obtain ⟨⟨a2, i2⟩, h4, h5⟩ := h2
        simp at h5
        obtain ⟨_, rfl⟩ := h5
        exact ih args ids1 a2 i2 hd2 h4 h3
      have hrw : rwD d = false := by simpa using hd1
      cases v with
      | own id =>
        simp only [passC, hrw, cond_false] at h1
        split at h1
        · exact go _ _ h0 h1
        · exact go _ _ h0 h1
        · cases h1
      | sub id o n =>
        simp only [passC] at h1
        split at h1
        · exact go _ _ h0 h1
        · cases h1
      | nil =>
        simp only [passC] at h1
        split at h1
        · exact go _ _ h0 h1
        · cases h1
      | ptr id off =>
        cases off with
        | succ off => simp [passC] at h1
        | zero =>
          simp only [passC] at h1
          cases hany : ids0.any (Nat.beq id) with
          | true => simp [hany] at h1
          | false =>
            rw [hany, cond_false] at h1
            split at h1
            · rename_i vs hvs
              generalize (vs.all fun v => v.ids0.isEmpty && v.flat && v.out0) = bb at h1
              cases bb with
              | false => rw [cond_false] at h1; cases h1
              | true =>
                rw [cond_true] at h1
                refine go _ _ (fun i hi => ?_) h1
                rcases List.mem_append.1 hi with hi | hi
                · exact h0 i hi
                · have e : i = id := by simpa using hi
                  subst e
                  rw [hvs]; rfl
            · cases h1
      | ro s l => simp only [passC] at h1; exact go _ _ h0 h1
      | recs s n xs => simp only [passC] at h1; exact go _ _ h0 h1
      | int k n => simp only [passC] at h1; exact go _ _ h0 h1
      | bool b => simp only [passC] at h1; exact go _ _ h0 h1
      | str b => simp only [passC] at h1; exact go _ _ h0 h1
      | agg vs =>
        simp only [passC] at h1
        split at h1
        · rename_i cs
          split at h1
          · rename_i q hq
            rw [← passVs_ids hq] at h0
            exact go _ _ h0 h1
          · cases h1
        · cases hrw
        · cases hpl : vs.all fun v => v.ids0.isEmpty && v.flat && v.out0 with
          | false => rw [hpl, cond_false] at h1; cases h1
          | true => rw [hpl, cond_true] at h1; exact go _ _ h0 h1
      | _ => simp [passC] at h1

theorem keepE_other : ∀ (ids : List Nat) (es h : List E) (id : Nat), id ∉ ids → getE (backE ids es h) id = getE h id := by
  intro ids
  induction ids with
  | nil => intro es h id _; cases es <;> rfl
  | cons i ids ih =>
    intro es h id hn
    cases es with
    | nil => rfl
    | cons e es =>
      simp only [backE]
      rw [ih es _ id (fun hm => hn (by simp [hm]))]
      have : i ≠ id := fun e => hn (by simp [e])
      simp [getE, List.getD, List.getElem?_set_ne this]
theorem keepE_len : ∀ (ids : List Nat) (es h : List E), (backE ids es h).length = h.length := by
  intro ids
  induction ids with
  | nil => intro es h; cases es <;> rfl
  | cons i ids ih =>
    intro es h
    cases es with
    | nil => rfl
    | cons e es => simp only [backE]; rw [ih, List.length_set]

theorem table_keep {P : Program} : ∀ (T : List (FuncId × Spec)), (∀ p ∈ T, SpecOk P p.1 p.2) → KeepOk (tableK T) (fun f => (tableP T f).2.1) := by
  intro T
  induction T with
  | nil => intro _ f hf; cases hf
  | cons p T ih =>
    intro hT
    obtain ⟨g, s⟩ := p
    have ih' := ih (fun q hq => hT q (by simp [hq]))
    have hs : SpecOk P g s := hT (g, s) (by simp)
    intro f hf args h v h' hk id l hy hg
    simp only [tableP] at hf
    simp only [tableK] at hk
    by_cases hgf : g = f
    · subst hgf
      rw [nbeq_self, cond_true] at hf hk
      unfold callC at hk
      split at hk
      · rename_i args' ids hp
        obtain ⟨v1, h1, e1, _⟩ := hs.law _ _ _ _ hk
        simp only [Option.some.injEq, Prod.mk.injEq] at e1
        obtain ⟨_, rfl⟩ := e1
        have hid : id ∉ ids := fun hm => by
          have := pass_cells s.ds args [] args' ids hf (passA_is hp).1 (fun i hi => by cases hi) id hm
          rw [hg, hy] at this; cases this
        have hlt : id < h.length := alive_lt (by rw [hg]; cases l <;> first | rfl | cases hy)
        have hl2 := keepE_len ids ((h1.take ids.length).map (E.sh ids h.length)) h
        have e2 := keepE_other ids ((h1.take ids.length).map (E.sh ids h.length)) h id hid
        rw [← hg, ← e2]
        simp only [getE, List.getD]
        rw [List.getElem?_append_left (by rw [hl2]; exact hlt)]
      · cases hk
    · rw [nbeq_ne hgf, cond_false] at hf hk
      exact ih' f hf args h v h' hk id l hy hg

theorem table_add {P : Program} : ∀ (T : List (FuncId × Spec)), (∀ p ∈ T, SpecOk P p.1 p.2) → AddOk (tableK T) (fun f => (tableP T f).2.2) := by
  intro T
  induction T with
  | nil => intro _ f hf; cases hf
  | cons p T ih =>
    intro hT
    obtain ⟨g, s⟩ := p
    have ih' := ih (fun q hq => hT q (by simp [hq]))
    have hs : SpecOk P g s := hT (g, s) (by simp)
    intro f hf args h v h' hk
    simp only [tableP] at hf
    simp only [tableK] at hk
    by_cases hgf : g = f
    · subst hgf
      rw [nbeq_self, cond_true] at hf hk
      unfold callC at hk
      split at hk
      · rename_i args' ids hp
        have h0 := hs.ad hf _ _ _ _ hk
        have hids : ids = [] := by
          cases ids with
          | nil => rfl
          | cons i ids => simp at h0
        subst hids
        obtain ⟨v1, h1, e1, _⟩ := hs.law _ _ _ _ hk
        simp only [Option.some.injEq, Prod.mk.injEq] at e1
        obtain ⟨_, rfl⟩ := e1
        exact ⟨_, rfl⟩
      · cases hk
    · rw [nbeq_ne hgf, cond_false] at hf hk
      exact ih' f hf args h v h' hk

/-- A function's twin tells what the function answers. -/
theorem SpecOk.of {P : Program} {TD : TypeId → Option TI} (hT : TyOk P TD) (hm : P.follows .mixedOrders = true) {T : List (FuncId × Spec)} (hTab : ∀ p ∈ T, SpecOk P p.1 p.2) {ann : Nat → List Nat × List Nat}
    {f : FuncId} {fn : Func} (hf : P.funcs[f]? = some fn) (hb : fn.body.isNone = false) (hn : (fn.name == "runtime.NumGoroutine") = false) {s : Spec}
    (hd : ∀ args h κ r, s.sp args h κ = some r → funC TD (tableK T) ann (drawOk TD (tableP T)) FUEL fn args h κ = some r)
    (hl : ∀ args h κ r, s.sp args h κ = some r → ∃ v h', κ v h' = some r ∧ ∀ κ2, s.sp args h κ2 = κ2 v h')
    (hp : s.pure = true → ∀ args h κ r, s.sp args h κ = some r → h = [] ∧ ∀ κ2, s.sp args h κ2 = s.sp args h fun v _ => κ2 v [])
    (ha : s.add = true → ∀ args h κ r, s.sp args h κ = some r → h = []) : SpecOk P f s where
  ok := FnOk.of hT (table_ok T hTab) (draw_ok hT (table_ok T hTab) hm (table_pure T hTab) (table_keep T hTab) (table_add T hTab)) hf (fun args h κ r hh => ⟨FUEL, hd args h κ r hh⟩)
  fn := ⟨fn, hf, hb, hn⟩
  law := hl
  pur := hp
  ad := ha
/-- Of a function that never answers all is told. -/
theorem SpecOk.zero {P : Program} {f : FuncId} {fn : Func} (hf : P.funcs[f]? = some fn) (hb : fn.body.isNone = false) (hn : (fn.name == "runtime.NumGoroutine") = false) {s : Spec}
    (hs : ∀ args h κ, s.sp args h κ = none) : SpecOk P f s where
  ok := fun args κ r c cargs hx => by rw [hs] at hx; cases hx
  fn := ⟨fn, hf, hb, hn⟩
  law := fun args h κ r hx => by rw [hs] at hx; cases hx
  pur := fun _ args h κ r hx => by rw [hs] at hx; cases hx
  ad := fun _ args h κ r hx => by rw [hs] at hx; cases hx

end Go.Proofs.Ytcckjofnglbbeaa.D
/- From a twin to a call at the outermost: what a law needs. Conditions: none. -/
namespace Go.Proofs.Ytcckjofnglbbeaa.D
open Go.RowKit
set_option linter.unusedVariables false
set_option linter.unusedSimpArgs false

/-- At the outermost nothing is owned, and nothing is foreign. -/
def topC (w : World) : Cx := ⟨fun _ => False, [], fun _ => .slice none 0 0, w⟩
theorem topC_U {w : World} {b : Nat} : ¬ (topC w).U b := by
  rintro ⟨i, hi, _⟩
  simp [topC, getE, List.getD] at hi
  cases hi
theorem topC_rel (w : World) : Rel (topC w) where
  one := fun i hi => absurd hi (Nat.not_lt_zero _)
  ent := fun i hi => absurd hi (Nat.not_lt_zero _)
  inj := fun i j b hi _ hb _ => absurd ⟨i, hi, hb⟩ topC_U
  lt := fun b hb => absurd hb topC_U
  far := fun b hb => hb.elim
theorem topC_below {w : World} {c' : Cx} (h : Ext (topC w) c') : Below w.heap.size w c'.w :=
  ⟨h.os, h.tape, h.output, h.size, fun k hk => h.block k hk topC_U⟩

theorem SpecOk.calls {P : Program} {f : FuncId} {s : Spec} (h : SpecOk P f s) {w : World} {args : List V} {cargs : Array Value} {b : Bool} (hs : s.sp args [] (fun v h => some (v, h)) = some (.bool b, []))
    (ha : ArgsR (topC w) args cargs.toList) : Calls P f cargs w fun e w' => e = .returned (.bool b) ∧ Below w.heap.size w w' := by
  refine (h.ok args (fun v h => some (v, h)) (.bool b, []) (topC w) cargs hs (topC_rel w) ha).mono ?_
  rintro e w' ⟨x, v, c', rfl, hv, he, hr, hx, rfl, _, _⟩
  have hv' : v = .bool b := by
    have := congrArg (fun o => (o.getD (.junk, [])).1) hv
    exact this
  subst hv'
  have hx' : x = .bool b := hx
  exact ⟨by rw [hx'], topC_below he⟩

theorem argsR1 {c : Cx} {v : V} {x : Value} (h : VR c v x) : ArgsR c [v] (#[x] : Array Value).toList :=
  ⟨rfl, fun j hj => by
    obtain rfl : j = 0 := by simp at hj; exact hj
    exact h⟩
theorem argsR2 {c : Cx} {v v' : V} {x x' : Value} (h : VR c v x) (h' : VR c v' x') : ArgsR c [v, v'] (#[x, x'] : Array Value).toList :=
  ⟨rfl, fun j hj => by
    match j, hj with
    | 0, _ => exact h
    | 1, _ => exact h'⟩
theorem argsR3 {c : Cx} {v v' v'' : V} {x x' x'' : Value} (h : VR c v x) (h' : VR c v' x') (h'' : VR c v'' x'') : ArgsR c [v, v', v''] (#[x, x', x''] : Array Value).toList :=
  ⟨rfl, fun j hj => by
    match j, hj with
    | 0, _ => exact h
    | 1, _ => exact h'
    | 2, _ => exact h''⟩
/-- A row that came in. -/
theorem topC_row (s : Bool) {k : IntKind} {w : World} {a : Option Addr} {len cap : Nat} {zs : List Int}
    (h : (a = none ∧ len = 0 ∧ cap = 0 ∧ zs = []) ∨ ∃ x : Addr, a = some x ∧ len ≤ cap ∧ cap ≤ maxLen ∧ zs.length = cap ∧ (∀ i, i < zs.length → w.cell? (x.add i) = some (.int k (zs.getD i 0))) ∧ ∀ n ∈ zs, (Lit.int k n).wf = true) :
    ∃ xs : List Int, xs.length = len ∧ xs.length ≤ maxLen ∧ (∀ n ∈ xs, (Lit.int k n).wf = true) ∧ VR (topC w) (.ro s (.ints k xs)) (.slice a len cap) := by
  rcases h with ⟨rfl, rfl, rfl, rfl⟩ | ⟨x, rfl, hl, hm, hz, hcell, hwf⟩
  · exact ⟨[], rfl, Nat.zero_le _, fun n hn => (by cases hn), ⟨none, 0, rfl, Nat.le_refl _, .inl rfl⟩⟩
  · have hL : (zs.take len).length = len := by rw [List.length_take]; omega
    refine ⟨zs.take len, hL, by rw [hL]; omega, fun n hn => hwf n (List.mem_of_mem_take hn), ?_⟩
    refine ⟨some x, cap, by simp only [L.len, hL], by simp only [L.len, hL]; exact hl, ?_⟩
    by_cases h0 : len = 0
    · exact .inl (by simp only [L.len, hL]; exact h0)
    · obtain ⟨b, off, spot⟩ := x
      have hspot : spot = none := by simpa [Addr.add] using World.cell?_spot (hcell 0 (by omega))
      subst hspot
      refine .inr ⟨b, off, rfl, fun _ hF => hF, topC_U, fun j hj => ?_⟩
      have hj' : j < len := by simp only [L.len, hL] at hj; exact hj
      refine ⟨_, ?_, rfl⟩
      have := hcell j (by omega)
      have e : eli (zs.take len) j = zs.getD j 0 := by simp [eli, List.getD, hj']
      rw [e, ← this]
      by_cases hj0 : j = 0
      · subst hj0; simp [Addr.add, topC]
      · simp [Addr.add, hj0, topC]

end Go.Proofs.Ytcckjofnglbbeaa.D
/- What loops of twins come to. Conditions: those of each theorem. -/
namespace Go.Proofs.Ytcckjofnglbbeaa.D
open Go.RowKit
set_option linter.unusedVariables false
set_option linter.unusedSimpArgs false

/-- A loop that has an aim and comes nearer to its end in each round. -/
theorem run_aim {S D : Type} {run : Nat → S → Option D} (Inv : S → Prop) (μ : S → Nat) (aim : S → D)
    (h : ∀ n s, Inv s → run (n + 1) s = some (aim s) ∨ ∃ s', run (n + 1) s = run n s' ∧ Inv s' ∧ μ s' < μ s ∧ aim s' = aim s) : ∀ n s, Inv s → μ s < n → run n s = some (aim s) := by
  intro n
  induction n with
  | zero => intro s _ hm; exact absurd hm (Nat.not_lt_zero _)
  | succ n ih =>
    intro s hi hm
    rcases h n s hi with h1 | ⟨s', h1, h2, h3, h4⟩
    · exact h1
    · rw [h1, ih s' h2 (by omega), h4]
theorem run_fuel {S D : Type} {run : Nat → S → Option D} (Inv : S → Prop) (μ : S → Nat) (aim : S → D)
    (h : ∀ n s, Inv s → run (n + 1) s = some (aim s) ∨ ∃ s', run (n + 1) s = run n s' ∧ Inv s' ∧ μ s' < μ s ∧ aim s' = aim s) {s : S} (hi : Inv s) (hm : μ s < 1000000000) : run FUEL s = some (aim s) :=
  run_aim Inv μ aim h FUEL s hi (by have := FUEL_le; omega)

theorem cnd_t {α : Type} {b : Bool} {x y : α} (h : b = true) : (bif b then x else y) = x := by rw [h]; rfl
theorem cnd_f {α : Type} {b : Bool} {x y : α} (h : b = false) : (bif b then x else y) = y := by rw [h]; rfl
theorem i64_wrap {n : Int} (h1 : -9223372036854775808 ≤ n) (h2 : n ≤ 9223372036854775807) : IntKind.i64.wrap n = n := by
  rw [IntKind.wrap_i64]; omega

/-- A loop that counts up and leaves at the first that tells something. -/
theorem run_find {D F : Type} {run : Nat → Int → Option (D ⊕ F)} {len : Nat} (f : Nat → Option D) (e : F) (hl : len ≤ 2097152)
    (h : ∀ n (x : Int), 0 ≤ x → x ≤ len → run (n + 1) x = if x < len then (match f x.toNat with | some d => some (.inl d) | none => run n (x + 1)) else some (.inr e)) :
    run FUEL 0 = some (match (List.range len).findSome? f with | some d => .inl d | none => .inr e) := by
  have key : ∀ n (k : Nat), k ≤ len → len - k < n → run n (k : Int) = some (match (List.range' k (len - k)).findSome? f with | some d => .inl d | none => .inr e) := by
    intro n
    induction n with
    | zero => intro k _ hk; omega
    | succ n ih =>
      intro k hk hn
      rw [h n k (by omega) (by omega)]
      by_cases hx : k < len
      · rw [if_pos (by omega)]
        have e1 : List.range' k (len - k) = k :: List.range' (k + 1) (len - (k + 1)) := by
          have : len - k = (len - (k + 1)) + 1 := by omega
          rw [this]; rfl
        rw [e1, List.findSome?_cons, Int.toNat_natCast]
        cases hf : f k with
        | some d => rfl
        | none =>
          have := ih (k + 1) (by omega) (by omega)
          rw [show ((k : Int) + 1) = ((k + 1 : Nat) : Int) by omega]
          exact this
      · rw [if_neg (by omega)]
        have : len - k = 0 := by omega
        rw [this]; rfl
  have := key FUEL 0 (by omega) (by have := FUEL_le; omega)
  rw [show len - 0 = len by omega, ← List.range_eq_range'] at this
  exact this
/-- The same with a test that must hold of all. -/
theorem run_all {run : Nat → Int → Option (Bool ⊕ Unit)} {len : Nat} (test : Nat → Bool) (hl : len ≤ 2097152)
    (h : ∀ n (x : Int), 0 ≤ x → x ≤ len → run (n + 1) x = if x < len then (bif test x.toNat then run n (x + 1) else some (.inl false)) else some (.inr ())) :
    run FUEL 0 = some (bif (List.range len).all test then .inr () else .inl false) := by
  rw [run_find (run := run) (len := len) (fun k => bif test k then none else some false) () hl (fun n x h0 h1 => by
    rw [h n x h0 h1]
    split
    · cases test x.toNat <;> rfl
    · rfl)]
  congr 1
  generalize List.range len = l
  induction l with
  | nil => rfl
  | cons a l ih =>
    rw [List.findSome?_cons, List.all_cons]
    cases ha : test a with
    | true => simpa using ih
    | false => rfl
/-- A loop that ends with what is asked of it. -/
theorem run_post {S D : Type} {run : Nat → S → Option D} (Inv : S → Prop) (μ : S → Nat) (Post : D → Prop)
    (h : ∀ n s, Inv s → (∃ d, run (n + 1) s = some d ∧ Post d) ∨ ∃ s', run (n + 1) s = run n s' ∧ Inv s' ∧ μ s' < μ s) {s : S} (hi : Inv s) (hm : μ s < 1000000000) : ∃ d, run FUEL s = some d ∧ Post d := by
  have key : ∀ n s, Inv s → μ s < n → ∃ d, run n s = some d ∧ Post d := by
    intro n
    induction n with
    | zero => intro s _ hm; exact absurd hm (Nat.not_lt_zero _)
    | succ n ih =>
      intro s hi hm
      rcases h n s hi with h1 | ⟨s', h1, h2, h3⟩
      · exact h1
      · rw [h1]; exact ih s' h2 (by omega)
  exact key FUEL s hi (by have := FUEL_le; omega)
end Go.Proofs.Ytcckjofnglbbeaa.D
/- Small plain words: folds, searches, loops. Conditions: none. -/
namespace Go.Proofs.Ytcckjofnglbbeaa
open Go.RowKit
set_option linter.unusedVariables false
set_option linter.unusedSimpArgs false

/-- The k-th number of a list; 0 behind its end. -/
def el (zs : List Int) (k : Nat) : Int := zs.getD k 0


/-- A loop over 0 .. n-1 that carries a state. -/
def fold {α : Type} (n : Nat) (f : α → Nat → α) (a : α) : α := (List.range n).foldl f a
theorem fold_zero {α : Type} (f : α → Nat → α) (a : α) : fold 0 f a = a := rfl
theorem fold_succ {α : Type} (n : Nat) (f : α → Nat → α) (a : α) : fold (n+1) f a = f (fold n f a) n := by
  simp [fold, List.range_succ]

/-- A loop over 0 .. n-1 that leaves at the first k at which f answers. -/
def find {ρ : Type} (n : Nat) (f : Nat → Option ρ) : Option ρ := (List.range n).findSome? f
theorem find_none {ρ : Type} {n : Nat} {f : Nat → Option ρ} : find n f = none ↔ ∀ j, j < n → f j = none := by
  simp [find]
theorem find_some_ex {ρ : Type} {n : Nat} {f : Nat → Option ρ} {r : ρ} (h : find n f = some r) : ∃ k, k < n ∧ f k = some r := by
  obtain ⟨k, hk, h1⟩ := List.exists_of_findSome?_eq_some h
  exact ⟨k, by simpa using hk, h1⟩
theorem find_succ {ρ : Type} (n : Nat) (f : Nat → Option ρ) : find (n+1) f = (find n f).or (f n) := by
  simp [find, List.range_succ, List.findSome?_append]
/-- A loop over 0 .. n-1 that carries a state and may leave. -/
def loopE {σ ρ : Type} (n : Nat) (f : σ → Nat → ρ ⊕ σ) (s : σ) : ρ ⊕ σ := fold n (fun acc k => match acc with | .inl r => .inl r | .inr st => f st k) (.inr s)
theorem loopE_zero {σ ρ : Type} (f : σ → Nat → ρ ⊕ σ) (s : σ) : loopE 0 f s = .inr s := rfl
theorem loopE_succ {σ ρ : Type} {n : Nat} {f : σ → Nat → ρ ⊕ σ} {s st : σ} (h : loopE n f s = .inr st) : loopE (n + 1) f s = f st n := by
  unfold loopE at h ⊢; rw [fold_succ, h]
/-- A loop by a test, at most so many rounds. -/
def wh {σ : Type} : Nat → (σ → Bool) → (σ → σ) → σ → σ
  | 0, _, _, s => s
  | n + 1, c, f, s => if c s = true then wh n c f (f s) else s
end Go.Proofs.Ytcckjofnglbbeaa
/- Sets as numbers: Go's bit operations on int, at numbers from 0 on, are those of natural numbers. Conditions: those of each theorem. -/
namespace Go.Proofs.Ytcckjofnglbbeaa
open Go.RowKit
set_option linter.unusedVariables false
set_option linter.unusedSimpArgs false

theorem i64_ofInt (a : Nat) (ha : a < 9223372036854775808) : (BitVec.ofInt 64 (a : Int)).toNat = a := by
  rw [BitVec.ofInt_natCast, BitVec.toNat_ofNat]; exact Nat.mod_eq_of_lt (by omega)
theorem i64_wrap_nat (a : Nat) (ha : a < 9223372036854775808) : IntKind.i64.wrap (a : Int) = a := by rw [IntKind.wrap_i64]; omega
theorem i64_or_nat (a b : Nat) (ha : a < 9223372036854775808) (hb : b < 9223372036854775808) : bits .or .i64 (a : Int) (b : Int) = ((a ||| b : Nat) : Int) := by
  have hx : a ||| b < 2 ^ 63 := Nat.or_lt_two_pow (by omega) (by omega)
  show IntKind.i64.wrap ((BitVec.ofInt 64 (a : Int) ||| BitVec.ofInt 64 (b : Int)).toNat : Int) = _
  rw [BitVec.toNat_or, i64_ofInt a ha, i64_ofInt b hb, i64_wrap_nat _ (by omega)]
theorem i64_xor_nat (a b : Nat) (ha : a < 9223372036854775808) (hb : b < 9223372036854775808) : bits .xor .i64 (a : Int) (b : Int) = ((a ^^^ b : Nat) : Int) := by
  have hx : a ^^^ b < 2 ^ 63 := Nat.xor_lt_two_pow (by omega) (by omega)
  show IntKind.i64.wrap ((BitVec.ofInt 64 (a : Int) ^^^ BitVec.ofInt 64 (b : Int)).toNat : Int) = _
  rw [BitVec.toNat_xor, i64_ofInt a ha, i64_ofInt b hb, i64_wrap_nat _ (by omega)]
/-- What is in a and not in b. -/
def minus (a b : Nat) : Nat := a &&& (18446744073709551615 - b)
theorem i64_andNot_nat (a b : Nat) (ha : a < 9223372036854775808) (hb : b < 9223372036854775808) : bits .andNot .i64 (a : Int) (b : Int) = ((minus a b : Nat) : Int) := by
  have hx : minus a b < 2 ^ 63 := by unfold minus; rw [Nat.and_comm]; exact Nat.and_lt_two_pow _ (by omega)
  show IntKind.i64.wrap ((BitVec.ofInt 64 (a : Int) &&& ~~~BitVec.ofInt 64 (b : Int)).toNat : Int) = _
  rw [BitVec.toNat_and, BitVec.toNat_not, i64_ofInt a ha, i64_ofInt b hb]
  have e : 2 ^ 64 - 1 - b = 18446744073709551615 - b := by omega
  rw [e]
  exact i64_wrap_nat _ (by simp only [minus] at hx; omega)
theorem minus_testBit (a b : Nat) (hb : b < 18446744073709551616) (ha : a < 18446744073709551616) (j : Nat) : (minus a b).testBit j = (a.testBit j && !b.testBit j) := by
  unfold minus
  rw [Nat.testBit_and]
  have e : 18446744073709551615 - b = 2 ^ 64 - (b + 1) := by omega
  rw [e, Nat.testBit_two_pow_sub_succ (by omega)]
  by_cases hj : j < 64
  · simp [hj]
  · have : a.testBit j = false := Nat.testBit_lt_two_pow (Nat.lt_of_lt_of_le ha (by
      have : (2:Nat) ^ 64 ≤ 2 ^ j := Nat.pow_le_pow_right (by omega) (by omega)
      omega))
    simp [this]
theorem i64_and1 (n : Int) : bits .and .i64 n 1 = n % 2 := by
  show IntKind.i64.wrap ((BitVec.ofInt 64 n &&& BitVec.ofInt 64 1).toNat : Int) = _
  have h1 : (BitVec.ofInt 64 1).toNat = 1 := by decide
  rw [BitVec.toNat_and, h1, Nat.and_one_is_mod, BitVec.toNat_ofInt]
  rw [i64_wrap_nat _ (by omega)]
  omega
theorem testBit_div (a k : Nat) : a.testBit k = (a / 2 ^ k % 2 == 1) := by
  rw [Nat.testBit_eq_decide_div_mod_eq]; rw [Bool.eq_iff_iff]; simp
theorem eq_of_bits {a b n : Nat} (ha : a < 2 ^ n) (hb : b < 2 ^ n) (h : ∀ j, j < n → a.testBit j = b.testBit j) : a = b := by
  apply Nat.eq_of_testBit_eq
  intro j
  by_cases hj : j < n
  · exact h j hj
  · rw [Nat.testBit_lt_two_pow (Nat.lt_of_lt_of_le ha (Nat.pow_le_pow_right (by omega) (by omega))), Nat.testBit_lt_two_pow (Nat.lt_of_lt_of_le hb (Nat.pow_le_pow_right (by omega) (by omega)))]
theorem testBit_lt {a n j : Nat} (ha : a < 2 ^ n) (h : a.testBit j = true) : j < n := by
  by_cases hj : j < n
  · exact hj
  · rw [Nat.testBit_lt_two_pow (Nat.lt_of_lt_of_le ha (Nat.pow_le_pow_right (by omega) (by omega)))] at h; cases h
theorem testBit_pow (k j : Nat) : (2 ^ k).testBit j = decide (k = j) := Nat.testBit_two_pow

/-- The union of f k over those k below n for which p holds. -/
def orN (n : Nat) (p : Nat → Bool) (f : Nat → Nat) : Nat := fold n (fun acc k => if p k = true then acc ||| f k else acc) 0
theorem orN_testBit (n : Nat) (p : Nat → Bool) (f : Nat → Nat) (j : Nat) : (orN n p f).testBit j = true ↔ ∃ k, k < n ∧ p k = true ∧ (f k).testBit j = true := by
  unfold orN
  induction n with
  | zero => simp [fold_zero]
  | succ n ih =>
    rw [fold_succ]
    cases hp : p n with
    | false =>
      simp only [Bool.false_eq_true, if_false]
      rw [ih]
      constructor
      · rintro ⟨k, a, b⟩; exact ⟨k, by omega, b⟩
      · rintro ⟨k, a, b, c⟩
        by_cases hk : k = n
        · subst hk; rw [hp] at b; cases b
        · exact ⟨k, by omega, b, c⟩
    | true =>
      simp only [if_true]
      rw [Nat.testBit_or, Bool.or_eq_true, ih]
      constructor
      · rintro (⟨k, a, b⟩ | h)
        · exact ⟨k, by omega, b⟩
        · exact ⟨n, by omega, hp, h⟩
      · rintro ⟨k, a, b, c⟩
        by_cases hk : k = n
        · subst hk; exact .inr c
        · exact .inl ⟨k, by omega, b, c⟩
theorem orN_lt {n m : Nat} {p : Nat → Bool} {f : Nat → Nat} (hf : ∀ k, k < n → p k = true → f k < 2 ^ m) : orN n p f < 2 ^ m := by
  unfold orN
  induction n with
  | zero => simp [fold_zero]; exact Nat.two_pow_pos m
  | succ n ih =>
    rw [fold_succ]
    have h := ih (fun k hk => hf k (by omega))
    split
    · rename_i hp; exact Nat.or_lt_two_pow h (hf n (by omega) hp)
    · exact h
end Go.Proofs.Ytcckjofnglbbeaa
/- Nets as lists of numbers: what a net is; near, seen, ball; size of a set. Conditions: those of each theorem. -/
namespace Go.Proofs.Ytcckjofnglbbeaa
open Go.RowKit
set_option linter.unusedVariables false
set_option linter.unusedSimpArgs false

/-- The neighbours of a place, as a natural number. -/
def nb (net : List Int) (k : Nat) : Nat := (el net k).toNat
/-- A net. -/
structure Ok (net : List Int) : Prop where
  lo : 1 ≤ net.length
  hi : net.length ≤ 6
  el : ∀ k, k < net.length → el net k = (nb net k : Int)
  lt : ∀ k, k < net.length → nb net k < 2 ^ net.length
  sym : ∀ j k, j < net.length → k < net.length → (nb net k).testBit j = (nb net j).testBit k
  irr : ∀ k, k < net.length → (nb net k).testBit k = false

theorem pow_le_64 {n : Nat} (h : n ≤ 6) : 2 ^ n ≤ 64 := by
  have : (2 : Nat) ^ n ≤ 2 ^ 6 := Nat.pow_le_pow_right (by omega) h
  omega
theorem Ok.pow {net : List Int} (h : Ok net) : 2 ^ net.length ≤ 64 := pow_le_64 h.hi
theorem Ok.lt64 {net : List Int} (h : Ok net) {k : Nat} (hk : k < net.length) : nb net k < 64 := Nat.lt_of_lt_of_le (h.lt k hk) h.pow

/-- All neighbours of a set. -/
def near (net : List Int) (s : Nat) : Nat := orN net.length (fun k => s.testBit k) (nb net)
/-- What guards at a set see. -/
def seen (net : List Int) (s : Nat) : Nat := s ||| near net s
/-- A place and its neighbours. -/
def ball (net : List Int) (k : Nat) : Nat := nb net k ||| 2 ^ k

theorem Ok.ball_lt {net : List Int} (h : Ok net) {k : Nat} (hk : k < net.length) : ball net k < 2 ^ net.length :=
  Nat.or_lt_two_pow (h.lt k hk) (Nat.pow_lt_pow_right (by omega) hk)
theorem Ok.near_lt {net : List Int} (h : Ok net) (s : Nat) : near net s < 2 ^ net.length := orN_lt fun k hk _ => h.lt k hk
theorem near_testBit (net : List Int) (s j : Nat) : (near net s).testBit j = true ↔ ∃ k, k < net.length ∧ s.testBit k = true ∧ (nb net k).testBit j = true := orN_testBit _ _ _ _
theorem ball_testBit (net : List Int) (k j : Nat) : (ball net k).testBit j = true ↔ (nb net k).testBit j = true ∨ k = j := by
  unfold ball; rw [Nat.testBit_or, Bool.or_eq_true, testBit_pow]; simp

/-- How many of the first n bits are 1. -/
def card (n s : Nat) : Nat := fold n (fun a k => if s.testBit k = true then a + 1 else a) 0
theorem card_succ (n s : Nat) : card (n + 1) s = card n s + if s.testBit n = true then 1 else 0 := by
  unfold card; rw [fold_succ]; split <;> rfl
theorem card_le (n s : Nat) : card n s ≤ n := by
  induction n with
  | zero => exact Nat.le_refl _
  | succ n ih => rw [card_succ]; split <;> omega
theorem card_mono {n s t : Nat} (h : ∀ j, j < n → s.testBit j = true → t.testBit j = true) : card n s ≤ card n t := by
  induction n with
  | zero => exact Nat.le_refl _
  | succ n ih =>
    have h1 := ih fun j hj => h j (by omega)
    have h2 := h n (by omega)
    rw [card_succ, card_succ]
    split
    · rename_i hs; rw [if_pos (h2 hs)]; omega
    · omega
theorem card_lt {n s t : Nat} (h : ∀ j, j < n → s.testBit j = true → t.testBit j = true) {i : Nat} (hi : i < n) (h0 : s.testBit i = false) (h1 : t.testBit i = true) : card n s < card n t := by
  induction n with
  | zero => omega
  | succ n ih =>
    rw [card_succ, card_succ]
    by_cases hin : i = n
    · subst hin
      have h3 := card_mono fun j hj => h j (Nat.lt_succ_of_lt hj)
      rw [h0, h1]; simp; omega
    · have h3 := ih (fun j hj => h j (by omega)) (by omega)
      have h2 := h n (by omega)
      split
      · rename_i hs; rw [if_pos (h2 hs)]; omega
      · omega
theorem card_more {n m s : Nat} (hs : s < 2 ^ n) (h : n ≤ m) : card m s = card n s := by
  induction m with
  | zero => obtain rfl : n = 0 := by omega
            rfl
  | succ m ih =>
    by_cases hm : n = m + 1
    · rw [hm]
    · rw [card_succ, ih (by omega), Nat.testBit_lt_two_pow (Nat.lt_of_lt_of_le hs (Nat.pow_le_pow_right (by omega) (by omega)))]
      simp
/-- How many of the first six bits are 1. -/
def size (s : Nat) : Nat := card 6 s
theorem size_le (s : Nat) : size s ≤ 6 := card_le 6 s
theorem Ok.size_eq {net : List Int} (h : Ok net) {s : Nat} (hs : s < 2 ^ net.length) : size s = card net.length s := card_more hs h.hi

/-! ### Parts -/
/-- One step: the set, and its neighbours that are among A. -/
def grow (net : List Int) (A s : Nat) : Nat := s ||| (near net s &&& A)
theorem grow_testBit (net : List Int) (A s j : Nat) : (grow net A s).testBit j = true ↔ s.testBit j = true ∨ ((∃ k, k < net.length ∧ s.testBit k = true ∧ (nb net k).testBit j = true) ∧ A.testBit j = true) := by
  unfold grow; rw [Nat.testBit_or, Bool.or_eq_true, Nat.testBit_and, Bool.and_eq_true, near_testBit]
/-- From i one comes to j by steps to neighbours among A. -/
inductive Reach (net : List Int) (A : Nat) (i : Nat) : Nat → Prop where
  | here : A.testBit i = true → Reach net A i i
  | step {j k : Nat} : Reach net A i j → j < net.length → (nb net j).testBit k = true → A.testBit k = true → Reach net A i k
/-- So many steps. -/
def steps (net : List Int) (A : Nat) : Nat → Nat → Nat
  | 0, s => s
  | m + 1, s => grow net A (steps net A m s)
theorem steps_fix {net : List Int} {A m s : Nat} (h : grow net A (steps net A m s) = steps net A m s) (p : Nat) (hp : m ≤ p) : steps net A p s = steps net A m s := by
  induction p with
  | zero => obtain rfl : m = 0 := by omega
            rfl
  | succ p ih =>
    by_cases hm : m = p + 1
    · rw [hm]
    · show grow net A (steps net A p s) = _; rw [ih (by omega)]; exact h
theorem steps_reach {net : List Int} {A i : Nat} (m : Nat) {j : Nat} (h : (steps net A m (2 ^ i &&& A)).testBit j = true) : Reach net A i j := by
  induction m generalizing j with
  | zero =>
    simp only [steps, Nat.testBit_and, Bool.and_eq_true, testBit_pow, decide_eq_true_eq] at h
    obtain ⟨rfl, h⟩ := h
    exact .here h
  | succ m ih =>
    rcases (grow_testBit _ _ _ _).1 h with h1 | ⟨⟨k, hk, h1, h2⟩, h3⟩
    · exact ih h1
    · exact .step (ih h1) hk h2 h3
theorem reach_steps {net : List Int} {A i m : Nat} (hf : grow net A (steps net A m (2 ^ i &&& A)) = steps net A m (2 ^ i &&& A)) {j : Nat} (h : Reach net A i j) : (steps net A m (2 ^ i &&& A)).testBit j = true := by
  induction h with
  | here ha =>
    clear hf
    induction m with
    | zero => simp [steps, Nat.testBit_and, testBit_pow, ha]
    | succ m ih => exact (grow_testBit _ _ _ _).2 (.inl ih)
  | step _ hj hn ha ih =>
    rw [← hf]
    exact (grow_testBit _ _ _ _).2 (.inr ⟨⟨_, hj, ih, hn⟩, ha⟩)
theorem Ok.grow_lt {net : List Int} (h : Ok net) {A s : Nat} (hs : s < 2 ^ net.length) : grow net A s < 2 ^ net.length :=
  Nat.or_lt_two_pow hs (by rw [Nat.and_comm]; exact Nat.and_lt_two_pow _ (h.near_lt s))
theorem Ok.steps_lt {net : List Int} (h : Ok net) {A s : Nat} (hs : s < 2 ^ net.length) (m : Nat) : steps net A m s < 2 ^ net.length := by
  induction m with
  | zero => exact hs
  | succ m ih => exact h.grow_lt ih
theorem Ok.grow_more {net : List Int} (h : Ok net) {A s : Nat} (hs : s < 2 ^ net.length) (hne : grow net A s ≠ s) : card net.length s < card net.length (grow net A s) := by
  have : ∃ i, i < net.length ∧ (grow net A s).testBit i ≠ s.testBit i := by
    refine Classical.byContradiction fun hc => hne (eq_of_bits (h.grow_lt hs) hs fun j hj => ?_)
    exact Classical.byContradiction fun h2 => hc ⟨j, hj, h2⟩
  obtain ⟨i, hi, h2⟩ := this
  have hm : ∀ j, j < net.length → s.testBit j = true → (grow net A s).testBit j = true := fun j _ hj => (grow_testBit _ _ _ _).2 (.inl hj)
  cases hb : s.testBit i with
  | true => rw [hm i hi hb, hb] at h2; exact absurd rfl h2
  | false => cases hg : (grow net A s).testBit i with
    | false => rw [hb, hg] at h2; exact absurd rfl h2
    | true => exact card_lt hm hi hb hg
/-- After as many steps as places, less one that is there at first, nothing is new. -/
theorem Ok.steps_done {net : List Int} (h : Ok net) {A s : Nat} (hs : s < 2 ^ net.length) (m : Nat) (hm : net.length ≤ m + card net.length s) : grow net A (steps net A m s) = steps net A m s := by
  refine Classical.byContradiction fun hne => ?_
  have all : ∀ p, p ≤ m → grow net A (steps net A p s) ≠ steps net A p s := by
    intro p hp hf
    have := steps_fix hf m hp
    rw [this] at hne
    exact hne hf
  have more : ∀ p, p ≤ m + 1 → card net.length s + p ≤ card net.length (steps net A p s) := by
    intro p
    induction p with
    | zero => intro _; exact Nat.le_refl _
    | succ p ih =>
      intro hp
      have h1 := ih (by omega)
      have h2 := h.grow_more (h.steps_lt hs p) (all p (by omega))
      show _ ≤ card net.length (grow net A (steps net A p s))
      omega
  have h1 := more (m + 1) (Nat.le_refl _)
  have h2 := card_le net.length (steps net A (m + 1) s)
  omega
/-- The part of a place among A. -/
def part (net : List Int) (A i : Nat) : Nat := steps net A 6 (2 ^ i &&& A)
theorem Ok.start_lt {net : List Int} {A i : Nat} (hi : i < net.length) : 2 ^ i &&& A < 2 ^ net.length := by
  rw [Nat.and_comm]; exact Nat.and_lt_two_pow _ (Nat.pow_lt_pow_right (by omega) hi)
theorem Ok.part_fix {net : List Int} (h : Ok net) {A i : Nat} (hi : i < net.length) : grow net A (part net A i) = part net A i :=
  h.steps_done (Ok.start_lt hi) 6 (by have := h.hi; omega)
theorem Ok.part_testBit {net : List Int} (h : Ok net) {A i : Nat} (hi : i < net.length) (j : Nat) : (part net A i).testBit j = true ↔ Reach net A i j :=
  ⟨steps_reach 6, reach_steps (h.part_fix hi)⟩
theorem Reach.among {net : List Int} {A i j : Nat} (h : Reach net A i j) : A.testBit i = true ∧ A.testBit j = true := by
  induction h with
  | here h => exact ⟨h, h⟩
  | step _ _ _ ha ih => exact ⟨ih.1, ha⟩
theorem Reach.trans {net : List Int} {A i j k : Nat} (h1 : Reach net A i j) (h2 : Reach net A j k) : Reach net A i k := by
  induction h2 with
  | here _ => exact h1
  | step _ hj hn ha ih => exact .step ih hj hn ha
theorem Ok.nb_lt {net : List Int} (h : Ok net) {j k : Nat} (hj : j < net.length) (hn : (nb net j).testBit k = true) : k < net.length := testBit_lt (h.lt j hj) hn
theorem Reach.lt {net : List Int} (h : Ok net) {A i j : Nat} (hi : i < net.length) (hr : Reach net A i j) : j < net.length := by
  cases hr with
  | here _ => exact hi
  | step _ hj hn _ => exact h.nb_lt hj hn
theorem Reach.symm {net : List Int} (h : Ok net) {A i j : Nat} (hi : i < net.length) (hr : Reach net A i j) : Reach net A j i := by
  induction hr with
  | here ha => exact .here ha
  | step hij hj hn ha ih =>
    have hk := h.nb_lt hj hn
    have h2 : Reach net A _ _ := .step (.here ha) hk (by rw [h.sym _ _ hj hk]; exact hn) hij.among.2
    exact h2.trans ih

/-- All places. -/
def allOf (net : List Int) : Nat := 2 ^ net.length - 1
theorem allOf_testBit (net : List Int) (j : Nat) : (allOf net).testBit j = decide (j < net.length) := by unfold allOf; exact Nat.testBit_two_pow_sub_one _ _
theorem Ok.start_all {net : List Int} {i : Nat} (hi : i < net.length) : 2 ^ i &&& allOf net = 2 ^ i := by
  unfold allOf; exact Nat.and_two_pow_sub_one_of_lt_two_pow (Nat.pow_lt_pow_right (by omega) hi)
/-- The part of a place. -/
def comp (net : List Int) (i : Nat) : Nat := part net (allOf net) i
theorem card_pow {n i : Nat} (hi : i < n) : 1 ≤ card n (2 ^ i) := by
  have h := card_lt (n := n) (s := 0) (t := 2 ^ i) (fun j _ h => by simp at h) hi (by simp) (by simp [testBit_pow])
  omega
theorem Ok.comp_eq {net : List Int} (h : Ok net) {i m : Nat} (hi : i < net.length) (hm : net.length ≤ m + 1) : steps net (allOf net) m (2 ^ i) = comp net i := by
  have hf := h.steps_done (A := allOf net) (s := 2 ^ i) (Nat.pow_lt_pow_right (by omega) hi) m (by have := card_pow hi; omega)
  unfold comp part
  rw [Ok.start_all hi]
  by_cases hm6 : m ≤ 6
  · exact (steps_fix hf 6 hm6).symm
  · have h6 := h.part_fix (A := allOf net) hi
    unfold part at h6
    rw [Ok.start_all hi] at h6
    exact steps_fix h6 m (by omega)
theorem Ok.comp_testBit {net : List Int} (h : Ok net) {i : Nat} (hi : i < net.length) (j : Nat) : (comp net i).testBit j = true ↔ Reach net (allOf net) i j := h.part_testBit hi j
theorem Ok.comp_self {net : List Int} (h : Ok net) {i : Nat} (hi : i < net.length) : (comp net i).testBit i = true := (h.comp_testBit hi i).2 (.here (by rw [allOf_testBit]; simpa using hi))
theorem Ok.comp_same {net : List Int} (h : Ok net) {i j : Nat} (hi : i < net.length) (hj : j < net.length) (hij : (comp net i).testBit j = true) : comp net i = comp net j := by
  have h1 := (h.comp_testBit hi j).1 hij
  apply Nat.eq_of_testBit_eq
  intro k
  rw [Bool.eq_iff_iff, h.comp_testBit hi, h.comp_testBit hj]
  exact ⟨fun hr => (h1.symm h hi).trans hr, fun hr => h1.trans hr⟩
/-- How many parts: the places that are the least ones of their parts. -/
def parts (net : List Int) : Nat := fold net.length (fun a k => if (comp net k &&& (2 ^ k - 1)) = 0 then a + 1 else a) 0

end Go.Proofs.Ytcckjofnglbbeaa
/- Rows that count up, and the first one of a kind. Conditions: those of each theorem. -/
namespace Go.Proofs.Ytcckjofnglbbeaa
set_option linter.unusedVariables false
set_option linter.unusedSimpArgs false

/-- One more than the greatest number of a row. -/
def nx (r : List Nat) : Nat := r.foldl (fun t v => max t (v + 1)) 0
/-- Each number is at most one more than all ahead of it. -/
def RG (r : List Nat) : Prop := ∀ k, k < r.length → r.getD k 0 ≤ nx (r.take k)
theorem RG.nil : RG [] := fun k hk => by simp at hk
theorem getD_app_lt {r t : List Nat} {k : Nat} (hk : k < r.length) : (r ++ t).getD k 0 = r.getD k 0 := by simp [List.getD, List.getElem?_append_left hk]
theorem getD_app_end (r : List Nat) (v : Nat) : (r ++ [v]).getD r.length 0 = v := by simp [List.getD]
theorem take_app_le {r t : List Nat} {k : Nat} (hk : k ≤ r.length) : (r ++ t).take k = r.take k := by rw [List.take_append_of_le_length hk]
theorem RG.pre {r q : List Nat} (h : RG q) (hp : r <+: q) : RG r := by
  obtain ⟨t, rfl⟩ := hp
  intro k hk
  have := h k (by simp; omega)
  rwa [getD_app_lt hk, take_app_le (by omega)] at this
/-- Rows in the order of their numbers. -/
def LexLe (a b : List Nat) : Prop := a = b ∨ ∃ k, k < a.length ∧ a.take k = b.take k ∧ a.getD k 0 < b.getD k 0
theorem LexLe.antisymm {a b : List Nat} (h1 : LexLe a b) (h2 : LexLe b a) : a = b := by
  rcases h1 with h1 | ⟨k, hk, a1, a2⟩
  · exact h1
  · rcases h2 with h2 | ⟨j, hj, b1, b2⟩
    · exact h2.symm
    · exfalso
      have take_getD : ∀ {x y : List Nat} {m i : Nat}, x.take m = y.take m → i < m → x.getD i 0 = y.getD i 0 := by
        intro x y m i h hi
        have e : ∀ z : List Nat, (z.take m).getD i 0 = z.getD i 0 := fun z => by simp [List.getD, List.getElem?_take, hi]
        rw [← e x, ← e y, h]
      rcases Nat.lt_trichotomy k j with h | h | h
      · have := take_getD b1 h; omega
      · subst h; omega
      · have := take_getD a1 h; omega
structure IsFirst (P : List Nat → Prop) (o : List Nat) : Prop where
  mem : P o
  le : ∀ r, P r → LexLe o r
theorem IsFirst.uniq {P : List Nat → Prop} {a b : List Nat} (ha : IsFirst P a) (hb : IsFirst P b) : a = b := (ha.le b hb.mem).antisymm (hb.le a ha.mem)
/-- The first row of a kind that begins with a row, if there is one. -/
def FirstExt (P : List Nat → Prop) (r : List Nat) (o : Option (List Nat)) : Prop :=
  match o with
  | none => ∀ q, r <+: q → ¬ P q
  | some o => IsFirst (fun q => r <+: q ∧ P q) o
/-- Whole numbers of a row. -/
def nl (r : List Nat) : List Int := r.map fun v => ((v : Nat) : Int)
theorem nl_len (r : List Nat) : (nl r).length = r.length := by simp [nl]
theorem nl_at {r : List Nat} {k : Nat} (hk : k < r.length) : D.eli (nl r) k = ((r.getD k 0 : Nat) : Int) := by unfold D.eli nl; simp [List.getD, hk]
theorem nl_append (r : List Nat) (v : Nat) : nl (r ++ [v]) = nl r ++ [((v : Nat) : Int)] := by simp [nl]
theorem nl_inj {r q : List Nat} (h : nl r = nl q) : r = q := by
  have hl : r.length = q.length := by have := congrArg List.length h; simpa [nl] using this
  refine List.ext_getElem hl fun k h1 h2 => ?_
  have : D.eli (nl r) k = D.eli (nl q) k := by rw [h]
  rw [nl_at h1, nl_at h2] at this
  have e1 : r.getD k 0 = r[k] := by simp [List.getD, h1]
  have e2 : q.getD k 0 = q[k] := by simp [List.getD, h2]
  rw [e1, e2] at this
  omega
end Go.Proofs.Ytcckjofnglbbeaa
/- Logs: three bytes for each place. Plain facts. Conditions: those of each theorem. -/
namespace Go.Proofs.Ytcckjofnglbbeaa
open D Go.RowKit
set_option linter.unusedVariables false
set_option linter.unusedSimpArgs false

def rec3 (p k : Nat) : List Nat := [p + 1, k + 1, (p + 1) * (k + 7) % 251]
def logN : Nat → List Nat → List Nat
  | _, [] => []
  | k, p :: r => rec3 p k ++ logN (k + 1) r
theorem logN_len : ∀ (q : List Nat) (k : Nat), (logN k q).length = 3 * q.length
  | [], k => rfl
  | p :: r, k => by simp only [logN, List.length_append, logN_len r (k + 1), List.length_cons]; simp [rec3]; omega
theorem logN_snoc : ∀ (q : List Nat) (k p : Nat), logN k (q ++ [p]) = logN k q ++ rec3 p (k + q.length)
  | [], k, p => by simp [logN]
  | a :: r, k, p => by
    simp only [List.cons_append, logN, logN_snoc r (k + 1) p, List.length_cons, List.append_assoc]
    rw [show k + 1 + r.length = k + (r.length + 1) by omega]
/-- Is a whole record of a place there, behind so many? -/
def rin (log : List Nat) (k : Nat) : Bool := decide (k < 40) && (decide (3 * k + 3 ≤ log.length) && (decide (1 ≤ log.getD (3 * k) 0 ∧ log.getD (3 * k) 0 ≤ 6) && decide ((log.drop (3 * k)).take 3 = rec3 (log.getD (3 * k) 0 - 1) k)))
theorem rin_iff {log : List Nat} {k : Nat} : rin log k = true ↔ k < 40 ∧ 3 * k + 3 ≤ log.length ∧ (1 ≤ log.getD (3 * k) 0 ∧ log.getD (3 * k) 0 ≤ 6) ∧ (log.drop (3 * k)).take 3 = rec3 (log.getD (3 * k) 0 - 1) k := by
  unfold rin; simp only [Bool.and_eq_true, decide_eq_true_eq]
/-- How many records a log begins with. -/
def lpL (log : List Nat) : Nat := (find 41 (fun k => if rin log k = true then none else some k)).getD 0
theorem lpL_is (log : List Nat) : (∀ k, k < lpL log → rin log k = true) ∧ rin log (lpL log) = false ∧ lpL log ≤ 40 := by
  have h40 : rin log 40 = false := by unfold rin; simp
  unfold lpL
  cases hf : find 41 (fun k => if rin log k = true then none else some k) with
  | none =>
    have := find_none.1 hf 40 (by omega)
    rw [h40] at this; simp at this
  | some r =>
    have key : ∀ m, find m (fun k => if rin log k = true then none else some k) = some r → r < m ∧ rin log r = false ∧ ∀ k, k < r → rin log k = true := by
      intro m
      induction m with
      | zero => intro hx; cases hx
      | succ m ih =>
        intro hx
        rw [find_succ] at hx
        cases hy : find m (fun k => if rin log k = true then none else some k) with
        | some y =>
          rw [hy] at hx
          obtain ⟨a, b⟩ := ih (by rw [hy]; exact hx)
          exact ⟨by omega, b⟩
        | none =>
          rw [hy] at hx
          have hx : (if rin log m = true then none else some m) = some r := hx
          by_cases hr : rin log m = true
          · rw [if_pos hr] at hx; cases hx
          · rw [if_neg hr] at hx
            injection hx with hx
            subst hx
            refine ⟨by omega, by simpa using hr, fun k hk => ?_⟩
            have := find_none.1 hy k hk
            by_cases hk2 : rin log k = true
            · exact hk2
            · rw [if_neg hk2] at this; cases this
    obtain ⟨a, b, c⟩ := key 41 hf
    exact ⟨c, b, by simp only [Option.getD_some]; omega⟩
/-- The places of the records. -/
def lp (log : List Nat) : List Nat := (List.range (lpL log)).map fun k => log.getD (3 * k) 0 - 1
theorem lp_len (log : List Nat) : (lp log).length = lpL log := by simp [lp]
theorem lpL_bytes (log : List Nat) : 3 * lpL log ≤ log.length := by
  rcases Nat.eq_zero_or_pos (lpL log) with h | h
  · omega
  · have := (rin_iff.1 ((lpL_is log).1 (lpL log - 1) (by omega))).2.1
    omega
theorem take_three (log : List Nat) (k : Nat) : log.take (3 * (k + 1)) = log.take (3 * k) ++ (log.drop (3 * k)).take 3 := by
  rw [show 3 * (k + 1) = 3 * k + 3 by omega, List.take_add]
theorem lp_log (log : List Nat) : logN 0 (lp log) = log.take (3 * lpL log) := by
  have key : ∀ k, k ≤ lpL log → logN 0 ((List.range k).map fun k => log.getD (3 * k) 0 - 1) = log.take (3 * k) := by
    intro k
    induction k with
    | zero => intro _; simp [logN]
    | succ k ih =>
      intro hk
      have := rin_iff.1 ((lpL_is log).1 k (by omega))
      rw [List.range_succ, List.map_append, List.map_cons, List.map_nil, logN_snoc, ih (by omega), take_three, this.2.2.2]
      simp
  exact key _ (Nat.le_refl _)
theorem logN_at (q : List Nat) {k : Nat} (hk : k < q.length) : ((logN 0 q).drop (3 * k)).take 3 = rec3 (q.getD k 0) k := by
  have key : ∀ (q : List Nat) (j k : Nat), k < q.length → ((logN j q).drop (3 * k)).take 3 = rec3 (q.getD k 0) (j + k) := by
    intro q
    induction q with
    | nil => intro j k hk; simp at hk
    | cons p r ih =>
      intro j k hk
      cases k with
      | zero => simp [logN, rec3]
      | succ k =>
        have := ih (j + 1) k (by simpa using hk)
        rw [show 3 * (k + 1) = 3 + 3 * k by omega]
        simp only [logN]
        rw [← List.drop_drop]
        have e : (rec3 p j ++ logN (j + 1) r).drop 3 = logN (j + 1) r := by simp [rec3]
        rw [e, this, show j + 1 + k = j + (k + 1) by omega]
        simp [List.getD]
  simpa using key q 0 k hk
theorem getD_of_take3 {l : List Nat} {k a b c : Nat} (h : (l.drop k).take 3 = [a, b, c]) : l.getD k 0 = a := by
  have h0 : ((l.drop k).take 3)[0]? = some a := by rw [h]; rfl
  rw [List.getElem?_take, if_pos (by omega), List.getElem?_drop, Nat.add_zero] at h0
  simp [List.getD, h0]
/-- The bytes of places, cut anywhere. -/
theorem lp_cut {q : List Nat} (hl : q.length ≤ 40) (hq : ∀ p, p ∈ q → p < 6) {n : Nat} (hn : n ≤ 3 * q.length) : lpL ((logN 0 q).take n) = n / 3 ∧ lp ((logN 0 q).take n) = q.take (n / 3) := by
  have hlen : ((logN 0 q).take n).length = n := by rw [List.length_take, logN_len]; omega
  have at_ : ∀ k, 3 * k + 3 ≤ n → (((logN 0 q).take n).drop (3 * k)).take 3 = rec3 (q.getD k 0) k := fun k hk => by
    rw [← logN_at q (k := k) (by omega), List.drop_take, List.take_take]
    congr 1; omega
  have hat : ∀ k, 3 * k + 3 ≤ n → ((logN 0 q).take n).getD (3 * k) 0 = q.getD k 0 + 1 := fun k hk => getD_of_take3 (at_ k hk)
  have hin : ∀ k, 3 * k + 3 ≤ n → rin ((logN 0 q).take n) k = true := fun k hk => by
    have hkq : k < q.length := by omega
    have hmem : q.getD k 0 < 6 := hq _ (by simp [List.getD, hkq])
    exact rin_iff.2 ⟨by omega, by rw [hlen]; exact hk, by rw [hat k hk]; omega, by rw [hat k hk, at_ k hk]; rfl⟩
  have hL : lpL ((logN 0 q).take n) = n / 3 := by
    obtain ⟨a, b, c⟩ := lpL_is ((logN 0 q).take n)
    have h1 : ¬ lpL ((logN 0 q).take n) < n / 3 := fun hc => by
      rw [hin _ (by omega)] at b; cases b
    have h2 : ¬ n / 3 < lpL ((logN 0 q).take n) := fun hc => by
      have := (rin_iff.1 (a (n / 3) hc)).2.1
      rw [hlen] at this; omega
    omega
  refine ⟨hL, ?_⟩
  unfold lp
  rw [hL]
  refine List.ext_getElem (by simp; omega) fun k h1 h2 => ?_
  have hk : k < n / 3 := by simpa using h1
  have hkq : k < q.length := by omega
  rw [List.getElem_map, List.getElem_range, hat k (by omega), List.getElem_take]
  simp [List.getD, hkq]
/-- The bytes of a list of places, one after the other. -/
def logStep (l : List Int) (t : List Nat) (k : Nat) : List Nat ⊕ List Nat := if 0 ≤ D.eli l k ∧ D.eli l k < 6 then .inr (t ++ rec3 (D.eli l k).toNat k) else .inl t
theorem log_loop (l : List Int) : ∀ k, (∃ q : List Nat, q.length = k ∧ (∀ p, p ∈ q → p < 6) ∧ (∀ j, j < k → D.eli l j = ((q.getD j 0 : Nat) : Int)) ∧ loopE k (logStep l) [] = .inr (logN 0 q)) ∨
    ((∃ t, loopE k (logStep l) [] = .inl t) ∧ ¬ ∃ q : List Nat, q.length = k ∧ (∀ p, p ∈ q → p < 6) ∧ ∀ j, j < k → D.eli l j = ((q.getD j 0 : Nat) : Int)) := by
  intro k
  induction k with
  | zero => exact .inl ⟨[], rfl, fun p hp => by simp at hp, fun j hj => by omega, rfl⟩
  | succ k ih =>
    rcases ih with ⟨q, h1, h2, h3, h4⟩ | ⟨⟨t, h4⟩, h5⟩
    · rw [loopE_succ h4]
      unfold logStep
      by_cases hc : 0 ≤ D.eli l k ∧ D.eli l k < 6
      · rw [if_pos hc]
        left
        refine ⟨q ++ [(D.eli l k).toNat], by simp [h1], fun p hp => ?_, fun j hj => ?_, by rw [logN_snoc, h1, Nat.zero_add]⟩
        · rcases List.mem_append.1 hp with hp | hp
          · exact h2 p hp
          · rw [List.mem_singleton.1 hp]; omega
        · by_cases he : j < k
          · rw [getD_app_lt (by omega)]; exact h3 j he
          · obtain rfl : j = k := by omega
            rw [← h1, getD_app_end, h1]; omega
      · rw [if_neg hc]
        right
        refine ⟨⟨_, rfl⟩, ?_⟩
        rintro ⟨q2, p1, p2, p3⟩
        apply hc
        have e := p3 k (by omega)
        have hm : q2.getD k 0 ∈ q2 := by
          have : q2.getD k 0 = q2[k]'(by omega) := by simp [List.getD, show k < q2.length by omega]
          rw [this]; exact List.getElem_mem _
        have := p2 _ hm
        omega
    · right
      have : loopE (k + 1) (logStep l) [] = .inl t := by unfold loopE at h4 ⊢; rw [fold_succ, h4]
      refine ⟨⟨t, this⟩, ?_⟩
      rintro ⟨q, p1, p2, p3⟩
      refine h5 ⟨q.take k, by simp [p1], fun p hp => p2 p (List.mem_of_mem_take hp), fun j hj => ?_⟩
      rw [p3 j (by omega)]
      simp [List.getD, List.getElem?_take, hj]
theorem nl_of {l : List Int} {q : List Nat} (hl : q.length = l.length) (h : ∀ j, j < l.length → D.eli l j = ((q.getD j 0 : Nat) : Int)) : l = nl q := by
  refine List.ext_getElem (by rw [nl_len, hl]) fun k h1 h2 => ?_
  have e := h k h1
  have e2 := nl_at (r := q) (k := k) (by omega)
  rw [← e2] at e
  unfold D.eli at e
  simpa [List.getD, h1, h2] using e
/-- What the bytes of a list are. -/
noncomputable def logI (l : List Int) : List Nat := if l.length ≤ 40 then (match loopE l.length (logStep l) [] with | .inl _ => [] | .inr t => t) else []
theorem logI_is (l : List Int) : (∃ q : List Nat, l = nl q ∧ q.length ≤ 40 ∧ (∀ p, p ∈ q → p < 6) ∧ logI l = logN 0 q) ∨ (logI l = [] ∧ ¬ ∃ q : List Nat, l = nl q ∧ q.length ≤ 40 ∧ ∀ p, p ∈ q → p < 6) := by
  unfold logI
  by_cases h40 : l.length ≤ 40
  · rw [if_pos h40]
    rcases log_loop l l.length with ⟨q, h1, h2, h3, h4⟩ | ⟨⟨t, h4⟩, h5⟩
    · rw [h4]; exact .inl ⟨q, nl_of h1 h3, by omega, h2, rfl⟩
    · rw [h4]
      refine .inr ⟨rfl, fun ⟨q, e, hq, hp⟩ => h5 ⟨q, by rw [e, nl_len], hp, fun j hj => ?_⟩⟩
      rw [e, nl_len] at hj
      rw [e]; exact nl_at hj
  · rw [if_neg h40]
    refine .inr ⟨rfl, fun ⟨q, e, hq, _⟩ => ?_⟩
    rw [e, nl_len] at h40; omega
theorem logI_nl {q : List Nat} (hl : q.length ≤ 40) (hq : ∀ p, p ∈ q → p < 6) : logI (nl q) = logN 0 q := by
  rcases logI_is (nl q) with ⟨r, e, _, _, h⟩ | ⟨_, h⟩
  · rw [h, nl_inj e]
  · exact absurd ⟨q, rfl, hl, hq⟩ h
end Go.Proofs.Ytcckjofnglbbeaa
/- Loops that count, and Go's whole numbers as natural numbers. Conditions: those of each theorem. -/
namespace Go.Proofs.Ytcckjofnglbbeaa
open D Go.RowKit
set_option linter.unusedVariables false
set_option linter.unusedSimpArgs false

/-- A loop that counts from 0 to len and carries t. -/
theorem run_for {S T D : Type} {run : Nat → S → Option D} {len : Nat} (st : Nat → T → S) (f : T → Nat → T) (out : T → D) (Inv : Nat → T → Prop) (hl : len ≤ 100000000)
    (hs : ∀ n k t, k < len → Inv k t → run (n + 1) (st k t) = run n (st (k + 1) (f t k)) ∧ Inv (k + 1) (f t k))
    (he : ∀ n t, Inv len t → run (n + 1) (st len t) = some (out t)) {t0 : T} (h0 : Inv 0 t0) :
    run FUEL (st 0 t0) = some (out (fold len f t0)) ∧ Inv len (fold len f t0) := by
  have inv : ∀ k, k ≤ len → Inv k (fold k f t0) := by
    intro k
    induction k with
    | zero => intro _; exact h0
    | succ k ih => intro hk; rw [fold_succ]; exact (hs 0 k _ (by omega) (ih (by omega))).2
  have key : ∀ m k n, k + m = len → m < n → run n (st k (fold k f t0)) = some (out (fold len f t0)) := by
    intro m
    induction m with
    | zero =>
      intro k n hk hn
      obtain ⟨n, rfl⟩ : ∃ n', n = n' + 1 := ⟨n - 1, by omega⟩
      obtain rfl : k = len := by omega
      exact he n _ (inv k (Nat.le_refl _))
    | succ m ih =>
      intro k n hk hn
      obtain ⟨n, rfl⟩ : ∃ n', n = n' + 1 := ⟨n - 1, by omega⟩
      rw [(hs n k _ (by omega) (inv k (by omega))).1, ← fold_succ k f t0]
      exact ih (k + 1) n (by omega) (by omega)
  exact ⟨key len 0 FUEL (by omega) (by have := FUEL_le; omega), inv len (Nat.le_refl _)⟩
/-- The same for a loop that may leave early. -/
theorem run_forE {S T D Q : Type} {run : Nat → S → Option D} {len : Nat} (st : Nat → T → S) (f : T → Nat → Q ⊕ T) (outl : Q → D) (out : T → D) (Inv : Nat → T → Prop) (hl : len ≤ 100000000)
    (hs : ∀ n k t, k < len → Inv k t → match f t k with | .inl d => run (n + 1) (st k t) = some (outl d) | .inr t' => run (n + 1) (st k t) = run n (st (k + 1) t') ∧ Inv (k + 1) t')
    (he : ∀ n t, Inv len t → run (n + 1) (st len t) = some (out t)) {t0 : T} (h0 : Inv 0 t0) :
    run FUEL (st 0 t0) = some (match loopE len f t0 with | .inl d => outl d | .inr t => out t) ∧ ∀ t, loopE len f t0 = .inr t → Inv len t := by
  have left : ∀ m k d, k + m ≤ len → loopE k f t0 = .inl d → loopE (k + m) f t0 = .inl d := by
    intro m
    induction m with
    | zero => intro k d _ h; exact h
    | succ m ih =>
      intro k d hk h
      refine ih (k := k) d (by omega) h |> fun h2 => ?_
      show loopE (k + m + 1) f t0 = _
      unfold loopE at h2 ⊢
      rw [fold_succ, h2]
  have inv : ∀ k, k ≤ len → ∀ t, loopE k f t0 = .inr t → Inv k t := by
    intro k
    induction k with
    | zero => intro _ t h; cases h; exact h0
    | succ k ih =>
      intro hk t h
      cases hq : loopE k f t0 with
      | inl d => rw [left 1 k d (by omega) hq] at h; cases h
      | inr t1 =>
        rw [loopE_succ hq] at h
        have := hs 0 k t1 (by omega) (ih (by omega) t1 hq)
        rw [h] at this
        exact this.2
  have key : ∀ m k n t, k + m = len → m < n → loopE k f t0 = .inr t → run n (st k t) = some (match loopE len f t0 with | .inl d => outl d | .inr t => out t) := by
    intro m
    induction m with
    | zero =>
      intro k n t hk hn ht
      obtain ⟨n, rfl⟩ : ∃ n', n = n' + 1 := ⟨n - 1, by omega⟩
      obtain rfl : k = len := by omega
      rw [he n _ (inv k (Nat.le_refl _) t ht), ht]
    | succ m ih =>
      intro k n t hk hn ht
      obtain ⟨n, rfl⟩ : ∃ n', n = n' + 1 := ⟨n - 1, by omega⟩
      have h1 := hs n k t (by omega) (inv k (by omega) t ht)
      have h2 : loopE (k + 1) f t0 = f t k := loopE_succ ht
      cases hq : f t k with
      | inl d =>
        rw [hq] at h1 h2
        rw [show len = k + 1 + m by omega, left m (k + 1) d (by omega) h2]
        exact h1
      | inr t' =>
        rw [hq] at h1 h2
        rw [h1.1]
        exact ih (k + 1) n t' (by omega) (by omega) h2
  exact ⟨key len 0 FUEL t0 (by omega) (by have := FUEL_le; omega) rfl, inv len (Nat.le_refl _)⟩

/-! ### Go's numbers -/
theorem bits64 : IntKind.i64.bits = 64 := by kernel_rfl
theorem wrap_nat {a : Nat} (ha : a < 9223372036854775808) : IntKind.i64.wrap (a : Int) = a := i64_wrap_nat a ha
theorem shl_nat {a k : Nat} (h : a * 2 ^ k < 9223372036854775808) (hk : k < 64) : IntKind.i64.wrap ((a : Int) * 2 ^ min (k : Int).toNat IntKind.i64.bits) = ((a * 2 ^ k : Nat) : Int) := by
  rw [bits64, Int.toNat_natCast, Nat.min_eq_left (by omega), show (a : Int) * 2 ^ k = ((a * 2 ^ k : Nat) : Int) by simp]
  exact wrap_nat h
theorem one_shl {k : Nat} (hk : k < 63) : IntKind.i64.wrap (1 * 2 ^ min (k : Int).toNat IntKind.i64.bits) = ((2 ^ k : Nat) : Int) := by
  have h := shl_nat (a := 1) (k := k) (by have : (2 : Nat) ^ k ≤ 2 ^ 62 := Nat.pow_le_pow_right (by omega) (by omega); omega) (by omega)
  rw [Nat.one_mul] at h
  exact h
theorem shr_is (a k : Nat) (hk : k ≤ 64) : (a : Int).fdiv (2 ^ min (k : Int).toNat IntKind.i64.bits) = ((a / 2 ^ k : Nat) : Int) := by
  rw [bits64, Int.toNat_natCast, Nat.min_eq_left hk, Int.fdiv_eq_ediv_of_nonneg _ (by exact Int.le_of_lt (Int.pow_pos (by decide)))]
  simp
theorem tmod_nat (a b : Nat) : (a : Int).tmod (b : Int) = ((a % b : Nat) : Int) := by
  rw [Int.tmod_eq_emod_of_nonneg (Int.natCast_nonneg a)]; rfl
theorem tmod2_nat (a : Nat) : (a : Int).tmod 2 = ((a % 2 : Nat) : Int) := tmod_nat a 2
theorem tdiv2_nat (a : Nat) : (a : Int).tdiv 2 = ((a / 2 : Nat) : Int) := by
  rw [Int.tdiv_eq_ediv_of_nonneg (Int.natCast_nonneg a)]; rfl
theorem div_mod_bit (a k : Nat) : a / 2 ^ k % 2 = (a.testBit k).toNat := by
  rw [testBit_div]
  have : a / 2 ^ k % 2 = 0 ∨ a / 2 ^ k % 2 = 1 := by omega
  rcases this with h | h <;> simp [h]
/-- The bit of a set at a place, in the two ways that the texts have for it. -/
theorem bit_shr (a k : Nat) (hk : k ≤ 64) : ((a : Int).fdiv (2 ^ min (k : Int).toNat IntKind.i64.bits)).tmod 2 = ((a.testBit k).toNat : Int) := by
  rw [shr_is a k hk, tmod2_nat, div_mod_bit]
theorem bit_shr1 (a k : Nat) (hk : k ≤ 64) : bits .and .i64 ((a : Int).fdiv (2 ^ min (k : Int).toNat IntKind.i64.bits)) 1 = ((a.testBit k).toNat : Int) := by
  rw [i64_and1, shr_is a k hk, ← div_mod_bit]; rfl
theorem bool_eq0 (b : Bool) : (((b.toNat : Nat) : Int) == 0) = !b := by cases b <;> rfl
theorem nat_beq (a b : Nat) : ((a : Int) == (b : Int)) = (a == b) := by rw [Bool.eq_iff_iff, beq_iff_eq, beq_iff_eq]; omega
theorem add_nat {a b : Nat} (h : a + b < 9223372036854775808) : IntKind.i64.wrap ((a : Int) + (b : Int)) = ((a + b : Nat) : Int) := wrap_nat h
theorem add1_nat {a : Nat} (h : a + 1 < 9223372036854775808) : IntKind.i64.wrap ((a : Int) + 1) = ((a + 1 : Nat) : Int) := wrap_nat h
theorem sub_nat {a b : Nat} (h : b ≤ a) (ha : a < 9223372036854775808) : IntKind.i64.wrap ((a : Int) - (b : Int)) = ((a - b : Nat) : Int) := by
  rw [show (a : Int) - (b : Int) = ((a - b : Nat) : Int) by omega]; exact wrap_nat (by omega)
theorem sub1_nat {a : Nat} (h : 1 ≤ a) (ha : a < 9223372036854775808) : IntKind.i64.wrap ((a : Int) - 1) = ((a - 1 : Nat) : Int) := sub_nat (b := 1) h ha
theorem div2_nat {a : Nat} (h : a < 9223372036854775808) : IntKind.i64.wrap ((a : Int).tdiv 2) = ((a / 2 : Nat) : Int) := by
  rw [tdiv2_nat]; exact wrap_nat (by omega)
theorem pow2_lt {k : Nat} (hk : k ≤ 62) : 2 ^ k < 9223372036854775808 := by
  have : (2 : Nat) ^ k ≤ 2 ^ 62 := Nat.pow_le_pow_right (by omega) hk
  omega
end Go.Proofs.Ytcckjofnglbbeaa
/- Finite sums of natural numbers, and how many there are of a kind. Conditions: those of each theorem. -/
namespace Go.Proofs.Ytcckjofnglbbeaa
set_option linter.unusedVariables false
set_option linter.unusedSimpArgs false

/-- f 0 + .. + f (n - 1). -/
def sumN : Nat → (Nat → Nat) → Nat
  | 0, _ => 0
  | n + 1, f => sumN n f + f n
theorem sumN_congr {n : Nat} {f g : Nat → Nat} (h : ∀ k, k < n → f k = g k) : sumN n f = sumN n g := by
  induction n with
  | zero => rfl
  | succ n ih => simp only [sumN]; rw [ih (fun k hk => h k (by omega)), h n (by omega)]
theorem sumN_le {n : Nat} {f g : Nat → Nat} (h : ∀ k, k < n → f k ≤ g k) : sumN n f ≤ sumN n g := by
  induction n with
  | zero => exact Nat.le_refl _
  | succ n ih =>
    have h1 := ih (fun k hk => h k (by omega))
    have h2 := h n (by omega)
    simp only [sumN]; omega
theorem sumN_add (n : Nat) (f g : Nat → Nat) : sumN n (fun k => f k + g k) = sumN n f + sumN n g := by
  induction n with
  | zero => rfl
  | succ n ih => simp only [sumN]; omega
theorem sumN_const (n c : Nat) : sumN n (fun _ => c) = n * c := by
  induction n with
  | zero => simp [sumN]
  | succ n ih => simp only [sumN]; rw [ih, Nat.succ_mul]
/-- How many below n are of a kind. -/
def cnt (n : Nat) (p : Nat → Bool) : Nat := sumN n (fun k => (p k).toNat)
theorem cnt_le (n : Nat) (p : Nat → Bool) : cnt n p ≤ n := by
  have := sumN_le (n := n) (f := fun k => (p k).toNat) (g := fun _ => 1) (fun k _ => by cases p k <;> decide)
  rw [sumN_const] at this
  unfold cnt; omega
theorem cnt_mono {n : Nat} {p q : Nat → Bool} (h : ∀ k, k < n → p k = true → q k = true) : cnt n p ≤ cnt n q :=
  sumN_le fun k hk => by
    have := h k hk
    cases hp : p k with
    | false => exact Nat.zero_le _
    | true => rw [this hp]; exact Nat.le_refl _
theorem cnt_congr {n : Nat} {p q : Nat → Bool} (h : ∀ k, k < n → p k = q k) : cnt n p = cnt n q := sumN_congr fun k hk => by rw [h k hk]
theorem cnt_true (n : Nat) : cnt n (fun _ => true) = n := by
  show sumN n (fun _ => 1) = n
  rw [sumN_const]; omega
theorem card_sum (n s : Nat) : card n s = cnt n (fun k => s.testBit k) := by
  unfold cnt
  induction n with
  | zero => rfl
  | succ n ih => rw [card_succ, ih]; simp only [sumN]; cases s.testBit n <;> rfl
end Go.Proofs.Ytcckjofnglbbeaa
/- Watches: plain facts of nets and sets of their places. Conditions: those of each theorem. -/
namespace Go.Proofs.Ytcckjofnglbbeaa
set_option linter.unusedVariables false
set_option linter.unusedSimpArgs false

theorem allOf_lt (net : List Int) : allOf net < 2 ^ net.length := by
  unfold allOf
  have : 0 < 2 ^ net.length := Nat.two_pow_pos _
  omega
/-- Does a set watch the net? -/
def W (net : List Int) (s : Nat) : Bool := seen net s == allOf net
/-! ### Without one place -/
theorem bits_sub : ∀ s, s < 64 → ∀ k, k < 6 → s.testBit k = true → s - 2 ^ k < 64 ∧ 2 ^ k ≤ s ∧ size (s - 2 ^ k) + 1 = size s ∧ ∀ j, j < 6 → (s - 2 ^ k).testBit j = (s.testBit j && !decide (j = k)) := by decide +kernel
theorem bits_or : ∀ s, s < 64 → ∀ k, k < 6 → s.testBit k = false → size (s ||| 2 ^ k) = size s + 1 := by decide +kernel
theorem bits_minus : ∀ s, s < 64 → ∀ k, k < 6 → minus s (2 ^ k) = if s.testBit k = true then s - 2 ^ k else s := by decide +kernel
theorem testBit_big {s j : Nat} (hs : s < 64) (hj : 6 ≤ j) : s.testBit j = false := by
  cases h : s.testBit j with
  | false => rfl
  | true => have := testBit_lt (n := 6) hs h; omega
theorem sub_testBit {s k : Nat} (hs : s < 64) (hk : k < 6) (hb : s.testBit k = true) (j : Nat) : (s - 2 ^ k).testBit j = (s.testBit j && !decide (j = k)) := by
  have h := bits_sub s hs k hk hb
  by_cases hj : j < 6
  · exact h.2.2.2 j hj
  · rw [testBit_big h.1 (by omega), testBit_big hs (by omega)]; rfl
theorem sub_lt {s k n : Nat} (hs : s < 2 ^ n) : s - 2 ^ k < 2 ^ n := Nat.lt_of_le_of_lt (Nat.sub_le _ _) hs

/-- A watch that needs each of its places. -/
def least (net : List Int) (s : Nat) : Bool := W net s && (List.range net.length).all fun k => !(s.testBit k && W net (s - 2 ^ k))
theorem lt64 {net : List Int} (h : Ok net) {s : Nat} (hs : s < 2 ^ net.length) : s < 64 := Nat.lt_of_lt_of_le hs h.pow
end Go.Proofs.Ytcckjofnglbbeaa
/- The fewest guards of watches, and how many watches there are. Conditions: those of each theorem. -/
namespace Go.Proofs.Ytcckjofnglbbeaa
set_option linter.unusedVariables false
set_option linter.unusedSimpArgs false

theorem size_cnt {net : List Int} (h : Ok net) {s : Nat} (hs : s < 2 ^ net.length) : size s = cnt net.length (fun k => s.testBit k) := by
  rw [h.size_eq hs, card_sum]
/-- So many places has the smallest watch. -/
structure Few (net : List Int) (m : Nat) : Prop where
  ex : ∃ s, s < 2 ^ net.length ∧ W net s = true ∧ size s = m
  le : ∀ s, s < 2 ^ net.length → W net s = true → m ≤ size s
theorem Few.uniq {net : List Int} {a b : Nat} (ha : Few net a) (hb : Few net b) : a = b := by
  obtain ⟨s, h1, h2, h3⟩ := ha.ex
  obtain ⟨t, g1, g2, g3⟩ := hb.ex
  have := ha.le t g1 g2
  have := hb.le s h1 h2
  omega
/-- The least place of a part. -/
def root (net : List Int) (k : Nat) : Bool := (comp net k &&& (2 ^ k - 1)) == 0
theorem root_iff {net : List Int} {k : Nat} : root net k = true ↔ ∀ j, j < k → (comp net k).testBit j = false := by
  unfold root
  rw [beq_iff_eq]
  constructor
  · intro he j hj
    have : (comp net k &&& (2 ^ k - 1)).testBit j = false := by rw [he, Nat.zero_testBit]
    rw [Nat.testBit_and, Nat.testBit_two_pow_sub_one] at this
    simpa [hj] using this
  · intro ha
    apply Nat.eq_of_testBit_eq
    intro j
    rw [Nat.zero_testBit, Nat.testBit_and, Nat.testBit_two_pow_sub_one]
    by_cases hj : j < k
    · rw [ha j hj]; rfl
    · simp [hj]
/-! ### How many watches there are -/
end Go.Proofs.Ytcckjofnglbbeaa
/- Sweeps over a list of marks until nothing turns: the greatest set that holds itself. Conditions: those of each theorem. -/
namespace Go.Proofs.Ytcckjofnglbbeaa
set_option linter.unusedVariables false
set_option linter.unusedSimpArgs false

theorem elb_set {l : List Bool} {k j : Nat} {b : Bool} (hk : k < l.length) : D.elb (l.set k b) j = if j = k then b else D.elb l j := by
  unfold D.elb
  by_cases hj : j = k
  · subst hj; simp [List.getD, hk]
  · rw [if_neg hj]
    simp [List.getD, List.getElem?_set_ne (fun e => hj e.symm)]
theorem elb_eq {l : List Bool} {k : Nat} (hk : k < l.length) : D.elb l k = l[k] := by unfold D.elb; simp [List.getD, hk]
theorem elb_ext {l m : List Bool} (hl : l.length = m.length) (h : ∀ k, k < l.length → D.elb l k = D.elb m k) : l = m := by
  refine List.ext_getElem hl (fun k h1 h2 => ?_)
  have := h k h1
  rw [elb_eq h1, elb_eq h2] at this
  exact this
/-- How many marks. -/
def trues (l : List Bool) : Nat := l.countP id
theorem trues_le (l : List Bool) : trues l ≤ l.length := List.countP_le_length
theorem trues_set {l : List Bool} : ∀ {k : Nat}, k < l.length → D.elb l k = true → trues (l.set k false) + 1 = trues l := by
  induction l with
  | nil => intro k hk; simp at hk
  | cons b l ih =>
    intro k hk hb
    cases k with
    | zero =>
      have : b = true := by simpa [D.elb, List.getD] using hb
      subst this
      simp [trues]
    | succ k =>
      have h1 : D.elb l k = true := by simpa [D.elb, List.getD] using hb
      have := ih (by simpa using hk) h1
      simp only [List.set_cons_succ, trues, List.countP_cons] at this ⊢
      omega
def sweepStep (H : List Bool → Nat → Bool) (t : Bool × List Bool) (s : Nat) : Bool × List Bool := if (D.elb t.2 s && !H t.2 s) = true then (true, t.2.set s false) else t
def sweep (H : List Bool → Nat → Bool) (N : Nat) (l : List Bool) : Bool × List Bool := fold N (sweepStep H) (false, l)
/-- What stands of a sweep. -/
structure SweepI (H : List Bool → Nat → Bool) (l : List Bool) (k : Nat) (t : Bool × List Bool) : Prop where
  len : t.2.length = l.length
  no : t.1 = false → t.2 = l ∧ ∀ s, s < k → D.elb l s = true → H l s = true
  yes : t.1 = true → trues t.2 < trues l
theorem sweepI_step {H : List Bool → Nat → Bool} {l : List Bool} {k : Nat} {t : Bool × List Bool} (hk : k < l.length) (h : SweepI H l k t) : SweepI H l (k + 1) (sweepStep H t k) := by
  obtain ⟨a, m⟩ := t
  have hl := h.len
  simp only at hl
  unfold sweepStep
  cases hc : D.elb m k && !H m k with
  | false =>
    rw [if_neg (by simp)]
    refine ⟨h.len, fun ha => ?_, h.yes⟩
    obtain ⟨e1, e2⟩ := h.no ha
    simp only at e1
    subst e1
    refine ⟨rfl, fun s hs hb => ?_⟩
    by_cases he : s = k
    · subst he
      simp only [hb, Bool.true_and, Bool.not_eq_false'] at hc
      exact hc
    · exact e2 s (by omega) hb
  | true =>
    rw [if_pos rfl]
    simp only [Bool.and_eq_true] at hc
    have h1 := trues_set (l := m) (k := k) (by omega) hc.1
    refine ⟨by simp [hl], fun ha => (by cases ha), fun _ => ?_⟩
    show trues (m.set k false) < trues l
    cases a with
    | true => have := h.yes rfl; simp only at this; omega
    | false => obtain ⟨e1, _⟩ := h.no rfl; simp only at e1; subst e1; omega
theorem sweepI_fold (H : List Bool → Nat → Bool) (l : List Bool) : ∀ k, k ≤ l.length → SweepI H l k (fold k (sweepStep H) (false, l)) := by
  intro k
  induction k with
  | zero => intro _; exact ⟨rfl, fun _ => ⟨rfl, fun s hs => by omega⟩, fun h => (by cases h)⟩
  | succ k ih => intro hk; rw [fold_succ]; exact sweepI_step (by omega) (ih (by omega))
/-- What holds itself in all that has it is kept. -/
theorem sweep_keep {H : List Bool → Nat → Bool} {N : Nat} {G : Nat → Prop} (hG : ∀ m : List Bool, m.length = N → (∀ s, s < N → G s → D.elb m s = true) → ∀ s, s < N → G s → H m s = true)
    {l : List Bool} (hl : l.length = N) (hin : ∀ s, s < N → G s → D.elb l s = true) : ∀ k, k ≤ N → (fold k (sweepStep H) (false, l)).2.length = N ∧ ∀ s, s < N → G s → D.elb (fold k (sweepStep H) (false, l)).2 s = true := by
  intro k
  induction k with
  | zero => intro _; exact ⟨hl, hin⟩
  | succ k ih =>
    intro hk
    obtain ⟨a, b⟩ := ih (by omega)
    rw [fold_succ]
    generalize fold k (sweepStep H) (false, l) = t at a b ⊢
    unfold sweepStep
    cases hc : D.elb t.2 k && !H t.2 k with
    | false => rw [if_neg (by simp)]; exact ⟨a, b⟩
    | true =>
      rw [if_pos rfl]
      refine ⟨by simp [a], fun s hs hg => ?_⟩
      show D.elb (t.2.set k false) s = true
      rw [elb_set (by omega)]
      by_cases he : s = k
      · subst he
        have := hG t.2 a b s hs hg
        rw [this] at hc; simp at hc
      · rw [if_neg he]; exact b s hs hg
/-- Sweeps until nothing turns. -/
theorem settles {H : List Bool → Nat → Bool} {N : Nat} {G : Nat → Prop} (hG : ∀ m : List Bool, m.length = N → (∀ s, s < N → G s → D.elb m s = true) → ∀ s, s < N → G s → H m s = true)
    {run : Nat → Bool × List Bool → Option (List Bool)} (h1 : ∀ n l, l.length = N → run (n + 1) (true, l) = run n (sweep H N l)) (h0 : ∀ n l, run (n + 1) (false, l) = some l) :
    ∀ (c : Nat) (l : List Bool), l.length = N → trues l ≤ c → (∀ s, s < N → G s → D.elb l s = true) → ∀ n, c + 2 ≤ n →
      ∃ m, run n (true, l) = some m ∧ m.length = N ∧ (∀ s, s < N → G s → D.elb m s = true) ∧ ∀ s, s < N → D.elb m s = true → H m s = true := by
  intro c
  induction c with
  | zero =>
    intro l hl hc hin n hn
    obtain ⟨n, rfl⟩ : ∃ q, n = q + 2 := ⟨n - 2, by omega⟩
    have hS := sweepI_fold H l N (by omega)
    have hK := sweep_keep hG hl hin N (Nat.le_refl _)
    rw [h1 _ l hl]
    unfold sweep
    generalize fold N (sweepStep H) (false, l) = t at hS hK ⊢
    obtain ⟨a, m⟩ := t
    cases a with
    | true => have := hS.yes rfl; omega
    | false =>
      obtain ⟨e1, e2⟩ := hS.no rfl
      simp only at e1
      subst e1
      exact ⟨m, h0 _ _, hl, hin, e2⟩
  | succ c ih =>
    intro l hl hc hin n hn
    obtain ⟨n, rfl⟩ : ∃ q, n = q + 2 := ⟨n - 2, by omega⟩
    have hS := sweepI_fold H l N (by omega)
    have hK := sweep_keep hG hl hin N (Nat.le_refl _)
    rw [h1 _ l hl]
    unfold sweep
    generalize fold N (sweepStep H) (false, l) = t at hS hK ⊢
    obtain ⟨a, m⟩ := t
    cases a with
    | true =>
      have := hS.yes rfl
      simp only at this
      exact ih m hK.1 (by omega) hK.2 (n + 1) (by omega)
    | false =>
      obtain ⟨e1, e2⟩ := hS.no rfl
      simp only at e1
      subst e1
      exact ⟨m, h0 _ _, hl, hin, e2⟩

end Go.Proofs.Ytcckjofnglbbeaa
