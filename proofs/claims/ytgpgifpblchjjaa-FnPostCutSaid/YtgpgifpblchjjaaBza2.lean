/- Several texts in one: Draw2, Call, Back, Loc. Conditions: those of each theorem. -/
import Derived.Test.YtgpgifpblchjjaaBza1
/- Regions whose order is drawn: every order comes to the same (the walk over all orders). Conditions: those of each theorem. -/
namespace Go.Proofs.Ytgpgifpblchjjaa.D
open Go.RowKit
set_option linter.unusedVariables false
set_option linter.unusedSimpArgs false

section
variable {P : Program} {TD : TypeId → Option TI} {K : FuncId → List V → List E → (V → List E → R) → R}

/-- One operation in the written order. -/
def StepC (TD : TypeId → Option TI) (K : FuncId → List V → List E → (V → List E → R) → R) (ops : Array Oper) (o : Oper) (σ σ' : St) (v : V) : Prop :=
  (∀ t, getT σ'.t t = if o.dst = some t ∧ t < σ.n then v else getT σ.t t) ∧ σ'.n = σ.n ∧
  ((∃ g want t, o.guard = some (g, want) ∧ (ops[g]?).bind (·.dst) = some t ∧ (getT σ.t t = .tup [] ∨ ∃ b, getT σ.t t = .bool b ∧ (b == want) = false) ∧ v = .tup [] ∧ σ'.h = σ.h) ∨
   (∃ σ1 : St, (∀ t, getT σ1.t t = getT σ.t t) ∧ σ1.h = σ.h ∧ (∀ κ2, opC TD K o σ1 κ2 = κ2 v σ'.h) ∧
     (o.guard = none ∨ ∃ g want t b, o.guard = some (g, want) ∧ (ops[g]?).bind (·.dst) = some t ∧ getT σ.t t = .bool b ∧ (b == want) = true)))

theorem put_get (σ : St) (d : Option Nat) (v : V) : (∀ t, getT (σ.put d v).t t = if d = some t ∧ t < σ.n then v else getT σ.t t) ∧ (σ.put d v).n = σ.n ∧ (σ.put d v).h = σ.h := by
  cases d with
  | none => exact ⟨fun t => by simp [St.put], rfl, rfl⟩
  | some n =>
    unfold St.put
    by_cases hn : n < σ.n
    · have hb : Nat.blt n σ.n = true := by simpa [Nat.blt_eq] using hn
      simp only [hb, cond_true]
      refine ⟨fun t => ?_, by first | rfl | trivial, by first | rfl | trivial⟩
      rw [getT_putT]
      by_cases ht : n = t
      · subst ht; simp [hn]
      · simp [ht]
    · have hb : Nat.blt n σ.n = false := by
        cases hx : Nat.blt n σ.n with
        | false => rfl
        | true => rw [Nat.blt_eq] at hx; omega
      simp only [hb, cond_false]
      refine ⟨fun t => ?_, by first | rfl | trivial, by first | rfl | trivial⟩
      by_cases ht : n = t
      · subst ht; simp [hn]
      · simp [ht]
theorem put_known {σ : St} {t : Nat} {b : Bool} (hb : getT σ.t t = .bool b) : (∀ u, getT (σ.put (some t) (.bool b)).t u = getT σ.t u) ∧ (σ.put (some t) (.bool b)).n = σ.n ∧ (σ.put (some t) (.bool b)).h = σ.h := by
  obtain ⟨h1, h2, h3⟩ := put_get σ (some t) (.bool b)
  refine ⟨fun u => ?_, h2, h3⟩
  rw [h1]
  split
  · rename_i hh
    obtain ⟨e, _⟩ := hh
    cases e
    exact hb.symm
  · rfl

theorem trace_of (hK : KOk P K) {ops : Array Oper} {κ : St → R} {r : V × List E} : ∀ (l : List Oper) (σ : St), opsC TD K ops l σ κ = some r →
    ∃ (S : Nat → St) (val : Nat → V), S 0 = σ ∧ (∀ i, i < l.length → StepC TD K ops (l.getD i default) (S i) (S (i + 1)) (val i)) ∧ κ (S l.length) = some r := by
  intro l
  induction l with
  | nil => intro σ h; exact ⟨fun _ => σ, fun _ => .junk, rfl, fun i hi => by simp at hi, h⟩
  | cons o l ih =>
    intro σ h
    have fin : ∀ (σ' : St) (v : V), StepC TD K ops o σ σ' v → opsC TD K ops l σ' κ = some r →
        ∃ (S : Nat → St) (val : Nat → V), S 0 = σ ∧ (∀ i, i < (o :: l).length → StepC TD K ops ((o :: l).getD i default) (S i) (S (i + 1)) (val i)) ∧ κ (S (o :: l).length) = some r := by
      intro σ' v hs hl
      obtain ⟨S, val, h1, h2, h3⟩ := ih σ' hl
      refine ⟨fun i => match i with | 0 => σ | i + 1 => S i, fun i => match i with | 0 => v | i + 1 => val i, rfl, fun i hi => ?_, h3⟩
      cases i with
      | zero => simp only [List.getD_cons_zero]; rw [h1]; exact hs
      | succ i => simp only [List.getD_cons_succ]; exact h2 i (by simpa using hi)
    have exec : ∀ (σ1 : St), (∀ t, getT σ1.t t = getT σ.t t) → σ1.n = σ.n → σ1.h = σ.h → (o.guard = none ∨ ∃ g want t b, o.guard = some (g, want) ∧ (ops[g]?).bind (·.dst) = some t ∧ getT σ.t t = .bool b ∧ (b == want) = true) →
        opC TD K o σ1 (fun v h => opsC TD K ops l (St.put { σ1 with h } o.dst v) κ) = some r →
        ∃ (S : Nat → St) (val : Nat → V), S 0 = σ ∧ (∀ i, i < (o :: l).length → StepC TD K ops ((o :: l).getD i default) (S i) (S (i + 1)) (val i)) ∧ κ (S (o :: l).length) = some r := by
      intro σ1 g1 g2 g3 hg h1
      obtain ⟨v, h', e1, e2⟩ := opC_det hK.law h1
      obtain ⟨p1, p2, p3⟩ := put_get { σ1 with h := h' } o.dst v
      refine fin _ v ⟨fun t => ?_, p2.trans g2, .inr ⟨σ1, g1, g3, fun κ2 => ?_, hg⟩⟩ e1
      · rw [p1 t]
        show (if o.dst = some t ∧ t < σ1.n then v else getT σ1.t t) = _
        rw [g2, g1]
      · rw [p3]; exact e2 κ2
    have skip : ∀ (g : Nat) (want : Bool) (t : Nat) (b : Bool), o.guard = some (g, want) → (ops[g]?).bind (·.dst) = some t → getT σ.t t = .bool b → (b == want) = false →
        opsC TD K ops l ((σ.put (some t) (.bool b)).put o.dst (.tup [])) κ = some r →
        ∃ (S : Nat → St) (val : Nat → V), S 0 = σ ∧ (∀ i, i < (o :: l).length → StepC TD K ops ((o :: l).getD i default) (S i) (S (i + 1)) (val i)) ∧ κ (S (o :: l).length) = some r := by
      intro g want t b e1 e2 e3 e4 hl
      obtain ⟨k1, k2, k3⟩ := put_known e3
      obtain ⟨p1, p2, p3⟩ := put_get (σ.put (some t) (.bool b)) o.dst (.tup [])
      refine fin _ (.tup []) ⟨fun u => ?_, p2.trans k2, .inl ⟨g, want, t, e1, e2, .inr ⟨b, e3, e4⟩, rfl, p3.trans k3⟩⟩ hl
      rw [p1 u, k1 u, k2]
    unfold opsC at h
    split at h
    · rename_i hg
      exact exec σ (fun _ => rfl) rfl rfl (.inl hg) h
    · rename_i g want hg
      split at h
      · rename_i t ht
        split at h
        · rename_i b hb
          obtain ⟨k1, k2, k3⟩ := put_known hb
          cases b with
          | true =>
            rw [cond_true] at h
            cases want with
            | true => exact exec _ k1 k2 k3 (.inr ⟨g, true, t, true, hg, ht, hb, rfl⟩) h
            | false => exact skip g false t true hg ht hb rfl h
          | false =>
            rw [cond_false] at h
            cases want with
            | true => exact skip g true t false hg ht hb rfl h
            | false => exact exec _ k1 k2 k3 (.inr ⟨g, false, t, false, hg, ht, hb, rfl⟩) h
        · rename_i hb
          obtain ⟨p1, p2, p3⟩ := put_get σ o.dst (.tup [])
          exact fin _ (.tup []) ⟨p1, p2, .inl ⟨g, want, t, hg, ht, .inl hb, rfl, p3⟩⟩ h
        · cases h
      · cases h

theorem mask_bit {o : Oper} {M : List Nat} {i : Nat} (h : (maskOf o M).testBit i = true) : ∃ e ∈ o.after, Region.binds .any e = true ∧ (e.on = i ∨ (M.getD e.on 0).testBit i = true) := by
  have key : ∀ (l : List Edge) (s : Nat), (l.foldl (fun s e => bif Region.binds .any e then (s ||| 2 ^ e.on) ||| M.getD e.on 0 else s) s).testBit i = true →
      s.testBit i = true ∨ ∃ e ∈ l, Region.binds .any e = true ∧ (e.on = i ∨ (M.getD e.on 0).testBit i = true) := by
    intro l
    induction l with
    | nil => intro s h; exact .inl h
    | cons e l ih =>
      intro s h
      simp only [List.foldl_cons] at h
      rcases ih _ h with h1 | ⟨e', h1, h2⟩
      · cases hb : Region.binds .any e with
        | false => rw [hb, cond_false] at h1; exact .inl h1
        | true =>
          rw [hb, cond_true, Nat.testBit_or, Nat.testBit_or, Nat.testBit_two_pow] at h1
          simp only [Bool.or_eq_true, decide_eq_true_eq] at h1
          rcases h1 with (h1 | h1) | h1
          · exact .inl h1
          · exact .inr ⟨e, by simp, hb, .inl h1⟩
          · exact .inr ⟨e, by simp, hb, .inr h1⟩
      · exact .inr ⟨e', by simp [h1], h2⟩
  rcases key o.after.toList 0 h with h1 | ⟨e, h1, h2⟩
  · simp at h1
  · exact ⟨e, by simpa using h1, h2⟩

/-- What the check of a drawn region says. -/
structure DrawD (TD : TypeId → Option TI) (pureF rowsF addF : FuncId → Bool) (ops : Array Oper) (M : List Nat) : Prop where
  mask : ∀ j o, ops[j]? = some o → M.getD j 0 = maskOf o M
  lt : ∀ j o, ops[j]? = some o → ∀ e ∈ o.after, Region.binds .any e = true → e.on < j
  pair : ∀ i j oi oj, ops[i]? = some oi → ops[j]? = some oj → i ≠ j → pairOk TD pureF rowsF addF ops M i j oi oj = true

theorem drawOk_spec {pf : FuncId → Bool × Bool × Bool} {ops : Array Oper} (h : drawOk TD pf ops = true) : DrawD TD (fun f => (pf f).1) (fun f => (pf f).2.1) (fun f => (pf f).2.2) ops (reachL ops.toList []) := by
  unfold drawOk at h
  simp only [List.all_eq_true, List.mem_range] at h
  have hj : ∀ j oj, ops[j]? = some oj → _ := fun j oj ho => by
    have := h j (Array.getElem?_eq_some_iff.1 ho).1
    rw [ho] at this
    exact this
  refine ⟨fun j o ho => ?_, fun j o ho e he hb => ?_, fun i j oi oj hi ho hne => ?_⟩
  · have := hj j o ho
    simp only [Bool.and_eq_true] at this
    exact Nat.eq_of_beq_eq_true this.1.1.1
  · have := hj j o ho
    simp only [Bool.and_eq_true, List.all_eq_true] at this
    have h2 := this.1.1.2 e (by simpa using he)
    simp [hb, Nat.blt_eq] at h2
    exact h2
  · have := hj j oj ho
    simp only [Bool.and_eq_true, List.all_eq_true, List.mem_range] at this
    have h2 := this.2 i (Array.getElem?_eq_some_iff.1 hi).1
    rw [hi] at h2
    simp only [Bool.or_eq_true] at h2
    rcases h2 with h2 | h2
    · exact absurd (Nat.eq_of_beq_eq_true h2) hne
    · exact h2

theorem free_quiet {pureF : FuncId → Bool} {op : Op} (h : heapFree TD op = true) : quietOp TD pureF op = true := by
  cases op <;> first | (simp [heapFree] at h; done) | rfl | exact h | skip
  case call c =>
    obtain ⟨callee, cargs, cats⟩ := c
    cases callee with
    | builtin b => cases b <;> first | (simp [heapFree] at h; done) | rfl
    | _ => simp [heapFree] at h

/-- A draw turns nothing. -/
def Cx.drew (c : Cx) : Cx := { c with w := { c.w with drawn := c.w.drawn + 1 } }
theorem ext_drew (c : Cx) : Ext c c.drew := ⟨rfl, rfl, rfl, rfl, Nat.le_refl _, fun _ _ _ => rfl, fun _ h => .inl h, Nat.le_refl _, fun _ _ => ⟨rfl, sameE_refl _⟩⟩
theorem rel_drew {c : Cx} (hr : Rel c) : Rel c.drew :=
  ⟨hr.one, fun i hi => (hr.ent i hi).keep (ext_drew c) hi (fun _ _ => rfl), hr.inj, hr.lt, hr.far⟩

/-- A pure function's call leaves the blocks as they are. -/
def PureOk (K : FuncId → List V → List E → (V → List E → R) → R) (pureF : FuncId → Bool) : Prop := ∀ f, pureF f = true → ∀ args h κ, K f args h κ = K f args h fun v _ => κ v h

/-- A call that writes into no row leaves the rows. -/
def KeepOk (K : FuncId → List V → List E → (V → List E → R) → R) (rowsF : FuncId → Bool) : Prop :=
  ∀ f, rowsF f = true → ∀ args h v h', K f args h (fun v h => some (v, h)) = some (v, h') → ∀ id e, E.rowy e = true → getE h id = e → getE h' id = e
theorem opC_keep {rowsF : FuncId → Bool} (hw : KeepOk K rowsF) {o : Oper} (hk : keepOp rowsF o.op = true) {σ : St} {v : V} {h' : List E} (hs : ∀ κ2, opC TD K o σ κ2 = κ2 v h') :
    ∀ id e, E.rowy e = true → getE σ.h id = e → getE h' id = e := by
  obtain ⟨dst, op, ty, pos, after, guard⟩ := o
  cases op <;> first | (simp [keepOp] at hk; done) | skip
  case call c =>
    obtain ⟨callee, cargs, cats⟩ := c
    cases callee with
    | value f =>
      cases f with
      | func f => exact hw f hk _ _ _ _ (hs fun v h => some (v, h))
      | _ => simp [keepOp] at hk
    | _ => simp [keepOp] at hk
/-- A call that is handed no block but adds some. -/
def AddOk (K : FuncId → List V → List E → (V → List E → R) → R) (addF : FuncId → Bool) : Prop :=
  ∀ f, addF f = true → ∀ args h v h', K f args h (fun v h => some (v, h)) = some (v, h') → ∃ news, h' = h ++ news
theorem opC_add {addF : FuncId → Bool} (hw : AddOk K addF) {o : Oper} (hk : addOp addF o.op = true) {σ : St} {v : V} {h' : List E} (hs : ∀ κ2, opC TD K o σ κ2 = κ2 v h') : ∃ news, h' = σ.h ++ news := by
  obtain ⟨dst, op, ty, pos, after, guard⟩ := o
  cases op <;> first | (simp [addOp] at hk; done) | skip
  case call c =>
    obtain ⟨callee, cargs, cats⟩ := c
    cases callee with
    | value f =>
      cases f with
      | func f => exact hw f hk _ _ _ _ (hs fun v h => some (v, h))
      | _ => simp [addOp] at hk
    | _ => simp [addOp] at hk
/-- What stands behind an operation that adds stood before. -/
def NewH (h h' : List E) : Prop := h.length ≤ h'.length ∧ ∀ id en, E.alive en = true → id < h.length → getE h' id = en → getE h id = en
theorem NewH.refl (h : List E) : NewH h h := ⟨Nat.le_refl _, fun _ _ _ _ e => e⟩
theorem NewH.app (h l : List E) : NewH h (h ++ l) := ⟨by simp, fun id en _ hid e => by rwa [getE_append_lt hid] at e⟩
theorem NewH.kill (h : List E) (i : Nat) (x : E) : NewH h (h.set i .dead ++ [x]) := by
  refine ⟨by simp, fun id en ha hid e => ?_⟩
  rw [getE_append_lt (by simpa using hid)] at e
  by_cases hi : i = id
  · subst hi
    have : getE (h.set i .dead) i = .dead := by unfold getE; simp [List.getD, hid]
    rw [this] at e; subst e; cases ha
  · have : getE (h.set i .dead) id = getE h id := by unfold getE; simp [List.getD, List.getElem?_set_ne hi]
    rwa [this] at e
theorem NewH.trans {a b c : List E} (h1 : NewH a b) (h2 : NewH b c) : NewH a c :=
  ⟨Nat.le_trans h1.1 h2.1, fun id en ha hid e => h1.2 id en ha hid (h2.2 id en ha (Nat.lt_of_lt_of_le hid h1.1) e)⟩
theorem appC_new {s x : V} {h h' : List E} {v : V} (e : appC s x h (fun v h => some (v, h)) = some (v, h')) : NewH h h' := by
  unfold appC at e
  split at e
  · rename_i id
    split at e
    · rename_i l m hl hm
      split at e
      · rename_i q hq
        obtain ⟨_, e⟩ := bif_some e
        injection e with e; injection e with _ e; subst e
        exact NewH.kill h id _
      · cases e
    · cases e
  · split at e
    · rename_i m hm
      cases h0 : (m.len == 0) with
      | true => rw [h0, cond_true] at e; injection e with e; injection e with _ e; subst e; exact NewH.refl _
      | false =>
        rw [h0, cond_false] at e
        obtain ⟨_, e⟩ := bif_some e
        injection e with e; injection e with _ e; subst e
        exact NewH.app _ _
    · cases e
  · rename_i id n
    split at e
    · rename_i l m hl hm
      split at e
      · rename_i q hq
        obtain ⟨_, e⟩ := bif_some e
        injection e with e; injection e with _ e; subst e
        exact NewH.kill h id _
      · cases e
    · cases e
  · cases e
theorem opC_new {o : Oper} (hk : newOp o.op = true) {σ : St} {v : V} {h' : List E} (hs : ∀ κ2, opC TD K o σ κ2 = κ2 v h') : NewH σ.h h' := by
  have e := hs (fun v h => some (v, h))
  clear hs
  obtain ⟨dst, op, ty, pos, after, guard⟩ := o
  cases op <;> first | (simp [newOp] at hk; done) | skip
  case buildSlice t n parts =>
    cases n with
    | succ n => simp [newOp] at hk
    | zero =>
    unfold opC at e
    split at e
    · rename_i f hf
      simp only [opR] at hf
      split at hf
      · split at hf
        · injection hf with hf; subst hf
          injection e with e; injection e with _ e; subst e
          exact NewH.app _ _
        · rename_i hn _; cases hn
        · cases hf
      · cases hf
    · simp only [opC0] at e
      split at e
      · split at e
        · obtain ⟨c1, e⟩ := bif_some e
          simp only [Bool.and_eq_true] at c1
          have hp : parts.toList = [] := by
            have := Nat.eq_of_beq_eq_true c1.1.1.1
            exact List.eq_nil_of_length_eq_zero (by simpa using this)
          split at e
          · injection e with e; injection e with _ e; subst e; exact NewH.app _ _
          · split at e
            · rw [hp] at e
              simp only [List.map_nil, freeze] at e
              injection e with e; injection e with _ e; subst e; exact NewH.app _ _
            · cases e
        · cases e
      · cases e
  case makeSlice t l c =>
    unfold opC at e
    split at e
    · rename_i f hf
      simp only [opR] at hf
      split at hf
      · split at hf
        · injection hf with hf; subst hf
          obtain ⟨_, e⟩ := bif_some e
          injection e with e; injection e with _ e; subst e
          exact NewH.app _ _
        · cases hf
      · cases hf
    · simp only [opC0] at e
      split at e
      · split at e
        · obtain ⟨_, e⟩ := bif_some e
          split at e
          · injection e with e; injection e with _ e; subst e; exact NewH.app _ _
          · cases e
        · cases e
      · cases e
  case call c =>
    obtain ⟨callee, cargs, cats⟩ := c
    cases callee with
    | builtin b =>
      cases b <;> first | (simp [newOp] at hk; done) | skip
      unfold opC at e
      split at e
      · rename_i f hf
        simp only [opR] at hf
        repeat' split at hf
        all_goals first | (cases hf; done) | skip
        all_goals
          injection hf with hf; subst hf
          obtain ⟨_, e⟩ := bif_some e
          injection e with e; injection e with _ e; subst e
          exact NewH.kill _ _ _
      · simp only [opC0] at e
        split at e
        · cases hb : Nat.beq _ _ with
          | false => rw [hb] at e; cases e
          | true =>
            rw [hb, cond_true] at e
            split at e
            · split at e
              · obtain ⟨_, e⟩ := bif_some e
                exact appC_new e
              · cases e
            · cases e
        · cases e
    | _ => simp [newOp] at hk
theorem grow_quiet {pureF : FuncId → Bool} {op : Op} (h : growOp op = true) : quietOp TD pureF op = true := by
  cases op <;> first | (simp [growOp] at h; done) | rfl | skip
  case call c =>
    obtain ⟨callee, cargs, cats⟩ := c
    cases callee with
    | builtin b => cases b <;> first | (simp [growOp] at h; done) | rfl
    | _ => simp [growOp] at h
theorem len_grow {op : Op} (h : growOp op = false) : lenOp op = false := by
  cases op <;> first | rfl | skip
  case call c =>
    obtain ⟨callee, cargs, cats⟩ := c
    cases callee with
    | builtin b => cases b <;> first | (simp [growOp] at h; done) | rfl
    | _ => rfl
theorem rowRead_no {ops : Array Oper} {i : Nat} {o : Oper} (h : growOp o.op = false) : rowRead TD ops i o = false := by
  obtain ⟨dst, op, ty, pos, after, guard⟩ := o
  unfold rowRead
  rw [len_grow h]
  cases op <;> first | rfl | (simp [growOp] at h; done)
theorem idxC_rowy {x i : V} {h h' : List E} {v : V} (e : idxC x i h (fun v => some (v, h)) = some (v, h')) :
    (∀ id ∈ x.ids, E.rowy (getE h id) = true) ∧ (∀ id ∈ i.ids, E.rowy (getE h id) = true) ∧ ∀ id ∈ v.ids, E.rowy (getE h id) = true := by
  unfold idxC at e
  split at e
  · obtain ⟨_, e⟩ := bif_some e
    injection e with e; injection e with e _; subst e
    exact ⟨fun id hid => by simp [V.ids, V.ids0] at hid, fun id hid => by simp [V.ids, V.ids0] at hid, fun id hid => by simp [V.ids, V.ids0] at hid⟩
  · split at e
    · rename_i id _ _ _ l hl
      obtain ⟨_, e⟩ := bif_some e
      injection e with e; injection e with e _; subst e
      have hr : E.rowy (getE h id) = true := by rw [hl]; rfl
      exact ⟨fun j hj => by simp only [V.ids, V.ids0, List.mem_singleton] at hj; rw [hj]; exact hr, fun id hid => by simp [V.ids, V.ids0] at hid, fun j hj => by simp only [V.ids, V.ids0, List.mem_singleton] at hj; rw [hj]; exact hr⟩
    · cases e
  · split at e
    · rename_i id _ _ _ _ _ l hl
      obtain ⟨_, e⟩ := bif_some e
      injection e with e; injection e with e _; subst e
      have hr : E.rowy (getE h id) = true := by rw [hl]; rfl
      exact ⟨fun j hj => by simp only [V.ids, V.ids0, List.mem_singleton] at hj; rw [hj]; exact hr, fun id hid => by simp [V.ids, V.ids0] at hid, fun j hj => by simp only [V.ids, V.ids0, List.mem_singleton] at hj; rw [hj]; exact hr⟩
    · cases e
  · cases e
theorem idx_rowy {o : Oper} (hk : rowAddr TD o.op = true) {σ : St} {v : V} {h' : List E} (hs : ∀ κ2, opC TD K o σ κ2 = κ2 v h') :
    (∀ x ∈ o.op.operands, ∀ id ∈ (σ.ev x).ids, E.rowy (getE σ.h id) = true) ∧ ∀ id ∈ v.ids, E.rowy (getE σ.h id) = true := by
  have e := hs (fun v h => some (v, h))
  clear hs
  obtain ⟨dst, op, ty, pos, after, guard⟩ := o
  cases op <;> first | (simp [rowAddr] at hk; done) | skip
  case indexAddr t x i =>
    have fin : ((∀ id ∈ (σ.ev x).ids, E.rowy (getE σ.h id) = true) ∧ (∀ id ∈ (σ.ev i).ids, E.rowy (getE σ.h id) = true) ∧ ∀ id ∈ v.ids, E.rowy (getE σ.h id) = true) →
        (∀ y ∈ (Op.indexAddr t x i).operands, ∀ id ∈ (σ.ev y).ids, E.rowy (getE σ.h id) = true) ∧ ∀ id ∈ v.ids, E.rowy (getE σ.h id) = true := fun ⟨a, b, c⟩ => by
      refine ⟨fun y hy => ?_, c⟩
      simp only [Op.operands] at hy
      simp at hy
      rcases hy with rfl | rfl
      · exact a
      · exact b
    refine fin ?_
    unfold opC at e
    split at e
    · rename_i f hf
      simp only [opR] at hf
      split at hf
      · split at hf
        · rename_i hx hi
          injection hf with hf; subst hf
          obtain ⟨_, e⟩ := bif_some e
          injection e with e; injection e with e _; subst e
          rw [hx, hi]
          exact ⟨fun id hid => by simp [V.ids, V.ids0] at hid, fun id hid => by simp [V.ids, V.ids0] at hid, fun id hid => by simp [V.ids, V.ids0] at hid⟩
        · rename_i id _ _ hx hi
          split at hf
          · rename_i m xs hg
            injection hf with hf; subst hf
            obtain ⟨_, e⟩ := bif_some e
            injection e with e; injection e with e _; subst e
            rw [hx, hi]
            have hr : E.rowy (getE σ.h id) = true := by rw [hg]; rfl
            exact ⟨fun j hj => by simp only [V.ids, V.ids0, List.mem_singleton] at hj; rw [hj]; exact hr, fun id hid => by simp [V.ids, V.ids0] at hid, fun j hj => by simp only [V.ids, V.ids0, List.mem_singleton] at hj; rw [hj]; exact hr⟩
          · cases hf
        · cases hf
      · cases hf
    · simp only [rowAddr] at hk
      split at hk
      · rename_i htd
        simp only [opC0, htd] at e
        split at e
        · exact idxC_rowy e
        · cases e
      · cases hk
theorem load_ptr {dst : Option Tmp} {t : TypeId} {p : Operand} {ty : TypeId} {pos : String} {after : Array Edge} {guard : Option (Nat × Bool)} {σ : St} {v : V} {h' : List E}
    (hs : ∀ κ2, opC TD K ⟨dst, .load t p, ty, pos, after, guard⟩ σ κ2 = κ2 v h') : (σ.ev p).ids = [] ∨ ∃ id, (∃ off, σ.ev p = .ptr id off) ∨ ∃ off n i, σ.ev p = .elt id off n i := by
  have e := hs (fun v h => some (v, h))
  clear hs
  cases hp : σ.ev p with
  | own id =>
    exfalso
    simp only [opC, opR, opC0, hp] at e
    repeat' split at e
    all_goals first | (cases e; done) | (simp only [loadAggC, loadArrC, loadC] at e; cases e; done) | skip
    all_goals (rename_i hf; repeat' split at hf)
    all_goals first | (cases hf; done) | (cases e; done) | skip
  | sub id o n =>
    exfalso
    simp only [opC, opR, opC0, hp] at e
    repeat' split at e
    all_goals first | (cases e; done) | (simp only [loadAggC, loadArrC, loadC] at e; cases e; done) | skip
    all_goals (rename_i hf; repeat' split at hf)
    all_goals first | (cases hf; done) | (cases e; done) | skip
  | ptr id off => exact .inr ⟨id, .inl ⟨off, rfl⟩⟩
  | elt id off n i => exact .inr ⟨id, .inr ⟨off, n, i, rfl⟩⟩
  | agg vs =>
    exfalso
    simp only [opC, opR, opC0, hp] at e
    repeat' split at e
    all_goals first | (cases e; done) | (simp only [loadAggC, loadArrC, loadC] at e; cases e; done) | skip
    all_goals (rename_i hf; repeat' split at hf)
    all_goals first | (cases hf; done) | (cases e; done) | skip
  | _ => exact .inl rfl
theorem freeOp_quiet {pureF : FuncId → Bool} {op : Op} (h : freeOp TD op = true) : quietOp TD pureF op = true := by
  unfold freeOp at h
  rcases Bool.or_eq_true_iff.1 h with h | h
  · exact free_quiet h
  · exact grow_quiet h
theorem freeOp_no {op : Op} (h : freeOp TD op = false) : heapFree TD op = false ∧ growOp op = false := by
  unfold freeOp at h
  exact Bool.or_eq_false_iff.1 h

theorem draw_ok (hT : TyOk P TD) (hK : KOk P K) (hm : P.follows .mixedOrders = true) {pf : FuncId → Bool × Bool × Bool} (hp : PureOk K fun f => (pf f).1) (hw : KeepOk K fun f => (pf f).2.1) (hadd : AddOk K fun f => (pf f).2.2) :
    ∀ (ops : Array Oper) (Q : Exit → Act → World → Prop) (r : V × List E) (κ : St → R) (c0 : Cx) (σ : St) (a : Act) (c : Cx) (id : Nat), drawOk TD pf ops = true →
    opsC TD K ops ops.toList σ κ = some r → Ext c0 c → Rel c → RelT c σ a →
    (∀ σ' c' a', κ σ' = some r → Ext c0 c' → Rel c' → RelT c' σ' a' → Q .normal a' c'.w) → (Code.region id ops true).wp P Q a c.w := by
  intro ops Q r κ c0 σ a c id hd h hE hr ht hQ
  refine wp_region_any hm ?_
  have D := drawOk_spec hd
  clear hd
  revert D hp hw hadd
  generalize (fun f => (pf f).1) = pureF
  generalize (fun f => (pf f).2.1) = rowsF
  generalize (fun f => (pf f).2.2) = addF
  intro hp hw hadd D
  revert D
  generalize reachL ops.toList [] = M
  intro D
  obtain ⟨S, val, hS0, hstep0, hfin⟩ := trace_of hK ops.toList σ h
  have hn : ops.toList.length = ops.size := by simp
  rw [hn] at hstep0 hfin
  have hstep : ∀ i o, ops[i]? = some o → StepC TD K ops o (S i) (S (i + 1)) (val i) := fun i o ho => by
    have hi := (Array.getElem?_eq_some_iff.1 ho).1
    have e : ops.toList.getD i default = o := by simp [List.getD, ho]
    have := hstep0 i hi
    rw [e] at this; exact this
  have hSn : ∀ i, i ≤ ops.size → (S i).n = σ.n := by
    intro i
    induction i with
    | zero => intro _; rw [hS0]
    | succ i ih =>
      intro hi
      have ho : ops[i]? = some ops[i] := by simp
      exact (hstep i _ ho).2.1.trans (ih (by omega))
  -- what is written before
  have hT0 : ∀ i, i ≤ ops.size → ∀ t, (∃ i' o', i' < i ∧ ops[i']? = some o' ∧ o'.dst = some t ∧ t < σ.n ∧ getT (S i).t t = val i') ∨
      ((∀ i' o', i' < i → ops[i']? = some o' → o'.dst = some t → ¬ t < σ.n) ∧ getT (S i).t t = getT σ.t t) := by
    intro i
    induction i with
    | zero => intro _ t; exact .inr ⟨fun i' o' h => by omega, by rw [hS0]⟩
    | succ i ih =>
      intro hi t
      have ho : ops[i]? = some ops[i] := by simp
      have hs := (hstep i _ ho).1 t
      rw [hSn i (by omega)] at hs
      by_cases hw : ops[i].dst = some t ∧ t < σ.n
      · rw [if_pos hw] at hs
        exact .inl ⟨i, _, by omega, ho, hw.1, hw.2, hs⟩
      · rw [if_neg hw] at hs
        rcases ih (by omega) t with ⟨i', o', h1, h2, h3, h4, h5⟩ | ⟨h1, h2⟩
        · exact .inl ⟨i', o', by omega, h2, h3, h4, hs.trans h5⟩
        · refine .inr ⟨fun i' o' hlt h3 h4 h5 => ?_, hs.trans h2⟩
          rcases Nat.lt_or_ge i' i with h6 | h6
          · exact h1 i' o' h6 h3 h4 h5
          · obtain rfl : i' = i := by omega
            rw [ho] at h3; cases h3
            exact hw ⟨h4, h5⟩
  -- quiet operations leave the blocks
  have hquiet : ∀ i o, ops[i]? = some o → quietOp TD pureF o.op = true → (S (i + 1)).h = (S i).h := by
    intro i o ho hq
    rcases (hstep i o ho).2.2 with ⟨g, want, t, _, _, _, _, h1⟩ | ⟨σ1, h1, h2, h3, _⟩
    · exact h1
    · have e1 := h3 (fun v h => some (v, h))
      have e2 := h3 (fun v _ => some (v, σ1.h))
      rw [opC_quiet hp hq] at e1
      rw [e2] at e1
      have : σ1.h = (S (i + 1)).h := by injection e1 with e; injection e
      rw [← this, h2]
  have hconst : ∀ q, q ≤ ops.size → ∀ p, p ≤ q → (∀ e o, p ≤ e → e < q → ops[e]? = some o → quietOp TD pureF o.op = true) → (S q).h = (S p).h := by
    intro q
    induction q with
    | zero => intro _ p hpq _; obtain rfl : p = 0 := by omega
              rfl
    | succ q ih =>
      intro hq p hpq hall
      rcases Nat.lt_or_ge q p with h1 | h1
      · obtain rfl : p = q + 1 := by omega
        rfl
      · have ho : ops[q]? = some ops[q] := by simp
        rw [hquiet q _ ho (hall q _ h1 (by omega) ho)]
        exact ih (by omega) p h1 (fun e o a1 a2 => hall e o a1 (by omega))
  -- the invariant
  let Inv : Array Bool → Act → Cx → Prop := fun L a c =>
    Ext c0 c ∧ Rel c ∧ a.tmps.size = σ.n ∧ a.defers = [] ∧ L.size = ops.size ∧
    (∀ j o, ops[j]? = some o → L.getD j false = true → ∀ e ∈ o.after, Region.binds .any e = true → L.getD e.on false = true) ∧
    (∀ t j o, ops[j]? = some o → o.dst = some t → t < σ.n → L.getD j false = true → VR c (val j) (a.tmps.getD t undef)) ∧
    (∀ t, (∀ j o, ops[j]? = some o → o.dst = some t → t < σ.n → L.getD j false = false) → VR c (getT σ.t t) (a.tmps.getD t undef)) ∧
    ∃ k, k ≤ ops.size ∧ c.h = (S k).h ∧ ∀ e o, ops[e]? = some o → quietOp TD pureF o.op = false → (L.getD e false = true ↔ e < k)
  -- what lies ahead is listed
  have hclose : ∀ (L : Array Bool), (∀ j o, ops[j]? = some o → L.getD j false = true → ∀ e ∈ o.after, Region.binds .any e = true → L.getD e.on false = true) →
      ∀ j o, ops[j]? = some o → (∀ e ∈ o.after, Region.binds .any e = true → L.getD e.on false = true) → ∀ i, (M.getD j 0).testBit i = true → L.getD i false = true := by
    intro L hdown j
    induction j using Nat.strongRecOn with
    | _ j ih =>
      intro o ho hpre i hi
      rw [D.mask j o ho] at hi
      obtain ⟨e, he, hb, h1⟩ := mask_bit hi
      have hl := hpre e he hb
      rcases h1 with rfl | h1
      · exact hl
      · have hlt := D.lt j o ho e he hb
        have hjs := (Array.getElem?_eq_some_iff.1 ho).1
        have ho' : ops[e.on]? = some ops[e.on] := by simp
        exact ih e.on hlt _ ho' (hdown e.on _ ho' hl) i h1
  -- all listed
  have hend : ∀ L a c, Inv L a c → (∀ j, j < ops.size → L.getD j false = true) → Q .normal a c.w := by
    rintro L a c ⟨i1, i2, i3, i4, i5, i6, i7, i8, k, k1, k2, k3⟩ hall
    have hk : (S ops.size).h = (S k).h := hconst ops.size (Nat.le_refl _) k k1 (fun e o a1 a2 ho => by
      cases hq : quietOp TD pureF o.op with
      | true => rfl
      | false => have := (k3 e o ho hq).1 (hall e a2); omega)
    refine hQ (S ops.size) c a hfin i1 i2 ⟨i3.trans (hSn _ (Nat.le_refl _)).symm, i4, hk.trans k2.symm, fun t => ?_⟩
    rcases hT0 ops.size (Nat.le_refl _) t with ⟨i', o', h1, h2, h3, h4, h5⟩ | ⟨h1, h2⟩
    · rw [h5]; exact i7 t i' o' h2 h3 h4 (hall i' h1)
    · rw [h2]
      exact i8 t (fun j o ho hdst hlt => absurd hlt (h1 j o (Array.getElem?_eq_some_iff.1 ho).1 ho hdst))
  -- one step
  have hone : ∀ L a c, Inv L a c → ∀ i, i ∈ Region.ready .any ops L → ∀ (N : Act → World → Prop), (∀ a' c', Inv (L.setIfInBounds i true) a' c' → N a' c'.w) → wpOp P ops Q i N a c.w := by
    rintro L a c ⟨i1, i2, i3, i4, i5, i6, i7, i8, k, k1, k2, k3⟩ i hi N hN
    obtain ⟨hun, o, ho, hpre⟩ := mem_ready.1 hi
    have hlt : i < ops.size := (Array.getElem?_eq_some_iff.1 ho).1
    have hun' : L.getD i false = false := by
      have : i < L.size := by omega
      simp [this] at hun ⊢; exact hun
    -- what i looks at
    have hahead : ∀ j, (M.getD i 0).testBit j = true → L.getD j false = true := hclose L i6 i o ho hpre
    have hbehind : ∀ j oj, ops[j]? = some oj → (M.getD j 0).testBit i = true → L.getD j false = false := fun j oj hoj hb => by
      cases hl : L.getD j false with
      | false => rfl
      | true =>
        have := hclose L i6 j oj hoj (i6 j oj hoj hl) i hb
        rw [hun'] at this; cases this
    have hlook : ∀ t, t ∈ o.looksAt ops → VR c (getT (S i).t t) (a.tmps.getD t undef) := by
      intro t htl
      have hpl : ∀ j oj, ops[j]? = some oj → j ≠ i → oj.dst = some t → before_ M j i = true := fun j oj hoj hne hdst => by
        have := D.pair j i oj o hoj ho hne
        simp only [pairOk, Bool.and_eq_true] at this
        have h2 := this.1.2
        rw [hdst] at h2
        have h3 : (o.looksAt ops).any (Nat.beq t) = true := any_beq.2 htl
        simp only [h3, cond_true] at h2
        exact h2
      rcases hT0 i (by omega) t with ⟨j, oj, h1, h2, h3, h4, h5⟩ | ⟨h1, h2⟩
      · rw [h5]
        refine i7 t j oj h2 h3 h4 (hahead j ?_)
        have hb := hpl j oj h2 (by omega) h3
        have hjl : Nat.blt j i = true := by simpa [Nat.blt_eq] using h1
        simpa [before_, hjl] using hb
      · rw [h2]
        refine i8 t (fun j oj hoj hdst htn => ?_)
        rcases Nat.lt_trichotomy j i with h6 | h6 | h6
        · exact absurd htn (h1 j oj h6 hoj hdst)
        · subst h6; exact hun'
        · have hb := hpl j oj hoj (by omega) hdst
          have hjl : Nat.blt j i = false := by
            cases hx : Nat.blt j i with
            | false => rfl
            | true => rw [Nat.blt_eq] at hx; omega
          simp only [before_, hjl, cond_false] at hb
          exact hbehind j oj hoj hb
    let σL : St := { n := σ.n, t := (o.looksAt ops).map fun t => (t, getT (S i).t t), h := c.h }
    have hL : RelT c σL a := ⟨i3, i4, rfl, fun t => by
      show VR c (getT ((o.looksAt ops).map fun t => (t, getT (S i).t t)) t) _
      rw [getT_live (fun t => getT (S i).t t)]
      split
      · rename_i hm; exact hlook t hm
      · exact trivial⟩
    have hLget : ∀ t, t ∈ o.looksAt ops → getT σL.t t = getT (S i).t t := fun t htl => by
      show getT ((o.looksAt ops).map fun t => (t, getT (S i).t t)) t = _
      rw [getT_live (fun t => getT (S i).t t), if_pos htl]
    -- the blocks at i
    have hheap : freeOp TD o.op = false → c.h = (S i).h := by
      intro hf
      rw [k2]
      have hpair : ∀ e oe, ops[e]? = some oe → e ≠ i → quietOp TD pureF oe.op = false → before_ M e i = true := fun e oe hoe hne hq => by
        have := D.pair e i oe o hoe ho hne
        simp only [pairOk, Bool.and_eq_true] at this
        have h2 := this.2
        have hfe : freeOp TD oe.op = false := by
          cases hx : freeOp TD oe.op with
          | false => rfl
          | true => rw [freeOp_quiet hx] at hq; cases hq
        obtain ⟨a1, a2⟩ := freeOp_no hf
        obtain ⟨b1, b2⟩ := freeOp_no hfe
        simp only [hq, a1, b1, lenKeep, newFirst, a2, b2, rowRead_no a2, rowRead_no b2, Bool.false_and, Bool.and_false, Bool.or_self, cond_false] at h2
        exact h2
      rcases Nat.lt_or_ge i k with hik | hik
      · refine hconst k k1 i (by omega) (fun e oe a1 a2 hoe => ?_)
        cases hq : quietOp TD pureF oe.op with
        | true => rfl
        | false =>
          exfalso
          have hle := (k3 e oe hoe hq).2 a2
          rcases Nat.lt_or_ge i e with h6 | h6
          · have hb := hpair e oe hoe (by omega) hq
            have hjl : Nat.blt e i = false := by
              cases hx : Nat.blt e i with
              | false => rfl
              | true => rw [Nat.blt_eq] at hx; omega
            simp only [before_, hjl, cond_false] at hb
            rw [hbehind e oe hoe hb] at hle; cases hle
          · obtain rfl : e = i := by omega
            rw [hun'] at hle; cases hle
      · refine (hconst i (by omega) k hik (fun e oe a1 a2 hoe => ?_)).symm
        cases hq : quietOp TD pureF oe.op with
        | true => rfl
        | false =>
          exfalso
          have hb := hpair e oe hoe (by omega) hq
          have hjl : Nat.blt e i = true := by simpa [Nat.blt_eq] using a2
          simp only [before_, hjl, cond_true] at hb
          have := (k3 e oe hoe hq).1 (hahead e hb)
          omega
    -- the blocks that i looks at
    have hstand : growOp o.op = true → heapFree TD o.op = false → (∃ σ1 : St, σ1.h = (S i).h ∧ (∀ x ∈ o.op.operands, σL.ev x = σ1.ev x) ∧ ∀ κ2, opC TD K o σ1 κ2 = κ2 (val i) (S (i + 1)).h) → ∀ x ∈ o.op.operands, ∀ id ∈ (σL.ev x).ids, ∀ en, fitE o.op en = true → getE (S i).h id = en → getE c.h id = en := by
      intro hg a1 ⟨σ1, su1, su2, su3⟩ x hx id hid en hen hge
      have hidc : id < c.h.length := ids_lt (hL.ev x) id hid
      rw [k2] at hidc ⊢
      have hqo : quietOp TD pureF o.op = true := grow_quiet hg
      have hal : en.alive = true := by
        unfold fitE at hen
        cases hlo : lenOp o.op with
        | true => rw [hlo, cond_true] at hen; cases en <;> first | rfl | (simp [E.rowy] at hen; done)
        | false => rw [hlo, cond_false] at hen; exact hen
      have hrowy : rowRead TD ops i o = true → E.rowy en = true := by
        intro hrr
        unfold rowRead at hrr
        rcases Bool.or_eq_true_iff.1 hrr with hrr | hrr
        rcases Bool.or_eq_true_iff.1 hrr with hrr | hrr
        · unfold fitE at hen; rw [hrr, cond_true] at hen; exact hen
        · have := (idx_rowy hrr su3).1 x hx id (by rw [← su2 x hx]; exact hid)
          rw [su1, hge] at this; exact this
        · unfold rowLoad at hrr
          split at hrr
          · rename_i tl t hop
            split at hrr
            · rename_i k hik
              split at hrr
              · rename_i q hqk
                simp only [Bool.and_eq_true] at hrr
                obtain ⟨⟨r1, r2⟩, r3⟩ := hrr
                have hqd : q.dst = some t := by
                  cases hd : q.dst with
                  | none => rw [hd] at r2; cases r2
                  | some d => rw [hd] at r2; rw [Nat.eq_of_beq_eq_true r2]
                have hqg : q.guard = none := by
                  cases hd : q.guard with
                  | none => rfl
                  | some d => rw [hd] at r3; cases r3
                have hxt : x = .tmp t := by
                  rw [hop] at hx
                  simpa [Op.operands] using hx
                subst hxt
                have hqq : quietOp TD pureF q.op = true := by
                  cases hqo2 : q.op <;> rw [hqo2] at r1 <;> first | (simp [rowAddr] at r1; done) | rfl
                have hqh := hquiet k q hqk hqq
                rcases (hstep k q hqk).2.2 with ⟨_, _, _, z1, _⟩ | ⟨σ2, z1, z2, z3, _⟩
                · rw [hqg] at z1; cases z1
                have hv := (idx_rowy r1 z3).2
                have ht2 := (hstep k q hqk).1 t
                rw [hSn k (by omega)] at ht2
                have hget : σL.ev (.tmp t) = getT (S (k + 1)).t t := hLget t (by
                  unfold Oper.looksAt
                  refine List.mem_append_left _ (List.mem_filterMap.2 ⟨.tmp t, ?_, rfl⟩)
                  rw [hop]; simp [Op.operands])
                by_cases htn : t < σ.n
                · rw [if_pos ⟨hqd, htn⟩] at ht2
                  rw [hget, ht2] at hid
                  have := hv id hid
                  rw [z2, ← hqh, hge] at this
                  exact this
                · exfalso
                  have hund : a.tmps.getD t undef = undef := by simp [show ¬ t < a.tmps.size from by rw [i3]; exact htn]
                  have hvr := hL.ev (.tmp t)
                  have hev0 : a.eval (.tmp t) = a.tmps.getD t undef := rfl
                  rw [hev0, hund] at hvr
                  obtain ⟨od, oop, oty, opos, oaf, ogd⟩ := o
                  simp only at hop
                  subst hop
                  rcases load_ptr su3 with h0 | ⟨id2, ⟨off, h0⟩ | ⟨off, n2, i2, h0⟩⟩
                  · rw [← su2 _ hx] at h0; rw [h0] at hid; cases hid
                  · rw [← su2 _ hx] at h0; rw [h0] at hvr
                    obtain ⟨_, g, _, hp⟩ := (show VR0 c (.ptr id2 off) undef from hvr)
                    cases hp
                  · rw [← su2 _ hx] at h0; rw [h0] at hvr
                    obtain ⟨_, _, g, _, hp⟩ := (show VR0 c (.elt id2 off n2 i2) undef from hvr)
                    cases hp
              · cases hrr
            · cases hrr
          · cases hrr
      have hpair : ∀ e oe, ops[e]? = some oe → e ≠ i → quietOp TD pureF oe.op = false → (i < e ∧ rowRead TD ops i o = true ∧ keepOp rowsF oe.op = true) ∨ addOp addF oe.op = true ∨ before_ M e i = true ∨ (e < i ∧ newOp oe.op = true) := fun e oe hoe hne hq => by
        have := D.pair e i oe o hoe ho hne
        simp only [pairOk, Bool.and_eq_true] at this
        have h2 := this.2
        have hfe : freeOp TD oe.op = false := by
          cases hx : freeOp TD oe.op with
          | false => rfl
          | true => rw [freeOp_quiet hx] at hq; cases hq
        obtain ⟨b1, b2⟩ := freeOp_no hfe
        simp only [hq, a1, b1, lenKeep, newFirst, b2, rowRead_no b2, hg, Bool.false_and, Bool.and_false, Bool.false_or, Bool.or_false, Bool.true_and, Bool.and_true] at h2
        cases hnw : Nat.blt e i && newOp oe.op with
        | true =>
          rw [Bool.and_eq_true] at hnw
          exact .inr (.inr (.inr ⟨by simpa [Nat.blt_eq] using hnw.1, hnw.2⟩))
        | false =>
        rw [hnw] at h2
        cases ha : addOp addF oe.op with
        | true => exact .inr (.inl rfl)
        | false =>
          cases hlo : rowRead TD ops i o with
          | false =>
            right; right; left
            simp only [ha, hlo, Bool.and_false, Bool.false_and, Bool.or_self, cond_false] at h2
            exact h2
          | true =>
            cases hk : keepOp rowsF oe.op with
            | false =>
              right; right; left
              simp only [ha, hk, Bool.and_false, Bool.or_self, cond_false] at h2
              exact h2
            | true =>
              cases hb : Nat.blt i e with
              | false =>
                right; right; left
                simp only [ha, hb, Bool.false_and, Bool.or_self, cond_false] at h2
                exact h2
              | true => left; exact ⟨by simpa [Nat.blt_eq] using hb, rfl, rfl⟩
      rcases Nat.lt_or_ge i k with hik | hik
      · have step : ∀ q, i ≤ q → q ≤ k → getE (S q).h id = en := by
          intro q
          induction q with
          | zero => intro h1 _; obtain rfl : i = 0 := by omega
                    exact hge
          | succ q ih =>
            intro h1 h2
            rcases Nat.lt_or_ge q i with h3 | h3
            · obtain rfl : i = q + 1 := by omega
              exact hge
            have hprev := ih h3 (by omega)
            have hoe : ops[q]? = some ops[q] := by simp
            cases hq : quietOp TD pureF (ops[q]).op with
            | true => rw [hquiet q _ hoe hq]; exact hprev
            | false =>
              have hne : q ≠ i := fun e => by
                subst e
                rw [ho] at hoe; injection hoe with hoe
                rw [← hoe, hqo] at hq; cases hq
              rcases hpair q _ hoe hne hq with ⟨_, hlo, hk⟩ | ha | hb | ⟨hb, _⟩
              · have hrw : E.rowy en = true := hrowy hlo
                rcases (hstep q _ hoe).2.2 with ⟨_, _, _, _, _, _, _, s6⟩ | ⟨σ1, _, s2, s3, _⟩
                · rw [s6]; exact hprev
                · exact opC_keep hw hk s3 id en hrw (by rw [s2]; exact hprev)
              · rcases (hstep q _ hoe).2.2 with ⟨_, _, _, _, _, _, _, s6⟩ | ⟨σ1, _, s2, s3, _⟩
                · rw [s6]; exact hprev
                · obtain ⟨news, hn⟩ := opC_add hadd ha s3
                  rw [hn, s2, getE_append_lt (alive_lt (by rw [hprev]; exact hal))]
                  exact hprev
              · exfalso
                have hle := (k3 q _ hoe hq).2 (by omega)
                have hjl : Nat.blt q i = false := by
                  cases hx : Nat.blt q i with
                  | false => rfl
                  | true => rw [Nat.blt_eq] at hx; omega
                simp only [before_, hjl, cond_false] at hb
                rw [hbehind q _ hoe hb] at hle; cases hle
              · omega
        exact step k (by omega) (Nat.le_refl _)
      · have step : ∀ q, k ≤ q → q ≤ i → NewH (S k).h (S q).h := by
          intro q
          induction q with
          | zero => intro h1 _; obtain rfl : k = 0 := by omega
                    exact NewH.refl _
          | succ q ih =>
            intro h1 h2
            rcases Nat.lt_or_ge q k with h3 | h3
            · obtain rfl : k = q + 1 := by omega
              exact NewH.refl _
            have hprev := ih h3 (by omega)
            have hoe : ops[q]? = some ops[q] := by simp
            cases hq : quietOp TD pureF (ops[q]).op with
            | true => rw [hquiet q _ hoe hq]; exact hprev
            | false =>
              have hne : q ≠ i := by omega
              rcases hpair q _ hoe hne hq with ⟨h9, _⟩ | ha | hb | ⟨_, hnw⟩
              · omega
              · rcases (hstep q _ hoe).2.2 with ⟨_, _, _, _, _, _, _, s6⟩ | ⟨σ1, _, s2, s3, _⟩
                · rw [s6]; exact hprev
                · obtain ⟨n2, hn⟩ := opC_add hadd ha s3
                  rw [s2] at hn
                  rw [hn]
                  exact hprev.trans (NewH.app _ _)
              · exfalso
                have hjl : Nat.blt q i = true := by rw [Nat.blt_eq]; omega
                simp only [before_, hjl, cond_true] at hb
                have := (k3 q _ hoe hq).1 (hahead q hb)
                omega
              · rcases (hstep q _ hoe).2.2 with ⟨_, _, _, _, _, _, _, s6⟩ | ⟨σ1, _, s2, s3, _⟩
                · rw [s6]; exact hprev
                · have hn := opC_new hnw s3
                  rw [s2] at hn
                  exact hprev.trans hn
        exact (step i hik (Nat.le_refl _)).2 id en hal hidc hge
    -- the state behind i
    have hnext : ∀ (x : Value) (c' : Cx), Ext c c' → Rel c' → VR c' (val i) x → (freeOp TD o.op = true → c'.h = c.h) → (freeOp TD o.op = false → c'.h = (S (i + 1)).h) → Inv (L.setIfInBounds i true) (a.put o.dst x) c' := by
      intro x c' e1 e2 e3 e4 e5
      have hiL : i < L.size := by omega
      have hset : ∀ j, (L.setIfInBounds i true).getD j false = if j = i then true else L.getD j false := fun j => by
        by_cases hj : j = i
        · subst hj; simp [hiL]
        · have : ¬ i = j := fun e => hj e.symm
          simp [hj, Array.getElem?_setIfInBounds_ne this]
      have hdst : ∀ j oj t, ops[j]? = some oj → j ≠ i → oj.dst = some t → o.dst ≠ some t := fun j oj t hoj hne h1 h2 => by
        have := D.pair j i oj o hoj ho hne
        simp only [pairOk, Bool.and_eq_true] at this
        have h3 := this.1.1
        rw [h1, h2] at h3
        simp [nbeq_self] at h3
      have hput : ∀ t, o.dst ≠ some t → (a.put o.dst x).tmps.getD t undef = a.tmps.getD t undef := fun t hne => by
        cases hd : o.dst with
        | none => rfl
        | some d =>
          have : d ≠ t := fun e => hne (by rw [hd, e])
          simp [Act.put, Array.getElem?_setIfInBounds_ne this]
      have hsz : (a.put o.dst x).tmps.size = σ.n := by cases hd : o.dst <;> simp [Act.put, i3]
      have hdf : (a.put o.dst x).defers = [] := by cases hd : o.dst <;> simp [Act.put, i4]
      refine ⟨i1.trans e1, e2, hsz, hdf, by simpa using i5, fun j oj hoj hl e he hb => ?_, fun t j oj hoj hdj htn hl => ?_, fun t hall => ?_, ?_⟩
      · rw [hset]
        by_cases h1 : e.on = i
        · rw [if_pos h1]
        · rw [if_neg h1]
          rw [hset] at hl
          by_cases h2 : j = i
          · subst h2
            rw [ho] at hoj; cases hoj
            exact hpre e he hb
          · rw [if_neg h2] at hl; exact i6 j oj hoj hl e he hb
      · rw [hset] at hl
        by_cases h2 : j = i
        · subst h2
          rw [ho] at hoj; cases hoj
          have hlt' : t < a.tmps.size := by omega
          have : (a.put o.dst x).tmps.getD t undef = x := by rw [hdj]; simp [Act.put, hlt']
          rw [this]; exact e3
        · rw [if_neg h2] at hl
          rw [hput t (hdst j oj t hoj h2 hdj)]
          exact e1.vr (i7 t j oj hoj hdj htn hl)
      · have h3 : ¬ (o.dst = some t ∧ t < σ.n) := fun ⟨h4, h5⟩ => by
          have := hall i o ho h4 h5
          rw [hset, if_pos rfl] at this; cases this
        have hsame : (a.put o.dst x).tmps.getD t undef = a.tmps.getD t undef := by
          by_cases h4 : o.dst = some t
          · have h5 : a.tmps.size ≤ t := by
              rcases Nat.lt_or_ge t σ.n with h6 | h6
              · exact absurd ⟨h4, h6⟩ h3
              · omega
            rw [h4]
            simp [Act.put, Array.setIfInBounds_eq_of_size_le h5]
          · exact hput t h4
        rw [hsame]
        refine e1.vr (i8 t (fun j oj hoj h4 h5 => ?_))
        have := hall j oj hoj h4 h5
        rw [hset] at this
        by_cases h2 : j = i
        · rw [if_pos h2] at this; cases this
        · rw [if_neg h2] at this; exact this
      · cases hq : quietOp TD pureF o.op with
        | true =>
          refine ⟨k, k1, ?_, fun e oe hoe hqe => ?_⟩
          · cases hf : freeOp TD o.op with
            | true => rw [e4 hf]; exact k2
            | false => rw [e5 hf, hquiet i o ho hq, ← hheap hf]; exact k2
          · rw [hset]
            by_cases h2 : e = i
            · subst h2
              rw [ho] at hoe; cases hoe
              rw [hq] at hqe; cases hqe
            · rw [if_neg h2]; exact k3 e oe hoe hqe
        | false =>
          have hf : freeOp TD o.op = false := by
            cases hx : freeOp TD o.op with
            | false => rfl
            | true => rw [freeOp_quiet hx] at hq; cases hq
          refine ⟨i + 1, by omega, e5 hf, fun e oe hoe hqe => ?_⟩
          rw [hset]
          by_cases h2 : e = i
          · subst h2; simp
          · rw [if_neg h2]
            have hfe : freeOp TD oe.op = false := by
              cases hx : freeOp TD oe.op with
              | false => rfl
              | true => rw [freeOp_quiet hx] at hqe; cases hqe
            obtain ⟨a1, a2⟩ := freeOp_no hf
            obtain ⟨b1, b2⟩ := freeOp_no hfe
            have hb : before_ M e i = true := by
              have := D.pair e i oe o hoe ho h2
              simp only [pairOk, Bool.and_eq_true] at this
              have h3 := this.2
              simp only [hq, hqe, a1, b1, lenKeep, newFirst, a2, b2, rowRead_no a2, rowRead_no b2, Bool.false_and, Bool.and_false, Bool.or_self, cond_false] at h3
              exact h3
            rcases Nat.lt_or_ge e i with h6 | h6
            · have hjl : Nat.blt e i = true := by simpa [Nat.blt_eq] using h6
              simp only [before_, hjl, cond_true] at hb
              exact ⟨fun _ => by omega, fun _ => hahead e hb⟩
            · have hjl : Nat.blt e i = false := by
                cases hx : Nat.blt e i with
                | false => rfl
                | true => rw [Nat.blt_eq] at hx; omega
              simp only [before_, hjl, cond_false] at hb
              rw [hbehind e oe hoe hb]
              exact ⟨fun h => (by cases h), fun h => (by omega)⟩
    unfold wpOp
    simp only [ho]
    have hlookg : ∀ g want t, o.guard = some (g, want) → (ops[g]?).bind (·.dst) = some t → t ∈ o.looksAt ops := fun g want t h1 h2 => by
      unfold Oper.looksAt
      rw [h1]
      simp [h2]
    rcases (hstep i o ho).2.2 with ⟨g, want, t, s1, s2, s3, s5, s6⟩ | ⟨σ1, s1, s2, s3, s4⟩
    · -- passed by
      have hw : Region.wanted o (yielded ops a.tmps) = false := by
        rcases s3 with s3 | ⟨b, s3, s4⟩
        · exact guard_no hL s1 s2 (by rw [hLget t (hlookg g want t s1 s2)]; exact s3)
        · exact (guard_ok hL s1 s2 (by rw [hLget t (hlookg g want t s1 s2)]; exact s3)).trans s4
      rw [hw, if_neg (by decide)]
      refine hN _ c (hnext undef c (Ext.refl c) i2 (by rw [s5]; exact vr_undef) (fun _ => rfl) (fun hf => ?_))
      rw [s6]; exact hheap hf
    · -- carried out
      have hw : Region.wanted o (yielded ops a.tmps) = true := by
        rcases s4 with s4 | ⟨g, want, t, b, q1, q2, q3, q4⟩
        · unfold Region.wanted; rw [s4]
        · rw [guard_ok hL q1 q2 (by rw [hLget t (hlookg g want t q1 q2)]; exact q3)]; exact q4
      rw [hw, if_pos rfl]
      left
      have hev : ∀ x ∈ o.op.operands, σL.ev x = σ1.ev x := fun x hx => by
        cases x with
        | tmp t =>
          have htl : t ∈ o.looksAt ops := List.mem_append_left _ (List.mem_filterMap.2 ⟨.tmp t, by simpa using hx, rfl⟩)
          show getT σL.t t = getT σ1.t t
          rw [hLget t htl, s1 t]
        | _ => rfl
      cases hf : freeOp TD o.op with
      | false =>
        have hh : σL.h = σ1.h := by rw [s2]; exact hheap hf
        have hop : ∀ κ2, opC TD K o σL κ2 = κ2 (val i) (S (i + 1)).h := fun κ2 => (opC_congr hh hev).trans (s3 κ2)
        classical
        refine opC_wp hT hK (r := (val i, (S (i + 1)).h)) (κ := fun v h => if v = val i ∧ h = (S (i + 1)).h then some (val i, (S (i + 1)).h) else none) ((hop _).trans (by simp)) i2 hL (fun v c' x hk e1 e2 e3 => ?_)
        split at hk
        · rename_i hv
          obtain ⟨hv1, hv2⟩ := hv
          subst hv1
          exact hN _ c' (hnext x c' e1 e2 e3 (fun h => by rw [hf] at h; cases h) (fun _ => hv2))
        · cases hk
      | true =>
        have hop : ∀ κ2, opC TD K o σL κ2 = κ2 (val i) c.h := fun κ2 => by
          cases hh : heapFree TD o.op with
          | true =>
            rw [opC_free hh (S i).h]
            have hc := opC_congr (TD := TD) (K := K) (o := o) (σ := { σL with h := (S i).h }) (σ' := σ1) (κ := fun v _ => κ2 v σL.h) s2.symm hev
            rw [hc, s3]
          | false =>
            have hlo : growOp o.op = true := by simpa [freeOp, hh] using hf
            have hs : opC TD K o { σL with h := (S i).h } (fun v h => some (v, h)) = some (val i, (S (i + 1)).h) :=
              (opC_congr (TD := TD) (K := K) (o := o) (σ := { σL with h := (S i).h }) (σ' := σ1) s2.symm hev).trans (s3 _)
            exact opC_grow (σ := { σL with h := (S i).h }) hlo (h2 := c.h) (fun x hx id hid => hstand hlo hh ⟨σ1, s2, hev, s3⟩ x hx id (by rw [ev_heap] at hid; exact hid)) hs κ2
        classical
        refine opC_wp hT hK (r := (val i, c.h)) (κ := fun v h => if v = val i ∧ h = c.h then some (val i, c.h) else none) ((hop _).trans (by simp)) i2 hL (fun v c' x hk e1 e2 e3 => ?_)
        split at hk
        · rename_i hv
          obtain ⟨hv1, hv2⟩ := hv
          subst hv1
          exact hN _ c' (hnext x c' e1 e2 e3 (fun _ => hv2) (fun h => by rw [hf] at h; cases h))
        · cases hk
  -- all orders
  have hnone : ∀ (L : Array Bool), L.size = ops.size → Region.ready .any ops L = [] → ∀ j, j < ops.size → L.getD j false = true := by
    intro L hLs hre j
    induction j using Nat.strongRecOn with
    | _ j ih =>
      intro hj
      cases hl : L.getD j false with
      | true => rfl
      | false =>
        exfalso
        have ho : ops[j]? = some ops[j] := by simp
        have : j ∈ Region.ready .any ops L := by
          refine mem_ready.2 ⟨?_, _, ho, fun e he hb => ?_⟩
          · have : j < L.size := by omega
            simp [this] at hl ⊢; exact hl
          · have hlt := D.lt j _ ho e he hb
            exact ih e.on hlt (by omega)
        rw [hre] at this; cases this
  have hall : ∀ (fuel : Nat) (L : Array Bool) (a : Act) (c : Cx), Inv L a c → ((List.range ops.size).filter fun j => !L.getD j false).length ≤ fuel → wpAny P .any ops Q fuel L a c.w := by
    intro fuel
    induction fuel with
    | zero =>
      intro L a c hI hc
      have hall : ∀ j, j < ops.size → L.getD j false = true := fun j hj => by
        have h0 : (List.range ops.size).filter (fun j => !L.getD j false) = [] := List.eq_nil_of_length_eq_zero (by omega)
        rw [List.filter_eq_nil_iff] at h0
        have := h0 j (List.mem_range.2 hj)
        simpa using this
      refine ⟨?_, hend L a c hI hall⟩
      cases hre : Region.ready .any ops L with
      | nil => rfl
      | cons i rs =>
        have hi : i ∈ Region.ready .any ops L := by rw [hre]; simp
        obtain ⟨h1, o, ho, _⟩ := mem_ready.1 hi
        have hlt := (Array.getElem?_eq_some_iff.1 ho).1
        have h2 := hall i hlt
        have h3 : i < L.size := by have := hI.2.2.2.2.1; omega
        simp [h3] at h1 h2
        rw [h2] at h1; cases h1
    | succ fuel ih =>
      intro L a c hI hc
      have hLs := hI.2.2.2.2.1
      refine ⟨fun hre => hend L a c hI (hnone L hLs hre), fun i hi => ?_⟩
      refine hone L a c hI i hi _ (fun a' c' hI' => ih _ a' c' hI' ?_)
      obtain ⟨h1, o, ho, _⟩ := mem_ready.1 hi
      have hlt := (Array.getElem?_eq_some_iff.1 ho).1
      have h3 : i < L.size := by omega
      have hun : L.getD i false = false := by simp [h3] at h1 ⊢; exact h1
      have hset : ∀ j, (L.setIfInBounds i true).getD j false = if j = i then true else L.getD j false := fun j => by
        by_cases hj : j = i
        · subst hj; simp [h3]
        · have : ¬ i = j := fun e => hj e.symm
          simp [hj, Array.getElem?_setIfInBounds_ne this]
      have hf : (List.range ops.size).filter (fun j => !(L.setIfInBounds i true).getD j false) = ((List.range ops.size).filter fun j => !L.getD j false).filter fun j => !(Nat.beq j i) := by
        rw [List.filter_filter]
        refine List.filter_congr (fun j _ => ?_)
        rw [hset]
        by_cases hj : j = i
        · subst hj; simp [nbeq_self]
        · simp [hj, nbeq_ne hj]
      rw [hf]
      have : (((List.range ops.size).filter fun j => !L.getD j false).filter fun j => !(Nat.beq j i)).length < ((List.range ops.size).filter fun j => !L.getD j false).length := by
        rw [List.length_filter_lt_length_iff_exists]
        exact ⟨i, List.mem_filter.2 ⟨List.mem_range.2 hlt, by rw [hun]; rfl⟩, by simp [nbeq_self]⟩
      omega
  have hI0 : Inv (Array.replicate ops.size false) a c := by
    refine ⟨hE, hr, ht.size, ht.defers, by simp, fun j o ho hl => ?_, fun t j o ho hdj htn hl => ?_, fun t _ => ht.t t, 0, Nat.zero_le _, ?_, fun e o ho hq => ?_⟩
    · have := (Array.getElem?_eq_some_iff.1 ho).1
      simp [this] at hl
    · have := (Array.getElem?_eq_some_iff.1 ho).1
      simp [this] at hl
    · rw [hS0]; exact ht.h.symm
    · have := (Array.getElem?_eq_some_iff.1 ho).1
      simp [this]
  have hIw : Inv (Array.replicate ops.size false) a c.drew := by
    obtain ⟨j1, j2, j3, j4, j5, j6, j7, j8, j9⟩ := hI0
    exact ⟨j1.trans (ext_drew c), rel_drew j2, j3, j4, j5, j6, fun t j o a1 a2 a3 a4 => (ext_drew c).vr (j7 t j o a1 a2 a3 a4), fun t h => (ext_drew c).vr (j8 t h), j9⟩
  refine hall ops.size _ a _ hIw ?_
  exact Nat.le_trans (List.length_filter_le _ _) (by simp)
end

end Go.Proofs.Ytgpgifpblchjjaa.D
/- Calls by what is known of the callee. Conditions: those of each theorem. -/
namespace Go.Proofs.Ytgpgifpblchjjaa.D
open Go.RowKit
set_option linter.unusedVariables false
set_option linter.unusedSimpArgs false

def V.outs (v : V) : Prop := v.out1 = true ∨ ∃ vs, v = .tup vs ∧ vs.all V.out1 = true

/-- What is told of a function is true of every call of it. -/
def FnOk (P : Program) (f : FuncId) (sp : List V → List E → (V → List E → R) → R) : Prop :=
  ∀ args κ r (c : Cx) (cargs : Array Value), sp args c.h κ = some r → Rel c → ArgsR c args cargs.toList →
    Calls P f cargs c.w fun e w' => ∃ x v c', e = .returned x ∧ κ v c'.h = some r ∧ Ext c c' ∧ Rel c' ∧ VR c' v x ∧ c'.w = w' ∧ v.outs ∧ c'.h.all E.out = true

theorem FnOk.of {P : Program} {TD : TypeId → Option TI} {K : FuncId → List V → List E → (V → List E → R) → R} {ann : Nat → List Nat × List Nat} {drawOk : Array Oper → Option (List (Nat × Nat))}
    (hT : TyOk P TD) (hK : KOk P K) (hD : DrawOk P TD K drawOk) {f : FuncId} {fn : Func} (hf : P.funcs[f]? = some fn) {sp : List V → List E → (V → List E → R) → R}
    (h : ∀ args h κ r, sp args h κ = some r → ∃ fuel, funC TD K ann drawOk fuel fn args h κ = some r) : FnOk P f sp := by
  intro args κ r c cargs hs hr ha
  obtain ⟨fuel, hfn⟩ := h args c.h κ r hs
  exact (funC_calls hT hK hD hf hfn hr ha).mono fun e w' ⟨x, v, c', h1, h2, h3, h4, h5, h6, h7, h8⟩ => ⟨x, v, c', h1, h2, h3, h4, h5, h6, h7, h8⟩

/-! The callee's view of the caller's state. -/
def Cx.into (c : Cx) (ids : List Nat) : Cx :=
  ⟨fun b => c.F b ∨ (c.U b ∧ ∀ j, j < ids.length → blk (c.hv (ids.getD j 0)) ≠ some b), ids.map (getE c.h), fun j => c.hv (ids.getD j 0), c.w⟩

theorem into_get {c : Cx} {ids : List Nat} {j : Nat} (hj : j < ids.length) : getE (c.into ids).h j = getE c.h (ids.getD j 0) := by
  simp [Cx.into, getE, List.getD, hj]
theorem into_U {c : Cx} {ids : List Nat} {b : Nat} (h : (c.into ids).U b) : c.U b ∧ ∃ j, j < ids.length ∧ blk (c.hv (ids.getD j 0)) = some b := by
  obtain ⟨j, ha, hb⟩ := h
  have hj : j < ids.length := by have := alive_lt ha; simpa [Cx.into] using this
  rw [into_get hj] at ha
  exact ⟨⟨_, ha, hb⟩, j, hj, hb⟩

theorem into_rowV {c : Cx} {ids : List Nat} {xs : List Int} {v : Value} (h : RowV c xs v) : RowV (c.into ids) xs v := by
  obtain ⟨a, cap, rfl, hc, h0⟩ := h
  refine ⟨a, cap, rfl, hc, ?_⟩
  rcases h0 with h0 | ⟨b, off, ha, hF, hU, hcell⟩
  · exact .inl h0
  · exact .inr ⟨b, off, ha, fun hf => hf.elim hF (fun h => hU h.1), fun hu => hU (into_U hu).1, hcell⟩
theorem into_atom {c : Cx} {ids : List Nat} {a : Atom} {v : Value} (h : AtomR c a v) : AtomR (c.into ids) a v := by
  cases a <;> first | exact h | exact into_rowV h

/-- A list seen, away from the blocks that are handed over. -/
theorem into_seen {c : Cx} {ids : List Nat} {l : L} {v : Value} (h : Seen c l v) (hU : ∀ g, blk v = some g → l.len ≠ 0 → ¬ (c.into ids).U g) : RoR (c.into ids) false l v := by
  obtain ⟨a, cap, rfl, hc, h0⟩ := h
  refine ⟨a, cap, rfl, hc, ?_⟩
  rcases h0 with h0 | ⟨b, off, rfl, hcell⟩
  · exact .inl h0
  · rcases Nat.eq_zero_or_pos l.len with hz | hp
    · exact .inl hz
    · refine .inr ⟨b, off, rfl, fun h => (by cases h), hU b rfl (by omega), fun j hj => ?_⟩
      obtain ⟨y, hy, hya⟩ := hcell j hj
      exact ⟨y, hy, into_atom hya⟩

/-- The cells that may be handed over. -/
def plainCells (vs : List V) : Bool := vs.all fun v => v.ids0.isEmpty && v.flat && v.out0

theorem into_plain {c : Cx} {ids : List Nat} {v : V} {x : Value} (hp : (v.ids0.isEmpty && v.flat && v.out0) = true) (h : VR0 c v x) : VR0 (c.into ids) v x := by
  simp only [Bool.and_eq_true] at hp
  cases v with
  | ro s l =>
    have hs : s = true := hp.2
    subst hs
    obtain ⟨a, cap, rfl, hc, h0⟩ := h
    refine ⟨a, cap, rfl, hc, ?_⟩
    rcases h0 with h0 | ⟨b, off, ha, hF, hU, hcell⟩
    · exact .inl h0
    · refine .inr ⟨b, off, ha, fun _ hf => hf.elim (hF rfl) (fun h => hU h.1), fun hu => hU (into_U hu).1, fun j hj => ?_⟩
      obtain ⟨y, hy, hya⟩ := hcell j hj
      exact ⟨y, hy, into_atom hya⟩
  | own id => simp [V.ids0] at hp
  | sub id o n => simp [V.ids0] at hp
  | ptr id o => simp [V.ids0] at hp
  | ref a => simp [V.out0] at hp
  | rref n xs o => simp [V.out0] at hp
  | recs s n xs =>
    have hs : s = true := hp.2
    subst hs
    obtain ⟨hn, a, m, cap, rfl, hl, hc, h0⟩ := h
    refine ⟨hn, a, m, cap, rfl, hl, hc, ?_⟩
    rcases h0 with h0 | ⟨b, off, ha, hF, hU, hcell⟩
    · exact .inl h0
    · exact .inr ⟨b, off, ha, fun _ hf => hf.elim (hF rfl) (fun h => hU h.1), fun hu => hU (into_U hu).1, hcell⟩
  | elt id o n i => simp [V.ids0] at hp
  | agg vs => exact h.elim
  | tup vs => exact h.elim
  | _ => exact h

/-- The blocks handed over: different ones, each of plain cells, or a row. -/
structure Handed1 (c : Cx) (ids : List Nat) : Prop where
  nodup : ids.Nodup
  lt : ∀ i ∈ ids, i < c.h.length
  cells : ∀ i ∈ ids, (∃ vs, getE c.h i = .cells vs ∧ plainCells vs = true) ∨ ∃ l, getE c.h i = .row l

theorem Handed1.alive {c : Cx} {ids : List Nat} (h : Handed1 c ids) {i : Nat} (hi : i ∈ ids) : (getE c.h i).alive = true := by
  rcases h.cells i hi with ⟨vs, hvs, _⟩ | ⟨l, hl⟩
  · rw [hvs]; rfl
  · rw [hl]; rfl
theorem Handed1.more {c : Cx} {ids : List Nat} (hh : Handed1 c ids) {id : Nat} (hid : id < c.h.length) (hany : ids.any (Nat.beq id) = false) (hc : (∃ vs, getE c.h id = .cells vs ∧ plainCells vs = true) ∨ ∃ l, getE c.h id = .row l) : Handed1 c (ids ++ [id]) := by
  have hnot : id ∉ ids := fun hm => by
    have : ids.any (Nat.beq id) = true := List.any_eq_true.2 ⟨id, hm, by simp [Nat.beq_eq]⟩
    rw [this] at hany; cases hany
  refine ⟨?_, fun i hi => ?_, fun i hi => ?_⟩
  · rw [List.nodup_append]
    exact ⟨hh.nodup, by simp, fun p hp q hq e => by
      have hq' : q = id := by simpa using hq
      rw [e, hq'] at hp
      exact hnot hp⟩
  · rcases List.mem_append.1 hi with hi | hi
    · exact hh.lt i hi
    · have : i = id := by simpa using hi
      subst this; exact hid
  · rcases List.mem_append.1 hi with hi | hi
    · exact hh.cells i hi
    · have : i = id := by simpa using hi
      subst this; exact hc
theorem Handed1.at {c : Cx} {ids : List Nat} (h : Handed1 c ids) {j : Nat} (hj : j < ids.length) : ids.getD j 0 ∈ ids := by
  have e : ids.getD j 0 = ids[j] := by simp [List.getD, hj]
  rw [e]; exact List.getElem_mem hj
theorem Handed1.inj {c : Cx} {ids : List Nat} (h : Handed1 c ids) {i j : Nat} (hi : i < ids.length) (hj : j < ids.length) (he : ids.getD i 0 = ids.getD j 0) : i = j := by
  have e1 : ids.getD i 0 = ids[i] := by simp [List.getD, hi]
  have e2 : ids.getD j 0 = ids[j] := by simp [List.getD, hj]
  rw [e1, e2] at he
  have hp := List.pairwise_iff_getElem.1 h.nodup
  rcases Nat.lt_trichotomy i j with h | h | h
  · exact absurd he (hp i j hi hj h)
  · exact h
  · exact absurd he.symm (hp j i hj hi h)

theorem into_rel {c : Cx} (hr : Rel c) {ids : List Nat} (hh : Handed1 c ids) : Rel (c.into ids) := by
  have hlen : ∀ j, j < (c.into ids).h.length ↔ j < ids.length := fun j => by simp [Cx.into]
  have hin : ∀ j, j < ids.length → ids.getD j 0 < c.h.length := fun j hj => hh.lt _ (hh.at hj)
  refine ⟨fun j hj => hr.one _ (hin j ((hlen j).1 hj)), fun j hj => ?_, fun i j b hi hj hbi hbj => ?_, fun b hb => hr.lt b (into_U hb).1, fun b hb => ?_⟩
  · have hj' := (hlen j).1 hj
    rw [into_get hj']
    have he := hr.ent _ (hin j hj')
    rcases hh.cells _ (hh.at hj') with ⟨vs, hvs, hp⟩ | ⟨l, hl⟩
    case inr =>
      rw [hl] at he ⊢
      obtain ⟨e, xs, ho, ha⟩ := he
      refine ⟨e, xs, ho, fun k hk => ?_⟩
      obtain ⟨x, hx, hxa⟩ := ha k hk
      exact ⟨x, hx, into_atom hxa⟩
    rw [hvs] at he ⊢
    obtain ⟨b, e, cs, hv, hg, hs, ha⟩ := he
    refine ⟨b, e, cs, hv, hg, hs, fun k hk => ?_⟩
    obtain ⟨x, hx, hxa⟩ := ha k hk
    exact ⟨x, hx, into_plain (all_getD hp hk) hxa⟩
  · have hi' := (hlen i).1 (alive_lt hi)
    have hj' := (hlen j).1 (alive_lt hj)
    rw [into_get hi'] at hi
    rw [into_get hj'] at hj
    exact hh.inj hi' hj' (hr.inj _ _ b hi hj hbi hbj)
  · rcases hb with hb | ⟨hb, hn⟩
    · exact ⟨(hr.far b hb).1, fun hu => (hr.far b hb).2 (into_U hu).1⟩
    · refine ⟨hr.lt b hb, fun hu => ?_⟩
      obtain ⟨_, j, hj, hbj⟩ := into_U hu
      exact hn j hj hbj

/-- The cells of a struct go over. -/
theorem passVs_ok {rw keep : Bool} {c : Cx} (hr : Rel c) : ∀ (cs : List Nat) (vs : List V) (ids0 : List Nat) (xs : List Value) (us : List V) (ids1 : List Nat),
    passVs rw keep c.h cs vs ids0 = some (us, ids1) → xs.length = vs.length → (∀ j, j < vs.length → VR0 c (vs.getD j .junk) (xs.getD j undef)) → Handed1 c ids0 →
    Handed1 c ids1 ∧ (∃ r, ids1 = ids0 ++ r) ∧ us.length = vs.length ∧ ∀ ids, (∃ r, ids = ids1 ++ r) → Handed1 c ids → (rw = false → (vs.all fun v => v.ids0.all fun id => !ids.any (Nat.beq id)) = true) →
      ∀ j, j < vs.length → VR0 (c.into ids) (us.getD j .junk) (xs.getD j undef) := by
  intro cs
  induction cs with
  | nil =>
    intro vs ids0 xs us ids1 h hl hx hh
    cases vs with
    | nil =>
      simp [passVs] at h
      obtain ⟨rfl, rfl⟩ := h
      exact ⟨hh, ⟨[], by simp⟩, rfl, fun ids _ _ _ j hj => by simp at hj⟩
    | cons v r => simp [passVs] at h
  | cons code cs ih =>
    intro vs ids0 xs us ids1 h hl hx hh
    cases vs with
    | nil => simp [passVs] at h
    | cons v vs =>
      obtain ⟨x, xs, rfl⟩ : ∃ u us, xs = u :: us := by
        cases xs with
        | nil => simp at hl
        | cons u us => exact ⟨u, us, rfl⟩
      have hv : VR0 c v x := by simpa using hx 0 (by simp)
      have hx' : ∀ j, j < vs.length → VR0 c (vs.getD j .junk) (xs.getD j undef) := fun j hj => by simpa using hx (j + 1) (by simpa using hj)
      have hl' : xs.length = vs.length := by simpa using hl
      simp only [passVs] at h
      cases hp : passV rw keep c.h code ids0 v with
      | none => rw [hp] at h; cases h
      | some p =>
        rw [hp] at h
        simp only [Option.map_eq_some_iff] at h
        obtain ⟨⟨us2, i2⟩, h3, h4⟩ := h
        simp at h4
        obtain ⟨rfl, rfl⟩ := h4
        -- the first cell
        have one : Handed1 c p.2 ∧ (∃ r, p.2 = ids0 ++ r) ∧ ∀ ids, (∃ r, ids = p.2 ++ r) → Handed1 c ids → (rw = false → (v.ids0.all fun id => !ids.any (Nat.beq id)) = true) → VR0 (c.into ids) p.1 x := by
          cases v with
          | ro s l =>
            simp only [passV, Option.some.injEq] at hp
            subst hp
            refine ⟨hh, ⟨[], by simp⟩, fun ids _ hids _ => ?_⟩
            obtain ⟨a, cap, rfl, hc, h0⟩ := (show RoR c s l x from hv)
            refine ⟨a, cap, rfl, hc, ?_⟩
            rcases h0 with h0 | ⟨b, off, hab, hF, hU, hcell⟩
            · exact .inl h0
            · refine .inr ⟨b, off, hab, fun hs hf => ?_, fun hu => hU (into_U hu).1, fun j hj => ?_⟩
              · simp only [Bool.and_eq_true] at hs
                exact hf.elim (hF hs.1) (fun h => hU h.1)
              · obtain ⟨z, hz, hza⟩ := hcell j hj
                exact ⟨z, hz, into_atom hza⟩
          | own id =>
            simp only [passV] at hp
            split at hp
            · rename_i l hl2
              obtain ⟨hid, rfl⟩ := (show id < c.h.length ∧ x = c.hv id from hv)
              cases rw with
              | true =>
                rw [cond_true] at hp
                cases hany : ids0.any (Nat.beq id) with
                | true => simp [hany] at hp
                | false =>
                  rw [hany, cond_false, Option.some.injEq] at hp
                  subst hp
                  refine ⟨hh.more hid hany (.inr ⟨l, hl2⟩), ⟨[id], rfl⟩, fun ids ⟨rr, e⟩ hids _ => ?_⟩
                  have hlt : ids0.length < ids.length := by rw [e]; simp
                  have hat : ids.getD ids0.length 0 = id := by rw [e]; simp [List.getD]
                  exact ⟨by simpa [Cx.into] using hlt, by simp only [Cx.into, hat]⟩
              | false =>
                rw [cond_false, Option.some.injEq] at hp
                subst hp
                refine ⟨hh, ⟨[], by simp⟩, fun ids _ hids hno => ?_⟩
                have hno' : ids.any (Nat.beq id) = false := by simpa [V.ids0] using hno rfl
                obtain ⟨hs, h2⟩ := seen_own hr hid hl2
                refine into_seen hs (fun g hg hne hu => ?_)
                obtain ⟨hu1, j, hj, hbj⟩ := into_U hu
                have := hr.inj id (ids.getD j 0) g (by rw [hl2]; rfl) (hids.alive (hids.at hj)) hg hbj
                rw [any_beq.2 (by rw [this]; exact hids.at hj)] at hno'; cases hno'
            · cases hp
          | sub id o n =>
            simp only [passV] at hp
            split at hp
            · rename_i l hl2
              cases rw with
              | true => rw [cond_true] at hp; cases hp
              | false =>
                rw [cond_false, Option.some.injEq] at hp
                subst hp
                refine ⟨hh, ⟨[], by simp⟩, fun ids _ hids hno => ?_⟩
                have hno' : ids.any (Nat.beq id) = false := by simpa [V.ids0] using hno rfl
                obtain ⟨hid, a, cap, rfl, hn, hg, hle, _⟩ := (show VR0 c (.sub id o n) x from hv)
                have hs := list_ok hr (x := .sub id o n) (l := l.cut o n) (by simp [listOf, hl2]) (show VR c (.sub id o n) _ from hv)
                refine into_seen hs (fun g hg2 hne => ?_)
                rw [L.cut_len (hle l hl2)] at hne
                rcases hg with h2 | ⟨g', hbg, rfl⟩
                · exact absurd h2 hne
                · simp [blk] at hg2
                  subst hg2
                  intro hu
                  obtain ⟨hu1, j, hj, hbj⟩ := into_U hu
                  have := hr.inj id (ids.getD j 0) _ (by rw [hl2]; rfl) (hids.alive (hids.at hj)) hbg hbj
                  rw [any_beq.2 (by rw [this]; exact hids.at hj)] at hno'; cases hno'
            · cases hp
          | nil =>
            simp only [passV] at hp
            split at hp
            · rename_i l hl2
              rw [Option.some.injEq] at hp
              subst hp
              refine ⟨hh, ⟨[], by simp⟩, fun ids _ hids _ => ?_⟩
              have e : x = .slice none 0 0 := hv
              subst e
              have hl0 : l.len = 0 := by
                unfold codeL at hl2
                split at hl2 <;> simp at hl2 <;> subst hl2 <;> rfl
              exact ⟨none, 0, by rw [hl0], by omega, .inl hl0⟩
            · cases hp
          | int k n => simp only [passV, Option.some.injEq] at hp; subst hp; exact ⟨hh, ⟨[], by simp⟩, fun ids _ _ _ => hv⟩
          | bool b => simp only [passV, Option.some.injEq] at hp; subst hp; exact ⟨hh, ⟨[], by simp⟩, fun ids _ _ _ => hv⟩
          | str s => simp only [passV, Option.some.injEq] at hp; subst hp; exact ⟨hh, ⟨[], by simp⟩, fun ids _ _ _ => hv⟩
          | _ => simp [passV] at hp
        obtain ⟨o1, ⟨r1, o2⟩, o3⟩ := one
        obtain ⟨e1, ⟨r2, e2⟩, e3, e4⟩ := ih vs p.2 xs us2 i2 h3 hl' hx' o1
        refine ⟨e1, ⟨r1 ++ r2, by rw [e2, o2, List.append_assoc]⟩, by simp [e3], fun ids ⟨r3, he⟩ hids hno j hj => ?_⟩
        have hno1 : rw = false → (v.ids0.all fun id => !ids.any (Nat.beq id)) = true ∧ (vs.all fun v => v.ids0.all fun id => !ids.any (Nat.beq id)) = true := fun hrw => by
          have := hno hrw
          rw [List.all_cons, Bool.and_eq_true] at this
          exact this
        cases j with
        | zero => simpa using o3 ids ⟨r2 ++ r3, by rw [he, e2, List.append_assoc]⟩ hids (fun hrw => (hno1 hrw).1)
        | succ j => simpa using e4 ids ⟨r3, he⟩ hids (fun hrw => (hno1 hrw).2) j (by simpa using hj)
theorem passC_ok {keep : Bool} {c : Cx} (hr : Rel c) : ∀ (ds : List TypeDesc) (args : List V) (ids0 : List Nat) (xs : List Value) (args' : List V) (ids : List Nat),
    passC keep c.h ds args ids0 = some (args', ids) → apartC ds args ids = true → ArgsR c args xs → Handed1 c ids0 →
    Handed1 c ids ∧ (∃ r, ids = ids0 ++ r) ∧ args'.length = args.length ∧ ∀ j, j < args.length → VR (c.into ids) (args'.getD j .junk) (xs.getD j undef) := by
  intro ds
  induction ds with
  | nil =>
    intro args ids0 xs args' ids h hap ha hh
    cases args with
    | nil =>
      simp [passC] at h
      obtain ⟨rfl, rfl⟩ := h
      exact ⟨hh, ⟨[], by simp⟩, rfl, fun j hj => by simp at hj⟩
    | cons v r => simp [passC] at h
  | cons d ds ih =>
    intro args ids0 xs args' ids h hap ha hh
    cases args with
    | nil => simp [passC] at h
    | cons v args =>
      obtain ⟨y, ys, rfl, hy, ha'⟩ := ha.tail
      have hap' : apartC ds args ids = true := by unfold apartC at hap; exact (Bool.and_eq_true_iff.1 hap).2
      -- a value that goes over by itself
      have go : ∀ (u : V), (passC keep c.h ds args ids0).map (fun p => (u :: p.1, p.2)) = some (args', ids) → (Handed1 c ids → VR (c.into ids) u y) →
          Handed1 c ids ∧ (∃ r, ids = ids0 ++ r) ∧ args'.length = (v :: args).length ∧ ∀ j, j < (v :: args).length → VR (c.into ids) (args'.getD j .junk) ((y :: ys).getD j undef) := by
        intro u h2 hu
        simp only [Option.map_eq_some_iff] at h2
        obtain ⟨⟨a2, i2⟩, h3, h4⟩ := h2
        simp at h4
        obtain ⟨rfl, rfl⟩ := h4
        obtain ⟨e1, e2, e3, e4⟩ := ih args ids0 ys a2 i2 h3 hap' ha' hh
        refine ⟨e1, e2, by simp [e3], fun j hj => ?_⟩
        cases j with
        | zero => simpa using hu e1
        | succ j => simpa using e4 j (by simpa using hj)
      -- a row of one's own is not among the blocks that go over
      have away0 : Handed1 c ids → ∀ (id : Nat), ids.any (Nat.beq id) = false → (getE c.h id).alive = true → ∀ g, blk (c.hv id) = some g → ¬ (c.into ids).U g := by
        intro hids id hne hal g hg hu
        obtain ⟨hu1, j, hj, hbj⟩ := into_U hu
        have := hr.inj id (ids.getD j 0) g hal (hids.alive (hids.at hj)) hg hbj
        rw [any_beq.2 (by rw [this]; exact hids.at hj)] at hne; cases hne
      have away : Handed1 c ids → ∀ (id : Nat) (l : L), ids.any (Nat.beq id) = false → getE c.h id = .row l → ∀ g, blk (c.hv id) = some g → ¬ (c.into ids).U g := by
        intro hids id l hne hl g hg hu
        obtain ⟨hu1, j, hj, hbj⟩ := into_U hu
        have := hr.inj id (ids.getD j 0) g (by rw [hl]; rfl) (hids.alive (hids.at hj)) hg hbj
        rw [any_beq.2 (by rw [this]; exact hids.at hj)] at hne; cases hne
      cases v with
      | ro s l =>
        simp only [passC] at h
        refine go _ h (fun hids => ?_)
        obtain ⟨a, cap, rfl, hc, h0⟩ := (show RoR c s l y from hy)
        refine ⟨a, cap, rfl, hc, ?_⟩
        rcases h0 with h0 | ⟨b, off, hab, hF, hU, hcell⟩
        · exact .inl h0
        · refine .inr ⟨b, off, hab, fun hs hf => ?_, fun hu => hU (into_U hu).1, fun j hj => ?_⟩
          · simp only [Bool.and_eq_true] at hs
            exact hf.elim (hF hs.1) (fun h => hU h.1)
          · obtain ⟨z, hz, hza⟩ := hcell j hj
            exact ⟨z, hz, into_atom hza⟩
      | recs s n xs =>
        simp only [passC] at h
        refine go _ h (fun hids => ?_)
        obtain ⟨hn, a, m, cap, rfl, hl, hc, h0⟩ := (show RecR c s n xs y from hy)
        refine ⟨hn, a, m, cap, rfl, hl, hc, ?_⟩
        rcases h0 with h0 | ⟨b, off, hab, hF, hU, hcell⟩
        · exact .inl h0
        · refine .inr ⟨b, off, hab, fun hs hf => ?_, fun hu => hU (into_U hu).1, hcell⟩
          simp only [Bool.and_eq_true] at hs
          exact hf.elim (hF hs.1) (fun h => hU h.1)
      | own id =>
        simp only [passC] at h
        split at h
        · rename_i n xs hl
          cases hrw : rwD d with
          | true => rw [hrw, cond_true] at h; cases h
          | false =>
          rw [hrw, cond_false] at h
          obtain ⟨hid, rfl⟩ := (show id < c.h.length ∧ y = c.hv id from hy)
          have hno : ids.any (Nat.beq id) = false := by
            unfold apartC at hap
            have := (Bool.and_eq_true_iff.1 hap).1
            simpa [hrw] using this
          refine go _ h (fun hids => ?_)
          have he := hr.ent id hid
          rw [hl] at he
          obtain ⟨hn, e, m, hx, ho⟩ := he
          have hal : (getE c.h id).alive = true := by rw [hl]; rfl
          rcases ho.2 with ⟨hv, hm⟩ | ⟨g, cap, cur, hv, _, hg, hnc, hm, hs, ht⟩
          · exact ⟨hn, none, 0, 0, by rw [hv], by rw [hx, hm], Nat.le_refl _, .inl (by rw [hx, hm]; simp)⟩
          · have hbk : blk (c.hv id) = some g := by rw [hv]; rfl
            refine ⟨hn, _, m, cap, hv, hx, hnc, .inr ⟨g, 0, rfl, fun h => (by cases h), away0 hids id hno hal g hbk, fun j hj => ?_⟩⟩
            rw [hv] at ho
            show c.w.cell? _ = _
            rw [Nat.zero_add, ho.cellAt j (by omega), List.getElem?_map, List.getElem?_eq_getElem hj]
            simp [eli, List.getD, hj]
        · rename_i l hl
          obtain ⟨hid, rfl⟩ := (show id < c.h.length ∧ y = c.hv id from hy)
          cases hrw : rwD d with
          | true =>
            rw [hrw, cond_true] at h
            cases hany : ids0.any (Nat.beq id) with
            | true => simp [hany] at h
            | false =>
              rw [hany, cond_false] at h
              simp only [Option.map_eq_some_iff] at h
              obtain ⟨⟨a2, i2⟩, h3, h4⟩ := h
              simp at h4
              obtain ⟨rfl, rfl⟩ := h4
              obtain ⟨e1, ⟨rr, e2⟩, e3, e4⟩ := ih args _ ys a2 i2 h3 hap' ha' (hh.more hid hany (.inr ⟨l, hl⟩))
              refine ⟨e1, ⟨id :: rr, by rw [e2]; simp⟩, by simp [e3], fun j hj => ?_⟩
              cases j with
              | zero =>
                have hlt : ids0.length < i2.length := by rw [e2]; simp
                have hat : i2.getD ids0.length 0 = id := by rw [e2]; simp [List.getD]
                simp only [List.getD_cons_zero]
                exact ⟨by simpa [Cx.into] using hlt, by simp only [Cx.into, hat]⟩
              | succ j => simpa using e4 j (by simpa using hj)
          | false =>
          rw [hrw, cond_false] at h
          have hno : ids.any (Nat.beq id) = false := by
            unfold apartC at hap
            have := (Bool.and_eq_true_iff.1 hap).1
            simpa [hrw] using this
          refine go _ h (fun hids => ?_)
          obtain ⟨hs, h2⟩ := seen_own hr hid hl
          exact into_seen hs (fun g hg hne => away hids id l hno hl g hg)
        · cases h
      | sub id o n =>
        simp only [passC] at h
        split at h
        · rename_i l hl
          obtain ⟨hid, a, cap, rfl, hn, hg, hle, _⟩ := (show VR0 c (.sub id o n) y from hy)
          refine go _ h (fun hids => ?_)
          have hs := list_ok hr (x := .sub id o n) (l := l.cut o n) (by simp [listOf, hl]) (show VR c (.sub id o n) _ from hy)
          refine into_seen hs (fun g hg2 hne => ?_)
          rw [L.cut_len (hle l hl)] at hne
          rcases hg with h2 | ⟨g', hbg, rfl⟩
          · exact absurd h2 hne
          · simp [blk] at hg2
            subst hg2
            refine away hids id l ?_ hl _ hbg
            unfold apartC at hap
            have := (Bool.and_eq_true_iff.1 hap).1
            simpa using this
        · cases h
      | nil =>
        simp only [passC] at h
        split at h
        · rename_i l hl
          refine go _ h (fun hids => ?_)
          have e : y = .slice none 0 0 := hy
          subst e
          have hl0 : l.len = 0 := by
            unfold emptyRow at hl
            split at hl <;> simp at hl <;> subst hl <;> rfl
          exact ⟨none, 0, by rw [hl0], by omega, .inl hl0⟩
        · cases h
      | int k n => simp only [passC] at h; exact go _ h (fun hids => hy)
      | bool b => simp only [passC] at h; exact go _ h (fun hids => hy)
      | str s => simp only [passC] at h; exact go _ h (fun hids => hy)
      | agg vs =>
        -- the cells go over one by one
        have byCells : ∀ (rw : Bool) (cs : List Nat) (q : List V × List Nat), passVs rw keep c.h cs vs ids0 = some q → (passC keep c.h ds args q.2).map (fun p => (V.agg q.1 :: p.1, p.2)) = some (args', ids) →
            (rw = false → rwD d = false) →
            Handed1 c ids ∧ (∃ r, ids = ids0 ++ r) ∧ args'.length = (V.agg vs :: args).length ∧ ∀ j, j < (V.agg vs :: args).length → VR (c.into ids) (args'.getD j .junk) ((y :: ys).getD j undef) := by
          intro rw cs q hq h2 hrwd
          obtain ⟨arr, e, hs, hall⟩ := (show VR1 c (.agg vs) y from hy)
          have hall' : ∀ j, j < vs.length → VR0 c (vs.getD j .junk) (arr.toList.getD j undef) := fun j hj => by
            have := hall j hj
            simpa [Array.getD, List.getD, show j < arr.size by omega] using this
          obtain ⟨b1, ⟨r1, b2⟩, b3, b4⟩ := passVs_ok hr cs vs ids0 arr.toList q.1 q.2 hq (by simpa using hs) hall' hh
          simp only [Option.map_eq_some_iff] at h2
          obtain ⟨⟨a2, i2⟩, h3, h4⟩ := h2
          simp at h4
          obtain ⟨rfl, rfl⟩ := h4
          obtain ⟨e1, ⟨r2, e2⟩, e3, e4⟩ := ih args q.2 ys a2 i2 h3 hap' ha' b1
          refine ⟨e1, ⟨r1 ++ r2, by rw [e2, b2, List.append_assoc]⟩, by simp [e3], fun j hj => ?_⟩
          cases j with
          | zero =>
            have hno : rw = false → (vs.all fun v => v.ids0.all fun id => !i2.any (Nat.beq id)) = true := fun hrw => by
              unfold apartC at hap
              have := (Bool.and_eq_true_iff.1 hap).1
              simpa [hrwd hrw] using this
            have hc := b4 i2 ⟨r2, e2⟩ e1 hno
            simp only [List.getD_cons_zero]
            refine ⟨arr, e, by rw [b3]; exact hs, fun j hj => ?_⟩
            have hj' : j < vs.length := by rw [b3] at hj; exact hj
            have := hc j hj'
            simpa [Array.getD, List.getD, show j < arr.size by omega] using this
          | succ j => simpa using e4 j (by simpa using hj)
        simp only [passC] at h
        split at h
        · rename_i cs
          split at h
          · rename_i q hq
            exact byCells false cs.toList q hq h (fun _ => rfl)
          · cases h
        · rename_i cs rs va
          split at h
          · rename_i q hq
            exact byCells true cs.toList q hq h (fun hf => by cases hf)
          · cases h
        · cases hpl : vs.all fun v => v.ids0.isEmpty && v.flat && v.out0 with
          | false => rw [hpl, cond_false] at h; cases h
          | true =>
            rw [hpl, cond_true] at h
            refine go _ h (fun hids => ?_)
            obtain ⟨cs, e, hs, hall⟩ := (show VR1 c (.agg vs) y from hy)
            exact ⟨cs, e, hs, fun j hj => into_plain (all_getD hpl hj) (hall j hj)⟩
      | ptr id off =>
        cases off with
        | succ off => simp [passC] at h
        | zero =>
          simp only [passC] at h
          cases hany : ids0.any (Nat.beq id) with
          | true => simp [hany] at h
          | false =>
            rw [hany, cond_false] at h
            split at h
            · rename_i vs hvs
              cases hpl : plainCells vs with
              | false =>
                have : (vs.all fun v => v.ids0.isEmpty && v.flat && v.out0) = false := hpl
                rw [this, cond_false] at h; cases h
              | true =>
                have : (vs.all fun v => v.ids0.isEmpty && v.flat && v.out0) = true := hpl
                rw [this, cond_true] at h
                obtain ⟨hid, g, hg, rfl⟩ := (show VR0 c (.ptr id 0) y from hy)
                have hh' : Handed1 c (ids0 ++ [id]) := hh.more hid hany (.inl ⟨vs, hvs, hpl⟩)
                simp only [Option.map_eq_some_iff] at h
                obtain ⟨⟨a2, i2⟩, h3, h4⟩ := h
                simp at h4
                obtain ⟨rfl, rfl⟩ := h4
                obtain ⟨e1, ⟨rr, e2⟩, e3, e4⟩ := ih args _ ys a2 i2 h3 hap' ha' hh'
                refine ⟨e1, ⟨id :: rr, by rw [e2]; simp⟩, by simp [e3], fun j hj => ?_⟩
                cases j with
                | zero =>
                  have hlt : ids0.length < i2.length := by rw [e2]; simp
                  have hat : i2.getD ids0.length 0 = id := by rw [e2]; simp [List.getD]
                  simp only [List.getD_cons_zero]
                  exact ⟨by simpa [Cx.into] using hlt, g, by simp only [Cx.into, hat]; exact hg, rfl⟩
                | succ j => simpa using e4 j (by simpa using hj)
            · cases h
      | _ => simp [passC] at h

end Go.Proofs.Ytgpgifpblchjjaa.D
/- What a call hands back. Conditions: those of each theorem. -/
namespace Go.Proofs.Ytgpgifpblchjjaa.D
open Go.RowKit
set_option linter.unusedVariables false
set_option linter.unusedSimpArgs false

theorem backE_len : ∀ (ids : List Nat) (es h : List E), (backE ids es h).length = h.length := by
  intro ids
  induction ids with
  | nil => intro es h; cases es <;> rfl
  | cons i ids ih =>
    intro es h
    cases es with
    | nil => rfl
    | cons e es => simp only [backE]; rw [ih]; simp
theorem backE_old : ∀ (ids : List Nat) (es h : List E) (i : Nat), i ∉ ids → getE (backE ids es h) i = getE h i := by
  intro ids
  induction ids with
  | nil => intro es h i _; cases es <;> rfl
  | cons k ids ih =>
    intro es h i hi
    cases es with
    | nil => rfl
    | cons e es =>
      simp only [backE]
      have h1 : i ≠ k := fun e => hi (by simp [e])
      have h2 : i ∉ ids := fun e => hi (by simp [e])
      rw [ih es _ i h2]
      have h3 : ¬ k = i := fun e => h1 e.symm
      simp [getE, List.getD, h3]
theorem backE_at : ∀ (ids : List Nat) (es h : List E), ids.Nodup → (∀ i ∈ ids, i < h.length) → es.length = ids.length → ∀ j, j < ids.length → getE (backE ids es h) (ids.getD j 0) = getE es j := by
  intro ids
  induction ids with
  | nil => intro es h _ _ _ j hj; simp at hj
  | cons k ids ih =>
    intro es h hn hl he j hj
    cases es with
    | nil => simp at he
    | cons e es =>
      simp only [backE]
      have hn' := List.nodup_cons.1 hn
      cases j with
      | zero =>
        simp only [List.getD_cons_zero]
        rw [backE_old ids es _ k hn'.1]
        have := hl k (by simp)
        simp [getE, List.getD, this]
      | succ j =>
        simp only [List.getD_cons_succ]
        rw [ih es _ hn'.2 (fun i hi => by simpa using hl i (by simp [hi])) (by simpa using he) j (by simpa using hj)]
        simp [getE]

def Cx.back (c : Cx) (ids : List Nat) (c1 : Cx) : Cx :=
  ⟨c.F, backE ids ((c1.h.take ids.length).map (E.sh ids c.h.length)) c.h ++ (c1.h.drop ids.length).map (E.sh ids c.h.length),
    fun i => if i < c.h.length then c.hv i else c1.hv (ids.length + (i - c.h.length)), c1.w⟩

theorem getE_map_sh (f : E → E) (hf : f .dead = .dead) (h : List E) (i : Nat) : getE (h.map f) i = f (getE h i) := by
  rcases Nat.lt_or_ge i h.length with hi | hi
  · simp [getE, List.getD, hi]
  · rw [getE_out hi, getE_out (by simpa using hi), hf]

section
variable {c c1 : Cx} {ids : List Nat}

theorem back_len (hk : ids.length ≤ c1.h.length) : (c.back ids c1).h.length = c.h.length + (c1.h.length - ids.length) := by
  simp [Cx.back, backE_len]
theorem back_old {i : Nat} (hi : i < c.h.length) (hn : i ∉ ids) : getE (c.back ids c1).h i = getE c.h i := by
  show getE (backE _ _ _ ++ _) i = _
  rw [getE_append_lt (by rw [backE_len]; exact hi), backE_old _ _ _ _ hn]
theorem back_at (hh : Handed1 c ids) (hk : ids.length ≤ c1.h.length) {j : Nat} (hj : j < ids.length) : getE (c.back ids c1).h (ids.getD j 0) = (getE c1.h j).sh ids c.h.length := by
  show getE (backE _ _ _ ++ _) _ = _
  rw [getE_append_lt (by rw [backE_len]; exact hh.lt _ (hh.at hj)), backE_at ids _ _ hh.nodup hh.lt (by simp; omega) j hj, getE_map_sh _ rfl]
  congr 1
  simp [getE, List.getD, List.getElem?_take, hj]
theorem back_new {i : Nat} (hi : c.h.length ≤ i) : getE (c.back ids c1).h i = (getE c1.h (ids.length + (i - c.h.length))).sh ids c.h.length := by
  have hl : (backE ids ((c1.h.take ids.length).map (E.sh ids c.h.length)) c.h).length = c.h.length := backE_len _ _ _
  show getE (backE _ _ _ ++ _) i = _
  have : getE (backE ids ((c1.h.take ids.length).map (E.sh ids c.h.length)) c.h ++ (c1.h.drop ids.length).map (E.sh ids c.h.length)) i = getE ((c1.h.drop ids.length).map (E.sh ids c.h.length)) (i - c.h.length) := by
    simp only [getE, List.getD]
    rw [List.getElem?_append_right (by omega), hl]
  rw [this, getE_map_sh _ rfl]
  congr 1
  simp [getE, List.getD, List.getElem?_drop]

theorem E.sh_alive (e : E) (ids : List Nat) (n : Nat) : (e.sh ids n).alive = e.alive := by cases e <;> rfl
theorem E.sh_same (e : E) (ids : List Nat) (n : Nat) : sameE e (e.sh ids n) = true := by cases e <;> simp [E.sh, sameE]

theorem back_hv (_ : Rel c) (_ : Handed1 c ids) (hE : Ext (c.into ids) c1) (_ : Rel c1) {j : Nat} (hj : j < ids.length) : c.hv (ids.getD j 0) = c1.hv j := by
  have := (hE.ids j (by simpa [Cx.into] using hj)).1
  exact this.symm
theorem back_k (_ : Rel c) (_ : Handed1 c ids) (hE : Ext (c.into ids) c1) (_ : Rel c1) : ids.length ≤ c1.h.length := by have := hE.len; simpa [Cx.into] using this


/-- Where an own block of the caller's new state comes from. -/
theorem back_cases (hr : Rel c) (hh : Handed1 c ids) (hE : Ext (c.into ids) c1) (hr1 : Rel c1) {i : Nat} (ha : (getE (c.back ids c1).h i).alive = true) :
    (i < c.h.length ∧ i ∉ ids ∧ (getE c.h i).alive = true ∧ (c.back ids c1).hv i = c.hv i) ∨
    ∃ j, (getE c1.h j).alive = true ∧ (c.back ids c1).hv i = c1.hv j ∧ ((j < ids.length ∧ i = ids.getD j 0) ∨ (ids.length ≤ j ∧ i = c.h.length + (j - ids.length))) := by
  have hk := back_k hr hh hE hr1
  rcases Nat.lt_or_ge i c.h.length with hi | hi
  · by_cases hm : i ∈ ids
    · right
      obtain ⟨j, hj, hji⟩ := List.getElem_of_mem hm
      have e : ids.getD j 0 = i := by simp [List.getD, hj]; exact hji
      refine ⟨j, ?_, ?_, .inl ⟨hj, e.symm⟩⟩
      · rw [← e, back_at hh hk hj, E.sh_alive] at ha; exact ha
      · rw [← back_hv hr hh hE hr1 hj, e]; simp [Cx.back, hi]
    · left
      rw [back_old hi hm] at ha
      exact ⟨hi, hm, ha, by simp [Cx.back, hi]⟩
  · right
    rw [back_new hi, E.sh_alive] at ha
    exact ⟨_, ha, by have : ¬ i < c.h.length := by omega
                     simp [Cx.back, this], .inr ⟨by omega, by omega⟩⟩

theorem back_U (hr : Rel c) (hh : Handed1 c ids) (hE : Ext (c.into ids) c1) (hr1 : Rel c1) {b : Nat} (h : (c.back ids c1).U b) : (∃ i, i < c.h.length ∧ i ∉ ids ∧ (getE c.h i).alive = true ∧ blk (c.hv i) = some b) ∨ c1.U b := by
  obtain ⟨i, ha, hb⟩ := h
  rcases back_cases hr hh hE hr1 ha with ⟨h1, h2, h3, h4⟩ | ⟨j, h1, h2, _⟩
  · exact .inl ⟨i, h1, h2, h3, by rw [← h4]; exact hb⟩
  · exact .inr ⟨j, h1, by rw [← h2]; exact hb⟩

/-- A block of the caller's own that did not go over is none of the callee's. -/
theorem back_far (hr : Rel c) (hh : Handed1 c ids) (hE : Ext (c.into ids) c1) (hr1 : Rel c1) {i b : Nat} (hm : i ∉ ids) (ha : (getE c.h i).alive = true) (hb : blk (c.hv i) = some b) : (c.into ids).F b ∧ ¬ (c.into ids).U b ∧ ¬ c1.U b := by
  have hF : (c.into ids).F b := by
    refine .inr ⟨⟨i, ha, hb⟩, fun j hj hbj => hm ?_⟩
    have := hr.inj i (ids.getD j 0) b ha (hh.alive (hh.at hj)) hb hbj
    rw [this]; exact hh.at hj
  exact ⟨hF, ((into_rel hr hh).far b hF).2, (hr1.far b (by rw [hE.F]; exact hF)).2⟩

theorem back_ext (hr : Rel c) (hh : Handed1 c ids) (hE : Ext (c.into ids) c1) (hr1 : Rel c1) : Ext c (c.back ids c1) where
  F := rfl
  os := hE.os
  tape := hE.tape
  output := hE.output
  size := hE.size
  block := fun k hk hu => hE.block k hk (fun h => hu (into_U h).1)
  own := fun b hb => by
    rcases back_U hr hh hE hr1 hb with ⟨i, _, _, h1, h2⟩ | h
    · exact .inl ⟨i, h1, h2⟩
    · exact (hE.own b h).imp (fun h => (into_U h).1) id
  len := by rw [back_len (back_k hr hh hE hr1)]; omega
  ids := fun i hi => ⟨by simp [Cx.back, hi], by
    by_cases hm : i ∈ ids
    · obtain ⟨j, hj, hji⟩ := List.getElem_of_mem hm
      have e : ids.getD j 0 = i := by simp [List.getD, hj]; exact hji
      have h1 := (hE.ids j (by simpa [Cx.into] using hj)).2
      rw [into_get hj, e] at h1
      have h2 := back_at hh (back_k hr hh hE hr1) hj
      rw [e] at h2
      rw [h2]
      exact sameE_trans h1 (E.sh_same _ _ _)
    · rw [back_old hi hm]; exact sameE_refl _⟩

theorem back_free (hr : Rel c) (hh : Handed1 c ids) (hE : Ext (c.into ids) c1) (hr1 : Rel c1) {b : Nat} (hF : ¬ c1.F b) (hU : ¬ c1.U b) : ¬ (c.back ids c1).F b ∧ ¬ (c.back ids c1).U b := by
  rw [hE.F] at hF
  refine ⟨fun h => hF (.inl h), fun h => ?_⟩
  rcases back_U hr hh hE hr1 h with ⟨i, _, h1, h2, h3⟩ | h
  · exact hF (back_far hr hh hE hr1 h1 h2 h3).1
  · exact hU h

theorem back_rowV (hr : Rel c) (hh : Handed1 c ids) (hE : Ext (c.into ids) c1) (hr1 : Rel c1) {xs : List Int} {v : Value} (h : RowV c1 xs v) : RowV (c.back ids c1) xs v := by
  obtain ⟨a, cap, rfl, hc, h0⟩ := h
  refine ⟨a, cap, rfl, hc, ?_⟩
  rcases h0 with h0 | ⟨b, off, ha, hF, hU, hcell⟩
  · exact .inl h0
  · have := back_free hr hh hE hr1 hF hU
    exact .inr ⟨b, off, ha, this.1, this.2, hcell⟩
theorem back_atom (hr : Rel c) (hh : Handed1 c ids) (hE : Ext (c.into ids) c1) (hr1 : Rel c1) {a : Atom} {v : Value} (h : AtomR c1 a v) : AtomR (c.back ids c1) a v := by
  cases a <;> first | exact h | exact back_rowV hr hh hE hr1 h

theorem back_map (hr : Rel c) (hh : Handed1 c ids) (hE : Ext (c.into ids) c1) (hr1 : Rel c1) {id : Nat} (hid : id < c1.h.length) : mapId ids c.h.length id < (c.back ids c1).h.length ∧ (c.back ids c1).hv (mapId ids c.h.length id) = c1.hv id ∧
    getE (c.back ids c1).h (mapId ids c.h.length id) = (getE c1.h id).sh ids c.h.length := by
  have hk := back_k hr hh hE hr1
  have hl := back_len (c := c) (c1 := c1) (ids := ids) hk
  by_cases hj : id < ids.length
  · have hb : Nat.blt id ids.length = true := by simpa [Nat.blt_eq] using hj
    have hlt := hh.lt _ (hh.at hj)
    refine ⟨by rw [hl]; simp only [mapId, hb, cond_true]; omega, ?_, ?_⟩
    · simp only [mapId, hb, cond_true]
      rw [← back_hv hr hh hE hr1 hj]
      simp only [Cx.back, hlt, if_true]
    · simp only [mapId, hb, cond_true]
      exact back_at hh hk hj
  · have hb : Nat.blt id ids.length = false := by
      cases hx : Nat.blt id ids.length with
      | false => rfl
      | true => rw [Nat.blt_eq] at hx; omega
    refine ⟨by rw [hl]; simp only [mapId, hb, cond_false]; omega, ?_, ?_⟩
    · simp only [mapId, hb, cond_false, Cx.back]
      have h1 : ¬ (c.h.length + (id - ids.length) < c.h.length) := by omega
      rw [if_neg h1]
      congr 1; omega
    · simp only [mapId, hb, cond_false]
      rw [back_new (by omega)]
      congr 2; omega

theorem back_vr0 (hr : Rel c) (hh : Handed1 c ids) (hE : Ext (c.into ids) c1) (hr1 : Rel c1) {u : V} {v : Value} (ho : u.out0 = true) (h : VR0 c1 u v) : VR0 (c.back ids c1) (u.sh0 ids c.h.length) v := by
  cases u with
  | own id =>
    obtain ⟨h1, h2, h3⟩ := back_map hr hh hE hr1 h.1
    exact ⟨h1, h.2.trans h2.symm⟩
  | sub id o n =>
    obtain ⟨hid, a, cap, rfl, hn, hg, hl, hz⟩ := h
    obtain ⟨h1, h2, h3⟩ := back_map hr hh hE hr1 hid
    refine ⟨h1, a, cap, rfl, hn, by rw [h2]; exact hg, fun l hl' => ?_, fun h0 => by rw [h2]; exact hz h0⟩
    rw [h3] at hl'
    cases he : getE c1.h id with
    | row l2 => rw [he] at hl'; simp [E.sh] at hl'; subst hl'; exact hl l2 he
    | cells vs => rw [he] at hl'; simp [E.sh] at hl'
    | dead => rw [he] at hl'; simp [E.sh] at hl'
    | recs n xs => rw [he] at hl'; simp [E.sh] at hl'
  | ptr id o =>
    obtain ⟨hid, g, hg, rfl⟩ := h
    obtain ⟨h1, h2, h3⟩ := back_map hr hh hE hr1 hid
    exact ⟨h1, g, by rw [h2]; exact hg, rfl⟩
  | ro s l =>
    have hs : s = true := ho
    subst hs
    obtain ⟨a, cap, rfl, hc, h0⟩ := h
    refine ⟨a, cap, rfl, hc, ?_⟩
    rcases h0 with h0 | ⟨b, off, ha, hF, hU, hcell⟩
    · exact .inl h0
    · have := back_free hr hh hE hr1 (hF rfl) hU
      refine .inr ⟨b, off, ha, fun _ => this.1, this.2, fun j hj => ?_⟩
      obtain ⟨x, hx, hxa⟩ := hcell j hj
      exact ⟨x, hx, back_atom hr hh hE hr1 hxa⟩
  | ref a => simp [V.out0] at ho
  | rref n xs o => simp [V.out0] at ho
  | recs s n xs =>
    have hs : s = true := ho
    subst hs
    obtain ⟨hn, a, m, cap, rfl, hl, hc, h0⟩ := h
    refine ⟨hn, a, m, cap, rfl, hl, hc, ?_⟩
    rcases h0 with h0 | ⟨b, off, ha, hF, hU, hcell⟩
    · exact .inl h0
    · have := back_free hr hh hE hr1 (hF rfl) hU
      exact .inr ⟨b, off, ha, fun _ => this.1, this.2, hcell⟩
  | elt id o n i => simp [V.out0] at ho
  | agg vs => exact h.elim
  | tup vs => exact h.elim
  | _ => exact h
theorem back_vr1 (hr : Rel c) (hh : Handed1 c ids) (hE : Ext (c.into ids) c1) (hr1 : Rel c1) {u : V} {v : Value} (ho : u.out1 = true) (h : VR1 c1 u v) : VR1 (c.back ids c1) (u.sh1 ids c.h.length) v := by
  cases u with
  | agg vs =>
    obtain ⟨cs, rfl, hs, ha⟩ := h
    refine ⟨cs, rfl, by simpa using hs, fun j hj => ?_⟩
    have hj' : j < vs.length := by simpa using hj
    have e : (vs.map (V.sh0 ids c.h.length)).getD j .junk = (vs.getD j .junk).sh0 ids c.h.length := by simp [List.getD, hj']
    rw [e]; exact back_vr0 hr hh hE hr1 (all_getD (p := V.out0) ho hj') (ha j hj')
  | tup vs => exact h.elim
  | own id => exact (back_vr0 hr hh hE hr1 (u := .own id) ho h).vr1
  | sub id o n => exact (back_vr0 hr hh hE hr1 (u := .sub id o n) ho h).vr1
  | ptr id o => exact (back_vr0 hr hh hE hr1 (u := .ptr id o) ho h).vr1
  | ro s l => exact (back_vr0 hr hh hE hr1 (u := .ro s l) ho h).vr1
  | ref a => simp [V.out1, V.out0] at ho
  | rref n xs o => simp [V.out1, V.out0] at ho
  | recs s n xs => exact (back_vr0 hr hh hE hr1 (u := .recs s n xs) ho h).vr1
  | elt id o n i => simp [V.out1, V.out0] at ho
  | _ => exact h
theorem back_vr (hr : Rel c) (hh : Handed1 c ids) (hE : Ext (c.into ids) c1) (hr1 : Rel c1) {u : V} {v : Value} (ho : u.outs) (h : VR c1 u v) : VR (c.back ids c1) (u.sh ids c.h.length) v := by
  rcases ho with ho | ⟨vs, rfl, ho⟩
  · have hnt : ∀ ws, u ≠ .tup ws := fun ws e => by subst e; simp [V.out1, V.out0] at ho
    have h1 := back_vr1 hr hh hE hr1 ho ((vr_eq hnt).1 h)
    have e : u.sh ids c.h.length = u.sh1 ids c.h.length := by
      cases u <;> first | rfl | exact absurd rfl (hnt _)
    rw [e]; exact h1.vr
  · obtain ⟨cs, rfl, hs, ha⟩ := h
    refine ⟨cs, rfl, by simpa using hs, fun j hj => ?_⟩
    have hj' : j < vs.length := by simpa using hj
    have e : (vs.map (V.sh1 ids c.h.length)).getD j .junk = (vs.getD j .junk).sh1 ids c.h.length := by simp [List.getD, hj']
    rw [e]; exact back_vr1 hr hh hE hr1 (all_getD (p := V.out1) ho hj') (ha j hj')

theorem back_rel (hr : Rel c) (hh : Handed1 c ids) (hE : Ext (c.into ids) c1) (hr1 : Rel c1) (ho : c1.h.all E.out = true) : Rel (c.back ids c1) := by
  have hk := back_k hr hh hE hr1
  have hX := back_ext hr hh hE hr1
  have hout : ∀ j, (getE c1.h j).out = true := fun j => by
    rcases Nat.lt_or_ge j c1.h.length with hj | hj
    · rw [List.all_eq_true] at ho
      have e : getE c1.h j = c1.h[j] := by simp [getE, List.getD, hj]
      rw [e]; exact ho _ (List.getElem_mem hj)
    · rw [getE_out hj]; rfl
  have conv : ∀ i j, (c.back ids c1).hv i = c1.hv j → Ent c1 j (getE c1.h j) → Ent (c.back ids c1) i ((getE c1.h j).sh ids c.h.length) := by
    intro i j hv he
    have hoj := hout j
    cases hd : getE c1.h j with
    | row l =>
      rw [hd] at he
      obtain ⟨e, xs, ho, ha⟩ := he
      refine ⟨e, xs, by rw [hv]; exact ho, fun k hk => ?_⟩
      obtain ⟨x, hx, hxa⟩ := ha k hk
      exact ⟨x, hx, back_atom hr hh hE hr1 hxa⟩
    | cells vs =>
      rw [hd] at he hoj
      obtain ⟨b, e, cs, hvb, hg, hs, ha⟩ := he
      refine ⟨b, e, cs, by rw [hv]; exact hvb, hg, by simpa using hs, fun k hk => ?_⟩
      have hk' : k < vs.length := by simpa using hk
      obtain ⟨x, hx, hxa⟩ := ha k hk'
      refine ⟨x, hx, ?_⟩
      have e : (vs.map (V.sh0 ids c.h.length)).getD k .junk = (vs.getD k .junk).sh0 ids c.h.length := by simp [List.getD, hk']
      rw [e]; exact back_vr0 hr hh hE hr1 (all_getD (p := V.out0) hoj hk') hxa
    | dead => trivial
    | recs n xs =>
      rw [hd] at he
      obtain ⟨hn, e, m, hx, ho⟩ := he
      exact ⟨hn, e, m, hx, by rw [hv]; exact ho⟩
  refine ⟨fun i hi => ?_, fun i hi => ?_, fun i j b hi hj hbi hbj => ?_, fun b hb => ?_, fun b hb => ?_⟩
  · rcases Nat.lt_or_ge i c.h.length with h | h
    · have e : (c.back ids c1).hv i = c.hv i := by simp [Cx.back, h]
      rw [e]; exact hr.one i h
    · have e : (c.back ids c1).hv i = c1.hv (ids.length + (i - c.h.length)) := by
        have : ¬ i < c.h.length := by omega
        simp [Cx.back, this]
      rw [e]; exact hr1.one _ (by rw [back_len hk] at hi; omega)
  · rcases Nat.lt_or_ge i c.h.length with h | h
    · by_cases hm : i ∈ ids
      · obtain ⟨j, hj, hji⟩ := List.getElem_of_mem hm
        have e : ids.getD j 0 = i := by simp [List.getD, hj]; exact hji
        have h2 := back_at hh hk hj
        rw [e] at h2
        rw [h2]
        exact conv i j (by rw [← back_hv hr hh hE hr1 hj, e]; simp [Cx.back, h]) (hr1.ent j (by omega))
      · rw [back_old h hm]
        by_cases hal : (getE c.h i).alive = true
        · refine (hr.ent i h).keep hX h (fun b hb => ?_)
          exact hE.block b (hr.lt b ⟨i, hal, hb⟩) (back_far hr hh hE hr1 hm hal hb).2.1
        · cases hd : getE c.h i with
          | dead => trivial
          | row l => rw [hd] at hal; exact absurd rfl hal
          | cells vs => rw [hd] at hal; exact absurd rfl hal
          | recs n xs => rw [hd] at hal; exact absurd rfl hal
    · rw [back_new h]
      refine conv i _ ?_ (hr1.ent _ (by rw [back_len hk] at hi; omega))
      have : ¬ i < c.h.length := by omega
      simp [Cx.back, this]
  · rcases back_cases hr hh hE hr1 hi with ⟨a1, a2, a3, a4⟩ | ⟨p, p1, p2, p3⟩ <;> rcases back_cases hr hh hE hr1 hj with ⟨b1, b2, b3, b4⟩ | ⟨q, q1, q2, q3⟩
    · rw [a4] at hbi; rw [b4] at hbj
      exact hr.inj i j b a3 b3 hbi hbj
    · rw [a4] at hbi; rw [q2] at hbj
      exact absurd ⟨q, q1, hbj⟩ (back_far hr hh hE hr1 a2 a3 hbi).2.2
    · rw [b4] at hbj; rw [p2] at hbi
      exact absurd ⟨p, p1, hbi⟩ (back_far hr hh hE hr1 b2 b3 hbj).2.2
    · rw [p2] at hbi; rw [q2] at hbj
      have hpq := hr1.inj p q b p1 q1 hbi hbj
      subst hpq
      rcases p3 with ⟨x1, x2⟩ | ⟨x1, x2⟩ <;> rcases q3 with ⟨y1, y2⟩ | ⟨y1, y2⟩
      · rw [x2, y2]
      · omega
      · omega
      · rw [x2, y2]
  · rcases back_U hr hh hE hr1 hb with ⟨i, h1, h2, h3, h4⟩ | h
    · exact Nat.lt_of_lt_of_le (hr.lt b ⟨i, h3, h4⟩) hE.size
    · exact hr1.lt b h
  · have h1 : c1.F b := by rw [hE.F]; exact .inl hb
    refine ⟨(hr1.far b h1).1, fun hu => ?_⟩
    rcases back_U hr hh hE hr1 hu with ⟨i, _, _, h3, h4⟩ | h
    · exact (hr.far b hb).2 ⟨i, h3, h4⟩
    · exact (hr1.far b h1).2 h
end

/-- A call by what is known of the callee. -/
theorem callC_ok {P : Program} {f : FuncId} {sp : List V → List E → (V → List E → R) → R} (hf : FnOk P f sp) {keep : Bool} {ds : List TypeDesc} {args : List V} {κ : V → List E → R} {r : V × List E} {c : Cx} {cargs : Array Value}
    (h : callC keep ds sp args c.h κ = some r) (hr : Rel c) (ha : ArgsR c args cargs.toList) :
    Calls P f cargs c.w fun e w' => ∃ x v c', e = .returned x ∧ κ v c'.h = some r ∧ Ext c c' ∧ Rel c' ∧ VR c' v x ∧ c'.w = w' := by
  unfold callC at h
  split at h
  · rename_i args' ids hp
    have h0 : Handed1 c [] := ⟨List.nodup_nil, by simp, by simp⟩
    obtain ⟨hh, _, hlen, hall⟩ := passC_ok hr ds args [] _ args' ids (passA_is hp).1 (passA_is hp).2 ha h0
    have harg : ArgsR (c.into ids) args' cargs.toList := ⟨by rw [hlen]; exact ha.1, fun j hj => hall j (by omega)⟩
    refine (hf args' _ r (c.into ids) cargs h (into_rel hr hh) harg).mono ?_
    rintro e w' ⟨x, v, c1, rfl, h2, h3, h4, h5, rfl, h7, h8⟩
    exact ⟨x, v.sh ids c.h.length, c.back ids c1, rfl, h2, back_ext hr hh h3 h4, back_rel hr hh h3 h4 h8, back_vr hr hh h3 h4 h7 h5, rfl⟩
  · cases h

end Go.Proofs.Ytgpgifpblchjjaa.D
/- Operations that look at few blocks: what they do on other states. Conditions: those of each theorem. -/
namespace Go.Proofs.Ytgpgifpblchjjaa.D
open Go.RowKit
set_option linter.unusedVariables false
set_option linter.unusedSimpArgs false

/-- All blocks that a value names. -/
def V.all : V → List Nat
  | .tup vs => vs.flatMap V.ids
  | v => v.ids
/-- The blocks under other numbers. -/
def V.mp0 (f : Nat → Nat) : V → V
  | .own id => .own (f id)
  | .sub id o n => .sub (f id) o n
  | .ptr id o => .ptr (f id) o
  | .elt id o n i => .elt (f id) o n i
  | .agg _ | .tup _ => .junk
  | v => v
def V.mp1 (f : Nat → Nat) : V → V
  | .agg vs => .agg (vs.map (V.mp0 f))
  | v => v.mp0 f
def V.mpT (f : Nat → Nat) : V → V
  | .tup vs => .tup (vs.map (V.mp1 f))
  | v => v.mp1 f
def E.mp (f : Nat → Nat) : E → E
  | .cells vs => .cells (vs.map (V.mp0 f))
  | e => e
def V.reT (ids : List Nat) : V → V
  | .tup vs => .tup (vs.map (V.re ids))
  | v => v.re ids
/-- What is new moves up. -/
def upN (a b p : Nat) : Nat := bif Nat.blt p a then p else b + (p - a)
theorem upN_lt {a b p : Nat} (h : p < a) : upN a b p = p := by
  have hb : Nat.blt p a = true := by simpa [Nat.blt_eq] using h
  simp [upN, hb]
theorem upN_ge {a b p : Nat} (h : a ≤ p) : upN a b p = b + (p - a) := by
  have hb : Nat.blt p a = false := by
    cases hx : Nat.blt p a with
    | false => rfl
    | true => rw [Nat.blt_eq] at hx; omega
  simp [upN, hb]

theorem re_mp0 {ids : List Nat} {f g : Nat → Nat} {v : V} (h : ∀ id ∈ v.ids0, reName ids (f id) = some (g id)) : (v.mp0 f).re0 ids = v.mp0 g := by
  cases v <;> first | rfl | (simp [V.ids0] at h; simp [V.mp0, V.re0, h])
theorem re_mp1 {ids : List Nat} {f g : Nat → Nat} {v : V} (h : ∀ id ∈ v.ids, reName ids (f id) = some (g id)) : (v.mp1 f).re ids = v.mp1 g := by
  cases v with
  | agg vs =>
    simp only [V.mp1, V.re, List.map_map]
    congr 1
    refine List.map_congr_left (fun v hv => ?_)
    exact re_mp0 (fun id hid => h id (by simp only [V.ids, List.mem_flatMap]; exact ⟨v, hv, hid⟩))
  | tup vs => rfl
  | own id => exact re_mp0 (v := .own id) h
  | sub id o n => exact re_mp0 (v := .sub id o n) h
  | ptr id o => exact re_mp0 (v := .ptr id o) h
  | elt id o n i => exact re_mp0 (v := .elt id o n i) h
  | _ => rfl
theorem re_mp {ids : List Nat} {f g : Nat → Nat} {v : V} (h : ∀ id ∈ v.all, reName ids (f id) = some (g id)) : (v.mpT f).reT ids = v.mpT g := by
  cases v with
  | tup vs =>
    simp only [V.mpT, V.reT, List.map_map]
    congr 1
    refine List.map_congr_left (fun v hv => ?_)
    exact re_mp1 (fun id hid => h id (by simp only [V.all, List.mem_flatMap]; exact ⟨v, hv, hid⟩))
  | agg vs => exact re_mp1 (v := .agg vs) h
  | own id => exact re_mp1 (v := .own id) h
  | sub id o n => exact re_mp1 (v := .sub id o n) h
  | ptr id o => exact re_mp1 (v := .ptr id o) h
  | elt id o n i => exact re_mp1 (v := .elt id o n i) h
  | _ => rfl
theorem re_mpE {ids : List Nat} {f g : Nat → Nat} {e : E} (h : ∀ id ∈ e.ids, reName ids (f id) = some (g id)) : (e.mp f).re ids = e.mp g := by
  cases e with
  | cells vs =>
    simp only [E.mp, E.re, List.map_map]
    congr 1
    refine List.map_congr_left (fun v hv => ?_)
    exact re_mp0 (fun id hid => h id (by simp only [E.ids, List.mem_flatMap]; exact ⟨v, hv, hid⟩))
  | _ => rfl

/-- Values that are there have their plain form. -/
theorem vr0_nf {c : Cx} {u : V} {x : Value} (h : VR0 c u x) : u.mp0 (fun p => p) = u := by
  cases u <;> first | rfl | exact h.elim
theorem vr1_nf {c : Cx} {u : V} {x : Value} (h : VR1 c u x) : u.mp1 (fun p => p) = u := by
  cases u with
  | agg vs =>
    obtain ⟨cs, rfl, hs, ha⟩ := h
    simp only [V.mp1]
    congr 1
    refine (List.map_congr_left (fun v hv => ?_)).trans (List.map_id _)
    obtain ⟨j, hj, rfl⟩ := List.getElem_of_mem hv
    have := vr0_nf (ha j hj)
    rw [show vs.getD j .junk = vs[j] by simp [List.getD, hj]] at this
    exact this
  | tup vs => exact h.elim
  | _ => rfl
theorem vr_nf {c : Cx} {u : V} {x : Value} (h : VR c u x) : u.mpT (fun p => p) = u := by
  cases u with
  | tup vs =>
    obtain ⟨cs, rfl, hs, ha⟩ := h
    simp only [V.mpT]
    congr 1
    refine (List.map_congr_left (fun v hv => ?_)).trans (List.map_id _)
    obtain ⟨j, hj, rfl⟩ := List.getElem_of_mem hv
    have := vr1_nf (ha j hj)
    rw [show vs.getD j .junk = vs[j] by simp [List.getD, hj]] at this
    exact this
  | agg vs => exact vr1_nf (u := .agg vs) h
  | _ => rfl
theorem ent_nf {c : Cx} {i : Nat} {e : E} (h : Ent c i e) : e.mp (fun p => p) = e := by
  cases e with
  | cells vs =>
    obtain ⟨b, e, cs, hv, hg, hs, ha⟩ := h
    simp only [E.mp]
    congr 1
    refine (List.map_congr_left (fun v hv => ?_)).trans (List.map_id _)
    obtain ⟨j, hj, rfl⟩ := List.getElem_of_mem hv
    obtain ⟨x, _, hx⟩ := ha j hj
    have := vr0_nf hx
    rw [show vs.getD j .junk = vs[j] by simp [List.getD, hj]] at this
    exact this
  | _ => rfl
theorem re_fix {c : Cx} {u : V} {x : Value} {ids : List Nat} (h : VR c u x) (hi : ∀ id ∈ u.all, reName ids id = some id) : u.reT ids = u := by
  have := re_mp (v := u) (f := fun p => p) (g := fun p => p) hi
  rw [vr_nf h] at this; exact this
theorem re_fixE {c : Cx} {i : Nat} {e : E} {ids : List Nat} (h : Ent c i e) (hi : ∀ id ∈ e.ids, reName ids id = some id) : e.re ids = e := by
  have := re_mpE (e := e) (f := fun p => p) (g := fun p => p) hi
  rw [ent_nf h] at this; exact this

theorem pick_vrT {c : Cx} {ids : List Nat} {u : V} {v : Value} (h : VR c u v) : VR (c.pick ids) (u.reT ids) v := by
  cases u with
  | tup vs =>
    obtain ⟨cs, rfl, hs, ha⟩ := h
    refine ⟨cs, rfl, by simpa using hs, fun j hj => ?_⟩
    have hj' : j < vs.length := by simpa using hj
    have e : (vs.map (V.re ids)).getD j .junk = (vs.getD j .junk).re ids := by simp [List.getD, hj']
    rw [e]; exact pick_vr1 (ha j hj')
  | own id => exact pick_vr (u := .own id) h
  | sub id o n => exact pick_vr (u := .sub id o n) h
  | ptr id o => exact pick_vr (u := .ptr id o) h
  | elt id o n i => exact pick_vr (u := .elt id o n i) h
  | ro s l => exact pick_vr (u := .ro s l) h
  | ref a => exact pick_vr (u := .ref a) h
  | recs s n xs => exact pick_vr (u := .recs s n xs) h
  | rref n xs o => exact pick_vr (u := .rref n xs o) h
  | agg vs => exact pick_vr (u := .agg vs) h
  | _ => exact h

theorem all_lt {c : Cx} {u : V} {x : Value} (h : VR c u x) : ∀ i ∈ u.all, i < c.h.length := by
  intro i hi
  cases u with
  | tup vs =>
    obtain ⟨cs, rfl, hs, ha⟩ := h
    simp only [V.all, List.mem_flatMap] at hi
    obtain ⟨v, hv, hvi⟩ := hi
    obtain ⟨j, hj, rfl⟩ := List.getElem_of_mem hv
    have := ha j hj
    rw [show vs.getD j .junk = vs[j] by simp [List.getD, hj]] at this
    exact ids_lt this.vr i hvi
  | _ => exact ids_lt h i hi
theorem entIds_lt {c : Cx} {i : Nat} {e : E} (h : Ent c i e) : ∀ q ∈ e.ids, q < c.h.length := by
  intro q hq
  cases e with
  | cells vs =>
    obtain ⟨b, e, cs, hv, hg, hs, ha⟩ := h
    simp only [E.ids, List.mem_flatMap] at hq
    obtain ⟨v, hv, hvi⟩ := hq
    obtain ⟨j, hj, rfl⟩ := List.getElem_of_mem hv
    obtain ⟨x, _, hx⟩ := ha j hj
    rw [show vs.getD j .junk = vs[j] by simp [List.getD, hj]] at hx
    exact ids0_lt hx q hvi
  | _ => cases hq

theorem reName_at {ids : List Nat} (hn : ids.Nodup) {i j : Nat} (hj : j < ids.length) (he : ids.getD j 0 = i) : reName ids i = some j := by
  unfold reName
  rw [List.idxOf?_eq_some_iff]
  have e : ids[j] = i := by simpa [List.getD, hj] using he
  refine ⟨hj, by simpa using e, fun k hk => ?_⟩
  have hp := List.pairwise_iff_getElem.1 hn k j (by omega) hj hk
  rw [e] at hp
  simpa using hp

/-- New blocks are moved to where they belong. -/
def mvL (a M m : Nat) : List Nat := (List.range M).map fun p => bif Nat.ble a p && Nat.blt p (a + m) then M + (p - a) else p
theorem mvL_len (a M m : Nat) : (mvL a M m).length = M := by simp [mvL]
theorem mvL_in {a M m p : Nat} (hp : p < M) (h1 : a ≤ p) (h2 : p < a + m) : (mvL a M m).getD p 0 = M + (p - a) := by
  have b1 : Nat.ble a p = true := by simpa [Nat.ble_eq] using h1
  have b2 : Nat.blt p (a + m) = true := by simpa [Nat.blt_eq] using h2
  simp [mvL, List.getD, hp, b1, b2]
theorem mvL_out {a M m p : Nat} (hp : p < M) (h : ¬ (a ≤ p ∧ p < a + m)) : (mvL a M m).getD p 0 = p := by
  have : (Nat.ble a p && Nat.blt p (a + m)) = false := by
    cases hx : (Nat.ble a p && Nat.blt p (a + m)) with
    | false => rfl
    | true =>
      rw [Bool.and_eq_true, Nat.ble_eq, Nat.blt_eq] at hx
      exact absurd hx h
  simp [mvL, List.getD, hp, this]
theorem mvL_nodup {a M m : Nat} (h : a + m ≤ M) : (mvL a M m).Nodup := by
  unfold mvL
  rw [List.Nodup, List.pairwise_map]
  refine List.Pairwise.imp_of_mem ?_ (List.pairwise_lt_range (n := M))
  intro p q hp hq hpq
  have hp' := List.mem_range.1 hp
  have hq' := List.mem_range.1 hq
  have k : ∀ r, r < M → (bif Nat.ble a r && Nat.blt r (a + m) then M + (r - a) else r) = if a ≤ r ∧ r < a + m then M + (r - a) else r := by
    intro r hr
    by_cases hh : a ≤ r ∧ r < a + m
    · rw [if_pos hh]
      have b1 : Nat.ble a r = true := by simpa [Nat.ble_eq] using hh.1
      have b2 : Nat.blt r (a + m) = true := by simpa [Nat.blt_eq] using hh.2
      simp [b1, b2]
    · rw [if_neg hh]
      have : (Nat.ble a r && Nat.blt r (a + m)) = false := by
        cases hx : (Nat.ble a r && Nat.blt r (a + m)) with
        | false => rfl
        | true =>
          rw [Bool.and_eq_true, Nat.ble_eq, Nat.blt_eq] at hx
          exact absurd hx hh
      simp [this]
  rw [k p hp', k q hq']
  split <;> split <;> omega
theorem mvL_lt {a M m : Nat} (h : a + m ≤ M) : ∀ i ∈ mvL a M m, i < M + m := by
  intro i hi
  unfold mvL at hi
  rw [List.mem_map] at hi
  obtain ⟨p, hp, rfl⟩ := hi
  have hp' := List.mem_range.1 hp
  cases hx : (Nat.ble a p && Nat.blt p (a + m)) with
  | false => simp only [cond_false]; omega
  | true =>
    rw [Bool.and_eq_true, Nat.ble_eq, Nat.blt_eq] at hx
    simp only [cond_true]; omega
theorem mvL_old {a M m p : Nat} (h : a + m ≤ M) (hp : p < M) (hn : ¬ (a ≤ p ∧ p < a + m)) : reName (mvL a M m) p = some p :=
  reName_at (mvL_nodup h) (by rw [mvL_len]; exact hp) (mvL_out hp hn)
theorem mvL_new {a M m p : Nat} (h : a + m ≤ M) (h1 : a ≤ p) (h2 : p < a + m) : reName (mvL a M m) (M + (p - a)) = some p :=
  reName_at (mvL_nodup h) (by rw [mvL_len]; omega) (mvL_in (by omega) h1 h2)

theorem ext_pick {c0 c : Cx} (hE : Ext c0 c) {ids : List Nat} (hn : c0.h.length ≤ ids.length) (hi : ∀ i, i < c0.h.length → ids.getD i 0 = i) : Ext c0 (c.pick ids) where
  F := hE.F
  os := hE.os
  tape := hE.tape
  output := hE.output
  size := hE.size
  block := hE.block
  own := fun b hb => hE.own b (pick_U hb)
  len := by simpa [Cx.pick] using hn
  ids := fun i hi2 => by
    obtain ⟨h1, h2⟩ := hE.ids i hi2
    refine ⟨by simp only [Cx.pick, hi i hi2]; exact h1, ?_⟩
    rw [pick_get c ids (by omega), hi i hi2]
    exact sameE_trans h2 (E.re_same _ _)

/-- Places for blocks that are to come. -/
def Cx.pad (c : Cx) (M : Nat) : Cx := ⟨c.F, c.h ++ List.replicate (M - c.h.length) .dead, fun i => bif Nat.blt i c.h.length then c.hv i else .pointer none, c.w⟩
theorem pad_lt {c : Cx} {M i : Nat} (hi : i < c.h.length) : getE (c.pad M).h i = getE c.h i ∧ (c.pad M).hv i = c.hv i := by
  have hb : Nat.blt i c.h.length = true := by simpa [Nat.blt_eq] using hi
  exact ⟨getE_append_lt hi, by simp [Cx.pad, hb]⟩
theorem pad_ge {c : Cx} {M i : Nat} (hi : c.h.length ≤ i) : getE (c.pad M).h i = .dead := by
  simp only [Cx.pad, getE, List.getD]
  rw [List.getElem?_append_right hi]
  rw [List.getElem?_replicate]
  split <;> rfl
theorem pad_len {c : Cx} {M : Nat} (h : c.h.length ≤ M) : (c.pad M).h.length = M := by simp [Cx.pad]; omega
theorem pad_U {c : Cx} {M b : Nat} (h : (c.pad M).U b) : c.U b := by
  obtain ⟨i, ha, hb⟩ := h
  rcases Nat.lt_or_ge i c.h.length with hi | hi
  · rw [(pad_lt hi).1] at ha; rw [(pad_lt hi).2] at hb; exact ⟨i, ha, hb⟩
  · rw [pad_ge hi] at ha; cases ha
theorem ext_pad (c : Cx) (M : Nat) : Ext c (c.pad M) where
  F := rfl
  os := rfl
  tape := rfl
  output := rfl
  size := Nat.le_refl _
  block := fun _ _ _ => rfl
  own := fun b hb => .inl (pad_U hb)
  len := by simp [Cx.pad]
  ids := fun i hi => ⟨(pad_lt hi).2, by rw [(pad_lt hi).1]; exact sameE_refl _⟩
theorem rel_pad {c : Cx} (hr : Rel c) (M : Nat) : Rel (c.pad M) := by
  refine ⟨fun i hi => ?_, fun i hi => ?_, fun i j b hi hj hbi hbj => ?_, fun b hb => hr.lt b (pad_U hb), fun b hb => ⟨(hr.far b hb).1, fun hu => (hr.far b hb).2 (pad_U hu)⟩⟩
  · rcases Nat.lt_or_ge i c.h.length with h | h
    · rw [(pad_lt h).2]; exact hr.one i h
    · have hb : Nat.blt i c.h.length = false := by
        cases hx : Nat.blt i c.h.length with
        | false => rfl
        | true => rw [Nat.blt_eq] at hx; omega
      exact .inr ⟨none, by simp [Cx.pad, hb]⟩
  · rcases Nat.lt_or_ge i c.h.length with h | h
    · rw [(pad_lt h).1]; exact (hr.ent i h).keep (ext_pad c M) h (fun _ _ => rfl)
    · rw [pad_ge h]; trivial
  · rcases Nat.lt_or_ge i c.h.length with h1 | h1
    · rcases Nat.lt_or_ge j c.h.length with h2 | h2
      · rw [(pad_lt h1).1] at hi; rw [(pad_lt h2).1] at hj; rw [(pad_lt h1).2] at hbi; rw [(pad_lt h2).2] at hbj
        exact hr.inj i j b hi hj hbi hbj
      · rw [pad_ge h2] at hj; cases hj
    · rw [pad_ge h1] at hi; cases hi

/-! Operations by what they look at. -/
section
variable {P : Program} {TD : TypeId → Option TI} {K : FuncId → List V → List E → (V → List E → R) → R}

/-- What is done on any blocks that agree on what is looked at. -/
structure LocG (run : List E → (V → List E → R) → R) (h : List E) (v : V) (h' : List E) (wr rd : List Nat) : Prop where
  vnf : v.mpT (fun p => p) = v
  vids : ∀ id ∈ v.all, id ∈ wr ∨ h.length ≤ id
  len : h.length ≤ h'.length
  wlt : ∀ p ∈ wr, p < h.length
  wrd : ∀ p ∈ wr, p ∈ rd
  new : ∀ p, h.length ≤ p → ∀ id ∈ (getE h' p).ids, id ∈ wr ∨ h.length ≤ id
  enf : ∀ p, h.length ≤ p → (getE h' p).mp (fun p => p) = getE h' p
  old : ∀ p, p < h.length → p ∉ wr → getE h' p = getE h p
  run : ∀ h2, h.length ≤ h2.length → (∀ id ∈ rd, (getE h id).alive = true → getE h2 id = getE h id) →
    ∃ h2', (∀ κ2, run h2 κ2 = κ2 (v.mpT (upN h.length h2.length)) h2') ∧ h2'.length = h2.length + (h'.length - h.length) ∧
      (∀ p, p < h.length → (getE h' p = getE h p ∧ getE h2' p = getE h2 p) ∨
        (p ∈ wr ∧ (∀ id ∈ (getE h' p).ids, id ∈ wr ∨ h.length ≤ id) ∧ (getE h' p).mp (fun p => p) = getE h' p ∧ getE h2' p = (getE h' p).mp (upN h.length h2.length))) ∧
      (∀ p, h.length ≤ p → p < h2.length → getE h2' p = getE h2 p) ∧
      (∀ t, getE h2' (h2.length + t) = (getE h' (h.length + t)).mp (upN h.length h2.length))

theorem LocG.none_ {run : List E → (V → List E → R) → R} {h : List E} {v : V} (hv : v.all = []) (hn : v.mpT (fun p => p) = v) (hm : ∀ f, v.mpT f = v) {rd : List Nat}
    (hrun : ∀ h2, h.length ≤ h2.length → (∀ id ∈ rd, (getE h id).alive = true → getE h2 id = getE h id) → ∀ κ2, run h2 κ2 = κ2 v h2) : LocG run h v h [] rd where
  vnf := hn
  vids := fun id hid => by rw [hv] at hid; cases hid
  len := Nat.le_refl _
  wlt := fun p hp => by cases hp
  wrd := fun p hp => by cases hp
  new := fun p hp id hid => by rw [getE_out hp] at hid; cases hid
  enf := fun p hp => by rw [getE_out hp]; rfl
  old := fun p hp _ => rfl
  run := fun h2 hl hag => ⟨h2, fun κ2 => by rw [hm]; exact hrun h2 hl hag κ2, by omega, fun p hp => .inl ⟨rfl, rfl⟩, fun p _ _ => rfl, fun t => by rw [getE_out (by omega), getE_out (by omega)]; rfl⟩

/-- A block that holds no others. -/
def E.plain (e : E) : Prop := e.ids = [] ∧ ∀ f, e.mp f = e
theorem plain_row (l : L) : E.plain (.row l) := ⟨rfl, fun _ => rfl⟩
theorem plain_recs (n : Nat) (xs : List Int) : E.plain (.recs n xs) := ⟨rfl, fun _ => rfl⟩

theorem getE_new {h : List E} {e : E} {t : Nat} : getE (h ++ [e]) (h.length + t) = if t = 0 then e else .dead := by
  cases t with
  | zero => rw [if_pos rfl, Nat.add_zero, getE_append_new]
  | succ t => rw [if_neg (by omega), getE_append_out (by omega)]

/-- One new block. -/
theorem LocG.oneV {run : List E → (V → List E → R) → R} {h : List E} {e : E} (he : e.plain) {vf : Nat → V} (v1 : ∀ a b, (vf a).mpT (upN a b) = vf b) (v2 : ∀ a, (vf a).mpT (fun p => p) = vf a) (v3 : ∀ a, ∀ id ∈ (vf a).all, id = a) {rd : List Nat}
    (hrun : ∀ h2, h.length ≤ h2.length → (∀ id ∈ rd, (getE h id).alive = true → getE h2 id = getE h id) → ∀ κ2, run h2 κ2 = κ2 (vf h2.length) (h2 ++ [e])) : LocG run h (vf h.length) (h ++ [e]) [] rd where
  vnf := v2 _
  vids := fun id hid => by have := v3 _ id hid; exact .inr (by omega)
  len := by simp
  wlt := fun p hp => by cases hp
  wrd := fun p hp => by cases hp
  new := fun p hp id hid => by
    obtain ⟨t, rfl⟩ := Nat.le.dest hp
    rw [getE_new] at hid
    split at hid
    · rw [he.1] at hid; cases hid
    · cases hid
  enf := fun p hp => by
    obtain ⟨t, rfl⟩ := Nat.le.dest hp
    rw [getE_new]
    split
    · exact he.2 _
    · rfl
  old := fun p hp _ => getE_append_lt hp
  run := fun h2 hl hag => ⟨h2 ++ [e], fun κ2 => by
      rw [v1]
      exact hrun h2 hl hag κ2, by simp, fun p hp => .inl ⟨getE_append_lt hp, getE_append_lt (by omega)⟩, fun p _ hp => getE_append_lt hp, fun t => by
      rw [getE_new, getE_new]
      split
      · exact (he.2 _).symm
      · rfl⟩
theorem LocG.one {run : List E → (V → List E → R) → R} {h : List E} {e : E} (he : e.plain) {rd : List Nat}
    (hrun : ∀ h2, h.length ≤ h2.length → (∀ id ∈ rd, (getE h id).alive = true → getE h2 id = getE h id) → ∀ κ2, run h2 κ2 = κ2 (.own h2.length) (h2 ++ [e])) : LocG run h (.own h.length) (h ++ [e]) [] rd :=
  LocG.oneV (vf := V.own) he (fun a b => by simp [V.mpT, V.mp1, V.mp0, upN_ge (Nat.le_refl _)]) (fun a => rfl) (fun a id hid => by simpa [V.all, V.ids, V.ids0] using hid) hrun
/-- A block in place of another. -/
theorem LocG.inst {run : List E → (V → List E → R) → R} {h : List E} {e : E} (he : e.plain) {id : Nat} (hid : id < h.length) {rd : List Nat} (hrd : id ∈ rd)
    (hrun : ∀ h2, h.length ≤ h2.length → (∀ id ∈ rd, (getE h id).alive = true → getE h2 id = getE h id) → ∀ κ2, run h2 κ2 = κ2 (.own h2.length) (h2.set id .dead ++ [e])) : LocG run h (.own h.length) (h.set id .dead ++ [e]) [id] rd := by
  have g : ∀ h : List E, id < h.length → ∀ p, p < h.length → getE (h.set id .dead ++ [e]) p = if id = p then .dead else getE h p := fun h hi p hp => by
    rw [getE_append_lt (by simpa using hp), getE_set hi]
  have gn : ∀ (h : List E) t, getE (h.set id .dead ++ [e]) (h.length + t) = if t = 0 then e else .dead := fun h t => by
    have := getE_new (h := h.set id .dead) (e := e) (t := t)
    rw [List.length_set] at this
    exact this
  exact {
    vnf := rfl
    vids := fun id hid => by simp [V.all, V.ids, V.ids0] at hid; exact .inr (by omega)
    len := by simp
    wlt := fun p hp => by have : p = id := by simpa using hp
                          omega
    wrd := fun p hp => by have : p = id := by simpa using hp
                          rw [this]; exact hrd
    new := fun p hp id' hid => by
      obtain ⟨t, rfl⟩ := Nat.le.dest hp
      rw [gn] at hid
      split at hid
      · rw [he.1] at hid; cases hid
      · cases hid
    enf := fun p hp => by
      obtain ⟨t, rfl⟩ := Nat.le.dest hp
      rw [gn]
      split
      · exact he.2 _
      · rfl
    old := fun p hp hn => by
      rw [g h hid p hp, if_neg (fun e => hn (by simp [e]))]
    run := fun h2 hl hag => by
      refine ⟨h2.set id .dead ++ [e], fun κ2 => ?_, by simp, fun p hp => ?_, fun p h1 hp => ?_, fun t => ?_⟩
      · rw [show (V.own h.length).mpT (upN h.length h2.length) = .own h2.length by simp [V.mpT, V.mp1, V.mp0, upN_ge (Nat.le_refl _)]]
        exact hrun h2 hl hag κ2
      · rw [g h hid p hp, g h2 (by omega) p (by omega)]
        by_cases hp2 : id = p
        · right
          rw [if_pos hp2, if_pos hp2]
          exact ⟨by simp [hp2], (fun q hq => (by cases hq)), rfl, rfl⟩
        · left
          rw [if_neg hp2, if_neg hp2]
          exact ⟨rfl, rfl⟩
      · rw [g h2 (by omega) p hp, if_neg (by omega)]
      · rw [gn, gn]
        split
        · exact (he.2 _).symm
        · rfl }

/-- Operations that add a block and look at none. -/
def floatOp (TD : TypeId → Option TI) : Op → Bool
  | .assign (.const (.slice none 0 0)) => true
  | .buildSlice t _ _ => match TD t with
    | some ⟨.slice e, _, _, _⟩ => match TD e with
      | some ⟨.slice _, _, _, _⟩ => false
      | _ => true
    | _ => true
  | .makeSlice .. => true
  | .alloc _ => true
  | _ => false
theorem ofConst_mp (v : Value) (f : Nat → Nat) : (ofConst v).mp0 f = ofConst v ∧ (ofConst v).ids0 = [] := by
  unfold ofConst
  split <;> first | exact ⟨rfl, rfl⟩ | (split <;> exact ⟨rfl, rfl⟩)
theorem plain_consts (cs : List Value) : E.plain (.cells (cs.map ofConst)) := by
  refine ⟨?_, fun f => ?_⟩
  · simp only [E.ids]
    rw [List.flatMap_eq_nil_iff]
    intro v hv
    rw [List.mem_map] at hv
    obtain ⟨u, _, rfl⟩ := hv
    exact (ofConst_mp u id).2
  · simp only [E.mp, List.map_map]
    congr 1
    exact List.map_congr_left (fun u _ => (ofConst_mp u f).1)

theorem float_loc {o : Oper} (hk : floatOp TD o.op = true) {σ : St} {v : V} {h' : List E} (hs : ∀ κ2, opC TD K o σ κ2 = κ2 v h') : LocG (fun h2 κ2 => opC TD K o { σ with h := h2 } κ2) σ.h v h' [] [] := by
  by_cases hal : ∃ t, o.op = .alloc t
  · have e := hs (fun v h => some (v, h))
    clear hs
    obtain ⟨dst, op, ty, pos, after, guard⟩ := o
    obtain ⟨t, rfl⟩ := hal
    simp only [opC, opR, opC0] at e ⊢
    cases h1 : TD t with
    | none => rw [h1] at e; cases e
    | some i =>
      obtain ⟨d, s, b, z⟩ := i
      rw [h1] at e
      simp only at e ⊢
      have fin : ∀ (cs : List Value), v = .ptr σ.h.length 0 → h' = σ.h ++ [.cells (cs.map ofConst)] → (∀ (h2 : List E) (κ2 : V → List E → R), (match ofZero z with
          | .agg vs => bif vs.all V.flat then κ2 (.ptr h2.length 0) (h2 ++ [.cells vs]) else none
          | .tup _ | .junk => none
          | v => κ2 (.ptr h2.length 0) (h2 ++ [.cells [v]])) = κ2 (.ptr h2.length 0) (h2 ++ [.cells (cs.map ofConst)])) →
          LocG (fun h2 κ2 => match ofZero z with
          | .agg vs => bif vs.all V.flat then κ2 (.ptr h2.length 0) (h2 ++ [.cells vs]) else none
          | .tup _ | .junk => none
          | v => κ2 (.ptr h2.length 0) (h2 ++ [.cells [v]])) σ.h v h' [] [] := by
        intro cs e1 e2 hr
        subst e1; subst e2
        exact LocG.oneV (vf := fun a => .ptr a 0) (plain_consts cs) (fun a b => by simp [V.mpT, V.mp1, V.mp0, upN_ge (Nat.le_refl _)]) (fun a => rfl) (fun a id hid => by simpa [V.all, V.ids, V.ids0] using hid) (fun h2 _ _ κ2 => hr h2 κ2)
      cases hz : ofZero z with
      | agg vs =>
        rw [hz] at e fin
        obtain ⟨cs, rfl, rfl⟩ := ofZero_agg hz
        obtain ⟨c1, e⟩ := bif_some e
        injection e with e; injection e with e1 e2
        exact fin cs.toList e1.symm e2.symm (fun h2 κ2 => by simp only [c1, cond_true])
      | tup vs => rw [hz] at e; cases e
      | junk => rw [hz] at e; cases e
      | _ =>
        have hz2 : ofZero z = ofConst z := by
          cases z <;> first | rfl | (simp [ofZero] at hz)
        rw [hz] at e fin
        injection e with e; injection e with e1 e2
        refine fin [z] e1.symm (by rw [← e2]; simp only [List.map_cons, List.map_nil, ← hz2, hz]) (fun h2 κ2 => by simp only [List.map_cons, List.map_nil, ← hz2, hz])
  have key : ∃ e : E, e.plain ∧ v = .own σ.h.length ∧ h' = σ.h ++ [e] ∧ ∀ h2 κ2, opC TD K o { σ with h := h2 } κ2 = κ2 (.own h2.length) (h2 ++ [e]) := by
    have e := hs (fun v h => some (v, h))
    clear hs
    obtain ⟨dst, op, ty, pos, after, guard⟩ := o
    cases op <;> first | (simp [floatOp] at hk; done) | (exact absurd ⟨_, rfl⟩ hal) | skip
    case assign x =>
      obtain ⟨rfl⟩ : x = .const (.slice none 0 0) := by
        simp only [floatOp] at hk
        split at hk
        · rename_i heq; injection heq
        all_goals first | (cases hk; done) | (rename_i heq; cases heq; done) | skip
      cases hst : strideOf TD ty with
      | some n =>
        simp only [opC, opR, opRA, hst] at e ⊢
        injection e with e; injection e with e1 e2
        exact ⟨.recs n [], plain_recs _ _, e1.symm, e2.symm, fun _ _ => rfl⟩
      | none =>
        simp only [opC, opR, opRA, hst, opC0] at e ⊢
        cases h1 : TD ty with
        | none => rw [h1] at e; cases e
        | some i =>
          obtain ⟨d, s, b, z⟩ := i
          rw [h1] at e
          cases d <;> first | (cases e; done) | skip
          rename_i el
          simp only at e ⊢
          cases h2 : TD el with
          | none => rw [h2] at e; cases e
          | some j =>
            rw [h2] at e
            simp only at e ⊢
            cases h3 : emptyRow j.desc with
            | none => rw [h3] at e; cases e
            | some l =>
              rw [h3] at e
              simp only at e ⊢
              injection e with e; injection e with e1 e2
              exact ⟨.row l, plain_row _, e1.symm, e2.symm, fun _ _ => rfl⟩
    case buildSlice t n parts =>
      cases hst : strideOf TD t with
      | some m =>
        have dead0 : ∀ (σ : St) (κ : V → List E → R), opC0 TD K ⟨dst, .buildSlice t n parts, ty, pos, after, guard⟩ σ κ = none := by
          intro σ κ
          unfold strideOf at hst
          split at hst
          · rename_i el s b z h1
            split at hst
            · rename_i fs k b2 z2 h2
              have hk2 : k = m := by
                cases hb : Nat.ble 2 k with
                | true => rw [hb, cond_true] at hst; injection hst
                | false => rw [hb] at hst; cases hst
              have h3 : 2 ≤ k := by
                cases hb : Nat.ble 2 k with
                | true => rwa [Nat.ble_eq] at hb
                | false => rw [hb] at hst; cases hst
              simp only [opC0, h1, h2]
              split
              · rename_i heq
                injection heq with heq; injection heq with _ h4
                omega
              · rfl
            · cases hst
          · cases hst
        simp only [opC, opR, hst, ev_heap] at e ⊢
        generalize parts.toList = ps at e ⊢
        rcases n with _ | _ | n
        · rcases ps with _ | ⟨p, ps⟩
          · simp only at e ⊢
            injection e with e; injection e with e1 e2
            exact ⟨.recs m [], plain_recs _ _, e1.symm, e2.symm, fun _ _ => rfl⟩
          · simp only [dead0] at e; cases e
        · rcases ps with _ | ⟨⟨_ | i, x⟩, _ | ⟨q, ps⟩⟩ <;> simp only [dead0] at e ⊢ <;> first | (cases e; done) | skip
          cases hv : σ.ev x <;> simp only [hv, dead0] at e ⊢ <;> first | (cases e; done) | skip
          rename_i ws
          cases hi : ints64 ws with
          | none => rw [hi] at e; simp only [dead0] at e; cases e
          | some ys =>
            rw [hi] at e
            simp only at e ⊢
            cases hc : Nat.beq ys.length m && decide (m ≤ 1000) with
            | false => rw [hc] at e; cases e
            | true =>
              rw [hc, cond_true] at e
              injection e with e; injection e with e1 e2
              exact ⟨.recs m ys, plain_recs _ _, e1.symm, e2.symm, fun _ _ => by rw [cond_true]⟩
        · simp only [dead0] at e; cases e
      | none =>
        simp only [opC, opR, hst, opC0, ev_heap] at e ⊢
        cases h1 : TD t with
        | none => rw [h1] at e; cases e
        | some i =>
          obtain ⟨d, s, b, z⟩ := i
          rw [h1] at e
          cases d <;> first | (cases e; done) | skip
          rename_i el
          simp only at e ⊢
          cases h2 : TD el with
          | none => rw [h2] at e; cases e
          | some j =>
            obtain ⟨d2, s2, b2, z2⟩ := j
            rw [h2] at e
            rcases s2 with _ | _ | s2 <;> simp only at e ⊢ <;> first | (cases e; done) | skip
            obtain ⟨c1, e⟩ := bif_some e
            simp only [Nat.zero_add] at *
            simp only [c1, cond_true]
            cases h3 : rowOf d2 (parts.toList.map fun p => σ.ev p.2) with
            | some l =>
              rw [h3] at e
              simp only at e ⊢
              injection e with e; injection e with e1 e2
              exact ⟨.row l, plain_row _, e1.symm, e2.symm, fun _ _ => rfl⟩
            | none =>
              exfalso
              rw [h3] at e
              simp only [floatOp, h1, h2] at hk
              cases d2 <;> first | (cases hk; done) | (simp only at e; cases e; done)
    case makeSlice t l cp =>
      cases hz : zeroRecs TD t with
      | some nb =>
        obtain ⟨n, b⟩ := nb
        have dead0 : ∀ (σ : St) (κ : V → List E → R), opC0 TD K ⟨dst, .makeSlice t l cp, ty, pos, after, guard⟩ σ κ = none := by
          intro σ κ
          unfold zeroRecs at hz
          split at hz
          · rename_i el s b z h1
            split at hz
            · rename_i fs k b2 cs h2
              split at hz
              · rename_i zs h4
                cases hb : Nat.ble 2 k with
                | false => rw [hb] at hz; cases hz
                | true =>
                  rw [Nat.ble_eq] at hb
                  simp only [opC0, h1, h2]
                  split
                  · rename_i heq1 heq2
                    injection heq1 with heq1; injection heq1 with heq1
                    injection heq1 with heq1
                    subst heq1
                    rw [h2]
                    split
                    · rename_i heq
                      injection heq with heq; injection heq with _ h4
                      omega
                    · rfl
                  · rfl
              · cases hz
            · cases hz
          · cases hz
        simp only [opC, opR, hz, ev_heap] at e ⊢
        cases hv : σ.ev l <;> simp only [hv, dead0] at e ⊢ <;> first | (cases e; done) | skip
        rename_i kk k
        cases kk <;> simp only [dead0] at e ⊢ <;> first | (cases e; done) | skip
        obtain ⟨c1, e⟩ := bif_some e
        injection e with e; injection e with e1 e2
        exact ⟨_, plain_recs _ _, e1.symm, e2.symm, fun _ _ => by rw [c1, cond_true]⟩
      | none =>
        simp only [opC, opR, hz, opC0, ev_heap] at e ⊢
        cases h1 : TD t with
        | none => rw [h1] at e; cases e
        | some i =>
          obtain ⟨d, s, b, z⟩ := i
          rw [h1] at e
          cases d <;> first | (cases e; done) | skip
          rename_i el
          cases hv : σ.ev l <;> simp only [hv] at e ⊢ <;> first | (cases e; done) | skip
          rename_i kk k
          cases kk <;> simp only at e ⊢ <;> first | (cases e; done) | skip
          cases h2 : TD el with
          | none => rw [h2] at e; cases e
          | some j =>
            obtain ⟨d2, s2, b2, z2⟩ := j
            rw [h2] at e
            rcases s2 with _ | _ | s2 <;> simp only at e ⊢ <;> first | (cases e; done) | skip
            simp only [Nat.zero_add] at *
            obtain ⟨c1, e⟩ := bif_some e
            rw [c1]
            cases h3 : zeroRow d2 k.toNat with
            | none => rw [h3] at e; cases e
            | some l =>
              rw [h3] at e
              simp only at e ⊢
              injection e with e; injection e with e1 e2
              exact ⟨.row l, plain_row _, e1.symm, e2.symm, fun _ _ => by simp only [cond_true]⟩
  obtain ⟨e, he, rfl, rfl, hrun⟩ := key
  exact LocG.one he (fun h2 _ _ κ2 => hrun h2 κ2)

/-- append. -/
def appOp : Op → Bool
  | .call ⟨.builtin .append, _, _⟩ => true
  | _ => false
/-- A call of a known function. -/
def callOp : Op → Bool
  | .call ⟨.value (.func _), _, _⟩ => true
  | _ => false

theorem listOf_agree {h h2 : List E} {x : V} {m : L} (hm : listOf h x = some m) (hag : ∀ id ∈ x.ids, (getE h id).alive = true → getE h2 id = getE h id) : listOf h2 x = some m := by
  cases x <;> first | exact hm | (simp [listOf] at hm; done) | skip
  case own id =>
    simp only [listOf] at hm ⊢
    cases hg : getE h id with
    | row l => rw [hg] at hm; rw [hag id (by simp [V.ids, V.ids0]) (by rw [hg]; rfl), hg]; exact hm
    | _ => rw [hg] at hm; cases hm
  case sub id o n =>
    simp only [listOf] at hm ⊢
    cases hg : getE h id with
    | row l => rw [hg] at hm; rw [hag id (by simp [V.ids, V.ids0]) (by rw [hg]; rfl), hg]; exact hm
    | _ => rw [hg] at hm; cases hm

theorem appC_loc {s x : V} {h : List E} {v : V} {h' : List E} (e : appC s x h (fun v h => some (v, h)) = some (v, h')) : ∃ wr, LocG (fun h2 κ2 => appC s x h2 κ2) h v h' wr (s.ids ++ x.ids) := by
  have ax : ∀ {m : L}, listOf h x = some m → ∀ h2 : List E, (∀ id ∈ s.ids ++ x.ids, (getE h id).alive = true → getE h2 id = getE h id) → listOf h2 x = some m := fun hm h2 hag =>
    listOf_agree hm (fun id hid ha => hag id (by simp [hid]) ha)
  unfold appC at e
  split at e
  · rename_i id
    split at e
    · rename_i l m hl hm
      split at e
      · rename_i q hq
        obtain ⟨c1, e⟩ := bif_some e
        injection e with e; injection e with e1 e2; subst e1; subst e2
        have hal : (getE h id).alive = true := by rw [hl]; rfl
        refine ⟨[id], LocG.inst (plain_row _) (alive_lt hal) (by simp [V.ids, V.ids0]) (fun h2 _ hag κ2 => ?_)⟩
        simp only [appC]
        rw [hag id (by simp [V.ids, V.ids0]) hal, hl, ax hm h2 hag]
        simp only [hq, c1, cond_true]
      · cases e
    · cases e
  · split at e
    · rename_i m hm
      cases h0 : (m.len == 0) with
      | true =>
        rw [h0, cond_true] at e; injection e with e; injection e with e1 e2; subst e1; subst e2
        refine ⟨[], LocG.none_ rfl rfl (fun _ => rfl) (fun h2 _ hag κ2 => ?_)⟩
        simp only [appC]
        rw [ax hm h2 hag]
        simp only [h0, cond_true]
      | false =>
        rw [h0, cond_false] at e
        obtain ⟨c1, e⟩ := bif_some e
        injection e with e; injection e with e1 e2; subst e1; subst e2
        refine ⟨[], LocG.one (plain_row _) (fun h2 _ hag κ2 => ?_)⟩
        simp only [appC]
        rw [ax hm h2 hag]
        simp only [h0, c1, cond_true, cond_false]
    · cases e
  · rename_i id n
    split at e
    · rename_i l m hl hm
      split at e
      · rename_i q hq
        obtain ⟨c1, e⟩ := bif_some e
        injection e with e; injection e with e1 e2; subst e1; subst e2
        have hal : (getE h id).alive = true := by rw [hl]; rfl
        refine ⟨[id], LocG.inst (plain_row _) (alive_lt hal) (by simp [V.ids, V.ids0]) (fun h2 _ hag κ2 => ?_)⟩
        simp only [appC]
        rw [hag id (by simp [V.ids, V.ids0]) hal, hl, ax hm h2 hag]
        simp only [hq, c1, cond_true]
      · cases e
    · cases e
  · cases e

theorem LocG.rd {run : List E → (V → List E → R) → R} {h : List E} {v : V} {h' : List E} {wr rd rd' : List Nat} (hl : LocG run h v h' wr rd) (hs : ∀ i ∈ rd, i ∈ rd') : LocG run h v h' wr rd' :=
  { hl with
    wrd := fun p hp => hs p (hl.wrd p hp)
    run := fun h2 h3 h4 => hl.run h2 h3 (fun id hid ha => h4 id (hs id hid) ha) }
theorem LocG.of {run run' : List E → (V → List E → R) → R} {h : List E} {v : V} {h' : List E} {wr rd : List Nat} (hl : LocG run h v h' wr rd) (hr : ∀ h2 κ2 v2 h3, (∀ id ∈ rd, (getE h id).alive = true → getE h2 id = getE h id) → run h2 κ2 = κ2 v2 h3 → run' h2 κ2 = κ2 v2 h3) : LocG run' h v h' wr rd :=
  { hl with
    run := fun h2 h3 h4 => by
      obtain ⟨h2', e1, e2⟩ := hl.run h2 h3 h4
      exact ⟨h2', fun κ2 => hr h2 κ2 _ _ h4 (e1 κ2), e2⟩ }

theorem app_loc {o : Oper} (hk : appOp o.op = true) {σ : St} {v : V} {h' : List E} (hs : ∀ κ2, opC TD K o σ κ2 = κ2 v h') :
    ∃ wr, LocG (fun h2 κ2 => opC TD K o { σ with h := h2 } κ2) σ.h v h' wr (o.op.operands.toList.flatMap fun x => (σ.ev x).ids) := by
  have e := hs (fun v h => some (v, h))
  clear hs
  obtain ⟨dst, op, ty, pos, after, guard⟩ := o
  cases op <;> first | (simp [appOp] at hk; done) | skip
  case call c =>
    obtain ⟨callee, cargs, cats⟩ := c
    cases callee with
    | builtin b =>
      cases b <;> first | (simp [appOp] at hk; done) | skip
      have hops : (Op.call ⟨.builtin .append, cargs, cats⟩).operands.toList.flatMap (fun x => (σ.ev x).ids) = cargs.toList.flatMap fun x => (σ.ev x).ids := by
        simp [Op.operands, Call.operands]
      rw [hops]
      rcases hla : cargs.toList with _ | ⟨s, _ | ⟨x, _ | ⟨z, la⟩⟩⟩ <;> rcases hlt : cats.toList with _ | ⟨t, _ | ⟨u, _ | ⟨w, lt⟩⟩⟩ <;> first
        | (exfalso; simp only [opC, opR, opC0, hla, hlt] at e; cases e; done)
        | skip
      have hrd : ∀ i ∈ (σ.ev s).ids ++ (σ.ev x).ids, i ∈ [s, x].flatMap fun x => (σ.ev x).ids := fun i hi => by simpa using hi
      cases hz : zeroRecs TD t with
      | none =>
        have hn : ∀ h2 : List E, opR TD ⟨dst, .call ⟨.builtin .append, cargs, cats⟩, ty, pos, after, guard⟩ { σ with h := h2 } = none := fun h2 => by
          simp only [opR, hla, hlt, hz]
        have e0 : opC0 TD K ⟨dst, .call ⟨.builtin .append, cargs, cats⟩, ty, pos, after, guard⟩ σ (fun v h => some (v, h)) = some (v, h') := (opC_of0 (hn σ.h) _).symm.trans e
        simp only [opC0, hla, hlt] at e0
        obtain ⟨c1, e0⟩ := bif_some e0
        cases h1 : TD t with
        | none => rw [h1] at e0; cases e0
        | some i =>
          obtain ⟨d, sz, b, z⟩ := i
          rw [h1] at e0
          cases d <;> first | (cases e0; done) | skip
          rename_i el
          simp only at e0
          cases h2 : TD el with
          | none => rw [h2] at e0; cases e0
          | some j =>
            obtain ⟨d2, s2, b2, z2⟩ := j
            rw [h2] at e0
            rcases s2 with _ | _ | s2 <;> simp only at e0 <;> first | (cases e0; done) | skip
            simp only [Nat.zero_add] at *
            obtain ⟨c2, e0⟩ := bif_some e0
            obtain ⟨wr, hl⟩ := appC_loc e0
            refine ⟨wr, (hl.rd hrd).of (fun h2 κ2 v2 h3 _ hr => ?_)⟩
            rw [opC_of0 (hn h2)]
            simp only [opC0, hla, hlt, ev_heap, c1, cond_true, h1, *]
      | some nb =>
        obtain ⟨n, b⟩ := nb
        have dead0 : ∀ (σ : St) (κ : V → List E → R), opC0 TD K ⟨dst, .call ⟨.builtin .append, cargs, cats⟩, ty, pos, after, guard⟩ σ κ = none := by
          intro σ κ
          unfold zeroRecs at hz
          split at hz
          · rename_i el s1 b1 z1 h1
            split at hz
            · rename_i fs k b2 cs h2
              split at hz
              · rename_i zs h4
                cases hb : Nat.ble 2 k with
                | false => rw [hb] at hz; cases hz
                | true =>
                  rw [Nat.ble_eq] at hb
                  simp only [opC0, hla, hlt]
                  cases Nat.beq t u with
                  | false => rfl
                  | true =>
                    simp only [cond_true, h1, h2]
                    split
                    · rename_i heq
                      injection heq with heq; injection heq with _ h5
                      omega
                    · rfl
              · cases hz
            · cases hz
          · cases hz
        have nope : opR TD ⟨dst, .call ⟨.builtin .append, cargs, cats⟩, ty, pos, after, guard⟩ σ = none → False := fun hn => by
          rw [opC_of0 hn, dead0] at e; cases e
        cases hv : σ.ev s with
        | own id =>
          cases hg : getE σ.h id with
          | recs m xs =>
            have hal : (getE σ.h id).alive = true := by rw [hg]; rfl
            have hin : id ∈ [s, x].flatMap fun x => (σ.ev x).ids := by simp [hv, V.ids, V.ids0]
            cases hx : σ.ev x with
            | own id2 =>
              cases hg2 : getE σ.h id2 with
              | recs m2 ys =>
                have hal2 : (getE σ.h id2).alive = true := by rw [hg2]; rfl
                have hin2 : id2 ∈ [s, x].flatMap fun x => (σ.ev x).ids := by simp [hx, V.ids, V.ids0]
                simp only [opC, opR, hla, hlt, hz, hv, hg, hx, hg2] at e
                obtain ⟨c1, e⟩ := bif_some e
                injection e with e; injection e with e1 e2; subst e1; subst e2
                refine ⟨[id], LocG.inst (plain_recs _ _) (alive_lt hal) hin (fun h2 _ hag κ2 => ?_)⟩
                have g1 := (hag id hin hal).trans hg
                have g2 := (hag id2 hin2 hal2).trans hg2
                simp only [opC, opR, hla, hlt, hz, ev_heap, hv, hx, g1, g2, c1, cond_true]
              | _ => exact (nope (by simp only [opR, hla, hlt, hz, hv, hg, hx, hg2])).elim
            | recs s2 m2 ys =>
              simp only [opC, opR, hla, hlt, hz, hv, hg, hx] at e
              obtain ⟨c1, e⟩ := bif_some e
              injection e with e; injection e with e1 e2; subst e1; subst e2
              refine ⟨[id], LocG.inst (plain_recs _ _) (alive_lt hal) hin (fun h2 _ hag κ2 => ?_)⟩
              have g1 := (hag id hin hal).trans hg
              simp only [opC, opR, hla, hlt, hz, ev_heap, hv, hx, g1, c1, cond_true]
            | _ => exact (nope (by simp only [opR, hla, hlt, hz, hv, hg, hx])).elim
          | _ => exact (nope (by simp only [opR, hla, hlt, hz, hv, hg])).elim
        | _ => exact (nope (by simp only [opR, hla, hlt, hz, hv])).elim
    | _ => simp [appOp] at hk

/-! Calls. -/
theorem passV_loc {rw keep : Bool} {h h2 : List E} {code : Nat} {ids : List Nat} {v : V} {q : V × List Nat} (e : passV rw keep h code ids v = some q) (hag : ∀ id ∈ v.ids0, (getE h id).alive = true → getE h2 id = getE h id) :
    passV rw keep h2 code ids v = some q ∧ ∀ i ∈ q.2, i ∈ ids ∨ (i ∈ v.ids0 ∧ (getE h i).alive = true) := by
  cases v with
  | own id =>
    simp only [passV] at e ⊢
    cases hg : getE h id with
    | row l =>
      rw [hag id (by simp [V.ids0]) (by rw [hg]; rfl), hg]
      rw [hg] at e
      refine ⟨e, fun i hi => ?_⟩
      simp only at e
      cases rw with
      | false =>
        rw [cond_false, Option.some.injEq] at e; subst e; exact .inl hi
      | true =>
        rw [cond_true] at e
        cases hany : ids.any (Nat.beq id) with
        | true => rw [hany] at e; cases e
        | false =>
          rw [hany, cond_false, Option.some.injEq] at e; subst e
          rcases List.mem_append.1 hi with hi | hi
          · exact .inl hi
          · have hi' : i = id := by simpa using hi
            subst hi'
            exact .inr ⟨by simp [V.ids0], by rw [hg]; rfl⟩
    | _ => rw [hg] at e; cases e
  | ro s l => simp only [passV, Option.some.injEq] at e ⊢; subst e; exact ⟨rfl, fun i hi => .inl hi⟩
  | int k n => simp only [passV, Option.some.injEq] at e ⊢; subst e; exact ⟨rfl, fun i hi => .inl hi⟩
  | bool b => simp only [passV, Option.some.injEq] at e ⊢; subst e; exact ⟨rfl, fun i hi => .inl hi⟩
  | str s => simp only [passV, Option.some.injEq] at e ⊢; subst e; exact ⟨rfl, fun i hi => .inl hi⟩
  | sub id o n =>
    simp only [passV] at e ⊢
    cases hg : getE h id with
    | row l =>
      rw [hg] at e
      rw [hag id (by simp [V.ids0]) (by rw [hg]; rfl), hg]
      simp only at e ⊢
      cases rw with
      | true => rw [cond_true] at e; cases e
      | false =>
        rw [cond_false, Option.some.injEq] at e ⊢
        subst e
        exact ⟨rfl, fun i hi => .inl hi⟩
    | _ => rw [hg] at e; cases e
  | nil =>
    simp only [passV] at e ⊢
    cases hc : codeL code with
    | none => rw [hc] at e; cases e
    | some l => rw [hc] at e; simp only [Option.some.injEq] at e ⊢; subst e; exact ⟨rfl, fun i hi => .inl hi⟩
  | _ => simp [passV] at e
theorem passVs_loc {rw keep : Bool} {h h2 : List E} : ∀ (cs : List Nat) (vs : List V) (ids : List Nat) (q : List V × List Nat), passVs rw keep h cs vs ids = some q → (∀ id ∈ vs.flatMap V.ids0, (getE h id).alive = true → getE h2 id = getE h id) →
    passVs rw keep h2 cs vs ids = some q ∧ ∀ i ∈ q.2, i ∈ ids ∨ (i ∈ vs.flatMap V.ids0 ∧ (getE h i).alive = true) := by
  intro cs
  induction cs with
  | nil =>
    intro vs ids q e _
    cases vs with
    | nil => simp only [passVs, Option.some.injEq] at e ⊢; subst e; exact ⟨rfl, fun i hi => .inl hi⟩
    | cons v vs => simp [passVs] at e
  | cons c cs ih =>
    intro vs ids q e hag
    cases vs with
    | nil => simp [passVs] at e
    | cons v vs =>
      simp only [passVs] at e ⊢
      cases hp : passV rw keep h c ids v with
      | none => rw [hp] at e; cases e
      | some p =>
        rw [hp] at e
        simp only [Option.map_eq_some_iff] at e
        obtain ⟨u, e1, rfl⟩ := e
        obtain ⟨p1, p2⟩ := passV_loc (h2 := h2) hp (fun id hid ha => hag id (by simp [hid]) ha)
        obtain ⟨q1, q2⟩ := ih vs p.2 u e1 (fun id hid ha => hag id (by simp only [List.flatMap_cons, List.mem_append]; exact .inr hid) ha)
        rw [p1]
        simp only
        rw [q1]
        refine ⟨rfl, fun i hi => ?_⟩
        rcases q2 i hi with h1 | ⟨h1, h3⟩
        · rcases p2 i h1 with h1 | ⟨h1, h3⟩
          · exact .inl h1
          · exact .inr ⟨by simp [h1], h3⟩
        · exact .inr ⟨by simp only [List.flatMap_cons, List.mem_append]; exact .inr h1, h3⟩
theorem passC_loc {keep : Bool} {h h2 : List E} : ∀ (ds : List TypeDesc) (args : List V) (ids : List Nat) (q : List V × List Nat), passC keep h ds args ids = some q → (∀ id ∈ args.flatMap V.ids, (getE h id).alive = true → getE h2 id = getE h id) →
    passC keep h2 ds args ids = some q ∧ ∀ i ∈ q.2, i ∈ ids ∨ (i ∈ args.flatMap V.ids ∧ (getE h i).alive = true) := by
  intro ds
  induction ds with
  | nil =>
    intro args ids q e _
    cases args with
    | nil => simp only [passC, Option.some.injEq] at e ⊢; subst e; exact ⟨rfl, fun i hi => .inl hi⟩
    | cons v args => simp [passC] at e
  | cons d ds ih =>
    intro args ids q e hag
    cases args with
    | nil => simp [passC] at e
    | cons v args =>
      have hag2 : ∀ id ∈ args.flatMap V.ids, (getE h id).alive = true → getE h2 id = getE h id := fun id hid ha => hag id (by simp only [List.flatMap_cons, List.mem_append]; exact .inr hid) ha
      have hagv : ∀ id ∈ v.ids, (getE h id).alive = true → getE h2 id = getE h id := fun id hid ha => hag id (by simp [hid]) ha
      have go : ∀ (u : V) (ids1 : List Nat), (∀ i ∈ ids1, i ∈ ids ∨ (i ∈ v.ids ∧ (getE h i).alive = true)) → (passC keep h ds args ids1).map (fun p => (u :: p.1, p.2)) = some q →
          (passC keep h2 ds args ids1).map (fun p => (u :: p.1, p.2)) = some q ∧ ∀ i ∈ q.2, i ∈ ids ∨ (i ∈ (v :: args).flatMap V.ids ∧ (getE h i).alive = true) := by
        intro u ids1 h3 h4
        simp only [Option.map_eq_some_iff] at h4
        obtain ⟨p, h5, rfl⟩ := h4
        obtain ⟨q1, q2⟩ := ih args ids1 p h5 hag2
        rw [q1]
        refine ⟨rfl, fun i hi => ?_⟩
        rcases q2 i hi with h6 | ⟨h6, h7⟩
        · rcases h3 i h6 with h6 | ⟨h6, h7⟩
          · exact .inl h6
          · exact .inr ⟨by simp [h6], h7⟩
        · exact .inr ⟨by simp only [List.flatMap_cons, List.mem_append]; exact .inr h6, h7⟩
      have self : ∀ i ∈ ids, i ∈ ids ∨ (i ∈ v.ids ∧ (getE h i).alive = true) := fun i hi => .inl hi
      cases v with
      | ro s l => simp only [passC] at e ⊢; exact go _ _ self e
      | recs s n xs => simp only [passC] at e ⊢; exact go _ _ self e
      | int k n => simp only [passC] at e ⊢; exact go _ _ self e
      | bool b => simp only [passC] at e ⊢; exact go _ _ self e
      | str s => simp only [passC] at e ⊢; exact go _ _ self e
      | nil =>
        simp only [passC] at e ⊢
        cases hd : emptyRow d with
        | none => rw [hd] at e; cases e
        | some l => rw [hd] at e; simp only at e ⊢; exact go _ _ self e
      | own id =>
        simp only [passC] at e ⊢
        cases hg : getE h id with
        | recs n xs =>
          rw [hagv id (by simp [V.ids, V.ids0]) (by rw [hg]; rfl), hg]
          rw [hg] at e
          simp only at e ⊢
          cases hrw : rwD d with
          | true => rw [hrw] at e; cases e
          | false => rw [hrw, cond_false] at e; rw [cond_false]; exact go _ _ self e
        | row l =>
          rw [hagv id (by simp [V.ids, V.ids0]) (by rw [hg]; rfl), hg]
          rw [hg] at e
          simp only at e ⊢
          cases hrw : rwD d with
          | true =>
            rw [hrw, cond_true] at e
            rw [cond_true]
            cases hany : ids.any (Nat.beq id) with
            | true => rw [hany] at e; cases e
            | false =>
              rw [hany, cond_false] at e
              rw [cond_false]
              refine go _ _ (fun i hi => ?_) e
              rcases List.mem_append.1 hi with hi | hi
              · exact .inl hi
              · have hi' : i = id := by simpa using hi
                subst hi'
                exact .inr ⟨by simp [V.ids, V.ids0], by rw [hg]; rfl⟩
          | false => rw [hrw, cond_false] at e; rw [cond_false]; exact go _ _ self e
        | _ => rw [hg] at e; cases e
      | sub id o n =>
        simp only [passC] at e ⊢
        cases hg : getE h id with
        | row l =>
          rw [hagv id (by simp [V.ids, V.ids0]) (by rw [hg]; rfl), hg]
          rw [hg] at e
          exact go _ _ self e
        | _ => rw [hg] at e; cases e
      | ptr id off =>
        cases off with
        | succ off => simp [passC] at e
        | zero =>
          simp only [passC] at e ⊢
          cases hany : ids.any (Nat.beq id) with
          | true => rw [hany] at e; cases e
          | false =>
            rw [hany, cond_false] at e
            rw [cond_false]
            cases hg : getE h id with
            | cells vs =>
              rw [hagv id (by simp [V.ids, V.ids0]) (by rw [hg]; rfl), hg]
              rw [hg] at e
              simp only at e ⊢
              generalize (vs.all fun v => v.ids0.isEmpty && v.flat && v.out0) = bb at e ⊢
              cases bb with
              | false => cases e
              | true =>
                rw [cond_true] at e ⊢
                refine go _ _ (fun i hi => ?_) e
                rcases List.mem_append.1 hi with hi | hi
                · exact .inl hi
                · have hi' : i = id := by simpa using hi
                  subst hi'
                  exact .inr ⟨by simp [V.ids, V.ids0], by rw [hg]; rfl⟩
            | _ => rw [hg] at e; cases e
      | agg vs =>
        have byV : ∀ (rw : Bool) (cs : List Nat), (match passVs rw keep h cs vs ids with
              | some q => (passC keep h ds args q.2).map fun p => (V.agg q.1 :: p.1, p.2)
              | none => none) = some q → (match passVs rw keep h2 cs vs ids with
              | some q => (passC keep h2 ds args q.2).map fun p => (V.agg q.1 :: p.1, p.2)
              | none => none) = some q ∧ ∀ i ∈ q.2, i ∈ ids ∨ (i ∈ (V.agg vs :: args).flatMap V.ids ∧ (getE h i).alive = true) := by
          intro rw cs h3
          cases hq : passVs rw keep h cs vs ids with
          | none => rw [hq] at h3; cases h3
          | some p =>
            rw [hq] at h3
            obtain ⟨p1, p2⟩ := passVs_loc (h2 := h2) cs vs ids p hq hagv
            rw [p1]
            exact go _ _ p2 h3
        cases d <;> simp only [passC] at e ⊢ <;> first | exact byV _ _ e | skip
        all_goals
          generalize (vs.all fun v => v.ids0.isEmpty && v.flat && v.out0) = bb at e ⊢
          cases bb with
          | false => cases e
          | true => rw [cond_true] at e ⊢; exact go _ _ self e
      | _ => simp [passC] at e

theorem mapId_in (ids : List Nat) (len j : Nat) : mapId ids len j ∈ ids ∨ len ≤ mapId ids len j := by
  unfold mapId
  cases hb : Nat.blt j ids.length with
  | true =>
    rw [Nat.blt_eq] at hb
    left
    simp [List.getD, hb]
  | false => right; simp only [cond_false]; omega
theorem mapId_up {ids : List Nat} {a b : Nat} (hi : ∀ i ∈ ids, i < a) (j : Nat) : upN a b (mapId ids a j) = mapId ids b j := by
  unfold mapId
  cases hb : Nat.blt j ids.length with
  | true =>
    rw [Nat.blt_eq] at hb
    simp only [cond_true]
    exact upN_lt (hi _ (by simp [List.getD, hb]))
  | false =>
    simp only [cond_false]
    rw [upN_ge (by omega)]; omega
theorem sh0_mp {ids : List Nat} {a b : Nat} {f : Nat → Nat} (hf : ∀ j, f (mapId ids a j) = mapId ids b j) (v : V) : (v.sh0 ids a).mp0 f = v.sh0 ids b := by
  cases v <;> first | rfl | simp [V.sh0, V.mp0, hf]
theorem sh1_mp {ids : List Nat} {a b : Nat} {f : Nat → Nat} (hf : ∀ j, f (mapId ids a j) = mapId ids b j) (v : V) : (v.sh1 ids a).mp1 f = v.sh1 ids b := by
  cases v with
  | agg vs =>
    simp only [V.sh1, V.mp1, List.map_map]
    congr 1
    exact List.map_congr_left (fun v _ => sh0_mp hf v)
  | own id => exact sh0_mp hf (.own id)
  | sub id o n => exact sh0_mp hf (.sub id o n)
  | ptr id o => exact sh0_mp hf (.ptr id o)
  | elt id o n i => exact sh0_mp hf (.elt id o n i)
  | _ => rfl
theorem sh_mp {ids : List Nat} {a b : Nat} {f : Nat → Nat} (hf : ∀ j, f (mapId ids a j) = mapId ids b j) (v : V) : (v.sh ids a).mpT f = v.sh ids b := by
  cases v with
  | tup vs =>
    simp only [V.sh, V.mpT, List.map_map]
    congr 1
    exact List.map_congr_left (fun v _ => sh1_mp hf v)
  | agg vs => exact sh1_mp hf (.agg vs)
  | own id => exact sh0_mp hf (.own id)
  | sub id o n => exact sh0_mp hf (.sub id o n)
  | ptr id o => exact sh0_mp hf (.ptr id o)
  | elt id o n i => exact sh0_mp hf (.elt id o n i)
  | _ => rfl
theorem shE_mp {ids : List Nat} {a b : Nat} {f : Nat → Nat} (hf : ∀ j, f (mapId ids a j) = mapId ids b j) (e : E) : (e.sh ids a).mp f = e.sh ids b := by
  cases e with
  | cells vs =>
    simp only [E.sh, E.mp, List.map_map]
    congr 1
    exact List.map_congr_left (fun v _ => sh0_mp hf v)
  | _ => rfl
theorem sh0_in {ids : List Nat} {a : Nat} {v : V} {i : Nat} (hi : i ∈ (v.sh0 ids a).ids0) : i ∈ ids ∨ a ≤ i := by
  cases v <;> simp [V.sh0, V.ids0] at hi <;> (rw [hi]; exact mapId_in _ _ _)
theorem sh1_in {ids : List Nat} {a : Nat} {v : V} {i : Nat} (hi : i ∈ (v.sh1 ids a).ids) : i ∈ ids ∨ a ≤ i := by
  cases v with
  | agg vs =>
    simp only [V.sh1, V.ids, List.mem_flatMap, List.mem_map] at hi
    obtain ⟨u, ⟨w, _, rfl⟩, hu⟩ := hi
    exact sh0_in hu
  | own id => exact sh0_in (v := .own id) hi
  | sub id o n => exact sh0_in (v := .sub id o n) hi
  | ptr id o => exact sh0_in (v := .ptr id o) hi
  | elt id o n k => exact sh0_in (v := .elt id o n k) hi
  | _ => cases hi
theorem sh_in {ids : List Nat} {a : Nat} {v : V} {i : Nat} (hi : i ∈ (v.sh ids a).all) : i ∈ ids ∨ a ≤ i := by
  cases v with
  | tup vs =>
    simp only [V.sh, V.all, List.mem_flatMap, List.mem_map] at hi
    obtain ⟨u, ⟨w, _, rfl⟩, hu⟩ := hi
    exact sh1_in hu
  | agg vs => exact sh1_in (v := .agg vs) hi
  | own id => exact sh0_in (v := .own id) hi
  | sub id o n => exact sh0_in (v := .sub id o n) hi
  | ptr id o => exact sh0_in (v := .ptr id o) hi
  | elt id o n k => exact sh0_in (v := .elt id o n k) hi
  | _ => cases hi
theorem shE_in {ids : List Nat} {a : Nat} {e : E} {i : Nat} (hi : i ∈ (e.sh ids a).ids) : i ∈ ids ∨ a ≤ i := by
  cases e with
  | cells vs =>
    simp only [E.sh, E.ids, List.mem_flatMap, List.mem_map] at hi
    obtain ⟨u, ⟨w, _, rfl⟩, hu⟩ := hi
    exact sh0_in hu
  | _ => cases hi

theorem backE_loc (f g : E → E) : ∀ (ids : List Nat) (es h h2 : List E) (p : Nat), (∀ i ∈ ids, i < h.length) → h.length ≤ h2.length →
    (getE (backE ids (es.map f) h) p = getE h p ∧ getE (backE ids (es.map g) h2) p = getE h2 p) ∨ (p ∈ ids ∧ ∃ e, getE (backE ids (es.map f) h) p = f e ∧ getE (backE ids (es.map g) h2) p = g e) := by
  intro ids
  induction ids with
  | nil => intro es h h2 p _ _; left; cases es <;> exact ⟨rfl, rfl⟩
  | cons i ids ih =>
    intro es h h2 p hi hl
    cases es with
    | nil => left; exact ⟨rfl, rfl⟩
    | cons e es =>
      simp only [List.map_cons, backE]
      have hi1 : i < h.length := hi i (by simp)
      rcases ih es (h.set i (f e)) (h2.set i (g e)) p (fun k hk => by simpa using hi k (by simp [hk])) (by simpa using hl) with ⟨h1, h3⟩ | ⟨h1, u, h3, h4⟩
      · rw [h1, h3, getE_set hi1, getE_set (by omega)]
        by_cases hp : i = p
        · right
          rw [if_pos hp, if_pos hp]
          exact ⟨by simp [hp], e, rfl, rfl⟩
        · left
          rw [if_neg hp, if_neg hp]
          exact ⟨rfl, rfl⟩
      · right
        exact ⟨by simp [h1], u, h3, h4⟩

theorem callC_loc {keep : Bool} {ds : List TypeDesc} {sp : List V → List E → (V → List E → R) → R} (hl : ∀ args h κ r, sp args h κ = some r → ∃ v h', κ v h' = some r ∧ ∀ κ2, sp args h κ2 = κ2 v h')
    {args : List V} {h : List E} {v : V} {h' : List E} (hc : callC keep ds sp args h (fun v h => some (v, h)) = some (v, h')) :
    ∃ wr, LocG (fun h2 κ2 => callC keep ds sp args h2 κ2) h v h' wr (args.flatMap V.ids) := by
  unfold callC at hc
  split at hc
  · rename_i args' ids hp
    obtain ⟨v1, h1, e1, e2⟩ := hl _ _ _ _ hc
    injection e1 with e1; injection e1 with e1 e3; subst e1; subst e3
    obtain ⟨hp1, hp2⟩ := passA_is hp
    have hin : ∀ i ∈ ids, i ∈ args.flatMap V.ids ∧ (getE h i).alive = true := fun i hi => by
      have := (passC_loc (h2 := h) ds args [] _ hp1 (fun _ _ _ => rfl)).2 i hi
      rcases this with h | h
      · cases h
      · exact h
    have hlt : ∀ i ∈ ids, i < h.length := fun i hi => alive_lt (hin i hi).2
    have hlen : (backE ids ((h1.take ids.length).map (E.sh ids h.length)) h).length = h.length := backE_len _ _ _
    have hself : ∀ j, (fun p : Nat => p) (mapId ids h.length j) = mapId ids h.length j := fun j => rfl
    have hnew : ∀ (h2 : List E) t, getE (backE ids ((h1.take ids.length).map (E.sh ids h2.length)) h2 ++ (h1.drop ids.length).map (E.sh ids h2.length)) (h2.length + t) = (getE (h1.drop ids.length) t).sh ids h2.length := fun h2 t => by
      have hlen2 : (backE ids ((h1.take ids.length).map (E.sh ids h2.length)) h2).length = h2.length := backE_len _ _ _
      rw [← getE_map_sh (E.sh ids h2.length) rfl]
      simp only [getE, List.getD]
      rw [List.getElem?_append_right (by omega), hlen2]
      congr 2; omega
    have hold : ∀ (h2 : List E) p, p < h2.length → getE (backE ids ((h1.take ids.length).map (E.sh ids h2.length)) h2 ++ (h1.drop ids.length).map (E.sh ids h2.length)) p = getE (backE ids ((h1.take ids.length).map (E.sh ids h2.length)) h2) p := fun h2 p hp2 =>
      getE_append_lt (by rw [backE_len]; exact hp2)
    refine ⟨ids, ?_⟩
    exact {
      vnf := sh_mp hself v1
      vids := fun id hid => sh_in hid
      len := by rw [List.length_append, hlen]; omega
      wlt := hlt
      wrd := fun p hp3 => (hin p hp3).1
      new := fun p hp3 id hid => by
        obtain ⟨t, rfl⟩ := Nat.le.dest hp3
        rw [hnew] at hid
        exact shE_in hid
      enf := fun p hp3 => by
        obtain ⟨t, rfl⟩ := Nat.le.dest hp3
        rw [hnew]; exact shE_mp hself _
      old := fun p hp3 hn => by rw [hold h p hp3, backE_old _ _ _ _ hn]
      run := fun h2 hl2 hag => by
        obtain ⟨q1, _⟩ := passC_loc (h2 := h2) ds args [] _ hp1 hag
        have hpa : passA keep h2 ds args = some (args', ids) := by
          unfold passA
          rw [q1]
          simp only [hp2, cond_true]
        have hmap : ids.map (getE h2) = ids.map (getE h) := List.map_congr_left (fun i hi => hag i (hin i hi).1 (hin i hi).2)
        refine ⟨backE ids ((h1.take ids.length).map (E.sh ids h2.length)) h2 ++ (h1.drop ids.length).map (E.sh ids h2.length), fun κ2 => ?_, ?_, fun p hp3 => ?_, fun p h3 h4 => ?_, fun t => ?_⟩
        · simp only [callC, hpa, hmap]
          rw [e2, sh_mp (mapId_up hlt)]
        · simp only [List.length_append, backE_len, List.length_map, List.length_drop]; omega
        · rw [hold h p hp3, hold h2 p (by omega)]
          rcases backE_loc (E.sh ids h.length) (E.sh ids h2.length) ids (h1.take ids.length) h h2 p hlt hl2 with h5 | ⟨h5, u, h6, h7⟩
          · exact .inl h5
          · right
            rw [h6, h7]
            exact ⟨h5, fun id hid => shE_in hid, shE_mp hself _, (shE_mp (mapId_up hlt) _).symm⟩
        · rw [hold h2 p h4]
          exact backE_old _ _ _ _ (fun hm => by have := hlt p hm; omega)
        · rw [hnew, hnew, shE_mp (mapId_up hlt)] }
  · cases hc

/-- Every call looks at the blocks of its arguments alone. -/
def LocK (K : FuncId → List V → List E → (V → List E → R) → R) : Prop :=
  ∀ f args h v h', K f args h (fun v h => some (v, h)) = some (v, h') → ∃ wr, LocG (fun h2 κ2 => K f args h2 κ2) h v h' wr (args.flatMap V.ids)

theorem call_loc (hL : LocK K) {o : Oper} (hk : callOp o.op = true) {σ : St} {v : V} {h' : List E} (hs : ∀ κ2, opC TD K o σ κ2 = κ2 v h') :
    ∃ wr, LocG (fun h2 κ2 => opC TD K o { σ with h := h2 } κ2) σ.h v h' wr (o.op.operands.toList.flatMap fun x => (σ.ev x).ids) := by
  have e := hs (fun v h => some (v, h))
  clear hs
  obtain ⟨dst, op, ty, pos, after, guard⟩ := o
  cases op <;> first | (simp [callOp] at hk; done) | skip
  case call c =>
    obtain ⟨callee, cargs, cats⟩ := c
    cases callee with
    | value f =>
      cases f <;> first | (simp [callOp] at hk; done) | skip
      rename_i f
      have hmap : ∀ h2 : List E, (St.ev { σ with h := h2 }) = σ.ev := fun h2 => funext (ev_heap σ h2)
      have he : ∀ h2 κ2, opC TD K ⟨dst, .call ⟨.value (.func f), cargs, cats⟩, ty, pos, after, guard⟩ { σ with h := h2 } κ2 = K f (cargs.toList.map σ.ev) h2 κ2 := fun h2 κ2 => by
        simp only [opC, opR, opC0, hmap]
      have e' : K f (cargs.toList.map σ.ev) σ.h (fun v h => some (v, h)) = some (v, h') := (he σ.h _).symm.trans e
      obtain ⟨wr, hl⟩ := hL f _ _ _ _ e'
      refine ⟨wr, LocG.of (LocG.rd hl (fun i hi => ?_)) (fun h2 κ2 v2 h3 _ hr => (he h2 κ2).trans hr)⟩
      simp only [List.mem_flatMap, List.mem_map] at hi ⊢
      obtain ⟨u, ⟨x, hx, rfl⟩, hu⟩ := hi
      exact ⟨x, by simp [Op.operands, Call.operands]; exact .inr (by simpa using hx), hu⟩
    | _ => simp [callOp] at hk

/-! Where the blocks come from that a value names. -/
theorem idxC_from {x i : V} {h h' : List E} {v : V} (e : idxC x i h (fun v => some (v, h)) = some (v, h')) : ∀ id ∈ v.all, id ∈ x.all := by
  unfold idxC at e
  split at e
  · obtain ⟨_, e⟩ := bif_some e
    injection e with e; injection e with e _; subst e
    intro id hid; cases hid
  · split at e
    · obtain ⟨_, e⟩ := bif_some e
      injection e with e; injection e with e _; subst e
      exact fun id hid => hid
    · cases e
  · split at e
    · obtain ⟨_, e⟩ := bif_some e
      injection e with e; injection e with e _; subst e
      exact fun id hid => hid
    · cases e
  · cases e
theorem sliceC_from {x : V} {lo hi : Option V} {h h' : List E} {v : V} (e : sliceC x lo hi h (fun v => some (v, h)) = some (v, h')) : ∀ id ∈ v.all, id ∈ x.all := by
  unfold sliceC at e
  split at e
  · obtain ⟨b, a, m, hb⟩ := cutC_form lo hi _
    rw [hb] at e
    obtain ⟨_, e⟩ := bif_some e
    injection e with e; injection e with e _; subst e
    intro id hid; cases hid
  · split at e
    · split at e
      · injection e with e; injection e with e _; subst e
        exact fun id hid => hid
      · obtain ⟨b, a, m, hb⟩ := cutC_form lo hi _
        rw [hb] at e
        obtain ⟨_, e⟩ := bif_some e
        injection e with e; injection e with e _; subst e
        exact fun id hid => hid
    · cases e
  · obtain ⟨b, a, m, hb⟩ := cutC_form lo hi _
    rw [hb] at e
    obtain ⟨_, e⟩ := bif_some e
    injection e with e; injection e with e _; subst e
    exact fun id hid => hid
  · cases e
theorem atom_all (a : Atom) : a.v.all = [] := by cases a <;> rfl
theorem loadC_from {c : Cx} (hr : Rel c) {x : V} {h' : List E} {v : V} (e : loadC x c.h (fun v => some (v, c.h)) = some (v, h')) : ∀ id ∈ v.all, ∃ q ∈ x.ids, id ∈ (getE c.h q).ids := by
  unfold loadC at e
  split at e
  · injection e with e; injection e with e _; subst e
    intro id hid; rw [atom_all] at hid; cases hid
  · split at e
    · split at e
      · obtain ⟨_, e⟩ := bif_some e
        injection e with e; injection e with e _; subst e
        intro id hid; cases hid
      · cases e
    · cases e
  · rename_i q off
    split at e
    · obtain ⟨_, e⟩ := bif_some e
      injection e with e; injection e with e _; subst e
      intro id hid; rw [atom_all] at hid; cases hid
    · rename_i vs hg
      obtain ⟨hlt, e⟩ := bif_some e
      injection e with e; injection e with e _; subst e
      have hlt' : off < vs.length := by simpa using hlt
      intro id hid
      have hq : q < c.h.length := alive_lt (by rw [hg]; rfl)
      have he := hr.ent q hq
      rw [hg] at he
      obtain ⟨b, ty, cs, _, _, _, ha⟩ := he
      obtain ⟨y, _, hy⟩ := ha off hlt'
      have hi0 : id ∈ (vs.getD off .junk).ids0 := by
        cases hv : vs.getD off .junk <;> rw [hv] at hid hy <;> first | exact hid | exact hy.elim
      refine ⟨q, by simp [V.ids, V.ids0], ?_⟩
      rw [hg]
      simp only [E.ids, List.mem_flatMap]
      exact ⟨_, by simp [List.getD, hlt'], hi0⟩
    · obtain ⟨_, e⟩ := bif_some e
      injection e with e; injection e with e _; subst e
      intro id hid; cases hid
    · cases e
  · cases e
theorem binC_from {isB : Bool} {op : BinOp} {x y : V} {h h' : List E} {v : V} (e : binC isB op x y (fun v => some (v, h)) = some (v, h')) : v.all = [] := by
  unfold binC at e
  repeat' split at e
  all_goals first
    | (cases e; done)
    | (injection e with e; injection e with e _; subst e; rfl)
    | (obtain ⟨_, e⟩ := bif_some e; injection e with e; injection e with e _; subst e; rfl)
    | (obtain ⟨_, e⟩ := bif_none e; injection e with e; injection e with e _; subst e; rfl)
    | (cases isB with
       | false => cases e
       | true =>
         simp only [cond_true] at e
         repeat' split at e
         all_goals first
           | (cases e; done)
           | (injection e with e; injection e with e _; subst e; rfl))
    | (obtain ⟨_, e⟩ := bif_some e
       repeat' split at e
       all_goals first
         | (cases e; done)
         | (injection e with e; injection e with e _; subst e; rfl)
         | (obtain ⟨_, e⟩ := bif_none e; injection e with e; injection e with e _; subst e; rfl))
theorem minmaxC_from {mx : Bool} {h h' : List E} {v : V} : ∀ (ys : List V) (x : V), minmaxC mx x ys (fun v => some (v, h)) = some (v, h') → v.all = x.all ∨ v.all = [] := by
  intro ys
  induction ys with
  | nil =>
    intro x e
    cases x <;> simp only [minmaxC] at e <;> (injection e with e; injection e with e _; subst e; exact .inl rfl)
  | cons y ys ih =>
    intro x e
    cases x <;> cases y <;> simp only [minmaxC] at e <;> first | (cases e; done) | skip
    right
    cases mx
    · rw [cond_false] at e
      rcases ih _ e with h | h <;> exact h
    · rw [cond_true] at e
      rcases ih _ e with h | h <;> exact h
theorem ofConst_ids (v : Value) : (ofConst v).ids0 = [] := by
  unfold ofConst
  split <;> first | rfl | (split <;> rfl)
theorem lay_from {fs : Array Field} {ev : Operand → V} : ∀ (ps : List (Nat × Operand)) (zs : List V) (id : Nat), id ∈ (layParts fs ev ps zs).flatMap V.ids0 → id ∈ zs.flatMap V.ids0 ∨ ∃ p ∈ ps, id ∈ (ev p.2).ids0 := by
  intro ps
  induction ps with
  | nil => intro zs id h; exact .inl h
  | cons p ps ih =>
    intro zs id h
    have h' : id ∈ (layParts fs ev ps (match fs[p.1]? with | some fd => zs.set fd.offset (ev p.2) | none => zs)).flatMap V.ids0 := h
    rcases ih _ id h' with h1 | ⟨q, h1, h2⟩
    · split at h1
      · simp only [List.mem_flatMap] at h1
        obtain ⟨u, hu, hid⟩ := h1
        rcases List.mem_or_eq_of_mem_set hu with h3 | h3
        · left; simp only [List.mem_flatMap]; exact ⟨u, h3, hid⟩
        · right; exact ⟨p, by simp, by rw [← h3]; exact hid⟩
      · exact .inl h1
    · exact .inr ⟨q, by simp [h1], h2⟩
theorem ids0_all {v : V} {id : Nat} (h : id ∈ v.ids0) : id ∈ v.all := by
  cases v <;> first | exact h | cases h

theorem prov {o : Oper} (hq : (heapFree TD o.op || growOp o.op) = true) {c : Cx} (hr : Rel c) {σ : St} (hh : σ.h = c.h) (hv : ∀ x ∈ o.op.operands, ∃ y, VR c (σ.ev x) y) {v : V} {h' : List E} (hs : ∀ κ2, opC TD K o σ κ2 = κ2 v h') :
    ∀ id ∈ v.all, (∃ x ∈ o.op.operands, id ∈ (σ.ev x).all) ∨ ∃ x ∈ o.op.operands, ∃ q ∈ (σ.ev x).ids, id ∈ (getE c.h q).ids := by
  have e := hs (fun v h => some (v, h))
  clear hs
  obtain ⟨dst, op, ty, pos, after, guard⟩ := o
  cases op <;> first | (simp [heapFree, growOp] at hq; done) | skip
  case move x =>
    simp only [opC, opR, opC0] at e
    injection e with e; injection e with e _; subst e
    exact fun id hid => .inl ⟨x, by simp [Op.operands], hid⟩
  case assign x =>
    have hf : heapFree TD (.assign x) = true := by simpa [growOp] using hq
    have hn := (opR_heapFree (o := ⟨dst, .assign x, ty, pos, after, guard⟩) hf σ).resolve_right (by rintro ⟨t, x, f, h⟩; cases h)
    rw [opC_of0 hn, assign_eq hf] at e
    injection e with e; injection e with e _; subst e
    exact fun id hid => .inl ⟨x, by simp [Op.operands], hid⟩
  case pick g a b =>
    simp only [opC, opR, opC0] at e
    have hm : v = σ.ev a ∨ v = σ.ev b ∨ ∃ t, v = .bool t := by
      split at e
      · rename_i t _
        split at e
        · injection e with e; injection e with e _; exact .inr (.inr ⟨_, e.symm⟩)
        · cases t with
          | true => rw [cond_true] at e; injection e with e; injection e with e _; exact .inl e.symm
          | false => rw [cond_false] at e; injection e with e; injection e with e _; exact .inr (.inl e.symm)
      · cases e
    rcases hm with rfl | rfl | ⟨t, rfl⟩
    · exact fun id hid => .inl ⟨a, by simp [Op.operands], hid⟩
    · exact fun id hid => .inl ⟨b, by simp [Op.operands], hid⟩
    · exact fun id hid => by cases hid
  case binOp op t x y z =>
    simp only [opC, opR, opC0] at e
    intro id hid; rw [binC_from e] at hid; cases hid
  case unOp op t x =>
    simp only [opC, opR, opC0] at e
    unfold unC at e
    intro id hid
    split at e
    · injection e with e; injection e with e _; subst e; cases hid
    · injection e with e; injection e with e _; subst e; cases hid
    · cases e
  case convert sT dT x =>
    simp only [opC, opR, opC0] at e
    intro id hid
    split at e
    · split at e
      · unfold toStrC at e
        split at e
        · injection e with e; injection e with e _; subst e; cases hid
        · split at e
          · injection e with e; injection e with e _; subst e; cases hid
          · cases e
      · cases e
    · unfold convC at e
      split at e
      · injection e with e; injection e with e _; subst e; cases hid
      · cases e
  case index t x i =>
    simp only [opC, opR, opC0] at e
    intro id hid
    split at e
    · unfold idxStrC at e
      split at e
      · obtain ⟨_, e⟩ := bif_some e
        injection e with e; injection e with e _; subst e; cases hid
      · cases e
    · cases e
  case extract x i =>
    simp only [opC, opR, opC0] at e
    split at e
    · rename_i vs hx
      obtain ⟨hi, e⟩ := bif_some e
      injection e with e; injection e with e _; subst e
      have hi' : i < vs.length := by simpa using hi
      intro id hid
      obtain ⟨y, hy⟩ := hv x (by simp [Op.operands])
      rw [hx] at hy
      obtain ⟨cs, _, _, ha⟩ := hy
      have h1 := ha i hi'
      have h2 : id ∈ (vs.getD i .junk).ids := by
        cases hg : vs.getD i .junk <;> rw [hg] at hid h1 <;> first | exact hid | exact h1.elim
      refine .inl ⟨x, by simp [Op.operands], ?_⟩
      rw [hx]
      simp only [V.all, List.mem_flatMap]
      exact ⟨_, by simp [List.getD, hi'], h2⟩
    · cases e
  case nilCheck x =>
    simp only [opC, opR, opC0] at e
    split at e
    · rename_i q off hx
      injection e with e; injection e with e _; subst e
      exact fun id hid => .inl ⟨x, by simp [Op.operands], by rw [hx]; exact hid⟩
    · cases e
  case fieldAddr t x f =>
    unfold opC at e
    split at e
    · rename_i g hg
      simp only [opR] at hg
      repeat' split at hg
      all_goals first | (cases hg; done) | skip
      injection hg with hg; subst hg
      obtain ⟨_, e⟩ := bif_some e
      injection e with e; injection e with e _; subst e
      exact fun id hid => by cases hid
    · simp only [opC0] at e
      repeat' split at e
      all_goals first | (cases e; done) | skip
      rename_i hx _ _ _ _ _ _
      injection e with e; injection e with e _; subst e
      exact fun id hid => .inl ⟨x, by simp [Op.operands], by rw [‹σ.ev x = _›]; exact hid⟩
  case field t x f =>
    simp only [opC, opR, opC0] at e
    split at e
    · rename_i fs n b z vs ht hx
      split at e
      · rename_i fd hfd
        split at e <;> first | (cases e; done) | skip
        obtain ⟨hi, e⟩ := bif_some e
        injection e with e; injection e with e _; subst e
        have hi' : fd.offset < vs.length := by simpa using hi
        intro id hid
        obtain ⟨y, hy⟩ := hv x (by simp [Op.operands])
        rw [hx] at hy
        obtain ⟨cs, _, _, ha⟩ := (show VR1 c (.agg vs) y from hy)
        have h1 := ha fd.offset hi'
        have h2 : id ∈ (vs.getD fd.offset .junk).ids0 := by
          cases hg : vs.getD fd.offset .junk <;> rw [hg] at hid h1 <;> first | exact hid | exact h1.elim
        refine .inl ⟨x, by simp [Op.operands], ?_⟩
        rw [hx]
        simp only [V.all, V.ids, List.mem_flatMap]
        exact ⟨_, by simp [List.getD, hi'], h2⟩
      · cases e
    · cases e
  case build t parts =>
    have hf : (!parts.toList.isEmpty) = true := by
      simp only [growOp, Bool.or_false] at hq; exact hq
    simp only [opC, opR, opRB_none (TD := TD) (t := t) (h := σ.h) hf, opC0] at e
    split at e
    · rename_i fs n b z ht
      split at e
      · rename_i zs hz
        have hz0 : ∀ id, id ∉ zs.flatMap V.ids0 := by
          intro id hid
          obtain ⟨cs, _, rfl⟩ := ofZero_agg hz
          simp only [List.mem_flatMap, List.mem_map] at hid
          obtain ⟨u, ⟨w, _, rfl⟩, hu⟩ := hid
          rw [ofConst_ids] at hu; cases hu
        cases hb : buildOk TD fs parts zs.length σ.ev with
        | true =>
          rw [hb, cond_true] at e
          injection e with e; injection e with e _; subst e
          intro id hid
          rcases lay_from parts.toList zs id hid with h1 | ⟨p, h1, h2⟩
          · exact absurd h1 (hz0 id)
          · exact .inl ⟨p.2, by simp [Op.operands]; exact ⟨p.1, by simpa using h1⟩, ids0_all h2⟩
        | false =>
          rw [hb, cond_false] at e
          unfold buildA at e
          split at e
          · rename_i p hp
            split at e
            · rename_i fd ws hfd hx
              obtain ⟨_, e⟩ := bif_some e
              injection e with e; injection e with e _; subst e
              intro id hid
              simp only [V.all, V.ids, List.mem_flatMap, List.mem_append] at hid
              obtain ⟨u, hu, hid⟩ := hid
              rcases hu with hu | hu | hu
              · exact absurd (by simp only [List.mem_flatMap]; exact ⟨u, List.mem_of_mem_take hu, hid⟩) (hz0 id)
              · refine .inl ⟨p.2, ?_, ?_⟩
                · simp [Op.operands]
                  exact ⟨p.1, by have : p ∈ parts.toList := by rw [hp]; simp
                                 simpa using this⟩
                · rw [hx]; simp only [V.all, V.ids, List.mem_flatMap]; exact ⟨u, hu, hid⟩
              · exact absurd (by simp only [List.mem_flatMap]; exact ⟨u, List.mem_of_mem_drop hu, hid⟩) (hz0 id)
            · cases e
          · cases e
      · cases e
    · cases e
  case indexAddr t x i =>
    have hx0 : (∀ id ∈ v.all, id ∈ (σ.ev x).all) → ∀ id ∈ v.all, (∃ y ∈ (Op.indexAddr t x i).operands, id ∈ (σ.ev y).all) ∨ ∃ y ∈ (Op.indexAddr t x i).operands, ∃ q ∈ (σ.ev y).ids, id ∈ (getE c.h q).ids :=
      fun h id hid => .inl ⟨x, by simp [Op.operands], h id hid⟩
    refine hx0 ?_
    unfold opC at e
    split at e
    · rename_i g hg
      simp only [opR] at hg
      split at hg
      · split at hg
        · injection hg with hg; subst hg
          obtain ⟨_, e⟩ := bif_some e
          injection e with e; injection e with e _; subst e
          exact fun id hid => by cases hid
        · rename_i q _ _ hx hi
          split at hg
          · injection hg with hg; subst hg
            obtain ⟨_, e⟩ := bif_some e
            injection e with e; injection e with e _; subst e
            rw [hx]; exact fun id hid => hid
          · cases hg
        · cases hg
      · cases hg
    · simp only [opC0] at e
      split at e
      · split at e
        · split at e
          · rename_i hx hi
            obtain ⟨_, e⟩ := bif_some e
            injection e with e; injection e with e _; subst e
            rw [hx]; exact fun id hid => hid
          · cases e
        · cases e
      · split at e
        · exact idxC_from e
        · cases e
      · cases e
  case slice t x lo hi mx =>
    have hx0 : (∀ id ∈ v.all, id ∈ (σ.ev x).all) → ∀ id ∈ v.all, (∃ y ∈ (Op.slice t x lo hi mx).operands, id ∈ (σ.ev y).all) ∨ ∃ y ∈ (Op.slice t x lo hi mx).operands, ∃ q ∈ (σ.ev y).ids, id ∈ (getE c.h q).ids :=
      fun h id hid => .inl ⟨x, by simp [Op.operands], h id hid⟩
    refine hx0 ?_
    cases mx with
    | some m => simp [heapFree, growOp] at hq
    | none =>
      unfold opC at e
      split at e
      · rename_i g hg
        simp only [opR] at hg
        split at hg
        · rename_i n _
          split at hg
          · rename_i s2 m2 xs hx
            injection hg with hg; subst hg
            obtain ⟨_, e⟩ := bif_some e
            obtain ⟨b, a, m, hb⟩ := cutC_form (lo.map σ.ev) (hi.map σ.ev) (xs.length / n)
            rw [hb] at e
            obtain ⟨_, e⟩ := bif_some e
            injection e with e; injection e with e _; subst e
            exact fun id hid => by cases hid
          · cases hg
        · cases hg
      · simp only [opC0] at e
        split at e
        · split at e
          · exact sliceC_from e
          · cases e
        · unfold sliceStrC at e
          split at e
          · rename_i s _
            obtain ⟨b, a, m, hb⟩ := cutC_form (lo.map σ.ev) (hi.map σ.ev) s.size
            rw [hb] at e
            obtain ⟨_, e⟩ := bif_some e
            injection e with e; injection e with e _; subst e
            exact fun id hid => by cases hid
          · cases e
        · cases e
  case load t p =>
    have hx0 : (∀ id ∈ v.all, ∃ q ∈ (σ.ev p).ids, id ∈ (getE c.h q).ids) → ∀ id ∈ v.all, (∃ y ∈ (Op.load t p).operands, id ∈ (σ.ev y).all) ∨ ∃ y ∈ (Op.load t p).operands, ∃ q ∈ (σ.ev y).ids, id ∈ (getE c.h q).ids :=
      fun h id hid => .inr ⟨p, by simp [Op.operands], h id hid⟩
    refine hx0 ?_
    unfold opC at e
    split at e
    · rename_i g hg
      have hcells : ∀ (xs : List Int) (off n id : Nat), id ∉ (V.agg (cellsV xs off n)).all := by
        intro xs off n id hid
        simp only [V.all, V.ids, cellsV, List.mem_flatMap, List.mem_map] at hid
        obtain ⟨u, ⟨w, _, rfl⟩, hu⟩ := hid
        cases hu
      simp only [opR] at hg
      repeat' split at hg
      all_goals first | (cases hg; done) | skip
      all_goals
        injection hg with hg; subst hg
        obtain ⟨_, e⟩ := bif_some e
        injection e with e; injection e with e _; subst e
        exact fun id hid => absurd hid (hcells _ _ _ _)
    · simp only [opC0, hh] at e
      split at e
      · unfold loadAggC at e
        split at e
        · rename_i q hx
          split at e
          · rename_i vs hg
            obtain ⟨_, e⟩ := bif_some e
            injection e with e; injection e with e _; subst e
            intro id hid
            refine ⟨q, by rw [hx]; simp [V.ids, V.ids0], ?_⟩
            rw [hg]; exact hid
          · cases e
        · cases e
      · unfold loadArrC at e
        split at e
        · rename_i q off hx
          split at e
          · rename_i vs hg
            obtain ⟨_, e⟩ := bif_some e
            injection e with e; injection e with e _; subst e
            intro id hid
            refine ⟨q, by rw [hx]; simp [V.ids, V.ids0], ?_⟩
            rw [hg]
            simp only [V.all, V.ids, List.mem_flatMap] at hid
            obtain ⟨u, hu, hid⟩ := hid
            simp only [E.ids, List.mem_flatMap]
            exact ⟨u, List.mem_of_mem_drop (List.mem_of_mem_take hu), hid⟩
          · cases e
        · cases e
      · exact loadC_from hr e
      · cases e
  case call cl =>
    obtain ⟨callee, cargs, cats⟩ := cl
    cases callee with
    | builtin b =>
      cases b <;> first | (simp [heapFree, growOp] at hq; done) | skip
      case len =>
        intro id hid
        exfalso
        unfold opC at e
        split at e
        · rename_i g hg
          simp only [opR] at hg
          repeat' split at hg
          all_goals first | (cases hg; done) | skip
          all_goals
            injection hg with hg; subst hg
            obtain ⟨_, e⟩ := bif_some e
            injection e with e; injection e with e _; subst e
            cases hid
        · simp only [opC0] at e
          split at e
          · split at e
            · unfold lenC at e
              repeat' split at e
              all_goals first | (cases e; done) | (injection e with e; injection e with e _; subst e; cases hid)
            · unfold lenStrC at e
              repeat' split at e
              all_goals first | (cases e; done) | (injection e with e; injection e with e _; subst e; cases hid)
            · cases e
          · cases e
      all_goals
        simp only [opC, opR, opC0] at e
        split at e
        · rename_i x r hx
          rcases minmaxC_from r x e with h1 | h1
          · intro id hid
            rw [h1] at hid
            have hm : x ∈ cargs.toList.map σ.ev := by rw [hx]; simp
            rw [List.mem_map] at hm
            obtain ⟨y, hy, rfl⟩ := hm
            exact .inl ⟨y, by simp [Op.operands, Call.operands]; simpa using hy, hid⟩
          · intro id hid; rw [h1] at hid; cases hid
        · cases e
    | value f =>
      cases f <;> simp [heapFree, growOp] at hq
    | _ => simp [heapFree, growOp] at hq

/-- A store. -/
def storeOp : Op → Bool
  | .store .. => true
  | _ => false
theorem freeze_len : ∀ (vs : List V) (h : List E) (p : List (List Int) × List E), freeze h vs = some p → p.2.length = h.length := by
  intro vs
  induction vs with
  | nil => intro h p e; simp only [freeze, Option.some.injEq] at e; rw [← e]
  | cons v vs ih =>
    intro h p e
    unfold freeze at e
    split at e
    · injection e with e; rw [← e]
    · rename_i hq; injection hq with h1 h2; subst h2
      split at e
      · simp only [Option.map_eq_some_iff] at e
        obtain ⟨q, e1, rfl⟩ := e
        have := ih _ q e1
        simpa using this
      · cases e
    · rename_i hq; injection hq with h1 h2; subst h2
      simp only [Option.map_eq_some_iff] at e
      obtain ⟨q, e1, rfl⟩ := e
      exact ih _ q e1
    · cases e
theorem storeC_len {p v : V} {h h' : List E} {u : V} (e : storeC p v h (fun h => some (u, h)) = some (u, h')) : h'.length = h.length := by
  unfold storeC at e
  split at e
  · split at e
    · split at e
      · obtain ⟨_, e⟩ := bif_some e
        injection e with e; injection e with _ e; subst e; simp
      · cases e
    · cases e
  · split at e
    · obtain ⟨_, e⟩ := bif_some e
      split at e
      · injection e with e; injection e with _ e; subst e; simp
      · cases e
    · split at e <;> first | (cases e; done) | skip
      obtain ⟨_, e⟩ := bif_some e
      injection e with e; injection e with _ e; subst e; simp
    · cases e
    · cases e
  · cases e
theorem store_len {o : Oper} (hk : storeOp o.op = true) {σ : St} {v : V} {h' : List E} (hs : ∀ κ2, opC TD K o σ κ2 = κ2 v h') : h'.length = σ.h.length := by
  have e := hs (fun v h => some (v, h))
  clear hs
  obtain ⟨dst, op, ty, pos, after, guard⟩ := o
  cases op <;> first | (simp [storeOp] at hk; done) | skip
  case store t p x =>
    unfold opC at e
    split at e
    · rename_i f hf
      simp only [opR] at hf
      repeat' split at hf
      all_goals first | (cases hf; done) | skip
      injection hf with hf; subst hf
      obtain ⟨_, e⟩ := bif_some e
      injection e with e; injection e with _ e; subst e; simp
    · simp only [opC0] at e
      split at e
      · unfold storeAggC at e
        split at e
        · split at e
          · obtain ⟨_, e⟩ := bif_some e
            injection e with e; injection e with _ e; subst e; simp
          · cases e
        · cases e
      · split at e <;> first | (cases e; done) | skip
        have hv : v = .junk := by
          obtain ⟨h1, h2, _⟩ := storeF_det e
          injection h2 with h2; injection h2 with h2 _; exact h2.symm
        subst hv
        unfold storeF at e
        split at e
        · split at e
          · split at e
            · split at e
              · rename_i hfr
                have h1 := storeC_len e
                have h2 := freeze_len _ _ _ hfr
                simp only at h2
                omega
              · cases e
            · exact storeC_len e
          · cases e
        · exact storeC_len e
      · cases e
end

end Go.Proofs.Ytgpgifpblchjjaa.D
