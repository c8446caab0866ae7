/- Regions whose order is drawn: every order comes to the same (the walk over all orders). Conditions: those of each theorem. -/
import Derived.Test.YtonbbeplmjidnaaDraw
import Derived.Test.YtonbbeplmjidnaaFun
namespace Go.Proofs.Ytonbbeplmjidnaa.D
open Go.RowKit
set_option linter.unusedVariables false
set_option linter.unusedSimpArgs false

section
variable {P : Program} {TD : TypeId → Option TI} {K : FuncId → List V → List E → (V → List E → R) → R}

/-- One operation in the written order. -/
def StepC (TD : TypeId → Option TI) (K : FuncId → List V → List E → (V → List E → R) → R) (ops : Array Oper) (o : Oper) (σ σ' : St) (v : V) : Prop :=
  (∀ t, getT σ'.t t = if o.dst = some t ∧ t < σ.n then v else getT σ.t t) ∧ σ'.n = σ.n ∧
  ((∃ g want t, o.guard = some (g, want) ∧ (ops[g]?).bind (·.dst) = some t ∧ (getT σ.t t = .tup [] ∨ ∃ b, getT σ.t t = .bool b ∧ (b == want) = false) ∧ v = .tup [] ∧ σ'.h = σ.h) ∨
   (∃ σ1 : St, (∀ t, getT σ1.t t = getT σ.t t) ∧ σ1.h = σ.h ∧ (∀ κ2, opC TD K o σ1 κ2 = κ2 v σ'.h) ∧
     (o.guard = none ∨ ∃ g want t b, o.guard = some (g, want) ∧ (ops[g]?).bind (·.dst) = some t ∧ getT σ.t t = .bool b ∧ (b == want) = true)))

theorem put_get (σ : St) (d : Option Nat) (v : V) : (∀ t, getT (σ.put d v).t t = if d = some t ∧ t < σ.n then v else getT σ.t t) ∧ (σ.put d v).n = σ.n ∧ (σ.put d v).h = σ.h := by
  cases d with
  | none => exact ⟨fun t => by simp [St.put], rfl, rfl⟩
  | some n =>
    unfold St.put
    by_cases hn : n < σ.n
    · have hb : Nat.blt n σ.n = true := by simpa [Nat.blt_eq] using hn
      simp only [hb, cond_true]
      refine ⟨fun t => ?_, by first | rfl | trivial, by first | rfl | trivial⟩
      rw [getT_putT]
      by_cases ht : n = t
      · subst ht; simp [hn]
      · simp [ht]
    · have hb : Nat.blt n σ.n = false := by
        cases hx : Nat.blt n σ.n with
        | false => rfl
        | true => rw [Nat.blt_eq] at hx; omega
      simp only [hb, cond_false]
      refine ⟨fun t => ?_, by first | rfl | trivial, by first | rfl | trivial⟩
      by_cases ht : n = t
      · subst ht; simp [hn]
      · simp [ht]
theorem put_known {σ : St} {t : Nat} {b : Bool} (hb : getT σ.t t = .bool b) : (∀ u, getT (σ.put (some t) (.bool b)).t u = getT σ.t u) ∧ (σ.put (some t) (.bool b)).n = σ.n ∧ (σ.put (some t) (.bool b)).h = σ.h := by
  obtain ⟨h1, h2, h3⟩ := put_get σ (some t) (.bool b)
  refine ⟨fun u => ?_, h2, h3⟩
  rw [h1]
  split
  · rename_i hh
    obtain ⟨e, _⟩ := hh
    cases e
    exact hb.symm
  · rfl

theorem trace_of (hK : KOk P K) {ops : Array Oper} {κ : St → R} {r : V × List E} : ∀ (l : List Oper) (σ : St), opsC TD K ops l σ κ = some r →
    ∃ (S : Nat → St) (val : Nat → V), S 0 = σ ∧ (∀ i, i < l.length → StepC TD K ops (l.getD i default) (S i) (S (i + 1)) (val i)) ∧ κ (S l.length) = some r := by
  intro l
  induction l with
  | nil => intro σ h; exact ⟨fun _ => σ, fun _ => .junk, rfl, fun i hi => by simp at hi, h⟩
  | cons o l ih =>
    intro σ h
    have fin : ∀ (σ' : St) (v : V), StepC TD K ops o σ σ' v → opsC TD K ops l σ' κ = some r →
        ∃ (S : Nat → St) (val : Nat → V), S 0 = σ ∧ (∀ i, i < (o :: l).length → StepC TD K ops ((o :: l).getD i default) (S i) (S (i + 1)) (val i)) ∧ κ (S (o :: l).length) = some r := by
      intro σ' v hs hl
      obtain ⟨S, val, h1, h2, h3⟩ := ih σ' hl
      refine ⟨fun i => match i with | 0 => σ | i + 1 => S i, fun i => match i with | 0 => v | i + 1 => val i, rfl, fun i hi => ?_, h3⟩
      cases i with
      | zero => simp only [List.getD_cons_zero]; rw [h1]; exact hs
      | succ i => simp only [List.getD_cons_succ]; exact h2 i (by simpa using hi)
    have exec : ∀ (σ1 : St), (∀ t, getT σ1.t t = getT σ.t t) → σ1.n = σ.n → σ1.h = σ.h → (o.guard = none ∨ ∃ g want t b, o.guard = some (g, want) ∧ (ops[g]?).bind (·.dst) = some t ∧ getT σ.t t = .bool b ∧ (b == want) = true) →
        opC TD K o σ1 (fun v h => opsC TD K ops l (St.put { σ1 with h } o.dst v) κ) = some r →
        ∃ (S : Nat → St) (val : Nat → V), S 0 = σ ∧ (∀ i, i < (o :: l).length → StepC TD K ops ((o :: l).getD i default) (S i) (S (i + 1)) (val i)) ∧ κ (S (o :: l).length) = some r := by
      intro σ1 g1 g2 g3 hg h1
      obtain ⟨v, h', e1, e2⟩ := opC_det hK.law h1
      obtain ⟨p1, p2, p3⟩ := put_get { σ1 with h := h' } o.dst v
      refine fin _ v ⟨fun t => ?_, p2.trans g2, .inr ⟨σ1, g1, g3, fun κ2 => ?_, hg⟩⟩ e1
      · rw [p1 t]
        show (if o.dst = some t ∧ t < σ1.n then v else getT σ1.t t) = _
        rw [g2, g1]
      · rw [p3]; exact e2 κ2
    have skip : ∀ (g : Nat) (want : Bool) (t : Nat) (b : Bool), o.guard = some (g, want) → (ops[g]?).bind (·.dst) = some t → getT σ.t t = .bool b → (b == want) = false →
        opsC TD K ops l ((σ.put (some t) (.bool b)).put o.dst (.tup [])) κ = some r →
        ∃ (S : Nat → St) (val : Nat → V), S 0 = σ ∧ (∀ i, i < (o :: l).length → StepC TD K ops ((o :: l).getD i default) (S i) (S (i + 1)) (val i)) ∧ κ (S (o :: l).length) = some r := by
      intro g want t b e1 e2 e3 e4 hl
      obtain ⟨k1, k2, k3⟩ := put_known e3
      obtain ⟨p1, p2, p3⟩ := put_get (σ.put (some t) (.bool b)) o.dst (.tup [])
      refine fin _ (.tup []) ⟨fun u => ?_, p2.trans k2, .inl ⟨g, want, t, e1, e2, .inr ⟨b, e3, e4⟩, rfl, p3.trans k3⟩⟩ hl
      rw [p1 u, k1 u, k2]
    unfold opsC at h
    split at h
    · rename_i hg
      exact exec σ (fun _ => rfl) rfl rfl (.inl hg) h
    · rename_i g want hg
      split at h
      · rename_i t ht
        split at h
        · rename_i b hb
          obtain ⟨k1, k2, k3⟩ := put_known hb
          cases b with
          | true =>
            rw [cond_true] at h
            cases want with
            | true => exact exec _ k1 k2 k3 (.inr ⟨g, true, t, true, hg, ht, hb, rfl⟩) h
            | false => exact skip g false t true hg ht hb rfl h
          | false =>
            rw [cond_false] at h
            cases want with
            | true => exact skip g true t false hg ht hb rfl h
            | false => exact exec _ k1 k2 k3 (.inr ⟨g, false, t, false, hg, ht, hb, rfl⟩) h
        · rename_i hb
          obtain ⟨p1, p2, p3⟩ := put_get σ o.dst (.tup [])
          exact fin _ (.tup []) ⟨p1, p2, .inl ⟨g, want, t, hg, ht, .inl hb, rfl, p3⟩⟩ h
        · cases h
      · cases h

theorem mask_bit {o : Oper} {M : List Nat} {i : Nat} (h : (maskOf o M).testBit i = true) : ∃ e ∈ o.after, Region.binds .any e = true ∧ (e.on = i ∨ (M.getD e.on 0).testBit i = true) := by
  have key : ∀ (l : List Edge) (s : Nat), (l.foldl (fun s e => bif Region.binds .any e then (s ||| 2 ^ e.on) ||| M.getD e.on 0 else s) s).testBit i = true →
      s.testBit i = true ∨ ∃ e ∈ l, Region.binds .any e = true ∧ (e.on = i ∨ (M.getD e.on 0).testBit i = true) := by
    intro l
    induction l with
    | nil => intro s h; exact .inl h
    | cons e l ih =>
      intro s h
      simp only [List.foldl_cons] at h
      rcases ih _ h with h1 | ⟨e', h1, h2⟩
      · cases hb : Region.binds .any e with
        | false => rw [hb, cond_false] at h1; exact .inl h1
        | true =>
          rw [hb, cond_true, Nat.testBit_or, Nat.testBit_or, Nat.testBit_two_pow] at h1
          simp only [Bool.or_eq_true, decide_eq_true_eq] at h1
          rcases h1 with (h1 | h1) | h1
          · exact .inl h1
          · exact .inr ⟨e, by simp, hb, .inl h1⟩
          · exact .inr ⟨e, by simp, hb, .inr h1⟩
      · exact .inr ⟨e', by simp [h1], h2⟩
  rcases key o.after.toList 0 h with h1 | ⟨e, h1, h2⟩
  · simp at h1
  · exact ⟨e, by simpa using h1, h2⟩

/-- What the check of a drawn region says. -/
structure DrawD (pureF rowsF : FuncId → Bool) (ops : Array Oper) (M : List Nat) : Prop where
  mask : ∀ j o, ops[j]? = some o → M.getD j 0 = maskOf o M
  lt : ∀ j o, ops[j]? = some o → ∀ e ∈ o.after, Region.binds .any e = true → e.on < j
  pair : ∀ i j oi oj, ops[i]? = some oi → ops[j]? = some oj → i ≠ j → pairOk pureF rowsF ops M i j oi oj = true

theorem drawOk_spec {pf : FuncId → Bool × Bool} {ops : Array Oper} (h : drawOk pf ops = true) : DrawD (fun f => (pf f).1) (fun f => (pf f).2) ops (reachL ops.toList []) := by
  unfold drawOk at h
  simp only [List.all_eq_true, List.mem_range] at h
  have hj : ∀ j oj, ops[j]? = some oj → _ := fun j oj ho => by
    have := h j (Array.getElem?_eq_some_iff.1 ho).1
    rw [ho] at this
    exact this
  refine ⟨fun j o ho => ?_, fun j o ho e he hb => ?_, fun i j oi oj hi ho hne => ?_⟩
  · have := hj j o ho
    simp only [Bool.and_eq_true] at this
    exact Nat.eq_of_beq_eq_true this.1.1.1
  · have := hj j o ho
    simp only [Bool.and_eq_true, List.all_eq_true] at this
    have h2 := this.1.1.2 e (by simpa using he)
    simp [hb, Nat.blt_eq] at h2
    exact h2
  · have := hj j oj ho
    simp only [Bool.and_eq_true, List.all_eq_true, List.mem_range] at this
    have h2 := this.2 i (Array.getElem?_eq_some_iff.1 hi).1
    rw [hi] at h2
    simp only [Bool.or_eq_true] at h2
    rcases h2 with h2 | h2
    · exact absurd (Nat.eq_of_beq_eq_true h2) hne
    · exact h2

theorem free_quiet {pureF : FuncId → Bool} {op : Op} (h : heapFree op = true) : quietOp pureF op = true := by
  cases op <;> first | (simp [heapFree] at h; done) | rfl | exact h | skip
  case call c =>
    obtain ⟨callee, cargs, cats⟩ := c
    cases callee with
    | builtin b => cases b <;> first | (simp [heapFree] at h; done) | rfl
    | _ => simp [heapFree] at h

/-- A draw turns nothing. -/
def Cx.drew (c : Cx) : Cx := { c with w := { c.w with drawn := c.w.drawn + 1 } }
theorem ext_drew (c : Cx) : Ext c c.drew := ⟨rfl, rfl, rfl, rfl, Nat.le_refl _, fun _ _ _ => rfl, fun _ h => .inl h, Nat.le_refl _, fun _ _ => ⟨rfl, sameE_refl _⟩⟩
theorem rel_drew {c : Cx} (hr : Rel c) : Rel c.drew :=
  ⟨hr.one, fun i hi => (hr.ent i hi).keep (ext_drew c) hi (fun _ _ => rfl), hr.inj, hr.lt, hr.far⟩

/-- A pure function's call leaves the blocks as they are. -/
def PureOk (K : FuncId → List V → List E → (V → List E → R) → R) (pureF : FuncId → Bool) : Prop := ∀ f, pureF f = true → ∀ args h κ, K f args h κ = K f args h fun v _ => κ v h

/-- A call that writes into no row leaves the rows. -/
def KeepOk (K : FuncId → List V → List E → (V → List E → R) → R) (rowsF : FuncId → Bool) : Prop :=
  ∀ f, rowsF f = true → ∀ args h v h', K f args h (fun v h => some (v, h)) = some (v, h') → ∀ id l, getE h id = .row l → getE h' id = .row l
theorem opC_keep {rowsF : FuncId → Bool} (hw : KeepOk K rowsF) {o : Oper} (hk : keepOp rowsF o.op = true) {σ : St} {v : V} {h' : List E} (hs : ∀ κ2, opC TD K o σ κ2 = κ2 v h') :
    ∀ id l, getE σ.h id = .row l → getE h' id = .row l := by
  obtain ⟨dst, op, ty, pos, after, guard⟩ := o
  cases op <;> first | (simp [keepOp] at hk; done) | skip
  case call c =>
    obtain ⟨callee, cargs, cats⟩ := c
    cases callee with
    | value f =>
      cases f with
      | func f => exact hw f hk _ _ _ _ (hs fun v h => some (v, h))
      | _ => simp [keepOp] at hk
    | _ => simp [keepOp] at hk
theorem len_quiet {pureF : FuncId → Bool} {op : Op} (h : lenOp op = true) : quietOp pureF op = true := by
  cases op <;> first | (simp [lenOp] at h; done) | skip
  case call c =>
    obtain ⟨callee, cargs, cats⟩ := c
    cases callee with
    | builtin b => cases b <;> first | (simp [lenOp] at h; done) | rfl
    | _ => simp [lenOp] at h
theorem freeOp_quiet {pureF : FuncId → Bool} {op : Op} (h : freeOp op = true) : quietOp pureF op = true := by
  unfold freeOp at h
  rcases Bool.or_eq_true_iff.1 h with h | h
  · exact free_quiet h
  · exact len_quiet h
theorem freeOp_no {op : Op} (h : freeOp op = false) : heapFree op = false ∧ lenOp op = false := by
  unfold freeOp at h
  exact Bool.or_eq_false_iff.1 h

theorem draw_ok (hT : TyOk P TD) (hK : KOk P K) (hm : P.follows .mixedOrders = true) {pf : FuncId → Bool × Bool} (hp : PureOk K fun f => (pf f).1) (hw : KeepOk K fun f => (pf f).2) : DrawOk P TD K (drawOk pf) := by
  intro ops Q r κ c0 σ a c id hd h hE hr ht hQ
  refine wp_region_any hm ?_
  have D := drawOk_spec hd
  clear hd
  revert D hp hw
  generalize (fun f => (pf f).1) = pureF
  generalize (fun f => (pf f).2) = rowsF
  intro hp hw D
  revert D
  generalize reachL ops.toList [] = M
  intro D
  obtain ⟨S, val, hS0, hstep0, hfin⟩ := trace_of hK ops.toList σ h
  have hn : ops.toList.length = ops.size := by simp
  rw [hn] at hstep0 hfin
  have hstep : ∀ i o, ops[i]? = some o → StepC TD K ops o (S i) (S (i + 1)) (val i) := fun i o ho => by
    have hi := (Array.getElem?_eq_some_iff.1 ho).1
    have e : ops.toList.getD i default = o := by simp [List.getD, ho]
    have := hstep0 i hi
    rw [e] at this; exact this
  have hSn : ∀ i, i ≤ ops.size → (S i).n = σ.n := by
    intro i
    induction i with
    | zero => intro _; rw [hS0]
    | succ i ih =>
      intro hi
      have ho : ops[i]? = some ops[i] := by simp
      exact (hstep i _ ho).2.1.trans (ih (by omega))
  -- what is written before
  have hT0 : ∀ i, i ≤ ops.size → ∀ t, (∃ i' o', i' < i ∧ ops[i']? = some o' ∧ o'.dst = some t ∧ t < σ.n ∧ getT (S i).t t = val i') ∨
      ((∀ i' o', i' < i → ops[i']? = some o' → o'.dst = some t → ¬ t < σ.n) ∧ getT (S i).t t = getT σ.t t) := by
    intro i
    induction i with
    | zero => intro _ t; exact .inr ⟨fun i' o' h => by omega, by rw [hS0]⟩
    | succ i ih =>
      intro hi t
      have ho : ops[i]? = some ops[i] := by simp
      have hs := (hstep i _ ho).1 t
      rw [hSn i (by omega)] at hs
      by_cases hw : ops[i].dst = some t ∧ t < σ.n
      · rw [if_pos hw] at hs
        exact .inl ⟨i, _, by omega, ho, hw.1, hw.2, hs⟩
      · rw [if_neg hw] at hs
        rcases ih (by omega) t with ⟨i', o', h1, h2, h3, h4, h5⟩ | ⟨h1, h2⟩
        · exact .inl ⟨i', o', by omega, h2, h3, h4, hs.trans h5⟩
        · refine .inr ⟨fun i' o' hlt h3 h4 h5 => ?_, hs.trans h2⟩
          rcases Nat.lt_or_ge i' i with h6 | h6
          · exact h1 i' o' h6 h3 h4 h5
          · obtain rfl : i' = i := by omega
            rw [ho] at h3; cases h3
            exact hw ⟨h4, h5⟩
  -- quiet operations leave the blocks
  have hquiet : ∀ i o, ops[i]? = some o → quietOp pureF o.op = true → (S (i + 1)).h = (S i).h := by
    intro i o ho hq
    rcases (hstep i o ho).2.2 with ⟨g, want, t, _, _, _, _, h1⟩ | ⟨σ1, h1, h2, h3, _⟩
    · exact h1
    · have e1 := h3 (fun v h => some (v, h))
      have e2 := h3 (fun v _ => some (v, σ1.h))
      rw [opC_quiet hp hq] at e1
      rw [e2] at e1
      have : σ1.h = (S (i + 1)).h := by injection e1 with e; injection e
      rw [← this, h2]
  have hconst : ∀ q, q ≤ ops.size → ∀ p, p ≤ q → (∀ e o, p ≤ e → e < q → ops[e]? = some o → quietOp pureF o.op = true) → (S q).h = (S p).h := by
    intro q
    induction q with
    | zero => intro _ p hpq _; obtain rfl : p = 0 := by omega
              rfl
    | succ q ih =>
      intro hq p hpq hall
      rcases Nat.lt_or_ge q p with h1 | h1
      · obtain rfl : p = q + 1 := by omega
        rfl
      · have ho : ops[q]? = some ops[q] := by simp
        rw [hquiet q _ ho (hall q _ h1 (by omega) ho)]
        exact ih (by omega) p h1 (fun e o a1 a2 => hall e o a1 (by omega))
  -- the invariant
  let Inv : Array Bool → Act → Cx → Prop := fun L a c =>
    Ext c0 c ∧ Rel c ∧ a.tmps.size = σ.n ∧ a.defers = [] ∧ L.size = ops.size ∧
    (∀ j o, ops[j]? = some o → L.getD j false = true → ∀ e ∈ o.after, Region.binds .any e = true → L.getD e.on false = true) ∧
    (∀ t j o, ops[j]? = some o → o.dst = some t → t < σ.n → L.getD j false = true → VR c (val j) (a.tmps.getD t undef)) ∧
    (∀ t, (∀ j o, ops[j]? = some o → o.dst = some t → t < σ.n → L.getD j false = false) → VR c (getT σ.t t) (a.tmps.getD t undef)) ∧
    ∃ k, k ≤ ops.size ∧ c.h = (S k).h ∧ ∀ e o, ops[e]? = some o → quietOp pureF o.op = false → (L.getD e false = true ↔ e < k)
  -- what lies ahead is listed
  have hclose : ∀ (L : Array Bool), (∀ j o, ops[j]? = some o → L.getD j false = true → ∀ e ∈ o.after, Region.binds .any e = true → L.getD e.on false = true) →
      ∀ j o, ops[j]? = some o → (∀ e ∈ o.after, Region.binds .any e = true → L.getD e.on false = true) → ∀ i, (M.getD j 0).testBit i = true → L.getD i false = true := by
    intro L hdown j
    induction j using Nat.strongRecOn with
    | _ j ih =>
      intro o ho hpre i hi
      rw [D.mask j o ho] at hi
      obtain ⟨e, he, hb, h1⟩ := mask_bit hi
      have hl := hpre e he hb
      rcases h1 with rfl | h1
      · exact hl
      · have hlt := D.lt j o ho e he hb
        have hjs := (Array.getElem?_eq_some_iff.1 ho).1
        have ho' : ops[e.on]? = some ops[e.on] := by simp
        exact ih e.on hlt _ ho' (hdown e.on _ ho' hl) i h1
  -- all listed
  have hend : ∀ L a c, Inv L a c → (∀ j, j < ops.size → L.getD j false = true) → Q .normal a c.w := by
    rintro L a c ⟨i1, i2, i3, i4, i5, i6, i7, i8, k, k1, k2, k3⟩ hall
    have hk : (S ops.size).h = (S k).h := hconst ops.size (Nat.le_refl _) k k1 (fun e o a1 a2 ho => by
      cases hq : quietOp pureF o.op with
      | true => rfl
      | false => have := (k3 e o ho hq).1 (hall e a2); omega)
    refine hQ (S ops.size) c a hfin i1 i2 ⟨i3.trans (hSn _ (Nat.le_refl _)).symm, i4, hk.trans k2.symm, fun t => ?_⟩
    rcases hT0 ops.size (Nat.le_refl _) t with ⟨i', o', h1, h2, h3, h4, h5⟩ | ⟨h1, h2⟩
    · rw [h5]; exact i7 t i' o' h2 h3 h4 (hall i' h1)
    · rw [h2]
      exact i8 t (fun j o ho hdst hlt => absurd hlt (h1 j o (Array.getElem?_eq_some_iff.1 ho).1 ho hdst))
  -- one step
  have hone : ∀ L a c, Inv L a c → ∀ i, i ∈ Region.ready .any ops L → ∀ (N : Act → World → Prop), (∀ a' c', Inv (L.setIfInBounds i true) a' c' → N a' c'.w) → wpOp P ops Q i N a c.w := by
    rintro L a c ⟨i1, i2, i3, i4, i5, i6, i7, i8, k, k1, k2, k3⟩ i hi N hN
    obtain ⟨hun, o, ho, hpre⟩ := mem_ready.1 hi
    have hlt : i < ops.size := (Array.getElem?_eq_some_iff.1 ho).1
    have hun' : L.getD i false = false := by
      have : i < L.size := by omega
      simp [this] at hun ⊢; exact hun
    -- what i looks at
    have hahead : ∀ j, (M.getD i 0).testBit j = true → L.getD j false = true := hclose L i6 i o ho hpre
    have hbehind : ∀ j oj, ops[j]? = some oj → (M.getD j 0).testBit i = true → L.getD j false = false := fun j oj hoj hb => by
      cases hl : L.getD j false with
      | false => rfl
      | true =>
        have := hclose L i6 j oj hoj (i6 j oj hoj hl) i hb
        rw [hun'] at this; cases this
    have hlook : ∀ t, t ∈ o.looksAt ops → VR c (getT (S i).t t) (a.tmps.getD t undef) := by
      intro t htl
      have hpl : ∀ j oj, ops[j]? = some oj → j ≠ i → oj.dst = some t → before_ M j i = true := fun j oj hoj hne hdst => by
        have := D.pair j i oj o hoj ho hne
        simp only [pairOk, Bool.and_eq_true] at this
        have h2 := this.1.2
        rw [hdst] at h2
        have h3 : (o.looksAt ops).any (Nat.beq t) = true := any_beq.2 htl
        simp only [h3, cond_true] at h2
        exact h2
      rcases hT0 i (by omega) t with ⟨j, oj, h1, h2, h3, h4, h5⟩ | ⟨h1, h2⟩
      · rw [h5]
        refine i7 t j oj h2 h3 h4 (hahead j ?_)
        have hb := hpl j oj h2 (by omega) h3
        have hjl : Nat.blt j i = true := by simpa [Nat.blt_eq] using h1
        simpa [before_, hjl] using hb
      · rw [h2]
        refine i8 t (fun j oj hoj hdst htn => ?_)
        rcases Nat.lt_trichotomy j i with h6 | h6 | h6
        · exact absurd htn (h1 j oj h6 hoj hdst)
        · subst h6; exact hun'
        · have hb := hpl j oj hoj (by omega) hdst
          have hjl : Nat.blt j i = false := by
            cases hx : Nat.blt j i with
            | false => rfl
            | true => rw [Nat.blt_eq] at hx; omega
          simp only [before_, hjl, cond_false] at hb
          exact hbehind j oj hoj hb
    let σL : St := { n := σ.n, t := (o.looksAt ops).map fun t => (t, getT (S i).t t), h := c.h }
    have hL : RelT c σL a := ⟨i3, i4, rfl, fun t => by
      show VR c (getT ((o.looksAt ops).map fun t => (t, getT (S i).t t)) t) _
      rw [getT_live (fun t => getT (S i).t t)]
      split
      · rename_i hm; exact hlook t hm
      · exact trivial⟩
    have hLget : ∀ t, t ∈ o.looksAt ops → getT σL.t t = getT (S i).t t := fun t htl => by
      show getT ((o.looksAt ops).map fun t => (t, getT (S i).t t)) t = _
      rw [getT_live (fun t => getT (S i).t t), if_pos htl]
    -- the blocks at i
    have hheap : freeOp o.op = false → c.h = (S i).h := by
      intro hf
      rw [k2]
      have hpair : ∀ e oe, ops[e]? = some oe → e ≠ i → quietOp pureF oe.op = false → before_ M e i = true := fun e oe hoe hne hq => by
        have := D.pair e i oe o hoe ho hne
        simp only [pairOk, Bool.and_eq_true] at this
        have h2 := this.2
        have hfe : freeOp oe.op = false := by
          cases hx : freeOp oe.op with
          | false => rfl
          | true => rw [freeOp_quiet hx] at hq; cases hq
        obtain ⟨a1, a2⟩ := freeOp_no hf
        obtain ⟨b1, b2⟩ := freeOp_no hfe
        simp only [hq, a1, b1, lenKeep, a2, b2, Bool.false_and, Bool.and_false, Bool.or_self, cond_false] at h2
        exact h2
      rcases Nat.lt_or_ge i k with hik | hik
      · refine hconst k k1 i (by omega) (fun e oe a1 a2 hoe => ?_)
        cases hq : quietOp pureF oe.op with
        | true => rfl
        | false =>
          exfalso
          have hle := (k3 e oe hoe hq).2 a2
          rcases Nat.lt_or_ge i e with h6 | h6
          · have hb := hpair e oe hoe (by omega) hq
            have hjl : Nat.blt e i = false := by
              cases hx : Nat.blt e i with
              | false => rfl
              | true => rw [Nat.blt_eq] at hx; omega
            simp only [before_, hjl, cond_false] at hb
            rw [hbehind e oe hoe hb] at hle; cases hle
          · obtain rfl : e = i := by omega
            rw [hun'] at hle; cases hle
      · refine (hconst i (by omega) k hik (fun e oe a1 a2 hoe => ?_)).symm
        cases hq : quietOp pureF oe.op with
        | true => rfl
        | false =>
          exfalso
          have hb := hpair e oe hoe (by omega) hq
          have hjl : Nat.blt e i = true := by simpa [Nat.blt_eq] using a2
          simp only [before_, hjl, cond_true] at hb
          have := (k3 e oe hoe hq).1 (hahead e hb)
          omega
    -- the rows at i
    have hrows : lenOp o.op = true → ∀ id l, getE (S i).h id = .row l → getE c.h id = .row l := by
      intro hlo
      rw [k2]
      have hqo : quietOp pureF o.op = true := len_quiet hlo
      have hpair : ∀ e oe, ops[e]? = some oe → e ≠ i → quietOp pureF oe.op = false → (i < e ∧ keepOp rowsF oe.op = true) ∨ before_ M e i = true := fun e oe hoe hne hq => by
        have := D.pair e i oe o hoe ho hne
        simp only [pairOk, Bool.and_eq_true] at this
        have h2 := this.2
        have hfe : freeOp oe.op = false := by
          cases hx : freeOp oe.op with
          | false => rfl
          | true => rw [freeOp_quiet hx] at hq; cases hq
        obtain ⟨b1, b2⟩ := freeOp_no hfe
        have a1 : heapFree o.op = false := by
          cases hx : heapFree o.op with
          | false => rfl
          | true =>
            exfalso
            revert hlo hx
            cases o.op <;> first | (intro hlo; simp [lenOp] at hlo; done) | skip
            case call cc =>
              obtain ⟨callee, cargs, cats⟩ := cc
              cases callee with
              | builtin b => cases b <;> first | (intro hlo; simp [lenOp] at hlo; done) | (intro _ hx; simp [heapFree] at hx)
              | _ => intro hlo; simp [lenOp] at hlo
        simp only [hq, a1, b1, lenKeep, hlo, b2, Bool.false_and, Bool.and_false, Bool.false_or, Bool.or_false, Bool.and_true] at h2
        cases hk : keepOp rowsF oe.op with
        | false => right; rw [hk, Bool.and_false, cond_false] at h2; exact h2
        | true =>
          cases hb : Nat.blt i e with
          | false => right; rw [hb, Bool.false_and, cond_false] at h2; exact h2
          | true => left; exact ⟨by simpa [Nat.blt_eq] using hb, rfl⟩
      rcases Nat.lt_or_ge i k with hik | hik
      · have step : ∀ q, i ≤ q → q ≤ k → ∀ id l, getE (S i).h id = .row l → getE (S q).h id = .row l := by
          intro q
          induction q with
          | zero => intro h1 _ id l hg; obtain rfl : i = 0 := by omega
                    exact hg
          | succ q ih =>
            intro h1 h2 id l hg
            rcases Nat.lt_or_ge q i with h3 | h3
            · obtain rfl : i = q + 1 := by omega
              exact hg
            have hprev := ih h3 (by omega) id l hg
            have hoe : ops[q]? = some ops[q] := by simp
            cases hq : quietOp pureF (ops[q]).op with
            | true => rw [hquiet q _ hoe hq]; exact hprev
            | false =>
              have hne : q ≠ i := fun e => by
                subst e
                rw [ho] at hoe; injection hoe with hoe
                rw [← hoe, hqo] at hq; cases hq
              rcases hpair q _ hoe hne hq with ⟨_, hk⟩ | hb
              · rcases (hstep q _ hoe).2.2 with ⟨_, _, _, _, _, _, _, s6⟩ | ⟨σ1, _, s2, s3, _⟩
                · rw [s6]; exact hprev
                · exact opC_keep hw hk s3 id l (by rw [s2]; exact hprev)
              · exfalso
                have hle := (k3 q _ hoe hq).2 (by omega)
                have hjl : Nat.blt q i = false := by
                  cases hx : Nat.blt q i with
                  | false => rfl
                  | true => rw [Nat.blt_eq] at hx; omega
                simp only [before_, hjl, cond_false] at hb
                rw [hbehind q _ hoe hb] at hle; cases hle
        exact step k (by omega) (Nat.le_refl _)
      · have e : (S i).h = (S k).h := hconst i (by omega) k hik (fun e oe a1 a2 hoe => by
          cases hq : quietOp pureF oe.op with
          | true => rfl
          | false =>
            exfalso
            rcases hpair e oe hoe (by omega) hq with ⟨h6, _⟩ | hb
            · omega
            · have hjl : Nat.blt e i = true := by simpa [Nat.blt_eq] using a2
              simp only [before_, hjl, cond_true] at hb
              have := (k3 e oe hoe hq).1 (hahead e hb)
              omega)
        intro id l hg
        rw [← e]; exact hg
    -- the state behind i
    have hnext : ∀ (x : Value) (c' : Cx), Ext c c' → Rel c' → VR c' (val i) x → (freeOp o.op = true → c'.h = c.h) → (freeOp o.op = false → c'.h = (S (i + 1)).h) → Inv (L.setIfInBounds i true) (a.put o.dst x) c' := by
      intro x c' e1 e2 e3 e4 e5
      have hiL : i < L.size := by omega
      have hset : ∀ j, (L.setIfInBounds i true).getD j false = if j = i then true else L.getD j false := fun j => by
        by_cases hj : j = i
        · subst hj; simp [hiL]
        · have : ¬ i = j := fun e => hj e.symm
          simp [hj, Array.getElem?_setIfInBounds_ne this]
      have hdst : ∀ j oj t, ops[j]? = some oj → j ≠ i → oj.dst = some t → o.dst ≠ some t := fun j oj t hoj hne h1 h2 => by
        have := D.pair j i oj o hoj ho hne
        simp only [pairOk, Bool.and_eq_true] at this
        have h3 := this.1.1
        rw [h1, h2] at h3
        simp [nbeq_self] at h3
      have hput : ∀ t, o.dst ≠ some t → (a.put o.dst x).tmps.getD t undef = a.tmps.getD t undef := fun t hne => by
        cases hd : o.dst with
        | none => rfl
        | some d =>
          have : d ≠ t := fun e => hne (by rw [hd, e])
          simp [Act.put, Array.getElem?_setIfInBounds_ne this]
      have hsz : (a.put o.dst x).tmps.size = σ.n := by cases hd : o.dst <;> simp [Act.put, i3]
      have hdf : (a.put o.dst x).defers = [] := by cases hd : o.dst <;> simp [Act.put, i4]
      refine ⟨i1.trans e1, e2, hsz, hdf, by simpa using i5, fun j oj hoj hl e he hb => ?_, fun t j oj hoj hdj htn hl => ?_, fun t hall => ?_, ?_⟩
      · rw [hset]
        by_cases h1 : e.on = i
        · rw [if_pos h1]
        · rw [if_neg h1]
          rw [hset] at hl
          by_cases h2 : j = i
          · subst h2
            rw [ho] at hoj; cases hoj
            exact hpre e he hb
          · rw [if_neg h2] at hl; exact i6 j oj hoj hl e he hb
      · rw [hset] at hl
        by_cases h2 : j = i
        · subst h2
          rw [ho] at hoj; cases hoj
          have hlt' : t < a.tmps.size := by omega
          have : (a.put o.dst x).tmps.getD t undef = x := by rw [hdj]; simp [Act.put, hlt']
          rw [this]; exact e3
        · rw [if_neg h2] at hl
          rw [hput t (hdst j oj t hoj h2 hdj)]
          exact e1.vr (i7 t j oj hoj hdj htn hl)
      · have h3 : ¬ (o.dst = some t ∧ t < σ.n) := fun ⟨h4, h5⟩ => by
          have := hall i o ho h4 h5
          rw [hset, if_pos rfl] at this; cases this
        have hsame : (a.put o.dst x).tmps.getD t undef = a.tmps.getD t undef := by
          by_cases h4 : o.dst = some t
          · have h5 : a.tmps.size ≤ t := by
              rcases Nat.lt_or_ge t σ.n with h6 | h6
              · exact absurd ⟨h4, h6⟩ h3
              · omega
            rw [h4]
            simp [Act.put, Array.setIfInBounds_eq_of_size_le h5]
          · exact hput t h4
        rw [hsame]
        refine e1.vr (i8 t (fun j oj hoj h4 h5 => ?_))
        have := hall j oj hoj h4 h5
        rw [hset] at this
        by_cases h2 : j = i
        · rw [if_pos h2] at this; cases this
        · rw [if_neg h2] at this; exact this
      · cases hq : quietOp pureF o.op with
        | true =>
          refine ⟨k, k1, ?_, fun e oe hoe hqe => ?_⟩
          · cases hf : freeOp o.op with
            | true => rw [e4 hf]; exact k2
            | false => rw [e5 hf, hquiet i o ho hq, ← hheap hf]; exact k2
          · rw [hset]
            by_cases h2 : e = i
            · subst h2
              rw [ho] at hoe; cases hoe
              rw [hq] at hqe; cases hqe
            · rw [if_neg h2]; exact k3 e oe hoe hqe
        | false =>
          have hf : freeOp o.op = false := by
            cases hx : freeOp o.op with
            | false => rfl
            | true => rw [freeOp_quiet hx] at hq; cases hq
          refine ⟨i + 1, by omega, e5 hf, fun e oe hoe hqe => ?_⟩
          rw [hset]
          by_cases h2 : e = i
          · subst h2; simp
          · rw [if_neg h2]
            have hfe : freeOp oe.op = false := by
              cases hx : freeOp oe.op with
              | false => rfl
              | true => rw [freeOp_quiet hx] at hqe; cases hqe
            obtain ⟨a1, a2⟩ := freeOp_no hf
            obtain ⟨b1, b2⟩ := freeOp_no hfe
            have hb : before_ M e i = true := by
              have := D.pair e i oe o hoe ho h2
              simp only [pairOk, Bool.and_eq_true] at this
              have h3 := this.2
              simp only [hq, hqe, a1, b1, lenKeep, a2, b2, Bool.false_and, Bool.and_false, Bool.or_self, cond_false] at h3
              exact h3
            rcases Nat.lt_or_ge e i with h6 | h6
            · have hjl : Nat.blt e i = true := by simpa [Nat.blt_eq] using h6
              simp only [before_, hjl, cond_true] at hb
              exact ⟨fun _ => by omega, fun _ => hahead e hb⟩
            · have hjl : Nat.blt e i = false := by
                cases hx : Nat.blt e i with
                | false => rfl
                | true => rw [Nat.blt_eq] at hx; omega
              simp only [before_, hjl, cond_false] at hb
              rw [hbehind e oe hoe hb]
              exact ⟨fun h => (by cases h), fun h => (by omega)⟩
    unfold wpOp
    simp only [ho]
    have hlookg : ∀ g want t, o.guard = some (g, want) → (ops[g]?).bind (·.dst) = some t → t ∈ o.looksAt ops := fun g want t h1 h2 => by
      unfold Oper.looksAt
      rw [h1]
      simp [h2]
    rcases (hstep i o ho).2.2 with ⟨g, want, t, s1, s2, s3, s5, s6⟩ | ⟨σ1, s1, s2, s3, s4⟩
    · -- passed by
      have hw : Region.wanted o (yielded ops a.tmps) = false := by
        rcases s3 with s3 | ⟨b, s3, s4⟩
        · exact guard_no hL s1 s2 (by rw [hLget t (hlookg g want t s1 s2)]; exact s3)
        · exact (guard_ok hL s1 s2 (by rw [hLget t (hlookg g want t s1 s2)]; exact s3)).trans s4
      rw [hw, if_neg (by decide)]
      refine hN _ c (hnext undef c (Ext.refl c) i2 (by rw [s5]; exact vr_undef) (fun _ => rfl) (fun hf => ?_))
      rw [s6]; exact hheap hf
    · -- carried out
      have hw : Region.wanted o (yielded ops a.tmps) = true := by
        rcases s4 with s4 | ⟨g, want, t, b, q1, q2, q3, q4⟩
        · unfold Region.wanted; rw [s4]
        · rw [guard_ok hL q1 q2 (by rw [hLget t (hlookg g want t q1 q2)]; exact q3)]; exact q4
      rw [hw, if_pos rfl]
      left
      have hev : ∀ x ∈ o.op.operands, σL.ev x = σ1.ev x := fun x hx => by
        cases x with
        | tmp t =>
          have htl : t ∈ o.looksAt ops := List.mem_append_left _ (List.mem_filterMap.2 ⟨.tmp t, by simpa using hx, rfl⟩)
          show getT σL.t t = getT σ1.t t
          rw [hLget t htl, s1 t]
        | _ => rfl
      cases hf : freeOp o.op with
      | false =>
        have hh : σL.h = σ1.h := by rw [s2]; exact hheap hf
        have hop : ∀ κ2, opC TD K o σL κ2 = κ2 (val i) (S (i + 1)).h := fun κ2 => (opC_congr hh hev).trans (s3 κ2)
        classical
        refine opC_wp hT hK (r := (val i, (S (i + 1)).h)) (κ := fun v h => if v = val i ∧ h = (S (i + 1)).h then some (val i, (S (i + 1)).h) else none) ((hop _).trans (by simp)) i2 hL (fun v c' x hk e1 e2 e3 => ?_)
        split at hk
        · rename_i hv
          obtain ⟨hv1, hv2⟩ := hv
          subst hv1
          exact hN _ c' (hnext x c' e1 e2 e3 (fun h => by rw [hf] at h; cases h) (fun _ => hv2))
        · cases hk
      | true =>
        have hop : ∀ κ2, opC TD K o σL κ2 = κ2 (val i) c.h := fun κ2 => by
          cases hh : heapFree o.op with
          | true =>
            rw [opC_free hh (S i).h]
            have hc := opC_congr (TD := TD) (K := K) (o := o) (σ := { σL with h := (S i).h }) (σ' := σ1) (κ := fun v _ => κ2 v σL.h) s2.symm hev
            rw [hc, s3]
          | false =>
            have hlo : lenOp o.op = true := by simpa [freeOp, hh] using hf
            have hs : opC TD K o { σL with h := (S i).h } (fun v h => some (v, h)) = some (val i, (S (i + 1)).h) :=
              (opC_congr (TD := TD) (K := K) (o := o) (σ := { σL with h := (S i).h }) (σ' := σ1) s2.symm hev).trans (s3 _)
            exact opC_len (σ := { σL with h := (S i).h }) hlo (h2 := c.h) (hrows hlo) hs κ2
        classical
        refine opC_wp hT hK (r := (val i, c.h)) (κ := fun v h => if v = val i ∧ h = c.h then some (val i, c.h) else none) ((hop _).trans (by simp)) i2 hL (fun v c' x hk e1 e2 e3 => ?_)
        split at hk
        · rename_i hv
          obtain ⟨hv1, hv2⟩ := hv
          subst hv1
          exact hN _ c' (hnext x c' e1 e2 e3 (fun _ => hv2) (fun h => by rw [hf] at h; cases h))
        · cases hk
  -- all orders
  have hnone : ∀ (L : Array Bool), L.size = ops.size → Region.ready .any ops L = [] → ∀ j, j < ops.size → L.getD j false = true := by
    intro L hLs hre j
    induction j using Nat.strongRecOn with
    | _ j ih =>
      intro hj
      cases hl : L.getD j false with
      | true => rfl
      | false =>
        exfalso
        have ho : ops[j]? = some ops[j] := by simp
        have : j ∈ Region.ready .any ops L := by
          refine mem_ready.2 ⟨?_, _, ho, fun e he hb => ?_⟩
          · have : j < L.size := by omega
            simp [this] at hl ⊢; exact hl
          · have hlt := D.lt j _ ho e he hb
            exact ih e.on hlt (by omega)
        rw [hre] at this; cases this
  have hall : ∀ (fuel : Nat) (L : Array Bool) (a : Act) (c : Cx), Inv L a c → ((List.range ops.size).filter fun j => !L.getD j false).length ≤ fuel → wpAny P .any ops Q fuel L a c.w := by
    intro fuel
    induction fuel with
    | zero =>
      intro L a c hI hc
      have hall : ∀ j, j < ops.size → L.getD j false = true := fun j hj => by
        have h0 : (List.range ops.size).filter (fun j => !L.getD j false) = [] := List.eq_nil_of_length_eq_zero (by omega)
        rw [List.filter_eq_nil_iff] at h0
        have := h0 j (List.mem_range.2 hj)
        simpa using this
      refine ⟨?_, hend L a c hI hall⟩
      cases hre : Region.ready .any ops L with
      | nil => rfl
      | cons i rs =>
        have hi : i ∈ Region.ready .any ops L := by rw [hre]; simp
        obtain ⟨h1, o, ho, _⟩ := mem_ready.1 hi
        have hlt := (Array.getElem?_eq_some_iff.1 ho).1
        have h2 := hall i hlt
        have h3 : i < L.size := by have := hI.2.2.2.2.1; omega
        simp [h3] at h1 h2
        rw [h2] at h1; cases h1
    | succ fuel ih =>
      intro L a c hI hc
      have hLs := hI.2.2.2.2.1
      refine ⟨fun hre => hend L a c hI (hnone L hLs hre), fun i hi => ?_⟩
      refine hone L a c hI i hi _ (fun a' c' hI' => ih _ a' c' hI' ?_)
      obtain ⟨h1, o, ho, _⟩ := mem_ready.1 hi
      have hlt := (Array.getElem?_eq_some_iff.1 ho).1
      have h3 : i < L.size := by omega
      have hun : L.getD i false = false := by simp [h3] at h1 ⊢; exact h1
      have hset : ∀ j, (L.setIfInBounds i true).getD j false = if j = i then true else L.getD j false := fun j => by
        by_cases hj : j = i
        · subst hj; simp [h3]
        · have : ¬ i = j := fun e => hj e.symm
          simp [hj, Array.getElem?_setIfInBounds_ne this]
      have hf : (List.range ops.size).filter (fun j => !(L.setIfInBounds i true).getD j false) = ((List.range ops.size).filter fun j => !L.getD j false).filter fun j => !(Nat.beq j i) := by
        rw [List.filter_filter]
        refine List.filter_congr (fun j _ => ?_)
        rw [hset]
        by_cases hj : j = i
        · subst hj; simp [nbeq_self]
        · simp [hj, nbeq_ne hj]
      rw [hf]
      have : (((List.range ops.size).filter fun j => !L.getD j false).filter fun j => !(Nat.beq j i)).length < ((List.range ops.size).filter fun j => !L.getD j false).length := by
        rw [List.length_filter_lt_length_iff_exists]
        exact ⟨i, List.mem_filter.2 ⟨List.mem_range.2 hlt, by rw [hun]; rfl⟩, by simp [nbeq_self]⟩
      omega
  have hI0 : Inv (Array.replicate ops.size false) a c := by
    refine ⟨hE, hr, ht.size, ht.defers, by simp, fun j o ho hl => ?_, fun t j o ho hdj htn hl => ?_, fun t _ => ht.t t, 0, Nat.zero_le _, ?_, fun e o ho hq => ?_⟩
    · have := (Array.getElem?_eq_some_iff.1 ho).1
      simp [this] at hl
    · have := (Array.getElem?_eq_some_iff.1 ho).1
      simp [this] at hl
    · rw [hS0]; exact ht.h.symm
    · have := (Array.getElem?_eq_some_iff.1 ho).1
      simp [this]
  have hIw : Inv (Array.replicate ops.size false) a c.drew := by
    obtain ⟨j1, j2, j3, j4, j5, j6, j7, j8, j9⟩ := hI0
    exact ⟨j1.trans (ext_drew c), rel_drew j2, j3, j4, j5, j6, fun t j o a1 a2 a3 a4 => (ext_drew c).vr (j7 t j o a1 a2 a3 a4), fun t h => (ext_drew c).vr (j8 t h), j9⟩
  refine hall ops.size _ a _ hIw ?_
  exact Nat.le_trans (List.length_filter_le _ _) (by simp)
end

end Go.Proofs.Ytonbbeplmjidnaa.D
