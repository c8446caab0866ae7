/- Several texts in one: Draw3, Twin, Law, Nice, Lib, Bits, Net, First, Log, For, Sum, Watch, Wat2, Fix. Conditions: those of each theorem. -/
import Derived.Test.YtgpgifpblchjjaaBza2
import Derived.KernelRfl
import Derived.Below
import Derived.OpenShut
import Derived.IntWalk
import Derived.WalkKit
import Derived.ProofKit
import Derived.Test.YtgpgifpblchjjaaBza0
/- Regions whose order is drawn, in which blocks are added in any order. Conditions: those of each theorem. -/
namespace Go.Proofs.Ytgpgifpblchjjaa.D
open Go.RowKit
set_option linter.unusedVariables false
set_option linter.unusedSimpArgs false

theorem ids_all {v : V} {id : Nat} (h : id ∈ v.ids) : id ∈ v.all := by
  cases v <;> first | exact h | cases h
theorem mp0_ids {f : Nat → Nat} {v : V} {id : Nat} (h : id ∈ v.ids0) : f id ∈ (v.mp0 f).ids0 := by
  cases v <;> simp [V.ids0] at h <;> simp [V.mp0, V.ids0, h]
theorem mp1_ids {f : Nat → Nat} {v : V} {id : Nat} (h : id ∈ v.ids) : f id ∈ (v.mp1 f).ids := by
  cases v with
  | agg vs =>
    simp only [V.ids, List.mem_flatMap] at h
    obtain ⟨u, hu, hid⟩ := h
    simp only [V.mp1, V.ids, List.mem_flatMap, List.mem_map]
    exact ⟨_, ⟨u, hu, rfl⟩, mp0_ids hid⟩
  | own id => exact mp0_ids (v := .own id) h
  | sub id o n => exact mp0_ids (v := .sub id o n) h
  | ptr id o => exact mp0_ids (v := .ptr id o) h
  | elt id o n i => exact mp0_ids (v := .elt id o n i) h
  | _ => cases h
theorem mp_all {f : Nat → Nat} {v : V} {id : Nat} (h : id ∈ v.all) : f id ∈ (v.mpT f).all := by
  cases v with
  | tup vs =>
    simp only [V.all, List.mem_flatMap] at h
    obtain ⟨u, hu, hid⟩ := h
    simp only [V.mpT, V.all, List.mem_flatMap, List.mem_map]
    exact ⟨_, ⟨u, hu, rfl⟩, mp1_ids hid⟩
  | agg vs => exact mp1_ids (v := .agg vs) h
  | own id => exact mp0_ids (v := .own id) h
  | sub id o n => exact mp0_ids (v := .sub id o n) h
  | ptr id o => exact mp0_ids (v := .ptr id o) h
  | elt id o n i => exact mp0_ids (v := .elt id o n i) h
  | _ => cases h
theorem mpE_ids {f : Nat → Nat} {e : E} {id : Nat} (h : id ∈ e.ids) : f id ∈ (e.mp f).ids := by
  cases e with
  | cells vs =>
    simp only [E.ids, List.mem_flatMap] at h
    obtain ⟨u, hu, hid⟩ := h
    simp only [E.mp, E.ids, List.mem_flatMap, List.mem_map]
    exact ⟨_, ⟨u, hu, rfl⟩, mp0_ids hid⟩
  | _ => cases h
theorem mp0_congr {f g : Nat → Nat} {v : V} (h : ∀ id ∈ v.ids0, f id = g id) : v.mp0 f = v.mp0 g := by
  cases v <;> first | rfl | (simp [V.ids0] at h; simp [V.mp0, h])
theorem mp1_congr {f g : Nat → Nat} {v : V} (h : ∀ id ∈ v.ids, f id = g id) : v.mp1 f = v.mp1 g := by
  cases v with
  | agg vs =>
    simp only [V.mp1]
    congr 1
    exact List.map_congr_left (fun v hv => mp0_congr (fun id hid => h id (by simp only [V.ids, List.mem_flatMap]; exact ⟨v, hv, hid⟩)))
  | own id => exact mp0_congr (v := .own id) h
  | sub id o n => exact mp0_congr (v := .sub id o n) h
  | ptr id o => exact mp0_congr (v := .ptr id o) h
  | elt id o n i => exact mp0_congr (v := .elt id o n i) h
  | _ => rfl
theorem mp_congr {f g : Nat → Nat} {v : V} (h : ∀ id ∈ v.all, f id = g id) : v.mpT f = v.mpT g := by
  cases v with
  | tup vs =>
    simp only [V.mpT]
    congr 1
    exact List.map_congr_left (fun v hv => mp1_congr (fun id hid => h id (by simp only [V.all, List.mem_flatMap]; exact ⟨v, hv, hid⟩)))
  | agg vs => exact mp1_congr (v := .agg vs) h
  | own id => exact mp0_congr (v := .own id) h
  | sub id o n => exact mp0_congr (v := .sub id o n) h
  | ptr id o => exact mp0_congr (v := .ptr id o) h
  | elt id o n i => exact mp0_congr (v := .elt id o n i) h
  | _ => rfl
theorem ofConst_all (v : Value) : (ofConst v).all = [] := by
  unfold ofConst
  split <;> first | rfl | (split <;> rfl)
theorem ext_getE {h h2 : List E} (hl : h.length = h2.length) (he : ∀ p, p < h.length → getE h p = getE h2 p) : h = h2 := by
  apply List.ext_getElem hl
  intro i h1 h2'
  have := he i h1
  simpa [getE, List.getD, h1, h2'] using this

/-- New blocks go where they belong: nothing else turns. -/
theorem reloc {c c' : Cx} {x : Value} (hE : Ext c c') (hr : Rel c') {M a m : Nat} (ha : a + m ≤ M) (hM : c.h.length = M) (hM' : c'.h.length = M + m)
    {h h' : List E} {v : V} {wr : List Nat} (vnf : v.mpT (fun p => p) = v) (vids : ∀ id ∈ v.all, id ∈ wr ∨ a ≤ id) (wlt : ∀ p ∈ wr, p < a)
    (new : ∀ p, a ≤ p → ∀ id ∈ (getE h' p).ids, id ∈ wr ∨ a ≤ id) (enf : ∀ p, a ≤ p → (getE h' p).mp (fun p => p) = getE h' p)
    (r1 : ∀ p, p < a → (getE h' p = getE h p ∧ getE c'.h p = getE c.h p) ∨ (p ∈ wr ∧ (∀ id ∈ (getE h' p).ids, id ∈ wr ∨ a ≤ id) ∧ (getE h' p).mp (fun p => p) = getE h' p ∧ getE c'.h p = (getE h' p).mp (upN a M)))
    (r2 : ∀ p, a ≤ p → p < M → getE c'.h p = getE c.h p) (r3 : ∀ t, getE c'.h (M + t) = (getE h' (a + t)).mp (upN a M))
    (hv : VR c' (v.mpT (upN a M)) x) {cre : Nat → Prop} (hcre : ∀ p, cre p → p < M ∧ ¬ (a ≤ p ∧ p < a + m)) (hwr : ∀ p ∈ wr, cre p) (closed : ∀ p, cre p → ∀ id ∈ (getE c.h p).ids, cre id) :
    Rel (c'.pick (mvL a M m)) ∧ (c'.pick (mvL a M m)).h.length = M ∧ VR (c'.pick (mvL a M m)) v x ∧ (∀ id ∈ v.all, cre id ∨ (a ≤ id ∧ id < a + m)) ∧
      (∀ u y, VR c u y → (∀ id ∈ u.all, cre id) → VR (c'.pick (mvL a M m)) u y) ∧
      (∀ p, a ≤ p → p < a + m → getE (c'.pick (mvL a M m)).h p = getE h' p ∧ ∀ id ∈ (getE h' p).ids, cre id ∨ (a ≤ id ∧ id < a + m)) ∧
      (∀ p, cre p → p < a → (getE (c'.pick (mvL a M m)).h p = getE c.h p ∧ getE h' p = getE h p) ∨ (p ∈ wr ∧ getE (c'.pick (mvL a M m)).h p = getE h' p ∧ ∀ id ∈ (getE h' p).ids, cre id ∨ (a ≤ id ∧ id < a + m))) ∧
      (∀ p, cre p → a + m ≤ p → getE (c'.pick (mvL a M m)).h p = getE c.h p) := by
  have hlen : (c'.pick (mvL a M m)).h.length = M := by simp [Cx.pick, mvL_len]
  have hold : ∀ id, cre id → reName (mvL a M m) id = some id := fun id hid => mvL_old ha (hcre id hid).1 (hcre id hid).2
  -- names of new blocks
  have hnm : ∀ id, (id ∈ wr ∨ a ≤ id) → upN a M id < M + m → reName (mvL a M m) (upN a M id) = some id ∧ (cre id ∨ (a ≤ id ∧ id < a + m)) := by
    intro id hid hlt
    rcases hid with hid | hid
    · rw [upN_lt (wlt id hid)]
      exact ⟨hold id (hwr id hid), .inl (hwr id hid)⟩
    · rw [upN_ge hid] at hlt ⊢
      exact ⟨mvL_new ha hid (by omega), .inr ⟨hid, by omega⟩⟩
  have hvn : ∀ id ∈ v.all, reName (mvL a M m) (upN a M id) = some id ∧ (cre id ∨ (a ≤ id ∧ id < a + m)) := fun id hid =>
    hnm id (vids id hid) (by rw [← hM']; exact all_lt hv _ (mp_all hid))
  have hent : ∀ p, p < M + m → Ent c' p (getE c'.h p) := fun p hp => hr.ent p (by omega)
  have hEm : ∀ p q, q < M + m → (∀ id ∈ (getE h' p).ids, id ∈ wr ∨ a ≤ id) → (getE h' p).mp (fun p => p) = getE h' p → getE c'.h q = (getE h' p).mp (upN a M) →
      (getE c'.h q).re (mvL a M m) = getE h' p ∧ ∀ id ∈ (getE h' p).ids, cre id ∨ (a ≤ id ∧ id < a + m) := by
    intro p q hq h1 h2 h3
    have hb : ∀ id ∈ (getE h' p).ids, reName (mvL a M m) (upN a M id) = some id ∧ (cre id ∨ (a ≤ id ∧ id < a + m)) := fun id hid =>
      hnm id (h1 id hid) (by
        have h4 := hent q hq
        rw [h3] at h4
        rw [← hM']; exact entIds_lt h4 _ (mpE_ids hid))
    refine ⟨?_, fun id hid => (hb id hid).2⟩
    rw [h3, re_mpE (fun id hid => (hb id hid).1), h2]
  have hsame : ∀ p, cre p → getE c'.h p = getE c.h p → (getE c'.h p).re (mvL a M m) = getE c.h p := by
    intro p hp h1
    have h2 := hent p (by have := (hcre p hp).1; omega)
    rw [h1] at h2 ⊢
    exact re_fixE h2 (fun id hid => hold id (closed p hp id hid))
  have hget : ∀ p, p < M → getE (c'.pick (mvL a M m)).h p = (getE c'.h ((mvL a M m).getD p 0)).re (mvL a M m) := fun p hp =>
    pick_get c' _ (by rw [mvL_len]; exact hp)
  refine ⟨pick_rel hr (mvL_nodup ha) (fun i hi => by rw [hM']; exact mvL_lt ha i hi), hlen, ?_, fun id hid => (hvn id hid).2, fun u y hu hids => ?_, fun p h1 h2 => ?_, fun p hp h1 => ?_, fun p hp h1 => ?_⟩
  · have := pick_vrT (ids := mvL a M m) hv
    rw [re_mp (fun id hid => (hvn id hid).1), vnf] at this
    exact this
  · have h1 := hE.vr hu
    have h2 := pick_vrT (ids := mvL a M m) h1
    rw [re_fix h1 (fun id hid => hold id (hids id hid))] at h2
    exact h2
  · rw [hget p (by omega), mvL_in (by omega) h1 h2]
    refine hEm p _ (by omega) (new p h1) (enf p h1) ?_
    have := r3 (p - a)
    rw [show a + (p - a) = p by omega] at this
    exact this
  · rw [hget p (hcre p hp).1, mvL_out (hcre p hp).1 (hcre p hp).2]
    rcases r1 p h1 with ⟨h2, h3⟩ | ⟨h2, h3, h4, h5⟩
    · exact .inl ⟨hsame p hp h3, h2⟩
    · right
      have := hEm p p (by have := (hcre p hp).1; omega) h3 h4 h5
      exact ⟨h2, this.1, this.2⟩
  · rw [hget p (hcre p hp).1, mvL_out (hcre p hp).1 (hcre p hp).2]
    exact hsame p hp (r2 p (by omega) (hcre p hp).1)

/-- Parts and lengths of texts: no block is looked at. -/
def strOp (TD : TypeId → Option TI) : Op → Bool
  | .slice t _ _ _ none => match TD t with
    | some ⟨.string, _, _, _⟩ => true
    | _ => false
  | .call ⟨.builtin .len, _, ts⟩ => match ts.toList with
    | [t] => match TD t with
      | some ⟨.string, _, _, _⟩ => true
      | _ => false
    | _ => false
  | _ => false
/-- Calls that leave the blocks. -/
def pureOp (pureF : FuncId → Bool) : Op → Bool
  | .call ⟨.value (.func f), _, _⟩ => pureF f
  | _ => false
def kindOk (TD : TypeId → Option TI) (op : Op) : Bool := heapFree TD op || growOp op || floatOp TD op || callOp op || appOp op || storeOp op
def chainB (TD : TypeId → Option TI) (pureF : FuncId → Bool) (op : Op) : Bool := !(heapFree TD op || growOp op || floatOp TD op || pureOp pureF op)
def callApp (op : Op) : Bool := callOp op || appOp op
/-- What is written, and what is looked at. -/
def pairA (ops : Array Oper) (M : List Nat) (i j : Nat) (oi oj : Oper) : Bool :=
  (match oi.dst, oj.dst with | some a, some b => !Nat.beq a b | _, _ => true) &&
  (match oi.dst with | some d => bif (oj.looksAt ops).any (Nat.beq d) then before_ M i j else true | none => true)
def pairH (TD : TypeId → Option TI) (pureF rowsF addF : FuncId → Bool) (ops : Array Oper) (M : List Nat) (i j : Nat) (oi oj : Oper) : Bool :=
  bif storeOp oi.op || storeOp oj.op then heapFree TD oi.op || heapFree TD oj.op || before_ M i j else
  bif heapFree TD oi.op || heapFree TD oj.op || floatOp TD oi.op || floatOp TD oj.op || (growOp oi.op && growOp oj.op) || (pureOp pureF oi.op && pureOp pureF oj.op) ||
      (growOp oi.op && (pureOp pureF oj.op || addOp addF oj.op)) || (growOp oj.op && (pureOp pureF oi.op || addOp addF oi.op)) ||
      (Nat.blt i j && appOp oi.op && growOp oj.op) || (Nat.blt j i && appOp oj.op && growOp oi.op) || strOp TD oi.op || strOp TD oj.op || lenKeep TD rowsF ops i j oi oj then true else before_ M i j
/-- Is what an operation looks at written by none up to another? -/
def stillT (ops : Array Oper) (p q : Nat) (op : Oper) : Bool :=
  (List.range q).all fun e => Nat.blt e p || (match ops[e]? with
    | some oe => (match oe.dst with | some d => !(op.looksAt ops).any (Nat.beq d) | none => true)
    | none => true)
def needB (ops : Array Oper) (i j : Nat) (oi oj : Oper) : Bool := Nat.blt i j && ((growOp oi.op && callApp oj.op) || (callApp oi.op && growOp oj.op)) && stillT ops i j oi
/-- The pairs that must name different blocks. -/
def needFl (TD : TypeId → Option TI) (pf : FuncId → Bool × Bool × Bool) (ops : Array Oper) (M : List Nat) : List (Nat × Nat) :=
  (List.range ops.size).flatMap fun j => (List.range j).filterMap fun i => match ops[i]?, ops[j]? with
    | some oi, some oj => bif pairH TD (fun f => (pf f).1) (fun f => (pf f).2.1) (fun f => (pf f).2.2) ops M i j oi oj then none else bif needB ops i j oi oj then some (i, j) else none
    | _, _ => none
def drawFl (TD : TypeId → Option TI) (pf : FuncId → Bool × Bool × Bool) (ops : Array Oper) (need : List (Nat × Nat)) : Bool :=
  let M := reachL ops.toList []
  ((List.range ops.size).all fun j => match ops[j]? with
    | none => true
    | some oj => kindOk TD oj.op && Nat.beq (M.getD j 0) (maskOf oj M) && (oj.after.toList.all fun e => !Region.binds .any e || Nat.blt e.on j) &&
      (match oj.guard with | none => true | some (g, _) => Nat.blt g j) &&
      (List.range ops.size).all fun i => match ops[i]? with
        | none => true
        | some oi => Nat.beq i j || (pairA ops M i j oi oj && (pairH TD (fun f => (pf f).1) (fun f => (pf f).2.1) (fun f => (pf f).2.2) ops M i j oi oj || need.any fun pq => Nat.beq pq.1 (min i j) && Nat.beq pq.2 (max i j)))) &&
  need.all fun pq => match ops[pq.1]?, ops[pq.2]? with
    | some op, some oq => needB ops pq.1 pq.2 op oq
    | _, _ => false
/-- Either way of telling a drawn region. -/
def drawAny (TD : TypeId → Option TI) (pf : FuncId → Bool × Bool × Bool) (ops : Array Oper) : Option (List (Nat × Nat)) :=
  bif drawOk TD pf ops then some [] else
    bif drawFl TD pf ops (needFl TD pf ops (reachL ops.toList [])) then some (needFl TD pf ops (reachL ops.toList [])) else none

structure DrawF (TD : TypeId → Option TI) (pureF rowsF addF : FuncId → Bool) (ops : Array Oper) (M : List Nat) (need : List (Nat × Nat)) : Prop where
  mask : ∀ (j : Nat) (o : Oper), ops[j]? = some o → M.getD j 0 = maskOf o M
  lt : ∀ (j : Nat) (o : Oper), ops[j]? = some o → ∀ e ∈ o.after, Region.binds .any e = true → e.on < j
  pairA : ∀ i j oi oj, ops[i]? = some oi → ops[j]? = some oj → i ≠ j → pairA ops M i j oi oj = true
  pair : ∀ i j oi oj, ops[i]? = some oi → ops[j]? = some oj → i ≠ j → pairH TD pureF rowsF addF ops M i j oi oj = true ∨ (min i j, max i j) ∈ need
  kind : ∀ (j : Nat) (o : Oper), ops[j]? = some o → kindOk TD o.op = true
  need : ∀ pq ∈ need, ∃ op oq, ops[pq.1]? = some op ∧ ops[pq.2]? = some oq ∧ needB ops pq.1 pq.2 op oq = true

section
variable {P : Program} {TD : TypeId → Option TI} {K : FuncId → List V → List E → (V → List E → R) → R}

theorem drawFl_spec {pf : FuncId → Bool × Bool × Bool} {ops : Array Oper} {need : List (Nat × Nat)} (h : drawFl TD pf ops need = true) : DrawF TD (fun f => (pf f).1) (fun f => (pf f).2.1) (fun f => (pf f).2.2) ops (reachL ops.toList []) need := by
  unfold drawFl at h
  rw [Bool.and_eq_true] at h
  obtain ⟨h, hn⟩ := h
  simp only [List.all_eq_true, List.mem_range] at h hn
  have hj : ∀ j oj, ops[j]? = some oj → _ := fun j oj ho => by
    have := h j (Array.getElem?_eq_some_iff.1 ho).1
    rw [ho] at this
    exact this
  have hp : ∀ i j oi oj, ops[i]? = some oi → ops[j]? = some oj → i ≠ j → pairA ops (reachL ops.toList []) i j oi oj = true ∧
      (pairH TD (fun f => (pf f).1) (fun f => (pf f).2.1) (fun f => (pf f).2.2) ops (reachL ops.toList []) i j oi oj = true ∨ (min i j, max i j) ∈ need) := fun i j oi oj hi ho hne => by
    have := hj j oj ho
    simp only [Bool.and_eq_true, List.all_eq_true, List.mem_range] at this
    have h2 := this.2 i (Array.getElem?_eq_some_iff.1 hi).1
    rw [hi] at h2
    simp only [Bool.or_eq_true, Bool.and_eq_true] at h2
    rcases h2 with h2 | ⟨h2, h3⟩
    · exact absurd (Nat.eq_of_beq_eq_true h2) hne
    · refine ⟨h2, h3.imp id (fun h4 => ?_)⟩
      rw [List.any_eq_true] at h4
      obtain ⟨pq, h5, h6⟩ := h4
      rw [Bool.and_eq_true] at h6
      rw [← Nat.eq_of_beq_eq_true h6.1, ← Nat.eq_of_beq_eq_true h6.2]
      exact h5
  refine ⟨fun j o ho => ?_, fun j o ho e he hb => ?_, fun i j oi oj hi ho hne => (hp i j oi oj hi ho hne).1, fun i j oi oj hi ho hne => (hp i j oi oj hi ho hne).2, fun j o ho => ?_, fun pq hpq => ?_⟩
  · have := hj j o ho
    simp only [Bool.and_eq_true] at this
    exact Nat.eq_of_beq_eq_true this.1.1.1.2
  · have := hj j o ho
    simp only [Bool.and_eq_true, List.all_eq_true] at this
    have h2 := this.1.1.2 e (by simpa using he)
    simp [hb, Nat.blt_eq] at h2
    exact h2
  · have := hj j o ho
    simp only [Bool.and_eq_true] at this
    exact this.1.1.1.1
  · have := hn pq hpq
    split at this
    · rename_i op oq h1 h2; exact ⟨op, oq, h1, h2, this⟩
    · cases this

theorem traceM (hK : KOk P K) {ops : Array Oper} {need : List (Nat × Nat)} {κ : St → R} {r : V × List E} : ∀ (l : List Oper) (n : Nat) (σ : St), opsM TD K need ops n l σ κ = some r →
    ∃ (S : Nat → St) (val : Nat → V), S 0 = σ ∧ (∀ i, i < l.length → StepC TD K ops (l.getD i default) (S i) (S (i + 1)) (val i)) ∧ (∀ i, i < l.length → apartM need ops (n + i) (S i) = true) ∧ κ (S l.length) = some r := by
  intro l
  induction l with
  | nil => intro n σ h; exact ⟨fun _ => σ, fun _ => .junk, rfl, fun i hi => by simp at hi, fun i hi => by simp at hi, h⟩
  | cons o l ih =>
    intro n σ h
    simp only [opsM] at h
    obtain ⟨h1, h2⟩ := bif_some h
    obtain ⟨S1, v1, a1, a2, a3⟩ := trace_of hK [o] σ h2
    obtain ⟨S, val, b1, b2, b3, b4⟩ := ih (n + 1) _ a3
    refine ⟨fun i => match i with | 0 => σ | i + 1 => S i, fun i => match i with | 0 => v1 0 | i + 1 => val i, rfl, fun i hi => ?_, fun i hi => ?_, b4⟩
    · cases i with
      | zero =>
        have := a2 0 (by simp)
        rw [a1] at this
        simp only [List.getD_cons_zero]
        rw [b1]
        exact this
      | succ i => simp only [List.getD_cons_succ]; exact b2 i (by simpa using hi)
    · cases i with
      | zero => exact h1
      | succ i =>
        have := b3 i (by simpa using hi)
        rw [show n + 1 + i = n + (i + 1) by omega] at this
        exact this

theorem float_notfree {op : Op} (h : floatOp TD op = true) : heapFree TD op = false := by
  cases op <;> first | (simp [floatOp] at h; done) | rfl | skip
  rename_i x
  cases hx : heapFree TD (Op.assign x) with
  | false => rfl
  | true =>
    exfalso
    unfold floatOp at h
    split at h
    · rename_i heq; injection heq with heq; subst heq; simp [heapFree] at hx
    all_goals first | (cases h; done) | (rename_i heq; cases heq)
theorem need_pick {ops : Array Oper} {e i : Nat} {oe o op oq : Oper} (hoe : ops[e]? = some oe) (ho : ops[i]? = some o) (q1 : ops[min e i]? = some op) (q2 : ops[max e i]? = some oq) : (op = oe ∧ oq = o) ∨ (op = o ∧ oq = oe) := by
  rcases Nat.lt_or_ge e i with h5 | h5
  · rw [Nat.min_eq_left (by omega)] at q1; rw [Nat.max_eq_right (by omega)] at q2
    rw [hoe] at q1; rw [ho] at q2; cases q1; cases q2; exact .inl ⟨rfl, rfl⟩
  · rw [Nat.min_eq_right (by omega)] at q1; rw [Nat.max_eq_left (by omega)] at q2
    rw [ho] at q1; rw [hoe] at q2; cases q1; cases q2; exact .inr ⟨rfl, rfl⟩
theorem pure_quiet {pureF : FuncId → Bool} {op : Op} (h : pureOp pureF op = true) : quietOp TD pureF op = true ∧ callOp op = true := by
  cases op <;> first | (simp [pureOp] at h; done) | skip
  case call c =>
    obtain ⟨callee, cargs, cats⟩ := c
    cases callee with
    | value f => cases f <;> first | (simp [pureOp] at h; done) | exact ⟨h, rfl⟩
    | _ => simp [pureOp] at h

theorem str_no {op : Op} (h : growOp op = false) : strOp TD op = false := by
  cases op <;> first | rfl | skip
  case slice t x lo hi mx =>
    cases mx with
    | none => simp [growOp] at h
    | some m => rfl
  case call c =>
    obtain ⟨callee, cargs, cats⟩ := c
    cases callee with
    | builtin b => cases b <;> first | (simp [growOp] at h; done) | rfl
    | _ => rfl
theorem str_ids {o : Oper} (hk : strOp TD o.op = true) {σ : St} {v : V} {h' : List E} (hs : ∀ κ2, opC TD K o σ κ2 = κ2 v h') : ∀ x ∈ o.op.operands, (σ.ev x).ids = [] := by
  have e := hs (fun v h => some (v, h))
  clear hs
  obtain ⟨dst, op, ty, pos, after, guard⟩ := o
  cases op <;> first | (simp [strOp] at hk; done) | skip
  case slice t x lo hi mx =>
    cases mx with
    | some m => simp [strOp] at hk
    | none =>
      simp only [strOp] at hk
      split at hk
      · rename_i h1
        have hst : strideOf TD t = none := by unfold strideOf; rw [h1]
        simp only [opC, opR, hst, opC0, h1, sliceStrC] at e
        cases hx : σ.ev x <;> rw [hx] at e <;> first | (cases e; done) | skip
        simp only at e
        intro y hy
        simp only [Op.operands] at hy
        cases lo with
        | none =>
          cases hi with
          | none =>
            have : y = x := by simpa using hy
            rw [this, hx]; rfl
          | some b =>
            have : y = x ∨ y = b := by simpa using hy
            rcases this with rfl | rfl
            · rw [hx]; rfl
            · simp only [Option.map_none, Option.map_some] at e
              cases hb : σ.ev y <;> rw [hb] at e <;> first | rfl | (simp [cutC] at e)
        | some a =>
          cases hi with
          | none =>
            have : y = x ∨ y = a := by simpa using hy
            rcases this with rfl | rfl
            · rw [hx]; rfl
            · simp only [Option.map_none, Option.map_some] at e
              cases hb : σ.ev y <;> rw [hb] at e <;> first | rfl | (simp [cutC] at e)
          | some b =>
            have : y = x ∨ y = a ∨ y = b := by simpa using hy
            simp only [Option.map_some] at e
            rcases this with rfl | rfl | rfl
            · rw [hx]; rfl
            · cases hb : σ.ev y <;> rw [hb] at e <;> first | rfl | (simp [cutC] at e)
            · cases hb : σ.ev y <;> rw [hb] at e <;> first | rfl | (cases ha : σ.ev a <;> rw [ha] at e <;> simp [cutC] at e)
      · cases hk
  case call c =>
    obtain ⟨callee, cargs, cats⟩ := c
    cases callee with
    | builtin b =>
      cases b <;> first | (simp [strOp] at hk; done) | skip
      simp only [strOp] at hk
      split at hk
      · rename_i t ht
        split at hk
        · rename_i h1
          have hst : strideOf TD t = none := by unfold strideOf; rw [h1]
          intro y hy
          have hy' : y ∈ cargs.toList := by simp [Op.operands, Call.operands] at hy; simpa using hy
          rcases hla : cargs.toList with _ | ⟨x, _ | ⟨z, la⟩⟩
          · rw [hla] at hy'; cases hy'
          · rw [hla] at hy'
            have : y = x := by simpa using hy'
            subst this
            simp only [opC, opR, opC0, hla, ht, hst, h1, lenStrC] at e
            cases hx : σ.ev y <;> rw [hx] at e <;> first | rfl | (cases e; done)
          · simp only [opC, opR, opC0, hla, ht] at e
            cases e
        · cases hk
      · cases hk
    | _ => simp [strOp] at hk

set_option maxHeartbeats 600000 in
theorem drawFl_ok (hT : TyOk P TD) (hK : KOk P K) (hm : P.follows .mixedOrders = true) {pf : FuncId → Bool × Bool × Bool} (hp : PureOk K fun f => (pf f).1) (hw : KeepOk K fun f => (pf f).2.1) (hadd : AddOk K fun f => (pf f).2.2) (hL : LocK K) :
    ∀ (ops : Array Oper) (Q : Exit → Act → World → Prop) (r : V × List E) (κ : St → R) (c0 : Cx) (σ : St) (a : Act) (c : Cx) (id : Nat) (need : List (Nat × Nat)), drawFl TD pf ops need = true →
    (∃ (S : Nat → St) (val : Nat → V), S 0 = σ ∧ (∀ i, i < ops.toList.length → StepC TD K ops (ops.toList.getD i default) (S i) (S (i + 1)) (val i)) ∧ (∀ i, i < ops.toList.length → apartM need ops i (S i) = true) ∧ κ (S ops.toList.length) = some r) →
    Ext c0 c → Rel c → RelT c σ a →
    (∀ σ' c' a', κ σ' = some r → Ext c0 c' → Rel c' → RelT c' σ' a' → Q .normal a' c'.w) → (Code.region id ops true).wp P Q a c.w := by
  intro ops Q r κ c0 σ a c id0 need hd h hE0 hr0 ht0 hQ
  have hE0b := hE0
  refine wp_region_any hm ?_
  have D := drawFl_spec hd
  clear hd
  revert D hp hw hadd
  generalize (fun f => (pf f).1) = pureF
  generalize (fun f => (pf f).2.1) = rowsF
  generalize (fun f => (pf f).2.2) = addF
  intro hp hwk hadd D
  revert D
  generalize reachL ops.toList [] = M
  intro D
  obtain ⟨S, val, hS0, hstep0, hapart, hfin⟩ := h
  have hn : ops.toList.length = ops.size := by simp
  rw [hn] at hstep0 hapart hfin
  have hstep : ∀ i o, ops[i]? = some o → StepC TD K ops o (S i) (S (i + 1)) (val i) := fun i o ho => by
    have hi := (Array.getElem?_eq_some_iff.1 ho).1
    have e : ops.toList.getD i default = o := by simp [List.getD, ho]
    have := hstep0 i hi
    rw [e] at this; exact this
  have hSn : ∀ i, i ≤ ops.size → (S i).n = σ.n := by
    intro i
    induction i with
    | zero => intro _; rw [hS0]
    | succ i ih =>
      intro hi
      have ho : ops[i]? = some ops[i] := by simp
      exact (hstep i _ ho).2.1.trans (ih (by omega))
  -- what is written before
  have hT0 : ∀ i, i ≤ ops.size → ∀ t, (∃ i' o', i' < i ∧ ops[i']? = some o' ∧ o'.dst = some t ∧ t < σ.n ∧ getT (S i).t t = val i') ∨
      ((∀ i' o', i' < i → ops[i']? = some o' → o'.dst = some t → ¬ t < σ.n) ∧ getT (S i).t t = getT σ.t t) := by
    intro i
    induction i with
    | zero => intro _ t; exact .inr ⟨fun i' o' h => by omega, by rw [hS0]⟩
    | succ i ih =>
      intro hi t
      have ho : ops[i]? = some ops[i] := by simp
      have hs := (hstep i _ ho).1 t
      rw [hSn i (by omega)] at hs
      by_cases hw : ops[i].dst = some t ∧ t < σ.n
      · rw [if_pos hw] at hs
        exact .inl ⟨i, _, by omega, ho, hw.1, hw.2, hs⟩
      · rw [if_neg hw] at hs
        rcases ih (by omega) t with ⟨i', o', h1, h2, h3, h4, h5⟩ | ⟨h1, h2⟩
        · exact .inl ⟨i', o', by omega, h2, h3, h4, hs.trans h5⟩
        · refine .inr ⟨fun i' o' hlt h3 h4 h5 => ?_, hs.trans h2⟩
          rcases Nat.lt_or_ge i' i with h6 | h6
          · exact h1 i' o' h6 h3 h4 h5
          · obtain rfl : i' = i := by omega
            rw [ho] at h3; cases h3
            exact hw ⟨h4, h5⟩
  -- quiet operations leave the blocks
  have hquiet : ∀ i o, ops[i]? = some o → quietOp TD pureF o.op = true → (S (i + 1)).h = (S i).h := by
    intro i o ho hq
    rcases (hstep i o ho).2.2 with ⟨g, want, t, _, _, _, _, h1⟩ | ⟨σ1, h1, h2, h3, _⟩
    · exact h1
    · have e1 := h3 (fun v h => some (v, h))
      have e2 := h3 (fun v _ => some (v, σ1.h))
      rw [opC_quiet hp hq] at e1
      rw [e2] at e1
      have : σ1.h = (S (i + 1)).h := by injection e1 with e; injection e
      rw [← this, h2]
  -- what adds blocks
  have hloc : ∀ i o, ops[i]? = some o → heapFree TD o.op = false → growOp o.op = false → storeOp o.op = false → ∀ σ1 : St, σ1.h = (S i).h → (∀ κ2, opC TD K o σ1 κ2 = κ2 (val i) (S (i + 1)).h) →
      ∃ wr rd, LocG (fun h2 κ2 => opC TD K o { σ1 with h := h2 } κ2) (S i).h (val i) (S (i + 1)).h wr rd ∧ (floatOp TD o.op = true → rd = []) ∧ ∀ id ∈ rd, ∃ x ∈ o.op.operands, id ∈ (σ1.ev x).ids := by
    intro i o ho h1 h2 hst0 σ1 h3 h4
    have hk := D.kind i o ho
    unfold kindOk at hk
    rw [h1, h2, hst0] at hk
    simp only [Bool.false_or, Bool.or_false] at hk
    cases hf : floatOp TD o.op with
    | true =>
      have := float_loc hf h4
      rw [h3] at this
      exact ⟨[], [], this, fun _ => rfl, fun id hid => by cases hid⟩
    | false =>
      rw [hf] at hk
      simp only [Bool.false_or, Bool.or_eq_true] at hk
      have : ∃ wr, LocG (fun h2 κ2 => opC TD K o { σ1 with h := h2 } κ2) σ1.h (val i) (S (i + 1)).h wr (o.op.operands.toList.flatMap fun x => (σ1.ev x).ids) := by
        rcases hk with hk | hk
        · exact call_loc hL hk h4
        · exact app_loc hk h4
      obtain ⟨wr, hw⟩ := this
      rw [h3] at hw
      refine ⟨wr, _, hw, fun h => (by cases h), fun id hid => ?_⟩
      simp only [List.mem_flatMap] at hid
      obtain ⟨x, hx, hid⟩ := hid
      exact ⟨x, by simpa using hx, hid⟩
  have hquiet2 : ∀ i o, ops[i]? = some o → (heapFree TD o.op = true ∨ growOp o.op = true ∨ pureOp pureF o.op = true) → (S (i + 1)).h = (S i).h := by
    intro i o ho hq
    refine hquiet i o ho ?_
    rcases hq with hq | hq | hq
    · exact free_quiet hq
    · exact grow_quiet hq
    · exact (pure_quiet hq).1
  have hmono1 : ∀ i, i < ops.size → (S i).h.length ≤ (S (i + 1)).h.length := by
    intro i hi
    have ho : ops[i]? = some ops[i] := by simp
    cases h1 : heapFree TD (ops[i]).op with
    | true => rw [hquiet2 i _ ho (.inl h1)]; exact Nat.le_refl _
    | false =>
      cases h2 : growOp (ops[i]).op with
      | true => rw [hquiet2 i _ ho (.inr (.inl h2))]; exact Nat.le_refl _
      | false =>
        rcases (hstep i _ ho).2.2 with ⟨_, _, _, _, _, _, _, s6⟩ | ⟨σ1, _, s2, s3, _⟩
        · rw [s6]; exact Nat.le_refl _
        · cases hst0 : storeOp (ops[i]).op with
          | true =>
            have := store_len hst0 s3
            rw [s2] at this; omega
          | false =>
            obtain ⟨wr, rd, hl, _⟩ := hloc i _ ho h1 h2 hst0 σ1 s2 s3
            exact hl.len
  have hmono : ∀ j, j ≤ ops.size → ∀ i, i ≤ j → (S i).h.length ≤ (S j).h.length := by
    intro j
    induction j with
    | zero => intro _ i hi; obtain rfl : i = 0 := by omega
              exact Nat.le_refl _
    | succ j ih =>
      intro hj i hi
      rcases Nat.lt_or_ge j i with h1 | h1
      · obtain rfl : i = j + 1 := by omega
        exact Nat.le_refl _
      · exact Nat.le_trans (ih (by omega) i h1) (hmono1 j (by omega))
  have hbirth : ∀ j, j ≤ ops.size → ∀ p, p < (S j).h.length → p < (S 0).h.length ∨ ∃ i, i < j ∧ (S i).h.length ≤ p ∧ p < (S (i + 1)).h.length := by
    intro j
    induction j with
    | zero => intro _ p hp; exact .inl hp
    | succ j ih =>
      intro hj p hp
      rcases Nat.lt_or_ge p (S j).h.length with h1 | h1
      · rcases ih (by omega) p h1 with h2 | ⟨i, h2, h3⟩
        · exact .inl h2
        · exact .inr ⟨i, by omega, h3⟩
      · exact .inr ⟨j, by omega, h1, hp⟩
  have hborn : ∀ i j p, i < ops.size → j < ops.size → (S i).h.length ≤ p → p < (S (i + 1)).h.length → (S j).h.length ≤ p → p < (S (j + 1)).h.length → i = j := by
    intro i j p hi hj h1 h2 h3 h4
    rcases Nat.lt_trichotomy i j with h5 | h5 | h5
    · have := hmono j (by omega) (i + 1) (by omega); omega
    · exact h5
    · have := hmono i (by omega) (j + 1) (by omega); omega
  -- no chain between
  have hstill1 : ∀ q, q < ops.size → ∀ o, ops[q]? = some o → chainB TD pureF o.op = false → ∀ p, p < (S q).h.length → getE (S (q + 1)).h p = getE (S q).h p := by
    intro q hq o ho hc p hp
    simp only [chainB, Bool.not_eq_false', Bool.or_eq_true] at hc
    rcases hc with ((hc | hc) | hc) | hc
    · rw [hquiet2 q o ho (.inl hc)]
    · rw [hquiet2 q o ho (.inr (.inl hc))]
    · rcases (hstep q o ho).2.2 with ⟨_, _, _, _, _, _, _, s6⟩ | ⟨σ1, _, s2, s3, _⟩
      · rw [s6]
      · have hl := float_loc hc s3
        rw [s2] at hl
        exact hl.old p hp (fun h => by cases h)
    · rw [hquiet2 q o ho (.inr (.inr hc))]
  have hstill : ∀ b, b ≤ ops.size → ∀ a, a ≤ b → (∀ e o, a ≤ e → e < b → ops[e]? = some o → chainB TD pureF o.op = false) → ∀ p, p < (S a).h.length → getE (S b).h p = getE (S a).h p := by
    intro b
    induction b with
    | zero => intro _ a ha _ p _; obtain rfl : a = 0 := by omega
              rfl
    | succ b ih =>
      intro hb a ha hall p hpl
      rcases Nat.lt_or_ge b a with h1 | h1
      · obtain rfl : a = b + 1 := by omega
        rfl
      · have ho : ops[b]? = some ops[b] := by simp
        rw [hstill1 b (by omega) _ ho (hall b _ h1 (by omega) ho) p (Nat.lt_of_lt_of_le hpl (hmono b (by omega) a h1))]
        exact ih (by omega) a h1 (fun e o a1 a2 => hall e o a1 (by omega)) p hpl
  -- the invariant
  let cre : Array Bool → Nat → Prop := fun L p => p < (S 0).h.length ∨ ∃ i, i < ops.size ∧ L.getD i false = true ∧ (S i).h.length ≤ p ∧ p < (S (i + 1)).h.length
  let Blk : Array Bool → Cx → Nat → Prop := fun L c k =>
    (∀ e o, ops[e]? = some o → chainB TD pureF o.op = true → (L.getD e false = true ↔ e < k)) ∧
    (∀ p, cre L p → p < (S k).h.length → getE c.h p = getE (S k).h p) ∧
    (∀ j, k ≤ j → j < ops.size → L.getD j false = true → ∀ p, (S j).h.length ≤ p → p < (S (j + 1)).h.length → getE c.h p = getE (S (j + 1)).h p) ∧
    (∀ j o, j < k → ops[j]? = some o → floatOp TD o.op = true → L.getD j false = false → ∀ p, (S j).h.length ≤ p → p < (S (j + 1)).h.length → getE (S k).h p = getE (S (j + 1)).h p)
  let Inv : Array Bool → Act → Cx → Prop := fun L a c =>
    Ext c0 c ∧ Rel c ∧ a.tmps.size = σ.n ∧ a.defers = [] ∧ L.size = ops.size ∧
    (∀ j o, ops[j]? = some o → L.getD j false = true → ∀ e ∈ o.after, Region.binds .any e = true → L.getD e.on false = true) ∧
    (∀ t j o, ops[j]? = some o → o.dst = some t → t < σ.n → L.getD j false = true → VR c (val j) (a.tmps.getD t undef)) ∧
    (∀ t, (∀ j o, ops[j]? = some o → o.dst = some t → t < σ.n → L.getD j false = false) → VR c (getT σ.t t) (a.tmps.getD t undef)) ∧
    (∀ j, j < ops.size → L.getD j false = true → ∀ id ∈ (val j).all, cre L id) ∧
    c.h.length = (S ops.size).h.length ∧
    (∀ p, cre L p → ∀ id ∈ (getE c.h p).ids, cre L id) ∧
    ∃ k, k ≤ ops.size ∧ Blk L c k
  have hcreM : ∀ L p, cre L p → p < (S ops.size).h.length := by
    rintro L p (h1 | ⟨i, h1, _, _, h2⟩)
    · exact Nat.lt_of_lt_of_le h1 (hmono _ (Nat.le_refl _) 0 (by omega))
    · exact Nat.lt_of_lt_of_le h2 (hmono _ (Nat.le_refl _) (i + 1) (by omega))
  have hini : ∀ t, ∀ id ∈ (getT σ.t t).all, id < (S 0).h.length := by
    intro t id hid
    have := all_lt (ht0.t t) id hid
    rw [hS0, ht0.h]; exact this
  -- what lies ahead is listed
  have hclose : ∀ (L : Array Bool), (∀ j o, ops[j]? = some o → L.getD j false = true → ∀ e ∈ o.after, Region.binds .any e = true → L.getD e.on false = true) →
      ∀ j o, ops[j]? = some o → (∀ e ∈ o.after, Region.binds .any e = true → L.getD e.on false = true) → ∀ i, (M.getD j 0).testBit i = true → L.getD i false = true := by
    intro L hdown j
    induction j using Nat.strongRecOn with
    | _ j ih =>
      intro o ho hpre i hi
      rw [D.mask j o ho] at hi
      obtain ⟨e, he, hb, h1⟩ := mask_bit hi
      have hl := hpre e he hb
      rcases h1 with rfl | h1
      · exact hl
      · have hlt := D.lt j o ho e he hb
        have hjs := (Array.getElem?_eq_some_iff.1 ho).1
        have ho' : ops[e.on]? = some ops[e.on] := by simp
        exact ih e.on hlt _ ho' (hdown e.on _ ho' hl) i h1
  -- all listed
  have hend : ∀ L a c, Inv L a c → (∀ j, j < ops.size → L.getD j false = true) → Q .normal a c.w := by
    rintro L a c ⟨i1, i2, i3, i4, i5, i6, i7, i8, i9, i10, i11, k, k1, k2, k3, k4, k5⟩ hall
    have hnc : ∀ q, k ≤ q → ∀ e o, q ≤ e → e < ops.size → ops[e]? = some o → chainB TD pureF o.op = false := fun q hq e o h1 h2 ho => by
      cases hc : chainB TD pureF o.op with
      | false => rfl
      | true => have := (k2 e o ho hc).1 (hall e h2); omega
    have hheap : (S ops.size).h = c.h := by
      refine ext_getE i10.symm (fun p hpl => ?_)
      have hcr : cre L p := by
        rcases hbirth _ (Nat.le_refl _) p hpl with h1 | ⟨i, h1, h2⟩
        · exact .inl h1
        · exact .inr ⟨i, h1, hall i h1, h2⟩
      rcases Nat.lt_or_ge p (S k).h.length with h1 | h1
      · rw [k3 p hcr h1]; exact hstill _ (Nat.le_refl _) k k1 (hnc k (Nat.le_refl _)) p h1
      · rcases hcr with h2 | ⟨i, h2, h3, h4, h5⟩
        · have := hmono k k1 0 (by omega); omega
        · have hik : k ≤ i := by
            rcases Nat.lt_or_ge i k with h6 | h6
            · have := hmono k k1 (i + 1) (by omega); omega
            · exact h6
          rw [k4 i hik h2 h3 p h4 h5]
          exact hstill _ (Nat.le_refl _) (i + 1) (by omega) (hnc (i + 1) (by omega)) p h5
    refine hQ (S ops.size) c a hfin i1 i2 ⟨i3.trans (hSn _ (Nat.le_refl _)).symm, i4, hheap, fun t => ?_⟩
    rcases hT0 ops.size (Nat.le_refl _) t with ⟨i', o', h1, h2, h3, h4, h5⟩ | ⟨h1, h2⟩
    · rw [h5]; exact i7 t i' o' h2 h3 h4 (hall i' h1)
    · rw [h2]
      exact i8 t (fun j o ho hdst hlt => absurd hlt (h1 j o (Array.getElem?_eq_some_iff.1 ho).1 ho hdst))
  -- one step
  have hone : ∀ L a c, Inv L a c → ∀ i, i ∈ Region.ready .any ops L → ∀ (N : Act → World → Prop), (∀ a' c', Inv (L.setIfInBounds i true) a' c' → N a' c'.w) → wpOp P ops Q i N a c.w := by
    rintro L a c ⟨i1, i2, i3, i4, i5, i6, i7, i8, i9, i10, i11, k, k1, hB⟩ i hi N hN
    obtain ⟨k2, k3, k4, k5⟩ := hB
    obtain ⟨hun, o, ho, hpre⟩ := mem_ready.1 hi
    have hlt : i < ops.size := (Array.getElem?_eq_some_iff.1 ho).1
    have hun' : L.getD i false = false := by
      have : i < L.size := by omega
      simp [this] at hun ⊢; exact hun
    have hahead : ∀ j, (M.getD i 0).testBit j = true → L.getD j false = true := hclose L i6 i o ho hpre
    have hbehind : ∀ j oj, ops[j]? = some oj → (M.getD j 0).testBit i = true → L.getD j false = false := fun j oj hoj hb => by
      cases hl : L.getD j false with
      | false => rfl
      | true =>
        have := hclose L i6 j oj hoj (i6 j oj hoj hl) i hb
        rw [hun'] at this; cases this
    have hbl : ∀ {x y : Nat}, x < y → Nat.blt x y = true := fun h => by simpa [Nat.blt_eq] using h
    have hbg : ∀ {x y : Nat}, y ≤ x → Nat.blt x y = false := fun {x y} h => by
      cases hx : Nat.blt x y with
      | false => rfl
      | true => rw [Nat.blt_eq] at hx; omega
    have hset : ∀ j, (L.setIfInBounds i true).getD j false = if j = i then true else L.getD j false := fun j => by
      have hiL : i < L.size := by omega
      by_cases hj : j = i
      · subst hj; simp [hiL]
      · have : ¬ i = j := fun e => hj e.symm
        simp [hj, Array.getElem?_setIfInBounds_ne this]
    have hcre1 : ∀ p, cre L p → cre (L.setIfInBounds i true) p := by
      rintro p (h1 | ⟨j, h1, h2, h3⟩)
      · exact .inl h1
      · refine .inr ⟨j, h1, ?_, h3⟩
        rw [hset]
        by_cases hj : j = i
        · rw [if_pos hj]
        · rw [if_neg hj]; exact h2
    have hcre2 : ∀ p, cre (L.setIfInBounds i true) p → cre L p ∨ ((S i).h.length ≤ p ∧ p < (S (i + 1)).h.length) := by
      rintro p (h1 | ⟨j, h1, h2, h3⟩)
      · exact .inl (.inl h1)
      · rw [hset] at h2
        by_cases hj : j = i
        · subst hj; exact .inr h3
        · rw [if_neg hj] at h2; exact .inl (.inr ⟨j, h1, h2, h3⟩)
    have hcre3 : ∀ p, (S i).h.length ≤ p → p < (S (i + 1)).h.length → cre (L.setIfInBounds i true) p := fun p h1 h2 =>
      .inr ⟨i, hlt, by rw [hset, if_pos rfl], h1, h2⟩
    have hcreN : ∀ p, cre L p → ¬ ((S i).h.length ≤ p ∧ p < (S (i + 1)).h.length) := by
      rintro p (h1 | ⟨j, h1, h2, h3, h4⟩) ⟨h5, h6⟩
      · have := hmono i (by omega) 0 (by omega); omega
      · have := hborn i j p hlt h1 h5 h6 h3 h4
        subst this
        rw [hun'] at h2; cases h2
    have hlook : ∀ t, t ∈ o.looksAt ops → VR c (getT (S i).t t) (a.tmps.getD t undef) ∧ ∀ id ∈ (getT (S i).t t).all, cre L id := by
      intro t htl
      have hpl : ∀ j oj, ops[j]? = some oj → j ≠ i → oj.dst = some t → before_ M j i = true := fun j oj hoj hne hdst => by
        have := D.pairA j i oj o hoj ho hne
        simp only [pairA, Bool.and_eq_true] at this
        have h2 := this.2
        rw [hdst] at h2
        have h3 : (o.looksAt ops).any (Nat.beq t) = true := any_beq.2 htl
        simp only [h3, cond_true] at h2
        exact h2
      rcases hT0 i (by omega) t with ⟨j, oj, h1, h2, h3, h4, h5⟩ | ⟨h1, h2⟩
      · rw [h5]
        have hjd : L.getD j false = true := hahead j (by
          have hb := hpl j oj h2 (by omega) h3
          simpa [before_, hbl h1] using hb)
        exact ⟨i7 t j oj h2 h3 h4 hjd, i9 j (by omega) hjd⟩
      · rw [h2]
        refine ⟨i8 t (fun j oj hoj hdst htn => ?_), fun id hid => .inl (hini t id hid)⟩
        rcases Nat.lt_trichotomy j i with h6 | h6 | h6
        · exact absurd htn (h1 j oj h6 hoj hdst)
        · subst h6; exact hun'
        · have hb := hpl j oj hoj (by omega) hdst
          simp only [before_, hbg (Nat.le_of_lt h6), cond_false] at hb
          exact hbehind j oj hoj hb
    let σL : St := { n := σ.n, t := (o.looksAt ops).map fun t => (t, getT (S i).t t), h := c.h }
    have hL : RelT c σL a := ⟨i3, i4, rfl, fun t => by
      show VR c (getT ((o.looksAt ops).map fun t => (t, getT (S i).t t)) t) _
      rw [getT_live (fun t => getT (S i).t t)]
      split
      · rename_i hm; exact (hlook t hm).1
      · exact trivial⟩
    have hLget : ∀ t, t ∈ o.looksAt ops → getT σL.t t = getT (S i).t t := fun t htl => by
      show getT ((o.looksAt ops).map fun t => (t, getT (S i).t t)) t = _
      rw [getT_live (fun t => getT (S i).t t), if_pos htl]
    have hLcre : ∀ x, ∀ id ∈ (σL.ev x).all, cre L id := by
      intro x id hid
      cases x with
      | tmp t =>
        have hid' : id ∈ (getT ((o.looksAt ops).map fun t => (t, getT (S i).t t)) t).all := hid
        rw [getT_live (fun t => getT (S i).t t)] at hid'
        split at hid'
        · rename_i hm; exact (hlook t hm).2 id hid'
        · cases hid'
      | const v => have h1 : id ∈ (ofConst v).all := hid
                   rw [ofConst_all] at h1; cases h1
      | global g => cases hid
      | func f => cases hid
    -- moving on to i
    have kmove : k ≤ i → (∀ e oe, k ≤ e → e < i → ops[e]? = some oe → chainB TD pureF oe.op = false) →
        (∀ p, cre L p → p < (S i).h.length → getE c.h p = getE (S i).h p) ∧
        (∀ j oj, j < i → ops[j]? = some oj → floatOp TD oj.op = true → L.getD j false = false → ∀ p, (S j).h.length ≤ p → p < (S (j + 1)).h.length → getE (S i).h p = getE (S (j + 1)).h p) := by
      intro hki hnc
      refine ⟨fun p hp h1 => ?_, fun j oj hji hoj hf hl p h1 h2 => ?_⟩
      · rcases Nat.lt_or_ge p (S k).h.length with h2 | h2
        · rw [k3 p hp h2]; exact (hstill i (by omega) k hki hnc p h2).symm
        · rcases hp with h3 | ⟨j, h3, h4, h5, h6⟩
          · have := hmono k k1 0 (by omega); omega
          · have hkj : k ≤ j := by
              rcases Nat.lt_or_ge j k with h7 | h7
              · have := hmono k k1 (j + 1) (by omega); omega
              · exact h7
            have hji : j < i := by
              rcases Nat.lt_or_ge j i with h7 | h7
              · exact h7
              · have := hmono j (by omega) i h7; omega
            rw [k4 j hkj h3 h4 p h5 h6]
            exact (hstill i (by omega) (j + 1) (by omega) (fun e oe a1 a2 => hnc e oe (by omega) a2) p h6).symm
      · rcases Nat.lt_or_ge j k with h3 | h3
        · rw [hstill i (by omega) k hki hnc p (Nat.lt_of_lt_of_le h2 (hmono k k1 (j + 1) (by omega)))]
          exact k5 j oj h3 hoj hf hl p h1 h2
        · exact hstill i (by omega) (j + 1) (by omega) (fun e oe a1 a2 => hnc e oe (by omega) a2) p h2
    -- a chain's operation is next in the chain
    have hpairC : chainB TD pureF o.op = true ∨ pureOp pureF o.op = true → ∀ e oe, ops[e]? = some oe → e ≠ i → chainB TD pureF oe.op = true → heapFree TD o.op = false → floatOp TD o.op = false → growOp o.op = false → before_ M e i = true := by
      intro hc e oe hoe hne hce h1 h2 h3
      simp only [chainB, Bool.not_eq_true', Bool.or_eq_false_iff] at hce
      obtain ⟨⟨⟨e1, e2⟩, e3⟩, e4⟩ := hce
      have h4 : pairH TD pureF rowsF addF ops M e i oe o = true := by
        rcases D.pair e i oe o hoe ho hne with h4 | h4
        · exact h4
        · exfalso
          obtain ⟨op, oq, q1, q2, q3⟩ := D.need _ h4
          simp only at q1 q2 q3
          have hb : (op = oe ∧ oq = o) ∨ (op = o ∧ oq = oe) := need_pick hoe ho q1 q2
          rcases hb with ⟨rfl, rfl⟩ | ⟨rfl, rfl⟩ <;> simp [needB, e2, h3] at q3
      unfold pairH at h4
      cases hs9 : storeOp oe.op || storeOp o.op with
      | true =>
        rw [hs9, cond_true, e1, h1] at h4
        exact h4
      | false =>
      rw [hs9, cond_false] at h4
      simp only [lenKeep, rowRead_no e2, rowRead_no h3, str_no e2, str_no h3, e1, e2, e3, e4, h1, h2, h3, Bool.false_and, Bool.and_false, Bool.or_self, cond_false] at h4
      exact h4
    have hchain : chainB TD pureF o.op = true ∨ pureOp pureF o.op = true → heapFree TD o.op = false → floatOp TD o.op = false → growOp o.op = false →
        (∀ e oe, k ≤ e → e < i → ops[e]? = some oe → chainB TD pureF oe.op = false) ∧ (∀ e oe, i < e → e < k → ops[e]? = some oe → chainB TD pureF oe.op = false) := by
      intro hc h1 h2 h3
      refine ⟨fun e oe a1 a2 hoe => ?_, fun e oe a1 a2 hoe => ?_⟩
      · cases hce : chainB TD pureF oe.op with
        | false => rfl
        | true =>
          exfalso
          have hb := hpairC hc e oe hoe (by omega) hce h1 h2 h3
          simp only [before_, hbl a2, cond_true] at hb
          have := (k2 e oe hoe hce).1 (hahead e hb)
          omega
      · cases hce : chainB TD pureF oe.op with
        | false => rfl
        | true =>
          exfalso
          have hb := hpairC hc e oe hoe (by omega) hce h1 h2 h3
          simp only [before_, hbg (Nat.le_of_lt a1), cond_false] at hb
          have h5 := hbehind e oe hoe hb
          rw [(k2 e oe hoe hce).2 a2] at h5; cases h5
    -- the state behind i
    have hnext : ∀ (x : Value) (c' : Cx), Ext c0 c' → Rel c' → VR c' (val i) x → (∀ u y, VR c u y → (∀ id ∈ u.all, cre L id) → VR c' u y) → (∀ id ∈ (val i).all, cre (L.setIfInBounds i true) id) →
        c'.h.length = (S ops.size).h.length → (∀ p, cre (L.setIfInBounds i true) p → ∀ id ∈ (getE c'.h p).ids, cre (L.setIfInBounds i true) id) → (∃ k, k ≤ ops.size ∧ Blk (L.setIfInBounds i true) c' k) →
        Inv (L.setIfInBounds i true) (a.put o.dst x) c' := by
      intro x c' e1 e2 e3 e4 e5 e6 e7 e8
      have hdst : ∀ j oj t, ops[j]? = some oj → j ≠ i → oj.dst = some t → o.dst ≠ some t := fun j oj t hoj hne h1 h2 => by
        have := D.pairA j i oj o hoj ho hne
        simp only [pairA, Bool.and_eq_true] at this
        have h3 := this.1
        rw [h1, h2] at h3
        simp [nbeq_self] at h3
      have hput : ∀ t, o.dst ≠ some t → (a.put o.dst x).tmps.getD t undef = a.tmps.getD t undef := fun t hne => by
        cases hd : o.dst with
        | none => rfl
        | some d =>
          have : d ≠ t := fun e => hne (by rw [hd, e])
          simp [Act.put, Array.getElem?_setIfInBounds_ne this]
      have hsz : (a.put o.dst x).tmps.size = σ.n := by cases hd : o.dst <;> simp [Act.put, i3]
      have hdf : (a.put o.dst x).defers = [] := by cases hd : o.dst <;> simp [Act.put, i4]
      refine ⟨e1, e2, hsz, hdf, by simpa using i5, fun j oj hoj hl e he hb => ?_, fun t j oj hoj hdj htn hl => ?_, fun t hall => ?_, fun j hj hl => ?_, e6, e7, e8⟩
      · rw [hset]
        by_cases h1 : e.on = i
        · rw [if_pos h1]
        · rw [if_neg h1]
          rw [hset] at hl
          by_cases h2 : j = i
          · subst h2
            rw [ho] at hoj; cases hoj
            exact hpre e he hb
          · rw [if_neg h2] at hl; exact i6 j oj hoj hl e he hb
      · rw [hset] at hl
        by_cases h2 : j = i
        · subst h2
          rw [ho] at hoj; cases hoj
          have hlt' : t < a.tmps.size := by omega
          have : (a.put o.dst x).tmps.getD t undef = x := by rw [hdj]; simp [Act.put, hlt']
          rw [this]; exact e3
        · rw [if_neg h2] at hl
          rw [hput t (hdst j oj t hoj h2 hdj)]
          exact e4 _ _ (i7 t j oj hoj hdj htn hl) (i9 j (Array.getElem?_eq_some_iff.1 hoj).1 hl)
      · have h3 : ¬ (o.dst = some t ∧ t < σ.n) := fun ⟨h4, h5⟩ => by
          have := hall i o ho h4 h5
          rw [hset, if_pos rfl] at this; cases this
        have hsame : (a.put o.dst x).tmps.getD t undef = a.tmps.getD t undef := by
          by_cases h4 : o.dst = some t
          · have h5 : a.tmps.size ≤ t := by
              rcases Nat.lt_or_ge t σ.n with h6 | h6
              · exact absurd ⟨h4, h6⟩ h3
              · omega
            rw [h4]
            simp [Act.put, Array.setIfInBounds_eq_of_size_le h5]
          · exact hput t h4
        rw [hsame]
        refine e4 _ _ (i8 t (fun j oj hoj h4 h5 => ?_)) (fun id hid => .inl (hini t id hid))
        have := hall j oj hoj h4 h5
        rw [hset] at this
        by_cases h2 : j = i
        · rw [if_pos h2] at this; cases this
        · rw [if_neg h2] at this; exact this
      · rw [hset] at hl
        by_cases h2 : j = i
        · subst h2; exact e5
        · rw [if_neg h2] at hl
          exact fun id hid => hcre1 id (i9 j hj hl id hid)
    -- nothing added
    have hnextQ : (S (i + 1)).h = (S i).h → ∀ (x : Value) (c' : Cx), Ext c c' → Rel c' → VR c' (val i) x → (∀ id ∈ (val i).all, cre L id) → c'.h = c.h → Inv (L.setIfInBounds i true) (a.put o.dst x) c' := by
      intro hs x c' e1 e2 e3 e4 e5
      have hcre4 : ∀ p, cre (L.setIfInBounds i true) p → cre L p := fun p hp => by
        rcases hcre2 p hp with h1 | ⟨h1, h2⟩
        · exact h1
        · rw [hs] at h2; omega
      refine hnext x c' (i1.trans e1) e2 e3 (fun u y hu _ => e1.vr hu) (fun id hid => hcre1 id (e4 id hid)) (by rw [e5]; exact i10) (fun p hp id hid => ?_) ?_
      · rw [e5] at hid
        exact hcre1 id (i11 p (hcre4 p hp) id hid)
      · cases hc : chainB TD pureF o.op with
        | false =>
          refine ⟨k, k1, fun e oe hoe hce => ?_, fun p hp h1 => ?_, fun j h1 h2 h3 p h4 h5 => ?_, fun j oj h1 hoj hf h3 p h4 h5 => ?_⟩
          · rw [hset]
            by_cases h2 : e = i
            · subst h2
              rw [ho] at hoe; cases hoe
              rw [hc] at hce; cases hce
            · rw [if_neg h2]; exact k2 e oe hoe hce
          · rw [e5]; exact k3 p (hcre4 p hp) h1
          · rw [hset] at h3
            by_cases h6 : j = i
            · subst h6; rw [hs] at h5; omega
            · rw [if_neg h6] at h3
              rw [e5]; exact k4 j h1 h2 h3 p h4 h5
          · rw [hset] at h3
            by_cases h6 : j = i
            · rw [if_pos h6] at h3; cases h3
            · rw [if_neg h6] at h3
              exact k5 j oj h1 hoj hf h3 p h4 h5
        | true =>
          have hc' := hc
          simp only [chainB, Bool.not_eq_true', Bool.or_eq_false_iff] at hc'
          obtain ⟨⟨⟨q1, q2⟩, q3⟩, q4⟩ := hc'
          have hik : k ≤ i := by
            rcases Nat.lt_or_ge i k with h6 | h6
            · have := (k2 i o ho hc).2 h6
              rw [hun'] at this; cases this
            · exact h6
          obtain ⟨hnc, _⟩ := hchain (.inl hc) q1 q3 q2
          obtain ⟨m1, m2⟩ := kmove hik hnc
          refine ⟨i + 1, by omega, fun e oe hoe hce => ?_, fun p hp h1 => ?_, fun j h1 h2 h3 p h4 h5 => ?_, fun j oj h1 hoj hf h3 p h4 h5 => ?_⟩
          · rw [hset]
            by_cases h2 : e = i
            · subst h2; simp
            · rw [if_neg h2]
              constructor
              · intro h3; have := (k2 e oe hoe hce).1 h3; omega
              · intro h3
                have h4 : e < i := by omega
                rcases Nat.lt_or_ge e k with h5 | h5
                · exact (k2 e oe hoe hce).2 h5
                · have := hnc e oe h5 h4 hoe
                  rw [hce] at this; cases this
          · rw [e5, hs]; rw [hs] at h1; exact m1 p (hcre4 p hp) h1
          · rw [hset] at h3
            by_cases h6 : j = i
            · omega
            · rw [if_neg h6] at h3
              rw [e5]; exact k4 j (by omega) h2 h3 p h4 h5
          · rw [hset] at h3
            by_cases h6 : j = i
            · rw [if_pos h6] at h3; cases h3
            · rw [if_neg h6] at h3
              rw [hs]; exact m2 j oj (by omega) hoj hf h3 p h4 h5
    unfold wpOp
    simp only [ho]
    have hlookg : ∀ g want t, o.guard = some (g, want) → (ops[g]?).bind (·.dst) = some t → t ∈ o.looksAt ops := fun g want t h1 h2 => by
      unfold Oper.looksAt
      rw [h1]
      simp [h2]
    rcases (hstep i o ho).2.2 with ⟨g, want, t, s1, s2, s3, s5, s6⟩ | ⟨σ1, s1, s2, s3, s4⟩
    · -- passed by
      have hw : Region.wanted o (yielded ops a.tmps) = false := by
        rcases s3 with s3 | ⟨b, s3, s4⟩
        · exact guard_no hL s1 s2 (by rw [hLget t (hlookg g want t s1 s2)]; exact s3)
        · exact (guard_ok hL s1 s2 (by rw [hLget t (hlookg g want t s1 s2)]; exact s3)).trans s4
      rw [hw, if_neg (by decide)]
      exact hN _ c (hnextQ s6 undef c (Ext.refl c) i2 (by rw [s5]; exact vr_undef) (fun id hid => by rw [s5] at hid; cases hid) rfl)
    · -- carried out
      have hw : Region.wanted o (yielded ops a.tmps) = true := by
        rcases s4 with s4 | ⟨g, want, t, b, q1, q2, q3, q4⟩
        · unfold Region.wanted; rw [s4]
        · rw [guard_ok hL q1 q2 (by rw [hLget t (hlookg g want t q1 q2)]; exact q3)]; exact q4
      rw [hw, if_pos rfl]
      left
      have hev : ∀ x ∈ o.op.operands, σL.ev x = σ1.ev x := fun x hx => by
        cases x with
        | tmp t =>
          have htl : t ∈ o.looksAt ops := List.mem_append_left _ (List.mem_filterMap.2 ⟨.tmp t, by simpa using hx, rfl⟩)
          show getT σL.t t = getT σ1.t t
          rw [hLget t htl, s1 t]
        | _ => rfl
      -- an operation that leaves the blocks
      have quietRun : (S (i + 1)).h = (S i).h → (∀ id ∈ (val i).all, cre L id) → (∀ κ2, opC TD K o σL κ2 = κ2 (val i) c.h) → o.wp P a c.w N Q := by
        intro hs hids hop
        classical
        refine opC_wp hT hK (r := (val i, c.h)) (κ := fun v h => if v = val i ∧ h = c.h then some (val i, c.h) else none) ((hop _).trans (by simp)) i2 hL (fun v c' x hk e1 e2 e3 => ?_)
        split at hk
        · rename_i hv
          obtain ⟨hv1, hv2⟩ := hv
          subst hv1
          exact hN _ c' (hnextQ hs x c' e1 e2 e3 hids hv2)
        · cases hk
      cases hf : heapFree TD o.op with
      | true =>
        have hop : ∀ κ2, opC TD K o σL κ2 = κ2 (val i) c.h := fun κ2 => by
          rw [opC_free hf (S i).h]
          have hc := opC_congr (TD := TD) (K := K) (o := o) (σ := { σL with h := (S i).h }) (σ' := σ1) (κ := fun v _ => κ2 v σL.h) s2.symm hev
          rw [hc, s3]
        refine quietRun (hquiet2 i o ho (.inl hf)) (fun id hid => ?_) hop
        rcases prov (by rw [hf]; rfl) i2 (σ := σL) rfl (fun x _ => ⟨_, hL.ev x⟩) hop id hid with ⟨x, _, h1⟩ | ⟨x, _, q, h1, h2⟩
        · exact hLcre x id h1
        · exact i11 q (hLcre x q (ids_all h1)) id h2
      | false =>
      cases hg : growOp o.op with
      | true =>
        -- what a reader looks at stands as it does in the written order
        have hstand : ∀ x ∈ o.op.operands, ∀ id ∈ (σL.ev x).ids, ∀ en, fitE o.op en = true → getE (S i).h id = en → getE c.h id = en := by
          intro x hx id hid en hen hge
          have hcr := hLcre x id (ids_all hid)
          have hal : en.alive = true := by
            unfold fitE at hen
            cases hlo : lenOp o.op with
            | true => rw [hlo, cond_true] at hen; cases en <;> first | rfl | (simp [E.rowy] at hen; done)
            | false => rw [hlo, cond_false] at hen; exact hen
          have hidi : id < (S i).h.length := alive_lt (by rw [hge]; exact hal)
          cases hstr : strOp TD o.op with
          | true =>
            exfalso
            rw [hev x hx, str_ids hstr s3 x hx] at hid
            cases hid
          | false =>
          have hrowy : rowRead TD ops i o = true → E.rowy en = true := by
            intro hrr
            unfold rowRead at hrr
            rcases Bool.or_eq_true_iff.1 hrr with hrr | hrr
            rcases Bool.or_eq_true_iff.1 hrr with hrr | hrr
            · unfold fitE at hen; rw [hrr, cond_true] at hen; exact hen
            · have := (idx_rowy hrr s3).1 x hx id (by rw [← hev x hx]; exact hid)
              rw [s2, hge] at this; exact this
            · unfold rowLoad at hrr
              split at hrr
              · rename_i tl t hop
                split at hrr
                · rename_i k9 hik
                  split at hrr
                  · rename_i q hqk
                    simp only [Bool.and_eq_true] at hrr
                    obtain ⟨⟨r1, r2⟩, r3⟩ := hrr
                    have hqd : q.dst = some t := by
                      cases hd : q.dst with
                      | none => rw [hd] at r2; cases r2
                      | some d => rw [hd] at r2; rw [Nat.eq_of_beq_eq_true r2]
                    have hqg : q.guard = none := by
                      cases hd : q.guard with
                      | none => rfl
                      | some d => rw [hd] at r3; cases r3
                    have hxt : x = .tmp t := by
                      rw [hop] at hx
                      simpa [Op.operands] using hx
                    subst hxt
                    have hqq : quietOp TD pureF q.op = true := by
                      cases hqo2 : q.op <;> rw [hqo2] at r1 <;> first | (simp [rowAddr] at r1; done) | rfl
                    have hqh := hquiet k9 q hqk hqq
                    rcases (hstep k9 q hqk).2.2 with ⟨_, _, _, z1, _⟩ | ⟨σ2, z1, z2, z3, _⟩
                    · rw [hqg] at z1; cases z1
                    have hv := (idx_rowy r1 z3).2
                    have ht2 := (hstep k9 q hqk).1 t
                    rw [hSn k9 (by omega)] at ht2
                    have hget : σL.ev (.tmp t) = getT (S (k9 + 1)).t t := hLget t (by
                      unfold Oper.looksAt
                      refine List.mem_append_left _ (List.mem_filterMap.2 ⟨.tmp t, ?_, rfl⟩)
                      rw [hop]; simp [Op.operands])
                    by_cases htn : t < σ.n
                    · rw [if_pos ⟨hqd, htn⟩] at ht2
                      rw [hget, ht2] at hid
                      have := hv id hid
                      rw [z2, ← hqh, hge] at this
                      exact this
                    · exfalso
                      have hund : a.tmps.getD t undef = undef := by simp [show ¬ t < a.tmps.size from by rw [i3]; exact htn]
                      have hvr := hL.ev (.tmp t)
                      have hev0 : a.eval (.tmp t) = a.tmps.getD t undef := rfl
                      rw [hev0, hund] at hvr
                      obtain ⟨od, oop, oty, opos, oaf, ogd⟩ := o
                      simp only at hop
                      subst hop
                      rcases load_ptr s3 with h0 | ⟨id2, ⟨off, h0⟩ | ⟨off, n2, i2, h0⟩⟩
                      · rw [← hev _ hx] at h0; rw [h0] at hid; cases hid
                      · rw [← hev _ hx] at h0; rw [h0] at hvr
                        obtain ⟨_, g, _, hp⟩ := (show VR0 c (.ptr id2 off) undef from hvr)
                        cases hp
                      · rw [← hev _ hx] at h0; rw [h0] at hvr
                        obtain ⟨_, _, g, _, hp⟩ := (show VR0 c (.elt id2 off n2 i2) undef from hvr)
                        cases hp
                  · cases hrr
                · cases hrr
              · cases hrr
          -- what an operation looks at is the same up to the one it must be apart from
          have hstl : ∀ (p q : Nat) (op : Oper), q ≤ ops.size → stillT ops p q op = true → ∀ x ∈ op.op.operands, ∀ q', p ≤ q' → q' ≤ q → (S q').ev x = (S p).ev x := by
            intro p q op hq hst x hx q' h1 h2
            cases x with
            | tmp t =>
              have htl : t ∈ op.looksAt ops := List.mem_append_left _ (List.mem_filterMap.2 ⟨.tmp t, by simpa using hx, rfl⟩)
              show getT (S q').t t = getT (S p).t t
              induction q' with
              | zero => obtain rfl : p = 0 := by omega
                        rfl
              | succ q' ih =>
                rcases Nat.lt_or_ge q' p with h3 | h3
                · obtain rfl : p = q' + 1 := by omega
                  rfl
                · have hoq : ops[q']? = some ops[q'] := by simp
                  have h4 := (hstep q' _ hoq).1 t
                  have h5 : ¬ (ops[q'].dst = some t ∧ t < (S q').n) := fun ⟨h6, _⟩ => by
                    unfold stillT at hst
                    simp only [List.all_eq_true, List.mem_range] at hst
                    have h7 := hst q' (by omega)
                    rw [hbg h3, Bool.false_or, hoq] at h7
                    simp only [h6] at h7
                    rw [any_beq.2 htl] at h7; cases h7
                  rw [if_neg h5] at h4
                  rw [h4]; exact ih h3 (by omega)
            | _ => rfl
          have hevS : ∀ (σ2 σ3 : St), (∀ t, getT σ2.t t = getT σ3.t t) → ∀ x, σ2.ev x = σ3.ev x := fun σ2 σ3 he x => by
            cases x with
            | tmp t => exact he t
            | _ => rfl
          have hxi : (σL.ev x).ids = ((S i).ev x).ids := by rw [hev x hx, hevS σ1 (S i) s1 x]
          have hpair : ∀ e oe, ops[e]? = some oe → e ≠ i → chainB TD pureF oe.op = true → addOp addF oe.op = true ∨ before_ M e i = true ∨ (e < i ∧ appOp oe.op = true) ∨ (i < e ∧ rowRead TD ops i o = true ∧ keepOp rowsF oe.op = true) ∨
              (storeOp oe.op = false ∧ ∀ y ∈ oe.op.operands, id ∉ ((S e).ev y).ids) := by
            intro e oe hoe hne hce
            simp only [chainB, Bool.not_eq_true', Bool.or_eq_false_iff] at hce
            obtain ⟨⟨⟨e1, e2⟩, e3⟩, e4⟩ := hce
            rcases D.pair e i oe o hoe ho hne with h4 | h4
            case inr =>
              right; right; right; right
              obtain ⟨op, oq, q1, q2, q3⟩ := D.need _ h4
              simp only at q1 q2 q3
              have hns : storeOp oe.op = false := by
                have hca : ∀ p : Op, callApp p = true → storeOp p = false := fun p hp => by
                  cases p <;> first | rfl | (simp [callApp, callOp, appOp] at hp)
                have hgr : growOp oe.op = false := e2
                simp only [needB, Bool.and_eq_true] at q3
                obtain ⟨⟨_, q4⟩, _⟩ := q3
                have hb : (op = oe ∧ oq = o) ∨ (op = o ∧ oq = oe) := need_pick hoe ho q1 q2
                rcases hb with ⟨rfl, rfl⟩ | ⟨rfl, rfl⟩
                · rw [hgr, Bool.false_and, Bool.false_or, Bool.and_eq_true] at q4; exact hca _ q4.1
                · rw [hgr, Bool.and_false, Bool.or_false, Bool.and_eq_true] at q4; exact hca _ q4.2
              refine ⟨hns, ?_⟩
              intro y hy hidy
              have hlt2 : max e i < ops.size := (Array.getElem?_eq_some_iff.1 q2).1
              have hap := hapart (max e i) hlt2
              unfold apartM at hap
              rw [List.all_eq_true] at hap
              have h5 := hap _ h4
              simp only [nbeq_self, Bool.not_true, Bool.false_or, q1, q2] at h5
              rw [List.all_eq_true] at h5
              simp only [needB, Bool.and_eq_true] at q3
              obtain ⟨⟨_, _⟩, q4⟩ := q3
              rcases Nat.lt_or_ge e i with h6 | h6
              · rw [Nat.min_eq_left (by omega)] at q1 q4; rw [Nat.max_eq_right (by omega)] at q2 q4 h5
                rw [hoe] at q1; rw [ho] at q2; cases q1; cases q2
                have h7 := h5 id (by
                  unfold idsAt
                  rw [List.mem_flatMap]
                  exact ⟨y, by simpa using hy, by rw [hstl e i oe (by omega) q4 y hy i (by omega) (Nat.le_refl _)]; exact hidy⟩)
                have h8 : (idsAt o (S i)).any (Nat.beq id) = true := any_beq.2 (by
                  unfold idsAt
                  rw [List.mem_flatMap]
                  exact ⟨x, by simpa using hx, by rw [← hxi]; exact hid⟩)
                rw [h8] at h7; cases h7
              · rw [Nat.min_eq_right (by omega)] at q1 q4; rw [Nat.max_eq_left (by omega)] at q2 q4 h5
                rw [ho] at q1; rw [hoe] at q2; cases q1; cases q2
                have h7 := h5 id (by
                  unfold idsAt
                  rw [List.mem_flatMap]
                  refine ⟨x, by simpa using hx, ?_⟩
                  rw [hstl i e o (by have := (Array.getElem?_eq_some_iff.1 hoe).1; omega) q4 x hx e (by omega) (Nat.le_refl _), ← hxi]; exact hid)
                have h8 : (idsAt oe (S e)).any (Nat.beq id) = true := any_beq.2 (by
                  unfold idsAt
                  rw [List.mem_flatMap]
                  exact ⟨y, by simpa using hy, hidy⟩)
                rw [h8] at h7; cases h7
            case inl =>
            have hfo : floatOp TD o.op = false := by
              cases hop : o.op <;> rw [hop] at hg <;> first | (simp [growOp] at hg; done) | rfl
            have hpo : pureOp pureF o.op = false := by
              cases hop : o.op <;> rw [hop] at hg <;> first | (simp [growOp] at hg; done) | rfl | skip
              rename_i cl
              obtain ⟨callee, cargs, cats⟩ := cl
              cases callee <;> first | rfl | (simp [growOp] at hg)
            unfold pairH at h4
            cases hs9 : storeOp oe.op || storeOp o.op with
            | true =>
              rw [hs9, cond_true, e1, hf] at h4
              exact .inr (.inl h4)
            | false =>
            rw [hs9, cond_false] at h4
            simp only [lenKeep, rowRead_no e2, str_no e2, hstr, e1, e2, e3, e4, hf, hfo, hpo, hg, Bool.false_and, Bool.and_false, Bool.false_or, Bool.or_false, Bool.true_and, Bool.and_true] at h4
            cases ha : addOp addF oe.op with
            | true => exact .inl rfl
            | false =>
              cases hb : Nat.blt e i && appOp oe.op with
              | true =>
                rw [Bool.and_eq_true, Nat.blt_eq] at hb
                exact .inr (.inr (.inl hb))
              | false =>
                cases hb2 : Nat.blt i e && rowRead TD ops i o && keepOp rowsF oe.op with
                | true =>
                  rw [Bool.and_eq_true, Bool.and_eq_true, Nat.blt_eq] at hb2
                  exact .inr (.inr (.inr (.inl ⟨hb2.1.1, hb2.1.2, hb2.2⟩)))
                | false =>
                  rw [ha, hb, hb2] at h4
                  exact .inr (.inl (by simpa using h4))
          have hsame : ∀ e oe, e < ops.size → ops[e]? = some oe → chainB TD pureF oe.op = true → (storeOp oe.op = false ∧ ∀ y ∈ oe.op.operands, id ∉ ((S e).ev y).ids) → id < (S e).h.length → getE (S (e + 1)).h id = getE (S e).h id := by
            intro e oe he hoe hce ⟨hns, hno⟩ hlt2
            simp only [chainB, Bool.not_eq_true', Bool.or_eq_false_iff] at hce
            obtain ⟨⟨⟨e1, e2⟩, e3⟩, e4⟩ := hce
            rcases (hstep e _ hoe).2.2 with ⟨_, _, _, _, _, _, _, s6⟩ | ⟨σ2, z1, z2, z3, _⟩
            · rw [s6]
            · obtain ⟨wr2, rd2, l1, _, l3⟩ := hloc e oe hoe e1 e2 hns σ2 z2 z3
              refine l1.old id hlt2 (fun hw2 => ?_)
              obtain ⟨y, hy, hidy⟩ := l3 id (l1.wrd id hw2)
              rw [hevS σ2 (S e) z1 y] at hidy
              exact hno y hy hidy
          -- what is not done yet adds or ends alone
          have hnew : ∀ b, b ≤ i → ∀ a', k ≤ a' → a' ≤ b → id < (S a').h.length → getE (S b).h id = en → getE (S a').h id = en := by
            intro b
            induction b with
            | zero => intro _ a' _ h2 _ h9; obtain rfl : a' = 0 := by omega
                      exact h9
            | succ b ih =>
              intro hb a' h1 h2 h8 h9
              rcases Nat.lt_or_ge b a' with h3 | h3
              · obtain rfl : a' = b + 1 := by omega
                exact h9
              have hlb : id < (S b).h.length := Nat.lt_of_lt_of_le h8 (hmono b (by omega) a' h3)
              refine ih (by omega) a' h1 h3 h8 ?_
              have hob : ops[b]? = some ops[b] := by simp
              cases hce : chainB TD pureF (ops[b]).op with
              | false => rw [← hstill1 b (by omega) _ hob hce id hlb]; exact h9
              | true =>
                rcases hpair b _ hob (by omega) hce with h4 | h4 | ⟨_, h4⟩ | ⟨h4, _⟩ | h4
                · rcases (hstep b _ hob).2.2 with ⟨_, _, _, _, _, _, _, s6⟩ | ⟨σ2, _, z2, z3, _⟩
                  · rw [← s6]; exact h9
                  · obtain ⟨n2, hn2⟩ := opC_add hadd h4 z3
                    rw [z2] at hn2
                    rw [hn2, getE_append_lt hlb] at h9; exact h9
                · exfalso
                  simp only [before_, hbl (show b < i by omega), cond_true] at h4
                  have := (k2 b _ hob hce).1 (hahead b h4)
                  omega
                · rcases (hstep b _ hob).2.2 with ⟨_, _, _, _, _, _, _, s6⟩ | ⟨σ2, _, z2, z3, _⟩
                  · rw [← s6]; exact h9
                  · have hnw : newOp (ops[b]).op = true := by
                      cases hop : (ops[b]).op <;> rw [hop] at h4 <;> first | (simp [appOp] at h4; done) | skip
                      rename_i cl
                      obtain ⟨callee, cargs, cats⟩ := cl
                      cases callee with
                      | builtin bi => cases bi <;> first | (simp [appOp] at h4; done) | rfl
                      | _ => simp [appOp] at h4
                    have hn2 := opC_new hnw z3
                    rw [z2] at hn2
                    exact hn2.2 id en hal hlb h9
                · omega
                · rw [← hsame b _ (by omega) hob hce h4 hlb]; exact h9
          rcases Nat.lt_or_ge id (S k).h.length with h1 | h1
          · rw [k3 id hcr h1]
            rcases Nat.lt_or_ge k i with h2 | h2
            · exact hnew i (Nat.le_refl _) k (Nat.le_refl _) (by omega) h1 hge
            · have step : ∀ q, i ≤ q → q ≤ k → getE (S q).h id = en := by
                intro q
                induction q with
                | zero => intro h3 _; obtain rfl : i = 0 := by omega
                          exact hge
                | succ q ih =>
                  intro h3 h4
                  rcases Nat.lt_or_ge q i with h5 | h5
                  · obtain rfl : i = q + 1 := by omega
                    exact hge
                  have hprev := ih h5 (by omega)
                  have hoq : ops[q]? = some ops[q] := by simp
                  have hpq : id < (S q).h.length := Nat.lt_of_lt_of_le hidi (hmono q (by omega) i h5)
                  cases hce : chainB TD pureF (ops[q]).op with
                  | false => rw [hstill1 q (by omega) _ hoq hce id hpq]; exact hprev
                  | true =>
                    have hne : q ≠ i := fun e => by
                      subst e
                      rw [ho] at hoq; injection hoq with hoq
                      rw [← hoq] at hce
                      simp [chainB, hg] at hce
                    rcases hpair q _ hoq hne hce with h6 | h6 | ⟨h6, _⟩ | ⟨_, h6, h7⟩ | h6
                    · rcases (hstep q _ hoq).2.2 with ⟨_, _, _, _, _, _, _, s6⟩ | ⟨σ2, _, z2, z3, _⟩
                      · rw [s6]; exact hprev
                      · obtain ⟨n2, hn2⟩ := opC_add hadd h6 z3
                        rw [hn2, z2, getE_append_lt hpq]; exact hprev
                    · exfalso
                      simp only [before_, hbg (show i ≤ q by omega), cond_false] at h6
                      have h7 := hbehind q _ hoq h6
                      rw [(k2 q _ hoq hce).2 (by omega)] at h7; cases h7
                    · omega
                    · rcases (hstep q _ hoq).2.2 with ⟨_, _, _, _, _, _, _, s6⟩ | ⟨σ2, _, z2, z3, _⟩
                      · rw [s6]; exact hprev
                      · exact opC_keep hwk h7 z3 id en (hrowy h6) (by rw [z2]; exact hprev)
                    · rw [hsame q _ (by omega) hoq hce h6 hpq]; exact hprev
              exact step k h2 (Nat.le_refl _)
          · have hki : k < i := by
              rcases Nat.lt_or_ge k i with h2 | h2
              · exact h2
              · have := hmono k k1 i h2; omega
            rcases hcr with h2 | ⟨j, h2, h3, h4, h5⟩
            · have := hmono k k1 0 (by omega); omega
            · have hkj : k ≤ j := by
                rcases Nat.lt_or_ge j k with h7 | h7
                · have := hmono k k1 (j + 1) (by omega); omega
                · exact h7
              have hji : j < i := by
                rcases Nat.lt_or_ge j i with h7 | h7
                · exact h7
                · have := hmono j (by omega) i h7; omega
              rw [k4 j hkj h2 h3 id h4 h5]
              exact hnew i (Nat.le_refl _) (j + 1) (by omega) (by omega) h5 hge
        have hop : ∀ κ2, opC TD K o σL κ2 = κ2 (val i) c.h := fun κ2 => by
          have hs : opC TD K o { σL with h := (S i).h } (fun v h => some (v, h)) = some (val i, (S (i + 1)).h) :=
            (opC_congr (TD := TD) (K := K) (o := o) (σ := { σL with h := (S i).h }) (σ' := σ1) s2.symm hev).trans (s3 _)
          exact opC_grow (σ := { σL with h := (S i).h }) hg (h2 := c.h) (fun x hx id hid => hstand x hx id (by rw [ev_heap] at hid; exact hid)) hs κ2
        refine quietRun (hquiet2 i o ho (.inr (.inl hg))) (fun id hid => ?_) hop
        rcases prov (by rw [hg, Bool.or_true]) i2 (σ := σL) rfl (fun x _ => ⟨_, hL.ev x⟩) hop id hid with ⟨x, _, h1⟩ | ⟨x, _, q, h1, h2⟩
        · exact hLcre x id h1
        · exact i11 q (hLcre x q (ids_all h1)) id h2
      | false =>
      cases hst0 : storeOp o.op with
      | true =>
        -- all that counts is done ahead of it, and nothing that comes behind it
        have hfl : floatOp TD o.op = false := by
          cases hop : o.op <;> rw [hop] at hst0 <;> first | (simp [storeOp] at hst0; done) | rfl
        have hpp : pureOp pureF o.op = false := by
          cases hop : o.op <;> rw [hop] at hst0 <;> first | (simp [storeOp] at hst0; done) | rfl
        have hc : chainB TD pureF o.op = true := by simp [chainB, hf, hg, hfl, hpp]
        have hord : ∀ e oe, ops[e]? = some oe → e ≠ i → heapFree TD oe.op = false → (L.getD e false = true ↔ e < i) := by
          intro e oe hoe hne hfe
          have hb : before_ M e i = true := by
            rcases D.pair e i oe o hoe ho hne with h4 | h4
            · unfold pairH at h4
              rw [hst0, Bool.or_true, cond_true, hfe, hf] at h4
              exact h4
            · exfalso
              obtain ⟨op, oq, q1, q2, q3⟩ := D.need _ h4
              simp only at q1 q2 q3
              have hca : callApp o.op = false := by
                cases hop : o.op <;> rw [hop] at hst0 <;> first | (simp [storeOp] at hst0; done) | rfl
              have hb : (op = oe ∧ oq = o) ∨ (op = o ∧ oq = oe) := need_pick hoe ho q1 q2
              rcases hb with ⟨rfl, rfl⟩ | ⟨rfl, rfl⟩ <;> simp [needB, hca, hg] at q3
          rcases Nat.lt_or_ge e i with h6 | h6
          · simp only [before_, hbl h6, cond_true] at hb
            exact ⟨fun _ => h6, fun _ => hahead e hb⟩
          · simp only [before_, hbg h6, cond_false] at hb
            rw [hbehind e oe hoe hb]
            exact ⟨fun h => (by cases h), fun h => (by omega)⟩
        have hfreeL : ∀ e oe, ops[e]? = some oe → heapFree TD oe.op = true → (S (e + 1)).h.length = (S e).h.length := fun e oe hoe hfe => by rw [hquiet2 e oe hoe (.inl hfe)]
        have hcrei : ∀ p, cre L p ↔ p < (S i).h.length := by
          intro p
          constructor
          · rintro (h1 | ⟨j, h1, h2, h3, h4⟩)
            · exact Nat.lt_of_lt_of_le h1 (hmono i (by omega) 0 (by omega))
            · have hoj : ops[j]? = some ops[j] := by simp
              have hji : j ≠ i := fun e => by subst e; rw [hun'] at h2; cases h2
              cases hfj : heapFree TD (ops[j]).op with
              | true => have := hfreeL j _ hoj hfj; omega
              | false =>
                have h5 := (hord j _ hoj hji hfj).1 h2
                exact Nat.lt_of_lt_of_le h4 (hmono i (by omega) (j + 1) (by omega))
          · intro h1
            rcases hbirth i (by omega) p h1 with h2 | ⟨j, h2, h3, h4⟩
            · exact .inl h2
            · have hoj : ops[j]? = some ops[j] := by simp
              refine .inr ⟨j, by omega, ?_, h3, h4⟩
              cases hfj : heapFree TD (ops[j]).op with
              | true => have := hfreeL j _ hoj hfj; omega
              | false => exact (hord j _ hoj (by omega) hfj).2 h2
        have hik : k ≤ i := by
          rcases Nat.lt_or_ge i k with h6 | h6
          · have := (k2 i o ho hc).2 h6
            rw [hun'] at this; cases this
          · exact h6
        obtain ⟨hnc, _⟩ := hchain (.inl hc) hf hfl hg
        obtain ⟨m1, m2⟩ := kmove hik hnc
        have hMi : (S i).h.length ≤ c.h.length := by rw [i10]; exact hmono _ (Nat.le_refl _) i (by omega)
        have h0i := hmono i (by omega) 0 (by omega)
        have h0l : c0.h.length ≤ (S 0).h.length := by
          rw [hS0, ht0.h]; exact hE0b.len
        have rname : ∀ p, p < (S i).h.length → reName (List.range (S i).h.length) p = some p := fun p hp =>
          reName_at List.nodup_range (by simpa using hp) (by simp [List.getD, hp])
        have hpt : ∀ {u : V} {y : Value}, VR c u y → (∀ id ∈ u.all, cre L id) → VR (c.pick (List.range (S i).h.length)) u y := fun hu hids => by
          have h2 := pick_vrT (ids := List.range (S i).h.length) hu
          rw [re_fix hu (fun id hid => rname id ((hcrei id).1 (hids id hid)))] at h2
          exact h2
        have hrt : Rel (c.pick (List.range (S i).h.length)) := pick_rel i2 List.nodup_range (fun p hp => by have := List.mem_range.1 hp; omega)
        have hth : (c.pick (List.range (S i).h.length)).h = (S i).h := by
          refine ext_getE (by simp [Cx.pick]) (fun p hp => ?_)
          have hp' : p < (S i).h.length := by simpa [Cx.pick] using hp
          rw [pick_get c _ (by simpa using hp'), show (List.range (S i).h.length).getD p 0 = p by simp [List.getD, hp']]
          rw [re_fixE (i2.ent p (by omega)) (fun id hid => rname id ((hcrei id).1 (i11 p ((hcrei p).2 hp') id hid)))]
          exact m1 p ((hcrei p).2 hp') hp'
        have hEt : Ext c0 (c.pick (List.range (S i).h.length)) := ext_pick i1 (by simp; omega) (fun q hq => by
          have : q < (S i).h.length := by omega
          simp [List.getD, this])
        have hLt : RelT (c.pick (List.range (S i).h.length)) { σL with h := (c.pick (List.range (S i).h.length)).h } a := ⟨i3, i4, rfl, fun t => by
          show VR _ (getT ((o.looksAt ops).map fun t => (t, getT (S i).t t)) t) _
          rw [getT_live (fun t => getT (S i).t t)]
          split
          · rename_i hm; exact hpt (hlook t hm).1 (hlook t hm).2
          · exact trivial⟩
        have hop : ∀ κ2, opC TD K o { σL with h := (c.pick (List.range (S i).h.length)).h } κ2 = κ2 (val i) (S (i + 1)).h := fun κ2 => by
          have hc := opC_congr (TD := TD) (K := K) (o := o) (σ := { σL with h := (c.pick (List.range (S i).h.length)).h }) (σ' := σ1) (κ := κ2) (by rw [s2]; exact hth) (fun x hx => by rw [ev_heap]; exact hev x hx)
          rw [hc]; exact s3 κ2
        have hsl : (S (i + 1)).h.length = (S i).h.length := by
          have := store_len hst0 s3
          rw [s2] at this; exact this
        have hiM := hmono ops.size (Nat.le_refl _) i (by omega)
        have hwt : (c.pick (List.range (S i).h.length)).w = c.w := rfl
        rw [← hwt]
        classical
        refine opC_wp hT hK (r := (val i, (S (i + 1)).h)) (κ := fun v h => if v = val i ∧ h = (S (i + 1)).h then some (val i, (S (i + 1)).h) else none) ((hop _).trans (by simp)) hrt hLt (fun v c' x hk e1 e2 e3 => ?_)
        split at hk
        · rename_i hv
          obtain ⟨hv1, hv2⟩ := hv
          subst hv1
          have hcl : c'.h.length = (S i).h.length := by rw [hv2]; exact hsl
          have hE2 : Ext c' (c'.pad (S ops.size).h.length) := ext_pad c' _
          have hcre4 : ∀ p, cre (L.setIfInBounds i true) p → cre L p := fun p hp => by
            rcases hcre2 p hp with h1 | ⟨h1, h2⟩
            · exact h1
            · omega
          refine hN _ (c'.pad (S ops.size).h.length) (hnext x _ ((hEt.trans e1).trans hE2) (rel_pad e2 _) (hE2.vr e3) (fun u y hu hids => hE2.vr (e1.vr (hpt hu hids))) (fun id hid => ?_) (pad_len (by omega)) (fun p hp id hid => ?_) ⟨i + 1, by omega, fun e oe hoe hce => ?_, fun p hp h1 => ?_, fun j h1 h2 h3 p h4 h5 => ?_, fun j oj h1 hoj hf2 h3 p h4 h5 => ?_⟩)
          · have := all_lt e3 id hid
            exact hcre1 id ((hcrei id).2 (by omega))
          · have hpl := (hcrei p).1 (hcre4 p hp)
            rw [(pad_lt (by omega)).1] at hid
            have := entIds_lt (e2.ent p (by omega)) id hid
            exact hcre1 id ((hcrei id).2 (by omega))
          · rw [hset]
            by_cases h2 : e = i
            · subst h2; simp
            · rw [if_neg h2]
              have hfe : heapFree TD oe.op = false := by
                cases hx : heapFree TD oe.op with
                | false => rfl
                | true => simp [chainB, hx] at hce
              rw [hord e oe hoe h2 hfe]
              omega
          · rw [(pad_lt (by omega)).1, hv2]
          · rw [hset] at h3
            have hoj : ops[j]? = some ops[j] := by simp
            cases hfj : heapFree TD (ops[j]).op with
            | true => have := hfreeL j _ hoj hfj; omega
            | false =>
              rw [if_neg (by omega)] at h3
              have := (hord j _ hoj (by omega) hfj).1 h3
              omega
          · rw [hset] at h3
            have hji : j ≠ i := fun e => by subst e; rw [if_pos rfl] at h3; cases h3
            rw [if_neg hji] at h3
            have hfj : heapFree TD oj.op = false := float_notfree hf2
            rw [(hord j oj hoj hji hfj).2 (by omega)] at h3; cases h3
        · cases hk
      | false =>
      obtain ⟨wr, rd, hl, hrdf, hrd⟩ := hloc i o ho hf hg hst0 σ1 s2 s3
      have hrdc : ∀ id ∈ rd, cre L id := fun id hid => by
        obtain ⟨x, hx, h1⟩ := hrd id hid
        rw [← hev x hx] at h1
        exact hLcre x id (ids_all h1)
      have hMi : (S i).h.length ≤ c.h.length := by rw [i10]; exact hmono _ (Nat.le_refl _) i (by omega)
      -- what is looked at stands as it does in the written order
      have hagree : ∀ id ∈ rd, (getE (S i).h id).alive = true → getE c.h id = getE (S i).h id := by
        intro id hid hal
        cases hfl : floatOp TD o.op with
        | true => rw [hrdf hfl] at hid; cases hid
        | false =>
          have hcp : chainB TD pureF o.op = true ∨ pureOp pureF o.op = true := by
            cases hpp : pureOp pureF o.op with
            | true => exact .inr rfl
            | false => left; simp [chainB, hf, hg, hfl, hpp]
          obtain ⟨n1, n2⟩ := hchain hcp hf hfl hg
          have hidi : id < (S i).h.length := alive_lt hal
          rcases Nat.lt_or_ge i k with h1 | h1
          · have hstl := hstill k k1 i (by omega) (fun e oe a1 a2 hoe => by
              rcases Nat.lt_or_ge i e with h2 | h2
              · exact n2 e oe h2 a2 hoe
              · obtain rfl : e = i := by omega
                rw [ho] at hoe; cases hoe
                cases hce : chainB TD pureF o.op with
                | false => rfl
                | true =>
                  have := (k2 e o ho hce).2 h1
                  rw [hun'] at this; cases this) id hidi
            rw [k3 id (hrdc id hid) (Nat.lt_of_lt_of_le hidi (hmono k k1 i (by omega)))]
            exact hstl
          · exact (kmove h1 n1).1 id (hrdc id hid) hidi
      obtain ⟨h2', run1, run2, run3, run4, run5⟩ := hl.run c.h hMi hagree
      have hop : ∀ κ2, opC TD K o σL κ2 = κ2 ((val i).mpT (upN (S i).h.length c.h.length)) h2' := fun κ2 => by
        have hc := opC_congr (TD := TD) (K := K) (o := o) (σ := σL) (σ' := { σ1 with h := c.h }) (κ := κ2) rfl (fun x hx => by rw [ev_heap]; exact hev x hx)
        rw [hc]; exact run1 κ2
      cases hpp : pureOp pureF o.op with
      | true =>
        -- nothing new
        have hs := hquiet2 i o ho (.inr (.inr hpp))
        have hh2 : h2' = c.h := by
          have e1 := hop (fun v h => some (v, h))
          rw [opC_quiet hp (pure_quiet hpp).1] at e1
          rw [hop] at e1
          injection e1 with e1; injection e1 with _ e1; exact e1.symm
        subst hh2
        classical
        refine opC_wp hT hK (r := (val i, c.h)) (κ := fun v h => if v = (val i).mpT (upN (S i).h.length c.h.length) ∧ h = c.h then some (val i, c.h) else none) ((hop _).trans (by simp)) i2 hL (fun v c' x hk e1 e2 e3 => ?_)
        split at hk
        · rename_i hv
          obtain ⟨hv1, hv2⟩ := hv
          subst hv1
          have hids : ∀ id ∈ (val i).all, id ∈ wr := fun id hid => by
            rcases hl.vids id hid with h1 | h1
            · exact h1
            · have h3 := all_lt e3 _ (mp_all (f := upN (S i).h.length c.h.length) hid)
              rw [upN_ge h1, hv2] at h3
              omega
          have hvv : (val i).mpT (upN (S i).h.length c.h.length) = val i := by
            rw [mp_congr (g := fun p => p) (fun id hid => upN_lt (hl.wlt id (hids id hid)))]
            exact hl.vnf
          rw [hvv] at e3
          exact hN _ c' (hnextQ hs x c' e1 e2 e3 (fun id hid => hrdc id (hl.wrd id (hids id hid))) hv2)
        · cases hk
      | false =>
        -- blocks are added
        have hm1 := hmono1 i hlt
        have hm2 := hmono ops.size (Nat.le_refl _) (i + 1) (by omega)
        classical
        refine opC_wp hT hK (r := (val i, h2')) (κ := fun v h => if v = (val i).mpT (upN (S i).h.length c.h.length) ∧ h = h2' then some (val i, h2') else none) ((hop _).trans (by simp)) i2 hL (fun v c' x hk e1 e2 e3 => ?_)
        split at hk
        · rename_i hv
          obtain ⟨hv1, hv2⟩ := hv
          subst hv1
          subst hv2
          have hwrc : ∀ p ∈ wr, cre L p := fun p hp => hrdc p (hl.wrd p hp)
          rw [i10] at e3 run2 run3 run4 run5
          obtain ⟨z1, z2, z3, z4, z5, z6, z7, z8⟩ := reloc (c := c) (c' := c') (x := x) e1 e2 (M := (S ops.size).h.length) (a := (S i).h.length) (m := (S (i + 1)).h.length - (S i).h.length) (by omega) i10 run2
            (h := (S i).h) (h' := (S (i + 1)).h) (v := val i) (wr := wr) hl.vnf hl.vids hl.wlt hl.new hl.enf run3 run4 run5 e3 (cre := cre L)
            (fun p hp => ⟨hcreM L p hp, fun h3 => hcreN p hp ⟨h3.1, by omega⟩⟩) hwrc i11
          have eam : (S i).h.length + ((S (i + 1)).h.length - (S i).h.length) = (S (i + 1)).h.length := by omega
          rw [eam] at z4 z6 z7 z8
          have hcr' : ∀ id, (cre L id ∨ ((S i).h.length ≤ id ∧ id < (S (i + 1)).h.length)) → cre (L.setIfInBounds i true) id := fun id h3 => by
            rcases h3 with h3 | h3
            · exact hcre1 id h3
            · exact hcre3 id h3.1 h3.2
          have hE0 := i1.trans e1
          have h0l : c0.h.length ≤ (S 0).h.length := by
            rw [hS0, ht0.h]; exact hE0b.len
          have hEx : Ext c0 (c'.pick (mvL (S i).h.length (S ops.size).h.length ((S (i + 1)).h.length - (S i).h.length))) := by
            have h0i := hmono i (by omega) 0 (by omega)
            refine ext_pick hE0 (by rw [mvL_len]; omega) (fun q hq => mvL_out (by omega) (by omega))
          refine hN _ (c'.pick (mvL (S i).h.length (S ops.size).h.length ((S (i + 1)).h.length - (S i).h.length))) (hnext x _ hEx z1 z3 z5 (fun id hid => hcr' id (z4 id hid)) z2 (fun p hp id hid => ?_) ?_)
          · rcases hcre2 p hp with h3 | ⟨h3, h4⟩
            · rcases Nat.lt_or_ge p (S i).h.length with h5 | h5
              · rcases z7 p h3 h5 with ⟨h6, _⟩ | ⟨_, h6, h7⟩
                · rw [h6] at hid; exact hcre1 id (i11 p h3 id hid)
                · rw [h6] at hid; exact hcr' id (h7 id hid)
              · have h6 : (S (i + 1)).h.length ≤ p := by
                  rcases Nat.lt_or_ge p (S (i + 1)).h.length with h7 | h7
                  · exact absurd ⟨h5, h7⟩ (hcreN p h3)
                  · exact h7
                rw [z8 p h3 h6] at hid; exact hcre1 id (i11 p h3 id hid)
            · obtain ⟨h5, h6⟩ := z6 p h3 h4
              rw [h5] at hid; exact hcr' id (h6 id hid)
          · cases hfl : floatOp TD o.op with
            | true =>
              have hwr0 : ∀ p, p ∉ wr := fun p hp => by
                have := hl.wrd p hp
                rw [hrdf hfl] at this; cases this
              have hoth : ∀ p, cre L p → getE (c'.pick (mvL (S i).h.length (S ops.size).h.length ((S (i + 1)).h.length - (S i).h.length))).h p = getE c.h p := fun p hp => by
                rcases Nat.lt_or_ge p (S i).h.length with h5 | h5
                · rcases z7 p hp h5 with ⟨h6, _⟩ | ⟨h6, _⟩
                  · exact h6
                  · exact absurd h6 (hwr0 p)
                · refine z8 p hp ?_
                  rcases Nat.lt_or_ge p (S (i + 1)).h.length with h7 | h7
                  · exact absurd ⟨h5, h7⟩ (hcreN p hp)
                  · exact h7
              refine ⟨k, k1, fun e oe hoe hce => ?_, fun p hp h3 => ?_, fun j h3 h4 h5 p h6 h7 => ?_, fun j oj h3 hoj hf2 h5 p h6 h7 => ?_⟩
              · rw [hset]
                by_cases h3 : e = i
                · subst h3
                  rw [ho] at hoe; cases hoe
                  simp [chainB, hfl] at hce
                · rw [if_neg h3]; exact k2 e oe hoe hce
              · rcases hcre2 p hp with h4 | ⟨h4, h5⟩
                · rw [hoth p h4]; exact k3 p h4 h3
                · rw [(z6 p h4 h5).1]
                  have hik : i < k := by
                    rcases Nat.lt_or_ge i k with h6 | h6
                    · exact h6
                    · have := hmono i (by omega) k h6; omega
                  exact (k5 i o hik ho hfl hun' p h4 h5).symm
              · rw [hset] at h5
                by_cases h8 : j = i
                · subst h8; exact (z6 p h6 h7).1
                · rw [if_neg h8] at h5
                  rw [hoth p (.inr ⟨j, h4, h5, h6, h7⟩)]
                  exact k4 j h3 h4 h5 p h6 h7
              · rw [hset] at h5
                by_cases h8 : j = i
                · rw [if_pos h8] at h5; cases h5
                · rw [if_neg h8] at h5
                  exact k5 j oj h3 hoj hf2 h5 p h6 h7
            | false =>
              have hc : chainB TD pureF o.op = true := by simp [chainB, hf, hg, hfl, hpp]
              have hik : k ≤ i := by
                rcases Nat.lt_or_ge i k with h6 | h6
                · have := (k2 i o ho hc).2 h6
                  rw [hun'] at this; cases this
                · exact h6
              obtain ⟨hnc, _⟩ := hchain (.inl hc) hf hfl hg
              obtain ⟨m1, m2⟩ := kmove hik hnc
              refine ⟨i + 1, by omega, fun e oe hoe hce => ?_, fun p hp h3 => ?_, fun j h3 h4 h5 p h6 h7 => ?_, fun j oj h3 hoj hf2 h5 p h6 h7 => ?_⟩
              · rw [hset]
                by_cases h3 : e = i
                · subst h3; simp
                · rw [if_neg h3]
                  constructor
                  · intro h4; have := (k2 e oe hoe hce).1 h4; omega
                  · intro h4
                    rcases Nat.lt_or_ge e k with h5 | h5
                    · exact (k2 e oe hoe hce).2 h5
                    · have := hnc e oe h5 (by omega) hoe
                      rw [hce] at this; cases this
              · rcases hcre2 p hp with h4 | ⟨h4, h5⟩
                · have h5 : p < (S i).h.length := by
                    rcases Nat.lt_or_ge p (S i).h.length with h6 | h6
                    · exact h6
                    · exact absurd ⟨h6, h3⟩ (hcreN p h4)
                  rcases z7 p h4 h5 with ⟨h6, h7⟩ | ⟨_, h6, _⟩
                  · rw [h6, h7]; exact m1 p h4 h5
                  · exact h6
                · exact (z6 p h4 h5).1
              · rw [hset] at h5
                by_cases h8 : j = i
                · omega
                · rw [if_neg h8] at h5
                  have hmj := hmono j (by omega) (i + 1) h3
                  rw [z8 p (.inr ⟨j, h4, h5, h6, h7⟩) (by omega)]
                  exact k4 j (by omega) h4 h5 p h6 h7
              · rw [hset] at h5
                by_cases h8 : j = i
                · rw [if_pos h8] at h5; cases h5
                · rw [if_neg h8] at h5
                  have hji : j < i := by omega
                  have hmj := hmono i (by omega) (j + 1) (by omega)
                  have hm0 := hmono j (by omega) 0 (by omega)
                  have hnw : p ∉ wr := fun hp => by
                    rcases hwrc p hp with h9 | ⟨j2, h9, h10, h11, h12⟩
                    · omega
                    · have := hborn j j2 p (by omega) h9 h6 h7 h11 h12
                      subst this
                      rw [h5] at h10; cases h10
                  rw [hl.old p (by omega) hnw]
                  exact m2 j oj hji hoj hf2 h5 p h6 h7
        · cases hk
  -- all orders
  have hnone : ∀ (L : Array Bool), L.size = ops.size → Region.ready .any ops L = [] → ∀ j, j < ops.size → L.getD j false = true := by
    intro L hLs hre j
    induction j using Nat.strongRecOn with
    | _ j ih =>
      intro hj
      cases hl : L.getD j false with
      | true => rfl
      | false =>
        exfalso
        have ho : ops[j]? = some ops[j] := by simp
        have : j ∈ Region.ready .any ops L := by
          refine mem_ready.2 ⟨?_, _, ho, fun e he hb => ?_⟩
          · have : j < L.size := by omega
            simp [this] at hl ⊢; exact hl
          · have hlt := D.lt j _ ho e he hb
            exact ih e.on hlt (by omega)
        rw [hre] at this; cases this
  have hall : ∀ (fuel : Nat) (L : Array Bool) (a : Act) (c : Cx), Inv L a c → ((List.range ops.size).filter fun j => !L.getD j false).length ≤ fuel → wpAny P .any ops Q fuel L a c.w := by
    intro fuel
    induction fuel with
    | zero =>
      intro L a c hI hc
      have hall : ∀ j, j < ops.size → L.getD j false = true := fun j hj => by
        have h0 : (List.range ops.size).filter (fun j => !L.getD j false) = [] := List.eq_nil_of_length_eq_zero (by omega)
        rw [List.filter_eq_nil_iff] at h0
        have := h0 j (List.mem_range.2 hj)
        simpa using this
      refine ⟨?_, hend L a c hI hall⟩
      cases hre : Region.ready .any ops L with
      | nil => rfl
      | cons i rs =>
        have hi : i ∈ Region.ready .any ops L := by rw [hre]; simp
        obtain ⟨h1, o, ho, _⟩ := mem_ready.1 hi
        have hlt := (Array.getElem?_eq_some_iff.1 ho).1
        have h2 := hall i hlt
        have h3 : i < L.size := by have := hI.2.2.2.2.1; omega
        simp [h3] at h1 h2
        rw [h2] at h1; cases h1
    | succ fuel ih =>
      intro L a c hI hc
      have hLs := hI.2.2.2.2.1
      refine ⟨fun hre => hend L a c hI (hnone L hLs hre), fun i hi => ?_⟩
      refine hone L a c hI i hi _ (fun a' c' hI' => ih _ a' c' hI' ?_)
      obtain ⟨h1, o, ho, _⟩ := mem_ready.1 hi
      have hlt := (Array.getElem?_eq_some_iff.1 ho).1
      have h3 : i < L.size := by omega
      have hun : L.getD i false = false := by simp [h3] at h1 ⊢; exact h1
      have hset : ∀ j, (L.setIfInBounds i true).getD j false = if j = i then true else L.getD j false := fun j => by
        by_cases hj : j = i
        · subst hj; simp [h3]
        · have : ¬ i = j := fun e => hj e.symm
          simp [hj, Array.getElem?_setIfInBounds_ne this]
      have hf : (List.range ops.size).filter (fun j => !(L.setIfInBounds i true).getD j false) = ((List.range ops.size).filter fun j => !L.getD j false).filter fun j => !(Nat.beq j i) := by
        rw [List.filter_filter]
        refine List.filter_congr (fun j _ => ?_)
        rw [hset]
        by_cases hj : j = i
        · subst hj; simp [nbeq_self]
        · simp [hj, nbeq_ne hj]
      rw [hf]
      have : (((List.range ops.size).filter fun j => !L.getD j false).filter fun j => !(Nat.beq j i)).length < ((List.range ops.size).filter fun j => !L.getD j false).length := by
        rw [List.length_filter_lt_length_iff_exists]
        exact ⟨i, List.mem_filter.2 ⟨List.mem_range.2 hlt, by rw [hun]; rfl⟩, by simp [nbeq_self]⟩
      omega
  -- the beginning
  have hl0 : c.h.length = (S 0).h.length := by rw [hS0, ht0.h]
  have hno : ∀ j, (Array.replicate ops.size false).getD j false = false := fun j => by
    by_cases hj : j < ops.size
    · simp [hj]
    · simp [hj]
  have hcre0 : ∀ p, cre (Array.replicate ops.size false) p → p < c.h.length := by
    rintro p (h1 | ⟨j, _, h2, _⟩)
    · omega
    · rw [hno] at h2; cases h2
  have hm0 := hmono ops.size (Nat.le_refl _) 0 (by omega)
  have hEd : Ext c (c.drew.pad (S ops.size).h.length) := (ext_drew c).trans (ext_pad c.drew _)
  have hIw : Inv (Array.replicate ops.size false) a (c.drew.pad (S ops.size).h.length) := by
    refine ⟨hE0.trans hEd, rel_pad (rel_drew hr0) _, ht0.size, ht0.defers, by simp, fun j o ho hl => ?_, fun t j o ho hdj htn hl => ?_, fun t _ => hEd.vr (ht0.t t), fun j hj hl => ?_, pad_len (c := c.drew) (by show c.h.length ≤ _; omega), fun p hp id hid => ?_, 0, Nat.zero_le _, fun e o ho hc => ?_, fun p hp h1 => ?_, fun j h1 h2 h3 => ?_, fun j o h1 => ?_⟩
    · rw [hno] at hl; cases hl
    · rw [hno] at hl; cases hl
    · rw [hno] at hl; cases hl
    · have hpl := hcre0 p hp
      rw [(pad_lt (c := c.drew) hpl).1] at hid
      have := entIds_lt (hr0.ent p hpl) id hid
      exact .inl (by omega)
    · rw [hno]
      exact ⟨fun h => (by cases h), fun h => (by omega)⟩
    · rw [(pad_lt (c := c.drew) (hcre0 p hp)).1, hS0, ht0.h]
      rfl
    · rw [hno] at h3; cases h3
    · omega
  refine hall ops.size _ a _ hIw ?_
  exact Nat.le_trans (List.length_filter_le _ _) (by simp)

theorem drawAny_ok (hT : TyOk P TD) (hK : KOk P K) (hm : P.follows .mixedOrders = true) {pf : FuncId → Bool × Bool × Bool} (hp : PureOk K fun f => (pf f).1) (hw : KeepOk K fun f => (pf f).2.1) (hadd : AddOk K fun f => (pf f).2.2) (hL : LocK K) : DrawOk P TD K (drawAny TD pf) := by
  intro ops Q r κ c0 σ a c id need hd h1 h2 hE hr ht hQ
  unfold drawAny at hd
  cases hb : drawOk TD pf ops with
  | true =>
    rw [hb, cond_true] at hd
    injection hd with hd
    subst hd
    exact draw_ok hT hK hm hp hw hadd ops Q r κ c0 σ a c id hb (h1 rfl) hE hr ht hQ
  | false =>
    rw [hb, cond_false] at hd
    cases hb2 : drawFl TD pf ops (needFl TD pf ops (reachL ops.toList [])) with
    | false => rw [hb2] at hd; cases hd
    | true =>
      rw [hb2, cond_true] at hd
      injection hd with hd
      rw [hd] at hb2
      refine drawFl_ok hT hK hm hp hw hadd hL ops Q r κ c0 σ a c id need hb2 ?_ hE hr ht hQ
      by_cases hn : need = []
      · obtain ⟨S, val, a1, a2, a3⟩ := trace_of hK ops.toList σ (h1 hn)
        exact ⟨S, val, a1, a2, fun i _ => by subst hn; rfl, a3⟩
      · obtain ⟨S, val, a1, a2, a3, a4⟩ := traceM hK ops.toList 0 σ (h2 hn)
        exact ⟨S, val, a1, a2, fun i hi => by have := a3 i hi; rw [Nat.zero_add] at this; exact this, a4⟩
end

end Go.Proofs.Ytgpgifpblchjjaa.D
/- Small words for twins that are written by program off the translated code. Conditions: none. -/
namespace Go.Proofs.Ytgpgifpblchjjaa.D
open Go.RowKit
set_option linter.unusedVariables false
set_option linter.unusedSimpArgs false

/-- What goes on with an answer, or without one. -/
def optC {α β : Type} (o : Option β) (f : β → α) (fail : α) : α :=
  match o with
  | some b => f b
  | none => fail
def sumC {α β γ : Type} (q : α ⊕ β) (f : α → γ) (g : β → γ) : γ :=
  match q with
  | .inl a => f a
  | .inr b => g b
theorem apply_sumC {α β γ δ : Type} (k : γ → δ) (q : α ⊕ β) (f : α → γ) (g : β → γ) : k (sumC q f g) = sumC q (fun a => k (f a)) (fun b => k (g b)) := by
  cases q <;> rfl
theorem sumC_congr {α β γ : Type} {q : α ⊕ β} {f f' : α → γ} {g g' : β → γ} (hf : ∀ a, f a = f' a) (hg : ∀ b, g b = g' b) : sumC q f g = sumC q f' g' := by
  cases q with
  | inl a => exact hf a
  | inr b => exact hg b
theorem apply_optC {α β γ : Type} (g : α → γ) (o : Option β) (f : β → α) (fail : α) : g (optC o f fail) = optC o (fun b => g (f b)) (g fail) := by
  cases o <;> rfl
theorem apply_cnd {α γ : Type} (g : α → γ) (b : Bool) (x y : α) : g (cond b x y) = cond b (g x) (g y) := by cases b <;> rfl

theorem cnd_congr {α : Type} {b : Bool} {x y x' y' : α} (hx : x = x') (hy : y = y') : cond b x y = cond b x' y' := by rw [hx, hy]
theorem optC_congr {α β : Type} {o : Option β} {f g : β → α} {fail : α} (h : ∀ r, f r = g r) : optC o f fail = optC o g fail := by
  cases o with
  | none => rfl
  | some b => exact h b
theorem optC_law2 {β : Type} {o : Option β} {F : β → (V → List E → R) → R} {κ : V → List E → R} {r : V × List E} (hF : ∀ b κ r, F b κ = some r → ∃ v h', κ v h' = some r ∧ ∀ κ2, F b κ2 = κ2 v h')
    (h : optC o (fun b => F b κ) none = some r) : ∃ v h', κ v h' = some r ∧ ∀ κ2, optC o (fun b => F b κ2) none = κ2 v h' := by
  cases o with
  | none => cases h
  | some b => exact hF b κ r h

/-- How many rounds and calls are granted: more than any here takes. -/
theorem fuel_ex : ∃ n : Nat, 1000000000 ≤ n := ⟨1000000000, Nat.le_refl _⟩
noncomputable def FUEL : Nat := Classical.choose fuel_ex
theorem FUEL_le : 1000000000 ≤ FUEL := Classical.choose_spec fuel_ex

/-- What is done behind the loop with a number. -/
def afterC (TD : TypeId → Option TI) (K : FuncId → List V → List E → (V → List E → R) → R) (ann : Nat → List Nat × List Nat) (drawOk : Array Oper → Option (List (Nat × Nat))) (m fuel : Nat) (id : Nat) : Code → (X → St → R) → Option (X → St → R)
  | .seq a b, k =>
    match afterC TD K ann drawOk m fuel id a (seqK ann m b (fun σ => denC TD K ann drawOk m fuel b σ k) k) with
    | some r => some r
    | none => afterC TD K ann drawOk m fuel id b k
  | .cond _ a b, k =>
    match afterC TD K ann drawOk m fuel id a k with
    | some r => some r
    | none => afterC TD K ann drawOk m fuel id b k
  | .block j c, k => afterC TD K ann drawOk m fuel id c (fun x σ' => match x with
      | .exit i => bif Nat.beq i j then k .normal σ' else k (.exit i) σ'
      | x => k x σ')
  | .loop c, k => bif Nat.beq (headId c) id then some k else none
  | _, _ => none
/-- A row of steps, one after the other. -/
def tailsC : Nat → Code → Code
  | 0, c => c
  | n + 1, .seq _ b => tailsC n b
  | _, c => c
def headsC (n : Nat) (c : Code) : Code := match tailsC n c with
  | .seq a _ => a
  | c => c
def finC (TD : TypeId → Option TI) (m : Nat) (fn : Func) (κ : V → List E → R) : X → St → R := fun x σ => match x with
  | .exit _ => none
  | _ => match resAll TD σ fn.results.toList with
    | some vs => outC m vs σ.h κ
    | none => none
def roundC (m : Nat) (live out : List Nat) (it : St → R) (k : X → St → R) : X → St → R := fun x σ' => match x with
  | .normal => it (norm m live σ')
  | x => k x (norm m out σ')

/-- What is known of a function: which slices it may keep, its parameters, what it answers. -/
structure Spec where
  keep : Bool
  pure : Bool
  add : Bool
  ds : List TypeDesc
  sp : List V → List E → (V → List E → R) → R

def tableK : List (FuncId × Spec) → FuncId → List V → List E → (V → List E → R) → R
  | [], _, _, _, _ => none
  | (g, s) :: r, f, args, h, κ => bif Nat.beq g f then callC s.keep s.ds s.sp args h κ else tableK r f args h κ
def tableP : List (FuncId × Spec) → FuncId → Bool × Bool × Bool
  | [], _ => (false, false, false)
  | (g, s) :: r, f => bif Nat.beq g f then (s.pure, s.ds.all fun d => !rwD d, s.add) else tableP r f

structure SpecOk (P : Program) (f : FuncId) (s : Spec) : Prop where
  ok : FnOk P f s.sp
  fn : ∃ fn, P.funcs[f]? = some fn ∧ fn.body.isNone = false ∧ (fn.name == "runtime.NumGoroutine") = false
  law : ∀ args h κ r, s.sp args h κ = some r → ∃ v h', κ v h' = some r ∧ ∀ κ2, s.sp args h κ2 = κ2 v h'
  pur : s.pure = true → ∀ args h κ r, s.sp args h κ = some r → h = [] ∧ ∀ κ2, s.sp args h κ2 = s.sp args h fun v _ => κ2 v []
  ad : s.add = true → ∀ args h κ r, s.sp args h κ = some r → h = []

theorem callC_law {keep : Bool} {ds : List TypeDesc} {sp : List V → List E → (V → List E → R) → R} (hl : ∀ args h κ r, sp args h κ = some r → ∃ v h', κ v h' = some r ∧ ∀ κ2, sp args h κ2 = κ2 v h')
    {args : List V} {h : List E} {κ : V → List E → R} {r : V × List E} (hc : callC keep ds sp args h κ = some r) : ∃ v h', κ v h' = some r ∧ ∀ κ2, callC keep ds sp args h κ2 = κ2 v h' := by
  unfold callC at hc
  split at hc
  · rename_i args' ids hp
    obtain ⟨v, h', h1, h2⟩ := hl _ _ _ _ hc
    refine ⟨_, _, h1, fun κ2 => ?_⟩
    simp only [callC, hp]
    exact h2 _
  · cases hc

theorem table_ok {P : Program} : ∀ (T : List (FuncId × Spec)), (∀ p ∈ T, SpecOk P p.1 p.2) → KOk P (tableK T) := by
  intro T
  induction T with
  | nil => intro _; exact ⟨fun f args h κ r hh => (by cases hh), fun f args h κ r hh => (by cases hh), fun f args h κ r hh => (by cases hh)⟩
  | cons p T ih =>
    intro hT
    obtain ⟨g, s⟩ := p
    have ih' := ih (fun q hq => hT q (by simp [hq]))
    have hs : SpecOk P g s := hT (g, s) (by simp)
    refine ⟨fun f args h κ r hh => ?_, fun f args h κ r hh => ?_, fun f args h κ r hh c cargs hc hr ha => ?_⟩
    · simp only [tableK] at hh
      by_cases hg : g = f
      · subst hg; exact hs.fn
      · rw [nbeq_ne hg, cond_false] at hh; exact ih'.fn f args h κ r hh
    · simp only [tableK] at hh ⊢
      by_cases hg : g = f
      · subst hg
        rw [nbeq_self, cond_true] at hh
        obtain ⟨v, h', h1, h2⟩ := callC_law hs.law hh
        exact ⟨v, h', h1, fun κ2 => by rw [nbeq_self, cond_true]; exact h2 κ2⟩
      · rw [nbeq_ne hg, cond_false] at hh
        obtain ⟨v, h', h1, h2⟩ := ih'.law f args h κ r hh
        exact ⟨v, h', h1, fun κ2 => by rw [nbeq_ne hg, cond_false]; exact h2 κ2⟩
    · simp only [tableK] at hh
      by_cases hg : g = f
      · subst hg
        rw [nbeq_self, cond_true] at hh
        subst hc
        exact callC_ok hs.ok hh hr ha
      · rw [nbeq_ne hg, cond_false] at hh; exact ih'.ok f args h κ r hh c cargs hc hr ha

theorem table_pure {P : Program} : ∀ (T : List (FuncId × Spec)), (∀ p ∈ T, SpecOk P p.1 p.2) → PureOk (tableK T) (fun f => (tableP T f).1) := by
  intro T
  induction T with
  | nil => intro _ f hf; cases hf
  | cons p T ih =>
    intro hT
    obtain ⟨g, s⟩ := p
    have ih' := ih (fun q hq => hT q (by simp [hq]))
    have hs : SpecOk P g s := hT (g, s) (by simp)
    intro f hf args h κ
    simp only [tableP] at hf
    simp only [tableK]
    by_cases hg : g = f
    · subst hg
      rw [nbeq_self, cond_true] at hf ⊢
      rw [cond_true]
      unfold callC
      cases hp : passA s.keep h s.ds args with
      | none => rfl
      | some q =>
        obtain ⟨args', ids⟩ := q
        simp only
        -- the callee's own answer
        cases hsome : s.sp args' (ids.map (getE h)) (fun v h1 => some (v, h1)) with
        | none =>
          have hn : ∀ κ2, s.sp args' (ids.map (getE h)) κ2 = none := fun κ2 => by
            cases hx : s.sp args' (ids.map (getE h)) κ2 with
            | none => rfl
            | some r =>
              obtain ⟨v, h', _, h2⟩ := hs.law _ _ _ _ hx
              rw [h2] at hsome; cases hsome
          rw [hn, hn]
        | some r =>
          obtain ⟨h1, h2⟩ := hs.pur hf _ _ _ _ hsome
          have hids : ids = [] := by
            cases ids with
            | nil => rfl
            | cons i ids => simp at h1
          subst hids
          rw [h2, h2 (fun v h1 => κ _ _)]
          simp [backE]
    · rw [nbeq_ne hg, cond_false] at hf ⊢
      rw [cond_false]
      exact ih' f hf args h κ

theorem passVs_ids {keep : Bool} {h : List E} : ∀ {cs : List Nat} {vs : List V} {ids : List Nat} {q : List V × List Nat}, passVs false keep h cs vs ids = some q → q.2 = ids := by
  intro cs
  induction cs with
  | nil =>
    intro vs ids q hq
    cases vs with
    | nil => simp [passVs] at hq; rw [← hq]
    | cons v r => simp [passVs] at hq
  | cons code cs ih =>
    intro vs ids q hq
    cases vs with
    | nil => simp [passVs] at hq
    | cons v vs =>
      simp only [passVs] at hq
      cases hp : passV false keep h code ids v with
      | none => rw [hp] at hq; cases hq
      | some p =>
        rw [hp] at hq
        simp only [Option.map_eq_some_iff] at hq
        obtain ⟨u, h3, rfl⟩ := hq
        have hpi : p.2 = ids := by
          cases v with
          | own id =>
            simp only [passV] at hp
            split at hp
            · rw [cond_false, Option.some.injEq] at hp; rw [← hp]
            · cases hp
          | sub id o n =>
            simp only [passV] at hp
            split at hp
            · rw [cond_false, Option.some.injEq] at hp; rw [← hp]
            · cases hp
          | nil =>
            simp only [passV] at hp
            split at hp
            · rw [Option.some.injEq] at hp; rw [← hp]
            · cases hp
          | ro s l => simp only [passV, Option.some.injEq] at hp; rw [← hp]
          | int k n => simp only [passV, Option.some.injEq] at hp; rw [← hp]
          | bool b => simp only [passV, Option.some.injEq] at hp; rw [← hp]
          | str b => simp only [passV, Option.some.injEq] at hp; rw [← hp]
          | _ => simp [passV] at hp
        have := ih h3
        rw [← hpi]; exact this
/-- What a call hands over when no row is written: blocks of cells. -/
theorem pass_cells {keep : Bool} {h : List E} : ∀ (ds : List TypeDesc) (args : List V) (ids0 : List Nat) (args' : List V) (ids : List Nat), (ds.all fun d => !rwD d) = true →
    passC keep h ds args ids0 = some (args', ids) → (∀ i ∈ ids0, (getE h i).rowy = false) → ∀ i ∈ ids, (getE h i).rowy = false := by
  intro ds
  induction ds with
  | nil =>
    intro args ids0 args' ids _ h1 h0
    cases args with
    | nil => simp [passC] at h1; obtain ⟨_, rfl⟩ := h1; exact h0
    | cons v r => simp [passC] at h1
  | cons d ds ih =>
    intro args ids0 args' ids hd h1 h0
    rw [List.all_cons, Bool.and_eq_true] at hd
    obtain ⟨hd1, hd2⟩ := hd
    cases args with
    | nil => simp [passC] at h1
    | cons v args =>
      have go : ∀ (u : V) (ids1 : List Nat), (∀ i ∈ ids1, (getE h i).rowy = false) → (passC keep h ds args ids1).map (fun p => (u :: p.1, p.2)) = some (args', ids) → ∀ i ∈ ids, (getE h i).rowy = false := by
        intro u ids1 h3 h2
        simp only [Option.map_eq_some_iff] at h2
        obtain ⟨⟨a2, i2⟩, h4, h5⟩ := h2
        simp at h5
        obtain ⟨_, rfl⟩ := h5
        exact ih args ids1 a2 i2 hd2 h4 h3
      have hrw : rwD d = false := by simpa using hd1
      cases v with
      | own id =>
        simp only [passC, hrw, cond_false] at h1
        split at h1
        · exact go _ _ h0 h1
        · exact go _ _ h0 h1
        · cases h1
      | sub id o n =>
        simp only [passC] at h1
        split at h1
        · exact go _ _ h0 h1
        · cases h1
      | nil =>
        simp only [passC] at h1
        split at h1
        · exact go _ _ h0 h1
        · cases h1
      | ptr id off =>
        cases off with
        | succ off => simp [passC] at h1
        | zero =>
          simp only [passC] at h1
          cases hany : ids0.any (Nat.beq id) with
          | true => simp [hany] at h1
          | false =>
            rw [hany, cond_false] at h1
            split at h1
            · rename_i vs hvs
              generalize (vs.all fun v => v.ids0.isEmpty && v.flat && v.out0) = bb at h1
              cases bb with
              | false => rw [cond_false] at h1; cases h1
              | true =>
                rw [cond_true] at h1
                refine go _ _ (fun i hi => ?_) h1
                rcases List.mem_append.1 hi with hi | hi
                · exact h0 i hi
                · have e : i = id := by simpa using hi
                  subst e
                  rw [hvs]; rfl
            · cases h1
      | ro s l => simp only [passC] at h1; exact go _ _ h0 h1
      | recs s n xs => simp only [passC] at h1; exact go _ _ h0 h1
      | int k n => simp only [passC] at h1; exact go _ _ h0 h1
      | bool b => simp only [passC] at h1; exact go _ _ h0 h1
      | str b => simp only [passC] at h1; exact go _ _ h0 h1
      | agg vs =>
        simp only [passC] at h1
        split at h1
        · rename_i cs
          split at h1
          · rename_i q hq
            rw [← passVs_ids hq] at h0
            exact go _ _ h0 h1
          · cases h1
        · cases hrw
        · cases hpl : vs.all fun v => v.ids0.isEmpty && v.flat && v.out0 with
          | false => rw [hpl, cond_false] at h1; cases h1
          | true => rw [hpl, cond_true] at h1; exact go _ _ h0 h1
      | _ => simp [passC] at h1

theorem keepE_other : ∀ (ids : List Nat) (es h : List E) (id : Nat), id ∉ ids → getE (backE ids es h) id = getE h id := by
  intro ids
  induction ids with
  | nil => intro es h id _; cases es <;> rfl
  | cons i ids ih =>
    intro es h id hn
    cases es with
    | nil => rfl
    | cons e es =>
      simp only [backE]
      rw [ih es _ id (fun hm => hn (by simp [hm]))]
      have : i ≠ id := fun e => hn (by simp [e])
      simp [getE, List.getD, List.getElem?_set_ne this]
theorem keepE_len : ∀ (ids : List Nat) (es h : List E), (backE ids es h).length = h.length := by
  intro ids
  induction ids with
  | nil => intro es h; cases es <;> rfl
  | cons i ids ih =>
    intro es h
    cases es with
    | nil => rfl
    | cons e es => simp only [backE]; rw [ih, List.length_set]

theorem table_keep {P : Program} : ∀ (T : List (FuncId × Spec)), (∀ p ∈ T, SpecOk P p.1 p.2) → KeepOk (tableK T) (fun f => (tableP T f).2.1) := by
  intro T
  induction T with
  | nil => intro _ f hf; cases hf
  | cons p T ih =>
    intro hT
    obtain ⟨g, s⟩ := p
    have ih' := ih (fun q hq => hT q (by simp [hq]))
    have hs : SpecOk P g s := hT (g, s) (by simp)
    intro f hf args h v h' hk id l hy hg
    simp only [tableP] at hf
    simp only [tableK] at hk
    by_cases hgf : g = f
    · subst hgf
      rw [nbeq_self, cond_true] at hf hk
      unfold callC at hk
      split at hk
      · rename_i args' ids hp
        obtain ⟨v1, h1, e1, _⟩ := hs.law _ _ _ _ hk
        simp only [Option.some.injEq, Prod.mk.injEq] at e1
        obtain ⟨_, rfl⟩ := e1
        have hid : id ∉ ids := fun hm => by
          have := pass_cells s.ds args [] args' ids hf (passA_is hp).1 (fun i hi => by cases hi) id hm
          rw [hg, hy] at this; cases this
        have hlt : id < h.length := alive_lt (by rw [hg]; cases l <;> first | rfl | cases hy)
        have hl2 := keepE_len ids ((h1.take ids.length).map (E.sh ids h.length)) h
        have e2 := keepE_other ids ((h1.take ids.length).map (E.sh ids h.length)) h id hid
        rw [← hg, ← e2]
        simp only [getE, List.getD]
        rw [List.getElem?_append_left (by rw [hl2]; exact hlt)]
      · cases hk
    · rw [nbeq_ne hgf, cond_false] at hf hk
      exact ih' f hf args h v h' hk id l hy hg

theorem table_add {P : Program} : ∀ (T : List (FuncId × Spec)), (∀ p ∈ T, SpecOk P p.1 p.2) → AddOk (tableK T) (fun f => (tableP T f).2.2) := by
  intro T
  induction T with
  | nil => intro _ f hf; cases hf
  | cons p T ih =>
    intro hT
    obtain ⟨g, s⟩ := p
    have ih' := ih (fun q hq => hT q (by simp [hq]))
    have hs : SpecOk P g s := hT (g, s) (by simp)
    intro f hf args h v h' hk
    simp only [tableP] at hf
    simp only [tableK] at hk
    by_cases hgf : g = f
    · subst hgf
      rw [nbeq_self, cond_true] at hf hk
      unfold callC at hk
      split at hk
      · rename_i args' ids hp
        have h0 := hs.ad hf _ _ _ _ hk
        have hids : ids = [] := by
          cases ids with
          | nil => rfl
          | cons i ids => simp at h0
        subst hids
        obtain ⟨v1, h1, e1, _⟩ := hs.law _ _ _ _ hk
        simp only [Option.some.injEq, Prod.mk.injEq] at e1
        obtain ⟨_, rfl⟩ := e1
        exact ⟨_, rfl⟩
      · cases hk
    · rw [nbeq_ne hgf, cond_false] at hf hk
      exact ih' f hf args h v h' hk

theorem table_loc {P : Program} : ∀ (T : List (FuncId × Spec)), (∀ p ∈ T, SpecOk P p.1 p.2) → LocK (tableK T) := by
  intro T
  induction T with
  | nil => intro _ f args h v h' hf; cases hf
  | cons p T ih =>
    intro hT
    obtain ⟨g, s⟩ := p
    have ih' := ih (fun q hq => hT q (by simp [hq]))
    have hs : SpecOk P g s := hT (g, s) (by simp)
    intro f args h v h' hk
    simp only [tableK] at hk ⊢
    by_cases hgf : g = f
    · subst hgf
      rw [nbeq_self, cond_true] at hk
      simp only [nbeq_self, cond_true]
      exact callC_loc hs.law hk
    · rw [nbeq_ne hgf, cond_false] at hk
      simp only [nbeq_ne hgf, cond_false]
      exact ih' f args h v h' hk

/-- A function's twin tells what the function answers. -/
theorem SpecOk.of {P : Program} {TD : TypeId → Option TI} (hT : TyOk P TD) (hm : P.follows .mixedOrders = true) {T : List (FuncId × Spec)} (hTab : ∀ p ∈ T, SpecOk P p.1 p.2) {ann : Nat → List Nat × List Nat}
    {f : FuncId} {fn : Func} (hf : P.funcs[f]? = some fn) (hb : fn.body.isNone = false) (hn : (fn.name == "runtime.NumGoroutine") = false) {s : Spec}
    (hd : ∀ args h κ r, s.sp args h κ = some r → funC TD (tableK T) ann (drawAny TD (tableP T)) FUEL fn args h κ = some r)
    (hl : ∀ args h κ r, s.sp args h κ = some r → ∃ v h', κ v h' = some r ∧ ∀ κ2, s.sp args h κ2 = κ2 v h')
    (hp : s.pure = true → ∀ args h κ r, s.sp args h κ = some r → h = [] ∧ ∀ κ2, s.sp args h κ2 = s.sp args h fun v _ => κ2 v [])
    (ha : s.add = true → ∀ args h κ r, s.sp args h κ = some r → h = []) : SpecOk P f s where
  ok := FnOk.of hT (table_ok T hTab) (drawAny_ok hT (table_ok T hTab) hm (table_pure T hTab) (table_keep T hTab) (table_add T hTab) (table_loc T hTab)) hf (fun args h κ r hh => ⟨FUEL, hd args h κ r hh⟩)
  fn := ⟨fn, hf, hb, hn⟩
  law := hl
  pur := hp
  ad := ha
/-- Of a function that never answers all is told. -/
theorem SpecOk.zero {P : Program} {f : FuncId} {fn : Func} (hf : P.funcs[f]? = some fn) (hb : fn.body.isNone = false) (hn : (fn.name == "runtime.NumGoroutine") = false) {s : Spec}
    (hs : ∀ args h κ, s.sp args h κ = none) : SpecOk P f s where
  ok := fun args κ r c cargs hx => by rw [hs] at hx; cases hx
  fn := ⟨fn, hf, hb, hn⟩
  law := fun args h κ r hx => by rw [hs] at hx; cases hx
  pur := fun _ args h κ r hx => by rw [hs] at hx; cases hx
  ad := fun _ args h κ r hx => by rw [hs] at hx; cases hx

end Go.Proofs.Ytgpgifpblchjjaa.D
/- From a twin to a call at the outermost: what a law needs. Conditions: none. -/
namespace Go.Proofs.Ytgpgifpblchjjaa.D
open Go.RowKit
set_option linter.unusedVariables false
set_option linter.unusedSimpArgs false

/-- At the outermost nothing is owned, and nothing is foreign. -/
def topC (w : World) : Cx := ⟨fun _ => False, [], fun _ => .slice none 0 0, w⟩
theorem topC_U {w : World} {b : Nat} : ¬ (topC w).U b := by
  rintro ⟨i, hi, _⟩
  simp [topC, getE, List.getD] at hi
  cases hi
theorem topC_rel (w : World) : Rel (topC w) where
  one := fun i hi => absurd hi (Nat.not_lt_zero _)
  ent := fun i hi => absurd hi (Nat.not_lt_zero _)
  inj := fun i j b hi _ hb _ => absurd ⟨i, hi, hb⟩ topC_U
  lt := fun b hb => absurd hb topC_U
  far := fun b hb => hb.elim
theorem topC_below {w : World} {c' : Cx} (h : Ext (topC w) c') : Below w.heap.size w c'.w :=
  ⟨h.os, h.tape, h.output, h.size, fun k hk => h.block k hk topC_U⟩

theorem SpecOk.calls {P : Program} {f : FuncId} {s : Spec} (h : SpecOk P f s) {w : World} {args : List V} {cargs : Array Value} {b : Bool} (hs : s.sp args [] (fun v h => some (v, h)) = some (.bool b, []))
    (ha : ArgsR (topC w) args cargs.toList) : Calls P f cargs w fun e w' => e = .returned (.bool b) ∧ Below w.heap.size w w' := by
  refine (h.ok args (fun v h => some (v, h)) (.bool b, []) (topC w) cargs hs (topC_rel w) ha).mono ?_
  rintro e w' ⟨x, v, c', rfl, hv, he, hr, hx, rfl, _, _⟩
  have hv' : v = .bool b := by
    have := congrArg (fun o => (o.getD (.junk, [])).1) hv
    exact this
  subst hv'
  have hx' : x = .bool b := hx
  exact ⟨by rw [hx'], topC_below he⟩

theorem argsR1 {c : Cx} {v : V} {x : Value} (h : VR c v x) : ArgsR c [v] (#[x] : Array Value).toList :=
  ⟨rfl, fun j hj => by
    obtain rfl : j = 0 := by simp at hj; exact hj
    exact h⟩
theorem argsR2 {c : Cx} {v v' : V} {x x' : Value} (h : VR c v x) (h' : VR c v' x') : ArgsR c [v, v'] (#[x, x'] : Array Value).toList :=
  ⟨rfl, fun j hj => by
    match j, hj with
    | 0, _ => exact h
    | 1, _ => exact h'⟩
theorem argsR3 {c : Cx} {v v' v'' : V} {x x' x'' : Value} (h : VR c v x) (h' : VR c v' x') (h'' : VR c v'' x'') : ArgsR c [v, v', v''] (#[x, x', x''] : Array Value).toList :=
  ⟨rfl, fun j hj => by
    match j, hj with
    | 0, _ => exact h
    | 1, _ => exact h'
    | 2, _ => exact h''⟩
theorem argsR4 {c : Cx} {v v' v'' u : V} {x x' x'' y : Value} (h : VR c v x) (h' : VR c v' x') (h'' : VR c v'' x'') (h3 : VR c u y) : ArgsR c [v, v', v'', u] (#[x, x', x'', y] : Array Value).toList :=
  ⟨rfl, fun j hj => by
    match j, hj with
    | 0, _ => exact h
    | 1, _ => exact h'
    | 2, _ => exact h''
    | 3, _ => exact h3⟩

/-- A row that came in. -/
theorem topC_row (s : Bool) {k : IntKind} {w : World} {a : Option Addr} {len cap : Nat} {zs : List Int}
    (h : (a = none ∧ len = 0 ∧ cap = 0 ∧ zs = []) ∨ ∃ x : Addr, a = some x ∧ len ≤ cap ∧ cap ≤ maxLen ∧ zs.length = cap ∧ (∀ i, i < zs.length → w.cell? (x.add i) = some (.int k (zs.getD i 0))) ∧ ∀ n ∈ zs, (Lit.int k n).wf = true) :
    ∃ xs : List Int, xs.length = len ∧ xs.length ≤ maxLen ∧ (∀ n ∈ xs, (Lit.int k n).wf = true) ∧ VR (topC w) (.ro s (.ints k xs)) (.slice a len cap) := by
  rcases h with ⟨rfl, rfl, rfl, rfl⟩ | ⟨x, rfl, hl, hm, hz, hcell, hwf⟩
  · exact ⟨[], rfl, Nat.zero_le _, fun n hn => (by cases hn), ⟨none, 0, rfl, Nat.le_refl _, .inl rfl⟩⟩
  · have hL : (zs.take len).length = len := by rw [List.length_take]; omega
    refine ⟨zs.take len, hL, by rw [hL]; omega, fun n hn => hwf n (List.mem_of_mem_take hn), ?_⟩
    refine ⟨some x, cap, by simp only [L.len, hL], by simp only [L.len, hL]; exact hl, ?_⟩
    by_cases h0 : len = 0
    · exact .inl (by simp only [L.len, hL]; exact h0)
    · obtain ⟨b, off, spot⟩ := x
      have hspot : spot = none := by simpa [Addr.add] using World.cell?_spot (hcell 0 (by omega))
      subst hspot
      refine .inr ⟨b, off, rfl, fun _ hF => hF, topC_U, fun j hj => ?_⟩
      have hj' : j < len := by simp only [L.len, hL] at hj; exact hj
      refine ⟨_, ?_, rfl⟩
      have := hcell j (by omega)
      have e : eli (zs.take len) j = zs.getD j 0 := by simp [eli, List.getD, hj']
      rw [e, ← this]
      by_cases hj0 : j = 0
      · subst hj0; simp [Addr.add, topC]
      · simp [Addr.add, hj0, topC]

end Go.Proofs.Ytgpgifpblchjjaa.D
/- What loops of twins come to. Conditions: those of each theorem. -/
namespace Go.Proofs.Ytgpgifpblchjjaa.D
open Go.RowKit
set_option linter.unusedVariables false
set_option linter.unusedSimpArgs false

/-- A loop that has an aim and comes nearer to its end in each round. -/
theorem run_aim {S D : Type} {run : Nat → S → Option D} (Inv : S → Prop) (μ : S → Nat) (aim : S → D)
    (h : ∀ n s, Inv s → run (n + 1) s = some (aim s) ∨ ∃ s', run (n + 1) s = run n s' ∧ Inv s' ∧ μ s' < μ s ∧ aim s' = aim s) : ∀ n s, Inv s → μ s < n → run n s = some (aim s) := by
  intro n
  induction n with
  | zero => intro s _ hm; exact absurd hm (Nat.not_lt_zero _)
  | succ n ih =>
    intro s hi hm
    rcases h n s hi with h1 | ⟨s', h1, h2, h3, h4⟩
    · exact h1
    · rw [h1, ih s' h2 (by omega), h4]
theorem run_fuel {S D : Type} {run : Nat → S → Option D} (Inv : S → Prop) (μ : S → Nat) (aim : S → D)
    (h : ∀ n s, Inv s → run (n + 1) s = some (aim s) ∨ ∃ s', run (n + 1) s = run n s' ∧ Inv s' ∧ μ s' < μ s ∧ aim s' = aim s) {s : S} (hi : Inv s) (hm : μ s < 1000000000) : run FUEL s = some (aim s) :=
  run_aim Inv μ aim h FUEL s hi (by have := FUEL_le; omega)

theorem cnd_t {α : Type} {b : Bool} {x y : α} (h : b = true) : (bif b then x else y) = x := by rw [h]; rfl
theorem cnd_f {α : Type} {b : Bool} {x y : α} (h : b = false) : (bif b then x else y) = y := by rw [h]; rfl
theorem i64_wrap {n : Int} (h1 : -9223372036854775808 ≤ n) (h2 : n ≤ 9223372036854775807) : IntKind.i64.wrap n = n := by
  rw [IntKind.wrap_i64]; omega

/-- A loop that counts up and leaves at the first that tells something. -/
theorem run_find {D F : Type} {run : Nat → Int → Option (D ⊕ F)} {len : Nat} (f : Nat → Option D) (e : F) (hl : len ≤ 2097152)
    (h : ∀ n (x : Int), 0 ≤ x → x ≤ len → run (n + 1) x = if x < len then (match f x.toNat with | some d => some (.inl d) | none => run n (x + 1)) else some (.inr e)) :
    run FUEL 0 = some (match (List.range len).findSome? f with | some d => .inl d | none => .inr e) := by
  have key : ∀ n (k : Nat), k ≤ len → len - k < n → run n (k : Int) = some (match (List.range' k (len - k)).findSome? f with | some d => .inl d | none => .inr e) := by
    intro n
    induction n with
    | zero => intro k _ hk; omega
    | succ n ih =>
      intro k hk hn
      rw [h n k (by omega) (by omega)]
      by_cases hx : k < len
      · rw [if_pos (by omega)]
        have e1 : List.range' k (len - k) = k :: List.range' (k + 1) (len - (k + 1)) := by
          have : len - k = (len - (k + 1)) + 1 := by omega
          rw [this]; rfl
        rw [e1, List.findSome?_cons, Int.toNat_natCast]
        cases hf : f k with
        | some d => rfl
        | none =>
          have := ih (k + 1) (by omega) (by omega)
          rw [show ((k : Int) + 1) = ((k + 1 : Nat) : Int) by omega]
          exact this
      · rw [if_neg (by omega)]
        have : len - k = 0 := by omega
        rw [this]; rfl
  have := key FUEL 0 (by omega) (by have := FUEL_le; omega)
  rw [show len - 0 = len by omega, ← List.range_eq_range'] at this
  exact this
/-- The same with a test that must hold of all. -/
theorem run_all {run : Nat → Int → Option (Bool ⊕ Unit)} {len : Nat} (test : Nat → Bool) (hl : len ≤ 2097152)
    (h : ∀ n (x : Int), 0 ≤ x → x ≤ len → run (n + 1) x = if x < len then (bif test x.toNat then run n (x + 1) else some (.inl false)) else some (.inr ())) :
    run FUEL 0 = some (bif (List.range len).all test then .inr () else .inl false) := by
  rw [run_find (run := run) (len := len) (fun k => bif test k then none else some false) () hl (fun n x h0 h1 => by
    rw [h n x h0 h1]
    split
    · cases test x.toNat <;> rfl
    · rfl)]
  congr 1
  generalize List.range len = l
  induction l with
  | nil => rfl
  | cons a l ih =>
    rw [List.findSome?_cons, List.all_cons]
    cases ha : test a with
    | true => simpa using ih
    | false => rfl
/-- A loop that ends with what is asked of it. -/
theorem run_post {S D : Type} {run : Nat → S → Option D} (Inv : S → Prop) (μ : S → Nat) (Post : D → Prop)
    (h : ∀ n s, Inv s → (∃ d, run (n + 1) s = some d ∧ Post d) ∨ ∃ s', run (n + 1) s = run n s' ∧ Inv s' ∧ μ s' < μ s) {s : S} (hi : Inv s) (hm : μ s < 1000000000) : ∃ d, run FUEL s = some d ∧ Post d := by
  have key : ∀ n s, Inv s → μ s < n → ∃ d, run n s = some d ∧ Post d := by
    intro n
    induction n with
    | zero => intro s _ hm; exact absurd hm (Nat.not_lt_zero _)
    | succ n ih =>
      intro s hi hm
      rcases h n s hi with h1 | ⟨s', h1, h2, h3⟩
      · exact h1
      · rw [h1]; exact ih s' h2 (by omega)
  exact key FUEL s hi (by have := FUEL_le; omega)
end Go.Proofs.Ytgpgifpblchjjaa.D
/- Small plain words: folds, searches, loops. Conditions: none. -/
namespace Go.Proofs.Ytgpgifpblchjjaa
open Go.RowKit
set_option linter.unusedVariables false
set_option linter.unusedSimpArgs false

/-- The k-th number of a list; 0 behind its end. -/
def el (zs : List Int) (k : Nat) : Int := zs.getD k 0


/-- A loop over 0 .. n-1 that carries a state. -/
def fold {α : Type} (n : Nat) (f : α → Nat → α) (a : α) : α := (List.range n).foldl f a
theorem fold_zero {α : Type} (f : α → Nat → α) (a : α) : fold 0 f a = a := rfl
theorem fold_succ {α : Type} (n : Nat) (f : α → Nat → α) (a : α) : fold (n+1) f a = f (fold n f a) n := by
  simp [fold, List.range_succ]

/-- A loop over 0 .. n-1 that leaves at the first k at which f answers. -/
def find {ρ : Type} (n : Nat) (f : Nat → Option ρ) : Option ρ := (List.range n).findSome? f
theorem find_none {ρ : Type} {n : Nat} {f : Nat → Option ρ} : find n f = none ↔ ∀ j, j < n → f j = none := by
  simp [find]
theorem find_some_ex {ρ : Type} {n : Nat} {f : Nat → Option ρ} {r : ρ} (h : find n f = some r) : ∃ k, k < n ∧ f k = some r := by
  obtain ⟨k, hk, h1⟩ := List.exists_of_findSome?_eq_some h
  exact ⟨k, by simpa using hk, h1⟩
theorem find_succ {ρ : Type} (n : Nat) (f : Nat → Option ρ) : find (n+1) f = (find n f).or (f n) := by
  simp [find, List.range_succ, List.findSome?_append]
/-- A loop over 0 .. n-1 that carries a state and may leave. -/
def loopE {σ ρ : Type} (n : Nat) (f : σ → Nat → ρ ⊕ σ) (s : σ) : ρ ⊕ σ := fold n (fun acc k => match acc with | .inl r => .inl r | .inr st => f st k) (.inr s)
theorem loopE_zero {σ ρ : Type} (f : σ → Nat → ρ ⊕ σ) (s : σ) : loopE 0 f s = .inr s := rfl
theorem loopE_succ {σ ρ : Type} {n : Nat} {f : σ → Nat → ρ ⊕ σ} {s st : σ} (h : loopE n f s = .inr st) : loopE (n + 1) f s = f st n := by
  unfold loopE at h ⊢; rw [fold_succ, h]
/-- A loop by a test, at most so many rounds. -/
def wh {σ : Type} : Nat → (σ → Bool) → (σ → σ) → σ → σ
  | 0, _, _, s => s
  | n + 1, c, f, s => if c s = true then wh n c f (f s) else s
end Go.Proofs.Ytgpgifpblchjjaa
/- Sets as numbers: Go's bit operations on int, at numbers from 0 on, are those of natural numbers. Conditions: those of each theorem. -/
namespace Go.Proofs.Ytgpgifpblchjjaa
open Go.RowKit
set_option linter.unusedVariables false
set_option linter.unusedSimpArgs false

theorem i64_ofInt (a : Nat) (ha : a < 9223372036854775808) : (BitVec.ofInt 64 (a : Int)).toNat = a := by
  rw [BitVec.ofInt_natCast, BitVec.toNat_ofNat]; exact Nat.mod_eq_of_lt (by omega)
theorem i64_wrap_nat (a : Nat) (ha : a < 9223372036854775808) : IntKind.i64.wrap (a : Int) = a := by rw [IntKind.wrap_i64]; omega
theorem i64_or_nat (a b : Nat) (ha : a < 9223372036854775808) (hb : b < 9223372036854775808) : bits .or .i64 (a : Int) (b : Int) = ((a ||| b : Nat) : Int) := by
  have hx : a ||| b < 2 ^ 63 := Nat.or_lt_two_pow (by omega) (by omega)
  show IntKind.i64.wrap ((BitVec.ofInt 64 (a : Int) ||| BitVec.ofInt 64 (b : Int)).toNat : Int) = _
  rw [BitVec.toNat_or, i64_ofInt a ha, i64_ofInt b hb, i64_wrap_nat _ (by omega)]
theorem i64_xor_nat (a b : Nat) (ha : a < 9223372036854775808) (hb : b < 9223372036854775808) : bits .xor .i64 (a : Int) (b : Int) = ((a ^^^ b : Nat) : Int) := by
  have hx : a ^^^ b < 2 ^ 63 := Nat.xor_lt_two_pow (by omega) (by omega)
  show IntKind.i64.wrap ((BitVec.ofInt 64 (a : Int) ^^^ BitVec.ofInt 64 (b : Int)).toNat : Int) = _
  rw [BitVec.toNat_xor, i64_ofInt a ha, i64_ofInt b hb, i64_wrap_nat _ (by omega)]
/-- What is in a and not in b. -/
def minus (a b : Nat) : Nat := a &&& (18446744073709551615 - b)
theorem i64_andNot_nat (a b : Nat) (ha : a < 9223372036854775808) (hb : b < 9223372036854775808) : bits .andNot .i64 (a : Int) (b : Int) = ((minus a b : Nat) : Int) := by
  have hx : minus a b < 2 ^ 63 := by unfold minus; rw [Nat.and_comm]; exact Nat.and_lt_two_pow _ (by omega)
  show IntKind.i64.wrap ((BitVec.ofInt 64 (a : Int) &&& ~~~BitVec.ofInt 64 (b : Int)).toNat : Int) = _
  rw [BitVec.toNat_and, BitVec.toNat_not, i64_ofInt a ha, i64_ofInt b hb]
  have e : 2 ^ 64 - 1 - b = 18446744073709551615 - b := by omega
  rw [e]
  exact i64_wrap_nat _ (by simp only [minus] at hx; omega)
theorem minus_testBit (a b : Nat) (hb : b < 18446744073709551616) (ha : a < 18446744073709551616) (j : Nat) : (minus a b).testBit j = (a.testBit j && !b.testBit j) := by
  unfold minus
  rw [Nat.testBit_and]
  have e : 18446744073709551615 - b = 2 ^ 64 - (b + 1) := by omega
  rw [e, Nat.testBit_two_pow_sub_succ (by omega)]
  by_cases hj : j < 64
  · simp [hj]
  · have : a.testBit j = false := Nat.testBit_lt_two_pow (Nat.lt_of_lt_of_le ha (by
      have : (2:Nat) ^ 64 ≤ 2 ^ j := Nat.pow_le_pow_right (by omega) (by omega)
      omega))
    simp [this]
theorem i64_and1 (n : Int) : bits .and .i64 n 1 = n % 2 := by
  show IntKind.i64.wrap ((BitVec.ofInt 64 n &&& BitVec.ofInt 64 1).toNat : Int) = _
  have h1 : (BitVec.ofInt 64 1).toNat = 1 := by decide
  rw [BitVec.toNat_and, h1, Nat.and_one_is_mod, BitVec.toNat_ofInt]
  rw [i64_wrap_nat _ (by omega)]
  omega
theorem testBit_div (a k : Nat) : a.testBit k = (a / 2 ^ k % 2 == 1) := by
  rw [Nat.testBit_eq_decide_div_mod_eq]; rw [Bool.eq_iff_iff]; simp
theorem eq_of_bits {a b n : Nat} (ha : a < 2 ^ n) (hb : b < 2 ^ n) (h : ∀ j, j < n → a.testBit j = b.testBit j) : a = b := by
  apply Nat.eq_of_testBit_eq
  intro j
  by_cases hj : j < n
  · exact h j hj
  · rw [Nat.testBit_lt_two_pow (Nat.lt_of_lt_of_le ha (Nat.pow_le_pow_right (by omega) (by omega))), Nat.testBit_lt_two_pow (Nat.lt_of_lt_of_le hb (Nat.pow_le_pow_right (by omega) (by omega)))]
theorem testBit_lt {a n j : Nat} (ha : a < 2 ^ n) (h : a.testBit j = true) : j < n := by
  by_cases hj : j < n
  · exact hj
  · rw [Nat.testBit_lt_two_pow (Nat.lt_of_lt_of_le ha (Nat.pow_le_pow_right (by omega) (by omega)))] at h; cases h
theorem testBit_pow (k j : Nat) : (2 ^ k).testBit j = decide (k = j) := Nat.testBit_two_pow

/-- The union of f k over those k below n for which p holds. -/
def orN (n : Nat) (p : Nat → Bool) (f : Nat → Nat) : Nat := fold n (fun acc k => if p k = true then acc ||| f k else acc) 0
theorem orN_testBit (n : Nat) (p : Nat → Bool) (f : Nat → Nat) (j : Nat) : (orN n p f).testBit j = true ↔ ∃ k, k < n ∧ p k = true ∧ (f k).testBit j = true := by
  unfold orN
  induction n with
  | zero => simp [fold_zero]
  | succ n ih =>
    rw [fold_succ]
    cases hp : p n with
    | false =>
      simp only [Bool.false_eq_true, if_false]
      rw [ih]
      constructor
      · rintro ⟨k, a, b⟩; exact ⟨k, by omega, b⟩
      · rintro ⟨k, a, b, c⟩
        by_cases hk : k = n
        · subst hk; rw [hp] at b; cases b
        · exact ⟨k, by omega, b, c⟩
    | true =>
      simp only [if_true]
      rw [Nat.testBit_or, Bool.or_eq_true, ih]
      constructor
      · rintro (⟨k, a, b⟩ | h)
        · exact ⟨k, by omega, b⟩
        · exact ⟨n, by omega, hp, h⟩
      · rintro ⟨k, a, b, c⟩
        by_cases hk : k = n
        · subst hk; exact .inr c
        · exact .inl ⟨k, by omega, b, c⟩
theorem orN_lt {n m : Nat} {p : Nat → Bool} {f : Nat → Nat} (hf : ∀ k, k < n → p k = true → f k < 2 ^ m) : orN n p f < 2 ^ m := by
  unfold orN
  induction n with
  | zero => simp [fold_zero]; exact Nat.two_pow_pos m
  | succ n ih =>
    rw [fold_succ]
    have h := ih (fun k hk => hf k (by omega))
    split
    · rename_i hp; exact Nat.or_lt_two_pow h (hf n (by omega) hp)
    · exact h
end Go.Proofs.Ytgpgifpblchjjaa
/- Nets as lists of numbers: what a net is; near, seen, ball; size of a set. Conditions: those of each theorem. -/
namespace Go.Proofs.Ytgpgifpblchjjaa
open Go.RowKit
set_option linter.unusedVariables false
set_option linter.unusedSimpArgs false

/-- The neighbours of a place, as a natural number. -/
def nb (net : List Int) (k : Nat) : Nat := (el net k).toNat
/-- A net. -/
structure Ok (net : List Int) : Prop where
  lo : 1 ≤ net.length
  hi : net.length ≤ 6
  el : ∀ k, k < net.length → el net k = (nb net k : Int)
  lt : ∀ k, k < net.length → nb net k < 2 ^ net.length
  sym : ∀ j k, j < net.length → k < net.length → (nb net k).testBit j = (nb net j).testBit k
  irr : ∀ k, k < net.length → (nb net k).testBit k = false

theorem pow_le_64 {n : Nat} (h : n ≤ 6) : 2 ^ n ≤ 64 := by
  have : (2 : Nat) ^ n ≤ 2 ^ 6 := Nat.pow_le_pow_right (by omega) h
  omega
theorem Ok.pow {net : List Int} (h : Ok net) : 2 ^ net.length ≤ 64 := pow_le_64 h.hi
theorem Ok.lt64 {net : List Int} (h : Ok net) {k : Nat} (hk : k < net.length) : nb net k < 64 := Nat.lt_of_lt_of_le (h.lt k hk) h.pow

/-- All neighbours of a set. -/
def near (net : List Int) (s : Nat) : Nat := orN net.length (fun k => s.testBit k) (nb net)
/-- What guards at a set see. -/
def seen (net : List Int) (s : Nat) : Nat := s ||| near net s
/-- A place and its neighbours. -/
def ball (net : List Int) (k : Nat) : Nat := nb net k ||| 2 ^ k

theorem Ok.ball_lt {net : List Int} (h : Ok net) {k : Nat} (hk : k < net.length) : ball net k < 2 ^ net.length :=
  Nat.or_lt_two_pow (h.lt k hk) (Nat.pow_lt_pow_right (by omega) hk)
theorem Ok.near_lt {net : List Int} (h : Ok net) (s : Nat) : near net s < 2 ^ net.length := orN_lt fun k hk _ => h.lt k hk
theorem near_testBit (net : List Int) (s j : Nat) : (near net s).testBit j = true ↔ ∃ k, k < net.length ∧ s.testBit k = true ∧ (nb net k).testBit j = true := orN_testBit _ _ _ _
theorem ball_testBit (net : List Int) (k j : Nat) : (ball net k).testBit j = true ↔ (nb net k).testBit j = true ∨ k = j := by
  unfold ball; rw [Nat.testBit_or, Bool.or_eq_true, testBit_pow]; simp

/-- How many of the first n bits are 1. -/
def card (n s : Nat) : Nat := fold n (fun a k => if s.testBit k = true then a + 1 else a) 0
theorem card_succ (n s : Nat) : card (n + 1) s = card n s + if s.testBit n = true then 1 else 0 := by
  unfold card; rw [fold_succ]; split <;> rfl
theorem card_le (n s : Nat) : card n s ≤ n := by
  induction n with
  | zero => exact Nat.le_refl _
  | succ n ih => rw [card_succ]; split <;> omega
theorem card_mono {n s t : Nat} (h : ∀ j, j < n → s.testBit j = true → t.testBit j = true) : card n s ≤ card n t := by
  induction n with
  | zero => exact Nat.le_refl _
  | succ n ih =>
    have h1 := ih fun j hj => h j (by omega)
    have h2 := h n (by omega)
    rw [card_succ, card_succ]
    split
    · rename_i hs; rw [if_pos (h2 hs)]; omega
    · omega
theorem card_lt {n s t : Nat} (h : ∀ j, j < n → s.testBit j = true → t.testBit j = true) {i : Nat} (hi : i < n) (h0 : s.testBit i = false) (h1 : t.testBit i = true) : card n s < card n t := by
  induction n with
  | zero => omega
  | succ n ih =>
    rw [card_succ, card_succ]
    by_cases hin : i = n
    · subst hin
      have h3 := card_mono fun j hj => h j (Nat.lt_succ_of_lt hj)
      rw [h0, h1]; simp; omega
    · have h3 := ih (fun j hj => h j (by omega)) (by omega)
      have h2 := h n (by omega)
      split
      · rename_i hs; rw [if_pos (h2 hs)]; omega
      · omega
theorem card_more {n m s : Nat} (hs : s < 2 ^ n) (h : n ≤ m) : card m s = card n s := by
  induction m with
  | zero => obtain rfl : n = 0 := by omega
            rfl
  | succ m ih =>
    by_cases hm : n = m + 1
    · rw [hm]
    · rw [card_succ, ih (by omega), Nat.testBit_lt_two_pow (Nat.lt_of_lt_of_le hs (Nat.pow_le_pow_right (by omega) (by omega)))]
      simp
/-- How many of the first six bits are 1. -/
def size (s : Nat) : Nat := card 6 s
theorem size_le (s : Nat) : size s ≤ 6 := card_le 6 s
theorem Ok.size_eq {net : List Int} (h : Ok net) {s : Nat} (hs : s < 2 ^ net.length) : size s = card net.length s := card_more hs h.hi

/-! ### Parts -/
/-- One step: the set, and its neighbours that are among A. -/
def grow (net : List Int) (A s : Nat) : Nat := s ||| (near net s &&& A)
theorem grow_testBit (net : List Int) (A s j : Nat) : (grow net A s).testBit j = true ↔ s.testBit j = true ∨ ((∃ k, k < net.length ∧ s.testBit k = true ∧ (nb net k).testBit j = true) ∧ A.testBit j = true) := by
  unfold grow; rw [Nat.testBit_or, Bool.or_eq_true, Nat.testBit_and, Bool.and_eq_true, near_testBit]
/-- From i one comes to j by steps to neighbours among A. -/
inductive Reach (net : List Int) (A : Nat) (i : Nat) : Nat → Prop where
  | here : A.testBit i = true → Reach net A i i
  | step {j k : Nat} : Reach net A i j → j < net.length → (nb net j).testBit k = true → A.testBit k = true → Reach net A i k
/-- So many steps. -/
def steps (net : List Int) (A : Nat) : Nat → Nat → Nat
  | 0, s => s
  | m + 1, s => grow net A (steps net A m s)
theorem steps_fix {net : List Int} {A m s : Nat} (h : grow net A (steps net A m s) = steps net A m s) (p : Nat) (hp : m ≤ p) : steps net A p s = steps net A m s := by
  induction p with
  | zero => obtain rfl : m = 0 := by omega
            rfl
  | succ p ih =>
    by_cases hm : m = p + 1
    · rw [hm]
    · show grow net A (steps net A p s) = _; rw [ih (by omega)]; exact h
theorem steps_reach {net : List Int} {A i : Nat} (m : Nat) {j : Nat} (h : (steps net A m (2 ^ i &&& A)).testBit j = true) : Reach net A i j := by
  induction m generalizing j with
  | zero =>
    simp only [steps, Nat.testBit_and, Bool.and_eq_true, testBit_pow, decide_eq_true_eq] at h
    obtain ⟨rfl, h⟩ := h
    exact .here h
  | succ m ih =>
    rcases (grow_testBit _ _ _ _).1 h with h1 | ⟨⟨k, hk, h1, h2⟩, h3⟩
    · exact ih h1
    · exact .step (ih h1) hk h2 h3
theorem reach_steps {net : List Int} {A i m : Nat} (hf : grow net A (steps net A m (2 ^ i &&& A)) = steps net A m (2 ^ i &&& A)) {j : Nat} (h : Reach net A i j) : (steps net A m (2 ^ i &&& A)).testBit j = true := by
  induction h with
  | here ha =>
    clear hf
    induction m with
    | zero => simp [steps, Nat.testBit_and, testBit_pow, ha]
    | succ m ih => exact (grow_testBit _ _ _ _).2 (.inl ih)
  | step _ hj hn ha ih =>
    rw [← hf]
    exact (grow_testBit _ _ _ _).2 (.inr ⟨⟨_, hj, ih, hn⟩, ha⟩)
theorem Ok.grow_lt {net : List Int} (h : Ok net) {A s : Nat} (hs : s < 2 ^ net.length) : grow net A s < 2 ^ net.length :=
  Nat.or_lt_two_pow hs (by rw [Nat.and_comm]; exact Nat.and_lt_two_pow _ (h.near_lt s))
theorem Ok.steps_lt {net : List Int} (h : Ok net) {A s : Nat} (hs : s < 2 ^ net.length) (m : Nat) : steps net A m s < 2 ^ net.length := by
  induction m with
  | zero => exact hs
  | succ m ih => exact h.grow_lt ih
theorem Ok.grow_more {net : List Int} (h : Ok net) {A s : Nat} (hs : s < 2 ^ net.length) (hne : grow net A s ≠ s) : card net.length s < card net.length (grow net A s) := by
  have : ∃ i, i < net.length ∧ (grow net A s).testBit i ≠ s.testBit i := by
    refine Classical.byContradiction fun hc => hne (eq_of_bits (h.grow_lt hs) hs fun j hj => ?_)
    exact Classical.byContradiction fun h2 => hc ⟨j, hj, h2⟩
  obtain ⟨i, hi, h2⟩ := this
  have hm : ∀ j, j < net.length → s.testBit j = true → (grow net A s).testBit j = true := fun j _ hj => (grow_testBit _ _ _ _).2 (.inl hj)
  cases hb : s.testBit i with
  | true => rw [hm i hi hb, hb] at h2; exact absurd rfl h2
  | false => cases hg : (grow net A s).testBit i with
    | false => rw [hb, hg] at h2; exact absurd rfl h2
    | true => exact card_lt hm hi hb hg
/-- After as many steps as places, less one that is there at first, nothing is new. -/
theorem Ok.steps_done {net : List Int} (h : Ok net) {A s : Nat} (hs : s < 2 ^ net.length) (m : Nat) (hm : net.length ≤ m + card net.length s) : grow net A (steps net A m s) = steps net A m s := by
  refine Classical.byContradiction fun hne => ?_
  have all : ∀ p, p ≤ m → grow net A (steps net A p s) ≠ steps net A p s := by
    intro p hp hf
    have := steps_fix hf m hp
    rw [this] at hne
    exact hne hf
  have more : ∀ p, p ≤ m + 1 → card net.length s + p ≤ card net.length (steps net A p s) := by
    intro p
    induction p with
    | zero => intro _; exact Nat.le_refl _
    | succ p ih =>
      intro hp
      have h1 := ih (by omega)
      have h2 := h.grow_more (h.steps_lt hs p) (all p (by omega))
      show _ ≤ card net.length (grow net A (steps net A p s))
      omega
  have h1 := more (m + 1) (Nat.le_refl _)
  have h2 := card_le net.length (steps net A (m + 1) s)
  omega
/-- The part of a place among A. -/
def part (net : List Int) (A i : Nat) : Nat := steps net A 6 (2 ^ i &&& A)
theorem Ok.start_lt {net : List Int} {A i : Nat} (hi : i < net.length) : 2 ^ i &&& A < 2 ^ net.length := by
  rw [Nat.and_comm]; exact Nat.and_lt_two_pow _ (Nat.pow_lt_pow_right (by omega) hi)
theorem Ok.part_fix {net : List Int} (h : Ok net) {A i : Nat} (hi : i < net.length) : grow net A (part net A i) = part net A i :=
  h.steps_done (Ok.start_lt hi) 6 (by have := h.hi; omega)
theorem Ok.part_testBit {net : List Int} (h : Ok net) {A i : Nat} (hi : i < net.length) (j : Nat) : (part net A i).testBit j = true ↔ Reach net A i j :=
  ⟨steps_reach 6, reach_steps (h.part_fix hi)⟩
theorem Reach.among {net : List Int} {A i j : Nat} (h : Reach net A i j) : A.testBit i = true ∧ A.testBit j = true := by
  induction h with
  | here h => exact ⟨h, h⟩
  | step _ _ _ ha ih => exact ⟨ih.1, ha⟩
theorem Reach.trans {net : List Int} {A i j k : Nat} (h1 : Reach net A i j) (h2 : Reach net A j k) : Reach net A i k := by
  induction h2 with
  | here _ => exact h1
  | step _ hj hn ha ih => exact .step ih hj hn ha
theorem Ok.nb_lt {net : List Int} (h : Ok net) {j k : Nat} (hj : j < net.length) (hn : (nb net j).testBit k = true) : k < net.length := testBit_lt (h.lt j hj) hn
theorem Reach.lt {net : List Int} (h : Ok net) {A i j : Nat} (hi : i < net.length) (hr : Reach net A i j) : j < net.length := by
  cases hr with
  | here _ => exact hi
  | step _ hj hn _ => exact h.nb_lt hj hn
theorem Reach.symm {net : List Int} (h : Ok net) {A i j : Nat} (hi : i < net.length) (hr : Reach net A i j) : Reach net A j i := by
  induction hr with
  | here ha => exact .here ha
  | step hij hj hn ha ih =>
    have hk := h.nb_lt hj hn
    have h2 : Reach net A _ _ := .step (.here ha) hk (by rw [h.sym _ _ hj hk]; exact hn) hij.among.2
    exact h2.trans ih

/-- All places. -/
def allOf (net : List Int) : Nat := 2 ^ net.length - 1
theorem allOf_testBit (net : List Int) (j : Nat) : (allOf net).testBit j = decide (j < net.length) := by unfold allOf; exact Nat.testBit_two_pow_sub_one _ _
theorem Ok.start_all {net : List Int} {i : Nat} (hi : i < net.length) : 2 ^ i &&& allOf net = 2 ^ i := by
  unfold allOf; exact Nat.and_two_pow_sub_one_of_lt_two_pow (Nat.pow_lt_pow_right (by omega) hi)
/-- The part of a place. -/
def comp (net : List Int) (i : Nat) : Nat := part net (allOf net) i
theorem card_pow {n i : Nat} (hi : i < n) : 1 ≤ card n (2 ^ i) := by
  have h := card_lt (n := n) (s := 0) (t := 2 ^ i) (fun j _ h => by simp at h) hi (by simp) (by simp [testBit_pow])
  omega
theorem Ok.comp_eq {net : List Int} (h : Ok net) {i m : Nat} (hi : i < net.length) (hm : net.length ≤ m + 1) : steps net (allOf net) m (2 ^ i) = comp net i := by
  have hf := h.steps_done (A := allOf net) (s := 2 ^ i) (Nat.pow_lt_pow_right (by omega) hi) m (by have := card_pow hi; omega)
  unfold comp part
  rw [Ok.start_all hi]
  by_cases hm6 : m ≤ 6
  · exact (steps_fix hf 6 hm6).symm
  · have h6 := h.part_fix (A := allOf net) hi
    unfold part at h6
    rw [Ok.start_all hi] at h6
    exact steps_fix h6 m (by omega)
theorem Ok.comp_testBit {net : List Int} (h : Ok net) {i : Nat} (hi : i < net.length) (j : Nat) : (comp net i).testBit j = true ↔ Reach net (allOf net) i j := h.part_testBit hi j
theorem Ok.comp_self {net : List Int} (h : Ok net) {i : Nat} (hi : i < net.length) : (comp net i).testBit i = true := (h.comp_testBit hi i).2 (.here (by rw [allOf_testBit]; simpa using hi))
theorem Ok.comp_same {net : List Int} (h : Ok net) {i j : Nat} (hi : i < net.length) (hj : j < net.length) (hij : (comp net i).testBit j = true) : comp net i = comp net j := by
  have h1 := (h.comp_testBit hi j).1 hij
  apply Nat.eq_of_testBit_eq
  intro k
  rw [Bool.eq_iff_iff, h.comp_testBit hi, h.comp_testBit hj]
  exact ⟨fun hr => (h1.symm h hi).trans hr, fun hr => h1.trans hr⟩
/-- How many parts: the places that are the least ones of their parts. -/
def parts (net : List Int) : Nat := fold net.length (fun a k => if (comp net k &&& (2 ^ k - 1)) = 0 then a + 1 else a) 0

end Go.Proofs.Ytgpgifpblchjjaa
/- Rows that count up, and the first one of a kind. Conditions: those of each theorem. -/
namespace Go.Proofs.Ytgpgifpblchjjaa
set_option linter.unusedVariables false
set_option linter.unusedSimpArgs false

/-- One more than the greatest number of a row. -/
def nx (r : List Nat) : Nat := r.foldl (fun t v => max t (v + 1)) 0
/-- Each number is at most one more than all ahead of it. -/
def RG (r : List Nat) : Prop := ∀ k, k < r.length → r.getD k 0 ≤ nx (r.take k)
theorem RG.nil : RG [] := fun k hk => by simp at hk
theorem getD_app_lt {r t : List Nat} {k : Nat} (hk : k < r.length) : (r ++ t).getD k 0 = r.getD k 0 := by simp [List.getD, List.getElem?_append_left hk]
theorem getD_app_end (r : List Nat) (v : Nat) : (r ++ [v]).getD r.length 0 = v := by simp [List.getD]
theorem take_app_le {r t : List Nat} {k : Nat} (hk : k ≤ r.length) : (r ++ t).take k = r.take k := by rw [List.take_append_of_le_length hk]
theorem RG.pre {r q : List Nat} (h : RG q) (hp : r <+: q) : RG r := by
  obtain ⟨t, rfl⟩ := hp
  intro k hk
  have := h k (by simp; omega)
  rwa [getD_app_lt hk, take_app_le (by omega)] at this
/-- Rows in the order of their numbers. -/
def LexLe (a b : List Nat) : Prop := a = b ∨ ∃ k, k < a.length ∧ a.take k = b.take k ∧ a.getD k 0 < b.getD k 0
theorem LexLe.antisymm {a b : List Nat} (h1 : LexLe a b) (h2 : LexLe b a) : a = b := by
  rcases h1 with h1 | ⟨k, hk, a1, a2⟩
  · exact h1
  · rcases h2 with h2 | ⟨j, hj, b1, b2⟩
    · exact h2.symm
    · exfalso
      have take_getD : ∀ {x y : List Nat} {m i : Nat}, x.take m = y.take m → i < m → x.getD i 0 = y.getD i 0 := by
        intro x y m i h hi
        have e : ∀ z : List Nat, (z.take m).getD i 0 = z.getD i 0 := fun z => by simp [List.getD, List.getElem?_take, hi]
        rw [← e x, ← e y, h]
      rcases Nat.lt_trichotomy k j with h | h | h
      · have := take_getD b1 h; omega
      · subst h; omega
      · have := take_getD a1 h; omega
structure IsFirst (P : List Nat → Prop) (o : List Nat) : Prop where
  mem : P o
  le : ∀ r, P r → LexLe o r
theorem IsFirst.uniq {P : List Nat → Prop} {a b : List Nat} (ha : IsFirst P a) (hb : IsFirst P b) : a = b := (ha.le b hb.mem).antisymm (hb.le a ha.mem)
/-- The first row of a kind that begins with a row, if there is one. -/
def FirstExt (P : List Nat → Prop) (r : List Nat) (o : Option (List Nat)) : Prop :=
  match o with
  | none => ∀ q, r <+: q → ¬ P q
  | some o => IsFirst (fun q => r <+: q ∧ P q) o
/-- Whole numbers of a row. -/
def nl (r : List Nat) : List Int := r.map fun v => ((v : Nat) : Int)
theorem nl_len (r : List Nat) : (nl r).length = r.length := by simp [nl]
theorem nl_at {r : List Nat} {k : Nat} (hk : k < r.length) : D.eli (nl r) k = ((r.getD k 0 : Nat) : Int) := by unfold D.eli nl; simp [List.getD, hk]
theorem nl_append (r : List Nat) (v : Nat) : nl (r ++ [v]) = nl r ++ [((v : Nat) : Int)] := by simp [nl]
theorem nl_inj {r q : List Nat} (h : nl r = nl q) : r = q := by
  have hl : r.length = q.length := by have := congrArg List.length h; simpa [nl] using this
  refine List.ext_getElem hl fun k h1 h2 => ?_
  have : D.eli (nl r) k = D.eli (nl q) k := by rw [h]
  rw [nl_at h1, nl_at h2] at this
  have e1 : r.getD k 0 = r[k] := by simp [List.getD, h1]
  have e2 : q.getD k 0 = q[k] := by simp [List.getD, h2]
  rw [e1, e2] at this
  omega
end Go.Proofs.Ytgpgifpblchjjaa
/- Logs: three bytes for each place. Plain facts. Conditions: those of each theorem. -/
namespace Go.Proofs.Ytgpgifpblchjjaa
open D Go.RowKit
set_option linter.unusedVariables false
set_option linter.unusedSimpArgs false

def rec3 (p k : Nat) : List Nat := [p + 1, k + 1, (p + 1) * (k + 7) % 251]
def logN : Nat → List Nat → List Nat
  | _, [] => []
  | k, p :: r => rec3 p k ++ logN (k + 1) r
theorem logN_len : ∀ (q : List Nat) (k : Nat), (logN k q).length = 3 * q.length
  | [], k => rfl
  | p :: r, k => by simp only [logN, List.length_append, logN_len r (k + 1), List.length_cons]; simp [rec3]; omega
theorem logN_snoc : ∀ (q : List Nat) (k p : Nat), logN k (q ++ [p]) = logN k q ++ rec3 p (k + q.length)
  | [], k, p => by simp [logN]
  | a :: r, k, p => by
    simp only [List.cons_append, logN, logN_snoc r (k + 1) p, List.length_cons, List.append_assoc]
    rw [show k + 1 + r.length = k + (r.length + 1) by omega]
/-- Is a whole record of a place there, behind so many? -/
def rin (log : List Nat) (k : Nat) : Bool := decide (k < 40) && (decide (3 * k + 3 ≤ log.length) && (decide (1 ≤ log.getD (3 * k) 0 ∧ log.getD (3 * k) 0 ≤ 6) && decide ((log.drop (3 * k)).take 3 = rec3 (log.getD (3 * k) 0 - 1) k)))
theorem rin_iff {log : List Nat} {k : Nat} : rin log k = true ↔ k < 40 ∧ 3 * k + 3 ≤ log.length ∧ (1 ≤ log.getD (3 * k) 0 ∧ log.getD (3 * k) 0 ≤ 6) ∧ (log.drop (3 * k)).take 3 = rec3 (log.getD (3 * k) 0 - 1) k := by
  unfold rin; simp only [Bool.and_eq_true, decide_eq_true_eq]
/-- How many records a log begins with. -/
def lpL (log : List Nat) : Nat := (find 41 (fun k => if rin log k = true then none else some k)).getD 0
theorem lpL_is (log : List Nat) : (∀ k, k < lpL log → rin log k = true) ∧ rin log (lpL log) = false ∧ lpL log ≤ 40 := by
  have h40 : rin log 40 = false := by unfold rin; simp
  unfold lpL
  cases hf : find 41 (fun k => if rin log k = true then none else some k) with
  | none =>
    have := find_none.1 hf 40 (by omega)
    rw [h40] at this; simp at this
  | some r =>
    have key : ∀ m, find m (fun k => if rin log k = true then none else some k) = some r → r < m ∧ rin log r = false ∧ ∀ k, k < r → rin log k = true := by
      intro m
      induction m with
      | zero => intro hx; cases hx
      | succ m ih =>
        intro hx
        rw [find_succ] at hx
        cases hy : find m (fun k => if rin log k = true then none else some k) with
        | some y =>
          rw [hy] at hx
          obtain ⟨a, b⟩ := ih (by rw [hy]; exact hx)
          exact ⟨by omega, b⟩
        | none =>
          rw [hy] at hx
          have hx : (if rin log m = true then none else some m) = some r := hx
          by_cases hr : rin log m = true
          · rw [if_pos hr] at hx; cases hx
          · rw [if_neg hr] at hx
            injection hx with hx
            subst hx
            refine ⟨by omega, by simpa using hr, fun k hk => ?_⟩
            have := find_none.1 hy k hk
            by_cases hk2 : rin log k = true
            · exact hk2
            · rw [if_neg hk2] at this; cases this
    obtain ⟨a, b, c⟩ := key 41 hf
    exact ⟨c, b, by simp only [Option.getD_some]; omega⟩
/-- The places of the records. -/
def lp (log : List Nat) : List Nat := (List.range (lpL log)).map fun k => log.getD (3 * k) 0 - 1
theorem lp_len (log : List Nat) : (lp log).length = lpL log := by simp [lp]
theorem lp_lt {log : List Nat} {p : Nat} (hp : p ∈ lp log) : p < 6 := by
  unfold lp at hp
  obtain ⟨k, hk, rfl⟩ := List.mem_map.1 hp
  have := rin_iff.1 ((lpL_is log).1 k (List.mem_range.1 hk))
  omega
theorem lpL_bytes (log : List Nat) : 3 * lpL log ≤ log.length := by
  rcases Nat.eq_zero_or_pos (lpL log) with h | h
  · omega
  · have := (rin_iff.1 ((lpL_is log).1 (lpL log - 1) (by omega))).2.1
    omega
theorem take_three (log : List Nat) (k : Nat) : log.take (3 * (k + 1)) = log.take (3 * k) ++ (log.drop (3 * k)).take 3 := by
  rw [show 3 * (k + 1) = 3 * k + 3 by omega, List.take_add]
theorem lp_log (log : List Nat) : logN 0 (lp log) = log.take (3 * lpL log) := by
  have key : ∀ k, k ≤ lpL log → logN 0 ((List.range k).map fun k => log.getD (3 * k) 0 - 1) = log.take (3 * k) := by
    intro k
    induction k with
    | zero => intro _; simp [logN]
    | succ k ih =>
      intro hk
      have := rin_iff.1 ((lpL_is log).1 k (by omega))
      rw [List.range_succ, List.map_append, List.map_cons, List.map_nil, logN_snoc, ih (by omega), take_three, this.2.2.2]
      simp
  exact key _ (Nat.le_refl _)
theorem logN_at (q : List Nat) {k : Nat} (hk : k < q.length) : ((logN 0 q).drop (3 * k)).take 3 = rec3 (q.getD k 0) k := by
  have key : ∀ (q : List Nat) (j k : Nat), k < q.length → ((logN j q).drop (3 * k)).take 3 = rec3 (q.getD k 0) (j + k) := by
    intro q
    induction q with
    | nil => intro j k hk; simp at hk
    | cons p r ih =>
      intro j k hk
      cases k with
      | zero => simp [logN, rec3]
      | succ k =>
        have := ih (j + 1) k (by simpa using hk)
        rw [show 3 * (k + 1) = 3 + 3 * k by omega]
        simp only [logN]
        rw [← List.drop_drop]
        have e : (rec3 p j ++ logN (j + 1) r).drop 3 = logN (j + 1) r := by simp [rec3]
        rw [e, this, show j + 1 + k = j + (k + 1) by omega]
        simp [List.getD]
  simpa using key q 0 k hk
theorem getD_of_take3 {l : List Nat} {k a b c : Nat} (h : (l.drop k).take 3 = [a, b, c]) : l.getD k 0 = a := by
  have h0 : ((l.drop k).take 3)[0]? = some a := by rw [h]; rfl
  rw [List.getElem?_take, if_pos (by omega), List.getElem?_drop, Nat.add_zero] at h0
  simp [List.getD, h0]
/-- The bytes of places, cut anywhere. -/
theorem lp_cut {q : List Nat} (hl : q.length ≤ 40) (hq : ∀ p, p ∈ q → p < 6) {n : Nat} (hn : n ≤ 3 * q.length) : lpL ((logN 0 q).take n) = n / 3 ∧ lp ((logN 0 q).take n) = q.take (n / 3) := by
  have hlen : ((logN 0 q).take n).length = n := by rw [List.length_take, logN_len]; omega
  have at_ : ∀ k, 3 * k + 3 ≤ n → (((logN 0 q).take n).drop (3 * k)).take 3 = rec3 (q.getD k 0) k := fun k hk => by
    rw [← logN_at q (k := k) (by omega), List.drop_take, List.take_take]
    congr 1; omega
  have hat : ∀ k, 3 * k + 3 ≤ n → ((logN 0 q).take n).getD (3 * k) 0 = q.getD k 0 + 1 := fun k hk => getD_of_take3 (at_ k hk)
  have hin : ∀ k, 3 * k + 3 ≤ n → rin ((logN 0 q).take n) k = true := fun k hk => by
    have hkq : k < q.length := by omega
    have hmem : q.getD k 0 < 6 := hq _ (by simp [List.getD, hkq])
    exact rin_iff.2 ⟨by omega, by rw [hlen]; exact hk, by rw [hat k hk]; omega, by rw [hat k hk, at_ k hk]; rfl⟩
  have hL : lpL ((logN 0 q).take n) = n / 3 := by
    obtain ⟨a, b, c⟩ := lpL_is ((logN 0 q).take n)
    have h1 : ¬ lpL ((logN 0 q).take n) < n / 3 := fun hc => by
      rw [hin _ (by omega)] at b; cases b
    have h2 : ¬ n / 3 < lpL ((logN 0 q).take n) := fun hc => by
      have := (rin_iff.1 (a (n / 3) hc)).2.1
      rw [hlen] at this; omega
    omega
  refine ⟨hL, ?_⟩
  unfold lp
  rw [hL]
  refine List.ext_getElem (by simp; omega) fun k h1 h2 => ?_
  have hk : k < n / 3 := by simpa using h1
  have hkq : k < q.length := by omega
  rw [List.getElem_map, List.getElem_range, hat k (by omega), List.getElem_take]
  simp [List.getD, hkq]
/-- The bytes of a list of places, one after the other. -/
def logStep (l : List Int) (t : List Nat) (k : Nat) : List Nat ⊕ List Nat := if 0 ≤ D.eli l k ∧ D.eli l k < 6 then .inr (t ++ rec3 (D.eli l k).toNat k) else .inl t
theorem log_loop (l : List Int) : ∀ k, (∃ q : List Nat, q.length = k ∧ (∀ p, p ∈ q → p < 6) ∧ (∀ j, j < k → D.eli l j = ((q.getD j 0 : Nat) : Int)) ∧ loopE k (logStep l) [] = .inr (logN 0 q)) ∨
    ((∃ t, loopE k (logStep l) [] = .inl t) ∧ ¬ ∃ q : List Nat, q.length = k ∧ (∀ p, p ∈ q → p < 6) ∧ ∀ j, j < k → D.eli l j = ((q.getD j 0 : Nat) : Int)) := by
  intro k
  induction k with
  | zero => exact .inl ⟨[], rfl, fun p hp => by simp at hp, fun j hj => by omega, rfl⟩
  | succ k ih =>
    rcases ih with ⟨q, h1, h2, h3, h4⟩ | ⟨⟨t, h4⟩, h5⟩
    · rw [loopE_succ h4]
      unfold logStep
      by_cases hc : 0 ≤ D.eli l k ∧ D.eli l k < 6
      · rw [if_pos hc]
        left
        refine ⟨q ++ [(D.eli l k).toNat], by simp [h1], fun p hp => ?_, fun j hj => ?_, by rw [logN_snoc, h1, Nat.zero_add]⟩
        · rcases List.mem_append.1 hp with hp | hp
          · exact h2 p hp
          · rw [List.mem_singleton.1 hp]; omega
        · by_cases he : j < k
          · rw [getD_app_lt (by omega)]; exact h3 j he
          · obtain rfl : j = k := by omega
            rw [← h1, getD_app_end, h1]; omega
      · rw [if_neg hc]
        right
        refine ⟨⟨_, rfl⟩, ?_⟩
        rintro ⟨q2, p1, p2, p3⟩
        apply hc
        have e := p3 k (by omega)
        have hm : q2.getD k 0 ∈ q2 := by
          have : q2.getD k 0 = q2[k]'(by omega) := by simp [List.getD, show k < q2.length by omega]
          rw [this]; exact List.getElem_mem _
        have := p2 _ hm
        omega
    · right
      have : loopE (k + 1) (logStep l) [] = .inl t := by unfold loopE at h4 ⊢; rw [fold_succ, h4]
      refine ⟨⟨t, this⟩, ?_⟩
      rintro ⟨q, p1, p2, p3⟩
      refine h5 ⟨q.take k, by simp [p1], fun p hp => p2 p (List.mem_of_mem_take hp), fun j hj => ?_⟩
      rw [p3 j (by omega)]
      simp [List.getD, List.getElem?_take, hj]
theorem nl_of {l : List Int} {q : List Nat} (hl : q.length = l.length) (h : ∀ j, j < l.length → D.eli l j = ((q.getD j 0 : Nat) : Int)) : l = nl q := by
  refine List.ext_getElem (by rw [nl_len, hl]) fun k h1 h2 => ?_
  have e := h k h1
  have e2 := nl_at (r := q) (k := k) (by omega)
  rw [← e2] at e
  unfold D.eli at e
  simpa [List.getD, h1, h2] using e
/-- What the bytes of a list are. -/
noncomputable def logI (l : List Int) : List Nat := if l.length ≤ 40 then (match loopE l.length (logStep l) [] with | .inl _ => [] | .inr t => t) else []
theorem logI_is (l : List Int) : (∃ q : List Nat, l = nl q ∧ q.length ≤ 40 ∧ (∀ p, p ∈ q → p < 6) ∧ logI l = logN 0 q) ∨ (logI l = [] ∧ ¬ ∃ q : List Nat, l = nl q ∧ q.length ≤ 40 ∧ ∀ p, p ∈ q → p < 6) := by
  unfold logI
  by_cases h40 : l.length ≤ 40
  · rw [if_pos h40]
    rcases log_loop l l.length with ⟨q, h1, h2, h3, h4⟩ | ⟨⟨t, h4⟩, h5⟩
    · rw [h4]; exact .inl ⟨q, nl_of h1 h3, by omega, h2, rfl⟩
    · rw [h4]
      refine .inr ⟨rfl, fun ⟨q, e, hq, hp⟩ => h5 ⟨q, by rw [e, nl_len], hp, fun j hj => ?_⟩⟩
      rw [e, nl_len] at hj
      rw [e]; exact nl_at hj
  · rw [if_neg h40]
    refine .inr ⟨rfl, fun ⟨q, e, hq, _⟩ => ?_⟩
    rw [e, nl_len] at h40; omega
theorem logI_nl {q : List Nat} (hl : q.length ≤ 40) (hq : ∀ p, p ∈ q → p < 6) : logI (nl q) = logN 0 q := by
  rcases logI_is (nl q) with ⟨r, e, _, _, h⟩ | ⟨_, h⟩
  · rw [h, nl_inj e]
  · exact absurd ⟨q, rfl, hl, hq⟩ h
end Go.Proofs.Ytgpgifpblchjjaa
/- Loops that count, and Go's whole numbers as natural numbers. Conditions: those of each theorem. -/
namespace Go.Proofs.Ytgpgifpblchjjaa
open D Go.RowKit
set_option linter.unusedVariables false
set_option linter.unusedSimpArgs false

/-- A loop that counts from 0 to len and carries t. -/
theorem run_for {S T D : Type} {run : Nat → S → Option D} {len : Nat} (st : Nat → T → S) (f : T → Nat → T) (out : T → D) (Inv : Nat → T → Prop) (hl : len ≤ 100000000)
    (hs : ∀ n k t, k < len → Inv k t → run (n + 1) (st k t) = run n (st (k + 1) (f t k)) ∧ Inv (k + 1) (f t k))
    (he : ∀ n t, Inv len t → run (n + 1) (st len t) = some (out t)) {t0 : T} (h0 : Inv 0 t0) :
    run FUEL (st 0 t0) = some (out (fold len f t0)) ∧ Inv len (fold len f t0) := by
  have inv : ∀ k, k ≤ len → Inv k (fold k f t0) := by
    intro k
    induction k with
    | zero => intro _; exact h0
    | succ k ih => intro hk; rw [fold_succ]; exact (hs 0 k _ (by omega) (ih (by omega))).2
  have key : ∀ m k n, k + m = len → m < n → run n (st k (fold k f t0)) = some (out (fold len f t0)) := by
    intro m
    induction m with
    | zero =>
      intro k n hk hn
      obtain ⟨n, rfl⟩ : ∃ n', n = n' + 1 := ⟨n - 1, by omega⟩
      obtain rfl : k = len := by omega
      exact he n _ (inv k (Nat.le_refl _))
    | succ m ih =>
      intro k n hk hn
      obtain ⟨n, rfl⟩ : ∃ n', n = n' + 1 := ⟨n - 1, by omega⟩
      rw [(hs n k _ (by omega) (inv k (by omega))).1, ← fold_succ k f t0]
      exact ih (k + 1) n (by omega) (by omega)
  exact ⟨key len 0 FUEL (by omega) (by have := FUEL_le; omega), inv len (Nat.le_refl _)⟩
/-- The same for a loop that may leave early. -/
theorem run_forE {S T D Q : Type} {run : Nat → S → Option D} {len : Nat} (st : Nat → T → S) (f : T → Nat → Q ⊕ T) (outl : Q → D) (out : T → D) (Inv : Nat → T → Prop) (hl : len ≤ 100000000)
    (hs : ∀ n k t, k < len → Inv k t → match f t k with | .inl d => run (n + 1) (st k t) = some (outl d) | .inr t' => run (n + 1) (st k t) = run n (st (k + 1) t') ∧ Inv (k + 1) t')
    (he : ∀ n t, Inv len t → run (n + 1) (st len t) = some (out t)) {t0 : T} (h0 : Inv 0 t0) :
    run FUEL (st 0 t0) = some (match loopE len f t0 with | .inl d => outl d | .inr t => out t) ∧ ∀ t, loopE len f t0 = .inr t → Inv len t := by
  have left : ∀ m k d, k + m ≤ len → loopE k f t0 = .inl d → loopE (k + m) f t0 = .inl d := by
    intro m
    induction m with
    | zero => intro k d _ h; exact h
    | succ m ih =>
      intro k d hk h
      refine ih (k := k) d (by omega) h |> fun h2 => ?_
      show loopE (k + m + 1) f t0 = _
      unfold loopE at h2 ⊢
      rw [fold_succ, h2]
  have inv : ∀ k, k ≤ len → ∀ t, loopE k f t0 = .inr t → Inv k t := by
    intro k
    induction k with
    | zero => intro _ t h; cases h; exact h0
    | succ k ih =>
      intro hk t h
      cases hq : loopE k f t0 with
      | inl d => rw [left 1 k d (by omega) hq] at h; cases h
      | inr t1 =>
        rw [loopE_succ hq] at h
        have := hs 0 k t1 (by omega) (ih (by omega) t1 hq)
        rw [h] at this
        exact this.2
  have key : ∀ m k n t, k + m = len → m < n → loopE k f t0 = .inr t → run n (st k t) = some (match loopE len f t0 with | .inl d => outl d | .inr t => out t) := by
    intro m
    induction m with
    | zero =>
      intro k n t hk hn ht
      obtain ⟨n, rfl⟩ : ∃ n', n = n' + 1 := ⟨n - 1, by omega⟩
      obtain rfl : k = len := by omega
      rw [he n _ (inv k (Nat.le_refl _) t ht), ht]
    | succ m ih =>
      intro k n t hk hn ht
      obtain ⟨n, rfl⟩ : ∃ n', n = n' + 1 := ⟨n - 1, by omega⟩
      have h1 := hs n k t (by omega) (inv k (by omega) t ht)
      have h2 : loopE (k + 1) f t0 = f t k := loopE_succ ht
      cases hq : f t k with
      | inl d =>
        rw [hq] at h1 h2
        rw [show len = k + 1 + m by omega, left m (k + 1) d (by omega) h2]
        exact h1
      | inr t' =>
        rw [hq] at h1 h2
        rw [h1.1]
        exact ih (k + 1) n t' (by omega) (by omega) h2
  exact ⟨key len 0 FUEL t0 (by omega) (by have := FUEL_le; omega) rfl, inv len (Nat.le_refl _)⟩

/-! ### Go's numbers -/
theorem bits64 : IntKind.i64.bits = 64 := by kernel_rfl
theorem wrap_nat {a : Nat} (ha : a < 9223372036854775808) : IntKind.i64.wrap (a : Int) = a := i64_wrap_nat a ha
theorem shl_nat {a k : Nat} (h : a * 2 ^ k < 9223372036854775808) (hk : k < 64) : IntKind.i64.wrap ((a : Int) * 2 ^ min (k : Int).toNat IntKind.i64.bits) = ((a * 2 ^ k : Nat) : Int) := by
  rw [bits64, Int.toNat_natCast, Nat.min_eq_left (by omega), show (a : Int) * 2 ^ k = ((a * 2 ^ k : Nat) : Int) by simp]
  exact wrap_nat h
theorem one_shl {k : Nat} (hk : k < 63) : IntKind.i64.wrap (1 * 2 ^ min (k : Int).toNat IntKind.i64.bits) = ((2 ^ k : Nat) : Int) := by
  have h := shl_nat (a := 1) (k := k) (by have : (2 : Nat) ^ k ≤ 2 ^ 62 := Nat.pow_le_pow_right (by omega) (by omega); omega) (by omega)
  rw [Nat.one_mul] at h
  exact h
theorem shr_is (a k : Nat) (hk : k ≤ 64) : (a : Int).fdiv (2 ^ min (k : Int).toNat IntKind.i64.bits) = ((a / 2 ^ k : Nat) : Int) := by
  rw [bits64, Int.toNat_natCast, Nat.min_eq_left hk, Int.fdiv_eq_ediv_of_nonneg _ (by exact Int.le_of_lt (Int.pow_pos (by decide)))]
  simp
theorem tmod_nat (a b : Nat) : (a : Int).tmod (b : Int) = ((a % b : Nat) : Int) := by
  rw [Int.tmod_eq_emod_of_nonneg (Int.natCast_nonneg a)]; rfl
theorem tmod2_nat (a : Nat) : (a : Int).tmod 2 = ((a % 2 : Nat) : Int) := tmod_nat a 2
theorem tdiv2_nat (a : Nat) : (a : Int).tdiv 2 = ((a / 2 : Nat) : Int) := by
  rw [Int.tdiv_eq_ediv_of_nonneg (Int.natCast_nonneg a)]; rfl
theorem div_mod_bit (a k : Nat) : a / 2 ^ k % 2 = (a.testBit k).toNat := by
  rw [testBit_div]
  have : a / 2 ^ k % 2 = 0 ∨ a / 2 ^ k % 2 = 1 := by omega
  rcases this with h | h <;> simp [h]
/-- The bit of a set at a place, in the two ways that the texts have for it. -/
theorem bit_shr (a k : Nat) (hk : k ≤ 64) : ((a : Int).fdiv (2 ^ min (k : Int).toNat IntKind.i64.bits)).tmod 2 = ((a.testBit k).toNat : Int) := by
  rw [shr_is a k hk, tmod2_nat, div_mod_bit]
theorem bit_shr1 (a k : Nat) (hk : k ≤ 64) : bits .and .i64 ((a : Int).fdiv (2 ^ min (k : Int).toNat IntKind.i64.bits)) 1 = ((a.testBit k).toNat : Int) := by
  rw [i64_and1, shr_is a k hk, ← div_mod_bit]; rfl
theorem bool_eq1 (b : Bool) : (((b.toNat : Nat) : Int) == 1) = b := by cases b <;> rfl
theorem bool_eq0 (b : Bool) : (((b.toNat : Nat) : Int) == 0) = !b := by cases b <;> rfl
theorem nat_beq (a b : Nat) : ((a : Int) == (b : Int)) = (a == b) := by rw [Bool.eq_iff_iff, beq_iff_eq, beq_iff_eq]; omega
theorem add_nat {a b : Nat} (h : a + b < 9223372036854775808) : IntKind.i64.wrap ((a : Int) + (b : Int)) = ((a + b : Nat) : Int) := wrap_nat h
theorem add1_nat {a : Nat} (h : a + 1 < 9223372036854775808) : IntKind.i64.wrap ((a : Int) + 1) = ((a + 1 : Nat) : Int) := wrap_nat h
theorem sub_nat {a b : Nat} (h : b ≤ a) (ha : a < 9223372036854775808) : IntKind.i64.wrap ((a : Int) - (b : Int)) = ((a - b : Nat) : Int) := by
  rw [show (a : Int) - (b : Int) = ((a - b : Nat) : Int) by omega]; exact wrap_nat (by omega)
theorem sub1_nat {a : Nat} (h : 1 ≤ a) (ha : a < 9223372036854775808) : IntKind.i64.wrap ((a : Int) - 1) = ((a - 1 : Nat) : Int) := sub_nat (b := 1) h ha
theorem div2_nat {a : Nat} (h : a < 9223372036854775808) : IntKind.i64.wrap ((a : Int).tdiv 2) = ((a / 2 : Nat) : Int) := by
  rw [tdiv2_nat]; exact wrap_nat (by omega)
theorem pow2_lt {k : Nat} (hk : k ≤ 62) : 2 ^ k < 9223372036854775808 := by
  have : (2 : Nat) ^ k ≤ 2 ^ 62 := Nat.pow_le_pow_right (by omega) hk
  omega
end Go.Proofs.Ytgpgifpblchjjaa
/- Finite sums of natural numbers, and how many there are of a kind. Conditions: those of each theorem. -/
namespace Go.Proofs.Ytgpgifpblchjjaa
set_option linter.unusedVariables false
set_option linter.unusedSimpArgs false

/-- f 0 + .. + f (n - 1). -/
def sumN : Nat → (Nat → Nat) → Nat
  | 0, _ => 0
  | n + 1, f => sumN n f + f n
theorem sumN_congr {n : Nat} {f g : Nat → Nat} (h : ∀ k, k < n → f k = g k) : sumN n f = sumN n g := by
  induction n with
  | zero => rfl
  | succ n ih => simp only [sumN]; rw [ih (fun k hk => h k (by omega)), h n (by omega)]
theorem sumN_le {n : Nat} {f g : Nat → Nat} (h : ∀ k, k < n → f k ≤ g k) : sumN n f ≤ sumN n g := by
  induction n with
  | zero => exact Nat.le_refl _
  | succ n ih =>
    have h1 := ih (fun k hk => h k (by omega))
    have h2 := h n (by omega)
    simp only [sumN]; omega
theorem sumN_add (n : Nat) (f g : Nat → Nat) : sumN n (fun k => f k + g k) = sumN n f + sumN n g := by
  induction n with
  | zero => rfl
  | succ n ih => simp only [sumN]; omega
theorem sumN_const (n c : Nat) : sumN n (fun _ => c) = n * c := by
  induction n with
  | zero => simp [sumN]
  | succ n ih => simp only [sumN]; rw [ih, Nat.succ_mul]
/-- How many below n are of a kind. -/
def cnt (n : Nat) (p : Nat → Bool) : Nat := sumN n (fun k => (p k).toNat)
theorem cnt_le (n : Nat) (p : Nat → Bool) : cnt n p ≤ n := by
  have := sumN_le (n := n) (f := fun k => (p k).toNat) (g := fun _ => 1) (fun k _ => by cases p k <;> decide)
  rw [sumN_const] at this
  unfold cnt; omega
theorem cnt_mono {n : Nat} {p q : Nat → Bool} (h : ∀ k, k < n → p k = true → q k = true) : cnt n p ≤ cnt n q :=
  sumN_le fun k hk => by
    have := h k hk
    cases hp : p k with
    | false => exact Nat.zero_le _
    | true => rw [this hp]; exact Nat.le_refl _
theorem cnt_congr {n : Nat} {p q : Nat → Bool} (h : ∀ k, k < n → p k = q k) : cnt n p = cnt n q := sumN_congr fun k hk => by rw [h k hk]
theorem cnt_true (n : Nat) : cnt n (fun _ => true) = n := by
  show sumN n (fun _ => 1) = n
  rw [sumN_const]; omega
theorem card_sum (n s : Nat) : card n s = cnt n (fun k => s.testBit k) := by
  unfold cnt
  induction n with
  | zero => rfl
  | succ n ih => rw [card_succ, ih]; simp only [sumN]; cases s.testBit n <;> rfl
end Go.Proofs.Ytgpgifpblchjjaa
/- Watches: plain facts of nets and sets of their places. Conditions: those of each theorem. -/
namespace Go.Proofs.Ytgpgifpblchjjaa
set_option linter.unusedVariables false
set_option linter.unusedSimpArgs false

theorem allOf_lt (net : List Int) : allOf net < 2 ^ net.length := by
  unfold allOf
  have : 0 < 2 ^ net.length := Nat.two_pow_pos _
  omega
/-- Does a set watch the net? -/
def W (net : List Int) (s : Nat) : Bool := seen net s == allOf net
/-! ### Without one place -/
theorem bits_sub : ∀ s, s < 64 → ∀ k, k < 6 → s.testBit k = true → s - 2 ^ k < 64 ∧ 2 ^ k ≤ s ∧ size (s - 2 ^ k) + 1 = size s ∧ ∀ j, j < 6 → (s - 2 ^ k).testBit j = (s.testBit j && !decide (j = k)) := by decide +kernel
theorem bits_or : ∀ s, s < 64 → ∀ k, k < 6 → s.testBit k = false → size (s ||| 2 ^ k) = size s + 1 := by decide +kernel
theorem bits_minus : ∀ s, s < 64 → ∀ k, k < 6 → minus s (2 ^ k) = if s.testBit k = true then s - 2 ^ k else s := by decide +kernel
theorem testBit_big {s j : Nat} (hs : s < 64) (hj : 6 ≤ j) : s.testBit j = false := by
  cases h : s.testBit j with
  | false => rfl
  | true => have := testBit_lt (n := 6) hs h; omega
theorem sub_testBit {s k : Nat} (hs : s < 64) (hk : k < 6) (hb : s.testBit k = true) (j : Nat) : (s - 2 ^ k).testBit j = (s.testBit j && !decide (j = k)) := by
  have h := bits_sub s hs k hk hb
  by_cases hj : j < 6
  · exact h.2.2.2 j hj
  · rw [testBit_big h.1 (by omega), testBit_big hs (by omega)]; rfl
theorem sub_lt {s k n : Nat} (hs : s < 2 ^ n) : s - 2 ^ k < 2 ^ n := Nat.lt_of_le_of_lt (Nat.sub_le _ _) hs

/-- A watch that needs each of its places. -/
def least (net : List Int) (s : Nat) : Bool := W net s && (List.range net.length).all fun k => !(s.testBit k && W net (s - 2 ^ k))
theorem lt64 {net : List Int} (h : Ok net) {s : Nat} (hs : s < 2 ^ net.length) : s < 64 := Nat.lt_of_lt_of_le hs h.pow
end Go.Proofs.Ytgpgifpblchjjaa
/- The fewest guards of watches, and how many watches there are. Conditions: those of each theorem. -/
namespace Go.Proofs.Ytgpgifpblchjjaa
set_option linter.unusedVariables false
set_option linter.unusedSimpArgs false

theorem size_cnt {net : List Int} (h : Ok net) {s : Nat} (hs : s < 2 ^ net.length) : size s = cnt net.length (fun k => s.testBit k) := by
  rw [h.size_eq hs, card_sum]
/-- So many places has the smallest watch. -/
structure Few (net : List Int) (m : Nat) : Prop where
  ex : ∃ s, s < 2 ^ net.length ∧ W net s = true ∧ size s = m
  le : ∀ s, s < 2 ^ net.length → W net s = true → m ≤ size s
theorem Few.uniq {net : List Int} {a b : Nat} (ha : Few net a) (hb : Few net b) : a = b := by
  obtain ⟨s, h1, h2, h3⟩ := ha.ex
  obtain ⟨t, g1, g2, g3⟩ := hb.ex
  have := ha.le t g1 g2
  have := hb.le s h1 h2
  omega
/-- The least place of a part. -/
def root (net : List Int) (k : Nat) : Bool := (comp net k &&& (2 ^ k - 1)) == 0
theorem root_iff {net : List Int} {k : Nat} : root net k = true ↔ ∀ j, j < k → (comp net k).testBit j = false := by
  unfold root
  rw [beq_iff_eq]
  constructor
  · intro he j hj
    have : (comp net k &&& (2 ^ k - 1)).testBit j = false := by rw [he, Nat.zero_testBit]
    rw [Nat.testBit_and, Nat.testBit_two_pow_sub_one] at this
    simpa [hj] using this
  · intro ha
    apply Nat.eq_of_testBit_eq
    intro j
    rw [Nat.zero_testBit, Nat.testBit_and, Nat.testBit_two_pow_sub_one]
    by_cases hj : j < k
    · rw [ha j hj]; rfl
    · simp [hj]
/-! ### How many watches there are -/
end Go.Proofs.Ytgpgifpblchjjaa
/- Sweeps over a list of marks until nothing turns: the greatest set that holds itself. Conditions: those of each theorem. -/
namespace Go.Proofs.Ytgpgifpblchjjaa
set_option linter.unusedVariables false
set_option linter.unusedSimpArgs false

theorem elb_set {l : List Bool} {k j : Nat} {b : Bool} (hk : k < l.length) : D.elb (l.set k b) j = if j = k then b else D.elb l j := by
  unfold D.elb
  by_cases hj : j = k
  · subst hj; simp [List.getD, hk]
  · rw [if_neg hj]
    simp [List.getD, List.getElem?_set_ne (fun e => hj e.symm)]
theorem elb_eq {l : List Bool} {k : Nat} (hk : k < l.length) : D.elb l k = l[k] := by unfold D.elb; simp [List.getD, hk]
theorem elb_ext {l m : List Bool} (hl : l.length = m.length) (h : ∀ k, k < l.length → D.elb l k = D.elb m k) : l = m := by
  refine List.ext_getElem hl (fun k h1 h2 => ?_)
  have := h k h1
  rw [elb_eq h1, elb_eq h2] at this
  exact this
/-- How many marks. -/
def trues (l : List Bool) : Nat := l.countP id
theorem trues_le (l : List Bool) : trues l ≤ l.length := List.countP_le_length
theorem trues_set {l : List Bool} : ∀ {k : Nat}, k < l.length → D.elb l k = true → trues (l.set k false) + 1 = trues l := by
  induction l with
  | nil => intro k hk; simp at hk
  | cons b l ih =>
    intro k hk hb
    cases k with
    | zero =>
      have : b = true := by simpa [D.elb, List.getD] using hb
      subst this
      simp [trues]
    | succ k =>
      have h1 : D.elb l k = true := by simpa [D.elb, List.getD] using hb
      have := ih (by simpa using hk) h1
      simp only [List.set_cons_succ, trues, List.countP_cons] at this ⊢
      omega
def sweepStep (H : List Bool → Nat → Bool) (t : Bool × List Bool) (s : Nat) : Bool × List Bool := if (D.elb t.2 s && !H t.2 s) = true then (true, t.2.set s false) else t
def sweep (H : List Bool → Nat → Bool) (N : Nat) (l : List Bool) : Bool × List Bool := fold N (sweepStep H) (false, l)
/-- What stands of a sweep. -/
structure SweepI (H : List Bool → Nat → Bool) (l : List Bool) (k : Nat) (t : Bool × List Bool) : Prop where
  len : t.2.length = l.length
  no : t.1 = false → t.2 = l ∧ ∀ s, s < k → D.elb l s = true → H l s = true
  yes : t.1 = true → trues t.2 < trues l
theorem sweepI_step {H : List Bool → Nat → Bool} {l : List Bool} {k : Nat} {t : Bool × List Bool} (hk : k < l.length) (h : SweepI H l k t) : SweepI H l (k + 1) (sweepStep H t k) := by
  obtain ⟨a, m⟩ := t
  have hl := h.len
  simp only at hl
  unfold sweepStep
  cases hc : D.elb m k && !H m k with
  | false =>
    rw [if_neg (by simp)]
    refine ⟨h.len, fun ha => ?_, h.yes⟩
    obtain ⟨e1, e2⟩ := h.no ha
    simp only at e1
    subst e1
    refine ⟨rfl, fun s hs hb => ?_⟩
    by_cases he : s = k
    · subst he
      simp only [hb, Bool.true_and, Bool.not_eq_false'] at hc
      exact hc
    · exact e2 s (by omega) hb
  | true =>
    rw [if_pos rfl]
    simp only [Bool.and_eq_true] at hc
    have h1 := trues_set (l := m) (k := k) (by omega) hc.1
    refine ⟨by simp [hl], fun ha => (by cases ha), fun _ => ?_⟩
    show trues (m.set k false) < trues l
    cases a with
    | true => have := h.yes rfl; simp only at this; omega
    | false => obtain ⟨e1, _⟩ := h.no rfl; simp only at e1; subst e1; omega
theorem sweepI_fold (H : List Bool → Nat → Bool) (l : List Bool) : ∀ k, k ≤ l.length → SweepI H l k (fold k (sweepStep H) (false, l)) := by
  intro k
  induction k with
  | zero => intro _; exact ⟨rfl, fun _ => ⟨rfl, fun s hs => by omega⟩, fun h => (by cases h)⟩
  | succ k ih => intro hk; rw [fold_succ]; exact sweepI_step (by omega) (ih (by omega))
/-- What holds itself in all that has it is kept. -/
theorem sweep_keep {H : List Bool → Nat → Bool} {N : Nat} {G : Nat → Prop} (hG : ∀ m : List Bool, m.length = N → (∀ s, s < N → G s → D.elb m s = true) → ∀ s, s < N → G s → H m s = true)
    {l : List Bool} (hl : l.length = N) (hin : ∀ s, s < N → G s → D.elb l s = true) : ∀ k, k ≤ N → (fold k (sweepStep H) (false, l)).2.length = N ∧ ∀ s, s < N → G s → D.elb (fold k (sweepStep H) (false, l)).2 s = true := by
  intro k
  induction k with
  | zero => intro _; exact ⟨hl, hin⟩
  | succ k ih =>
    intro hk
    obtain ⟨a, b⟩ := ih (by omega)
    rw [fold_succ]
    generalize fold k (sweepStep H) (false, l) = t at a b ⊢
    unfold sweepStep
    cases hc : D.elb t.2 k && !H t.2 k with
    | false => rw [if_neg (by simp)]; exact ⟨a, b⟩
    | true =>
      rw [if_pos rfl]
      refine ⟨by simp [a], fun s hs hg => ?_⟩
      show D.elb (t.2.set k false) s = true
      rw [elb_set (by omega)]
      by_cases he : s = k
      · subst he
        have := hG t.2 a b s hs hg
        rw [this] at hc; simp at hc
      · rw [if_neg he]; exact b s hs hg
/-- Sweeps until nothing turns. -/
theorem settles {H : List Bool → Nat → Bool} {N : Nat} {G : Nat → Prop} (hG : ∀ m : List Bool, m.length = N → (∀ s, s < N → G s → D.elb m s = true) → ∀ s, s < N → G s → H m s = true)
    {run : Nat → Bool × List Bool → Option (List Bool)} (h1 : ∀ n l, l.length = N → run (n + 1) (true, l) = run n (sweep H N l)) (h0 : ∀ n l, run (n + 1) (false, l) = some l) :
    ∀ (c : Nat) (l : List Bool), l.length = N → trues l ≤ c → (∀ s, s < N → G s → D.elb l s = true) → ∀ n, c + 2 ≤ n →
      ∃ m, run n (true, l) = some m ∧ m.length = N ∧ (∀ s, s < N → G s → D.elb m s = true) ∧ ∀ s, s < N → D.elb m s = true → H m s = true := by
  intro c
  induction c with
  | zero =>
    intro l hl hc hin n hn
    obtain ⟨n, rfl⟩ : ∃ q, n = q + 2 := ⟨n - 2, by omega⟩
    have hS := sweepI_fold H l N (by omega)
    have hK := sweep_keep hG hl hin N (Nat.le_refl _)
    rw [h1 _ l hl]
    unfold sweep
    generalize fold N (sweepStep H) (false, l) = t at hS hK ⊢
    obtain ⟨a, m⟩ := t
    cases a with
    | true => have := hS.yes rfl; omega
    | false =>
      obtain ⟨e1, e2⟩ := hS.no rfl
      simp only at e1
      subst e1
      exact ⟨m, h0 _ _, hl, hin, e2⟩
  | succ c ih =>
    intro l hl hc hin n hn
    obtain ⟨n, rfl⟩ : ∃ q, n = q + 2 := ⟨n - 2, by omega⟩
    have hS := sweepI_fold H l N (by omega)
    have hK := sweep_keep hG hl hin N (Nat.le_refl _)
    rw [h1 _ l hl]
    unfold sweep
    generalize fold N (sweepStep H) (false, l) = t at hS hK ⊢
    obtain ⟨a, m⟩ := t
    cases a with
    | true =>
      have := hS.yes rfl
      simp only at this
      exact ih m hK.1 (by omega) hK.2 (n + 1) (by omega)
    | false =>
      obtain ⟨e1, e2⟩ := hS.no rfl
      simp only at e1
      subst e1
      exact ⟨m, h0 _ _, hl, hin, e2⟩

end Go.Proofs.Ytgpgifpblchjjaa
