/- Regions whose order is drawn: every order comes to the same. Conditions: those of each theorem. -/
import Derived.Test.YtonbbeplmjidnaaDet
import Derived.Test.YtonbbeplmjidnaaCode
import Derived.Orders
namespace Go.Proofs.Ytonbbeplmjidnaa.D
open Go.RowKit
set_option linter.unusedVariables false
set_option linter.unusedSimpArgs false

/-- Operations that don't look at blocks. -/
def heapFree : Op → Bool
  | .assign (.const (.slice none 0 0)) => false
  | .move _ | .assign _ | .pick .. | .binOp .. | .unOp .. | .convert .. | .extract .. | .nilCheck _ | .fieldAddr .. | .field .. | .build .. => true
  | .call ⟨.builtin .min, _, _⟩ | .call ⟨.builtin .max, _, _⟩ => true
  | _ => false
/-- Operations that leave the blocks as they are. -/
def quietOp (pureF : FuncId → Bool) : Op → Bool
  | .indexAddr .. | .load .. | .slice .. => true
  | .call ⟨.builtin .len, _, _⟩ => true
  | .call ⟨.value (.func f), _, _⟩ => pureF f
  | op => heapFree op

/-- The length of a slice. -/
def lenOp : Op → Bool
  | .call ⟨.builtin .len, _, _⟩ => true
  | _ => false
/-- Calls that write into no row. -/
def keepOp (rowsF : FuncId → Bool) : Op → Bool
  | .call ⟨.value (.func f), _, _⟩ => rowsF f
  | _ => false
def freeOp (op : Op) : Bool := heapFree op || lenOp op
def lenKeep (rowsF : FuncId → Bool) (i j : Nat) (oi oj : Oper) : Bool :=
  (Nat.blt i j && lenOp oi.op && keepOp rowsF oj.op) || (Nat.blt j i && lenOp oj.op && keepOp rowsF oi.op)

def maskOf (o : Oper) (M : List Nat) : Nat := o.after.toList.foldl (fun s e => bif Region.binds .any e then (s ||| 2 ^ e.on) ||| M.getD e.on 0 else s) 0
def reachL : List Oper → List Nat → List Nat
  | [], acc => acc
  | o :: os, acc => reachL os (acc ++ [maskOf o acc])

def before_ (M : List Nat) (i j : Nat) : Bool := bif Nat.blt i j then (M.getD j 0).testBit i else (M.getD i 0).testBit j
def pairOk (pureF rowsF : FuncId → Bool) (ops : Array Oper) (M : List Nat) (i j : Nat) (oi oj : Oper) : Bool :=
  (match oi.dst, oj.dst with | some a, some b => !Nat.beq a b | _, _ => true) &&
  (match oi.dst with | some d => bif (oj.looksAt ops).any (Nat.beq d) then before_ M i j else true | none => true) &&
  (bif (quietOp pureF oi.op && quietOp pureF oj.op) || heapFree oi.op || heapFree oj.op || lenKeep rowsF i j oi oj then true else before_ M i j)
def drawOk (pf : FuncId → Bool × Bool) (ops : Array Oper) : Bool :=
  let M := reachL ops.toList []
  (List.range ops.size).all fun j => match ops[j]? with
    | none => true
    | some oj => Nat.beq (M.getD j 0) (maskOf oj M) && (oj.after.toList.all fun e => !Region.binds .any e || Nat.blt e.on j) &&
      (match oj.guard with | none => true | some (g, _) => Nat.blt g j) &&
      (List.range ops.size).all fun i => match ops[i]? with
        | none => true
        | some oi => Nat.beq i j || pairOk (fun f => (pf f).1) (fun f => (pf f).2) ops M i j oi oj

section
variable {P : Program} {TD : TypeId → Option TI} {K : FuncId → List V → List E → (V → List E → R) → R}

theorem assign_eq {x : Operand} (hq : heapFree (.assign x) = true) {dst : Option Tmp} {ty : TypeId} {pos : String} {after : Array Edge} {guard : Option (Nat × Bool)} {σ : St} {κ : V → List E → R} :
    opC TD K ⟨dst, .assign x, ty, pos, after, guard⟩ σ κ = κ (σ.ev x) σ.h := by
  simp only [opC]
  split
  · simp [heapFree] at hq
  · rfl

theorem opC_congr {o : Oper} {σ σ' : St} {κ : V → List E → R} (hh : σ.h = σ'.h) (he : ∀ x ∈ o.op.operands, σ.ev x = σ'.ev x) : opC TD K o σ κ = opC TD K o σ' κ := by
  obtain ⟨dst, op, ty, pos, after, guard⟩ := o
  cases op <;> simp only [Op.operands] at he
  case assign x =>
    have e := he x (by simp)
    simp only [opC, hh]
    split
    · rfl
    · rw [e]
  case build t ps =>
    have e : ∀ p ∈ ps.toList, σ.ev p.2 = σ'.ev p.2 := fun p hp => he p.2 (by simp; exact ⟨p.1, by simpa using hp⟩)
    have e1 : ∀ (n : Nat) (fs : Array Field), buildOk TD fs ps n σ.ev = buildOk TD fs ps n σ'.ev := by
      intro n fs
      unfold buildOk
      congr 1
      rw [← Array.all_toList, ← Array.all_toList]
      rw [Bool.eq_iff_iff, List.all_eq_true, List.all_eq_true]
      constructor
      · intro h p hp; rw [← e p hp]; exact h p hp
      · intro h p hp; rw [e p hp]; exact h p hp
    have e2 : ∀ (fs : Array Field) (zs : List V), layParts fs σ.ev ps.toList zs = layParts fs σ'.ev ps.toList zs := by
      intro fs zs
      unfold layParts
      revert e
      generalize ps.toList = l
      intro e
      induction l generalizing zs with
      | nil => rfl
      | cons p l ih =>
        simp only [List.foldl_cons]
        rw [e p (by simp)]
        exact ih _ (fun q hq => e q (by simp [hq]))
    simp only [opC, hh, e1]
    split
    · split
      · rw [e2]
      · rfl
    · rfl
  case buildSlice t n ps =>
    have e : (ps.toList.map fun p => σ.ev p.2) = ps.toList.map fun p => σ'.ev p.2 := List.map_congr_left fun p hp => he p.2 (by simp; exact ⟨p.1, by simpa using hp⟩)
    simp only [opC, hh, e]
  case call c =>
    obtain ⟨callee, cargs, cats⟩ := c
    have e : cargs.toList.map σ.ev = cargs.toList.map σ'.ev := List.map_congr_left fun x hx => he x (by simp [Call.operands]; exact .inr (by simpa using hx))
    have e1 : ∀ x ∈ cargs.toList, σ.ev x = σ'.ev x := fun x hx => he x (by simp [Call.operands]; exact .inr (by simpa using hx))
    simp only [opC, hh, e]
    split
    · split
      · rename_i h1 h2; rw [e1 _ (by rw [h1]; simp)]
      · rfl
    · rfl
    · rfl
    · split
      · rename_i h1 h2; rw [e1 _ (by rw [h1]; simp), e1 _ (by rw [h1]; simp)]
      · rfl
    · rfl
    · rfl
  case slice t x lo hi mx =>
    cases mx with
    | some m => rfl
    | none =>
      have ex := he x (by simp)
      have elo : lo.map σ.ev = lo.map σ'.ev := by cases lo <;> simp_all
      have ehi : hi.map σ.ev = hi.map σ'.ev := by cases lo <;> cases hi <;> simp_all
      simp only [opC, hh, ex, elo, ehi]
  all_goals (first
    | rfl
    | (simp only [opC, hh]; done)
    | (simp at he; simp only [opC, hh, he]; done)
    | (simp at he; obtain ⟨e1, e2⟩ := he; simp only [opC, hh, e1, e2]; done)
    | (simp at he; obtain ⟨e1, e2, e3⟩ := he; simp only [opC, hh, e1, e2, e3]; done))

theorem opC_quiet {pureF : FuncId → Bool} (hp : ∀ f, pureF f = true → ∀ args h κ, K f args h κ = K f args h fun v _ => κ v h) {o : Oper} (hq : quietOp pureF o.op = true) {σ : St} {κ : V → List E → R} :
    opC TD K o σ κ = opC TD K o σ fun v _ => κ v σ.h := by
  obtain ⟨dst, op, ty, pos, after, guard⟩ := o
  cases op <;> first | (simp [quietOp, heapFree] at hq; done) | rfl | skip
  case assign x => rw [assign_eq hq, assign_eq hq]
  case slice t x lo hi mx => cases mx <;> rfl
  case call c =>
    obtain ⟨callee, cargs, cats⟩ := c
    cases callee with
    | value f =>
      cases f with
      | func f => exact hp f hq _ _ _
      | _ => simp [quietOp, heapFree] at hq
    | invoke r m => simp [quietOp, heapFree] at hq
    | builtin b => cases b <;> first | (simp [quietOp, heapFree] at hq; done) | rfl
theorem opC_free {o : Oper} (hq : heapFree o.op = true) {σ : St} {κ : V → List E → R} (h2 : List E) : opC TD K o σ κ = opC TD K o { σ with h := h2 } fun v _ => κ v σ.h := by
  obtain ⟨dst, op, ty, pos, after, guard⟩ := o
  cases op <;> first | (simp [heapFree] at hq; done) | rfl | skip
  case assign x => rw [assign_eq hq, assign_eq hq]; rfl
  case call c =>
    obtain ⟨callee, cargs, cats⟩ := c
    cases callee with
    | builtin b => cases b <;> first | (simp [heapFree] at hq; done) | rfl
    | _ => simp [heapFree] at hq
/-- A length is the same while the row stands. -/
theorem opC_len {o : Oper} (hl : lenOp o.op = true) {σ : St} {v : V} {h' h2 : List E} (hrow : ∀ id l, getE σ.h id = .row l → getE h2 id = .row l)
    (hs : opC TD K o σ (fun v h => some (v, h)) = some (v, h')) (κ2 : V → List E → R) : opC TD K o { σ with h := h2 } κ2 = κ2 v h2 := by
  obtain ⟨dst, op, ty, pos, after, guard⟩ := o
  cases op <;> first | (simp [lenOp] at hl; done) | skip
  case call c =>
    obtain ⟨callee, cargs, cats⟩ := c
    cases callee with
    | builtin b =>
      cases b <;> first | (simp [lenOp] at hl; done) | skip
      simp only [opC] at hs ⊢
      generalize cargs.toList = la at hs ⊢
      generalize cats.toList = lt at hs ⊢
      rcases la with _ | ⟨x, _ | ⟨y, la⟩⟩ <;> rcases lt with _ | ⟨t, _ | ⟨u, lt⟩⟩ <;> simp only at hs ⊢ <;> first | (cases hs; done) | skip
      have e : St.ev { σ with h := h2 } x = σ.ev x := by cases x <;> rfl
      rw [e]
      have key : lenC (σ.ev x) σ.h (fun v => some (v, σ.h)) = some (v, h') → lenC (σ.ev x) h2 (fun v => κ2 v h2) = κ2 v h2 := by
        intro hk
        cases hv : σ.ev x with
        | own id =>
          rw [hv] at hk
          simp only [lenC] at hk ⊢
          cases hg : getE σ.h id with
          | row l => rw [hg] at hk; rw [hrow id l hg]; cases hk; rfl
          | cells vs => rw [hg] at hk; cases hk
          | dead => rw [hg] at hk; cases hk
        | ro s l => rw [hv] at hk; simp only [lenC] at hk ⊢; cases hk; rfl
        | nil => rw [hv] at hk; simp only [lenC] at hk ⊢; cases hk; rfl
        | sub id o n => rw [hv] at hk; simp only [lenC] at hk ⊢; cases hk; rfl
        | _ => rw [hv] at hk; cases hk
      split at hs
      · exact key hs
      · cases hs
    | _ => simp [lenOp] at hl
end

end Go.Proofs.Ytonbbeplmjidnaa.D
