/- Small words for twins that are written by program off the translated code. Conditions: none. -/
import Derived.Test.YtjflfhcdphkejaaDraw2
import Derived.Test.YtjflfhcdphkejaaBack
import Derived.KernelRfl
namespace Go.Proofs.Ytjflfhcdphkejaa.D
open Go.RowKit
set_option linter.unusedVariables false
set_option linter.unusedSimpArgs false

/-- What goes on with an answer, or without one. -/
def optC {α β : Type} (o : Option β) (f : β → α) (fail : α) : α :=
  match o with
  | some b => f b
  | none => fail
def sumC {α β γ : Type} (q : α ⊕ β) (f : α → γ) (g : β → γ) : γ :=
  match q with
  | .inl a => f a
  | .inr b => g b
theorem apply_sumC {α β γ δ : Type} (k : γ → δ) (q : α ⊕ β) (f : α → γ) (g : β → γ) : k (sumC q f g) = sumC q (fun a => k (f a)) (fun b => k (g b)) := by
  cases q <;> rfl
theorem sumC_congr {α β γ : Type} {q : α ⊕ β} {f f' : α → γ} {g g' : β → γ} (hf : ∀ a, f a = f' a) (hg : ∀ b, g b = g' b) : sumC q f g = sumC q f' g' := by
  cases q with
  | inl a => exact hf a
  | inr b => exact hg b
theorem apply_optC {α β γ : Type} (g : α → γ) (o : Option β) (f : β → α) (fail : α) : g (optC o f fail) = optC o (fun b => g (f b)) (g fail) := by
  cases o <;> rfl
theorem apply_cnd {α γ : Type} (g : α → γ) (b : Bool) (x y : α) : g (cond b x y) = cond b (g x) (g y) := by cases b <;> rfl

theorem cnd_congr {α : Type} {b : Bool} {x y x' y' : α} (hx : x = x') (hy : y = y') : cond b x y = cond b x' y' := by rw [hx, hy]
theorem optC_congr {α β : Type} {o : Option β} {f g : β → α} {fail : α} (h : ∀ r, f r = g r) : optC o f fail = optC o g fail := by
  cases o with
  | none => rfl
  | some b => exact h b
theorem optC_law {β : Type} {o : Option β} {f : β → V} {g : β → List E} {κ : V → List E → R} {r : V × List E} (h : optC o (fun b => κ (f b) (g b)) none = some r) :
    ∃ v h', κ v h' = some r ∧ ∀ κ2 : V → List E → R, optC o (fun b => κ2 (f b) (g b)) none = κ2 v h' := by
  cases o with
  | none => cases h
  | some b => exact ⟨_, _, h, fun _ => rfl⟩

theorem optC_law2 {β : Type} {o : Option β} {F : β → (V → List E → R) → R} {κ : V → List E → R} {r : V × List E} (hF : ∀ b κ r, F b κ = some r → ∃ v h', κ v h' = some r ∧ ∀ κ2, F b κ2 = κ2 v h')
    (h : optC o (fun b => F b κ) none = some r) : ∃ v h', κ v h' = some r ∧ ∀ κ2, optC o (fun b => F b κ2) none = κ2 v h' := by
  cases o with
  | none => cases h
  | some b => exact hF b κ r h

/-- How many rounds and calls are granted: more than any here takes. -/
theorem fuel_ex : ∃ n : Nat, 1000000000 ≤ n := ⟨1000000000, Nat.le_refl _⟩
noncomputable def FUEL : Nat := Classical.choose fuel_ex
theorem FUEL_le : 1000000000 ≤ FUEL := Classical.choose_spec fuel_ex

/-- What is done behind the loop with a number. -/
def afterC (TD : TypeId → Option TI) (K : FuncId → List V → List E → (V → List E → R) → R) (ann : Nat → List Nat × List Nat) (drawOk : Array Oper → Bool) (m fuel : Nat) (id : Nat) : Code → (X → St → R) → Option (X → St → R)
  | .seq a b, k =>
    match afterC TD K ann drawOk m fuel id a (fun x σ' => match x with
      | .normal => denC TD K ann drawOk m fuel b σ' k
      | x => k x σ') with
    | some r => some r
    | none => afterC TD K ann drawOk m fuel id b k
  | .cond _ a b, k =>
    match afterC TD K ann drawOk m fuel id a k with
    | some r => some r
    | none => afterC TD K ann drawOk m fuel id b k
  | .block j c, k => afterC TD K ann drawOk m fuel id c (fun x σ' => match x with
      | .exit i => bif Nat.beq i j then k .normal σ' else k (.exit i) σ'
      | x => k x σ')
  | .loop c, k => bif Nat.beq (headId c) id then some k else none
  | _, _ => none
def finC (m : Nat) (fn : Func) (κ : V → List E → R) : X → St → R := fun x σ => match x with
  | .exit _ => none
  | _ => match resAll σ fn.results.toList with
    | some vs => outC m vs σ.h κ
    | none => none
def roundC (m : Nat) (live out : List Nat) (it : St → R) (k : X → St → R) : X → St → R := fun x σ' => match x with
  | .normal => it (norm m live σ')
  | x => k x (norm m out σ')

/-- What is known of a function: which slices it may keep, its parameters, what it answers. -/
structure Spec where
  keep : Bool
  pure : Bool
  ds : List TypeDesc
  sp : List V → List E → (V → List E → R) → R

def tableK : List (FuncId × Spec) → FuncId → List V → List E → (V → List E → R) → R
  | [], _, _, _, _ => none
  | (g, s) :: r, f, args, h, κ => bif Nat.beq g f then callC s.keep s.ds s.sp args h κ else tableK r f args h κ
def tableP : List (FuncId × Spec) → FuncId → Bool
  | [], _ => false
  | (g, s) :: r, f => bif Nat.beq g f then s.pure else tableP r f

structure SpecOk (P : Program) (f : FuncId) (s : Spec) : Prop where
  ok : FnOk P f s.sp
  fn : ∃ fn, P.funcs[f]? = some fn ∧ fn.body.isNone = false ∧ (fn.name == "runtime.NumGoroutine") = false
  law : ∀ args h κ r, s.sp args h κ = some r → ∃ v h', κ v h' = some r ∧ ∀ κ2, s.sp args h κ2 = κ2 v h'
  pur : s.pure = true → ∀ args h κ r, s.sp args h κ = some r → h = [] ∧ ∀ κ2, s.sp args h κ2 = s.sp args h fun v _ => κ2 v []

theorem callC_law {keep : Bool} {ds : List TypeDesc} {sp : List V → List E → (V → List E → R) → R} (hl : ∀ args h κ r, sp args h κ = some r → ∃ v h', κ v h' = some r ∧ ∀ κ2, sp args h κ2 = κ2 v h')
    {args : List V} {h : List E} {κ : V → List E → R} {r : V × List E} (hc : callC keep ds sp args h κ = some r) : ∃ v h', κ v h' = some r ∧ ∀ κ2, callC keep ds sp args h κ2 = κ2 v h' := by
  unfold callC at hc
  split at hc
  · rename_i args' ids hp
    obtain ⟨v, h', h1, h2⟩ := hl _ _ _ _ hc
    refine ⟨_, _, h1, fun κ2 => ?_⟩
    simp only [callC, hp]
    exact h2 _
  · cases hc

theorem table_ok {P : Program} : ∀ (T : List (FuncId × Spec)), (∀ p ∈ T, SpecOk P p.1 p.2) → KOk P (tableK T) := by
  intro T
  induction T with
  | nil => intro _; exact ⟨fun f args h κ r hh => (by cases hh), fun f args h κ r hh => (by cases hh), fun f args h κ r hh => (by cases hh)⟩
  | cons p T ih =>
    intro hT
    obtain ⟨g, s⟩ := p
    have ih' := ih (fun q hq => hT q (by simp [hq]))
    have hs : SpecOk P g s := hT (g, s) (by simp)
    refine ⟨fun f args h κ r hh => ?_, fun f args h κ r hh => ?_, fun f args h κ r hh c cargs hc hr ha => ?_⟩
    · simp only [tableK] at hh
      by_cases hg : g = f
      · subst hg; exact hs.fn
      · rw [nbeq_ne hg, cond_false] at hh; exact ih'.fn f args h κ r hh
    · simp only [tableK] at hh ⊢
      by_cases hg : g = f
      · subst hg
        rw [nbeq_self, cond_true] at hh
        obtain ⟨v, h', h1, h2⟩ := callC_law hs.law hh
        exact ⟨v, h', h1, fun κ2 => by rw [nbeq_self, cond_true]; exact h2 κ2⟩
      · rw [nbeq_ne hg, cond_false] at hh
        obtain ⟨v, h', h1, h2⟩ := ih'.law f args h κ r hh
        exact ⟨v, h', h1, fun κ2 => by rw [nbeq_ne hg, cond_false]; exact h2 κ2⟩
    · simp only [tableK] at hh
      by_cases hg : g = f
      · subst hg
        rw [nbeq_self, cond_true] at hh
        subst hc
        exact callC_ok hs.ok hh hr ha
      · rw [nbeq_ne hg, cond_false] at hh; exact ih'.ok f args h κ r hh c cargs hc hr ha

theorem table_pure {P : Program} : ∀ (T : List (FuncId × Spec)), (∀ p ∈ T, SpecOk P p.1 p.2) → PureOk (tableK T) (tableP T) := by
  intro T
  induction T with
  | nil => intro _ f hf; cases hf
  | cons p T ih =>
    intro hT
    obtain ⟨g, s⟩ := p
    have ih' := ih (fun q hq => hT q (by simp [hq]))
    have hs : SpecOk P g s := hT (g, s) (by simp)
    intro f hf args h κ
    simp only [tableP] at hf
    simp only [tableK]
    by_cases hg : g = f
    · subst hg
      rw [nbeq_self, cond_true] at hf ⊢
      rw [cond_true]
      unfold callC
      cases hp : passA s.keep h s.ds args with
      | none => rfl
      | some q =>
        obtain ⟨args', ids⟩ := q
        simp only
        -- the callee's own answer
        cases hsome : s.sp args' (ids.map (getE h)) (fun v h1 => some (v, h1)) with
        | none =>
          have hn : ∀ κ2, s.sp args' (ids.map (getE h)) κ2 = none := fun κ2 => by
            cases hx : s.sp args' (ids.map (getE h)) κ2 with
            | none => rfl
            | some r =>
              obtain ⟨v, h', _, h2⟩ := hs.law _ _ _ _ hx
              rw [h2] at hsome; cases hsome
          rw [hn, hn]
        | some r =>
          obtain ⟨h1, h2⟩ := hs.pur hf _ _ _ _ hsome
          have hids : ids = [] := by
            cases ids with
            | nil => rfl
            | cons i ids => simp at h1
          subst hids
          rw [h2, h2 (fun v h1 => κ _ _)]
          simp [backE]
    · rw [nbeq_ne hg, cond_false] at hf ⊢
      rw [cond_false]
      exact ih' f hf args h κ

/-- A function's twin tells what the function answers. -/
theorem SpecOk.of {P : Program} {TD : TypeId → Option TI} (hT : TyOk P TD) (hm : P.follows .mixedOrders = true) {T : List (FuncId × Spec)} (hTab : ∀ p ∈ T, SpecOk P p.1 p.2) {ann : Nat → List Nat × List Nat}
    {f : FuncId} {fn : Func} (hf : P.funcs[f]? = some fn) (hb : fn.body.isNone = false) (hn : (fn.name == "runtime.NumGoroutine") = false) {s : Spec}
    (hd : ∀ args h κ r, s.sp args h κ = some r → funC TD (tableK T) ann (drawOk (tableP T)) FUEL fn args h κ = some r)
    (hl : ∀ args h κ r, s.sp args h κ = some r → ∃ v h', κ v h' = some r ∧ ∀ κ2, s.sp args h κ2 = κ2 v h')
    (hp : s.pure = true → ∀ args h κ r, s.sp args h κ = some r → h = [] ∧ ∀ κ2, s.sp args h κ2 = s.sp args h fun v _ => κ2 v []) : SpecOk P f s where
  ok := FnOk.of hT (table_ok T hTab) (draw_ok hT (table_ok T hTab) hm (table_pure T hTab)) hf (fun args h κ r hh => ⟨FUEL, hd args h κ r hh⟩)
  fn := ⟨fn, hf, hb, hn⟩
  law := hl
  pur := hp

end Go.Proofs.Ytjflfhcdphkejaa.D
