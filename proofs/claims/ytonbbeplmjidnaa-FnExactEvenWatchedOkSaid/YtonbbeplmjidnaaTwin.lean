/- Small words for twins that are written by program off the translated code. Conditions: none. -/
import Derived.Test.YtonbbeplmjidnaaDraw2
import Derived.Test.YtonbbeplmjidnaaBack
import Derived.KernelRfl
namespace Go.Proofs.Ytonbbeplmjidnaa.D
open Go.RowKit
set_option linter.unusedVariables false
set_option linter.unusedSimpArgs false

/-- What goes on with an answer, or without one. -/
def optC {α β : Type} (o : Option β) (f : β → α) (fail : α) : α :=
  match o with
  | some b => f b
  | none => fail
def sumC {α β γ : Type} (q : α ⊕ β) (f : α → γ) (g : β → γ) : γ :=
  match q with
  | .inl a => f a
  | .inr b => g b
theorem apply_sumC {α β γ δ : Type} (k : γ → δ) (q : α ⊕ β) (f : α → γ) (g : β → γ) : k (sumC q f g) = sumC q (fun a => k (f a)) (fun b => k (g b)) := by
  cases q <;> rfl
theorem sumC_congr {α β γ : Type} {q : α ⊕ β} {f f' : α → γ} {g g' : β → γ} (hf : ∀ a, f a = f' a) (hg : ∀ b, g b = g' b) : sumC q f g = sumC q f' g' := by
  cases q with
  | inl a => exact hf a
  | inr b => exact hg b
theorem apply_optC {α β γ : Type} (g : α → γ) (o : Option β) (f : β → α) (fail : α) : g (optC o f fail) = optC o (fun b => g (f b)) (g fail) := by
  cases o <;> rfl
theorem apply_cnd {α γ : Type} (g : α → γ) (b : Bool) (x y : α) : g (cond b x y) = cond b (g x) (g y) := by cases b <;> rfl

theorem cnd_congr {α : Type} {b : Bool} {x y x' y' : α} (hx : x = x') (hy : y = y') : cond b x y = cond b x' y' := by rw [hx, hy]
theorem optC_congr {α β : Type} {o : Option β} {f g : β → α} {fail : α} (h : ∀ r, f r = g r) : optC o f fail = optC o g fail := by
  cases o with
  | none => rfl
  | some b => exact h b
theorem optC_law {β : Type} {o : Option β} {f : β → V} {g : β → List E} {κ : V → List E → R} {r : V × List E} (h : optC o (fun b => κ (f b) (g b)) none = some r) :
    ∃ v h', κ v h' = some r ∧ ∀ κ2 : V → List E → R, optC o (fun b => κ2 (f b) (g b)) none = κ2 v h' := by
  cases o with
  | none => cases h
  | some b => exact ⟨_, _, h, fun _ => rfl⟩

theorem optC_law2 {β : Type} {o : Option β} {F : β → (V → List E → R) → R} {κ : V → List E → R} {r : V × List E} (hF : ∀ b κ r, F b κ = some r → ∃ v h', κ v h' = some r ∧ ∀ κ2, F b κ2 = κ2 v h')
    (h : optC o (fun b => F b κ) none = some r) : ∃ v h', κ v h' = some r ∧ ∀ κ2, optC o (fun b => F b κ2) none = κ2 v h' := by
  cases o with
  | none => cases h
  | some b => exact hF b κ r h

/-- How many rounds and calls are granted: more than any here takes. -/
theorem fuel_ex : ∃ n : Nat, 1000000000 ≤ n := ⟨1000000000, Nat.le_refl _⟩
noncomputable def FUEL : Nat := Classical.choose fuel_ex
theorem FUEL_le : 1000000000 ≤ FUEL := Classical.choose_spec fuel_ex

/-- What is done behind the loop with a number. -/
def afterC (TD : TypeId → Option TI) (K : FuncId → List V → List E → (V → List E → R) → R) (ann : Nat → List Nat × List Nat) (drawOk : Array Oper → Bool) (m fuel : Nat) (id : Nat) : Code → (X → St → R) → Option (X → St → R)
  | .seq a b, k =>
    match afterC TD K ann drawOk m fuel id a (seqK ann m b (fun σ => denC TD K ann drawOk m fuel b σ k) k) with
    | some r => some r
    | none => afterC TD K ann drawOk m fuel id b k
  | .cond _ a b, k =>
    match afterC TD K ann drawOk m fuel id a k with
    | some r => some r
    | none => afterC TD K ann drawOk m fuel id b k
  | .block j c, k => afterC TD K ann drawOk m fuel id c (fun x σ' => match x with
      | .exit i => bif Nat.beq i j then k .normal σ' else k (.exit i) σ'
      | x => k x σ')
  | .loop c, k => bif Nat.beq (headId c) id then some k else none
  | _, _ => none
/-- A row of steps, one after the other. -/
def tailsC : Nat → Code → Code
  | 0, c => c
  | n + 1, .seq _ b => tailsC n b
  | _, c => c
def headsC (n : Nat) (c : Code) : Code := match tailsC n c with
  | .seq a _ => a
  | c => c
theorem denC_seqJ {TD : TypeId → Option TI} {K : FuncId → List V → List E → (V → List E → R) → R} {ann : Nat → List Nat × List Nat} {drawOk : Array Oper → Bool} {m fuel : Nat} (a b : Code) (σ : St) (k : X → St → R) :
    denC TD K ann drawOk m fuel (.seq a b) σ k = denC TD K ann drawOk m fuel a σ (seqK ann m b (fun σ => denC TD K ann drawOk m fuel b σ k) k) := rfl
def finC (TD : TypeId → Option TI) (m : Nat) (fn : Func) (κ : V → List E → R) : X → St → R := fun x σ => match x with
  | .exit _ => none
  | _ => match resAll TD σ fn.results.toList with
    | some vs => outC m vs σ.h κ
    | none => none
def roundC (m : Nat) (live out : List Nat) (it : St → R) (k : X → St → R) : X → St → R := fun x σ' => match x with
  | .normal => it (norm m live σ')
  | x => k x (norm m out σ')

/-- What is known of a function: which slices it may keep, its parameters, what it answers. -/
structure Spec where
  keep : Bool
  pure : Bool
  ds : List TypeDesc
  sp : List V → List E → (V → List E → R) → R

def tableK : List (FuncId × Spec) → FuncId → List V → List E → (V → List E → R) → R
  | [], _, _, _, _ => none
  | (g, s) :: r, f, args, h, κ => bif Nat.beq g f then callC s.keep s.ds s.sp args h κ else tableK r f args h κ
def tableP : List (FuncId × Spec) → FuncId → Bool × Bool
  | [], _ => (false, false)
  | (g, s) :: r, f => bif Nat.beq g f then (s.pure, s.ds.all fun d => !rwD d) else tableP r f

structure SpecOk (P : Program) (f : FuncId) (s : Spec) : Prop where
  ok : FnOk P f s.sp
  fn : ∃ fn, P.funcs[f]? = some fn ∧ fn.body.isNone = false ∧ (fn.name == "runtime.NumGoroutine") = false
  law : ∀ args h κ r, s.sp args h κ = some r → ∃ v h', κ v h' = some r ∧ ∀ κ2, s.sp args h κ2 = κ2 v h'
  pur : s.pure = true → ∀ args h κ r, s.sp args h κ = some r → h = [] ∧ ∀ κ2, s.sp args h κ2 = s.sp args h fun v _ => κ2 v []

theorem callC_law {keep : Bool} {ds : List TypeDesc} {sp : List V → List E → (V → List E → R) → R} (hl : ∀ args h κ r, sp args h κ = some r → ∃ v h', κ v h' = some r ∧ ∀ κ2, sp args h κ2 = κ2 v h')
    {args : List V} {h : List E} {κ : V → List E → R} {r : V × List E} (hc : callC keep ds sp args h κ = some r) : ∃ v h', κ v h' = some r ∧ ∀ κ2, callC keep ds sp args h κ2 = κ2 v h' := by
  unfold callC at hc
  split at hc
  · rename_i args' ids hp
    obtain ⟨v, h', h1, h2⟩ := hl _ _ _ _ hc
    refine ⟨_, _, h1, fun κ2 => ?_⟩
    simp only [callC, hp]
    exact h2 _
  · cases hc

theorem table_ok {P : Program} : ∀ (T : List (FuncId × Spec)), (∀ p ∈ T, SpecOk P p.1 p.2) → KOk P (tableK T) := by
  intro T
  induction T with
  | nil => intro _; exact ⟨fun f args h κ r hh => (by cases hh), fun f args h κ r hh => (by cases hh), fun f args h κ r hh => (by cases hh)⟩
  | cons p T ih =>
    intro hT
    obtain ⟨g, s⟩ := p
    have ih' := ih (fun q hq => hT q (by simp [hq]))
    have hs : SpecOk P g s := hT (g, s) (by simp)
    refine ⟨fun f args h κ r hh => ?_, fun f args h κ r hh => ?_, fun f args h κ r hh c cargs hc hr ha => ?_⟩
    · simp only [tableK] at hh
      by_cases hg : g = f
      · subst hg; exact hs.fn
      · rw [nbeq_ne hg, cond_false] at hh; exact ih'.fn f args h κ r hh
    · simp only [tableK] at hh ⊢
      by_cases hg : g = f
      · subst hg
        rw [nbeq_self, cond_true] at hh
        obtain ⟨v, h', h1, h2⟩ := callC_law hs.law hh
        exact ⟨v, h', h1, fun κ2 => by rw [nbeq_self, cond_true]; exact h2 κ2⟩
      · rw [nbeq_ne hg, cond_false] at hh
        obtain ⟨v, h', h1, h2⟩ := ih'.law f args h κ r hh
        exact ⟨v, h', h1, fun κ2 => by rw [nbeq_ne hg, cond_false]; exact h2 κ2⟩
    · simp only [tableK] at hh
      by_cases hg : g = f
      · subst hg
        rw [nbeq_self, cond_true] at hh
        subst hc
        exact callC_ok hs.ok hh hr ha
      · rw [nbeq_ne hg, cond_false] at hh; exact ih'.ok f args h κ r hh c cargs hc hr ha

theorem table_pure {P : Program} : ∀ (T : List (FuncId × Spec)), (∀ p ∈ T, SpecOk P p.1 p.2) → PureOk (tableK T) (fun f => (tableP T f).1) := by
  intro T
  induction T with
  | nil => intro _ f hf; cases hf
  | cons p T ih =>
    intro hT
    obtain ⟨g, s⟩ := p
    have ih' := ih (fun q hq => hT q (by simp [hq]))
    have hs : SpecOk P g s := hT (g, s) (by simp)
    intro f hf args h κ
    simp only [tableP] at hf
    simp only [tableK]
    by_cases hg : g = f
    · subst hg
      rw [nbeq_self, cond_true] at hf ⊢
      rw [cond_true]
      unfold callC
      cases hp : passA s.keep h s.ds args with
      | none => rfl
      | some q =>
        obtain ⟨args', ids⟩ := q
        simp only
        -- the callee's own answer
        cases hsome : s.sp args' (ids.map (getE h)) (fun v h1 => some (v, h1)) with
        | none =>
          have hn : ∀ κ2, s.sp args' (ids.map (getE h)) κ2 = none := fun κ2 => by
            cases hx : s.sp args' (ids.map (getE h)) κ2 with
            | none => rfl
            | some r =>
              obtain ⟨v, h', _, h2⟩ := hs.law _ _ _ _ hx
              rw [h2] at hsome; cases hsome
          rw [hn, hn]
        | some r =>
          obtain ⟨h1, h2⟩ := hs.pur hf _ _ _ _ hsome
          have hids : ids = [] := by
            cases ids with
            | nil => rfl
            | cons i ids => simp at h1
          subst hids
          rw [h2, h2 (fun v h1 => κ _ _)]
          simp [backE]
    · rw [nbeq_ne hg, cond_false] at hf ⊢
      rw [cond_false]
      exact ih' f hf args h κ

/-- What a call hands over when no row is written: blocks of cells. -/
theorem pass_cells {keep : Bool} {h : List E} : ∀ (ds : List TypeDesc) (args : List V) (ids0 : List Nat) (args' : List V) (ids : List Nat), (ds.all fun d => !rwD d) = true →
    passC keep h ds args ids0 = some (args', ids) → (∀ i ∈ ids0, ∀ l, getE h i ≠ .row l) → ∀ i ∈ ids, ∀ l, getE h i ≠ .row l := by
  intro ds
  induction ds with
  | nil =>
    intro args ids0 args' ids _ h1 h0
    cases args with
    | nil => simp [passC] at h1; obtain ⟨_, rfl⟩ := h1; exact h0
    | cons v r => simp [passC] at h1
  | cons d ds ih =>
    intro args ids0 args' ids hd h1 h0
    rw [List.all_cons, Bool.and_eq_true] at hd
    obtain ⟨hd1, hd2⟩ := hd
    cases args with
    | nil => simp [passC] at h1
    | cons v args =>
      have go : ∀ (u : V) (ids1 : List Nat), (∀ i ∈ ids1, ∀ l, getE h i ≠ .row l) → (passC keep h ds args ids1).map (fun p => (u :: p.1, p.2)) = some (args', ids) → ∀ i ∈ ids, ∀ l, getE h i ≠ .row l := by
        intro u ids1 h3 h2
        simp only [Option.map_eq_some_iff] at h2
        obtain ⟨⟨a2, i2⟩, h4, h5⟩ := h2
        simp at h5
        obtain ⟨_, rfl⟩ := h5
        exact ih args ids1 a2 i2 hd2 h4 h3
      have hrw : rwD d = false := by simpa using hd1
      cases v with
      | own id =>
        simp only [passC, hrw, cond_false] at h1
        split at h1
        · exact go _ _ h0 h1
        · cases h1
      | sub id o n =>
        simp only [passC] at h1
        split at h1
        · exact go _ _ h0 h1
        · cases h1
      | nil =>
        simp only [passC] at h1
        split at h1
        · exact go _ _ h0 h1
        · cases h1
      | ptr id off =>
        cases off with
        | succ off => simp [passC] at h1
        | zero =>
          simp only [passC] at h1
          cases hany : ids0.any (Nat.beq id) with
          | true => simp [hany] at h1
          | false =>
            rw [hany, cond_false] at h1
            split at h1
            · rename_i vs hvs
              generalize (vs.all fun v => v.ids0.isEmpty && v.flat && v.out0) = bb at h1
              cases bb with
              | false => rw [cond_false] at h1; cases h1
              | true =>
                rw [cond_true] at h1
                refine go _ _ (fun i hi l hl => ?_) h1
                rcases List.mem_append.1 hi with hi | hi
                · exact h0 i hi l hl
                · have e : i = id := by simpa using hi
                  subst e
                  rw [hvs] at hl; cases hl
            · cases h1
      | ro s l => simp only [passC] at h1; exact go _ _ h0 h1
      | int k n => simp only [passC] at h1; exact go _ _ h0 h1
      | bool b => simp only [passC] at h1; exact go _ _ h0 h1
      | str b => simp only [passC] at h1; exact go _ _ h0 h1
      | agg vs =>
        simp only [passC] at h1
        cases hpl : vs.all fun v => v.ids0.isEmpty && v.flat && v.out0 with
        | false => rw [hpl, cond_false] at h1; cases h1
        | true => rw [hpl, cond_true] at h1; exact go _ _ h0 h1
      | _ => simp [passC] at h1

theorem keepE_other : ∀ (ids : List Nat) (es h : List E) (id : Nat), id ∉ ids → getE (backE ids es h) id = getE h id := by
  intro ids
  induction ids with
  | nil => intro es h id _; cases es <;> rfl
  | cons i ids ih =>
    intro es h id hn
    cases es with
    | nil => rfl
    | cons e es =>
      simp only [backE]
      rw [ih es _ id (fun hm => hn (by simp [hm]))]
      have : i ≠ id := fun e => hn (by simp [e])
      simp [getE, List.getD, List.getElem?_set_ne this]
theorem keepE_len : ∀ (ids : List Nat) (es h : List E), (backE ids es h).length = h.length := by
  intro ids
  induction ids with
  | nil => intro es h; cases es <;> rfl
  | cons i ids ih =>
    intro es h
    cases es with
    | nil => rfl
    | cons e es => simp only [backE]; rw [ih, List.length_set]

theorem table_keep {P : Program} : ∀ (T : List (FuncId × Spec)), (∀ p ∈ T, SpecOk P p.1 p.2) → KeepOk (tableK T) (fun f => (tableP T f).2) := by
  intro T
  induction T with
  | nil => intro _ f hf; cases hf
  | cons p T ih =>
    intro hT
    obtain ⟨g, s⟩ := p
    have ih' := ih (fun q hq => hT q (by simp [hq]))
    have hs : SpecOk P g s := hT (g, s) (by simp)
    intro f hf args h v h' hk id l hg
    simp only [tableP] at hf
    simp only [tableK] at hk
    by_cases hgf : g = f
    · subst hgf
      rw [nbeq_self, cond_true] at hf hk
      unfold callC at hk
      split at hk
      · rename_i args' ids hp
        obtain ⟨v1, h1, e1, _⟩ := hs.law _ _ _ _ hk
        simp only [Option.some.injEq, Prod.mk.injEq] at e1
        obtain ⟨_, rfl⟩ := e1
        have hid : id ∉ ids := fun hm => pass_cells s.ds args [] args' ids hf (passA_is hp).1 (fun i hi => by cases hi) id hm l hg
        have hlt : id < h.length := alive_lt (by rw [hg]; rfl)
        have hl2 := keepE_len ids ((h1.take ids.length).map (E.sh ids h.length)) h
        have e2 := keepE_other ids ((h1.take ids.length).map (E.sh ids h.length)) h id hid
        rw [← hg, ← e2]
        simp only [getE, List.getD]
        rw [List.getElem?_append_left (by rw [hl2]; exact hlt)]
      · cases hk
    · rw [nbeq_ne hgf, cond_false] at hf hk
      exact ih' f hf args h v h' hk id l hg

/-- A function's twin tells what the function answers. -/
theorem SpecOk.of {P : Program} {TD : TypeId → Option TI} (hT : TyOk P TD) (hm : P.follows .mixedOrders = true) {T : List (FuncId × Spec)} (hTab : ∀ p ∈ T, SpecOk P p.1 p.2) {ann : Nat → List Nat × List Nat}
    {f : FuncId} {fn : Func} (hf : P.funcs[f]? = some fn) (hb : fn.body.isNone = false) (hn : (fn.name == "runtime.NumGoroutine") = false) {s : Spec}
    (hd : ∀ args h κ r, s.sp args h κ = some r → funC TD (tableK T) ann (drawOk (tableP T)) FUEL fn args h κ = some r)
    (hl : ∀ args h κ r, s.sp args h κ = some r → ∃ v h', κ v h' = some r ∧ ∀ κ2, s.sp args h κ2 = κ2 v h')
    (hp : s.pure = true → ∀ args h κ r, s.sp args h κ = some r → h = [] ∧ ∀ κ2, s.sp args h κ2 = s.sp args h fun v _ => κ2 v []) : SpecOk P f s where
  ok := FnOk.of hT (table_ok T hTab) (draw_ok hT (table_ok T hTab) hm (table_pure T hTab) (table_keep T hTab)) hf (fun args h κ r hh => ⟨FUEL, hd args h κ r hh⟩)
  fn := ⟨fn, hf, hb, hn⟩
  law := hl
  pur := hp
/-- Of a function that never answers all is told. -/
theorem SpecOk.zero {P : Program} {f : FuncId} {fn : Func} (hf : P.funcs[f]? = some fn) (hb : fn.body.isNone = false) (hn : (fn.name == "runtime.NumGoroutine") = false) {s : Spec}
    (hs : ∀ args h κ, s.sp args h κ = none) : SpecOk P f s where
  ok := fun args κ r c cargs hx => by rw [hs] at hx; cases hx
  fn := ⟨fn, hf, hb, hn⟩
  law := fun args h κ r hx => by rw [hs] at hx; cases hx
  pur := fun _ args h κ r hx => by rw [hs] at hx; cases hx

end Go.Proofs.Ytonbbeplmjidnaa.D
