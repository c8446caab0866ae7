/- Each operation of the small machine is one of the model's. Conditions: those of each theorem. -/
import Derived.Test.YtonbbeplmjidnaaCtx
namespace Go.Proofs.Ytonbbeplmjidnaa.D
open Go.RowKit
set_option linter.unusedVariables false
set_option linter.unusedSimpArgs false

structure TyOk (P : Program) (TD : TypeId → Option TI) : Prop where
  ok : ∀ t i, TD t = some i → P.underlying t = some i.desc ∧ ∃ f, P.info? t = some f ∧ f.size = i.size ∧ f.bytes = i.bytes ∧ f.zero = some i.zero

def ArgsR (c : Cx) (args : List V) (cargs : List Value) : Prop :=
  cargs.length = args.length ∧ ∀ j, j < args.length → VR c (args.getD j .junk) (cargs.getD j undef)

/-- What is told of the functions is true. -/
structure KOk (P : Program) (K : FuncId → List V → List E → (V → List E → R) → R) : Prop where
  fn : ∀ f args h κ r, K f args h κ = some r → ∃ fn, P.funcs[f]? = some fn ∧ fn.body.isNone = false ∧ (fn.name == "runtime.NumGoroutine") = false
  law : ∀ f args h κ r, K f args h κ = some r → ∃ v h', κ v h' = some r ∧ ∀ κ2, K f args h κ2 = κ2 v h'
  ok : ∀ f args h κ r, K f args h κ = some r → ∀ (c : Cx) (cargs : Array Value), c.h = h → Rel c → ArgsR c args cargs.toList →
    Calls P f cargs c.w fun e w' => ∃ x v c', e = .returned x ∧ κ v c'.h = some r ∧ Ext c c' ∧ Rel c' ∧ VR c' v x ∧ c'.w = w'

section
variable {P : Program} {o : Oper} {a : Act} {w w' : World} {N : Act → World → Prop} {Q : Exit → Act → World → Prop}
theorem wp_val {x : Value} (hrun : (execOp a.eval o).run P w = .ok (.value x) w') (h : N (a.put o.dst x) w') : o.wp P a w N Q := by
  unfold Oper.wp; rw [hrun]; exact h
theorem wp_skp (hrun : (execOp a.eval o).run P w = .ok .skip w') (h : N (a.put o.dst undef) w') : o.wp P a w N Q := by
  unfold Oper.wp; rw [hrun]; exact h
end

/-- What an operation owes: its value and the blocks behind it go on. -/
def Owed (c : Cx) (κ : V → List E → R) (r : V × List E) (M : Value → World → Prop) : Prop :=
  ∀ v c' x, κ v c'.h = some r → Ext c c' → Rel c' → VR c' v x → M x c'.w

theorem bif_some {b : Bool} {x : R} {r : V × List E} (h : (bif b then x else none) = some r) : b = true ∧ x = some r := by
  cases b with
  | true => exact ⟨rfl, h⟩
  | false => cases h
theorem bif_none {b : Bool} {x : R} {r : V × List E} (h : (bif b then none else x) = some r) : b = false ∧ x = some r := by
  cases b with
  | false => exact ⟨rfl, h⟩
  | true => cases h

theorem vr_int {c : Cx} {k : IntKind} {n : Int} {v : Value} (h : VR c (.int k n) v) : v = .int k n := h
theorem vr_bool {c : Cx} {b : Bool} {v : Value} (h : VR c (.bool b) v) : v = .bool b := h
theorem vr_str {c : Cx} {s : ByteArray} {v : Value} (h : VR c (.str s) v) : v = .string s := h

section
variable {P : Program} {c : Cx} {r : V × List E}

theorem run_eqGuard_int {op : BinOp} {t : TypeId} {x y : Operand} {k k' : IntKind} {m n : Int} {w : World} : (eqGuard op t x y (.int k m) (.int k' n)).run P w = .ok () w := by
  unfold eqGuard; split <;> rfl
theorem run_eqGuard_bool {op : BinOp} {t : TypeId} {x y : Operand} {m n : Bool} {w : World} : (eqGuard op t x y (.bool m) (.bool n)).run P w = .ok () w := by
  unfold eqGuard; split <;> rfl

theorem run_equal_bool {t : TypeId} {m n : Bool} {w : World} (hu : P.underlying t = some .bool) : (Op.equal t (.bool m) (.bool n)).run P w = .ok (m == n) w := by
  have h : ∀ d, (Op.equalIn (d + 1) t (.bool m) (.bool n)).run P w = .ok (m == n) w := fun d => by
    rw [Op.equalIn]
    simp only [Sem.run_bind, run_underlying hu, Result.andThen_ok]
    rfl
  exact h 9999

theorem bin_ok {isB : Bool} {op : BinOp} {x y : V} {κ : V → R} {t : TypeId} {ox oy : Operand} {vx vy : Value} (h : binC isB op x y κ = some r) (hx : VR c x vx) (hy : VR c y vy)
    (hB : isB = true → P.underlying t = some .bool) :
    ∃ v z, κ v = some r ∧ VR c v z ∧ (do eqGuard op t ox oy vx vy; binOp op t vx vy : Sem Value).run P c.w = .ok z c.w := by
  unfold binC at h
  split at h
  · rename_i k m k' n
    have ex := vr_int hx; have ey := vr_int hy
    subst ex; subst ey
    simp only [Sem.run_bind, run_eqGuard_int, Result.andThen_ok]
    split at h
    · obtain ⟨h1, h2⟩ := bif_none h
      have h1' : ¬ n < 0 := of_decide_eq_false h1
      exact ⟨_, .int k (k.wrap (m * 2 ^ (min n.toNat k.bits))), h2, rfl, by simp [binOp, Op.shift, h1']⟩
    · obtain ⟨h1, h2⟩ := bif_none h
      have h1' : ¬ n < 0 := of_decide_eq_false h1
      exact ⟨_, .int k (m.fdiv (2 ^ (min n.toNat k.bits))), h2, rfl, by simp [binOp, Op.shift, h1']⟩
    · obtain ⟨h1, h2⟩ := bif_some h
      have hk : k = k' := of_decide_eq_true h1
      subst hk
      cases op <;> simp only at h2 <;> first
        | (cases h2; done)
        | (refine ⟨_, _, h2, rfl, ?_⟩; simp [binOp, Op.intArith, Op.intCmp, intBits_and, intBits_or, intBits_xor, intBits_andNot]; done)
        | (obtain ⟨h3, h4⟩ := bif_none h2
           have h5 : ¬ n = 0 := by simpa using h3
           refine ⟨_, _, h4, rfl, ?_⟩
           simp [binOp, Op.intDiv, h5]; done)
        | contradiction
  · rename_i m n
    have ex := vr_bool hx; have ey := vr_bool hy
    subst ex; subst ey
    obtain ⟨h1, h2⟩ := bif_some h
    have hu := hB h1
    simp only [Sem.run_bind, run_eqGuard_bool, Result.andThen_ok]
    split at h2
    · refine ⟨_, .bool (m == n), h2, rfl, ?_⟩
      show (do pure (.bool (← Op.equal t (.bool m) (.bool n))) : Sem Value).run P c.w = _
      simp only [Sem.run_bind, run_equal_bool hu, Result.andThen_ok, Sem.run_pure]
    · refine ⟨_, .bool (!(m == n)), h2, rfl, ?_⟩
      show (do pure (.bool (!(← Op.equal t (.bool m) (.bool n)))) : Sem Value).run P c.w = _
      simp only [Sem.run_bind, run_equal_bool hu, Result.andThen_ok, Sem.run_pure]
    · cases h2
  · cases h

theorem un_ok {op : UnOp} {x : V} {κ : V → R} {vx : Value} (h : unC op x κ = some r) (hx : VR c x vx) : ∃ v z, κ v = some r ∧ VR c v z ∧ (Op.unary op vx).run P c.w = .ok z c.w := by
  unfold unC at h
  split at h
  · have ex := vr_bool hx; subst ex; exact ⟨_, _, h, rfl, by simp [Op.unary]⟩
  · have ex := vr_int hx; subst ex; exact ⟨_, _, h, rfl, by simp [Op.unary, Op.intArith]⟩
  · cases h

theorem conv_ok {TD : TypeId → Option TI} (hT : TyOk P TD) {s d : TypeId} {x : V} {κ : V → R} {vx : Value} (h : convC (TD s) (TD d) x κ = some r) (hx : VR c x vx) :
    ∃ v z, κ v = some r ∧ VR c v z ∧ (convert s d vx).run P c.w = .ok z c.w := by
  unfold convC at h
  split at h
  · rename_i i k sz by_ z k' n h1 h2
    have ex := vr_int hx; subst ex
    obtain ⟨u1, _⟩ := hT.ok _ _ h1
    obtain ⟨u2, _⟩ := hT.ok _ _ h2
    exact ⟨_, _, h, rfl, by simp [convert, run_underlying u1, run_underlying u2, Conv.intToInt]⟩
  · cases h

theorem minmax_ok {mx : Bool} {κ : V → R} : ∀ (ys : List V) (x : V) (vx : Value) (vys : List Value), minmaxC mx x ys κ = some r → VR c x vx → ArgsR c ys vys →
    ∃ v z, κ v = some r ∧ VR c v z ∧ (vys.foldlM (if mx then Builtin.max2 else Builtin.min2) vx).run P c.w = .ok z c.w := by
  intro ys
  induction ys with
  | nil =>
    intro x vx vys h hx ha
    have e : vys = [] := List.eq_nil_of_length_eq_zero (by simpa using ha.1)
    subst e
    have h' : κ x = some r := by
      cases x <;> exact h
    exact ⟨x, vx, h', hx, rfl⟩
  | cons y ys ih =>
    intro x vx vys h hx ha
    obtain ⟨vy, vys, rfl⟩ : ∃ u us, vys = u :: us := by
      cases vys with
      | nil => have := ha.1; simp at this
      | cons u us => exact ⟨u, us, rfl⟩
    have hy : VR c y vy := by simpa using ha.2 0 (by simp)
    have ha' : ArgsR c ys vys := ⟨by simpa using ha.1, fun j hj => by simpa using ha.2 (j + 1) (by simpa using hj)⟩
    cases x with
    | int k m =>
      cases y with
      | int k' n =>
        have ex := vr_int hx; have ey := vr_int hy
        subst ex; subst ey
        unfold minmaxC at h
        cases mx with
        | true =>
          obtain ⟨v, z, h1, h2, h3⟩ := ih _ _ _ h (show VR c _ _ from rfl) ha'
          exact ⟨v, z, h1, h2, by simpa [Builtin.max2] using h3⟩
        | false =>
          obtain ⟨v, z, h1, h2, h3⟩ := ih _ _ _ h (show VR c _ _ from rfl) ha'
          exact ⟨v, z, h1, h2, by simpa [Builtin.min2] using h3⟩
      | _ => simp [minmaxC] at h
    | _ => simp [minmaxC] at h
end

end Go.Proofs.Ytonbbeplmjidnaa.D
