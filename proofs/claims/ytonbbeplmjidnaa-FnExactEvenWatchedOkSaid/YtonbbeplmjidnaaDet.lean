/- The small machine's operations are determined, and look at their operands alone. Conditions: those of each theorem. -/
import Derived.Test.YtonbbeplmjidnaaDen
namespace Go.Proofs.Ytonbbeplmjidnaa.D
open Go.RowKit
set_option linter.unusedVariables false
set_option linter.unusedSimpArgs false

/-- What goes on with one value. -/
def Det1 (f : (V → R) → R) (r : V × List E) (κ : V → R) : Prop := ∃ v, κ v = some r ∧ ∀ κ2, f κ2 = κ2 v
def Det2 (f : (V → List E → R) → R) (r : V × List E) (κ : V → List E → R) : Prop := ∃ v h, κ v h = some r ∧ ∀ κ2, f κ2 = κ2 v h

theorem binC_det {isB : Bool} {op : BinOp} {x y : V} {κ : V → R} {r : V × List E} (h : binC isB op x y κ = some r) : Det1 (binC isB op x y) r κ := by
  unfold binC at h
  split at h
  · rename_i k m k' n
    split at h
    · cases hc : decide (n < 0) with
      | true => simp [hc] at h
      | false => rw [hc] at h; exact ⟨_, h, fun κ2 => by simp only [binC, hc, cond_false]⟩
    · cases hc : decide (n < 0) with
      | true => simp [hc] at h
      | false => rw [hc] at h; exact ⟨_, h, fun κ2 => by simp only [binC, hc, cond_false]⟩
    · cases hc : decide (k = k') with
      | false => simp [hc] at h
      | true =>
        rw [hc, cond_true] at h
        cases op <;> simp only at h <;> first
          | (cases h; done)
          | (refine ⟨_, h, fun κ2 => ?_⟩; simp only [binC, hc, cond_true]; done)
          | (cases hz : (n == 0) with
             | true => simp [hz] at h
             | false => rw [hz, cond_false] at h; refine ⟨_, h, fun κ2 => ?_⟩; simp only [binC, hc, hz, cond_true, cond_false])
          | contradiction
  · rename_i m n
    cases isB with
    | false => simp at h
    | true =>
      rw [cond_true] at h
      cases op <;> simp only at h <;> first | (cases h; done) | (refine ⟨_, h, fun κ2 => ?_⟩; simp only [binC, cond_true]; done)
  · cases h
theorem unC_det {op : UnOp} {x : V} {κ : V → R} {r : V × List E} (h : unC op x κ = some r) : Det1 (unC op x) r κ := by
  unfold unC at h
  split at h
  · exact ⟨_, h, fun κ2 => rfl⟩
  · exact ⟨_, h, fun κ2 => rfl⟩
  · cases h
theorem convC_det {s d : Option TI} {x : V} {κ : V → R} {r : V × List E} (h : convC s d x κ = some r) : Det1 (convC s d x) r κ := by
  unfold convC at h
  split at h
  · exact ⟨_, h, fun κ2 => rfl⟩
  · cases h
theorem minmaxC_det {mx : Bool} {κ : V → R} {r : V × List E} : ∀ (ys : List V) (x : V), minmaxC mx x ys κ = some r → Det1 (minmaxC mx x ys) r κ := by
  intro ys
  induction ys with
  | nil =>
    intro x h
    have e : ∀ κ2, minmaxC mx x [] κ2 = κ2 x := fun κ2 => by cases x <;> rfl
    exact ⟨x, by rw [e] at h; exact h, e⟩
  | cons y ys ih =>
    intro x h
    cases x with
    | int k m =>
      cases y with
      | int k' n =>
        cases mx with
        | true => exact ih _ h
        | false => exact ih _ h
      | _ => simp [minmaxC] at h
    | _ => simp [minmaxC] at h
theorem idxC_det {x i : V} {h0 : List E} {κ : V → R} {r : V × List E} (h : idxC x i h0 κ = some r) : Det1 (idxC x i h0) r κ := by
  unfold idxC at h
  split at h
  · rename_i s l k n
    cases hc : idxOk n l.len with
    | false => simp [hc] at h
    | true => rw [hc, cond_true] at h; exact ⟨_, h, fun κ2 => by simp only [idxC, hc, cond_true]⟩
  · rename_i id k n
    split at h
    · rename_i l hl
      cases hc : idxOk n l.len with
      | false => simp [hc] at h
      | true => rw [hc, cond_true] at h; exact ⟨_, h, fun κ2 => by simp only [idxC, hl, hc, cond_true]⟩
    · cases h
  · rename_i id o m k n
    split at h
    · rename_i l hl
      cases hc : idxOk n m with
      | false => simp [hc] at h
      | true => rw [hc, cond_true] at h; exact ⟨_, h, fun κ2 => by simp only [idxC, hl, hc, cond_true]⟩
    · cases h
  · cases h
theorem loadC_det {p : V} {h0 : List E} {κ : V → R} {r : V × List E} (h : loadC p h0 κ = some r) : Det1 (loadC p h0) r κ := by
  unfold loadC at h
  split at h
  · exact ⟨_, h, fun κ2 => rfl⟩
  · rename_i id off
    split at h
    · rename_i l hl
      cases hc : decide (off < l.len) with
      | false => simp [hc] at h
      | true => rw [hc, cond_true] at h; exact ⟨_, h, fun κ2 => by simp only [loadC, hl, hc, cond_true]⟩
    · rename_i vs hl
      cases hc : decide (off < vs.length) with
      | false => simp [hc] at h
      | true => rw [hc, cond_true] at h; exact ⟨_, h, fun κ2 => by simp only [loadC, hl, hc, cond_true]⟩
    · cases h
  · cases h
theorem lenC_det {x : V} {h0 : List E} {κ : V → R} {r : V × List E} (h : lenC x h0 κ = some r) : Det1 (lenC x h0) r κ := by
  unfold lenC at h
  split at h
  · exact ⟨_, h, fun κ2 => rfl⟩
  · exact ⟨_, h, fun κ2 => rfl⟩
  · split at h
    · rename_i id l hl
      exact ⟨_, h, fun κ2 => by simp only [lenC, hl]⟩
    · cases h
  · exact ⟨_, h, fun κ2 => rfl⟩
  · cases h
theorem cutC_det {lo hi : Option V} {n : Nat} {κ : Nat → Nat → R} {r : V × List E} (h : cutC lo hi n κ = some r) : ∃ a m, κ a m = some r ∧ ∀ κ2, cutC lo hi n κ2 = κ2 a m := by
  unfold cutC at h
  split at h
  · exact ⟨_, _, h, fun κ2 => rfl⟩
  · rename_i k a
    cases hc : cutOk a n n with
    | false => simp [hc] at h
    | true => rw [hc, cond_true] at h; exact ⟨_, _, h, fun κ2 => by simp only [cutC, hc, cond_true]⟩
  · rename_i k b
    cases hc : cutOk 0 b n with
    | false => simp [hc] at h
    | true => rw [hc, cond_true] at h; exact ⟨_, _, h, fun κ2 => by simp only [cutC, hc, cond_true]⟩
  · rename_i k a k' b
    cases hc : cutOk a b n with
    | false => simp [hc] at h
    | true => rw [hc, cond_true] at h; exact ⟨_, _, h, fun κ2 => by simp only [cutC, hc, cond_true]⟩
  · cases h
theorem sliceC_det {x : V} {lo hi : Option V} {h0 : List E} {κ : V → R} {r : V × List E} (h : sliceC x lo hi h0 κ = some r) : Det1 (sliceC x lo hi h0) r κ := by
  unfold sliceC at h
  split at h
  · rename_i s l
    obtain ⟨a, m, h1, h2⟩ := cutC_det h
    exact ⟨_, h1, fun κ2 => h2 (fun a n => κ2 (.ro s (l.cut a n)))⟩
  · rename_i id
    split at h
    · rename_i l hl
      cases lo with
      | none =>
        cases hi with
        | none => exact ⟨_, h, fun κ2 => by simp only [sliceC, hl]⟩
        | some b =>
          obtain ⟨a, m, h1, h2⟩ := cutC_det h
          exact ⟨_, h1, fun κ2 => by simp only [sliceC, hl]; exact h2 _⟩
      | some a0 =>
        obtain ⟨a, m, h1, h2⟩ := cutC_det h
        exact ⟨_, h1, fun κ2 => by simp only [sliceC, hl]; exact h2 _⟩
    · cases h
  · rename_i id o k
    obtain ⟨a, m, h1, h2⟩ := cutC_det h
    exact ⟨_, h1, fun κ2 => h2 (fun a n => κ2 (.sub id (o + a) n))⟩
  · cases h
theorem storeC_det {p v : V} {h0 : List E} {κ : List E → R} {r : V × List E} (h : storeC p v h0 κ = some r) : ∃ h1, κ h1 = some r ∧ ∀ κ2, storeC p v h0 κ2 = κ2 h1 := by
  unfold storeC at h
  split at h
  · rename_i id off
    split at h
    · rename_i l hl
      cases hc : decide (off < l.len) with
      | false => simp [hc] at h
      | true =>
        rw [hc, cond_true] at h
        split at h
        · rename_i l' hl'
          exact ⟨_, h, fun κ2 => by simp only [storeC, hl, hc, cond_true, hl']⟩
        · cases h
    · rename_i vs hl
      cases hc : decide (off < vs.length) with
      | false => cases v <;> simp [hc] at h
      | true =>
        cases v <;> simp only [hc, cond_true] at h <;> first
          | (cases h; done)
          | exact ⟨_, h, fun κ2 => by simp only [storeC, hl, hc, cond_true]⟩
    · cases h
  · cases h
theorem loadAggC_det {n : Nat} {p : V} {h0 : List E} {κ : V → R} {r : V × List E} (h : loadAggC n p h0 κ = some r) : Det1 (loadAggC n p h0) r κ := by
  unfold loadAggC at h
  split at h
  · rename_i id
    split at h
    · rename_i vs hl
      cases hc : Nat.beq vs.length n with
      | false => rw [hc, cond_false] at h; cases h
      | true => rw [hc, cond_true] at h; exact ⟨_, h, fun κ2 => by simp only [loadAggC, hl, hc, cond_true]⟩
    · cases h
  · cases h
theorem storeAggC_det {n : Nat} {p v : V} {h0 : List E} {κ : List E → R} {r : V × List E} (h : storeAggC n p v h0 κ = some r) : ∃ h1, κ h1 = some r ∧ ∀ κ2, storeAggC n p v h0 κ2 = κ2 h1 := by
  unfold storeAggC at h
  split at h
  · rename_i id ws
    split at h
    · rename_i vs hl
      cases hc : Nat.beq vs.length n && Nat.beq ws.length n && ws.all V.flat with
      | false => rw [hc, cond_false] at h; cases h
      | true => rw [hc, cond_true] at h; exact ⟨_, h, fun κ2 => by simp only [storeAggC, hl, hc, cond_true]⟩
    · cases h
  · cases h
theorem appC_det {s x : V} {h0 : List E} {κ : V → List E → R} {r : V × List E} (h : appC s x h0 κ = some r) : Det2 (appC s x h0) r κ := by
  unfold appC at h
  split at h
  · rename_i id
    split at h
    · rename_i l m hl hm
      split at h
      · rename_i q hq
        cases hc : small q.len with
        | false => simp [hc] at h
        | true => rw [hc, cond_true] at h; exact ⟨_, _, h, fun κ2 => by simp only [appC, hl, hm, hq, hc, cond_true]⟩
      · cases h
    · cases h
  · split at h
    · rename_i m hm
      cases h0' : (m.len == 0) with
      | true => rw [h0', cond_true] at h; exact ⟨_, _, h, fun κ2 => by simp only [appC, hm, h0', cond_true]⟩
      | false =>
        rw [h0', cond_false] at h
        cases hc : small m.len with
        | false => simp [hc] at h
        | true => rw [hc, cond_true] at h; exact ⟨_, _, h, fun κ2 => by simp only [appC, hm, h0', hc, cond_true, cond_false]⟩
    · cases h
  · cases h

section
variable {TD : TypeId → Option TI} {K : FuncId → List V → List E → (V → List E → R) → R}

theorem Det1.to2 {f : (V → R) → R} {r : V × List E} {h0 : List E} {κ : V → List E → R} (h : Det1 f r fun v => κ v h0) : Det2 (fun κ => f fun v => κ v h0) r κ := by
  obtain ⟨v, h1, h2⟩ := h
  exact ⟨v, h0, h1, fun κ2 => h2 _⟩

/-- An operation's value and the blocks behind it. -/
theorem opC_det (hK : ∀ f args h κ r, K f args h κ = some r → ∃ v h', κ v h' = some r ∧ ∀ κ2, K f args h κ2 = κ2 v h') {o : Oper} {σ : St} {κ : V → List E → R} {r : V × List E} (h : opC TD K o σ κ = some r) :
    Det2 (opC TD K o σ) r κ := by
  obtain ⟨dst, op, ty, pos, after, guard⟩ := o
  cases op with
  | move x => exact ⟨_, _, h, fun κ2 => rfl⟩
  | assign x =>
    simp only [opC] at h
    split at h
    · split at h
      · rename_i h1
        split at h
        · rename_i h2
          split at h
          · rename_i h3
            exact ⟨_, _, h, fun κ2 => by simp only [opC, h1, h2, h3]⟩
          · cases h
        · cases h
      · cases h
    · rename_i hne
      have e : ∀ κ2 : V → List E → R, opC TD K ⟨dst, .assign x, ty, pos, after, guard⟩ σ κ2 = κ2 (σ.ev x) σ.h := by
        intro κ2
        simp only [opC]
      exact ⟨_, _, h, e⟩
  | pick c a b =>
    simp only [opC] at h
    split at h
    · rename_i t hc
      split at h
      · rename_i x y ex ey
        exact ⟨_, _, h, fun κ2 => by simp only [opC, hc, ex, ey]⟩
      · rename_i hne
        have e : ∀ κ2 : V → List E → R, opC TD K ⟨dst, .pick c a b, ty, pos, after, guard⟩ σ κ2 = bif t then κ2 (σ.ev a) σ.h else κ2 (σ.ev b) σ.h := by
          intro κ2
          simp only [opC, hc]
        cases t with
        | true => exact ⟨_, _, h, fun κ2 => e κ2⟩
        | false => exact ⟨_, _, h, fun κ2 => e κ2⟩
    · cases h
  | binOp op' t x y yt => exact (binC_det (κ := fun v => κ v σ.h) h).to2
  | unOp op' t x => exact (unC_det (κ := fun v => κ v σ.h) h).to2
  | convert s d x => exact (convC_det (κ := fun v => κ v σ.h) h).to2
  | extract t i =>
    simp only [opC] at h
    split at h
    · rename_i vs hv
      cases hc : decide (i < vs.length) with
      | false => simp [hc] at h
      | true => rw [hc, cond_true] at h; exact ⟨_, _, h, fun κ2 => by simp only [opC, hv, hc, cond_true]⟩
    · cases h
  | nilCheck x =>
    simp only [opC] at h
    split at h
    · rename_i id off hv
      exact ⟨_, _, h, fun κ2 => by simp only [opC, hv]⟩
    · cases h
  | indexAddr t x i =>
    simp only [opC] at h
    split at h
    · rename_i h1
      split at h
      · rename_i h2
        obtain ⟨v, e1, e2⟩ := idxC_det (κ := fun v => κ v σ.h) h
        exact ⟨v, _, e1, fun κ2 => by simp only [opC, h1, h2]; exact e2 _⟩
      · cases h
    · cases h
  | fieldAddr t x f =>
    simp only [opC] at h
    split at h
    · rename_i h1 h2
      split at h
      · rename_i h3
        split at h
        · rename_i h4
          exact ⟨_, _, h, fun κ2 => by simp only [opC, h1, h2, h3, h4]⟩
        · cases h
      · cases h
    · cases h
  | load t p =>
    simp only [opC] at h
    split at h
    · rename_i hi
      obtain ⟨v, e1, e2⟩ := loadAggC_det (κ := fun v => κ v σ.h) h
      exact ⟨v, _, e1, fun κ2 => by simp only [opC, hi]; exact e2 _⟩
    · cases h
    · rename_i i n1 n2 hi
      obtain ⟨v, e1, e2⟩ := loadC_det (κ := fun v => κ v σ.h) h
      refine ⟨v, _, e1, fun κ2 => ?_⟩
      have e : opC TD K ⟨dst, .load t p, ty, pos, after, guard⟩ σ κ2 = loadC (σ.ev p) σ.h fun v => κ2 v σ.h := by
        simp only [opC]
        rw [hi]
        obtain ⟨d, s, b, z⟩ := i
        cases d <;> first | rfl | exact (n1 _ _ _ _ rfl).elim | exact (n2 _ _ _ _ _ rfl).elim
      rw [e]; exact e2 _
    · cases h
  | store t p x =>
    simp only [opC] at h
    split at h
    · rename_i hi
      obtain ⟨h', e1, e2⟩ := storeAggC_det (κ := fun h => κ .junk h) h
      exact ⟨_, _, e1, fun κ2 => by simp only [opC, hi]; exact e2 _⟩
    · rename_i h0 h1
      split at h
      · cases h
      · cases h
      · cases h
      · rename_i n1 n2 n3
        obtain ⟨h', e1, e2⟩ := storeC_det (κ := fun h => κ .junk h) h
        refine ⟨_, _, e1, fun κ2 => ?_⟩
        simp only [opC, h1]
        exact e2 _
    · cases h
  | slice t x lo hi mx =>
    cases mx with
    | some m => simp [opC] at h
    | none =>
      simp only [opC] at h
      split at h
      · rename_i h1
        split at h
        · rename_i h2
          obtain ⟨v, e1, e2⟩ := sliceC_det (κ := fun v => κ v σ.h) h
          exact ⟨v, _, e1, fun κ2 => by simp only [opC, h1, h2]; exact e2 _⟩
        · cases h
      · cases h
  | buildSlice t n parts =>
    simp only [opC] at h
    split at h
    · rename_i h1
      split at h
      · rename_i d by2 ze h2
        cases hc : (Nat.beq parts.size n && inOrder 0 parts.toList && decide (n ≤ 1000) && notAgg ze) with
        | false => simp [hc] at h
        | true =>
          rw [hc, cond_true] at h
          split at h
          · rename_i l hl
            exact ⟨_, _, h, fun κ2 => by simp only [opC, h1, h2, hc, cond_true, hl]⟩
          · rename_i hl
            split at h
            · split at h
              · rename_i xs h' hfr
                exact ⟨_, _, h, fun κ2 => by simp only [opC, h1, h2, hc, cond_true, hl, hfr]⟩
              · cases h
            · cases h
      · cases h
    · cases h
  | makeSlice t l cp =>
    simp only [opC] at h
    split at h
    · rename_i e sz by_ z n h1 hn
      split at h
      · rename_i d b ze h2
        cases hc : (sameOperand l cp && decide (b ≤ 64) && decide (0 ≤ n) && small n.toNat && zeroFits d ze) with
        | false => simp [hc] at h
        | true =>
          rw [hc, cond_true] at h
          split at h
          · rename_i q hq
            exact ⟨_, _, h, fun κ2 => by simp only [opC, h1, hn, h2, hc, cond_true, hq]⟩
          · cases h
      · cases h
    · cases h
  | box t x =>
    simp only [opC] at h
    split at h
    · rename_i vs hv
      cases hc : vs.all V.flat with
      | false => simp [hc] at h
      | true => rw [hc, cond_true] at h; exact ⟨_, _, h, fun κ2 => by simp only [opC, hv, hc, cond_true]⟩
    · cases h
    · cases h
    · rename_i n1 n2 n3
      refine ⟨_, _, h, fun κ2 => ?_⟩
      simp only [opC]
  | alloc t =>
    simp only [opC] at h
    split at h
    · rename_i h1
      split at h
      · rename_i vs hz
        cases hc : vs.all V.flat with
        | false => rw [hc, cond_false] at h; cases h
        | true => rw [hc, cond_true] at h; exact ⟨_, _, h, fun κ2 => by simp only [opC, h1, hz, hc, cond_true]⟩
      · cases h
      · cases h
      · rename_i n1 n2 n3
        refine ⟨_, _, h, fun κ2 => ?_⟩
        simp only [opC, h1]
    · cases h
  | field t x f =>
    simp only [opC] at h
    split at h
    · rename_i fs sz by_ z vs h1 h2
      split at h
      · rename_i fd h3
        split at h
        · cases h
        · cases h
        · rename_i i n1 n2 h4
          cases hc : decide (fd.offset < vs.length) with
          | false => rw [hc, cond_false] at h; cases h
          | true => rw [hc, cond_true] at h; exact ⟨_, _, h, fun κ2 => by simp only [opC, h1, h2, h3, h4, hc, cond_true]⟩
        · cases h
      · cases h
    · cases h
  | build t parts =>
    simp only [opC] at h
    split at h
    · rename_i fs sz by_ z h1
      split at h
      · rename_i zs hz
        cases hc : buildOk TD fs parts zs.length σ.ev with
        | false => simp [hc] at h
        | true => rw [hc, cond_true] at h; exact ⟨_, _, h, fun κ2 => by simp only [opC, h1, hz, hc, cond_true]⟩
      · cases h
    · cases h
  | call cl =>
    obtain ⟨callee, cargs, cats⟩ := cl
    simp only [opC] at h
    split at h
    · split at h
      · rename_i x t h1 h2
        split at h
        · rename_i h3
          obtain ⟨v, e1, e2⟩ := lenC_det (κ := fun v => κ v σ.h) h
          exact ⟨v, _, e1, fun κ2 => by simp only [opC, h1, h2, h3]; exact e2 _⟩
        · cases h
      · cases h
    · split at h
      · rename_i x rest h1
        obtain ⟨v, e1, e2⟩ := minmaxC_det (κ := fun v => κ v σ.h) _ _ h
        exact ⟨v, _, e1, fun κ2 => by simp only [opC, h1]; exact e2 _⟩
      · cases h
    · split at h
      · rename_i x rest h1
        obtain ⟨v, e1, e2⟩ := minmaxC_det (κ := fun v => κ v σ.h) _ _ h
        exact ⟨v, _, e1, fun κ2 => by simp only [opC, h1]; exact e2 _⟩
      · cases h
    · split at h
      · rename_i s x t u h1 h2
        cases htu : Nat.beq t u with
        | false => simp [htu] at h
        | true =>
          rw [htu, cond_true] at h
          split at h
          · rename_i h3
            split at h
            · rename_i d b ze h4
              cases hc : (decide (b ≤ 64) && notAgg ze) with
              | false => simp [hc] at h
              | true =>
                rw [hc, cond_true] at h
                obtain ⟨v, h', e1, e2⟩ := appC_det h
                exact ⟨v, h', e1, fun κ2 => by simp only [opC, h1, h2, htu, h3, h4, hc, cond_true]; exact e2 _⟩
            · cases h
          · cases h
      · cases h
    · obtain ⟨v, h', e1, e2⟩ := hK _ _ _ _ _ h
      exact ⟨v, h', e1, e2⟩
    · cases h
  | _ => simp [opC] at h
end

end Go.Proofs.Ytonbbeplmjidnaa.D
