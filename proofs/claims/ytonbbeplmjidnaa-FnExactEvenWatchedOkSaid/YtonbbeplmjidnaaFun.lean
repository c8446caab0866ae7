/- Code and functions of the small machine. Conditions: those of each theorem. -/
import Derived.Test.YtonbbeplmjidnaaCode
import Derived.LoopN
namespace Go.Proofs.Ytonbbeplmjidnaa.D
open Go.RowKit
set_option linter.unusedVariables false
set_option linter.unusedSimpArgs false

/-- What code leaves as it was: of the own blocks the first m stay. -/
structure ExtM (m : Nat) (c c' : Cx) : Prop where
  F : c'.F = c.F
  os : c'.w.os = c.w.os
  tape : c'.w.tape = c.w.tape
  output : c'.w.output = c.w.output
  size : c.w.heap.size ≤ c'.w.heap.size
  block : ∀ k, k < c.w.heap.size → ¬ c.U k → c'.w.heap[k]? = c.w.heap[k]?
  own : ∀ b, c'.U b → c.U b ∨ c.w.heap.size ≤ b
  len : m ≤ c'.h.length
  ids : ∀ i, i < m → c'.hv i = c.hv i ∧ sameE (getE c.h i) (getE c'.h i) = true

theorem Ext.m {m : Nat} {c c' : Cx} (h : Ext c c') (hm : m ≤ c.h.length) : ExtM m c c' :=
  ⟨h.F, h.os, h.tape, h.output, h.size, h.block, h.own, Nat.le_trans hm h.len, fun i hi => h.ids i (Nat.lt_of_lt_of_le hi hm)⟩
theorem ExtM.trans {m : Nat} {a b c : Cx} (h : ExtM m a b) (k : ExtM m b c) : ExtM m a c where
  F := k.F.trans h.F
  os := k.os.trans h.os
  tape := k.tape.trans h.tape
  output := k.output.trans h.output
  size := Nat.le_trans h.size k.size
  block := fun i hi hu => (k.block i (Nat.lt_of_lt_of_le hi h.size) (fun hb => (h.own i hb).elim hu (fun hle => by omega))).trans (h.block i hi hu)
  own := fun x hx => (k.own x hx).elim (h.own x) (fun hle => .inr (Nat.le_trans h.size hle))
  len := k.len
  ids := fun i hi => ⟨(k.ids i hi).1.trans (h.ids i hi).1, sameE_trans (h.ids i hi).2 (k.ids i hi).2⟩

/-! Which blocks are kept. -/
theorem any_beq {acc : List Nat} {x : Nat} : acc.any (Nat.beq x) = true ↔ x ∈ acc := by
  rw [List.any_eq_true]
  constructor
  · rintro ⟨y, hy, h⟩; rw [Nat.eq_of_beq_eq_true h]; exact hy
  · exact fun h => ⟨x, h, nbeq_self x⟩
theorem addIds_ok : ∀ (xs acc : List Nat), acc.Nodup → ∃ r, addIds xs acc = acc ++ r ∧ (addIds xs acc).Nodup ∧ ∀ i ∈ r, i ∈ xs := by
  intro xs
  induction xs with
  | nil => intro acc h; exact ⟨[], by simp [addIds], by simpa [addIds] using h, by simp⟩
  | cons x xs ih =>
    intro acc h
    simp only [addIds]
    cases hx : acc.any (Nat.beq x) with
    | true =>
      obtain ⟨r, h1, h2, h3⟩ := ih acc h
      simp only [cond_true]
      exact ⟨r, h1, h2, fun i hi => by simp [h3 i hi]⟩
    | false =>
      have hx' : x ∉ acc := fun hm => by rw [any_beq.2 hm] at hx; cases hx
      have hn : (acc ++ [x]).Nodup := by
        rw [List.nodup_append]
        exact ⟨h, by simp, fun a ha b hb => by
          have : b = x := by simpa using hb
          subst this
          intro e; exact hx' (e ▸ ha)⟩
      obtain ⟨r, h1, h2, h3⟩ := ih (acc ++ [x]) hn
      simp only [cond_false]
      exact ⟨x :: r, by rw [h1]; simp, h2, fun i hi => by
        rcases List.mem_cons.1 hi with rfl | hi
        · simp
        · simp [h3 i hi]⟩
theorem foldIds_ok {α : Type} (f : α → List Nat) : ∀ (ys : List α) (acc : List Nat), acc.Nodup → ∃ r, ys.foldl (fun acc v => addIds (f v) acc) acc = acc ++ r ∧
    (ys.foldl (fun acc v => addIds (f v) acc) acc).Nodup ∧ ∀ i ∈ r, ∃ y ∈ ys, i ∈ f y := by
  intro ys
  induction ys with
  | nil => intro acc h; exact ⟨[], by simp, by simpa using h, by simp⟩
  | cons y ys ih =>
    intro acc h
    obtain ⟨r1, h1, h2, h3⟩ := addIds_ok (f y) acc h
    obtain ⟨r2, h4, h5, h6⟩ := ih _ h2
    simp only [List.foldl_cons]
    refine ⟨r1 ++ r2, by rw [h4, h1]; simp, h5, fun i hi => ?_⟩
    rcases List.mem_append.1 hi with hi | hi
    · exact ⟨y, by simp, h3 i hi⟩
    · obtain ⟨z, hz, hzi⟩ := h6 i hi
      exact ⟨z, by simp [hz], hzi⟩

theorem ids0_lt {c : Cx} {u : V} {x : Value} (h : VR0 c u x) : ∀ i ∈ u.ids0, i < c.h.length := by
  intro i hi
  cases u <;> simp [V.ids0] at hi <;> (subst hi; exact h.1)
theorem ids_lt {c : Cx} {u : V} {x : Value} (h : VR c u x) : ∀ i ∈ u.ids, i < c.h.length := by
  intro i hi
  cases u with
  | agg vs =>
    obtain ⟨cs, rfl, hs, ha⟩ := (show VR1 c (.agg vs) x from h)
    simp only [V.ids, List.mem_flatMap] at hi
    obtain ⟨v, hv, hvi⟩ := hi
    obtain ⟨j, hj, rfl⟩ := List.getElem_of_mem hv
    have := ha j hj
    have e : vs.getD j .junk = vs[j] := by simp [List.getD, hj]
    rw [e] at this
    exact ids0_lt this i hvi
  | own id => exact ids0_lt (u := .own id) h i hi
  | sub id o n => exact ids0_lt (u := .sub id o n) h i hi
  | ptr id o => exact ids0_lt (u := .ptr id o) h i hi
  | _ => simp [V.ids, V.ids0] at hi
theorem eids_lt {c : Cx} (hr : Rel c) {k : Nat} (hk : k < c.h.length) : ∀ i ∈ (getE c.h k).ids, i < c.h.length := by
  intro i hi
  have he := hr.ent k hk
  cases hd : getE c.h k with
  | cells vs =>
    rw [hd] at he hi
    obtain ⟨b, e, cs, hv, hg, hs, ha⟩ := he
    simp only [E.ids, List.mem_flatMap] at hi
    obtain ⟨v, hv, hvi⟩ := hi
    obtain ⟨j, hj, rfl⟩ := List.getElem_of_mem hv
    obtain ⟨x, hx, hxa⟩ := ha j hj
    have e : vs.getD j .junk = vs[j] := by simp [List.getD, hj]
    rw [e] at hxa
    exact ids0_lt hxa i hvi
  | row l => rw [hd] at hi; simp [E.ids] at hi
  | dead => rw [hd] at hi; simp [E.ids] at hi

theorem keep_ok {c : Cx} (hr : Rel c) {m : Nat} (hm : m ≤ c.h.length) {vs : List V} (hv : ∀ v ∈ vs, ∃ x, VR c v x) :
    (keepIds m vs c.h).Nodup ∧ (∀ i ∈ keepIds m vs c.h, i < c.h.length) ∧ ∀ j, j < m → (keepIds m vs c.h).getD j 0 = j ∧ j < (keepIds m vs c.h).length := by
  obtain ⟨r1, h1, h2, h3⟩ := foldIds_ok V.ids vs (List.range m) List.nodup_range
  have hl1 : ∀ i ∈ vs.foldl (fun acc v => addIds v.ids acc) (List.range m), i < c.h.length := by
    rw [h1]
    intro i hi
    rcases List.mem_append.1 hi with hi | hi
    · have := List.mem_range.1 hi; omega
    · obtain ⟨v, hv1, hv2⟩ := h3 i hi
      obtain ⟨x, hx⟩ := hv v hv1
      exact ids_lt hx i hv2
  obtain ⟨r2, h4, h5, h6⟩ := foldIds_ok (fun i => (getE c.h i).ids) (vs.foldl (fun acc v => addIds v.ids acc) (List.range m)) (vs.foldl (fun acc v => addIds v.ids acc) (List.range m)) h2
  refine ⟨h5, ?_, fun j hj => ?_⟩
  · show ∀ i ∈ (vs.foldl (fun acc v => addIds v.ids acc) (List.range m)).foldl (fun acc i => addIds (getE c.h i).ids acc) (vs.foldl (fun acc v => addIds v.ids acc) (List.range m)), i < c.h.length
    rw [h4]
    intro i hi
    rcases List.mem_append.1 hi with hi | hi
    · exact hl1 i hi
    · obtain ⟨k, hk1, hk2⟩ := h6 i hi
      exact eids_lt hr (hl1 k hk1) i hk2
  · have e : keepIds m vs c.h = List.range m ++ (r1 ++ r2) := by
      show (vs.foldl (fun acc v => addIds v.ids acc) (List.range m)).foldl (fun acc i => addIds (getE c.h i).ids acc) (vs.foldl (fun acc v => addIds v.ids acc) (List.range m)) = _
      rw [h4, h1, List.append_assoc]
    rw [e]
    exact ⟨by simp [List.getD, List.getElem?_append, hj], by simp; omega⟩

theorem E.re_same (e : E) (ids : List Nat) : sameE e (e.re ids) = true := by cases e <;> simp [E.re, sameE]

theorem pick_ext {c : Cx} {m : Nat} {ids : List Nat} (hp : ∀ j, j < m → ids.getD j 0 = j ∧ j < ids.length) : ExtM m c (c.pick ids) where
  F := rfl
  os := rfl
  tape := rfl
  output := rfl
  size := Nat.le_refl _
  block := fun _ _ _ => rfl
  own := fun b hb => .inl (pick_U hb)
  len := by
    rcases Nat.eq_zero_or_pos m with h | h
    · omega
    · have := (hp (m - 1) (by omega)).2
      simp [Cx.pick]; omega
  ids := fun i hi => by
    obtain ⟨h1, h2⟩ := hp i hi
    refine ⟨by simp only [Cx.pick, h1], ?_⟩
    rw [pick_get c ids h2, h1]
    exact E.re_same _ _

theorem getT_live (f : Nat → V) : ∀ (live : List Nat) (t : Nat), getT (live.map fun t => (t, f t)) t = if t ∈ live then f t else .junk := by
  intro live
  induction live with
  | nil => intro t; simp [getT]
  | cons x live ih =>
    intro t
    simp only [List.map_cons, getT]
    by_cases h : x = t
    · subst h; simp [nbeq_self]
    · have h' : ¬ t = x := fun e => h e.symm
      rw [nbeq_ne h, cond_false, ih t]
      simp [h']

theorem norm_ok {c : Cx} {σ : St} {a : Act} (hr : Rel c) (ht : RelT c σ a) {m : Nat} (hm : m ≤ c.h.length) (live : List Nat) :
    ∃ c', ExtM m c c' ∧ Rel c' ∧ RelT c' (norm m live σ) a ∧ c'.w = c.w := by
  have hv : ∀ v ∈ live.map fun t => getT σ.t t, ∃ x, VR c v x := by
    intro v hv
    obtain ⟨t, _, rfl⟩ := List.mem_map.1 hv
    exact ⟨_, ht.t t⟩
  obtain ⟨h1, h2, h3⟩ := keep_ok hr hm hv
  have hσ := ht.h
  refine ⟨c.pick (keepIds m (live.map fun t => getT σ.t t) c.h), pick_ext h3, pick_rel hr h1 h2, ⟨ht.size, ht.defers, ?_, fun t => ?_⟩, rfl⟩
  · simp only [norm, Cx.pick, hσ]
  · simp only [norm, hσ]
    rw [getT_live (fun t => (getT σ.t t).re (keepIds m (live.map fun t => getT σ.t t) c.h))]
    split
    · exact pick_vr (ht.t t)
    · exact trivial

section
variable {P : Program} {TD : TypeId → Option TI} {K : FuncId → List V → List E → (V → List E → R) → R} {ann : Nat → List Nat × List Nat} {drawOk : Array Oper → Bool} {m fuel : Nat} {r : V × List E}

def Post (m : Nat) (c : Cx) (k : X → St → R) (r : V × List E) : Exit → Act → World → Prop := fun e a' w' =>
  ∃ x σ' c', e = X.exit_ x ∧ k x σ' = some r ∧ ExtM m c c' ∧ Rel c' ∧ RelT c' σ' a' ∧ c'.w = w'

theorem Post.trans {c c1 : Cx} {k : X → St → R} (h : ExtM m c c1) {e : Exit} {a : Act} {w : World} (hp : Post m c1 k r e a w) : Post m c k r e a w := by
  obtain ⟨x, σ', c', h1, h2, h3, h4⟩ := hp
  exact ⟨x, σ', c', h1, h2, h.trans h3, h4⟩

theorem Ext.reflM {c : Cx} (hm : m ≤ c.h.length) : ExtM m c c := (Ext.refl c).m hm

theorem nrm_ok {c : Cx} {σ : St} {a : Act} (hr : Rel c) (ht : RelT c σ a) {m : Nat} (hm : m ≤ c.h.length) {ann : Nat → List Nat × List Nat} (b : Code) :
    ∃ c', ExtM m c c' ∧ Rel c' ∧ RelT c' (nrmS ann m b σ) a ∧ c'.w = c.w := by
  unfold nrmS
  split
  · exact ⟨c, Ext.reflM hm, hr, ht, rfl⟩
  · exact norm_ok hr ht hm _
theorem denC_wp (hT : TyOk P TD) (hK : KOk P K) (hD : DrawOk P TD K drawOk) : ∀ (code : Code) (σ : St) (a : Act) (c : Cx) (k : X → St → R),
    denC TD K ann drawOk m fuel code σ k = some r → Rel c → RelT c σ a → m ≤ c.h.length → code.wp P (Post m c k r) a c.w := by
  intro code
  induction code with
  | skip => intro σ a c k h hr ht hm; exact wp_skip ⟨.normal, σ, c, rfl, h, Ext.reflM hm, hr, ht, rfl⟩
  | label l => intro σ a c k h hr ht hm; exact wp_label ⟨.normal, σ, c, rfl, h, Ext.reflM hm, hr, ht, rfl⟩
  | region id ops draw =>
    intro σ a c k h hr ht hm
    simp only [denC] at h
    have post : ∀ σ' c' a', k .normal σ' = some r → Ext c c' → Rel c' → RelT c' σ' a' → Post m c k r .normal a' c'.w :=
      fun σ' c' a' h1 h2 h3 h4 => ⟨.normal, σ', c', rfl, h1, h2.m hm, h3, h4, rfl⟩
    cases draw with
    | false =>
      simp only [Bool.false_and, cond_false] at h
      rw [toList_range] at h
      exact wp_region (opsC_wp hT hK c (List.range ops.size) (fun i hi => List.mem_range.1 hi) σ a c h (Ext.refl c) hr ht post)
    | true =>
      cases hd : drawOk ops with
      | false => simp [hd] at h
      | true =>
        simp only [hd, Bool.not_true, Bool.and_false, cond_false] at h
        exact hD ops _ r _ c σ a c id hd h (Ext.refl c) hr ht post
  | seq x y ihx ihy =>
    intro σ a c k h hr ht hm
    simp only [denC] at h
    refine wp_seq (wp_mono (ihx σ a c _ h hr ht hm) ?_)
    rintro e a' w' ⟨x', σ', c', rfl, h1, h2, h3, h4, rfl⟩
    cases x' with
    | normal =>
      obtain ⟨c2, e1, e2, e3, e4⟩ := nrm_ok h3 h4 h2.len (ann := ann) y
      have := wp_mono (ihy _ a' c2 k h1 e2 e3 e1.len) (fun e a w hp => hp.trans (h2.trans e1))
      rw [e4] at this
      exact this
    | exit id => exact ⟨.exit id, σ', c', rfl, h1, h2, h3, h4, rfl⟩
    | ret => exact ⟨.ret, σ', c', rfl, h1, h2, h3, h4, rfl⟩
  | cond o x y ihx ihy =>
    intro σ a c k h hr ht hm
    simp only [denC] at h
    split at h
    · rename_i t hc
      have hv := ht.ev o
      rw [hc] at hv
      have hv := vr_bool hv
      have hk : ∀ b, σ.ev o = .bool b → RelT c (σ.know o b) a := fun b hb => by
        cases o with
        | tmp t => exact (ht.known hb).1
        | _ => exact ht
      cases t with
      | true => exact wp_cond hv (ihx _ a c k h hr (hk true hc) hm)
      | false => exact wp_cond hv (ihy _ a c k h hr (hk false hc) hm)
    · cases h
  | block id x ih =>
    intro σ a c k h hr ht hm
    simp only [denC] at h
    refine wp_block (wp_mono (ih σ a c _ h hr ht hm) ?_)
    rintro e a' w' ⟨x', σ', c', rfl, h1, h2, h3, h4, rfl⟩
    cases x' with
    | normal => exact ⟨.normal, σ', c', rfl, h1, h2, h3, h4, rfl⟩
    | ret => exact ⟨.ret, σ', c', rfl, h1, h2, h3, h4, rfl⟩
    | exit j =>
      show (if j = id then Post m c k r .normal a' c'.w else Post m c k r (.exit j) a' c'.w)
      by_cases hj : j = id
      · subst hj
        simp only [nbeq_self, cond_true] at h1
        rw [if_pos rfl]
        exact ⟨.normal, σ', c', rfl, h1, h2, h3, h4, rfl⟩
      · simp only [nbeq_ne hj, cond_false] at h1
        rw [if_neg hj]
        exact ⟨.exit j, σ', c', rfl, h1, h2, h3, h4, rfl⟩
  | loop x ih =>
    intro σ a c k h hr ht hm
    simp only [denC] at h
    have key : ∀ n (σ : St) (a : Act) (c1 : Cx), iterC m (fun σ k => denC TD K ann drawOk m fuel x σ k) (ann (headId x)).1 (ann (headId x)).2 n σ k = some r →
        ExtM m c c1 → Rel c1 → RelT c1 σ a → Code.rounds P x (Post m c k r) n a c1.w := by
      intro n
      induction n with
      | zero => intro σ a c1 h; simp [iterC] at h
      | succ n ihn =>
        intro σ a c1 h hE hr ht
        simp only [iterC] at h
        rw [rounds_succ]
        refine wp_mono (ih σ a c1 _ h hr ht hE.len) ?_
        rintro e a' w' ⟨x', σ', c', rfl, h1, h2, h3, h4, rfl⟩
        cases x' with
        | normal =>
          obtain ⟨c2, e1, e2, e3, e4⟩ := norm_ok h3 h4 h2.len (ann (headId x)).1
          have := ihn _ a' c2 h1 ((hE.trans h2).trans e1) e2 e3
          rw [e4] at this
          exact this
        | exit id =>
          obtain ⟨c2, e1, e2, e3, e4⟩ := norm_ok h3 h4 h2.len (ann (headId x)).2
          exact ⟨.exit id, _, c2, rfl, h1, (hE.trans h2).trans e1, e2, e3, e4⟩
        | ret =>
          obtain ⟨c2, e1, e2, e3, e4⟩ := norm_ok h3 h4 h2.len (ann (headId x)).2
          exact ⟨.ret, _, c2, rfl, h1, (hE.trans h2).trans e1, e2, e3, e4⟩
    obtain ⟨c2, e1, e2, e3, e4⟩ := norm_ok hr ht hm (ann (headId x)).1
    have := key fuel _ a c2 h e1 e2 e3
    rw [e4] at this
    exact wp_loop_rounds fuel this
  | exit id => intro σ a c k h hr ht hm; exact wp_exit ⟨.exit id, σ, c, rfl, h, Ext.reflM hm, hr, ht, rfl⟩
  | ret => intro σ a c k h hr ht hm; exact wp_ret ⟨.ret, σ, c, rfl, h, Ext.reflM hm, hr, ht, rfl⟩
  | _ => intro σ a c k h; simp [denC] at h

theorem resAll_ok (hT : TyOk P TD) {c : Cx} {σ : St} {a : Act} (hr : Rel c) (ht : RelT c σ a) (g : ResultVar → Sem Value) (hg : ∀ t, g (.tmp t) = pure (a.tmps.getD t undef))
    (hgc : ∀ x t, g (.cell x t) = do loadVar t (← asAddr (a.tmps.getD x undef))) : ∀ (rs : List ResultVar) (vs : List V), resAll TD σ rs = some vs →
    ∃ xs : List Value, ArgsR c vs xs ∧ (rs.mapM g : Sem (List Value)).run P c.w = .ok xs c.w := by
  intro rs
  induction rs with
  | nil => intro vs h; simp [resAll] at h; subst h; exact ⟨[], ⟨rfl, fun j hj => by simp at hj⟩, rfl⟩
  | cons r rs ih =>
    intro vs h
    simp only [resAll] at h
    split at h
    · rename_i v vs' h1 h2
      simp at h; subst h
      obtain ⟨xs, hx, hrun⟩ := ih vs' h2
      cases r with
      | cell x t =>
        simp only [resC] at h1
        split at h1
        · rename_i fs n by_ z htd
          split at h1
          · rename_i id hv0
            split at h1
            · rename_i vs0 hl
              cases hc : Nat.beq vs0.length n with
              | false => rw [hc, cond_false] at h1; cases h1
              | true =>
                rw [hc, cond_true] at h1
                cases h1
                obtain ⟨u1, fi, hfi, hfs, _⟩ := hT.ok _ _ htd
                have hp := ht.t x
                rw [hv0] at hp
                rw [ht.h] at hl
                obtain ⟨y, cs, ey, hV, g0, hy, hl2⟩ := loadAgg_run (P := P) hr u1 hfi (by rw [hfs]; exact (Nat.eq_of_beq_eq_true hc).symm) hl hp
                refine ⟨.agg cs :: xs, ⟨by simp [hx.1], fun j hj => ?_⟩, ?_⟩
                · cases j with
                  | zero => simpa using hV
                  | succ j => simpa using hx.2 j (by simpa using hj)
                · have e : (asAddr (a.tmps.getD x undef)).run P c.w = .ok ⟨g0, 0, none⟩ c.w := by rw [hy]; rfl
                  simp only [List.mapM_cons, hgc, Sem.run_bind, Sem.run_pure, Result.andThen_ok, hrun, e, hl2]
            · cases h1
          · cases h1
        · cases h1
      | tmp t =>
        simp [resC] at h1; subst h1
        refine ⟨a.tmps.getD t undef :: xs, ⟨by simp [hx.1], fun j hj => ?_⟩, ?_⟩
        · cases j with
          | zero => simpa using ht.t t
          | succ j => simpa using hx.2 j (by simpa using hj)
        · simp only [List.mapM_cons, hg, Sem.run_bind, Sem.run_pure, Result.andThen_ok, hrun]
    · cases h

theorem argTs_get : ∀ (args : List V) (n t : Nat), getT (argTs n args) t = if n ≤ t ∧ t < n + args.length then args.getD (t - n) .junk else .junk := by
  intro args
  induction args with
  | nil => intro n t; simp [argTs, getT]
  | cons v args ih =>
    intro n t
    simp only [argTs, getT]
    by_cases h : n = t
    · subst h; simp [nbeq_self]
    · rw [nbeq_ne h, cond_false, ih]
      by_cases h2 : n + 1 ≤ t ∧ t < n + 1 + args.length
      · have h3 : n ≤ t ∧ t < n + (v :: args).length := by simp; omega
        rw [if_pos h2, if_pos h3]
        have : t - n = (t - (n + 1)) + 1 := by omega
        rw [this]; simp
      · have h3 : ¬ (n ≤ t ∧ t < n + (v :: args).length) := by simp; omega
        rw [if_neg h2, if_neg h3]

/-- A function does what the small machine does. -/
theorem funC_calls (hT : TyOk P TD) (hK : KOk P K) (hD : DrawOk P TD K drawOk) {f : FuncId} {fn : Func} (hf : P.funcs[f]? = some fn) {args : List V} {κ : V → List E → R} {c : Cx}
    (h : funC TD K ann drawOk fuel fn args c.h κ = some r) (hr : Rel c) {cargs : Array Value} (ha : ArgsR c args cargs.toList) :
    Calls P f cargs c.w fun e w' => ∃ x v c', e = .returned x ∧ κ v c'.h = some r ∧ Ext c c' ∧ Rel c' ∧ VR c' v x ∧ c'.w = w' ∧
      (v.out1 = true ∨ ∃ vs, v = .tup vs ∧ vs.all V.out1 = true) ∧ c'.h.all E.out = true := by
  unfold funC at h
  split at h
  · rename_i code hb
    refine calls_of_wp hf hb ?_
    have hsz : cargs.size = args.length := by have := ha.1; simpa using this
    have ht : RelT c { n := max fn.ntmps args.length, t := argTs 0 args, h := c.h } { tmps := cargs ++ Array.replicate (fn.ntmps - cargs.size) undef, defers := [] } := by
      refine ⟨by simp [hsz]; omega, rfl, rfl, fun t => ?_⟩
      simp only [argTs_get]
      by_cases hlt : t < args.length
      · have h1 : 0 ≤ t ∧ t < 0 + args.length := by omega
        rw [if_pos h1, Nat.sub_zero]
        have e : (cargs ++ Array.replicate (fn.ntmps - cargs.size) undef).getD t undef = cargs.toList.getD t undef := by
          have : t < cargs.size := by omega
          simp [Array.getElem?_append, this, List.getD]
        rw [e]; exact ha.2 t hlt
      · have h1 : ¬ (0 ≤ t ∧ t < 0 + args.length) := by omega
        rw [if_neg h1]; exact trivial
    refine wp_mono (denC_wp hT hK hD code _ _ c _ h hr ht (Nat.le_refl _)) ?_
    rintro e a' w' ⟨x, σ', c', rfl, h1, h2, h3, h4, rfl⟩
    have fin : (match resAll TD σ' fn.results.toList with
        | some vs => outC c.h.length vs σ'.h κ
        | none => none) = some r → a'.defers = [] ∧ ∃ v, (results fn a'.tmps).run P c'.w = .ok v c'.w ∧ ∃ x v' c2, Ending.returned v = .returned x ∧ κ v' c2.h = some r ∧ Ext c c2 ∧ Rel c2 ∧ VR c2 v' x ∧ c2.w = c'.w ∧
          (v'.out1 = true ∨ ∃ vs, v' = .tup vs ∧ vs.all V.out1 = true) ∧ c2.h.all E.out = true := by
      intro hh
      split at hh
      · rename_i vs hvs
        obtain ⟨g, hg, hgc, hgr⟩ : ∃ g : ResultVar → Sem Value, (∀ t, g (.tmp t) = pure (a'.tmps.getD t undef)) ∧ (∀ x t, g (.cell x t) = do loadVar t (← asAddr (a'.tmps.getD x undef))) ∧ results fn a'.tmps = (do let vs ← fn.results.mapM g; pure (if h : vs.size = 1 then vs[0] else .tuple vs)) :=
          ⟨_, fun t => rfl, fun x t => rfl, rfl⟩
        obtain ⟨xs, hxs, hrun⟩ := resAll_ok hT h3 h4 g hg hgc _ _ hvs
        have hres : (results fn a'.tmps).run P c'.w = .ok (if h : xs.length = 1 then xs[0] else .tuple xs.toArray) c'.w := by
          rw [hgr, Array.mapM_eq_mapM_toList]
          simp only [Sem.run_bind, Sem.run_map, hrun, Result.andThen_ok, Sem.run_pure]
          congr 1
        have hv : ∀ v ∈ vs, ∃ x, VR c' v x := by
          intro v hv
          obtain ⟨j, hj, rfl⟩ := List.getElem_of_mem hv
          have := hxs.2 j hj
          have e : vs.getD j .junk = vs[j] := by simp [List.getD, hj]
          rw [e] at this
          exact ⟨_, this⟩
        obtain ⟨k1, k2, k3⟩ := keep_ok h3 h2.len hv
        have hE2 := pick_ext (c := c') k3
        have hR2 := pick_rel h3 k1 k2
        have hσ := h4.h
        unfold outC at hh
        rw [hσ] at hh
        obtain ⟨ho, hh⟩ := bif_some hh
        simp only [Bool.and_eq_true] at ho
        have hEE := h2.trans hE2
        have hExt : Ext c (c'.pick (keepIds c.h.length vs c'.h)) := ⟨hEE.F, hEE.os, hEE.tape, hEE.output, hEE.size, hEE.block, hEE.own, hEE.len, hEE.ids⟩
        have hall : ∀ j, j < vs.length → VR (c'.pick (keepIds c.h.length vs c'.h)) ((vs.map fun v => v.re (keepIds c.h.length vs c'.h)).getD j .junk) (xs.getD j undef) := fun j hj => by
          have e : (vs.map fun v => v.re (keepIds c.h.length vs c'.h)).getD j .junk = (vs.getD j .junk).re (keepIds c.h.length vs c'.h) := by simp [List.getD, hj]
          rw [e]; exact pick_vr (hxs.2 j hj)
        refine ⟨h4.defers, _, hres, ?_⟩
        have hlen := hxs.1
        split at hh
        · rename_i v0 hv0
          have hl1 : vs.length = 1 := by have := congrArg List.length hv0; simpa using this
          have hx1 : xs.length = 1 := by omega
          refine ⟨_, v0, _, rfl, hh, hExt, hR2, ?_, rfl, .inl ?_, ho.2⟩
          · have := hall 0 (by omega)
            rw [hv0] at this
            rw [dif_pos hx1]
            have e : xs.getD 0 undef = xs[0] := by simp [List.getD, hx1]
            rw [e] at this
            simpa using this
          · have := ho.1
            rw [hv0] at this
            simpa using this
        · rename_i hne
          have hx1 : ¬ xs.length = 1 := by
            intro hx1
            have hl1 : vs.length = 1 := by omega
            obtain ⟨v0, rfl⟩ := List.length_eq_one_iff.1 hl1
            exact hne _ rfl
          refine ⟨_, .tup (vs.map fun v => v.re (keepIds c.h.length vs c'.h)), _, rfl, hh, hExt, hR2, ?_, rfl, .inr ⟨_, rfl, ho.1⟩, ho.2⟩
          rw [dif_neg hx1]
          refine ⟨xs.toArray, rfl, by simp [hlen], fun j hj => ?_⟩
          have hj' : j < vs.length := by simpa using hj
          have h5 := hall j hj'
          have e : xs.toArray.getD j undef = xs.getD j undef := by simp [List.getD]
          rw [e]
          have hnt : ∀ ws, (vs.map fun v => v.re (keepIds c.h.length vs c'.h)).getD j .junk ≠ .tup ws := by
            intro ws hh2
            have e2 : (vs.map fun v => v.re (keepIds c.h.length vs c'.h)).getD j .junk = (vs.getD j .junk).re (keepIds c.h.length vs c'.h) := by simp [List.getD, hj']
            rw [e2] at hh2
            cases hv2 : vs.getD j .junk <;> rw [hv2] at hh2 <;> simp [V.re, V.re0] at hh2
            all_goals (split at hh2 <;> cases hh2)
          exact (vr_eq hnt).1 h5
      · cases hh
    cases x with
    | exit id => cases h1
    | normal => exact fin h1
    | ret => exact fin h1
  · cases h
end

end Go.Proofs.Ytonbbeplmjidnaa.D
