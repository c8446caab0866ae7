/- Several texts in one: Opw, Code, Draw, Fun, Draw2, Call, Back, Twin, Law, Nice, Lib. Conditions: those of each theorem. -/
import Derived.Test.YthcidiihfjjpdaaBza0
import Derived.Orders
import Derived.LoopN
import Derived.KernelRfl
import Derived.Below
import Derived.OpenShut
import Derived.IntWalk
import Derived.WalkKit
import Derived.ProofKit
/- Every operation of the small machine is one of the model's. Conditions: those of each theorem. -/
namespace Go.Proofs.Ythcidiihfjjpdaa.D
open Go.RowKit
set_option linter.unusedVariables false
set_option linter.unusedSimpArgs false

theorem RelT.args {c : Cx} {σ : St} {a : Act} (h : RelT c σ a) (xs : List Operand) : ArgsR c (xs.map σ.ev) (xs.map a.eval) := by
  refine ⟨by simp, fun j hj => ?_⟩
  have hj' : j < xs.length := by simpa using hj
  have e1 : (xs.map σ.ev).getD j .junk = σ.ev xs[j] := by simp [List.getD, hj']
  have e2 : (xs.map a.eval).getD j undef = a.eval xs[j] := by simp [List.getD, hj']
  rw [e1, e2]; exact h.ev _

theorem RelT.opt {c : Cx} {σ : St} {a : Act} (h : RelT c σ a) (x : Option Operand) : OptR c (x.map σ.ev) (x.map a.eval) := by
  cases x with
  | none => trivial
  | some x => exact h.ev x

theorem same_operand {l c : Operand} (h : sameOperand l c = true) {a : Act} {k : IntKind} {n : Int} (hl : a.eval l = .int k n) : ∃ kc, a.eval c = .int kc n := by
  unfold sameOperand at h
  split at h
  · have := Nat.eq_of_beq_eq_true h; subst this; exact ⟨k, hl⟩
  · rename_i k1 x1 k2 x2
    have e : x1 = x2 := by simpa using h
    subst e
    simp [Act.eval] at hl
    obtain ⟨_, rfl⟩ := hl
    exact ⟨_, rfl⟩
  · cases h

theorem ofConst_not_agg (v : Value) (zs : List V) : ofConst v ≠ .agg zs := by
  unfold ofConst
  split <;> first | (intro h; cases h; done) | skip
  split <;> (intro h; cases h)

theorem ofZero_agg {z : Value} {zs : List V} (h : ofZero z = .agg zs) : ∃ cs : Array Value, z = .agg cs ∧ zs = cs.toList.map ofConst := by
  cases z <;> simp only [ofZero] at h <;> first | exact absurd h (ofConst_not_agg _ _) | skip
  rename_i cs
  exact ⟨cs, rfl, by injection h with h; exact h.symm⟩

theorem size_one {TD : TypeId → Option TI} {i : TypeId} (h : fitsOne TD i = true) : ∃ t, TD i = some t ∧ t.size = 1 := by
  unfold fitsOne at h
  split at h
  · rename_i hh; exact ⟨_, hh, rfl⟩
  · cases h

theorem freeze_flat : ∀ (vs : List V) (h : List E) (out : List (List Int)) (h' : List E), freeze h vs = some (out, h') → ∀ j, j < vs.length → (vs.getD j .junk).flat = true := by
  intro vs
  induction vs with
  | nil => intro h out h' _ j hj; simp at hj
  | cons v vs ih =>
    intro h out h' hf j hj
    have key : v.flat = true ∧ ∃ h2 o2 h3, freeze h2 vs = some (o2, h3) := by
      cases v <;> first | (simp [freeze] at hf; done) | (simp only [freeze] at hf; done) | skip
      · rename_i s l
        cases s <;> cases l <;> first | (simp [freeze] at hf; done) | skip
        rename_i k zs
        cases k <;> first | (simp [freeze] at hf; done) | skip
        simp only [freeze, Option.map_eq_some_iff] at hf
        obtain ⟨⟨o2, h2⟩, hf, _⟩ := hf
        exact ⟨rfl, _, o2, h2, hf⟩
      · simp only [freeze] at hf
        split at hf
        · simp only [Option.map_eq_some_iff] at hf
          obtain ⟨⟨o2, h2⟩, hf, _⟩ := hf
          exact ⟨rfl, _, o2, h2, hf⟩
        · cases hf
    obtain ⟨hk, h2, o2, h3, hf2⟩ := key
    cases j with
    | zero => simpa using hk
    | succ j => simpa using ih h2 o2 h3 hf2 j (by simpa using hj)

theorem storeF_ok {P : Program} {c : Cx} {r : V × List E} (hr : Rel c) {t : TypeId} {f : TypeInfo} (hf : P.info? t = some f) (hs : f.size = 1) {p v : V} {κ : List E → R} {vp x : Value}
    (hfl : v.flat = true) (h : storeF p v c.h κ = some r) (hp : VR c p vp) (hv : VR c v x) :
    ∃ c', κ c'.h = some r ∧ Ext c c' ∧ Rel c' ∧ (Instr.storeAt t vp x).run P c.w = .ok () c'.w := by
  cases v with
  | own i =>
    cases p with
    | ptr id off =>
      simp only [storeF] at h
      split at h
      · split at h
        · rename_i xs h' hfr
          obtain ⟨c1, e1, e2, hE1, hR1, hxl, hrow⟩ := freeze_ok [.own i] c [x] [xs] h' hr ⟨rfl, fun j hj => by
            have : j = 0 := by simp at hj; omega
            subst this; simpa using hv⟩ hfr
          have hx : RowV c1 xs x := by simpa using hrow 0 (by simp)
          have hv1 : VR c1 (.ro true (.ints .i64 xs)) x := by
            show RoR c1 true (.ints .i64 xs) x
            obtain ⟨a, cap, rfl, hc, h0⟩ := hx
            refine ⟨a, cap, rfl, hc, ?_⟩
            rcases h0 with h0 | ⟨b, o, ha, hF, hU, hcell⟩
            · exact .inl h0
            · exact .inr ⟨b, o, ha, fun _ => hF, hU, fun j hj => ⟨_, hcell j hj, rfl⟩⟩
          rw [← e1] at h
          obtain ⟨c', f1, f2, f3, f4⟩ := store_ok (P := P) hR1 hf hs rfl h (hE1.vr hp) hv1
          exact ⟨c', f1, hE1.trans f2, f3, by rw [← e2]; exact f4⟩
        · cases h
      · exact store_ok (P := P) hr hf hs hfl h hp hv
    | _ => cases h
  | _ => exact store_ok (P := P) hr hf hs hfl h hp hv
theorem opC_wp {P : Program} {TD : TypeId → Option TI} {K : FuncId → List V → List E → (V → List E → R) → R} (hT : TyOk P TD) (hK : KOk P K) {o : Oper} {σ : St} {a : Act} {c : Cx} {κ : V → List E → R} {r : V × List E}
    (h : opC TD K o σ κ = some r) (hr : Rel c) (ht : RelT c σ a) {N : Act → World → Prop} {Q : Exit → Act → World → Prop}
    (hN : ∀ v c' x, κ v c'.h = some r → Ext c c' → Rel c' → VR c' v x → N (a.put o.dst x) c'.w) : o.wp P a c.w N Q := by
  have hσ := ht.h
  obtain ⟨dst, op, ty, pos, after, guard⟩ := o
  -- an operation that leaves the world alone
  have same : ∀ (v : V) (z : Value), κ v c.h = some r → VR c v z → (execOp a.eval ⟨dst, op, ty, pos, after, guard⟩).run P c.w = .ok (.value z) c.w →
      (⟨dst, op, ty, pos, after, guard⟩ : Oper).wp P a c.w N Q := fun v z h1 h2 h3 => wp_val h3 (hN v c z h1 (Ext.refl c) hr h2)
  unfold opC at h
  split at h
  · rename_i x hop
    simp only at hop; subst hop
    rw [hσ] at h
    exact same _ _ h (ht.ev x) rfl
  · rename_i x hop
    simp only at hop; subst hop
    rw [hσ] at h
    split at h
    · -- an empty row of one's own
      split at h
      · split at h
        · split at h
          · rename_i l hl
            have hl0 : l.len = 0 := by
              unfold emptyRow at hl
              split at hl <;> simp at hl <;> subst hl <;> rfl
            obtain ⟨hE, hR, hV⟩ := push_row hr (l := l) (x := .slice none 0 0) (w' := c.w) (e := 0) (xs := []) (grown_self _ _) (by rw [hl0]; exact World.ownsRow_nil c.w 0 0 1) (fun b hb => by simp [blk] at hb) (fun c' _ j hj => by omega)
            exact wp_val (x := .slice none 0 0) (w' := (c.push (.row l) (.slice none 0 0) c.w).w) rfl (hN _ (c.push (.row l) (.slice none 0 0) c.w) _ h hE hR hV)
          · cases h
        · cases h
      · cases h
    · exact same _ _ h (ht.ev x) rfl
  · -- pick
    rename_i cc x y hop
    simp only at hop; subst hop
    rw [hσ] at h
    split at h
    · rename_i t hc
      have hcv := ht.ev cc
      rw [hc] at hcv
      have hcv := vr_bool hcv
      have hx := ht.ev x
      have hy := ht.ev y
      have hrun : (execOp a.eval ⟨dst, .pick cc x y, ty, pos, after, guard⟩).run P c.w = .ok (.value (if t then a.eval x else a.eval y)) c.w := by
        simp [execOp, hcv, asBool]
      split at h
      · rename_i bx by_ ex ey
        rw [ex] at hx; rw [ey] at hy
        have hx := vr_bool hx
        have hy := vr_bool hy
        refine same _ _ h ?_ hrun
        cases t
        · show (if false = true then a.eval x else a.eval y) = .bool (bif false then bx else by_)
          simp [hy]
        · show (if true = true then a.eval x else a.eval y) = .bool (bif true then bx else by_)
          simp [hx]
      · cases t with
        | true => exact same _ _ h (by simpa using hx) hrun
        | false => exact same _ _ h (by simpa using hy) hrun
    · cases h
  · -- binOp
    rename_i op' t x y yt hop
    simp only at hop; subst hop
    rw [hσ] at h
    obtain ⟨v, z, h1, h2, h3⟩ := bin_ok (P := P) (t := t) (ox := x) (oy := y) h (ht.ev x) (ht.ev y) (fun hb => by
      unfold descOf at hb
      split at hb
      · rename_i hd
        split at hd
        · rename_i i hi
          have := (hT.ok _ _ hi).1
          rw [hd] at this; exact this
        · cases hd
      · cases hb)
    refine same v z h1 h2 ?_
    show (do let x ← (do eqGuard op' t x y (a.eval x) (a.eval y); binOp op' t (a.eval x) (a.eval y) : Sem Value); pure (Next.value x) : Sem Next).run P c.w = _
    rw [Sem.run_bind, h3]; rfl
  · -- unOp
    rename_i op' t x hop
    simp only at hop; subst hop
    rw [hσ] at h
    obtain ⟨v, z, h1, h2, h3⟩ := un_ok (P := P) h (ht.ev x)
    exact same v z h1 h2 (by simp only [execOp, Sem.run_bind, h3, Result.andThen_ok, Sem.run_pure])
  · -- convert
    rename_i s d x hop
    simp only at hop; subst hop
    rw [hσ] at h
    split at h
    · rename_i e sz by_ z sz2 by2 z2 hts htd
      split at h
      · rename_i sz3 by3 z3 hte
        obtain ⟨u1, _⟩ := hT.ok _ _ hts
        obtain ⟨u2, _⟩ := hT.ok _ _ htd
        obtain ⟨u3, _⟩ := hT.ok _ _ hte
        obtain ⟨v, z, h1, h2, h3⟩ := toStr_ok (P := P) hr u1 u3 u2 h (ht.ev x)
        exact same v z h1 h2 (by simp only [execOp, Sem.run_bind, h3, Result.andThen_ok, Sem.run_pure])
      · cases h
    · obtain ⟨v, z, h1, h2, h3⟩ := conv_ok hT h (ht.ev x)
      exact same v z h1 h2 (by simp only [execOp, Sem.run_bind, h3, Result.andThen_ok, Sem.run_pure])
  · -- a byte of a text
    rename_i t x i hop
    simp only at hop; subst hop
    rw [hσ] at h
    split at h
    · rename_i sz by_ z ht0
      obtain ⟨u1, _⟩ := hT.ok _ _ ht0
      obtain ⟨v, z, h1, h2, h3⟩ := idxStr_ok (P := P) u1 h (ht.ev x) (ht.ev i)
      exact same v z h1 h2 (by simp only [execOp, Sem.run_bind, h3, Result.andThen_ok, Sem.run_pure])
    · cases h
  · -- extract
    rename_i t i hop
    simp only at hop; subst hop
    rw [hσ] at h
    split at h
    · rename_i vs hv
      obtain ⟨h1, h2⟩ := bif_some h
      have h1' : i < vs.length := of_decide_eq_true h1
      have hx := ht.ev t
      rw [hv] at hx
      obtain ⟨cs, e, hs, hall⟩ := hx
      refine same _ (cs.getD i undef) h2 (hall i h1').vr ?_
      have hlt : i < cs.size := by omega
      simp [execOp, e, Instr.extract, hlt]
    · cases h
  · -- nilCheck
    rename_i x hop
    simp only at hop; subst hop
    rw [hσ] at h
    split at h
    · rename_i id off hv
      have hx := ht.ev x
      rw [hv] at hx
      obtain ⟨hid, g, hg, e⟩ := (show VR0 c (.ptr id off) (a.eval x) from hx)
      exact same _ (a.eval x) h hx (by simp [execOp, e])
    · cases h
  · -- indexAddr
    rename_i t x i hop
    simp only at hop; subst hop
    rw [hσ] at h
    split at h
    · rename_i n e sz by_ z ht0
      split at h
      · rename_i d' by2 z' he
        split at h
        · rename_i id off kk k hx0 hi0
          obtain ⟨hk, h⟩ := bif_some h
          have hx := ht.ev x
          have hi := ht.ev i
          rw [hx0] at hx
          rw [hi0] at hi
          obtain ⟨hid, g, hg, e1⟩ := (show VR0 c (.ptr id off) (a.eval x) from hx)
          have e2 := vr_int hi
          obtain ⟨u1, _⟩ := hT.ok _ _ ht0
          obtain ⟨_, fi, hfi, hfs, _⟩ := hT.ok _ _ he
          simp only [idxOk, Bool.and_eq_true, decide_eq_true_eq] at hk
          refine same _ (.pointer (some ⟨g, off + k.toNat, none⟩)) h ⟨hid, hk, g, hg, rfl⟩ ?_
          have hfs1 : fi.size = 1 := hfs
          simp [execOp, Instr.indexAt, asIntOf, asInt, e1, e2, run_underlying u1, Instr.sureAddr, sizeOf, typeInfo, hfi, hfs1, hk.1, hk.2, add_none]
        · cases h
      · cases h
    · rename_i e sz by_ z ht0
      split at h
      · rename_i d' by2 z' he
        obtain ⟨v, z, h1, h2, h3⟩ := idx_ok hT hr ht0 rfl he rfl h (ht.ev x) (ht.ev i)
        exact same v z h1 h2 (by simp only [execOp, Sem.run_bind, h3, Result.andThen_ok, Sem.run_pure])
      · cases h
    · cases h
  · -- fieldAddr
    rename_i t x f hop
    simp only at hop; subst hop
    rw [hσ] at h
    split at h
    · rename_i fs sz by_ z id off htd hv
      split at h
      · rename_i fd hfd
        split at h
        · rename_i d' n' by2 z' hfd2
          have hx := ht.ev x
          rw [hv] at hx
          obtain ⟨hid, g, hg, e⟩ := (show VR0 c (.ptr id off) (a.eval x) from hx)
          obtain ⟨u1, _⟩ := hT.ok _ _ htd
          obtain ⟨_, fi, hfi, hfs, _⟩ := hT.ok _ _ hfd2
          refine same _ (.pointer (some ⟨g, off + fd.offset, none⟩)) h ⟨hid, g, hg, rfl⟩ ?_
          have hne : ¬ fi.size = 0 := by simp at hfs; omega
          simp [execOp, Instr.fieldAt, run_underlying u1, hfd, Instr.sureAddr, e, fieldPlace, sizeOf, typeInfo, hfi, hne, add_none]
        · cases h
      · cases h
    · cases h
  · -- load
    rename_i t p hop
    simp only at hop; subst hop
    rw [hσ] at h
    split at h
    · rename_i fs n by_ z htd
      obtain ⟨u1, fi, hfi, hfs, _⟩ := hT.ok _ _ htd
      obtain ⟨v, z, e1, e2, e3⟩ := loadAgg_ok (P := P) hr u1 hfi hfs h (ht.ev p)
      exact same v z e1 e2 (by simp only [execOp, Sem.run_bind, e3, Result.andThen_ok, Sem.run_pure])
    · rename_i m e n by_ z htd
      obtain ⟨u1, fi, hfi, hfs, _⟩ := hT.ok _ _ htd
      obtain ⟨v, z, e1, e2, e3⟩ := loadArr_ok (P := P) hr u1 hfi hfs h (ht.ev p)
      exact same v z e1 e2 (by simp only [execOp, Sem.run_bind, e3, Result.andThen_ok, Sem.run_pure])
    · rename_i i hi h1 h2
      obtain ⟨u1, _⟩ := hT.ok _ _ ‹TD t = some i›
      obtain ⟨v, z, e1, e2, e3⟩ := load_ok (P := P) hr u1 ⟨fun fs e => by obtain ⟨d, s, b, z⟩ := i; simp only at e; subst e; exact hi _ _ _ _ rfl, fun n e' e => by obtain ⟨d, s, b, z⟩ := i; simp only at e; subst e; exact h1 _ _ _ _ _ rfl⟩ h (ht.ev p)
      exact same v z e1 e2 (by simp only [execOp, Sem.run_bind, e3, Result.andThen_ok, Sem.run_pure])
    · cases h
  · -- store
    rename_i t p x hop
    simp only at hop; subst hop
    rw [hσ] at h
    split at h
    · rename_i fs n by_ z htd
      obtain ⟨_, fi, hfi, hfs, _⟩ := hT.ok _ _ htd
      obtain ⟨c', e1, e2, e3, e4⟩ := storeAgg_ok (P := P) hr hfi hfs h (ht.ev p) (ht.ev x)
      exact wp_skp (by simp only [execOp, Sem.run_bind, e4, Result.andThen_ok, Sem.run_pure]) (hN .junk c' undef e1 e2 e3 trivial)
    · rename_i d by_ z hns htd
      obtain ⟨_, fi, hfi, hfs, _⟩ := hT.ok _ _ htd
      have key : (σ.ev x).flat = true → storeF (σ.ev p) (σ.ev x) c.h (fun h => κ .junk h) = some r → (⟨dst, .store t p x, ty, pos, after, guard⟩ : Oper).wp P a c.w N Q := by
        intro hfl hst
        obtain ⟨c', e1, e2, e3, e4⟩ := storeF_ok (P := P) hr hfi hfs hfl hst (ht.ev p) (ht.ev x)
        exact wp_skp (by simp only [execOp, Sem.run_bind, e4, Result.andThen_ok, Sem.run_pure]) (hN .junk c' undef e1 e2 e3 trivial)
      split at h
      · cases h
      · cases h
      · cases h
      · rename_i n1 n2 n3
        refine key ?_ h
        cases hv : σ.ev x <;> first | rfl | exact absurd hv (n1 _) | exact absurd hv (n2 _) | exact absurd hv n3
    · cases h
  · -- slice
    rename_i t x lo hi hop
    simp only at hop; subst hop
    rw [hσ] at h
    split at h
    · rename_i e sz by_ z ht0
      split at h
      · rename_i d' by2 z' he
        obtain ⟨u1, _⟩ := hT.ok _ _ ht0
        obtain ⟨_, fi, hfi, hfs, _⟩ := hT.ok _ _ he
        obtain ⟨v, z, h1, h2, h3⟩ := slice_ok (P := P) hr u1 hfi hfs (ht.opt lo) (ht.opt hi) h (ht.ev x)
        exact same v z h1 h2 (by simp only [execOp, Option.map_none, Sem.run_bind, h3, Result.andThen_ok, Sem.run_pure])
      · cases h
    · rename_i sz by_ z ht0
      obtain ⟨u1, _⟩ := hT.ok _ _ ht0
      obtain ⟨v, z, h1, h2, h3⟩ := sliceStr_ok (P := P) u1 (ht.opt lo) (ht.opt hi) h (ht.ev x)
      exact same v z h1 h2 (by simp only [execOp, Option.map_none, Sem.run_bind, h3, Result.andThen_ok, Sem.run_pure])
    · cases h
  · -- buildSlice
    rename_i t n parts hop
    simp only at hop; subst hop
    rw [hσ] at h
    split at h
    · rename_i e sz by_ z ht0
      split at h
      · rename_i d by2 ze he
        obtain ⟨hc, h⟩ := bif_some h
        simp only [Bool.and_eq_true, decide_eq_true_eq] at hc
        obtain ⟨⟨⟨hc1, hc2⟩, hc3⟩, hc4⟩ := hc
        have hsz : parts.size = n := Nat.eq_of_beq_eq_true hc1
        obtain ⟨u1, _⟩ := hT.ok _ _ ht0
        obtain ⟨_, fi, hfi, hfs, hfb, hfz⟩ := hT.ok _ _ he
        have hzs : ze.cells.size = 1 := by cases ze <;> first | rfl | (simp [notAgg] at hc4)
        have hlen : (parts.toList.map fun p => σ.ev p.2).length = n := by simp [hsz]
        have hargs := ht.args (parts.toList.map (·.2))
        simp only [List.map_map] at hargs
        have hargs : ArgsR c (parts.toList.map fun p => σ.ev p.2) (parts.toList.map fun p => a.eval p.2) := hargs
        split at h
        · rename_i l hl
          obtain ⟨h1, h2⟩ := rowOf_ok hl
          rw [hlen] at h1 h2
          obtain ⟨c', x, e1, e2, e3, e4, e5⟩ := buildSlice_ok (P := P) hr u1 hfi hfs hfz hzs hc3 ht hsz hc2 h1
            (fun j hj x hx => by
              have := (atom_of_vr (h2 j hj) hx).2
              cases x <;> first | rfl | (simp [Value.oneCell'] at this)) (c1 := c) rfl hr (Ext.refl c)
            (fun j hj c' hE => hE.atom (atom_of_vr (h2 j hj) (hargs.2 j (by omega))).1)
          exact wp_val (by simp only [execOp, Sem.run_bind, e5, Result.andThen_ok, Sem.run_pure]) (hN _ c' x (by rw [e1]; exact h) e2 e3 e4)
        · split at h
          · split at h
            · rename_i xs h' hfr
              obtain ⟨c1, e1, e2, hE1, hR1, hxl, hrow⟩ := freeze_ok _ c _ _ _ hr hargs hfr
              rw [hlen] at hxl hrow
              obtain ⟨c', x, f1, f2, f3, f4, f5⟩ := buildSlice_ok (P := P) hr u1 hfi hfs hfz hzs hc3 ht hsz hc2 (l := .rows xs) hxl
                (fun j hj x hx => by
                  have hj' : j < parts.toList.length := by simpa [hsz] using hj
                  have hv : (parts.toList.map fun p => σ.ev p.2).getD j .junk = σ.ev parts.toList[j].2 := by
                    have hj2 : j < parts.size := by omega
                    simp [List.getD, hj2]
                  have hflat := freeze_flat _ _ _ _ hfr j (by omega)
                  exact (flat_one hr hflat hx).2.2) e2 hR1 hE1
                (fun j hj c' hE => hE.rowV (hrow j hj))
              exact wp_val (by simp only [execOp, Sem.run_bind, f5, Result.andThen_ok, Sem.run_pure]) (hN _ c' x (by rw [f1, e1]; exact h) f2 f3 (by rw [← e1]; exact f4))
            · cases h
          · cases h
      · cases h
    · cases h
  · -- makeSlice
    rename_i t l cp hop
    simp only at hop; subst hop
    rw [hσ] at h
    split at h
    · rename_i e sz by_ z n ht0 hn
      split at h
      · rename_i d b ze he
        obtain ⟨hc, h⟩ := bif_some h
        simp only [Bool.and_eq_true, decide_eq_true_eq] at hc
        obtain ⟨⟨⟨⟨hc1, hc2⟩, hc3⟩, hc4⟩, hc5⟩ := hc
        obtain ⟨u1, _⟩ := hT.ok _ _ ht0
        obtain ⟨_, fi, hfi, hfs, hfb, hfz⟩ := hT.ok _ _ he
        have hx := ht.ev l
        rw [hn] at hx
        have hx := vr_int hx
        obtain ⟨kc, hcx⟩ := same_operand hc1 hx
        obtain ⟨m, rfl⟩ := Int.eq_ofNat_of_zero_le hc3
        split at h
        · rename_i l hl
          obtain ⟨c', x, e1, e2, e3, e4, e5⟩ := make_ok (P := P) hr u1 hfi hfs (by rw [hfb]; exact hc2) hfz hc5 (n := m) (l := l) (by simpa using hl) (by have := of_decide_eq_true hc4; simpa using this) (kl := .i64) (kc := kc)
          exact wp_val (by simp only [execOp, hx, hcx, Sem.run_bind, e5, Result.andThen_ok, Sem.run_pure]) (hN _ c' x (by rw [e1]; exact h) e2 e3 e4)
        · cases h
      · cases h
    · cases h
  · -- box
    rename_i t x hop
    simp only at hop; subst hop
    rw [hσ] at h
    have hx := ht.ev x
    have one : (σ.ev x).flat = true → κ (.ptr c.h.length 0) (c.h ++ [.cells [σ.ev x]]) = some r → (⟨dst, .box t x, ty, pos, after, guard⟩ : Oper).wp P a c.w N Q := by
      intro hfl hk
      obtain ⟨hv0, _, hcells⟩ := flat_one hr hfl hx
      obtain ⟨hE, hR, hV⟩ := push_cells hr (vs := [σ.ev x]) (xs := #[a.eval x]) rfl (fun j hj => by
        have : j = 0 := by simpa using hj
        subst this; simpa using hv0) t
      exact wp_val (w' := c.w.alloc (.cells #[a.eval x] t)) (by simp [execOp, Instr.box, newVar, newRow, hcells]) (hN _ _ _ hk hE hR hV)
    split at h
    · rename_i vs hv
      obtain ⟨h1, h2⟩ := bif_some h
      rw [hv] at hx
      obtain ⟨cs, e, hs, hall⟩ := (show VR1 c (.agg vs) (a.eval x) from hx)
      obtain ⟨hE, hR, hV⟩ := push_cells hr (vs := vs) (xs := cs) hs hall t
      exact wp_val (w' := c.w.alloc (.cells cs t)) (by simp [execOp, Instr.box, newVar, newRow, e, Value.cells]) (hN _ _ _ h2 hE hR hV)
    · cases h
    · cases h
    · rename_i n1 n2 n3
      refine one ?_ h
      cases hv : σ.ev x <;> first | rfl | exact absurd hv (n1 _) | exact absurd hv (n2 _) | exact absurd hv n3
  · -- build
    rename_i t parts hop
    simp only at hop; subst hop
    rw [hσ] at h
    split at h
    · rename_i fs sz by_ z ht0
      split at h
      · rename_i zs hz
        cases hcc : buildOk TD fs parts zs.length σ.ev with
        | true =>
          rw [hcc, cond_true] at h
          have hc := hcc
          simp only [buildOk, Bool.and_eq_true] at hc
          obtain ⟨hc1, hc2⟩ := hc
          obtain ⟨u1, fi, hfi, hfs, hfb, hfz⟩ := hT.ok _ _ ht0
          obtain ⟨cs, rfl, rfl⟩ := ofZero_agg hz
          have hsize : ∀ f ∈ fs.toList, ∃ g, P.info? f.type = some g ∧ g.size = (match TD f.type with | some i => i.size | none => 0) := fun f hf => by
            have := (Array.all_eq_true_iff_forall_mem.1 hc1) f (by simpa using hf)
            cases hi : TD f.type with
            | none => rw [hi] at this; cases this
            | some i =>
              obtain ⟨_, g, h1, h2, _⟩ := hT.ok _ _ hi
              exact ⟨g, h1, h2⟩
          have hpart : ∀ p ∈ parts.toList, ∃ fd, fs[p.1]? = some fd ∧ (match TD fd.type with | some i => i.size | none => 0) = 1 ∧ fd.offset < cs.size ∧ (σ.ev p.2).flat = true := fun p hp => by
            have := (Array.all_eq_true_iff_forall_mem.1 hc2) p (by simpa using hp)
            cases hfd : fs[p.1]? with
            | none => rw [hfd] at this; cases this
            | some fd =>
              rw [hfd] at this
              simp only [Bool.and_eq_true, decide_eq_true_eq, List.length_map, Array.length_toList] at this
              obtain ⟨⟨h1, h2⟩, h3⟩ := this
              obtain ⟨ti, hi1, hi2⟩ := size_one h1
              exact ⟨fd, rfl, by rw [hi1]; exact hi2, h2, h3⟩
          have hrun := run_build (P := P) (w := c.w) (ps := parts.map fun (i, x) => (i, a.eval x)) (size := fun t => match TD t with | some i => i.size | none => 0) u1 hfi hfz hsize (fun p hp => by
            simp only [Array.toList_map, List.mem_map] at hp
            obtain ⟨q, hq, rfl⟩ := hp
            obtain ⟨fd, h1, h2, h3, h4⟩ := hpart q hq
            exact ⟨fd, h1, h2, h3, (flat_one hr h4 (ht.ev q.2)).2.2⟩)
          have hrun' : (execOp a.eval ⟨dst, .build t parts, ty, pos, after, guard⟩).run P c.w = .ok (.value (.agg ((parts.map fun (i, x) => (i, a.eval x)).toList.foldl (fun acc p => match fs[p.1]? with | some fd => acc.setIfInBounds fd.offset p.2 | none => acc) cs))) c.w := by
            show (do let v ← Instr.build t (parts.map fun (i, x) => (i, a.eval x)); pure (Next.value v) : Sem Next).run P c.w = _
            rw [Sem.run_bind, hrun]; rfl
          refine same _ _ h ?_ hrun'
          -- the fields belong together
          have key : ∀ (ps : List (Nat × Operand)) (vs : List V) (xs : Array Value), (∀ p ∈ ps, (σ.ev p.2).flat = true) → xs.size = vs.length → (∀ j, j < vs.length → VR0 c (vs.getD j .junk) (xs.getD j undef)) →
              VR c (.agg (ps.foldl (fun acc p => match fs[p.1]? with | some fd => acc.set fd.offset (σ.ev p.2) | none => acc) vs))
                (.agg ((ps.map fun p => (p.1, a.eval p.2)).foldl (fun acc p => match fs[p.1]? with | some fd => acc.setIfInBounds fd.offset p.2 | none => acc) xs)) := by
            intro ps
            induction ps with
            | nil => intro vs xs _ h1 h2; exact ⟨xs, rfl, h1, h2⟩
            | cons p ps ih =>
              intro vs xs h0 h1 h2
              simp only [List.foldl_cons, List.map_cons]
              have h0' : ∀ q ∈ ps, (σ.ev q.2).flat = true := fun q hq => h0 q (by simp [hq])
              cases hfd : fs[p.1]? with
              | none => exact ih _ _ h0' h1 h2
              | some fd =>
                refine ih _ _ h0' (by simpa using h1) (fun j hj => ?_)
                have hj' : j < vs.length := by simpa using hj
                have hv := (flat_one hr (h0 p (by simp)) (ht.ev p.2)).1
                by_cases hjo : fd.offset = j
                · subst hjo
                  have e1 : (vs.set fd.offset (σ.ev p.2)).getD fd.offset .junk = σ.ev p.2 := by simp [List.getD, hj']
                  have e2 : (xs.setIfInBounds fd.offset (a.eval p.2)).getD fd.offset undef = a.eval p.2 := by
                    have : fd.offset < xs.size := by omega
                    simp [this]
                  rw [e1, e2]; exact hv
                · have e1 : (vs.set fd.offset (σ.ev p.2)).getD j .junk = vs.getD j .junk := by simp [List.getD, hjo]
                  have e2 : (xs.setIfInBounds fd.offset (a.eval p.2)).getD j undef = xs.getD j undef := by simp [Array.getElem?_setIfInBounds_ne hjo]
                  rw [e1, e2]; exact h2 j hj'
          have hl : (parts.map fun (i, x) => (i, a.eval x)).toList = parts.toList.map fun p => (p.1, a.eval p.2) := by simp
          rw [hl]
          exact key parts.toList _ _ (fun p hp => (hpart p hp).choose_spec.2.2.2) (by simp) (fun j hj => by
            have hj' : j < cs.size := by simpa using hj
            have e1 : (cs.toList.map ofConst).getD j .junk = ofConst cs[j] := by simp [List.getD, hj']
            have e2 : cs.getD j undef = cs[j] := by simp [hj']
            rw [e1, e2]; exact vr0_const c _)
        | false =>
          rw [hcc, cond_false] at h
          unfold buildA at h
          split at h
          · rename_i p hps
            split at h
            · rename_i fd ws hfd hws
              obtain ⟨hc, h⟩ := bif_some h
              simp only [Bool.and_eq_true, decide_eq_true_eq] at hc
              obtain ⟨⟨hc1, hc2⟩, hc3⟩ := hc
              obtain ⟨u1, fi, hfi, hfs, hfb, hfz⟩ := hT.ok _ _ ht0
              obtain ⟨cs, rfl, rfl⟩ := ofZero_agg hz
              have hsize : ∀ f ∈ fs.toList, ∃ g, P.info? f.type = some g ∧ g.size = (match TD f.type with | some i => i.size | none => 0) := fun f hf => by
                have := (Array.all_eq_true_iff_forall_mem.1 hc1) f (by simpa using hf)
                cases hi : TD f.type with
                | none => rw [hi] at this; cases this
                | some i =>
                  obtain ⟨_, g, h1, h2, _⟩ := hT.ok _ _ hi
                  exact ⟨g, h1, h2⟩
              have hx := ht.ev p.2
              rw [hws] at hx
              obtain ⟨xs, hxe, hxs, hxa⟩ := (show VR1 c (.agg ws) (a.eval p.2) from hx)
              have hsz : (match TD fd.type with | some i => i.size | none => 0) = xs.size := by
                unfold sizeIs at hc2
                cases hi : TD fd.type with
                | none => rw [hi] at hc2; cases hc2
                | some i => rw [hi] at hc2; rw [hxs]; exact Nat.eq_of_beq_eq_true hc2
              have hpa : parts.map (fun (i, x) => (i, a.eval x)) = #[(p.1, Value.agg xs)] := by
                apply Array.ext'
                simp [hps, hxe]
              have hlen : (cs.toList.map ofConst).length = cs.size := by simp
              have hrun := run_buildA (P := P) (w := c.w) (size := fun t => match TD t with | some i => i.size | none => 0) u1 hfi hfz hsize hfd hsz (by omega)
              refine same _ (.agg (cs.toList.take fd.offset ++ (xs.toList ++ cs.toList.drop (fd.offset + xs.size))).toArray) h ⟨_, rfl, ?_, fun j hj => ?_⟩ ?_
              · simp only [List.size_toArray, List.length_append, List.length_take, List.length_drop, List.length_map, Array.length_toList]; omega
              · have hx6 : ∀ (l1 l2 l3 : List V) (m1 m2 m3 : List Value), l1.length = m1.length → l2.length = m2.length → (∀ j, j < l1.length → VR0 c (l1.getD j .junk) (m1.getD j undef)) → (∀ j, j < l2.length → VR0 c (l2.getD j .junk) (m2.getD j undef)) → (∀ j, j < l3.length → VR0 c (l3.getD j .junk) (m3.getD j undef)) → ∀ j, j < (l1 ++ (l2 ++ l3)).length → VR0 c ((l1 ++ (l2 ++ l3)).getD j .junk) ((m1 ++ (m2 ++ m3)).getD j undef) := by
                  intro l1 l2 l3 m1 m2 m3 e1 e2 a1 a2 a3 j hj
                  simp only [List.getD_eq_getElem?_getD] at a1 a2 a3 ⊢
                  by_cases h1 : j < l1.length
                  · rw [List.getElem?_append_left (l₁ := l1) h1, List.getElem?_append_left (l₁ := m1) (by omega)]; exact a1 j h1
                  · rw [List.getElem?_append_right (l₁ := l1) (by omega), List.getElem?_append_right (l₁ := m1) (by omega), e1]
                    by_cases h2 : j - m1.length < l2.length
                    · rw [List.getElem?_append_left (l₁ := l2) h2, List.getElem?_append_left (l₁ := m2) (by omega)]; exact a2 _ h2
                    · rw [List.getElem?_append_right (l₁ := l2) (by omega), List.getElem?_append_right (l₁ := m2) (by omega), e2]
                      simp only [List.length_append] at hj
                      exact a3 _ (by omega)
                have hcst : ∀ j, j < cs.size → VR0 c ((cs.toList.map ofConst).getD j .junk) (cs.toList.getD j undef) := fun j hj => by
                  have e1 : (cs.toList.map ofConst).getD j .junk = ofConst cs[j] := by simp [List.getD, hj]
                  have e2 : cs.toList.getD j undef = cs[j] := by simp [List.getD, hj]
                  rw [e1, e2]; exact vr0_const c _
                have := hx6 ((cs.toList.map ofConst).take fd.offset) ws ((cs.toList.map ofConst).drop (fd.offset + ws.length)) (cs.toList.take fd.offset) xs.toList (cs.toList.drop (fd.offset + xs.size)) (by simp) (by simp [hxs]) (fun j hj => ?_) (fun j hj => ?_) (fun j hj => ?_) j hj
                · simpa [Array.getD_eq_getD_getElem?, List.getD_eq_getElem?_getD] using this
                · simp only [List.length_take, List.length_map, Array.length_toList] at hj
                  simp only [List.getD_eq_getElem?_getD, List.getElem?_take, show j < fd.offset by omega, if_true]
                  simpa only [List.getD_eq_getElem?_getD] using hcst j (by omega)
                · have := hxa j hj
                  simpa [Array.getD_eq_getD_getElem?, List.getD_eq_getElem?_getD] using this
                · simp only [List.length_drop, List.length_map, Array.length_toList] at hj
                  simp only [List.getD_eq_getElem?_getD, List.getElem?_drop, hxs]
                  simpa only [List.getD_eq_getElem?_getD] using hcst (fd.offset + ws.length + j) (by omega)
              · show (do let v ← Instr.build t (parts.map fun (i, x) => (i, a.eval x)); pure (Next.value v) : Sem Next).run P c.w = _
                rw [hpa, Sem.run_bind, hrun]; rfl
            · cases h
          · cases h
      · cases h
    · cases h
  · -- alloc
    rename_i t hop
    simp only at hop; subst hop
    rw [hσ] at h
    split at h
    · rename_i d sz by_ z htd
      obtain ⟨_, fi, hfi, hfs, hfb, hfz⟩ := hT.ok _ _ htd
      have hrun : ∀ cs : Array Value, z.cells = cs → (execOp a.eval ⟨dst, .alloc t, ty, pos, after, guard⟩).run P c.w = .ok (.value (.pointer (some ⟨c.w.heap.size, 0, none⟩))) (c.w.alloc (.cells cs t)) := by
        intro cs hcs
        have hz : (zeroValue t).run P c.w = .ok z c.w := by simp [zeroValue, typeInfo, hfi, hfz]
        simp [execOp, Instr.alloc, hz, newVar, newRow, hcs]
      split at h
      · rename_i vs hz
        obtain ⟨h1, h2⟩ := bif_some h
        obtain ⟨cs, rfl, rfl⟩ := ofZero_agg hz
        obtain ⟨hE, hR, hV⟩ := push_cells hr (vs := cs.toList.map ofConst) (xs := cs) (by simp) (fun j hj => by
          have hj' : j < cs.size := by simpa using hj
          have e1 : (cs.toList.map ofConst).getD j .junk = ofConst cs[j] := by simp [List.getD, hj']
          have e2 : cs.getD j undef = cs[j] := by simp [hj']
          rw [e1, e2]; exact vr0_const c _) t
        exact wp_val (w' := c.w.alloc (.cells cs t)) (hrun cs rfl) (hN _ _ _ h2 hE hR hV)
      · cases h
      · cases h
      · rename_i n1 n2 n3
        have hzc : ofZero z = ofConst z := by
          cases z <;> first | rfl | exact absurd rfl (n1 _)
        have hfl : (ofZero z).flat = true := by
          cases hv : ofZero z <;> first | rfl | exact absurd hv (n1 _) | exact absurd hv (n2 _) | exact absurd hv n3
        have hx : VR c (ofZero z) z := by rw [hzc]; exact vr_const c z
        obtain ⟨hv0, _, hcells⟩ := flat_one hr hfl hx
        obtain ⟨hE, hR, hV⟩ := push_cells hr (vs := [ofZero z]) (xs := #[z]) rfl (fun j hj => by
          have : j = 0 := by simpa using hj
          subst this; simpa using hv0) t
        exact wp_val (w' := c.w.alloc (.cells #[z] t)) (hrun #[z] hcells) (hN _ _ _ h hE hR hV)
    · cases h
  · -- field
    rename_i t x f hop
    simp only at hop; subst hop
    rw [hσ] at h
    split at h
    · rename_i fs sz by_ z vs htd hv
      split at h
      · rename_i fd hfd
        split at h
        · cases h
        · cases h
        · rename_i i n1 n2 hfd2
          obtain ⟨h1, h2⟩ := bif_some h
          have h1' : fd.offset < vs.length := of_decide_eq_true h1
          have hx := ht.ev x
          rw [hv] at hx
          obtain ⟨cs, e, hs, hall⟩ := (show VR1 c (.agg vs) (a.eval x) from hx)
          obtain ⟨u1, _⟩ := hT.ok _ _ htd
          obtain ⟨u2, _⟩ := hT.ok _ _ hfd2
          refine same _ (cs.getD fd.offset undef) h2 (hall _ h1').vr ?_
          have hagg : (isAgg fd.type).run P c.w = .ok false c.w := by
            obtain ⟨d, s, b, z⟩ := i
            simp only at u2
            simp only [isAgg, Sem.run_bind, run_underlying u2, Result.andThen_ok]
            cases d <;> first | rfl | exact (n1 _ _ _ _ rfl).elim | exact (n2 _ _ _ _ _ rfl).elim
          have hlt : fd.offset < cs.size := by omega
          simp [execOp, Instr.field, run_underlying u1, hfd, e, asAgg, part, hagg, hlt]
        · cases h
      · cases h
    · cases h
  · -- call
    rename_i cl hop
    simp only at hop; subst hop
    rw [hσ] at h
    obtain ⟨callee, cargs, cats⟩ := cl
    simp only at h
    split at h
    · -- len
      split at h
      · rename_i x t hx1 ht1
        have ea : cargs = #[x] := Array.toList_inj.1 hx1
        have et : cats = #[t] := Array.toList_inj.1 ht1
        subst ea; subst et
        split at h
        · rename_i e sz by_ z ht0
          obtain ⟨u1, _⟩ := hT.ok _ _ ht0
          obtain ⟨v, z, h1, h2, h3⟩ := len_ok (P := P) (ty := ty) hr u1 h (ht.ev x)
          refine same v z h1 h2 ?_
          simp only [execOp, resolve, invoke, builtin, Sem.run_bind, Sem.run_pure, Result.andThen_ok, List.map_toArray, List.map_cons, List.map_nil, h3]
        · rename_i sz by_ z ht0
          obtain ⟨u1, _⟩ := hT.ok _ _ ht0
          obtain ⟨v, z, h1, h2, h3⟩ := lenStr_ok (P := P) (ty := ty) u1 h (ht.ev x)
          refine same v z h1 h2 ?_
          simp only [execOp, resolve, invoke, builtin, Sem.run_bind, Sem.run_pure, Result.andThen_ok, List.map_toArray, List.map_cons, List.map_nil, h3]
        · cases h
      · cases h
    · -- min
      split at h
      · rename_i x rest hxs
        have hargs := ht.args cargs.toList
        rw [hxs] at hargs
        obtain ⟨y, ys, hy, hxy, hrest⟩ := hargs.tail
        obtain ⟨v, z, h1, h2, h3⟩ := minmax_ok (P := P) (mx := false) rest x y ys h hxy hrest
        refine same v z h1 h2 ?_
        have hl : (cargs.map a.eval).toList = y :: ys := by rw [← hy]; simp
        simp only [Bool.false_eq_true, if_false] at h3
        simp only [execOp, resolve, invoke, builtin, Builtin.min_, hl, Sem.run_bind, Sem.run_pure, Result.andThen_ok, h3]
      · cases h
    · -- max
      split at h
      · rename_i x rest hxs
        have hargs := ht.args cargs.toList
        rw [hxs] at hargs
        obtain ⟨y, ys, hy, hxy, hrest⟩ := hargs.tail
        obtain ⟨v, z, h1, h2, h3⟩ := minmax_ok (P := P) (mx := true) rest x y ys h hxy hrest
        refine same v z h1 h2 ?_
        have hl : (cargs.map a.eval).toList = y :: ys := by rw [← hy]; simp
        simp only [if_true] at h3
        simp only [execOp, resolve, invoke, builtin, Builtin.max_, hl, Sem.run_bind, Sem.run_pure, Result.andThen_ok, h3]
      · cases h
    · -- append
      split at h
      · rename_i s x t u hx1 ht1
        have ea : cargs = #[s, x] := Array.toList_inj.1 hx1
        have et : cats = #[t, u] := Array.toList_inj.1 ht1
        subst ea; subst et
        have hh := bif_some h
        clear h
        obtain ⟨htu, h⟩ := hh
        have htu := Nat.eq_of_beq_eq_true htu
        subst htu
        split at h
        · rename_i e sz by_ z ht0
          split at h
          · rename_i d b ze he
            obtain ⟨hc, h⟩ := bif_some h
            simp only [Bool.and_eq_true, decide_eq_true_eq] at hc
            obtain ⟨u1, _⟩ := hT.ok _ _ ht0
            obtain ⟨_, fi, hfi, hfs, hfb, hfz⟩ := hT.ok _ _ he
            have hzs : ze.cells.size = 1 := by cases ze <;> first | rfl | (simp [notAgg] at hc)
            obtain ⟨v, c', y, h1, h2, h3, h4, h5⟩ := app_ok (P := P) (ty := ty) hr u1 hfi hfz hfs (by rw [hfb]; exact hc.1) hzs h (ht.ev s) (ht.ev x)
            refine wp_val (w' := c'.w) ?_ (hN v c' y h1 h2 h3 h4)
            simp only [execOp, resolve, invoke, builtin, Sem.run_bind, Sem.run_pure, Result.andThen_ok, List.map_toArray, List.map_cons, List.map_nil, h5]
          · cases h
        · cases h
      · cases h
    · -- a function
      rename_i f
      obtain ⟨fn, hf, hb, hn⟩ := hK.fn _ _ _ _ _ h
      have hcalls := hK.ok _ _ _ _ _ h c (cargs.map a.eval) rfl hr (by simpa using ht.args cargs.toList)
      unfold Oper.wp
      have hrun : (execOp a.eval ⟨dst, .call ⟨.value (.func f), cargs, cats⟩, ty, pos, after, guard⟩).run P c.w = .ok (.enter f (cargs.map a.eval)) c.w := by
        have hn' : ¬ fn.name = "runtime.NumGoroutine" := by simpa using hn
        have hb' : ¬ fn.body = none := by intro e; rw [e] at hb; cases hb
        simp [execOp, resolve, Act.eval, Deferred.ofValue, invoke, callFunc, hf, hb', hn']
      rw [hrun]
      refine hcalls.mono fun e w' ⟨x, v, c', h1, h2, h3, h4, h5, h6⟩ => ?_
      subst h1; subst h6
      exact hN v c' x h2 h3 h4 h5
    · cases h
  · cases h

end Go.Proofs.Ythcidiihfjjpdaa.D
/- Regions and code of the small machine. Conditions: those of each theorem. -/
namespace Go.Proofs.Ythcidiihfjjpdaa.D
open Go.RowKit
set_option linter.unusedVariables false
set_option linter.unusedSimpArgs false

theorem undef_not {c : Cx} {b : Bool} : ¬ VR c (.bool b) undef := by
  intro h; have := vr_bool h; cases this

theorem RelT.known {c : Cx} {σ : St} {a : Act} (h : RelT c σ a) {t : Nat} {b : Bool} (hb : getT σ.t t = .bool b) : RelT c (σ.put (some t) (.bool b)) a ∧ a.tmps[t]? = some (.bool b) := by
  have h1 := h.t t
  rw [hb] at h1
  have h2 := vr_bool h1
  have h3 : a.tmps[t]? = some (.bool b) := by
    cases ht : a.tmps[t]? with
    | none => simp [ht] at h2; cases h2
    | some v => simp [ht] at h2; rw [h2]
  refine ⟨?_, h3⟩
  have hp := h.put (v := .bool b) (x := .bool b) (show VR c _ _ from rfl) (some t)
  have : a.put (some t) (.bool b) = a := by
    show ({ a with tmps := a.tmps.setIfInBounds t (.bool b) } : Act) = a
    have hlt : t < a.tmps.size := (Array.getElem?_eq_some_iff.1 h3).1
    have e : a.tmps.setIfInBounds t (.bool b) = a.tmps := by
      apply Array.ext_getElem?
      intro i
      by_cases hi : t = i
      · subst hi; simp [hlt, h3]
        have := Array.getElem?_eq_some_iff.1 h3
        exact this.2.symm
      · rw [Array.getElem?_setIfInBounds_ne hi]
    rw [e]
  rw [this] at hp
  exact hp

section
variable {P : Program} {TD : TypeId → Option TI} {K : FuncId → List V → List E → (V → List E → R) → R}

/-- What a guard says. -/
theorem guard_ok {ops : Array Oper} {c : Cx} {σ : St} {a : Act} (ht : RelT c σ a) {o : Oper} {j : Nat} {want b : Bool} {t : Nat} (hg : o.guard = some (j, want)) (hj : (ops[j]?).bind (·.dst) = some t) (hb : getT σ.t t = .bool b) :
    Region.wanted o (yielded ops a.tmps) = (b == want) := by
  obtain ⟨_, h3⟩ := ht.known hb
  unfold Region.wanted
  rw [hg]
  have : yielded ops a.tmps j = some b := by
    unfold yielded
    simp [hj, h3]
  simp [this]

theorem vr_undef {c : Cx} : VR c (.tup []) undef := ⟨#[], rfl, rfl, fun j hj => absurd hj (Nat.not_lt_zero _)⟩
theorem guard_no {ops : Array Oper} {c : Cx} {σ : St} {a : Act} (ht : RelT c σ a) {o : Oper} {j : Nat} {want : Bool} {t : Nat} (hg : o.guard = some (j, want)) (hj : (ops[j]?).bind (·.dst) = some t) (hb : getT σ.t t = .tup []) :
    Region.wanted o (yielded ops a.tmps) = false := by
  have h := ht.t t
  rw [hb] at h
  obtain ⟨cs, h1, h2, _⟩ := h
  unfold Region.wanted
  rw [hg]
  have : yielded ops a.tmps j = none := by
    unfold yielded
    rw [hj]
    simp only [Option.bind_some]
    cases hx : a.tmps[t]? with
    | none => rfl
    | some x =>
      have : a.tmps.getD t undef = x := by simp [Array.getD_eq_getD_getElem?, hx]
      rw [this] at h1
      subst h1
      rfl
  simp [this]

theorem opsC_wp (hT : TyOk P TD) (hK : KOk P K) {ops : Array Oper} {Q : Exit → Act → World → Prop} {r : V × List E} {κ : St → R} (c0 : Cx) : ∀ (is : List Nat), (∀ i ∈ is, i < ops.size) → ∀ (σ : St) (a : Act) (c : Cx),
    opsC TD K ops (is.map fun i => ops.getD i default) σ κ = some r → Ext c0 c → Rel c → RelT c σ a →
    (∀ σ' c' a', κ σ' = some r → Ext c0 c' → Rel c' → RelT c' σ' a' → Q .normal a' c'.w) → wpOps P ops Q is a c.w := by
  intro is
  induction is with
  | nil => intro _ σ a c h hE hr ht hQ; exact hQ σ c a h hE hr ht
  | cons i is ih =>
    intro hi σ a c h hE hr ht hQ
    have hlt := hi i (by simp)
    have hget : ops[i]? = some (ops.getD i default) := by simp [hlt]
    have ih' := ih (fun j hj => hi j (by simp [hj]))
    simp only [List.map_cons] at h
    generalize ops.getD i default = o at h hget
    unfold wpOps
    simp only [hget]
    -- the operation is carried out
    have run : ∀ (σ1 : St), RelT c σ1 a → opC TD K o σ1 (fun v h => opsC TD K ops (is.map fun i => ops.getD i default) (St.put { σ1 with h } o.dst v) κ) = some r →
        o.wp P a c.w (wpOps P ops Q is) Q := by
      intro σ1 ht1 h1
      refine opC_wp hT hK h1 hr ht1 (fun v c' x hk hE' hr' hv => ?_)
      exact ih' _ _ _ hk (hE.trans hE') hr' ((ht1.ext hE').put hv o.dst) hQ
    unfold opsC at h
    split at h
    · rename_i hg
      have hw : Region.wanted o (yielded ops a.tmps) = true := by unfold Region.wanted; rw [hg]
      rw [hw, if_pos rfl]
      exact .inl (run σ ht h)
    · rename_i j want hg
      split at h
      · rename_i t hj
        split at h
        · rename_i b hb
          rw [guard_ok ht hg hj hb]
          have hk := (ht.known hb).1
          cases b with
          | true =>
            rw [cond_true] at h
            cases want with
            | true => rw [cond_true] at h; rw [if_pos (by rfl)]; exact .inl (run _ hk h)
            | false =>
              rw [cond_false] at h
              rw [if_neg (by decide)]
              exact ih' _ _ _ h hE hr (hk.put vr_undef o.dst) hQ
          | false =>
            rw [cond_false] at h
            cases want with
            | true =>
              rw [cond_true] at h
              rw [if_neg (by decide)]
              exact ih' _ _ _ h hE hr (hk.put vr_undef o.dst) hQ
            | false => rw [cond_false] at h; rw [if_pos (by rfl)]; exact .inl (run _ hk h)
        · rename_i hb
          rw [guard_no ht hg hj hb, if_neg (by decide)]
          exact ih' _ _ _ h hE hr (ht.put vr_undef o.dst) hQ
        · cases h
      · cases h

/-- An exit as the model has it. -/
def X.exit_ : X → Exit
  | .normal => .normal
  | .exit id => .exit id
  | .ret => .ret

/-- A region whose order is drawn. -/
def DrawOk (P : Program) (TD : TypeId → Option TI) (K : FuncId → List V → List E → (V → List E → R) → R) (drawOk : Array Oper → Bool) : Prop :=
  ∀ (ops : Array Oper) (Q : Exit → Act → World → Prop) (r : V × List E) (κ : St → R) (c0 : Cx) (σ : St) (a : Act) (c : Cx) (id : Nat), drawOk ops = true →
    opsC TD K ops ops.toList σ κ = some r → Ext c0 c → Rel c → RelT c σ a →
    (∀ σ' c' a', κ σ' = some r → Ext c0 c' → Rel c' → RelT c' σ' a' → Q .normal a' c'.w) → (Code.region id ops true).wp P Q a c.w

theorem toList_range (ops : Array Oper) : ops.toList = (List.range ops.size).map fun i => ops.getD i default := by
  apply List.ext_getElem?
  intro j
  by_cases hj : j < ops.size
  · simp [hj]
  · simp [hj]

end

/-! What stays of a state. -/

/-- The blocks of a context under other numbers. -/
def Cx.pick (c : Cx) (ids : List Nat) : Cx := ⟨c.F, ids.map fun i => (getE c.h i).re ids, fun j => c.hv (ids.getD j 0), c.w⟩

theorem re_some {ids : List Nat} {i j : Nat} (h : reName ids i = some j) : j < ids.length ∧ ids.getD j 0 = i := by
  unfold reName at h
  have := List.idxOf?_eq_some_iff.1 h
  obtain ⟨h1, h2, _⟩ := this
  exact ⟨h1, by simp [List.getD, h1]; exact h2⟩

theorem pick_get (c : Cx) (ids : List Nat) {j : Nat} (hj : j < ids.length) : getE (c.pick ids).h j = (getE c.h (ids.getD j 0)).re ids := by
  simp [Cx.pick, getE, List.getD, hj]
theorem E.re_alive (e : E) (ids : List Nat) : (e.re ids).alive = e.alive := by cases e <;> rfl

theorem pick_U {c : Cx} {ids : List Nat} {b : Nat} (h : (c.pick ids).U b) : c.U b := by
  obtain ⟨j, ha, hb⟩ := h
  have hj : j < ids.length := by have := alive_lt ha; simpa [Cx.pick] using this
  rw [pick_get c ids hj, E.re_alive] at ha
  exact ⟨_, ha, hb⟩

theorem pick_rowV {c : Cx} {ids : List Nat} {xs : List Int} {v : Value} (h : RowV c xs v) : RowV (c.pick ids) xs v := by
  obtain ⟨a, cap, rfl, hc, h0⟩ := h
  refine ⟨a, cap, rfl, hc, ?_⟩
  rcases h0 with h0 | ⟨b, off, ha, hF, hU, hcell⟩
  · exact .inl h0
  · exact .inr ⟨b, off, ha, hF, fun hu => hU (pick_U hu), hcell⟩
theorem pick_atom {c : Cx} {ids : List Nat} {a : Atom} {v : Value} (h : AtomR c a v) : AtomR (c.pick ids) a v := by
  cases a <;> first | exact h | exact pick_rowV h
theorem pick_ro {c : Cx} {ids : List Nat} {s : Bool} {l : L} {v : Value} (h : RoR c s l v) : RoR (c.pick ids) s l v := by
  obtain ⟨a, cap, rfl, hc, h0⟩ := h
  refine ⟨a, cap, rfl, hc, ?_⟩
  rcases h0 with h0 | ⟨b, off, ha, hF, hU, hcell⟩
  · exact .inl h0
  · refine .inr ⟨b, off, ha, hF, fun hu => hU (pick_U hu), fun j hj => ?_⟩
    obtain ⟨x, hx, hxa⟩ := hcell j hj
    exact ⟨x, hx, pick_atom hxa⟩
theorem pick_vr0 {c : Cx} {ids : List Nat} {u : V} {v : Value} (h : VR0 c u v) : VR0 (c.pick ids) (u.re0 ids) v := by
  cases u with
  | own id =>
    simp only [V.re0]
    split
    · rename_i j hj
      obtain ⟨h1, h2⟩ := re_some hj
      exact ⟨by simpa [Cx.pick] using h1, by simp only [Cx.pick, h2]; exact h.2⟩
    · trivial
  | sub id o n =>
    simp only [V.re0]
    split
    · rename_i j hj
      obtain ⟨h1, h2⟩ := re_some hj
      obtain ⟨_, a, cap, rfl, hn, hg, hl⟩ := h
      refine ⟨by simpa [Cx.pick] using h1, a, cap, rfl, hn, ?_, fun l hl' => ?_⟩
      · simp only [Cx.pick, h2]; exact hg
      · rw [pick_get c ids h1, h2] at hl'
        cases he : getE c.h id with
        | row l2 => rw [he] at hl'; simp [E.re] at hl'; subst hl'; exact hl l2 he
        | cells vs => rw [he] at hl'; simp [E.re] at hl'
        | dead => rw [he] at hl'; simp [E.re] at hl'
    · trivial
  | ptr id o =>
    simp only [V.re0]
    split
    · rename_i j hj
      obtain ⟨h1, h2⟩ := re_some hj
      obtain ⟨_, g, hg, rfl⟩ := h
      exact ⟨by simpa [Cx.pick] using h1, g, by simp only [Cx.pick, h2]; exact hg, rfl⟩
    · trivial
  | elt id o n i =>
    simp only [V.re0]
    split
    · rename_i j hj
      obtain ⟨h1, h2⟩ := re_some hj
      obtain ⟨_, hn, g, hg, rfl⟩ := h
      exact ⟨by simpa [Cx.pick] using h1, hn, g, by simp only [Cx.pick, h2]; exact hg, rfl⟩
    · trivial
  | ro s l => exact pick_ro h
  | ref a =>
    obtain ⟨b, off, x, rfl, hU, hc, ha⟩ := h
    exact ⟨b, off, x, rfl, fun hu => hU (pick_U hu), hc, pick_atom ha⟩
  | agg vs => exact h.elim
  | tup vs => exact h.elim
  | _ => exact h
theorem pick_vr1 {c : Cx} {ids : List Nat} {u : V} {v : Value} (h : VR1 c u v) : VR1 (c.pick ids) (u.re ids) v := by
  cases u with
  | agg vs =>
    obtain ⟨cs, rfl, hs, ha⟩ := h
    refine ⟨cs, rfl, by simpa [V.re] using hs, fun j hj => ?_⟩
    have hj' : j < vs.length := by simpa using hj
    have e : (vs.map (V.re0 ids)).getD j .junk = (vs.getD j .junk).re0 ids := by simp [List.getD, hj']
    rw [e]; exact pick_vr0 (ha j hj')
  | tup vs => exact h.elim
  | own id => exact (pick_vr0 (u := .own id) h).vr1
  | sub id o n => exact (pick_vr0 (u := .sub id o n) h).vr1
  | ptr id o => exact (pick_vr0 (u := .ptr id o) h).vr1
  | elt id o n i => exact (pick_vr0 (u := .elt id o n i) h).vr1
  | ro s l => exact (pick_vr0 (u := .ro s l) h).vr1
  | ref a => exact (pick_vr0 (u := .ref a) h).vr1
  | _ => exact h
theorem pick_vr {c : Cx} {ids : List Nat} {u : V} {v : Value} (h : VR c u v) : VR (c.pick ids) (u.re ids) v := by
  cases u with
  | tup vs => exact trivial
  | own id => exact (pick_vr1 (u := .own id) h).vr
  | sub id o n => exact (pick_vr1 (u := .sub id o n) h).vr
  | ptr id o => exact (pick_vr1 (u := .ptr id o) h).vr
  | elt id o n i => exact (pick_vr1 (u := .elt id o n i) h).vr
  | ro s l => exact (pick_vr1 (u := .ro s l) h).vr
  | ref a => exact (pick_vr1 (u := .ref a) h).vr
  | agg vs => exact (pick_vr1 (u := .agg vs) h).vr
  | _ => exact h

theorem pick_rel {c : Cx} (hr : Rel c) {ids : List Nat} (hn : ids.Nodup) (hl : ∀ i ∈ ids, i < c.h.length) : Rel (c.pick ids) := by
  have hin : ∀ j, j < ids.length → ids.getD j 0 < c.h.length := fun j hj => hl _ (by simp [List.getD, hj])
  have hlen : ∀ j, j < (c.pick ids).h.length ↔ j < ids.length := fun j => by simp [Cx.pick]
  refine ⟨fun j hj => hr.one _ (hin j ((hlen j).1 hj)), fun j hj => ?_, fun i j b hi hj hbi hbj => ?_, fun b hb => hr.lt b (pick_U hb), fun b hb => ⟨(hr.far b hb).1, fun hu => (hr.far b hb).2 (pick_U hu)⟩⟩
  · have hj' := (hlen j).1 hj
    have he := hr.ent _ (hin j hj')
    rw [pick_get c ids hj']
    cases hd : getE c.h (ids.getD j 0) with
    | row l =>
      rw [hd] at he
      obtain ⟨e, xs, ho, ha⟩ := he
      refine ⟨e, xs, ho, fun k hk => ?_⟩
      obtain ⟨x, hx, hxa⟩ := ha k hk
      exact ⟨x, hx, pick_atom hxa⟩
    | cells vs =>
      rw [hd] at he
      obtain ⟨b, e, cs, hv, hg, hs, ha⟩ := he
      refine ⟨b, e, cs, hv, hg, by simpa using hs, fun k hk => ?_⟩
      have hk' : k < vs.length := by simpa using hk
      obtain ⟨x, hx, hxa⟩ := ha k hk'
      refine ⟨x, hx, ?_⟩
      have e : (vs.map (V.re0 ids)).getD k .junk = (vs.getD k .junk).re0 ids := by simp [List.getD, hk']
      rw [e]; exact pick_vr0 hxa
    | dead => trivial
  · have hi' := (hlen i).1 (alive_lt hi)
    have hj' := (hlen j).1 (alive_lt hj)
    rw [pick_get c ids hi', E.re_alive] at hi
    rw [pick_get c ids hj', E.re_alive] at hj
    have := hr.inj _ _ b hi hj hbi hbj
    have e1 : ids.getD i 0 = ids[i] := by simp [List.getD, hi']
    have e2 : ids.getD j 0 = ids[j] := by simp [List.getD, hj']
    rw [e1, e2] at this
    have hp := List.pairwise_iff_getElem.1 hn
    rcases Nat.lt_trichotomy i j with h | h | h
    · exact absurd this (hp i j hi' hj' h)
    · exact h
    · exact absurd this.symm (hp j i hj' hi' h)

end Go.Proofs.Ythcidiihfjjpdaa.D
/- Regions whose order is drawn: every order comes to the same. Conditions: those of each theorem. -/
namespace Go.Proofs.Ythcidiihfjjpdaa.D
open Go.RowKit
set_option linter.unusedVariables false
set_option linter.unusedSimpArgs false

/-- Operations that don't look at blocks. -/
def heapFree (TD : TypeId → Option TI) : Op → Bool
  | .assign (.const (.slice none 0 0)) => false
  | .convert _ d _ => match TD d with
    | some ⟨.string, _, _, _⟩ => false
    | _ => true
  | .move _ | .assign _ | .pick .. | .binOp .. | .unOp .. | .index .. | .extract .. | .nilCheck _ | .fieldAddr .. | .field .. | .build .. => true
  | .call ⟨.builtin .min, _, _⟩ | .call ⟨.builtin .max, _, _⟩ => true
  | _ => false
/-- Operations that leave the blocks as they are. -/
def quietOp (TD : TypeId → Option TI) (pureF : FuncId → Bool) : Op → Bool
  | .indexAddr .. | .load .. | .slice .. | .convert .. => true
  | .call ⟨.builtin .len, _, _⟩ => true
  | .call ⟨.value (.func f), _, _⟩ => pureF f
  | op => heapFree TD op

/-- The length of a slice. -/
def lenOp : Op → Bool
  | .call ⟨.builtin .len, _, _⟩ => true
  | _ => false
/-- Calls that write into no row. -/
def keepOp (rowsF : FuncId → Bool) : Op → Bool
  | .call ⟨.value (.func f), _, _⟩ => rowsF f
  | _ => false
def freeOp (TD : TypeId → Option TI) (op : Op) : Bool := heapFree TD op || lenOp op
def lenKeep (rowsF : FuncId → Bool) (i j : Nat) (oi oj : Oper) : Bool :=
  (Nat.blt i j && lenOp oi.op && keepOp rowsF oj.op) || (Nat.blt j i && lenOp oj.op && keepOp rowsF oi.op)

def maskOf (o : Oper) (M : List Nat) : Nat := o.after.toList.foldl (fun s e => bif Region.binds .any e then (s ||| 2 ^ e.on) ||| M.getD e.on 0 else s) 0
def reachL : List Oper → List Nat → List Nat
  | [], acc => acc
  | o :: os, acc => reachL os (acc ++ [maskOf o acc])

def before_ (M : List Nat) (i j : Nat) : Bool := bif Nat.blt i j then (M.getD j 0).testBit i else (M.getD i 0).testBit j
def pairOk (TD : TypeId → Option TI) (pureF rowsF : FuncId → Bool) (ops : Array Oper) (M : List Nat) (i j : Nat) (oi oj : Oper) : Bool :=
  (match oi.dst, oj.dst with | some a, some b => !Nat.beq a b | _, _ => true) &&
  (match oi.dst with | some d => bif (oj.looksAt ops).any (Nat.beq d) then before_ M i j else true | none => true) &&
  (bif (quietOp TD pureF oi.op && quietOp TD pureF oj.op) || heapFree TD oi.op || heapFree TD oj.op || lenKeep rowsF i j oi oj then true else before_ M i j)
def drawOk (TD : TypeId → Option TI) (pf : FuncId → Bool × Bool) (ops : Array Oper) : Bool :=
  let M := reachL ops.toList []
  (List.range ops.size).all fun j => match ops[j]? with
    | none => true
    | some oj => Nat.beq (M.getD j 0) (maskOf oj M) && (oj.after.toList.all fun e => !Region.binds .any e || Nat.blt e.on j) &&
      (match oj.guard with | none => true | some (g, _) => Nat.blt g j) &&
      (List.range ops.size).all fun i => match ops[i]? with
        | none => true
        | some oi => Nat.beq i j || pairOk TD (fun f => (pf f).1) (fun f => (pf f).2) ops M i j oi oj

section
variable {P : Program} {TD : TypeId → Option TI} {K : FuncId → List V → List E → (V → List E → R) → R}

theorem assign_eq {x : Operand} (hq : heapFree TD (.assign x) = true) {dst : Option Tmp} {ty : TypeId} {pos : String} {after : Array Edge} {guard : Option (Nat × Bool)} {σ : St} {κ : V → List E → R} :
    opC TD K ⟨dst, .assign x, ty, pos, after, guard⟩ σ κ = κ (σ.ev x) σ.h := by
  simp only [opC]
  split
  · simp [heapFree] at hq
  · rfl

theorem opC_congr {o : Oper} {σ σ' : St} {κ : V → List E → R} (hh : σ.h = σ'.h) (he : ∀ x ∈ o.op.operands, σ.ev x = σ'.ev x) : opC TD K o σ κ = opC TD K o σ' κ := by
  obtain ⟨dst, op, ty, pos, after, guard⟩ := o
  cases op <;> simp only [Op.operands] at he
  case assign x =>
    have e := he x (by simp)
    simp only [opC, hh]
    split
    · rfl
    · rw [e]
  case build t ps =>
    have e : ∀ p ∈ ps.toList, σ.ev p.2 = σ'.ev p.2 := fun p hp => he p.2 (by simp; exact ⟨p.1, by simpa using hp⟩)
    have e1 : ∀ (n : Nat) (fs : Array Field), buildOk TD fs ps n σ.ev = buildOk TD fs ps n σ'.ev := by
      intro n fs
      unfold buildOk
      congr 1
      rw [← Array.all_toList, ← Array.all_toList]
      rw [Bool.eq_iff_iff, List.all_eq_true, List.all_eq_true]
      constructor
      · intro h p hp; rw [← e p hp]; exact h p hp
      · intro h p hp; rw [e p hp]; exact h p hp
    have e2 : ∀ (fs : Array Field) (zs : List V), layParts fs σ.ev ps.toList zs = layParts fs σ'.ev ps.toList zs := by
      intro fs zs
      unfold layParts
      revert e
      generalize ps.toList = l
      intro e
      induction l generalizing zs with
      | nil => rfl
      | cons p l ih =>
        simp only [List.foldl_cons]
        rw [e p (by simp)]
        exact ih _ (fun q hq => e q (by simp [hq]))
    have e3 : ∀ (fs : Array Field) (zs : List V) (κ2 : V → R), buildA TD fs ps.toList zs σ.ev κ2 = buildA TD fs ps.toList zs σ'.ev κ2 := by
      intro fs zs κ2
      revert e
      generalize ps.toList = l
      intro e
      cases l with
      | nil => rfl
      | cons p l =>
        cases l with
        | nil => simp only [buildA]; rw [e p (by simp)]
        | cons q l => rfl
    simp only [opC, hh, e1]
    split
    · split
      · rw [e2, e3]
      · rfl
    · rfl
  case buildSlice t n ps =>
    have e : (ps.toList.map fun p => σ.ev p.2) = ps.toList.map fun p => σ'.ev p.2 := List.map_congr_left fun p hp => he p.2 (by simp; exact ⟨p.1, by simpa using hp⟩)
    simp only [opC, hh, e]
  case call c =>
    obtain ⟨callee, cargs, cats⟩ := c
    have e : cargs.toList.map σ.ev = cargs.toList.map σ'.ev := List.map_congr_left fun x hx => he x (by simp [Call.operands]; exact .inr (by simpa using hx))
    have e1 : ∀ x ∈ cargs.toList, σ.ev x = σ'.ev x := fun x hx => he x (by simp [Call.operands]; exact .inr (by simpa using hx))
    simp only [opC, hh, e]
    split
    · split
      · rename_i h1 h2; rw [e1 _ (by rw [h1]; simp)]
      · rfl
    · rfl
    · rfl
    · split
      · rename_i h1 h2; rw [e1 _ (by rw [h1]; simp), e1 _ (by rw [h1]; simp)]
      · rfl
    · rfl
    · rfl
  case slice t x lo hi mx =>
    cases mx with
    | some m => rfl
    | none =>
      have ex := he x (by simp)
      have elo : lo.map σ.ev = lo.map σ'.ev := by cases lo <;> simp_all
      have ehi : hi.map σ.ev = hi.map σ'.ev := by cases lo <;> cases hi <;> simp_all
      simp only [opC, hh, ex, elo, ehi]
  all_goals (first
    | rfl
    | (simp only [opC, hh]; done)
    | (simp at he; simp only [opC, hh, he]; done)
    | (simp at he; obtain ⟨e1, e2⟩ := he; simp only [opC, hh, e1, e2]; done)
    | (simp at he; obtain ⟨e1, e2, e3⟩ := he; simp only [opC, hh, e1, e2, e3]; done))

theorem opC_quiet {pureF : FuncId → Bool} (hp : ∀ f, pureF f = true → ∀ args h κ, K f args h κ = K f args h fun v _ => κ v h) {o : Oper} (hq : quietOp TD pureF o.op = true) {σ : St} {κ : V → List E → R} :
    opC TD K o σ κ = opC TD K o σ fun v _ => κ v σ.h := by
  obtain ⟨dst, op, ty, pos, after, guard⟩ := o
  cases op <;> first | (simp [quietOp, heapFree] at hq; done) | rfl | skip
  case assign x => rw [assign_eq hq, assign_eq hq]
  case slice t x lo hi mx => cases mx <;> rfl
  case call c =>
    obtain ⟨callee, cargs, cats⟩ := c
    cases callee with
    | value f =>
      cases f with
      | func f => exact hp f hq _ _ _
      | _ => simp [quietOp, heapFree] at hq
    | invoke r m => simp [quietOp, heapFree] at hq
    | builtin b => cases b <;> first | (simp [quietOp, heapFree] at hq; done) | rfl
theorem opC_free {o : Oper} (hq : heapFree TD o.op = true) {σ : St} {κ : V → List E → R} (h2 : List E) : opC TD K o σ κ = opC TD K o { σ with h := h2 } fun v _ => κ v σ.h := by
  obtain ⟨dst, op, ty, pos, after, guard⟩ := o
  cases op <;> first | (simp [heapFree] at hq; done) | rfl | skip
  case assign x => rw [assign_eq hq, assign_eq hq]; rfl
  case convert sT dT x =>
    have key : ∀ (σ : St) (κ : V → List E → R), opC TD K ⟨dst, .convert sT dT x, ty, pos, after, guard⟩ σ κ = convC (TD sT) (TD dT) (σ.ev x) fun v => κ v σ.h := by
      intro σ κ
      simp only [opC]
      split
      · rename_i h1 h2
        simp only [heapFree, h2] at hq
        cases hq
      · rfl
    rw [key, key]; rfl
  case call c =>
    obtain ⟨callee, cargs, cats⟩ := c
    cases callee with
    | builtin b => cases b <;> first | (simp [heapFree] at hq; done) | rfl
    | _ => simp [heapFree] at hq
/-- A length is the same while the row stands. -/
theorem opC_len {o : Oper} (hl : lenOp o.op = true) {σ : St} {v : V} {h' h2 : List E} (hrow : ∀ id l, getE σ.h id = .row l → getE h2 id = .row l)
    (hs : opC TD K o σ (fun v h => some (v, h)) = some (v, h')) (κ2 : V → List E → R) : opC TD K o { σ with h := h2 } κ2 = κ2 v h2 := by
  obtain ⟨dst, op, ty, pos, after, guard⟩ := o
  cases op <;> first | (simp [lenOp] at hl; done) | skip
  case call c =>
    obtain ⟨callee, cargs, cats⟩ := c
    cases callee with
    | builtin b =>
      cases b <;> first | (simp [lenOp] at hl; done) | skip
      simp only [opC] at hs ⊢
      generalize cargs.toList = la at hs ⊢
      generalize cats.toList = lt at hs ⊢
      rcases la with _ | ⟨x, _ | ⟨y, la⟩⟩ <;> rcases lt with _ | ⟨t, _ | ⟨u, lt⟩⟩ <;> simp only at hs ⊢ <;> first | (cases hs; done) | skip
      have e : St.ev { σ with h := h2 } x = σ.ev x := by cases x <;> rfl
      rw [e]
      have key : lenC (σ.ev x) σ.h (fun v => some (v, σ.h)) = some (v, h') → lenC (σ.ev x) h2 (fun v => κ2 v h2) = κ2 v h2 := by
        intro hk
        cases hv : σ.ev x with
        | own id =>
          rw [hv] at hk
          simp only [lenC] at hk ⊢
          cases hg : getE σ.h id with
          | row l => rw [hg] at hk; rw [hrow id l hg]; cases hk; rfl
          | cells vs => rw [hg] at hk; cases hk
          | dead => rw [hg] at hk; cases hk
        | ro s l => rw [hv] at hk; simp only [lenC] at hk ⊢; cases hk; rfl
        | nil => rw [hv] at hk; simp only [lenC] at hk ⊢; cases hk; rfl
        | sub id o n => rw [hv] at hk; simp only [lenC] at hk ⊢; cases hk; rfl
        | _ => rw [hv] at hk; cases hk
      split at hs
      · exact key hs
      · cases hv : σ.ev x with
        | str s => rw [hv] at hs; simp only [lenStrC] at hs ⊢; cases hs; rfl
        | _ => rw [hv] at hs; cases hs
      · cases hs
    | _ => simp [lenOp] at hl
end

end Go.Proofs.Ythcidiihfjjpdaa.D
/- Code and functions of the small machine. Conditions: those of each theorem. -/
namespace Go.Proofs.Ythcidiihfjjpdaa.D
open Go.RowKit
set_option linter.unusedVariables false
set_option linter.unusedSimpArgs false

/-- What code leaves as it was: of the own blocks the first m stay. -/
structure ExtM (m : Nat) (c c' : Cx) : Prop where
  F : c'.F = c.F
  os : c'.w.os = c.w.os
  tape : c'.w.tape = c.w.tape
  output : c'.w.output = c.w.output
  size : c.w.heap.size ≤ c'.w.heap.size
  block : ∀ k, k < c.w.heap.size → ¬ c.U k → c'.w.heap[k]? = c.w.heap[k]?
  own : ∀ b, c'.U b → c.U b ∨ c.w.heap.size ≤ b
  len : m ≤ c'.h.length
  ids : ∀ i, i < m → c'.hv i = c.hv i ∧ sameE (getE c.h i) (getE c'.h i) = true

theorem Ext.m {m : Nat} {c c' : Cx} (h : Ext c c') (hm : m ≤ c.h.length) : ExtM m c c' :=
  ⟨h.F, h.os, h.tape, h.output, h.size, h.block, h.own, Nat.le_trans hm h.len, fun i hi => h.ids i (Nat.lt_of_lt_of_le hi hm)⟩
theorem ExtM.trans {m : Nat} {a b c : Cx} (h : ExtM m a b) (k : ExtM m b c) : ExtM m a c where
  F := k.F.trans h.F
  os := k.os.trans h.os
  tape := k.tape.trans h.tape
  output := k.output.trans h.output
  size := Nat.le_trans h.size k.size
  block := fun i hi hu => (k.block i (Nat.lt_of_lt_of_le hi h.size) (fun hb => (h.own i hb).elim hu (fun hle => by omega))).trans (h.block i hi hu)
  own := fun x hx => (k.own x hx).elim (h.own x) (fun hle => .inr (Nat.le_trans h.size hle))
  len := k.len
  ids := fun i hi => ⟨(k.ids i hi).1.trans (h.ids i hi).1, sameE_trans (h.ids i hi).2 (k.ids i hi).2⟩

/-! Which blocks are kept. -/
theorem any_beq {acc : List Nat} {x : Nat} : acc.any (Nat.beq x) = true ↔ x ∈ acc := by
  rw [List.any_eq_true]
  constructor
  · rintro ⟨y, hy, h⟩; rw [Nat.eq_of_beq_eq_true h]; exact hy
  · exact fun h => ⟨x, h, nbeq_self x⟩
theorem addIds_ok : ∀ (xs acc : List Nat), acc.Nodup → ∃ r, addIds xs acc = acc ++ r ∧ (addIds xs acc).Nodup ∧ ∀ i ∈ r, i ∈ xs := by
  intro xs
  induction xs with
  | nil => intro acc h; exact ⟨[], by simp [addIds], by simpa [addIds] using h, by simp⟩
  | cons x xs ih =>
    intro acc h
    simp only [addIds]
    cases hx : acc.any (Nat.beq x) with
    | true =>
      obtain ⟨r, h1, h2, h3⟩ := ih acc h
      simp only [cond_true]
      exact ⟨r, h1, h2, fun i hi => by simp [h3 i hi]⟩
    | false =>
      have hx' : x ∉ acc := fun hm => by rw [any_beq.2 hm] at hx; cases hx
      have hn : (acc ++ [x]).Nodup := by
        rw [List.nodup_append]
        exact ⟨h, by simp, fun a ha b hb => by
          have : b = x := by simpa using hb
          subst this
          intro e; exact hx' (e ▸ ha)⟩
      obtain ⟨r, h1, h2, h3⟩ := ih (acc ++ [x]) hn
      simp only [cond_false]
      exact ⟨x :: r, by rw [h1]; simp, h2, fun i hi => by
        rcases List.mem_cons.1 hi with rfl | hi
        · simp
        · simp [h3 i hi]⟩
theorem foldIds_ok {α : Type} (f : α → List Nat) : ∀ (ys : List α) (acc : List Nat), acc.Nodup → ∃ r, ys.foldl (fun acc v => addIds (f v) acc) acc = acc ++ r ∧
    (ys.foldl (fun acc v => addIds (f v) acc) acc).Nodup ∧ ∀ i ∈ r, ∃ y ∈ ys, i ∈ f y := by
  intro ys
  induction ys with
  | nil => intro acc h; exact ⟨[], by simp, by simpa using h, by simp⟩
  | cons y ys ih =>
    intro acc h
    obtain ⟨r1, h1, h2, h3⟩ := addIds_ok (f y) acc h
    obtain ⟨r2, h4, h5, h6⟩ := ih _ h2
    simp only [List.foldl_cons]
    refine ⟨r1 ++ r2, by rw [h4, h1]; simp, h5, fun i hi => ?_⟩
    rcases List.mem_append.1 hi with hi | hi
    · exact ⟨y, by simp, h3 i hi⟩
    · obtain ⟨z, hz, hzi⟩ := h6 i hi
      exact ⟨z, by simp [hz], hzi⟩

theorem ids0_lt {c : Cx} {u : V} {x : Value} (h : VR0 c u x) : ∀ i ∈ u.ids0, i < c.h.length := by
  intro i hi
  cases u <;> simp [V.ids0] at hi <;> (subst hi; exact h.1)
theorem ids_lt {c : Cx} {u : V} {x : Value} (h : VR c u x) : ∀ i ∈ u.ids, i < c.h.length := by
  intro i hi
  cases u with
  | agg vs =>
    obtain ⟨cs, rfl, hs, ha⟩ := (show VR1 c (.agg vs) x from h)
    simp only [V.ids, List.mem_flatMap] at hi
    obtain ⟨v, hv, hvi⟩ := hi
    obtain ⟨j, hj, rfl⟩ := List.getElem_of_mem hv
    have := ha j hj
    have e : vs.getD j .junk = vs[j] := by simp [List.getD, hj]
    rw [e] at this
    exact ids0_lt this i hvi
  | own id => exact ids0_lt (u := .own id) h i hi
  | sub id o n => exact ids0_lt (u := .sub id o n) h i hi
  | ptr id o => exact ids0_lt (u := .ptr id o) h i hi
  | elt id o n k => exact ids0_lt (u := .elt id o n k) h i hi
  | _ => simp [V.ids, V.ids0] at hi
theorem eids_lt {c : Cx} (hr : Rel c) {k : Nat} (hk : k < c.h.length) : ∀ i ∈ (getE c.h k).ids, i < c.h.length := by
  intro i hi
  have he := hr.ent k hk
  cases hd : getE c.h k with
  | cells vs =>
    rw [hd] at he hi
    obtain ⟨b, e, cs, hv, hg, hs, ha⟩ := he
    simp only [E.ids, List.mem_flatMap] at hi
    obtain ⟨v, hv, hvi⟩ := hi
    obtain ⟨j, hj, rfl⟩ := List.getElem_of_mem hv
    obtain ⟨x, hx, hxa⟩ := ha j hj
    have e : vs.getD j .junk = vs[j] := by simp [List.getD, hj]
    rw [e] at hxa
    exact ids0_lt hxa i hvi
  | row l => rw [hd] at hi; simp [E.ids] at hi
  | dead => rw [hd] at hi; simp [E.ids] at hi

theorem keep_ok {c : Cx} (hr : Rel c) {m : Nat} (hm : m ≤ c.h.length) {vs : List V} (hv : ∀ v ∈ vs, ∃ x, VR c v x) :
    (keepIds m vs c.h).Nodup ∧ (∀ i ∈ keepIds m vs c.h, i < c.h.length) ∧ ∀ j, j < m → (keepIds m vs c.h).getD j 0 = j ∧ j < (keepIds m vs c.h).length := by
  obtain ⟨r1, h1, h2, h3⟩ := foldIds_ok V.ids vs (List.range m) List.nodup_range
  have hl1 : ∀ i ∈ vs.foldl (fun acc v => addIds v.ids acc) (List.range m), i < c.h.length := by
    rw [h1]
    intro i hi
    rcases List.mem_append.1 hi with hi | hi
    · have := List.mem_range.1 hi; omega
    · obtain ⟨v, hv1, hv2⟩ := h3 i hi
      obtain ⟨x, hx⟩ := hv v hv1
      exact ids_lt hx i hv2
  obtain ⟨r2, h4, h5, h6⟩ := foldIds_ok (fun i => (getE c.h i).ids) (vs.foldl (fun acc v => addIds v.ids acc) (List.range m)) (vs.foldl (fun acc v => addIds v.ids acc) (List.range m)) h2
  refine ⟨h5, ?_, fun j hj => ?_⟩
  · show ∀ i ∈ (vs.foldl (fun acc v => addIds v.ids acc) (List.range m)).foldl (fun acc i => addIds (getE c.h i).ids acc) (vs.foldl (fun acc v => addIds v.ids acc) (List.range m)), i < c.h.length
    rw [h4]
    intro i hi
    rcases List.mem_append.1 hi with hi | hi
    · exact hl1 i hi
    · obtain ⟨k, hk1, hk2⟩ := h6 i hi
      exact eids_lt hr (hl1 k hk1) i hk2
  · have e : keepIds m vs c.h = List.range m ++ (r1 ++ r2) := by
      show (vs.foldl (fun acc v => addIds v.ids acc) (List.range m)).foldl (fun acc i => addIds (getE c.h i).ids acc) (vs.foldl (fun acc v => addIds v.ids acc) (List.range m)) = _
      rw [h4, h1, List.append_assoc]
    rw [e]
    exact ⟨by simp [List.getD, List.getElem?_append, hj], by simp; omega⟩

theorem E.re_same (e : E) (ids : List Nat) : sameE e (e.re ids) = true := by cases e <;> simp [E.re, sameE]

theorem pick_ext {c : Cx} {m : Nat} {ids : List Nat} (hp : ∀ j, j < m → ids.getD j 0 = j ∧ j < ids.length) : ExtM m c (c.pick ids) where
  F := rfl
  os := rfl
  tape := rfl
  output := rfl
  size := Nat.le_refl _
  block := fun _ _ _ => rfl
  own := fun b hb => .inl (pick_U hb)
  len := by
    rcases Nat.eq_zero_or_pos m with h | h
    · omega
    · have := (hp (m - 1) (by omega)).2
      simp [Cx.pick]; omega
  ids := fun i hi => by
    obtain ⟨h1, h2⟩ := hp i hi
    refine ⟨by simp only [Cx.pick, h1], ?_⟩
    rw [pick_get c ids h2, h1]
    exact E.re_same _ _

theorem getT_live (f : Nat → V) : ∀ (live : List Nat) (t : Nat), getT (live.map fun t => (t, f t)) t = if t ∈ live then f t else .junk := by
  intro live
  induction live with
  | nil => intro t; simp [getT]
  | cons x live ih =>
    intro t
    simp only [List.map_cons, getT]
    by_cases h : x = t
    · subst h; simp [nbeq_self]
    · have h' : ¬ t = x := fun e => h e.symm
      rw [nbeq_ne h, cond_false, ih t]
      simp [h']

theorem norm_ok {c : Cx} {σ : St} {a : Act} (hr : Rel c) (ht : RelT c σ a) {m : Nat} (hm : m ≤ c.h.length) (live : List Nat) :
    ∃ c', ExtM m c c' ∧ Rel c' ∧ RelT c' (norm m live σ) a ∧ c'.w = c.w := by
  have hv : ∀ v ∈ live.map fun t => getT σ.t t, ∃ x, VR c v x := by
    intro v hv
    obtain ⟨t, _, rfl⟩ := List.mem_map.1 hv
    exact ⟨_, ht.t t⟩
  obtain ⟨h1, h2, h3⟩ := keep_ok hr hm hv
  have hσ := ht.h
  refine ⟨c.pick (keepIds m (live.map fun t => getT σ.t t) c.h), pick_ext h3, pick_rel hr h1 h2, ⟨ht.size, ht.defers, ?_, fun t => ?_⟩, rfl⟩
  · simp only [norm, Cx.pick, hσ]
  · simp only [norm, hσ]
    rw [getT_live (fun t => (getT σ.t t).re (keepIds m (live.map fun t => getT σ.t t) c.h))]
    split
    · exact pick_vr (ht.t t)
    · exact trivial

section
variable {P : Program} {TD : TypeId → Option TI} {K : FuncId → List V → List E → (V → List E → R) → R} {ann : Nat → List Nat × List Nat} {drawOk : Array Oper → Bool} {m fuel : Nat} {r : V × List E}

def Post (m : Nat) (c : Cx) (k : X → St → R) (r : V × List E) : Exit → Act → World → Prop := fun e a' w' =>
  ∃ x σ' c', e = X.exit_ x ∧ k x σ' = some r ∧ ExtM m c c' ∧ Rel c' ∧ RelT c' σ' a' ∧ c'.w = w'

theorem Post.trans {c c1 : Cx} {k : X → St → R} (h : ExtM m c c1) {e : Exit} {a : Act} {w : World} (hp : Post m c1 k r e a w) : Post m c k r e a w := by
  obtain ⟨x, σ', c', h1, h2, h3, h4⟩ := hp
  exact ⟨x, σ', c', h1, h2, h.trans h3, h4⟩

theorem Ext.reflM {c : Cx} (hm : m ≤ c.h.length) : ExtM m c c := (Ext.refl c).m hm

theorem nrm_ok {c : Cx} {σ : St} {a : Act} (hr : Rel c) (ht : RelT c σ a) {m : Nat} (hm : m ≤ c.h.length) {ann : Nat → List Nat × List Nat} (b : Code) :
    ∃ c', ExtM m c c' ∧ Rel c' ∧ RelT c' (nrmS ann m b σ) a ∧ c'.w = c.w := by
  unfold nrmS
  split
  · exact ⟨c, Ext.reflM hm, hr, ht, rfl⟩
  · exact norm_ok hr ht hm _
theorem denC_wp (hT : TyOk P TD) (hK : KOk P K) (hD : DrawOk P TD K drawOk) : ∀ (code : Code) (σ : St) (a : Act) (c : Cx) (k : X → St → R),
    denC TD K ann drawOk m fuel code σ k = some r → Rel c → RelT c σ a → m ≤ c.h.length → code.wp P (Post m c k r) a c.w := by
  intro code
  induction code with
  | skip => intro σ a c k h hr ht hm; exact wp_skip ⟨.normal, σ, c, rfl, h, Ext.reflM hm, hr, ht, rfl⟩
  | label l => intro σ a c k h hr ht hm; exact wp_label ⟨.normal, σ, c, rfl, h, Ext.reflM hm, hr, ht, rfl⟩
  | region id ops draw =>
    intro σ a c k h hr ht hm
    simp only [denC] at h
    have post : ∀ σ' c' a', k .normal σ' = some r → Ext c c' → Rel c' → RelT c' σ' a' → Post m c k r .normal a' c'.w :=
      fun σ' c' a' h1 h2 h3 h4 => ⟨.normal, σ', c', rfl, h1, h2.m hm, h3, h4, rfl⟩
    cases draw with
    | false =>
      simp only [Bool.false_and, cond_false] at h
      rw [toList_range] at h
      exact wp_region (opsC_wp hT hK c (List.range ops.size) (fun i hi => List.mem_range.1 hi) σ a c h (Ext.refl c) hr ht post)
    | true =>
      cases hd : drawOk ops with
      | false => simp [hd] at h
      | true =>
        simp only [hd, Bool.not_true, Bool.and_false, cond_false] at h
        exact hD ops _ r _ c σ a c id hd h (Ext.refl c) hr ht post
  | seq x y ihx ihy =>
    intro σ a c k h hr ht hm
    simp only [denC] at h
    refine wp_seq (wp_mono (ihx σ a c _ h hr ht hm) ?_)
    rintro e a' w' ⟨x', σ', c', rfl, h1, h2, h3, h4, rfl⟩
    cases x' with
    | normal =>
      obtain ⟨c2, e1, e2, e3, e4⟩ := nrm_ok h3 h4 h2.len (ann := ann) y
      have := wp_mono (ihy _ a' c2 k h1 e2 e3 e1.len) (fun e a w hp => hp.trans (h2.trans e1))
      rw [e4] at this
      exact this
    | exit id => exact ⟨.exit id, σ', c', rfl, h1, h2, h3, h4, rfl⟩
    | ret => exact ⟨.ret, σ', c', rfl, h1, h2, h3, h4, rfl⟩
  | cond o x y ihx ihy =>
    intro σ a c k h hr ht hm
    simp only [denC] at h
    split at h
    · rename_i t hc
      have hv := ht.ev o
      rw [hc] at hv
      have hv := vr_bool hv
      have hk : ∀ b, σ.ev o = .bool b → RelT c (σ.know o b) a := fun b hb => by
        cases o with
        | tmp t => exact (ht.known hb).1
        | _ => exact ht
      cases t with
      | true => exact wp_cond hv (ihx _ a c k h hr (hk true hc) hm)
      | false => exact wp_cond hv (ihy _ a c k h hr (hk false hc) hm)
    · cases h
  | block id x ih =>
    intro σ a c k h hr ht hm
    simp only [denC] at h
    refine wp_block (wp_mono (ih σ a c _ h hr ht hm) ?_)
    rintro e a' w' ⟨x', σ', c', rfl, h1, h2, h3, h4, rfl⟩
    cases x' with
    | normal => exact ⟨.normal, σ', c', rfl, h1, h2, h3, h4, rfl⟩
    | ret => exact ⟨.ret, σ', c', rfl, h1, h2, h3, h4, rfl⟩
    | exit j =>
      show (if j = id then Post m c k r .normal a' c'.w else Post m c k r (.exit j) a' c'.w)
      by_cases hj : j = id
      · subst hj
        simp only [nbeq_self, cond_true] at h1
        rw [if_pos rfl]
        exact ⟨.normal, σ', c', rfl, h1, h2, h3, h4, rfl⟩
      · simp only [nbeq_ne hj, cond_false] at h1
        rw [if_neg hj]
        exact ⟨.exit j, σ', c', rfl, h1, h2, h3, h4, rfl⟩
  | loop x ih =>
    intro σ a c k h hr ht hm
    simp only [denC] at h
    have key : ∀ n (σ : St) (a : Act) (c1 : Cx), iterC m (fun σ k => denC TD K ann drawOk m fuel x σ k) (ann (headId x)).1 (ann (headId x)).2 n σ k = some r →
        ExtM m c c1 → Rel c1 → RelT c1 σ a → Code.rounds P x (Post m c k r) n a c1.w := by
      intro n
      induction n with
      | zero => intro σ a c1 h; simp [iterC] at h
      | succ n ihn =>
        intro σ a c1 h hE hr ht
        simp only [iterC] at h
        rw [rounds_succ]
        refine wp_mono (ih σ a c1 _ h hr ht hE.len) ?_
        rintro e a' w' ⟨x', σ', c', rfl, h1, h2, h3, h4, rfl⟩
        cases x' with
        | normal =>
          obtain ⟨c2, e1, e2, e3, e4⟩ := norm_ok h3 h4 h2.len (ann (headId x)).1
          have := ihn _ a' c2 h1 ((hE.trans h2).trans e1) e2 e3
          rw [e4] at this
          exact this
        | exit id =>
          obtain ⟨c2, e1, e2, e3, e4⟩ := norm_ok h3 h4 h2.len (ann (headId x)).2
          exact ⟨.exit id, _, c2, rfl, h1, (hE.trans h2).trans e1, e2, e3, e4⟩
        | ret =>
          obtain ⟨c2, e1, e2, e3, e4⟩ := norm_ok h3 h4 h2.len (ann (headId x)).2
          exact ⟨.ret, _, c2, rfl, h1, (hE.trans h2).trans e1, e2, e3, e4⟩
    obtain ⟨c2, e1, e2, e3, e4⟩ := norm_ok hr ht hm (ann (headId x)).1
    have := key fuel _ a c2 h e1 e2 e3
    rw [e4] at this
    exact wp_loop_rounds fuel this
  | exit id => intro σ a c k h hr ht hm; exact wp_exit ⟨.exit id, σ, c, rfl, h, Ext.reflM hm, hr, ht, rfl⟩
  | ret => intro σ a c k h hr ht hm; exact wp_ret ⟨.ret, σ, c, rfl, h, Ext.reflM hm, hr, ht, rfl⟩
  | _ => intro σ a c k h; simp [denC] at h

theorem resAll_ok (hT : TyOk P TD) {c : Cx} {σ : St} {a : Act} (hr : Rel c) (ht : RelT c σ a) (g : ResultVar → Sem Value) (hg : ∀ t, g (.tmp t) = pure (a.tmps.getD t undef))
    (hgc : ∀ x t, g (.cell x t) = do loadVar t (← asAddr (a.tmps.getD x undef))) : ∀ (rs : List ResultVar) (vs : List V), resAll TD σ rs = some vs →
    ∃ xs : List Value, ArgsR c vs xs ∧ (rs.mapM g : Sem (List Value)).run P c.w = .ok xs c.w := by
  intro rs
  induction rs with
  | nil => intro vs h; simp [resAll] at h; subst h; exact ⟨[], ⟨rfl, fun j hj => by simp at hj⟩, rfl⟩
  | cons r rs ih =>
    intro vs h
    simp only [resAll] at h
    split at h
    · rename_i v vs' h1 h2
      simp at h; subst h
      obtain ⟨xs, hx, hrun⟩ := ih vs' h2
      cases r with
      | cell x t =>
        simp only [resC] at h1
        split at h1
        · rename_i fs n by_ z htd
          split at h1
          · rename_i id hv0
            split at h1
            · rename_i vs0 hl
              cases hc : Nat.beq vs0.length n with
              | false => rw [hc, cond_false] at h1; cases h1
              | true =>
                rw [hc, cond_true] at h1
                cases h1
                obtain ⟨u1, fi, hfi, hfs, _⟩ := hT.ok _ _ htd
                have hp := ht.t x
                rw [hv0] at hp
                rw [ht.h] at hl
                obtain ⟨y, cs, ey, hV, g0, hy, hl2⟩ := loadAgg_run (P := P) hr u1 hfi (by rw [hfs]; exact (Nat.eq_of_beq_eq_true hc).symm) hl hp
                refine ⟨.agg cs :: xs, ⟨by simp [hx.1], fun j hj => ?_⟩, ?_⟩
                · cases j with
                  | zero => simpa using hV
                  | succ j => simpa using hx.2 j (by simpa using hj)
                · have e : (asAddr (a.tmps.getD x undef)).run P c.w = .ok ⟨g0, 0, none⟩ c.w := by rw [hy]; rfl
                  simp only [List.mapM_cons, hgc, Sem.run_bind, Sem.run_pure, Result.andThen_ok, hrun, e, hl2]
            · cases h1
          · cases h1
        · cases h1
      | tmp t =>
        simp [resC] at h1; subst h1
        refine ⟨a.tmps.getD t undef :: xs, ⟨by simp [hx.1], fun j hj => ?_⟩, ?_⟩
        · cases j with
          | zero => simpa using ht.t t
          | succ j => simpa using hx.2 j (by simpa using hj)
        · simp only [List.mapM_cons, hg, Sem.run_bind, Sem.run_pure, Result.andThen_ok, hrun]
    · cases h

theorem argTs_get : ∀ (args : List V) (n t : Nat), getT (argTs n args) t = if n ≤ t ∧ t < n + args.length then args.getD (t - n) .junk else .junk := by
  intro args
  induction args with
  | nil => intro n t; simp [argTs, getT]
  | cons v args ih =>
    intro n t
    simp only [argTs, getT]
    by_cases h : n = t
    · subst h; simp [nbeq_self]
    · rw [nbeq_ne h, cond_false, ih]
      by_cases h2 : n + 1 ≤ t ∧ t < n + 1 + args.length
      · have h3 : n ≤ t ∧ t < n + (v :: args).length := by simp; omega
        rw [if_pos h2, if_pos h3]
        have : t - n = (t - (n + 1)) + 1 := by omega
        rw [this]; simp
      · have h3 : ¬ (n ≤ t ∧ t < n + (v :: args).length) := by simp; omega
        rw [if_neg h2, if_neg h3]

/-- A function does what the small machine does. -/
theorem funC_calls (hT : TyOk P TD) (hK : KOk P K) (hD : DrawOk P TD K drawOk) {f : FuncId} {fn : Func} (hf : P.funcs[f]? = some fn) {args : List V} {κ : V → List E → R} {c : Cx}
    (h : funC TD K ann drawOk fuel fn args c.h κ = some r) (hr : Rel c) {cargs : Array Value} (ha : ArgsR c args cargs.toList) :
    Calls P f cargs c.w fun e w' => ∃ x v c', e = .returned x ∧ κ v c'.h = some r ∧ Ext c c' ∧ Rel c' ∧ VR c' v x ∧ c'.w = w' ∧
      (v.out1 = true ∨ ∃ vs, v = .tup vs ∧ vs.all V.out1 = true) ∧ c'.h.all E.out = true := by
  unfold funC at h
  split at h
  · rename_i code hb
    refine calls_of_wp hf hb ?_
    have hsz : cargs.size = args.length := by have := ha.1; simpa using this
    have ht : RelT c { n := max fn.ntmps args.length, t := argTs 0 args, h := c.h } { tmps := cargs ++ Array.replicate (fn.ntmps - cargs.size) undef, defers := [] } := by
      refine ⟨by simp [hsz]; omega, rfl, rfl, fun t => ?_⟩
      simp only [argTs_get]
      by_cases hlt : t < args.length
      · have h1 : 0 ≤ t ∧ t < 0 + args.length := by omega
        rw [if_pos h1, Nat.sub_zero]
        have e : (cargs ++ Array.replicate (fn.ntmps - cargs.size) undef).getD t undef = cargs.toList.getD t undef := by
          have : t < cargs.size := by omega
          simp [Array.getElem?_append, this, List.getD]
        rw [e]; exact ha.2 t hlt
      · have h1 : ¬ (0 ≤ t ∧ t < 0 + args.length) := by omega
        rw [if_neg h1]; exact trivial
    refine wp_mono (denC_wp hT hK hD code _ _ c _ h hr ht (Nat.le_refl _)) ?_
    rintro e a' w' ⟨x, σ', c', rfl, h1, h2, h3, h4, rfl⟩
    have fin : (match resAll TD σ' fn.results.toList with
        | some vs => outC c.h.length vs σ'.h κ
        | none => none) = some r → a'.defers = [] ∧ ∃ v, (results fn a'.tmps).run P c'.w = .ok v c'.w ∧ ∃ x v' c2, Ending.returned v = .returned x ∧ κ v' c2.h = some r ∧ Ext c c2 ∧ Rel c2 ∧ VR c2 v' x ∧ c2.w = c'.w ∧
          (v'.out1 = true ∨ ∃ vs, v' = .tup vs ∧ vs.all V.out1 = true) ∧ c2.h.all E.out = true := by
      intro hh
      split at hh
      · rename_i vs hvs
        obtain ⟨g, hg, hgc, hgr⟩ : ∃ g : ResultVar → Sem Value, (∀ t, g (.tmp t) = pure (a'.tmps.getD t undef)) ∧ (∀ x t, g (.cell x t) = do loadVar t (← asAddr (a'.tmps.getD x undef))) ∧ results fn a'.tmps = (do let vs ← fn.results.mapM g; pure (if h : vs.size = 1 then vs[0] else .tuple vs)) :=
          ⟨_, fun t => rfl, fun x t => rfl, rfl⟩
        obtain ⟨xs, hxs, hrun⟩ := resAll_ok hT h3 h4 g hg hgc _ _ hvs
        have hres : (results fn a'.tmps).run P c'.w = .ok (if h : xs.length = 1 then xs[0] else .tuple xs.toArray) c'.w := by
          rw [hgr, Array.mapM_eq_mapM_toList]
          simp only [Sem.run_bind, Sem.run_map, hrun, Result.andThen_ok, Sem.run_pure]
          congr 1
        have hv : ∀ v ∈ vs, ∃ x, VR c' v x := by
          intro v hv
          obtain ⟨j, hj, rfl⟩ := List.getElem_of_mem hv
          have := hxs.2 j hj
          have e : vs.getD j .junk = vs[j] := by simp [List.getD, hj]
          rw [e] at this
          exact ⟨_, this⟩
        obtain ⟨k1, k2, k3⟩ := keep_ok h3 h2.len hv
        have hE2 := pick_ext (c := c') k3
        have hR2 := pick_rel h3 k1 k2
        have hσ := h4.h
        unfold outC at hh
        rw [hσ] at hh
        obtain ⟨ho, hh⟩ := bif_some hh
        simp only [Bool.and_eq_true] at ho
        have hEE := h2.trans hE2
        have hExt : Ext c (c'.pick (keepIds c.h.length vs c'.h)) := ⟨hEE.F, hEE.os, hEE.tape, hEE.output, hEE.size, hEE.block, hEE.own, hEE.len, hEE.ids⟩
        have hall : ∀ j, j < vs.length → VR (c'.pick (keepIds c.h.length vs c'.h)) ((vs.map fun v => v.re (keepIds c.h.length vs c'.h)).getD j .junk) (xs.getD j undef) := fun j hj => by
          have e : (vs.map fun v => v.re (keepIds c.h.length vs c'.h)).getD j .junk = (vs.getD j .junk).re (keepIds c.h.length vs c'.h) := by simp [List.getD, hj]
          rw [e]; exact pick_vr (hxs.2 j hj)
        refine ⟨h4.defers, _, hres, ?_⟩
        have hlen := hxs.1
        split at hh
        · rename_i v0 hv0
          have hl1 : vs.length = 1 := by have := congrArg List.length hv0; simpa using this
          have hx1 : xs.length = 1 := by omega
          refine ⟨_, v0, _, rfl, hh, hExt, hR2, ?_, rfl, .inl ?_, ho.2⟩
          · have := hall 0 (by omega)
            rw [hv0] at this
            rw [dif_pos hx1]
            have e : xs.getD 0 undef = xs[0] := by simp [List.getD, hx1]
            rw [e] at this
            simpa using this
          · have := ho.1
            rw [hv0] at this
            simpa using this
        · rename_i hne
          have hx1 : ¬ xs.length = 1 := by
            intro hx1
            have hl1 : vs.length = 1 := by omega
            obtain ⟨v0, rfl⟩ := List.length_eq_one_iff.1 hl1
            exact hne _ rfl
          refine ⟨_, .tup (vs.map fun v => v.re (keepIds c.h.length vs c'.h)), _, rfl, hh, hExt, hR2, ?_, rfl, .inr ⟨_, rfl, ho.1⟩, ho.2⟩
          rw [dif_neg hx1]
          refine ⟨xs.toArray, rfl, by simp [hlen], fun j hj => ?_⟩
          have hj' : j < vs.length := by simpa using hj
          have h5 := hall j hj'
          have e : xs.toArray.getD j undef = xs.getD j undef := by simp [List.getD]
          rw [e]
          have hnt : ∀ ws, (vs.map fun v => v.re (keepIds c.h.length vs c'.h)).getD j .junk ≠ .tup ws := by
            intro ws hh2
            have e2 : (vs.map fun v => v.re (keepIds c.h.length vs c'.h)).getD j .junk = (vs.getD j .junk).re (keepIds c.h.length vs c'.h) := by simp [List.getD, hj']
            rw [e2] at hh2
            cases hv2 : vs.getD j .junk <;> rw [hv2] at hh2 <;> simp [V.re, V.re0] at hh2
            all_goals (split at hh2 <;> cases hh2)
          exact (vr_eq hnt).1 h5
      · cases hh
    cases x with
    | exit id => cases h1
    | normal => exact fin h1
    | ret => exact fin h1
  · cases h
end

end Go.Proofs.Ythcidiihfjjpdaa.D
/- Regions whose order is drawn: every order comes to the same (the walk over all orders). Conditions: those of each theorem. -/
namespace Go.Proofs.Ythcidiihfjjpdaa.D
open Go.RowKit
set_option linter.unusedVariables false
set_option linter.unusedSimpArgs false

section
variable {P : Program} {TD : TypeId → Option TI} {K : FuncId → List V → List E → (V → List E → R) → R}

/-- One operation in the written order. -/
def StepC (TD : TypeId → Option TI) (K : FuncId → List V → List E → (V → List E → R) → R) (ops : Array Oper) (o : Oper) (σ σ' : St) (v : V) : Prop :=
  (∀ t, getT σ'.t t = if o.dst = some t ∧ t < σ.n then v else getT σ.t t) ∧ σ'.n = σ.n ∧
  ((∃ g want t, o.guard = some (g, want) ∧ (ops[g]?).bind (·.dst) = some t ∧ (getT σ.t t = .tup [] ∨ ∃ b, getT σ.t t = .bool b ∧ (b == want) = false) ∧ v = .tup [] ∧ σ'.h = σ.h) ∨
   (∃ σ1 : St, (∀ t, getT σ1.t t = getT σ.t t) ∧ σ1.h = σ.h ∧ (∀ κ2, opC TD K o σ1 κ2 = κ2 v σ'.h) ∧
     (o.guard = none ∨ ∃ g want t b, o.guard = some (g, want) ∧ (ops[g]?).bind (·.dst) = some t ∧ getT σ.t t = .bool b ∧ (b == want) = true)))

theorem put_get (σ : St) (d : Option Nat) (v : V) : (∀ t, getT (σ.put d v).t t = if d = some t ∧ t < σ.n then v else getT σ.t t) ∧ (σ.put d v).n = σ.n ∧ (σ.put d v).h = σ.h := by
  cases d with
  | none => exact ⟨fun t => by simp [St.put], rfl, rfl⟩
  | some n =>
    unfold St.put
    by_cases hn : n < σ.n
    · have hb : Nat.blt n σ.n = true := by simpa [Nat.blt_eq] using hn
      simp only [hb, cond_true]
      refine ⟨fun t => ?_, by first | rfl | trivial, by first | rfl | trivial⟩
      rw [getT_putT]
      by_cases ht : n = t
      · subst ht; simp [hn]
      · simp [ht]
    · have hb : Nat.blt n σ.n = false := by
        cases hx : Nat.blt n σ.n with
        | false => rfl
        | true => rw [Nat.blt_eq] at hx; omega
      simp only [hb, cond_false]
      refine ⟨fun t => ?_, by first | rfl | trivial, by first | rfl | trivial⟩
      by_cases ht : n = t
      · subst ht; simp [hn]
      · simp [ht]
theorem put_known {σ : St} {t : Nat} {b : Bool} (hb : getT σ.t t = .bool b) : (∀ u, getT (σ.put (some t) (.bool b)).t u = getT σ.t u) ∧ (σ.put (some t) (.bool b)).n = σ.n ∧ (σ.put (some t) (.bool b)).h = σ.h := by
  obtain ⟨h1, h2, h3⟩ := put_get σ (some t) (.bool b)
  refine ⟨fun u => ?_, h2, h3⟩
  rw [h1]
  split
  · rename_i hh
    obtain ⟨e, _⟩ := hh
    cases e
    exact hb.symm
  · rfl

theorem trace_of (hK : KOk P K) {ops : Array Oper} {κ : St → R} {r : V × List E} : ∀ (l : List Oper) (σ : St), opsC TD K ops l σ κ = some r →
    ∃ (S : Nat → St) (val : Nat → V), S 0 = σ ∧ (∀ i, i < l.length → StepC TD K ops (l.getD i default) (S i) (S (i + 1)) (val i)) ∧ κ (S l.length) = some r := by
  intro l
  induction l with
  | nil => intro σ h; exact ⟨fun _ => σ, fun _ => .junk, rfl, fun i hi => by simp at hi, h⟩
  | cons o l ih =>
    intro σ h
    have fin : ∀ (σ' : St) (v : V), StepC TD K ops o σ σ' v → opsC TD K ops l σ' κ = some r →
        ∃ (S : Nat → St) (val : Nat → V), S 0 = σ ∧ (∀ i, i < (o :: l).length → StepC TD K ops ((o :: l).getD i default) (S i) (S (i + 1)) (val i)) ∧ κ (S (o :: l).length) = some r := by
      intro σ' v hs hl
      obtain ⟨S, val, h1, h2, h3⟩ := ih σ' hl
      refine ⟨fun i => match i with | 0 => σ | i + 1 => S i, fun i => match i with | 0 => v | i + 1 => val i, rfl, fun i hi => ?_, h3⟩
      cases i with
      | zero => simp only [List.getD_cons_zero]; rw [h1]; exact hs
      | succ i => simp only [List.getD_cons_succ]; exact h2 i (by simpa using hi)
    have exec : ∀ (σ1 : St), (∀ t, getT σ1.t t = getT σ.t t) → σ1.n = σ.n → σ1.h = σ.h → (o.guard = none ∨ ∃ g want t b, o.guard = some (g, want) ∧ (ops[g]?).bind (·.dst) = some t ∧ getT σ.t t = .bool b ∧ (b == want) = true) →
        opC TD K o σ1 (fun v h => opsC TD K ops l (St.put { σ1 with h } o.dst v) κ) = some r →
        ∃ (S : Nat → St) (val : Nat → V), S 0 = σ ∧ (∀ i, i < (o :: l).length → StepC TD K ops ((o :: l).getD i default) (S i) (S (i + 1)) (val i)) ∧ κ (S (o :: l).length) = some r := by
      intro σ1 g1 g2 g3 hg h1
      obtain ⟨v, h', e1, e2⟩ := opC_det hK.law h1
      obtain ⟨p1, p2, p3⟩ := put_get { σ1 with h := h' } o.dst v
      refine fin _ v ⟨fun t => ?_, p2.trans g2, .inr ⟨σ1, g1, g3, fun κ2 => ?_, hg⟩⟩ e1
      · rw [p1 t]
        show (if o.dst = some t ∧ t < σ1.n then v else getT σ1.t t) = _
        rw [g2, g1]
      · rw [p3]; exact e2 κ2
    have skip : ∀ (g : Nat) (want : Bool) (t : Nat) (b : Bool), o.guard = some (g, want) → (ops[g]?).bind (·.dst) = some t → getT σ.t t = .bool b → (b == want) = false →
        opsC TD K ops l ((σ.put (some t) (.bool b)).put o.dst (.tup [])) κ = some r →
        ∃ (S : Nat → St) (val : Nat → V), S 0 = σ ∧ (∀ i, i < (o :: l).length → StepC TD K ops ((o :: l).getD i default) (S i) (S (i + 1)) (val i)) ∧ κ (S (o :: l).length) = some r := by
      intro g want t b e1 e2 e3 e4 hl
      obtain ⟨k1, k2, k3⟩ := put_known e3
      obtain ⟨p1, p2, p3⟩ := put_get (σ.put (some t) (.bool b)) o.dst (.tup [])
      refine fin _ (.tup []) ⟨fun u => ?_, p2.trans k2, .inl ⟨g, want, t, e1, e2, .inr ⟨b, e3, e4⟩, rfl, p3.trans k3⟩⟩ hl
      rw [p1 u, k1 u, k2]
    unfold opsC at h
    split at h
    · rename_i hg
      exact exec σ (fun _ => rfl) rfl rfl (.inl hg) h
    · rename_i g want hg
      split at h
      · rename_i t ht
        split at h
        · rename_i b hb
          obtain ⟨k1, k2, k3⟩ := put_known hb
          cases b with
          | true =>
            rw [cond_true] at h
            cases want with
            | true => exact exec _ k1 k2 k3 (.inr ⟨g, true, t, true, hg, ht, hb, rfl⟩) h
            | false => exact skip g false t true hg ht hb rfl h
          | false =>
            rw [cond_false] at h
            cases want with
            | true => exact skip g true t false hg ht hb rfl h
            | false => exact exec _ k1 k2 k3 (.inr ⟨g, false, t, false, hg, ht, hb, rfl⟩) h
        · rename_i hb
          obtain ⟨p1, p2, p3⟩ := put_get σ o.dst (.tup [])
          exact fin _ (.tup []) ⟨p1, p2, .inl ⟨g, want, t, hg, ht, .inl hb, rfl, p3⟩⟩ h
        · cases h
      · cases h

theorem mask_bit {o : Oper} {M : List Nat} {i : Nat} (h : (maskOf o M).testBit i = true) : ∃ e ∈ o.after, Region.binds .any e = true ∧ (e.on = i ∨ (M.getD e.on 0).testBit i = true) := by
  have key : ∀ (l : List Edge) (s : Nat), (l.foldl (fun s e => bif Region.binds .any e then (s ||| 2 ^ e.on) ||| M.getD e.on 0 else s) s).testBit i = true →
      s.testBit i = true ∨ ∃ e ∈ l, Region.binds .any e = true ∧ (e.on = i ∨ (M.getD e.on 0).testBit i = true) := by
    intro l
    induction l with
    | nil => intro s h; exact .inl h
    | cons e l ih =>
      intro s h
      simp only [List.foldl_cons] at h
      rcases ih _ h with h1 | ⟨e', h1, h2⟩
      · cases hb : Region.binds .any e with
        | false => rw [hb, cond_false] at h1; exact .inl h1
        | true =>
          rw [hb, cond_true, Nat.testBit_or, Nat.testBit_or, Nat.testBit_two_pow] at h1
          simp only [Bool.or_eq_true, decide_eq_true_eq] at h1
          rcases h1 with (h1 | h1) | h1
          · exact .inl h1
          · exact .inr ⟨e, by simp, hb, .inl h1⟩
          · exact .inr ⟨e, by simp, hb, .inr h1⟩
      · exact .inr ⟨e', by simp [h1], h2⟩
  rcases key o.after.toList 0 h with h1 | ⟨e, h1, h2⟩
  · simp at h1
  · exact ⟨e, by simpa using h1, h2⟩

/-- What the check of a drawn region says. -/
structure DrawD (TD : TypeId → Option TI) (pureF rowsF : FuncId → Bool) (ops : Array Oper) (M : List Nat) : Prop where
  mask : ∀ j o, ops[j]? = some o → M.getD j 0 = maskOf o M
  lt : ∀ j o, ops[j]? = some o → ∀ e ∈ o.after, Region.binds .any e = true → e.on < j
  pair : ∀ i j oi oj, ops[i]? = some oi → ops[j]? = some oj → i ≠ j → pairOk TD pureF rowsF ops M i j oi oj = true

theorem drawOk_spec {pf : FuncId → Bool × Bool} {ops : Array Oper} (h : drawOk TD pf ops = true) : DrawD TD (fun f => (pf f).1) (fun f => (pf f).2) ops (reachL ops.toList []) := by
  unfold drawOk at h
  simp only [List.all_eq_true, List.mem_range] at h
  have hj : ∀ j oj, ops[j]? = some oj → _ := fun j oj ho => by
    have := h j (Array.getElem?_eq_some_iff.1 ho).1
    rw [ho] at this
    exact this
  refine ⟨fun j o ho => ?_, fun j o ho e he hb => ?_, fun i j oi oj hi ho hne => ?_⟩
  · have := hj j o ho
    simp only [Bool.and_eq_true] at this
    exact Nat.eq_of_beq_eq_true this.1.1.1
  · have := hj j o ho
    simp only [Bool.and_eq_true, List.all_eq_true] at this
    have h2 := this.1.1.2 e (by simpa using he)
    simp [hb, Nat.blt_eq] at h2
    exact h2
  · have := hj j oj ho
    simp only [Bool.and_eq_true, List.all_eq_true, List.mem_range] at this
    have h2 := this.2 i (Array.getElem?_eq_some_iff.1 hi).1
    rw [hi] at h2
    simp only [Bool.or_eq_true] at h2
    rcases h2 with h2 | h2
    · exact absurd (Nat.eq_of_beq_eq_true h2) hne
    · exact h2

theorem free_quiet {pureF : FuncId → Bool} {op : Op} (h : heapFree TD op = true) : quietOp TD pureF op = true := by
  cases op <;> first | (simp [heapFree] at h; done) | rfl | exact h | skip
  case call c =>
    obtain ⟨callee, cargs, cats⟩ := c
    cases callee with
    | builtin b => cases b <;> first | (simp [heapFree] at h; done) | rfl
    | _ => simp [heapFree] at h

/-- A draw turns nothing. -/
def Cx.drew (c : Cx) : Cx := { c with w := { c.w with drawn := c.w.drawn + 1 } }
theorem ext_drew (c : Cx) : Ext c c.drew := ⟨rfl, rfl, rfl, rfl, Nat.le_refl _, fun _ _ _ => rfl, fun _ h => .inl h, Nat.le_refl _, fun _ _ => ⟨rfl, sameE_refl _⟩⟩
theorem rel_drew {c : Cx} (hr : Rel c) : Rel c.drew :=
  ⟨hr.one, fun i hi => (hr.ent i hi).keep (ext_drew c) hi (fun _ _ => rfl), hr.inj, hr.lt, hr.far⟩

/-- A pure function's call leaves the blocks as they are. -/
def PureOk (K : FuncId → List V → List E → (V → List E → R) → R) (pureF : FuncId → Bool) : Prop := ∀ f, pureF f = true → ∀ args h κ, K f args h κ = K f args h fun v _ => κ v h

/-- A call that writes into no row leaves the rows. -/
def KeepOk (K : FuncId → List V → List E → (V → List E → R) → R) (rowsF : FuncId → Bool) : Prop :=
  ∀ f, rowsF f = true → ∀ args h v h', K f args h (fun v h => some (v, h)) = some (v, h') → ∀ id l, getE h id = .row l → getE h' id = .row l
theorem opC_keep {rowsF : FuncId → Bool} (hw : KeepOk K rowsF) {o : Oper} (hk : keepOp rowsF o.op = true) {σ : St} {v : V} {h' : List E} (hs : ∀ κ2, opC TD K o σ κ2 = κ2 v h') :
    ∀ id l, getE σ.h id = .row l → getE h' id = .row l := by
  obtain ⟨dst, op, ty, pos, after, guard⟩ := o
  cases op <;> first | (simp [keepOp] at hk; done) | skip
  case call c =>
    obtain ⟨callee, cargs, cats⟩ := c
    cases callee with
    | value f =>
      cases f with
      | func f => exact hw f hk _ _ _ _ (hs fun v h => some (v, h))
      | _ => simp [keepOp] at hk
    | _ => simp [keepOp] at hk
theorem len_quiet {pureF : FuncId → Bool} {op : Op} (h : lenOp op = true) : quietOp TD pureF op = true := by
  cases op <;> first | (simp [lenOp] at h; done) | skip
  case call c =>
    obtain ⟨callee, cargs, cats⟩ := c
    cases callee with
    | builtin b => cases b <;> first | (simp [lenOp] at h; done) | rfl
    | _ => simp [lenOp] at h
theorem freeOp_quiet {pureF : FuncId → Bool} {op : Op} (h : freeOp TD op = true) : quietOp TD pureF op = true := by
  unfold freeOp at h
  rcases Bool.or_eq_true_iff.1 h with h | h
  · exact free_quiet h
  · exact len_quiet h
theorem freeOp_no {op : Op} (h : freeOp TD op = false) : heapFree TD op = false ∧ lenOp op = false := by
  unfold freeOp at h
  exact Bool.or_eq_false_iff.1 h

theorem draw_ok (hT : TyOk P TD) (hK : KOk P K) (hm : P.follows .mixedOrders = true) {pf : FuncId → Bool × Bool} (hp : PureOk K fun f => (pf f).1) (hw : KeepOk K fun f => (pf f).2) : DrawOk P TD K (drawOk TD pf) := by
  intro ops Q r κ c0 σ a c id hd h hE hr ht hQ
  refine wp_region_any hm ?_
  have D := drawOk_spec hd
  clear hd
  revert D hp hw
  generalize (fun f => (pf f).1) = pureF
  generalize (fun f => (pf f).2) = rowsF
  intro hp hw D
  revert D
  generalize reachL ops.toList [] = M
  intro D
  obtain ⟨S, val, hS0, hstep0, hfin⟩ := trace_of hK ops.toList σ h
  have hn : ops.toList.length = ops.size := by simp
  rw [hn] at hstep0 hfin
  have hstep : ∀ i o, ops[i]? = some o → StepC TD K ops o (S i) (S (i + 1)) (val i) := fun i o ho => by
    have hi := (Array.getElem?_eq_some_iff.1 ho).1
    have e : ops.toList.getD i default = o := by simp [List.getD, ho]
    have := hstep0 i hi
    rw [e] at this; exact this
  have hSn : ∀ i, i ≤ ops.size → (S i).n = σ.n := by
    intro i
    induction i with
    | zero => intro _; rw [hS0]
    | succ i ih =>
      intro hi
      have ho : ops[i]? = some ops[i] := by simp
      exact (hstep i _ ho).2.1.trans (ih (by omega))
  -- what is written before
  have hT0 : ∀ i, i ≤ ops.size → ∀ t, (∃ i' o', i' < i ∧ ops[i']? = some o' ∧ o'.dst = some t ∧ t < σ.n ∧ getT (S i).t t = val i') ∨
      ((∀ i' o', i' < i → ops[i']? = some o' → o'.dst = some t → ¬ t < σ.n) ∧ getT (S i).t t = getT σ.t t) := by
    intro i
    induction i with
    | zero => intro _ t; exact .inr ⟨fun i' o' h => by omega, by rw [hS0]⟩
    | succ i ih =>
      intro hi t
      have ho : ops[i]? = some ops[i] := by simp
      have hs := (hstep i _ ho).1 t
      rw [hSn i (by omega)] at hs
      by_cases hw : ops[i].dst = some t ∧ t < σ.n
      · rw [if_pos hw] at hs
        exact .inl ⟨i, _, by omega, ho, hw.1, hw.2, hs⟩
      · rw [if_neg hw] at hs
        rcases ih (by omega) t with ⟨i', o', h1, h2, h3, h4, h5⟩ | ⟨h1, h2⟩
        · exact .inl ⟨i', o', by omega, h2, h3, h4, hs.trans h5⟩
        · refine .inr ⟨fun i' o' hlt h3 h4 h5 => ?_, hs.trans h2⟩
          rcases Nat.lt_or_ge i' i with h6 | h6
          · exact h1 i' o' h6 h3 h4 h5
          · obtain rfl : i' = i := by omega
            rw [ho] at h3; cases h3
            exact hw ⟨h4, h5⟩
  -- quiet operations leave the blocks
  have hquiet : ∀ i o, ops[i]? = some o → quietOp TD pureF o.op = true → (S (i + 1)).h = (S i).h := by
    intro i o ho hq
    rcases (hstep i o ho).2.2 with ⟨g, want, t, _, _, _, _, h1⟩ | ⟨σ1, h1, h2, h3, _⟩
    · exact h1
    · have e1 := h3 (fun v h => some (v, h))
      have e2 := h3 (fun v _ => some (v, σ1.h))
      rw [opC_quiet hp hq] at e1
      rw [e2] at e1
      have : σ1.h = (S (i + 1)).h := by injection e1 with e; injection e
      rw [← this, h2]
  have hconst : ∀ q, q ≤ ops.size → ∀ p, p ≤ q → (∀ e o, p ≤ e → e < q → ops[e]? = some o → quietOp TD pureF o.op = true) → (S q).h = (S p).h := by
    intro q
    induction q with
    | zero => intro _ p hpq _; obtain rfl : p = 0 := by omega
              rfl
    | succ q ih =>
      intro hq p hpq hall
      rcases Nat.lt_or_ge q p with h1 | h1
      · obtain rfl : p = q + 1 := by omega
        rfl
      · have ho : ops[q]? = some ops[q] := by simp
        rw [hquiet q _ ho (hall q _ h1 (by omega) ho)]
        exact ih (by omega) p h1 (fun e o a1 a2 => hall e o a1 (by omega))
  -- the invariant
  let Inv : Array Bool → Act → Cx → Prop := fun L a c =>
    Ext c0 c ∧ Rel c ∧ a.tmps.size = σ.n ∧ a.defers = [] ∧ L.size = ops.size ∧
    (∀ j o, ops[j]? = some o → L.getD j false = true → ∀ e ∈ o.after, Region.binds .any e = true → L.getD e.on false = true) ∧
    (∀ t j o, ops[j]? = some o → o.dst = some t → t < σ.n → L.getD j false = true → VR c (val j) (a.tmps.getD t undef)) ∧
    (∀ t, (∀ j o, ops[j]? = some o → o.dst = some t → t < σ.n → L.getD j false = false) → VR c (getT σ.t t) (a.tmps.getD t undef)) ∧
    ∃ k, k ≤ ops.size ∧ c.h = (S k).h ∧ ∀ e o, ops[e]? = some o → quietOp TD pureF o.op = false → (L.getD e false = true ↔ e < k)
  -- what lies ahead is listed
  have hclose : ∀ (L : Array Bool), (∀ j o, ops[j]? = some o → L.getD j false = true → ∀ e ∈ o.after, Region.binds .any e = true → L.getD e.on false = true) →
      ∀ j o, ops[j]? = some o → (∀ e ∈ o.after, Region.binds .any e = true → L.getD e.on false = true) → ∀ i, (M.getD j 0).testBit i = true → L.getD i false = true := by
    intro L hdown j
    induction j using Nat.strongRecOn with
    | _ j ih =>
      intro o ho hpre i hi
      rw [D.mask j o ho] at hi
      obtain ⟨e, he, hb, h1⟩ := mask_bit hi
      have hl := hpre e he hb
      rcases h1 with rfl | h1
      · exact hl
      · have hlt := D.lt j o ho e he hb
        have hjs := (Array.getElem?_eq_some_iff.1 ho).1
        have ho' : ops[e.on]? = some ops[e.on] := by simp
        exact ih e.on hlt _ ho' (hdown e.on _ ho' hl) i h1
  -- all listed
  have hend : ∀ L a c, Inv L a c → (∀ j, j < ops.size → L.getD j false = true) → Q .normal a c.w := by
    rintro L a c ⟨i1, i2, i3, i4, i5, i6, i7, i8, k, k1, k2, k3⟩ hall
    have hk : (S ops.size).h = (S k).h := hconst ops.size (Nat.le_refl _) k k1 (fun e o a1 a2 ho => by
      cases hq : quietOp TD pureF o.op with
      | true => rfl
      | false => have := (k3 e o ho hq).1 (hall e a2); omega)
    refine hQ (S ops.size) c a hfin i1 i2 ⟨i3.trans (hSn _ (Nat.le_refl _)).symm, i4, hk.trans k2.symm, fun t => ?_⟩
    rcases hT0 ops.size (Nat.le_refl _) t with ⟨i', o', h1, h2, h3, h4, h5⟩ | ⟨h1, h2⟩
    · rw [h5]; exact i7 t i' o' h2 h3 h4 (hall i' h1)
    · rw [h2]
      exact i8 t (fun j o ho hdst hlt => absurd hlt (h1 j o (Array.getElem?_eq_some_iff.1 ho).1 ho hdst))
  -- one step
  have hone : ∀ L a c, Inv L a c → ∀ i, i ∈ Region.ready .any ops L → ∀ (N : Act → World → Prop), (∀ a' c', Inv (L.setIfInBounds i true) a' c' → N a' c'.w) → wpOp P ops Q i N a c.w := by
    rintro L a c ⟨i1, i2, i3, i4, i5, i6, i7, i8, k, k1, k2, k3⟩ i hi N hN
    obtain ⟨hun, o, ho, hpre⟩ := mem_ready.1 hi
    have hlt : i < ops.size := (Array.getElem?_eq_some_iff.1 ho).1
    have hun' : L.getD i false = false := by
      have : i < L.size := by omega
      simp [this] at hun ⊢; exact hun
    -- what i looks at
    have hahead : ∀ j, (M.getD i 0).testBit j = true → L.getD j false = true := hclose L i6 i o ho hpre
    have hbehind : ∀ j oj, ops[j]? = some oj → (M.getD j 0).testBit i = true → L.getD j false = false := fun j oj hoj hb => by
      cases hl : L.getD j false with
      | false => rfl
      | true =>
        have := hclose L i6 j oj hoj (i6 j oj hoj hl) i hb
        rw [hun'] at this; cases this
    have hlook : ∀ t, t ∈ o.looksAt ops → VR c (getT (S i).t t) (a.tmps.getD t undef) := by
      intro t htl
      have hpl : ∀ j oj, ops[j]? = some oj → j ≠ i → oj.dst = some t → before_ M j i = true := fun j oj hoj hne hdst => by
        have := D.pair j i oj o hoj ho hne
        simp only [pairOk, Bool.and_eq_true] at this
        have h2 := this.1.2
        rw [hdst] at h2
        have h3 : (o.looksAt ops).any (Nat.beq t) = true := any_beq.2 htl
        simp only [h3, cond_true] at h2
        exact h2
      rcases hT0 i (by omega) t with ⟨j, oj, h1, h2, h3, h4, h5⟩ | ⟨h1, h2⟩
      · rw [h5]
        refine i7 t j oj h2 h3 h4 (hahead j ?_)
        have hb := hpl j oj h2 (by omega) h3
        have hjl : Nat.blt j i = true := by simpa [Nat.blt_eq] using h1
        simpa [before_, hjl] using hb
      · rw [h2]
        refine i8 t (fun j oj hoj hdst htn => ?_)
        rcases Nat.lt_trichotomy j i with h6 | h6 | h6
        · exact absurd htn (h1 j oj h6 hoj hdst)
        · subst h6; exact hun'
        · have hb := hpl j oj hoj (by omega) hdst
          have hjl : Nat.blt j i = false := by
            cases hx : Nat.blt j i with
            | false => rfl
            | true => rw [Nat.blt_eq] at hx; omega
          simp only [before_, hjl, cond_false] at hb
          exact hbehind j oj hoj hb
    let σL : St := { n := σ.n, t := (o.looksAt ops).map fun t => (t, getT (S i).t t), h := c.h }
    have hL : RelT c σL a := ⟨i3, i4, rfl, fun t => by
      show VR c (getT ((o.looksAt ops).map fun t => (t, getT (S i).t t)) t) _
      rw [getT_live (fun t => getT (S i).t t)]
      split
      · rename_i hm; exact hlook t hm
      · exact trivial⟩
    have hLget : ∀ t, t ∈ o.looksAt ops → getT σL.t t = getT (S i).t t := fun t htl => by
      show getT ((o.looksAt ops).map fun t => (t, getT (S i).t t)) t = _
      rw [getT_live (fun t => getT (S i).t t), if_pos htl]
    -- the blocks at i
    have hheap : freeOp TD o.op = false → c.h = (S i).h := by
      intro hf
      rw [k2]
      have hpair : ∀ e oe, ops[e]? = some oe → e ≠ i → quietOp TD pureF oe.op = false → before_ M e i = true := fun e oe hoe hne hq => by
        have := D.pair e i oe o hoe ho hne
        simp only [pairOk, Bool.and_eq_true] at this
        have h2 := this.2
        have hfe : freeOp TD oe.op = false := by
          cases hx : freeOp TD oe.op with
          | false => rfl
          | true => rw [freeOp_quiet hx] at hq; cases hq
        obtain ⟨a1, a2⟩ := freeOp_no hf
        obtain ⟨b1, b2⟩ := freeOp_no hfe
        simp only [hq, a1, b1, lenKeep, a2, b2, Bool.false_and, Bool.and_false, Bool.or_self, cond_false] at h2
        exact h2
      rcases Nat.lt_or_ge i k with hik | hik
      · refine hconst k k1 i (by omega) (fun e oe a1 a2 hoe => ?_)
        cases hq : quietOp TD pureF oe.op with
        | true => rfl
        | false =>
          exfalso
          have hle := (k3 e oe hoe hq).2 a2
          rcases Nat.lt_or_ge i e with h6 | h6
          · have hb := hpair e oe hoe (by omega) hq
            have hjl : Nat.blt e i = false := by
              cases hx : Nat.blt e i with
              | false => rfl
              | true => rw [Nat.blt_eq] at hx; omega
            simp only [before_, hjl, cond_false] at hb
            rw [hbehind e oe hoe hb] at hle; cases hle
          · obtain rfl : e = i := by omega
            rw [hun'] at hle; cases hle
      · refine (hconst i (by omega) k hik (fun e oe a1 a2 hoe => ?_)).symm
        cases hq : quietOp TD pureF oe.op with
        | true => rfl
        | false =>
          exfalso
          have hb := hpair e oe hoe (by omega) hq
          have hjl : Nat.blt e i = true := by simpa [Nat.blt_eq] using a2
          simp only [before_, hjl, cond_true] at hb
          have := (k3 e oe hoe hq).1 (hahead e hb)
          omega
    -- the rows at i
    have hrows : lenOp o.op = true → ∀ id l, getE (S i).h id = .row l → getE c.h id = .row l := by
      intro hlo
      rw [k2]
      have hqo : quietOp TD pureF o.op = true := len_quiet hlo
      have hpair : ∀ e oe, ops[e]? = some oe → e ≠ i → quietOp TD pureF oe.op = false → (i < e ∧ keepOp rowsF oe.op = true) ∨ before_ M e i = true := fun e oe hoe hne hq => by
        have := D.pair e i oe o hoe ho hne
        simp only [pairOk, Bool.and_eq_true] at this
        have h2 := this.2
        have hfe : freeOp TD oe.op = false := by
          cases hx : freeOp TD oe.op with
          | false => rfl
          | true => rw [freeOp_quiet hx] at hq; cases hq
        obtain ⟨b1, b2⟩ := freeOp_no hfe
        have a1 : heapFree TD o.op = false := by
          cases hx : heapFree TD o.op with
          | false => rfl
          | true =>
            exfalso
            revert hlo hx
            cases o.op <;> first | (intro hlo; simp [lenOp] at hlo; done) | skip
            case call cc =>
              obtain ⟨callee, cargs, cats⟩ := cc
              cases callee with
              | builtin b => cases b <;> first | (intro hlo; simp [lenOp] at hlo; done) | (intro _ hx; simp [heapFree] at hx)
              | _ => intro hlo; simp [lenOp] at hlo
        simp only [hq, a1, b1, lenKeep, hlo, b2, Bool.false_and, Bool.and_false, Bool.false_or, Bool.or_false, Bool.and_true] at h2
        cases hk : keepOp rowsF oe.op with
        | false => right; rw [hk, Bool.and_false, cond_false] at h2; exact h2
        | true =>
          cases hb : Nat.blt i e with
          | false => right; rw [hb, Bool.false_and, cond_false] at h2; exact h2
          | true => left; exact ⟨by simpa [Nat.blt_eq] using hb, rfl⟩
      rcases Nat.lt_or_ge i k with hik | hik
      · have step : ∀ q, i ≤ q → q ≤ k → ∀ id l, getE (S i).h id = .row l → getE (S q).h id = .row l := by
          intro q
          induction q with
          | zero => intro h1 _ id l hg; obtain rfl : i = 0 := by omega
                    exact hg
          | succ q ih =>
            intro h1 h2 id l hg
            rcases Nat.lt_or_ge q i with h3 | h3
            · obtain rfl : i = q + 1 := by omega
              exact hg
            have hprev := ih h3 (by omega) id l hg
            have hoe : ops[q]? = some ops[q] := by simp
            cases hq : quietOp TD pureF (ops[q]).op with
            | true => rw [hquiet q _ hoe hq]; exact hprev
            | false =>
              have hne : q ≠ i := fun e => by
                subst e
                rw [ho] at hoe; injection hoe with hoe
                rw [← hoe, hqo] at hq; cases hq
              rcases hpair q _ hoe hne hq with ⟨_, hk⟩ | hb
              · rcases (hstep q _ hoe).2.2 with ⟨_, _, _, _, _, _, _, s6⟩ | ⟨σ1, _, s2, s3, _⟩
                · rw [s6]; exact hprev
                · exact opC_keep hw hk s3 id l (by rw [s2]; exact hprev)
              · exfalso
                have hle := (k3 q _ hoe hq).2 (by omega)
                have hjl : Nat.blt q i = false := by
                  cases hx : Nat.blt q i with
                  | false => rfl
                  | true => rw [Nat.blt_eq] at hx; omega
                simp only [before_, hjl, cond_false] at hb
                rw [hbehind q _ hoe hb] at hle; cases hle
        exact step k (by omega) (Nat.le_refl _)
      · have e : (S i).h = (S k).h := hconst i (by omega) k hik (fun e oe a1 a2 hoe => by
          cases hq : quietOp TD pureF oe.op with
          | true => rfl
          | false =>
            exfalso
            rcases hpair e oe hoe (by omega) hq with ⟨h6, _⟩ | hb
            · omega
            · have hjl : Nat.blt e i = true := by simpa [Nat.blt_eq] using a2
              simp only [before_, hjl, cond_true] at hb
              have := (k3 e oe hoe hq).1 (hahead e hb)
              omega)
        intro id l hg
        rw [← e]; exact hg
    -- the state behind i
    have hnext : ∀ (x : Value) (c' : Cx), Ext c c' → Rel c' → VR c' (val i) x → (freeOp TD o.op = true → c'.h = c.h) → (freeOp TD o.op = false → c'.h = (S (i + 1)).h) → Inv (L.setIfInBounds i true) (a.put o.dst x) c' := by
      intro x c' e1 e2 e3 e4 e5
      have hiL : i < L.size := by omega
      have hset : ∀ j, (L.setIfInBounds i true).getD j false = if j = i then true else L.getD j false := fun j => by
        by_cases hj : j = i
        · subst hj; simp [hiL]
        · have : ¬ i = j := fun e => hj e.symm
          simp [hj, Array.getElem?_setIfInBounds_ne this]
      have hdst : ∀ j oj t, ops[j]? = some oj → j ≠ i → oj.dst = some t → o.dst ≠ some t := fun j oj t hoj hne h1 h2 => by
        have := D.pair j i oj o hoj ho hne
        simp only [pairOk, Bool.and_eq_true] at this
        have h3 := this.1.1
        rw [h1, h2] at h3
        simp [nbeq_self] at h3
      have hput : ∀ t, o.dst ≠ some t → (a.put o.dst x).tmps.getD t undef = a.tmps.getD t undef := fun t hne => by
        cases hd : o.dst with
        | none => rfl
        | some d =>
          have : d ≠ t := fun e => hne (by rw [hd, e])
          simp [Act.put, Array.getElem?_setIfInBounds_ne this]
      have hsz : (a.put o.dst x).tmps.size = σ.n := by cases hd : o.dst <;> simp [Act.put, i3]
      have hdf : (a.put o.dst x).defers = [] := by cases hd : o.dst <;> simp [Act.put, i4]
      refine ⟨i1.trans e1, e2, hsz, hdf, by simpa using i5, fun j oj hoj hl e he hb => ?_, fun t j oj hoj hdj htn hl => ?_, fun t hall => ?_, ?_⟩
      · rw [hset]
        by_cases h1 : e.on = i
        · rw [if_pos h1]
        · rw [if_neg h1]
          rw [hset] at hl
          by_cases h2 : j = i
          · subst h2
            rw [ho] at hoj; cases hoj
            exact hpre e he hb
          · rw [if_neg h2] at hl; exact i6 j oj hoj hl e he hb
      · rw [hset] at hl
        by_cases h2 : j = i
        · subst h2
          rw [ho] at hoj; cases hoj
          have hlt' : t < a.tmps.size := by omega
          have : (a.put o.dst x).tmps.getD t undef = x := by rw [hdj]; simp [Act.put, hlt']
          rw [this]; exact e3
        · rw [if_neg h2] at hl
          rw [hput t (hdst j oj t hoj h2 hdj)]
          exact e1.vr (i7 t j oj hoj hdj htn hl)
      · have h3 : ¬ (o.dst = some t ∧ t < σ.n) := fun ⟨h4, h5⟩ => by
          have := hall i o ho h4 h5
          rw [hset, if_pos rfl] at this; cases this
        have hsame : (a.put o.dst x).tmps.getD t undef = a.tmps.getD t undef := by
          by_cases h4 : o.dst = some t
          · have h5 : a.tmps.size ≤ t := by
              rcases Nat.lt_or_ge t σ.n with h6 | h6
              · exact absurd ⟨h4, h6⟩ h3
              · omega
            rw [h4]
            simp [Act.put, Array.setIfInBounds_eq_of_size_le h5]
          · exact hput t h4
        rw [hsame]
        refine e1.vr (i8 t (fun j oj hoj h4 h5 => ?_))
        have := hall j oj hoj h4 h5
        rw [hset] at this
        by_cases h2 : j = i
        · rw [if_pos h2] at this; cases this
        · rw [if_neg h2] at this; exact this
      · cases hq : quietOp TD pureF o.op with
        | true =>
          refine ⟨k, k1, ?_, fun e oe hoe hqe => ?_⟩
          · cases hf : freeOp TD o.op with
            | true => rw [e4 hf]; exact k2
            | false => rw [e5 hf, hquiet i o ho hq, ← hheap hf]; exact k2
          · rw [hset]
            by_cases h2 : e = i
            · subst h2
              rw [ho] at hoe; cases hoe
              rw [hq] at hqe; cases hqe
            · rw [if_neg h2]; exact k3 e oe hoe hqe
        | false =>
          have hf : freeOp TD o.op = false := by
            cases hx : freeOp TD o.op with
            | false => rfl
            | true => rw [freeOp_quiet hx] at hq; cases hq
          refine ⟨i + 1, by omega, e5 hf, fun e oe hoe hqe => ?_⟩
          rw [hset]
          by_cases h2 : e = i
          · subst h2; simp
          · rw [if_neg h2]
            have hfe : freeOp TD oe.op = false := by
              cases hx : freeOp TD oe.op with
              | false => rfl
              | true => rw [freeOp_quiet hx] at hqe; cases hqe
            obtain ⟨a1, a2⟩ := freeOp_no hf
            obtain ⟨b1, b2⟩ := freeOp_no hfe
            have hb : before_ M e i = true := by
              have := D.pair e i oe o hoe ho h2
              simp only [pairOk, Bool.and_eq_true] at this
              have h3 := this.2
              simp only [hq, hqe, a1, b1, lenKeep, a2, b2, Bool.false_and, Bool.and_false, Bool.or_self, cond_false] at h3
              exact h3
            rcases Nat.lt_or_ge e i with h6 | h6
            · have hjl : Nat.blt e i = true := by simpa [Nat.blt_eq] using h6
              simp only [before_, hjl, cond_true] at hb
              exact ⟨fun _ => by omega, fun _ => hahead e hb⟩
            · have hjl : Nat.blt e i = false := by
                cases hx : Nat.blt e i with
                | false => rfl
                | true => rw [Nat.blt_eq] at hx; omega
              simp only [before_, hjl, cond_false] at hb
              rw [hbehind e oe hoe hb]
              exact ⟨fun h => (by cases h), fun h => (by omega)⟩
    unfold wpOp
    simp only [ho]
    have hlookg : ∀ g want t, o.guard = some (g, want) → (ops[g]?).bind (·.dst) = some t → t ∈ o.looksAt ops := fun g want t h1 h2 => by
      unfold Oper.looksAt
      rw [h1]
      simp [h2]
    rcases (hstep i o ho).2.2 with ⟨g, want, t, s1, s2, s3, s5, s6⟩ | ⟨σ1, s1, s2, s3, s4⟩
    · -- passed by
      have hw : Region.wanted o (yielded ops a.tmps) = false := by
        rcases s3 with s3 | ⟨b, s3, s4⟩
        · exact guard_no hL s1 s2 (by rw [hLget t (hlookg g want t s1 s2)]; exact s3)
        · exact (guard_ok hL s1 s2 (by rw [hLget t (hlookg g want t s1 s2)]; exact s3)).trans s4
      rw [hw, if_neg (by decide)]
      refine hN _ c (hnext undef c (Ext.refl c) i2 (by rw [s5]; exact vr_undef) (fun _ => rfl) (fun hf => ?_))
      rw [s6]; exact hheap hf
    · -- carried out
      have hw : Region.wanted o (yielded ops a.tmps) = true := by
        rcases s4 with s4 | ⟨g, want, t, b, q1, q2, q3, q4⟩
        · unfold Region.wanted; rw [s4]
        · rw [guard_ok hL q1 q2 (by rw [hLget t (hlookg g want t q1 q2)]; exact q3)]; exact q4
      rw [hw, if_pos rfl]
      left
      have hev : ∀ x ∈ o.op.operands, σL.ev x = σ1.ev x := fun x hx => by
        cases x with
        | tmp t =>
          have htl : t ∈ o.looksAt ops := List.mem_append_left _ (List.mem_filterMap.2 ⟨.tmp t, by simpa using hx, rfl⟩)
          show getT σL.t t = getT σ1.t t
          rw [hLget t htl, s1 t]
        | _ => rfl
      cases hf : freeOp TD o.op with
      | false =>
        have hh : σL.h = σ1.h := by rw [s2]; exact hheap hf
        have hop : ∀ κ2, opC TD K o σL κ2 = κ2 (val i) (S (i + 1)).h := fun κ2 => (opC_congr hh hev).trans (s3 κ2)
        classical
        refine opC_wp hT hK (r := (val i, (S (i + 1)).h)) (κ := fun v h => if v = val i ∧ h = (S (i + 1)).h then some (val i, (S (i + 1)).h) else none) ((hop _).trans (by simp)) i2 hL (fun v c' x hk e1 e2 e3 => ?_)
        split at hk
        · rename_i hv
          obtain ⟨hv1, hv2⟩ := hv
          subst hv1
          exact hN _ c' (hnext x c' e1 e2 e3 (fun h => by rw [hf] at h; cases h) (fun _ => hv2))
        · cases hk
      | true =>
        have hop : ∀ κ2, opC TD K o σL κ2 = κ2 (val i) c.h := fun κ2 => by
          cases hh : heapFree TD o.op with
          | true =>
            rw [opC_free hh (S i).h]
            have hc := opC_congr (TD := TD) (K := K) (o := o) (σ := { σL with h := (S i).h }) (σ' := σ1) (κ := fun v _ => κ2 v σL.h) s2.symm hev
            rw [hc, s3]
          | false =>
            have hlo : lenOp o.op = true := by simpa [freeOp, hh] using hf
            have hs : opC TD K o { σL with h := (S i).h } (fun v h => some (v, h)) = some (val i, (S (i + 1)).h) :=
              (opC_congr (TD := TD) (K := K) (o := o) (σ := { σL with h := (S i).h }) (σ' := σ1) s2.symm hev).trans (s3 _)
            exact opC_len (σ := { σL with h := (S i).h }) hlo (h2 := c.h) (hrows hlo) hs κ2
        classical
        refine opC_wp hT hK (r := (val i, c.h)) (κ := fun v h => if v = val i ∧ h = c.h then some (val i, c.h) else none) ((hop _).trans (by simp)) i2 hL (fun v c' x hk e1 e2 e3 => ?_)
        split at hk
        · rename_i hv
          obtain ⟨hv1, hv2⟩ := hv
          subst hv1
          exact hN _ c' (hnext x c' e1 e2 e3 (fun _ => hv2) (fun h => by rw [hf] at h; cases h))
        · cases hk
  -- all orders
  have hnone : ∀ (L : Array Bool), L.size = ops.size → Region.ready .any ops L = [] → ∀ j, j < ops.size → L.getD j false = true := by
    intro L hLs hre j
    induction j using Nat.strongRecOn with
    | _ j ih =>
      intro hj
      cases hl : L.getD j false with
      | true => rfl
      | false =>
        exfalso
        have ho : ops[j]? = some ops[j] := by simp
        have : j ∈ Region.ready .any ops L := by
          refine mem_ready.2 ⟨?_, _, ho, fun e he hb => ?_⟩
          · have : j < L.size := by omega
            simp [this] at hl ⊢; exact hl
          · have hlt := D.lt j _ ho e he hb
            exact ih e.on hlt (by omega)
        rw [hre] at this; cases this
  have hall : ∀ (fuel : Nat) (L : Array Bool) (a : Act) (c : Cx), Inv L a c → ((List.range ops.size).filter fun j => !L.getD j false).length ≤ fuel → wpAny P .any ops Q fuel L a c.w := by
    intro fuel
    induction fuel with
    | zero =>
      intro L a c hI hc
      have hall : ∀ j, j < ops.size → L.getD j false = true := fun j hj => by
        have h0 : (List.range ops.size).filter (fun j => !L.getD j false) = [] := List.eq_nil_of_length_eq_zero (by omega)
        rw [List.filter_eq_nil_iff] at h0
        have := h0 j (List.mem_range.2 hj)
        simpa using this
      refine ⟨?_, hend L a c hI hall⟩
      cases hre : Region.ready .any ops L with
      | nil => rfl
      | cons i rs =>
        have hi : i ∈ Region.ready .any ops L := by rw [hre]; simp
        obtain ⟨h1, o, ho, _⟩ := mem_ready.1 hi
        have hlt := (Array.getElem?_eq_some_iff.1 ho).1
        have h2 := hall i hlt
        have h3 : i < L.size := by have := hI.2.2.2.2.1; omega
        simp [h3] at h1 h2
        rw [h2] at h1; cases h1
    | succ fuel ih =>
      intro L a c hI hc
      have hLs := hI.2.2.2.2.1
      refine ⟨fun hre => hend L a c hI (hnone L hLs hre), fun i hi => ?_⟩
      refine hone L a c hI i hi _ (fun a' c' hI' => ih _ a' c' hI' ?_)
      obtain ⟨h1, o, ho, _⟩ := mem_ready.1 hi
      have hlt := (Array.getElem?_eq_some_iff.1 ho).1
      have h3 : i < L.size := by omega
      have hun : L.getD i false = false := by simp [h3] at h1 ⊢; exact h1
      have hset : ∀ j, (L.setIfInBounds i true).getD j false = if j = i then true else L.getD j false := fun j => by
        by_cases hj : j = i
        · subst hj; simp [h3]
        · have : ¬ i = j := fun e => hj e.symm
          simp [hj, Array.getElem?_setIfInBounds_ne this]
      have hf : (List.range ops.size).filter (fun j => !(L.setIfInBounds i true).getD j false) = ((List.range ops.size).filter fun j => !L.getD j false).filter fun j => !(Nat.beq j i) := by
        rw [List.filter_filter]
        refine List.filter_congr (fun j _ => ?_)
        rw [hset]
        by_cases hj : j = i
        · subst hj; simp [nbeq_self]
        · simp [hj, nbeq_ne hj]
      rw [hf]
      have : (((List.range ops.size).filter fun j => !L.getD j false).filter fun j => !(Nat.beq j i)).length < ((List.range ops.size).filter fun j => !L.getD j false).length := by
        rw [List.length_filter_lt_length_iff_exists]
        exact ⟨i, List.mem_filter.2 ⟨List.mem_range.2 hlt, by rw [hun]; rfl⟩, by simp [nbeq_self]⟩
      omega
  have hI0 : Inv (Array.replicate ops.size false) a c := by
    refine ⟨hE, hr, ht.size, ht.defers, by simp, fun j o ho hl => ?_, fun t j o ho hdj htn hl => ?_, fun t _ => ht.t t, 0, Nat.zero_le _, ?_, fun e o ho hq => ?_⟩
    · have := (Array.getElem?_eq_some_iff.1 ho).1
      simp [this] at hl
    · have := (Array.getElem?_eq_some_iff.1 ho).1
      simp [this] at hl
    · rw [hS0]; exact ht.h.symm
    · have := (Array.getElem?_eq_some_iff.1 ho).1
      simp [this]
  have hIw : Inv (Array.replicate ops.size false) a c.drew := by
    obtain ⟨j1, j2, j3, j4, j5, j6, j7, j8, j9⟩ := hI0
    exact ⟨j1.trans (ext_drew c), rel_drew j2, j3, j4, j5, j6, fun t j o a1 a2 a3 a4 => (ext_drew c).vr (j7 t j o a1 a2 a3 a4), fun t h => (ext_drew c).vr (j8 t h), j9⟩
  refine hall ops.size _ a _ hIw ?_
  exact Nat.le_trans (List.length_filter_le _ _) (by simp)
end

end Go.Proofs.Ythcidiihfjjpdaa.D
/- Calls by what is known of the callee. Conditions: those of each theorem. -/
namespace Go.Proofs.Ythcidiihfjjpdaa.D
open Go.RowKit
set_option linter.unusedVariables false
set_option linter.unusedSimpArgs false

def V.outs (v : V) : Prop := v.out1 = true ∨ ∃ vs, v = .tup vs ∧ vs.all V.out1 = true

/-- What is told of a function is true of every call of it. -/
def FnOk (P : Program) (f : FuncId) (sp : List V → List E → (V → List E → R) → R) : Prop :=
  ∀ args κ r (c : Cx) (cargs : Array Value), sp args c.h κ = some r → Rel c → ArgsR c args cargs.toList →
    Calls P f cargs c.w fun e w' => ∃ x v c', e = .returned x ∧ κ v c'.h = some r ∧ Ext c c' ∧ Rel c' ∧ VR c' v x ∧ c'.w = w' ∧ v.outs ∧ c'.h.all E.out = true

theorem FnOk.of {P : Program} {TD : TypeId → Option TI} {K : FuncId → List V → List E → (V → List E → R) → R} {ann : Nat → List Nat × List Nat} {drawOk : Array Oper → Bool}
    (hT : TyOk P TD) (hK : KOk P K) (hD : DrawOk P TD K drawOk) {f : FuncId} {fn : Func} (hf : P.funcs[f]? = some fn) {sp : List V → List E → (V → List E → R) → R}
    (h : ∀ args h κ r, sp args h κ = some r → ∃ fuel, funC TD K ann drawOk fuel fn args h κ = some r) : FnOk P f sp := by
  intro args κ r c cargs hs hr ha
  obtain ⟨fuel, hfn⟩ := h args c.h κ r hs
  exact (funC_calls hT hK hD hf hfn hr ha).mono fun e w' ⟨x, v, c', h1, h2, h3, h4, h5, h6, h7, h8⟩ => ⟨x, v, c', h1, h2, h3, h4, h5, h6, h7, h8⟩

/-! The callee's view of the caller's state. -/
def Cx.into (c : Cx) (ids : List Nat) : Cx :=
  ⟨fun b => c.F b ∨ (c.U b ∧ ∀ j, j < ids.length → blk (c.hv (ids.getD j 0)) ≠ some b), ids.map (getE c.h), fun j => c.hv (ids.getD j 0), c.w⟩

theorem into_get {c : Cx} {ids : List Nat} {j : Nat} (hj : j < ids.length) : getE (c.into ids).h j = getE c.h (ids.getD j 0) := by
  simp [Cx.into, getE, List.getD, hj]
theorem into_U {c : Cx} {ids : List Nat} {b : Nat} (h : (c.into ids).U b) : c.U b ∧ ∃ j, j < ids.length ∧ blk (c.hv (ids.getD j 0)) = some b := by
  obtain ⟨j, ha, hb⟩ := h
  have hj : j < ids.length := by have := alive_lt ha; simpa [Cx.into] using this
  rw [into_get hj] at ha
  exact ⟨⟨_, ha, hb⟩, j, hj, hb⟩

theorem into_rowV {c : Cx} {ids : List Nat} {xs : List Int} {v : Value} (h : RowV c xs v) : RowV (c.into ids) xs v := by
  obtain ⟨a, cap, rfl, hc, h0⟩ := h
  refine ⟨a, cap, rfl, hc, ?_⟩
  rcases h0 with h0 | ⟨b, off, ha, hF, hU, hcell⟩
  · exact .inl h0
  · exact .inr ⟨b, off, ha, fun hf => hf.elim hF (fun h => hU h.1), fun hu => hU (into_U hu).1, hcell⟩
theorem into_atom {c : Cx} {ids : List Nat} {a : Atom} {v : Value} (h : AtomR c a v) : AtomR (c.into ids) a v := by
  cases a <;> first | exact h | exact into_rowV h

/-- A list seen, away from the blocks that are handed over. -/
theorem into_seen {c : Cx} {ids : List Nat} {l : L} {v : Value} (h : Seen c l v) (hU : ∀ g, blk v = some g → l.len ≠ 0 → ¬ (c.into ids).U g) : RoR (c.into ids) false l v := by
  obtain ⟨a, cap, rfl, hc, h0⟩ := h
  refine ⟨a, cap, rfl, hc, ?_⟩
  rcases h0 with h0 | ⟨b, off, rfl, hcell⟩
  · exact .inl h0
  · rcases Nat.eq_zero_or_pos l.len with hz | hp
    · exact .inl hz
    · refine .inr ⟨b, off, rfl, fun h => (by cases h), hU b rfl (by omega), fun j hj => ?_⟩
      obtain ⟨y, hy, hya⟩ := hcell j hj
      exact ⟨y, hy, into_atom hya⟩

/-- The cells that may be handed over. -/
def plainCells (vs : List V) : Bool := vs.all fun v => v.ids0.isEmpty && v.flat && v.out0

theorem into_plain {c : Cx} {ids : List Nat} {v : V} {x : Value} (hp : (v.ids0.isEmpty && v.flat && v.out0) = true) (h : VR0 c v x) : VR0 (c.into ids) v x := by
  simp only [Bool.and_eq_true] at hp
  cases v with
  | ro s l =>
    have hs : s = true := hp.2
    subst hs
    obtain ⟨a, cap, rfl, hc, h0⟩ := h
    refine ⟨a, cap, rfl, hc, ?_⟩
    rcases h0 with h0 | ⟨b, off, ha, hF, hU, hcell⟩
    · exact .inl h0
    · refine .inr ⟨b, off, ha, fun _ hf => hf.elim (hF rfl) (fun h => hU h.1), fun hu => hU (into_U hu).1, fun j hj => ?_⟩
      obtain ⟨y, hy, hya⟩ := hcell j hj
      exact ⟨y, hy, into_atom hya⟩
  | own id => simp [V.ids0] at hp
  | sub id o n => simp [V.ids0] at hp
  | ptr id o => simp [V.ids0] at hp
  | ref a => simp [V.out0] at hp
  | elt id o n i => simp [V.ids0] at hp
  | agg vs => exact h.elim
  | tup vs => exact h.elim
  | _ => exact h

/-- The blocks handed over: different ones, each of plain cells, or a row. -/
structure Handed1 (c : Cx) (ids : List Nat) : Prop where
  nodup : ids.Nodup
  lt : ∀ i ∈ ids, i < c.h.length
  cells : ∀ i ∈ ids, (∃ vs, getE c.h i = .cells vs ∧ plainCells vs = true) ∨ ∃ l, getE c.h i = .row l

theorem Handed1.alive {c : Cx} {ids : List Nat} (h : Handed1 c ids) {i : Nat} (hi : i ∈ ids) : (getE c.h i).alive = true := by
  rcases h.cells i hi with ⟨vs, hvs, _⟩ | ⟨l, hl⟩
  · rw [hvs]; rfl
  · rw [hl]; rfl
theorem Handed1.more {c : Cx} {ids : List Nat} (hh : Handed1 c ids) {id : Nat} (hid : id < c.h.length) (hany : ids.any (Nat.beq id) = false) (hc : (∃ vs, getE c.h id = .cells vs ∧ plainCells vs = true) ∨ ∃ l, getE c.h id = .row l) : Handed1 c (ids ++ [id]) := by
  have hnot : id ∉ ids := fun hm => by
    have : ids.any (Nat.beq id) = true := List.any_eq_true.2 ⟨id, hm, by simp [Nat.beq_eq]⟩
    rw [this] at hany; cases hany
  refine ⟨?_, fun i hi => ?_, fun i hi => ?_⟩
  · rw [List.nodup_append]
    exact ⟨hh.nodup, by simp, fun p hp q hq e => by
      have hq' : q = id := by simpa using hq
      rw [e, hq'] at hp
      exact hnot hp⟩
  · rcases List.mem_append.1 hi with hi | hi
    · exact hh.lt i hi
    · have : i = id := by simpa using hi
      subst this; exact hid
  · rcases List.mem_append.1 hi with hi | hi
    · exact hh.cells i hi
    · have : i = id := by simpa using hi
      subst this; exact hc
theorem Handed1.at {c : Cx} {ids : List Nat} (h : Handed1 c ids) {j : Nat} (hj : j < ids.length) : ids.getD j 0 ∈ ids := by
  have e : ids.getD j 0 = ids[j] := by simp [List.getD, hj]
  rw [e]; exact List.getElem_mem hj
theorem Handed1.inj {c : Cx} {ids : List Nat} (h : Handed1 c ids) {i j : Nat} (hi : i < ids.length) (hj : j < ids.length) (he : ids.getD i 0 = ids.getD j 0) : i = j := by
  have e1 : ids.getD i 0 = ids[i] := by simp [List.getD, hi]
  have e2 : ids.getD j 0 = ids[j] := by simp [List.getD, hj]
  rw [e1, e2] at he
  have hp := List.pairwise_iff_getElem.1 h.nodup
  rcases Nat.lt_trichotomy i j with h | h | h
  · exact absurd he (hp i j hi hj h)
  · exact h
  · exact absurd he.symm (hp j i hj hi h)

theorem into_rel {c : Cx} (hr : Rel c) {ids : List Nat} (hh : Handed1 c ids) : Rel (c.into ids) := by
  have hlen : ∀ j, j < (c.into ids).h.length ↔ j < ids.length := fun j => by simp [Cx.into]
  have hin : ∀ j, j < ids.length → ids.getD j 0 < c.h.length := fun j hj => hh.lt _ (hh.at hj)
  refine ⟨fun j hj => hr.one _ (hin j ((hlen j).1 hj)), fun j hj => ?_, fun i j b hi hj hbi hbj => ?_, fun b hb => hr.lt b (into_U hb).1, fun b hb => ?_⟩
  · have hj' := (hlen j).1 hj
    rw [into_get hj']
    have he := hr.ent _ (hin j hj')
    rcases hh.cells _ (hh.at hj') with ⟨vs, hvs, hp⟩ | ⟨l, hl⟩
    case inr =>
      rw [hl] at he ⊢
      obtain ⟨e, xs, ho, ha⟩ := he
      refine ⟨e, xs, ho, fun k hk => ?_⟩
      obtain ⟨x, hx, hxa⟩ := ha k hk
      exact ⟨x, hx, into_atom hxa⟩
    rw [hvs] at he ⊢
    obtain ⟨b, e, cs, hv, hg, hs, ha⟩ := he
    refine ⟨b, e, cs, hv, hg, hs, fun k hk => ?_⟩
    obtain ⟨x, hx, hxa⟩ := ha k hk
    exact ⟨x, hx, into_plain (all_getD hp hk) hxa⟩
  · have hi' := (hlen i).1 (alive_lt hi)
    have hj' := (hlen j).1 (alive_lt hj)
    rw [into_get hi'] at hi
    rw [into_get hj'] at hj
    exact hh.inj hi' hj' (hr.inj _ _ b hi hj hbi hbj)
  · rcases hb with hb | ⟨hb, hn⟩
    · exact ⟨(hr.far b hb).1, fun hu => (hr.far b hb).2 (into_U hu).1⟩
    · refine ⟨hr.lt b hb, fun hu => ?_⟩
      obtain ⟨_, j, hj, hbj⟩ := into_U hu
      exact hn j hj hbj

/-- The cells of a struct go over. -/
theorem passVs_ok {rw keep : Bool} {c : Cx} (hr : Rel c) : ∀ (cs : List Nat) (vs : List V) (ids0 : List Nat) (xs : List Value) (us : List V) (ids1 : List Nat),
    passVs rw keep c.h cs vs ids0 = some (us, ids1) → xs.length = vs.length → (∀ j, j < vs.length → VR0 c (vs.getD j .junk) (xs.getD j undef)) → Handed1 c ids0 →
    Handed1 c ids1 ∧ (∃ r, ids1 = ids0 ++ r) ∧ us.length = vs.length ∧ ∀ ids, (∃ r, ids = ids1 ++ r) → Handed1 c ids → (rw = false → (vs.all fun v => v.ids0.all fun id => !ids.any (Nat.beq id)) = true) →
      ∀ j, j < vs.length → VR0 (c.into ids) (us.getD j .junk) (xs.getD j undef) := by
  intro cs
  induction cs with
  | nil =>
    intro vs ids0 xs us ids1 h hl hx hh
    cases vs with
    | nil =>
      simp [passVs] at h
      obtain ⟨rfl, rfl⟩ := h
      exact ⟨hh, ⟨[], by simp⟩, rfl, fun ids _ _ _ j hj => by simp at hj⟩
    | cons v r => simp [passVs] at h
  | cons code cs ih =>
    intro vs ids0 xs us ids1 h hl hx hh
    cases vs with
    | nil => simp [passVs] at h
    | cons v vs =>
      obtain ⟨x, xs, rfl⟩ : ∃ u us, xs = u :: us := by
        cases xs with
        | nil => simp at hl
        | cons u us => exact ⟨u, us, rfl⟩
      have hv : VR0 c v x := by simpa using hx 0 (by simp)
      have hx' : ∀ j, j < vs.length → VR0 c (vs.getD j .junk) (xs.getD j undef) := fun j hj => by simpa using hx (j + 1) (by simpa using hj)
      have hl' : xs.length = vs.length := by simpa using hl
      simp only [passVs] at h
      cases hp : passV rw keep c.h code ids0 v with
      | none => rw [hp] at h; cases h
      | some p =>
        rw [hp] at h
        simp only [Option.map_eq_some_iff] at h
        obtain ⟨⟨us2, i2⟩, h3, h4⟩ := h
        simp at h4
        obtain ⟨rfl, rfl⟩ := h4
        -- the first cell
        have one : Handed1 c p.2 ∧ (∃ r, p.2 = ids0 ++ r) ∧ ∀ ids, (∃ r, ids = p.2 ++ r) → Handed1 c ids → (rw = false → (v.ids0.all fun id => !ids.any (Nat.beq id)) = true) → VR0 (c.into ids) p.1 x := by
          cases v with
          | ro s l =>
            simp only [passV, Option.some.injEq] at hp
            subst hp
            refine ⟨hh, ⟨[], by simp⟩, fun ids _ hids _ => ?_⟩
            obtain ⟨a, cap, rfl, hc, h0⟩ := (show RoR c s l x from hv)
            refine ⟨a, cap, rfl, hc, ?_⟩
            rcases h0 with h0 | ⟨b, off, hab, hF, hU, hcell⟩
            · exact .inl h0
            · refine .inr ⟨b, off, hab, fun hs hf => ?_, fun hu => hU (into_U hu).1, fun j hj => ?_⟩
              · simp only [Bool.and_eq_true] at hs
                exact hf.elim (hF hs.1) (fun h => hU h.1)
              · obtain ⟨z, hz, hza⟩ := hcell j hj
                exact ⟨z, hz, into_atom hza⟩
          | own id =>
            simp only [passV] at hp
            split at hp
            · rename_i l hl2
              obtain ⟨hid, rfl⟩ := (show id < c.h.length ∧ x = c.hv id from hv)
              cases rw with
              | true =>
                rw [cond_true] at hp
                cases hany : ids0.any (Nat.beq id) with
                | true => simp [hany] at hp
                | false =>
                  rw [hany, cond_false, Option.some.injEq] at hp
                  subst hp
                  refine ⟨hh.more hid hany (.inr ⟨l, hl2⟩), ⟨[id], rfl⟩, fun ids ⟨rr, e⟩ hids _ => ?_⟩
                  have hlt : ids0.length < ids.length := by rw [e]; simp
                  have hat : ids.getD ids0.length 0 = id := by rw [e]; simp [List.getD]
                  exact ⟨by simpa [Cx.into] using hlt, by simp only [Cx.into, hat]⟩
              | false =>
                rw [cond_false, Option.some.injEq] at hp
                subst hp
                refine ⟨hh, ⟨[], by simp⟩, fun ids _ hids hno => ?_⟩
                have hno' : ids.any (Nat.beq id) = false := by simpa [V.ids0] using hno rfl
                obtain ⟨hs, h2⟩ := seen_own hr hid hl2
                refine into_seen hs (fun g hg hne hu => ?_)
                obtain ⟨hu1, j, hj, hbj⟩ := into_U hu
                have := hr.inj id (ids.getD j 0) g (by rw [hl2]; rfl) (hids.alive (hids.at hj)) hg hbj
                rw [any_beq.2 (by rw [this]; exact hids.at hj)] at hno'; cases hno'
            · cases hp
          | nil =>
            simp only [passV] at hp
            split at hp
            · rename_i l hl2
              rw [Option.some.injEq] at hp
              subst hp
              refine ⟨hh, ⟨[], by simp⟩, fun ids _ hids _ => ?_⟩
              have e : x = .slice none 0 0 := hv
              subst e
              have hl0 : l.len = 0 := by
                unfold codeL at hl2
                split at hl2 <;> simp at hl2 <;> subst hl2 <;> rfl
              exact ⟨none, 0, by rw [hl0], by omega, .inl hl0⟩
            · cases hp
          | int k n => simp only [passV, Option.some.injEq] at hp; subst hp; exact ⟨hh, ⟨[], by simp⟩, fun ids _ _ _ => hv⟩
          | bool b => simp only [passV, Option.some.injEq] at hp; subst hp; exact ⟨hh, ⟨[], by simp⟩, fun ids _ _ _ => hv⟩
          | str s => simp only [passV, Option.some.injEq] at hp; subst hp; exact ⟨hh, ⟨[], by simp⟩, fun ids _ _ _ => hv⟩
          | _ => simp [passV] at hp
        obtain ⟨o1, ⟨r1, o2⟩, o3⟩ := one
        obtain ⟨e1, ⟨r2, e2⟩, e3, e4⟩ := ih vs p.2 xs us2 i2 h3 hl' hx' o1
        refine ⟨e1, ⟨r1 ++ r2, by rw [e2, o2, List.append_assoc]⟩, by simp [e3], fun ids ⟨r3, he⟩ hids hno j hj => ?_⟩
        have hno1 : rw = false → (v.ids0.all fun id => !ids.any (Nat.beq id)) = true ∧ (vs.all fun v => v.ids0.all fun id => !ids.any (Nat.beq id)) = true := fun hrw => by
          have := hno hrw
          rw [List.all_cons, Bool.and_eq_true] at this
          exact this
        cases j with
        | zero => simpa using o3 ids ⟨r2 ++ r3, by rw [he, e2, List.append_assoc]⟩ hids (fun hrw => (hno1 hrw).1)
        | succ j => simpa using e4 ids ⟨r3, he⟩ hids (fun hrw => (hno1 hrw).2) j (by simpa using hj)
theorem passC_ok {keep : Bool} {c : Cx} (hr : Rel c) : ∀ (ds : List TypeDesc) (args : List V) (ids0 : List Nat) (xs : List Value) (args' : List V) (ids : List Nat),
    passC keep c.h ds args ids0 = some (args', ids) → apartC ds args ids = true → ArgsR c args xs → Handed1 c ids0 →
    Handed1 c ids ∧ (∃ r, ids = ids0 ++ r) ∧ args'.length = args.length ∧ ∀ j, j < args.length → VR (c.into ids) (args'.getD j .junk) (xs.getD j undef) := by
  intro ds
  induction ds with
  | nil =>
    intro args ids0 xs args' ids h hap ha hh
    cases args with
    | nil =>
      simp [passC] at h
      obtain ⟨rfl, rfl⟩ := h
      exact ⟨hh, ⟨[], by simp⟩, rfl, fun j hj => by simp at hj⟩
    | cons v r => simp [passC] at h
  | cons d ds ih =>
    intro args ids0 xs args' ids h hap ha hh
    cases args with
    | nil => simp [passC] at h
    | cons v args =>
      obtain ⟨y, ys, rfl, hy, ha'⟩ := ha.tail
      have hap' : apartC ds args ids = true := by unfold apartC at hap; exact (Bool.and_eq_true_iff.1 hap).2
      -- a value that goes over by itself
      have go : ∀ (u : V), (passC keep c.h ds args ids0).map (fun p => (u :: p.1, p.2)) = some (args', ids) → (Handed1 c ids → VR (c.into ids) u y) →
          Handed1 c ids ∧ (∃ r, ids = ids0 ++ r) ∧ args'.length = (v :: args).length ∧ ∀ j, j < (v :: args).length → VR (c.into ids) (args'.getD j .junk) ((y :: ys).getD j undef) := by
        intro u h2 hu
        simp only [Option.map_eq_some_iff] at h2
        obtain ⟨⟨a2, i2⟩, h3, h4⟩ := h2
        simp at h4
        obtain ⟨rfl, rfl⟩ := h4
        obtain ⟨e1, e2, e3, e4⟩ := ih args ids0 ys a2 i2 h3 hap' ha' hh
        refine ⟨e1, e2, by simp [e3], fun j hj => ?_⟩
        cases j with
        | zero => simpa using hu e1
        | succ j => simpa using e4 j (by simpa using hj)
      -- a row of one's own is not among the blocks that go over
      have away : Handed1 c ids → ∀ (id : Nat) (l : L), ids.any (Nat.beq id) = false → getE c.h id = .row l → ∀ g, blk (c.hv id) = some g → ¬ (c.into ids).U g := by
        intro hids id l hne hl g hg hu
        obtain ⟨hu1, j, hj, hbj⟩ := into_U hu
        have := hr.inj id (ids.getD j 0) g (by rw [hl]; rfl) (hids.alive (hids.at hj)) hg hbj
        rw [any_beq.2 (by rw [this]; exact hids.at hj)] at hne; cases hne
      cases v with
      | ro s l =>
        simp only [passC] at h
        refine go _ h (fun hids => ?_)
        obtain ⟨a, cap, rfl, hc, h0⟩ := (show RoR c s l y from hy)
        refine ⟨a, cap, rfl, hc, ?_⟩
        rcases h0 with h0 | ⟨b, off, hab, hF, hU, hcell⟩
        · exact .inl h0
        · refine .inr ⟨b, off, hab, fun hs hf => ?_, fun hu => hU (into_U hu).1, fun j hj => ?_⟩
          · simp only [Bool.and_eq_true] at hs
            exact hf.elim (hF hs.1) (fun h => hU h.1)
          · obtain ⟨z, hz, hza⟩ := hcell j hj
            exact ⟨z, hz, into_atom hza⟩
      | own id =>
        simp only [passC] at h
        split at h
        · rename_i l hl
          obtain ⟨hid, rfl⟩ := (show id < c.h.length ∧ y = c.hv id from hy)
          cases hrw : rwD d with
          | true =>
            rw [hrw, cond_true] at h
            cases hany : ids0.any (Nat.beq id) with
            | true => simp [hany] at h
            | false =>
              rw [hany, cond_false] at h
              simp only [Option.map_eq_some_iff] at h
              obtain ⟨⟨a2, i2⟩, h3, h4⟩ := h
              simp at h4
              obtain ⟨rfl, rfl⟩ := h4
              obtain ⟨e1, ⟨rr, e2⟩, e3, e4⟩ := ih args _ ys a2 i2 h3 hap' ha' (hh.more hid hany (.inr ⟨l, hl⟩))
              refine ⟨e1, ⟨id :: rr, by rw [e2]; simp⟩, by simp [e3], fun j hj => ?_⟩
              cases j with
              | zero =>
                have hlt : ids0.length < i2.length := by rw [e2]; simp
                have hat : i2.getD ids0.length 0 = id := by rw [e2]; simp [List.getD]
                simp only [List.getD_cons_zero]
                exact ⟨by simpa [Cx.into] using hlt, by simp only [Cx.into, hat]⟩
              | succ j => simpa using e4 j (by simpa using hj)
          | false =>
          rw [hrw, cond_false] at h
          have hno : ids.any (Nat.beq id) = false := by
            unfold apartC at hap
            have := (Bool.and_eq_true_iff.1 hap).1
            simpa [hrw] using this
          refine go _ h (fun hids => ?_)
          obtain ⟨hs, h2⟩ := seen_own hr hid hl
          exact into_seen hs (fun g hg hne => away hids id l hno hl g hg)
        · cases h
      | sub id o n =>
        simp only [passC] at h
        split at h
        · rename_i l hl
          obtain ⟨hid, a, cap, rfl, hn, hg, hle⟩ := (show VR0 c (.sub id o n) y from hy)
          refine go _ h (fun hids => ?_)
          have hs := list_ok hr (x := .sub id o n) (l := l.cut o n) (by simp [listOf, hl]) (show VR c (.sub id o n) _ from hy)
          refine into_seen hs (fun g hg2 hne => ?_)
          rw [L.cut_len (hle l hl)] at hne
          rcases hg with h2 | ⟨g', hbg, rfl⟩
          · exact absurd h2 hne
          · simp [blk] at hg2
            subst hg2
            refine away hids id l ?_ hl _ hbg
            unfold apartC at hap
            have := (Bool.and_eq_true_iff.1 hap).1
            simpa using this
        · cases h
      | nil =>
        simp only [passC] at h
        split at h
        · rename_i l hl
          refine go _ h (fun hids => ?_)
          have e : y = .slice none 0 0 := hy
          subst e
          have hl0 : l.len = 0 := by
            unfold emptyRow at hl
            split at hl <;> simp at hl <;> subst hl <;> rfl
          exact ⟨none, 0, by rw [hl0], by omega, .inl hl0⟩
        · cases h
      | int k n => simp only [passC] at h; exact go _ h (fun hids => hy)
      | bool b => simp only [passC] at h; exact go _ h (fun hids => hy)
      | str s => simp only [passC] at h; exact go _ h (fun hids => hy)
      | agg vs =>
        -- the cells go over one by one
        have byCells : ∀ (rw : Bool) (cs : List Nat) (q : List V × List Nat), passVs rw keep c.h cs vs ids0 = some q → (passC keep c.h ds args q.2).map (fun p => (V.agg q.1 :: p.1, p.2)) = some (args', ids) →
            (rw = false → rwD d = false) →
            Handed1 c ids ∧ (∃ r, ids = ids0 ++ r) ∧ args'.length = (V.agg vs :: args).length ∧ ∀ j, j < (V.agg vs :: args).length → VR (c.into ids) (args'.getD j .junk) ((y :: ys).getD j undef) := by
          intro rw cs q hq h2 hrwd
          obtain ⟨arr, e, hs, hall⟩ := (show VR1 c (.agg vs) y from hy)
          have hall' : ∀ j, j < vs.length → VR0 c (vs.getD j .junk) (arr.toList.getD j undef) := fun j hj => by
            have := hall j hj
            simpa [Array.getD, List.getD, show j < arr.size by omega] using this
          obtain ⟨b1, ⟨r1, b2⟩, b3, b4⟩ := passVs_ok hr cs vs ids0 arr.toList q.1 q.2 hq (by simpa using hs) hall' hh
          simp only [Option.map_eq_some_iff] at h2
          obtain ⟨⟨a2, i2⟩, h3, h4⟩ := h2
          simp at h4
          obtain ⟨rfl, rfl⟩ := h4
          obtain ⟨e1, ⟨r2, e2⟩, e3, e4⟩ := ih args q.2 ys a2 i2 h3 hap' ha' b1
          refine ⟨e1, ⟨r1 ++ r2, by rw [e2, b2, List.append_assoc]⟩, by simp [e3], fun j hj => ?_⟩
          cases j with
          | zero =>
            have hno : rw = false → (vs.all fun v => v.ids0.all fun id => !i2.any (Nat.beq id)) = true := fun hrw => by
              unfold apartC at hap
              have := (Bool.and_eq_true_iff.1 hap).1
              simpa [hrwd hrw] using this
            have hc := b4 i2 ⟨r2, e2⟩ e1 hno
            simp only [List.getD_cons_zero]
            refine ⟨arr, e, by rw [b3]; exact hs, fun j hj => ?_⟩
            have hj' : j < vs.length := by rw [b3] at hj; exact hj
            have := hc j hj'
            simpa [Array.getD, List.getD, show j < arr.size by omega] using this
          | succ j => simpa using e4 j (by simpa using hj)
        simp only [passC] at h
        split at h
        · rename_i cs
          split at h
          · rename_i q hq
            exact byCells false cs.toList q hq h (fun _ => rfl)
          · cases h
        · rename_i cs rs va
          split at h
          · rename_i q hq
            exact byCells true cs.toList q hq h (fun hf => by cases hf)
          · cases h
        · cases hpl : vs.all fun v => v.ids0.isEmpty && v.flat && v.out0 with
          | false => rw [hpl, cond_false] at h; cases h
          | true =>
            rw [hpl, cond_true] at h
            refine go _ h (fun hids => ?_)
            obtain ⟨cs, e, hs, hall⟩ := (show VR1 c (.agg vs) y from hy)
            exact ⟨cs, e, hs, fun j hj => into_plain (all_getD hpl hj) (hall j hj)⟩
      | ptr id off =>
        cases off with
        | succ off => simp [passC] at h
        | zero =>
          simp only [passC] at h
          cases hany : ids0.any (Nat.beq id) with
          | true => simp [hany] at h
          | false =>
            rw [hany, cond_false] at h
            split at h
            · rename_i vs hvs
              cases hpl : plainCells vs with
              | false =>
                have : (vs.all fun v => v.ids0.isEmpty && v.flat && v.out0) = false := hpl
                rw [this, cond_false] at h; cases h
              | true =>
                have : (vs.all fun v => v.ids0.isEmpty && v.flat && v.out0) = true := hpl
                rw [this, cond_true] at h
                obtain ⟨hid, g, hg, rfl⟩ := (show VR0 c (.ptr id 0) y from hy)
                have hh' : Handed1 c (ids0 ++ [id]) := hh.more hid hany (.inl ⟨vs, hvs, hpl⟩)
                simp only [Option.map_eq_some_iff] at h
                obtain ⟨⟨a2, i2⟩, h3, h4⟩ := h
                simp at h4
                obtain ⟨rfl, rfl⟩ := h4
                obtain ⟨e1, ⟨rr, e2⟩, e3, e4⟩ := ih args _ ys a2 i2 h3 hap' ha' hh'
                refine ⟨e1, ⟨id :: rr, by rw [e2]; simp⟩, by simp [e3], fun j hj => ?_⟩
                cases j with
                | zero =>
                  have hlt : ids0.length < i2.length := by rw [e2]; simp
                  have hat : i2.getD ids0.length 0 = id := by rw [e2]; simp [List.getD]
                  simp only [List.getD_cons_zero]
                  exact ⟨by simpa [Cx.into] using hlt, g, by simp only [Cx.into, hat]; exact hg, rfl⟩
                | succ j => simpa using e4 j (by simpa using hj)
            · cases h
      | _ => simp [passC] at h

end Go.Proofs.Ythcidiihfjjpdaa.D
/- What a call hands back. Conditions: those of each theorem. -/
namespace Go.Proofs.Ythcidiihfjjpdaa.D
open Go.RowKit
set_option linter.unusedVariables false
set_option linter.unusedSimpArgs false

theorem backE_len : ∀ (ids : List Nat) (es h : List E), (backE ids es h).length = h.length := by
  intro ids
  induction ids with
  | nil => intro es h; cases es <;> rfl
  | cons i ids ih =>
    intro es h
    cases es with
    | nil => rfl
    | cons e es => simp only [backE]; rw [ih]; simp
theorem backE_old : ∀ (ids : List Nat) (es h : List E) (i : Nat), i ∉ ids → getE (backE ids es h) i = getE h i := by
  intro ids
  induction ids with
  | nil => intro es h i _; cases es <;> rfl
  | cons k ids ih =>
    intro es h i hi
    cases es with
    | nil => rfl
    | cons e es =>
      simp only [backE]
      have h1 : i ≠ k := fun e => hi (by simp [e])
      have h2 : i ∉ ids := fun e => hi (by simp [e])
      rw [ih es _ i h2]
      have h3 : ¬ k = i := fun e => h1 e.symm
      simp [getE, List.getD, h3]
theorem backE_at : ∀ (ids : List Nat) (es h : List E), ids.Nodup → (∀ i ∈ ids, i < h.length) → es.length = ids.length → ∀ j, j < ids.length → getE (backE ids es h) (ids.getD j 0) = getE es j := by
  intro ids
  induction ids with
  | nil => intro es h _ _ _ j hj; simp at hj
  | cons k ids ih =>
    intro es h hn hl he j hj
    cases es with
    | nil => simp at he
    | cons e es =>
      simp only [backE]
      have hn' := List.nodup_cons.1 hn
      cases j with
      | zero =>
        simp only [List.getD_cons_zero]
        rw [backE_old ids es _ k hn'.1]
        have := hl k (by simp)
        simp [getE, List.getD, this]
      | succ j =>
        simp only [List.getD_cons_succ]
        rw [ih es _ hn'.2 (fun i hi => by simpa using hl i (by simp [hi])) (by simpa using he) j (by simpa using hj)]
        simp [getE]

def Cx.back (c : Cx) (ids : List Nat) (c1 : Cx) : Cx :=
  ⟨c.F, backE ids ((c1.h.take ids.length).map (E.sh ids c.h.length)) c.h ++ (c1.h.drop ids.length).map (E.sh ids c.h.length),
    fun i => if i < c.h.length then c.hv i else c1.hv (ids.length + (i - c.h.length)), c1.w⟩

theorem getE_map_sh (f : E → E) (hf : f .dead = .dead) (h : List E) (i : Nat) : getE (h.map f) i = f (getE h i) := by
  rcases Nat.lt_or_ge i h.length with hi | hi
  · simp [getE, List.getD, hi]
  · rw [getE_out hi, getE_out (by simpa using hi), hf]

section
variable {c c1 : Cx} {ids : List Nat}

theorem back_len (hk : ids.length ≤ c1.h.length) : (c.back ids c1).h.length = c.h.length + (c1.h.length - ids.length) := by
  simp [Cx.back, backE_len]
theorem back_old {i : Nat} (hi : i < c.h.length) (hn : i ∉ ids) : getE (c.back ids c1).h i = getE c.h i := by
  show getE (backE _ _ _ ++ _) i = _
  rw [getE_append_lt (by rw [backE_len]; exact hi), backE_old _ _ _ _ hn]
theorem back_at (hh : Handed1 c ids) (hk : ids.length ≤ c1.h.length) {j : Nat} (hj : j < ids.length) : getE (c.back ids c1).h (ids.getD j 0) = (getE c1.h j).sh ids c.h.length := by
  show getE (backE _ _ _ ++ _) _ = _
  rw [getE_append_lt (by rw [backE_len]; exact hh.lt _ (hh.at hj)), backE_at ids _ _ hh.nodup hh.lt (by simp; omega) j hj, getE_map_sh _ rfl]
  congr 1
  simp [getE, List.getD, List.getElem?_take, hj]
theorem back_new {i : Nat} (hi : c.h.length ≤ i) : getE (c.back ids c1).h i = (getE c1.h (ids.length + (i - c.h.length))).sh ids c.h.length := by
  have hl : (backE ids ((c1.h.take ids.length).map (E.sh ids c.h.length)) c.h).length = c.h.length := backE_len _ _ _
  show getE (backE _ _ _ ++ _) i = _
  have : getE (backE ids ((c1.h.take ids.length).map (E.sh ids c.h.length)) c.h ++ (c1.h.drop ids.length).map (E.sh ids c.h.length)) i = getE ((c1.h.drop ids.length).map (E.sh ids c.h.length)) (i - c.h.length) := by
    simp only [getE, List.getD]
    rw [List.getElem?_append_right (by omega), hl]
  rw [this, getE_map_sh _ rfl]
  congr 1
  simp [getE, List.getD, List.getElem?_drop]

theorem E.sh_alive (e : E) (ids : List Nat) (n : Nat) : (e.sh ids n).alive = e.alive := by cases e <;> rfl
theorem E.sh_same (e : E) (ids : List Nat) (n : Nat) : sameE e (e.sh ids n) = true := by cases e <;> simp [E.sh, sameE]

theorem back_hv (_ : Rel c) (_ : Handed1 c ids) (hE : Ext (c.into ids) c1) (_ : Rel c1) {j : Nat} (hj : j < ids.length) : c.hv (ids.getD j 0) = c1.hv j := by
  have := (hE.ids j (by simpa [Cx.into] using hj)).1
  exact this.symm
theorem back_k (_ : Rel c) (_ : Handed1 c ids) (hE : Ext (c.into ids) c1) (_ : Rel c1) : ids.length ≤ c1.h.length := by have := hE.len; simpa [Cx.into] using this


/-- Where an own block of the caller's new state comes from. -/
theorem back_cases (hr : Rel c) (hh : Handed1 c ids) (hE : Ext (c.into ids) c1) (hr1 : Rel c1) {i : Nat} (ha : (getE (c.back ids c1).h i).alive = true) :
    (i < c.h.length ∧ i ∉ ids ∧ (getE c.h i).alive = true ∧ (c.back ids c1).hv i = c.hv i) ∨
    ∃ j, (getE c1.h j).alive = true ∧ (c.back ids c1).hv i = c1.hv j ∧ ((j < ids.length ∧ i = ids.getD j 0) ∨ (ids.length ≤ j ∧ i = c.h.length + (j - ids.length))) := by
  have hk := back_k hr hh hE hr1
  rcases Nat.lt_or_ge i c.h.length with hi | hi
  · by_cases hm : i ∈ ids
    · right
      obtain ⟨j, hj, hji⟩ := List.getElem_of_mem hm
      have e : ids.getD j 0 = i := by simp [List.getD, hj]; exact hji
      refine ⟨j, ?_, ?_, .inl ⟨hj, e.symm⟩⟩
      · rw [← e, back_at hh hk hj, E.sh_alive] at ha; exact ha
      · rw [← back_hv hr hh hE hr1 hj, e]; simp [Cx.back, hi]
    · left
      rw [back_old hi hm] at ha
      exact ⟨hi, hm, ha, by simp [Cx.back, hi]⟩
  · right
    rw [back_new hi, E.sh_alive] at ha
    exact ⟨_, ha, by have : ¬ i < c.h.length := by omega
                     simp [Cx.back, this], .inr ⟨by omega, by omega⟩⟩

theorem back_U (hr : Rel c) (hh : Handed1 c ids) (hE : Ext (c.into ids) c1) (hr1 : Rel c1) {b : Nat} (h : (c.back ids c1).U b) : (∃ i, i < c.h.length ∧ i ∉ ids ∧ (getE c.h i).alive = true ∧ blk (c.hv i) = some b) ∨ c1.U b := by
  obtain ⟨i, ha, hb⟩ := h
  rcases back_cases hr hh hE hr1 ha with ⟨h1, h2, h3, h4⟩ | ⟨j, h1, h2, _⟩
  · exact .inl ⟨i, h1, h2, h3, by rw [← h4]; exact hb⟩
  · exact .inr ⟨j, h1, by rw [← h2]; exact hb⟩

/-- A block of the caller's own that did not go over is none of the callee's. -/
theorem back_far (hr : Rel c) (hh : Handed1 c ids) (hE : Ext (c.into ids) c1) (hr1 : Rel c1) {i b : Nat} (hm : i ∉ ids) (ha : (getE c.h i).alive = true) (hb : blk (c.hv i) = some b) : (c.into ids).F b ∧ ¬ (c.into ids).U b ∧ ¬ c1.U b := by
  have hF : (c.into ids).F b := by
    refine .inr ⟨⟨i, ha, hb⟩, fun j hj hbj => hm ?_⟩
    have := hr.inj i (ids.getD j 0) b ha (hh.alive (hh.at hj)) hb hbj
    rw [this]; exact hh.at hj
  exact ⟨hF, ((into_rel hr hh).far b hF).2, (hr1.far b (by rw [hE.F]; exact hF)).2⟩

theorem back_ext (hr : Rel c) (hh : Handed1 c ids) (hE : Ext (c.into ids) c1) (hr1 : Rel c1) : Ext c (c.back ids c1) where
  F := rfl
  os := hE.os
  tape := hE.tape
  output := hE.output
  size := hE.size
  block := fun k hk hu => hE.block k hk (fun h => hu (into_U h).1)
  own := fun b hb => by
    rcases back_U hr hh hE hr1 hb with ⟨i, _, _, h1, h2⟩ | h
    · exact .inl ⟨i, h1, h2⟩
    · exact (hE.own b h).imp (fun h => (into_U h).1) id
  len := by rw [back_len (back_k hr hh hE hr1)]; omega
  ids := fun i hi => ⟨by simp [Cx.back, hi], by
    by_cases hm : i ∈ ids
    · obtain ⟨j, hj, hji⟩ := List.getElem_of_mem hm
      have e : ids.getD j 0 = i := by simp [List.getD, hj]; exact hji
      have h1 := (hE.ids j (by simpa [Cx.into] using hj)).2
      rw [into_get hj, e] at h1
      have h2 := back_at hh (back_k hr hh hE hr1) hj
      rw [e] at h2
      rw [h2]
      exact sameE_trans h1 (E.sh_same _ _ _)
    · rw [back_old hi hm]; exact sameE_refl _⟩

theorem back_free (hr : Rel c) (hh : Handed1 c ids) (hE : Ext (c.into ids) c1) (hr1 : Rel c1) {b : Nat} (hF : ¬ c1.F b) (hU : ¬ c1.U b) : ¬ (c.back ids c1).F b ∧ ¬ (c.back ids c1).U b := by
  rw [hE.F] at hF
  refine ⟨fun h => hF (.inl h), fun h => ?_⟩
  rcases back_U hr hh hE hr1 h with ⟨i, _, h1, h2, h3⟩ | h
  · exact hF (back_far hr hh hE hr1 h1 h2 h3).1
  · exact hU h

theorem back_rowV (hr : Rel c) (hh : Handed1 c ids) (hE : Ext (c.into ids) c1) (hr1 : Rel c1) {xs : List Int} {v : Value} (h : RowV c1 xs v) : RowV (c.back ids c1) xs v := by
  obtain ⟨a, cap, rfl, hc, h0⟩ := h
  refine ⟨a, cap, rfl, hc, ?_⟩
  rcases h0 with h0 | ⟨b, off, ha, hF, hU, hcell⟩
  · exact .inl h0
  · have := back_free hr hh hE hr1 hF hU
    exact .inr ⟨b, off, ha, this.1, this.2, hcell⟩
theorem back_atom (hr : Rel c) (hh : Handed1 c ids) (hE : Ext (c.into ids) c1) (hr1 : Rel c1) {a : Atom} {v : Value} (h : AtomR c1 a v) : AtomR (c.back ids c1) a v := by
  cases a <;> first | exact h | exact back_rowV hr hh hE hr1 h

theorem back_map (hr : Rel c) (hh : Handed1 c ids) (hE : Ext (c.into ids) c1) (hr1 : Rel c1) {id : Nat} (hid : id < c1.h.length) : mapId ids c.h.length id < (c.back ids c1).h.length ∧ (c.back ids c1).hv (mapId ids c.h.length id) = c1.hv id ∧
    getE (c.back ids c1).h (mapId ids c.h.length id) = (getE c1.h id).sh ids c.h.length := by
  have hk := back_k hr hh hE hr1
  have hl := back_len (c := c) (c1 := c1) (ids := ids) hk
  by_cases hj : id < ids.length
  · have hb : Nat.blt id ids.length = true := by simpa [Nat.blt_eq] using hj
    have hlt := hh.lt _ (hh.at hj)
    refine ⟨by rw [hl]; simp only [mapId, hb, cond_true]; omega, ?_, ?_⟩
    · simp only [mapId, hb, cond_true]
      rw [← back_hv hr hh hE hr1 hj]
      simp only [Cx.back, hlt, if_true]
    · simp only [mapId, hb, cond_true]
      exact back_at hh hk hj
  · have hb : Nat.blt id ids.length = false := by
      cases hx : Nat.blt id ids.length with
      | false => rfl
      | true => rw [Nat.blt_eq] at hx; omega
    refine ⟨by rw [hl]; simp only [mapId, hb, cond_false]; omega, ?_, ?_⟩
    · simp only [mapId, hb, cond_false, Cx.back]
      have h1 : ¬ (c.h.length + (id - ids.length) < c.h.length) := by omega
      rw [if_neg h1]
      congr 1; omega
    · simp only [mapId, hb, cond_false]
      rw [back_new (by omega)]
      congr 2; omega

theorem back_vr0 (hr : Rel c) (hh : Handed1 c ids) (hE : Ext (c.into ids) c1) (hr1 : Rel c1) {u : V} {v : Value} (ho : u.out0 = true) (h : VR0 c1 u v) : VR0 (c.back ids c1) (u.sh0 ids c.h.length) v := by
  cases u with
  | own id =>
    obtain ⟨h1, h2, h3⟩ := back_map hr hh hE hr1 h.1
    exact ⟨h1, h.2.trans h2.symm⟩
  | sub id o n =>
    obtain ⟨hid, a, cap, rfl, hn, hg, hl⟩ := h
    obtain ⟨h1, h2, h3⟩ := back_map hr hh hE hr1 hid
    refine ⟨h1, a, cap, rfl, hn, by rw [h2]; exact hg, fun l hl' => ?_⟩
    rw [h3] at hl'
    cases he : getE c1.h id with
    | row l2 => rw [he] at hl'; simp [E.sh] at hl'; subst hl'; exact hl l2 he
    | cells vs => rw [he] at hl'; simp [E.sh] at hl'
    | dead => rw [he] at hl'; simp [E.sh] at hl'
  | ptr id o =>
    obtain ⟨hid, g, hg, rfl⟩ := h
    obtain ⟨h1, h2, h3⟩ := back_map hr hh hE hr1 hid
    exact ⟨h1, g, by rw [h2]; exact hg, rfl⟩
  | ro s l =>
    have hs : s = true := ho
    subst hs
    obtain ⟨a, cap, rfl, hc, h0⟩ := h
    refine ⟨a, cap, rfl, hc, ?_⟩
    rcases h0 with h0 | ⟨b, off, ha, hF, hU, hcell⟩
    · exact .inl h0
    · have := back_free hr hh hE hr1 (hF rfl) hU
      refine .inr ⟨b, off, ha, fun _ => this.1, this.2, fun j hj => ?_⟩
      obtain ⟨x, hx, hxa⟩ := hcell j hj
      exact ⟨x, hx, back_atom hr hh hE hr1 hxa⟩
  | ref a => simp [V.out0] at ho
  | elt id o n i => simp [V.out0] at ho
  | agg vs => exact h.elim
  | tup vs => exact h.elim
  | _ => exact h
theorem back_vr1 (hr : Rel c) (hh : Handed1 c ids) (hE : Ext (c.into ids) c1) (hr1 : Rel c1) {u : V} {v : Value} (ho : u.out1 = true) (h : VR1 c1 u v) : VR1 (c.back ids c1) (u.sh1 ids c.h.length) v := by
  cases u with
  | agg vs =>
    obtain ⟨cs, rfl, hs, ha⟩ := h
    refine ⟨cs, rfl, by simpa using hs, fun j hj => ?_⟩
    have hj' : j < vs.length := by simpa using hj
    have e : (vs.map (V.sh0 ids c.h.length)).getD j .junk = (vs.getD j .junk).sh0 ids c.h.length := by simp [List.getD, hj']
    rw [e]; exact back_vr0 hr hh hE hr1 (all_getD (p := V.out0) ho hj') (ha j hj')
  | tup vs => exact h.elim
  | own id => exact (back_vr0 hr hh hE hr1 (u := .own id) ho h).vr1
  | sub id o n => exact (back_vr0 hr hh hE hr1 (u := .sub id o n) ho h).vr1
  | ptr id o => exact (back_vr0 hr hh hE hr1 (u := .ptr id o) ho h).vr1
  | ro s l => exact (back_vr0 hr hh hE hr1 (u := .ro s l) ho h).vr1
  | ref a => simp [V.out1, V.out0] at ho
  | elt id o n i => simp [V.out1, V.out0] at ho
  | _ => exact h
theorem back_vr (hr : Rel c) (hh : Handed1 c ids) (hE : Ext (c.into ids) c1) (hr1 : Rel c1) {u : V} {v : Value} (ho : u.outs) (h : VR c1 u v) : VR (c.back ids c1) (u.sh ids c.h.length) v := by
  rcases ho with ho | ⟨vs, rfl, ho⟩
  · have hnt : ∀ ws, u ≠ .tup ws := fun ws e => by subst e; simp [V.out1, V.out0] at ho
    have h1 := back_vr1 hr hh hE hr1 ho ((vr_eq hnt).1 h)
    have e : u.sh ids c.h.length = u.sh1 ids c.h.length := by
      cases u <;> first | rfl | exact absurd rfl (hnt _)
    rw [e]; exact h1.vr
  · obtain ⟨cs, rfl, hs, ha⟩ := h
    refine ⟨cs, rfl, by simpa using hs, fun j hj => ?_⟩
    have hj' : j < vs.length := by simpa using hj
    have e : (vs.map (V.sh1 ids c.h.length)).getD j .junk = (vs.getD j .junk).sh1 ids c.h.length := by simp [List.getD, hj']
    rw [e]; exact back_vr1 hr hh hE hr1 (all_getD (p := V.out1) ho hj') (ha j hj')

theorem back_rel (hr : Rel c) (hh : Handed1 c ids) (hE : Ext (c.into ids) c1) (hr1 : Rel c1) (ho : c1.h.all E.out = true) : Rel (c.back ids c1) := by
  have hk := back_k hr hh hE hr1
  have hX := back_ext hr hh hE hr1
  have hout : ∀ j, (getE c1.h j).out = true := fun j => by
    rcases Nat.lt_or_ge j c1.h.length with hj | hj
    · rw [List.all_eq_true] at ho
      have e : getE c1.h j = c1.h[j] := by simp [getE, List.getD, hj]
      rw [e]; exact ho _ (List.getElem_mem hj)
    · rw [getE_out hj]; rfl
  have conv : ∀ i j, (c.back ids c1).hv i = c1.hv j → Ent c1 j (getE c1.h j) → Ent (c.back ids c1) i ((getE c1.h j).sh ids c.h.length) := by
    intro i j hv he
    have hoj := hout j
    cases hd : getE c1.h j with
    | row l =>
      rw [hd] at he
      obtain ⟨e, xs, ho, ha⟩ := he
      refine ⟨e, xs, by rw [hv]; exact ho, fun k hk => ?_⟩
      obtain ⟨x, hx, hxa⟩ := ha k hk
      exact ⟨x, hx, back_atom hr hh hE hr1 hxa⟩
    | cells vs =>
      rw [hd] at he hoj
      obtain ⟨b, e, cs, hvb, hg, hs, ha⟩ := he
      refine ⟨b, e, cs, by rw [hv]; exact hvb, hg, by simpa using hs, fun k hk => ?_⟩
      have hk' : k < vs.length := by simpa using hk
      obtain ⟨x, hx, hxa⟩ := ha k hk'
      refine ⟨x, hx, ?_⟩
      have e : (vs.map (V.sh0 ids c.h.length)).getD k .junk = (vs.getD k .junk).sh0 ids c.h.length := by simp [List.getD, hk']
      rw [e]; exact back_vr0 hr hh hE hr1 (all_getD (p := V.out0) hoj hk') hxa
    | dead => trivial
  refine ⟨fun i hi => ?_, fun i hi => ?_, fun i j b hi hj hbi hbj => ?_, fun b hb => ?_, fun b hb => ?_⟩
  · rcases Nat.lt_or_ge i c.h.length with h | h
    · have e : (c.back ids c1).hv i = c.hv i := by simp [Cx.back, h]
      rw [e]; exact hr.one i h
    · have e : (c.back ids c1).hv i = c1.hv (ids.length + (i - c.h.length)) := by
        have : ¬ i < c.h.length := by omega
        simp [Cx.back, this]
      rw [e]; exact hr1.one _ (by rw [back_len hk] at hi; omega)
  · rcases Nat.lt_or_ge i c.h.length with h | h
    · by_cases hm : i ∈ ids
      · obtain ⟨j, hj, hji⟩ := List.getElem_of_mem hm
        have e : ids.getD j 0 = i := by simp [List.getD, hj]; exact hji
        have h2 := back_at hh hk hj
        rw [e] at h2
        rw [h2]
        exact conv i j (by rw [← back_hv hr hh hE hr1 hj, e]; simp [Cx.back, h]) (hr1.ent j (by omega))
      · rw [back_old h hm]
        by_cases hal : (getE c.h i).alive = true
        · refine (hr.ent i h).keep hX h (fun b hb => ?_)
          exact hE.block b (hr.lt b ⟨i, hal, hb⟩) (back_far hr hh hE hr1 hm hal hb).2.1
        · cases hd : getE c.h i with
          | dead => trivial
          | row l => rw [hd] at hal; exact absurd rfl hal
          | cells vs => rw [hd] at hal; exact absurd rfl hal
    · rw [back_new h]
      refine conv i _ ?_ (hr1.ent _ (by rw [back_len hk] at hi; omega))
      have : ¬ i < c.h.length := by omega
      simp [Cx.back, this]
  · rcases back_cases hr hh hE hr1 hi with ⟨a1, a2, a3, a4⟩ | ⟨p, p1, p2, p3⟩ <;> rcases back_cases hr hh hE hr1 hj with ⟨b1, b2, b3, b4⟩ | ⟨q, q1, q2, q3⟩
    · rw [a4] at hbi; rw [b4] at hbj
      exact hr.inj i j b a3 b3 hbi hbj
    · rw [a4] at hbi; rw [q2] at hbj
      exact absurd ⟨q, q1, hbj⟩ (back_far hr hh hE hr1 a2 a3 hbi).2.2
    · rw [b4] at hbj; rw [p2] at hbi
      exact absurd ⟨p, p1, hbi⟩ (back_far hr hh hE hr1 b2 b3 hbj).2.2
    · rw [p2] at hbi; rw [q2] at hbj
      have hpq := hr1.inj p q b p1 q1 hbi hbj
      subst hpq
      rcases p3 with ⟨x1, x2⟩ | ⟨x1, x2⟩ <;> rcases q3 with ⟨y1, y2⟩ | ⟨y1, y2⟩
      · rw [x2, y2]
      · omega
      · omega
      · rw [x2, y2]
  · rcases back_U hr hh hE hr1 hb with ⟨i, h1, h2, h3, h4⟩ | h
    · exact Nat.lt_of_lt_of_le (hr.lt b ⟨i, h3, h4⟩) hE.size
    · exact hr1.lt b h
  · have h1 : c1.F b := by rw [hE.F]; exact .inl hb
    refine ⟨(hr1.far b h1).1, fun hu => ?_⟩
    rcases back_U hr hh hE hr1 hu with ⟨i, _, _, h3, h4⟩ | h
    · exact (hr.far b hb).2 ⟨i, h3, h4⟩
    · exact (hr1.far b h1).2 h
end

/-- A call by what is known of the callee. -/
theorem callC_ok {P : Program} {f : FuncId} {sp : List V → List E → (V → List E → R) → R} (hf : FnOk P f sp) {keep : Bool} {ds : List TypeDesc} {args : List V} {κ : V → List E → R} {r : V × List E} {c : Cx} {cargs : Array Value}
    (h : callC keep ds sp args c.h κ = some r) (hr : Rel c) (ha : ArgsR c args cargs.toList) :
    Calls P f cargs c.w fun e w' => ∃ x v c', e = .returned x ∧ κ v c'.h = some r ∧ Ext c c' ∧ Rel c' ∧ VR c' v x ∧ c'.w = w' := by
  unfold callC at h
  split at h
  · rename_i args' ids hp
    have h0 : Handed1 c [] := ⟨List.nodup_nil, by simp, by simp⟩
    obtain ⟨hh, _, hlen, hall⟩ := passC_ok hr ds args [] _ args' ids (passA_is hp).1 (passA_is hp).2 ha h0
    have harg : ArgsR (c.into ids) args' cargs.toList := ⟨by rw [hlen]; exact ha.1, fun j hj => hall j (by omega)⟩
    refine (hf args' _ r (c.into ids) cargs h (into_rel hr hh) harg).mono ?_
    rintro e w' ⟨x, v, c1, rfl, h2, h3, h4, h5, rfl, h7, h8⟩
    exact ⟨x, v.sh ids c.h.length, c.back ids c1, rfl, h2, back_ext hr hh h3 h4, back_rel hr hh h3 h4 h8, back_vr hr hh h3 h4 h7 h5, rfl⟩
  · cases h

end Go.Proofs.Ythcidiihfjjpdaa.D
/- Small words for twins that are written by program off the translated code. Conditions: none. -/
namespace Go.Proofs.Ythcidiihfjjpdaa.D
open Go.RowKit
set_option linter.unusedVariables false
set_option linter.unusedSimpArgs false

/-- What goes on with an answer, or without one. -/
def optC {α β : Type} (o : Option β) (f : β → α) (fail : α) : α :=
  match o with
  | some b => f b
  | none => fail
def sumC {α β γ : Type} (q : α ⊕ β) (f : α → γ) (g : β → γ) : γ :=
  match q with
  | .inl a => f a
  | .inr b => g b
theorem apply_sumC {α β γ δ : Type} (k : γ → δ) (q : α ⊕ β) (f : α → γ) (g : β → γ) : k (sumC q f g) = sumC q (fun a => k (f a)) (fun b => k (g b)) := by
  cases q <;> rfl
theorem sumC_congr {α β γ : Type} {q : α ⊕ β} {f f' : α → γ} {g g' : β → γ} (hf : ∀ a, f a = f' a) (hg : ∀ b, g b = g' b) : sumC q f g = sumC q f' g' := by
  cases q with
  | inl a => exact hf a
  | inr b => exact hg b
theorem apply_optC {α β γ : Type} (g : α → γ) (o : Option β) (f : β → α) (fail : α) : g (optC o f fail) = optC o (fun b => g (f b)) (g fail) := by
  cases o <;> rfl
theorem apply_cnd {α γ : Type} (g : α → γ) (b : Bool) (x y : α) : g (cond b x y) = cond b (g x) (g y) := by cases b <;> rfl

theorem cnd_congr {α : Type} {b : Bool} {x y x' y' : α} (hx : x = x') (hy : y = y') : cond b x y = cond b x' y' := by rw [hx, hy]
theorem optC_congr {α β : Type} {o : Option β} {f g : β → α} {fail : α} (h : ∀ r, f r = g r) : optC o f fail = optC o g fail := by
  cases o with
  | none => rfl
  | some b => exact h b
theorem optC_law {β : Type} {o : Option β} {f : β → V} {g : β → List E} {κ : V → List E → R} {r : V × List E} (h : optC o (fun b => κ (f b) (g b)) none = some r) :
    ∃ v h', κ v h' = some r ∧ ∀ κ2 : V → List E → R, optC o (fun b => κ2 (f b) (g b)) none = κ2 v h' := by
  cases o with
  | none => cases h
  | some b => exact ⟨_, _, h, fun _ => rfl⟩

theorem optC_law2 {β : Type} {o : Option β} {F : β → (V → List E → R) → R} {κ : V → List E → R} {r : V × List E} (hF : ∀ b κ r, F b κ = some r → ∃ v h', κ v h' = some r ∧ ∀ κ2, F b κ2 = κ2 v h')
    (h : optC o (fun b => F b κ) none = some r) : ∃ v h', κ v h' = some r ∧ ∀ κ2, optC o (fun b => F b κ2) none = κ2 v h' := by
  cases o with
  | none => cases h
  | some b => exact hF b κ r h

/-- How many rounds and calls are granted: more than any here takes. -/
theorem fuel_ex : ∃ n : Nat, 1000000000 ≤ n := ⟨1000000000, Nat.le_refl _⟩
noncomputable def FUEL : Nat := Classical.choose fuel_ex
theorem FUEL_le : 1000000000 ≤ FUEL := Classical.choose_spec fuel_ex

/-- What is done behind the loop with a number. -/
def afterC (TD : TypeId → Option TI) (K : FuncId → List V → List E → (V → List E → R) → R) (ann : Nat → List Nat × List Nat) (drawOk : Array Oper → Bool) (m fuel : Nat) (id : Nat) : Code → (X → St → R) → Option (X → St → R)
  | .seq a b, k =>
    match afterC TD K ann drawOk m fuel id a (seqK ann m b (fun σ => denC TD K ann drawOk m fuel b σ k) k) with
    | some r => some r
    | none => afterC TD K ann drawOk m fuel id b k
  | .cond _ a b, k =>
    match afterC TD K ann drawOk m fuel id a k with
    | some r => some r
    | none => afterC TD K ann drawOk m fuel id b k
  | .block j c, k => afterC TD K ann drawOk m fuel id c (fun x σ' => match x with
      | .exit i => bif Nat.beq i j then k .normal σ' else k (.exit i) σ'
      | x => k x σ')
  | .loop c, k => bif Nat.beq (headId c) id then some k else none
  | _, _ => none
/-- A row of steps, one after the other. -/
def tailsC : Nat → Code → Code
  | 0, c => c
  | n + 1, .seq _ b => tailsC n b
  | _, c => c
def headsC (n : Nat) (c : Code) : Code := match tailsC n c with
  | .seq a _ => a
  | c => c
theorem denC_seqJ {TD : TypeId → Option TI} {K : FuncId → List V → List E → (V → List E → R) → R} {ann : Nat → List Nat × List Nat} {drawOk : Array Oper → Bool} {m fuel : Nat} (a b : Code) (σ : St) (k : X → St → R) :
    denC TD K ann drawOk m fuel (.seq a b) σ k = denC TD K ann drawOk m fuel a σ (seqK ann m b (fun σ => denC TD K ann drawOk m fuel b σ k) k) := rfl
def finC (TD : TypeId → Option TI) (m : Nat) (fn : Func) (κ : V → List E → R) : X → St → R := fun x σ => match x with
  | .exit _ => none
  | _ => match resAll TD σ fn.results.toList with
    | some vs => outC m vs σ.h κ
    | none => none
def roundC (m : Nat) (live out : List Nat) (it : St → R) (k : X → St → R) : X → St → R := fun x σ' => match x with
  | .normal => it (norm m live σ')
  | x => k x (norm m out σ')

/-- What is known of a function: which slices it may keep, its parameters, what it answers. -/
structure Spec where
  keep : Bool
  pure : Bool
  ds : List TypeDesc
  sp : List V → List E → (V → List E → R) → R

def tableK : List (FuncId × Spec) → FuncId → List V → List E → (V → List E → R) → R
  | [], _, _, _, _ => none
  | (g, s) :: r, f, args, h, κ => bif Nat.beq g f then callC s.keep s.ds s.sp args h κ else tableK r f args h κ
def tableP : List (FuncId × Spec) → FuncId → Bool × Bool
  | [], _ => (false, false)
  | (g, s) :: r, f => bif Nat.beq g f then (s.pure, s.ds.all fun d => !rwD d) else tableP r f

structure SpecOk (P : Program) (f : FuncId) (s : Spec) : Prop where
  ok : FnOk P f s.sp
  fn : ∃ fn, P.funcs[f]? = some fn ∧ fn.body.isNone = false ∧ (fn.name == "runtime.NumGoroutine") = false
  law : ∀ args h κ r, s.sp args h κ = some r → ∃ v h', κ v h' = some r ∧ ∀ κ2, s.sp args h κ2 = κ2 v h'
  pur : s.pure = true → ∀ args h κ r, s.sp args h κ = some r → h = [] ∧ ∀ κ2, s.sp args h κ2 = s.sp args h fun v _ => κ2 v []

theorem callC_law {keep : Bool} {ds : List TypeDesc} {sp : List V → List E → (V → List E → R) → R} (hl : ∀ args h κ r, sp args h κ = some r → ∃ v h', κ v h' = some r ∧ ∀ κ2, sp args h κ2 = κ2 v h')
    {args : List V} {h : List E} {κ : V → List E → R} {r : V × List E} (hc : callC keep ds sp args h κ = some r) : ∃ v h', κ v h' = some r ∧ ∀ κ2, callC keep ds sp args h κ2 = κ2 v h' := by
  unfold callC at hc
  split at hc
  · rename_i args' ids hp
    obtain ⟨v, h', h1, h2⟩ := hl _ _ _ _ hc
    refine ⟨_, _, h1, fun κ2 => ?_⟩
    simp only [callC, hp]
    exact h2 _
  · cases hc

theorem table_ok {P : Program} : ∀ (T : List (FuncId × Spec)), (∀ p ∈ T, SpecOk P p.1 p.2) → KOk P (tableK T) := by
  intro T
  induction T with
  | nil => intro _; exact ⟨fun f args h κ r hh => (by cases hh), fun f args h κ r hh => (by cases hh), fun f args h κ r hh => (by cases hh)⟩
  | cons p T ih =>
    intro hT
    obtain ⟨g, s⟩ := p
    have ih' := ih (fun q hq => hT q (by simp [hq]))
    have hs : SpecOk P g s := hT (g, s) (by simp)
    refine ⟨fun f args h κ r hh => ?_, fun f args h κ r hh => ?_, fun f args h κ r hh c cargs hc hr ha => ?_⟩
    · simp only [tableK] at hh
      by_cases hg : g = f
      · subst hg; exact hs.fn
      · rw [nbeq_ne hg, cond_false] at hh; exact ih'.fn f args h κ r hh
    · simp only [tableK] at hh ⊢
      by_cases hg : g = f
      · subst hg
        rw [nbeq_self, cond_true] at hh
        obtain ⟨v, h', h1, h2⟩ := callC_law hs.law hh
        exact ⟨v, h', h1, fun κ2 => by rw [nbeq_self, cond_true]; exact h2 κ2⟩
      · rw [nbeq_ne hg, cond_false] at hh
        obtain ⟨v, h', h1, h2⟩ := ih'.law f args h κ r hh
        exact ⟨v, h', h1, fun κ2 => by rw [nbeq_ne hg, cond_false]; exact h2 κ2⟩
    · simp only [tableK] at hh
      by_cases hg : g = f
      · subst hg
        rw [nbeq_self, cond_true] at hh
        subst hc
        exact callC_ok hs.ok hh hr ha
      · rw [nbeq_ne hg, cond_false] at hh; exact ih'.ok f args h κ r hh c cargs hc hr ha

theorem table_pure {P : Program} : ∀ (T : List (FuncId × Spec)), (∀ p ∈ T, SpecOk P p.1 p.2) → PureOk (tableK T) (fun f => (tableP T f).1) := by
  intro T
  induction T with
  | nil => intro _ f hf; cases hf
  | cons p T ih =>
    intro hT
    obtain ⟨g, s⟩ := p
    have ih' := ih (fun q hq => hT q (by simp [hq]))
    have hs : SpecOk P g s := hT (g, s) (by simp)
    intro f hf args h κ
    simp only [tableP] at hf
    simp only [tableK]
    by_cases hg : g = f
    · subst hg
      rw [nbeq_self, cond_true] at hf ⊢
      rw [cond_true]
      unfold callC
      cases hp : passA s.keep h s.ds args with
      | none => rfl
      | some q =>
        obtain ⟨args', ids⟩ := q
        simp only
        -- the callee's own answer
        cases hsome : s.sp args' (ids.map (getE h)) (fun v h1 => some (v, h1)) with
        | none =>
          have hn : ∀ κ2, s.sp args' (ids.map (getE h)) κ2 = none := fun κ2 => by
            cases hx : s.sp args' (ids.map (getE h)) κ2 with
            | none => rfl
            | some r =>
              obtain ⟨v, h', _, h2⟩ := hs.law _ _ _ _ hx
              rw [h2] at hsome; cases hsome
          rw [hn, hn]
        | some r =>
          obtain ⟨h1, h2⟩ := hs.pur hf _ _ _ _ hsome
          have hids : ids = [] := by
            cases ids with
            | nil => rfl
            | cons i ids => simp at h1
          subst hids
          rw [h2, h2 (fun v h1 => κ _ _)]
          simp [backE]
    · rw [nbeq_ne hg, cond_false] at hf ⊢
      rw [cond_false]
      exact ih' f hf args h κ

theorem passVs_ids {keep : Bool} {h : List E} : ∀ {cs : List Nat} {vs : List V} {ids : List Nat} {q : List V × List Nat}, passVs false keep h cs vs ids = some q → q.2 = ids := by
  intro cs
  induction cs with
  | nil =>
    intro vs ids q hq
    cases vs with
    | nil => simp [passVs] at hq; rw [← hq]
    | cons v r => simp [passVs] at hq
  | cons code cs ih =>
    intro vs ids q hq
    cases vs with
    | nil => simp [passVs] at hq
    | cons v vs =>
      simp only [passVs] at hq
      cases hp : passV false keep h code ids v with
      | none => rw [hp] at hq; cases hq
      | some p =>
        rw [hp] at hq
        simp only [Option.map_eq_some_iff] at hq
        obtain ⟨u, h3, rfl⟩ := hq
        have hpi : p.2 = ids := by
          cases v with
          | own id =>
            simp only [passV] at hp
            split at hp
            · rw [cond_false, Option.some.injEq] at hp; rw [← hp]
            · cases hp
          | nil =>
            simp only [passV] at hp
            split at hp
            · rw [Option.some.injEq] at hp; rw [← hp]
            · cases hp
          | ro s l => simp only [passV, Option.some.injEq] at hp; rw [← hp]
          | int k n => simp only [passV, Option.some.injEq] at hp; rw [← hp]
          | bool b => simp only [passV, Option.some.injEq] at hp; rw [← hp]
          | str b => simp only [passV, Option.some.injEq] at hp; rw [← hp]
          | _ => simp [passV] at hp
        have := ih h3
        rw [← hpi]; exact this
/-- What a call hands over when no row is written: blocks of cells. -/
theorem pass_cells {keep : Bool} {h : List E} : ∀ (ds : List TypeDesc) (args : List V) (ids0 : List Nat) (args' : List V) (ids : List Nat), (ds.all fun d => !rwD d) = true →
    passC keep h ds args ids0 = some (args', ids) → (∀ i ∈ ids0, ∀ l, getE h i ≠ .row l) → ∀ i ∈ ids, ∀ l, getE h i ≠ .row l := by
  intro ds
  induction ds with
  | nil =>
    intro args ids0 args' ids _ h1 h0
    cases args with
    | nil => simp [passC] at h1; obtain ⟨_, rfl⟩ := h1; exact h0
    | cons v r => simp [passC] at h1
  | cons d ds ih =>
    intro args ids0 args' ids hd h1 h0
    rw [List.all_cons, Bool.and_eq_true] at hd
    obtain ⟨hd1, hd2⟩ := hd
    cases args with
    | nil => simp [passC] at h1
    | cons v args =>
      have go : ∀ (u : V) (ids1 : List Nat), (∀ i ∈ ids1, ∀ l, getE h i ≠ .row l) → (passC keep h ds args ids1).map (fun p => (u :: p.1, p.2)) = some (args', ids) → ∀ i ∈ ids, ∀ l, getE h i ≠ .row l := by
        intro u ids1 h3 h2
        simp only [Option.map_eq_some_iff] at h2
        obtain ⟨⟨a2, i2⟩, h4, h5⟩ := h2
        simp at h5
        obtain ⟨_, rfl⟩ := h5
        exact ih args ids1 a2 i2 hd2 h4 h3
      have hrw : rwD d = false := by simpa using hd1
      cases v with
      | own id =>
        simp only [passC, hrw, cond_false] at h1
        split at h1
        · exact go _ _ h0 h1
        · cases h1
      | sub id o n =>
        simp only [passC] at h1
        split at h1
        · exact go _ _ h0 h1
        · cases h1
      | nil =>
        simp only [passC] at h1
        split at h1
        · exact go _ _ h0 h1
        · cases h1
      | ptr id off =>
        cases off with
        | succ off => simp [passC] at h1
        | zero =>
          simp only [passC] at h1
          cases hany : ids0.any (Nat.beq id) with
          | true => simp [hany] at h1
          | false =>
            rw [hany, cond_false] at h1
            split at h1
            · rename_i vs hvs
              generalize (vs.all fun v => v.ids0.isEmpty && v.flat && v.out0) = bb at h1
              cases bb with
              | false => rw [cond_false] at h1; cases h1
              | true =>
                rw [cond_true] at h1
                refine go _ _ (fun i hi l hl => ?_) h1
                rcases List.mem_append.1 hi with hi | hi
                · exact h0 i hi l hl
                · have e : i = id := by simpa using hi
                  subst e
                  rw [hvs] at hl; cases hl
            · cases h1
      | ro s l => simp only [passC] at h1; exact go _ _ h0 h1
      | int k n => simp only [passC] at h1; exact go _ _ h0 h1
      | bool b => simp only [passC] at h1; exact go _ _ h0 h1
      | str b => simp only [passC] at h1; exact go _ _ h0 h1
      | agg vs =>
        simp only [passC] at h1
        split at h1
        · rename_i cs
          split at h1
          · rename_i q hq
            rw [← passVs_ids hq] at h0
            exact go _ _ h0 h1
          · cases h1
        · cases hrw
        · cases hpl : vs.all fun v => v.ids0.isEmpty && v.flat && v.out0 with
          | false => rw [hpl, cond_false] at h1; cases h1
          | true => rw [hpl, cond_true] at h1; exact go _ _ h0 h1
      | _ => simp [passC] at h1

theorem keepE_other : ∀ (ids : List Nat) (es h : List E) (id : Nat), id ∉ ids → getE (backE ids es h) id = getE h id := by
  intro ids
  induction ids with
  | nil => intro es h id _; cases es <;> rfl
  | cons i ids ih =>
    intro es h id hn
    cases es with
    | nil => rfl
    | cons e es =>
      simp only [backE]
      rw [ih es _ id (fun hm => hn (by simp [hm]))]
      have : i ≠ id := fun e => hn (by simp [e])
      simp [getE, List.getD, List.getElem?_set_ne this]
theorem keepE_len : ∀ (ids : List Nat) (es h : List E), (backE ids es h).length = h.length := by
  intro ids
  induction ids with
  | nil => intro es h; cases es <;> rfl
  | cons i ids ih =>
    intro es h
    cases es with
    | nil => rfl
    | cons e es => simp only [backE]; rw [ih, List.length_set]

theorem table_keep {P : Program} : ∀ (T : List (FuncId × Spec)), (∀ p ∈ T, SpecOk P p.1 p.2) → KeepOk (tableK T) (fun f => (tableP T f).2) := by
  intro T
  induction T with
  | nil => intro _ f hf; cases hf
  | cons p T ih =>
    intro hT
    obtain ⟨g, s⟩ := p
    have ih' := ih (fun q hq => hT q (by simp [hq]))
    have hs : SpecOk P g s := hT (g, s) (by simp)
    intro f hf args h v h' hk id l hg
    simp only [tableP] at hf
    simp only [tableK] at hk
    by_cases hgf : g = f
    · subst hgf
      rw [nbeq_self, cond_true] at hf hk
      unfold callC at hk
      split at hk
      · rename_i args' ids hp
        obtain ⟨v1, h1, e1, _⟩ := hs.law _ _ _ _ hk
        simp only [Option.some.injEq, Prod.mk.injEq] at e1
        obtain ⟨_, rfl⟩ := e1
        have hid : id ∉ ids := fun hm => pass_cells s.ds args [] args' ids hf (passA_is hp).1 (fun i hi => by cases hi) id hm l hg
        have hlt : id < h.length := alive_lt (by rw [hg]; rfl)
        have hl2 := keepE_len ids ((h1.take ids.length).map (E.sh ids h.length)) h
        have e2 := keepE_other ids ((h1.take ids.length).map (E.sh ids h.length)) h id hid
        rw [← hg, ← e2]
        simp only [getE, List.getD]
        rw [List.getElem?_append_left (by rw [hl2]; exact hlt)]
      · cases hk
    · rw [nbeq_ne hgf, cond_false] at hf hk
      exact ih' f hf args h v h' hk id l hg

/-- A function's twin tells what the function answers. -/
theorem SpecOk.of {P : Program} {TD : TypeId → Option TI} (hT : TyOk P TD) (hm : P.follows .mixedOrders = true) {T : List (FuncId × Spec)} (hTab : ∀ p ∈ T, SpecOk P p.1 p.2) {ann : Nat → List Nat × List Nat}
    {f : FuncId} {fn : Func} (hf : P.funcs[f]? = some fn) (hb : fn.body.isNone = false) (hn : (fn.name == "runtime.NumGoroutine") = false) {s : Spec}
    (hd : ∀ args h κ r, s.sp args h κ = some r → funC TD (tableK T) ann (drawOk TD (tableP T)) FUEL fn args h κ = some r)
    (hl : ∀ args h κ r, s.sp args h κ = some r → ∃ v h', κ v h' = some r ∧ ∀ κ2, s.sp args h κ2 = κ2 v h')
    (hp : s.pure = true → ∀ args h κ r, s.sp args h κ = some r → h = [] ∧ ∀ κ2, s.sp args h κ2 = s.sp args h fun v _ => κ2 v []) : SpecOk P f s where
  ok := FnOk.of hT (table_ok T hTab) (draw_ok hT (table_ok T hTab) hm (table_pure T hTab) (table_keep T hTab)) hf (fun args h κ r hh => ⟨FUEL, hd args h κ r hh⟩)
  fn := ⟨fn, hf, hb, hn⟩
  law := hl
  pur := hp
/-- Of a function that never answers all is told. -/
theorem SpecOk.zero {P : Program} {f : FuncId} {fn : Func} (hf : P.funcs[f]? = some fn) (hb : fn.body.isNone = false) (hn : (fn.name == "runtime.NumGoroutine") = false) {s : Spec}
    (hs : ∀ args h κ, s.sp args h κ = none) : SpecOk P f s where
  ok := fun args κ r c cargs hx => by rw [hs] at hx; cases hx
  fn := ⟨fn, hf, hb, hn⟩
  law := fun args h κ r hx => by rw [hs] at hx; cases hx
  pur := fun _ args h κ r hx => by rw [hs] at hx; cases hx

end Go.Proofs.Ythcidiihfjjpdaa.D
/- From a twin to a call at the outermost: what a law needs. Conditions: none. -/
namespace Go.Proofs.Ythcidiihfjjpdaa.D
open Go.RowKit
set_option linter.unusedVariables false
set_option linter.unusedSimpArgs false

/-- At the outermost nothing is owned, and nothing is foreign. -/
def topC (w : World) : Cx := ⟨fun _ => False, [], fun _ => .slice none 0 0, w⟩
theorem topC_U {w : World} {b : Nat} : ¬ (topC w).U b := by
  rintro ⟨i, hi, _⟩
  simp [topC, getE, List.getD] at hi
  cases hi
theorem topC_rel (w : World) : Rel (topC w) where
  one := fun i hi => absurd hi (Nat.not_lt_zero _)
  ent := fun i hi => absurd hi (Nat.not_lt_zero _)
  inj := fun i j b hi _ hb _ => absurd ⟨i, hi, hb⟩ topC_U
  lt := fun b hb => absurd hb topC_U
  far := fun b hb => hb.elim
theorem topC_below {w : World} {c' : Cx} (h : Ext (topC w) c') : Below w.heap.size w c'.w :=
  ⟨h.os, h.tape, h.output, h.size, fun k hk => h.block k hk topC_U⟩

theorem SpecOk.calls {P : Program} {f : FuncId} {s : Spec} (h : SpecOk P f s) {w : World} {args : List V} {cargs : Array Value} {b : Bool} (hs : s.sp args [] (fun v h => some (v, h)) = some (.bool b, []))
    (ha : ArgsR (topC w) args cargs.toList) : Calls P f cargs w fun e w' => e = .returned (.bool b) ∧ Below w.heap.size w w' := by
  refine (h.ok args (fun v h => some (v, h)) (.bool b, []) (topC w) cargs hs (topC_rel w) ha).mono ?_
  rintro e w' ⟨x, v, c', rfl, hv, he, hr, hx, rfl, _, _⟩
  have hv' : v = .bool b := by
    have := congrArg (fun o => (o.getD (.junk, [])).1) hv
    exact this
  subst hv'
  have hx' : x = .bool b := hx
  exact ⟨by rw [hx'], topC_below he⟩

theorem argsR1 {c : Cx} {v : V} {x : Value} (h : VR c v x) : ArgsR c [v] (#[x] : Array Value).toList :=
  ⟨rfl, fun j hj => by
    obtain rfl : j = 0 := by simp at hj; exact hj
    exact h⟩
theorem argsR2 {c : Cx} {v v' : V} {x x' : Value} (h : VR c v x) (h' : VR c v' x') : ArgsR c [v, v'] (#[x, x'] : Array Value).toList :=
  ⟨rfl, fun j hj => by
    match j, hj with
    | 0, _ => exact h
    | 1, _ => exact h'⟩
theorem argsR3 {c : Cx} {v v' v'' : V} {x x' x'' : Value} (h : VR c v x) (h' : VR c v' x') (h'' : VR c v'' x'') : ArgsR c [v, v', v''] (#[x, x', x''] : Array Value).toList :=
  ⟨rfl, fun j hj => by
    match j, hj with
    | 0, _ => exact h
    | 1, _ => exact h'
    | 2, _ => exact h''⟩
theorem argsR4 {c : Cx} {v v' v'' u : V} {x x' x'' y : Value} (h : VR c v x) (h' : VR c v' x') (h'' : VR c v'' x'') (h3 : VR c u y) : ArgsR c [v, v', v'', u] (#[x, x', x'', y] : Array Value).toList :=
  ⟨rfl, fun j hj => by
    match j, hj with
    | 0, _ => exact h
    | 1, _ => exact h'
    | 2, _ => exact h''
    | 3, _ => exact h3⟩

/-- A row that came in. -/
theorem topC_row (s : Bool) {k : IntKind} {w : World} {a : Option Addr} {len cap : Nat} {zs : List Int}
    (h : (a = none ∧ len = 0 ∧ cap = 0 ∧ zs = []) ∨ ∃ x : Addr, a = some x ∧ len ≤ cap ∧ cap ≤ maxLen ∧ zs.length = cap ∧ (∀ i, i < zs.length → w.cell? (x.add i) = some (.int k (zs.getD i 0))) ∧ ∀ n ∈ zs, (Lit.int k n).wf = true) :
    ∃ xs : List Int, xs.length = len ∧ xs.length ≤ maxLen ∧ (∀ n ∈ xs, (Lit.int k n).wf = true) ∧ VR (topC w) (.ro s (.ints k xs)) (.slice a len cap) := by
  rcases h with ⟨rfl, rfl, rfl, rfl⟩ | ⟨x, rfl, hl, hm, hz, hcell, hwf⟩
  · exact ⟨[], rfl, Nat.zero_le _, fun n hn => (by cases hn), ⟨none, 0, rfl, Nat.le_refl _, .inl rfl⟩⟩
  · have hL : (zs.take len).length = len := by rw [List.length_take]; omega
    refine ⟨zs.take len, hL, by rw [hL]; omega, fun n hn => hwf n (List.mem_of_mem_take hn), ?_⟩
    refine ⟨some x, cap, by simp only [L.len, hL], by simp only [L.len, hL]; exact hl, ?_⟩
    by_cases h0 : len = 0
    · exact .inl (by simp only [L.len, hL]; exact h0)
    · obtain ⟨b, off, spot⟩ := x
      have hspot : spot = none := by simpa [Addr.add] using World.cell?_spot (hcell 0 (by omega))
      subst hspot
      refine .inr ⟨b, off, rfl, fun _ hF => hF, topC_U, fun j hj => ?_⟩
      have hj' : j < len := by simp only [L.len, hL] at hj; exact hj
      refine ⟨_, ?_, rfl⟩
      have := hcell j (by omega)
      have e : eli (zs.take len) j = zs.getD j 0 := by simp [eli, List.getD, hj']
      rw [e, ← this]
      by_cases hj0 : j = 0
      · subst hj0; simp [Addr.add, topC]
      · simp [Addr.add, hj0, topC]

end Go.Proofs.Ythcidiihfjjpdaa.D
/- What loops of twins come to. Conditions: those of each theorem. -/
namespace Go.Proofs.Ythcidiihfjjpdaa.D
open Go.RowKit
set_option linter.unusedVariables false
set_option linter.unusedSimpArgs false

/-- A loop that has an aim and comes nearer to its end in each round. -/
theorem run_aim {S D : Type} {run : Nat → S → Option D} (Inv : S → Prop) (μ : S → Nat) (aim : S → D)
    (h : ∀ n s, Inv s → run (n + 1) s = some (aim s) ∨ ∃ s', run (n + 1) s = run n s' ∧ Inv s' ∧ μ s' < μ s ∧ aim s' = aim s) : ∀ n s, Inv s → μ s < n → run n s = some (aim s) := by
  intro n
  induction n with
  | zero => intro s _ hm; exact absurd hm (Nat.not_lt_zero _)
  | succ n ih =>
    intro s hi hm
    rcases h n s hi with h1 | ⟨s', h1, h2, h3, h4⟩
    · exact h1
    · rw [h1, ih s' h2 (by omega), h4]
theorem run_fuel {S D : Type} {run : Nat → S → Option D} (Inv : S → Prop) (μ : S → Nat) (aim : S → D)
    (h : ∀ n s, Inv s → run (n + 1) s = some (aim s) ∨ ∃ s', run (n + 1) s = run n s' ∧ Inv s' ∧ μ s' < μ s ∧ aim s' = aim s) {s : S} (hi : Inv s) (hm : μ s < 1000000000) : run FUEL s = some (aim s) :=
  run_aim Inv μ aim h FUEL s hi (by have := FUEL_le; omega)

theorem cnd_t {α : Type} {b : Bool} {x y : α} (h : b = true) : (bif b then x else y) = x := by rw [h]; rfl
theorem cnd_f {α : Type} {b : Bool} {x y : α} (h : b = false) : (bif b then x else y) = y := by rw [h]; rfl
theorem i64_wrap {n : Int} (h1 : -9223372036854775808 ≤ n) (h2 : n ≤ 9223372036854775807) : IntKind.i64.wrap n = n := by
  rw [IntKind.wrap_i64]; omega

/-- A loop that counts up and leaves at the first that tells something. -/
theorem run_find {D F : Type} {run : Nat → Int → Option (D ⊕ F)} {len : Nat} (f : Nat → Option D) (e : F) (hl : len ≤ 2097152)
    (h : ∀ n (x : Int), 0 ≤ x → x ≤ len → run (n + 1) x = if x < len then (match f x.toNat with | some d => some (.inl d) | none => run n (x + 1)) else some (.inr e)) :
    run FUEL 0 = some (match (List.range len).findSome? f with | some d => .inl d | none => .inr e) := by
  have key : ∀ n (k : Nat), k ≤ len → len - k < n → run n (k : Int) = some (match (List.range' k (len - k)).findSome? f with | some d => .inl d | none => .inr e) := by
    intro n
    induction n with
    | zero => intro k _ hk; omega
    | succ n ih =>
      intro k hk hn
      rw [h n k (by omega) (by omega)]
      by_cases hx : k < len
      · rw [if_pos (by omega)]
        have e1 : List.range' k (len - k) = k :: List.range' (k + 1) (len - (k + 1)) := by
          have : len - k = (len - (k + 1)) + 1 := by omega
          rw [this]; rfl
        rw [e1, List.findSome?_cons, Int.toNat_natCast]
        cases hf : f k with
        | some d => rfl
        | none =>
          have := ih (k + 1) (by omega) (by omega)
          rw [show ((k : Int) + 1) = ((k + 1 : Nat) : Int) by omega]
          exact this
      · rw [if_neg (by omega)]
        have : len - k = 0 := by omega
        rw [this]; rfl
  have := key FUEL 0 (by omega) (by have := FUEL_le; omega)
  rw [show len - 0 = len by omega, ← List.range_eq_range'] at this
  exact this
/-- The same with a test that must hold of all. -/
theorem run_all {run : Nat → Int → Option (Bool ⊕ Unit)} {len : Nat} (test : Nat → Bool) (hl : len ≤ 2097152)
    (h : ∀ n (x : Int), 0 ≤ x → x ≤ len → run (n + 1) x = if x < len then (bif test x.toNat then run n (x + 1) else some (.inl false)) else some (.inr ())) :
    run FUEL 0 = some (bif (List.range len).all test then .inr () else .inl false) := by
  rw [run_find (run := run) (len := len) (fun k => bif test k then none else some false) () hl (fun n x h0 h1 => by
    rw [h n x h0 h1]
    split
    · cases test x.toNat <;> rfl
    · rfl)]
  congr 1
  generalize List.range len = l
  induction l with
  | nil => rfl
  | cons a l ih =>
    rw [List.findSome?_cons, List.all_cons]
    cases ha : test a with
    | true => simpa using ih
    | false => rfl
/-- A loop that counts up and does the same thing to its state in each round. -/
theorem run_iter {S D : Type} {run : Nat → S → Option D} {len : Nat} (idx : S → Int) (next : S → S) (out : S → D) (Inv : S → Prop) (hl : len ≤ 2097152)
    (h : ∀ n s, Inv s → 0 ≤ idx s → idx s ≤ len → run (n + 1) s = if idx s < len then run n (next s) else some (out s))
    (hi : ∀ s, Inv s → 0 ≤ idx s → idx s < len → idx (next s) = idx s + 1 ∧ Inv (next s)) {s : S} (hs : Inv s) (h0 : 0 ≤ idx s) (h1 : idx s ≤ len) :
    run FUEL s = some (out (Nat.repeat next (len - (idx s).toNat) s)) := by
  have key : ∀ n (m : Nat) (s : S), Inv s → 0 ≤ idx s → idx s ≤ len → m = len - (idx s).toNat → m < n → run n s = some (out (Nat.repeat next m s)) := by
    intro n
    induction n with
    | zero => intro m s _ _ _ _ hm; omega
    | succ n ih =>
      intro m s hs h0 h1 hm hn
      rw [h n s hs h0 h1]
      by_cases hx : idx s < len
      · rw [if_pos hx]
        obtain ⟨e1, e2⟩ := hi s hs h0 hx
        obtain ⟨m, rfl⟩ : ∃ m', m = m' + 1 := ⟨m - 1, by omega⟩
        rw [ih m (next s) e2 (by omega) (by omega) (by omega) (by omega)]
        have : ∀ (k : Nat) (s : S), Nat.repeat next k (next s) = next (Nat.repeat next k s) := by
          intro k
          induction k with
          | zero => intro s; rfl
          | succ k ih => intro s; exact congrArg next (ih s)
        rw [this]; rfl
      · rw [if_neg hx]
        have : m = 0 := by omega
        subst this; rfl
  exact key FUEL _ s hs h0 h1 rfl (by have := FUEL_le; omega)
/-- A loop that ends with what is asked of it. -/
theorem run_post {S D : Type} {run : Nat → S → Option D} (Inv : S → Prop) (μ : S → Nat) (Post : D → Prop)
    (h : ∀ n s, Inv s → (∃ d, run (n + 1) s = some d ∧ Post d) ∨ ∃ s', run (n + 1) s = run n s' ∧ Inv s' ∧ μ s' < μ s) {s : S} (hi : Inv s) (hm : μ s < 1000000000) : ∃ d, run FUEL s = some d ∧ Post d := by
  have key : ∀ n s, Inv s → μ s < n → ∃ d, run n s = some d ∧ Post d := by
    intro n
    induction n with
    | zero => intro s _ hm; exact absurd hm (Nat.not_lt_zero _)
    | succ n ih =>
      intro s hi hm
      rcases h n s hi with h1 | ⟨s', h1, h2, h3⟩
      · exact h1
      · rw [h1]; exact ih s' h2 (by omega)
  exact key FUEL s hi (by have := FUEL_le; omega)
end Go.Proofs.Ythcidiihfjjpdaa.D
/- Small plain words: folds, searches, loops. Conditions: none. -/
namespace Go.Proofs.Ythcidiihfjjpdaa
open Go.RowKit
set_option linter.unusedVariables false
set_option linter.unusedSimpArgs false

/-- The k-th number of a list; 0 behind its end. -/
def el (zs : List Int) (k : Nat) : Int := zs.getD k 0


/-- A loop over 0 .. n-1 that carries a state. -/
def fold {α : Type} (n : Nat) (f : α → Nat → α) (a : α) : α := (List.range n).foldl f a
theorem fold_zero {α : Type} (f : α → Nat → α) (a : α) : fold 0 f a = a := rfl
theorem fold_succ {α : Type} (n : Nat) (f : α → Nat → α) (a : α) : fold (n+1) f a = f (fold n f a) n := by
  simp [fold, List.range_succ]

/-- A loop over 0 .. n-1 that leaves at the first k at which f answers. -/
def find {ρ : Type} (n : Nat) (f : Nat → Option ρ) : Option ρ := (List.range n).findSome? f
theorem find_none {ρ : Type} {n : Nat} {f : Nat → Option ρ} : find n f = none ↔ ∀ j, j < n → f j = none := by
  simp [find]
theorem find_some_ex {ρ : Type} {n : Nat} {f : Nat → Option ρ} {r : ρ} (h : find n f = some r) : ∃ k, k < n ∧ f k = some r := by
  obtain ⟨k, hk, h1⟩ := List.exists_of_findSome?_eq_some h
  exact ⟨k, by simpa using hk, h1⟩
theorem find_zero {ρ : Type} (f : Nat → Option ρ) : find 0 f = none := rfl
theorem find_succ {ρ : Type} (n : Nat) (f : Nat → Option ρ) : find (n+1) f = (find n f).or (f n) := by
  simp [find, List.range_succ, List.findSome?_append]
theorem find_some_of {ρ : Type} {n : Nat} {f : Nat → Option ρ} {k : Nat} {r : ρ} (hk : k < n) (h0 : find k f = none) (h1 : f k = some r) : find n f = some r := by
  obtain ⟨m, rfl⟩ : ∃ m, n = k + 1 + m := ⟨n - (k + 1), by omega⟩
  induction m with
  | zero => rw [Nat.add_zero, find_succ, h0, h1]; rfl
  | succ m ih => rw [← Nat.add_assoc, find_succ, ih (by omega)]; rfl
theorem find_none_succ {ρ : Type} {k : Nat} {f : Nat → Option ρ} (h0 : find k f = none) (h1 : f k = none) : find (k + 1) f = none := by
  rw [find_succ, h0, h1]; rfl

theorem find_false {n : Nat} {f : Nat → Option Bool} {x : Bool} (hf : ∀ k, k < n → f k = none ∨ f k = some false) : (find n f).getD x = true ↔ (∀ k, k < n → f k = none) ∧ x = true := by
  cases h : find n f with
  | none =>
    simp only [Option.getD_none]
    exact ⟨fun hx => ⟨find_none.1 h, hx⟩, fun hx => hx.2⟩
  | some r =>
    obtain ⟨k, hk, h1⟩ := find_some_ex h
    rcases hf k hk with h2 | h2
    · rw [h2] at h1; cases h1
    · rw [h2] at h1; cases h1
      simp only [Option.getD_some, Bool.false_eq_true, false_iff]
      intro h3
      have := h3.1 k hk
      rw [h2] at this; cases this
theorem if_none {c : Bool} {r : Bool} : (if c = true then some r else none) = (none : Option Bool) ↔ c = false := by cases c <;> simp
theorem if_either (c : Bool) : (if c = true then some false else none) = none ∨ (if c = true then some false else none) = some false := by cases c <;> simp
/-- A search that says false at the first k of which c holds. -/
theorem find_all {n : Nat} {f : Nat → Option Bool} {c : Nat → Bool} (hf : ∀ k, k < n → f k = if c k = true then some false else none) : (find n f).getD true = true ↔ ∀ k, k < n → c k = false := by
  cases h : find n f with
  | none =>
    simp only [Option.getD_none, true_iff]
    intro k hk
    have h1 := find_none.1 h k hk
    rw [hf k hk] at h1
    cases hc : c k with
    | false => rfl
    | true => rw [hc] at h1; simp at h1
  | some r =>
    obtain ⟨k, hk, h1⟩ := find_some_ex h
    rw [hf k hk] at h1
    cases hc : c k with
    | false => rw [hc] at h1; simp at h1
    | true =>
      rw [hc] at h1; simp at h1; subst h1
      simp only [Option.getD_some, Bool.false_eq_true, false_iff]
      intro h2
      rw [h2 k hk] at hc; cases hc
/-- A search that says true at the first k of which c holds. -/
theorem find_any {n : Nat} {f : Nat → Option Bool} {c : Nat → Bool} (hf : ∀ k, k < n → f k = if c k = true then some true else none) : (find n f).getD false = true ↔ ∃ k, k < n ∧ c k = true := by
  cases h : find n f with
  | none =>
    simp only [Option.getD_none, Bool.false_eq_true, false_iff]
    rintro ⟨k, hk, hc⟩
    have h1 := find_none.1 h k hk
    rw [hf k hk, hc] at h1
    simp at h1
  | some r =>
    obtain ⟨k, hk, h1⟩ := find_some_ex h
    rw [hf k hk] at h1
    cases hc : c k with
    | false => rw [hc] at h1; simp at h1
    | true =>
      rw [hc] at h1; simp at h1; subst h1
      simp only [Option.getD_some, true_iff]
      exact ⟨k, hk, hc⟩

/-- A loop over 0 .. n-1 that carries a state and may leave. -/
def loopE {σ ρ : Type} (n : Nat) (f : σ → Nat → ρ ⊕ σ) (s : σ) : ρ ⊕ σ := fold n (fun acc k => match acc with | .inl r => .inl r | .inr st => f st k) (.inr s)
theorem loopE_zero {σ ρ : Type} (f : σ → Nat → ρ ⊕ σ) (s : σ) : loopE 0 f s = .inr s := rfl
theorem loopE_succ {σ ρ : Type} {n : Nat} {f : σ → Nat → ρ ⊕ σ} {s st : σ} (h : loopE n f s = .inr st) : loopE (n + 1) f s = f st n := by
  unfold loopE at h ⊢; rw [fold_succ, h]
theorem loopE_left {σ ρ : Type} {n k : Nat} {f : σ → Nat → ρ ⊕ σ} {s st : σ} {r : ρ} (hk : k < n) (h : loopE k f s = .inr st) (h1 : f st k = .inl r) : loopE n f s = .inl r := by
  obtain ⟨m, rfl⟩ : ∃ m, n = k + 1 + m := ⟨n - (k + 1), by omega⟩
  induction m with
  | zero => rw [Nat.add_zero, loopE_succ h, h1]
  | succ m ih => have := ih (by omega); unfold loopE at this ⊢; rw [← Nat.add_assoc, fold_succ, this]

/-- A loop by a test, at most so many rounds. -/
def wh {σ : Type} : Nat → (σ → Bool) → (σ → σ) → σ → σ
  | 0, _, _, s => s
  | n + 1, c, f, s => if c s = true then wh n c f (f s) else s
theorem wh_more {σ : Type} {g : Nat} {c : σ → Bool} {f : σ → σ} {st V : σ} (h : wh g c f st = V) (hc : c st = true) (ht : c V = false) : ∃ g', g = g' + 1 := by
  cases g with
  | zero => simp only [wh] at h; subst h; rw [hc] at ht; cases ht
  | succ g => exact ⟨g, rfl⟩
theorem wh_step {σ : Type} {g : Nat} {c : σ → Bool} {f : σ → σ} {st V : σ} (h : wh (g + 1) c f st = V) (hc : c st = true) : wh g c f (f st) = V := by
  simpa only [wh, hc, if_true] using h
theorem wh_done {σ : Type} {g : Nat} {c : σ → Bool} {f : σ → σ} {st V : σ} (h : wh g c f st = V) (hc : c st = false) : V = st := by
  cases g with
  | zero => simp only [wh] at h; exact h.symm
  | succ g => simp only [wh, hc] at h; simpa using h.symm
theorem wh_inv {σ : Type} {n : Nat} {c : σ → Bool} {f : σ → σ} (I : σ → Prop) (m : σ → Nat) (hI : ∀ s, I s → c s = true → I (f s) ∧ m (f s) < m s) {s : σ} (hs : I s) (hn : m s ≤ n) : I (wh n c f s) ∧ c (wh n c f s) = false := by
  induction n generalizing s with
  | zero =>
    refine ⟨hs, ?_⟩
    cases hc : c s with
    | false => exact hc
    | true => have := (hI s hs hc).2; omega
  | succ n ih =>
    unfold wh
    cases hc : c s with
    | false => simp [hc, hs]
    | true => have h := hI s hs hc; simp; exact ih h.1 (by omega)


end Go.Proofs.Ythcidiihfjjpdaa
