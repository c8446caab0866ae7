/- Every operation of the small machine is one of the model's. Conditions: those of each theorem. -/
import Derived.Test.YtonbbeplmjidnaaAgg
namespace Go.Proofs.Ytonbbeplmjidnaa.D
open Go.RowKit
set_option linter.unusedVariables false
set_option linter.unusedSimpArgs false

theorem RelT.args {c : Cx} {σ : St} {a : Act} (h : RelT c σ a) (xs : List Operand) : ArgsR c (xs.map σ.ev) (xs.map a.eval) := by
  refine ⟨by simp, fun j hj => ?_⟩
  have hj' : j < xs.length := by simpa using hj
  have e1 : (xs.map σ.ev).getD j .junk = σ.ev xs[j] := by simp [List.getD, hj']
  have e2 : (xs.map a.eval).getD j undef = a.eval xs[j] := by simp [List.getD, hj']
  rw [e1, e2]; exact h.ev _

theorem RelT.opt {c : Cx} {σ : St} {a : Act} (h : RelT c σ a) (x : Option Operand) : OptR c (x.map σ.ev) (x.map a.eval) := by
  cases x with
  | none => trivial
  | some x => exact h.ev x

theorem same_operand {l c : Operand} (h : sameOperand l c = true) {a : Act} {k : IntKind} {n : Int} (hl : a.eval l = .int k n) : ∃ kc, a.eval c = .int kc n := by
  unfold sameOperand at h
  split at h
  · have := Nat.eq_of_beq_eq_true h; subst this; exact ⟨k, hl⟩
  · rename_i k1 x1 k2 x2
    have e : x1 = x2 := by simpa using h
    subst e
    simp [Act.eval] at hl
    obtain ⟨_, rfl⟩ := hl
    exact ⟨_, rfl⟩
  · cases h

theorem ofConst_not_agg (v : Value) (zs : List V) : ofConst v ≠ .agg zs := by
  unfold ofConst
  split <;> first | (intro h; cases h; done) | skip
  split <;> (intro h; cases h)

theorem ofZero_agg {z : Value} {zs : List V} (h : ofZero z = .agg zs) : ∃ cs : Array Value, z = .agg cs ∧ zs = cs.toList.map ofConst := by
  cases z <;> simp only [ofZero] at h <;> first | exact absurd h (ofConst_not_agg _ _) | skip
  rename_i cs
  exact ⟨cs, rfl, by injection h with h; exact h.symm⟩

theorem size_one {TD : TypeId → Option TI} {i : TypeId} (h : fitsOne TD i = true) : ∃ t, TD i = some t ∧ t.size = 1 := by
  unfold fitsOne at h
  split at h
  · rename_i hh; exact ⟨_, hh, rfl⟩
  · cases h

theorem freeze_flat : ∀ (vs : List V) (h : List E) (out : List (List Int)) (h' : List E), freeze h vs = some (out, h') → ∀ j, j < vs.length → (vs.getD j .junk).flat = true := by
  intro vs
  induction vs with
  | nil => intro h out h' _ j hj; simp at hj
  | cons v vs ih =>
    intro h out h' hf j hj
    have key : v.flat = true ∧ ∃ h2 o2 h3, freeze h2 vs = some (o2, h3) := by
      cases v <;> first | (simp [freeze] at hf; done) | (simp only [freeze] at hf; done) | skip
      · rename_i s l
        cases s <;> cases l <;> first | (simp [freeze] at hf; done) | skip
        rename_i k zs
        cases k <;> first | (simp [freeze] at hf; done) | skip
        simp only [freeze, Option.map_eq_some_iff] at hf
        obtain ⟨⟨o2, h2⟩, hf, _⟩ := hf
        exact ⟨rfl, _, o2, h2, hf⟩
      · simp only [freeze] at hf
        split at hf
        · simp only [Option.map_eq_some_iff] at hf
          obtain ⟨⟨o2, h2⟩, hf, _⟩ := hf
          exact ⟨rfl, _, o2, h2, hf⟩
        · cases hf
    obtain ⟨hk, h2, o2, h3, hf2⟩ := key
    cases j with
    | zero => simpa using hk
    | succ j => simpa using ih h2 o2 h3 hf2 j (by simpa using hj)

theorem opC_wp {P : Program} {TD : TypeId → Option TI} {K : FuncId → List V → List E → (V → List E → R) → R} (hT : TyOk P TD) (hK : KOk P K) {o : Oper} {σ : St} {a : Act} {c : Cx} {κ : V → List E → R} {r : V × List E}
    (h : opC TD K o σ κ = some r) (hr : Rel c) (ht : RelT c σ a) {N : Act → World → Prop} {Q : Exit → Act → World → Prop}
    (hN : ∀ v c' x, κ v c'.h = some r → Ext c c' → Rel c' → VR c' v x → N (a.put o.dst x) c'.w) : o.wp P a c.w N Q := by
  have hσ := ht.h
  obtain ⟨dst, op, ty, pos, after, guard⟩ := o
  -- an operation that leaves the world alone
  have same : ∀ (v : V) (z : Value), κ v c.h = some r → VR c v z → (execOp a.eval ⟨dst, op, ty, pos, after, guard⟩).run P c.w = .ok (.value z) c.w →
      (⟨dst, op, ty, pos, after, guard⟩ : Oper).wp P a c.w N Q := fun v z h1 h2 h3 => wp_val h3 (hN v c z h1 (Ext.refl c) hr h2)
  unfold opC at h
  split at h
  · rename_i x hop
    simp only at hop; subst hop
    rw [hσ] at h
    exact same _ _ h (ht.ev x) rfl
  · rename_i x hop
    simp only at hop; subst hop
    rw [hσ] at h
    split at h
    · -- an empty row of one's own
      split at h
      · split at h
        · split at h
          · rename_i l hl
            have hl0 : l.len = 0 := by
              unfold emptyRow at hl
              split at hl <;> simp at hl <;> subst hl <;> rfl
            obtain ⟨hE, hR, hV⟩ := push_row hr (l := l) (x := .slice none 0 0) (w' := c.w) (e := 0) (xs := []) (grown_self _ _) (by rw [hl0]; exact World.ownsRow_nil c.w 0 0 1) (fun b hb => by simp [blk] at hb) (fun c' _ j hj => by omega)
            exact wp_val (x := .slice none 0 0) (w' := (c.push (.row l) (.slice none 0 0) c.w).w) rfl (hN _ (c.push (.row l) (.slice none 0 0) c.w) _ h hE hR hV)
          · cases h
        · cases h
      · cases h
    · exact same _ _ h (ht.ev x) rfl
  · -- pick
    rename_i cc x y hop
    simp only at hop; subst hop
    rw [hσ] at h
    split at h
    · rename_i t hc
      have hcv := ht.ev cc
      rw [hc] at hcv
      have hcv := vr_bool hcv
      have hx := ht.ev x
      have hy := ht.ev y
      have hrun : (execOp a.eval ⟨dst, .pick cc x y, ty, pos, after, guard⟩).run P c.w = .ok (.value (if t then a.eval x else a.eval y)) c.w := by
        simp [execOp, hcv, asBool]
      split at h
      · rename_i bx by_ ex ey
        rw [ex] at hx; rw [ey] at hy
        have hx := vr_bool hx
        have hy := vr_bool hy
        refine same _ _ h ?_ hrun
        cases t
        · show (if false = true then a.eval x else a.eval y) = .bool (bif false then bx else by_)
          simp [hy]
        · show (if true = true then a.eval x else a.eval y) = .bool (bif true then bx else by_)
          simp [hx]
      · cases t with
        | true => exact same _ _ h (by simpa using hx) hrun
        | false => exact same _ _ h (by simpa using hy) hrun
    · cases h
  · -- binOp
    rename_i op' t x y yt hop
    simp only at hop; subst hop
    rw [hσ] at h
    obtain ⟨v, z, h1, h2, h3⟩ := bin_ok (P := P) (t := t) (ox := x) (oy := y) h (ht.ev x) (ht.ev y) (fun hb => by
      unfold descOf at hb
      split at hb
      · rename_i hd
        split at hd
        · rename_i i hi
          have := (hT.ok _ _ hi).1
          rw [hd] at this; exact this
        · cases hd
      · cases hb)
    refine same v z h1 h2 ?_
    show (do let x ← (do eqGuard op' t x y (a.eval x) (a.eval y); binOp op' t (a.eval x) (a.eval y) : Sem Value); pure (Next.value x) : Sem Next).run P c.w = _
    rw [Sem.run_bind, h3]; rfl
  · -- unOp
    rename_i op' t x hop
    simp only at hop; subst hop
    rw [hσ] at h
    obtain ⟨v, z, h1, h2, h3⟩ := un_ok (P := P) h (ht.ev x)
    exact same v z h1 h2 (by simp only [execOp, Sem.run_bind, h3, Result.andThen_ok, Sem.run_pure])
  · -- convert
    rename_i s d x hop
    simp only at hop; subst hop
    rw [hσ] at h
    obtain ⟨v, z, h1, h2, h3⟩ := conv_ok hT h (ht.ev x)
    exact same v z h1 h2 (by simp only [execOp, Sem.run_bind, h3, Result.andThen_ok, Sem.run_pure])
  · -- extract
    rename_i t i hop
    simp only at hop; subst hop
    rw [hσ] at h
    split at h
    · rename_i vs hv
      obtain ⟨h1, h2⟩ := bif_some h
      have h1' : i < vs.length := of_decide_eq_true h1
      have hx := ht.ev t
      rw [hv] at hx
      obtain ⟨cs, e, hs, hall⟩ := hx
      refine same _ (cs.getD i undef) h2 (hall i h1').vr ?_
      have hlt : i < cs.size := by omega
      simp [execOp, e, Instr.extract, hlt]
    · cases h
  · -- nilCheck
    rename_i x hop
    simp only at hop; subst hop
    rw [hσ] at h
    split at h
    · rename_i id off hv
      have hx := ht.ev x
      rw [hv] at hx
      obtain ⟨hid, g, hg, e⟩ := (show VR0 c (.ptr id off) (a.eval x) from hx)
      exact same _ (a.eval x) h hx (by simp [execOp, e])
    · cases h
  · -- indexAddr
    rename_i t x i hop
    simp only at hop; subst hop
    rw [hσ] at h
    split at h
    · rename_i e sz by_ z ht0
      split at h
      · rename_i d' by2 z' he
        obtain ⟨v, z, h1, h2, h3⟩ := idx_ok hT hr ht0 rfl he rfl h (ht.ev x) (ht.ev i)
        exact same v z h1 h2 (by simp only [execOp, Sem.run_bind, h3, Result.andThen_ok, Sem.run_pure])
      · cases h
    · cases h
  · -- fieldAddr
    rename_i t x f hop
    simp only at hop; subst hop
    rw [hσ] at h
    split at h
    · rename_i fs sz by_ z id off htd hv
      split at h
      · rename_i fd hfd
        split at h
        · rename_i d' n' by2 z' hfd2
          have hx := ht.ev x
          rw [hv] at hx
          obtain ⟨hid, g, hg, e⟩ := (show VR0 c (.ptr id off) (a.eval x) from hx)
          obtain ⟨u1, _⟩ := hT.ok _ _ htd
          obtain ⟨_, fi, hfi, hfs, _⟩ := hT.ok _ _ hfd2
          refine same _ (.pointer (some ⟨g, off + fd.offset, none⟩)) h ⟨hid, g, hg, rfl⟩ ?_
          have hne : ¬ fi.size = 0 := by simp at hfs; omega
          simp [execOp, Instr.fieldAt, run_underlying u1, hfd, Instr.sureAddr, e, fieldPlace, sizeOf, typeInfo, hfi, hne, add_none]
        · cases h
      · cases h
    · cases h
  · -- load
    rename_i t p hop
    simp only at hop; subst hop
    rw [hσ] at h
    split at h
    · rename_i fs n by_ z htd
      obtain ⟨u1, fi, hfi, hfs, _⟩ := hT.ok _ _ htd
      obtain ⟨v, z, e1, e2, e3⟩ := loadAgg_ok (P := P) hr u1 hfi hfs h (ht.ev p)
      exact same v z e1 e2 (by simp only [execOp, Sem.run_bind, e3, Result.andThen_ok, Sem.run_pure])
    · cases h
    · rename_i i hi h1 h2
      obtain ⟨u1, _⟩ := hT.ok _ _ ‹TD t = some i›
      obtain ⟨v, z, e1, e2, e3⟩ := load_ok (P := P) hr u1 ⟨fun fs e => by obtain ⟨d, s, b, z⟩ := i; simp only at e; subst e; exact hi _ _ _ _ rfl, fun n e' e => by obtain ⟨d, s, b, z⟩ := i; simp only at e; subst e; exact h1 _ _ _ _ _ rfl⟩ h (ht.ev p)
      exact same v z e1 e2 (by simp only [execOp, Sem.run_bind, e3, Result.andThen_ok, Sem.run_pure])
    · cases h
  · -- store
    rename_i t p x hop
    simp only at hop; subst hop
    rw [hσ] at h
    split at h
    · rename_i fs n by_ z htd
      obtain ⟨_, fi, hfi, hfs, _⟩ := hT.ok _ _ htd
      obtain ⟨c', e1, e2, e3, e4⟩ := storeAgg_ok (P := P) hr hfi hfs h (ht.ev p) (ht.ev x)
      exact wp_skp (by simp only [execOp, Sem.run_bind, e4, Result.andThen_ok, Sem.run_pure]) (hN .junk c' undef e1 e2 e3 trivial)
    · rename_i d by_ z hns htd
      obtain ⟨_, fi, hfi, hfs, _⟩ := hT.ok _ _ htd
      have key : (σ.ev x).flat = true → storeC (σ.ev p) (σ.ev x) c.h (fun h => κ .junk h) = some r → (⟨dst, .store t p x, ty, pos, after, guard⟩ : Oper).wp P a c.w N Q := by
        intro hfl hst
        obtain ⟨c', e1, e2, e3, e4⟩ := store_ok (P := P) hr hfi hfs hfl hst (ht.ev p) (ht.ev x)
        exact wp_skp (by simp only [execOp, Sem.run_bind, e4, Result.andThen_ok, Sem.run_pure]) (hN .junk c' undef e1 e2 e3 trivial)
      split at h
      · cases h
      · cases h
      · cases h
      · rename_i n1 n2 n3
        refine key ?_ h
        cases hv : σ.ev x <;> first | rfl | exact absurd hv (n1 _) | exact absurd hv (n2 _) | exact absurd hv n3
    · cases h
  · -- slice
    rename_i t x lo hi hop
    simp only at hop; subst hop
    rw [hσ] at h
    split at h
    · rename_i e sz by_ z ht0
      split at h
      · rename_i d' by2 z' he
        obtain ⟨u1, _⟩ := hT.ok _ _ ht0
        obtain ⟨_, fi, hfi, hfs, _⟩ := hT.ok _ _ he
        obtain ⟨v, z, h1, h2, h3⟩ := slice_ok (P := P) hr u1 hfi hfs (ht.opt lo) (ht.opt hi) h (ht.ev x)
        exact same v z h1 h2 (by simp only [execOp, Option.map_none, Sem.run_bind, h3, Result.andThen_ok, Sem.run_pure])
      · cases h
    · cases h
  · -- buildSlice
    rename_i t n parts hop
    simp only at hop; subst hop
    rw [hσ] at h
    split at h
    · rename_i e sz by_ z ht0
      split at h
      · rename_i d by2 ze he
        obtain ⟨hc, h⟩ := bif_some h
        simp only [Bool.and_eq_true, decide_eq_true_eq] at hc
        obtain ⟨⟨⟨hc1, hc2⟩, hc3⟩, hc4⟩ := hc
        have hsz : parts.size = n := Nat.eq_of_beq_eq_true hc1
        obtain ⟨u1, _⟩ := hT.ok _ _ ht0
        obtain ⟨_, fi, hfi, hfs, hfb, hfz⟩ := hT.ok _ _ he
        have hzs : ze.cells.size = 1 := by cases ze <;> first | rfl | (simp [notAgg] at hc4)
        have hlen : (parts.toList.map fun p => σ.ev p.2).length = n := by simp [hsz]
        have hargs := ht.args (parts.toList.map (·.2))
        simp only [List.map_map] at hargs
        have hargs : ArgsR c (parts.toList.map fun p => σ.ev p.2) (parts.toList.map fun p => a.eval p.2) := hargs
        split at h
        · rename_i l hl
          obtain ⟨h1, h2⟩ := rowOf_ok hl
          rw [hlen] at h1 h2
          obtain ⟨c', x, e1, e2, e3, e4, e5⟩ := buildSlice_ok (P := P) hr u1 hfi hfs hfz hzs hc3 ht hsz hc2 h1
            (fun j hj x hx => by
              have := (atom_of_vr (h2 j hj) hx).2
              cases x <;> first | rfl | (simp [Value.oneCell'] at this)) (c1 := c) rfl hr (Ext.refl c)
            (fun j hj c' hE => hE.atom (atom_of_vr (h2 j hj) (hargs.2 j (by omega))).1)
          exact wp_val (by simp only [execOp, Sem.run_bind, e5, Result.andThen_ok, Sem.run_pure]) (hN _ c' x (by rw [e1]; exact h) e2 e3 e4)
        · split at h
          · split at h
            · rename_i xs h' hfr
              obtain ⟨c1, e1, e2, hE1, hR1, hxl, hrow⟩ := freeze_ok _ c _ _ _ hr hargs hfr
              rw [hlen] at hxl hrow
              obtain ⟨c', x, f1, f2, f3, f4, f5⟩ := buildSlice_ok (P := P) hr u1 hfi hfs hfz hzs hc3 ht hsz hc2 (l := .rows xs) hxl
                (fun j hj x hx => by
                  have hj' : j < parts.toList.length := by simpa [hsz] using hj
                  have hv : (parts.toList.map fun p => σ.ev p.2).getD j .junk = σ.ev parts.toList[j].2 := by
                    have hj2 : j < parts.size := by omega
                    simp [List.getD, hj2]
                  have hflat := freeze_flat _ _ _ _ hfr j (by omega)
                  exact (flat_one hr hflat hx).2.2) e2 hR1 hE1
                (fun j hj c' hE => hE.rowV (hrow j hj))
              exact wp_val (by simp only [execOp, Sem.run_bind, f5, Result.andThen_ok, Sem.run_pure]) (hN _ c' x (by rw [f1, e1]; exact h) f2 f3 (by rw [← e1]; exact f4))
            · cases h
          · cases h
      · cases h
    · cases h
  · -- makeSlice
    rename_i t l cp hop
    simp only at hop; subst hop
    rw [hσ] at h
    split at h
    · rename_i e sz by_ z n ht0 hn
      split at h
      · rename_i d b ze he
        obtain ⟨hc, h⟩ := bif_some h
        simp only [Bool.and_eq_true, decide_eq_true_eq] at hc
        obtain ⟨⟨⟨⟨hc1, hc2⟩, hc3⟩, hc4⟩, hc5⟩ := hc
        obtain ⟨u1, _⟩ := hT.ok _ _ ht0
        obtain ⟨_, fi, hfi, hfs, hfb, hfz⟩ := hT.ok _ _ he
        have hx := ht.ev l
        rw [hn] at hx
        have hx := vr_int hx
        obtain ⟨kc, hcx⟩ := same_operand hc1 hx
        obtain ⟨m, rfl⟩ := Int.eq_ofNat_of_zero_le hc3
        split at h
        · rename_i l hl
          obtain ⟨c', x, e1, e2, e3, e4, e5⟩ := make_ok (P := P) hr u1 hfi hfs (by rw [hfb]; exact hc2) hfz hc5 (n := m) (l := l) (by simpa using hl) (by have := of_decide_eq_true hc4; simpa using this) (kl := .i64) (kc := kc)
          exact wp_val (by simp only [execOp, hx, hcx, Sem.run_bind, e5, Result.andThen_ok, Sem.run_pure]) (hN _ c' x (by rw [e1]; exact h) e2 e3 e4)
        · cases h
      · cases h
    · cases h
  · -- box
    rename_i t x hop
    simp only at hop; subst hop
    rw [hσ] at h
    have hx := ht.ev x
    have one : (σ.ev x).flat = true → κ (.ptr c.h.length 0) (c.h ++ [.cells [σ.ev x]]) = some r → (⟨dst, .box t x, ty, pos, after, guard⟩ : Oper).wp P a c.w N Q := by
      intro hfl hk
      obtain ⟨hv0, _, hcells⟩ := flat_one hr hfl hx
      obtain ⟨hE, hR, hV⟩ := push_cells hr (vs := [σ.ev x]) (xs := #[a.eval x]) rfl (fun j hj => by
        have : j = 0 := by simpa using hj
        subst this; simpa using hv0) t
      exact wp_val (w' := c.w.alloc (.cells #[a.eval x] t)) (by simp [execOp, Instr.box, newVar, newRow, hcells]) (hN _ _ _ hk hE hR hV)
    split at h
    · rename_i vs hv
      obtain ⟨h1, h2⟩ := bif_some h
      rw [hv] at hx
      obtain ⟨cs, e, hs, hall⟩ := (show VR1 c (.agg vs) (a.eval x) from hx)
      obtain ⟨hE, hR, hV⟩ := push_cells hr (vs := vs) (xs := cs) hs hall t
      exact wp_val (w' := c.w.alloc (.cells cs t)) (by simp [execOp, Instr.box, newVar, newRow, e, Value.cells]) (hN _ _ _ h2 hE hR hV)
    · cases h
    · cases h
    · rename_i n1 n2 n3
      refine one ?_ h
      cases hv : σ.ev x <;> first | rfl | exact absurd hv (n1 _) | exact absurd hv (n2 _) | exact absurd hv n3
  · -- build
    rename_i t parts hop
    simp only at hop; subst hop
    rw [hσ] at h
    split at h
    · rename_i fs sz by_ z ht0
      split at h
      · rename_i zs hz
        obtain ⟨hc, h⟩ := bif_some h
        simp only [buildOk, Bool.and_eq_true] at hc
        obtain ⟨hc1, hc2⟩ := hc
        obtain ⟨u1, fi, hfi, hfs, hfb, hfz⟩ := hT.ok _ _ ht0
        obtain ⟨cs, rfl, rfl⟩ := ofZero_agg hz
        have hsize : ∀ f ∈ fs.toList, ∃ g, P.info? f.type = some g ∧ g.size = (match TD f.type with | some i => i.size | none => 0) := fun f hf => by
          have := (Array.all_eq_true_iff_forall_mem.1 hc1) f (by simpa using hf)
          cases hi : TD f.type with
          | none => rw [hi] at this; cases this
          | some i =>
            obtain ⟨_, g, h1, h2, _⟩ := hT.ok _ _ hi
            exact ⟨g, h1, h2⟩
        have hpart : ∀ p ∈ parts.toList, ∃ fd, fs[p.1]? = some fd ∧ (match TD fd.type with | some i => i.size | none => 0) = 1 ∧ fd.offset < cs.size ∧ (σ.ev p.2).flat = true := fun p hp => by
          have := (Array.all_eq_true_iff_forall_mem.1 hc2) p (by simpa using hp)
          cases hfd : fs[p.1]? with
          | none => rw [hfd] at this; cases this
          | some fd =>
            rw [hfd] at this
            simp only [Bool.and_eq_true, decide_eq_true_eq, List.length_map, Array.length_toList] at this
            obtain ⟨⟨h1, h2⟩, h3⟩ := this
            obtain ⟨ti, hi1, hi2⟩ := size_one h1
            exact ⟨fd, rfl, by rw [hi1]; exact hi2, h2, h3⟩
        have hrun := run_build (P := P) (w := c.w) (ps := parts.map fun (i, x) => (i, a.eval x)) (size := fun t => match TD t with | some i => i.size | none => 0) u1 hfi hfz hsize (fun p hp => by
          simp only [Array.toList_map, List.mem_map] at hp
          obtain ⟨q, hq, rfl⟩ := hp
          obtain ⟨fd, h1, h2, h3, h4⟩ := hpart q hq
          exact ⟨fd, h1, h2, h3, (flat_one hr h4 (ht.ev q.2)).2.2⟩)
        have hrun' : (execOp a.eval ⟨dst, .build t parts, ty, pos, after, guard⟩).run P c.w = .ok (.value (.agg ((parts.map fun (i, x) => (i, a.eval x)).toList.foldl (fun acc p => match fs[p.1]? with | some fd => acc.setIfInBounds fd.offset p.2 | none => acc) cs))) c.w := by
          show (do let v ← Instr.build t (parts.map fun (i, x) => (i, a.eval x)); pure (Next.value v) : Sem Next).run P c.w = _
          rw [Sem.run_bind, hrun]; rfl
        refine same _ _ h ?_ hrun'
        -- the fields belong together
        have key : ∀ (ps : List (Nat × Operand)) (vs : List V) (xs : Array Value), (∀ p ∈ ps, (σ.ev p.2).flat = true) → xs.size = vs.length → (∀ j, j < vs.length → VR0 c (vs.getD j .junk) (xs.getD j undef)) →
            VR c (.agg (ps.foldl (fun acc p => match fs[p.1]? with | some fd => acc.set fd.offset (σ.ev p.2) | none => acc) vs))
              (.agg ((ps.map fun p => (p.1, a.eval p.2)).foldl (fun acc p => match fs[p.1]? with | some fd => acc.setIfInBounds fd.offset p.2 | none => acc) xs)) := by
          intro ps
          induction ps with
          | nil => intro vs xs _ h1 h2; exact ⟨xs, rfl, h1, h2⟩
          | cons p ps ih =>
            intro vs xs h0 h1 h2
            simp only [List.foldl_cons, List.map_cons]
            have h0' : ∀ q ∈ ps, (σ.ev q.2).flat = true := fun q hq => h0 q (by simp [hq])
            cases hfd : fs[p.1]? with
            | none => exact ih _ _ h0' h1 h2
            | some fd =>
              refine ih _ _ h0' (by simpa using h1) (fun j hj => ?_)
              have hj' : j < vs.length := by simpa using hj
              have hv := (flat_one hr (h0 p (by simp)) (ht.ev p.2)).1
              by_cases hjo : fd.offset = j
              · subst hjo
                have e1 : (vs.set fd.offset (σ.ev p.2)).getD fd.offset .junk = σ.ev p.2 := by simp [List.getD, hj']
                have e2 : (xs.setIfInBounds fd.offset (a.eval p.2)).getD fd.offset undef = a.eval p.2 := by
                  have : fd.offset < xs.size := by omega
                  simp [this]
                rw [e1, e2]; exact hv
              · have e1 : (vs.set fd.offset (σ.ev p.2)).getD j .junk = vs.getD j .junk := by simp [List.getD, hjo]
                have e2 : (xs.setIfInBounds fd.offset (a.eval p.2)).getD j undef = xs.getD j undef := by simp [Array.getElem?_setIfInBounds_ne hjo]
                rw [e1, e2]; exact h2 j hj'
        have hl : (parts.map fun (i, x) => (i, a.eval x)).toList = parts.toList.map fun p => (p.1, a.eval p.2) := by simp
        rw [hl]
        exact key parts.toList _ _ (fun p hp => (hpart p hp).choose_spec.2.2.2) (by simp) (fun j hj => by
          have hj' : j < cs.size := by simpa using hj
          have e1 : (cs.toList.map ofConst).getD j .junk = ofConst cs[j] := by simp [List.getD, hj']
          have e2 : cs.getD j undef = cs[j] := by simp [hj']
          rw [e1, e2]; exact vr0_const c _)
      · cases h
    · cases h
  · -- alloc
    rename_i t hop
    simp only at hop; subst hop
    rw [hσ] at h
    split at h
    · rename_i d sz by_ z htd
      obtain ⟨_, fi, hfi, hfs, hfb, hfz⟩ := hT.ok _ _ htd
      have hrun : ∀ cs : Array Value, z.cells = cs → (execOp a.eval ⟨dst, .alloc t, ty, pos, after, guard⟩).run P c.w = .ok (.value (.pointer (some ⟨c.w.heap.size, 0, none⟩))) (c.w.alloc (.cells cs t)) := by
        intro cs hcs
        have hz : (zeroValue t).run P c.w = .ok z c.w := by simp [zeroValue, typeInfo, hfi, hfz]
        simp [execOp, Instr.alloc, hz, newVar, newRow, hcs]
      split at h
      · rename_i vs hz
        obtain ⟨h1, h2⟩ := bif_some h
        obtain ⟨cs, rfl, rfl⟩ := ofZero_agg hz
        obtain ⟨hE, hR, hV⟩ := push_cells hr (vs := cs.toList.map ofConst) (xs := cs) (by simp) (fun j hj => by
          have hj' : j < cs.size := by simpa using hj
          have e1 : (cs.toList.map ofConst).getD j .junk = ofConst cs[j] := by simp [List.getD, hj']
          have e2 : cs.getD j undef = cs[j] := by simp [hj']
          rw [e1, e2]; exact vr0_const c _) t
        exact wp_val (w' := c.w.alloc (.cells cs t)) (hrun cs rfl) (hN _ _ _ h2 hE hR hV)
      · cases h
      · cases h
      · rename_i n1 n2 n3
        have hzc : ofZero z = ofConst z := by
          cases z <;> first | rfl | exact absurd rfl (n1 _)
        have hfl : (ofZero z).flat = true := by
          cases hv : ofZero z <;> first | rfl | exact absurd hv (n1 _) | exact absurd hv (n2 _) | exact absurd hv n3
        have hx : VR c (ofZero z) z := by rw [hzc]; exact vr_const c z
        obtain ⟨hv0, _, hcells⟩ := flat_one hr hfl hx
        obtain ⟨hE, hR, hV⟩ := push_cells hr (vs := [ofZero z]) (xs := #[z]) rfl (fun j hj => by
          have : j = 0 := by simpa using hj
          subst this; simpa using hv0) t
        exact wp_val (w' := c.w.alloc (.cells #[z] t)) (hrun #[z] hcells) (hN _ _ _ h hE hR hV)
    · cases h
  · -- field
    rename_i t x f hop
    simp only at hop; subst hop
    rw [hσ] at h
    split at h
    · rename_i fs sz by_ z vs htd hv
      split at h
      · rename_i fd hfd
        split at h
        · cases h
        · cases h
        · rename_i i n1 n2 hfd2
          obtain ⟨h1, h2⟩ := bif_some h
          have h1' : fd.offset < vs.length := of_decide_eq_true h1
          have hx := ht.ev x
          rw [hv] at hx
          obtain ⟨cs, e, hs, hall⟩ := (show VR1 c (.agg vs) (a.eval x) from hx)
          obtain ⟨u1, _⟩ := hT.ok _ _ htd
          obtain ⟨u2, _⟩ := hT.ok _ _ hfd2
          refine same _ (cs.getD fd.offset undef) h2 (hall _ h1').vr ?_
          have hagg : (isAgg fd.type).run P c.w = .ok false c.w := by
            obtain ⟨d, s, b, z⟩ := i
            simp only at u2
            simp only [isAgg, Sem.run_bind, run_underlying u2, Result.andThen_ok]
            cases d <;> first | rfl | exact (n1 _ _ _ _ rfl).elim | exact (n2 _ _ _ _ _ rfl).elim
          have hlt : fd.offset < cs.size := by omega
          simp [execOp, Instr.field, run_underlying u1, hfd, e, asAgg, part, hagg, hlt]
        · cases h
      · cases h
    · cases h
  · -- call
    rename_i cl hop
    simp only at hop; subst hop
    rw [hσ] at h
    obtain ⟨callee, cargs, cats⟩ := cl
    simp only at h
    split at h
    · -- len
      split at h
      · rename_i x t hx1 ht1
        have ea : cargs = #[x] := Array.toList_inj.1 hx1
        have et : cats = #[t] := Array.toList_inj.1 ht1
        subst ea; subst et
        split at h
        · rename_i e sz by_ z ht0
          obtain ⟨u1, _⟩ := hT.ok _ _ ht0
          obtain ⟨v, z, h1, h2, h3⟩ := len_ok (P := P) (ty := ty) hr u1 h (ht.ev x)
          refine same v z h1 h2 ?_
          simp only [execOp, resolve, invoke, builtin, Sem.run_bind, Sem.run_pure, Result.andThen_ok, List.map_toArray, List.map_cons, List.map_nil, h3]
        · cases h
      · cases h
    · -- min
      split at h
      · rename_i x rest hxs
        have hargs := ht.args cargs.toList
        rw [hxs] at hargs
        obtain ⟨y, ys, hy, hxy, hrest⟩ := hargs.tail
        obtain ⟨v, z, h1, h2, h3⟩ := minmax_ok (P := P) (mx := false) rest x y ys h hxy hrest
        refine same v z h1 h2 ?_
        have hl : (cargs.map a.eval).toList = y :: ys := by rw [← hy]; simp
        simp only [Bool.false_eq_true, if_false] at h3
        simp only [execOp, resolve, invoke, builtin, Builtin.min_, hl, Sem.run_bind, Sem.run_pure, Result.andThen_ok, h3]
      · cases h
    · -- max
      split at h
      · rename_i x rest hxs
        have hargs := ht.args cargs.toList
        rw [hxs] at hargs
        obtain ⟨y, ys, hy, hxy, hrest⟩ := hargs.tail
        obtain ⟨v, z, h1, h2, h3⟩ := minmax_ok (P := P) (mx := true) rest x y ys h hxy hrest
        refine same v z h1 h2 ?_
        have hl : (cargs.map a.eval).toList = y :: ys := by rw [← hy]; simp
        simp only [if_true] at h3
        simp only [execOp, resolve, invoke, builtin, Builtin.max_, hl, Sem.run_bind, Sem.run_pure, Result.andThen_ok, h3]
      · cases h
    · -- append
      split at h
      · rename_i s x t u hx1 ht1
        have ea : cargs = #[s, x] := Array.toList_inj.1 hx1
        have et : cats = #[t, u] := Array.toList_inj.1 ht1
        subst ea; subst et
        have hh := bif_some h
        clear h
        obtain ⟨htu, h⟩ := hh
        have htu := Nat.eq_of_beq_eq_true htu
        subst htu
        split at h
        · rename_i e sz by_ z ht0
          split at h
          · rename_i d b ze he
            obtain ⟨hc, h⟩ := bif_some h
            simp only [Bool.and_eq_true, decide_eq_true_eq] at hc
            obtain ⟨u1, _⟩ := hT.ok _ _ ht0
            obtain ⟨_, fi, hfi, hfs, hfb, hfz⟩ := hT.ok _ _ he
            have hzs : ze.cells.size = 1 := by cases ze <;> first | rfl | (simp [notAgg] at hc)
            obtain ⟨v, c', y, h1, h2, h3, h4, h5⟩ := app_ok (P := P) (ty := ty) hr u1 hfi hfz hfs (by rw [hfb]; exact hc.1) hzs h (ht.ev s) (ht.ev x)
            refine wp_val (w' := c'.w) ?_ (hN v c' y h1 h2 h3 h4)
            simp only [execOp, resolve, invoke, builtin, Sem.run_bind, Sem.run_pure, Result.andThen_ok, List.map_toArray, List.map_cons, List.map_nil, h5]
          · cases h
        · cases h
      · cases h
    · -- a function
      rename_i f
      obtain ⟨fn, hf, hb, hn⟩ := hK.fn _ _ _ _ _ h
      have hcalls := hK.ok _ _ _ _ _ h c (cargs.map a.eval) rfl hr (by simpa using ht.args cargs.toList)
      unfold Oper.wp
      have hrun : (execOp a.eval ⟨dst, .call ⟨.value (.func f), cargs, cats⟩, ty, pos, after, guard⟩).run P c.w = .ok (.enter f (cargs.map a.eval)) c.w := by
        have hn' : ¬ fn.name = "runtime.NumGoroutine" := by simpa using hn
        have hb' : ¬ fn.body = none := by intro e; rw [e] at hb; cases hb
        simp [execOp, resolve, Act.eval, Deferred.ofValue, invoke, callFunc, hf, hb', hn']
      rw [hrun]
      refine hcalls.mono fun e w' ⟨x, v, c', h1, h2, h3, h4, h5, h6⟩ => ?_
      subst h1; subst h6
      exact hN v c' x h2 h3 h4 h5
    · cases h
  · cases h

end Go.Proofs.Ytonbbeplmjidnaa.D
