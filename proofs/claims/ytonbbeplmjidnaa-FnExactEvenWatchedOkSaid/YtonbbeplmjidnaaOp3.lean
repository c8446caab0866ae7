/- Literals and boxes. Conditions: those of each theorem. -/
import Derived.Test.YtonbbeplmjidnaaOp2
namespace Go.Proofs.Ytonbbeplmjidnaa.D
open Go.RowKit
set_option linter.unusedVariables false
set_option linter.unusedSimpArgs false

section
variable {P : Program} {c : Cx} {r : V × List E}

theorem all_getD {vs : List V} {p : V → Bool} (h : vs.all p = true) {j : Nat} (hj : j < vs.length) : p (vs.getD j .junk) = true := by
  rw [List.all_eq_true] at h
  have e : vs.getD j .junk = vs[j] := by simp [List.getD, hj]
  rw [e]; exact h _ (List.getElem_mem hj)

theorem rowOf_ok {d : TypeDesc} {vs : List V} {l : L} (h : rowOf d vs = some l) : l.len = vs.length ∧ ∀ j, j < vs.length → (vs.getD j .junk).atom = some (l.at_ j) := by
  unfold rowOf at h
  split at h
  · rename_i k
    split at h
    · rename_i hall
      cases h
      refine ⟨by simp [L.len], fun j hj => ?_⟩
      have hp := all_getD hall hj
      have e : vs.getD j .junk = vs[j] := by simp [List.getD, hj]
      rw [e] at hp ⊢
      simp only [L.at_, eli, List.getD, List.getElem?_map, List.getElem?_eq_getElem hj, Option.map_some, Option.getD_some]
      cases hv : vs[j] <;> rw [hv] at hp <;> simp at hp
      subst hp; rfl
    · cases h
  · split at h
    · rename_i hall
      cases h
      refine ⟨by simp [L.len], fun j hj => ?_⟩
      have hp := all_getD hall hj
      have e : vs.getD j .junk = vs[j] := by simp [List.getD, hj]
      rw [e] at hp ⊢
      simp only [L.at_, elb, List.getD, List.getElem?_map, List.getElem?_eq_getElem hj, Option.map_some, Option.getD_some]
      cases hv : vs[j] <;> rw [hv] at hp <;> simp at hp
      rfl
    · cases h
  · split at h
    · rename_i hall
      cases h
      refine ⟨by simp [L.len], fun j hj => ?_⟩
      have hp := all_getD hall hj
      have e : vs.getD j .junk = vs[j] := by simp [List.getD, hj]
      rw [e] at hp ⊢
      simp only [L.at_, els, List.getD, List.getElem?_map, List.getElem?_eq_getElem hj, Option.map_some, Option.getD_some]
      cases hv : vs[j] <;> rw [hv] at hp <;> simp at hp
      rfl
    · cases h
  · cases h

theorem ArgsR.ext {c c' : Cx} {vs : List V} {xs : List Value} (h : ArgsR c vs xs) (he : Ext c c') : ArgsR c' vs xs := ⟨h.1, fun j hj => he.vr (h.2 j hj)⟩
theorem ArgsR.tail {c : Cx} {v : V} {vs : List V} {xs : List Value} (h : ArgsR c (v :: vs) xs) : ∃ y ys, xs = y :: ys ∧ VR c v y ∧ ArgsR c vs ys := by
  obtain ⟨y, ys, rfl⟩ : ∃ u us, xs = u :: us := by
    cases xs with
    | nil => have := h.1; simp at this
    | cons u us => exact ⟨u, us, rfl⟩
  exact ⟨y, ys, rfl, by simpa using h.2 0 (by simp), by simpa using h.1, fun j hj => by simpa using h.2 (j + 1) (by simpa using hj)⟩

theorem freeze_ok : ∀ (vs : List V) (c : Cx) (xs : List Value) (out : List (List Int)) (h' : List E), Rel c → ArgsR c vs xs → freeze c.h vs = some (out, h') →
    ∃ c', c'.h = h' ∧ c'.w = c.w ∧ Ext c c' ∧ Rel c' ∧ out.length = vs.length ∧ ∀ j, j < vs.length → RowV c' (out.getD j []) (xs.getD j undef) := by
  intro vs
  induction vs with
  | nil =>
    intro c xs out h' hr ha h
    simp [freeze] at h
    obtain ⟨rfl, rfl⟩ := h
    exact ⟨c, rfl, rfl, Ext.refl c, hr, rfl, fun j hj => by simp at hj⟩
  | cons v vs ih =>
    intro c xs out h' hr ha h
    obtain ⟨y, ys, rfl, hy, ha'⟩ := ha.tail
    cases v with
    | own id =>
      obtain ⟨hid, rfl⟩ := (show id < c.h.length ∧ y = c.hv id from hy)
      simp only [freeze] at h
      split at h
      · rename_i zs hl
        simp only [Option.map_eq_some_iff] at h
        obtain ⟨⟨o2, h2⟩, hf, heq⟩ := h
        simp at heq
        obtain ⟨rfl, rfl⟩ := heq
        have hal : (getE c.h id).alive = true := by rw [hl]; rfl
        have hE := Cx.ext_kill (c := c) hid hal
        have hR := Cx.rel_kill hr hid hal
        obtain ⟨c', e1, e2, hE2, hR2, hlen, hall⟩ := ih (c.upd id .dead c.w) ys o2 h2 hR (ha'.ext hE) hf
        have hrow : RowV (c.upd id .dead c.w) zs (c.hv id) := by
          obtain ⟨⟨a, cap, hv, hc, h0⟩, hs⟩ := seen_own hr hid hl
          refine ⟨a, cap, hv, hc, ?_⟩
          rcases h0 with h0 | ⟨b, off, rfl, hcell⟩
          · exact .inl h0
          · rcases hs with h0 | ⟨g, cap', hv'⟩
            · exact .inl h0
            · rw [hv'] at hv
              have e1 : (⟨g, 0, none⟩ : Addr) = ⟨b, off, none⟩ := by injection hv with e _ _; injection e
              have hb : blk (c.hv id) = some b := by rw [hv']; cases e1; rfl
              refine .inr ⟨b, off, rfl, fun hF => (hr.far b hF).2 ⟨id, hal, hb⟩, ?_, fun j hj => ?_⟩
              · rintro ⟨i, hi, hbi⟩
                rw [show (c.upd id .dead c.w).h = c.h.set id .dead from rfl, getE_set hid] at hi
                by_cases hh : id = i
                · rw [if_pos hh] at hi; cases hi
                · rw [if_neg hh] at hi; exact hh (hr.inj id i b hal hi hb hbi)
              · obtain ⟨u, hu, hua⟩ := hcell j hj
                have : u = .int .i64 (eli zs j) := hua
                subst this; exact hu
        refine ⟨c', e1, e2, hE.trans hE2, hR2, by simp [hlen], fun j hj => ?_⟩
        cases j with
        | zero => simpa using hE2.rowV hrow
        | succ j => simpa using hall j (by simpa using hj)
      · cases h
    | ro s l =>
      cases s with
      | false => simp [freeze] at h
      | true =>
        cases l with
        | ints k zs =>
          obtain ⟨rfl, o2, hf, rfl⟩ : k = .i64 ∧ ∃ o2, freeze c.h vs = some (o2, h') ∧ out = zs :: o2 := by
            cases k <;> simp only [freeze, Option.map_eq_some_iff, reduceCtorEq] at h
            obtain ⟨⟨o2, h2⟩, hf, heq⟩ := h
            simp at heq
            obtain ⟨rfl, rfl⟩ := heq
            exact ⟨rfl, o2, hf, rfl⟩
          obtain ⟨c', e1, e2, hE2, hR2, hlen, hall⟩ := ih c ys o2 _ hr ha' hf
          refine ⟨c', e1, e2, hE2, hR2, by simp [hlen], fun j hj => ?_⟩
          cases j with
          | zero =>
            have hrow : RowV c zs y := by
              obtain ⟨a, cap, hv, hc, h0⟩ := (show RoR c true (.ints .i64 zs) y from hy)
              refine ⟨a, cap, hv, hc, ?_⟩
              rcases h0 with h0 | ⟨b, off, ha, hF, hU, hcell⟩
              · exact .inl h0
              · refine .inr ⟨b, off, ha, hF rfl, hU, fun j hj => ?_⟩
                obtain ⟨u, hu, hua⟩ := hcell j hj
                have : u = .int .i64 (eli zs j) := hua
                subst this; exact hu
            simpa using hE2.rowV hrow
          | succ j => simpa using hall j (by simpa using hj)
        | _ => simp [freeze] at h
    | _ => simp [freeze] at h

theorem inOrder_ok : ∀ (ps : List (Nat × Operand)) (k : Nat), inOrder k ps = true → ∀ j, j < ps.length → (ps.map (·.1))[j]? = some (k + j) := by
  intro ps
  induction ps with
  | nil => intro k _ j hj; simp at hj
  | cons p ps ih =>
    intro k h j hj
    obtain ⟨i, x⟩ := p
    simp only [inOrder, Bool.and_eq_true] at h
    have hi : i = k := Nat.eq_of_beq_eq_true h.1
    subst hi
    cases j with
    | zero => simp
    | succ j =>
      have := ih (i + 1) h.2 j (by simpa using hj)
      rw [show i + (j + 1) = i + 1 + j by omega]
      simpa using this

theorem run_buildSlice {t e : TypeId} {f : TypeInfo} {z : Value} (ht : P.underlying t = some (.slice e)) (hf : P.info? e = some f) (hs : f.size = 1) (hz : f.zero = some z) (hzs : z.cells.size = 1) {w : World} {n : Nat} (hn : n ≤ 1000)
    {ps : Array (Nat × Value)} (hsz : ps.size = n) (hk : ∀ j, j < ps.toList.length → (ps.toList.map (·.1))[j]? = some j) (hc : ∀ p ∈ ps.toList, p.2.cells = #[p.2]) :
    (Instr.buildSlice t n ps).run P w = .ok (.slice (some ⟨w.heap.size, 0, none⟩) n n) (w.alloc (.cells (ps.toList.map (·.2)).toArray e)) := by
  have hfill := fill_order (place := fun i => some (i * 1, 1)) (fun i => by simp) ps.toList 0 [] ((Array.range n).map (fun i => (if n = 0 then #[] else z.cells)[i % (if n = 0 then #[] else z.cells).size]!)).toList
    (fun j hj => by simpa using hk j hj) rfl (by simp [hsz]) hc
  simp only [List.nil_append, Array.toArray_toList] at hfill
  have h24 : ¬ (16777216 < n) := by omega
  by_cases h0 : n = 0
  · subst h0
    have hps : ps = #[] := Array.eq_empty_of_size_eq_zero hsz
    subst hps
    simp [Instr.buildSlice, run_underlying ht, sizeOf, typeInfo, hf, hs, Instr.fill, newRow]
    have hr0 : Array.range 0 = #[] := Array.eq_empty_of_size_eq_zero (by simp)
    rw [hr0, Array.map_empty]
  · simp only [h0, if_false] at hfill
    simp only [Instr.buildSlice, Sem.run_bind, run_underlying ht, Result.andThen_ok, sizeOf, typeInfo, run_program, hf, Sem.run_pure, hs, Nat.mul_one, zeroValue, hz]
    simp only [Nat.reducePow, gt_iff_lt, h24, h0, if_false, Sem.run_bind, Sem.run_pure, Result.andThen_ok, Sem.run_ite, ite_false, run_program, hf, hz]
    simp only [Nat.mul_one] at hfill
    rw [hfill]
    simp [newRow]

theorem buildSlice_ok (hr : Rel c) {t e : TypeId} {f : TypeInfo} {z : Value} (ht : P.underlying t = some (.slice e)) (hf : P.info? e = some f) (hs : f.size = 1) (hz : f.zero = some z) (hzs : z.cells.size = 1) {n : Nat} (hn : n ≤ 1000)
    {σ : St} {a : Act} (hσ : RelT c σ a) {parts : Array (Nat × Operand)} (hsz : parts.size = n) (hord : inOrder 0 parts.toList = true) {l : L} (hlen : l.len = n)
    (hat : ∀ j, j < n → ∀ x, VR c ((parts.toList.map fun p => σ.ev p.2).getD j .junk) x → x.cells = #[x])
    {c1 : Cx} (hw : c1.w = c.w) (hr1 : Rel c1) (hE1 : Ext c c1)
    (hat2 : ∀ j, j < n → ∀ c', Ext c1 c' → AtomR c' (l.at_ j) (((parts.toList.map fun p => a.eval p.2)).getD j undef)) :
    ∃ c' x, c'.h = c1.h ++ [.row l] ∧ Ext c c' ∧ Rel c' ∧ VR c' (.own c1.h.length) x ∧ (Instr.buildSlice t n (parts.map fun (i, x) => (i, a.eval x))).run P c.w = .ok x c'.w := by
  have hpl : parts.toList.length = n := by simpa using hsz
  have hmap : (parts.map fun (i, x) => (i, a.eval x)).toList = parts.toList.map fun p => (p.1, a.eval p.2) := by simp
  have hrun := run_buildSlice (P := P) ht hf hs hz hzs (w := c.w) hn (ps := parts.map fun (i, x) => (i, a.eval x)) (by simpa using hsz)
    (fun j hj => by
      have := inOrder_ok parts.toList 0 hord j (by simpa using hj)
      rw [hmap]; simpa using this)
    (fun p hp => by
      rw [hmap] at hp
      simp only [List.mem_map] at hp
      obtain ⟨q, hq, rfl⟩ := hp
      obtain ⟨j, hj, hqj⟩ := List.getElem_of_mem hq
      refine hat j (by omega) _ ?_
      have hj2 : j < parts.size := by simpa using hj
      have : (parts.toList.map fun p => σ.ev p.2).getD j .junk = σ.ev q.2 := by simp [List.getD, hj2, ← hqj]
      rw [this]; exact hσ.ev q.2)
  have hvals : (parts.map fun (i, x) => (i, a.eval x)).toList.map (·.2) = parts.toList.map fun p => a.eval p.2 := by rw [hmap]; simp
  rw [hvals] at hrun
  have ho := World.ownsRow_lit (base := 0) (e := e) (size := 1) c1.w (parts.toList.map fun p => a.eval p.2).toArray n (Nat.zero_le _) (by unfold maxLen; omega) (by simp [hsz])
  rw [hw] at ho
  obtain ⟨hE, hR, hV⟩ := push_row hr1 (l := l) (e := e) (xs := parts.toList.map fun p => a.eval p.2) (x := .slice (some ⟨c.w.heap.size, 0, none⟩) n n) (w' := c.w.alloc (.cells (parts.toList.map fun p => a.eval p.2).toArray e))
    (by rw [hw]; exact World.grownBy_alloc c.w _ none) (by rw [hlen]; simpa using ho) (fun b hb => by simp [blk] at hb; rw [hw]; omega)
    (fun c' hE j hj => ⟨((parts.toList.map fun p => a.eval p.2)).getD j undef, by
      have hj' : j < parts.size := by omega
      simp [List.getD, hj'], hat2 j (by omega) c' hE⟩)
  exact ⟨_, _, rfl, hE1.trans hE, hR, hV, hrun⟩

/-- The parts of a struct laid into its zero. -/
theorem fill_struct {places : Array (Nat × Nat)} : ∀ (ps : List (Nat × Value)) (cs : Array Value),
    (∀ p ∈ ps, ∃ off, places[p.1]? = some (off, 1) ∧ off < cs.size ∧ p.2.cells = #[p.2]) →
    Instr.fill (places[·]?) cs ps = some (ps.foldl (fun acc p => match places[p.1]? with | some pl => acc.setIfInBounds pl.1 p.2 | none => acc) cs) := by
  intro ps
  induction ps with
  | nil => intro cs _; simp [Instr.fill]
  | cons p ps ih =>
    intro cs h
    obtain ⟨i, v⟩ := p
    obtain ⟨off, h1, h2, h3⟩ := h (i, v) (by simp)
    have h4 : v.cells = #[v] := h3
    have h5 : places[i]? = some (off, 1) := h1
    have h6 : ((#[v] : Array Value).size ≠ 1 || off + (#[v] : Array Value).size > cs.size) = false := by simp; omega
    unfold Instr.fill
    simp only [h5, h4, h6, Bool.false_eq_true, if_false, List.foldl_cons]
    have h7 : ((#[v] : Array Value).zipIdx.foldl (fun cs (x : Value × Nat) => cs.setIfInBounds (off + x.2) x.1) cs) = cs.setIfInBounds off v := by simp
    have h8 := ih (cs.setIfInBounds off v) (fun p hp => by
      obtain ⟨o, a1, a2, a3⟩ := h p (by simp [hp])
      exact ⟨o, a1, by simpa using a2, a3⟩)
    rw [← h7] at h8 ⊢
    simpa using h8

theorem run_places {fs : List Field} {w : World} {size : Nat → Nat} (h : ∀ f ∈ fs, ∃ fi, P.info? f.type = some fi ∧ fi.size = size f.type) :
    (fs.mapM fun f => do pure (f.offset, ← sizeOf f.type) : Sem (List (Nat × Nat))).run P w = .ok (fs.map fun f => (f.offset, size f.type)) w := by
  induction fs with
  | nil => simp
  | cons f fs ih =>
    obtain ⟨fi, h1, h2⟩ := h f (by simp)
    have ih' := ih (fun g hg => h g (by simp [hg]))
    have hsz : (sizeOf f.type).run P w = .ok (size f.type) w := by simp [sizeOf, typeInfo, h1, h2]
    simp only [List.mapM_cons, Sem.run_bind, hsz, Sem.run_pure, Result.andThen_ok, ih', List.map_cons]

theorem run_build {t : TypeId} {fs : Array Field} {i : TypeInfo} {zs : Array Value} {size : Nat → Nat} {w : World} (ht : P.underlying t = some (.struct fs)) (hi : P.info? t = some i) (hz : i.zero = some (.agg zs))
    (hfs : ∀ f ∈ fs.toList, ∃ fi, P.info? f.type = some fi ∧ fi.size = size f.type) {ps : Array (Nat × Value)}
    (hps : ∀ p ∈ ps.toList, ∃ fd, fs[p.1]? = some fd ∧ size fd.type = 1 ∧ fd.offset < zs.size ∧ p.2.cells = #[p.2]) :
    (Instr.build t ps).run P w = .ok (.agg (ps.toList.foldl (fun acc p => match fs[p.1]? with | some fd => acc.setIfInBounds fd.offset p.2 | none => acc) zs)) w := by
  have hm : (fs.mapM fun f => do pure (f.offset, ← sizeOf f.type) : Sem (Array (Nat × Nat))).run P w = .ok (fs.map fun f => (f.offset, size f.type)) w := by
    rw [Array.mapM_eq_mapM_toList]
    simp only [Sem.run_map, run_places (P := P) (w := w) (size := size) hfs, Result.andThen_ok]
    congr 1
    apply Array.ext'
    simp
  have hf := fill_struct (places := fs.map fun f => (f.offset, size f.type)) ps.toList zs (fun p hp => by
    obtain ⟨fd, h1, h2, h3, h4⟩ := hps p hp
    exact ⟨fd.offset, by simp [h1, h2], h3, h4⟩)
  have e : (ps.toList.foldl (fun acc p => match (fs.map fun f => (f.offset, size f.type))[p.1]? with | some pl => acc.setIfInBounds pl.1 p.2 | none => acc) zs) =
      ps.toList.foldl (fun acc p => match fs[p.1]? with | some fd => acc.setIfInBounds fd.offset p.2 | none => acc) zs := by
    congr 1
    funext acc p
    simp only [Array.getElem?_map]
    cases fs[p.1]? <;> rfl
  rw [e] at hf
  simp only [Instr.build, Sem.run_bind, zeroValue, typeInfo, run_program, hi, hz, Sem.run_pure, Result.andThen_ok, run_underlying ht, Value.cells, hm, hf]

theorem push_cells (hr : Rel c) {vs : List V} {xs : Array Value} (hsz : xs.size = vs.length) (hv : ∀ j, j < vs.length → VR0 c (vs.getD j .junk) (xs.getD j undef)) (e : TypeId) :
    Ext c (c.push (.cells vs) (.pointer (some ⟨c.w.heap.size, 0, none⟩)) (c.w.alloc (.cells xs e))) ∧ Rel (c.push (.cells vs) (.pointer (some ⟨c.w.heap.size, 0, none⟩)) (c.w.alloc (.cells xs e))) ∧
      VR (c.push (.cells vs) (.pointer (some ⟨c.w.heap.size, 0, none⟩)) (c.w.alloc (.cells xs e))) (.ptr c.h.length 0) (.pointer (some ⟨c.w.heap.size, 0, none⟩)) := by
  have hg : c.w.grownBy (c.w.alloc (.cells xs e)) none := World.grownBy_alloc c.w _ none
  have hE := Cx.ext_push hr (.cells vs) (.pointer (some ⟨c.w.heap.size, 0, none⟩)) hg (fun b hb => by simp [blk] at hb; omega)
  refine ⟨hE, Cx.rel_push hr (.inr ⟨_, rfl⟩) hg (fun b hb => by simp [blk] at hb; simp; omega) ⟨c.w.heap.size, e, xs, by rw [Cx.push_new], heap_alloc_new c.w _, hsz, fun j hj => ?_⟩, ?_⟩
  · refine ⟨xs.getD j undef, ?_, hE.vr0 (hv j hj)⟩
    have : j < xs.size := by omega
    simp [this]
  · exact ⟨by simp [Cx.push], c.w.heap.size, by rw [Cx.push_new]; rfl, rfl⟩
end

end Go.Proofs.Ytonbbeplmjidnaa.D
