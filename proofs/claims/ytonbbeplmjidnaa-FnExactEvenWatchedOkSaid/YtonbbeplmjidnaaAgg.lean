/- Whole structs out of their cells, and into them. Conditions: those of each theorem. -/
import Derived.Test.YtonbbeplmjidnaaOp3
namespace Go.Proofs.Ytonbbeplmjidnaa.D
open Go.RowKit
set_option linter.unusedVariables false
set_option linter.unusedSimpArgs false

section
variable {P : Program} {c : Cx} {r : V × List E}

theorem run_isAgg {t : TypeId} {fs : Array Field} (hu : P.underlying t = some (.struct fs)) {w : World} : (isAgg t).run P w = .ok true w := by
  simp only [isAgg, Sem.run_bind, run_underlying hu, Result.andThen_ok]; rfl
theorem run_loadVar {t : TypeId} {fs : Array Field} {f : TypeInfo} (hu : P.underlying t = some (.struct fs)) (hf : P.info? t = some f) {w : World} {g : Nat} {cs : Array Value} {e : TypeId}
    (hg : w.heap[g]? = some (.cells cs e (0, 0))) (hs : f.size = cs.size) : (loadVar t ⟨g, 0, none⟩).run P w = .ok (.agg cs) w := by
  have hl := run_loadCells_list (P := P) w ⟨g, 0, none⟩ cs.toList (fun j v hv => by rw [add_none, cell_of_row w g _ cs e (0, 0) hg]; simpa using hv)
  have hsz : (sizeOf t).run P w = .ok cs.toList.length w := by simp [sizeOf, typeInfo, hf, hs]
  simp only [loadVar, Sem.run_bind, run_isAgg hu, Result.andThen_ok, if_true, hsz, hl, Sem.run_pure]
theorem loadAgg_run (hr : Rel c) {t : TypeId} {fs : Array Field} {f : TypeInfo} (hu : P.underlying t = some (.struct fs)) (hf : P.info? t = some f) {id : Nat} {vs : List V} (hs : f.size = vs.length)
    (hl : getE c.h id = .cells vs) {vp : Value} (hp : VR c (.ptr id 0) vp) :
    ∃ (y : Value) (cs : Array Value), y = .agg cs ∧ VR c (.agg vs) (.agg cs) ∧ ∃ g, vp = .pointer (some ⟨g, 0, none⟩) ∧ (loadVar t ⟨g, 0, none⟩).run P c.w = .ok (.agg cs) c.w := by
  obtain ⟨hid, g, hbg, rfl⟩ := (show VR0 c (.ptr id 0) vp from hp)
  have he := hr.ent id hid
  rw [hl] at he
  obtain ⟨b, e, cs, hv, hg, hsz, ha⟩ := he
  rw [hv] at hbg
  simp [blk] at hbg
  subst hbg
  refine ⟨_, cs, rfl, ⟨cs, rfl, hsz, fun j hj => ?_⟩, b, rfl, run_loadVar hu hf hg (by omega)⟩
  obtain ⟨x, hx, hxa⟩ := ha j hj
  have e : cs.getD j undef = x := by simp [Array.getD_eq_getD_getElem?, hx]
  rw [e]; exact hxa
theorem loadAgg_ok (hr : Rel c) {t : TypeId} {fs : Array Field} {f : TypeInfo} (hu : P.underlying t = some (.struct fs)) (hf : P.info? t = some f) {n : Nat} (hs : f.size = n) {p : V} {κ : V → R} {vp : Value}
    (h : loadAggC n p c.h κ = some r) (hp : VR c p vp) : ∃ v z, κ v = some r ∧ VR c v z ∧ (Instr.loadAt t vp).run P c.w = .ok z c.w := by
  unfold loadAggC at h
  split at h
  · rename_i id
    split at h
    · rename_i vs hl
      obtain ⟨h1, h2⟩ := bif_some h
      have h1' := Nat.eq_of_beq_eq_true h1
      obtain ⟨y, cs, rfl, hV, g, rfl, hrun⟩ := loadAgg_run hr hu hf (by omega) hl hp
      exact ⟨_, _, h2, hV, by simp only [Instr.loadAt, Instr.sureAddr, Sem.run_bind, Sem.run_pure, Result.andThen_ok, hrun]⟩
    · cases h
  · cases h
theorem grown_setRow (w : World) (g : Nat) (cs : Array Value) : w.grownBy (w.setRow g cs) (some g) :=
  ⟨rfl, rfl, rfl, by simp, fun k _ hk => setRow_other w g k cs (fun e => hk (by rw [e]))⟩
theorem storeAgg_ok (hr : Rel c) {t : TypeId} {f : TypeInfo} (hf : P.info? t = some f) {n : Nat} (hs : f.size = n) {p v : V} {κ : List E → R} {vp x : Value}
    (h : storeAggC n p v c.h κ = some r) (hp : VR c p vp) (hv : VR c v x) :
    ∃ c', κ c'.h = some r ∧ Ext c c' ∧ Rel c' ∧ (Instr.storeAt t vp x).run P c.w = .ok () c'.w := by
  unfold storeAggC at h
  split at h
  · rename_i id ws
    split at h
    · rename_i vs hl
      obtain ⟨h1, h2⟩ := bif_some h
      simp only [Bool.and_eq_true] at h1
      obtain ⟨⟨h3, h4⟩, h5⟩ := h1
      have h3' := Nat.eq_of_beq_eq_true h3
      have h4' := Nat.eq_of_beq_eq_true h4
      obtain ⟨xs, rfl, hxs, hxa⟩ := (show VR1 c (.agg ws) x from hv)
      obtain ⟨hid, g, hbg, rfl⟩ := (show VR0 c (.ptr id 0) vp from hp)
      have he := hr.ent id hid
      rw [hl] at he
      obtain ⟨b, e, cs, hvv, hgc, hsz, ha⟩ := he
      rw [hvv] at hbg
      simp [blk] at hbg
      subst hbg
      have hal : (getE c.h id).alive = true := by rw [hl]; rfl
      have hg : c.w.grownBy (c.w.setRow b xs) (blk (c.hv id)) := by rw [hvv]; exact grown_setRow _ _ _
      have hsame : sameE (getE c.h id) (.cells ws) = true := by rw [hl]; simp [sameE]; omega
      have hE := Cx.ext_upd (e := .cells ws) hid hal hsame hg
      have hone : ∀ u ∈ xs.toList, u.oneCell' = true := fun u hu => by
        obtain ⟨j, hj, rfl⟩ := List.getElem_of_mem hu
        have hj' : j < ws.length := by simp at hj; omega
        have hjx : j < xs.size := by simpa using hj
        have hA := hxa j hj'
        have hF := all_getD h5 hj'
        have eA : xs.getD j undef = xs[j] := by simp [hjx]
        rw [eA] at hA
        have := (flat_one hr hF hA.vr).2.1
        simpa using this
      have hst := run_storeCells_at P b 0 e xs.toList 0 cs c.w hgc (by simp; omega) hone
      have harr : (cs.toList.take (0 + 0) ++ xs.toList ++ cs.toList.drop (0 + 0 + xs.toList.length)).toArray = xs := by
        have : cs.toList.drop (0 + 0 + xs.toList.length) = [] := List.drop_eq_nil_of_le (by simp; omega)
        rw [this]; simp
      rw [harr] at hst
      refine ⟨c.upd id (.cells ws) (c.w.setRow b xs), h2, hE, Cx.rel_upd hr hid hal hsame hg ?_, ?_⟩
      · refine ⟨b, e, xs, hvv, setRow_heap _ _ _ _ _ _ hgc, hxs, fun j hj => ?_⟩
        have hjx : j < xs.size := by omega
        refine ⟨xs[j], by simp [hjx], ?_⟩
        have hA := hxa j hj
        have eA : xs.getD j undef = xs[j] := by simp [hjx]
        rw [eA] at hA
        exact hE.vr0 hA
      · have hsz2 : (sizeOf t).run P c.w = .ok xs.size c.w := by simp [sizeOf, typeInfo, hf, hs]; omega
        show (do storeVar t (← Instr.sureAddr (.pointer (some ⟨b, 0, none⟩))) (.agg xs) : Sem Unit).run P c.w = .ok () (c.w.setRow b xs)
        simp only [Instr.sureAddr, Sem.run_bind, Sem.run_pure, Result.andThen_ok, storeVar, Value.cells, hsz2, ne_eq, not_true_eq_false, if_false, hst]
    · cases h
  · cases h
end

end Go.Proofs.Ytonbbeplmjidnaa.D
