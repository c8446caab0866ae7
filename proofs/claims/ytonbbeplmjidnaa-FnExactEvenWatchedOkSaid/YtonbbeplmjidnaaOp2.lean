/- Slices of slices, literals, boxes. Conditions: those of each theorem. -/
import Derived.Test.YtonbbeplmjidnaaWrit
namespace Go.Proofs.Ytonbbeplmjidnaa.D
open Go.RowKit
set_option linter.unusedVariables false
set_option linter.unusedSimpArgs false

section
variable {P : Program} {c : Cx} {r : V × List E}

/-- Two options that belong together. -/
def OptR (c : Cx) : Option V → Option Value → Prop
  | none, none => True
  | some v, some x => VR c v x
  | _, _ => False

theorem run_bound {k : IntKind} {i : Int} {y : Nat} {code : BoundsCode} {w : World} (h0 : 0 ≤ i) (h1 : i ≤ y) : (Instr.sliceBound (.int k i) y code).run P w = .ok i.toNat w := by
  simp [Instr.sliceBound, asIntOf, h0, h1]

theorem cut_ok {lo hi : Option V} {vlo vhi : Option Value} (hlo : OptR c lo vlo) (hhi : OptR c hi vhi) {n cap : Nat} (hc : n ≤ cap) {κ : Nat → Nat → R} (h : cutC lo hi n κ = some r) :
    ∃ a m, κ a m = some r ∧ a + m ≤ n ∧ (Instr.sliceBounds true n cap vlo vhi none).run P c.w = .ok (a, a + m, cap) c.w ∧ (lo = none → hi = none → a = 0 ∧ m = n) := by
  unfold cutC at h
  split at h
  · cases vlo <;> cases vhi <;> first | exact absurd hlo id | exact absurd hhi id | skip
    exact ⟨0, n, h, by omega, by simp [Instr.sliceBounds], fun _ _ => ⟨rfl, rfl⟩⟩
  · rename_i k a
    cases vlo with
    | none => exact absurd hlo id
    | some x =>
      cases vhi with
      | some y => exact absurd hhi id
      | none =>
        have := vr_int (c := c) hlo; subst this
        obtain ⟨h1, h2⟩ := bif_some h
        simp only [cutOk, Bool.and_eq_true, decide_eq_true_eq] at h1
        refine ⟨a.toNat, n - a.toNat, h2, by omega, ?_, fun h => by cases h⟩
        simp [Instr.sliceBounds, run_bound (P := P) (w := c.w) (k := k) (y := n) (code := BoundsCode.sliceB) h1.1.1 h1.1.2]
        omega
  · rename_i k b
    cases vhi with
    | none => exact absurd hhi id
    | some x =>
      cases vlo with
      | some y => exact absurd hlo id
      | none =>
        have := vr_int (c := c) hhi; subst this
        obtain ⟨h1, h2⟩ := bif_some h
        simp only [cutOk, Bool.and_eq_true, decide_eq_true_eq] at h1
        refine ⟨0, b.toNat, h2, by omega, ?_, fun _ h => by cases h⟩
        simp [Instr.sliceBounds, run_bound (P := P) (w := c.w) (k := k) (y := cap) (code := BoundsCode.sliceAcap) h1.1.2 (by omega)]
  · rename_i k a k' b
    cases vlo with
    | none => exact absurd hlo id
    | some x =>
      cases vhi with
      | none => exact absurd hhi id
      | some y =>
        have e1 := vr_int (c := c) hlo; subst e1
        have e2 := vr_int (c := c) hhi; subst e2
        obtain ⟨h1, h2⟩ := bif_some h
        simp only [cutOk, Bool.and_eq_true, decide_eq_true_eq] at h1
        refine ⟨a.toNat, b.toNat - a.toNat, h2, by omega, ?_, fun h => by cases h⟩
        have hb := run_bound (P := P) (w := c.w) (k := k') (y := cap) (code := BoundsCode.sliceAcap) (i := b) (by omega) (by omega)
        have ha := run_bound (P := P) (w := c.w) (k := k) (y := b.toNat) (code := BoundsCode.sliceB) (i := a) h1.1.1 (by omega)
        simp [Instr.sliceBounds, hb, ha]
        omega
  · cases h

theorem run_sliceAt {t e : TypeId} {f : TypeInfo} (ht : P.underlying t = some (.slice e)) (hf : P.info? e = some f) (hs : f.size = 1) {w : World} {ad : Option Addr} {n cap a m : Nat} {vlo vhi : Option Value}
    (h : (Instr.sliceBounds true n cap vlo vhi none).run P w = .ok (a, a + m, cap) w) :
    (Instr.sliceAt t (.slice ad n cap) vlo vhi none).run P w = .ok (.slice (if cap = a then ad else ad.map (·.add a)) m (cap - a)) w := by
  simp [Instr.sliceAt, Instr.slice, run_underlying ht, h, sizeOf, typeInfo, hf, hs]

theorem slice_ok (hr : Rel c) {t e : TypeId} {f : TypeInfo} (ht : P.underlying t = some (.slice e)) (hf : P.info? e = some f) (hs : f.size = 1) {x : V} {vx : Value}
    {lo hi : Option V} {vlo vhi : Option Value} (hlo : OptR c lo vlo) (hhi : OptR c hi vhi) {κ : V → R} (h : sliceC x lo hi c.h κ = some r) (hx : VR c x vx) :
    ∃ v z, κ v = some r ∧ VR c v z ∧ (Instr.sliceAt t vx vlo vhi none).run P c.w = .ok z c.w := by
  unfold sliceC at h
  split at h
  · rename_i s l
    obtain ⟨ad, cap, rfl, hc, h0⟩ := (show RoR c s l vx from hx)
    obtain ⟨a, m, h1, h2, h3, _⟩ := cut_ok (P := P) hlo hhi hc h
    refine ⟨_, _, h1, ?_, run_sliceAt ht hf hs h3⟩
    refine ⟨_, _, by rw [L.cut_len h2], by rw [L.cut_len h2]; omega, ?_⟩
    rw [L.cut_len h2]
    rcases Nat.eq_zero_or_pos m with hm | hm
    · exact .inl hm
    · rcases h0 with h0 | ⟨b, off, rfl, hF, hU, hcell⟩
      · omega
      · refine .inr ⟨b, off + a, ?_, hF, hU, fun j hj => ?_⟩
        · have : ¬ cap = a := by omega
          simp [this, add_none]
        · obtain ⟨y, hy, hya⟩ := hcell (a + j) (by omega)
          rw [L.cut_at h2 hj]
          exact ⟨y, by rw [Nat.add_assoc]; exact hy, hya⟩
  · rename_i id
    obtain ⟨hid, rfl⟩ := (show id < c.h.length ∧ vx = c.hv id from hx)
    split at h
    · rename_i l hl
      obtain ⟨⟨ad, cap, hv, hc, _⟩, h0⟩ := seen_own hr hid hl
      split at h
      · -- the whole row
        have hlo' : vlo = none := by cases vlo <;> first | rfl | exact absurd hlo (fun h => h)
        have hhi' : vhi = none := by cases vhi <;> first | rfl | exact absurd hhi (fun h => h)
        subst hlo'; subst hhi'
        have h3 : (Instr.sliceBounds true l.len cap none none none).run P c.w = .ok (0, 0 + l.len, cap) c.w := by simp [Instr.sliceBounds]
        refine ⟨_, _, h, ?_, by rw [hv]; exact run_sliceAt ht hf hs h3⟩
        refine ⟨hid, ?_⟩
        rw [hv]
        cases ad with
        | none => simp
        | some ad => simp [Addr.add]
      · obtain ⟨a, m, h1, h2, h3, _⟩ := cut_ok (P := P) hlo hhi hc h
        rw [hv]
        refine ⟨_, _, h1, ⟨hid, _, _, rfl, by omega, ?_, fun l' hl' => ?_⟩, run_sliceAt ht hf hs h3⟩
        · rcases Nat.eq_zero_or_pos m with hm | hm
          · exact .inl hm
          · rcases h0 with h0 | ⟨g, cap', hv'⟩
            · omega
            · rw [hv'] at hv
              have e1 : ad = some ⟨g, 0, none⟩ := by injection hv with e _ _; exact e.symm
              have e2 : cap' = cap := by injection hv
              subst e1; subst e2
              have : ¬ cap' = a := by omega
              exact .inr ⟨g, by rw [hv']; rfl, by simp [this, add_none]⟩
        · rw [hl] at hl'; cases hl'; exact h2
    · cases h
  · rename_i id o m0
    obtain ⟨hid, ad, cap, rfl, hn, hg, hle⟩ := (show VR0 c (.sub id o m0) vx from hx)
    obtain ⟨a, m, h1, h2, h3, _⟩ := cut_ok (P := P) hlo hhi hn h
    refine ⟨_, _, h1, ⟨hid, _, _, rfl, by omega, ?_, fun l hl => by have := hle l hl; omega⟩, run_sliceAt ht hf hs h3⟩
    rcases Nat.eq_zero_or_pos m with hm | hm
    · exact .inl hm
    · rcases hg with h0 | ⟨g, hbg, rfl⟩
      · omega
      · have : ¬ cap = a := by omega
        exact .inr ⟨g, hbg, by simp [this, add_none]⟩
  · cases h

/-- Parts in their order fill a row. -/
theorem fill_order {place : Nat → Option (Nat × Nat)} (hp : ∀ i, place i = some (i, 1)) : ∀ (rest : List (Nat × Value)) (k : Nat) (pre zs : List Value),
    (∀ j, j < rest.length → (rest.map (·.1))[j]? = some (k + j)) → pre.length = k → zs.length = rest.length → (∀ p ∈ rest, p.2.cells = #[p.2]) →
    Instr.fill place (pre ++ zs).toArray rest = some (pre ++ rest.map (·.2)).toArray := by
  intro rest
  induction rest with
  | nil =>
    intro k pre zs _ _ hz _
    have : zs = [] := List.eq_nil_of_length_eq_zero (by simpa using hz)
    subst this; simp [Instr.fill]
  | cons p rest ih =>
    intro k pre zs hk hpre hz hc
    obtain ⟨i, v⟩ := p
    have hi : i = k := by simpa using hk 0 (by simp)
    subst hi
    obtain ⟨z, zs, rfl⟩ : ∃ u us, zs = u :: us := by
      cases zs with
      | nil => simp at hz
      | cons u us => exact ⟨u, us, rfl⟩
    have hv : v.cells = #[v] := hc (i, v) (by simp)
    have hlt : ¬ ((pre ++ z :: zs).length < i + 1) := by simp; omega
    unfold Instr.fill
    simp only [hp, hv]
    have h1 : ((#[v] : Array Value).zipIdx.foldl (fun cs (x : Value × Nat) => cs.setIfInBounds (i + x.2) x.1) (pre ++ z :: zs).toArray) = (pre ++ v :: zs).toArray := by
      simp [hpre.symm]
    have h2 : ((#[v] : Array Value).size ≠ 1 || i + (#[v] : Array Value).size > (pre ++ z :: zs).toArray.size) = false := by
      simp; omega
    simp only [h2, Bool.false_eq_true, if_false]
    have h3 := ih (i + 1) (pre ++ [v]) zs (fun j hj => by have := hk (j + 1) (by simpa using hj); rw [show i + 1 + j = i + (j + 1) by omega]; simpa using this) (by simp [hpre]) (by simpa using hz) (fun p hp => hc p (by simp [hp]))
    simp only [List.append_assoc, List.singleton_append] at h3
    rw [← h1] at h3
    simpa using h3
end

end Go.Proofs.Ytonbbeplmjidnaa.D
