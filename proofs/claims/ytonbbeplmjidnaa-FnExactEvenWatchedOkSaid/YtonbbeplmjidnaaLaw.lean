/- From a twin to a call at the outermost: what a law needs. Conditions: none. -/
import Derived.Test.YtonbbeplmjidnaaTwin
import Derived.Below
import Derived.OpenShut
namespace Go.Proofs.Ytonbbeplmjidnaa.D
open Go.RowKit
set_option linter.unusedVariables false
set_option linter.unusedSimpArgs false

/-- At the outermost nothing is owned, and nothing is foreign. -/
def topC (w : World) : Cx := ⟨fun _ => False, [], fun _ => .slice none 0 0, w⟩
theorem topC_U {w : World} {b : Nat} : ¬ (topC w).U b := by
  rintro ⟨i, hi, _⟩
  simp [topC, getE, List.getD] at hi
  cases hi
theorem topC_rel (w : World) : Rel (topC w) where
  one := fun i hi => absurd hi (Nat.not_lt_zero _)
  ent := fun i hi => absurd hi (Nat.not_lt_zero _)
  inj := fun i j b hi _ hb _ => absurd ⟨i, hi, hb⟩ topC_U
  lt := fun b hb => absurd hb topC_U
  far := fun b hb => hb.elim
theorem topC_below {w : World} {c' : Cx} (h : Ext (topC w) c') : Below w.heap.size w c'.w :=
  ⟨h.os, h.tape, h.output, h.size, fun k hk => h.block k hk topC_U⟩

theorem SpecOk.calls {P : Program} {f : FuncId} {s : Spec} (h : SpecOk P f s) {w : World} {args : List V} {cargs : Array Value} {b : Bool} (hs : s.sp args [] (fun v h => some (v, h)) = some (.bool b, []))
    (ha : ArgsR (topC w) args cargs.toList) : Calls P f cargs w fun e w' => e = .returned (.bool b) ∧ Below w.heap.size w w' := by
  refine (h.ok args (fun v h => some (v, h)) (.bool b, []) (topC w) cargs hs (topC_rel w) ha).mono ?_
  rintro e w' ⟨x, v, c', rfl, hv, he, hr, hx, rfl, _, _⟩
  have hv' : v = .bool b := by
    have := congrArg (fun o => (o.getD (.junk, [])).1) hv
    exact this
  subst hv'
  have hx' : x = .bool b := hx
  exact ⟨by rw [hx'], topC_below he⟩

theorem argsR1 {c : Cx} {v : V} {x : Value} (h : VR c v x) : ArgsR c [v] (#[x] : Array Value).toList :=
  ⟨rfl, fun j hj => by
    obtain rfl : j = 0 := by simp at hj; exact hj
    exact h⟩
theorem argsR2 {c : Cx} {v v' : V} {x x' : Value} (h : VR c v x) (h' : VR c v' x') : ArgsR c [v, v'] (#[x, x'] : Array Value).toList :=
  ⟨rfl, fun j hj => by
    match j, hj with
    | 0, _ => exact h
    | 1, _ => exact h'⟩
theorem argsR3 {c : Cx} {v v' v'' : V} {x x' x'' : Value} (h : VR c v x) (h' : VR c v' x') (h'' : VR c v'' x'') : ArgsR c [v, v', v''] (#[x, x', x''] : Array Value).toList :=
  ⟨rfl, fun j hj => by
    match j, hj with
    | 0, _ => exact h
    | 1, _ => exact h'
    | 2, _ => exact h''⟩
theorem argsR4 {c : Cx} {v v' v'' u : V} {x x' x'' y : Value} (h : VR c v x) (h' : VR c v' x') (h'' : VR c v'' x'') (h3 : VR c u y) : ArgsR c [v, v', v'', u] (#[x, x', x'', y] : Array Value).toList :=
  ⟨rfl, fun j hj => by
    match j, hj with
    | 0, _ => exact h
    | 1, _ => exact h'
    | 2, _ => exact h''
    | 3, _ => exact h3⟩

/-- A row that came in. -/
theorem topC_row (s : Bool) {k : IntKind} {w : World} {a : Option Addr} {len cap : Nat} {zs : List Int}
    (h : (a = none ∧ len = 0 ∧ cap = 0 ∧ zs = []) ∨ ∃ x : Addr, a = some x ∧ len ≤ cap ∧ cap ≤ maxLen ∧ zs.length = cap ∧ (∀ i, i < zs.length → w.cell? (x.add i) = some (.int k (zs.getD i 0))) ∧ ∀ n ∈ zs, (Lit.int k n).wf = true) :
    ∃ xs : List Int, xs.length = len ∧ xs.length ≤ maxLen ∧ (∀ n ∈ xs, (Lit.int k n).wf = true) ∧ VR (topC w) (.ro s (.ints k xs)) (.slice a len cap) := by
  rcases h with ⟨rfl, rfl, rfl, rfl⟩ | ⟨x, rfl, hl, hm, hz, hcell, hwf⟩
  · exact ⟨[], rfl, Nat.zero_le _, fun n hn => (by cases hn), ⟨none, 0, rfl, Nat.le_refl _, .inl rfl⟩⟩
  · have hL : (zs.take len).length = len := by rw [List.length_take]; omega
    refine ⟨zs.take len, hL, by rw [hL]; omega, fun n hn => hwf n (List.mem_of_mem_take hn), ?_⟩
    refine ⟨some x, cap, by simp only [L.len, hL], by simp only [L.len, hL]; exact hl, ?_⟩
    by_cases h0 : len = 0
    · exact .inl (by simp only [L.len, hL]; exact h0)
    · obtain ⟨b, off, spot⟩ := x
      have hspot : spot = none := by simpa [Addr.add] using World.cell?_spot (hcell 0 (by omega))
      subst hspot
      refine .inr ⟨b, off, rfl, fun _ hF => hF, topC_U, fun j hj => ?_⟩
      have hj' : j < len := by simp only [L.len, hL] at hj; exact hj
      refine ⟨_, ?_, rfl⟩
      have := hcell j (by omega)
      have e : eli (zs.take len) j = zs.getD j 0 := by simp [eli, List.getD, hj']
      rw [e, ← this]
      by_cases hj0 : j = 0
      · subst hj0; simp [Addr.add, topC]
      · simp [Addr.add, hj0, topC]

end Go.Proofs.Ytonbbeplmjidnaa.D
