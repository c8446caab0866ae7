/- Twins of the translated functions, with their proofs. Conditions: none. -/
import Derived.Test.YtleianhibhpgpaaBzT3
set_option linter.unusedVariables false
set_option linter.unusedSimpArgs false
set_option linter.unusedSectionVars false
namespace Go.Proofs.Ytleianhibhpgpaa
open D Go.RowKit
-- loop.example/guardsonnets/laws.FnExactGuardRow
noncomputable def L.FnExactGuardRow_T : List (Nat × D.Spec) := [(16, L.toIntS_s), (21, S.GuardRow_s), (19, I.GuardRow_s), (17, L.eqIntS_s), (23, L.markIntS_s), (24, L.heldIntS_s)]
def L.FnExactGuardRow_ann : Nat → List Nat × List Nat
  | _ => ([], [])
noncomputable def L.FnExactGuardRow_F (args : List V) (h : List E) (κ : V → List E → R) : R := funC TD (tableK L.FnExactGuardRow_T) L.FnExactGuardRow_ann (drawOk TD (tableP L.FnExactGuardRow_T)) FUEL Try.f6 args h κ
noncomputable def L.FnExactGuardRow_tree {α : Type} (aNet : List Int) (leaf0_ : Bool → α) (fail_ : α) : α :=
  (bif decide ((↑aNet.length : Int) > 1048576) then (leaf0_ true) else (optC (L.toIntS_t aNet) (fun c_1 => (optC (S.GuardRow_t c_1) (fun c_2 => (optC (L.toIntS_t aNet) (fun c_3 => (optC (I.GuardRow_t c_3) (fun c_4 => (optC (L.eqIntS_t c_4 c_2) (fun c_5 => (bif !c_5 then (leaf0_ false) else (optC (L.toIntS_t aNet) (fun c_6 => (optC (L.eqIntS_t c_3 c_6) (fun c_7 => (bif !c_7 then (leaf0_ false) else (optC (L.markIntS_t c_3 1) (fun c_8 => (bif decide (c_8.fst < 0) then (leaf0_ false) else (optC (L.eqIntS_t c_4 c_2) (fun c_9 => (bif !c_9 then (leaf0_ false) else (optC (L.markIntS_t c_4 1) (fun c_10 => (optC (L.heldIntS_t c_10.snd 1) (fun c_11 => (bif decide (c_11 < 0) then (leaf0_ false) else (bif !c_11 == c_10.fst then (leaf0_ false) else (optC (L.toIntS_t aNet) (fun c_12 => (optC (I.GuardRow_t c_12) (fun c_13 => (optC (L.eqIntS_t c_13 c_2) (fun c_14 => (bif !c_14 then (leaf0_ false) else (optC (L.heldIntS_t c_10.snd 1) (fun c_15 => (bif decide (c_15 < 0) then (leaf0_ false) else (bif !c_15 == c_10.fst then (leaf0_ false) else (leaf0_ true)))) fail_))) fail_)) fail_)) fail_)))) fail_)) fail_))) fail_))) fail_))) fail_)) fail_))) fail_)) fail_)) fail_)) fail_)) fail_))
theorem L.FnExactGuardRow_tree_nat {α γ : Type} (g : α → γ) (aNet : List Int) (leaf0_ : Bool → α) (fail_ : α) : g (L.FnExactGuardRow_tree aNet leaf0_ fail_) = L.FnExactGuardRow_tree aNet (fun d => g (leaf0_ d)) (g fail_) := by
  unfold L.FnExactGuardRow_tree; simp only [apply_cnd g, apply_optC g, apply_sumC g]
noncomputable def L.FnExactGuardRow_t (aNet : List Int) : Option (Bool) := L.FnExactGuardRow_tree aNet (fun d => some d) none
theorem L.FnExactGuardRow_den (aNet : List Int) (κ : V → List E → R) : L.FnExactGuardRow_F [.ro true (.ints .i64 aNet)] [] κ = optC (L.FnExactGuardRow_t aNet) (fun (r : Bool) => κ (.bool r) []) none := by
  have hu : L.FnExactGuardRow_F [.ro true (.ints .i64 aNet)] [] κ = L.FnExactGuardRow_tree aNet (fun d => κ (.bool d) []) none := by
    kernel_rfl
  rw [hu]
  exact (L.FnExactGuardRow_tree_nat (fun o => optC o (fun (r : Bool) => κ (.bool r) []) none) aNet (fun d => some d) none).symm
noncomputable def L.FnExactGuardRow_s : D.Spec where
  keep := true
  pure := true
  add := true
  ds := [.int .i64]
  sp := fun args h κ => match args, h with
    | [.ro true (.ints .i64 aNet)], [] => optC (L.FnExactGuardRow_t aNet) (fun (r : Bool) => κ (.bool r) []) none
    | _, _ => none
theorem L.FnExactGuardRow_ok : SpecOk Try.prog 6 L.FnExactGuardRow_s := by
  refine SpecOk.of TDok mixed (T := L.FnExactGuardRow_T) ?_ (ann := L.FnExactGuardRow_ann) Try.func6 rfl (by decide +kernel) ?_ ?_ ?_ ?_
  · intro p hp
    simp only [L.FnExactGuardRow_T, List.mem_cons, List.not_mem_nil, or_false] at hp
    rcases hp with rfl | rfl | rfl | rfl | rfl | rfl
    · exact L.toIntS_ok
    · exact S.GuardRow_ok
    · exact I.GuardRow_ok
    · exact L.eqIntS_ok
    · exact L.markIntS_ok
    · exact L.heldIntS_ok
  · intro args h κ r hh
    simp only [L.FnExactGuardRow_s] at hh
    split at hh
    · exact (L.FnExactGuardRow_den _ κ).trans hh
    · cases hh
  · intro args h κ r hh
    simp only [L.FnExactGuardRow_s] at hh ⊢
    split at hh
    · exact optC_law2 (F := fun (r : Bool) κ => κ (.bool r) []) (fun b κ r hb => ⟨_, _, hb, fun _ => rfl⟩) hh
    · cases hh
  · intro _ args h κ r hh
    simp only [L.FnExactGuardRow_s] at hh
    split at hh
    · exact ⟨rfl, fun _ => rfl⟩
    · cases hh
  · intro _ args h κ r hh
    simp only [L.FnExactGuardRow_s] at hh
    split at hh
    · rfl
    · cases hh


end Go.Proofs.Ytleianhibhpgpaa
