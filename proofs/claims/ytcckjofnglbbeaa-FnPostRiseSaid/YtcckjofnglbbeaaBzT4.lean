/- Twins of the translated functions, with their proofs. Conditions: none. -/
import Derived.Test.YtcckjofnglbbeaaBzT3
set_option linter.unusedVariables false
set_option linter.unusedSimpArgs false
set_option linter.unusedSectionVars false
namespace Go.Proofs.Ytcckjofnglbbeaa
open D Go.RowKit
-- loop.example/guardsonnets/laws.FnExactPostCut
noncomputable def L.FnExactPostCut_T : List (Nat × D.Spec) := [(36, L.szPost_s), (37, L.toPost_s), (44, S.PostCut_s), (43, I.PostCut_s), (23, L.eqPost_s), (26, L.markPost_s), (27, L.heldPost_s)]
def L.FnExactPostCut_ann : Nat → List Nat × List Nat
  | _ => ([], [])
noncomputable def L.FnExactPostCut_F (args : List V) (h : List E) (κ : V → List E → R) : R := funC TD (tableK L.FnExactPostCut_T) L.FnExactPostCut_ann (drawOk TD (tableP L.FnExactPostCut_T)) FUEL Try.f12 args h κ
noncomputable def L.FnExactPostCut_tree {α : Type} (aP0 : List Int) (aP1 : Int) (aP2 : List Int) (aBytes : Int) (leaf0_ : Bool → α) (fail_ : α) : α :=
  (optC (L.szPost_t aP0 aP1 aP2 1048576) (fun c_1 => (bif decide (c_1 < 0) then (leaf0_ true) else (optC (L.toPost_t aP0 aP1 aP2) (fun c_2 => (optC (S.PostCut_t c_2.snd.fst c_2.fst c_2.snd.snd aBytes) (fun c_3 => (sumC c_3 (fun c_4 => (optC (L.toPost_t aP0 aP1 aP2) (fun c_5 => (optC (I.PostCut_t c_5.snd.fst c_5.fst c_5.snd.snd aBytes) (fun c_6 => (sumC c_6 (fun c_7 => (optC (L.eqPost_t [] c_7.fst [] [] c_4.fst []) (fun c_8 => (bif !c_8 then (leaf0_ false) else (bif !c_7.snd == c_4.snd then (leaf0_ false) else (optC (L.toPost_t aP0 aP1 aP2) (fun c_9 => (optC (L.eqPost_t c_5.snd.fst c_5.fst c_5.snd.snd c_9.snd.fst c_9.fst c_9.snd.snd) (fun c_10 => (bif !c_10 then (leaf0_ false) else (optC (L.markPost_t c_5.snd.fst c_5.fst c_5.snd.snd 1) (fun c_11 => (bif decide (c_11.fst < 0) then (leaf0_ false) else (optC (L.eqPost_t [] c_7.fst [] [] c_4.fst []) (fun c_12 => (bif !c_12 then (leaf0_ false) else (bif !c_7.snd == c_4.snd then (leaf0_ false) else fail_))) fail_))) fail_))) fail_)) fail_)))) fail_)) (fun c_7 => (optC (L.eqPost_t c_7.snd.snd.fst c_7.fst c_7.snd.snd.snd [] c_4.fst []) (fun c_13 => (bif !c_13 then (leaf0_ false) else (bif !c_7.snd.fst == c_4.snd then (leaf0_ false) else (optC (L.toPost_t aP0 aP1 aP2) (fun c_14 => (optC (L.eqPost_t c_5.snd.fst c_5.fst c_5.snd.snd c_14.snd.fst c_14.fst c_14.snd.snd) (fun c_15 => (bif !c_15 then (leaf0_ false) else (optC (L.markPost_t c_5.snd.fst c_5.fst c_5.snd.snd 1) (fun c_16 => (bif decide (c_16.fst < 0) then (leaf0_ false) else (optC (L.eqPost_t c_7.snd.snd.fst c_7.fst c_7.snd.snd.snd [] c_4.fst []) (fun c_17 => (bif !c_17 then (leaf0_ false) else (bif !c_7.snd.fst == c_4.snd then (leaf0_ false) else (optC (L.markPost_t c_7.snd.snd.fst c_7.fst c_7.snd.snd.snd 1) (fun c_18 => (optC (L.heldPost_t c_18.snd.fst c_7.fst c_18.snd.snd 1) (fun c_19 => (bif decide (c_19 < 0) then (leaf0_ false) else (bif !c_19 == c_18.fst then (leaf0_ false) else (optC (L.toPost_t aP0 aP1 aP2) (fun c_20 => (optC (I.PostCut_t c_20.snd.fst c_20.fst c_20.snd.snd aBytes) (fun c_21 => (sumC c_21 (fun c_22 => (optC (L.eqPost_t [] c_22.fst [] [] c_4.fst []) (fun c_23 => (bif !c_23 then (leaf0_ false) else (bif !c_22.snd == c_4.snd then (leaf0_ false) else (optC (L.heldPost_t c_18.snd.fst c_7.fst c_18.snd.snd 1) (fun c_24 => (bif decide (c_24 < 0) then (leaf0_ false) else (bif !c_24 == c_18.fst then (leaf0_ false) else (leaf0_ true)))) fail_)))) fail_)) (fun c_22 => (optC (L.eqPost_t c_22.snd.snd.fst c_22.fst c_22.snd.snd.snd [] c_4.fst []) (fun c_25 => (bif !c_25 then (leaf0_ false) else (bif !c_22.snd.fst == c_4.snd then (leaf0_ false) else (optC (L.heldPost_t c_18.snd.fst c_7.fst c_18.snd.snd 1) (fun c_26 => (bif decide (c_26 < 0) then (leaf0_ false) else (bif !c_26 == c_18.fst then (leaf0_ false) else (leaf0_ true)))) fail_)))) fail_)))) fail_)) fail_)))) fail_)) fail_)))) fail_))) fail_))) fail_)) fail_)))) fail_)))) fail_)) fail_)) (fun c_4 => (optC (L.toPost_t aP0 aP1 aP2) (fun c_27 => (optC (I.PostCut_t c_27.snd.fst c_27.fst c_27.snd.snd aBytes) (fun c_28 => (sumC c_28 (fun c_29 => (optC (L.eqPost_t [] c_29.fst [] c_4.snd.snd.fst c_4.fst c_4.snd.snd.snd) (fun c_30 => (bif !c_30 then (leaf0_ false) else (bif !c_29.snd == c_4.snd.fst then (leaf0_ false) else (optC (L.toPost_t aP0 aP1 aP2) (fun c_31 => (optC (L.eqPost_t c_27.snd.fst c_27.fst c_27.snd.snd c_31.snd.fst c_31.fst c_31.snd.snd) (fun c_32 => (bif !c_32 then (leaf0_ false) else (optC (L.markPost_t c_27.snd.fst c_27.fst c_27.snd.snd 1) (fun c_33 => (bif decide (c_33.fst < 0) then (leaf0_ false) else (optC (L.eqPost_t [] c_29.fst [] c_4.snd.snd.fst c_4.fst c_4.snd.snd.snd) (fun c_34 => (bif !c_34 then (leaf0_ false) else (bif !c_29.snd == c_4.snd.fst then (leaf0_ false) else fail_))) fail_))) fail_))) fail_)) fail_)))) fail_)) (fun c_29 => (optC (L.eqPost_t c_29.snd.snd.fst c_29.fst c_29.snd.snd.snd c_4.snd.snd.fst c_4.fst c_4.snd.snd.snd) (fun c_35 => (bif !c_35 then (leaf0_ false) else (bif !c_29.snd.fst == c_4.snd.fst then (leaf0_ false) else (optC (L.toPost_t aP0 aP1 aP2) (fun c_36 => (optC (L.eqPost_t c_27.snd.fst c_27.fst c_27.snd.snd c_36.snd.fst c_36.fst c_36.snd.snd) (fun c_37 => (bif !c_37 then (leaf0_ false) else (optC (L.markPost_t c_27.snd.fst c_27.fst c_27.snd.snd 1) (fun c_38 => (bif decide (c_38.fst < 0) then (leaf0_ false) else (optC (L.eqPost_t c_29.snd.snd.fst c_29.fst c_29.snd.snd.snd c_4.snd.snd.fst c_4.fst c_4.snd.snd.snd) (fun c_39 => (bif !c_39 then (leaf0_ false) else (bif !c_29.snd.fst == c_4.snd.fst then (leaf0_ false) else (optC (L.markPost_t c_29.snd.snd.fst c_29.fst c_29.snd.snd.snd 1) (fun c_40 => (optC (L.heldPost_t c_40.snd.fst c_29.fst c_40.snd.snd 1) (fun c_41 => (bif decide (c_41 < 0) then (leaf0_ false) else (bif !c_41 == c_40.fst then (leaf0_ false) else (optC (L.toPost_t aP0 aP1 aP2) (fun c_42 => (optC (I.PostCut_t c_42.snd.fst c_42.fst c_42.snd.snd aBytes) (fun c_43 => (sumC c_43 (fun c_44 => (optC (L.eqPost_t [] c_44.fst [] c_4.snd.snd.fst c_4.fst c_4.snd.snd.snd) (fun c_45 => (bif !c_45 then (leaf0_ false) else (bif !c_44.snd == c_4.snd.fst then (leaf0_ false) else (optC (L.heldPost_t c_40.snd.fst c_29.fst c_40.snd.snd 1) (fun c_46 => (bif decide (c_46 < 0) then (leaf0_ false) else (bif !c_46 == c_40.fst then (leaf0_ false) else (leaf0_ true)))) fail_)))) fail_)) (fun c_44 => (optC (L.eqPost_t c_44.snd.snd.fst c_44.fst c_44.snd.snd.snd c_4.snd.snd.fst c_4.fst c_4.snd.snd.snd) (fun c_47 => (bif !c_47 then (leaf0_ false) else (bif !c_44.snd.fst == c_4.snd.fst then (leaf0_ false) else (optC (L.heldPost_t c_40.snd.fst c_29.fst c_40.snd.snd 1) (fun c_48 => (bif decide (c_48 < 0) then (leaf0_ false) else (bif !c_48 == c_40.fst then (leaf0_ false) else (leaf0_ true)))) fail_)))) fail_)))) fail_)) fail_)))) fail_)) fail_)))) fail_))) fail_))) fail_)) fail_)))) fail_)))) fail_)) fail_)))) fail_)) fail_))) fail_)
theorem L.FnExactPostCut_tree_nat {α γ : Type} (g : α → γ) (aP0 : List Int) (aP1 : Int) (aP2 : List Int) (aBytes : Int) (leaf0_ : Bool → α) (fail_ : α) : g (L.FnExactPostCut_tree aP0 aP1 aP2 aBytes leaf0_ fail_) = L.FnExactPostCut_tree aP0 aP1 aP2 aBytes (fun d => g (leaf0_ d)) (g fail_) := by
  unfold L.FnExactPostCut_tree; simp only [apply_cnd g, apply_optC g, apply_sumC g]
noncomputable def L.FnExactPostCut_t (aP0 : List Int) (aP1 : Int) (aP2 : List Int) (aBytes : Int) : Option (Bool) := L.FnExactPostCut_tree aP0 aP1 aP2 aBytes (fun d => some d) none
theorem L.FnExactPostCut_den (aP0 : List Int) (aP1 : Int) (aP2 : List Int) (aBytes : Int) (κ : V → List E → R) : L.FnExactPostCut_F [.agg [.ro true (.ints .i64 aP0), .int .i64 aP1, .ro true (.ints .u8 aP2)], .int .i64 aBytes] [] κ = optC (L.FnExactPostCut_t aP0 aP1 aP2 aBytes) (fun (r : Bool) => κ (.bool r) []) none := by
  have hu : L.FnExactPostCut_F [.agg [.ro true (.ints .i64 aP0), .int .i64 aP1, .ro true (.ints .u8 aP2)], .int .i64 aBytes] [] κ = L.FnExactPostCut_tree aP0 aP1 aP2 aBytes (fun d => κ (.bool d) []) none := by
    kernel_rfl
  rw [hu]
  exact (L.FnExactPostCut_tree_nat (fun o => optC o (fun (r : Bool) => κ (.bool r) []) none) aP0 aP1 aP2 aBytes (fun d => some d) none).symm
noncomputable def L.FnExactPostCut_s : D.Spec where
  keep := true
  pure := true
  add := true
  ds := [.tuple #[1, 0, 2], .invalid]
  sp := fun args h κ => match args, h with
    | [.agg [.ro true (.ints .i64 aP0), .int .i64 aP1, .ro true (.ints .u8 aP2)], .int .i64 aBytes], [] => optC (L.FnExactPostCut_t aP0 aP1 aP2 aBytes) (fun (r : Bool) => κ (.bool r) []) none
    | _, _ => none
theorem L.FnExactPostCut_ok : SpecOk Try.prog 12 L.FnExactPostCut_s := by
  refine SpecOk.of TDok mixed (T := L.FnExactPostCut_T) ?_ (ann := L.FnExactPostCut_ann) Try.func12 rfl (by decide +kernel) ?_ ?_ ?_ ?_
  · intro p hp
    simp only [L.FnExactPostCut_T, List.mem_cons, List.not_mem_nil, or_false] at hp
    rcases hp with rfl | rfl | rfl | rfl | rfl | rfl | rfl
    · exact L.szPost_ok
    · exact L.toPost_ok
    · exact S.PostCut_ok
    · exact I.PostCut_ok
    · exact L.eqPost_ok
    · exact L.markPost_ok
    · exact L.heldPost_ok
  · intro args h κ r hh
    simp only [L.FnExactPostCut_s] at hh
    split at hh
    · exact (L.FnExactPostCut_den _ _ _ _ κ).trans hh
    · cases hh
  · intro args h κ r hh
    simp only [L.FnExactPostCut_s] at hh ⊢
    split at hh
    · exact optC_law2 (F := fun (r : Bool) κ => κ (.bool r) []) (fun b κ r hb => ⟨_, _, hb, fun _ => rfl⟩) hh
    · cases hh
  · intro _ args h κ r hh
    simp only [L.FnExactPostCut_s] at hh
    split at hh
    · exact ⟨rfl, fun _ => rfl⟩
    · cases hh
  · intro _ args h κ r hh
    simp only [L.FnExactPostCut_s] at hh
    split at hh
    · rfl
    · cases hh


end Go.Proofs.Ytcckjofnglbbeaa
