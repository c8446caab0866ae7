/- Twins of the translated functions, with their proofs. Conditions: none. -/
import Derived.Test.YtcckjofnglbbeaaBzT2
set_option linter.unusedVariables false
set_option linter.unusedSimpArgs false
set_option linter.unusedSectionVars false
namespace Go.Proofs.Ytcckjofnglbbeaa
open D Go.RowKit
-- loop.example/guardsonnets/laws.FnExactPostNew
noncomputable def L.FnExactPostNew_T : List (Nat × D.Spec) := [(22, L.toIntS_s), (15, S.PostNew_s), (14, I.PostNew_s), (23, L.eqPost_s), (24, L.eqIntS_s), (25, L.markIntS_s), (26, L.markPost_s), (27, L.heldPost_s)]
def L.FnExactPostNew_ann : Nat → List Nat × List Nat
  | _ => ([], [])
noncomputable def L.FnExactPostNew_F (args : List V) (h : List E) (κ : V → List E → R) : R := funC TD (tableK L.FnExactPostNew_T) L.FnExactPostNew_ann (drawOk TD (tableP L.FnExactPostNew_T)) FUEL Try.f4 args h κ
noncomputable def L.FnExactPostNew_tree {α : Type} (aNet : List Int) (leaf0_ : Bool → α) (fail_ : α) : α :=
  (bif decide ((↑aNet.length : Int) > 1048576) then (leaf0_ true) else (optC (L.toIntS_t aNet) (fun c_1 => (optC (S.PostNew_t c_1) (fun c_2 => (sumC c_2 (fun c_3 => (optC (L.toIntS_t aNet) (fun c_4 => (optC (I.PostNew_t c_4) (fun c_5 => (sumC c_5 (fun c_6 => (optC (L.eqPost_t [] c_6.fst [] [] c_3.fst []) (fun c_7 => (bif !c_7 then (leaf0_ false) else (bif !c_6.snd == c_3.snd then (leaf0_ false) else (optC (L.toIntS_t aNet) (fun c_8 => (optC (L.eqIntS_t c_4 c_8) (fun c_9 => (bif !c_9 then (leaf0_ false) else (optC (L.markIntS_t c_4 1) (fun c_10 => (bif decide (c_10.fst < 0) then (leaf0_ false) else (optC (L.eqPost_t [] c_6.fst [] [] c_3.fst []) (fun c_11 => (bif !c_11 then (leaf0_ false) else (bif !c_6.snd == c_3.snd then (leaf0_ false) else fail_))) fail_))) fail_))) fail_)) fail_)))) fail_)) (fun c_6 => (optC (L.eqPost_t c_6.snd.snd.fst c_6.fst c_6.snd.snd.snd [] c_3.fst []) (fun c_12 => (bif !c_12 then (leaf0_ false) else (bif !c_6.snd.fst == c_3.snd then (leaf0_ false) else (optC (L.toIntS_t aNet) (fun c_13 => (optC (L.eqIntS_t c_4 c_13) (fun c_14 => (bif !c_14 then (leaf0_ false) else (optC (L.markIntS_t c_4 1) (fun c_15 => (bif decide (c_15.fst < 0) then (leaf0_ false) else (optC (L.eqPost_t c_6.snd.snd.fst c_6.fst c_6.snd.snd.snd [] c_3.fst []) (fun c_16 => (bif !c_16 then (leaf0_ false) else (bif !c_6.snd.fst == c_3.snd then (leaf0_ false) else (optC (L.markPost_t c_6.snd.snd.fst c_6.fst c_6.snd.snd.snd 1) (fun c_17 => (optC (L.heldPost_t c_17.snd.fst c_6.fst c_17.snd.snd 1) (fun c_18 => (bif decide (c_18 < 0) then (leaf0_ false) else (bif !c_18 == c_17.fst then (leaf0_ false) else (optC (L.toIntS_t aNet) (fun c_19 => (optC (I.PostNew_t c_19) (fun c_20 => (sumC c_20 (fun c_21 => (optC (L.eqPost_t [] c_21.fst [] [] c_3.fst []) (fun c_22 => (bif !c_22 then (leaf0_ false) else (bif !c_21.snd == c_3.snd then (leaf0_ false) else (optC (L.heldPost_t c_17.snd.fst c_6.fst c_17.snd.snd 1) (fun c_23 => (bif decide (c_23 < 0) then (leaf0_ false) else (bif !c_23 == c_17.fst then (leaf0_ false) else (leaf0_ true)))) fail_)))) fail_)) (fun c_21 => (optC (L.eqPost_t c_21.snd.snd.fst c_21.fst c_21.snd.snd.snd [] c_3.fst []) (fun c_24 => (bif !c_24 then (leaf0_ false) else (bif !c_21.snd.fst == c_3.snd then (leaf0_ false) else (optC (L.heldPost_t c_17.snd.fst c_6.fst c_17.snd.snd 1) (fun c_25 => (bif decide (c_25 < 0) then (leaf0_ false) else (bif !c_25 == c_17.fst then (leaf0_ false) else (leaf0_ true)))) fail_)))) fail_)))) fail_)) fail_)))) fail_)) fail_)))) fail_))) fail_))) fail_)) fail_)))) fail_)))) fail_)) fail_)) (fun c_3 => (optC (L.toIntS_t aNet) (fun c_26 => (optC (I.PostNew_t c_26) (fun c_27 => (sumC c_27 (fun c_28 => (optC (L.eqPost_t [] c_28.fst [] c_3.snd.snd.fst c_3.fst c_3.snd.snd.snd) (fun c_29 => (bif !c_29 then (leaf0_ false) else (bif !c_28.snd == c_3.snd.fst then (leaf0_ false) else (optC (L.toIntS_t aNet) (fun c_30 => (optC (L.eqIntS_t c_26 c_30) (fun c_31 => (bif !c_31 then (leaf0_ false) else (optC (L.markIntS_t c_26 1) (fun c_32 => (bif decide (c_32.fst < 0) then (leaf0_ false) else (optC (L.eqPost_t [] c_28.fst [] c_3.snd.snd.fst c_3.fst c_3.snd.snd.snd) (fun c_33 => (bif !c_33 then (leaf0_ false) else (bif !c_28.snd == c_3.snd.fst then (leaf0_ false) else fail_))) fail_))) fail_))) fail_)) fail_)))) fail_)) (fun c_28 => (optC (L.eqPost_t c_28.snd.snd.fst c_28.fst c_28.snd.snd.snd c_3.snd.snd.fst c_3.fst c_3.snd.snd.snd) (fun c_34 => (bif !c_34 then (leaf0_ false) else (bif !c_28.snd.fst == c_3.snd.fst then (leaf0_ false) else (optC (L.toIntS_t aNet) (fun c_35 => (optC (L.eqIntS_t c_26 c_35) (fun c_36 => (bif !c_36 then (leaf0_ false) else (optC (L.markIntS_t c_26 1) (fun c_37 => (bif decide (c_37.fst < 0) then (leaf0_ false) else (optC (L.eqPost_t c_28.snd.snd.fst c_28.fst c_28.snd.snd.snd c_3.snd.snd.fst c_3.fst c_3.snd.snd.snd) (fun c_38 => (bif !c_38 then (leaf0_ false) else (bif !c_28.snd.fst == c_3.snd.fst then (leaf0_ false) else (optC (L.markPost_t c_28.snd.snd.fst c_28.fst c_28.snd.snd.snd 1) (fun c_39 => (optC (L.heldPost_t c_39.snd.fst c_28.fst c_39.snd.snd 1) (fun c_40 => (bif decide (c_40 < 0) then (leaf0_ false) else (bif !c_40 == c_39.fst then (leaf0_ false) else (optC (L.toIntS_t aNet) (fun c_41 => (optC (I.PostNew_t c_41) (fun c_42 => (sumC c_42 (fun c_43 => (optC (L.eqPost_t [] c_43.fst [] c_3.snd.snd.fst c_3.fst c_3.snd.snd.snd) (fun c_44 => (bif !c_44 then (leaf0_ false) else (bif !c_43.snd == c_3.snd.fst then (leaf0_ false) else (optC (L.heldPost_t c_39.snd.fst c_28.fst c_39.snd.snd 1) (fun c_45 => (bif decide (c_45 < 0) then (leaf0_ false) else (bif !c_45 == c_39.fst then (leaf0_ false) else (leaf0_ true)))) fail_)))) fail_)) (fun c_43 => (optC (L.eqPost_t c_43.snd.snd.fst c_43.fst c_43.snd.snd.snd c_3.snd.snd.fst c_3.fst c_3.snd.snd.snd) (fun c_46 => (bif !c_46 then (leaf0_ false) else (bif !c_43.snd.fst == c_3.snd.fst then (leaf0_ false) else (optC (L.heldPost_t c_39.snd.fst c_28.fst c_39.snd.snd 1) (fun c_47 => (bif decide (c_47 < 0) then (leaf0_ false) else (bif !c_47 == c_39.fst then (leaf0_ false) else (leaf0_ true)))) fail_)))) fail_)))) fail_)) fail_)))) fail_)) fail_)))) fail_))) fail_))) fail_)) fail_)))) fail_)))) fail_)) fail_)))) fail_)) fail_))
theorem L.FnExactPostNew_tree_nat {α γ : Type} (g : α → γ) (aNet : List Int) (leaf0_ : Bool → α) (fail_ : α) : g (L.FnExactPostNew_tree aNet leaf0_ fail_) = L.FnExactPostNew_tree aNet (fun d => g (leaf0_ d)) (g fail_) := by
  unfold L.FnExactPostNew_tree; simp only [apply_cnd g, apply_optC g, apply_sumC g]
noncomputable def L.FnExactPostNew_t (aNet : List Int) : Option (Bool) := L.FnExactPostNew_tree aNet (fun d => some d) none
theorem L.FnExactPostNew_den (aNet : List Int) (κ : V → List E → R) : L.FnExactPostNew_F [.ro true (.ints .i64 aNet)] [] κ = optC (L.FnExactPostNew_t aNet) (fun (r : Bool) => κ (.bool r) []) none := by
  have hu : L.FnExactPostNew_F [.ro true (.ints .i64 aNet)] [] κ = L.FnExactPostNew_tree aNet (fun d => κ (.bool d) []) none := by
    kernel_rfl
  rw [hu]
  exact (L.FnExactPostNew_tree_nat (fun o => optC o (fun (r : Bool) => κ (.bool r) []) none) aNet (fun d => some d) none).symm
noncomputable def L.FnExactPostNew_s : D.Spec where
  keep := true
  pure := true
  add := true
  ds := [.int .i64]
  sp := fun args h κ => match args, h with
    | [.ro true (.ints .i64 aNet)], [] => optC (L.FnExactPostNew_t aNet) (fun (r : Bool) => κ (.bool r) []) none
    | _, _ => none
theorem L.FnExactPostNew_ok : SpecOk Try.prog 4 L.FnExactPostNew_s := by
  refine SpecOk.of TDok mixed (T := L.FnExactPostNew_T) ?_ (ann := L.FnExactPostNew_ann) Try.func4 rfl (by decide +kernel) ?_ ?_ ?_ ?_
  · intro p hp
    simp only [L.FnExactPostNew_T, List.mem_cons, List.not_mem_nil, or_false] at hp
    rcases hp with rfl | rfl | rfl | rfl | rfl | rfl | rfl | rfl
    · exact L.toIntS_ok
    · exact S.PostNew_ok
    · exact I.PostNew_ok
    · exact L.eqPost_ok
    · exact L.eqIntS_ok
    · exact L.markIntS_ok
    · exact L.markPost_ok
    · exact L.heldPost_ok
  · intro args h κ r hh
    simp only [L.FnExactPostNew_s] at hh
    split at hh
    · exact (L.FnExactPostNew_den _ κ).trans hh
    · cases hh
  · intro args h κ r hh
    simp only [L.FnExactPostNew_s] at hh ⊢
    split at hh
    · exact optC_law2 (F := fun (r : Bool) κ => κ (.bool r) []) (fun b κ r hb => ⟨_, _, hb, fun _ => rfl⟩) hh
    · cases hh
  · intro _ args h κ r hh
    simp only [L.FnExactPostNew_s] at hh
    split at hh
    · exact ⟨rfl, fun _ => rfl⟩
    · cases hh
  · intro _ args h κ r hh
    simp only [L.FnExactPostNew_s] at hh
    split at hh
    · rfl
    · cases hh

-- loop.example/guardsonnets/spec.l20Places
noncomputable def S.l20Places_T : List (Nat × D.Spec) := [(61, S.l20Rd_pick_s)]
def S.l20Places_ann : Nat → List Nat × List Nat
  | 3 => ([0, 1, 7, 8], [7])
  | _ => ([], [])
noncomputable def S.l20Places_F (args : List V) (h : List E) (κ : V → List E → R) : R := funC TD (tableK S.l20Places_T) S.l20Places_ann (drawOk TD (tableP S.l20Places_T)) FUEL Try.f83 args h κ
noncomputable def S.l20Places_L3 (n : Nat) (σ : St) (k : X → St → R) : R := iterC 1 (fun σ k => denC TD (tableK S.l20Places_T) S.l20Places_ann (drawOk TD (tableP S.l20Places_T)) 1 FUEL ((findLoop 3 (Try.f83.body.getD .skip)).getD .skip) σ k) [0, 1, 7, 8] [7] n σ k
noncomputable def S.l20Places_k3 (κ : V → List E → R) : X → St → R := (afterC TD (tableK S.l20Places_T) S.l20Places_ann (drawOk TD (tableP S.l20Places_T)) 1 FUEL 3 (Try.f83.body.getD .skip) (finC TD 1 Try.f83 κ)).getD (fun _ _ => none)
noncomputable def S.l20Places_step3 {α : Type} (x1 : Int) (x8 : Int) (r0_0 : List Int) (r0_1 : Int) (r1 : List Int) (next_ : Int × (List Int) × Int × (List Int) → α) (out0_ : (List Int) × Int × (List Int) → α) (fail_ : α) : α :=
  (bif decide (x8 > 0) then (optC (S.l20Rd_pick_t r0_0 r0_1 (if 1 > x1 then 1 else x1)) (fun c_2 => (bif small (r1 ++ [c_2.fst]).length then (next_ (IntKind.i64.wrap (x8 - 1), c_2.snd.fst, c_2.snd.snd, r1 ++ [c_2.fst])) else fail_)) fail_) else (out0_ (r0_0, r0_1, r1)))
theorem S.l20Places_step3_nat {α γ : Type} (g : α → γ) (x1 : Int) (x8 : Int) (r0_0 : List Int) (r0_1 : Int) (r1 : List Int) (next_ : Int × (List Int) × Int × (List Int) → α) (out0_ : (List Int) × Int × (List Int) → α) (fail_ : α) : g (S.l20Places_step3 x1 x8 r0_0 r0_1 r1 next_ out0_ fail_) = S.l20Places_step3 x1 x8 r0_0 r0_1 r1 (fun s => g (next_ s)) (fun d => g (out0_ d)) (g fail_) := by
  unfold S.l20Places_step3; simp only [apply_cnd g, apply_optC g, apply_sumC g]
noncomputable def S.l20Places_run3 (x1 : Int) : Nat → Int × (List Int) × Int × (List Int) → Option ((List Int) × Int × (List Int))
  | 0, _ => none
  | n + 1, s_ => S.l20Places_step3 x1 s_.1 s_.2.1 s_.2.2.1 s_.2.2.2 (S.l20Places_run3 x1 n) (fun d => some d) none
theorem S.l20Places_L3_run (x1 : Int) (n : Nat) (s_ : Int × (List Int) × Int × (List Int)) (k : X → St → R) : S.l20Places_L3 n { n := 26, t := [(0, (.ptr 0 0)), (1, (.int .i64 x1)), (7, (.own 1)), (8, (.int .i64 s_.1))], h := [.cells [(.ro true (.ints .u8 s_.2.1)), (.int .i64 s_.2.2.1)], .row (.ints .i64 s_.2.2.2)] } k = optC (S.l20Places_run3 x1 n s_) (fun (r : (List Int) × Int × (List Int)) => k (.exit 0) { n := 26, t := [(7, (.own 1))], h := [.cells [(.ro true (.ints .u8 r.1)), (.int .i64 r.2.1)], .row (.ints .i64 r.2.2)] }) none := by
  induction n generalizing s_ with
  | zero => rfl
  | succ n ih =>
    have hu : S.l20Places_L3 (n + 1) { n := 26, t := [(0, (.ptr 0 0)), (1, (.int .i64 x1)), (7, (.own 1)), (8, (.int .i64 s_.1))], h := [.cells [(.ro true (.ints .u8 s_.2.1)), (.int .i64 s_.2.2.1)], .row (.ints .i64 s_.2.2.2)] } k = S.l20Places_step3 x1 s_.1 s_.2.1 s_.2.2.1 s_.2.2.2 (fun s_ => S.l20Places_L3 n { n := 26, t := [(0, (.ptr 0 0)), (1, (.int .i64 x1)), (7, (.own 1)), (8, (.int .i64 s_.1))], h := [.cells [(.ro true (.ints .u8 s_.2.1)), (.int .i64 s_.2.2.1)], .row (.ints .i64 s_.2.2.2)] } k) (fun d => k (.exit 0) { n := 26, t := [(7, (.own 1))], h := [.cells [(.ro true (.ints .u8 d.1)), (.int .i64 d.2.1)], .row (.ints .i64 d.2.2)] }) none := by
      kernel_rfl
    have hs : (fun s_ : Int × (List Int) × Int × (List Int) => S.l20Places_L3 n { n := 26, t := [(0, (.ptr 0 0)), (1, (.int .i64 x1)), (7, (.own 1)), (8, (.int .i64 s_.1))], h := [.cells [(.ro true (.ints .u8 s_.2.1)), (.int .i64 s_.2.2.1)], .row (.ints .i64 s_.2.2.2)] } k) = fun s_ => optC (S.l20Places_run3 x1 n s_) (fun (r : (List Int) × Int × (List Int)) => k (.exit 0) { n := 26, t := [(7, (.own 1))], h := [.cells [(.ro true (.ints .u8 r.1)), (.int .i64 r.2.1)], .row (.ints .i64 r.2.2)] }) none := funext ih
    rw [hu, hs]
    exact (S.l20Places_step3_nat (fun o => optC o (fun (r : (List Int) × Int × (List Int)) => k (.exit 0) { n := 26, t := [(7, (.own 1))], h := [.cells [(.ro true (.ints .u8 r.1)), (.int .i64 r.2.1)], .row (.ints .i64 r.2.2)] }) none) x1 s_.1 s_.2.1 s_.2.2.1 s_.2.2.2 (S.l20Places_run3 x1 n) (fun d => some d) none).symm
noncomputable def S.l20Places_tree {α : Type} (rb : List Int) (rp : Int) (many : Int) (most : Int) (leaf0_ : (List Int) × Int × (List Int) → α) (fail_ : α) : α :=
  (optC (S.l20Rd_pick_t rb rp (IntKind.i64.wrap (most + 1))) (fun c_1 => (optC (S.l20Places_run3 many FUEL (c_1.fst, c_1.snd.fst, c_1.snd.snd, [])) (fun qy_3 => (leaf0_ (qy_3.1, qy_3.2.1, qy_3.2.2))) fail_)) fail_)
theorem S.l20Places_tree_nat {α γ : Type} (g : α → γ) (rb : List Int) (rp : Int) (many : Int) (most : Int) (leaf0_ : (List Int) × Int × (List Int) → α) (fail_ : α) : g (S.l20Places_tree rb rp many most leaf0_ fail_) = S.l20Places_tree rb rp many most (fun d => g (leaf0_ d)) (g fail_) := by
  unfold S.l20Places_tree; simp only [apply_cnd g, apply_optC g, apply_sumC g]
noncomputable def S.l20Places_t (rb : List Int) (rp : Int) (many : Int) (most : Int) : Option ((List Int) × Int × (List Int)) := S.l20Places_tree rb rp many most (fun d => some d) none
theorem S.l20Places_den (rb : List Int) (rp : Int) (many : Int) (most : Int) (κ : V → List E → R) : S.l20Places_F [.ptr 0 0, .int .i64 many, .int .i64 most] [.cells [.ro true (.ints .u8 rb), .int .i64 rp]] κ = optC (S.l20Places_t rb rp many most) (fun (r : (List Int) × Int × (List Int)) => κ (.own 1) [.cells [(.ro true (.ints .u8 r.1)), (.int .i64 r.2.1)], .row (.ints .i64 r.2.2)]) none := by
  have hu : S.l20Places_F [.ptr 0 0, .int .i64 many, .int .i64 most] [.cells [.ro true (.ints .u8 rb), .int .i64 rp]] κ = S.l20Places_tree rb rp many most (fun d => κ (.own 1) [.cells [(.ro true (.ints .u8 d.1)), (.int .i64 d.2.1)], .row (.ints .i64 d.2.2)]) none := by
    refine Eq.trans (show S.l20Places_F [.ptr 0 0, .int .i64 many, .int .i64 most] [.cells [.ro true (.ints .u8 rb), .int .i64 rp]] κ = (optC (S.l20Rd_pick_t rb rp (IntKind.i64.wrap (most + 1))) (fun c_1 => (S.l20Places_L3 FUEL { n := 26, t := [(0, (.ptr 0 0)), (1, (.int .i64 many)), (7, (.own 1)), (8, (.int .i64 c_1.fst))], h := [.cells [(.ro true (.ints .u8 c_1.snd.fst)), (.int .i64 c_1.snd.snd)], .row (.ints .i64 ([]))] } (S.l20Places_k3 κ))) none) by kernel_rfl) ?_
    refine optC_congr (fun c_1 => ?_)
    refine (S.l20Places_L3_run many FUEL (c_1.fst, c_1.snd.fst, c_1.snd.snd, []) (S.l20Places_k3 κ)).trans (optC_congr (fun qy_3 => ?_))
    kernel_rfl
  rw [hu]
  exact (S.l20Places_tree_nat (fun o => optC o (fun (r : (List Int) × Int × (List Int)) => κ (.own 1) [.cells [(.ro true (.ints .u8 r.1)), (.int .i64 r.2.1)], .row (.ints .i64 r.2.2)]) none) rb rp many most (fun d => some d) none).symm
noncomputable def S.l20Places_s : D.Spec where
  keep := false
  pure := false
  add := false
  ds := [.invalid, .invalid, .invalid]
  sp := fun args h κ => match args, h with
    | [.ptr 0 0, .int .i64 many, .int .i64 most], [.cells [.ro true (.ints .u8 rb), .int .i64 rp]] => optC (S.l20Places_t rb rp many most) (fun (r : (List Int) × Int × (List Int)) => κ (.own 1) [.cells [(.ro true (.ints .u8 r.1)), (.int .i64 r.2.1)], .row (.ints .i64 r.2.2)]) none
    | _, _ => none
theorem S.l20Places_ok : SpecOk Try.prog 83 S.l20Places_s := by
  refine SpecOk.of TDok mixed (T := S.l20Places_T) ?_ (ann := S.l20Places_ann) Try.func83 rfl (by decide +kernel) ?_ ?_ ?_ ?_
  · intro p hp
    simp only [S.l20Places_T, List.mem_cons, List.not_mem_nil, or_false] at hp
    rcases hp with rfl
    · exact S.l20Rd_pick_ok
  · intro args h κ r hh
    simp only [S.l20Places_s] at hh
    split at hh
    · exact (S.l20Places_den _ _ _ _ κ).trans hh
    · cases hh
  · intro args h κ r hh
    simp only [S.l20Places_s] at hh ⊢
    split at hh
    · exact optC_law2 (F := fun (r : (List Int) × Int × (List Int)) κ => κ (.own 1) [.cells [(.ro true (.ints .u8 r.1)), (.int .i64 r.2.1)], .row (.ints .i64 r.2.2)]) (fun b κ r hb => ⟨_, _, hb, fun _ => rfl⟩) hh
    · cases hh
  · intro hh; cases hh
  · intro hh; cases hh

-- loop.example/guardsonnets/spec.l17Record
noncomputable def S.l17Record_T : List (Nat × D.Spec) := []
def S.l17Record_ann : Nat → List Nat × List Nat
  | _ => ([], [])
noncomputable def S.l17Record_F (args : List V) (h : List E) (κ : V → List E → R) : R := funC TD (tableK S.l17Record_T) S.l17Record_ann (drawOk TD (tableP S.l17Record_T)) FUEL Try.f73 args h κ
noncomputable def S.l17Record_tree {α : Type} (place : Int) (number : Int) (leaf0_ : List Int → α) (fail_ : α) : α :=
  (leaf0_ ([IntKind.u8.wrap (IntKind.i64.wrap (place + 1)), IntKind.u8.wrap (IntKind.i64.wrap (number + 1)), IntKind.u8.wrap ((IntKind.i64.wrap (IntKind.i64.wrap (place + 1) * IntKind.i64.wrap (number + 7))).tmod 251)]))
theorem S.l17Record_tree_nat {α γ : Type} (g : α → γ) (place : Int) (number : Int) (leaf0_ : List Int → α) (fail_ : α) : g (S.l17Record_tree place number leaf0_ fail_) = S.l17Record_tree place number (fun d => g (leaf0_ d)) (g fail_) := by
  unfold S.l17Record_tree; simp only [apply_cnd g, apply_optC g, apply_sumC g]
noncomputable def S.l17Record_t (place : Int) (number : Int) : Option (List Int) := S.l17Record_tree place number (fun d => some d) none
theorem S.l17Record_den (place : Int) (number : Int) (κ : V → List E → R) : S.l17Record_F [.int .i64 place, .int .i64 number] [] κ = optC (S.l17Record_t place number) (fun (r : List Int) => κ (.own 0) [.row (.ints .u8 r)]) none := by
  have hu : S.l17Record_F [.int .i64 place, .int .i64 number] [] κ = S.l17Record_tree place number (fun d => κ (.own 0) [.row (.ints .u8 d)]) none := by
    kernel_rfl
  rw [hu]
  exact (S.l17Record_tree_nat (fun o => optC o (fun (r : List Int) => κ (.own 0) [.row (.ints .u8 r)]) none) place number (fun d => some d) none).symm
noncomputable def S.l17Record_s : D.Spec where
  keep := false
  pure := false
  add := true
  ds := [.invalid, .invalid]
  sp := fun args h κ => match args, h with
    | [.int .i64 place, .int .i64 number], [] => optC (S.l17Record_t place number) (fun (r : List Int) => κ (.own 0) [.row (.ints .u8 r)]) none
    | _, _ => none
theorem S.l17Record_ok : SpecOk Try.prog 73 S.l17Record_s := by
  refine SpecOk.of TDok mixed (T := S.l17Record_T) ?_ (ann := S.l17Record_ann) Try.func73 rfl (by decide +kernel) ?_ ?_ ?_ ?_
  · intro p hp; cases hp
  · intro args h κ r hh
    simp only [S.l17Record_s] at hh
    split at hh
    · exact (S.l17Record_den _ _ κ).trans hh
    · cases hh
  · intro args h κ r hh
    simp only [S.l17Record_s] at hh ⊢
    split at hh
    · exact optC_law2 (F := fun (r : List Int) κ => κ (.own 0) [.row (.ints .u8 r)]) (fun b κ r hb => ⟨_, _, hb, fun _ => rfl⟩) hh
    · cases hh
  · intro hh; cases hh
  · intro _ args h κ r hh
    simp only [S.l17Record_s] at hh
    split at hh
    · rfl
    · cases hh

-- loop.example/guardsonnets/spec.LogOf
noncomputable def S.LogOf_T : List (Nat × D.Spec) := [(71, S.l1In_s), (73, S.l17Record_s)]
def S.LogOf_ann : Nat → List Nat × List Nat
  | 5 => ([0, 3, 4], [2, 3])
  | _ => ([], [])
noncomputable def S.LogOf_F (args : List V) (h : List E) (κ : V → List E → R) : R := funC TD (tableK S.LogOf_T) S.LogOf_ann (drawOk TD (tableP S.LogOf_T)) FUEL Try.f63 args h κ
noncomputable def S.LogOf_L5 (n : Nat) (σ : St) (k : X → St → R) : R := iterC 0 (fun σ k => denC TD (tableK S.LogOf_T) S.LogOf_ann (drawOk TD (tableP S.LogOf_T)) 0 FUEL ((findLoop 5 (Try.f63.body.getD .skip)).getD .skip) σ k) [0, 3, 4] [2, 3] n σ k
noncomputable def S.LogOf_k5 (κ : V → List E → R) : X → St → R := (afterC TD (tableK S.LogOf_T) S.LogOf_ann (drawOk TD (tableP S.LogOf_T)) 0 FUEL 5 (Try.f63.body.getD .skip) (finC TD 0 Try.f63 κ)).getD (fun _ _ => none)
noncomputable def S.LogOf_step5 {α : Type} (x0 : List Int) (x4 : Int) (r0 : List Int) (next_ : Int × (List Int) → α) (out0_ : (List Int) × (List Int) → α) (out1_ : List Int → α) (fail_ : α) : α :=
  (bif decide (x4 < (↑x0.length : Int)) then (bif decide (0 ≤ x4) && decide (x4 < (↑x0.length : Int)) then (optC (S.l1In_t (eli x0 x4.toNat) 0 5) (fun c_1 => (bif !c_1 then (out0_ ([], r0)) else (bif decide (0 ≤ x4) && decide (x4 < (↑x0.length : Int)) then (optC (S.l17Record_t (eli x0 x4.toNat) x4) (fun c_2 => (bif small (r0 ++ c_2).length then (next_ (IntKind.i64.wrap (x4 + 1), r0 ++ c_2)) else fail_)) fail_) else fail_))) fail_) else fail_) else (out1_ r0))
theorem S.LogOf_step5_nat {α γ : Type} (g : α → γ) (x0 : List Int) (x4 : Int) (r0 : List Int) (next_ : Int × (List Int) → α) (out0_ : (List Int) × (List Int) → α) (out1_ : List Int → α) (fail_ : α) : g (S.LogOf_step5 x0 x4 r0 next_ out0_ out1_ fail_) = S.LogOf_step5 x0 x4 r0 (fun s => g (next_ s)) (fun d => g (out0_ d)) (fun d => g (out1_ d)) (g fail_) := by
  unfold S.LogOf_step5; simp only [apply_cnd g, apply_optC g, apply_sumC g]
noncomputable def S.LogOf_run5 (x0 : List Int) : Nat → Int × (List Int) → Option (((List Int) × (List Int)) ⊕ (List Int))
  | 0, _ => none
  | n + 1, s_ => S.LogOf_step5 x0 s_.1 s_.2 (S.LogOf_run5 x0 n) (fun d => some ((Sum.inl d))) (fun d => some ((Sum.inr d))) none
theorem S.LogOf_L5_run (x0 : List Int) (n : Nat) (s_ : Int × (List Int)) (k : X → St → R) : S.LogOf_L5 n { n := 32, t := [(0, (.ro false (.ints .i64 x0))), (3, (.own 0)), (4, (.int .i64 s_.1))], h := [.row (.ints .u8 s_.2)] } k = optC (S.LogOf_run5 x0 n s_) (fun (r : ((List Int) × (List Int)) ⊕ (List Int)) => (sumC r (fun (r : (List Int) × (List Int)) => k (.ret) { n := 32, t := [(2, (.own 0)), (3, (.own 1))], h := [.row (.ints .u8 r.1), .row (.ints .u8 r.2)] }) (fun (r : List Int) => k (.exit 0) { n := 32, t := [(2, .junk), (3, (.own 0))], h := [.row (.ints .u8 r)] }))) none := by
  induction n generalizing s_ with
  | zero => rfl
  | succ n ih =>
    have hu : S.LogOf_L5 (n + 1) { n := 32, t := [(0, (.ro false (.ints .i64 x0))), (3, (.own 0)), (4, (.int .i64 s_.1))], h := [.row (.ints .u8 s_.2)] } k = S.LogOf_step5 x0 s_.1 s_.2 (fun s_ => S.LogOf_L5 n { n := 32, t := [(0, (.ro false (.ints .i64 x0))), (3, (.own 0)), (4, (.int .i64 s_.1))], h := [.row (.ints .u8 s_.2)] } k) (fun d => k (.ret) { n := 32, t := [(2, (.own 0)), (3, (.own 1))], h := [.row (.ints .u8 d.1), .row (.ints .u8 d.2)] }) (fun d => k (.exit 0) { n := 32, t := [(2, .junk), (3, (.own 0))], h := [.row (.ints .u8 d)] }) none := by
      kernel_rfl
    have hs : (fun s_ : Int × (List Int) => S.LogOf_L5 n { n := 32, t := [(0, (.ro false (.ints .i64 x0))), (3, (.own 0)), (4, (.int .i64 s_.1))], h := [.row (.ints .u8 s_.2)] } k) = fun s_ => optC (S.LogOf_run5 x0 n s_) (fun (r : ((List Int) × (List Int)) ⊕ (List Int)) => (sumC r (fun (r : (List Int) × (List Int)) => k (.ret) { n := 32, t := [(2, (.own 0)), (3, (.own 1))], h := [.row (.ints .u8 r.1), .row (.ints .u8 r.2)] }) (fun (r : List Int) => k (.exit 0) { n := 32, t := [(2, .junk), (3, (.own 0))], h := [.row (.ints .u8 r)] }))) none := funext ih
    rw [hu, hs]
    exact (S.LogOf_step5_nat (fun o => optC o (fun (r : ((List Int) × (List Int)) ⊕ (List Int)) => (sumC r (fun (r : (List Int) × (List Int)) => k (.ret) { n := 32, t := [(2, (.own 0)), (3, (.own 1))], h := [.row (.ints .u8 r.1), .row (.ints .u8 r.2)] }) (fun (r : List Int) => k (.exit 0) { n := 32, t := [(2, .junk), (3, (.own 0))], h := [.row (.ints .u8 r)] }))) none) x0 s_.1 s_.2 (S.LogOf_run5 x0 n) (fun d => some ((Sum.inl d))) (fun d => some ((Sum.inr d))) none).symm
noncomputable def S.LogOf_tree {α : Type} (places : List Int) (leaf0_ : List Int → α) (fail_ : α) : α :=
  (bif decide ((↑places.length : Int) > 40) then (leaf0_ ([])) else (optC (S.LogOf_run5 places FUEL (0, [])) (fun qy_3 => (sumC qy_3 (fun (qy_3 : (List Int) × (List Int)) => (leaf0_ qy_3.1)) (fun (qy_3 : List Int) => (leaf0_ qy_3)))) fail_))
theorem S.LogOf_tree_nat {α γ : Type} (g : α → γ) (places : List Int) (leaf0_ : List Int → α) (fail_ : α) : g (S.LogOf_tree places leaf0_ fail_) = S.LogOf_tree places (fun d => g (leaf0_ d)) (g fail_) := by
  unfold S.LogOf_tree; simp only [apply_cnd g, apply_optC g, apply_sumC g]
noncomputable def S.LogOf_t (places : List Int) : Option (List Int) := S.LogOf_tree places (fun d => some d) none
theorem S.LogOf_den (places : List Int) (κ : V → List E → R) : S.LogOf_F [.ro false (.ints .i64 places)] [] κ = optC (S.LogOf_t places) (fun (r : List Int) => κ (.own 0) [.row (.ints .u8 r)]) none := by
  have hu : S.LogOf_F [.ro false (.ints .i64 places)] [] κ = S.LogOf_tree places (fun d => κ (.own 0) [.row (.ints .u8 d)]) none := by
    refine Eq.trans (show S.LogOf_F [.ro false (.ints .i64 places)] [] κ = (bif decide ((↑places.length : Int) > 40) then (κ (.own 0) [.row (.ints .u8 ([]))]) else (S.LogOf_L5 FUEL { n := 32, t := [(0, (.ro false (.ints .i64 places))), (3, (.own 0)), (4, (.int .i64 0))], h := [.row (.ints .u8 ([]))] } (S.LogOf_k5 κ))) by kernel_rfl) ?_
    refine cnd_congr ?_ ?_
    · kernel_rfl
    · refine (S.LogOf_L5_run places FUEL (0, []) (S.LogOf_k5 κ)).trans (optC_congr (fun qy_3 => ?_))
      rcases qy_3 with qy_3 | qy_3
      · kernel_rfl
      · kernel_rfl
  rw [hu]
  exact (S.LogOf_tree_nat (fun o => optC o (fun (r : List Int) => κ (.own 0) [.row (.ints .u8 r)]) none) places (fun d => some d) none).symm
noncomputable def S.LogOf_s : D.Spec where
  keep := false
  pure := false
  add := true
  ds := [.int .i64]
  sp := fun args h κ => match args, h with
    | [.ro false (.ints .i64 places)], [] => optC (S.LogOf_t places) (fun (r : List Int) => κ (.own 0) [.row (.ints .u8 r)]) none
    | _, _ => none
theorem S.LogOf_ok : SpecOk Try.prog 63 S.LogOf_s := by
  refine SpecOk.of TDok mixed (T := S.LogOf_T) ?_ (ann := S.LogOf_ann) Try.func63 rfl (by decide +kernel) ?_ ?_ ?_ ?_
  · intro p hp
    simp only [S.LogOf_T, List.mem_cons, List.not_mem_nil, or_false] at hp
    rcases hp with rfl | rfl
    · exact S.l1In_ok
    · exact S.l17Record_ok
  · intro args h κ r hh
    simp only [S.LogOf_s] at hh
    split at hh
    · exact (S.LogOf_den _ κ).trans hh
    · cases hh
  · intro args h κ r hh
    simp only [S.LogOf_s] at hh ⊢
    split at hh
    · exact optC_law2 (F := fun (r : List Int) κ => κ (.own 0) [.row (.ints .u8 r)]) (fun b κ r hb => ⟨_, _, hb, fun _ => rfl⟩) hh
    · cases hh
  · intro hh; cases hh
  · intro _ args h κ r hh
    simp only [S.LogOf_s] at hh
    split at hh
    · rfl
    · cases hh

-- loop.example/guardsonnets/spec.l20Log
noncomputable def S.l20Log_T : List (Nat × D.Spec) := [(61, S.l20Rd_pick_s), (83, S.l20Places_s), (63, S.LogOf_s)]
def S.l20Log_ann : Nat → List Nat × List Nat
  | _ => ([], [])
noncomputable def S.l20Log_F (args : List V) (h : List E) (κ : V → List E → R) : R := funC TD (tableK S.l20Log_T) S.l20Log_ann (drawOk TD (tableP S.l20Log_T)) FUEL Try.f60 args h κ
noncomputable def S.l20Log_tree {α : Type} (rb : List Int) (rp : Int) (many : Int) (leaf0_ : (List Int) × Int × (List Int) → α) (fail_ : α) : α :=
  (optC (S.l20Rd_pick_t rb rp 20) (fun c_1 => (optC (S.l20Places_t c_1.snd.fst c_1.snd.snd many (IntKind.i64.wrap (8 + IntKind.i64.wrap (IntKind.i64.wrap (c_1.fst.tdiv 19) * 32)))) (fun c_2 => (optC (S.LogOf_t c_2.snd.snd) (fun c_3 => (bif decide ((↑c_3.length : Int) > 0) then (optC (S.l20Rd_pick_t c_2.fst c_2.snd.fst 3) (fun c_4 => (bif c_4.fst == 0 then (optC (S.l20Rd_pick_t c_4.snd.fst c_4.snd.snd (↑c_3.length : Int)) (fun c_5 => (bif decide (0 ≤ c_5.fst) && decide (c_5.fst < (↑c_3.length : Int)) then (bif decide (c_5.fst.toNat < c_3.length) then (optC (S.l20Rd_pick_t c_5.snd.fst c_5.snd.snd 256) (fun c_6 => (bif decide (0 ≤ c_5.fst) && decide (c_5.fst < (↑c_3.length : Int)) then (bif decide (c_5.fst.toNat < c_3.length) then (bif decide ((↑(c_3.set c_5.fst.toNat (IntKind.u8.wrap (IntKind.i64.wrap (IntKind.i64.wrap (eli c_3 c_5.fst.toNat) + c_6.fst)))).length : Int) > 0) then (optC (S.l20Rd_pick_t c_6.snd.fst c_6.snd.snd 3) (fun c_7 => (bif c_7.fst == 0 then (optC (S.l20Rd_pick_t c_7.snd.fst c_7.snd.snd (↑(c_3.set c_5.fst.toNat (IntKind.u8.wrap (IntKind.i64.wrap (IntKind.i64.wrap (eli c_3 c_5.fst.toNat) + c_6.fst)))).length : Int)) (fun c_8 => (bif decide (0 ≤ c_8.fst) && decide (c_8.fst ≤ (↑(c_3.set c_5.fst.toNat (IntKind.u8.wrap (IntKind.i64.wrap (IntKind.i64.wrap (eli c_3 c_5.fst.toNat) + c_6.fst)))).length : Int)) then (optC (S.l20Rd_pick_t c_8.snd.fst c_8.snd.snd 12) (fun c_9 => (bif c_9.fst == 0 then (optC (S.l20Rd_pick_t c_9.snd.fst c_9.snd.snd 256) (fun c_10 => (bif small (List.take c_8.fst.toNat (List.drop 0 (c_3.set c_5.fst.toNat (IntKind.u8.wrap (IntKind.i64.wrap (IntKind.i64.wrap (eli c_3 c_5.fst.toNat) + c_6.fst))))) ++ [IntKind.u8.wrap c_10.fst]).length then (bif small ([] ++ (List.take c_8.fst.toNat (List.drop 0 (c_3.set c_5.fst.toNat (IntKind.u8.wrap (IntKind.i64.wrap (IntKind.i64.wrap (eli c_3 c_5.fst.toNat) + c_6.fst))))) ++ [IntKind.u8.wrap c_10.fst])).length then (leaf0_ (c_10.snd.fst, c_10.snd.snd, [] ++ (List.take c_8.fst.toNat (List.drop 0 (c_3.set c_5.fst.toNat (IntKind.u8.wrap (IntKind.i64.wrap (IntKind.i64.wrap (eli c_3 c_5.fst.toNat) + c_6.fst))))) ++ [IntKind.u8.wrap c_10.fst]))) else fail_) else fail_)) fail_) else (bif small ([] ++ List.take c_8.fst.toNat (List.drop 0 (c_3.set c_5.fst.toNat (IntKind.u8.wrap (IntKind.i64.wrap (IntKind.i64.wrap (eli c_3 c_5.fst.toNat) + c_6.fst)))))).length then (leaf0_ (c_9.snd.fst, c_9.snd.snd, [] ++ List.take c_8.fst.toNat (List.drop 0 (c_3.set c_5.fst.toNat (IntKind.u8.wrap (IntKind.i64.wrap (IntKind.i64.wrap (eli c_3 c_5.fst.toNat) + c_6.fst))))))) else fail_))) fail_) else fail_)) fail_) else (optC (S.l20Rd_pick_t c_7.snd.fst c_7.snd.snd 12) (fun c_11 => (bif c_11.fst == 0 then (optC (S.l20Rd_pick_t c_11.snd.fst c_11.snd.snd 256) (fun c_12 => (bif small (c_3.set c_5.fst.toNat (IntKind.u8.wrap (IntKind.i64.wrap (IntKind.i64.wrap (eli c_3 c_5.fst.toNat) + c_6.fst))) ++ [IntKind.u8.wrap c_12.fst]).length then (bif small ([] ++ (c_3.set c_5.fst.toNat (IntKind.u8.wrap (IntKind.i64.wrap (IntKind.i64.wrap (eli c_3 c_5.fst.toNat) + c_6.fst))) ++ [IntKind.u8.wrap c_12.fst])).length then (leaf0_ (c_12.snd.fst, c_12.snd.snd, [] ++ (c_3.set c_5.fst.toNat (IntKind.u8.wrap (IntKind.i64.wrap (IntKind.i64.wrap (eli c_3 c_5.fst.toNat) + c_6.fst))) ++ [IntKind.u8.wrap c_12.fst]))) else fail_) else fail_)) fail_) else (bif small ([] ++ c_3.set c_5.fst.toNat (IntKind.u8.wrap (IntKind.i64.wrap (IntKind.i64.wrap (eli c_3 c_5.fst.toNat) + c_6.fst)))).length then (leaf0_ (c_11.snd.fst, c_11.snd.snd, [] ++ c_3.set c_5.fst.toNat (IntKind.u8.wrap (IntKind.i64.wrap (IntKind.i64.wrap (eli c_3 c_5.fst.toNat) + c_6.fst))))) else fail_))) fail_))) fail_) else (optC (S.l20Rd_pick_t c_6.snd.fst c_6.snd.snd 12) (fun c_13 => (bif c_13.fst == 0 then (optC (S.l20Rd_pick_t c_13.snd.fst c_13.snd.snd 256) (fun c_14 => (bif small (c_3.set c_5.fst.toNat (IntKind.u8.wrap (IntKind.i64.wrap (IntKind.i64.wrap (eli c_3 c_5.fst.toNat) + c_6.fst))) ++ [IntKind.u8.wrap c_14.fst]).length then (bif small ([] ++ (c_3.set c_5.fst.toNat (IntKind.u8.wrap (IntKind.i64.wrap (IntKind.i64.wrap (eli c_3 c_5.fst.toNat) + c_6.fst))) ++ [IntKind.u8.wrap c_14.fst])).length then (leaf0_ (c_14.snd.fst, c_14.snd.snd, [] ++ (c_3.set c_5.fst.toNat (IntKind.u8.wrap (IntKind.i64.wrap (IntKind.i64.wrap (eli c_3 c_5.fst.toNat) + c_6.fst))) ++ [IntKind.u8.wrap c_14.fst]))) else fail_) else fail_)) fail_) else (bif small ([] ++ c_3.set c_5.fst.toNat (IntKind.u8.wrap (IntKind.i64.wrap (IntKind.i64.wrap (eli c_3 c_5.fst.toNat) + c_6.fst)))).length then (leaf0_ (c_13.snd.fst, c_13.snd.snd, [] ++ c_3.set c_5.fst.toNat (IntKind.u8.wrap (IntKind.i64.wrap (IntKind.i64.wrap (eli c_3 c_5.fst.toNat) + c_6.fst))))) else fail_))) fail_)) else fail_) else fail_)) fail_) else fail_) else fail_)) fail_) else (bif decide ((↑c_3.length : Int) > 0) then (optC (S.l20Rd_pick_t c_4.snd.fst c_4.snd.snd 3) (fun c_15 => (bif c_15.fst == 0 then (optC (S.l20Rd_pick_t c_15.snd.fst c_15.snd.snd (↑c_3.length : Int)) (fun c_16 => (bif decide (0 ≤ c_16.fst) && decide (c_16.fst ≤ (↑c_3.length : Int)) then (optC (S.l20Rd_pick_t c_16.snd.fst c_16.snd.snd 12) (fun c_17 => (bif c_17.fst == 0 then (optC (S.l20Rd_pick_t c_17.snd.fst c_17.snd.snd 256) (fun c_18 => (bif small (List.take c_16.fst.toNat (List.drop 0 c_3) ++ [IntKind.u8.wrap c_18.fst]).length then (bif small ([] ++ (List.take c_16.fst.toNat (List.drop 0 c_3) ++ [IntKind.u8.wrap c_18.fst])).length then (leaf0_ (c_18.snd.fst, c_18.snd.snd, [] ++ (List.take c_16.fst.toNat (List.drop 0 c_3) ++ [IntKind.u8.wrap c_18.fst]))) else fail_) else fail_)) fail_) else (bif small ([] ++ List.take c_16.fst.toNat (List.drop 0 c_3)).length then (leaf0_ (c_17.snd.fst, c_17.snd.snd, [] ++ List.take c_16.fst.toNat (List.drop 0 c_3))) else fail_))) fail_) else fail_)) fail_) else (optC (S.l20Rd_pick_t c_15.snd.fst c_15.snd.snd 12) (fun c_19 => (bif c_19.fst == 0 then (optC (S.l20Rd_pick_t c_19.snd.fst c_19.snd.snd 256) (fun c_20 => (bif small (c_3 ++ [IntKind.u8.wrap c_20.fst]).length then (bif small ([] ++ (c_3 ++ [IntKind.u8.wrap c_20.fst])).length then (leaf0_ (c_20.snd.fst, c_20.snd.snd, [] ++ (c_3 ++ [IntKind.u8.wrap c_20.fst]))) else fail_) else fail_)) fail_) else (bif small ([] ++ c_3).length then (leaf0_ (c_19.snd.fst, c_19.snd.snd, [] ++ c_3)) else fail_))) fail_))) fail_) else (optC (S.l20Rd_pick_t c_4.snd.fst c_4.snd.snd 12) (fun c_21 => (bif c_21.fst == 0 then (optC (S.l20Rd_pick_t c_21.snd.fst c_21.snd.snd 256) (fun c_22 => (bif small (c_3 ++ [IntKind.u8.wrap c_22.fst]).length then (bif small ([] ++ (c_3 ++ [IntKind.u8.wrap c_22.fst])).length then (leaf0_ (c_22.snd.fst, c_22.snd.snd, [] ++ (c_3 ++ [IntKind.u8.wrap c_22.fst]))) else fail_) else fail_)) fail_) else (bif small ([] ++ c_3).length then (leaf0_ (c_21.snd.fst, c_21.snd.snd, [] ++ c_3)) else fail_))) fail_)))) fail_) else (bif decide ((↑c_3.length : Int) > 0) then (optC (S.l20Rd_pick_t c_2.fst c_2.snd.fst 3) (fun c_23 => (bif c_23.fst == 0 then (optC (S.l20Rd_pick_t c_23.snd.fst c_23.snd.snd (↑c_3.length : Int)) (fun c_24 => (bif decide (0 ≤ c_24.fst) && decide (c_24.fst ≤ (↑c_3.length : Int)) then (optC (S.l20Rd_pick_t c_24.snd.fst c_24.snd.snd 12) (fun c_25 => (bif c_25.fst == 0 then (optC (S.l20Rd_pick_t c_25.snd.fst c_25.snd.snd 256) (fun c_26 => (bif small (List.take c_24.fst.toNat (List.drop 0 c_3) ++ [IntKind.u8.wrap c_26.fst]).length then (bif small ([] ++ (List.take c_24.fst.toNat (List.drop 0 c_3) ++ [IntKind.u8.wrap c_26.fst])).length then (leaf0_ (c_26.snd.fst, c_26.snd.snd, [] ++ (List.take c_24.fst.toNat (List.drop 0 c_3) ++ [IntKind.u8.wrap c_26.fst]))) else fail_) else fail_)) fail_) else (bif small ([] ++ List.take c_24.fst.toNat (List.drop 0 c_3)).length then (leaf0_ (c_25.snd.fst, c_25.snd.snd, [] ++ List.take c_24.fst.toNat (List.drop 0 c_3))) else fail_))) fail_) else fail_)) fail_) else (optC (S.l20Rd_pick_t c_23.snd.fst c_23.snd.snd 12) (fun c_27 => (bif c_27.fst == 0 then (optC (S.l20Rd_pick_t c_27.snd.fst c_27.snd.snd 256) (fun c_28 => (bif small (c_3 ++ [IntKind.u8.wrap c_28.fst]).length then (bif small ([] ++ (c_3 ++ [IntKind.u8.wrap c_28.fst])).length then (leaf0_ (c_28.snd.fst, c_28.snd.snd, [] ++ (c_3 ++ [IntKind.u8.wrap c_28.fst]))) else fail_) else fail_)) fail_) else (bif small ([] ++ c_3).length then (leaf0_ (c_27.snd.fst, c_27.snd.snd, [] ++ c_3)) else fail_))) fail_))) fail_) else (optC (S.l20Rd_pick_t c_2.fst c_2.snd.fst 12) (fun c_29 => (bif c_29.fst == 0 then (optC (S.l20Rd_pick_t c_29.snd.fst c_29.snd.snd 256) (fun c_30 => (bif small (c_3 ++ [IntKind.u8.wrap c_30.fst]).length then (bif small ([] ++ (c_3 ++ [IntKind.u8.wrap c_30.fst])).length then (leaf0_ (c_30.snd.fst, c_30.snd.snd, [] ++ (c_3 ++ [IntKind.u8.wrap c_30.fst]))) else fail_) else fail_)) fail_) else (bif small ([] ++ c_3).length then (leaf0_ (c_29.snd.fst, c_29.snd.snd, [] ++ c_3)) else fail_))) fail_)))) fail_)) fail_)) fail_)
theorem S.l20Log_tree_nat {α γ : Type} (g : α → γ) (rb : List Int) (rp : Int) (many : Int) (leaf0_ : (List Int) × Int × (List Int) → α) (fail_ : α) : g (S.l20Log_tree rb rp many leaf0_ fail_) = S.l20Log_tree rb rp many (fun d => g (leaf0_ d)) (g fail_) := by
  unfold S.l20Log_tree; simp only [apply_cnd g, apply_optC g, apply_sumC g]
noncomputable def S.l20Log_t (rb : List Int) (rp : Int) (many : Int) : Option ((List Int) × Int × (List Int)) := S.l20Log_tree rb rp many (fun d => some d) none
theorem S.l20Log_den (rb : List Int) (rp : Int) (many : Int) (κ : V → List E → R) : S.l20Log_F [.ptr 0 0, .int .i64 many] [.cells [.ro true (.ints .u8 rb), .int .i64 rp]] κ = optC (S.l20Log_t rb rp many) (fun (r : (List Int) × Int × (List Int)) => κ (.own 1) [.cells [(.ro true (.ints .u8 r.1)), (.int .i64 r.2.1)], .row (.ints .u8 r.2.2)]) none := by
  have hu : S.l20Log_F [.ptr 0 0, .int .i64 many] [.cells [.ro true (.ints .u8 rb), .int .i64 rp]] κ = S.l20Log_tree rb rp many (fun d => κ (.own 1) [.cells [(.ro true (.ints .u8 d.1)), (.int .i64 d.2.1)], .row (.ints .u8 d.2.2)]) none := by
    kernel_rfl
  rw [hu]
  exact (S.l20Log_tree_nat (fun o => optC o (fun (r : (List Int) × Int × (List Int)) => κ (.own 1) [.cells [(.ro true (.ints .u8 r.1)), (.int .i64 r.2.1)], .row (.ints .u8 r.2.2)]) none) rb rp many (fun d => some d) none).symm
noncomputable def S.l20Log_s : D.Spec where
  keep := false
  pure := false
  add := false
  ds := [.invalid, .invalid]
  sp := fun args h κ => match args, h with
    | [.ptr 0 0, .int .i64 many], [.cells [.ro true (.ints .u8 rb), .int .i64 rp]] => optC (S.l20Log_t rb rp many) (fun (r : (List Int) × Int × (List Int)) => κ (.own 1) [.cells [(.ro true (.ints .u8 r.1)), (.int .i64 r.2.1)], .row (.ints .u8 r.2.2)]) none
    | _, _ => none
theorem S.l20Log_ok : SpecOk Try.prog 60 S.l20Log_s := by
  refine SpecOk.of TDok mixed (T := S.l20Log_T) ?_ (ann := S.l20Log_ann) Try.func60 rfl (by decide +kernel) ?_ ?_ ?_ ?_
  · intro p hp
    simp only [S.l20Log_T, List.mem_cons, List.not_mem_nil, or_false] at hp
    rcases hp with rfl | rfl | rfl
    · exact S.l20Rd_pick_ok
    · exact S.l20Places_ok
    · exact S.LogOf_ok
  · intro args h κ r hh
    simp only [S.l20Log_s] at hh
    split at hh
    · exact (S.l20Log_den _ _ _ κ).trans hh
    · cases hh
  · intro args h κ r hh
    simp only [S.l20Log_s] at hh ⊢
    split at hh
    · exact optC_law2 (F := fun (r : (List Int) × Int × (List Int)) κ => κ (.own 1) [.cells [(.ro true (.ints .u8 r.1)), (.int .i64 r.2.1)], .row (.ints .u8 r.2.2)]) (fun b κ r hb => ⟨_, _, hb, fun _ => rfl⟩) hh
    · cases hh
  · intro hh; cases hh
  · intro hh; cases hh

-- loop.example/guardsonnets/spec.DrawPostRise
noncomputable def S.DrawPostRise_T : List (Nat × D.Spec) := [(47, S.l20Open_s), (46, S.l20Net_s), (61, S.l20Rd_pick_s), (60, S.l20Log_s)]
def S.DrawPostRise_ann : Nat → List Nat × List Nat
  | _ => ([], [])
noncomputable def S.DrawPostRise_F (args : List V) (h : List E) (κ : V → List E → R) : R := funC TD (tableK S.DrawPostRise_T) S.DrawPostRise_ann (drawOk TD (tableP S.DrawPostRise_T)) FUEL Try.f28 args h κ
noncomputable def S.DrawPostRise_tree {α : Type} (code : List Int) (leaf0_ : (List Int) × (List Int) → α) (fail_ : α) : α :=
  (optC (S.l20Open_t code) (fun c_1 => (optC (S.l20Net_t c_1.fst c_1.snd 9) (fun c_2 => (optC (S.l20Rd_pick_t c_2.fst c_2.snd.fst 9) (fun c_3 => (optC (S.l20Log_t c_3.snd.fst c_3.snd.snd (IntKind.i64.wrap ((↑c_2.snd.snd.length : Int) + IntKind.i64.wrap (c_3.fst.tdiv 8)))) (fun c_4 => (leaf0_ (c_2.snd.snd, c_4.snd.snd))) fail_)) fail_)) fail_)) fail_)
theorem S.DrawPostRise_tree_nat {α γ : Type} (g : α → γ) (code : List Int) (leaf0_ : (List Int) × (List Int) → α) (fail_ : α) : g (S.DrawPostRise_tree code leaf0_ fail_) = S.DrawPostRise_tree code (fun d => g (leaf0_ d)) (g fail_) := by
  unfold S.DrawPostRise_tree; simp only [apply_cnd g, apply_optC g, apply_sumC g]
noncomputable def S.DrawPostRise_t (code : List Int) : Option ((List Int) × (List Int)) := S.DrawPostRise_tree code (fun d => some d) none
theorem S.DrawPostRise_den (code : List Int) (κ : V → List E → R) : S.DrawPostRise_F [.ro true (.ints .u8 code)] [] κ = optC (S.DrawPostRise_t code) (fun (r : (List Int) × (List Int)) => κ (.tup [(.own 0), (.own 1)]) [.row (.ints .i64 r.1), .row (.ints .u8 r.2)]) none := by
  have hu : S.DrawPostRise_F [.ro true (.ints .u8 code)] [] κ = S.DrawPostRise_tree code (fun d => κ (.tup [(.own 0), (.own 1)]) [.row (.ints .i64 d.1), .row (.ints .u8 d.2)]) none := by
    kernel_rfl
  rw [hu]
  exact (S.DrawPostRise_tree_nat (fun o => optC o (fun (r : (List Int) × (List Int)) => κ (.tup [(.own 0), (.own 1)]) [.row (.ints .i64 r.1), .row (.ints .u8 r.2)]) none) code (fun d => some d) none).symm
noncomputable def S.DrawPostRise_s : D.Spec where
  keep := true
  pure := false
  add := true
  ds := [.int .u8]
  sp := fun args h κ => match args, h with
    | [.ro true (.ints .u8 code)], [] => optC (S.DrawPostRise_t code) (fun (r : (List Int) × (List Int)) => κ (.tup [(.own 0), (.own 1)]) [.row (.ints .i64 r.1), .row (.ints .u8 r.2)]) none
    | _, _ => none
theorem S.DrawPostRise_ok : SpecOk Try.prog 28 S.DrawPostRise_s := by
  refine SpecOk.of TDok mixed (T := S.DrawPostRise_T) ?_ (ann := S.DrawPostRise_ann) Try.func28 rfl (by decide +kernel) ?_ ?_ ?_ ?_
  · intro p hp
    simp only [S.DrawPostRise_T, List.mem_cons, List.not_mem_nil, or_false] at hp
    rcases hp with rfl | rfl | rfl | rfl
    · exact S.l20Open_ok
    · exact S.l20Net_ok
    · exact S.l20Rd_pick_ok
    · exact S.l20Log_ok
  · intro args h κ r hh
    simp only [S.DrawPostRise_s] at hh
    split at hh
    · exact (S.DrawPostRise_den _ κ).trans hh
    · cases hh
  · intro args h κ r hh
    simp only [S.DrawPostRise_s] at hh ⊢
    split at hh
    · exact optC_law2 (F := fun (r : (List Int) × (List Int)) κ => κ (.tup [(.own 0), (.own 1)]) [.row (.ints .i64 r.1), .row (.ints .u8 r.2)]) (fun b κ r hb => ⟨_, _, hb, fun _ => rfl⟩) hh
    · cases hh
  · intro hh; cases hh
  · intro _ args h κ r hh
    simp only [S.DrawPostRise_s] at hh
    split at hh
    · rfl
    · cases hh

-- loop.example/guardsonnets/spec.LogPlaces
noncomputable def S.LogPlaces_T : List (Nat × D.Spec) := [(71, S.l1In_s), (73, S.l17Record_s)]
def S.LogPlaces_ann : Nat → List Nat × List Nat
  | 3 => ([0, 4, 5], [2, 3, 4])
  | _ => ([], [])
noncomputable def S.LogPlaces_F (args : List V) (h : List E) (κ : V → List E → R) : R := funC TD (tableK S.LogPlaces_T) S.LogPlaces_ann (drawOk TD (tableP S.LogPlaces_T)) FUEL Try.f45 args h κ
noncomputable def S.LogPlaces_L3 (n : Nat) (σ : St) (k : X → St → R) : R := iterC 0 (fun σ k => denC TD (tableK S.LogPlaces_T) S.LogPlaces_ann (drawOk TD (tableP S.LogPlaces_T)) 0 FUEL ((findLoop 3 (Try.f45.body.getD .skip)).getD .skip) σ k) [0, 4, 5] [2, 3, 4] n σ k
noncomputable def S.LogPlaces_k3 (κ : V → List E → R) : X → St → R := (afterC TD (tableK S.LogPlaces_T) S.LogPlaces_ann (drawOk TD (tableP S.LogPlaces_T)) 0 FUEL 3 (Try.f45.body.getD .skip) (finC TD 0 Try.f45 κ)).getD (fun _ _ => none)
noncomputable def S.LogPlaces_step3 {α : Type} (x0 : List Int) (x5 : Int) (r0 : List Int) (next_ : Int × (List Int) → α) (out0_ : Int × (List Int) → α) (out1_ : List Int → α) (fail_ : α) : α :=
  (bif decide (x5 < 40) then (bif decide ((↑x0.length : Int) ≥ IntKind.i64.wrap (IntKind.i64.wrap (3 * x5) + 3)) then (bif decide (0 ≤ IntKind.i64.wrap (3 * x5)) && decide (IntKind.i64.wrap (3 * x5) < (↑x0.length : Int)) then (optC (S.l1In_t (IntKind.i64.wrap (IntKind.i64.wrap (eli x0 (IntKind.i64.wrap (3 * x5)).toNat) - 1)) 0 5) (fun c_1 => (bif !c_1 then (out0_ (IntKind.i64.wrap (3 * x5), r0)) else (optC (S.l17Record_t (IntKind.i64.wrap (IntKind.i64.wrap (eli x0 (IntKind.i64.wrap (3 * x5)).toNat) - 1)) x5) (fun c_2 => (bif decide (0 ≤ IntKind.i64.wrap (3 * x5)) && decide (IntKind.i64.wrap (3 * x5) ≤ IntKind.i64.wrap (IntKind.i64.wrap (3 * x5) + 3)) && decide (IntKind.i64.wrap (IntKind.i64.wrap (3 * x5) + 3) ≤ (↑x0.length : Int)) then (bif !strEq (bytesOf c_2) (bytesOf (List.take ((IntKind.i64.wrap (IntKind.i64.wrap (3 * x5) + 3)).toNat - (IntKind.i64.wrap (3 * x5)).toNat) (List.drop (IntKind.i64.wrap (3 * x5)).toNat x0))) then (out0_ (IntKind.i64.wrap (3 * x5), r0)) else (bif small (r0 ++ [IntKind.i64.wrap (IntKind.i64.wrap (eli x0 (IntKind.i64.wrap (3 * x5)).toNat) - 1)]).length then (next_ (IntKind.i64.wrap (x5 + 1), r0 ++ [IntKind.i64.wrap (IntKind.i64.wrap (eli x0 (IntKind.i64.wrap (3 * x5)).toNat) - 1)])) else fail_)) else fail_)) fail_))) fail_) else fail_) else (out1_ r0)) else (out1_ r0))
theorem S.LogPlaces_step3_nat {α γ : Type} (g : α → γ) (x0 : List Int) (x5 : Int) (r0 : List Int) (next_ : Int × (List Int) → α) (out0_ : Int × (List Int) → α) (out1_ : List Int → α) (fail_ : α) : g (S.LogPlaces_step3 x0 x5 r0 next_ out0_ out1_ fail_) = S.LogPlaces_step3 x0 x5 r0 (fun s => g (next_ s)) (fun d => g (out0_ d)) (fun d => g (out1_ d)) (g fail_) := by
  unfold S.LogPlaces_step3; simp only [apply_cnd g, apply_optC g, apply_sumC g]
noncomputable def S.LogPlaces_run3 (x0 : List Int) : Nat → Int × (List Int) → Option ((Int × (List Int)) ⊕ (List Int))
  | 0, _ => none
  | n + 1, s_ => S.LogPlaces_step3 x0 s_.1 s_.2 (S.LogPlaces_run3 x0 n) (fun d => some ((Sum.inl d))) (fun d => some ((Sum.inr d))) none
theorem S.LogPlaces_L3_run (x0 : List Int) (n : Nat) (s_ : Int × (List Int)) (k : X → St → R) : S.LogPlaces_L3 n { n := 56, t := [(0, (.ro false (.ints .u8 x0))), (4, (.own 0)), (5, (.int .i64 s_.1))], h := [.row (.ints .i64 s_.2)] } k = optC (S.LogPlaces_run3 x0 n s_) (fun (r : (Int × (List Int)) ⊕ (List Int)) => (sumC r (fun (r : Int × (List Int)) => k (.ret) { n := 56, t := [(2, (.own 0)), (3, (.int .i64 r.1)), (4, (.own 0))], h := [.row (.ints .i64 r.2)] }) (fun (r : List Int) => k (.exit 0) { n := 56, t := [(2, .junk), (3, .junk), (4, (.own 0))], h := [.row (.ints .i64 r)] }))) none := by
  induction n generalizing s_ with
  | zero => rfl
  | succ n ih =>
    have hu : S.LogPlaces_L3 (n + 1) { n := 56, t := [(0, (.ro false (.ints .u8 x0))), (4, (.own 0)), (5, (.int .i64 s_.1))], h := [.row (.ints .i64 s_.2)] } k = S.LogPlaces_step3 x0 s_.1 s_.2 (fun s_ => S.LogPlaces_L3 n { n := 56, t := [(0, (.ro false (.ints .u8 x0))), (4, (.own 0)), (5, (.int .i64 s_.1))], h := [.row (.ints .i64 s_.2)] } k) (fun d => k (.ret) { n := 56, t := [(2, (.own 0)), (3, (.int .i64 d.1)), (4, (.own 0))], h := [.row (.ints .i64 d.2)] }) (fun d => k (.exit 0) { n := 56, t := [(2, .junk), (3, .junk), (4, (.own 0))], h := [.row (.ints .i64 d)] }) none := by
      kernel_rfl
    have hs : (fun s_ : Int × (List Int) => S.LogPlaces_L3 n { n := 56, t := [(0, (.ro false (.ints .u8 x0))), (4, (.own 0)), (5, (.int .i64 s_.1))], h := [.row (.ints .i64 s_.2)] } k) = fun s_ => optC (S.LogPlaces_run3 x0 n s_) (fun (r : (Int × (List Int)) ⊕ (List Int)) => (sumC r (fun (r : Int × (List Int)) => k (.ret) { n := 56, t := [(2, (.own 0)), (3, (.int .i64 r.1)), (4, (.own 0))], h := [.row (.ints .i64 r.2)] }) (fun (r : List Int) => k (.exit 0) { n := 56, t := [(2, .junk), (3, .junk), (4, (.own 0))], h := [.row (.ints .i64 r)] }))) none := funext ih
    rw [hu, hs]
    exact (S.LogPlaces_step3_nat (fun o => optC o (fun (r : (Int × (List Int)) ⊕ (List Int)) => (sumC r (fun (r : Int × (List Int)) => k (.ret) { n := 56, t := [(2, (.own 0)), (3, (.int .i64 r.1)), (4, (.own 0))], h := [.row (.ints .i64 r.2)] }) (fun (r : List Int) => k (.exit 0) { n := 56, t := [(2, .junk), (3, .junk), (4, (.own 0))], h := [.row (.ints .i64 r)] }))) none) x0 s_.1 s_.2 (S.LogPlaces_run3 x0 n) (fun d => some ((Sum.inl d))) (fun d => some ((Sum.inr d))) none).symm
noncomputable def S.LogPlaces_tree {α : Type} (log : List Int) (leaf0_ : Int × (List Int) → α) (fail_ : α) : α :=
  (optC (S.LogPlaces_run3 log FUEL (0, [])) (fun qy_3 => (sumC qy_3 (fun (qy_3 : Int × (List Int)) => (leaf0_ (qy_3.1, qy_3.2))) (fun (qy_3 : List Int) => (leaf0_ (IntKind.i64.wrap (3 * (↑qy_3.length : Int)), qy_3))))) fail_)
theorem S.LogPlaces_tree_nat {α γ : Type} (g : α → γ) (log : List Int) (leaf0_ : Int × (List Int) → α) (fail_ : α) : g (S.LogPlaces_tree log leaf0_ fail_) = S.LogPlaces_tree log (fun d => g (leaf0_ d)) (g fail_) := by
  unfold S.LogPlaces_tree; simp only [apply_cnd g, apply_optC g, apply_sumC g]
noncomputable def S.LogPlaces_t (log : List Int) : Option (Int × (List Int)) := S.LogPlaces_tree log (fun d => some d) none
theorem S.LogPlaces_den (log : List Int) (κ : V → List E → R) : S.LogPlaces_F [.ro false (.ints .u8 log)] [] κ = optC (S.LogPlaces_t log) (fun (r : Int × (List Int)) => κ (.tup [(.own 0), (.int .i64 r.1)]) [.row (.ints .i64 r.2)]) none := by
  have hu : S.LogPlaces_F [.ro false (.ints .u8 log)] [] κ = S.LogPlaces_tree log (fun d => κ (.tup [(.own 0), (.int .i64 d.1)]) [.row (.ints .i64 d.2)]) none := by
    refine Eq.trans (show S.LogPlaces_F [.ro false (.ints .u8 log)] [] κ = (S.LogPlaces_L3 FUEL { n := 56, t := [(0, (.ro false (.ints .u8 log))), (4, (.own 0)), (5, (.int .i64 0))], h := [.row (.ints .i64 ([]))] } (S.LogPlaces_k3 κ)) by kernel_rfl) ?_
    refine (S.LogPlaces_L3_run log FUEL (0, []) (S.LogPlaces_k3 κ)).trans (optC_congr (fun qy_3 => ?_))
    rcases qy_3 with qy_3 | qy_3
    · kernel_rfl
    · kernel_rfl
  rw [hu]
  exact (S.LogPlaces_tree_nat (fun o => optC o (fun (r : Int × (List Int)) => κ (.tup [(.own 0), (.int .i64 r.1)]) [.row (.ints .i64 r.2)]) none) log (fun d => some d) none).symm
noncomputable def S.LogPlaces_s : D.Spec where
  keep := false
  pure := false
  add := true
  ds := [.int .u8]
  sp := fun args h κ => match args, h with
    | [.ro false (.ints .u8 log)], [] => optC (S.LogPlaces_t log) (fun (r : Int × (List Int)) => κ (.tup [(.own 0), (.int .i64 r.1)]) [.row (.ints .i64 r.2)]) none
    | _, _ => none
theorem S.LogPlaces_ok : SpecOk Try.prog 45 S.LogPlaces_s := by
  refine SpecOk.of TDok mixed (T := S.LogPlaces_T) ?_ (ann := S.LogPlaces_ann) Try.func45 rfl (by decide +kernel) ?_ ?_ ?_ ?_
  · intro p hp
    simp only [S.LogPlaces_T, List.mem_cons, List.not_mem_nil, or_false] at hp
    rcases hp with rfl | rfl
    · exact S.l1In_ok
    · exact S.l17Record_ok
  · intro args h κ r hh
    simp only [S.LogPlaces_s] at hh
    split at hh
    · exact (S.LogPlaces_den _ κ).trans hh
    · cases hh
  · intro args h κ r hh
    simp only [S.LogPlaces_s] at hh ⊢
    split at hh
    · exact optC_law2 (F := fun (r : Int × (List Int)) κ => κ (.tup [(.own 0), (.int .i64 r.1)]) [.row (.ints .i64 r.2)]) (fun b κ r hb => ⟨_, _, hb, fun _ => rfl⟩) hh
    · cases hh
  · intro hh; cases hh
  · intro _ args h κ r hh
    simp only [S.LogPlaces_s] at hh
    split at hh
    · rfl
    · cases hh

-- loop.example/guardsonnets/spec.l1SetOk
noncomputable def S.l1SetOk_T : List (Nat × D.Spec) := [(48, S.NetOk_s), (71, S.l1In_s)]
def S.l1SetOk_ann : Nat → List Nat × List Nat
  | _ => ([], [])
noncomputable def S.l1SetOk_F (args : List V) (h : List E) (κ : V → List E → R) : R := funC TD (tableK S.l1SetOk_T) S.l1SetOk_ann (drawOk TD (tableP S.l1SetOk_T)) FUEL Try.f100 args h κ
noncomputable def S.l1SetOk_tree {α : Type} (net : List Int) (set_ : Int) (leaf0_ : Bool → α) (fail_ : α) : α :=
  (optC (S.NetOk_t net) (fun c_1 => (bif c_1 then (optC (S.l1In_t set_ 0 (IntKind.i64.wrap (IntKind.i64.wrap (1 * 2 ^ min (↑net.length : Int).toNat IntKind.i64.bits) - 1))) (fun c_2 => (leaf0_ c_2)) fail_) else (leaf0_ false))) fail_)
theorem S.l1SetOk_tree_nat {α γ : Type} (g : α → γ) (net : List Int) (set_ : Int) (leaf0_ : Bool → α) (fail_ : α) : g (S.l1SetOk_tree net set_ leaf0_ fail_) = S.l1SetOk_tree net set_ (fun d => g (leaf0_ d)) (g fail_) := by
  unfold S.l1SetOk_tree; simp only [apply_cnd g, apply_optC g, apply_sumC g]
noncomputable def S.l1SetOk_t (net : List Int) (set_ : Int) : Option (Bool) := S.l1SetOk_tree net set_ (fun d => some d) none
theorem S.l1SetOk_den (net : List Int) (set_ : Int) (κ : V → List E → R) : S.l1SetOk_F [.ro false (.ints .i64 net), .int .i64 set_] [] κ = optC (S.l1SetOk_t net set_) (fun (r : Bool) => κ (.bool r) []) none := by
  have hu : S.l1SetOk_F [.ro false (.ints .i64 net), .int .i64 set_] [] κ = S.l1SetOk_tree net set_ (fun d => κ (.bool d) []) none := by
    kernel_rfl
  rw [hu]
  exact (S.l1SetOk_tree_nat (fun o => optC o (fun (r : Bool) => κ (.bool r) []) none) net set_ (fun d => some d) none).symm
noncomputable def S.l1SetOk_s : D.Spec where
  keep := false
  pure := true
  add := true
  ds := [.int .i64, .invalid]
  sp := fun args h κ => match args, h with
    | [.ro false (.ints .i64 net), .int .i64 set_], [] => optC (S.l1SetOk_t net set_) (fun (r : Bool) => κ (.bool r) []) none
    | _, _ => none
theorem S.l1SetOk_ok : SpecOk Try.prog 100 S.l1SetOk_s := by
  refine SpecOk.of TDok mixed (T := S.l1SetOk_T) ?_ (ann := S.l1SetOk_ann) Try.func100 rfl (by decide +kernel) ?_ ?_ ?_ ?_
  · intro p hp
    simp only [S.l1SetOk_T, List.mem_cons, List.not_mem_nil, or_false] at hp
    rcases hp with rfl | rfl
    · exact S.NetOk_ok
    · exact S.l1In_ok
  · intro args h κ r hh
    simp only [S.l1SetOk_s] at hh
    split at hh
    · exact (S.l1SetOk_den _ _ κ).trans hh
    · cases hh
  · intro args h κ r hh
    simp only [S.l1SetOk_s] at hh ⊢
    split at hh
    · exact optC_law2 (F := fun (r : Bool) κ => κ (.bool r) []) (fun b κ r hb => ⟨_, _, hb, fun _ => rfl⟩) hh
    · cases hh
  · intro _ args h κ r hh
    simp only [S.l1SetOk_s] at hh
    split at hh
    · exact ⟨rfl, fun _ => rfl⟩
    · cases hh
  · intro _ args h κ r hh
    simp only [S.l1SetOk_s] at hh
    split at hh
    · rfl
    · cases hh

-- loop.example/guardsonnets/spec.EternalOk
noncomputable def S.EternalOk_T : List (Nat × D.Spec) := [(100, S.l1SetOk_s), (90, S.l9Lasts_s)]
def S.EternalOk_ann : Nat → List Nat × List Nat
  | _ => ([], [])
noncomputable def S.EternalOk_F (args : List V) (h : List E) (κ : V → List E → R) : R := funC TD (tableK S.EternalOk_T) S.EternalOk_ann (drawOk TD (tableP S.EternalOk_T)) FUEL Try.f91 args h κ
noncomputable def S.EternalOk_tree {α : Type} (net : List Int) (set_ : Int) (leaf0_ : Bool → α) (fail_ : α) : α :=
  (optC (S.l1SetOk_t net set_) (fun c_1 => (bif c_1 then (optC (S.l9Lasts_t net) (fun c_2 => (bif decide (0 ≤ set_) && decide (set_ < (↑c_2.length : Int)) then (bif decide (set_.toNat < c_2.length) then (leaf0_ (elb c_2 set_.toNat)) else fail_) else fail_)) fail_) else (leaf0_ false))) fail_)
theorem S.EternalOk_tree_nat {α γ : Type} (g : α → γ) (net : List Int) (set_ : Int) (leaf0_ : Bool → α) (fail_ : α) : g (S.EternalOk_tree net set_ leaf0_ fail_) = S.EternalOk_tree net set_ (fun d => g (leaf0_ d)) (g fail_) := by
  unfold S.EternalOk_tree; simp only [apply_cnd g, apply_optC g, apply_sumC g]
noncomputable def S.EternalOk_t (net : List Int) (set_ : Int) : Option (Bool) := S.EternalOk_tree net set_ (fun d => some d) none
theorem S.EternalOk_den (net : List Int) (set_ : Int) (κ : V → List E → R) : S.EternalOk_F [.ro false (.ints .i64 net), .int .i64 set_] [] κ = optC (S.EternalOk_t net set_) (fun (r : Bool) => κ (.bool r) []) none := by
  have hu : S.EternalOk_F [.ro false (.ints .i64 net), .int .i64 set_] [] κ = S.EternalOk_tree net set_ (fun d => κ (.bool d) []) none := by
    kernel_rfl
  rw [hu]
  exact (S.EternalOk_tree_nat (fun o => optC o (fun (r : Bool) => κ (.bool r) []) none) net set_ (fun d => some d) none).symm
noncomputable def S.EternalOk_s : D.Spec where
  keep := false
  pure := true
  add := true
  ds := [.int .i64, .invalid]
  sp := fun args h κ => match args, h with
    | [.ro false (.ints .i64 net), .int .i64 set_], [] => optC (S.EternalOk_t net set_) (fun (r : Bool) => κ (.bool r) []) none
    | _, _ => none
theorem S.EternalOk_ok : SpecOk Try.prog 91 S.EternalOk_s := by
  refine SpecOk.of TDok mixed (T := S.EternalOk_T) ?_ (ann := S.EternalOk_ann) Try.func91 rfl (by decide +kernel) ?_ ?_ ?_ ?_
  · intro p hp
    simp only [S.EternalOk_T, List.mem_cons, List.not_mem_nil, or_false] at hp
    rcases hp with rfl | rfl
    · exact S.l1SetOk_ok
    · exact S.l9Lasts_ok
  · intro args h κ r hh
    simp only [S.EternalOk_s] at hh
    split at hh
    · exact (S.EternalOk_den _ _ κ).trans hh
    · cases hh
  · intro args h κ r hh
    simp only [S.EternalOk_s] at hh ⊢
    split at hh
    · exact optC_law2 (F := fun (r : Bool) κ => κ (.bool r) []) (fun b κ r hb => ⟨_, _, hb, fun _ => rfl⟩) hh
    · cases hh
  · intro _ args h κ r hh
    simp only [S.EternalOk_s] at hh
    split at hh
    · exact ⟨rfl, fun _ => rfl⟩
    · cases hh
  · intro _ args h κ r hh
    simp only [S.EternalOk_s] at hh
    split at hh
    · rfl
    · cases hh

-- loop.example/guardsonnets/spec.AnsweredAll
noncomputable def S.AnsweredAll_T : List (Nat × D.Spec) := [(91, S.EternalOk_s), (90, S.l9Lasts_s), (71, S.l1In_s), (93, S.l9Answer_s), (92, S.l8Moved_s)]
def S.AnsweredAll_ann : Nat → List Nat × List Nat
  | 6 => ([0, 1, 2, 7, 8, 9], [6, 8])
  | _ => ([], [])
noncomputable def S.AnsweredAll_F (args : List V) (h : List E) (κ : V → List E → R) : R := funC TD (tableK S.AnsweredAll_T) S.AnsweredAll_ann (drawOk TD (tableP S.AnsweredAll_T)) FUEL Try.f84 args h κ
noncomputable def S.AnsweredAll_L6 (n : Nat) (σ : St) (k : X → St → R) : R := iterC 0 (fun σ k => denC TD (tableK S.AnsweredAll_T) S.AnsweredAll_ann (drawOk TD (tableP S.AnsweredAll_T)) 0 FUEL ((findLoop 6 (Try.f84.body.getD .skip)).getD .skip) σ k) [0, 1, 2, 7, 8, 9] [6, 8] n σ k
noncomputable def S.AnsweredAll_k6 (κ : V → List E → R) : X → St → R := (afterC TD (tableK S.AnsweredAll_T) S.AnsweredAll_ann (drawOk TD (tableP S.AnsweredAll_T)) 0 FUEL 6 (Try.f84.body.getD .skip) (finC TD 0 Try.f84 κ)).getD (fun _ _ => none)
noncomputable def S.AnsweredAll_step6 {α : Type} (x0 : List Int) (x2 : List Int) (x1 : Int) (x9 : Int) (r0 : List Bool) (r1 : List Int) (next_ : Int × Int × (List Bool) × (List Int) → α) (out0_ : (List Int) × (List Int) → α) (out1_ : List Int → α) (fail_ : α) : α :=
  (bif decide (x9 < (↑x2.length : Int)) then (bif decide (0 ≤ x9) && decide (x9 < (↑x2.length : Int)) then (optC (S.l1In_t (eli x2 x9.toNat) 0 (IntKind.i64.wrap ((↑x0.length : Int) - 1))) (fun c_3 => (bif !c_3 then (out0_ ([], r1)) else (bif decide (0 ≤ x9) && decide (x9 < (↑x2.length : Int)) then (bif decide (eli x2 x9.toNat < 0) then fail_ else (bif (x1.fdiv (2 ^ min (eli x2 x9.toNat).toNat IntKind.i64.bits)).tmod 2 == 0 then (bif decide (0 ≤ x9) && decide (x9 < (↑x2.length : Int)) then (optC (S.l9Answer_t x0 r0 x1 (eli x2 x9.toNat)) (fun c_4 => (bif decide (0 ≤ x9) && decide (x9 < (↑x2.length : Int)) then (optC (S.l8Moved_t x1 c_4 (eli x2 x9.toNat)) (fun c_5 => (bif small (r1 ++ [c_5]).length then (next_ (c_5, IntKind.i64.wrap (x9 + 1), r0, r1 ++ [c_5])) else fail_)) fail_) else fail_)) fail_) else fail_) else (bif small (r1 ++ [x1]).length then (next_ (x1, IntKind.i64.wrap (x9 + 1), r0, r1 ++ [x1])) else fail_))) else fail_))) fail_) else fail_) else (out1_ r1))
theorem S.AnsweredAll_step6_nat {α γ : Type} (g : α → γ) (x0 : List Int) (x2 : List Int) (x1 : Int) (x9 : Int) (r0 : List Bool) (r1 : List Int) (next_ : Int × Int × (List Bool) × (List Int) → α) (out0_ : (List Int) × (List Int) → α) (out1_ : List Int → α) (fail_ : α) : g (S.AnsweredAll_step6 x0 x2 x1 x9 r0 r1 next_ out0_ out1_ fail_) = S.AnsweredAll_step6 x0 x2 x1 x9 r0 r1 (fun s => g (next_ s)) (fun d => g (out0_ d)) (fun d => g (out1_ d)) (g fail_) := by
  unfold S.AnsweredAll_step6; simp only [apply_cnd g, apply_optC g, apply_sumC g]
noncomputable def S.AnsweredAll_run6 (x0 : List Int) (x2 : List Int) : Nat → Int × Int × (List Bool) × (List Int) → Option (((List Int) × (List Int)) ⊕ (List Int))
  | 0, _ => none
  | n + 1, s_ => S.AnsweredAll_step6 x0 x2 s_.1 s_.2.1 s_.2.2.1 s_.2.2.2 (S.AnsweredAll_run6 x0 x2 n) (fun d => some ((Sum.inl d))) (fun d => some ((Sum.inr d))) none
theorem S.AnsweredAll_L6_run (x0 : List Int) (x2 : List Int) (n : Nat) (s_ : Int × Int × (List Bool) × (List Int)) (k : X → St → R) : S.AnsweredAll_L6 n { n := 62, t := [(0, (.ro false (.ints .i64 x0))), (1, (.int .i64 s_.1)), (2, (.ro false (.ints .i64 x2))), (7, (.own 0)), (8, (.own 1)), (9, (.int .i64 s_.2.1))], h := [.row (.bools s_.2.2.1), .row (.ints .i64 s_.2.2.2)] } k = optC (S.AnsweredAll_run6 x0 x2 n s_) (fun (r : ((List Int) × (List Int)) ⊕ (List Int)) => (sumC r (fun (r : (List Int) × (List Int)) => k (.ret) { n := 62, t := [(6, (.own 0)), (8, (.own 1))], h := [.row (.ints .i64 r.1), .row (.ints .i64 r.2)] }) (fun (r : List Int) => k (.exit 0) { n := 62, t := [(6, .junk), (8, (.own 0))], h := [.row (.ints .i64 r)] }))) none := by
  induction n generalizing s_ with
  | zero => rfl
  | succ n ih =>
    have hu : S.AnsweredAll_L6 (n + 1) { n := 62, t := [(0, (.ro false (.ints .i64 x0))), (1, (.int .i64 s_.1)), (2, (.ro false (.ints .i64 x2))), (7, (.own 0)), (8, (.own 1)), (9, (.int .i64 s_.2.1))], h := [.row (.bools s_.2.2.1), .row (.ints .i64 s_.2.2.2)] } k = S.AnsweredAll_step6 x0 x2 s_.1 s_.2.1 s_.2.2.1 s_.2.2.2 (fun s_ => S.AnsweredAll_L6 n { n := 62, t := [(0, (.ro false (.ints .i64 x0))), (1, (.int .i64 s_.1)), (2, (.ro false (.ints .i64 x2))), (7, (.own 0)), (8, (.own 1)), (9, (.int .i64 s_.2.1))], h := [.row (.bools s_.2.2.1), .row (.ints .i64 s_.2.2.2)] } k) (fun d => k (.ret) { n := 62, t := [(6, (.own 0)), (8, (.own 1))], h := [.row (.ints .i64 d.1), .row (.ints .i64 d.2)] }) (fun d => k (.exit 0) { n := 62, t := [(6, .junk), (8, (.own 0))], h := [.row (.ints .i64 d)] }) none := by
      kernel_rfl
    have hs : (fun s_ : Int × Int × (List Bool) × (List Int) => S.AnsweredAll_L6 n { n := 62, t := [(0, (.ro false (.ints .i64 x0))), (1, (.int .i64 s_.1)), (2, (.ro false (.ints .i64 x2))), (7, (.own 0)), (8, (.own 1)), (9, (.int .i64 s_.2.1))], h := [.row (.bools s_.2.2.1), .row (.ints .i64 s_.2.2.2)] } k) = fun s_ => optC (S.AnsweredAll_run6 x0 x2 n s_) (fun (r : ((List Int) × (List Int)) ⊕ (List Int)) => (sumC r (fun (r : (List Int) × (List Int)) => k (.ret) { n := 62, t := [(6, (.own 0)), (8, (.own 1))], h := [.row (.ints .i64 r.1), .row (.ints .i64 r.2)] }) (fun (r : List Int) => k (.exit 0) { n := 62, t := [(6, .junk), (8, (.own 0))], h := [.row (.ints .i64 r)] }))) none := funext ih
    rw [hu, hs]
    exact (S.AnsweredAll_step6_nat (fun o => optC o (fun (r : ((List Int) × (List Int)) ⊕ (List Int)) => (sumC r (fun (r : (List Int) × (List Int)) => k (.ret) { n := 62, t := [(6, (.own 0)), (8, (.own 1))], h := [.row (.ints .i64 r.1), .row (.ints .i64 r.2)] }) (fun (r : List Int) => k (.exit 0) { n := 62, t := [(6, .junk), (8, (.own 0))], h := [.row (.ints .i64 r)] }))) none) x0 x2 s_.1 s_.2.1 s_.2.2.1 s_.2.2.2 (S.AnsweredAll_run6 x0 x2 n) (fun d => some ((Sum.inl d))) (fun d => some ((Sum.inr d))) none).symm
noncomputable def S.AnsweredAll_tree {α : Type} (net : List Int) (set_ : Int) (places : List Int) (leaf0_ : List Int → α) (fail_ : α) : α :=
  (optC (S.EternalOk_t net set_) (fun c_1 => (bif !c_1 then (leaf0_ ([])) else (optC (S.l9Lasts_t net) (fun c_2 => (optC (S.AnsweredAll_run6 net places FUEL (set_, 0, c_2, [set_])) (fun qy_6 => (sumC qy_6 (fun (qy_6 : (List Int) × (List Int)) => (leaf0_ qy_6.1)) (fun (qy_6 : List Int) => (leaf0_ qy_6)))) fail_)) fail_))) fail_)
theorem S.AnsweredAll_tree_nat {α γ : Type} (g : α → γ) (net : List Int) (set_ : Int) (places : List Int) (leaf0_ : List Int → α) (fail_ : α) : g (S.AnsweredAll_tree net set_ places leaf0_ fail_) = S.AnsweredAll_tree net set_ places (fun d => g (leaf0_ d)) (g fail_) := by
  unfold S.AnsweredAll_tree; simp only [apply_cnd g, apply_optC g, apply_sumC g]
noncomputable def S.AnsweredAll_t (net : List Int) (set_ : Int) (places : List Int) : Option (List Int) := S.AnsweredAll_tree net set_ places (fun d => some d) none
theorem S.AnsweredAll_den (net : List Int) (set_ : Int) (places : List Int) (κ : V → List E → R) : S.AnsweredAll_F [.ro false (.ints .i64 net), .int .i64 set_, .ro false (.ints .i64 places)] [] κ = optC (S.AnsweredAll_t net set_ places) (fun (r : List Int) => κ (.own 0) [.row (.ints .i64 r)]) none := by
  have hu : S.AnsweredAll_F [.ro false (.ints .i64 net), .int .i64 set_, .ro false (.ints .i64 places)] [] κ = S.AnsweredAll_tree net set_ places (fun d => κ (.own 0) [.row (.ints .i64 d)]) none := by
    refine Eq.trans (show S.AnsweredAll_F [.ro false (.ints .i64 net), .int .i64 set_, .ro false (.ints .i64 places)] [] κ = (optC (S.EternalOk_t net set_) (fun c_1 => (bif !c_1 then (κ (.own 0) [.row (.ints .i64 ([]))]) else (optC (S.l9Lasts_t net) (fun c_2 => (S.AnsweredAll_L6 FUEL { n := 62, t := [(0, (.ro false (.ints .i64 net))), (1, (.int .i64 set_)), (2, (.ro false (.ints .i64 places))), (7, (.own 0)), (8, (.own 1)), (9, (.int .i64 0))], h := [.row (.bools c_2), .row (.ints .i64 ([set_]))] } (S.AnsweredAll_k6 κ))) none))) none) by kernel_rfl) ?_
    refine optC_congr (fun c_1 => ?_)
    refine cnd_congr ?_ ?_
    · kernel_rfl
    · refine optC_congr (fun c_2 => ?_)
      refine (S.AnsweredAll_L6_run net places FUEL (set_, 0, c_2, [set_]) (S.AnsweredAll_k6 κ)).trans (optC_congr (fun qy_6 => ?_))
      rcases qy_6 with qy_6 | qy_6
      · kernel_rfl
      · kernel_rfl
  rw [hu]
  exact (S.AnsweredAll_tree_nat (fun o => optC o (fun (r : List Int) => κ (.own 0) [.row (.ints .i64 r)]) none) net set_ places (fun d => some d) none).symm
noncomputable def S.AnsweredAll_s : D.Spec where
  keep := false
  pure := false
  add := true
  ds := [.int .i64, .invalid, .int .i64]
  sp := fun args h κ => match args, h with
    | [.ro false (.ints .i64 net), .int .i64 set_, .ro false (.ints .i64 places)], [] => optC (S.AnsweredAll_t net set_ places) (fun (r : List Int) => κ (.own 0) [.row (.ints .i64 r)]) none
    | _, _ => none
theorem S.AnsweredAll_ok : SpecOk Try.prog 84 S.AnsweredAll_s := by
  refine SpecOk.of TDok mixed (T := S.AnsweredAll_T) ?_ (ann := S.AnsweredAll_ann) Try.func84 rfl (by decide +kernel) ?_ ?_ ?_ ?_
  · intro p hp
    simp only [S.AnsweredAll_T, List.mem_cons, List.not_mem_nil, or_false] at hp
    rcases hp with rfl | rfl | rfl | rfl | rfl
    · exact S.EternalOk_ok
    · exact S.l9Lasts_ok
    · exact S.l1In_ok
    · exact S.l9Answer_ok
    · exact S.l8Moved_ok
  · intro args h κ r hh
    simp only [S.AnsweredAll_s] at hh
    split at hh
    · exact (S.AnsweredAll_den _ _ _ κ).trans hh
    · cases hh
  · intro args h κ r hh
    simp only [S.AnsweredAll_s] at hh ⊢
    split at hh
    · exact optC_law2 (F := fun (r : List Int) κ => κ (.own 0) [.row (.ints .i64 r)]) (fun b κ r hb => ⟨_, _, hb, fun _ => rfl⟩) hh
    · cases hh
  · intro hh; cases hh
  · intro _ args h κ r hh
    simp only [S.AnsweredAll_s] at hh
    split at hh
    · rfl
    · cases hh

-- loop.example/guardsonnets/spec.l17Last
noncomputable def S.l17Last_T : List (Nat × D.Spec) := [(49, S.FirstPost_s), (84, S.AnsweredAll_s)]
def S.l17Last_ann : Nat → List Nat × List Nat
  | _ => ([], [])
noncomputable def S.l17Last_F (args : List V) (h : List E) (κ : V → List E → R) : R := funC TD (tableK S.l17Last_T) S.l17Last_ann (drawOk TD (tableP S.l17Last_T)) FUEL Try.f62 args h κ
noncomputable def S.l17Last_tree {α : Type} (net : List Int) (places : List Int) (leaf0_ : Int → α) (fail_ : α) : α :=
  (optC (S.FirstPost_t net) (fun c_1 => (optC (S.AnsweredAll_t net c_1 places) (fun c_2 => (bif (↑c_2.length : Int) == 0 then (leaf0_ (-1)) else (bif decide (0 ≤ IntKind.i64.wrap ((↑c_2.length : Int) - 1)) && decide (IntKind.i64.wrap ((↑c_2.length : Int) - 1) < (↑c_2.length : Int)) then (bif decide ((IntKind.i64.wrap ((↑c_2.length : Int) - 1)).toNat < c_2.length) then (leaf0_ (eli c_2 (IntKind.i64.wrap ((↑c_2.length : Int) - 1)).toNat)) else fail_) else fail_))) fail_)) fail_)
theorem S.l17Last_tree_nat {α γ : Type} (g : α → γ) (net : List Int) (places : List Int) (leaf0_ : Int → α) (fail_ : α) : g (S.l17Last_tree net places leaf0_ fail_) = S.l17Last_tree net places (fun d => g (leaf0_ d)) (g fail_) := by
  unfold S.l17Last_tree; simp only [apply_cnd g, apply_optC g, apply_sumC g]
noncomputable def S.l17Last_t (net : List Int) (places : List Int) : Option (Int) := S.l17Last_tree net places (fun d => some d) none
theorem S.l17Last_den (net : List Int) (places : List Int) (κ : V → List E → R) : S.l17Last_F [.ro false (.ints .i64 net), .ro false (.ints .i64 places)] [] κ = optC (S.l17Last_t net places) (fun (r : Int) => κ (.int .i64 r) []) none := by
  have hu : S.l17Last_F [.ro false (.ints .i64 net), .ro false (.ints .i64 places)] [] κ = S.l17Last_tree net places (fun d => κ (.int .i64 d) []) none := by
    kernel_rfl
  rw [hu]
  exact (S.l17Last_tree_nat (fun o => optC o (fun (r : Int) => κ (.int .i64 r) []) none) net places (fun d => some d) none).symm
noncomputable def S.l17Last_s : D.Spec where
  keep := false
  pure := true
  add := true
  ds := [.int .i64, .int .i64]
  sp := fun args h κ => match args, h with
    | [.ro false (.ints .i64 net), .ro false (.ints .i64 places)], [] => optC (S.l17Last_t net places) (fun (r : Int) => κ (.int .i64 r) []) none
    | _, _ => none
theorem S.l17Last_ok : SpecOk Try.prog 62 S.l17Last_s := by
  refine SpecOk.of TDok mixed (T := S.l17Last_T) ?_ (ann := S.l17Last_ann) Try.func62 rfl (by decide +kernel) ?_ ?_ ?_ ?_
  · intro p hp
    simp only [S.l17Last_T, List.mem_cons, List.not_mem_nil, or_false] at hp
    rcases hp with rfl | rfl
    · exact S.FirstPost_ok
    · exact S.AnsweredAll_ok
  · intro args h κ r hh
    simp only [S.l17Last_s] at hh
    split at hh
    · exact (S.l17Last_den _ _ κ).trans hh
    · cases hh
  · intro args h κ r hh
    simp only [S.l17Last_s] at hh ⊢
    split at hh
    · exact optC_law2 (F := fun (r : Int) κ => κ (.int .i64 r) []) (fun b κ r hb => ⟨_, _, hb, fun _ => rfl⟩) hh
    · cases hh
  · intro _ args h κ r hh
    simp only [S.l17Last_s] at hh
    split at hh
    · exact ⟨rfl, fun _ => rfl⟩
    · cases hh
  · intro _ args h κ r hh
    simp only [S.l17Last_s] at hh
    split at hh
    · rfl
    · cases hh

-- loop.example/guardsonnets/spec.PostRise
noncomputable def S.PostRise_T : List (Nat × D.Spec) := [(48, S.NetOk_s), (45, S.LogPlaces_s), (62, S.l17Last_s), (63, S.LogOf_s)]
def S.PostRise_ann : Nat → List Nat × List Nat
  | 6 => ([0, 4, 6, 8, 9], [0, 4, 8])
  | _ => ([], [])
noncomputable def S.PostRise_F (args : List V) (h : List E) (κ : V → List E → R) : R := funC TD (tableK S.PostRise_T) S.PostRise_ann (drawOk TD (tableP S.PostRise_T)) FUEL Try.f29 args h κ
noncomputable def S.PostRise_L6 (n : Nat) (σ : St) (k : X → St → R) : R := iterC 0 (fun σ k => denC TD (tableK S.PostRise_T) S.PostRise_ann (drawOk TD (tableP S.PostRise_T)) 0 FUEL ((findLoop 6 (Try.f29.body.getD .skip)).getD .skip) σ k) [0, 4, 6, 8, 9] [0, 4, 8] n σ k
noncomputable def S.PostRise_k6 (κ : V → List E → R) : X → St → R := (afterC TD (tableK S.PostRise_T) S.PostRise_ann (drawOk TD (tableP S.PostRise_T)) 0 FUEL 6 (Try.f29.body.getD .skip) (finC TD 0 Try.f29 κ)).getD (fun _ _ => none)
noncomputable def S.PostRise_step6 {α : Type} (x0 : List Int) (x9 : Int) (r0_1 : Int) (r1 : List Int) (r2 : List Int) (next_ : Int × Int × (List Int) × (List Int) → α) (out0_ : Int × (List Int) → α) (fail_ : α) : α :=
  (bif decide (x9 < (↑r1.length : Int)) then (bif decide (0 ≤ x9) && decide (x9 < (↑r1.length : Int)) then (bif decide (x9.toNat < r1.length) then (bif decide (eli r1 x9.toNat < (↑x0.length : Int)) then (bif decide (0 ≤ x9) && decide (x9 < (↑r1.length : Int)) then (bif decide (x9.toNat < r1.length) then (bif small (r2 ++ [eli r1 x9.toNat]).length then (next_ (IntKind.i64.wrap (x9 + 1), r0_1, r1, r2 ++ [eli r1 x9.toNat])) else fail_) else fail_) else fail_) else (out0_ (r0_1, r2))) else fail_) else fail_) else (out0_ (r0_1, r2)))
theorem S.PostRise_step6_nat {α γ : Type} (g : α → γ) (x0 : List Int) (x9 : Int) (r0_1 : Int) (r1 : List Int) (r2 : List Int) (next_ : Int × Int × (List Int) × (List Int) → α) (out0_ : Int × (List Int) → α) (fail_ : α) : g (S.PostRise_step6 x0 x9 r0_1 r1 r2 next_ out0_ fail_) = S.PostRise_step6 x0 x9 r0_1 r1 r2 (fun s => g (next_ s)) (fun d => g (out0_ d)) (g fail_) := by
  unfold S.PostRise_step6; simp only [apply_cnd g, apply_optC g, apply_sumC g]
noncomputable def S.PostRise_run6 (x0 : List Int) : Nat → Int × Int × (List Int) × (List Int) → Option (Int × (List Int))
  | 0, _ => none
  | n + 1, s_ => S.PostRise_step6 x0 s_.1 s_.2.1 s_.2.2.1 s_.2.2.2 (S.PostRise_run6 x0 n) (fun d => some d) none
theorem S.PostRise_L6_run (x0 : List Int) (n : Nat) (s_ : Int × Int × (List Int) × (List Int)) (k : X → St → R) : S.PostRise_L6 n { n := 51, t := [(0, (.ro false (.ints .i64 x0))), (4, (.ptr 0 0)), (6, (.own 1)), (8, (.own 2)), (9, (.int .i64 s_.1))], h := [.cells [.nil, (.int .i64 s_.2.1), .nil], .row (.ints .i64 s_.2.2.1), .row (.ints .i64 s_.2.2.2)] } k = optC (S.PostRise_run6 x0 n s_) (fun (r : Int × (List Int)) => k (.exit 0) { n := 51, t := [(0, (.ro false (.ints .i64 x0))), (4, (.ptr 0 0)), (8, (.own 1))], h := [.cells [.nil, (.int .i64 r.1), .nil], .row (.ints .i64 r.2)] }) none := by
  induction n generalizing s_ with
  | zero => rfl
  | succ n ih =>
    have hu : S.PostRise_L6 (n + 1) { n := 51, t := [(0, (.ro false (.ints .i64 x0))), (4, (.ptr 0 0)), (6, (.own 1)), (8, (.own 2)), (9, (.int .i64 s_.1))], h := [.cells [.nil, (.int .i64 s_.2.1), .nil], .row (.ints .i64 s_.2.2.1), .row (.ints .i64 s_.2.2.2)] } k = S.PostRise_step6 x0 s_.1 s_.2.1 s_.2.2.1 s_.2.2.2 (fun s_ => S.PostRise_L6 n { n := 51, t := [(0, (.ro false (.ints .i64 x0))), (4, (.ptr 0 0)), (6, (.own 1)), (8, (.own 2)), (9, (.int .i64 s_.1))], h := [.cells [.nil, (.int .i64 s_.2.1), .nil], .row (.ints .i64 s_.2.2.1), .row (.ints .i64 s_.2.2.2)] } k) (fun d => k (.exit 0) { n := 51, t := [(0, (.ro false (.ints .i64 x0))), (4, (.ptr 0 0)), (8, (.own 1))], h := [.cells [.nil, (.int .i64 d.1), .nil], .row (.ints .i64 d.2)] }) none := by
      kernel_rfl
    have hs : (fun s_ : Int × Int × (List Int) × (List Int) => S.PostRise_L6 n { n := 51, t := [(0, (.ro false (.ints .i64 x0))), (4, (.ptr 0 0)), (6, (.own 1)), (8, (.own 2)), (9, (.int .i64 s_.1))], h := [.cells [.nil, (.int .i64 s_.2.1), .nil], .row (.ints .i64 s_.2.2.1), .row (.ints .i64 s_.2.2.2)] } k) = fun s_ => optC (S.PostRise_run6 x0 n s_) (fun (r : Int × (List Int)) => k (.exit 0) { n := 51, t := [(0, (.ro false (.ints .i64 x0))), (4, (.ptr 0 0)), (8, (.own 1))], h := [.cells [.nil, (.int .i64 r.1), .nil], .row (.ints .i64 r.2)] }) none := funext ih
    rw [hu, hs]
    exact (S.PostRise_step6_nat (fun o => optC o (fun (r : Int × (List Int)) => k (.exit 0) { n := 51, t := [(0, (.ro false (.ints .i64 x0))), (4, (.ptr 0 0)), (8, (.own 1))], h := [.cells [.nil, (.int .i64 r.1), .nil], .row (.ints .i64 r.2)] }) none) x0 s_.1 s_.2.1 s_.2.2.1 s_.2.2.2 (S.PostRise_run6 x0 n) (fun d => some d) none).symm
noncomputable def S.PostRise_tree {α : Type} (net : List Int) (log : List Int) (leaf0_ : Int × Bool → α) (leaf1_ : Int × Bool × (List Int) × (List Int) → α) (fail_ : α) : α :=
  (optC (S.NetOk_t net) (fun c_1 => (bif !c_1 then (leaf0_ (0, false)) else (optC (S.LogPlaces_t log) (fun c_2 => (optC (S.PostRise_run6 net FUEL (0, 0, c_2.snd, [])) (fun qy_3 => (bif small ([] ++ net).length then (optC (S.l17Last_t net qy_3.2) (fun c_4 => (optC (S.LogOf_t qy_3.2) (fun c_5 => (leaf1_ (c_4, true, [] ++ net, c_5))) fail_)) fail_) else fail_)) fail_)) fail_))) fail_)
theorem S.PostRise_tree_nat {α γ : Type} (g : α → γ) (net : List Int) (log : List Int) (leaf0_ : Int × Bool → α) (leaf1_ : Int × Bool × (List Int) × (List Int) → α) (fail_ : α) : g (S.PostRise_tree net log leaf0_ leaf1_ fail_) = S.PostRise_tree net log (fun d => g (leaf0_ d)) (fun d => g (leaf1_ d)) (g fail_) := by
  unfold S.PostRise_tree; simp only [apply_cnd g, apply_optC g, apply_sumC g]
noncomputable def S.PostRise_t (net : List Int) (log : List Int) : Option ((Int × Bool) ⊕ (Int × Bool × (List Int) × (List Int))) := S.PostRise_tree net log (fun d => some ((Sum.inl d))) (fun d => some ((Sum.inr d))) none
theorem S.PostRise_den (net : List Int) (log : List Int) (κ : V → List E → R) : S.PostRise_F [.ro false (.ints .i64 net), .ro false (.ints .u8 log)] [] κ = optC (S.PostRise_t net log) (fun (r : (Int × Bool) ⊕ (Int × Bool × (List Int) × (List Int))) => (sumC r (fun (r : Int × Bool) => κ (.tup [(.agg [.nil, (.int .i64 r.1), .nil]), (.bool r.2)]) []) (fun (r : Int × Bool × (List Int) × (List Int)) => κ (.tup [(.agg [(.own 0), (.int .i64 r.1), (.own 1)]), (.bool r.2.1)]) [.row (.ints .i64 r.2.2.1), .row (.ints .u8 r.2.2.2)]))) none := by
  have hu : S.PostRise_F [.ro false (.ints .i64 net), .ro false (.ints .u8 log)] [] κ = S.PostRise_tree net log (fun d => κ (.tup [(.agg [.nil, (.int .i64 d.1), .nil]), (.bool d.2)]) []) (fun d => κ (.tup [(.agg [(.own 0), (.int .i64 d.1), (.own 1)]), (.bool d.2.1)]) [.row (.ints .i64 d.2.2.1), .row (.ints .u8 d.2.2.2)]) none := by
    refine Eq.trans (show S.PostRise_F [.ro false (.ints .i64 net), .ro false (.ints .u8 log)] [] κ = (optC (S.NetOk_t net) (fun c_1 => (bif !c_1 then (κ (.tup [(.agg [.nil, (.int .i64 0), .nil]), (.bool false)]) []) else (optC (S.LogPlaces_t log) (fun c_2 => (S.PostRise_L6 FUEL { n := 51, t := [(0, (.ro false (.ints .i64 net))), (4, (.ptr 0 0)), (6, (.own 1)), (8, (.own 2)), (9, (.int .i64 0))], h := [.cells [.nil, (.int .i64 0), .nil], .row (.ints .i64 c_2.snd), .row (.ints .i64 ([]))] } (S.PostRise_k6 κ))) none))) none) by kernel_rfl) ?_
    refine optC_congr (fun c_1 => ?_)
    refine cnd_congr ?_ ?_
    · kernel_rfl
    · refine optC_congr (fun c_2 => ?_)
      refine (S.PostRise_L6_run net FUEL (0, 0, c_2.snd, []) (S.PostRise_k6 κ)).trans (optC_congr (fun qy_3 => ?_))
      kernel_rfl
  rw [hu]
  exact (S.PostRise_tree_nat (fun o => optC o (fun (r : (Int × Bool) ⊕ (Int × Bool × (List Int) × (List Int))) => (sumC r (fun (r : Int × Bool) => κ (.tup [(.agg [.nil, (.int .i64 r.1), .nil]), (.bool r.2)]) []) (fun (r : Int × Bool × (List Int) × (List Int)) => κ (.tup [(.agg [(.own 0), (.int .i64 r.1), (.own 1)]), (.bool r.2.1)]) [.row (.ints .i64 r.2.2.1), .row (.ints .u8 r.2.2.2)]))) none) net log (fun d => some ((Sum.inl d))) (fun d => some ((Sum.inr d))) none).symm
noncomputable def S.PostRise_s : D.Spec where
  keep := false
  pure := false
  add := true
  ds := [.int .i64, .int .u8]
  sp := fun args h κ => match args, h with
    | [.ro false (.ints .i64 net), .ro false (.ints .u8 log)], [] => optC (S.PostRise_t net log) (fun (r : (Int × Bool) ⊕ (Int × Bool × (List Int) × (List Int))) => (sumC r (fun (r : Int × Bool) => κ (.tup [(.agg [.nil, (.int .i64 r.1), .nil]), (.bool r.2)]) []) (fun (r : Int × Bool × (List Int) × (List Int)) => κ (.tup [(.agg [(.own 0), (.int .i64 r.1), (.own 1)]), (.bool r.2.1)]) [.row (.ints .i64 r.2.2.1), .row (.ints .u8 r.2.2.2)]))) none
    | _, _ => none
theorem S.PostRise_ok : SpecOk Try.prog 29 S.PostRise_s := by
  refine SpecOk.of TDok mixed (T := S.PostRise_T) ?_ (ann := S.PostRise_ann) Try.func29 rfl (by decide +kernel) ?_ ?_ ?_ ?_
  · intro p hp
    simp only [S.PostRise_T, List.mem_cons, List.not_mem_nil, or_false] at hp
    rcases hp with rfl | rfl | rfl | rfl
    · exact S.NetOk_ok
    · exact S.LogPlaces_ok
    · exact S.l17Last_ok
    · exact S.LogOf_ok
  · intro args h κ r hh
    simp only [S.PostRise_s] at hh
    split at hh
    · exact (S.PostRise_den _ _ κ).trans hh
    · cases hh
  · intro args h κ r hh
    simp only [S.PostRise_s] at hh ⊢
    split at hh
    · exact optC_law2 (F := fun (r : (Int × Bool) ⊕ (Int × Bool × (List Int) × (List Int))) κ => (sumC r (fun (r : Int × Bool) => κ (.tup [(.agg [.nil, (.int .i64 r.1), .nil]), (.bool r.2)]) []) (fun (r : Int × Bool × (List Int) × (List Int)) => κ (.tup [(.agg [(.own 0), (.int .i64 r.1), (.own 1)]), (.bool r.2.1)]) [.row (.ints .i64 r.2.2.1), .row (.ints .u8 r.2.2.2)]))) (fun b κ r hb => by rcases b with b | b <;> exact ⟨_, _, hb, fun _ => rfl⟩) hh
    · cases hh
  · intro hh; cases hh
  · intro _ args h κ r hh
    simp only [S.PostRise_s] at hh
    split at hh
    · rfl
    · cases hh

-- loop.example/guardsonnets/laws.FnPostRise
noncomputable def L.FnPostRise_T : List (Nat × D.Spec) := [(28, S.DrawPostRise_s), (19, I.PostRise_s), (29, S.PostRise_s), (16, L.samePost_s), (17, I.NetOk_s), (18, L.alive_s), (20, I.PostOk_s)]
def L.FnPostRise_ann : Nat → List Nat × List Nat
  | _ => ([], [])
noncomputable def L.FnPostRise_F (args : List V) (h : List E) (κ : V → List E → R) : R := funC TD (tableK L.FnPostRise_T) L.FnPostRise_ann (drawOk TD (tableP L.FnPostRise_T)) FUEL Try.f5 args h κ
noncomputable def L.FnPostRise_tree {α : Type} (code : List Int) (leaf0_ : Bool → α) (fail_ : α) : α :=
  (bif decide ((↑code.length : Int) > 1048576) then (leaf0_ true) else (optC (S.DrawPostRise_t code) (fun c_1 => (optC (I.PostRise_t c_1.fst c_1.snd) (fun c_2 => (sumC c_2 (fun c_3 => (optC (S.PostRise_t c_1.fst c_1.snd) (fun c_4 => (sumC c_4 (fun c_5 => (bif !c_3.snd == c_5.snd then (leaf0_ false) else (optC (L.samePost_t [] c_3.fst [] [] c_5.fst []) (fun c_6 => (bif !c_6 then (leaf0_ false) else (bif !c_3.snd then (optC (I.NetOk_t c_1.fst) (fun c_7 => (bif !c_7 then (optC (L.alive_t) (fun c_8 => (leaf0_ c_8)) fail_) else (leaf0_ false))) fail_) else (optC (I.PostRise_t c_1.fst []) (fun c_9 => (sumC c_9 (fun c_10 => (optC (I.PostOk_t [] c_3.fst []) (fun c_11 => (bif c_11 then (bif strEq (bytesOf (List.take (Int.toNat 0) (List.drop 0 c_1.snd))) ByteArray.empty then (bif c_10.snd then (optC (L.samePost_t [] c_10.fst [] [] c_3.fst []) (fun c_12 => (leaf0_ c_12)) fail_) else (leaf0_ false)) else (leaf0_ false)) else (leaf0_ false))) fail_)) (fun c_10 => (optC (I.PostOk_t [] c_3.fst []) (fun c_13 => (bif c_13 then (bif strEq (bytesOf (List.take (Int.toNat 0) (List.drop 0 c_1.snd))) ByteArray.empty then (bif c_10.snd.fst then (optC (L.samePost_t c_10.snd.snd.fst c_10.fst c_10.snd.snd.snd [] c_3.fst []) (fun c_14 => (leaf0_ c_14)) fail_) else (leaf0_ false)) else (leaf0_ false)) else (leaf0_ false))) fail_)))) fail_)))) fail_))) (fun c_5 => (bif !c_3.snd == c_5.snd.fst then (leaf0_ false) else (optC (L.samePost_t [] c_3.fst [] c_5.snd.snd.fst c_5.fst c_5.snd.snd.snd) (fun c_15 => (bif !c_15 then (leaf0_ false) else (bif !c_3.snd then (optC (I.NetOk_t c_1.fst) (fun c_16 => (bif !c_16 then (optC (L.alive_t) (fun c_17 => (leaf0_ c_17)) fail_) else (leaf0_ false))) fail_) else (optC (I.PostRise_t c_1.fst []) (fun c_18 => (sumC c_18 (fun c_19 => (optC (I.PostOk_t [] c_3.fst []) (fun c_20 => (bif c_20 then (bif strEq (bytesOf (List.take (Int.toNat 0) (List.drop 0 c_1.snd))) ByteArray.empty then (bif c_19.snd then (optC (L.samePost_t [] c_19.fst [] [] c_3.fst []) (fun c_21 => (leaf0_ c_21)) fail_) else (leaf0_ false)) else (leaf0_ false)) else (leaf0_ false))) fail_)) (fun c_19 => (optC (I.PostOk_t [] c_3.fst []) (fun c_22 => (bif c_22 then (bif strEq (bytesOf (List.take (Int.toNat 0) (List.drop 0 c_1.snd))) ByteArray.empty then (bif c_19.snd.fst then (optC (L.samePost_t c_19.snd.snd.fst c_19.fst c_19.snd.snd.snd [] c_3.fst []) (fun c_23 => (leaf0_ c_23)) fail_) else (leaf0_ false)) else (leaf0_ false)) else (leaf0_ false))) fail_)))) fail_)))) fail_))))) fail_)) (fun c_3 => (optC (S.PostRise_t c_1.fst c_1.snd) (fun c_24 => (sumC c_24 (fun c_25 => (bif !c_3.snd.fst == c_25.snd then (leaf0_ false) else (optC (L.samePost_t c_3.snd.snd.fst c_3.fst c_3.snd.snd.snd [] c_25.fst []) (fun c_26 => (bif !c_26 then (leaf0_ false) else (bif !c_3.snd.fst then (optC (I.NetOk_t c_1.fst) (fun c_27 => (bif !c_27 then (optC (L.alive_t) (fun c_28 => (leaf0_ c_28)) fail_) else (leaf0_ false))) fail_) else (optC (I.PostRise_t c_1.fst c_3.snd.snd.snd) (fun c_29 => (sumC c_29 (fun c_30 => (optC (I.PostOk_t c_3.snd.snd.fst c_3.fst c_3.snd.snd.snd) (fun c_31 => (bif c_31 then (bif decide ((↑c_3.snd.snd.snd.length : Int) ≤ (↑c_1.snd.length : Int)) then (bif decide ((↑c_3.snd.snd.snd.length : Int) ≤ (↑c_1.snd.length : Int)) then (bif strEq (bytesOf (List.take (↑c_3.snd.snd.snd.length : Int).toNat (List.drop 0 c_1.snd))) (bytesOf c_3.snd.snd.snd) then (bif c_30.snd then (optC (L.samePost_t [] c_30.fst [] c_3.snd.snd.fst c_3.fst c_3.snd.snd.snd) (fun c_32 => (leaf0_ c_32)) fail_) else (leaf0_ false)) else (leaf0_ false)) else fail_) else (leaf0_ false)) else (leaf0_ false))) fail_)) (fun c_30 => (optC (I.PostOk_t c_3.snd.snd.fst c_3.fst c_3.snd.snd.snd) (fun c_33 => (bif c_33 then (bif decide ((↑c_3.snd.snd.snd.length : Int) ≤ (↑c_1.snd.length : Int)) then (bif decide ((↑c_3.snd.snd.snd.length : Int) ≤ (↑c_1.snd.length : Int)) then (bif strEq (bytesOf (List.take (↑c_3.snd.snd.snd.length : Int).toNat (List.drop 0 c_1.snd))) (bytesOf c_3.snd.snd.snd) then (bif c_30.snd.fst then (optC (L.samePost_t c_30.snd.snd.fst c_30.fst c_30.snd.snd.snd c_3.snd.snd.fst c_3.fst c_3.snd.snd.snd) (fun c_34 => (leaf0_ c_34)) fail_) else (leaf0_ false)) else (leaf0_ false)) else fail_) else (leaf0_ false)) else (leaf0_ false))) fail_)))) fail_)))) fail_))) (fun c_25 => (bif !c_3.snd.fst == c_25.snd.fst then (leaf0_ false) else (optC (L.samePost_t c_3.snd.snd.fst c_3.fst c_3.snd.snd.snd c_25.snd.snd.fst c_25.fst c_25.snd.snd.snd) (fun c_35 => (bif !c_35 then (leaf0_ false) else (bif !c_3.snd.fst then (optC (I.NetOk_t c_1.fst) (fun c_36 => (bif !c_36 then (optC (L.alive_t) (fun c_37 => (leaf0_ c_37)) fail_) else (leaf0_ false))) fail_) else (optC (I.PostRise_t c_1.fst c_3.snd.snd.snd) (fun c_38 => (sumC c_38 (fun c_39 => (optC (I.PostOk_t c_3.snd.snd.fst c_3.fst c_3.snd.snd.snd) (fun c_40 => (bif c_40 then (bif decide ((↑c_3.snd.snd.snd.length : Int) ≤ (↑c_1.snd.length : Int)) then (bif decide ((↑c_3.snd.snd.snd.length : Int) ≤ (↑c_1.snd.length : Int)) then (bif strEq (bytesOf (List.take (↑c_3.snd.snd.snd.length : Int).toNat (List.drop 0 c_1.snd))) (bytesOf c_3.snd.snd.snd) then (bif c_39.snd then (optC (L.samePost_t [] c_39.fst [] c_3.snd.snd.fst c_3.fst c_3.snd.snd.snd) (fun c_41 => (leaf0_ c_41)) fail_) else (leaf0_ false)) else (leaf0_ false)) else fail_) else (leaf0_ false)) else (leaf0_ false))) fail_)) (fun c_39 => (optC (I.PostOk_t c_3.snd.snd.fst c_3.fst c_3.snd.snd.snd) (fun c_42 => (bif c_42 then (bif decide ((↑c_3.snd.snd.snd.length : Int) ≤ (↑c_1.snd.length : Int)) then (bif decide ((↑c_3.snd.snd.snd.length : Int) ≤ (↑c_1.snd.length : Int)) then (bif strEq (bytesOf (List.take (↑c_3.snd.snd.snd.length : Int).toNat (List.drop 0 c_1.snd))) (bytesOf c_3.snd.snd.snd) then (bif c_39.snd.fst then (optC (L.samePost_t c_39.snd.snd.fst c_39.fst c_39.snd.snd.snd c_3.snd.snd.fst c_3.fst c_3.snd.snd.snd) (fun c_43 => (leaf0_ c_43)) fail_) else (leaf0_ false)) else (leaf0_ false)) else fail_) else (leaf0_ false)) else (leaf0_ false))) fail_)))) fail_)))) fail_))))) fail_)))) fail_)) fail_))
theorem L.FnPostRise_tree_nat {α γ : Type} (g : α → γ) (code : List Int) (leaf0_ : Bool → α) (fail_ : α) : g (L.FnPostRise_tree code leaf0_ fail_) = L.FnPostRise_tree code (fun d => g (leaf0_ d)) (g fail_) := by
  unfold L.FnPostRise_tree; simp only [apply_cnd g, apply_optC g, apply_sumC g]
noncomputable def L.FnPostRise_t (code : List Int) : Option (Bool) := L.FnPostRise_tree code (fun d => some d) none
theorem L.FnPostRise_den (code : List Int) (κ : V → List E → R) : L.FnPostRise_F [.ro true (.ints .u8 code)] [] κ = optC (L.FnPostRise_t code) (fun (r : Bool) => κ (.bool r) []) none := by
  have hu : L.FnPostRise_F [.ro true (.ints .u8 code)] [] κ = L.FnPostRise_tree code (fun d => κ (.bool d) []) none := by
    kernel_rfl
  rw [hu]
  exact (L.FnPostRise_tree_nat (fun o => optC o (fun (r : Bool) => κ (.bool r) []) none) code (fun d => some d) none).symm
noncomputable def L.FnPostRise_s : D.Spec where
  keep := true
  pure := true
  add := true
  ds := [.int .u8]
  sp := fun args h κ => match args, h with
    | [.ro true (.ints .u8 code)], [] => optC (L.FnPostRise_t code) (fun (r : Bool) => κ (.bool r) []) none
    | _, _ => none
theorem L.FnPostRise_ok : SpecOk Try.prog 5 L.FnPostRise_s := by
  refine SpecOk.of TDok mixed (T := L.FnPostRise_T) ?_ (ann := L.FnPostRise_ann) Try.func5 rfl (by decide +kernel) ?_ ?_ ?_ ?_
  · intro p hp
    simp only [L.FnPostRise_T, List.mem_cons, List.not_mem_nil, or_false] at hp
    rcases hp with rfl | rfl | rfl | rfl | rfl | rfl | rfl
    · exact S.DrawPostRise_ok
    · exact I.PostRise_ok
    · exact S.PostRise_ok
    · exact L.samePost_ok
    · exact I.NetOk_ok
    · exact L.alive_ok
    · exact I.PostOk_ok
  · intro args h κ r hh
    simp only [L.FnPostRise_s] at hh
    split at hh
    · exact (L.FnPostRise_den _ κ).trans hh
    · cases hh
  · intro args h κ r hh
    simp only [L.FnPostRise_s] at hh ⊢
    split at hh
    · exact optC_law2 (F := fun (r : Bool) κ => κ (.bool r) []) (fun b κ r hb => ⟨_, _, hb, fun _ => rfl⟩) hh
    · cases hh
  · intro _ args h κ r hh
    simp only [L.FnPostRise_s] at hh
    split at hh
    · exact ⟨rfl, fun _ => rfl⟩
    · cases hh
  · intro _ args h κ r hh
    simp only [L.FnPostRise_s] at hh
    split at hh
    · rfl
    · cases hh

-- loop.example/guardsonnets/laws.toByteS
noncomputable def L.toByteS_T : List (Nat × D.Spec) := []
def L.toByteS_ann : Nat → List Nat × List Nat
  | 3 => ([0, 3, 4], [3])
  | _ => ([], [])
noncomputable def L.toByteS_F (args : List V) (h : List E) (κ : V → List E → R) : R := funC TD (tableK L.toByteS_T) L.toByteS_ann (drawOk TD (tableP L.toByteS_T)) FUEL Try.f30 args h κ
noncomputable def L.toByteS_L3 (n : Nat) (σ : St) (k : X → St → R) : R := iterC 0 (fun σ k => denC TD (tableK L.toByteS_T) L.toByteS_ann (drawOk TD (tableP L.toByteS_T)) 0 FUEL ((findLoop 3 (Try.f30.body.getD .skip)).getD .skip) σ k) [0, 3, 4] [3] n σ k
noncomputable def L.toByteS_k3 (κ : V → List E → R) : X → St → R := (afterC TD (tableK L.toByteS_T) L.toByteS_ann (drawOk TD (tableP L.toByteS_T)) 0 FUEL 3 (Try.f30.body.getD .skip) (finC TD 0 Try.f30 κ)).getD (fun _ _ => none)
noncomputable def L.toByteS_step3 {α : Type} (x0 : List Int) (x4 : Int) (r0 : List Int) (next_ : Int × (List Int) → α) (out0_ : List Int → α) (fail_ : α) : α :=
  (bif decide (x4 < (↑x0.length : Int)) then (bif decide (0 ≤ x4) && decide (x4 < (↑x0.length : Int)) then (bif decide (0 ≤ x4) && decide (x4 < (↑r0.length : Int)) then (bif decide (x4.toNat < r0.length) then (next_ (IntKind.i64.wrap (x4 + 1), r0.set x4.toNat (eli x0 x4.toNat))) else fail_) else fail_) else fail_) else (out0_ r0))
theorem L.toByteS_step3_nat {α γ : Type} (g : α → γ) (x0 : List Int) (x4 : Int) (r0 : List Int) (next_ : Int × (List Int) → α) (out0_ : List Int → α) (fail_ : α) : g (L.toByteS_step3 x0 x4 r0 next_ out0_ fail_) = L.toByteS_step3 x0 x4 r0 (fun s => g (next_ s)) (fun d => g (out0_ d)) (g fail_) := by
  unfold L.toByteS_step3; simp only [apply_cnd g, apply_optC g, apply_sumC g]
noncomputable def L.toByteS_run3 (x0 : List Int) : Nat → Int × (List Int) → Option (List Int)
  | 0, _ => none
  | n + 1, s_ => L.toByteS_step3 x0 s_.1 s_.2 (L.toByteS_run3 x0 n) (fun d => some d) none
theorem L.toByteS_L3_run (x0 : List Int) (n : Nat) (s_ : Int × (List Int)) (k : X → St → R) : L.toByteS_L3 n { n := 22, t := [(0, (.ro false (.ints .u8 x0))), (3, (.own 0)), (4, (.int .i64 s_.1))], h := [.row (.ints .u8 s_.2)] } k = optC (L.toByteS_run3 x0 n s_) (fun (r : List Int) => k (.exit 0) { n := 22, t := [(3, (.own 0))], h := [.row (.ints .u8 r)] }) none := by
  induction n generalizing s_ with
  | zero => rfl
  | succ n ih =>
    have hu : L.toByteS_L3 (n + 1) { n := 22, t := [(0, (.ro false (.ints .u8 x0))), (3, (.own 0)), (4, (.int .i64 s_.1))], h := [.row (.ints .u8 s_.2)] } k = L.toByteS_step3 x0 s_.1 s_.2 (fun s_ => L.toByteS_L3 n { n := 22, t := [(0, (.ro false (.ints .u8 x0))), (3, (.own 0)), (4, (.int .i64 s_.1))], h := [.row (.ints .u8 s_.2)] } k) (fun d => k (.exit 0) { n := 22, t := [(3, (.own 0))], h := [.row (.ints .u8 d)] }) none := by
      kernel_rfl
    have hs : (fun s_ : Int × (List Int) => L.toByteS_L3 n { n := 22, t := [(0, (.ro false (.ints .u8 x0))), (3, (.own 0)), (4, (.int .i64 s_.1))], h := [.row (.ints .u8 s_.2)] } k) = fun s_ => optC (L.toByteS_run3 x0 n s_) (fun (r : List Int) => k (.exit 0) { n := 22, t := [(3, (.own 0))], h := [.row (.ints .u8 r)] }) none := funext ih
    rw [hu, hs]
    exact (L.toByteS_step3_nat (fun o => optC o (fun (r : List Int) => k (.exit 0) { n := 22, t := [(3, (.own 0))], h := [.row (.ints .u8 r)] }) none) x0 s_.1 s_.2 (L.toByteS_run3 x0 n) (fun d => some d) none).symm
noncomputable def L.toByteS_tree {α : Type} (a : List Int) (leaf0_ : List Int → α) (fail_ : α) : α :=
  (bif small (↑a.length : Int).toNat && true then (optC (L.toByteS_run3 a FUEL (0, List.replicate (↑a.length : Int).toNat 0)) (fun qy_1 => (leaf0_ qy_1)) fail_) else fail_)
theorem L.toByteS_tree_nat {α γ : Type} (g : α → γ) (a : List Int) (leaf0_ : List Int → α) (fail_ : α) : g (L.toByteS_tree a leaf0_ fail_) = L.toByteS_tree a (fun d => g (leaf0_ d)) (g fail_) := by
  unfold L.toByteS_tree; simp only [apply_cnd g, apply_optC g, apply_sumC g]
noncomputable def L.toByteS_t (a : List Int) : Option (List Int) := L.toByteS_tree a (fun d => some d) none
theorem L.toByteS_den (a : List Int) (κ : V → List E → R) : L.toByteS_F [.ro false (.ints .u8 a)] [] κ = optC (L.toByteS_t a) (fun (r : List Int) => κ (.own 0) [.row (.ints .u8 r)]) none := by
  have hu : L.toByteS_F [.ro false (.ints .u8 a)] [] κ = L.toByteS_tree a (fun d => κ (.own 0) [.row (.ints .u8 d)]) none := by
    refine Eq.trans (show L.toByteS_F [.ro false (.ints .u8 a)] [] κ = (bif small (↑a.length : Int).toNat && true then (L.toByteS_L3 FUEL { n := 22, t := [(0, (.ro false (.ints .u8 a))), (3, (.own 0)), (4, (.int .i64 0))], h := [.row (.ints .u8 (List.replicate (↑a.length : Int).toNat 0))] } (L.toByteS_k3 κ)) else none) by kernel_rfl) ?_
    refine cnd_congr ?_ ?_
    · refine (L.toByteS_L3_run a FUEL (0, List.replicate (↑a.length : Int).toNat 0) (L.toByteS_k3 κ)).trans (optC_congr (fun qy_1 => ?_))
      kernel_rfl
    · kernel_rfl
  rw [hu]
  exact (L.toByteS_tree_nat (fun o => optC o (fun (r : List Int) => κ (.own 0) [.row (.ints .u8 r)]) none) a (fun d => some d) none).symm
noncomputable def L.toByteS_s : D.Spec where
  keep := false
  pure := false
  add := true
  ds := [.int .u8]
  sp := fun args h κ => match args, h with
    | [.ro false (.ints .u8 a)], [] => optC (L.toByteS_t a) (fun (r : List Int) => κ (.own 0) [.row (.ints .u8 r)]) none
    | _, _ => none
theorem L.toByteS_ok : SpecOk Try.prog 30 L.toByteS_s := by
  refine SpecOk.of TDok mixed (T := L.toByteS_T) ?_ (ann := L.toByteS_ann) Try.func30 rfl (by decide +kernel) ?_ ?_ ?_ ?_
  · intro p hp; cases hp
  · intro args h κ r hh
    simp only [L.toByteS_s] at hh
    split at hh
    · exact (L.toByteS_den _ κ).trans hh
    · cases hh
  · intro args h κ r hh
    simp only [L.toByteS_s] at hh ⊢
    split at hh
    · exact optC_law2 (F := fun (r : List Int) κ => κ (.own 0) [.row (.ints .u8 r)]) (fun b κ r hb => ⟨_, _, hb, fun _ => rfl⟩) hh
    · cases hh
  · intro hh; cases hh
  · intro _ args h κ r hh
    simp only [L.toByteS_s] at hh
    split at hh
    · rfl
    · cases hh

-- loop.example/guardsonnets/laws.FnExactPostRise
noncomputable def L.FnExactPostRise_T : List (Nat × D.Spec) := [(22, L.toIntS_s), (30, L.toByteS_s), (29, S.PostRise_s), (19, I.PostRise_s), (23, L.eqPost_s), (24, L.eqIntS_s), (31, L.eqByteS_s), (25, L.markIntS_s), (32, L.markByteS_s), (26, L.markPost_s), (27, L.heldPost_s)]
def L.FnExactPostRise_ann : Nat → List Nat × List Nat
  | _ => ([], [])
noncomputable def L.FnExactPostRise_F (args : List V) (h : List E) (κ : V → List E → R) : R := funC TD (tableK L.FnExactPostRise_T) L.FnExactPostRise_ann (drawOk TD (tableP L.FnExactPostRise_T)) FUEL Try.f6 args h κ
noncomputable def L.FnExactPostRise_tree {α : Type} (aNet : List Int) (aLog : List Int) (leaf0_ : Bool → α) (fail_ : α) : α :=
  (bif decide ((↑aNet.length : Int) > 1048576) then (leaf0_ true) else (bif decide ((↑aLog.length : Int) > 1048576) then (leaf0_ true) else (optC (L.toIntS_t aNet) (fun c_1 => (optC (L.toByteS_t aLog) (fun c_2 => (optC (S.PostRise_t c_1 c_2) (fun c_3 => (sumC c_3 (fun c_4 => (optC (L.toIntS_t aNet) (fun c_5 => (optC (L.toByteS_t aLog) (fun c_6 => (optC (I.PostRise_t c_5 c_6) (fun c_7 => (sumC c_7 (fun c_8 => (optC (L.eqPost_t [] c_8.fst [] [] c_4.fst []) (fun c_9 => (bif !c_9 then (leaf0_ false) else (bif !c_8.snd == c_4.snd then (leaf0_ false) else (optC (L.toIntS_t aNet) (fun c_10 => (optC (L.eqIntS_t c_5 c_10) (fun c_11 => (bif !c_11 then (leaf0_ false) else (optC (L.toByteS_t aLog) (fun c_12 => (optC (L.eqByteS_t c_6 c_12) (fun c_13 => (bif !c_13 then (leaf0_ false) else (optC (L.markIntS_t c_5 1) (fun c_14 => (optC (L.markByteS_t c_6 c_14.fst) (fun c_15 => (bif decide (c_15.fst < 0) then (leaf0_ false) else (optC (L.eqPost_t [] c_8.fst [] [] c_4.fst []) (fun c_16 => (bif !c_16 then (leaf0_ false) else (bif !c_8.snd == c_4.snd then (leaf0_ false) else fail_))) fail_))) fail_)) fail_))) fail_)) fail_))) fail_)) fail_)))) fail_)) (fun c_8 => (optC (L.eqPost_t c_8.snd.snd.fst c_8.fst c_8.snd.snd.snd [] c_4.fst []) (fun c_17 => (bif !c_17 then (leaf0_ false) else (bif !c_8.snd.fst == c_4.snd then (leaf0_ false) else (optC (L.toIntS_t aNet) (fun c_18 => (optC (L.eqIntS_t c_5 c_18) (fun c_19 => (bif !c_19 then (leaf0_ false) else (optC (L.toByteS_t aLog) (fun c_20 => (optC (L.eqByteS_t c_6 c_20) (fun c_21 => (bif !c_21 then (leaf0_ false) else (optC (L.markIntS_t c_5 1) (fun c_22 => (optC (L.markByteS_t c_6 c_22.fst) (fun c_23 => (bif decide (c_23.fst < 0) then (leaf0_ false) else (optC (L.eqPost_t c_8.snd.snd.fst c_8.fst c_8.snd.snd.snd [] c_4.fst []) (fun c_24 => (bif !c_24 then (leaf0_ false) else (bif !c_8.snd.fst == c_4.snd then (leaf0_ false) else (optC (L.markPost_t c_8.snd.snd.fst c_8.fst c_8.snd.snd.snd 1) (fun c_25 => (optC (L.heldPost_t c_25.snd.fst c_8.fst c_25.snd.snd 1) (fun c_26 => (bif decide (c_26 < 0) then (leaf0_ false) else (bif !c_26 == c_25.fst then (leaf0_ false) else (optC (L.toIntS_t aNet) (fun c_27 => (optC (L.toByteS_t aLog) (fun c_28 => (optC (I.PostRise_t c_27 c_28) (fun c_29 => (sumC c_29 (fun c_30 => (optC (L.eqPost_t [] c_30.fst [] [] c_4.fst []) (fun c_31 => (bif !c_31 then (leaf0_ false) else (bif !c_30.snd == c_4.snd then (leaf0_ false) else (optC (L.heldPost_t c_25.snd.fst c_8.fst c_25.snd.snd 1) (fun c_32 => (bif decide (c_32 < 0) then (leaf0_ false) else (bif !c_32 == c_25.fst then (leaf0_ false) else (leaf0_ true)))) fail_)))) fail_)) (fun c_30 => (optC (L.eqPost_t c_30.snd.snd.fst c_30.fst c_30.snd.snd.snd [] c_4.fst []) (fun c_33 => (bif !c_33 then (leaf0_ false) else (bif !c_30.snd.fst == c_4.snd then (leaf0_ false) else (optC (L.heldPost_t c_25.snd.fst c_8.fst c_25.snd.snd 1) (fun c_34 => (bif decide (c_34 < 0) then (leaf0_ false) else (bif !c_34 == c_25.fst then (leaf0_ false) else (leaf0_ true)))) fail_)))) fail_)))) fail_)) fail_)) fail_)))) fail_)) fail_)))) fail_))) fail_)) fail_))) fail_)) fail_))) fail_)) fail_)))) fail_)))) fail_)) fail_)) fail_)) (fun c_4 => (optC (L.toIntS_t aNet) (fun c_35 => (optC (L.toByteS_t aLog) (fun c_36 => (optC (I.PostRise_t c_35 c_36) (fun c_37 => (sumC c_37 (fun c_38 => (optC (L.eqPost_t [] c_38.fst [] c_4.snd.snd.fst c_4.fst c_4.snd.snd.snd) (fun c_39 => (bif !c_39 then (leaf0_ false) else (bif !c_38.snd == c_4.snd.fst then (leaf0_ false) else (optC (L.toIntS_t aNet) (fun c_40 => (optC (L.eqIntS_t c_35 c_40) (fun c_41 => (bif !c_41 then (leaf0_ false) else (optC (L.toByteS_t aLog) (fun c_42 => (optC (L.eqByteS_t c_36 c_42) (fun c_43 => (bif !c_43 then (leaf0_ false) else (optC (L.markIntS_t c_35 1) (fun c_44 => (optC (L.markByteS_t c_36 c_44.fst) (fun c_45 => (bif decide (c_45.fst < 0) then (leaf0_ false) else (optC (L.eqPost_t [] c_38.fst [] c_4.snd.snd.fst c_4.fst c_4.snd.snd.snd) (fun c_46 => (bif !c_46 then (leaf0_ false) else (bif !c_38.snd == c_4.snd.fst then (leaf0_ false) else fail_))) fail_))) fail_)) fail_))) fail_)) fail_))) fail_)) fail_)))) fail_)) (fun c_38 => (optC (L.eqPost_t c_38.snd.snd.fst c_38.fst c_38.snd.snd.snd c_4.snd.snd.fst c_4.fst c_4.snd.snd.snd) (fun c_47 => (bif !c_47 then (leaf0_ false) else (bif !c_38.snd.fst == c_4.snd.fst then (leaf0_ false) else (optC (L.toIntS_t aNet) (fun c_48 => (optC (L.eqIntS_t c_35 c_48) (fun c_49 => (bif !c_49 then (leaf0_ false) else (optC (L.toByteS_t aLog) (fun c_50 => (optC (L.eqByteS_t c_36 c_50) (fun c_51 => (bif !c_51 then (leaf0_ false) else (optC (L.markIntS_t c_35 1) (fun c_52 => (optC (L.markByteS_t c_36 c_52.fst) (fun c_53 => (bif decide (c_53.fst < 0) then (leaf0_ false) else (optC (L.eqPost_t c_38.snd.snd.fst c_38.fst c_38.snd.snd.snd c_4.snd.snd.fst c_4.fst c_4.snd.snd.snd) (fun c_54 => (bif !c_54 then (leaf0_ false) else (bif !c_38.snd.fst == c_4.snd.fst then (leaf0_ false) else (optC (L.markPost_t c_38.snd.snd.fst c_38.fst c_38.snd.snd.snd 1) (fun c_55 => (optC (L.heldPost_t c_55.snd.fst c_38.fst c_55.snd.snd 1) (fun c_56 => (bif decide (c_56 < 0) then (leaf0_ false) else (bif !c_56 == c_55.fst then (leaf0_ false) else (optC (L.toIntS_t aNet) (fun c_57 => (optC (L.toByteS_t aLog) (fun c_58 => (optC (I.PostRise_t c_57 c_58) (fun c_59 => (sumC c_59 (fun c_60 => (optC (L.eqPost_t [] c_60.fst [] c_4.snd.snd.fst c_4.fst c_4.snd.snd.snd) (fun c_61 => (bif !c_61 then (leaf0_ false) else (bif !c_60.snd == c_4.snd.fst then (leaf0_ false) else (optC (L.heldPost_t c_55.snd.fst c_38.fst c_55.snd.snd 1) (fun c_62 => (bif decide (c_62 < 0) then (leaf0_ false) else (bif !c_62 == c_55.fst then (leaf0_ false) else (leaf0_ true)))) fail_)))) fail_)) (fun c_60 => (optC (L.eqPost_t c_60.snd.snd.fst c_60.fst c_60.snd.snd.snd c_4.snd.snd.fst c_4.fst c_4.snd.snd.snd) (fun c_63 => (bif !c_63 then (leaf0_ false) else (bif !c_60.snd.fst == c_4.snd.fst then (leaf0_ false) else (optC (L.heldPost_t c_55.snd.fst c_38.fst c_55.snd.snd 1) (fun c_64 => (bif decide (c_64 < 0) then (leaf0_ false) else (bif !c_64 == c_55.fst then (leaf0_ false) else (leaf0_ true)))) fail_)))) fail_)))) fail_)) fail_)) fail_)))) fail_)) fail_)))) fail_))) fail_)) fail_))) fail_)) fail_))) fail_)) fail_)))) fail_)))) fail_)) fail_)) fail_)))) fail_)) fail_)) fail_)))
theorem L.FnExactPostRise_tree_nat {α γ : Type} (g : α → γ) (aNet : List Int) (aLog : List Int) (leaf0_ : Bool → α) (fail_ : α) : g (L.FnExactPostRise_tree aNet aLog leaf0_ fail_) = L.FnExactPostRise_tree aNet aLog (fun d => g (leaf0_ d)) (g fail_) := by
  unfold L.FnExactPostRise_tree; simp only [apply_cnd g, apply_optC g, apply_sumC g]
noncomputable def L.FnExactPostRise_t (aNet : List Int) (aLog : List Int) : Option (Bool) := L.FnExactPostRise_tree aNet aLog (fun d => some d) none
theorem L.FnExactPostRise_den (aNet : List Int) (aLog : List Int) (κ : V → List E → R) : L.FnExactPostRise_F [.ro true (.ints .i64 aNet), .ro true (.ints .u8 aLog)] [] κ = optC (L.FnExactPostRise_t aNet aLog) (fun (r : Bool) => κ (.bool r) []) none := by
  have hu : L.FnExactPostRise_F [.ro true (.ints .i64 aNet), .ro true (.ints .u8 aLog)] [] κ = L.FnExactPostRise_tree aNet aLog (fun d => κ (.bool d) []) none := by
    kernel_rfl
  rw [hu]
  exact (L.FnExactPostRise_tree_nat (fun o => optC o (fun (r : Bool) => κ (.bool r) []) none) aNet aLog (fun d => some d) none).symm
noncomputable def L.FnExactPostRise_s : D.Spec where
  keep := true
  pure := true
  add := true
  ds := [.int .i64, .int .u8]
  sp := fun args h κ => match args, h with
    | [.ro true (.ints .i64 aNet), .ro true (.ints .u8 aLog)], [] => optC (L.FnExactPostRise_t aNet aLog) (fun (r : Bool) => κ (.bool r) []) none
    | _, _ => none
theorem L.FnExactPostRise_ok : SpecOk Try.prog 6 L.FnExactPostRise_s := by
  refine SpecOk.of TDok mixed (T := L.FnExactPostRise_T) ?_ (ann := L.FnExactPostRise_ann) Try.func6 rfl (by decide +kernel) ?_ ?_ ?_ ?_
  · intro p hp
    simp only [L.FnExactPostRise_T, List.mem_cons, List.not_mem_nil, or_false] at hp
    rcases hp with rfl | rfl | rfl | rfl | rfl | rfl | rfl | rfl | rfl | rfl | rfl
    · exact L.toIntS_ok
    · exact L.toByteS_ok
    · exact S.PostRise_ok
    · exact I.PostRise_ok
    · exact L.eqPost_ok
    · exact L.eqIntS_ok
    · exact L.eqByteS_ok
    · exact L.markIntS_ok
    · exact L.markByteS_ok
    · exact L.markPost_ok
    · exact L.heldPost_ok
  · intro args h κ r hh
    simp only [L.FnExactPostRise_s] at hh
    split at hh
    · exact (L.FnExactPostRise_den _ _ κ).trans hh
    · cases hh
  · intro args h κ r hh
    simp only [L.FnExactPostRise_s] at hh ⊢
    split at hh
    · exact optC_law2 (F := fun (r : Bool) κ => κ (.bool r) []) (fun b κ r hb => ⟨_, _, hb, fun _ => rfl⟩) hh
    · cases hh
  · intro _ args h κ r hh
    simp only [L.FnExactPostRise_s] at hh
    split at hh
    · exact ⟨rfl, fun _ => rfl⟩
    · cases hh
  · intro _ args h κ r hh
    simp only [L.FnExactPostRise_s] at hh
    split at hh
    · rfl
    · cases hh

-- loop.example/guardsonnets/spec.l20Post
noncomputable def S.l20Post_T : List (Nat × D.Spec) := [(46, S.l20Net_s), (61, S.l20Rd_pick_s), (83, S.l20Places_s), (63, S.LogOf_s), (29, S.PostRise_s), (74, S.l20Rd_odd_s)]
def S.l20Post_ann : Nat → List Nat × List Nat
  | _ => ([], [])
noncomputable def S.l20Post_F (args : List V) (h : List E) (κ : V → List E → R) : R := funC TD (tableK S.l20Post_T) S.l20Post_ann (drawOk TD (tableP S.l20Post_T)) FUEL Try.f64 args h κ
noncomputable def S.l20Post_tree {α : Type} (rb : List Int) (rp : Int) (n_ : Int) (leaf0_ : Int × (List Int) × Int → α) (leaf1_ : Int × (List Int) × Int × (List Int) × (List Int) → α) (leaf2_ : Int × Nat × Nat × (List Int) × Int × (List Int) × (List Int) → α) (fail_ : α) : α :=
  (optC (S.l20Net_t rb rp n_) (fun c_1 => (optC (S.l20Rd_pick_t c_1.fst c_1.snd.fst 20) (fun c_2 => (optC (S.l20Places_t c_2.snd.fst c_2.snd.snd (↑c_1.snd.snd.length : Int) (IntKind.i64.wrap (8 + IntKind.i64.wrap (IntKind.i64.wrap (c_2.fst.tdiv 19) * 32)))) (fun c_3 => (optC (S.LogOf_t c_3.snd.snd) (fun c_4 => (optC (S.PostRise_t c_1.snd.snd c_4) (fun c_5 => (sumC c_5 (fun c_6 => (optC (S.l20Rd_odd_t c_3.fst c_3.snd.fst n_) (fun c_7 => (bif c_7.fst then (optC (S.l20Rd_pick_t c_7.snd.fst c_7.snd.snd 3) (fun c_8 => (bif c_8.fst == 0 then (optC (S.l20Rd_pick_t c_8.snd.fst c_8.snd.snd 64) (fun c_9 => (optC (S.l20Rd_pick_t c_9.snd.fst c_9.snd.snd 8) (fun c_10 => (leaf0_ (IntKind.i64.wrap (c_9.fst - IntKind.i64.wrap (c_10.fst.tdiv 7)), c_10.snd.fst, c_10.snd.snd))) fail_)) fail_) else (bif c_8.fst == 1 then fail_ else fail_))) fail_) else (leaf0_ (c_6.fst, c_7.snd.fst, c_7.snd.snd)))) fail_)) (fun c_6 => (optC (S.l20Rd_odd_t c_3.fst c_3.snd.fst n_) (fun c_11 => (bif c_11.fst then (optC (S.l20Rd_pick_t c_11.snd.fst c_11.snd.snd 3) (fun c_12 => (bif c_12.fst == 0 then (optC (S.l20Rd_pick_t c_12.snd.fst c_12.snd.snd 64) (fun c_13 => (optC (S.l20Rd_pick_t c_13.snd.fst c_13.snd.snd 8) (fun c_14 => (leaf1_ (IntKind.i64.wrap (c_13.fst - IntKind.i64.wrap (c_14.fst.tdiv 7)), c_14.snd.fst, c_14.snd.snd, c_6.snd.snd.fst, c_6.snd.snd.snd))) fail_)) fail_) else (bif c_12.fst == 1 then fail_ else (bif decide (0 ≤ IntKind.i64.wrap (IntKind.i64.wrap ((↑c_6.snd.snd.snd.length : Int).tdiv 6) * 3)) && decide (IntKind.i64.wrap (IntKind.i64.wrap ((↑c_6.snd.snd.snd.length : Int).tdiv 6) * 3) ≤ (↑c_6.snd.snd.snd.length : Int)) then (leaf2_ (c_6.fst, 0, (IntKind.i64.wrap (IntKind.i64.wrap ((↑c_6.snd.snd.snd.length : Int).tdiv 6) * 3)).toNat, c_12.snd.fst, c_12.snd.snd, c_6.snd.snd.fst, c_6.snd.snd.snd)) else fail_)))) fail_) else (leaf1_ (c_6.fst, c_11.snd.fst, c_11.snd.snd, c_6.snd.snd.fst, c_6.snd.snd.snd)))) fail_)))) fail_)) fail_)) fail_)) fail_)) fail_)
theorem S.l20Post_tree_nat {α γ : Type} (g : α → γ) (rb : List Int) (rp : Int) (n_ : Int) (leaf0_ : Int × (List Int) × Int → α) (leaf1_ : Int × (List Int) × Int × (List Int) × (List Int) → α) (leaf2_ : Int × Nat × Nat × (List Int) × Int × (List Int) × (List Int) → α) (fail_ : α) : g (S.l20Post_tree rb rp n_ leaf0_ leaf1_ leaf2_ fail_) = S.l20Post_tree rb rp n_ (fun d => g (leaf0_ d)) (fun d => g (leaf1_ d)) (fun d => g (leaf2_ d)) (g fail_) := by
  unfold S.l20Post_tree; simp only [apply_cnd g, apply_optC g, apply_sumC g]
noncomputable def S.l20Post_t (rb : List Int) (rp : Int) (n_ : Int) : Option ((Int × (List Int) × Int) ⊕ ((Int × (List Int) × Int × (List Int) × (List Int)) ⊕ (Int × Nat × Nat × (List Int) × Int × (List Int) × (List Int)))) := S.l20Post_tree rb rp n_ (fun d => some ((Sum.inl d))) (fun d => some ((Sum.inr (Sum.inl d)))) (fun d => some ((Sum.inr (Sum.inr d)))) none
theorem S.l20Post_den (rb : List Int) (rp : Int) (n_ : Int) (κ : V → List E → R) : S.l20Post_F [.ptr 0 0, .int .i64 n_] [.cells [.ro true (.ints .u8 rb), .int .i64 rp]] κ = optC (S.l20Post_t rb rp n_) (fun (r : (Int × (List Int) × Int) ⊕ ((Int × (List Int) × Int × (List Int) × (List Int)) ⊕ (Int × Nat × Nat × (List Int) × Int × (List Int) × (List Int)))) => (sumC r (fun (r : Int × (List Int) × Int) => κ (.agg [.nil, (.int .i64 r.1), .nil]) [.cells [(.ro true (.ints .u8 r.2.1)), (.int .i64 r.2.2)]]) (fun (r : (Int × (List Int) × Int × (List Int) × (List Int)) ⊕ (Int × Nat × Nat × (List Int) × Int × (List Int) × (List Int))) => (sumC r (fun (r : Int × (List Int) × Int × (List Int) × (List Int)) => κ (.agg [(.own 1), (.int .i64 r.1), (.own 2)]) [.cells [(.ro true (.ints .u8 r.2.1)), (.int .i64 r.2.2.1)], .row (.ints .i64 r.2.2.2.1), .row (.ints .u8 r.2.2.2.2)]) (fun (r : Int × Nat × Nat × (List Int) × Int × (List Int) × (List Int)) => κ (.agg [(.own 1), (.int .i64 r.1), (.sub 2 r.2.1 r.2.2.1)]) [.cells [(.ro true (.ints .u8 r.2.2.2.1)), (.int .i64 r.2.2.2.2.1)], .row (.ints .i64 r.2.2.2.2.2.1), .row (.ints .u8 r.2.2.2.2.2.2)]))))) none := by
  have hu : S.l20Post_F [.ptr 0 0, .int .i64 n_] [.cells [.ro true (.ints .u8 rb), .int .i64 rp]] κ = S.l20Post_tree rb rp n_ (fun d => κ (.agg [.nil, (.int .i64 d.1), .nil]) [.cells [(.ro true (.ints .u8 d.2.1)), (.int .i64 d.2.2)]]) (fun d => κ (.agg [(.own 1), (.int .i64 d.1), (.own 2)]) [.cells [(.ro true (.ints .u8 d.2.1)), (.int .i64 d.2.2.1)], .row (.ints .i64 d.2.2.2.1), .row (.ints .u8 d.2.2.2.2)]) (fun d => κ (.agg [(.own 1), (.int .i64 d.1), (.sub 2 d.2.1 d.2.2.1)]) [.cells [(.ro true (.ints .u8 d.2.2.2.1)), (.int .i64 d.2.2.2.2.1)], .row (.ints .i64 d.2.2.2.2.2.1), .row (.ints .u8 d.2.2.2.2.2.2)]) none := by
    kernel_rfl
  rw [hu]
  exact (S.l20Post_tree_nat (fun o => optC o (fun (r : (Int × (List Int) × Int) ⊕ ((Int × (List Int) × Int × (List Int) × (List Int)) ⊕ (Int × Nat × Nat × (List Int) × Int × (List Int) × (List Int)))) => (sumC r (fun (r : Int × (List Int) × Int) => κ (.agg [.nil, (.int .i64 r.1), .nil]) [.cells [(.ro true (.ints .u8 r.2.1)), (.int .i64 r.2.2)]]) (fun (r : (Int × (List Int) × Int × (List Int) × (List Int)) ⊕ (Int × Nat × Nat × (List Int) × Int × (List Int) × (List Int))) => (sumC r (fun (r : Int × (List Int) × Int × (List Int) × (List Int)) => κ (.agg [(.own 1), (.int .i64 r.1), (.own 2)]) [.cells [(.ro true (.ints .u8 r.2.1)), (.int .i64 r.2.2.1)], .row (.ints .i64 r.2.2.2.1), .row (.ints .u8 r.2.2.2.2)]) (fun (r : Int × Nat × Nat × (List Int) × Int × (List Int) × (List Int)) => κ (.agg [(.own 1), (.int .i64 r.1), (.sub 2 r.2.1 r.2.2.1)]) [.cells [(.ro true (.ints .u8 r.2.2.2.1)), (.int .i64 r.2.2.2.2.1)], .row (.ints .i64 r.2.2.2.2.2.1), .row (.ints .u8 r.2.2.2.2.2.2)]))))) none) rb rp n_ (fun d => some ((Sum.inl d))) (fun d => some ((Sum.inr (Sum.inl d)))) (fun d => some ((Sum.inr (Sum.inr d)))) none).symm
noncomputable def S.l20Post_s : D.Spec where
  keep := false
  pure := false
  add := false
  ds := [.invalid, .invalid]
  sp := fun args h κ => match args, h with
    | [.ptr 0 0, .int .i64 n_], [.cells [.ro true (.ints .u8 rb), .int .i64 rp]] => optC (S.l20Post_t rb rp n_) (fun (r : (Int × (List Int) × Int) ⊕ ((Int × (List Int) × Int × (List Int) × (List Int)) ⊕ (Int × Nat × Nat × (List Int) × Int × (List Int) × (List Int)))) => (sumC r (fun (r : Int × (List Int) × Int) => κ (.agg [.nil, (.int .i64 r.1), .nil]) [.cells [(.ro true (.ints .u8 r.2.1)), (.int .i64 r.2.2)]]) (fun (r : (Int × (List Int) × Int × (List Int) × (List Int)) ⊕ (Int × Nat × Nat × (List Int) × Int × (List Int) × (List Int))) => (sumC r (fun (r : Int × (List Int) × Int × (List Int) × (List Int)) => κ (.agg [(.own 1), (.int .i64 r.1), (.own 2)]) [.cells [(.ro true (.ints .u8 r.2.1)), (.int .i64 r.2.2.1)], .row (.ints .i64 r.2.2.2.1), .row (.ints .u8 r.2.2.2.2)]) (fun (r : Int × Nat × Nat × (List Int) × Int × (List Int) × (List Int)) => κ (.agg [(.own 1), (.int .i64 r.1), (.sub 2 r.2.1 r.2.2.1)]) [.cells [(.ro true (.ints .u8 r.2.2.2.1)), (.int .i64 r.2.2.2.2.1)], .row (.ints .i64 r.2.2.2.2.2.1), .row (.ints .u8 r.2.2.2.2.2.2)]))))) none
    | _, _ => none
theorem S.l20Post_ok : SpecOk Try.prog 64 S.l20Post_s := by
  refine SpecOk.of TDok mixed (T := S.l20Post_T) ?_ (ann := S.l20Post_ann) Try.func64 rfl (by decide +kernel) ?_ ?_ ?_ ?_
  · intro p hp
    simp only [S.l20Post_T, List.mem_cons, List.not_mem_nil, or_false] at hp
    rcases hp with rfl | rfl | rfl | rfl | rfl | rfl
    · exact S.l20Net_ok
    · exact S.l20Rd_pick_ok
    · exact S.l20Places_ok
    · exact S.LogOf_ok
    · exact S.PostRise_ok
    · exact S.l20Rd_odd_ok
  · intro args h κ r hh
    simp only [S.l20Post_s] at hh
    split at hh
    · exact (S.l20Post_den _ _ _ κ).trans hh
    · cases hh
  · intro args h κ r hh
    simp only [S.l20Post_s] at hh ⊢
    split at hh
    · exact optC_law2 (F := fun (r : (Int × (List Int) × Int) ⊕ ((Int × (List Int) × Int × (List Int) × (List Int)) ⊕ (Int × Nat × Nat × (List Int) × Int × (List Int) × (List Int)))) κ => (sumC r (fun (r : Int × (List Int) × Int) => κ (.agg [.nil, (.int .i64 r.1), .nil]) [.cells [(.ro true (.ints .u8 r.2.1)), (.int .i64 r.2.2)]]) (fun (r : (Int × (List Int) × Int × (List Int) × (List Int)) ⊕ (Int × Nat × Nat × (List Int) × Int × (List Int) × (List Int))) => (sumC r (fun (r : Int × (List Int) × Int × (List Int) × (List Int)) => κ (.agg [(.own 1), (.int .i64 r.1), (.own 2)]) [.cells [(.ro true (.ints .u8 r.2.1)), (.int .i64 r.2.2.1)], .row (.ints .i64 r.2.2.2.1), .row (.ints .u8 r.2.2.2.2)]) (fun (r : Int × Nat × Nat × (List Int) × Int × (List Int) × (List Int)) => κ (.agg [(.own 1), (.int .i64 r.1), (.sub 2 r.2.1 r.2.2.1)]) [.cells [(.ro true (.ints .u8 r.2.2.2.1)), (.int .i64 r.2.2.2.2.1)], .row (.ints .i64 r.2.2.2.2.2.1), .row (.ints .u8 r.2.2.2.2.2.2)]))))) (fun b κ r hb => by rcases b with b | b | b <;> exact ⟨_, _, hb, fun _ => rfl⟩) hh
    · cases hh
  · intro hh; cases hh
  · intro hh; cases hh

-- loop.example/guardsonnets/spec.DrawPostOk
noncomputable def S.DrawPostOk_T : List (Nat × D.Spec) := [(47, S.l20Open_s), (64, S.l20Post_s)]
def S.DrawPostOk_ann : Nat → List Nat × List Nat
  | _ => ([], [])
noncomputable def S.DrawPostOk_F (args : List V) (h : List E) (κ : V → List E → R) : R := funC TD (tableK S.DrawPostOk_T) S.DrawPostOk_ann (drawOk TD (tableP S.DrawPostOk_T)) FUEL Try.f33 args h κ
noncomputable def S.DrawPostOk_tree {α : Type} (code : List Int) (leaf0_ : Int → α) (leaf1_ : Int × (List Int) × (List Int) → α) (leaf2_ : Int × Nat × Nat × (List Int) × (List Int) → α) (fail_ : α) : α :=
  (optC (S.l20Open_t code) (fun c_1 => (optC (S.l20Post_t c_1.fst c_1.snd 3) (fun c_2 => (sumC c_2 (fun c_3 => (leaf0_ c_3.fst)) (fun c_3 => (sumC c_3 (fun c_4 => (leaf1_ (c_4.fst, c_4.snd.snd.snd.fst, c_4.snd.snd.snd.snd))) (fun c_4 => (leaf2_ (c_4.fst, c_4.snd.fst, c_4.snd.snd.fst, c_4.snd.snd.snd.snd.snd.fst, c_4.snd.snd.snd.snd.snd.snd))))))) fail_)) fail_)
theorem S.DrawPostOk_tree_nat {α γ : Type} (g : α → γ) (code : List Int) (leaf0_ : Int → α) (leaf1_ : Int × (List Int) × (List Int) → α) (leaf2_ : Int × Nat × Nat × (List Int) × (List Int) → α) (fail_ : α) : g (S.DrawPostOk_tree code leaf0_ leaf1_ leaf2_ fail_) = S.DrawPostOk_tree code (fun d => g (leaf0_ d)) (fun d => g (leaf1_ d)) (fun d => g (leaf2_ d)) (g fail_) := by
  unfold S.DrawPostOk_tree; simp only [apply_cnd g, apply_optC g, apply_sumC g]
noncomputable def S.DrawPostOk_t (code : List Int) : Option ((Int) ⊕ ((Int × (List Int) × (List Int)) ⊕ (Int × Nat × Nat × (List Int) × (List Int)))) := S.DrawPostOk_tree code (fun d => some ((Sum.inl d))) (fun d => some ((Sum.inr (Sum.inl d)))) (fun d => some ((Sum.inr (Sum.inr d)))) none
theorem S.DrawPostOk_den (code : List Int) (κ : V → List E → R) : S.DrawPostOk_F [.ro true (.ints .u8 code)] [] κ = optC (S.DrawPostOk_t code) (fun (r : (Int) ⊕ ((Int × (List Int) × (List Int)) ⊕ (Int × Nat × Nat × (List Int) × (List Int)))) => (sumC r (fun (r : Int) => κ (.agg [.nil, (.int .i64 r), .nil]) []) (fun (r : (Int × (List Int) × (List Int)) ⊕ (Int × Nat × Nat × (List Int) × (List Int))) => (sumC r (fun (r : Int × (List Int) × (List Int)) => κ (.agg [(.own 0), (.int .i64 r.1), (.own 1)]) [.row (.ints .i64 r.2.1), .row (.ints .u8 r.2.2)]) (fun (r : Int × Nat × Nat × (List Int) × (List Int)) => κ (.agg [(.own 0), (.int .i64 r.1), (.sub 1 r.2.1 r.2.2.1)]) [.row (.ints .i64 r.2.2.2.1), .row (.ints .u8 r.2.2.2.2)]))))) none := by
  have hu : S.DrawPostOk_F [.ro true (.ints .u8 code)] [] κ = S.DrawPostOk_tree code (fun d => κ (.agg [.nil, (.int .i64 d), .nil]) []) (fun d => κ (.agg [(.own 0), (.int .i64 d.1), (.own 1)]) [.row (.ints .i64 d.2.1), .row (.ints .u8 d.2.2)]) (fun d => κ (.agg [(.own 0), (.int .i64 d.1), (.sub 1 d.2.1 d.2.2.1)]) [.row (.ints .i64 d.2.2.2.1), .row (.ints .u8 d.2.2.2.2)]) none := by
    kernel_rfl
  rw [hu]
  exact (S.DrawPostOk_tree_nat (fun o => optC o (fun (r : (Int) ⊕ ((Int × (List Int) × (List Int)) ⊕ (Int × Nat × Nat × (List Int) × (List Int)))) => (sumC r (fun (r : Int) => κ (.agg [.nil, (.int .i64 r), .nil]) []) (fun (r : (Int × (List Int) × (List Int)) ⊕ (Int × Nat × Nat × (List Int) × (List Int))) => (sumC r (fun (r : Int × (List Int) × (List Int)) => κ (.agg [(.own 0), (.int .i64 r.1), (.own 1)]) [.row (.ints .i64 r.2.1), .row (.ints .u8 r.2.2)]) (fun (r : Int × Nat × Nat × (List Int) × (List Int)) => κ (.agg [(.own 0), (.int .i64 r.1), (.sub 1 r.2.1 r.2.2.1)]) [.row (.ints .i64 r.2.2.2.1), .row (.ints .u8 r.2.2.2.2)]))))) none) code (fun d => some ((Sum.inl d))) (fun d => some ((Sum.inr (Sum.inl d)))) (fun d => some ((Sum.inr (Sum.inr d)))) none).symm
noncomputable def S.DrawPostOk_s : D.Spec where
  keep := true
  pure := false
  add := true
  ds := [.int .u8]
  sp := fun args h κ => match args, h with
    | [.ro true (.ints .u8 code)], [] => optC (S.DrawPostOk_t code) (fun (r : (Int) ⊕ ((Int × (List Int) × (List Int)) ⊕ (Int × Nat × Nat × (List Int) × (List Int)))) => (sumC r (fun (r : Int) => κ (.agg [.nil, (.int .i64 r), .nil]) []) (fun (r : (Int × (List Int) × (List Int)) ⊕ (Int × Nat × Nat × (List Int) × (List Int))) => (sumC r (fun (r : Int × (List Int) × (List Int)) => κ (.agg [(.own 0), (.int .i64 r.1), (.own 1)]) [.row (.ints .i64 r.2.1), .row (.ints .u8 r.2.2)]) (fun (r : Int × Nat × Nat × (List Int) × (List Int)) => κ (.agg [(.own 0), (.int .i64 r.1), (.sub 1 r.2.1 r.2.2.1)]) [.row (.ints .i64 r.2.2.2.1), .row (.ints .u8 r.2.2.2.2)]))))) none
    | _, _ => none
theorem S.DrawPostOk_ok : SpecOk Try.prog 33 S.DrawPostOk_s := by
  refine SpecOk.of TDok mixed (T := S.DrawPostOk_T) ?_ (ann := S.DrawPostOk_ann) Try.func33 rfl (by decide +kernel) ?_ ?_ ?_ ?_
  · intro p hp
    simp only [S.DrawPostOk_T, List.mem_cons, List.not_mem_nil, or_false] at hp
    rcases hp with rfl | rfl
    · exact S.l20Open_ok
    · exact S.l20Post_ok
  · intro args h κ r hh
    simp only [S.DrawPostOk_s] at hh
    split at hh
    · exact (S.DrawPostOk_den _ κ).trans hh
    · cases hh
  · intro args h κ r hh
    simp only [S.DrawPostOk_s] at hh ⊢
    split at hh
    · exact optC_law2 (F := fun (r : (Int) ⊕ ((Int × (List Int) × (List Int)) ⊕ (Int × Nat × Nat × (List Int) × (List Int)))) κ => (sumC r (fun (r : Int) => κ (.agg [.nil, (.int .i64 r), .nil]) []) (fun (r : (Int × (List Int) × (List Int)) ⊕ (Int × Nat × Nat × (List Int) × (List Int))) => (sumC r (fun (r : Int × (List Int) × (List Int)) => κ (.agg [(.own 0), (.int .i64 r.1), (.own 1)]) [.row (.ints .i64 r.2.1), .row (.ints .u8 r.2.2)]) (fun (r : Int × Nat × Nat × (List Int) × (List Int)) => κ (.agg [(.own 0), (.int .i64 r.1), (.sub 1 r.2.1 r.2.2.1)]) [.row (.ints .i64 r.2.2.2.1), .row (.ints .u8 r.2.2.2.2)]))))) (fun b κ r hb => by rcases b with b | b | b <;> exact ⟨_, _, hb, fun _ => rfl⟩) hh
    · cases hh
  · intro hh; cases hh
  · intro _ args h κ r hh
    simp only [S.DrawPostOk_s] at hh
    split at hh
    · rfl
    · cases hh

-- loop.example/guardsonnets/spec.PostOk
noncomputable def S.PostOk_T : List (Nat × D.Spec) := [(45, S.LogPlaces_s), (48, S.NetOk_s), (62, S.l17Last_s)]
def S.PostOk_ann : Nat → List Nat × List Nat
  | _ => ([], [])
noncomputable def S.PostOk_F (args : List V) (h : List E) (κ : V → List E → R) : R := funC TD (tableK S.PostOk_T) S.PostOk_ann (drawOk TD (tableP S.PostOk_T)) FUEL Try.f34 args h κ
noncomputable def S.PostOk_tree {α : Type} (p0 : List Int) (p1 : Int) (p2 : List Int) (leaf0_ : Bool → α) (fail_ : α) : α :=
  (optC (S.LogPlaces_t p2) (fun c_1 => (optC (S.NetOk_t p0) (fun c_2 => (bif c_2 then (bif c_1.fst == (↑p2.length : Int) then (bif decide (p1 ≥ 0) then (optC (S.l17Last_t p0 c_1.snd) (fun c_3 => (leaf0_ (c_3 == p1))) fail_) else (leaf0_ false)) else (leaf0_ false)) else (leaf0_ false))) fail_)) fail_)
theorem S.PostOk_tree_nat {α γ : Type} (g : α → γ) (p0 : List Int) (p1 : Int) (p2 : List Int) (leaf0_ : Bool → α) (fail_ : α) : g (S.PostOk_tree p0 p1 p2 leaf0_ fail_) = S.PostOk_tree p0 p1 p2 (fun d => g (leaf0_ d)) (g fail_) := by
  unfold S.PostOk_tree; simp only [apply_cnd g, apply_optC g, apply_sumC g]
noncomputable def S.PostOk_t (p0 : List Int) (p1 : Int) (p2 : List Int) : Option (Bool) := S.PostOk_tree p0 p1 p2 (fun d => some d) none
theorem S.PostOk_den (p0 : List Int) (p1 : Int) (p2 : List Int) (κ : V → List E → R) : S.PostOk_F [.agg [.ro false (.ints .i64 p0), .int .i64 p1, .ro false (.ints .u8 p2)]] [] κ = optC (S.PostOk_t p0 p1 p2) (fun (r : Bool) => κ (.bool r) []) none := by
  have hu : S.PostOk_F [.agg [.ro false (.ints .i64 p0), .int .i64 p1, .ro false (.ints .u8 p2)]] [] κ = S.PostOk_tree p0 p1 p2 (fun d => κ (.bool d) []) none := by
    kernel_rfl
  rw [hu]
  exact (S.PostOk_tree_nat (fun o => optC o (fun (r : Bool) => κ (.bool r) []) none) p0 p1 p2 (fun d => some d) none).symm
noncomputable def S.PostOk_s : D.Spec where
  keep := false
  pure := true
  add := true
  ds := [.tuple #[1, 0, 2]]
  sp := fun args h κ => match args, h with
    | [.agg [.ro false (.ints .i64 p0), .int .i64 p1, .ro false (.ints .u8 p2)]], [] => optC (S.PostOk_t p0 p1 p2) (fun (r : Bool) => κ (.bool r) []) none
    | _, _ => none
theorem S.PostOk_ok : SpecOk Try.prog 34 S.PostOk_s := by
  refine SpecOk.of TDok mixed (T := S.PostOk_T) ?_ (ann := S.PostOk_ann) Try.func34 rfl (by decide +kernel) ?_ ?_ ?_ ?_
  · intro p hp
    simp only [S.PostOk_T, List.mem_cons, List.not_mem_nil, or_false] at hp
    rcases hp with rfl | rfl | rfl
    · exact S.LogPlaces_ok
    · exact S.NetOk_ok
    · exact S.l17Last_ok
  · intro args h κ r hh
    simp only [S.PostOk_s] at hh
    split at hh
    · exact (S.PostOk_den _ _ _ κ).trans hh
    · cases hh
  · intro args h κ r hh
    simp only [S.PostOk_s] at hh ⊢
    split at hh
    · exact optC_law2 (F := fun (r : Bool) κ => κ (.bool r) []) (fun b κ r hb => ⟨_, _, hb, fun _ => rfl⟩) hh
    · cases hh
  · intro _ args h κ r hh
    simp only [S.PostOk_s] at hh
    split at hh
    · exact ⟨rfl, fun _ => rfl⟩
    · cases hh
  · intro _ args h κ r hh
    simp only [S.PostOk_s] at hh
    split at hh
    · rfl
    · cases hh

-- loop.example/guardsonnets/impl.EternalOk
noncomputable def I.EternalOk_T : List (Nat × D.Spec) := [(17, I.NetOk_s), (51, I.setIn_s), (65, I.eternalIn_s)]
def I.EternalOk_ann : Nat → List Nat × List Nat
  | _ => ([], [])
noncomputable def I.EternalOk_F (args : List V) (h : List E) (κ : V → List E → R) : R := funC TD (tableK I.EternalOk_T) I.EternalOk_ann (drawOk TD (tableP I.EternalOk_T)) FUEL Try.f35 args h κ
noncomputable def I.EternalOk_tree {α : Type} (net : List Int) (set_ : Int) (leaf0_ : Bool → α) (fail_ : α) : α :=
  (optC (I.NetOk_t net) (fun c_1 => (bif c_1 then (optC (I.setIn_t net set_) (fun c_2 => (bif c_2 then (optC (I.eternalIn_t net) (fun c_3 => (bif decide (0 ≤ set_) && decide (set_ < (↑c_3.length : Int)) then (bif decide (set_.toNat < c_3.length) then (leaf0_ (elb c_3 set_.toNat)) else fail_) else fail_)) fail_) else (leaf0_ false))) fail_) else (leaf0_ false))) fail_)
theorem I.EternalOk_tree_nat {α γ : Type} (g : α → γ) (net : List Int) (set_ : Int) (leaf0_ : Bool → α) (fail_ : α) : g (I.EternalOk_tree net set_ leaf0_ fail_) = I.EternalOk_tree net set_ (fun d => g (leaf0_ d)) (g fail_) := by
  unfold I.EternalOk_tree; simp only [apply_cnd g, apply_optC g, apply_sumC g]
noncomputable def I.EternalOk_t (net : List Int) (set_ : Int) : Option (Bool) := I.EternalOk_tree net set_ (fun d => some d) none
theorem I.EternalOk_den (net : List Int) (set_ : Int) (κ : V → List E → R) : I.EternalOk_F [.ro false (.ints .i64 net), .int .i64 set_] [] κ = optC (I.EternalOk_t net set_) (fun (r : Bool) => κ (.bool r) []) none := by
  have hu : I.EternalOk_F [.ro false (.ints .i64 net), .int .i64 set_] [] κ = I.EternalOk_tree net set_ (fun d => κ (.bool d) []) none := by
    kernel_rfl
  rw [hu]
  exact (I.EternalOk_tree_nat (fun o => optC o (fun (r : Bool) => κ (.bool r) []) none) net set_ (fun d => some d) none).symm
noncomputable def I.EternalOk_s : D.Spec where
  keep := false
  pure := true
  add := true
  ds := [.int .i64, .invalid]
  sp := fun args h κ => match args, h with
    | [.ro false (.ints .i64 net), .int .i64 set_], [] => optC (I.EternalOk_t net set_) (fun (r : Bool) => κ (.bool r) []) none
    | _, _ => none
theorem I.EternalOk_ok : SpecOk Try.prog 35 I.EternalOk_s := by
  refine SpecOk.of TDok mixed (T := I.EternalOk_T) ?_ (ann := I.EternalOk_ann) Try.func35 rfl (by decide +kernel) ?_ ?_ ?_ ?_
  · intro p hp
    simp only [I.EternalOk_T, List.mem_cons, List.not_mem_nil, or_false] at hp
    rcases hp with rfl | rfl | rfl
    · exact I.NetOk_ok
    · exact I.setIn_ok
    · exact I.eternalIn_ok
  · intro args h κ r hh
    simp only [I.EternalOk_s] at hh
    split at hh
    · exact (I.EternalOk_den _ _ κ).trans hh
    · cases hh
  · intro args h κ r hh
    simp only [I.EternalOk_s] at hh ⊢
    split at hh
    · exact optC_law2 (F := fun (r : Bool) κ => κ (.bool r) []) (fun b κ r hb => ⟨_, _, hb, fun _ => rfl⟩) hh
    · cases hh
  · intro _ args h κ r hh
    simp only [I.EternalOk_s] at hh
    split at hh
    · exact ⟨rfl, fun _ => rfl⟩
    · cases hh
  · intro _ args h κ r hh
    simp only [I.EternalOk_s] at hh
    split at hh
    · rfl
    · cases hh

-- loop.example/guardsonnets/laws.FnPostOk
noncomputable def L.FnPostOk_T : List (Nat × D.Spec) := [(33, S.DrawPostOk_s), (20, I.PostOk_s), (34, S.PostOk_s), (19, I.PostRise_s), (16, L.samePost_s), (35, I.EternalOk_s), (18, L.alive_s)]
def L.FnPostOk_ann : Nat → List Nat × List Nat
  | _ => ([], [])
noncomputable def L.FnPostOk_F (args : List V) (h : List E) (κ : V → List E → R) : R := funC TD (tableK L.FnPostOk_T) L.FnPostOk_ann (drawOk TD (tableP L.FnPostOk_T)) FUEL Try.f7 args h κ
noncomputable def L.FnPostOk_tree {α : Type} (code : List Int) (leaf0_ : Bool → α) (fail_ : α) : α :=
  (bif decide ((↑code.length : Int) > 1048576) then (leaf0_ true) else (optC (S.DrawPostOk_t code) (fun c_1 => (sumC c_1 (fun c_2 => (optC (I.PostOk_t [] c_2 []) (fun c_3 => (optC (S.PostOk_t [] c_2 []) (fun c_4 => (bif !c_3 == c_4 then (leaf0_ false) else (optC (I.PostRise_t [] []) (fun c_5 => (sumC c_5 (fun c_6 => (bif c_6.snd then (optC (L.samePost_t [] c_6.fst [] [] c_2 []) (fun c_7 => (bif c_3 == c_7 then (bif !c_3 then (optC (L.alive_t) (fun c_8 => (leaf0_ c_8)) fail_) else (optC (I.EternalOk_t [] c_2) (fun c_9 => (bif c_9 then (optC (L.alive_t) (fun c_10 => (leaf0_ c_10)) fail_) else (leaf0_ false))) fail_)) else (leaf0_ false))) fail_) else (bif c_3 == false then (bif !c_3 then (optC (L.alive_t) (fun c_11 => (leaf0_ c_11)) fail_) else (optC (I.EternalOk_t [] c_2) (fun c_12 => (bif c_12 then (optC (L.alive_t) (fun c_13 => (leaf0_ c_13)) fail_) else (leaf0_ false))) fail_)) else (leaf0_ false)))) (fun c_6 => (bif c_6.snd.fst then (optC (L.samePost_t c_6.snd.snd.fst c_6.fst c_6.snd.snd.snd [] c_2 []) (fun c_14 => (bif c_3 == c_14 then (bif !c_3 then (optC (L.alive_t) (fun c_15 => (leaf0_ c_15)) fail_) else (optC (I.EternalOk_t [] c_2) (fun c_16 => (bif c_16 then (optC (L.alive_t) (fun c_17 => (leaf0_ c_17)) fail_) else (leaf0_ false))) fail_)) else (leaf0_ false))) fail_) else (bif c_3 == false then (bif !c_3 then (optC (L.alive_t) (fun c_18 => (leaf0_ c_18)) fail_) else (optC (I.EternalOk_t [] c_2) (fun c_19 => (bif c_19 then (optC (L.alive_t) (fun c_20 => (leaf0_ c_20)) fail_) else (leaf0_ false))) fail_)) else (leaf0_ false)))))) fail_))) fail_)) fail_)) (fun c_2 => (sumC c_2 (fun c_21 => (optC (I.PostOk_t c_21.snd.fst c_21.fst c_21.snd.snd) (fun c_22 => (optC (S.PostOk_t c_21.snd.fst c_21.fst c_21.snd.snd) (fun c_23 => (bif !c_22 == c_23 then (leaf0_ false) else (optC (I.PostRise_t c_21.snd.fst c_21.snd.snd) (fun c_24 => (sumC c_24 (fun c_25 => (bif c_25.snd then (optC (L.samePost_t [] c_25.fst [] c_21.snd.fst c_21.fst c_21.snd.snd) (fun c_26 => (bif c_22 == c_26 then (bif !c_22 then (optC (L.alive_t) (fun c_27 => (leaf0_ c_27)) fail_) else (optC (I.EternalOk_t c_21.snd.fst c_21.fst) (fun c_28 => (bif c_28 then (optC (L.alive_t) (fun c_29 => (leaf0_ c_29)) fail_) else (leaf0_ false))) fail_)) else (leaf0_ false))) fail_) else (bif c_22 == false then (bif !c_22 then (optC (L.alive_t) (fun c_30 => (leaf0_ c_30)) fail_) else (optC (I.EternalOk_t c_21.snd.fst c_21.fst) (fun c_31 => (bif c_31 then (optC (L.alive_t) (fun c_32 => (leaf0_ c_32)) fail_) else (leaf0_ false))) fail_)) else (leaf0_ false)))) (fun c_25 => (bif c_25.snd.fst then (optC (L.samePost_t c_25.snd.snd.fst c_25.fst c_25.snd.snd.snd c_21.snd.fst c_21.fst c_21.snd.snd) (fun c_33 => (bif c_22 == c_33 then (bif !c_22 then (optC (L.alive_t) (fun c_34 => (leaf0_ c_34)) fail_) else (optC (I.EternalOk_t c_21.snd.fst c_21.fst) (fun c_35 => (bif c_35 then (optC (L.alive_t) (fun c_36 => (leaf0_ c_36)) fail_) else (leaf0_ false))) fail_)) else (leaf0_ false))) fail_) else (bif c_22 == false then (bif !c_22 then (optC (L.alive_t) (fun c_37 => (leaf0_ c_37)) fail_) else (optC (I.EternalOk_t c_21.snd.fst c_21.fst) (fun c_38 => (bif c_38 then (optC (L.alive_t) (fun c_39 => (leaf0_ c_39)) fail_) else (leaf0_ false))) fail_)) else (leaf0_ false)))))) fail_))) fail_)) fail_)) (fun c_21 => fail_))))) fail_))
theorem L.FnPostOk_tree_nat {α γ : Type} (g : α → γ) (code : List Int) (leaf0_ : Bool → α) (fail_ : α) : g (L.FnPostOk_tree code leaf0_ fail_) = L.FnPostOk_tree code (fun d => g (leaf0_ d)) (g fail_) := by
  unfold L.FnPostOk_tree; simp only [apply_cnd g, apply_optC g, apply_sumC g]
noncomputable def L.FnPostOk_t (code : List Int) : Option (Bool) := L.FnPostOk_tree code (fun d => some d) none
theorem L.FnPostOk_den (code : List Int) (κ : V → List E → R) : L.FnPostOk_F [.ro true (.ints .u8 code)] [] κ = optC (L.FnPostOk_t code) (fun (r : Bool) => κ (.bool r) []) none := by
  have hu : L.FnPostOk_F [.ro true (.ints .u8 code)] [] κ = L.FnPostOk_tree code (fun d => κ (.bool d) []) none := by
    kernel_rfl
  rw [hu]
  exact (L.FnPostOk_tree_nat (fun o => optC o (fun (r : Bool) => κ (.bool r) []) none) code (fun d => some d) none).symm
noncomputable def L.FnPostOk_s : D.Spec where
  keep := true
  pure := true
  add := true
  ds := [.int .u8]
  sp := fun args h κ => match args, h with
    | [.ro true (.ints .u8 code)], [] => optC (L.FnPostOk_t code) (fun (r : Bool) => κ (.bool r) []) none
    | _, _ => none
theorem L.FnPostOk_ok : SpecOk Try.prog 7 L.FnPostOk_s := by
  refine SpecOk.of TDok mixed (T := L.FnPostOk_T) ?_ (ann := L.FnPostOk_ann) Try.func7 rfl (by decide +kernel) ?_ ?_ ?_ ?_
  · intro p hp
    simp only [L.FnPostOk_T, List.mem_cons, List.not_mem_nil, or_false] at hp
    rcases hp with rfl | rfl | rfl | rfl | rfl | rfl | rfl
    · exact S.DrawPostOk_ok
    · exact I.PostOk_ok
    · exact S.PostOk_ok
    · exact I.PostRise_ok
    · exact L.samePost_ok
    · exact I.EternalOk_ok
    · exact L.alive_ok
  · intro args h κ r hh
    simp only [L.FnPostOk_s] at hh
    split at hh
    · exact (L.FnPostOk_den _ κ).trans hh
    · cases hh
  · intro args h κ r hh
    simp only [L.FnPostOk_s] at hh ⊢
    split at hh
    · exact optC_law2 (F := fun (r : Bool) κ => κ (.bool r) []) (fun b κ r hb => ⟨_, _, hb, fun _ => rfl⟩) hh
    · cases hh
  · intro _ args h κ r hh
    simp only [L.FnPostOk_s] at hh
    split at hh
    · exact ⟨rfl, fun _ => rfl⟩
    · cases hh
  · intro _ args h κ r hh
    simp only [L.FnPostOk_s] at hh
    split at hh
    · rfl
    · cases hh

-- loop.example/guardsonnets/laws.szIntS
noncomputable def L.szIntS_T : List (Nat × D.Spec) := []
def L.szIntS_ann : Nat → List Nat × List Nat
  | _ => ([], [])
noncomputable def L.szIntS_F (args : List V) (h : List E) (κ : V → List E → R) : R := funC TD (tableK L.szIntS_T) L.szIntS_ann (drawOk TD (tableP L.szIntS_T)) FUEL Try.f66 args h κ
noncomputable def L.szIntS_tree {α : Type} (a : List Int) (left_ : Int) (leaf0_ : Int → α) (fail_ : α) : α :=
  (bif decide (IntKind.i64.wrap (left_ - (↑a.length : Int)) < 0) then (leaf0_ (-1)) else (leaf0_ (IntKind.i64.wrap (left_ - (↑a.length : Int)))))
theorem L.szIntS_tree_nat {α γ : Type} (g : α → γ) (a : List Int) (left_ : Int) (leaf0_ : Int → α) (fail_ : α) : g (L.szIntS_tree a left_ leaf0_ fail_) = L.szIntS_tree a left_ (fun d => g (leaf0_ d)) (g fail_) := by
  unfold L.szIntS_tree; simp only [apply_cnd g, apply_optC g, apply_sumC g]
noncomputable def L.szIntS_t (a : List Int) (left_ : Int) : Option (Int) := L.szIntS_tree a left_ (fun d => some d) none
theorem L.szIntS_den (a : List Int) (left_ : Int) (κ : V → List E → R) : L.szIntS_F [.ro false (.ints .i64 a), .int .i64 left_] [] κ = optC (L.szIntS_t a left_) (fun (r : Int) => κ (.int .i64 r) []) none := by
  have hu : L.szIntS_F [.ro false (.ints .i64 a), .int .i64 left_] [] κ = L.szIntS_tree a left_ (fun d => κ (.int .i64 d) []) none := by
    kernel_rfl
  rw [hu]
  exact (L.szIntS_tree_nat (fun o => optC o (fun (r : Int) => κ (.int .i64 r) []) none) a left_ (fun d => some d) none).symm
noncomputable def L.szIntS_s : D.Spec where
  keep := false
  pure := true
  add := true
  ds := [.int .i64, .invalid]
  sp := fun args h κ => match args, h with
    | [.ro false (.ints .i64 a), .int .i64 left_], [] => optC (L.szIntS_t a left_) (fun (r : Int) => κ (.int .i64 r) []) none
    | _, _ => none
theorem L.szIntS_ok : SpecOk Try.prog 66 L.szIntS_s := by
  refine SpecOk.of TDok mixed (T := L.szIntS_T) ?_ (ann := L.szIntS_ann) Try.func66 rfl (by decide +kernel) ?_ ?_ ?_ ?_
  · intro p hp; cases hp
  · intro args h κ r hh
    simp only [L.szIntS_s] at hh
    split at hh
    · exact (L.szIntS_den _ _ κ).trans hh
    · cases hh
  · intro args h κ r hh
    simp only [L.szIntS_s] at hh ⊢
    split at hh
    · exact optC_law2 (F := fun (r : Int) κ => κ (.int .i64 r) []) (fun b κ r hb => ⟨_, _, hb, fun _ => rfl⟩) hh
    · cases hh
  · intro _ args h κ r hh
    simp only [L.szIntS_s] at hh
    split at hh
    · exact ⟨rfl, fun _ => rfl⟩
    · cases hh
  · intro _ args h κ r hh
    simp only [L.szIntS_s] at hh
    split at hh
    · rfl
    · cases hh

-- loop.example/guardsonnets/laws.szByteS
noncomputable def L.szByteS_T : List (Nat × D.Spec) := []
def L.szByteS_ann : Nat → List Nat × List Nat
  | _ => ([], [])
noncomputable def L.szByteS_F (args : List V) (h : List E) (κ : V → List E → R) : R := funC TD (tableK L.szByteS_T) L.szByteS_ann (drawOk TD (tableP L.szByteS_T)) FUEL Try.f67 args h κ
noncomputable def L.szByteS_tree {α : Type} (a : List Int) (left_ : Int) (leaf0_ : Int → α) (fail_ : α) : α :=
  (bif decide (IntKind.i64.wrap (left_ - (↑a.length : Int)) < 0) then (leaf0_ (-1)) else (leaf0_ (IntKind.i64.wrap (left_ - (↑a.length : Int)))))
theorem L.szByteS_tree_nat {α γ : Type} (g : α → γ) (a : List Int) (left_ : Int) (leaf0_ : Int → α) (fail_ : α) : g (L.szByteS_tree a left_ leaf0_ fail_) = L.szByteS_tree a left_ (fun d => g (leaf0_ d)) (g fail_) := by
  unfold L.szByteS_tree; simp only [apply_cnd g, apply_optC g, apply_sumC g]
noncomputable def L.szByteS_t (a : List Int) (left_ : Int) : Option (Int) := L.szByteS_tree a left_ (fun d => some d) none
theorem L.szByteS_den (a : List Int) (left_ : Int) (κ : V → List E → R) : L.szByteS_F [.ro false (.ints .u8 a), .int .i64 left_] [] κ = optC (L.szByteS_t a left_) (fun (r : Int) => κ (.int .i64 r) []) none := by
  have hu : L.szByteS_F [.ro false (.ints .u8 a), .int .i64 left_] [] κ = L.szByteS_tree a left_ (fun d => κ (.int .i64 d) []) none := by
    kernel_rfl
  rw [hu]
  exact (L.szByteS_tree_nat (fun o => optC o (fun (r : Int) => κ (.int .i64 r) []) none) a left_ (fun d => some d) none).symm
noncomputable def L.szByteS_s : D.Spec where
  keep := false
  pure := true
  add := true
  ds := [.int .u8, .invalid]
  sp := fun args h κ => match args, h with
    | [.ro false (.ints .u8 a), .int .i64 left_], [] => optC (L.szByteS_t a left_) (fun (r : Int) => κ (.int .i64 r) []) none
    | _, _ => none
theorem L.szByteS_ok : SpecOk Try.prog 67 L.szByteS_s := by
  refine SpecOk.of TDok mixed (T := L.szByteS_T) ?_ (ann := L.szByteS_ann) Try.func67 rfl (by decide +kernel) ?_ ?_ ?_ ?_
  · intro p hp; cases hp
  · intro args h κ r hh
    simp only [L.szByteS_s] at hh
    split at hh
    · exact (L.szByteS_den _ _ κ).trans hh
    · cases hh
  · intro args h κ r hh
    simp only [L.szByteS_s] at hh ⊢
    split at hh
    · exact optC_law2 (F := fun (r : Int) κ => κ (.int .i64 r) []) (fun b κ r hb => ⟨_, _, hb, fun _ => rfl⟩) hh
    · cases hh
  · intro _ args h κ r hh
    simp only [L.szByteS_s] at hh
    split at hh
    · exact ⟨rfl, fun _ => rfl⟩
    · cases hh
  · intro _ args h κ r hh
    simp only [L.szByteS_s] at hh
    split at hh
    · rfl
    · cases hh

-- loop.example/guardsonnets/laws.szPost
noncomputable def L.szPost_T : List (Nat × D.Spec) := [(66, L.szIntS_s), (67, L.szByteS_s)]
def L.szPost_ann : Nat → List Nat × List Nat
  | _ => ([], [])
noncomputable def L.szPost_F (args : List V) (h : List E) (κ : V → List E → R) : R := funC TD (tableK L.szPost_T) L.szPost_ann (drawOk TD (tableP L.szPost_T)) FUEL Try.f36 args h κ
noncomputable def L.szPost_tree {α : Type} (a0 : List Int) (a1 : Int) (a2 : List Int) (left_ : Int) (leaf0_ : Int → α) (fail_ : α) : α :=
  (optC (L.szIntS_t a0 left_) (fun c_1 => (bif decide (c_1 < 0) then (leaf0_ (-1)) else (optC (L.szByteS_t a2 c_1) (fun c_2 => (bif decide (c_2 < 0) then (leaf0_ (-1)) else (leaf0_ c_2))) fail_))) fail_)
theorem L.szPost_tree_nat {α γ : Type} (g : α → γ) (a0 : List Int) (a1 : Int) (a2 : List Int) (left_ : Int) (leaf0_ : Int → α) (fail_ : α) : g (L.szPost_tree a0 a1 a2 left_ leaf0_ fail_) = L.szPost_tree a0 a1 a2 left_ (fun d => g (leaf0_ d)) (g fail_) := by
  unfold L.szPost_tree; simp only [apply_cnd g, apply_optC g, apply_sumC g]
noncomputable def L.szPost_t (a0 : List Int) (a1 : Int) (a2 : List Int) (left_ : Int) : Option (Int) := L.szPost_tree a0 a1 a2 left_ (fun d => some d) none
theorem L.szPost_den (a0 : List Int) (a1 : Int) (a2 : List Int) (left_ : Int) (κ : V → List E → R) : L.szPost_F [.agg [.ro false (.ints .i64 a0), .int .i64 a1, .ro false (.ints .u8 a2)], .int .i64 left_] [] κ = optC (L.szPost_t a0 a1 a2 left_) (fun (r : Int) => κ (.int .i64 r) []) none := by
  have hu : L.szPost_F [.agg [.ro false (.ints .i64 a0), .int .i64 a1, .ro false (.ints .u8 a2)], .int .i64 left_] [] κ = L.szPost_tree a0 a1 a2 left_ (fun d => κ (.int .i64 d) []) none := by
    kernel_rfl
  rw [hu]
  exact (L.szPost_tree_nat (fun o => optC o (fun (r : Int) => κ (.int .i64 r) []) none) a0 a1 a2 left_ (fun d => some d) none).symm
noncomputable def L.szPost_s : D.Spec where
  keep := false
  pure := true
  add := true
  ds := [.tuple #[1, 0, 2], .invalid]
  sp := fun args h κ => match args, h with
    | [.agg [.ro false (.ints .i64 a0), .int .i64 a1, .ro false (.ints .u8 a2)], .int .i64 left_], [] => optC (L.szPost_t a0 a1 a2 left_) (fun (r : Int) => κ (.int .i64 r) []) none
    | _, _ => none
theorem L.szPost_ok : SpecOk Try.prog 36 L.szPost_s := by
  refine SpecOk.of TDok mixed (T := L.szPost_T) ?_ (ann := L.szPost_ann) Try.func36 rfl (by decide +kernel) ?_ ?_ ?_ ?_
  · intro p hp
    simp only [L.szPost_T, List.mem_cons, List.not_mem_nil, or_false] at hp
    rcases hp with rfl | rfl
    · exact L.szIntS_ok
    · exact L.szByteS_ok
  · intro args h κ r hh
    simp only [L.szPost_s] at hh
    split at hh
    · exact (L.szPost_den _ _ _ _ κ).trans hh
    · cases hh
  · intro args h κ r hh
    simp only [L.szPost_s] at hh ⊢
    split at hh
    · exact optC_law2 (F := fun (r : Int) κ => κ (.int .i64 r) []) (fun b κ r hb => ⟨_, _, hb, fun _ => rfl⟩) hh
    · cases hh
  · intro _ args h κ r hh
    simp only [L.szPost_s] at hh
    split at hh
    · exact ⟨rfl, fun _ => rfl⟩
    · cases hh
  · intro _ args h κ r hh
    simp only [L.szPost_s] at hh
    split at hh
    · rfl
    · cases hh

-- loop.example/guardsonnets/laws.toPost
noncomputable def L.toPost_T : List (Nat × D.Spec) := [(22, L.toIntS_s), (30, L.toByteS_s)]
def L.toPost_ann : Nat → List Nat × List Nat
  | _ => ([], [])
noncomputable def L.toPost_F (args : List V) (h : List E) (κ : V → List E → R) : R := funC TD (tableK L.toPost_T) L.toPost_ann (drawOk TD (tableP L.toPost_T)) FUEL Try.f37 args h κ
noncomputable def L.toPost_tree {α : Type} (a0 : List Int) (a1 : Int) (a2 : List Int) (leaf0_ : Int × (List Int) × (List Int) → α) (fail_ : α) : α :=
  (optC (L.toIntS_t a0) (fun c_1 => (optC (L.toByteS_t a2) (fun c_2 => (leaf0_ (a1, c_1, c_2))) fail_)) fail_)
theorem L.toPost_tree_nat {α γ : Type} (g : α → γ) (a0 : List Int) (a1 : Int) (a2 : List Int) (leaf0_ : Int × (List Int) × (List Int) → α) (fail_ : α) : g (L.toPost_tree a0 a1 a2 leaf0_ fail_) = L.toPost_tree a0 a1 a2 (fun d => g (leaf0_ d)) (g fail_) := by
  unfold L.toPost_tree; simp only [apply_cnd g, apply_optC g, apply_sumC g]
noncomputable def L.toPost_t (a0 : List Int) (a1 : Int) (a2 : List Int) : Option (Int × (List Int) × (List Int)) := L.toPost_tree a0 a1 a2 (fun d => some d) none
theorem L.toPost_den (a0 : List Int) (a1 : Int) (a2 : List Int) (κ : V → List E → R) : L.toPost_F [.agg [.ro false (.ints .i64 a0), .int .i64 a1, .ro false (.ints .u8 a2)]] [] κ = optC (L.toPost_t a0 a1 a2) (fun (r : Int × (List Int) × (List Int)) => κ (.agg [(.own 0), (.int .i64 r.1), (.own 1)]) [.row (.ints .i64 r.2.1), .row (.ints .u8 r.2.2)]) none := by
  have hu : L.toPost_F [.agg [.ro false (.ints .i64 a0), .int .i64 a1, .ro false (.ints .u8 a2)]] [] κ = L.toPost_tree a0 a1 a2 (fun d => κ (.agg [(.own 0), (.int .i64 d.1), (.own 1)]) [.row (.ints .i64 d.2.1), .row (.ints .u8 d.2.2)]) none := by
    kernel_rfl
  rw [hu]
  exact (L.toPost_tree_nat (fun o => optC o (fun (r : Int × (List Int) × (List Int)) => κ (.agg [(.own 0), (.int .i64 r.1), (.own 1)]) [.row (.ints .i64 r.2.1), .row (.ints .u8 r.2.2)]) none) a0 a1 a2 (fun d => some d) none).symm
noncomputable def L.toPost_s : D.Spec where
  keep := false
  pure := false
  add := true
  ds := [.tuple #[1, 0, 2]]
  sp := fun args h κ => match args, h with
    | [.agg [.ro false (.ints .i64 a0), .int .i64 a1, .ro false (.ints .u8 a2)]], [] => optC (L.toPost_t a0 a1 a2) (fun (r : Int × (List Int) × (List Int)) => κ (.agg [(.own 0), (.int .i64 r.1), (.own 1)]) [.row (.ints .i64 r.2.1), .row (.ints .u8 r.2.2)]) none
    | _, _ => none
theorem L.toPost_ok : SpecOk Try.prog 37 L.toPost_s := by
  refine SpecOk.of TDok mixed (T := L.toPost_T) ?_ (ann := L.toPost_ann) Try.func37 rfl (by decide +kernel) ?_ ?_ ?_ ?_
  · intro p hp
    simp only [L.toPost_T, List.mem_cons, List.not_mem_nil, or_false] at hp
    rcases hp with rfl | rfl
    · exact L.toIntS_ok
    · exact L.toByteS_ok
  · intro args h κ r hh
    simp only [L.toPost_s] at hh
    split at hh
    · exact (L.toPost_den _ _ _ κ).trans hh
    · cases hh
  · intro args h κ r hh
    simp only [L.toPost_s] at hh ⊢
    split at hh
    · exact optC_law2 (F := fun (r : Int × (List Int) × (List Int)) κ => κ (.agg [(.own 0), (.int .i64 r.1), (.own 1)]) [.row (.ints .i64 r.2.1), .row (.ints .u8 r.2.2)]) (fun b κ r hb => ⟨_, _, hb, fun _ => rfl⟩) hh
    · cases hh
  · intro hh; cases hh
  · intro _ args h κ r hh
    simp only [L.toPost_s] at hh
    split at hh
    · rfl
    · cases hh

-- loop.example/guardsonnets/laws.FnExactPostOk
noncomputable def L.FnExactPostOk_T : List (Nat × D.Spec) := [(36, L.szPost_s), (37, L.toPost_s), (34, S.PostOk_s), (20, I.PostOk_s), (23, L.eqPost_s)]
def L.FnExactPostOk_ann : Nat → List Nat × List Nat
  | _ => ([], [])
noncomputable def L.FnExactPostOk_F (args : List V) (h : List E) (κ : V → List E → R) : R := funC TD (tableK L.FnExactPostOk_T) L.FnExactPostOk_ann (drawOk TD (tableP L.FnExactPostOk_T)) FUEL Try.f8 args h κ
noncomputable def L.FnExactPostOk_tree {α : Type} (aP0 : List Int) (aP1 : Int) (aP2 : List Int) (leaf0_ : Bool → α) (fail_ : α) : α :=
  (optC (L.szPost_t aP0 aP1 aP2 1048576) (fun c_1 => (bif decide (c_1 < 0) then (leaf0_ true) else (optC (L.toPost_t aP0 aP1 aP2) (fun c_2 => (optC (S.PostOk_t c_2.snd.fst c_2.fst c_2.snd.snd) (fun c_3 => (optC (L.toPost_t aP0 aP1 aP2) (fun c_4 => (optC (I.PostOk_t c_4.snd.fst c_4.fst c_4.snd.snd) (fun c_5 => (bif !c_5 == c_3 then (leaf0_ false) else (optC (L.toPost_t aP0 aP1 aP2) (fun c_6 => (optC (L.eqPost_t c_4.snd.fst c_4.fst c_4.snd.snd c_6.snd.fst c_6.fst c_6.snd.snd) (fun c_7 => (bif !c_7 then (leaf0_ false) else (leaf0_ true))) fail_)) fail_))) fail_)) fail_)) fail_)) fail_))) fail_)
theorem L.FnExactPostOk_tree_nat {α γ : Type} (g : α → γ) (aP0 : List Int) (aP1 : Int) (aP2 : List Int) (leaf0_ : Bool → α) (fail_ : α) : g (L.FnExactPostOk_tree aP0 aP1 aP2 leaf0_ fail_) = L.FnExactPostOk_tree aP0 aP1 aP2 (fun d => g (leaf0_ d)) (g fail_) := by
  unfold L.FnExactPostOk_tree; simp only [apply_cnd g, apply_optC g, apply_sumC g]
noncomputable def L.FnExactPostOk_t (aP0 : List Int) (aP1 : Int) (aP2 : List Int) : Option (Bool) := L.FnExactPostOk_tree aP0 aP1 aP2 (fun d => some d) none
theorem L.FnExactPostOk_den (aP0 : List Int) (aP1 : Int) (aP2 : List Int) (κ : V → List E → R) : L.FnExactPostOk_F [.agg [.ro true (.ints .i64 aP0), .int .i64 aP1, .ro true (.ints .u8 aP2)]] [] κ = optC (L.FnExactPostOk_t aP0 aP1 aP2) (fun (r : Bool) => κ (.bool r) []) none := by
  have hu : L.FnExactPostOk_F [.agg [.ro true (.ints .i64 aP0), .int .i64 aP1, .ro true (.ints .u8 aP2)]] [] κ = L.FnExactPostOk_tree aP0 aP1 aP2 (fun d => κ (.bool d) []) none := by
    kernel_rfl
  rw [hu]
  exact (L.FnExactPostOk_tree_nat (fun o => optC o (fun (r : Bool) => κ (.bool r) []) none) aP0 aP1 aP2 (fun d => some d) none).symm
noncomputable def L.FnExactPostOk_s : D.Spec where
  keep := true
  pure := true
  add := true
  ds := [.tuple #[1, 0, 2]]
  sp := fun args h κ => match args, h with
    | [.agg [.ro true (.ints .i64 aP0), .int .i64 aP1, .ro true (.ints .u8 aP2)]], [] => optC (L.FnExactPostOk_t aP0 aP1 aP2) (fun (r : Bool) => κ (.bool r) []) none
    | _, _ => none
theorem L.FnExactPostOk_ok : SpecOk Try.prog 8 L.FnExactPostOk_s := by
  refine SpecOk.of TDok mixed (T := L.FnExactPostOk_T) ?_ (ann := L.FnExactPostOk_ann) Try.func8 rfl (by decide +kernel) ?_ ?_ ?_ ?_
  · intro p hp
    simp only [L.FnExactPostOk_T, List.mem_cons, List.not_mem_nil, or_false] at hp
    rcases hp with rfl | rfl | rfl | rfl | rfl
    · exact L.szPost_ok
    · exact L.toPost_ok
    · exact S.PostOk_ok
    · exact I.PostOk_ok
    · exact L.eqPost_ok
  · intro args h κ r hh
    simp only [L.FnExactPostOk_s] at hh
    split at hh
    · exact (L.FnExactPostOk_den _ _ _ κ).trans hh
    · cases hh
  · intro args h κ r hh
    simp only [L.FnExactPostOk_s] at hh ⊢
    split at hh
    · exact optC_law2 (F := fun (r : Bool) κ => κ (.bool r) []) (fun b κ r hb => ⟨_, _, hb, fun _ => rfl⟩) hh
    · cases hh
  · intro _ args h κ r hh
    simp only [L.FnExactPostOk_s] at hh
    split at hh
    · exact ⟨rfl, fun _ => rfl⟩
    · cases hh
  · intro _ args h κ r hh
    simp only [L.FnExactPostOk_s] at hh
    split at hh
    · rfl
    · cases hh

-- loop.example/guardsonnets/impl.PostAsk
noncomputable def I.PostAsk_T : List (Nat × D.Spec) := [(20, I.PostOk_s), (68, I.placeIn_s), (54, I.LogPlaces_s), (65, I.eternalIn_s), (69, I.answeredIn_s), (70, I.LogOf_s)]
def I.PostAsk_ann : Nat → List Nat × List Nat
  | _ => ([], [])
noncomputable def I.PostAsk_F (args : List V) (h : List E) (κ : V → List E → R) : R := funC TD (tableK I.PostAsk_T) I.PostAsk_ann (drawOk TD (tableP I.PostAsk_T)) FUEL Try.f39 args h κ
noncomputable def I.PostAsk_tree {α : Type} (p0 : List Int) (p1 : Int) (p2 : List Int) (place : Int) (leaf0_ : Int × Bool → α) (fail_ : α) : α :=
  (optC (I.PostOk_t p0 p1 p2) (fun c_1 => (bif !c_1 then (leaf0_ (0, false)) else (optC (I.placeIn_t p0 place) (fun c_2 => (bif !c_2 then (leaf0_ (0, false)) else (bif (↑p2.length : Int) == 120 then (leaf0_ (0, false)) else (optC (I.LogPlaces_t p2) (fun c_3 => fail_) fail_)))) fail_))) fail_)
theorem I.PostAsk_tree_nat {α γ : Type} (g : α → γ) (p0 : List Int) (p1 : Int) (p2 : List Int) (place : Int) (leaf0_ : Int × Bool → α) (fail_ : α) : g (I.PostAsk_tree p0 p1 p2 place leaf0_ fail_) = I.PostAsk_tree p0 p1 p2 place (fun d => g (leaf0_ d)) (g fail_) := by
  unfold I.PostAsk_tree; simp only [apply_cnd g, apply_optC g, apply_sumC g]
noncomputable def I.PostAsk_t (p0 : List Int) (p1 : Int) (p2 : List Int) (place : Int) : Option (Int × Bool) := I.PostAsk_tree p0 p1 p2 place (fun d => some d) none
theorem I.PostAsk_den (p0 : List Int) (p1 : Int) (p2 : List Int) (place : Int) (κ : V → List E → R) : I.PostAsk_F [.agg [.ro false (.ints .i64 p0), .int .i64 p1, .ro false (.ints .u8 p2)], .int .i64 place] [] κ = optC (I.PostAsk_t p0 p1 p2 place) (fun (r : Int × Bool) => κ (.tup [(.agg [.nil, (.int .i64 r.1), .nil]), (.bool r.2)]) []) none := by
  have hu : I.PostAsk_F [.agg [.ro false (.ints .i64 p0), .int .i64 p1, .ro false (.ints .u8 p2)], .int .i64 place] [] κ = I.PostAsk_tree p0 p1 p2 place (fun d => κ (.tup [(.agg [.nil, (.int .i64 d.1), .nil]), (.bool d.2)]) []) none := by
    kernel_rfl
  rw [hu]
  exact (I.PostAsk_tree_nat (fun o => optC o (fun (r : Int × Bool) => κ (.tup [(.agg [.nil, (.int .i64 r.1), .nil]), (.bool r.2)]) []) none) p0 p1 p2 place (fun d => some d) none).symm
noncomputable def I.PostAsk_s : D.Spec where
  keep := false
  pure := true
  add := true
  ds := [.tuple #[1, 0, 2], .invalid]
  sp := fun args h κ => match args, h with
    | [.agg [.ro false (.ints .i64 p0), .int .i64 p1, .ro false (.ints .u8 p2)], .int .i64 place], [] => optC (I.PostAsk_t p0 p1 p2 place) (fun (r : Int × Bool) => κ (.tup [(.agg [.nil, (.int .i64 r.1), .nil]), (.bool r.2)]) []) none
    | _, _ => none
theorem I.PostAsk_ok : SpecOk Try.prog 39 I.PostAsk_s := by
  refine SpecOk.of TDok mixed (T := I.PostAsk_T) ?_ (ann := I.PostAsk_ann) Try.func39 rfl (by decide +kernel) ?_ ?_ ?_ ?_
  · intro p hp
    simp only [I.PostAsk_T, List.mem_cons, List.not_mem_nil, or_false] at hp
    rcases hp with rfl | rfl | rfl | rfl | rfl | rfl
    · exact I.PostOk_ok
    · exact I.placeIn_ok
    · exact I.LogPlaces_ok
    · exact I.eternalIn_ok
    · exact I.answeredIn_ok
    · exact I.LogOf_ok
  · intro args h κ r hh
    simp only [I.PostAsk_s] at hh
    split at hh
    · exact (I.PostAsk_den _ _ _ _ κ).trans hh
    · cases hh
  · intro args h κ r hh
    simp only [I.PostAsk_s] at hh ⊢
    split at hh
    · exact optC_law2 (F := fun (r : Int × Bool) κ => κ (.tup [(.agg [.nil, (.int .i64 r.1), .nil]), (.bool r.2)]) []) (fun b κ r hb => ⟨_, _, hb, fun _ => rfl⟩) hh
    · cases hh
  · intro _ args h κ r hh
    simp only [I.PostAsk_s] at hh
    split at hh
    · exact ⟨rfl, fun _ => rfl⟩
    · cases hh
  · intro _ args h κ r hh
    simp only [I.PostAsk_s] at hh
    split at hh
    · rfl
    · cases hh

-- loop.example/guardsonnets/spec.PostAsk
noncomputable def S.PostAsk_T : List (Nat × D.Spec) := [(34, S.PostOk_s), (71, S.l1In_s), (45, S.LogPlaces_s), (62, S.l17Last_s), (63, S.LogOf_s)]
def S.PostAsk_ann : Nat → List Nat × List Nat
  | _ => ([], [])
noncomputable def S.PostAsk_F (args : List V) (h : List E) (κ : V → List E → R) : R := funC TD (tableK S.PostAsk_T) S.PostAsk_ann (drawOk TD (tableP S.PostAsk_T)) FUEL Try.f40 args h κ
noncomputable def S.PostAsk_tree {α : Type} (p0 : List Int) (p1 : Int) (p2 : List Int) (place : Int) (leaf0_ : Int × Bool → α) (leaf1_ : Int × Bool × (List Int) × (List Int) → α) (fail_ : α) : α :=
  (optC (S.PostOk_t p0 p1 p2) (fun c_1 => (bif !c_1 then (leaf0_ (0, false)) else (optC (S.l1In_t place 0 (IntKind.i64.wrap ((↑p0.length : Int) - 1))) (fun c_2 => (bif !c_2 then (leaf0_ (0, false)) else (bif (↑p2.length : Int) == 120 then (leaf0_ (0, false)) else (optC (S.LogPlaces_t p2) (fun c_3 => (bif small (c_3.snd ++ [place]).length then (bif small ([] ++ p0).length then (optC (S.l17Last_t p0 (c_3.snd ++ [place])) (fun c_4 => (optC (S.LogOf_t (c_3.snd ++ [place])) (fun c_5 => (leaf1_ (c_4, true, [] ++ p0, c_5))) fail_)) fail_) else fail_) else fail_)) fail_)))) fail_))) fail_)
theorem S.PostAsk_tree_nat {α γ : Type} (g : α → γ) (p0 : List Int) (p1 : Int) (p2 : List Int) (place : Int) (leaf0_ : Int × Bool → α) (leaf1_ : Int × Bool × (List Int) × (List Int) → α) (fail_ : α) : g (S.PostAsk_tree p0 p1 p2 place leaf0_ leaf1_ fail_) = S.PostAsk_tree p0 p1 p2 place (fun d => g (leaf0_ d)) (fun d => g (leaf1_ d)) (g fail_) := by
  unfold S.PostAsk_tree; simp only [apply_cnd g, apply_optC g, apply_sumC g]
noncomputable def S.PostAsk_t (p0 : List Int) (p1 : Int) (p2 : List Int) (place : Int) : Option ((Int × Bool) ⊕ (Int × Bool × (List Int) × (List Int))) := S.PostAsk_tree p0 p1 p2 place (fun d => some ((Sum.inl d))) (fun d => some ((Sum.inr d))) none
theorem S.PostAsk_den (p0 : List Int) (p1 : Int) (p2 : List Int) (place : Int) (κ : V → List E → R) : S.PostAsk_F [.agg [.ro false (.ints .i64 p0), .int .i64 p1, .ro false (.ints .u8 p2)], .int .i64 place] [] κ = optC (S.PostAsk_t p0 p1 p2 place) (fun (r : (Int × Bool) ⊕ (Int × Bool × (List Int) × (List Int))) => (sumC r (fun (r : Int × Bool) => κ (.tup [(.agg [.nil, (.int .i64 r.1), .nil]), (.bool r.2)]) []) (fun (r : Int × Bool × (List Int) × (List Int)) => κ (.tup [(.agg [(.own 0), (.int .i64 r.1), (.own 1)]), (.bool r.2.1)]) [.row (.ints .i64 r.2.2.1), .row (.ints .u8 r.2.2.2)]))) none := by
  have hu : S.PostAsk_F [.agg [.ro false (.ints .i64 p0), .int .i64 p1, .ro false (.ints .u8 p2)], .int .i64 place] [] κ = S.PostAsk_tree p0 p1 p2 place (fun d => κ (.tup [(.agg [.nil, (.int .i64 d.1), .nil]), (.bool d.2)]) []) (fun d => κ (.tup [(.agg [(.own 0), (.int .i64 d.1), (.own 1)]), (.bool d.2.1)]) [.row (.ints .i64 d.2.2.1), .row (.ints .u8 d.2.2.2)]) none := by
    kernel_rfl
  rw [hu]
  exact (S.PostAsk_tree_nat (fun o => optC o (fun (r : (Int × Bool) ⊕ (Int × Bool × (List Int) × (List Int))) => (sumC r (fun (r : Int × Bool) => κ (.tup [(.agg [.nil, (.int .i64 r.1), .nil]), (.bool r.2)]) []) (fun (r : Int × Bool × (List Int) × (List Int)) => κ (.tup [(.agg [(.own 0), (.int .i64 r.1), (.own 1)]), (.bool r.2.1)]) [.row (.ints .i64 r.2.2.1), .row (.ints .u8 r.2.2.2)]))) none) p0 p1 p2 place (fun d => some ((Sum.inl d))) (fun d => some ((Sum.inr d))) none).symm
noncomputable def S.PostAsk_s : D.Spec where
  keep := false
  pure := false
  add := true
  ds := [.tuple #[1, 0, 2], .invalid]
  sp := fun args h κ => match args, h with
    | [.agg [.ro false (.ints .i64 p0), .int .i64 p1, .ro false (.ints .u8 p2)], .int .i64 place], [] => optC (S.PostAsk_t p0 p1 p2 place) (fun (r : (Int × Bool) ⊕ (Int × Bool × (List Int) × (List Int))) => (sumC r (fun (r : Int × Bool) => κ (.tup [(.agg [.nil, (.int .i64 r.1), .nil]), (.bool r.2)]) []) (fun (r : Int × Bool × (List Int) × (List Int)) => κ (.tup [(.agg [(.own 0), (.int .i64 r.1), (.own 1)]), (.bool r.2.1)]) [.row (.ints .i64 r.2.2.1), .row (.ints .u8 r.2.2.2)]))) none
    | _, _ => none
theorem S.PostAsk_ok : SpecOk Try.prog 40 S.PostAsk_s := by
  refine SpecOk.of TDok mixed (T := S.PostAsk_T) ?_ (ann := S.PostAsk_ann) Try.func40 rfl (by decide +kernel) ?_ ?_ ?_ ?_
  · intro p hp
    simp only [S.PostAsk_T, List.mem_cons, List.not_mem_nil, or_false] at hp
    rcases hp with rfl | rfl | rfl | rfl | rfl
    · exact S.PostOk_ok
    · exact S.l1In_ok
    · exact S.LogPlaces_ok
    · exact S.l17Last_ok
    · exact S.LogOf_ok
  · intro args h κ r hh
    simp only [S.PostAsk_s] at hh
    split at hh
    · exact (S.PostAsk_den _ _ _ _ κ).trans hh
    · cases hh
  · intro args h κ r hh
    simp only [S.PostAsk_s] at hh ⊢
    split at hh
    · exact optC_law2 (F := fun (r : (Int × Bool) ⊕ (Int × Bool × (List Int) × (List Int))) κ => (sumC r (fun (r : Int × Bool) => κ (.tup [(.agg [.nil, (.int .i64 r.1), .nil]), (.bool r.2)]) []) (fun (r : Int × Bool × (List Int) × (List Int)) => κ (.tup [(.agg [(.own 0), (.int .i64 r.1), (.own 1)]), (.bool r.2.1)]) [.row (.ints .i64 r.2.2.1), .row (.ints .u8 r.2.2.2)]))) (fun b κ r hb => by rcases b with b | b <;> exact ⟨_, _, hb, fun _ => rfl⟩) hh
    · cases hh
  · intro hh; cases hh
  · intro _ args h κ r hh
    simp only [S.PostAsk_s] at hh
    split at hh
    · rfl
    · cases hh

-- loop.example/guardsonnets/laws.sizeOf
noncomputable def L.sizeOf_T : List (Nat × D.Spec) := []
def L.sizeOf_ann : Nat → List Nat × List Nat
  | 2 => ([0, 3], [3])
  | _ => ([], [])
noncomputable def L.sizeOf_F (args : List V) (h : List E) (κ : V → List E → R) : R := funC TD (tableK L.sizeOf_T) L.sizeOf_ann (drawOk TD (tableP L.sizeOf_T)) FUEL Try.f41 args h κ
noncomputable def L.sizeOf_L2 (n : Nat) (σ : St) (k : X → St → R) : R := iterC 0 (fun σ k => denC TD (tableK L.sizeOf_T) L.sizeOf_ann (drawOk TD (tableP L.sizeOf_T)) 0 FUEL ((findLoop 2 (Try.f41.body.getD .skip)).getD .skip) σ k) [0, 3] [3] n σ k
noncomputable def L.sizeOf_k2 (κ : V → List E → R) : X → St → R := (afterC TD (tableK L.sizeOf_T) L.sizeOf_ann (drawOk TD (tableP L.sizeOf_T)) 0 FUEL 2 (Try.f41.body.getD .skip) (finC TD 0 Try.f41 κ)).getD (fun _ _ => none)
noncomputable def L.sizeOf_step2 {α : Type} (x0 : Int) (x3 : Int) (next_ : Int × Int → α) (out0_ : Int → α) (fail_ : α) : α :=
  (bif decide (x0 > 0) then (next_ (IntKind.i64.wrap (x0.tdiv 2), IntKind.i64.wrap (x3 + x0.tmod 2))) else (out0_ x3))
theorem L.sizeOf_step2_nat {α γ : Type} (g : α → γ) (x0 : Int) (x3 : Int) (next_ : Int × Int → α) (out0_ : Int → α) (fail_ : α) : g (L.sizeOf_step2 x0 x3 next_ out0_ fail_) = L.sizeOf_step2 x0 x3 (fun s => g (next_ s)) (fun d => g (out0_ d)) (g fail_) := by
  unfold L.sizeOf_step2; simp only [apply_cnd g, apply_optC g, apply_sumC g]
noncomputable def L.sizeOf_run2 : Nat → Int × Int → Option (Int)
  | 0, _ => none
  | n + 1, s_ => L.sizeOf_step2 s_.1 s_.2 (L.sizeOf_run2 n) (fun d => some d) none
theorem L.sizeOf_L2_run (n : Nat) (s_ : Int × Int) (k : X → St → R) : L.sizeOf_L2 n { n := 13, t := [(0, (.int .i64 s_.1)), (3, (.int .i64 s_.2))], h := [] } k = optC (L.sizeOf_run2 n s_) (fun (r : Int) => k (.exit 0) { n := 13, t := [(3, (.int .i64 r))], h := [] }) none := by
  induction n generalizing s_ with
  | zero => rfl
  | succ n ih =>
    have hu : L.sizeOf_L2 (n + 1) { n := 13, t := [(0, (.int .i64 s_.1)), (3, (.int .i64 s_.2))], h := [] } k = L.sizeOf_step2 s_.1 s_.2 (fun s_ => L.sizeOf_L2 n { n := 13, t := [(0, (.int .i64 s_.1)), (3, (.int .i64 s_.2))], h := [] } k) (fun d => k (.exit 0) { n := 13, t := [(3, (.int .i64 d))], h := [] }) none := by
      kernel_rfl
    have hs : (fun s_ : Int × Int => L.sizeOf_L2 n { n := 13, t := [(0, (.int .i64 s_.1)), (3, (.int .i64 s_.2))], h := [] } k) = fun s_ => optC (L.sizeOf_run2 n s_) (fun (r : Int) => k (.exit 0) { n := 13, t := [(3, (.int .i64 r))], h := [] }) none := funext ih
    rw [hu, hs]
    exact (L.sizeOf_step2_nat (fun o => optC o (fun (r : Int) => k (.exit 0) { n := 13, t := [(3, (.int .i64 r))], h := [] }) none) s_.1 s_.2 (L.sizeOf_run2 n) (fun d => some d) none).symm
noncomputable def L.sizeOf_tree {α : Type} (n_ : Int) (leaf0_ : Int → α) (fail_ : α) : α :=
  (optC (L.sizeOf_run2 FUEL (n_, 0)) (fun qy_1 => (leaf0_ qy_1)) fail_)
theorem L.sizeOf_tree_nat {α γ : Type} (g : α → γ) (n_ : Int) (leaf0_ : Int → α) (fail_ : α) : g (L.sizeOf_tree n_ leaf0_ fail_) = L.sizeOf_tree n_ (fun d => g (leaf0_ d)) (g fail_) := by
  unfold L.sizeOf_tree; simp only [apply_cnd g, apply_optC g, apply_sumC g]
noncomputable def L.sizeOf_t (n_ : Int) : Option (Int) := L.sizeOf_tree n_ (fun d => some d) none
theorem L.sizeOf_den (n_ : Int) (κ : V → List E → R) : L.sizeOf_F [.int .i64 n_] [] κ = optC (L.sizeOf_t n_) (fun (r : Int) => κ (.int .i64 r) []) none := by
  have hu : L.sizeOf_F [.int .i64 n_] [] κ = L.sizeOf_tree n_ (fun d => κ (.int .i64 d) []) none := by
    refine Eq.trans (show L.sizeOf_F [.int .i64 n_] [] κ = (L.sizeOf_L2 FUEL { n := 13, t := [(0, (.int .i64 n_)), (3, (.int .i64 0))], h := [] } (L.sizeOf_k2 κ)) by kernel_rfl) ?_
    refine (L.sizeOf_L2_run FUEL (n_, 0) (L.sizeOf_k2 κ)).trans (optC_congr (fun qy_1 => ?_))
    kernel_rfl
  rw [hu]
  exact (L.sizeOf_tree_nat (fun o => optC o (fun (r : Int) => κ (.int .i64 r) []) none) n_ (fun d => some d) none).symm
noncomputable def L.sizeOf_s : D.Spec where
  keep := false
  pure := true
  add := true
  ds := [.invalid]
  sp := fun args h κ => match args, h with
    | [.int .i64 n_], [] => optC (L.sizeOf_t n_) (fun (r : Int) => κ (.int .i64 r) []) none
    | _, _ => none
theorem L.sizeOf_ok : SpecOk Try.prog 41 L.sizeOf_s := by
  refine SpecOk.of TDok mixed (T := L.sizeOf_T) ?_ (ann := L.sizeOf_ann) Try.func41 rfl (by decide +kernel) ?_ ?_ ?_ ?_
  · intro p hp; cases hp
  · intro args h κ r hh
    simp only [L.sizeOf_s] at hh
    split at hh
    · exact (L.sizeOf_den _ κ).trans hh
    · cases hh
  · intro args h κ r hh
    simp only [L.sizeOf_s] at hh ⊢
    split at hh
    · exact optC_law2 (F := fun (r : Int) κ => κ (.int .i64 r) []) (fun b κ r hb => ⟨_, _, hb, fun _ => rfl⟩) hh
    · cases hh
  · intro _ args h κ r hh
    simp only [L.sizeOf_s] at hh
    split at hh
    · exact ⟨rfl, fun _ => rfl⟩
    · cases hh
  · intro _ args h κ r hh
    simp only [L.sizeOf_s] at hh
    split at hh
    · rfl
    · cases hh

-- loop.example/guardsonnets/laws.FnExactPostAsk
noncomputable def L.FnExactPostAsk_T : List (Nat × D.Spec) := [(36, L.szPost_s), (37, L.toPost_s), (40, S.PostAsk_s), (39, I.PostAsk_s), (23, L.eqPost_s), (26, L.markPost_s), (27, L.heldPost_s)]
def L.FnExactPostAsk_ann : Nat → List Nat × List Nat
  | _ => ([], [])
noncomputable def L.FnExactPostAsk_F (args : List V) (h : List E) (κ : V → List E → R) : R := funC TD (tableK L.FnExactPostAsk_T) L.FnExactPostAsk_ann (drawOk TD (tableP L.FnExactPostAsk_T)) FUEL Try.f10 args h κ
noncomputable def L.FnExactPostAsk_tree {α : Type} (aP0 : List Int) (aP1 : Int) (aP2 : List Int) (aPlace : Int) (leaf0_ : Bool → α) (fail_ : α) : α :=
  (optC (L.szPost_t aP0 aP1 aP2 1048576) (fun c_1 => (bif decide (c_1 < 0) then (leaf0_ true) else (optC (L.toPost_t aP0 aP1 aP2) (fun c_2 => (optC (S.PostAsk_t c_2.snd.fst c_2.fst c_2.snd.snd aPlace) (fun c_3 => (sumC c_3 (fun c_4 => (optC (L.toPost_t aP0 aP1 aP2) (fun c_5 => (optC (I.PostAsk_t c_5.snd.fst c_5.fst c_5.snd.snd aPlace) (fun c_6 => (optC (L.eqPost_t [] c_6.fst [] [] c_4.fst []) (fun c_7 => (bif !c_7 then (leaf0_ false) else (bif !c_6.snd == c_4.snd then (leaf0_ false) else (optC (L.toPost_t aP0 aP1 aP2) (fun c_8 => (optC (L.eqPost_t c_5.snd.fst c_5.fst c_5.snd.snd c_8.snd.fst c_8.fst c_8.snd.snd) (fun c_9 => (bif !c_9 then (leaf0_ false) else (optC (L.markPost_t c_5.snd.fst c_5.fst c_5.snd.snd 1) (fun c_10 => (bif decide (c_10.fst < 0) then (leaf0_ false) else (optC (L.eqPost_t [] c_6.fst [] [] c_4.fst []) (fun c_11 => (bif !c_11 then (leaf0_ false) else (bif !c_6.snd == c_4.snd then (leaf0_ false) else fail_))) fail_))) fail_))) fail_)) fail_)))) fail_)) fail_)) fail_)) (fun c_4 => (optC (L.toPost_t aP0 aP1 aP2) (fun c_12 => (optC (I.PostAsk_t c_12.snd.fst c_12.fst c_12.snd.snd aPlace) (fun c_13 => (optC (L.eqPost_t [] c_13.fst [] c_4.snd.snd.fst c_4.fst c_4.snd.snd.snd) (fun c_14 => (bif !c_14 then (leaf0_ false) else (bif !c_13.snd == c_4.snd.fst then (leaf0_ false) else (optC (L.toPost_t aP0 aP1 aP2) (fun c_15 => (optC (L.eqPost_t c_12.snd.fst c_12.fst c_12.snd.snd c_15.snd.fst c_15.fst c_15.snd.snd) (fun c_16 => (bif !c_16 then (leaf0_ false) else (optC (L.markPost_t c_12.snd.fst c_12.fst c_12.snd.snd 1) (fun c_17 => (bif decide (c_17.fst < 0) then (leaf0_ false) else (optC (L.eqPost_t [] c_13.fst [] c_4.snd.snd.fst c_4.fst c_4.snd.snd.snd) (fun c_18 => (bif !c_18 then (leaf0_ false) else (bif !c_13.snd == c_4.snd.fst then (leaf0_ false) else fail_))) fail_))) fail_))) fail_)) fail_)))) fail_)) fail_)) fail_)))) fail_)) fail_))) fail_)
theorem L.FnExactPostAsk_tree_nat {α γ : Type} (g : α → γ) (aP0 : List Int) (aP1 : Int) (aP2 : List Int) (aPlace : Int) (leaf0_ : Bool → α) (fail_ : α) : g (L.FnExactPostAsk_tree aP0 aP1 aP2 aPlace leaf0_ fail_) = L.FnExactPostAsk_tree aP0 aP1 aP2 aPlace (fun d => g (leaf0_ d)) (g fail_) := by
  unfold L.FnExactPostAsk_tree; simp only [apply_cnd g, apply_optC g, apply_sumC g]
noncomputable def L.FnExactPostAsk_t (aP0 : List Int) (aP1 : Int) (aP2 : List Int) (aPlace : Int) : Option (Bool) := L.FnExactPostAsk_tree aP0 aP1 aP2 aPlace (fun d => some d) none
theorem L.FnExactPostAsk_den (aP0 : List Int) (aP1 : Int) (aP2 : List Int) (aPlace : Int) (κ : V → List E → R) : L.FnExactPostAsk_F [.agg [.ro true (.ints .i64 aP0), .int .i64 aP1, .ro true (.ints .u8 aP2)], .int .i64 aPlace] [] κ = optC (L.FnExactPostAsk_t aP0 aP1 aP2 aPlace) (fun (r : Bool) => κ (.bool r) []) none := by
  have hu : L.FnExactPostAsk_F [.agg [.ro true (.ints .i64 aP0), .int .i64 aP1, .ro true (.ints .u8 aP2)], .int .i64 aPlace] [] κ = L.FnExactPostAsk_tree aP0 aP1 aP2 aPlace (fun d => κ (.bool d) []) none := by
    kernel_rfl
  rw [hu]
  exact (L.FnExactPostAsk_tree_nat (fun o => optC o (fun (r : Bool) => κ (.bool r) []) none) aP0 aP1 aP2 aPlace (fun d => some d) none).symm
noncomputable def L.FnExactPostAsk_s : D.Spec where
  keep := true
  pure := true
  add := true
  ds := [.tuple #[1, 0, 2], .invalid]
  sp := fun args h κ => match args, h with
    | [.agg [.ro true (.ints .i64 aP0), .int .i64 aP1, .ro true (.ints .u8 aP2)], .int .i64 aPlace], [] => optC (L.FnExactPostAsk_t aP0 aP1 aP2 aPlace) (fun (r : Bool) => κ (.bool r) []) none
    | _, _ => none
theorem L.FnExactPostAsk_ok : SpecOk Try.prog 10 L.FnExactPostAsk_s := by
  refine SpecOk.of TDok mixed (T := L.FnExactPostAsk_T) ?_ (ann := L.FnExactPostAsk_ann) Try.func10 rfl (by decide +kernel) ?_ ?_ ?_ ?_
  · intro p hp
    simp only [L.FnExactPostAsk_T, List.mem_cons, List.not_mem_nil, or_false] at hp
    rcases hp with rfl | rfl | rfl | rfl | rfl | rfl | rfl
    · exact L.szPost_ok
    · exact L.toPost_ok
    · exact S.PostAsk_ok
    · exact I.PostAsk_ok
    · exact L.eqPost_ok
    · exact L.markPost_ok
    · exact L.heldPost_ok
  · intro args h κ r hh
    simp only [L.FnExactPostAsk_s] at hh
    split at hh
    · exact (L.FnExactPostAsk_den _ _ _ _ κ).trans hh
    · cases hh
  · intro args h κ r hh
    simp only [L.FnExactPostAsk_s] at hh ⊢
    split at hh
    · exact optC_law2 (F := fun (r : Bool) κ => κ (.bool r) []) (fun b κ r hb => ⟨_, _, hb, fun _ => rfl⟩) hh
    · cases hh
  · intro _ args h κ r hh
    simp only [L.FnExactPostAsk_s] at hh
    split at hh
    · exact ⟨rfl, fun _ => rfl⟩
    · cases hh
  · intro _ args h κ r hh
    simp only [L.FnExactPostAsk_s] at hh
    split at hh
    · rfl
    · cases hh

-- loop.example/guardsonnets/impl.bytesLeft
noncomputable def I.bytesLeft_T : List (Nat × D.Spec) := []
def I.bytesLeft_ann : Nat → List Nat × List Nat
  | _ => ([], [])
noncomputable def I.bytesLeft_F (args : List V) (h : List E) (κ : V → List E → R) : R := funC TD (tableK I.bytesLeft_T) I.bytesLeft_ann (drawOk TD (tableP I.bytesLeft_T)) FUEL Try.f72 args h κ
noncomputable def I.bytesLeft_tree {α : Type} (log : List Int) (bytes : Int) (leaf0_ : Int → α) (fail_ : α) : α :=
  (bif decide (bytes < 0) then (leaf0_ 0) else (bif decide (bytes > (↑log.length : Int)) then (leaf0_ ((↑log.length : Int))) else (leaf0_ bytes)))
theorem I.bytesLeft_tree_nat {α γ : Type} (g : α → γ) (log : List Int) (bytes : Int) (leaf0_ : Int → α) (fail_ : α) : g (I.bytesLeft_tree log bytes leaf0_ fail_) = I.bytesLeft_tree log bytes (fun d => g (leaf0_ d)) (g fail_) := by
  unfold I.bytesLeft_tree; simp only [apply_cnd g, apply_optC g, apply_sumC g]
noncomputable def I.bytesLeft_t (log : List Int) (bytes : Int) : Option (Int) := I.bytesLeft_tree log bytes (fun d => some d) none
theorem I.bytesLeft_den (log : List Int) (bytes : Int) (κ : V → List E → R) : I.bytesLeft_F [.ro false (.ints .u8 log), .int .i64 bytes] [] κ = optC (I.bytesLeft_t log bytes) (fun (r : Int) => κ (.int .i64 r) []) none := by
  have hu : I.bytesLeft_F [.ro false (.ints .u8 log), .int .i64 bytes] [] κ = I.bytesLeft_tree log bytes (fun d => κ (.int .i64 d) []) none := by
    kernel_rfl
  rw [hu]
  exact (I.bytesLeft_tree_nat (fun o => optC o (fun (r : Int) => κ (.int .i64 r) []) none) log bytes (fun d => some d) none).symm
noncomputable def I.bytesLeft_s : D.Spec where
  keep := false
  pure := true
  add := true
  ds := [.int .u8, .invalid]
  sp := fun args h κ => match args, h with
    | [.ro false (.ints .u8 log), .int .i64 bytes], [] => optC (I.bytesLeft_t log bytes) (fun (r : Int) => κ (.int .i64 r) []) none
    | _, _ => none
theorem I.bytesLeft_ok : SpecOk Try.prog 72 I.bytesLeft_s := by
  refine SpecOk.of TDok mixed (T := I.bytesLeft_T) ?_ (ann := I.bytesLeft_ann) Try.func72 rfl (by decide +kernel) ?_ ?_ ?_ ?_
  · intro p hp; cases hp
  · intro args h κ r hh
    simp only [I.bytesLeft_s] at hh
    split at hh
    · exact (I.bytesLeft_den _ _ κ).trans hh
    · cases hh
  · intro args h κ r hh
    simp only [I.bytesLeft_s] at hh ⊢
    split at hh
    · exact optC_law2 (F := fun (r : Int) κ => κ (.int .i64 r) []) (fun b κ r hb => ⟨_, _, hb, fun _ => rfl⟩) hh
    · cases hh
  · intro _ args h κ r hh
    simp only [I.bytesLeft_s] at hh
    split at hh
    · exact ⟨rfl, fun _ => rfl⟩
    · cases hh
  · intro _ args h κ r hh
    simp only [I.bytesLeft_s] at hh
    split at hh
    · rfl
    · cases hh

-- loop.example/guardsonnets/impl.PostCut
noncomputable def I.PostCut_T : List (Nat × D.Spec) := [(20, I.PostOk_s), (72, I.bytesLeft_s), (19, I.PostRise_s)]
def I.PostCut_ann : Nat → List Nat × List Nat
  | _ => ([], [])
noncomputable def I.PostCut_F (args : List V) (h : List E) (κ : V → List E → R) : R := funC TD (tableK I.PostCut_T) I.PostCut_ann (drawOk TD (tableP I.PostCut_T)) FUEL Try.f43 args h κ
noncomputable def I.PostCut_tree {α : Type} (p0 : List Int) (p1 : Int) (p2 : List Int) (bytes : Int) (leaf0_ : Int × Bool → α) (leaf1_ : Int × Bool × (List Int) × (List Int) → α) (fail_ : α) : α :=
  (optC (I.PostOk_t p0 p1 p2) (fun c_1 => (bif !c_1 then (leaf0_ (0, false)) else (optC (I.bytesLeft_t p2 bytes) (fun c_2 => (bif decide (0 ≤ c_2) && decide (c_2 ≤ (↑p2.length : Int)) then (optC (I.PostRise_t p0 (List.take c_2.toNat (List.drop 0 p2))) (fun c_3 => (sumC c_3 (fun c_4 => (leaf0_ (c_4.fst, c_4.snd))) (fun c_4 => (leaf1_ (c_4.fst, c_4.snd.fst, c_4.snd.snd.fst, c_4.snd.snd.snd))))) fail_) else fail_)) fail_))) fail_)
theorem I.PostCut_tree_nat {α γ : Type} (g : α → γ) (p0 : List Int) (p1 : Int) (p2 : List Int) (bytes : Int) (leaf0_ : Int × Bool → α) (leaf1_ : Int × Bool × (List Int) × (List Int) → α) (fail_ : α) : g (I.PostCut_tree p0 p1 p2 bytes leaf0_ leaf1_ fail_) = I.PostCut_tree p0 p1 p2 bytes (fun d => g (leaf0_ d)) (fun d => g (leaf1_ d)) (g fail_) := by
  unfold I.PostCut_tree; simp only [apply_cnd g, apply_optC g, apply_sumC g]
noncomputable def I.PostCut_t (p0 : List Int) (p1 : Int) (p2 : List Int) (bytes : Int) : Option ((Int × Bool) ⊕ (Int × Bool × (List Int) × (List Int))) := I.PostCut_tree p0 p1 p2 bytes (fun d => some ((Sum.inl d))) (fun d => some ((Sum.inr d))) none
theorem I.PostCut_den (p0 : List Int) (p1 : Int) (p2 : List Int) (bytes : Int) (κ : V → List E → R) : I.PostCut_F [.agg [.ro false (.ints .i64 p0), .int .i64 p1, .ro false (.ints .u8 p2)], .int .i64 bytes] [] κ = optC (I.PostCut_t p0 p1 p2 bytes) (fun (r : (Int × Bool) ⊕ (Int × Bool × (List Int) × (List Int))) => (sumC r (fun (r : Int × Bool) => κ (.tup [(.agg [.nil, (.int .i64 r.1), .nil]), (.bool r.2)]) []) (fun (r : Int × Bool × (List Int) × (List Int)) => κ (.tup [(.agg [(.own 0), (.int .i64 r.1), (.own 1)]), (.bool r.2.1)]) [.row (.ints .i64 r.2.2.1), .row (.ints .u8 r.2.2.2)]))) none := by
  have hu : I.PostCut_F [.agg [.ro false (.ints .i64 p0), .int .i64 p1, .ro false (.ints .u8 p2)], .int .i64 bytes] [] κ = I.PostCut_tree p0 p1 p2 bytes (fun d => κ (.tup [(.agg [.nil, (.int .i64 d.1), .nil]), (.bool d.2)]) []) (fun d => κ (.tup [(.agg [(.own 0), (.int .i64 d.1), (.own 1)]), (.bool d.2.1)]) [.row (.ints .i64 d.2.2.1), .row (.ints .u8 d.2.2.2)]) none := by
    kernel_rfl
  rw [hu]
  exact (I.PostCut_tree_nat (fun o => optC o (fun (r : (Int × Bool) ⊕ (Int × Bool × (List Int) × (List Int))) => (sumC r (fun (r : Int × Bool) => κ (.tup [(.agg [.nil, (.int .i64 r.1), .nil]), (.bool r.2)]) []) (fun (r : Int × Bool × (List Int) × (List Int)) => κ (.tup [(.agg [(.own 0), (.int .i64 r.1), (.own 1)]), (.bool r.2.1)]) [.row (.ints .i64 r.2.2.1), .row (.ints .u8 r.2.2.2)]))) none) p0 p1 p2 bytes (fun d => some ((Sum.inl d))) (fun d => some ((Sum.inr d))) none).symm
noncomputable def I.PostCut_s : D.Spec where
  keep := false
  pure := false
  add := true
  ds := [.tuple #[1, 0, 2], .invalid]
  sp := fun args h κ => match args, h with
    | [.agg [.ro false (.ints .i64 p0), .int .i64 p1, .ro false (.ints .u8 p2)], .int .i64 bytes], [] => optC (I.PostCut_t p0 p1 p2 bytes) (fun (r : (Int × Bool) ⊕ (Int × Bool × (List Int) × (List Int))) => (sumC r (fun (r : Int × Bool) => κ (.tup [(.agg [.nil, (.int .i64 r.1), .nil]), (.bool r.2)]) []) (fun (r : Int × Bool × (List Int) × (List Int)) => κ (.tup [(.agg [(.own 0), (.int .i64 r.1), (.own 1)]), (.bool r.2.1)]) [.row (.ints .i64 r.2.2.1), .row (.ints .u8 r.2.2.2)]))) none
    | _, _ => none
theorem I.PostCut_ok : SpecOk Try.prog 43 I.PostCut_s := by
  refine SpecOk.of TDok mixed (T := I.PostCut_T) ?_ (ann := I.PostCut_ann) Try.func43 rfl (by decide +kernel) ?_ ?_ ?_ ?_
  · intro p hp
    simp only [I.PostCut_T, List.mem_cons, List.not_mem_nil, or_false] at hp
    rcases hp with rfl | rfl | rfl
    · exact I.PostOk_ok
    · exact I.bytesLeft_ok
    · exact I.PostRise_ok
  · intro args h κ r hh
    simp only [I.PostCut_s] at hh
    split at hh
    · exact (I.PostCut_den _ _ _ _ κ).trans hh
    · cases hh
  · intro args h κ r hh
    simp only [I.PostCut_s] at hh ⊢
    split at hh
    · exact optC_law2 (F := fun (r : (Int × Bool) ⊕ (Int × Bool × (List Int) × (List Int))) κ => (sumC r (fun (r : Int × Bool) => κ (.tup [(.agg [.nil, (.int .i64 r.1), .nil]), (.bool r.2)]) []) (fun (r : Int × Bool × (List Int) × (List Int)) => κ (.tup [(.agg [(.own 0), (.int .i64 r.1), (.own 1)]), (.bool r.2.1)]) [.row (.ints .i64 r.2.2.1), .row (.ints .u8 r.2.2.2)]))) (fun b κ r hb => by rcases b with b | b <;> exact ⟨_, _, hb, fun _ => rfl⟩) hh
    · cases hh
  · intro hh; cases hh
  · intro _ args h κ r hh
    simp only [I.PostCut_s] at hh
    split at hh
    · rfl
    · cases hh

-- loop.example/guardsonnets/spec.PostCut
noncomputable def S.PostCut_T : List (Nat × D.Spec) := [(34, S.PostOk_s), (29, S.PostRise_s)]
def S.PostCut_ann : Nat → List Nat × List Nat
  | _ => ([], [])
noncomputable def S.PostCut_F (args : List V) (h : List E) (κ : V → List E → R) : R := funC TD (tableK S.PostCut_T) S.PostCut_ann (drawOk TD (tableP S.PostCut_T)) FUEL Try.f44 args h κ
noncomputable def S.PostCut_tree {α : Type} (p0 : List Int) (p1 : Int) (p2 : List Int) (bytes : Int) (leaf0_ : Int × Bool → α) (leaf1_ : Int × Bool × (List Int) × (List Int) → α) (fail_ : α) : α :=
  (optC (S.PostOk_t p0 p1 p2) (fun c_1 => (bif !c_1 then (leaf0_ (0, false)) else (bif decide (0 ≤ if (↑p2.length : Int) < if 0 > bytes then 0 else bytes then (↑p2.length : Int) else if 0 > bytes then 0 else bytes) && decide ((if (↑p2.length : Int) < if 0 > bytes then 0 else bytes then (↑p2.length : Int) else if 0 > bytes then 0 else bytes) ≤ (↑p2.length : Int)) then (optC (S.PostRise_t p0 (List.take (if (↑p2.length : Int) < if 0 > bytes then 0 else bytes then (↑p2.length : Int) else if 0 > bytes then 0 else bytes).toNat (List.drop 0 p2))) (fun c_2 => (sumC c_2 (fun c_3 => (leaf0_ (c_3.fst, c_3.snd))) (fun c_3 => (leaf1_ (c_3.fst, c_3.snd.fst, c_3.snd.snd.fst, c_3.snd.snd.snd))))) fail_) else fail_))) fail_)
theorem S.PostCut_tree_nat {α γ : Type} (g : α → γ) (p0 : List Int) (p1 : Int) (p2 : List Int) (bytes : Int) (leaf0_ : Int × Bool → α) (leaf1_ : Int × Bool × (List Int) × (List Int) → α) (fail_ : α) : g (S.PostCut_tree p0 p1 p2 bytes leaf0_ leaf1_ fail_) = S.PostCut_tree p0 p1 p2 bytes (fun d => g (leaf0_ d)) (fun d => g (leaf1_ d)) (g fail_) := by
  unfold S.PostCut_tree; simp only [apply_cnd g, apply_optC g, apply_sumC g]
noncomputable def S.PostCut_t (p0 : List Int) (p1 : Int) (p2 : List Int) (bytes : Int) : Option ((Int × Bool) ⊕ (Int × Bool × (List Int) × (List Int))) := S.PostCut_tree p0 p1 p2 bytes (fun d => some ((Sum.inl d))) (fun d => some ((Sum.inr d))) none
theorem S.PostCut_den (p0 : List Int) (p1 : Int) (p2 : List Int) (bytes : Int) (κ : V → List E → R) : S.PostCut_F [.agg [.ro false (.ints .i64 p0), .int .i64 p1, .ro false (.ints .u8 p2)], .int .i64 bytes] [] κ = optC (S.PostCut_t p0 p1 p2 bytes) (fun (r : (Int × Bool) ⊕ (Int × Bool × (List Int) × (List Int))) => (sumC r (fun (r : Int × Bool) => κ (.tup [(.agg [.nil, (.int .i64 r.1), .nil]), (.bool r.2)]) []) (fun (r : Int × Bool × (List Int) × (List Int)) => κ (.tup [(.agg [(.own 0), (.int .i64 r.1), (.own 1)]), (.bool r.2.1)]) [.row (.ints .i64 r.2.2.1), .row (.ints .u8 r.2.2.2)]))) none := by
  have hu : S.PostCut_F [.agg [.ro false (.ints .i64 p0), .int .i64 p1, .ro false (.ints .u8 p2)], .int .i64 bytes] [] κ = S.PostCut_tree p0 p1 p2 bytes (fun d => κ (.tup [(.agg [.nil, (.int .i64 d.1), .nil]), (.bool d.2)]) []) (fun d => κ (.tup [(.agg [(.own 0), (.int .i64 d.1), (.own 1)]), (.bool d.2.1)]) [.row (.ints .i64 d.2.2.1), .row (.ints .u8 d.2.2.2)]) none := by
    kernel_rfl
  rw [hu]
  exact (S.PostCut_tree_nat (fun o => optC o (fun (r : (Int × Bool) ⊕ (Int × Bool × (List Int) × (List Int))) => (sumC r (fun (r : Int × Bool) => κ (.tup [(.agg [.nil, (.int .i64 r.1), .nil]), (.bool r.2)]) []) (fun (r : Int × Bool × (List Int) × (List Int)) => κ (.tup [(.agg [(.own 0), (.int .i64 r.1), (.own 1)]), (.bool r.2.1)]) [.row (.ints .i64 r.2.2.1), .row (.ints .u8 r.2.2.2)]))) none) p0 p1 p2 bytes (fun d => some ((Sum.inl d))) (fun d => some ((Sum.inr d))) none).symm
noncomputable def S.PostCut_s : D.Spec where
  keep := false
  pure := false
  add := true
  ds := [.tuple #[1, 0, 2], .invalid]
  sp := fun args h κ => match args, h with
    | [.agg [.ro false (.ints .i64 p0), .int .i64 p1, .ro false (.ints .u8 p2)], .int .i64 bytes], [] => optC (S.PostCut_t p0 p1 p2 bytes) (fun (r : (Int × Bool) ⊕ (Int × Bool × (List Int) × (List Int))) => (sumC r (fun (r : Int × Bool) => κ (.tup [(.agg [.nil, (.int .i64 r.1), .nil]), (.bool r.2)]) []) (fun (r : Int × Bool × (List Int) × (List Int)) => κ (.tup [(.agg [(.own 0), (.int .i64 r.1), (.own 1)]), (.bool r.2.1)]) [.row (.ints .i64 r.2.2.1), .row (.ints .u8 r.2.2.2)]))) none
    | _, _ => none
theorem S.PostCut_ok : SpecOk Try.prog 44 S.PostCut_s := by
  refine SpecOk.of TDok mixed (T := S.PostCut_T) ?_ (ann := S.PostCut_ann) Try.func44 rfl (by decide +kernel) ?_ ?_ ?_ ?_
  · intro p hp
    simp only [S.PostCut_T, List.mem_cons, List.not_mem_nil, or_false] at hp
    rcases hp with rfl | rfl
    · exact S.PostOk_ok
    · exact S.PostRise_ok
  · intro args h κ r hh
    simp only [S.PostCut_s] at hh
    split at hh
    · exact (S.PostCut_den _ _ _ _ κ).trans hh
    · cases hh
  · intro args h κ r hh
    simp only [S.PostCut_s] at hh ⊢
    split at hh
    · exact optC_law2 (F := fun (r : (Int × Bool) ⊕ (Int × Bool × (List Int) × (List Int))) κ => (sumC r (fun (r : Int × Bool) => κ (.tup [(.agg [.nil, (.int .i64 r.1), .nil]), (.bool r.2)]) []) (fun (r : Int × Bool × (List Int) × (List Int)) => κ (.tup [(.agg [(.own 0), (.int .i64 r.1), (.own 1)]), (.bool r.2.1)]) [.row (.ints .i64 r.2.2.1), .row (.ints .u8 r.2.2.2)]))) (fun b κ r hb => by rcases b with b | b <;> exact ⟨_, _, hb, fun _ => rfl⟩) hh
    · cases hh
  · intro hh; cases hh
  · intro _ args h κ r hh
    simp only [S.PostCut_s] at hh
    split at hh
    · rfl
    · cases hh


end Go.Proofs.Ytcckjofnglbbeaa
