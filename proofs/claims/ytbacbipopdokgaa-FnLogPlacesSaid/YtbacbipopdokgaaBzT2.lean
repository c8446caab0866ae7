/- Twins of the translated functions, with their proofs. Conditions: none. -/
import Derived.Test.YtbacbipopdokgaaBzT1
set_option linter.unusedVariables false
set_option linter.unusedSimpArgs false
set_option linter.unusedSectionVars false
namespace Go.Proofs.Ytbacbipopdokgaa
open D Go.RowKit
-- loop.example/guardsonnets/spec.EternalSets
noncomputable def S.EternalSets_T : List (Nat × D.Spec) := [(54, S.NetOk_s), (55, S.l9Lasts_s)]
def S.EternalSets_ann : Nat → List Nat × List Nat
  | 6 => ([3, 4, 5], [3])
  | _ => ([], [])
noncomputable def S.EternalSets_F (args : List V) (h : List E) (κ : V → List E → R) : R := funC TD (tableK S.EternalSets_T) S.EternalSets_ann (drawOk TD (tableP S.EternalSets_T)) FUEL Try.f35 args h κ
noncomputable def S.EternalSets_L6 (n : Nat) (σ : St) (k : X → St → R) : R := iterC 0 (fun σ k => denC TD (tableK S.EternalSets_T) S.EternalSets_ann (drawOk TD (tableP S.EternalSets_T)) 0 FUEL ((findLoop 6 (Try.f35.body.getD .skip)).getD .skip) σ k) [3, 4, 5] [3] n σ k
noncomputable def S.EternalSets_k6 (κ : V → List E → R) : X → St → R := (afterC TD (tableK S.EternalSets_T) S.EternalSets_ann (drawOk TD (tableP S.EternalSets_T)) 0 FUEL 6 (Try.f35.body.getD .skip) (finC TD 0 Try.f35 κ)).getD (fun _ _ => none)
noncomputable def S.EternalSets_step6 {α : Type} (x5 : Int) (r0 : List Int) (r1 : List Bool) (next_ : Int × (List Int) × (List Bool) → α) (out0_ : List Int → α) (fail_ : α) : α :=
  (bif decide (x5 < (↑r1.length : Int)) then (bif decide (0 ≤ x5) && decide (x5 < (↑r1.length : Int)) then (bif decide (x5.toNat < r1.length) then (bif elb r1 x5.toNat then (bif small (r0 ++ [x5]).length then (next_ (IntKind.i64.wrap (x5 + 1), r0 ++ [x5], r1)) else fail_) else (next_ (IntKind.i64.wrap (x5 + 1), r0, r1))) else fail_) else fail_) else (out0_ r0))
theorem S.EternalSets_step6_nat {α γ : Type} (g : α → γ) (x5 : Int) (r0 : List Int) (r1 : List Bool) (next_ : Int × (List Int) × (List Bool) → α) (out0_ : List Int → α) (fail_ : α) : g (S.EternalSets_step6 x5 r0 r1 next_ out0_ fail_) = S.EternalSets_step6 x5 r0 r1 (fun s => g (next_ s)) (fun d => g (out0_ d)) (g fail_) := by
  unfold S.EternalSets_step6; simp only [apply_cnd g, apply_optC g, apply_sumC g]
noncomputable def S.EternalSets_run6 : Nat → Int × (List Int) × (List Bool) → Option (List Int)
  | 0, _ => none
  | n + 1, s_ => S.EternalSets_step6 s_.1 s_.2.1 s_.2.2 (S.EternalSets_run6 n) (fun d => some d) none
theorem S.EternalSets_L6_run (n : Nat) (s_ : Int × (List Int) × (List Bool)) (k : X → St → R) : S.EternalSets_L6 n { n := 28, t := [(3, (.own 0)), (4, (.own 1)), (5, (.int .i64 s_.1))], h := [.row (.ints .i64 s_.2.1), .row (.bools s_.2.2)] } k = optC (S.EternalSets_run6 n s_) (fun (r : List Int) => k (.exit 0) { n := 28, t := [(3, (.own 0))], h := [.row (.ints .i64 r)] }) none := by
  induction n generalizing s_ with
  | zero => rfl
  | succ n ih =>
    have hu : S.EternalSets_L6 (n + 1) { n := 28, t := [(3, (.own 0)), (4, (.own 1)), (5, (.int .i64 s_.1))], h := [.row (.ints .i64 s_.2.1), .row (.bools s_.2.2)] } k = S.EternalSets_step6 s_.1 s_.2.1 s_.2.2 (fun s_ => S.EternalSets_L6 n { n := 28, t := [(3, (.own 0)), (4, (.own 1)), (5, (.int .i64 s_.1))], h := [.row (.ints .i64 s_.2.1), .row (.bools s_.2.2)] } k) (fun d => k (.exit 0) { n := 28, t := [(3, (.own 0))], h := [.row (.ints .i64 d)] }) none := by
      kernel_rfl
    have hs : (fun s_ : Int × (List Int) × (List Bool) => S.EternalSets_L6 n { n := 28, t := [(3, (.own 0)), (4, (.own 1)), (5, (.int .i64 s_.1))], h := [.row (.ints .i64 s_.2.1), .row (.bools s_.2.2)] } k) = fun s_ => optC (S.EternalSets_run6 n s_) (fun (r : List Int) => k (.exit 0) { n := 28, t := [(3, (.own 0))], h := [.row (.ints .i64 r)] }) none := funext ih
    rw [hu, hs]
    exact (S.EternalSets_step6_nat (fun o => optC o (fun (r : List Int) => k (.exit 0) { n := 28, t := [(3, (.own 0))], h := [.row (.ints .i64 r)] }) none) s_.1 s_.2.1 s_.2.2 (S.EternalSets_run6 n) (fun d => some d) none).symm
noncomputable def S.EternalSets_tree {α : Type} (net : List Int) (leaf0_ : List Int → α) (fail_ : α) : α :=
  (optC (S.NetOk_t net) (fun c_1 => (bif !c_1 then (leaf0_ ([])) else (optC (S.l9Lasts_t net) (fun c_2 => (optC (S.EternalSets_run6 FUEL (0, [], c_2)) (fun qy_3 => (leaf0_ qy_3)) fail_)) fail_))) fail_)
theorem S.EternalSets_tree_nat {α γ : Type} (g : α → γ) (net : List Int) (leaf0_ : List Int → α) (fail_ : α) : g (S.EternalSets_tree net leaf0_ fail_) = S.EternalSets_tree net (fun d => g (leaf0_ d)) (g fail_) := by
  unfold S.EternalSets_tree; simp only [apply_cnd g, apply_optC g, apply_sumC g]
noncomputable def S.EternalSets_t (net : List Int) : Option (List Int) := S.EternalSets_tree net (fun d => some d) none
theorem S.EternalSets_den (net : List Int) (κ : V → List E → R) : S.EternalSets_F [.ro false (.ints .i64 net)] [] κ = optC (S.EternalSets_t net) (fun (r : List Int) => κ (.own 0) [.row (.ints .i64 r)]) none := by
  have hu : S.EternalSets_F [.ro false (.ints .i64 net)] [] κ = S.EternalSets_tree net (fun d => κ (.own 0) [.row (.ints .i64 d)]) none := by
    refine Eq.trans (show S.EternalSets_F [.ro false (.ints .i64 net)] [] κ = (optC (S.NetOk_t net) (fun c_1 => (bif !c_1 then (κ (.own 0) [.row (.ints .i64 ([]))]) else (optC (S.l9Lasts_t net) (fun c_2 => (S.EternalSets_L6 FUEL { n := 28, t := [(3, (.own 0)), (4, (.own 1)), (5, (.int .i64 0))], h := [.row (.ints .i64 ([])), .row (.bools c_2)] } (S.EternalSets_k6 κ))) none))) none) by kernel_rfl) ?_
    refine optC_congr (fun c_1 => ?_)
    refine cnd_congr ?_ ?_
    · kernel_rfl
    · refine optC_congr (fun c_2 => ?_)
      refine (S.EternalSets_L6_run FUEL (0, [], c_2) (S.EternalSets_k6 κ)).trans (optC_congr (fun qy_3 => ?_))
      kernel_rfl
  rw [hu]
  exact (S.EternalSets_tree_nat (fun o => optC o (fun (r : List Int) => κ (.own 0) [.row (.ints .i64 r)]) none) net (fun d => some d) none).symm
noncomputable def S.EternalSets_s : D.Spec where
  keep := false
  pure := false
  add := true
  ds := [.int .i64]
  sp := fun args h κ => match args, h with
    | [.ro false (.ints .i64 net)], [] => optC (S.EternalSets_t net) (fun (r : List Int) => κ (.own 0) [.row (.ints .i64 r)]) none
    | _, _ => none
theorem S.EternalSets_ok : SpecOk Try.prog 35 S.EternalSets_s := by
  refine SpecOk.of TDok mixed (T := S.EternalSets_T) ?_ (ann := S.EternalSets_ann) Try.func35 rfl (by decide +kernel) ?_ ?_ ?_ ?_
  · intro p hp
    simp only [S.EternalSets_T, List.mem_cons, List.not_mem_nil, or_false] at hp
    rcases hp with rfl | rfl
    · exact S.NetOk_ok
    · exact S.l9Lasts_ok
  · intro args h κ r hh
    simp only [S.EternalSets_s] at hh
    split at hh
    · exact (S.EternalSets_den _ κ).trans hh
    · cases hh
  · intro args h κ r hh
    simp only [S.EternalSets_s] at hh ⊢
    split at hh
    · exact optC_law2 (F := fun (r : List Int) κ => κ (.own 0) [.row (.ints .i64 r)]) (fun b κ r hb => ⟨_, _, hb, fun _ => rfl⟩) hh
    · cases hh
  · intro hh; cases hh
  · intro _ args h κ r hh
    simp only [S.EternalSets_s] at hh
    split at hh
    · rfl
    · cases hh

-- loop.example/guardsonnets/spec.l1Size
noncomputable def S.l1Size_T : List (Nat × D.Spec) := []
def S.l1Size_ann : Nat → List Nat × List Nat
  | 2 => ([0, 3], [3])
  | _ => ([], [])
noncomputable def S.l1Size_F (args : List V) (h : List E) (κ : V → List E → R) : R := funC TD (tableK S.l1Size_T) S.l1Size_ann (drawOk TD (tableP S.l1Size_T)) FUEL Try.f37 args h κ
noncomputable def S.l1Size_L2 (n : Nat) (σ : St) (k : X → St → R) : R := iterC 0 (fun σ k => denC TD (tableK S.l1Size_T) S.l1Size_ann (drawOk TD (tableP S.l1Size_T)) 0 FUEL ((findLoop 2 (Try.f37.body.getD .skip)).getD .skip) σ k) [0, 3] [3] n σ k
noncomputable def S.l1Size_k2 (κ : V → List E → R) : X → St → R := (afterC TD (tableK S.l1Size_T) S.l1Size_ann (drawOk TD (tableP S.l1Size_T)) 0 FUEL 2 (Try.f37.body.getD .skip) (finC TD 0 Try.f37 κ)).getD (fun _ _ => none)
noncomputable def S.l1Size_step2 {α : Type} (x0 : Int) (x3 : Int) (next_ : Int × Int → α) (out0_ : Int → α) (fail_ : α) : α :=
  (bif decide (x0 > 0) then (next_ (IntKind.i64.wrap (x0.tdiv 2), IntKind.i64.wrap (x3 + x0.tmod 2))) else (out0_ x3))
theorem S.l1Size_step2_nat {α γ : Type} (g : α → γ) (x0 : Int) (x3 : Int) (next_ : Int × Int → α) (out0_ : Int → α) (fail_ : α) : g (S.l1Size_step2 x0 x3 next_ out0_ fail_) = S.l1Size_step2 x0 x3 (fun s => g (next_ s)) (fun d => g (out0_ d)) (g fail_) := by
  unfold S.l1Size_step2; simp only [apply_cnd g, apply_optC g, apply_sumC g]
noncomputable def S.l1Size_run2 : Nat → Int × Int → Option (Int)
  | 0, _ => none
  | n + 1, s_ => S.l1Size_step2 s_.1 s_.2 (S.l1Size_run2 n) (fun d => some d) none
theorem S.l1Size_L2_run (n : Nat) (s_ : Int × Int) (k : X → St → R) : S.l1Size_L2 n { n := 13, t := [(0, (.int .i64 s_.1)), (3, (.int .i64 s_.2))], h := [] } k = optC (S.l1Size_run2 n s_) (fun (r : Int) => k (.exit 0) { n := 13, t := [(3, (.int .i64 r))], h := [] }) none := by
  induction n generalizing s_ with
  | zero => rfl
  | succ n ih =>
    have hu : S.l1Size_L2 (n + 1) { n := 13, t := [(0, (.int .i64 s_.1)), (3, (.int .i64 s_.2))], h := [] } k = S.l1Size_step2 s_.1 s_.2 (fun s_ => S.l1Size_L2 n { n := 13, t := [(0, (.int .i64 s_.1)), (3, (.int .i64 s_.2))], h := [] } k) (fun d => k (.exit 0) { n := 13, t := [(3, (.int .i64 d))], h := [] }) none := by
      kernel_rfl
    have hs : (fun s_ : Int × Int => S.l1Size_L2 n { n := 13, t := [(0, (.int .i64 s_.1)), (3, (.int .i64 s_.2))], h := [] } k) = fun s_ => optC (S.l1Size_run2 n s_) (fun (r : Int) => k (.exit 0) { n := 13, t := [(3, (.int .i64 r))], h := [] }) none := funext ih
    rw [hu, hs]
    exact (S.l1Size_step2_nat (fun o => optC o (fun (r : Int) => k (.exit 0) { n := 13, t := [(3, (.int .i64 r))], h := [] }) none) s_.1 s_.2 (S.l1Size_run2 n) (fun d => some d) none).symm
noncomputable def S.l1Size_tree {α : Type} (set_ : Int) (leaf0_ : Int → α) (fail_ : α) : α :=
  (optC (S.l1Size_run2 FUEL (set_, 0)) (fun qy_1 => (leaf0_ qy_1)) fail_)
theorem S.l1Size_tree_nat {α γ : Type} (g : α → γ) (set_ : Int) (leaf0_ : Int → α) (fail_ : α) : g (S.l1Size_tree set_ leaf0_ fail_) = S.l1Size_tree set_ (fun d => g (leaf0_ d)) (g fail_) := by
  unfold S.l1Size_tree; simp only [apply_cnd g, apply_optC g, apply_sumC g]
noncomputable def S.l1Size_t (set_ : Int) : Option (Int) := S.l1Size_tree set_ (fun d => some d) none
theorem S.l1Size_den (set_ : Int) (κ : V → List E → R) : S.l1Size_F [.int .i64 set_] [] κ = optC (S.l1Size_t set_) (fun (r : Int) => κ (.int .i64 r) []) none := by
  have hu : S.l1Size_F [.int .i64 set_] [] κ = S.l1Size_tree set_ (fun d => κ (.int .i64 d) []) none := by
    refine Eq.trans (show S.l1Size_F [.int .i64 set_] [] κ = (S.l1Size_L2 FUEL { n := 13, t := [(0, (.int .i64 set_)), (3, (.int .i64 0))], h := [] } (S.l1Size_k2 κ)) by kernel_rfl) ?_
    refine (S.l1Size_L2_run FUEL (set_, 0) (S.l1Size_k2 κ)).trans (optC_congr (fun qy_1 => ?_))
    kernel_rfl
  rw [hu]
  exact (S.l1Size_tree_nat (fun o => optC o (fun (r : Int) => κ (.int .i64 r) []) none) set_ (fun d => some d) none).symm
noncomputable def S.l1Size_s : D.Spec where
  keep := false
  pure := true
  add := true
  ds := [.invalid]
  sp := fun args h κ => match args, h with
    | [.int .i64 set_], [] => optC (S.l1Size_t set_) (fun (r : Int) => κ (.int .i64 r) []) none
    | _, _ => none
theorem S.l1Size_ok : SpecOk Try.prog 37 S.l1Size_s := by
  refine SpecOk.of TDok mixed (T := S.l1Size_T) ?_ (ann := S.l1Size_ann) Try.func37 rfl (by decide +kernel) ?_ ?_ ?_ ?_
  · intro p hp; cases hp
  · intro args h κ r hh
    simp only [S.l1Size_s] at hh
    split at hh
    · exact (S.l1Size_den _ κ).trans hh
    · cases hh
  · intro args h κ r hh
    simp only [S.l1Size_s] at hh ⊢
    split at hh
    · exact optC_law2 (F := fun (r : Int) κ => κ (.int .i64 r) []) (fun b κ r hb => ⟨_, _, hb, fun _ => rfl⟩) hh
    · cases hh
  · intro _ args h κ r hh
    simp only [S.l1Size_s] at hh
    split at hh
    · exact ⟨rfl, fun _ => rfl⟩
    · cases hh
  · intro _ args h κ r hh
    simp only [S.l1Size_s] at hh
    split at hh
    · rfl
    · cases hh

-- loop.example/guardsonnets/spec.FewestEternal
noncomputable def S.FewestEternal_T : List (Nat × D.Spec) := [(54, S.NetOk_s), (35, S.EternalSets_s), (37, S.l1Size_s)]
def S.FewestEternal_ann : Nat → List Nat × List Nat
  | 6 => ([3, 4, 5], [3])
  | _ => ([], [])
noncomputable def S.FewestEternal_F (args : List V) (h : List E) (κ : V → List E → R) : R := funC TD (tableK S.FewestEternal_T) S.FewestEternal_ann (drawOk TD (tableP S.FewestEternal_T)) FUEL Try.f36 args h κ
noncomputable def S.FewestEternal_L6 (n : Nat) (σ : St) (k : X → St → R) : R := iterC 0 (fun σ k => denC TD (tableK S.FewestEternal_T) S.FewestEternal_ann (drawOk TD (tableP S.FewestEternal_T)) 0 FUEL ((findLoop 6 (Try.f36.body.getD .skip)).getD .skip) σ k) [3, 4, 5] [3] n σ k
noncomputable def S.FewestEternal_k6 (κ : V → List E → R) : X → St → R := (afterC TD (tableK S.FewestEternal_T) S.FewestEternal_ann (drawOk TD (tableP S.FewestEternal_T)) 0 FUEL 6 (Try.f36.body.getD .skip) (finC TD 0 Try.f36 κ)).getD (fun _ _ => none)
noncomputable def S.FewestEternal_step6 {α : Type} (x3 : Int) (x5 : Int) (r0 : List Int) (next_ : Int × Int × (List Int) → α) (out0_ : Int → α) (fail_ : α) : α :=
  (bif decide (x5 < (↑r0.length : Int)) then (bif decide (0 ≤ x5) && decide (x5 < (↑r0.length : Int)) then (bif decide (x5.toNat < r0.length) then (optC (S.l1Size_t (eli r0 x5.toNat)) (fun c_3 => (next_ (if c_3 < x3 then c_3 else x3, IntKind.i64.wrap (x5 + 1), r0))) fail_) else fail_) else fail_) else (out0_ x3))
theorem S.FewestEternal_step6_nat {α γ : Type} (g : α → γ) (x3 : Int) (x5 : Int) (r0 : List Int) (next_ : Int × Int × (List Int) → α) (out0_ : Int → α) (fail_ : α) : g (S.FewestEternal_step6 x3 x5 r0 next_ out0_ fail_) = S.FewestEternal_step6 x3 x5 r0 (fun s => g (next_ s)) (fun d => g (out0_ d)) (g fail_) := by
  unfold S.FewestEternal_step6; simp only [apply_cnd g, apply_optC g, apply_sumC g]
noncomputable def S.FewestEternal_run6 : Nat → Int × Int × (List Int) → Option (Int)
  | 0, _ => none
  | n + 1, s_ => S.FewestEternal_step6 s_.1 s_.2.1 s_.2.2 (S.FewestEternal_run6 n) (fun d => some d) none
theorem S.FewestEternal_L6_run (n : Nat) (s_ : Int × Int × (List Int)) (k : X → St → R) : S.FewestEternal_L6 n { n := 27, t := [(3, (.int .i64 s_.1)), (4, (.own 0)), (5, (.int .i64 s_.2.1))], h := [.row (.ints .i64 s_.2.2)] } k = optC (S.FewestEternal_run6 n s_) (fun (r : Int) => k (.exit 0) { n := 27, t := [(3, (.int .i64 r))], h := [] }) none := by
  induction n generalizing s_ with
  | zero => rfl
  | succ n ih =>
    have hu : S.FewestEternal_L6 (n + 1) { n := 27, t := [(3, (.int .i64 s_.1)), (4, (.own 0)), (5, (.int .i64 s_.2.1))], h := [.row (.ints .i64 s_.2.2)] } k = S.FewestEternal_step6 s_.1 s_.2.1 s_.2.2 (fun s_ => S.FewestEternal_L6 n { n := 27, t := [(3, (.int .i64 s_.1)), (4, (.own 0)), (5, (.int .i64 s_.2.1))], h := [.row (.ints .i64 s_.2.2)] } k) (fun d => k (.exit 0) { n := 27, t := [(3, (.int .i64 d))], h := [] }) none := by
      kernel_rfl
    have hs : (fun s_ : Int × Int × (List Int) => S.FewestEternal_L6 n { n := 27, t := [(3, (.int .i64 s_.1)), (4, (.own 0)), (5, (.int .i64 s_.2.1))], h := [.row (.ints .i64 s_.2.2)] } k) = fun s_ => optC (S.FewestEternal_run6 n s_) (fun (r : Int) => k (.exit 0) { n := 27, t := [(3, (.int .i64 r))], h := [] }) none := funext ih
    rw [hu, hs]
    exact (S.FewestEternal_step6_nat (fun o => optC o (fun (r : Int) => k (.exit 0) { n := 27, t := [(3, (.int .i64 r))], h := [] }) none) s_.1 s_.2.1 s_.2.2 (S.FewestEternal_run6 n) (fun d => some d) none).symm
noncomputable def S.FewestEternal_tree {α : Type} (net : List Int) (leaf0_ : Int → α) (fail_ : α) : α :=
  (optC (S.NetOk_t net) (fun c_1 => (bif !c_1 then (leaf0_ (-1)) else (optC (S.EternalSets_t net) (fun c_2 => (optC (S.FewestEternal_run6 FUEL ((↑net.length : Int), 0, c_2)) (fun qy_4 => (leaf0_ qy_4)) fail_)) fail_))) fail_)
theorem S.FewestEternal_tree_nat {α γ : Type} (g : α → γ) (net : List Int) (leaf0_ : Int → α) (fail_ : α) : g (S.FewestEternal_tree net leaf0_ fail_) = S.FewestEternal_tree net (fun d => g (leaf0_ d)) (g fail_) := by
  unfold S.FewestEternal_tree; simp only [apply_cnd g, apply_optC g, apply_sumC g]
noncomputable def S.FewestEternal_t (net : List Int) : Option (Int) := S.FewestEternal_tree net (fun d => some d) none
theorem S.FewestEternal_den (net : List Int) (κ : V → List E → R) : S.FewestEternal_F [.ro false (.ints .i64 net)] [] κ = optC (S.FewestEternal_t net) (fun (r : Int) => κ (.int .i64 r) []) none := by
  have hu : S.FewestEternal_F [.ro false (.ints .i64 net)] [] κ = S.FewestEternal_tree net (fun d => κ (.int .i64 d) []) none := by
    refine Eq.trans (show S.FewestEternal_F [.ro false (.ints .i64 net)] [] κ = (optC (S.NetOk_t net) (fun c_1 => (bif !c_1 then (κ (.int .i64 (-1)) []) else (optC (S.EternalSets_t net) (fun c_2 => (S.FewestEternal_L6 FUEL { n := 27, t := [(3, (.int .i64 ((↑net.length : Int)))), (4, (.own 0)), (5, (.int .i64 0))], h := [.row (.ints .i64 c_2)] } (S.FewestEternal_k6 κ))) none))) none) by kernel_rfl) ?_
    refine optC_congr (fun c_1 => ?_)
    refine cnd_congr ?_ ?_
    · kernel_rfl
    · refine optC_congr (fun c_2 => ?_)
      refine (S.FewestEternal_L6_run FUEL ((↑net.length : Int), 0, c_2) (S.FewestEternal_k6 κ)).trans (optC_congr (fun qy_4 => ?_))
      kernel_rfl
  rw [hu]
  exact (S.FewestEternal_tree_nat (fun o => optC o (fun (r : Int) => κ (.int .i64 r) []) none) net (fun d => some d) none).symm
noncomputable def S.FewestEternal_s : D.Spec where
  keep := false
  pure := true
  add := true
  ds := [.int .i64]
  sp := fun args h κ => match args, h with
    | [.ro false (.ints .i64 net)], [] => optC (S.FewestEternal_t net) (fun (r : Int) => κ (.int .i64 r) []) none
    | _, _ => none
theorem S.FewestEternal_ok : SpecOk Try.prog 36 S.FewestEternal_s := by
  refine SpecOk.of TDok mixed (T := S.FewestEternal_T) ?_ (ann := S.FewestEternal_ann) Try.func36 rfl (by decide +kernel) ?_ ?_ ?_ ?_
  · intro p hp
    simp only [S.FewestEternal_T, List.mem_cons, List.not_mem_nil, or_false] at hp
    rcases hp with rfl | rfl | rfl
    · exact S.NetOk_ok
    · exact S.EternalSets_ok
    · exact S.l1Size_ok
  · intro args h κ r hh
    simp only [S.FewestEternal_s] at hh
    split at hh
    · exact (S.FewestEternal_den _ κ).trans hh
    · cases hh
  · intro args h κ r hh
    simp only [S.FewestEternal_s] at hh ⊢
    split at hh
    · exact optC_law2 (F := fun (r : Int) κ => κ (.int .i64 r) []) (fun b κ r hb => ⟨_, _, hb, fun _ => rfl⟩) hh
    · cases hh
  · intro _ args h κ r hh
    simp only [S.FewestEternal_s] at hh
    split at hh
    · exact ⟨rfl, fun _ => rfl⟩
    · cases hh
  · intro _ args h κ r hh
    simp only [S.FewestEternal_s] at hh
    split at hh
    · rfl
    · cases hh

-- loop.example/guardsonnets/spec.FirstPost
noncomputable def S.FirstPost_T : List (Nat × D.Spec) := [(35, S.EternalSets_s), (36, S.FewestEternal_s), (37, S.l1Size_s)]
def S.FirstPost_ann : Nat → List Nat × List Nat
  | 4 => ([3, 4, 5], [2])
  | _ => ([], [])
noncomputable def S.FirstPost_F (args : List V) (h : List E) (κ : V → List E → R) : R := funC TD (tableK S.FirstPost_T) S.FirstPost_ann (drawOk TD (tableP S.FirstPost_T)) FUEL Try.f11 args h κ
noncomputable def S.FirstPost_L4 (n : Nat) (σ : St) (k : X → St → R) : R := iterC 0 (fun σ k => denC TD (tableK S.FirstPost_T) S.FirstPost_ann (drawOk TD (tableP S.FirstPost_T)) 0 FUEL ((findLoop 4 (Try.f11.body.getD .skip)).getD .skip) σ k) [3, 4, 5] [2] n σ k
noncomputable def S.FirstPost_k4 (κ : V → List E → R) : X → St → R := (afterC TD (tableK S.FirstPost_T) S.FirstPost_ann (drawOk TD (tableP S.FirstPost_T)) 0 FUEL 4 (Try.f11.body.getD .skip) (finC TD 0 Try.f11 κ)).getD (fun _ _ => none)
noncomputable def S.FirstPost_step4 {α : Type} (x4 : Int) (x5 : Int) (r0 : List Int) (next_ : Int × (List Int) → α) (out0_ : Int → α) (out1_ : Unit → α) (fail_ : α) : α :=
  (bif decide (x5 < (↑r0.length : Int)) then (bif decide (0 ≤ x5) && decide (x5 < (↑r0.length : Int)) then (bif decide (x5.toNat < r0.length) then (optC (S.l1Size_t (eli r0 x5.toNat)) (fun c_3 => (bif c_3 == x4 then (bif decide (0 ≤ x5) && decide (x5 < (↑r0.length : Int)) then (bif decide (x5.toNat < r0.length) then (out0_ (eli r0 x5.toNat)) else fail_) else fail_) else (next_ (IntKind.i64.wrap (x5 + 1), r0)))) fail_) else fail_) else fail_) else (out1_ ()))
theorem S.FirstPost_step4_nat {α γ : Type} (g : α → γ) (x4 : Int) (x5 : Int) (r0 : List Int) (next_ : Int × (List Int) → α) (out0_ : Int → α) (out1_ : Unit → α) (fail_ : α) : g (S.FirstPost_step4 x4 x5 r0 next_ out0_ out1_ fail_) = S.FirstPost_step4 x4 x5 r0 (fun s => g (next_ s)) (fun d => g (out0_ d)) (fun d => g (out1_ d)) (g fail_) := by
  unfold S.FirstPost_step4; simp only [apply_cnd g, apply_optC g, apply_sumC g]
noncomputable def S.FirstPost_run4 (x4 : Int) : Nat → Int × (List Int) → Option ((Int) ⊕ (Unit))
  | 0, _ => none
  | n + 1, s_ => S.FirstPost_step4 x4 s_.1 s_.2 (S.FirstPost_run4 x4 n) (fun d => some ((Sum.inl d))) (fun d => some ((Sum.inr d))) none
theorem S.FirstPost_L4_run (x4 : Int) (n : Nat) (s_ : Int × (List Int)) (k : X → St → R) : S.FirstPost_L4 n { n := 27, t := [(3, (.own 0)), (4, (.int .i64 x4)), (5, (.int .i64 s_.1))], h := [.row (.ints .i64 s_.2)] } k = optC (S.FirstPost_run4 x4 n s_) (fun (r : (Int) ⊕ (Unit)) => (sumC r (fun (r : Int) => k (.ret) { n := 27, t := [(2, (.int .i64 r))], h := [] }) (fun (r : Unit) => k (.exit 0) { n := 27, t := [(2, .junk)], h := [] }))) none := by
  induction n generalizing s_ with
  | zero => rfl
  | succ n ih =>
    have hu : S.FirstPost_L4 (n + 1) { n := 27, t := [(3, (.own 0)), (4, (.int .i64 x4)), (5, (.int .i64 s_.1))], h := [.row (.ints .i64 s_.2)] } k = S.FirstPost_step4 x4 s_.1 s_.2 (fun s_ => S.FirstPost_L4 n { n := 27, t := [(3, (.own 0)), (4, (.int .i64 x4)), (5, (.int .i64 s_.1))], h := [.row (.ints .i64 s_.2)] } k) (fun d => k (.ret) { n := 27, t := [(2, (.int .i64 d))], h := [] }) (fun d => k (.exit 0) { n := 27, t := [(2, .junk)], h := [] }) none := by
      kernel_rfl
    have hs : (fun s_ : Int × (List Int) => S.FirstPost_L4 n { n := 27, t := [(3, (.own 0)), (4, (.int .i64 x4)), (5, (.int .i64 s_.1))], h := [.row (.ints .i64 s_.2)] } k) = fun s_ => optC (S.FirstPost_run4 x4 n s_) (fun (r : (Int) ⊕ (Unit)) => (sumC r (fun (r : Int) => k (.ret) { n := 27, t := [(2, (.int .i64 r))], h := [] }) (fun (r : Unit) => k (.exit 0) { n := 27, t := [(2, .junk)], h := [] }))) none := funext ih
    rw [hu, hs]
    exact (S.FirstPost_step4_nat (fun o => optC o (fun (r : (Int) ⊕ (Unit)) => (sumC r (fun (r : Int) => k (.ret) { n := 27, t := [(2, (.int .i64 r))], h := [] }) (fun (r : Unit) => k (.exit 0) { n := 27, t := [(2, .junk)], h := [] }))) none) x4 s_.1 s_.2 (S.FirstPost_run4 x4 n) (fun d => some ((Sum.inl d))) (fun d => some ((Sum.inr d))) none).symm
noncomputable def S.FirstPost_tree {α : Type} (net : List Int) (leaf0_ : Int → α) (fail_ : α) : α :=
  (optC (S.EternalSets_t net) (fun c_1 => (optC (S.FewestEternal_t net) (fun c_2 => (optC (S.FirstPost_run4 c_2 FUEL (0, c_1)) (fun qy_4 => (sumC qy_4 (fun (qy_4 : Int) => (leaf0_ qy_4)) (fun (qy_4 : Unit) => (leaf0_ (-1))))) fail_)) fail_)) fail_)
theorem S.FirstPost_tree_nat {α γ : Type} (g : α → γ) (net : List Int) (leaf0_ : Int → α) (fail_ : α) : g (S.FirstPost_tree net leaf0_ fail_) = S.FirstPost_tree net (fun d => g (leaf0_ d)) (g fail_) := by
  unfold S.FirstPost_tree; simp only [apply_cnd g, apply_optC g, apply_sumC g]
noncomputable def S.FirstPost_t (net : List Int) : Option (Int) := S.FirstPost_tree net (fun d => some d) none
theorem S.FirstPost_den (net : List Int) (κ : V → List E → R) : S.FirstPost_F [.ro false (.ints .i64 net)] [] κ = optC (S.FirstPost_t net) (fun (r : Int) => κ (.int .i64 r) []) none := by
  have hu : S.FirstPost_F [.ro false (.ints .i64 net)] [] κ = S.FirstPost_tree net (fun d => κ (.int .i64 d) []) none := by
    refine Eq.trans (show S.FirstPost_F [.ro false (.ints .i64 net)] [] κ = (optC (S.EternalSets_t net) (fun c_1 => (optC (S.FewestEternal_t net) (fun c_2 => (S.FirstPost_L4 FUEL { n := 27, t := [(3, (.own 0)), (4, (.int .i64 c_2)), (5, (.int .i64 0))], h := [.row (.ints .i64 c_1)] } (S.FirstPost_k4 κ))) none)) none) by kernel_rfl) ?_
    refine optC_congr (fun c_1 => ?_)
    refine optC_congr (fun c_2 => ?_)
    refine (S.FirstPost_L4_run c_2 FUEL (0, c_1) (S.FirstPost_k4 κ)).trans (optC_congr (fun qy_4 => ?_))
    rcases qy_4 with qy_4 | qy_4
    · kernel_rfl
    · kernel_rfl
  rw [hu]
  exact (S.FirstPost_tree_nat (fun o => optC o (fun (r : Int) => κ (.int .i64 r) []) none) net (fun d => some d) none).symm
noncomputable def S.FirstPost_s : D.Spec where
  keep := false
  pure := true
  add := true
  ds := [.int .i64]
  sp := fun args h κ => match args, h with
    | [.ro false (.ints .i64 net)], [] => optC (S.FirstPost_t net) (fun (r : Int) => κ (.int .i64 r) []) none
    | _, _ => none
theorem S.FirstPost_ok : SpecOk Try.prog 11 S.FirstPost_s := by
  refine SpecOk.of TDok mixed (T := S.FirstPost_T) ?_ (ann := S.FirstPost_ann) Try.func11 rfl (by decide +kernel) ?_ ?_ ?_ ?_
  · intro p hp
    simp only [S.FirstPost_T, List.mem_cons, List.not_mem_nil, or_false] at hp
    rcases hp with rfl | rfl | rfl
    · exact S.EternalSets_ok
    · exact S.FewestEternal_ok
    · exact S.l1Size_ok
  · intro args h κ r hh
    simp only [S.FirstPost_s] at hh
    split at hh
    · exact (S.FirstPost_den _ κ).trans hh
    · cases hh
  · intro args h κ r hh
    simp only [S.FirstPost_s] at hh ⊢
    split at hh
    · exact optC_law2 (F := fun (r : Int) κ => κ (.int .i64 r) []) (fun b κ r hb => ⟨_, _, hb, fun _ => rfl⟩) hh
    · cases hh
  · intro _ args h κ r hh
    simp only [S.FirstPost_s] at hh
    split at hh
    · exact ⟨rfl, fun _ => rfl⟩
    · cases hh
  · intro _ args h κ r hh
    simp only [S.FirstPost_s] at hh
    split at hh
    · rfl
    · cases hh

-- loop.example/guardsonnets/laws.alive
noncomputable def L.alive_T : List (Nat × D.Spec) := [(12, I.NetOk_s)]
def L.alive_ann : Nat → List Nat × List Nat
  | _ => ([], [])
noncomputable def L.alive_F (args : List V) (h : List E) (κ : V → List E → R) : R := funC TD (tableK L.alive_T) L.alive_ann (drawOk TD (tableP L.alive_T)) FUEL Try.f13 args h κ
noncomputable def L.alive_tree {α : Type} (leaf0_ : Bool → α) (fail_ : α) : α :=
  (optC (I.NetOk_t [2, 1]) (fun c_1 => (bif c_1 then (optC (I.NetOk_t [1]) (fun c_2 => (leaf0_ (!c_2))) fail_) else (leaf0_ false))) fail_)
theorem L.alive_tree_nat {α γ : Type} (g : α → γ) (leaf0_ : Bool → α) (fail_ : α) : g (L.alive_tree leaf0_ fail_) = L.alive_tree (fun d => g (leaf0_ d)) (g fail_) := by
  unfold L.alive_tree; simp only [apply_cnd g, apply_optC g, apply_sumC g]
noncomputable def L.alive_t : Option (Bool) := L.alive_tree (fun d => some d) none
theorem L.alive_den (κ : V → List E → R) : L.alive_F [] [] κ = optC (L.alive_t) (fun (r : Bool) => κ (.bool r) []) none := by
  have hu : L.alive_F [] [] κ = L.alive_tree (fun d => κ (.bool d) []) none := by
    kernel_rfl
  rw [hu]
  exact (L.alive_tree_nat (fun o => optC o (fun (r : Bool) => κ (.bool r) []) none) (fun d => some d) none).symm
noncomputable def L.alive_s : D.Spec where
  keep := false
  pure := true
  add := true
  ds := []
  sp := fun args h κ => match args, h with
    | [], [] => optC (L.alive_t) (fun (r : Bool) => κ (.bool r) []) none
    | _, _ => none
theorem L.alive_ok : SpecOk Try.prog 13 L.alive_s := by
  refine SpecOk.of TDok mixed (T := L.alive_T) ?_ (ann := L.alive_ann) Try.func13 rfl (by decide +kernel) ?_ ?_ ?_ ?_
  · intro p hp
    simp only [L.alive_T, List.mem_cons, List.not_mem_nil, or_false] at hp
    rcases hp with rfl
    · exact I.NetOk_ok
  · intro args h κ r hh
    simp only [L.alive_s] at hh
    split at hh
    · exact (L.alive_den κ).trans hh
    · cases hh
  · intro args h κ r hh
    simp only [L.alive_s] at hh ⊢
    split at hh
    · exact optC_law2 (F := fun (r : Bool) κ => κ (.bool r) []) (fun b κ r hb => ⟨_, _, hb, fun _ => rfl⟩) hh
    · cases hh
  · intro _ args h κ r hh
    simp only [L.alive_s] at hh
    split at hh
    · exact ⟨rfl, fun _ => rfl⟩
    · cases hh
  · intro _ args h κ r hh
    simp only [L.alive_s] at hh
    split at hh
    · rfl
    · cases hh

-- loop.example/guardsonnets/laws.sizeOf
noncomputable def L.sizeOf_T : List (Nat × D.Spec) := []
def L.sizeOf_ann : Nat → List Nat × List Nat
  | 2 => ([0, 3], [3])
  | _ => ([], [])
noncomputable def L.sizeOf_F (args : List V) (h : List E) (κ : V → List E → R) : R := funC TD (tableK L.sizeOf_T) L.sizeOf_ann (drawOk TD (tableP L.sizeOf_T)) FUEL Try.f14 args h κ
noncomputable def L.sizeOf_L2 (n : Nat) (σ : St) (k : X → St → R) : R := iterC 0 (fun σ k => denC TD (tableK L.sizeOf_T) L.sizeOf_ann (drawOk TD (tableP L.sizeOf_T)) 0 FUEL ((findLoop 2 (Try.f14.body.getD .skip)).getD .skip) σ k) [0, 3] [3] n σ k
noncomputable def L.sizeOf_k2 (κ : V → List E → R) : X → St → R := (afterC TD (tableK L.sizeOf_T) L.sizeOf_ann (drawOk TD (tableP L.sizeOf_T)) 0 FUEL 2 (Try.f14.body.getD .skip) (finC TD 0 Try.f14 κ)).getD (fun _ _ => none)
noncomputable def L.sizeOf_step2 {α : Type} (x0 : Int) (x3 : Int) (next_ : Int × Int → α) (out0_ : Int → α) (fail_ : α) : α :=
  (bif decide (x0 > 0) then (next_ (IntKind.i64.wrap (x0.tdiv 2), IntKind.i64.wrap (x3 + x0.tmod 2))) else (out0_ x3))
theorem L.sizeOf_step2_nat {α γ : Type} (g : α → γ) (x0 : Int) (x3 : Int) (next_ : Int × Int → α) (out0_ : Int → α) (fail_ : α) : g (L.sizeOf_step2 x0 x3 next_ out0_ fail_) = L.sizeOf_step2 x0 x3 (fun s => g (next_ s)) (fun d => g (out0_ d)) (g fail_) := by
  unfold L.sizeOf_step2; simp only [apply_cnd g, apply_optC g, apply_sumC g]
noncomputable def L.sizeOf_run2 : Nat → Int × Int → Option (Int)
  | 0, _ => none
  | n + 1, s_ => L.sizeOf_step2 s_.1 s_.2 (L.sizeOf_run2 n) (fun d => some d) none
theorem L.sizeOf_L2_run (n : Nat) (s_ : Int × Int) (k : X → St → R) : L.sizeOf_L2 n { n := 13, t := [(0, (.int .i64 s_.1)), (3, (.int .i64 s_.2))], h := [] } k = optC (L.sizeOf_run2 n s_) (fun (r : Int) => k (.exit 0) { n := 13, t := [(3, (.int .i64 r))], h := [] }) none := by
  induction n generalizing s_ with
  | zero => rfl
  | succ n ih =>
    have hu : L.sizeOf_L2 (n + 1) { n := 13, t := [(0, (.int .i64 s_.1)), (3, (.int .i64 s_.2))], h := [] } k = L.sizeOf_step2 s_.1 s_.2 (fun s_ => L.sizeOf_L2 n { n := 13, t := [(0, (.int .i64 s_.1)), (3, (.int .i64 s_.2))], h := [] } k) (fun d => k (.exit 0) { n := 13, t := [(3, (.int .i64 d))], h := [] }) none := by
      kernel_rfl
    have hs : (fun s_ : Int × Int => L.sizeOf_L2 n { n := 13, t := [(0, (.int .i64 s_.1)), (3, (.int .i64 s_.2))], h := [] } k) = fun s_ => optC (L.sizeOf_run2 n s_) (fun (r : Int) => k (.exit 0) { n := 13, t := [(3, (.int .i64 r))], h := [] }) none := funext ih
    rw [hu, hs]
    exact (L.sizeOf_step2_nat (fun o => optC o (fun (r : Int) => k (.exit 0) { n := 13, t := [(3, (.int .i64 r))], h := [] }) none) s_.1 s_.2 (L.sizeOf_run2 n) (fun d => some d) none).symm
noncomputable def L.sizeOf_tree {α : Type} (n_ : Int) (leaf0_ : Int → α) (fail_ : α) : α :=
  (optC (L.sizeOf_run2 FUEL (n_, 0)) (fun qy_1 => (leaf0_ qy_1)) fail_)
theorem L.sizeOf_tree_nat {α γ : Type} (g : α → γ) (n_ : Int) (leaf0_ : Int → α) (fail_ : α) : g (L.sizeOf_tree n_ leaf0_ fail_) = L.sizeOf_tree n_ (fun d => g (leaf0_ d)) (g fail_) := by
  unfold L.sizeOf_tree; simp only [apply_cnd g, apply_optC g, apply_sumC g]
noncomputable def L.sizeOf_t (n_ : Int) : Option (Int) := L.sizeOf_tree n_ (fun d => some d) none
theorem L.sizeOf_den (n_ : Int) (κ : V → List E → R) : L.sizeOf_F [.int .i64 n_] [] κ = optC (L.sizeOf_t n_) (fun (r : Int) => κ (.int .i64 r) []) none := by
  have hu : L.sizeOf_F [.int .i64 n_] [] κ = L.sizeOf_tree n_ (fun d => κ (.int .i64 d) []) none := by
    refine Eq.trans (show L.sizeOf_F [.int .i64 n_] [] κ = (L.sizeOf_L2 FUEL { n := 13, t := [(0, (.int .i64 n_)), (3, (.int .i64 0))], h := [] } (L.sizeOf_k2 κ)) by kernel_rfl) ?_
    refine (L.sizeOf_L2_run FUEL (n_, 0) (L.sizeOf_k2 κ)).trans (optC_congr (fun qy_1 => ?_))
    kernel_rfl
  rw [hu]
  exact (L.sizeOf_tree_nat (fun o => optC o (fun (r : Int) => κ (.int .i64 r) []) none) n_ (fun d => some d) none).symm
noncomputable def L.sizeOf_s : D.Spec where
  keep := false
  pure := true
  add := true
  ds := [.invalid]
  sp := fun args h κ => match args, h with
    | [.int .i64 n_], [] => optC (L.sizeOf_t n_) (fun (r : Int) => κ (.int .i64 r) []) none
    | _, _ => none
theorem L.sizeOf_ok : SpecOk Try.prog 14 L.sizeOf_s := by
  refine SpecOk.of TDok mixed (T := L.sizeOf_T) ?_ (ann := L.sizeOf_ann) Try.func14 rfl (by decide +kernel) ?_ ?_ ?_ ?_
  · intro p hp; cases hp
  · intro args h κ r hh
    simp only [L.sizeOf_s] at hh
    split at hh
    · exact (L.sizeOf_den _ κ).trans hh
    · cases hh
  · intro args h κ r hh
    simp only [L.sizeOf_s] at hh ⊢
    split at hh
    · exact optC_law2 (F := fun (r : Int) κ => κ (.int .i64 r) []) (fun b κ r hb => ⟨_, _, hb, fun _ => rfl⟩) hh
    · cases hh
  · intro _ args h κ r hh
    simp only [L.sizeOf_s] at hh
    split at hh
    · exact ⟨rfl, fun _ => rfl⟩
    · cases hh
  · intro _ args h κ r hh
    simp only [L.sizeOf_s] at hh
    split at hh
    · rfl
    · cases hh

-- loop.example/guardsonnets/impl.EternalOk
noncomputable def I.EternalOk_T : List (Nat × D.Spec) := [(12, I.NetOk_s), (38, I.setIn_s), (41, I.eternalIn_s)]
def I.EternalOk_ann : Nat → List Nat × List Nat
  | _ => ([], [])
noncomputable def I.EternalOk_F (args : List V) (h : List E) (κ : V → List E → R) : R := funC TD (tableK I.EternalOk_T) I.EternalOk_ann (drawOk TD (tableP I.EternalOk_T)) FUEL Try.f15 args h κ
noncomputable def I.EternalOk_tree {α : Type} (net : List Int) (set_ : Int) (leaf0_ : Bool → α) (fail_ : α) : α :=
  (optC (I.NetOk_t net) (fun c_1 => (bif c_1 then (optC (I.setIn_t net set_) (fun c_2 => (bif c_2 then (optC (I.eternalIn_t net) (fun c_3 => (bif decide (0 ≤ set_) && decide (set_ < (↑c_3.length : Int)) then (bif decide (set_.toNat < c_3.length) then (leaf0_ (elb c_3 set_.toNat)) else fail_) else fail_)) fail_) else (leaf0_ false))) fail_) else (leaf0_ false))) fail_)
theorem I.EternalOk_tree_nat {α γ : Type} (g : α → γ) (net : List Int) (set_ : Int) (leaf0_ : Bool → α) (fail_ : α) : g (I.EternalOk_tree net set_ leaf0_ fail_) = I.EternalOk_tree net set_ (fun d => g (leaf0_ d)) (g fail_) := by
  unfold I.EternalOk_tree; simp only [apply_cnd g, apply_optC g, apply_sumC g]
noncomputable def I.EternalOk_t (net : List Int) (set_ : Int) : Option (Bool) := I.EternalOk_tree net set_ (fun d => some d) none
theorem I.EternalOk_den (net : List Int) (set_ : Int) (κ : V → List E → R) : I.EternalOk_F [.ro false (.ints .i64 net), .int .i64 set_] [] κ = optC (I.EternalOk_t net set_) (fun (r : Bool) => κ (.bool r) []) none := by
  have hu : I.EternalOk_F [.ro false (.ints .i64 net), .int .i64 set_] [] κ = I.EternalOk_tree net set_ (fun d => κ (.bool d) []) none := by
    kernel_rfl
  rw [hu]
  exact (I.EternalOk_tree_nat (fun o => optC o (fun (r : Bool) => κ (.bool r) []) none) net set_ (fun d => some d) none).symm
noncomputable def I.EternalOk_s : D.Spec where
  keep := false
  pure := true
  add := true
  ds := [.int .i64, .invalid]
  sp := fun args h κ => match args, h with
    | [.ro false (.ints .i64 net), .int .i64 set_], [] => optC (I.EternalOk_t net set_) (fun (r : Bool) => κ (.bool r) []) none
    | _, _ => none
theorem I.EternalOk_ok : SpecOk Try.prog 15 I.EternalOk_s := by
  refine SpecOk.of TDok mixed (T := I.EternalOk_T) ?_ (ann := I.EternalOk_ann) Try.func15 rfl (by decide +kernel) ?_ ?_ ?_ ?_
  · intro p hp
    simp only [I.EternalOk_T, List.mem_cons, List.not_mem_nil, or_false] at hp
    rcases hp with rfl | rfl | rfl
    · exact I.NetOk_ok
    · exact I.setIn_ok
    · exact I.eternalIn_ok
  · intro args h κ r hh
    simp only [I.EternalOk_s] at hh
    split at hh
    · exact (I.EternalOk_den _ _ κ).trans hh
    · cases hh
  · intro args h κ r hh
    simp only [I.EternalOk_s] at hh ⊢
    split at hh
    · exact optC_law2 (F := fun (r : Bool) κ => κ (.bool r) []) (fun b κ r hb => ⟨_, _, hb, fun _ => rfl⟩) hh
    · cases hh
  · intro _ args h κ r hh
    simp only [I.EternalOk_s] at hh
    split at hh
    · exact ⟨rfl, fun _ => rfl⟩
    · cases hh
  · intro _ args h κ r hh
    simp only [I.EternalOk_s] at hh
    split at hh
    · rfl
    · cases hh

-- loop.example/guardsonnets/impl.fewerOf
noncomputable def I.fewerOf_T : List (Nat × D.Spec) := []
def I.fewerOf_ann : Nat → List Nat × List Nat
  | _ => ([], [])
noncomputable def I.fewerOf_F (args : List V) (h : List E) (κ : V → List E → R) : R := funC TD (tableK I.fewerOf_T) I.fewerOf_ann (drawOk TD (tableP I.fewerOf_T)) FUEL Try.f58 args h κ
noncomputable def I.fewerOf_tree {α : Type} (fewest : Int) (number : Int) (leaf0_ : Int → α) (fail_ : α) : α :=
  (bif decide (fewest < 0) then (leaf0_ number) else (bif decide (number < fewest) then (leaf0_ number) else (leaf0_ fewest)))
theorem I.fewerOf_tree_nat {α γ : Type} (g : α → γ) (fewest : Int) (number : Int) (leaf0_ : Int → α) (fail_ : α) : g (I.fewerOf_tree fewest number leaf0_ fail_) = I.fewerOf_tree fewest number (fun d => g (leaf0_ d)) (g fail_) := by
  unfold I.fewerOf_tree; simp only [apply_cnd g, apply_optC g, apply_sumC g]
noncomputable def I.fewerOf_t (fewest : Int) (number : Int) : Option (Int) := I.fewerOf_tree fewest number (fun d => some d) none
theorem I.fewerOf_den (fewest : Int) (number : Int) (κ : V → List E → R) : I.fewerOf_F [.int .i64 fewest, .int .i64 number] [] κ = optC (I.fewerOf_t fewest number) (fun (r : Int) => κ (.int .i64 r) []) none := by
  have hu : I.fewerOf_F [.int .i64 fewest, .int .i64 number] [] κ = I.fewerOf_tree fewest number (fun d => κ (.int .i64 d) []) none := by
    kernel_rfl
  rw [hu]
  exact (I.fewerOf_tree_nat (fun o => optC o (fun (r : Int) => κ (.int .i64 r) []) none) fewest number (fun d => some d) none).symm
noncomputable def I.fewerOf_s : D.Spec where
  keep := false
  pure := true
  add := true
  ds := [.invalid, .invalid]
  sp := fun args h κ => match args, h with
    | [.int .i64 fewest, .int .i64 number], [] => optC (I.fewerOf_t fewest number) (fun (r : Int) => κ (.int .i64 r) []) none
    | _, _ => none
theorem I.fewerOf_ok : SpecOk Try.prog 58 I.fewerOf_s := by
  refine SpecOk.of TDok mixed (T := I.fewerOf_T) ?_ (ann := I.fewerOf_ann) Try.func58 rfl (by decide +kernel) ?_ ?_ ?_ ?_
  · intro p hp; cases hp
  · intro args h κ r hh
    simp only [I.fewerOf_s] at hh
    split at hh
    · exact (I.fewerOf_den _ _ κ).trans hh
    · cases hh
  · intro args h κ r hh
    simp only [I.fewerOf_s] at hh ⊢
    split at hh
    · exact optC_law2 (F := fun (r : Int) κ => κ (.int .i64 r) []) (fun b κ r hb => ⟨_, _, hb, fun _ => rfl⟩) hh
    · cases hh
  · intro _ args h κ r hh
    simp only [I.fewerOf_s] at hh
    split at hh
    · exact ⟨rfl, fun _ => rfl⟩
    · cases hh
  · intro _ args h κ r hh
    simp only [I.fewerOf_s] at hh
    split at hh
    · rfl
    · cases hh

-- loop.example/guardsonnets/impl.fewestIn
noncomputable def I.fewestIn_T : List (Nat × D.Spec) := [(53, I.sizeOf_s), (58, I.fewerOf_s)]
def I.fewestIn_ann : Nat → List Nat × List Nat
  | 3 => ([0, 3, 4], [3])
  | _ => ([], [])
noncomputable def I.fewestIn_F (args : List V) (h : List E) (κ : V → List E → R) : R := funC TD (tableK I.fewestIn_T) I.fewestIn_ann (drawOk TD (tableP I.fewestIn_T)) FUEL Try.f42 args h κ
noncomputable def I.fewestIn_L3 (n : Nat) (σ : St) (k : X → St → R) : R := iterC 0 (fun σ k => denC TD (tableK I.fewestIn_T) I.fewestIn_ann (drawOk TD (tableP I.fewestIn_T)) 0 FUEL ((findLoop 3 (Try.f42.body.getD .skip)).getD .skip) σ k) [0, 3, 4] [3] n σ k
noncomputable def I.fewestIn_k3 (κ : V → List E → R) : X → St → R := (afterC TD (tableK I.fewestIn_T) I.fewestIn_ann (drawOk TD (tableP I.fewestIn_T)) 0 FUEL 3 (Try.f42.body.getD .skip) (finC TD 0 Try.f42 κ)).getD (fun _ _ => none)
noncomputable def I.fewestIn_step3 {α : Type} (x0 : List Bool) (x3 : Int) (x4 : Int) (next_ : Int × Int → α) (out0_ : Int → α) (fail_ : α) : α :=
  (bif decide (x4 < (↑x0.length : Int)) then (bif decide (0 ≤ x4) && decide (x4 < (↑x0.length : Int)) then (bif elb x0 x4.toNat then (optC (I.sizeOf_t x4) (fun c_1 => (optC (I.fewerOf_t x3 c_1) (fun c_2 => (next_ (c_2, IntKind.i64.wrap (x4 + 1)))) fail_)) fail_) else (next_ (x3, IntKind.i64.wrap (x4 + 1)))) else fail_) else (out0_ x3))
theorem I.fewestIn_step3_nat {α γ : Type} (g : α → γ) (x0 : List Bool) (x3 : Int) (x4 : Int) (next_ : Int × Int → α) (out0_ : Int → α) (fail_ : α) : g (I.fewestIn_step3 x0 x3 x4 next_ out0_ fail_) = I.fewestIn_step3 x0 x3 x4 (fun s => g (next_ s)) (fun d => g (out0_ d)) (g fail_) := by
  unfold I.fewestIn_step3; simp only [apply_cnd g, apply_optC g, apply_sumC g]
noncomputable def I.fewestIn_run3 (x0 : List Bool) : Nat → Int × Int → Option (Int)
  | 0, _ => none
  | n + 1, s_ => I.fewestIn_step3 x0 s_.1 s_.2 (I.fewestIn_run3 x0 n) (fun d => some d) none
theorem I.fewestIn_L3_run (x0 : List Bool) (n : Nat) (s_ : Int × Int) (k : X → St → R) : I.fewestIn_L3 n { n := 20, t := [(0, (.ro false (.bools x0))), (3, (.int .i64 s_.1)), (4, (.int .i64 s_.2))], h := [] } k = optC (I.fewestIn_run3 x0 n s_) (fun (r : Int) => k (.exit 0) { n := 20, t := [(3, (.int .i64 r))], h := [] }) none := by
  induction n generalizing s_ with
  | zero => rfl
  | succ n ih =>
    have hu : I.fewestIn_L3 (n + 1) { n := 20, t := [(0, (.ro false (.bools x0))), (3, (.int .i64 s_.1)), (4, (.int .i64 s_.2))], h := [] } k = I.fewestIn_step3 x0 s_.1 s_.2 (fun s_ => I.fewestIn_L3 n { n := 20, t := [(0, (.ro false (.bools x0))), (3, (.int .i64 s_.1)), (4, (.int .i64 s_.2))], h := [] } k) (fun d => k (.exit 0) { n := 20, t := [(3, (.int .i64 d))], h := [] }) none := by
      kernel_rfl
    have hs : (fun s_ : Int × Int => I.fewestIn_L3 n { n := 20, t := [(0, (.ro false (.bools x0))), (3, (.int .i64 s_.1)), (4, (.int .i64 s_.2))], h := [] } k) = fun s_ => optC (I.fewestIn_run3 x0 n s_) (fun (r : Int) => k (.exit 0) { n := 20, t := [(3, (.int .i64 r))], h := [] }) none := funext ih
    rw [hu, hs]
    exact (I.fewestIn_step3_nat (fun o => optC o (fun (r : Int) => k (.exit 0) { n := 20, t := [(3, (.int .i64 r))], h := [] }) none) x0 s_.1 s_.2 (I.fewestIn_run3 x0 n) (fun d => some d) none).symm
noncomputable def I.fewestIn_tree {α : Type} (lasting : List Bool) (leaf0_ : Int → α) (fail_ : α) : α :=
  (optC (I.fewestIn_run3 lasting FUEL (-1, 0)) (fun qy_3 => (leaf0_ qy_3)) fail_)
theorem I.fewestIn_tree_nat {α γ : Type} (g : α → γ) (lasting : List Bool) (leaf0_ : Int → α) (fail_ : α) : g (I.fewestIn_tree lasting leaf0_ fail_) = I.fewestIn_tree lasting (fun d => g (leaf0_ d)) (g fail_) := by
  unfold I.fewestIn_tree; simp only [apply_cnd g, apply_optC g, apply_sumC g]
noncomputable def I.fewestIn_t (lasting : List Bool) : Option (Int) := I.fewestIn_tree lasting (fun d => some d) none
theorem I.fewestIn_den (lasting : List Bool) (κ : V → List E → R) : I.fewestIn_F [.ro false (.bools lasting)] [] κ = optC (I.fewestIn_t lasting) (fun (r : Int) => κ (.int .i64 r) []) none := by
  have hu : I.fewestIn_F [.ro false (.bools lasting)] [] κ = I.fewestIn_tree lasting (fun d => κ (.int .i64 d) []) none := by
    refine Eq.trans (show I.fewestIn_F [.ro false (.bools lasting)] [] κ = (I.fewestIn_L3 FUEL { n := 20, t := [(0, (.ro false (.bools lasting))), (3, (.int .i64 (-1))), (4, (.int .i64 0))], h := [] } (I.fewestIn_k3 κ)) by kernel_rfl) ?_
    refine (I.fewestIn_L3_run lasting FUEL (-1, 0) (I.fewestIn_k3 κ)).trans (optC_congr (fun qy_3 => ?_))
    kernel_rfl
  rw [hu]
  exact (I.fewestIn_tree_nat (fun o => optC o (fun (r : Int) => κ (.int .i64 r) []) none) lasting (fun d => some d) none).symm
noncomputable def I.fewestIn_s : D.Spec where
  keep := false
  pure := true
  add := true
  ds := [.bool]
  sp := fun args h κ => match args, h with
    | [.ro false (.bools lasting)], [] => optC (I.fewestIn_t lasting) (fun (r : Int) => κ (.int .i64 r) []) none
    | _, _ => none
theorem I.fewestIn_ok : SpecOk Try.prog 42 I.fewestIn_s := by
  refine SpecOk.of TDok mixed (T := I.fewestIn_T) ?_ (ann := I.fewestIn_ann) Try.func42 rfl (by decide +kernel) ?_ ?_ ?_ ?_
  · intro p hp
    simp only [I.fewestIn_T, List.mem_cons, List.not_mem_nil, or_false] at hp
    rcases hp with rfl | rfl
    · exact I.sizeOf_ok
    · exact I.fewerOf_ok
  · intro args h κ r hh
    simp only [I.fewestIn_s] at hh
    split at hh
    · exact (I.fewestIn_den _ κ).trans hh
    · cases hh
  · intro args h κ r hh
    simp only [I.fewestIn_s] at hh ⊢
    split at hh
    · exact optC_law2 (F := fun (r : Int) κ => κ (.int .i64 r) []) (fun b κ r hb => ⟨_, _, hb, fun _ => rfl⟩) hh
    · cases hh
  · intro _ args h κ r hh
    simp only [I.fewestIn_s] at hh
    split at hh
    · exact ⟨rfl, fun _ => rfl⟩
    · cases hh
  · intro _ args h κ r hh
    simp only [I.fewestIn_s] at hh
    split at hh
    · rfl
    · cases hh

-- loop.example/guardsonnets/impl.FewestEternal
noncomputable def I.FewestEternal_T : List (Nat × D.Spec) := [(12, I.NetOk_s), (41, I.eternalIn_s), (42, I.fewestIn_s)]
def I.FewestEternal_ann : Nat → List Nat × List Nat
  | _ => ([], [])
noncomputable def I.FewestEternal_F (args : List V) (h : List E) (κ : V → List E → R) : R := funC TD (tableK I.FewestEternal_T) I.FewestEternal_ann (drawOk TD (tableP I.FewestEternal_T)) FUEL Try.f16 args h κ
noncomputable def I.FewestEternal_tree {α : Type} (net : List Int) (leaf0_ : Int → α) (fail_ : α) : α :=
  (optC (I.NetOk_t net) (fun c_1 => (bif !c_1 then (leaf0_ (-1)) else (optC (I.eternalIn_t net) (fun c_2 => (optC (I.fewestIn_t c_2) (fun c_3 => (leaf0_ c_3)) fail_)) fail_))) fail_)
theorem I.FewestEternal_tree_nat {α γ : Type} (g : α → γ) (net : List Int) (leaf0_ : Int → α) (fail_ : α) : g (I.FewestEternal_tree net leaf0_ fail_) = I.FewestEternal_tree net (fun d => g (leaf0_ d)) (g fail_) := by
  unfold I.FewestEternal_tree; simp only [apply_cnd g, apply_optC g, apply_sumC g]
noncomputable def I.FewestEternal_t (net : List Int) : Option (Int) := I.FewestEternal_tree net (fun d => some d) none
theorem I.FewestEternal_den (net : List Int) (κ : V → List E → R) : I.FewestEternal_F [.ro false (.ints .i64 net)] [] κ = optC (I.FewestEternal_t net) (fun (r : Int) => κ (.int .i64 r) []) none := by
  have hu : I.FewestEternal_F [.ro false (.ints .i64 net)] [] κ = I.FewestEternal_tree net (fun d => κ (.int .i64 d) []) none := by
    kernel_rfl
  rw [hu]
  exact (I.FewestEternal_tree_nat (fun o => optC o (fun (r : Int) => κ (.int .i64 r) []) none) net (fun d => some d) none).symm
noncomputable def I.FewestEternal_s : D.Spec where
  keep := false
  pure := true
  add := true
  ds := [.int .i64]
  sp := fun args h κ => match args, h with
    | [.ro false (.ints .i64 net)], [] => optC (I.FewestEternal_t net) (fun (r : Int) => κ (.int .i64 r) []) none
    | _, _ => none
theorem I.FewestEternal_ok : SpecOk Try.prog 16 I.FewestEternal_s := by
  refine SpecOk.of TDok mixed (T := I.FewestEternal_T) ?_ (ann := I.FewestEternal_ann) Try.func16 rfl (by decide +kernel) ?_ ?_ ?_ ?_
  · intro p hp
    simp only [I.FewestEternal_T, List.mem_cons, List.not_mem_nil, or_false] at hp
    rcases hp with rfl | rfl | rfl
    · exact I.NetOk_ok
    · exact I.eternalIn_ok
    · exact I.fewestIn_ok
  · intro args h κ r hh
    simp only [I.FewestEternal_s] at hh
    split at hh
    · exact (I.FewestEternal_den _ κ).trans hh
    · cases hh
  · intro args h κ r hh
    simp only [I.FewestEternal_s] at hh ⊢
    split at hh
    · exact optC_law2 (F := fun (r : Int) κ => κ (.int .i64 r) []) (fun b κ r hb => ⟨_, _, hb, fun _ => rfl⟩) hh
    · cases hh
  · intro _ args h κ r hh
    simp only [I.FewestEternal_s] at hh
    split at hh
    · exact ⟨rfl, fun _ => rfl⟩
    · cases hh
  · intro _ args h κ r hh
    simp only [I.FewestEternal_s] at hh
    split at hh
    · rfl
    · cases hh

-- loop.example/guardsonnets/laws.FnFirstPost
noncomputable def L.FnFirstPost_T : List (Nat × D.Spec) := [(9, S.DrawFirstPost_s), (10, I.FirstPost_s), (11, S.FirstPost_s), (12, I.NetOk_s), (13, L.alive_s), (14, L.sizeOf_s), (15, I.EternalOk_s), (16, I.FewestEternal_s)]
def L.FnFirstPost_ann : Nat → List Nat × List Nat
  | 10 => ([3, 4, 5], [2, 3, 4])
  | _ => ([], [])
noncomputable def L.FnFirstPost_F (args : List V) (h : List E) (κ : V → List E → R) : R := funC TD (tableK L.FnFirstPost_T) L.FnFirstPost_ann (drawOk TD (tableP L.FnFirstPost_T)) FUEL Try.f3 args h κ
noncomputable def L.FnFirstPost_L10 (n : Nat) (σ : St) (k : X → St → R) : R := iterC 0 (fun σ k => denC TD (tableK L.FnFirstPost_T) L.FnFirstPost_ann (drawOk TD (tableP L.FnFirstPost_T)) 0 FUEL ((findLoop 10 (Try.f3.body.getD .skip)).getD .skip) σ k) [3, 4, 5] [2, 3, 4] n σ k
noncomputable def L.FnFirstPost_k10 (κ : V → List E → R) : X → St → R := (afterC TD (tableK L.FnFirstPost_T) L.FnFirstPost_ann (drawOk TD (tableP L.FnFirstPost_T)) 0 FUEL 10 (Try.f3.body.getD .skip) (finC TD 0 Try.f3 κ)).getD (fun _ _ => none)
noncomputable def L.FnFirstPost_step10 {α : Type} (x4 : Int) (x5 : Int) (r0 : List Int) (next_ : Int × (List Int) → α) (out0_ : Bool × (List Int) → α) (out1_ : List Int → α) (fail_ : α) : α :=
  (bif decide (x5 < x4) then (optC (L.sizeOf_t x5) (fun c_6 => (optC (L.sizeOf_t x4) (fun c_7 => (bif c_6 == c_7 then (optC (I.EternalOk_t r0 x5) (fun c_8 => (bif c_8 then (out0_ (false, r0)) else (next_ (IntKind.i64.wrap (x5 + 1), r0)))) fail_) else (next_ (IntKind.i64.wrap (x5 + 1), r0)))) fail_)) fail_) else (out1_ r0))
theorem L.FnFirstPost_step10_nat {α γ : Type} (g : α → γ) (x4 : Int) (x5 : Int) (r0 : List Int) (next_ : Int × (List Int) → α) (out0_ : Bool × (List Int) → α) (out1_ : List Int → α) (fail_ : α) : g (L.FnFirstPost_step10 x4 x5 r0 next_ out0_ out1_ fail_) = L.FnFirstPost_step10 x4 x5 r0 (fun s => g (next_ s)) (fun d => g (out0_ d)) (fun d => g (out1_ d)) (g fail_) := by
  unfold L.FnFirstPost_step10; simp only [apply_cnd g, apply_optC g, apply_sumC g]
noncomputable def L.FnFirstPost_run10 (x4 : Int) : Nat → Int × (List Int) → Option ((Bool × (List Int)) ⊕ (List Int))
  | 0, _ => none
  | n + 1, s_ => L.FnFirstPost_step10 x4 s_.1 s_.2 (L.FnFirstPost_run10 x4 n) (fun d => some ((Sum.inl d))) (fun d => some ((Sum.inr d))) none
theorem L.FnFirstPost_L10_run (x4 : Int) (n : Nat) (s_ : Int × (List Int)) (k : X → St → R) : L.FnFirstPost_L10 n { n := 54, t := [(3, (.own 0)), (4, (.int .i64 x4)), (5, (.int .i64 s_.1))], h := [.row (.ints .i64 s_.2)] } k = optC (L.FnFirstPost_run10 x4 n s_) (fun (r : (Bool × (List Int)) ⊕ (List Int)) => (sumC r (fun (r : Bool × (List Int)) => k (.ret) { n := 54, t := [(2, (.bool r.1)), (3, (.own 0)), (4, (.int .i64 x4))], h := [.row (.ints .i64 r.2)] }) (fun (r : List Int) => k (.exit 0) { n := 54, t := [(2, .junk), (3, (.own 0)), (4, (.int .i64 x4))], h := [.row (.ints .i64 r)] }))) none := by
  induction n generalizing s_ with
  | zero => rfl
  | succ n ih =>
    have hu : L.FnFirstPost_L10 (n + 1) { n := 54, t := [(3, (.own 0)), (4, (.int .i64 x4)), (5, (.int .i64 s_.1))], h := [.row (.ints .i64 s_.2)] } k = L.FnFirstPost_step10 x4 s_.1 s_.2 (fun s_ => L.FnFirstPost_L10 n { n := 54, t := [(3, (.own 0)), (4, (.int .i64 x4)), (5, (.int .i64 s_.1))], h := [.row (.ints .i64 s_.2)] } k) (fun d => k (.ret) { n := 54, t := [(2, (.bool d.1)), (3, (.own 0)), (4, (.int .i64 x4))], h := [.row (.ints .i64 d.2)] }) (fun d => k (.exit 0) { n := 54, t := [(2, .junk), (3, (.own 0)), (4, (.int .i64 x4))], h := [.row (.ints .i64 d)] }) none := by
      kernel_rfl
    have hs : (fun s_ : Int × (List Int) => L.FnFirstPost_L10 n { n := 54, t := [(3, (.own 0)), (4, (.int .i64 x4)), (5, (.int .i64 s_.1))], h := [.row (.ints .i64 s_.2)] } k) = fun s_ => optC (L.FnFirstPost_run10 x4 n s_) (fun (r : (Bool × (List Int)) ⊕ (List Int)) => (sumC r (fun (r : Bool × (List Int)) => k (.ret) { n := 54, t := [(2, (.bool r.1)), (3, (.own 0)), (4, (.int .i64 x4))], h := [.row (.ints .i64 r.2)] }) (fun (r : List Int) => k (.exit 0) { n := 54, t := [(2, .junk), (3, (.own 0)), (4, (.int .i64 x4))], h := [.row (.ints .i64 r)] }))) none := funext ih
    rw [hu, hs]
    exact (L.FnFirstPost_step10_nat (fun o => optC o (fun (r : (Bool × (List Int)) ⊕ (List Int)) => (sumC r (fun (r : Bool × (List Int)) => k (.ret) { n := 54, t := [(2, (.bool r.1)), (3, (.own 0)), (4, (.int .i64 x4))], h := [.row (.ints .i64 r.2)] }) (fun (r : List Int) => k (.exit 0) { n := 54, t := [(2, .junk), (3, (.own 0)), (4, (.int .i64 x4))], h := [.row (.ints .i64 r)] }))) none) x4 s_.1 s_.2 (L.FnFirstPost_run10 x4 n) (fun d => some ((Sum.inl d))) (fun d => some ((Sum.inr d))) none).symm
noncomputable def L.FnFirstPost_tree {α : Type} (code : List Int) (leaf0_ : Bool → α) (fail_ : α) : α :=
  (bif decide ((↑code.length : Int) > 1048576) then (leaf0_ true) else (optC (S.DrawFirstPost_t code) (fun c_1 => (optC (I.FirstPost_t c_1) (fun c_2 => (optC (S.FirstPost_t c_1) (fun c_3 => (bif !c_2 == c_3 then (leaf0_ false) else (bif decide (c_2 < 0) then (bif c_2 == -1 then (optC (I.NetOk_t c_1) (fun c_4 => (bif !c_4 then (optC (L.alive_t) (fun c_5 => (leaf0_ c_5)) fail_) else (leaf0_ false))) fail_) else (leaf0_ false)) else (optC (L.FnFirstPost_run10 c_2 FUEL (0, c_1)) (fun qy_9 => (sumC qy_9 (fun (qy_9 : Bool × (List Int)) => (leaf0_ qy_9.1)) (fun (qy_9 : List Int) => (optC (I.EternalOk_t qy_9 c_2) (fun c_10 => (bif c_10 then (optC (L.sizeOf_t c_2) (fun c_11 => (optC (I.FewestEternal_t qy_9) (fun c_12 => (leaf0_ (c_11 == c_12))) fail_)) fail_) else (leaf0_ false))) fail_)))) fail_)))) fail_)) fail_)) fail_))
theorem L.FnFirstPost_tree_nat {α γ : Type} (g : α → γ) (code : List Int) (leaf0_ : Bool → α) (fail_ : α) : g (L.FnFirstPost_tree code leaf0_ fail_) = L.FnFirstPost_tree code (fun d => g (leaf0_ d)) (g fail_) := by
  unfold L.FnFirstPost_tree; simp only [apply_cnd g, apply_optC g, apply_sumC g]
noncomputable def L.FnFirstPost_t (code : List Int) : Option (Bool) := L.FnFirstPost_tree code (fun d => some d) none
theorem L.FnFirstPost_den (code : List Int) (κ : V → List E → R) : L.FnFirstPost_F [.ro true (.ints .u8 code)] [] κ = optC (L.FnFirstPost_t code) (fun (r : Bool) => κ (.bool r) []) none := by
  have hu : L.FnFirstPost_F [.ro true (.ints .u8 code)] [] κ = L.FnFirstPost_tree code (fun d => κ (.bool d) []) none := by
    refine Eq.trans (show L.FnFirstPost_F [.ro true (.ints .u8 code)] [] κ = (bif decide ((↑code.length : Int) > 1048576) then (κ (.bool true) []) else (optC (S.DrawFirstPost_t code) (fun c_1 => (optC (I.FirstPost_t c_1) (fun c_2 => (optC (S.FirstPost_t c_1) (fun c_3 => (bif !c_2 == c_3 then (κ (.bool false) []) else (bif decide (c_2 < 0) then (bif c_2 == -1 then (optC (I.NetOk_t c_1) (fun c_4 => (bif !c_4 then (optC (L.alive_t) (fun c_5 => (κ (.bool c_5) [])) none) else (κ (.bool false) []))) none) else (κ (.bool false) [])) else (L.FnFirstPost_L10 FUEL { n := 54, t := [(3, (.own 0)), (4, (.int .i64 c_2)), (5, (.int .i64 0))], h := [.row (.ints .i64 c_1)] } (L.FnFirstPost_k10 κ))))) none)) none)) none)) by kernel_rfl) ?_
    refine cnd_congr ?_ ?_
    · kernel_rfl
    · refine optC_congr (fun c_1 => ?_)
      refine optC_congr (fun c_2 => ?_)
      refine optC_congr (fun c_3 => ?_)
      refine cnd_congr ?_ ?_
      · kernel_rfl
      · refine cnd_congr ?_ ?_
        · kernel_rfl
        · refine (L.FnFirstPost_L10_run c_2 FUEL (0, c_1) (L.FnFirstPost_k10 κ)).trans (optC_congr (fun qy_9 => ?_))
          rcases qy_9 with qy_9 | qy_9
          · kernel_rfl
          · kernel_rfl
  rw [hu]
  exact (L.FnFirstPost_tree_nat (fun o => optC o (fun (r : Bool) => κ (.bool r) []) none) code (fun d => some d) none).symm
noncomputable def L.FnFirstPost_s : D.Spec where
  keep := true
  pure := true
  add := true
  ds := [.int .u8]
  sp := fun args h κ => match args, h with
    | [.ro true (.ints .u8 code)], [] => optC (L.FnFirstPost_t code) (fun (r : Bool) => κ (.bool r) []) none
    | _, _ => none
theorem L.FnFirstPost_ok : SpecOk Try.prog 3 L.FnFirstPost_s := by
  refine SpecOk.of TDok mixed (T := L.FnFirstPost_T) ?_ (ann := L.FnFirstPost_ann) Try.func3 rfl (by decide +kernel) ?_ ?_ ?_ ?_
  · intro p hp
    simp only [L.FnFirstPost_T, List.mem_cons, List.not_mem_nil, or_false] at hp
    rcases hp with rfl | rfl | rfl | rfl | rfl | rfl | rfl | rfl
    · exact S.DrawFirstPost_ok
    · exact I.FirstPost_ok
    · exact S.FirstPost_ok
    · exact I.NetOk_ok
    · exact L.alive_ok
    · exact L.sizeOf_ok
    · exact I.EternalOk_ok
    · exact I.FewestEternal_ok
  · intro args h κ r hh
    simp only [L.FnFirstPost_s] at hh
    split at hh
    · exact (L.FnFirstPost_den _ κ).trans hh
    · cases hh
  · intro args h κ r hh
    simp only [L.FnFirstPost_s] at hh ⊢
    split at hh
    · exact optC_law2 (F := fun (r : Bool) κ => κ (.bool r) []) (fun b κ r hb => ⟨_, _, hb, fun _ => rfl⟩) hh
    · cases hh
  · intro _ args h κ r hh
    simp only [L.FnFirstPost_s] at hh
    split at hh
    · exact ⟨rfl, fun _ => rfl⟩
    · cases hh
  · intro _ args h κ r hh
    simp only [L.FnFirstPost_s] at hh
    split at hh
    · rfl
    · cases hh

-- loop.example/guardsonnets/laws.toIntS
noncomputable def L.toIntS_T : List (Nat × D.Spec) := []
def L.toIntS_ann : Nat → List Nat × List Nat
  | 3 => ([0, 3, 4], [3])
  | _ => ([], [])
noncomputable def L.toIntS_F (args : List V) (h : List E) (κ : V → List E → R) : R := funC TD (tableK L.toIntS_T) L.toIntS_ann (drawOk TD (tableP L.toIntS_T)) FUEL Try.f17 args h κ
noncomputable def L.toIntS_L3 (n : Nat) (σ : St) (k : X → St → R) : R := iterC 0 (fun σ k => denC TD (tableK L.toIntS_T) L.toIntS_ann (drawOk TD (tableP L.toIntS_T)) 0 FUEL ((findLoop 3 (Try.f17.body.getD .skip)).getD .skip) σ k) [0, 3, 4] [3] n σ k
noncomputable def L.toIntS_k3 (κ : V → List E → R) : X → St → R := (afterC TD (tableK L.toIntS_T) L.toIntS_ann (drawOk TD (tableP L.toIntS_T)) 0 FUEL 3 (Try.f17.body.getD .skip) (finC TD 0 Try.f17 κ)).getD (fun _ _ => none)
noncomputable def L.toIntS_step3 {α : Type} (x0 : List Int) (x4 : Int) (r0 : List Int) (next_ : Int × (List Int) → α) (out0_ : List Int → α) (fail_ : α) : α :=
  (bif decide (x4 < (↑x0.length : Int)) then (bif decide (0 ≤ x4) && decide (x4 < (↑x0.length : Int)) then (bif decide (0 ≤ x4) && decide (x4 < (↑r0.length : Int)) then (bif decide (x4.toNat < r0.length) then (next_ (IntKind.i64.wrap (x4 + 1), r0.set x4.toNat (eli x0 x4.toNat))) else fail_) else fail_) else fail_) else (out0_ r0))
theorem L.toIntS_step3_nat {α γ : Type} (g : α → γ) (x0 : List Int) (x4 : Int) (r0 : List Int) (next_ : Int × (List Int) → α) (out0_ : List Int → α) (fail_ : α) : g (L.toIntS_step3 x0 x4 r0 next_ out0_ fail_) = L.toIntS_step3 x0 x4 r0 (fun s => g (next_ s)) (fun d => g (out0_ d)) (g fail_) := by
  unfold L.toIntS_step3; simp only [apply_cnd g, apply_optC g, apply_sumC g]
noncomputable def L.toIntS_run3 (x0 : List Int) : Nat → Int × (List Int) → Option (List Int)
  | 0, _ => none
  | n + 1, s_ => L.toIntS_step3 x0 s_.1 s_.2 (L.toIntS_run3 x0 n) (fun d => some d) none
theorem L.toIntS_L3_run (x0 : List Int) (n : Nat) (s_ : Int × (List Int)) (k : X → St → R) : L.toIntS_L3 n { n := 22, t := [(0, (.ro false (.ints .i64 x0))), (3, (.own 0)), (4, (.int .i64 s_.1))], h := [.row (.ints .i64 s_.2)] } k = optC (L.toIntS_run3 x0 n s_) (fun (r : List Int) => k (.exit 0) { n := 22, t := [(3, (.own 0))], h := [.row (.ints .i64 r)] }) none := by
  induction n generalizing s_ with
  | zero => rfl
  | succ n ih =>
    have hu : L.toIntS_L3 (n + 1) { n := 22, t := [(0, (.ro false (.ints .i64 x0))), (3, (.own 0)), (4, (.int .i64 s_.1))], h := [.row (.ints .i64 s_.2)] } k = L.toIntS_step3 x0 s_.1 s_.2 (fun s_ => L.toIntS_L3 n { n := 22, t := [(0, (.ro false (.ints .i64 x0))), (3, (.own 0)), (4, (.int .i64 s_.1))], h := [.row (.ints .i64 s_.2)] } k) (fun d => k (.exit 0) { n := 22, t := [(3, (.own 0))], h := [.row (.ints .i64 d)] }) none := by
      kernel_rfl
    have hs : (fun s_ : Int × (List Int) => L.toIntS_L3 n { n := 22, t := [(0, (.ro false (.ints .i64 x0))), (3, (.own 0)), (4, (.int .i64 s_.1))], h := [.row (.ints .i64 s_.2)] } k) = fun s_ => optC (L.toIntS_run3 x0 n s_) (fun (r : List Int) => k (.exit 0) { n := 22, t := [(3, (.own 0))], h := [.row (.ints .i64 r)] }) none := funext ih
    rw [hu, hs]
    exact (L.toIntS_step3_nat (fun o => optC o (fun (r : List Int) => k (.exit 0) { n := 22, t := [(3, (.own 0))], h := [.row (.ints .i64 r)] }) none) x0 s_.1 s_.2 (L.toIntS_run3 x0 n) (fun d => some d) none).symm
noncomputable def L.toIntS_tree {α : Type} (a : List Int) (leaf0_ : List Int → α) (fail_ : α) : α :=
  (bif small (↑a.length : Int).toNat && true then (optC (L.toIntS_run3 a FUEL (0, List.replicate (↑a.length : Int).toNat 0)) (fun qy_1 => (leaf0_ qy_1)) fail_) else fail_)
theorem L.toIntS_tree_nat {α γ : Type} (g : α → γ) (a : List Int) (leaf0_ : List Int → α) (fail_ : α) : g (L.toIntS_tree a leaf0_ fail_) = L.toIntS_tree a (fun d => g (leaf0_ d)) (g fail_) := by
  unfold L.toIntS_tree; simp only [apply_cnd g, apply_optC g, apply_sumC g]
noncomputable def L.toIntS_t (a : List Int) : Option (List Int) := L.toIntS_tree a (fun d => some d) none
theorem L.toIntS_den (a : List Int) (κ : V → List E → R) : L.toIntS_F [.ro false (.ints .i64 a)] [] κ = optC (L.toIntS_t a) (fun (r : List Int) => κ (.own 0) [.row (.ints .i64 r)]) none := by
  have hu : L.toIntS_F [.ro false (.ints .i64 a)] [] κ = L.toIntS_tree a (fun d => κ (.own 0) [.row (.ints .i64 d)]) none := by
    refine Eq.trans (show L.toIntS_F [.ro false (.ints .i64 a)] [] κ = (bif small (↑a.length : Int).toNat && true then (L.toIntS_L3 FUEL { n := 22, t := [(0, (.ro false (.ints .i64 a))), (3, (.own 0)), (4, (.int .i64 0))], h := [.row (.ints .i64 (List.replicate (↑a.length : Int).toNat 0))] } (L.toIntS_k3 κ)) else none) by kernel_rfl) ?_
    refine cnd_congr ?_ ?_
    · refine (L.toIntS_L3_run a FUEL (0, List.replicate (↑a.length : Int).toNat 0) (L.toIntS_k3 κ)).trans (optC_congr (fun qy_1 => ?_))
      kernel_rfl
    · kernel_rfl
  rw [hu]
  exact (L.toIntS_tree_nat (fun o => optC o (fun (r : List Int) => κ (.own 0) [.row (.ints .i64 r)]) none) a (fun d => some d) none).symm
noncomputable def L.toIntS_s : D.Spec where
  keep := false
  pure := false
  add := true
  ds := [.int .i64]
  sp := fun args h κ => match args, h with
    | [.ro false (.ints .i64 a)], [] => optC (L.toIntS_t a) (fun (r : List Int) => κ (.own 0) [.row (.ints .i64 r)]) none
    | _, _ => none
theorem L.toIntS_ok : SpecOk Try.prog 17 L.toIntS_s := by
  refine SpecOk.of TDok mixed (T := L.toIntS_T) ?_ (ann := L.toIntS_ann) Try.func17 rfl (by decide +kernel) ?_ ?_ ?_ ?_
  · intro p hp; cases hp
  · intro args h κ r hh
    simp only [L.toIntS_s] at hh
    split at hh
    · exact (L.toIntS_den _ κ).trans hh
    · cases hh
  · intro args h κ r hh
    simp only [L.toIntS_s] at hh ⊢
    split at hh
    · exact optC_law2 (F := fun (r : List Int) κ => κ (.own 0) [.row (.ints .i64 r)]) (fun b κ r hb => ⟨_, _, hb, fun _ => rfl⟩) hh
    · cases hh
  · intro hh; cases hh
  · intro _ args h κ r hh
    simp only [L.toIntS_s] at hh
    split at hh
    · rfl
    · cases hh

-- loop.example/guardsonnets/laws.eqIntS
noncomputable def L.eqIntS_T : List (Nat × D.Spec) := []
def L.eqIntS_ann : Nat → List Nat × List Nat
  | 4 => ([0, 1, 5], [4])
  | _ => ([], [])
noncomputable def L.eqIntS_F (args : List V) (h : List E) (κ : V → List E → R) : R := funC TD (tableK L.eqIntS_T) L.eqIntS_ann (drawOk TD (tableP L.eqIntS_T)) FUEL Try.f18 args h κ
noncomputable def L.eqIntS_L4 (n : Nat) (σ : St) (k : X → St → R) : R := iterC 0 (fun σ k => denC TD (tableK L.eqIntS_T) L.eqIntS_ann (drawOk TD (tableP L.eqIntS_T)) 0 FUEL ((findLoop 4 (Try.f18.body.getD .skip)).getD .skip) σ k) [0, 1, 5] [4] n σ k
noncomputable def L.eqIntS_k4 (κ : V → List E → R) : X → St → R := (afterC TD (tableK L.eqIntS_T) L.eqIntS_ann (drawOk TD (tableP L.eqIntS_T)) 0 FUEL 4 (Try.f18.body.getD .skip) (finC TD 0 Try.f18 κ)).getD (fun _ _ => none)
noncomputable def L.eqIntS_step4 {α : Type} (x0 : List Int) (x1 : List Int) (x5 : Int) (next_ : Int → α) (out0_ : Bool → α) (out1_ : Unit → α) (fail_ : α) : α :=
  (bif decide (x5 < (↑x0.length : Int)) then (bif decide (0 ≤ x5) && decide (x5 < (↑x0.length : Int)) then (bif decide (0 ≤ x5) && decide (x5 < (↑x1.length : Int)) then (bif !eli x0 x5.toNat == eli x1 x5.toNat then (out0_ false) else (next_ (IntKind.i64.wrap (x5 + 1)))) else fail_) else fail_) else (out1_ ()))
theorem L.eqIntS_step4_nat {α γ : Type} (g : α → γ) (x0 : List Int) (x1 : List Int) (x5 : Int) (next_ : Int → α) (out0_ : Bool → α) (out1_ : Unit → α) (fail_ : α) : g (L.eqIntS_step4 x0 x1 x5 next_ out0_ out1_ fail_) = L.eqIntS_step4 x0 x1 x5 (fun s => g (next_ s)) (fun d => g (out0_ d)) (fun d => g (out1_ d)) (g fail_) := by
  unfold L.eqIntS_step4; simp only [apply_cnd g, apply_optC g, apply_sumC g]
noncomputable def L.eqIntS_run4 (x0 : List Int) (x1 : List Int) : Nat → Int → Option ((Bool) ⊕ (Unit))
  | 0, _ => none
  | n + 1, s_ => L.eqIntS_step4 x0 x1 s_ (L.eqIntS_run4 x0 x1 n) (fun d => some ((Sum.inl d))) (fun d => some ((Sum.inr d))) none
theorem L.eqIntS_L4_run (x0 : List Int) (x1 : List Int) (n : Nat) (s_ : Int) (k : X → St → R) : L.eqIntS_L4 n { n := 26, t := [(0, (.ro false (.ints .i64 x0))), (1, (.ro false (.ints .i64 x1))), (5, (.int .i64 s_))], h := [] } k = optC (L.eqIntS_run4 x0 x1 n s_) (fun (r : (Bool) ⊕ (Unit)) => (sumC r (fun (r : Bool) => k (.ret) { n := 26, t := [(4, (.bool r))], h := [] }) (fun (r : Unit) => k (.exit 0) { n := 26, t := [(4, .junk)], h := [] }))) none := by
  induction n generalizing s_ with
  | zero => rfl
  | succ n ih =>
    have hu : L.eqIntS_L4 (n + 1) { n := 26, t := [(0, (.ro false (.ints .i64 x0))), (1, (.ro false (.ints .i64 x1))), (5, (.int .i64 s_))], h := [] } k = L.eqIntS_step4 x0 x1 s_ (fun s_ => L.eqIntS_L4 n { n := 26, t := [(0, (.ro false (.ints .i64 x0))), (1, (.ro false (.ints .i64 x1))), (5, (.int .i64 s_))], h := [] } k) (fun d => k (.ret) { n := 26, t := [(4, (.bool d))], h := [] }) (fun d => k (.exit 0) { n := 26, t := [(4, .junk)], h := [] }) none := by
      kernel_rfl
    have hs : (fun s_ : Int => L.eqIntS_L4 n { n := 26, t := [(0, (.ro false (.ints .i64 x0))), (1, (.ro false (.ints .i64 x1))), (5, (.int .i64 s_))], h := [] } k) = fun s_ => optC (L.eqIntS_run4 x0 x1 n s_) (fun (r : (Bool) ⊕ (Unit)) => (sumC r (fun (r : Bool) => k (.ret) { n := 26, t := [(4, (.bool r))], h := [] }) (fun (r : Unit) => k (.exit 0) { n := 26, t := [(4, .junk)], h := [] }))) none := funext ih
    rw [hu, hs]
    exact (L.eqIntS_step4_nat (fun o => optC o (fun (r : (Bool) ⊕ (Unit)) => (sumC r (fun (r : Bool) => k (.ret) { n := 26, t := [(4, (.bool r))], h := [] }) (fun (r : Unit) => k (.exit 0) { n := 26, t := [(4, .junk)], h := [] }))) none) x0 x1 s_ (L.eqIntS_run4 x0 x1 n) (fun d => some ((Sum.inl d))) (fun d => some ((Sum.inr d))) none).symm
noncomputable def L.eqIntS_tree {α : Type} (a : List Int) (b_ : List Int) (leaf0_ : Bool → α) (fail_ : α) : α :=
  (bif !(↑a.length : Int) == (↑b_.length : Int) then (leaf0_ false) else (optC (L.eqIntS_run4 a b_ FUEL 0) (fun qy_1 => (sumC qy_1 (fun (qy_1 : Bool) => (leaf0_ qy_1)) (fun (qy_1 : Unit) => (leaf0_ true)))) fail_))
theorem L.eqIntS_tree_nat {α γ : Type} (g : α → γ) (a : List Int) (b_ : List Int) (leaf0_ : Bool → α) (fail_ : α) : g (L.eqIntS_tree a b_ leaf0_ fail_) = L.eqIntS_tree a b_ (fun d => g (leaf0_ d)) (g fail_) := by
  unfold L.eqIntS_tree; simp only [apply_cnd g, apply_optC g, apply_sumC g]
noncomputable def L.eqIntS_t (a : List Int) (b_ : List Int) : Option (Bool) := L.eqIntS_tree a b_ (fun d => some d) none
theorem L.eqIntS_den (a : List Int) (b_ : List Int) (κ : V → List E → R) : L.eqIntS_F [.ro false (.ints .i64 a), .ro false (.ints .i64 b_)] [] κ = optC (L.eqIntS_t a b_) (fun (r : Bool) => κ (.bool r) []) none := by
  have hu : L.eqIntS_F [.ro false (.ints .i64 a), .ro false (.ints .i64 b_)] [] κ = L.eqIntS_tree a b_ (fun d => κ (.bool d) []) none := by
    refine Eq.trans (show L.eqIntS_F [.ro false (.ints .i64 a), .ro false (.ints .i64 b_)] [] κ = (bif !(↑a.length : Int) == (↑b_.length : Int) then (κ (.bool false) []) else (L.eqIntS_L4 FUEL { n := 26, t := [(0, (.ro false (.ints .i64 a))), (1, (.ro false (.ints .i64 b_))), (5, (.int .i64 0))], h := [] } (L.eqIntS_k4 κ))) by kernel_rfl) ?_
    refine cnd_congr ?_ ?_
    · kernel_rfl
    · refine (L.eqIntS_L4_run a b_ FUEL 0 (L.eqIntS_k4 κ)).trans (optC_congr (fun qy_1 => ?_))
      rcases qy_1 with qy_1 | qy_1
      · kernel_rfl
      · kernel_rfl
  rw [hu]
  exact (L.eqIntS_tree_nat (fun o => optC o (fun (r : Bool) => κ (.bool r) []) none) a b_ (fun d => some d) none).symm
noncomputable def L.eqIntS_s : D.Spec where
  keep := false
  pure := true
  add := true
  ds := [.int .i64, .int .i64]
  sp := fun args h κ => match args, h with
    | [.ro false (.ints .i64 a), .ro false (.ints .i64 b_)], [] => optC (L.eqIntS_t a b_) (fun (r : Bool) => κ (.bool r) []) none
    | _, _ => none
theorem L.eqIntS_ok : SpecOk Try.prog 18 L.eqIntS_s := by
  refine SpecOk.of TDok mixed (T := L.eqIntS_T) ?_ (ann := L.eqIntS_ann) Try.func18 rfl (by decide +kernel) ?_ ?_ ?_ ?_
  · intro p hp; cases hp
  · intro args h κ r hh
    simp only [L.eqIntS_s] at hh
    split at hh
    · exact (L.eqIntS_den _ _ κ).trans hh
    · cases hh
  · intro args h κ r hh
    simp only [L.eqIntS_s] at hh ⊢
    split at hh
    · exact optC_law2 (F := fun (r : Bool) κ => κ (.bool r) []) (fun b κ r hb => ⟨_, _, hb, fun _ => rfl⟩) hh
    · cases hh
  · intro _ args h κ r hh
    simp only [L.eqIntS_s] at hh
    split at hh
    · exact ⟨rfl, fun _ => rfl⟩
    · cases hh
  · intro _ args h κ r hh
    simp only [L.eqIntS_s] at hh
    split at hh
    · rfl
    · cases hh

-- loop.example/guardsonnets/laws.FnExactFirstPost
noncomputable def L.FnExactFirstPost_T : List (Nat × D.Spec) := [(17, L.toIntS_s), (11, S.FirstPost_s), (10, I.FirstPost_s), (18, L.eqIntS_s)]
def L.FnExactFirstPost_ann : Nat → List Nat × List Nat
  | _ => ([], [])
noncomputable def L.FnExactFirstPost_F (args : List V) (h : List E) (κ : V → List E → R) : R := funC TD (tableK L.FnExactFirstPost_T) L.FnExactFirstPost_ann (drawOk TD (tableP L.FnExactFirstPost_T)) FUEL Try.f4 args h κ
noncomputable def L.FnExactFirstPost_tree {α : Type} (aNet : List Int) (leaf0_ : Bool → α) (fail_ : α) : α :=
  (bif decide ((↑aNet.length : Int) > 1048576) then (leaf0_ true) else (optC (L.toIntS_t aNet) (fun c_1 => (optC (S.FirstPost_t c_1) (fun c_2 => (optC (L.toIntS_t aNet) (fun c_3 => (optC (I.FirstPost_t c_3) (fun c_4 => (bif !c_4 == c_2 then (leaf0_ false) else (optC (L.toIntS_t aNet) (fun c_5 => (optC (L.eqIntS_t c_3 c_5) (fun c_6 => (bif !c_6 then (leaf0_ false) else (leaf0_ true))) fail_)) fail_))) fail_)) fail_)) fail_)) fail_))
theorem L.FnExactFirstPost_tree_nat {α γ : Type} (g : α → γ) (aNet : List Int) (leaf0_ : Bool → α) (fail_ : α) : g (L.FnExactFirstPost_tree aNet leaf0_ fail_) = L.FnExactFirstPost_tree aNet (fun d => g (leaf0_ d)) (g fail_) := by
  unfold L.FnExactFirstPost_tree; simp only [apply_cnd g, apply_optC g, apply_sumC g]
noncomputable def L.FnExactFirstPost_t (aNet : List Int) : Option (Bool) := L.FnExactFirstPost_tree aNet (fun d => some d) none
theorem L.FnExactFirstPost_den (aNet : List Int) (κ : V → List E → R) : L.FnExactFirstPost_F [.ro true (.ints .i64 aNet)] [] κ = optC (L.FnExactFirstPost_t aNet) (fun (r : Bool) => κ (.bool r) []) none := by
  have hu : L.FnExactFirstPost_F [.ro true (.ints .i64 aNet)] [] κ = L.FnExactFirstPost_tree aNet (fun d => κ (.bool d) []) none := by
    kernel_rfl
  rw [hu]
  exact (L.FnExactFirstPost_tree_nat (fun o => optC o (fun (r : Bool) => κ (.bool r) []) none) aNet (fun d => some d) none).symm
noncomputable def L.FnExactFirstPost_s : D.Spec where
  keep := true
  pure := true
  add := true
  ds := [.int .i64]
  sp := fun args h κ => match args, h with
    | [.ro true (.ints .i64 aNet)], [] => optC (L.FnExactFirstPost_t aNet) (fun (r : Bool) => κ (.bool r) []) none
    | _, _ => none
theorem L.FnExactFirstPost_ok : SpecOk Try.prog 4 L.FnExactFirstPost_s := by
  refine SpecOk.of TDok mixed (T := L.FnExactFirstPost_T) ?_ (ann := L.FnExactFirstPost_ann) Try.func4 rfl (by decide +kernel) ?_ ?_ ?_ ?_
  · intro p hp
    simp only [L.FnExactFirstPost_T, List.mem_cons, List.not_mem_nil, or_false] at hp
    rcases hp with rfl | rfl | rfl | rfl
    · exact L.toIntS_ok
    · exact S.FirstPost_ok
    · exact I.FirstPost_ok
    · exact L.eqIntS_ok
  · intro args h κ r hh
    simp only [L.FnExactFirstPost_s] at hh
    split at hh
    · exact (L.FnExactFirstPost_den _ κ).trans hh
    · cases hh
  · intro args h κ r hh
    simp only [L.FnExactFirstPost_s] at hh ⊢
    split at hh
    · exact optC_law2 (F := fun (r : Bool) κ => κ (.bool r) []) (fun b κ r hb => ⟨_, _, hb, fun _ => rfl⟩) hh
    · cases hh
  · intro _ args h κ r hh
    simp only [L.FnExactFirstPost_s] at hh
    split at hh
    · exact ⟨rfl, fun _ => rfl⟩
    · cases hh
  · intro _ args h κ r hh
    simp only [L.FnExactFirstPost_s] at hh
    split at hh
    · rfl
    · cases hh

-- loop.example/guardsonnets/spec.l20Places
noncomputable def S.l20Places_T : List (Nat × D.Spec) := [(44, S.l20Rd_pick_s)]
def S.l20Places_ann : Nat → List Nat × List Nat
  | 3 => ([0, 1, 7, 8], [7])
  | _ => ([], [])
noncomputable def S.l20Places_F (args : List V) (h : List E) (κ : V → List E → R) : R := funC TD (tableK S.l20Places_T) S.l20Places_ann (drawOk TD (tableP S.l20Places_T)) FUEL Try.f43 args h κ
noncomputable def S.l20Places_L3 (n : Nat) (σ : St) (k : X → St → R) : R := iterC 1 (fun σ k => denC TD (tableK S.l20Places_T) S.l20Places_ann (drawOk TD (tableP S.l20Places_T)) 1 FUEL ((findLoop 3 (Try.f43.body.getD .skip)).getD .skip) σ k) [0, 1, 7, 8] [7] n σ k
noncomputable def S.l20Places_k3 (κ : V → List E → R) : X → St → R := (afterC TD (tableK S.l20Places_T) S.l20Places_ann (drawOk TD (tableP S.l20Places_T)) 1 FUEL 3 (Try.f43.body.getD .skip) (finC TD 1 Try.f43 κ)).getD (fun _ _ => none)
noncomputable def S.l20Places_step3 {α : Type} (x1 : Int) (x8 : Int) (r0_0 : List Int) (r0_1 : Int) (r1 : List Int) (next_ : Int × (List Int) × Int × (List Int) → α) (out0_ : (List Int) × Int × (List Int) → α) (fail_ : α) : α :=
  (bif decide (x8 > 0) then (optC (S.l20Rd_pick_t r0_0 r0_1 (if 1 > x1 then 1 else x1)) (fun c_2 => (bif small (r1 ++ [c_2.fst]).length then (next_ (IntKind.i64.wrap (x8 - 1), c_2.snd.fst, c_2.snd.snd, r1 ++ [c_2.fst])) else fail_)) fail_) else (out0_ (r0_0, r0_1, r1)))
theorem S.l20Places_step3_nat {α γ : Type} (g : α → γ) (x1 : Int) (x8 : Int) (r0_0 : List Int) (r0_1 : Int) (r1 : List Int) (next_ : Int × (List Int) × Int × (List Int) → α) (out0_ : (List Int) × Int × (List Int) → α) (fail_ : α) : g (S.l20Places_step3 x1 x8 r0_0 r0_1 r1 next_ out0_ fail_) = S.l20Places_step3 x1 x8 r0_0 r0_1 r1 (fun s => g (next_ s)) (fun d => g (out0_ d)) (g fail_) := by
  unfold S.l20Places_step3; simp only [apply_cnd g, apply_optC g, apply_sumC g]
noncomputable def S.l20Places_run3 (x1 : Int) : Nat → Int × (List Int) × Int × (List Int) → Option ((List Int) × Int × (List Int))
  | 0, _ => none
  | n + 1, s_ => S.l20Places_step3 x1 s_.1 s_.2.1 s_.2.2.1 s_.2.2.2 (S.l20Places_run3 x1 n) (fun d => some d) none
theorem S.l20Places_L3_run (x1 : Int) (n : Nat) (s_ : Int × (List Int) × Int × (List Int)) (k : X → St → R) : S.l20Places_L3 n { n := 26, t := [(0, (.ptr 0 0)), (1, (.int .i64 x1)), (7, (.own 1)), (8, (.int .i64 s_.1))], h := [.cells [(.ro true (.ints .u8 s_.2.1)), (.int .i64 s_.2.2.1)], .row (.ints .i64 s_.2.2.2)] } k = optC (S.l20Places_run3 x1 n s_) (fun (r : (List Int) × Int × (List Int)) => k (.exit 0) { n := 26, t := [(7, (.own 1))], h := [.cells [(.ro true (.ints .u8 r.1)), (.int .i64 r.2.1)], .row (.ints .i64 r.2.2)] }) none := by
  induction n generalizing s_ with
  | zero => rfl
  | succ n ih =>
    have hu : S.l20Places_L3 (n + 1) { n := 26, t := [(0, (.ptr 0 0)), (1, (.int .i64 x1)), (7, (.own 1)), (8, (.int .i64 s_.1))], h := [.cells [(.ro true (.ints .u8 s_.2.1)), (.int .i64 s_.2.2.1)], .row (.ints .i64 s_.2.2.2)] } k = S.l20Places_step3 x1 s_.1 s_.2.1 s_.2.2.1 s_.2.2.2 (fun s_ => S.l20Places_L3 n { n := 26, t := [(0, (.ptr 0 0)), (1, (.int .i64 x1)), (7, (.own 1)), (8, (.int .i64 s_.1))], h := [.cells [(.ro true (.ints .u8 s_.2.1)), (.int .i64 s_.2.2.1)], .row (.ints .i64 s_.2.2.2)] } k) (fun d => k (.exit 0) { n := 26, t := [(7, (.own 1))], h := [.cells [(.ro true (.ints .u8 d.1)), (.int .i64 d.2.1)], .row (.ints .i64 d.2.2)] }) none := by
      kernel_rfl
    have hs : (fun s_ : Int × (List Int) × Int × (List Int) => S.l20Places_L3 n { n := 26, t := [(0, (.ptr 0 0)), (1, (.int .i64 x1)), (7, (.own 1)), (8, (.int .i64 s_.1))], h := [.cells [(.ro true (.ints .u8 s_.2.1)), (.int .i64 s_.2.2.1)], .row (.ints .i64 s_.2.2.2)] } k) = fun s_ => optC (S.l20Places_run3 x1 n s_) (fun (r : (List Int) × Int × (List Int)) => k (.exit 0) { n := 26, t := [(7, (.own 1))], h := [.cells [(.ro true (.ints .u8 r.1)), (.int .i64 r.2.1)], .row (.ints .i64 r.2.2)] }) none := funext ih
    rw [hu, hs]
    exact (S.l20Places_step3_nat (fun o => optC o (fun (r : (List Int) × Int × (List Int)) => k (.exit 0) { n := 26, t := [(7, (.own 1))], h := [.cells [(.ro true (.ints .u8 r.1)), (.int .i64 r.2.1)], .row (.ints .i64 r.2.2)] }) none) x1 s_.1 s_.2.1 s_.2.2.1 s_.2.2.2 (S.l20Places_run3 x1 n) (fun d => some d) none).symm
noncomputable def S.l20Places_tree {α : Type} (rb : List Int) (rp : Int) (many : Int) (most : Int) (leaf0_ : (List Int) × Int × (List Int) → α) (fail_ : α) : α :=
  (optC (S.l20Rd_pick_t rb rp (IntKind.i64.wrap (most + 1))) (fun c_1 => (optC (S.l20Places_run3 many FUEL (c_1.fst, c_1.snd.fst, c_1.snd.snd, [])) (fun qy_3 => (leaf0_ (qy_3.1, qy_3.2.1, qy_3.2.2))) fail_)) fail_)
theorem S.l20Places_tree_nat {α γ : Type} (g : α → γ) (rb : List Int) (rp : Int) (many : Int) (most : Int) (leaf0_ : (List Int) × Int × (List Int) → α) (fail_ : α) : g (S.l20Places_tree rb rp many most leaf0_ fail_) = S.l20Places_tree rb rp many most (fun d => g (leaf0_ d)) (g fail_) := by
  unfold S.l20Places_tree; simp only [apply_cnd g, apply_optC g, apply_sumC g]
noncomputable def S.l20Places_t (rb : List Int) (rp : Int) (many : Int) (most : Int) : Option ((List Int) × Int × (List Int)) := S.l20Places_tree rb rp many most (fun d => some d) none
theorem S.l20Places_den (rb : List Int) (rp : Int) (many : Int) (most : Int) (κ : V → List E → R) : S.l20Places_F [.ptr 0 0, .int .i64 many, .int .i64 most] [.cells [.ro true (.ints .u8 rb), .int .i64 rp]] κ = optC (S.l20Places_t rb rp many most) (fun (r : (List Int) × Int × (List Int)) => κ (.own 1) [.cells [(.ro true (.ints .u8 r.1)), (.int .i64 r.2.1)], .row (.ints .i64 r.2.2)]) none := by
  have hu : S.l20Places_F [.ptr 0 0, .int .i64 many, .int .i64 most] [.cells [.ro true (.ints .u8 rb), .int .i64 rp]] κ = S.l20Places_tree rb rp many most (fun d => κ (.own 1) [.cells [(.ro true (.ints .u8 d.1)), (.int .i64 d.2.1)], .row (.ints .i64 d.2.2)]) none := by
    refine Eq.trans (show S.l20Places_F [.ptr 0 0, .int .i64 many, .int .i64 most] [.cells [.ro true (.ints .u8 rb), .int .i64 rp]] κ = (optC (S.l20Rd_pick_t rb rp (IntKind.i64.wrap (most + 1))) (fun c_1 => (S.l20Places_L3 FUEL { n := 26, t := [(0, (.ptr 0 0)), (1, (.int .i64 many)), (7, (.own 1)), (8, (.int .i64 c_1.fst))], h := [.cells [(.ro true (.ints .u8 c_1.snd.fst)), (.int .i64 c_1.snd.snd)], .row (.ints .i64 ([]))] } (S.l20Places_k3 κ))) none) by kernel_rfl) ?_
    refine optC_congr (fun c_1 => ?_)
    refine (S.l20Places_L3_run many FUEL (c_1.fst, c_1.snd.fst, c_1.snd.snd, []) (S.l20Places_k3 κ)).trans (optC_congr (fun qy_3 => ?_))
    kernel_rfl
  rw [hu]
  exact (S.l20Places_tree_nat (fun o => optC o (fun (r : (List Int) × Int × (List Int)) => κ (.own 1) [.cells [(.ro true (.ints .u8 r.1)), (.int .i64 r.2.1)], .row (.ints .i64 r.2.2)]) none) rb rp many most (fun d => some d) none).symm
noncomputable def S.l20Places_s : D.Spec where
  keep := false
  pure := false
  add := false
  ds := [.invalid, .invalid, .invalid]
  sp := fun args h κ => match args, h with
    | [.ptr 0 0, .int .i64 many, .int .i64 most], [.cells [.ro true (.ints .u8 rb), .int .i64 rp]] => optC (S.l20Places_t rb rp many most) (fun (r : (List Int) × Int × (List Int)) => κ (.own 1) [.cells [(.ro true (.ints .u8 r.1)), (.int .i64 r.2.1)], .row (.ints .i64 r.2.2)]) none
    | _, _ => none
theorem S.l20Places_ok : SpecOk Try.prog 43 S.l20Places_s := by
  refine SpecOk.of TDok mixed (T := S.l20Places_T) ?_ (ann := S.l20Places_ann) Try.func43 rfl (by decide +kernel) ?_ ?_ ?_ ?_
  · intro p hp
    simp only [S.l20Places_T, List.mem_cons, List.not_mem_nil, or_false] at hp
    rcases hp with rfl
    · exact S.l20Rd_pick_ok
  · intro args h κ r hh
    simp only [S.l20Places_s] at hh
    split at hh
    · exact (S.l20Places_den _ _ _ _ κ).trans hh
    · cases hh
  · intro args h κ r hh
    simp only [S.l20Places_s] at hh ⊢
    split at hh
    · exact optC_law2 (F := fun (r : (List Int) × Int × (List Int)) κ => κ (.own 1) [.cells [(.ro true (.ints .u8 r.1)), (.int .i64 r.2.1)], .row (.ints .i64 r.2.2)]) (fun b κ r hb => ⟨_, _, hb, fun _ => rfl⟩) hh
    · cases hh
  · intro hh; cases hh
  · intro hh; cases hh

-- loop.example/guardsonnets/spec.DrawLogOf
noncomputable def S.DrawLogOf_T : List (Nat × D.Spec) := [(33, S.l20Open_s), (44, S.l20Rd_pick_s), (43, S.l20Places_s)]
def S.DrawLogOf_ann : Nat → List Nat × List Nat
  | _ => ([], [])
noncomputable def S.DrawLogOf_F (args : List V) (h : List E) (κ : V → List E → R) : R := funC TD (tableK S.DrawLogOf_T) S.DrawLogOf_ann (drawOk TD (tableP S.DrawLogOf_T)) FUEL Try.f19 args h κ
noncomputable def S.DrawLogOf_tree {α : Type} (code : List Int) (leaf0_ : List Int → α) (fail_ : α) : α :=
  (optC (S.l20Open_t code) (fun c_1 => (optC (S.l20Rd_pick_t c_1.fst c_1.snd 15) (fun c_2 => (optC (S.l20Places_t c_2.snd.fst c_2.snd.snd 6 (IntKind.i64.wrap (8 + IntKind.i64.wrap (IntKind.i64.wrap (c_2.fst.tdiv 14) * 40)))) (fun c_3 => (optC (S.l20Rd_pick_t c_3.fst c_3.snd.fst 12) (fun c_4 => (bif c_4.fst == 0 then (optC (S.l20Rd_pick_t c_4.snd.fst c_4.snd.snd 2) (fun c_5 => (bif decide (0 ≤ c_5.fst) && decide (c_5.fst < (↑[-1, 6].length : Int)) then (bif decide (c_5.fst.toNat < [-1, 6].length) then (bif small (c_3.snd.snd ++ [eli [-1, 6] c_5.fst.toNat]).length then (leaf0_ (c_3.snd.snd ++ [eli [-1, 6] c_5.fst.toNat])) else fail_) else fail_) else fail_)) fail_) else (leaf0_ c_3.snd.snd))) fail_)) fail_)) fail_)) fail_)
theorem S.DrawLogOf_tree_nat {α γ : Type} (g : α → γ) (code : List Int) (leaf0_ : List Int → α) (fail_ : α) : g (S.DrawLogOf_tree code leaf0_ fail_) = S.DrawLogOf_tree code (fun d => g (leaf0_ d)) (g fail_) := by
  unfold S.DrawLogOf_tree; simp only [apply_cnd g, apply_optC g, apply_sumC g]
noncomputable def S.DrawLogOf_t (code : List Int) : Option (List Int) := S.DrawLogOf_tree code (fun d => some d) none
theorem S.DrawLogOf_den (code : List Int) (κ : V → List E → R) : S.DrawLogOf_F [.ro true (.ints .u8 code)] [] κ = optC (S.DrawLogOf_t code) (fun (r : List Int) => κ (.own 0) [.row (.ints .i64 r)]) none := by
  have hu : S.DrawLogOf_F [.ro true (.ints .u8 code)] [] κ = S.DrawLogOf_tree code (fun d => κ (.own 0) [.row (.ints .i64 d)]) none := by
    kernel_rfl
  rw [hu]
  exact (S.DrawLogOf_tree_nat (fun o => optC o (fun (r : List Int) => κ (.own 0) [.row (.ints .i64 r)]) none) code (fun d => some d) none).symm
noncomputable def S.DrawLogOf_s : D.Spec where
  keep := true
  pure := false
  add := true
  ds := [.int .u8]
  sp := fun args h κ => match args, h with
    | [.ro true (.ints .u8 code)], [] => optC (S.DrawLogOf_t code) (fun (r : List Int) => κ (.own 0) [.row (.ints .i64 r)]) none
    | _, _ => none
theorem S.DrawLogOf_ok : SpecOk Try.prog 19 S.DrawLogOf_s := by
  refine SpecOk.of TDok mixed (T := S.DrawLogOf_T) ?_ (ann := S.DrawLogOf_ann) Try.func19 rfl (by decide +kernel) ?_ ?_ ?_ ?_
  · intro p hp
    simp only [S.DrawLogOf_T, List.mem_cons, List.not_mem_nil, or_false] at hp
    rcases hp with rfl | rfl | rfl
    · exact S.l20Open_ok
    · exact S.l20Rd_pick_ok
    · exact S.l20Places_ok
  · intro args h κ r hh
    simp only [S.DrawLogOf_s] at hh
    split at hh
    · exact (S.DrawLogOf_den _ κ).trans hh
    · cases hh
  · intro args h κ r hh
    simp only [S.DrawLogOf_s] at hh ⊢
    split at hh
    · exact optC_law2 (F := fun (r : List Int) κ => κ (.own 0) [.row (.ints .i64 r)]) (fun b κ r hb => ⟨_, _, hb, fun _ => rfl⟩) hh
    · cases hh
  · intro hh; cases hh
  · intro _ args h κ r hh
    simp only [S.DrawLogOf_s] at hh
    split at hh
    · rfl
    · cases hh

-- loop.example/guardsonnets/impl.recordOf
noncomputable def I.recordOf_T : List (Nat × D.Spec) := []
def I.recordOf_ann : Nat → List Nat × List Nat
  | _ => ([], [])
noncomputable def I.recordOf_F (args : List V) (h : List E) (κ : V → List E → R) : R := funC TD (tableK I.recordOf_T) I.recordOf_ann (drawOk TD (tableP I.recordOf_T)) FUEL Try.f45 args h κ
noncomputable def I.recordOf_tree {α : Type} (place : Int) (ahead : Int) (leaf0_ : List Int → α) (fail_ : α) : α :=
  (leaf0_ ([IntKind.u8.wrap (IntKind.i64.wrap (place + 1)), IntKind.u8.wrap (IntKind.i64.wrap (ahead + 1)), IntKind.u8.wrap ((IntKind.i64.wrap (IntKind.i64.wrap (place + 1) * IntKind.i64.wrap (ahead + 7))).tmod 251)]))
theorem I.recordOf_tree_nat {α γ : Type} (g : α → γ) (place : Int) (ahead : Int) (leaf0_ : List Int → α) (fail_ : α) : g (I.recordOf_tree place ahead leaf0_ fail_) = I.recordOf_tree place ahead (fun d => g (leaf0_ d)) (g fail_) := by
  unfold I.recordOf_tree; simp only [apply_cnd g, apply_optC g, apply_sumC g]
noncomputable def I.recordOf_t (place : Int) (ahead : Int) : Option (List Int) := I.recordOf_tree place ahead (fun d => some d) none
theorem I.recordOf_den (place : Int) (ahead : Int) (κ : V → List E → R) : I.recordOf_F [.int .i64 place, .int .i64 ahead] [] κ = optC (I.recordOf_t place ahead) (fun (r : List Int) => κ (.own 0) [.row (.ints .u8 r)]) none := by
  have hu : I.recordOf_F [.int .i64 place, .int .i64 ahead] [] κ = I.recordOf_tree place ahead (fun d => κ (.own 0) [.row (.ints .u8 d)]) none := by
    kernel_rfl
  rw [hu]
  exact (I.recordOf_tree_nat (fun o => optC o (fun (r : List Int) => κ (.own 0) [.row (.ints .u8 r)]) none) place ahead (fun d => some d) none).symm
noncomputable def I.recordOf_s : D.Spec where
  keep := false
  pure := false
  add := true
  ds := [.invalid, .invalid]
  sp := fun args h κ => match args, h with
    | [.int .i64 place, .int .i64 ahead], [] => optC (I.recordOf_t place ahead) (fun (r : List Int) => κ (.own 0) [.row (.ints .u8 r)]) none
    | _, _ => none
theorem I.recordOf_ok : SpecOk Try.prog 45 I.recordOf_s := by
  refine SpecOk.of TDok mixed (T := I.recordOf_T) ?_ (ann := I.recordOf_ann) Try.func45 rfl (by decide +kernel) ?_ ?_ ?_ ?_
  · intro p hp; cases hp
  · intro args h κ r hh
    simp only [I.recordOf_s] at hh
    split at hh
    · exact (I.recordOf_den _ _ κ).trans hh
    · cases hh
  · intro args h κ r hh
    simp only [I.recordOf_s] at hh ⊢
    split at hh
    · exact optC_law2 (F := fun (r : List Int) κ => κ (.own 0) [.row (.ints .u8 r)]) (fun b κ r hb => ⟨_, _, hb, fun _ => rfl⟩) hh
    · cases hh
  · intro hh; cases hh
  · intro _ args h κ r hh
    simp only [I.recordOf_s] at hh
    split at hh
    · rfl
    · cases hh

-- loop.example/guardsonnets/impl.LogOf
noncomputable def I.LogOf_T : List (Nat × D.Spec) := [(45, I.recordOf_s)]
def I.LogOf_ann : Nat → List Nat × List Nat
  | 5 => ([0, 3, 4], [2, 3])
  | _ => ([], [])
noncomputable def I.LogOf_F (args : List V) (h : List E) (κ : V → List E → R) : R := funC TD (tableK I.LogOf_T) I.LogOf_ann (drawOk TD (tableP I.LogOf_T)) FUEL Try.f20 args h κ
noncomputable def I.LogOf_L5 (n : Nat) (σ : St) (k : X → St → R) : R := iterC 0 (fun σ k => denC TD (tableK I.LogOf_T) I.LogOf_ann (drawOk TD (tableP I.LogOf_T)) 0 FUEL ((findLoop 5 (Try.f20.body.getD .skip)).getD .skip) σ k) [0, 3, 4] [2, 3] n σ k
noncomputable def I.LogOf_k5 (κ : V → List E → R) : X → St → R := (afterC TD (tableK I.LogOf_T) I.LogOf_ann (drawOk TD (tableP I.LogOf_T)) 0 FUEL 5 (Try.f20.body.getD .skip) (finC TD 0 Try.f20 κ)).getD (fun _ _ => none)
noncomputable def I.LogOf_step5 {α : Type} (x0 : List Int) (x4 : Int) (r0 : List Int) (next_ : Int × (List Int) → α) (out0_ : (List Int) × (List Int) → α) (out1_ : List Int → α) (fail_ : α) : α :=
  (bif decide (x4 < (↑x0.length : Int)) then (bif decide (0 ≤ x4) && decide (x4 < (↑x0.length : Int)) then (bif decide (eli x0 x4.toNat < 0) then (out0_ ([], r0)) else (bif decide (0 ≤ x4) && decide (x4 < (↑x0.length : Int)) then (bif decide (eli x0 x4.toNat ≥ 6) then (out0_ ([], r0)) else (bif decide (0 ≤ x4) && decide (x4 < (↑x0.length : Int)) then (optC (I.recordOf_t (eli x0 x4.toNat) x4) (fun c_1 => (bif small (r0 ++ c_1).length then (next_ (IntKind.i64.wrap (x4 + 1), r0 ++ c_1)) else fail_)) fail_) else fail_)) else fail_)) else fail_) else (out1_ r0))
theorem I.LogOf_step5_nat {α γ : Type} (g : α → γ) (x0 : List Int) (x4 : Int) (r0 : List Int) (next_ : Int × (List Int) → α) (out0_ : (List Int) × (List Int) → α) (out1_ : List Int → α) (fail_ : α) : g (I.LogOf_step5 x0 x4 r0 next_ out0_ out1_ fail_) = I.LogOf_step5 x0 x4 r0 (fun s => g (next_ s)) (fun d => g (out0_ d)) (fun d => g (out1_ d)) (g fail_) := by
  unfold I.LogOf_step5; simp only [apply_cnd g, apply_optC g, apply_sumC g]
noncomputable def I.LogOf_run5 (x0 : List Int) : Nat → Int × (List Int) → Option (((List Int) × (List Int)) ⊕ (List Int))
  | 0, _ => none
  | n + 1, s_ => I.LogOf_step5 x0 s_.1 s_.2 (I.LogOf_run5 x0 n) (fun d => some ((Sum.inl d))) (fun d => some ((Sum.inr d))) none
theorem I.LogOf_L5_run (x0 : List Int) (n : Nat) (s_ : Int × (List Int)) (k : X → St → R) : I.LogOf_L5 n { n := 36, t := [(0, (.ro false (.ints .i64 x0))), (3, (.own 0)), (4, (.int .i64 s_.1))], h := [.row (.ints .u8 s_.2)] } k = optC (I.LogOf_run5 x0 n s_) (fun (r : ((List Int) × (List Int)) ⊕ (List Int)) => (sumC r (fun (r : (List Int) × (List Int)) => k (.ret) { n := 36, t := [(2, (.own 0)), (3, (.own 1))], h := [.row (.ints .u8 r.1), .row (.ints .u8 r.2)] }) (fun (r : List Int) => k (.exit 0) { n := 36, t := [(2, .junk), (3, (.own 0))], h := [.row (.ints .u8 r)] }))) none := by
  induction n generalizing s_ with
  | zero => rfl
  | succ n ih =>
    have hu : I.LogOf_L5 (n + 1) { n := 36, t := [(0, (.ro false (.ints .i64 x0))), (3, (.own 0)), (4, (.int .i64 s_.1))], h := [.row (.ints .u8 s_.2)] } k = I.LogOf_step5 x0 s_.1 s_.2 (fun s_ => I.LogOf_L5 n { n := 36, t := [(0, (.ro false (.ints .i64 x0))), (3, (.own 0)), (4, (.int .i64 s_.1))], h := [.row (.ints .u8 s_.2)] } k) (fun d => k (.ret) { n := 36, t := [(2, (.own 0)), (3, (.own 1))], h := [.row (.ints .u8 d.1), .row (.ints .u8 d.2)] }) (fun d => k (.exit 0) { n := 36, t := [(2, .junk), (3, (.own 0))], h := [.row (.ints .u8 d)] }) none := by
      kernel_rfl
    have hs : (fun s_ : Int × (List Int) => I.LogOf_L5 n { n := 36, t := [(0, (.ro false (.ints .i64 x0))), (3, (.own 0)), (4, (.int .i64 s_.1))], h := [.row (.ints .u8 s_.2)] } k) = fun s_ => optC (I.LogOf_run5 x0 n s_) (fun (r : ((List Int) × (List Int)) ⊕ (List Int)) => (sumC r (fun (r : (List Int) × (List Int)) => k (.ret) { n := 36, t := [(2, (.own 0)), (3, (.own 1))], h := [.row (.ints .u8 r.1), .row (.ints .u8 r.2)] }) (fun (r : List Int) => k (.exit 0) { n := 36, t := [(2, .junk), (3, (.own 0))], h := [.row (.ints .u8 r)] }))) none := funext ih
    rw [hu, hs]
    exact (I.LogOf_step5_nat (fun o => optC o (fun (r : ((List Int) × (List Int)) ⊕ (List Int)) => (sumC r (fun (r : (List Int) × (List Int)) => k (.ret) { n := 36, t := [(2, (.own 0)), (3, (.own 1))], h := [.row (.ints .u8 r.1), .row (.ints .u8 r.2)] }) (fun (r : List Int) => k (.exit 0) { n := 36, t := [(2, .junk), (3, (.own 0))], h := [.row (.ints .u8 r)] }))) none) x0 s_.1 s_.2 (I.LogOf_run5 x0 n) (fun d => some ((Sum.inl d))) (fun d => some ((Sum.inr d))) none).symm
noncomputable def I.LogOf_tree {α : Type} (places : List Int) (leaf0_ : List Int → α) (fail_ : α) : α :=
  (bif decide ((↑places.length : Int) > 40) then (leaf0_ ([])) else (optC (I.LogOf_run5 places FUEL (0, [])) (fun qy_2 => (sumC qy_2 (fun (qy_2 : (List Int) × (List Int)) => (leaf0_ qy_2.1)) (fun (qy_2 : List Int) => (leaf0_ qy_2)))) fail_))
theorem I.LogOf_tree_nat {α γ : Type} (g : α → γ) (places : List Int) (leaf0_ : List Int → α) (fail_ : α) : g (I.LogOf_tree places leaf0_ fail_) = I.LogOf_tree places (fun d => g (leaf0_ d)) (g fail_) := by
  unfold I.LogOf_tree; simp only [apply_cnd g, apply_optC g, apply_sumC g]
noncomputable def I.LogOf_t (places : List Int) : Option (List Int) := I.LogOf_tree places (fun d => some d) none
theorem I.LogOf_den (places : List Int) (κ : V → List E → R) : I.LogOf_F [.ro false (.ints .i64 places)] [] κ = optC (I.LogOf_t places) (fun (r : List Int) => κ (.own 0) [.row (.ints .u8 r)]) none := by
  have hu : I.LogOf_F [.ro false (.ints .i64 places)] [] κ = I.LogOf_tree places (fun d => κ (.own 0) [.row (.ints .u8 d)]) none := by
    refine Eq.trans (show I.LogOf_F [.ro false (.ints .i64 places)] [] κ = (bif decide ((↑places.length : Int) > 40) then (κ (.own 0) [.row (.ints .u8 ([]))]) else (I.LogOf_L5 FUEL { n := 36, t := [(0, (.ro false (.ints .i64 places))), (3, (.own 0)), (4, (.int .i64 0))], h := [.row (.ints .u8 ([]))] } (I.LogOf_k5 κ))) by kernel_rfl) ?_
    refine cnd_congr ?_ ?_
    · kernel_rfl
    · refine (I.LogOf_L5_run places FUEL (0, []) (I.LogOf_k5 κ)).trans (optC_congr (fun qy_2 => ?_))
      rcases qy_2 with qy_2 | qy_2
      · kernel_rfl
      · kernel_rfl
  rw [hu]
  exact (I.LogOf_tree_nat (fun o => optC o (fun (r : List Int) => κ (.own 0) [.row (.ints .u8 r)]) none) places (fun d => some d) none).symm
noncomputable def I.LogOf_s : D.Spec where
  keep := false
  pure := false
  add := true
  ds := [.int .i64]
  sp := fun args h κ => match args, h with
    | [.ro false (.ints .i64 places)], [] => optC (I.LogOf_t places) (fun (r : List Int) => κ (.own 0) [.row (.ints .u8 r)]) none
    | _, _ => none
theorem I.LogOf_ok : SpecOk Try.prog 20 I.LogOf_s := by
  refine SpecOk.of TDok mixed (T := I.LogOf_T) ?_ (ann := I.LogOf_ann) Try.func20 rfl (by decide +kernel) ?_ ?_ ?_ ?_
  · intro p hp
    simp only [I.LogOf_T, List.mem_cons, List.not_mem_nil, or_false] at hp
    rcases hp with rfl
    · exact I.recordOf_ok
  · intro args h κ r hh
    simp only [I.LogOf_s] at hh
    split at hh
    · exact (I.LogOf_den _ κ).trans hh
    · cases hh
  · intro args h κ r hh
    simp only [I.LogOf_s] at hh ⊢
    split at hh
    · exact optC_law2 (F := fun (r : List Int) κ => κ (.own 0) [.row (.ints .u8 r)]) (fun b κ r hb => ⟨_, _, hb, fun _ => rfl⟩) hh
    · cases hh
  · intro hh; cases hh
  · intro _ args h κ r hh
    simp only [I.LogOf_s] at hh
    split at hh
    · rfl
    · cases hh

-- loop.example/guardsonnets/spec.l17Record
noncomputable def S.l17Record_T : List (Nat × D.Spec) := []
def S.l17Record_ann : Nat → List Nat × List Nat
  | _ => ([], [])
noncomputable def S.l17Record_F (args : List V) (h : List E) (κ : V → List E → R) : R := funC TD (tableK S.l17Record_T) S.l17Record_ann (drawOk TD (tableP S.l17Record_T)) FUEL Try.f47 args h κ
noncomputable def S.l17Record_tree {α : Type} (place : Int) (number : Int) (leaf0_ : List Int → α) (fail_ : α) : α :=
  (leaf0_ ([IntKind.u8.wrap (IntKind.i64.wrap (place + 1)), IntKind.u8.wrap (IntKind.i64.wrap (number + 1)), IntKind.u8.wrap ((IntKind.i64.wrap (IntKind.i64.wrap (place + 1) * IntKind.i64.wrap (number + 7))).tmod 251)]))
theorem S.l17Record_tree_nat {α γ : Type} (g : α → γ) (place : Int) (number : Int) (leaf0_ : List Int → α) (fail_ : α) : g (S.l17Record_tree place number leaf0_ fail_) = S.l17Record_tree place number (fun d => g (leaf0_ d)) (g fail_) := by
  unfold S.l17Record_tree; simp only [apply_cnd g, apply_optC g, apply_sumC g]
noncomputable def S.l17Record_t (place : Int) (number : Int) : Option (List Int) := S.l17Record_tree place number (fun d => some d) none
theorem S.l17Record_den (place : Int) (number : Int) (κ : V → List E → R) : S.l17Record_F [.int .i64 place, .int .i64 number] [] κ = optC (S.l17Record_t place number) (fun (r : List Int) => κ (.own 0) [.row (.ints .u8 r)]) none := by
  have hu : S.l17Record_F [.int .i64 place, .int .i64 number] [] κ = S.l17Record_tree place number (fun d => κ (.own 0) [.row (.ints .u8 d)]) none := by
    kernel_rfl
  rw [hu]
  exact (S.l17Record_tree_nat (fun o => optC o (fun (r : List Int) => κ (.own 0) [.row (.ints .u8 r)]) none) place number (fun d => some d) none).symm
noncomputable def S.l17Record_s : D.Spec where
  keep := false
  pure := false
  add := true
  ds := [.invalid, .invalid]
  sp := fun args h κ => match args, h with
    | [.int .i64 place, .int .i64 number], [] => optC (S.l17Record_t place number) (fun (r : List Int) => κ (.own 0) [.row (.ints .u8 r)]) none
    | _, _ => none
theorem S.l17Record_ok : SpecOk Try.prog 47 S.l17Record_s := by
  refine SpecOk.of TDok mixed (T := S.l17Record_T) ?_ (ann := S.l17Record_ann) Try.func47 rfl (by decide +kernel) ?_ ?_ ?_ ?_
  · intro p hp; cases hp
  · intro args h κ r hh
    simp only [S.l17Record_s] at hh
    split at hh
    · exact (S.l17Record_den _ _ κ).trans hh
    · cases hh
  · intro args h κ r hh
    simp only [S.l17Record_s] at hh ⊢
    split at hh
    · exact optC_law2 (F := fun (r : List Int) κ => κ (.own 0) [.row (.ints .u8 r)]) (fun b κ r hb => ⟨_, _, hb, fun _ => rfl⟩) hh
    · cases hh
  · intro hh; cases hh
  · intro _ args h κ r hh
    simp only [S.l17Record_s] at hh
    split at hh
    · rfl
    · cases hh

-- loop.example/guardsonnets/spec.LogOf
noncomputable def S.LogOf_T : List (Nat × D.Spec) := [(46, S.l1In_s), (47, S.l17Record_s)]
def S.LogOf_ann : Nat → List Nat × List Nat
  | 5 => ([0, 3, 4], [2, 3])
  | _ => ([], [])
noncomputable def S.LogOf_F (args : List V) (h : List E) (κ : V → List E → R) : R := funC TD (tableK S.LogOf_T) S.LogOf_ann (drawOk TD (tableP S.LogOf_T)) FUEL Try.f21 args h κ
noncomputable def S.LogOf_L5 (n : Nat) (σ : St) (k : X → St → R) : R := iterC 0 (fun σ k => denC TD (tableK S.LogOf_T) S.LogOf_ann (drawOk TD (tableP S.LogOf_T)) 0 FUEL ((findLoop 5 (Try.f21.body.getD .skip)).getD .skip) σ k) [0, 3, 4] [2, 3] n σ k
noncomputable def S.LogOf_k5 (κ : V → List E → R) : X → St → R := (afterC TD (tableK S.LogOf_T) S.LogOf_ann (drawOk TD (tableP S.LogOf_T)) 0 FUEL 5 (Try.f21.body.getD .skip) (finC TD 0 Try.f21 κ)).getD (fun _ _ => none)
noncomputable def S.LogOf_step5 {α : Type} (x0 : List Int) (x4 : Int) (r0 : List Int) (next_ : Int × (List Int) → α) (out0_ : (List Int) × (List Int) → α) (out1_ : List Int → α) (fail_ : α) : α :=
  (bif decide (x4 < (↑x0.length : Int)) then (bif decide (0 ≤ x4) && decide (x4 < (↑x0.length : Int)) then (optC (S.l1In_t (eli x0 x4.toNat) 0 5) (fun c_1 => (bif !c_1 then (out0_ ([], r0)) else (bif decide (0 ≤ x4) && decide (x4 < (↑x0.length : Int)) then (optC (S.l17Record_t (eli x0 x4.toNat) x4) (fun c_2 => (bif small (r0 ++ c_2).length then (next_ (IntKind.i64.wrap (x4 + 1), r0 ++ c_2)) else fail_)) fail_) else fail_))) fail_) else fail_) else (out1_ r0))
theorem S.LogOf_step5_nat {α γ : Type} (g : α → γ) (x0 : List Int) (x4 : Int) (r0 : List Int) (next_ : Int × (List Int) → α) (out0_ : (List Int) × (List Int) → α) (out1_ : List Int → α) (fail_ : α) : g (S.LogOf_step5 x0 x4 r0 next_ out0_ out1_ fail_) = S.LogOf_step5 x0 x4 r0 (fun s => g (next_ s)) (fun d => g (out0_ d)) (fun d => g (out1_ d)) (g fail_) := by
  unfold S.LogOf_step5; simp only [apply_cnd g, apply_optC g, apply_sumC g]
noncomputable def S.LogOf_run5 (x0 : List Int) : Nat → Int × (List Int) → Option (((List Int) × (List Int)) ⊕ (List Int))
  | 0, _ => none
  | n + 1, s_ => S.LogOf_step5 x0 s_.1 s_.2 (S.LogOf_run5 x0 n) (fun d => some ((Sum.inl d))) (fun d => some ((Sum.inr d))) none
theorem S.LogOf_L5_run (x0 : List Int) (n : Nat) (s_ : Int × (List Int)) (k : X → St → R) : S.LogOf_L5 n { n := 32, t := [(0, (.ro false (.ints .i64 x0))), (3, (.own 0)), (4, (.int .i64 s_.1))], h := [.row (.ints .u8 s_.2)] } k = optC (S.LogOf_run5 x0 n s_) (fun (r : ((List Int) × (List Int)) ⊕ (List Int)) => (sumC r (fun (r : (List Int) × (List Int)) => k (.ret) { n := 32, t := [(2, (.own 0)), (3, (.own 1))], h := [.row (.ints .u8 r.1), .row (.ints .u8 r.2)] }) (fun (r : List Int) => k (.exit 0) { n := 32, t := [(2, .junk), (3, (.own 0))], h := [.row (.ints .u8 r)] }))) none := by
  induction n generalizing s_ with
  | zero => rfl
  | succ n ih =>
    have hu : S.LogOf_L5 (n + 1) { n := 32, t := [(0, (.ro false (.ints .i64 x0))), (3, (.own 0)), (4, (.int .i64 s_.1))], h := [.row (.ints .u8 s_.2)] } k = S.LogOf_step5 x0 s_.1 s_.2 (fun s_ => S.LogOf_L5 n { n := 32, t := [(0, (.ro false (.ints .i64 x0))), (3, (.own 0)), (4, (.int .i64 s_.1))], h := [.row (.ints .u8 s_.2)] } k) (fun d => k (.ret) { n := 32, t := [(2, (.own 0)), (3, (.own 1))], h := [.row (.ints .u8 d.1), .row (.ints .u8 d.2)] }) (fun d => k (.exit 0) { n := 32, t := [(2, .junk), (3, (.own 0))], h := [.row (.ints .u8 d)] }) none := by
      kernel_rfl
    have hs : (fun s_ : Int × (List Int) => S.LogOf_L5 n { n := 32, t := [(0, (.ro false (.ints .i64 x0))), (3, (.own 0)), (4, (.int .i64 s_.1))], h := [.row (.ints .u8 s_.2)] } k) = fun s_ => optC (S.LogOf_run5 x0 n s_) (fun (r : ((List Int) × (List Int)) ⊕ (List Int)) => (sumC r (fun (r : (List Int) × (List Int)) => k (.ret) { n := 32, t := [(2, (.own 0)), (3, (.own 1))], h := [.row (.ints .u8 r.1), .row (.ints .u8 r.2)] }) (fun (r : List Int) => k (.exit 0) { n := 32, t := [(2, .junk), (3, (.own 0))], h := [.row (.ints .u8 r)] }))) none := funext ih
    rw [hu, hs]
    exact (S.LogOf_step5_nat (fun o => optC o (fun (r : ((List Int) × (List Int)) ⊕ (List Int)) => (sumC r (fun (r : (List Int) × (List Int)) => k (.ret) { n := 32, t := [(2, (.own 0)), (3, (.own 1))], h := [.row (.ints .u8 r.1), .row (.ints .u8 r.2)] }) (fun (r : List Int) => k (.exit 0) { n := 32, t := [(2, .junk), (3, (.own 0))], h := [.row (.ints .u8 r)] }))) none) x0 s_.1 s_.2 (S.LogOf_run5 x0 n) (fun d => some ((Sum.inl d))) (fun d => some ((Sum.inr d))) none).symm
noncomputable def S.LogOf_tree {α : Type} (places : List Int) (leaf0_ : List Int → α) (fail_ : α) : α :=
  (bif decide ((↑places.length : Int) > 40) then (leaf0_ ([])) else (optC (S.LogOf_run5 places FUEL (0, [])) (fun qy_3 => (sumC qy_3 (fun (qy_3 : (List Int) × (List Int)) => (leaf0_ qy_3.1)) (fun (qy_3 : List Int) => (leaf0_ qy_3)))) fail_))
theorem S.LogOf_tree_nat {α γ : Type} (g : α → γ) (places : List Int) (leaf0_ : List Int → α) (fail_ : α) : g (S.LogOf_tree places leaf0_ fail_) = S.LogOf_tree places (fun d => g (leaf0_ d)) (g fail_) := by
  unfold S.LogOf_tree; simp only [apply_cnd g, apply_optC g, apply_sumC g]
noncomputable def S.LogOf_t (places : List Int) : Option (List Int) := S.LogOf_tree places (fun d => some d) none
theorem S.LogOf_den (places : List Int) (κ : V → List E → R) : S.LogOf_F [.ro false (.ints .i64 places)] [] κ = optC (S.LogOf_t places) (fun (r : List Int) => κ (.own 0) [.row (.ints .u8 r)]) none := by
  have hu : S.LogOf_F [.ro false (.ints .i64 places)] [] κ = S.LogOf_tree places (fun d => κ (.own 0) [.row (.ints .u8 d)]) none := by
    refine Eq.trans (show S.LogOf_F [.ro false (.ints .i64 places)] [] κ = (bif decide ((↑places.length : Int) > 40) then (κ (.own 0) [.row (.ints .u8 ([]))]) else (S.LogOf_L5 FUEL { n := 32, t := [(0, (.ro false (.ints .i64 places))), (3, (.own 0)), (4, (.int .i64 0))], h := [.row (.ints .u8 ([]))] } (S.LogOf_k5 κ))) by kernel_rfl) ?_
    refine cnd_congr ?_ ?_
    · kernel_rfl
    · refine (S.LogOf_L5_run places FUEL (0, []) (S.LogOf_k5 κ)).trans (optC_congr (fun qy_3 => ?_))
      rcases qy_3 with qy_3 | qy_3
      · kernel_rfl
      · kernel_rfl
  rw [hu]
  exact (S.LogOf_tree_nat (fun o => optC o (fun (r : List Int) => κ (.own 0) [.row (.ints .u8 r)]) none) places (fun d => some d) none).symm
noncomputable def S.LogOf_s : D.Spec where
  keep := false
  pure := false
  add := true
  ds := [.int .i64]
  sp := fun args h κ => match args, h with
    | [.ro false (.ints .i64 places)], [] => optC (S.LogOf_t places) (fun (r : List Int) => κ (.own 0) [.row (.ints .u8 r)]) none
    | _, _ => none
theorem S.LogOf_ok : SpecOk Try.prog 21 S.LogOf_s := by
  refine SpecOk.of TDok mixed (T := S.LogOf_T) ?_ (ann := S.LogOf_ann) Try.func21 rfl (by decide +kernel) ?_ ?_ ?_ ?_
  · intro p hp
    simp only [S.LogOf_T, List.mem_cons, List.not_mem_nil, or_false] at hp
    rcases hp with rfl | rfl
    · exact S.l1In_ok
    · exact S.l17Record_ok
  · intro args h κ r hh
    simp only [S.LogOf_s] at hh
    split at hh
    · exact (S.LogOf_den _ κ).trans hh
    · cases hh
  · intro args h κ r hh
    simp only [S.LogOf_s] at hh ⊢
    split at hh
    · exact optC_law2 (F := fun (r : List Int) κ => κ (.own 0) [.row (.ints .u8 r)]) (fun b κ r hb => ⟨_, _, hb, fun _ => rfl⟩) hh
    · cases hh
  · intro hh; cases hh
  · intro _ args h κ r hh
    simp only [S.LogOf_s] at hh
    split at hh
    · rfl
    · cases hh

-- loop.example/guardsonnets/impl.placeAt
noncomputable def I.placeAt_T : List (Nat × D.Spec) := []
def I.placeAt_ann : Nat → List Nat × List Nat
  | _ => ([], [])
noncomputable def I.placeAt_F (args : List V) (h : List E) (κ : V → List E → R) : R := funC TD (tableK I.placeAt_T) I.placeAt_ann (drawOk TD (tableP I.placeAt_T)) FUEL Try.f49 args h κ
noncomputable def I.placeAt_tree {α : Type} (log : List Int) (ahead : Int) (leaf0_ : Int → α) (fail_ : α) : α :=
  (bif decide (0 ≤ IntKind.i64.wrap (3 * ahead)) && decide (IntKind.i64.wrap (3 * ahead) < (↑log.length : Int)) then (leaf0_ (IntKind.i64.wrap (IntKind.i64.wrap (eli log (IntKind.i64.wrap (3 * ahead)).toNat) - 1))) else fail_)
theorem I.placeAt_tree_nat {α γ : Type} (g : α → γ) (log : List Int) (ahead : Int) (leaf0_ : Int → α) (fail_ : α) : g (I.placeAt_tree log ahead leaf0_ fail_) = I.placeAt_tree log ahead (fun d => g (leaf0_ d)) (g fail_) := by
  unfold I.placeAt_tree; simp only [apply_cnd g, apply_optC g, apply_sumC g]
noncomputable def I.placeAt_t (log : List Int) (ahead : Int) : Option (Int) := I.placeAt_tree log ahead (fun d => some d) none
theorem I.placeAt_den (log : List Int) (ahead : Int) (κ : V → List E → R) : I.placeAt_F [.ro false (.ints .u8 log), .int .i64 ahead] [] κ = optC (I.placeAt_t log ahead) (fun (r : Int) => κ (.int .i64 r) []) none := by
  have hu : I.placeAt_F [.ro false (.ints .u8 log), .int .i64 ahead] [] κ = I.placeAt_tree log ahead (fun d => κ (.int .i64 d) []) none := by
    kernel_rfl
  rw [hu]
  exact (I.placeAt_tree_nat (fun o => optC o (fun (r : Int) => κ (.int .i64 r) []) none) log ahead (fun d => some d) none).symm
noncomputable def I.placeAt_s : D.Spec where
  keep := false
  pure := true
  add := true
  ds := [.int .u8, .invalid]
  sp := fun args h κ => match args, h with
    | [.ro false (.ints .u8 log), .int .i64 ahead], [] => optC (I.placeAt_t log ahead) (fun (r : Int) => κ (.int .i64 r) []) none
    | _, _ => none
theorem I.placeAt_ok : SpecOk Try.prog 49 I.placeAt_s := by
  refine SpecOk.of TDok mixed (T := I.placeAt_T) ?_ (ann := I.placeAt_ann) Try.func49 rfl (by decide +kernel) ?_ ?_ ?_ ?_
  · intro p hp; cases hp
  · intro args h κ r hh
    simp only [I.placeAt_s] at hh
    split at hh
    · exact (I.placeAt_den _ _ κ).trans hh
    · cases hh
  · intro args h κ r hh
    simp only [I.placeAt_s] at hh ⊢
    split at hh
    · exact optC_law2 (F := fun (r : Int) κ => κ (.int .i64 r) []) (fun b κ r hb => ⟨_, _, hb, fun _ => rfl⟩) hh
    · cases hh
  · intro _ args h κ r hh
    simp only [I.placeAt_s] at hh
    split at hh
    · exact ⟨rfl, fun _ => rfl⟩
    · cases hh
  · intro _ args h κ r hh
    simp only [I.placeAt_s] at hh
    split at hh
    · rfl
    · cases hh

-- loop.example/guardsonnets/impl.recordIn
noncomputable def I.recordIn_T : List (Nat × D.Spec) := [(49, I.placeAt_s), (45, I.recordOf_s)]
def I.recordIn_ann : Nat → List Nat × List Nat
  | _ => ([], [])
noncomputable def I.recordIn_F (args : List V) (h : List E) (κ : V → List E → R) : R := funC TD (tableK I.recordIn_T) I.recordIn_ann (drawOk TD (tableP I.recordIn_T)) FUEL Try.f48 args h κ
noncomputable def I.recordIn_tree {α : Type} (log : List Int) (ahead : Int) (leaf0_ : Bool → α) (fail_ : α) : α :=
  (bif decide (ahead ≥ 40) then (leaf0_ false) else (bif decide (IntKind.i64.wrap (IntKind.i64.wrap (3 * ahead) + 3) > (↑log.length : Int)) then (leaf0_ false) else (optC (I.placeAt_t log ahead) (fun c_1 => (bif decide (c_1 ≥ 0) then (bif decide (c_1 < 6) then (bif decide (0 ≤ IntKind.i64.wrap (3 * ahead)) && decide (IntKind.i64.wrap (3 * ahead) ≤ IntKind.i64.wrap (IntKind.i64.wrap (3 * ahead) + 3)) && decide (IntKind.i64.wrap (IntKind.i64.wrap (3 * ahead) + 3) ≤ (↑log.length : Int)) then (optC (I.recordOf_t c_1 ahead) (fun c_2 => (leaf0_ (strEq (bytesOf (List.take ((IntKind.i64.wrap (IntKind.i64.wrap (3 * ahead) + 3)).toNat - (IntKind.i64.wrap (3 * ahead)).toNat) (List.drop (IntKind.i64.wrap (3 * ahead)).toNat log))) (bytesOf c_2)))) fail_) else fail_) else (leaf0_ false)) else (leaf0_ false))) fail_)))
theorem I.recordIn_tree_nat {α γ : Type} (g : α → γ) (log : List Int) (ahead : Int) (leaf0_ : Bool → α) (fail_ : α) : g (I.recordIn_tree log ahead leaf0_ fail_) = I.recordIn_tree log ahead (fun d => g (leaf0_ d)) (g fail_) := by
  unfold I.recordIn_tree; simp only [apply_cnd g, apply_optC g, apply_sumC g]
noncomputable def I.recordIn_t (log : List Int) (ahead : Int) : Option (Bool) := I.recordIn_tree log ahead (fun d => some d) none
theorem I.recordIn_den (log : List Int) (ahead : Int) (κ : V → List E → R) : I.recordIn_F [.ro false (.ints .u8 log), .int .i64 ahead] [] κ = optC (I.recordIn_t log ahead) (fun (r : Bool) => κ (.bool r) []) none := by
  have hu : I.recordIn_F [.ro false (.ints .u8 log), .int .i64 ahead] [] κ = I.recordIn_tree log ahead (fun d => κ (.bool d) []) none := by
    kernel_rfl
  rw [hu]
  exact (I.recordIn_tree_nat (fun o => optC o (fun (r : Bool) => κ (.bool r) []) none) log ahead (fun d => some d) none).symm
noncomputable def I.recordIn_s : D.Spec where
  keep := false
  pure := true
  add := true
  ds := [.int .u8, .invalid]
  sp := fun args h κ => match args, h with
    | [.ro false (.ints .u8 log), .int .i64 ahead], [] => optC (I.recordIn_t log ahead) (fun (r : Bool) => κ (.bool r) []) none
    | _, _ => none
theorem I.recordIn_ok : SpecOk Try.prog 48 I.recordIn_s := by
  refine SpecOk.of TDok mixed (T := I.recordIn_T) ?_ (ann := I.recordIn_ann) Try.func48 rfl (by decide +kernel) ?_ ?_ ?_ ?_
  · intro p hp
    simp only [I.recordIn_T, List.mem_cons, List.not_mem_nil, or_false] at hp
    rcases hp with rfl | rfl
    · exact I.placeAt_ok
    · exact I.recordOf_ok
  · intro args h κ r hh
    simp only [I.recordIn_s] at hh
    split at hh
    · exact (I.recordIn_den _ _ κ).trans hh
    · cases hh
  · intro args h κ r hh
    simp only [I.recordIn_s] at hh ⊢
    split at hh
    · exact optC_law2 (F := fun (r : Bool) κ => κ (.bool r) []) (fun b κ r hb => ⟨_, _, hb, fun _ => rfl⟩) hh
    · cases hh
  · intro _ args h κ r hh
    simp only [I.recordIn_s] at hh
    split at hh
    · exact ⟨rfl, fun _ => rfl⟩
    · cases hh
  · intro _ args h κ r hh
    simp only [I.recordIn_s] at hh
    split at hh
    · rfl
    · cases hh

-- loop.example/guardsonnets/impl.LogPlaces
noncomputable def I.LogPlaces_T : List (Nat × D.Spec) := [(48, I.recordIn_s), (49, I.placeAt_s)]
def I.LogPlaces_ann : Nat → List Nat × List Nat
  | 2 => ([0, 4], [4])
  | _ => ([], [])
noncomputable def I.LogPlaces_F (args : List V) (h : List E) (κ : V → List E → R) : R := funC TD (tableK I.LogPlaces_T) I.LogPlaces_ann (drawOk TD (tableP I.LogPlaces_T)) FUEL Try.f22 args h κ
noncomputable def I.LogPlaces_L2 (n : Nat) (σ : St) (k : X → St → R) : R := iterC 0 (fun σ k => denC TD (tableK I.LogPlaces_T) I.LogPlaces_ann (drawOk TD (tableP I.LogPlaces_T)) 0 FUEL ((findLoop 2 (Try.f22.body.getD .skip)).getD .skip) σ k) [0, 4] [4] n σ k
noncomputable def I.LogPlaces_k2 (κ : V → List E → R) : X → St → R := (afterC TD (tableK I.LogPlaces_T) I.LogPlaces_ann (drawOk TD (tableP I.LogPlaces_T)) 0 FUEL 2 (Try.f22.body.getD .skip) (finC TD 0 Try.f22 κ)).getD (fun _ _ => none)
noncomputable def I.LogPlaces_step2 {α : Type} (x0 : List Int) (r0 : List Int) (next_ : List Int → α) (out0_ : List Int → α) (fail_ : α) : α :=
  (optC (I.recordIn_t x0 (↑r0.length : Int)) (fun c_1 => (bif c_1 then (optC (I.placeAt_t x0 (↑r0.length : Int)) (fun c_2 => (bif small (r0 ++ [c_2]).length then (next_ (r0 ++ [c_2])) else fail_)) fail_) else (out0_ r0))) fail_)
theorem I.LogPlaces_step2_nat {α γ : Type} (g : α → γ) (x0 : List Int) (r0 : List Int) (next_ : List Int → α) (out0_ : List Int → α) (fail_ : α) : g (I.LogPlaces_step2 x0 r0 next_ out0_ fail_) = I.LogPlaces_step2 x0 r0 (fun s => g (next_ s)) (fun d => g (out0_ d)) (g fail_) := by
  unfold I.LogPlaces_step2; simp only [apply_cnd g, apply_optC g, apply_sumC g]
noncomputable def I.LogPlaces_run2 (x0 : List Int) : Nat → List Int → Option (List Int)
  | 0, _ => none
  | n + 1, s_ => I.LogPlaces_step2 x0 s_ (I.LogPlaces_run2 x0 n) (fun d => some d) none
theorem I.LogPlaces_L2_run (x0 : List Int) (n : Nat) (s_ : List Int) (k : X → St → R) : I.LogPlaces_L2 n { n := 21, t := [(0, (.ro false (.ints .u8 x0))), (4, (.own 0))], h := [.row (.ints .i64 s_)] } k = optC (I.LogPlaces_run2 x0 n s_) (fun (r : List Int) => k (.exit 0) { n := 21, t := [(4, (.own 0))], h := [.row (.ints .i64 r)] }) none := by
  induction n generalizing s_ with
  | zero => rfl
  | succ n ih =>
    have hu : I.LogPlaces_L2 (n + 1) { n := 21, t := [(0, (.ro false (.ints .u8 x0))), (4, (.own 0))], h := [.row (.ints .i64 s_)] } k = I.LogPlaces_step2 x0 s_ (fun s_ => I.LogPlaces_L2 n { n := 21, t := [(0, (.ro false (.ints .u8 x0))), (4, (.own 0))], h := [.row (.ints .i64 s_)] } k) (fun d => k (.exit 0) { n := 21, t := [(4, (.own 0))], h := [.row (.ints .i64 d)] }) none := by
      kernel_rfl
    have hs : (fun s_ : List Int => I.LogPlaces_L2 n { n := 21, t := [(0, (.ro false (.ints .u8 x0))), (4, (.own 0))], h := [.row (.ints .i64 s_)] } k) = fun s_ => optC (I.LogPlaces_run2 x0 n s_) (fun (r : List Int) => k (.exit 0) { n := 21, t := [(4, (.own 0))], h := [.row (.ints .i64 r)] }) none := funext ih
    rw [hu, hs]
    exact (I.LogPlaces_step2_nat (fun o => optC o (fun (r : List Int) => k (.exit 0) { n := 21, t := [(4, (.own 0))], h := [.row (.ints .i64 r)] }) none) x0 s_ (I.LogPlaces_run2 x0 n) (fun d => some d) none).symm
noncomputable def I.LogPlaces_tree {α : Type} (log : List Int) (leaf0_ : Int × (List Int) → α) (fail_ : α) : α :=
  (optC (I.LogPlaces_run2 log FUEL ([])) (fun qy_3 => (leaf0_ (IntKind.i64.wrap (3 * (↑qy_3.length : Int)), qy_3))) fail_)
theorem I.LogPlaces_tree_nat {α γ : Type} (g : α → γ) (log : List Int) (leaf0_ : Int × (List Int) → α) (fail_ : α) : g (I.LogPlaces_tree log leaf0_ fail_) = I.LogPlaces_tree log (fun d => g (leaf0_ d)) (g fail_) := by
  unfold I.LogPlaces_tree; simp only [apply_cnd g, apply_optC g, apply_sumC g]
noncomputable def I.LogPlaces_t (log : List Int) : Option (Int × (List Int)) := I.LogPlaces_tree log (fun d => some d) none
theorem I.LogPlaces_den (log : List Int) (κ : V → List E → R) : I.LogPlaces_F [.ro false (.ints .u8 log)] [] κ = optC (I.LogPlaces_t log) (fun (r : Int × (List Int)) => κ (.tup [(.own 0), (.int .i64 r.1)]) [.row (.ints .i64 r.2)]) none := by
  have hu : I.LogPlaces_F [.ro false (.ints .u8 log)] [] κ = I.LogPlaces_tree log (fun d => κ (.tup [(.own 0), (.int .i64 d.1)]) [.row (.ints .i64 d.2)]) none := by
    refine Eq.trans (show I.LogPlaces_F [.ro false (.ints .u8 log)] [] κ = (I.LogPlaces_L2 FUEL { n := 21, t := [(0, (.ro false (.ints .u8 log))), (4, (.own 0))], h := [.row (.ints .i64 ([]))] } (I.LogPlaces_k2 κ)) by kernel_rfl) ?_
    refine (I.LogPlaces_L2_run log FUEL ([]) (I.LogPlaces_k2 κ)).trans (optC_congr (fun qy_3 => ?_))
    kernel_rfl
  rw [hu]
  exact (I.LogPlaces_tree_nat (fun o => optC o (fun (r : Int × (List Int)) => κ (.tup [(.own 0), (.int .i64 r.1)]) [.row (.ints .i64 r.2)]) none) log (fun d => some d) none).symm
noncomputable def I.LogPlaces_s : D.Spec where
  keep := false
  pure := false
  add := true
  ds := [.int .u8]
  sp := fun args h κ => match args, h with
    | [.ro false (.ints .u8 log)], [] => optC (I.LogPlaces_t log) (fun (r : Int × (List Int)) => κ (.tup [(.own 0), (.int .i64 r.1)]) [.row (.ints .i64 r.2)]) none
    | _, _ => none
theorem I.LogPlaces_ok : SpecOk Try.prog 22 I.LogPlaces_s := by
  refine SpecOk.of TDok mixed (T := I.LogPlaces_T) ?_ (ann := I.LogPlaces_ann) Try.func22 rfl (by decide +kernel) ?_ ?_ ?_ ?_
  · intro p hp
    simp only [I.LogPlaces_T, List.mem_cons, List.not_mem_nil, or_false] at hp
    rcases hp with rfl | rfl
    · exact I.recordIn_ok
    · exact I.placeAt_ok
  · intro args h κ r hh
    simp only [I.LogPlaces_s] at hh
    split at hh
    · exact (I.LogPlaces_den _ κ).trans hh
    · cases hh
  · intro args h κ r hh
    simp only [I.LogPlaces_s] at hh ⊢
    split at hh
    · exact optC_law2 (F := fun (r : Int × (List Int)) κ => κ (.tup [(.own 0), (.int .i64 r.1)]) [.row (.ints .i64 r.2)]) (fun b κ r hb => ⟨_, _, hb, fun _ => rfl⟩) hh
    · cases hh
  · intro hh; cases hh
  · intro _ args h κ r hh
    simp only [I.LogPlaces_s] at hh
    split at hh
    · rfl
    · cases hh

-- loop.example/guardsonnets/laws.sameInts
noncomputable def L.sameInts_T : List (Nat × D.Spec) := []
def L.sameInts_ann : Nat → List Nat × List Nat
  | 4 => ([0, 1, 5], [4])
  | _ => ([], [])
noncomputable def L.sameInts_F (args : List V) (h : List E) (κ : V → List E → R) : R := funC TD (tableK L.sameInts_T) L.sameInts_ann (drawOk TD (tableP L.sameInts_T)) FUEL Try.f23 args h κ
noncomputable def L.sameInts_L4 (n : Nat) (σ : St) (k : X → St → R) : R := iterC 0 (fun σ k => denC TD (tableK L.sameInts_T) L.sameInts_ann (drawOk TD (tableP L.sameInts_T)) 0 FUEL ((findLoop 4 (Try.f23.body.getD .skip)).getD .skip) σ k) [0, 1, 5] [4] n σ k
noncomputable def L.sameInts_k4 (κ : V → List E → R) : X → St → R := (afterC TD (tableK L.sameInts_T) L.sameInts_ann (drawOk TD (tableP L.sameInts_T)) 0 FUEL 4 (Try.f23.body.getD .skip) (finC TD 0 Try.f23 κ)).getD (fun _ _ => none)
noncomputable def L.sameInts_step4 {α : Type} (x0 : List Int) (x1 : List Int) (x5 : Int) (next_ : Int → α) (out0_ : Bool → α) (out1_ : Unit → α) (fail_ : α) : α :=
  (bif decide (x5 < (↑x0.length : Int)) then (bif decide (0 ≤ x5) && decide (x5 < (↑x0.length : Int)) then (bif decide (0 ≤ x5) && decide (x5 < (↑x1.length : Int)) then (bif !eli x0 x5.toNat == eli x1 x5.toNat then (out0_ false) else (next_ (IntKind.i64.wrap (x5 + 1)))) else fail_) else fail_) else (out1_ ()))
theorem L.sameInts_step4_nat {α γ : Type} (g : α → γ) (x0 : List Int) (x1 : List Int) (x5 : Int) (next_ : Int → α) (out0_ : Bool → α) (out1_ : Unit → α) (fail_ : α) : g (L.sameInts_step4 x0 x1 x5 next_ out0_ out1_ fail_) = L.sameInts_step4 x0 x1 x5 (fun s => g (next_ s)) (fun d => g (out0_ d)) (fun d => g (out1_ d)) (g fail_) := by
  unfold L.sameInts_step4; simp only [apply_cnd g, apply_optC g, apply_sumC g]
noncomputable def L.sameInts_run4 (x0 : List Int) (x1 : List Int) : Nat → Int → Option ((Bool) ⊕ (Unit))
  | 0, _ => none
  | n + 1, s_ => L.sameInts_step4 x0 x1 s_ (L.sameInts_run4 x0 x1 n) (fun d => some ((Sum.inl d))) (fun d => some ((Sum.inr d))) none
theorem L.sameInts_L4_run (x0 : List Int) (x1 : List Int) (n : Nat) (s_ : Int) (k : X → St → R) : L.sameInts_L4 n { n := 26, t := [(0, (.ro false (.ints .i64 x0))), (1, (.ro false (.ints .i64 x1))), (5, (.int .i64 s_))], h := [] } k = optC (L.sameInts_run4 x0 x1 n s_) (fun (r : (Bool) ⊕ (Unit)) => (sumC r (fun (r : Bool) => k (.ret) { n := 26, t := [(4, (.bool r))], h := [] }) (fun (r : Unit) => k (.exit 0) { n := 26, t := [(4, .junk)], h := [] }))) none := by
  induction n generalizing s_ with
  | zero => rfl
  | succ n ih =>
    have hu : L.sameInts_L4 (n + 1) { n := 26, t := [(0, (.ro false (.ints .i64 x0))), (1, (.ro false (.ints .i64 x1))), (5, (.int .i64 s_))], h := [] } k = L.sameInts_step4 x0 x1 s_ (fun s_ => L.sameInts_L4 n { n := 26, t := [(0, (.ro false (.ints .i64 x0))), (1, (.ro false (.ints .i64 x1))), (5, (.int .i64 s_))], h := [] } k) (fun d => k (.ret) { n := 26, t := [(4, (.bool d))], h := [] }) (fun d => k (.exit 0) { n := 26, t := [(4, .junk)], h := [] }) none := by
      kernel_rfl
    have hs : (fun s_ : Int => L.sameInts_L4 n { n := 26, t := [(0, (.ro false (.ints .i64 x0))), (1, (.ro false (.ints .i64 x1))), (5, (.int .i64 s_))], h := [] } k) = fun s_ => optC (L.sameInts_run4 x0 x1 n s_) (fun (r : (Bool) ⊕ (Unit)) => (sumC r (fun (r : Bool) => k (.ret) { n := 26, t := [(4, (.bool r))], h := [] }) (fun (r : Unit) => k (.exit 0) { n := 26, t := [(4, .junk)], h := [] }))) none := funext ih
    rw [hu, hs]
    exact (L.sameInts_step4_nat (fun o => optC o (fun (r : (Bool) ⊕ (Unit)) => (sumC r (fun (r : Bool) => k (.ret) { n := 26, t := [(4, (.bool r))], h := [] }) (fun (r : Unit) => k (.exit 0) { n := 26, t := [(4, .junk)], h := [] }))) none) x0 x1 s_ (L.sameInts_run4 x0 x1 n) (fun d => some ((Sum.inl d))) (fun d => some ((Sum.inr d))) none).symm
noncomputable def L.sameInts_tree {α : Type} (a : List Int) (b_ : List Int) (leaf0_ : Bool → α) (fail_ : α) : α :=
  (bif !(↑a.length : Int) == (↑b_.length : Int) then (leaf0_ false) else (optC (L.sameInts_run4 a b_ FUEL 0) (fun qy_1 => (sumC qy_1 (fun (qy_1 : Bool) => (leaf0_ qy_1)) (fun (qy_1 : Unit) => (leaf0_ true)))) fail_))
theorem L.sameInts_tree_nat {α γ : Type} (g : α → γ) (a : List Int) (b_ : List Int) (leaf0_ : Bool → α) (fail_ : α) : g (L.sameInts_tree a b_ leaf0_ fail_) = L.sameInts_tree a b_ (fun d => g (leaf0_ d)) (g fail_) := by
  unfold L.sameInts_tree; simp only [apply_cnd g, apply_optC g, apply_sumC g]
noncomputable def L.sameInts_t (a : List Int) (b_ : List Int) : Option (Bool) := L.sameInts_tree a b_ (fun d => some d) none
theorem L.sameInts_den (a : List Int) (b_ : List Int) (κ : V → List E → R) : L.sameInts_F [.ro false (.ints .i64 a), .ro false (.ints .i64 b_)] [] κ = optC (L.sameInts_t a b_) (fun (r : Bool) => κ (.bool r) []) none := by
  have hu : L.sameInts_F [.ro false (.ints .i64 a), .ro false (.ints .i64 b_)] [] κ = L.sameInts_tree a b_ (fun d => κ (.bool d) []) none := by
    refine Eq.trans (show L.sameInts_F [.ro false (.ints .i64 a), .ro false (.ints .i64 b_)] [] κ = (bif !(↑a.length : Int) == (↑b_.length : Int) then (κ (.bool false) []) else (L.sameInts_L4 FUEL { n := 26, t := [(0, (.ro false (.ints .i64 a))), (1, (.ro false (.ints .i64 b_))), (5, (.int .i64 0))], h := [] } (L.sameInts_k4 κ))) by kernel_rfl) ?_
    refine cnd_congr ?_ ?_
    · kernel_rfl
    · refine (L.sameInts_L4_run a b_ FUEL 0 (L.sameInts_k4 κ)).trans (optC_congr (fun qy_1 => ?_))
      rcases qy_1 with qy_1 | qy_1
      · kernel_rfl
      · kernel_rfl
  rw [hu]
  exact (L.sameInts_tree_nat (fun o => optC o (fun (r : Bool) => κ (.bool r) []) none) a b_ (fun d => some d) none).symm
noncomputable def L.sameInts_s : D.Spec where
  keep := false
  pure := true
  add := true
  ds := [.int .i64, .int .i64]
  sp := fun args h κ => match args, h with
    | [.ro false (.ints .i64 a), .ro false (.ints .i64 b_)], [] => optC (L.sameInts_t a b_) (fun (r : Bool) => κ (.bool r) []) none
    | _, _ => none
theorem L.sameInts_ok : SpecOk Try.prog 23 L.sameInts_s := by
  refine SpecOk.of TDok mixed (T := L.sameInts_T) ?_ (ann := L.sameInts_ann) Try.func23 rfl (by decide +kernel) ?_ ?_ ?_ ?_
  · intro p hp; cases hp
  · intro args h κ r hh
    simp only [L.sameInts_s] at hh
    split at hh
    · exact (L.sameInts_den _ _ κ).trans hh
    · cases hh
  · intro args h κ r hh
    simp only [L.sameInts_s] at hh ⊢
    split at hh
    · exact optC_law2 (F := fun (r : Bool) κ => κ (.bool r) []) (fun b κ r hb => ⟨_, _, hb, fun _ => rfl⟩) hh
    · cases hh
  · intro _ args h κ r hh
    simp only [L.sameInts_s] at hh
    split at hh
    · exact ⟨rfl, fun _ => rfl⟩
    · cases hh
  · intro _ args h κ r hh
    simp only [L.sameInts_s] at hh
    split at hh
    · rfl
    · cases hh

-- loop.example/guardsonnets/laws.FnLogOf
noncomputable def L.FnLogOf_T : List (Nat × D.Spec) := [(19, S.DrawLogOf_s), (20, I.LogOf_s), (21, S.LogOf_s), (13, L.alive_s), (22, I.LogPlaces_s), (23, L.sameInts_s)]
def L.FnLogOf_ann : Nat → List Nat × List Nat
  | 10 => ([3, 4, 5], [2, 3, 4])
  | _ => ([], [])
noncomputable def L.FnLogOf_F (args : List V) (h : List E) (κ : V → List E → R) : R := funC TD (tableK L.FnLogOf_T) L.FnLogOf_ann (drawOk TD (tableP L.FnLogOf_T)) FUEL Try.f5 args h κ
noncomputable def L.FnLogOf_L10 (n : Nat) (σ : St) (k : X → St → R) : R := iterC 0 (fun σ k => denC TD (tableK L.FnLogOf_T) L.FnLogOf_ann (drawOk TD (tableP L.FnLogOf_T)) 0 FUEL ((findLoop 10 (Try.f5.body.getD .skip)).getD .skip) σ k) [3, 4, 5] [2, 3, 4] n σ k
noncomputable def L.FnLogOf_k10 (κ : V → List E → R) : X → St → R := (afterC TD (tableK L.FnLogOf_T) L.FnLogOf_ann (drawOk TD (tableP L.FnLogOf_T)) 0 FUEL 10 (Try.f5.body.getD .skip) (finC TD 0 Try.f5 κ)).getD (fun _ _ => none)
noncomputable def L.FnLogOf_step10 {α : Type} (x5 : Int) (r0 : List Int) (r1 : List Int) (next_ : Int × (List Int) × (List Int) → α) (out0_ : Bool × (List Int) × (List Int) → α) (out1_ : (List Int) × (List Int) → α) (fail_ : α) : α :=
  (bif decide (x5 ≤ (↑r1.length : Int)) then (bif decide (0 ≤ x5) && decide (x5 ≤ (↑r1.length : Int)) then (bif small ([] ++ List.take x5.toNat (List.drop 0 r1)).length then (optC (I.LogPlaces_t ([] ++ List.take x5.toNat (List.drop 0 r1))) (fun c_5 => (bif !c_5.fst == IntKind.i64.wrap (IntKind.i64.wrap (x5.tdiv 3) * 3) then (out0_ (false, r0, r1)) else (bif decide (0 ≤ IntKind.i64.wrap (x5.tdiv 3)) && decide (IntKind.i64.wrap (x5.tdiv 3) ≤ (↑r0.length : Int)) then (optC (L.sameInts_t c_5.snd (List.take (IntKind.i64.wrap (x5.tdiv 3)).toNat (List.drop 0 r0))) (fun c_6 => (bif !c_6 then (out0_ (false, r0, r1)) else (next_ (IntKind.i64.wrap (x5 + 1), r0, r1)))) fail_) else fail_))) fail_) else fail_) else fail_) else (out1_ (r0, r1)))
theorem L.FnLogOf_step10_nat {α γ : Type} (g : α → γ) (x5 : Int) (r0 : List Int) (r1 : List Int) (next_ : Int × (List Int) × (List Int) → α) (out0_ : Bool × (List Int) × (List Int) → α) (out1_ : (List Int) × (List Int) → α) (fail_ : α) : g (L.FnLogOf_step10 x5 r0 r1 next_ out0_ out1_ fail_) = L.FnLogOf_step10 x5 r0 r1 (fun s => g (next_ s)) (fun d => g (out0_ d)) (fun d => g (out1_ d)) (g fail_) := by
  unfold L.FnLogOf_step10; simp only [apply_cnd g, apply_optC g, apply_sumC g]
noncomputable def L.FnLogOf_run10 : Nat → Int × (List Int) × (List Int) → Option ((Bool × (List Int) × (List Int)) ⊕ ((List Int) × (List Int)))
  | 0, _ => none
  | n + 1, s_ => L.FnLogOf_step10 s_.1 s_.2.1 s_.2.2 (L.FnLogOf_run10 n) (fun d => some ((Sum.inl d))) (fun d => some ((Sum.inr d))) none
theorem L.FnLogOf_L10_run (n : Nat) (s_ : Int × (List Int) × (List Int)) (k : X → St → R) : L.FnLogOf_L10 n { n := 60, t := [(3, (.own 0)), (4, (.own 1)), (5, (.int .i64 s_.1))], h := [.row (.ints .i64 s_.2.1), .row (.ints .u8 s_.2.2)] } k = optC (L.FnLogOf_run10 n s_) (fun (r : (Bool × (List Int) × (List Int)) ⊕ ((List Int) × (List Int))) => (sumC r (fun (r : Bool × (List Int) × (List Int)) => k (.ret) { n := 60, t := [(2, (.bool r.1)), (3, (.own 0)), (4, (.own 1))], h := [.row (.ints .i64 r.2.1), .row (.ints .u8 r.2.2)] }) (fun (r : (List Int) × (List Int)) => k (.exit 0) { n := 60, t := [(2, .junk), (3, (.own 0)), (4, (.own 1))], h := [.row (.ints .i64 r.1), .row (.ints .u8 r.2)] }))) none := by
  induction n generalizing s_ with
  | zero => rfl
  | succ n ih =>
    have hu : L.FnLogOf_L10 (n + 1) { n := 60, t := [(3, (.own 0)), (4, (.own 1)), (5, (.int .i64 s_.1))], h := [.row (.ints .i64 s_.2.1), .row (.ints .u8 s_.2.2)] } k = L.FnLogOf_step10 s_.1 s_.2.1 s_.2.2 (fun s_ => L.FnLogOf_L10 n { n := 60, t := [(3, (.own 0)), (4, (.own 1)), (5, (.int .i64 s_.1))], h := [.row (.ints .i64 s_.2.1), .row (.ints .u8 s_.2.2)] } k) (fun d => k (.ret) { n := 60, t := [(2, (.bool d.1)), (3, (.own 0)), (4, (.own 1))], h := [.row (.ints .i64 d.2.1), .row (.ints .u8 d.2.2)] }) (fun d => k (.exit 0) { n := 60, t := [(2, .junk), (3, (.own 0)), (4, (.own 1))], h := [.row (.ints .i64 d.1), .row (.ints .u8 d.2)] }) none := by
      kernel_rfl
    have hs : (fun s_ : Int × (List Int) × (List Int) => L.FnLogOf_L10 n { n := 60, t := [(3, (.own 0)), (4, (.own 1)), (5, (.int .i64 s_.1))], h := [.row (.ints .i64 s_.2.1), .row (.ints .u8 s_.2.2)] } k) = fun s_ => optC (L.FnLogOf_run10 n s_) (fun (r : (Bool × (List Int) × (List Int)) ⊕ ((List Int) × (List Int))) => (sumC r (fun (r : Bool × (List Int) × (List Int)) => k (.ret) { n := 60, t := [(2, (.bool r.1)), (3, (.own 0)), (4, (.own 1))], h := [.row (.ints .i64 r.2.1), .row (.ints .u8 r.2.2)] }) (fun (r : (List Int) × (List Int)) => k (.exit 0) { n := 60, t := [(2, .junk), (3, (.own 0)), (4, (.own 1))], h := [.row (.ints .i64 r.1), .row (.ints .u8 r.2)] }))) none := funext ih
    rw [hu, hs]
    exact (L.FnLogOf_step10_nat (fun o => optC o (fun (r : (Bool × (List Int) × (List Int)) ⊕ ((List Int) × (List Int))) => (sumC r (fun (r : Bool × (List Int) × (List Int)) => k (.ret) { n := 60, t := [(2, (.bool r.1)), (3, (.own 0)), (4, (.own 1))], h := [.row (.ints .i64 r.2.1), .row (.ints .u8 r.2.2)] }) (fun (r : (List Int) × (List Int)) => k (.exit 0) { n := 60, t := [(2, .junk), (3, (.own 0)), (4, (.own 1))], h := [.row (.ints .i64 r.1), .row (.ints .u8 r.2)] }))) none) s_.1 s_.2.1 s_.2.2 (L.FnLogOf_run10 n) (fun d => some ((Sum.inl d))) (fun d => some ((Sum.inr d))) none).symm
noncomputable def L.FnLogOf_tree {α : Type} (code : List Int) (leaf0_ : Bool → α) (fail_ : α) : α :=
  (bif decide ((↑code.length : Int) > 1048576) then (leaf0_ true) else (optC (S.DrawLogOf_t code) (fun c_1 => (optC (I.LogOf_t c_1) (fun c_2 => (optC (S.LogOf_t c_1) (fun c_3 => (bif !strEq (bytesOf c_2) (bytesOf c_3) then (leaf0_ false) else (bif (↑c_2.length : Int) == 0 then (optC (L.alive_t) (fun c_4 => (leaf0_ c_4)) fail_) else (optC (L.FnLogOf_run10 FUEL (0, c_1, c_2)) (fun qy_7 => (sumC qy_7 (fun (qy_7 : Bool × (List Int) × (List Int)) => (leaf0_ qy_7.1)) (fun (qy_7 : (List Int) × (List Int)) => (leaf0_ ((↑qy_7.2.length : Int) == IntKind.i64.wrap (3 * (↑qy_7.1.length : Int))))))) fail_)))) fail_)) fail_)) fail_))
theorem L.FnLogOf_tree_nat {α γ : Type} (g : α → γ) (code : List Int) (leaf0_ : Bool → α) (fail_ : α) : g (L.FnLogOf_tree code leaf0_ fail_) = L.FnLogOf_tree code (fun d => g (leaf0_ d)) (g fail_) := by
  unfold L.FnLogOf_tree; simp only [apply_cnd g, apply_optC g, apply_sumC g]
noncomputable def L.FnLogOf_t (code : List Int) : Option (Bool) := L.FnLogOf_tree code (fun d => some d) none
theorem L.FnLogOf_den (code : List Int) (κ : V → List E → R) : L.FnLogOf_F [.ro true (.ints .u8 code)] [] κ = optC (L.FnLogOf_t code) (fun (r : Bool) => κ (.bool r) []) none := by
  have hu : L.FnLogOf_F [.ro true (.ints .u8 code)] [] κ = L.FnLogOf_tree code (fun d => κ (.bool d) []) none := by
    refine Eq.trans (show L.FnLogOf_F [.ro true (.ints .u8 code)] [] κ = (bif decide ((↑code.length : Int) > 1048576) then (κ (.bool true) []) else (optC (S.DrawLogOf_t code) (fun c_1 => (optC (I.LogOf_t c_1) (fun c_2 => (optC (S.LogOf_t c_1) (fun c_3 => (bif !strEq (bytesOf c_2) (bytesOf c_3) then (κ (.bool false) []) else (bif (↑c_2.length : Int) == 0 then (optC (L.alive_t) (fun c_4 => (κ (.bool c_4) [])) none) else (L.FnLogOf_L10 FUEL { n := 60, t := [(3, (.own 0)), (4, (.own 1)), (5, (.int .i64 0))], h := [.row (.ints .i64 c_1), .row (.ints .u8 c_2)] } (L.FnLogOf_k10 κ))))) none)) none)) none)) by kernel_rfl) ?_
    refine cnd_congr ?_ ?_
    · kernel_rfl
    · refine optC_congr (fun c_1 => ?_)
      refine optC_congr (fun c_2 => ?_)
      refine optC_congr (fun c_3 => ?_)
      refine cnd_congr ?_ ?_
      · kernel_rfl
      · refine cnd_congr ?_ ?_
        · kernel_rfl
        · refine (L.FnLogOf_L10_run FUEL (0, c_1, c_2) (L.FnLogOf_k10 κ)).trans (optC_congr (fun qy_7 => ?_))
          rcases qy_7 with qy_7 | qy_7
          · kernel_rfl
          · kernel_rfl
  rw [hu]
  exact (L.FnLogOf_tree_nat (fun o => optC o (fun (r : Bool) => κ (.bool r) []) none) code (fun d => some d) none).symm
noncomputable def L.FnLogOf_s : D.Spec where
  keep := true
  pure := true
  add := true
  ds := [.int .u8]
  sp := fun args h κ => match args, h with
    | [.ro true (.ints .u8 code)], [] => optC (L.FnLogOf_t code) (fun (r : Bool) => κ (.bool r) []) none
    | _, _ => none
theorem L.FnLogOf_ok : SpecOk Try.prog 5 L.FnLogOf_s := by
  refine SpecOk.of TDok mixed (T := L.FnLogOf_T) ?_ (ann := L.FnLogOf_ann) Try.func5 rfl (by decide +kernel) ?_ ?_ ?_ ?_
  · intro p hp
    simp only [L.FnLogOf_T, List.mem_cons, List.not_mem_nil, or_false] at hp
    rcases hp with rfl | rfl | rfl | rfl | rfl | rfl
    · exact S.DrawLogOf_ok
    · exact I.LogOf_ok
    · exact S.LogOf_ok
    · exact L.alive_ok
    · exact I.LogPlaces_ok
    · exact L.sameInts_ok
  · intro args h κ r hh
    simp only [L.FnLogOf_s] at hh
    split at hh
    · exact (L.FnLogOf_den _ κ).trans hh
    · cases hh
  · intro args h κ r hh
    simp only [L.FnLogOf_s] at hh ⊢
    split at hh
    · exact optC_law2 (F := fun (r : Bool) κ => κ (.bool r) []) (fun b κ r hb => ⟨_, _, hb, fun _ => rfl⟩) hh
    · cases hh
  · intro _ args h κ r hh
    simp only [L.FnLogOf_s] at hh
    split at hh
    · exact ⟨rfl, fun _ => rfl⟩
    · cases hh
  · intro _ args h κ r hh
    simp only [L.FnLogOf_s] at hh
    split at hh
    · rfl
    · cases hh

-- loop.example/guardsonnets/laws.eqByteS
noncomputable def L.eqByteS_T : List (Nat × D.Spec) := []
def L.eqByteS_ann : Nat → List Nat × List Nat
  | 4 => ([0, 1, 5], [4])
  | _ => ([], [])
noncomputable def L.eqByteS_F (args : List V) (h : List E) (κ : V → List E → R) : R := funC TD (tableK L.eqByteS_T) L.eqByteS_ann (drawOk TD (tableP L.eqByteS_T)) FUEL Try.f24 args h κ
noncomputable def L.eqByteS_L4 (n : Nat) (σ : St) (k : X → St → R) : R := iterC 0 (fun σ k => denC TD (tableK L.eqByteS_T) L.eqByteS_ann (drawOk TD (tableP L.eqByteS_T)) 0 FUEL ((findLoop 4 (Try.f24.body.getD .skip)).getD .skip) σ k) [0, 1, 5] [4] n σ k
noncomputable def L.eqByteS_k4 (κ : V → List E → R) : X → St → R := (afterC TD (tableK L.eqByteS_T) L.eqByteS_ann (drawOk TD (tableP L.eqByteS_T)) 0 FUEL 4 (Try.f24.body.getD .skip) (finC TD 0 Try.f24 κ)).getD (fun _ _ => none)
noncomputable def L.eqByteS_step4 {α : Type} (x0 : List Int) (x1 : List Int) (x5 : Int) (next_ : Int → α) (out0_ : Bool → α) (out1_ : Unit → α) (fail_ : α) : α :=
  (bif decide (x5 < (↑x0.length : Int)) then (bif decide (0 ≤ x5) && decide (x5 < (↑x0.length : Int)) then (bif decide (0 ≤ x5) && decide (x5 < (↑x1.length : Int)) then (bif !eli x0 x5.toNat == eli x1 x5.toNat then (out0_ false) else (next_ (IntKind.i64.wrap (x5 + 1)))) else fail_) else fail_) else (out1_ ()))
theorem L.eqByteS_step4_nat {α γ : Type} (g : α → γ) (x0 : List Int) (x1 : List Int) (x5 : Int) (next_ : Int → α) (out0_ : Bool → α) (out1_ : Unit → α) (fail_ : α) : g (L.eqByteS_step4 x0 x1 x5 next_ out0_ out1_ fail_) = L.eqByteS_step4 x0 x1 x5 (fun s => g (next_ s)) (fun d => g (out0_ d)) (fun d => g (out1_ d)) (g fail_) := by
  unfold L.eqByteS_step4; simp only [apply_cnd g, apply_optC g, apply_sumC g]
noncomputable def L.eqByteS_run4 (x0 : List Int) (x1 : List Int) : Nat → Int → Option ((Bool) ⊕ (Unit))
  | 0, _ => none
  | n + 1, s_ => L.eqByteS_step4 x0 x1 s_ (L.eqByteS_run4 x0 x1 n) (fun d => some ((Sum.inl d))) (fun d => some ((Sum.inr d))) none
theorem L.eqByteS_L4_run (x0 : List Int) (x1 : List Int) (n : Nat) (s_ : Int) (k : X → St → R) : L.eqByteS_L4 n { n := 26, t := [(0, (.ro false (.ints .u8 x0))), (1, (.ro false (.ints .u8 x1))), (5, (.int .i64 s_))], h := [] } k = optC (L.eqByteS_run4 x0 x1 n s_) (fun (r : (Bool) ⊕ (Unit)) => (sumC r (fun (r : Bool) => k (.ret) { n := 26, t := [(4, (.bool r))], h := [] }) (fun (r : Unit) => k (.exit 0) { n := 26, t := [(4, .junk)], h := [] }))) none := by
  induction n generalizing s_ with
  | zero => rfl
  | succ n ih =>
    have hu : L.eqByteS_L4 (n + 1) { n := 26, t := [(0, (.ro false (.ints .u8 x0))), (1, (.ro false (.ints .u8 x1))), (5, (.int .i64 s_))], h := [] } k = L.eqByteS_step4 x0 x1 s_ (fun s_ => L.eqByteS_L4 n { n := 26, t := [(0, (.ro false (.ints .u8 x0))), (1, (.ro false (.ints .u8 x1))), (5, (.int .i64 s_))], h := [] } k) (fun d => k (.ret) { n := 26, t := [(4, (.bool d))], h := [] }) (fun d => k (.exit 0) { n := 26, t := [(4, .junk)], h := [] }) none := by
      kernel_rfl
    have hs : (fun s_ : Int => L.eqByteS_L4 n { n := 26, t := [(0, (.ro false (.ints .u8 x0))), (1, (.ro false (.ints .u8 x1))), (5, (.int .i64 s_))], h := [] } k) = fun s_ => optC (L.eqByteS_run4 x0 x1 n s_) (fun (r : (Bool) ⊕ (Unit)) => (sumC r (fun (r : Bool) => k (.ret) { n := 26, t := [(4, (.bool r))], h := [] }) (fun (r : Unit) => k (.exit 0) { n := 26, t := [(4, .junk)], h := [] }))) none := funext ih
    rw [hu, hs]
    exact (L.eqByteS_step4_nat (fun o => optC o (fun (r : (Bool) ⊕ (Unit)) => (sumC r (fun (r : Bool) => k (.ret) { n := 26, t := [(4, (.bool r))], h := [] }) (fun (r : Unit) => k (.exit 0) { n := 26, t := [(4, .junk)], h := [] }))) none) x0 x1 s_ (L.eqByteS_run4 x0 x1 n) (fun d => some ((Sum.inl d))) (fun d => some ((Sum.inr d))) none).symm
noncomputable def L.eqByteS_tree {α : Type} (a : List Int) (b_ : List Int) (leaf0_ : Bool → α) (fail_ : α) : α :=
  (bif !(↑a.length : Int) == (↑b_.length : Int) then (leaf0_ false) else (optC (L.eqByteS_run4 a b_ FUEL 0) (fun qy_1 => (sumC qy_1 (fun (qy_1 : Bool) => (leaf0_ qy_1)) (fun (qy_1 : Unit) => (leaf0_ true)))) fail_))
theorem L.eqByteS_tree_nat {α γ : Type} (g : α → γ) (a : List Int) (b_ : List Int) (leaf0_ : Bool → α) (fail_ : α) : g (L.eqByteS_tree a b_ leaf0_ fail_) = L.eqByteS_tree a b_ (fun d => g (leaf0_ d)) (g fail_) := by
  unfold L.eqByteS_tree; simp only [apply_cnd g, apply_optC g, apply_sumC g]
noncomputable def L.eqByteS_t (a : List Int) (b_ : List Int) : Option (Bool) := L.eqByteS_tree a b_ (fun d => some d) none
theorem L.eqByteS_den (a : List Int) (b_ : List Int) (κ : V → List E → R) : L.eqByteS_F [.ro false (.ints .u8 a), .ro false (.ints .u8 b_)] [] κ = optC (L.eqByteS_t a b_) (fun (r : Bool) => κ (.bool r) []) none := by
  have hu : L.eqByteS_F [.ro false (.ints .u8 a), .ro false (.ints .u8 b_)] [] κ = L.eqByteS_tree a b_ (fun d => κ (.bool d) []) none := by
    refine Eq.trans (show L.eqByteS_F [.ro false (.ints .u8 a), .ro false (.ints .u8 b_)] [] κ = (bif !(↑a.length : Int) == (↑b_.length : Int) then (κ (.bool false) []) else (L.eqByteS_L4 FUEL { n := 26, t := [(0, (.ro false (.ints .u8 a))), (1, (.ro false (.ints .u8 b_))), (5, (.int .i64 0))], h := [] } (L.eqByteS_k4 κ))) by kernel_rfl) ?_
    refine cnd_congr ?_ ?_
    · kernel_rfl
    · refine (L.eqByteS_L4_run a b_ FUEL 0 (L.eqByteS_k4 κ)).trans (optC_congr (fun qy_1 => ?_))
      rcases qy_1 with qy_1 | qy_1
      · kernel_rfl
      · kernel_rfl
  rw [hu]
  exact (L.eqByteS_tree_nat (fun o => optC o (fun (r : Bool) => κ (.bool r) []) none) a b_ (fun d => some d) none).symm
noncomputable def L.eqByteS_s : D.Spec where
  keep := false
  pure := true
  add := true
  ds := [.int .u8, .int .u8]
  sp := fun args h κ => match args, h with
    | [.ro false (.ints .u8 a), .ro false (.ints .u8 b_)], [] => optC (L.eqByteS_t a b_) (fun (r : Bool) => κ (.bool r) []) none
    | _, _ => none
theorem L.eqByteS_ok : SpecOk Try.prog 24 L.eqByteS_s := by
  refine SpecOk.of TDok mixed (T := L.eqByteS_T) ?_ (ann := L.eqByteS_ann) Try.func24 rfl (by decide +kernel) ?_ ?_ ?_ ?_
  · intro p hp; cases hp
  · intro args h κ r hh
    simp only [L.eqByteS_s] at hh
    split at hh
    · exact (L.eqByteS_den _ _ κ).trans hh
    · cases hh
  · intro args h κ r hh
    simp only [L.eqByteS_s] at hh ⊢
    split at hh
    · exact optC_law2 (F := fun (r : Bool) κ => κ (.bool r) []) (fun b κ r hb => ⟨_, _, hb, fun _ => rfl⟩) hh
    · cases hh
  · intro _ args h κ r hh
    simp only [L.eqByteS_s] at hh
    split at hh
    · exact ⟨rfl, fun _ => rfl⟩
    · cases hh
  · intro _ args h κ r hh
    simp only [L.eqByteS_s] at hh
    split at hh
    · rfl
    · cases hh

-- loop.example/guardsonnets/laws.markIntS
noncomputable def L.markIntS_T : List (Nat × D.Spec) := []
def L.markIntS_ann : Nat → List Nat × List Nat
  | 2 => ([0, 1, 5], [1])
  | _ => ([], [])
noncomputable def L.markIntS_F (args : List V) (h : List E) (κ : V → List E → R) : R := funC TD (tableK L.markIntS_T) L.markIntS_ann (drawOk TD (tableP L.markIntS_T)) FUEL Try.f25 args h κ
noncomputable def L.markIntS_L2 (n : Nat) (σ : St) (k : X → St → R) : R := iterC 1 (fun σ k => denC TD (tableK L.markIntS_T) L.markIntS_ann (drawOk TD (tableP L.markIntS_T)) 1 FUEL ((findLoop 2 (Try.f25.body.getD .skip)).getD .skip) σ k) [0, 1, 5] [1] n σ k
noncomputable def L.markIntS_k2 (κ : V → List E → R) : X → St → R := (afterC TD (tableK L.markIntS_T) L.markIntS_ann (drawOk TD (tableP L.markIntS_T)) 1 FUEL 2 (Try.f25.body.getD .skip) (finC TD 1 Try.f25 κ)).getD (fun _ _ => none)
noncomputable def L.markIntS_step2 {α : Type} (x1 : Int) (x5 : Int) (r0 : List Int) (next_ : Int × Int × (List Int) → α) (out0_ : Int × (List Int) → α) (fail_ : α) : α :=
  (bif decide (x5 < (↑r0.length : Int)) then (bif decide (0 ≤ x5) && decide (x5 < (↑r0.length : Int)) then (bif decide (x5.toNat < r0.length) then (next_ (IntKind.i64.wrap (x1 + 1), IntKind.i64.wrap (x5 + 1), r0.set x5.toNat x1)) else fail_) else fail_) else (out0_ (x1, r0)))
theorem L.markIntS_step2_nat {α γ : Type} (g : α → γ) (x1 : Int) (x5 : Int) (r0 : List Int) (next_ : Int × Int × (List Int) → α) (out0_ : Int × (List Int) → α) (fail_ : α) : g (L.markIntS_step2 x1 x5 r0 next_ out0_ fail_) = L.markIntS_step2 x1 x5 r0 (fun s => g (next_ s)) (fun d => g (out0_ d)) (g fail_) := by
  unfold L.markIntS_step2; simp only [apply_cnd g, apply_optC g, apply_sumC g]
noncomputable def L.markIntS_run2 : Nat → Int × Int × (List Int) → Option (Int × (List Int))
  | 0, _ => none
  | n + 1, s_ => L.markIntS_step2 s_.1 s_.2.1 s_.2.2 (L.markIntS_run2 n) (fun d => some d) none
theorem L.markIntS_L2_run (n : Nat) (s_ : Int × Int × (List Int)) (k : X → St → R) : L.markIntS_L2 n { n := 19, t := [(0, (.own 0)), (1, (.int .i64 s_.1)), (5, (.int .i64 s_.2.1))], h := [.row (.ints .i64 s_.2.2)] } k = optC (L.markIntS_run2 n s_) (fun (r : Int × (List Int)) => k (.exit 0) { n := 19, t := [(1, (.int .i64 r.1))], h := [.row (.ints .i64 r.2)] }) none := by
  induction n generalizing s_ with
  | zero => rfl
  | succ n ih =>
    have hu : L.markIntS_L2 (n + 1) { n := 19, t := [(0, (.own 0)), (1, (.int .i64 s_.1)), (5, (.int .i64 s_.2.1))], h := [.row (.ints .i64 s_.2.2)] } k = L.markIntS_step2 s_.1 s_.2.1 s_.2.2 (fun s_ => L.markIntS_L2 n { n := 19, t := [(0, (.own 0)), (1, (.int .i64 s_.1)), (5, (.int .i64 s_.2.1))], h := [.row (.ints .i64 s_.2.2)] } k) (fun d => k (.exit 0) { n := 19, t := [(1, (.int .i64 d.1))], h := [.row (.ints .i64 d.2)] }) none := by
      kernel_rfl
    have hs : (fun s_ : Int × Int × (List Int) => L.markIntS_L2 n { n := 19, t := [(0, (.own 0)), (1, (.int .i64 s_.1)), (5, (.int .i64 s_.2.1))], h := [.row (.ints .i64 s_.2.2)] } k) = fun s_ => optC (L.markIntS_run2 n s_) (fun (r : Int × (List Int)) => k (.exit 0) { n := 19, t := [(1, (.int .i64 r.1))], h := [.row (.ints .i64 r.2)] }) none := funext ih
    rw [hu, hs]
    exact (L.markIntS_step2_nat (fun o => optC o (fun (r : Int × (List Int)) => k (.exit 0) { n := 19, t := [(1, (.int .i64 r.1))], h := [.row (.ints .i64 r.2)] }) none) s_.1 s_.2.1 s_.2.2 (L.markIntS_run2 n) (fun d => some d) none).symm
noncomputable def L.markIntS_tree {α : Type} (a : List Int) (k_ : Int) (leaf0_ : Int × (List Int) → α) (fail_ : α) : α :=
  (optC (L.markIntS_run2 FUEL (k_, 0, a)) (fun qy_1 => (leaf0_ (qy_1.1, qy_1.2))) fail_)
theorem L.markIntS_tree_nat {α γ : Type} (g : α → γ) (a : List Int) (k_ : Int) (leaf0_ : Int × (List Int) → α) (fail_ : α) : g (L.markIntS_tree a k_ leaf0_ fail_) = L.markIntS_tree a k_ (fun d => g (leaf0_ d)) (g fail_) := by
  unfold L.markIntS_tree; simp only [apply_cnd g, apply_optC g, apply_sumC g]
noncomputable def L.markIntS_t (a : List Int) (k_ : Int) : Option (Int × (List Int)) := L.markIntS_tree a k_ (fun d => some d) none
theorem L.markIntS_den (a : List Int) (k_ : Int) (κ : V → List E → R) : L.markIntS_F [.own 0, .int .i64 k_] [.row (.ints .i64 a)] κ = optC (L.markIntS_t a k_) (fun (r : Int × (List Int)) => κ (.int .i64 r.1) [.row (.ints .i64 r.2)]) none := by
  have hu : L.markIntS_F [.own 0, .int .i64 k_] [.row (.ints .i64 a)] κ = L.markIntS_tree a k_ (fun d => κ (.int .i64 d.1) [.row (.ints .i64 d.2)]) none := by
    refine Eq.trans (show L.markIntS_F [.own 0, .int .i64 k_] [.row (.ints .i64 a)] κ = (L.markIntS_L2 FUEL { n := 19, t := [(0, (.own 0)), (1, (.int .i64 k_)), (5, (.int .i64 0))], h := [.row (.ints .i64 a)] } (L.markIntS_k2 κ)) by kernel_rfl) ?_
    refine (L.markIntS_L2_run FUEL (k_, 0, a) (L.markIntS_k2 κ)).trans (optC_congr (fun qy_1 => ?_))
    kernel_rfl
  rw [hu]
  exact (L.markIntS_tree_nat (fun o => optC o (fun (r : Int × (List Int)) => κ (.int .i64 r.1) [.row (.ints .i64 r.2)]) none) a k_ (fun d => some d) none).symm
noncomputable def L.markIntS_s : D.Spec where
  keep := false
  pure := false
  add := false
  ds := [.pointer 0, .invalid]
  sp := fun args h κ => match args, h with
    | [.own 0, .int .i64 k_], [.row (.ints .i64 a)] => optC (L.markIntS_t a k_) (fun (r : Int × (List Int)) => κ (.int .i64 r.1) [.row (.ints .i64 r.2)]) none
    | _, _ => none
theorem L.markIntS_ok : SpecOk Try.prog 25 L.markIntS_s := by
  refine SpecOk.of TDok mixed (T := L.markIntS_T) ?_ (ann := L.markIntS_ann) Try.func25 rfl (by decide +kernel) ?_ ?_ ?_ ?_
  · intro p hp; cases hp
  · intro args h κ r hh
    simp only [L.markIntS_s] at hh
    split at hh
    · exact (L.markIntS_den _ _ κ).trans hh
    · cases hh
  · intro args h κ r hh
    simp only [L.markIntS_s] at hh ⊢
    split at hh
    · exact optC_law2 (F := fun (r : Int × (List Int)) κ => κ (.int .i64 r.1) [.row (.ints .i64 r.2)]) (fun b κ r hb => ⟨_, _, hb, fun _ => rfl⟩) hh
    · cases hh
  · intro hh; cases hh
  · intro hh; cases hh

-- loop.example/guardsonnets/laws.markByteS
noncomputable def L.markByteS_T : List (Nat × D.Spec) := []
def L.markByteS_ann : Nat → List Nat × List Nat
  | 2 => ([0, 1, 5], [1])
  | _ => ([], [])
noncomputable def L.markByteS_F (args : List V) (h : List E) (κ : V → List E → R) : R := funC TD (tableK L.markByteS_T) L.markByteS_ann (drawOk TD (tableP L.markByteS_T)) FUEL Try.f26 args h κ
noncomputable def L.markByteS_L2 (n : Nat) (σ : St) (k : X → St → R) : R := iterC 1 (fun σ k => denC TD (tableK L.markByteS_T) L.markByteS_ann (drawOk TD (tableP L.markByteS_T)) 1 FUEL ((findLoop 2 (Try.f26.body.getD .skip)).getD .skip) σ k) [0, 1, 5] [1] n σ k
noncomputable def L.markByteS_k2 (κ : V → List E → R) : X → St → R := (afterC TD (tableK L.markByteS_T) L.markByteS_ann (drawOk TD (tableP L.markByteS_T)) 1 FUEL 2 (Try.f26.body.getD .skip) (finC TD 1 Try.f26 κ)).getD (fun _ _ => none)
noncomputable def L.markByteS_step2 {α : Type} (x1 : Int) (x5 : Int) (r0 : List Int) (next_ : Int × Int × (List Int) → α) (out0_ : Int × (List Int) → α) (fail_ : α) : α :=
  (bif decide (x5 < (↑r0.length : Int)) then (bif decide (0 ≤ x5) && decide (x5 < (↑r0.length : Int)) then (bif decide (x5.toNat < r0.length) then (next_ (IntKind.i64.wrap (x1 + 1), IntKind.i64.wrap (x5 + 1), r0.set x5.toNat (IntKind.u8.wrap x1))) else fail_) else fail_) else (out0_ (x1, r0)))
theorem L.markByteS_step2_nat {α γ : Type} (g : α → γ) (x1 : Int) (x5 : Int) (r0 : List Int) (next_ : Int × Int × (List Int) → α) (out0_ : Int × (List Int) → α) (fail_ : α) : g (L.markByteS_step2 x1 x5 r0 next_ out0_ fail_) = L.markByteS_step2 x1 x5 r0 (fun s => g (next_ s)) (fun d => g (out0_ d)) (g fail_) := by
  unfold L.markByteS_step2; simp only [apply_cnd g, apply_optC g, apply_sumC g]
noncomputable def L.markByteS_run2 : Nat → Int × Int × (List Int) → Option (Int × (List Int))
  | 0, _ => none
  | n + 1, s_ => L.markByteS_step2 s_.1 s_.2.1 s_.2.2 (L.markByteS_run2 n) (fun d => some d) none
theorem L.markByteS_L2_run (n : Nat) (s_ : Int × Int × (List Int)) (k : X → St → R) : L.markByteS_L2 n { n := 20, t := [(0, (.own 0)), (1, (.int .i64 s_.1)), (5, (.int .i64 s_.2.1))], h := [.row (.ints .u8 s_.2.2)] } k = optC (L.markByteS_run2 n s_) (fun (r : Int × (List Int)) => k (.exit 0) { n := 20, t := [(1, (.int .i64 r.1))], h := [.row (.ints .u8 r.2)] }) none := by
  induction n generalizing s_ with
  | zero => rfl
  | succ n ih =>
    have hu : L.markByteS_L2 (n + 1) { n := 20, t := [(0, (.own 0)), (1, (.int .i64 s_.1)), (5, (.int .i64 s_.2.1))], h := [.row (.ints .u8 s_.2.2)] } k = L.markByteS_step2 s_.1 s_.2.1 s_.2.2 (fun s_ => L.markByteS_L2 n { n := 20, t := [(0, (.own 0)), (1, (.int .i64 s_.1)), (5, (.int .i64 s_.2.1))], h := [.row (.ints .u8 s_.2.2)] } k) (fun d => k (.exit 0) { n := 20, t := [(1, (.int .i64 d.1))], h := [.row (.ints .u8 d.2)] }) none := by
      kernel_rfl
    have hs : (fun s_ : Int × Int × (List Int) => L.markByteS_L2 n { n := 20, t := [(0, (.own 0)), (1, (.int .i64 s_.1)), (5, (.int .i64 s_.2.1))], h := [.row (.ints .u8 s_.2.2)] } k) = fun s_ => optC (L.markByteS_run2 n s_) (fun (r : Int × (List Int)) => k (.exit 0) { n := 20, t := [(1, (.int .i64 r.1))], h := [.row (.ints .u8 r.2)] }) none := funext ih
    rw [hu, hs]
    exact (L.markByteS_step2_nat (fun o => optC o (fun (r : Int × (List Int)) => k (.exit 0) { n := 20, t := [(1, (.int .i64 r.1))], h := [.row (.ints .u8 r.2)] }) none) s_.1 s_.2.1 s_.2.2 (L.markByteS_run2 n) (fun d => some d) none).symm
noncomputable def L.markByteS_tree {α : Type} (a : List Int) (k_ : Int) (leaf0_ : Int × (List Int) → α) (fail_ : α) : α :=
  (optC (L.markByteS_run2 FUEL (k_, 0, a)) (fun qy_1 => (leaf0_ (qy_1.1, qy_1.2))) fail_)
theorem L.markByteS_tree_nat {α γ : Type} (g : α → γ) (a : List Int) (k_ : Int) (leaf0_ : Int × (List Int) → α) (fail_ : α) : g (L.markByteS_tree a k_ leaf0_ fail_) = L.markByteS_tree a k_ (fun d => g (leaf0_ d)) (g fail_) := by
  unfold L.markByteS_tree; simp only [apply_cnd g, apply_optC g, apply_sumC g]
noncomputable def L.markByteS_t (a : List Int) (k_ : Int) : Option (Int × (List Int)) := L.markByteS_tree a k_ (fun d => some d) none
theorem L.markByteS_den (a : List Int) (k_ : Int) (κ : V → List E → R) : L.markByteS_F [.own 0, .int .i64 k_] [.row (.ints .u8 a)] κ = optC (L.markByteS_t a k_) (fun (r : Int × (List Int)) => κ (.int .i64 r.1) [.row (.ints .u8 r.2)]) none := by
  have hu : L.markByteS_F [.own 0, .int .i64 k_] [.row (.ints .u8 a)] κ = L.markByteS_tree a k_ (fun d => κ (.int .i64 d.1) [.row (.ints .u8 d.2)]) none := by
    refine Eq.trans (show L.markByteS_F [.own 0, .int .i64 k_] [.row (.ints .u8 a)] κ = (L.markByteS_L2 FUEL { n := 20, t := [(0, (.own 0)), (1, (.int .i64 k_)), (5, (.int .i64 0))], h := [.row (.ints .u8 a)] } (L.markByteS_k2 κ)) by kernel_rfl) ?_
    refine (L.markByteS_L2_run FUEL (k_, 0, a) (L.markByteS_k2 κ)).trans (optC_congr (fun qy_1 => ?_))
    kernel_rfl
  rw [hu]
  exact (L.markByteS_tree_nat (fun o => optC o (fun (r : Int × (List Int)) => κ (.int .i64 r.1) [.row (.ints .u8 r.2)]) none) a k_ (fun d => some d) none).symm
noncomputable def L.markByteS_s : D.Spec where
  keep := false
  pure := false
  add := false
  ds := [.pointer 0, .invalid]
  sp := fun args h κ => match args, h with
    | [.own 0, .int .i64 k_], [.row (.ints .u8 a)] => optC (L.markByteS_t a k_) (fun (r : Int × (List Int)) => κ (.int .i64 r.1) [.row (.ints .u8 r.2)]) none
    | _, _ => none
theorem L.markByteS_ok : SpecOk Try.prog 26 L.markByteS_s := by
  refine SpecOk.of TDok mixed (T := L.markByteS_T) ?_ (ann := L.markByteS_ann) Try.func26 rfl (by decide +kernel) ?_ ?_ ?_ ?_
  · intro p hp; cases hp
  · intro args h κ r hh
    simp only [L.markByteS_s] at hh
    split at hh
    · exact (L.markByteS_den _ _ κ).trans hh
    · cases hh
  · intro args h κ r hh
    simp only [L.markByteS_s] at hh ⊢
    split at hh
    · exact optC_law2 (F := fun (r : Int × (List Int)) κ => κ (.int .i64 r.1) [.row (.ints .u8 r.2)]) (fun b κ r hb => ⟨_, _, hb, fun _ => rfl⟩) hh
    · cases hh
  · intro hh; cases hh
  · intro hh; cases hh

-- loop.example/guardsonnets/laws.heldByteS
noncomputable def L.heldByteS_T : List (Nat × D.Spec) := []
def L.heldByteS_ann : Nat → List Nat × List Nat
  | 2 => ([0, 1, 5], [1, 4])
  | _ => ([], [])
noncomputable def L.heldByteS_F (args : List V) (h : List E) (κ : V → List E → R) : R := funC TD (tableK L.heldByteS_T) L.heldByteS_ann (drawOk TD (tableP L.heldByteS_T)) FUEL Try.f27 args h κ
noncomputable def L.heldByteS_L2 (n : Nat) (σ : St) (k : X → St → R) : R := iterC 0 (fun σ k => denC TD (tableK L.heldByteS_T) L.heldByteS_ann (drawOk TD (tableP L.heldByteS_T)) 0 FUEL ((findLoop 2 (Try.f27.body.getD .skip)).getD .skip) σ k) [0, 1, 5] [1, 4] n σ k
noncomputable def L.heldByteS_k2 (κ : V → List E → R) : X → St → R := (afterC TD (tableK L.heldByteS_T) L.heldByteS_ann (drawOk TD (tableP L.heldByteS_T)) 0 FUEL 2 (Try.f27.body.getD .skip) (finC TD 0 Try.f27 κ)).getD (fun _ _ => none)
noncomputable def L.heldByteS_step2 {α : Type} (x0 : List Int) (x1 : Int) (x5 : Int) (next_ : Int × Int → α) (out0_ : Int × Int → α) (out1_ : Int → α) (fail_ : α) : α :=
  (bif decide (x5 < (↑x0.length : Int)) then (bif decide (0 ≤ x5) && decide (x5 < (↑x0.length : Int)) then (bif !eli x0 x5.toNat == IntKind.u8.wrap x1 then (out0_ (x1, -1)) else (next_ (IntKind.i64.wrap (x1 + 1), IntKind.i64.wrap (x5 + 1)))) else fail_) else (out1_ x1))
theorem L.heldByteS_step2_nat {α γ : Type} (g : α → γ) (x0 : List Int) (x1 : Int) (x5 : Int) (next_ : Int × Int → α) (out0_ : Int × Int → α) (out1_ : Int → α) (fail_ : α) : g (L.heldByteS_step2 x0 x1 x5 next_ out0_ out1_ fail_) = L.heldByteS_step2 x0 x1 x5 (fun s => g (next_ s)) (fun d => g (out0_ d)) (fun d => g (out1_ d)) (g fail_) := by
  unfold L.heldByteS_step2; simp only [apply_cnd g, apply_optC g, apply_sumC g]
noncomputable def L.heldByteS_run2 (x0 : List Int) : Nat → Int × Int → Option ((Int × Int) ⊕ (Int))
  | 0, _ => none
  | n + 1, s_ => L.heldByteS_step2 x0 s_.1 s_.2 (L.heldByteS_run2 x0 n) (fun d => some ((Sum.inl d))) (fun d => some ((Sum.inr d))) none
theorem L.heldByteS_L2_run (x0 : List Int) (n : Nat) (s_ : Int × Int) (k : X → St → R) : L.heldByteS_L2 n { n := 22, t := [(0, (.ro false (.ints .u8 x0))), (1, (.int .i64 s_.1)), (5, (.int .i64 s_.2))], h := [] } k = optC (L.heldByteS_run2 x0 n s_) (fun (r : (Int × Int) ⊕ (Int)) => (sumC r (fun (r : Int × Int) => k (.ret) { n := 22, t := [(1, (.int .i64 r.1)), (4, (.int .i64 r.2))], h := [] }) (fun (r : Int) => k (.exit 0) { n := 22, t := [(1, (.int .i64 r)), (4, .junk)], h := [] }))) none := by
  induction n generalizing s_ with
  | zero => rfl
  | succ n ih =>
    have hu : L.heldByteS_L2 (n + 1) { n := 22, t := [(0, (.ro false (.ints .u8 x0))), (1, (.int .i64 s_.1)), (5, (.int .i64 s_.2))], h := [] } k = L.heldByteS_step2 x0 s_.1 s_.2 (fun s_ => L.heldByteS_L2 n { n := 22, t := [(0, (.ro false (.ints .u8 x0))), (1, (.int .i64 s_.1)), (5, (.int .i64 s_.2))], h := [] } k) (fun d => k (.ret) { n := 22, t := [(1, (.int .i64 d.1)), (4, (.int .i64 d.2))], h := [] }) (fun d => k (.exit 0) { n := 22, t := [(1, (.int .i64 d)), (4, .junk)], h := [] }) none := by
      kernel_rfl
    have hs : (fun s_ : Int × Int => L.heldByteS_L2 n { n := 22, t := [(0, (.ro false (.ints .u8 x0))), (1, (.int .i64 s_.1)), (5, (.int .i64 s_.2))], h := [] } k) = fun s_ => optC (L.heldByteS_run2 x0 n s_) (fun (r : (Int × Int) ⊕ (Int)) => (sumC r (fun (r : Int × Int) => k (.ret) { n := 22, t := [(1, (.int .i64 r.1)), (4, (.int .i64 r.2))], h := [] }) (fun (r : Int) => k (.exit 0) { n := 22, t := [(1, (.int .i64 r)), (4, .junk)], h := [] }))) none := funext ih
    rw [hu, hs]
    exact (L.heldByteS_step2_nat (fun o => optC o (fun (r : (Int × Int) ⊕ (Int)) => (sumC r (fun (r : Int × Int) => k (.ret) { n := 22, t := [(1, (.int .i64 r.1)), (4, (.int .i64 r.2))], h := [] }) (fun (r : Int) => k (.exit 0) { n := 22, t := [(1, (.int .i64 r)), (4, .junk)], h := [] }))) none) x0 s_.1 s_.2 (L.heldByteS_run2 x0 n) (fun d => some ((Sum.inl d))) (fun d => some ((Sum.inr d))) none).symm
noncomputable def L.heldByteS_tree {α : Type} (a : List Int) (k_ : Int) (leaf0_ : Int → α) (fail_ : α) : α :=
  (optC (L.heldByteS_run2 a FUEL (k_, 0)) (fun qy_1 => (sumC qy_1 (fun (qy_1 : Int × Int) => (leaf0_ qy_1.2)) (fun (qy_1 : Int) => (leaf0_ qy_1)))) fail_)
theorem L.heldByteS_tree_nat {α γ : Type} (g : α → γ) (a : List Int) (k_ : Int) (leaf0_ : Int → α) (fail_ : α) : g (L.heldByteS_tree a k_ leaf0_ fail_) = L.heldByteS_tree a k_ (fun d => g (leaf0_ d)) (g fail_) := by
  unfold L.heldByteS_tree; simp only [apply_cnd g, apply_optC g, apply_sumC g]
noncomputable def L.heldByteS_t (a : List Int) (k_ : Int) : Option (Int) := L.heldByteS_tree a k_ (fun d => some d) none
theorem L.heldByteS_den (a : List Int) (k_ : Int) (κ : V → List E → R) : L.heldByteS_F [.ro false (.ints .u8 a), .int .i64 k_] [] κ = optC (L.heldByteS_t a k_) (fun (r : Int) => κ (.int .i64 r) []) none := by
  have hu : L.heldByteS_F [.ro false (.ints .u8 a), .int .i64 k_] [] κ = L.heldByteS_tree a k_ (fun d => κ (.int .i64 d) []) none := by
    refine Eq.trans (show L.heldByteS_F [.ro false (.ints .u8 a), .int .i64 k_] [] κ = (L.heldByteS_L2 FUEL { n := 22, t := [(0, (.ro false (.ints .u8 a))), (1, (.int .i64 k_)), (5, (.int .i64 0))], h := [] } (L.heldByteS_k2 κ)) by kernel_rfl) ?_
    refine (L.heldByteS_L2_run a FUEL (k_, 0) (L.heldByteS_k2 κ)).trans (optC_congr (fun qy_1 => ?_))
    rcases qy_1 with qy_1 | qy_1
    · kernel_rfl
    · kernel_rfl
  rw [hu]
  exact (L.heldByteS_tree_nat (fun o => optC o (fun (r : Int) => κ (.int .i64 r) []) none) a k_ (fun d => some d) none).symm
noncomputable def L.heldByteS_s : D.Spec where
  keep := false
  pure := true
  add := true
  ds := [.int .u8, .invalid]
  sp := fun args h κ => match args, h with
    | [.ro false (.ints .u8 a), .int .i64 k_], [] => optC (L.heldByteS_t a k_) (fun (r : Int) => κ (.int .i64 r) []) none
    | _, _ => none
theorem L.heldByteS_ok : SpecOk Try.prog 27 L.heldByteS_s := by
  refine SpecOk.of TDok mixed (T := L.heldByteS_T) ?_ (ann := L.heldByteS_ann) Try.func27 rfl (by decide +kernel) ?_ ?_ ?_ ?_
  · intro p hp; cases hp
  · intro args h κ r hh
    simp only [L.heldByteS_s] at hh
    split at hh
    · exact (L.heldByteS_den _ _ κ).trans hh
    · cases hh
  · intro args h κ r hh
    simp only [L.heldByteS_s] at hh ⊢
    split at hh
    · exact optC_law2 (F := fun (r : Int) κ => κ (.int .i64 r) []) (fun b κ r hb => ⟨_, _, hb, fun _ => rfl⟩) hh
    · cases hh
  · intro _ args h κ r hh
    simp only [L.heldByteS_s] at hh
    split at hh
    · exact ⟨rfl, fun _ => rfl⟩
    · cases hh
  · intro _ args h κ r hh
    simp only [L.heldByteS_s] at hh
    split at hh
    · rfl
    · cases hh

-- loop.example/guardsonnets/laws.FnExactLogOf
noncomputable def L.FnExactLogOf_T : List (Nat × D.Spec) := [(17, L.toIntS_s), (21, S.LogOf_s), (20, I.LogOf_s), (24, L.eqByteS_s), (18, L.eqIntS_s), (25, L.markIntS_s), (26, L.markByteS_s), (27, L.heldByteS_s)]
def L.FnExactLogOf_ann : Nat → List Nat × List Nat
  | _ => ([], [])
noncomputable def L.FnExactLogOf_F (args : List V) (h : List E) (κ : V → List E → R) : R := funC TD (tableK L.FnExactLogOf_T) L.FnExactLogOf_ann (drawOk TD (tableP L.FnExactLogOf_T)) FUEL Try.f6 args h κ
noncomputable def L.FnExactLogOf_tree {α : Type} (aPlaces : List Int) (leaf0_ : Bool → α) (fail_ : α) : α :=
  (bif decide ((↑aPlaces.length : Int) > 1048576) then (leaf0_ true) else (optC (L.toIntS_t aPlaces) (fun c_1 => (optC (S.LogOf_t c_1) (fun c_2 => (optC (L.toIntS_t aPlaces) (fun c_3 => (optC (I.LogOf_t c_3) (fun c_4 => (optC (L.eqByteS_t c_4 c_2) (fun c_5 => (bif !c_5 then (leaf0_ false) else (optC (L.toIntS_t aPlaces) (fun c_6 => (optC (L.eqIntS_t c_3 c_6) (fun c_7 => (bif !c_7 then (leaf0_ false) else (optC (L.markIntS_t c_3 1) (fun c_8 => (bif decide (c_8.fst < 0) then (leaf0_ false) else (optC (L.eqByteS_t c_4 c_2) (fun c_9 => (bif !c_9 then (leaf0_ false) else (optC (L.markByteS_t c_4 1) (fun c_10 => (optC (L.heldByteS_t c_10.snd 1) (fun c_11 => (bif decide (c_11 < 0) then (leaf0_ false) else (bif !c_11 == c_10.fst then (leaf0_ false) else (optC (L.toIntS_t aPlaces) (fun c_12 => (optC (I.LogOf_t c_12) (fun c_13 => (optC (L.eqByteS_t c_13 c_2) (fun c_14 => (bif !c_14 then (leaf0_ false) else (optC (L.heldByteS_t c_10.snd 1) (fun c_15 => (bif decide (c_15 < 0) then (leaf0_ false) else (bif !c_15 == c_10.fst then (leaf0_ false) else (leaf0_ true)))) fail_))) fail_)) fail_)) fail_)))) fail_)) fail_))) fail_))) fail_))) fail_)) fail_))) fail_)) fail_)) fail_)) fail_)) fail_))
theorem L.FnExactLogOf_tree_nat {α γ : Type} (g : α → γ) (aPlaces : List Int) (leaf0_ : Bool → α) (fail_ : α) : g (L.FnExactLogOf_tree aPlaces leaf0_ fail_) = L.FnExactLogOf_tree aPlaces (fun d => g (leaf0_ d)) (g fail_) := by
  unfold L.FnExactLogOf_tree; simp only [apply_cnd g, apply_optC g, apply_sumC g]
noncomputable def L.FnExactLogOf_t (aPlaces : List Int) : Option (Bool) := L.FnExactLogOf_tree aPlaces (fun d => some d) none
theorem L.FnExactLogOf_den (aPlaces : List Int) (κ : V → List E → R) : L.FnExactLogOf_F [.ro true (.ints .i64 aPlaces)] [] κ = optC (L.FnExactLogOf_t aPlaces) (fun (r : Bool) => κ (.bool r) []) none := by
  have hu : L.FnExactLogOf_F [.ro true (.ints .i64 aPlaces)] [] κ = L.FnExactLogOf_tree aPlaces (fun d => κ (.bool d) []) none := by
    kernel_rfl
  rw [hu]
  exact (L.FnExactLogOf_tree_nat (fun o => optC o (fun (r : Bool) => κ (.bool r) []) none) aPlaces (fun d => some d) none).symm
noncomputable def L.FnExactLogOf_s : D.Spec where
  keep := true
  pure := true
  add := true
  ds := [.int .i64]
  sp := fun args h κ => match args, h with
    | [.ro true (.ints .i64 aPlaces)], [] => optC (L.FnExactLogOf_t aPlaces) (fun (r : Bool) => κ (.bool r) []) none
    | _, _ => none
theorem L.FnExactLogOf_ok : SpecOk Try.prog 6 L.FnExactLogOf_s := by
  refine SpecOk.of TDok mixed (T := L.FnExactLogOf_T) ?_ (ann := L.FnExactLogOf_ann) Try.func6 rfl (by decide +kernel) ?_ ?_ ?_ ?_
  · intro p hp
    simp only [L.FnExactLogOf_T, List.mem_cons, List.not_mem_nil, or_false] at hp
    rcases hp with rfl | rfl | rfl | rfl | rfl | rfl | rfl | rfl
    · exact L.toIntS_ok
    · exact S.LogOf_ok
    · exact I.LogOf_ok
    · exact L.eqByteS_ok
    · exact L.eqIntS_ok
    · exact L.markIntS_ok
    · exact L.markByteS_ok
    · exact L.heldByteS_ok
  · intro args h κ r hh
    simp only [L.FnExactLogOf_s] at hh
    split at hh
    · exact (L.FnExactLogOf_den _ κ).trans hh
    · cases hh
  · intro args h κ r hh
    simp only [L.FnExactLogOf_s] at hh ⊢
    split at hh
    · exact optC_law2 (F := fun (r : Bool) κ => κ (.bool r) []) (fun b κ r hb => ⟨_, _, hb, fun _ => rfl⟩) hh
    · cases hh
  · intro _ args h κ r hh
    simp only [L.FnExactLogOf_s] at hh
    split at hh
    · exact ⟨rfl, fun _ => rfl⟩
    · cases hh
  · intro _ args h κ r hh
    simp only [L.FnExactLogOf_s] at hh
    split at hh
    · rfl
    · cases hh

-- loop.example/guardsonnets/spec.l20Log
noncomputable def S.l20Log_T : List (Nat × D.Spec) := [(44, S.l20Rd_pick_s), (43, S.l20Places_s), (21, S.LogOf_s)]
def S.l20Log_ann : Nat → List Nat × List Nat
  | _ => ([], [])
noncomputable def S.l20Log_F (args : List V) (h : List E) (κ : V → List E → R) : R := funC TD (tableK S.l20Log_T) S.l20Log_ann (drawOk TD (tableP S.l20Log_T)) FUEL Try.f50 args h κ
noncomputable def S.l20Log_tree {α : Type} (rb : List Int) (rp : Int) (many : Int) (leaf0_ : (List Int) × Int × (List Int) → α) (fail_ : α) : α :=
  (optC (S.l20Rd_pick_t rb rp 20) (fun c_1 => (optC (S.l20Places_t c_1.snd.fst c_1.snd.snd many (IntKind.i64.wrap (8 + IntKind.i64.wrap (IntKind.i64.wrap (c_1.fst.tdiv 19) * 32)))) (fun c_2 => (optC (S.LogOf_t c_2.snd.snd) (fun c_3 => (bif decide ((↑c_3.length : Int) > 0) then (optC (S.l20Rd_pick_t c_2.fst c_2.snd.fst 3) (fun c_4 => (bif c_4.fst == 0 then (optC (S.l20Rd_pick_t c_4.snd.fst c_4.snd.snd (↑c_3.length : Int)) (fun c_5 => (bif decide (0 ≤ c_5.fst) && decide (c_5.fst < (↑c_3.length : Int)) then (bif decide (c_5.fst.toNat < c_3.length) then (optC (S.l20Rd_pick_t c_5.snd.fst c_5.snd.snd 256) (fun c_6 => (bif decide (0 ≤ c_5.fst) && decide (c_5.fst < (↑c_3.length : Int)) then (bif decide (c_5.fst.toNat < c_3.length) then (bif decide ((↑(c_3.set c_5.fst.toNat (IntKind.u8.wrap (IntKind.i64.wrap (IntKind.i64.wrap (eli c_3 c_5.fst.toNat) + c_6.fst)))).length : Int) > 0) then (optC (S.l20Rd_pick_t c_6.snd.fst c_6.snd.snd 3) (fun c_7 => (bif c_7.fst == 0 then (optC (S.l20Rd_pick_t c_7.snd.fst c_7.snd.snd (↑(c_3.set c_5.fst.toNat (IntKind.u8.wrap (IntKind.i64.wrap (IntKind.i64.wrap (eli c_3 c_5.fst.toNat) + c_6.fst)))).length : Int)) (fun c_8 => (bif decide (0 ≤ c_8.fst) && decide (c_8.fst ≤ (↑(c_3.set c_5.fst.toNat (IntKind.u8.wrap (IntKind.i64.wrap (IntKind.i64.wrap (eli c_3 c_5.fst.toNat) + c_6.fst)))).length : Int)) then (optC (S.l20Rd_pick_t c_8.snd.fst c_8.snd.snd 12) (fun c_9 => (bif c_9.fst == 0 then (optC (S.l20Rd_pick_t c_9.snd.fst c_9.snd.snd 256) (fun c_10 => (bif small (List.take c_8.fst.toNat (List.drop 0 (c_3.set c_5.fst.toNat (IntKind.u8.wrap (IntKind.i64.wrap (IntKind.i64.wrap (eli c_3 c_5.fst.toNat) + c_6.fst))))) ++ [IntKind.u8.wrap c_10.fst]).length then (bif small ([] ++ (List.take c_8.fst.toNat (List.drop 0 (c_3.set c_5.fst.toNat (IntKind.u8.wrap (IntKind.i64.wrap (IntKind.i64.wrap (eli c_3 c_5.fst.toNat) + c_6.fst))))) ++ [IntKind.u8.wrap c_10.fst])).length then (leaf0_ (c_10.snd.fst, c_10.snd.snd, [] ++ (List.take c_8.fst.toNat (List.drop 0 (c_3.set c_5.fst.toNat (IntKind.u8.wrap (IntKind.i64.wrap (IntKind.i64.wrap (eli c_3 c_5.fst.toNat) + c_6.fst))))) ++ [IntKind.u8.wrap c_10.fst]))) else fail_) else fail_)) fail_) else (bif small ([] ++ List.take c_8.fst.toNat (List.drop 0 (c_3.set c_5.fst.toNat (IntKind.u8.wrap (IntKind.i64.wrap (IntKind.i64.wrap (eli c_3 c_5.fst.toNat) + c_6.fst)))))).length then (leaf0_ (c_9.snd.fst, c_9.snd.snd, [] ++ List.take c_8.fst.toNat (List.drop 0 (c_3.set c_5.fst.toNat (IntKind.u8.wrap (IntKind.i64.wrap (IntKind.i64.wrap (eli c_3 c_5.fst.toNat) + c_6.fst))))))) else fail_))) fail_) else fail_)) fail_) else (optC (S.l20Rd_pick_t c_7.snd.fst c_7.snd.snd 12) (fun c_11 => (bif c_11.fst == 0 then (optC (S.l20Rd_pick_t c_11.snd.fst c_11.snd.snd 256) (fun c_12 => (bif small (c_3.set c_5.fst.toNat (IntKind.u8.wrap (IntKind.i64.wrap (IntKind.i64.wrap (eli c_3 c_5.fst.toNat) + c_6.fst))) ++ [IntKind.u8.wrap c_12.fst]).length then (bif small ([] ++ (c_3.set c_5.fst.toNat (IntKind.u8.wrap (IntKind.i64.wrap (IntKind.i64.wrap (eli c_3 c_5.fst.toNat) + c_6.fst))) ++ [IntKind.u8.wrap c_12.fst])).length then (leaf0_ (c_12.snd.fst, c_12.snd.snd, [] ++ (c_3.set c_5.fst.toNat (IntKind.u8.wrap (IntKind.i64.wrap (IntKind.i64.wrap (eli c_3 c_5.fst.toNat) + c_6.fst))) ++ [IntKind.u8.wrap c_12.fst]))) else fail_) else fail_)) fail_) else (bif small ([] ++ c_3.set c_5.fst.toNat (IntKind.u8.wrap (IntKind.i64.wrap (IntKind.i64.wrap (eli c_3 c_5.fst.toNat) + c_6.fst)))).length then (leaf0_ (c_11.snd.fst, c_11.snd.snd, [] ++ c_3.set c_5.fst.toNat (IntKind.u8.wrap (IntKind.i64.wrap (IntKind.i64.wrap (eli c_3 c_5.fst.toNat) + c_6.fst))))) else fail_))) fail_))) fail_) else (optC (S.l20Rd_pick_t c_6.snd.fst c_6.snd.snd 12) (fun c_13 => (bif c_13.fst == 0 then (optC (S.l20Rd_pick_t c_13.snd.fst c_13.snd.snd 256) (fun c_14 => (bif small (c_3.set c_5.fst.toNat (IntKind.u8.wrap (IntKind.i64.wrap (IntKind.i64.wrap (eli c_3 c_5.fst.toNat) + c_6.fst))) ++ [IntKind.u8.wrap c_14.fst]).length then (bif small ([] ++ (c_3.set c_5.fst.toNat (IntKind.u8.wrap (IntKind.i64.wrap (IntKind.i64.wrap (eli c_3 c_5.fst.toNat) + c_6.fst))) ++ [IntKind.u8.wrap c_14.fst])).length then (leaf0_ (c_14.snd.fst, c_14.snd.snd, [] ++ (c_3.set c_5.fst.toNat (IntKind.u8.wrap (IntKind.i64.wrap (IntKind.i64.wrap (eli c_3 c_5.fst.toNat) + c_6.fst))) ++ [IntKind.u8.wrap c_14.fst]))) else fail_) else fail_)) fail_) else (bif small ([] ++ c_3.set c_5.fst.toNat (IntKind.u8.wrap (IntKind.i64.wrap (IntKind.i64.wrap (eli c_3 c_5.fst.toNat) + c_6.fst)))).length then (leaf0_ (c_13.snd.fst, c_13.snd.snd, [] ++ c_3.set c_5.fst.toNat (IntKind.u8.wrap (IntKind.i64.wrap (IntKind.i64.wrap (eli c_3 c_5.fst.toNat) + c_6.fst))))) else fail_))) fail_)) else fail_) else fail_)) fail_) else fail_) else fail_)) fail_) else (bif decide ((↑c_3.length : Int) > 0) then (optC (S.l20Rd_pick_t c_4.snd.fst c_4.snd.snd 3) (fun c_15 => (bif c_15.fst == 0 then (optC (S.l20Rd_pick_t c_15.snd.fst c_15.snd.snd (↑c_3.length : Int)) (fun c_16 => (bif decide (0 ≤ c_16.fst) && decide (c_16.fst ≤ (↑c_3.length : Int)) then (optC (S.l20Rd_pick_t c_16.snd.fst c_16.snd.snd 12) (fun c_17 => (bif c_17.fst == 0 then (optC (S.l20Rd_pick_t c_17.snd.fst c_17.snd.snd 256) (fun c_18 => (bif small (List.take c_16.fst.toNat (List.drop 0 c_3) ++ [IntKind.u8.wrap c_18.fst]).length then (bif small ([] ++ (List.take c_16.fst.toNat (List.drop 0 c_3) ++ [IntKind.u8.wrap c_18.fst])).length then (leaf0_ (c_18.snd.fst, c_18.snd.snd, [] ++ (List.take c_16.fst.toNat (List.drop 0 c_3) ++ [IntKind.u8.wrap c_18.fst]))) else fail_) else fail_)) fail_) else (bif small ([] ++ List.take c_16.fst.toNat (List.drop 0 c_3)).length then (leaf0_ (c_17.snd.fst, c_17.snd.snd, [] ++ List.take c_16.fst.toNat (List.drop 0 c_3))) else fail_))) fail_) else fail_)) fail_) else (optC (S.l20Rd_pick_t c_15.snd.fst c_15.snd.snd 12) (fun c_19 => (bif c_19.fst == 0 then (optC (S.l20Rd_pick_t c_19.snd.fst c_19.snd.snd 256) (fun c_20 => (bif small (c_3 ++ [IntKind.u8.wrap c_20.fst]).length then (bif small ([] ++ (c_3 ++ [IntKind.u8.wrap c_20.fst])).length then (leaf0_ (c_20.snd.fst, c_20.snd.snd, [] ++ (c_3 ++ [IntKind.u8.wrap c_20.fst]))) else fail_) else fail_)) fail_) else (bif small ([] ++ c_3).length then (leaf0_ (c_19.snd.fst, c_19.snd.snd, [] ++ c_3)) else fail_))) fail_))) fail_) else (optC (S.l20Rd_pick_t c_4.snd.fst c_4.snd.snd 12) (fun c_21 => (bif c_21.fst == 0 then (optC (S.l20Rd_pick_t c_21.snd.fst c_21.snd.snd 256) (fun c_22 => (bif small (c_3 ++ [IntKind.u8.wrap c_22.fst]).length then (bif small ([] ++ (c_3 ++ [IntKind.u8.wrap c_22.fst])).length then (leaf0_ (c_22.snd.fst, c_22.snd.snd, [] ++ (c_3 ++ [IntKind.u8.wrap c_22.fst]))) else fail_) else fail_)) fail_) else (bif small ([] ++ c_3).length then (leaf0_ (c_21.snd.fst, c_21.snd.snd, [] ++ c_3)) else fail_))) fail_)))) fail_) else (bif decide ((↑c_3.length : Int) > 0) then (optC (S.l20Rd_pick_t c_2.fst c_2.snd.fst 3) (fun c_23 => (bif c_23.fst == 0 then (optC (S.l20Rd_pick_t c_23.snd.fst c_23.snd.snd (↑c_3.length : Int)) (fun c_24 => (bif decide (0 ≤ c_24.fst) && decide (c_24.fst ≤ (↑c_3.length : Int)) then (optC (S.l20Rd_pick_t c_24.snd.fst c_24.snd.snd 12) (fun c_25 => (bif c_25.fst == 0 then (optC (S.l20Rd_pick_t c_25.snd.fst c_25.snd.snd 256) (fun c_26 => (bif small (List.take c_24.fst.toNat (List.drop 0 c_3) ++ [IntKind.u8.wrap c_26.fst]).length then (bif small ([] ++ (List.take c_24.fst.toNat (List.drop 0 c_3) ++ [IntKind.u8.wrap c_26.fst])).length then (leaf0_ (c_26.snd.fst, c_26.snd.snd, [] ++ (List.take c_24.fst.toNat (List.drop 0 c_3) ++ [IntKind.u8.wrap c_26.fst]))) else fail_) else fail_)) fail_) else (bif small ([] ++ List.take c_24.fst.toNat (List.drop 0 c_3)).length then (leaf0_ (c_25.snd.fst, c_25.snd.snd, [] ++ List.take c_24.fst.toNat (List.drop 0 c_3))) else fail_))) fail_) else fail_)) fail_) else (optC (S.l20Rd_pick_t c_23.snd.fst c_23.snd.snd 12) (fun c_27 => (bif c_27.fst == 0 then (optC (S.l20Rd_pick_t c_27.snd.fst c_27.snd.snd 256) (fun c_28 => (bif small (c_3 ++ [IntKind.u8.wrap c_28.fst]).length then (bif small ([] ++ (c_3 ++ [IntKind.u8.wrap c_28.fst])).length then (leaf0_ (c_28.snd.fst, c_28.snd.snd, [] ++ (c_3 ++ [IntKind.u8.wrap c_28.fst]))) else fail_) else fail_)) fail_) else (bif small ([] ++ c_3).length then (leaf0_ (c_27.snd.fst, c_27.snd.snd, [] ++ c_3)) else fail_))) fail_))) fail_) else (optC (S.l20Rd_pick_t c_2.fst c_2.snd.fst 12) (fun c_29 => (bif c_29.fst == 0 then (optC (S.l20Rd_pick_t c_29.snd.fst c_29.snd.snd 256) (fun c_30 => (bif small (c_3 ++ [IntKind.u8.wrap c_30.fst]).length then (bif small ([] ++ (c_3 ++ [IntKind.u8.wrap c_30.fst])).length then (leaf0_ (c_30.snd.fst, c_30.snd.snd, [] ++ (c_3 ++ [IntKind.u8.wrap c_30.fst]))) else fail_) else fail_)) fail_) else (bif small ([] ++ c_3).length then (leaf0_ (c_29.snd.fst, c_29.snd.snd, [] ++ c_3)) else fail_))) fail_)))) fail_)) fail_)) fail_)
theorem S.l20Log_tree_nat {α γ : Type} (g : α → γ) (rb : List Int) (rp : Int) (many : Int) (leaf0_ : (List Int) × Int × (List Int) → α) (fail_ : α) : g (S.l20Log_tree rb rp many leaf0_ fail_) = S.l20Log_tree rb rp many (fun d => g (leaf0_ d)) (g fail_) := by
  unfold S.l20Log_tree; simp only [apply_cnd g, apply_optC g, apply_sumC g]
noncomputable def S.l20Log_t (rb : List Int) (rp : Int) (many : Int) : Option ((List Int) × Int × (List Int)) := S.l20Log_tree rb rp many (fun d => some d) none
theorem S.l20Log_den (rb : List Int) (rp : Int) (many : Int) (κ : V → List E → R) : S.l20Log_F [.ptr 0 0, .int .i64 many] [.cells [.ro true (.ints .u8 rb), .int .i64 rp]] κ = optC (S.l20Log_t rb rp many) (fun (r : (List Int) × Int × (List Int)) => κ (.own 1) [.cells [(.ro true (.ints .u8 r.1)), (.int .i64 r.2.1)], .row (.ints .u8 r.2.2)]) none := by
  have hu : S.l20Log_F [.ptr 0 0, .int .i64 many] [.cells [.ro true (.ints .u8 rb), .int .i64 rp]] κ = S.l20Log_tree rb rp many (fun d => κ (.own 1) [.cells [(.ro true (.ints .u8 d.1)), (.int .i64 d.2.1)], .row (.ints .u8 d.2.2)]) none := by
    kernel_rfl
  rw [hu]
  exact (S.l20Log_tree_nat (fun o => optC o (fun (r : (List Int) × Int × (List Int)) => κ (.own 1) [.cells [(.ro true (.ints .u8 r.1)), (.int .i64 r.2.1)], .row (.ints .u8 r.2.2)]) none) rb rp many (fun d => some d) none).symm
noncomputable def S.l20Log_s : D.Spec where
  keep := false
  pure := false
  add := false
  ds := [.invalid, .invalid]
  sp := fun args h κ => match args, h with
    | [.ptr 0 0, .int .i64 many], [.cells [.ro true (.ints .u8 rb), .int .i64 rp]] => optC (S.l20Log_t rb rp many) (fun (r : (List Int) × Int × (List Int)) => κ (.own 1) [.cells [(.ro true (.ints .u8 r.1)), (.int .i64 r.2.1)], .row (.ints .u8 r.2.2)]) none
    | _, _ => none
theorem S.l20Log_ok : SpecOk Try.prog 50 S.l20Log_s := by
  refine SpecOk.of TDok mixed (T := S.l20Log_T) ?_ (ann := S.l20Log_ann) Try.func50 rfl (by decide +kernel) ?_ ?_ ?_ ?_
  · intro p hp
    simp only [S.l20Log_T, List.mem_cons, List.not_mem_nil, or_false] at hp
    rcases hp with rfl | rfl | rfl
    · exact S.l20Rd_pick_ok
    · exact S.l20Places_ok
    · exact S.LogOf_ok
  · intro args h κ r hh
    simp only [S.l20Log_s] at hh
    split at hh
    · exact (S.l20Log_den _ _ _ κ).trans hh
    · cases hh
  · intro args h κ r hh
    simp only [S.l20Log_s] at hh ⊢
    split at hh
    · exact optC_law2 (F := fun (r : (List Int) × Int × (List Int)) κ => κ (.own 1) [.cells [(.ro true (.ints .u8 r.1)), (.int .i64 r.2.1)], .row (.ints .u8 r.2.2)]) (fun b κ r hb => ⟨_, _, hb, fun _ => rfl⟩) hh
    · cases hh
  · intro hh; cases hh
  · intro hh; cases hh

-- loop.example/guardsonnets/spec.DrawLogPlaces
noncomputable def S.DrawLogPlaces_T : List (Nat × D.Spec) := [(33, S.l20Open_s), (50, S.l20Log_s)]
def S.DrawLogPlaces_ann : Nat → List Nat × List Nat
  | _ => ([], [])
noncomputable def S.DrawLogPlaces_F (args : List V) (h : List E) (κ : V → List E → R) : R := funC TD (tableK S.DrawLogPlaces_T) S.DrawLogPlaces_ann (drawOk TD (tableP S.DrawLogPlaces_T)) FUEL Try.f28 args h κ
noncomputable def S.DrawLogPlaces_tree {α : Type} (code : List Int) (leaf0_ : List Int → α) (fail_ : α) : α :=
  (optC (S.l20Open_t code) (fun c_1 => (optC (S.l20Log_t c_1.fst c_1.snd 6) (fun c_2 => (leaf0_ c_2.snd.snd)) fail_)) fail_)
theorem S.DrawLogPlaces_tree_nat {α γ : Type} (g : α → γ) (code : List Int) (leaf0_ : List Int → α) (fail_ : α) : g (S.DrawLogPlaces_tree code leaf0_ fail_) = S.DrawLogPlaces_tree code (fun d => g (leaf0_ d)) (g fail_) := by
  unfold S.DrawLogPlaces_tree; simp only [apply_cnd g, apply_optC g, apply_sumC g]
noncomputable def S.DrawLogPlaces_t (code : List Int) : Option (List Int) := S.DrawLogPlaces_tree code (fun d => some d) none
theorem S.DrawLogPlaces_den (code : List Int) (κ : V → List E → R) : S.DrawLogPlaces_F [.ro true (.ints .u8 code)] [] κ = optC (S.DrawLogPlaces_t code) (fun (r : List Int) => κ (.own 0) [.row (.ints .u8 r)]) none := by
  have hu : S.DrawLogPlaces_F [.ro true (.ints .u8 code)] [] κ = S.DrawLogPlaces_tree code (fun d => κ (.own 0) [.row (.ints .u8 d)]) none := by
    kernel_rfl
  rw [hu]
  exact (S.DrawLogPlaces_tree_nat (fun o => optC o (fun (r : List Int) => κ (.own 0) [.row (.ints .u8 r)]) none) code (fun d => some d) none).symm
noncomputable def S.DrawLogPlaces_s : D.Spec where
  keep := true
  pure := false
  add := true
  ds := [.int .u8]
  sp := fun args h κ => match args, h with
    | [.ro true (.ints .u8 code)], [] => optC (S.DrawLogPlaces_t code) (fun (r : List Int) => κ (.own 0) [.row (.ints .u8 r)]) none
    | _, _ => none
theorem S.DrawLogPlaces_ok : SpecOk Try.prog 28 S.DrawLogPlaces_s := by
  refine SpecOk.of TDok mixed (T := S.DrawLogPlaces_T) ?_ (ann := S.DrawLogPlaces_ann) Try.func28 rfl (by decide +kernel) ?_ ?_ ?_ ?_
  · intro p hp
    simp only [S.DrawLogPlaces_T, List.mem_cons, List.not_mem_nil, or_false] at hp
    rcases hp with rfl | rfl
    · exact S.l20Open_ok
    · exact S.l20Log_ok
  · intro args h κ r hh
    simp only [S.DrawLogPlaces_s] at hh
    split at hh
    · exact (S.DrawLogPlaces_den _ κ).trans hh
    · cases hh
  · intro args h κ r hh
    simp only [S.DrawLogPlaces_s] at hh ⊢
    split at hh
    · exact optC_law2 (F := fun (r : List Int) κ => κ (.own 0) [.row (.ints .u8 r)]) (fun b κ r hb => ⟨_, _, hb, fun _ => rfl⟩) hh
    · cases hh
  · intro hh; cases hh
  · intro _ args h κ r hh
    simp only [S.DrawLogPlaces_s] at hh
    split at hh
    · rfl
    · cases hh


end Go.Proofs.Ytbacbipopdokgaa
