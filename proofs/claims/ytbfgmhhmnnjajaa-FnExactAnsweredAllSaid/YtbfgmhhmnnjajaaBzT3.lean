/- Twins of the translated functions, with their proofs. Conditions: none. -/
import Derived.Test.YtbfgmhhmnnjajaaBzT2
set_option linter.unusedVariables false
set_option linter.unusedSimpArgs false
namespace Go.Proofs.Ytbfgmhhmnnjajaa
open D Go.RowKit
-- loop.example/guardsonnets/spec.l1Size
noncomputable def S.l1Size_T : List (Nat × D.Spec) := []
def S.l1Size_ann : Nat → List Nat × List Nat
  | 2 => ([0, 3], [3])
  | _ => ([], [])
noncomputable def S.l1Size_F (args : List V) (h : List E) (κ : V → List E → R) : R := funC TD (tableK S.l1Size_T) S.l1Size_ann (drawOk (tableP S.l1Size_T)) FUEL Try.f59 args h κ
noncomputable def S.l1Size_L2 (n : Nat) (σ : St) (k : X → St → R) : R := iterC 0 (fun σ k => denC TD (tableK S.l1Size_T) S.l1Size_ann (drawOk (tableP S.l1Size_T)) 0 FUEL ((findLoop 2 (Try.f59.body.getD .skip)).getD .skip) σ k) [0, 3] [3] n σ k
noncomputable def S.l1Size_k2 (κ : V → List E → R) : X → St → R := (afterC TD (tableK S.l1Size_T) S.l1Size_ann (drawOk (tableP S.l1Size_T)) 0 FUEL 2 (Try.f59.body.getD .skip) (finC TD 0 Try.f59 κ)).getD (fun _ _ => none)
noncomputable def S.l1Size_step2 {α : Type} (x0 : Int) (x3 : Int) (next_ : Int × Int → α) (out0_ : Int → α) (fail_ : α) : α :=
  (bif decide (x0 > 0) then (next_ (IntKind.i64.wrap (x0.tdiv 2), IntKind.i64.wrap (x3 + x0.tmod 2))) else (out0_ x3))
theorem S.l1Size_step2_nat {α γ : Type} (g : α → γ) (x0 : Int) (x3 : Int) (next_ : Int × Int → α) (out0_ : Int → α) (fail_ : α) : g (S.l1Size_step2 x0 x3 next_ out0_ fail_) = S.l1Size_step2 x0 x3 (fun s => g (next_ s)) (fun d => g (out0_ d)) (g fail_) := by
  unfold S.l1Size_step2; simp only [apply_cnd g, apply_optC g, apply_sumC g]
noncomputable def S.l1Size_run2 : Nat → Int × Int → Option (Int)
  | 0, _ => none
  | n + 1, s_ => S.l1Size_step2 s_.1 s_.2 (S.l1Size_run2 n) (fun d => some d) none
theorem S.l1Size_L2_run (n : Nat) (s_ : Int × Int) (k : X → St → R) : S.l1Size_L2 n { n := 13, t := [(0, (.int .i64 s_.1)), (3, (.int .i64 s_.2))], h := [] } k = optC (S.l1Size_run2 n s_) (fun (r : Int) => k (.exit 0) { n := 13, t := [(3, (.int .i64 r))], h := [] }) none := by
  induction n generalizing s_ with
  | zero => rfl
  | succ n ih =>
    have hu : S.l1Size_L2 (n + 1) { n := 13, t := [(0, (.int .i64 s_.1)), (3, (.int .i64 s_.2))], h := [] } k = S.l1Size_step2 s_.1 s_.2 (fun s_ => S.l1Size_L2 n { n := 13, t := [(0, (.int .i64 s_.1)), (3, (.int .i64 s_.2))], h := [] } k) (fun d => k (.exit 0) { n := 13, t := [(3, (.int .i64 d))], h := [] }) none := by
      kernel_rfl
    have hs : (fun s_ : Int × Int => S.l1Size_L2 n { n := 13, t := [(0, (.int .i64 s_.1)), (3, (.int .i64 s_.2))], h := [] } k) = fun s_ => optC (S.l1Size_run2 n s_) (fun (r : Int) => k (.exit 0) { n := 13, t := [(3, (.int .i64 r))], h := [] }) none := funext ih
    rw [hu, hs]
    exact (S.l1Size_step2_nat (fun o => optC o (fun (r : Int) => k (.exit 0) { n := 13, t := [(3, (.int .i64 r))], h := [] }) none) s_.1 s_.2 (S.l1Size_run2 n) (fun d => some d) none).symm
noncomputable def S.l1Size_tree {α : Type} (set_ : Int) (leaf0_ : Int → α) (fail_ : α) : α :=
  (optC (S.l1Size_run2 FUEL (set_, 0)) (fun qy_1 => (leaf0_ qy_1)) fail_)
theorem S.l1Size_tree_nat {α γ : Type} (g : α → γ) (set_ : Int) (leaf0_ : Int → α) (fail_ : α) : g (S.l1Size_tree set_ leaf0_ fail_) = S.l1Size_tree set_ (fun d => g (leaf0_ d)) (g fail_) := by
  unfold S.l1Size_tree; simp only [apply_cnd g, apply_optC g, apply_sumC g]
noncomputable def S.l1Size_t (set_ : Int) : Option (Int) := S.l1Size_tree set_ (fun d => some d) none
theorem S.l1Size_den (set_ : Int) (κ : V → List E → R) : S.l1Size_F [.int .i64 set_] [] κ = optC (S.l1Size_t set_) (fun (r : Int) => κ (.int .i64 r) []) none := by
  have hu : S.l1Size_F [.int .i64 set_] [] κ = S.l1Size_tree set_ (fun d => κ (.int .i64 d) []) none := by
    refine Eq.trans (show S.l1Size_F [.int .i64 set_] [] κ = (S.l1Size_L2 FUEL { n := 13, t := [(0, (.int .i64 set_)), (3, (.int .i64 0))], h := [] } (S.l1Size_k2 κ)) by kernel_rfl) ?_
    refine (S.l1Size_L2_run FUEL (set_, 0) (S.l1Size_k2 κ)).trans (optC_congr (fun qy_1 => ?_))
    kernel_rfl
  rw [hu]
  exact (S.l1Size_tree_nat (fun o => optC o (fun (r : Int) => κ (.int .i64 r) []) none) set_ (fun d => some d) none).symm
noncomputable def S.l1Size_s : D.Spec where
  keep := false
  pure := true
  ds := [.invalid]
  sp := fun args h κ => match args, h with
    | [.int .i64 set_], [] => optC (S.l1Size_t set_) (fun (r : Int) => κ (.int .i64 r) []) none
    | _, _ => none
theorem S.l1Size_ok : SpecOk Try.prog 59 S.l1Size_s := by
  refine SpecOk.of TDok mixed (T := S.l1Size_T) ?_ (ann := S.l1Size_ann) Try.func59 rfl (by decide +kernel) ?_ ?_ ?_
  · intro p hp; cases hp
  · intro args h κ r hh
    simp only [S.l1Size_s] at hh
    split at hh
    · exact (S.l1Size_den _ κ).trans hh
    · cases hh
  · intro args h κ r hh
    simp only [S.l1Size_s] at hh ⊢
    split at hh
    · exact optC_law2 (F := fun (r : Int) κ => κ (.int .i64 r) []) (fun b κ r hb => ⟨_, _, hb, fun _ => rfl⟩) hh
    · cases hh
  · intro _ args h κ r hh
    simp only [S.l1Size_s] at hh
    split at hh
    · exact ⟨rfl, fun _ => rfl⟩
    · cases hh

-- loop.example/guardsonnets/spec.FewestEternal
noncomputable def S.FewestEternal_T : List (Nat × D.Spec) := [(55, S.NetOk_s), (25, S.EternalSets_s), (59, S.l1Size_s)]
def S.FewestEternal_ann : Nat → List Nat × List Nat
  | 6 => ([3, 4, 5], [3])
  | _ => ([], [])
noncomputable def S.FewestEternal_F (args : List V) (h : List E) (κ : V → List E → R) : R := funC TD (tableK S.FewestEternal_T) S.FewestEternal_ann (drawOk (tableP S.FewestEternal_T)) FUEL Try.f33 args h κ
noncomputable def S.FewestEternal_L6 (n : Nat) (σ : St) (k : X → St → R) : R := iterC 0 (fun σ k => denC TD (tableK S.FewestEternal_T) S.FewestEternal_ann (drawOk (tableP S.FewestEternal_T)) 0 FUEL ((findLoop 6 (Try.f33.body.getD .skip)).getD .skip) σ k) [3, 4, 5] [3] n σ k
noncomputable def S.FewestEternal_k6 (κ : V → List E → R) : X → St → R := (afterC TD (tableK S.FewestEternal_T) S.FewestEternal_ann (drawOk (tableP S.FewestEternal_T)) 0 FUEL 6 (Try.f33.body.getD .skip) (finC TD 0 Try.f33 κ)).getD (fun _ _ => none)
noncomputable def S.FewestEternal_step6 {α : Type} (x3 : Int) (x5 : Int) (r0 : List Int) (next_ : Int × Int × (List Int) → α) (out0_ : Int → α) (fail_ : α) : α :=
  (bif decide (x5 < (↑r0.length : Int)) then (bif decide (0 ≤ x5) && decide (x5 < (↑r0.length : Int)) then (bif decide (x5.toNat < r0.length) then (optC (S.l1Size_t (eli r0 x5.toNat)) (fun c_3 => (next_ (if c_3 < x3 then c_3 else x3, IntKind.i64.wrap (x5 + 1), r0))) fail_) else fail_) else fail_) else (out0_ x3))
theorem S.FewestEternal_step6_nat {α γ : Type} (g : α → γ) (x3 : Int) (x5 : Int) (r0 : List Int) (next_ : Int × Int × (List Int) → α) (out0_ : Int → α) (fail_ : α) : g (S.FewestEternal_step6 x3 x5 r0 next_ out0_ fail_) = S.FewestEternal_step6 x3 x5 r0 (fun s => g (next_ s)) (fun d => g (out0_ d)) (g fail_) := by
  unfold S.FewestEternal_step6; simp only [apply_cnd g, apply_optC g, apply_sumC g]
noncomputable def S.FewestEternal_run6 : Nat → Int × Int × (List Int) → Option (Int)
  | 0, _ => none
  | n + 1, s_ => S.FewestEternal_step6 s_.1 s_.2.1 s_.2.2 (S.FewestEternal_run6 n) (fun d => some d) none
theorem S.FewestEternal_L6_run (n : Nat) (s_ : Int × Int × (List Int)) (k : X → St → R) : S.FewestEternal_L6 n { n := 27, t := [(3, (.int .i64 s_.1)), (4, (.own 0)), (5, (.int .i64 s_.2.1))], h := [.row (.ints .i64 s_.2.2)] } k = optC (S.FewestEternal_run6 n s_) (fun (r : Int) => k (.exit 0) { n := 27, t := [(3, (.int .i64 r))], h := [] }) none := by
  induction n generalizing s_ with
  | zero => rfl
  | succ n ih =>
    have hu : S.FewestEternal_L6 (n + 1) { n := 27, t := [(3, (.int .i64 s_.1)), (4, (.own 0)), (5, (.int .i64 s_.2.1))], h := [.row (.ints .i64 s_.2.2)] } k = S.FewestEternal_step6 s_.1 s_.2.1 s_.2.2 (fun s_ => S.FewestEternal_L6 n { n := 27, t := [(3, (.int .i64 s_.1)), (4, (.own 0)), (5, (.int .i64 s_.2.1))], h := [.row (.ints .i64 s_.2.2)] } k) (fun d => k (.exit 0) { n := 27, t := [(3, (.int .i64 d))], h := [] }) none := by
      kernel_rfl
    have hs : (fun s_ : Int × Int × (List Int) => S.FewestEternal_L6 n { n := 27, t := [(3, (.int .i64 s_.1)), (4, (.own 0)), (5, (.int .i64 s_.2.1))], h := [.row (.ints .i64 s_.2.2)] } k) = fun s_ => optC (S.FewestEternal_run6 n s_) (fun (r : Int) => k (.exit 0) { n := 27, t := [(3, (.int .i64 r))], h := [] }) none := funext ih
    rw [hu, hs]
    exact (S.FewestEternal_step6_nat (fun o => optC o (fun (r : Int) => k (.exit 0) { n := 27, t := [(3, (.int .i64 r))], h := [] }) none) s_.1 s_.2.1 s_.2.2 (S.FewestEternal_run6 n) (fun d => some d) none).symm
noncomputable def S.FewestEternal_tree {α : Type} (net : List Int) (leaf0_ : Int → α) (fail_ : α) : α :=
  (optC (S.NetOk_t net) (fun c_1 => (bif !c_1 then (leaf0_ (-1)) else (optC (S.EternalSets_t net) (fun c_2 => (optC (S.FewestEternal_run6 FUEL ((↑net.length : Int), 0, c_2)) (fun qy_4 => (leaf0_ qy_4)) fail_)) fail_))) fail_)
theorem S.FewestEternal_tree_nat {α γ : Type} (g : α → γ) (net : List Int) (leaf0_ : Int → α) (fail_ : α) : g (S.FewestEternal_tree net leaf0_ fail_) = S.FewestEternal_tree net (fun d => g (leaf0_ d)) (g fail_) := by
  unfold S.FewestEternal_tree; simp only [apply_cnd g, apply_optC g, apply_sumC g]
noncomputable def S.FewestEternal_t (net : List Int) : Option (Int) := S.FewestEternal_tree net (fun d => some d) none
theorem S.FewestEternal_den (net : List Int) (κ : V → List E → R) : S.FewestEternal_F [.ro false (.ints .i64 net)] [] κ = optC (S.FewestEternal_t net) (fun (r : Int) => κ (.int .i64 r) []) none := by
  have hu : S.FewestEternal_F [.ro false (.ints .i64 net)] [] κ = S.FewestEternal_tree net (fun d => κ (.int .i64 d) []) none := by
    refine Eq.trans (show S.FewestEternal_F [.ro false (.ints .i64 net)] [] κ = (optC (S.NetOk_t net) (fun c_1 => (bif !c_1 then (κ (.int .i64 (-1)) []) else (optC (S.EternalSets_t net) (fun c_2 => (S.FewestEternal_L6 FUEL { n := 27, t := [(3, (.int .i64 ((↑net.length : Int)))), (4, (.own 0)), (5, (.int .i64 0))], h := [.row (.ints .i64 c_2)] } (S.FewestEternal_k6 κ))) none))) none) by kernel_rfl) ?_
    refine optC_congr (fun c_1 => ?_)
    refine cnd_congr ?_ ?_
    · kernel_rfl
    · refine optC_congr (fun c_2 => ?_)
      refine (S.FewestEternal_L6_run FUEL ((↑net.length : Int), 0, c_2) (S.FewestEternal_k6 κ)).trans (optC_congr (fun qy_4 => ?_))
      kernel_rfl
  rw [hu]
  exact (S.FewestEternal_tree_nat (fun o => optC o (fun (r : Int) => κ (.int .i64 r) []) none) net (fun d => some d) none).symm
noncomputable def S.FewestEternal_s : D.Spec where
  keep := false
  pure := true
  ds := [.int .i64]
  sp := fun args h κ => match args, h with
    | [.ro false (.ints .i64 net)], [] => optC (S.FewestEternal_t net) (fun (r : Int) => κ (.int .i64 r) []) none
    | _, _ => none
theorem S.FewestEternal_ok : SpecOk Try.prog 33 S.FewestEternal_s := by
  refine SpecOk.of TDok mixed (T := S.FewestEternal_T) ?_ (ann := S.FewestEternal_ann) Try.func33 rfl (by decide +kernel) ?_ ?_ ?_
  · intro p hp
    simp only [S.FewestEternal_T, List.mem_cons, List.not_mem_nil, or_false] at hp
    rcases hp with rfl | rfl | rfl
    · exact S.NetOk_ok
    · exact S.EternalSets_ok
    · exact S.l1Size_ok
  · intro args h κ r hh
    simp only [S.FewestEternal_s] at hh
    split at hh
    · exact (S.FewestEternal_den _ κ).trans hh
    · cases hh
  · intro args h κ r hh
    simp only [S.FewestEternal_s] at hh ⊢
    split at hh
    · exact optC_law2 (F := fun (r : Int) κ => κ (.int .i64 r) []) (fun b κ r hb => ⟨_, _, hb, fun _ => rfl⟩) hh
    · cases hh
  · intro _ args h κ r hh
    simp only [S.FewestEternal_s] at hh
    split at hh
    · exact ⟨rfl, fun _ => rfl⟩
    · cases hh

-- loop.example/guardsonnets/impl.nextTo
noncomputable def I.nextTo_T : List (Nat × D.Spec) := [(56, I.hasPlace_s)]
def I.nextTo_ann : Nat → List Nat × List Nat
  | 3 => ([0, 1, 5, 6], [5])
  | _ => ([], [])
noncomputable def I.nextTo_F (args : List V) (h : List E) (κ : V → List E → R) : R := funC TD (tableK I.nextTo_T) I.nextTo_ann (drawOk (tableP I.nextTo_T)) FUEL Try.f77 args h κ
noncomputable def I.nextTo_L3 (n : Nat) (σ : St) (k : X → St → R) : R := iterC 0 (fun σ k => denC TD (tableK I.nextTo_T) I.nextTo_ann (drawOk (tableP I.nextTo_T)) 0 FUEL ((findLoop 3 (Try.f77.body.getD .skip)).getD .skip) σ k) [0, 1, 5, 6] [5] n σ k
noncomputable def I.nextTo_k3 (κ : V → List E → R) : X → St → R := (afterC TD (tableK I.nextTo_T) I.nextTo_ann (drawOk (tableP I.nextTo_T)) 0 FUEL 3 (Try.f77.body.getD .skip) (finC TD 0 Try.f77 κ)).getD (fun _ _ => none)
noncomputable def I.nextTo_step3 {α : Type} (x0 : List Int) (x1 : Int) (x5 : Int) (x6 : Int) (next_ : Int × Int → α) (out0_ : Int → α) (fail_ : α) : α :=
  (bif decide (x6 < (↑x0.length : Int)) then (optC (I.hasPlace_t x1 x6) (fun c_1 => (bif c_1 then (bif decide (0 ≤ x6) && decide (x6 < (↑x0.length : Int)) then (next_ (bits BinOp.or IntKind.i64 x5 (eli x0 x6.toNat), IntKind.i64.wrap (x6 + 1))) else fail_) else (next_ (x5, IntKind.i64.wrap (x6 + 1))))) fail_) else (out0_ x5))
theorem I.nextTo_step3_nat {α γ : Type} (g : α → γ) (x0 : List Int) (x1 : Int) (x5 : Int) (x6 : Int) (next_ : Int × Int → α) (out0_ : Int → α) (fail_ : α) : g (I.nextTo_step3 x0 x1 x5 x6 next_ out0_ fail_) = I.nextTo_step3 x0 x1 x5 x6 (fun s => g (next_ s)) (fun d => g (out0_ d)) (g fail_) := by
  unfold I.nextTo_step3; simp only [apply_cnd g, apply_optC g, apply_sumC g]
noncomputable def I.nextTo_run3 (x0 : List Int) (x1 : Int) : Nat → Int × Int → Option (Int)
  | 0, _ => none
  | n + 1, s_ => I.nextTo_step3 x0 x1 s_.1 s_.2 (I.nextTo_run3 x0 x1 n) (fun d => some d) none
theorem I.nextTo_L3_run (x0 : List Int) (x1 : Int) (n : Nat) (s_ : Int × Int) (k : X → St → R) : I.nextTo_L3 n { n := 23, t := [(0, (.ro false (.ints .i64 x0))), (1, (.int .i64 x1)), (5, (.int .i64 s_.1)), (6, (.int .i64 s_.2))], h := [] } k = optC (I.nextTo_run3 x0 x1 n s_) (fun (r : Int) => k (.exit 0) { n := 23, t := [(5, (.int .i64 r))], h := [] }) none := by
  induction n generalizing s_ with
  | zero => rfl
  | succ n ih =>
    have hu : I.nextTo_L3 (n + 1) { n := 23, t := [(0, (.ro false (.ints .i64 x0))), (1, (.int .i64 x1)), (5, (.int .i64 s_.1)), (6, (.int .i64 s_.2))], h := [] } k = I.nextTo_step3 x0 x1 s_.1 s_.2 (fun s_ => I.nextTo_L3 n { n := 23, t := [(0, (.ro false (.ints .i64 x0))), (1, (.int .i64 x1)), (5, (.int .i64 s_.1)), (6, (.int .i64 s_.2))], h := [] } k) (fun d => k (.exit 0) { n := 23, t := [(5, (.int .i64 d))], h := [] }) none := by
      kernel_rfl
    have hs : (fun s_ : Int × Int => I.nextTo_L3 n { n := 23, t := [(0, (.ro false (.ints .i64 x0))), (1, (.int .i64 x1)), (5, (.int .i64 s_.1)), (6, (.int .i64 s_.2))], h := [] } k) = fun s_ => optC (I.nextTo_run3 x0 x1 n s_) (fun (r : Int) => k (.exit 0) { n := 23, t := [(5, (.int .i64 r))], h := [] }) none := funext ih
    rw [hu, hs]
    exact (I.nextTo_step3_nat (fun o => optC o (fun (r : Int) => k (.exit 0) { n := 23, t := [(5, (.int .i64 r))], h := [] }) none) x0 x1 s_.1 s_.2 (I.nextTo_run3 x0 x1 n) (fun d => some d) none).symm
noncomputable def I.nextTo_tree {α : Type} (net : List Int) (set_ : Int) (leaf0_ : Int → α) (fail_ : α) : α :=
  (optC (I.nextTo_run3 net set_ FUEL (0, 0)) (fun qy_2 => (leaf0_ qy_2)) fail_)
theorem I.nextTo_tree_nat {α γ : Type} (g : α → γ) (net : List Int) (set_ : Int) (leaf0_ : Int → α) (fail_ : α) : g (I.nextTo_tree net set_ leaf0_ fail_) = I.nextTo_tree net set_ (fun d => g (leaf0_ d)) (g fail_) := by
  unfold I.nextTo_tree; simp only [apply_cnd g, apply_optC g, apply_sumC g]
noncomputable def I.nextTo_t (net : List Int) (set_ : Int) : Option (Int) := I.nextTo_tree net set_ (fun d => some d) none
theorem I.nextTo_den (net : List Int) (set_ : Int) (κ : V → List E → R) : I.nextTo_F [.ro false (.ints .i64 net), .int .i64 set_] [] κ = optC (I.nextTo_t net set_) (fun (r : Int) => κ (.int .i64 r) []) none := by
  have hu : I.nextTo_F [.ro false (.ints .i64 net), .int .i64 set_] [] κ = I.nextTo_tree net set_ (fun d => κ (.int .i64 d) []) none := by
    refine Eq.trans (show I.nextTo_F [.ro false (.ints .i64 net), .int .i64 set_] [] κ = (I.nextTo_L3 FUEL { n := 23, t := [(0, (.ro false (.ints .i64 net))), (1, (.int .i64 set_)), (5, (.int .i64 0)), (6, (.int .i64 0))], h := [] } (I.nextTo_k3 κ)) by kernel_rfl) ?_
    refine (I.nextTo_L3_run net set_ FUEL (0, 0) (I.nextTo_k3 κ)).trans (optC_congr (fun qy_2 => ?_))
    kernel_rfl
  rw [hu]
  exact (I.nextTo_tree_nat (fun o => optC o (fun (r : Int) => κ (.int .i64 r) []) none) net set_ (fun d => some d) none).symm
noncomputable def I.nextTo_s : D.Spec where
  keep := false
  pure := true
  ds := [.int .i64, .invalid]
  sp := fun args h κ => match args, h with
    | [.ro false (.ints .i64 net), .int .i64 set_], [] => optC (I.nextTo_t net set_) (fun (r : Int) => κ (.int .i64 r) []) none
    | _, _ => none
theorem I.nextTo_ok : SpecOk Try.prog 77 I.nextTo_s := by
  refine SpecOk.of TDok mixed (T := I.nextTo_T) ?_ (ann := I.nextTo_ann) Try.func77 rfl (by decide +kernel) ?_ ?_ ?_
  · intro p hp
    simp only [I.nextTo_T, List.mem_cons, List.not_mem_nil, or_false] at hp
    rcases hp with rfl
    · exact I.hasPlace_ok
  · intro args h κ r hh
    simp only [I.nextTo_s] at hh
    split at hh
    · exact (I.nextTo_den _ _ κ).trans hh
    · cases hh
  · intro args h κ r hh
    simp only [I.nextTo_s] at hh ⊢
    split at hh
    · exact optC_law2 (F := fun (r : Int) κ => κ (.int .i64 r) []) (fun b κ r hb => ⟨_, _, hb, fun _ => rfl⟩) hh
    · cases hh
  · intro _ args h κ r hh
    simp only [I.nextTo_s] at hh
    split at hh
    · exact ⟨rfl, fun _ => rfl⟩
    · cases hh

-- loop.example/guardsonnets/impl.apartIn
noncomputable def I.apartIn_T : List (Nat × D.Spec) := [(77, I.nextTo_s)]
def I.apartIn_ann : Nat → List Nat × List Nat
  | _ => ([], [])
noncomputable def I.apartIn_F (args : List V) (h : List E) (κ : V → List E → R) : R := funC TD (tableK I.apartIn_T) I.apartIn_ann (drawOk (tableP I.apartIn_T)) FUEL Try.f61 args h κ
noncomputable def I.apartIn_tree {α : Type} (net : List Int) (set_ : Int) (leaf0_ : Bool → α) (fail_ : α) : α :=
  (optC (I.nextTo_t net set_) (fun c_1 => (leaf0_ (bits BinOp.and IntKind.i64 set_ c_1 == 0))) fail_)
theorem I.apartIn_tree_nat {α γ : Type} (g : α → γ) (net : List Int) (set_ : Int) (leaf0_ : Bool → α) (fail_ : α) : g (I.apartIn_tree net set_ leaf0_ fail_) = I.apartIn_tree net set_ (fun d => g (leaf0_ d)) (g fail_) := by
  unfold I.apartIn_tree; simp only [apply_cnd g, apply_optC g, apply_sumC g]
noncomputable def I.apartIn_t (net : List Int) (set_ : Int) : Option (Bool) := I.apartIn_tree net set_ (fun d => some d) none
theorem I.apartIn_den (net : List Int) (set_ : Int) (κ : V → List E → R) : I.apartIn_F [.ro false (.ints .i64 net), .int .i64 set_] [] κ = optC (I.apartIn_t net set_) (fun (r : Bool) => κ (.bool r) []) none := by
  have hu : I.apartIn_F [.ro false (.ints .i64 net), .int .i64 set_] [] κ = I.apartIn_tree net set_ (fun d => κ (.bool d) []) none := by
    kernel_rfl
  rw [hu]
  exact (I.apartIn_tree_nat (fun o => optC o (fun (r : Bool) => κ (.bool r) []) none) net set_ (fun d => some d) none).symm
noncomputable def I.apartIn_s : D.Spec where
  keep := false
  pure := true
  ds := [.int .i64, .invalid]
  sp := fun args h κ => match args, h with
    | [.ro false (.ints .i64 net), .int .i64 set_], [] => optC (I.apartIn_t net set_) (fun (r : Bool) => κ (.bool r) []) none
    | _, _ => none
theorem I.apartIn_ok : SpecOk Try.prog 61 I.apartIn_s := by
  refine SpecOk.of TDok mixed (T := I.apartIn_T) ?_ (ann := I.apartIn_ann) Try.func61 rfl (by decide +kernel) ?_ ?_ ?_
  · intro p hp
    simp only [I.apartIn_T, List.mem_cons, List.not_mem_nil, or_false] at hp
    rcases hp with rfl
    · exact I.nextTo_ok
  · intro args h κ r hh
    simp only [I.apartIn_s] at hh
    split at hh
    · exact (I.apartIn_den _ _ κ).trans hh
    · cases hh
  · intro args h κ r hh
    simp only [I.apartIn_s] at hh ⊢
    split at hh
    · exact optC_law2 (F := fun (r : Bool) κ => κ (.bool r) []) (fun b κ r hb => ⟨_, _, hb, fun _ => rfl⟩) hh
    · cases hh
  · intro _ args h κ r hh
    simp only [I.apartIn_s] at hh
    split at hh
    · exact ⟨rfl, fun _ => rfl⟩
    · cases hh

-- loop.example/guardsonnets/impl.MostApart
noncomputable def I.MostApart_T : List (Nat × D.Spec) := [(26, I.NetOk_s), (54, I.allOf_s), (60, I.sizeOf_s), (61, I.apartIn_s)]
def I.MostApart_ann : Nat → List Nat × List Nat
  | 5 => ([0, 3, 4], [3])
  | _ => ([], [])
noncomputable def I.MostApart_F (args : List V) (h : List E) (κ : V → List E → R) : R := funC TD (tableK I.MostApart_T) I.MostApart_ann (drawOk (tableP I.MostApart_T)) FUEL Try.f34 args h κ
noncomputable def I.MostApart_L5 (n : Nat) (σ : St) (k : X → St → R) : R := iterC 0 (fun σ k => denC TD (tableK I.MostApart_T) I.MostApart_ann (drawOk (tableP I.MostApart_T)) 0 FUEL ((findLoop 5 (Try.f34.body.getD .skip)).getD .skip) σ k) [0, 3, 4] [3] n σ k
noncomputable def I.MostApart_k5 (κ : V → List E → R) : X → St → R := (afterC TD (tableK I.MostApart_T) I.MostApart_ann (drawOk (tableP I.MostApart_T)) 0 FUEL 5 (Try.f34.body.getD .skip) (finC TD 0 Try.f34 κ)).getD (fun _ _ => none)
noncomputable def I.MostApart_step5 {α : Type} (x0 : List Int) (x3 : Int) (x4 : Int) (next_ : Int × Int → α) (out0_ : Int → α) (fail_ : α) : α :=
  (optC (I.allOf_t x0) (fun c_2 => (bif decide (x4 ≤ c_2) then (optC (I.sizeOf_t x4) (fun c_3 => (bif decide (c_3 > x3) then (optC (I.apartIn_t x0 x4) (fun c_4 => (bif c_4 then (optC (I.sizeOf_t x4) (fun c_5 => (next_ (c_5, IntKind.i64.wrap (x4 + 1)))) fail_) else (next_ (x3, IntKind.i64.wrap (x4 + 1))))) fail_) else (next_ (x3, IntKind.i64.wrap (x4 + 1))))) fail_) else (out0_ x3))) fail_)
theorem I.MostApart_step5_nat {α γ : Type} (g : α → γ) (x0 : List Int) (x3 : Int) (x4 : Int) (next_ : Int × Int → α) (out0_ : Int → α) (fail_ : α) : g (I.MostApart_step5 x0 x3 x4 next_ out0_ fail_) = I.MostApart_step5 x0 x3 x4 (fun s => g (next_ s)) (fun d => g (out0_ d)) (g fail_) := by
  unfold I.MostApart_step5; simp only [apply_cnd g, apply_optC g, apply_sumC g]
noncomputable def I.MostApart_run5 (x0 : List Int) : Nat → Int × Int → Option (Int)
  | 0, _ => none
  | n + 1, s_ => I.MostApart_step5 x0 s_.1 s_.2 (I.MostApart_run5 x0 n) (fun d => some d) none
theorem I.MostApart_L5_run (x0 : List Int) (n : Nat) (s_ : Int × Int) (k : X → St → R) : I.MostApart_L5 n { n := 26, t := [(0, (.ro false (.ints .i64 x0))), (3, (.int .i64 s_.1)), (4, (.int .i64 s_.2))], h := [] } k = optC (I.MostApart_run5 x0 n s_) (fun (r : Int) => k (.exit 0) { n := 26, t := [(3, (.int .i64 r))], h := [] }) none := by
  induction n generalizing s_ with
  | zero => rfl
  | succ n ih =>
    have hu : I.MostApart_L5 (n + 1) { n := 26, t := [(0, (.ro false (.ints .i64 x0))), (3, (.int .i64 s_.1)), (4, (.int .i64 s_.2))], h := [] } k = I.MostApart_step5 x0 s_.1 s_.2 (fun s_ => I.MostApart_L5 n { n := 26, t := [(0, (.ro false (.ints .i64 x0))), (3, (.int .i64 s_.1)), (4, (.int .i64 s_.2))], h := [] } k) (fun d => k (.exit 0) { n := 26, t := [(3, (.int .i64 d))], h := [] }) none := by
      kernel_rfl
    have hs : (fun s_ : Int × Int => I.MostApart_L5 n { n := 26, t := [(0, (.ro false (.ints .i64 x0))), (3, (.int .i64 s_.1)), (4, (.int .i64 s_.2))], h := [] } k) = fun s_ => optC (I.MostApart_run5 x0 n s_) (fun (r : Int) => k (.exit 0) { n := 26, t := [(3, (.int .i64 r))], h := [] }) none := funext ih
    rw [hu, hs]
    exact (I.MostApart_step5_nat (fun o => optC o (fun (r : Int) => k (.exit 0) { n := 26, t := [(3, (.int .i64 r))], h := [] }) none) x0 s_.1 s_.2 (I.MostApart_run5 x0 n) (fun d => some d) none).symm
noncomputable def I.MostApart_tree {α : Type} (net : List Int) (leaf0_ : Int → α) (fail_ : α) : α :=
  (optC (I.NetOk_t net) (fun c_1 => (bif !c_1 then (leaf0_ (-1)) else (optC (I.MostApart_run5 net FUEL (0, 0)) (fun qy_6 => (leaf0_ qy_6)) fail_))) fail_)
theorem I.MostApart_tree_nat {α γ : Type} (g : α → γ) (net : List Int) (leaf0_ : Int → α) (fail_ : α) : g (I.MostApart_tree net leaf0_ fail_) = I.MostApart_tree net (fun d => g (leaf0_ d)) (g fail_) := by
  unfold I.MostApart_tree; simp only [apply_cnd g, apply_optC g, apply_sumC g]
noncomputable def I.MostApart_t (net : List Int) : Option (Int) := I.MostApart_tree net (fun d => some d) none
theorem I.MostApart_den (net : List Int) (κ : V → List E → R) : I.MostApart_F [.ro false (.ints .i64 net)] [] κ = optC (I.MostApart_t net) (fun (r : Int) => κ (.int .i64 r) []) none := by
  have hu : I.MostApart_F [.ro false (.ints .i64 net)] [] κ = I.MostApart_tree net (fun d => κ (.int .i64 d) []) none := by
    refine Eq.trans (show I.MostApart_F [.ro false (.ints .i64 net)] [] κ = (optC (I.NetOk_t net) (fun c_1 => (bif !c_1 then (κ (.int .i64 (-1)) []) else (I.MostApart_L5 FUEL { n := 26, t := [(0, (.ro false (.ints .i64 net))), (3, (.int .i64 0)), (4, (.int .i64 0))], h := [] } (I.MostApart_k5 κ)))) none) by kernel_rfl) ?_
    refine optC_congr (fun c_1 => ?_)
    refine cnd_congr ?_ ?_
    · kernel_rfl
    · refine (I.MostApart_L5_run net FUEL (0, 0) (I.MostApart_k5 κ)).trans (optC_congr (fun qy_6 => ?_))
      kernel_rfl
  rw [hu]
  exact (I.MostApart_tree_nat (fun o => optC o (fun (r : Int) => κ (.int .i64 r) []) none) net (fun d => some d) none).symm
noncomputable def I.MostApart_s : D.Spec where
  keep := false
  pure := true
  ds := [.int .i64]
  sp := fun args h κ => match args, h with
    | [.ro false (.ints .i64 net)], [] => optC (I.MostApart_t net) (fun (r : Int) => κ (.int .i64 r) []) none
    | _, _ => none
theorem I.MostApart_ok : SpecOk Try.prog 34 I.MostApart_s := by
  refine SpecOk.of TDok mixed (T := I.MostApart_T) ?_ (ann := I.MostApart_ann) Try.func34 rfl (by decide +kernel) ?_ ?_ ?_
  · intro p hp
    simp only [I.MostApart_T, List.mem_cons, List.not_mem_nil, or_false] at hp
    rcases hp with rfl | rfl | rfl | rfl
    · exact I.NetOk_ok
    · exact I.allOf_ok
    · exact I.sizeOf_ok
    · exact I.apartIn_ok
  · intro args h κ r hh
    simp only [I.MostApart_s] at hh
    split at hh
    · exact (I.MostApart_den _ κ).trans hh
    · cases hh
  · intro args h κ r hh
    simp only [I.MostApart_s] at hh ⊢
    split at hh
    · exact optC_law2 (F := fun (r : Int) κ => κ (.int .i64 r) []) (fun b κ r hb => ⟨_, _, hb, fun _ => rfl⟩) hh
    · cases hh
  · intro _ args h κ r hh
    simp only [I.MostApart_s] at hh
    split at hh
    · exact ⟨rfl, fun _ => rfl⟩
    · cases hh

-- loop.example/guardsonnets/impl.FewestSecure
noncomputable def I.FewestSecure_T : List (Nat × D.Spec) := [(26, I.NetOk_s), (54, I.allOf_s), (52, I.secureIn_s), (60, I.sizeOf_s), (62, I.fewerOf_s)]
def I.FewestSecure_ann : Nat → List Nat × List Nat
  | 5 => ([0, 3, 4], [3])
  | _ => ([], [])
noncomputable def I.FewestSecure_F (args : List V) (h : List E) (κ : V → List E → R) : R := funC TD (tableK I.FewestSecure_T) I.FewestSecure_ann (drawOk (tableP I.FewestSecure_T)) FUEL Try.f35 args h κ
noncomputable def I.FewestSecure_L5 (n : Nat) (σ : St) (k : X → St → R) : R := iterC 0 (fun σ k => denC TD (tableK I.FewestSecure_T) I.FewestSecure_ann (drawOk (tableP I.FewestSecure_T)) 0 FUEL ((findLoop 5 (Try.f35.body.getD .skip)).getD .skip) σ k) [0, 3, 4] [3] n σ k
noncomputable def I.FewestSecure_k5 (κ : V → List E → R) : X → St → R := (afterC TD (tableK I.FewestSecure_T) I.FewestSecure_ann (drawOk (tableP I.FewestSecure_T)) 0 FUEL 5 (Try.f35.body.getD .skip) (finC TD 0 Try.f35 κ)).getD (fun _ _ => none)
noncomputable def I.FewestSecure_step5 {α : Type} (x0 : List Int) (x3 : Int) (x4 : Int) (next_ : Int × Int → α) (out0_ : Int → α) (fail_ : α) : α :=
  (optC (I.allOf_t x0) (fun c_2 => (bif decide (x4 ≤ c_2) then (optC (I.secureIn_t x0 x4) (fun c_3 => (bif c_3 then (optC (I.sizeOf_t x4) (fun c_4 => (optC (I.fewerOf_t x3 c_4) (fun c_5 => (next_ (c_5, IntKind.i64.wrap (x4 + 1)))) fail_)) fail_) else (next_ (x3, IntKind.i64.wrap (x4 + 1))))) fail_) else (out0_ x3))) fail_)
theorem I.FewestSecure_step5_nat {α γ : Type} (g : α → γ) (x0 : List Int) (x3 : Int) (x4 : Int) (next_ : Int × Int → α) (out0_ : Int → α) (fail_ : α) : g (I.FewestSecure_step5 x0 x3 x4 next_ out0_ fail_) = I.FewestSecure_step5 x0 x3 x4 (fun s => g (next_ s)) (fun d => g (out0_ d)) (g fail_) := by
  unfold I.FewestSecure_step5; simp only [apply_cnd g, apply_optC g, apply_sumC g]
noncomputable def I.FewestSecure_run5 (x0 : List Int) : Nat → Int × Int → Option (Int)
  | 0, _ => none
  | n + 1, s_ => I.FewestSecure_step5 x0 s_.1 s_.2 (I.FewestSecure_run5 x0 n) (fun d => some d) none
theorem I.FewestSecure_L5_run (x0 : List Int) (n : Nat) (s_ : Int × Int) (k : X → St → R) : I.FewestSecure_L5 n { n := 22, t := [(0, (.ro false (.ints .i64 x0))), (3, (.int .i64 s_.1)), (4, (.int .i64 s_.2))], h := [] } k = optC (I.FewestSecure_run5 x0 n s_) (fun (r : Int) => k (.exit 0) { n := 22, t := [(3, (.int .i64 r))], h := [] }) none := by
  induction n generalizing s_ with
  | zero => rfl
  | succ n ih =>
    have hu : I.FewestSecure_L5 (n + 1) { n := 22, t := [(0, (.ro false (.ints .i64 x0))), (3, (.int .i64 s_.1)), (4, (.int .i64 s_.2))], h := [] } k = I.FewestSecure_step5 x0 s_.1 s_.2 (fun s_ => I.FewestSecure_L5 n { n := 22, t := [(0, (.ro false (.ints .i64 x0))), (3, (.int .i64 s_.1)), (4, (.int .i64 s_.2))], h := [] } k) (fun d => k (.exit 0) { n := 22, t := [(3, (.int .i64 d))], h := [] }) none := by
      kernel_rfl
    have hs : (fun s_ : Int × Int => I.FewestSecure_L5 n { n := 22, t := [(0, (.ro false (.ints .i64 x0))), (3, (.int .i64 s_.1)), (4, (.int .i64 s_.2))], h := [] } k) = fun s_ => optC (I.FewestSecure_run5 x0 n s_) (fun (r : Int) => k (.exit 0) { n := 22, t := [(3, (.int .i64 r))], h := [] }) none := funext ih
    rw [hu, hs]
    exact (I.FewestSecure_step5_nat (fun o => optC o (fun (r : Int) => k (.exit 0) { n := 22, t := [(3, (.int .i64 r))], h := [] }) none) x0 s_.1 s_.2 (I.FewestSecure_run5 x0 n) (fun d => some d) none).symm
noncomputable def I.FewestSecure_tree {α : Type} (net : List Int) (leaf0_ : Int → α) (fail_ : α) : α :=
  (optC (I.NetOk_t net) (fun c_1 => (bif !c_1 then (leaf0_ (-1)) else (optC (I.FewestSecure_run5 net FUEL (-1, 0)) (fun qy_6 => (leaf0_ qy_6)) fail_))) fail_)
theorem I.FewestSecure_tree_nat {α γ : Type} (g : α → γ) (net : List Int) (leaf0_ : Int → α) (fail_ : α) : g (I.FewestSecure_tree net leaf0_ fail_) = I.FewestSecure_tree net (fun d => g (leaf0_ d)) (g fail_) := by
  unfold I.FewestSecure_tree; simp only [apply_cnd g, apply_optC g, apply_sumC g]
noncomputable def I.FewestSecure_t (net : List Int) : Option (Int) := I.FewestSecure_tree net (fun d => some d) none
theorem I.FewestSecure_den (net : List Int) (κ : V → List E → R) : I.FewestSecure_F [.ro false (.ints .i64 net)] [] κ = optC (I.FewestSecure_t net) (fun (r : Int) => κ (.int .i64 r) []) none := by
  have hu : I.FewestSecure_F [.ro false (.ints .i64 net)] [] κ = I.FewestSecure_tree net (fun d => κ (.int .i64 d) []) none := by
    refine Eq.trans (show I.FewestSecure_F [.ro false (.ints .i64 net)] [] κ = (optC (I.NetOk_t net) (fun c_1 => (bif !c_1 then (κ (.int .i64 (-1)) []) else (I.FewestSecure_L5 FUEL { n := 22, t := [(0, (.ro false (.ints .i64 net))), (3, (.int .i64 (-1))), (4, (.int .i64 0))], h := [] } (I.FewestSecure_k5 κ)))) none) by kernel_rfl) ?_
    refine optC_congr (fun c_1 => ?_)
    refine cnd_congr ?_ ?_
    · kernel_rfl
    · refine (I.FewestSecure_L5_run net FUEL (-1, 0) (I.FewestSecure_k5 κ)).trans (optC_congr (fun qy_6 => ?_))
      kernel_rfl
  rw [hu]
  exact (I.FewestSecure_tree_nat (fun o => optC o (fun (r : Int) => κ (.int .i64 r) []) none) net (fun d => some d) none).symm
noncomputable def I.FewestSecure_s : D.Spec where
  keep := false
  pure := true
  ds := [.int .i64]
  sp := fun args h κ => match args, h with
    | [.ro false (.ints .i64 net)], [] => optC (I.FewestSecure_t net) (fun (r : Int) => κ (.int .i64 r) []) none
    | _, _ => none
theorem I.FewestSecure_ok : SpecOk Try.prog 35 I.FewestSecure_s := by
  refine SpecOk.of TDok mixed (T := I.FewestSecure_T) ?_ (ann := I.FewestSecure_ann) Try.func35 rfl (by decide +kernel) ?_ ?_ ?_
  · intro p hp
    simp only [I.FewestSecure_T, List.mem_cons, List.not_mem_nil, or_false] at hp
    rcases hp with rfl | rfl | rfl | rfl | rfl
    · exact I.NetOk_ok
    · exact I.allOf_ok
    · exact I.secureIn_ok
    · exact I.sizeOf_ok
    · exact I.fewerOf_ok
  · intro args h κ r hh
    simp only [I.FewestSecure_s] at hh
    split at hh
    · exact (I.FewestSecure_den _ κ).trans hh
    · cases hh
  · intro args h κ r hh
    simp only [I.FewestSecure_s] at hh ⊢
    split at hh
    · exact optC_law2 (F := fun (r : Int) κ => κ (.int .i64 r) []) (fun b κ r hb => ⟨_, _, hb, fun _ => rfl⟩) hh
    · cases hh
  · intro _ args h κ r hh
    simp only [I.FewestSecure_s] at hh
    split at hh
    · exact ⟨rfl, fun _ => rfl⟩
    · cases hh

-- loop.example/guardsonnets/laws.FnFewestEternal
noncomputable def L.FnFewestEternal_T : List (Nat × D.Spec) := [(31, S.DrawFewestEternal_s), (32, I.FewestEternal_s), (33, S.FewestEternal_s), (26, I.NetOk_s), (16, L.alive_s), (34, I.MostApart_s), (35, I.FewestSecure_s)]
def L.FnFewestEternal_ann : Nat → List Nat × List Nat
  | _ => ([], [])
noncomputable def L.FnFewestEternal_F (args : List V) (h : List E) (κ : V → List E → R) : R := funC TD (tableK L.FnFewestEternal_T) L.FnFewestEternal_ann (drawOk (tableP L.FnFewestEternal_T)) FUEL Try.f7 args h κ
noncomputable def L.FnFewestEternal_tree {α : Type} (code : List Int) (leaf0_ : Bool → α) (fail_ : α) : α :=
  (bif decide ((↑code.length : Int) > 1048576) then (leaf0_ true) else (optC (S.DrawFewestEternal_t code) (fun c_1 => (optC (I.FewestEternal_t c_1) (fun c_2 => (optC (S.FewestEternal_t c_1) (fun c_3 => (bif !c_2 == c_3 then (leaf0_ false) else (bif decide (c_2 < 0) then (bif c_2 == -1 then (optC (I.NetOk_t c_1) (fun c_4 => (bif !c_4 then (optC (L.alive_t) (fun c_5 => (leaf0_ c_5)) fail_) else (leaf0_ false))) fail_) else (leaf0_ false)) else (optC (I.MostApart_t c_1) (fun c_6 => (bif decide (c_2 ≥ c_6) then (optC (I.FewestSecure_t c_1) (fun c_7 => (bif decide (c_2 ≥ c_7) then (bif decide (IntKind.i64.wrap (2 * c_2) ≤ IntKind.i64.wrap (c_6 * IntKind.i64.wrap (c_6 + 1))) then (leaf0_ (decide (c_2 ≤ (↑c_1.length : Int)))) else (leaf0_ false)) else (leaf0_ false))) fail_) else (leaf0_ false))) fail_)))) fail_)) fail_)) fail_))
theorem L.FnFewestEternal_tree_nat {α γ : Type} (g : α → γ) (code : List Int) (leaf0_ : Bool → α) (fail_ : α) : g (L.FnFewestEternal_tree code leaf0_ fail_) = L.FnFewestEternal_tree code (fun d => g (leaf0_ d)) (g fail_) := by
  unfold L.FnFewestEternal_tree; simp only [apply_cnd g, apply_optC g, apply_sumC g]
noncomputable def L.FnFewestEternal_t (code : List Int) : Option (Bool) := L.FnFewestEternal_tree code (fun d => some d) none
theorem L.FnFewestEternal_den (code : List Int) (κ : V → List E → R) : L.FnFewestEternal_F [.ro true (.ints .u8 code)] [] κ = optC (L.FnFewestEternal_t code) (fun (r : Bool) => κ (.bool r) []) none := by
  have hu : L.FnFewestEternal_F [.ro true (.ints .u8 code)] [] κ = L.FnFewestEternal_tree code (fun d => κ (.bool d) []) none := by
    kernel_rfl
  rw [hu]
  exact (L.FnFewestEternal_tree_nat (fun o => optC o (fun (r : Bool) => κ (.bool r) []) none) code (fun d => some d) none).symm
noncomputable def L.FnFewestEternal_s : D.Spec where
  keep := true
  pure := true
  ds := [.int .u8]
  sp := fun args h κ => match args, h with
    | [.ro true (.ints .u8 code)], [] => optC (L.FnFewestEternal_t code) (fun (r : Bool) => κ (.bool r) []) none
    | _, _ => none
theorem L.FnFewestEternal_ok : SpecOk Try.prog 7 L.FnFewestEternal_s := by
  refine SpecOk.of TDok mixed (T := L.FnFewestEternal_T) ?_ (ann := L.FnFewestEternal_ann) Try.func7 rfl (by decide +kernel) ?_ ?_ ?_
  · intro p hp
    simp only [L.FnFewestEternal_T, List.mem_cons, List.not_mem_nil, or_false] at hp
    rcases hp with rfl | rfl | rfl | rfl | rfl | rfl | rfl
    · exact S.DrawFewestEternal_ok
    · exact I.FewestEternal_ok
    · exact S.FewestEternal_ok
    · exact I.NetOk_ok
    · exact L.alive_ok
    · exact I.MostApart_ok
    · exact I.FewestSecure_ok
  · intro args h κ r hh
    simp only [L.FnFewestEternal_s] at hh
    split at hh
    · exact (L.FnFewestEternal_den _ κ).trans hh
    · cases hh
  · intro args h κ r hh
    simp only [L.FnFewestEternal_s] at hh ⊢
    split at hh
    · exact optC_law2 (F := fun (r : Bool) κ => κ (.bool r) []) (fun b κ r hb => ⟨_, _, hb, fun _ => rfl⟩) hh
    · cases hh
  · intro _ args h κ r hh
    simp only [L.FnFewestEternal_s] at hh
    split at hh
    · exact ⟨rfl, fun _ => rfl⟩
    · cases hh

-- loop.example/guardsonnets/laws.FnExactFewestEternal
noncomputable def L.FnExactFewestEternal_T : List (Nat × D.Spec) := [(20, L.toIntS_s), (33, S.FewestEternal_s), (32, I.FewestEternal_s), (21, L.eqIntS_s)]
def L.FnExactFewestEternal_ann : Nat → List Nat × List Nat
  | _ => ([], [])
noncomputable def L.FnExactFewestEternal_F (args : List V) (h : List E) (κ : V → List E → R) : R := funC TD (tableK L.FnExactFewestEternal_T) L.FnExactFewestEternal_ann (drawOk (tableP L.FnExactFewestEternal_T)) FUEL Try.f8 args h κ
noncomputable def L.FnExactFewestEternal_tree {α : Type} (aNet : List Int) (leaf0_ : Bool → α) (fail_ : α) : α :=
  (bif decide ((↑aNet.length : Int) > 1048576) then (leaf0_ true) else (optC (L.toIntS_t aNet) (fun c_1 => (optC (S.FewestEternal_t c_1) (fun c_2 => (optC (L.toIntS_t aNet) (fun c_3 => (optC (I.FewestEternal_t c_3) (fun c_4 => (bif !c_4 == c_2 then (leaf0_ false) else (optC (L.toIntS_t aNet) (fun c_5 => (optC (L.eqIntS_t c_3 c_5) (fun c_6 => (bif !c_6 then (leaf0_ false) else (leaf0_ true))) fail_)) fail_))) fail_)) fail_)) fail_)) fail_))
theorem L.FnExactFewestEternal_tree_nat {α γ : Type} (g : α → γ) (aNet : List Int) (leaf0_ : Bool → α) (fail_ : α) : g (L.FnExactFewestEternal_tree aNet leaf0_ fail_) = L.FnExactFewestEternal_tree aNet (fun d => g (leaf0_ d)) (g fail_) := by
  unfold L.FnExactFewestEternal_tree; simp only [apply_cnd g, apply_optC g, apply_sumC g]
noncomputable def L.FnExactFewestEternal_t (aNet : List Int) : Option (Bool) := L.FnExactFewestEternal_tree aNet (fun d => some d) none
theorem L.FnExactFewestEternal_den (aNet : List Int) (κ : V → List E → R) : L.FnExactFewestEternal_F [.ro true (.ints .i64 aNet)] [] κ = optC (L.FnExactFewestEternal_t aNet) (fun (r : Bool) => κ (.bool r) []) none := by
  have hu : L.FnExactFewestEternal_F [.ro true (.ints .i64 aNet)] [] κ = L.FnExactFewestEternal_tree aNet (fun d => κ (.bool d) []) none := by
    kernel_rfl
  rw [hu]
  exact (L.FnExactFewestEternal_tree_nat (fun o => optC o (fun (r : Bool) => κ (.bool r) []) none) aNet (fun d => some d) none).symm
noncomputable def L.FnExactFewestEternal_s : D.Spec where
  keep := true
  pure := true
  ds := [.int .i64]
  sp := fun args h κ => match args, h with
    | [.ro true (.ints .i64 aNet)], [] => optC (L.FnExactFewestEternal_t aNet) (fun (r : Bool) => κ (.bool r) []) none
    | _, _ => none
theorem L.FnExactFewestEternal_ok : SpecOk Try.prog 8 L.FnExactFewestEternal_s := by
  refine SpecOk.of TDok mixed (T := L.FnExactFewestEternal_T) ?_ (ann := L.FnExactFewestEternal_ann) Try.func8 rfl (by decide +kernel) ?_ ?_ ?_
  · intro p hp
    simp only [L.FnExactFewestEternal_T, List.mem_cons, List.not_mem_nil, or_false] at hp
    rcases hp with rfl | rfl | rfl | rfl
    · exact L.toIntS_ok
    · exact S.FewestEternal_ok
    · exact I.FewestEternal_ok
    · exact L.eqIntS_ok
  · intro args h κ r hh
    simp only [L.FnExactFewestEternal_s] at hh
    split at hh
    · exact (L.FnExactFewestEternal_den _ κ).trans hh
    · cases hh
  · intro args h κ r hh
    simp only [L.FnExactFewestEternal_s] at hh ⊢
    split at hh
    · exact optC_law2 (F := fun (r : Bool) κ => κ (.bool r) []) (fun b κ r hb => ⟨_, _, hb, fun _ => rfl⟩) hh
    · cases hh
  · intro _ args h κ r hh
    simp only [L.FnExactFewestEternal_s] at hh
    split at hh
    · exact ⟨rfl, fun _ => rfl⟩
    · cases hh

-- loop.example/guardsonnets/spec.DrawAnswerOf
noncomputable def S.DrawAnswerOf_T : List (Nat × D.Spec) := [(43, S.l20Open_s), (42, S.l20Eternal_s), (63, S.l20Rd_pick_s)]
def S.DrawAnswerOf_ann : Nat → List Nat × List Nat
  | _ => ([], [])
noncomputable def S.DrawAnswerOf_F (args : List V) (h : List E) (κ : V → List E → R) : R := funC TD (tableK S.DrawAnswerOf_T) S.DrawAnswerOf_ann (drawOk (tableP S.DrawAnswerOf_T)) FUEL Try.f36 args h κ
noncomputable def S.DrawAnswerOf_tree {α : Type} (code : List Int) (leaf0_ : Int × Int × (List Int) → α) (fail_ : α) : α :=
  (optC (S.l20Open_t code) (fun c_1 => (optC (S.l20Eternal_t c_1.fst c_1.snd 12) (fun c_2 => (optC (S.l20Rd_pick_t c_2.snd.fst c_2.snd.snd.fst (if 1 > (↑c_2.snd.snd.snd.length : Int) then 1 else (↑c_2.snd.snd.snd.length : Int))) (fun c_3 => (optC (S.l20Rd_pick_t c_3.snd.fst c_3.snd.snd 40) (fun c_4 => (leaf0_ (c_2.fst, IntKind.i64.wrap (c_3.fst + IntKind.i64.wrap (IntKind.i64.wrap (c_4.fst.tdiv 39) * 6)), c_2.snd.snd.snd))) fail_)) fail_)) fail_)) fail_)
theorem S.DrawAnswerOf_tree_nat {α γ : Type} (g : α → γ) (code : List Int) (leaf0_ : Int × Int × (List Int) → α) (fail_ : α) : g (S.DrawAnswerOf_tree code leaf0_ fail_) = S.DrawAnswerOf_tree code (fun d => g (leaf0_ d)) (g fail_) := by
  unfold S.DrawAnswerOf_tree; simp only [apply_cnd g, apply_optC g, apply_sumC g]
noncomputable def S.DrawAnswerOf_t (code : List Int) : Option (Int × Int × (List Int)) := S.DrawAnswerOf_tree code (fun d => some d) none
theorem S.DrawAnswerOf_den (code : List Int) (κ : V → List E → R) : S.DrawAnswerOf_F [.ro true (.ints .u8 code)] [] κ = optC (S.DrawAnswerOf_t code) (fun (r : Int × Int × (List Int)) => κ (.tup [(.own 0), (.int .i64 r.1), (.int .i64 r.2.1)]) [.row (.ints .i64 r.2.2)]) none := by
  have hu : S.DrawAnswerOf_F [.ro true (.ints .u8 code)] [] κ = S.DrawAnswerOf_tree code (fun d => κ (.tup [(.own 0), (.int .i64 d.1), (.int .i64 d.2.1)]) [.row (.ints .i64 d.2.2)]) none := by
    kernel_rfl
  rw [hu]
  exact (S.DrawAnswerOf_tree_nat (fun o => optC o (fun (r : Int × Int × (List Int)) => κ (.tup [(.own 0), (.int .i64 r.1), (.int .i64 r.2.1)]) [.row (.ints .i64 r.2.2)]) none) code (fun d => some d) none).symm
noncomputable def S.DrawAnswerOf_s : D.Spec where
  keep := true
  pure := false
  ds := [.int .u8]
  sp := fun args h κ => match args, h with
    | [.ro true (.ints .u8 code)], [] => optC (S.DrawAnswerOf_t code) (fun (r : Int × Int × (List Int)) => κ (.tup [(.own 0), (.int .i64 r.1), (.int .i64 r.2.1)]) [.row (.ints .i64 r.2.2)]) none
    | _, _ => none
theorem S.DrawAnswerOf_ok : SpecOk Try.prog 36 S.DrawAnswerOf_s := by
  refine SpecOk.of TDok mixed (T := S.DrawAnswerOf_T) ?_ (ann := S.DrawAnswerOf_ann) Try.func36 rfl (by decide +kernel) ?_ ?_ ?_
  · intro p hp
    simp only [S.DrawAnswerOf_T, List.mem_cons, List.not_mem_nil, or_false] at hp
    rcases hp with rfl | rfl | rfl
    · exact S.l20Open_ok
    · exact S.l20Eternal_ok
    · exact S.l20Rd_pick_ok
  · intro args h κ r hh
    simp only [S.DrawAnswerOf_s] at hh
    split at hh
    · exact (S.DrawAnswerOf_den _ κ).trans hh
    · cases hh
  · intro args h κ r hh
    simp only [S.DrawAnswerOf_s] at hh ⊢
    split at hh
    · exact optC_law2 (F := fun (r : Int × Int × (List Int)) κ => κ (.tup [(.own 0), (.int .i64 r.1), (.int .i64 r.2.1)]) [.row (.ints .i64 r.2.2)]) (fun b κ r hb => ⟨_, _, hb, fun _ => rfl⟩) hh
    · cases hh
  · intro hh; cases hh

-- loop.example/guardsonnets/spec.AnswerOf
noncomputable def S.AnswerOf_T : List (Nat × D.Spec) := [(15, S.EternalOk_s), (64, S.l1In_s), (47, S.l9Lasts_s), (65, S.l9Answer_s)]
def S.AnswerOf_ann : Nat → List Nat × List Nat
  | _ => ([], [])
noncomputable def S.AnswerOf_F (args : List V) (h : List E) (κ : V → List E → R) : R := funC TD (tableK S.AnswerOf_T) S.AnswerOf_ann (drawOk (tableP S.AnswerOf_T)) FUEL Try.f37 args h κ
noncomputable def S.AnswerOf_tree {α : Type} (net : List Int) (set_ : Int) (place : Int) (leaf0_ : Int → α) (fail_ : α) : α :=
  (optC (S.EternalOk_t net set_) (fun c_1 => (bif !c_1 then (leaf0_ (-1)) else (optC (S.l1In_t place 0 (IntKind.i64.wrap ((↑net.length : Int) - 1))) (fun c_2 => (bif !c_2 then (leaf0_ (-1)) else (bif decide (place < 0) then fail_ else (bif (set_.fdiv (2 ^ min place.toNat IntKind.i64.bits)).tmod 2 == 1 then (leaf0_ (-1)) else (optC (S.l9Lasts_t net) (fun c_3 => (optC (S.l9Answer_t net c_3 set_ place) (fun c_4 => (leaf0_ c_4)) fail_)) fail_))))) fail_))) fail_)
theorem S.AnswerOf_tree_nat {α γ : Type} (g : α → γ) (net : List Int) (set_ : Int) (place : Int) (leaf0_ : Int → α) (fail_ : α) : g (S.AnswerOf_tree net set_ place leaf0_ fail_) = S.AnswerOf_tree net set_ place (fun d => g (leaf0_ d)) (g fail_) := by
  unfold S.AnswerOf_tree; simp only [apply_cnd g, apply_optC g, apply_sumC g]
noncomputable def S.AnswerOf_t (net : List Int) (set_ : Int) (place : Int) : Option (Int) := S.AnswerOf_tree net set_ place (fun d => some d) none
theorem S.AnswerOf_den (net : List Int) (set_ : Int) (place : Int) (κ : V → List E → R) : S.AnswerOf_F [.ro false (.ints .i64 net), .int .i64 set_, .int .i64 place] [] κ = optC (S.AnswerOf_t net set_ place) (fun (r : Int) => κ (.int .i64 r) []) none := by
  have hu : S.AnswerOf_F [.ro false (.ints .i64 net), .int .i64 set_, .int .i64 place] [] κ = S.AnswerOf_tree net set_ place (fun d => κ (.int .i64 d) []) none := by
    kernel_rfl
  rw [hu]
  exact (S.AnswerOf_tree_nat (fun o => optC o (fun (r : Int) => κ (.int .i64 r) []) none) net set_ place (fun d => some d) none).symm
noncomputable def S.AnswerOf_s : D.Spec where
  keep := false
  pure := true
  ds := [.int .i64, .invalid, .invalid]
  sp := fun args h κ => match args, h with
    | [.ro false (.ints .i64 net), .int .i64 set_, .int .i64 place], [] => optC (S.AnswerOf_t net set_ place) (fun (r : Int) => κ (.int .i64 r) []) none
    | _, _ => none
theorem S.AnswerOf_ok : SpecOk Try.prog 37 S.AnswerOf_s := by
  refine SpecOk.of TDok mixed (T := S.AnswerOf_T) ?_ (ann := S.AnswerOf_ann) Try.func37 rfl (by decide +kernel) ?_ ?_ ?_
  · intro p hp
    simp only [S.AnswerOf_T, List.mem_cons, List.not_mem_nil, or_false] at hp
    rcases hp with rfl | rfl | rfl | rfl
    · exact S.EternalOk_ok
    · exact S.l1In_ok
    · exact S.l9Lasts_ok
    · exact S.l9Answer_ok
  · intro args h κ r hh
    simp only [S.AnswerOf_s] at hh
    split at hh
    · exact (S.AnswerOf_den _ _ _ κ).trans hh
    · cases hh
  · intro args h κ r hh
    simp only [S.AnswerOf_s] at hh ⊢
    split at hh
    · exact optC_law2 (F := fun (r : Int) κ => κ (.int .i64 r) []) (fun b κ r hb => ⟨_, _, hb, fun _ => rfl⟩) hh
    · cases hh
  · intro _ args h κ r hh
    simp only [S.AnswerOf_s] at hh
    split at hh
    · exact ⟨rfl, fun _ => rfl⟩
    · cases hh

-- loop.example/guardsonnets/laws.FnAnswerOf
noncomputable def L.FnAnswerOf_T : List (Nat × D.Spec) := [(36, S.DrawAnswerOf_s), (18, I.AnswerOf_s), (37, S.AnswerOf_s), (16, L.alive_s), (17, I.GuardMoved_s), (14, I.EternalOk_s)]
def L.FnAnswerOf_ann : Nat → List Nat × List Nat
  | 10 => ([3, 4, 5, 6, 7], [2, 3, 4, 5, 6])
  | _ => ([], [])
noncomputable def L.FnAnswerOf_F (args : List V) (h : List E) (κ : V → List E → R) : R := funC TD (tableK L.FnAnswerOf_T) L.FnAnswerOf_ann (drawOk (tableP L.FnAnswerOf_T)) FUEL Try.f9 args h κ
noncomputable def L.FnAnswerOf_L10 (n : Nat) (σ : St) (k : X → St → R) : R := iterC 0 (fun σ k => denC TD (tableK L.FnAnswerOf_T) L.FnAnswerOf_ann (drawOk (tableP L.FnAnswerOf_T)) 0 FUEL ((findLoop 10 (Try.f9.body.getD .skip)).getD .skip) σ k) [3, 4, 5, 6, 7] [2, 3, 4, 5, 6] n σ k
noncomputable def L.FnAnswerOf_k10 (κ : V → List E → R) : X → St → R := (afterC TD (tableK L.FnAnswerOf_T) L.FnAnswerOf_ann (drawOk (tableP L.FnAnswerOf_T)) 0 FUEL 10 (Try.f9.body.getD .skip) (finC TD 0 Try.f9 κ)).getD (fun _ _ => none)
noncomputable def L.FnAnswerOf_step10 {α : Type} (x4 : Int) (x5 : Int) (x6 : Int) (x7 : Int) (r0 : List Int) (next_ : Int × (List Int) → α) (out0_ : Bool × (List Int) → α) (out1_ : List Int → α) (fail_ : α) : α :=
  (bif decide (x7 < x6) then (optC (I.GuardMoved_t r0 x4 x7 x5) (fun c_5 => (optC (I.EternalOk_t r0 c_5) (fun c_6 => (bif c_6 then (out0_ (false, r0)) else (next_ (IntKind.i64.wrap (x7 + 1), r0)))) fail_)) fail_) else (out1_ r0))
theorem L.FnAnswerOf_step10_nat {α γ : Type} (g : α → γ) (x4 : Int) (x5 : Int) (x6 : Int) (x7 : Int) (r0 : List Int) (next_ : Int × (List Int) → α) (out0_ : Bool × (List Int) → α) (out1_ : List Int → α) (fail_ : α) : g (L.FnAnswerOf_step10 x4 x5 x6 x7 r0 next_ out0_ out1_ fail_) = L.FnAnswerOf_step10 x4 x5 x6 x7 r0 (fun s => g (next_ s)) (fun d => g (out0_ d)) (fun d => g (out1_ d)) (g fail_) := by
  unfold L.FnAnswerOf_step10; simp only [apply_cnd g, apply_optC g, apply_sumC g]
noncomputable def L.FnAnswerOf_run10 (x4 : Int) (x5 : Int) (x6 : Int) : Nat → Int × (List Int) → Option ((Bool × (List Int)) ⊕ (List Int))
  | 0, _ => none
  | n + 1, s_ => L.FnAnswerOf_step10 x4 x5 x6 s_.1 s_.2 (L.FnAnswerOf_run10 x4 x5 x6 n) (fun d => some ((Sum.inl d))) (fun d => some ((Sum.inr d))) none
theorem L.FnAnswerOf_L10_run (x4 : Int) (x5 : Int) (x6 : Int) (n : Nat) (s_ : Int × (List Int)) (k : X → St → R) : L.FnAnswerOf_L10 n { n := 53, t := [(3, (.own 0)), (4, (.int .i64 x4)), (5, (.int .i64 x5)), (6, (.int .i64 x6)), (7, (.int .i64 s_.1))], h := [.row (.ints .i64 s_.2)] } k = optC (L.FnAnswerOf_run10 x4 x5 x6 n s_) (fun (r : (Bool × (List Int)) ⊕ (List Int)) => (sumC r (fun (r : Bool × (List Int)) => k (.ret) { n := 53, t := [(2, (.bool r.1)), (3, (.own 0)), (4, (.int .i64 x4)), (5, (.int .i64 x5)), (6, (.int .i64 x6))], h := [.row (.ints .i64 r.2)] }) (fun (r : List Int) => k (.exit 0) { n := 53, t := [(2, .junk), (3, (.own 0)), (4, (.int .i64 x4)), (5, (.int .i64 x5)), (6, (.int .i64 x6))], h := [.row (.ints .i64 r)] }))) none := by
  induction n generalizing s_ with
  | zero => rfl
  | succ n ih =>
    have hu : L.FnAnswerOf_L10 (n + 1) { n := 53, t := [(3, (.own 0)), (4, (.int .i64 x4)), (5, (.int .i64 x5)), (6, (.int .i64 x6)), (7, (.int .i64 s_.1))], h := [.row (.ints .i64 s_.2)] } k = L.FnAnswerOf_step10 x4 x5 x6 s_.1 s_.2 (fun s_ => L.FnAnswerOf_L10 n { n := 53, t := [(3, (.own 0)), (4, (.int .i64 x4)), (5, (.int .i64 x5)), (6, (.int .i64 x6)), (7, (.int .i64 s_.1))], h := [.row (.ints .i64 s_.2)] } k) (fun d => k (.ret) { n := 53, t := [(2, (.bool d.1)), (3, (.own 0)), (4, (.int .i64 x4)), (5, (.int .i64 x5)), (6, (.int .i64 x6))], h := [.row (.ints .i64 d.2)] }) (fun d => k (.exit 0) { n := 53, t := [(2, .junk), (3, (.own 0)), (4, (.int .i64 x4)), (5, (.int .i64 x5)), (6, (.int .i64 x6))], h := [.row (.ints .i64 d)] }) none := by
      kernel_rfl
    have hs : (fun s_ : Int × (List Int) => L.FnAnswerOf_L10 n { n := 53, t := [(3, (.own 0)), (4, (.int .i64 x4)), (5, (.int .i64 x5)), (6, (.int .i64 x6)), (7, (.int .i64 s_.1))], h := [.row (.ints .i64 s_.2)] } k) = fun s_ => optC (L.FnAnswerOf_run10 x4 x5 x6 n s_) (fun (r : (Bool × (List Int)) ⊕ (List Int)) => (sumC r (fun (r : Bool × (List Int)) => k (.ret) { n := 53, t := [(2, (.bool r.1)), (3, (.own 0)), (4, (.int .i64 x4)), (5, (.int .i64 x5)), (6, (.int .i64 x6))], h := [.row (.ints .i64 r.2)] }) (fun (r : List Int) => k (.exit 0) { n := 53, t := [(2, .junk), (3, (.own 0)), (4, (.int .i64 x4)), (5, (.int .i64 x5)), (6, (.int .i64 x6))], h := [.row (.ints .i64 r)] }))) none := funext ih
    rw [hu, hs]
    exact (L.FnAnswerOf_step10_nat (fun o => optC o (fun (r : (Bool × (List Int)) ⊕ (List Int)) => (sumC r (fun (r : Bool × (List Int)) => k (.ret) { n := 53, t := [(2, (.bool r.1)), (3, (.own 0)), (4, (.int .i64 x4)), (5, (.int .i64 x5)), (6, (.int .i64 x6))], h := [.row (.ints .i64 r.2)] }) (fun (r : List Int) => k (.exit 0) { n := 53, t := [(2, .junk), (3, (.own 0)), (4, (.int .i64 x4)), (5, (.int .i64 x5)), (6, (.int .i64 x6))], h := [.row (.ints .i64 r)] }))) none) x4 x5 x6 s_.1 s_.2 (L.FnAnswerOf_run10 x4 x5 x6 n) (fun d => some ((Sum.inl d))) (fun d => some ((Sum.inr d))) none).symm
noncomputable def L.FnAnswerOf_tree {α : Type} (code : List Int) (leaf0_ : Bool → α) (fail_ : α) : α :=
  (bif decide ((↑code.length : Int) > 1048576) then (leaf0_ true) else (optC (S.DrawAnswerOf_t code) (fun c_1 => (optC (I.AnswerOf_t c_1.snd.snd c_1.fst c_1.snd.fst) (fun c_2 => (optC (S.AnswerOf_t c_1.snd.snd c_1.fst c_1.snd.fst) (fun c_3 => (bif !c_2 == c_3 then (leaf0_ false) else (bif decide (c_2 < 0) then (bif c_2 == -1 then (optC (L.alive_t) (fun c_4 => (leaf0_ c_4)) fail_) else (leaf0_ false)) else (optC (L.FnAnswerOf_run10 c_1.fst c_1.snd.fst c_2 FUEL (0, c_1.snd.snd)) (fun qy_7 => (sumC qy_7 (fun (qy_7 : Bool × (List Int)) => (leaf0_ qy_7.1)) (fun (qy_7 : List Int) => (optC (I.GuardMoved_t qy_7 c_1.fst c_2 c_1.snd.fst) (fun c_8 => (optC (I.EternalOk_t qy_7 c_8) (fun c_9 => (leaf0_ c_9)) fail_)) fail_)))) fail_)))) fail_)) fail_)) fail_))
theorem L.FnAnswerOf_tree_nat {α γ : Type} (g : α → γ) (code : List Int) (leaf0_ : Bool → α) (fail_ : α) : g (L.FnAnswerOf_tree code leaf0_ fail_) = L.FnAnswerOf_tree code (fun d => g (leaf0_ d)) (g fail_) := by
  unfold L.FnAnswerOf_tree; simp only [apply_cnd g, apply_optC g, apply_sumC g]
noncomputable def L.FnAnswerOf_t (code : List Int) : Option (Bool) := L.FnAnswerOf_tree code (fun d => some d) none
theorem L.FnAnswerOf_den (code : List Int) (κ : V → List E → R) : L.FnAnswerOf_F [.ro true (.ints .u8 code)] [] κ = optC (L.FnAnswerOf_t code) (fun (r : Bool) => κ (.bool r) []) none := by
  have hu : L.FnAnswerOf_F [.ro true (.ints .u8 code)] [] κ = L.FnAnswerOf_tree code (fun d => κ (.bool d) []) none := by
    refine Eq.trans (show L.FnAnswerOf_F [.ro true (.ints .u8 code)] [] κ = (bif decide ((↑code.length : Int) > 1048576) then (κ (.bool true) []) else (optC (S.DrawAnswerOf_t code) (fun c_1 => (optC (I.AnswerOf_t c_1.snd.snd c_1.fst c_1.snd.fst) (fun c_2 => (optC (S.AnswerOf_t c_1.snd.snd c_1.fst c_1.snd.fst) (fun c_3 => (bif !c_2 == c_3 then (κ (.bool false) []) else (bif decide (c_2 < 0) then (bif c_2 == -1 then (optC (L.alive_t) (fun c_4 => (κ (.bool c_4) [])) none) else (κ (.bool false) [])) else (L.FnAnswerOf_L10 FUEL { n := 53, t := [(3, (.own 0)), (4, (.int .i64 c_1.fst)), (5, (.int .i64 c_1.snd.fst)), (6, (.int .i64 c_2)), (7, (.int .i64 0))], h := [.row (.ints .i64 c_1.snd.snd)] } (L.FnAnswerOf_k10 κ))))) none)) none)) none)) by kernel_rfl) ?_
    refine cnd_congr ?_ ?_
    · kernel_rfl
    · refine optC_congr (fun c_1 => ?_)
      refine optC_congr (fun c_2 => ?_)
      refine optC_congr (fun c_3 => ?_)
      refine cnd_congr ?_ ?_
      · kernel_rfl
      · refine cnd_congr ?_ ?_
        · kernel_rfl
        · refine (L.FnAnswerOf_L10_run c_1.fst c_1.snd.fst c_2 FUEL (0, c_1.snd.snd) (L.FnAnswerOf_k10 κ)).trans (optC_congr (fun qy_7 => ?_))
          rcases qy_7 with qy_7 | qy_7
          · kernel_rfl
          · kernel_rfl
  rw [hu]
  exact (L.FnAnswerOf_tree_nat (fun o => optC o (fun (r : Bool) => κ (.bool r) []) none) code (fun d => some d) none).symm
noncomputable def L.FnAnswerOf_s : D.Spec where
  keep := true
  pure := true
  ds := [.int .u8]
  sp := fun args h κ => match args, h with
    | [.ro true (.ints .u8 code)], [] => optC (L.FnAnswerOf_t code) (fun (r : Bool) => κ (.bool r) []) none
    | _, _ => none
theorem L.FnAnswerOf_ok : SpecOk Try.prog 9 L.FnAnswerOf_s := by
  refine SpecOk.of TDok mixed (T := L.FnAnswerOf_T) ?_ (ann := L.FnAnswerOf_ann) Try.func9 rfl (by decide +kernel) ?_ ?_ ?_
  · intro p hp
    simp only [L.FnAnswerOf_T, List.mem_cons, List.not_mem_nil, or_false] at hp
    rcases hp with rfl | rfl | rfl | rfl | rfl | rfl
    · exact S.DrawAnswerOf_ok
    · exact I.AnswerOf_ok
    · exact S.AnswerOf_ok
    · exact L.alive_ok
    · exact I.GuardMoved_ok
    · exact I.EternalOk_ok
  · intro args h κ r hh
    simp only [L.FnAnswerOf_s] at hh
    split at hh
    · exact (L.FnAnswerOf_den _ κ).trans hh
    · cases hh
  · intro args h κ r hh
    simp only [L.FnAnswerOf_s] at hh ⊢
    split at hh
    · exact optC_law2 (F := fun (r : Bool) κ => κ (.bool r) []) (fun b κ r hb => ⟨_, _, hb, fun _ => rfl⟩) hh
    · cases hh
  · intro _ args h κ r hh
    simp only [L.FnAnswerOf_s] at hh
    split at hh
    · exact ⟨rfl, fun _ => rfl⟩
    · cases hh

-- loop.example/guardsonnets/laws.FnExactAnswerOf
noncomputable def L.FnExactAnswerOf_T : List (Nat × D.Spec) := [(20, L.toIntS_s), (37, S.AnswerOf_s), (18, I.AnswerOf_s), (21, L.eqIntS_s)]
def L.FnExactAnswerOf_ann : Nat → List Nat × List Nat
  | _ => ([], [])
noncomputable def L.FnExactAnswerOf_F (args : List V) (h : List E) (κ : V → List E → R) : R := funC TD (tableK L.FnExactAnswerOf_T) L.FnExactAnswerOf_ann (drawOk (tableP L.FnExactAnswerOf_T)) FUEL Try.f10 args h κ
noncomputable def L.FnExactAnswerOf_tree {α : Type} (aNet : List Int) (aSet : Int) (aPlace : Int) (leaf0_ : Bool → α) (fail_ : α) : α :=
  (bif decide ((↑aNet.length : Int) > 1048576) then (leaf0_ true) else (optC (L.toIntS_t aNet) (fun c_1 => (optC (S.AnswerOf_t c_1 aSet aPlace) (fun c_2 => (optC (L.toIntS_t aNet) (fun c_3 => (optC (I.AnswerOf_t c_3 aSet aPlace) (fun c_4 => (bif !c_4 == c_2 then (leaf0_ false) else (optC (L.toIntS_t aNet) (fun c_5 => (optC (L.eqIntS_t c_3 c_5) (fun c_6 => (bif !c_6 then (leaf0_ false) else (leaf0_ true))) fail_)) fail_))) fail_)) fail_)) fail_)) fail_))
theorem L.FnExactAnswerOf_tree_nat {α γ : Type} (g : α → γ) (aNet : List Int) (aSet : Int) (aPlace : Int) (leaf0_ : Bool → α) (fail_ : α) : g (L.FnExactAnswerOf_tree aNet aSet aPlace leaf0_ fail_) = L.FnExactAnswerOf_tree aNet aSet aPlace (fun d => g (leaf0_ d)) (g fail_) := by
  unfold L.FnExactAnswerOf_tree; simp only [apply_cnd g, apply_optC g, apply_sumC g]
noncomputable def L.FnExactAnswerOf_t (aNet : List Int) (aSet : Int) (aPlace : Int) : Option (Bool) := L.FnExactAnswerOf_tree aNet aSet aPlace (fun d => some d) none
theorem L.FnExactAnswerOf_den (aNet : List Int) (aSet : Int) (aPlace : Int) (κ : V → List E → R) : L.FnExactAnswerOf_F [.ro true (.ints .i64 aNet), .int .i64 aSet, .int .i64 aPlace] [] κ = optC (L.FnExactAnswerOf_t aNet aSet aPlace) (fun (r : Bool) => κ (.bool r) []) none := by
  have hu : L.FnExactAnswerOf_F [.ro true (.ints .i64 aNet), .int .i64 aSet, .int .i64 aPlace] [] κ = L.FnExactAnswerOf_tree aNet aSet aPlace (fun d => κ (.bool d) []) none := by
    kernel_rfl
  rw [hu]
  exact (L.FnExactAnswerOf_tree_nat (fun o => optC o (fun (r : Bool) => κ (.bool r) []) none) aNet aSet aPlace (fun d => some d) none).symm
noncomputable def L.FnExactAnswerOf_s : D.Spec where
  keep := true
  pure := true
  ds := [.int .i64, .invalid, .invalid]
  sp := fun args h κ => match args, h with
    | [.ro true (.ints .i64 aNet), .int .i64 aSet, .int .i64 aPlace], [] => optC (L.FnExactAnswerOf_t aNet aSet aPlace) (fun (r : Bool) => κ (.bool r) []) none
    | _, _ => none
theorem L.FnExactAnswerOf_ok : SpecOk Try.prog 10 L.FnExactAnswerOf_s := by
  refine SpecOk.of TDok mixed (T := L.FnExactAnswerOf_T) ?_ (ann := L.FnExactAnswerOf_ann) Try.func10 rfl (by decide +kernel) ?_ ?_ ?_
  · intro p hp
    simp only [L.FnExactAnswerOf_T, List.mem_cons, List.not_mem_nil, or_false] at hp
    rcases hp with rfl | rfl | rfl | rfl
    · exact L.toIntS_ok
    · exact S.AnswerOf_ok
    · exact I.AnswerOf_ok
    · exact L.eqIntS_ok
  · intro args h κ r hh
    simp only [L.FnExactAnswerOf_s] at hh
    split at hh
    · exact (L.FnExactAnswerOf_den _ _ _ κ).trans hh
    · cases hh
  · intro args h κ r hh
    simp only [L.FnExactAnswerOf_s] at hh ⊢
    split at hh
    · exact optC_law2 (F := fun (r : Bool) κ => κ (.bool r) []) (fun b κ r hb => ⟨_, _, hb, fun _ => rfl⟩) hh
    · cases hh
  · intro _ args h κ r hh
    simp only [L.FnExactAnswerOf_s] at hh
    split at hh
    · exact ⟨rfl, fun _ => rfl⟩
    · cases hh

-- loop.example/guardsonnets/spec.DrawAnsweredAll
noncomputable def S.DrawAnsweredAll_T : List (Nat × D.Spec) := [(43, S.l20Open_s), (42, S.l20Eternal_s), (63, S.l20Rd_pick_s)]
def S.DrawAnsweredAll_ann : Nat → List Nat × List Nat
  | 5 => ([5, 6, 7, 8, 9], [5, 6, 7, 8])
  | _ => ([], [])
noncomputable def S.DrawAnsweredAll_F (args : List V) (h : List E) (κ : V → List E → R) : R := funC TD (tableK S.DrawAnsweredAll_T) S.DrawAnsweredAll_ann (drawOk (tableP S.DrawAnsweredAll_T)) FUEL Try.f38 args h κ
noncomputable def S.DrawAnsweredAll_L5 (n : Nat) (σ : St) (k : X → St → R) : R := iterC 0 (fun σ k => denC TD (tableK S.DrawAnsweredAll_T) S.DrawAnsweredAll_ann (drawOk (tableP S.DrawAnsweredAll_T)) 0 FUEL ((findLoop 5 (Try.f38.body.getD .skip)).getD .skip) σ k) [5, 6, 7, 8, 9] [5, 6, 7, 8] n σ k
noncomputable def S.DrawAnsweredAll_k5 (κ : V → List E → R) : X → St → R := (afterC TD (tableK S.DrawAnsweredAll_T) S.DrawAnsweredAll_ann (drawOk (tableP S.DrawAnsweredAll_T)) 0 FUEL 5 (Try.f38.body.getD .skip) (finC TD 0 Try.f38 κ)).getD (fun _ _ => none)
noncomputable def S.DrawAnsweredAll_step5 {α : Type} (x7 : Int) (x9 : Int) (r0_0 : List Int) (r0_1 : Int) (r1 : List Int) (r2 : List Int) (next_ : Int × (List Int) × Int × (List Int) × (List Int) → α) (out0_ : (List Int) × Int × (List Int) × (List Int) → α) (fail_ : α) : α :=
  (bif decide (x9 > 0) then (optC (S.l20Rd_pick_t r0_0 r0_1 (if 1 > (↑r1.length : Int) then 1 else (↑r1.length : Int))) (fun c_4 => (bif small (r2 ++ [c_4.fst]).length then (next_ (IntKind.i64.wrap (x9 - 1), c_4.snd.fst, c_4.snd.snd, r1, r2 ++ [c_4.fst])) else fail_)) fail_) else (out0_ (r0_0, r0_1, r1, r2)))
theorem S.DrawAnsweredAll_step5_nat {α γ : Type} (g : α → γ) (x7 : Int) (x9 : Int) (r0_0 : List Int) (r0_1 : Int) (r1 : List Int) (r2 : List Int) (next_ : Int × (List Int) × Int × (List Int) × (List Int) → α) (out0_ : (List Int) × Int × (List Int) × (List Int) → α) (fail_ : α) : g (S.DrawAnsweredAll_step5 x7 x9 r0_0 r0_1 r1 r2 next_ out0_ fail_) = S.DrawAnsweredAll_step5 x7 x9 r0_0 r0_1 r1 r2 (fun s => g (next_ s)) (fun d => g (out0_ d)) (g fail_) := by
  unfold S.DrawAnsweredAll_step5; simp only [apply_cnd g, apply_optC g, apply_sumC g]
noncomputable def S.DrawAnsweredAll_run5 (x7 : Int) : Nat → Int × (List Int) × Int × (List Int) × (List Int) → Option ((List Int) × Int × (List Int) × (List Int))
  | 0, _ => none
  | n + 1, s_ => S.DrawAnsweredAll_step5 x7 s_.1 s_.2.1 s_.2.2.1 s_.2.2.2.1 s_.2.2.2.2 (S.DrawAnsweredAll_run5 x7 n) (fun d => some d) none
theorem S.DrawAnsweredAll_L5_run (x7 : Int) (n : Nat) (s_ : Int × (List Int) × Int × (List Int) × (List Int)) (k : X → St → R) : S.DrawAnsweredAll_L5 n { n := 46, t := [(5, (.ptr 0 0)), (6, (.own 1)), (7, (.int .i64 x7)), (8, (.own 2)), (9, (.int .i64 s_.1))], h := [.cells [(.ro true (.ints .u8 s_.2.1)), (.int .i64 s_.2.2.1)], .row (.ints .i64 s_.2.2.2.1), .row (.ints .i64 s_.2.2.2.2)] } k = optC (S.DrawAnsweredAll_run5 x7 n s_) (fun (r : (List Int) × Int × (List Int) × (List Int)) => k (.exit 0) { n := 46, t := [(5, (.ptr 0 0)), (6, (.own 1)), (7, (.int .i64 x7)), (8, (.own 2))], h := [.cells [(.ro true (.ints .u8 r.1)), (.int .i64 r.2.1)], .row (.ints .i64 r.2.2.1), .row (.ints .i64 r.2.2.2)] }) none := by
  induction n generalizing s_ with
  | zero => rfl
  | succ n ih =>
    have hu : S.DrawAnsweredAll_L5 (n + 1) { n := 46, t := [(5, (.ptr 0 0)), (6, (.own 1)), (7, (.int .i64 x7)), (8, (.own 2)), (9, (.int .i64 s_.1))], h := [.cells [(.ro true (.ints .u8 s_.2.1)), (.int .i64 s_.2.2.1)], .row (.ints .i64 s_.2.2.2.1), .row (.ints .i64 s_.2.2.2.2)] } k = S.DrawAnsweredAll_step5 x7 s_.1 s_.2.1 s_.2.2.1 s_.2.2.2.1 s_.2.2.2.2 (fun s_ => S.DrawAnsweredAll_L5 n { n := 46, t := [(5, (.ptr 0 0)), (6, (.own 1)), (7, (.int .i64 x7)), (8, (.own 2)), (9, (.int .i64 s_.1))], h := [.cells [(.ro true (.ints .u8 s_.2.1)), (.int .i64 s_.2.2.1)], .row (.ints .i64 s_.2.2.2.1), .row (.ints .i64 s_.2.2.2.2)] } k) (fun d => k (.exit 0) { n := 46, t := [(5, (.ptr 0 0)), (6, (.own 1)), (7, (.int .i64 x7)), (8, (.own 2))], h := [.cells [(.ro true (.ints .u8 d.1)), (.int .i64 d.2.1)], .row (.ints .i64 d.2.2.1), .row (.ints .i64 d.2.2.2)] }) none := by
      kernel_rfl
    have hs : (fun s_ : Int × (List Int) × Int × (List Int) × (List Int) => S.DrawAnsweredAll_L5 n { n := 46, t := [(5, (.ptr 0 0)), (6, (.own 1)), (7, (.int .i64 x7)), (8, (.own 2)), (9, (.int .i64 s_.1))], h := [.cells [(.ro true (.ints .u8 s_.2.1)), (.int .i64 s_.2.2.1)], .row (.ints .i64 s_.2.2.2.1), .row (.ints .i64 s_.2.2.2.2)] } k) = fun s_ => optC (S.DrawAnsweredAll_run5 x7 n s_) (fun (r : (List Int) × Int × (List Int) × (List Int)) => k (.exit 0) { n := 46, t := [(5, (.ptr 0 0)), (6, (.own 1)), (7, (.int .i64 x7)), (8, (.own 2))], h := [.cells [(.ro true (.ints .u8 r.1)), (.int .i64 r.2.1)], .row (.ints .i64 r.2.2.1), .row (.ints .i64 r.2.2.2)] }) none := funext ih
    rw [hu, hs]
    exact (S.DrawAnsweredAll_step5_nat (fun o => optC o (fun (r : (List Int) × Int × (List Int) × (List Int)) => k (.exit 0) { n := 46, t := [(5, (.ptr 0 0)), (6, (.own 1)), (7, (.int .i64 x7)), (8, (.own 2))], h := [.cells [(.ro true (.ints .u8 r.1)), (.int .i64 r.2.1)], .row (.ints .i64 r.2.2.1), .row (.ints .i64 r.2.2.2)] }) none) x7 s_.1 s_.2.1 s_.2.2.1 s_.2.2.2.1 s_.2.2.2.2 (S.DrawAnsweredAll_run5 x7 n) (fun d => some d) none).symm
noncomputable def S.DrawAnsweredAll_tree {α : Type} (code : List Int) (leaf0_ : Int × (List Int) × (List Int) → α) (fail_ : α) : α :=
  (optC (S.l20Open_t code) (fun c_1 => (optC (S.l20Eternal_t c_1.fst c_1.snd 12) (fun c_2 => (optC (S.l20Rd_pick_t c_2.snd.fst c_2.snd.snd.fst 12) (fun c_3 => (optC (S.DrawAnsweredAll_run5 c_2.fst FUEL (c_3.fst, c_3.snd.fst, c_3.snd.snd, c_2.snd.snd.snd, [])) (fun qy_5 => (optC (S.l20Rd_pick_t qy_5.1 qy_5.2.1 20) (fun c_6 => (bif c_6.fst == 0 then (optC (S.l20Rd_pick_t c_6.snd.fst c_6.snd.snd 2) (fun c_7 => (bif decide (0 ≤ c_7.fst) && decide (c_7.fst < (↑[-1, 6].length : Int)) then (bif decide (c_7.fst.toNat < [-1, 6].length) then (bif small (qy_5.2.2.2 ++ [eli [-1, 6] c_7.fst.toNat]).length then (leaf0_ (c_2.fst, qy_5.2.2.1, qy_5.2.2.2 ++ [eli [-1, 6] c_7.fst.toNat])) else fail_) else fail_) else fail_)) fail_) else (leaf0_ (c_2.fst, qy_5.2.2.1, qy_5.2.2.2)))) fail_)) fail_)) fail_)) fail_)) fail_)
theorem S.DrawAnsweredAll_tree_nat {α γ : Type} (g : α → γ) (code : List Int) (leaf0_ : Int × (List Int) × (List Int) → α) (fail_ : α) : g (S.DrawAnsweredAll_tree code leaf0_ fail_) = S.DrawAnsweredAll_tree code (fun d => g (leaf0_ d)) (g fail_) := by
  unfold S.DrawAnsweredAll_tree; simp only [apply_cnd g, apply_optC g, apply_sumC g]
noncomputable def S.DrawAnsweredAll_t (code : List Int) : Option (Int × (List Int) × (List Int)) := S.DrawAnsweredAll_tree code (fun d => some d) none
theorem S.DrawAnsweredAll_den (code : List Int) (κ : V → List E → R) : S.DrawAnsweredAll_F [.ro true (.ints .u8 code)] [] κ = optC (S.DrawAnsweredAll_t code) (fun (r : Int × (List Int) × (List Int)) => κ (.tup [(.own 0), (.int .i64 r.1), (.own 1)]) [.row (.ints .i64 r.2.1), .row (.ints .i64 r.2.2)]) none := by
  have hu : S.DrawAnsweredAll_F [.ro true (.ints .u8 code)] [] κ = S.DrawAnsweredAll_tree code (fun d => κ (.tup [(.own 0), (.int .i64 d.1), (.own 1)]) [.row (.ints .i64 d.2.1), .row (.ints .i64 d.2.2)]) none := by
    refine Eq.trans (show S.DrawAnsweredAll_F [.ro true (.ints .u8 code)] [] κ = (optC (S.l20Open_t code) (fun c_1 => (optC (S.l20Eternal_t c_1.fst c_1.snd 12) (fun c_2 => (optC (S.l20Rd_pick_t c_2.snd.fst c_2.snd.snd.fst 12) (fun c_3 => (S.DrawAnsweredAll_L5 FUEL { n := 46, t := [(5, (.ptr 0 0)), (6, (.own 1)), (7, (.int .i64 c_2.fst)), (8, (.own 2)), (9, (.int .i64 c_3.fst))], h := [.cells [(.ro true (.ints .u8 c_3.snd.fst)), (.int .i64 c_3.snd.snd)], .row (.ints .i64 c_2.snd.snd.snd), .row (.ints .i64 ([]))] } (S.DrawAnsweredAll_k5 κ))) none)) none)) none) by kernel_rfl) ?_
    refine optC_congr (fun c_1 => ?_)
    refine optC_congr (fun c_2 => ?_)
    refine optC_congr (fun c_3 => ?_)
    refine (S.DrawAnsweredAll_L5_run c_2.fst FUEL (c_3.fst, c_3.snd.fst, c_3.snd.snd, c_2.snd.snd.snd, []) (S.DrawAnsweredAll_k5 κ)).trans (optC_congr (fun qy_5 => ?_))
    kernel_rfl
  rw [hu]
  exact (S.DrawAnsweredAll_tree_nat (fun o => optC o (fun (r : Int × (List Int) × (List Int)) => κ (.tup [(.own 0), (.int .i64 r.1), (.own 1)]) [.row (.ints .i64 r.2.1), .row (.ints .i64 r.2.2)]) none) code (fun d => some d) none).symm
noncomputable def S.DrawAnsweredAll_s : D.Spec where
  keep := true
  pure := false
  ds := [.int .u8]
  sp := fun args h κ => match args, h with
    | [.ro true (.ints .u8 code)], [] => optC (S.DrawAnsweredAll_t code) (fun (r : Int × (List Int) × (List Int)) => κ (.tup [(.own 0), (.int .i64 r.1), (.own 1)]) [.row (.ints .i64 r.2.1), .row (.ints .i64 r.2.2)]) none
    | _, _ => none
theorem S.DrawAnsweredAll_ok : SpecOk Try.prog 38 S.DrawAnsweredAll_s := by
  refine SpecOk.of TDok mixed (T := S.DrawAnsweredAll_T) ?_ (ann := S.DrawAnsweredAll_ann) Try.func38 rfl (by decide +kernel) ?_ ?_ ?_
  · intro p hp
    simp only [S.DrawAnsweredAll_T, List.mem_cons, List.not_mem_nil, or_false] at hp
    rcases hp with rfl | rfl | rfl
    · exact S.l20Open_ok
    · exact S.l20Eternal_ok
    · exact S.l20Rd_pick_ok
  · intro args h κ r hh
    simp only [S.DrawAnsweredAll_s] at hh
    split at hh
    · exact (S.DrawAnsweredAll_den _ κ).trans hh
    · cases hh
  · intro args h κ r hh
    simp only [S.DrawAnsweredAll_s] at hh ⊢
    split at hh
    · exact optC_law2 (F := fun (r : Int × (List Int) × (List Int)) κ => κ (.tup [(.own 0), (.int .i64 r.1), (.own 1)]) [.row (.ints .i64 r.2.1), .row (.ints .i64 r.2.2)]) (fun b κ r hb => ⟨_, _, hb, fun _ => rfl⟩) hh
    · cases hh
  · intro hh; cases hh

-- loop.example/guardsonnets/impl.answeredIn
noncomputable def I.answeredIn_T : List (Nat × D.Spec) := [(56, I.hasPlace_s), (51, I.answerIn_s), (50, I.moved_s)]
def I.answeredIn_ann : Nat → List Nat × List Nat
  | _ => ([], [])
noncomputable def I.answeredIn_F (args : List V) (h : List E) (κ : V → List E → R) : R := funC TD (tableK I.answeredIn_T) I.answeredIn_ann (drawOk (tableP I.answeredIn_T)) FUEL Try.f66 args h κ
noncomputable def I.answeredIn_tree {α : Type} (net : List Int) (eternal : List Bool) (set_ : Int) (place : Int) (leaf0_ : Int → α) (fail_ : α) : α :=
  (optC (I.hasPlace_t set_ place) (fun c_1 => (bif c_1 then (leaf0_ set_) else (optC (I.answerIn_t net eternal set_ place) (fun c_2 => (optC (I.moved_t set_ c_2 place) (fun c_3 => (leaf0_ c_3)) fail_)) fail_))) fail_)
theorem I.answeredIn_tree_nat {α γ : Type} (g : α → γ) (net : List Int) (eternal : List Bool) (set_ : Int) (place : Int) (leaf0_ : Int → α) (fail_ : α) : g (I.answeredIn_tree net eternal set_ place leaf0_ fail_) = I.answeredIn_tree net eternal set_ place (fun d => g (leaf0_ d)) (g fail_) := by
  unfold I.answeredIn_tree; simp only [apply_cnd g, apply_optC g, apply_sumC g]
noncomputable def I.answeredIn_t (net : List Int) (eternal : List Bool) (set_ : Int) (place : Int) : Option (Int) := I.answeredIn_tree net eternal set_ place (fun d => some d) none
theorem I.answeredIn_den (net : List Int) (eternal : List Bool) (set_ : Int) (place : Int) (κ : V → List E → R) : I.answeredIn_F [.ro false (.ints .i64 net), .ro false (.bools eternal), .int .i64 set_, .int .i64 place] [] κ = optC (I.answeredIn_t net eternal set_ place) (fun (r : Int) => κ (.int .i64 r) []) none := by
  have hu : I.answeredIn_F [.ro false (.ints .i64 net), .ro false (.bools eternal), .int .i64 set_, .int .i64 place] [] κ = I.answeredIn_tree net eternal set_ place (fun d => κ (.int .i64 d) []) none := by
    kernel_rfl
  rw [hu]
  exact (I.answeredIn_tree_nat (fun o => optC o (fun (r : Int) => κ (.int .i64 r) []) none) net eternal set_ place (fun d => some d) none).symm
noncomputable def I.answeredIn_s : D.Spec where
  keep := false
  pure := true
  ds := [.int .i64, .bool, .invalid, .invalid]
  sp := fun args h κ => match args, h with
    | [.ro false (.ints .i64 net), .ro false (.bools eternal), .int .i64 set_, .int .i64 place], [] => optC (I.answeredIn_t net eternal set_ place) (fun (r : Int) => κ (.int .i64 r) []) none
    | _, _ => none
theorem I.answeredIn_ok : SpecOk Try.prog 66 I.answeredIn_s := by
  refine SpecOk.of TDok mixed (T := I.answeredIn_T) ?_ (ann := I.answeredIn_ann) Try.func66 rfl (by decide +kernel) ?_ ?_ ?_
  · intro p hp
    simp only [I.answeredIn_T, List.mem_cons, List.not_mem_nil, or_false] at hp
    rcases hp with rfl | rfl | rfl
    · exact I.hasPlace_ok
    · exact I.answerIn_ok
    · exact I.moved_ok
  · intro args h κ r hh
    simp only [I.answeredIn_s] at hh
    split at hh
    · exact (I.answeredIn_den _ _ _ _ κ).trans hh
    · cases hh
  · intro args h κ r hh
    simp only [I.answeredIn_s] at hh ⊢
    split at hh
    · exact optC_law2 (F := fun (r : Int) κ => κ (.int .i64 r) []) (fun b κ r hb => ⟨_, _, hb, fun _ => rfl⟩) hh
    · cases hh
  · intro _ args h κ r hh
    simp only [I.answeredIn_s] at hh
    split at hh
    · exact ⟨rfl, fun _ => rfl⟩
    · cases hh

-- loop.example/guardsonnets/impl.AnsweredAll
noncomputable def I.AnsweredAll_T : List (Nat × D.Spec) := [(26, I.NetOk_s), (44, I.setIn_s), (45, I.eternalIn_s), (48, I.placeIn_s), (66, I.answeredIn_s)]
def I.AnsweredAll_ann : Nat → List Nat × List Nat
  | 8 => ([0, 2, 7, 8, 9], [6, 8])
  | _ => ([], [])
noncomputable def I.AnsweredAll_F (args : List V) (h : List E) (κ : V → List E → R) : R := funC TD (tableK I.AnsweredAll_T) I.AnsweredAll_ann (drawOk (tableP I.AnsweredAll_T)) FUEL Try.f39 args h κ
noncomputable def I.AnsweredAll_L8 (n : Nat) (σ : St) (k : X → St → R) : R := iterC 0 (fun σ k => denC TD (tableK I.AnsweredAll_T) I.AnsweredAll_ann (drawOk (tableP I.AnsweredAll_T)) 0 FUEL ((findLoop 8 (Try.f39.body.getD .skip)).getD .skip) σ k) [0, 2, 7, 8, 9] [6, 8] n σ k
noncomputable def I.AnsweredAll_k8 (κ : V → List E → R) : X → St → R := (afterC TD (tableK I.AnsweredAll_T) I.AnsweredAll_ann (drawOk (tableP I.AnsweredAll_T)) 0 FUEL 8 (Try.f39.body.getD .skip) (finC TD 0 Try.f39 κ)).getD (fun _ _ => none)
noncomputable def I.AnsweredAll_step8 {α : Type} (x0 : List Int) (x2 : List Int) (x9 : Int) (r0 : List Bool) (r1 : List Int) (next_ : Int × (List Bool) × (List Int) → α) (out0_ : (List Int) × (List Int) → α) (out1_ : List Int → α) (fail_ : α) : α :=
  (bif decide (x9 < (↑x2.length : Int)) then (bif decide (0 ≤ x9) && decide (x9 < (↑x2.length : Int)) then (optC (I.placeIn_t x0 (eli x2 x9.toNat)) (fun c_4 => (bif !c_4 then (out0_ ([], r1)) else (bif decide (0 ≤ x9) && decide (x9 < (↑r1.length : Int)) then (bif decide (x9.toNat < r1.length) then (bif decide (0 ≤ x9) && decide (x9 < (↑x2.length : Int)) then (optC (I.answeredIn_t x0 r0 (eli r1 x9.toNat) (eli x2 x9.toNat)) (fun c_5 => (bif small (r1 ++ [c_5]).length then (next_ (IntKind.i64.wrap (x9 + 1), r0, r1 ++ [c_5])) else fail_)) fail_) else fail_) else fail_) else fail_))) fail_) else fail_) else (out1_ r1))
theorem I.AnsweredAll_step8_nat {α γ : Type} (g : α → γ) (x0 : List Int) (x2 : List Int) (x9 : Int) (r0 : List Bool) (r1 : List Int) (next_ : Int × (List Bool) × (List Int) → α) (out0_ : (List Int) × (List Int) → α) (out1_ : List Int → α) (fail_ : α) : g (I.AnsweredAll_step8 x0 x2 x9 r0 r1 next_ out0_ out1_ fail_) = I.AnsweredAll_step8 x0 x2 x9 r0 r1 (fun s => g (next_ s)) (fun d => g (out0_ d)) (fun d => g (out1_ d)) (g fail_) := by
  unfold I.AnsweredAll_step8; simp only [apply_cnd g, apply_optC g, apply_sumC g]
noncomputable def I.AnsweredAll_run8 (x0 : List Int) (x2 : List Int) : Nat → Int × (List Bool) × (List Int) → Option (((List Int) × (List Int)) ⊕ (List Int))
  | 0, _ => none
  | n + 1, s_ => I.AnsweredAll_step8 x0 x2 s_.1 s_.2.1 s_.2.2 (I.AnsweredAll_run8 x0 x2 n) (fun d => some ((Sum.inl d))) (fun d => some ((Sum.inr d))) none
theorem I.AnsweredAll_L8_run (x0 : List Int) (x2 : List Int) (n : Nat) (s_ : Int × (List Bool) × (List Int)) (k : X → St → R) : I.AnsweredAll_L8 n { n := 56, t := [(0, (.ro false (.ints .i64 x0))), (2, (.ro false (.ints .i64 x2))), (7, (.own 0)), (8, (.own 1)), (9, (.int .i64 s_.1))], h := [.row (.bools s_.2.1), .row (.ints .i64 s_.2.2)] } k = optC (I.AnsweredAll_run8 x0 x2 n s_) (fun (r : ((List Int) × (List Int)) ⊕ (List Int)) => (sumC r (fun (r : (List Int) × (List Int)) => k (.ret) { n := 56, t := [(6, (.own 0)), (8, (.own 1))], h := [.row (.ints .i64 r.1), .row (.ints .i64 r.2)] }) (fun (r : List Int) => k (.exit 0) { n := 56, t := [(6, .junk), (8, (.own 0))], h := [.row (.ints .i64 r)] }))) none := by
  induction n generalizing s_ with
  | zero => rfl
  | succ n ih =>
    have hu : I.AnsweredAll_L8 (n + 1) { n := 56, t := [(0, (.ro false (.ints .i64 x0))), (2, (.ro false (.ints .i64 x2))), (7, (.own 0)), (8, (.own 1)), (9, (.int .i64 s_.1))], h := [.row (.bools s_.2.1), .row (.ints .i64 s_.2.2)] } k = I.AnsweredAll_step8 x0 x2 s_.1 s_.2.1 s_.2.2 (fun s_ => I.AnsweredAll_L8 n { n := 56, t := [(0, (.ro false (.ints .i64 x0))), (2, (.ro false (.ints .i64 x2))), (7, (.own 0)), (8, (.own 1)), (9, (.int .i64 s_.1))], h := [.row (.bools s_.2.1), .row (.ints .i64 s_.2.2)] } k) (fun d => k (.ret) { n := 56, t := [(6, (.own 0)), (8, (.own 1))], h := [.row (.ints .i64 d.1), .row (.ints .i64 d.2)] }) (fun d => k (.exit 0) { n := 56, t := [(6, .junk), (8, (.own 0))], h := [.row (.ints .i64 d)] }) none := by
      kernel_rfl
    have hs : (fun s_ : Int × (List Bool) × (List Int) => I.AnsweredAll_L8 n { n := 56, t := [(0, (.ro false (.ints .i64 x0))), (2, (.ro false (.ints .i64 x2))), (7, (.own 0)), (8, (.own 1)), (9, (.int .i64 s_.1))], h := [.row (.bools s_.2.1), .row (.ints .i64 s_.2.2)] } k) = fun s_ => optC (I.AnsweredAll_run8 x0 x2 n s_) (fun (r : ((List Int) × (List Int)) ⊕ (List Int)) => (sumC r (fun (r : (List Int) × (List Int)) => k (.ret) { n := 56, t := [(6, (.own 0)), (8, (.own 1))], h := [.row (.ints .i64 r.1), .row (.ints .i64 r.2)] }) (fun (r : List Int) => k (.exit 0) { n := 56, t := [(6, .junk), (8, (.own 0))], h := [.row (.ints .i64 r)] }))) none := funext ih
    rw [hu, hs]
    exact (I.AnsweredAll_step8_nat (fun o => optC o (fun (r : ((List Int) × (List Int)) ⊕ (List Int)) => (sumC r (fun (r : (List Int) × (List Int)) => k (.ret) { n := 56, t := [(6, (.own 0)), (8, (.own 1))], h := [.row (.ints .i64 r.1), .row (.ints .i64 r.2)] }) (fun (r : List Int) => k (.exit 0) { n := 56, t := [(6, .junk), (8, (.own 0))], h := [.row (.ints .i64 r)] }))) none) x0 x2 s_.1 s_.2.1 s_.2.2 (I.AnsweredAll_run8 x0 x2 n) (fun d => some ((Sum.inl d))) (fun d => some ((Sum.inr d))) none).symm
noncomputable def I.AnsweredAll_tree {α : Type} (net : List Int) (set_ : Int) (places : List Int) (leaf0_ : List Int → α) (fail_ : α) : α :=
  (optC (I.NetOk_t net) (fun c_1 => (bif !c_1 then (leaf0_ ([])) else (optC (I.setIn_t net set_) (fun c_2 => (bif !c_2 then (leaf0_ ([])) else (optC (I.eternalIn_t net) (fun c_3 => (bif decide (0 ≤ set_) && decide (set_ < (↑c_3.length : Int)) then (bif decide (set_.toNat < c_3.length) then (bif !elb c_3 set_.toNat then (leaf0_ ([])) else (optC (I.AnsweredAll_run8 net places FUEL (0, c_3, [set_])) (fun qy_6 => (sumC qy_6 (fun (qy_6 : (List Int) × (List Int)) => (leaf0_ qy_6.1)) (fun (qy_6 : List Int) => (leaf0_ qy_6)))) fail_)) else fail_) else fail_)) fail_))) fail_))) fail_)
theorem I.AnsweredAll_tree_nat {α γ : Type} (g : α → γ) (net : List Int) (set_ : Int) (places : List Int) (leaf0_ : List Int → α) (fail_ : α) : g (I.AnsweredAll_tree net set_ places leaf0_ fail_) = I.AnsweredAll_tree net set_ places (fun d => g (leaf0_ d)) (g fail_) := by
  unfold I.AnsweredAll_tree; simp only [apply_cnd g, apply_optC g, apply_sumC g]
noncomputable def I.AnsweredAll_t (net : List Int) (set_ : Int) (places : List Int) : Option (List Int) := I.AnsweredAll_tree net set_ places (fun d => some d) none
theorem I.AnsweredAll_den (net : List Int) (set_ : Int) (places : List Int) (κ : V → List E → R) : I.AnsweredAll_F [.ro false (.ints .i64 net), .int .i64 set_, .ro false (.ints .i64 places)] [] κ = optC (I.AnsweredAll_t net set_ places) (fun (r : List Int) => κ (.own 0) [.row (.ints .i64 r)]) none := by
  have hu : I.AnsweredAll_F [.ro false (.ints .i64 net), .int .i64 set_, .ro false (.ints .i64 places)] [] κ = I.AnsweredAll_tree net set_ places (fun d => κ (.own 0) [.row (.ints .i64 d)]) none := by
    refine Eq.trans (show I.AnsweredAll_F [.ro false (.ints .i64 net), .int .i64 set_, .ro false (.ints .i64 places)] [] κ = (optC (I.NetOk_t net) (fun c_1 => (bif !c_1 then (κ (.own 0) [.row (.ints .i64 ([]))]) else (optC (I.setIn_t net set_) (fun c_2 => (bif !c_2 then (κ (.own 0) [.row (.ints .i64 ([]))]) else (optC (I.eternalIn_t net) (fun c_3 => (bif decide (0 ≤ set_) && decide (set_ < (↑c_3.length : Int)) then (bif decide (set_.toNat < c_3.length) then (bif !elb c_3 set_.toNat then (κ (.own 0) [.row (.ints .i64 ([]))]) else (I.AnsweredAll_L8 FUEL { n := 56, t := [(0, (.ro false (.ints .i64 net))), (2, (.ro false (.ints .i64 places))), (7, (.own 0)), (8, (.own 1)), (9, (.int .i64 0))], h := [.row (.bools c_3), .row (.ints .i64 ([set_]))] } (I.AnsweredAll_k8 κ))) else none) else none)) none))) none))) none) by kernel_rfl) ?_
    refine optC_congr (fun c_1 => ?_)
    refine cnd_congr ?_ ?_
    · kernel_rfl
    · refine optC_congr (fun c_2 => ?_)
      refine cnd_congr ?_ ?_
      · kernel_rfl
      · refine optC_congr (fun c_3 => ?_)
        refine cnd_congr ?_ ?_
        · refine cnd_congr ?_ ?_
          · refine cnd_congr ?_ ?_
            · kernel_rfl
            · refine (I.AnsweredAll_L8_run net places FUEL (0, c_3, [set_]) (I.AnsweredAll_k8 κ)).trans (optC_congr (fun qy_6 => ?_))
              rcases qy_6 with qy_6 | qy_6
              · kernel_rfl
              · kernel_rfl
          · kernel_rfl
        · kernel_rfl
  rw [hu]
  exact (I.AnsweredAll_tree_nat (fun o => optC o (fun (r : List Int) => κ (.own 0) [.row (.ints .i64 r)]) none) net set_ places (fun d => some d) none).symm
noncomputable def I.AnsweredAll_s : D.Spec where
  keep := false
  pure := false
  ds := [.int .i64, .invalid, .int .i64]
  sp := fun args h κ => match args, h with
    | [.ro false (.ints .i64 net), .int .i64 set_, .ro false (.ints .i64 places)], [] => optC (I.AnsweredAll_t net set_ places) (fun (r : List Int) => κ (.own 0) [.row (.ints .i64 r)]) none
    | _, _ => none
theorem I.AnsweredAll_ok : SpecOk Try.prog 39 I.AnsweredAll_s := by
  refine SpecOk.of TDok mixed (T := I.AnsweredAll_T) ?_ (ann := I.AnsweredAll_ann) Try.func39 rfl (by decide +kernel) ?_ ?_ ?_
  · intro p hp
    simp only [I.AnsweredAll_T, List.mem_cons, List.not_mem_nil, or_false] at hp
    rcases hp with rfl | rfl | rfl | rfl | rfl
    · exact I.NetOk_ok
    · exact I.setIn_ok
    · exact I.eternalIn_ok
    · exact I.placeIn_ok
    · exact I.answeredIn_ok
  · intro args h κ r hh
    simp only [I.AnsweredAll_s] at hh
    split at hh
    · exact (I.AnsweredAll_den _ _ _ κ).trans hh
    · cases hh
  · intro args h κ r hh
    simp only [I.AnsweredAll_s] at hh ⊢
    split at hh
    · exact optC_law2 (F := fun (r : List Int) κ => κ (.own 0) [.row (.ints .i64 r)]) (fun b κ r hb => ⟨_, _, hb, fun _ => rfl⟩) hh
    · cases hh
  · intro hh; cases hh

-- loop.example/guardsonnets/spec.AnsweredAll
noncomputable def S.AnsweredAll_T : List (Nat × D.Spec) := [(15, S.EternalOk_s), (47, S.l9Lasts_s), (64, S.l1In_s), (65, S.l9Answer_s), (67, S.l8Moved_s)]
def S.AnsweredAll_ann : Nat → List Nat × List Nat
  | 6 => ([0, 1, 2, 7, 8, 9], [6, 8])
  | _ => ([], [])
noncomputable def S.AnsweredAll_F (args : List V) (h : List E) (κ : V → List E → R) : R := funC TD (tableK S.AnsweredAll_T) S.AnsweredAll_ann (drawOk (tableP S.AnsweredAll_T)) FUEL Try.f40 args h κ
noncomputable def S.AnsweredAll_L6 (n : Nat) (σ : St) (k : X → St → R) : R := iterC 0 (fun σ k => denC TD (tableK S.AnsweredAll_T) S.AnsweredAll_ann (drawOk (tableP S.AnsweredAll_T)) 0 FUEL ((findLoop 6 (Try.f40.body.getD .skip)).getD .skip) σ k) [0, 1, 2, 7, 8, 9] [6, 8] n σ k
noncomputable def S.AnsweredAll_k6 (κ : V → List E → R) : X → St → R := (afterC TD (tableK S.AnsweredAll_T) S.AnsweredAll_ann (drawOk (tableP S.AnsweredAll_T)) 0 FUEL 6 (Try.f40.body.getD .skip) (finC TD 0 Try.f40 κ)).getD (fun _ _ => none)
noncomputable def S.AnsweredAll_step6 {α : Type} (x0 : List Int) (x2 : List Int) (x1 : Int) (x9 : Int) (r0 : List Bool) (r1 : List Int) (next_ : Int × Int × (List Bool) × (List Int) → α) (out0_ : (List Int) × (List Int) → α) (out1_ : List Int → α) (fail_ : α) : α :=
  (bif decide (x9 < (↑x2.length : Int)) then (bif decide (0 ≤ x9) && decide (x9 < (↑x2.length : Int)) then (optC (S.l1In_t (eli x2 x9.toNat) 0 (IntKind.i64.wrap ((↑x0.length : Int) - 1))) (fun c_3 => (bif !c_3 then (out0_ ([], r1)) else (bif decide (0 ≤ x9) && decide (x9 < (↑x2.length : Int)) then (bif decide (eli x2 x9.toNat < 0) then fail_ else (bif (x1.fdiv (2 ^ min (eli x2 x9.toNat).toNat IntKind.i64.bits)).tmod 2 == 0 then (bif decide (0 ≤ x9) && decide (x9 < (↑x2.length : Int)) then (optC (S.l9Answer_t x0 r0 x1 (eli x2 x9.toNat)) (fun c_4 => (bif decide (0 ≤ x9) && decide (x9 < (↑x2.length : Int)) then (optC (S.l8Moved_t x1 c_4 (eli x2 x9.toNat)) (fun c_5 => (bif small (r1 ++ [c_5]).length then (next_ (c_5, IntKind.i64.wrap (x9 + 1), r0, r1 ++ [c_5])) else fail_)) fail_) else fail_)) fail_) else fail_) else (bif small (r1 ++ [x1]).length then (next_ (x1, IntKind.i64.wrap (x9 + 1), r0, r1 ++ [x1])) else fail_))) else fail_))) fail_) else fail_) else (out1_ r1))
theorem S.AnsweredAll_step6_nat {α γ : Type} (g : α → γ) (x0 : List Int) (x2 : List Int) (x1 : Int) (x9 : Int) (r0 : List Bool) (r1 : List Int) (next_ : Int × Int × (List Bool) × (List Int) → α) (out0_ : (List Int) × (List Int) → α) (out1_ : List Int → α) (fail_ : α) : g (S.AnsweredAll_step6 x0 x2 x1 x9 r0 r1 next_ out0_ out1_ fail_) = S.AnsweredAll_step6 x0 x2 x1 x9 r0 r1 (fun s => g (next_ s)) (fun d => g (out0_ d)) (fun d => g (out1_ d)) (g fail_) := by
  unfold S.AnsweredAll_step6; simp only [apply_cnd g, apply_optC g, apply_sumC g]
noncomputable def S.AnsweredAll_run6 (x0 : List Int) (x2 : List Int) : Nat → Int × Int × (List Bool) × (List Int) → Option (((List Int) × (List Int)) ⊕ (List Int))
  | 0, _ => none
  | n + 1, s_ => S.AnsweredAll_step6 x0 x2 s_.1 s_.2.1 s_.2.2.1 s_.2.2.2 (S.AnsweredAll_run6 x0 x2 n) (fun d => some ((Sum.inl d))) (fun d => some ((Sum.inr d))) none
theorem S.AnsweredAll_L6_run (x0 : List Int) (x2 : List Int) (n : Nat) (s_ : Int × Int × (List Bool) × (List Int)) (k : X → St → R) : S.AnsweredAll_L6 n { n := 62, t := [(0, (.ro false (.ints .i64 x0))), (1, (.int .i64 s_.1)), (2, (.ro false (.ints .i64 x2))), (7, (.own 0)), (8, (.own 1)), (9, (.int .i64 s_.2.1))], h := [.row (.bools s_.2.2.1), .row (.ints .i64 s_.2.2.2)] } k = optC (S.AnsweredAll_run6 x0 x2 n s_) (fun (r : ((List Int) × (List Int)) ⊕ (List Int)) => (sumC r (fun (r : (List Int) × (List Int)) => k (.ret) { n := 62, t := [(6, (.own 0)), (8, (.own 1))], h := [.row (.ints .i64 r.1), .row (.ints .i64 r.2)] }) (fun (r : List Int) => k (.exit 0) { n := 62, t := [(6, .junk), (8, (.own 0))], h := [.row (.ints .i64 r)] }))) none := by
  induction n generalizing s_ with
  | zero => rfl
  | succ n ih =>
    have hu : S.AnsweredAll_L6 (n + 1) { n := 62, t := [(0, (.ro false (.ints .i64 x0))), (1, (.int .i64 s_.1)), (2, (.ro false (.ints .i64 x2))), (7, (.own 0)), (8, (.own 1)), (9, (.int .i64 s_.2.1))], h := [.row (.bools s_.2.2.1), .row (.ints .i64 s_.2.2.2)] } k = S.AnsweredAll_step6 x0 x2 s_.1 s_.2.1 s_.2.2.1 s_.2.2.2 (fun s_ => S.AnsweredAll_L6 n { n := 62, t := [(0, (.ro false (.ints .i64 x0))), (1, (.int .i64 s_.1)), (2, (.ro false (.ints .i64 x2))), (7, (.own 0)), (8, (.own 1)), (9, (.int .i64 s_.2.1))], h := [.row (.bools s_.2.2.1), .row (.ints .i64 s_.2.2.2)] } k) (fun d => k (.ret) { n := 62, t := [(6, (.own 0)), (8, (.own 1))], h := [.row (.ints .i64 d.1), .row (.ints .i64 d.2)] }) (fun d => k (.exit 0) { n := 62, t := [(6, .junk), (8, (.own 0))], h := [.row (.ints .i64 d)] }) none := by
      kernel_rfl
    have hs : (fun s_ : Int × Int × (List Bool) × (List Int) => S.AnsweredAll_L6 n { n := 62, t := [(0, (.ro false (.ints .i64 x0))), (1, (.int .i64 s_.1)), (2, (.ro false (.ints .i64 x2))), (7, (.own 0)), (8, (.own 1)), (9, (.int .i64 s_.2.1))], h := [.row (.bools s_.2.2.1), .row (.ints .i64 s_.2.2.2)] } k) = fun s_ => optC (S.AnsweredAll_run6 x0 x2 n s_) (fun (r : ((List Int) × (List Int)) ⊕ (List Int)) => (sumC r (fun (r : (List Int) × (List Int)) => k (.ret) { n := 62, t := [(6, (.own 0)), (8, (.own 1))], h := [.row (.ints .i64 r.1), .row (.ints .i64 r.2)] }) (fun (r : List Int) => k (.exit 0) { n := 62, t := [(6, .junk), (8, (.own 0))], h := [.row (.ints .i64 r)] }))) none := funext ih
    rw [hu, hs]
    exact (S.AnsweredAll_step6_nat (fun o => optC o (fun (r : ((List Int) × (List Int)) ⊕ (List Int)) => (sumC r (fun (r : (List Int) × (List Int)) => k (.ret) { n := 62, t := [(6, (.own 0)), (8, (.own 1))], h := [.row (.ints .i64 r.1), .row (.ints .i64 r.2)] }) (fun (r : List Int) => k (.exit 0) { n := 62, t := [(6, .junk), (8, (.own 0))], h := [.row (.ints .i64 r)] }))) none) x0 x2 s_.1 s_.2.1 s_.2.2.1 s_.2.2.2 (S.AnsweredAll_run6 x0 x2 n) (fun d => some ((Sum.inl d))) (fun d => some ((Sum.inr d))) none).symm
noncomputable def S.AnsweredAll_tree {α : Type} (net : List Int) (set_ : Int) (places : List Int) (leaf0_ : List Int → α) (fail_ : α) : α :=
  (optC (S.EternalOk_t net set_) (fun c_1 => (bif !c_1 then (leaf0_ ([])) else (optC (S.l9Lasts_t net) (fun c_2 => (optC (S.AnsweredAll_run6 net places FUEL (set_, 0, c_2, [set_])) (fun qy_6 => (sumC qy_6 (fun (qy_6 : (List Int) × (List Int)) => (leaf0_ qy_6.1)) (fun (qy_6 : List Int) => (leaf0_ qy_6)))) fail_)) fail_))) fail_)
theorem S.AnsweredAll_tree_nat {α γ : Type} (g : α → γ) (net : List Int) (set_ : Int) (places : List Int) (leaf0_ : List Int → α) (fail_ : α) : g (S.AnsweredAll_tree net set_ places leaf0_ fail_) = S.AnsweredAll_tree net set_ places (fun d => g (leaf0_ d)) (g fail_) := by
  unfold S.AnsweredAll_tree; simp only [apply_cnd g, apply_optC g, apply_sumC g]
noncomputable def S.AnsweredAll_t (net : List Int) (set_ : Int) (places : List Int) : Option (List Int) := S.AnsweredAll_tree net set_ places (fun d => some d) none
theorem S.AnsweredAll_den (net : List Int) (set_ : Int) (places : List Int) (κ : V → List E → R) : S.AnsweredAll_F [.ro false (.ints .i64 net), .int .i64 set_, .ro false (.ints .i64 places)] [] κ = optC (S.AnsweredAll_t net set_ places) (fun (r : List Int) => κ (.own 0) [.row (.ints .i64 r)]) none := by
  have hu : S.AnsweredAll_F [.ro false (.ints .i64 net), .int .i64 set_, .ro false (.ints .i64 places)] [] κ = S.AnsweredAll_tree net set_ places (fun d => κ (.own 0) [.row (.ints .i64 d)]) none := by
    refine Eq.trans (show S.AnsweredAll_F [.ro false (.ints .i64 net), .int .i64 set_, .ro false (.ints .i64 places)] [] κ = (optC (S.EternalOk_t net set_) (fun c_1 => (bif !c_1 then (κ (.own 0) [.row (.ints .i64 ([]))]) else (optC (S.l9Lasts_t net) (fun c_2 => (S.AnsweredAll_L6 FUEL { n := 62, t := [(0, (.ro false (.ints .i64 net))), (1, (.int .i64 set_)), (2, (.ro false (.ints .i64 places))), (7, (.own 0)), (8, (.own 1)), (9, (.int .i64 0))], h := [.row (.bools c_2), .row (.ints .i64 ([set_]))] } (S.AnsweredAll_k6 κ))) none))) none) by kernel_rfl) ?_
    refine optC_congr (fun c_1 => ?_)
    refine cnd_congr ?_ ?_
    · kernel_rfl
    · refine optC_congr (fun c_2 => ?_)
      refine (S.AnsweredAll_L6_run net places FUEL (set_, 0, c_2, [set_]) (S.AnsweredAll_k6 κ)).trans (optC_congr (fun qy_6 => ?_))
      rcases qy_6 with qy_6 | qy_6
      · kernel_rfl
      · kernel_rfl
  rw [hu]
  exact (S.AnsweredAll_tree_nat (fun o => optC o (fun (r : List Int) => κ (.own 0) [.row (.ints .i64 r)]) none) net set_ places (fun d => some d) none).symm
noncomputable def S.AnsweredAll_s : D.Spec where
  keep := false
  pure := false
  ds := [.int .i64, .invalid, .int .i64]
  sp := fun args h κ => match args, h with
    | [.ro false (.ints .i64 net), .int .i64 set_, .ro false (.ints .i64 places)], [] => optC (S.AnsweredAll_t net set_ places) (fun (r : List Int) => κ (.own 0) [.row (.ints .i64 r)]) none
    | _, _ => none
theorem S.AnsweredAll_ok : SpecOk Try.prog 40 S.AnsweredAll_s := by
  refine SpecOk.of TDok mixed (T := S.AnsweredAll_T) ?_ (ann := S.AnsweredAll_ann) Try.func40 rfl (by decide +kernel) ?_ ?_ ?_
  · intro p hp
    simp only [S.AnsweredAll_T, List.mem_cons, List.not_mem_nil, or_false] at hp
    rcases hp with rfl | rfl | rfl | rfl | rfl
    · exact S.EternalOk_ok
    · exact S.l9Lasts_ok
    · exact S.l1In_ok
    · exact S.l9Answer_ok
    · exact S.l8Moved_ok
  · intro args h κ r hh
    simp only [S.AnsweredAll_s] at hh
    split at hh
    · exact (S.AnsweredAll_den _ _ _ κ).trans hh
    · cases hh
  · intro args h κ r hh
    simp only [S.AnsweredAll_s] at hh ⊢
    split at hh
    · exact optC_law2 (F := fun (r : List Int) κ => κ (.own 0) [.row (.ints .i64 r)]) (fun b κ r hb => ⟨_, _, hb, fun _ => rfl⟩) hh
    · cases hh
  · intro hh; cases hh

-- loop.example/guardsonnets/laws.sizeOf
noncomputable def L.sizeOf_T : List (Nat × D.Spec) := []
def L.sizeOf_ann : Nat → List Nat × List Nat
  | 2 => ([0, 3], [3])
  | _ => ([], [])
noncomputable def L.sizeOf_F (args : List V) (h : List E) (κ : V → List E → R) : R := funC TD (tableK L.sizeOf_T) L.sizeOf_ann (drawOk (tableP L.sizeOf_T)) FUEL Try.f41 args h κ
noncomputable def L.sizeOf_L2 (n : Nat) (σ : St) (k : X → St → R) : R := iterC 0 (fun σ k => denC TD (tableK L.sizeOf_T) L.sizeOf_ann (drawOk (tableP L.sizeOf_T)) 0 FUEL ((findLoop 2 (Try.f41.body.getD .skip)).getD .skip) σ k) [0, 3] [3] n σ k
noncomputable def L.sizeOf_k2 (κ : V → List E → R) : X → St → R := (afterC TD (tableK L.sizeOf_T) L.sizeOf_ann (drawOk (tableP L.sizeOf_T)) 0 FUEL 2 (Try.f41.body.getD .skip) (finC TD 0 Try.f41 κ)).getD (fun _ _ => none)
noncomputable def L.sizeOf_step2 {α : Type} (x0 : Int) (x3 : Int) (next_ : Int × Int → α) (out0_ : Int → α) (fail_ : α) : α :=
  (bif decide (x0 > 0) then (next_ (IntKind.i64.wrap (x0.tdiv 2), IntKind.i64.wrap (x3 + x0.tmod 2))) else (out0_ x3))
theorem L.sizeOf_step2_nat {α γ : Type} (g : α → γ) (x0 : Int) (x3 : Int) (next_ : Int × Int → α) (out0_ : Int → α) (fail_ : α) : g (L.sizeOf_step2 x0 x3 next_ out0_ fail_) = L.sizeOf_step2 x0 x3 (fun s => g (next_ s)) (fun d => g (out0_ d)) (g fail_) := by
  unfold L.sizeOf_step2; simp only [apply_cnd g, apply_optC g, apply_sumC g]
noncomputable def L.sizeOf_run2 : Nat → Int × Int → Option (Int)
  | 0, _ => none
  | n + 1, s_ => L.sizeOf_step2 s_.1 s_.2 (L.sizeOf_run2 n) (fun d => some d) none
theorem L.sizeOf_L2_run (n : Nat) (s_ : Int × Int) (k : X → St → R) : L.sizeOf_L2 n { n := 13, t := [(0, (.int .i64 s_.1)), (3, (.int .i64 s_.2))], h := [] } k = optC (L.sizeOf_run2 n s_) (fun (r : Int) => k (.exit 0) { n := 13, t := [(3, (.int .i64 r))], h := [] }) none := by
  induction n generalizing s_ with
  | zero => rfl
  | succ n ih =>
    have hu : L.sizeOf_L2 (n + 1) { n := 13, t := [(0, (.int .i64 s_.1)), (3, (.int .i64 s_.2))], h := [] } k = L.sizeOf_step2 s_.1 s_.2 (fun s_ => L.sizeOf_L2 n { n := 13, t := [(0, (.int .i64 s_.1)), (3, (.int .i64 s_.2))], h := [] } k) (fun d => k (.exit 0) { n := 13, t := [(3, (.int .i64 d))], h := [] }) none := by
      kernel_rfl
    have hs : (fun s_ : Int × Int => L.sizeOf_L2 n { n := 13, t := [(0, (.int .i64 s_.1)), (3, (.int .i64 s_.2))], h := [] } k) = fun s_ => optC (L.sizeOf_run2 n s_) (fun (r : Int) => k (.exit 0) { n := 13, t := [(3, (.int .i64 r))], h := [] }) none := funext ih
    rw [hu, hs]
    exact (L.sizeOf_step2_nat (fun o => optC o (fun (r : Int) => k (.exit 0) { n := 13, t := [(3, (.int .i64 r))], h := [] }) none) s_.1 s_.2 (L.sizeOf_run2 n) (fun d => some d) none).symm
noncomputable def L.sizeOf_tree {α : Type} (n_ : Int) (leaf0_ : Int → α) (fail_ : α) : α :=
  (optC (L.sizeOf_run2 FUEL (n_, 0)) (fun qy_1 => (leaf0_ qy_1)) fail_)
theorem L.sizeOf_tree_nat {α γ : Type} (g : α → γ) (n_ : Int) (leaf0_ : Int → α) (fail_ : α) : g (L.sizeOf_tree n_ leaf0_ fail_) = L.sizeOf_tree n_ (fun d => g (leaf0_ d)) (g fail_) := by
  unfold L.sizeOf_tree; simp only [apply_cnd g, apply_optC g, apply_sumC g]
noncomputable def L.sizeOf_t (n_ : Int) : Option (Int) := L.sizeOf_tree n_ (fun d => some d) none
theorem L.sizeOf_den (n_ : Int) (κ : V → List E → R) : L.sizeOf_F [.int .i64 n_] [] κ = optC (L.sizeOf_t n_) (fun (r : Int) => κ (.int .i64 r) []) none := by
  have hu : L.sizeOf_F [.int .i64 n_] [] κ = L.sizeOf_tree n_ (fun d => κ (.int .i64 d) []) none := by
    refine Eq.trans (show L.sizeOf_F [.int .i64 n_] [] κ = (L.sizeOf_L2 FUEL { n := 13, t := [(0, (.int .i64 n_)), (3, (.int .i64 0))], h := [] } (L.sizeOf_k2 κ)) by kernel_rfl) ?_
    refine (L.sizeOf_L2_run FUEL (n_, 0) (L.sizeOf_k2 κ)).trans (optC_congr (fun qy_1 => ?_))
    kernel_rfl
  rw [hu]
  exact (L.sizeOf_tree_nat (fun o => optC o (fun (r : Int) => κ (.int .i64 r) []) none) n_ (fun d => some d) none).symm
noncomputable def L.sizeOf_s : D.Spec where
  keep := false
  pure := true
  ds := [.invalid]
  sp := fun args h κ => match args, h with
    | [.int .i64 n_], [] => optC (L.sizeOf_t n_) (fun (r : Int) => κ (.int .i64 r) []) none
    | _, _ => none
theorem L.sizeOf_ok : SpecOk Try.prog 41 L.sizeOf_s := by
  refine SpecOk.of TDok mixed (T := L.sizeOf_T) ?_ (ann := L.sizeOf_ann) Try.func41 rfl (by decide +kernel) ?_ ?_ ?_
  · intro p hp; cases hp
  · intro args h κ r hh
    simp only [L.sizeOf_s] at hh
    split at hh
    · exact (L.sizeOf_den _ κ).trans hh
    · cases hh
  · intro args h κ r hh
    simp only [L.sizeOf_s] at hh ⊢
    split at hh
    · exact optC_law2 (F := fun (r : Int) κ => κ (.int .i64 r) []) (fun b κ r hb => ⟨_, _, hb, fun _ => rfl⟩) hh
    · cases hh
  · intro _ args h κ r hh
    simp only [L.sizeOf_s] at hh
    split at hh
    · exact ⟨rfl, fun _ => rfl⟩
    · cases hh

-- loop.example/guardsonnets/laws.FnAnsweredAll
noncomputable def L.FnAnsweredAll_T : List (Nat × D.Spec) := [(38, S.DrawAnsweredAll_s), (39, I.AnsweredAll_s), (40, S.AnsweredAll_s), (24, L.sameInts_s), (16, L.alive_s), (14, I.EternalOk_s), (41, L.sizeOf_s)]
def L.FnAnsweredAll_ann : Nat → List Nat × List Nat
  | 12 => ([3, 4, 5, 6, 7], [2])
  | _ => ([], [])
noncomputable def L.FnAnsweredAll_F (args : List V) (h : List E) (κ : V → List E → R) : R := funC TD (tableK L.FnAnsweredAll_T) L.FnAnsweredAll_ann (drawOk (tableP L.FnAnsweredAll_T)) FUEL Try.f11 args h κ
noncomputable def L.FnAnsweredAll_L12 (n : Nat) (σ : St) (k : X → St → R) : R := iterC 0 (fun σ k => denC TD (tableK L.FnAnsweredAll_T) L.FnAnsweredAll_ann (drawOk (tableP L.FnAnsweredAll_T)) 0 FUEL ((findLoop 12 (Try.f11.body.getD .skip)).getD .skip) σ k) [3, 4, 5, 6, 7] [2] n σ k
noncomputable def L.FnAnsweredAll_k12 (κ : V → List E → R) : X → St → R := (afterC TD (tableK L.FnAnsweredAll_T) L.FnAnsweredAll_ann (drawOk (tableP L.FnAnsweredAll_T)) 0 FUEL 12 (Try.f11.body.getD .skip) (finC TD 0 Try.f11 κ)).getD (fun _ _ => none)
noncomputable def L.FnAnsweredAll_step12 {α : Type} (x4 : Int) (x7 : Int) (r0 : List Int) (r1 : List Int) (r2 : List Int) (next_ : Int × (List Int) × (List Int) × (List Int) → α) (out0_ : Bool → α) (out1_ : Unit → α) (fail_ : α) : α :=
  (bif decide (x7 < (↑r2.length : Int)) then (bif decide (0 ≤ x7) && decide (x7 < (↑r2.length : Int)) then (bif decide (x7.toNat < r2.length) then (optC (I.EternalOk_t r0 (eli r2 x7.toNat)) (fun c_6 => (bif !c_6 then (out0_ false) else (bif decide (0 ≤ x7) && decide (x7 < (↑r2.length : Int)) then (bif decide (x7.toNat < r2.length) then (optC (L.sizeOf_t (eli r2 x7.toNat)) (fun c_7 => (optC (L.sizeOf_t x4) (fun c_8 => (bif !c_7 == c_8 then (out0_ false) else (bif decide (x7 > 0) then (bif decide (0 ≤ x7) && decide (x7 < (↑r2.length : Int)) then (bif decide (x7.toNat < r2.length) then (bif decide (0 ≤ IntKind.i64.wrap (x7 - 1)) && decide (IntKind.i64.wrap (x7 - 1) < (↑r1.length : Int)) then (bif decide ((IntKind.i64.wrap (x7 - 1)).toNat < r1.length) then (bif decide (eli r1 (IntKind.i64.wrap (x7 - 1)).toNat < 0) then fail_ else (bif ((eli r2 x7.toNat).fdiv (2 ^ min (eli r1 (IntKind.i64.wrap (x7 - 1)).toNat).toNat IntKind.i64.bits)).tmod 2 == 0 then (out0_ false) else (next_ (IntKind.i64.wrap (x7 + 1), r0, r1, r2)))) else fail_) else fail_) else fail_) else fail_) else (next_ (IntKind.i64.wrap (x7 + 1), r0, r1, r2))))) fail_)) fail_) else fail_) else fail_))) fail_) else fail_) else fail_) else (out1_ ()))
theorem L.FnAnsweredAll_step12_nat {α γ : Type} (g : α → γ) (x4 : Int) (x7 : Int) (r0 : List Int) (r1 : List Int) (r2 : List Int) (next_ : Int × (List Int) × (List Int) × (List Int) → α) (out0_ : Bool → α) (out1_ : Unit → α) (fail_ : α) : g (L.FnAnsweredAll_step12 x4 x7 r0 r1 r2 next_ out0_ out1_ fail_) = L.FnAnsweredAll_step12 x4 x7 r0 r1 r2 (fun s => g (next_ s)) (fun d => g (out0_ d)) (fun d => g (out1_ d)) (g fail_) := by
  unfold L.FnAnsweredAll_step12; simp only [apply_cnd g, apply_optC g, apply_sumC g]
noncomputable def L.FnAnsweredAll_run12 (x4 : Int) : Nat → Int × (List Int) × (List Int) × (List Int) → Option ((Bool) ⊕ (Unit))
  | 0, _ => none
  | n + 1, s_ => L.FnAnsweredAll_step12 x4 s_.1 s_.2.1 s_.2.2.1 s_.2.2.2 (L.FnAnsweredAll_run12 x4 n) (fun d => some ((Sum.inl d))) (fun d => some ((Sum.inr d))) none
theorem L.FnAnsweredAll_L12_run (x4 : Int) (n : Nat) (s_ : Int × (List Int) × (List Int) × (List Int)) (k : X → St → R) : L.FnAnsweredAll_L12 n { n := 86, t := [(3, (.own 0)), (4, (.int .i64 x4)), (5, (.own 1)), (6, (.own 2)), (7, (.int .i64 s_.1))], h := [.row (.ints .i64 s_.2.1), .row (.ints .i64 s_.2.2.1), .row (.ints .i64 s_.2.2.2)] } k = optC (L.FnAnsweredAll_run12 x4 n s_) (fun (r : (Bool) ⊕ (Unit)) => (sumC r (fun (r : Bool) => k (.ret) { n := 86, t := [(2, (.bool r))], h := [] }) (fun (r : Unit) => k (.exit 0) { n := 86, t := [(2, .junk)], h := [] }))) none := by
  induction n generalizing s_ with
  | zero => rfl
  | succ n ih =>
    have hu : L.FnAnsweredAll_L12 (n + 1) { n := 86, t := [(3, (.own 0)), (4, (.int .i64 x4)), (5, (.own 1)), (6, (.own 2)), (7, (.int .i64 s_.1))], h := [.row (.ints .i64 s_.2.1), .row (.ints .i64 s_.2.2.1), .row (.ints .i64 s_.2.2.2)] } k = L.FnAnsweredAll_step12 x4 s_.1 s_.2.1 s_.2.2.1 s_.2.2.2 (fun s_ => L.FnAnsweredAll_L12 n { n := 86, t := [(3, (.own 0)), (4, (.int .i64 x4)), (5, (.own 1)), (6, (.own 2)), (7, (.int .i64 s_.1))], h := [.row (.ints .i64 s_.2.1), .row (.ints .i64 s_.2.2.1), .row (.ints .i64 s_.2.2.2)] } k) (fun d => k (.ret) { n := 86, t := [(2, (.bool d))], h := [] }) (fun d => k (.exit 0) { n := 86, t := [(2, .junk)], h := [] }) none := by
      kernel_rfl
    have hs : (fun s_ : Int × (List Int) × (List Int) × (List Int) => L.FnAnsweredAll_L12 n { n := 86, t := [(3, (.own 0)), (4, (.int .i64 x4)), (5, (.own 1)), (6, (.own 2)), (7, (.int .i64 s_.1))], h := [.row (.ints .i64 s_.2.1), .row (.ints .i64 s_.2.2.1), .row (.ints .i64 s_.2.2.2)] } k) = fun s_ => optC (L.FnAnsweredAll_run12 x4 n s_) (fun (r : (Bool) ⊕ (Unit)) => (sumC r (fun (r : Bool) => k (.ret) { n := 86, t := [(2, (.bool r))], h := [] }) (fun (r : Unit) => k (.exit 0) { n := 86, t := [(2, .junk)], h := [] }))) none := funext ih
    rw [hu, hs]
    exact (L.FnAnsweredAll_step12_nat (fun o => optC o (fun (r : (Bool) ⊕ (Unit)) => (sumC r (fun (r : Bool) => k (.ret) { n := 86, t := [(2, (.bool r))], h := [] }) (fun (r : Unit) => k (.exit 0) { n := 86, t := [(2, .junk)], h := [] }))) none) x4 s_.1 s_.2.1 s_.2.2.1 s_.2.2.2 (L.FnAnsweredAll_run12 x4 n) (fun d => some ((Sum.inl d))) (fun d => some ((Sum.inr d))) none).symm
noncomputable def L.FnAnsweredAll_tree {α : Type} (code : List Int) (leaf0_ : Bool → α) (fail_ : α) : α :=
  (bif decide ((↑code.length : Int) > 1048576) then (leaf0_ true) else (optC (S.DrawAnsweredAll_t code) (fun c_1 => (optC (I.AnsweredAll_t c_1.snd.fst c_1.fst c_1.snd.snd) (fun c_2 => (optC (S.AnsweredAll_t c_1.snd.fst c_1.fst c_1.snd.snd) (fun c_3 => (optC (L.sameInts_t c_2 c_3) (fun c_4 => (bif !c_4 then (leaf0_ false) else (bif (↑c_2.length : Int) == 0 then (optC (L.alive_t) (fun c_5 => (leaf0_ c_5)) fail_) else (bif !(↑c_2.length : Int) == IntKind.i64.wrap ((↑c_1.snd.snd.length : Int) + 1) then (leaf0_ false) else (bif decide (0 < (↑c_2.length : Int)) then (bif decide (0 < c_2.length) then (bif !eli c_2 0 == c_1.fst then (leaf0_ false) else (optC (L.FnAnsweredAll_run12 c_1.fst FUEL (0, c_1.snd.fst, c_1.snd.snd, c_2)) (fun qy_9 => (sumC qy_9 (fun (qy_9 : Bool) => (leaf0_ qy_9)) (fun (qy_9 : Unit) => (leaf0_ true)))) fail_)) else fail_) else fail_))))) fail_)) fail_)) fail_)) fail_))
theorem L.FnAnsweredAll_tree_nat {α γ : Type} (g : α → γ) (code : List Int) (leaf0_ : Bool → α) (fail_ : α) : g (L.FnAnsweredAll_tree code leaf0_ fail_) = L.FnAnsweredAll_tree code (fun d => g (leaf0_ d)) (g fail_) := by
  unfold L.FnAnsweredAll_tree; simp only [apply_cnd g, apply_optC g, apply_sumC g]
noncomputable def L.FnAnsweredAll_t (code : List Int) : Option (Bool) := L.FnAnsweredAll_tree code (fun d => some d) none
theorem L.FnAnsweredAll_den (code : List Int) (κ : V → List E → R) : L.FnAnsweredAll_F [.ro true (.ints .u8 code)] [] κ = optC (L.FnAnsweredAll_t code) (fun (r : Bool) => κ (.bool r) []) none := by
  have hu : L.FnAnsweredAll_F [.ro true (.ints .u8 code)] [] κ = L.FnAnsweredAll_tree code (fun d => κ (.bool d) []) none := by
    refine Eq.trans (show L.FnAnsweredAll_F [.ro true (.ints .u8 code)] [] κ = (bif decide ((↑code.length : Int) > 1048576) then (κ (.bool true) []) else (optC (S.DrawAnsweredAll_t code) (fun c_1 => (optC (I.AnsweredAll_t c_1.snd.fst c_1.fst c_1.snd.snd) (fun c_2 => (optC (S.AnsweredAll_t c_1.snd.fst c_1.fst c_1.snd.snd) (fun c_3 => (optC (L.sameInts_t c_2 c_3) (fun c_4 => (bif !c_4 then (κ (.bool false) []) else (bif (↑c_2.length : Int) == 0 then (optC (L.alive_t) (fun c_5 => (κ (.bool c_5) [])) none) else (bif !(↑c_2.length : Int) == IntKind.i64.wrap ((↑c_1.snd.snd.length : Int) + 1) then (κ (.bool false) []) else (bif decide (0 < (↑c_2.length : Int)) then (bif decide (0 < c_2.length) then (bif !eli c_2 0 == c_1.fst then (κ (.bool false) []) else (L.FnAnsweredAll_L12 FUEL { n := 86, t := [(3, (.own 0)), (4, (.int .i64 c_1.fst)), (5, (.own 1)), (6, (.own 2)), (7, (.int .i64 0))], h := [.row (.ints .i64 c_1.snd.fst), .row (.ints .i64 c_1.snd.snd), .row (.ints .i64 c_2)] } (L.FnAnsweredAll_k12 κ))) else none) else none))))) none)) none)) none)) none)) by kernel_rfl) ?_
    refine cnd_congr ?_ ?_
    · kernel_rfl
    · refine optC_congr (fun c_1 => ?_)
      refine optC_congr (fun c_2 => ?_)
      refine optC_congr (fun c_3 => ?_)
      refine optC_congr (fun c_4 => ?_)
      refine cnd_congr ?_ ?_
      · kernel_rfl
      · refine cnd_congr ?_ ?_
        · kernel_rfl
        · refine cnd_congr ?_ ?_
          · kernel_rfl
          · refine cnd_congr ?_ ?_
            · refine cnd_congr ?_ ?_
              · refine cnd_congr ?_ ?_
                · kernel_rfl
                · refine (L.FnAnsweredAll_L12_run c_1.fst FUEL (0, c_1.snd.fst, c_1.snd.snd, c_2) (L.FnAnsweredAll_k12 κ)).trans (optC_congr (fun qy_9 => ?_))
                  rcases qy_9 with qy_9 | qy_9
                  · kernel_rfl
                  · kernel_rfl
              · kernel_rfl
            · kernel_rfl
  rw [hu]
  exact (L.FnAnsweredAll_tree_nat (fun o => optC o (fun (r : Bool) => κ (.bool r) []) none) code (fun d => some d) none).symm
noncomputable def L.FnAnsweredAll_s : D.Spec where
  keep := true
  pure := true
  ds := [.int .u8]
  sp := fun args h κ => match args, h with
    | [.ro true (.ints .u8 code)], [] => optC (L.FnAnsweredAll_t code) (fun (r : Bool) => κ (.bool r) []) none
    | _, _ => none
theorem L.FnAnsweredAll_ok : SpecOk Try.prog 11 L.FnAnsweredAll_s := by
  refine SpecOk.of TDok mixed (T := L.FnAnsweredAll_T) ?_ (ann := L.FnAnsweredAll_ann) Try.func11 rfl (by decide +kernel) ?_ ?_ ?_
  · intro p hp
    simp only [L.FnAnsweredAll_T, List.mem_cons, List.not_mem_nil, or_false] at hp
    rcases hp with rfl | rfl | rfl | rfl | rfl | rfl | rfl
    · exact S.DrawAnsweredAll_ok
    · exact I.AnsweredAll_ok
    · exact S.AnsweredAll_ok
    · exact L.sameInts_ok
    · exact L.alive_ok
    · exact I.EternalOk_ok
    · exact L.sizeOf_ok
  · intro args h κ r hh
    simp only [L.FnAnsweredAll_s] at hh
    split at hh
    · exact (L.FnAnsweredAll_den _ κ).trans hh
    · cases hh
  · intro args h κ r hh
    simp only [L.FnAnsweredAll_s] at hh ⊢
    split at hh
    · exact optC_law2 (F := fun (r : Bool) κ => κ (.bool r) []) (fun b κ r hb => ⟨_, _, hb, fun _ => rfl⟩) hh
    · cases hh
  · intro _ args h κ r hh
    simp only [L.FnAnsweredAll_s] at hh
    split at hh
    · exact ⟨rfl, fun _ => rfl⟩
    · cases hh

-- loop.example/guardsonnets/laws.FnExactAnsweredAll
noncomputable def L.FnExactAnsweredAll_T : List (Nat × D.Spec) := [(20, L.toIntS_s), (40, S.AnsweredAll_s), (39, I.AnsweredAll_s), (21, L.eqIntS_s), (29, L.markIntS_s), (30, L.heldIntS_s)]
def L.FnExactAnsweredAll_ann : Nat → List Nat × List Nat
  | _ => ([], [])
noncomputable def L.FnExactAnsweredAll_F (args : List V) (h : List E) (κ : V → List E → R) : R := funC TD (tableK L.FnExactAnsweredAll_T) L.FnExactAnsweredAll_ann (drawOk (tableP L.FnExactAnsweredAll_T)) FUEL Try.f12 args h κ
noncomputable def L.FnExactAnsweredAll_tree {α : Type} (aNet : List Int) (aSet : Int) (aPlaces : List Int) (leaf0_ : Bool → α) (fail_ : α) : α :=
  (bif decide ((↑aNet.length : Int) > 1048576) then (leaf0_ true) else (bif decide ((↑aPlaces.length : Int) > 1048576) then (leaf0_ true) else (optC (L.toIntS_t aNet) (fun c_1 => (optC (L.toIntS_t aPlaces) (fun c_2 => (optC (S.AnsweredAll_t c_1 aSet c_2) (fun c_3 => (optC (L.toIntS_t aNet) (fun c_4 => (optC (L.toIntS_t aPlaces) (fun c_5 => (optC (I.AnsweredAll_t c_4 aSet c_5) (fun c_6 => (optC (L.eqIntS_t c_6 c_3) (fun c_7 => (bif !c_7 then (leaf0_ false) else (optC (L.toIntS_t aNet) (fun c_8 => (optC (L.eqIntS_t c_4 c_8) (fun c_9 => (bif !c_9 then (leaf0_ false) else (optC (L.toIntS_t aPlaces) (fun c_10 => (optC (L.eqIntS_t c_5 c_10) (fun c_11 => (bif !c_11 then (leaf0_ false) else (optC (L.markIntS_t c_4 1) (fun c_12 => (optC (L.markIntS_t c_5 c_12.fst) (fun c_13 => (bif decide (c_13.fst < 0) then (leaf0_ false) else (optC (L.eqIntS_t c_6 c_3) (fun c_14 => (bif !c_14 then (leaf0_ false) else (optC (L.markIntS_t c_6 1) (fun c_15 => (optC (L.heldIntS_t c_15.snd 1) (fun c_16 => (bif decide (c_16 < 0) then (leaf0_ false) else (bif !c_16 == c_15.fst then (leaf0_ false) else (optC (L.toIntS_t aNet) (fun c_17 => (optC (L.toIntS_t aPlaces) (fun c_18 => (optC (I.AnsweredAll_t c_17 aSet c_18) (fun c_19 => (optC (L.eqIntS_t c_19 c_3) (fun c_20 => (bif !c_20 then (leaf0_ false) else (optC (L.heldIntS_t c_15.snd 1) (fun c_21 => (bif decide (c_21 < 0) then (leaf0_ false) else (bif !c_21 == c_15.fst then (leaf0_ false) else (leaf0_ true)))) fail_))) fail_)) fail_)) fail_)) fail_)))) fail_)) fail_))) fail_))) fail_)) fail_))) fail_)) fail_))) fail_)) fail_))) fail_)) fail_)) fail_)) fail_)) fail_)) fail_)) fail_)))
theorem L.FnExactAnsweredAll_tree_nat {α γ : Type} (g : α → γ) (aNet : List Int) (aSet : Int) (aPlaces : List Int) (leaf0_ : Bool → α) (fail_ : α) : g (L.FnExactAnsweredAll_tree aNet aSet aPlaces leaf0_ fail_) = L.FnExactAnsweredAll_tree aNet aSet aPlaces (fun d => g (leaf0_ d)) (g fail_) := by
  unfold L.FnExactAnsweredAll_tree; simp only [apply_cnd g, apply_optC g, apply_sumC g]
noncomputable def L.FnExactAnsweredAll_t (aNet : List Int) (aSet : Int) (aPlaces : List Int) : Option (Bool) := L.FnExactAnsweredAll_tree aNet aSet aPlaces (fun d => some d) none
theorem L.FnExactAnsweredAll_den (aNet : List Int) (aSet : Int) (aPlaces : List Int) (κ : V → List E → R) : L.FnExactAnsweredAll_F [.ro true (.ints .i64 aNet), .int .i64 aSet, .ro true (.ints .i64 aPlaces)] [] κ = optC (L.FnExactAnsweredAll_t aNet aSet aPlaces) (fun (r : Bool) => κ (.bool r) []) none := by
  have hu : L.FnExactAnsweredAll_F [.ro true (.ints .i64 aNet), .int .i64 aSet, .ro true (.ints .i64 aPlaces)] [] κ = L.FnExactAnsweredAll_tree aNet aSet aPlaces (fun d => κ (.bool d) []) none := by
    kernel_rfl
  rw [hu]
  exact (L.FnExactAnsweredAll_tree_nat (fun o => optC o (fun (r : Bool) => κ (.bool r) []) none) aNet aSet aPlaces (fun d => some d) none).symm
noncomputable def L.FnExactAnsweredAll_s : D.Spec where
  keep := true
  pure := true
  ds := [.int .i64, .invalid, .int .i64]
  sp := fun args h κ => match args, h with
    | [.ro true (.ints .i64 aNet), .int .i64 aSet, .ro true (.ints .i64 aPlaces)], [] => optC (L.FnExactAnsweredAll_t aNet aSet aPlaces) (fun (r : Bool) => κ (.bool r) []) none
    | _, _ => none
theorem L.FnExactAnsweredAll_ok : SpecOk Try.prog 12 L.FnExactAnsweredAll_s := by
  refine SpecOk.of TDok mixed (T := L.FnExactAnsweredAll_T) ?_ (ann := L.FnExactAnsweredAll_ann) Try.func12 rfl (by decide +kernel) ?_ ?_ ?_
  · intro p hp
    simp only [L.FnExactAnsweredAll_T, List.mem_cons, List.not_mem_nil, or_false] at hp
    rcases hp with rfl | rfl | rfl | rfl | rfl | rfl
    · exact L.toIntS_ok
    · exact S.AnsweredAll_ok
    · exact I.AnsweredAll_ok
    · exact L.eqIntS_ok
    · exact L.markIntS_ok
    · exact L.heldIntS_ok
  · intro args h κ r hh
    simp only [L.FnExactAnsweredAll_s] at hh
    split at hh
    · exact (L.FnExactAnsweredAll_den _ _ _ κ).trans hh
    · cases hh
  · intro args h κ r hh
    simp only [L.FnExactAnsweredAll_s] at hh ⊢
    split at hh
    · exact optC_law2 (F := fun (r : Bool) κ => κ (.bool r) []) (fun b κ r hb => ⟨_, _, hb, fun _ => rfl⟩) hh
    · cases hh
  · intro _ args h κ r hh
    simp only [L.FnExactAnsweredAll_s] at hh
    split at hh
    · exact ⟨rfl, fun _ => rfl⟩
    · cases hh


end Go.Proofs.Ytbfgmhhmnnjajaa
