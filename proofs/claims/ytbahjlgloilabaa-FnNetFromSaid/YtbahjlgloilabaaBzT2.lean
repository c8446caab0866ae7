/- Twins of the translated functions, with their proofs. Conditions: none. -/
import Derived.Test.YtbahjlgloilabaaBzT1
set_option linter.unusedVariables false
set_option linter.unusedSimpArgs false
set_option linter.unusedSectionVars false
namespace Go.Proofs.Ytbahjlgloilabaa
open D Go.RowKit
-- loop.example/guardsonnets/impl.NetBytes
noncomputable def I.NetBytes_T : List (Nat × D.Spec) := [(14, I.NetOk_s)]
def I.NetBytes_ann : Nat → List Nat × List Nat
  | 6 => ([0, 3, 4, 5], [3, 4])
  | _ => ([], [])
noncomputable def I.NetBytes_F (args : List V) (h : List E) (κ : V → List E → R) : R := funC TD (tableK I.NetBytes_T) I.NetBytes_ann (drawOk TD (tableP I.NetBytes_T)) FUEL Try.f25 args h κ
noncomputable def I.NetBytes_L6 (n : Nat) (σ : St) (k : X → St → R) : R := iterC 0 (fun σ k => denC TD (tableK I.NetBytes_T) I.NetBytes_ann (drawOk TD (tableP I.NetBytes_T)) 0 FUEL ((findLoop 6 (Try.f25.body.getD .skip)).getD .skip) σ k) [0, 3, 4, 5] [3, 4] n σ k
noncomputable def I.NetBytes_k6 (κ : V → List E → R) : X → St → R := (afterC TD (tableK I.NetBytes_T) I.NetBytes_ann (drawOk TD (tableP I.NetBytes_T)) 0 FUEL 6 (Try.f25.body.getD .skip) (finC TD 0 Try.f25 κ)).getD (fun _ _ => none)
noncomputable def I.NetBytes_step6 {α : Type} (x0 : List Int) (x4 : Int) (x5 : Int) (r0 : List Int) (next_ : Int × Int × (List Int) → α) (out0_ : Int × (List Int) → α) (fail_ : α) : α :=
  (bif decide (x5 < (↑x0.length : Int)) then (bif decide (0 ≤ x5) && decide (x5 < (↑x0.length : Int)) then (bif small (r0 ++ [IntKind.u8.wrap (eli x0 x5.toNat)]).length then (bif decide (0 ≤ x5) && decide (x5 < (↑x0.length : Int)) then (next_ (IntKind.i64.wrap (x4 + eli x0 x5.toNat), IntKind.i64.wrap (x5 + 1), r0 ++ [IntKind.u8.wrap (eli x0 x5.toNat)])) else fail_) else fail_) else fail_) else (out0_ (x4, r0)))
theorem I.NetBytes_step6_nat {α γ : Type} (g : α → γ) (x0 : List Int) (x4 : Int) (x5 : Int) (r0 : List Int) (next_ : Int × Int × (List Int) → α) (out0_ : Int × (List Int) → α) (fail_ : α) : g (I.NetBytes_step6 x0 x4 x5 r0 next_ out0_ fail_) = I.NetBytes_step6 x0 x4 x5 r0 (fun s => g (next_ s)) (fun d => g (out0_ d)) (g fail_) := by
  unfold I.NetBytes_step6; simp only [apply_cnd g, apply_optC g, apply_sumC g]
noncomputable def I.NetBytes_run6 (x0 : List Int) : Nat → Int × Int × (List Int) → Option (Int × (List Int))
  | 0, _ => none
  | n + 1, s_ => I.NetBytes_step6 x0 s_.1 s_.2.1 s_.2.2 (I.NetBytes_run6 x0 n) (fun d => some d) none
theorem I.NetBytes_L6_run (x0 : List Int) (n : Nat) (s_ : Int × Int × (List Int)) (k : X → St → R) : I.NetBytes_L6 n { n := 41, t := [(0, (.ro false (.ints .i64 x0))), (3, (.own 0)), (4, (.int .i64 s_.1)), (5, (.int .i64 s_.2.1))], h := [.row (.ints .u8 s_.2.2)] } k = optC (I.NetBytes_run6 x0 n s_) (fun (r : Int × (List Int)) => k (.exit 0) { n := 41, t := [(3, (.own 0)), (4, (.int .i64 r.1))], h := [.row (.ints .u8 r.2)] }) none := by
  induction n generalizing s_ with
  | zero => rfl
  | succ n ih =>
    have hu : I.NetBytes_L6 (n + 1) { n := 41, t := [(0, (.ro false (.ints .i64 x0))), (3, (.own 0)), (4, (.int .i64 s_.1)), (5, (.int .i64 s_.2.1))], h := [.row (.ints .u8 s_.2.2)] } k = I.NetBytes_step6 x0 s_.1 s_.2.1 s_.2.2 (fun s_ => I.NetBytes_L6 n { n := 41, t := [(0, (.ro false (.ints .i64 x0))), (3, (.own 0)), (4, (.int .i64 s_.1)), (5, (.int .i64 s_.2.1))], h := [.row (.ints .u8 s_.2.2)] } k) (fun d => k (.exit 0) { n := 41, t := [(3, (.own 0)), (4, (.int .i64 d.1))], h := [.row (.ints .u8 d.2)] }) none := by
      kernel_rfl
    have hs : (fun s_ : Int × Int × (List Int) => I.NetBytes_L6 n { n := 41, t := [(0, (.ro false (.ints .i64 x0))), (3, (.own 0)), (4, (.int .i64 s_.1)), (5, (.int .i64 s_.2.1))], h := [.row (.ints .u8 s_.2.2)] } k) = fun s_ => optC (I.NetBytes_run6 x0 n s_) (fun (r : Int × (List Int)) => k (.exit 0) { n := 41, t := [(3, (.own 0)), (4, (.int .i64 r.1))], h := [.row (.ints .u8 r.2)] }) none := funext ih
    rw [hu, hs]
    exact (I.NetBytes_step6_nat (fun o => optC o (fun (r : Int × (List Int)) => k (.exit 0) { n := 41, t := [(3, (.own 0)), (4, (.int .i64 r.1))], h := [.row (.ints .u8 r.2)] }) none) x0 s_.1 s_.2.1 s_.2.2 (I.NetBytes_run6 x0 n) (fun d => some d) none).symm
noncomputable def I.NetBytes_tree {α : Type} (net : List Int) (leaf0_ : List Int → α) (fail_ : α) : α :=
  (optC (I.NetOk_t net) (fun c_1 => (bif !c_1 then (leaf0_ ([])) else (optC (I.NetBytes_run6 net FUEL ((↑net.length : Int), 0, [IntKind.u8.wrap (↑net.length : Int)])) (fun qy_2 => (bif small (qy_2.2 ++ [IntKind.u8.wrap (qy_2.1.tmod 251)]).length then (leaf0_ (qy_2.2 ++ [IntKind.u8.wrap (qy_2.1.tmod 251)])) else fail_)) fail_))) fail_)
theorem I.NetBytes_tree_nat {α γ : Type} (g : α → γ) (net : List Int) (leaf0_ : List Int → α) (fail_ : α) : g (I.NetBytes_tree net leaf0_ fail_) = I.NetBytes_tree net (fun d => g (leaf0_ d)) (g fail_) := by
  unfold I.NetBytes_tree; simp only [apply_cnd g, apply_optC g, apply_sumC g]
noncomputable def I.NetBytes_t (net : List Int) : Option (List Int) := I.NetBytes_tree net (fun d => some d) none
theorem I.NetBytes_den (net : List Int) (κ : V → List E → R) : I.NetBytes_F [.ro false (.ints .i64 net)] [] κ = optC (I.NetBytes_t net) (fun (r : List Int) => κ (.own 0) [.row (.ints .u8 r)]) none := by
  have hu : I.NetBytes_F [.ro false (.ints .i64 net)] [] κ = I.NetBytes_tree net (fun d => κ (.own 0) [.row (.ints .u8 d)]) none := by
    refine Eq.trans (show I.NetBytes_F [.ro false (.ints .i64 net)] [] κ = (optC (I.NetOk_t net) (fun c_1 => (bif !c_1 then (κ (.own 0) [.row (.ints .u8 ([]))]) else (I.NetBytes_L6 FUEL { n := 41, t := [(0, (.ro false (.ints .i64 net))), (3, (.own 0)), (4, (.int .i64 ((↑net.length : Int)))), (5, (.int .i64 0))], h := [.row (.ints .u8 ([IntKind.u8.wrap (↑net.length : Int)]))] } (I.NetBytes_k6 κ)))) none) by kernel_rfl) ?_
    refine optC_congr (fun c_1 => ?_)
    refine cnd_congr ?_ ?_
    · kernel_rfl
    · refine (I.NetBytes_L6_run net FUEL ((↑net.length : Int), 0, [IntKind.u8.wrap (↑net.length : Int)]) (I.NetBytes_k6 κ)).trans (optC_congr (fun qy_2 => ?_))
      kernel_rfl
  rw [hu]
  exact (I.NetBytes_tree_nat (fun o => optC o (fun (r : List Int) => κ (.own 0) [.row (.ints .u8 r)]) none) net (fun d => some d) none).symm
noncomputable def I.NetBytes_s : D.Spec where
  keep := false
  pure := false
  add := true
  ds := [.int .i64]
  sp := fun args h κ => match args, h with
    | [.ro false (.ints .i64 net)], [] => optC (I.NetBytes_t net) (fun (r : List Int) => κ (.own 0) [.row (.ints .u8 r)]) none
    | _, _ => none
theorem I.NetBytes_ok : SpecOk Try.prog 25 I.NetBytes_s := by
  refine SpecOk.of TDok mixed (T := I.NetBytes_T) ?_ (ann := I.NetBytes_ann) Try.func25 rfl (by decide +kernel) ?_ ?_ ?_ ?_
  · intro p hp
    simp only [I.NetBytes_T, List.mem_cons, List.not_mem_nil, or_false] at hp
    rcases hp with rfl
    · exact I.NetOk_ok
  · intro args h κ r hh
    simp only [I.NetBytes_s] at hh
    split at hh
    · exact (I.NetBytes_den _ κ).trans hh
    · cases hh
  · intro args h κ r hh
    simp only [I.NetBytes_s] at hh ⊢
    split at hh
    · exact optC_law2 (F := fun (r : List Int) κ => κ (.own 0) [.row (.ints .u8 r)]) (fun b κ r hb => ⟨_, _, hb, fun _ => rfl⟩) hh
    · cases hh
  · intro hh; cases hh
  · intro _ args h κ r hh
    simp only [I.NetBytes_s] at hh
    split at hh
    · rfl
    · cases hh

-- loop.example/guardsonnets/spec.l14Sum
noncomputable def S.l14Sum_T : List (Nat × D.Spec) := []
def S.l14Sum_ann : Nat → List Nat × List Nat
  | 3 => ([0, 3, 4], [3])
  | _ => ([], [])
noncomputable def S.l14Sum_F (args : List V) (h : List E) (κ : V → List E → R) : R := funC TD (tableK S.l14Sum_T) S.l14Sum_ann (drawOk TD (tableP S.l14Sum_T)) FUEL Try.f50 args h κ
noncomputable def S.l14Sum_L3 (n : Nat) (σ : St) (k : X → St → R) : R := iterC 0 (fun σ k => denC TD (tableK S.l14Sum_T) S.l14Sum_ann (drawOk TD (tableP S.l14Sum_T)) 0 FUEL ((findLoop 3 (Try.f50.body.getD .skip)).getD .skip) σ k) [0, 3, 4] [3] n σ k
noncomputable def S.l14Sum_k3 (κ : V → List E → R) : X → St → R := (afterC TD (tableK S.l14Sum_T) S.l14Sum_ann (drawOk TD (tableP S.l14Sum_T)) 0 FUEL 3 (Try.f50.body.getD .skip) (finC TD 0 Try.f50 κ)).getD (fun _ _ => none)
noncomputable def S.l14Sum_step3 {α : Type} (x0 : List Int) (x3 : Int) (x4 : Int) (next_ : Int × Int → α) (out0_ : Int → α) (fail_ : α) : α :=
  (bif decide (x4 < (↑x0.length : Int)) then (bif decide (0 ≤ x4) && decide (x4 < (↑x0.length : Int)) then (next_ ((IntKind.i64.wrap (x3 + IntKind.i64.wrap (eli x0 x4.toNat))).tmod 251, IntKind.i64.wrap (x4 + 1))) else fail_) else (out0_ x3))
theorem S.l14Sum_step3_nat {α γ : Type} (g : α → γ) (x0 : List Int) (x3 : Int) (x4 : Int) (next_ : Int × Int → α) (out0_ : Int → α) (fail_ : α) : g (S.l14Sum_step3 x0 x3 x4 next_ out0_ fail_) = S.l14Sum_step3 x0 x3 x4 (fun s => g (next_ s)) (fun d => g (out0_ d)) (g fail_) := by
  unfold S.l14Sum_step3; simp only [apply_cnd g, apply_optC g, apply_sumC g]
noncomputable def S.l14Sum_run3 (x0 : List Int) : Nat → Int × Int → Option (Int)
  | 0, _ => none
  | n + 1, s_ => S.l14Sum_step3 x0 s_.1 s_.2 (S.l14Sum_run3 x0 n) (fun d => some d) none
theorem S.l14Sum_L3_run (x0 : List Int) (n : Nat) (s_ : Int × Int) (k : X → St → R) : S.l14Sum_L3 n { n := 20, t := [(0, (.ro false (.ints .u8 x0))), (3, (.int .i64 s_.1)), (4, (.int .i64 s_.2))], h := [] } k = optC (S.l14Sum_run3 x0 n s_) (fun (r : Int) => k (.exit 0) { n := 20, t := [(3, (.int .i64 r))], h := [] }) none := by
  induction n generalizing s_ with
  | zero => rfl
  | succ n ih =>
    have hu : S.l14Sum_L3 (n + 1) { n := 20, t := [(0, (.ro false (.ints .u8 x0))), (3, (.int .i64 s_.1)), (4, (.int .i64 s_.2))], h := [] } k = S.l14Sum_step3 x0 s_.1 s_.2 (fun s_ => S.l14Sum_L3 n { n := 20, t := [(0, (.ro false (.ints .u8 x0))), (3, (.int .i64 s_.1)), (4, (.int .i64 s_.2))], h := [] } k) (fun d => k (.exit 0) { n := 20, t := [(3, (.int .i64 d))], h := [] }) none := by
      kernel_rfl
    have hs : (fun s_ : Int × Int => S.l14Sum_L3 n { n := 20, t := [(0, (.ro false (.ints .u8 x0))), (3, (.int .i64 s_.1)), (4, (.int .i64 s_.2))], h := [] } k) = fun s_ => optC (S.l14Sum_run3 x0 n s_) (fun (r : Int) => k (.exit 0) { n := 20, t := [(3, (.int .i64 r))], h := [] }) none := funext ih
    rw [hu, hs]
    exact (S.l14Sum_step3_nat (fun o => optC o (fun (r : Int) => k (.exit 0) { n := 20, t := [(3, (.int .i64 r))], h := [] }) none) x0 s_.1 s_.2 (S.l14Sum_run3 x0 n) (fun d => some d) none).symm
noncomputable def S.l14Sum_tree {α : Type} (b_ : List Int) (leaf0_ : Int → α) (fail_ : α) : α :=
  (optC (S.l14Sum_run3 b_ FUEL (0, 0)) (fun qy_1 => (leaf0_ qy_1)) fail_)
theorem S.l14Sum_tree_nat {α γ : Type} (g : α → γ) (b_ : List Int) (leaf0_ : Int → α) (fail_ : α) : g (S.l14Sum_tree b_ leaf0_ fail_) = S.l14Sum_tree b_ (fun d => g (leaf0_ d)) (g fail_) := by
  unfold S.l14Sum_tree; simp only [apply_cnd g, apply_optC g, apply_sumC g]
noncomputable def S.l14Sum_t (b_ : List Int) : Option (Int) := S.l14Sum_tree b_ (fun d => some d) none
theorem S.l14Sum_den (b_ : List Int) (κ : V → List E → R) : S.l14Sum_F [.ro false (.ints .u8 b_)] [] κ = optC (S.l14Sum_t b_) (fun (r : Int) => κ (.int .i64 r) []) none := by
  have hu : S.l14Sum_F [.ro false (.ints .u8 b_)] [] κ = S.l14Sum_tree b_ (fun d => κ (.int .i64 d) []) none := by
    refine Eq.trans (show S.l14Sum_F [.ro false (.ints .u8 b_)] [] κ = (S.l14Sum_L3 FUEL { n := 20, t := [(0, (.ro false (.ints .u8 b_))), (3, (.int .i64 0)), (4, (.int .i64 0))], h := [] } (S.l14Sum_k3 κ)) by kernel_rfl) ?_
    refine (S.l14Sum_L3_run b_ FUEL (0, 0) (S.l14Sum_k3 κ)).trans (optC_congr (fun qy_1 => ?_))
    kernel_rfl
  rw [hu]
  exact (S.l14Sum_tree_nat (fun o => optC o (fun (r : Int) => κ (.int .i64 r) []) none) b_ (fun d => some d) none).symm
noncomputable def S.l14Sum_s : D.Spec where
  keep := false
  pure := true
  add := true
  ds := [.int .u8]
  sp := fun args h κ => match args, h with
    | [.ro false (.ints .u8 b_)], [] => optC (S.l14Sum_t b_) (fun (r : Int) => κ (.int .i64 r) []) none
    | _, _ => none
theorem S.l14Sum_ok : SpecOk Try.prog 50 S.l14Sum_s := by
  refine SpecOk.of TDok mixed (T := S.l14Sum_T) ?_ (ann := S.l14Sum_ann) Try.func50 rfl (by decide +kernel) ?_ ?_ ?_ ?_
  · intro p hp; cases hp
  · intro args h κ r hh
    simp only [S.l14Sum_s] at hh
    split at hh
    · exact (S.l14Sum_den _ κ).trans hh
    · cases hh
  · intro args h κ r hh
    simp only [S.l14Sum_s] at hh ⊢
    split at hh
    · exact optC_law2 (F := fun (r : Int) κ => κ (.int .i64 r) []) (fun b κ r hb => ⟨_, _, hb, fun _ => rfl⟩) hh
    · cases hh
  · intro _ args h κ r hh
    simp only [S.l14Sum_s] at hh
    split at hh
    · exact ⟨rfl, fun _ => rfl⟩
    · cases hh
  · intro _ args h κ r hh
    simp only [S.l14Sum_s] at hh
    split at hh
    · rfl
    · cases hh

-- loop.example/guardsonnets/spec.NetBytes
noncomputable def S.NetBytes_T : List (Nat × D.Spec) := [(38, S.NetOk_s), (50, S.l14Sum_s)]
def S.NetBytes_ann : Nat → List Nat × List Nat
  | 6 => ([0, 3, 4], [3])
  | _ => ([], [])
noncomputable def S.NetBytes_F (args : List V) (h : List E) (κ : V → List E → R) : R := funC TD (tableK S.NetBytes_T) S.NetBytes_ann (drawOk TD (tableP S.NetBytes_T)) FUEL Try.f26 args h κ
noncomputable def S.NetBytes_L6 (n : Nat) (σ : St) (k : X → St → R) : R := iterC 0 (fun σ k => denC TD (tableK S.NetBytes_T) S.NetBytes_ann (drawOk TD (tableP S.NetBytes_T)) 0 FUEL ((findLoop 6 (Try.f26.body.getD .skip)).getD .skip) σ k) [0, 3, 4] [3] n σ k
noncomputable def S.NetBytes_k6 (κ : V → List E → R) : X → St → R := (afterC TD (tableK S.NetBytes_T) S.NetBytes_ann (drawOk TD (tableP S.NetBytes_T)) 0 FUEL 6 (Try.f26.body.getD .skip) (finC TD 0 Try.f26 κ)).getD (fun _ _ => none)
noncomputable def S.NetBytes_step6 {α : Type} (x0 : List Int) (x4 : Int) (r0 : List Int) (next_ : Int × (List Int) → α) (out0_ : List Int → α) (fail_ : α) : α :=
  (bif decide (x4 < (↑x0.length : Int)) then (bif decide (0 ≤ x4) && decide (x4 < (↑x0.length : Int)) then (bif small (r0 ++ [IntKind.u8.wrap (eli x0 x4.toNat)]).length then (next_ (IntKind.i64.wrap (x4 + 1), r0 ++ [IntKind.u8.wrap (eli x0 x4.toNat)])) else fail_) else fail_) else (out0_ r0))
theorem S.NetBytes_step6_nat {α γ : Type} (g : α → γ) (x0 : List Int) (x4 : Int) (r0 : List Int) (next_ : Int × (List Int) → α) (out0_ : List Int → α) (fail_ : α) : g (S.NetBytes_step6 x0 x4 r0 next_ out0_ fail_) = S.NetBytes_step6 x0 x4 r0 (fun s => g (next_ s)) (fun d => g (out0_ d)) (g fail_) := by
  unfold S.NetBytes_step6; simp only [apply_cnd g, apply_optC g, apply_sumC g]
noncomputable def S.NetBytes_run6 (x0 : List Int) : Nat → Int × (List Int) → Option (List Int)
  | 0, _ => none
  | n + 1, s_ => S.NetBytes_step6 x0 s_.1 s_.2 (S.NetBytes_run6 x0 n) (fun d => some d) none
theorem S.NetBytes_L6_run (x0 : List Int) (n : Nat) (s_ : Int × (List Int)) (k : X → St → R) : S.NetBytes_L6 n { n := 36, t := [(0, (.ro false (.ints .i64 x0))), (3, (.own 0)), (4, (.int .i64 s_.1))], h := [.row (.ints .u8 s_.2)] } k = optC (S.NetBytes_run6 x0 n s_) (fun (r : List Int) => k (.exit 0) { n := 36, t := [(3, (.own 0))], h := [.row (.ints .u8 r)] }) none := by
  induction n generalizing s_ with
  | zero => rfl
  | succ n ih =>
    have hu : S.NetBytes_L6 (n + 1) { n := 36, t := [(0, (.ro false (.ints .i64 x0))), (3, (.own 0)), (4, (.int .i64 s_.1))], h := [.row (.ints .u8 s_.2)] } k = S.NetBytes_step6 x0 s_.1 s_.2 (fun s_ => S.NetBytes_L6 n { n := 36, t := [(0, (.ro false (.ints .i64 x0))), (3, (.own 0)), (4, (.int .i64 s_.1))], h := [.row (.ints .u8 s_.2)] } k) (fun d => k (.exit 0) { n := 36, t := [(3, (.own 0))], h := [.row (.ints .u8 d)] }) none := by
      kernel_rfl
    have hs : (fun s_ : Int × (List Int) => S.NetBytes_L6 n { n := 36, t := [(0, (.ro false (.ints .i64 x0))), (3, (.own 0)), (4, (.int .i64 s_.1))], h := [.row (.ints .u8 s_.2)] } k) = fun s_ => optC (S.NetBytes_run6 x0 n s_) (fun (r : List Int) => k (.exit 0) { n := 36, t := [(3, (.own 0))], h := [.row (.ints .u8 r)] }) none := funext ih
    rw [hu, hs]
    exact (S.NetBytes_step6_nat (fun o => optC o (fun (r : List Int) => k (.exit 0) { n := 36, t := [(3, (.own 0))], h := [.row (.ints .u8 r)] }) none) x0 s_.1 s_.2 (S.NetBytes_run6 x0 n) (fun d => some d) none).symm
noncomputable def S.NetBytes_tree {α : Type} (net : List Int) (leaf0_ : List Int → α) (fail_ : α) : α :=
  (optC (S.NetOk_t net) (fun c_1 => (bif !c_1 then (leaf0_ ([])) else (optC (S.NetBytes_run6 net FUEL (0, [IntKind.u8.wrap (↑net.length : Int)])) (fun qy_2 => (optC (S.l14Sum_t qy_2) (fun c_3 => (bif small (qy_2 ++ [IntKind.u8.wrap c_3]).length then (leaf0_ (qy_2 ++ [IntKind.u8.wrap c_3])) else fail_)) fail_)) fail_))) fail_)
theorem S.NetBytes_tree_nat {α γ : Type} (g : α → γ) (net : List Int) (leaf0_ : List Int → α) (fail_ : α) : g (S.NetBytes_tree net leaf0_ fail_) = S.NetBytes_tree net (fun d => g (leaf0_ d)) (g fail_) := by
  unfold S.NetBytes_tree; simp only [apply_cnd g, apply_optC g, apply_sumC g]
noncomputable def S.NetBytes_t (net : List Int) : Option (List Int) := S.NetBytes_tree net (fun d => some d) none
theorem S.NetBytes_den (net : List Int) (κ : V → List E → R) : S.NetBytes_F [.ro false (.ints .i64 net)] [] κ = optC (S.NetBytes_t net) (fun (r : List Int) => κ (.own 0) [.row (.ints .u8 r)]) none := by
  have hu : S.NetBytes_F [.ro false (.ints .i64 net)] [] κ = S.NetBytes_tree net (fun d => κ (.own 0) [.row (.ints .u8 d)]) none := by
    refine Eq.trans (show S.NetBytes_F [.ro false (.ints .i64 net)] [] κ = (optC (S.NetOk_t net) (fun c_1 => (bif !c_1 then (κ (.own 0) [.row (.ints .u8 ([]))]) else (S.NetBytes_L6 FUEL { n := 36, t := [(0, (.ro false (.ints .i64 net))), (3, (.own 0)), (4, (.int .i64 0))], h := [.row (.ints .u8 ([IntKind.u8.wrap (↑net.length : Int)]))] } (S.NetBytes_k6 κ)))) none) by kernel_rfl) ?_
    refine optC_congr (fun c_1 => ?_)
    refine cnd_congr ?_ ?_
    · kernel_rfl
    · refine (S.NetBytes_L6_run net FUEL (0, [IntKind.u8.wrap (↑net.length : Int)]) (S.NetBytes_k6 κ)).trans (optC_congr (fun qy_2 => ?_))
      kernel_rfl
  rw [hu]
  exact (S.NetBytes_tree_nat (fun o => optC o (fun (r : List Int) => κ (.own 0) [.row (.ints .u8 r)]) none) net (fun d => some d) none).symm
noncomputable def S.NetBytes_s : D.Spec where
  keep := false
  pure := false
  add := true
  ds := [.int .i64]
  sp := fun args h κ => match args, h with
    | [.ro false (.ints .i64 net)], [] => optC (S.NetBytes_t net) (fun (r : List Int) => κ (.own 0) [.row (.ints .u8 r)]) none
    | _, _ => none
theorem S.NetBytes_ok : SpecOk Try.prog 26 S.NetBytes_s := by
  refine SpecOk.of TDok mixed (T := S.NetBytes_T) ?_ (ann := S.NetBytes_ann) Try.func26 rfl (by decide +kernel) ?_ ?_ ?_ ?_
  · intro p hp
    simp only [S.NetBytes_T, List.mem_cons, List.not_mem_nil, or_false] at hp
    rcases hp with rfl | rfl
    · exact S.NetOk_ok
    · exact S.l14Sum_ok
  · intro args h κ r hh
    simp only [S.NetBytes_s] at hh
    split at hh
    · exact (S.NetBytes_den _ κ).trans hh
    · cases hh
  · intro args h κ r hh
    simp only [S.NetBytes_s] at hh ⊢
    split at hh
    · exact optC_law2 (F := fun (r : List Int) κ => κ (.own 0) [.row (.ints .u8 r)]) (fun b κ r hb => ⟨_, _, hb, fun _ => rfl⟩) hh
    · cases hh
  · intro hh; cases hh
  · intro _ args h κ r hh
    simp only [S.NetBytes_s] at hh
    split at hh
    · rfl
    · cases hh

-- loop.example/guardsonnets/impl.NetFrom
noncomputable def I.NetFrom_T : List (Nat × D.Spec) := [(25, I.NetBytes_s)]
def I.NetFrom_ann : Nat → List Nat × List Nat
  | 5 => ([0, 4, 5], [0, 4])
  | _ => ([], [])
noncomputable def I.NetFrom_F (args : List V) (h : List E) (κ : V → List E → R) : R := funC TD (tableK I.NetFrom_T) I.NetFrom_ann (drawOk TD (tableP I.NetFrom_T)) FUEL Try.f27 args h κ
noncomputable def I.NetFrom_L5 (n : Nat) (σ : St) (k : X → St → R) : R := iterC 0 (fun σ k => denC TD (tableK I.NetFrom_T) I.NetFrom_ann (drawOk TD (tableP I.NetFrom_T)) 0 FUEL ((findLoop 5 (Try.f27.body.getD .skip)).getD .skip) σ k) [0, 4, 5] [0, 4] n σ k
noncomputable def I.NetFrom_k5 (κ : V → List E → R) : X → St → R := (afterC TD (tableK I.NetFrom_T) I.NetFrom_ann (drawOk TD (tableP I.NetFrom_T)) 0 FUEL 5 (Try.f27.body.getD .skip) (finC TD 0 Try.f27 κ)).getD (fun _ _ => none)
noncomputable def I.NetFrom_step5 {α : Type} (x0 : List Int) (x5 : Int) (r0 : List Int) (next_ : Int × (List Int) → α) (out0_ : List Int → α) (fail_ : α) : α :=
  (bif decide (x5 < (↑r0.length : Int)) then (bif decide (0 ≤ IntKind.i64.wrap (x5 + 1)) && decide (IntKind.i64.wrap (x5 + 1) < (↑x0.length : Int)) then (bif decide (0 ≤ x5) && decide (x5 < (↑r0.length : Int)) then (bif decide (x5.toNat < r0.length) then (next_ (IntKind.i64.wrap (x5 + 1), r0.set x5.toNat (IntKind.i64.wrap (eli x0 (IntKind.i64.wrap (x5 + 1)).toNat)))) else fail_) else fail_) else fail_) else (out0_ r0))
theorem I.NetFrom_step5_nat {α γ : Type} (g : α → γ) (x0 : List Int) (x5 : Int) (r0 : List Int) (next_ : Int × (List Int) → α) (out0_ : List Int → α) (fail_ : α) : g (I.NetFrom_step5 x0 x5 r0 next_ out0_ fail_) = I.NetFrom_step5 x0 x5 r0 (fun s => g (next_ s)) (fun d => g (out0_ d)) (g fail_) := by
  unfold I.NetFrom_step5; simp only [apply_cnd g, apply_optC g, apply_sumC g]
noncomputable def I.NetFrom_run5 (x0 : List Int) : Nat → Int × (List Int) → Option (List Int)
  | 0, _ => none
  | n + 1, s_ => I.NetFrom_step5 x0 s_.1 s_.2 (I.NetFrom_run5 x0 n) (fun d => some d) none
theorem I.NetFrom_L5_run (x0 : List Int) (n : Nat) (s_ : Int × (List Int)) (k : X → St → R) : I.NetFrom_L5 n { n := 40, t := [(0, (.ro false (.ints .u8 x0))), (4, (.own 0)), (5, (.int .i64 s_.1))], h := [.row (.ints .i64 s_.2)] } k = optC (I.NetFrom_run5 x0 n s_) (fun (r : List Int) => k (.exit 0) { n := 40, t := [(0, (.ro false (.ints .u8 x0))), (4, (.own 0))], h := [.row (.ints .i64 r)] }) none := by
  induction n generalizing s_ with
  | zero => rfl
  | succ n ih =>
    have hu : I.NetFrom_L5 (n + 1) { n := 40, t := [(0, (.ro false (.ints .u8 x0))), (4, (.own 0)), (5, (.int .i64 s_.1))], h := [.row (.ints .i64 s_.2)] } k = I.NetFrom_step5 x0 s_.1 s_.2 (fun s_ => I.NetFrom_L5 n { n := 40, t := [(0, (.ro false (.ints .u8 x0))), (4, (.own 0)), (5, (.int .i64 s_.1))], h := [.row (.ints .i64 s_.2)] } k) (fun d => k (.exit 0) { n := 40, t := [(0, (.ro false (.ints .u8 x0))), (4, (.own 0))], h := [.row (.ints .i64 d)] }) none := by
      kernel_rfl
    have hs : (fun s_ : Int × (List Int) => I.NetFrom_L5 n { n := 40, t := [(0, (.ro false (.ints .u8 x0))), (4, (.own 0)), (5, (.int .i64 s_.1))], h := [.row (.ints .i64 s_.2)] } k) = fun s_ => optC (I.NetFrom_run5 x0 n s_) (fun (r : List Int) => k (.exit 0) { n := 40, t := [(0, (.ro false (.ints .u8 x0))), (4, (.own 0))], h := [.row (.ints .i64 r)] }) none := funext ih
    rw [hu, hs]
    exact (I.NetFrom_step5_nat (fun o => optC o (fun (r : List Int) => k (.exit 0) { n := 40, t := [(0, (.ro false (.ints .u8 x0))), (4, (.own 0))], h := [.row (.ints .i64 r)] }) none) x0 s_.1 s_.2 (I.NetFrom_run5 x0 n) (fun d => some d) none).symm
noncomputable def I.NetFrom_tree {α : Type} (b_ : List Int) (leaf0_ : Bool × (List Int) → α) (fail_ : α) : α :=
  (bif decide ((↑b_.length : Int) < 3) then (leaf0_ (false, [])) else (bif decide ((↑b_.length : Int) > 8) then (leaf0_ (false, [])) else (bif decide (0 ≤ IntKind.i64.wrap ((↑b_.length : Int) - 2)) && small (IntKind.i64.wrap ((↑b_.length : Int) - 2)).toNat && true then (optC (I.NetFrom_run5 b_ FUEL (0, List.replicate (IntKind.i64.wrap ((↑b_.length : Int) - 2)).toNat 0)) (fun qy_1 => (optC (I.NetBytes_t qy_1) (fun c_2 => (bif !strEq (bytesOf c_2) (bytesOf b_) then (leaf0_ (false, [])) else (leaf0_ (true, qy_1)))) fail_)) fail_) else fail_)))
theorem I.NetFrom_tree_nat {α γ : Type} (g : α → γ) (b_ : List Int) (leaf0_ : Bool × (List Int) → α) (fail_ : α) : g (I.NetFrom_tree b_ leaf0_ fail_) = I.NetFrom_tree b_ (fun d => g (leaf0_ d)) (g fail_) := by
  unfold I.NetFrom_tree; simp only [apply_cnd g, apply_optC g, apply_sumC g]
noncomputable def I.NetFrom_t (b_ : List Int) : Option (Bool × (List Int)) := I.NetFrom_tree b_ (fun d => some d) none
theorem I.NetFrom_den (b_ : List Int) (κ : V → List E → R) : I.NetFrom_F [.ro false (.ints .u8 b_)] [] κ = optC (I.NetFrom_t b_) (fun (r : Bool × (List Int)) => κ (.tup [(.own 0), (.bool r.1)]) [.row (.ints .i64 r.2)]) none := by
  have hu : I.NetFrom_F [.ro false (.ints .u8 b_)] [] κ = I.NetFrom_tree b_ (fun d => κ (.tup [(.own 0), (.bool d.1)]) [.row (.ints .i64 d.2)]) none := by
    refine Eq.trans (show I.NetFrom_F [.ro false (.ints .u8 b_)] [] κ = (bif decide ((↑b_.length : Int) < 3) then (κ (.tup [(.own 0), (.bool false)]) [.row (.ints .i64 ([]))]) else (bif decide ((↑b_.length : Int) > 8) then (κ (.tup [(.own 0), (.bool false)]) [.row (.ints .i64 ([]))]) else (bif decide (0 ≤ IntKind.i64.wrap ((↑b_.length : Int) - 2)) && small (IntKind.i64.wrap ((↑b_.length : Int) - 2)).toNat && true then (I.NetFrom_L5 FUEL { n := 40, t := [(0, (.ro false (.ints .u8 b_))), (4, (.own 0)), (5, (.int .i64 0))], h := [.row (.ints .i64 (List.replicate (IntKind.i64.wrap ((↑b_.length : Int) - 2)).toNat 0))] } (I.NetFrom_k5 κ)) else none))) by kernel_rfl) ?_
    refine cnd_congr ?_ ?_
    · kernel_rfl
    · refine cnd_congr ?_ ?_
      · kernel_rfl
      · refine cnd_congr ?_ ?_
        · refine (I.NetFrom_L5_run b_ FUEL (0, List.replicate (IntKind.i64.wrap ((↑b_.length : Int) - 2)).toNat 0) (I.NetFrom_k5 κ)).trans (optC_congr (fun qy_1 => ?_))
          kernel_rfl
        · kernel_rfl
  rw [hu]
  exact (I.NetFrom_tree_nat (fun o => optC o (fun (r : Bool × (List Int)) => κ (.tup [(.own 0), (.bool r.1)]) [.row (.ints .i64 r.2)]) none) b_ (fun d => some d) none).symm
noncomputable def I.NetFrom_s : D.Spec where
  keep := false
  pure := false
  add := true
  ds := [.int .u8]
  sp := fun args h κ => match args, h with
    | [.ro false (.ints .u8 b_)], [] => optC (I.NetFrom_t b_) (fun (r : Bool × (List Int)) => κ (.tup [(.own 0), (.bool r.1)]) [.row (.ints .i64 r.2)]) none
    | _, _ => none
theorem I.NetFrom_ok : SpecOk Try.prog 27 I.NetFrom_s := by
  refine SpecOk.of TDok mixed (T := I.NetFrom_T) ?_ (ann := I.NetFrom_ann) Try.func27 rfl (by decide +kernel) ?_ ?_ ?_ ?_
  · intro p hp
    simp only [I.NetFrom_T, List.mem_cons, List.not_mem_nil, or_false] at hp
    rcases hp with rfl
    · exact I.NetBytes_ok
  · intro args h κ r hh
    simp only [I.NetFrom_s] at hh
    split at hh
    · exact (I.NetFrom_den _ κ).trans hh
    · cases hh
  · intro args h κ r hh
    simp only [I.NetFrom_s] at hh ⊢
    split at hh
    · exact optC_law2 (F := fun (r : Bool × (List Int)) κ => κ (.tup [(.own 0), (.bool r.1)]) [.row (.ints .i64 r.2)]) (fun b κ r hb => ⟨_, _, hb, fun _ => rfl⟩) hh
    · cases hh
  · intro hh; cases hh
  · intro _ args h κ r hh
    simp only [I.NetFrom_s] at hh
    split at hh
    · rfl
    · cases hh

-- loop.example/guardsonnets/laws.FnNetBytes
noncomputable def L.FnNetBytes_T : List (Nat × D.Spec) := [(24, S.DrawNetBytes_s), (25, I.NetBytes_s), (26, S.NetBytes_s), (14, I.NetOk_s), (15, L.alive_s), (27, I.NetFrom_s), (17, L.sameInts_s)]
def L.FnNetBytes_ann : Nat → List Nat × List Nat
  | _ => ([], [])
noncomputable def L.FnNetBytes_F (args : List V) (h : List E) (κ : V → List E → R) : R := funC TD (tableK L.FnNetBytes_T) L.FnNetBytes_ann (drawOk TD (tableP L.FnNetBytes_T)) FUEL Try.f7 args h κ
noncomputable def L.FnNetBytes_tree {α : Type} (code : List Int) (leaf0_ : Bool → α) (fail_ : α) : α :=
  (bif decide ((↑code.length : Int) > 1048576) then (leaf0_ true) else (optC (S.DrawNetBytes_t code) (fun c_1 => (optC (I.NetBytes_t c_1) (fun c_2 => (optC (S.NetBytes_t c_1) (fun c_3 => (bif !strEq (bytesOf c_2) (bytesOf c_3) then (leaf0_ false) else (optC (I.NetOk_t c_1) (fun c_4 => (bif !c_4 then (bif (↑c_2.length : Int) == 0 then (optC (L.alive_t) (fun c_5 => (leaf0_ c_5)) fail_) else (leaf0_ false)) else (optC (I.NetFrom_t c_2) (fun c_6 => (bif c_6.fst then (optC (L.sameInts_t c_6.snd c_1) (fun c_7 => (bif c_7 then (leaf0_ ((↑c_2.length : Int) == IntKind.i64.wrap ((↑c_1.length : Int) + 2))) else (leaf0_ false))) fail_) else (leaf0_ false))) fail_))) fail_))) fail_)) fail_)) fail_))
theorem L.FnNetBytes_tree_nat {α γ : Type} (g : α → γ) (code : List Int) (leaf0_ : Bool → α) (fail_ : α) : g (L.FnNetBytes_tree code leaf0_ fail_) = L.FnNetBytes_tree code (fun d => g (leaf0_ d)) (g fail_) := by
  unfold L.FnNetBytes_tree; simp only [apply_cnd g, apply_optC g, apply_sumC g]
noncomputable def L.FnNetBytes_t (code : List Int) : Option (Bool) := L.FnNetBytes_tree code (fun d => some d) none
theorem L.FnNetBytes_den (code : List Int) (κ : V → List E → R) : L.FnNetBytes_F [.ro true (.ints .u8 code)] [] κ = optC (L.FnNetBytes_t code) (fun (r : Bool) => κ (.bool r) []) none := by
  have hu : L.FnNetBytes_F [.ro true (.ints .u8 code)] [] κ = L.FnNetBytes_tree code (fun d => κ (.bool d) []) none := by
    kernel_rfl
  rw [hu]
  exact (L.FnNetBytes_tree_nat (fun o => optC o (fun (r : Bool) => κ (.bool r) []) none) code (fun d => some d) none).symm
noncomputable def L.FnNetBytes_s : D.Spec where
  keep := true
  pure := true
  add := true
  ds := [.int .u8]
  sp := fun args h κ => match args, h with
    | [.ro true (.ints .u8 code)], [] => optC (L.FnNetBytes_t code) (fun (r : Bool) => κ (.bool r) []) none
    | _, _ => none
theorem L.FnNetBytes_ok : SpecOk Try.prog 7 L.FnNetBytes_s := by
  refine SpecOk.of TDok mixed (T := L.FnNetBytes_T) ?_ (ann := L.FnNetBytes_ann) Try.func7 rfl (by decide +kernel) ?_ ?_ ?_ ?_
  · intro p hp
    simp only [L.FnNetBytes_T, List.mem_cons, List.not_mem_nil, or_false] at hp
    rcases hp with rfl | rfl | rfl | rfl | rfl | rfl | rfl
    · exact S.DrawNetBytes_ok
    · exact I.NetBytes_ok
    · exact S.NetBytes_ok
    · exact I.NetOk_ok
    · exact L.alive_ok
    · exact I.NetFrom_ok
    · exact L.sameInts_ok
  · intro args h κ r hh
    simp only [L.FnNetBytes_s] at hh
    split at hh
    · exact (L.FnNetBytes_den _ κ).trans hh
    · cases hh
  · intro args h κ r hh
    simp only [L.FnNetBytes_s] at hh ⊢
    split at hh
    · exact optC_law2 (F := fun (r : Bool) κ => κ (.bool r) []) (fun b κ r hb => ⟨_, _, hb, fun _ => rfl⟩) hh
    · cases hh
  · intro _ args h κ r hh
    simp only [L.FnNetBytes_s] at hh
    split at hh
    · exact ⟨rfl, fun _ => rfl⟩
    · cases hh
  · intro _ args h κ r hh
    simp only [L.FnNetBytes_s] at hh
    split at hh
    · rfl
    · cases hh

-- loop.example/guardsonnets/laws.eqByteS
noncomputable def L.eqByteS_T : List (Nat × D.Spec) := []
def L.eqByteS_ann : Nat → List Nat × List Nat
  | 4 => ([0, 1, 5], [4])
  | _ => ([], [])
noncomputable def L.eqByteS_F (args : List V) (h : List E) (κ : V → List E → R) : R := funC TD (tableK L.eqByteS_T) L.eqByteS_ann (drawOk TD (tableP L.eqByteS_T)) FUEL Try.f28 args h κ
noncomputable def L.eqByteS_L4 (n : Nat) (σ : St) (k : X → St → R) : R := iterC 0 (fun σ k => denC TD (tableK L.eqByteS_T) L.eqByteS_ann (drawOk TD (tableP L.eqByteS_T)) 0 FUEL ((findLoop 4 (Try.f28.body.getD .skip)).getD .skip) σ k) [0, 1, 5] [4] n σ k
noncomputable def L.eqByteS_k4 (κ : V → List E → R) : X → St → R := (afterC TD (tableK L.eqByteS_T) L.eqByteS_ann (drawOk TD (tableP L.eqByteS_T)) 0 FUEL 4 (Try.f28.body.getD .skip) (finC TD 0 Try.f28 κ)).getD (fun _ _ => none)
noncomputable def L.eqByteS_step4 {α : Type} (x0 : List Int) (x1 : List Int) (x5 : Int) (next_ : Int → α) (out0_ : Bool → α) (out1_ : Unit → α) (fail_ : α) : α :=
  (bif decide (x5 < (↑x0.length : Int)) then (bif decide (0 ≤ x5) && decide (x5 < (↑x0.length : Int)) then (bif decide (0 ≤ x5) && decide (x5 < (↑x1.length : Int)) then (bif !eli x0 x5.toNat == eli x1 x5.toNat then (out0_ false) else (next_ (IntKind.i64.wrap (x5 + 1)))) else fail_) else fail_) else (out1_ ()))
theorem L.eqByteS_step4_nat {α γ : Type} (g : α → γ) (x0 : List Int) (x1 : List Int) (x5 : Int) (next_ : Int → α) (out0_ : Bool → α) (out1_ : Unit → α) (fail_ : α) : g (L.eqByteS_step4 x0 x1 x5 next_ out0_ out1_ fail_) = L.eqByteS_step4 x0 x1 x5 (fun s => g (next_ s)) (fun d => g (out0_ d)) (fun d => g (out1_ d)) (g fail_) := by
  unfold L.eqByteS_step4; simp only [apply_cnd g, apply_optC g, apply_sumC g]
noncomputable def L.eqByteS_run4 (x0 : List Int) (x1 : List Int) : Nat → Int → Option ((Bool) ⊕ (Unit))
  | 0, _ => none
  | n + 1, s_ => L.eqByteS_step4 x0 x1 s_ (L.eqByteS_run4 x0 x1 n) (fun d => some ((Sum.inl d))) (fun d => some ((Sum.inr d))) none
theorem L.eqByteS_L4_run (x0 : List Int) (x1 : List Int) (n : Nat) (s_ : Int) (k : X → St → R) : L.eqByteS_L4 n { n := 26, t := [(0, (.ro false (.ints .u8 x0))), (1, (.ro false (.ints .u8 x1))), (5, (.int .i64 s_))], h := [] } k = optC (L.eqByteS_run4 x0 x1 n s_) (fun (r : (Bool) ⊕ (Unit)) => (sumC r (fun (r : Bool) => k (.ret) { n := 26, t := [(4, (.bool r))], h := [] }) (fun (r : Unit) => k (.exit 0) { n := 26, t := [(4, .junk)], h := [] }))) none := by
  induction n generalizing s_ with
  | zero => rfl
  | succ n ih =>
    have hu : L.eqByteS_L4 (n + 1) { n := 26, t := [(0, (.ro false (.ints .u8 x0))), (1, (.ro false (.ints .u8 x1))), (5, (.int .i64 s_))], h := [] } k = L.eqByteS_step4 x0 x1 s_ (fun s_ => L.eqByteS_L4 n { n := 26, t := [(0, (.ro false (.ints .u8 x0))), (1, (.ro false (.ints .u8 x1))), (5, (.int .i64 s_))], h := [] } k) (fun d => k (.ret) { n := 26, t := [(4, (.bool d))], h := [] }) (fun d => k (.exit 0) { n := 26, t := [(4, .junk)], h := [] }) none := by
      kernel_rfl
    have hs : (fun s_ : Int => L.eqByteS_L4 n { n := 26, t := [(0, (.ro false (.ints .u8 x0))), (1, (.ro false (.ints .u8 x1))), (5, (.int .i64 s_))], h := [] } k) = fun s_ => optC (L.eqByteS_run4 x0 x1 n s_) (fun (r : (Bool) ⊕ (Unit)) => (sumC r (fun (r : Bool) => k (.ret) { n := 26, t := [(4, (.bool r))], h := [] }) (fun (r : Unit) => k (.exit 0) { n := 26, t := [(4, .junk)], h := [] }))) none := funext ih
    rw [hu, hs]
    exact (L.eqByteS_step4_nat (fun o => optC o (fun (r : (Bool) ⊕ (Unit)) => (sumC r (fun (r : Bool) => k (.ret) { n := 26, t := [(4, (.bool r))], h := [] }) (fun (r : Unit) => k (.exit 0) { n := 26, t := [(4, .junk)], h := [] }))) none) x0 x1 s_ (L.eqByteS_run4 x0 x1 n) (fun d => some ((Sum.inl d))) (fun d => some ((Sum.inr d))) none).symm
noncomputable def L.eqByteS_tree {α : Type} (a : List Int) (b_ : List Int) (leaf0_ : Bool → α) (fail_ : α) : α :=
  (bif !(↑a.length : Int) == (↑b_.length : Int) then (leaf0_ false) else (optC (L.eqByteS_run4 a b_ FUEL 0) (fun qy_1 => (sumC qy_1 (fun (qy_1 : Bool) => (leaf0_ qy_1)) (fun (qy_1 : Unit) => (leaf0_ true)))) fail_))
theorem L.eqByteS_tree_nat {α γ : Type} (g : α → γ) (a : List Int) (b_ : List Int) (leaf0_ : Bool → α) (fail_ : α) : g (L.eqByteS_tree a b_ leaf0_ fail_) = L.eqByteS_tree a b_ (fun d => g (leaf0_ d)) (g fail_) := by
  unfold L.eqByteS_tree; simp only [apply_cnd g, apply_optC g, apply_sumC g]
noncomputable def L.eqByteS_t (a : List Int) (b_ : List Int) : Option (Bool) := L.eqByteS_tree a b_ (fun d => some d) none
theorem L.eqByteS_den (a : List Int) (b_ : List Int) (κ : V → List E → R) : L.eqByteS_F [.ro false (.ints .u8 a), .ro false (.ints .u8 b_)] [] κ = optC (L.eqByteS_t a b_) (fun (r : Bool) => κ (.bool r) []) none := by
  have hu : L.eqByteS_F [.ro false (.ints .u8 a), .ro false (.ints .u8 b_)] [] κ = L.eqByteS_tree a b_ (fun d => κ (.bool d) []) none := by
    refine Eq.trans (show L.eqByteS_F [.ro false (.ints .u8 a), .ro false (.ints .u8 b_)] [] κ = (bif !(↑a.length : Int) == (↑b_.length : Int) then (κ (.bool false) []) else (L.eqByteS_L4 FUEL { n := 26, t := [(0, (.ro false (.ints .u8 a))), (1, (.ro false (.ints .u8 b_))), (5, (.int .i64 0))], h := [] } (L.eqByteS_k4 κ))) by kernel_rfl) ?_
    refine cnd_congr ?_ ?_
    · kernel_rfl
    · refine (L.eqByteS_L4_run a b_ FUEL 0 (L.eqByteS_k4 κ)).trans (optC_congr (fun qy_1 => ?_))
      rcases qy_1 with qy_1 | qy_1
      · kernel_rfl
      · kernel_rfl
  rw [hu]
  exact (L.eqByteS_tree_nat (fun o => optC o (fun (r : Bool) => κ (.bool r) []) none) a b_ (fun d => some d) none).symm
noncomputable def L.eqByteS_s : D.Spec where
  keep := false
  pure := true
  add := true
  ds := [.int .u8, .int .u8]
  sp := fun args h κ => match args, h with
    | [.ro false (.ints .u8 a), .ro false (.ints .u8 b_)], [] => optC (L.eqByteS_t a b_) (fun (r : Bool) => κ (.bool r) []) none
    | _, _ => none
theorem L.eqByteS_ok : SpecOk Try.prog 28 L.eqByteS_s := by
  refine SpecOk.of TDok mixed (T := L.eqByteS_T) ?_ (ann := L.eqByteS_ann) Try.func28 rfl (by decide +kernel) ?_ ?_ ?_ ?_
  · intro p hp; cases hp
  · intro args h κ r hh
    simp only [L.eqByteS_s] at hh
    split at hh
    · exact (L.eqByteS_den _ _ κ).trans hh
    · cases hh
  · intro args h κ r hh
    simp only [L.eqByteS_s] at hh ⊢
    split at hh
    · exact optC_law2 (F := fun (r : Bool) κ => κ (.bool r) []) (fun b κ r hb => ⟨_, _, hb, fun _ => rfl⟩) hh
    · cases hh
  · intro _ args h κ r hh
    simp only [L.eqByteS_s] at hh
    split at hh
    · exact ⟨rfl, fun _ => rfl⟩
    · cases hh
  · intro _ args h κ r hh
    simp only [L.eqByteS_s] at hh
    split at hh
    · rfl
    · cases hh

-- loop.example/guardsonnets/laws.markByteS
noncomputable def L.markByteS_T : List (Nat × D.Spec) := []
def L.markByteS_ann : Nat → List Nat × List Nat
  | 2 => ([0, 1, 5], [1])
  | _ => ([], [])
noncomputable def L.markByteS_F (args : List V) (h : List E) (κ : V → List E → R) : R := funC TD (tableK L.markByteS_T) L.markByteS_ann (drawOk TD (tableP L.markByteS_T)) FUEL Try.f29 args h κ
noncomputable def L.markByteS_L2 (n : Nat) (σ : St) (k : X → St → R) : R := iterC 1 (fun σ k => denC TD (tableK L.markByteS_T) L.markByteS_ann (drawOk TD (tableP L.markByteS_T)) 1 FUEL ((findLoop 2 (Try.f29.body.getD .skip)).getD .skip) σ k) [0, 1, 5] [1] n σ k
noncomputable def L.markByteS_k2 (κ : V → List E → R) : X → St → R := (afterC TD (tableK L.markByteS_T) L.markByteS_ann (drawOk TD (tableP L.markByteS_T)) 1 FUEL 2 (Try.f29.body.getD .skip) (finC TD 1 Try.f29 κ)).getD (fun _ _ => none)
noncomputable def L.markByteS_step2 {α : Type} (x1 : Int) (x5 : Int) (r0 : List Int) (next_ : Int × Int × (List Int) → α) (out0_ : Int × (List Int) → α) (fail_ : α) : α :=
  (bif decide (x5 < (↑r0.length : Int)) then (bif decide (0 ≤ x5) && decide (x5 < (↑r0.length : Int)) then (bif decide (x5.toNat < r0.length) then (next_ (IntKind.i64.wrap (x1 + 1), IntKind.i64.wrap (x5 + 1), r0.set x5.toNat (IntKind.u8.wrap x1))) else fail_) else fail_) else (out0_ (x1, r0)))
theorem L.markByteS_step2_nat {α γ : Type} (g : α → γ) (x1 : Int) (x5 : Int) (r0 : List Int) (next_ : Int × Int × (List Int) → α) (out0_ : Int × (List Int) → α) (fail_ : α) : g (L.markByteS_step2 x1 x5 r0 next_ out0_ fail_) = L.markByteS_step2 x1 x5 r0 (fun s => g (next_ s)) (fun d => g (out0_ d)) (g fail_) := by
  unfold L.markByteS_step2; simp only [apply_cnd g, apply_optC g, apply_sumC g]
noncomputable def L.markByteS_run2 : Nat → Int × Int × (List Int) → Option (Int × (List Int))
  | 0, _ => none
  | n + 1, s_ => L.markByteS_step2 s_.1 s_.2.1 s_.2.2 (L.markByteS_run2 n) (fun d => some d) none
theorem L.markByteS_L2_run (n : Nat) (s_ : Int × Int × (List Int)) (k : X → St → R) : L.markByteS_L2 n { n := 20, t := [(0, (.own 0)), (1, (.int .i64 s_.1)), (5, (.int .i64 s_.2.1))], h := [.row (.ints .u8 s_.2.2)] } k = optC (L.markByteS_run2 n s_) (fun (r : Int × (List Int)) => k (.exit 0) { n := 20, t := [(1, (.int .i64 r.1))], h := [.row (.ints .u8 r.2)] }) none := by
  induction n generalizing s_ with
  | zero => rfl
  | succ n ih =>
    have hu : L.markByteS_L2 (n + 1) { n := 20, t := [(0, (.own 0)), (1, (.int .i64 s_.1)), (5, (.int .i64 s_.2.1))], h := [.row (.ints .u8 s_.2.2)] } k = L.markByteS_step2 s_.1 s_.2.1 s_.2.2 (fun s_ => L.markByteS_L2 n { n := 20, t := [(0, (.own 0)), (1, (.int .i64 s_.1)), (5, (.int .i64 s_.2.1))], h := [.row (.ints .u8 s_.2.2)] } k) (fun d => k (.exit 0) { n := 20, t := [(1, (.int .i64 d.1))], h := [.row (.ints .u8 d.2)] }) none := by
      kernel_rfl
    have hs : (fun s_ : Int × Int × (List Int) => L.markByteS_L2 n { n := 20, t := [(0, (.own 0)), (1, (.int .i64 s_.1)), (5, (.int .i64 s_.2.1))], h := [.row (.ints .u8 s_.2.2)] } k) = fun s_ => optC (L.markByteS_run2 n s_) (fun (r : Int × (List Int)) => k (.exit 0) { n := 20, t := [(1, (.int .i64 r.1))], h := [.row (.ints .u8 r.2)] }) none := funext ih
    rw [hu, hs]
    exact (L.markByteS_step2_nat (fun o => optC o (fun (r : Int × (List Int)) => k (.exit 0) { n := 20, t := [(1, (.int .i64 r.1))], h := [.row (.ints .u8 r.2)] }) none) s_.1 s_.2.1 s_.2.2 (L.markByteS_run2 n) (fun d => some d) none).symm
noncomputable def L.markByteS_tree {α : Type} (a : List Int) (k_ : Int) (leaf0_ : Int × (List Int) → α) (fail_ : α) : α :=
  (optC (L.markByteS_run2 FUEL (k_, 0, a)) (fun qy_1 => (leaf0_ (qy_1.1, qy_1.2))) fail_)
theorem L.markByteS_tree_nat {α γ : Type} (g : α → γ) (a : List Int) (k_ : Int) (leaf0_ : Int × (List Int) → α) (fail_ : α) : g (L.markByteS_tree a k_ leaf0_ fail_) = L.markByteS_tree a k_ (fun d => g (leaf0_ d)) (g fail_) := by
  unfold L.markByteS_tree; simp only [apply_cnd g, apply_optC g, apply_sumC g]
noncomputable def L.markByteS_t (a : List Int) (k_ : Int) : Option (Int × (List Int)) := L.markByteS_tree a k_ (fun d => some d) none
theorem L.markByteS_den (a : List Int) (k_ : Int) (κ : V → List E → R) : L.markByteS_F [.own 0, .int .i64 k_] [.row (.ints .u8 a)] κ = optC (L.markByteS_t a k_) (fun (r : Int × (List Int)) => κ (.int .i64 r.1) [.row (.ints .u8 r.2)]) none := by
  have hu : L.markByteS_F [.own 0, .int .i64 k_] [.row (.ints .u8 a)] κ = L.markByteS_tree a k_ (fun d => κ (.int .i64 d.1) [.row (.ints .u8 d.2)]) none := by
    refine Eq.trans (show L.markByteS_F [.own 0, .int .i64 k_] [.row (.ints .u8 a)] κ = (L.markByteS_L2 FUEL { n := 20, t := [(0, (.own 0)), (1, (.int .i64 k_)), (5, (.int .i64 0))], h := [.row (.ints .u8 a)] } (L.markByteS_k2 κ)) by kernel_rfl) ?_
    refine (L.markByteS_L2_run FUEL (k_, 0, a) (L.markByteS_k2 κ)).trans (optC_congr (fun qy_1 => ?_))
    kernel_rfl
  rw [hu]
  exact (L.markByteS_tree_nat (fun o => optC o (fun (r : Int × (List Int)) => κ (.int .i64 r.1) [.row (.ints .u8 r.2)]) none) a k_ (fun d => some d) none).symm
noncomputable def L.markByteS_s : D.Spec where
  keep := false
  pure := false
  add := false
  ds := [.pointer 0, .invalid]
  sp := fun args h κ => match args, h with
    | [.own 0, .int .i64 k_], [.row (.ints .u8 a)] => optC (L.markByteS_t a k_) (fun (r : Int × (List Int)) => κ (.int .i64 r.1) [.row (.ints .u8 r.2)]) none
    | _, _ => none
theorem L.markByteS_ok : SpecOk Try.prog 29 L.markByteS_s := by
  refine SpecOk.of TDok mixed (T := L.markByteS_T) ?_ (ann := L.markByteS_ann) Try.func29 rfl (by decide +kernel) ?_ ?_ ?_ ?_
  · intro p hp; cases hp
  · intro args h κ r hh
    simp only [L.markByteS_s] at hh
    split at hh
    · exact (L.markByteS_den _ _ κ).trans hh
    · cases hh
  · intro args h κ r hh
    simp only [L.markByteS_s] at hh ⊢
    split at hh
    · exact optC_law2 (F := fun (r : Int × (List Int)) κ => κ (.int .i64 r.1) [.row (.ints .u8 r.2)]) (fun b κ r hb => ⟨_, _, hb, fun _ => rfl⟩) hh
    · cases hh
  · intro hh; cases hh
  · intro hh; cases hh

-- loop.example/guardsonnets/laws.heldByteS
noncomputable def L.heldByteS_T : List (Nat × D.Spec) := []
def L.heldByteS_ann : Nat → List Nat × List Nat
  | 2 => ([0, 1, 5], [1, 4])
  | _ => ([], [])
noncomputable def L.heldByteS_F (args : List V) (h : List E) (κ : V → List E → R) : R := funC TD (tableK L.heldByteS_T) L.heldByteS_ann (drawOk TD (tableP L.heldByteS_T)) FUEL Try.f30 args h κ
noncomputable def L.heldByteS_L2 (n : Nat) (σ : St) (k : X → St → R) : R := iterC 0 (fun σ k => denC TD (tableK L.heldByteS_T) L.heldByteS_ann (drawOk TD (tableP L.heldByteS_T)) 0 FUEL ((findLoop 2 (Try.f30.body.getD .skip)).getD .skip) σ k) [0, 1, 5] [1, 4] n σ k
noncomputable def L.heldByteS_k2 (κ : V → List E → R) : X → St → R := (afterC TD (tableK L.heldByteS_T) L.heldByteS_ann (drawOk TD (tableP L.heldByteS_T)) 0 FUEL 2 (Try.f30.body.getD .skip) (finC TD 0 Try.f30 κ)).getD (fun _ _ => none)
noncomputable def L.heldByteS_step2 {α : Type} (x0 : List Int) (x1 : Int) (x5 : Int) (next_ : Int × Int → α) (out0_ : Int × Int → α) (out1_ : Int → α) (fail_ : α) : α :=
  (bif decide (x5 < (↑x0.length : Int)) then (bif decide (0 ≤ x5) && decide (x5 < (↑x0.length : Int)) then (bif !eli x0 x5.toNat == IntKind.u8.wrap x1 then (out0_ (x1, -1)) else (next_ (IntKind.i64.wrap (x1 + 1), IntKind.i64.wrap (x5 + 1)))) else fail_) else (out1_ x1))
theorem L.heldByteS_step2_nat {α γ : Type} (g : α → γ) (x0 : List Int) (x1 : Int) (x5 : Int) (next_ : Int × Int → α) (out0_ : Int × Int → α) (out1_ : Int → α) (fail_ : α) : g (L.heldByteS_step2 x0 x1 x5 next_ out0_ out1_ fail_) = L.heldByteS_step2 x0 x1 x5 (fun s => g (next_ s)) (fun d => g (out0_ d)) (fun d => g (out1_ d)) (g fail_) := by
  unfold L.heldByteS_step2; simp only [apply_cnd g, apply_optC g, apply_sumC g]
noncomputable def L.heldByteS_run2 (x0 : List Int) : Nat → Int × Int → Option ((Int × Int) ⊕ (Int))
  | 0, _ => none
  | n + 1, s_ => L.heldByteS_step2 x0 s_.1 s_.2 (L.heldByteS_run2 x0 n) (fun d => some ((Sum.inl d))) (fun d => some ((Sum.inr d))) none
theorem L.heldByteS_L2_run (x0 : List Int) (n : Nat) (s_ : Int × Int) (k : X → St → R) : L.heldByteS_L2 n { n := 22, t := [(0, (.ro false (.ints .u8 x0))), (1, (.int .i64 s_.1)), (5, (.int .i64 s_.2))], h := [] } k = optC (L.heldByteS_run2 x0 n s_) (fun (r : (Int × Int) ⊕ (Int)) => (sumC r (fun (r : Int × Int) => k (.ret) { n := 22, t := [(1, (.int .i64 r.1)), (4, (.int .i64 r.2))], h := [] }) (fun (r : Int) => k (.exit 0) { n := 22, t := [(1, (.int .i64 r)), (4, .junk)], h := [] }))) none := by
  induction n generalizing s_ with
  | zero => rfl
  | succ n ih =>
    have hu : L.heldByteS_L2 (n + 1) { n := 22, t := [(0, (.ro false (.ints .u8 x0))), (1, (.int .i64 s_.1)), (5, (.int .i64 s_.2))], h := [] } k = L.heldByteS_step2 x0 s_.1 s_.2 (fun s_ => L.heldByteS_L2 n { n := 22, t := [(0, (.ro false (.ints .u8 x0))), (1, (.int .i64 s_.1)), (5, (.int .i64 s_.2))], h := [] } k) (fun d => k (.ret) { n := 22, t := [(1, (.int .i64 d.1)), (4, (.int .i64 d.2))], h := [] }) (fun d => k (.exit 0) { n := 22, t := [(1, (.int .i64 d)), (4, .junk)], h := [] }) none := by
      kernel_rfl
    have hs : (fun s_ : Int × Int => L.heldByteS_L2 n { n := 22, t := [(0, (.ro false (.ints .u8 x0))), (1, (.int .i64 s_.1)), (5, (.int .i64 s_.2))], h := [] } k) = fun s_ => optC (L.heldByteS_run2 x0 n s_) (fun (r : (Int × Int) ⊕ (Int)) => (sumC r (fun (r : Int × Int) => k (.ret) { n := 22, t := [(1, (.int .i64 r.1)), (4, (.int .i64 r.2))], h := [] }) (fun (r : Int) => k (.exit 0) { n := 22, t := [(1, (.int .i64 r)), (4, .junk)], h := [] }))) none := funext ih
    rw [hu, hs]
    exact (L.heldByteS_step2_nat (fun o => optC o (fun (r : (Int × Int) ⊕ (Int)) => (sumC r (fun (r : Int × Int) => k (.ret) { n := 22, t := [(1, (.int .i64 r.1)), (4, (.int .i64 r.2))], h := [] }) (fun (r : Int) => k (.exit 0) { n := 22, t := [(1, (.int .i64 r)), (4, .junk)], h := [] }))) none) x0 s_.1 s_.2 (L.heldByteS_run2 x0 n) (fun d => some ((Sum.inl d))) (fun d => some ((Sum.inr d))) none).symm
noncomputable def L.heldByteS_tree {α : Type} (a : List Int) (k_ : Int) (leaf0_ : Int → α) (fail_ : α) : α :=
  (optC (L.heldByteS_run2 a FUEL (k_, 0)) (fun qy_1 => (sumC qy_1 (fun (qy_1 : Int × Int) => (leaf0_ qy_1.2)) (fun (qy_1 : Int) => (leaf0_ qy_1)))) fail_)
theorem L.heldByteS_tree_nat {α γ : Type} (g : α → γ) (a : List Int) (k_ : Int) (leaf0_ : Int → α) (fail_ : α) : g (L.heldByteS_tree a k_ leaf0_ fail_) = L.heldByteS_tree a k_ (fun d => g (leaf0_ d)) (g fail_) := by
  unfold L.heldByteS_tree; simp only [apply_cnd g, apply_optC g, apply_sumC g]
noncomputable def L.heldByteS_t (a : List Int) (k_ : Int) : Option (Int) := L.heldByteS_tree a k_ (fun d => some d) none
theorem L.heldByteS_den (a : List Int) (k_ : Int) (κ : V → List E → R) : L.heldByteS_F [.ro false (.ints .u8 a), .int .i64 k_] [] κ = optC (L.heldByteS_t a k_) (fun (r : Int) => κ (.int .i64 r) []) none := by
  have hu : L.heldByteS_F [.ro false (.ints .u8 a), .int .i64 k_] [] κ = L.heldByteS_tree a k_ (fun d => κ (.int .i64 d) []) none := by
    refine Eq.trans (show L.heldByteS_F [.ro false (.ints .u8 a), .int .i64 k_] [] κ = (L.heldByteS_L2 FUEL { n := 22, t := [(0, (.ro false (.ints .u8 a))), (1, (.int .i64 k_)), (5, (.int .i64 0))], h := [] } (L.heldByteS_k2 κ)) by kernel_rfl) ?_
    refine (L.heldByteS_L2_run a FUEL (k_, 0) (L.heldByteS_k2 κ)).trans (optC_congr (fun qy_1 => ?_))
    rcases qy_1 with qy_1 | qy_1
    · kernel_rfl
    · kernel_rfl
  rw [hu]
  exact (L.heldByteS_tree_nat (fun o => optC o (fun (r : Int) => κ (.int .i64 r) []) none) a k_ (fun d => some d) none).symm
noncomputable def L.heldByteS_s : D.Spec where
  keep := false
  pure := true
  add := true
  ds := [.int .u8, .invalid]
  sp := fun args h κ => match args, h with
    | [.ro false (.ints .u8 a), .int .i64 k_], [] => optC (L.heldByteS_t a k_) (fun (r : Int) => κ (.int .i64 r) []) none
    | _, _ => none
theorem L.heldByteS_ok : SpecOk Try.prog 30 L.heldByteS_s := by
  refine SpecOk.of TDok mixed (T := L.heldByteS_T) ?_ (ann := L.heldByteS_ann) Try.func30 rfl (by decide +kernel) ?_ ?_ ?_ ?_
  · intro p hp; cases hp
  · intro args h κ r hh
    simp only [L.heldByteS_s] at hh
    split at hh
    · exact (L.heldByteS_den _ _ κ).trans hh
    · cases hh
  · intro args h κ r hh
    simp only [L.heldByteS_s] at hh ⊢
    split at hh
    · exact optC_law2 (F := fun (r : Int) κ => κ (.int .i64 r) []) (fun b κ r hb => ⟨_, _, hb, fun _ => rfl⟩) hh
    · cases hh
  · intro _ args h κ r hh
    simp only [L.heldByteS_s] at hh
    split at hh
    · exact ⟨rfl, fun _ => rfl⟩
    · cases hh
  · intro _ args h κ r hh
    simp only [L.heldByteS_s] at hh
    split at hh
    · rfl
    · cases hh

-- loop.example/guardsonnets/laws.FnExactNetBytes
noncomputable def L.FnExactNetBytes_T : List (Nat × D.Spec) := [(18, L.toIntS_s), (26, S.NetBytes_s), (25, I.NetBytes_s), (28, L.eqByteS_s), (19, L.eqIntS_s), (22, L.markIntS_s), (29, L.markByteS_s), (30, L.heldByteS_s)]
def L.FnExactNetBytes_ann : Nat → List Nat × List Nat
  | _ => ([], [])
noncomputable def L.FnExactNetBytes_F (args : List V) (h : List E) (κ : V → List E → R) : R := funC TD (tableK L.FnExactNetBytes_T) L.FnExactNetBytes_ann (drawOk TD (tableP L.FnExactNetBytes_T)) FUEL Try.f8 args h κ
noncomputable def L.FnExactNetBytes_tree {α : Type} (aNet : List Int) (leaf0_ : Bool → α) (fail_ : α) : α :=
  (bif decide ((↑aNet.length : Int) > 1048576) then (leaf0_ true) else (optC (L.toIntS_t aNet) (fun c_1 => (optC (S.NetBytes_t c_1) (fun c_2 => (optC (L.toIntS_t aNet) (fun c_3 => (optC (I.NetBytes_t c_3) (fun c_4 => (optC (L.eqByteS_t c_4 c_2) (fun c_5 => (bif !c_5 then (leaf0_ false) else (optC (L.toIntS_t aNet) (fun c_6 => (optC (L.eqIntS_t c_3 c_6) (fun c_7 => (bif !c_7 then (leaf0_ false) else (optC (L.markIntS_t c_3 1) (fun c_8 => (bif decide (c_8.fst < 0) then (leaf0_ false) else (optC (L.eqByteS_t c_4 c_2) (fun c_9 => (bif !c_9 then (leaf0_ false) else (optC (L.markByteS_t c_4 1) (fun c_10 => (optC (L.heldByteS_t c_10.snd 1) (fun c_11 => (bif decide (c_11 < 0) then (leaf0_ false) else (bif !c_11 == c_10.fst then (leaf0_ false) else (optC (L.toIntS_t aNet) (fun c_12 => (optC (I.NetBytes_t c_12) (fun c_13 => (optC (L.eqByteS_t c_13 c_2) (fun c_14 => (bif !c_14 then (leaf0_ false) else (optC (L.heldByteS_t c_10.snd 1) (fun c_15 => (bif decide (c_15 < 0) then (leaf0_ false) else (bif !c_15 == c_10.fst then (leaf0_ false) else (leaf0_ true)))) fail_))) fail_)) fail_)) fail_)))) fail_)) fail_))) fail_))) fail_))) fail_)) fail_))) fail_)) fail_)) fail_)) fail_)) fail_))
theorem L.FnExactNetBytes_tree_nat {α γ : Type} (g : α → γ) (aNet : List Int) (leaf0_ : Bool → α) (fail_ : α) : g (L.FnExactNetBytes_tree aNet leaf0_ fail_) = L.FnExactNetBytes_tree aNet (fun d => g (leaf0_ d)) (g fail_) := by
  unfold L.FnExactNetBytes_tree; simp only [apply_cnd g, apply_optC g, apply_sumC g]
noncomputable def L.FnExactNetBytes_t (aNet : List Int) : Option (Bool) := L.FnExactNetBytes_tree aNet (fun d => some d) none
theorem L.FnExactNetBytes_den (aNet : List Int) (κ : V → List E → R) : L.FnExactNetBytes_F [.ro true (.ints .i64 aNet)] [] κ = optC (L.FnExactNetBytes_t aNet) (fun (r : Bool) => κ (.bool r) []) none := by
  have hu : L.FnExactNetBytes_F [.ro true (.ints .i64 aNet)] [] κ = L.FnExactNetBytes_tree aNet (fun d => κ (.bool d) []) none := by
    kernel_rfl
  rw [hu]
  exact (L.FnExactNetBytes_tree_nat (fun o => optC o (fun (r : Bool) => κ (.bool r) []) none) aNet (fun d => some d) none).symm
noncomputable def L.FnExactNetBytes_s : D.Spec where
  keep := true
  pure := true
  add := true
  ds := [.int .i64]
  sp := fun args h κ => match args, h with
    | [.ro true (.ints .i64 aNet)], [] => optC (L.FnExactNetBytes_t aNet) (fun (r : Bool) => κ (.bool r) []) none
    | _, _ => none
theorem L.FnExactNetBytes_ok : SpecOk Try.prog 8 L.FnExactNetBytes_s := by
  refine SpecOk.of TDok mixed (T := L.FnExactNetBytes_T) ?_ (ann := L.FnExactNetBytes_ann) Try.func8 rfl (by decide +kernel) ?_ ?_ ?_ ?_
  · intro p hp
    simp only [L.FnExactNetBytes_T, List.mem_cons, List.not_mem_nil, or_false] at hp
    rcases hp with rfl | rfl | rfl | rfl | rfl | rfl | rfl | rfl
    · exact L.toIntS_ok
    · exact S.NetBytes_ok
    · exact I.NetBytes_ok
    · exact L.eqByteS_ok
    · exact L.eqIntS_ok
    · exact L.markIntS_ok
    · exact L.markByteS_ok
    · exact L.heldByteS_ok
  · intro args h κ r hh
    simp only [L.FnExactNetBytes_s] at hh
    split at hh
    · exact (L.FnExactNetBytes_den _ κ).trans hh
    · cases hh
  · intro args h κ r hh
    simp only [L.FnExactNetBytes_s] at hh ⊢
    split at hh
    · exact optC_law2 (F := fun (r : Bool) κ => κ (.bool r) []) (fun b κ r hb => ⟨_, _, hb, fun _ => rfl⟩) hh
    · cases hh
  · intro _ args h κ r hh
    simp only [L.FnExactNetBytes_s] at hh
    split at hh
    · exact ⟨rfl, fun _ => rfl⟩
    · cases hh
  · intro _ args h κ r hh
    simp only [L.FnExactNetBytes_s] at hh
    split at hh
    · rfl
    · cases hh

-- loop.example/guardsonnets/spec.DrawNetFrom
noncomputable def S.DrawNetFrom_T : List (Nat × D.Spec) := [(35, S.l20Open_s), (34, S.l20Net_s), (26, S.NetBytes_s), (51, S.l20Rd_pick_s)]
def S.DrawNetFrom_ann : Nat → List Nat × List Nat
  | _ => ([], [])
noncomputable def S.DrawNetFrom_F (args : List V) (h : List E) (κ : V → List E → R) : R := funC TD (tableK S.DrawNetFrom_T) S.DrawNetFrom_ann (drawOk TD (tableP S.DrawNetFrom_T)) FUEL Try.f31 args h κ
noncomputable def S.DrawNetFrom_tree {α : Type} (code : List Int) (leaf0_ : List Int → α) (fail_ : α) : α :=
  (optC (S.l20Open_t code) (fun c_1 => (optC (S.l20Net_t c_1.fst c_1.snd 30) (fun c_2 => (optC (S.NetBytes_t c_2.snd.snd) (fun c_3 => (bif decide ((↑c_3.length : Int) > 0) then (optC (S.l20Rd_pick_t c_2.fst c_2.snd.fst 3) (fun c_4 => (bif c_4.fst == 0 then (optC (S.l20Rd_pick_t c_4.snd.fst c_4.snd.snd (↑c_3.length : Int)) (fun c_5 => (bif decide (0 ≤ c_5.fst) && decide (c_5.fst < (↑c_3.length : Int)) then (bif decide (c_5.fst.toNat < c_3.length) then (optC (S.l20Rd_pick_t c_5.snd.fst c_5.snd.snd 256) (fun c_6 => (bif decide (0 ≤ c_5.fst) && decide (c_5.fst < (↑c_3.length : Int)) then (bif decide (c_5.fst.toNat < c_3.length) then (optC (S.l20Rd_pick_t c_6.snd.fst c_6.snd.snd 15) (fun c_7 => (bif c_7.fst == 0 then (optC (S.l20Rd_pick_t c_7.snd.fst c_7.snd.snd 256) (fun c_8 => (bif small (c_3.set c_5.fst.toNat (IntKind.u8.wrap (IntKind.i64.wrap (IntKind.i64.wrap (eli c_3 c_5.fst.toNat) + c_6.fst))) ++ [IntKind.u8.wrap c_8.fst]).length then (leaf0_ (c_3.set c_5.fst.toNat (IntKind.u8.wrap (IntKind.i64.wrap (IntKind.i64.wrap (eli c_3 c_5.fst.toNat) + c_6.fst))) ++ [IntKind.u8.wrap c_8.fst])) else fail_)) fail_) else (leaf0_ (c_3.set c_5.fst.toNat (IntKind.u8.wrap (IntKind.i64.wrap (IntKind.i64.wrap (eli c_3 c_5.fst.toNat) + c_6.fst))))))) fail_) else fail_) else fail_)) fail_) else fail_) else fail_)) fail_) else (optC (S.l20Rd_pick_t c_4.snd.fst c_4.snd.snd 15) (fun c_9 => (bif c_9.fst == 0 then (optC (S.l20Rd_pick_t c_9.snd.fst c_9.snd.snd 256) (fun c_10 => (bif small (c_3 ++ [IntKind.u8.wrap c_10.fst]).length then (leaf0_ (c_3 ++ [IntKind.u8.wrap c_10.fst])) else fail_)) fail_) else (leaf0_ c_3))) fail_))) fail_) else (optC (S.l20Rd_pick_t c_2.fst c_2.snd.fst 15) (fun c_11 => (bif c_11.fst == 0 then (optC (S.l20Rd_pick_t c_11.snd.fst c_11.snd.snd 256) (fun c_12 => (bif small (c_3 ++ [IntKind.u8.wrap c_12.fst]).length then (leaf0_ (c_3 ++ [IntKind.u8.wrap c_12.fst])) else fail_)) fail_) else (leaf0_ c_3))) fail_))) fail_)) fail_)) fail_)
theorem S.DrawNetFrom_tree_nat {α γ : Type} (g : α → γ) (code : List Int) (leaf0_ : List Int → α) (fail_ : α) : g (S.DrawNetFrom_tree code leaf0_ fail_) = S.DrawNetFrom_tree code (fun d => g (leaf0_ d)) (g fail_) := by
  unfold S.DrawNetFrom_tree; simp only [apply_cnd g, apply_optC g, apply_sumC g]
noncomputable def S.DrawNetFrom_t (code : List Int) : Option (List Int) := S.DrawNetFrom_tree code (fun d => some d) none
theorem S.DrawNetFrom_den (code : List Int) (κ : V → List E → R) : S.DrawNetFrom_F [.ro true (.ints .u8 code)] [] κ = optC (S.DrawNetFrom_t code) (fun (r : List Int) => κ (.own 0) [.row (.ints .u8 r)]) none := by
  have hu : S.DrawNetFrom_F [.ro true (.ints .u8 code)] [] κ = S.DrawNetFrom_tree code (fun d => κ (.own 0) [.row (.ints .u8 d)]) none := by
    kernel_rfl
  rw [hu]
  exact (S.DrawNetFrom_tree_nat (fun o => optC o (fun (r : List Int) => κ (.own 0) [.row (.ints .u8 r)]) none) code (fun d => some d) none).symm
noncomputable def S.DrawNetFrom_s : D.Spec where
  keep := true
  pure := false
  add := true
  ds := [.int .u8]
  sp := fun args h κ => match args, h with
    | [.ro true (.ints .u8 code)], [] => optC (S.DrawNetFrom_t code) (fun (r : List Int) => κ (.own 0) [.row (.ints .u8 r)]) none
    | _, _ => none
theorem S.DrawNetFrom_ok : SpecOk Try.prog 31 S.DrawNetFrom_s := by
  refine SpecOk.of TDok mixed (T := S.DrawNetFrom_T) ?_ (ann := S.DrawNetFrom_ann) Try.func31 rfl (by decide +kernel) ?_ ?_ ?_ ?_
  · intro p hp
    simp only [S.DrawNetFrom_T, List.mem_cons, List.not_mem_nil, or_false] at hp
    rcases hp with rfl | rfl | rfl | rfl
    · exact S.l20Open_ok
    · exact S.l20Net_ok
    · exact S.NetBytes_ok
    · exact S.l20Rd_pick_ok
  · intro args h κ r hh
    simp only [S.DrawNetFrom_s] at hh
    split at hh
    · exact (S.DrawNetFrom_den _ κ).trans hh
    · cases hh
  · intro args h κ r hh
    simp only [S.DrawNetFrom_s] at hh ⊢
    split at hh
    · exact optC_law2 (F := fun (r : List Int) κ => κ (.own 0) [.row (.ints .u8 r)]) (fun b κ r hb => ⟨_, _, hb, fun _ => rfl⟩) hh
    · cases hh
  · intro hh; cases hh
  · intro _ args h κ r hh
    simp only [S.DrawNetFrom_s] at hh
    split at hh
    · rfl
    · cases hh

-- loop.example/guardsonnets/spec.NetFrom
noncomputable def S.NetFrom_T : List (Nat × D.Spec) := [(50, S.l14Sum_s), (38, S.NetOk_s)]
def S.NetFrom_ann : Nat → List Nat × List Nat
  | 5 => ([0, 4, 5], [4])
  | _ => ([], [])
noncomputable def S.NetFrom_F (args : List V) (h : List E) (κ : V → List E → R) : R := funC TD (tableK S.NetFrom_T) S.NetFrom_ann (drawOk TD (tableP S.NetFrom_T)) FUEL Try.f32 args h κ
noncomputable def S.NetFrom_L5 (n : Nat) (σ : St) (k : X → St → R) : R := iterC 0 (fun σ k => denC TD (tableK S.NetFrom_T) S.NetFrom_ann (drawOk TD (tableP S.NetFrom_T)) 0 FUEL ((findLoop 5 (Try.f32.body.getD .skip)).getD .skip) σ k) [0, 4, 5] [4] n σ k
noncomputable def S.NetFrom_k5 (κ : V → List E → R) : X → St → R := (afterC TD (tableK S.NetFrom_T) S.NetFrom_ann (drawOk TD (tableP S.NetFrom_T)) 0 FUEL 5 (Try.f32.body.getD .skip) (finC TD 0 Try.f32 κ)).getD (fun _ _ => none)
noncomputable def S.NetFrom_step5 {α : Type} (x0 : List Int) (x5 : Int) (r0 : List Int) (next_ : Int × (List Int) → α) (out0_ : List Int → α) (fail_ : α) : α :=
  (bif decide (x5 < IntKind.i64.wrap ((↑x0.length : Int) - 1)) then (bif decide (0 ≤ x5) && decide (x5 < (↑x0.length : Int)) then (bif small (r0 ++ [IntKind.i64.wrap (eli x0 x5.toNat)]).length then (next_ (IntKind.i64.wrap (x5 + 1), r0 ++ [IntKind.i64.wrap (eli x0 x5.toNat)])) else fail_) else fail_) else (out0_ r0))
theorem S.NetFrom_step5_nat {α γ : Type} (g : α → γ) (x0 : List Int) (x5 : Int) (r0 : List Int) (next_ : Int × (List Int) → α) (out0_ : List Int → α) (fail_ : α) : g (S.NetFrom_step5 x0 x5 r0 next_ out0_ fail_) = S.NetFrom_step5 x0 x5 r0 (fun s => g (next_ s)) (fun d => g (out0_ d)) (g fail_) := by
  unfold S.NetFrom_step5; simp only [apply_cnd g, apply_optC g, apply_sumC g]
noncomputable def S.NetFrom_run5 (x0 : List Int) : Nat → Int × (List Int) → Option (List Int)
  | 0, _ => none
  | n + 1, s_ => S.NetFrom_step5 x0 s_.1 s_.2 (S.NetFrom_run5 x0 n) (fun d => some d) none
theorem S.NetFrom_L5_run (x0 : List Int) (n : Nat) (s_ : Int × (List Int)) (k : X → St → R) : S.NetFrom_L5 n { n := 57, t := [(0, (.ro false (.ints .u8 x0))), (4, (.own 0)), (5, (.int .i64 s_.1))], h := [.row (.ints .i64 s_.2)] } k = optC (S.NetFrom_run5 x0 n s_) (fun (r : List Int) => k (.exit 0) { n := 57, t := [(4, (.own 0))], h := [.row (.ints .i64 r)] }) none := by
  induction n generalizing s_ with
  | zero => rfl
  | succ n ih =>
    have hu : S.NetFrom_L5 (n + 1) { n := 57, t := [(0, (.ro false (.ints .u8 x0))), (4, (.own 0)), (5, (.int .i64 s_.1))], h := [.row (.ints .i64 s_.2)] } k = S.NetFrom_step5 x0 s_.1 s_.2 (fun s_ => S.NetFrom_L5 n { n := 57, t := [(0, (.ro false (.ints .u8 x0))), (4, (.own 0)), (5, (.int .i64 s_.1))], h := [.row (.ints .i64 s_.2)] } k) (fun d => k (.exit 0) { n := 57, t := [(4, (.own 0))], h := [.row (.ints .i64 d)] }) none := by
      kernel_rfl
    have hs : (fun s_ : Int × (List Int) => S.NetFrom_L5 n { n := 57, t := [(0, (.ro false (.ints .u8 x0))), (4, (.own 0)), (5, (.int .i64 s_.1))], h := [.row (.ints .i64 s_.2)] } k) = fun s_ => optC (S.NetFrom_run5 x0 n s_) (fun (r : List Int) => k (.exit 0) { n := 57, t := [(4, (.own 0))], h := [.row (.ints .i64 r)] }) none := funext ih
    rw [hu, hs]
    exact (S.NetFrom_step5_nat (fun o => optC o (fun (r : List Int) => k (.exit 0) { n := 57, t := [(4, (.own 0))], h := [.row (.ints .i64 r)] }) none) x0 s_.1 s_.2 (S.NetFrom_run5 x0 n) (fun d => some d) none).symm
noncomputable def S.NetFrom_tree {α : Type} (b_ : List Int) (leaf0_ : Bool × (List Int) → α) (fail_ : α) : α :=
  (bif decide ((↑b_.length : Int) < 3) then (leaf0_ (false, [])) else (bif decide (0 < (↑b_.length : Int)) then (bif !(↑b_.length : Int) == IntKind.i64.wrap (IntKind.i64.wrap (eli b_ (Int.toNat 0)) + 2) then (leaf0_ (false, [])) else (bif decide (0 ≤ IntKind.i64.wrap ((↑b_.length : Int) - 1)) && decide (IntKind.i64.wrap ((↑b_.length : Int) - 1) ≤ (↑b_.length : Int)) then (optC (S.l14Sum_t (List.take (IntKind.i64.wrap ((↑b_.length : Int) - 1)).toNat (List.drop 0 b_))) (fun c_1 => (bif decide (0 ≤ IntKind.i64.wrap ((↑b_.length : Int) - 1)) && decide (IntKind.i64.wrap ((↑b_.length : Int) - 1) < (↑b_.length : Int)) then (bif !c_1 == IntKind.i64.wrap (eli b_ (IntKind.i64.wrap ((↑b_.length : Int) - 1)).toNat) then (leaf0_ (false, [])) else (optC (S.NetFrom_run5 b_ FUEL (1, [])) (fun qy_2 => (optC (S.NetOk_t qy_2) (fun c_3 => (bif !c_3 then (leaf0_ (false, [])) else (leaf0_ (true, qy_2)))) fail_)) fail_)) else fail_)) fail_) else fail_)) else fail_))
theorem S.NetFrom_tree_nat {α γ : Type} (g : α → γ) (b_ : List Int) (leaf0_ : Bool × (List Int) → α) (fail_ : α) : g (S.NetFrom_tree b_ leaf0_ fail_) = S.NetFrom_tree b_ (fun d => g (leaf0_ d)) (g fail_) := by
  unfold S.NetFrom_tree; simp only [apply_cnd g, apply_optC g, apply_sumC g]
noncomputable def S.NetFrom_t (b_ : List Int) : Option (Bool × (List Int)) := S.NetFrom_tree b_ (fun d => some d) none
theorem S.NetFrom_den (b_ : List Int) (κ : V → List E → R) : S.NetFrom_F [.ro false (.ints .u8 b_)] [] κ = optC (S.NetFrom_t b_) (fun (r : Bool × (List Int)) => κ (.tup [(.own 0), (.bool r.1)]) [.row (.ints .i64 r.2)]) none := by
  have hu : S.NetFrom_F [.ro false (.ints .u8 b_)] [] κ = S.NetFrom_tree b_ (fun d => κ (.tup [(.own 0), (.bool d.1)]) [.row (.ints .i64 d.2)]) none := by
    refine Eq.trans (show S.NetFrom_F [.ro false (.ints .u8 b_)] [] κ = (bif decide ((↑b_.length : Int) < 3) then (κ (.tup [(.own 0), (.bool false)]) [.row (.ints .i64 ([]))]) else (bif decide (0 < (↑b_.length : Int)) then (bif !(↑b_.length : Int) == IntKind.i64.wrap (IntKind.i64.wrap (eli b_ (Int.toNat 0)) + 2) then (κ (.tup [(.own 0), (.bool false)]) [.row (.ints .i64 ([]))]) else (bif decide (0 ≤ IntKind.i64.wrap ((↑b_.length : Int) - 1)) && decide (IntKind.i64.wrap ((↑b_.length : Int) - 1) ≤ (↑b_.length : Int)) then (optC (S.l14Sum_t (List.take (IntKind.i64.wrap ((↑b_.length : Int) - 1)).toNat (List.drop 0 b_))) (fun c_1 => (bif decide (0 ≤ IntKind.i64.wrap ((↑b_.length : Int) - 1)) && decide (IntKind.i64.wrap ((↑b_.length : Int) - 1) < (↑b_.length : Int)) then (bif !c_1 == IntKind.i64.wrap (eli b_ (IntKind.i64.wrap ((↑b_.length : Int) - 1)).toNat) then (κ (.tup [(.own 0), (.bool false)]) [.row (.ints .i64 ([]))]) else (S.NetFrom_L5 FUEL { n := 57, t := [(0, (.ro false (.ints .u8 b_))), (4, (.own 0)), (5, (.int .i64 1))], h := [.row (.ints .i64 ([]))] } (S.NetFrom_k5 κ))) else none)) none) else none)) else none)) by kernel_rfl) ?_
    refine cnd_congr ?_ ?_
    · kernel_rfl
    · refine cnd_congr ?_ ?_
      · refine cnd_congr ?_ ?_
        · kernel_rfl
        · refine cnd_congr ?_ ?_
          · refine optC_congr (fun c_1 => ?_)
            refine cnd_congr ?_ ?_
            · refine cnd_congr ?_ ?_
              · kernel_rfl
              · refine (S.NetFrom_L5_run b_ FUEL (1, []) (S.NetFrom_k5 κ)).trans (optC_congr (fun qy_2 => ?_))
                kernel_rfl
            · kernel_rfl
          · kernel_rfl
      · kernel_rfl
  rw [hu]
  exact (S.NetFrom_tree_nat (fun o => optC o (fun (r : Bool × (List Int)) => κ (.tup [(.own 0), (.bool r.1)]) [.row (.ints .i64 r.2)]) none) b_ (fun d => some d) none).symm
noncomputable def S.NetFrom_s : D.Spec where
  keep := false
  pure := false
  add := true
  ds := [.int .u8]
  sp := fun args h κ => match args, h with
    | [.ro false (.ints .u8 b_)], [] => optC (S.NetFrom_t b_) (fun (r : Bool × (List Int)) => κ (.tup [(.own 0), (.bool r.1)]) [.row (.ints .i64 r.2)]) none
    | _, _ => none
theorem S.NetFrom_ok : SpecOk Try.prog 32 S.NetFrom_s := by
  refine SpecOk.of TDok mixed (T := S.NetFrom_T) ?_ (ann := S.NetFrom_ann) Try.func32 rfl (by decide +kernel) ?_ ?_ ?_ ?_
  · intro p hp
    simp only [S.NetFrom_T, List.mem_cons, List.not_mem_nil, or_false] at hp
    rcases hp with rfl | rfl
    · exact S.l14Sum_ok
    · exact S.NetOk_ok
  · intro args h κ r hh
    simp only [S.NetFrom_s] at hh
    split at hh
    · exact (S.NetFrom_den _ κ).trans hh
    · cases hh
  · intro args h κ r hh
    simp only [S.NetFrom_s] at hh ⊢
    split at hh
    · exact optC_law2 (F := fun (r : Bool × (List Int)) κ => κ (.tup [(.own 0), (.bool r.1)]) [.row (.ints .i64 r.2)]) (fun b κ r hb => ⟨_, _, hb, fun _ => rfl⟩) hh
    · cases hh
  · intro hh; cases hh
  · intro _ args h κ r hh
    simp only [S.NetFrom_s] at hh
    split at hh
    · rfl
    · cases hh

-- loop.example/guardsonnets/laws.FnNetFrom
noncomputable def L.FnNetFrom_T : List (Nat × D.Spec) := [(31, S.DrawNetFrom_s), (27, I.NetFrom_s), (32, S.NetFrom_s), (17, L.sameInts_s), (15, L.alive_s), (25, I.NetBytes_s)]
def L.FnNetFrom_ann : Nat → List Nat × List Nat
  | _ => ([], [])
noncomputable def L.FnNetFrom_F (args : List V) (h : List E) (κ : V → List E → R) : R := funC TD (tableK L.FnNetFrom_T) L.FnNetFrom_ann (drawOk TD (tableP L.FnNetFrom_T)) FUEL Try.f9 args h κ
noncomputable def L.FnNetFrom_tree {α : Type} (code : List Int) (leaf0_ : Bool → α) (fail_ : α) : α :=
  (bif decide ((↑code.length : Int) > 1048576) then (leaf0_ true) else (optC (S.DrawNetFrom_t code) (fun c_1 => (optC (I.NetFrom_t c_1) (fun c_2 => (optC (S.NetFrom_t c_1) (fun c_3 => (bif !c_2.fst == c_3.fst then (leaf0_ false) else (optC (L.sameInts_t c_2.snd c_3.snd) (fun c_4 => (bif !c_4 then (leaf0_ false) else (bif !c_2.fst then (optC (L.alive_t) (fun c_5 => (leaf0_ c_5)) fail_) else (bif decide (0 ≤ IntKind.i64.wrap ((↑c_1.length : Int) - 1)) && decide (IntKind.i64.wrap ((↑c_1.length : Int) - 1) ≤ (↑c_1.length : Int)) then (bif small ([] ++ List.take (IntKind.i64.wrap ((↑c_1.length : Int) - 1)).toNat (List.drop 0 c_1)).length then (optC (I.NetFrom_t ([] ++ List.take (IntKind.i64.wrap ((↑c_1.length : Int) - 1)).toNat (List.drop 0 c_1))) (fun c_6 => (optC (I.NetBytes_t c_2.snd) (fun c_7 => (bif strEq (bytesOf c_7) (bytesOf c_1) then (leaf0_ (!c_6.fst)) else (leaf0_ false))) fail_)) fail_) else fail_) else fail_)))) fail_))) fail_)) fail_)) fail_))
theorem L.FnNetFrom_tree_nat {α γ : Type} (g : α → γ) (code : List Int) (leaf0_ : Bool → α) (fail_ : α) : g (L.FnNetFrom_tree code leaf0_ fail_) = L.FnNetFrom_tree code (fun d => g (leaf0_ d)) (g fail_) := by
  unfold L.FnNetFrom_tree; simp only [apply_cnd g, apply_optC g, apply_sumC g]
noncomputable def L.FnNetFrom_t (code : List Int) : Option (Bool) := L.FnNetFrom_tree code (fun d => some d) none
theorem L.FnNetFrom_den (code : List Int) (κ : V → List E → R) : L.FnNetFrom_F [.ro true (.ints .u8 code)] [] κ = optC (L.FnNetFrom_t code) (fun (r : Bool) => κ (.bool r) []) none := by
  have hu : L.FnNetFrom_F [.ro true (.ints .u8 code)] [] κ = L.FnNetFrom_tree code (fun d => κ (.bool d) []) none := by
    kernel_rfl
  rw [hu]
  exact (L.FnNetFrom_tree_nat (fun o => optC o (fun (r : Bool) => κ (.bool r) []) none) code (fun d => some d) none).symm
noncomputable def L.FnNetFrom_s : D.Spec where
  keep := true
  pure := true
  add := true
  ds := [.int .u8]
  sp := fun args h κ => match args, h with
    | [.ro true (.ints .u8 code)], [] => optC (L.FnNetFrom_t code) (fun (r : Bool) => κ (.bool r) []) none
    | _, _ => none
theorem L.FnNetFrom_ok : SpecOk Try.prog 9 L.FnNetFrom_s := by
  refine SpecOk.of TDok mixed (T := L.FnNetFrom_T) ?_ (ann := L.FnNetFrom_ann) Try.func9 rfl (by decide +kernel) ?_ ?_ ?_ ?_
  · intro p hp
    simp only [L.FnNetFrom_T, List.mem_cons, List.not_mem_nil, or_false] at hp
    rcases hp with rfl | rfl | rfl | rfl | rfl | rfl
    · exact S.DrawNetFrom_ok
    · exact I.NetFrom_ok
    · exact S.NetFrom_ok
    · exact L.sameInts_ok
    · exact L.alive_ok
    · exact I.NetBytes_ok
  · intro args h κ r hh
    simp only [L.FnNetFrom_s] at hh
    split at hh
    · exact (L.FnNetFrom_den _ κ).trans hh
    · cases hh
  · intro args h κ r hh
    simp only [L.FnNetFrom_s] at hh ⊢
    split at hh
    · exact optC_law2 (F := fun (r : Bool) κ => κ (.bool r) []) (fun b κ r hb => ⟨_, _, hb, fun _ => rfl⟩) hh
    · cases hh
  · intro _ args h κ r hh
    simp only [L.FnNetFrom_s] at hh
    split at hh
    · exact ⟨rfl, fun _ => rfl⟩
    · cases hh
  · intro _ args h κ r hh
    simp only [L.FnNetFrom_s] at hh
    split at hh
    · rfl
    · cases hh

-- loop.example/guardsonnets/laws.toByteS
noncomputable def L.toByteS_T : List (Nat × D.Spec) := []
def L.toByteS_ann : Nat → List Nat × List Nat
  | 3 => ([0, 3, 4], [3])
  | _ => ([], [])
noncomputable def L.toByteS_F (args : List V) (h : List E) (κ : V → List E → R) : R := funC TD (tableK L.toByteS_T) L.toByteS_ann (drawOk TD (tableP L.toByteS_T)) FUEL Try.f33 args h κ
noncomputable def L.toByteS_L3 (n : Nat) (σ : St) (k : X → St → R) : R := iterC 0 (fun σ k => denC TD (tableK L.toByteS_T) L.toByteS_ann (drawOk TD (tableP L.toByteS_T)) 0 FUEL ((findLoop 3 (Try.f33.body.getD .skip)).getD .skip) σ k) [0, 3, 4] [3] n σ k
noncomputable def L.toByteS_k3 (κ : V → List E → R) : X → St → R := (afterC TD (tableK L.toByteS_T) L.toByteS_ann (drawOk TD (tableP L.toByteS_T)) 0 FUEL 3 (Try.f33.body.getD .skip) (finC TD 0 Try.f33 κ)).getD (fun _ _ => none)
noncomputable def L.toByteS_step3 {α : Type} (x0 : List Int) (x4 : Int) (r0 : List Int) (next_ : Int × (List Int) → α) (out0_ : List Int → α) (fail_ : α) : α :=
  (bif decide (x4 < (↑x0.length : Int)) then (bif decide (0 ≤ x4) && decide (x4 < (↑x0.length : Int)) then (bif decide (0 ≤ x4) && decide (x4 < (↑r0.length : Int)) then (bif decide (x4.toNat < r0.length) then (next_ (IntKind.i64.wrap (x4 + 1), r0.set x4.toNat (eli x0 x4.toNat))) else fail_) else fail_) else fail_) else (out0_ r0))
theorem L.toByteS_step3_nat {α γ : Type} (g : α → γ) (x0 : List Int) (x4 : Int) (r0 : List Int) (next_ : Int × (List Int) → α) (out0_ : List Int → α) (fail_ : α) : g (L.toByteS_step3 x0 x4 r0 next_ out0_ fail_) = L.toByteS_step3 x0 x4 r0 (fun s => g (next_ s)) (fun d => g (out0_ d)) (g fail_) := by
  unfold L.toByteS_step3; simp only [apply_cnd g, apply_optC g, apply_sumC g]
noncomputable def L.toByteS_run3 (x0 : List Int) : Nat → Int × (List Int) → Option (List Int)
  | 0, _ => none
  | n + 1, s_ => L.toByteS_step3 x0 s_.1 s_.2 (L.toByteS_run3 x0 n) (fun d => some d) none
theorem L.toByteS_L3_run (x0 : List Int) (n : Nat) (s_ : Int × (List Int)) (k : X → St → R) : L.toByteS_L3 n { n := 22, t := [(0, (.ro false (.ints .u8 x0))), (3, (.own 0)), (4, (.int .i64 s_.1))], h := [.row (.ints .u8 s_.2)] } k = optC (L.toByteS_run3 x0 n s_) (fun (r : List Int) => k (.exit 0) { n := 22, t := [(3, (.own 0))], h := [.row (.ints .u8 r)] }) none := by
  induction n generalizing s_ with
  | zero => rfl
  | succ n ih =>
    have hu : L.toByteS_L3 (n + 1) { n := 22, t := [(0, (.ro false (.ints .u8 x0))), (3, (.own 0)), (4, (.int .i64 s_.1))], h := [.row (.ints .u8 s_.2)] } k = L.toByteS_step3 x0 s_.1 s_.2 (fun s_ => L.toByteS_L3 n { n := 22, t := [(0, (.ro false (.ints .u8 x0))), (3, (.own 0)), (4, (.int .i64 s_.1))], h := [.row (.ints .u8 s_.2)] } k) (fun d => k (.exit 0) { n := 22, t := [(3, (.own 0))], h := [.row (.ints .u8 d)] }) none := by
      kernel_rfl
    have hs : (fun s_ : Int × (List Int) => L.toByteS_L3 n { n := 22, t := [(0, (.ro false (.ints .u8 x0))), (3, (.own 0)), (4, (.int .i64 s_.1))], h := [.row (.ints .u8 s_.2)] } k) = fun s_ => optC (L.toByteS_run3 x0 n s_) (fun (r : List Int) => k (.exit 0) { n := 22, t := [(3, (.own 0))], h := [.row (.ints .u8 r)] }) none := funext ih
    rw [hu, hs]
    exact (L.toByteS_step3_nat (fun o => optC o (fun (r : List Int) => k (.exit 0) { n := 22, t := [(3, (.own 0))], h := [.row (.ints .u8 r)] }) none) x0 s_.1 s_.2 (L.toByteS_run3 x0 n) (fun d => some d) none).symm
noncomputable def L.toByteS_tree {α : Type} (a : List Int) (leaf0_ : List Int → α) (fail_ : α) : α :=
  (bif small (↑a.length : Int).toNat && true then (optC (L.toByteS_run3 a FUEL (0, List.replicate (↑a.length : Int).toNat 0)) (fun qy_1 => (leaf0_ qy_1)) fail_) else fail_)
theorem L.toByteS_tree_nat {α γ : Type} (g : α → γ) (a : List Int) (leaf0_ : List Int → α) (fail_ : α) : g (L.toByteS_tree a leaf0_ fail_) = L.toByteS_tree a (fun d => g (leaf0_ d)) (g fail_) := by
  unfold L.toByteS_tree; simp only [apply_cnd g, apply_optC g, apply_sumC g]
noncomputable def L.toByteS_t (a : List Int) : Option (List Int) := L.toByteS_tree a (fun d => some d) none
theorem L.toByteS_den (a : List Int) (κ : V → List E → R) : L.toByteS_F [.ro false (.ints .u8 a)] [] κ = optC (L.toByteS_t a) (fun (r : List Int) => κ (.own 0) [.row (.ints .u8 r)]) none := by
  have hu : L.toByteS_F [.ro false (.ints .u8 a)] [] κ = L.toByteS_tree a (fun d => κ (.own 0) [.row (.ints .u8 d)]) none := by
    refine Eq.trans (show L.toByteS_F [.ro false (.ints .u8 a)] [] κ = (bif small (↑a.length : Int).toNat && true then (L.toByteS_L3 FUEL { n := 22, t := [(0, (.ro false (.ints .u8 a))), (3, (.own 0)), (4, (.int .i64 0))], h := [.row (.ints .u8 (List.replicate (↑a.length : Int).toNat 0))] } (L.toByteS_k3 κ)) else none) by kernel_rfl) ?_
    refine cnd_congr ?_ ?_
    · refine (L.toByteS_L3_run a FUEL (0, List.replicate (↑a.length : Int).toNat 0) (L.toByteS_k3 κ)).trans (optC_congr (fun qy_1 => ?_))
      kernel_rfl
    · kernel_rfl
  rw [hu]
  exact (L.toByteS_tree_nat (fun o => optC o (fun (r : List Int) => κ (.own 0) [.row (.ints .u8 r)]) none) a (fun d => some d) none).symm
noncomputable def L.toByteS_s : D.Spec where
  keep := false
  pure := false
  add := true
  ds := [.int .u8]
  sp := fun args h κ => match args, h with
    | [.ro false (.ints .u8 a)], [] => optC (L.toByteS_t a) (fun (r : List Int) => κ (.own 0) [.row (.ints .u8 r)]) none
    | _, _ => none
theorem L.toByteS_ok : SpecOk Try.prog 33 L.toByteS_s := by
  refine SpecOk.of TDok mixed (T := L.toByteS_T) ?_ (ann := L.toByteS_ann) Try.func33 rfl (by decide +kernel) ?_ ?_ ?_ ?_
  · intro p hp; cases hp
  · intro args h κ r hh
    simp only [L.toByteS_s] at hh
    split at hh
    · exact (L.toByteS_den _ κ).trans hh
    · cases hh
  · intro args h κ r hh
    simp only [L.toByteS_s] at hh ⊢
    split at hh
    · exact optC_law2 (F := fun (r : List Int) κ => κ (.own 0) [.row (.ints .u8 r)]) (fun b κ r hb => ⟨_, _, hb, fun _ => rfl⟩) hh
    · cases hh
  · intro hh; cases hh
  · intro _ args h κ r hh
    simp only [L.toByteS_s] at hh
    split at hh
    · rfl
    · cases hh

-- loop.example/guardsonnets/laws.FnExactNetFrom
noncomputable def L.FnExactNetFrom_T : List (Nat × D.Spec) := [(33, L.toByteS_s), (32, S.NetFrom_s), (27, I.NetFrom_s), (19, L.eqIntS_s), (28, L.eqByteS_s), (29, L.markByteS_s), (22, L.markIntS_s), (23, L.heldIntS_s)]
def L.FnExactNetFrom_ann : Nat → List Nat × List Nat
  | _ => ([], [])
noncomputable def L.FnExactNetFrom_F (args : List V) (h : List E) (κ : V → List E → R) : R := funC TD (tableK L.FnExactNetFrom_T) L.FnExactNetFrom_ann (drawOk TD (tableP L.FnExactNetFrom_T)) FUEL Try.f10 args h κ
noncomputable def L.FnExactNetFrom_tree {α : Type} (aB : List Int) (leaf0_ : Bool → α) (fail_ : α) : α :=
  (bif decide ((↑aB.length : Int) > 1048576) then (leaf0_ true) else (optC (L.toByteS_t aB) (fun c_1 => (optC (S.NetFrom_t c_1) (fun c_2 => (optC (L.toByteS_t aB) (fun c_3 => (optC (I.NetFrom_t c_3) (fun c_4 => (optC (L.eqIntS_t c_4.snd c_2.snd) (fun c_5 => (bif !c_5 then (leaf0_ false) else (bif !c_4.fst == c_2.fst then (leaf0_ false) else (optC (L.toByteS_t aB) (fun c_6 => (optC (L.eqByteS_t c_3 c_6) (fun c_7 => (bif !c_7 then (leaf0_ false) else (optC (L.markByteS_t c_3 1) (fun c_8 => (bif decide (c_8.fst < 0) then (leaf0_ false) else (optC (L.eqIntS_t c_4.snd c_2.snd) (fun c_9 => (bif !c_9 then (leaf0_ false) else (bif !c_4.fst == c_2.fst then (leaf0_ false) else (optC (L.markIntS_t c_4.snd 1) (fun c_10 => (optC (L.heldIntS_t c_10.snd 1) (fun c_11 => (bif decide (c_11 < 0) then (leaf0_ false) else (bif !c_11 == c_10.fst then (leaf0_ false) else (optC (L.toByteS_t aB) (fun c_12 => (optC (I.NetFrom_t c_12) (fun c_13 => (optC (L.eqIntS_t c_13.snd c_2.snd) (fun c_14 => (bif !c_14 then (leaf0_ false) else (bif !c_13.fst == c_2.fst then (leaf0_ false) else (optC (L.heldIntS_t c_10.snd 1) (fun c_15 => (bif decide (c_15 < 0) then (leaf0_ false) else (bif !c_15 == c_10.fst then (leaf0_ false) else (leaf0_ true)))) fail_)))) fail_)) fail_)) fail_)))) fail_)) fail_)))) fail_))) fail_))) fail_)) fail_)))) fail_)) fail_)) fail_)) fail_)) fail_))
theorem L.FnExactNetFrom_tree_nat {α γ : Type} (g : α → γ) (aB : List Int) (leaf0_ : Bool → α) (fail_ : α) : g (L.FnExactNetFrom_tree aB leaf0_ fail_) = L.FnExactNetFrom_tree aB (fun d => g (leaf0_ d)) (g fail_) := by
  unfold L.FnExactNetFrom_tree; simp only [apply_cnd g, apply_optC g, apply_sumC g]
noncomputable def L.FnExactNetFrom_t (aB : List Int) : Option (Bool) := L.FnExactNetFrom_tree aB (fun d => some d) none
theorem L.FnExactNetFrom_den (aB : List Int) (κ : V → List E → R) : L.FnExactNetFrom_F [.ro true (.ints .u8 aB)] [] κ = optC (L.FnExactNetFrom_t aB) (fun (r : Bool) => κ (.bool r) []) none := by
  have hu : L.FnExactNetFrom_F [.ro true (.ints .u8 aB)] [] κ = L.FnExactNetFrom_tree aB (fun d => κ (.bool d) []) none := by
    kernel_rfl
  rw [hu]
  exact (L.FnExactNetFrom_tree_nat (fun o => optC o (fun (r : Bool) => κ (.bool r) []) none) aB (fun d => some d) none).symm
noncomputable def L.FnExactNetFrom_s : D.Spec where
  keep := true
  pure := true
  add := true
  ds := [.int .u8]
  sp := fun args h κ => match args, h with
    | [.ro true (.ints .u8 aB)], [] => optC (L.FnExactNetFrom_t aB) (fun (r : Bool) => κ (.bool r) []) none
    | _, _ => none
theorem L.FnExactNetFrom_ok : SpecOk Try.prog 10 L.FnExactNetFrom_s := by
  refine SpecOk.of TDok mixed (T := L.FnExactNetFrom_T) ?_ (ann := L.FnExactNetFrom_ann) Try.func10 rfl (by decide +kernel) ?_ ?_ ?_ ?_
  · intro p hp
    simp only [L.FnExactNetFrom_T, List.mem_cons, List.not_mem_nil, or_false] at hp
    rcases hp with rfl | rfl | rfl | rfl | rfl | rfl | rfl | rfl
    · exact L.toByteS_ok
    · exact S.NetFrom_ok
    · exact I.NetFrom_ok
    · exact L.eqIntS_ok
    · exact L.eqByteS_ok
    · exact L.markByteS_ok
    · exact L.markIntS_ok
    · exact L.heldIntS_ok
  · intro args h κ r hh
    simp only [L.FnExactNetFrom_s] at hh
    split at hh
    · exact (L.FnExactNetFrom_den _ κ).trans hh
    · cases hh
  · intro args h κ r hh
    simp only [L.FnExactNetFrom_s] at hh ⊢
    split at hh
    · exact optC_law2 (F := fun (r : Bool) κ => κ (.bool r) []) (fun b κ r hb => ⟨_, _, hb, fun _ => rfl⟩) hh
    · cases hh
  · intro _ args h κ r hh
    simp only [L.FnExactNetFrom_s] at hh
    split at hh
    · exact ⟨rfl, fun _ => rfl⟩
    · cases hh
  · intro _ args h κ r hh
    simp only [L.FnExactNetFrom_s] at hh
    split at hh
    · rfl
    · cases hh


end Go.Proofs.Ytbahjlgloilabaa
