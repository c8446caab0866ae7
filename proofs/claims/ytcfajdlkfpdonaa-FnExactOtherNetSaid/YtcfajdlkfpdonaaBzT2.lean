/- Twins of the translated functions, with their proofs. Conditions: none. -/
import Derived.Test.YtcfajdlkfpdonaaBzT1
set_option linter.unusedVariables false
set_option linter.unusedSimpArgs false
set_option linter.unusedSectionVars false
namespace Go.Proofs.Ytcfajdlkfpdonaa
open D Go.RowKit
-- loop.example/guardsonnets/spec.l1Size
noncomputable def S.l1Size_T : List (Nat × D.Spec) := []
def S.l1Size_ann : Nat → List Nat × List Nat
  | 2 => ([0, 3], [3])
  | _ => ([], [])
noncomputable def S.l1Size_F (args : List V) (h : List E) (κ : V → List E → R) : R := funC TD (tableK S.l1Size_T) S.l1Size_ann (drawOk TD (tableP S.l1Size_T)) FUEL Try.f63 args h κ
noncomputable def S.l1Size_L2 (n : Nat) (σ : St) (k : X → St → R) : R := iterC 0 (fun σ k => denC TD (tableK S.l1Size_T) S.l1Size_ann (drawOk TD (tableP S.l1Size_T)) 0 FUEL ((findLoop 2 (Try.f63.body.getD .skip)).getD .skip) σ k) [0, 3] [3] n σ k
noncomputable def S.l1Size_k2 (κ : V → List E → R) : X → St → R := (afterC TD (tableK S.l1Size_T) S.l1Size_ann (drawOk TD (tableP S.l1Size_T)) 0 FUEL 2 (Try.f63.body.getD .skip) (finC TD 0 Try.f63 κ)).getD (fun _ _ => none)
noncomputable def S.l1Size_step2 {α : Type} (x0 : Int) (x3 : Int) (next_ : Int × Int → α) (out0_ : Int → α) (fail_ : α) : α :=
  (bif decide (x0 > 0) then (next_ (IntKind.i64.wrap (x0.tdiv 2), IntKind.i64.wrap (x3 + x0.tmod 2))) else (out0_ x3))
theorem S.l1Size_step2_nat {α γ : Type} (g : α → γ) (x0 : Int) (x3 : Int) (next_ : Int × Int → α) (out0_ : Int → α) (fail_ : α) : g (S.l1Size_step2 x0 x3 next_ out0_ fail_) = S.l1Size_step2 x0 x3 (fun s => g (next_ s)) (fun d => g (out0_ d)) (g fail_) := by
  unfold S.l1Size_step2; simp only [apply_cnd g, apply_optC g, apply_sumC g]
noncomputable def S.l1Size_run2 : Nat → Int × Int → Option (Int)
  | 0, _ => none
  | n + 1, s_ => S.l1Size_step2 s_.1 s_.2 (S.l1Size_run2 n) (fun d => some d) none
theorem S.l1Size_L2_run (n : Nat) (s_ : Int × Int) (k : X → St → R) : S.l1Size_L2 n { n := 13, t := [(0, (.int .i64 s_.1)), (3, (.int .i64 s_.2))], h := [] } k = optC (S.l1Size_run2 n s_) (fun (r : Int) => k (.exit 0) { n := 13, t := [(3, (.int .i64 r))], h := [] }) none := by
  induction n generalizing s_ with
  | zero => rfl
  | succ n ih =>
    have hu : S.l1Size_L2 (n + 1) { n := 13, t := [(0, (.int .i64 s_.1)), (3, (.int .i64 s_.2))], h := [] } k = S.l1Size_step2 s_.1 s_.2 (fun s_ => S.l1Size_L2 n { n := 13, t := [(0, (.int .i64 s_.1)), (3, (.int .i64 s_.2))], h := [] } k) (fun d => k (.exit 0) { n := 13, t := [(3, (.int .i64 d))], h := [] }) none := by
      kernel_rfl
    have hs : (fun s_ : Int × Int => S.l1Size_L2 n { n := 13, t := [(0, (.int .i64 s_.1)), (3, (.int .i64 s_.2))], h := [] } k) = fun s_ => optC (S.l1Size_run2 n s_) (fun (r : Int) => k (.exit 0) { n := 13, t := [(3, (.int .i64 r))], h := [] }) none := funext ih
    rw [hu, hs]
    exact (S.l1Size_step2_nat (fun o => optC o (fun (r : Int) => k (.exit 0) { n := 13, t := [(3, (.int .i64 r))], h := [] }) none) s_.1 s_.2 (S.l1Size_run2 n) (fun d => some d) none).symm
noncomputable def S.l1Size_tree {α : Type} (set_ : Int) (leaf0_ : Int → α) (fail_ : α) : α :=
  (optC (S.l1Size_run2 FUEL (set_, 0)) (fun qy_1 => (leaf0_ qy_1)) fail_)
theorem S.l1Size_tree_nat {α γ : Type} (g : α → γ) (set_ : Int) (leaf0_ : Int → α) (fail_ : α) : g (S.l1Size_tree set_ leaf0_ fail_) = S.l1Size_tree set_ (fun d => g (leaf0_ d)) (g fail_) := by
  unfold S.l1Size_tree; simp only [apply_cnd g, apply_optC g, apply_sumC g]
noncomputable def S.l1Size_t (set_ : Int) : Option (Int) := S.l1Size_tree set_ (fun d => some d) none
theorem S.l1Size_den (set_ : Int) (κ : V → List E → R) : S.l1Size_F [.int .i64 set_] [] κ = optC (S.l1Size_t set_) (fun (r : Int) => κ (.int .i64 r) []) none := by
  have hu : S.l1Size_F [.int .i64 set_] [] κ = S.l1Size_tree set_ (fun d => κ (.int .i64 d) []) none := by
    refine Eq.trans (show S.l1Size_F [.int .i64 set_] [] κ = (S.l1Size_L2 FUEL { n := 13, t := [(0, (.int .i64 set_)), (3, (.int .i64 0))], h := [] } (S.l1Size_k2 κ)) by kernel_rfl) ?_
    refine (S.l1Size_L2_run FUEL (set_, 0) (S.l1Size_k2 κ)).trans (optC_congr (fun qy_1 => ?_))
    kernel_rfl
  rw [hu]
  exact (S.l1Size_tree_nat (fun o => optC o (fun (r : Int) => κ (.int .i64 r) []) none) set_ (fun d => some d) none).symm
noncomputable def S.l1Size_s : D.Spec where
  keep := false
  pure := true
  ds := [.invalid]
  sp := fun args h κ => match args, h with
    | [.int .i64 set_], [] => optC (S.l1Size_t set_) (fun (r : Int) => κ (.int .i64 r) []) none
    | _, _ => none
theorem S.l1Size_ok : SpecOk Try.prog 63 S.l1Size_s := by
  refine SpecOk.of TDok mixed (T := S.l1Size_T) ?_ (ann := S.l1Size_ann) Try.func63 rfl (by decide +kernel) ?_ ?_ ?_
  · intro p hp; cases hp
  · intro args h κ r hh
    simp only [S.l1Size_s] at hh
    split at hh
    · exact (S.l1Size_den _ κ).trans hh
    · cases hh
  · intro args h κ r hh
    simp only [S.l1Size_s] at hh ⊢
    split at hh
    · exact optC_law2 (F := fun (r : Int) κ => κ (.int .i64 r) []) (fun b κ r hb => ⟨_, _, hb, fun _ => rfl⟩) hh
    · cases hh
  · intro _ args h κ r hh
    simp only [S.l1Size_s] at hh
    split at hh
    · exact ⟨rfl, fun _ => rfl⟩
    · cases hh

-- loop.example/guardsonnets/spec.MostClique
noncomputable def S.MostClique_T : List (Nat × D.Spec) := [(49, S.NetOk_s), (51, S.l13Clique_s), (63, S.l1Size_s)]
def S.MostClique_ann : Nat → List Nat × List Nat
  | 5 => ([0, 3, 4], [3])
  | _ => ([], [])
noncomputable def S.MostClique_F (args : List V) (h : List E) (κ : V → List E → R) : R := funC TD (tableK S.MostClique_T) S.MostClique_ann (drawOk TD (tableP S.MostClique_T)) FUEL Try.f27 args h κ
noncomputable def S.MostClique_L5 (n : Nat) (σ : St) (k : X → St → R) : R := iterC 0 (fun σ k => denC TD (tableK S.MostClique_T) S.MostClique_ann (drawOk TD (tableP S.MostClique_T)) 0 FUEL ((findLoop 5 (Try.f27.body.getD .skip)).getD .skip) σ k) [0, 3, 4] [3] n σ k
noncomputable def S.MostClique_k5 (κ : V → List E → R) : X → St → R := (afterC TD (tableK S.MostClique_T) S.MostClique_ann (drawOk TD (tableP S.MostClique_T)) 0 FUEL 5 (Try.f27.body.getD .skip) (finC TD 0 Try.f27 κ)).getD (fun _ _ => none)
noncomputable def S.MostClique_step5 {α : Type} (x0 : List Int) (x3 : Int) (x4 : Int) (next_ : Int × Int → α) (out0_ : Int → α) (fail_ : α) : α :=
  (bif decide (x4 < IntKind.i64.wrap (1 * 2 ^ min (↑x0.length : Int).toNat IntKind.i64.bits)) then (optC (S.l13Clique_t x0 x4) (fun c_2 => (bif c_2 then (optC (S.l1Size_t x4) (fun c_3 => (next_ (if c_3 > x3 then c_3 else x3, IntKind.i64.wrap (x4 + 1)))) fail_) else (next_ (x3, IntKind.i64.wrap (x4 + 1))))) fail_) else (out0_ x3))
theorem S.MostClique_step5_nat {α γ : Type} (g : α → γ) (x0 : List Int) (x3 : Int) (x4 : Int) (next_ : Int × Int → α) (out0_ : Int → α) (fail_ : α) : g (S.MostClique_step5 x0 x3 x4 next_ out0_ fail_) = S.MostClique_step5 x0 x3 x4 (fun s => g (next_ s)) (fun d => g (out0_ d)) (g fail_) := by
  unfold S.MostClique_step5; simp only [apply_cnd g, apply_optC g, apply_sumC g]
noncomputable def S.MostClique_run5 (x0 : List Int) : Nat → Int × Int → Option (Int)
  | 0, _ => none
  | n + 1, s_ => S.MostClique_step5 x0 s_.1 s_.2 (S.MostClique_run5 x0 n) (fun d => some d) none
theorem S.MostClique_L5_run (x0 : List Int) (n : Nat) (s_ : Int × Int) (k : X → St → R) : S.MostClique_L5 n { n := 23, t := [(0, (.ro false (.ints .i64 x0))), (3, (.int .i64 s_.1)), (4, (.int .i64 s_.2))], h := [] } k = optC (S.MostClique_run5 x0 n s_) (fun (r : Int) => k (.exit 0) { n := 23, t := [(3, (.int .i64 r))], h := [] }) none := by
  induction n generalizing s_ with
  | zero => rfl
  | succ n ih =>
    have hu : S.MostClique_L5 (n + 1) { n := 23, t := [(0, (.ro false (.ints .i64 x0))), (3, (.int .i64 s_.1)), (4, (.int .i64 s_.2))], h := [] } k = S.MostClique_step5 x0 s_.1 s_.2 (fun s_ => S.MostClique_L5 n { n := 23, t := [(0, (.ro false (.ints .i64 x0))), (3, (.int .i64 s_.1)), (4, (.int .i64 s_.2))], h := [] } k) (fun d => k (.exit 0) { n := 23, t := [(3, (.int .i64 d))], h := [] }) none := by
      kernel_rfl
    have hs : (fun s_ : Int × Int => S.MostClique_L5 n { n := 23, t := [(0, (.ro false (.ints .i64 x0))), (3, (.int .i64 s_.1)), (4, (.int .i64 s_.2))], h := [] } k) = fun s_ => optC (S.MostClique_run5 x0 n s_) (fun (r : Int) => k (.exit 0) { n := 23, t := [(3, (.int .i64 r))], h := [] }) none := funext ih
    rw [hu, hs]
    exact (S.MostClique_step5_nat (fun o => optC o (fun (r : Int) => k (.exit 0) { n := 23, t := [(3, (.int .i64 r))], h := [] }) none) x0 s_.1 s_.2 (S.MostClique_run5 x0 n) (fun d => some d) none).symm
noncomputable def S.MostClique_tree {α : Type} (net : List Int) (leaf0_ : Int → α) (fail_ : α) : α :=
  (optC (S.NetOk_t net) (fun c_1 => (bif !c_1 then (leaf0_ (-1)) else (optC (S.MostClique_run5 net FUEL (0, 0)) (fun qy_4 => (leaf0_ qy_4)) fail_))) fail_)
theorem S.MostClique_tree_nat {α γ : Type} (g : α → γ) (net : List Int) (leaf0_ : Int → α) (fail_ : α) : g (S.MostClique_tree net leaf0_ fail_) = S.MostClique_tree net (fun d => g (leaf0_ d)) (g fail_) := by
  unfold S.MostClique_tree; simp only [apply_cnd g, apply_optC g, apply_sumC g]
noncomputable def S.MostClique_t (net : List Int) : Option (Int) := S.MostClique_tree net (fun d => some d) none
theorem S.MostClique_den (net : List Int) (κ : V → List E → R) : S.MostClique_F [.ro false (.ints .i64 net)] [] κ = optC (S.MostClique_t net) (fun (r : Int) => κ (.int .i64 r) []) none := by
  have hu : S.MostClique_F [.ro false (.ints .i64 net)] [] κ = S.MostClique_tree net (fun d => κ (.int .i64 d) []) none := by
    refine Eq.trans (show S.MostClique_F [.ro false (.ints .i64 net)] [] κ = (optC (S.NetOk_t net) (fun c_1 => (bif !c_1 then (κ (.int .i64 (-1)) []) else (S.MostClique_L5 FUEL { n := 23, t := [(0, (.ro false (.ints .i64 net))), (3, (.int .i64 0)), (4, (.int .i64 0))], h := [] } (S.MostClique_k5 κ)))) none) by kernel_rfl) ?_
    refine optC_congr (fun c_1 => ?_)
    refine cnd_congr ?_ ?_
    · kernel_rfl
    · refine (S.MostClique_L5_run net FUEL (0, 0) (S.MostClique_k5 κ)).trans (optC_congr (fun qy_4 => ?_))
      kernel_rfl
  rw [hu]
  exact (S.MostClique_tree_nat (fun o => optC o (fun (r : Int) => κ (.int .i64 r) []) none) net (fun d => some d) none).symm
noncomputable def S.MostClique_s : D.Spec where
  keep := false
  pure := true
  ds := [.int .i64]
  sp := fun args h κ => match args, h with
    | [.ro false (.ints .i64 net)], [] => optC (S.MostClique_t net) (fun (r : Int) => κ (.int .i64 r) []) none
    | _, _ => none
theorem S.MostClique_ok : SpecOk Try.prog 27 S.MostClique_s := by
  refine SpecOk.of TDok mixed (T := S.MostClique_T) ?_ (ann := S.MostClique_ann) Try.func27 rfl (by decide +kernel) ?_ ?_ ?_
  · intro p hp
    simp only [S.MostClique_T, List.mem_cons, List.not_mem_nil, or_false] at hp
    rcases hp with rfl | rfl | rfl
    · exact S.NetOk_ok
    · exact S.l13Clique_ok
    · exact S.l1Size_ok
  · intro args h κ r hh
    simp only [S.MostClique_s] at hh
    split at hh
    · exact (S.MostClique_den _ κ).trans hh
    · cases hh
  · intro args h κ r hh
    simp only [S.MostClique_s] at hh ⊢
    split at hh
    · exact optC_law2 (F := fun (r : Int) κ => κ (.int .i64 r) []) (fun b κ r hb => ⟨_, _, hb, fun _ => rfl⟩) hh
    · cases hh
  · intro _ args h κ r hh
    simp only [S.MostClique_s] at hh
    split at hh
    · exact ⟨rfl, fun _ => rfl⟩
    · cases hh

-- loop.example/guardsonnets/impl.MostApart
noncomputable def I.MostApart_T : List (Nat × D.Spec) := [(18, I.NetOk_s), (60, I.allOf_s), (62, I.sizeOf_s), (59, I.apartIn_s)]
def I.MostApart_ann : Nat → List Nat × List Nat
  | 5 => ([0, 3, 4], [3])
  | _ => ([], [])
noncomputable def I.MostApart_F (args : List V) (h : List E) (κ : V → List E → R) : R := funC TD (tableK I.MostApart_T) I.MostApart_ann (drawOk TD (tableP I.MostApart_T)) FUEL Try.f28 args h κ
noncomputable def I.MostApart_L5 (n : Nat) (σ : St) (k : X → St → R) : R := iterC 0 (fun σ k => denC TD (tableK I.MostApart_T) I.MostApart_ann (drawOk TD (tableP I.MostApart_T)) 0 FUEL ((findLoop 5 (Try.f28.body.getD .skip)).getD .skip) σ k) [0, 3, 4] [3] n σ k
noncomputable def I.MostApart_k5 (κ : V → List E → R) : X → St → R := (afterC TD (tableK I.MostApart_T) I.MostApart_ann (drawOk TD (tableP I.MostApart_T)) 0 FUEL 5 (Try.f28.body.getD .skip) (finC TD 0 Try.f28 κ)).getD (fun _ _ => none)
noncomputable def I.MostApart_step5 {α : Type} (x0 : List Int) (x3 : Int) (x4 : Int) (next_ : Int × Int → α) (out0_ : Int → α) (fail_ : α) : α :=
  (optC (I.allOf_t x0) (fun c_2 => (bif decide (x4 ≤ c_2) then (optC (I.sizeOf_t x4) (fun c_3 => (bif decide (c_3 > x3) then (optC (I.apartIn_t x0 x4) (fun c_4 => (bif c_4 then (optC (I.sizeOf_t x4) (fun c_5 => (next_ (c_5, IntKind.i64.wrap (x4 + 1)))) fail_) else (next_ (x3, IntKind.i64.wrap (x4 + 1))))) fail_) else (next_ (x3, IntKind.i64.wrap (x4 + 1))))) fail_) else (out0_ x3))) fail_)
theorem I.MostApart_step5_nat {α γ : Type} (g : α → γ) (x0 : List Int) (x3 : Int) (x4 : Int) (next_ : Int × Int → α) (out0_ : Int → α) (fail_ : α) : g (I.MostApart_step5 x0 x3 x4 next_ out0_ fail_) = I.MostApart_step5 x0 x3 x4 (fun s => g (next_ s)) (fun d => g (out0_ d)) (g fail_) := by
  unfold I.MostApart_step5; simp only [apply_cnd g, apply_optC g, apply_sumC g]
noncomputable def I.MostApart_run5 (x0 : List Int) : Nat → Int × Int → Option (Int)
  | 0, _ => none
  | n + 1, s_ => I.MostApart_step5 x0 s_.1 s_.2 (I.MostApart_run5 x0 n) (fun d => some d) none
theorem I.MostApart_L5_run (x0 : List Int) (n : Nat) (s_ : Int × Int) (k : X → St → R) : I.MostApart_L5 n { n := 26, t := [(0, (.ro false (.ints .i64 x0))), (3, (.int .i64 s_.1)), (4, (.int .i64 s_.2))], h := [] } k = optC (I.MostApart_run5 x0 n s_) (fun (r : Int) => k (.exit 0) { n := 26, t := [(3, (.int .i64 r))], h := [] }) none := by
  induction n generalizing s_ with
  | zero => rfl
  | succ n ih =>
    have hu : I.MostApart_L5 (n + 1) { n := 26, t := [(0, (.ro false (.ints .i64 x0))), (3, (.int .i64 s_.1)), (4, (.int .i64 s_.2))], h := [] } k = I.MostApart_step5 x0 s_.1 s_.2 (fun s_ => I.MostApart_L5 n { n := 26, t := [(0, (.ro false (.ints .i64 x0))), (3, (.int .i64 s_.1)), (4, (.int .i64 s_.2))], h := [] } k) (fun d => k (.exit 0) { n := 26, t := [(3, (.int .i64 d))], h := [] }) none := by
      kernel_rfl
    have hs : (fun s_ : Int × Int => I.MostApart_L5 n { n := 26, t := [(0, (.ro false (.ints .i64 x0))), (3, (.int .i64 s_.1)), (4, (.int .i64 s_.2))], h := [] } k) = fun s_ => optC (I.MostApart_run5 x0 n s_) (fun (r : Int) => k (.exit 0) { n := 26, t := [(3, (.int .i64 r))], h := [] }) none := funext ih
    rw [hu, hs]
    exact (I.MostApart_step5_nat (fun o => optC o (fun (r : Int) => k (.exit 0) { n := 26, t := [(3, (.int .i64 r))], h := [] }) none) x0 s_.1 s_.2 (I.MostApart_run5 x0 n) (fun d => some d) none).symm
noncomputable def I.MostApart_tree {α : Type} (net : List Int) (leaf0_ : Int → α) (fail_ : α) : α :=
  (optC (I.NetOk_t net) (fun c_1 => (bif !c_1 then (leaf0_ (-1)) else (optC (I.MostApart_run5 net FUEL (0, 0)) (fun qy_6 => (leaf0_ qy_6)) fail_))) fail_)
theorem I.MostApart_tree_nat {α γ : Type} (g : α → γ) (net : List Int) (leaf0_ : Int → α) (fail_ : α) : g (I.MostApart_tree net leaf0_ fail_) = I.MostApart_tree net (fun d => g (leaf0_ d)) (g fail_) := by
  unfold I.MostApart_tree; simp only [apply_cnd g, apply_optC g, apply_sumC g]
noncomputable def I.MostApart_t (net : List Int) : Option (Int) := I.MostApart_tree net (fun d => some d) none
theorem I.MostApart_den (net : List Int) (κ : V → List E → R) : I.MostApart_F [.ro false (.ints .i64 net)] [] κ = optC (I.MostApart_t net) (fun (r : Int) => κ (.int .i64 r) []) none := by
  have hu : I.MostApart_F [.ro false (.ints .i64 net)] [] κ = I.MostApart_tree net (fun d => κ (.int .i64 d) []) none := by
    refine Eq.trans (show I.MostApart_F [.ro false (.ints .i64 net)] [] κ = (optC (I.NetOk_t net) (fun c_1 => (bif !c_1 then (κ (.int .i64 (-1)) []) else (I.MostApart_L5 FUEL { n := 26, t := [(0, (.ro false (.ints .i64 net))), (3, (.int .i64 0)), (4, (.int .i64 0))], h := [] } (I.MostApart_k5 κ)))) none) by kernel_rfl) ?_
    refine optC_congr (fun c_1 => ?_)
    refine cnd_congr ?_ ?_
    · kernel_rfl
    · refine (I.MostApart_L5_run net FUEL (0, 0) (I.MostApart_k5 κ)).trans (optC_congr (fun qy_6 => ?_))
      kernel_rfl
  rw [hu]
  exact (I.MostApart_tree_nat (fun o => optC o (fun (r : Int) => κ (.int .i64 r) []) none) net (fun d => some d) none).symm
noncomputable def I.MostApart_s : D.Spec where
  keep := false
  pure := true
  ds := [.int .i64]
  sp := fun args h κ => match args, h with
    | [.ro false (.ints .i64 net)], [] => optC (I.MostApart_t net) (fun (r : Int) => κ (.int .i64 r) []) none
    | _, _ => none
theorem I.MostApart_ok : SpecOk Try.prog 28 I.MostApart_s := by
  refine SpecOk.of TDok mixed (T := I.MostApart_T) ?_ (ann := I.MostApart_ann) Try.func28 rfl (by decide +kernel) ?_ ?_ ?_
  · intro p hp
    simp only [I.MostApart_T, List.mem_cons, List.not_mem_nil, or_false] at hp
    rcases hp with rfl | rfl | rfl | rfl
    · exact I.NetOk_ok
    · exact I.allOf_ok
    · exact I.sizeOf_ok
    · exact I.apartIn_ok
  · intro args h κ r hh
    simp only [I.MostApart_s] at hh
    split at hh
    · exact (I.MostApart_den _ κ).trans hh
    · cases hh
  · intro args h κ r hh
    simp only [I.MostApart_s] at hh ⊢
    split at hh
    · exact optC_law2 (F := fun (r : Int) κ => κ (.int .i64 r) []) (fun b κ r hb => ⟨_, _, hb, fun _ => rfl⟩) hh
    · cases hh
  · intro _ args h κ r hh
    simp only [I.MostApart_s] at hh
    split at hh
    · exact ⟨rfl, fun _ => rfl⟩
    · cases hh

-- loop.example/guardsonnets/impl.WiresOf
noncomputable def I.WiresOf_T : List (Nat × D.Spec) := [(18, I.NetOk_s), (62, I.sizeOf_s)]
def I.WiresOf_ann : Nat → List Nat × List Nat
  | 5 => ([0, 3, 4], [3])
  | _ => ([], [])
noncomputable def I.WiresOf_F (args : List V) (h : List E) (κ : V → List E → R) : R := funC TD (tableK I.WiresOf_T) I.WiresOf_ann (drawOk TD (tableP I.WiresOf_T)) FUEL Try.f29 args h κ
noncomputable def I.WiresOf_L5 (n : Nat) (σ : St) (k : X → St → R) : R := iterC 0 (fun σ k => denC TD (tableK I.WiresOf_T) I.WiresOf_ann (drawOk TD (tableP I.WiresOf_T)) 0 FUEL ((findLoop 5 (Try.f29.body.getD .skip)).getD .skip) σ k) [0, 3, 4] [3] n σ k
noncomputable def I.WiresOf_k5 (κ : V → List E → R) : X → St → R := (afterC TD (tableK I.WiresOf_T) I.WiresOf_ann (drawOk TD (tableP I.WiresOf_T)) 0 FUEL 5 (Try.f29.body.getD .skip) (finC TD 0 Try.f29 κ)).getD (fun _ _ => none)
noncomputable def I.WiresOf_step5 {α : Type} (x0 : List Int) (x3 : Int) (x4 : Int) (next_ : Int × Int → α) (out0_ : Int → α) (fail_ : α) : α :=
  (bif decide (x4 < (↑x0.length : Int)) then (bif decide (0 ≤ x4) && decide (x4 < (↑x0.length : Int)) then (optC (I.sizeOf_t (eli x0 x4.toNat)) (fun c_2 => (next_ (IntKind.i64.wrap (x3 + c_2), IntKind.i64.wrap (x4 + 1)))) fail_) else fail_) else (out0_ x3))
theorem I.WiresOf_step5_nat {α γ : Type} (g : α → γ) (x0 : List Int) (x3 : Int) (x4 : Int) (next_ : Int × Int → α) (out0_ : Int → α) (fail_ : α) : g (I.WiresOf_step5 x0 x3 x4 next_ out0_ fail_) = I.WiresOf_step5 x0 x3 x4 (fun s => g (next_ s)) (fun d => g (out0_ d)) (g fail_) := by
  unfold I.WiresOf_step5; simp only [apply_cnd g, apply_optC g, apply_sumC g]
noncomputable def I.WiresOf_run5 (x0 : List Int) : Nat → Int × Int → Option (Int)
  | 0, _ => none
  | n + 1, s_ => I.WiresOf_step5 x0 s_.1 s_.2 (I.WiresOf_run5 x0 n) (fun d => some d) none
theorem I.WiresOf_L5_run (x0 : List Int) (n : Nat) (s_ : Int × Int) (k : X → St → R) : I.WiresOf_L5 n { n := 23, t := [(0, (.ro false (.ints .i64 x0))), (3, (.int .i64 s_.1)), (4, (.int .i64 s_.2))], h := [] } k = optC (I.WiresOf_run5 x0 n s_) (fun (r : Int) => k (.exit 0) { n := 23, t := [(3, (.int .i64 r))], h := [] }) none := by
  induction n generalizing s_ with
  | zero => rfl
  | succ n ih =>
    have hu : I.WiresOf_L5 (n + 1) { n := 23, t := [(0, (.ro false (.ints .i64 x0))), (3, (.int .i64 s_.1)), (4, (.int .i64 s_.2))], h := [] } k = I.WiresOf_step5 x0 s_.1 s_.2 (fun s_ => I.WiresOf_L5 n { n := 23, t := [(0, (.ro false (.ints .i64 x0))), (3, (.int .i64 s_.1)), (4, (.int .i64 s_.2))], h := [] } k) (fun d => k (.exit 0) { n := 23, t := [(3, (.int .i64 d))], h := [] }) none := by
      kernel_rfl
    have hs : (fun s_ : Int × Int => I.WiresOf_L5 n { n := 23, t := [(0, (.ro false (.ints .i64 x0))), (3, (.int .i64 s_.1)), (4, (.int .i64 s_.2))], h := [] } k) = fun s_ => optC (I.WiresOf_run5 x0 n s_) (fun (r : Int) => k (.exit 0) { n := 23, t := [(3, (.int .i64 r))], h := [] }) none := funext ih
    rw [hu, hs]
    exact (I.WiresOf_step5_nat (fun o => optC o (fun (r : Int) => k (.exit 0) { n := 23, t := [(3, (.int .i64 r))], h := [] }) none) x0 s_.1 s_.2 (I.WiresOf_run5 x0 n) (fun d => some d) none).symm
noncomputable def I.WiresOf_tree {α : Type} (net : List Int) (leaf0_ : Int → α) (fail_ : α) : α :=
  (optC (I.NetOk_t net) (fun c_1 => (bif !c_1 then (leaf0_ (-1)) else (optC (I.WiresOf_run5 net FUEL (0, 0)) (fun qy_3 => (leaf0_ (IntKind.i64.wrap (qy_3.tdiv 2)))) fail_))) fail_)
theorem I.WiresOf_tree_nat {α γ : Type} (g : α → γ) (net : List Int) (leaf0_ : Int → α) (fail_ : α) : g (I.WiresOf_tree net leaf0_ fail_) = I.WiresOf_tree net (fun d => g (leaf0_ d)) (g fail_) := by
  unfold I.WiresOf_tree; simp only [apply_cnd g, apply_optC g, apply_sumC g]
noncomputable def I.WiresOf_t (net : List Int) : Option (Int) := I.WiresOf_tree net (fun d => some d) none
theorem I.WiresOf_den (net : List Int) (κ : V → List E → R) : I.WiresOf_F [.ro false (.ints .i64 net)] [] κ = optC (I.WiresOf_t net) (fun (r : Int) => κ (.int .i64 r) []) none := by
  have hu : I.WiresOf_F [.ro false (.ints .i64 net)] [] κ = I.WiresOf_tree net (fun d => κ (.int .i64 d) []) none := by
    refine Eq.trans (show I.WiresOf_F [.ro false (.ints .i64 net)] [] κ = (optC (I.NetOk_t net) (fun c_1 => (bif !c_1 then (κ (.int .i64 (-1)) []) else (I.WiresOf_L5 FUEL { n := 23, t := [(0, (.ro false (.ints .i64 net))), (3, (.int .i64 0)), (4, (.int .i64 0))], h := [] } (I.WiresOf_k5 κ)))) none) by kernel_rfl) ?_
    refine optC_congr (fun c_1 => ?_)
    refine cnd_congr ?_ ?_
    · kernel_rfl
    · refine (I.WiresOf_L5_run net FUEL (0, 0) (I.WiresOf_k5 κ)).trans (optC_congr (fun qy_3 => ?_))
      kernel_rfl
  rw [hu]
  exact (I.WiresOf_tree_nat (fun o => optC o (fun (r : Int) => κ (.int .i64 r) []) none) net (fun d => some d) none).symm
noncomputable def I.WiresOf_s : D.Spec where
  keep := false
  pure := true
  ds := [.int .i64]
  sp := fun args h κ => match args, h with
    | [.ro false (.ints .i64 net)], [] => optC (I.WiresOf_t net) (fun (r : Int) => κ (.int .i64 r) []) none
    | _, _ => none
theorem I.WiresOf_ok : SpecOk Try.prog 29 I.WiresOf_s := by
  refine SpecOk.of TDok mixed (T := I.WiresOf_T) ?_ (ann := I.WiresOf_ann) Try.func29 rfl (by decide +kernel) ?_ ?_ ?_
  · intro p hp
    simp only [I.WiresOf_T, List.mem_cons, List.not_mem_nil, or_false] at hp
    rcases hp with rfl | rfl
    · exact I.NetOk_ok
    · exact I.sizeOf_ok
  · intro args h κ r hh
    simp only [I.WiresOf_s] at hh
    split at hh
    · exact (I.WiresOf_den _ κ).trans hh
    · cases hh
  · intro args h κ r hh
    simp only [I.WiresOf_s] at hh ⊢
    split at hh
    · exact optC_law2 (F := fun (r : Int) κ => κ (.int .i64 r) []) (fun b κ r hb => ⟨_, _, hb, fun _ => rfl⟩) hh
    · cases hh
  · intro _ args h κ r hh
    simp only [I.WiresOf_s] at hh
    split at hh
    · exact ⟨rfl, fun _ => rfl⟩
    · cases hh

-- loop.example/guardsonnets/laws.FnMostClique
noncomputable def L.FnMostClique_T : List (Nat × D.Spec) := [(25, S.DrawMostClique_s), (26, I.MostClique_s), (27, S.MostClique_s), (18, I.NetOk_s), (19, L.alive_s), (22, I.OtherNet_s), (28, I.MostApart_s), (29, I.WiresOf_s)]
def L.FnMostClique_ann : Nat → List Nat × List Nat
  | _ => ([], [])
noncomputable def L.FnMostClique_F (args : List V) (h : List E) (κ : V → List E → R) : R := funC TD (tableK L.FnMostClique_T) L.FnMostClique_ann (drawOk TD (tableP L.FnMostClique_T)) FUEL Try.f5 args h κ
noncomputable def L.FnMostClique_tree {α : Type} (code : List Int) (leaf0_ : Bool → α) (fail_ : α) : α :=
  (bif decide ((↑code.length : Int) > 1048576) then (leaf0_ true) else (optC (S.DrawMostClique_t code) (fun c_1 => (optC (I.MostClique_t c_1) (fun c_2 => (optC (S.MostClique_t c_1) (fun c_3 => (bif !c_2 == c_3 then (leaf0_ false) else (bif decide (c_2 < 0) then (bif c_2 == -1 then (optC (I.NetOk_t c_1) (fun c_4 => (bif !c_4 then (optC (L.alive_t) (fun c_5 => (leaf0_ c_5)) fail_) else (leaf0_ false))) fail_) else (leaf0_ false)) else (optC (I.OtherNet_t c_1) (fun c_6 => (optC (I.MostApart_t c_6) (fun c_7 => (bif c_2 == c_7 then (optC (I.WiresOf_t c_1) (fun c_8 => (leaf0_ ((c_2 == 1) == (c_8 == 0)))) fail_) else (leaf0_ false))) fail_)) fail_)))) fail_)) fail_)) fail_))
theorem L.FnMostClique_tree_nat {α γ : Type} (g : α → γ) (code : List Int) (leaf0_ : Bool → α) (fail_ : α) : g (L.FnMostClique_tree code leaf0_ fail_) = L.FnMostClique_tree code (fun d => g (leaf0_ d)) (g fail_) := by
  unfold L.FnMostClique_tree; simp only [apply_cnd g, apply_optC g, apply_sumC g]
noncomputable def L.FnMostClique_t (code : List Int) : Option (Bool) := L.FnMostClique_tree code (fun d => some d) none
theorem L.FnMostClique_den (code : List Int) (κ : V → List E → R) : L.FnMostClique_F [.ro true (.ints .u8 code)] [] κ = optC (L.FnMostClique_t code) (fun (r : Bool) => κ (.bool r) []) none := by
  have hu : L.FnMostClique_F [.ro true (.ints .u8 code)] [] κ = L.FnMostClique_tree code (fun d => κ (.bool d) []) none := by
    kernel_rfl
  rw [hu]
  exact (L.FnMostClique_tree_nat (fun o => optC o (fun (r : Bool) => κ (.bool r) []) none) code (fun d => some d) none).symm
noncomputable def L.FnMostClique_s : D.Spec where
  keep := true
  pure := true
  ds := [.int .u8]
  sp := fun args h κ => match args, h with
    | [.ro true (.ints .u8 code)], [] => optC (L.FnMostClique_t code) (fun (r : Bool) => κ (.bool r) []) none
    | _, _ => none
theorem L.FnMostClique_ok : SpecOk Try.prog 5 L.FnMostClique_s := by
  refine SpecOk.of TDok mixed (T := L.FnMostClique_T) ?_ (ann := L.FnMostClique_ann) Try.func5 rfl (by decide +kernel) ?_ ?_ ?_
  · intro p hp
    simp only [L.FnMostClique_T, List.mem_cons, List.not_mem_nil, or_false] at hp
    rcases hp with rfl | rfl | rfl | rfl | rfl | rfl | rfl | rfl
    · exact S.DrawMostClique_ok
    · exact I.MostClique_ok
    · exact S.MostClique_ok
    · exact I.NetOk_ok
    · exact L.alive_ok
    · exact I.OtherNet_ok
    · exact I.MostApart_ok
    · exact I.WiresOf_ok
  · intro args h κ r hh
    simp only [L.FnMostClique_s] at hh
    split at hh
    · exact (L.FnMostClique_den _ κ).trans hh
    · cases hh
  · intro args h κ r hh
    simp only [L.FnMostClique_s] at hh ⊢
    split at hh
    · exact optC_law2 (F := fun (r : Bool) κ => κ (.bool r) []) (fun b κ r hb => ⟨_, _, hb, fun _ => rfl⟩) hh
    · cases hh
  · intro _ args h κ r hh
    simp only [L.FnMostClique_s] at hh
    split at hh
    · exact ⟨rfl, fun _ => rfl⟩
    · cases hh

-- loop.example/guardsonnets/laws.FnExactMostClique
noncomputable def L.FnExactMostClique_T : List (Nat × D.Spec) := [(23, L.toIntS_s), (27, S.MostClique_s), (26, I.MostClique_s), (24, L.eqIntS_s)]
def L.FnExactMostClique_ann : Nat → List Nat × List Nat
  | _ => ([], [])
noncomputable def L.FnExactMostClique_F (args : List V) (h : List E) (κ : V → List E → R) : R := funC TD (tableK L.FnExactMostClique_T) L.FnExactMostClique_ann (drawOk TD (tableP L.FnExactMostClique_T)) FUEL Try.f6 args h κ
noncomputable def L.FnExactMostClique_tree {α : Type} (aNet : List Int) (leaf0_ : Bool → α) (fail_ : α) : α :=
  (bif decide ((↑aNet.length : Int) > 1048576) then (leaf0_ true) else (optC (L.toIntS_t aNet) (fun c_1 => (optC (S.MostClique_t c_1) (fun c_2 => (optC (L.toIntS_t aNet) (fun c_3 => (optC (I.MostClique_t c_3) (fun c_4 => (bif !c_4 == c_2 then (leaf0_ false) else (optC (L.toIntS_t aNet) (fun c_5 => (optC (L.eqIntS_t c_3 c_5) (fun c_6 => (bif !c_6 then (leaf0_ false) else (leaf0_ true))) fail_)) fail_))) fail_)) fail_)) fail_)) fail_))
theorem L.FnExactMostClique_tree_nat {α γ : Type} (g : α → γ) (aNet : List Int) (leaf0_ : Bool → α) (fail_ : α) : g (L.FnExactMostClique_tree aNet leaf0_ fail_) = L.FnExactMostClique_tree aNet (fun d => g (leaf0_ d)) (g fail_) := by
  unfold L.FnExactMostClique_tree; simp only [apply_cnd g, apply_optC g, apply_sumC g]
noncomputable def L.FnExactMostClique_t (aNet : List Int) : Option (Bool) := L.FnExactMostClique_tree aNet (fun d => some d) none
theorem L.FnExactMostClique_den (aNet : List Int) (κ : V → List E → R) : L.FnExactMostClique_F [.ro true (.ints .i64 aNet)] [] κ = optC (L.FnExactMostClique_t aNet) (fun (r : Bool) => κ (.bool r) []) none := by
  have hu : L.FnExactMostClique_F [.ro true (.ints .i64 aNet)] [] κ = L.FnExactMostClique_tree aNet (fun d => κ (.bool d) []) none := by
    kernel_rfl
  rw [hu]
  exact (L.FnExactMostClique_tree_nat (fun o => optC o (fun (r : Bool) => κ (.bool r) []) none) aNet (fun d => some d) none).symm
noncomputable def L.FnExactMostClique_s : D.Spec where
  keep := true
  pure := true
  ds := [.int .i64]
  sp := fun args h κ => match args, h with
    | [.ro true (.ints .i64 aNet)], [] => optC (L.FnExactMostClique_t aNet) (fun (r : Bool) => κ (.bool r) []) none
    | _, _ => none
theorem L.FnExactMostClique_ok : SpecOk Try.prog 6 L.FnExactMostClique_s := by
  refine SpecOk.of TDok mixed (T := L.FnExactMostClique_T) ?_ (ann := L.FnExactMostClique_ann) Try.func6 rfl (by decide +kernel) ?_ ?_ ?_
  · intro p hp
    simp only [L.FnExactMostClique_T, List.mem_cons, List.not_mem_nil, or_false] at hp
    rcases hp with rfl | rfl | rfl | rfl
    · exact L.toIntS_ok
    · exact S.MostClique_ok
    · exact I.MostClique_ok
    · exact L.eqIntS_ok
  · intro args h κ r hh
    simp only [L.FnExactMostClique_s] at hh
    split at hh
    · exact (L.FnExactMostClique_den _ κ).trans hh
    · cases hh
  · intro args h κ r hh
    simp only [L.FnExactMostClique_s] at hh ⊢
    split at hh
    · exact optC_law2 (F := fun (r : Bool) κ => κ (.bool r) []) (fun b κ r hb => ⟨_, _, hb, fun _ => rfl⟩) hh
    · cases hh
  · intro _ args h κ r hh
    simp only [L.FnExactMostClique_s] at hh
    split at hh
    · exact ⟨rfl, fun _ => rfl⟩
    · cases hh

-- loop.example/guardsonnets/spec.l13Set
noncomputable def S.l13Set_T : List (Nat × D.Spec) := []
def S.l13Set_ann : Nat → List Nat × List Nat
  | 3 => ([0, 1, 5, 6], [5])
  | _ => ([], [])
noncomputable def S.l13Set_F (args : List V) (h : List E) (κ : V → List E → R) : R := funC TD (tableK S.l13Set_T) S.l13Set_ann (drawOk TD (tableP S.l13Set_T)) FUEL Try.f64 args h κ
noncomputable def S.l13Set_L3 (n : Nat) (σ : St) (k : X → St → R) : R := iterC 0 (fun σ k => denC TD (tableK S.l13Set_T) S.l13Set_ann (drawOk TD (tableP S.l13Set_T)) 0 FUEL ((findLoop 3 (Try.f64.body.getD .skip)).getD .skip) σ k) [0, 1, 5, 6] [5] n σ k
noncomputable def S.l13Set_k3 (κ : V → List E → R) : X → St → R := (afterC TD (tableK S.l13Set_T) S.l13Set_ann (drawOk TD (tableP S.l13Set_T)) 0 FUEL 3 (Try.f64.body.getD .skip) (finC TD 0 Try.f64 κ)).getD (fun _ _ => none)
noncomputable def S.l13Set_step3 {α : Type} (x0 : List Int) (x1 : Int) (x5 : Int) (x6 : Int) (next_ : Int × Int → α) (out0_ : Int → α) (fail_ : α) : α :=
  (bif decide (x6 < (↑x0.length : Int)) then (bif decide (0 ≤ x6) && decide (x6 < (↑x0.length : Int)) then (bif eli x0 x6.toNat == x1 then (bif decide (x6 < 0) then fail_ else (next_ (bits BinOp.or IntKind.i64 x5 (IntKind.i64.wrap (1 * 2 ^ min x6.toNat IntKind.i64.bits)), IntKind.i64.wrap (x6 + 1)))) else (next_ (x5, IntKind.i64.wrap (x6 + 1)))) else fail_) else (out0_ x5))
theorem S.l13Set_step3_nat {α γ : Type} (g : α → γ) (x0 : List Int) (x1 : Int) (x5 : Int) (x6 : Int) (next_ : Int × Int → α) (out0_ : Int → α) (fail_ : α) : g (S.l13Set_step3 x0 x1 x5 x6 next_ out0_ fail_) = S.l13Set_step3 x0 x1 x5 x6 (fun s => g (next_ s)) (fun d => g (out0_ d)) (g fail_) := by
  unfold S.l13Set_step3; simp only [apply_cnd g, apply_optC g, apply_sumC g]
noncomputable def S.l13Set_run3 (x0 : List Int) (x1 : Int) : Nat → Int × Int → Option (Int)
  | 0, _ => none
  | n + 1, s_ => S.l13Set_step3 x0 x1 s_.1 s_.2 (S.l13Set_run3 x0 x1 n) (fun d => some d) none
theorem S.l13Set_L3_run (x0 : List Int) (x1 : Int) (n : Nat) (s_ : Int × Int) (k : X → St → R) : S.l13Set_L3 n { n := 24, t := [(0, (.ro false (.ints .i64 x0))), (1, (.int .i64 x1)), (5, (.int .i64 s_.1)), (6, (.int .i64 s_.2))], h := [] } k = optC (S.l13Set_run3 x0 x1 n s_) (fun (r : Int) => k (.exit 0) { n := 24, t := [(5, (.int .i64 r))], h := [] }) none := by
  induction n generalizing s_ with
  | zero => rfl
  | succ n ih =>
    have hu : S.l13Set_L3 (n + 1) { n := 24, t := [(0, (.ro false (.ints .i64 x0))), (1, (.int .i64 x1)), (5, (.int .i64 s_.1)), (6, (.int .i64 s_.2))], h := [] } k = S.l13Set_step3 x0 x1 s_.1 s_.2 (fun s_ => S.l13Set_L3 n { n := 24, t := [(0, (.ro false (.ints .i64 x0))), (1, (.int .i64 x1)), (5, (.int .i64 s_.1)), (6, (.int .i64 s_.2))], h := [] } k) (fun d => k (.exit 0) { n := 24, t := [(5, (.int .i64 d))], h := [] }) none := by
      kernel_rfl
    have hs : (fun s_ : Int × Int => S.l13Set_L3 n { n := 24, t := [(0, (.ro false (.ints .i64 x0))), (1, (.int .i64 x1)), (5, (.int .i64 s_.1)), (6, (.int .i64 s_.2))], h := [] } k) = fun s_ => optC (S.l13Set_run3 x0 x1 n s_) (fun (r : Int) => k (.exit 0) { n := 24, t := [(5, (.int .i64 r))], h := [] }) none := funext ih
    rw [hu, hs]
    exact (S.l13Set_step3_nat (fun o => optC o (fun (r : Int) => k (.exit 0) { n := 24, t := [(5, (.int .i64 r))], h := [] }) none) x0 x1 s_.1 s_.2 (S.l13Set_run3 x0 x1 n) (fun d => some d) none).symm
noncomputable def S.l13Set_tree {α : Type} (row : List Int) (n_ : Int) (leaf0_ : Int → α) (fail_ : α) : α :=
  (optC (S.l13Set_run3 row n_ FUEL (0, 0)) (fun qy_1 => (leaf0_ qy_1)) fail_)
theorem S.l13Set_tree_nat {α γ : Type} (g : α → γ) (row : List Int) (n_ : Int) (leaf0_ : Int → α) (fail_ : α) : g (S.l13Set_tree row n_ leaf0_ fail_) = S.l13Set_tree row n_ (fun d => g (leaf0_ d)) (g fail_) := by
  unfold S.l13Set_tree; simp only [apply_cnd g, apply_optC g, apply_sumC g]
noncomputable def S.l13Set_t (row : List Int) (n_ : Int) : Option (Int) := S.l13Set_tree row n_ (fun d => some d) none
theorem S.l13Set_den (row : List Int) (n_ : Int) (κ : V → List E → R) : S.l13Set_F [.ro false (.ints .i64 row), .int .i64 n_] [] κ = optC (S.l13Set_t row n_) (fun (r : Int) => κ (.int .i64 r) []) none := by
  have hu : S.l13Set_F [.ro false (.ints .i64 row), .int .i64 n_] [] κ = S.l13Set_tree row n_ (fun d => κ (.int .i64 d) []) none := by
    refine Eq.trans (show S.l13Set_F [.ro false (.ints .i64 row), .int .i64 n_] [] κ = (S.l13Set_L3 FUEL { n := 24, t := [(0, (.ro false (.ints .i64 row))), (1, (.int .i64 n_)), (5, (.int .i64 0)), (6, (.int .i64 0))], h := [] } (S.l13Set_k3 κ)) by kernel_rfl) ?_
    refine (S.l13Set_L3_run row n_ FUEL (0, 0) (S.l13Set_k3 κ)).trans (optC_congr (fun qy_1 => ?_))
    kernel_rfl
  rw [hu]
  exact (S.l13Set_tree_nat (fun o => optC o (fun (r : Int) => κ (.int .i64 r) []) none) row n_ (fun d => some d) none).symm
noncomputable def S.l13Set_s : D.Spec where
  keep := false
  pure := true
  ds := [.int .i64, .invalid]
  sp := fun args h κ => match args, h with
    | [.ro false (.ints .i64 row), .int .i64 n_], [] => optC (S.l13Set_t row n_) (fun (r : Int) => κ (.int .i64 r) []) none
    | _, _ => none
theorem S.l13Set_ok : SpecOk Try.prog 64 S.l13Set_s := by
  refine SpecOk.of TDok mixed (T := S.l13Set_T) ?_ (ann := S.l13Set_ann) Try.func64 rfl (by decide +kernel) ?_ ?_ ?_
  · intro p hp; cases hp
  · intro args h κ r hh
    simp only [S.l13Set_s] at hh
    split at hh
    · exact (S.l13Set_den _ _ κ).trans hh
    · cases hh
  · intro args h κ r hh
    simp only [S.l13Set_s] at hh ⊢
    split at hh
    · exact optC_law2 (F := fun (r : Int) κ => κ (.int .i64 r) []) (fun b κ r hb => ⟨_, _, hb, fun _ => rfl⟩) hh
    · cases hh
  · intro _ args h κ r hh
    simp only [S.l13Set_s] at hh
    split at hh
    · exact ⟨rfl, fun _ => rfl⟩
    · cases hh

-- loop.example/guardsonnets/spec.DrawCliqueRowOk
noncomputable def S.DrawCliqueRowOk_T : List (Nat × D.Spec) := [(47, S.l20Open_s), (61, S.l20Net_s), (50, S.l20Rd_pick_s), (49, S.NetOk_s), (64, S.l13Set_s), (51, S.l13Clique_s)]
def S.DrawCliqueRowOk_ann : Nat → List Nat × List Nat
  | 10 => ([4, 5, 6, 7, 8, 9, 10], [4, 5, 6, 7, 8, 9])
  | 6 => ([4, 5, 6, 7, 8], [4, 5, 6])
  | _ => ([], [])
noncomputable def S.DrawCliqueRowOk_F (args : List V) (h : List E) (κ : V → List E → R) : R := funC TD (tableK S.DrawCliqueRowOk_T) S.DrawCliqueRowOk_ann (drawOk TD (tableP S.DrawCliqueRowOk_T)) FUEL Try.f30 args h κ
noncomputable def S.DrawCliqueRowOk_L10 (n : Nat) (σ : St) (k : X → St → R) : R := iterC 0 (fun σ k => denC TD (tableK S.DrawCliqueRowOk_T) S.DrawCliqueRowOk_ann (drawOk TD (tableP S.DrawCliqueRowOk_T)) 0 FUEL ((findLoop 10 (Try.f30.body.getD .skip)).getD .skip) σ k) [4, 5, 6, 7, 8, 9, 10] [4, 5, 6, 7, 8, 9] n σ k
noncomputable def S.DrawCliqueRowOk_L6 (n : Nat) (σ : St) (k : X → St → R) : R := iterC 0 (fun σ k => denC TD (tableK S.DrawCliqueRowOk_T) S.DrawCliqueRowOk_ann (drawOk TD (tableP S.DrawCliqueRowOk_T)) 0 FUEL ((findLoop 6 (Try.f30.body.getD .skip)).getD .skip) σ k) [4, 5, 6, 7, 8] [4, 5, 6] n σ k
noncomputable def S.DrawCliqueRowOk_k10 (c : (St → R) × (X → St → R)) : X → St → R := (afterC TD (tableK S.DrawCliqueRowOk_T) S.DrawCliqueRowOk_ann (drawOk TD (tableP S.DrawCliqueRowOk_T)) 0 FUEL 10 ((findLoop 6 (Try.f30.body.getD .skip)).getD .skip) (roundC 0 [4, 5, 6, 7, 8] [4, 5, 6] c.1 c.2)).getD (fun _ _ => none)
noncomputable def S.DrawCliqueRowOk_k6 (κ : V → List E → R) : X → St → R := (afterC TD (tableK S.DrawCliqueRowOk_T) S.DrawCliqueRowOk_ann (drawOk TD (tableP S.DrawCliqueRowOk_T)) 0 FUEL 6 (Try.f30.body.getD .skip) (finC TD 0 Try.f30 κ)).getD (fun _ _ => none)
noncomputable def S.DrawCliqueRowOk_step10 {α : Type} (x7 : Int) (x8 : Int) (x9 : Int) (x10 : Int) (r0_0 : List Int) (r0_1 : Int) (r1 : List Int) (r2 : List Int) (next_ : Int × Int × (List Int) × Int × (List Int) × (List Int) → α) (out0_ : Int × (List Int) × Int × (List Int) × (List Int) → α) (fail_ : α) : α :=
  (bif decide (x10 < x7) then (optC (S.l20Rd_pick_t r0_0 r0_1 4) (fun c_3 => (bif decide (c_3.fst > 0) then (optC (S.NetOk_t r1) (fun c_4 => (bif c_4 then (bif small ([] ++ r2).length then (bif small ([] ++ r2 ++ [x10]).length then (optC (S.l13Set_t ([] ++ r2 ++ [x10]) x10) (fun c_5 => (optC (S.l13Clique_t r1 c_5) (fun c_6 => (bif c_6 then (next_ (x10, IntKind.i64.wrap (x10 + 1), c_3.snd.fst, c_3.snd.snd, r1, r2)) else (next_ (x9, IntKind.i64.wrap (x10 + 1), c_3.snd.fst, c_3.snd.snd, r1, r2)))) fail_)) fail_) else fail_) else fail_) else (next_ (x9, IntKind.i64.wrap (x10 + 1), c_3.snd.fst, c_3.snd.snd, r1, r2)))) fail_) else (out0_ (x9, c_3.snd.fst, c_3.snd.snd, r1, r2)))) fail_) else (out0_ (x9, r0_0, r0_1, r1, r2)))
theorem S.DrawCliqueRowOk_step10_nat {α γ : Type} (g : α → γ) (x7 : Int) (x8 : Int) (x9 : Int) (x10 : Int) (r0_0 : List Int) (r0_1 : Int) (r1 : List Int) (r2 : List Int) (next_ : Int × Int × (List Int) × Int × (List Int) × (List Int) → α) (out0_ : Int × (List Int) × Int × (List Int) × (List Int) → α) (fail_ : α) : g (S.DrawCliqueRowOk_step10 x7 x8 x9 x10 r0_0 r0_1 r1 r2 next_ out0_ fail_) = S.DrawCliqueRowOk_step10 x7 x8 x9 x10 r0_0 r0_1 r1 r2 (fun s => g (next_ s)) (fun d => g (out0_ d)) (g fail_) := by
  unfold S.DrawCliqueRowOk_step10; simp only [apply_cnd g, apply_optC g, apply_sumC g]
noncomputable def S.DrawCliqueRowOk_run10 (x7 : Int) (x8 : Int) : Nat → Int × Int × (List Int) × Int × (List Int) × (List Int) → Option (Int × (List Int) × Int × (List Int) × (List Int))
  | 0, _ => none
  | n + 1, s_ => S.DrawCliqueRowOk_step10 x7 x8 s_.1 s_.2.1 s_.2.2.1 s_.2.2.2.1 s_.2.2.2.2.1 s_.2.2.2.2.2 (S.DrawCliqueRowOk_run10 x7 x8 n) (fun d => some d) none
theorem S.DrawCliqueRowOk_L10_run (x7 : Int) (x8 : Int) (n : Nat) (s_ : Int × Int × (List Int) × Int × (List Int) × (List Int)) (k : X → St → R) : S.DrawCliqueRowOk_L10 n { n := 74, t := [(4, (.ptr 0 0)), (5, (.own 1)), (6, (.own 2)), (7, (.int .i64 x7)), (8, (.int .i64 x8)), (9, (.int .i64 s_.1)), (10, (.int .i64 s_.2.1))], h := [.cells [(.ro true (.ints .u8 s_.2.2.1)), (.int .i64 s_.2.2.2.1)], .row (.ints .i64 s_.2.2.2.2.1), .row (.ints .i64 s_.2.2.2.2.2)] } k = optC (S.DrawCliqueRowOk_run10 x7 x8 n s_) (fun (r : Int × (List Int) × Int × (List Int) × (List Int)) => k (.exit 2) { n := 74, t := [(4, (.ptr 0 0)), (5, (.own 1)), (6, (.own 2)), (7, (.int .i64 x7)), (8, (.int .i64 x8)), (9, (.int .i64 r.1))], h := [.cells [(.ro true (.ints .u8 r.2.1)), (.int .i64 r.2.2.1)], .row (.ints .i64 r.2.2.2.1), .row (.ints .i64 r.2.2.2.2)] }) none := by
  induction n generalizing s_ with
  | zero => rfl
  | succ n ih =>
    have hu : S.DrawCliqueRowOk_L10 (n + 1) { n := 74, t := [(4, (.ptr 0 0)), (5, (.own 1)), (6, (.own 2)), (7, (.int .i64 x7)), (8, (.int .i64 x8)), (9, (.int .i64 s_.1)), (10, (.int .i64 s_.2.1))], h := [.cells [(.ro true (.ints .u8 s_.2.2.1)), (.int .i64 s_.2.2.2.1)], .row (.ints .i64 s_.2.2.2.2.1), .row (.ints .i64 s_.2.2.2.2.2)] } k = S.DrawCliqueRowOk_step10 x7 x8 s_.1 s_.2.1 s_.2.2.1 s_.2.2.2.1 s_.2.2.2.2.1 s_.2.2.2.2.2 (fun s_ => S.DrawCliqueRowOk_L10 n { n := 74, t := [(4, (.ptr 0 0)), (5, (.own 1)), (6, (.own 2)), (7, (.int .i64 x7)), (8, (.int .i64 x8)), (9, (.int .i64 s_.1)), (10, (.int .i64 s_.2.1))], h := [.cells [(.ro true (.ints .u8 s_.2.2.1)), (.int .i64 s_.2.2.2.1)], .row (.ints .i64 s_.2.2.2.2.1), .row (.ints .i64 s_.2.2.2.2.2)] } k) (fun d => k (.exit 2) { n := 74, t := [(4, (.ptr 0 0)), (5, (.own 1)), (6, (.own 2)), (7, (.int .i64 x7)), (8, (.int .i64 x8)), (9, (.int .i64 d.1))], h := [.cells [(.ro true (.ints .u8 d.2.1)), (.int .i64 d.2.2.1)], .row (.ints .i64 d.2.2.2.1), .row (.ints .i64 d.2.2.2.2)] }) none := by
      kernel_rfl
    have hs : (fun s_ : Int × Int × (List Int) × Int × (List Int) × (List Int) => S.DrawCliqueRowOk_L10 n { n := 74, t := [(4, (.ptr 0 0)), (5, (.own 1)), (6, (.own 2)), (7, (.int .i64 x7)), (8, (.int .i64 x8)), (9, (.int .i64 s_.1)), (10, (.int .i64 s_.2.1))], h := [.cells [(.ro true (.ints .u8 s_.2.2.1)), (.int .i64 s_.2.2.2.1)], .row (.ints .i64 s_.2.2.2.2.1), .row (.ints .i64 s_.2.2.2.2.2)] } k) = fun s_ => optC (S.DrawCliqueRowOk_run10 x7 x8 n s_) (fun (r : Int × (List Int) × Int × (List Int) × (List Int)) => k (.exit 2) { n := 74, t := [(4, (.ptr 0 0)), (5, (.own 1)), (6, (.own 2)), (7, (.int .i64 x7)), (8, (.int .i64 x8)), (9, (.int .i64 r.1))], h := [.cells [(.ro true (.ints .u8 r.2.1)), (.int .i64 r.2.2.1)], .row (.ints .i64 r.2.2.2.1), .row (.ints .i64 r.2.2.2.2)] }) none := funext ih
    rw [hu, hs]
    exact (S.DrawCliqueRowOk_step10_nat (fun o => optC o (fun (r : Int × (List Int) × Int × (List Int) × (List Int)) => k (.exit 2) { n := 74, t := [(4, (.ptr 0 0)), (5, (.own 1)), (6, (.own 2)), (7, (.int .i64 x7)), (8, (.int .i64 x8)), (9, (.int .i64 r.1))], h := [.cells [(.ro true (.ints .u8 r.2.1)), (.int .i64 r.2.2.1)], .row (.ints .i64 r.2.2.2.1), .row (.ints .i64 r.2.2.2.2)] }) none) x7 x8 s_.1 s_.2.1 s_.2.2.1 s_.2.2.2.1 s_.2.2.2.2.1 s_.2.2.2.2.2 (S.DrawCliqueRowOk_run10 x7 x8 n) (fun d => some d) none).symm
noncomputable def S.DrawCliqueRowOk_step6 {α : Type} (x7 : Int) (x8 : Int) (r0_0 : List Int) (r0_1 : Int) (r1 : List Int) (r2 : List Int) (next_ : Int × Int × (List Int) × Int × (List Int) × (List Int) → α) (out0_ : (List Int) × Int × (List Int) × (List Int) → α) (fail_ : α) : α :=
  (bif decide (x8 < (↑r1.length : Int)) then (optC (S.DrawCliqueRowOk_run10 x7 x8 FUEL (x7, 0, r0_0, r0_1, r1, r2)) (fun qy_7 => (optC (S.l20Rd_pick_t qy_7.2.1 qy_7.2.2.1 25) (fun c_8 => (bif c_8.fst == 0 then (optC (S.l20Rd_pick_t c_8.snd.fst c_8.snd.snd 4) (fun c_9 => (bif decide (0 ≤ c_9.fst) && decide (c_9.fst < (↑[-1, IntKind.i64.wrap (x7 + 1), 0, 6].length : Int)) then (bif decide (c_9.fst.toNat < [-1, IntKind.i64.wrap (x7 + 1), 0, 6].length) then (bif small (qy_7.2.2.2.2 ++ [eli [-1, IntKind.i64.wrap (x7 + 1), 0, 6] c_9.fst.toNat]).length then (next_ (if IntKind.i64.wrap (eli [-1, IntKind.i64.wrap (x7 + 1), 0, 6] c_9.fst.toNat + 1) > x7 then IntKind.i64.wrap (eli [-1, IntKind.i64.wrap (x7 + 1), 0, 6] c_9.fst.toNat + 1) else x7, IntKind.i64.wrap (x8 + 1), c_9.snd.fst, c_9.snd.snd, qy_7.2.2.2.1, qy_7.2.2.2.2 ++ [eli [-1, IntKind.i64.wrap (x7 + 1), 0, 6] c_9.fst.toNat])) else fail_) else fail_) else fail_)) fail_) else (bif small (qy_7.2.2.2.2 ++ [qy_7.1]).length then (next_ (if IntKind.i64.wrap (qy_7.1 + 1) > x7 then IntKind.i64.wrap (qy_7.1 + 1) else x7, IntKind.i64.wrap (x8 + 1), c_8.snd.fst, c_8.snd.snd, qy_7.2.2.2.1, qy_7.2.2.2.2 ++ [qy_7.1])) else fail_))) fail_)) fail_) else (out0_ (r0_0, r0_1, r1, r2)))
theorem S.DrawCliqueRowOk_step6_nat {α γ : Type} (g : α → γ) (x7 : Int) (x8 : Int) (r0_0 : List Int) (r0_1 : Int) (r1 : List Int) (r2 : List Int) (next_ : Int × Int × (List Int) × Int × (List Int) × (List Int) → α) (out0_ : (List Int) × Int × (List Int) × (List Int) → α) (fail_ : α) : g (S.DrawCliqueRowOk_step6 x7 x8 r0_0 r0_1 r1 r2 next_ out0_ fail_) = S.DrawCliqueRowOk_step6 x7 x8 r0_0 r0_1 r1 r2 (fun s => g (next_ s)) (fun d => g (out0_ d)) (g fail_) := by
  unfold S.DrawCliqueRowOk_step6; simp only [apply_cnd g, apply_optC g, apply_sumC g]
noncomputable def S.DrawCliqueRowOk_run6 : Nat → Int × Int × (List Int) × Int × (List Int) × (List Int) → Option ((List Int) × Int × (List Int) × (List Int))
  | 0, _ => none
  | n + 1, s_ => S.DrawCliqueRowOk_step6 s_.1 s_.2.1 s_.2.2.1 s_.2.2.2.1 s_.2.2.2.2.1 s_.2.2.2.2.2 (S.DrawCliqueRowOk_run6 n) (fun d => some d) none
theorem S.DrawCliqueRowOk_L6_run (n : Nat) (s_ : Int × Int × (List Int) × Int × (List Int) × (List Int)) (k : X → St → R) : S.DrawCliqueRowOk_L6 n { n := 74, t := [(4, (.ptr 0 0)), (5, (.own 1)), (6, (.own 2)), (7, (.int .i64 s_.1)), (8, (.int .i64 s_.2.1))], h := [.cells [(.ro true (.ints .u8 s_.2.2.1)), (.int .i64 s_.2.2.2.1)], .row (.ints .i64 s_.2.2.2.2.1), .row (.ints .i64 s_.2.2.2.2.2)] } k = optC (S.DrawCliqueRowOk_run6 n s_) (fun (r : (List Int) × Int × (List Int) × (List Int)) => k (.exit 0) { n := 74, t := [(4, (.ptr 0 0)), (5, (.own 1)), (6, (.own 2))], h := [.cells [(.ro true (.ints .u8 r.1)), (.int .i64 r.2.1)], .row (.ints .i64 r.2.2.1), .row (.ints .i64 r.2.2.2)] }) none := by
  induction n generalizing s_ with
  | zero => rfl
  | succ n ih =>
    have hu : S.DrawCliqueRowOk_L6 (n + 1) { n := 74, t := [(4, (.ptr 0 0)), (5, (.own 1)), (6, (.own 2)), (7, (.int .i64 s_.1)), (8, (.int .i64 s_.2.1))], h := [.cells [(.ro true (.ints .u8 s_.2.2.1)), (.int .i64 s_.2.2.2.1)], .row (.ints .i64 s_.2.2.2.2.1), .row (.ints .i64 s_.2.2.2.2.2)] } k = S.DrawCliqueRowOk_step6 s_.1 s_.2.1 s_.2.2.1 s_.2.2.2.1 s_.2.2.2.2.1 s_.2.2.2.2.2 (fun s_ => S.DrawCliqueRowOk_L6 n { n := 74, t := [(4, (.ptr 0 0)), (5, (.own 1)), (6, (.own 2)), (7, (.int .i64 s_.1)), (8, (.int .i64 s_.2.1))], h := [.cells [(.ro true (.ints .u8 s_.2.2.1)), (.int .i64 s_.2.2.2.1)], .row (.ints .i64 s_.2.2.2.2.1), .row (.ints .i64 s_.2.2.2.2.2)] } k) (fun d => k (.exit 0) { n := 74, t := [(4, (.ptr 0 0)), (5, (.own 1)), (6, (.own 2))], h := [.cells [(.ro true (.ints .u8 d.1)), (.int .i64 d.2.1)], .row (.ints .i64 d.2.2.1), .row (.ints .i64 d.2.2.2)] }) none := by
      refine Eq.trans (show S.DrawCliqueRowOk_L6 (n + 1) { n := 74, t := [(4, (.ptr 0 0)), (5, (.own 1)), (6, (.own 2)), (7, (.int .i64 s_.1)), (8, (.int .i64 s_.2.1))], h := [.cells [(.ro true (.ints .u8 s_.2.2.1)), (.int .i64 s_.2.2.2.1)], .row (.ints .i64 s_.2.2.2.2.1), .row (.ints .i64 s_.2.2.2.2.2)] } k = (bif decide (s_.2.1 < (↑s_.2.2.2.2.1.length : Int)) then (S.DrawCliqueRowOk_L10 FUEL { n := 74, t := [(4, (.ptr 0 0)), (5, (.own 1)), (6, (.own 2)), (7, (.int .i64 s_.1)), (8, (.int .i64 s_.2.1)), (9, (.int .i64 s_.1)), (10, (.int .i64 0))], h := [.cells [(.ro true (.ints .u8 s_.2.2.1)), (.int .i64 s_.2.2.2.1)], .row (.ints .i64 s_.2.2.2.2.1), .row (.ints .i64 s_.2.2.2.2.2)] } (S.DrawCliqueRowOk_k10 ((fun σ => S.DrawCliqueRowOk_L6 n σ k), k))) else (k (.exit 0) { n := 74, t := [(4, (.ptr 0 0)), (5, (.own 1)), (6, (.own 2))], h := [.cells [(.ro true (.ints .u8 s_.2.2.1)), (.int .i64 s_.2.2.2.1)], .row (.ints .i64 s_.2.2.2.2.1), .row (.ints .i64 s_.2.2.2.2.2)] })) by kernel_rfl) ?_
      refine cnd_congr ?_ ?_
      · refine (S.DrawCliqueRowOk_L10_run s_.1 s_.2.1 FUEL (s_.1, 0, s_.2.2.1, s_.2.2.2.1, s_.2.2.2.2.1, s_.2.2.2.2.2) (S.DrawCliqueRowOk_k10 ((fun σ => S.DrawCliqueRowOk_L6 n σ k), k))).trans (optC_congr (fun qy_7 => ?_))
        kernel_rfl
      · kernel_rfl
    have hs : (fun s_ : Int × Int × (List Int) × Int × (List Int) × (List Int) => S.DrawCliqueRowOk_L6 n { n := 74, t := [(4, (.ptr 0 0)), (5, (.own 1)), (6, (.own 2)), (7, (.int .i64 s_.1)), (8, (.int .i64 s_.2.1))], h := [.cells [(.ro true (.ints .u8 s_.2.2.1)), (.int .i64 s_.2.2.2.1)], .row (.ints .i64 s_.2.2.2.2.1), .row (.ints .i64 s_.2.2.2.2.2)] } k) = fun s_ => optC (S.DrawCliqueRowOk_run6 n s_) (fun (r : (List Int) × Int × (List Int) × (List Int)) => k (.exit 0) { n := 74, t := [(4, (.ptr 0 0)), (5, (.own 1)), (6, (.own 2))], h := [.cells [(.ro true (.ints .u8 r.1)), (.int .i64 r.2.1)], .row (.ints .i64 r.2.2.1), .row (.ints .i64 r.2.2.2)] }) none := funext ih
    rw [hu, hs]
    exact (S.DrawCliqueRowOk_step6_nat (fun o => optC o (fun (r : (List Int) × Int × (List Int) × (List Int)) => k (.exit 0) { n := 74, t := [(4, (.ptr 0 0)), (5, (.own 1)), (6, (.own 2))], h := [.cells [(.ro true (.ints .u8 r.1)), (.int .i64 r.2.1)], .row (.ints .i64 r.2.2.1), .row (.ints .i64 r.2.2.2)] }) none) s_.1 s_.2.1 s_.2.2.1 s_.2.2.2.1 s_.2.2.2.2.1 s_.2.2.2.2.2 (S.DrawCliqueRowOk_run6 n) (fun d => some d) none).symm
noncomputable def S.DrawCliqueRowOk_tree {α : Type} (code : List Int) (leaf0_ : (List Int) × (List Int) → α) (fail_ : α) : α :=
  (optC (S.l20Open_t code) (fun c_1 => (optC (S.l20Net_t c_1.fst c_1.snd 12) (fun c_2 => (optC (S.DrawCliqueRowOk_run6 FUEL (0, 0, c_2.fst, c_2.snd.fst, c_2.snd.snd, [])) (fun qy_10 => (optC (S.l20Rd_pick_t qy_10.1 qy_10.2.1 20) (fun c_11 => (bif c_11.fst == 0 then (bif small (qy_10.2.2.2 ++ [0]).length then (leaf0_ (qy_10.2.2.1, qy_10.2.2.2 ++ [0])) else fail_) else (leaf0_ (qy_10.2.2.1, qy_10.2.2.2)))) fail_)) fail_)) fail_)) fail_)
theorem S.DrawCliqueRowOk_tree_nat {α γ : Type} (g : α → γ) (code : List Int) (leaf0_ : (List Int) × (List Int) → α) (fail_ : α) : g (S.DrawCliqueRowOk_tree code leaf0_ fail_) = S.DrawCliqueRowOk_tree code (fun d => g (leaf0_ d)) (g fail_) := by
  unfold S.DrawCliqueRowOk_tree; simp only [apply_cnd g, apply_optC g, apply_sumC g]
noncomputable def S.DrawCliqueRowOk_t (code : List Int) : Option ((List Int) × (List Int)) := S.DrawCliqueRowOk_tree code (fun d => some d) none
theorem S.DrawCliqueRowOk_den (code : List Int) (κ : V → List E → R) : S.DrawCliqueRowOk_F [.ro true (.ints .u8 code)] [] κ = optC (S.DrawCliqueRowOk_t code) (fun (r : (List Int) × (List Int)) => κ (.tup [(.own 0), (.own 1)]) [.row (.ints .i64 r.1), .row (.ints .i64 r.2)]) none := by
  have hu : S.DrawCliqueRowOk_F [.ro true (.ints .u8 code)] [] κ = S.DrawCliqueRowOk_tree code (fun d => κ (.tup [(.own 0), (.own 1)]) [.row (.ints .i64 d.1), .row (.ints .i64 d.2)]) none := by
    refine Eq.trans (show S.DrawCliqueRowOk_F [.ro true (.ints .u8 code)] [] κ = (optC (S.l20Open_t code) (fun c_1 => (optC (S.l20Net_t c_1.fst c_1.snd 12) (fun c_2 => (S.DrawCliqueRowOk_L6 FUEL { n := 74, t := [(4, (.ptr 0 0)), (5, (.own 1)), (6, (.own 2)), (7, (.int .i64 0)), (8, (.int .i64 0))], h := [.cells [(.ro true (.ints .u8 c_2.fst)), (.int .i64 c_2.snd.fst)], .row (.ints .i64 c_2.snd.snd), .row (.ints .i64 ([]))] } (S.DrawCliqueRowOk_k6 κ))) none)) none) by kernel_rfl) ?_
    refine optC_congr (fun c_1 => ?_)
    refine optC_congr (fun c_2 => ?_)
    refine (S.DrawCliqueRowOk_L6_run FUEL (0, 0, c_2.fst, c_2.snd.fst, c_2.snd.snd, []) (S.DrawCliqueRowOk_k6 κ)).trans (optC_congr (fun qy_10 => ?_))
    kernel_rfl
  rw [hu]
  exact (S.DrawCliqueRowOk_tree_nat (fun o => optC o (fun (r : (List Int) × (List Int)) => κ (.tup [(.own 0), (.own 1)]) [.row (.ints .i64 r.1), .row (.ints .i64 r.2)]) none) code (fun d => some d) none).symm
noncomputable def S.DrawCliqueRowOk_s : D.Spec where
  keep := true
  pure := false
  ds := [.int .u8]
  sp := fun args h κ => match args, h with
    | [.ro true (.ints .u8 code)], [] => optC (S.DrawCliqueRowOk_t code) (fun (r : (List Int) × (List Int)) => κ (.tup [(.own 0), (.own 1)]) [.row (.ints .i64 r.1), .row (.ints .i64 r.2)]) none
    | _, _ => none
theorem S.DrawCliqueRowOk_ok : SpecOk Try.prog 30 S.DrawCliqueRowOk_s := by
  refine SpecOk.of TDok mixed (T := S.DrawCliqueRowOk_T) ?_ (ann := S.DrawCliqueRowOk_ann) Try.func30 rfl (by decide +kernel) ?_ ?_ ?_
  · intro p hp
    simp only [S.DrawCliqueRowOk_T, List.mem_cons, List.not_mem_nil, or_false] at hp
    rcases hp with rfl | rfl | rfl | rfl | rfl | rfl
    · exact S.l20Open_ok
    · exact S.l20Net_ok
    · exact S.l20Rd_pick_ok
    · exact S.NetOk_ok
    · exact S.l13Set_ok
    · exact S.l13Clique_ok
  · intro args h κ r hh
    simp only [S.DrawCliqueRowOk_s] at hh
    split at hh
    · exact (S.DrawCliqueRowOk_den _ κ).trans hh
    · cases hh
  · intro args h κ r hh
    simp only [S.DrawCliqueRowOk_s] at hh ⊢
    split at hh
    · exact optC_law2 (F := fun (r : (List Int) × (List Int)) κ => κ (.tup [(.own 0), (.own 1)]) [.row (.ints .i64 r.1), .row (.ints .i64 r.2)]) (fun b κ r hb => ⟨_, _, hb, fun _ => rfl⟩) hh
    · cases hh
  · intro hh; cases hh

-- loop.example/guardsonnets/impl.countsUp
noncomputable def I.countsUp_T : List (Nat × D.Spec) := []
def I.countsUp_ann : Nat → List Nat × List Nat
  | 3 => ([0, 3, 4], [2])
  | _ => ([], [])
noncomputable def I.countsUp_F (args : List V) (h : List E) (κ : V → List E → R) : R := funC TD (tableK I.countsUp_T) I.countsUp_ann (drawOk TD (tableP I.countsUp_T)) FUEL Try.f65 args h κ
noncomputable def I.countsUp_L3 (n : Nat) (σ : St) (k : X → St → R) : R := iterC 0 (fun σ k => denC TD (tableK I.countsUp_T) I.countsUp_ann (drawOk TD (tableP I.countsUp_T)) 0 FUEL ((findLoop 3 (Try.f65.body.getD .skip)).getD .skip) σ k) [0, 3, 4] [2] n σ k
noncomputable def I.countsUp_k3 (κ : V → List E → R) : X → St → R := (afterC TD (tableK I.countsUp_T) I.countsUp_ann (drawOk TD (tableP I.countsUp_T)) 0 FUEL 3 (Try.f65.body.getD .skip) (finC TD 0 Try.f65 κ)).getD (fun _ _ => none)
noncomputable def I.countsUp_step3 {α : Type} (x0 : List Int) (x3 : Int) (x4 : Int) (next_ : Int × Int → α) (out0_ : Bool → α) (out1_ : Unit → α) (fail_ : α) : α :=
  (bif decide (x4 < (↑x0.length : Int)) then (bif decide (0 ≤ x4) && decide (x4 < (↑x0.length : Int)) then (bif decide (eli x0 x4.toNat < 0) then (out0_ false) else (bif decide (0 ≤ x4) && decide (x4 < (↑x0.length : Int)) then (bif decide (eli x0 x4.toNat > x3) then (out0_ false) else (bif decide (0 ≤ x4) && decide (x4 < (↑x0.length : Int)) then (bif eli x0 x4.toNat == x3 then (next_ (IntKind.i64.wrap (x3 + 1), IntKind.i64.wrap (x4 + 1))) else (next_ (x3, IntKind.i64.wrap (x4 + 1)))) else fail_)) else fail_)) else fail_) else (out1_ ()))
theorem I.countsUp_step3_nat {α γ : Type} (g : α → γ) (x0 : List Int) (x3 : Int) (x4 : Int) (next_ : Int × Int → α) (out0_ : Bool → α) (out1_ : Unit → α) (fail_ : α) : g (I.countsUp_step3 x0 x3 x4 next_ out0_ out1_ fail_) = I.countsUp_step3 x0 x3 x4 (fun s => g (next_ s)) (fun d => g (out0_ d)) (fun d => g (out1_ d)) (g fail_) := by
  unfold I.countsUp_step3; simp only [apply_cnd g, apply_optC g, apply_sumC g]
noncomputable def I.countsUp_run3 (x0 : List Int) : Nat → Int × Int → Option ((Bool) ⊕ (Unit))
  | 0, _ => none
  | n + 1, s_ => I.countsUp_step3 x0 s_.1 s_.2 (I.countsUp_run3 x0 n) (fun d => some ((Sum.inl d))) (fun d => some ((Sum.inr d))) none
theorem I.countsUp_L3_run (x0 : List Int) (n : Nat) (s_ : Int × Int) (k : X → St → R) : I.countsUp_L3 n { n := 32, t := [(0, (.ro false (.ints .i64 x0))), (3, (.int .i64 s_.1)), (4, (.int .i64 s_.2))], h := [] } k = optC (I.countsUp_run3 x0 n s_) (fun (r : (Bool) ⊕ (Unit)) => (sumC r (fun (r : Bool) => k (.ret) { n := 32, t := [(2, (.bool r))], h := [] }) (fun (r : Unit) => k (.exit 0) { n := 32, t := [(2, .junk)], h := [] }))) none := by
  induction n generalizing s_ with
  | zero => rfl
  | succ n ih =>
    have hu : I.countsUp_L3 (n + 1) { n := 32, t := [(0, (.ro false (.ints .i64 x0))), (3, (.int .i64 s_.1)), (4, (.int .i64 s_.2))], h := [] } k = I.countsUp_step3 x0 s_.1 s_.2 (fun s_ => I.countsUp_L3 n { n := 32, t := [(0, (.ro false (.ints .i64 x0))), (3, (.int .i64 s_.1)), (4, (.int .i64 s_.2))], h := [] } k) (fun d => k (.ret) { n := 32, t := [(2, (.bool d))], h := [] }) (fun d => k (.exit 0) { n := 32, t := [(2, .junk)], h := [] }) none := by
      kernel_rfl
    have hs : (fun s_ : Int × Int => I.countsUp_L3 n { n := 32, t := [(0, (.ro false (.ints .i64 x0))), (3, (.int .i64 s_.1)), (4, (.int .i64 s_.2))], h := [] } k) = fun s_ => optC (I.countsUp_run3 x0 n s_) (fun (r : (Bool) ⊕ (Unit)) => (sumC r (fun (r : Bool) => k (.ret) { n := 32, t := [(2, (.bool r))], h := [] }) (fun (r : Unit) => k (.exit 0) { n := 32, t := [(2, .junk)], h := [] }))) none := funext ih
    rw [hu, hs]
    exact (I.countsUp_step3_nat (fun o => optC o (fun (r : (Bool) ⊕ (Unit)) => (sumC r (fun (r : Bool) => k (.ret) { n := 32, t := [(2, (.bool r))], h := [] }) (fun (r : Unit) => k (.exit 0) { n := 32, t := [(2, .junk)], h := [] }))) none) x0 s_.1 s_.2 (I.countsUp_run3 x0 n) (fun d => some ((Sum.inl d))) (fun d => some ((Sum.inr d))) none).symm
noncomputable def I.countsUp_tree {α : Type} (row : List Int) (leaf0_ : Bool → α) (fail_ : α) : α :=
  (optC (I.countsUp_run3 row FUEL (0, 0)) (fun qy_1 => (sumC qy_1 (fun (qy_1 : Bool) => (leaf0_ qy_1)) (fun (qy_1 : Unit) => (leaf0_ true)))) fail_)
theorem I.countsUp_tree_nat {α γ : Type} (g : α → γ) (row : List Int) (leaf0_ : Bool → α) (fail_ : α) : g (I.countsUp_tree row leaf0_ fail_) = I.countsUp_tree row (fun d => g (leaf0_ d)) (g fail_) := by
  unfold I.countsUp_tree; simp only [apply_cnd g, apply_optC g, apply_sumC g]
noncomputable def I.countsUp_t (row : List Int) : Option (Bool) := I.countsUp_tree row (fun d => some d) none
theorem I.countsUp_den (row : List Int) (κ : V → List E → R) : I.countsUp_F [.ro false (.ints .i64 row)] [] κ = optC (I.countsUp_t row) (fun (r : Bool) => κ (.bool r) []) none := by
  have hu : I.countsUp_F [.ro false (.ints .i64 row)] [] κ = I.countsUp_tree row (fun d => κ (.bool d) []) none := by
    refine Eq.trans (show I.countsUp_F [.ro false (.ints .i64 row)] [] κ = (I.countsUp_L3 FUEL { n := 32, t := [(0, (.ro false (.ints .i64 row))), (3, (.int .i64 0)), (4, (.int .i64 0))], h := [] } (I.countsUp_k3 κ)) by kernel_rfl) ?_
    refine (I.countsUp_L3_run row FUEL (0, 0) (I.countsUp_k3 κ)).trans (optC_congr (fun qy_1 => ?_))
    rcases qy_1 with qy_1 | qy_1
    · kernel_rfl
    · kernel_rfl
  rw [hu]
  exact (I.countsUp_tree_nat (fun o => optC o (fun (r : Bool) => κ (.bool r) []) none) row (fun d => some d) none).symm
noncomputable def I.countsUp_s : D.Spec where
  keep := false
  pure := true
  ds := [.int .i64]
  sp := fun args h κ => match args, h with
    | [.ro false (.ints .i64 row)], [] => optC (I.countsUp_t row) (fun (r : Bool) => κ (.bool r) []) none
    | _, _ => none
theorem I.countsUp_ok : SpecOk Try.prog 65 I.countsUp_s := by
  refine SpecOk.of TDok mixed (T := I.countsUp_T) ?_ (ann := I.countsUp_ann) Try.func65 rfl (by decide +kernel) ?_ ?_ ?_
  · intro p hp; cases hp
  · intro args h κ r hh
    simp only [I.countsUp_s] at hh
    split at hh
    · exact (I.countsUp_den _ κ).trans hh
    · cases hh
  · intro args h κ r hh
    simp only [I.countsUp_s] at hh ⊢
    split at hh
    · exact optC_law2 (F := fun (r : Bool) κ => κ (.bool r) []) (fun b κ r hb => ⟨_, _, hb, fun _ => rfl⟩) hh
    · cases hh
  · intro _ args h κ r hh
    simp only [I.countsUp_s] at hh
    split at hh
    · exact ⟨rfl, fun _ => rfl⟩
    · cases hh

-- loop.example/guardsonnets/impl.numbersOf
noncomputable def I.numbersOf_T : List (Nat × D.Spec) := []
def I.numbersOf_ann : Nat → List Nat × List Nat
  | 3 => ([0, 3, 4], [3])
  | _ => ([], [])
noncomputable def I.numbersOf_F (args : List V) (h : List E) (κ : V → List E → R) : R := funC TD (tableK I.numbersOf_T) I.numbersOf_ann (drawOk TD (tableP I.numbersOf_T)) FUEL Try.f70 args h κ
noncomputable def I.numbersOf_L3 (n : Nat) (σ : St) (k : X → St → R) : R := iterC 0 (fun σ k => denC TD (tableK I.numbersOf_T) I.numbersOf_ann (drawOk TD (tableP I.numbersOf_T)) 0 FUEL ((findLoop 3 (Try.f70.body.getD .skip)).getD .skip) σ k) [0, 3, 4] [3] n σ k
noncomputable def I.numbersOf_k3 (κ : V → List E → R) : X → St → R := (afterC TD (tableK I.numbersOf_T) I.numbersOf_ann (drawOk TD (tableP I.numbersOf_T)) 0 FUEL 3 (Try.f70.body.getD .skip) (finC TD 0 Try.f70 κ)).getD (fun _ _ => none)
noncomputable def I.numbersOf_step3 {α : Type} (x0 : List Int) (x3 : Int) (x4 : Int) (next_ : Int × Int → α) (out0_ : Int → α) (fail_ : α) : α :=
  (bif decide (x4 < (↑x0.length : Int)) then (bif decide (0 ≤ x4) && decide (x4 < (↑x0.length : Int)) then (bif eli x0 x4.toNat == x3 then (next_ (IntKind.i64.wrap (x3 + 1), IntKind.i64.wrap (x4 + 1))) else (next_ (x3, IntKind.i64.wrap (x4 + 1)))) else fail_) else (out0_ x3))
theorem I.numbersOf_step3_nat {α γ : Type} (g : α → γ) (x0 : List Int) (x3 : Int) (x4 : Int) (next_ : Int × Int → α) (out0_ : Int → α) (fail_ : α) : g (I.numbersOf_step3 x0 x3 x4 next_ out0_ fail_) = I.numbersOf_step3 x0 x3 x4 (fun s => g (next_ s)) (fun d => g (out0_ d)) (g fail_) := by
  unfold I.numbersOf_step3; simp only [apply_cnd g, apply_optC g, apply_sumC g]
noncomputable def I.numbersOf_run3 (x0 : List Int) : Nat → Int × Int → Option (Int)
  | 0, _ => none
  | n + 1, s_ => I.numbersOf_step3 x0 s_.1 s_.2 (I.numbersOf_run3 x0 n) (fun d => some d) none
theorem I.numbersOf_L3_run (x0 : List Int) (n : Nat) (s_ : Int × Int) (k : X → St → R) : I.numbersOf_L3 n { n := 20, t := [(0, (.ro false (.ints .i64 x0))), (3, (.int .i64 s_.1)), (4, (.int .i64 s_.2))], h := [] } k = optC (I.numbersOf_run3 x0 n s_) (fun (r : Int) => k (.exit 0) { n := 20, t := [(3, (.int .i64 r))], h := [] }) none := by
  induction n generalizing s_ with
  | zero => rfl
  | succ n ih =>
    have hu : I.numbersOf_L3 (n + 1) { n := 20, t := [(0, (.ro false (.ints .i64 x0))), (3, (.int .i64 s_.1)), (4, (.int .i64 s_.2))], h := [] } k = I.numbersOf_step3 x0 s_.1 s_.2 (fun s_ => I.numbersOf_L3 n { n := 20, t := [(0, (.ro false (.ints .i64 x0))), (3, (.int .i64 s_.1)), (4, (.int .i64 s_.2))], h := [] } k) (fun d => k (.exit 0) { n := 20, t := [(3, (.int .i64 d))], h := [] }) none := by
      kernel_rfl
    have hs : (fun s_ : Int × Int => I.numbersOf_L3 n { n := 20, t := [(0, (.ro false (.ints .i64 x0))), (3, (.int .i64 s_.1)), (4, (.int .i64 s_.2))], h := [] } k) = fun s_ => optC (I.numbersOf_run3 x0 n s_) (fun (r : Int) => k (.exit 0) { n := 20, t := [(3, (.int .i64 r))], h := [] }) none := funext ih
    rw [hu, hs]
    exact (I.numbersOf_step3_nat (fun o => optC o (fun (r : Int) => k (.exit 0) { n := 20, t := [(3, (.int .i64 r))], h := [] }) none) x0 s_.1 s_.2 (I.numbersOf_run3 x0 n) (fun d => some d) none).symm
noncomputable def I.numbersOf_tree {α : Type} (row : List Int) (leaf0_ : Int → α) (fail_ : α) : α :=
  (optC (I.numbersOf_run3 row FUEL (0, 0)) (fun qy_1 => (leaf0_ qy_1)) fail_)
theorem I.numbersOf_tree_nat {α γ : Type} (g : α → γ) (row : List Int) (leaf0_ : Int → α) (fail_ : α) : g (I.numbersOf_tree row leaf0_ fail_) = I.numbersOf_tree row (fun d => g (leaf0_ d)) (g fail_) := by
  unfold I.numbersOf_tree; simp only [apply_cnd g, apply_optC g, apply_sumC g]
noncomputable def I.numbersOf_t (row : List Int) : Option (Int) := I.numbersOf_tree row (fun d => some d) none
theorem I.numbersOf_den (row : List Int) (κ : V → List E → R) : I.numbersOf_F [.ro false (.ints .i64 row)] [] κ = optC (I.numbersOf_t row) (fun (r : Int) => κ (.int .i64 r) []) none := by
  have hu : I.numbersOf_F [.ro false (.ints .i64 row)] [] κ = I.numbersOf_tree row (fun d => κ (.int .i64 d) []) none := by
    refine Eq.trans (show I.numbersOf_F [.ro false (.ints .i64 row)] [] κ = (I.numbersOf_L3 FUEL { n := 20, t := [(0, (.ro false (.ints .i64 row))), (3, (.int .i64 0)), (4, (.int .i64 0))], h := [] } (I.numbersOf_k3 κ)) by kernel_rfl) ?_
    refine (I.numbersOf_L3_run row FUEL (0, 0) (I.numbersOf_k3 κ)).trans (optC_congr (fun qy_1 => ?_))
    kernel_rfl
  rw [hu]
  exact (I.numbersOf_tree_nat (fun o => optC o (fun (r : Int) => κ (.int .i64 r) []) none) row (fun d => some d) none).symm
noncomputable def I.numbersOf_s : D.Spec where
  keep := false
  pure := true
  ds := [.int .i64]
  sp := fun args h κ => match args, h with
    | [.ro false (.ints .i64 row)], [] => optC (I.numbersOf_t row) (fun (r : Int) => κ (.int .i64 r) []) none
    | _, _ => none
theorem I.numbersOf_ok : SpecOk Try.prog 70 I.numbersOf_s := by
  refine SpecOk.of TDok mixed (T := I.numbersOf_T) ?_ (ann := I.numbersOf_ann) Try.func70 rfl (by decide +kernel) ?_ ?_ ?_
  · intro p hp; cases hp
  · intro args h κ r hh
    simp only [I.numbersOf_s] at hh
    split at hh
    · exact (I.numbersOf_den _ κ).trans hh
    · cases hh
  · intro args h κ r hh
    simp only [I.numbersOf_s] at hh ⊢
    split at hh
    · exact optC_law2 (F := fun (r : Int) κ => κ (.int .i64 r) []) (fun b κ r hb => ⟨_, _, hb, fun _ => rfl⟩) hh
    · cases hh
  · intro _ args h κ r hh
    simp only [I.numbersOf_s] at hh
    split at hh
    · exact ⟨rfl, fun _ => rfl⟩
    · cases hh

-- loop.example/guardsonnets/impl.with
noncomputable def I.with_T : List (Nat × D.Spec) := []
def I.with_ann : Nat → List Nat × List Nat
  | _ => ([], [])
noncomputable def I.with_F (args : List V) (h : List E) (κ : V → List E → R) : R := funC TD (tableK I.with_T) I.with_ann (drawOk TD (tableP I.with_T)) FUEL Try.f82 args h κ
noncomputable def I.with_tree {α : Type} (set_ : Int) (place : Int) (leaf0_ : Int → α) (fail_ : α) : α :=
  (bif decide (place < 0) then fail_ else (leaf0_ (bits BinOp.or IntKind.i64 set_ (IntKind.i64.wrap (1 * 2 ^ min place.toNat IntKind.i64.bits)))))
theorem I.with_tree_nat {α γ : Type} (g : α → γ) (set_ : Int) (place : Int) (leaf0_ : Int → α) (fail_ : α) : g (I.with_tree set_ place leaf0_ fail_) = I.with_tree set_ place (fun d => g (leaf0_ d)) (g fail_) := by
  unfold I.with_tree; simp only [apply_cnd g, apply_optC g, apply_sumC g]
noncomputable def I.with_t (set_ : Int) (place : Int) : Option (Int) := I.with_tree set_ place (fun d => some d) none
theorem I.with_den (set_ : Int) (place : Int) (κ : V → List E → R) : I.with_F [.int .i64 set_, .int .i64 place] [] κ = optC (I.with_t set_ place) (fun (r : Int) => κ (.int .i64 r) []) none := by
  have hu : I.with_F [.int .i64 set_, .int .i64 place] [] κ = I.with_tree set_ place (fun d => κ (.int .i64 d) []) none := by
    kernel_rfl
  rw [hu]
  exact (I.with_tree_nat (fun o => optC o (fun (r : Int) => κ (.int .i64 r) []) none) set_ place (fun d => some d) none).symm
noncomputable def I.with_s : D.Spec where
  keep := false
  pure := true
  ds := [.invalid, .invalid]
  sp := fun args h κ => match args, h with
    | [.int .i64 set_, .int .i64 place], [] => optC (I.with_t set_ place) (fun (r : Int) => κ (.int .i64 r) []) none
    | _, _ => none
theorem I.with_ok : SpecOk Try.prog 82 I.with_s := by
  refine SpecOk.of TDok mixed (T := I.with_T) ?_ (ann := I.with_ann) Try.func82 rfl (by decide +kernel) ?_ ?_ ?_
  · intro p hp; cases hp
  · intro args h κ r hh
    simp only [I.with_s] at hh
    split at hh
    · exact (I.with_den _ _ κ).trans hh
    · cases hh
  · intro args h κ r hh
    simp only [I.with_s] at hh ⊢
    split at hh
    · exact optC_law2 (F := fun (r : Int) κ => κ (.int .i64 r) []) (fun b κ r hb => ⟨_, _, hb, fun _ => rfl⟩) hh
    · cases hh
  · intro _ args h κ r hh
    simp only [I.with_s] at hh
    split at hh
    · exact ⟨rfl, fun _ => rfl⟩
    · cases hh

-- loop.example/guardsonnets/impl.placesWith
noncomputable def I.placesWith_T : List (Nat × D.Spec) := [(82, I.with_s)]
def I.placesWith_ann : Nat → List Nat × List Nat
  | 3 => ([0, 1, 5, 6], [5])
  | _ => ([], [])
noncomputable def I.placesWith_F (args : List V) (h : List E) (κ : V → List E → R) : R := funC TD (tableK I.placesWith_T) I.placesWith_ann (drawOk TD (tableP I.placesWith_T)) FUEL Try.f78 args h κ
noncomputable def I.placesWith_L3 (n : Nat) (σ : St) (k : X → St → R) : R := iterC 0 (fun σ k => denC TD (tableK I.placesWith_T) I.placesWith_ann (drawOk TD (tableP I.placesWith_T)) 0 FUEL ((findLoop 3 (Try.f78.body.getD .skip)).getD .skip) σ k) [0, 1, 5, 6] [5] n σ k
noncomputable def I.placesWith_k3 (κ : V → List E → R) : X → St → R := (afterC TD (tableK I.placesWith_T) I.placesWith_ann (drawOk TD (tableP I.placesWith_T)) 0 FUEL 3 (Try.f78.body.getD .skip) (finC TD 0 Try.f78 κ)).getD (fun _ _ => none)
noncomputable def I.placesWith_step3 {α : Type} (x0 : List Int) (x1 : Int) (x5 : Int) (x6 : Int) (next_ : Int × Int → α) (out0_ : Int → α) (fail_ : α) : α :=
  (bif decide (x6 < (↑x0.length : Int)) then (bif decide (0 ≤ x6) && decide (x6 < (↑x0.length : Int)) then (bif eli x0 x6.toNat == x1 then (optC (I.with_t x5 x6) (fun c_1 => (next_ (c_1, IntKind.i64.wrap (x6 + 1)))) fail_) else (next_ (x5, IntKind.i64.wrap (x6 + 1)))) else fail_) else (out0_ x5))
theorem I.placesWith_step3_nat {α γ : Type} (g : α → γ) (x0 : List Int) (x1 : Int) (x5 : Int) (x6 : Int) (next_ : Int × Int → α) (out0_ : Int → α) (fail_ : α) : g (I.placesWith_step3 x0 x1 x5 x6 next_ out0_ fail_) = I.placesWith_step3 x0 x1 x5 x6 (fun s => g (next_ s)) (fun d => g (out0_ d)) (g fail_) := by
  unfold I.placesWith_step3; simp only [apply_cnd g, apply_optC g, apply_sumC g]
noncomputable def I.placesWith_run3 (x0 : List Int) (x1 : Int) : Nat → Int × Int → Option (Int)
  | 0, _ => none
  | n + 1, s_ => I.placesWith_step3 x0 x1 s_.1 s_.2 (I.placesWith_run3 x0 x1 n) (fun d => some d) none
theorem I.placesWith_L3_run (x0 : List Int) (x1 : Int) (n : Nat) (s_ : Int × Int) (k : X → St → R) : I.placesWith_L3 n { n := 23, t := [(0, (.ro false (.ints .i64 x0))), (1, (.int .i64 x1)), (5, (.int .i64 s_.1)), (6, (.int .i64 s_.2))], h := [] } k = optC (I.placesWith_run3 x0 x1 n s_) (fun (r : Int) => k (.exit 0) { n := 23, t := [(5, (.int .i64 r))], h := [] }) none := by
  induction n generalizing s_ with
  | zero => rfl
  | succ n ih =>
    have hu : I.placesWith_L3 (n + 1) { n := 23, t := [(0, (.ro false (.ints .i64 x0))), (1, (.int .i64 x1)), (5, (.int .i64 s_.1)), (6, (.int .i64 s_.2))], h := [] } k = I.placesWith_step3 x0 x1 s_.1 s_.2 (fun s_ => I.placesWith_L3 n { n := 23, t := [(0, (.ro false (.ints .i64 x0))), (1, (.int .i64 x1)), (5, (.int .i64 s_.1)), (6, (.int .i64 s_.2))], h := [] } k) (fun d => k (.exit 0) { n := 23, t := [(5, (.int .i64 d))], h := [] }) none := by
      kernel_rfl
    have hs : (fun s_ : Int × Int => I.placesWith_L3 n { n := 23, t := [(0, (.ro false (.ints .i64 x0))), (1, (.int .i64 x1)), (5, (.int .i64 s_.1)), (6, (.int .i64 s_.2))], h := [] } k) = fun s_ => optC (I.placesWith_run3 x0 x1 n s_) (fun (r : Int) => k (.exit 0) { n := 23, t := [(5, (.int .i64 r))], h := [] }) none := funext ih
    rw [hu, hs]
    exact (I.placesWith_step3_nat (fun o => optC o (fun (r : Int) => k (.exit 0) { n := 23, t := [(5, (.int .i64 r))], h := [] }) none) x0 x1 s_.1 s_.2 (I.placesWith_run3 x0 x1 n) (fun d => some d) none).symm
noncomputable def I.placesWith_tree {α : Type} (row : List Int) (number : Int) (leaf0_ : Int → α) (fail_ : α) : α :=
  (optC (I.placesWith_run3 row number FUEL (0, 0)) (fun qy_2 => (leaf0_ qy_2)) fail_)
theorem I.placesWith_tree_nat {α γ : Type} (g : α → γ) (row : List Int) (number : Int) (leaf0_ : Int → α) (fail_ : α) : g (I.placesWith_tree row number leaf0_ fail_) = I.placesWith_tree row number (fun d => g (leaf0_ d)) (g fail_) := by
  unfold I.placesWith_tree; simp only [apply_cnd g, apply_optC g, apply_sumC g]
noncomputable def I.placesWith_t (row : List Int) (number : Int) : Option (Int) := I.placesWith_tree row number (fun d => some d) none
theorem I.placesWith_den (row : List Int) (number : Int) (κ : V → List E → R) : I.placesWith_F [.ro false (.ints .i64 row), .int .i64 number] [] κ = optC (I.placesWith_t row number) (fun (r : Int) => κ (.int .i64 r) []) none := by
  have hu : I.placesWith_F [.ro false (.ints .i64 row), .int .i64 number] [] κ = I.placesWith_tree row number (fun d => κ (.int .i64 d) []) none := by
    refine Eq.trans (show I.placesWith_F [.ro false (.ints .i64 row), .int .i64 number] [] κ = (I.placesWith_L3 FUEL { n := 23, t := [(0, (.ro false (.ints .i64 row))), (1, (.int .i64 number)), (5, (.int .i64 0)), (6, (.int .i64 0))], h := [] } (I.placesWith_k3 κ)) by kernel_rfl) ?_
    refine (I.placesWith_L3_run row number FUEL (0, 0) (I.placesWith_k3 κ)).trans (optC_congr (fun qy_2 => ?_))
    kernel_rfl
  rw [hu]
  exact (I.placesWith_tree_nat (fun o => optC o (fun (r : Int) => κ (.int .i64 r) []) none) row number (fun d => some d) none).symm
noncomputable def I.placesWith_s : D.Spec where
  keep := false
  pure := true
  ds := [.int .i64, .invalid]
  sp := fun args h κ => match args, h with
    | [.ro false (.ints .i64 row), .int .i64 number], [] => optC (I.placesWith_t row number) (fun (r : Int) => κ (.int .i64 r) []) none
    | _, _ => none
theorem I.placesWith_ok : SpecOk Try.prog 78 I.placesWith_s := by
  refine SpecOk.of TDok mixed (T := I.placesWith_T) ?_ (ann := I.placesWith_ann) Try.func78 rfl (by decide +kernel) ?_ ?_ ?_
  · intro p hp
    simp only [I.placesWith_T, List.mem_cons, List.not_mem_nil, or_false] at hp
    rcases hp with rfl
    · exact I.with_ok
  · intro args h κ r hh
    simp only [I.placesWith_s] at hh
    split at hh
    · exact (I.placesWith_den _ _ κ).trans hh
    · cases hh
  · intro args h κ r hh
    simp only [I.placesWith_s] at hh ⊢
    split at hh
    · exact optC_law2 (F := fun (r : Int) κ => κ (.int .i64 r) []) (fun b κ r hb => ⟨_, _, hb, fun _ => rfl⟩) hh
    · cases hh
  · intro _ args h κ r hh
    simp only [I.placesWith_s] at hh
    split at hh
    · exact ⟨rfl, fun _ => rfl⟩
    · cases hh

-- loop.example/guardsonnets/impl.cliquesIn
noncomputable def I.cliquesIn_T : List (Nat × D.Spec) := [(70, I.numbersOf_s), (78, I.placesWith_s), (53, I.cliqueIn_s)]
def I.cliquesIn_ann : Nat → List Nat × List Nat
  | 2 => ([0, 1, 5], [4])
  | _ => ([], [])
noncomputable def I.cliquesIn_F (args : List V) (h : List E) (κ : V → List E → R) : R := funC TD (tableK I.cliquesIn_T) I.cliquesIn_ann (drawOk TD (tableP I.cliquesIn_T)) FUEL Try.f66 args h κ
noncomputable def I.cliquesIn_L2 (n : Nat) (σ : St) (k : X → St → R) : R := iterC 0 (fun σ k => denC TD (tableK I.cliquesIn_T) I.cliquesIn_ann (drawOk TD (tableP I.cliquesIn_T)) 0 FUEL ((findLoop 2 (Try.f66.body.getD .skip)).getD .skip) σ k) [0, 1, 5] [4] n σ k
noncomputable def I.cliquesIn_k2 (κ : V → List E → R) : X → St → R := (afterC TD (tableK I.cliquesIn_T) I.cliquesIn_ann (drawOk TD (tableP I.cliquesIn_T)) 0 FUEL 2 (Try.f66.body.getD .skip) (finC TD 0 Try.f66 κ)).getD (fun _ _ => none)
noncomputable def I.cliquesIn_step2 {α : Type} (x0 : List Int) (x1 : List Int) (x5 : Int) (next_ : Int → α) (out0_ : Bool → α) (out1_ : Unit → α) (fail_ : α) : α :=
  (optC (I.numbersOf_t x1) (fun c_1 => (bif decide (x5 < c_1) then (optC (I.placesWith_t x1 x5) (fun c_2 => (optC (I.cliqueIn_t x0 c_2) (fun c_3 => (bif !c_3 then (out0_ false) else (next_ (IntKind.i64.wrap (x5 + 1))))) fail_)) fail_) else (out1_ ()))) fail_)
theorem I.cliquesIn_step2_nat {α γ : Type} (g : α → γ) (x0 : List Int) (x1 : List Int) (x5 : Int) (next_ : Int → α) (out0_ : Bool → α) (out1_ : Unit → α) (fail_ : α) : g (I.cliquesIn_step2 x0 x1 x5 next_ out0_ out1_ fail_) = I.cliquesIn_step2 x0 x1 x5 (fun s => g (next_ s)) (fun d => g (out0_ d)) (fun d => g (out1_ d)) (g fail_) := by
  unfold I.cliquesIn_step2; simp only [apply_cnd g, apply_optC g, apply_sumC g]
noncomputable def I.cliquesIn_run2 (x0 : List Int) (x1 : List Int) : Nat → Int → Option ((Bool) ⊕ (Unit))
  | 0, _ => none
  | n + 1, s_ => I.cliquesIn_step2 x0 x1 s_ (I.cliquesIn_run2 x0 x1 n) (fun d => some ((Sum.inl d))) (fun d => some ((Sum.inr d))) none
theorem I.cliquesIn_L2_run (x0 : List Int) (x1 : List Int) (n : Nat) (s_ : Int) (k : X → St → R) : I.cliquesIn_L2 n { n := 18, t := [(0, (.ro false (.ints .i64 x0))), (1, (.ro false (.ints .i64 x1))), (5, (.int .i64 s_))], h := [] } k = optC (I.cliquesIn_run2 x0 x1 n s_) (fun (r : (Bool) ⊕ (Unit)) => (sumC r (fun (r : Bool) => k (.ret) { n := 18, t := [(4, (.bool r))], h := [] }) (fun (r : Unit) => k (.exit 0) { n := 18, t := [(4, .junk)], h := [] }))) none := by
  induction n generalizing s_ with
  | zero => rfl
  | succ n ih =>
    have hu : I.cliquesIn_L2 (n + 1) { n := 18, t := [(0, (.ro false (.ints .i64 x0))), (1, (.ro false (.ints .i64 x1))), (5, (.int .i64 s_))], h := [] } k = I.cliquesIn_step2 x0 x1 s_ (fun s_ => I.cliquesIn_L2 n { n := 18, t := [(0, (.ro false (.ints .i64 x0))), (1, (.ro false (.ints .i64 x1))), (5, (.int .i64 s_))], h := [] } k) (fun d => k (.ret) { n := 18, t := [(4, (.bool d))], h := [] }) (fun d => k (.exit 0) { n := 18, t := [(4, .junk)], h := [] }) none := by
      kernel_rfl
    have hs : (fun s_ : Int => I.cliquesIn_L2 n { n := 18, t := [(0, (.ro false (.ints .i64 x0))), (1, (.ro false (.ints .i64 x1))), (5, (.int .i64 s_))], h := [] } k) = fun s_ => optC (I.cliquesIn_run2 x0 x1 n s_) (fun (r : (Bool) ⊕ (Unit)) => (sumC r (fun (r : Bool) => k (.ret) { n := 18, t := [(4, (.bool r))], h := [] }) (fun (r : Unit) => k (.exit 0) { n := 18, t := [(4, .junk)], h := [] }))) none := funext ih
    rw [hu, hs]
    exact (I.cliquesIn_step2_nat (fun o => optC o (fun (r : (Bool) ⊕ (Unit)) => (sumC r (fun (r : Bool) => k (.ret) { n := 18, t := [(4, (.bool r))], h := [] }) (fun (r : Unit) => k (.exit 0) { n := 18, t := [(4, .junk)], h := [] }))) none) x0 x1 s_ (I.cliquesIn_run2 x0 x1 n) (fun d => some ((Sum.inl d))) (fun d => some ((Sum.inr d))) none).symm
noncomputable def I.cliquesIn_tree {α : Type} (net : List Int) (row : List Int) (leaf0_ : Bool → α) (fail_ : α) : α :=
  (optC (I.cliquesIn_run2 net row FUEL 0) (fun qy_4 => (sumC qy_4 (fun (qy_4 : Bool) => (leaf0_ qy_4)) (fun (qy_4 : Unit) => (leaf0_ true)))) fail_)
theorem I.cliquesIn_tree_nat {α γ : Type} (g : α → γ) (net : List Int) (row : List Int) (leaf0_ : Bool → α) (fail_ : α) : g (I.cliquesIn_tree net row leaf0_ fail_) = I.cliquesIn_tree net row (fun d => g (leaf0_ d)) (g fail_) := by
  unfold I.cliquesIn_tree; simp only [apply_cnd g, apply_optC g, apply_sumC g]
noncomputable def I.cliquesIn_t (net : List Int) (row : List Int) : Option (Bool) := I.cliquesIn_tree net row (fun d => some d) none
theorem I.cliquesIn_den (net : List Int) (row : List Int) (κ : V → List E → R) : I.cliquesIn_F [.ro false (.ints .i64 net), .ro false (.ints .i64 row)] [] κ = optC (I.cliquesIn_t net row) (fun (r : Bool) => κ (.bool r) []) none := by
  have hu : I.cliquesIn_F [.ro false (.ints .i64 net), .ro false (.ints .i64 row)] [] κ = I.cliquesIn_tree net row (fun d => κ (.bool d) []) none := by
    refine Eq.trans (show I.cliquesIn_F [.ro false (.ints .i64 net), .ro false (.ints .i64 row)] [] κ = (I.cliquesIn_L2 FUEL { n := 18, t := [(0, (.ro false (.ints .i64 net))), (1, (.ro false (.ints .i64 row))), (5, (.int .i64 0))], h := [] } (I.cliquesIn_k2 κ)) by kernel_rfl) ?_
    refine (I.cliquesIn_L2_run net row FUEL 0 (I.cliquesIn_k2 κ)).trans (optC_congr (fun qy_4 => ?_))
    rcases qy_4 with qy_4 | qy_4
    · kernel_rfl
    · kernel_rfl
  rw [hu]
  exact (I.cliquesIn_tree_nat (fun o => optC o (fun (r : Bool) => κ (.bool r) []) none) net row (fun d => some d) none).symm
noncomputable def I.cliquesIn_s : D.Spec where
  keep := false
  pure := true
  ds := [.int .i64, .int .i64]
  sp := fun args h κ => match args, h with
    | [.ro false (.ints .i64 net), .ro false (.ints .i64 row)], [] => optC (I.cliquesIn_t net row) (fun (r : Bool) => κ (.bool r) []) none
    | _, _ => none
theorem I.cliquesIn_ok : SpecOk Try.prog 66 I.cliquesIn_s := by
  refine SpecOk.of TDok mixed (T := I.cliquesIn_T) ?_ (ann := I.cliquesIn_ann) Try.func66 rfl (by decide +kernel) ?_ ?_ ?_
  · intro p hp
    simp only [I.cliquesIn_T, List.mem_cons, List.not_mem_nil, or_false] at hp
    rcases hp with rfl | rfl | rfl
    · exact I.numbersOf_ok
    · exact I.placesWith_ok
    · exact I.cliqueIn_ok
  · intro args h κ r hh
    simp only [I.cliquesIn_s] at hh
    split at hh
    · exact (I.cliquesIn_den _ _ κ).trans hh
    · cases hh
  · intro args h κ r hh
    simp only [I.cliquesIn_s] at hh ⊢
    split at hh
    · exact optC_law2 (F := fun (r : Bool) κ => κ (.bool r) []) (fun b κ r hb => ⟨_, _, hb, fun _ => rfl⟩) hh
    · cases hh
  · intro _ args h κ r hh
    simp only [I.cliquesIn_s] at hh
    split at hh
    · exact ⟨rfl, fun _ => rfl⟩
    · cases hh

-- loop.example/guardsonnets/impl.CliqueRowOk
noncomputable def I.CliqueRowOk_T : List (Nat × D.Spec) := [(18, I.NetOk_s), (65, I.countsUp_s), (66, I.cliquesIn_s)]
def I.CliqueRowOk_ann : Nat → List Nat × List Nat
  | _ => ([], [])
noncomputable def I.CliqueRowOk_F (args : List V) (h : List E) (κ : V → List E → R) : R := funC TD (tableK I.CliqueRowOk_T) I.CliqueRowOk_ann (drawOk TD (tableP I.CliqueRowOk_T)) FUEL Try.f31 args h κ
noncomputable def I.CliqueRowOk_tree {α : Type} (net : List Int) (row : List Int) (leaf0_ : Bool → α) (fail_ : α) : α :=
  (optC (I.NetOk_t net) (fun c_1 => (bif c_1 then (bif (↑row.length : Int) == (↑net.length : Int) then (optC (I.countsUp_t row) (fun c_2 => (bif c_2 then (optC (I.cliquesIn_t net row) (fun c_3 => (leaf0_ c_3)) fail_) else (leaf0_ false))) fail_) else (leaf0_ false)) else (leaf0_ false))) fail_)
theorem I.CliqueRowOk_tree_nat {α γ : Type} (g : α → γ) (net : List Int) (row : List Int) (leaf0_ : Bool → α) (fail_ : α) : g (I.CliqueRowOk_tree net row leaf0_ fail_) = I.CliqueRowOk_tree net row (fun d => g (leaf0_ d)) (g fail_) := by
  unfold I.CliqueRowOk_tree; simp only [apply_cnd g, apply_optC g, apply_sumC g]
noncomputable def I.CliqueRowOk_t (net : List Int) (row : List Int) : Option (Bool) := I.CliqueRowOk_tree net row (fun d => some d) none
theorem I.CliqueRowOk_den (net : List Int) (row : List Int) (κ : V → List E → R) : I.CliqueRowOk_F [.ro false (.ints .i64 net), .ro false (.ints .i64 row)] [] κ = optC (I.CliqueRowOk_t net row) (fun (r : Bool) => κ (.bool r) []) none := by
  have hu : I.CliqueRowOk_F [.ro false (.ints .i64 net), .ro false (.ints .i64 row)] [] κ = I.CliqueRowOk_tree net row (fun d => κ (.bool d) []) none := by
    kernel_rfl
  rw [hu]
  exact (I.CliqueRowOk_tree_nat (fun o => optC o (fun (r : Bool) => κ (.bool r) []) none) net row (fun d => some d) none).symm
noncomputable def I.CliqueRowOk_s : D.Spec where
  keep := false
  pure := true
  ds := [.int .i64, .int .i64]
  sp := fun args h κ => match args, h with
    | [.ro false (.ints .i64 net), .ro false (.ints .i64 row)], [] => optC (I.CliqueRowOk_t net row) (fun (r : Bool) => κ (.bool r) []) none
    | _, _ => none
theorem I.CliqueRowOk_ok : SpecOk Try.prog 31 I.CliqueRowOk_s := by
  refine SpecOk.of TDok mixed (T := I.CliqueRowOk_T) ?_ (ann := I.CliqueRowOk_ann) Try.func31 rfl (by decide +kernel) ?_ ?_ ?_
  · intro p hp
    simp only [I.CliqueRowOk_T, List.mem_cons, List.not_mem_nil, or_false] at hp
    rcases hp with rfl | rfl | rfl
    · exact I.NetOk_ok
    · exact I.countsUp_ok
    · exact I.cliquesIn_ok
  · intro args h κ r hh
    simp only [I.CliqueRowOk_s] at hh
    split at hh
    · exact (I.CliqueRowOk_den _ _ κ).trans hh
    · cases hh
  · intro args h κ r hh
    simp only [I.CliqueRowOk_s] at hh ⊢
    split at hh
    · exact optC_law2 (F := fun (r : Bool) κ => κ (.bool r) []) (fun b κ r hb => ⟨_, _, hb, fun _ => rfl⟩) hh
    · cases hh
  · intro _ args h κ r hh
    simp only [I.CliqueRowOk_s] at hh
    split at hh
    · exact ⟨rfl, fun _ => rfl⟩
    · cases hh

-- loop.example/guardsonnets/spec.CliqueRowOk
noncomputable def S.CliqueRowOk_T : List (Nat × D.Spec) := [(49, S.NetOk_s), (67, S.l1In_s), (64, S.l13Set_s), (51, S.l13Clique_s)]
def S.CliqueRowOk_ann : Nat → List Nat × List Nat
  | 11 => ([0, 1, 5, 7], [4])
  | 5 => ([0, 1, 5, 6], [0, 1, 4, 5])
  | _ => ([], [])
noncomputable def S.CliqueRowOk_F (args : List V) (h : List E) (κ : V → List E → R) : R := funC TD (tableK S.CliqueRowOk_T) S.CliqueRowOk_ann (drawOk TD (tableP S.CliqueRowOk_T)) FUEL Try.f32 args h κ
noncomputable def S.CliqueRowOk_L11 (n : Nat) (σ : St) (k : X → St → R) : R := iterC 0 (fun σ k => denC TD (tableK S.CliqueRowOk_T) S.CliqueRowOk_ann (drawOk TD (tableP S.CliqueRowOk_T)) 0 FUEL ((findLoop 11 (Try.f32.body.getD .skip)).getD .skip) σ k) [0, 1, 5, 7] [4] n σ k
noncomputable def S.CliqueRowOk_L5 (n : Nat) (σ : St) (k : X → St → R) : R := iterC 0 (fun σ k => denC TD (tableK S.CliqueRowOk_T) S.CliqueRowOk_ann (drawOk TD (tableP S.CliqueRowOk_T)) 0 FUEL ((findLoop 5 (Try.f32.body.getD .skip)).getD .skip) σ k) [0, 1, 5, 6] [0, 1, 4, 5] n σ k
noncomputable def S.CliqueRowOk_k5 (κ : V → List E → R) : X → St → R := (afterC TD (tableK S.CliqueRowOk_T) S.CliqueRowOk_ann (drawOk TD (tableP S.CliqueRowOk_T)) 0 FUEL 5 (Try.f32.body.getD .skip) (finC TD 0 Try.f32 κ)).getD (fun _ _ => none)
noncomputable def S.CliqueRowOk_k11 (κ : V → List E → R) : X → St → R := (afterC TD (tableK S.CliqueRowOk_T) S.CliqueRowOk_ann (drawOk TD (tableP S.CliqueRowOk_T)) 0 FUEL 11 (Try.f32.body.getD .skip) (finC TD 0 Try.f32 κ)).getD (fun _ _ => none)
noncomputable def S.CliqueRowOk_step5 {α : Type} (x0 : List Int) (x1 : List Int) (x5 : Int) (x6 : Int) (next_ : Int × Int → α) (out0_ : Bool × Int → α) (out1_ : Int → α) (fail_ : α) : α :=
  (bif decide (x6 < (↑x1.length : Int)) then (bif decide (0 ≤ x6) && decide (x6 < (↑x1.length : Int)) then (optC (S.l1In_t (eli x1 x6.toNat) 0 x5) (fun c_2 => (bif !c_2 then (out0_ (false, x5)) else (bif decide (0 ≤ x6) && decide (x6 < (↑x1.length : Int)) then (next_ (if IntKind.i64.wrap (eli x1 x6.toNat + 1) > x5 then IntKind.i64.wrap (eli x1 x6.toNat + 1) else x5, IntKind.i64.wrap (x6 + 1))) else fail_))) fail_) else fail_) else (out1_ x5))
theorem S.CliqueRowOk_step5_nat {α γ : Type} (g : α → γ) (x0 : List Int) (x1 : List Int) (x5 : Int) (x6 : Int) (next_ : Int × Int → α) (out0_ : Bool × Int → α) (out1_ : Int → α) (fail_ : α) : g (S.CliqueRowOk_step5 x0 x1 x5 x6 next_ out0_ out1_ fail_) = S.CliqueRowOk_step5 x0 x1 x5 x6 (fun s => g (next_ s)) (fun d => g (out0_ d)) (fun d => g (out1_ d)) (g fail_) := by
  unfold S.CliqueRowOk_step5; simp only [apply_cnd g, apply_optC g, apply_sumC g]
noncomputable def S.CliqueRowOk_run5 (x0 : List Int) (x1 : List Int) : Nat → Int × Int → Option ((Bool × Int) ⊕ (Int))
  | 0, _ => none
  | n + 1, s_ => S.CliqueRowOk_step5 x0 x1 s_.1 s_.2 (S.CliqueRowOk_run5 x0 x1 n) (fun d => some ((Sum.inl d))) (fun d => some ((Sum.inr d))) none
theorem S.CliqueRowOk_L5_run (x0 : List Int) (x1 : List Int) (n : Nat) (s_ : Int × Int) (k : X → St → R) : S.CliqueRowOk_L5 n { n := 49, t := [(0, (.ro false (.ints .i64 x0))), (1, (.ro false (.ints .i64 x1))), (5, (.int .i64 s_.1)), (6, (.int .i64 s_.2))], h := [] } k = optC (S.CliqueRowOk_run5 x0 x1 n s_) (fun (r : (Bool × Int) ⊕ (Int)) => (sumC r (fun (r : Bool × Int) => k (.ret) { n := 49, t := [(0, (.ro false (.ints .i64 x0))), (1, (.ro false (.ints .i64 x1))), (4, (.bool r.1)), (5, (.int .i64 r.2))], h := [] }) (fun (r : Int) => k (.exit 0) { n := 49, t := [(0, (.ro false (.ints .i64 x0))), (1, (.ro false (.ints .i64 x1))), (4, .junk), (5, (.int .i64 r))], h := [] }))) none := by
  induction n generalizing s_ with
  | zero => rfl
  | succ n ih =>
    have hu : S.CliqueRowOk_L5 (n + 1) { n := 49, t := [(0, (.ro false (.ints .i64 x0))), (1, (.ro false (.ints .i64 x1))), (5, (.int .i64 s_.1)), (6, (.int .i64 s_.2))], h := [] } k = S.CliqueRowOk_step5 x0 x1 s_.1 s_.2 (fun s_ => S.CliqueRowOk_L5 n { n := 49, t := [(0, (.ro false (.ints .i64 x0))), (1, (.ro false (.ints .i64 x1))), (5, (.int .i64 s_.1)), (6, (.int .i64 s_.2))], h := [] } k) (fun d => k (.ret) { n := 49, t := [(0, (.ro false (.ints .i64 x0))), (1, (.ro false (.ints .i64 x1))), (4, (.bool d.1)), (5, (.int .i64 d.2))], h := [] }) (fun d => k (.exit 0) { n := 49, t := [(0, (.ro false (.ints .i64 x0))), (1, (.ro false (.ints .i64 x1))), (4, .junk), (5, (.int .i64 d))], h := [] }) none := by
      kernel_rfl
    have hs : (fun s_ : Int × Int => S.CliqueRowOk_L5 n { n := 49, t := [(0, (.ro false (.ints .i64 x0))), (1, (.ro false (.ints .i64 x1))), (5, (.int .i64 s_.1)), (6, (.int .i64 s_.2))], h := [] } k) = fun s_ => optC (S.CliqueRowOk_run5 x0 x1 n s_) (fun (r : (Bool × Int) ⊕ (Int)) => (sumC r (fun (r : Bool × Int) => k (.ret) { n := 49, t := [(0, (.ro false (.ints .i64 x0))), (1, (.ro false (.ints .i64 x1))), (4, (.bool r.1)), (5, (.int .i64 r.2))], h := [] }) (fun (r : Int) => k (.exit 0) { n := 49, t := [(0, (.ro false (.ints .i64 x0))), (1, (.ro false (.ints .i64 x1))), (4, .junk), (5, (.int .i64 r))], h := [] }))) none := funext ih
    rw [hu, hs]
    exact (S.CliqueRowOk_step5_nat (fun o => optC o (fun (r : (Bool × Int) ⊕ (Int)) => (sumC r (fun (r : Bool × Int) => k (.ret) { n := 49, t := [(0, (.ro false (.ints .i64 x0))), (1, (.ro false (.ints .i64 x1))), (4, (.bool r.1)), (5, (.int .i64 r.2))], h := [] }) (fun (r : Int) => k (.exit 0) { n := 49, t := [(0, (.ro false (.ints .i64 x0))), (1, (.ro false (.ints .i64 x1))), (4, .junk), (5, (.int .i64 r))], h := [] }))) none) x0 x1 s_.1 s_.2 (S.CliqueRowOk_run5 x0 x1 n) (fun d => some ((Sum.inl d))) (fun d => some ((Sum.inr d))) none).symm
noncomputable def S.CliqueRowOk_step11 {α : Type} (x0 : List Int) (x1 : List Int) (x5 : Int) (x7 : Int) (next_ : Int → α) (out0_ : Bool → α) (out1_ : Unit → α) (fail_ : α) : α :=
  (bif decide (x7 < x5) then (optC (S.l13Set_t x1 x7) (fun c_4 => (optC (S.l13Clique_t x0 c_4) (fun c_5 => (bif !c_5 then (out0_ false) else (next_ (IntKind.i64.wrap (x7 + 1))))) fail_)) fail_) else (out1_ ()))
theorem S.CliqueRowOk_step11_nat {α γ : Type} (g : α → γ) (x0 : List Int) (x1 : List Int) (x5 : Int) (x7 : Int) (next_ : Int → α) (out0_ : Bool → α) (out1_ : Unit → α) (fail_ : α) : g (S.CliqueRowOk_step11 x0 x1 x5 x7 next_ out0_ out1_ fail_) = S.CliqueRowOk_step11 x0 x1 x5 x7 (fun s => g (next_ s)) (fun d => g (out0_ d)) (fun d => g (out1_ d)) (g fail_) := by
  unfold S.CliqueRowOk_step11; simp only [apply_cnd g, apply_optC g, apply_sumC g]
noncomputable def S.CliqueRowOk_run11 (x0 : List Int) (x1 : List Int) (x5 : Int) : Nat → Int → Option ((Bool) ⊕ (Unit))
  | 0, _ => none
  | n + 1, s_ => S.CliqueRowOk_step11 x0 x1 x5 s_ (S.CliqueRowOk_run11 x0 x1 x5 n) (fun d => some ((Sum.inl d))) (fun d => some ((Sum.inr d))) none
theorem S.CliqueRowOk_L11_run (x0 : List Int) (x1 : List Int) (x5 : Int) (n : Nat) (s_ : Int) (k : X → St → R) : S.CliqueRowOk_L11 n { n := 49, t := [(0, (.ro false (.ints .i64 x0))), (1, (.ro false (.ints .i64 x1))), (5, (.int .i64 x5)), (7, (.int .i64 s_))], h := [] } k = optC (S.CliqueRowOk_run11 x0 x1 x5 n s_) (fun (r : (Bool) ⊕ (Unit)) => (sumC r (fun (r : Bool) => k (.ret) { n := 49, t := [(4, (.bool r))], h := [] }) (fun (r : Unit) => k (.exit 2) { n := 49, t := [(4, .junk)], h := [] }))) none := by
  induction n generalizing s_ with
  | zero => rfl
  | succ n ih =>
    have hu : S.CliqueRowOk_L11 (n + 1) { n := 49, t := [(0, (.ro false (.ints .i64 x0))), (1, (.ro false (.ints .i64 x1))), (5, (.int .i64 x5)), (7, (.int .i64 s_))], h := [] } k = S.CliqueRowOk_step11 x0 x1 x5 s_ (fun s_ => S.CliqueRowOk_L11 n { n := 49, t := [(0, (.ro false (.ints .i64 x0))), (1, (.ro false (.ints .i64 x1))), (5, (.int .i64 x5)), (7, (.int .i64 s_))], h := [] } k) (fun d => k (.ret) { n := 49, t := [(4, (.bool d))], h := [] }) (fun d => k (.exit 2) { n := 49, t := [(4, .junk)], h := [] }) none := by
      kernel_rfl
    have hs : (fun s_ : Int => S.CliqueRowOk_L11 n { n := 49, t := [(0, (.ro false (.ints .i64 x0))), (1, (.ro false (.ints .i64 x1))), (5, (.int .i64 x5)), (7, (.int .i64 s_))], h := [] } k) = fun s_ => optC (S.CliqueRowOk_run11 x0 x1 x5 n s_) (fun (r : (Bool) ⊕ (Unit)) => (sumC r (fun (r : Bool) => k (.ret) { n := 49, t := [(4, (.bool r))], h := [] }) (fun (r : Unit) => k (.exit 2) { n := 49, t := [(4, .junk)], h := [] }))) none := funext ih
    rw [hu, hs]
    exact (S.CliqueRowOk_step11_nat (fun o => optC o (fun (r : (Bool) ⊕ (Unit)) => (sumC r (fun (r : Bool) => k (.ret) { n := 49, t := [(4, (.bool r))], h := [] }) (fun (r : Unit) => k (.exit 2) { n := 49, t := [(4, .junk)], h := [] }))) none) x0 x1 x5 s_ (S.CliqueRowOk_run11 x0 x1 x5 n) (fun d => some ((Sum.inl d))) (fun d => some ((Sum.inr d))) none).symm
noncomputable def S.CliqueRowOk_tree {α : Type} (net : List Int) (row : List Int) (leaf0_ : Bool → α) (fail_ : α) : α :=
  (optC (S.NetOk_t net) (fun c_1 => (bif !c_1 then (leaf0_ false) else (bif !(↑row.length : Int) == (↑net.length : Int) then (leaf0_ false) else (optC (S.CliqueRowOk_run5 net row FUEL (0, 0)) (fun qy_3 => (sumC qy_3 (fun (qy_3 : Bool × Int) => (leaf0_ qy_3.1)) (fun (qy_3 : Int) => (optC (S.CliqueRowOk_run11 net row qy_3 FUEL 0) (fun qy_6 => (sumC qy_6 (fun (qy_6 : Bool) => (leaf0_ qy_6)) (fun (qy_6 : Unit) => (leaf0_ true)))) fail_)))) fail_)))) fail_)
theorem S.CliqueRowOk_tree_nat {α γ : Type} (g : α → γ) (net : List Int) (row : List Int) (leaf0_ : Bool → α) (fail_ : α) : g (S.CliqueRowOk_tree net row leaf0_ fail_) = S.CliqueRowOk_tree net row (fun d => g (leaf0_ d)) (g fail_) := by
  unfold S.CliqueRowOk_tree; simp only [apply_cnd g, apply_optC g, apply_sumC g]
noncomputable def S.CliqueRowOk_t (net : List Int) (row : List Int) : Option (Bool) := S.CliqueRowOk_tree net row (fun d => some d) none
theorem S.CliqueRowOk_den (net : List Int) (row : List Int) (κ : V → List E → R) : S.CliqueRowOk_F [.ro false (.ints .i64 net), .ro false (.ints .i64 row)] [] κ = optC (S.CliqueRowOk_t net row) (fun (r : Bool) => κ (.bool r) []) none := by
  have hu : S.CliqueRowOk_F [.ro false (.ints .i64 net), .ro false (.ints .i64 row)] [] κ = S.CliqueRowOk_tree net row (fun d => κ (.bool d) []) none := by
    refine Eq.trans (show S.CliqueRowOk_F [.ro false (.ints .i64 net), .ro false (.ints .i64 row)] [] κ = (optC (S.NetOk_t net) (fun c_1 => (bif !c_1 then (κ (.bool false) []) else (bif !(↑row.length : Int) == (↑net.length : Int) then (κ (.bool false) []) else (S.CliqueRowOk_L5 FUEL { n := 49, t := [(0, (.ro false (.ints .i64 net))), (1, (.ro false (.ints .i64 row))), (5, (.int .i64 0)), (6, (.int .i64 0))], h := [] } (S.CliqueRowOk_k5 κ))))) none) by kernel_rfl) ?_
    refine optC_congr (fun c_1 => ?_)
    refine cnd_congr ?_ ?_
    · kernel_rfl
    · refine cnd_congr ?_ ?_
      · kernel_rfl
      · refine (S.CliqueRowOk_L5_run net row FUEL (0, 0) (S.CliqueRowOk_k5 κ)).trans (optC_congr (fun qy_3 => ?_))
        rcases qy_3 with qy_3 | qy_3
        · kernel_rfl
        · refine Eq.trans (show (S.CliqueRowOk_k5 κ (.exit 0) { n := 49, t := [(0, (.ro false (.ints .i64 net))), (1, (.ro false (.ints .i64 row))), (4, .junk), (5, (.int .i64 qy_3))], h := [] }) = (S.CliqueRowOk_L11 FUEL { n := 49, t := [(0, (.ro false (.ints .i64 net))), (1, (.ro false (.ints .i64 row))), (5, (.int .i64 qy_3)), (7, (.int .i64 0))], h := [] } (S.CliqueRowOk_k11 κ)) by kernel_rfl) ?_
          refine (S.CliqueRowOk_L11_run net row qy_3 FUEL 0 (S.CliqueRowOk_k11 κ)).trans (optC_congr (fun qy_6 => ?_))
          rcases qy_6 with qy_6 | qy_6
          · kernel_rfl
          · kernel_rfl
  rw [hu]
  exact (S.CliqueRowOk_tree_nat (fun o => optC o (fun (r : Bool) => κ (.bool r) []) none) net row (fun d => some d) none).symm
noncomputable def S.CliqueRowOk_s : D.Spec where
  keep := false
  pure := true
  ds := [.int .i64, .int .i64]
  sp := fun args h κ => match args, h with
    | [.ro false (.ints .i64 net), .ro false (.ints .i64 row)], [] => optC (S.CliqueRowOk_t net row) (fun (r : Bool) => κ (.bool r) []) none
    | _, _ => none
theorem S.CliqueRowOk_ok : SpecOk Try.prog 32 S.CliqueRowOk_s := by
  refine SpecOk.of TDok mixed (T := S.CliqueRowOk_T) ?_ (ann := S.CliqueRowOk_ann) Try.func32 rfl (by decide +kernel) ?_ ?_ ?_
  · intro p hp
    simp only [S.CliqueRowOk_T, List.mem_cons, List.not_mem_nil, or_false] at hp
    rcases hp with rfl | rfl | rfl | rfl
    · exact S.NetOk_ok
    · exact S.l1In_ok
    · exact S.l13Set_ok
    · exact S.l13Clique_ok
  · intro args h κ r hh
    simp only [S.CliqueRowOk_s] at hh
    split at hh
    · exact (S.CliqueRowOk_den _ _ κ).trans hh
    · cases hh
  · intro args h κ r hh
    simp only [S.CliqueRowOk_s] at hh ⊢
    split at hh
    · exact optC_law2 (F := fun (r : Bool) κ => κ (.bool r) []) (fun b κ r hb => ⟨_, _, hb, fun _ => rfl⟩) hh
    · cases hh
  · intro _ args h κ r hh
    simp only [S.CliqueRowOk_s] at hh
    split at hh
    · exact ⟨rfl, fun _ => rfl⟩
    · cases hh

-- loop.example/guardsonnets/laws.setOf
noncomputable def L.setOf_T : List (Nat × D.Spec) := []
def L.setOf_ann : Nat → List Nat × List Nat
  | 3 => ([0, 1, 5, 6], [5])
  | _ => ([], [])
noncomputable def L.setOf_F (args : List V) (h : List E) (κ : V → List E → R) : R := funC TD (tableK L.setOf_T) L.setOf_ann (drawOk TD (tableP L.setOf_T)) FUEL Try.f33 args h κ
noncomputable def L.setOf_L3 (n : Nat) (σ : St) (k : X → St → R) : R := iterC 0 (fun σ k => denC TD (tableK L.setOf_T) L.setOf_ann (drawOk TD (tableP L.setOf_T)) 0 FUEL ((findLoop 3 (Try.f33.body.getD .skip)).getD .skip) σ k) [0, 1, 5, 6] [5] n σ k
noncomputable def L.setOf_k3 (κ : V → List E → R) : X → St → R := (afterC TD (tableK L.setOf_T) L.setOf_ann (drawOk TD (tableP L.setOf_T)) 0 FUEL 3 (Try.f33.body.getD .skip) (finC TD 0 Try.f33 κ)).getD (fun _ _ => none)
noncomputable def L.setOf_step3 {α : Type} (x0 : List Int) (x1 : Int) (x5 : Int) (x6 : Int) (next_ : Int × Int → α) (out0_ : Int → α) (fail_ : α) : α :=
  (bif decide (x6 < (↑x0.length : Int)) then (bif decide (0 ≤ x6) && decide (x6 < (↑x0.length : Int)) then (bif eli x0 x6.toNat == x1 then (bif decide (x6 < 0) then fail_ else (next_ (bits BinOp.or IntKind.i64 x5 (IntKind.i64.wrap (1 * 2 ^ min x6.toNat IntKind.i64.bits)), IntKind.i64.wrap (x6 + 1)))) else (next_ (x5, IntKind.i64.wrap (x6 + 1)))) else fail_) else (out0_ x5))
theorem L.setOf_step3_nat {α γ : Type} (g : α → γ) (x0 : List Int) (x1 : Int) (x5 : Int) (x6 : Int) (next_ : Int × Int → α) (out0_ : Int → α) (fail_ : α) : g (L.setOf_step3 x0 x1 x5 x6 next_ out0_ fail_) = L.setOf_step3 x0 x1 x5 x6 (fun s => g (next_ s)) (fun d => g (out0_ d)) (g fail_) := by
  unfold L.setOf_step3; simp only [apply_cnd g, apply_optC g, apply_sumC g]
noncomputable def L.setOf_run3 (x0 : List Int) (x1 : Int) : Nat → Int × Int → Option (Int)
  | 0, _ => none
  | n + 1, s_ => L.setOf_step3 x0 x1 s_.1 s_.2 (L.setOf_run3 x0 x1 n) (fun d => some d) none
theorem L.setOf_L3_run (x0 : List Int) (x1 : Int) (n : Nat) (s_ : Int × Int) (k : X → St → R) : L.setOf_L3 n { n := 24, t := [(0, (.ro false (.ints .i64 x0))), (1, (.int .i64 x1)), (5, (.int .i64 s_.1)), (6, (.int .i64 s_.2))], h := [] } k = optC (L.setOf_run3 x0 x1 n s_) (fun (r : Int) => k (.exit 0) { n := 24, t := [(5, (.int .i64 r))], h := [] }) none := by
  induction n generalizing s_ with
  | zero => rfl
  | succ n ih =>
    have hu : L.setOf_L3 (n + 1) { n := 24, t := [(0, (.ro false (.ints .i64 x0))), (1, (.int .i64 x1)), (5, (.int .i64 s_.1)), (6, (.int .i64 s_.2))], h := [] } k = L.setOf_step3 x0 x1 s_.1 s_.2 (fun s_ => L.setOf_L3 n { n := 24, t := [(0, (.ro false (.ints .i64 x0))), (1, (.int .i64 x1)), (5, (.int .i64 s_.1)), (6, (.int .i64 s_.2))], h := [] } k) (fun d => k (.exit 0) { n := 24, t := [(5, (.int .i64 d))], h := [] }) none := by
      kernel_rfl
    have hs : (fun s_ : Int × Int => L.setOf_L3 n { n := 24, t := [(0, (.ro false (.ints .i64 x0))), (1, (.int .i64 x1)), (5, (.int .i64 s_.1)), (6, (.int .i64 s_.2))], h := [] } k) = fun s_ => optC (L.setOf_run3 x0 x1 n s_) (fun (r : Int) => k (.exit 0) { n := 24, t := [(5, (.int .i64 r))], h := [] }) none := funext ih
    rw [hu, hs]
    exact (L.setOf_step3_nat (fun o => optC o (fun (r : Int) => k (.exit 0) { n := 24, t := [(5, (.int .i64 r))], h := [] }) none) x0 x1 s_.1 s_.2 (L.setOf_run3 x0 x1 n) (fun d => some d) none).symm
noncomputable def L.setOf_tree {α : Type} (row : List Int) (n_ : Int) (leaf0_ : Int → α) (fail_ : α) : α :=
  (optC (L.setOf_run3 row n_ FUEL (0, 0)) (fun qy_1 => (leaf0_ qy_1)) fail_)
theorem L.setOf_tree_nat {α γ : Type} (g : α → γ) (row : List Int) (n_ : Int) (leaf0_ : Int → α) (fail_ : α) : g (L.setOf_tree row n_ leaf0_ fail_) = L.setOf_tree row n_ (fun d => g (leaf0_ d)) (g fail_) := by
  unfold L.setOf_tree; simp only [apply_cnd g, apply_optC g, apply_sumC g]
noncomputable def L.setOf_t (row : List Int) (n_ : Int) : Option (Int) := L.setOf_tree row n_ (fun d => some d) none
theorem L.setOf_den (row : List Int) (n_ : Int) (κ : V → List E → R) : L.setOf_F [.ro false (.ints .i64 row), .int .i64 n_] [] κ = optC (L.setOf_t row n_) (fun (r : Int) => κ (.int .i64 r) []) none := by
  have hu : L.setOf_F [.ro false (.ints .i64 row), .int .i64 n_] [] κ = L.setOf_tree row n_ (fun d => κ (.int .i64 d) []) none := by
    refine Eq.trans (show L.setOf_F [.ro false (.ints .i64 row), .int .i64 n_] [] κ = (L.setOf_L3 FUEL { n := 24, t := [(0, (.ro false (.ints .i64 row))), (1, (.int .i64 n_)), (5, (.int .i64 0)), (6, (.int .i64 0))], h := [] } (L.setOf_k3 κ)) by kernel_rfl) ?_
    refine (L.setOf_L3_run row n_ FUEL (0, 0) (L.setOf_k3 κ)).trans (optC_congr (fun qy_1 => ?_))
    kernel_rfl
  rw [hu]
  exact (L.setOf_tree_nat (fun o => optC o (fun (r : Int) => κ (.int .i64 r) []) none) row n_ (fun d => some d) none).symm
noncomputable def L.setOf_s : D.Spec where
  keep := false
  pure := true
  ds := [.int .i64, .invalid]
  sp := fun args h κ => match args, h with
    | [.ro false (.ints .i64 row), .int .i64 n_], [] => optC (L.setOf_t row n_) (fun (r : Int) => κ (.int .i64 r) []) none
    | _, _ => none
theorem L.setOf_ok : SpecOk Try.prog 33 L.setOf_s := by
  refine SpecOk.of TDok mixed (T := L.setOf_T) ?_ (ann := L.setOf_ann) Try.func33 rfl (by decide +kernel) ?_ ?_ ?_
  · intro p hp; cases hp
  · intro args h κ r hh
    simp only [L.setOf_s] at hh
    split at hh
    · exact (L.setOf_den _ _ κ).trans hh
    · cases hh
  · intro args h κ r hh
    simp only [L.setOf_s] at hh ⊢
    split at hh
    · exact optC_law2 (F := fun (r : Int) κ => κ (.int .i64 r) []) (fun b κ r hb => ⟨_, _, hb, fun _ => rfl⟩) hh
    · cases hh
  · intro _ args h κ r hh
    simp only [L.setOf_s] at hh
    split at hh
    · exact ⟨rfl, fun _ => rfl⟩
    · cases hh

-- loop.example/guardsonnets/laws.FnCliqueRowOk
noncomputable def L.FnCliqueRowOk_T : List (Nat × D.Spec) := [(30, S.DrawCliqueRowOk_s), (31, I.CliqueRowOk_s), (32, S.CliqueRowOk_s), (18, I.NetOk_s), (19, L.alive_s), (33, L.setOf_s), (16, I.CliqueOk_s)]
def L.FnCliqueRowOk_ann : Nat → List Nat × List Nat
  | 11 => ([3, 4, 5, 6, 7], [2, 3, 6])
  | _ => ([], [])
noncomputable def L.FnCliqueRowOk_F (args : List V) (h : List E) (κ : V → List E → R) : R := funC TD (tableK L.FnCliqueRowOk_T) L.FnCliqueRowOk_ann (drawOk TD (tableP L.FnCliqueRowOk_T)) FUEL Try.f7 args h κ
noncomputable def L.FnCliqueRowOk_L11 (n : Nat) (σ : St) (k : X → St → R) : R := iterC 0 (fun σ k => denC TD (tableK L.FnCliqueRowOk_T) L.FnCliqueRowOk_ann (drawOk TD (tableP L.FnCliqueRowOk_T)) 0 FUEL ((findLoop 11 (Try.f7.body.getD .skip)).getD .skip) σ k) [3, 4, 5, 6, 7] [2, 3, 6] n σ k
noncomputable def L.FnCliqueRowOk_k11 (κ : V → List E → R) : X → St → R := (afterC TD (tableK L.FnCliqueRowOk_T) L.FnCliqueRowOk_ann (drawOk TD (tableP L.FnCliqueRowOk_T)) 0 FUEL 11 (Try.f7.body.getD .skip) (finC TD 0 Try.f7 κ)).getD (fun _ _ => none)
noncomputable def L.FnCliqueRowOk_step11 {α : Type} (x5 : Bool) (x7 : Int) (r0 : List Int) (r1 : List Int) (r2 : List Int) (next_ : Int × (List Int) × (List Int) × (List Int) → α) (out0_ : Bool × (List Int) × (List Int) → α) (out1_ : (List Int) × (List Int) → α) (fail_ : α) : α :=
  (bif decide (x7 < (↑r0.length : Int)) then (bif small (r2 ++ [x7]).length then (bif x5 then (optC (L.setOf_t r1 x7) (fun c_6 => (optC (I.CliqueOk_t r0 c_6) (fun c_7 => (bif !c_7 then (out0_ (false, r0, r2 ++ [x7])) else (next_ (IntKind.i64.wrap (x7 + 1), r0, r1, r2 ++ [x7])))) fail_)) fail_) else (next_ (IntKind.i64.wrap (x7 + 1), r0, r1, r2 ++ [x7]))) else fail_) else (out1_ (r0, r2)))
theorem L.FnCliqueRowOk_step11_nat {α γ : Type} (g : α → γ) (x5 : Bool) (x7 : Int) (r0 : List Int) (r1 : List Int) (r2 : List Int) (next_ : Int × (List Int) × (List Int) × (List Int) → α) (out0_ : Bool × (List Int) × (List Int) → α) (out1_ : (List Int) × (List Int) → α) (fail_ : α) : g (L.FnCliqueRowOk_step11 x5 x7 r0 r1 r2 next_ out0_ out1_ fail_) = L.FnCliqueRowOk_step11 x5 x7 r0 r1 r2 (fun s => g (next_ s)) (fun d => g (out0_ d)) (fun d => g (out1_ d)) (g fail_) := by
  unfold L.FnCliqueRowOk_step11; simp only [apply_cnd g, apply_optC g, apply_sumC g]
noncomputable def L.FnCliqueRowOk_run11 (x5 : Bool) : Nat → Int × (List Int) × (List Int) × (List Int) → Option ((Bool × (List Int) × (List Int)) ⊕ ((List Int) × (List Int)))
  | 0, _ => none
  | n + 1, s_ => L.FnCliqueRowOk_step11 x5 s_.1 s_.2.1 s_.2.2.1 s_.2.2.2 (L.FnCliqueRowOk_run11 x5 n) (fun d => some ((Sum.inl d))) (fun d => some ((Sum.inr d))) none
theorem L.FnCliqueRowOk_L11_run (x5 : Bool) (n : Nat) (s_ : Int × (List Int) × (List Int) × (List Int)) (k : X → St → R) : L.FnCliqueRowOk_L11 n { n := 58, t := [(3, (.own 0)), (4, (.own 1)), (5, (.bool x5)), (6, (.own 2)), (7, (.int .i64 s_.1))], h := [.row (.ints .i64 s_.2.1), .row (.ints .i64 s_.2.2.1), .row (.ints .i64 s_.2.2.2)] } k = optC (L.FnCliqueRowOk_run11 x5 n s_) (fun (r : (Bool × (List Int) × (List Int)) ⊕ ((List Int) × (List Int))) => (sumC r (fun (r : Bool × (List Int) × (List Int)) => k (.ret) { n := 58, t := [(2, (.bool r.1)), (3, (.own 0)), (6, (.own 1))], h := [.row (.ints .i64 r.2.1), .row (.ints .i64 r.2.2)] }) (fun (r : (List Int) × (List Int)) => k (.exit 0) { n := 58, t := [(2, .junk), (3, (.own 0)), (6, (.own 1))], h := [.row (.ints .i64 r.1), .row (.ints .i64 r.2)] }))) none := by
  induction n generalizing s_ with
  | zero => rfl
  | succ n ih =>
    have hu : L.FnCliqueRowOk_L11 (n + 1) { n := 58, t := [(3, (.own 0)), (4, (.own 1)), (5, (.bool x5)), (6, (.own 2)), (7, (.int .i64 s_.1))], h := [.row (.ints .i64 s_.2.1), .row (.ints .i64 s_.2.2.1), .row (.ints .i64 s_.2.2.2)] } k = L.FnCliqueRowOk_step11 x5 s_.1 s_.2.1 s_.2.2.1 s_.2.2.2 (fun s_ => L.FnCliqueRowOk_L11 n { n := 58, t := [(3, (.own 0)), (4, (.own 1)), (5, (.bool x5)), (6, (.own 2)), (7, (.int .i64 s_.1))], h := [.row (.ints .i64 s_.2.1), .row (.ints .i64 s_.2.2.1), .row (.ints .i64 s_.2.2.2)] } k) (fun d => k (.ret) { n := 58, t := [(2, (.bool d.1)), (3, (.own 0)), (6, (.own 1))], h := [.row (.ints .i64 d.2.1), .row (.ints .i64 d.2.2)] }) (fun d => k (.exit 0) { n := 58, t := [(2, .junk), (3, (.own 0)), (6, (.own 1))], h := [.row (.ints .i64 d.1), .row (.ints .i64 d.2)] }) none := by
      kernel_rfl
    have hs : (fun s_ : Int × (List Int) × (List Int) × (List Int) => L.FnCliqueRowOk_L11 n { n := 58, t := [(3, (.own 0)), (4, (.own 1)), (5, (.bool x5)), (6, (.own 2)), (7, (.int .i64 s_.1))], h := [.row (.ints .i64 s_.2.1), .row (.ints .i64 s_.2.2.1), .row (.ints .i64 s_.2.2.2)] } k) = fun s_ => optC (L.FnCliqueRowOk_run11 x5 n s_) (fun (r : (Bool × (List Int) × (List Int)) ⊕ ((List Int) × (List Int))) => (sumC r (fun (r : Bool × (List Int) × (List Int)) => k (.ret) { n := 58, t := [(2, (.bool r.1)), (3, (.own 0)), (6, (.own 1))], h := [.row (.ints .i64 r.2.1), .row (.ints .i64 r.2.2)] }) (fun (r : (List Int) × (List Int)) => k (.exit 0) { n := 58, t := [(2, .junk), (3, (.own 0)), (6, (.own 1))], h := [.row (.ints .i64 r.1), .row (.ints .i64 r.2)] }))) none := funext ih
    rw [hu, hs]
    exact (L.FnCliqueRowOk_step11_nat (fun o => optC o (fun (r : (Bool × (List Int) × (List Int)) ⊕ ((List Int) × (List Int))) => (sumC r (fun (r : Bool × (List Int) × (List Int)) => k (.ret) { n := 58, t := [(2, (.bool r.1)), (3, (.own 0)), (6, (.own 1))], h := [.row (.ints .i64 r.2.1), .row (.ints .i64 r.2.2)] }) (fun (r : (List Int) × (List Int)) => k (.exit 0) { n := 58, t := [(2, .junk), (3, (.own 0)), (6, (.own 1))], h := [.row (.ints .i64 r.1), .row (.ints .i64 r.2)] }))) none) x5 s_.1 s_.2.1 s_.2.2.1 s_.2.2.2 (L.FnCliqueRowOk_run11 x5 n) (fun d => some ((Sum.inl d))) (fun d => some ((Sum.inr d))) none).symm
noncomputable def L.FnCliqueRowOk_tree {α : Type} (code : List Int) (leaf0_ : Bool → α) (fail_ : α) : α :=
  (bif decide ((↑code.length : Int) > 1048576) then (leaf0_ true) else (optC (S.DrawCliqueRowOk_t code) (fun c_1 => (optC (I.CliqueRowOk_t c_1.fst c_1.snd) (fun c_2 => (optC (S.CliqueRowOk_t c_1.fst c_1.snd) (fun c_3 => (bif !c_2 == c_3 then (leaf0_ false) else (optC (I.NetOk_t c_1.fst) (fun c_4 => (bif !c_4 then (bif !c_2 then (optC (L.alive_t) (fun c_5 => (leaf0_ c_5)) fail_) else (leaf0_ false)) else (optC (L.FnCliqueRowOk_run11 c_2 FUEL (0, c_1.fst, c_1.snd, [])) (fun qy_8 => (sumC qy_8 (fun (qy_8 : Bool × (List Int) × (List Int)) => (leaf0_ qy_8.1)) (fun (qy_8 : (List Int) × (List Int)) => (optC (I.CliqueRowOk_t qy_8.1 qy_8.2) (fun c_9 => (bif c_9 then (optC (L.alive_t) (fun c_10 => (leaf0_ c_10)) fail_) else (leaf0_ false))) fail_)))) fail_))) fail_))) fail_)) fail_)) fail_))
theorem L.FnCliqueRowOk_tree_nat {α γ : Type} (g : α → γ) (code : List Int) (leaf0_ : Bool → α) (fail_ : α) : g (L.FnCliqueRowOk_tree code leaf0_ fail_) = L.FnCliqueRowOk_tree code (fun d => g (leaf0_ d)) (g fail_) := by
  unfold L.FnCliqueRowOk_tree; simp only [apply_cnd g, apply_optC g, apply_sumC g]
noncomputable def L.FnCliqueRowOk_t (code : List Int) : Option (Bool) := L.FnCliqueRowOk_tree code (fun d => some d) none
theorem L.FnCliqueRowOk_den (code : List Int) (κ : V → List E → R) : L.FnCliqueRowOk_F [.ro true (.ints .u8 code)] [] κ = optC (L.FnCliqueRowOk_t code) (fun (r : Bool) => κ (.bool r) []) none := by
  have hu : L.FnCliqueRowOk_F [.ro true (.ints .u8 code)] [] κ = L.FnCliqueRowOk_tree code (fun d => κ (.bool d) []) none := by
    refine Eq.trans (show L.FnCliqueRowOk_F [.ro true (.ints .u8 code)] [] κ = (bif decide ((↑code.length : Int) > 1048576) then (κ (.bool true) []) else (optC (S.DrawCliqueRowOk_t code) (fun c_1 => (optC (I.CliqueRowOk_t c_1.fst c_1.snd) (fun c_2 => (optC (S.CliqueRowOk_t c_1.fst c_1.snd) (fun c_3 => (bif !c_2 == c_3 then (κ (.bool false) []) else (optC (I.NetOk_t c_1.fst) (fun c_4 => (bif !c_4 then (bif !c_2 then (optC (L.alive_t) (fun c_5 => (κ (.bool c_5) [])) none) else (κ (.bool false) [])) else (L.FnCliqueRowOk_L11 FUEL { n := 58, t := [(3, (.own 0)), (4, (.own 1)), (5, (.bool c_2)), (6, (.own 2)), (7, (.int .i64 0))], h := [.row (.ints .i64 c_1.fst), .row (.ints .i64 c_1.snd), .row (.ints .i64 ([]))] } (L.FnCliqueRowOk_k11 κ)))) none))) none)) none)) none)) by kernel_rfl) ?_
    refine cnd_congr ?_ ?_
    · kernel_rfl
    · refine optC_congr (fun c_1 => ?_)
      refine optC_congr (fun c_2 => ?_)
      refine optC_congr (fun c_3 => ?_)
      refine cnd_congr ?_ ?_
      · kernel_rfl
      · refine optC_congr (fun c_4 => ?_)
        refine cnd_congr ?_ ?_
        · kernel_rfl
        · refine (L.FnCliqueRowOk_L11_run c_2 FUEL (0, c_1.fst, c_1.snd, []) (L.FnCliqueRowOk_k11 κ)).trans (optC_congr (fun qy_8 => ?_))
          rcases qy_8 with qy_8 | qy_8
          · kernel_rfl
          · kernel_rfl
  rw [hu]
  exact (L.FnCliqueRowOk_tree_nat (fun o => optC o (fun (r : Bool) => κ (.bool r) []) none) code (fun d => some d) none).symm
noncomputable def L.FnCliqueRowOk_s : D.Spec where
  keep := true
  pure := true
  ds := [.int .u8]
  sp := fun args h κ => match args, h with
    | [.ro true (.ints .u8 code)], [] => optC (L.FnCliqueRowOk_t code) (fun (r : Bool) => κ (.bool r) []) none
    | _, _ => none
theorem L.FnCliqueRowOk_ok : SpecOk Try.prog 7 L.FnCliqueRowOk_s := by
  refine SpecOk.of TDok mixed (T := L.FnCliqueRowOk_T) ?_ (ann := L.FnCliqueRowOk_ann) Try.func7 rfl (by decide +kernel) ?_ ?_ ?_
  · intro p hp
    simp only [L.FnCliqueRowOk_T, List.mem_cons, List.not_mem_nil, or_false] at hp
    rcases hp with rfl | rfl | rfl | rfl | rfl | rfl | rfl
    · exact S.DrawCliqueRowOk_ok
    · exact I.CliqueRowOk_ok
    · exact S.CliqueRowOk_ok
    · exact I.NetOk_ok
    · exact L.alive_ok
    · exact L.setOf_ok
    · exact I.CliqueOk_ok
  · intro args h κ r hh
    simp only [L.FnCliqueRowOk_s] at hh
    split at hh
    · exact (L.FnCliqueRowOk_den _ κ).trans hh
    · cases hh
  · intro args h κ r hh
    simp only [L.FnCliqueRowOk_s] at hh ⊢
    split at hh
    · exact optC_law2 (F := fun (r : Bool) κ => κ (.bool r) []) (fun b κ r hb => ⟨_, _, hb, fun _ => rfl⟩) hh
    · cases hh
  · intro _ args h κ r hh
    simp only [L.FnCliqueRowOk_s] at hh
    split at hh
    · exact ⟨rfl, fun _ => rfl⟩
    · cases hh

-- loop.example/guardsonnets/laws.FnExactCliqueRowOk
noncomputable def L.FnExactCliqueRowOk_T : List (Nat × D.Spec) := [(23, L.toIntS_s), (32, S.CliqueRowOk_s), (31, I.CliqueRowOk_s), (24, L.eqIntS_s)]
def L.FnExactCliqueRowOk_ann : Nat → List Nat × List Nat
  | _ => ([], [])
noncomputable def L.FnExactCliqueRowOk_F (args : List V) (h : List E) (κ : V → List E → R) : R := funC TD (tableK L.FnExactCliqueRowOk_T) L.FnExactCliqueRowOk_ann (drawOk TD (tableP L.FnExactCliqueRowOk_T)) FUEL Try.f8 args h κ
noncomputable def L.FnExactCliqueRowOk_tree {α : Type} (aNet : List Int) (aRow : List Int) (leaf0_ : Bool → α) (fail_ : α) : α :=
  (bif decide ((↑aNet.length : Int) > 1048576) then (leaf0_ true) else (bif decide ((↑aRow.length : Int) > 1048576) then (leaf0_ true) else (optC (L.toIntS_t aNet) (fun c_1 => (optC (L.toIntS_t aRow) (fun c_2 => (optC (S.CliqueRowOk_t c_1 c_2) (fun c_3 => (optC (L.toIntS_t aNet) (fun c_4 => (optC (L.toIntS_t aRow) (fun c_5 => (optC (I.CliqueRowOk_t c_4 c_5) (fun c_6 => (bif !c_6 == c_3 then (leaf0_ false) else (optC (L.toIntS_t aNet) (fun c_7 => (optC (L.eqIntS_t c_4 c_7) (fun c_8 => (bif !c_8 then (leaf0_ false) else (optC (L.toIntS_t aRow) (fun c_9 => (optC (L.eqIntS_t c_5 c_9) (fun c_10 => (bif !c_10 then (leaf0_ false) else (leaf0_ true))) fail_)) fail_))) fail_)) fail_))) fail_)) fail_)) fail_)) fail_)) fail_)) fail_)))
theorem L.FnExactCliqueRowOk_tree_nat {α γ : Type} (g : α → γ) (aNet : List Int) (aRow : List Int) (leaf0_ : Bool → α) (fail_ : α) : g (L.FnExactCliqueRowOk_tree aNet aRow leaf0_ fail_) = L.FnExactCliqueRowOk_tree aNet aRow (fun d => g (leaf0_ d)) (g fail_) := by
  unfold L.FnExactCliqueRowOk_tree; simp only [apply_cnd g, apply_optC g, apply_sumC g]
noncomputable def L.FnExactCliqueRowOk_t (aNet : List Int) (aRow : List Int) : Option (Bool) := L.FnExactCliqueRowOk_tree aNet aRow (fun d => some d) none
theorem L.FnExactCliqueRowOk_den (aNet : List Int) (aRow : List Int) (κ : V → List E → R) : L.FnExactCliqueRowOk_F [.ro true (.ints .i64 aNet), .ro true (.ints .i64 aRow)] [] κ = optC (L.FnExactCliqueRowOk_t aNet aRow) (fun (r : Bool) => κ (.bool r) []) none := by
  have hu : L.FnExactCliqueRowOk_F [.ro true (.ints .i64 aNet), .ro true (.ints .i64 aRow)] [] κ = L.FnExactCliqueRowOk_tree aNet aRow (fun d => κ (.bool d) []) none := by
    kernel_rfl
  rw [hu]
  exact (L.FnExactCliqueRowOk_tree_nat (fun o => optC o (fun (r : Bool) => κ (.bool r) []) none) aNet aRow (fun d => some d) none).symm
noncomputable def L.FnExactCliqueRowOk_s : D.Spec where
  keep := true
  pure := true
  ds := [.int .i64, .int .i64]
  sp := fun args h κ => match args, h with
    | [.ro true (.ints .i64 aNet), .ro true (.ints .i64 aRow)], [] => optC (L.FnExactCliqueRowOk_t aNet aRow) (fun (r : Bool) => κ (.bool r) []) none
    | _, _ => none
theorem L.FnExactCliqueRowOk_ok : SpecOk Try.prog 8 L.FnExactCliqueRowOk_s := by
  refine SpecOk.of TDok mixed (T := L.FnExactCliqueRowOk_T) ?_ (ann := L.FnExactCliqueRowOk_ann) Try.func8 rfl (by decide +kernel) ?_ ?_ ?_
  · intro p hp
    simp only [L.FnExactCliqueRowOk_T, List.mem_cons, List.not_mem_nil, or_false] at hp
    rcases hp with rfl | rfl | rfl | rfl
    · exact L.toIntS_ok
    · exact S.CliqueRowOk_ok
    · exact I.CliqueRowOk_ok
    · exact L.eqIntS_ok
  · intro args h κ r hh
    simp only [L.FnExactCliqueRowOk_s] at hh
    split at hh
    · exact (L.FnExactCliqueRowOk_den _ _ κ).trans hh
    · cases hh
  · intro args h κ r hh
    simp only [L.FnExactCliqueRowOk_s] at hh ⊢
    split at hh
    · exact optC_law2 (F := fun (r : Bool) κ => κ (.bool r) []) (fun b κ r hb => ⟨_, _, hb, fun _ => rfl⟩) hh
    · cases hh
  · intro _ args h κ r hh
    simp only [L.FnExactCliqueRowOk_s] at hh
    split at hh
    · exact ⟨rfl, fun _ => rfl⟩
    · cases hh

-- loop.example/guardsonnets/spec.DrawCliqueRow
noncomputable def S.DrawCliqueRow_T : List (Nat × D.Spec) := [(47, S.l20Open_s), (61, S.l20Net_s)]
def S.DrawCliqueRow_ann : Nat → List Nat × List Nat
  | _ => ([], [])
noncomputable def S.DrawCliqueRow_F (args : List V) (h : List E) (κ : V → List E → R) : R := funC TD (tableK S.DrawCliqueRow_T) S.DrawCliqueRow_ann (drawOk TD (tableP S.DrawCliqueRow_T)) FUEL Try.f34 args h κ
noncomputable def S.DrawCliqueRow_tree {α : Type} (code : List Int) (leaf0_ : List Int → α) (fail_ : α) : α :=
  (optC (S.l20Open_t code) (fun c_1 => (optC (S.l20Net_t c_1.fst c_1.snd 9) (fun c_2 => (leaf0_ c_2.snd.snd)) fail_)) fail_)
theorem S.DrawCliqueRow_tree_nat {α γ : Type} (g : α → γ) (code : List Int) (leaf0_ : List Int → α) (fail_ : α) : g (S.DrawCliqueRow_tree code leaf0_ fail_) = S.DrawCliqueRow_tree code (fun d => g (leaf0_ d)) (g fail_) := by
  unfold S.DrawCliqueRow_tree; simp only [apply_cnd g, apply_optC g, apply_sumC g]
noncomputable def S.DrawCliqueRow_t (code : List Int) : Option (List Int) := S.DrawCliqueRow_tree code (fun d => some d) none
theorem S.DrawCliqueRow_den (code : List Int) (κ : V → List E → R) : S.DrawCliqueRow_F [.ro true (.ints .u8 code)] [] κ = optC (S.DrawCliqueRow_t code) (fun (r : List Int) => κ (.own 0) [.row (.ints .i64 r)]) none := by
  have hu : S.DrawCliqueRow_F [.ro true (.ints .u8 code)] [] κ = S.DrawCliqueRow_tree code (fun d => κ (.own 0) [.row (.ints .i64 d)]) none := by
    kernel_rfl
  rw [hu]
  exact (S.DrawCliqueRow_tree_nat (fun o => optC o (fun (r : List Int) => κ (.own 0) [.row (.ints .i64 r)]) none) code (fun d => some d) none).symm
noncomputable def S.DrawCliqueRow_s : D.Spec where
  keep := true
  pure := false
  ds := [.int .u8]
  sp := fun args h κ => match args, h with
    | [.ro true (.ints .u8 code)], [] => optC (S.DrawCliqueRow_t code) (fun (r : List Int) => κ (.own 0) [.row (.ints .i64 r)]) none
    | _, _ => none
theorem S.DrawCliqueRow_ok : SpecOk Try.prog 34 S.DrawCliqueRow_s := by
  refine SpecOk.of TDok mixed (T := S.DrawCliqueRow_T) ?_ (ann := S.DrawCliqueRow_ann) Try.func34 rfl (by decide +kernel) ?_ ?_ ?_
  · intro p hp
    simp only [S.DrawCliqueRow_T, List.mem_cons, List.not_mem_nil, or_false] at hp
    rcases hp with rfl | rfl
    · exact S.l20Open_ok
    · exact S.l20Net_ok
  · intro args h κ r hh
    simp only [S.DrawCliqueRow_s] at hh
    split at hh
    · exact (S.DrawCliqueRow_den _ κ).trans hh
    · cases hh
  · intro args h κ r hh
    simp only [S.DrawCliqueRow_s] at hh ⊢
    split at hh
    · exact optC_law2 (F := fun (r : List Int) κ => κ (.own 0) [.row (.ints .i64 r)]) (fun b κ r hb => ⟨_, _, hb, fun _ => rfl⟩) hh
    · cases hh
  · intro hh; cases hh

-- loop.example/guardsonnets/impl.rowWith
noncomputable def I.rowWith_T : List (Nat × D.Spec) := []
def I.rowWith_ann : Nat → List Nat × List Nat
  | _ => ([], [])
noncomputable def I.rowWith_F (args : List V) (h : List E) (κ : V → List E → R) : R := funC TD (tableK I.rowWith_T) I.rowWith_ann (drawOk TD (tableP I.rowWith_T)) FUEL Try.f83 args h κ
noncomputable def I.rowWith_tree {α : Type} (row : List Int) (number : Int) (leaf0_ : List Int → α) (fail_ : α) : α :=
  (bif small ([] ++ row).length then (bif small ([] ++ row ++ [number]).length then (leaf0_ ([] ++ row ++ [number])) else fail_) else fail_)
theorem I.rowWith_tree_nat {α γ : Type} (g : α → γ) (row : List Int) (number : Int) (leaf0_ : List Int → α) (fail_ : α) : g (I.rowWith_tree row number leaf0_ fail_) = I.rowWith_tree row number (fun d => g (leaf0_ d)) (g fail_) := by
  unfold I.rowWith_tree; simp only [apply_cnd g, apply_optC g, apply_sumC g]
noncomputable def I.rowWith_t (row : List Int) (number : Int) : Option (List Int) := I.rowWith_tree row number (fun d => some d) none
theorem I.rowWith_den (row : List Int) (number : Int) (κ : V → List E → R) : I.rowWith_F [.ro false (.ints .i64 row), .int .i64 number] [] κ = optC (I.rowWith_t row number) (fun (r : List Int) => κ (.own 0) [.row (.ints .i64 r)]) none := by
  have hu : I.rowWith_F [.ro false (.ints .i64 row), .int .i64 number] [] κ = I.rowWith_tree row number (fun d => κ (.own 0) [.row (.ints .i64 d)]) none := by
    kernel_rfl
  rw [hu]
  exact (I.rowWith_tree_nat (fun o => optC o (fun (r : List Int) => κ (.own 0) [.row (.ints .i64 r)]) none) row number (fun d => some d) none).symm
noncomputable def I.rowWith_s : D.Spec where
  keep := false
  pure := false
  ds := [.int .i64, .invalid]
  sp := fun args h κ => match args, h with
    | [.ro false (.ints .i64 row), .int .i64 number], [] => optC (I.rowWith_t row number) (fun (r : List Int) => κ (.own 0) [.row (.ints .i64 r)]) none
    | _, _ => none
theorem I.rowWith_ok : SpecOk Try.prog 83 I.rowWith_s := by
  refine SpecOk.of TDok mixed (T := I.rowWith_T) ?_ (ann := I.rowWith_ann) Try.func83 rfl (by decide +kernel) ?_ ?_ ?_
  · intro p hp; cases hp
  · intro args h κ r hh
    simp only [I.rowWith_s] at hh
    split at hh
    · exact (I.rowWith_den _ _ κ).trans hh
    · cases hh
  · intro args h κ r hh
    simp only [I.rowWith_s] at hh ⊢
    split at hh
    · exact optC_law2 (F := fun (r : List Int) κ => κ (.own 0) [.row (.ints .i64 r)]) (fun b κ r hb => ⟨_, _, hb, fun _ => rfl⟩) hh
    · cases hh
  · intro hh; cases hh

-- loop.example/guardsonnets/impl.cliquesFrom
class I.cliquesFrom_r_R where
  r : (List Int) → (List Int) → Int → Option ((List Int) ⊕ ((List Int) × (List Int)))
section
variable [c_ : I.cliquesFrom_r_R]
noncomputable def I.cliquesFrom_r0_t (net : List Int) (row : List Int) (most : Int) : Option ((List Int) ⊕ ((List Int) × (List Int))) := I.cliquesFrom_r_R.r net row most
noncomputable def I.cliquesFrom_r0_s : D.Spec where
  keep := false
  pure := false
  ds := [.int .i64, .pointer 0, .invalid]
  sp := fun args h κ => match args, h with
    | [.ro false (.ints .i64 net), .own 0, .int .i64 most], [.row (.ints .i64 row)] => optC (I.cliquesFrom_r0_t net row most) (fun (r : (List Int) ⊕ ((List Int) × (List Int))) => sumC r (fun (r : List Int) => κ (.own 0) [.row (.ints .i64 r)]) (fun (r : (List Int) × (List Int)) => κ (.own 1) [.row (.ints .i64 r.1), .row (.ints .i64 r.2)])) none
    | _, _ => none
end
section
variable [c_ : I.cliquesFrom_r_R]
noncomputable def I.cliquesFrom_r_T : List (Nat × D.Spec) := [(70, I.numbersOf_s), (78, I.placesWith_s), (83, I.rowWith_s), (79, I.cliquesFrom_r0_s)]
def I.cliquesFrom_r_ann : Nat → List Nat × List Nat
  | 5 => ([0, 1, 2, 7, 8], [6])
  | _ => ([], [])
noncomputable def I.cliquesFrom_r_F (args : List V) (h : List E) (κ : V → List E → R) : R := funC TD (tableK I.cliquesFrom_r_T) I.cliquesFrom_r_ann (drawOk TD (tableP I.cliquesFrom_r_T)) FUEL Try.f79 args h κ
noncomputable def I.cliquesFrom_r_L5 (n : Nat) (σ : St) (k : X → St → R) : R := iterC 1 (fun σ k => denC TD (tableK I.cliquesFrom_r_T) I.cliquesFrom_r_ann (drawOk TD (tableP I.cliquesFrom_r_T)) 1 FUEL ((findLoop 5 (Try.f79.body.getD .skip)).getD .skip) σ k) [0, 1, 2, 7, 8] [6] n σ k
end
section
variable [c_ : I.cliquesFrom_r_R]
noncomputable def I.cliquesFrom_r_k5 (κ : V → List E → R) : X → St → R := (afterC TD (tableK I.cliquesFrom_r_T) I.cliquesFrom_r_ann (drawOk TD (tableP I.cliquesFrom_r_T)) 1 FUEL 5 (Try.f79.body.getD .skip) (finC TD 1 Try.f79 κ)).getD (fun _ _ => none)
noncomputable def I.cliquesFrom_r_step5 {α : Type} (x0 : List Int) (x2 : Int) (x7 : Int) (x8 : Int) (r0 : List Int) (next_ : Int × (List Int) → α) (out0_ : (List Int) × (List Int) → α) (out1_ : List Int → α) (fail_ : α) : α :=
  (optC (I.numbersOf_t r0) (fun c_1 => (bif decide (x8 ≤ c_1) then (bif decide (x8 < x2) then (optC (I.placesWith_t r0 x8) (fun c_2 => (bif decide (0 ≤ x7) && decide (x7 < (↑x0.length : Int)) then (bif !bits BinOp.andNot IntKind.i64 c_2 (eli x0 x7.toNat) == 0 then (next_ (IntKind.i64.wrap (x8 + 1), r0)) else (optC (I.rowWith_t r0 x8) (fun c_3 => (optC (I.cliquesFrom_r0_t x0 c_3 x2) (fun c_4 => (sumC c_4 (fun c_5 => (bif decide ((↑c_5.length : Int) > 0) then (out0_ (r0, c_5)) else (next_ (IntKind.i64.wrap (x8 + 1), r0)))) (fun c_5 => (bif decide ((↑c_5.snd.length : Int) > 0) then (out0_ (r0, c_5.snd)) else (next_ (IntKind.i64.wrap (x8 + 1), r0)))))) fail_)) fail_)) else fail_)) fail_) else (out1_ r0)) else (out1_ r0))) fail_)
theorem I.cliquesFrom_r_step5_nat {α γ : Type} (g : α → γ) (x0 : List Int) (x2 : Int) (x7 : Int) (x8 : Int) (r0 : List Int) (next_ : Int × (List Int) → α) (out0_ : (List Int) × (List Int) → α) (out1_ : List Int → α) (fail_ : α) : g (I.cliquesFrom_r_step5 x0 x2 x7 x8 r0 next_ out0_ out1_ fail_) = I.cliquesFrom_r_step5 x0 x2 x7 x8 r0 (fun s => g (next_ s)) (fun d => g (out0_ d)) (fun d => g (out1_ d)) (g fail_) := by
  unfold I.cliquesFrom_r_step5; simp only [apply_cnd g, apply_optC g, apply_sumC g]
noncomputable def I.cliquesFrom_r_run5 (x0 : List Int) (x2 : Int) (x7 : Int) : Nat → Int × (List Int) → Option (((List Int) × (List Int)) ⊕ (List Int))
  | 0, _ => none
  | n + 1, s_ => I.cliquesFrom_r_step5 x0 x2 x7 s_.1 s_.2 (I.cliquesFrom_r_run5 x0 x2 x7 n) (fun d => some ((Sum.inl d))) (fun d => some ((Sum.inr d))) none
theorem I.cliquesFrom_r_L5_run (x0 : List Int) (x2 : Int) (x7 : Int) (n : Nat) (s_ : Int × (List Int)) (k : X → St → R) : I.cliquesFrom_r_L5 n { n := 47, t := [(0, (.ro false (.ints .i64 x0))), (1, (.own 0)), (2, (.int .i64 x2)), (7, (.int .i64 x7)), (8, (.int .i64 s_.1))], h := [.row (.ints .i64 s_.2)] } k = optC (I.cliquesFrom_r_run5 x0 x2 x7 n s_) (fun (r : ((List Int) × (List Int)) ⊕ (List Int)) => (sumC r (fun (r : (List Int) × (List Int)) => k (.ret) { n := 47, t := [(6, (.own 1))], h := [.row (.ints .i64 r.1), .row (.ints .i64 r.2)] }) (fun (r : List Int) => k (.exit 0) { n := 47, t := [(6, .junk)], h := [.row (.ints .i64 r)] }))) none := by
  induction n generalizing s_ with
  | zero => rfl
  | succ n ih =>
    have hu : I.cliquesFrom_r_L5 (n + 1) { n := 47, t := [(0, (.ro false (.ints .i64 x0))), (1, (.own 0)), (2, (.int .i64 x2)), (7, (.int .i64 x7)), (8, (.int .i64 s_.1))], h := [.row (.ints .i64 s_.2)] } k = I.cliquesFrom_r_step5 x0 x2 x7 s_.1 s_.2 (fun s_ => I.cliquesFrom_r_L5 n { n := 47, t := [(0, (.ro false (.ints .i64 x0))), (1, (.own 0)), (2, (.int .i64 x2)), (7, (.int .i64 x7)), (8, (.int .i64 s_.1))], h := [.row (.ints .i64 s_.2)] } k) (fun d => k (.ret) { n := 47, t := [(6, (.own 1))], h := [.row (.ints .i64 d.1), .row (.ints .i64 d.2)] }) (fun d => k (.exit 0) { n := 47, t := [(6, .junk)], h := [.row (.ints .i64 d)] }) none := by
      kernel_rfl
    have hs : (fun s_ : Int × (List Int) => I.cliquesFrom_r_L5 n { n := 47, t := [(0, (.ro false (.ints .i64 x0))), (1, (.own 0)), (2, (.int .i64 x2)), (7, (.int .i64 x7)), (8, (.int .i64 s_.1))], h := [.row (.ints .i64 s_.2)] } k) = fun s_ => optC (I.cliquesFrom_r_run5 x0 x2 x7 n s_) (fun (r : ((List Int) × (List Int)) ⊕ (List Int)) => (sumC r (fun (r : (List Int) × (List Int)) => k (.ret) { n := 47, t := [(6, (.own 1))], h := [.row (.ints .i64 r.1), .row (.ints .i64 r.2)] }) (fun (r : List Int) => k (.exit 0) { n := 47, t := [(6, .junk)], h := [.row (.ints .i64 r)] }))) none := funext ih
    rw [hu, hs]
    exact (I.cliquesFrom_r_step5_nat (fun o => optC o (fun (r : ((List Int) × (List Int)) ⊕ (List Int)) => (sumC r (fun (r : (List Int) × (List Int)) => k (.ret) { n := 47, t := [(6, (.own 1))], h := [.row (.ints .i64 r.1), .row (.ints .i64 r.2)] }) (fun (r : List Int) => k (.exit 0) { n := 47, t := [(6, .junk)], h := [.row (.ints .i64 r)] }))) none) x0 x2 x7 s_.1 s_.2 (I.cliquesFrom_r_run5 x0 x2 x7 n) (fun d => some ((Sum.inl d))) (fun d => some ((Sum.inr d))) none).symm
noncomputable def I.cliquesFrom_r_tree {α : Type} (net : List Int) (row : List Int) (most : Int) (leaf0_ : List Int → α) (leaf1_ : (List Int) × (List Int) → α) (fail_ : α) : α :=
  (bif (↑row.length : Int) == (↑net.length : Int) then (leaf0_ row) else (optC (I.cliquesFrom_r_run5 net most ((↑row.length : Int)) FUEL (0, row)) (fun qy_6 => (sumC qy_6 (fun (qy_6 : (List Int) × (List Int)) => (leaf1_ (qy_6.1, qy_6.2))) (fun (qy_6 : List Int) => (leaf1_ (qy_6, []))))) fail_))
theorem I.cliquesFrom_r_tree_nat {α γ : Type} (g : α → γ) (net : List Int) (row : List Int) (most : Int) (leaf0_ : List Int → α) (leaf1_ : (List Int) × (List Int) → α) (fail_ : α) : g (I.cliquesFrom_r_tree net row most leaf0_ leaf1_ fail_) = I.cliquesFrom_r_tree net row most (fun d => g (leaf0_ d)) (fun d => g (leaf1_ d)) (g fail_) := by
  unfold I.cliquesFrom_r_tree; simp only [apply_cnd g, apply_optC g, apply_sumC g]
noncomputable def I.cliquesFrom_r_t (net : List Int) (row : List Int) (most : Int) : Option ((List Int) ⊕ ((List Int) × (List Int))) := I.cliquesFrom_r_tree net row most (fun d => some ((Sum.inl d))) (fun d => some ((Sum.inr d))) none
theorem I.cliquesFrom_r_den (net : List Int) (row : List Int) (most : Int) (κ : V → List E → R) : I.cliquesFrom_r_F [.ro false (.ints .i64 net), .own 0, .int .i64 most] [.row (.ints .i64 row)] κ = optC (I.cliquesFrom_r_t net row most) (fun (r : (List Int) ⊕ ((List Int) × (List Int))) => (sumC r (fun (r : List Int) => κ (.own 0) [.row (.ints .i64 r)]) (fun (r : (List Int) × (List Int)) => κ (.own 1) [.row (.ints .i64 r.1), .row (.ints .i64 r.2)]))) none := by
  have hu : I.cliquesFrom_r_F [.ro false (.ints .i64 net), .own 0, .int .i64 most] [.row (.ints .i64 row)] κ = I.cliquesFrom_r_tree net row most (fun d => κ (.own 0) [.row (.ints .i64 d)]) (fun d => κ (.own 1) [.row (.ints .i64 d.1), .row (.ints .i64 d.2)]) none := by
    refine Eq.trans (show I.cliquesFrom_r_F [.ro false (.ints .i64 net), .own 0, .int .i64 most] [.row (.ints .i64 row)] κ = (bif (↑row.length : Int) == (↑net.length : Int) then (κ (.own 0) [.row (.ints .i64 row)]) else (I.cliquesFrom_r_L5 FUEL { n := 47, t := [(0, (.ro false (.ints .i64 net))), (1, (.own 0)), (2, (.int .i64 most)), (7, (.int .i64 ((↑row.length : Int)))), (8, (.int .i64 0))], h := [.row (.ints .i64 row)] } (I.cliquesFrom_r_k5 κ))) by kernel_rfl) ?_
    refine cnd_congr ?_ ?_
    · kernel_rfl
    · refine (I.cliquesFrom_r_L5_run net most ((↑row.length : Int)) FUEL (0, row) (I.cliquesFrom_r_k5 κ)).trans (optC_congr (fun qy_6 => ?_))
      rcases qy_6 with qy_6 | qy_6
      · kernel_rfl
      · kernel_rfl
  rw [hu]
  exact (I.cliquesFrom_r_tree_nat (fun o => optC o (fun (r : (List Int) ⊕ ((List Int) × (List Int))) => (sumC r (fun (r : List Int) => κ (.own 0) [.row (.ints .i64 r)]) (fun (r : (List Int) × (List Int)) => κ (.own 1) [.row (.ints .i64 r.1), .row (.ints .i64 r.2)]))) none) net row most (fun d => some ((Sum.inl d))) (fun d => some ((Sum.inr d))) none).symm
noncomputable def I.cliquesFrom_r_s : D.Spec where
  keep := false
  pure := false
  ds := [.int .i64, .pointer 0, .invalid]
  sp := fun args h κ => match args, h with
    | [.ro false (.ints .i64 net), .own 0, .int .i64 most], [.row (.ints .i64 row)] => optC (I.cliquesFrom_r_t net row most) (fun (r : (List Int) ⊕ ((List Int) × (List Int))) => (sumC r (fun (r : List Int) => κ (.own 0) [.row (.ints .i64 r)]) (fun (r : (List Int) × (List Int)) => κ (.own 1) [.row (.ints .i64 r.1), .row (.ints .i64 r.2)]))) none
    | _, _ => none
theorem I.cliquesFrom_r_ok (hrec_ : SpecOk Try.prog 79 I.cliquesFrom_r0_s) : SpecOk Try.prog 79 I.cliquesFrom_r_s := by
  refine SpecOk.of TDok mixed (T := I.cliquesFrom_r_T) ?_ (ann := I.cliquesFrom_r_ann) Try.func79 rfl (by decide +kernel) ?_ ?_ ?_
  · intro p hp
    simp only [I.cliquesFrom_r_T, List.mem_cons, List.not_mem_nil, or_false] at hp
    rcases hp with rfl | rfl | rfl | rfl
    · exact I.numbersOf_ok
    · exact I.placesWith_ok
    · exact I.rowWith_ok
    · exact hrec_
  · intro args h κ r hh
    simp only [I.cliquesFrom_r_s] at hh
    split at hh
    · exact (I.cliquesFrom_r_den _ _ _ κ).trans hh
    · cases hh
  · intro args h κ r hh
    simp only [I.cliquesFrom_r_s] at hh ⊢
    split at hh
    · exact optC_law2 (F := fun (r : (List Int) ⊕ ((List Int) × (List Int))) κ => (sumC r (fun (r : List Int) => κ (.own 0) [.row (.ints .i64 r)]) (fun (r : (List Int) × (List Int)) => κ (.own 1) [.row (.ints .i64 r.1), .row (.ints .i64 r.2)]))) (fun b κ r hb => by rcases b with b | b <;> exact ⟨_, _, hb, fun _ => rfl⟩) hh
    · cases hh
  · intro hh; cases hh
end
noncomputable def I.cliquesFrom_td : Nat → (List Int) → (List Int) → Int → Option ((List Int) ⊕ ((List Int) × (List Int)))
  | 0 => fun _ _ _ => none
  | d + 1 => @I.cliquesFrom_r_t ⟨I.cliquesFrom_td d⟩
noncomputable def I.cliquesFrom_t (net : List Int) (row : List Int) (most : Int) : Option ((List Int) ⊕ ((List Int) × (List Int))) := I.cliquesFrom_td FUEL net row most
noncomputable def I.cliquesFrom_s : D.Spec where
  keep := false
  pure := false
  ds := [.int .i64, .pointer 0, .invalid]
  sp := fun args h κ => match args, h with
    | [.ro false (.ints .i64 net), .own 0, .int .i64 most], [.row (.ints .i64 row)] => optC (I.cliquesFrom_t net row most) (fun (r : (List Int) ⊕ ((List Int) × (List Int))) => sumC r (fun (r : List Int) => κ (.own 0) [.row (.ints .i64 r)]) (fun (r : (List Int) × (List Int)) => κ (.own 1) [.row (.ints .i64 r.1), .row (.ints .i64 r.2)])) none
    | _, _ => none
theorem I.cliquesFrom_okd : ∀ d : Nat, SpecOk Try.prog 79 (@I.cliquesFrom_r0_s ⟨I.cliquesFrom_td d⟩)
  | 0 => SpecOk.zero Try.func79 rfl (by decide +kernel) (fun args h κ => by
      simp only [I.cliquesFrom_r0_s]
      split
      · rfl
      · rfl)
  | d + 1 => @I.cliquesFrom_r_ok ⟨I.cliquesFrom_td d⟩ (I.cliquesFrom_okd d)
theorem I.cliquesFrom_ok : SpecOk Try.prog 79 I.cliquesFrom_s := I.cliquesFrom_okd FUEL

-- loop.example/guardsonnets/impl.cliqueRowIn
noncomputable def I.cliqueRowIn_T : List (Nat × D.Spec) := [(79, I.cliquesFrom_s)]
def I.cliqueRowIn_ann : Nat → List Nat × List Nat
  | 2 => ([0, 3], [0, 2])
  | _ => ([], [])
noncomputable def I.cliqueRowIn_F (args : List V) (h : List E) (κ : V → List E → R) : R := funC TD (tableK I.cliqueRowIn_T) I.cliqueRowIn_ann (drawOk TD (tableP I.cliqueRowIn_T)) FUEL Try.f68 args h κ
noncomputable def I.cliqueRowIn_L2 (n : Nat) (σ : St) (k : X → St → R) : R := iterC 0 (fun σ k => denC TD (tableK I.cliqueRowIn_T) I.cliqueRowIn_ann (drawOk TD (tableP I.cliqueRowIn_T)) 0 FUEL ((findLoop 2 (Try.f68.body.getD .skip)).getD .skip) σ k) [0, 3] [0, 2] n σ k
noncomputable def I.cliqueRowIn_k2 (κ : V → List E → R) : X → St → R := (afterC TD (tableK I.cliqueRowIn_T) I.cliqueRowIn_ann (drawOk TD (tableP I.cliqueRowIn_T)) 0 FUEL 2 (Try.f68.body.getD .skip) (finC TD 0 Try.f68 κ)).getD (fun _ _ => none)
noncomputable def I.cliqueRowIn_step2 {α : Type} (x0 : List Int) (x3 : Int) (next_ : Int → α) (out0_ : List Int → α) (out1_ : Unit → α) (fail_ : α) : α :=
  (bif decide (x3 < (↑x0.length : Int)) then (optC (I.cliquesFrom_t x0 [] x3) (fun c_1 => (sumC c_1 (fun c_2 => (bif decide ((↑c_2.length : Int) > 0) then (out0_ c_2) else (next_ (IntKind.i64.wrap (x3 + 1))))) (fun c_2 => (bif decide ((↑c_2.snd.length : Int) > 0) then (out0_ c_2.snd) else (next_ (IntKind.i64.wrap (x3 + 1))))))) fail_) else (out1_ ()))
theorem I.cliqueRowIn_step2_nat {α γ : Type} (g : α → γ) (x0 : List Int) (x3 : Int) (next_ : Int → α) (out0_ : List Int → α) (out1_ : Unit → α) (fail_ : α) : g (I.cliqueRowIn_step2 x0 x3 next_ out0_ out1_ fail_) = I.cliqueRowIn_step2 x0 x3 (fun s => g (next_ s)) (fun d => g (out0_ d)) (fun d => g (out1_ d)) (g fail_) := by
  unfold I.cliqueRowIn_step2; simp only [apply_cnd g, apply_optC g, apply_sumC g]
noncomputable def I.cliqueRowIn_run2 (x0 : List Int) : Nat → Int → Option ((List Int) ⊕ (Unit))
  | 0, _ => none
  | n + 1, s_ => I.cliqueRowIn_step2 x0 s_ (I.cliqueRowIn_run2 x0 n) (fun d => some ((Sum.inl d))) (fun d => some ((Sum.inr d))) none
theorem I.cliqueRowIn_L2_run (x0 : List Int) (n : Nat) (s_ : Int) (k : X → St → R) : I.cliqueRowIn_L2 n { n := 24, t := [(0, (.ro false (.ints .i64 x0))), (3, (.int .i64 s_))], h := [] } k = optC (I.cliqueRowIn_run2 x0 n s_) (fun (r : (List Int) ⊕ (Unit)) => (sumC r (fun (r : List Int) => k (.ret) { n := 24, t := [(0, (.ro false (.ints .i64 x0))), (2, (.own 0))], h := [.row (.ints .i64 r)] }) (fun (r : Unit) => k (.exit 0) { n := 24, t := [(0, (.ro false (.ints .i64 x0))), (2, .junk)], h := [] }))) none := by
  induction n generalizing s_ with
  | zero => rfl
  | succ n ih =>
    have hu : I.cliqueRowIn_L2 (n + 1) { n := 24, t := [(0, (.ro false (.ints .i64 x0))), (3, (.int .i64 s_))], h := [] } k = I.cliqueRowIn_step2 x0 s_ (fun s_ => I.cliqueRowIn_L2 n { n := 24, t := [(0, (.ro false (.ints .i64 x0))), (3, (.int .i64 s_))], h := [] } k) (fun d => k (.ret) { n := 24, t := [(0, (.ro false (.ints .i64 x0))), (2, (.own 0))], h := [.row (.ints .i64 d)] }) (fun d => k (.exit 0) { n := 24, t := [(0, (.ro false (.ints .i64 x0))), (2, .junk)], h := [] }) none := by
      kernel_rfl
    have hs : (fun s_ : Int => I.cliqueRowIn_L2 n { n := 24, t := [(0, (.ro false (.ints .i64 x0))), (3, (.int .i64 s_))], h := [] } k) = fun s_ => optC (I.cliqueRowIn_run2 x0 n s_) (fun (r : (List Int) ⊕ (Unit)) => (sumC r (fun (r : List Int) => k (.ret) { n := 24, t := [(0, (.ro false (.ints .i64 x0))), (2, (.own 0))], h := [.row (.ints .i64 r)] }) (fun (r : Unit) => k (.exit 0) { n := 24, t := [(0, (.ro false (.ints .i64 x0))), (2, .junk)], h := [] }))) none := funext ih
    rw [hu, hs]
    exact (I.cliqueRowIn_step2_nat (fun o => optC o (fun (r : (List Int) ⊕ (Unit)) => (sumC r (fun (r : List Int) => k (.ret) { n := 24, t := [(0, (.ro false (.ints .i64 x0))), (2, (.own 0))], h := [.row (.ints .i64 r)] }) (fun (r : Unit) => k (.exit 0) { n := 24, t := [(0, (.ro false (.ints .i64 x0))), (2, .junk)], h := [] }))) none) x0 s_ (I.cliqueRowIn_run2 x0 n) (fun d => some ((Sum.inl d))) (fun d => some ((Sum.inr d))) none).symm
noncomputable def I.cliqueRowIn_tree {α : Type} (net : List Int) (leaf0_ : List Int → α) (fail_ : α) : α :=
  (optC (I.cliqueRowIn_run2 net FUEL 1) (fun qy_3 => (sumC qy_3 (fun (qy_3 : List Int) => (leaf0_ qy_3)) (fun (qy_3 : Unit) => (optC (I.cliquesFrom_t net [] (↑net.length : Int)) (fun c_4 => (sumC c_4 (fun c_5 => (leaf0_ c_5)) (fun c_5 => (leaf0_ c_5.snd)))) fail_)))) fail_)
theorem I.cliqueRowIn_tree_nat {α γ : Type} (g : α → γ) (net : List Int) (leaf0_ : List Int → α) (fail_ : α) : g (I.cliqueRowIn_tree net leaf0_ fail_) = I.cliqueRowIn_tree net (fun d => g (leaf0_ d)) (g fail_) := by
  unfold I.cliqueRowIn_tree; simp only [apply_cnd g, apply_optC g, apply_sumC g]
noncomputable def I.cliqueRowIn_t (net : List Int) : Option (List Int) := I.cliqueRowIn_tree net (fun d => some d) none
theorem I.cliqueRowIn_den (net : List Int) (κ : V → List E → R) : I.cliqueRowIn_F [.ro false (.ints .i64 net)] [] κ = optC (I.cliqueRowIn_t net) (fun (r : List Int) => κ (.own 0) [.row (.ints .i64 r)]) none := by
  have hu : I.cliqueRowIn_F [.ro false (.ints .i64 net)] [] κ = I.cliqueRowIn_tree net (fun d => κ (.own 0) [.row (.ints .i64 d)]) none := by
    refine Eq.trans (show I.cliqueRowIn_F [.ro false (.ints .i64 net)] [] κ = (I.cliqueRowIn_L2 FUEL { n := 24, t := [(0, (.ro false (.ints .i64 net))), (3, (.int .i64 1))], h := [] } (I.cliqueRowIn_k2 κ)) by kernel_rfl) ?_
    refine (I.cliqueRowIn_L2_run net FUEL 1 (I.cliqueRowIn_k2 κ)).trans (optC_congr (fun qy_3 => ?_))
    rcases qy_3 with qy_3 | qy_3
    · kernel_rfl
    · kernel_rfl
  rw [hu]
  exact (I.cliqueRowIn_tree_nat (fun o => optC o (fun (r : List Int) => κ (.own 0) [.row (.ints .i64 r)]) none) net (fun d => some d) none).symm
noncomputable def I.cliqueRowIn_s : D.Spec where
  keep := false
  pure := false
  ds := [.int .i64]
  sp := fun args h κ => match args, h with
    | [.ro false (.ints .i64 net)], [] => optC (I.cliqueRowIn_t net) (fun (r : List Int) => κ (.own 0) [.row (.ints .i64 r)]) none
    | _, _ => none
theorem I.cliqueRowIn_ok : SpecOk Try.prog 68 I.cliqueRowIn_s := by
  refine SpecOk.of TDok mixed (T := I.cliqueRowIn_T) ?_ (ann := I.cliqueRowIn_ann) Try.func68 rfl (by decide +kernel) ?_ ?_ ?_
  · intro p hp
    simp only [I.cliqueRowIn_T, List.mem_cons, List.not_mem_nil, or_false] at hp
    rcases hp with rfl
    · exact I.cliquesFrom_ok
  · intro args h κ r hh
    simp only [I.cliqueRowIn_s] at hh
    split at hh
    · exact (I.cliqueRowIn_den _ κ).trans hh
    · cases hh
  · intro args h κ r hh
    simp only [I.cliqueRowIn_s] at hh ⊢
    split at hh
    · exact optC_law2 (F := fun (r : List Int) κ => κ (.own 0) [.row (.ints .i64 r)]) (fun b κ r hb => ⟨_, _, hb, fun _ => rfl⟩) hh
    · cases hh
  · intro hh; cases hh

-- loop.example/guardsonnets/impl.CliqueRow
noncomputable def I.CliqueRow_T : List (Nat × D.Spec) := [(18, I.NetOk_s), (68, I.cliqueRowIn_s)]
def I.CliqueRow_ann : Nat → List Nat × List Nat
  | _ => ([], [])
noncomputable def I.CliqueRow_F (args : List V) (h : List E) (κ : V → List E → R) : R := funC TD (tableK I.CliqueRow_T) I.CliqueRow_ann (drawOk TD (tableP I.CliqueRow_T)) FUEL Try.f35 args h κ
noncomputable def I.CliqueRow_tree {α : Type} (net : List Int) (leaf0_ : List Int → α) (fail_ : α) : α :=
  (optC (I.NetOk_t net) (fun c_1 => (bif !c_1 then (leaf0_ ([])) else (optC (I.cliqueRowIn_t net) (fun c_2 => (leaf0_ c_2)) fail_))) fail_)
theorem I.CliqueRow_tree_nat {α γ : Type} (g : α → γ) (net : List Int) (leaf0_ : List Int → α) (fail_ : α) : g (I.CliqueRow_tree net leaf0_ fail_) = I.CliqueRow_tree net (fun d => g (leaf0_ d)) (g fail_) := by
  unfold I.CliqueRow_tree; simp only [apply_cnd g, apply_optC g, apply_sumC g]
noncomputable def I.CliqueRow_t (net : List Int) : Option (List Int) := I.CliqueRow_tree net (fun d => some d) none
theorem I.CliqueRow_den (net : List Int) (κ : V → List E → R) : I.CliqueRow_F [.ro false (.ints .i64 net)] [] κ = optC (I.CliqueRow_t net) (fun (r : List Int) => κ (.own 0) [.row (.ints .i64 r)]) none := by
  have hu : I.CliqueRow_F [.ro false (.ints .i64 net)] [] κ = I.CliqueRow_tree net (fun d => κ (.own 0) [.row (.ints .i64 d)]) none := by
    kernel_rfl
  rw [hu]
  exact (I.CliqueRow_tree_nat (fun o => optC o (fun (r : List Int) => κ (.own 0) [.row (.ints .i64 r)]) none) net (fun d => some d) none).symm
noncomputable def I.CliqueRow_s : D.Spec where
  keep := false
  pure := false
  ds := [.int .i64]
  sp := fun args h κ => match args, h with
    | [.ro false (.ints .i64 net)], [] => optC (I.CliqueRow_t net) (fun (r : List Int) => κ (.own 0) [.row (.ints .i64 r)]) none
    | _, _ => none
theorem I.CliqueRow_ok : SpecOk Try.prog 35 I.CliqueRow_s := by
  refine SpecOk.of TDok mixed (T := I.CliqueRow_T) ?_ (ann := I.CliqueRow_ann) Try.func35 rfl (by decide +kernel) ?_ ?_ ?_
  · intro p hp
    simp only [I.CliqueRow_T, List.mem_cons, List.not_mem_nil, or_false] at hp
    rcases hp with rfl | rfl
    · exact I.NetOk_ok
    · exact I.cliqueRowIn_ok
  · intro args h κ r hh
    simp only [I.CliqueRow_s] at hh
    split at hh
    · exact (I.CliqueRow_den _ κ).trans hh
    · cases hh
  · intro args h κ r hh
    simp only [I.CliqueRow_s] at hh ⊢
    split at hh
    · exact optC_law2 (F := fun (r : List Int) κ => κ (.own 0) [.row (.ints .i64 r)]) (fun b κ r hb => ⟨_, _, hb, fun _ => rfl⟩) hh
    · cases hh
  · intro hh; cases hh

-- loop.example/guardsonnets/spec.l13Grow
class S.l13Grow_r_R where
  r : (List Int) → (List Int) → Int → Option ((List Int) ⊕ ((List Int) × (List Int)))
section
variable [c_ : S.l13Grow_r_R]
noncomputable def S.l13Grow_r0_t (net : List Int) (row : List Int) (most : Int) : Option ((List Int) ⊕ ((List Int) × (List Int))) := S.l13Grow_r_R.r net row most
noncomputable def S.l13Grow_r0_s : D.Spec where
  keep := false
  pure := false
  ds := [.int .i64, .pointer 0, .invalid]
  sp := fun args h κ => match args, h with
    | [.ro false (.ints .i64 net), .own 0, .int .i64 most], [.row (.ints .i64 row)] => optC (S.l13Grow_r0_t net row most) (fun (r : (List Int) ⊕ ((List Int) × (List Int))) => sumC r (fun (r : List Int) => κ (.own 0) [.row (.ints .i64 r)]) (fun (r : (List Int) × (List Int)) => κ (.own 1) [.row (.ints .i64 r.1), .row (.ints .i64 r.2)])) none
    | _, _ => none
end
section
variable [c_ : S.l13Grow_r_R]
noncomputable def S.l13Grow_r_T : List (Nat × D.Spec) := [(64, S.l13Set_s), (51, S.l13Clique_s), (69, S.l13Grow_r0_s)]
def S.l13Grow_r_ann : Nat → List Nat × List Nat
  | 9 => ([0, 1, 2, 7, 9], [6])
  | 5 => ([0, 1, 2, 7, 8], [0, 1, 2, 7])
  | _ => ([], [])
noncomputable def S.l13Grow_r_F (args : List V) (h : List E) (κ : V → List E → R) : R := funC TD (tableK S.l13Grow_r_T) S.l13Grow_r_ann (drawOk TD (tableP S.l13Grow_r_T)) FUEL Try.f69 args h κ
noncomputable def S.l13Grow_r_L9 (n : Nat) (σ : St) (k : X → St → R) : R := iterC 1 (fun σ k => denC TD (tableK S.l13Grow_r_T) S.l13Grow_r_ann (drawOk TD (tableP S.l13Grow_r_T)) 1 FUEL ((findLoop 9 (Try.f69.body.getD .skip)).getD .skip) σ k) [0, 1, 2, 7, 9] [6] n σ k
noncomputable def S.l13Grow_r_L5 (n : Nat) (σ : St) (k : X → St → R) : R := iterC 1 (fun σ k => denC TD (tableK S.l13Grow_r_T) S.l13Grow_r_ann (drawOk TD (tableP S.l13Grow_r_T)) 1 FUEL ((findLoop 5 (Try.f69.body.getD .skip)).getD .skip) σ k) [0, 1, 2, 7, 8] [0, 1, 2, 7] n σ k
end
section
variable [c_ : S.l13Grow_r_R]
noncomputable def S.l13Grow_r_k5 (κ : V → List E → R) : X → St → R := (afterC TD (tableK S.l13Grow_r_T) S.l13Grow_r_ann (drawOk TD (tableP S.l13Grow_r_T)) 1 FUEL 5 (Try.f69.body.getD .skip) (finC TD 1 Try.f69 κ)).getD (fun _ _ => none)
noncomputable def S.l13Grow_r_k9 (κ : V → List E → R) : X → St → R := (afterC TD (tableK S.l13Grow_r_T) S.l13Grow_r_ann (drawOk TD (tableP S.l13Grow_r_T)) 1 FUEL 9 (Try.f69.body.getD .skip) (finC TD 1 Try.f69 κ)).getD (fun _ _ => none)
noncomputable def S.l13Grow_r_step5 {α : Type} (x0 : List Int) (x2 : Int) (x7 : Int) (x8 : Int) (r0 : List Int) (next_ : Int × Int × (List Int) → α) (out0_ : Int × (List Int) → α) (fail_ : α) : α :=
  (bif decide (x8 < (↑r0.length : Int)) then (bif decide (0 ≤ x8) && decide (x8 < (↑r0.length : Int)) then (bif decide (x8.toNat < r0.length) then (next_ (if IntKind.i64.wrap (eli r0 x8.toNat + 1) > x7 then IntKind.i64.wrap (eli r0 x8.toNat + 1) else x7, IntKind.i64.wrap (x8 + 1), r0)) else fail_) else fail_) else (out0_ (x7, r0)))
theorem S.l13Grow_r_step5_nat {α γ : Type} (g : α → γ) (x0 : List Int) (x2 : Int) (x7 : Int) (x8 : Int) (r0 : List Int) (next_ : Int × Int × (List Int) → α) (out0_ : Int × (List Int) → α) (fail_ : α) : g (S.l13Grow_r_step5 x0 x2 x7 x8 r0 next_ out0_ fail_) = S.l13Grow_r_step5 x0 x2 x7 x8 r0 (fun s => g (next_ s)) (fun d => g (out0_ d)) (g fail_) := by
  unfold S.l13Grow_r_step5; simp only [apply_cnd g, apply_optC g, apply_sumC g]
noncomputable def S.l13Grow_r_run5 (x0 : List Int) (x2 : Int) : Nat → Int × Int × (List Int) → Option (Int × (List Int))
  | 0, _ => none
  | n + 1, s_ => S.l13Grow_r_step5 x0 x2 s_.1 s_.2.1 s_.2.2 (S.l13Grow_r_run5 x0 x2 n) (fun d => some d) none
theorem S.l13Grow_r_L5_run (x0 : List Int) (x2 : Int) (n : Nat) (s_ : Int × Int × (List Int)) (k : X → St → R) : S.l13Grow_r_L5 n { n := 59, t := [(0, (.ro false (.ints .i64 x0))), (1, (.own 0)), (2, (.int .i64 x2)), (7, (.int .i64 s_.1)), (8, (.int .i64 s_.2.1))], h := [.row (.ints .i64 s_.2.2)] } k = optC (S.l13Grow_r_run5 x0 x2 n s_) (fun (r : Int × (List Int)) => k (.exit 0) { n := 59, t := [(0, (.ro false (.ints .i64 x0))), (1, (.own 0)), (2, (.int .i64 x2)), (7, (.int .i64 r.1))], h := [.row (.ints .i64 r.2)] }) none := by
  induction n generalizing s_ with
  | zero => rfl
  | succ n ih =>
    have hu : S.l13Grow_r_L5 (n + 1) { n := 59, t := [(0, (.ro false (.ints .i64 x0))), (1, (.own 0)), (2, (.int .i64 x2)), (7, (.int .i64 s_.1)), (8, (.int .i64 s_.2.1))], h := [.row (.ints .i64 s_.2.2)] } k = S.l13Grow_r_step5 x0 x2 s_.1 s_.2.1 s_.2.2 (fun s_ => S.l13Grow_r_L5 n { n := 59, t := [(0, (.ro false (.ints .i64 x0))), (1, (.own 0)), (2, (.int .i64 x2)), (7, (.int .i64 s_.1)), (8, (.int .i64 s_.2.1))], h := [.row (.ints .i64 s_.2.2)] } k) (fun d => k (.exit 0) { n := 59, t := [(0, (.ro false (.ints .i64 x0))), (1, (.own 0)), (2, (.int .i64 x2)), (7, (.int .i64 d.1))], h := [.row (.ints .i64 d.2)] }) none := by
      kernel_rfl
    have hs : (fun s_ : Int × Int × (List Int) => S.l13Grow_r_L5 n { n := 59, t := [(0, (.ro false (.ints .i64 x0))), (1, (.own 0)), (2, (.int .i64 x2)), (7, (.int .i64 s_.1)), (8, (.int .i64 s_.2.1))], h := [.row (.ints .i64 s_.2.2)] } k) = fun s_ => optC (S.l13Grow_r_run5 x0 x2 n s_) (fun (r : Int × (List Int)) => k (.exit 0) { n := 59, t := [(0, (.ro false (.ints .i64 x0))), (1, (.own 0)), (2, (.int .i64 x2)), (7, (.int .i64 r.1))], h := [.row (.ints .i64 r.2)] }) none := funext ih
    rw [hu, hs]
    exact (S.l13Grow_r_step5_nat (fun o => optC o (fun (r : Int × (List Int)) => k (.exit 0) { n := 59, t := [(0, (.ro false (.ints .i64 x0))), (1, (.own 0)), (2, (.int .i64 x2)), (7, (.int .i64 r.1))], h := [.row (.ints .i64 r.2)] }) none) x0 x2 s_.1 s_.2.1 s_.2.2 (S.l13Grow_r_run5 x0 x2 n) (fun d => some d) none).symm
noncomputable def S.l13Grow_r_step9 {α : Type} (x0 : List Int) (x2 : Int) (x7 : Int) (x9 : Int) (r0 : List Int) (next_ : Int × (List Int) → α) (out0_ : (List Int) × (List Int) → α) (out1_ : List Int → α) (fail_ : α) : α :=
  (bif decide (x9 < if x2 < IntKind.i64.wrap (x7 + 1) then x2 else IntKind.i64.wrap (x7 + 1)) then (bif small ([] ++ r0).length then (bif small ([] ++ r0 ++ [x9]).length then (optC (S.l13Set_t ([] ++ r0 ++ [x9]) x9) (fun c_2 => (optC (S.l13Clique_t x0 c_2) (fun c_3 => (bif c_3 then (optC (S.l13Grow_r0_t x0 ([] ++ r0 ++ [x9]) x2) (fun c_4 => (sumC c_4 (fun c_5 => (bif decide ((↑c_5.length : Int) > 0) then (out0_ (r0, c_5)) else (next_ (IntKind.i64.wrap (x9 + 1), r0)))) (fun c_5 => (bif decide ((↑c_5.snd.length : Int) > 0) then (out0_ (r0, c_5.snd)) else (next_ (IntKind.i64.wrap (x9 + 1), r0)))))) fail_) else (next_ (IntKind.i64.wrap (x9 + 1), r0)))) fail_)) fail_) else fail_) else fail_) else (out1_ r0))
theorem S.l13Grow_r_step9_nat {α γ : Type} (g : α → γ) (x0 : List Int) (x2 : Int) (x7 : Int) (x9 : Int) (r0 : List Int) (next_ : Int × (List Int) → α) (out0_ : (List Int) × (List Int) → α) (out1_ : List Int → α) (fail_ : α) : g (S.l13Grow_r_step9 x0 x2 x7 x9 r0 next_ out0_ out1_ fail_) = S.l13Grow_r_step9 x0 x2 x7 x9 r0 (fun s => g (next_ s)) (fun d => g (out0_ d)) (fun d => g (out1_ d)) (g fail_) := by
  unfold S.l13Grow_r_step9; simp only [apply_cnd g, apply_optC g, apply_sumC g]
noncomputable def S.l13Grow_r_run9 (x0 : List Int) (x2 : Int) (x7 : Int) : Nat → Int × (List Int) → Option (((List Int) × (List Int)) ⊕ (List Int))
  | 0, _ => none
  | n + 1, s_ => S.l13Grow_r_step9 x0 x2 x7 s_.1 s_.2 (S.l13Grow_r_run9 x0 x2 x7 n) (fun d => some ((Sum.inl d))) (fun d => some ((Sum.inr d))) none
theorem S.l13Grow_r_L9_run (x0 : List Int) (x2 : Int) (x7 : Int) (n : Nat) (s_ : Int × (List Int)) (k : X → St → R) : S.l13Grow_r_L9 n { n := 59, t := [(0, (.ro false (.ints .i64 x0))), (1, (.own 0)), (2, (.int .i64 x2)), (7, (.int .i64 x7)), (9, (.int .i64 s_.1))], h := [.row (.ints .i64 s_.2)] } k = optC (S.l13Grow_r_run9 x0 x2 x7 n s_) (fun (r : ((List Int) × (List Int)) ⊕ (List Int)) => (sumC r (fun (r : (List Int) × (List Int)) => k (.ret) { n := 59, t := [(6, (.own 1))], h := [.row (.ints .i64 r.1), .row (.ints .i64 r.2)] }) (fun (r : List Int) => k (.exit 2) { n := 59, t := [(6, .junk)], h := [.row (.ints .i64 r)] }))) none := by
  induction n generalizing s_ with
  | zero => rfl
  | succ n ih =>
    have hu : S.l13Grow_r_L9 (n + 1) { n := 59, t := [(0, (.ro false (.ints .i64 x0))), (1, (.own 0)), (2, (.int .i64 x2)), (7, (.int .i64 x7)), (9, (.int .i64 s_.1))], h := [.row (.ints .i64 s_.2)] } k = S.l13Grow_r_step9 x0 x2 x7 s_.1 s_.2 (fun s_ => S.l13Grow_r_L9 n { n := 59, t := [(0, (.ro false (.ints .i64 x0))), (1, (.own 0)), (2, (.int .i64 x2)), (7, (.int .i64 x7)), (9, (.int .i64 s_.1))], h := [.row (.ints .i64 s_.2)] } k) (fun d => k (.ret) { n := 59, t := [(6, (.own 1))], h := [.row (.ints .i64 d.1), .row (.ints .i64 d.2)] }) (fun d => k (.exit 2) { n := 59, t := [(6, .junk)], h := [.row (.ints .i64 d)] }) none := by
      kernel_rfl
    have hs : (fun s_ : Int × (List Int) => S.l13Grow_r_L9 n { n := 59, t := [(0, (.ro false (.ints .i64 x0))), (1, (.own 0)), (2, (.int .i64 x2)), (7, (.int .i64 x7)), (9, (.int .i64 s_.1))], h := [.row (.ints .i64 s_.2)] } k) = fun s_ => optC (S.l13Grow_r_run9 x0 x2 x7 n s_) (fun (r : ((List Int) × (List Int)) ⊕ (List Int)) => (sumC r (fun (r : (List Int) × (List Int)) => k (.ret) { n := 59, t := [(6, (.own 1))], h := [.row (.ints .i64 r.1), .row (.ints .i64 r.2)] }) (fun (r : List Int) => k (.exit 2) { n := 59, t := [(6, .junk)], h := [.row (.ints .i64 r)] }))) none := funext ih
    rw [hu, hs]
    exact (S.l13Grow_r_step9_nat (fun o => optC o (fun (r : ((List Int) × (List Int)) ⊕ (List Int)) => (sumC r (fun (r : (List Int) × (List Int)) => k (.ret) { n := 59, t := [(6, (.own 1))], h := [.row (.ints .i64 r.1), .row (.ints .i64 r.2)] }) (fun (r : List Int) => k (.exit 2) { n := 59, t := [(6, .junk)], h := [.row (.ints .i64 r)] }))) none) x0 x2 x7 s_.1 s_.2 (S.l13Grow_r_run9 x0 x2 x7 n) (fun d => some ((Sum.inl d))) (fun d => some ((Sum.inr d))) none).symm
noncomputable def S.l13Grow_r_tree {α : Type} (net : List Int) (row : List Int) (most : Int) (leaf0_ : List Int → α) (leaf1_ : (List Int) × (List Int) → α) (fail_ : α) : α :=
  (bif (↑row.length : Int) == (↑net.length : Int) then (leaf0_ row) else (optC (S.l13Grow_r_run5 net most FUEL (0, 0, row)) (fun qy_1 => (optC (S.l13Grow_r_run9 net most qy_1.1 FUEL (0, qy_1.2)) (fun qy_6 => (sumC qy_6 (fun (qy_6 : (List Int) × (List Int)) => (leaf1_ (qy_6.1, qy_6.2))) (fun (qy_6 : List Int) => (leaf1_ (qy_6, []))))) fail_)) fail_))
theorem S.l13Grow_r_tree_nat {α γ : Type} (g : α → γ) (net : List Int) (row : List Int) (most : Int) (leaf0_ : List Int → α) (leaf1_ : (List Int) × (List Int) → α) (fail_ : α) : g (S.l13Grow_r_tree net row most leaf0_ leaf1_ fail_) = S.l13Grow_r_tree net row most (fun d => g (leaf0_ d)) (fun d => g (leaf1_ d)) (g fail_) := by
  unfold S.l13Grow_r_tree; simp only [apply_cnd g, apply_optC g, apply_sumC g]
noncomputable def S.l13Grow_r_t (net : List Int) (row : List Int) (most : Int) : Option ((List Int) ⊕ ((List Int) × (List Int))) := S.l13Grow_r_tree net row most (fun d => some ((Sum.inl d))) (fun d => some ((Sum.inr d))) none
theorem S.l13Grow_r_den (net : List Int) (row : List Int) (most : Int) (κ : V → List E → R) : S.l13Grow_r_F [.ro false (.ints .i64 net), .own 0, .int .i64 most] [.row (.ints .i64 row)] κ = optC (S.l13Grow_r_t net row most) (fun (r : (List Int) ⊕ ((List Int) × (List Int))) => (sumC r (fun (r : List Int) => κ (.own 0) [.row (.ints .i64 r)]) (fun (r : (List Int) × (List Int)) => κ (.own 1) [.row (.ints .i64 r.1), .row (.ints .i64 r.2)]))) none := by
  have hu : S.l13Grow_r_F [.ro false (.ints .i64 net), .own 0, .int .i64 most] [.row (.ints .i64 row)] κ = S.l13Grow_r_tree net row most (fun d => κ (.own 0) [.row (.ints .i64 d)]) (fun d => κ (.own 1) [.row (.ints .i64 d.1), .row (.ints .i64 d.2)]) none := by
    refine Eq.trans (show S.l13Grow_r_F [.ro false (.ints .i64 net), .own 0, .int .i64 most] [.row (.ints .i64 row)] κ = (bif (↑row.length : Int) == (↑net.length : Int) then (κ (.own 0) [.row (.ints .i64 row)]) else (S.l13Grow_r_L5 FUEL { n := 59, t := [(0, (.ro false (.ints .i64 net))), (1, (.own 0)), (2, (.int .i64 most)), (7, (.int .i64 0)), (8, (.int .i64 0))], h := [.row (.ints .i64 row)] } (S.l13Grow_r_k5 κ))) by kernel_rfl) ?_
    refine cnd_congr ?_ ?_
    · kernel_rfl
    · refine (S.l13Grow_r_L5_run net most FUEL (0, 0, row) (S.l13Grow_r_k5 κ)).trans (optC_congr (fun qy_1 => ?_))
      refine Eq.trans (show (S.l13Grow_r_k5 κ (.exit 0) { n := 59, t := [(0, (.ro false (.ints .i64 net))), (1, (.own 0)), (2, (.int .i64 most)), (7, (.int .i64 qy_1.1))], h := [.row (.ints .i64 qy_1.2)] }) = (S.l13Grow_r_L9 FUEL { n := 59, t := [(0, (.ro false (.ints .i64 net))), (1, (.own 0)), (2, (.int .i64 most)), (7, (.int .i64 qy_1.1)), (9, (.int .i64 0))], h := [.row (.ints .i64 qy_1.2)] } (S.l13Grow_r_k9 κ)) by kernel_rfl) ?_
      refine (S.l13Grow_r_L9_run net most qy_1.1 FUEL (0, qy_1.2) (S.l13Grow_r_k9 κ)).trans (optC_congr (fun qy_6 => ?_))
      rcases qy_6 with qy_6 | qy_6
      · kernel_rfl
      · kernel_rfl
  rw [hu]
  exact (S.l13Grow_r_tree_nat (fun o => optC o (fun (r : (List Int) ⊕ ((List Int) × (List Int))) => (sumC r (fun (r : List Int) => κ (.own 0) [.row (.ints .i64 r)]) (fun (r : (List Int) × (List Int)) => κ (.own 1) [.row (.ints .i64 r.1), .row (.ints .i64 r.2)]))) none) net row most (fun d => some ((Sum.inl d))) (fun d => some ((Sum.inr d))) none).symm
noncomputable def S.l13Grow_r_s : D.Spec where
  keep := false
  pure := false
  ds := [.int .i64, .pointer 0, .invalid]
  sp := fun args h κ => match args, h with
    | [.ro false (.ints .i64 net), .own 0, .int .i64 most], [.row (.ints .i64 row)] => optC (S.l13Grow_r_t net row most) (fun (r : (List Int) ⊕ ((List Int) × (List Int))) => (sumC r (fun (r : List Int) => κ (.own 0) [.row (.ints .i64 r)]) (fun (r : (List Int) × (List Int)) => κ (.own 1) [.row (.ints .i64 r.1), .row (.ints .i64 r.2)]))) none
    | _, _ => none
theorem S.l13Grow_r_ok (hrec_ : SpecOk Try.prog 69 S.l13Grow_r0_s) : SpecOk Try.prog 69 S.l13Grow_r_s := by
  refine SpecOk.of TDok mixed (T := S.l13Grow_r_T) ?_ (ann := S.l13Grow_r_ann) Try.func69 rfl (by decide +kernel) ?_ ?_ ?_
  · intro p hp
    simp only [S.l13Grow_r_T, List.mem_cons, List.not_mem_nil, or_false] at hp
    rcases hp with rfl | rfl | rfl
    · exact S.l13Set_ok
    · exact S.l13Clique_ok
    · exact hrec_
  · intro args h κ r hh
    simp only [S.l13Grow_r_s] at hh
    split at hh
    · exact (S.l13Grow_r_den _ _ _ κ).trans hh
    · cases hh
  · intro args h κ r hh
    simp only [S.l13Grow_r_s] at hh ⊢
    split at hh
    · exact optC_law2 (F := fun (r : (List Int) ⊕ ((List Int) × (List Int))) κ => (sumC r (fun (r : List Int) => κ (.own 0) [.row (.ints .i64 r)]) (fun (r : (List Int) × (List Int)) => κ (.own 1) [.row (.ints .i64 r.1), .row (.ints .i64 r.2)]))) (fun b κ r hb => by rcases b with b | b <;> exact ⟨_, _, hb, fun _ => rfl⟩) hh
    · cases hh
  · intro hh; cases hh
end
noncomputable def S.l13Grow_td : Nat → (List Int) → (List Int) → Int → Option ((List Int) ⊕ ((List Int) × (List Int)))
  | 0 => fun _ _ _ => none
  | d + 1 => @S.l13Grow_r_t ⟨S.l13Grow_td d⟩
noncomputable def S.l13Grow_t (net : List Int) (row : List Int) (most : Int) : Option ((List Int) ⊕ ((List Int) × (List Int))) := S.l13Grow_td FUEL net row most
noncomputable def S.l13Grow_s : D.Spec where
  keep := false
  pure := false
  ds := [.int .i64, .pointer 0, .invalid]
  sp := fun args h κ => match args, h with
    | [.ro false (.ints .i64 net), .own 0, .int .i64 most], [.row (.ints .i64 row)] => optC (S.l13Grow_t net row most) (fun (r : (List Int) ⊕ ((List Int) × (List Int))) => sumC r (fun (r : List Int) => κ (.own 0) [.row (.ints .i64 r)]) (fun (r : (List Int) × (List Int)) => κ (.own 1) [.row (.ints .i64 r.1), .row (.ints .i64 r.2)])) none
    | _, _ => none
theorem S.l13Grow_okd : ∀ d : Nat, SpecOk Try.prog 69 (@S.l13Grow_r0_s ⟨S.l13Grow_td d⟩)
  | 0 => SpecOk.zero Try.func69 rfl (by decide +kernel) (fun args h κ => by
      simp only [S.l13Grow_r0_s]
      split
      · rfl
      · rfl)
  | d + 1 => @S.l13Grow_r_ok ⟨S.l13Grow_td d⟩ (S.l13Grow_okd d)
theorem S.l13Grow_ok : SpecOk Try.prog 69 S.l13Grow_s := S.l13Grow_okd FUEL

-- loop.example/guardsonnets/spec.CliqueRow
noncomputable def S.CliqueRow_T : List (Nat × D.Spec) := [(49, S.NetOk_s), (69, S.l13Grow_s)]
def S.CliqueRow_ann : Nat → List Nat × List Nat
  | 3 => ([0, 3, 4], [3])
  | _ => ([], [])
noncomputable def S.CliqueRow_F (args : List V) (h : List E) (κ : V → List E → R) : R := funC TD (tableK S.CliqueRow_T) S.CliqueRow_ann (drawOk TD (tableP S.CliqueRow_T)) FUEL Try.f37 args h κ
noncomputable def S.CliqueRow_L3 (n : Nat) (σ : St) (k : X → St → R) : R := iterC 0 (fun σ k => denC TD (tableK S.CliqueRow_T) S.CliqueRow_ann (drawOk TD (tableP S.CliqueRow_T)) 0 FUEL ((findLoop 3 (Try.f37.body.getD .skip)).getD .skip) σ k) [0, 3, 4] [3] n σ k
noncomputable def S.CliqueRow_k3 (κ : V → List E → R) : X → St → R := (afterC TD (tableK S.CliqueRow_T) S.CliqueRow_ann (drawOk TD (tableP S.CliqueRow_T)) 0 FUEL 3 (Try.f37.body.getD .skip) (finC TD 0 Try.f37 κ)).getD (fun _ _ => none)
noncomputable def S.CliqueRow_step3 {α : Type} (x0 : List Int) (x4 : Int) (r0 : List Int) (next_ : Int × (List Int) → α) (out0_ : List Int → α) (fail_ : α) : α :=
  (optC (S.NetOk_t x0) (fun c_1 => (bif c_1 then (bif (↑r0.length : Int) == 0 then (optC (S.l13Grow_t x0 [] x4) (fun c_2 => (sumC c_2 (fun c_3 => (next_ (IntKind.i64.wrap (x4 + 1), c_3))) (fun c_3 => (next_ (IntKind.i64.wrap (x4 + 1), c_3.snd))))) fail_) else (out0_ r0)) else (out0_ r0))) fail_)
theorem S.CliqueRow_step3_nat {α γ : Type} (g : α → γ) (x0 : List Int) (x4 : Int) (r0 : List Int) (next_ : Int × (List Int) → α) (out0_ : List Int → α) (fail_ : α) : g (S.CliqueRow_step3 x0 x4 r0 next_ out0_ fail_) = S.CliqueRow_step3 x0 x4 r0 (fun s => g (next_ s)) (fun d => g (out0_ d)) (g fail_) := by
  unfold S.CliqueRow_step3; simp only [apply_cnd g, apply_optC g, apply_sumC g]
noncomputable def S.CliqueRow_run3 (x0 : List Int) : Nat → Int × (List Int) → Option (List Int)
  | 0, _ => none
  | n + 1, s_ => S.CliqueRow_step3 x0 s_.1 s_.2 (S.CliqueRow_run3 x0 n) (fun d => some d) none
theorem S.CliqueRow_L3_run (x0 : List Int) (n : Nat) (s_ : Int × (List Int)) (k : X → St → R) : S.CliqueRow_L3 n { n := 20, t := [(0, (.ro false (.ints .i64 x0))), (3, (.own 0)), (4, (.int .i64 s_.1))], h := [.row (.ints .i64 s_.2)] } k = optC (S.CliqueRow_run3 x0 n s_) (fun (r : List Int) => k (.exit 0) { n := 20, t := [(3, (.own 0))], h := [.row (.ints .i64 r)] }) none := by
  induction n generalizing s_ with
  | zero => rfl
  | succ n ih =>
    have hu : S.CliqueRow_L3 (n + 1) { n := 20, t := [(0, (.ro false (.ints .i64 x0))), (3, (.own 0)), (4, (.int .i64 s_.1))], h := [.row (.ints .i64 s_.2)] } k = S.CliqueRow_step3 x0 s_.1 s_.2 (fun s_ => S.CliqueRow_L3 n { n := 20, t := [(0, (.ro false (.ints .i64 x0))), (3, (.own 0)), (4, (.int .i64 s_.1))], h := [.row (.ints .i64 s_.2)] } k) (fun d => k (.exit 0) { n := 20, t := [(3, (.own 0))], h := [.row (.ints .i64 d)] }) none := by
      kernel_rfl
    have hs : (fun s_ : Int × (List Int) => S.CliqueRow_L3 n { n := 20, t := [(0, (.ro false (.ints .i64 x0))), (3, (.own 0)), (4, (.int .i64 s_.1))], h := [.row (.ints .i64 s_.2)] } k) = fun s_ => optC (S.CliqueRow_run3 x0 n s_) (fun (r : List Int) => k (.exit 0) { n := 20, t := [(3, (.own 0))], h := [.row (.ints .i64 r)] }) none := funext ih
    rw [hu, hs]
    exact (S.CliqueRow_step3_nat (fun o => optC o (fun (r : List Int) => k (.exit 0) { n := 20, t := [(3, (.own 0))], h := [.row (.ints .i64 r)] }) none) x0 s_.1 s_.2 (S.CliqueRow_run3 x0 n) (fun d => some d) none).symm
noncomputable def S.CliqueRow_tree {α : Type} (net : List Int) (leaf0_ : List Int → α) (fail_ : α) : α :=
  (optC (S.CliqueRow_run3 net FUEL (1, [])) (fun qy_4 => (leaf0_ qy_4)) fail_)
theorem S.CliqueRow_tree_nat {α γ : Type} (g : α → γ) (net : List Int) (leaf0_ : List Int → α) (fail_ : α) : g (S.CliqueRow_tree net leaf0_ fail_) = S.CliqueRow_tree net (fun d => g (leaf0_ d)) (g fail_) := by
  unfold S.CliqueRow_tree; simp only [apply_cnd g, apply_optC g, apply_sumC g]
noncomputable def S.CliqueRow_t (net : List Int) : Option (List Int) := S.CliqueRow_tree net (fun d => some d) none
theorem S.CliqueRow_den (net : List Int) (κ : V → List E → R) : S.CliqueRow_F [.ro false (.ints .i64 net)] [] κ = optC (S.CliqueRow_t net) (fun (r : List Int) => κ (.own 0) [.row (.ints .i64 r)]) none := by
  have hu : S.CliqueRow_F [.ro false (.ints .i64 net)] [] κ = S.CliqueRow_tree net (fun d => κ (.own 0) [.row (.ints .i64 d)]) none := by
    refine Eq.trans (show S.CliqueRow_F [.ro false (.ints .i64 net)] [] κ = (S.CliqueRow_L3 FUEL { n := 20, t := [(0, (.ro false (.ints .i64 net))), (3, (.own 0)), (4, (.int .i64 1))], h := [.row (.ints .i64 ([]))] } (S.CliqueRow_k3 κ)) by kernel_rfl) ?_
    refine (S.CliqueRow_L3_run net FUEL (1, []) (S.CliqueRow_k3 κ)).trans (optC_congr (fun qy_4 => ?_))
    kernel_rfl
  rw [hu]
  exact (S.CliqueRow_tree_nat (fun o => optC o (fun (r : List Int) => κ (.own 0) [.row (.ints .i64 r)]) none) net (fun d => some d) none).symm
noncomputable def S.CliqueRow_s : D.Spec where
  keep := false
  pure := false
  ds := [.int .i64]
  sp := fun args h κ => match args, h with
    | [.ro false (.ints .i64 net)], [] => optC (S.CliqueRow_t net) (fun (r : List Int) => κ (.own 0) [.row (.ints .i64 r)]) none
    | _, _ => none
theorem S.CliqueRow_ok : SpecOk Try.prog 37 S.CliqueRow_s := by
  refine SpecOk.of TDok mixed (T := S.CliqueRow_T) ?_ (ann := S.CliqueRow_ann) Try.func37 rfl (by decide +kernel) ?_ ?_ ?_
  · intro p hp
    simp only [S.CliqueRow_T, List.mem_cons, List.not_mem_nil, or_false] at hp
    rcases hp with rfl | rfl
    · exact S.NetOk_ok
    · exact S.l13Grow_ok
  · intro args h κ r hh
    simp only [S.CliqueRow_s] at hh
    split at hh
    · exact (S.CliqueRow_den _ κ).trans hh
    · cases hh
  · intro args h κ r hh
    simp only [S.CliqueRow_s] at hh ⊢
    split at hh
    · exact optC_law2 (F := fun (r : List Int) κ => κ (.own 0) [.row (.ints .i64 r)]) (fun b κ r hb => ⟨_, _, hb, fun _ => rfl⟩) hh
    · cases hh
  · intro hh; cases hh

-- loop.example/guardsonnets/laws.sameInts
noncomputable def L.sameInts_T : List (Nat × D.Spec) := []
def L.sameInts_ann : Nat → List Nat × List Nat
  | 4 => ([0, 1, 5], [4])
  | _ => ([], [])
noncomputable def L.sameInts_F (args : List V) (h : List E) (κ : V → List E → R) : R := funC TD (tableK L.sameInts_T) L.sameInts_ann (drawOk TD (tableP L.sameInts_T)) FUEL Try.f36 args h κ
noncomputable def L.sameInts_L4 (n : Nat) (σ : St) (k : X → St → R) : R := iterC 0 (fun σ k => denC TD (tableK L.sameInts_T) L.sameInts_ann (drawOk TD (tableP L.sameInts_T)) 0 FUEL ((findLoop 4 (Try.f36.body.getD .skip)).getD .skip) σ k) [0, 1, 5] [4] n σ k
noncomputable def L.sameInts_k4 (κ : V → List E → R) : X → St → R := (afterC TD (tableK L.sameInts_T) L.sameInts_ann (drawOk TD (tableP L.sameInts_T)) 0 FUEL 4 (Try.f36.body.getD .skip) (finC TD 0 Try.f36 κ)).getD (fun _ _ => none)
noncomputable def L.sameInts_step4 {α : Type} (x0 : List Int) (x1 : List Int) (x5 : Int) (next_ : Int → α) (out0_ : Bool → α) (out1_ : Unit → α) (fail_ : α) : α :=
  (bif decide (x5 < (↑x0.length : Int)) then (bif decide (0 ≤ x5) && decide (x5 < (↑x0.length : Int)) then (bif decide (0 ≤ x5) && decide (x5 < (↑x1.length : Int)) then (bif !eli x0 x5.toNat == eli x1 x5.toNat then (out0_ false) else (next_ (IntKind.i64.wrap (x5 + 1)))) else fail_) else fail_) else (out1_ ()))
theorem L.sameInts_step4_nat {α γ : Type} (g : α → γ) (x0 : List Int) (x1 : List Int) (x5 : Int) (next_ : Int → α) (out0_ : Bool → α) (out1_ : Unit → α) (fail_ : α) : g (L.sameInts_step4 x0 x1 x5 next_ out0_ out1_ fail_) = L.sameInts_step4 x0 x1 x5 (fun s => g (next_ s)) (fun d => g (out0_ d)) (fun d => g (out1_ d)) (g fail_) := by
  unfold L.sameInts_step4; simp only [apply_cnd g, apply_optC g, apply_sumC g]
noncomputable def L.sameInts_run4 (x0 : List Int) (x1 : List Int) : Nat → Int → Option ((Bool) ⊕ (Unit))
  | 0, _ => none
  | n + 1, s_ => L.sameInts_step4 x0 x1 s_ (L.sameInts_run4 x0 x1 n) (fun d => some ((Sum.inl d))) (fun d => some ((Sum.inr d))) none
theorem L.sameInts_L4_run (x0 : List Int) (x1 : List Int) (n : Nat) (s_ : Int) (k : X → St → R) : L.sameInts_L4 n { n := 26, t := [(0, (.ro false (.ints .i64 x0))), (1, (.ro false (.ints .i64 x1))), (5, (.int .i64 s_))], h := [] } k = optC (L.sameInts_run4 x0 x1 n s_) (fun (r : (Bool) ⊕ (Unit)) => (sumC r (fun (r : Bool) => k (.ret) { n := 26, t := [(4, (.bool r))], h := [] }) (fun (r : Unit) => k (.exit 0) { n := 26, t := [(4, .junk)], h := [] }))) none := by
  induction n generalizing s_ with
  | zero => rfl
  | succ n ih =>
    have hu : L.sameInts_L4 (n + 1) { n := 26, t := [(0, (.ro false (.ints .i64 x0))), (1, (.ro false (.ints .i64 x1))), (5, (.int .i64 s_))], h := [] } k = L.sameInts_step4 x0 x1 s_ (fun s_ => L.sameInts_L4 n { n := 26, t := [(0, (.ro false (.ints .i64 x0))), (1, (.ro false (.ints .i64 x1))), (5, (.int .i64 s_))], h := [] } k) (fun d => k (.ret) { n := 26, t := [(4, (.bool d))], h := [] }) (fun d => k (.exit 0) { n := 26, t := [(4, .junk)], h := [] }) none := by
      kernel_rfl
    have hs : (fun s_ : Int => L.sameInts_L4 n { n := 26, t := [(0, (.ro false (.ints .i64 x0))), (1, (.ro false (.ints .i64 x1))), (5, (.int .i64 s_))], h := [] } k) = fun s_ => optC (L.sameInts_run4 x0 x1 n s_) (fun (r : (Bool) ⊕ (Unit)) => (sumC r (fun (r : Bool) => k (.ret) { n := 26, t := [(4, (.bool r))], h := [] }) (fun (r : Unit) => k (.exit 0) { n := 26, t := [(4, .junk)], h := [] }))) none := funext ih
    rw [hu, hs]
    exact (L.sameInts_step4_nat (fun o => optC o (fun (r : (Bool) ⊕ (Unit)) => (sumC r (fun (r : Bool) => k (.ret) { n := 26, t := [(4, (.bool r))], h := [] }) (fun (r : Unit) => k (.exit 0) { n := 26, t := [(4, .junk)], h := [] }))) none) x0 x1 s_ (L.sameInts_run4 x0 x1 n) (fun d => some ((Sum.inl d))) (fun d => some ((Sum.inr d))) none).symm
noncomputable def L.sameInts_tree {α : Type} (a : List Int) (b_ : List Int) (leaf0_ : Bool → α) (fail_ : α) : α :=
  (bif !(↑a.length : Int) == (↑b_.length : Int) then (leaf0_ false) else (optC (L.sameInts_run4 a b_ FUEL 0) (fun qy_1 => (sumC qy_1 (fun (qy_1 : Bool) => (leaf0_ qy_1)) (fun (qy_1 : Unit) => (leaf0_ true)))) fail_))
theorem L.sameInts_tree_nat {α γ : Type} (g : α → γ) (a : List Int) (b_ : List Int) (leaf0_ : Bool → α) (fail_ : α) : g (L.sameInts_tree a b_ leaf0_ fail_) = L.sameInts_tree a b_ (fun d => g (leaf0_ d)) (g fail_) := by
  unfold L.sameInts_tree; simp only [apply_cnd g, apply_optC g, apply_sumC g]
noncomputable def L.sameInts_t (a : List Int) (b_ : List Int) : Option (Bool) := L.sameInts_tree a b_ (fun d => some d) none
theorem L.sameInts_den (a : List Int) (b_ : List Int) (κ : V → List E → R) : L.sameInts_F [.ro false (.ints .i64 a), .ro false (.ints .i64 b_)] [] κ = optC (L.sameInts_t a b_) (fun (r : Bool) => κ (.bool r) []) none := by
  have hu : L.sameInts_F [.ro false (.ints .i64 a), .ro false (.ints .i64 b_)] [] κ = L.sameInts_tree a b_ (fun d => κ (.bool d) []) none := by
    refine Eq.trans (show L.sameInts_F [.ro false (.ints .i64 a), .ro false (.ints .i64 b_)] [] κ = (bif !(↑a.length : Int) == (↑b_.length : Int) then (κ (.bool false) []) else (L.sameInts_L4 FUEL { n := 26, t := [(0, (.ro false (.ints .i64 a))), (1, (.ro false (.ints .i64 b_))), (5, (.int .i64 0))], h := [] } (L.sameInts_k4 κ))) by kernel_rfl) ?_
    refine cnd_congr ?_ ?_
    · kernel_rfl
    · refine (L.sameInts_L4_run a b_ FUEL 0 (L.sameInts_k4 κ)).trans (optC_congr (fun qy_1 => ?_))
      rcases qy_1 with qy_1 | qy_1
      · kernel_rfl
      · kernel_rfl
  rw [hu]
  exact (L.sameInts_tree_nat (fun o => optC o (fun (r : Bool) => κ (.bool r) []) none) a b_ (fun d => some d) none).symm
noncomputable def L.sameInts_s : D.Spec where
  keep := false
  pure := true
  ds := [.int .i64, .int .i64]
  sp := fun args h κ => match args, h with
    | [.ro false (.ints .i64 a), .ro false (.ints .i64 b_)], [] => optC (L.sameInts_t a b_) (fun (r : Bool) => κ (.bool r) []) none
    | _, _ => none
theorem L.sameInts_ok : SpecOk Try.prog 36 L.sameInts_s := by
  refine SpecOk.of TDok mixed (T := L.sameInts_T) ?_ (ann := L.sameInts_ann) Try.func36 rfl (by decide +kernel) ?_ ?_ ?_
  · intro p hp; cases hp
  · intro args h κ r hh
    simp only [L.sameInts_s] at hh
    split at hh
    · exact (L.sameInts_den _ _ κ).trans hh
    · cases hh
  · intro args h κ r hh
    simp only [L.sameInts_s] at hh ⊢
    split at hh
    · exact optC_law2 (F := fun (r : Bool) κ => κ (.bool r) []) (fun b κ r hb => ⟨_, _, hb, fun _ => rfl⟩) hh
    · cases hh
  · intro _ args h κ r hh
    simp only [L.sameInts_s] at hh
    split at hh
    · exact ⟨rfl, fun _ => rfl⟩
    · cases hh

-- loop.example/guardsonnets/impl.FewestCliques
noncomputable def I.FewestCliques_T : List (Nat × D.Spec) := [(18, I.NetOk_s), (68, I.cliqueRowIn_s), (70, I.numbersOf_s)]
def I.FewestCliques_ann : Nat → List Nat × List Nat
  | _ => ([], [])
noncomputable def I.FewestCliques_F (args : List V) (h : List E) (κ : V → List E → R) : R := funC TD (tableK I.FewestCliques_T) I.FewestCliques_ann (drawOk TD (tableP I.FewestCliques_T)) FUEL Try.f38 args h κ
noncomputable def I.FewestCliques_tree {α : Type} (net : List Int) (leaf0_ : Int → α) (fail_ : α) : α :=
  (optC (I.NetOk_t net) (fun c_1 => (bif !c_1 then (leaf0_ (-1)) else (optC (I.cliqueRowIn_t net) (fun c_2 => (optC (I.numbersOf_t c_2) (fun c_3 => (leaf0_ c_3)) fail_)) fail_))) fail_)
theorem I.FewestCliques_tree_nat {α γ : Type} (g : α → γ) (net : List Int) (leaf0_ : Int → α) (fail_ : α) : g (I.FewestCliques_tree net leaf0_ fail_) = I.FewestCliques_tree net (fun d => g (leaf0_ d)) (g fail_) := by
  unfold I.FewestCliques_tree; simp only [apply_cnd g, apply_optC g, apply_sumC g]
noncomputable def I.FewestCliques_t (net : List Int) : Option (Int) := I.FewestCliques_tree net (fun d => some d) none
theorem I.FewestCliques_den (net : List Int) (κ : V → List E → R) : I.FewestCliques_F [.ro false (.ints .i64 net)] [] κ = optC (I.FewestCliques_t net) (fun (r : Int) => κ (.int .i64 r) []) none := by
  have hu : I.FewestCliques_F [.ro false (.ints .i64 net)] [] κ = I.FewestCliques_tree net (fun d => κ (.int .i64 d) []) none := by
    kernel_rfl
  rw [hu]
  exact (I.FewestCliques_tree_nat (fun o => optC o (fun (r : Int) => κ (.int .i64 r) []) none) net (fun d => some d) none).symm
noncomputable def I.FewestCliques_s : D.Spec where
  keep := false
  pure := true
  ds := [.int .i64]
  sp := fun args h κ => match args, h with
    | [.ro false (.ints .i64 net)], [] => optC (I.FewestCliques_t net) (fun (r : Int) => κ (.int .i64 r) []) none
    | _, _ => none
theorem I.FewestCliques_ok : SpecOk Try.prog 38 I.FewestCliques_s := by
  refine SpecOk.of TDok mixed (T := I.FewestCliques_T) ?_ (ann := I.FewestCliques_ann) Try.func38 rfl (by decide +kernel) ?_ ?_ ?_
  · intro p hp
    simp only [I.FewestCliques_T, List.mem_cons, List.not_mem_nil, or_false] at hp
    rcases hp with rfl | rfl | rfl
    · exact I.NetOk_ok
    · exact I.cliqueRowIn_ok
    · exact I.numbersOf_ok
  · intro args h κ r hh
    simp only [I.FewestCliques_s] at hh
    split at hh
    · exact (I.FewestCliques_den _ κ).trans hh
    · cases hh
  · intro args h κ r hh
    simp only [I.FewestCliques_s] at hh ⊢
    split at hh
    · exact optC_law2 (F := fun (r : Int) κ => κ (.int .i64 r) []) (fun b κ r hb => ⟨_, _, hb, fun _ => rfl⟩) hh
    · cases hh
  · intro _ args h κ r hh
    simp only [I.FewestCliques_s] at hh
    split at hh
    · exact ⟨rfl, fun _ => rfl⟩
    · cases hh


end Go.Proofs.Ytcfajdlkfpdonaa
