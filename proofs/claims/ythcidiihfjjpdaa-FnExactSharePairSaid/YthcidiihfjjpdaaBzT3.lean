/- Twins of the translated functions, with their proofs. Conditions: none. -/
import Derived.Test.YthcidiihfjjpdaaBzT2
set_option linter.unusedVariables false
set_option linter.unusedSimpArgs false
set_option linter.unusedSectionVars false
namespace Go.Proofs.Ythcidiihfjjpdaa
open D Go.RowKit
-- loop.example/guardsonnets/spec.FewestWatch
noncomputable def S.FewestWatch_T : List (Nat × D.Spec) := [(49, S.NetOk_s), (60, S.l2Watch_s), (50, S.l1Size_s)]
def S.FewestWatch_ann : Nat → List Nat × List Nat
  | 5 => ([0, 3, 4], [3])
  | _ => ([], [])
noncomputable def S.FewestWatch_F (args : List V) (h : List E) (κ : V → List E → R) : R := funC TD (tableK S.FewestWatch_T) S.FewestWatch_ann (drawOk TD (tableP S.FewestWatch_T)) FUEL Try.f66 args h κ
noncomputable def S.FewestWatch_L5 (n : Nat) (σ : St) (k : X → St → R) : R := iterC 0 (fun σ k => denC TD (tableK S.FewestWatch_T) S.FewestWatch_ann (drawOk TD (tableP S.FewestWatch_T)) 0 FUEL ((findLoop 5 (Try.f66.body.getD .skip)).getD .skip) σ k) [0, 3, 4] [3] n σ k
noncomputable def S.FewestWatch_k5 (κ : V → List E → R) : X → St → R := (afterC TD (tableK S.FewestWatch_T) S.FewestWatch_ann (drawOk TD (tableP S.FewestWatch_T)) 0 FUEL 5 (Try.f66.body.getD .skip) (finC TD 0 Try.f66 κ)).getD (fun _ _ => none)
noncomputable def S.FewestWatch_step5 {α : Type} (x0 : List Int) (x3 : Int) (x4 : Int) (next_ : Int × Int → α) (out0_ : Int → α) (fail_ : α) : α :=
  (bif decide (x4 < IntKind.i64.wrap (1 * 2 ^ min (↑x0.length : Int).toNat IntKind.i64.bits)) then (optC (S.l2Watch_t x0 x4) (fun c_2 => (bif c_2 then (optC (S.l1Size_t x4) (fun c_3 => (next_ (if c_3 < x3 then c_3 else x3, IntKind.i64.wrap (x4 + 1)))) fail_) else (next_ (x3, IntKind.i64.wrap (x4 + 1))))) fail_) else (out0_ x3))
theorem S.FewestWatch_step5_nat {α γ : Type} (g : α → γ) (x0 : List Int) (x3 : Int) (x4 : Int) (next_ : Int × Int → α) (out0_ : Int → α) (fail_ : α) : g (S.FewestWatch_step5 x0 x3 x4 next_ out0_ fail_) = S.FewestWatch_step5 x0 x3 x4 (fun s => g (next_ s)) (fun d => g (out0_ d)) (g fail_) := by
  unfold S.FewestWatch_step5; simp only [apply_cnd g, apply_optC g, apply_sumC g]
noncomputable def S.FewestWatch_run5 (x0 : List Int) : Nat → Int × Int → Option (Int)
  | 0, _ => none
  | n + 1, s_ => S.FewestWatch_step5 x0 s_.1 s_.2 (S.FewestWatch_run5 x0 n) (fun d => some d) none
theorem S.FewestWatch_L5_run (x0 : List Int) (n : Nat) (s_ : Int × Int) (k : X → St → R) : S.FewestWatch_L5 n { n := 25, t := [(0, (.ro false (.ints .i64 x0))), (3, (.int .i64 s_.1)), (4, (.int .i64 s_.2))], h := [] } k = optC (S.FewestWatch_run5 x0 n s_) (fun (r : Int) => k (.exit 0) { n := 25, t := [(3, (.int .i64 r))], h := [] }) none := by
  induction n generalizing s_ with
  | zero => rfl
  | succ n ih =>
    have hu : S.FewestWatch_L5 (n + 1) { n := 25, t := [(0, (.ro false (.ints .i64 x0))), (3, (.int .i64 s_.1)), (4, (.int .i64 s_.2))], h := [] } k = S.FewestWatch_step5 x0 s_.1 s_.2 (fun s_ => S.FewestWatch_L5 n { n := 25, t := [(0, (.ro false (.ints .i64 x0))), (3, (.int .i64 s_.1)), (4, (.int .i64 s_.2))], h := [] } k) (fun d => k (.exit 0) { n := 25, t := [(3, (.int .i64 d))], h := [] }) none := by
      kernel_rfl
    have hs : (fun s_ : Int × Int => S.FewestWatch_L5 n { n := 25, t := [(0, (.ro false (.ints .i64 x0))), (3, (.int .i64 s_.1)), (4, (.int .i64 s_.2))], h := [] } k) = fun s_ => optC (S.FewestWatch_run5 x0 n s_) (fun (r : Int) => k (.exit 0) { n := 25, t := [(3, (.int .i64 r))], h := [] }) none := funext ih
    rw [hu, hs]
    exact (S.FewestWatch_step5_nat (fun o => optC o (fun (r : Int) => k (.exit 0) { n := 25, t := [(3, (.int .i64 r))], h := [] }) none) x0 s_.1 s_.2 (S.FewestWatch_run5 x0 n) (fun d => some d) none).symm
noncomputable def S.FewestWatch_tree {α : Type} (net : List Int) (leaf0_ : Int → α) (fail_ : α) : α :=
  (optC (S.NetOk_t net) (fun c_1 => (bif !c_1 then (leaf0_ (-1)) else (optC (S.FewestWatch_run5 net FUEL ((↑net.length : Int), 0)) (fun qy_4 => (leaf0_ qy_4)) fail_))) fail_)
theorem S.FewestWatch_tree_nat {α γ : Type} (g : α → γ) (net : List Int) (leaf0_ : Int → α) (fail_ : α) : g (S.FewestWatch_tree net leaf0_ fail_) = S.FewestWatch_tree net (fun d => g (leaf0_ d)) (g fail_) := by
  unfold S.FewestWatch_tree; simp only [apply_cnd g, apply_optC g, apply_sumC g]
noncomputable def S.FewestWatch_t (net : List Int) : Option (Int) := S.FewestWatch_tree net (fun d => some d) none
theorem S.FewestWatch_den (net : List Int) (κ : V → List E → R) : S.FewestWatch_F [.ro false (.ints .i64 net)] [] κ = optC (S.FewestWatch_t net) (fun (r : Int) => κ (.int .i64 r) []) none := by
  have hu : S.FewestWatch_F [.ro false (.ints .i64 net)] [] κ = S.FewestWatch_tree net (fun d => κ (.int .i64 d) []) none := by
    refine Eq.trans (show S.FewestWatch_F [.ro false (.ints .i64 net)] [] κ = (optC (S.NetOk_t net) (fun c_1 => (bif !c_1 then (κ (.int .i64 (-1)) []) else (S.FewestWatch_L5 FUEL { n := 25, t := [(0, (.ro false (.ints .i64 net))), (3, (.int .i64 ((↑net.length : Int)))), (4, (.int .i64 0))], h := [] } (S.FewestWatch_k5 κ)))) none) by kernel_rfl) ?_
    refine optC_congr (fun c_1 => ?_)
    refine cnd_congr ?_ ?_
    · kernel_rfl
    · refine (S.FewestWatch_L5_run net FUEL ((↑net.length : Int), 0) (S.FewestWatch_k5 κ)).trans (optC_congr (fun qy_4 => ?_))
      kernel_rfl
  rw [hu]
  exact (S.FewestWatch_tree_nat (fun o => optC o (fun (r : Int) => κ (.int .i64 r) []) none) net (fun d => some d) none).symm
noncomputable def S.FewestWatch_s : D.Spec where
  keep := false
  pure := true
  ds := [.int .i64]
  sp := fun args h κ => match args, h with
    | [.ro false (.ints .i64 net)], [] => optC (S.FewestWatch_t net) (fun (r : Int) => κ (.int .i64 r) []) none
    | _, _ => none
theorem S.FewestWatch_ok : SpecOk Try.prog 66 S.FewestWatch_s := by
  refine SpecOk.of TDok mixed (T := S.FewestWatch_T) ?_ (ann := S.FewestWatch_ann) Try.func66 rfl (by decide +kernel) ?_ ?_ ?_
  · intro p hp
    simp only [S.FewestWatch_T, List.mem_cons, List.not_mem_nil, or_false] at hp
    rcases hp with rfl | rfl | rfl
    · exact S.NetOk_ok
    · exact S.l2Watch_ok
    · exact S.l1Size_ok
  · intro args h κ r hh
    simp only [S.FewestWatch_s] at hh
    split at hh
    · exact (S.FewestWatch_den _ κ).trans hh
    · cases hh
  · intro args h κ r hh
    simp only [S.FewestWatch_s] at hh ⊢
    split at hh
    · exact optC_law2 (F := fun (r : Int) κ => κ (.int .i64 r) []) (fun b κ r hb => ⟨_, _, hb, fun _ => rfl⟩) hh
    · cases hh
  · intro _ args h κ r hh
    simp only [S.FewestWatch_s] at hh
    split at hh
    · exact ⟨rfl, fun _ => rfl⟩
    · cases hh

-- loop.example/guardsonnets/spec.OtherNet
noncomputable def S.OtherNet_T : List (Nat × D.Spec) := [(49, S.NetOk_s)]
def S.OtherNet_ann : Nat → List Nat × List Nat
  | 3 => ([0, 3, 4], [3])
  | _ => ([], [])
noncomputable def S.OtherNet_F (args : List V) (h : List E) (κ : V → List E → R) : R := funC TD (tableK S.OtherNet_T) S.OtherNet_ann (drawOk TD (tableP S.OtherNet_T)) FUEL Try.f67 args h κ
noncomputable def S.OtherNet_L3 (n : Nat) (σ : St) (k : X → St → R) : R := iterC 0 (fun σ k => denC TD (tableK S.OtherNet_T) S.OtherNet_ann (drawOk TD (tableP S.OtherNet_T)) 0 FUEL ((findLoop 3 (Try.f67.body.getD .skip)).getD .skip) σ k) [0, 3, 4] [3] n σ k
noncomputable def S.OtherNet_k3 (κ : V → List E → R) : X → St → R := (afterC TD (tableK S.OtherNet_T) S.OtherNet_ann (drawOk TD (tableP S.OtherNet_T)) 0 FUEL 3 (Try.f67.body.getD .skip) (finC TD 0 Try.f67 κ)).getD (fun _ _ => none)
noncomputable def S.OtherNet_step3 {α : Type} (x0 : List Int) (x4 : Int) (r0 : List Int) (next_ : Int × (List Int) → α) (out0_ : List Int → α) (fail_ : α) : α :=
  (bif decide (x4 < (↑x0.length : Int)) then (optC (S.NetOk_t x0) (fun c_1 => (bif c_1 then (bif decide (0 ≤ x4) && decide (x4 < (↑x0.length : Int)) then (bif decide (x4 < 0) then fail_ else (bif small (r0 ++ [IntKind.i64.wrap (IntKind.i64.wrap (IntKind.i64.wrap (IntKind.i64.wrap (1 * 2 ^ min (↑x0.length : Int).toNat IntKind.i64.bits) - 1) - eli x0 x4.toNat) - IntKind.i64.wrap (1 * 2 ^ min x4.toNat IntKind.i64.bits))]).length then (next_ (IntKind.i64.wrap (x4 + 1), r0 ++ [IntKind.i64.wrap (IntKind.i64.wrap (IntKind.i64.wrap (IntKind.i64.wrap (1 * 2 ^ min (↑x0.length : Int).toNat IntKind.i64.bits) - 1) - eli x0 x4.toNat) - IntKind.i64.wrap (1 * 2 ^ min x4.toNat IntKind.i64.bits))])) else fail_)) else fail_) else (out0_ r0))) fail_) else (out0_ r0))
theorem S.OtherNet_step3_nat {α γ : Type} (g : α → γ) (x0 : List Int) (x4 : Int) (r0 : List Int) (next_ : Int × (List Int) → α) (out0_ : List Int → α) (fail_ : α) : g (S.OtherNet_step3 x0 x4 r0 next_ out0_ fail_) = S.OtherNet_step3 x0 x4 r0 (fun s => g (next_ s)) (fun d => g (out0_ d)) (g fail_) := by
  unfold S.OtherNet_step3; simp only [apply_cnd g, apply_optC g, apply_sumC g]
noncomputable def S.OtherNet_run3 (x0 : List Int) : Nat → Int × (List Int) → Option (List Int)
  | 0, _ => none
  | n + 1, s_ => S.OtherNet_step3 x0 s_.1 s_.2 (S.OtherNet_run3 x0 n) (fun d => some d) none
theorem S.OtherNet_L3_run (x0 : List Int) (n : Nat) (s_ : Int × (List Int)) (k : X → St → R) : S.OtherNet_L3 n { n := 32, t := [(0, (.ro false (.ints .i64 x0))), (3, (.own 0)), (4, (.int .i64 s_.1))], h := [.row (.ints .i64 s_.2)] } k = optC (S.OtherNet_run3 x0 n s_) (fun (r : List Int) => k (.exit 0) { n := 32, t := [(3, (.own 0))], h := [.row (.ints .i64 r)] }) none := by
  induction n generalizing s_ with
  | zero => rfl
  | succ n ih =>
    have hu : S.OtherNet_L3 (n + 1) { n := 32, t := [(0, (.ro false (.ints .i64 x0))), (3, (.own 0)), (4, (.int .i64 s_.1))], h := [.row (.ints .i64 s_.2)] } k = S.OtherNet_step3 x0 s_.1 s_.2 (fun s_ => S.OtherNet_L3 n { n := 32, t := [(0, (.ro false (.ints .i64 x0))), (3, (.own 0)), (4, (.int .i64 s_.1))], h := [.row (.ints .i64 s_.2)] } k) (fun d => k (.exit 0) { n := 32, t := [(3, (.own 0))], h := [.row (.ints .i64 d)] }) none := by
      kernel_rfl
    have hs : (fun s_ : Int × (List Int) => S.OtherNet_L3 n { n := 32, t := [(0, (.ro false (.ints .i64 x0))), (3, (.own 0)), (4, (.int .i64 s_.1))], h := [.row (.ints .i64 s_.2)] } k) = fun s_ => optC (S.OtherNet_run3 x0 n s_) (fun (r : List Int) => k (.exit 0) { n := 32, t := [(3, (.own 0))], h := [.row (.ints .i64 r)] }) none := funext ih
    rw [hu, hs]
    exact (S.OtherNet_step3_nat (fun o => optC o (fun (r : List Int) => k (.exit 0) { n := 32, t := [(3, (.own 0))], h := [.row (.ints .i64 r)] }) none) x0 s_.1 s_.2 (S.OtherNet_run3 x0 n) (fun d => some d) none).symm
noncomputable def S.OtherNet_tree {α : Type} (net : List Int) (leaf0_ : List Int → α) (fail_ : α) : α :=
  (optC (S.OtherNet_run3 net FUEL (0, [])) (fun qy_2 => (leaf0_ qy_2)) fail_)
theorem S.OtherNet_tree_nat {α γ : Type} (g : α → γ) (net : List Int) (leaf0_ : List Int → α) (fail_ : α) : g (S.OtherNet_tree net leaf0_ fail_) = S.OtherNet_tree net (fun d => g (leaf0_ d)) (g fail_) := by
  unfold S.OtherNet_tree; simp only [apply_cnd g, apply_optC g, apply_sumC g]
noncomputable def S.OtherNet_t (net : List Int) : Option (List Int) := S.OtherNet_tree net (fun d => some d) none
theorem S.OtherNet_den (net : List Int) (κ : V → List E → R) : S.OtherNet_F [.ro false (.ints .i64 net)] [] κ = optC (S.OtherNet_t net) (fun (r : List Int) => κ (.own 0) [.row (.ints .i64 r)]) none := by
  have hu : S.OtherNet_F [.ro false (.ints .i64 net)] [] κ = S.OtherNet_tree net (fun d => κ (.own 0) [.row (.ints .i64 d)]) none := by
    refine Eq.trans (show S.OtherNet_F [.ro false (.ints .i64 net)] [] κ = (S.OtherNet_L3 FUEL { n := 32, t := [(0, (.ro false (.ints .i64 net))), (3, (.own 0)), (4, (.int .i64 0))], h := [.row (.ints .i64 ([]))] } (S.OtherNet_k3 κ)) by kernel_rfl) ?_
    refine (S.OtherNet_L3_run net FUEL (0, []) (S.OtherNet_k3 κ)).trans (optC_congr (fun qy_2 => ?_))
    kernel_rfl
  rw [hu]
  exact (S.OtherNet_tree_nat (fun o => optC o (fun (r : List Int) => κ (.own 0) [.row (.ints .i64 r)]) none) net (fun d => some d) none).symm
noncomputable def S.OtherNet_s : D.Spec where
  keep := false
  pure := false
  ds := [.int .i64]
  sp := fun args h κ => match args, h with
    | [.ro false (.ints .i64 net)], [] => optC (S.OtherNet_t net) (fun (r : List Int) => κ (.own 0) [.row (.ints .i64 r)]) none
    | _, _ => none
theorem S.OtherNet_ok : SpecOk Try.prog 67 S.OtherNet_s := by
  refine SpecOk.of TDok mixed (T := S.OtherNet_T) ?_ (ann := S.OtherNet_ann) Try.func67 rfl (by decide +kernel) ?_ ?_ ?_
  · intro p hp
    simp only [S.OtherNet_T, List.mem_cons, List.not_mem_nil, or_false] at hp
    rcases hp with rfl
    · exact S.NetOk_ok
  · intro args h κ r hh
    simp only [S.OtherNet_s] at hh
    split at hh
    · exact (S.OtherNet_den _ κ).trans hh
    · cases hh
  · intro args h κ r hh
    simp only [S.OtherNet_s] at hh ⊢
    split at hh
    · exact optC_law2 (F := fun (r : List Int) κ => κ (.own 0) [.row (.ints .i64 r)]) (fun b κ r hb => ⟨_, _, hb, fun _ => rfl⟩) hh
    · cases hh
  · intro hh; cases hh

-- loop.example/guardsonnets/spec.WatchPair
noncomputable def S.WatchPair_T : List (Nat × D.Spec) := [(49, S.NetOk_s), (66, S.FewestWatch_s), (67, S.OtherNet_s)]
def S.WatchPair_ann : Nat → List Nat × List Nat
  | _ => ([], [])
noncomputable def S.WatchPair_F (args : List V) (h : List E) (κ : V → List E → R) : R := funC TD (tableK S.WatchPair_T) S.WatchPair_ann (drawOk TD (tableP S.WatchPair_T)) FUEL Try.f41 args h κ
noncomputable def S.WatchPair_tree {α : Type} (net : List Int) (leaf0_ : Int × Int → α) (fail_ : α) : α :=
  (optC (S.NetOk_t net) (fun c_1 => (bif !c_1 then (leaf0_ (-1, -1)) else (optC (S.FewestWatch_t net) (fun c_2 => (optC (S.OtherNet_t net) (fun c_3 => (optC (S.FewestWatch_t c_3) (fun c_4 => (leaf0_ (c_2, c_4))) fail_)) fail_)) fail_))) fail_)
theorem S.WatchPair_tree_nat {α γ : Type} (g : α → γ) (net : List Int) (leaf0_ : Int × Int → α) (fail_ : α) : g (S.WatchPair_tree net leaf0_ fail_) = S.WatchPair_tree net (fun d => g (leaf0_ d)) (g fail_) := by
  unfold S.WatchPair_tree; simp only [apply_cnd g, apply_optC g, apply_sumC g]
noncomputable def S.WatchPair_t (net : List Int) : Option (Int × Int) := S.WatchPair_tree net (fun d => some d) none
theorem S.WatchPair_den (net : List Int) (κ : V → List E → R) : S.WatchPair_F [.ro false (.ints .i64 net)] [] κ = optC (S.WatchPair_t net) (fun (r : Int × Int) => κ (.tup [(.int .i64 r.1), (.int .i64 r.2)]) []) none := by
  have hu : S.WatchPair_F [.ro false (.ints .i64 net)] [] κ = S.WatchPair_tree net (fun d => κ (.tup [(.int .i64 d.1), (.int .i64 d.2)]) []) none := by
    kernel_rfl
  rw [hu]
  exact (S.WatchPair_tree_nat (fun o => optC o (fun (r : Int × Int) => κ (.tup [(.int .i64 r.1), (.int .i64 r.2)]) []) none) net (fun d => some d) none).symm
noncomputable def S.WatchPair_s : D.Spec where
  keep := false
  pure := true
  ds := [.int .i64]
  sp := fun args h κ => match args, h with
    | [.ro false (.ints .i64 net)], [] => optC (S.WatchPair_t net) (fun (r : Int × Int) => κ (.tup [(.int .i64 r.1), (.int .i64 r.2)]) []) none
    | _, _ => none
theorem S.WatchPair_ok : SpecOk Try.prog 41 S.WatchPair_s := by
  refine SpecOk.of TDok mixed (T := S.WatchPair_T) ?_ (ann := S.WatchPair_ann) Try.func41 rfl (by decide +kernel) ?_ ?_ ?_
  · intro p hp
    simp only [S.WatchPair_T, List.mem_cons, List.not_mem_nil, or_false] at hp
    rcases hp with rfl | rfl | rfl
    · exact S.NetOk_ok
    · exact S.FewestWatch_ok
    · exact S.OtherNet_ok
  · intro args h κ r hh
    simp only [S.WatchPair_s] at hh
    split at hh
    · exact (S.WatchPair_den _ κ).trans hh
    · cases hh
  · intro args h κ r hh
    simp only [S.WatchPair_s] at hh ⊢
    split at hh
    · exact optC_law2 (F := fun (r : Int × Int) κ => κ (.tup [(.int .i64 r.1), (.int .i64 r.2)]) []) (fun b κ r hb => ⟨_, _, hb, fun _ => rfl⟩) hh
    · cases hh
  · intro _ args h κ r hh
    simp only [S.WatchPair_s] at hh
    split at hh
    · exact ⟨rfl, fun _ => rfl⟩
    · cases hh

-- loop.example/guardsonnets/laws.FnWatchPair
noncomputable def L.FnWatchPair_T : List (Nat × D.Spec) := [(39, S.DrawWatchPair_s), (40, I.WatchPair_s), (41, S.WatchPair_s), (18, I.NetOk_s), (19, L.alive_s), (38, I.FewestWatch_s)]
def L.FnWatchPair_ann : Nat → List Nat × List Nat
  | _ => ([], [])
noncomputable def L.FnWatchPair_F (args : List V) (h : List E) (κ : V → List E → R) : R := funC TD (tableK L.FnWatchPair_T) L.FnWatchPair_ann (drawOk TD (tableP L.FnWatchPair_T)) FUEL Try.f11 args h κ
noncomputable def L.FnWatchPair_tree {α : Type} (code : List Int) (leaf0_ : Bool → α) (fail_ : α) : α :=
  (bif decide ((↑code.length : Int) > 1048576) then (leaf0_ true) else (optC (S.DrawWatchPair_t code) (fun c_1 => (optC (I.WatchPair_t c_1) (fun c_2 => (optC (S.WatchPair_t c_1) (fun c_3 => (bif !c_2.fst == c_3.fst then (leaf0_ false) else (bif !c_2.snd == c_3.snd then (leaf0_ false) else (bif decide (c_2.fst < 0) then (bif c_2.fst == -1 then (bif c_2.snd == -1 then (optC (I.NetOk_t c_1) (fun c_4 => (bif !c_4 then (optC (L.alive_t) (fun c_5 => (leaf0_ c_5)) fail_) else (leaf0_ false))) fail_) else (leaf0_ false)) else (leaf0_ false)) else (bif decide (IntKind.i64.wrap (c_2.fst * c_2.snd) ≤ (↑c_1.length : Int)) then (bif decide (IntKind.i64.wrap (c_2.fst + c_2.snd) ≤ IntKind.i64.wrap ((↑c_1.length : Int) + 1)) then (optC (I.FewestWatch_t c_1) (fun c_6 => (leaf0_ (c_2.fst == c_6))) fail_) else (leaf0_ false)) else (leaf0_ false)))))) fail_)) fail_)) fail_))
theorem L.FnWatchPair_tree_nat {α γ : Type} (g : α → γ) (code : List Int) (leaf0_ : Bool → α) (fail_ : α) : g (L.FnWatchPair_tree code leaf0_ fail_) = L.FnWatchPair_tree code (fun d => g (leaf0_ d)) (g fail_) := by
  unfold L.FnWatchPair_tree; simp only [apply_cnd g, apply_optC g, apply_sumC g]
noncomputable def L.FnWatchPair_t (code : List Int) : Option (Bool) := L.FnWatchPair_tree code (fun d => some d) none
theorem L.FnWatchPair_den (code : List Int) (κ : V → List E → R) : L.FnWatchPair_F [.ro true (.ints .u8 code)] [] κ = optC (L.FnWatchPair_t code) (fun (r : Bool) => κ (.bool r) []) none := by
  have hu : L.FnWatchPair_F [.ro true (.ints .u8 code)] [] κ = L.FnWatchPair_tree code (fun d => κ (.bool d) []) none := by
    kernel_rfl
  rw [hu]
  exact (L.FnWatchPair_tree_nat (fun o => optC o (fun (r : Bool) => κ (.bool r) []) none) code (fun d => some d) none).symm
noncomputable def L.FnWatchPair_s : D.Spec where
  keep := true
  pure := true
  ds := [.int .u8]
  sp := fun args h κ => match args, h with
    | [.ro true (.ints .u8 code)], [] => optC (L.FnWatchPair_t code) (fun (r : Bool) => κ (.bool r) []) none
    | _, _ => none
theorem L.FnWatchPair_ok : SpecOk Try.prog 11 L.FnWatchPair_s := by
  refine SpecOk.of TDok mixed (T := L.FnWatchPair_T) ?_ (ann := L.FnWatchPair_ann) Try.func11 rfl (by decide +kernel) ?_ ?_ ?_
  · intro p hp
    simp only [L.FnWatchPair_T, List.mem_cons, List.not_mem_nil, or_false] at hp
    rcases hp with rfl | rfl | rfl | rfl | rfl | rfl
    · exact S.DrawWatchPair_ok
    · exact I.WatchPair_ok
    · exact S.WatchPair_ok
    · exact I.NetOk_ok
    · exact L.alive_ok
    · exact I.FewestWatch_ok
  · intro args h κ r hh
    simp only [L.FnWatchPair_s] at hh
    split at hh
    · exact (L.FnWatchPair_den _ κ).trans hh
    · cases hh
  · intro args h κ r hh
    simp only [L.FnWatchPair_s] at hh ⊢
    split at hh
    · exact optC_law2 (F := fun (r : Bool) κ => κ (.bool r) []) (fun b κ r hb => ⟨_, _, hb, fun _ => rfl⟩) hh
    · cases hh
  · intro _ args h κ r hh
    simp only [L.FnWatchPair_s] at hh
    split at hh
    · exact ⟨rfl, fun _ => rfl⟩
    · cases hh

-- loop.example/guardsonnets/laws.FnExactWatchPair
noncomputable def L.FnExactWatchPair_T : List (Nat × D.Spec) := [(22, L.toIntS_s), (41, S.WatchPair_s), (40, I.WatchPair_s), (23, L.eqIntS_s)]
def L.FnExactWatchPair_ann : Nat → List Nat × List Nat
  | _ => ([], [])
noncomputable def L.FnExactWatchPair_F (args : List V) (h : List E) (κ : V → List E → R) : R := funC TD (tableK L.FnExactWatchPair_T) L.FnExactWatchPair_ann (drawOk TD (tableP L.FnExactWatchPair_T)) FUEL Try.f12 args h κ
noncomputable def L.FnExactWatchPair_tree {α : Type} (aNet : List Int) (leaf0_ : Bool → α) (fail_ : α) : α :=
  (bif decide ((↑aNet.length : Int) > 1048576) then (leaf0_ true) else (optC (L.toIntS_t aNet) (fun c_1 => (optC (S.WatchPair_t c_1) (fun c_2 => (optC (L.toIntS_t aNet) (fun c_3 => (optC (I.WatchPair_t c_3) (fun c_4 => (bif !c_4.fst == c_2.fst then (leaf0_ false) else (bif !c_4.snd == c_2.snd then (leaf0_ false) else (optC (L.toIntS_t aNet) (fun c_5 => (optC (L.eqIntS_t c_3 c_5) (fun c_6 => (bif !c_6 then (leaf0_ false) else (leaf0_ true))) fail_)) fail_)))) fail_)) fail_)) fail_)) fail_))
theorem L.FnExactWatchPair_tree_nat {α γ : Type} (g : α → γ) (aNet : List Int) (leaf0_ : Bool → α) (fail_ : α) : g (L.FnExactWatchPair_tree aNet leaf0_ fail_) = L.FnExactWatchPair_tree aNet (fun d => g (leaf0_ d)) (g fail_) := by
  unfold L.FnExactWatchPair_tree; simp only [apply_cnd g, apply_optC g, apply_sumC g]
noncomputable def L.FnExactWatchPair_t (aNet : List Int) : Option (Bool) := L.FnExactWatchPair_tree aNet (fun d => some d) none
theorem L.FnExactWatchPair_den (aNet : List Int) (κ : V → List E → R) : L.FnExactWatchPair_F [.ro true (.ints .i64 aNet)] [] κ = optC (L.FnExactWatchPair_t aNet) (fun (r : Bool) => κ (.bool r) []) none := by
  have hu : L.FnExactWatchPair_F [.ro true (.ints .i64 aNet)] [] κ = L.FnExactWatchPair_tree aNet (fun d => κ (.bool d) []) none := by
    kernel_rfl
  rw [hu]
  exact (L.FnExactWatchPair_tree_nat (fun o => optC o (fun (r : Bool) => κ (.bool r) []) none) aNet (fun d => some d) none).symm
noncomputable def L.FnExactWatchPair_s : D.Spec where
  keep := true
  pure := true
  ds := [.int .i64]
  sp := fun args h κ => match args, h with
    | [.ro true (.ints .i64 aNet)], [] => optC (L.FnExactWatchPair_t aNet) (fun (r : Bool) => κ (.bool r) []) none
    | _, _ => none
theorem L.FnExactWatchPair_ok : SpecOk Try.prog 12 L.FnExactWatchPair_s := by
  refine SpecOk.of TDok mixed (T := L.FnExactWatchPair_T) ?_ (ann := L.FnExactWatchPair_ann) Try.func12 rfl (by decide +kernel) ?_ ?_ ?_
  · intro p hp
    simp only [L.FnExactWatchPair_T, List.mem_cons, List.not_mem_nil, or_false] at hp
    rcases hp with rfl | rfl | rfl | rfl
    · exact L.toIntS_ok
    · exact S.WatchPair_ok
    · exact I.WatchPair_ok
    · exact L.eqIntS_ok
  · intro args h κ r hh
    simp only [L.FnExactWatchPair_s] at hh
    split at hh
    · exact (L.FnExactWatchPair_den _ κ).trans hh
    · cases hh
  · intro args h κ r hh
    simp only [L.FnExactWatchPair_s] at hh ⊢
    split at hh
    · exact optC_law2 (F := fun (r : Bool) κ => κ (.bool r) []) (fun b κ r hb => ⟨_, _, hb, fun _ => rfl⟩) hh
    · cases hh
  · intro _ args h κ r hh
    simp only [L.FnExactWatchPair_s] at hh
    split at hh
    · exact ⟨rfl, fun _ => rfl⟩
    · cases hh

-- loop.example/guardsonnets/spec.DrawSharePair
noncomputable def S.DrawSharePair_T : List (Nat × D.Spec) := [(47, S.l20Open_s), (46, S.l20Net_s)]
def S.DrawSharePair_ann : Nat → List Nat × List Nat
  | _ => ([], [])
noncomputable def S.DrawSharePair_F (args : List V) (h : List E) (κ : V → List E → R) : R := funC TD (tableK S.DrawSharePair_T) S.DrawSharePair_ann (drawOk TD (tableP S.DrawSharePair_T)) FUEL Try.f42 args h κ
noncomputable def S.DrawSharePair_tree {α : Type} (code : List Int) (leaf0_ : List Int → α) (fail_ : α) : α :=
  (optC (S.l20Open_t code) (fun c_1 => (optC (S.l20Net_t c_1.fst c_1.snd 9) (fun c_2 => (leaf0_ c_2.snd.snd)) fail_)) fail_)
theorem S.DrawSharePair_tree_nat {α γ : Type} (g : α → γ) (code : List Int) (leaf0_ : List Int → α) (fail_ : α) : g (S.DrawSharePair_tree code leaf0_ fail_) = S.DrawSharePair_tree code (fun d => g (leaf0_ d)) (g fail_) := by
  unfold S.DrawSharePair_tree; simp only [apply_cnd g, apply_optC g, apply_sumC g]
noncomputable def S.DrawSharePair_t (code : List Int) : Option (List Int) := S.DrawSharePair_tree code (fun d => some d) none
theorem S.DrawSharePair_den (code : List Int) (κ : V → List E → R) : S.DrawSharePair_F [.ro true (.ints .u8 code)] [] κ = optC (S.DrawSharePair_t code) (fun (r : List Int) => κ (.own 0) [.row (.ints .i64 r)]) none := by
  have hu : S.DrawSharePair_F [.ro true (.ints .u8 code)] [] κ = S.DrawSharePair_tree code (fun d => κ (.own 0) [.row (.ints .i64 d)]) none := by
    kernel_rfl
  rw [hu]
  exact (S.DrawSharePair_tree_nat (fun o => optC o (fun (r : List Int) => κ (.own 0) [.row (.ints .i64 r)]) none) code (fun d => some d) none).symm
noncomputable def S.DrawSharePair_s : D.Spec where
  keep := true
  pure := false
  ds := [.int .u8]
  sp := fun args h κ => match args, h with
    | [.ro true (.ints .u8 code)], [] => optC (S.DrawSharePair_t code) (fun (r : List Int) => κ (.own 0) [.row (.ints .i64 r)]) none
    | _, _ => none
theorem S.DrawSharePair_ok : SpecOk Try.prog 42 S.DrawSharePair_s := by
  refine SpecOk.of TDok mixed (T := S.DrawSharePair_T) ?_ (ann := S.DrawSharePair_ann) Try.func42 rfl (by decide +kernel) ?_ ?_ ?_
  · intro p hp
    simp only [S.DrawSharePair_T, List.mem_cons, List.not_mem_nil, or_false] at hp
    rcases hp with rfl | rfl
    · exact S.l20Open_ok
    · exact S.l20Net_ok
  · intro args h κ r hh
    simp only [S.DrawSharePair_s] at hh
    split at hh
    · exact (S.DrawSharePair_den _ κ).trans hh
    · cases hh
  · intro args h κ r hh
    simp only [S.DrawSharePair_s] at hh ⊢
    split at hh
    · exact optC_law2 (F := fun (r : List Int) κ => κ (.own 0) [.row (.ints .i64 r)]) (fun b κ r hb => ⟨_, _, hb, fun _ => rfl⟩) hh
    · cases hh
  · intro hh; cases hh

-- loop.example/guardsonnets/impl.SharePair
noncomputable def I.SharePair_T : List (Nat × D.Spec) := [(33, I.MostShares_s), (45, I.OtherNet_s)]
def I.SharePair_ann : Nat → List Nat × List Nat
  | _ => ([], [])
noncomputable def I.SharePair_F (args : List V) (h : List E) (κ : V → List E → R) : R := funC TD (tableK I.SharePair_T) I.SharePair_ann (drawOk TD (tableP I.SharePair_T)) FUEL Try.f43 args h κ
noncomputable def I.SharePair_tree {α : Type} (net : List Int) (leaf0_ : Int × Int → α) (fail_ : α) : α :=
  (optC (I.MostShares_t net) (fun c_1 => (optC (I.OtherNet_t net) (fun c_2 => (optC (I.MostShares_t c_2) (fun c_3 => (leaf0_ (c_1, c_3))) fail_)) fail_)) fail_)
theorem I.SharePair_tree_nat {α γ : Type} (g : α → γ) (net : List Int) (leaf0_ : Int × Int → α) (fail_ : α) : g (I.SharePair_tree net leaf0_ fail_) = I.SharePair_tree net (fun d => g (leaf0_ d)) (g fail_) := by
  unfold I.SharePair_tree; simp only [apply_cnd g, apply_optC g, apply_sumC g]
noncomputable def I.SharePair_t (net : List Int) : Option (Int × Int) := I.SharePair_tree net (fun d => some d) none
theorem I.SharePair_den (net : List Int) (κ : V → List E → R) : I.SharePair_F [.ro false (.ints .i64 net)] [] κ = optC (I.SharePair_t net) (fun (r : Int × Int) => κ (.tup [(.int .i64 r.1), (.int .i64 r.2)]) []) none := by
  have hu : I.SharePair_F [.ro false (.ints .i64 net)] [] κ = I.SharePair_tree net (fun d => κ (.tup [(.int .i64 d.1), (.int .i64 d.2)]) []) none := by
    kernel_rfl
  rw [hu]
  exact (I.SharePair_tree_nat (fun o => optC o (fun (r : Int × Int) => κ (.tup [(.int .i64 r.1), (.int .i64 r.2)]) []) none) net (fun d => some d) none).symm
noncomputable def I.SharePair_s : D.Spec where
  keep := false
  pure := true
  ds := [.int .i64]
  sp := fun args h κ => match args, h with
    | [.ro false (.ints .i64 net)], [] => optC (I.SharePair_t net) (fun (r : Int × Int) => κ (.tup [(.int .i64 r.1), (.int .i64 r.2)]) []) none
    | _, _ => none
theorem I.SharePair_ok : SpecOk Try.prog 43 I.SharePair_s := by
  refine SpecOk.of TDok mixed (T := I.SharePair_T) ?_ (ann := I.SharePair_ann) Try.func43 rfl (by decide +kernel) ?_ ?_ ?_
  · intro p hp
    simp only [I.SharePair_T, List.mem_cons, List.not_mem_nil, or_false] at hp
    rcases hp with rfl | rfl
    · exact I.MostShares_ok
    · exact I.OtherNet_ok
  · intro args h κ r hh
    simp only [I.SharePair_s] at hh
    split at hh
    · exact (I.SharePair_den _ κ).trans hh
    · cases hh
  · intro args h κ r hh
    simp only [I.SharePair_s] at hh ⊢
    split at hh
    · exact optC_law2 (F := fun (r : Int × Int) κ => κ (.tup [(.int .i64 r.1), (.int .i64 r.2)]) []) (fun b κ r hb => ⟨_, _, hb, fun _ => rfl⟩) hh
    · cases hh
  · intro _ args h κ r hh
    simp only [I.SharePair_s] at hh
    split at hh
    · exact ⟨rfl, fun _ => rfl⟩
    · cases hh

-- loop.example/guardsonnets/spec.SharePair
noncomputable def S.SharePair_T : List (Nat × D.Spec) := [(49, S.NetOk_s), (37, S.MostShares_s), (67, S.OtherNet_s)]
def S.SharePair_ann : Nat → List Nat × List Nat
  | _ => ([], [])
noncomputable def S.SharePair_F (args : List V) (h : List E) (κ : V → List E → R) : R := funC TD (tableK S.SharePair_T) S.SharePair_ann (drawOk TD (tableP S.SharePair_T)) FUEL Try.f44 args h κ
noncomputable def S.SharePair_tree {α : Type} (net : List Int) (leaf0_ : Int × Int → α) (fail_ : α) : α :=
  (optC (S.NetOk_t net) (fun c_1 => (bif !c_1 then (leaf0_ (-1, -1)) else (optC (S.MostShares_t net) (fun c_2 => (optC (S.OtherNet_t net) (fun c_3 => (optC (S.MostShares_t c_3) (fun c_4 => (leaf0_ (c_2, c_4))) fail_)) fail_)) fail_))) fail_)
theorem S.SharePair_tree_nat {α γ : Type} (g : α → γ) (net : List Int) (leaf0_ : Int × Int → α) (fail_ : α) : g (S.SharePair_tree net leaf0_ fail_) = S.SharePair_tree net (fun d => g (leaf0_ d)) (g fail_) := by
  unfold S.SharePair_tree; simp only [apply_cnd g, apply_optC g, apply_sumC g]
noncomputable def S.SharePair_t (net : List Int) : Option (Int × Int) := S.SharePair_tree net (fun d => some d) none
theorem S.SharePair_den (net : List Int) (κ : V → List E → R) : S.SharePair_F [.ro false (.ints .i64 net)] [] κ = optC (S.SharePair_t net) (fun (r : Int × Int) => κ (.tup [(.int .i64 r.1), (.int .i64 r.2)]) []) none := by
  have hu : S.SharePair_F [.ro false (.ints .i64 net)] [] κ = S.SharePair_tree net (fun d => κ (.tup [(.int .i64 d.1), (.int .i64 d.2)]) []) none := by
    kernel_rfl
  rw [hu]
  exact (S.SharePair_tree_nat (fun o => optC o (fun (r : Int × Int) => κ (.tup [(.int .i64 r.1), (.int .i64 r.2)]) []) none) net (fun d => some d) none).symm
noncomputable def S.SharePair_s : D.Spec where
  keep := false
  pure := true
  ds := [.int .i64]
  sp := fun args h κ => match args, h with
    | [.ro false (.ints .i64 net)], [] => optC (S.SharePair_t net) (fun (r : Int × Int) => κ (.tup [(.int .i64 r.1), (.int .i64 r.2)]) []) none
    | _, _ => none
theorem S.SharePair_ok : SpecOk Try.prog 44 S.SharePair_s := by
  refine SpecOk.of TDok mixed (T := S.SharePair_T) ?_ (ann := S.SharePair_ann) Try.func44 rfl (by decide +kernel) ?_ ?_ ?_
  · intro p hp
    simp only [S.SharePair_T, List.mem_cons, List.not_mem_nil, or_false] at hp
    rcases hp with rfl | rfl | rfl
    · exact S.NetOk_ok
    · exact S.MostShares_ok
    · exact S.OtherNet_ok
  · intro args h κ r hh
    simp only [S.SharePair_s] at hh
    split at hh
    · exact (S.SharePair_den _ κ).trans hh
    · cases hh
  · intro args h κ r hh
    simp only [S.SharePair_s] at hh ⊢
    split at hh
    · exact optC_law2 (F := fun (r : Int × Int) κ => κ (.tup [(.int .i64 r.1), (.int .i64 r.2)]) []) (fun b κ r hb => ⟨_, _, hb, fun _ => rfl⟩) hh
    · cases hh
  · intro _ args h κ r hh
    simp only [S.SharePair_s] at hh
    split at hh
    · exact ⟨rfl, fun _ => rfl⟩
    · cases hh

-- loop.example/guardsonnets/laws.FnSharePair
noncomputable def L.FnSharePair_T : List (Nat × D.Spec) := [(42, S.DrawSharePair_s), (43, I.SharePair_s), (44, S.SharePair_s), (18, I.NetOk_s), (19, L.alive_s), (45, I.OtherNet_s), (33, I.MostShares_s)]
def L.FnSharePair_ann : Nat → List Nat × List Nat
  | _ => ([], [])
noncomputable def L.FnSharePair_F (args : List V) (h : List E) (κ : V → List E → R) : R := funC TD (tableK L.FnSharePair_T) L.FnSharePair_ann (drawOk TD (tableP L.FnSharePair_T)) FUEL Try.f13 args h κ
noncomputable def L.FnSharePair_tree {α : Type} (code : List Int) (leaf0_ : Bool → α) (fail_ : α) : α :=
  (bif decide ((↑code.length : Int) > 1048576) then (leaf0_ true) else (optC (S.DrawSharePair_t code) (fun c_1 => (optC (I.SharePair_t c_1) (fun c_2 => (optC (S.SharePair_t c_1) (fun c_3 => (bif !c_2.fst == c_3.fst then (leaf0_ false) else (bif !c_2.snd == c_3.snd then (leaf0_ false) else (bif decide (c_2.fst < 0) then (bif c_2.fst == -1 then (bif c_2.snd == -1 then (optC (I.NetOk_t c_1) (fun c_4 => (bif !c_4 then (optC (L.alive_t) (fun c_5 => (leaf0_ c_5)) fail_) else (leaf0_ false))) fail_) else (leaf0_ false)) else (leaf0_ false)) else (bif decide (IntKind.i64.wrap (c_2.fst + c_2.snd) ≤ IntKind.i64.wrap ((↑c_1.length : Int) + 1)) then (bif decide (c_2.fst ≥ 1) then (bif decide (c_2.snd ≥ 1) then (optC (I.OtherNet_t c_1) (fun c_6 => (optC (I.MostShares_t c_6) (fun c_7 => (leaf0_ (c_2.snd == c_7))) fail_)) fail_) else (leaf0_ false)) else (leaf0_ false)) else (leaf0_ false)))))) fail_)) fail_)) fail_))
theorem L.FnSharePair_tree_nat {α γ : Type} (g : α → γ) (code : List Int) (leaf0_ : Bool → α) (fail_ : α) : g (L.FnSharePair_tree code leaf0_ fail_) = L.FnSharePair_tree code (fun d => g (leaf0_ d)) (g fail_) := by
  unfold L.FnSharePair_tree; simp only [apply_cnd g, apply_optC g, apply_sumC g]
noncomputable def L.FnSharePair_t (code : List Int) : Option (Bool) := L.FnSharePair_tree code (fun d => some d) none
theorem L.FnSharePair_den (code : List Int) (κ : V → List E → R) : L.FnSharePair_F [.ro true (.ints .u8 code)] [] κ = optC (L.FnSharePair_t code) (fun (r : Bool) => κ (.bool r) []) none := by
  have hu : L.FnSharePair_F [.ro true (.ints .u8 code)] [] κ = L.FnSharePair_tree code (fun d => κ (.bool d) []) none := by
    kernel_rfl
  rw [hu]
  exact (L.FnSharePair_tree_nat (fun o => optC o (fun (r : Bool) => κ (.bool r) []) none) code (fun d => some d) none).symm
noncomputable def L.FnSharePair_s : D.Spec where
  keep := true
  pure := true
  ds := [.int .u8]
  sp := fun args h κ => match args, h with
    | [.ro true (.ints .u8 code)], [] => optC (L.FnSharePair_t code) (fun (r : Bool) => κ (.bool r) []) none
    | _, _ => none
theorem L.FnSharePair_ok : SpecOk Try.prog 13 L.FnSharePair_s := by
  refine SpecOk.of TDok mixed (T := L.FnSharePair_T) ?_ (ann := L.FnSharePair_ann) Try.func13 rfl (by decide +kernel) ?_ ?_ ?_
  · intro p hp
    simp only [L.FnSharePair_T, List.mem_cons, List.not_mem_nil, or_false] at hp
    rcases hp with rfl | rfl | rfl | rfl | rfl | rfl | rfl
    · exact S.DrawSharePair_ok
    · exact I.SharePair_ok
    · exact S.SharePair_ok
    · exact I.NetOk_ok
    · exact L.alive_ok
    · exact I.OtherNet_ok
    · exact I.MostShares_ok
  · intro args h κ r hh
    simp only [L.FnSharePair_s] at hh
    split at hh
    · exact (L.FnSharePair_den _ κ).trans hh
    · cases hh
  · intro args h κ r hh
    simp only [L.FnSharePair_s] at hh ⊢
    split at hh
    · exact optC_law2 (F := fun (r : Bool) κ => κ (.bool r) []) (fun b κ r hb => ⟨_, _, hb, fun _ => rfl⟩) hh
    · cases hh
  · intro _ args h κ r hh
    simp only [L.FnSharePair_s] at hh
    split at hh
    · exact ⟨rfl, fun _ => rfl⟩
    · cases hh

-- loop.example/guardsonnets/laws.FnExactSharePair
noncomputable def L.FnExactSharePair_T : List (Nat × D.Spec) := [(22, L.toIntS_s), (44, S.SharePair_s), (43, I.SharePair_s), (23, L.eqIntS_s)]
def L.FnExactSharePair_ann : Nat → List Nat × List Nat
  | _ => ([], [])
noncomputable def L.FnExactSharePair_F (args : List V) (h : List E) (κ : V → List E → R) : R := funC TD (tableK L.FnExactSharePair_T) L.FnExactSharePair_ann (drawOk TD (tableP L.FnExactSharePair_T)) FUEL Try.f14 args h κ
noncomputable def L.FnExactSharePair_tree {α : Type} (aNet : List Int) (leaf0_ : Bool → α) (fail_ : α) : α :=
  (bif decide ((↑aNet.length : Int) > 1048576) then (leaf0_ true) else (optC (L.toIntS_t aNet) (fun c_1 => (optC (S.SharePair_t c_1) (fun c_2 => (optC (L.toIntS_t aNet) (fun c_3 => (optC (I.SharePair_t c_3) (fun c_4 => (bif !c_4.fst == c_2.fst then (leaf0_ false) else (bif !c_4.snd == c_2.snd then (leaf0_ false) else (optC (L.toIntS_t aNet) (fun c_5 => (optC (L.eqIntS_t c_3 c_5) (fun c_6 => (bif !c_6 then (leaf0_ false) else (leaf0_ true))) fail_)) fail_)))) fail_)) fail_)) fail_)) fail_))
theorem L.FnExactSharePair_tree_nat {α γ : Type} (g : α → γ) (aNet : List Int) (leaf0_ : Bool → α) (fail_ : α) : g (L.FnExactSharePair_tree aNet leaf0_ fail_) = L.FnExactSharePair_tree aNet (fun d => g (leaf0_ d)) (g fail_) := by
  unfold L.FnExactSharePair_tree; simp only [apply_cnd g, apply_optC g, apply_sumC g]
noncomputable def L.FnExactSharePair_t (aNet : List Int) : Option (Bool) := L.FnExactSharePair_tree aNet (fun d => some d) none
theorem L.FnExactSharePair_den (aNet : List Int) (κ : V → List E → R) : L.FnExactSharePair_F [.ro true (.ints .i64 aNet)] [] κ = optC (L.FnExactSharePair_t aNet) (fun (r : Bool) => κ (.bool r) []) none := by
  have hu : L.FnExactSharePair_F [.ro true (.ints .i64 aNet)] [] κ = L.FnExactSharePair_tree aNet (fun d => κ (.bool d) []) none := by
    kernel_rfl
  rw [hu]
  exact (L.FnExactSharePair_tree_nat (fun o => optC o (fun (r : Bool) => κ (.bool r) []) none) aNet (fun d => some d) none).symm
noncomputable def L.FnExactSharePair_s : D.Spec where
  keep := true
  pure := true
  ds := [.int .i64]
  sp := fun args h κ => match args, h with
    | [.ro true (.ints .i64 aNet)], [] => optC (L.FnExactSharePair_t aNet) (fun (r : Bool) => κ (.bool r) []) none
    | _, _ => none
theorem L.FnExactSharePair_ok : SpecOk Try.prog 14 L.FnExactSharePair_s := by
  refine SpecOk.of TDok mixed (T := L.FnExactSharePair_T) ?_ (ann := L.FnExactSharePair_ann) Try.func14 rfl (by decide +kernel) ?_ ?_ ?_
  · intro p hp
    simp only [L.FnExactSharePair_T, List.mem_cons, List.not_mem_nil, or_false] at hp
    rcases hp with rfl | rfl | rfl | rfl
    · exact L.toIntS_ok
    · exact S.SharePair_ok
    · exact I.SharePair_ok
    · exact L.eqIntS_ok
  · intro args h κ r hh
    simp only [L.FnExactSharePair_s] at hh
    split at hh
    · exact (L.FnExactSharePair_den _ κ).trans hh
    · cases hh
  · intro args h κ r hh
    simp only [L.FnExactSharePair_s] at hh ⊢
    split at hh
    · exact optC_law2 (F := fun (r : Bool) κ => κ (.bool r) []) (fun b κ r hb => ⟨_, _, hb, fun _ => rfl⟩) hh
    · cases hh
  · intro _ args h κ r hh
    simp only [L.FnExactSharePair_s] at hh
    split at hh
    · exact ⟨rfl, fun _ => rfl⟩
    · cases hh


end Go.Proofs.Ythcidiihfjjpdaa
