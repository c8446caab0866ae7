/- Twins of the translated functions, with their proofs. Conditions: none. -/
import Derived.Test.YtdmpbfbhgokphaaBzT2
set_option linter.unusedVariables false
set_option linter.unusedSimpArgs false
namespace Go.Proofs.Ytdmpbfbhgokphaa
open D Go.RowKit
-- loop.example/guardsonnets/spec.ForestOk
noncomputable def S.ForestOk_T : List (Nat × D.Spec) := [(57, S.NetOk_s), (58, S.l1Size_s)]
def S.ForestOk_ann : Nat → List Nat × List Nat
  | 8 => ([0, 3, 4, 5], [0, 3, 4])
  | 5 => ([0, 3, 4], [3])
  | _ => ([], [])
noncomputable def S.ForestOk_F (args : List V) (h : List E) (κ : V → List E → R) : R := funC TD (tableK S.ForestOk_T) S.ForestOk_ann (drawOk (tableP S.ForestOk_T)) FUEL Try.f43 args h κ
noncomputable def S.ForestOk_L8 (n : Nat) (σ : St) (k : X → St → R) : R := iterC 0 (fun σ k => denC TD (tableK S.ForestOk_T) S.ForestOk_ann (drawOk (tableP S.ForestOk_T)) 0 FUEL ((findLoop 8 (Try.f43.body.getD .skip)).getD .skip) σ k) [0, 3, 4, 5] [0, 3, 4] n σ k
noncomputable def S.ForestOk_L5 (n : Nat) (σ : St) (k : X → St → R) : R := iterC 0 (fun σ k => denC TD (tableK S.ForestOk_T) S.ForestOk_ann (drawOk (tableP S.ForestOk_T)) 0 FUEL ((findLoop 5 (Try.f43.body.getD .skip)).getD .skip) σ k) [0, 3, 4] [3] n σ k
noncomputable def S.ForestOk_k8 (c : (St → R) × (X → St → R)) : X → St → R := (afterC TD (tableK S.ForestOk_T) S.ForestOk_ann (drawOk (tableP S.ForestOk_T)) 0 FUEL 8 ((findLoop 5 (Try.f43.body.getD .skip)).getD .skip) (roundC 0 [0, 3, 4] [3] c.1 c.2)).getD (fun _ _ => none)
noncomputable def S.ForestOk_k5 (κ : V → List E → R) : X → St → R := (afterC TD (tableK S.ForestOk_T) S.ForestOk_ann (drawOk (tableP S.ForestOk_T)) 0 FUEL 5 (Try.f43.body.getD .skip) (finC TD 0 Try.f43 κ)).getD (fun _ _ => none)
noncomputable def S.ForestOk_step8 {α : Type} (x0 : List Int) (x3 : Int) (x4 : Bool) (x5 : Int) (next_ : Int × Bool × Int → α) (out0_ : Int × Bool → α) (fail_ : α) : α :=
  (bif decide (x5 < (↑x0.length : Int)) then (bif decide (x5 < 0) then fail_ else (bif (x3.fdiv (2 ^ min x5.toNat IntKind.i64.bits)).tmod 2 == 1 then (bif decide (0 ≤ x5) && decide (x5 < (↑x0.length : Int)) then (optC (S.l1Size_t (bits BinOp.and IntKind.i64 (eli x0 x5.toNat) x3)) (fun c_2 => (bif decide (c_2 < 2) then (bif decide (x5 < 0) then fail_ else (next_ (bits BinOp.andNot IntKind.i64 x3 (IntKind.i64.wrap (1 * 2 ^ min x5.toNat IntKind.i64.bits)), true, IntKind.i64.wrap (x5 + 1)))) else (next_ (x3, x4, IntKind.i64.wrap (x5 + 1))))) fail_) else fail_) else (next_ (x3, x4, IntKind.i64.wrap (x5 + 1))))) else (out0_ (x3, x4)))
theorem S.ForestOk_step8_nat {α γ : Type} (g : α → γ) (x0 : List Int) (x3 : Int) (x4 : Bool) (x5 : Int) (next_ : Int × Bool × Int → α) (out0_ : Int × Bool → α) (fail_ : α) : g (S.ForestOk_step8 x0 x3 x4 x5 next_ out0_ fail_) = S.ForestOk_step8 x0 x3 x4 x5 (fun s => g (next_ s)) (fun d => g (out0_ d)) (g fail_) := by
  unfold S.ForestOk_step8; simp only [apply_cnd g, apply_optC g, apply_sumC g]
noncomputable def S.ForestOk_run8 (x0 : List Int) : Nat → Int × Bool × Int → Option (Int × Bool)
  | 0, _ => none
  | n + 1, s_ => S.ForestOk_step8 x0 s_.1 s_.2.1 s_.2.2 (S.ForestOk_run8 x0 n) (fun d => some d) none
theorem S.ForestOk_L8_run (x0 : List Int) (n : Nat) (s_ : Int × Bool × Int) (k : X → St → R) : S.ForestOk_L8 n { n := 41, t := [(0, (.ro false (.ints .i64 x0))), (3, (.int .i64 s_.1)), (4, (.bool s_.2.1)), (5, (.int .i64 s_.2.2))], h := [] } k = optC (S.ForestOk_run8 x0 n s_) (fun (r : Int × Bool) => k (.exit 2) { n := 41, t := [(0, (.ro false (.ints .i64 x0))), (3, (.int .i64 r.1)), (4, (.bool r.2))], h := [] }) none := by
  induction n generalizing s_ with
  | zero => rfl
  | succ n ih =>
    have hu : S.ForestOk_L8 (n + 1) { n := 41, t := [(0, (.ro false (.ints .i64 x0))), (3, (.int .i64 s_.1)), (4, (.bool s_.2.1)), (5, (.int .i64 s_.2.2))], h := [] } k = S.ForestOk_step8 x0 s_.1 s_.2.1 s_.2.2 (fun s_ => S.ForestOk_L8 n { n := 41, t := [(0, (.ro false (.ints .i64 x0))), (3, (.int .i64 s_.1)), (4, (.bool s_.2.1)), (5, (.int .i64 s_.2.2))], h := [] } k) (fun d => k (.exit 2) { n := 41, t := [(0, (.ro false (.ints .i64 x0))), (3, (.int .i64 d.1)), (4, (.bool d.2))], h := [] }) none := by
      kernel_rfl
    have hs : (fun s_ : Int × Bool × Int => S.ForestOk_L8 n { n := 41, t := [(0, (.ro false (.ints .i64 x0))), (3, (.int .i64 s_.1)), (4, (.bool s_.2.1)), (5, (.int .i64 s_.2.2))], h := [] } k) = fun s_ => optC (S.ForestOk_run8 x0 n s_) (fun (r : Int × Bool) => k (.exit 2) { n := 41, t := [(0, (.ro false (.ints .i64 x0))), (3, (.int .i64 r.1)), (4, (.bool r.2))], h := [] }) none := funext ih
    rw [hu, hs]
    exact (S.ForestOk_step8_nat (fun o => optC o (fun (r : Int × Bool) => k (.exit 2) { n := 41, t := [(0, (.ro false (.ints .i64 x0))), (3, (.int .i64 r.1)), (4, (.bool r.2))], h := [] }) none) x0 s_.1 s_.2.1 s_.2.2 (S.ForestOk_run8 x0 n) (fun d => some d) none).symm
noncomputable def S.ForestOk_step5 {α : Type} (x0 : List Int) (x3 : Int) (x4 : Bool) (next_ : Int × Bool → α) (out0_ : Int → α) (fail_ : α) : α :=
  (bif x4 then (optC (S.ForestOk_run8 x0 FUEL (x3, false, 0)) (fun qy_3 => (next_ (qy_3.1, qy_3.2))) fail_) else (out0_ x3))
theorem S.ForestOk_step5_nat {α γ : Type} (g : α → γ) (x0 : List Int) (x3 : Int) (x4 : Bool) (next_ : Int × Bool → α) (out0_ : Int → α) (fail_ : α) : g (S.ForestOk_step5 x0 x3 x4 next_ out0_ fail_) = S.ForestOk_step5 x0 x3 x4 (fun s => g (next_ s)) (fun d => g (out0_ d)) (g fail_) := by
  unfold S.ForestOk_step5; simp only [apply_cnd g, apply_optC g, apply_sumC g]
noncomputable def S.ForestOk_run5 (x0 : List Int) : Nat → Int × Bool → Option (Int)
  | 0, _ => none
  | n + 1, s_ => S.ForestOk_step5 x0 s_.1 s_.2 (S.ForestOk_run5 x0 n) (fun d => some d) none
theorem S.ForestOk_L5_run (x0 : List Int) (n : Nat) (s_ : Int × Bool) (k : X → St → R) : S.ForestOk_L5 n { n := 41, t := [(0, (.ro false (.ints .i64 x0))), (3, (.int .i64 s_.1)), (4, (.bool s_.2))], h := [] } k = optC (S.ForestOk_run5 x0 n s_) (fun (r : Int) => k (.exit 0) { n := 41, t := [(3, (.int .i64 r))], h := [] }) none := by
  induction n generalizing s_ with
  | zero => rfl
  | succ n ih =>
    have hu : S.ForestOk_L5 (n + 1) { n := 41, t := [(0, (.ro false (.ints .i64 x0))), (3, (.int .i64 s_.1)), (4, (.bool s_.2))], h := [] } k = S.ForestOk_step5 x0 s_.1 s_.2 (fun s_ => S.ForestOk_L5 n { n := 41, t := [(0, (.ro false (.ints .i64 x0))), (3, (.int .i64 s_.1)), (4, (.bool s_.2))], h := [] } k) (fun d => k (.exit 0) { n := 41, t := [(3, (.int .i64 d))], h := [] }) none := by
      refine Eq.trans (show S.ForestOk_L5 (n + 1) { n := 41, t := [(0, (.ro false (.ints .i64 x0))), (3, (.int .i64 s_.1)), (4, (.bool s_.2))], h := [] } k = (bif s_.2 then (S.ForestOk_L8 FUEL { n := 41, t := [(0, (.ro false (.ints .i64 x0))), (3, (.int .i64 s_.1)), (4, (.bool false)), (5, (.int .i64 0))], h := [] } (S.ForestOk_k8 ((fun σ => S.ForestOk_L5 n σ k), k))) else (k (.exit 0) { n := 41, t := [(3, (.int .i64 s_.1))], h := [] })) by kernel_rfl) ?_
      refine cnd_congr ?_ ?_
      · refine (S.ForestOk_L8_run x0 FUEL (s_.1, false, 0) (S.ForestOk_k8 ((fun σ => S.ForestOk_L5 n σ k), k))).trans (optC_congr (fun qy_3 => ?_))
        kernel_rfl
      · kernel_rfl
    have hs : (fun s_ : Int × Bool => S.ForestOk_L5 n { n := 41, t := [(0, (.ro false (.ints .i64 x0))), (3, (.int .i64 s_.1)), (4, (.bool s_.2))], h := [] } k) = fun s_ => optC (S.ForestOk_run5 x0 n s_) (fun (r : Int) => k (.exit 0) { n := 41, t := [(3, (.int .i64 r))], h := [] }) none := funext ih
    rw [hu, hs]
    exact (S.ForestOk_step5_nat (fun o => optC o (fun (r : Int) => k (.exit 0) { n := 41, t := [(3, (.int .i64 r))], h := [] }) none) x0 s_.1 s_.2 (S.ForestOk_run5 x0 n) (fun d => some d) none).symm
noncomputable def S.ForestOk_tree {α : Type} (net : List Int) (leaf0_ : Bool → α) (fail_ : α) : α :=
  (optC (S.NetOk_t net) (fun c_1 => (bif !c_1 then (leaf0_ false) else (optC (S.ForestOk_run5 net FUEL (IntKind.i64.wrap (IntKind.i64.wrap (1 * 2 ^ min (↑net.length : Int).toNat IntKind.i64.bits) - 1), true)) (fun qy_4 => (leaf0_ (qy_4 == 0))) fail_))) fail_)
theorem S.ForestOk_tree_nat {α γ : Type} (g : α → γ) (net : List Int) (leaf0_ : Bool → α) (fail_ : α) : g (S.ForestOk_tree net leaf0_ fail_) = S.ForestOk_tree net (fun d => g (leaf0_ d)) (g fail_) := by
  unfold S.ForestOk_tree; simp only [apply_cnd g, apply_optC g, apply_sumC g]
noncomputable def S.ForestOk_t (net : List Int) : Option (Bool) := S.ForestOk_tree net (fun d => some d) none
theorem S.ForestOk_den (net : List Int) (κ : V → List E → R) : S.ForestOk_F [.ro false (.ints .i64 net)] [] κ = optC (S.ForestOk_t net) (fun (r : Bool) => κ (.bool r) []) none := by
  have hu : S.ForestOk_F [.ro false (.ints .i64 net)] [] κ = S.ForestOk_tree net (fun d => κ (.bool d) []) none := by
    refine Eq.trans (show S.ForestOk_F [.ro false (.ints .i64 net)] [] κ = (optC (S.NetOk_t net) (fun c_1 => (bif !c_1 then (κ (.bool false) []) else (S.ForestOk_L5 FUEL { n := 41, t := [(0, (.ro false (.ints .i64 net))), (3, (.int .i64 (IntKind.i64.wrap (IntKind.i64.wrap (1 * 2 ^ min (↑net.length : Int).toNat IntKind.i64.bits) - 1)))), (4, (.bool true))], h := [] } (S.ForestOk_k5 κ)))) none) by kernel_rfl) ?_
    refine optC_congr (fun c_1 => ?_)
    refine cnd_congr ?_ ?_
    · kernel_rfl
    · refine (S.ForestOk_L5_run net FUEL (IntKind.i64.wrap (IntKind.i64.wrap (1 * 2 ^ min (↑net.length : Int).toNat IntKind.i64.bits) - 1), true) (S.ForestOk_k5 κ)).trans (optC_congr (fun qy_4 => ?_))
      kernel_rfl
  rw [hu]
  exact (S.ForestOk_tree_nat (fun o => optC o (fun (r : Bool) => κ (.bool r) []) none) net (fun d => some d) none).symm
noncomputable def S.ForestOk_s : D.Spec where
  keep := false
  pure := true
  ds := [.int .i64]
  sp := fun args h κ => match args, h with
    | [.ro false (.ints .i64 net)], [] => optC (S.ForestOk_t net) (fun (r : Bool) => κ (.bool r) []) none
    | _, _ => none
theorem S.ForestOk_ok : SpecOk Try.prog 43 S.ForestOk_s := by
  refine SpecOk.of TDok mixed (T := S.ForestOk_T) ?_ (ann := S.ForestOk_ann) Try.func43 rfl (by decide +kernel) ?_ ?_ ?_
  · intro p hp
    simp only [S.ForestOk_T, List.mem_cons, List.not_mem_nil, or_false] at hp
    rcases hp with rfl | rfl
    · exact S.NetOk_ok
    · exact S.l1Size_ok
  · intro args h κ r hh
    simp only [S.ForestOk_s] at hh
    split at hh
    · exact (S.ForestOk_den _ κ).trans hh
    · cases hh
  · intro args h κ r hh
    simp only [S.ForestOk_s] at hh ⊢
    split at hh
    · exact optC_law2 (F := fun (r : Bool) κ => κ (.bool r) []) (fun b κ r hb => ⟨_, _, hb, fun _ => rfl⟩) hh
    · cases hh
  · intro _ args h κ r hh
    simp only [S.ForestOk_s] at hh
    split at hh
    · exact ⟨rfl, fun _ => rfl⟩
    · cases hh

-- loop.example/guardsonnets/impl.WiresOf
noncomputable def I.WiresOf_T : List (Nat × D.Spec) := [(27, I.NetOk_s), (56, I.sizeOf_s)]
def I.WiresOf_ann : Nat → List Nat × List Nat
  | 5 => ([0, 3, 4], [3])
  | _ => ([], [])
noncomputable def I.WiresOf_F (args : List V) (h : List E) (κ : V → List E → R) : R := funC TD (tableK I.WiresOf_T) I.WiresOf_ann (drawOk (tableP I.WiresOf_T)) FUEL Try.f44 args h κ
noncomputable def I.WiresOf_L5 (n : Nat) (σ : St) (k : X → St → R) : R := iterC 0 (fun σ k => denC TD (tableK I.WiresOf_T) I.WiresOf_ann (drawOk (tableP I.WiresOf_T)) 0 FUEL ((findLoop 5 (Try.f44.body.getD .skip)).getD .skip) σ k) [0, 3, 4] [3] n σ k
noncomputable def I.WiresOf_k5 (κ : V → List E → R) : X → St → R := (afterC TD (tableK I.WiresOf_T) I.WiresOf_ann (drawOk (tableP I.WiresOf_T)) 0 FUEL 5 (Try.f44.body.getD .skip) (finC TD 0 Try.f44 κ)).getD (fun _ _ => none)
noncomputable def I.WiresOf_step5 {α : Type} (x0 : List Int) (x3 : Int) (x4 : Int) (next_ : Int × Int → α) (out0_ : Int → α) (fail_ : α) : α :=
  (bif decide (x4 < (↑x0.length : Int)) then (bif decide (0 ≤ x4) && decide (x4 < (↑x0.length : Int)) then (optC (I.sizeOf_t (eli x0 x4.toNat)) (fun c_2 => (next_ (IntKind.i64.wrap (x3 + c_2), IntKind.i64.wrap (x4 + 1)))) fail_) else fail_) else (out0_ x3))
theorem I.WiresOf_step5_nat {α γ : Type} (g : α → γ) (x0 : List Int) (x3 : Int) (x4 : Int) (next_ : Int × Int → α) (out0_ : Int → α) (fail_ : α) : g (I.WiresOf_step5 x0 x3 x4 next_ out0_ fail_) = I.WiresOf_step5 x0 x3 x4 (fun s => g (next_ s)) (fun d => g (out0_ d)) (g fail_) := by
  unfold I.WiresOf_step5; simp only [apply_cnd g, apply_optC g, apply_sumC g]
noncomputable def I.WiresOf_run5 (x0 : List Int) : Nat → Int × Int → Option (Int)
  | 0, _ => none
  | n + 1, s_ => I.WiresOf_step5 x0 s_.1 s_.2 (I.WiresOf_run5 x0 n) (fun d => some d) none
theorem I.WiresOf_L5_run (x0 : List Int) (n : Nat) (s_ : Int × Int) (k : X → St → R) : I.WiresOf_L5 n { n := 23, t := [(0, (.ro false (.ints .i64 x0))), (3, (.int .i64 s_.1)), (4, (.int .i64 s_.2))], h := [] } k = optC (I.WiresOf_run5 x0 n s_) (fun (r : Int) => k (.exit 0) { n := 23, t := [(3, (.int .i64 r))], h := [] }) none := by
  induction n generalizing s_ with
  | zero => rfl
  | succ n ih =>
    have hu : I.WiresOf_L5 (n + 1) { n := 23, t := [(0, (.ro false (.ints .i64 x0))), (3, (.int .i64 s_.1)), (4, (.int .i64 s_.2))], h := [] } k = I.WiresOf_step5 x0 s_.1 s_.2 (fun s_ => I.WiresOf_L5 n { n := 23, t := [(0, (.ro false (.ints .i64 x0))), (3, (.int .i64 s_.1)), (4, (.int .i64 s_.2))], h := [] } k) (fun d => k (.exit 0) { n := 23, t := [(3, (.int .i64 d))], h := [] }) none := by
      kernel_rfl
    have hs : (fun s_ : Int × Int => I.WiresOf_L5 n { n := 23, t := [(0, (.ro false (.ints .i64 x0))), (3, (.int .i64 s_.1)), (4, (.int .i64 s_.2))], h := [] } k) = fun s_ => optC (I.WiresOf_run5 x0 n s_) (fun (r : Int) => k (.exit 0) { n := 23, t := [(3, (.int .i64 r))], h := [] }) none := funext ih
    rw [hu, hs]
    exact (I.WiresOf_step5_nat (fun o => optC o (fun (r : Int) => k (.exit 0) { n := 23, t := [(3, (.int .i64 r))], h := [] }) none) x0 s_.1 s_.2 (I.WiresOf_run5 x0 n) (fun d => some d) none).symm
noncomputable def I.WiresOf_tree {α : Type} (net : List Int) (leaf0_ : Int → α) (fail_ : α) : α :=
  (optC (I.NetOk_t net) (fun c_1 => (bif !c_1 then (leaf0_ (-1)) else (optC (I.WiresOf_run5 net FUEL (0, 0)) (fun qy_3 => (leaf0_ (IntKind.i64.wrap (qy_3.tdiv 2)))) fail_))) fail_)
theorem I.WiresOf_tree_nat {α γ : Type} (g : α → γ) (net : List Int) (leaf0_ : Int → α) (fail_ : α) : g (I.WiresOf_tree net leaf0_ fail_) = I.WiresOf_tree net (fun d => g (leaf0_ d)) (g fail_) := by
  unfold I.WiresOf_tree; simp only [apply_cnd g, apply_optC g, apply_sumC g]
noncomputable def I.WiresOf_t (net : List Int) : Option (Int) := I.WiresOf_tree net (fun d => some d) none
theorem I.WiresOf_den (net : List Int) (κ : V → List E → R) : I.WiresOf_F [.ro false (.ints .i64 net)] [] κ = optC (I.WiresOf_t net) (fun (r : Int) => κ (.int .i64 r) []) none := by
  have hu : I.WiresOf_F [.ro false (.ints .i64 net)] [] κ = I.WiresOf_tree net (fun d => κ (.int .i64 d) []) none := by
    refine Eq.trans (show I.WiresOf_F [.ro false (.ints .i64 net)] [] κ = (optC (I.NetOk_t net) (fun c_1 => (bif !c_1 then (κ (.int .i64 (-1)) []) else (I.WiresOf_L5 FUEL { n := 23, t := [(0, (.ro false (.ints .i64 net))), (3, (.int .i64 0)), (4, (.int .i64 0))], h := [] } (I.WiresOf_k5 κ)))) none) by kernel_rfl) ?_
    refine optC_congr (fun c_1 => ?_)
    refine cnd_congr ?_ ?_
    · kernel_rfl
    · refine (I.WiresOf_L5_run net FUEL (0, 0) (I.WiresOf_k5 κ)).trans (optC_congr (fun qy_3 => ?_))
      kernel_rfl
  rw [hu]
  exact (I.WiresOf_tree_nat (fun o => optC o (fun (r : Int) => κ (.int .i64 r) []) none) net (fun d => some d) none).symm
noncomputable def I.WiresOf_s : D.Spec where
  keep := false
  pure := true
  ds := [.int .i64]
  sp := fun args h κ => match args, h with
    | [.ro false (.ints .i64 net)], [] => optC (I.WiresOf_t net) (fun (r : Int) => κ (.int .i64 r) []) none
    | _, _ => none
theorem I.WiresOf_ok : SpecOk Try.prog 44 I.WiresOf_s := by
  refine SpecOk.of TDok mixed (T := I.WiresOf_T) ?_ (ann := I.WiresOf_ann) Try.func44 rfl (by decide +kernel) ?_ ?_ ?_
  · intro p hp
    simp only [I.WiresOf_T, List.mem_cons, List.not_mem_nil, or_false] at hp
    rcases hp with rfl | rfl
    · exact I.NetOk_ok
    · exact I.sizeOf_ok
  · intro args h κ r hh
    simp only [I.WiresOf_s] at hh
    split at hh
    · exact (I.WiresOf_den _ κ).trans hh
    · cases hh
  · intro args h κ r hh
    simp only [I.WiresOf_s] at hh ⊢
    split at hh
    · exact optC_law2 (F := fun (r : Int) κ => κ (.int .i64 r) []) (fun b κ r hb => ⟨_, _, hb, fun _ => rfl⟩) hh
    · cases hh
  · intro _ args h κ r hh
    simp only [I.WiresOf_s] at hh
    split at hh
    · exact ⟨rfl, fun _ => rfl⟩
    · cases hh

-- loop.example/guardsonnets/laws.FnForestOk
noncomputable def L.FnForestOk_T : List (Nat × D.Spec) := [(42, S.DrawForestOk_s), (30, I.ForestOk_s), (43, S.ForestOk_s), (27, I.NetOk_s), (19, L.alive_s), (44, I.WiresOf_s), (29, I.PartMany_s)]
def L.FnForestOk_ann : Nat → List Nat × List Nat
  | _ => ([], [])
noncomputable def L.FnForestOk_F (args : List V) (h : List E) (κ : V → List E → R) : R := funC TD (tableK L.FnForestOk_T) L.FnForestOk_ann (drawOk (tableP L.FnForestOk_T)) FUEL Try.f13 args h κ
noncomputable def L.FnForestOk_tree {α : Type} (code : List Int) (leaf0_ : Bool → α) (fail_ : α) : α :=
  (bif decide ((↑code.length : Int) > 1048576) then (leaf0_ true) else (optC (S.DrawForestOk_t code) (fun c_1 => (optC (I.ForestOk_t c_1) (fun c_2 => (optC (S.ForestOk_t c_1) (fun c_3 => (bif !c_2 == c_3 then (leaf0_ false) else (optC (I.NetOk_t c_1) (fun c_4 => (bif !c_4 then (bif !c_2 then (optC (L.alive_t) (fun c_5 => (leaf0_ c_5)) fail_) else (leaf0_ false)) else (optC (I.WiresOf_t c_1) (fun c_6 => (optC (I.PartMany_t c_1) (fun c_7 => (bif c_2 == (IntKind.i64.wrap (c_6 + c_7) == (↑c_1.length : Int)) then (optC (L.alive_t) (fun c_8 => (leaf0_ c_8)) fail_) else (leaf0_ false))) fail_)) fail_))) fail_))) fail_)) fail_)) fail_))
theorem L.FnForestOk_tree_nat {α γ : Type} (g : α → γ) (code : List Int) (leaf0_ : Bool → α) (fail_ : α) : g (L.FnForestOk_tree code leaf0_ fail_) = L.FnForestOk_tree code (fun d => g (leaf0_ d)) (g fail_) := by
  unfold L.FnForestOk_tree; simp only [apply_cnd g, apply_optC g, apply_sumC g]
noncomputable def L.FnForestOk_t (code : List Int) : Option (Bool) := L.FnForestOk_tree code (fun d => some d) none
theorem L.FnForestOk_den (code : List Int) (κ : V → List E → R) : L.FnForestOk_F [.ro true (.ints .u8 code)] [] κ = optC (L.FnForestOk_t code) (fun (r : Bool) => κ (.bool r) []) none := by
  have hu : L.FnForestOk_F [.ro true (.ints .u8 code)] [] κ = L.FnForestOk_tree code (fun d => κ (.bool d) []) none := by
    kernel_rfl
  rw [hu]
  exact (L.FnForestOk_tree_nat (fun o => optC o (fun (r : Bool) => κ (.bool r) []) none) code (fun d => some d) none).symm
noncomputable def L.FnForestOk_s : D.Spec where
  keep := true
  pure := true
  ds := [.int .u8]
  sp := fun args h κ => match args, h with
    | [.ro true (.ints .u8 code)], [] => optC (L.FnForestOk_t code) (fun (r : Bool) => κ (.bool r) []) none
    | _, _ => none
theorem L.FnForestOk_ok : SpecOk Try.prog 13 L.FnForestOk_s := by
  refine SpecOk.of TDok mixed (T := L.FnForestOk_T) ?_ (ann := L.FnForestOk_ann) Try.func13 rfl (by decide +kernel) ?_ ?_ ?_
  · intro p hp
    simp only [L.FnForestOk_T, List.mem_cons, List.not_mem_nil, or_false] at hp
    rcases hp with rfl | rfl | rfl | rfl | rfl | rfl | rfl
    · exact S.DrawForestOk_ok
    · exact I.ForestOk_ok
    · exact S.ForestOk_ok
    · exact I.NetOk_ok
    · exact L.alive_ok
    · exact I.WiresOf_ok
    · exact I.PartMany_ok
  · intro args h κ r hh
    simp only [L.FnForestOk_s] at hh
    split at hh
    · exact (L.FnForestOk_den _ κ).trans hh
    · cases hh
  · intro args h κ r hh
    simp only [L.FnForestOk_s] at hh ⊢
    split at hh
    · exact optC_law2 (F := fun (r : Bool) κ => κ (.bool r) []) (fun b κ r hb => ⟨_, _, hb, fun _ => rfl⟩) hh
    · cases hh
  · intro _ args h κ r hh
    simp only [L.FnForestOk_s] at hh
    split at hh
    · exact ⟨rfl, fun _ => rfl⟩
    · cases hh

-- loop.example/guardsonnets/laws.FnExactForestOk
noncomputable def L.FnExactForestOk_T : List (Nat × D.Spec) := [(22, L.toIntS_s), (43, S.ForestOk_s), (30, I.ForestOk_s), (23, L.eqIntS_s)]
def L.FnExactForestOk_ann : Nat → List Nat × List Nat
  | _ => ([], [])
noncomputable def L.FnExactForestOk_F (args : List V) (h : List E) (κ : V → List E → R) : R := funC TD (tableK L.FnExactForestOk_T) L.FnExactForestOk_ann (drawOk (tableP L.FnExactForestOk_T)) FUEL Try.f14 args h κ
noncomputable def L.FnExactForestOk_tree {α : Type} (aNet : List Int) (leaf0_ : Bool → α) (fail_ : α) : α :=
  (bif decide ((↑aNet.length : Int) > 1048576) then (leaf0_ true) else (optC (L.toIntS_t aNet) (fun c_1 => (optC (S.ForestOk_t c_1) (fun c_2 => (optC (L.toIntS_t aNet) (fun c_3 => (optC (I.ForestOk_t c_3) (fun c_4 => (bif !c_4 == c_2 then (leaf0_ false) else (optC (L.toIntS_t aNet) (fun c_5 => (optC (L.eqIntS_t c_3 c_5) (fun c_6 => (bif !c_6 then (leaf0_ false) else (leaf0_ true))) fail_)) fail_))) fail_)) fail_)) fail_)) fail_))
theorem L.FnExactForestOk_tree_nat {α γ : Type} (g : α → γ) (aNet : List Int) (leaf0_ : Bool → α) (fail_ : α) : g (L.FnExactForestOk_tree aNet leaf0_ fail_) = L.FnExactForestOk_tree aNet (fun d => g (leaf0_ d)) (g fail_) := by
  unfold L.FnExactForestOk_tree; simp only [apply_cnd g, apply_optC g, apply_sumC g]
noncomputable def L.FnExactForestOk_t (aNet : List Int) : Option (Bool) := L.FnExactForestOk_tree aNet (fun d => some d) none
theorem L.FnExactForestOk_den (aNet : List Int) (κ : V → List E → R) : L.FnExactForestOk_F [.ro true (.ints .i64 aNet)] [] κ = optC (L.FnExactForestOk_t aNet) (fun (r : Bool) => κ (.bool r) []) none := by
  have hu : L.FnExactForestOk_F [.ro true (.ints .i64 aNet)] [] κ = L.FnExactForestOk_tree aNet (fun d => κ (.bool d) []) none := by
    kernel_rfl
  rw [hu]
  exact (L.FnExactForestOk_tree_nat (fun o => optC o (fun (r : Bool) => κ (.bool r) []) none) aNet (fun d => some d) none).symm
noncomputable def L.FnExactForestOk_s : D.Spec where
  keep := true
  pure := true
  ds := [.int .i64]
  sp := fun args h κ => match args, h with
    | [.ro true (.ints .i64 aNet)], [] => optC (L.FnExactForestOk_t aNet) (fun (r : Bool) => κ (.bool r) []) none
    | _, _ => none
theorem L.FnExactForestOk_ok : SpecOk Try.prog 14 L.FnExactForestOk_s := by
  refine SpecOk.of TDok mixed (T := L.FnExactForestOk_T) ?_ (ann := L.FnExactForestOk_ann) Try.func14 rfl (by decide +kernel) ?_ ?_ ?_
  · intro p hp
    simp only [L.FnExactForestOk_T, List.mem_cons, List.not_mem_nil, or_false] at hp
    rcases hp with rfl | rfl | rfl | rfl
    · exact L.toIntS_ok
    · exact S.ForestOk_ok
    · exact I.ForestOk_ok
    · exact L.eqIntS_ok
  · intro args h κ r hh
    simp only [L.FnExactForestOk_s] at hh
    split at hh
    · exact (L.FnExactForestOk_den _ κ).trans hh
    · cases hh
  · intro args h κ r hh
    simp only [L.FnExactForestOk_s] at hh ⊢
    split at hh
    · exact optC_law2 (F := fun (r : Bool) κ => κ (.bool r) []) (fun b κ r hb => ⟨_, _, hb, fun _ => rfl⟩) hh
    · cases hh
  · intro _ args h κ r hh
    simp only [L.FnExactForestOk_s] at hh
    split at hh
    · exact ⟨rfl, fun _ => rfl⟩
    · cases hh


end Go.Proofs.Ytdmpbfbhgokphaa
