/- Twins of the translated functions, with their proofs. Conditions: none. -/
import Derived.Test.YtaidofcjijkbjaaBzT2
set_option linter.unusedVariables false
set_option linter.unusedSimpArgs false
set_option linter.unusedSectionVars false
namespace Go.Proofs.Ytaidofcjijkbjaa
open D Go.RowKit
-- loop.example/guardsonnets/spec.l6Tree
noncomputable def S.l6Tree_T : List (Nat × D.Spec) := []
def S.l6Tree_ann : Nat → List Nat × List Nat
  | 3 => ([1, 2, 7, 8], [7])
  | _ => ([], [])
noncomputable def S.l6Tree_F (args : List V) (h : List E) (κ : V → List E → R) : R := funC TD (tableK S.l6Tree_T) S.l6Tree_ann (drawOk TD (tableP S.l6Tree_T)) FUEL Try.f62 args h κ
noncomputable def S.l6Tree_L3 (n : Nat) (σ : St) (k : X → St → R) : R := iterC 0 (fun σ k => denC TD (tableK S.l6Tree_T) S.l6Tree_ann (drawOk TD (tableP S.l6Tree_T)) 0 FUEL ((findLoop 3 (Try.f62.body.getD .skip)).getD .skip) σ k) [1, 2, 7, 8] [7] n σ k
noncomputable def S.l6Tree_k3 (κ : V → List E → R) : X → St → R := (afterC TD (tableK S.l6Tree_T) S.l6Tree_ann (drawOk TD (tableP S.l6Tree_T)) 0 FUEL 3 (Try.f62.body.getD .skip) (finC TD 0 Try.f62 κ)).getD (fun _ _ => none)
noncomputable def S.l6Tree_step3 {α : Type} (x1 : List (List Int)) (x2 : Int) (x8 : Int) (r0 : List Int) (next_ : Int × (List Int) → α) (out0_ : List Int → α) (fail_ : α) : α :=
  (bif decide (x8 < (↑x1.length : Int)) then (bif decide (x8 < 0) then fail_ else (bif (x2.fdiv (2 ^ min x8.toNat IntKind.i64.bits)).tmod 2 == 1 then (bif decide (0 ≤ x8) && decide (x8 < (↑x1.length : Int)) then (bif decide (0 < (↑(elr x1 x8.toNat).length : Int)) then (bif decide (0 ≤ x8) && decide (x8 < (↑x1.length : Int)) then (bif decide (1 < (↑(elr x1 x8.toNat).length : Int)) then (bif decide (0 ≤ eli (elr x1 x8.toNat) (Int.toNat 0)) && decide (eli (elr x1 x8.toNat) (Int.toNat 0) < (↑r0.length : Int)) then (bif decide ((eli (elr x1 x8.toNat) (Int.toNat 0)).toNat < r0.length) then (bif decide (eli (elr x1 x8.toNat) (Int.toNat 1) < 0) then fail_ else (bif decide (0 ≤ eli (elr x1 x8.toNat) (Int.toNat 0)) && decide (eli (elr x1 x8.toNat) (Int.toNat 0) < (↑r0.length : Int)) then (bif decide ((eli (elr x1 x8.toNat) (Int.toNat 0)).toNat < r0.length) then (bif decide (0 ≤ eli (elr x1 x8.toNat) (Int.toNat 1)) && decide (eli (elr x1 x8.toNat) (Int.toNat 1) < (↑(r0.set (eli (elr x1 x8.toNat) (Int.toNat 0)).toNat (bits BinOp.or IntKind.i64 (eli r0 (eli (elr x1 x8.toNat) (Int.toNat 0)).toNat) (IntKind.i64.wrap (1 * 2 ^ min (eli (elr x1 x8.toNat) (Int.toNat 1)).toNat IntKind.i64.bits)))).length : Int)) then (bif decide ((eli (elr x1 x8.toNat) (Int.toNat 1)).toNat < (r0.set (eli (elr x1 x8.toNat) (Int.toNat 0)).toNat (bits BinOp.or IntKind.i64 (eli r0 (eli (elr x1 x8.toNat) (Int.toNat 0)).toNat) (IntKind.i64.wrap (1 * 2 ^ min (eli (elr x1 x8.toNat) (Int.toNat 1)).toNat IntKind.i64.bits)))).length) then (bif decide (eli (elr x1 x8.toNat) (Int.toNat 0) < 0) then fail_ else (bif decide (0 ≤ eli (elr x1 x8.toNat) (Int.toNat 1)) && decide (eli (elr x1 x8.toNat) (Int.toNat 1) < (↑(r0.set (eli (elr x1 x8.toNat) (Int.toNat 0)).toNat (bits BinOp.or IntKind.i64 (eli r0 (eli (elr x1 x8.toNat) (Int.toNat 0)).toNat) (IntKind.i64.wrap (1 * 2 ^ min (eli (elr x1 x8.toNat) (Int.toNat 1)).toNat IntKind.i64.bits)))).length : Int)) then (bif decide ((eli (elr x1 x8.toNat) (Int.toNat 1)).toNat < (r0.set (eli (elr x1 x8.toNat) (Int.toNat 0)).toNat (bits BinOp.or IntKind.i64 (eli r0 (eli (elr x1 x8.toNat) (Int.toNat 0)).toNat) (IntKind.i64.wrap (1 * 2 ^ min (eli (elr x1 x8.toNat) (Int.toNat 1)).toNat IntKind.i64.bits)))).length) then (next_ (IntKind.i64.wrap (x8 + 1), (r0.set (eli (elr x1 x8.toNat) (Int.toNat 0)).toNat (bits BinOp.or IntKind.i64 (eli r0 (eli (elr x1 x8.toNat) (Int.toNat 0)).toNat) (IntKind.i64.wrap (1 * 2 ^ min (eli (elr x1 x8.toNat) (Int.toNat 1)).toNat IntKind.i64.bits)))).set (eli (elr x1 x8.toNat) (Int.toNat 1)).toNat (bits BinOp.or IntKind.i64 (eli (r0.set (eli (elr x1 x8.toNat) (Int.toNat 0)).toNat (bits BinOp.or IntKind.i64 (eli r0 (eli (elr x1 x8.toNat) (Int.toNat 0)).toNat) (IntKind.i64.wrap (1 * 2 ^ min (eli (elr x1 x8.toNat) (Int.toNat 1)).toNat IntKind.i64.bits)))) (eli (elr x1 x8.toNat) (Int.toNat 1)).toNat) (IntKind.i64.wrap (1 * 2 ^ min (eli (elr x1 x8.toNat) (Int.toNat 0)).toNat IntKind.i64.bits))))) else fail_) else fail_)) else fail_) else fail_) else fail_) else fail_)) else fail_) else fail_) else fail_) else fail_) else fail_) else fail_) else (next_ (IntKind.i64.wrap (x8 + 1), r0)))) else (out0_ r0))
theorem S.l6Tree_step3_nat {α γ : Type} (g : α → γ) (x1 : List (List Int)) (x2 : Int) (x8 : Int) (r0 : List Int) (next_ : Int × (List Int) → α) (out0_ : List Int → α) (fail_ : α) : g (S.l6Tree_step3 x1 x2 x8 r0 next_ out0_ fail_) = S.l6Tree_step3 x1 x2 x8 r0 (fun s => g (next_ s)) (fun d => g (out0_ d)) (g fail_) := by
  unfold S.l6Tree_step3; simp only [apply_cnd g, apply_optC g, apply_sumC g]
noncomputable def S.l6Tree_run3 (x1 : List (List Int)) (x2 : Int) : Nat → Int × (List Int) → Option (List Int)
  | 0, _ => none
  | n + 1, s_ => S.l6Tree_step3 x1 x2 s_.1 s_.2 (S.l6Tree_run3 x1 x2 n) (fun d => some d) none
theorem S.l6Tree_L3_run (x1 : List (List Int)) (x2 : Int) (n : Nat) (s_ : Int × (List Int)) (k : X → St → R) : S.l6Tree_L3 n { n := 57, t := [(1, (.ro false (.rows x1))), (2, (.int .i64 x2)), (7, (.own 0)), (8, (.int .i64 s_.1))], h := [.row (.ints .i64 s_.2)] } k = optC (S.l6Tree_run3 x1 x2 n s_) (fun (r : List Int) => k (.exit 0) { n := 57, t := [(7, (.own 0))], h := [.row (.ints .i64 r)] }) none := by
  induction n generalizing s_ with
  | zero => rfl
  | succ n ih =>
    have hu : S.l6Tree_L3 (n + 1) { n := 57, t := [(1, (.ro false (.rows x1))), (2, (.int .i64 x2)), (7, (.own 0)), (8, (.int .i64 s_.1))], h := [.row (.ints .i64 s_.2)] } k = S.l6Tree_step3 x1 x2 s_.1 s_.2 (fun s_ => S.l6Tree_L3 n { n := 57, t := [(1, (.ro false (.rows x1))), (2, (.int .i64 x2)), (7, (.own 0)), (8, (.int .i64 s_.1))], h := [.row (.ints .i64 s_.2)] } k) (fun d => k (.exit 0) { n := 57, t := [(7, (.own 0))], h := [.row (.ints .i64 d)] }) none := by
      kernel_rfl
    have hs : (fun s_ : Int × (List Int) => S.l6Tree_L3 n { n := 57, t := [(1, (.ro false (.rows x1))), (2, (.int .i64 x2)), (7, (.own 0)), (8, (.int .i64 s_.1))], h := [.row (.ints .i64 s_.2)] } k) = fun s_ => optC (S.l6Tree_run3 x1 x2 n s_) (fun (r : List Int) => k (.exit 0) { n := 57, t := [(7, (.own 0))], h := [.row (.ints .i64 r)] }) none := funext ih
    rw [hu, hs]
    exact (S.l6Tree_step3_nat (fun o => optC o (fun (r : List Int) => k (.exit 0) { n := 57, t := [(7, (.own 0))], h := [.row (.ints .i64 r)] }) none) x1 x2 s_.1 s_.2 (S.l6Tree_run3 x1 x2 n) (fun d => some d) none).symm
noncomputable def S.l6Tree_tree {α : Type} (places : Int) (wires : List (List Int)) (some_ : Int) (leaf0_ : List Int → α) (fail_ : α) : α :=
  (bif decide (0 ≤ places) && small places.toNat && true then (optC (S.l6Tree_run3 wires some_ FUEL (0, List.replicate places.toNat 0)) (fun qy_1 => (leaf0_ qy_1)) fail_) else fail_)
theorem S.l6Tree_tree_nat {α γ : Type} (g : α → γ) (places : Int) (wires : List (List Int)) (some_ : Int) (leaf0_ : List Int → α) (fail_ : α) : g (S.l6Tree_tree places wires some_ leaf0_ fail_) = S.l6Tree_tree places wires some_ (fun d => g (leaf0_ d)) (g fail_) := by
  unfold S.l6Tree_tree; simp only [apply_cnd g, apply_optC g, apply_sumC g]
noncomputable def S.l6Tree_t (places : Int) (wires : List (List Int)) (some_ : Int) : Option (List Int) := S.l6Tree_tree places wires some_ (fun d => some d) none
theorem S.l6Tree_den (places : Int) (wires : List (List Int)) (some_ : Int) (κ : V → List E → R) : S.l6Tree_F [.int .i64 places, .ro false (.rows wires), .int .i64 some_] [] κ = optC (S.l6Tree_t places wires some_) (fun (r : List Int) => κ (.own 0) [.row (.ints .i64 r)]) none := by
  have hu : S.l6Tree_F [.int .i64 places, .ro false (.rows wires), .int .i64 some_] [] κ = S.l6Tree_tree places wires some_ (fun d => κ (.own 0) [.row (.ints .i64 d)]) none := by
    refine Eq.trans (show S.l6Tree_F [.int .i64 places, .ro false (.rows wires), .int .i64 some_] [] κ = (bif decide (0 ≤ places) && small places.toNat && true then (S.l6Tree_L3 FUEL { n := 57, t := [(1, (.ro false (.rows wires))), (2, (.int .i64 some_)), (7, (.own 0)), (8, (.int .i64 0))], h := [.row (.ints .i64 (List.replicate places.toNat 0))] } (S.l6Tree_k3 κ)) else none) by kernel_rfl) ?_
    refine cnd_congr ?_ ?_
    · refine (S.l6Tree_L3_run wires some_ FUEL (0, List.replicate places.toNat 0) (S.l6Tree_k3 κ)).trans (optC_congr (fun qy_1 => ?_))
      kernel_rfl
    · kernel_rfl
  rw [hu]
  exact (S.l6Tree_tree_nat (fun o => optC o (fun (r : List Int) => κ (.own 0) [.row (.ints .i64 r)]) none) places wires some_ (fun d => some d) none).symm
noncomputable def S.l6Tree_s : D.Spec where
  keep := false
  pure := false
  add := true
  ds := [.invalid, .slice 3, .invalid]
  sp := fun args h κ => match args, h with
    | [.int .i64 places, .ro false (.rows wires), .int .i64 some_], [] => optC (S.l6Tree_t places wires some_) (fun (r : List Int) => κ (.own 0) [.row (.ints .i64 r)]) none
    | _, _ => none
theorem S.l6Tree_ok : SpecOk Try.prog 62 S.l6Tree_s := by
  refine SpecOk.of TDok mixed (T := S.l6Tree_T) ?_ (ann := S.l6Tree_ann) Try.func62 rfl (by decide +kernel) ?_ ?_ ?_ ?_
  · intro p hp; cases hp
  · intro args h κ r hh
    simp only [S.l6Tree_s] at hh
    split at hh
    · exact (S.l6Tree_den _ _ _ κ).trans hh
    · cases hh
  · intro args h κ r hh
    simp only [S.l6Tree_s] at hh ⊢
    split at hh
    · exact optC_law2 (F := fun (r : List Int) κ => κ (.own 0) [.row (.ints .i64 r)]) (fun b κ r hb => ⟨_, _, hb, fun _ => rfl⟩) hh
    · cases hh
  · intro hh; cases hh
  · intro _ args h κ r hh
    simp only [S.l6Tree_s] at hh
    split at hh
    · rfl
    · cases hh

-- loop.example/guardsonnets/spec.l1Near
noncomputable def S.l1Near_T : List (Nat × D.Spec) := []
def S.l1Near_ann : Nat → List Nat × List Nat
  | 3 => ([0, 1, 5, 6], [5])
  | _ => ([], [])
noncomputable def S.l1Near_F (args : List V) (h : List E) (κ : V → List E → R) : R := funC TD (tableK S.l1Near_T) S.l1Near_ann (drawOk TD (tableP S.l1Near_T)) FUEL Try.f77 args h κ
noncomputable def S.l1Near_L3 (n : Nat) (σ : St) (k : X → St → R) : R := iterC 0 (fun σ k => denC TD (tableK S.l1Near_T) S.l1Near_ann (drawOk TD (tableP S.l1Near_T)) 0 FUEL ((findLoop 3 (Try.f77.body.getD .skip)).getD .skip) σ k) [0, 1, 5, 6] [5] n σ k
noncomputable def S.l1Near_k3 (κ : V → List E → R) : X → St → R := (afterC TD (tableK S.l1Near_T) S.l1Near_ann (drawOk TD (tableP S.l1Near_T)) 0 FUEL 3 (Try.f77.body.getD .skip) (finC TD 0 Try.f77 κ)).getD (fun _ _ => none)
noncomputable def S.l1Near_step3 {α : Type} (x0 : List Int) (x1 : Int) (x5 : Int) (x6 : Int) (next_ : Int × Int → α) (out0_ : Int → α) (fail_ : α) : α :=
  (bif decide (x6 < (↑x0.length : Int)) then (bif decide (x6 < 0) then fail_ else (bif (x1.fdiv (2 ^ min x6.toNat IntKind.i64.bits)).tmod 2 == 1 then (bif decide (0 ≤ x6) && decide (x6 < (↑x0.length : Int)) then (next_ (bits BinOp.or IntKind.i64 x5 (eli x0 x6.toNat), IntKind.i64.wrap (x6 + 1))) else fail_) else (next_ (x5, IntKind.i64.wrap (x6 + 1))))) else (out0_ x5))
theorem S.l1Near_step3_nat {α γ : Type} (g : α → γ) (x0 : List Int) (x1 : Int) (x5 : Int) (x6 : Int) (next_ : Int × Int → α) (out0_ : Int → α) (fail_ : α) : g (S.l1Near_step3 x0 x1 x5 x6 next_ out0_ fail_) = S.l1Near_step3 x0 x1 x5 x6 (fun s => g (next_ s)) (fun d => g (out0_ d)) (g fail_) := by
  unfold S.l1Near_step3; simp only [apply_cnd g, apply_optC g, apply_sumC g]
noncomputable def S.l1Near_run3 (x0 : List Int) (x1 : Int) : Nat → Int × Int → Option (Int)
  | 0, _ => none
  | n + 1, s_ => S.l1Near_step3 x0 x1 s_.1 s_.2 (S.l1Near_run3 x0 x1 n) (fun d => some d) none
theorem S.l1Near_L3_run (x0 : List Int) (x1 : Int) (n : Nat) (s_ : Int × Int) (k : X → St → R) : S.l1Near_L3 n { n := 25, t := [(0, (.ro false (.ints .i64 x0))), (1, (.int .i64 x1)), (5, (.int .i64 s_.1)), (6, (.int .i64 s_.2))], h := [] } k = optC (S.l1Near_run3 x0 x1 n s_) (fun (r : Int) => k (.exit 0) { n := 25, t := [(5, (.int .i64 r))], h := [] }) none := by
  induction n generalizing s_ with
  | zero => rfl
  | succ n ih =>
    have hu : S.l1Near_L3 (n + 1) { n := 25, t := [(0, (.ro false (.ints .i64 x0))), (1, (.int .i64 x1)), (5, (.int .i64 s_.1)), (6, (.int .i64 s_.2))], h := [] } k = S.l1Near_step3 x0 x1 s_.1 s_.2 (fun s_ => S.l1Near_L3 n { n := 25, t := [(0, (.ro false (.ints .i64 x0))), (1, (.int .i64 x1)), (5, (.int .i64 s_.1)), (6, (.int .i64 s_.2))], h := [] } k) (fun d => k (.exit 0) { n := 25, t := [(5, (.int .i64 d))], h := [] }) none := by
      kernel_rfl
    have hs : (fun s_ : Int × Int => S.l1Near_L3 n { n := 25, t := [(0, (.ro false (.ints .i64 x0))), (1, (.int .i64 x1)), (5, (.int .i64 s_.1)), (6, (.int .i64 s_.2))], h := [] } k) = fun s_ => optC (S.l1Near_run3 x0 x1 n s_) (fun (r : Int) => k (.exit 0) { n := 25, t := [(5, (.int .i64 r))], h := [] }) none := funext ih
    rw [hu, hs]
    exact (S.l1Near_step3_nat (fun o => optC o (fun (r : Int) => k (.exit 0) { n := 25, t := [(5, (.int .i64 r))], h := [] }) none) x0 x1 s_.1 s_.2 (S.l1Near_run3 x0 x1 n) (fun d => some d) none).symm
noncomputable def S.l1Near_tree {α : Type} (net : List Int) (set_ : Int) (leaf0_ : Int → α) (fail_ : α) : α :=
  (optC (S.l1Near_run3 net set_ FUEL (0, 0)) (fun qy_1 => (leaf0_ qy_1)) fail_)
theorem S.l1Near_tree_nat {α γ : Type} (g : α → γ) (net : List Int) (set_ : Int) (leaf0_ : Int → α) (fail_ : α) : g (S.l1Near_tree net set_ leaf0_ fail_) = S.l1Near_tree net set_ (fun d => g (leaf0_ d)) (g fail_) := by
  unfold S.l1Near_tree; simp only [apply_cnd g, apply_optC g, apply_sumC g]
noncomputable def S.l1Near_t (net : List Int) (set_ : Int) : Option (Int) := S.l1Near_tree net set_ (fun d => some d) none
theorem S.l1Near_den (net : List Int) (set_ : Int) (κ : V → List E → R) : S.l1Near_F [.ro false (.ints .i64 net), .int .i64 set_] [] κ = optC (S.l1Near_t net set_) (fun (r : Int) => κ (.int .i64 r) []) none := by
  have hu : S.l1Near_F [.ro false (.ints .i64 net), .int .i64 set_] [] κ = S.l1Near_tree net set_ (fun d => κ (.int .i64 d) []) none := by
    refine Eq.trans (show S.l1Near_F [.ro false (.ints .i64 net), .int .i64 set_] [] κ = (S.l1Near_L3 FUEL { n := 25, t := [(0, (.ro false (.ints .i64 net))), (1, (.int .i64 set_)), (5, (.int .i64 0)), (6, (.int .i64 0))], h := [] } (S.l1Near_k3 κ)) by kernel_rfl) ?_
    refine (S.l1Near_L3_run net set_ FUEL (0, 0) (S.l1Near_k3 κ)).trans (optC_congr (fun qy_1 => ?_))
    kernel_rfl
  rw [hu]
  exact (S.l1Near_tree_nat (fun o => optC o (fun (r : Int) => κ (.int .i64 r) []) none) net set_ (fun d => some d) none).symm
noncomputable def S.l1Near_s : D.Spec where
  keep := false
  pure := true
  add := true
  ds := [.int .i64, .invalid]
  sp := fun args h κ => match args, h with
    | [.ro false (.ints .i64 net), .int .i64 set_], [] => optC (S.l1Near_t net set_) (fun (r : Int) => κ (.int .i64 r) []) none
    | _, _ => none
theorem S.l1Near_ok : SpecOk Try.prog 77 S.l1Near_s := by
  refine SpecOk.of TDok mixed (T := S.l1Near_T) ?_ (ann := S.l1Near_ann) Try.func77 rfl (by decide +kernel) ?_ ?_ ?_ ?_
  · intro p hp; cases hp
  · intro args h κ r hh
    simp only [S.l1Near_s] at hh
    split at hh
    · exact (S.l1Near_den _ _ κ).trans hh
    · cases hh
  · intro args h κ r hh
    simp only [S.l1Near_s] at hh ⊢
    split at hh
    · exact optC_law2 (F := fun (r : Int) κ => κ (.int .i64 r) []) (fun b κ r hb => ⟨_, _, hb, fun _ => rfl⟩) hh
    · cases hh
  · intro _ args h κ r hh
    simp only [S.l1Near_s] at hh
    split at hh
    · exact ⟨rfl, fun _ => rfl⟩
    · cases hh
  · intro _ args h κ r hh
    simp only [S.l1Near_s] at hh
    split at hh
    · rfl
    · cases hh

-- loop.example/guardsonnets/spec.l1Part
noncomputable def S.l1Part_T : List (Nat × D.Spec) := [(77, S.l1Near_s)]
def S.l1Part_ann : Nat → List Nat × List Nat
  | 3 => ([0, 1, 7, 8], [7])
  | _ => ([], [])
noncomputable def S.l1Part_F (args : List V) (h : List E) (κ : V → List E → R) : R := funC TD (tableK S.l1Part_T) S.l1Part_ann (drawOk TD (tableP S.l1Part_T)) FUEL Try.f74 args h κ
noncomputable def S.l1Part_L3 (n : Nat) (σ : St) (k : X → St → R) : R := iterC 0 (fun σ k => denC TD (tableK S.l1Part_T) S.l1Part_ann (drawOk TD (tableP S.l1Part_T)) 0 FUEL ((findLoop 3 (Try.f74.body.getD .skip)).getD .skip) σ k) [0, 1, 7, 8] [7] n σ k
noncomputable def S.l1Part_k3 (κ : V → List E → R) : X → St → R := (afterC TD (tableK S.l1Part_T) S.l1Part_ann (drawOk TD (tableP S.l1Part_T)) 0 FUEL 3 (Try.f74.body.getD .skip) (finC TD 0 Try.f74 κ)).getD (fun _ _ => none)
noncomputable def S.l1Part_step3 {α : Type} (x0 : List Int) (x1 : Int) (x7 : Int) (x8 : Bool) (next_ : Int × Bool → α) (out0_ : Int → α) (fail_ : α) : α :=
  (bif x8 then (optC (S.l1Near_t x0 x7) (fun c_1 => (next_ (bits BinOp.or IntKind.i64 x7 (bits BinOp.and IntKind.i64 c_1 x1), bits BinOp.or IntKind.i64 x7 (bits BinOp.and IntKind.i64 c_1 x1) != x7))) fail_) else (out0_ x7))
theorem S.l1Part_step3_nat {α γ : Type} (g : α → γ) (x0 : List Int) (x1 : Int) (x7 : Int) (x8 : Bool) (next_ : Int × Bool → α) (out0_ : Int → α) (fail_ : α) : g (S.l1Part_step3 x0 x1 x7 x8 next_ out0_ fail_) = S.l1Part_step3 x0 x1 x7 x8 (fun s => g (next_ s)) (fun d => g (out0_ d)) (g fail_) := by
  unfold S.l1Part_step3; simp only [apply_cnd g, apply_optC g, apply_sumC g]
noncomputable def S.l1Part_run3 (x0 : List Int) (x1 : Int) : Nat → Int × Bool → Option (Int)
  | 0, _ => none
  | n + 1, s_ => S.l1Part_step3 x0 x1 s_.1 s_.2 (S.l1Part_run3 x0 x1 n) (fun d => some d) none
theorem S.l1Part_L3_run (x0 : List Int) (x1 : Int) (n : Nat) (s_ : Int × Bool) (k : X → St → R) : S.l1Part_L3 n { n := 27, t := [(0, (.ro false (.ints .i64 x0))), (1, (.int .i64 x1)), (7, (.int .i64 s_.1)), (8, (.bool s_.2))], h := [] } k = optC (S.l1Part_run3 x0 x1 n s_) (fun (r : Int) => k (.exit 0) { n := 27, t := [(7, (.int .i64 r))], h := [] }) none := by
  induction n generalizing s_ with
  | zero => rfl
  | succ n ih =>
    have hu : S.l1Part_L3 (n + 1) { n := 27, t := [(0, (.ro false (.ints .i64 x0))), (1, (.int .i64 x1)), (7, (.int .i64 s_.1)), (8, (.bool s_.2))], h := [] } k = S.l1Part_step3 x0 x1 s_.1 s_.2 (fun s_ => S.l1Part_L3 n { n := 27, t := [(0, (.ro false (.ints .i64 x0))), (1, (.int .i64 x1)), (7, (.int .i64 s_.1)), (8, (.bool s_.2))], h := [] } k) (fun d => k (.exit 0) { n := 27, t := [(7, (.int .i64 d))], h := [] }) none := by
      kernel_rfl
    have hs : (fun s_ : Int × Bool => S.l1Part_L3 n { n := 27, t := [(0, (.ro false (.ints .i64 x0))), (1, (.int .i64 x1)), (7, (.int .i64 s_.1)), (8, (.bool s_.2))], h := [] } k) = fun s_ => optC (S.l1Part_run3 x0 x1 n s_) (fun (r : Int) => k (.exit 0) { n := 27, t := [(7, (.int .i64 r))], h := [] }) none := funext ih
    rw [hu, hs]
    exact (S.l1Part_step3_nat (fun o => optC o (fun (r : Int) => k (.exit 0) { n := 27, t := [(7, (.int .i64 r))], h := [] }) none) x0 x1 s_.1 s_.2 (S.l1Part_run3 x0 x1 n) (fun d => some d) none).symm
noncomputable def S.l1Part_tree {α : Type} (net : List Int) (among : Int) (place : Int) (leaf0_ : Int → α) (fail_ : α) : α :=
  (bif decide (place < 0) then fail_ else (optC (S.l1Part_run3 net among FUEL (bits BinOp.and IntKind.i64 (IntKind.i64.wrap (1 * 2 ^ min place.toNat IntKind.i64.bits)) among, true)) (fun qy_2 => (leaf0_ qy_2)) fail_))
theorem S.l1Part_tree_nat {α γ : Type} (g : α → γ) (net : List Int) (among : Int) (place : Int) (leaf0_ : Int → α) (fail_ : α) : g (S.l1Part_tree net among place leaf0_ fail_) = S.l1Part_tree net among place (fun d => g (leaf0_ d)) (g fail_) := by
  unfold S.l1Part_tree; simp only [apply_cnd g, apply_optC g, apply_sumC g]
noncomputable def S.l1Part_t (net : List Int) (among : Int) (place : Int) : Option (Int) := S.l1Part_tree net among place (fun d => some d) none
theorem S.l1Part_den (net : List Int) (among : Int) (place : Int) (κ : V → List E → R) : S.l1Part_F [.ro false (.ints .i64 net), .int .i64 among, .int .i64 place] [] κ = optC (S.l1Part_t net among place) (fun (r : Int) => κ (.int .i64 r) []) none := by
  have hu : S.l1Part_F [.ro false (.ints .i64 net), .int .i64 among, .int .i64 place] [] κ = S.l1Part_tree net among place (fun d => κ (.int .i64 d) []) none := by
    refine Eq.trans (show S.l1Part_F [.ro false (.ints .i64 net), .int .i64 among, .int .i64 place] [] κ = (bif decide (place < 0) then none else (S.l1Part_L3 FUEL { n := 27, t := [(0, (.ro false (.ints .i64 net))), (1, (.int .i64 among)), (7, (.int .i64 (bits BinOp.and IntKind.i64 (IntKind.i64.wrap (1 * 2 ^ min place.toNat IntKind.i64.bits)) among))), (8, (.bool true))], h := [] } (S.l1Part_k3 κ))) by kernel_rfl) ?_
    refine cnd_congr ?_ ?_
    · kernel_rfl
    · refine (S.l1Part_L3_run net among FUEL (bits BinOp.and IntKind.i64 (IntKind.i64.wrap (1 * 2 ^ min place.toNat IntKind.i64.bits)) among, true) (S.l1Part_k3 κ)).trans (optC_congr (fun qy_2 => ?_))
      kernel_rfl
  rw [hu]
  exact (S.l1Part_tree_nat (fun o => optC o (fun (r : Int) => κ (.int .i64 r) []) none) net among place (fun d => some d) none).symm
noncomputable def S.l1Part_s : D.Spec where
  keep := false
  pure := true
  add := true
  ds := [.int .i64, .invalid, .invalid]
  sp := fun args h κ => match args, h with
    | [.ro false (.ints .i64 net), .int .i64 among, .int .i64 place], [] => optC (S.l1Part_t net among place) (fun (r : Int) => κ (.int .i64 r) []) none
    | _, _ => none
theorem S.l1Part_ok : SpecOk Try.prog 74 S.l1Part_s := by
  refine SpecOk.of TDok mixed (T := S.l1Part_T) ?_ (ann := S.l1Part_ann) Try.func74 rfl (by decide +kernel) ?_ ?_ ?_ ?_
  · intro p hp
    simp only [S.l1Part_T, List.mem_cons, List.not_mem_nil, or_false] at hp
    rcases hp with rfl
    · exact S.l1Near_ok
  · intro args h κ r hh
    simp only [S.l1Part_s] at hh
    split at hh
    · exact (S.l1Part_den _ _ _ κ).trans hh
    · cases hh
  · intro args h κ r hh
    simp only [S.l1Part_s] at hh ⊢
    split at hh
    · exact optC_law2 (F := fun (r : Int) κ => κ (.int .i64 r) []) (fun b κ r hb => ⟨_, _, hb, fun _ => rfl⟩) hh
    · cases hh
  · intro _ args h κ r hh
    simp only [S.l1Part_s] at hh
    split at hh
    · exact ⟨rfl, fun _ => rfl⟩
    · cases hh
  · intro _ args h κ r hh
    simp only [S.l1Part_s] at hh
    split at hh
    · rfl
    · cases hh

-- loop.example/guardsonnets/spec.l1Parts
noncomputable def S.l1Parts_T : List (Nat × D.Spec) := [(74, S.l1Part_s)]
def S.l1Parts_ann : Nat → List Nat × List Nat
  | 3 => ([0, 3, 4], [3])
  | _ => ([], [])
noncomputable def S.l1Parts_F (args : List V) (h : List E) (κ : V → List E → R) : R := funC TD (tableK S.l1Parts_T) S.l1Parts_ann (drawOk TD (tableP S.l1Parts_T)) FUEL Try.f63 args h κ
noncomputable def S.l1Parts_L3 (n : Nat) (σ : St) (k : X → St → R) : R := iterC 0 (fun σ k => denC TD (tableK S.l1Parts_T) S.l1Parts_ann (drawOk TD (tableP S.l1Parts_T)) 0 FUEL ((findLoop 3 (Try.f63.body.getD .skip)).getD .skip) σ k) [0, 3, 4] [3] n σ k
noncomputable def S.l1Parts_k3 (κ : V → List E → R) : X → St → R := (afterC TD (tableK S.l1Parts_T) S.l1Parts_ann (drawOk TD (tableP S.l1Parts_T)) 0 FUEL 3 (Try.f63.body.getD .skip) (finC TD 0 Try.f63 κ)).getD (fun _ _ => none)
noncomputable def S.l1Parts_step3 {α : Type} (x0 : List Int) (x3 : Int) (x4 : Int) (next_ : Int × Int → α) (out0_ : Int → α) (fail_ : α) : α :=
  (bif decide (x4 < (↑x0.length : Int)) then (optC (S.l1Part_t x0 (IntKind.i64.wrap (IntKind.i64.wrap (1 * 2 ^ min (↑x0.length : Int).toNat IntKind.i64.bits) - 1)) x4) (fun c_1 => (bif decide (x4 < 0) then fail_ else (bif bits BinOp.and IntKind.i64 c_1 (IntKind.i64.wrap (IntKind.i64.wrap (1 * 2 ^ min x4.toNat IntKind.i64.bits) - 1)) == 0 then (next_ (IntKind.i64.wrap (x3 + 1), IntKind.i64.wrap (x4 + 1))) else (next_ (x3, IntKind.i64.wrap (x4 + 1)))))) fail_) else (out0_ x3))
theorem S.l1Parts_step3_nat {α γ : Type} (g : α → γ) (x0 : List Int) (x3 : Int) (x4 : Int) (next_ : Int × Int → α) (out0_ : Int → α) (fail_ : α) : g (S.l1Parts_step3 x0 x3 x4 next_ out0_ fail_) = S.l1Parts_step3 x0 x3 x4 (fun s => g (next_ s)) (fun d => g (out0_ d)) (g fail_) := by
  unfold S.l1Parts_step3; simp only [apply_cnd g, apply_optC g, apply_sumC g]
noncomputable def S.l1Parts_run3 (x0 : List Int) : Nat → Int × Int → Option (Int)
  | 0, _ => none
  | n + 1, s_ => S.l1Parts_step3 x0 s_.1 s_.2 (S.l1Parts_run3 x0 n) (fun d => some d) none
theorem S.l1Parts_L3_run (x0 : List Int) (n : Nat) (s_ : Int × Int) (k : X → St → R) : S.l1Parts_L3 n { n := 26, t := [(0, (.ro false (.ints .i64 x0))), (3, (.int .i64 s_.1)), (4, (.int .i64 s_.2))], h := [] } k = optC (S.l1Parts_run3 x0 n s_) (fun (r : Int) => k (.exit 0) { n := 26, t := [(3, (.int .i64 r))], h := [] }) none := by
  induction n generalizing s_ with
  | zero => rfl
  | succ n ih =>
    have hu : S.l1Parts_L3 (n + 1) { n := 26, t := [(0, (.ro false (.ints .i64 x0))), (3, (.int .i64 s_.1)), (4, (.int .i64 s_.2))], h := [] } k = S.l1Parts_step3 x0 s_.1 s_.2 (fun s_ => S.l1Parts_L3 n { n := 26, t := [(0, (.ro false (.ints .i64 x0))), (3, (.int .i64 s_.1)), (4, (.int .i64 s_.2))], h := [] } k) (fun d => k (.exit 0) { n := 26, t := [(3, (.int .i64 d))], h := [] }) none := by
      kernel_rfl
    have hs : (fun s_ : Int × Int => S.l1Parts_L3 n { n := 26, t := [(0, (.ro false (.ints .i64 x0))), (3, (.int .i64 s_.1)), (4, (.int .i64 s_.2))], h := [] } k) = fun s_ => optC (S.l1Parts_run3 x0 n s_) (fun (r : Int) => k (.exit 0) { n := 26, t := [(3, (.int .i64 r))], h := [] }) none := funext ih
    rw [hu, hs]
    exact (S.l1Parts_step3_nat (fun o => optC o (fun (r : Int) => k (.exit 0) { n := 26, t := [(3, (.int .i64 r))], h := [] }) none) x0 s_.1 s_.2 (S.l1Parts_run3 x0 n) (fun d => some d) none).symm
noncomputable def S.l1Parts_tree {α : Type} (net : List Int) (leaf0_ : Int → α) (fail_ : α) : α :=
  (optC (S.l1Parts_run3 net FUEL (0, 0)) (fun qy_2 => (leaf0_ qy_2)) fail_)
theorem S.l1Parts_tree_nat {α γ : Type} (g : α → γ) (net : List Int) (leaf0_ : Int → α) (fail_ : α) : g (S.l1Parts_tree net leaf0_ fail_) = S.l1Parts_tree net (fun d => g (leaf0_ d)) (g fail_) := by
  unfold S.l1Parts_tree; simp only [apply_cnd g, apply_optC g, apply_sumC g]
noncomputable def S.l1Parts_t (net : List Int) : Option (Int) := S.l1Parts_tree net (fun d => some d) none
theorem S.l1Parts_den (net : List Int) (κ : V → List E → R) : S.l1Parts_F [.ro false (.ints .i64 net)] [] κ = optC (S.l1Parts_t net) (fun (r : Int) => κ (.int .i64 r) []) none := by
  have hu : S.l1Parts_F [.ro false (.ints .i64 net)] [] κ = S.l1Parts_tree net (fun d => κ (.int .i64 d) []) none := by
    refine Eq.trans (show S.l1Parts_F [.ro false (.ints .i64 net)] [] κ = (S.l1Parts_L3 FUEL { n := 26, t := [(0, (.ro false (.ints .i64 net))), (3, (.int .i64 0)), (4, (.int .i64 0))], h := [] } (S.l1Parts_k3 κ)) by kernel_rfl) ?_
    refine (S.l1Parts_L3_run net FUEL (0, 0) (S.l1Parts_k3 κ)).trans (optC_congr (fun qy_2 => ?_))
    kernel_rfl
  rw [hu]
  exact (S.l1Parts_tree_nat (fun o => optC o (fun (r : Int) => κ (.int .i64 r) []) none) net (fun d => some d) none).symm
noncomputable def S.l1Parts_s : D.Spec where
  keep := false
  pure := true
  add := true
  ds := [.int .i64]
  sp := fun args h κ => match args, h with
    | [.ro false (.ints .i64 net)], [] => optC (S.l1Parts_t net) (fun (r : Int) => κ (.int .i64 r) []) none
    | _, _ => none
theorem S.l1Parts_ok : SpecOk Try.prog 63 S.l1Parts_s := by
  refine SpecOk.of TDok mixed (T := S.l1Parts_T) ?_ (ann := S.l1Parts_ann) Try.func63 rfl (by decide +kernel) ?_ ?_ ?_ ?_
  · intro p hp
    simp only [S.l1Parts_T, List.mem_cons, List.not_mem_nil, or_false] at hp
    rcases hp with rfl
    · exact S.l1Part_ok
  · intro args h κ r hh
    simp only [S.l1Parts_s] at hh
    split at hh
    · exact (S.l1Parts_den _ κ).trans hh
    · cases hh
  · intro args h κ r hh
    simp only [S.l1Parts_s] at hh ⊢
    split at hh
    · exact optC_law2 (F := fun (r : Int) κ => κ (.int .i64 r) []) (fun b κ r hb => ⟨_, _, hb, fun _ => rfl⟩) hh
    · cases hh
  · intro _ args h κ r hh
    simp only [S.l1Parts_s] at hh
    split at hh
    · exact ⟨rfl, fun _ => rfl⟩
    · cases hh
  · intro _ args h κ r hh
    simp only [S.l1Parts_s] at hh
    split at hh
    · rfl
    · cases hh

-- loop.example/guardsonnets/spec.MostLeaves
noncomputable def S.MostLeaves_T : List (Nat × D.Spec) := [(54, S.NetOk_s), (60, S.l6Wires_s), (61, S.l1Size_s), (62, S.l6Tree_s), (63, S.l1Parts_s)]
def S.MostLeaves_ann : Nat → List Nat × List Nat
  | 12 => ([0, 3, 4, 5, 6, 7, 8], [0, 3, 4, 5, 6, 7])
  | 6 => ([0, 3, 4, 5], [3])
  | _ => ([], [])
noncomputable def S.MostLeaves_F (args : List V) (h : List E) (κ : V → List E → R) : R := funC TD (tableK S.MostLeaves_T) S.MostLeaves_ann (drawOk TD (tableP S.MostLeaves_T)) FUEL Try.f34 args h κ
noncomputable def S.MostLeaves_L12 (n : Nat) (σ : St) (k : X → St → R) : R := iterC 0 (fun σ k => denC TD (tableK S.MostLeaves_T) S.MostLeaves_ann (drawOk TD (tableP S.MostLeaves_T)) 0 FUEL ((findLoop 12 (Try.f34.body.getD .skip)).getD .skip) σ k) [0, 3, 4, 5, 6, 7, 8] [0, 3, 4, 5, 6, 7] n σ k
noncomputable def S.MostLeaves_L6 (n : Nat) (σ : St) (k : X → St → R) : R := iterC 0 (fun σ k => denC TD (tableK S.MostLeaves_T) S.MostLeaves_ann (drawOk TD (tableP S.MostLeaves_T)) 0 FUEL ((findLoop 6 (Try.f34.body.getD .skip)).getD .skip) σ k) [0, 3, 4, 5] [3] n σ k
noncomputable def S.MostLeaves_k12 (c : (St → R) × (X → St → R)) : X → St → R := (afterC TD (tableK S.MostLeaves_T) S.MostLeaves_ann (drawOk TD (tableP S.MostLeaves_T)) 0 FUEL 12 ((findLoop 6 (Try.f34.body.getD .skip)).getD .skip) (roundC 0 [0, 3, 4, 5] [3] c.1 c.2)).getD (fun _ _ => none)
noncomputable def S.MostLeaves_k6 (κ : V → List E → R) : X → St → R := (afterC TD (tableK S.MostLeaves_T) S.MostLeaves_ann (drawOk TD (tableP S.MostLeaves_T)) 0 FUEL 6 (Try.f34.body.getD .skip) (finC TD 0 Try.f34 κ)).getD (fun _ _ => none)
noncomputable def S.MostLeaves_step12 {α : Type} (x0 : List Int) (x3 : Int) (x5 : Int) (x7 : Int) (x8 : Int) (r0 : List (List Int)) (r1 : List Int) (next_ : Int × Int × (List (List Int)) × (List Int) → α) (out0_ : Int × (List (List Int)) × (List Int) → α) (fail_ : α) : α :=
  (bif decide (x8 < (↑r1.length : Int)) then (bif decide (0 ≤ x8) && decide (x8 < (↑r1.length : Int)) then (bif decide (x8.toNat < r1.length) then (optC (S.l1Size_t (eli r1 x8.toNat)) (fun c_5 => (bif c_5 == 1 then (next_ (IntKind.i64.wrap (x7 + 1), IntKind.i64.wrap (x8 + 1), r0, r1)) else (next_ (x7, IntKind.i64.wrap (x8 + 1), r0, r1)))) fail_) else fail_) else fail_) else (out0_ (x7, r0, r1)))
theorem S.MostLeaves_step12_nat {α γ : Type} (g : α → γ) (x0 : List Int) (x3 : Int) (x5 : Int) (x7 : Int) (x8 : Int) (r0 : List (List Int)) (r1 : List Int) (next_ : Int × Int × (List (List Int)) × (List Int) → α) (out0_ : Int × (List (List Int)) × (List Int) → α) (fail_ : α) : g (S.MostLeaves_step12 x0 x3 x5 x7 x8 r0 r1 next_ out0_ fail_) = S.MostLeaves_step12 x0 x3 x5 x7 x8 r0 r1 (fun s => g (next_ s)) (fun d => g (out0_ d)) (g fail_) := by
  unfold S.MostLeaves_step12; simp only [apply_cnd g, apply_optC g, apply_sumC g]
noncomputable def S.MostLeaves_run12 (x0 : List Int) (x3 : Int) (x5 : Int) : Nat → Int × Int × (List (List Int)) × (List Int) → Option (Int × (List (List Int)) × (List Int))
  | 0, _ => none
  | n + 1, s_ => S.MostLeaves_step12 x0 x3 x5 s_.1 s_.2.1 s_.2.2.1 s_.2.2.2 (S.MostLeaves_run12 x0 x3 x5 n) (fun d => some d) none
theorem S.MostLeaves_L12_run (x0 : List Int) (x3 : Int) (x5 : Int) (n : Nat) (s_ : Int × Int × (List (List Int)) × (List Int)) (k : X → St → R) : S.MostLeaves_L12 n { n := 58, t := [(0, (.ro false (.ints .i64 x0))), (3, (.int .i64 x3)), (4, (.own 0)), (5, (.int .i64 x5)), (6, (.own 1)), (7, (.int .i64 s_.1)), (8, (.int .i64 s_.2.1))], h := [.row (.rows s_.2.2.1), .row (.ints .i64 s_.2.2.2)] } k = optC (S.MostLeaves_run12 x0 x3 x5 n s_) (fun (r : Int × (List (List Int)) × (List Int)) => k (.exit 2) { n := 58, t := [(0, (.ro false (.ints .i64 x0))), (3, (.int .i64 x3)), (4, (.own 0)), (5, (.int .i64 x5)), (6, (.own 1)), (7, (.int .i64 r.1))], h := [.row (.rows r.2.1), .row (.ints .i64 r.2.2)] }) none := by
  induction n generalizing s_ with
  | zero => rfl
  | succ n ih =>
    have hu : S.MostLeaves_L12 (n + 1) { n := 58, t := [(0, (.ro false (.ints .i64 x0))), (3, (.int .i64 x3)), (4, (.own 0)), (5, (.int .i64 x5)), (6, (.own 1)), (7, (.int .i64 s_.1)), (8, (.int .i64 s_.2.1))], h := [.row (.rows s_.2.2.1), .row (.ints .i64 s_.2.2.2)] } k = S.MostLeaves_step12 x0 x3 x5 s_.1 s_.2.1 s_.2.2.1 s_.2.2.2 (fun s_ => S.MostLeaves_L12 n { n := 58, t := [(0, (.ro false (.ints .i64 x0))), (3, (.int .i64 x3)), (4, (.own 0)), (5, (.int .i64 x5)), (6, (.own 1)), (7, (.int .i64 s_.1)), (8, (.int .i64 s_.2.1))], h := [.row (.rows s_.2.2.1), .row (.ints .i64 s_.2.2.2)] } k) (fun d => k (.exit 2) { n := 58, t := [(0, (.ro false (.ints .i64 x0))), (3, (.int .i64 x3)), (4, (.own 0)), (5, (.int .i64 x5)), (6, (.own 1)), (7, (.int .i64 d.1))], h := [.row (.rows d.2.1), .row (.ints .i64 d.2.2)] }) none := by
      kernel_rfl
    have hs : (fun s_ : Int × Int × (List (List Int)) × (List Int) => S.MostLeaves_L12 n { n := 58, t := [(0, (.ro false (.ints .i64 x0))), (3, (.int .i64 x3)), (4, (.own 0)), (5, (.int .i64 x5)), (6, (.own 1)), (7, (.int .i64 s_.1)), (8, (.int .i64 s_.2.1))], h := [.row (.rows s_.2.2.1), .row (.ints .i64 s_.2.2.2)] } k) = fun s_ => optC (S.MostLeaves_run12 x0 x3 x5 n s_) (fun (r : Int × (List (List Int)) × (List Int)) => k (.exit 2) { n := 58, t := [(0, (.ro false (.ints .i64 x0))), (3, (.int .i64 x3)), (4, (.own 0)), (5, (.int .i64 x5)), (6, (.own 1)), (7, (.int .i64 r.1))], h := [.row (.rows r.2.1), .row (.ints .i64 r.2.2)] }) none := funext ih
    rw [hu, hs]
    exact (S.MostLeaves_step12_nat (fun o => optC o (fun (r : Int × (List (List Int)) × (List Int)) => k (.exit 2) { n := 58, t := [(0, (.ro false (.ints .i64 x0))), (3, (.int .i64 x3)), (4, (.own 0)), (5, (.int .i64 x5)), (6, (.own 1)), (7, (.int .i64 r.1))], h := [.row (.rows r.2.1), .row (.ints .i64 r.2.2)] }) none) x0 x3 x5 s_.1 s_.2.1 s_.2.2.1 s_.2.2.2 (S.MostLeaves_run12 x0 x3 x5 n) (fun d => some d) none).symm
noncomputable def S.MostLeaves_step6 {α : Type} (x0 : List Int) (x3 : Int) (x5 : Int) (r0 : List (List Int)) (next_ : Int × Int × (List (List Int)) → α) (out0_ : Int → α) (fail_ : α) : α :=
  (bif decide (x5 < IntKind.i64.wrap (1 * 2 ^ min (↑r0.length : Int).toNat IntKind.i64.bits)) then (optC (S.l1Size_t x5) (fun c_3 => (bif c_3 == IntKind.i64.wrap ((↑x0.length : Int) - 1) then (optC (S.l6Tree_t (↑x0.length : Int) r0 x5) (fun c_4 => (optC (S.MostLeaves_run12 x0 x3 x5 FUEL (0, 0, r0, c_4)) (fun qy_6 => (optC (S.l1Parts_t qy_6.2.2) (fun c_7 => (bif c_7 == 1 then (next_ (if qy_6.1 > x3 then qy_6.1 else x3, IntKind.i64.wrap (x5 + 1), qy_6.2.1)) else (next_ (x3, IntKind.i64.wrap (x5 + 1), qy_6.2.1)))) fail_)) fail_)) fail_) else (next_ (x3, IntKind.i64.wrap (x5 + 1), r0)))) fail_) else (out0_ x3))
theorem S.MostLeaves_step6_nat {α γ : Type} (g : α → γ) (x0 : List Int) (x3 : Int) (x5 : Int) (r0 : List (List Int)) (next_ : Int × Int × (List (List Int)) → α) (out0_ : Int → α) (fail_ : α) : g (S.MostLeaves_step6 x0 x3 x5 r0 next_ out0_ fail_) = S.MostLeaves_step6 x0 x3 x5 r0 (fun s => g (next_ s)) (fun d => g (out0_ d)) (g fail_) := by
  unfold S.MostLeaves_step6; simp only [apply_cnd g, apply_optC g, apply_sumC g]
noncomputable def S.MostLeaves_run6 (x0 : List Int) : Nat → Int × Int × (List (List Int)) → Option (Int)
  | 0, _ => none
  | n + 1, s_ => S.MostLeaves_step6 x0 s_.1 s_.2.1 s_.2.2 (S.MostLeaves_run6 x0 n) (fun d => some d) none
theorem S.MostLeaves_L6_run (x0 : List Int) (n : Nat) (s_ : Int × Int × (List (List Int))) (k : X → St → R) : S.MostLeaves_L6 n { n := 58, t := [(0, (.ro false (.ints .i64 x0))), (3, (.int .i64 s_.1)), (4, (.own 0)), (5, (.int .i64 s_.2.1))], h := [.row (.rows s_.2.2)] } k = optC (S.MostLeaves_run6 x0 n s_) (fun (r : Int) => k (.exit 0) { n := 58, t := [(3, (.int .i64 r))], h := [] }) none := by
  induction n generalizing s_ with
  | zero => rfl
  | succ n ih =>
    have hu : S.MostLeaves_L6 (n + 1) { n := 58, t := [(0, (.ro false (.ints .i64 x0))), (3, (.int .i64 s_.1)), (4, (.own 0)), (5, (.int .i64 s_.2.1))], h := [.row (.rows s_.2.2)] } k = S.MostLeaves_step6 x0 s_.1 s_.2.1 s_.2.2 (fun s_ => S.MostLeaves_L6 n { n := 58, t := [(0, (.ro false (.ints .i64 x0))), (3, (.int .i64 s_.1)), (4, (.own 0)), (5, (.int .i64 s_.2.1))], h := [.row (.rows s_.2.2)] } k) (fun d => k (.exit 0) { n := 58, t := [(3, (.int .i64 d))], h := [] }) none := by
      refine Eq.trans (show S.MostLeaves_L6 (n + 1) { n := 58, t := [(0, (.ro false (.ints .i64 x0))), (3, (.int .i64 s_.1)), (4, (.own 0)), (5, (.int .i64 s_.2.1))], h := [.row (.rows s_.2.2)] } k = (bif decide (s_.2.1 < IntKind.i64.wrap (1 * 2 ^ min (↑s_.2.2.length : Int).toNat IntKind.i64.bits)) then (optC (S.l1Size_t s_.2.1) (fun c_3 => (bif c_3 == IntKind.i64.wrap ((↑x0.length : Int) - 1) then (optC (S.l6Tree_t (↑x0.length : Int) s_.2.2 s_.2.1) (fun c_4 => (S.MostLeaves_L12 FUEL { n := 58, t := [(0, (.ro false (.ints .i64 x0))), (3, (.int .i64 s_.1)), (4, (.own 0)), (5, (.int .i64 s_.2.1)), (6, (.own 1)), (7, (.int .i64 0)), (8, (.int .i64 0))], h := [.row (.rows s_.2.2), .row (.ints .i64 c_4)] } (S.MostLeaves_k12 ((fun σ => S.MostLeaves_L6 n σ k), k)))) none) else (S.MostLeaves_L6 n { n := 58, t := [(0, (.ro false (.ints .i64 x0))), (3, (.int .i64 s_.1)), (4, (.own 0)), (5, (.int .i64 (IntKind.i64.wrap (s_.2.1 + 1))))], h := [.row (.rows s_.2.2)] } k))) none) else (k (.exit 0) { n := 58, t := [(3, (.int .i64 s_.1))], h := [] })) by kernel_rfl) ?_
      refine cnd_congr ?_ ?_
      · refine optC_congr (fun c_3 => ?_)
        refine cnd_congr ?_ ?_
        · refine optC_congr (fun c_4 => ?_)
          refine (S.MostLeaves_L12_run x0 s_.1 s_.2.1 FUEL (0, 0, s_.2.2, c_4) (S.MostLeaves_k12 ((fun σ => S.MostLeaves_L6 n σ k), k))).trans (optC_congr (fun qy_6 => ?_))
          kernel_rfl
        · kernel_rfl
      · kernel_rfl
    have hs : (fun s_ : Int × Int × (List (List Int)) => S.MostLeaves_L6 n { n := 58, t := [(0, (.ro false (.ints .i64 x0))), (3, (.int .i64 s_.1)), (4, (.own 0)), (5, (.int .i64 s_.2.1))], h := [.row (.rows s_.2.2)] } k) = fun s_ => optC (S.MostLeaves_run6 x0 n s_) (fun (r : Int) => k (.exit 0) { n := 58, t := [(3, (.int .i64 r))], h := [] }) none := funext ih
    rw [hu, hs]
    exact (S.MostLeaves_step6_nat (fun o => optC o (fun (r : Int) => k (.exit 0) { n := 58, t := [(3, (.int .i64 r))], h := [] }) none) x0 s_.1 s_.2.1 s_.2.2 (S.MostLeaves_run6 x0 n) (fun d => some d) none).symm
noncomputable def S.MostLeaves_tree {α : Type} (net : List Int) (leaf0_ : Int → α) (fail_ : α) : α :=
  (optC (S.NetOk_t net) (fun c_1 => (bif !c_1 then (leaf0_ (-1)) else (bif decide ((↑net.length : Int) < 2) then (leaf0_ (-1)) else (optC (S.l6Wires_t net) (fun c_2 => (optC (S.MostLeaves_run6 net FUEL (-1, 0, c_2)) (fun qy_8 => (leaf0_ qy_8)) fail_)) fail_)))) fail_)
theorem S.MostLeaves_tree_nat {α γ : Type} (g : α → γ) (net : List Int) (leaf0_ : Int → α) (fail_ : α) : g (S.MostLeaves_tree net leaf0_ fail_) = S.MostLeaves_tree net (fun d => g (leaf0_ d)) (g fail_) := by
  unfold S.MostLeaves_tree; simp only [apply_cnd g, apply_optC g, apply_sumC g]
noncomputable def S.MostLeaves_t (net : List Int) : Option (Int) := S.MostLeaves_tree net (fun d => some d) none
theorem S.MostLeaves_den (net : List Int) (κ : V → List E → R) : S.MostLeaves_F [.ro false (.ints .i64 net)] [] κ = optC (S.MostLeaves_t net) (fun (r : Int) => κ (.int .i64 r) []) none := by
  have hu : S.MostLeaves_F [.ro false (.ints .i64 net)] [] κ = S.MostLeaves_tree net (fun d => κ (.int .i64 d) []) none := by
    refine Eq.trans (show S.MostLeaves_F [.ro false (.ints .i64 net)] [] κ = (optC (S.NetOk_t net) (fun c_1 => (bif !c_1 then (κ (.int .i64 (-1)) []) else (bif decide ((↑net.length : Int) < 2) then (κ (.int .i64 (-1)) []) else (optC (S.l6Wires_t net) (fun c_2 => (S.MostLeaves_L6 FUEL { n := 58, t := [(0, (.ro false (.ints .i64 net))), (3, (.int .i64 (-1))), (4, (.own 0)), (5, (.int .i64 0))], h := [.row (.rows c_2)] } (S.MostLeaves_k6 κ))) none)))) none) by kernel_rfl) ?_
    refine optC_congr (fun c_1 => ?_)
    refine cnd_congr ?_ ?_
    · kernel_rfl
    · refine cnd_congr ?_ ?_
      · kernel_rfl
      · refine optC_congr (fun c_2 => ?_)
        refine (S.MostLeaves_L6_run net FUEL (-1, 0, c_2) (S.MostLeaves_k6 κ)).trans (optC_congr (fun qy_8 => ?_))
        kernel_rfl
  rw [hu]
  exact (S.MostLeaves_tree_nat (fun o => optC o (fun (r : Int) => κ (.int .i64 r) []) none) net (fun d => some d) none).symm
noncomputable def S.MostLeaves_s : D.Spec where
  keep := false
  pure := true
  add := true
  ds := [.int .i64]
  sp := fun args h κ => match args, h with
    | [.ro false (.ints .i64 net)], [] => optC (S.MostLeaves_t net) (fun (r : Int) => κ (.int .i64 r) []) none
    | _, _ => none
theorem S.MostLeaves_ok : SpecOk Try.prog 34 S.MostLeaves_s := by
  refine SpecOk.of TDok mixed (T := S.MostLeaves_T) ?_ (ann := S.MostLeaves_ann) Try.func34 rfl (by decide +kernel) ?_ ?_ ?_ ?_
  · intro p hp
    simp only [S.MostLeaves_T, List.mem_cons, List.not_mem_nil, or_false] at hp
    rcases hp with rfl | rfl | rfl | rfl | rfl
    · exact S.NetOk_ok
    · exact S.l6Wires_ok
    · exact S.l1Size_ok
    · exact S.l6Tree_ok
    · exact S.l1Parts_ok
  · intro args h κ r hh
    simp only [S.MostLeaves_s] at hh
    split at hh
    · exact (S.MostLeaves_den _ κ).trans hh
    · cases hh
  · intro args h κ r hh
    simp only [S.MostLeaves_s] at hh ⊢
    split at hh
    · exact optC_law2 (F := fun (r : Int) κ => κ (.int .i64 r) []) (fun b κ r hb => ⟨_, _, hb, fun _ => rfl⟩) hh
    · cases hh
  · intro _ args h κ r hh
    simp only [S.MostLeaves_s] at hh
    split at hh
    · exact ⟨rfl, fun _ => rfl⟩
    · cases hh
  · intro _ args h κ r hh
    simp only [S.MostLeaves_s] at hh
    split at hh
    · rfl
    · cases hh

-- loop.example/guardsonnets/impl.nextTo
noncomputable def I.nextTo_T : List (Nat × D.Spec) := [(55, I.hasPlace_s)]
def I.nextTo_ann : Nat → List Nat × List Nat
  | 3 => ([0, 1, 5, 6], [5])
  | _ => ([], [])
noncomputable def I.nextTo_F (args : List V) (h : List E) (κ : V → List E → R) : R := funC TD (tableK I.nextTo_T) I.nextTo_ann (drawOk TD (tableP I.nextTo_T)) FUEL Try.f79 args h κ
noncomputable def I.nextTo_L3 (n : Nat) (σ : St) (k : X → St → R) : R := iterC 0 (fun σ k => denC TD (tableK I.nextTo_T) I.nextTo_ann (drawOk TD (tableP I.nextTo_T)) 0 FUEL ((findLoop 3 (Try.f79.body.getD .skip)).getD .skip) σ k) [0, 1, 5, 6] [5] n σ k
noncomputable def I.nextTo_k3 (κ : V → List E → R) : X → St → R := (afterC TD (tableK I.nextTo_T) I.nextTo_ann (drawOk TD (tableP I.nextTo_T)) 0 FUEL 3 (Try.f79.body.getD .skip) (finC TD 0 Try.f79 κ)).getD (fun _ _ => none)
noncomputable def I.nextTo_step3 {α : Type} (x0 : List Int) (x1 : Int) (x5 : Int) (x6 : Int) (next_ : Int × Int → α) (out0_ : Int → α) (fail_ : α) : α :=
  (bif decide (x6 < (↑x0.length : Int)) then (optC (I.hasPlace_t x1 x6) (fun c_1 => (bif c_1 then (bif decide (0 ≤ x6) && decide (x6 < (↑x0.length : Int)) then (next_ (bits BinOp.or IntKind.i64 x5 (eli x0 x6.toNat), IntKind.i64.wrap (x6 + 1))) else fail_) else (next_ (x5, IntKind.i64.wrap (x6 + 1))))) fail_) else (out0_ x5))
theorem I.nextTo_step3_nat {α γ : Type} (g : α → γ) (x0 : List Int) (x1 : Int) (x5 : Int) (x6 : Int) (next_ : Int × Int → α) (out0_ : Int → α) (fail_ : α) : g (I.nextTo_step3 x0 x1 x5 x6 next_ out0_ fail_) = I.nextTo_step3 x0 x1 x5 x6 (fun s => g (next_ s)) (fun d => g (out0_ d)) (g fail_) := by
  unfold I.nextTo_step3; simp only [apply_cnd g, apply_optC g, apply_sumC g]
noncomputable def I.nextTo_run3 (x0 : List Int) (x1 : Int) : Nat → Int × Int → Option (Int)
  | 0, _ => none
  | n + 1, s_ => I.nextTo_step3 x0 x1 s_.1 s_.2 (I.nextTo_run3 x0 x1 n) (fun d => some d) none
theorem I.nextTo_L3_run (x0 : List Int) (x1 : Int) (n : Nat) (s_ : Int × Int) (k : X → St → R) : I.nextTo_L3 n { n := 23, t := [(0, (.ro false (.ints .i64 x0))), (1, (.int .i64 x1)), (5, (.int .i64 s_.1)), (6, (.int .i64 s_.2))], h := [] } k = optC (I.nextTo_run3 x0 x1 n s_) (fun (r : Int) => k (.exit 0) { n := 23, t := [(5, (.int .i64 r))], h := [] }) none := by
  induction n generalizing s_ with
  | zero => rfl
  | succ n ih =>
    have hu : I.nextTo_L3 (n + 1) { n := 23, t := [(0, (.ro false (.ints .i64 x0))), (1, (.int .i64 x1)), (5, (.int .i64 s_.1)), (6, (.int .i64 s_.2))], h := [] } k = I.nextTo_step3 x0 x1 s_.1 s_.2 (fun s_ => I.nextTo_L3 n { n := 23, t := [(0, (.ro false (.ints .i64 x0))), (1, (.int .i64 x1)), (5, (.int .i64 s_.1)), (6, (.int .i64 s_.2))], h := [] } k) (fun d => k (.exit 0) { n := 23, t := [(5, (.int .i64 d))], h := [] }) none := by
      kernel_rfl
    have hs : (fun s_ : Int × Int => I.nextTo_L3 n { n := 23, t := [(0, (.ro false (.ints .i64 x0))), (1, (.int .i64 x1)), (5, (.int .i64 s_.1)), (6, (.int .i64 s_.2))], h := [] } k) = fun s_ => optC (I.nextTo_run3 x0 x1 n s_) (fun (r : Int) => k (.exit 0) { n := 23, t := [(5, (.int .i64 r))], h := [] }) none := funext ih
    rw [hu, hs]
    exact (I.nextTo_step3_nat (fun o => optC o (fun (r : Int) => k (.exit 0) { n := 23, t := [(5, (.int .i64 r))], h := [] }) none) x0 x1 s_.1 s_.2 (I.nextTo_run3 x0 x1 n) (fun d => some d) none).symm
noncomputable def I.nextTo_tree {α : Type} (net : List Int) (set_ : Int) (leaf0_ : Int → α) (fail_ : α) : α :=
  (optC (I.nextTo_run3 net set_ FUEL (0, 0)) (fun qy_2 => (leaf0_ qy_2)) fail_)
theorem I.nextTo_tree_nat {α γ : Type} (g : α → γ) (net : List Int) (set_ : Int) (leaf0_ : Int → α) (fail_ : α) : g (I.nextTo_tree net set_ leaf0_ fail_) = I.nextTo_tree net set_ (fun d => g (leaf0_ d)) (g fail_) := by
  unfold I.nextTo_tree; simp only [apply_cnd g, apply_optC g, apply_sumC g]
noncomputable def I.nextTo_t (net : List Int) (set_ : Int) : Option (Int) := I.nextTo_tree net set_ (fun d => some d) none
theorem I.nextTo_den (net : List Int) (set_ : Int) (κ : V → List E → R) : I.nextTo_F [.ro false (.ints .i64 net), .int .i64 set_] [] κ = optC (I.nextTo_t net set_) (fun (r : Int) => κ (.int .i64 r) []) none := by
  have hu : I.nextTo_F [.ro false (.ints .i64 net), .int .i64 set_] [] κ = I.nextTo_tree net set_ (fun d => κ (.int .i64 d) []) none := by
    refine Eq.trans (show I.nextTo_F [.ro false (.ints .i64 net), .int .i64 set_] [] κ = (I.nextTo_L3 FUEL { n := 23, t := [(0, (.ro false (.ints .i64 net))), (1, (.int .i64 set_)), (5, (.int .i64 0)), (6, (.int .i64 0))], h := [] } (I.nextTo_k3 κ)) by kernel_rfl) ?_
    refine (I.nextTo_L3_run net set_ FUEL (0, 0) (I.nextTo_k3 κ)).trans (optC_congr (fun qy_2 => ?_))
    kernel_rfl
  rw [hu]
  exact (I.nextTo_tree_nat (fun o => optC o (fun (r : Int) => κ (.int .i64 r) []) none) net set_ (fun d => some d) none).symm
noncomputable def I.nextTo_s : D.Spec where
  keep := false
  pure := true
  add := true
  ds := [.int .i64, .invalid]
  sp := fun args h κ => match args, h with
    | [.ro false (.ints .i64 net), .int .i64 set_], [] => optC (I.nextTo_t net set_) (fun (r : Int) => κ (.int .i64 r) []) none
    | _, _ => none
theorem I.nextTo_ok : SpecOk Try.prog 79 I.nextTo_s := by
  refine SpecOk.of TDok mixed (T := I.nextTo_T) ?_ (ann := I.nextTo_ann) Try.func79 rfl (by decide +kernel) ?_ ?_ ?_ ?_
  · intro p hp
    simp only [I.nextTo_T, List.mem_cons, List.not_mem_nil, or_false] at hp
    rcases hp with rfl
    · exact I.hasPlace_ok
  · intro args h κ r hh
    simp only [I.nextTo_s] at hh
    split at hh
    · exact (I.nextTo_den _ _ κ).trans hh
    · cases hh
  · intro args h κ r hh
    simp only [I.nextTo_s] at hh ⊢
    split at hh
    · exact optC_law2 (F := fun (r : Int) κ => κ (.int .i64 r) []) (fun b κ r hb => ⟨_, _, hb, fun _ => rfl⟩) hh
    · cases hh
  · intro _ args h κ r hh
    simp only [I.nextTo_s] at hh
    split at hh
    · exact ⟨rfl, fun _ => rfl⟩
    · cases hh
  · intro _ args h κ r hh
    simp only [I.nextTo_s] at hh
    split at hh
    · rfl
    · cases hh

-- loop.example/guardsonnets/impl.reachedIn
noncomputable def I.reachedIn_T : List (Nat × D.Spec) := [(79, I.nextTo_s)]
def I.reachedIn_ann : Nat → List Nat × List Nat
  | 3 => ([0, 1, 5, 6], [5])
  | _ => ([], [])
noncomputable def I.reachedIn_F (args : List V) (h : List E) (κ : V → List E → R) : R := funC TD (tableK I.reachedIn_T) I.reachedIn_ann (drawOk TD (tableP I.reachedIn_T)) FUEL Try.f78 args h κ
noncomputable def I.reachedIn_L3 (n : Nat) (σ : St) (k : X → St → R) : R := iterC 0 (fun σ k => denC TD (tableK I.reachedIn_T) I.reachedIn_ann (drawOk TD (tableP I.reachedIn_T)) 0 FUEL ((findLoop 3 (Try.f78.body.getD .skip)).getD .skip) σ k) [0, 1, 5, 6] [5] n σ k
noncomputable def I.reachedIn_k3 (κ : V → List E → R) : X → St → R := (afterC TD (tableK I.reachedIn_T) I.reachedIn_ann (drawOk TD (tableP I.reachedIn_T)) 0 FUEL 3 (Try.f78.body.getD .skip) (finC TD 0 Try.f78 κ)).getD (fun _ _ => none)
noncomputable def I.reachedIn_step3 {α : Type} (x0 : List Int) (x1 : Int) (x5 : Int) (x6 : Int) (next_ : Int × Int → α) (out0_ : Int → α) (fail_ : α) : α :=
  (bif decide (x6 < (↑x0.length : Int)) then (optC (I.nextTo_t x0 x5) (fun c_1 => (next_ (bits BinOp.or IntKind.i64 x5 (bits BinOp.and IntKind.i64 x1 c_1), IntKind.i64.wrap (x6 + 1)))) fail_) else (out0_ x5))
theorem I.reachedIn_step3_nat {α γ : Type} (g : α → γ) (x0 : List Int) (x1 : Int) (x5 : Int) (x6 : Int) (next_ : Int × Int → α) (out0_ : Int → α) (fail_ : α) : g (I.reachedIn_step3 x0 x1 x5 x6 next_ out0_ fail_) = I.reachedIn_step3 x0 x1 x5 x6 (fun s => g (next_ s)) (fun d => g (out0_ d)) (g fail_) := by
  unfold I.reachedIn_step3; simp only [apply_cnd g, apply_optC g, apply_sumC g]
noncomputable def I.reachedIn_run3 (x0 : List Int) (x1 : Int) : Nat → Int × Int → Option (Int)
  | 0, _ => none
  | n + 1, s_ => I.reachedIn_step3 x0 x1 s_.1 s_.2 (I.reachedIn_run3 x0 x1 n) (fun d => some d) none
theorem I.reachedIn_L3_run (x0 : List Int) (x1 : Int) (n : Nat) (s_ : Int × Int) (k : X → St → R) : I.reachedIn_L3 n { n := 25, t := [(0, (.ro false (.ints .i64 x0))), (1, (.int .i64 x1)), (5, (.int .i64 s_.1)), (6, (.int .i64 s_.2))], h := [] } k = optC (I.reachedIn_run3 x0 x1 n s_) (fun (r : Int) => k (.exit 0) { n := 25, t := [(5, (.int .i64 r))], h := [] }) none := by
  induction n generalizing s_ with
  | zero => rfl
  | succ n ih =>
    have hu : I.reachedIn_L3 (n + 1) { n := 25, t := [(0, (.ro false (.ints .i64 x0))), (1, (.int .i64 x1)), (5, (.int .i64 s_.1)), (6, (.int .i64 s_.2))], h := [] } k = I.reachedIn_step3 x0 x1 s_.1 s_.2 (fun s_ => I.reachedIn_L3 n { n := 25, t := [(0, (.ro false (.ints .i64 x0))), (1, (.int .i64 x1)), (5, (.int .i64 s_.1)), (6, (.int .i64 s_.2))], h := [] } k) (fun d => k (.exit 0) { n := 25, t := [(5, (.int .i64 d))], h := [] }) none := by
      kernel_rfl
    have hs : (fun s_ : Int × Int => I.reachedIn_L3 n { n := 25, t := [(0, (.ro false (.ints .i64 x0))), (1, (.int .i64 x1)), (5, (.int .i64 s_.1)), (6, (.int .i64 s_.2))], h := [] } k) = fun s_ => optC (I.reachedIn_run3 x0 x1 n s_) (fun (r : Int) => k (.exit 0) { n := 25, t := [(5, (.int .i64 r))], h := [] }) none := funext ih
    rw [hu, hs]
    exact (I.reachedIn_step3_nat (fun o => optC o (fun (r : Int) => k (.exit 0) { n := 25, t := [(5, (.int .i64 r))], h := [] }) none) x0 x1 s_.1 s_.2 (I.reachedIn_run3 x0 x1 n) (fun d => some d) none).symm
noncomputable def I.reachedIn_tree {α : Type} (net : List Int) (set_ : Int) (leaf0_ : Int → α) (fail_ : α) : α :=
  (optC (I.reachedIn_run3 net set_ FUEL (bits BinOp.and IntKind.i64 set_ (IntKind.i64.wrap (0 - set_)), 1)) (fun qy_2 => (leaf0_ qy_2)) fail_)
theorem I.reachedIn_tree_nat {α γ : Type} (g : α → γ) (net : List Int) (set_ : Int) (leaf0_ : Int → α) (fail_ : α) : g (I.reachedIn_tree net set_ leaf0_ fail_) = I.reachedIn_tree net set_ (fun d => g (leaf0_ d)) (g fail_) := by
  unfold I.reachedIn_tree; simp only [apply_cnd g, apply_optC g, apply_sumC g]
noncomputable def I.reachedIn_t (net : List Int) (set_ : Int) : Option (Int) := I.reachedIn_tree net set_ (fun d => some d) none
theorem I.reachedIn_den (net : List Int) (set_ : Int) (κ : V → List E → R) : I.reachedIn_F [.ro false (.ints .i64 net), .int .i64 set_] [] κ = optC (I.reachedIn_t net set_) (fun (r : Int) => κ (.int .i64 r) []) none := by
  have hu : I.reachedIn_F [.ro false (.ints .i64 net), .int .i64 set_] [] κ = I.reachedIn_tree net set_ (fun d => κ (.int .i64 d) []) none := by
    refine Eq.trans (show I.reachedIn_F [.ro false (.ints .i64 net), .int .i64 set_] [] κ = (I.reachedIn_L3 FUEL { n := 25, t := [(0, (.ro false (.ints .i64 net))), (1, (.int .i64 set_)), (5, (.int .i64 (bits BinOp.and IntKind.i64 set_ (IntKind.i64.wrap (0 - set_))))), (6, (.int .i64 1))], h := [] } (I.reachedIn_k3 κ)) by kernel_rfl) ?_
    refine (I.reachedIn_L3_run net set_ FUEL (bits BinOp.and IntKind.i64 set_ (IntKind.i64.wrap (0 - set_)), 1) (I.reachedIn_k3 κ)).trans (optC_congr (fun qy_2 => ?_))
    kernel_rfl
  rw [hu]
  exact (I.reachedIn_tree_nat (fun o => optC o (fun (r : Int) => κ (.int .i64 r) []) none) net set_ (fun d => some d) none).symm
noncomputable def I.reachedIn_s : D.Spec where
  keep := false
  pure := true
  add := true
  ds := [.int .i64, .invalid]
  sp := fun args h κ => match args, h with
    | [.ro false (.ints .i64 net), .int .i64 set_], [] => optC (I.reachedIn_t net set_) (fun (r : Int) => κ (.int .i64 r) []) none
    | _, _ => none
theorem I.reachedIn_ok : SpecOk Try.prog 78 I.reachedIn_s := by
  refine SpecOk.of TDok mixed (T := I.reachedIn_T) ?_ (ann := I.reachedIn_ann) Try.func78 rfl (by decide +kernel) ?_ ?_ ?_ ?_
  · intro p hp
    simp only [I.reachedIn_T, List.mem_cons, List.not_mem_nil, or_false] at hp
    rcases hp with rfl
    · exact I.nextTo_ok
  · intro args h κ r hh
    simp only [I.reachedIn_s] at hh
    split at hh
    · exact (I.reachedIn_den _ _ κ).trans hh
    · cases hh
  · intro args h κ r hh
    simp only [I.reachedIn_s] at hh ⊢
    split at hh
    · exact optC_law2 (F := fun (r : Int) κ => κ (.int .i64 r) []) (fun b κ r hb => ⟨_, _, hb, fun _ => rfl⟩) hh
    · cases hh
  · intro _ args h κ r hh
    simp only [I.reachedIn_s] at hh
    split at hh
    · exact ⟨rfl, fun _ => rfl⟩
    · cases hh
  · intro _ args h κ r hh
    simp only [I.reachedIn_s] at hh
    split at hh
    · rfl
    · cases hh

-- loop.example/guardsonnets/impl.togetherIn
noncomputable def I.togetherIn_T : List (Nat × D.Spec) := [(78, I.reachedIn_s)]
def I.togetherIn_ann : Nat → List Nat × List Nat
  | _ => ([], [])
noncomputable def I.togetherIn_F (args : List V) (h : List E) (κ : V → List E → R) : R := funC TD (tableK I.togetherIn_T) I.togetherIn_ann (drawOk TD (tableP I.togetherIn_T)) FUEL Try.f75 args h κ
noncomputable def I.togetherIn_tree {α : Type} (net : List Int) (set_ : Int) (leaf0_ : Bool → α) (fail_ : α) : α :=
  (bif !set_ == 0 then (optC (I.reachedIn_t net set_) (fun c_1 => (leaf0_ (c_1 == set_))) fail_) else (leaf0_ false))
theorem I.togetherIn_tree_nat {α γ : Type} (g : α → γ) (net : List Int) (set_ : Int) (leaf0_ : Bool → α) (fail_ : α) : g (I.togetherIn_tree net set_ leaf0_ fail_) = I.togetherIn_tree net set_ (fun d => g (leaf0_ d)) (g fail_) := by
  unfold I.togetherIn_tree; simp only [apply_cnd g, apply_optC g, apply_sumC g]
noncomputable def I.togetherIn_t (net : List Int) (set_ : Int) : Option (Bool) := I.togetherIn_tree net set_ (fun d => some d) none
theorem I.togetherIn_den (net : List Int) (set_ : Int) (κ : V → List E → R) : I.togetherIn_F [.ro false (.ints .i64 net), .int .i64 set_] [] κ = optC (I.togetherIn_t net set_) (fun (r : Bool) => κ (.bool r) []) none := by
  have hu : I.togetherIn_F [.ro false (.ints .i64 net), .int .i64 set_] [] κ = I.togetherIn_tree net set_ (fun d => κ (.bool d) []) none := by
    kernel_rfl
  rw [hu]
  exact (I.togetherIn_tree_nat (fun o => optC o (fun (r : Bool) => κ (.bool r) []) none) net set_ (fun d => some d) none).symm
noncomputable def I.togetherIn_s : D.Spec where
  keep := false
  pure := true
  add := true
  ds := [.int .i64, .invalid]
  sp := fun args h κ => match args, h with
    | [.ro false (.ints .i64 net), .int .i64 set_], [] => optC (I.togetherIn_t net set_) (fun (r : Bool) => κ (.bool r) []) none
    | _, _ => none
theorem I.togetherIn_ok : SpecOk Try.prog 75 I.togetherIn_s := by
  refine SpecOk.of TDok mixed (T := I.togetherIn_T) ?_ (ann := I.togetherIn_ann) Try.func75 rfl (by decide +kernel) ?_ ?_ ?_ ?_
  · intro p hp
    simp only [I.togetherIn_T, List.mem_cons, List.not_mem_nil, or_false] at hp
    rcases hp with rfl
    · exact I.reachedIn_ok
  · intro args h κ r hh
    simp only [I.togetherIn_s] at hh
    split at hh
    · exact (I.togetherIn_den _ _ κ).trans hh
    · cases hh
  · intro args h κ r hh
    simp only [I.togetherIn_s] at hh ⊢
    split at hh
    · exact optC_law2 (F := fun (r : Bool) κ => κ (.bool r) []) (fun b κ r hb => ⟨_, _, hb, fun _ => rfl⟩) hh
    · cases hh
  · intro _ args h κ r hh
    simp only [I.togetherIn_s] at hh
    split at hh
    · exact ⟨rfl, fun _ => rfl⟩
    · cases hh
  · intro _ args h κ r hh
    simp only [I.togetherIn_s] at hh
    split at hh
    · rfl
    · cases hh

-- loop.example/guardsonnets/impl.joinedWatchIn
noncomputable def I.joinedWatchIn_T : List (Nat × D.Spec) := [(75, I.togetherIn_s), (57, I.watchIn_s)]
def I.joinedWatchIn_ann : Nat → List Nat × List Nat
  | _ => ([], [])
noncomputable def I.joinedWatchIn_F (args : List V) (h : List E) (κ : V → List E → R) : R := funC TD (tableK I.joinedWatchIn_T) I.joinedWatchIn_ann (drawOk TD (tableP I.joinedWatchIn_T)) FUEL Try.f66 args h κ
noncomputable def I.joinedWatchIn_tree {α : Type} (net : List Int) (set_ : Int) (leaf0_ : Bool → α) (fail_ : α) : α :=
  (optC (I.togetherIn_t net set_) (fun c_1 => (bif c_1 then (optC (I.watchIn_t net set_) (fun c_2 => (leaf0_ c_2)) fail_) else (leaf0_ false))) fail_)
theorem I.joinedWatchIn_tree_nat {α γ : Type} (g : α → γ) (net : List Int) (set_ : Int) (leaf0_ : Bool → α) (fail_ : α) : g (I.joinedWatchIn_tree net set_ leaf0_ fail_) = I.joinedWatchIn_tree net set_ (fun d => g (leaf0_ d)) (g fail_) := by
  unfold I.joinedWatchIn_tree; simp only [apply_cnd g, apply_optC g, apply_sumC g]
noncomputable def I.joinedWatchIn_t (net : List Int) (set_ : Int) : Option (Bool) := I.joinedWatchIn_tree net set_ (fun d => some d) none
theorem I.joinedWatchIn_den (net : List Int) (set_ : Int) (κ : V → List E → R) : I.joinedWatchIn_F [.ro false (.ints .i64 net), .int .i64 set_] [] κ = optC (I.joinedWatchIn_t net set_) (fun (r : Bool) => κ (.bool r) []) none := by
  have hu : I.joinedWatchIn_F [.ro false (.ints .i64 net), .int .i64 set_] [] κ = I.joinedWatchIn_tree net set_ (fun d => κ (.bool d) []) none := by
    kernel_rfl
  rw [hu]
  exact (I.joinedWatchIn_tree_nat (fun o => optC o (fun (r : Bool) => κ (.bool r) []) none) net set_ (fun d => some d) none).symm
noncomputable def I.joinedWatchIn_s : D.Spec where
  keep := false
  pure := true
  add := true
  ds := [.int .i64, .invalid]
  sp := fun args h κ => match args, h with
    | [.ro false (.ints .i64 net), .int .i64 set_], [] => optC (I.joinedWatchIn_t net set_) (fun (r : Bool) => κ (.bool r) []) none
    | _, _ => none
theorem I.joinedWatchIn_ok : SpecOk Try.prog 66 I.joinedWatchIn_s := by
  refine SpecOk.of TDok mixed (T := I.joinedWatchIn_T) ?_ (ann := I.joinedWatchIn_ann) Try.func66 rfl (by decide +kernel) ?_ ?_ ?_ ?_
  · intro p hp
    simp only [I.joinedWatchIn_T, List.mem_cons, List.not_mem_nil, or_false] at hp
    rcases hp with rfl | rfl
    · exact I.togetherIn_ok
    · exact I.watchIn_ok
  · intro args h κ r hh
    simp only [I.joinedWatchIn_s] at hh
    split at hh
    · exact (I.joinedWatchIn_den _ _ κ).trans hh
    · cases hh
  · intro args h κ r hh
    simp only [I.joinedWatchIn_s] at hh ⊢
    split at hh
    · exact optC_law2 (F := fun (r : Bool) κ => κ (.bool r) []) (fun b κ r hb => ⟨_, _, hb, fun _ => rfl⟩) hh
    · cases hh
  · intro _ args h κ r hh
    simp only [I.joinedWatchIn_s] at hh
    split at hh
    · exact ⟨rfl, fun _ => rfl⟩
    · cases hh
  · intro _ args h κ r hh
    simp only [I.joinedWatchIn_s] at hh
    split at hh
    · rfl
    · cases hh

-- loop.example/guardsonnets/impl.FewestJoined
noncomputable def I.FewestJoined_T : List (Nat × D.Spec) := [(28, I.NetOk_s), (65, I.allOf_s), (66, I.joinedWatchIn_s), (46, I.sizeOf_s), (67, I.fewerOf_s)]
def I.FewestJoined_ann : Nat → List Nat × List Nat
  | 5 => ([0, 3, 4], [3])
  | _ => ([], [])
noncomputable def I.FewestJoined_F (args : List V) (h : List E) (κ : V → List E → R) : R := funC TD (tableK I.FewestJoined_T) I.FewestJoined_ann (drawOk TD (tableP I.FewestJoined_T)) FUEL Try.f36 args h κ
noncomputable def I.FewestJoined_L5 (n : Nat) (σ : St) (k : X → St → R) : R := iterC 0 (fun σ k => denC TD (tableK I.FewestJoined_T) I.FewestJoined_ann (drawOk TD (tableP I.FewestJoined_T)) 0 FUEL ((findLoop 5 (Try.f36.body.getD .skip)).getD .skip) σ k) [0, 3, 4] [3] n σ k
noncomputable def I.FewestJoined_k5 (κ : V → List E → R) : X → St → R := (afterC TD (tableK I.FewestJoined_T) I.FewestJoined_ann (drawOk TD (tableP I.FewestJoined_T)) 0 FUEL 5 (Try.f36.body.getD .skip) (finC TD 0 Try.f36 κ)).getD (fun _ _ => none)
noncomputable def I.FewestJoined_step5 {α : Type} (x0 : List Int) (x3 : Int) (x4 : Int) (next_ : Int × Int → α) (out0_ : Int → α) (fail_ : α) : α :=
  (optC (I.allOf_t x0) (fun c_2 => (bif decide (x4 ≤ c_2) then (optC (I.joinedWatchIn_t x0 x4) (fun c_3 => (bif c_3 then (optC (I.sizeOf_t x4) (fun c_4 => (optC (I.fewerOf_t x3 c_4) (fun c_5 => (next_ (c_5, IntKind.i64.wrap (x4 + 1)))) fail_)) fail_) else (next_ (x3, IntKind.i64.wrap (x4 + 1))))) fail_) else (out0_ x3))) fail_)
theorem I.FewestJoined_step5_nat {α γ : Type} (g : α → γ) (x0 : List Int) (x3 : Int) (x4 : Int) (next_ : Int × Int → α) (out0_ : Int → α) (fail_ : α) : g (I.FewestJoined_step5 x0 x3 x4 next_ out0_ fail_) = I.FewestJoined_step5 x0 x3 x4 (fun s => g (next_ s)) (fun d => g (out0_ d)) (g fail_) := by
  unfold I.FewestJoined_step5; simp only [apply_cnd g, apply_optC g, apply_sumC g]
noncomputable def I.FewestJoined_run5 (x0 : List Int) : Nat → Int × Int → Option (Int)
  | 0, _ => none
  | n + 1, s_ => I.FewestJoined_step5 x0 s_.1 s_.2 (I.FewestJoined_run5 x0 n) (fun d => some d) none
theorem I.FewestJoined_L5_run (x0 : List Int) (n : Nat) (s_ : Int × Int) (k : X → St → R) : I.FewestJoined_L5 n { n := 22, t := [(0, (.ro false (.ints .i64 x0))), (3, (.int .i64 s_.1)), (4, (.int .i64 s_.2))], h := [] } k = optC (I.FewestJoined_run5 x0 n s_) (fun (r : Int) => k (.exit 0) { n := 22, t := [(3, (.int .i64 r))], h := [] }) none := by
  induction n generalizing s_ with
  | zero => rfl
  | succ n ih =>
    have hu : I.FewestJoined_L5 (n + 1) { n := 22, t := [(0, (.ro false (.ints .i64 x0))), (3, (.int .i64 s_.1)), (4, (.int .i64 s_.2))], h := [] } k = I.FewestJoined_step5 x0 s_.1 s_.2 (fun s_ => I.FewestJoined_L5 n { n := 22, t := [(0, (.ro false (.ints .i64 x0))), (3, (.int .i64 s_.1)), (4, (.int .i64 s_.2))], h := [] } k) (fun d => k (.exit 0) { n := 22, t := [(3, (.int .i64 d))], h := [] }) none := by
      kernel_rfl
    have hs : (fun s_ : Int × Int => I.FewestJoined_L5 n { n := 22, t := [(0, (.ro false (.ints .i64 x0))), (3, (.int .i64 s_.1)), (4, (.int .i64 s_.2))], h := [] } k) = fun s_ => optC (I.FewestJoined_run5 x0 n s_) (fun (r : Int) => k (.exit 0) { n := 22, t := [(3, (.int .i64 r))], h := [] }) none := funext ih
    rw [hu, hs]
    exact (I.FewestJoined_step5_nat (fun o => optC o (fun (r : Int) => k (.exit 0) { n := 22, t := [(3, (.int .i64 r))], h := [] }) none) x0 s_.1 s_.2 (I.FewestJoined_run5 x0 n) (fun d => some d) none).symm
noncomputable def I.FewestJoined_tree {α : Type} (net : List Int) (leaf0_ : Int → α) (fail_ : α) : α :=
  (optC (I.NetOk_t net) (fun c_1 => (bif !c_1 then (leaf0_ (-1)) else (optC (I.FewestJoined_run5 net FUEL (-1, 0)) (fun qy_6 => (leaf0_ qy_6)) fail_))) fail_)
theorem I.FewestJoined_tree_nat {α γ : Type} (g : α → γ) (net : List Int) (leaf0_ : Int → α) (fail_ : α) : g (I.FewestJoined_tree net leaf0_ fail_) = I.FewestJoined_tree net (fun d => g (leaf0_ d)) (g fail_) := by
  unfold I.FewestJoined_tree; simp only [apply_cnd g, apply_optC g, apply_sumC g]
noncomputable def I.FewestJoined_t (net : List Int) : Option (Int) := I.FewestJoined_tree net (fun d => some d) none
theorem I.FewestJoined_den (net : List Int) (κ : V → List E → R) : I.FewestJoined_F [.ro false (.ints .i64 net)] [] κ = optC (I.FewestJoined_t net) (fun (r : Int) => κ (.int .i64 r) []) none := by
  have hu : I.FewestJoined_F [.ro false (.ints .i64 net)] [] κ = I.FewestJoined_tree net (fun d => κ (.int .i64 d) []) none := by
    refine Eq.trans (show I.FewestJoined_F [.ro false (.ints .i64 net)] [] κ = (optC (I.NetOk_t net) (fun c_1 => (bif !c_1 then (κ (.int .i64 (-1)) []) else (I.FewestJoined_L5 FUEL { n := 22, t := [(0, (.ro false (.ints .i64 net))), (3, (.int .i64 (-1))), (4, (.int .i64 0))], h := [] } (I.FewestJoined_k5 κ)))) none) by kernel_rfl) ?_
    refine optC_congr (fun c_1 => ?_)
    refine cnd_congr ?_ ?_
    · kernel_rfl
    · refine (I.FewestJoined_L5_run net FUEL (-1, 0) (I.FewestJoined_k5 κ)).trans (optC_congr (fun qy_6 => ?_))
      kernel_rfl
  rw [hu]
  exact (I.FewestJoined_tree_nat (fun o => optC o (fun (r : Int) => κ (.int .i64 r) []) none) net (fun d => some d) none).symm
noncomputable def I.FewestJoined_s : D.Spec where
  keep := false
  pure := true
  add := true
  ds := [.int .i64]
  sp := fun args h κ => match args, h with
    | [.ro false (.ints .i64 net)], [] => optC (I.FewestJoined_t net) (fun (r : Int) => κ (.int .i64 r) []) none
    | _, _ => none
theorem I.FewestJoined_ok : SpecOk Try.prog 36 I.FewestJoined_s := by
  refine SpecOk.of TDok mixed (T := I.FewestJoined_T) ?_ (ann := I.FewestJoined_ann) Try.func36 rfl (by decide +kernel) ?_ ?_ ?_ ?_
  · intro p hp
    simp only [I.FewestJoined_T, List.mem_cons, List.not_mem_nil, or_false] at hp
    rcases hp with rfl | rfl | rfl | rfl | rfl
    · exact I.NetOk_ok
    · exact I.allOf_ok
    · exact I.joinedWatchIn_ok
    · exact I.sizeOf_ok
    · exact I.fewerOf_ok
  · intro args h κ r hh
    simp only [I.FewestJoined_s] at hh
    split at hh
    · exact (I.FewestJoined_den _ κ).trans hh
    · cases hh
  · intro args h κ r hh
    simp only [I.FewestJoined_s] at hh ⊢
    split at hh
    · exact optC_law2 (F := fun (r : Int) κ => κ (.int .i64 r) []) (fun b κ r hb => ⟨_, _, hb, fun _ => rfl⟩) hh
    · cases hh
  · intro _ args h κ r hh
    simp only [I.FewestJoined_s] at hh
    split at hh
    · exact ⟨rfl, fun _ => rfl⟩
    · cases hh
  · intro _ args h κ r hh
    simp only [I.FewestJoined_s] at hh
    split at hh
    · rfl
    · cases hh

-- loop.example/guardsonnets/laws.FnMostLeaves
noncomputable def L.FnMostLeaves_T : List (Nat × D.Spec) := [(32, S.DrawMostLeaves_s), (33, I.MostLeaves_s), (34, S.MostLeaves_s), (28, I.NetOk_s), (15, L.alive_s), (35, I.PartMany_s), (36, I.FewestJoined_s)]
def L.FnMostLeaves_ann : Nat → List Nat × List Nat
  | _ => ([], [])
noncomputable def L.FnMostLeaves_F (args : List V) (h : List E) (κ : V → List E → R) : R := funC TD (tableK L.FnMostLeaves_T) L.FnMostLeaves_ann (drawOk TD (tableP L.FnMostLeaves_T)) FUEL Try.f9 args h κ
noncomputable def L.FnMostLeaves_tree {α : Type} (code : List Int) (leaf0_ : Bool → α) (fail_ : α) : α :=
  (bif decide ((↑code.length : Int) > 1048576) then (leaf0_ true) else (optC (S.DrawMostLeaves_t code) (fun c_1 => (optC (I.MostLeaves_t c_1) (fun c_2 => (optC (S.MostLeaves_t c_1) (fun c_3 => (bif !c_2 == c_3 then (leaf0_ false) else (optC (I.NetOk_t c_1) (fun c_4 => (bif !c_4 then (bif c_2 == -1 then (optC (L.alive_t) (fun c_5 => (leaf0_ c_5)) fail_) else (leaf0_ false)) else (optC (I.PartMany_t c_1) (fun c_6 => (bif !c_6 == 1 then (leaf0_ (c_2 == -1)) else (bif (↑c_1.length : Int) == 1 then (leaf0_ (c_2 == -1)) else (bif decide (c_2 ≥ 2) then (bif (↑c_1.length : Int) == 2 then (leaf0_ true) else (optC (I.FewestJoined_t c_1) (fun c_7 => (leaf0_ (c_2 == IntKind.i64.wrap ((↑c_1.length : Int) - c_7)))) fail_)) else (leaf0_ false))))) fail_))) fail_))) fail_)) fail_)) fail_))
theorem L.FnMostLeaves_tree_nat {α γ : Type} (g : α → γ) (code : List Int) (leaf0_ : Bool → α) (fail_ : α) : g (L.FnMostLeaves_tree code leaf0_ fail_) = L.FnMostLeaves_tree code (fun d => g (leaf0_ d)) (g fail_) := by
  unfold L.FnMostLeaves_tree; simp only [apply_cnd g, apply_optC g, apply_sumC g]
noncomputable def L.FnMostLeaves_t (code : List Int) : Option (Bool) := L.FnMostLeaves_tree code (fun d => some d) none
theorem L.FnMostLeaves_den (code : List Int) (κ : V → List E → R) : L.FnMostLeaves_F [.ro true (.ints .u8 code)] [] κ = optC (L.FnMostLeaves_t code) (fun (r : Bool) => κ (.bool r) []) none := by
  have hu : L.FnMostLeaves_F [.ro true (.ints .u8 code)] [] κ = L.FnMostLeaves_tree code (fun d => κ (.bool d) []) none := by
    kernel_rfl
  rw [hu]
  exact (L.FnMostLeaves_tree_nat (fun o => optC o (fun (r : Bool) => κ (.bool r) []) none) code (fun d => some d) none).symm
noncomputable def L.FnMostLeaves_s : D.Spec where
  keep := true
  pure := true
  add := true
  ds := [.int .u8]
  sp := fun args h κ => match args, h with
    | [.ro true (.ints .u8 code)], [] => optC (L.FnMostLeaves_t code) (fun (r : Bool) => κ (.bool r) []) none
    | _, _ => none
theorem L.FnMostLeaves_ok : SpecOk Try.prog 9 L.FnMostLeaves_s := by
  refine SpecOk.of TDok mixed (T := L.FnMostLeaves_T) ?_ (ann := L.FnMostLeaves_ann) Try.func9 rfl (by decide +kernel) ?_ ?_ ?_ ?_
  · intro p hp
    simp only [L.FnMostLeaves_T, List.mem_cons, List.not_mem_nil, or_false] at hp
    rcases hp with rfl | rfl | rfl | rfl | rfl | rfl | rfl
    · exact S.DrawMostLeaves_ok
    · exact I.MostLeaves_ok
    · exact S.MostLeaves_ok
    · exact I.NetOk_ok
    · exact L.alive_ok
    · exact I.PartMany_ok
    · exact I.FewestJoined_ok
  · intro args h κ r hh
    simp only [L.FnMostLeaves_s] at hh
    split at hh
    · exact (L.FnMostLeaves_den _ κ).trans hh
    · cases hh
  · intro args h κ r hh
    simp only [L.FnMostLeaves_s] at hh ⊢
    split at hh
    · exact optC_law2 (F := fun (r : Bool) κ => κ (.bool r) []) (fun b κ r hb => ⟨_, _, hb, fun _ => rfl⟩) hh
    · cases hh
  · intro _ args h κ r hh
    simp only [L.FnMostLeaves_s] at hh
    split at hh
    · exact ⟨rfl, fun _ => rfl⟩
    · cases hh
  · intro _ args h κ r hh
    simp only [L.FnMostLeaves_s] at hh
    split at hh
    · rfl
    · cases hh

-- loop.example/guardsonnets/laws.FnExactMostLeaves
noncomputable def L.FnExactMostLeaves_T : List (Nat × D.Spec) := [(17, L.toIntS_s), (34, S.MostLeaves_s), (33, I.MostLeaves_s), (18, L.eqIntS_s)]
def L.FnExactMostLeaves_ann : Nat → List Nat × List Nat
  | _ => ([], [])
noncomputable def L.FnExactMostLeaves_F (args : List V) (h : List E) (κ : V → List E → R) : R := funC TD (tableK L.FnExactMostLeaves_T) L.FnExactMostLeaves_ann (drawOk TD (tableP L.FnExactMostLeaves_T)) FUEL Try.f10 args h κ
noncomputable def L.FnExactMostLeaves_tree {α : Type} (aNet : List Int) (leaf0_ : Bool → α) (fail_ : α) : α :=
  (bif decide ((↑aNet.length : Int) > 1048576) then (leaf0_ true) else (optC (L.toIntS_t aNet) (fun c_1 => (optC (S.MostLeaves_t c_1) (fun c_2 => (optC (L.toIntS_t aNet) (fun c_3 => (optC (I.MostLeaves_t c_3) (fun c_4 => (bif !c_4 == c_2 then (leaf0_ false) else (optC (L.toIntS_t aNet) (fun c_5 => (optC (L.eqIntS_t c_3 c_5) (fun c_6 => (bif !c_6 then (leaf0_ false) else (leaf0_ true))) fail_)) fail_))) fail_)) fail_)) fail_)) fail_))
theorem L.FnExactMostLeaves_tree_nat {α γ : Type} (g : α → γ) (aNet : List Int) (leaf0_ : Bool → α) (fail_ : α) : g (L.FnExactMostLeaves_tree aNet leaf0_ fail_) = L.FnExactMostLeaves_tree aNet (fun d => g (leaf0_ d)) (g fail_) := by
  unfold L.FnExactMostLeaves_tree; simp only [apply_cnd g, apply_optC g, apply_sumC g]
noncomputable def L.FnExactMostLeaves_t (aNet : List Int) : Option (Bool) := L.FnExactMostLeaves_tree aNet (fun d => some d) none
theorem L.FnExactMostLeaves_den (aNet : List Int) (κ : V → List E → R) : L.FnExactMostLeaves_F [.ro true (.ints .i64 aNet)] [] κ = optC (L.FnExactMostLeaves_t aNet) (fun (r : Bool) => κ (.bool r) []) none := by
  have hu : L.FnExactMostLeaves_F [.ro true (.ints .i64 aNet)] [] κ = L.FnExactMostLeaves_tree aNet (fun d => κ (.bool d) []) none := by
    kernel_rfl
  rw [hu]
  exact (L.FnExactMostLeaves_tree_nat (fun o => optC o (fun (r : Bool) => κ (.bool r) []) none) aNet (fun d => some d) none).symm
noncomputable def L.FnExactMostLeaves_s : D.Spec where
  keep := true
  pure := true
  add := true
  ds := [.int .i64]
  sp := fun args h κ => match args, h with
    | [.ro true (.ints .i64 aNet)], [] => optC (L.FnExactMostLeaves_t aNet) (fun (r : Bool) => κ (.bool r) []) none
    | _, _ => none
theorem L.FnExactMostLeaves_ok : SpecOk Try.prog 10 L.FnExactMostLeaves_s := by
  refine SpecOk.of TDok mixed (T := L.FnExactMostLeaves_T) ?_ (ann := L.FnExactMostLeaves_ann) Try.func10 rfl (by decide +kernel) ?_ ?_ ?_ ?_
  · intro p hp
    simp only [L.FnExactMostLeaves_T, List.mem_cons, List.not_mem_nil, or_false] at hp
    rcases hp with rfl | rfl | rfl | rfl
    · exact L.toIntS_ok
    · exact S.MostLeaves_ok
    · exact I.MostLeaves_ok
    · exact L.eqIntS_ok
  · intro args h κ r hh
    simp only [L.FnExactMostLeaves_s] at hh
    split at hh
    · exact (L.FnExactMostLeaves_den _ κ).trans hh
    · cases hh
  · intro args h κ r hh
    simp only [L.FnExactMostLeaves_s] at hh ⊢
    split at hh
    · exact optC_law2 (F := fun (r : Bool) κ => κ (.bool r) []) (fun b κ r hb => ⟨_, _, hb, fun _ => rfl⟩) hh
    · cases hh
  · intro _ args h κ r hh
    simp only [L.FnExactMostLeaves_s] at hh
    split at hh
    · exact ⟨rfl, fun _ => rfl⟩
    · cases hh
  · intro _ args h κ r hh
    simp only [L.FnExactMostLeaves_s] at hh
    split at hh
    · rfl
    · cases hh


end Go.Proofs.Ytaidofcjijkbjaa
