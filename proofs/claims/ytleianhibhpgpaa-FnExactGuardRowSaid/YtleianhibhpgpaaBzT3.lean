/- Twins of the translated functions, with their proofs. Conditions: none. -/
import Derived.Test.YtleianhibhpgpaaBzT2
set_option linter.unusedVariables false
set_option linter.unusedSimpArgs false
set_option linter.unusedSectionVars false
namespace Go.Proofs.Ytleianhibhpgpaa
open D Go.RowKit
-- loop.example/guardsonnets/impl.allMovesOf
noncomputable def I.allMovesOf_T : List (Nat × D.Spec) := [(34, I.allOf_s), (83, I.allMoveIn_s)]
def I.allMovesOf_ann : Nat → List Nat × List Nat
  | 3 => ([0, 1, 5, 6], [5])
  | _ => ([], [])
noncomputable def I.allMovesOf_F (args : List V) (h : List E) (κ : V → List E → R) : R := funC TD (tableK I.allMovesOf_T) I.allMovesOf_ann (drawOk TD (tableP I.allMovesOf_T)) FUEL Try.f80 args h κ
noncomputable def I.allMovesOf_L3 (n : Nat) (σ : St) (k : X → St → R) : R := iterC 0 (fun σ k => denC TD (tableK I.allMovesOf_T) I.allMovesOf_ann (drawOk TD (tableP I.allMovesOf_T)) 0 FUEL ((findLoop 3 (Try.f80.body.getD .skip)).getD .skip) σ k) [0, 1, 5, 6] [5] n σ k
noncomputable def I.allMovesOf_k3 (κ : V → List E → R) : X → St → R := (afterC TD (tableK I.allMovesOf_T) I.allMovesOf_ann (drawOk TD (tableP I.allMovesOf_T)) 0 FUEL 3 (Try.f80.body.getD .skip) (finC TD 0 Try.f80 κ)).getD (fun _ _ => none)
noncomputable def I.allMovesOf_step3 {α : Type} (x0 : List Int) (x1 : Int) (x6 : Int) (r0 : List Int) (next_ : Int × (List Int) → α) (out0_ : List Int → α) (fail_ : α) : α :=
  (optC (I.allOf_t x0) (fun c_1 => (bif decide (x6 ≤ c_1) then (optC (I.allMoveIn_t x0 x1 x6) (fun c_2 => (bif c_2 then (bif small (r0 ++ [x6]).length then (next_ (IntKind.i64.wrap (x6 + 1), r0 ++ [x6])) else fail_) else (next_ (IntKind.i64.wrap (x6 + 1), r0)))) fail_) else (out0_ r0))) fail_)
theorem I.allMovesOf_step3_nat {α γ : Type} (g : α → γ) (x0 : List Int) (x1 : Int) (x6 : Int) (r0 : List Int) (next_ : Int × (List Int) → α) (out0_ : List Int → α) (fail_ : α) : g (I.allMovesOf_step3 x0 x1 x6 r0 next_ out0_ fail_) = I.allMovesOf_step3 x0 x1 x6 r0 (fun s => g (next_ s)) (fun d => g (out0_ d)) (g fail_) := by
  unfold I.allMovesOf_step3; simp only [apply_cnd g, apply_optC g, apply_sumC g]
noncomputable def I.allMovesOf_run3 (x0 : List Int) (x1 : Int) : Nat → Int × (List Int) → Option (List Int)
  | 0, _ => none
  | n + 1, s_ => I.allMovesOf_step3 x0 x1 s_.1 s_.2 (I.allMovesOf_run3 x0 x1 n) (fun d => some d) none
theorem I.allMovesOf_L3_run (x0 : List Int) (x1 : Int) (n : Nat) (s_ : Int × (List Int)) (k : X → St → R) : I.allMovesOf_L3 n { n := 23, t := [(0, (.ro false (.ints .i64 x0))), (1, (.int .i64 x1)), (5, (.own 0)), (6, (.int .i64 s_.1))], h := [.row (.ints .i64 s_.2)] } k = optC (I.allMovesOf_run3 x0 x1 n s_) (fun (r : List Int) => k (.exit 0) { n := 23, t := [(5, (.own 0))], h := [.row (.ints .i64 r)] }) none := by
  induction n generalizing s_ with
  | zero => rfl
  | succ n ih =>
    have hu : I.allMovesOf_L3 (n + 1) { n := 23, t := [(0, (.ro false (.ints .i64 x0))), (1, (.int .i64 x1)), (5, (.own 0)), (6, (.int .i64 s_.1))], h := [.row (.ints .i64 s_.2)] } k = I.allMovesOf_step3 x0 x1 s_.1 s_.2 (fun s_ => I.allMovesOf_L3 n { n := 23, t := [(0, (.ro false (.ints .i64 x0))), (1, (.int .i64 x1)), (5, (.own 0)), (6, (.int .i64 s_.1))], h := [.row (.ints .i64 s_.2)] } k) (fun d => k (.exit 0) { n := 23, t := [(5, (.own 0))], h := [.row (.ints .i64 d)] }) none := by
      kernel_rfl
    have hs : (fun s_ : Int × (List Int) => I.allMovesOf_L3 n { n := 23, t := [(0, (.ro false (.ints .i64 x0))), (1, (.int .i64 x1)), (5, (.own 0)), (6, (.int .i64 s_.1))], h := [.row (.ints .i64 s_.2)] } k) = fun s_ => optC (I.allMovesOf_run3 x0 x1 n s_) (fun (r : List Int) => k (.exit 0) { n := 23, t := [(5, (.own 0))], h := [.row (.ints .i64 r)] }) none := funext ih
    rw [hu, hs]
    exact (I.allMovesOf_step3_nat (fun o => optC o (fun (r : List Int) => k (.exit 0) { n := 23, t := [(5, (.own 0))], h := [.row (.ints .i64 r)] }) none) x0 x1 s_.1 s_.2 (I.allMovesOf_run3 x0 x1 n) (fun d => some d) none).symm
noncomputable def I.allMovesOf_tree {α : Type} (net : List Int) (from_ : Int) (leaf0_ : List Int → α) (fail_ : α) : α :=
  (optC (I.allMovesOf_run3 net from_ FUEL (0, [])) (fun qy_3 => (leaf0_ qy_3)) fail_)
theorem I.allMovesOf_tree_nat {α γ : Type} (g : α → γ) (net : List Int) (from_ : Int) (leaf0_ : List Int → α) (fail_ : α) : g (I.allMovesOf_tree net from_ leaf0_ fail_) = I.allMovesOf_tree net from_ (fun d => g (leaf0_ d)) (g fail_) := by
  unfold I.allMovesOf_tree; simp only [apply_cnd g, apply_optC g, apply_sumC g]
noncomputable def I.allMovesOf_t (net : List Int) (from_ : Int) : Option (List Int) := I.allMovesOf_tree net from_ (fun d => some d) none
theorem I.allMovesOf_den (net : List Int) (from_ : Int) (κ : V → List E → R) : I.allMovesOf_F [.ro false (.ints .i64 net), .int .i64 from_] [] κ = optC (I.allMovesOf_t net from_) (fun (r : List Int) => κ (.own 0) [.row (.ints .i64 r)]) none := by
  have hu : I.allMovesOf_F [.ro false (.ints .i64 net), .int .i64 from_] [] κ = I.allMovesOf_tree net from_ (fun d => κ (.own 0) [.row (.ints .i64 d)]) none := by
    refine Eq.trans (show I.allMovesOf_F [.ro false (.ints .i64 net), .int .i64 from_] [] κ = (I.allMovesOf_L3 FUEL { n := 23, t := [(0, (.ro false (.ints .i64 net))), (1, (.int .i64 from_)), (5, (.own 0)), (6, (.int .i64 0))], h := [.row (.ints .i64 ([]))] } (I.allMovesOf_k3 κ)) by kernel_rfl) ?_
    refine (I.allMovesOf_L3_run net from_ FUEL (0, []) (I.allMovesOf_k3 κ)).trans (optC_congr (fun qy_3 => ?_))
    kernel_rfl
  rw [hu]
  exact (I.allMovesOf_tree_nat (fun o => optC o (fun (r : List Int) => κ (.own 0) [.row (.ints .i64 r)]) none) net from_ (fun d => some d) none).symm
noncomputable def I.allMovesOf_s : D.Spec where
  keep := false
  pure := false
  add := true
  ds := [.int .i64, .invalid]
  sp := fun args h κ => match args, h with
    | [.ro false (.ints .i64 net), .int .i64 from_], [] => optC (I.allMovesOf_t net from_) (fun (r : List Int) => κ (.own 0) [.row (.ints .i64 r)]) none
    | _, _ => none
theorem I.allMovesOf_ok : SpecOk Try.prog 80 I.allMovesOf_s := by
  refine SpecOk.of TDok mixed (T := I.allMovesOf_T) ?_ (ann := I.allMovesOf_ann) Try.func80 rfl (by decide +kernel) ?_ ?_ ?_ ?_
  · intro p hp
    simp only [I.allMovesOf_T, List.mem_cons, List.not_mem_nil, or_false] at hp
    rcases hp with rfl | rfl
    · exact I.allOf_ok
    · exact I.allMoveIn_ok
  · intro args h κ r hh
    simp only [I.allMovesOf_s] at hh
    split at hh
    · exact (I.allMovesOf_den _ _ κ).trans hh
    · cases hh
  · intro args h κ r hh
    simp only [I.allMovesOf_s] at hh ⊢
    split at hh
    · exact optC_law2 (F := fun (r : List Int) κ => κ (.own 0) [.row (.ints .i64 r)]) (fun b κ r hb => ⟨_, _, hb, fun _ => rfl⟩) hh
    · cases hh
  · intro hh; cases hh
  · intro _ args h κ r hh
    simp only [I.allMovesOf_s] at hh
    split at hh
    · rfl
    · cases hh

-- loop.example/guardsonnets/impl.allMovesIn
noncomputable def I.allMovesIn_T : List (Nat × D.Spec) := [(34, I.allOf_s), (80, I.allMovesOf_s)]
def I.allMovesIn_ann : Nat → List Nat × List Nat
  | 3 => ([0, 3, 4], [3])
  | _ => ([], [])
noncomputable def I.allMovesIn_F (args : List V) (h : List E) (κ : V → List E → R) : R := funC TD (tableK I.allMovesIn_T) I.allMovesIn_ann (drawOk TD (tableP I.allMovesIn_T)) FUEL Try.f72 args h κ
noncomputable def I.allMovesIn_L3 (n : Nat) (σ : St) (k : X → St → R) : R := iterC 0 (fun σ k => denC TD (tableK I.allMovesIn_T) I.allMovesIn_ann (drawOk TD (tableP I.allMovesIn_T)) 0 FUEL ((findLoop 3 (Try.f72.body.getD .skip)).getD .skip) σ k) [0, 3, 4] [3] n σ k
noncomputable def I.allMovesIn_k3 (κ : V → List E → R) : X → St → R := (afterC TD (tableK I.allMovesIn_T) I.allMovesIn_ann (drawOk TD (tableP I.allMovesIn_T)) 0 FUEL 3 (Try.f72.body.getD .skip) (finC TD 0 Try.f72 κ)).getD (fun _ _ => none)
noncomputable def I.allMovesIn_step3 {α : Type} (x0 : List Int) (x4 : Int) (r0 : List (List Int)) (next_ : Int × (List (List Int)) → α) (out0_ : List (List Int) → α) (fail_ : α) : α :=
  (optC (I.allOf_t x0) (fun c_2 => (bif decide (x4 ≤ c_2) then (optC (I.allMovesOf_t x0 x4) (fun c_3 => (bif decide (0 ≤ x4) && decide (x4 < (↑r0.length : Int)) then (bif decide (x4.toNat < r0.length) then (next_ (IntKind.i64.wrap (x4 + 1), r0.set x4.toNat c_3)) else fail_) else fail_)) fail_) else (out0_ r0))) fail_)
theorem I.allMovesIn_step3_nat {α γ : Type} (g : α → γ) (x0 : List Int) (x4 : Int) (r0 : List (List Int)) (next_ : Int × (List (List Int)) → α) (out0_ : List (List Int) → α) (fail_ : α) : g (I.allMovesIn_step3 x0 x4 r0 next_ out0_ fail_) = I.allMovesIn_step3 x0 x4 r0 (fun s => g (next_ s)) (fun d => g (out0_ d)) (g fail_) := by
  unfold I.allMovesIn_step3; simp only [apply_cnd g, apply_optC g, apply_sumC g]
noncomputable def I.allMovesIn_run3 (x0 : List Int) : Nat → Int × (List (List Int)) → Option (List (List Int))
  | 0, _ => none
  | n + 1, s_ => I.allMovesIn_step3 x0 s_.1 s_.2 (I.allMovesIn_run3 x0 n) (fun d => some d) none
theorem I.allMovesIn_L3_run (x0 : List Int) (n : Nat) (s_ : Int × (List (List Int))) (k : X → St → R) : I.allMovesIn_L3 n { n := 22, t := [(0, (.ro false (.ints .i64 x0))), (3, (.own 0)), (4, (.int .i64 s_.1))], h := [.row (.rows s_.2)] } k = optC (I.allMovesIn_run3 x0 n s_) (fun (r : List (List Int)) => k (.exit 0) { n := 22, t := [(3, (.own 0))], h := [.row (.rows r)] }) none := by
  induction n generalizing s_ with
  | zero => rfl
  | succ n ih =>
    have hu : I.allMovesIn_L3 (n + 1) { n := 22, t := [(0, (.ro false (.ints .i64 x0))), (3, (.own 0)), (4, (.int .i64 s_.1))], h := [.row (.rows s_.2)] } k = I.allMovesIn_step3 x0 s_.1 s_.2 (fun s_ => I.allMovesIn_L3 n { n := 22, t := [(0, (.ro false (.ints .i64 x0))), (3, (.own 0)), (4, (.int .i64 s_.1))], h := [.row (.rows s_.2)] } k) (fun d => k (.exit 0) { n := 22, t := [(3, (.own 0))], h := [.row (.rows d)] }) none := by
      kernel_rfl
    have hs : (fun s_ : Int × (List (List Int)) => I.allMovesIn_L3 n { n := 22, t := [(0, (.ro false (.ints .i64 x0))), (3, (.own 0)), (4, (.int .i64 s_.1))], h := [.row (.rows s_.2)] } k) = fun s_ => optC (I.allMovesIn_run3 x0 n s_) (fun (r : List (List Int)) => k (.exit 0) { n := 22, t := [(3, (.own 0))], h := [.row (.rows r)] }) none := funext ih
    rw [hu, hs]
    exact (I.allMovesIn_step3_nat (fun o => optC o (fun (r : List (List Int)) => k (.exit 0) { n := 22, t := [(3, (.own 0))], h := [.row (.rows r)] }) none) x0 s_.1 s_.2 (I.allMovesIn_run3 x0 n) (fun d => some d) none).symm
noncomputable def I.allMovesIn_tree {α : Type} (net : List Int) (leaf0_ : List (List Int) → α) (fail_ : α) : α :=
  (optC (I.allOf_t net) (fun c_1 => (bif decide (0 ≤ IntKind.i64.wrap (c_1 + 1)) && small (IntKind.i64.wrap (c_1 + 1)).toNat && true then (optC (I.allMovesIn_run3 net FUEL (0, List.replicate (IntKind.i64.wrap (c_1 + 1)).toNat [])) (fun qy_4 => (leaf0_ qy_4)) fail_) else fail_)) fail_)
theorem I.allMovesIn_tree_nat {α γ : Type} (g : α → γ) (net : List Int) (leaf0_ : List (List Int) → α) (fail_ : α) : g (I.allMovesIn_tree net leaf0_ fail_) = I.allMovesIn_tree net (fun d => g (leaf0_ d)) (g fail_) := by
  unfold I.allMovesIn_tree; simp only [apply_cnd g, apply_optC g, apply_sumC g]
noncomputable def I.allMovesIn_t (net : List Int) : Option (List (List Int)) := I.allMovesIn_tree net (fun d => some d) none
theorem I.allMovesIn_den (net : List Int) (κ : V → List E → R) : I.allMovesIn_F [.ro false (.ints .i64 net)] [] κ = optC (I.allMovesIn_t net) (fun (r : List (List Int)) => κ (.own 0) [.row (.rows r)]) none := by
  have hu : I.allMovesIn_F [.ro false (.ints .i64 net)] [] κ = I.allMovesIn_tree net (fun d => κ (.own 0) [.row (.rows d)]) none := by
    refine Eq.trans (show I.allMovesIn_F [.ro false (.ints .i64 net)] [] κ = (optC (I.allOf_t net) (fun c_1 => (bif decide (0 ≤ IntKind.i64.wrap (c_1 + 1)) && small (IntKind.i64.wrap (c_1 + 1)).toNat && true then (I.allMovesIn_L3 FUEL { n := 22, t := [(0, (.ro false (.ints .i64 net))), (3, (.own 0)), (4, (.int .i64 0))], h := [.row (.rows (List.replicate (IntKind.i64.wrap (c_1 + 1)).toNat []))] } (I.allMovesIn_k3 κ)) else none)) none) by kernel_rfl) ?_
    refine optC_congr (fun c_1 => ?_)
    refine cnd_congr ?_ ?_
    · refine (I.allMovesIn_L3_run net FUEL (0, List.replicate (IntKind.i64.wrap (c_1 + 1)).toNat []) (I.allMovesIn_k3 κ)).trans (optC_congr (fun qy_4 => ?_))
      kernel_rfl
    · kernel_rfl
  rw [hu]
  exact (I.allMovesIn_tree_nat (fun o => optC o (fun (r : List (List Int)) => κ (.own 0) [.row (.rows r)]) none) net (fun d => some d) none).symm
noncomputable def I.allMovesIn_s : D.Spec where
  keep := false
  pure := false
  add := true
  ds := [.int .i64]
  sp := fun args h κ => match args, h with
    | [.ro false (.ints .i64 net)], [] => optC (I.allMovesIn_t net) (fun (r : List (List Int)) => κ (.own 0) [.row (.rows r)]) none
    | _, _ => none
theorem I.allMovesIn_ok : SpecOk Try.prog 72 I.allMovesIn_s := by
  refine SpecOk.of TDok mixed (T := I.allMovesIn_T) ?_ (ann := I.allMovesIn_ann) Try.func72 rfl (by decide +kernel) ?_ ?_ ?_ ?_
  · intro p hp
    simp only [I.allMovesIn_T, List.mem_cons, List.not_mem_nil, or_false] at hp
    rcases hp with rfl | rfl
    · exact I.allOf_ok
    · exact I.allMovesOf_ok
  · intro args h κ r hh
    simp only [I.allMovesIn_s] at hh
    split at hh
    · exact (I.allMovesIn_den _ κ).trans hh
    · cases hh
  · intro args h κ r hh
    simp only [I.allMovesIn_s] at hh ⊢
    split at hh
    · exact optC_law2 (F := fun (r : List (List Int)) κ => κ (.own 0) [.row (.rows r)]) (fun b κ r hb => ⟨_, _, hb, fun _ => rfl⟩) hh
    · cases hh
  · intro hh; cases hh
  · intro _ args h κ r hh
    simp only [I.allMovesIn_s] at hh
    split at hh
    · rfl
    · cases hh

-- loop.example/guardsonnets/impl.allEternalIn
noncomputable def I.allEternalIn_T : List (Nat × D.Spec) := [(72, I.allMovesIn_s), (54, I.lastingIn_s)]
def I.allEternalIn_ann : Nat → List Nat × List Nat
  | _ => ([], [])
noncomputable def I.allEternalIn_F (args : List V) (h : List E) (κ : V → List E → R) : R := funC TD (tableK I.allEternalIn_T) I.allEternalIn_ann (drawOk TD (tableP I.allEternalIn_T)) FUEL Try.f59 args h κ
noncomputable def I.allEternalIn_tree {α : Type} (net : List Int) (leaf0_ : List Bool → α) (fail_ : α) : α :=
  (optC (I.allMovesIn_t net) (fun c_1 => (optC (I.lastingIn_t net c_1) (fun c_2 => (leaf0_ c_2)) fail_)) fail_)
theorem I.allEternalIn_tree_nat {α γ : Type} (g : α → γ) (net : List Int) (leaf0_ : List Bool → α) (fail_ : α) : g (I.allEternalIn_tree net leaf0_ fail_) = I.allEternalIn_tree net (fun d => g (leaf0_ d)) (g fail_) := by
  unfold I.allEternalIn_tree; simp only [apply_cnd g, apply_optC g, apply_sumC g]
noncomputable def I.allEternalIn_t (net : List Int) : Option (List Bool) := I.allEternalIn_tree net (fun d => some d) none
theorem I.allEternalIn_den (net : List Int) (κ : V → List E → R) : I.allEternalIn_F [.ro false (.ints .i64 net)] [] κ = optC (I.allEternalIn_t net) (fun (r : List Bool) => κ (.own 0) [.row (.bools r)]) none := by
  have hu : I.allEternalIn_F [.ro false (.ints .i64 net)] [] κ = I.allEternalIn_tree net (fun d => κ (.own 0) [.row (.bools d)]) none := by
    kernel_rfl
  rw [hu]
  exact (I.allEternalIn_tree_nat (fun o => optC o (fun (r : List Bool) => κ (.own 0) [.row (.bools r)]) none) net (fun d => some d) none).symm
noncomputable def I.allEternalIn_s : D.Spec where
  keep := false
  pure := false
  add := true
  ds := [.int .i64]
  sp := fun args h κ => match args, h with
    | [.ro false (.ints .i64 net)], [] => optC (I.allEternalIn_t net) (fun (r : List Bool) => κ (.own 0) [.row (.bools r)]) none
    | _, _ => none
theorem I.allEternalIn_ok : SpecOk Try.prog 59 I.allEternalIn_s := by
  refine SpecOk.of TDok mixed (T := I.allEternalIn_T) ?_ (ann := I.allEternalIn_ann) Try.func59 rfl (by decide +kernel) ?_ ?_ ?_ ?_
  · intro p hp
    simp only [I.allEternalIn_T, List.mem_cons, List.not_mem_nil, or_false] at hp
    rcases hp with rfl | rfl
    · exact I.allMovesIn_ok
    · exact I.lastingIn_ok
  · intro args h κ r hh
    simp only [I.allEternalIn_s] at hh
    split at hh
    · exact (I.allEternalIn_den _ κ).trans hh
    · cases hh
  · intro args h κ r hh
    simp only [I.allEternalIn_s] at hh ⊢
    split at hh
    · exact optC_law2 (F := fun (r : List Bool) κ => κ (.own 0) [.row (.bools r)]) (fun b κ r hb => ⟨_, _, hb, fun _ => rfl⟩) hh
    · cases hh
  · intro hh; cases hh
  · intro _ args h κ r hh
    simp only [I.allEternalIn_s] at hh
    split at hh
    · rfl
    · cases hh

-- loop.example/guardsonnets/impl.FewestAllEternal
noncomputable def I.FewestAllEternal_T : List (Nat × D.Spec) := [(10, I.NetOk_s), (59, I.allEternalIn_s), (37, I.fewestIn_s)]
def I.FewestAllEternal_ann : Nat → List Nat × List Nat
  | _ => ([], [])
noncomputable def I.FewestAllEternal_F (args : List V) (h : List E) (κ : V → List E → R) : R := funC TD (tableK I.FewestAllEternal_T) I.FewestAllEternal_ann (drawOk TD (tableP I.FewestAllEternal_T)) FUEL Try.f41 args h κ
noncomputable def I.FewestAllEternal_tree {α : Type} (net : List Int) (leaf0_ : Int → α) (fail_ : α) : α :=
  (optC (I.NetOk_t net) (fun c_1 => (bif !c_1 then (leaf0_ (-1)) else (optC (I.allEternalIn_t net) (fun c_2 => (optC (I.fewestIn_t c_2) (fun c_3 => (leaf0_ c_3)) fail_)) fail_))) fail_)
theorem I.FewestAllEternal_tree_nat {α γ : Type} (g : α → γ) (net : List Int) (leaf0_ : Int → α) (fail_ : α) : g (I.FewestAllEternal_tree net leaf0_ fail_) = I.FewestAllEternal_tree net (fun d => g (leaf0_ d)) (g fail_) := by
  unfold I.FewestAllEternal_tree; simp only [apply_cnd g, apply_optC g, apply_sumC g]
noncomputable def I.FewestAllEternal_t (net : List Int) : Option (Int) := I.FewestAllEternal_tree net (fun d => some d) none
theorem I.FewestAllEternal_den (net : List Int) (κ : V → List E → R) : I.FewestAllEternal_F [.ro false (.ints .i64 net)] [] κ = optC (I.FewestAllEternal_t net) (fun (r : Int) => κ (.int .i64 r) []) none := by
  have hu : I.FewestAllEternal_F [.ro false (.ints .i64 net)] [] κ = I.FewestAllEternal_tree net (fun d => κ (.int .i64 d) []) none := by
    kernel_rfl
  rw [hu]
  exact (I.FewestAllEternal_tree_nat (fun o => optC o (fun (r : Int) => κ (.int .i64 r) []) none) net (fun d => some d) none).symm
noncomputable def I.FewestAllEternal_s : D.Spec where
  keep := false
  pure := true
  add := true
  ds := [.int .i64]
  sp := fun args h κ => match args, h with
    | [.ro false (.ints .i64 net)], [] => optC (I.FewestAllEternal_t net) (fun (r : Int) => κ (.int .i64 r) []) none
    | _, _ => none
theorem I.FewestAllEternal_ok : SpecOk Try.prog 41 I.FewestAllEternal_s := by
  refine SpecOk.of TDok mixed (T := I.FewestAllEternal_T) ?_ (ann := I.FewestAllEternal_ann) Try.func41 rfl (by decide +kernel) ?_ ?_ ?_ ?_
  · intro p hp
    simp only [I.FewestAllEternal_T, List.mem_cons, List.not_mem_nil, or_false] at hp
    rcases hp with rfl | rfl | rfl
    · exact I.NetOk_ok
    · exact I.allEternalIn_ok
    · exact I.fewestIn_ok
  · intro args h κ r hh
    simp only [I.FewestAllEternal_s] at hh
    split at hh
    · exact (I.FewestAllEternal_den _ κ).trans hh
    · cases hh
  · intro args h κ r hh
    simp only [I.FewestAllEternal_s] at hh ⊢
    split at hh
    · exact optC_law2 (F := fun (r : Int) κ => κ (.int .i64 r) []) (fun b κ r hb => ⟨_, _, hb, fun _ => rfl⟩) hh
    · cases hh
  · intro _ args h κ r hh
    simp only [I.FewestAllEternal_s] at hh
    split at hh
    · exact ⟨rfl, fun _ => rfl⟩
    · cases hh
  · intro _ args h κ r hh
    simp only [I.FewestAllEternal_s] at hh
    split at hh
    · rfl
    · cases hh

-- loop.example/guardsonnets/impl.GuardRow
noncomputable def I.GuardRow_T : List (Nat × D.Spec) := [(10, I.NetOk_s), (22, I.FewestWatch_s), (41, I.FewestAllEternal_s), (12, I.MostApart_s), (13, I.FewestEternal_s), (8, I.FewestCliques_s)]
def I.GuardRow_ann : Nat → List Nat × List Nat
  | _ => ([], [])
noncomputable def I.GuardRow_F (args : List V) (h : List E) (κ : V → List E → R) : R := funC TD (tableK I.GuardRow_T) I.GuardRow_ann (drawOk TD (tableP I.GuardRow_T)) FUEL Try.f19 args h κ
noncomputable def I.GuardRow_tree {α : Type} (net : List Int) (leaf0_ : List Int → α) (fail_ : α) : α :=
  (optC (I.NetOk_t net) (fun c_1 => (bif !c_1 then (leaf0_ ([])) else (optC (I.FewestWatch_t net) (fun c_2 => (optC (I.FewestAllEternal_t net) (fun c_3 => (optC (I.MostApart_t net) (fun c_4 => (optC (I.FewestEternal_t net) (fun c_5 => (optC (I.FewestCliques_t net) (fun c_6 => (leaf0_ ([c_2, c_3, c_4, c_5, c_6]))) fail_)) fail_)) fail_)) fail_)) fail_))) fail_)
theorem I.GuardRow_tree_nat {α γ : Type} (g : α → γ) (net : List Int) (leaf0_ : List Int → α) (fail_ : α) : g (I.GuardRow_tree net leaf0_ fail_) = I.GuardRow_tree net (fun d => g (leaf0_ d)) (g fail_) := by
  unfold I.GuardRow_tree; simp only [apply_cnd g, apply_optC g, apply_sumC g]
noncomputable def I.GuardRow_t (net : List Int) : Option (List Int) := I.GuardRow_tree net (fun d => some d) none
theorem I.GuardRow_den (net : List Int) (κ : V → List E → R) : I.GuardRow_F [.ro false (.ints .i64 net)] [] κ = optC (I.GuardRow_t net) (fun (r : List Int) => κ (.own 0) [.row (.ints .i64 r)]) none := by
  have hu : I.GuardRow_F [.ro false (.ints .i64 net)] [] κ = I.GuardRow_tree net (fun d => κ (.own 0) [.row (.ints .i64 d)]) none := by
    kernel_rfl
  rw [hu]
  exact (I.GuardRow_tree_nat (fun o => optC o (fun (r : List Int) => κ (.own 0) [.row (.ints .i64 r)]) none) net (fun d => some d) none).symm
noncomputable def I.GuardRow_s : D.Spec where
  keep := false
  pure := false
  add := true
  ds := [.int .i64]
  sp := fun args h κ => match args, h with
    | [.ro false (.ints .i64 net)], [] => optC (I.GuardRow_t net) (fun (r : List Int) => κ (.own 0) [.row (.ints .i64 r)]) none
    | _, _ => none
theorem I.GuardRow_ok : SpecOk Try.prog 19 I.GuardRow_s := by
  refine SpecOk.of TDok mixed (T := I.GuardRow_T) ?_ (ann := I.GuardRow_ann) Try.func19 rfl (by decide +kernel) ?_ ?_ ?_ ?_
  · intro p hp
    simp only [I.GuardRow_T, List.mem_cons, List.not_mem_nil, or_false] at hp
    rcases hp with rfl | rfl | rfl | rfl | rfl | rfl
    · exact I.NetOk_ok
    · exact I.FewestWatch_ok
    · exact I.FewestAllEternal_ok
    · exact I.MostApart_ok
    · exact I.FewestEternal_ok
    · exact I.FewestCliques_ok
  · intro args h κ r hh
    simp only [I.GuardRow_s] at hh
    split at hh
    · exact (I.GuardRow_den _ κ).trans hh
    · cases hh
  · intro args h κ r hh
    simp only [I.GuardRow_s] at hh ⊢
    split at hh
    · exact optC_law2 (F := fun (r : List Int) κ => κ (.own 0) [.row (.ints .i64 r)]) (fun b κ r hb => ⟨_, _, hb, fun _ => rfl⟩) hh
    · cases hh
  · intro hh; cases hh
  · intro _ args h κ r hh
    simp only [I.GuardRow_s] at hh
    split at hh
    · rfl
    · cases hh

-- loop.example/guardsonnets/spec.l1Near
noncomputable def S.l1Near_T : List (Nat × D.Spec) := []
def S.l1Near_ann : Nat → List Nat × List Nat
  | 3 => ([0, 1, 5, 6], [5])
  | _ => ([], [])
noncomputable def S.l1Near_F (args : List V) (h : List E) (κ : V → List E → R) : R := funC TD (tableK S.l1Near_T) S.l1Near_ann (drawOk TD (tableP S.l1Near_T)) FUEL Try.f73 args h κ
noncomputable def S.l1Near_L3 (n : Nat) (σ : St) (k : X → St → R) : R := iterC 0 (fun σ k => denC TD (tableK S.l1Near_T) S.l1Near_ann (drawOk TD (tableP S.l1Near_T)) 0 FUEL ((findLoop 3 (Try.f73.body.getD .skip)).getD .skip) σ k) [0, 1, 5, 6] [5] n σ k
noncomputable def S.l1Near_k3 (κ : V → List E → R) : X → St → R := (afterC TD (tableK S.l1Near_T) S.l1Near_ann (drawOk TD (tableP S.l1Near_T)) 0 FUEL 3 (Try.f73.body.getD .skip) (finC TD 0 Try.f73 κ)).getD (fun _ _ => none)
noncomputable def S.l1Near_step3 {α : Type} (x0 : List Int) (x1 : Int) (x5 : Int) (x6 : Int) (next_ : Int × Int → α) (out0_ : Int → α) (fail_ : α) : α :=
  (bif decide (x6 < (↑x0.length : Int)) then (bif decide (x6 < 0) then fail_ else (bif (x1.fdiv (2 ^ min x6.toNat IntKind.i64.bits)).tmod 2 == 1 then (bif decide (0 ≤ x6) && decide (x6 < (↑x0.length : Int)) then (next_ (bits BinOp.or IntKind.i64 x5 (eli x0 x6.toNat), IntKind.i64.wrap (x6 + 1))) else fail_) else (next_ (x5, IntKind.i64.wrap (x6 + 1))))) else (out0_ x5))
theorem S.l1Near_step3_nat {α γ : Type} (g : α → γ) (x0 : List Int) (x1 : Int) (x5 : Int) (x6 : Int) (next_ : Int × Int → α) (out0_ : Int → α) (fail_ : α) : g (S.l1Near_step3 x0 x1 x5 x6 next_ out0_ fail_) = S.l1Near_step3 x0 x1 x5 x6 (fun s => g (next_ s)) (fun d => g (out0_ d)) (g fail_) := by
  unfold S.l1Near_step3; simp only [apply_cnd g, apply_optC g, apply_sumC g]
noncomputable def S.l1Near_run3 (x0 : List Int) (x1 : Int) : Nat → Int × Int → Option (Int)
  | 0, _ => none
  | n + 1, s_ => S.l1Near_step3 x0 x1 s_.1 s_.2 (S.l1Near_run3 x0 x1 n) (fun d => some d) none
theorem S.l1Near_L3_run (x0 : List Int) (x1 : Int) (n : Nat) (s_ : Int × Int) (k : X → St → R) : S.l1Near_L3 n { n := 25, t := [(0, (.ro false (.ints .i64 x0))), (1, (.int .i64 x1)), (5, (.int .i64 s_.1)), (6, (.int .i64 s_.2))], h := [] } k = optC (S.l1Near_run3 x0 x1 n s_) (fun (r : Int) => k (.exit 0) { n := 25, t := [(5, (.int .i64 r))], h := [] }) none := by
  induction n generalizing s_ with
  | zero => rfl
  | succ n ih =>
    have hu : S.l1Near_L3 (n + 1) { n := 25, t := [(0, (.ro false (.ints .i64 x0))), (1, (.int .i64 x1)), (5, (.int .i64 s_.1)), (6, (.int .i64 s_.2))], h := [] } k = S.l1Near_step3 x0 x1 s_.1 s_.2 (fun s_ => S.l1Near_L3 n { n := 25, t := [(0, (.ro false (.ints .i64 x0))), (1, (.int .i64 x1)), (5, (.int .i64 s_.1)), (6, (.int .i64 s_.2))], h := [] } k) (fun d => k (.exit 0) { n := 25, t := [(5, (.int .i64 d))], h := [] }) none := by
      kernel_rfl
    have hs : (fun s_ : Int × Int => S.l1Near_L3 n { n := 25, t := [(0, (.ro false (.ints .i64 x0))), (1, (.int .i64 x1)), (5, (.int .i64 s_.1)), (6, (.int .i64 s_.2))], h := [] } k) = fun s_ => optC (S.l1Near_run3 x0 x1 n s_) (fun (r : Int) => k (.exit 0) { n := 25, t := [(5, (.int .i64 r))], h := [] }) none := funext ih
    rw [hu, hs]
    exact (S.l1Near_step3_nat (fun o => optC o (fun (r : Int) => k (.exit 0) { n := 25, t := [(5, (.int .i64 r))], h := [] }) none) x0 x1 s_.1 s_.2 (S.l1Near_run3 x0 x1 n) (fun d => some d) none).symm
noncomputable def S.l1Near_tree {α : Type} (net : List Int) (set_ : Int) (leaf0_ : Int → α) (fail_ : α) : α :=
  (optC (S.l1Near_run3 net set_ FUEL (0, 0)) (fun qy_1 => (leaf0_ qy_1)) fail_)
theorem S.l1Near_tree_nat {α γ : Type} (g : α → γ) (net : List Int) (set_ : Int) (leaf0_ : Int → α) (fail_ : α) : g (S.l1Near_tree net set_ leaf0_ fail_) = S.l1Near_tree net set_ (fun d => g (leaf0_ d)) (g fail_) := by
  unfold S.l1Near_tree; simp only [apply_cnd g, apply_optC g, apply_sumC g]
noncomputable def S.l1Near_t (net : List Int) (set_ : Int) : Option (Int) := S.l1Near_tree net set_ (fun d => some d) none
theorem S.l1Near_den (net : List Int) (set_ : Int) (κ : V → List E → R) : S.l1Near_F [.ro false (.ints .i64 net), .int .i64 set_] [] κ = optC (S.l1Near_t net set_) (fun (r : Int) => κ (.int .i64 r) []) none := by
  have hu : S.l1Near_F [.ro false (.ints .i64 net), .int .i64 set_] [] κ = S.l1Near_tree net set_ (fun d => κ (.int .i64 d) []) none := by
    refine Eq.trans (show S.l1Near_F [.ro false (.ints .i64 net), .int .i64 set_] [] κ = (S.l1Near_L3 FUEL { n := 25, t := [(0, (.ro false (.ints .i64 net))), (1, (.int .i64 set_)), (5, (.int .i64 0)), (6, (.int .i64 0))], h := [] } (S.l1Near_k3 κ)) by kernel_rfl) ?_
    refine (S.l1Near_L3_run net set_ FUEL (0, 0) (S.l1Near_k3 κ)).trans (optC_congr (fun qy_1 => ?_))
    kernel_rfl
  rw [hu]
  exact (S.l1Near_tree_nat (fun o => optC o (fun (r : Int) => κ (.int .i64 r) []) none) net set_ (fun d => some d) none).symm
noncomputable def S.l1Near_s : D.Spec where
  keep := false
  pure := true
  add := true
  ds := [.int .i64, .invalid]
  sp := fun args h κ => match args, h with
    | [.ro false (.ints .i64 net), .int .i64 set_], [] => optC (S.l1Near_t net set_) (fun (r : Int) => κ (.int .i64 r) []) none
    | _, _ => none
theorem S.l1Near_ok : SpecOk Try.prog 73 S.l1Near_s := by
  refine SpecOk.of TDok mixed (T := S.l1Near_T) ?_ (ann := S.l1Near_ann) Try.func73 rfl (by decide +kernel) ?_ ?_ ?_ ?_
  · intro p hp; cases hp
  · intro args h κ r hh
    simp only [S.l1Near_s] at hh
    split at hh
    · exact (S.l1Near_den _ _ κ).trans hh
    · cases hh
  · intro args h κ r hh
    simp only [S.l1Near_s] at hh ⊢
    split at hh
    · exact optC_law2 (F := fun (r : Int) κ => κ (.int .i64 r) []) (fun b κ r hb => ⟨_, _, hb, fun _ => rfl⟩) hh
    · cases hh
  · intro _ args h κ r hh
    simp only [S.l1Near_s] at hh
    split at hh
    · exact ⟨rfl, fun _ => rfl⟩
    · cases hh
  · intro _ args h κ r hh
    simp only [S.l1Near_s] at hh
    split at hh
    · rfl
    · cases hh

-- loop.example/guardsonnets/spec.l2Watch
noncomputable def S.l2Watch_T : List (Nat × D.Spec) := [(73, S.l1Near_s)]
def S.l2Watch_ann : Nat → List Nat × List Nat
  | _ => ([], [])
noncomputable def S.l2Watch_F (args : List V) (h : List E) (κ : V → List E → R) : R := funC TD (tableK S.l2Watch_T) S.l2Watch_ann (drawOk TD (tableP S.l2Watch_T)) FUEL Try.f60 args h κ
noncomputable def S.l2Watch_tree {α : Type} (net : List Int) (set_ : Int) (leaf0_ : Bool → α) (fail_ : α) : α :=
  (optC (S.l1Near_t net set_) (fun c_1 => (leaf0_ (bits BinOp.or IntKind.i64 set_ c_1 == IntKind.i64.wrap (IntKind.i64.wrap (1 * 2 ^ min (↑net.length : Int).toNat IntKind.i64.bits) - 1)))) fail_)
theorem S.l2Watch_tree_nat {α γ : Type} (g : α → γ) (net : List Int) (set_ : Int) (leaf0_ : Bool → α) (fail_ : α) : g (S.l2Watch_tree net set_ leaf0_ fail_) = S.l2Watch_tree net set_ (fun d => g (leaf0_ d)) (g fail_) := by
  unfold S.l2Watch_tree; simp only [apply_cnd g, apply_optC g, apply_sumC g]
noncomputable def S.l2Watch_t (net : List Int) (set_ : Int) : Option (Bool) := S.l2Watch_tree net set_ (fun d => some d) none
theorem S.l2Watch_den (net : List Int) (set_ : Int) (κ : V → List E → R) : S.l2Watch_F [.ro false (.ints .i64 net), .int .i64 set_] [] κ = optC (S.l2Watch_t net set_) (fun (r : Bool) => κ (.bool r) []) none := by
  have hu : S.l2Watch_F [.ro false (.ints .i64 net), .int .i64 set_] [] κ = S.l2Watch_tree net set_ (fun d => κ (.bool d) []) none := by
    kernel_rfl
  rw [hu]
  exact (S.l2Watch_tree_nat (fun o => optC o (fun (r : Bool) => κ (.bool r) []) none) net set_ (fun d => some d) none).symm
noncomputable def S.l2Watch_s : D.Spec where
  keep := false
  pure := true
  add := true
  ds := [.int .i64, .invalid]
  sp := fun args h κ => match args, h with
    | [.ro false (.ints .i64 net), .int .i64 set_], [] => optC (S.l2Watch_t net set_) (fun (r : Bool) => κ (.bool r) []) none
    | _, _ => none
theorem S.l2Watch_ok : SpecOk Try.prog 60 S.l2Watch_s := by
  refine SpecOk.of TDok mixed (T := S.l2Watch_T) ?_ (ann := S.l2Watch_ann) Try.func60 rfl (by decide +kernel) ?_ ?_ ?_ ?_
  · intro p hp
    simp only [S.l2Watch_T, List.mem_cons, List.not_mem_nil, or_false] at hp
    rcases hp with rfl
    · exact S.l1Near_ok
  · intro args h κ r hh
    simp only [S.l2Watch_s] at hh
    split at hh
    · exact (S.l2Watch_den _ _ κ).trans hh
    · cases hh
  · intro args h κ r hh
    simp only [S.l2Watch_s] at hh ⊢
    split at hh
    · exact optC_law2 (F := fun (r : Bool) κ => κ (.bool r) []) (fun b κ r hb => ⟨_, _, hb, fun _ => rfl⟩) hh
    · cases hh
  · intro _ args h κ r hh
    simp only [S.l2Watch_s] at hh
    split at hh
    · exact ⟨rfl, fun _ => rfl⟩
    · cases hh
  · intro _ args h κ r hh
    simp only [S.l2Watch_s] at hh
    split at hh
    · rfl
    · cases hh

-- loop.example/guardsonnets/spec.l1Size
noncomputable def S.l1Size_T : List (Nat × D.Spec) := []
def S.l1Size_ann : Nat → List Nat × List Nat
  | 2 => ([0, 3], [3])
  | _ => ([], [])
noncomputable def S.l1Size_F (args : List V) (h : List E) (κ : V → List E → R) : R := funC TD (tableK S.l1Size_T) S.l1Size_ann (drawOk TD (tableP S.l1Size_T)) FUEL Try.f61 args h κ
noncomputable def S.l1Size_L2 (n : Nat) (σ : St) (k : X → St → R) : R := iterC 0 (fun σ k => denC TD (tableK S.l1Size_T) S.l1Size_ann (drawOk TD (tableP S.l1Size_T)) 0 FUEL ((findLoop 2 (Try.f61.body.getD .skip)).getD .skip) σ k) [0, 3] [3] n σ k
noncomputable def S.l1Size_k2 (κ : V → List E → R) : X → St → R := (afterC TD (tableK S.l1Size_T) S.l1Size_ann (drawOk TD (tableP S.l1Size_T)) 0 FUEL 2 (Try.f61.body.getD .skip) (finC TD 0 Try.f61 κ)).getD (fun _ _ => none)
noncomputable def S.l1Size_step2 {α : Type} (x0 : Int) (x3 : Int) (next_ : Int × Int → α) (out0_ : Int → α) (fail_ : α) : α :=
  (bif decide (x0 > 0) then (next_ (IntKind.i64.wrap (x0.tdiv 2), IntKind.i64.wrap (x3 + x0.tmod 2))) else (out0_ x3))
theorem S.l1Size_step2_nat {α γ : Type} (g : α → γ) (x0 : Int) (x3 : Int) (next_ : Int × Int → α) (out0_ : Int → α) (fail_ : α) : g (S.l1Size_step2 x0 x3 next_ out0_ fail_) = S.l1Size_step2 x0 x3 (fun s => g (next_ s)) (fun d => g (out0_ d)) (g fail_) := by
  unfold S.l1Size_step2; simp only [apply_cnd g, apply_optC g, apply_sumC g]
noncomputable def S.l1Size_run2 : Nat → Int × Int → Option (Int)
  | 0, _ => none
  | n + 1, s_ => S.l1Size_step2 s_.1 s_.2 (S.l1Size_run2 n) (fun d => some d) none
theorem S.l1Size_L2_run (n : Nat) (s_ : Int × Int) (k : X → St → R) : S.l1Size_L2 n { n := 13, t := [(0, (.int .i64 s_.1)), (3, (.int .i64 s_.2))], h := [] } k = optC (S.l1Size_run2 n s_) (fun (r : Int) => k (.exit 0) { n := 13, t := [(3, (.int .i64 r))], h := [] }) none := by
  induction n generalizing s_ with
  | zero => rfl
  | succ n ih =>
    have hu : S.l1Size_L2 (n + 1) { n := 13, t := [(0, (.int .i64 s_.1)), (3, (.int .i64 s_.2))], h := [] } k = S.l1Size_step2 s_.1 s_.2 (fun s_ => S.l1Size_L2 n { n := 13, t := [(0, (.int .i64 s_.1)), (3, (.int .i64 s_.2))], h := [] } k) (fun d => k (.exit 0) { n := 13, t := [(3, (.int .i64 d))], h := [] }) none := by
      kernel_rfl
    have hs : (fun s_ : Int × Int => S.l1Size_L2 n { n := 13, t := [(0, (.int .i64 s_.1)), (3, (.int .i64 s_.2))], h := [] } k) = fun s_ => optC (S.l1Size_run2 n s_) (fun (r : Int) => k (.exit 0) { n := 13, t := [(3, (.int .i64 r))], h := [] }) none := funext ih
    rw [hu, hs]
    exact (S.l1Size_step2_nat (fun o => optC o (fun (r : Int) => k (.exit 0) { n := 13, t := [(3, (.int .i64 r))], h := [] }) none) s_.1 s_.2 (S.l1Size_run2 n) (fun d => some d) none).symm
noncomputable def S.l1Size_tree {α : Type} (set_ : Int) (leaf0_ : Int → α) (fail_ : α) : α :=
  (optC (S.l1Size_run2 FUEL (set_, 0)) (fun qy_1 => (leaf0_ qy_1)) fail_)
theorem S.l1Size_tree_nat {α γ : Type} (g : α → γ) (set_ : Int) (leaf0_ : Int → α) (fail_ : α) : g (S.l1Size_tree set_ leaf0_ fail_) = S.l1Size_tree set_ (fun d => g (leaf0_ d)) (g fail_) := by
  unfold S.l1Size_tree; simp only [apply_cnd g, apply_optC g, apply_sumC g]
noncomputable def S.l1Size_t (set_ : Int) : Option (Int) := S.l1Size_tree set_ (fun d => some d) none
theorem S.l1Size_den (set_ : Int) (κ : V → List E → R) : S.l1Size_F [.int .i64 set_] [] κ = optC (S.l1Size_t set_) (fun (r : Int) => κ (.int .i64 r) []) none := by
  have hu : S.l1Size_F [.int .i64 set_] [] κ = S.l1Size_tree set_ (fun d => κ (.int .i64 d) []) none := by
    refine Eq.trans (show S.l1Size_F [.int .i64 set_] [] κ = (S.l1Size_L2 FUEL { n := 13, t := [(0, (.int .i64 set_)), (3, (.int .i64 0))], h := [] } (S.l1Size_k2 κ)) by kernel_rfl) ?_
    refine (S.l1Size_L2_run FUEL (set_, 0) (S.l1Size_k2 κ)).trans (optC_congr (fun qy_1 => ?_))
    kernel_rfl
  rw [hu]
  exact (S.l1Size_tree_nat (fun o => optC o (fun (r : Int) => κ (.int .i64 r) []) none) set_ (fun d => some d) none).symm
noncomputable def S.l1Size_s : D.Spec where
  keep := false
  pure := true
  add := true
  ds := [.invalid]
  sp := fun args h κ => match args, h with
    | [.int .i64 set_], [] => optC (S.l1Size_t set_) (fun (r : Int) => κ (.int .i64 r) []) none
    | _, _ => none
theorem S.l1Size_ok : SpecOk Try.prog 61 S.l1Size_s := by
  refine SpecOk.of TDok mixed (T := S.l1Size_T) ?_ (ann := S.l1Size_ann) Try.func61 rfl (by decide +kernel) ?_ ?_ ?_ ?_
  · intro p hp; cases hp
  · intro args h κ r hh
    simp only [S.l1Size_s] at hh
    split at hh
    · exact (S.l1Size_den _ κ).trans hh
    · cases hh
  · intro args h κ r hh
    simp only [S.l1Size_s] at hh ⊢
    split at hh
    · exact optC_law2 (F := fun (r : Int) κ => κ (.int .i64 r) []) (fun b κ r hb => ⟨_, _, hb, fun _ => rfl⟩) hh
    · cases hh
  · intro _ args h κ r hh
    simp only [S.l1Size_s] at hh
    split at hh
    · exact ⟨rfl, fun _ => rfl⟩
    · cases hh
  · intro _ args h κ r hh
    simp only [S.l1Size_s] at hh
    split at hh
    · rfl
    · cases hh

-- loop.example/guardsonnets/spec.FewestWatch
noncomputable def S.FewestWatch_T : List (Nat × D.Spec) := [(29, S.NetOk_s), (60, S.l2Watch_s), (61, S.l1Size_s)]
def S.FewestWatch_ann : Nat → List Nat × List Nat
  | 5 => ([0, 3, 4], [3])
  | _ => ([], [])
noncomputable def S.FewestWatch_F (args : List V) (h : List E) (κ : V → List E → R) : R := funC TD (tableK S.FewestWatch_T) S.FewestWatch_ann (drawOk TD (tableP S.FewestWatch_T)) FUEL Try.f42 args h κ
noncomputable def S.FewestWatch_L5 (n : Nat) (σ : St) (k : X → St → R) : R := iterC 0 (fun σ k => denC TD (tableK S.FewestWatch_T) S.FewestWatch_ann (drawOk TD (tableP S.FewestWatch_T)) 0 FUEL ((findLoop 5 (Try.f42.body.getD .skip)).getD .skip) σ k) [0, 3, 4] [3] n σ k
noncomputable def S.FewestWatch_k5 (κ : V → List E → R) : X → St → R := (afterC TD (tableK S.FewestWatch_T) S.FewestWatch_ann (drawOk TD (tableP S.FewestWatch_T)) 0 FUEL 5 (Try.f42.body.getD .skip) (finC TD 0 Try.f42 κ)).getD (fun _ _ => none)
noncomputable def S.FewestWatch_step5 {α : Type} (x0 : List Int) (x3 : Int) (x4 : Int) (next_ : Int × Int → α) (out0_ : Int → α) (fail_ : α) : α :=
  (bif decide (x4 < IntKind.i64.wrap (1 * 2 ^ min (↑x0.length : Int).toNat IntKind.i64.bits)) then (optC (S.l2Watch_t x0 x4) (fun c_2 => (bif c_2 then (optC (S.l1Size_t x4) (fun c_3 => (next_ (if c_3 < x3 then c_3 else x3, IntKind.i64.wrap (x4 + 1)))) fail_) else (next_ (x3, IntKind.i64.wrap (x4 + 1))))) fail_) else (out0_ x3))
theorem S.FewestWatch_step5_nat {α γ : Type} (g : α → γ) (x0 : List Int) (x3 : Int) (x4 : Int) (next_ : Int × Int → α) (out0_ : Int → α) (fail_ : α) : g (S.FewestWatch_step5 x0 x3 x4 next_ out0_ fail_) = S.FewestWatch_step5 x0 x3 x4 (fun s => g (next_ s)) (fun d => g (out0_ d)) (g fail_) := by
  unfold S.FewestWatch_step5; simp only [apply_cnd g, apply_optC g, apply_sumC g]
noncomputable def S.FewestWatch_run5 (x0 : List Int) : Nat → Int × Int → Option (Int)
  | 0, _ => none
  | n + 1, s_ => S.FewestWatch_step5 x0 s_.1 s_.2 (S.FewestWatch_run5 x0 n) (fun d => some d) none
theorem S.FewestWatch_L5_run (x0 : List Int) (n : Nat) (s_ : Int × Int) (k : X → St → R) : S.FewestWatch_L5 n { n := 25, t := [(0, (.ro false (.ints .i64 x0))), (3, (.int .i64 s_.1)), (4, (.int .i64 s_.2))], h := [] } k = optC (S.FewestWatch_run5 x0 n s_) (fun (r : Int) => k (.exit 0) { n := 25, t := [(3, (.int .i64 r))], h := [] }) none := by
  induction n generalizing s_ with
  | zero => rfl
  | succ n ih =>
    have hu : S.FewestWatch_L5 (n + 1) { n := 25, t := [(0, (.ro false (.ints .i64 x0))), (3, (.int .i64 s_.1)), (4, (.int .i64 s_.2))], h := [] } k = S.FewestWatch_step5 x0 s_.1 s_.2 (fun s_ => S.FewestWatch_L5 n { n := 25, t := [(0, (.ro false (.ints .i64 x0))), (3, (.int .i64 s_.1)), (4, (.int .i64 s_.2))], h := [] } k) (fun d => k (.exit 0) { n := 25, t := [(3, (.int .i64 d))], h := [] }) none := by
      kernel_rfl
    have hs : (fun s_ : Int × Int => S.FewestWatch_L5 n { n := 25, t := [(0, (.ro false (.ints .i64 x0))), (3, (.int .i64 s_.1)), (4, (.int .i64 s_.2))], h := [] } k) = fun s_ => optC (S.FewestWatch_run5 x0 n s_) (fun (r : Int) => k (.exit 0) { n := 25, t := [(3, (.int .i64 r))], h := [] }) none := funext ih
    rw [hu, hs]
    exact (S.FewestWatch_step5_nat (fun o => optC o (fun (r : Int) => k (.exit 0) { n := 25, t := [(3, (.int .i64 r))], h := [] }) none) x0 s_.1 s_.2 (S.FewestWatch_run5 x0 n) (fun d => some d) none).symm
noncomputable def S.FewestWatch_tree {α : Type} (net : List Int) (leaf0_ : Int → α) (fail_ : α) : α :=
  (optC (S.NetOk_t net) (fun c_1 => (bif !c_1 then (leaf0_ (-1)) else (optC (S.FewestWatch_run5 net FUEL ((↑net.length : Int), 0)) (fun qy_4 => (leaf0_ qy_4)) fail_))) fail_)
theorem S.FewestWatch_tree_nat {α γ : Type} (g : α → γ) (net : List Int) (leaf0_ : Int → α) (fail_ : α) : g (S.FewestWatch_tree net leaf0_ fail_) = S.FewestWatch_tree net (fun d => g (leaf0_ d)) (g fail_) := by
  unfold S.FewestWatch_tree; simp only [apply_cnd g, apply_optC g, apply_sumC g]
noncomputable def S.FewestWatch_t (net : List Int) : Option (Int) := S.FewestWatch_tree net (fun d => some d) none
theorem S.FewestWatch_den (net : List Int) (κ : V → List E → R) : S.FewestWatch_F [.ro false (.ints .i64 net)] [] κ = optC (S.FewestWatch_t net) (fun (r : Int) => κ (.int .i64 r) []) none := by
  have hu : S.FewestWatch_F [.ro false (.ints .i64 net)] [] κ = S.FewestWatch_tree net (fun d => κ (.int .i64 d) []) none := by
    refine Eq.trans (show S.FewestWatch_F [.ro false (.ints .i64 net)] [] κ = (optC (S.NetOk_t net) (fun c_1 => (bif !c_1 then (κ (.int .i64 (-1)) []) else (S.FewestWatch_L5 FUEL { n := 25, t := [(0, (.ro false (.ints .i64 net))), (3, (.int .i64 ((↑net.length : Int)))), (4, (.int .i64 0))], h := [] } (S.FewestWatch_k5 κ)))) none) by kernel_rfl) ?_
    refine optC_congr (fun c_1 => ?_)
    refine cnd_congr ?_ ?_
    · kernel_rfl
    · refine (S.FewestWatch_L5_run net FUEL ((↑net.length : Int), 0) (S.FewestWatch_k5 κ)).trans (optC_congr (fun qy_4 => ?_))
      kernel_rfl
  rw [hu]
  exact (S.FewestWatch_tree_nat (fun o => optC o (fun (r : Int) => κ (.int .i64 r) []) none) net (fun d => some d) none).symm
noncomputable def S.FewestWatch_s : D.Spec where
  keep := false
  pure := true
  add := true
  ds := [.int .i64]
  sp := fun args h κ => match args, h with
    | [.ro false (.ints .i64 net)], [] => optC (S.FewestWatch_t net) (fun (r : Int) => κ (.int .i64 r) []) none
    | _, _ => none
theorem S.FewestWatch_ok : SpecOk Try.prog 42 S.FewestWatch_s := by
  refine SpecOk.of TDok mixed (T := S.FewestWatch_T) ?_ (ann := S.FewestWatch_ann) Try.func42 rfl (by decide +kernel) ?_ ?_ ?_ ?_
  · intro p hp
    simp only [S.FewestWatch_T, List.mem_cons, List.not_mem_nil, or_false] at hp
    rcases hp with rfl | rfl | rfl
    · exact S.NetOk_ok
    · exact S.l2Watch_ok
    · exact S.l1Size_ok
  · intro args h κ r hh
    simp only [S.FewestWatch_s] at hh
    split at hh
    · exact (S.FewestWatch_den _ κ).trans hh
    · cases hh
  · intro args h κ r hh
    simp only [S.FewestWatch_s] at hh ⊢
    split at hh
    · exact optC_law2 (F := fun (r : Int) κ => κ (.int .i64 r) []) (fun b κ r hb => ⟨_, _, hb, fun _ => rfl⟩) hh
    · cases hh
  · intro _ args h κ r hh
    simp only [S.FewestWatch_s] at hh
    split at hh
    · exact ⟨rfl, fun _ => rfl⟩
    · cases hh
  · intro _ args h κ r hh
    simp only [S.FewestWatch_s] at hh
    split at hh
    · rfl
    · cases hh

-- loop.example/guardsonnets/spec.l10Fit
class S.l10Fit_r_R where
  r : (List Int) → Int → Int → Int → Option (Bool)
section
variable [c_ : S.l10Fit_r_R]
noncomputable def S.l10Fit_r0_t (net : List Int) (from_ : Int) (at_ : Int) (left_ : Int) : Option (Bool) := S.l10Fit_r_R.r net from_ at_ left_
noncomputable def S.l10Fit_r0_s : D.Spec where
  keep := false
  pure := true
  add := true
  ds := [.int .i64, .invalid, .invalid, .invalid]
  sp := fun args h κ => match args, h with
    | [.ro false (.ints .i64 net), .int .i64 from_, .int .i64 at_, .int .i64 left_], [] => optC (S.l10Fit_r0_t net from_ at_ left_) (fun (r : Bool) => κ (.bool r) []) none
    | _, _ => none
end
section
variable [c_ : S.l10Fit_r_R]
noncomputable def S.l10Fit_r_T : List (Nat × D.Spec) := [(81, S.l10Fit_r0_s)]
def S.l10Fit_r_ann : Nat → List Nat × List Nat
  | 7 => ([0, 1, 2, 3, 9, 10], [8])
  | 1 => ([0, 1, 2, 3], [0, 1, 2, 3])
  | _ => ([], [])
noncomputable def S.l10Fit_r_F (args : List V) (h : List E) (κ : V → List E → R) : R := funC TD (tableK S.l10Fit_r_T) S.l10Fit_r_ann (drawOk TD (tableP S.l10Fit_r_T)) FUEL Try.f81 args h κ
noncomputable def S.l10Fit_r_L7 (n : Nat) (σ : St) (k : X → St → R) : R := iterC 0 (fun σ k => denC TD (tableK S.l10Fit_r_T) S.l10Fit_r_ann (drawOk TD (tableP S.l10Fit_r_T)) 0 FUEL ((findLoop 7 (Try.f81.body.getD .skip)).getD .skip) σ k) [0, 1, 2, 3, 9, 10] [8] n σ k
noncomputable def S.l10Fit_r_L1 (n : Nat) (σ : St) (k : X → St → R) : R := iterC 0 (fun σ k => denC TD (tableK S.l10Fit_r_T) S.l10Fit_r_ann (drawOk TD (tableP S.l10Fit_r_T)) 0 FUEL ((findLoop 1 (Try.f81.body.getD .skip)).getD .skip) σ k) [0, 1, 2, 3] [0, 1, 2, 3] n σ k
end
section
variable [c_ : S.l10Fit_r_R]
noncomputable def S.l10Fit_r_k1 (κ : V → List E → R) : X → St → R := (afterC TD (tableK S.l10Fit_r_T) S.l10Fit_r_ann (drawOk TD (tableP S.l10Fit_r_T)) 0 FUEL 1 (Try.f81.body.getD .skip) (finC TD 0 Try.f81 κ)).getD (fun _ _ => none)
noncomputable def S.l10Fit_r_k7 (κ : V → List E → R) : X → St → R := (afterC TD (tableK S.l10Fit_r_T) S.l10Fit_r_ann (drawOk TD (tableP S.l10Fit_r_T)) 0 FUEL 7 (Try.f81.body.getD .skip) (finC TD 0 Try.f81 κ)).getD (fun _ _ => none)
noncomputable def S.l10Fit_r_step1 {α : Type} (x0 : List Int) (x1 : Int) (x3 : Int) (x2 : Int) (next_ : Int → α) (out0_ : Int → α) (fail_ : α) : α :=
  (bif decide (x2 < (↑x0.length : Int)) then (bif decide (x2 < 0) then fail_ else (bif (x1.fdiv (2 ^ min x2.toNat IntKind.i64.bits)).tmod 2 == 0 then (next_ (IntKind.i64.wrap (x2 + 1))) else (out0_ x2))) else (out0_ x2))
theorem S.l10Fit_r_step1_nat {α γ : Type} (g : α → γ) (x0 : List Int) (x1 : Int) (x3 : Int) (x2 : Int) (next_ : Int → α) (out0_ : Int → α) (fail_ : α) : g (S.l10Fit_r_step1 x0 x1 x3 x2 next_ out0_ fail_) = S.l10Fit_r_step1 x0 x1 x3 x2 (fun s => g (next_ s)) (fun d => g (out0_ d)) (g fail_) := by
  unfold S.l10Fit_r_step1; simp only [apply_cnd g, apply_optC g, apply_sumC g]
noncomputable def S.l10Fit_r_run1 (x0 : List Int) (x1 : Int) (x3 : Int) : Nat → Int → Option (Int)
  | 0, _ => none
  | n + 1, s_ => S.l10Fit_r_step1 x0 x1 x3 s_ (S.l10Fit_r_run1 x0 x1 x3 n) (fun d => some d) none
theorem S.l10Fit_r_L1_run (x0 : List Int) (x1 : Int) (x3 : Int) (n : Nat) (s_ : Int) (k : X → St → R) : S.l10Fit_r_L1 n { n := 59, t := [(0, (.ro false (.ints .i64 x0))), (1, (.int .i64 x1)), (2, (.int .i64 s_)), (3, (.int .i64 x3))], h := [] } k = optC (S.l10Fit_r_run1 x0 x1 x3 n s_) (fun (r : Int) => k (.exit 0) { n := 59, t := [(0, (.ro false (.ints .i64 x0))), (1, (.int .i64 x1)), (2, (.int .i64 r)), (3, (.int .i64 x3))], h := [] }) none := by
  induction n generalizing s_ with
  | zero => rfl
  | succ n ih =>
    have hu : S.l10Fit_r_L1 (n + 1) { n := 59, t := [(0, (.ro false (.ints .i64 x0))), (1, (.int .i64 x1)), (2, (.int .i64 s_)), (3, (.int .i64 x3))], h := [] } k = S.l10Fit_r_step1 x0 x1 x3 s_ (fun s_ => S.l10Fit_r_L1 n { n := 59, t := [(0, (.ro false (.ints .i64 x0))), (1, (.int .i64 x1)), (2, (.int .i64 s_)), (3, (.int .i64 x3))], h := [] } k) (fun d => k (.exit 0) { n := 59, t := [(0, (.ro false (.ints .i64 x0))), (1, (.int .i64 x1)), (2, (.int .i64 d)), (3, (.int .i64 x3))], h := [] }) none := by
      kernel_rfl
    have hs : (fun s_ : Int => S.l10Fit_r_L1 n { n := 59, t := [(0, (.ro false (.ints .i64 x0))), (1, (.int .i64 x1)), (2, (.int .i64 s_)), (3, (.int .i64 x3))], h := [] } k) = fun s_ => optC (S.l10Fit_r_run1 x0 x1 x3 n s_) (fun (r : Int) => k (.exit 0) { n := 59, t := [(0, (.ro false (.ints .i64 x0))), (1, (.int .i64 x1)), (2, (.int .i64 r)), (3, (.int .i64 x3))], h := [] }) none := funext ih
    rw [hu, hs]
    exact (S.l10Fit_r_step1_nat (fun o => optC o (fun (r : Int) => k (.exit 0) { n := 59, t := [(0, (.ro false (.ints .i64 x0))), (1, (.int .i64 x1)), (2, (.int .i64 r)), (3, (.int .i64 x3))], h := [] }) none) x0 x1 x3 s_ (S.l10Fit_r_run1 x0 x1 x3 n) (fun d => some d) none).symm
noncomputable def S.l10Fit_r_step7 {α : Type} (x0 : List Int) (x1 : Int) (x2 : Int) (x3 : Int) (x9 : Int) (x10 : Int) (next_ : Int → α) (out0_ : Bool → α) (out1_ : Unit → α) (fail_ : α) : α :=
  (bif decide (x10 < (↑x0.length : Int)) then (bif decide (x10 < 0) then fail_ else (bif (x9.fdiv (2 ^ min x10.toNat IntKind.i64.bits)).tmod 2 == 1 then (bif decide (x10 < 0) then fail_ else (optC (S.l10Fit_r0_t x0 x1 (IntKind.i64.wrap (x2 + 1)) (bits BinOp.andNot IntKind.i64 x3 (IntKind.i64.wrap (1 * 2 ^ min x10.toNat IntKind.i64.bits)))) (fun c_2 => (bif c_2 then (out0_ true) else (next_ (IntKind.i64.wrap (x10 + 1))))) fail_)) else (next_ (IntKind.i64.wrap (x10 + 1))))) else (out1_ ()))
theorem S.l10Fit_r_step7_nat {α γ : Type} (g : α → γ) (x0 : List Int) (x1 : Int) (x2 : Int) (x3 : Int) (x9 : Int) (x10 : Int) (next_ : Int → α) (out0_ : Bool → α) (out1_ : Unit → α) (fail_ : α) : g (S.l10Fit_r_step7 x0 x1 x2 x3 x9 x10 next_ out0_ out1_ fail_) = S.l10Fit_r_step7 x0 x1 x2 x3 x9 x10 (fun s => g (next_ s)) (fun d => g (out0_ d)) (fun d => g (out1_ d)) (g fail_) := by
  unfold S.l10Fit_r_step7; simp only [apply_cnd g, apply_optC g, apply_sumC g]
noncomputable def S.l10Fit_r_run7 (x0 : List Int) (x1 : Int) (x2 : Int) (x3 : Int) (x9 : Int) : Nat → Int → Option ((Bool) ⊕ (Unit))
  | 0, _ => none
  | n + 1, s_ => S.l10Fit_r_step7 x0 x1 x2 x3 x9 s_ (S.l10Fit_r_run7 x0 x1 x2 x3 x9 n) (fun d => some ((Sum.inl d))) (fun d => some ((Sum.inr d))) none
theorem S.l10Fit_r_L7_run (x0 : List Int) (x1 : Int) (x2 : Int) (x3 : Int) (x9 : Int) (n : Nat) (s_ : Int) (k : X → St → R) : S.l10Fit_r_L7 n { n := 59, t := [(0, (.ro false (.ints .i64 x0))), (1, (.int .i64 x1)), (2, (.int .i64 x2)), (3, (.int .i64 x3)), (9, (.int .i64 x9)), (10, (.int .i64 s_))], h := [] } k = optC (S.l10Fit_r_run7 x0 x1 x2 x3 x9 n s_) (fun (r : (Bool) ⊕ (Unit)) => (sumC r (fun (r : Bool) => k (.ret) { n := 59, t := [(8, (.bool r))], h := [] }) (fun (r : Unit) => k (.exit 2) { n := 59, t := [(8, .junk)], h := [] }))) none := by
  induction n generalizing s_ with
  | zero => rfl
  | succ n ih =>
    have hu : S.l10Fit_r_L7 (n + 1) { n := 59, t := [(0, (.ro false (.ints .i64 x0))), (1, (.int .i64 x1)), (2, (.int .i64 x2)), (3, (.int .i64 x3)), (9, (.int .i64 x9)), (10, (.int .i64 s_))], h := [] } k = S.l10Fit_r_step7 x0 x1 x2 x3 x9 s_ (fun s_ => S.l10Fit_r_L7 n { n := 59, t := [(0, (.ro false (.ints .i64 x0))), (1, (.int .i64 x1)), (2, (.int .i64 x2)), (3, (.int .i64 x3)), (9, (.int .i64 x9)), (10, (.int .i64 s_))], h := [] } k) (fun d => k (.ret) { n := 59, t := [(8, (.bool d))], h := [] }) (fun d => k (.exit 2) { n := 59, t := [(8, .junk)], h := [] }) none := by
      kernel_rfl
    have hs : (fun s_ : Int => S.l10Fit_r_L7 n { n := 59, t := [(0, (.ro false (.ints .i64 x0))), (1, (.int .i64 x1)), (2, (.int .i64 x2)), (3, (.int .i64 x3)), (9, (.int .i64 x9)), (10, (.int .i64 s_))], h := [] } k) = fun s_ => optC (S.l10Fit_r_run7 x0 x1 x2 x3 x9 n s_) (fun (r : (Bool) ⊕ (Unit)) => (sumC r (fun (r : Bool) => k (.ret) { n := 59, t := [(8, (.bool r))], h := [] }) (fun (r : Unit) => k (.exit 2) { n := 59, t := [(8, .junk)], h := [] }))) none := funext ih
    rw [hu, hs]
    exact (S.l10Fit_r_step7_nat (fun o => optC o (fun (r : (Bool) ⊕ (Unit)) => (sumC r (fun (r : Bool) => k (.ret) { n := 59, t := [(8, (.bool r))], h := [] }) (fun (r : Unit) => k (.exit 2) { n := 59, t := [(8, .junk)], h := [] }))) none) x0 x1 x2 x3 x9 s_ (S.l10Fit_r_run7 x0 x1 x2 x3 x9 n) (fun d => some ((Sum.inl d))) (fun d => some ((Sum.inr d))) none).symm
noncomputable def S.l10Fit_r_tree {α : Type} (net : List Int) (from_ : Int) (at_ : Int) (left_ : Int) (leaf0_ : Bool → α) (fail_ : α) : α :=
  (optC (S.l10Fit_r_run1 net from_ left_ FUEL at_) (fun qy_1 => (bif decide (qy_1 ≥ (↑net.length : Int)) then (leaf0_ true) else (bif decide (0 ≤ qy_1) && decide (qy_1 < (↑net.length : Int)) then (bif decide (qy_1 < 0) then fail_ else (optC (S.l10Fit_r_run7 net from_ qy_1 left_ (bits BinOp.and IntKind.i64 (bits BinOp.or IntKind.i64 (eli net qy_1.toNat) (IntKind.i64.wrap (1 * 2 ^ min qy_1.toNat IntKind.i64.bits))) left_) FUEL 0) (fun qy_3 => (sumC qy_3 (fun (qy_3 : Bool) => (leaf0_ qy_3)) (fun (qy_3 : Unit) => (leaf0_ false)))) fail_)) else fail_))) fail_)
theorem S.l10Fit_r_tree_nat {α γ : Type} (g : α → γ) (net : List Int) (from_ : Int) (at_ : Int) (left_ : Int) (leaf0_ : Bool → α) (fail_ : α) : g (S.l10Fit_r_tree net from_ at_ left_ leaf0_ fail_) = S.l10Fit_r_tree net from_ at_ left_ (fun d => g (leaf0_ d)) (g fail_) := by
  unfold S.l10Fit_r_tree; simp only [apply_cnd g, apply_optC g, apply_sumC g]
noncomputable def S.l10Fit_r_t (net : List Int) (from_ : Int) (at_ : Int) (left_ : Int) : Option (Bool) := S.l10Fit_r_tree net from_ at_ left_ (fun d => some d) none
theorem S.l10Fit_r_den (net : List Int) (from_ : Int) (at_ : Int) (left_ : Int) (κ : V → List E → R) : S.l10Fit_r_F [.ro false (.ints .i64 net), .int .i64 from_, .int .i64 at_, .int .i64 left_] [] κ = optC (S.l10Fit_r_t net from_ at_ left_) (fun (r : Bool) => κ (.bool r) []) none := by
  have hu : S.l10Fit_r_F [.ro false (.ints .i64 net), .int .i64 from_, .int .i64 at_, .int .i64 left_] [] κ = S.l10Fit_r_tree net from_ at_ left_ (fun d => κ (.bool d) []) none := by
    refine Eq.trans (show S.l10Fit_r_F [.ro false (.ints .i64 net), .int .i64 from_, .int .i64 at_, .int .i64 left_] [] κ = (S.l10Fit_r_L1 FUEL { n := 59, t := [(0, (.ro false (.ints .i64 net))), (1, (.int .i64 from_)), (2, (.int .i64 at_)), (3, (.int .i64 left_))], h := [] } (S.l10Fit_r_k1 κ)) by kernel_rfl) ?_
    refine (S.l10Fit_r_L1_run net from_ left_ FUEL at_ (S.l10Fit_r_k1 κ)).trans (optC_congr (fun qy_1 => ?_))
    refine Eq.trans (show (S.l10Fit_r_k1 κ (.exit 0) { n := 59, t := [(0, (.ro false (.ints .i64 net))), (1, (.int .i64 from_)), (2, (.int .i64 qy_1)), (3, (.int .i64 left_))], h := [] }) = (bif decide (qy_1 ≥ (↑net.length : Int)) then (κ (.bool true) []) else (bif decide (0 ≤ qy_1) && decide (qy_1 < (↑net.length : Int)) then (bif decide (qy_1 < 0) then none else (S.l10Fit_r_L7 FUEL { n := 59, t := [(0, (.ro false (.ints .i64 net))), (1, (.int .i64 from_)), (2, (.int .i64 qy_1)), (3, (.int .i64 left_)), (9, (.int .i64 (bits BinOp.and IntKind.i64 (bits BinOp.or IntKind.i64 (eli net qy_1.toNat) (IntKind.i64.wrap (1 * 2 ^ min qy_1.toNat IntKind.i64.bits))) left_))), (10, (.int .i64 0))], h := [] } (S.l10Fit_r_k7 κ))) else none)) by kernel_rfl) ?_
    refine cnd_congr ?_ ?_
    · kernel_rfl
    · refine cnd_congr ?_ ?_
      · refine cnd_congr ?_ ?_
        · kernel_rfl
        · refine (S.l10Fit_r_L7_run net from_ qy_1 left_ (bits BinOp.and IntKind.i64 (bits BinOp.or IntKind.i64 (eli net qy_1.toNat) (IntKind.i64.wrap (1 * 2 ^ min qy_1.toNat IntKind.i64.bits))) left_) FUEL 0 (S.l10Fit_r_k7 κ)).trans (optC_congr (fun qy_3 => ?_))
          rcases qy_3 with qy_3 | qy_3
          · kernel_rfl
          · kernel_rfl
      · kernel_rfl
  rw [hu]
  exact (S.l10Fit_r_tree_nat (fun o => optC o (fun (r : Bool) => κ (.bool r) []) none) net from_ at_ left_ (fun d => some d) none).symm
noncomputable def S.l10Fit_r_s : D.Spec where
  keep := false
  pure := true
  add := true
  ds := [.int .i64, .invalid, .invalid, .invalid]
  sp := fun args h κ => match args, h with
    | [.ro false (.ints .i64 net), .int .i64 from_, .int .i64 at_, .int .i64 left_], [] => optC (S.l10Fit_r_t net from_ at_ left_) (fun (r : Bool) => κ (.bool r) []) none
    | _, _ => none
theorem S.l10Fit_r_ok (hrec_ : SpecOk Try.prog 81 S.l10Fit_r0_s) : SpecOk Try.prog 81 S.l10Fit_r_s := by
  refine SpecOk.of TDok mixed (T := S.l10Fit_r_T) ?_ (ann := S.l10Fit_r_ann) Try.func81 rfl (by decide +kernel) ?_ ?_ ?_ ?_
  · intro p hp
    simp only [S.l10Fit_r_T, List.mem_cons, List.not_mem_nil, or_false] at hp
    rcases hp with rfl
    · exact hrec_
  · intro args h κ r hh
    simp only [S.l10Fit_r_s] at hh
    split at hh
    · exact (S.l10Fit_r_den _ _ _ _ κ).trans hh
    · cases hh
  · intro args h κ r hh
    simp only [S.l10Fit_r_s] at hh ⊢
    split at hh
    · exact optC_law2 (F := fun (r : Bool) κ => κ (.bool r) []) (fun b κ r hb => ⟨_, _, hb, fun _ => rfl⟩) hh
    · cases hh
  · intro _ args h κ r hh
    simp only [S.l10Fit_r_s] at hh
    split at hh
    · exact ⟨rfl, fun _ => rfl⟩
    · cases hh
  · intro _ args h κ r hh
    simp only [S.l10Fit_r_s] at hh
    split at hh
    · rfl
    · cases hh
end
noncomputable def S.l10Fit_td : Nat → (List Int) → Int → Int → Int → Option (Bool)
  | 0 => fun _ _ _ _ => none
  | d + 1 => @S.l10Fit_r_t ⟨S.l10Fit_td d⟩
noncomputable def S.l10Fit_t (net : List Int) (from_ : Int) (at_ : Int) (left_ : Int) : Option (Bool) := S.l10Fit_td FUEL net from_ at_ left_
noncomputable def S.l10Fit_s : D.Spec where
  keep := false
  pure := true
  add := true
  ds := [.int .i64, .invalid, .invalid, .invalid]
  sp := fun args h κ => match args, h with
    | [.ro false (.ints .i64 net), .int .i64 from_, .int .i64 at_, .int .i64 left_], [] => optC (S.l10Fit_t net from_ at_ left_) (fun (r : Bool) => κ (.bool r) []) none
    | _, _ => none
theorem S.l10Fit_okd : ∀ d : Nat, SpecOk Try.prog 81 (@S.l10Fit_r0_s ⟨S.l10Fit_td d⟩)
  | 0 => SpecOk.zero Try.func81 rfl (by decide +kernel) (fun args h κ => by
      simp only [S.l10Fit_r0_s]
      split
      · rfl
      · rfl)
  | d + 1 => @S.l10Fit_r_ok ⟨S.l10Fit_td d⟩ (S.l10Fit_okd d)
theorem S.l10Fit_ok : SpecOk Try.prog 81 S.l10Fit_s := S.l10Fit_okd FUEL

-- loop.example/guardsonnets/spec.l10Answer
noncomputable def S.l10Answer_T : List (Nat × D.Spec) := [(61, S.l1Size_s), (81, S.l10Fit_s)]
def S.l10Answer_ann : Nat → List Nat × List Nat
  | 2 => ([0, 1, 2, 3, 9], [8])
  | _ => ([], [])
noncomputable def S.l10Answer_F (args : List V) (h : List E) (κ : V → List E → R) : R := funC TD (tableK S.l10Answer_T) S.l10Answer_ann (drawOk TD (tableP S.l10Answer_T)) FUEL Try.f74 args h κ
noncomputable def S.l10Answer_L2 (n : Nat) (σ : St) (k : X → St → R) : R := iterC 0 (fun σ k => denC TD (tableK S.l10Answer_T) S.l10Answer_ann (drawOk TD (tableP S.l10Answer_T)) 0 FUEL ((findLoop 2 (Try.f74.body.getD .skip)).getD .skip) σ k) [0, 1, 2, 3, 9] [8] n σ k
noncomputable def S.l10Answer_k2 (κ : V → List E → R) : X → St → R := (afterC TD (tableK S.l10Answer_T) S.l10Answer_ann (drawOk TD (tableP S.l10Answer_T)) 0 FUEL 2 (Try.f74.body.getD .skip) (finC TD 0 Try.f74 κ)).getD (fun _ _ => none)
noncomputable def S.l10Answer_step2 {α : Type} (x0 : List Int) (x1 : List Bool) (x2 : Int) (x3 : Int) (x9 : Int) (next_ : Int → α) (out0_ : Int → α) (out1_ : Unit → α) (fail_ : α) : α :=
  (bif decide (x9 < (↑x1.length : Int)) then (bif decide (0 ≤ x9) && decide (x9 < (↑x1.length : Int)) then (bif elb x1 x9.toNat then (bif decide (x3 < 0) then fail_ else (bif (x9.fdiv (2 ^ min x3.toNat IntKind.i64.bits)).tmod 2 == 1 then (optC (S.l1Size_t x9) (fun c_1 => (optC (S.l1Size_t x2) (fun c_2 => (bif c_1 == c_2 then (optC (S.l10Fit_t x0 x2 0 x9) (fun c_3 => (bif c_3 then (out0_ x9) else (next_ (IntKind.i64.wrap (x9 + 1))))) fail_) else (next_ (IntKind.i64.wrap (x9 + 1))))) fail_)) fail_) else (next_ (IntKind.i64.wrap (x9 + 1))))) else (next_ (IntKind.i64.wrap (x9 + 1)))) else fail_) else (out1_ ()))
theorem S.l10Answer_step2_nat {α γ : Type} (g : α → γ) (x0 : List Int) (x1 : List Bool) (x2 : Int) (x3 : Int) (x9 : Int) (next_ : Int → α) (out0_ : Int → α) (out1_ : Unit → α) (fail_ : α) : g (S.l10Answer_step2 x0 x1 x2 x3 x9 next_ out0_ out1_ fail_) = S.l10Answer_step2 x0 x1 x2 x3 x9 (fun s => g (next_ s)) (fun d => g (out0_ d)) (fun d => g (out1_ d)) (g fail_) := by
  unfold S.l10Answer_step2; simp only [apply_cnd g, apply_optC g, apply_sumC g]
noncomputable def S.l10Answer_run2 (x0 : List Int) (x1 : List Bool) (x2 : Int) (x3 : Int) : Nat → Int → Option ((Int) ⊕ (Unit))
  | 0, _ => none
  | n + 1, s_ => S.l10Answer_step2 x0 x1 x2 x3 s_ (S.l10Answer_run2 x0 x1 x2 x3 n) (fun d => some ((Sum.inl d))) (fun d => some ((Sum.inr d))) none
theorem S.l10Answer_L2_run (x0 : List Int) (x1 : List Bool) (x2 : Int) (x3 : Int) (n : Nat) (s_ : Int) (k : X → St → R) : S.l10Answer_L2 n { n := 41, t := [(0, (.ro false (.ints .i64 x0))), (1, (.ro false (.bools x1))), (2, (.int .i64 x2)), (3, (.int .i64 x3)), (9, (.int .i64 s_))], h := [] } k = optC (S.l10Answer_run2 x0 x1 x2 x3 n s_) (fun (r : (Int) ⊕ (Unit)) => (sumC r (fun (r : Int) => k (.ret) { n := 41, t := [(8, (.int .i64 r))], h := [] }) (fun (r : Unit) => k (.exit 0) { n := 41, t := [(8, .junk)], h := [] }))) none := by
  induction n generalizing s_ with
  | zero => rfl
  | succ n ih =>
    have hu : S.l10Answer_L2 (n + 1) { n := 41, t := [(0, (.ro false (.ints .i64 x0))), (1, (.ro false (.bools x1))), (2, (.int .i64 x2)), (3, (.int .i64 x3)), (9, (.int .i64 s_))], h := [] } k = S.l10Answer_step2 x0 x1 x2 x3 s_ (fun s_ => S.l10Answer_L2 n { n := 41, t := [(0, (.ro false (.ints .i64 x0))), (1, (.ro false (.bools x1))), (2, (.int .i64 x2)), (3, (.int .i64 x3)), (9, (.int .i64 s_))], h := [] } k) (fun d => k (.ret) { n := 41, t := [(8, (.int .i64 d))], h := [] }) (fun d => k (.exit 0) { n := 41, t := [(8, .junk)], h := [] }) none := by
      kernel_rfl
    have hs : (fun s_ : Int => S.l10Answer_L2 n { n := 41, t := [(0, (.ro false (.ints .i64 x0))), (1, (.ro false (.bools x1))), (2, (.int .i64 x2)), (3, (.int .i64 x3)), (9, (.int .i64 s_))], h := [] } k) = fun s_ => optC (S.l10Answer_run2 x0 x1 x2 x3 n s_) (fun (r : (Int) ⊕ (Unit)) => (sumC r (fun (r : Int) => k (.ret) { n := 41, t := [(8, (.int .i64 r))], h := [] }) (fun (r : Unit) => k (.exit 0) { n := 41, t := [(8, .junk)], h := [] }))) none := funext ih
    rw [hu, hs]
    exact (S.l10Answer_step2_nat (fun o => optC o (fun (r : (Int) ⊕ (Unit)) => (sumC r (fun (r : Int) => k (.ret) { n := 41, t := [(8, (.int .i64 r))], h := [] }) (fun (r : Unit) => k (.exit 0) { n := 41, t := [(8, .junk)], h := [] }))) none) x0 x1 x2 x3 s_ (S.l10Answer_run2 x0 x1 x2 x3 n) (fun d => some ((Sum.inl d))) (fun d => some ((Sum.inr d))) none).symm
noncomputable def S.l10Answer_tree {α : Type} (net : List Int) (lasts : List Bool) (set_ : Int) (place : Int) (leaf0_ : Int → α) (fail_ : α) : α :=
  (optC (S.l10Answer_run2 net lasts set_ place FUEL 0) (fun qy_4 => (sumC qy_4 (fun (qy_4 : Int) => (leaf0_ qy_4)) (fun (qy_4 : Unit) => (leaf0_ (-1))))) fail_)
theorem S.l10Answer_tree_nat {α γ : Type} (g : α → γ) (net : List Int) (lasts : List Bool) (set_ : Int) (place : Int) (leaf0_ : Int → α) (fail_ : α) : g (S.l10Answer_tree net lasts set_ place leaf0_ fail_) = S.l10Answer_tree net lasts set_ place (fun d => g (leaf0_ d)) (g fail_) := by
  unfold S.l10Answer_tree; simp only [apply_cnd g, apply_optC g, apply_sumC g]
noncomputable def S.l10Answer_t (net : List Int) (lasts : List Bool) (set_ : Int) (place : Int) : Option (Int) := S.l10Answer_tree net lasts set_ place (fun d => some d) none
theorem S.l10Answer_den (net : List Int) (lasts : List Bool) (set_ : Int) (place : Int) (κ : V → List E → R) : S.l10Answer_F [.ro false (.ints .i64 net), .ro false (.bools lasts), .int .i64 set_, .int .i64 place] [] κ = optC (S.l10Answer_t net lasts set_ place) (fun (r : Int) => κ (.int .i64 r) []) none := by
  have hu : S.l10Answer_F [.ro false (.ints .i64 net), .ro false (.bools lasts), .int .i64 set_, .int .i64 place] [] κ = S.l10Answer_tree net lasts set_ place (fun d => κ (.int .i64 d) []) none := by
    refine Eq.trans (show S.l10Answer_F [.ro false (.ints .i64 net), .ro false (.bools lasts), .int .i64 set_, .int .i64 place] [] κ = (S.l10Answer_L2 FUEL { n := 41, t := [(0, (.ro false (.ints .i64 net))), (1, (.ro false (.bools lasts))), (2, (.int .i64 set_)), (3, (.int .i64 place)), (9, (.int .i64 0))], h := [] } (S.l10Answer_k2 κ)) by kernel_rfl) ?_
    refine (S.l10Answer_L2_run net lasts set_ place FUEL 0 (S.l10Answer_k2 κ)).trans (optC_congr (fun qy_4 => ?_))
    rcases qy_4 with qy_4 | qy_4
    · kernel_rfl
    · kernel_rfl
  rw [hu]
  exact (S.l10Answer_tree_nat (fun o => optC o (fun (r : Int) => κ (.int .i64 r) []) none) net lasts set_ place (fun d => some d) none).symm
noncomputable def S.l10Answer_s : D.Spec where
  keep := false
  pure := true
  add := true
  ds := [.int .i64, .bool, .invalid, .invalid]
  sp := fun args h κ => match args, h with
    | [.ro false (.ints .i64 net), .ro false (.bools lasts), .int .i64 set_, .int .i64 place], [] => optC (S.l10Answer_t net lasts set_ place) (fun (r : Int) => κ (.int .i64 r) []) none
    | _, _ => none
theorem S.l10Answer_ok : SpecOk Try.prog 74 S.l10Answer_s := by
  refine SpecOk.of TDok mixed (T := S.l10Answer_T) ?_ (ann := S.l10Answer_ann) Try.func74 rfl (by decide +kernel) ?_ ?_ ?_ ?_
  · intro p hp
    simp only [S.l10Answer_T, List.mem_cons, List.not_mem_nil, or_false] at hp
    rcases hp with rfl | rfl
    · exact S.l1Size_ok
    · exact S.l10Fit_ok
  · intro args h κ r hh
    simp only [S.l10Answer_s] at hh
    split at hh
    · exact (S.l10Answer_den _ _ _ _ κ).trans hh
    · cases hh
  · intro args h κ r hh
    simp only [S.l10Answer_s] at hh ⊢
    split at hh
    · exact optC_law2 (F := fun (r : Int) κ => κ (.int .i64 r) []) (fun b κ r hb => ⟨_, _, hb, fun _ => rfl⟩) hh
    · cases hh
  · intro _ args h κ r hh
    simp only [S.l10Answer_s] at hh
    split at hh
    · exact ⟨rfl, fun _ => rfl⟩
    · cases hh
  · intro _ args h κ r hh
    simp only [S.l10Answer_s] at hh
    split at hh
    · rfl
    · cases hh

-- loop.example/guardsonnets/spec.l10Lasts
noncomputable def S.l10Lasts_T : List (Nat × D.Spec) := [(74, S.l10Answer_s)]
def S.l10Lasts_ann : Nat → List Nat × List Nat
  | 13 => ([0, 3, 5, 6, 7], [0, 3, 5, 6])
  | 10 => ([0, 3, 5, 6], [0, 3, 5])
  | 7 => ([0, 3, 5], [3])
  | 3 => ([0, 3, 4], [0, 3])
  | _ => ([], [])
noncomputable def S.l10Lasts_F (args : List V) (h : List E) (κ : V → List E → R) : R := funC TD (tableK S.l10Lasts_T) S.l10Lasts_ann (drawOk TD (tableP S.l10Lasts_T)) FUEL Try.f62 args h κ
noncomputable def S.l10Lasts_L13 (n : Nat) (σ : St) (k : X → St → R) : R := iterC 0 (fun σ k => denC TD (tableK S.l10Lasts_T) S.l10Lasts_ann (drawOk TD (tableP S.l10Lasts_T)) 0 FUEL ((findLoop 13 (Try.f62.body.getD .skip)).getD .skip) σ k) [0, 3, 5, 6, 7] [0, 3, 5, 6] n σ k
noncomputable def S.l10Lasts_L10 (n : Nat) (σ : St) (k : X → St → R) : R := iterC 0 (fun σ k => denC TD (tableK S.l10Lasts_T) S.l10Lasts_ann (drawOk TD (tableP S.l10Lasts_T)) 0 FUEL ((findLoop 10 (Try.f62.body.getD .skip)).getD .skip) σ k) [0, 3, 5, 6] [0, 3, 5] n σ k
noncomputable def S.l10Lasts_L7 (n : Nat) (σ : St) (k : X → St → R) : R := iterC 0 (fun σ k => denC TD (tableK S.l10Lasts_T) S.l10Lasts_ann (drawOk TD (tableP S.l10Lasts_T)) 0 FUEL ((findLoop 7 (Try.f62.body.getD .skip)).getD .skip) σ k) [0, 3, 5] [3] n σ k
noncomputable def S.l10Lasts_L3 (n : Nat) (σ : St) (k : X → St → R) : R := iterC 0 (fun σ k => denC TD (tableK S.l10Lasts_T) S.l10Lasts_ann (drawOk TD (tableP S.l10Lasts_T)) 0 FUEL ((findLoop 3 (Try.f62.body.getD .skip)).getD .skip) σ k) [0, 3, 4] [0, 3] n σ k
noncomputable def S.l10Lasts_k3 (κ : V → List E → R) : X → St → R := (afterC TD (tableK S.l10Lasts_T) S.l10Lasts_ann (drawOk TD (tableP S.l10Lasts_T)) 0 FUEL 3 (Try.f62.body.getD .skip) (finC TD 0 Try.f62 κ)).getD (fun _ _ => none)
noncomputable def S.l10Lasts_k13 (c : (St → R) × (X → St → R)) : X → St → R := (afterC TD (tableK S.l10Lasts_T) S.l10Lasts_ann (drawOk TD (tableP S.l10Lasts_T)) 0 FUEL 13 ((findLoop 10 (Try.f62.body.getD .skip)).getD .skip) (roundC 0 [0, 3, 5, 6] [0, 3, 5] c.1 c.2)).getD (fun _ _ => none)
noncomputable def S.l10Lasts_k10 (c : (St → R) × (X → St → R)) : X → St → R := (afterC TD (tableK S.l10Lasts_T) S.l10Lasts_ann (drawOk TD (tableP S.l10Lasts_T)) 0 FUEL 10 ((findLoop 7 (Try.f62.body.getD .skip)).getD .skip) (roundC 0 [0, 3, 5] [3] c.1 c.2)).getD (fun _ _ => none)
noncomputable def S.l10Lasts_k7 (κ : V → List E → R) : X → St → R := (afterC TD (tableK S.l10Lasts_T) S.l10Lasts_ann (drawOk TD (tableP S.l10Lasts_T)) 0 FUEL 7 (Try.f62.body.getD .skip) (finC TD 0 Try.f62 κ)).getD (fun _ _ => none)
noncomputable def S.l10Lasts_step3 {α : Type} (x0 : List Int) (x4 : Int) (r0 : List Bool) (next_ : Int × (List Bool) → α) (out0_ : List Bool → α) (fail_ : α) : α :=
  (bif decide (x4 < (↑r0.length : Int)) then (bif decide (0 ≤ x4) && decide (x4 < (↑r0.length : Int)) then (bif decide (x4.toNat < r0.length) then (next_ (IntKind.i64.wrap (x4 + 1), r0.set x4.toNat true)) else fail_) else fail_) else (out0_ r0))
theorem S.l10Lasts_step3_nat {α γ : Type} (g : α → γ) (x0 : List Int) (x4 : Int) (r0 : List Bool) (next_ : Int × (List Bool) → α) (out0_ : List Bool → α) (fail_ : α) : g (S.l10Lasts_step3 x0 x4 r0 next_ out0_ fail_) = S.l10Lasts_step3 x0 x4 r0 (fun s => g (next_ s)) (fun d => g (out0_ d)) (g fail_) := by
  unfold S.l10Lasts_step3; simp only [apply_cnd g, apply_optC g, apply_sumC g]
noncomputable def S.l10Lasts_run3 (x0 : List Int) : Nat → Int × (List Bool) → Option (List Bool)
  | 0, _ => none
  | n + 1, s_ => S.l10Lasts_step3 x0 s_.1 s_.2 (S.l10Lasts_run3 x0 n) (fun d => some d) none
theorem S.l10Lasts_L3_run (x0 : List Int) (n : Nat) (s_ : Int × (List Bool)) (k : X → St → R) : S.l10Lasts_L3 n { n := 57, t := [(0, (.ro false (.ints .i64 x0))), (3, (.own 0)), (4, (.int .i64 s_.1))], h := [.row (.bools s_.2)] } k = optC (S.l10Lasts_run3 x0 n s_) (fun (r : List Bool) => k (.exit 0) { n := 57, t := [(0, (.ro false (.ints .i64 x0))), (3, (.own 0))], h := [.row (.bools r)] }) none := by
  induction n generalizing s_ with
  | zero => rfl
  | succ n ih =>
    have hu : S.l10Lasts_L3 (n + 1) { n := 57, t := [(0, (.ro false (.ints .i64 x0))), (3, (.own 0)), (4, (.int .i64 s_.1))], h := [.row (.bools s_.2)] } k = S.l10Lasts_step3 x0 s_.1 s_.2 (fun s_ => S.l10Lasts_L3 n { n := 57, t := [(0, (.ro false (.ints .i64 x0))), (3, (.own 0)), (4, (.int .i64 s_.1))], h := [.row (.bools s_.2)] } k) (fun d => k (.exit 0) { n := 57, t := [(0, (.ro false (.ints .i64 x0))), (3, (.own 0))], h := [.row (.bools d)] }) none := by
      kernel_rfl
    have hs : (fun s_ : Int × (List Bool) => S.l10Lasts_L3 n { n := 57, t := [(0, (.ro false (.ints .i64 x0))), (3, (.own 0)), (4, (.int .i64 s_.1))], h := [.row (.bools s_.2)] } k) = fun s_ => optC (S.l10Lasts_run3 x0 n s_) (fun (r : List Bool) => k (.exit 0) { n := 57, t := [(0, (.ro false (.ints .i64 x0))), (3, (.own 0))], h := [.row (.bools r)] }) none := funext ih
    rw [hu, hs]
    exact (S.l10Lasts_step3_nat (fun o => optC o (fun (r : List Bool) => k (.exit 0) { n := 57, t := [(0, (.ro false (.ints .i64 x0))), (3, (.own 0))], h := [.row (.bools r)] }) none) x0 s_.1 s_.2 (S.l10Lasts_run3 x0 n) (fun d => some d) none).symm
noncomputable def S.l10Lasts_step13 {α : Type} (x0 : List Int) (x6 : Int) (x5 : Bool) (x7 : Int) (r0 : List Bool) (next_ : Bool × Int × (List Bool) → α) (out0_ : Bool × (List Bool) → α) (fail_ : α) : α :=
  (bif decide (x7 < (↑x0.length : Int)) then (bif decide (0 ≤ x6) && decide (x6 < (↑r0.length : Int)) then (bif decide (x6.toNat < r0.length) then (bif elb r0 x6.toNat then (bif decide (x7 < 0) then fail_ else (bif (x6.fdiv (2 ^ min x7.toNat IntKind.i64.bits)).tmod 2 == 0 then (optC (S.l10Answer_t x0 r0 x6 x7) (fun c_2 => (bif decide (c_2 < 0) then (bif decide (0 ≤ x6) && decide (x6 < (↑r0.length : Int)) then (bif decide (x6.toNat < r0.length) then (next_ (true, IntKind.i64.wrap (x7 + 1), r0.set x6.toNat false)) else fail_) else fail_) else (next_ (x5, IntKind.i64.wrap (x7 + 1), r0)))) fail_) else (next_ (x5, IntKind.i64.wrap (x7 + 1), r0)))) else (next_ (x5, IntKind.i64.wrap (x7 + 1), r0))) else fail_) else fail_) else (out0_ (x5, r0)))
theorem S.l10Lasts_step13_nat {α γ : Type} (g : α → γ) (x0 : List Int) (x6 : Int) (x5 : Bool) (x7 : Int) (r0 : List Bool) (next_ : Bool × Int × (List Bool) → α) (out0_ : Bool × (List Bool) → α) (fail_ : α) : g (S.l10Lasts_step13 x0 x6 x5 x7 r0 next_ out0_ fail_) = S.l10Lasts_step13 x0 x6 x5 x7 r0 (fun s => g (next_ s)) (fun d => g (out0_ d)) (g fail_) := by
  unfold S.l10Lasts_step13; simp only [apply_cnd g, apply_optC g, apply_sumC g]
noncomputable def S.l10Lasts_run13 (x0 : List Int) (x6 : Int) : Nat → Bool × Int × (List Bool) → Option (Bool × (List Bool))
  | 0, _ => none
  | n + 1, s_ => S.l10Lasts_step13 x0 x6 s_.1 s_.2.1 s_.2.2 (S.l10Lasts_run13 x0 x6 n) (fun d => some d) none
theorem S.l10Lasts_L13_run (x0 : List Int) (x6 : Int) (n : Nat) (s_ : Bool × Int × (List Bool)) (k : X → St → R) : S.l10Lasts_L13 n { n := 57, t := [(0, (.ro false (.ints .i64 x0))), (3, (.own 0)), (5, (.bool s_.1)), (6, (.int .i64 x6)), (7, (.int .i64 s_.2.1))], h := [.row (.bools s_.2.2)] } k = optC (S.l10Lasts_run13 x0 x6 n s_) (fun (r : Bool × (List Bool)) => k (.exit 6) { n := 57, t := [(0, (.ro false (.ints .i64 x0))), (3, (.own 0)), (5, (.bool r.1)), (6, (.int .i64 x6))], h := [.row (.bools r.2)] }) none := by
  induction n generalizing s_ with
  | zero => rfl
  | succ n ih =>
    have hu : S.l10Lasts_L13 (n + 1) { n := 57, t := [(0, (.ro false (.ints .i64 x0))), (3, (.own 0)), (5, (.bool s_.1)), (6, (.int .i64 x6)), (7, (.int .i64 s_.2.1))], h := [.row (.bools s_.2.2)] } k = S.l10Lasts_step13 x0 x6 s_.1 s_.2.1 s_.2.2 (fun s_ => S.l10Lasts_L13 n { n := 57, t := [(0, (.ro false (.ints .i64 x0))), (3, (.own 0)), (5, (.bool s_.1)), (6, (.int .i64 x6)), (7, (.int .i64 s_.2.1))], h := [.row (.bools s_.2.2)] } k) (fun d => k (.exit 6) { n := 57, t := [(0, (.ro false (.ints .i64 x0))), (3, (.own 0)), (5, (.bool d.1)), (6, (.int .i64 x6))], h := [.row (.bools d.2)] }) none := by
      kernel_rfl
    have hs : (fun s_ : Bool × Int × (List Bool) => S.l10Lasts_L13 n { n := 57, t := [(0, (.ro false (.ints .i64 x0))), (3, (.own 0)), (5, (.bool s_.1)), (6, (.int .i64 x6)), (7, (.int .i64 s_.2.1))], h := [.row (.bools s_.2.2)] } k) = fun s_ => optC (S.l10Lasts_run13 x0 x6 n s_) (fun (r : Bool × (List Bool)) => k (.exit 6) { n := 57, t := [(0, (.ro false (.ints .i64 x0))), (3, (.own 0)), (5, (.bool r.1)), (6, (.int .i64 x6))], h := [.row (.bools r.2)] }) none := funext ih
    rw [hu, hs]
    exact (S.l10Lasts_step13_nat (fun o => optC o (fun (r : Bool × (List Bool)) => k (.exit 6) { n := 57, t := [(0, (.ro false (.ints .i64 x0))), (3, (.own 0)), (5, (.bool r.1)), (6, (.int .i64 x6))], h := [.row (.bools r.2)] }) none) x0 x6 s_.1 s_.2.1 s_.2.2 (S.l10Lasts_run13 x0 x6 n) (fun d => some d) none).symm
noncomputable def S.l10Lasts_step10 {α : Type} (x0 : List Int) (x5 : Bool) (x6 : Int) (r0 : List Bool) (next_ : Bool × Int × (List Bool) → α) (out0_ : Bool × (List Bool) → α) (fail_ : α) : α :=
  (bif decide (x6 < (↑r0.length : Int)) then (optC (S.l10Lasts_run13 x0 x6 FUEL (x5, 0, r0)) (fun qy_3 => (next_ (qy_3.1, IntKind.i64.wrap (x6 + 1), qy_3.2))) fail_) else (out0_ (x5, r0)))
theorem S.l10Lasts_step10_nat {α γ : Type} (g : α → γ) (x0 : List Int) (x5 : Bool) (x6 : Int) (r0 : List Bool) (next_ : Bool × Int × (List Bool) → α) (out0_ : Bool × (List Bool) → α) (fail_ : α) : g (S.l10Lasts_step10 x0 x5 x6 r0 next_ out0_ fail_) = S.l10Lasts_step10 x0 x5 x6 r0 (fun s => g (next_ s)) (fun d => g (out0_ d)) (g fail_) := by
  unfold S.l10Lasts_step10; simp only [apply_cnd g, apply_optC g, apply_sumC g]
noncomputable def S.l10Lasts_run10 (x0 : List Int) : Nat → Bool × Int × (List Bool) → Option (Bool × (List Bool))
  | 0, _ => none
  | n + 1, s_ => S.l10Lasts_step10 x0 s_.1 s_.2.1 s_.2.2 (S.l10Lasts_run10 x0 n) (fun d => some d) none
theorem S.l10Lasts_L10_run (x0 : List Int) (n : Nat) (s_ : Bool × Int × (List Bool)) (k : X → St → R) : S.l10Lasts_L10 n { n := 57, t := [(0, (.ro false (.ints .i64 x0))), (3, (.own 0)), (5, (.bool s_.1)), (6, (.int .i64 s_.2.1))], h := [.row (.bools s_.2.2)] } k = optC (S.l10Lasts_run10 x0 n s_) (fun (r : Bool × (List Bool)) => k (.exit 4) { n := 57, t := [(0, (.ro false (.ints .i64 x0))), (3, (.own 0)), (5, (.bool r.1))], h := [.row (.bools r.2)] }) none := by
  induction n generalizing s_ with
  | zero => rfl
  | succ n ih =>
    have hu : S.l10Lasts_L10 (n + 1) { n := 57, t := [(0, (.ro false (.ints .i64 x0))), (3, (.own 0)), (5, (.bool s_.1)), (6, (.int .i64 s_.2.1))], h := [.row (.bools s_.2.2)] } k = S.l10Lasts_step10 x0 s_.1 s_.2.1 s_.2.2 (fun s_ => S.l10Lasts_L10 n { n := 57, t := [(0, (.ro false (.ints .i64 x0))), (3, (.own 0)), (5, (.bool s_.1)), (6, (.int .i64 s_.2.1))], h := [.row (.bools s_.2.2)] } k) (fun d => k (.exit 4) { n := 57, t := [(0, (.ro false (.ints .i64 x0))), (3, (.own 0)), (5, (.bool d.1))], h := [.row (.bools d.2)] }) none := by
      refine Eq.trans (show S.l10Lasts_L10 (n + 1) { n := 57, t := [(0, (.ro false (.ints .i64 x0))), (3, (.own 0)), (5, (.bool s_.1)), (6, (.int .i64 s_.2.1))], h := [.row (.bools s_.2.2)] } k = (bif decide (s_.2.1 < (↑s_.2.2.length : Int)) then (S.l10Lasts_L13 FUEL { n := 57, t := [(0, (.ro false (.ints .i64 x0))), (3, (.own 0)), (5, (.bool s_.1)), (6, (.int .i64 s_.2.1)), (7, (.int .i64 0))], h := [.row (.bools s_.2.2)] } (S.l10Lasts_k13 ((fun σ => S.l10Lasts_L10 n σ k), k))) else (k (.exit 4) { n := 57, t := [(0, (.ro false (.ints .i64 x0))), (3, (.own 0)), (5, (.bool s_.1))], h := [.row (.bools s_.2.2)] })) by kernel_rfl) ?_
      refine cnd_congr ?_ ?_
      · refine (S.l10Lasts_L13_run x0 s_.2.1 FUEL (s_.1, 0, s_.2.2) (S.l10Lasts_k13 ((fun σ => S.l10Lasts_L10 n σ k), k))).trans (optC_congr (fun qy_3 => ?_))
        kernel_rfl
      · kernel_rfl
    have hs : (fun s_ : Bool × Int × (List Bool) => S.l10Lasts_L10 n { n := 57, t := [(0, (.ro false (.ints .i64 x0))), (3, (.own 0)), (5, (.bool s_.1)), (6, (.int .i64 s_.2.1))], h := [.row (.bools s_.2.2)] } k) = fun s_ => optC (S.l10Lasts_run10 x0 n s_) (fun (r : Bool × (List Bool)) => k (.exit 4) { n := 57, t := [(0, (.ro false (.ints .i64 x0))), (3, (.own 0)), (5, (.bool r.1))], h := [.row (.bools r.2)] }) none := funext ih
    rw [hu, hs]
    exact (S.l10Lasts_step10_nat (fun o => optC o (fun (r : Bool × (List Bool)) => k (.exit 4) { n := 57, t := [(0, (.ro false (.ints .i64 x0))), (3, (.own 0)), (5, (.bool r.1))], h := [.row (.bools r.2)] }) none) x0 s_.1 s_.2.1 s_.2.2 (S.l10Lasts_run10 x0 n) (fun d => some d) none).symm
noncomputable def S.l10Lasts_step7 {α : Type} (x0 : List Int) (x5 : Bool) (r0 : List Bool) (next_ : Bool × (List Bool) → α) (out0_ : List Bool → α) (fail_ : α) : α :=
  (bif x5 then (optC (S.l10Lasts_run10 x0 FUEL (false, 0, r0)) (fun qy_4 => (next_ (qy_4.1, qy_4.2))) fail_) else (out0_ r0))
theorem S.l10Lasts_step7_nat {α γ : Type} (g : α → γ) (x0 : List Int) (x5 : Bool) (r0 : List Bool) (next_ : Bool × (List Bool) → α) (out0_ : List Bool → α) (fail_ : α) : g (S.l10Lasts_step7 x0 x5 r0 next_ out0_ fail_) = S.l10Lasts_step7 x0 x5 r0 (fun s => g (next_ s)) (fun d => g (out0_ d)) (g fail_) := by
  unfold S.l10Lasts_step7; simp only [apply_cnd g, apply_optC g, apply_sumC g]
noncomputable def S.l10Lasts_run7 (x0 : List Int) : Nat → Bool × (List Bool) → Option (List Bool)
  | 0, _ => none
  | n + 1, s_ => S.l10Lasts_step7 x0 s_.1 s_.2 (S.l10Lasts_run7 x0 n) (fun d => some d) none
theorem S.l10Lasts_L7_run (x0 : List Int) (n : Nat) (s_ : Bool × (List Bool)) (k : X → St → R) : S.l10Lasts_L7 n { n := 57, t := [(0, (.ro false (.ints .i64 x0))), (3, (.own 0)), (5, (.bool s_.1))], h := [.row (.bools s_.2)] } k = optC (S.l10Lasts_run7 x0 n s_) (fun (r : List Bool) => k (.exit 2) { n := 57, t := [(3, (.own 0))], h := [.row (.bools r)] }) none := by
  induction n generalizing s_ with
  | zero => rfl
  | succ n ih =>
    have hu : S.l10Lasts_L7 (n + 1) { n := 57, t := [(0, (.ro false (.ints .i64 x0))), (3, (.own 0)), (5, (.bool s_.1))], h := [.row (.bools s_.2)] } k = S.l10Lasts_step7 x0 s_.1 s_.2 (fun s_ => S.l10Lasts_L7 n { n := 57, t := [(0, (.ro false (.ints .i64 x0))), (3, (.own 0)), (5, (.bool s_.1))], h := [.row (.bools s_.2)] } k) (fun d => k (.exit 2) { n := 57, t := [(3, (.own 0))], h := [.row (.bools d)] }) none := by
      refine Eq.trans (show S.l10Lasts_L7 (n + 1) { n := 57, t := [(0, (.ro false (.ints .i64 x0))), (3, (.own 0)), (5, (.bool s_.1))], h := [.row (.bools s_.2)] } k = (bif s_.1 then (S.l10Lasts_L10 FUEL { n := 57, t := [(0, (.ro false (.ints .i64 x0))), (3, (.own 0)), (5, (.bool false)), (6, (.int .i64 0))], h := [.row (.bools s_.2)] } (S.l10Lasts_k10 ((fun σ => S.l10Lasts_L7 n σ k), k))) else (k (.exit 2) { n := 57, t := [(3, (.own 0))], h := [.row (.bools s_.2)] })) by kernel_rfl) ?_
      refine cnd_congr ?_ ?_
      · refine (S.l10Lasts_L10_run x0 FUEL (false, 0, s_.2) (S.l10Lasts_k10 ((fun σ => S.l10Lasts_L7 n σ k), k))).trans (optC_congr (fun qy_4 => ?_))
        kernel_rfl
      · kernel_rfl
    have hs : (fun s_ : Bool × (List Bool) => S.l10Lasts_L7 n { n := 57, t := [(0, (.ro false (.ints .i64 x0))), (3, (.own 0)), (5, (.bool s_.1))], h := [.row (.bools s_.2)] } k) = fun s_ => optC (S.l10Lasts_run7 x0 n s_) (fun (r : List Bool) => k (.exit 2) { n := 57, t := [(3, (.own 0))], h := [.row (.bools r)] }) none := funext ih
    rw [hu, hs]
    exact (S.l10Lasts_step7_nat (fun o => optC o (fun (r : List Bool) => k (.exit 2) { n := 57, t := [(3, (.own 0))], h := [.row (.bools r)] }) none) x0 s_.1 s_.2 (S.l10Lasts_run7 x0 n) (fun d => some d) none).symm
noncomputable def S.l10Lasts_tree {α : Type} (net : List Int) (leaf0_ : List Bool → α) (fail_ : α) : α :=
  (bif decide (0 ≤ IntKind.i64.wrap (1 * 2 ^ min (↑net.length : Int).toNat IntKind.i64.bits)) && small (IntKind.i64.wrap (1 * 2 ^ min (↑net.length : Int).toNat IntKind.i64.bits)).toNat && true then (optC (S.l10Lasts_run3 net FUEL (0, List.replicate (IntKind.i64.wrap (1 * 2 ^ min (↑net.length : Int).toNat IntKind.i64.bits)).toNat false)) (fun qy_1 => (optC (S.l10Lasts_run7 net FUEL (true, qy_1)) (fun qy_5 => (leaf0_ qy_5)) fail_)) fail_) else fail_)
theorem S.l10Lasts_tree_nat {α γ : Type} (g : α → γ) (net : List Int) (leaf0_ : List Bool → α) (fail_ : α) : g (S.l10Lasts_tree net leaf0_ fail_) = S.l10Lasts_tree net (fun d => g (leaf0_ d)) (g fail_) := by
  unfold S.l10Lasts_tree; simp only [apply_cnd g, apply_optC g, apply_sumC g]
noncomputable def S.l10Lasts_t (net : List Int) : Option (List Bool) := S.l10Lasts_tree net (fun d => some d) none
theorem S.l10Lasts_den (net : List Int) (κ : V → List E → R) : S.l10Lasts_F [.ro false (.ints .i64 net)] [] κ = optC (S.l10Lasts_t net) (fun (r : List Bool) => κ (.own 0) [.row (.bools r)]) none := by
  have hu : S.l10Lasts_F [.ro false (.ints .i64 net)] [] κ = S.l10Lasts_tree net (fun d => κ (.own 0) [.row (.bools d)]) none := by
    refine Eq.trans (show S.l10Lasts_F [.ro false (.ints .i64 net)] [] κ = (bif decide (0 ≤ IntKind.i64.wrap (1 * 2 ^ min (↑net.length : Int).toNat IntKind.i64.bits)) && small (IntKind.i64.wrap (1 * 2 ^ min (↑net.length : Int).toNat IntKind.i64.bits)).toNat && true then (S.l10Lasts_L3 FUEL { n := 57, t := [(0, (.ro false (.ints .i64 net))), (3, (.own 0)), (4, (.int .i64 0))], h := [.row (.bools (List.replicate (IntKind.i64.wrap (1 * 2 ^ min (↑net.length : Int).toNat IntKind.i64.bits)).toNat false))] } (S.l10Lasts_k3 κ)) else none) by kernel_rfl) ?_
    refine cnd_congr ?_ ?_
    · refine (S.l10Lasts_L3_run net FUEL (0, List.replicate (IntKind.i64.wrap (1 * 2 ^ min (↑net.length : Int).toNat IntKind.i64.bits)).toNat false) (S.l10Lasts_k3 κ)).trans (optC_congr (fun qy_1 => ?_))
      refine Eq.trans (show (S.l10Lasts_k3 κ (.exit 0) { n := 57, t := [(0, (.ro false (.ints .i64 net))), (3, (.own 0))], h := [.row (.bools qy_1)] }) = (S.l10Lasts_L7 FUEL { n := 57, t := [(0, (.ro false (.ints .i64 net))), (3, (.own 0)), (5, (.bool true))], h := [.row (.bools qy_1)] } (S.l10Lasts_k7 κ)) by kernel_rfl) ?_
      refine (S.l10Lasts_L7_run net FUEL (true, qy_1) (S.l10Lasts_k7 κ)).trans (optC_congr (fun qy_5 => ?_))
      kernel_rfl
    · kernel_rfl
  rw [hu]
  exact (S.l10Lasts_tree_nat (fun o => optC o (fun (r : List Bool) => κ (.own 0) [.row (.bools r)]) none) net (fun d => some d) none).symm
noncomputable def S.l10Lasts_s : D.Spec where
  keep := false
  pure := false
  add := true
  ds := [.int .i64]
  sp := fun args h κ => match args, h with
    | [.ro false (.ints .i64 net)], [] => optC (S.l10Lasts_t net) (fun (r : List Bool) => κ (.own 0) [.row (.bools r)]) none
    | _, _ => none
theorem S.l10Lasts_ok : SpecOk Try.prog 62 S.l10Lasts_s := by
  refine SpecOk.of TDok mixed (T := S.l10Lasts_T) ?_ (ann := S.l10Lasts_ann) Try.func62 rfl (by decide +kernel) ?_ ?_ ?_ ?_
  · intro p hp
    simp only [S.l10Lasts_T, List.mem_cons, List.not_mem_nil, or_false] at hp
    rcases hp with rfl
    · exact S.l10Answer_ok
  · intro args h κ r hh
    simp only [S.l10Lasts_s] at hh
    split at hh
    · exact (S.l10Lasts_den _ κ).trans hh
    · cases hh
  · intro args h κ r hh
    simp only [S.l10Lasts_s] at hh ⊢
    split at hh
    · exact optC_law2 (F := fun (r : List Bool) κ => κ (.own 0) [.row (.bools r)]) (fun b κ r hb => ⟨_, _, hb, fun _ => rfl⟩) hh
    · cases hh
  · intro hh; cases hh
  · intro _ args h κ r hh
    simp only [S.l10Lasts_s] at hh
    split at hh
    · rfl
    · cases hh

-- loop.example/guardsonnets/spec.FewestAllEternal
noncomputable def S.FewestAllEternal_T : List (Nat × D.Spec) := [(29, S.NetOk_s), (62, S.l10Lasts_s), (61, S.l1Size_s)]
def S.FewestAllEternal_ann : Nat → List Nat × List Nat
  | 6 => ([3, 4, 5], [3])
  | _ => ([], [])
noncomputable def S.FewestAllEternal_F (args : List V) (h : List E) (κ : V → List E → R) : R := funC TD (tableK S.FewestAllEternal_T) S.FewestAllEternal_ann (drawOk TD (tableP S.FewestAllEternal_T)) FUEL Try.f43 args h κ
noncomputable def S.FewestAllEternal_L6 (n : Nat) (σ : St) (k : X → St → R) : R := iterC 0 (fun σ k => denC TD (tableK S.FewestAllEternal_T) S.FewestAllEternal_ann (drawOk TD (tableP S.FewestAllEternal_T)) 0 FUEL ((findLoop 6 (Try.f43.body.getD .skip)).getD .skip) σ k) [3, 4, 5] [3] n σ k
noncomputable def S.FewestAllEternal_k6 (κ : V → List E → R) : X → St → R := (afterC TD (tableK S.FewestAllEternal_T) S.FewestAllEternal_ann (drawOk TD (tableP S.FewestAllEternal_T)) 0 FUEL 6 (Try.f43.body.getD .skip) (finC TD 0 Try.f43 κ)).getD (fun _ _ => none)
noncomputable def S.FewestAllEternal_step6 {α : Type} (x3 : Int) (x5 : Int) (r0 : List Bool) (next_ : Int × Int × (List Bool) → α) (out0_ : Int → α) (fail_ : α) : α :=
  (bif decide (x5 < (↑r0.length : Int)) then (bif decide (0 ≤ x5) && decide (x5 < (↑r0.length : Int)) then (bif decide (x5.toNat < r0.length) then (bif elb r0 x5.toNat then (optC (S.l1Size_t x5) (fun c_3 => (next_ (if c_3 < x3 then c_3 else x3, IntKind.i64.wrap (x5 + 1), r0))) fail_) else (next_ (x3, IntKind.i64.wrap (x5 + 1), r0))) else fail_) else fail_) else (out0_ x3))
theorem S.FewestAllEternal_step6_nat {α γ : Type} (g : α → γ) (x3 : Int) (x5 : Int) (r0 : List Bool) (next_ : Int × Int × (List Bool) → α) (out0_ : Int → α) (fail_ : α) : g (S.FewestAllEternal_step6 x3 x5 r0 next_ out0_ fail_) = S.FewestAllEternal_step6 x3 x5 r0 (fun s => g (next_ s)) (fun d => g (out0_ d)) (g fail_) := by
  unfold S.FewestAllEternal_step6; simp only [apply_cnd g, apply_optC g, apply_sumC g]
noncomputable def S.FewestAllEternal_run6 : Nat → Int × Int × (List Bool) → Option (Int)
  | 0, _ => none
  | n + 1, s_ => S.FewestAllEternal_step6 s_.1 s_.2.1 s_.2.2 (S.FewestAllEternal_run6 n) (fun d => some d) none
theorem S.FewestAllEternal_L6_run (n : Nat) (s_ : Int × Int × (List Bool)) (k : X → St → R) : S.FewestAllEternal_L6 n { n := 28, t := [(3, (.int .i64 s_.1)), (4, (.own 0)), (5, (.int .i64 s_.2.1))], h := [.row (.bools s_.2.2)] } k = optC (S.FewestAllEternal_run6 n s_) (fun (r : Int) => k (.exit 0) { n := 28, t := [(3, (.int .i64 r))], h := [] }) none := by
  induction n generalizing s_ with
  | zero => rfl
  | succ n ih =>
    have hu : S.FewestAllEternal_L6 (n + 1) { n := 28, t := [(3, (.int .i64 s_.1)), (4, (.own 0)), (5, (.int .i64 s_.2.1))], h := [.row (.bools s_.2.2)] } k = S.FewestAllEternal_step6 s_.1 s_.2.1 s_.2.2 (fun s_ => S.FewestAllEternal_L6 n { n := 28, t := [(3, (.int .i64 s_.1)), (4, (.own 0)), (5, (.int .i64 s_.2.1))], h := [.row (.bools s_.2.2)] } k) (fun d => k (.exit 0) { n := 28, t := [(3, (.int .i64 d))], h := [] }) none := by
      kernel_rfl
    have hs : (fun s_ : Int × Int × (List Bool) => S.FewestAllEternal_L6 n { n := 28, t := [(3, (.int .i64 s_.1)), (4, (.own 0)), (5, (.int .i64 s_.2.1))], h := [.row (.bools s_.2.2)] } k) = fun s_ => optC (S.FewestAllEternal_run6 n s_) (fun (r : Int) => k (.exit 0) { n := 28, t := [(3, (.int .i64 r))], h := [] }) none := funext ih
    rw [hu, hs]
    exact (S.FewestAllEternal_step6_nat (fun o => optC o (fun (r : Int) => k (.exit 0) { n := 28, t := [(3, (.int .i64 r))], h := [] }) none) s_.1 s_.2.1 s_.2.2 (S.FewestAllEternal_run6 n) (fun d => some d) none).symm
noncomputable def S.FewestAllEternal_tree {α : Type} (net : List Int) (leaf0_ : Int → α) (fail_ : α) : α :=
  (optC (S.NetOk_t net) (fun c_1 => (bif !c_1 then (leaf0_ (-1)) else (optC (S.l10Lasts_t net) (fun c_2 => (optC (S.FewestAllEternal_run6 FUEL ((↑net.length : Int), 0, c_2)) (fun qy_4 => (leaf0_ qy_4)) fail_)) fail_))) fail_)
theorem S.FewestAllEternal_tree_nat {α γ : Type} (g : α → γ) (net : List Int) (leaf0_ : Int → α) (fail_ : α) : g (S.FewestAllEternal_tree net leaf0_ fail_) = S.FewestAllEternal_tree net (fun d => g (leaf0_ d)) (g fail_) := by
  unfold S.FewestAllEternal_tree; simp only [apply_cnd g, apply_optC g, apply_sumC g]
noncomputable def S.FewestAllEternal_t (net : List Int) : Option (Int) := S.FewestAllEternal_tree net (fun d => some d) none
theorem S.FewestAllEternal_den (net : List Int) (κ : V → List E → R) : S.FewestAllEternal_F [.ro false (.ints .i64 net)] [] κ = optC (S.FewestAllEternal_t net) (fun (r : Int) => κ (.int .i64 r) []) none := by
  have hu : S.FewestAllEternal_F [.ro false (.ints .i64 net)] [] κ = S.FewestAllEternal_tree net (fun d => κ (.int .i64 d) []) none := by
    refine Eq.trans (show S.FewestAllEternal_F [.ro false (.ints .i64 net)] [] κ = (optC (S.NetOk_t net) (fun c_1 => (bif !c_1 then (κ (.int .i64 (-1)) []) else (optC (S.l10Lasts_t net) (fun c_2 => (S.FewestAllEternal_L6 FUEL { n := 28, t := [(3, (.int .i64 ((↑net.length : Int)))), (4, (.own 0)), (5, (.int .i64 0))], h := [.row (.bools c_2)] } (S.FewestAllEternal_k6 κ))) none))) none) by kernel_rfl) ?_
    refine optC_congr (fun c_1 => ?_)
    refine cnd_congr ?_ ?_
    · kernel_rfl
    · refine optC_congr (fun c_2 => ?_)
      refine (S.FewestAllEternal_L6_run FUEL ((↑net.length : Int), 0, c_2) (S.FewestAllEternal_k6 κ)).trans (optC_congr (fun qy_4 => ?_))
      kernel_rfl
  rw [hu]
  exact (S.FewestAllEternal_tree_nat (fun o => optC o (fun (r : Int) => κ (.int .i64 r) []) none) net (fun d => some d) none).symm
noncomputable def S.FewestAllEternal_s : D.Spec where
  keep := false
  pure := true
  add := true
  ds := [.int .i64]
  sp := fun args h κ => match args, h with
    | [.ro false (.ints .i64 net)], [] => optC (S.FewestAllEternal_t net) (fun (r : Int) => κ (.int .i64 r) []) none
    | _, _ => none
theorem S.FewestAllEternal_ok : SpecOk Try.prog 43 S.FewestAllEternal_s := by
  refine SpecOk.of TDok mixed (T := S.FewestAllEternal_T) ?_ (ann := S.FewestAllEternal_ann) Try.func43 rfl (by decide +kernel) ?_ ?_ ?_ ?_
  · intro p hp
    simp only [S.FewestAllEternal_T, List.mem_cons, List.not_mem_nil, or_false] at hp
    rcases hp with rfl | rfl | rfl
    · exact S.NetOk_ok
    · exact S.l10Lasts_ok
    · exact S.l1Size_ok
  · intro args h κ r hh
    simp only [S.FewestAllEternal_s] at hh
    split at hh
    · exact (S.FewestAllEternal_den _ κ).trans hh
    · cases hh
  · intro args h κ r hh
    simp only [S.FewestAllEternal_s] at hh ⊢
    split at hh
    · exact optC_law2 (F := fun (r : Int) κ => κ (.int .i64 r) []) (fun b κ r hb => ⟨_, _, hb, fun _ => rfl⟩) hh
    · cases hh
  · intro _ args h κ r hh
    simp only [S.FewestAllEternal_s] at hh
    split at hh
    · exact ⟨rfl, fun _ => rfl⟩
    · cases hh
  · intro _ args h κ r hh
    simp only [S.FewestAllEternal_s] at hh
    split at hh
    · rfl
    · cases hh

-- loop.example/guardsonnets/spec.l4Apart
noncomputable def S.l4Apart_T : List (Nat × D.Spec) := [(73, S.l1Near_s)]
def S.l4Apart_ann : Nat → List Nat × List Nat
  | _ => ([], [])
noncomputable def S.l4Apart_F (args : List V) (h : List E) (κ : V → List E → R) : R := funC TD (tableK S.l4Apart_T) S.l4Apart_ann (drawOk TD (tableP S.l4Apart_T)) FUEL Try.f63 args h κ
noncomputable def S.l4Apart_tree {α : Type} (net : List Int) (set_ : Int) (leaf0_ : Bool → α) (fail_ : α) : α :=
  (optC (S.l1Near_t net set_) (fun c_1 => (leaf0_ (bits BinOp.and IntKind.i64 c_1 set_ == 0))) fail_)
theorem S.l4Apart_tree_nat {α γ : Type} (g : α → γ) (net : List Int) (set_ : Int) (leaf0_ : Bool → α) (fail_ : α) : g (S.l4Apart_tree net set_ leaf0_ fail_) = S.l4Apart_tree net set_ (fun d => g (leaf0_ d)) (g fail_) := by
  unfold S.l4Apart_tree; simp only [apply_cnd g, apply_optC g, apply_sumC g]
noncomputable def S.l4Apart_t (net : List Int) (set_ : Int) : Option (Bool) := S.l4Apart_tree net set_ (fun d => some d) none
theorem S.l4Apart_den (net : List Int) (set_ : Int) (κ : V → List E → R) : S.l4Apart_F [.ro false (.ints .i64 net), .int .i64 set_] [] κ = optC (S.l4Apart_t net set_) (fun (r : Bool) => κ (.bool r) []) none := by
  have hu : S.l4Apart_F [.ro false (.ints .i64 net), .int .i64 set_] [] κ = S.l4Apart_tree net set_ (fun d => κ (.bool d) []) none := by
    kernel_rfl
  rw [hu]
  exact (S.l4Apart_tree_nat (fun o => optC o (fun (r : Bool) => κ (.bool r) []) none) net set_ (fun d => some d) none).symm
noncomputable def S.l4Apart_s : D.Spec where
  keep := false
  pure := true
  add := true
  ds := [.int .i64, .invalid]
  sp := fun args h κ => match args, h with
    | [.ro false (.ints .i64 net), .int .i64 set_], [] => optC (S.l4Apart_t net set_) (fun (r : Bool) => κ (.bool r) []) none
    | _, _ => none
theorem S.l4Apart_ok : SpecOk Try.prog 63 S.l4Apart_s := by
  refine SpecOk.of TDok mixed (T := S.l4Apart_T) ?_ (ann := S.l4Apart_ann) Try.func63 rfl (by decide +kernel) ?_ ?_ ?_ ?_
  · intro p hp
    simp only [S.l4Apart_T, List.mem_cons, List.not_mem_nil, or_false] at hp
    rcases hp with rfl
    · exact S.l1Near_ok
  · intro args h κ r hh
    simp only [S.l4Apart_s] at hh
    split at hh
    · exact (S.l4Apart_den _ _ κ).trans hh
    · cases hh
  · intro args h κ r hh
    simp only [S.l4Apart_s] at hh ⊢
    split at hh
    · exact optC_law2 (F := fun (r : Bool) κ => κ (.bool r) []) (fun b κ r hb => ⟨_, _, hb, fun _ => rfl⟩) hh
    · cases hh
  · intro _ args h κ r hh
    simp only [S.l4Apart_s] at hh
    split at hh
    · exact ⟨rfl, fun _ => rfl⟩
    · cases hh
  · intro _ args h κ r hh
    simp only [S.l4Apart_s] at hh
    split at hh
    · rfl
    · cases hh

-- loop.example/guardsonnets/spec.MostApart
noncomputable def S.MostApart_T : List (Nat × D.Spec) := [(29, S.NetOk_s), (63, S.l4Apart_s), (61, S.l1Size_s)]
def S.MostApart_ann : Nat → List Nat × List Nat
  | 5 => ([0, 3, 4], [3])
  | _ => ([], [])
noncomputable def S.MostApart_F (args : List V) (h : List E) (κ : V → List E → R) : R := funC TD (tableK S.MostApart_T) S.MostApart_ann (drawOk TD (tableP S.MostApart_T)) FUEL Try.f44 args h κ
noncomputable def S.MostApart_L5 (n : Nat) (σ : St) (k : X → St → R) : R := iterC 0 (fun σ k => denC TD (tableK S.MostApart_T) S.MostApart_ann (drawOk TD (tableP S.MostApart_T)) 0 FUEL ((findLoop 5 (Try.f44.body.getD .skip)).getD .skip) σ k) [0, 3, 4] [3] n σ k
noncomputable def S.MostApart_k5 (κ : V → List E → R) : X → St → R := (afterC TD (tableK S.MostApart_T) S.MostApart_ann (drawOk TD (tableP S.MostApart_T)) 0 FUEL 5 (Try.f44.body.getD .skip) (finC TD 0 Try.f44 κ)).getD (fun _ _ => none)
noncomputable def S.MostApart_step5 {α : Type} (x0 : List Int) (x3 : Int) (x4 : Int) (next_ : Int × Int → α) (out0_ : Int → α) (fail_ : α) : α :=
  (bif decide (x4 < IntKind.i64.wrap (1 * 2 ^ min (↑x0.length : Int).toNat IntKind.i64.bits)) then (optC (S.l4Apart_t x0 x4) (fun c_2 => (bif c_2 then (optC (S.l1Size_t x4) (fun c_3 => (next_ (if c_3 > x3 then c_3 else x3, IntKind.i64.wrap (x4 + 1)))) fail_) else (next_ (x3, IntKind.i64.wrap (x4 + 1))))) fail_) else (out0_ x3))
theorem S.MostApart_step5_nat {α γ : Type} (g : α → γ) (x0 : List Int) (x3 : Int) (x4 : Int) (next_ : Int × Int → α) (out0_ : Int → α) (fail_ : α) : g (S.MostApart_step5 x0 x3 x4 next_ out0_ fail_) = S.MostApart_step5 x0 x3 x4 (fun s => g (next_ s)) (fun d => g (out0_ d)) (g fail_) := by
  unfold S.MostApart_step5; simp only [apply_cnd g, apply_optC g, apply_sumC g]
noncomputable def S.MostApart_run5 (x0 : List Int) : Nat → Int × Int → Option (Int)
  | 0, _ => none
  | n + 1, s_ => S.MostApart_step5 x0 s_.1 s_.2 (S.MostApart_run5 x0 n) (fun d => some d) none
theorem S.MostApart_L5_run (x0 : List Int) (n : Nat) (s_ : Int × Int) (k : X → St → R) : S.MostApart_L5 n { n := 23, t := [(0, (.ro false (.ints .i64 x0))), (3, (.int .i64 s_.1)), (4, (.int .i64 s_.2))], h := [] } k = optC (S.MostApart_run5 x0 n s_) (fun (r : Int) => k (.exit 0) { n := 23, t := [(3, (.int .i64 r))], h := [] }) none := by
  induction n generalizing s_ with
  | zero => rfl
  | succ n ih =>
    have hu : S.MostApart_L5 (n + 1) { n := 23, t := [(0, (.ro false (.ints .i64 x0))), (3, (.int .i64 s_.1)), (4, (.int .i64 s_.2))], h := [] } k = S.MostApart_step5 x0 s_.1 s_.2 (fun s_ => S.MostApart_L5 n { n := 23, t := [(0, (.ro false (.ints .i64 x0))), (3, (.int .i64 s_.1)), (4, (.int .i64 s_.2))], h := [] } k) (fun d => k (.exit 0) { n := 23, t := [(3, (.int .i64 d))], h := [] }) none := by
      kernel_rfl
    have hs : (fun s_ : Int × Int => S.MostApart_L5 n { n := 23, t := [(0, (.ro false (.ints .i64 x0))), (3, (.int .i64 s_.1)), (4, (.int .i64 s_.2))], h := [] } k) = fun s_ => optC (S.MostApart_run5 x0 n s_) (fun (r : Int) => k (.exit 0) { n := 23, t := [(3, (.int .i64 r))], h := [] }) none := funext ih
    rw [hu, hs]
    exact (S.MostApart_step5_nat (fun o => optC o (fun (r : Int) => k (.exit 0) { n := 23, t := [(3, (.int .i64 r))], h := [] }) none) x0 s_.1 s_.2 (S.MostApart_run5 x0 n) (fun d => some d) none).symm
noncomputable def S.MostApart_tree {α : Type} (net : List Int) (leaf0_ : Int → α) (fail_ : α) : α :=
  (optC (S.NetOk_t net) (fun c_1 => (bif !c_1 then (leaf0_ (-1)) else (optC (S.MostApart_run5 net FUEL (0, 0)) (fun qy_4 => (leaf0_ qy_4)) fail_))) fail_)
theorem S.MostApart_tree_nat {α γ : Type} (g : α → γ) (net : List Int) (leaf0_ : Int → α) (fail_ : α) : g (S.MostApart_tree net leaf0_ fail_) = S.MostApart_tree net (fun d => g (leaf0_ d)) (g fail_) := by
  unfold S.MostApart_tree; simp only [apply_cnd g, apply_optC g, apply_sumC g]
noncomputable def S.MostApart_t (net : List Int) : Option (Int) := S.MostApart_tree net (fun d => some d) none
theorem S.MostApart_den (net : List Int) (κ : V → List E → R) : S.MostApart_F [.ro false (.ints .i64 net)] [] κ = optC (S.MostApart_t net) (fun (r : Int) => κ (.int .i64 r) []) none := by
  have hu : S.MostApart_F [.ro false (.ints .i64 net)] [] κ = S.MostApart_tree net (fun d => κ (.int .i64 d) []) none := by
    refine Eq.trans (show S.MostApart_F [.ro false (.ints .i64 net)] [] κ = (optC (S.NetOk_t net) (fun c_1 => (bif !c_1 then (κ (.int .i64 (-1)) []) else (S.MostApart_L5 FUEL { n := 23, t := [(0, (.ro false (.ints .i64 net))), (3, (.int .i64 0)), (4, (.int .i64 0))], h := [] } (S.MostApart_k5 κ)))) none) by kernel_rfl) ?_
    refine optC_congr (fun c_1 => ?_)
    refine cnd_congr ?_ ?_
    · kernel_rfl
    · refine (S.MostApart_L5_run net FUEL (0, 0) (S.MostApart_k5 κ)).trans (optC_congr (fun qy_4 => ?_))
      kernel_rfl
  rw [hu]
  exact (S.MostApart_tree_nat (fun o => optC o (fun (r : Int) => κ (.int .i64 r) []) none) net (fun d => some d) none).symm
noncomputable def S.MostApart_s : D.Spec where
  keep := false
  pure := true
  add := true
  ds := [.int .i64]
  sp := fun args h κ => match args, h with
    | [.ro false (.ints .i64 net)], [] => optC (S.MostApart_t net) (fun (r : Int) => κ (.int .i64 r) []) none
    | _, _ => none
theorem S.MostApart_ok : SpecOk Try.prog 44 S.MostApart_s := by
  refine SpecOk.of TDok mixed (T := S.MostApart_T) ?_ (ann := S.MostApart_ann) Try.func44 rfl (by decide +kernel) ?_ ?_ ?_ ?_
  · intro p hp
    simp only [S.MostApart_T, List.mem_cons, List.not_mem_nil, or_false] at hp
    rcases hp with rfl | rfl | rfl
    · exact S.NetOk_ok
    · exact S.l4Apart_ok
    · exact S.l1Size_ok
  · intro args h κ r hh
    simp only [S.MostApart_s] at hh
    split at hh
    · exact (S.MostApart_den _ κ).trans hh
    · cases hh
  · intro args h κ r hh
    simp only [S.MostApart_s] at hh ⊢
    split at hh
    · exact optC_law2 (F := fun (r : Int) κ => κ (.int .i64 r) []) (fun b κ r hb => ⟨_, _, hb, fun _ => rfl⟩) hh
    · cases hh
  · intro _ args h κ r hh
    simp only [S.MostApart_s] at hh
    split at hh
    · exact ⟨rfl, fun _ => rfl⟩
    · cases hh
  · intro _ args h κ r hh
    simp only [S.MostApart_s] at hh
    split at hh
    · rfl
    · cases hh

-- loop.example/guardsonnets/spec.l8Moved
noncomputable def S.l8Moved_T : List (Nat × D.Spec) := []
def S.l8Moved_ann : Nat → List Nat × List Nat
  | _ => ([], [])
noncomputable def S.l8Moved_F (args : List V) (h : List E) (κ : V → List E → R) : R := funC TD (tableK S.l8Moved_T) S.l8Moved_ann (drawOk TD (tableP S.l8Moved_T)) FUEL Try.f86 args h κ
noncomputable def S.l8Moved_tree {α : Type} (set_ : Int) (from_ : Int) (to_ : Int) (leaf0_ : Int → α) (fail_ : α) : α :=
  (bif decide (from_ < 0) then fail_ else (bif decide (to_ < 0) then fail_ else (leaf0_ (bits BinOp.or IntKind.i64 (bits BinOp.andNot IntKind.i64 set_ (IntKind.i64.wrap (1 * 2 ^ min from_.toNat IntKind.i64.bits))) (IntKind.i64.wrap (1 * 2 ^ min to_.toNat IntKind.i64.bits))))))
theorem S.l8Moved_tree_nat {α γ : Type} (g : α → γ) (set_ : Int) (from_ : Int) (to_ : Int) (leaf0_ : Int → α) (fail_ : α) : g (S.l8Moved_tree set_ from_ to_ leaf0_ fail_) = S.l8Moved_tree set_ from_ to_ (fun d => g (leaf0_ d)) (g fail_) := by
  unfold S.l8Moved_tree; simp only [apply_cnd g, apply_optC g, apply_sumC g]
noncomputable def S.l8Moved_t (set_ : Int) (from_ : Int) (to_ : Int) : Option (Int) := S.l8Moved_tree set_ from_ to_ (fun d => some d) none
theorem S.l8Moved_den (set_ : Int) (from_ : Int) (to_ : Int) (κ : V → List E → R) : S.l8Moved_F [.int .i64 set_, .int .i64 from_, .int .i64 to_] [] κ = optC (S.l8Moved_t set_ from_ to_) (fun (r : Int) => κ (.int .i64 r) []) none := by
  have hu : S.l8Moved_F [.int .i64 set_, .int .i64 from_, .int .i64 to_] [] κ = S.l8Moved_tree set_ from_ to_ (fun d => κ (.int .i64 d) []) none := by
    kernel_rfl
  rw [hu]
  exact (S.l8Moved_tree_nat (fun o => optC o (fun (r : Int) => κ (.int .i64 r) []) none) set_ from_ to_ (fun d => some d) none).symm
noncomputable def S.l8Moved_s : D.Spec where
  keep := false
  pure := true
  add := true
  ds := [.invalid, .invalid, .invalid]
  sp := fun args h κ => match args, h with
    | [.int .i64 set_, .int .i64 from_, .int .i64 to_], [] => optC (S.l8Moved_t set_ from_ to_) (fun (r : Int) => κ (.int .i64 r) []) none
    | _, _ => none
theorem S.l8Moved_ok : SpecOk Try.prog 86 S.l8Moved_s := by
  refine SpecOk.of TDok mixed (T := S.l8Moved_T) ?_ (ann := S.l8Moved_ann) Try.func86 rfl (by decide +kernel) ?_ ?_ ?_ ?_
  · intro p hp; cases hp
  · intro args h κ r hh
    simp only [S.l8Moved_s] at hh
    split at hh
    · exact (S.l8Moved_den _ _ _ κ).trans hh
    · cases hh
  · intro args h κ r hh
    simp only [S.l8Moved_s] at hh ⊢
    split at hh
    · exact optC_law2 (F := fun (r : Int) κ => κ (.int .i64 r) []) (fun b κ r hb => ⟨_, _, hb, fun _ => rfl⟩) hh
    · cases hh
  · intro _ args h κ r hh
    simp only [S.l8Moved_s] at hh
    split at hh
    · exact ⟨rfl, fun _ => rfl⟩
    · cases hh
  · intro _ args h κ r hh
    simp only [S.l8Moved_s] at hh
    split at hh
    · rfl
    · cases hh

-- loop.example/guardsonnets/spec.l9Answer
noncomputable def S.l9Answer_T : List (Nat × D.Spec) := [(86, S.l8Moved_s)]
def S.l9Answer_ann : Nat → List Nat × List Nat
  | 2 => ([0, 1, 2, 3, 9], [8])
  | _ => ([], [])
noncomputable def S.l9Answer_F (args : List V) (h : List E) (κ : V → List E → R) : R := funC TD (tableK S.l9Answer_T) S.l9Answer_ann (drawOk TD (tableP S.l9Answer_T)) FUEL Try.f84 args h κ
noncomputable def S.l9Answer_L2 (n : Nat) (σ : St) (k : X → St → R) : R := iterC 0 (fun σ k => denC TD (tableK S.l9Answer_T) S.l9Answer_ann (drawOk TD (tableP S.l9Answer_T)) 0 FUEL ((findLoop 2 (Try.f84.body.getD .skip)).getD .skip) σ k) [0, 1, 2, 3, 9] [8] n σ k
noncomputable def S.l9Answer_k2 (κ : V → List E → R) : X → St → R := (afterC TD (tableK S.l9Answer_T) S.l9Answer_ann (drawOk TD (tableP S.l9Answer_T)) 0 FUEL 2 (Try.f84.body.getD .skip) (finC TD 0 Try.f84 κ)).getD (fun _ _ => none)
noncomputable def S.l9Answer_step2 {α : Type} (x0 : List Int) (x1 : List Bool) (x2 : Int) (x3 : Int) (x9 : Int) (next_ : Int → α) (out0_ : Int → α) (out1_ : Unit → α) (fail_ : α) : α :=
  (bif decide (x9 < (↑x0.length : Int)) then (bif decide (x9 < 0) then fail_ else (bif (x2.fdiv (2 ^ min x9.toNat IntKind.i64.bits)).tmod 2 == 1 then (bif decide (0 ≤ x3) && decide (x3 < (↑x0.length : Int)) then (bif decide (x9 < 0) then fail_ else (bif ((eli x0 x3.toNat).fdiv (2 ^ min x9.toNat IntKind.i64.bits)).tmod 2 == 1 then (optC (S.l8Moved_t x2 x9 x3) (fun c_1 => (bif decide (0 ≤ c_1) && decide (c_1 < (↑x1.length : Int)) then (bif elb x1 c_1.toNat then (out0_ x9) else (next_ (IntKind.i64.wrap (x9 + 1)))) else fail_)) fail_) else (next_ (IntKind.i64.wrap (x9 + 1))))) else fail_) else (next_ (IntKind.i64.wrap (x9 + 1))))) else (out1_ ()))
theorem S.l9Answer_step2_nat {α γ : Type} (g : α → γ) (x0 : List Int) (x1 : List Bool) (x2 : Int) (x3 : Int) (x9 : Int) (next_ : Int → α) (out0_ : Int → α) (out1_ : Unit → α) (fail_ : α) : g (S.l9Answer_step2 x0 x1 x2 x3 x9 next_ out0_ out1_ fail_) = S.l9Answer_step2 x0 x1 x2 x3 x9 (fun s => g (next_ s)) (fun d => g (out0_ d)) (fun d => g (out1_ d)) (g fail_) := by
  unfold S.l9Answer_step2; simp only [apply_cnd g, apply_optC g, apply_sumC g]
noncomputable def S.l9Answer_run2 (x0 : List Int) (x1 : List Bool) (x2 : Int) (x3 : Int) : Nat → Int → Option ((Int) ⊕ (Unit))
  | 0, _ => none
  | n + 1, s_ => S.l9Answer_step2 x0 x1 x2 x3 s_ (S.l9Answer_run2 x0 x1 x2 x3 n) (fun d => some ((Sum.inl d))) (fun d => some ((Sum.inr d))) none
theorem S.l9Answer_L2_run (x0 : List Int) (x1 : List Bool) (x2 : Int) (x3 : Int) (n : Nat) (s_ : Int) (k : X → St → R) : S.l9Answer_L2 n { n := 41, t := [(0, (.ro false (.ints .i64 x0))), (1, (.ro false (.bools x1))), (2, (.int .i64 x2)), (3, (.int .i64 x3)), (9, (.int .i64 s_))], h := [] } k = optC (S.l9Answer_run2 x0 x1 x2 x3 n s_) (fun (r : (Int) ⊕ (Unit)) => (sumC r (fun (r : Int) => k (.ret) { n := 41, t := [(8, (.int .i64 r))], h := [] }) (fun (r : Unit) => k (.exit 0) { n := 41, t := [(8, .junk)], h := [] }))) none := by
  induction n generalizing s_ with
  | zero => rfl
  | succ n ih =>
    have hu : S.l9Answer_L2 (n + 1) { n := 41, t := [(0, (.ro false (.ints .i64 x0))), (1, (.ro false (.bools x1))), (2, (.int .i64 x2)), (3, (.int .i64 x3)), (9, (.int .i64 s_))], h := [] } k = S.l9Answer_step2 x0 x1 x2 x3 s_ (fun s_ => S.l9Answer_L2 n { n := 41, t := [(0, (.ro false (.ints .i64 x0))), (1, (.ro false (.bools x1))), (2, (.int .i64 x2)), (3, (.int .i64 x3)), (9, (.int .i64 s_))], h := [] } k) (fun d => k (.ret) { n := 41, t := [(8, (.int .i64 d))], h := [] }) (fun d => k (.exit 0) { n := 41, t := [(8, .junk)], h := [] }) none := by
      kernel_rfl
    have hs : (fun s_ : Int => S.l9Answer_L2 n { n := 41, t := [(0, (.ro false (.ints .i64 x0))), (1, (.ro false (.bools x1))), (2, (.int .i64 x2)), (3, (.int .i64 x3)), (9, (.int .i64 s_))], h := [] } k) = fun s_ => optC (S.l9Answer_run2 x0 x1 x2 x3 n s_) (fun (r : (Int) ⊕ (Unit)) => (sumC r (fun (r : Int) => k (.ret) { n := 41, t := [(8, (.int .i64 r))], h := [] }) (fun (r : Unit) => k (.exit 0) { n := 41, t := [(8, .junk)], h := [] }))) none := funext ih
    rw [hu, hs]
    exact (S.l9Answer_step2_nat (fun o => optC o (fun (r : (Int) ⊕ (Unit)) => (sumC r (fun (r : Int) => k (.ret) { n := 41, t := [(8, (.int .i64 r))], h := [] }) (fun (r : Unit) => k (.exit 0) { n := 41, t := [(8, .junk)], h := [] }))) none) x0 x1 x2 x3 s_ (S.l9Answer_run2 x0 x1 x2 x3 n) (fun d => some ((Sum.inl d))) (fun d => some ((Sum.inr d))) none).symm
noncomputable def S.l9Answer_tree {α : Type} (net : List Int) (lasts : List Bool) (set_ : Int) (to_ : Int) (leaf0_ : Int → α) (fail_ : α) : α :=
  (optC (S.l9Answer_run2 net lasts set_ to_ FUEL 0) (fun qy_2 => (sumC qy_2 (fun (qy_2 : Int) => (leaf0_ qy_2)) (fun (qy_2 : Unit) => (leaf0_ (-1))))) fail_)
theorem S.l9Answer_tree_nat {α γ : Type} (g : α → γ) (net : List Int) (lasts : List Bool) (set_ : Int) (to_ : Int) (leaf0_ : Int → α) (fail_ : α) : g (S.l9Answer_tree net lasts set_ to_ leaf0_ fail_) = S.l9Answer_tree net lasts set_ to_ (fun d => g (leaf0_ d)) (g fail_) := by
  unfold S.l9Answer_tree; simp only [apply_cnd g, apply_optC g, apply_sumC g]
noncomputable def S.l9Answer_t (net : List Int) (lasts : List Bool) (set_ : Int) (to_ : Int) : Option (Int) := S.l9Answer_tree net lasts set_ to_ (fun d => some d) none
theorem S.l9Answer_den (net : List Int) (lasts : List Bool) (set_ : Int) (to_ : Int) (κ : V → List E → R) : S.l9Answer_F [.ro false (.ints .i64 net), .ro false (.bools lasts), .int .i64 set_, .int .i64 to_] [] κ = optC (S.l9Answer_t net lasts set_ to_) (fun (r : Int) => κ (.int .i64 r) []) none := by
  have hu : S.l9Answer_F [.ro false (.ints .i64 net), .ro false (.bools lasts), .int .i64 set_, .int .i64 to_] [] κ = S.l9Answer_tree net lasts set_ to_ (fun d => κ (.int .i64 d) []) none := by
    refine Eq.trans (show S.l9Answer_F [.ro false (.ints .i64 net), .ro false (.bools lasts), .int .i64 set_, .int .i64 to_] [] κ = (S.l9Answer_L2 FUEL { n := 41, t := [(0, (.ro false (.ints .i64 net))), (1, (.ro false (.bools lasts))), (2, (.int .i64 set_)), (3, (.int .i64 to_)), (9, (.int .i64 0))], h := [] } (S.l9Answer_k2 κ)) by kernel_rfl) ?_
    refine (S.l9Answer_L2_run net lasts set_ to_ FUEL 0 (S.l9Answer_k2 κ)).trans (optC_congr (fun qy_2 => ?_))
    rcases qy_2 with qy_2 | qy_2
    · kernel_rfl
    · kernel_rfl
  rw [hu]
  exact (S.l9Answer_tree_nat (fun o => optC o (fun (r : Int) => κ (.int .i64 r) []) none) net lasts set_ to_ (fun d => some d) none).symm
noncomputable def S.l9Answer_s : D.Spec where
  keep := false
  pure := true
  add := true
  ds := [.int .i64, .bool, .invalid, .invalid]
  sp := fun args h κ => match args, h with
    | [.ro false (.ints .i64 net), .ro false (.bools lasts), .int .i64 set_, .int .i64 to_], [] => optC (S.l9Answer_t net lasts set_ to_) (fun (r : Int) => κ (.int .i64 r) []) none
    | _, _ => none
theorem S.l9Answer_ok : SpecOk Try.prog 84 S.l9Answer_s := by
  refine SpecOk.of TDok mixed (T := S.l9Answer_T) ?_ (ann := S.l9Answer_ann) Try.func84 rfl (by decide +kernel) ?_ ?_ ?_ ?_
  · intro p hp
    simp only [S.l9Answer_T, List.mem_cons, List.not_mem_nil, or_false] at hp
    rcases hp with rfl
    · exact S.l8Moved_ok
  · intro args h κ r hh
    simp only [S.l9Answer_s] at hh
    split at hh
    · exact (S.l9Answer_den _ _ _ _ κ).trans hh
    · cases hh
  · intro args h κ r hh
    simp only [S.l9Answer_s] at hh ⊢
    split at hh
    · exact optC_law2 (F := fun (r : Int) κ => κ (.int .i64 r) []) (fun b κ r hb => ⟨_, _, hb, fun _ => rfl⟩) hh
    · cases hh
  · intro _ args h κ r hh
    simp only [S.l9Answer_s] at hh
    split at hh
    · exact ⟨rfl, fun _ => rfl⟩
    · cases hh
  · intro _ args h κ r hh
    simp only [S.l9Answer_s] at hh
    split at hh
    · rfl
    · cases hh

-- loop.example/guardsonnets/spec.l9Holds
noncomputable def S.l9Holds_T : List (Nat × D.Spec) := [(84, S.l9Answer_s)]
def S.l9Holds_ann : Nat → List Nat × List Nat
  | 2 => ([0, 1, 2, 7], [1, 2, 6])
  | _ => ([], [])
noncomputable def S.l9Holds_F (args : List V) (h : List E) (κ : V → List E → R) : R := funC TD (tableK S.l9Holds_T) S.l9Holds_ann (drawOk TD (tableP S.l9Holds_T)) FUEL Try.f82 args h κ
noncomputable def S.l9Holds_L2 (n : Nat) (σ : St) (k : X → St → R) : R := iterC 0 (fun σ k => denC TD (tableK S.l9Holds_T) S.l9Holds_ann (drawOk TD (tableP S.l9Holds_T)) 0 FUEL ((findLoop 2 (Try.f82.body.getD .skip)).getD .skip) σ k) [0, 1, 2, 7] [1, 2, 6] n σ k
noncomputable def S.l9Holds_k2 (κ : V → List E → R) : X → St → R := (afterC TD (tableK S.l9Holds_T) S.l9Holds_ann (drawOk TD (tableP S.l9Holds_T)) 0 FUEL 2 (Try.f82.body.getD .skip) (finC TD 0 Try.f82 κ)).getD (fun _ _ => none)
noncomputable def S.l9Holds_step2 {α : Type} (x0 : List Int) (x1 : List Bool) (x2 : Int) (x7 : Int) (next_ : Int → α) (out0_ : Bool → α) (out1_ : Unit → α) (fail_ : α) : α :=
  (bif decide (x7 < (↑x0.length : Int)) then (bif decide (x7 < 0) then fail_ else (bif (x2.fdiv (2 ^ min x7.toNat IntKind.i64.bits)).tmod 2 == 0 then (optC (S.l9Answer_t x0 x1 x2 x7) (fun c_1 => (bif decide (c_1 < 0) then (out0_ false) else (next_ (IntKind.i64.wrap (x7 + 1))))) fail_) else (next_ (IntKind.i64.wrap (x7 + 1))))) else (out1_ ()))
theorem S.l9Holds_step2_nat {α γ : Type} (g : α → γ) (x0 : List Int) (x1 : List Bool) (x2 : Int) (x7 : Int) (next_ : Int → α) (out0_ : Bool → α) (out1_ : Unit → α) (fail_ : α) : g (S.l9Holds_step2 x0 x1 x2 x7 next_ out0_ out1_ fail_) = S.l9Holds_step2 x0 x1 x2 x7 (fun s => g (next_ s)) (fun d => g (out0_ d)) (fun d => g (out1_ d)) (g fail_) := by
  unfold S.l9Holds_step2; simp only [apply_cnd g, apply_optC g, apply_sumC g]
noncomputable def S.l9Holds_run2 (x0 : List Int) (x1 : List Bool) (x2 : Int) : Nat → Int → Option ((Bool) ⊕ (Unit))
  | 0, _ => none
  | n + 1, s_ => S.l9Holds_step2 x0 x1 x2 s_ (S.l9Holds_run2 x0 x1 x2 n) (fun d => some ((Sum.inl d))) (fun d => some ((Sum.inr d))) none
theorem S.l9Holds_L2_run (x0 : List Int) (x1 : List Bool) (x2 : Int) (n : Nat) (s_ : Int) (k : X → St → R) : S.l9Holds_L2 n { n := 31, t := [(0, (.ro false (.ints .i64 x0))), (1, (.ro false (.bools x1))), (2, (.int .i64 x2)), (7, (.int .i64 s_))], h := [] } k = optC (S.l9Holds_run2 x0 x1 x2 n s_) (fun (r : (Bool) ⊕ (Unit)) => (sumC r (fun (r : Bool) => k (.ret) { n := 31, t := [(1, (.ro false (.bools x1))), (2, (.int .i64 x2)), (6, (.bool r))], h := [] }) (fun (r : Unit) => k (.exit 0) { n := 31, t := [(1, (.ro false (.bools x1))), (2, (.int .i64 x2)), (6, .junk)], h := [] }))) none := by
  induction n generalizing s_ with
  | zero => rfl
  | succ n ih =>
    have hu : S.l9Holds_L2 (n + 1) { n := 31, t := [(0, (.ro false (.ints .i64 x0))), (1, (.ro false (.bools x1))), (2, (.int .i64 x2)), (7, (.int .i64 s_))], h := [] } k = S.l9Holds_step2 x0 x1 x2 s_ (fun s_ => S.l9Holds_L2 n { n := 31, t := [(0, (.ro false (.ints .i64 x0))), (1, (.ro false (.bools x1))), (2, (.int .i64 x2)), (7, (.int .i64 s_))], h := [] } k) (fun d => k (.ret) { n := 31, t := [(1, (.ro false (.bools x1))), (2, (.int .i64 x2)), (6, (.bool d))], h := [] }) (fun d => k (.exit 0) { n := 31, t := [(1, (.ro false (.bools x1))), (2, (.int .i64 x2)), (6, .junk)], h := [] }) none := by
      kernel_rfl
    have hs : (fun s_ : Int => S.l9Holds_L2 n { n := 31, t := [(0, (.ro false (.ints .i64 x0))), (1, (.ro false (.bools x1))), (2, (.int .i64 x2)), (7, (.int .i64 s_))], h := [] } k) = fun s_ => optC (S.l9Holds_run2 x0 x1 x2 n s_) (fun (r : (Bool) ⊕ (Unit)) => (sumC r (fun (r : Bool) => k (.ret) { n := 31, t := [(1, (.ro false (.bools x1))), (2, (.int .i64 x2)), (6, (.bool r))], h := [] }) (fun (r : Unit) => k (.exit 0) { n := 31, t := [(1, (.ro false (.bools x1))), (2, (.int .i64 x2)), (6, .junk)], h := [] }))) none := funext ih
    rw [hu, hs]
    exact (S.l9Holds_step2_nat (fun o => optC o (fun (r : (Bool) ⊕ (Unit)) => (sumC r (fun (r : Bool) => k (.ret) { n := 31, t := [(1, (.ro false (.bools x1))), (2, (.int .i64 x2)), (6, (.bool r))], h := [] }) (fun (r : Unit) => k (.exit 0) { n := 31, t := [(1, (.ro false (.bools x1))), (2, (.int .i64 x2)), (6, .junk)], h := [] }))) none) x0 x1 x2 s_ (S.l9Holds_run2 x0 x1 x2 n) (fun d => some ((Sum.inl d))) (fun d => some ((Sum.inr d))) none).symm
noncomputable def S.l9Holds_tree {α : Type} (net : List Int) (lasts : List Bool) (set_ : Int) (leaf0_ : Bool → α) (fail_ : α) : α :=
  (optC (S.l9Holds_run2 net lasts set_ FUEL 0) (fun qy_2 => (sumC qy_2 (fun (qy_2 : Bool) => (leaf0_ qy_2)) (fun (qy_2 : Unit) => (bif decide (0 ≤ set_) && decide (set_ < (↑lasts.length : Int)) then (leaf0_ (elb lasts set_.toNat)) else fail_)))) fail_)
theorem S.l9Holds_tree_nat {α γ : Type} (g : α → γ) (net : List Int) (lasts : List Bool) (set_ : Int) (leaf0_ : Bool → α) (fail_ : α) : g (S.l9Holds_tree net lasts set_ leaf0_ fail_) = S.l9Holds_tree net lasts set_ (fun d => g (leaf0_ d)) (g fail_) := by
  unfold S.l9Holds_tree; simp only [apply_cnd g, apply_optC g, apply_sumC g]
noncomputable def S.l9Holds_t (net : List Int) (lasts : List Bool) (set_ : Int) : Option (Bool) := S.l9Holds_tree net lasts set_ (fun d => some d) none
theorem S.l9Holds_den (net : List Int) (lasts : List Bool) (set_ : Int) (κ : V → List E → R) : S.l9Holds_F [.ro false (.ints .i64 net), .ro false (.bools lasts), .int .i64 set_] [] κ = optC (S.l9Holds_t net lasts set_) (fun (r : Bool) => κ (.bool r) []) none := by
  have hu : S.l9Holds_F [.ro false (.ints .i64 net), .ro false (.bools lasts), .int .i64 set_] [] κ = S.l9Holds_tree net lasts set_ (fun d => κ (.bool d) []) none := by
    refine Eq.trans (show S.l9Holds_F [.ro false (.ints .i64 net), .ro false (.bools lasts), .int .i64 set_] [] κ = (S.l9Holds_L2 FUEL { n := 31, t := [(0, (.ro false (.ints .i64 net))), (1, (.ro false (.bools lasts))), (2, (.int .i64 set_)), (7, (.int .i64 0))], h := [] } (S.l9Holds_k2 κ)) by kernel_rfl) ?_
    refine (S.l9Holds_L2_run net lasts set_ FUEL 0 (S.l9Holds_k2 κ)).trans (optC_congr (fun qy_2 => ?_))
    rcases qy_2 with qy_2 | qy_2
    · kernel_rfl
    · kernel_rfl
  rw [hu]
  exact (S.l9Holds_tree_nat (fun o => optC o (fun (r : Bool) => κ (.bool r) []) none) net lasts set_ (fun d => some d) none).symm
noncomputable def S.l9Holds_s : D.Spec where
  keep := false
  pure := true
  add := true
  ds := [.int .i64, .bool, .invalid]
  sp := fun args h κ => match args, h with
    | [.ro false (.ints .i64 net), .ro false (.bools lasts), .int .i64 set_], [] => optC (S.l9Holds_t net lasts set_) (fun (r : Bool) => κ (.bool r) []) none
    | _, _ => none
theorem S.l9Holds_ok : SpecOk Try.prog 82 S.l9Holds_s := by
  refine SpecOk.of TDok mixed (T := S.l9Holds_T) ?_ (ann := S.l9Holds_ann) Try.func82 rfl (by decide +kernel) ?_ ?_ ?_ ?_
  · intro p hp
    simp only [S.l9Holds_T, List.mem_cons, List.not_mem_nil, or_false] at hp
    rcases hp with rfl
    · exact S.l9Answer_ok
  · intro args h κ r hh
    simp only [S.l9Holds_s] at hh
    split at hh
    · exact (S.l9Holds_den _ _ _ κ).trans hh
    · cases hh
  · intro args h κ r hh
    simp only [S.l9Holds_s] at hh ⊢
    split at hh
    · exact optC_law2 (F := fun (r : Bool) κ => κ (.bool r) []) (fun b κ r hb => ⟨_, _, hb, fun _ => rfl⟩) hh
    · cases hh
  · intro _ args h κ r hh
    simp only [S.l9Holds_s] at hh
    split at hh
    · exact ⟨rfl, fun _ => rfl⟩
    · cases hh
  · intro _ args h κ r hh
    simp only [S.l9Holds_s] at hh
    split at hh
    · rfl
    · cases hh

-- loop.example/guardsonnets/spec.l9Lasts
noncomputable def S.l9Lasts_T : List (Nat × D.Spec) := [(82, S.l9Holds_s)]
def S.l9Lasts_ann : Nat → List Nat × List Nat
  | 10 => ([0, 3, 5, 6], [0, 3, 5])
  | 7 => ([0, 3, 5], [3])
  | 3 => ([0, 3, 4], [0, 3])
  | _ => ([], [])
noncomputable def S.l9Lasts_F (args : List V) (h : List E) (κ : V → List E → R) : R := funC TD (tableK S.l9Lasts_T) S.l9Lasts_ann (drawOk TD (tableP S.l9Lasts_T)) FUEL Try.f75 args h κ
noncomputable def S.l9Lasts_L10 (n : Nat) (σ : St) (k : X → St → R) : R := iterC 0 (fun σ k => denC TD (tableK S.l9Lasts_T) S.l9Lasts_ann (drawOk TD (tableP S.l9Lasts_T)) 0 FUEL ((findLoop 10 (Try.f75.body.getD .skip)).getD .skip) σ k) [0, 3, 5, 6] [0, 3, 5] n σ k
noncomputable def S.l9Lasts_L7 (n : Nat) (σ : St) (k : X → St → R) : R := iterC 0 (fun σ k => denC TD (tableK S.l9Lasts_T) S.l9Lasts_ann (drawOk TD (tableP S.l9Lasts_T)) 0 FUEL ((findLoop 7 (Try.f75.body.getD .skip)).getD .skip) σ k) [0, 3, 5] [3] n σ k
noncomputable def S.l9Lasts_L3 (n : Nat) (σ : St) (k : X → St → R) : R := iterC 0 (fun σ k => denC TD (tableK S.l9Lasts_T) S.l9Lasts_ann (drawOk TD (tableP S.l9Lasts_T)) 0 FUEL ((findLoop 3 (Try.f75.body.getD .skip)).getD .skip) σ k) [0, 3, 4] [0, 3] n σ k
noncomputable def S.l9Lasts_k3 (κ : V → List E → R) : X → St → R := (afterC TD (tableK S.l9Lasts_T) S.l9Lasts_ann (drawOk TD (tableP S.l9Lasts_T)) 0 FUEL 3 (Try.f75.body.getD .skip) (finC TD 0 Try.f75 κ)).getD (fun _ _ => none)
noncomputable def S.l9Lasts_k10 (c : (St → R) × (X → St → R)) : X → St → R := (afterC TD (tableK S.l9Lasts_T) S.l9Lasts_ann (drawOk TD (tableP S.l9Lasts_T)) 0 FUEL 10 ((findLoop 7 (Try.f75.body.getD .skip)).getD .skip) (roundC 0 [0, 3, 5] [3] c.1 c.2)).getD (fun _ _ => none)
noncomputable def S.l9Lasts_k7 (κ : V → List E → R) : X → St → R := (afterC TD (tableK S.l9Lasts_T) S.l9Lasts_ann (drawOk TD (tableP S.l9Lasts_T)) 0 FUEL 7 (Try.f75.body.getD .skip) (finC TD 0 Try.f75 κ)).getD (fun _ _ => none)
noncomputable def S.l9Lasts_step3 {α : Type} (x0 : List Int) (x4 : Int) (r0 : List Bool) (next_ : Int × (List Bool) → α) (out0_ : List Bool → α) (fail_ : α) : α :=
  (bif decide (x4 < (↑r0.length : Int)) then (bif decide (0 ≤ x4) && decide (x4 < (↑r0.length : Int)) then (bif decide (x4.toNat < r0.length) then (next_ (IntKind.i64.wrap (x4 + 1), r0.set x4.toNat true)) else fail_) else fail_) else (out0_ r0))
theorem S.l9Lasts_step3_nat {α γ : Type} (g : α → γ) (x0 : List Int) (x4 : Int) (r0 : List Bool) (next_ : Int × (List Bool) → α) (out0_ : List Bool → α) (fail_ : α) : g (S.l9Lasts_step3 x0 x4 r0 next_ out0_ fail_) = S.l9Lasts_step3 x0 x4 r0 (fun s => g (next_ s)) (fun d => g (out0_ d)) (g fail_) := by
  unfold S.l9Lasts_step3; simp only [apply_cnd g, apply_optC g, apply_sumC g]
noncomputable def S.l9Lasts_run3 (x0 : List Int) : Nat → Int × (List Bool) → Option (List Bool)
  | 0, _ => none
  | n + 1, s_ => S.l9Lasts_step3 x0 s_.1 s_.2 (S.l9Lasts_run3 x0 n) (fun d => some d) none
theorem S.l9Lasts_L3_run (x0 : List Int) (n : Nat) (s_ : Int × (List Bool)) (k : X → St → R) : S.l9Lasts_L3 n { n := 42, t := [(0, (.ro false (.ints .i64 x0))), (3, (.own 0)), (4, (.int .i64 s_.1))], h := [.row (.bools s_.2)] } k = optC (S.l9Lasts_run3 x0 n s_) (fun (r : List Bool) => k (.exit 0) { n := 42, t := [(0, (.ro false (.ints .i64 x0))), (3, (.own 0))], h := [.row (.bools r)] }) none := by
  induction n generalizing s_ with
  | zero => rfl
  | succ n ih =>
    have hu : S.l9Lasts_L3 (n + 1) { n := 42, t := [(0, (.ro false (.ints .i64 x0))), (3, (.own 0)), (4, (.int .i64 s_.1))], h := [.row (.bools s_.2)] } k = S.l9Lasts_step3 x0 s_.1 s_.2 (fun s_ => S.l9Lasts_L3 n { n := 42, t := [(0, (.ro false (.ints .i64 x0))), (3, (.own 0)), (4, (.int .i64 s_.1))], h := [.row (.bools s_.2)] } k) (fun d => k (.exit 0) { n := 42, t := [(0, (.ro false (.ints .i64 x0))), (3, (.own 0))], h := [.row (.bools d)] }) none := by
      kernel_rfl
    have hs : (fun s_ : Int × (List Bool) => S.l9Lasts_L3 n { n := 42, t := [(0, (.ro false (.ints .i64 x0))), (3, (.own 0)), (4, (.int .i64 s_.1))], h := [.row (.bools s_.2)] } k) = fun s_ => optC (S.l9Lasts_run3 x0 n s_) (fun (r : List Bool) => k (.exit 0) { n := 42, t := [(0, (.ro false (.ints .i64 x0))), (3, (.own 0))], h := [.row (.bools r)] }) none := funext ih
    rw [hu, hs]
    exact (S.l9Lasts_step3_nat (fun o => optC o (fun (r : List Bool) => k (.exit 0) { n := 42, t := [(0, (.ro false (.ints .i64 x0))), (3, (.own 0))], h := [.row (.bools r)] }) none) x0 s_.1 s_.2 (S.l9Lasts_run3 x0 n) (fun d => some d) none).symm
noncomputable def S.l9Lasts_step10 {α : Type} (x0 : List Int) (x5 : Bool) (x6 : Int) (r0 : List Bool) (next_ : Bool × Int × (List Bool) → α) (out0_ : Bool × (List Bool) → α) (fail_ : α) : α :=
  (bif decide (x6 < (↑r0.length : Int)) then (bif decide (0 ≤ x6) && decide (x6 < (↑r0.length : Int)) then (bif decide (x6.toNat < r0.length) then (bif elb r0 x6.toNat then (optC (S.l9Holds_t x0 r0 x6) (fun c_2 => (bif !c_2 then (bif decide (0 ≤ x6) && decide (x6 < (↑r0.length : Int)) then (bif decide (x6.toNat < r0.length) then (next_ (true, IntKind.i64.wrap (x6 + 1), r0.set x6.toNat false)) else fail_) else fail_) else (next_ (x5, IntKind.i64.wrap (x6 + 1), r0)))) fail_) else (next_ (x5, IntKind.i64.wrap (x6 + 1), r0))) else fail_) else fail_) else (out0_ (x5, r0)))
theorem S.l9Lasts_step10_nat {α γ : Type} (g : α → γ) (x0 : List Int) (x5 : Bool) (x6 : Int) (r0 : List Bool) (next_ : Bool × Int × (List Bool) → α) (out0_ : Bool × (List Bool) → α) (fail_ : α) : g (S.l9Lasts_step10 x0 x5 x6 r0 next_ out0_ fail_) = S.l9Lasts_step10 x0 x5 x6 r0 (fun s => g (next_ s)) (fun d => g (out0_ d)) (g fail_) := by
  unfold S.l9Lasts_step10; simp only [apply_cnd g, apply_optC g, apply_sumC g]
noncomputable def S.l9Lasts_run10 (x0 : List Int) : Nat → Bool × Int × (List Bool) → Option (Bool × (List Bool))
  | 0, _ => none
  | n + 1, s_ => S.l9Lasts_step10 x0 s_.1 s_.2.1 s_.2.2 (S.l9Lasts_run10 x0 n) (fun d => some d) none
theorem S.l9Lasts_L10_run (x0 : List Int) (n : Nat) (s_ : Bool × Int × (List Bool)) (k : X → St → R) : S.l9Lasts_L10 n { n := 42, t := [(0, (.ro false (.ints .i64 x0))), (3, (.own 0)), (5, (.bool s_.1)), (6, (.int .i64 s_.2.1))], h := [.row (.bools s_.2.2)] } k = optC (S.l9Lasts_run10 x0 n s_) (fun (r : Bool × (List Bool)) => k (.exit 4) { n := 42, t := [(0, (.ro false (.ints .i64 x0))), (3, (.own 0)), (5, (.bool r.1))], h := [.row (.bools r.2)] }) none := by
  induction n generalizing s_ with
  | zero => rfl
  | succ n ih =>
    have hu : S.l9Lasts_L10 (n + 1) { n := 42, t := [(0, (.ro false (.ints .i64 x0))), (3, (.own 0)), (5, (.bool s_.1)), (6, (.int .i64 s_.2.1))], h := [.row (.bools s_.2.2)] } k = S.l9Lasts_step10 x0 s_.1 s_.2.1 s_.2.2 (fun s_ => S.l9Lasts_L10 n { n := 42, t := [(0, (.ro false (.ints .i64 x0))), (3, (.own 0)), (5, (.bool s_.1)), (6, (.int .i64 s_.2.1))], h := [.row (.bools s_.2.2)] } k) (fun d => k (.exit 4) { n := 42, t := [(0, (.ro false (.ints .i64 x0))), (3, (.own 0)), (5, (.bool d.1))], h := [.row (.bools d.2)] }) none := by
      kernel_rfl
    have hs : (fun s_ : Bool × Int × (List Bool) => S.l9Lasts_L10 n { n := 42, t := [(0, (.ro false (.ints .i64 x0))), (3, (.own 0)), (5, (.bool s_.1)), (6, (.int .i64 s_.2.1))], h := [.row (.bools s_.2.2)] } k) = fun s_ => optC (S.l9Lasts_run10 x0 n s_) (fun (r : Bool × (List Bool)) => k (.exit 4) { n := 42, t := [(0, (.ro false (.ints .i64 x0))), (3, (.own 0)), (5, (.bool r.1))], h := [.row (.bools r.2)] }) none := funext ih
    rw [hu, hs]
    exact (S.l9Lasts_step10_nat (fun o => optC o (fun (r : Bool × (List Bool)) => k (.exit 4) { n := 42, t := [(0, (.ro false (.ints .i64 x0))), (3, (.own 0)), (5, (.bool r.1))], h := [.row (.bools r.2)] }) none) x0 s_.1 s_.2.1 s_.2.2 (S.l9Lasts_run10 x0 n) (fun d => some d) none).symm
noncomputable def S.l9Lasts_step7 {α : Type} (x0 : List Int) (x5 : Bool) (r0 : List Bool) (next_ : Bool × (List Bool) → α) (out0_ : List Bool → α) (fail_ : α) : α :=
  (bif x5 then (optC (S.l9Lasts_run10 x0 FUEL (false, 0, r0)) (fun qy_3 => (next_ (qy_3.1, qy_3.2))) fail_) else (out0_ r0))
theorem S.l9Lasts_step7_nat {α γ : Type} (g : α → γ) (x0 : List Int) (x5 : Bool) (r0 : List Bool) (next_ : Bool × (List Bool) → α) (out0_ : List Bool → α) (fail_ : α) : g (S.l9Lasts_step7 x0 x5 r0 next_ out0_ fail_) = S.l9Lasts_step7 x0 x5 r0 (fun s => g (next_ s)) (fun d => g (out0_ d)) (g fail_) := by
  unfold S.l9Lasts_step7; simp only [apply_cnd g, apply_optC g, apply_sumC g]
noncomputable def S.l9Lasts_run7 (x0 : List Int) : Nat → Bool × (List Bool) → Option (List Bool)
  | 0, _ => none
  | n + 1, s_ => S.l9Lasts_step7 x0 s_.1 s_.2 (S.l9Lasts_run7 x0 n) (fun d => some d) none
theorem S.l9Lasts_L7_run (x0 : List Int) (n : Nat) (s_ : Bool × (List Bool)) (k : X → St → R) : S.l9Lasts_L7 n { n := 42, t := [(0, (.ro false (.ints .i64 x0))), (3, (.own 0)), (5, (.bool s_.1))], h := [.row (.bools s_.2)] } k = optC (S.l9Lasts_run7 x0 n s_) (fun (r : List Bool) => k (.exit 2) { n := 42, t := [(3, (.own 0))], h := [.row (.bools r)] }) none := by
  induction n generalizing s_ with
  | zero => rfl
  | succ n ih =>
    have hu : S.l9Lasts_L7 (n + 1) { n := 42, t := [(0, (.ro false (.ints .i64 x0))), (3, (.own 0)), (5, (.bool s_.1))], h := [.row (.bools s_.2)] } k = S.l9Lasts_step7 x0 s_.1 s_.2 (fun s_ => S.l9Lasts_L7 n { n := 42, t := [(0, (.ro false (.ints .i64 x0))), (3, (.own 0)), (5, (.bool s_.1))], h := [.row (.bools s_.2)] } k) (fun d => k (.exit 2) { n := 42, t := [(3, (.own 0))], h := [.row (.bools d)] }) none := by
      refine Eq.trans (show S.l9Lasts_L7 (n + 1) { n := 42, t := [(0, (.ro false (.ints .i64 x0))), (3, (.own 0)), (5, (.bool s_.1))], h := [.row (.bools s_.2)] } k = (bif s_.1 then (S.l9Lasts_L10 FUEL { n := 42, t := [(0, (.ro false (.ints .i64 x0))), (3, (.own 0)), (5, (.bool false)), (6, (.int .i64 0))], h := [.row (.bools s_.2)] } (S.l9Lasts_k10 ((fun σ => S.l9Lasts_L7 n σ k), k))) else (k (.exit 2) { n := 42, t := [(3, (.own 0))], h := [.row (.bools s_.2)] })) by kernel_rfl) ?_
      refine cnd_congr ?_ ?_
      · refine (S.l9Lasts_L10_run x0 FUEL (false, 0, s_.2) (S.l9Lasts_k10 ((fun σ => S.l9Lasts_L7 n σ k), k))).trans (optC_congr (fun qy_3 => ?_))
        kernel_rfl
      · kernel_rfl
    have hs : (fun s_ : Bool × (List Bool) => S.l9Lasts_L7 n { n := 42, t := [(0, (.ro false (.ints .i64 x0))), (3, (.own 0)), (5, (.bool s_.1))], h := [.row (.bools s_.2)] } k) = fun s_ => optC (S.l9Lasts_run7 x0 n s_) (fun (r : List Bool) => k (.exit 2) { n := 42, t := [(3, (.own 0))], h := [.row (.bools r)] }) none := funext ih
    rw [hu, hs]
    exact (S.l9Lasts_step7_nat (fun o => optC o (fun (r : List Bool) => k (.exit 2) { n := 42, t := [(3, (.own 0))], h := [.row (.bools r)] }) none) x0 s_.1 s_.2 (S.l9Lasts_run7 x0 n) (fun d => some d) none).symm
noncomputable def S.l9Lasts_tree {α : Type} (net : List Int) (leaf0_ : List Bool → α) (fail_ : α) : α :=
  (bif decide (0 ≤ IntKind.i64.wrap (1 * 2 ^ min (↑net.length : Int).toNat IntKind.i64.bits)) && small (IntKind.i64.wrap (1 * 2 ^ min (↑net.length : Int).toNat IntKind.i64.bits)).toNat && true then (optC (S.l9Lasts_run3 net FUEL (0, List.replicate (IntKind.i64.wrap (1 * 2 ^ min (↑net.length : Int).toNat IntKind.i64.bits)).toNat false)) (fun qy_1 => (optC (S.l9Lasts_run7 net FUEL (true, qy_1)) (fun qy_4 => (leaf0_ qy_4)) fail_)) fail_) else fail_)
theorem S.l9Lasts_tree_nat {α γ : Type} (g : α → γ) (net : List Int) (leaf0_ : List Bool → α) (fail_ : α) : g (S.l9Lasts_tree net leaf0_ fail_) = S.l9Lasts_tree net (fun d => g (leaf0_ d)) (g fail_) := by
  unfold S.l9Lasts_tree; simp only [apply_cnd g, apply_optC g, apply_sumC g]
noncomputable def S.l9Lasts_t (net : List Int) : Option (List Bool) := S.l9Lasts_tree net (fun d => some d) none
theorem S.l9Lasts_den (net : List Int) (κ : V → List E → R) : S.l9Lasts_F [.ro false (.ints .i64 net)] [] κ = optC (S.l9Lasts_t net) (fun (r : List Bool) => κ (.own 0) [.row (.bools r)]) none := by
  have hu : S.l9Lasts_F [.ro false (.ints .i64 net)] [] κ = S.l9Lasts_tree net (fun d => κ (.own 0) [.row (.bools d)]) none := by
    refine Eq.trans (show S.l9Lasts_F [.ro false (.ints .i64 net)] [] κ = (bif decide (0 ≤ IntKind.i64.wrap (1 * 2 ^ min (↑net.length : Int).toNat IntKind.i64.bits)) && small (IntKind.i64.wrap (1 * 2 ^ min (↑net.length : Int).toNat IntKind.i64.bits)).toNat && true then (S.l9Lasts_L3 FUEL { n := 42, t := [(0, (.ro false (.ints .i64 net))), (3, (.own 0)), (4, (.int .i64 0))], h := [.row (.bools (List.replicate (IntKind.i64.wrap (1 * 2 ^ min (↑net.length : Int).toNat IntKind.i64.bits)).toNat false))] } (S.l9Lasts_k3 κ)) else none) by kernel_rfl) ?_
    refine cnd_congr ?_ ?_
    · refine (S.l9Lasts_L3_run net FUEL (0, List.replicate (IntKind.i64.wrap (1 * 2 ^ min (↑net.length : Int).toNat IntKind.i64.bits)).toNat false) (S.l9Lasts_k3 κ)).trans (optC_congr (fun qy_1 => ?_))
      refine Eq.trans (show (S.l9Lasts_k3 κ (.exit 0) { n := 42, t := [(0, (.ro false (.ints .i64 net))), (3, (.own 0))], h := [.row (.bools qy_1)] }) = (S.l9Lasts_L7 FUEL { n := 42, t := [(0, (.ro false (.ints .i64 net))), (3, (.own 0)), (5, (.bool true))], h := [.row (.bools qy_1)] } (S.l9Lasts_k7 κ)) by kernel_rfl) ?_
      refine (S.l9Lasts_L7_run net FUEL (true, qy_1) (S.l9Lasts_k7 κ)).trans (optC_congr (fun qy_4 => ?_))
      kernel_rfl
    · kernel_rfl
  rw [hu]
  exact (S.l9Lasts_tree_nat (fun o => optC o (fun (r : List Bool) => κ (.own 0) [.row (.bools r)]) none) net (fun d => some d) none).symm
noncomputable def S.l9Lasts_s : D.Spec where
  keep := false
  pure := false
  add := true
  ds := [.int .i64]
  sp := fun args h κ => match args, h with
    | [.ro false (.ints .i64 net)], [] => optC (S.l9Lasts_t net) (fun (r : List Bool) => κ (.own 0) [.row (.bools r)]) none
    | _, _ => none
theorem S.l9Lasts_ok : SpecOk Try.prog 75 S.l9Lasts_s := by
  refine SpecOk.of TDok mixed (T := S.l9Lasts_T) ?_ (ann := S.l9Lasts_ann) Try.func75 rfl (by decide +kernel) ?_ ?_ ?_ ?_
  · intro p hp
    simp only [S.l9Lasts_T, List.mem_cons, List.not_mem_nil, or_false] at hp
    rcases hp with rfl
    · exact S.l9Holds_ok
  · intro args h κ r hh
    simp only [S.l9Lasts_s] at hh
    split at hh
    · exact (S.l9Lasts_den _ κ).trans hh
    · cases hh
  · intro args h κ r hh
    simp only [S.l9Lasts_s] at hh ⊢
    split at hh
    · exact optC_law2 (F := fun (r : List Bool) κ => κ (.own 0) [.row (.bools r)]) (fun b κ r hb => ⟨_, _, hb, fun _ => rfl⟩) hh
    · cases hh
  · intro hh; cases hh
  · intro _ args h κ r hh
    simp only [S.l9Lasts_s] at hh
    split at hh
    · rfl
    · cases hh

-- loop.example/guardsonnets/spec.EternalSets
noncomputable def S.EternalSets_T : List (Nat × D.Spec) := [(29, S.NetOk_s), (75, S.l9Lasts_s)]
def S.EternalSets_ann : Nat → List Nat × List Nat
  | 6 => ([3, 4, 5], [3])
  | _ => ([], [])
noncomputable def S.EternalSets_F (args : List V) (h : List E) (κ : V → List E → R) : R := funC TD (tableK S.EternalSets_T) S.EternalSets_ann (drawOk TD (tableP S.EternalSets_T)) FUEL Try.f64 args h κ
noncomputable def S.EternalSets_L6 (n : Nat) (σ : St) (k : X → St → R) : R := iterC 0 (fun σ k => denC TD (tableK S.EternalSets_T) S.EternalSets_ann (drawOk TD (tableP S.EternalSets_T)) 0 FUEL ((findLoop 6 (Try.f64.body.getD .skip)).getD .skip) σ k) [3, 4, 5] [3] n σ k
noncomputable def S.EternalSets_k6 (κ : V → List E → R) : X → St → R := (afterC TD (tableK S.EternalSets_T) S.EternalSets_ann (drawOk TD (tableP S.EternalSets_T)) 0 FUEL 6 (Try.f64.body.getD .skip) (finC TD 0 Try.f64 κ)).getD (fun _ _ => none)
noncomputable def S.EternalSets_step6 {α : Type} (x5 : Int) (r0 : List Int) (r1 : List Bool) (next_ : Int × (List Int) × (List Bool) → α) (out0_ : List Int → α) (fail_ : α) : α :=
  (bif decide (x5 < (↑r1.length : Int)) then (bif decide (0 ≤ x5) && decide (x5 < (↑r1.length : Int)) then (bif decide (x5.toNat < r1.length) then (bif elb r1 x5.toNat then (bif small (r0 ++ [x5]).length then (next_ (IntKind.i64.wrap (x5 + 1), r0 ++ [x5], r1)) else fail_) else (next_ (IntKind.i64.wrap (x5 + 1), r0, r1))) else fail_) else fail_) else (out0_ r0))
theorem S.EternalSets_step6_nat {α γ : Type} (g : α → γ) (x5 : Int) (r0 : List Int) (r1 : List Bool) (next_ : Int × (List Int) × (List Bool) → α) (out0_ : List Int → α) (fail_ : α) : g (S.EternalSets_step6 x5 r0 r1 next_ out0_ fail_) = S.EternalSets_step6 x5 r0 r1 (fun s => g (next_ s)) (fun d => g (out0_ d)) (g fail_) := by
  unfold S.EternalSets_step6; simp only [apply_cnd g, apply_optC g, apply_sumC g]
noncomputable def S.EternalSets_run6 : Nat → Int × (List Int) × (List Bool) → Option (List Int)
  | 0, _ => none
  | n + 1, s_ => S.EternalSets_step6 s_.1 s_.2.1 s_.2.2 (S.EternalSets_run6 n) (fun d => some d) none
theorem S.EternalSets_L6_run (n : Nat) (s_ : Int × (List Int) × (List Bool)) (k : X → St → R) : S.EternalSets_L6 n { n := 28, t := [(3, (.own 0)), (4, (.own 1)), (5, (.int .i64 s_.1))], h := [.row (.ints .i64 s_.2.1), .row (.bools s_.2.2)] } k = optC (S.EternalSets_run6 n s_) (fun (r : List Int) => k (.exit 0) { n := 28, t := [(3, (.own 0))], h := [.row (.ints .i64 r)] }) none := by
  induction n generalizing s_ with
  | zero => rfl
  | succ n ih =>
    have hu : S.EternalSets_L6 (n + 1) { n := 28, t := [(3, (.own 0)), (4, (.own 1)), (5, (.int .i64 s_.1))], h := [.row (.ints .i64 s_.2.1), .row (.bools s_.2.2)] } k = S.EternalSets_step6 s_.1 s_.2.1 s_.2.2 (fun s_ => S.EternalSets_L6 n { n := 28, t := [(3, (.own 0)), (4, (.own 1)), (5, (.int .i64 s_.1))], h := [.row (.ints .i64 s_.2.1), .row (.bools s_.2.2)] } k) (fun d => k (.exit 0) { n := 28, t := [(3, (.own 0))], h := [.row (.ints .i64 d)] }) none := by
      kernel_rfl
    have hs : (fun s_ : Int × (List Int) × (List Bool) => S.EternalSets_L6 n { n := 28, t := [(3, (.own 0)), (4, (.own 1)), (5, (.int .i64 s_.1))], h := [.row (.ints .i64 s_.2.1), .row (.bools s_.2.2)] } k) = fun s_ => optC (S.EternalSets_run6 n s_) (fun (r : List Int) => k (.exit 0) { n := 28, t := [(3, (.own 0))], h := [.row (.ints .i64 r)] }) none := funext ih
    rw [hu, hs]
    exact (S.EternalSets_step6_nat (fun o => optC o (fun (r : List Int) => k (.exit 0) { n := 28, t := [(3, (.own 0))], h := [.row (.ints .i64 r)] }) none) s_.1 s_.2.1 s_.2.2 (S.EternalSets_run6 n) (fun d => some d) none).symm
noncomputable def S.EternalSets_tree {α : Type} (net : List Int) (leaf0_ : List Int → α) (fail_ : α) : α :=
  (optC (S.NetOk_t net) (fun c_1 => (bif !c_1 then (leaf0_ ([])) else (optC (S.l9Lasts_t net) (fun c_2 => (optC (S.EternalSets_run6 FUEL (0, [], c_2)) (fun qy_3 => (leaf0_ qy_3)) fail_)) fail_))) fail_)
theorem S.EternalSets_tree_nat {α γ : Type} (g : α → γ) (net : List Int) (leaf0_ : List Int → α) (fail_ : α) : g (S.EternalSets_tree net leaf0_ fail_) = S.EternalSets_tree net (fun d => g (leaf0_ d)) (g fail_) := by
  unfold S.EternalSets_tree; simp only [apply_cnd g, apply_optC g, apply_sumC g]
noncomputable def S.EternalSets_t (net : List Int) : Option (List Int) := S.EternalSets_tree net (fun d => some d) none
theorem S.EternalSets_den (net : List Int) (κ : V → List E → R) : S.EternalSets_F [.ro false (.ints .i64 net)] [] κ = optC (S.EternalSets_t net) (fun (r : List Int) => κ (.own 0) [.row (.ints .i64 r)]) none := by
  have hu : S.EternalSets_F [.ro false (.ints .i64 net)] [] κ = S.EternalSets_tree net (fun d => κ (.own 0) [.row (.ints .i64 d)]) none := by
    refine Eq.trans (show S.EternalSets_F [.ro false (.ints .i64 net)] [] κ = (optC (S.NetOk_t net) (fun c_1 => (bif !c_1 then (κ (.own 0) [.row (.ints .i64 ([]))]) else (optC (S.l9Lasts_t net) (fun c_2 => (S.EternalSets_L6 FUEL { n := 28, t := [(3, (.own 0)), (4, (.own 1)), (5, (.int .i64 0))], h := [.row (.ints .i64 ([])), .row (.bools c_2)] } (S.EternalSets_k6 κ))) none))) none) by kernel_rfl) ?_
    refine optC_congr (fun c_1 => ?_)
    refine cnd_congr ?_ ?_
    · kernel_rfl
    · refine optC_congr (fun c_2 => ?_)
      refine (S.EternalSets_L6_run FUEL (0, [], c_2) (S.EternalSets_k6 κ)).trans (optC_congr (fun qy_3 => ?_))
      kernel_rfl
  rw [hu]
  exact (S.EternalSets_tree_nat (fun o => optC o (fun (r : List Int) => κ (.own 0) [.row (.ints .i64 r)]) none) net (fun d => some d) none).symm
noncomputable def S.EternalSets_s : D.Spec where
  keep := false
  pure := false
  add := true
  ds := [.int .i64]
  sp := fun args h κ => match args, h with
    | [.ro false (.ints .i64 net)], [] => optC (S.EternalSets_t net) (fun (r : List Int) => κ (.own 0) [.row (.ints .i64 r)]) none
    | _, _ => none
theorem S.EternalSets_ok : SpecOk Try.prog 64 S.EternalSets_s := by
  refine SpecOk.of TDok mixed (T := S.EternalSets_T) ?_ (ann := S.EternalSets_ann) Try.func64 rfl (by decide +kernel) ?_ ?_ ?_ ?_
  · intro p hp
    simp only [S.EternalSets_T, List.mem_cons, List.not_mem_nil, or_false] at hp
    rcases hp with rfl | rfl
    · exact S.NetOk_ok
    · exact S.l9Lasts_ok
  · intro args h κ r hh
    simp only [S.EternalSets_s] at hh
    split at hh
    · exact (S.EternalSets_den _ κ).trans hh
    · cases hh
  · intro args h κ r hh
    simp only [S.EternalSets_s] at hh ⊢
    split at hh
    · exact optC_law2 (F := fun (r : List Int) κ => κ (.own 0) [.row (.ints .i64 r)]) (fun b κ r hb => ⟨_, _, hb, fun _ => rfl⟩) hh
    · cases hh
  · intro hh; cases hh
  · intro _ args h κ r hh
    simp only [S.EternalSets_s] at hh
    split at hh
    · rfl
    · cases hh

-- loop.example/guardsonnets/spec.FewestEternal
noncomputable def S.FewestEternal_T : List (Nat × D.Spec) := [(29, S.NetOk_s), (64, S.EternalSets_s), (61, S.l1Size_s)]
def S.FewestEternal_ann : Nat → List Nat × List Nat
  | 6 => ([3, 4, 5], [3])
  | _ => ([], [])
noncomputable def S.FewestEternal_F (args : List V) (h : List E) (κ : V → List E → R) : R := funC TD (tableK S.FewestEternal_T) S.FewestEternal_ann (drawOk TD (tableP S.FewestEternal_T)) FUEL Try.f45 args h κ
noncomputable def S.FewestEternal_L6 (n : Nat) (σ : St) (k : X → St → R) : R := iterC 0 (fun σ k => denC TD (tableK S.FewestEternal_T) S.FewestEternal_ann (drawOk TD (tableP S.FewestEternal_T)) 0 FUEL ((findLoop 6 (Try.f45.body.getD .skip)).getD .skip) σ k) [3, 4, 5] [3] n σ k
noncomputable def S.FewestEternal_k6 (κ : V → List E → R) : X → St → R := (afterC TD (tableK S.FewestEternal_T) S.FewestEternal_ann (drawOk TD (tableP S.FewestEternal_T)) 0 FUEL 6 (Try.f45.body.getD .skip) (finC TD 0 Try.f45 κ)).getD (fun _ _ => none)
noncomputable def S.FewestEternal_step6 {α : Type} (x3 : Int) (x5 : Int) (r0 : List Int) (next_ : Int × Int × (List Int) → α) (out0_ : Int → α) (fail_ : α) : α :=
  (bif decide (x5 < (↑r0.length : Int)) then (bif decide (0 ≤ x5) && decide (x5 < (↑r0.length : Int)) then (bif decide (x5.toNat < r0.length) then (optC (S.l1Size_t (eli r0 x5.toNat)) (fun c_3 => (next_ (if c_3 < x3 then c_3 else x3, IntKind.i64.wrap (x5 + 1), r0))) fail_) else fail_) else fail_) else (out0_ x3))
theorem S.FewestEternal_step6_nat {α γ : Type} (g : α → γ) (x3 : Int) (x5 : Int) (r0 : List Int) (next_ : Int × Int × (List Int) → α) (out0_ : Int → α) (fail_ : α) : g (S.FewestEternal_step6 x3 x5 r0 next_ out0_ fail_) = S.FewestEternal_step6 x3 x5 r0 (fun s => g (next_ s)) (fun d => g (out0_ d)) (g fail_) := by
  unfold S.FewestEternal_step6; simp only [apply_cnd g, apply_optC g, apply_sumC g]
noncomputable def S.FewestEternal_run6 : Nat → Int × Int × (List Int) → Option (Int)
  | 0, _ => none
  | n + 1, s_ => S.FewestEternal_step6 s_.1 s_.2.1 s_.2.2 (S.FewestEternal_run6 n) (fun d => some d) none
theorem S.FewestEternal_L6_run (n : Nat) (s_ : Int × Int × (List Int)) (k : X → St → R) : S.FewestEternal_L6 n { n := 27, t := [(3, (.int .i64 s_.1)), (4, (.own 0)), (5, (.int .i64 s_.2.1))], h := [.row (.ints .i64 s_.2.2)] } k = optC (S.FewestEternal_run6 n s_) (fun (r : Int) => k (.exit 0) { n := 27, t := [(3, (.int .i64 r))], h := [] }) none := by
  induction n generalizing s_ with
  | zero => rfl
  | succ n ih =>
    have hu : S.FewestEternal_L6 (n + 1) { n := 27, t := [(3, (.int .i64 s_.1)), (4, (.own 0)), (5, (.int .i64 s_.2.1))], h := [.row (.ints .i64 s_.2.2)] } k = S.FewestEternal_step6 s_.1 s_.2.1 s_.2.2 (fun s_ => S.FewestEternal_L6 n { n := 27, t := [(3, (.int .i64 s_.1)), (4, (.own 0)), (5, (.int .i64 s_.2.1))], h := [.row (.ints .i64 s_.2.2)] } k) (fun d => k (.exit 0) { n := 27, t := [(3, (.int .i64 d))], h := [] }) none := by
      kernel_rfl
    have hs : (fun s_ : Int × Int × (List Int) => S.FewestEternal_L6 n { n := 27, t := [(3, (.int .i64 s_.1)), (4, (.own 0)), (5, (.int .i64 s_.2.1))], h := [.row (.ints .i64 s_.2.2)] } k) = fun s_ => optC (S.FewestEternal_run6 n s_) (fun (r : Int) => k (.exit 0) { n := 27, t := [(3, (.int .i64 r))], h := [] }) none := funext ih
    rw [hu, hs]
    exact (S.FewestEternal_step6_nat (fun o => optC o (fun (r : Int) => k (.exit 0) { n := 27, t := [(3, (.int .i64 r))], h := [] }) none) s_.1 s_.2.1 s_.2.2 (S.FewestEternal_run6 n) (fun d => some d) none).symm
noncomputable def S.FewestEternal_tree {α : Type} (net : List Int) (leaf0_ : Int → α) (fail_ : α) : α :=
  (optC (S.NetOk_t net) (fun c_1 => (bif !c_1 then (leaf0_ (-1)) else (optC (S.EternalSets_t net) (fun c_2 => (optC (S.FewestEternal_run6 FUEL ((↑net.length : Int), 0, c_2)) (fun qy_4 => (leaf0_ qy_4)) fail_)) fail_))) fail_)
theorem S.FewestEternal_tree_nat {α γ : Type} (g : α → γ) (net : List Int) (leaf0_ : Int → α) (fail_ : α) : g (S.FewestEternal_tree net leaf0_ fail_) = S.FewestEternal_tree net (fun d => g (leaf0_ d)) (g fail_) := by
  unfold S.FewestEternal_tree; simp only [apply_cnd g, apply_optC g, apply_sumC g]
noncomputable def S.FewestEternal_t (net : List Int) : Option (Int) := S.FewestEternal_tree net (fun d => some d) none
theorem S.FewestEternal_den (net : List Int) (κ : V → List E → R) : S.FewestEternal_F [.ro false (.ints .i64 net)] [] κ = optC (S.FewestEternal_t net) (fun (r : Int) => κ (.int .i64 r) []) none := by
  have hu : S.FewestEternal_F [.ro false (.ints .i64 net)] [] κ = S.FewestEternal_tree net (fun d => κ (.int .i64 d) []) none := by
    refine Eq.trans (show S.FewestEternal_F [.ro false (.ints .i64 net)] [] κ = (optC (S.NetOk_t net) (fun c_1 => (bif !c_1 then (κ (.int .i64 (-1)) []) else (optC (S.EternalSets_t net) (fun c_2 => (S.FewestEternal_L6 FUEL { n := 27, t := [(3, (.int .i64 ((↑net.length : Int)))), (4, (.own 0)), (5, (.int .i64 0))], h := [.row (.ints .i64 c_2)] } (S.FewestEternal_k6 κ))) none))) none) by kernel_rfl) ?_
    refine optC_congr (fun c_1 => ?_)
    refine cnd_congr ?_ ?_
    · kernel_rfl
    · refine optC_congr (fun c_2 => ?_)
      refine (S.FewestEternal_L6_run FUEL ((↑net.length : Int), 0, c_2) (S.FewestEternal_k6 κ)).trans (optC_congr (fun qy_4 => ?_))
      kernel_rfl
  rw [hu]
  exact (S.FewestEternal_tree_nat (fun o => optC o (fun (r : Int) => κ (.int .i64 r) []) none) net (fun d => some d) none).symm
noncomputable def S.FewestEternal_s : D.Spec where
  keep := false
  pure := true
  add := true
  ds := [.int .i64]
  sp := fun args h κ => match args, h with
    | [.ro false (.ints .i64 net)], [] => optC (S.FewestEternal_t net) (fun (r : Int) => κ (.int .i64 r) []) none
    | _, _ => none
theorem S.FewestEternal_ok : SpecOk Try.prog 45 S.FewestEternal_s := by
  refine SpecOk.of TDok mixed (T := S.FewestEternal_T) ?_ (ann := S.FewestEternal_ann) Try.func45 rfl (by decide +kernel) ?_ ?_ ?_ ?_
  · intro p hp
    simp only [S.FewestEternal_T, List.mem_cons, List.not_mem_nil, or_false] at hp
    rcases hp with rfl | rfl | rfl
    · exact S.NetOk_ok
    · exact S.EternalSets_ok
    · exact S.l1Size_ok
  · intro args h κ r hh
    simp only [S.FewestEternal_s] at hh
    split at hh
    · exact (S.FewestEternal_den _ κ).trans hh
    · cases hh
  · intro args h κ r hh
    simp only [S.FewestEternal_s] at hh ⊢
    split at hh
    · exact optC_law2 (F := fun (r : Int) κ => κ (.int .i64 r) []) (fun b κ r hb => ⟨_, _, hb, fun _ => rfl⟩) hh
    · cases hh
  · intro _ args h κ r hh
    simp only [S.FewestEternal_s] at hh
    split at hh
    · exact ⟨rfl, fun _ => rfl⟩
    · cases hh
  · intro _ args h κ r hh
    simp only [S.FewestEternal_s] at hh
    split at hh
    · rfl
    · cases hh

-- loop.example/guardsonnets/spec.GuardRow
noncomputable def S.GuardRow_T : List (Nat × D.Spec) := [(29, S.NetOk_s), (42, S.FewestWatch_s), (43, S.FewestAllEternal_s), (44, S.MostApart_s), (45, S.FewestEternal_s), (9, S.FewestCliques_s)]
def S.GuardRow_ann : Nat → List Nat × List Nat
  | _ => ([], [])
noncomputable def S.GuardRow_F (args : List V) (h : List E) (κ : V → List E → R) : R := funC TD (tableK S.GuardRow_T) S.GuardRow_ann (drawOk TD (tableP S.GuardRow_T)) FUEL Try.f21 args h κ
noncomputable def S.GuardRow_tree {α : Type} (net : List Int) (leaf0_ : List Int → α) (fail_ : α) : α :=
  (optC (S.NetOk_t net) (fun c_1 => (bif !c_1 then (leaf0_ ([])) else (optC (S.FewestWatch_t net) (fun c_2 => (optC (S.FewestAllEternal_t net) (fun c_3 => (optC (S.MostApart_t net) (fun c_4 => (optC (S.FewestEternal_t net) (fun c_5 => (optC (S.FewestCliques_t net) (fun c_6 => (leaf0_ ([c_2, c_3, c_4, c_5, c_6]))) fail_)) fail_)) fail_)) fail_)) fail_))) fail_)
theorem S.GuardRow_tree_nat {α γ : Type} (g : α → γ) (net : List Int) (leaf0_ : List Int → α) (fail_ : α) : g (S.GuardRow_tree net leaf0_ fail_) = S.GuardRow_tree net (fun d => g (leaf0_ d)) (g fail_) := by
  unfold S.GuardRow_tree; simp only [apply_cnd g, apply_optC g, apply_sumC g]
noncomputable def S.GuardRow_t (net : List Int) : Option (List Int) := S.GuardRow_tree net (fun d => some d) none
theorem S.GuardRow_den (net : List Int) (κ : V → List E → R) : S.GuardRow_F [.ro false (.ints .i64 net)] [] κ = optC (S.GuardRow_t net) (fun (r : List Int) => κ (.own 0) [.row (.ints .i64 r)]) none := by
  have hu : S.GuardRow_F [.ro false (.ints .i64 net)] [] κ = S.GuardRow_tree net (fun d => κ (.own 0) [.row (.ints .i64 d)]) none := by
    kernel_rfl
  rw [hu]
  exact (S.GuardRow_tree_nat (fun o => optC o (fun (r : List Int) => κ (.own 0) [.row (.ints .i64 r)]) none) net (fun d => some d) none).symm
noncomputable def S.GuardRow_s : D.Spec where
  keep := false
  pure := false
  add := true
  ds := [.int .i64]
  sp := fun args h κ => match args, h with
    | [.ro false (.ints .i64 net)], [] => optC (S.GuardRow_t net) (fun (r : List Int) => κ (.own 0) [.row (.ints .i64 r)]) none
    | _, _ => none
theorem S.GuardRow_ok : SpecOk Try.prog 21 S.GuardRow_s := by
  refine SpecOk.of TDok mixed (T := S.GuardRow_T) ?_ (ann := S.GuardRow_ann) Try.func21 rfl (by decide +kernel) ?_ ?_ ?_ ?_
  · intro p hp
    simp only [S.GuardRow_T, List.mem_cons, List.not_mem_nil, or_false] at hp
    rcases hp with rfl | rfl | rfl | rfl | rfl | rfl
    · exact S.NetOk_ok
    · exact S.FewestWatch_ok
    · exact S.FewestAllEternal_ok
    · exact S.MostApart_ok
    · exact S.FewestEternal_ok
    · exact S.FewestCliques_ok
  · intro args h κ r hh
    simp only [S.GuardRow_s] at hh
    split at hh
    · exact (S.GuardRow_den _ κ).trans hh
    · cases hh
  · intro args h κ r hh
    simp only [S.GuardRow_s] at hh ⊢
    split at hh
    · exact optC_law2 (F := fun (r : List Int) κ => κ (.own 0) [.row (.ints .i64 r)]) (fun b κ r hb => ⟨_, _, hb, fun _ => rfl⟩) hh
    · cases hh
  · intro hh; cases hh
  · intro _ args h κ r hh
    simp only [S.GuardRow_s] at hh
    split at hh
    · rfl
    · cases hh

-- loop.example/guardsonnets/laws.sameInts
noncomputable def L.sameInts_T : List (Nat × D.Spec) := []
def L.sameInts_ann : Nat → List Nat × List Nat
  | 4 => ([0, 1, 5], [4])
  | _ => ([], [])
noncomputable def L.sameInts_F (args : List V) (h : List E) (κ : V → List E → R) : R := funC TD (tableK L.sameInts_T) L.sameInts_ann (drawOk TD (tableP L.sameInts_T)) FUEL Try.f20 args h κ
noncomputable def L.sameInts_L4 (n : Nat) (σ : St) (k : X → St → R) : R := iterC 0 (fun σ k => denC TD (tableK L.sameInts_T) L.sameInts_ann (drawOk TD (tableP L.sameInts_T)) 0 FUEL ((findLoop 4 (Try.f20.body.getD .skip)).getD .skip) σ k) [0, 1, 5] [4] n σ k
noncomputable def L.sameInts_k4 (κ : V → List E → R) : X → St → R := (afterC TD (tableK L.sameInts_T) L.sameInts_ann (drawOk TD (tableP L.sameInts_T)) 0 FUEL 4 (Try.f20.body.getD .skip) (finC TD 0 Try.f20 κ)).getD (fun _ _ => none)
noncomputable def L.sameInts_step4 {α : Type} (x0 : List Int) (x1 : List Int) (x5 : Int) (next_ : Int → α) (out0_ : Bool → α) (out1_ : Unit → α) (fail_ : α) : α :=
  (bif decide (x5 < (↑x0.length : Int)) then (bif decide (0 ≤ x5) && decide (x5 < (↑x0.length : Int)) then (bif decide (0 ≤ x5) && decide (x5 < (↑x1.length : Int)) then (bif !eli x0 x5.toNat == eli x1 x5.toNat then (out0_ false) else (next_ (IntKind.i64.wrap (x5 + 1)))) else fail_) else fail_) else (out1_ ()))
theorem L.sameInts_step4_nat {α γ : Type} (g : α → γ) (x0 : List Int) (x1 : List Int) (x5 : Int) (next_ : Int → α) (out0_ : Bool → α) (out1_ : Unit → α) (fail_ : α) : g (L.sameInts_step4 x0 x1 x5 next_ out0_ out1_ fail_) = L.sameInts_step4 x0 x1 x5 (fun s => g (next_ s)) (fun d => g (out0_ d)) (fun d => g (out1_ d)) (g fail_) := by
  unfold L.sameInts_step4; simp only [apply_cnd g, apply_optC g, apply_sumC g]
noncomputable def L.sameInts_run4 (x0 : List Int) (x1 : List Int) : Nat → Int → Option ((Bool) ⊕ (Unit))
  | 0, _ => none
  | n + 1, s_ => L.sameInts_step4 x0 x1 s_ (L.sameInts_run4 x0 x1 n) (fun d => some ((Sum.inl d))) (fun d => some ((Sum.inr d))) none
theorem L.sameInts_L4_run (x0 : List Int) (x1 : List Int) (n : Nat) (s_ : Int) (k : X → St → R) : L.sameInts_L4 n { n := 26, t := [(0, (.ro false (.ints .i64 x0))), (1, (.ro false (.ints .i64 x1))), (5, (.int .i64 s_))], h := [] } k = optC (L.sameInts_run4 x0 x1 n s_) (fun (r : (Bool) ⊕ (Unit)) => (sumC r (fun (r : Bool) => k (.ret) { n := 26, t := [(4, (.bool r))], h := [] }) (fun (r : Unit) => k (.exit 0) { n := 26, t := [(4, .junk)], h := [] }))) none := by
  induction n generalizing s_ with
  | zero => rfl
  | succ n ih =>
    have hu : L.sameInts_L4 (n + 1) { n := 26, t := [(0, (.ro false (.ints .i64 x0))), (1, (.ro false (.ints .i64 x1))), (5, (.int .i64 s_))], h := [] } k = L.sameInts_step4 x0 x1 s_ (fun s_ => L.sameInts_L4 n { n := 26, t := [(0, (.ro false (.ints .i64 x0))), (1, (.ro false (.ints .i64 x1))), (5, (.int .i64 s_))], h := [] } k) (fun d => k (.ret) { n := 26, t := [(4, (.bool d))], h := [] }) (fun d => k (.exit 0) { n := 26, t := [(4, .junk)], h := [] }) none := by
      kernel_rfl
    have hs : (fun s_ : Int => L.sameInts_L4 n { n := 26, t := [(0, (.ro false (.ints .i64 x0))), (1, (.ro false (.ints .i64 x1))), (5, (.int .i64 s_))], h := [] } k) = fun s_ => optC (L.sameInts_run4 x0 x1 n s_) (fun (r : (Bool) ⊕ (Unit)) => (sumC r (fun (r : Bool) => k (.ret) { n := 26, t := [(4, (.bool r))], h := [] }) (fun (r : Unit) => k (.exit 0) { n := 26, t := [(4, .junk)], h := [] }))) none := funext ih
    rw [hu, hs]
    exact (L.sameInts_step4_nat (fun o => optC o (fun (r : (Bool) ⊕ (Unit)) => (sumC r (fun (r : Bool) => k (.ret) { n := 26, t := [(4, (.bool r))], h := [] }) (fun (r : Unit) => k (.exit 0) { n := 26, t := [(4, .junk)], h := [] }))) none) x0 x1 s_ (L.sameInts_run4 x0 x1 n) (fun d => some ((Sum.inl d))) (fun d => some ((Sum.inr d))) none).symm
noncomputable def L.sameInts_tree {α : Type} (a : List Int) (b_ : List Int) (leaf0_ : Bool → α) (fail_ : α) : α :=
  (bif !(↑a.length : Int) == (↑b_.length : Int) then (leaf0_ false) else (optC (L.sameInts_run4 a b_ FUEL 0) (fun qy_1 => (sumC qy_1 (fun (qy_1 : Bool) => (leaf0_ qy_1)) (fun (qy_1 : Unit) => (leaf0_ true)))) fail_))
theorem L.sameInts_tree_nat {α γ : Type} (g : α → γ) (a : List Int) (b_ : List Int) (leaf0_ : Bool → α) (fail_ : α) : g (L.sameInts_tree a b_ leaf0_ fail_) = L.sameInts_tree a b_ (fun d => g (leaf0_ d)) (g fail_) := by
  unfold L.sameInts_tree; simp only [apply_cnd g, apply_optC g, apply_sumC g]
noncomputable def L.sameInts_t (a : List Int) (b_ : List Int) : Option (Bool) := L.sameInts_tree a b_ (fun d => some d) none
theorem L.sameInts_den (a : List Int) (b_ : List Int) (κ : V → List E → R) : L.sameInts_F [.ro false (.ints .i64 a), .ro false (.ints .i64 b_)] [] κ = optC (L.sameInts_t a b_) (fun (r : Bool) => κ (.bool r) []) none := by
  have hu : L.sameInts_F [.ro false (.ints .i64 a), .ro false (.ints .i64 b_)] [] κ = L.sameInts_tree a b_ (fun d => κ (.bool d) []) none := by
    refine Eq.trans (show L.sameInts_F [.ro false (.ints .i64 a), .ro false (.ints .i64 b_)] [] κ = (bif !(↑a.length : Int) == (↑b_.length : Int) then (κ (.bool false) []) else (L.sameInts_L4 FUEL { n := 26, t := [(0, (.ro false (.ints .i64 a))), (1, (.ro false (.ints .i64 b_))), (5, (.int .i64 0))], h := [] } (L.sameInts_k4 κ))) by kernel_rfl) ?_
    refine cnd_congr ?_ ?_
    · kernel_rfl
    · refine (L.sameInts_L4_run a b_ FUEL 0 (L.sameInts_k4 κ)).trans (optC_congr (fun qy_1 => ?_))
      rcases qy_1 with qy_1 | qy_1
      · kernel_rfl
      · kernel_rfl
  rw [hu]
  exact (L.sameInts_tree_nat (fun o => optC o (fun (r : Bool) => κ (.bool r) []) none) a b_ (fun d => some d) none).symm
noncomputable def L.sameInts_s : D.Spec where
  keep := false
  pure := true
  add := true
  ds := [.int .i64, .int .i64]
  sp := fun args h κ => match args, h with
    | [.ro false (.ints .i64 a), .ro false (.ints .i64 b_)], [] => optC (L.sameInts_t a b_) (fun (r : Bool) => κ (.bool r) []) none
    | _, _ => none
theorem L.sameInts_ok : SpecOk Try.prog 20 L.sameInts_s := by
  refine SpecOk.of TDok mixed (T := L.sameInts_T) ?_ (ann := L.sameInts_ann) Try.func20 rfl (by decide +kernel) ?_ ?_ ?_ ?_
  · intro p hp; cases hp
  · intro args h κ r hh
    simp only [L.sameInts_s] at hh
    split at hh
    · exact (L.sameInts_den _ _ κ).trans hh
    · cases hh
  · intro args h κ r hh
    simp only [L.sameInts_s] at hh ⊢
    split at hh
    · exact optC_law2 (F := fun (r : Bool) κ => κ (.bool r) []) (fun b κ r hb => ⟨_, _, hb, fun _ => rfl⟩) hh
    · cases hh
  · intro _ args h κ r hh
    simp only [L.sameInts_s] at hh
    split at hh
    · exact ⟨rfl, fun _ => rfl⟩
    · cases hh
  · intro _ args h κ r hh
    simp only [L.sameInts_s] at hh
    split at hh
    · rfl
    · cases hh

-- loop.example/guardsonnets/laws.FnGuardRow
noncomputable def L.FnGuardRow_T : List (Nat × D.Spec) := [(18, S.DrawGuardRow_s), (19, I.GuardRow_s), (21, S.GuardRow_s), (20, L.sameInts_s), (10, I.NetOk_s), (11, L.alive_s), (22, I.FewestWatch_s), (12, I.MostApart_s)]
def L.FnGuardRow_ann : Nat → List Nat × List Nat
  | 10 => ([3, 4, 5], [2, 3, 4])
  | _ => ([], [])
noncomputable def L.FnGuardRow_F (args : List V) (h : List E) (κ : V → List E → R) : R := funC TD (tableK L.FnGuardRow_T) L.FnGuardRow_ann (drawOk TD (tableP L.FnGuardRow_T)) FUEL Try.f5 args h κ
noncomputable def L.FnGuardRow_L10 (n : Nat) (σ : St) (k : X → St → R) : R := iterC 0 (fun σ k => denC TD (tableK L.FnGuardRow_T) L.FnGuardRow_ann (drawOk TD (tableP L.FnGuardRow_T)) 0 FUEL ((findLoop 10 (Try.f5.body.getD .skip)).getD .skip) σ k) [3, 4, 5] [2, 3, 4] n σ k
noncomputable def L.FnGuardRow_k10 (κ : V → List E → R) : X → St → R := (afterC TD (tableK L.FnGuardRow_T) L.FnGuardRow_ann (drawOk TD (tableP L.FnGuardRow_T)) 0 FUEL 10 (Try.f5.body.getD .skip) (finC TD 0 Try.f5 κ)).getD (fun _ _ => none)
noncomputable def L.FnGuardRow_step10 {α : Type} (x5 : Int) (r0 : List Int) (r1 : List Int) (next_ : Int × (List Int) × (List Int) → α) (out0_ : Bool × (List Int) × (List Int) → α) (out1_ : (List Int) × (List Int) → α) (fail_ : α) : α :=
  (bif decide (x5 < (↑r1.length : Int)) then (bif decide (0 ≤ x5) && decide (x5 < (↑r1.length : Int)) then (bif decide (x5.toNat < r1.length) then (bif decide (0 ≤ IntKind.i64.wrap (x5 - 1)) && decide (IntKind.i64.wrap (x5 - 1) < (↑r1.length : Int)) then (bif decide ((IntKind.i64.wrap (x5 - 1)).toNat < r1.length) then (bif decide (eli r1 x5.toNat < eli r1 (IntKind.i64.wrap (x5 - 1)).toNat) then (out0_ (false, r0, r1)) else (next_ (IntKind.i64.wrap (x5 + 1), r0, r1))) else fail_) else fail_) else fail_) else fail_) else (out1_ (r0, r1)))
theorem L.FnGuardRow_step10_nat {α γ : Type} (g : α → γ) (x5 : Int) (r0 : List Int) (r1 : List Int) (next_ : Int × (List Int) × (List Int) → α) (out0_ : Bool × (List Int) × (List Int) → α) (out1_ : (List Int) × (List Int) → α) (fail_ : α) : g (L.FnGuardRow_step10 x5 r0 r1 next_ out0_ out1_ fail_) = L.FnGuardRow_step10 x5 r0 r1 (fun s => g (next_ s)) (fun d => g (out0_ d)) (fun d => g (out1_ d)) (g fail_) := by
  unfold L.FnGuardRow_step10; simp only [apply_cnd g, apply_optC g, apply_sumC g]
noncomputable def L.FnGuardRow_run10 : Nat → Int × (List Int) × (List Int) → Option ((Bool × (List Int) × (List Int)) ⊕ ((List Int) × (List Int)))
  | 0, _ => none
  | n + 1, s_ => L.FnGuardRow_step10 s_.1 s_.2.1 s_.2.2 (L.FnGuardRow_run10 n) (fun d => some ((Sum.inl d))) (fun d => some ((Sum.inr d))) none
theorem L.FnGuardRow_L10_run (n : Nat) (s_ : Int × (List Int) × (List Int)) (k : X → St → R) : L.FnGuardRow_L10 n { n := 76, t := [(3, (.own 0)), (4, (.own 1)), (5, (.int .i64 s_.1))], h := [.row (.ints .i64 s_.2.1), .row (.ints .i64 s_.2.2)] } k = optC (L.FnGuardRow_run10 n s_) (fun (r : (Bool × (List Int) × (List Int)) ⊕ ((List Int) × (List Int))) => (sumC r (fun (r : Bool × (List Int) × (List Int)) => k (.ret) { n := 76, t := [(2, (.bool r.1)), (3, (.own 0)), (4, (.own 1))], h := [.row (.ints .i64 r.2.1), .row (.ints .i64 r.2.2)] }) (fun (r : (List Int) × (List Int)) => k (.exit 0) { n := 76, t := [(2, .junk), (3, (.own 0)), (4, (.own 1))], h := [.row (.ints .i64 r.1), .row (.ints .i64 r.2)] }))) none := by
  induction n generalizing s_ with
  | zero => rfl
  | succ n ih =>
    have hu : L.FnGuardRow_L10 (n + 1) { n := 76, t := [(3, (.own 0)), (4, (.own 1)), (5, (.int .i64 s_.1))], h := [.row (.ints .i64 s_.2.1), .row (.ints .i64 s_.2.2)] } k = L.FnGuardRow_step10 s_.1 s_.2.1 s_.2.2 (fun s_ => L.FnGuardRow_L10 n { n := 76, t := [(3, (.own 0)), (4, (.own 1)), (5, (.int .i64 s_.1))], h := [.row (.ints .i64 s_.2.1), .row (.ints .i64 s_.2.2)] } k) (fun d => k (.ret) { n := 76, t := [(2, (.bool d.1)), (3, (.own 0)), (4, (.own 1))], h := [.row (.ints .i64 d.2.1), .row (.ints .i64 d.2.2)] }) (fun d => k (.exit 0) { n := 76, t := [(2, .junk), (3, (.own 0)), (4, (.own 1))], h := [.row (.ints .i64 d.1), .row (.ints .i64 d.2)] }) none := by
      kernel_rfl
    have hs : (fun s_ : Int × (List Int) × (List Int) => L.FnGuardRow_L10 n { n := 76, t := [(3, (.own 0)), (4, (.own 1)), (5, (.int .i64 s_.1))], h := [.row (.ints .i64 s_.2.1), .row (.ints .i64 s_.2.2)] } k) = fun s_ => optC (L.FnGuardRow_run10 n s_) (fun (r : (Bool × (List Int) × (List Int)) ⊕ ((List Int) × (List Int))) => (sumC r (fun (r : Bool × (List Int) × (List Int)) => k (.ret) { n := 76, t := [(2, (.bool r.1)), (3, (.own 0)), (4, (.own 1))], h := [.row (.ints .i64 r.2.1), .row (.ints .i64 r.2.2)] }) (fun (r : (List Int) × (List Int)) => k (.exit 0) { n := 76, t := [(2, .junk), (3, (.own 0)), (4, (.own 1))], h := [.row (.ints .i64 r.1), .row (.ints .i64 r.2)] }))) none := funext ih
    rw [hu, hs]
    exact (L.FnGuardRow_step10_nat (fun o => optC o (fun (r : (Bool × (List Int) × (List Int)) ⊕ ((List Int) × (List Int))) => (sumC r (fun (r : Bool × (List Int) × (List Int)) => k (.ret) { n := 76, t := [(2, (.bool r.1)), (3, (.own 0)), (4, (.own 1))], h := [.row (.ints .i64 r.2.1), .row (.ints .i64 r.2.2)] }) (fun (r : (List Int) × (List Int)) => k (.exit 0) { n := 76, t := [(2, .junk), (3, (.own 0)), (4, (.own 1))], h := [.row (.ints .i64 r.1), .row (.ints .i64 r.2)] }))) none) s_.1 s_.2.1 s_.2.2 (L.FnGuardRow_run10 n) (fun d => some ((Sum.inl d))) (fun d => some ((Sum.inr d))) none).symm
noncomputable def L.FnGuardRow_tree {α : Type} (code : List Int) (leaf0_ : Bool → α) (fail_ : α) : α :=
  (bif decide ((↑code.length : Int) > 1048576) then (leaf0_ true) else (optC (S.DrawGuardRow_t code) (fun c_1 => (optC (I.GuardRow_t c_1) (fun c_2 => (optC (S.GuardRow_t c_1) (fun c_3 => (optC (L.sameInts_t c_2 c_3) (fun c_4 => (bif !c_4 then (leaf0_ false) else (bif (↑c_2.length : Int) == 0 then (optC (I.NetOk_t c_1) (fun c_5 => (bif !c_5 then (optC (L.alive_t) (fun c_6 => (leaf0_ c_6)) fail_) else (leaf0_ false))) fail_) else (optC (L.FnGuardRow_run10 FUEL (1, c_1, c_2)) (fun qy_7 => (sumC qy_7 (fun (qy_7 : Bool × (List Int) × (List Int)) => (leaf0_ qy_7.1)) (fun (qy_7 : (List Int) × (List Int)) => (bif (↑qy_7.2.length : Int) == 5 then (bif decide (0 < (↑qy_7.2.length : Int)) then (bif decide (0 < qy_7.2.length) then (bif decide (eli qy_7.2 0 ≥ 1) then (bif decide (4 < (↑qy_7.2.length : Int)) then (bif decide (4 < qy_7.2.length) then (bif decide (eli qy_7.2 4 ≤ (↑qy_7.1.length : Int)) then (bif decide (0 < (↑qy_7.2.length : Int)) then (bif decide (0 < qy_7.2.length) then (optC (I.FewestWatch_t qy_7.1) (fun c_8 => (bif eli qy_7.2 0 == c_8 then (bif decide (2 < (↑qy_7.2.length : Int)) then (bif decide (2 < qy_7.2.length) then (optC (I.MostApart_t qy_7.1) (fun c_9 => (leaf0_ (eli qy_7.2 2 == c_9))) fail_) else fail_) else fail_) else (leaf0_ false))) fail_) else fail_) else fail_) else (leaf0_ false)) else fail_) else fail_) else (leaf0_ false)) else fail_) else fail_) else (leaf0_ false))))) fail_)))) fail_)) fail_)) fail_)) fail_))
theorem L.FnGuardRow_tree_nat {α γ : Type} (g : α → γ) (code : List Int) (leaf0_ : Bool → α) (fail_ : α) : g (L.FnGuardRow_tree code leaf0_ fail_) = L.FnGuardRow_tree code (fun d => g (leaf0_ d)) (g fail_) := by
  unfold L.FnGuardRow_tree; simp only [apply_cnd g, apply_optC g, apply_sumC g]
noncomputable def L.FnGuardRow_t (code : List Int) : Option (Bool) := L.FnGuardRow_tree code (fun d => some d) none
theorem L.FnGuardRow_den (code : List Int) (κ : V → List E → R) : L.FnGuardRow_F [.ro true (.ints .u8 code)] [] κ = optC (L.FnGuardRow_t code) (fun (r : Bool) => κ (.bool r) []) none := by
  have hu : L.FnGuardRow_F [.ro true (.ints .u8 code)] [] κ = L.FnGuardRow_tree code (fun d => κ (.bool d) []) none := by
    refine Eq.trans (show L.FnGuardRow_F [.ro true (.ints .u8 code)] [] κ = (bif decide ((↑code.length : Int) > 1048576) then (κ (.bool true) []) else (optC (S.DrawGuardRow_t code) (fun c_1 => (optC (I.GuardRow_t c_1) (fun c_2 => (optC (S.GuardRow_t c_1) (fun c_3 => (optC (L.sameInts_t c_2 c_3) (fun c_4 => (bif !c_4 then (κ (.bool false) []) else (bif (↑c_2.length : Int) == 0 then (optC (I.NetOk_t c_1) (fun c_5 => (bif !c_5 then (optC (L.alive_t) (fun c_6 => (κ (.bool c_6) [])) none) else (κ (.bool false) []))) none) else (L.FnGuardRow_L10 FUEL { n := 76, t := [(3, (.own 0)), (4, (.own 1)), (5, (.int .i64 1))], h := [.row (.ints .i64 c_1), .row (.ints .i64 c_2)] } (L.FnGuardRow_k10 κ))))) none)) none)) none)) none)) by kernel_rfl) ?_
    refine cnd_congr ?_ ?_
    · kernel_rfl
    · refine optC_congr (fun c_1 => ?_)
      refine optC_congr (fun c_2 => ?_)
      refine optC_congr (fun c_3 => ?_)
      refine optC_congr (fun c_4 => ?_)
      refine cnd_congr ?_ ?_
      · kernel_rfl
      · refine cnd_congr ?_ ?_
        · kernel_rfl
        · refine (L.FnGuardRow_L10_run FUEL (1, c_1, c_2) (L.FnGuardRow_k10 κ)).trans (optC_congr (fun qy_7 => ?_))
          rcases qy_7 with qy_7 | qy_7
          · kernel_rfl
          · kernel_rfl
  rw [hu]
  exact (L.FnGuardRow_tree_nat (fun o => optC o (fun (r : Bool) => κ (.bool r) []) none) code (fun d => some d) none).symm
noncomputable def L.FnGuardRow_s : D.Spec where
  keep := true
  pure := true
  add := true
  ds := [.int .u8]
  sp := fun args h κ => match args, h with
    | [.ro true (.ints .u8 code)], [] => optC (L.FnGuardRow_t code) (fun (r : Bool) => κ (.bool r) []) none
    | _, _ => none
theorem L.FnGuardRow_ok : SpecOk Try.prog 5 L.FnGuardRow_s := by
  refine SpecOk.of TDok mixed (T := L.FnGuardRow_T) ?_ (ann := L.FnGuardRow_ann) Try.func5 rfl (by decide +kernel) ?_ ?_ ?_ ?_
  · intro p hp
    simp only [L.FnGuardRow_T, List.mem_cons, List.not_mem_nil, or_false] at hp
    rcases hp with rfl | rfl | rfl | rfl | rfl | rfl | rfl | rfl
    · exact S.DrawGuardRow_ok
    · exact I.GuardRow_ok
    · exact S.GuardRow_ok
    · exact L.sameInts_ok
    · exact I.NetOk_ok
    · exact L.alive_ok
    · exact I.FewestWatch_ok
    · exact I.MostApart_ok
  · intro args h κ r hh
    simp only [L.FnGuardRow_s] at hh
    split at hh
    · exact (L.FnGuardRow_den _ κ).trans hh
    · cases hh
  · intro args h κ r hh
    simp only [L.FnGuardRow_s] at hh ⊢
    split at hh
    · exact optC_law2 (F := fun (r : Bool) κ => κ (.bool r) []) (fun b κ r hb => ⟨_, _, hb, fun _ => rfl⟩) hh
    · cases hh
  · intro _ args h κ r hh
    simp only [L.FnGuardRow_s] at hh
    split at hh
    · exact ⟨rfl, fun _ => rfl⟩
    · cases hh
  · intro _ args h κ r hh
    simp only [L.FnGuardRow_s] at hh
    split at hh
    · rfl
    · cases hh

-- loop.example/guardsonnets/laws.markIntS
noncomputable def L.markIntS_T : List (Nat × D.Spec) := []
def L.markIntS_ann : Nat → List Nat × List Nat
  | 2 => ([0, 1, 5], [1])
  | _ => ([], [])
noncomputable def L.markIntS_F (args : List V) (h : List E) (κ : V → List E → R) : R := funC TD (tableK L.markIntS_T) L.markIntS_ann (drawOk TD (tableP L.markIntS_T)) FUEL Try.f23 args h κ
noncomputable def L.markIntS_L2 (n : Nat) (σ : St) (k : X → St → R) : R := iterC 1 (fun σ k => denC TD (tableK L.markIntS_T) L.markIntS_ann (drawOk TD (tableP L.markIntS_T)) 1 FUEL ((findLoop 2 (Try.f23.body.getD .skip)).getD .skip) σ k) [0, 1, 5] [1] n σ k
noncomputable def L.markIntS_k2 (κ : V → List E → R) : X → St → R := (afterC TD (tableK L.markIntS_T) L.markIntS_ann (drawOk TD (tableP L.markIntS_T)) 1 FUEL 2 (Try.f23.body.getD .skip) (finC TD 1 Try.f23 κ)).getD (fun _ _ => none)
noncomputable def L.markIntS_step2 {α : Type} (x1 : Int) (x5 : Int) (r0 : List Int) (next_ : Int × Int × (List Int) → α) (out0_ : Int × (List Int) → α) (fail_ : α) : α :=
  (bif decide (x5 < (↑r0.length : Int)) then (bif decide (0 ≤ x5) && decide (x5 < (↑r0.length : Int)) then (bif decide (x5.toNat < r0.length) then (next_ (IntKind.i64.wrap (x1 + 1), IntKind.i64.wrap (x5 + 1), r0.set x5.toNat x1)) else fail_) else fail_) else (out0_ (x1, r0)))
theorem L.markIntS_step2_nat {α γ : Type} (g : α → γ) (x1 : Int) (x5 : Int) (r0 : List Int) (next_ : Int × Int × (List Int) → α) (out0_ : Int × (List Int) → α) (fail_ : α) : g (L.markIntS_step2 x1 x5 r0 next_ out0_ fail_) = L.markIntS_step2 x1 x5 r0 (fun s => g (next_ s)) (fun d => g (out0_ d)) (g fail_) := by
  unfold L.markIntS_step2; simp only [apply_cnd g, apply_optC g, apply_sumC g]
noncomputable def L.markIntS_run2 : Nat → Int × Int × (List Int) → Option (Int × (List Int))
  | 0, _ => none
  | n + 1, s_ => L.markIntS_step2 s_.1 s_.2.1 s_.2.2 (L.markIntS_run2 n) (fun d => some d) none
theorem L.markIntS_L2_run (n : Nat) (s_ : Int × Int × (List Int)) (k : X → St → R) : L.markIntS_L2 n { n := 19, t := [(0, (.own 0)), (1, (.int .i64 s_.1)), (5, (.int .i64 s_.2.1))], h := [.row (.ints .i64 s_.2.2)] } k = optC (L.markIntS_run2 n s_) (fun (r : Int × (List Int)) => k (.exit 0) { n := 19, t := [(1, (.int .i64 r.1))], h := [.row (.ints .i64 r.2)] }) none := by
  induction n generalizing s_ with
  | zero => rfl
  | succ n ih =>
    have hu : L.markIntS_L2 (n + 1) { n := 19, t := [(0, (.own 0)), (1, (.int .i64 s_.1)), (5, (.int .i64 s_.2.1))], h := [.row (.ints .i64 s_.2.2)] } k = L.markIntS_step2 s_.1 s_.2.1 s_.2.2 (fun s_ => L.markIntS_L2 n { n := 19, t := [(0, (.own 0)), (1, (.int .i64 s_.1)), (5, (.int .i64 s_.2.1))], h := [.row (.ints .i64 s_.2.2)] } k) (fun d => k (.exit 0) { n := 19, t := [(1, (.int .i64 d.1))], h := [.row (.ints .i64 d.2)] }) none := by
      kernel_rfl
    have hs : (fun s_ : Int × Int × (List Int) => L.markIntS_L2 n { n := 19, t := [(0, (.own 0)), (1, (.int .i64 s_.1)), (5, (.int .i64 s_.2.1))], h := [.row (.ints .i64 s_.2.2)] } k) = fun s_ => optC (L.markIntS_run2 n s_) (fun (r : Int × (List Int)) => k (.exit 0) { n := 19, t := [(1, (.int .i64 r.1))], h := [.row (.ints .i64 r.2)] }) none := funext ih
    rw [hu, hs]
    exact (L.markIntS_step2_nat (fun o => optC o (fun (r : Int × (List Int)) => k (.exit 0) { n := 19, t := [(1, (.int .i64 r.1))], h := [.row (.ints .i64 r.2)] }) none) s_.1 s_.2.1 s_.2.2 (L.markIntS_run2 n) (fun d => some d) none).symm
noncomputable def L.markIntS_tree {α : Type} (a : List Int) (k_ : Int) (leaf0_ : Int × (List Int) → α) (fail_ : α) : α :=
  (optC (L.markIntS_run2 FUEL (k_, 0, a)) (fun qy_1 => (leaf0_ (qy_1.1, qy_1.2))) fail_)
theorem L.markIntS_tree_nat {α γ : Type} (g : α → γ) (a : List Int) (k_ : Int) (leaf0_ : Int × (List Int) → α) (fail_ : α) : g (L.markIntS_tree a k_ leaf0_ fail_) = L.markIntS_tree a k_ (fun d => g (leaf0_ d)) (g fail_) := by
  unfold L.markIntS_tree; simp only [apply_cnd g, apply_optC g, apply_sumC g]
noncomputable def L.markIntS_t (a : List Int) (k_ : Int) : Option (Int × (List Int)) := L.markIntS_tree a k_ (fun d => some d) none
theorem L.markIntS_den (a : List Int) (k_ : Int) (κ : V → List E → R) : L.markIntS_F [.own 0, .int .i64 k_] [.row (.ints .i64 a)] κ = optC (L.markIntS_t a k_) (fun (r : Int × (List Int)) => κ (.int .i64 r.1) [.row (.ints .i64 r.2)]) none := by
  have hu : L.markIntS_F [.own 0, .int .i64 k_] [.row (.ints .i64 a)] κ = L.markIntS_tree a k_ (fun d => κ (.int .i64 d.1) [.row (.ints .i64 d.2)]) none := by
    refine Eq.trans (show L.markIntS_F [.own 0, .int .i64 k_] [.row (.ints .i64 a)] κ = (L.markIntS_L2 FUEL { n := 19, t := [(0, (.own 0)), (1, (.int .i64 k_)), (5, (.int .i64 0))], h := [.row (.ints .i64 a)] } (L.markIntS_k2 κ)) by kernel_rfl) ?_
    refine (L.markIntS_L2_run FUEL (k_, 0, a) (L.markIntS_k2 κ)).trans (optC_congr (fun qy_1 => ?_))
    kernel_rfl
  rw [hu]
  exact (L.markIntS_tree_nat (fun o => optC o (fun (r : Int × (List Int)) => κ (.int .i64 r.1) [.row (.ints .i64 r.2)]) none) a k_ (fun d => some d) none).symm
noncomputable def L.markIntS_s : D.Spec where
  keep := false
  pure := false
  add := false
  ds := [.pointer 0, .invalid]
  sp := fun args h κ => match args, h with
    | [.own 0, .int .i64 k_], [.row (.ints .i64 a)] => optC (L.markIntS_t a k_) (fun (r : Int × (List Int)) => κ (.int .i64 r.1) [.row (.ints .i64 r.2)]) none
    | _, _ => none
theorem L.markIntS_ok : SpecOk Try.prog 23 L.markIntS_s := by
  refine SpecOk.of TDok mixed (T := L.markIntS_T) ?_ (ann := L.markIntS_ann) Try.func23 rfl (by decide +kernel) ?_ ?_ ?_ ?_
  · intro p hp; cases hp
  · intro args h κ r hh
    simp only [L.markIntS_s] at hh
    split at hh
    · exact (L.markIntS_den _ _ κ).trans hh
    · cases hh
  · intro args h κ r hh
    simp only [L.markIntS_s] at hh ⊢
    split at hh
    · exact optC_law2 (F := fun (r : Int × (List Int)) κ => κ (.int .i64 r.1) [.row (.ints .i64 r.2)]) (fun b κ r hb => ⟨_, _, hb, fun _ => rfl⟩) hh
    · cases hh
  · intro hh; cases hh
  · intro hh; cases hh

-- loop.example/guardsonnets/laws.heldIntS
noncomputable def L.heldIntS_T : List (Nat × D.Spec) := []
def L.heldIntS_ann : Nat → List Nat × List Nat
  | 2 => ([0, 1, 5], [1, 4])
  | _ => ([], [])
noncomputable def L.heldIntS_F (args : List V) (h : List E) (κ : V → List E → R) : R := funC TD (tableK L.heldIntS_T) L.heldIntS_ann (drawOk TD (tableP L.heldIntS_T)) FUEL Try.f24 args h κ
noncomputable def L.heldIntS_L2 (n : Nat) (σ : St) (k : X → St → R) : R := iterC 0 (fun σ k => denC TD (tableK L.heldIntS_T) L.heldIntS_ann (drawOk TD (tableP L.heldIntS_T)) 0 FUEL ((findLoop 2 (Try.f24.body.getD .skip)).getD .skip) σ k) [0, 1, 5] [1, 4] n σ k
noncomputable def L.heldIntS_k2 (κ : V → List E → R) : X → St → R := (afterC TD (tableK L.heldIntS_T) L.heldIntS_ann (drawOk TD (tableP L.heldIntS_T)) 0 FUEL 2 (Try.f24.body.getD .skip) (finC TD 0 Try.f24 κ)).getD (fun _ _ => none)
noncomputable def L.heldIntS_step2 {α : Type} (x0 : List Int) (x1 : Int) (x5 : Int) (next_ : Int × Int → α) (out0_ : Int × Int → α) (out1_ : Int → α) (fail_ : α) : α :=
  (bif decide (x5 < (↑x0.length : Int)) then (bif decide (0 ≤ x5) && decide (x5 < (↑x0.length : Int)) then (bif !eli x0 x5.toNat == x1 then (out0_ (x1, -1)) else (next_ (IntKind.i64.wrap (x1 + 1), IntKind.i64.wrap (x5 + 1)))) else fail_) else (out1_ x1))
theorem L.heldIntS_step2_nat {α γ : Type} (g : α → γ) (x0 : List Int) (x1 : Int) (x5 : Int) (next_ : Int × Int → α) (out0_ : Int × Int → α) (out1_ : Int → α) (fail_ : α) : g (L.heldIntS_step2 x0 x1 x5 next_ out0_ out1_ fail_) = L.heldIntS_step2 x0 x1 x5 (fun s => g (next_ s)) (fun d => g (out0_ d)) (fun d => g (out1_ d)) (g fail_) := by
  unfold L.heldIntS_step2; simp only [apply_cnd g, apply_optC g, apply_sumC g]
noncomputable def L.heldIntS_run2 (x0 : List Int) : Nat → Int × Int → Option ((Int × Int) ⊕ (Int))
  | 0, _ => none
  | n + 1, s_ => L.heldIntS_step2 x0 s_.1 s_.2 (L.heldIntS_run2 x0 n) (fun d => some ((Sum.inl d))) (fun d => some ((Sum.inr d))) none
theorem L.heldIntS_L2_run (x0 : List Int) (n : Nat) (s_ : Int × Int) (k : X → St → R) : L.heldIntS_L2 n { n := 21, t := [(0, (.ro false (.ints .i64 x0))), (1, (.int .i64 s_.1)), (5, (.int .i64 s_.2))], h := [] } k = optC (L.heldIntS_run2 x0 n s_) (fun (r : (Int × Int) ⊕ (Int)) => (sumC r (fun (r : Int × Int) => k (.ret) { n := 21, t := [(1, (.int .i64 r.1)), (4, (.int .i64 r.2))], h := [] }) (fun (r : Int) => k (.exit 0) { n := 21, t := [(1, (.int .i64 r)), (4, .junk)], h := [] }))) none := by
  induction n generalizing s_ with
  | zero => rfl
  | succ n ih =>
    have hu : L.heldIntS_L2 (n + 1) { n := 21, t := [(0, (.ro false (.ints .i64 x0))), (1, (.int .i64 s_.1)), (5, (.int .i64 s_.2))], h := [] } k = L.heldIntS_step2 x0 s_.1 s_.2 (fun s_ => L.heldIntS_L2 n { n := 21, t := [(0, (.ro false (.ints .i64 x0))), (1, (.int .i64 s_.1)), (5, (.int .i64 s_.2))], h := [] } k) (fun d => k (.ret) { n := 21, t := [(1, (.int .i64 d.1)), (4, (.int .i64 d.2))], h := [] }) (fun d => k (.exit 0) { n := 21, t := [(1, (.int .i64 d)), (4, .junk)], h := [] }) none := by
      kernel_rfl
    have hs : (fun s_ : Int × Int => L.heldIntS_L2 n { n := 21, t := [(0, (.ro false (.ints .i64 x0))), (1, (.int .i64 s_.1)), (5, (.int .i64 s_.2))], h := [] } k) = fun s_ => optC (L.heldIntS_run2 x0 n s_) (fun (r : (Int × Int) ⊕ (Int)) => (sumC r (fun (r : Int × Int) => k (.ret) { n := 21, t := [(1, (.int .i64 r.1)), (4, (.int .i64 r.2))], h := [] }) (fun (r : Int) => k (.exit 0) { n := 21, t := [(1, (.int .i64 r)), (4, .junk)], h := [] }))) none := funext ih
    rw [hu, hs]
    exact (L.heldIntS_step2_nat (fun o => optC o (fun (r : (Int × Int) ⊕ (Int)) => (sumC r (fun (r : Int × Int) => k (.ret) { n := 21, t := [(1, (.int .i64 r.1)), (4, (.int .i64 r.2))], h := [] }) (fun (r : Int) => k (.exit 0) { n := 21, t := [(1, (.int .i64 r)), (4, .junk)], h := [] }))) none) x0 s_.1 s_.2 (L.heldIntS_run2 x0 n) (fun d => some ((Sum.inl d))) (fun d => some ((Sum.inr d))) none).symm
noncomputable def L.heldIntS_tree {α : Type} (a : List Int) (k_ : Int) (leaf0_ : Int → α) (fail_ : α) : α :=
  (optC (L.heldIntS_run2 a FUEL (k_, 0)) (fun qy_1 => (sumC qy_1 (fun (qy_1 : Int × Int) => (leaf0_ qy_1.2)) (fun (qy_1 : Int) => (leaf0_ qy_1)))) fail_)
theorem L.heldIntS_tree_nat {α γ : Type} (g : α → γ) (a : List Int) (k_ : Int) (leaf0_ : Int → α) (fail_ : α) : g (L.heldIntS_tree a k_ leaf0_ fail_) = L.heldIntS_tree a k_ (fun d => g (leaf0_ d)) (g fail_) := by
  unfold L.heldIntS_tree; simp only [apply_cnd g, apply_optC g, apply_sumC g]
noncomputable def L.heldIntS_t (a : List Int) (k_ : Int) : Option (Int) := L.heldIntS_tree a k_ (fun d => some d) none
theorem L.heldIntS_den (a : List Int) (k_ : Int) (κ : V → List E → R) : L.heldIntS_F [.ro false (.ints .i64 a), .int .i64 k_] [] κ = optC (L.heldIntS_t a k_) (fun (r : Int) => κ (.int .i64 r) []) none := by
  have hu : L.heldIntS_F [.ro false (.ints .i64 a), .int .i64 k_] [] κ = L.heldIntS_tree a k_ (fun d => κ (.int .i64 d) []) none := by
    refine Eq.trans (show L.heldIntS_F [.ro false (.ints .i64 a), .int .i64 k_] [] κ = (L.heldIntS_L2 FUEL { n := 21, t := [(0, (.ro false (.ints .i64 a))), (1, (.int .i64 k_)), (5, (.int .i64 0))], h := [] } (L.heldIntS_k2 κ)) by kernel_rfl) ?_
    refine (L.heldIntS_L2_run a FUEL (k_, 0) (L.heldIntS_k2 κ)).trans (optC_congr (fun qy_1 => ?_))
    rcases qy_1 with qy_1 | qy_1
    · kernel_rfl
    · kernel_rfl
  rw [hu]
  exact (L.heldIntS_tree_nat (fun o => optC o (fun (r : Int) => κ (.int .i64 r) []) none) a k_ (fun d => some d) none).symm
noncomputable def L.heldIntS_s : D.Spec where
  keep := false
  pure := true
  add := true
  ds := [.int .i64, .invalid]
  sp := fun args h κ => match args, h with
    | [.ro false (.ints .i64 a), .int .i64 k_], [] => optC (L.heldIntS_t a k_) (fun (r : Int) => κ (.int .i64 r) []) none
    | _, _ => none
theorem L.heldIntS_ok : SpecOk Try.prog 24 L.heldIntS_s := by
  refine SpecOk.of TDok mixed (T := L.heldIntS_T) ?_ (ann := L.heldIntS_ann) Try.func24 rfl (by decide +kernel) ?_ ?_ ?_ ?_
  · intro p hp; cases hp
  · intro args h κ r hh
    simp only [L.heldIntS_s] at hh
    split at hh
    · exact (L.heldIntS_den _ _ κ).trans hh
    · cases hh
  · intro args h κ r hh
    simp only [L.heldIntS_s] at hh ⊢
    split at hh
    · exact optC_law2 (F := fun (r : Int) κ => κ (.int .i64 r) []) (fun b κ r hb => ⟨_, _, hb, fun _ => rfl⟩) hh
    · cases hh
  · intro _ args h κ r hh
    simp only [L.heldIntS_s] at hh
    split at hh
    · exact ⟨rfl, fun _ => rfl⟩
    · cases hh
  · intro _ args h κ r hh
    simp only [L.heldIntS_s] at hh
    split at hh
    · rfl
    · cases hh


end Go.Proofs.Ytleianhibhpgpaa
