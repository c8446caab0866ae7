/- Twins of the translated functions, with their proofs. Conditions: none. -/
import Derived.Test.YtcckjofnglbbeaaBzT1
set_option linter.unusedVariables false
set_option linter.unusedSimpArgs false
set_option linter.unusedSectionVars false
namespace Go.Proofs.Ytcckjofnglbbeaa
open D Go.RowKit
-- loop.example/guardsonnets/impl.postBehind
noncomputable def I.postBehind_T : List (Nat × D.Spec) := [(57, I.firstPostIn_s), (80, I.AnsweredAll_s), (70, I.LogOf_s)]
def I.postBehind_ann : Nat → List Nat × List Nat
  | _ => ([], [])
noncomputable def I.postBehind_F (args : List V) (h : List E) (κ : V → List E → R) : R := funC TD (tableK I.postBehind_T) I.postBehind_ann (drawOk TD (tableP I.postBehind_T)) FUEL Try.f55 args h κ
noncomputable def I.postBehind_tree {α : Type} (net : List Int) (places : List Int) (leaf0_ : Int × (List Int) × (List Int) → α) (fail_ : α) : α :=
  (optC (I.firstPostIn_t net) (fun c_1 => (optC (I.AnsweredAll_t net c_1 places) (fun c_2 => (bif small ([] ++ net).length then (bif decide (0 ≤ IntKind.i64.wrap ((↑c_2.length : Int) - 1)) && decide (IntKind.i64.wrap ((↑c_2.length : Int) - 1) < (↑c_2.length : Int)) then (bif decide ((IntKind.i64.wrap ((↑c_2.length : Int) - 1)).toNat < c_2.length) then (optC (I.LogOf_t places) (fun c_3 => (leaf0_ (eli c_2 (IntKind.i64.wrap ((↑c_2.length : Int) - 1)).toNat, [] ++ net, c_3))) fail_) else fail_) else fail_) else fail_)) fail_)) fail_)
theorem I.postBehind_tree_nat {α γ : Type} (g : α → γ) (net : List Int) (places : List Int) (leaf0_ : Int × (List Int) × (List Int) → α) (fail_ : α) : g (I.postBehind_tree net places leaf0_ fail_) = I.postBehind_tree net places (fun d => g (leaf0_ d)) (g fail_) := by
  unfold I.postBehind_tree; simp only [apply_cnd g, apply_optC g, apply_sumC g]
noncomputable def I.postBehind_t (net : List Int) (places : List Int) : Option (Int × (List Int) × (List Int)) := I.postBehind_tree net places (fun d => some d) none
theorem I.postBehind_den (net : List Int) (places : List Int) (κ : V → List E → R) : I.postBehind_F [.ro false (.ints .i64 net), .ro false (.ints .i64 places)] [] κ = optC (I.postBehind_t net places) (fun (r : Int × (List Int) × (List Int)) => κ (.agg [(.own 0), (.int .i64 r.1), (.own 1)]) [.row (.ints .i64 r.2.1), .row (.ints .u8 r.2.2)]) none := by
  have hu : I.postBehind_F [.ro false (.ints .i64 net), .ro false (.ints .i64 places)] [] κ = I.postBehind_tree net places (fun d => κ (.agg [(.own 0), (.int .i64 d.1), (.own 1)]) [.row (.ints .i64 d.2.1), .row (.ints .u8 d.2.2)]) none := by
    kernel_rfl
  rw [hu]
  exact (I.postBehind_tree_nat (fun o => optC o (fun (r : Int × (List Int) × (List Int)) => κ (.agg [(.own 0), (.int .i64 r.1), (.own 1)]) [.row (.ints .i64 r.2.1), .row (.ints .u8 r.2.2)]) none) net places (fun d => some d) none).symm
noncomputable def I.postBehind_s : D.Spec where
  keep := false
  pure := false
  add := true
  ds := [.int .i64, .int .i64]
  sp := fun args h κ => match args, h with
    | [.ro false (.ints .i64 net), .ro false (.ints .i64 places)], [] => optC (I.postBehind_t net places) (fun (r : Int × (List Int) × (List Int)) => κ (.agg [(.own 0), (.int .i64 r.1), (.own 1)]) [.row (.ints .i64 r.2.1), .row (.ints .u8 r.2.2)]) none
    | _, _ => none
theorem I.postBehind_ok : SpecOk Try.prog 55 I.postBehind_s := by
  refine SpecOk.of TDok mixed (T := I.postBehind_T) ?_ (ann := I.postBehind_ann) Try.func55 rfl (by decide +kernel) ?_ ?_ ?_ ?_
  · intro p hp
    simp only [I.postBehind_T, List.mem_cons, List.not_mem_nil, or_false] at hp
    rcases hp with rfl | rfl | rfl
    · exact I.firstPostIn_ok
    · exact I.AnsweredAll_ok
    · exact I.LogOf_ok
  · intro args h κ r hh
    simp only [I.postBehind_s] at hh
    split at hh
    · exact (I.postBehind_den _ _ κ).trans hh
    · cases hh
  · intro args h κ r hh
    simp only [I.postBehind_s] at hh ⊢
    split at hh
    · exact optC_law2 (F := fun (r : Int × (List Int) × (List Int)) κ => κ (.agg [(.own 0), (.int .i64 r.1), (.own 1)]) [.row (.ints .i64 r.2.1), .row (.ints .u8 r.2.2)]) (fun b κ r hb => ⟨_, _, hb, fun _ => rfl⟩) hh
    · cases hh
  · intro hh; cases hh
  · intro _ args h κ r hh
    simp only [I.postBehind_s] at hh
    split at hh
    · rfl
    · cases hh

-- loop.example/guardsonnets/impl.PostRise
noncomputable def I.PostRise_T : List (Nat × D.Spec) := [(17, I.NetOk_s), (54, I.LogPlaces_s), (56, I.placesHere_s), (55, I.postBehind_s)]
def I.PostRise_ann : Nat → List Nat × List Nat
  | _ => ([], [])
noncomputable def I.PostRise_F (args : List V) (h : List E) (κ : V → List E → R) : R := funC TD (tableK I.PostRise_T) I.PostRise_ann (drawOk TD (tableP I.PostRise_T)) FUEL Try.f19 args h κ
noncomputable def I.PostRise_tree {α : Type} (net : List Int) (log : List Int) (leaf0_ : Int × Bool → α) (leaf1_ : Int × Bool × (List Int) × (List Int) → α) (fail_ : α) : α :=
  (optC (I.NetOk_t net) (fun c_1 => (bif !c_1 then (leaf0_ (0, false)) else (optC (I.LogPlaces_t log) (fun c_2 => (optC (I.placesHere_t net c_2.snd) (fun c_3 => (optC (I.postBehind_t net c_3) (fun c_4 => (leaf1_ (c_4.fst, true, c_4.snd.fst, c_4.snd.snd))) fail_)) fail_)) fail_))) fail_)
theorem I.PostRise_tree_nat {α γ : Type} (g : α → γ) (net : List Int) (log : List Int) (leaf0_ : Int × Bool → α) (leaf1_ : Int × Bool × (List Int) × (List Int) → α) (fail_ : α) : g (I.PostRise_tree net log leaf0_ leaf1_ fail_) = I.PostRise_tree net log (fun d => g (leaf0_ d)) (fun d => g (leaf1_ d)) (g fail_) := by
  unfold I.PostRise_tree; simp only [apply_cnd g, apply_optC g, apply_sumC g]
noncomputable def I.PostRise_t (net : List Int) (log : List Int) : Option ((Int × Bool) ⊕ (Int × Bool × (List Int) × (List Int))) := I.PostRise_tree net log (fun d => some ((Sum.inl d))) (fun d => some ((Sum.inr d))) none
theorem I.PostRise_den (net : List Int) (log : List Int) (κ : V → List E → R) : I.PostRise_F [.ro false (.ints .i64 net), .ro false (.ints .u8 log)] [] κ = optC (I.PostRise_t net log) (fun (r : (Int × Bool) ⊕ (Int × Bool × (List Int) × (List Int))) => (sumC r (fun (r : Int × Bool) => κ (.tup [(.agg [.nil, (.int .i64 r.1), .nil]), (.bool r.2)]) []) (fun (r : Int × Bool × (List Int) × (List Int)) => κ (.tup [(.agg [(.own 0), (.int .i64 r.1), (.own 1)]), (.bool r.2.1)]) [.row (.ints .i64 r.2.2.1), .row (.ints .u8 r.2.2.2)]))) none := by
  have hu : I.PostRise_F [.ro false (.ints .i64 net), .ro false (.ints .u8 log)] [] κ = I.PostRise_tree net log (fun d => κ (.tup [(.agg [.nil, (.int .i64 d.1), .nil]), (.bool d.2)]) []) (fun d => κ (.tup [(.agg [(.own 0), (.int .i64 d.1), (.own 1)]), (.bool d.2.1)]) [.row (.ints .i64 d.2.2.1), .row (.ints .u8 d.2.2.2)]) none := by
    kernel_rfl
  rw [hu]
  exact (I.PostRise_tree_nat (fun o => optC o (fun (r : (Int × Bool) ⊕ (Int × Bool × (List Int) × (List Int))) => (sumC r (fun (r : Int × Bool) => κ (.tup [(.agg [.nil, (.int .i64 r.1), .nil]), (.bool r.2)]) []) (fun (r : Int × Bool × (List Int) × (List Int)) => κ (.tup [(.agg [(.own 0), (.int .i64 r.1), (.own 1)]), (.bool r.2.1)]) [.row (.ints .i64 r.2.2.1), .row (.ints .u8 r.2.2.2)]))) none) net log (fun d => some ((Sum.inl d))) (fun d => some ((Sum.inr d))) none).symm
noncomputable def I.PostRise_s : D.Spec where
  keep := false
  pure := false
  add := true
  ds := [.int .i64, .int .u8]
  sp := fun args h κ => match args, h with
    | [.ro false (.ints .i64 net), .ro false (.ints .u8 log)], [] => optC (I.PostRise_t net log) (fun (r : (Int × Bool) ⊕ (Int × Bool × (List Int) × (List Int))) => (sumC r (fun (r : Int × Bool) => κ (.tup [(.agg [.nil, (.int .i64 r.1), .nil]), (.bool r.2)]) []) (fun (r : Int × Bool × (List Int) × (List Int)) => κ (.tup [(.agg [(.own 0), (.int .i64 r.1), (.own 1)]), (.bool r.2.1)]) [.row (.ints .i64 r.2.2.1), .row (.ints .u8 r.2.2.2)]))) none
    | _, _ => none
theorem I.PostRise_ok : SpecOk Try.prog 19 I.PostRise_s := by
  refine SpecOk.of TDok mixed (T := I.PostRise_T) ?_ (ann := I.PostRise_ann) Try.func19 rfl (by decide +kernel) ?_ ?_ ?_ ?_
  · intro p hp
    simp only [I.PostRise_T, List.mem_cons, List.not_mem_nil, or_false] at hp
    rcases hp with rfl | rfl | rfl | rfl
    · exact I.NetOk_ok
    · exact I.LogPlaces_ok
    · exact I.placesHere_ok
    · exact I.postBehind_ok
  · intro args h κ r hh
    simp only [I.PostRise_s] at hh
    split at hh
    · exact (I.PostRise_den _ _ κ).trans hh
    · cases hh
  · intro args h κ r hh
    simp only [I.PostRise_s] at hh ⊢
    split at hh
    · exact optC_law2 (F := fun (r : (Int × Bool) ⊕ (Int × Bool × (List Int) × (List Int))) κ => (sumC r (fun (r : Int × Bool) => κ (.tup [(.agg [.nil, (.int .i64 r.1), .nil]), (.bool r.2)]) []) (fun (r : Int × Bool × (List Int) × (List Int)) => κ (.tup [(.agg [(.own 0), (.int .i64 r.1), (.own 1)]), (.bool r.2.1)]) [.row (.ints .i64 r.2.2.1), .row (.ints .u8 r.2.2.2)]))) (fun b κ r hb => by rcases b with b | b <;> exact ⟨_, _, hb, fun _ => rfl⟩) hh
    · cases hh
  · intro hh; cases hh
  · intro _ args h κ r hh
    simp only [I.PostRise_s] at hh
    split at hh
    · rfl
    · cases hh

-- loop.example/guardsonnets/impl.PostNew
noncomputable def I.PostNew_T : List (Nat × D.Spec) := [(19, I.PostRise_s)]
def I.PostNew_ann : Nat → List Nat × List Nat
  | _ => ([], [])
noncomputable def I.PostNew_F (args : List V) (h : List E) (κ : V → List E → R) : R := funC TD (tableK I.PostNew_T) I.PostNew_ann (drawOk TD (tableP I.PostNew_T)) FUEL Try.f14 args h κ
noncomputable def I.PostNew_tree {α : Type} (net : List Int) (leaf0_ : Int × Bool → α) (leaf1_ : Int × Bool × (List Int) × (List Int) → α) (fail_ : α) : α :=
  (optC (I.PostRise_t net []) (fun c_1 => (sumC c_1 (fun c_2 => (leaf0_ (c_2.fst, c_2.snd))) (fun c_2 => (leaf1_ (c_2.fst, c_2.snd.fst, c_2.snd.snd.fst, c_2.snd.snd.snd))))) fail_)
theorem I.PostNew_tree_nat {α γ : Type} (g : α → γ) (net : List Int) (leaf0_ : Int × Bool → α) (leaf1_ : Int × Bool × (List Int) × (List Int) → α) (fail_ : α) : g (I.PostNew_tree net leaf0_ leaf1_ fail_) = I.PostNew_tree net (fun d => g (leaf0_ d)) (fun d => g (leaf1_ d)) (g fail_) := by
  unfold I.PostNew_tree; simp only [apply_cnd g, apply_optC g, apply_sumC g]
noncomputable def I.PostNew_t (net : List Int) : Option ((Int × Bool) ⊕ (Int × Bool × (List Int) × (List Int))) := I.PostNew_tree net (fun d => some ((Sum.inl d))) (fun d => some ((Sum.inr d))) none
theorem I.PostNew_den (net : List Int) (κ : V → List E → R) : I.PostNew_F [.ro false (.ints .i64 net)] [] κ = optC (I.PostNew_t net) (fun (r : (Int × Bool) ⊕ (Int × Bool × (List Int) × (List Int))) => (sumC r (fun (r : Int × Bool) => κ (.tup [(.agg [.nil, (.int .i64 r.1), .nil]), (.bool r.2)]) []) (fun (r : Int × Bool × (List Int) × (List Int)) => κ (.tup [(.agg [(.own 0), (.int .i64 r.1), (.own 1)]), (.bool r.2.1)]) [.row (.ints .i64 r.2.2.1), .row (.ints .u8 r.2.2.2)]))) none := by
  have hu : I.PostNew_F [.ro false (.ints .i64 net)] [] κ = I.PostNew_tree net (fun d => κ (.tup [(.agg [.nil, (.int .i64 d.1), .nil]), (.bool d.2)]) []) (fun d => κ (.tup [(.agg [(.own 0), (.int .i64 d.1), (.own 1)]), (.bool d.2.1)]) [.row (.ints .i64 d.2.2.1), .row (.ints .u8 d.2.2.2)]) none := by
    kernel_rfl
  rw [hu]
  exact (I.PostNew_tree_nat (fun o => optC o (fun (r : (Int × Bool) ⊕ (Int × Bool × (List Int) × (List Int))) => (sumC r (fun (r : Int × Bool) => κ (.tup [(.agg [.nil, (.int .i64 r.1), .nil]), (.bool r.2)]) []) (fun (r : Int × Bool × (List Int) × (List Int)) => κ (.tup [(.agg [(.own 0), (.int .i64 r.1), (.own 1)]), (.bool r.2.1)]) [.row (.ints .i64 r.2.2.1), .row (.ints .u8 r.2.2.2)]))) none) net (fun d => some ((Sum.inl d))) (fun d => some ((Sum.inr d))) none).symm
noncomputable def I.PostNew_s : D.Spec where
  keep := false
  pure := false
  add := true
  ds := [.int .i64]
  sp := fun args h κ => match args, h with
    | [.ro false (.ints .i64 net)], [] => optC (I.PostNew_t net) (fun (r : (Int × Bool) ⊕ (Int × Bool × (List Int) × (List Int))) => (sumC r (fun (r : Int × Bool) => κ (.tup [(.agg [.nil, (.int .i64 r.1), .nil]), (.bool r.2)]) []) (fun (r : Int × Bool × (List Int) × (List Int)) => κ (.tup [(.agg [(.own 0), (.int .i64 r.1), (.own 1)]), (.bool r.2.1)]) [.row (.ints .i64 r.2.2.1), .row (.ints .u8 r.2.2.2)]))) none
    | _, _ => none
theorem I.PostNew_ok : SpecOk Try.prog 14 I.PostNew_s := by
  refine SpecOk.of TDok mixed (T := I.PostNew_T) ?_ (ann := I.PostNew_ann) Try.func14 rfl (by decide +kernel) ?_ ?_ ?_ ?_
  · intro p hp
    simp only [I.PostNew_T, List.mem_cons, List.not_mem_nil, or_false] at hp
    rcases hp with rfl
    · exact I.PostRise_ok
  · intro args h κ r hh
    simp only [I.PostNew_s] at hh
    split at hh
    · exact (I.PostNew_den _ κ).trans hh
    · cases hh
  · intro args h κ r hh
    simp only [I.PostNew_s] at hh ⊢
    split at hh
    · exact optC_law2 (F := fun (r : (Int × Bool) ⊕ (Int × Bool × (List Int) × (List Int))) κ => (sumC r (fun (r : Int × Bool) => κ (.tup [(.agg [.nil, (.int .i64 r.1), .nil]), (.bool r.2)]) []) (fun (r : Int × Bool × (List Int) × (List Int)) => κ (.tup [(.agg [(.own 0), (.int .i64 r.1), (.own 1)]), (.bool r.2.1)]) [.row (.ints .i64 r.2.2.1), .row (.ints .u8 r.2.2.2)]))) (fun b κ r hb => by rcases b with b | b <;> exact ⟨_, _, hb, fun _ => rfl⟩) hh
    · cases hh
  · intro hh; cases hh
  · intro _ args h κ r hh
    simp only [I.PostNew_s] at hh
    split at hh
    · rfl
    · cases hh

-- loop.example/guardsonnets/spec.l1In
noncomputable def S.l1In_T : List (Nat × D.Spec) := []
def S.l1In_ann : Nat → List Nat × List Nat
  | _ => ([], [])
noncomputable def S.l1In_F (args : List V) (h : List E) (κ : V → List E → R) : R := funC TD (tableK S.l1In_T) S.l1In_ann (drawOk TD (tableP S.l1In_T)) FUEL Try.f71 args h κ
noncomputable def S.l1In_tree {α : Type} (n_ : Int) (low : Int) (high : Int) (leaf0_ : Bool → α) (fail_ : α) : α :=
  (bif decide (n_ ≥ low) then (leaf0_ (decide (n_ ≤ high))) else (leaf0_ false))
theorem S.l1In_tree_nat {α γ : Type} (g : α → γ) (n_ : Int) (low : Int) (high : Int) (leaf0_ : Bool → α) (fail_ : α) : g (S.l1In_tree n_ low high leaf0_ fail_) = S.l1In_tree n_ low high (fun d => g (leaf0_ d)) (g fail_) := by
  unfold S.l1In_tree; simp only [apply_cnd g, apply_optC g, apply_sumC g]
noncomputable def S.l1In_t (n_ : Int) (low : Int) (high : Int) : Option (Bool) := S.l1In_tree n_ low high (fun d => some d) none
theorem S.l1In_den (n_ : Int) (low : Int) (high : Int) (κ : V → List E → R) : S.l1In_F [.int .i64 n_, .int .i64 low, .int .i64 high] [] κ = optC (S.l1In_t n_ low high) (fun (r : Bool) => κ (.bool r) []) none := by
  have hu : S.l1In_F [.int .i64 n_, .int .i64 low, .int .i64 high] [] κ = S.l1In_tree n_ low high (fun d => κ (.bool d) []) none := by
    kernel_rfl
  rw [hu]
  exact (S.l1In_tree_nat (fun o => optC o (fun (r : Bool) => κ (.bool r) []) none) n_ low high (fun d => some d) none).symm
noncomputable def S.l1In_s : D.Spec where
  keep := false
  pure := true
  add := true
  ds := [.invalid, .invalid, .invalid]
  sp := fun args h κ => match args, h with
    | [.int .i64 n_, .int .i64 low, .int .i64 high], [] => optC (S.l1In_t n_ low high) (fun (r : Bool) => κ (.bool r) []) none
    | _, _ => none
theorem S.l1In_ok : SpecOk Try.prog 71 S.l1In_s := by
  refine SpecOk.of TDok mixed (T := S.l1In_T) ?_ (ann := S.l1In_ann) Try.func71 rfl (by decide +kernel) ?_ ?_ ?_ ?_
  · intro p hp; cases hp
  · intro args h κ r hh
    simp only [S.l1In_s] at hh
    split at hh
    · exact (S.l1In_den _ _ _ κ).trans hh
    · cases hh
  · intro args h κ r hh
    simp only [S.l1In_s] at hh ⊢
    split at hh
    · exact optC_law2 (F := fun (r : Bool) κ => κ (.bool r) []) (fun b κ r hb => ⟨_, _, hb, fun _ => rfl⟩) hh
    · cases hh
  · intro _ args h κ r hh
    simp only [S.l1In_s] at hh
    split at hh
    · exact ⟨rfl, fun _ => rfl⟩
    · cases hh
  · intro _ args h κ r hh
    simp only [S.l1In_s] at hh
    split at hh
    · rfl
    · cases hh

-- loop.example/guardsonnets/spec.NetOk
noncomputable def S.NetOk_T : List (Nat × D.Spec) := [(71, S.l1In_s)]
def S.NetOk_ann : Nat → List Nat × List Nat
  | 12 => ([0, 4, 5], [0, 2, 4])
  | 9 => ([0, 4], [2])
  | 4 => ([0, 3], [0, 2])
  | _ => ([], [])
noncomputable def S.NetOk_F (args : List V) (h : List E) (κ : V → List E → R) : R := funC TD (tableK S.NetOk_T) S.NetOk_ann (drawOk TD (tableP S.NetOk_T)) FUEL Try.f48 args h κ
noncomputable def S.NetOk_L12 (n : Nat) (σ : St) (k : X → St → R) : R := iterC 0 (fun σ k => denC TD (tableK S.NetOk_T) S.NetOk_ann (drawOk TD (tableP S.NetOk_T)) 0 FUEL ((findLoop 12 (Try.f48.body.getD .skip)).getD .skip) σ k) [0, 4, 5] [0, 2, 4] n σ k
noncomputable def S.NetOk_L9 (n : Nat) (σ : St) (k : X → St → R) : R := iterC 0 (fun σ k => denC TD (tableK S.NetOk_T) S.NetOk_ann (drawOk TD (tableP S.NetOk_T)) 0 FUEL ((findLoop 9 (Try.f48.body.getD .skip)).getD .skip) σ k) [0, 4] [2] n σ k
noncomputable def S.NetOk_L4 (n : Nat) (σ : St) (k : X → St → R) : R := iterC 0 (fun σ k => denC TD (tableK S.NetOk_T) S.NetOk_ann (drawOk TD (tableP S.NetOk_T)) 0 FUEL ((findLoop 4 (Try.f48.body.getD .skip)).getD .skip) σ k) [0, 3] [0, 2] n σ k
noncomputable def S.NetOk_k4 (κ : V → List E → R) : X → St → R := (afterC TD (tableK S.NetOk_T) S.NetOk_ann (drawOk TD (tableP S.NetOk_T)) 0 FUEL 4 (Try.f48.body.getD .skip) (finC TD 0 Try.f48 κ)).getD (fun _ _ => none)
noncomputable def S.NetOk_k12 (c : (St → R) × (X → St → R)) : X → St → R := (afterC TD (tableK S.NetOk_T) S.NetOk_ann (drawOk TD (tableP S.NetOk_T)) 0 FUEL 12 ((findLoop 9 (Try.f48.body.getD .skip)).getD .skip) (roundC 0 [0, 4] [2] c.1 c.2)).getD (fun _ _ => none)
noncomputable def S.NetOk_k9 (κ : V → List E → R) : X → St → R := (afterC TD (tableK S.NetOk_T) S.NetOk_ann (drawOk TD (tableP S.NetOk_T)) 0 FUEL 9 (Try.f48.body.getD .skip) (finC TD 0 Try.f48 κ)).getD (fun _ _ => none)
noncomputable def S.NetOk_step4 {α : Type} (x0 : List Int) (x3 : Int) (next_ : Int → α) (out0_ : Bool → α) (out1_ : Unit → α) (fail_ : α) : α :=
  (bif decide (x3 < (↑x0.length : Int)) then (bif decide (0 ≤ x3) && decide (x3 < (↑x0.length : Int)) then (optC (S.l1In_t (eli x0 x3.toNat) 0 (IntKind.i64.wrap (IntKind.i64.wrap (1 * 2 ^ min (↑x0.length : Int).toNat IntKind.i64.bits) - 1))) (fun c_2 => (bif !c_2 then (out0_ false) else (next_ (IntKind.i64.wrap (x3 + 1))))) fail_) else fail_) else (out1_ ()))
theorem S.NetOk_step4_nat {α γ : Type} (g : α → γ) (x0 : List Int) (x3 : Int) (next_ : Int → α) (out0_ : Bool → α) (out1_ : Unit → α) (fail_ : α) : g (S.NetOk_step4 x0 x3 next_ out0_ out1_ fail_) = S.NetOk_step4 x0 x3 (fun s => g (next_ s)) (fun d => g (out0_ d)) (fun d => g (out1_ d)) (g fail_) := by
  unfold S.NetOk_step4; simp only [apply_cnd g, apply_optC g, apply_sumC g]
noncomputable def S.NetOk_run4 (x0 : List Int) : Nat → Int → Option ((Bool) ⊕ (Unit))
  | 0, _ => none
  | n + 1, s_ => S.NetOk_step4 x0 s_ (S.NetOk_run4 x0 n) (fun d => some ((Sum.inl d))) (fun d => some ((Sum.inr d))) none
theorem S.NetOk_L4_run (x0 : List Int) (n : Nat) (s_ : Int) (k : X → St → R) : S.NetOk_L4 n { n := 68, t := [(0, (.ro false (.ints .i64 x0))), (3, (.int .i64 s_))], h := [] } k = optC (S.NetOk_run4 x0 n s_) (fun (r : (Bool) ⊕ (Unit)) => (sumC r (fun (r : Bool) => k (.ret) { n := 68, t := [(0, (.ro false (.ints .i64 x0))), (2, (.bool r))], h := [] }) (fun (r : Unit) => k (.exit 0) { n := 68, t := [(0, (.ro false (.ints .i64 x0))), (2, .junk)], h := [] }))) none := by
  induction n generalizing s_ with
  | zero => rfl
  | succ n ih =>
    have hu : S.NetOk_L4 (n + 1) { n := 68, t := [(0, (.ro false (.ints .i64 x0))), (3, (.int .i64 s_))], h := [] } k = S.NetOk_step4 x0 s_ (fun s_ => S.NetOk_L4 n { n := 68, t := [(0, (.ro false (.ints .i64 x0))), (3, (.int .i64 s_))], h := [] } k) (fun d => k (.ret) { n := 68, t := [(0, (.ro false (.ints .i64 x0))), (2, (.bool d))], h := [] }) (fun d => k (.exit 0) { n := 68, t := [(0, (.ro false (.ints .i64 x0))), (2, .junk)], h := [] }) none := by
      kernel_rfl
    have hs : (fun s_ : Int => S.NetOk_L4 n { n := 68, t := [(0, (.ro false (.ints .i64 x0))), (3, (.int .i64 s_))], h := [] } k) = fun s_ => optC (S.NetOk_run4 x0 n s_) (fun (r : (Bool) ⊕ (Unit)) => (sumC r (fun (r : Bool) => k (.ret) { n := 68, t := [(0, (.ro false (.ints .i64 x0))), (2, (.bool r))], h := [] }) (fun (r : Unit) => k (.exit 0) { n := 68, t := [(0, (.ro false (.ints .i64 x0))), (2, .junk)], h := [] }))) none := funext ih
    rw [hu, hs]
    exact (S.NetOk_step4_nat (fun o => optC o (fun (r : (Bool) ⊕ (Unit)) => (sumC r (fun (r : Bool) => k (.ret) { n := 68, t := [(0, (.ro false (.ints .i64 x0))), (2, (.bool r))], h := [] }) (fun (r : Unit) => k (.exit 0) { n := 68, t := [(0, (.ro false (.ints .i64 x0))), (2, .junk)], h := [] }))) none) x0 s_ (S.NetOk_run4 x0 n) (fun d => some ((Sum.inl d))) (fun d => some ((Sum.inr d))) none).symm
noncomputable def S.NetOk_step12 {α : Type} (x0 : List Int) (x4 : Int) (x5 : Int) (next_ : Int → α) (out0_ : Bool → α) (out1_ : Unit → α) (fail_ : α) : α :=
  (bif decide (x5 < (↑x0.length : Int)) then (bif decide (0 ≤ x4) && decide (x4 < (↑x0.length : Int)) then (bif decide (x5 < 0) then fail_ else (bif decide (0 ≤ x5) && decide (x5 < (↑x0.length : Int)) then (bif decide (x4 < 0) then fail_ else (bif !((eli x0 x4.toNat).fdiv (2 ^ min x5.toNat IntKind.i64.bits)).tmod 2 == ((eli x0 x5.toNat).fdiv (2 ^ min x4.toNat IntKind.i64.bits)).tmod 2 then (out0_ false) else (bif x5 == x4 then (bif decide (0 ≤ x4) && decide (x4 < (↑x0.length : Int)) then (bif decide (x5 < 0) then fail_ else (bif ((eli x0 x4.toNat).fdiv (2 ^ min x5.toNat IntKind.i64.bits)).tmod 2 == 1 then (out0_ false) else (next_ (IntKind.i64.wrap (x5 + 1))))) else fail_) else (next_ (IntKind.i64.wrap (x5 + 1)))))) else fail_)) else fail_) else (out1_ ()))
theorem S.NetOk_step12_nat {α γ : Type} (g : α → γ) (x0 : List Int) (x4 : Int) (x5 : Int) (next_ : Int → α) (out0_ : Bool → α) (out1_ : Unit → α) (fail_ : α) : g (S.NetOk_step12 x0 x4 x5 next_ out0_ out1_ fail_) = S.NetOk_step12 x0 x4 x5 (fun s => g (next_ s)) (fun d => g (out0_ d)) (fun d => g (out1_ d)) (g fail_) := by
  unfold S.NetOk_step12; simp only [apply_cnd g, apply_optC g, apply_sumC g]
noncomputable def S.NetOk_run12 (x0 : List Int) (x4 : Int) : Nat → Int → Option ((Bool) ⊕ (Unit))
  | 0, _ => none
  | n + 1, s_ => S.NetOk_step12 x0 x4 s_ (S.NetOk_run12 x0 x4 n) (fun d => some ((Sum.inl d))) (fun d => some ((Sum.inr d))) none
theorem S.NetOk_L12_run (x0 : List Int) (x4 : Int) (n : Nat) (s_ : Int) (k : X → St → R) : S.NetOk_L12 n { n := 68, t := [(0, (.ro false (.ints .i64 x0))), (4, (.int .i64 x4)), (5, (.int .i64 s_))], h := [] } k = optC (S.NetOk_run12 x0 x4 n s_) (fun (r : (Bool) ⊕ (Unit)) => (sumC r (fun (r : Bool) => k (.ret) { n := 68, t := [(0, (.ro false (.ints .i64 x0))), (2, (.bool r)), (4, (.int .i64 x4))], h := [] }) (fun (r : Unit) => k (.exit 4) { n := 68, t := [(0, (.ro false (.ints .i64 x0))), (2, .junk), (4, (.int .i64 x4))], h := [] }))) none := by
  induction n generalizing s_ with
  | zero => rfl
  | succ n ih =>
    have hu : S.NetOk_L12 (n + 1) { n := 68, t := [(0, (.ro false (.ints .i64 x0))), (4, (.int .i64 x4)), (5, (.int .i64 s_))], h := [] } k = S.NetOk_step12 x0 x4 s_ (fun s_ => S.NetOk_L12 n { n := 68, t := [(0, (.ro false (.ints .i64 x0))), (4, (.int .i64 x4)), (5, (.int .i64 s_))], h := [] } k) (fun d => k (.ret) { n := 68, t := [(0, (.ro false (.ints .i64 x0))), (2, (.bool d)), (4, (.int .i64 x4))], h := [] }) (fun d => k (.exit 4) { n := 68, t := [(0, (.ro false (.ints .i64 x0))), (2, .junk), (4, (.int .i64 x4))], h := [] }) none := by
      kernel_rfl
    have hs : (fun s_ : Int => S.NetOk_L12 n { n := 68, t := [(0, (.ro false (.ints .i64 x0))), (4, (.int .i64 x4)), (5, (.int .i64 s_))], h := [] } k) = fun s_ => optC (S.NetOk_run12 x0 x4 n s_) (fun (r : (Bool) ⊕ (Unit)) => (sumC r (fun (r : Bool) => k (.ret) { n := 68, t := [(0, (.ro false (.ints .i64 x0))), (2, (.bool r)), (4, (.int .i64 x4))], h := [] }) (fun (r : Unit) => k (.exit 4) { n := 68, t := [(0, (.ro false (.ints .i64 x0))), (2, .junk), (4, (.int .i64 x4))], h := [] }))) none := funext ih
    rw [hu, hs]
    exact (S.NetOk_step12_nat (fun o => optC o (fun (r : (Bool) ⊕ (Unit)) => (sumC r (fun (r : Bool) => k (.ret) { n := 68, t := [(0, (.ro false (.ints .i64 x0))), (2, (.bool r)), (4, (.int .i64 x4))], h := [] }) (fun (r : Unit) => k (.exit 4) { n := 68, t := [(0, (.ro false (.ints .i64 x0))), (2, .junk), (4, (.int .i64 x4))], h := [] }))) none) x0 x4 s_ (S.NetOk_run12 x0 x4 n) (fun d => some ((Sum.inl d))) (fun d => some ((Sum.inr d))) none).symm
noncomputable def S.NetOk_step9 {α : Type} (x0 : List Int) (x4 : Int) (next_ : Int → α) (out0_ : Bool → α) (out1_ : Unit → α) (fail_ : α) : α :=
  (bif decide (x4 < (↑x0.length : Int)) then (optC (S.NetOk_run12 x0 x4 FUEL 0) (fun qy_4 => (sumC qy_4 (fun (qy_4 : Bool) => (out0_ qy_4)) (fun (qy_4 : Unit) => (next_ (IntKind.i64.wrap (x4 + 1)))))) fail_) else (out1_ ()))
theorem S.NetOk_step9_nat {α γ : Type} (g : α → γ) (x0 : List Int) (x4 : Int) (next_ : Int → α) (out0_ : Bool → α) (out1_ : Unit → α) (fail_ : α) : g (S.NetOk_step9 x0 x4 next_ out0_ out1_ fail_) = S.NetOk_step9 x0 x4 (fun s => g (next_ s)) (fun d => g (out0_ d)) (fun d => g (out1_ d)) (g fail_) := by
  unfold S.NetOk_step9; simp only [apply_cnd g, apply_optC g, apply_sumC g]
noncomputable def S.NetOk_run9 (x0 : List Int) : Nat → Int → Option ((Bool) ⊕ (Unit))
  | 0, _ => none
  | n + 1, s_ => S.NetOk_step9 x0 s_ (S.NetOk_run9 x0 n) (fun d => some ((Sum.inl d))) (fun d => some ((Sum.inr d))) none
theorem S.NetOk_L9_run (x0 : List Int) (n : Nat) (s_ : Int) (k : X → St → R) : S.NetOk_L9 n { n := 68, t := [(0, (.ro false (.ints .i64 x0))), (4, (.int .i64 s_))], h := [] } k = optC (S.NetOk_run9 x0 n s_) (fun (r : (Bool) ⊕ (Unit)) => (sumC r (fun (r : Bool) => k (.ret) { n := 68, t := [(2, (.bool r))], h := [] }) (fun (r : Unit) => k (.exit 2) { n := 68, t := [(2, .junk)], h := [] }))) none := by
  induction n generalizing s_ with
  | zero => rfl
  | succ n ih =>
    have hu : S.NetOk_L9 (n + 1) { n := 68, t := [(0, (.ro false (.ints .i64 x0))), (4, (.int .i64 s_))], h := [] } k = S.NetOk_step9 x0 s_ (fun s_ => S.NetOk_L9 n { n := 68, t := [(0, (.ro false (.ints .i64 x0))), (4, (.int .i64 s_))], h := [] } k) (fun d => k (.ret) { n := 68, t := [(2, (.bool d))], h := [] }) (fun d => k (.exit 2) { n := 68, t := [(2, .junk)], h := [] }) none := by
      refine Eq.trans (show S.NetOk_L9 (n + 1) { n := 68, t := [(0, (.ro false (.ints .i64 x0))), (4, (.int .i64 s_))], h := [] } k = (bif decide (s_ < (↑x0.length : Int)) then (S.NetOk_L12 FUEL { n := 68, t := [(0, (.ro false (.ints .i64 x0))), (4, (.int .i64 s_)), (5, (.int .i64 0))], h := [] } (S.NetOk_k12 ((fun σ => S.NetOk_L9 n σ k), k))) else (k (.exit 2) { n := 68, t := [(2, .junk)], h := [] })) by kernel_rfl) ?_
      refine cnd_congr ?_ ?_
      · refine (S.NetOk_L12_run x0 s_ FUEL 0 (S.NetOk_k12 ((fun σ => S.NetOk_L9 n σ k), k))).trans (optC_congr (fun qy_4 => ?_))
        rcases qy_4 with qy_4 | qy_4
        · kernel_rfl
        · kernel_rfl
      · kernel_rfl
    have hs : (fun s_ : Int => S.NetOk_L9 n { n := 68, t := [(0, (.ro false (.ints .i64 x0))), (4, (.int .i64 s_))], h := [] } k) = fun s_ => optC (S.NetOk_run9 x0 n s_) (fun (r : (Bool) ⊕ (Unit)) => (sumC r (fun (r : Bool) => k (.ret) { n := 68, t := [(2, (.bool r))], h := [] }) (fun (r : Unit) => k (.exit 2) { n := 68, t := [(2, .junk)], h := [] }))) none := funext ih
    rw [hu, hs]
    exact (S.NetOk_step9_nat (fun o => optC o (fun (r : (Bool) ⊕ (Unit)) => (sumC r (fun (r : Bool) => k (.ret) { n := 68, t := [(2, (.bool r))], h := [] }) (fun (r : Unit) => k (.exit 2) { n := 68, t := [(2, .junk)], h := [] }))) none) x0 s_ (S.NetOk_run9 x0 n) (fun d => some ((Sum.inl d))) (fun d => some ((Sum.inr d))) none).symm
noncomputable def S.NetOk_tree {α : Type} (net : List Int) (leaf0_ : Bool → α) (fail_ : α) : α :=
  (optC (S.l1In_t (↑net.length : Int) 1 6) (fun c_1 => (bif !c_1 then (leaf0_ false) else (optC (S.NetOk_run4 net FUEL 0) (fun qy_3 => (sumC qy_3 (fun (qy_3 : Bool) => (leaf0_ qy_3)) (fun (qy_3 : Unit) => (optC (S.NetOk_run9 net FUEL 0) (fun qy_5 => (sumC qy_5 (fun (qy_5 : Bool) => (leaf0_ qy_5)) (fun (qy_5 : Unit) => (leaf0_ true)))) fail_)))) fail_))) fail_)
theorem S.NetOk_tree_nat {α γ : Type} (g : α → γ) (net : List Int) (leaf0_ : Bool → α) (fail_ : α) : g (S.NetOk_tree net leaf0_ fail_) = S.NetOk_tree net (fun d => g (leaf0_ d)) (g fail_) := by
  unfold S.NetOk_tree; simp only [apply_cnd g, apply_optC g, apply_sumC g]
noncomputable def S.NetOk_t (net : List Int) : Option (Bool) := S.NetOk_tree net (fun d => some d) none
theorem S.NetOk_den (net : List Int) (κ : V → List E → R) : S.NetOk_F [.ro false (.ints .i64 net)] [] κ = optC (S.NetOk_t net) (fun (r : Bool) => κ (.bool r) []) none := by
  have hu : S.NetOk_F [.ro false (.ints .i64 net)] [] κ = S.NetOk_tree net (fun d => κ (.bool d) []) none := by
    refine Eq.trans (show S.NetOk_F [.ro false (.ints .i64 net)] [] κ = (optC (S.l1In_t (↑net.length : Int) 1 6) (fun c_1 => (bif !c_1 then (κ (.bool false) []) else (S.NetOk_L4 FUEL { n := 68, t := [(0, (.ro false (.ints .i64 net))), (3, (.int .i64 0))], h := [] } (S.NetOk_k4 κ)))) none) by kernel_rfl) ?_
    refine optC_congr (fun c_1 => ?_)
    refine cnd_congr ?_ ?_
    · kernel_rfl
    · refine (S.NetOk_L4_run net FUEL 0 (S.NetOk_k4 κ)).trans (optC_congr (fun qy_3 => ?_))
      rcases qy_3 with qy_3 | qy_3
      · kernel_rfl
      · refine Eq.trans (show (S.NetOk_k4 κ (.exit 0) { n := 68, t := [(0, (.ro false (.ints .i64 net))), (2, .junk)], h := [] }) = (S.NetOk_L9 FUEL { n := 68, t := [(0, (.ro false (.ints .i64 net))), (4, (.int .i64 0))], h := [] } (S.NetOk_k9 κ)) by kernel_rfl) ?_
        refine (S.NetOk_L9_run net FUEL 0 (S.NetOk_k9 κ)).trans (optC_congr (fun qy_5 => ?_))
        rcases qy_5 with qy_5 | qy_5
        · kernel_rfl
        · kernel_rfl
  rw [hu]
  exact (S.NetOk_tree_nat (fun o => optC o (fun (r : Bool) => κ (.bool r) []) none) net (fun d => some d) none).symm
noncomputable def S.NetOk_s : D.Spec where
  keep := false
  pure := true
  add := true
  ds := [.int .i64]
  sp := fun args h κ => match args, h with
    | [.ro false (.ints .i64 net)], [] => optC (S.NetOk_t net) (fun (r : Bool) => κ (.bool r) []) none
    | _, _ => none
theorem S.NetOk_ok : SpecOk Try.prog 48 S.NetOk_s := by
  refine SpecOk.of TDok mixed (T := S.NetOk_T) ?_ (ann := S.NetOk_ann) Try.func48 rfl (by decide +kernel) ?_ ?_ ?_ ?_
  · intro p hp
    simp only [S.NetOk_T, List.mem_cons, List.not_mem_nil, or_false] at hp
    rcases hp with rfl
    · exact S.l1In_ok
  · intro args h κ r hh
    simp only [S.NetOk_s] at hh
    split at hh
    · exact (S.NetOk_den _ κ).trans hh
    · cases hh
  · intro args h κ r hh
    simp only [S.NetOk_s] at hh ⊢
    split at hh
    · exact optC_law2 (F := fun (r : Bool) κ => κ (.bool r) []) (fun b κ r hb => ⟨_, _, hb, fun _ => rfl⟩) hh
    · cases hh
  · intro _ args h κ r hh
    simp only [S.NetOk_s] at hh
    split at hh
    · exact ⟨rfl, fun _ => rfl⟩
    · cases hh
  · intro _ args h κ r hh
    simp only [S.NetOk_s] at hh
    split at hh
    · rfl
    · cases hh

-- loop.example/guardsonnets/spec.l8Moved
noncomputable def S.l8Moved_T : List (Nat × D.Spec) := []
def S.l8Moved_ann : Nat → List Nat × List Nat
  | _ => ([], [])
noncomputable def S.l8Moved_F (args : List V) (h : List E) (κ : V → List E → R) : R := funC TD (tableK S.l8Moved_T) S.l8Moved_ann (drawOk TD (tableP S.l8Moved_T)) FUEL Try.f92 args h κ
noncomputable def S.l8Moved_tree {α : Type} (set_ : Int) (from_ : Int) (to_ : Int) (leaf0_ : Int → α) (fail_ : α) : α :=
  (bif decide (from_ < 0) then fail_ else (bif decide (to_ < 0) then fail_ else (leaf0_ (bits BinOp.or IntKind.i64 (bits BinOp.andNot IntKind.i64 set_ (IntKind.i64.wrap (1 * 2 ^ min from_.toNat IntKind.i64.bits))) (IntKind.i64.wrap (1 * 2 ^ min to_.toNat IntKind.i64.bits))))))
theorem S.l8Moved_tree_nat {α γ : Type} (g : α → γ) (set_ : Int) (from_ : Int) (to_ : Int) (leaf0_ : Int → α) (fail_ : α) : g (S.l8Moved_tree set_ from_ to_ leaf0_ fail_) = S.l8Moved_tree set_ from_ to_ (fun d => g (leaf0_ d)) (g fail_) := by
  unfold S.l8Moved_tree; simp only [apply_cnd g, apply_optC g, apply_sumC g]
noncomputable def S.l8Moved_t (set_ : Int) (from_ : Int) (to_ : Int) : Option (Int) := S.l8Moved_tree set_ from_ to_ (fun d => some d) none
theorem S.l8Moved_den (set_ : Int) (from_ : Int) (to_ : Int) (κ : V → List E → R) : S.l8Moved_F [.int .i64 set_, .int .i64 from_, .int .i64 to_] [] κ = optC (S.l8Moved_t set_ from_ to_) (fun (r : Int) => κ (.int .i64 r) []) none := by
  have hu : S.l8Moved_F [.int .i64 set_, .int .i64 from_, .int .i64 to_] [] κ = S.l8Moved_tree set_ from_ to_ (fun d => κ (.int .i64 d) []) none := by
    kernel_rfl
  rw [hu]
  exact (S.l8Moved_tree_nat (fun o => optC o (fun (r : Int) => κ (.int .i64 r) []) none) set_ from_ to_ (fun d => some d) none).symm
noncomputable def S.l8Moved_s : D.Spec where
  keep := false
  pure := true
  add := true
  ds := [.invalid, .invalid, .invalid]
  sp := fun args h κ => match args, h with
    | [.int .i64 set_, .int .i64 from_, .int .i64 to_], [] => optC (S.l8Moved_t set_ from_ to_) (fun (r : Int) => κ (.int .i64 r) []) none
    | _, _ => none
theorem S.l8Moved_ok : SpecOk Try.prog 92 S.l8Moved_s := by
  refine SpecOk.of TDok mixed (T := S.l8Moved_T) ?_ (ann := S.l8Moved_ann) Try.func92 rfl (by decide +kernel) ?_ ?_ ?_ ?_
  · intro p hp; cases hp
  · intro args h κ r hh
    simp only [S.l8Moved_s] at hh
    split at hh
    · exact (S.l8Moved_den _ _ _ κ).trans hh
    · cases hh
  · intro args h κ r hh
    simp only [S.l8Moved_s] at hh ⊢
    split at hh
    · exact optC_law2 (F := fun (r : Int) κ => κ (.int .i64 r) []) (fun b κ r hb => ⟨_, _, hb, fun _ => rfl⟩) hh
    · cases hh
  · intro _ args h κ r hh
    simp only [S.l8Moved_s] at hh
    split at hh
    · exact ⟨rfl, fun _ => rfl⟩
    · cases hh
  · intro _ args h κ r hh
    simp only [S.l8Moved_s] at hh
    split at hh
    · rfl
    · cases hh

-- loop.example/guardsonnets/spec.l9Answer
noncomputable def S.l9Answer_T : List (Nat × D.Spec) := [(92, S.l8Moved_s)]
def S.l9Answer_ann : Nat → List Nat × List Nat
  | 2 => ([0, 1, 2, 3, 9], [8])
  | _ => ([], [])
noncomputable def S.l9Answer_F (args : List V) (h : List E) (κ : V → List E → R) : R := funC TD (tableK S.l9Answer_T) S.l9Answer_ann (drawOk TD (tableP S.l9Answer_T)) FUEL Try.f93 args h κ
noncomputable def S.l9Answer_L2 (n : Nat) (σ : St) (k : X → St → R) : R := iterC 0 (fun σ k => denC TD (tableK S.l9Answer_T) S.l9Answer_ann (drawOk TD (tableP S.l9Answer_T)) 0 FUEL ((findLoop 2 (Try.f93.body.getD .skip)).getD .skip) σ k) [0, 1, 2, 3, 9] [8] n σ k
noncomputable def S.l9Answer_k2 (κ : V → List E → R) : X → St → R := (afterC TD (tableK S.l9Answer_T) S.l9Answer_ann (drawOk TD (tableP S.l9Answer_T)) 0 FUEL 2 (Try.f93.body.getD .skip) (finC TD 0 Try.f93 κ)).getD (fun _ _ => none)
noncomputable def S.l9Answer_step2 {α : Type} (x0 : List Int) (x1 : List Bool) (x2 : Int) (x3 : Int) (x9 : Int) (next_ : Int → α) (out0_ : Int → α) (out1_ : Unit → α) (fail_ : α) : α :=
  (bif decide (x9 < (↑x0.length : Int)) then (bif decide (x9 < 0) then fail_ else (bif (x2.fdiv (2 ^ min x9.toNat IntKind.i64.bits)).tmod 2 == 1 then (bif decide (0 ≤ x3) && decide (x3 < (↑x0.length : Int)) then (bif decide (x9 < 0) then fail_ else (bif ((eli x0 x3.toNat).fdiv (2 ^ min x9.toNat IntKind.i64.bits)).tmod 2 == 1 then (optC (S.l8Moved_t x2 x9 x3) (fun c_1 => (bif decide (0 ≤ c_1) && decide (c_1 < (↑x1.length : Int)) then (bif elb x1 c_1.toNat then (out0_ x9) else (next_ (IntKind.i64.wrap (x9 + 1)))) else fail_)) fail_) else (next_ (IntKind.i64.wrap (x9 + 1))))) else fail_) else (next_ (IntKind.i64.wrap (x9 + 1))))) else (out1_ ()))
theorem S.l9Answer_step2_nat {α γ : Type} (g : α → γ) (x0 : List Int) (x1 : List Bool) (x2 : Int) (x3 : Int) (x9 : Int) (next_ : Int → α) (out0_ : Int → α) (out1_ : Unit → α) (fail_ : α) : g (S.l9Answer_step2 x0 x1 x2 x3 x9 next_ out0_ out1_ fail_) = S.l9Answer_step2 x0 x1 x2 x3 x9 (fun s => g (next_ s)) (fun d => g (out0_ d)) (fun d => g (out1_ d)) (g fail_) := by
  unfold S.l9Answer_step2; simp only [apply_cnd g, apply_optC g, apply_sumC g]
noncomputable def S.l9Answer_run2 (x0 : List Int) (x1 : List Bool) (x2 : Int) (x3 : Int) : Nat → Int → Option ((Int) ⊕ (Unit))
  | 0, _ => none
  | n + 1, s_ => S.l9Answer_step2 x0 x1 x2 x3 s_ (S.l9Answer_run2 x0 x1 x2 x3 n) (fun d => some ((Sum.inl d))) (fun d => some ((Sum.inr d))) none
theorem S.l9Answer_L2_run (x0 : List Int) (x1 : List Bool) (x2 : Int) (x3 : Int) (n : Nat) (s_ : Int) (k : X → St → R) : S.l9Answer_L2 n { n := 41, t := [(0, (.ro false (.ints .i64 x0))), (1, (.ro false (.bools x1))), (2, (.int .i64 x2)), (3, (.int .i64 x3)), (9, (.int .i64 s_))], h := [] } k = optC (S.l9Answer_run2 x0 x1 x2 x3 n s_) (fun (r : (Int) ⊕ (Unit)) => (sumC r (fun (r : Int) => k (.ret) { n := 41, t := [(8, (.int .i64 r))], h := [] }) (fun (r : Unit) => k (.exit 0) { n := 41, t := [(8, .junk)], h := [] }))) none := by
  induction n generalizing s_ with
  | zero => rfl
  | succ n ih =>
    have hu : S.l9Answer_L2 (n + 1) { n := 41, t := [(0, (.ro false (.ints .i64 x0))), (1, (.ro false (.bools x1))), (2, (.int .i64 x2)), (3, (.int .i64 x3)), (9, (.int .i64 s_))], h := [] } k = S.l9Answer_step2 x0 x1 x2 x3 s_ (fun s_ => S.l9Answer_L2 n { n := 41, t := [(0, (.ro false (.ints .i64 x0))), (1, (.ro false (.bools x1))), (2, (.int .i64 x2)), (3, (.int .i64 x3)), (9, (.int .i64 s_))], h := [] } k) (fun d => k (.ret) { n := 41, t := [(8, (.int .i64 d))], h := [] }) (fun d => k (.exit 0) { n := 41, t := [(8, .junk)], h := [] }) none := by
      kernel_rfl
    have hs : (fun s_ : Int => S.l9Answer_L2 n { n := 41, t := [(0, (.ro false (.ints .i64 x0))), (1, (.ro false (.bools x1))), (2, (.int .i64 x2)), (3, (.int .i64 x3)), (9, (.int .i64 s_))], h := [] } k) = fun s_ => optC (S.l9Answer_run2 x0 x1 x2 x3 n s_) (fun (r : (Int) ⊕ (Unit)) => (sumC r (fun (r : Int) => k (.ret) { n := 41, t := [(8, (.int .i64 r))], h := [] }) (fun (r : Unit) => k (.exit 0) { n := 41, t := [(8, .junk)], h := [] }))) none := funext ih
    rw [hu, hs]
    exact (S.l9Answer_step2_nat (fun o => optC o (fun (r : (Int) ⊕ (Unit)) => (sumC r (fun (r : Int) => k (.ret) { n := 41, t := [(8, (.int .i64 r))], h := [] }) (fun (r : Unit) => k (.exit 0) { n := 41, t := [(8, .junk)], h := [] }))) none) x0 x1 x2 x3 s_ (S.l9Answer_run2 x0 x1 x2 x3 n) (fun d => some ((Sum.inl d))) (fun d => some ((Sum.inr d))) none).symm
noncomputable def S.l9Answer_tree {α : Type} (net : List Int) (lasts : List Bool) (set_ : Int) (to_ : Int) (leaf0_ : Int → α) (fail_ : α) : α :=
  (optC (S.l9Answer_run2 net lasts set_ to_ FUEL 0) (fun qy_2 => (sumC qy_2 (fun (qy_2 : Int) => (leaf0_ qy_2)) (fun (qy_2 : Unit) => (leaf0_ (-1))))) fail_)
theorem S.l9Answer_tree_nat {α γ : Type} (g : α → γ) (net : List Int) (lasts : List Bool) (set_ : Int) (to_ : Int) (leaf0_ : Int → α) (fail_ : α) : g (S.l9Answer_tree net lasts set_ to_ leaf0_ fail_) = S.l9Answer_tree net lasts set_ to_ (fun d => g (leaf0_ d)) (g fail_) := by
  unfold S.l9Answer_tree; simp only [apply_cnd g, apply_optC g, apply_sumC g]
noncomputable def S.l9Answer_t (net : List Int) (lasts : List Bool) (set_ : Int) (to_ : Int) : Option (Int) := S.l9Answer_tree net lasts set_ to_ (fun d => some d) none
theorem S.l9Answer_den (net : List Int) (lasts : List Bool) (set_ : Int) (to_ : Int) (κ : V → List E → R) : S.l9Answer_F [.ro false (.ints .i64 net), .ro false (.bools lasts), .int .i64 set_, .int .i64 to_] [] κ = optC (S.l9Answer_t net lasts set_ to_) (fun (r : Int) => κ (.int .i64 r) []) none := by
  have hu : S.l9Answer_F [.ro false (.ints .i64 net), .ro false (.bools lasts), .int .i64 set_, .int .i64 to_] [] κ = S.l9Answer_tree net lasts set_ to_ (fun d => κ (.int .i64 d) []) none := by
    refine Eq.trans (show S.l9Answer_F [.ro false (.ints .i64 net), .ro false (.bools lasts), .int .i64 set_, .int .i64 to_] [] κ = (S.l9Answer_L2 FUEL { n := 41, t := [(0, (.ro false (.ints .i64 net))), (1, (.ro false (.bools lasts))), (2, (.int .i64 set_)), (3, (.int .i64 to_)), (9, (.int .i64 0))], h := [] } (S.l9Answer_k2 κ)) by kernel_rfl) ?_
    refine (S.l9Answer_L2_run net lasts set_ to_ FUEL 0 (S.l9Answer_k2 κ)).trans (optC_congr (fun qy_2 => ?_))
    rcases qy_2 with qy_2 | qy_2
    · kernel_rfl
    · kernel_rfl
  rw [hu]
  exact (S.l9Answer_tree_nat (fun o => optC o (fun (r : Int) => κ (.int .i64 r) []) none) net lasts set_ to_ (fun d => some d) none).symm
noncomputable def S.l9Answer_s : D.Spec where
  keep := false
  pure := true
  add := true
  ds := [.int .i64, .bool, .invalid, .invalid]
  sp := fun args h κ => match args, h with
    | [.ro false (.ints .i64 net), .ro false (.bools lasts), .int .i64 set_, .int .i64 to_], [] => optC (S.l9Answer_t net lasts set_ to_) (fun (r : Int) => κ (.int .i64 r) []) none
    | _, _ => none
theorem S.l9Answer_ok : SpecOk Try.prog 93 S.l9Answer_s := by
  refine SpecOk.of TDok mixed (T := S.l9Answer_T) ?_ (ann := S.l9Answer_ann) Try.func93 rfl (by decide +kernel) ?_ ?_ ?_ ?_
  · intro p hp
    simp only [S.l9Answer_T, List.mem_cons, List.not_mem_nil, or_false] at hp
    rcases hp with rfl
    · exact S.l8Moved_ok
  · intro args h κ r hh
    simp only [S.l9Answer_s] at hh
    split at hh
    · exact (S.l9Answer_den _ _ _ _ κ).trans hh
    · cases hh
  · intro args h κ r hh
    simp only [S.l9Answer_s] at hh ⊢
    split at hh
    · exact optC_law2 (F := fun (r : Int) κ => κ (.int .i64 r) []) (fun b κ r hb => ⟨_, _, hb, fun _ => rfl⟩) hh
    · cases hh
  · intro _ args h κ r hh
    simp only [S.l9Answer_s] at hh
    split at hh
    · exact ⟨rfl, fun _ => rfl⟩
    · cases hh
  · intro _ args h κ r hh
    simp only [S.l9Answer_s] at hh
    split at hh
    · rfl
    · cases hh

-- loop.example/guardsonnets/spec.l9Holds
noncomputable def S.l9Holds_T : List (Nat × D.Spec) := [(93, S.l9Answer_s)]
def S.l9Holds_ann : Nat → List Nat × List Nat
  | 2 => ([0, 1, 2, 7], [1, 2, 6])
  | _ => ([], [])
noncomputable def S.l9Holds_F (args : List V) (h : List E) (κ : V → List E → R) : R := funC TD (tableK S.l9Holds_T) S.l9Holds_ann (drawOk TD (tableP S.l9Holds_T)) FUEL Try.f99 args h κ
noncomputable def S.l9Holds_L2 (n : Nat) (σ : St) (k : X → St → R) : R := iterC 0 (fun σ k => denC TD (tableK S.l9Holds_T) S.l9Holds_ann (drawOk TD (tableP S.l9Holds_T)) 0 FUEL ((findLoop 2 (Try.f99.body.getD .skip)).getD .skip) σ k) [0, 1, 2, 7] [1, 2, 6] n σ k
noncomputable def S.l9Holds_k2 (κ : V → List E → R) : X → St → R := (afterC TD (tableK S.l9Holds_T) S.l9Holds_ann (drawOk TD (tableP S.l9Holds_T)) 0 FUEL 2 (Try.f99.body.getD .skip) (finC TD 0 Try.f99 κ)).getD (fun _ _ => none)
noncomputable def S.l9Holds_step2 {α : Type} (x0 : List Int) (x1 : List Bool) (x2 : Int) (x7 : Int) (next_ : Int → α) (out0_ : Bool → α) (out1_ : Unit → α) (fail_ : α) : α :=
  (bif decide (x7 < (↑x0.length : Int)) then (bif decide (x7 < 0) then fail_ else (bif (x2.fdiv (2 ^ min x7.toNat IntKind.i64.bits)).tmod 2 == 0 then (optC (S.l9Answer_t x0 x1 x2 x7) (fun c_1 => (bif decide (c_1 < 0) then (out0_ false) else (next_ (IntKind.i64.wrap (x7 + 1))))) fail_) else (next_ (IntKind.i64.wrap (x7 + 1))))) else (out1_ ()))
theorem S.l9Holds_step2_nat {α γ : Type} (g : α → γ) (x0 : List Int) (x1 : List Bool) (x2 : Int) (x7 : Int) (next_ : Int → α) (out0_ : Bool → α) (out1_ : Unit → α) (fail_ : α) : g (S.l9Holds_step2 x0 x1 x2 x7 next_ out0_ out1_ fail_) = S.l9Holds_step2 x0 x1 x2 x7 (fun s => g (next_ s)) (fun d => g (out0_ d)) (fun d => g (out1_ d)) (g fail_) := by
  unfold S.l9Holds_step2; simp only [apply_cnd g, apply_optC g, apply_sumC g]
noncomputable def S.l9Holds_run2 (x0 : List Int) (x1 : List Bool) (x2 : Int) : Nat → Int → Option ((Bool) ⊕ (Unit))
  | 0, _ => none
  | n + 1, s_ => S.l9Holds_step2 x0 x1 x2 s_ (S.l9Holds_run2 x0 x1 x2 n) (fun d => some ((Sum.inl d))) (fun d => some ((Sum.inr d))) none
theorem S.l9Holds_L2_run (x0 : List Int) (x1 : List Bool) (x2 : Int) (n : Nat) (s_ : Int) (k : X → St → R) : S.l9Holds_L2 n { n := 31, t := [(0, (.ro false (.ints .i64 x0))), (1, (.ro false (.bools x1))), (2, (.int .i64 x2)), (7, (.int .i64 s_))], h := [] } k = optC (S.l9Holds_run2 x0 x1 x2 n s_) (fun (r : (Bool) ⊕ (Unit)) => (sumC r (fun (r : Bool) => k (.ret) { n := 31, t := [(1, (.ro false (.bools x1))), (2, (.int .i64 x2)), (6, (.bool r))], h := [] }) (fun (r : Unit) => k (.exit 0) { n := 31, t := [(1, (.ro false (.bools x1))), (2, (.int .i64 x2)), (6, .junk)], h := [] }))) none := by
  induction n generalizing s_ with
  | zero => rfl
  | succ n ih =>
    have hu : S.l9Holds_L2 (n + 1) { n := 31, t := [(0, (.ro false (.ints .i64 x0))), (1, (.ro false (.bools x1))), (2, (.int .i64 x2)), (7, (.int .i64 s_))], h := [] } k = S.l9Holds_step2 x0 x1 x2 s_ (fun s_ => S.l9Holds_L2 n { n := 31, t := [(0, (.ro false (.ints .i64 x0))), (1, (.ro false (.bools x1))), (2, (.int .i64 x2)), (7, (.int .i64 s_))], h := [] } k) (fun d => k (.ret) { n := 31, t := [(1, (.ro false (.bools x1))), (2, (.int .i64 x2)), (6, (.bool d))], h := [] }) (fun d => k (.exit 0) { n := 31, t := [(1, (.ro false (.bools x1))), (2, (.int .i64 x2)), (6, .junk)], h := [] }) none := by
      kernel_rfl
    have hs : (fun s_ : Int => S.l9Holds_L2 n { n := 31, t := [(0, (.ro false (.ints .i64 x0))), (1, (.ro false (.bools x1))), (2, (.int .i64 x2)), (7, (.int .i64 s_))], h := [] } k) = fun s_ => optC (S.l9Holds_run2 x0 x1 x2 n s_) (fun (r : (Bool) ⊕ (Unit)) => (sumC r (fun (r : Bool) => k (.ret) { n := 31, t := [(1, (.ro false (.bools x1))), (2, (.int .i64 x2)), (6, (.bool r))], h := [] }) (fun (r : Unit) => k (.exit 0) { n := 31, t := [(1, (.ro false (.bools x1))), (2, (.int .i64 x2)), (6, .junk)], h := [] }))) none := funext ih
    rw [hu, hs]
    exact (S.l9Holds_step2_nat (fun o => optC o (fun (r : (Bool) ⊕ (Unit)) => (sumC r (fun (r : Bool) => k (.ret) { n := 31, t := [(1, (.ro false (.bools x1))), (2, (.int .i64 x2)), (6, (.bool r))], h := [] }) (fun (r : Unit) => k (.exit 0) { n := 31, t := [(1, (.ro false (.bools x1))), (2, (.int .i64 x2)), (6, .junk)], h := [] }))) none) x0 x1 x2 s_ (S.l9Holds_run2 x0 x1 x2 n) (fun d => some ((Sum.inl d))) (fun d => some ((Sum.inr d))) none).symm
noncomputable def S.l9Holds_tree {α : Type} (net : List Int) (lasts : List Bool) (set_ : Int) (leaf0_ : Bool → α) (fail_ : α) : α :=
  (optC (S.l9Holds_run2 net lasts set_ FUEL 0) (fun qy_2 => (sumC qy_2 (fun (qy_2 : Bool) => (leaf0_ qy_2)) (fun (qy_2 : Unit) => (bif decide (0 ≤ set_) && decide (set_ < (↑lasts.length : Int)) then (leaf0_ (elb lasts set_.toNat)) else fail_)))) fail_)
theorem S.l9Holds_tree_nat {α γ : Type} (g : α → γ) (net : List Int) (lasts : List Bool) (set_ : Int) (leaf0_ : Bool → α) (fail_ : α) : g (S.l9Holds_tree net lasts set_ leaf0_ fail_) = S.l9Holds_tree net lasts set_ (fun d => g (leaf0_ d)) (g fail_) := by
  unfold S.l9Holds_tree; simp only [apply_cnd g, apply_optC g, apply_sumC g]
noncomputable def S.l9Holds_t (net : List Int) (lasts : List Bool) (set_ : Int) : Option (Bool) := S.l9Holds_tree net lasts set_ (fun d => some d) none
theorem S.l9Holds_den (net : List Int) (lasts : List Bool) (set_ : Int) (κ : V → List E → R) : S.l9Holds_F [.ro false (.ints .i64 net), .ro false (.bools lasts), .int .i64 set_] [] κ = optC (S.l9Holds_t net lasts set_) (fun (r : Bool) => κ (.bool r) []) none := by
  have hu : S.l9Holds_F [.ro false (.ints .i64 net), .ro false (.bools lasts), .int .i64 set_] [] κ = S.l9Holds_tree net lasts set_ (fun d => κ (.bool d) []) none := by
    refine Eq.trans (show S.l9Holds_F [.ro false (.ints .i64 net), .ro false (.bools lasts), .int .i64 set_] [] κ = (S.l9Holds_L2 FUEL { n := 31, t := [(0, (.ro false (.ints .i64 net))), (1, (.ro false (.bools lasts))), (2, (.int .i64 set_)), (7, (.int .i64 0))], h := [] } (S.l9Holds_k2 κ)) by kernel_rfl) ?_
    refine (S.l9Holds_L2_run net lasts set_ FUEL 0 (S.l9Holds_k2 κ)).trans (optC_congr (fun qy_2 => ?_))
    rcases qy_2 with qy_2 | qy_2
    · kernel_rfl
    · kernel_rfl
  rw [hu]
  exact (S.l9Holds_tree_nat (fun o => optC o (fun (r : Bool) => κ (.bool r) []) none) net lasts set_ (fun d => some d) none).symm
noncomputable def S.l9Holds_s : D.Spec where
  keep := false
  pure := true
  add := true
  ds := [.int .i64, .bool, .invalid]
  sp := fun args h κ => match args, h with
    | [.ro false (.ints .i64 net), .ro false (.bools lasts), .int .i64 set_], [] => optC (S.l9Holds_t net lasts set_) (fun (r : Bool) => κ (.bool r) []) none
    | _, _ => none
theorem S.l9Holds_ok : SpecOk Try.prog 99 S.l9Holds_s := by
  refine SpecOk.of TDok mixed (T := S.l9Holds_T) ?_ (ann := S.l9Holds_ann) Try.func99 rfl (by decide +kernel) ?_ ?_ ?_ ?_
  · intro p hp
    simp only [S.l9Holds_T, List.mem_cons, List.not_mem_nil, or_false] at hp
    rcases hp with rfl
    · exact S.l9Answer_ok
  · intro args h κ r hh
    simp only [S.l9Holds_s] at hh
    split at hh
    · exact (S.l9Holds_den _ _ _ κ).trans hh
    · cases hh
  · intro args h κ r hh
    simp only [S.l9Holds_s] at hh ⊢
    split at hh
    · exact optC_law2 (F := fun (r : Bool) κ => κ (.bool r) []) (fun b κ r hb => ⟨_, _, hb, fun _ => rfl⟩) hh
    · cases hh
  · intro _ args h κ r hh
    simp only [S.l9Holds_s] at hh
    split at hh
    · exact ⟨rfl, fun _ => rfl⟩
    · cases hh
  · intro _ args h κ r hh
    simp only [S.l9Holds_s] at hh
    split at hh
    · rfl
    · cases hh

-- loop.example/guardsonnets/spec.l9Lasts
noncomputable def S.l9Lasts_T : List (Nat × D.Spec) := [(99, S.l9Holds_s)]
def S.l9Lasts_ann : Nat → List Nat × List Nat
  | 10 => ([0, 3, 5, 6], [0, 3, 5])
  | 7 => ([0, 3, 5], [3])
  | 3 => ([0, 3, 4], [0, 3])
  | _ => ([], [])
noncomputable def S.l9Lasts_F (args : List V) (h : List E) (κ : V → List E → R) : R := funC TD (tableK S.l9Lasts_T) S.l9Lasts_ann (drawOk TD (tableP S.l9Lasts_T)) FUEL Try.f90 args h κ
noncomputable def S.l9Lasts_L10 (n : Nat) (σ : St) (k : X → St → R) : R := iterC 0 (fun σ k => denC TD (tableK S.l9Lasts_T) S.l9Lasts_ann (drawOk TD (tableP S.l9Lasts_T)) 0 FUEL ((findLoop 10 (Try.f90.body.getD .skip)).getD .skip) σ k) [0, 3, 5, 6] [0, 3, 5] n σ k
noncomputable def S.l9Lasts_L7 (n : Nat) (σ : St) (k : X → St → R) : R := iterC 0 (fun σ k => denC TD (tableK S.l9Lasts_T) S.l9Lasts_ann (drawOk TD (tableP S.l9Lasts_T)) 0 FUEL ((findLoop 7 (Try.f90.body.getD .skip)).getD .skip) σ k) [0, 3, 5] [3] n σ k
noncomputable def S.l9Lasts_L3 (n : Nat) (σ : St) (k : X → St → R) : R := iterC 0 (fun σ k => denC TD (tableK S.l9Lasts_T) S.l9Lasts_ann (drawOk TD (tableP S.l9Lasts_T)) 0 FUEL ((findLoop 3 (Try.f90.body.getD .skip)).getD .skip) σ k) [0, 3, 4] [0, 3] n σ k
noncomputable def S.l9Lasts_k3 (κ : V → List E → R) : X → St → R := (afterC TD (tableK S.l9Lasts_T) S.l9Lasts_ann (drawOk TD (tableP S.l9Lasts_T)) 0 FUEL 3 (Try.f90.body.getD .skip) (finC TD 0 Try.f90 κ)).getD (fun _ _ => none)
noncomputable def S.l9Lasts_k10 (c : (St → R) × (X → St → R)) : X → St → R := (afterC TD (tableK S.l9Lasts_T) S.l9Lasts_ann (drawOk TD (tableP S.l9Lasts_T)) 0 FUEL 10 ((findLoop 7 (Try.f90.body.getD .skip)).getD .skip) (roundC 0 [0, 3, 5] [3] c.1 c.2)).getD (fun _ _ => none)
noncomputable def S.l9Lasts_k7 (κ : V → List E → R) : X → St → R := (afterC TD (tableK S.l9Lasts_T) S.l9Lasts_ann (drawOk TD (tableP S.l9Lasts_T)) 0 FUEL 7 (Try.f90.body.getD .skip) (finC TD 0 Try.f90 κ)).getD (fun _ _ => none)
noncomputable def S.l9Lasts_step3 {α : Type} (x0 : List Int) (x4 : Int) (r0 : List Bool) (next_ : Int × (List Bool) → α) (out0_ : List Bool → α) (fail_ : α) : α :=
  (bif decide (x4 < (↑r0.length : Int)) then (bif decide (0 ≤ x4) && decide (x4 < (↑r0.length : Int)) then (bif decide (x4.toNat < r0.length) then (next_ (IntKind.i64.wrap (x4 + 1), r0.set x4.toNat true)) else fail_) else fail_) else (out0_ r0))
theorem S.l9Lasts_step3_nat {α γ : Type} (g : α → γ) (x0 : List Int) (x4 : Int) (r0 : List Bool) (next_ : Int × (List Bool) → α) (out0_ : List Bool → α) (fail_ : α) : g (S.l9Lasts_step3 x0 x4 r0 next_ out0_ fail_) = S.l9Lasts_step3 x0 x4 r0 (fun s => g (next_ s)) (fun d => g (out0_ d)) (g fail_) := by
  unfold S.l9Lasts_step3; simp only [apply_cnd g, apply_optC g, apply_sumC g]
noncomputable def S.l9Lasts_run3 (x0 : List Int) : Nat → Int × (List Bool) → Option (List Bool)
  | 0, _ => none
  | n + 1, s_ => S.l9Lasts_step3 x0 s_.1 s_.2 (S.l9Lasts_run3 x0 n) (fun d => some d) none
theorem S.l9Lasts_L3_run (x0 : List Int) (n : Nat) (s_ : Int × (List Bool)) (k : X → St → R) : S.l9Lasts_L3 n { n := 42, t := [(0, (.ro false (.ints .i64 x0))), (3, (.own 0)), (4, (.int .i64 s_.1))], h := [.row (.bools s_.2)] } k = optC (S.l9Lasts_run3 x0 n s_) (fun (r : List Bool) => k (.exit 0) { n := 42, t := [(0, (.ro false (.ints .i64 x0))), (3, (.own 0))], h := [.row (.bools r)] }) none := by
  induction n generalizing s_ with
  | zero => rfl
  | succ n ih =>
    have hu : S.l9Lasts_L3 (n + 1) { n := 42, t := [(0, (.ro false (.ints .i64 x0))), (3, (.own 0)), (4, (.int .i64 s_.1))], h := [.row (.bools s_.2)] } k = S.l9Lasts_step3 x0 s_.1 s_.2 (fun s_ => S.l9Lasts_L3 n { n := 42, t := [(0, (.ro false (.ints .i64 x0))), (3, (.own 0)), (4, (.int .i64 s_.1))], h := [.row (.bools s_.2)] } k) (fun d => k (.exit 0) { n := 42, t := [(0, (.ro false (.ints .i64 x0))), (3, (.own 0))], h := [.row (.bools d)] }) none := by
      kernel_rfl
    have hs : (fun s_ : Int × (List Bool) => S.l9Lasts_L3 n { n := 42, t := [(0, (.ro false (.ints .i64 x0))), (3, (.own 0)), (4, (.int .i64 s_.1))], h := [.row (.bools s_.2)] } k) = fun s_ => optC (S.l9Lasts_run3 x0 n s_) (fun (r : List Bool) => k (.exit 0) { n := 42, t := [(0, (.ro false (.ints .i64 x0))), (3, (.own 0))], h := [.row (.bools r)] }) none := funext ih
    rw [hu, hs]
    exact (S.l9Lasts_step3_nat (fun o => optC o (fun (r : List Bool) => k (.exit 0) { n := 42, t := [(0, (.ro false (.ints .i64 x0))), (3, (.own 0))], h := [.row (.bools r)] }) none) x0 s_.1 s_.2 (S.l9Lasts_run3 x0 n) (fun d => some d) none).symm
noncomputable def S.l9Lasts_step10 {α : Type} (x0 : List Int) (x5 : Bool) (x6 : Int) (r0 : List Bool) (next_ : Bool × Int × (List Bool) → α) (out0_ : Bool × (List Bool) → α) (fail_ : α) : α :=
  (bif decide (x6 < (↑r0.length : Int)) then (bif decide (0 ≤ x6) && decide (x6 < (↑r0.length : Int)) then (bif decide (x6.toNat < r0.length) then (bif elb r0 x6.toNat then (optC (S.l9Holds_t x0 r0 x6) (fun c_2 => (bif !c_2 then (bif decide (0 ≤ x6) && decide (x6 < (↑r0.length : Int)) then (bif decide (x6.toNat < r0.length) then (next_ (true, IntKind.i64.wrap (x6 + 1), r0.set x6.toNat false)) else fail_) else fail_) else (next_ (x5, IntKind.i64.wrap (x6 + 1), r0)))) fail_) else (next_ (x5, IntKind.i64.wrap (x6 + 1), r0))) else fail_) else fail_) else (out0_ (x5, r0)))
theorem S.l9Lasts_step10_nat {α γ : Type} (g : α → γ) (x0 : List Int) (x5 : Bool) (x6 : Int) (r0 : List Bool) (next_ : Bool × Int × (List Bool) → α) (out0_ : Bool × (List Bool) → α) (fail_ : α) : g (S.l9Lasts_step10 x0 x5 x6 r0 next_ out0_ fail_) = S.l9Lasts_step10 x0 x5 x6 r0 (fun s => g (next_ s)) (fun d => g (out0_ d)) (g fail_) := by
  unfold S.l9Lasts_step10; simp only [apply_cnd g, apply_optC g, apply_sumC g]
noncomputable def S.l9Lasts_run10 (x0 : List Int) : Nat → Bool × Int × (List Bool) → Option (Bool × (List Bool))
  | 0, _ => none
  | n + 1, s_ => S.l9Lasts_step10 x0 s_.1 s_.2.1 s_.2.2 (S.l9Lasts_run10 x0 n) (fun d => some d) none
theorem S.l9Lasts_L10_run (x0 : List Int) (n : Nat) (s_ : Bool × Int × (List Bool)) (k : X → St → R) : S.l9Lasts_L10 n { n := 42, t := [(0, (.ro false (.ints .i64 x0))), (3, (.own 0)), (5, (.bool s_.1)), (6, (.int .i64 s_.2.1))], h := [.row (.bools s_.2.2)] } k = optC (S.l9Lasts_run10 x0 n s_) (fun (r : Bool × (List Bool)) => k (.exit 4) { n := 42, t := [(0, (.ro false (.ints .i64 x0))), (3, (.own 0)), (5, (.bool r.1))], h := [.row (.bools r.2)] }) none := by
  induction n generalizing s_ with
  | zero => rfl
  | succ n ih =>
    have hu : S.l9Lasts_L10 (n + 1) { n := 42, t := [(0, (.ro false (.ints .i64 x0))), (3, (.own 0)), (5, (.bool s_.1)), (6, (.int .i64 s_.2.1))], h := [.row (.bools s_.2.2)] } k = S.l9Lasts_step10 x0 s_.1 s_.2.1 s_.2.2 (fun s_ => S.l9Lasts_L10 n { n := 42, t := [(0, (.ro false (.ints .i64 x0))), (3, (.own 0)), (5, (.bool s_.1)), (6, (.int .i64 s_.2.1))], h := [.row (.bools s_.2.2)] } k) (fun d => k (.exit 4) { n := 42, t := [(0, (.ro false (.ints .i64 x0))), (3, (.own 0)), (5, (.bool d.1))], h := [.row (.bools d.2)] }) none := by
      kernel_rfl
    have hs : (fun s_ : Bool × Int × (List Bool) => S.l9Lasts_L10 n { n := 42, t := [(0, (.ro false (.ints .i64 x0))), (3, (.own 0)), (5, (.bool s_.1)), (6, (.int .i64 s_.2.1))], h := [.row (.bools s_.2.2)] } k) = fun s_ => optC (S.l9Lasts_run10 x0 n s_) (fun (r : Bool × (List Bool)) => k (.exit 4) { n := 42, t := [(0, (.ro false (.ints .i64 x0))), (3, (.own 0)), (5, (.bool r.1))], h := [.row (.bools r.2)] }) none := funext ih
    rw [hu, hs]
    exact (S.l9Lasts_step10_nat (fun o => optC o (fun (r : Bool × (List Bool)) => k (.exit 4) { n := 42, t := [(0, (.ro false (.ints .i64 x0))), (3, (.own 0)), (5, (.bool r.1))], h := [.row (.bools r.2)] }) none) x0 s_.1 s_.2.1 s_.2.2 (S.l9Lasts_run10 x0 n) (fun d => some d) none).symm
noncomputable def S.l9Lasts_step7 {α : Type} (x0 : List Int) (x5 : Bool) (r0 : List Bool) (next_ : Bool × (List Bool) → α) (out0_ : List Bool → α) (fail_ : α) : α :=
  (bif x5 then (optC (S.l9Lasts_run10 x0 FUEL (false, 0, r0)) (fun qy_3 => (next_ (qy_3.1, qy_3.2))) fail_) else (out0_ r0))
theorem S.l9Lasts_step7_nat {α γ : Type} (g : α → γ) (x0 : List Int) (x5 : Bool) (r0 : List Bool) (next_ : Bool × (List Bool) → α) (out0_ : List Bool → α) (fail_ : α) : g (S.l9Lasts_step7 x0 x5 r0 next_ out0_ fail_) = S.l9Lasts_step7 x0 x5 r0 (fun s => g (next_ s)) (fun d => g (out0_ d)) (g fail_) := by
  unfold S.l9Lasts_step7; simp only [apply_cnd g, apply_optC g, apply_sumC g]
noncomputable def S.l9Lasts_run7 (x0 : List Int) : Nat → Bool × (List Bool) → Option (List Bool)
  | 0, _ => none
  | n + 1, s_ => S.l9Lasts_step7 x0 s_.1 s_.2 (S.l9Lasts_run7 x0 n) (fun d => some d) none
theorem S.l9Lasts_L7_run (x0 : List Int) (n : Nat) (s_ : Bool × (List Bool)) (k : X → St → R) : S.l9Lasts_L7 n { n := 42, t := [(0, (.ro false (.ints .i64 x0))), (3, (.own 0)), (5, (.bool s_.1))], h := [.row (.bools s_.2)] } k = optC (S.l9Lasts_run7 x0 n s_) (fun (r : List Bool) => k (.exit 2) { n := 42, t := [(3, (.own 0))], h := [.row (.bools r)] }) none := by
  induction n generalizing s_ with
  | zero => rfl
  | succ n ih =>
    have hu : S.l9Lasts_L7 (n + 1) { n := 42, t := [(0, (.ro false (.ints .i64 x0))), (3, (.own 0)), (5, (.bool s_.1))], h := [.row (.bools s_.2)] } k = S.l9Lasts_step7 x0 s_.1 s_.2 (fun s_ => S.l9Lasts_L7 n { n := 42, t := [(0, (.ro false (.ints .i64 x0))), (3, (.own 0)), (5, (.bool s_.1))], h := [.row (.bools s_.2)] } k) (fun d => k (.exit 2) { n := 42, t := [(3, (.own 0))], h := [.row (.bools d)] }) none := by
      refine Eq.trans (show S.l9Lasts_L7 (n + 1) { n := 42, t := [(0, (.ro false (.ints .i64 x0))), (3, (.own 0)), (5, (.bool s_.1))], h := [.row (.bools s_.2)] } k = (bif s_.1 then (S.l9Lasts_L10 FUEL { n := 42, t := [(0, (.ro false (.ints .i64 x0))), (3, (.own 0)), (5, (.bool false)), (6, (.int .i64 0))], h := [.row (.bools s_.2)] } (S.l9Lasts_k10 ((fun σ => S.l9Lasts_L7 n σ k), k))) else (k (.exit 2) { n := 42, t := [(3, (.own 0))], h := [.row (.bools s_.2)] })) by kernel_rfl) ?_
      refine cnd_congr ?_ ?_
      · refine (S.l9Lasts_L10_run x0 FUEL (false, 0, s_.2) (S.l9Lasts_k10 ((fun σ => S.l9Lasts_L7 n σ k), k))).trans (optC_congr (fun qy_3 => ?_))
        kernel_rfl
      · kernel_rfl
    have hs : (fun s_ : Bool × (List Bool) => S.l9Lasts_L7 n { n := 42, t := [(0, (.ro false (.ints .i64 x0))), (3, (.own 0)), (5, (.bool s_.1))], h := [.row (.bools s_.2)] } k) = fun s_ => optC (S.l9Lasts_run7 x0 n s_) (fun (r : List Bool) => k (.exit 2) { n := 42, t := [(3, (.own 0))], h := [.row (.bools r)] }) none := funext ih
    rw [hu, hs]
    exact (S.l9Lasts_step7_nat (fun o => optC o (fun (r : List Bool) => k (.exit 2) { n := 42, t := [(3, (.own 0))], h := [.row (.bools r)] }) none) x0 s_.1 s_.2 (S.l9Lasts_run7 x0 n) (fun d => some d) none).symm
noncomputable def S.l9Lasts_tree {α : Type} (net : List Int) (leaf0_ : List Bool → α) (fail_ : α) : α :=
  (bif decide (0 ≤ IntKind.i64.wrap (1 * 2 ^ min (↑net.length : Int).toNat IntKind.i64.bits)) && small (IntKind.i64.wrap (1 * 2 ^ min (↑net.length : Int).toNat IntKind.i64.bits)).toNat && true then (optC (S.l9Lasts_run3 net FUEL (0, List.replicate (IntKind.i64.wrap (1 * 2 ^ min (↑net.length : Int).toNat IntKind.i64.bits)).toNat false)) (fun qy_1 => (optC (S.l9Lasts_run7 net FUEL (true, qy_1)) (fun qy_4 => (leaf0_ qy_4)) fail_)) fail_) else fail_)
theorem S.l9Lasts_tree_nat {α γ : Type} (g : α → γ) (net : List Int) (leaf0_ : List Bool → α) (fail_ : α) : g (S.l9Lasts_tree net leaf0_ fail_) = S.l9Lasts_tree net (fun d => g (leaf0_ d)) (g fail_) := by
  unfold S.l9Lasts_tree; simp only [apply_cnd g, apply_optC g, apply_sumC g]
noncomputable def S.l9Lasts_t (net : List Int) : Option (List Bool) := S.l9Lasts_tree net (fun d => some d) none
theorem S.l9Lasts_den (net : List Int) (κ : V → List E → R) : S.l9Lasts_F [.ro false (.ints .i64 net)] [] κ = optC (S.l9Lasts_t net) (fun (r : List Bool) => κ (.own 0) [.row (.bools r)]) none := by
  have hu : S.l9Lasts_F [.ro false (.ints .i64 net)] [] κ = S.l9Lasts_tree net (fun d => κ (.own 0) [.row (.bools d)]) none := by
    refine Eq.trans (show S.l9Lasts_F [.ro false (.ints .i64 net)] [] κ = (bif decide (0 ≤ IntKind.i64.wrap (1 * 2 ^ min (↑net.length : Int).toNat IntKind.i64.bits)) && small (IntKind.i64.wrap (1 * 2 ^ min (↑net.length : Int).toNat IntKind.i64.bits)).toNat && true then (S.l9Lasts_L3 FUEL { n := 42, t := [(0, (.ro false (.ints .i64 net))), (3, (.own 0)), (4, (.int .i64 0))], h := [.row (.bools (List.replicate (IntKind.i64.wrap (1 * 2 ^ min (↑net.length : Int).toNat IntKind.i64.bits)).toNat false))] } (S.l9Lasts_k3 κ)) else none) by kernel_rfl) ?_
    refine cnd_congr ?_ ?_
    · refine (S.l9Lasts_L3_run net FUEL (0, List.replicate (IntKind.i64.wrap (1 * 2 ^ min (↑net.length : Int).toNat IntKind.i64.bits)).toNat false) (S.l9Lasts_k3 κ)).trans (optC_congr (fun qy_1 => ?_))
      refine Eq.trans (show (S.l9Lasts_k3 κ (.exit 0) { n := 42, t := [(0, (.ro false (.ints .i64 net))), (3, (.own 0))], h := [.row (.bools qy_1)] }) = (S.l9Lasts_L7 FUEL { n := 42, t := [(0, (.ro false (.ints .i64 net))), (3, (.own 0)), (5, (.bool true))], h := [.row (.bools qy_1)] } (S.l9Lasts_k7 κ)) by kernel_rfl) ?_
      refine (S.l9Lasts_L7_run net FUEL (true, qy_1) (S.l9Lasts_k7 κ)).trans (optC_congr (fun qy_4 => ?_))
      kernel_rfl
    · kernel_rfl
  rw [hu]
  exact (S.l9Lasts_tree_nat (fun o => optC o (fun (r : List Bool) => κ (.own 0) [.row (.bools r)]) none) net (fun d => some d) none).symm
noncomputable def S.l9Lasts_s : D.Spec where
  keep := false
  pure := false
  add := true
  ds := [.int .i64]
  sp := fun args h κ => match args, h with
    | [.ro false (.ints .i64 net)], [] => optC (S.l9Lasts_t net) (fun (r : List Bool) => κ (.own 0) [.row (.bools r)]) none
    | _, _ => none
theorem S.l9Lasts_ok : SpecOk Try.prog 90 S.l9Lasts_s := by
  refine SpecOk.of TDok mixed (T := S.l9Lasts_T) ?_ (ann := S.l9Lasts_ann) Try.func90 rfl (by decide +kernel) ?_ ?_ ?_ ?_
  · intro p hp
    simp only [S.l9Lasts_T, List.mem_cons, List.not_mem_nil, or_false] at hp
    rcases hp with rfl
    · exact S.l9Holds_ok
  · intro args h κ r hh
    simp only [S.l9Lasts_s] at hh
    split at hh
    · exact (S.l9Lasts_den _ κ).trans hh
    · cases hh
  · intro args h κ r hh
    simp only [S.l9Lasts_s] at hh ⊢
    split at hh
    · exact optC_law2 (F := fun (r : List Bool) κ => κ (.own 0) [.row (.bools r)]) (fun b κ r hb => ⟨_, _, hb, fun _ => rfl⟩) hh
    · cases hh
  · intro hh; cases hh
  · intro _ args h κ r hh
    simp only [S.l9Lasts_s] at hh
    split at hh
    · rfl
    · cases hh

-- loop.example/guardsonnets/spec.EternalSets
noncomputable def S.EternalSets_T : List (Nat × D.Spec) := [(48, S.NetOk_s), (90, S.l9Lasts_s)]
def S.EternalSets_ann : Nat → List Nat × List Nat
  | 6 => ([3, 4, 5], [3])
  | _ => ([], [])
noncomputable def S.EternalSets_F (args : List V) (h : List E) (κ : V → List E → R) : R := funC TD (tableK S.EternalSets_T) S.EternalSets_ann (drawOk TD (tableP S.EternalSets_T)) FUEL Try.f75 args h κ
noncomputable def S.EternalSets_L6 (n : Nat) (σ : St) (k : X → St → R) : R := iterC 0 (fun σ k => denC TD (tableK S.EternalSets_T) S.EternalSets_ann (drawOk TD (tableP S.EternalSets_T)) 0 FUEL ((findLoop 6 (Try.f75.body.getD .skip)).getD .skip) σ k) [3, 4, 5] [3] n σ k
noncomputable def S.EternalSets_k6 (κ : V → List E → R) : X → St → R := (afterC TD (tableK S.EternalSets_T) S.EternalSets_ann (drawOk TD (tableP S.EternalSets_T)) 0 FUEL 6 (Try.f75.body.getD .skip) (finC TD 0 Try.f75 κ)).getD (fun _ _ => none)
noncomputable def S.EternalSets_step6 {α : Type} (x5 : Int) (r0 : List Int) (r1 : List Bool) (next_ : Int × (List Int) × (List Bool) → α) (out0_ : List Int → α) (fail_ : α) : α :=
  (bif decide (x5 < (↑r1.length : Int)) then (bif decide (0 ≤ x5) && decide (x5 < (↑r1.length : Int)) then (bif decide (x5.toNat < r1.length) then (bif elb r1 x5.toNat then (bif small (r0 ++ [x5]).length then (next_ (IntKind.i64.wrap (x5 + 1), r0 ++ [x5], r1)) else fail_) else (next_ (IntKind.i64.wrap (x5 + 1), r0, r1))) else fail_) else fail_) else (out0_ r0))
theorem S.EternalSets_step6_nat {α γ : Type} (g : α → γ) (x5 : Int) (r0 : List Int) (r1 : List Bool) (next_ : Int × (List Int) × (List Bool) → α) (out0_ : List Int → α) (fail_ : α) : g (S.EternalSets_step6 x5 r0 r1 next_ out0_ fail_) = S.EternalSets_step6 x5 r0 r1 (fun s => g (next_ s)) (fun d => g (out0_ d)) (g fail_) := by
  unfold S.EternalSets_step6; simp only [apply_cnd g, apply_optC g, apply_sumC g]
noncomputable def S.EternalSets_run6 : Nat → Int × (List Int) × (List Bool) → Option (List Int)
  | 0, _ => none
  | n + 1, s_ => S.EternalSets_step6 s_.1 s_.2.1 s_.2.2 (S.EternalSets_run6 n) (fun d => some d) none
theorem S.EternalSets_L6_run (n : Nat) (s_ : Int × (List Int) × (List Bool)) (k : X → St → R) : S.EternalSets_L6 n { n := 28, t := [(3, (.own 0)), (4, (.own 1)), (5, (.int .i64 s_.1))], h := [.row (.ints .i64 s_.2.1), .row (.bools s_.2.2)] } k = optC (S.EternalSets_run6 n s_) (fun (r : List Int) => k (.exit 0) { n := 28, t := [(3, (.own 0))], h := [.row (.ints .i64 r)] }) none := by
  induction n generalizing s_ with
  | zero => rfl
  | succ n ih =>
    have hu : S.EternalSets_L6 (n + 1) { n := 28, t := [(3, (.own 0)), (4, (.own 1)), (5, (.int .i64 s_.1))], h := [.row (.ints .i64 s_.2.1), .row (.bools s_.2.2)] } k = S.EternalSets_step6 s_.1 s_.2.1 s_.2.2 (fun s_ => S.EternalSets_L6 n { n := 28, t := [(3, (.own 0)), (4, (.own 1)), (5, (.int .i64 s_.1))], h := [.row (.ints .i64 s_.2.1), .row (.bools s_.2.2)] } k) (fun d => k (.exit 0) { n := 28, t := [(3, (.own 0))], h := [.row (.ints .i64 d)] }) none := by
      kernel_rfl
    have hs : (fun s_ : Int × (List Int) × (List Bool) => S.EternalSets_L6 n { n := 28, t := [(3, (.own 0)), (4, (.own 1)), (5, (.int .i64 s_.1))], h := [.row (.ints .i64 s_.2.1), .row (.bools s_.2.2)] } k) = fun s_ => optC (S.EternalSets_run6 n s_) (fun (r : List Int) => k (.exit 0) { n := 28, t := [(3, (.own 0))], h := [.row (.ints .i64 r)] }) none := funext ih
    rw [hu, hs]
    exact (S.EternalSets_step6_nat (fun o => optC o (fun (r : List Int) => k (.exit 0) { n := 28, t := [(3, (.own 0))], h := [.row (.ints .i64 r)] }) none) s_.1 s_.2.1 s_.2.2 (S.EternalSets_run6 n) (fun d => some d) none).symm
noncomputable def S.EternalSets_tree {α : Type} (net : List Int) (leaf0_ : List Int → α) (fail_ : α) : α :=
  (optC (S.NetOk_t net) (fun c_1 => (bif !c_1 then (leaf0_ ([])) else (optC (S.l9Lasts_t net) (fun c_2 => (optC (S.EternalSets_run6 FUEL (0, [], c_2)) (fun qy_3 => (leaf0_ qy_3)) fail_)) fail_))) fail_)
theorem S.EternalSets_tree_nat {α γ : Type} (g : α → γ) (net : List Int) (leaf0_ : List Int → α) (fail_ : α) : g (S.EternalSets_tree net leaf0_ fail_) = S.EternalSets_tree net (fun d => g (leaf0_ d)) (g fail_) := by
  unfold S.EternalSets_tree; simp only [apply_cnd g, apply_optC g, apply_sumC g]
noncomputable def S.EternalSets_t (net : List Int) : Option (List Int) := S.EternalSets_tree net (fun d => some d) none
theorem S.EternalSets_den (net : List Int) (κ : V → List E → R) : S.EternalSets_F [.ro false (.ints .i64 net)] [] κ = optC (S.EternalSets_t net) (fun (r : List Int) => κ (.own 0) [.row (.ints .i64 r)]) none := by
  have hu : S.EternalSets_F [.ro false (.ints .i64 net)] [] κ = S.EternalSets_tree net (fun d => κ (.own 0) [.row (.ints .i64 d)]) none := by
    refine Eq.trans (show S.EternalSets_F [.ro false (.ints .i64 net)] [] κ = (optC (S.NetOk_t net) (fun c_1 => (bif !c_1 then (κ (.own 0) [.row (.ints .i64 ([]))]) else (optC (S.l9Lasts_t net) (fun c_2 => (S.EternalSets_L6 FUEL { n := 28, t := [(3, (.own 0)), (4, (.own 1)), (5, (.int .i64 0))], h := [.row (.ints .i64 ([])), .row (.bools c_2)] } (S.EternalSets_k6 κ))) none))) none) by kernel_rfl) ?_
    refine optC_congr (fun c_1 => ?_)
    refine cnd_congr ?_ ?_
    · kernel_rfl
    · refine optC_congr (fun c_2 => ?_)
      refine (S.EternalSets_L6_run FUEL (0, [], c_2) (S.EternalSets_k6 κ)).trans (optC_congr (fun qy_3 => ?_))
      kernel_rfl
  rw [hu]
  exact (S.EternalSets_tree_nat (fun o => optC o (fun (r : List Int) => κ (.own 0) [.row (.ints .i64 r)]) none) net (fun d => some d) none).symm
noncomputable def S.EternalSets_s : D.Spec where
  keep := false
  pure := false
  add := true
  ds := [.int .i64]
  sp := fun args h κ => match args, h with
    | [.ro false (.ints .i64 net)], [] => optC (S.EternalSets_t net) (fun (r : List Int) => κ (.own 0) [.row (.ints .i64 r)]) none
    | _, _ => none
theorem S.EternalSets_ok : SpecOk Try.prog 75 S.EternalSets_s := by
  refine SpecOk.of TDok mixed (T := S.EternalSets_T) ?_ (ann := S.EternalSets_ann) Try.func75 rfl (by decide +kernel) ?_ ?_ ?_ ?_
  · intro p hp
    simp only [S.EternalSets_T, List.mem_cons, List.not_mem_nil, or_false] at hp
    rcases hp with rfl | rfl
    · exact S.NetOk_ok
    · exact S.l9Lasts_ok
  · intro args h κ r hh
    simp only [S.EternalSets_s] at hh
    split at hh
    · exact (S.EternalSets_den _ κ).trans hh
    · cases hh
  · intro args h κ r hh
    simp only [S.EternalSets_s] at hh ⊢
    split at hh
    · exact optC_law2 (F := fun (r : List Int) κ => κ (.own 0) [.row (.ints .i64 r)]) (fun b κ r hb => ⟨_, _, hb, fun _ => rfl⟩) hh
    · cases hh
  · intro hh; cases hh
  · intro _ args h κ r hh
    simp only [S.EternalSets_s] at hh
    split at hh
    · rfl
    · cases hh

-- loop.example/guardsonnets/spec.l1Size
noncomputable def S.l1Size_T : List (Nat × D.Spec) := []
def S.l1Size_ann : Nat → List Nat × List Nat
  | 2 => ([0, 3], [3])
  | _ => ([], [])
noncomputable def S.l1Size_F (args : List V) (h : List E) (κ : V → List E → R) : R := funC TD (tableK S.l1Size_T) S.l1Size_ann (drawOk TD (tableP S.l1Size_T)) FUEL Try.f77 args h κ
noncomputable def S.l1Size_L2 (n : Nat) (σ : St) (k : X → St → R) : R := iterC 0 (fun σ k => denC TD (tableK S.l1Size_T) S.l1Size_ann (drawOk TD (tableP S.l1Size_T)) 0 FUEL ((findLoop 2 (Try.f77.body.getD .skip)).getD .skip) σ k) [0, 3] [3] n σ k
noncomputable def S.l1Size_k2 (κ : V → List E → R) : X → St → R := (afterC TD (tableK S.l1Size_T) S.l1Size_ann (drawOk TD (tableP S.l1Size_T)) 0 FUEL 2 (Try.f77.body.getD .skip) (finC TD 0 Try.f77 κ)).getD (fun _ _ => none)
noncomputable def S.l1Size_step2 {α : Type} (x0 : Int) (x3 : Int) (next_ : Int × Int → α) (out0_ : Int → α) (fail_ : α) : α :=
  (bif decide (x0 > 0) then (next_ (IntKind.i64.wrap (x0.tdiv 2), IntKind.i64.wrap (x3 + x0.tmod 2))) else (out0_ x3))
theorem S.l1Size_step2_nat {α γ : Type} (g : α → γ) (x0 : Int) (x3 : Int) (next_ : Int × Int → α) (out0_ : Int → α) (fail_ : α) : g (S.l1Size_step2 x0 x3 next_ out0_ fail_) = S.l1Size_step2 x0 x3 (fun s => g (next_ s)) (fun d => g (out0_ d)) (g fail_) := by
  unfold S.l1Size_step2; simp only [apply_cnd g, apply_optC g, apply_sumC g]
noncomputable def S.l1Size_run2 : Nat → Int × Int → Option (Int)
  | 0, _ => none
  | n + 1, s_ => S.l1Size_step2 s_.1 s_.2 (S.l1Size_run2 n) (fun d => some d) none
theorem S.l1Size_L2_run (n : Nat) (s_ : Int × Int) (k : X → St → R) : S.l1Size_L2 n { n := 13, t := [(0, (.int .i64 s_.1)), (3, (.int .i64 s_.2))], h := [] } k = optC (S.l1Size_run2 n s_) (fun (r : Int) => k (.exit 0) { n := 13, t := [(3, (.int .i64 r))], h := [] }) none := by
  induction n generalizing s_ with
  | zero => rfl
  | succ n ih =>
    have hu : S.l1Size_L2 (n + 1) { n := 13, t := [(0, (.int .i64 s_.1)), (3, (.int .i64 s_.2))], h := [] } k = S.l1Size_step2 s_.1 s_.2 (fun s_ => S.l1Size_L2 n { n := 13, t := [(0, (.int .i64 s_.1)), (3, (.int .i64 s_.2))], h := [] } k) (fun d => k (.exit 0) { n := 13, t := [(3, (.int .i64 d))], h := [] }) none := by
      kernel_rfl
    have hs : (fun s_ : Int × Int => S.l1Size_L2 n { n := 13, t := [(0, (.int .i64 s_.1)), (3, (.int .i64 s_.2))], h := [] } k) = fun s_ => optC (S.l1Size_run2 n s_) (fun (r : Int) => k (.exit 0) { n := 13, t := [(3, (.int .i64 r))], h := [] }) none := funext ih
    rw [hu, hs]
    exact (S.l1Size_step2_nat (fun o => optC o (fun (r : Int) => k (.exit 0) { n := 13, t := [(3, (.int .i64 r))], h := [] }) none) s_.1 s_.2 (S.l1Size_run2 n) (fun d => some d) none).symm
noncomputable def S.l1Size_tree {α : Type} (set_ : Int) (leaf0_ : Int → α) (fail_ : α) : α :=
  (optC (S.l1Size_run2 FUEL (set_, 0)) (fun qy_1 => (leaf0_ qy_1)) fail_)
theorem S.l1Size_tree_nat {α γ : Type} (g : α → γ) (set_ : Int) (leaf0_ : Int → α) (fail_ : α) : g (S.l1Size_tree set_ leaf0_ fail_) = S.l1Size_tree set_ (fun d => g (leaf0_ d)) (g fail_) := by
  unfold S.l1Size_tree; simp only [apply_cnd g, apply_optC g, apply_sumC g]
noncomputable def S.l1Size_t (set_ : Int) : Option (Int) := S.l1Size_tree set_ (fun d => some d) none
theorem S.l1Size_den (set_ : Int) (κ : V → List E → R) : S.l1Size_F [.int .i64 set_] [] κ = optC (S.l1Size_t set_) (fun (r : Int) => κ (.int .i64 r) []) none := by
  have hu : S.l1Size_F [.int .i64 set_] [] κ = S.l1Size_tree set_ (fun d => κ (.int .i64 d) []) none := by
    refine Eq.trans (show S.l1Size_F [.int .i64 set_] [] κ = (S.l1Size_L2 FUEL { n := 13, t := [(0, (.int .i64 set_)), (3, (.int .i64 0))], h := [] } (S.l1Size_k2 κ)) by kernel_rfl) ?_
    refine (S.l1Size_L2_run FUEL (set_, 0) (S.l1Size_k2 κ)).trans (optC_congr (fun qy_1 => ?_))
    kernel_rfl
  rw [hu]
  exact (S.l1Size_tree_nat (fun o => optC o (fun (r : Int) => κ (.int .i64 r) []) none) set_ (fun d => some d) none).symm
noncomputable def S.l1Size_s : D.Spec where
  keep := false
  pure := true
  add := true
  ds := [.invalid]
  sp := fun args h κ => match args, h with
    | [.int .i64 set_], [] => optC (S.l1Size_t set_) (fun (r : Int) => κ (.int .i64 r) []) none
    | _, _ => none
theorem S.l1Size_ok : SpecOk Try.prog 77 S.l1Size_s := by
  refine SpecOk.of TDok mixed (T := S.l1Size_T) ?_ (ann := S.l1Size_ann) Try.func77 rfl (by decide +kernel) ?_ ?_ ?_ ?_
  · intro p hp; cases hp
  · intro args h κ r hh
    simp only [S.l1Size_s] at hh
    split at hh
    · exact (S.l1Size_den _ κ).trans hh
    · cases hh
  · intro args h κ r hh
    simp only [S.l1Size_s] at hh ⊢
    split at hh
    · exact optC_law2 (F := fun (r : Int) κ => κ (.int .i64 r) []) (fun b κ r hb => ⟨_, _, hb, fun _ => rfl⟩) hh
    · cases hh
  · intro _ args h κ r hh
    simp only [S.l1Size_s] at hh
    split at hh
    · exact ⟨rfl, fun _ => rfl⟩
    · cases hh
  · intro _ args h κ r hh
    simp only [S.l1Size_s] at hh
    split at hh
    · rfl
    · cases hh

-- loop.example/guardsonnets/spec.FewestEternal
noncomputable def S.FewestEternal_T : List (Nat × D.Spec) := [(48, S.NetOk_s), (75, S.EternalSets_s), (77, S.l1Size_s)]
def S.FewestEternal_ann : Nat → List Nat × List Nat
  | 6 => ([3, 4, 5], [3])
  | _ => ([], [])
noncomputable def S.FewestEternal_F (args : List V) (h : List E) (κ : V → List E → R) : R := funC TD (tableK S.FewestEternal_T) S.FewestEternal_ann (drawOk TD (tableP S.FewestEternal_T)) FUEL Try.f76 args h κ
noncomputable def S.FewestEternal_L6 (n : Nat) (σ : St) (k : X → St → R) : R := iterC 0 (fun σ k => denC TD (tableK S.FewestEternal_T) S.FewestEternal_ann (drawOk TD (tableP S.FewestEternal_T)) 0 FUEL ((findLoop 6 (Try.f76.body.getD .skip)).getD .skip) σ k) [3, 4, 5] [3] n σ k
noncomputable def S.FewestEternal_k6 (κ : V → List E → R) : X → St → R := (afterC TD (tableK S.FewestEternal_T) S.FewestEternal_ann (drawOk TD (tableP S.FewestEternal_T)) 0 FUEL 6 (Try.f76.body.getD .skip) (finC TD 0 Try.f76 κ)).getD (fun _ _ => none)
noncomputable def S.FewestEternal_step6 {α : Type} (x3 : Int) (x5 : Int) (r0 : List Int) (next_ : Int × Int × (List Int) → α) (out0_ : Int → α) (fail_ : α) : α :=
  (bif decide (x5 < (↑r0.length : Int)) then (bif decide (0 ≤ x5) && decide (x5 < (↑r0.length : Int)) then (bif decide (x5.toNat < r0.length) then (optC (S.l1Size_t (eli r0 x5.toNat)) (fun c_3 => (next_ (if c_3 < x3 then c_3 else x3, IntKind.i64.wrap (x5 + 1), r0))) fail_) else fail_) else fail_) else (out0_ x3))
theorem S.FewestEternal_step6_nat {α γ : Type} (g : α → γ) (x3 : Int) (x5 : Int) (r0 : List Int) (next_ : Int × Int × (List Int) → α) (out0_ : Int → α) (fail_ : α) : g (S.FewestEternal_step6 x3 x5 r0 next_ out0_ fail_) = S.FewestEternal_step6 x3 x5 r0 (fun s => g (next_ s)) (fun d => g (out0_ d)) (g fail_) := by
  unfold S.FewestEternal_step6; simp only [apply_cnd g, apply_optC g, apply_sumC g]
noncomputable def S.FewestEternal_run6 : Nat → Int × Int × (List Int) → Option (Int)
  | 0, _ => none
  | n + 1, s_ => S.FewestEternal_step6 s_.1 s_.2.1 s_.2.2 (S.FewestEternal_run6 n) (fun d => some d) none
theorem S.FewestEternal_L6_run (n : Nat) (s_ : Int × Int × (List Int)) (k : X → St → R) : S.FewestEternal_L6 n { n := 27, t := [(3, (.int .i64 s_.1)), (4, (.own 0)), (5, (.int .i64 s_.2.1))], h := [.row (.ints .i64 s_.2.2)] } k = optC (S.FewestEternal_run6 n s_) (fun (r : Int) => k (.exit 0) { n := 27, t := [(3, (.int .i64 r))], h := [] }) none := by
  induction n generalizing s_ with
  | zero => rfl
  | succ n ih =>
    have hu : S.FewestEternal_L6 (n + 1) { n := 27, t := [(3, (.int .i64 s_.1)), (4, (.own 0)), (5, (.int .i64 s_.2.1))], h := [.row (.ints .i64 s_.2.2)] } k = S.FewestEternal_step6 s_.1 s_.2.1 s_.2.2 (fun s_ => S.FewestEternal_L6 n { n := 27, t := [(3, (.int .i64 s_.1)), (4, (.own 0)), (5, (.int .i64 s_.2.1))], h := [.row (.ints .i64 s_.2.2)] } k) (fun d => k (.exit 0) { n := 27, t := [(3, (.int .i64 d))], h := [] }) none := by
      kernel_rfl
    have hs : (fun s_ : Int × Int × (List Int) => S.FewestEternal_L6 n { n := 27, t := [(3, (.int .i64 s_.1)), (4, (.own 0)), (5, (.int .i64 s_.2.1))], h := [.row (.ints .i64 s_.2.2)] } k) = fun s_ => optC (S.FewestEternal_run6 n s_) (fun (r : Int) => k (.exit 0) { n := 27, t := [(3, (.int .i64 r))], h := [] }) none := funext ih
    rw [hu, hs]
    exact (S.FewestEternal_step6_nat (fun o => optC o (fun (r : Int) => k (.exit 0) { n := 27, t := [(3, (.int .i64 r))], h := [] }) none) s_.1 s_.2.1 s_.2.2 (S.FewestEternal_run6 n) (fun d => some d) none).symm
noncomputable def S.FewestEternal_tree {α : Type} (net : List Int) (leaf0_ : Int → α) (fail_ : α) : α :=
  (optC (S.NetOk_t net) (fun c_1 => (bif !c_1 then (leaf0_ (-1)) else (optC (S.EternalSets_t net) (fun c_2 => (optC (S.FewestEternal_run6 FUEL ((↑net.length : Int), 0, c_2)) (fun qy_4 => (leaf0_ qy_4)) fail_)) fail_))) fail_)
theorem S.FewestEternal_tree_nat {α γ : Type} (g : α → γ) (net : List Int) (leaf0_ : Int → α) (fail_ : α) : g (S.FewestEternal_tree net leaf0_ fail_) = S.FewestEternal_tree net (fun d => g (leaf0_ d)) (g fail_) := by
  unfold S.FewestEternal_tree; simp only [apply_cnd g, apply_optC g, apply_sumC g]
noncomputable def S.FewestEternal_t (net : List Int) : Option (Int) := S.FewestEternal_tree net (fun d => some d) none
theorem S.FewestEternal_den (net : List Int) (κ : V → List E → R) : S.FewestEternal_F [.ro false (.ints .i64 net)] [] κ = optC (S.FewestEternal_t net) (fun (r : Int) => κ (.int .i64 r) []) none := by
  have hu : S.FewestEternal_F [.ro false (.ints .i64 net)] [] κ = S.FewestEternal_tree net (fun d => κ (.int .i64 d) []) none := by
    refine Eq.trans (show S.FewestEternal_F [.ro false (.ints .i64 net)] [] κ = (optC (S.NetOk_t net) (fun c_1 => (bif !c_1 then (κ (.int .i64 (-1)) []) else (optC (S.EternalSets_t net) (fun c_2 => (S.FewestEternal_L6 FUEL { n := 27, t := [(3, (.int .i64 ((↑net.length : Int)))), (4, (.own 0)), (5, (.int .i64 0))], h := [.row (.ints .i64 c_2)] } (S.FewestEternal_k6 κ))) none))) none) by kernel_rfl) ?_
    refine optC_congr (fun c_1 => ?_)
    refine cnd_congr ?_ ?_
    · kernel_rfl
    · refine optC_congr (fun c_2 => ?_)
      refine (S.FewestEternal_L6_run FUEL ((↑net.length : Int), 0, c_2) (S.FewestEternal_k6 κ)).trans (optC_congr (fun qy_4 => ?_))
      kernel_rfl
  rw [hu]
  exact (S.FewestEternal_tree_nat (fun o => optC o (fun (r : Int) => κ (.int .i64 r) []) none) net (fun d => some d) none).symm
noncomputable def S.FewestEternal_s : D.Spec where
  keep := false
  pure := true
  add := true
  ds := [.int .i64]
  sp := fun args h κ => match args, h with
    | [.ro false (.ints .i64 net)], [] => optC (S.FewestEternal_t net) (fun (r : Int) => κ (.int .i64 r) []) none
    | _, _ => none
theorem S.FewestEternal_ok : SpecOk Try.prog 76 S.FewestEternal_s := by
  refine SpecOk.of TDok mixed (T := S.FewestEternal_T) ?_ (ann := S.FewestEternal_ann) Try.func76 rfl (by decide +kernel) ?_ ?_ ?_ ?_
  · intro p hp
    simp only [S.FewestEternal_T, List.mem_cons, List.not_mem_nil, or_false] at hp
    rcases hp with rfl | rfl | rfl
    · exact S.NetOk_ok
    · exact S.EternalSets_ok
    · exact S.l1Size_ok
  · intro args h κ r hh
    simp only [S.FewestEternal_s] at hh
    split at hh
    · exact (S.FewestEternal_den _ κ).trans hh
    · cases hh
  · intro args h κ r hh
    simp only [S.FewestEternal_s] at hh ⊢
    split at hh
    · exact optC_law2 (F := fun (r : Int) κ => κ (.int .i64 r) []) (fun b κ r hb => ⟨_, _, hb, fun _ => rfl⟩) hh
    · cases hh
  · intro _ args h κ r hh
    simp only [S.FewestEternal_s] at hh
    split at hh
    · exact ⟨rfl, fun _ => rfl⟩
    · cases hh
  · intro _ args h κ r hh
    simp only [S.FewestEternal_s] at hh
    split at hh
    · rfl
    · cases hh

-- loop.example/guardsonnets/spec.FirstPost
noncomputable def S.FirstPost_T : List (Nat × D.Spec) := [(75, S.EternalSets_s), (76, S.FewestEternal_s), (77, S.l1Size_s)]
def S.FirstPost_ann : Nat → List Nat × List Nat
  | 4 => ([3, 4, 5], [2])
  | _ => ([], [])
noncomputable def S.FirstPost_F (args : List V) (h : List E) (κ : V → List E → R) : R := funC TD (tableK S.FirstPost_T) S.FirstPost_ann (drawOk TD (tableP S.FirstPost_T)) FUEL Try.f49 args h κ
noncomputable def S.FirstPost_L4 (n : Nat) (σ : St) (k : X → St → R) : R := iterC 0 (fun σ k => denC TD (tableK S.FirstPost_T) S.FirstPost_ann (drawOk TD (tableP S.FirstPost_T)) 0 FUEL ((findLoop 4 (Try.f49.body.getD .skip)).getD .skip) σ k) [3, 4, 5] [2] n σ k
noncomputable def S.FirstPost_k4 (κ : V → List E → R) : X → St → R := (afterC TD (tableK S.FirstPost_T) S.FirstPost_ann (drawOk TD (tableP S.FirstPost_T)) 0 FUEL 4 (Try.f49.body.getD .skip) (finC TD 0 Try.f49 κ)).getD (fun _ _ => none)
noncomputable def S.FirstPost_step4 {α : Type} (x4 : Int) (x5 : Int) (r0 : List Int) (next_ : Int × (List Int) → α) (out0_ : Int → α) (out1_ : Unit → α) (fail_ : α) : α :=
  (bif decide (x5 < (↑r0.length : Int)) then (bif decide (0 ≤ x5) && decide (x5 < (↑r0.length : Int)) then (bif decide (x5.toNat < r0.length) then (optC (S.l1Size_t (eli r0 x5.toNat)) (fun c_3 => (bif c_3 == x4 then (bif decide (0 ≤ x5) && decide (x5 < (↑r0.length : Int)) then (bif decide (x5.toNat < r0.length) then (out0_ (eli r0 x5.toNat)) else fail_) else fail_) else (next_ (IntKind.i64.wrap (x5 + 1), r0)))) fail_) else fail_) else fail_) else (out1_ ()))
theorem S.FirstPost_step4_nat {α γ : Type} (g : α → γ) (x4 : Int) (x5 : Int) (r0 : List Int) (next_ : Int × (List Int) → α) (out0_ : Int → α) (out1_ : Unit → α) (fail_ : α) : g (S.FirstPost_step4 x4 x5 r0 next_ out0_ out1_ fail_) = S.FirstPost_step4 x4 x5 r0 (fun s => g (next_ s)) (fun d => g (out0_ d)) (fun d => g (out1_ d)) (g fail_) := by
  unfold S.FirstPost_step4; simp only [apply_cnd g, apply_optC g, apply_sumC g]
noncomputable def S.FirstPost_run4 (x4 : Int) : Nat → Int × (List Int) → Option ((Int) ⊕ (Unit))
  | 0, _ => none
  | n + 1, s_ => S.FirstPost_step4 x4 s_.1 s_.2 (S.FirstPost_run4 x4 n) (fun d => some ((Sum.inl d))) (fun d => some ((Sum.inr d))) none
theorem S.FirstPost_L4_run (x4 : Int) (n : Nat) (s_ : Int × (List Int)) (k : X → St → R) : S.FirstPost_L4 n { n := 27, t := [(3, (.own 0)), (4, (.int .i64 x4)), (5, (.int .i64 s_.1))], h := [.row (.ints .i64 s_.2)] } k = optC (S.FirstPost_run4 x4 n s_) (fun (r : (Int) ⊕ (Unit)) => (sumC r (fun (r : Int) => k (.ret) { n := 27, t := [(2, (.int .i64 r))], h := [] }) (fun (r : Unit) => k (.exit 0) { n := 27, t := [(2, .junk)], h := [] }))) none := by
  induction n generalizing s_ with
  | zero => rfl
  | succ n ih =>
    have hu : S.FirstPost_L4 (n + 1) { n := 27, t := [(3, (.own 0)), (4, (.int .i64 x4)), (5, (.int .i64 s_.1))], h := [.row (.ints .i64 s_.2)] } k = S.FirstPost_step4 x4 s_.1 s_.2 (fun s_ => S.FirstPost_L4 n { n := 27, t := [(3, (.own 0)), (4, (.int .i64 x4)), (5, (.int .i64 s_.1))], h := [.row (.ints .i64 s_.2)] } k) (fun d => k (.ret) { n := 27, t := [(2, (.int .i64 d))], h := [] }) (fun d => k (.exit 0) { n := 27, t := [(2, .junk)], h := [] }) none := by
      kernel_rfl
    have hs : (fun s_ : Int × (List Int) => S.FirstPost_L4 n { n := 27, t := [(3, (.own 0)), (4, (.int .i64 x4)), (5, (.int .i64 s_.1))], h := [.row (.ints .i64 s_.2)] } k) = fun s_ => optC (S.FirstPost_run4 x4 n s_) (fun (r : (Int) ⊕ (Unit)) => (sumC r (fun (r : Int) => k (.ret) { n := 27, t := [(2, (.int .i64 r))], h := [] }) (fun (r : Unit) => k (.exit 0) { n := 27, t := [(2, .junk)], h := [] }))) none := funext ih
    rw [hu, hs]
    exact (S.FirstPost_step4_nat (fun o => optC o (fun (r : (Int) ⊕ (Unit)) => (sumC r (fun (r : Int) => k (.ret) { n := 27, t := [(2, (.int .i64 r))], h := [] }) (fun (r : Unit) => k (.exit 0) { n := 27, t := [(2, .junk)], h := [] }))) none) x4 s_.1 s_.2 (S.FirstPost_run4 x4 n) (fun d => some ((Sum.inl d))) (fun d => some ((Sum.inr d))) none).symm
noncomputable def S.FirstPost_tree {α : Type} (net : List Int) (leaf0_ : Int → α) (fail_ : α) : α :=
  (optC (S.EternalSets_t net) (fun c_1 => (optC (S.FewestEternal_t net) (fun c_2 => (optC (S.FirstPost_run4 c_2 FUEL (0, c_1)) (fun qy_4 => (sumC qy_4 (fun (qy_4 : Int) => (leaf0_ qy_4)) (fun (qy_4 : Unit) => (leaf0_ (-1))))) fail_)) fail_)) fail_)
theorem S.FirstPost_tree_nat {α γ : Type} (g : α → γ) (net : List Int) (leaf0_ : Int → α) (fail_ : α) : g (S.FirstPost_tree net leaf0_ fail_) = S.FirstPost_tree net (fun d => g (leaf0_ d)) (g fail_) := by
  unfold S.FirstPost_tree; simp only [apply_cnd g, apply_optC g, apply_sumC g]
noncomputable def S.FirstPost_t (net : List Int) : Option (Int) := S.FirstPost_tree net (fun d => some d) none
theorem S.FirstPost_den (net : List Int) (κ : V → List E → R) : S.FirstPost_F [.ro false (.ints .i64 net)] [] κ = optC (S.FirstPost_t net) (fun (r : Int) => κ (.int .i64 r) []) none := by
  have hu : S.FirstPost_F [.ro false (.ints .i64 net)] [] κ = S.FirstPost_tree net (fun d => κ (.int .i64 d) []) none := by
    refine Eq.trans (show S.FirstPost_F [.ro false (.ints .i64 net)] [] κ = (optC (S.EternalSets_t net) (fun c_1 => (optC (S.FewestEternal_t net) (fun c_2 => (S.FirstPost_L4 FUEL { n := 27, t := [(3, (.own 0)), (4, (.int .i64 c_2)), (5, (.int .i64 0))], h := [.row (.ints .i64 c_1)] } (S.FirstPost_k4 κ))) none)) none) by kernel_rfl) ?_
    refine optC_congr (fun c_1 => ?_)
    refine optC_congr (fun c_2 => ?_)
    refine (S.FirstPost_L4_run c_2 FUEL (0, c_1) (S.FirstPost_k4 κ)).trans (optC_congr (fun qy_4 => ?_))
    rcases qy_4 with qy_4 | qy_4
    · kernel_rfl
    · kernel_rfl
  rw [hu]
  exact (S.FirstPost_tree_nat (fun o => optC o (fun (r : Int) => κ (.int .i64 r) []) none) net (fun d => some d) none).symm
noncomputable def S.FirstPost_s : D.Spec where
  keep := false
  pure := true
  add := true
  ds := [.int .i64]
  sp := fun args h κ => match args, h with
    | [.ro false (.ints .i64 net)], [] => optC (S.FirstPost_t net) (fun (r : Int) => κ (.int .i64 r) []) none
    | _, _ => none
theorem S.FirstPost_ok : SpecOk Try.prog 49 S.FirstPost_s := by
  refine SpecOk.of TDok mixed (T := S.FirstPost_T) ?_ (ann := S.FirstPost_ann) Try.func49 rfl (by decide +kernel) ?_ ?_ ?_ ?_
  · intro p hp
    simp only [S.FirstPost_T, List.mem_cons, List.not_mem_nil, or_false] at hp
    rcases hp with rfl | rfl | rfl
    · exact S.EternalSets_ok
    · exact S.FewestEternal_ok
    · exact S.l1Size_ok
  · intro args h κ r hh
    simp only [S.FirstPost_s] at hh
    split at hh
    · exact (S.FirstPost_den _ κ).trans hh
    · cases hh
  · intro args h κ r hh
    simp only [S.FirstPost_s] at hh ⊢
    split at hh
    · exact optC_law2 (F := fun (r : Int) κ => κ (.int .i64 r) []) (fun b κ r hb => ⟨_, _, hb, fun _ => rfl⟩) hh
    · cases hh
  · intro _ args h κ r hh
    simp only [S.FirstPost_s] at hh
    split at hh
    · exact ⟨rfl, fun _ => rfl⟩
    · cases hh
  · intro _ args h κ r hh
    simp only [S.FirstPost_s] at hh
    split at hh
    · rfl
    · cases hh

-- loop.example/guardsonnets/spec.PostNew
noncomputable def S.PostNew_T : List (Nat × D.Spec) := [(48, S.NetOk_s), (49, S.FirstPost_s)]
def S.PostNew_ann : Nat → List Nat × List Nat
  | _ => ([], [])
noncomputable def S.PostNew_F (args : List V) (h : List E) (κ : V → List E → R) : R := funC TD (tableK S.PostNew_T) S.PostNew_ann (drawOk TD (tableP S.PostNew_T)) FUEL Try.f15 args h κ
noncomputable def S.PostNew_tree {α : Type} (net : List Int) (leaf0_ : Int × Bool → α) (leaf1_ : Int × Bool × (List Int) × (List Int) → α) (fail_ : α) : α :=
  (optC (S.NetOk_t net) (fun c_1 => (bif !c_1 then (leaf0_ (0, false)) else (bif small ([] ++ net).length then (optC (S.FirstPost_t net) (fun c_2 => (leaf1_ (c_2, true, [] ++ net, []))) fail_) else fail_))) fail_)
theorem S.PostNew_tree_nat {α γ : Type} (g : α → γ) (net : List Int) (leaf0_ : Int × Bool → α) (leaf1_ : Int × Bool × (List Int) × (List Int) → α) (fail_ : α) : g (S.PostNew_tree net leaf0_ leaf1_ fail_) = S.PostNew_tree net (fun d => g (leaf0_ d)) (fun d => g (leaf1_ d)) (g fail_) := by
  unfold S.PostNew_tree; simp only [apply_cnd g, apply_optC g, apply_sumC g]
noncomputable def S.PostNew_t (net : List Int) : Option ((Int × Bool) ⊕ (Int × Bool × (List Int) × (List Int))) := S.PostNew_tree net (fun d => some ((Sum.inl d))) (fun d => some ((Sum.inr d))) none
theorem S.PostNew_den (net : List Int) (κ : V → List E → R) : S.PostNew_F [.ro false (.ints .i64 net)] [] κ = optC (S.PostNew_t net) (fun (r : (Int × Bool) ⊕ (Int × Bool × (List Int) × (List Int))) => (sumC r (fun (r : Int × Bool) => κ (.tup [(.agg [.nil, (.int .i64 r.1), .nil]), (.bool r.2)]) []) (fun (r : Int × Bool × (List Int) × (List Int)) => κ (.tup [(.agg [(.own 0), (.int .i64 r.1), (.own 1)]), (.bool r.2.1)]) [.row (.ints .i64 r.2.2.1), .row (.ints .u8 r.2.2.2)]))) none := by
  have hu : S.PostNew_F [.ro false (.ints .i64 net)] [] κ = S.PostNew_tree net (fun d => κ (.tup [(.agg [.nil, (.int .i64 d.1), .nil]), (.bool d.2)]) []) (fun d => κ (.tup [(.agg [(.own 0), (.int .i64 d.1), (.own 1)]), (.bool d.2.1)]) [.row (.ints .i64 d.2.2.1), .row (.ints .u8 d.2.2.2)]) none := by
    kernel_rfl
  rw [hu]
  exact (S.PostNew_tree_nat (fun o => optC o (fun (r : (Int × Bool) ⊕ (Int × Bool × (List Int) × (List Int))) => (sumC r (fun (r : Int × Bool) => κ (.tup [(.agg [.nil, (.int .i64 r.1), .nil]), (.bool r.2)]) []) (fun (r : Int × Bool × (List Int) × (List Int)) => κ (.tup [(.agg [(.own 0), (.int .i64 r.1), (.own 1)]), (.bool r.2.1)]) [.row (.ints .i64 r.2.2.1), .row (.ints .u8 r.2.2.2)]))) none) net (fun d => some ((Sum.inl d))) (fun d => some ((Sum.inr d))) none).symm
noncomputable def S.PostNew_s : D.Spec where
  keep := false
  pure := false
  add := true
  ds := [.int .i64]
  sp := fun args h κ => match args, h with
    | [.ro false (.ints .i64 net)], [] => optC (S.PostNew_t net) (fun (r : (Int × Bool) ⊕ (Int × Bool × (List Int) × (List Int))) => (sumC r (fun (r : Int × Bool) => κ (.tup [(.agg [.nil, (.int .i64 r.1), .nil]), (.bool r.2)]) []) (fun (r : Int × Bool × (List Int) × (List Int)) => κ (.tup [(.agg [(.own 0), (.int .i64 r.1), (.own 1)]), (.bool r.2.1)]) [.row (.ints .i64 r.2.2.1), .row (.ints .u8 r.2.2.2)]))) none
    | _, _ => none
theorem S.PostNew_ok : SpecOk Try.prog 15 S.PostNew_s := by
  refine SpecOk.of TDok mixed (T := S.PostNew_T) ?_ (ann := S.PostNew_ann) Try.func15 rfl (by decide +kernel) ?_ ?_ ?_ ?_
  · intro p hp
    simp only [S.PostNew_T, List.mem_cons, List.not_mem_nil, or_false] at hp
    rcases hp with rfl | rfl
    · exact S.NetOk_ok
    · exact S.FirstPost_ok
  · intro args h κ r hh
    simp only [S.PostNew_s] at hh
    split at hh
    · exact (S.PostNew_den _ κ).trans hh
    · cases hh
  · intro args h κ r hh
    simp only [S.PostNew_s] at hh ⊢
    split at hh
    · exact optC_law2 (F := fun (r : (Int × Bool) ⊕ (Int × Bool × (List Int) × (List Int))) κ => (sumC r (fun (r : Int × Bool) => κ (.tup [(.agg [.nil, (.int .i64 r.1), .nil]), (.bool r.2)]) []) (fun (r : Int × Bool × (List Int) × (List Int)) => κ (.tup [(.agg [(.own 0), (.int .i64 r.1), (.own 1)]), (.bool r.2.1)]) [.row (.ints .i64 r.2.2.1), .row (.ints .u8 r.2.2.2)]))) (fun b κ r hb => by rcases b with b | b <;> exact ⟨_, _, hb, fun _ => rfl⟩) hh
    · cases hh
  · intro hh; cases hh
  · intro _ args h κ r hh
    simp only [S.PostNew_s] at hh
    split at hh
    · rfl
    · cases hh

-- loop.example/guardsonnets/laws.sameInts
noncomputable def L.sameInts_T : List (Nat × D.Spec) := []
def L.sameInts_ann : Nat → List Nat × List Nat
  | 4 => ([0, 1, 5], [4])
  | _ => ([], [])
noncomputable def L.sameInts_F (args : List V) (h : List E) (κ : V → List E → R) : R := funC TD (tableK L.sameInts_T) L.sameInts_ann (drawOk TD (tableP L.sameInts_T)) FUEL Try.f50 args h κ
noncomputable def L.sameInts_L4 (n : Nat) (σ : St) (k : X → St → R) : R := iterC 0 (fun σ k => denC TD (tableK L.sameInts_T) L.sameInts_ann (drawOk TD (tableP L.sameInts_T)) 0 FUEL ((findLoop 4 (Try.f50.body.getD .skip)).getD .skip) σ k) [0, 1, 5] [4] n σ k
noncomputable def L.sameInts_k4 (κ : V → List E → R) : X → St → R := (afterC TD (tableK L.sameInts_T) L.sameInts_ann (drawOk TD (tableP L.sameInts_T)) 0 FUEL 4 (Try.f50.body.getD .skip) (finC TD 0 Try.f50 κ)).getD (fun _ _ => none)
noncomputable def L.sameInts_step4 {α : Type} (x0 : List Int) (x1 : List Int) (x5 : Int) (next_ : Int → α) (out0_ : Bool → α) (out1_ : Unit → α) (fail_ : α) : α :=
  (bif decide (x5 < (↑x0.length : Int)) then (bif decide (0 ≤ x5) && decide (x5 < (↑x0.length : Int)) then (bif decide (0 ≤ x5) && decide (x5 < (↑x1.length : Int)) then (bif !eli x0 x5.toNat == eli x1 x5.toNat then (out0_ false) else (next_ (IntKind.i64.wrap (x5 + 1)))) else fail_) else fail_) else (out1_ ()))
theorem L.sameInts_step4_nat {α γ : Type} (g : α → γ) (x0 : List Int) (x1 : List Int) (x5 : Int) (next_ : Int → α) (out0_ : Bool → α) (out1_ : Unit → α) (fail_ : α) : g (L.sameInts_step4 x0 x1 x5 next_ out0_ out1_ fail_) = L.sameInts_step4 x0 x1 x5 (fun s => g (next_ s)) (fun d => g (out0_ d)) (fun d => g (out1_ d)) (g fail_) := by
  unfold L.sameInts_step4; simp only [apply_cnd g, apply_optC g, apply_sumC g]
noncomputable def L.sameInts_run4 (x0 : List Int) (x1 : List Int) : Nat → Int → Option ((Bool) ⊕ (Unit))
  | 0, _ => none
  | n + 1, s_ => L.sameInts_step4 x0 x1 s_ (L.sameInts_run4 x0 x1 n) (fun d => some ((Sum.inl d))) (fun d => some ((Sum.inr d))) none
theorem L.sameInts_L4_run (x0 : List Int) (x1 : List Int) (n : Nat) (s_ : Int) (k : X → St → R) : L.sameInts_L4 n { n := 26, t := [(0, (.ro false (.ints .i64 x0))), (1, (.ro false (.ints .i64 x1))), (5, (.int .i64 s_))], h := [] } k = optC (L.sameInts_run4 x0 x1 n s_) (fun (r : (Bool) ⊕ (Unit)) => (sumC r (fun (r : Bool) => k (.ret) { n := 26, t := [(4, (.bool r))], h := [] }) (fun (r : Unit) => k (.exit 0) { n := 26, t := [(4, .junk)], h := [] }))) none := by
  induction n generalizing s_ with
  | zero => rfl
  | succ n ih =>
    have hu : L.sameInts_L4 (n + 1) { n := 26, t := [(0, (.ro false (.ints .i64 x0))), (1, (.ro false (.ints .i64 x1))), (5, (.int .i64 s_))], h := [] } k = L.sameInts_step4 x0 x1 s_ (fun s_ => L.sameInts_L4 n { n := 26, t := [(0, (.ro false (.ints .i64 x0))), (1, (.ro false (.ints .i64 x1))), (5, (.int .i64 s_))], h := [] } k) (fun d => k (.ret) { n := 26, t := [(4, (.bool d))], h := [] }) (fun d => k (.exit 0) { n := 26, t := [(4, .junk)], h := [] }) none := by
      kernel_rfl
    have hs : (fun s_ : Int => L.sameInts_L4 n { n := 26, t := [(0, (.ro false (.ints .i64 x0))), (1, (.ro false (.ints .i64 x1))), (5, (.int .i64 s_))], h := [] } k) = fun s_ => optC (L.sameInts_run4 x0 x1 n s_) (fun (r : (Bool) ⊕ (Unit)) => (sumC r (fun (r : Bool) => k (.ret) { n := 26, t := [(4, (.bool r))], h := [] }) (fun (r : Unit) => k (.exit 0) { n := 26, t := [(4, .junk)], h := [] }))) none := funext ih
    rw [hu, hs]
    exact (L.sameInts_step4_nat (fun o => optC o (fun (r : (Bool) ⊕ (Unit)) => (sumC r (fun (r : Bool) => k (.ret) { n := 26, t := [(4, (.bool r))], h := [] }) (fun (r : Unit) => k (.exit 0) { n := 26, t := [(4, .junk)], h := [] }))) none) x0 x1 s_ (L.sameInts_run4 x0 x1 n) (fun d => some ((Sum.inl d))) (fun d => some ((Sum.inr d))) none).symm
noncomputable def L.sameInts_tree {α : Type} (a : List Int) (b_ : List Int) (leaf0_ : Bool → α) (fail_ : α) : α :=
  (bif !(↑a.length : Int) == (↑b_.length : Int) then (leaf0_ false) else (optC (L.sameInts_run4 a b_ FUEL 0) (fun qy_1 => (sumC qy_1 (fun (qy_1 : Bool) => (leaf0_ qy_1)) (fun (qy_1 : Unit) => (leaf0_ true)))) fail_))
theorem L.sameInts_tree_nat {α γ : Type} (g : α → γ) (a : List Int) (b_ : List Int) (leaf0_ : Bool → α) (fail_ : α) : g (L.sameInts_tree a b_ leaf0_ fail_) = L.sameInts_tree a b_ (fun d => g (leaf0_ d)) (g fail_) := by
  unfold L.sameInts_tree; simp only [apply_cnd g, apply_optC g, apply_sumC g]
noncomputable def L.sameInts_t (a : List Int) (b_ : List Int) : Option (Bool) := L.sameInts_tree a b_ (fun d => some d) none
theorem L.sameInts_den (a : List Int) (b_ : List Int) (κ : V → List E → R) : L.sameInts_F [.ro false (.ints .i64 a), .ro false (.ints .i64 b_)] [] κ = optC (L.sameInts_t a b_) (fun (r : Bool) => κ (.bool r) []) none := by
  have hu : L.sameInts_F [.ro false (.ints .i64 a), .ro false (.ints .i64 b_)] [] κ = L.sameInts_tree a b_ (fun d => κ (.bool d) []) none := by
    refine Eq.trans (show L.sameInts_F [.ro false (.ints .i64 a), .ro false (.ints .i64 b_)] [] κ = (bif !(↑a.length : Int) == (↑b_.length : Int) then (κ (.bool false) []) else (L.sameInts_L4 FUEL { n := 26, t := [(0, (.ro false (.ints .i64 a))), (1, (.ro false (.ints .i64 b_))), (5, (.int .i64 0))], h := [] } (L.sameInts_k4 κ))) by kernel_rfl) ?_
    refine cnd_congr ?_ ?_
    · kernel_rfl
    · refine (L.sameInts_L4_run a b_ FUEL 0 (L.sameInts_k4 κ)).trans (optC_congr (fun qy_1 => ?_))
      rcases qy_1 with qy_1 | qy_1
      · kernel_rfl
      · kernel_rfl
  rw [hu]
  exact (L.sameInts_tree_nat (fun o => optC o (fun (r : Bool) => κ (.bool r) []) none) a b_ (fun d => some d) none).symm
noncomputable def L.sameInts_s : D.Spec where
  keep := false
  pure := true
  add := true
  ds := [.int .i64, .int .i64]
  sp := fun args h κ => match args, h with
    | [.ro false (.ints .i64 a), .ro false (.ints .i64 b_)], [] => optC (L.sameInts_t a b_) (fun (r : Bool) => κ (.bool r) []) none
    | _, _ => none
theorem L.sameInts_ok : SpecOk Try.prog 50 L.sameInts_s := by
  refine SpecOk.of TDok mixed (T := L.sameInts_T) ?_ (ann := L.sameInts_ann) Try.func50 rfl (by decide +kernel) ?_ ?_ ?_ ?_
  · intro p hp; cases hp
  · intro args h κ r hh
    simp only [L.sameInts_s] at hh
    split at hh
    · exact (L.sameInts_den _ _ κ).trans hh
    · cases hh
  · intro args h κ r hh
    simp only [L.sameInts_s] at hh ⊢
    split at hh
    · exact optC_law2 (F := fun (r : Bool) κ => κ (.bool r) []) (fun b κ r hb => ⟨_, _, hb, fun _ => rfl⟩) hh
    · cases hh
  · intro _ args h κ r hh
    simp only [L.sameInts_s] at hh
    split at hh
    · exact ⟨rfl, fun _ => rfl⟩
    · cases hh
  · intro _ args h κ r hh
    simp only [L.sameInts_s] at hh
    split at hh
    · rfl
    · cases hh

-- loop.example/guardsonnets/laws.samePost
noncomputable def L.samePost_T : List (Nat × D.Spec) := [(50, L.sameInts_s)]
def L.samePost_ann : Nat → List Nat × List Nat
  | _ => ([], [])
noncomputable def L.samePost_F (args : List V) (h : List E) (κ : V → List E → R) : R := funC TD (tableK L.samePost_T) L.samePost_ann (drawOk TD (tableP L.samePost_T)) FUEL Try.f16 args h κ
noncomputable def L.samePost_tree {α : Type} (a0 : List Int) (a1 : Int) (a2 : List Int) (b_0 : List Int) (b_1 : Int) (b_2 : List Int) (leaf0_ : Bool → α) (fail_ : α) : α :=
  (optC (L.sameInts_t a0 b_0) (fun c_1 => (bif c_1 then (bif a1 == b_1 then (leaf0_ (strEq (bytesOf a2) (bytesOf b_2))) else (leaf0_ false)) else (leaf0_ false))) fail_)
theorem L.samePost_tree_nat {α γ : Type} (g : α → γ) (a0 : List Int) (a1 : Int) (a2 : List Int) (b_0 : List Int) (b_1 : Int) (b_2 : List Int) (leaf0_ : Bool → α) (fail_ : α) : g (L.samePost_tree a0 a1 a2 b_0 b_1 b_2 leaf0_ fail_) = L.samePost_tree a0 a1 a2 b_0 b_1 b_2 (fun d => g (leaf0_ d)) (g fail_) := by
  unfold L.samePost_tree; simp only [apply_cnd g, apply_optC g, apply_sumC g]
noncomputable def L.samePost_t (a0 : List Int) (a1 : Int) (a2 : List Int) (b_0 : List Int) (b_1 : Int) (b_2 : List Int) : Option (Bool) := L.samePost_tree a0 a1 a2 b_0 b_1 b_2 (fun d => some d) none
theorem L.samePost_den (a0 : List Int) (a1 : Int) (a2 : List Int) (b_0 : List Int) (b_1 : Int) (b_2 : List Int) (κ : V → List E → R) : L.samePost_F [.agg [.ro false (.ints .i64 a0), .int .i64 a1, .ro false (.ints .u8 a2)], .agg [.ro false (.ints .i64 b_0), .int .i64 b_1, .ro false (.ints .u8 b_2)]] [] κ = optC (L.samePost_t a0 a1 a2 b_0 b_1 b_2) (fun (r : Bool) => κ (.bool r) []) none := by
  have hu : L.samePost_F [.agg [.ro false (.ints .i64 a0), .int .i64 a1, .ro false (.ints .u8 a2)], .agg [.ro false (.ints .i64 b_0), .int .i64 b_1, .ro false (.ints .u8 b_2)]] [] κ = L.samePost_tree a0 a1 a2 b_0 b_1 b_2 (fun d => κ (.bool d) []) none := by
    kernel_rfl
  rw [hu]
  exact (L.samePost_tree_nat (fun o => optC o (fun (r : Bool) => κ (.bool r) []) none) a0 a1 a2 b_0 b_1 b_2 (fun d => some d) none).symm
noncomputable def L.samePost_s : D.Spec where
  keep := false
  pure := true
  add := true
  ds := [.tuple #[1, 0, 2], .tuple #[1, 0, 2]]
  sp := fun args h κ => match args, h with
    | [.agg [.ro false (.ints .i64 a0), .int .i64 a1, .ro false (.ints .u8 a2)], .agg [.ro false (.ints .i64 b_0), .int .i64 b_1, .ro false (.ints .u8 b_2)]], [] => optC (L.samePost_t a0 a1 a2 b_0 b_1 b_2) (fun (r : Bool) => κ (.bool r) []) none
    | _, _ => none
theorem L.samePost_ok : SpecOk Try.prog 16 L.samePost_s := by
  refine SpecOk.of TDok mixed (T := L.samePost_T) ?_ (ann := L.samePost_ann) Try.func16 rfl (by decide +kernel) ?_ ?_ ?_ ?_
  · intro p hp
    simp only [L.samePost_T, List.mem_cons, List.not_mem_nil, or_false] at hp
    rcases hp with rfl
    · exact L.sameInts_ok
  · intro args h κ r hh
    simp only [L.samePost_s] at hh
    split at hh
    · exact (L.samePost_den _ _ _ _ _ _ κ).trans hh
    · cases hh
  · intro args h κ r hh
    simp only [L.samePost_s] at hh ⊢
    split at hh
    · exact optC_law2 (F := fun (r : Bool) κ => κ (.bool r) []) (fun b κ r hb => ⟨_, _, hb, fun _ => rfl⟩) hh
    · cases hh
  · intro _ args h κ r hh
    simp only [L.samePost_s] at hh
    split at hh
    · exact ⟨rfl, fun _ => rfl⟩
    · cases hh
  · intro _ args h κ r hh
    simp only [L.samePost_s] at hh
    split at hh
    · rfl
    · cases hh

-- loop.example/guardsonnets/laws.alive
noncomputable def L.alive_T : List (Nat × D.Spec) := [(17, I.NetOk_s)]
def L.alive_ann : Nat → List Nat × List Nat
  | _ => ([], [])
noncomputable def L.alive_F (args : List V) (h : List E) (κ : V → List E → R) : R := funC TD (tableK L.alive_T) L.alive_ann (drawOk TD (tableP L.alive_T)) FUEL Try.f18 args h κ
noncomputable def L.alive_tree {α : Type} (leaf0_ : Bool → α) (fail_ : α) : α :=
  (optC (I.NetOk_t [2, 1]) (fun c_1 => (bif c_1 then (optC (I.NetOk_t [1]) (fun c_2 => (leaf0_ (!c_2))) fail_) else (leaf0_ false))) fail_)
theorem L.alive_tree_nat {α γ : Type} (g : α → γ) (leaf0_ : Bool → α) (fail_ : α) : g (L.alive_tree leaf0_ fail_) = L.alive_tree (fun d => g (leaf0_ d)) (g fail_) := by
  unfold L.alive_tree; simp only [apply_cnd g, apply_optC g, apply_sumC g]
noncomputable def L.alive_t : Option (Bool) := L.alive_tree (fun d => some d) none
theorem L.alive_den (κ : V → List E → R) : L.alive_F [] [] κ = optC (L.alive_t) (fun (r : Bool) => κ (.bool r) []) none := by
  have hu : L.alive_F [] [] κ = L.alive_tree (fun d => κ (.bool d) []) none := by
    kernel_rfl
  rw [hu]
  exact (L.alive_tree_nat (fun o => optC o (fun (r : Bool) => κ (.bool r) []) none) (fun d => some d) none).symm
noncomputable def L.alive_s : D.Spec where
  keep := false
  pure := true
  add := true
  ds := []
  sp := fun args h κ => match args, h with
    | [], [] => optC (L.alive_t) (fun (r : Bool) => κ (.bool r) []) none
    | _, _ => none
theorem L.alive_ok : SpecOk Try.prog 18 L.alive_s := by
  refine SpecOk.of TDok mixed (T := L.alive_T) ?_ (ann := L.alive_ann) Try.func18 rfl (by decide +kernel) ?_ ?_ ?_ ?_
  · intro p hp
    simp only [L.alive_T, List.mem_cons, List.not_mem_nil, or_false] at hp
    rcases hp with rfl
    · exact I.NetOk_ok
  · intro args h κ r hh
    simp only [L.alive_s] at hh
    split at hh
    · exact (L.alive_den κ).trans hh
    · cases hh
  · intro args h κ r hh
    simp only [L.alive_s] at hh ⊢
    split at hh
    · exact optC_law2 (F := fun (r : Bool) κ => κ (.bool r) []) (fun b κ r hb => ⟨_, _, hb, fun _ => rfl⟩) hh
    · cases hh
  · intro _ args h κ r hh
    simp only [L.alive_s] at hh
    split at hh
    · exact ⟨rfl, fun _ => rfl⟩
    · cases hh
  · intro _ args h κ r hh
    simp only [L.alive_s] at hh
    split at hh
    · rfl
    · cases hh

-- loop.example/guardsonnets/impl.PostOk
noncomputable def I.PostOk_T : List (Nat × D.Spec) := [(54, I.LogPlaces_s), (17, I.NetOk_s), (56, I.placesHere_s), (55, I.postBehind_s)]
def I.PostOk_ann : Nat → List Nat × List Nat
  | _ => ([], [])
noncomputable def I.PostOk_F (args : List V) (h : List E) (κ : V → List E → R) : R := funC TD (tableK I.PostOk_T) I.PostOk_ann (drawOk TD (tableP I.PostOk_T)) FUEL Try.f20 args h κ
noncomputable def I.PostOk_tree {α : Type} (p0 : List Int) (p1 : Int) (p2 : List Int) (leaf0_ : Bool → α) (fail_ : α) : α :=
  (optC (I.LogPlaces_t p2) (fun c_1 => (optC (I.NetOk_t p0) (fun c_2 => (bif !c_2 then (leaf0_ false) else (bif !c_1.fst == (↑p2.length : Int) then (leaf0_ false) else (optC (I.placesHere_t p0 c_1.snd) (fun c_3 => (bif !(↑c_3.length : Int) == (↑c_1.snd.length : Int) then (leaf0_ false) else (optC (I.postBehind_t p0 c_1.snd) (fun c_4 => (leaf0_ (c_4.fst == p1))) fail_))) fail_)))) fail_)) fail_)
theorem I.PostOk_tree_nat {α γ : Type} (g : α → γ) (p0 : List Int) (p1 : Int) (p2 : List Int) (leaf0_ : Bool → α) (fail_ : α) : g (I.PostOk_tree p0 p1 p2 leaf0_ fail_) = I.PostOk_tree p0 p1 p2 (fun d => g (leaf0_ d)) (g fail_) := by
  unfold I.PostOk_tree; simp only [apply_cnd g, apply_optC g, apply_sumC g]
noncomputable def I.PostOk_t (p0 : List Int) (p1 : Int) (p2 : List Int) : Option (Bool) := I.PostOk_tree p0 p1 p2 (fun d => some d) none
theorem I.PostOk_den (p0 : List Int) (p1 : Int) (p2 : List Int) (κ : V → List E → R) : I.PostOk_F [.agg [.ro false (.ints .i64 p0), .int .i64 p1, .ro false (.ints .u8 p2)]] [] κ = optC (I.PostOk_t p0 p1 p2) (fun (r : Bool) => κ (.bool r) []) none := by
  have hu : I.PostOk_F [.agg [.ro false (.ints .i64 p0), .int .i64 p1, .ro false (.ints .u8 p2)]] [] κ = I.PostOk_tree p0 p1 p2 (fun d => κ (.bool d) []) none := by
    kernel_rfl
  rw [hu]
  exact (I.PostOk_tree_nat (fun o => optC o (fun (r : Bool) => κ (.bool r) []) none) p0 p1 p2 (fun d => some d) none).symm
noncomputable def I.PostOk_s : D.Spec where
  keep := false
  pure := true
  add := true
  ds := [.tuple #[1, 0, 2]]
  sp := fun args h κ => match args, h with
    | [.agg [.ro false (.ints .i64 p0), .int .i64 p1, .ro false (.ints .u8 p2)]], [] => optC (I.PostOk_t p0 p1 p2) (fun (r : Bool) => κ (.bool r) []) none
    | _, _ => none
theorem I.PostOk_ok : SpecOk Try.prog 20 I.PostOk_s := by
  refine SpecOk.of TDok mixed (T := I.PostOk_T) ?_ (ann := I.PostOk_ann) Try.func20 rfl (by decide +kernel) ?_ ?_ ?_ ?_
  · intro p hp
    simp only [I.PostOk_T, List.mem_cons, List.not_mem_nil, or_false] at hp
    rcases hp with rfl | rfl | rfl | rfl
    · exact I.LogPlaces_ok
    · exact I.NetOk_ok
    · exact I.placesHere_ok
    · exact I.postBehind_ok
  · intro args h κ r hh
    simp only [I.PostOk_s] at hh
    split at hh
    · exact (I.PostOk_den _ _ _ κ).trans hh
    · cases hh
  · intro args h κ r hh
    simp only [I.PostOk_s] at hh ⊢
    split at hh
    · exact optC_law2 (F := fun (r : Bool) κ => κ (.bool r) []) (fun b κ r hb => ⟨_, _, hb, fun _ => rfl⟩) hh
    · cases hh
  · intro _ args h κ r hh
    simp only [I.PostOk_s] at hh
    split at hh
    · exact ⟨rfl, fun _ => rfl⟩
    · cases hh
  · intro _ args h κ r hh
    simp only [I.PostOk_s] at hh
    split at hh
    · rfl
    · cases hh

-- loop.example/guardsonnets/impl.FirstPost
noncomputable def I.FirstPost_T : List (Nat × D.Spec) := [(17, I.NetOk_s), (57, I.firstPostIn_s)]
def I.FirstPost_ann : Nat → List Nat × List Nat
  | _ => ([], [])
noncomputable def I.FirstPost_F (args : List V) (h : List E) (κ : V → List E → R) : R := funC TD (tableK I.FirstPost_T) I.FirstPost_ann (drawOk TD (tableP I.FirstPost_T)) FUEL Try.f21 args h κ
noncomputable def I.FirstPost_tree {α : Type} (net : List Int) (leaf0_ : Int → α) (fail_ : α) : α :=
  (optC (I.NetOk_t net) (fun c_1 => (bif !c_1 then (leaf0_ (-1)) else (optC (I.firstPostIn_t net) (fun c_2 => (leaf0_ c_2)) fail_))) fail_)
theorem I.FirstPost_tree_nat {α γ : Type} (g : α → γ) (net : List Int) (leaf0_ : Int → α) (fail_ : α) : g (I.FirstPost_tree net leaf0_ fail_) = I.FirstPost_tree net (fun d => g (leaf0_ d)) (g fail_) := by
  unfold I.FirstPost_tree; simp only [apply_cnd g, apply_optC g, apply_sumC g]
noncomputable def I.FirstPost_t (net : List Int) : Option (Int) := I.FirstPost_tree net (fun d => some d) none
theorem I.FirstPost_den (net : List Int) (κ : V → List E → R) : I.FirstPost_F [.ro false (.ints .i64 net)] [] κ = optC (I.FirstPost_t net) (fun (r : Int) => κ (.int .i64 r) []) none := by
  have hu : I.FirstPost_F [.ro false (.ints .i64 net)] [] κ = I.FirstPost_tree net (fun d => κ (.int .i64 d) []) none := by
    kernel_rfl
  rw [hu]
  exact (I.FirstPost_tree_nat (fun o => optC o (fun (r : Int) => κ (.int .i64 r) []) none) net (fun d => some d) none).symm
noncomputable def I.FirstPost_s : D.Spec where
  keep := false
  pure := true
  add := true
  ds := [.int .i64]
  sp := fun args h κ => match args, h with
    | [.ro false (.ints .i64 net)], [] => optC (I.FirstPost_t net) (fun (r : Int) => κ (.int .i64 r) []) none
    | _, _ => none
theorem I.FirstPost_ok : SpecOk Try.prog 21 I.FirstPost_s := by
  refine SpecOk.of TDok mixed (T := I.FirstPost_T) ?_ (ann := I.FirstPost_ann) Try.func21 rfl (by decide +kernel) ?_ ?_ ?_ ?_
  · intro p hp
    simp only [I.FirstPost_T, List.mem_cons, List.not_mem_nil, or_false] at hp
    rcases hp with rfl | rfl
    · exact I.NetOk_ok
    · exact I.firstPostIn_ok
  · intro args h κ r hh
    simp only [I.FirstPost_s] at hh
    split at hh
    · exact (I.FirstPost_den _ κ).trans hh
    · cases hh
  · intro args h κ r hh
    simp only [I.FirstPost_s] at hh ⊢
    split at hh
    · exact optC_law2 (F := fun (r : Int) κ => κ (.int .i64 r) []) (fun b κ r hb => ⟨_, _, hb, fun _ => rfl⟩) hh
    · cases hh
  · intro _ args h κ r hh
    simp only [I.FirstPost_s] at hh
    split at hh
    · exact ⟨rfl, fun _ => rfl⟩
    · cases hh
  · intro _ args h κ r hh
    simp only [I.FirstPost_s] at hh
    split at hh
    · rfl
    · cases hh

-- loop.example/guardsonnets/laws.FnPostNew
noncomputable def L.FnPostNew_T : List (Nat × D.Spec) := [(13, S.DrawPostNew_s), (14, I.PostNew_s), (15, S.PostNew_s), (16, L.samePost_s), (17, I.NetOk_s), (18, L.alive_s), (19, I.PostRise_s), (20, I.PostOk_s), (21, I.FirstPost_s)]
def L.FnPostNew_ann : Nat → List Nat × List Nat
  | _ => ([], [])
noncomputable def L.FnPostNew_F (args : List V) (h : List E) (κ : V → List E → R) : R := funC TD (tableK L.FnPostNew_T) L.FnPostNew_ann (drawOk TD (tableP L.FnPostNew_T)) FUEL Try.f3 args h κ
noncomputable def L.FnPostNew_tree {α : Type} (code : List Int) (leaf0_ : Bool → α) (fail_ : α) : α :=
  (bif decide ((↑code.length : Int) > 1048576) then (leaf0_ true) else (optC (S.DrawPostNew_t code) (fun c_1 => (optC (I.PostNew_t c_1) (fun c_2 => (sumC c_2 (fun c_3 => (optC (S.PostNew_t c_1) (fun c_4 => (sumC c_4 (fun c_5 => (bif !c_3.snd == c_5.snd then (leaf0_ false) else (optC (L.samePost_t [] c_3.fst [] [] c_5.fst []) (fun c_6 => (bif !c_6 then (leaf0_ false) else (bif !c_3.snd then (optC (I.NetOk_t c_1) (fun c_7 => (bif !c_7 then (optC (L.alive_t) (fun c_8 => (leaf0_ c_8)) fail_) else (leaf0_ false))) fail_) else (optC (I.PostRise_t c_1 []) (fun c_9 => (sumC c_9 (fun c_10 => (bif c_10.snd then (optC (L.samePost_t [] c_10.fst [] [] c_3.fst []) (fun c_11 => (bif c_11 then (optC (I.PostOk_t [] c_3.fst []) (fun c_12 => (bif c_12 then (optC (I.FirstPost_t c_1) (fun c_13 => (leaf0_ (c_3.fst == c_13))) fail_) else (leaf0_ false))) fail_) else (leaf0_ false))) fail_) else (leaf0_ false))) (fun c_10 => (bif c_10.snd.fst then (optC (L.samePost_t c_10.snd.snd.fst c_10.fst c_10.snd.snd.snd [] c_3.fst []) (fun c_14 => (bif c_14 then (optC (I.PostOk_t [] c_3.fst []) (fun c_15 => (bif c_15 then (optC (I.FirstPost_t c_1) (fun c_16 => (leaf0_ (c_3.fst == c_16))) fail_) else (leaf0_ false))) fail_) else (leaf0_ false))) fail_) else (leaf0_ false))))) fail_)))) fail_))) (fun c_5 => (bif !c_3.snd == c_5.snd.fst then (leaf0_ false) else (optC (L.samePost_t [] c_3.fst [] c_5.snd.snd.fst c_5.fst c_5.snd.snd.snd) (fun c_17 => (bif !c_17 then (leaf0_ false) else (bif !c_3.snd then (optC (I.NetOk_t c_1) (fun c_18 => (bif !c_18 then (optC (L.alive_t) (fun c_19 => (leaf0_ c_19)) fail_) else (leaf0_ false))) fail_) else (optC (I.PostRise_t c_1 []) (fun c_20 => (sumC c_20 (fun c_21 => (bif c_21.snd then (optC (L.samePost_t [] c_21.fst [] [] c_3.fst []) (fun c_22 => (bif c_22 then (optC (I.PostOk_t [] c_3.fst []) (fun c_23 => (bif c_23 then (optC (I.FirstPost_t c_1) (fun c_24 => (leaf0_ (c_3.fst == c_24))) fail_) else (leaf0_ false))) fail_) else (leaf0_ false))) fail_) else (leaf0_ false))) (fun c_21 => (bif c_21.snd.fst then (optC (L.samePost_t c_21.snd.snd.fst c_21.fst c_21.snd.snd.snd [] c_3.fst []) (fun c_25 => (bif c_25 then (optC (I.PostOk_t [] c_3.fst []) (fun c_26 => (bif c_26 then (optC (I.FirstPost_t c_1) (fun c_27 => (leaf0_ (c_3.fst == c_27))) fail_) else (leaf0_ false))) fail_) else (leaf0_ false))) fail_) else (leaf0_ false))))) fail_)))) fail_))))) fail_)) (fun c_3 => (optC (S.PostNew_t c_1) (fun c_28 => (sumC c_28 (fun c_29 => (bif !c_3.snd.fst == c_29.snd then (leaf0_ false) else (optC (L.samePost_t c_3.snd.snd.fst c_3.fst c_3.snd.snd.snd [] c_29.fst []) (fun c_30 => (bif !c_30 then (leaf0_ false) else (bif !c_3.snd.fst then (optC (I.NetOk_t c_1) (fun c_31 => (bif !c_31 then (optC (L.alive_t) (fun c_32 => (leaf0_ c_32)) fail_) else (leaf0_ false))) fail_) else (optC (I.PostRise_t c_1 []) (fun c_33 => (sumC c_33 (fun c_34 => (bif c_34.snd then (optC (L.samePost_t [] c_34.fst [] c_3.snd.snd.fst c_3.fst c_3.snd.snd.snd) (fun c_35 => (bif c_35 then (optC (I.PostOk_t c_3.snd.snd.fst c_3.fst c_3.snd.snd.snd) (fun c_36 => (bif c_36 then (optC (I.FirstPost_t c_1) (fun c_37 => (leaf0_ (c_3.fst == c_37))) fail_) else (leaf0_ false))) fail_) else (leaf0_ false))) fail_) else (leaf0_ false))) (fun c_34 => (bif c_34.snd.fst then (optC (L.samePost_t c_34.snd.snd.fst c_34.fst c_34.snd.snd.snd c_3.snd.snd.fst c_3.fst c_3.snd.snd.snd) (fun c_38 => (bif c_38 then (optC (I.PostOk_t c_3.snd.snd.fst c_3.fst c_3.snd.snd.snd) (fun c_39 => (bif c_39 then (optC (I.FirstPost_t c_1) (fun c_40 => (leaf0_ (c_3.fst == c_40))) fail_) else (leaf0_ false))) fail_) else (leaf0_ false))) fail_) else (leaf0_ false))))) fail_)))) fail_))) (fun c_29 => (bif !c_3.snd.fst == c_29.snd.fst then (leaf0_ false) else (optC (L.samePost_t c_3.snd.snd.fst c_3.fst c_3.snd.snd.snd c_29.snd.snd.fst c_29.fst c_29.snd.snd.snd) (fun c_41 => (bif !c_41 then (leaf0_ false) else (bif !c_3.snd.fst then (optC (I.NetOk_t c_1) (fun c_42 => (bif !c_42 then (optC (L.alive_t) (fun c_43 => (leaf0_ c_43)) fail_) else (leaf0_ false))) fail_) else (optC (I.PostRise_t c_1 []) (fun c_44 => (sumC c_44 (fun c_45 => (bif c_45.snd then (optC (L.samePost_t [] c_45.fst [] c_3.snd.snd.fst c_3.fst c_3.snd.snd.snd) (fun c_46 => (bif c_46 then (optC (I.PostOk_t c_3.snd.snd.fst c_3.fst c_3.snd.snd.snd) (fun c_47 => (bif c_47 then (optC (I.FirstPost_t c_1) (fun c_48 => (leaf0_ (c_3.fst == c_48))) fail_) else (leaf0_ false))) fail_) else (leaf0_ false))) fail_) else (leaf0_ false))) (fun c_45 => (bif c_45.snd.fst then (optC (L.samePost_t c_45.snd.snd.fst c_45.fst c_45.snd.snd.snd c_3.snd.snd.fst c_3.fst c_3.snd.snd.snd) (fun c_49 => (bif c_49 then (optC (I.PostOk_t c_3.snd.snd.fst c_3.fst c_3.snd.snd.snd) (fun c_50 => (bif c_50 then (optC (I.FirstPost_t c_1) (fun c_51 => (leaf0_ (c_3.fst == c_51))) fail_) else (leaf0_ false))) fail_) else (leaf0_ false))) fail_) else (leaf0_ false))))) fail_)))) fail_))))) fail_)))) fail_)) fail_))
theorem L.FnPostNew_tree_nat {α γ : Type} (g : α → γ) (code : List Int) (leaf0_ : Bool → α) (fail_ : α) : g (L.FnPostNew_tree code leaf0_ fail_) = L.FnPostNew_tree code (fun d => g (leaf0_ d)) (g fail_) := by
  unfold L.FnPostNew_tree; simp only [apply_cnd g, apply_optC g, apply_sumC g]
noncomputable def L.FnPostNew_t (code : List Int) : Option (Bool) := L.FnPostNew_tree code (fun d => some d) none
theorem L.FnPostNew_den (code : List Int) (κ : V → List E → R) : L.FnPostNew_F [.ro true (.ints .u8 code)] [] κ = optC (L.FnPostNew_t code) (fun (r : Bool) => κ (.bool r) []) none := by
  have hu : L.FnPostNew_F [.ro true (.ints .u8 code)] [] κ = L.FnPostNew_tree code (fun d => κ (.bool d) []) none := by
    kernel_rfl
  rw [hu]
  exact (L.FnPostNew_tree_nat (fun o => optC o (fun (r : Bool) => κ (.bool r) []) none) code (fun d => some d) none).symm
noncomputable def L.FnPostNew_s : D.Spec where
  keep := true
  pure := true
  add := true
  ds := [.int .u8]
  sp := fun args h κ => match args, h with
    | [.ro true (.ints .u8 code)], [] => optC (L.FnPostNew_t code) (fun (r : Bool) => κ (.bool r) []) none
    | _, _ => none
theorem L.FnPostNew_ok : SpecOk Try.prog 3 L.FnPostNew_s := by
  refine SpecOk.of TDok mixed (T := L.FnPostNew_T) ?_ (ann := L.FnPostNew_ann) Try.func3 rfl (by decide +kernel) ?_ ?_ ?_ ?_
  · intro p hp
    simp only [L.FnPostNew_T, List.mem_cons, List.not_mem_nil, or_false] at hp
    rcases hp with rfl | rfl | rfl | rfl | rfl | rfl | rfl | rfl | rfl
    · exact S.DrawPostNew_ok
    · exact I.PostNew_ok
    · exact S.PostNew_ok
    · exact L.samePost_ok
    · exact I.NetOk_ok
    · exact L.alive_ok
    · exact I.PostRise_ok
    · exact I.PostOk_ok
    · exact I.FirstPost_ok
  · intro args h κ r hh
    simp only [L.FnPostNew_s] at hh
    split at hh
    · exact (L.FnPostNew_den _ κ).trans hh
    · cases hh
  · intro args h κ r hh
    simp only [L.FnPostNew_s] at hh ⊢
    split at hh
    · exact optC_law2 (F := fun (r : Bool) κ => κ (.bool r) []) (fun b κ r hb => ⟨_, _, hb, fun _ => rfl⟩) hh
    · cases hh
  · intro _ args h κ r hh
    simp only [L.FnPostNew_s] at hh
    split at hh
    · exact ⟨rfl, fun _ => rfl⟩
    · cases hh
  · intro _ args h κ r hh
    simp only [L.FnPostNew_s] at hh
    split at hh
    · rfl
    · cases hh

-- loop.example/guardsonnets/laws.toIntS
noncomputable def L.toIntS_T : List (Nat × D.Spec) := []
def L.toIntS_ann : Nat → List Nat × List Nat
  | 3 => ([0, 3, 4], [3])
  | _ => ([], [])
noncomputable def L.toIntS_F (args : List V) (h : List E) (κ : V → List E → R) : R := funC TD (tableK L.toIntS_T) L.toIntS_ann (drawOk TD (tableP L.toIntS_T)) FUEL Try.f22 args h κ
noncomputable def L.toIntS_L3 (n : Nat) (σ : St) (k : X → St → R) : R := iterC 0 (fun σ k => denC TD (tableK L.toIntS_T) L.toIntS_ann (drawOk TD (tableP L.toIntS_T)) 0 FUEL ((findLoop 3 (Try.f22.body.getD .skip)).getD .skip) σ k) [0, 3, 4] [3] n σ k
noncomputable def L.toIntS_k3 (κ : V → List E → R) : X → St → R := (afterC TD (tableK L.toIntS_T) L.toIntS_ann (drawOk TD (tableP L.toIntS_T)) 0 FUEL 3 (Try.f22.body.getD .skip) (finC TD 0 Try.f22 κ)).getD (fun _ _ => none)
noncomputable def L.toIntS_step3 {α : Type} (x0 : List Int) (x4 : Int) (r0 : List Int) (next_ : Int × (List Int) → α) (out0_ : List Int → α) (fail_ : α) : α :=
  (bif decide (x4 < (↑x0.length : Int)) then (bif decide (0 ≤ x4) && decide (x4 < (↑x0.length : Int)) then (bif decide (0 ≤ x4) && decide (x4 < (↑r0.length : Int)) then (bif decide (x4.toNat < r0.length) then (next_ (IntKind.i64.wrap (x4 + 1), r0.set x4.toNat (eli x0 x4.toNat))) else fail_) else fail_) else fail_) else (out0_ r0))
theorem L.toIntS_step3_nat {α γ : Type} (g : α → γ) (x0 : List Int) (x4 : Int) (r0 : List Int) (next_ : Int × (List Int) → α) (out0_ : List Int → α) (fail_ : α) : g (L.toIntS_step3 x0 x4 r0 next_ out0_ fail_) = L.toIntS_step3 x0 x4 r0 (fun s => g (next_ s)) (fun d => g (out0_ d)) (g fail_) := by
  unfold L.toIntS_step3; simp only [apply_cnd g, apply_optC g, apply_sumC g]
noncomputable def L.toIntS_run3 (x0 : List Int) : Nat → Int × (List Int) → Option (List Int)
  | 0, _ => none
  | n + 1, s_ => L.toIntS_step3 x0 s_.1 s_.2 (L.toIntS_run3 x0 n) (fun d => some d) none
theorem L.toIntS_L3_run (x0 : List Int) (n : Nat) (s_ : Int × (List Int)) (k : X → St → R) : L.toIntS_L3 n { n := 22, t := [(0, (.ro false (.ints .i64 x0))), (3, (.own 0)), (4, (.int .i64 s_.1))], h := [.row (.ints .i64 s_.2)] } k = optC (L.toIntS_run3 x0 n s_) (fun (r : List Int) => k (.exit 0) { n := 22, t := [(3, (.own 0))], h := [.row (.ints .i64 r)] }) none := by
  induction n generalizing s_ with
  | zero => rfl
  | succ n ih =>
    have hu : L.toIntS_L3 (n + 1) { n := 22, t := [(0, (.ro false (.ints .i64 x0))), (3, (.own 0)), (4, (.int .i64 s_.1))], h := [.row (.ints .i64 s_.2)] } k = L.toIntS_step3 x0 s_.1 s_.2 (fun s_ => L.toIntS_L3 n { n := 22, t := [(0, (.ro false (.ints .i64 x0))), (3, (.own 0)), (4, (.int .i64 s_.1))], h := [.row (.ints .i64 s_.2)] } k) (fun d => k (.exit 0) { n := 22, t := [(3, (.own 0))], h := [.row (.ints .i64 d)] }) none := by
      kernel_rfl
    have hs : (fun s_ : Int × (List Int) => L.toIntS_L3 n { n := 22, t := [(0, (.ro false (.ints .i64 x0))), (3, (.own 0)), (4, (.int .i64 s_.1))], h := [.row (.ints .i64 s_.2)] } k) = fun s_ => optC (L.toIntS_run3 x0 n s_) (fun (r : List Int) => k (.exit 0) { n := 22, t := [(3, (.own 0))], h := [.row (.ints .i64 r)] }) none := funext ih
    rw [hu, hs]
    exact (L.toIntS_step3_nat (fun o => optC o (fun (r : List Int) => k (.exit 0) { n := 22, t := [(3, (.own 0))], h := [.row (.ints .i64 r)] }) none) x0 s_.1 s_.2 (L.toIntS_run3 x0 n) (fun d => some d) none).symm
noncomputable def L.toIntS_tree {α : Type} (a : List Int) (leaf0_ : List Int → α) (fail_ : α) : α :=
  (bif small (↑a.length : Int).toNat && true then (optC (L.toIntS_run3 a FUEL (0, List.replicate (↑a.length : Int).toNat 0)) (fun qy_1 => (leaf0_ qy_1)) fail_) else fail_)
theorem L.toIntS_tree_nat {α γ : Type} (g : α → γ) (a : List Int) (leaf0_ : List Int → α) (fail_ : α) : g (L.toIntS_tree a leaf0_ fail_) = L.toIntS_tree a (fun d => g (leaf0_ d)) (g fail_) := by
  unfold L.toIntS_tree; simp only [apply_cnd g, apply_optC g, apply_sumC g]
noncomputable def L.toIntS_t (a : List Int) : Option (List Int) := L.toIntS_tree a (fun d => some d) none
theorem L.toIntS_den (a : List Int) (κ : V → List E → R) : L.toIntS_F [.ro false (.ints .i64 a)] [] κ = optC (L.toIntS_t a) (fun (r : List Int) => κ (.own 0) [.row (.ints .i64 r)]) none := by
  have hu : L.toIntS_F [.ro false (.ints .i64 a)] [] κ = L.toIntS_tree a (fun d => κ (.own 0) [.row (.ints .i64 d)]) none := by
    refine Eq.trans (show L.toIntS_F [.ro false (.ints .i64 a)] [] κ = (bif small (↑a.length : Int).toNat && true then (L.toIntS_L3 FUEL { n := 22, t := [(0, (.ro false (.ints .i64 a))), (3, (.own 0)), (4, (.int .i64 0))], h := [.row (.ints .i64 (List.replicate (↑a.length : Int).toNat 0))] } (L.toIntS_k3 κ)) else none) by kernel_rfl) ?_
    refine cnd_congr ?_ ?_
    · refine (L.toIntS_L3_run a FUEL (0, List.replicate (↑a.length : Int).toNat 0) (L.toIntS_k3 κ)).trans (optC_congr (fun qy_1 => ?_))
      kernel_rfl
    · kernel_rfl
  rw [hu]
  exact (L.toIntS_tree_nat (fun o => optC o (fun (r : List Int) => κ (.own 0) [.row (.ints .i64 r)]) none) a (fun d => some d) none).symm
noncomputable def L.toIntS_s : D.Spec where
  keep := false
  pure := false
  add := true
  ds := [.int .i64]
  sp := fun args h κ => match args, h with
    | [.ro false (.ints .i64 a)], [] => optC (L.toIntS_t a) (fun (r : List Int) => κ (.own 0) [.row (.ints .i64 r)]) none
    | _, _ => none
theorem L.toIntS_ok : SpecOk Try.prog 22 L.toIntS_s := by
  refine SpecOk.of TDok mixed (T := L.toIntS_T) ?_ (ann := L.toIntS_ann) Try.func22 rfl (by decide +kernel) ?_ ?_ ?_ ?_
  · intro p hp; cases hp
  · intro args h κ r hh
    simp only [L.toIntS_s] at hh
    split at hh
    · exact (L.toIntS_den _ κ).trans hh
    · cases hh
  · intro args h κ r hh
    simp only [L.toIntS_s] at hh ⊢
    split at hh
    · exact optC_law2 (F := fun (r : List Int) κ => κ (.own 0) [.row (.ints .i64 r)]) (fun b κ r hb => ⟨_, _, hb, fun _ => rfl⟩) hh
    · cases hh
  · intro hh; cases hh
  · intro _ args h κ r hh
    simp only [L.toIntS_s] at hh
    split at hh
    · rfl
    · cases hh

-- loop.example/guardsonnets/laws.eqIntS
noncomputable def L.eqIntS_T : List (Nat × D.Spec) := []
def L.eqIntS_ann : Nat → List Nat × List Nat
  | 4 => ([0, 1, 5], [4])
  | _ => ([], [])
noncomputable def L.eqIntS_F (args : List V) (h : List E) (κ : V → List E → R) : R := funC TD (tableK L.eqIntS_T) L.eqIntS_ann (drawOk TD (tableP L.eqIntS_T)) FUEL Try.f24 args h κ
noncomputable def L.eqIntS_L4 (n : Nat) (σ : St) (k : X → St → R) : R := iterC 0 (fun σ k => denC TD (tableK L.eqIntS_T) L.eqIntS_ann (drawOk TD (tableP L.eqIntS_T)) 0 FUEL ((findLoop 4 (Try.f24.body.getD .skip)).getD .skip) σ k) [0, 1, 5] [4] n σ k
noncomputable def L.eqIntS_k4 (κ : V → List E → R) : X → St → R := (afterC TD (tableK L.eqIntS_T) L.eqIntS_ann (drawOk TD (tableP L.eqIntS_T)) 0 FUEL 4 (Try.f24.body.getD .skip) (finC TD 0 Try.f24 κ)).getD (fun _ _ => none)
noncomputable def L.eqIntS_step4 {α : Type} (x0 : List Int) (x1 : List Int) (x5 : Int) (next_ : Int → α) (out0_ : Bool → α) (out1_ : Unit → α) (fail_ : α) : α :=
  (bif decide (x5 < (↑x0.length : Int)) then (bif decide (0 ≤ x5) && decide (x5 < (↑x0.length : Int)) then (bif decide (0 ≤ x5) && decide (x5 < (↑x1.length : Int)) then (bif !eli x0 x5.toNat == eli x1 x5.toNat then (out0_ false) else (next_ (IntKind.i64.wrap (x5 + 1)))) else fail_) else fail_) else (out1_ ()))
theorem L.eqIntS_step4_nat {α γ : Type} (g : α → γ) (x0 : List Int) (x1 : List Int) (x5 : Int) (next_ : Int → α) (out0_ : Bool → α) (out1_ : Unit → α) (fail_ : α) : g (L.eqIntS_step4 x0 x1 x5 next_ out0_ out1_ fail_) = L.eqIntS_step4 x0 x1 x5 (fun s => g (next_ s)) (fun d => g (out0_ d)) (fun d => g (out1_ d)) (g fail_) := by
  unfold L.eqIntS_step4; simp only [apply_cnd g, apply_optC g, apply_sumC g]
noncomputable def L.eqIntS_run4 (x0 : List Int) (x1 : List Int) : Nat → Int → Option ((Bool) ⊕ (Unit))
  | 0, _ => none
  | n + 1, s_ => L.eqIntS_step4 x0 x1 s_ (L.eqIntS_run4 x0 x1 n) (fun d => some ((Sum.inl d))) (fun d => some ((Sum.inr d))) none
theorem L.eqIntS_L4_run (x0 : List Int) (x1 : List Int) (n : Nat) (s_ : Int) (k : X → St → R) : L.eqIntS_L4 n { n := 26, t := [(0, (.ro false (.ints .i64 x0))), (1, (.ro false (.ints .i64 x1))), (5, (.int .i64 s_))], h := [] } k = optC (L.eqIntS_run4 x0 x1 n s_) (fun (r : (Bool) ⊕ (Unit)) => (sumC r (fun (r : Bool) => k (.ret) { n := 26, t := [(4, (.bool r))], h := [] }) (fun (r : Unit) => k (.exit 0) { n := 26, t := [(4, .junk)], h := [] }))) none := by
  induction n generalizing s_ with
  | zero => rfl
  | succ n ih =>
    have hu : L.eqIntS_L4 (n + 1) { n := 26, t := [(0, (.ro false (.ints .i64 x0))), (1, (.ro false (.ints .i64 x1))), (5, (.int .i64 s_))], h := [] } k = L.eqIntS_step4 x0 x1 s_ (fun s_ => L.eqIntS_L4 n { n := 26, t := [(0, (.ro false (.ints .i64 x0))), (1, (.ro false (.ints .i64 x1))), (5, (.int .i64 s_))], h := [] } k) (fun d => k (.ret) { n := 26, t := [(4, (.bool d))], h := [] }) (fun d => k (.exit 0) { n := 26, t := [(4, .junk)], h := [] }) none := by
      kernel_rfl
    have hs : (fun s_ : Int => L.eqIntS_L4 n { n := 26, t := [(0, (.ro false (.ints .i64 x0))), (1, (.ro false (.ints .i64 x1))), (5, (.int .i64 s_))], h := [] } k) = fun s_ => optC (L.eqIntS_run4 x0 x1 n s_) (fun (r : (Bool) ⊕ (Unit)) => (sumC r (fun (r : Bool) => k (.ret) { n := 26, t := [(4, (.bool r))], h := [] }) (fun (r : Unit) => k (.exit 0) { n := 26, t := [(4, .junk)], h := [] }))) none := funext ih
    rw [hu, hs]
    exact (L.eqIntS_step4_nat (fun o => optC o (fun (r : (Bool) ⊕ (Unit)) => (sumC r (fun (r : Bool) => k (.ret) { n := 26, t := [(4, (.bool r))], h := [] }) (fun (r : Unit) => k (.exit 0) { n := 26, t := [(4, .junk)], h := [] }))) none) x0 x1 s_ (L.eqIntS_run4 x0 x1 n) (fun d => some ((Sum.inl d))) (fun d => some ((Sum.inr d))) none).symm
noncomputable def L.eqIntS_tree {α : Type} (a : List Int) (b_ : List Int) (leaf0_ : Bool → α) (fail_ : α) : α :=
  (bif !(↑a.length : Int) == (↑b_.length : Int) then (leaf0_ false) else (optC (L.eqIntS_run4 a b_ FUEL 0) (fun qy_1 => (sumC qy_1 (fun (qy_1 : Bool) => (leaf0_ qy_1)) (fun (qy_1 : Unit) => (leaf0_ true)))) fail_))
theorem L.eqIntS_tree_nat {α γ : Type} (g : α → γ) (a : List Int) (b_ : List Int) (leaf0_ : Bool → α) (fail_ : α) : g (L.eqIntS_tree a b_ leaf0_ fail_) = L.eqIntS_tree a b_ (fun d => g (leaf0_ d)) (g fail_) := by
  unfold L.eqIntS_tree; simp only [apply_cnd g, apply_optC g, apply_sumC g]
noncomputable def L.eqIntS_t (a : List Int) (b_ : List Int) : Option (Bool) := L.eqIntS_tree a b_ (fun d => some d) none
theorem L.eqIntS_den (a : List Int) (b_ : List Int) (κ : V → List E → R) : L.eqIntS_F [.ro false (.ints .i64 a), .ro false (.ints .i64 b_)] [] κ = optC (L.eqIntS_t a b_) (fun (r : Bool) => κ (.bool r) []) none := by
  have hu : L.eqIntS_F [.ro false (.ints .i64 a), .ro false (.ints .i64 b_)] [] κ = L.eqIntS_tree a b_ (fun d => κ (.bool d) []) none := by
    refine Eq.trans (show L.eqIntS_F [.ro false (.ints .i64 a), .ro false (.ints .i64 b_)] [] κ = (bif !(↑a.length : Int) == (↑b_.length : Int) then (κ (.bool false) []) else (L.eqIntS_L4 FUEL { n := 26, t := [(0, (.ro false (.ints .i64 a))), (1, (.ro false (.ints .i64 b_))), (5, (.int .i64 0))], h := [] } (L.eqIntS_k4 κ))) by kernel_rfl) ?_
    refine cnd_congr ?_ ?_
    · kernel_rfl
    · refine (L.eqIntS_L4_run a b_ FUEL 0 (L.eqIntS_k4 κ)).trans (optC_congr (fun qy_1 => ?_))
      rcases qy_1 with qy_1 | qy_1
      · kernel_rfl
      · kernel_rfl
  rw [hu]
  exact (L.eqIntS_tree_nat (fun o => optC o (fun (r : Bool) => κ (.bool r) []) none) a b_ (fun d => some d) none).symm
noncomputable def L.eqIntS_s : D.Spec where
  keep := false
  pure := true
  add := true
  ds := [.int .i64, .int .i64]
  sp := fun args h κ => match args, h with
    | [.ro false (.ints .i64 a), .ro false (.ints .i64 b_)], [] => optC (L.eqIntS_t a b_) (fun (r : Bool) => κ (.bool r) []) none
    | _, _ => none
theorem L.eqIntS_ok : SpecOk Try.prog 24 L.eqIntS_s := by
  refine SpecOk.of TDok mixed (T := L.eqIntS_T) ?_ (ann := L.eqIntS_ann) Try.func24 rfl (by decide +kernel) ?_ ?_ ?_ ?_
  · intro p hp; cases hp
  · intro args h κ r hh
    simp only [L.eqIntS_s] at hh
    split at hh
    · exact (L.eqIntS_den _ _ κ).trans hh
    · cases hh
  · intro args h κ r hh
    simp only [L.eqIntS_s] at hh ⊢
    split at hh
    · exact optC_law2 (F := fun (r : Bool) κ => κ (.bool r) []) (fun b κ r hb => ⟨_, _, hb, fun _ => rfl⟩) hh
    · cases hh
  · intro _ args h κ r hh
    simp only [L.eqIntS_s] at hh
    split at hh
    · exact ⟨rfl, fun _ => rfl⟩
    · cases hh
  · intro _ args h κ r hh
    simp only [L.eqIntS_s] at hh
    split at hh
    · rfl
    · cases hh

-- loop.example/guardsonnets/laws.eqByteS
noncomputable def L.eqByteS_T : List (Nat × D.Spec) := []
def L.eqByteS_ann : Nat → List Nat × List Nat
  | 4 => ([0, 1, 5], [4])
  | _ => ([], [])
noncomputable def L.eqByteS_F (args : List V) (h : List E) (κ : V → List E → R) : R := funC TD (tableK L.eqByteS_T) L.eqByteS_ann (drawOk TD (tableP L.eqByteS_T)) FUEL Try.f31 args h κ
noncomputable def L.eqByteS_L4 (n : Nat) (σ : St) (k : X → St → R) : R := iterC 0 (fun σ k => denC TD (tableK L.eqByteS_T) L.eqByteS_ann (drawOk TD (tableP L.eqByteS_T)) 0 FUEL ((findLoop 4 (Try.f31.body.getD .skip)).getD .skip) σ k) [0, 1, 5] [4] n σ k
noncomputable def L.eqByteS_k4 (κ : V → List E → R) : X → St → R := (afterC TD (tableK L.eqByteS_T) L.eqByteS_ann (drawOk TD (tableP L.eqByteS_T)) 0 FUEL 4 (Try.f31.body.getD .skip) (finC TD 0 Try.f31 κ)).getD (fun _ _ => none)
noncomputable def L.eqByteS_step4 {α : Type} (x0 : List Int) (x1 : List Int) (x5 : Int) (next_ : Int → α) (out0_ : Bool → α) (out1_ : Unit → α) (fail_ : α) : α :=
  (bif decide (x5 < (↑x0.length : Int)) then (bif decide (0 ≤ x5) && decide (x5 < (↑x0.length : Int)) then (bif decide (0 ≤ x5) && decide (x5 < (↑x1.length : Int)) then (bif !eli x0 x5.toNat == eli x1 x5.toNat then (out0_ false) else (next_ (IntKind.i64.wrap (x5 + 1)))) else fail_) else fail_) else (out1_ ()))
theorem L.eqByteS_step4_nat {α γ : Type} (g : α → γ) (x0 : List Int) (x1 : List Int) (x5 : Int) (next_ : Int → α) (out0_ : Bool → α) (out1_ : Unit → α) (fail_ : α) : g (L.eqByteS_step4 x0 x1 x5 next_ out0_ out1_ fail_) = L.eqByteS_step4 x0 x1 x5 (fun s => g (next_ s)) (fun d => g (out0_ d)) (fun d => g (out1_ d)) (g fail_) := by
  unfold L.eqByteS_step4; simp only [apply_cnd g, apply_optC g, apply_sumC g]
noncomputable def L.eqByteS_run4 (x0 : List Int) (x1 : List Int) : Nat → Int → Option ((Bool) ⊕ (Unit))
  | 0, _ => none
  | n + 1, s_ => L.eqByteS_step4 x0 x1 s_ (L.eqByteS_run4 x0 x1 n) (fun d => some ((Sum.inl d))) (fun d => some ((Sum.inr d))) none
theorem L.eqByteS_L4_run (x0 : List Int) (x1 : List Int) (n : Nat) (s_ : Int) (k : X → St → R) : L.eqByteS_L4 n { n := 26, t := [(0, (.ro false (.ints .u8 x0))), (1, (.ro false (.ints .u8 x1))), (5, (.int .i64 s_))], h := [] } k = optC (L.eqByteS_run4 x0 x1 n s_) (fun (r : (Bool) ⊕ (Unit)) => (sumC r (fun (r : Bool) => k (.ret) { n := 26, t := [(4, (.bool r))], h := [] }) (fun (r : Unit) => k (.exit 0) { n := 26, t := [(4, .junk)], h := [] }))) none := by
  induction n generalizing s_ with
  | zero => rfl
  | succ n ih =>
    have hu : L.eqByteS_L4 (n + 1) { n := 26, t := [(0, (.ro false (.ints .u8 x0))), (1, (.ro false (.ints .u8 x1))), (5, (.int .i64 s_))], h := [] } k = L.eqByteS_step4 x0 x1 s_ (fun s_ => L.eqByteS_L4 n { n := 26, t := [(0, (.ro false (.ints .u8 x0))), (1, (.ro false (.ints .u8 x1))), (5, (.int .i64 s_))], h := [] } k) (fun d => k (.ret) { n := 26, t := [(4, (.bool d))], h := [] }) (fun d => k (.exit 0) { n := 26, t := [(4, .junk)], h := [] }) none := by
      kernel_rfl
    have hs : (fun s_ : Int => L.eqByteS_L4 n { n := 26, t := [(0, (.ro false (.ints .u8 x0))), (1, (.ro false (.ints .u8 x1))), (5, (.int .i64 s_))], h := [] } k) = fun s_ => optC (L.eqByteS_run4 x0 x1 n s_) (fun (r : (Bool) ⊕ (Unit)) => (sumC r (fun (r : Bool) => k (.ret) { n := 26, t := [(4, (.bool r))], h := [] }) (fun (r : Unit) => k (.exit 0) { n := 26, t := [(4, .junk)], h := [] }))) none := funext ih
    rw [hu, hs]
    exact (L.eqByteS_step4_nat (fun o => optC o (fun (r : (Bool) ⊕ (Unit)) => (sumC r (fun (r : Bool) => k (.ret) { n := 26, t := [(4, (.bool r))], h := [] }) (fun (r : Unit) => k (.exit 0) { n := 26, t := [(4, .junk)], h := [] }))) none) x0 x1 s_ (L.eqByteS_run4 x0 x1 n) (fun d => some ((Sum.inl d))) (fun d => some ((Sum.inr d))) none).symm
noncomputable def L.eqByteS_tree {α : Type} (a : List Int) (b_ : List Int) (leaf0_ : Bool → α) (fail_ : α) : α :=
  (bif !(↑a.length : Int) == (↑b_.length : Int) then (leaf0_ false) else (optC (L.eqByteS_run4 a b_ FUEL 0) (fun qy_1 => (sumC qy_1 (fun (qy_1 : Bool) => (leaf0_ qy_1)) (fun (qy_1 : Unit) => (leaf0_ true)))) fail_))
theorem L.eqByteS_tree_nat {α γ : Type} (g : α → γ) (a : List Int) (b_ : List Int) (leaf0_ : Bool → α) (fail_ : α) : g (L.eqByteS_tree a b_ leaf0_ fail_) = L.eqByteS_tree a b_ (fun d => g (leaf0_ d)) (g fail_) := by
  unfold L.eqByteS_tree; simp only [apply_cnd g, apply_optC g, apply_sumC g]
noncomputable def L.eqByteS_t (a : List Int) (b_ : List Int) : Option (Bool) := L.eqByteS_tree a b_ (fun d => some d) none
theorem L.eqByteS_den (a : List Int) (b_ : List Int) (κ : V → List E → R) : L.eqByteS_F [.ro false (.ints .u8 a), .ro false (.ints .u8 b_)] [] κ = optC (L.eqByteS_t a b_) (fun (r : Bool) => κ (.bool r) []) none := by
  have hu : L.eqByteS_F [.ro false (.ints .u8 a), .ro false (.ints .u8 b_)] [] κ = L.eqByteS_tree a b_ (fun d => κ (.bool d) []) none := by
    refine Eq.trans (show L.eqByteS_F [.ro false (.ints .u8 a), .ro false (.ints .u8 b_)] [] κ = (bif !(↑a.length : Int) == (↑b_.length : Int) then (κ (.bool false) []) else (L.eqByteS_L4 FUEL { n := 26, t := [(0, (.ro false (.ints .u8 a))), (1, (.ro false (.ints .u8 b_))), (5, (.int .i64 0))], h := [] } (L.eqByteS_k4 κ))) by kernel_rfl) ?_
    refine cnd_congr ?_ ?_
    · kernel_rfl
    · refine (L.eqByteS_L4_run a b_ FUEL 0 (L.eqByteS_k4 κ)).trans (optC_congr (fun qy_1 => ?_))
      rcases qy_1 with qy_1 | qy_1
      · kernel_rfl
      · kernel_rfl
  rw [hu]
  exact (L.eqByteS_tree_nat (fun o => optC o (fun (r : Bool) => κ (.bool r) []) none) a b_ (fun d => some d) none).symm
noncomputable def L.eqByteS_s : D.Spec where
  keep := false
  pure := true
  add := true
  ds := [.int .u8, .int .u8]
  sp := fun args h κ => match args, h with
    | [.ro false (.ints .u8 a), .ro false (.ints .u8 b_)], [] => optC (L.eqByteS_t a b_) (fun (r : Bool) => κ (.bool r) []) none
    | _, _ => none
theorem L.eqByteS_ok : SpecOk Try.prog 31 L.eqByteS_s := by
  refine SpecOk.of TDok mixed (T := L.eqByteS_T) ?_ (ann := L.eqByteS_ann) Try.func31 rfl (by decide +kernel) ?_ ?_ ?_ ?_
  · intro p hp; cases hp
  · intro args h κ r hh
    simp only [L.eqByteS_s] at hh
    split at hh
    · exact (L.eqByteS_den _ _ κ).trans hh
    · cases hh
  · intro args h κ r hh
    simp only [L.eqByteS_s] at hh ⊢
    split at hh
    · exact optC_law2 (F := fun (r : Bool) κ => κ (.bool r) []) (fun b κ r hb => ⟨_, _, hb, fun _ => rfl⟩) hh
    · cases hh
  · intro _ args h κ r hh
    simp only [L.eqByteS_s] at hh
    split at hh
    · exact ⟨rfl, fun _ => rfl⟩
    · cases hh
  · intro _ args h κ r hh
    simp only [L.eqByteS_s] at hh
    split at hh
    · rfl
    · cases hh

-- loop.example/guardsonnets/laws.eqPost
noncomputable def L.eqPost_T : List (Nat × D.Spec) := [(24, L.eqIntS_s), (31, L.eqByteS_s)]
def L.eqPost_ann : Nat → List Nat × List Nat
  | _ => ([], [])
noncomputable def L.eqPost_F (args : List V) (h : List E) (κ : V → List E → R) : R := funC TD (tableK L.eqPost_T) L.eqPost_ann (drawOk TD (tableP L.eqPost_T)) FUEL Try.f23 args h κ
noncomputable def L.eqPost_tree {α : Type} (a0 : List Int) (a1 : Int) (a2 : List Int) (b_0 : List Int) (b_1 : Int) (b_2 : List Int) (leaf0_ : Bool → α) (fail_ : α) : α :=
  (optC (L.eqIntS_t a0 b_0) (fun c_1 => (bif !c_1 then (leaf0_ false) else (bif !a1 == b_1 then (leaf0_ false) else (optC (L.eqByteS_t a2 b_2) (fun c_2 => (bif !c_2 then (leaf0_ false) else (leaf0_ true))) fail_)))) fail_)
theorem L.eqPost_tree_nat {α γ : Type} (g : α → γ) (a0 : List Int) (a1 : Int) (a2 : List Int) (b_0 : List Int) (b_1 : Int) (b_2 : List Int) (leaf0_ : Bool → α) (fail_ : α) : g (L.eqPost_tree a0 a1 a2 b_0 b_1 b_2 leaf0_ fail_) = L.eqPost_tree a0 a1 a2 b_0 b_1 b_2 (fun d => g (leaf0_ d)) (g fail_) := by
  unfold L.eqPost_tree; simp only [apply_cnd g, apply_optC g, apply_sumC g]
noncomputable def L.eqPost_t (a0 : List Int) (a1 : Int) (a2 : List Int) (b_0 : List Int) (b_1 : Int) (b_2 : List Int) : Option (Bool) := L.eqPost_tree a0 a1 a2 b_0 b_1 b_2 (fun d => some d) none
theorem L.eqPost_den (a0 : List Int) (a1 : Int) (a2 : List Int) (b_0 : List Int) (b_1 : Int) (b_2 : List Int) (κ : V → List E → R) : L.eqPost_F [.agg [.ro false (.ints .i64 a0), .int .i64 a1, .ro false (.ints .u8 a2)], .agg [.ro false (.ints .i64 b_0), .int .i64 b_1, .ro false (.ints .u8 b_2)]] [] κ = optC (L.eqPost_t a0 a1 a2 b_0 b_1 b_2) (fun (r : Bool) => κ (.bool r) []) none := by
  have hu : L.eqPost_F [.agg [.ro false (.ints .i64 a0), .int .i64 a1, .ro false (.ints .u8 a2)], .agg [.ro false (.ints .i64 b_0), .int .i64 b_1, .ro false (.ints .u8 b_2)]] [] κ = L.eqPost_tree a0 a1 a2 b_0 b_1 b_2 (fun d => κ (.bool d) []) none := by
    kernel_rfl
  rw [hu]
  exact (L.eqPost_tree_nat (fun o => optC o (fun (r : Bool) => κ (.bool r) []) none) a0 a1 a2 b_0 b_1 b_2 (fun d => some d) none).symm
noncomputable def L.eqPost_s : D.Spec where
  keep := false
  pure := true
  add := true
  ds := [.tuple #[1, 0, 2], .tuple #[1, 0, 2]]
  sp := fun args h κ => match args, h with
    | [.agg [.ro false (.ints .i64 a0), .int .i64 a1, .ro false (.ints .u8 a2)], .agg [.ro false (.ints .i64 b_0), .int .i64 b_1, .ro false (.ints .u8 b_2)]], [] => optC (L.eqPost_t a0 a1 a2 b_0 b_1 b_2) (fun (r : Bool) => κ (.bool r) []) none
    | _, _ => none
theorem L.eqPost_ok : SpecOk Try.prog 23 L.eqPost_s := by
  refine SpecOk.of TDok mixed (T := L.eqPost_T) ?_ (ann := L.eqPost_ann) Try.func23 rfl (by decide +kernel) ?_ ?_ ?_ ?_
  · intro p hp
    simp only [L.eqPost_T, List.mem_cons, List.not_mem_nil, or_false] at hp
    rcases hp with rfl | rfl
    · exact L.eqIntS_ok
    · exact L.eqByteS_ok
  · intro args h κ r hh
    simp only [L.eqPost_s] at hh
    split at hh
    · exact (L.eqPost_den _ _ _ _ _ _ κ).trans hh
    · cases hh
  · intro args h κ r hh
    simp only [L.eqPost_s] at hh ⊢
    split at hh
    · exact optC_law2 (F := fun (r : Bool) κ => κ (.bool r) []) (fun b κ r hb => ⟨_, _, hb, fun _ => rfl⟩) hh
    · cases hh
  · intro _ args h κ r hh
    simp only [L.eqPost_s] at hh
    split at hh
    · exact ⟨rfl, fun _ => rfl⟩
    · cases hh
  · intro _ args h κ r hh
    simp only [L.eqPost_s] at hh
    split at hh
    · rfl
    · cases hh

-- loop.example/guardsonnets/laws.markIntS
noncomputable def L.markIntS_T : List (Nat × D.Spec) := []
def L.markIntS_ann : Nat → List Nat × List Nat
  | 2 => ([0, 1, 5], [1])
  | _ => ([], [])
noncomputable def L.markIntS_F (args : List V) (h : List E) (κ : V → List E → R) : R := funC TD (tableK L.markIntS_T) L.markIntS_ann (drawOk TD (tableP L.markIntS_T)) FUEL Try.f25 args h κ
noncomputable def L.markIntS_L2 (n : Nat) (σ : St) (k : X → St → R) : R := iterC 1 (fun σ k => denC TD (tableK L.markIntS_T) L.markIntS_ann (drawOk TD (tableP L.markIntS_T)) 1 FUEL ((findLoop 2 (Try.f25.body.getD .skip)).getD .skip) σ k) [0, 1, 5] [1] n σ k
noncomputable def L.markIntS_k2 (κ : V → List E → R) : X → St → R := (afterC TD (tableK L.markIntS_T) L.markIntS_ann (drawOk TD (tableP L.markIntS_T)) 1 FUEL 2 (Try.f25.body.getD .skip) (finC TD 1 Try.f25 κ)).getD (fun _ _ => none)
noncomputable def L.markIntS_step2 {α : Type} (x1 : Int) (x5 : Int) (r0 : List Int) (next_ : Int × Int × (List Int) → α) (out0_ : Int × (List Int) → α) (fail_ : α) : α :=
  (bif decide (x5 < (↑r0.length : Int)) then (bif decide (0 ≤ x5) && decide (x5 < (↑r0.length : Int)) then (bif decide (x5.toNat < r0.length) then (next_ (IntKind.i64.wrap (x1 + 1), IntKind.i64.wrap (x5 + 1), r0.set x5.toNat x1)) else fail_) else fail_) else (out0_ (x1, r0)))
theorem L.markIntS_step2_nat {α γ : Type} (g : α → γ) (x1 : Int) (x5 : Int) (r0 : List Int) (next_ : Int × Int × (List Int) → α) (out0_ : Int × (List Int) → α) (fail_ : α) : g (L.markIntS_step2 x1 x5 r0 next_ out0_ fail_) = L.markIntS_step2 x1 x5 r0 (fun s => g (next_ s)) (fun d => g (out0_ d)) (g fail_) := by
  unfold L.markIntS_step2; simp only [apply_cnd g, apply_optC g, apply_sumC g]
noncomputable def L.markIntS_run2 : Nat → Int × Int × (List Int) → Option (Int × (List Int))
  | 0, _ => none
  | n + 1, s_ => L.markIntS_step2 s_.1 s_.2.1 s_.2.2 (L.markIntS_run2 n) (fun d => some d) none
theorem L.markIntS_L2_run (n : Nat) (s_ : Int × Int × (List Int)) (k : X → St → R) : L.markIntS_L2 n { n := 19, t := [(0, (.own 0)), (1, (.int .i64 s_.1)), (5, (.int .i64 s_.2.1))], h := [.row (.ints .i64 s_.2.2)] } k = optC (L.markIntS_run2 n s_) (fun (r : Int × (List Int)) => k (.exit 0) { n := 19, t := [(1, (.int .i64 r.1))], h := [.row (.ints .i64 r.2)] }) none := by
  induction n generalizing s_ with
  | zero => rfl
  | succ n ih =>
    have hu : L.markIntS_L2 (n + 1) { n := 19, t := [(0, (.own 0)), (1, (.int .i64 s_.1)), (5, (.int .i64 s_.2.1))], h := [.row (.ints .i64 s_.2.2)] } k = L.markIntS_step2 s_.1 s_.2.1 s_.2.2 (fun s_ => L.markIntS_L2 n { n := 19, t := [(0, (.own 0)), (1, (.int .i64 s_.1)), (5, (.int .i64 s_.2.1))], h := [.row (.ints .i64 s_.2.2)] } k) (fun d => k (.exit 0) { n := 19, t := [(1, (.int .i64 d.1))], h := [.row (.ints .i64 d.2)] }) none := by
      kernel_rfl
    have hs : (fun s_ : Int × Int × (List Int) => L.markIntS_L2 n { n := 19, t := [(0, (.own 0)), (1, (.int .i64 s_.1)), (5, (.int .i64 s_.2.1))], h := [.row (.ints .i64 s_.2.2)] } k) = fun s_ => optC (L.markIntS_run2 n s_) (fun (r : Int × (List Int)) => k (.exit 0) { n := 19, t := [(1, (.int .i64 r.1))], h := [.row (.ints .i64 r.2)] }) none := funext ih
    rw [hu, hs]
    exact (L.markIntS_step2_nat (fun o => optC o (fun (r : Int × (List Int)) => k (.exit 0) { n := 19, t := [(1, (.int .i64 r.1))], h := [.row (.ints .i64 r.2)] }) none) s_.1 s_.2.1 s_.2.2 (L.markIntS_run2 n) (fun d => some d) none).symm
noncomputable def L.markIntS_tree {α : Type} (a : List Int) (k_ : Int) (leaf0_ : Int × (List Int) → α) (fail_ : α) : α :=
  (optC (L.markIntS_run2 FUEL (k_, 0, a)) (fun qy_1 => (leaf0_ (qy_1.1, qy_1.2))) fail_)
theorem L.markIntS_tree_nat {α γ : Type} (g : α → γ) (a : List Int) (k_ : Int) (leaf0_ : Int × (List Int) → α) (fail_ : α) : g (L.markIntS_tree a k_ leaf0_ fail_) = L.markIntS_tree a k_ (fun d => g (leaf0_ d)) (g fail_) := by
  unfold L.markIntS_tree; simp only [apply_cnd g, apply_optC g, apply_sumC g]
noncomputable def L.markIntS_t (a : List Int) (k_ : Int) : Option (Int × (List Int)) := L.markIntS_tree a k_ (fun d => some d) none
theorem L.markIntS_den (a : List Int) (k_ : Int) (κ : V → List E → R) : L.markIntS_F [.own 0, .int .i64 k_] [.row (.ints .i64 a)] κ = optC (L.markIntS_t a k_) (fun (r : Int × (List Int)) => κ (.int .i64 r.1) [.row (.ints .i64 r.2)]) none := by
  have hu : L.markIntS_F [.own 0, .int .i64 k_] [.row (.ints .i64 a)] κ = L.markIntS_tree a k_ (fun d => κ (.int .i64 d.1) [.row (.ints .i64 d.2)]) none := by
    refine Eq.trans (show L.markIntS_F [.own 0, .int .i64 k_] [.row (.ints .i64 a)] κ = (L.markIntS_L2 FUEL { n := 19, t := [(0, (.own 0)), (1, (.int .i64 k_)), (5, (.int .i64 0))], h := [.row (.ints .i64 a)] } (L.markIntS_k2 κ)) by kernel_rfl) ?_
    refine (L.markIntS_L2_run FUEL (k_, 0, a) (L.markIntS_k2 κ)).trans (optC_congr (fun qy_1 => ?_))
    kernel_rfl
  rw [hu]
  exact (L.markIntS_tree_nat (fun o => optC o (fun (r : Int × (List Int)) => κ (.int .i64 r.1) [.row (.ints .i64 r.2)]) none) a k_ (fun d => some d) none).symm
noncomputable def L.markIntS_s : D.Spec where
  keep := false
  pure := false
  add := false
  ds := [.pointer 0, .invalid]
  sp := fun args h κ => match args, h with
    | [.own 0, .int .i64 k_], [.row (.ints .i64 a)] => optC (L.markIntS_t a k_) (fun (r : Int × (List Int)) => κ (.int .i64 r.1) [.row (.ints .i64 r.2)]) none
    | _, _ => none
theorem L.markIntS_ok : SpecOk Try.prog 25 L.markIntS_s := by
  refine SpecOk.of TDok mixed (T := L.markIntS_T) ?_ (ann := L.markIntS_ann) Try.func25 rfl (by decide +kernel) ?_ ?_ ?_ ?_
  · intro p hp; cases hp
  · intro args h κ r hh
    simp only [L.markIntS_s] at hh
    split at hh
    · exact (L.markIntS_den _ _ κ).trans hh
    · cases hh
  · intro args h κ r hh
    simp only [L.markIntS_s] at hh ⊢
    split at hh
    · exact optC_law2 (F := fun (r : Int × (List Int)) κ => κ (.int .i64 r.1) [.row (.ints .i64 r.2)]) (fun b κ r hb => ⟨_, _, hb, fun _ => rfl⟩) hh
    · cases hh
  · intro hh; cases hh
  · intro hh; cases hh

-- loop.example/guardsonnets/laws.markByteS
noncomputable def L.markByteS_T : List (Nat × D.Spec) := []
def L.markByteS_ann : Nat → List Nat × List Nat
  | 2 => ([0, 1, 5], [1])
  | _ => ([], [])
noncomputable def L.markByteS_F (args : List V) (h : List E) (κ : V → List E → R) : R := funC TD (tableK L.markByteS_T) L.markByteS_ann (drawOk TD (tableP L.markByteS_T)) FUEL Try.f32 args h κ
noncomputable def L.markByteS_L2 (n : Nat) (σ : St) (k : X → St → R) : R := iterC 1 (fun σ k => denC TD (tableK L.markByteS_T) L.markByteS_ann (drawOk TD (tableP L.markByteS_T)) 1 FUEL ((findLoop 2 (Try.f32.body.getD .skip)).getD .skip) σ k) [0, 1, 5] [1] n σ k
noncomputable def L.markByteS_k2 (κ : V → List E → R) : X → St → R := (afterC TD (tableK L.markByteS_T) L.markByteS_ann (drawOk TD (tableP L.markByteS_T)) 1 FUEL 2 (Try.f32.body.getD .skip) (finC TD 1 Try.f32 κ)).getD (fun _ _ => none)
noncomputable def L.markByteS_step2 {α : Type} (x1 : Int) (x5 : Int) (r0 : List Int) (next_ : Int × Int × (List Int) → α) (out0_ : Int × (List Int) → α) (fail_ : α) : α :=
  (bif decide (x5 < (↑r0.length : Int)) then (bif decide (0 ≤ x5) && decide (x5 < (↑r0.length : Int)) then (bif decide (x5.toNat < r0.length) then (next_ (IntKind.i64.wrap (x1 + 1), IntKind.i64.wrap (x5 + 1), r0.set x5.toNat (IntKind.u8.wrap x1))) else fail_) else fail_) else (out0_ (x1, r0)))
theorem L.markByteS_step2_nat {α γ : Type} (g : α → γ) (x1 : Int) (x5 : Int) (r0 : List Int) (next_ : Int × Int × (List Int) → α) (out0_ : Int × (List Int) → α) (fail_ : α) : g (L.markByteS_step2 x1 x5 r0 next_ out0_ fail_) = L.markByteS_step2 x1 x5 r0 (fun s => g (next_ s)) (fun d => g (out0_ d)) (g fail_) := by
  unfold L.markByteS_step2; simp only [apply_cnd g, apply_optC g, apply_sumC g]
noncomputable def L.markByteS_run2 : Nat → Int × Int × (List Int) → Option (Int × (List Int))
  | 0, _ => none
  | n + 1, s_ => L.markByteS_step2 s_.1 s_.2.1 s_.2.2 (L.markByteS_run2 n) (fun d => some d) none
theorem L.markByteS_L2_run (n : Nat) (s_ : Int × Int × (List Int)) (k : X → St → R) : L.markByteS_L2 n { n := 20, t := [(0, (.own 0)), (1, (.int .i64 s_.1)), (5, (.int .i64 s_.2.1))], h := [.row (.ints .u8 s_.2.2)] } k = optC (L.markByteS_run2 n s_) (fun (r : Int × (List Int)) => k (.exit 0) { n := 20, t := [(1, (.int .i64 r.1))], h := [.row (.ints .u8 r.2)] }) none := by
  induction n generalizing s_ with
  | zero => rfl
  | succ n ih =>
    have hu : L.markByteS_L2 (n + 1) { n := 20, t := [(0, (.own 0)), (1, (.int .i64 s_.1)), (5, (.int .i64 s_.2.1))], h := [.row (.ints .u8 s_.2.2)] } k = L.markByteS_step2 s_.1 s_.2.1 s_.2.2 (fun s_ => L.markByteS_L2 n { n := 20, t := [(0, (.own 0)), (1, (.int .i64 s_.1)), (5, (.int .i64 s_.2.1))], h := [.row (.ints .u8 s_.2.2)] } k) (fun d => k (.exit 0) { n := 20, t := [(1, (.int .i64 d.1))], h := [.row (.ints .u8 d.2)] }) none := by
      kernel_rfl
    have hs : (fun s_ : Int × Int × (List Int) => L.markByteS_L2 n { n := 20, t := [(0, (.own 0)), (1, (.int .i64 s_.1)), (5, (.int .i64 s_.2.1))], h := [.row (.ints .u8 s_.2.2)] } k) = fun s_ => optC (L.markByteS_run2 n s_) (fun (r : Int × (List Int)) => k (.exit 0) { n := 20, t := [(1, (.int .i64 r.1))], h := [.row (.ints .u8 r.2)] }) none := funext ih
    rw [hu, hs]
    exact (L.markByteS_step2_nat (fun o => optC o (fun (r : Int × (List Int)) => k (.exit 0) { n := 20, t := [(1, (.int .i64 r.1))], h := [.row (.ints .u8 r.2)] }) none) s_.1 s_.2.1 s_.2.2 (L.markByteS_run2 n) (fun d => some d) none).symm
noncomputable def L.markByteS_tree {α : Type} (a : List Int) (k_ : Int) (leaf0_ : Int × (List Int) → α) (fail_ : α) : α :=
  (optC (L.markByteS_run2 FUEL (k_, 0, a)) (fun qy_1 => (leaf0_ (qy_1.1, qy_1.2))) fail_)
theorem L.markByteS_tree_nat {α γ : Type} (g : α → γ) (a : List Int) (k_ : Int) (leaf0_ : Int × (List Int) → α) (fail_ : α) : g (L.markByteS_tree a k_ leaf0_ fail_) = L.markByteS_tree a k_ (fun d => g (leaf0_ d)) (g fail_) := by
  unfold L.markByteS_tree; simp only [apply_cnd g, apply_optC g, apply_sumC g]
noncomputable def L.markByteS_t (a : List Int) (k_ : Int) : Option (Int × (List Int)) := L.markByteS_tree a k_ (fun d => some d) none
theorem L.markByteS_den (a : List Int) (k_ : Int) (κ : V → List E → R) : L.markByteS_F [.own 0, .int .i64 k_] [.row (.ints .u8 a)] κ = optC (L.markByteS_t a k_) (fun (r : Int × (List Int)) => κ (.int .i64 r.1) [.row (.ints .u8 r.2)]) none := by
  have hu : L.markByteS_F [.own 0, .int .i64 k_] [.row (.ints .u8 a)] κ = L.markByteS_tree a k_ (fun d => κ (.int .i64 d.1) [.row (.ints .u8 d.2)]) none := by
    refine Eq.trans (show L.markByteS_F [.own 0, .int .i64 k_] [.row (.ints .u8 a)] κ = (L.markByteS_L2 FUEL { n := 20, t := [(0, (.own 0)), (1, (.int .i64 k_)), (5, (.int .i64 0))], h := [.row (.ints .u8 a)] } (L.markByteS_k2 κ)) by kernel_rfl) ?_
    refine (L.markByteS_L2_run FUEL (k_, 0, a) (L.markByteS_k2 κ)).trans (optC_congr (fun qy_1 => ?_))
    kernel_rfl
  rw [hu]
  exact (L.markByteS_tree_nat (fun o => optC o (fun (r : Int × (List Int)) => κ (.int .i64 r.1) [.row (.ints .u8 r.2)]) none) a k_ (fun d => some d) none).symm
noncomputable def L.markByteS_s : D.Spec where
  keep := false
  pure := false
  add := false
  ds := [.pointer 0, .invalid]
  sp := fun args h κ => match args, h with
    | [.own 0, .int .i64 k_], [.row (.ints .u8 a)] => optC (L.markByteS_t a k_) (fun (r : Int × (List Int)) => κ (.int .i64 r.1) [.row (.ints .u8 r.2)]) none
    | _, _ => none
theorem L.markByteS_ok : SpecOk Try.prog 32 L.markByteS_s := by
  refine SpecOk.of TDok mixed (T := L.markByteS_T) ?_ (ann := L.markByteS_ann) Try.func32 rfl (by decide +kernel) ?_ ?_ ?_ ?_
  · intro p hp; cases hp
  · intro args h κ r hh
    simp only [L.markByteS_s] at hh
    split at hh
    · exact (L.markByteS_den _ _ κ).trans hh
    · cases hh
  · intro args h κ r hh
    simp only [L.markByteS_s] at hh ⊢
    split at hh
    · exact optC_law2 (F := fun (r : Int × (List Int)) κ => κ (.int .i64 r.1) [.row (.ints .u8 r.2)]) (fun b κ r hb => ⟨_, _, hb, fun _ => rfl⟩) hh
    · cases hh
  · intro hh; cases hh
  · intro hh; cases hh

-- loop.example/guardsonnets/laws.markPost
noncomputable def L.markPost_T : List (Nat × D.Spec) := [(25, L.markIntS_s), (32, L.markByteS_s)]
def L.markPost_ann : Nat → List Nat × List Nat
  | _ => ([], [])
noncomputable def L.markPost_F (args : List V) (h : List E) (κ : V → List E → R) : R := funC TD (tableK L.markPost_T) L.markPost_ann (drawOk TD (tableP L.markPost_T)) FUEL Try.f26 args h κ
noncomputable def L.markPost_tree {α : Type} (a0 : List Int) (a1 : Int) (a2 : List Int) (k_ : Int) (leaf0_ : Int × (List Int) × (List Int) → α) (fail_ : α) : α :=
  (optC (L.markIntS_t a0 k_) (fun c_1 => (optC (L.markByteS_t a2 c_1.fst) (fun c_2 => (leaf0_ (c_2.fst, c_1.snd, c_2.snd))) fail_)) fail_)
theorem L.markPost_tree_nat {α γ : Type} (g : α → γ) (a0 : List Int) (a1 : Int) (a2 : List Int) (k_ : Int) (leaf0_ : Int × (List Int) × (List Int) → α) (fail_ : α) : g (L.markPost_tree a0 a1 a2 k_ leaf0_ fail_) = L.markPost_tree a0 a1 a2 k_ (fun d => g (leaf0_ d)) (g fail_) := by
  unfold L.markPost_tree; simp only [apply_cnd g, apply_optC g, apply_sumC g]
noncomputable def L.markPost_t (a0 : List Int) (a1 : Int) (a2 : List Int) (k_ : Int) : Option (Int × (List Int) × (List Int)) := L.markPost_tree a0 a1 a2 k_ (fun d => some d) none
theorem L.markPost_den (a0 : List Int) (a1 : Int) (a2 : List Int) (k_ : Int) (κ : V → List E → R) : L.markPost_F [.agg [.own 0, .int .i64 a1, .own 1], .int .i64 k_] [.row (.ints .i64 a0), .row (.ints .u8 a2)] κ = optC (L.markPost_t a0 a1 a2 k_) (fun (r : Int × (List Int) × (List Int)) => κ (.int .i64 r.1) [.row (.ints .i64 r.2.1), .row (.ints .u8 r.2.2)]) none := by
  have hu : L.markPost_F [.agg [.own 0, .int .i64 a1, .own 1], .int .i64 k_] [.row (.ints .i64 a0), .row (.ints .u8 a2)] κ = L.markPost_tree a0 a1 a2 k_ (fun d => κ (.int .i64 d.1) [.row (.ints .i64 d.2.1), .row (.ints .u8 d.2.2)]) none := by
    kernel_rfl
  rw [hu]
  exact (L.markPost_tree_nat (fun o => optC o (fun (r : Int × (List Int) × (List Int)) => κ (.int .i64 r.1) [.row (.ints .i64 r.2.1), .row (.ints .u8 r.2.2)]) none) a0 a1 a2 k_ (fun d => some d) none).symm
noncomputable def L.markPost_s : D.Spec where
  keep := false
  pure := false
  add := false
  ds := [.func #[1, 0, 2] #[] true, .invalid]
  sp := fun args h κ => match args, h with
    | [.agg [.own 0, .int .i64 a1, .own 1], .int .i64 k_], [.row (.ints .i64 a0), .row (.ints .u8 a2)] => optC (L.markPost_t a0 a1 a2 k_) (fun (r : Int × (List Int) × (List Int)) => κ (.int .i64 r.1) [.row (.ints .i64 r.2.1), .row (.ints .u8 r.2.2)]) none
    | _, _ => none
theorem L.markPost_ok : SpecOk Try.prog 26 L.markPost_s := by
  refine SpecOk.of TDok mixed (T := L.markPost_T) ?_ (ann := L.markPost_ann) Try.func26 rfl (by decide +kernel) ?_ ?_ ?_ ?_
  · intro p hp
    simp only [L.markPost_T, List.mem_cons, List.not_mem_nil, or_false] at hp
    rcases hp with rfl | rfl
    · exact L.markIntS_ok
    · exact L.markByteS_ok
  · intro args h κ r hh
    simp only [L.markPost_s] at hh
    split at hh
    · exact (L.markPost_den _ _ _ _ κ).trans hh
    · cases hh
  · intro args h κ r hh
    simp only [L.markPost_s] at hh ⊢
    split at hh
    · exact optC_law2 (F := fun (r : Int × (List Int) × (List Int)) κ => κ (.int .i64 r.1) [.row (.ints .i64 r.2.1), .row (.ints .u8 r.2.2)]) (fun b κ r hb => ⟨_, _, hb, fun _ => rfl⟩) hh
    · cases hh
  · intro hh; cases hh
  · intro hh; cases hh

-- loop.example/guardsonnets/laws.heldIntS
noncomputable def L.heldIntS_T : List (Nat × D.Spec) := []
def L.heldIntS_ann : Nat → List Nat × List Nat
  | 2 => ([0, 1, 5], [1, 4])
  | _ => ([], [])
noncomputable def L.heldIntS_F (args : List V) (h : List E) (κ : V → List E → R) : R := funC TD (tableK L.heldIntS_T) L.heldIntS_ann (drawOk TD (tableP L.heldIntS_T)) FUEL Try.f58 args h κ
noncomputable def L.heldIntS_L2 (n : Nat) (σ : St) (k : X → St → R) : R := iterC 0 (fun σ k => denC TD (tableK L.heldIntS_T) L.heldIntS_ann (drawOk TD (tableP L.heldIntS_T)) 0 FUEL ((findLoop 2 (Try.f58.body.getD .skip)).getD .skip) σ k) [0, 1, 5] [1, 4] n σ k
noncomputable def L.heldIntS_k2 (κ : V → List E → R) : X → St → R := (afterC TD (tableK L.heldIntS_T) L.heldIntS_ann (drawOk TD (tableP L.heldIntS_T)) 0 FUEL 2 (Try.f58.body.getD .skip) (finC TD 0 Try.f58 κ)).getD (fun _ _ => none)
noncomputable def L.heldIntS_step2 {α : Type} (x0 : List Int) (x1 : Int) (x5 : Int) (next_ : Int × Int → α) (out0_ : Int × Int → α) (out1_ : Int → α) (fail_ : α) : α :=
  (bif decide (x5 < (↑x0.length : Int)) then (bif decide (0 ≤ x5) && decide (x5 < (↑x0.length : Int)) then (bif !eli x0 x5.toNat == x1 then (out0_ (x1, -1)) else (next_ (IntKind.i64.wrap (x1 + 1), IntKind.i64.wrap (x5 + 1)))) else fail_) else (out1_ x1))
theorem L.heldIntS_step2_nat {α γ : Type} (g : α → γ) (x0 : List Int) (x1 : Int) (x5 : Int) (next_ : Int × Int → α) (out0_ : Int × Int → α) (out1_ : Int → α) (fail_ : α) : g (L.heldIntS_step2 x0 x1 x5 next_ out0_ out1_ fail_) = L.heldIntS_step2 x0 x1 x5 (fun s => g (next_ s)) (fun d => g (out0_ d)) (fun d => g (out1_ d)) (g fail_) := by
  unfold L.heldIntS_step2; simp only [apply_cnd g, apply_optC g, apply_sumC g]
noncomputable def L.heldIntS_run2 (x0 : List Int) : Nat → Int × Int → Option ((Int × Int) ⊕ (Int))
  | 0, _ => none
  | n + 1, s_ => L.heldIntS_step2 x0 s_.1 s_.2 (L.heldIntS_run2 x0 n) (fun d => some ((Sum.inl d))) (fun d => some ((Sum.inr d))) none
theorem L.heldIntS_L2_run (x0 : List Int) (n : Nat) (s_ : Int × Int) (k : X → St → R) : L.heldIntS_L2 n { n := 21, t := [(0, (.ro false (.ints .i64 x0))), (1, (.int .i64 s_.1)), (5, (.int .i64 s_.2))], h := [] } k = optC (L.heldIntS_run2 x0 n s_) (fun (r : (Int × Int) ⊕ (Int)) => (sumC r (fun (r : Int × Int) => k (.ret) { n := 21, t := [(1, (.int .i64 r.1)), (4, (.int .i64 r.2))], h := [] }) (fun (r : Int) => k (.exit 0) { n := 21, t := [(1, (.int .i64 r)), (4, .junk)], h := [] }))) none := by
  induction n generalizing s_ with
  | zero => rfl
  | succ n ih =>
    have hu : L.heldIntS_L2 (n + 1) { n := 21, t := [(0, (.ro false (.ints .i64 x0))), (1, (.int .i64 s_.1)), (5, (.int .i64 s_.2))], h := [] } k = L.heldIntS_step2 x0 s_.1 s_.2 (fun s_ => L.heldIntS_L2 n { n := 21, t := [(0, (.ro false (.ints .i64 x0))), (1, (.int .i64 s_.1)), (5, (.int .i64 s_.2))], h := [] } k) (fun d => k (.ret) { n := 21, t := [(1, (.int .i64 d.1)), (4, (.int .i64 d.2))], h := [] }) (fun d => k (.exit 0) { n := 21, t := [(1, (.int .i64 d)), (4, .junk)], h := [] }) none := by
      kernel_rfl
    have hs : (fun s_ : Int × Int => L.heldIntS_L2 n { n := 21, t := [(0, (.ro false (.ints .i64 x0))), (1, (.int .i64 s_.1)), (5, (.int .i64 s_.2))], h := [] } k) = fun s_ => optC (L.heldIntS_run2 x0 n s_) (fun (r : (Int × Int) ⊕ (Int)) => (sumC r (fun (r : Int × Int) => k (.ret) { n := 21, t := [(1, (.int .i64 r.1)), (4, (.int .i64 r.2))], h := [] }) (fun (r : Int) => k (.exit 0) { n := 21, t := [(1, (.int .i64 r)), (4, .junk)], h := [] }))) none := funext ih
    rw [hu, hs]
    exact (L.heldIntS_step2_nat (fun o => optC o (fun (r : (Int × Int) ⊕ (Int)) => (sumC r (fun (r : Int × Int) => k (.ret) { n := 21, t := [(1, (.int .i64 r.1)), (4, (.int .i64 r.2))], h := [] }) (fun (r : Int) => k (.exit 0) { n := 21, t := [(1, (.int .i64 r)), (4, .junk)], h := [] }))) none) x0 s_.1 s_.2 (L.heldIntS_run2 x0 n) (fun d => some ((Sum.inl d))) (fun d => some ((Sum.inr d))) none).symm
noncomputable def L.heldIntS_tree {α : Type} (a : List Int) (k_ : Int) (leaf0_ : Int → α) (fail_ : α) : α :=
  (optC (L.heldIntS_run2 a FUEL (k_, 0)) (fun qy_1 => (sumC qy_1 (fun (qy_1 : Int × Int) => (leaf0_ qy_1.2)) (fun (qy_1 : Int) => (leaf0_ qy_1)))) fail_)
theorem L.heldIntS_tree_nat {α γ : Type} (g : α → γ) (a : List Int) (k_ : Int) (leaf0_ : Int → α) (fail_ : α) : g (L.heldIntS_tree a k_ leaf0_ fail_) = L.heldIntS_tree a k_ (fun d => g (leaf0_ d)) (g fail_) := by
  unfold L.heldIntS_tree; simp only [apply_cnd g, apply_optC g, apply_sumC g]
noncomputable def L.heldIntS_t (a : List Int) (k_ : Int) : Option (Int) := L.heldIntS_tree a k_ (fun d => some d) none
theorem L.heldIntS_den (a : List Int) (k_ : Int) (κ : V → List E → R) : L.heldIntS_F [.ro false (.ints .i64 a), .int .i64 k_] [] κ = optC (L.heldIntS_t a k_) (fun (r : Int) => κ (.int .i64 r) []) none := by
  have hu : L.heldIntS_F [.ro false (.ints .i64 a), .int .i64 k_] [] κ = L.heldIntS_tree a k_ (fun d => κ (.int .i64 d) []) none := by
    refine Eq.trans (show L.heldIntS_F [.ro false (.ints .i64 a), .int .i64 k_] [] κ = (L.heldIntS_L2 FUEL { n := 21, t := [(0, (.ro false (.ints .i64 a))), (1, (.int .i64 k_)), (5, (.int .i64 0))], h := [] } (L.heldIntS_k2 κ)) by kernel_rfl) ?_
    refine (L.heldIntS_L2_run a FUEL (k_, 0) (L.heldIntS_k2 κ)).trans (optC_congr (fun qy_1 => ?_))
    rcases qy_1 with qy_1 | qy_1
    · kernel_rfl
    · kernel_rfl
  rw [hu]
  exact (L.heldIntS_tree_nat (fun o => optC o (fun (r : Int) => κ (.int .i64 r) []) none) a k_ (fun d => some d) none).symm
noncomputable def L.heldIntS_s : D.Spec where
  keep := false
  pure := true
  add := true
  ds := [.int .i64, .invalid]
  sp := fun args h κ => match args, h with
    | [.ro false (.ints .i64 a), .int .i64 k_], [] => optC (L.heldIntS_t a k_) (fun (r : Int) => κ (.int .i64 r) []) none
    | _, _ => none
theorem L.heldIntS_ok : SpecOk Try.prog 58 L.heldIntS_s := by
  refine SpecOk.of TDok mixed (T := L.heldIntS_T) ?_ (ann := L.heldIntS_ann) Try.func58 rfl (by decide +kernel) ?_ ?_ ?_ ?_
  · intro p hp; cases hp
  · intro args h κ r hh
    simp only [L.heldIntS_s] at hh
    split at hh
    · exact (L.heldIntS_den _ _ κ).trans hh
    · cases hh
  · intro args h κ r hh
    simp only [L.heldIntS_s] at hh ⊢
    split at hh
    · exact optC_law2 (F := fun (r : Int) κ => κ (.int .i64 r) []) (fun b κ r hb => ⟨_, _, hb, fun _ => rfl⟩) hh
    · cases hh
  · intro _ args h κ r hh
    simp only [L.heldIntS_s] at hh
    split at hh
    · exact ⟨rfl, fun _ => rfl⟩
    · cases hh
  · intro _ args h κ r hh
    simp only [L.heldIntS_s] at hh
    split at hh
    · rfl
    · cases hh

-- loop.example/guardsonnets/laws.heldByteS
noncomputable def L.heldByteS_T : List (Nat × D.Spec) := []
def L.heldByteS_ann : Nat → List Nat × List Nat
  | 2 => ([0, 1, 5], [1, 4])
  | _ => ([], [])
noncomputable def L.heldByteS_F (args : List V) (h : List E) (κ : V → List E → R) : R := funC TD (tableK L.heldByteS_T) L.heldByteS_ann (drawOk TD (tableP L.heldByteS_T)) FUEL Try.f59 args h κ
noncomputable def L.heldByteS_L2 (n : Nat) (σ : St) (k : X → St → R) : R := iterC 0 (fun σ k => denC TD (tableK L.heldByteS_T) L.heldByteS_ann (drawOk TD (tableP L.heldByteS_T)) 0 FUEL ((findLoop 2 (Try.f59.body.getD .skip)).getD .skip) σ k) [0, 1, 5] [1, 4] n σ k
noncomputable def L.heldByteS_k2 (κ : V → List E → R) : X → St → R := (afterC TD (tableK L.heldByteS_T) L.heldByteS_ann (drawOk TD (tableP L.heldByteS_T)) 0 FUEL 2 (Try.f59.body.getD .skip) (finC TD 0 Try.f59 κ)).getD (fun _ _ => none)
noncomputable def L.heldByteS_step2 {α : Type} (x0 : List Int) (x1 : Int) (x5 : Int) (next_ : Int × Int → α) (out0_ : Int × Int → α) (out1_ : Int → α) (fail_ : α) : α :=
  (bif decide (x5 < (↑x0.length : Int)) then (bif decide (0 ≤ x5) && decide (x5 < (↑x0.length : Int)) then (bif !eli x0 x5.toNat == IntKind.u8.wrap x1 then (out0_ (x1, -1)) else (next_ (IntKind.i64.wrap (x1 + 1), IntKind.i64.wrap (x5 + 1)))) else fail_) else (out1_ x1))
theorem L.heldByteS_step2_nat {α γ : Type} (g : α → γ) (x0 : List Int) (x1 : Int) (x5 : Int) (next_ : Int × Int → α) (out0_ : Int × Int → α) (out1_ : Int → α) (fail_ : α) : g (L.heldByteS_step2 x0 x1 x5 next_ out0_ out1_ fail_) = L.heldByteS_step2 x0 x1 x5 (fun s => g (next_ s)) (fun d => g (out0_ d)) (fun d => g (out1_ d)) (g fail_) := by
  unfold L.heldByteS_step2; simp only [apply_cnd g, apply_optC g, apply_sumC g]
noncomputable def L.heldByteS_run2 (x0 : List Int) : Nat → Int × Int → Option ((Int × Int) ⊕ (Int))
  | 0, _ => none
  | n + 1, s_ => L.heldByteS_step2 x0 s_.1 s_.2 (L.heldByteS_run2 x0 n) (fun d => some ((Sum.inl d))) (fun d => some ((Sum.inr d))) none
theorem L.heldByteS_L2_run (x0 : List Int) (n : Nat) (s_ : Int × Int) (k : X → St → R) : L.heldByteS_L2 n { n := 22, t := [(0, (.ro false (.ints .u8 x0))), (1, (.int .i64 s_.1)), (5, (.int .i64 s_.2))], h := [] } k = optC (L.heldByteS_run2 x0 n s_) (fun (r : (Int × Int) ⊕ (Int)) => (sumC r (fun (r : Int × Int) => k (.ret) { n := 22, t := [(1, (.int .i64 r.1)), (4, (.int .i64 r.2))], h := [] }) (fun (r : Int) => k (.exit 0) { n := 22, t := [(1, (.int .i64 r)), (4, .junk)], h := [] }))) none := by
  induction n generalizing s_ with
  | zero => rfl
  | succ n ih =>
    have hu : L.heldByteS_L2 (n + 1) { n := 22, t := [(0, (.ro false (.ints .u8 x0))), (1, (.int .i64 s_.1)), (5, (.int .i64 s_.2))], h := [] } k = L.heldByteS_step2 x0 s_.1 s_.2 (fun s_ => L.heldByteS_L2 n { n := 22, t := [(0, (.ro false (.ints .u8 x0))), (1, (.int .i64 s_.1)), (5, (.int .i64 s_.2))], h := [] } k) (fun d => k (.ret) { n := 22, t := [(1, (.int .i64 d.1)), (4, (.int .i64 d.2))], h := [] }) (fun d => k (.exit 0) { n := 22, t := [(1, (.int .i64 d)), (4, .junk)], h := [] }) none := by
      kernel_rfl
    have hs : (fun s_ : Int × Int => L.heldByteS_L2 n { n := 22, t := [(0, (.ro false (.ints .u8 x0))), (1, (.int .i64 s_.1)), (5, (.int .i64 s_.2))], h := [] } k) = fun s_ => optC (L.heldByteS_run2 x0 n s_) (fun (r : (Int × Int) ⊕ (Int)) => (sumC r (fun (r : Int × Int) => k (.ret) { n := 22, t := [(1, (.int .i64 r.1)), (4, (.int .i64 r.2))], h := [] }) (fun (r : Int) => k (.exit 0) { n := 22, t := [(1, (.int .i64 r)), (4, .junk)], h := [] }))) none := funext ih
    rw [hu, hs]
    exact (L.heldByteS_step2_nat (fun o => optC o (fun (r : (Int × Int) ⊕ (Int)) => (sumC r (fun (r : Int × Int) => k (.ret) { n := 22, t := [(1, (.int .i64 r.1)), (4, (.int .i64 r.2))], h := [] }) (fun (r : Int) => k (.exit 0) { n := 22, t := [(1, (.int .i64 r)), (4, .junk)], h := [] }))) none) x0 s_.1 s_.2 (L.heldByteS_run2 x0 n) (fun d => some ((Sum.inl d))) (fun d => some ((Sum.inr d))) none).symm
noncomputable def L.heldByteS_tree {α : Type} (a : List Int) (k_ : Int) (leaf0_ : Int → α) (fail_ : α) : α :=
  (optC (L.heldByteS_run2 a FUEL (k_, 0)) (fun qy_1 => (sumC qy_1 (fun (qy_1 : Int × Int) => (leaf0_ qy_1.2)) (fun (qy_1 : Int) => (leaf0_ qy_1)))) fail_)
theorem L.heldByteS_tree_nat {α γ : Type} (g : α → γ) (a : List Int) (k_ : Int) (leaf0_ : Int → α) (fail_ : α) : g (L.heldByteS_tree a k_ leaf0_ fail_) = L.heldByteS_tree a k_ (fun d => g (leaf0_ d)) (g fail_) := by
  unfold L.heldByteS_tree; simp only [apply_cnd g, apply_optC g, apply_sumC g]
noncomputable def L.heldByteS_t (a : List Int) (k_ : Int) : Option (Int) := L.heldByteS_tree a k_ (fun d => some d) none
theorem L.heldByteS_den (a : List Int) (k_ : Int) (κ : V → List E → R) : L.heldByteS_F [.ro false (.ints .u8 a), .int .i64 k_] [] κ = optC (L.heldByteS_t a k_) (fun (r : Int) => κ (.int .i64 r) []) none := by
  have hu : L.heldByteS_F [.ro false (.ints .u8 a), .int .i64 k_] [] κ = L.heldByteS_tree a k_ (fun d => κ (.int .i64 d) []) none := by
    refine Eq.trans (show L.heldByteS_F [.ro false (.ints .u8 a), .int .i64 k_] [] κ = (L.heldByteS_L2 FUEL { n := 22, t := [(0, (.ro false (.ints .u8 a))), (1, (.int .i64 k_)), (5, (.int .i64 0))], h := [] } (L.heldByteS_k2 κ)) by kernel_rfl) ?_
    refine (L.heldByteS_L2_run a FUEL (k_, 0) (L.heldByteS_k2 κ)).trans (optC_congr (fun qy_1 => ?_))
    rcases qy_1 with qy_1 | qy_1
    · kernel_rfl
    · kernel_rfl
  rw [hu]
  exact (L.heldByteS_tree_nat (fun o => optC o (fun (r : Int) => κ (.int .i64 r) []) none) a k_ (fun d => some d) none).symm
noncomputable def L.heldByteS_s : D.Spec where
  keep := false
  pure := true
  add := true
  ds := [.int .u8, .invalid]
  sp := fun args h κ => match args, h with
    | [.ro false (.ints .u8 a), .int .i64 k_], [] => optC (L.heldByteS_t a k_) (fun (r : Int) => κ (.int .i64 r) []) none
    | _, _ => none
theorem L.heldByteS_ok : SpecOk Try.prog 59 L.heldByteS_s := by
  refine SpecOk.of TDok mixed (T := L.heldByteS_T) ?_ (ann := L.heldByteS_ann) Try.func59 rfl (by decide +kernel) ?_ ?_ ?_ ?_
  · intro p hp; cases hp
  · intro args h κ r hh
    simp only [L.heldByteS_s] at hh
    split at hh
    · exact (L.heldByteS_den _ _ κ).trans hh
    · cases hh
  · intro args h κ r hh
    simp only [L.heldByteS_s] at hh ⊢
    split at hh
    · exact optC_law2 (F := fun (r : Int) κ => κ (.int .i64 r) []) (fun b κ r hb => ⟨_, _, hb, fun _ => rfl⟩) hh
    · cases hh
  · intro _ args h κ r hh
    simp only [L.heldByteS_s] at hh
    split at hh
    · exact ⟨rfl, fun _ => rfl⟩
    · cases hh
  · intro _ args h κ r hh
    simp only [L.heldByteS_s] at hh
    split at hh
    · rfl
    · cases hh

-- loop.example/guardsonnets/laws.heldPost
noncomputable def L.heldPost_T : List (Nat × D.Spec) := [(58, L.heldIntS_s), (59, L.heldByteS_s)]
def L.heldPost_ann : Nat → List Nat × List Nat
  | _ => ([], [])
noncomputable def L.heldPost_F (args : List V) (h : List E) (κ : V → List E → R) : R := funC TD (tableK L.heldPost_T) L.heldPost_ann (drawOk TD (tableP L.heldPost_T)) FUEL Try.f27 args h κ
noncomputable def L.heldPost_tree {α : Type} (a0 : List Int) (a1 : Int) (a2 : List Int) (k_ : Int) (leaf0_ : Int → α) (fail_ : α) : α :=
  (optC (L.heldIntS_t a0 k_) (fun c_1 => (bif decide (c_1 < 0) then (leaf0_ (-1)) else (optC (L.heldByteS_t a2 c_1) (fun c_2 => (bif decide (c_2 < 0) then (leaf0_ (-1)) else (leaf0_ c_2))) fail_))) fail_)
theorem L.heldPost_tree_nat {α γ : Type} (g : α → γ) (a0 : List Int) (a1 : Int) (a2 : List Int) (k_ : Int) (leaf0_ : Int → α) (fail_ : α) : g (L.heldPost_tree a0 a1 a2 k_ leaf0_ fail_) = L.heldPost_tree a0 a1 a2 k_ (fun d => g (leaf0_ d)) (g fail_) := by
  unfold L.heldPost_tree; simp only [apply_cnd g, apply_optC g, apply_sumC g]
noncomputable def L.heldPost_t (a0 : List Int) (a1 : Int) (a2 : List Int) (k_ : Int) : Option (Int) := L.heldPost_tree a0 a1 a2 k_ (fun d => some d) none
theorem L.heldPost_den (a0 : List Int) (a1 : Int) (a2 : List Int) (k_ : Int) (κ : V → List E → R) : L.heldPost_F [.agg [.ro false (.ints .i64 a0), .int .i64 a1, .ro false (.ints .u8 a2)], .int .i64 k_] [] κ = optC (L.heldPost_t a0 a1 a2 k_) (fun (r : Int) => κ (.int .i64 r) []) none := by
  have hu : L.heldPost_F [.agg [.ro false (.ints .i64 a0), .int .i64 a1, .ro false (.ints .u8 a2)], .int .i64 k_] [] κ = L.heldPost_tree a0 a1 a2 k_ (fun d => κ (.int .i64 d) []) none := by
    kernel_rfl
  rw [hu]
  exact (L.heldPost_tree_nat (fun o => optC o (fun (r : Int) => κ (.int .i64 r) []) none) a0 a1 a2 k_ (fun d => some d) none).symm
noncomputable def L.heldPost_s : D.Spec where
  keep := false
  pure := true
  add := true
  ds := [.tuple #[1, 0, 2], .invalid]
  sp := fun args h κ => match args, h with
    | [.agg [.ro false (.ints .i64 a0), .int .i64 a1, .ro false (.ints .u8 a2)], .int .i64 k_], [] => optC (L.heldPost_t a0 a1 a2 k_) (fun (r : Int) => κ (.int .i64 r) []) none
    | _, _ => none
theorem L.heldPost_ok : SpecOk Try.prog 27 L.heldPost_s := by
  refine SpecOk.of TDok mixed (T := L.heldPost_T) ?_ (ann := L.heldPost_ann) Try.func27 rfl (by decide +kernel) ?_ ?_ ?_ ?_
  · intro p hp
    simp only [L.heldPost_T, List.mem_cons, List.not_mem_nil, or_false] at hp
    rcases hp with rfl | rfl
    · exact L.heldIntS_ok
    · exact L.heldByteS_ok
  · intro args h κ r hh
    simp only [L.heldPost_s] at hh
    split at hh
    · exact (L.heldPost_den _ _ _ _ κ).trans hh
    · cases hh
  · intro args h κ r hh
    simp only [L.heldPost_s] at hh ⊢
    split at hh
    · exact optC_law2 (F := fun (r : Int) κ => κ (.int .i64 r) []) (fun b κ r hb => ⟨_, _, hb, fun _ => rfl⟩) hh
    · cases hh
  · intro _ args h κ r hh
    simp only [L.heldPost_s] at hh
    split at hh
    · exact ⟨rfl, fun _ => rfl⟩
    · cases hh
  · intro _ args h κ r hh
    simp only [L.heldPost_s] at hh
    split at hh
    · rfl
    · cases hh


end Go.Proofs.Ytcckjofnglbbeaa
