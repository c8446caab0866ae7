/- Twins of the translated functions, with their proofs. Conditions: none. -/
import Derived.Test.YtmchclkdligifaaBzT1
set_option linter.unusedVariables false
set_option linter.unusedSimpArgs false
namespace Go.Proofs.Ytmchclkdligifaa
open D Go.RowKit
-- loop.example/guardsonnets/impl.securedAt
noncomputable def I.securedAt_T : List (Nat × D.Spec) := [(46, I.moveIn_s), (47, I.moved_s), (54, I.watchIn_s)]
def I.securedAt_ann : Nat → List Nat × List Nat
  | 2 => ([0, 1, 2, 7], [6])
  | _ => ([], [])
noncomputable def I.securedAt_F (args : List V) (h : List E) (κ : V → List E → R) : R := funC TD (tableK I.securedAt_T) I.securedAt_ann (drawOk (tableP I.securedAt_T)) FUEL Try.f80 args h κ
noncomputable def I.securedAt_L2 (n : Nat) (σ : St) (k : X → St → R) : R := iterC 0 (fun σ k => denC TD (tableK I.securedAt_T) I.securedAt_ann (drawOk (tableP I.securedAt_T)) 0 FUEL ((findLoop 2 (Try.f80.body.getD .skip)).getD .skip) σ k) [0, 1, 2, 7] [6] n σ k
noncomputable def I.securedAt_k2 (κ : V → List E → R) : X → St → R := (afterC TD (tableK I.securedAt_T) I.securedAt_ann (drawOk (tableP I.securedAt_T)) 0 FUEL 2 (Try.f80.body.getD .skip) (finC TD 0 Try.f80 κ)).getD (fun _ _ => none)
noncomputable def I.securedAt_step2 {α : Type} (x0 : List Int) (x1 : Int) (x2 : Int) (x7 : Int) (next_ : Int → α) (out0_ : Bool → α) (out1_ : Unit → α) (fail_ : α) : α :=
  (bif decide (x7 < (↑x0.length : Int)) then (optC (I.moveIn_t x0 x1 x7 x2) (fun c_1 => (bif c_1 then (optC (I.moved_t x1 x7 x2) (fun c_2 => (optC (I.watchIn_t x0 c_2) (fun c_3 => (bif c_3 then (out0_ true) else (next_ (IntKind.i64.wrap (x7 + 1))))) fail_)) fail_) else (next_ (IntKind.i64.wrap (x7 + 1))))) fail_) else (out1_ ()))
theorem I.securedAt_step2_nat {α γ : Type} (g : α → γ) (x0 : List Int) (x1 : Int) (x2 : Int) (x7 : Int) (next_ : Int → α) (out0_ : Bool → α) (out1_ : Unit → α) (fail_ : α) : g (I.securedAt_step2 x0 x1 x2 x7 next_ out0_ out1_ fail_) = I.securedAt_step2 x0 x1 x2 x7 (fun s => g (next_ s)) (fun d => g (out0_ d)) (fun d => g (out1_ d)) (g fail_) := by
  unfold I.securedAt_step2; simp only [apply_cnd g, apply_optC g, apply_sumC g]
noncomputable def I.securedAt_run2 (x0 : List Int) (x1 : Int) (x2 : Int) : Nat → Int → Option ((Bool) ⊕ (Unit))
  | 0, _ => none
  | n + 1, s_ => I.securedAt_step2 x0 x1 x2 s_ (I.securedAt_run2 x0 x1 x2 n) (fun d => some ((Sum.inl d))) (fun d => some ((Sum.inr d))) none
theorem I.securedAt_L2_run (x0 : List Int) (x1 : Int) (x2 : Int) (n : Nat) (s_ : Int) (k : X → St → R) : I.securedAt_L2 n { n := 27, t := [(0, (.ro false (.ints .i64 x0))), (1, (.int .i64 x1)), (2, (.int .i64 x2)), (7, (.int .i64 s_))], h := [] } k = optC (I.securedAt_run2 x0 x1 x2 n s_) (fun (r : (Bool) ⊕ (Unit)) => (sumC r (fun (r : Bool) => k (.ret) { n := 27, t := [(6, (.bool r))], h := [] }) (fun (r : Unit) => k (.exit 0) { n := 27, t := [(6, .junk)], h := [] }))) none := by
  induction n generalizing s_ with
  | zero => rfl
  | succ n ih =>
    have hu : I.securedAt_L2 (n + 1) { n := 27, t := [(0, (.ro false (.ints .i64 x0))), (1, (.int .i64 x1)), (2, (.int .i64 x2)), (7, (.int .i64 s_))], h := [] } k = I.securedAt_step2 x0 x1 x2 s_ (fun s_ => I.securedAt_L2 n { n := 27, t := [(0, (.ro false (.ints .i64 x0))), (1, (.int .i64 x1)), (2, (.int .i64 x2)), (7, (.int .i64 s_))], h := [] } k) (fun d => k (.ret) { n := 27, t := [(6, (.bool d))], h := [] }) (fun d => k (.exit 0) { n := 27, t := [(6, .junk)], h := [] }) none := by
      kernel_rfl
    have hs : (fun s_ : Int => I.securedAt_L2 n { n := 27, t := [(0, (.ro false (.ints .i64 x0))), (1, (.int .i64 x1)), (2, (.int .i64 x2)), (7, (.int .i64 s_))], h := [] } k) = fun s_ => optC (I.securedAt_run2 x0 x1 x2 n s_) (fun (r : (Bool) ⊕ (Unit)) => (sumC r (fun (r : Bool) => k (.ret) { n := 27, t := [(6, (.bool r))], h := [] }) (fun (r : Unit) => k (.exit 0) { n := 27, t := [(6, .junk)], h := [] }))) none := funext ih
    rw [hu, hs]
    exact (I.securedAt_step2_nat (fun o => optC o (fun (r : (Bool) ⊕ (Unit)) => (sumC r (fun (r : Bool) => k (.ret) { n := 27, t := [(6, (.bool r))], h := [] }) (fun (r : Unit) => k (.exit 0) { n := 27, t := [(6, .junk)], h := [] }))) none) x0 x1 x2 s_ (I.securedAt_run2 x0 x1 x2 n) (fun d => some ((Sum.inl d))) (fun d => some ((Sum.inr d))) none).symm
noncomputable def I.securedAt_tree {α : Type} (net : List Int) (set_ : Int) (place : Int) (leaf0_ : Bool → α) (fail_ : α) : α :=
  (optC (I.securedAt_run2 net set_ place FUEL 0) (fun qy_4 => (sumC qy_4 (fun (qy_4 : Bool) => (leaf0_ qy_4)) (fun (qy_4 : Unit) => (leaf0_ false)))) fail_)
theorem I.securedAt_tree_nat {α γ : Type} (g : α → γ) (net : List Int) (set_ : Int) (place : Int) (leaf0_ : Bool → α) (fail_ : α) : g (I.securedAt_tree net set_ place leaf0_ fail_) = I.securedAt_tree net set_ place (fun d => g (leaf0_ d)) (g fail_) := by
  unfold I.securedAt_tree; simp only [apply_cnd g, apply_optC g, apply_sumC g]
noncomputable def I.securedAt_t (net : List Int) (set_ : Int) (place : Int) : Option (Bool) := I.securedAt_tree net set_ place (fun d => some d) none
theorem I.securedAt_den (net : List Int) (set_ : Int) (place : Int) (κ : V → List E → R) : I.securedAt_F [.ro false (.ints .i64 net), .int .i64 set_, .int .i64 place] [] κ = optC (I.securedAt_t net set_ place) (fun (r : Bool) => κ (.bool r) []) none := by
  have hu : I.securedAt_F [.ro false (.ints .i64 net), .int .i64 set_, .int .i64 place] [] κ = I.securedAt_tree net set_ place (fun d => κ (.bool d) []) none := by
    refine Eq.trans (show I.securedAt_F [.ro false (.ints .i64 net), .int .i64 set_, .int .i64 place] [] κ = (I.securedAt_L2 FUEL { n := 27, t := [(0, (.ro false (.ints .i64 net))), (1, (.int .i64 set_)), (2, (.int .i64 place)), (7, (.int .i64 0))], h := [] } (I.securedAt_k2 κ)) by kernel_rfl) ?_
    refine (I.securedAt_L2_run net set_ place FUEL 0 (I.securedAt_k2 κ)).trans (optC_congr (fun qy_4 => ?_))
    rcases qy_4 with qy_4 | qy_4
    · kernel_rfl
    · kernel_rfl
  rw [hu]
  exact (I.securedAt_tree_nat (fun o => optC o (fun (r : Bool) => κ (.bool r) []) none) net set_ place (fun d => some d) none).symm
noncomputable def I.securedAt_s : D.Spec where
  keep := false
  pure := true
  ds := [.int .i64, .invalid, .invalid]
  sp := fun args h κ => match args, h with
    | [.ro false (.ints .i64 net), .int .i64 set_, .int .i64 place], [] => optC (I.securedAt_t net set_ place) (fun (r : Bool) => κ (.bool r) []) none
    | _, _ => none
theorem I.securedAt_ok : SpecOk Try.prog 80 I.securedAt_s := by
  refine SpecOk.of TDok mixed (T := I.securedAt_T) ?_ (ann := I.securedAt_ann) Try.func80 rfl (by decide +kernel) ?_ ?_ ?_
  · intro p hp
    simp only [I.securedAt_T, List.mem_cons, List.not_mem_nil, or_false] at hp
    rcases hp with rfl | rfl | rfl
    · exact I.moveIn_ok
    · exact I.moved_ok
    · exact I.watchIn_ok
  · intro args h κ r hh
    simp only [I.securedAt_s] at hh
    split at hh
    · exact (I.securedAt_den _ _ _ κ).trans hh
    · cases hh
  · intro args h κ r hh
    simp only [I.securedAt_s] at hh ⊢
    split at hh
    · exact optC_law2 (F := fun (r : Bool) κ => κ (.bool r) []) (fun b κ r hb => ⟨_, _, hb, fun _ => rfl⟩) hh
    · cases hh
  · intro _ args h κ r hh
    simp only [I.securedAt_s] at hh
    split at hh
    · exact ⟨rfl, fun _ => rfl⟩
    · cases hh

-- loop.example/guardsonnets/impl.secureIn
noncomputable def I.secureIn_T : List (Nat × D.Spec) := [(54, I.watchIn_s), (60, I.hasPlace_s), (80, I.securedAt_s)]
def I.secureIn_ann : Nat → List Nat × List Nat
  | 4 => ([0, 1, 5], [4])
  | _ => ([], [])
noncomputable def I.secureIn_F (args : List V) (h : List E) (κ : V → List E → R) : R := funC TD (tableK I.secureIn_T) I.secureIn_ann (drawOk (tableP I.secureIn_T)) FUEL Try.f51 args h κ
noncomputable def I.secureIn_L4 (n : Nat) (σ : St) (k : X → St → R) : R := iterC 0 (fun σ k => denC TD (tableK I.secureIn_T) I.secureIn_ann (drawOk (tableP I.secureIn_T)) 0 FUEL ((findLoop 4 (Try.f51.body.getD .skip)).getD .skip) σ k) [0, 1, 5] [4] n σ k
noncomputable def I.secureIn_k4 (κ : V → List E → R) : X → St → R := (afterC TD (tableK I.secureIn_T) I.secureIn_ann (drawOk (tableP I.secureIn_T)) 0 FUEL 4 (Try.f51.body.getD .skip) (finC TD 0 Try.f51 κ)).getD (fun _ _ => none)
noncomputable def I.secureIn_step4 {α : Type} (x0 : List Int) (x1 : Int) (x5 : Int) (next_ : Int → α) (out0_ : Bool → α) (out1_ : Unit → α) (fail_ : α) : α :=
  (bif decide (x5 < (↑x0.length : Int)) then (optC (I.hasPlace_t x1 x5) (fun c_2 => (bif !c_2 then (optC (I.securedAt_t x0 x1 x5) (fun c_3 => (bif !c_3 then (out0_ false) else (next_ (IntKind.i64.wrap (x5 + 1))))) fail_) else (next_ (IntKind.i64.wrap (x5 + 1))))) fail_) else (out1_ ()))
theorem I.secureIn_step4_nat {α γ : Type} (g : α → γ) (x0 : List Int) (x1 : Int) (x5 : Int) (next_ : Int → α) (out0_ : Bool → α) (out1_ : Unit → α) (fail_ : α) : g (I.secureIn_step4 x0 x1 x5 next_ out0_ out1_ fail_) = I.secureIn_step4 x0 x1 x5 (fun s => g (next_ s)) (fun d => g (out0_ d)) (fun d => g (out1_ d)) (g fail_) := by
  unfold I.secureIn_step4; simp only [apply_cnd g, apply_optC g, apply_sumC g]
noncomputable def I.secureIn_run4 (x0 : List Int) (x1 : Int) : Nat → Int → Option ((Bool) ⊕ (Unit))
  | 0, _ => none
  | n + 1, s_ => I.secureIn_step4 x0 x1 s_ (I.secureIn_run4 x0 x1 n) (fun d => some ((Sum.inl d))) (fun d => some ((Sum.inr d))) none
theorem I.secureIn_L4_run (x0 : List Int) (x1 : Int) (n : Nat) (s_ : Int) (k : X → St → R) : I.secureIn_L4 n { n := 27, t := [(0, (.ro false (.ints .i64 x0))), (1, (.int .i64 x1)), (5, (.int .i64 s_))], h := [] } k = optC (I.secureIn_run4 x0 x1 n s_) (fun (r : (Bool) ⊕ (Unit)) => (sumC r (fun (r : Bool) => k (.ret) { n := 27, t := [(4, (.bool r))], h := [] }) (fun (r : Unit) => k (.exit 0) { n := 27, t := [(4, .junk)], h := [] }))) none := by
  induction n generalizing s_ with
  | zero => rfl
  | succ n ih =>
    have hu : I.secureIn_L4 (n + 1) { n := 27, t := [(0, (.ro false (.ints .i64 x0))), (1, (.int .i64 x1)), (5, (.int .i64 s_))], h := [] } k = I.secureIn_step4 x0 x1 s_ (fun s_ => I.secureIn_L4 n { n := 27, t := [(0, (.ro false (.ints .i64 x0))), (1, (.int .i64 x1)), (5, (.int .i64 s_))], h := [] } k) (fun d => k (.ret) { n := 27, t := [(4, (.bool d))], h := [] }) (fun d => k (.exit 0) { n := 27, t := [(4, .junk)], h := [] }) none := by
      kernel_rfl
    have hs : (fun s_ : Int => I.secureIn_L4 n { n := 27, t := [(0, (.ro false (.ints .i64 x0))), (1, (.int .i64 x1)), (5, (.int .i64 s_))], h := [] } k) = fun s_ => optC (I.secureIn_run4 x0 x1 n s_) (fun (r : (Bool) ⊕ (Unit)) => (sumC r (fun (r : Bool) => k (.ret) { n := 27, t := [(4, (.bool r))], h := [] }) (fun (r : Unit) => k (.exit 0) { n := 27, t := [(4, .junk)], h := [] }))) none := funext ih
    rw [hu, hs]
    exact (I.secureIn_step4_nat (fun o => optC o (fun (r : (Bool) ⊕ (Unit)) => (sumC r (fun (r : Bool) => k (.ret) { n := 27, t := [(4, (.bool r))], h := [] }) (fun (r : Unit) => k (.exit 0) { n := 27, t := [(4, .junk)], h := [] }))) none) x0 x1 s_ (I.secureIn_run4 x0 x1 n) (fun d => some ((Sum.inl d))) (fun d => some ((Sum.inr d))) none).symm
noncomputable def I.secureIn_tree {α : Type} (net : List Int) (set_ : Int) (leaf0_ : Bool → α) (fail_ : α) : α :=
  (optC (I.watchIn_t net set_) (fun c_1 => (bif !c_1 then (leaf0_ false) else (optC (I.secureIn_run4 net set_ FUEL 0) (fun qy_4 => (sumC qy_4 (fun (qy_4 : Bool) => (leaf0_ qy_4)) (fun (qy_4 : Unit) => (leaf0_ true)))) fail_))) fail_)
theorem I.secureIn_tree_nat {α γ : Type} (g : α → γ) (net : List Int) (set_ : Int) (leaf0_ : Bool → α) (fail_ : α) : g (I.secureIn_tree net set_ leaf0_ fail_) = I.secureIn_tree net set_ (fun d => g (leaf0_ d)) (g fail_) := by
  unfold I.secureIn_tree; simp only [apply_cnd g, apply_optC g, apply_sumC g]
noncomputable def I.secureIn_t (net : List Int) (set_ : Int) : Option (Bool) := I.secureIn_tree net set_ (fun d => some d) none
theorem I.secureIn_den (net : List Int) (set_ : Int) (κ : V → List E → R) : I.secureIn_F [.ro false (.ints .i64 net), .int .i64 set_] [] κ = optC (I.secureIn_t net set_) (fun (r : Bool) => κ (.bool r) []) none := by
  have hu : I.secureIn_F [.ro false (.ints .i64 net), .int .i64 set_] [] κ = I.secureIn_tree net set_ (fun d => κ (.bool d) []) none := by
    refine Eq.trans (show I.secureIn_F [.ro false (.ints .i64 net), .int .i64 set_] [] κ = (optC (I.watchIn_t net set_) (fun c_1 => (bif !c_1 then (κ (.bool false) []) else (I.secureIn_L4 FUEL { n := 27, t := [(0, (.ro false (.ints .i64 net))), (1, (.int .i64 set_)), (5, (.int .i64 0))], h := [] } (I.secureIn_k4 κ)))) none) by kernel_rfl) ?_
    refine optC_congr (fun c_1 => ?_)
    refine cnd_congr ?_ ?_
    · kernel_rfl
    · refine (I.secureIn_L4_run net set_ FUEL 0 (I.secureIn_k4 κ)).trans (optC_congr (fun qy_4 => ?_))
      rcases qy_4 with qy_4 | qy_4
      · kernel_rfl
      · kernel_rfl
  rw [hu]
  exact (I.secureIn_tree_nat (fun o => optC o (fun (r : Bool) => κ (.bool r) []) none) net set_ (fun d => some d) none).symm
noncomputable def I.secureIn_s : D.Spec where
  keep := false
  pure := true
  ds := [.int .i64, .invalid]
  sp := fun args h κ => match args, h with
    | [.ro false (.ints .i64 net), .int .i64 set_], [] => optC (I.secureIn_t net set_) (fun (r : Bool) => κ (.bool r) []) none
    | _, _ => none
theorem I.secureIn_ok : SpecOk Try.prog 51 I.secureIn_s := by
  refine SpecOk.of TDok mixed (T := I.secureIn_T) ?_ (ann := I.secureIn_ann) Try.func51 rfl (by decide +kernel) ?_ ?_ ?_
  · intro p hp
    simp only [I.secureIn_T, List.mem_cons, List.not_mem_nil, or_false] at hp
    rcases hp with rfl | rfl | rfl
    · exact I.watchIn_ok
    · exact I.hasPlace_ok
    · exact I.securedAt_ok
  · intro args h κ r hh
    simp only [I.secureIn_s] at hh
    split at hh
    · exact (I.secureIn_den _ _ κ).trans hh
    · cases hh
  · intro args h κ r hh
    simp only [I.secureIn_s] at hh ⊢
    split at hh
    · exact optC_law2 (F := fun (r : Bool) κ => κ (.bool r) []) (fun b κ r hb => ⟨_, _, hb, fun _ => rfl⟩) hh
    · cases hh
  · intro _ args h κ r hh
    simp only [I.secureIn_s] at hh
    split at hh
    · exact ⟨rfl, fun _ => rfl⟩
    · cases hh

-- loop.example/guardsonnets/impl.SecureOk
noncomputable def I.SecureOk_T : List (Nat × D.Spec) := [(27, I.NetOk_s), (44, I.setIn_s), (51, I.secureIn_s)]
def I.SecureOk_ann : Nat → List Nat × List Nat
  | _ => ([], [])
noncomputable def I.SecureOk_F (args : List V) (h : List E) (κ : V → List E → R) : R := funC TD (tableK I.SecureOk_T) I.SecureOk_ann (drawOk (tableP I.SecureOk_T)) FUEL Try.f21 args h κ
noncomputable def I.SecureOk_tree {α : Type} (net : List Int) (set_ : Int) (leaf0_ : Bool → α) (fail_ : α) : α :=
  (optC (I.NetOk_t net) (fun c_1 => (bif c_1 then (optC (I.setIn_t net set_) (fun c_2 => (bif c_2 then (optC (I.secureIn_t net set_) (fun c_3 => (leaf0_ c_3)) fail_) else (leaf0_ false))) fail_) else (leaf0_ false))) fail_)
theorem I.SecureOk_tree_nat {α γ : Type} (g : α → γ) (net : List Int) (set_ : Int) (leaf0_ : Bool → α) (fail_ : α) : g (I.SecureOk_tree net set_ leaf0_ fail_) = I.SecureOk_tree net set_ (fun d => g (leaf0_ d)) (g fail_) := by
  unfold I.SecureOk_tree; simp only [apply_cnd g, apply_optC g, apply_sumC g]
noncomputable def I.SecureOk_t (net : List Int) (set_ : Int) : Option (Bool) := I.SecureOk_tree net set_ (fun d => some d) none
theorem I.SecureOk_den (net : List Int) (set_ : Int) (κ : V → List E → R) : I.SecureOk_F [.ro false (.ints .i64 net), .int .i64 set_] [] κ = optC (I.SecureOk_t net set_) (fun (r : Bool) => κ (.bool r) []) none := by
  have hu : I.SecureOk_F [.ro false (.ints .i64 net), .int .i64 set_] [] κ = I.SecureOk_tree net set_ (fun d => κ (.bool d) []) none := by
    kernel_rfl
  rw [hu]
  exact (I.SecureOk_tree_nat (fun o => optC o (fun (r : Bool) => κ (.bool r) []) none) net set_ (fun d => some d) none).symm
noncomputable def I.SecureOk_s : D.Spec where
  keep := false
  pure := true
  ds := [.int .i64, .invalid]
  sp := fun args h κ => match args, h with
    | [.ro false (.ints .i64 net), .int .i64 set_], [] => optC (I.SecureOk_t net set_) (fun (r : Bool) => κ (.bool r) []) none
    | _, _ => none
theorem I.SecureOk_ok : SpecOk Try.prog 21 I.SecureOk_s := by
  refine SpecOk.of TDok mixed (T := I.SecureOk_T) ?_ (ann := I.SecureOk_ann) Try.func21 rfl (by decide +kernel) ?_ ?_ ?_
  · intro p hp
    simp only [I.SecureOk_T, List.mem_cons, List.not_mem_nil, or_false] at hp
    rcases hp with rfl | rfl | rfl
    · exact I.NetOk_ok
    · exact I.setIn_ok
    · exact I.secureIn_ok
  · intro args h κ r hh
    simp only [I.SecureOk_s] at hh
    split at hh
    · exact (I.SecureOk_den _ _ κ).trans hh
    · cases hh
  · intro args h κ r hh
    simp only [I.SecureOk_s] at hh ⊢
    split at hh
    · exact optC_law2 (F := fun (r : Bool) κ => κ (.bool r) []) (fun b κ r hb => ⟨_, _, hb, fun _ => rfl⟩) hh
    · cases hh
  · intro _ args h κ r hh
    simp only [I.SecureOk_s] at hh
    split at hh
    · exact ⟨rfl, fun _ => rfl⟩
    · cases hh

-- loop.example/guardsonnets/spec.l8Can
noncomputable def S.l8Can_T : List (Nat × D.Spec) := [(50, S.l8Moved_s), (52, S.l2Watch_s)]
def S.l8Can_ann : Nat → List Nat × List Nat
  | 2 => ([0, 1, 2, 7], [6])
  | _ => ([], [])
noncomputable def S.l8Can_F (args : List V) (h : List E) (κ : V → List E → R) : R := funC TD (tableK S.l8Can_T) S.l8Can_ann (drawOk (tableP S.l8Can_T)) FUEL Try.f53 args h κ
noncomputable def S.l8Can_L2 (n : Nat) (σ : St) (k : X → St → R) : R := iterC 0 (fun σ k => denC TD (tableK S.l8Can_T) S.l8Can_ann (drawOk (tableP S.l8Can_T)) 0 FUEL ((findLoop 2 (Try.f53.body.getD .skip)).getD .skip) σ k) [0, 1, 2, 7] [6] n σ k
noncomputable def S.l8Can_k2 (κ : V → List E → R) : X → St → R := (afterC TD (tableK S.l8Can_T) S.l8Can_ann (drawOk (tableP S.l8Can_T)) 0 FUEL 2 (Try.f53.body.getD .skip) (finC TD 0 Try.f53 κ)).getD (fun _ _ => none)
noncomputable def S.l8Can_step2 {α : Type} (x0 : List Int) (x1 : Int) (x2 : Int) (x7 : Int) (next_ : Int → α) (out0_ : Bool → α) (out1_ : Unit → α) (fail_ : α) : α :=
  (bif decide (x7 < (↑x0.length : Int)) then (bif decide (x7 < 0) then fail_ else (bif (x1.fdiv (2 ^ min x7.toNat IntKind.i64.bits)).tmod 2 == 1 then (bif decide (0 ≤ x2) && decide (x2 < (↑x0.length : Int)) then (bif decide (x7 < 0) then fail_ else (bif ((eli x0 x2.toNat).fdiv (2 ^ min x7.toNat IntKind.i64.bits)).tmod 2 == 1 then (optC (S.l8Moved_t x1 x7 x2) (fun c_1 => (optC (S.l2Watch_t x0 c_1) (fun c_2 => (bif c_2 then (out0_ true) else (next_ (IntKind.i64.wrap (x7 + 1))))) fail_)) fail_) else (next_ (IntKind.i64.wrap (x7 + 1))))) else fail_) else (next_ (IntKind.i64.wrap (x7 + 1))))) else (out1_ ()))
theorem S.l8Can_step2_nat {α γ : Type} (g : α → γ) (x0 : List Int) (x1 : Int) (x2 : Int) (x7 : Int) (next_ : Int → α) (out0_ : Bool → α) (out1_ : Unit → α) (fail_ : α) : g (S.l8Can_step2 x0 x1 x2 x7 next_ out0_ out1_ fail_) = S.l8Can_step2 x0 x1 x2 x7 (fun s => g (next_ s)) (fun d => g (out0_ d)) (fun d => g (out1_ d)) (g fail_) := by
  unfold S.l8Can_step2; simp only [apply_cnd g, apply_optC g, apply_sumC g]
noncomputable def S.l8Can_run2 (x0 : List Int) (x1 : Int) (x2 : Int) : Nat → Int → Option ((Bool) ⊕ (Unit))
  | 0, _ => none
  | n + 1, s_ => S.l8Can_step2 x0 x1 x2 s_ (S.l8Can_run2 x0 x1 x2 n) (fun d => some ((Sum.inl d))) (fun d => some ((Sum.inr d))) none
theorem S.l8Can_L2_run (x0 : List Int) (x1 : Int) (x2 : Int) (n : Nat) (s_ : Int) (k : X → St → R) : S.l8Can_L2 n { n := 37, t := [(0, (.ro false (.ints .i64 x0))), (1, (.int .i64 x1)), (2, (.int .i64 x2)), (7, (.int .i64 s_))], h := [] } k = optC (S.l8Can_run2 x0 x1 x2 n s_) (fun (r : (Bool) ⊕ (Unit)) => (sumC r (fun (r : Bool) => k (.ret) { n := 37, t := [(6, (.bool r))], h := [] }) (fun (r : Unit) => k (.exit 0) { n := 37, t := [(6, .junk)], h := [] }))) none := by
  induction n generalizing s_ with
  | zero => rfl
  | succ n ih =>
    have hu : S.l8Can_L2 (n + 1) { n := 37, t := [(0, (.ro false (.ints .i64 x0))), (1, (.int .i64 x1)), (2, (.int .i64 x2)), (7, (.int .i64 s_))], h := [] } k = S.l8Can_step2 x0 x1 x2 s_ (fun s_ => S.l8Can_L2 n { n := 37, t := [(0, (.ro false (.ints .i64 x0))), (1, (.int .i64 x1)), (2, (.int .i64 x2)), (7, (.int .i64 s_))], h := [] } k) (fun d => k (.ret) { n := 37, t := [(6, (.bool d))], h := [] }) (fun d => k (.exit 0) { n := 37, t := [(6, .junk)], h := [] }) none := by
      kernel_rfl
    have hs : (fun s_ : Int => S.l8Can_L2 n { n := 37, t := [(0, (.ro false (.ints .i64 x0))), (1, (.int .i64 x1)), (2, (.int .i64 x2)), (7, (.int .i64 s_))], h := [] } k) = fun s_ => optC (S.l8Can_run2 x0 x1 x2 n s_) (fun (r : (Bool) ⊕ (Unit)) => (sumC r (fun (r : Bool) => k (.ret) { n := 37, t := [(6, (.bool r))], h := [] }) (fun (r : Unit) => k (.exit 0) { n := 37, t := [(6, .junk)], h := [] }))) none := funext ih
    rw [hu, hs]
    exact (S.l8Can_step2_nat (fun o => optC o (fun (r : (Bool) ⊕ (Unit)) => (sumC r (fun (r : Bool) => k (.ret) { n := 37, t := [(6, (.bool r))], h := [] }) (fun (r : Unit) => k (.exit 0) { n := 37, t := [(6, .junk)], h := [] }))) none) x0 x1 x2 s_ (S.l8Can_run2 x0 x1 x2 n) (fun d => some ((Sum.inl d))) (fun d => some ((Sum.inr d))) none).symm
noncomputable def S.l8Can_tree {α : Type} (net : List Int) (set_ : Int) (to_ : Int) (leaf0_ : Bool → α) (fail_ : α) : α :=
  (optC (S.l8Can_run2 net set_ to_ FUEL 0) (fun qy_3 => (sumC qy_3 (fun (qy_3 : Bool) => (leaf0_ qy_3)) (fun (qy_3 : Unit) => (leaf0_ false)))) fail_)
theorem S.l8Can_tree_nat {α γ : Type} (g : α → γ) (net : List Int) (set_ : Int) (to_ : Int) (leaf0_ : Bool → α) (fail_ : α) : g (S.l8Can_tree net set_ to_ leaf0_ fail_) = S.l8Can_tree net set_ to_ (fun d => g (leaf0_ d)) (g fail_) := by
  unfold S.l8Can_tree; simp only [apply_cnd g, apply_optC g, apply_sumC g]
noncomputable def S.l8Can_t (net : List Int) (set_ : Int) (to_ : Int) : Option (Bool) := S.l8Can_tree net set_ to_ (fun d => some d) none
theorem S.l8Can_den (net : List Int) (set_ : Int) (to_ : Int) (κ : V → List E → R) : S.l8Can_F [.ro false (.ints .i64 net), .int .i64 set_, .int .i64 to_] [] κ = optC (S.l8Can_t net set_ to_) (fun (r : Bool) => κ (.bool r) []) none := by
  have hu : S.l8Can_F [.ro false (.ints .i64 net), .int .i64 set_, .int .i64 to_] [] κ = S.l8Can_tree net set_ to_ (fun d => κ (.bool d) []) none := by
    refine Eq.trans (show S.l8Can_F [.ro false (.ints .i64 net), .int .i64 set_, .int .i64 to_] [] κ = (S.l8Can_L2 FUEL { n := 37, t := [(0, (.ro false (.ints .i64 net))), (1, (.int .i64 set_)), (2, (.int .i64 to_)), (7, (.int .i64 0))], h := [] } (S.l8Can_k2 κ)) by kernel_rfl) ?_
    refine (S.l8Can_L2_run net set_ to_ FUEL 0 (S.l8Can_k2 κ)).trans (optC_congr (fun qy_3 => ?_))
    rcases qy_3 with qy_3 | qy_3
    · kernel_rfl
    · kernel_rfl
  rw [hu]
  exact (S.l8Can_tree_nat (fun o => optC o (fun (r : Bool) => κ (.bool r) []) none) net set_ to_ (fun d => some d) none).symm
noncomputable def S.l8Can_s : D.Spec where
  keep := false
  pure := true
  ds := [.int .i64, .invalid, .invalid]
  sp := fun args h κ => match args, h with
    | [.ro false (.ints .i64 net), .int .i64 set_, .int .i64 to_], [] => optC (S.l8Can_t net set_ to_) (fun (r : Bool) => κ (.bool r) []) none
    | _, _ => none
theorem S.l8Can_ok : SpecOk Try.prog 53 S.l8Can_s := by
  refine SpecOk.of TDok mixed (T := S.l8Can_T) ?_ (ann := S.l8Can_ann) Try.func53 rfl (by decide +kernel) ?_ ?_ ?_
  · intro p hp
    simp only [S.l8Can_T, List.mem_cons, List.not_mem_nil, or_false] at hp
    rcases hp with rfl | rfl
    · exact S.l8Moved_ok
    · exact S.l2Watch_ok
  · intro args h κ r hh
    simp only [S.l8Can_s] at hh
    split at hh
    · exact (S.l8Can_den _ _ _ κ).trans hh
    · cases hh
  · intro args h κ r hh
    simp only [S.l8Can_s] at hh ⊢
    split at hh
    · exact optC_law2 (F := fun (r : Bool) κ => κ (.bool r) []) (fun b κ r hb => ⟨_, _, hb, fun _ => rfl⟩) hh
    · cases hh
  · intro _ args h κ r hh
    simp only [S.l8Can_s] at hh
    split at hh
    · exact ⟨rfl, fun _ => rfl⟩
    · cases hh

-- loop.example/guardsonnets/spec.SecureOk
noncomputable def S.SecureOk_T : List (Nat × D.Spec) := [(48, S.l1SetOk_s), (52, S.l2Watch_s), (53, S.l8Can_s)]
def S.SecureOk_ann : Nat → List Nat × List Nat
  | 4 => ([0, 1, 5], [4])
  | _ => ([], [])
noncomputable def S.SecureOk_F (args : List V) (h : List E) (κ : V → List E → R) : R := funC TD (tableK S.SecureOk_T) S.SecureOk_ann (drawOk (tableP S.SecureOk_T)) FUEL Try.f22 args h κ
noncomputable def S.SecureOk_L4 (n : Nat) (σ : St) (k : X → St → R) : R := iterC 0 (fun σ k => denC TD (tableK S.SecureOk_T) S.SecureOk_ann (drawOk (tableP S.SecureOk_T)) 0 FUEL ((findLoop 4 (Try.f22.body.getD .skip)).getD .skip) σ k) [0, 1, 5] [4] n σ k
noncomputable def S.SecureOk_k4 (κ : V → List E → R) : X → St → R := (afterC TD (tableK S.SecureOk_T) S.SecureOk_ann (drawOk (tableP S.SecureOk_T)) 0 FUEL 4 (Try.f22.body.getD .skip) (finC TD 0 Try.f22 κ)).getD (fun _ _ => none)
noncomputable def S.SecureOk_step4 {α : Type} (x0 : List Int) (x1 : Int) (x5 : Int) (next_ : Int → α) (out0_ : Bool → α) (out1_ : Unit → α) (fail_ : α) : α :=
  (bif decide (x5 < (↑x0.length : Int)) then (bif decide (x5 < 0) then fail_ else (bif (x1.fdiv (2 ^ min x5.toNat IntKind.i64.bits)).tmod 2 == 0 then (optC (S.l8Can_t x0 x1 x5) (fun c_3 => (bif !c_3 then (out0_ false) else (next_ (IntKind.i64.wrap (x5 + 1))))) fail_) else (next_ (IntKind.i64.wrap (x5 + 1))))) else (out1_ ()))
theorem S.SecureOk_step4_nat {α γ : Type} (g : α → γ) (x0 : List Int) (x1 : Int) (x5 : Int) (next_ : Int → α) (out0_ : Bool → α) (out1_ : Unit → α) (fail_ : α) : g (S.SecureOk_step4 x0 x1 x5 next_ out0_ out1_ fail_) = S.SecureOk_step4 x0 x1 x5 (fun s => g (next_ s)) (fun d => g (out0_ d)) (fun d => g (out1_ d)) (g fail_) := by
  unfold S.SecureOk_step4; simp only [apply_cnd g, apply_optC g, apply_sumC g]
noncomputable def S.SecureOk_run4 (x0 : List Int) (x1 : Int) : Nat → Int → Option ((Bool) ⊕ (Unit))
  | 0, _ => none
  | n + 1, s_ => S.SecureOk_step4 x0 x1 s_ (S.SecureOk_run4 x0 x1 n) (fun d => some ((Sum.inl d))) (fun d => some ((Sum.inr d))) none
theorem S.SecureOk_L4_run (x0 : List Int) (x1 : Int) (n : Nat) (s_ : Int) (k : X → St → R) : S.SecureOk_L4 n { n := 34, t := [(0, (.ro false (.ints .i64 x0))), (1, (.int .i64 x1)), (5, (.int .i64 s_))], h := [] } k = optC (S.SecureOk_run4 x0 x1 n s_) (fun (r : (Bool) ⊕ (Unit)) => (sumC r (fun (r : Bool) => k (.ret) { n := 34, t := [(4, (.bool r))], h := [] }) (fun (r : Unit) => k (.exit 0) { n := 34, t := [(4, .junk)], h := [] }))) none := by
  induction n generalizing s_ with
  | zero => rfl
  | succ n ih =>
    have hu : S.SecureOk_L4 (n + 1) { n := 34, t := [(0, (.ro false (.ints .i64 x0))), (1, (.int .i64 x1)), (5, (.int .i64 s_))], h := [] } k = S.SecureOk_step4 x0 x1 s_ (fun s_ => S.SecureOk_L4 n { n := 34, t := [(0, (.ro false (.ints .i64 x0))), (1, (.int .i64 x1)), (5, (.int .i64 s_))], h := [] } k) (fun d => k (.ret) { n := 34, t := [(4, (.bool d))], h := [] }) (fun d => k (.exit 0) { n := 34, t := [(4, .junk)], h := [] }) none := by
      kernel_rfl
    have hs : (fun s_ : Int => S.SecureOk_L4 n { n := 34, t := [(0, (.ro false (.ints .i64 x0))), (1, (.int .i64 x1)), (5, (.int .i64 s_))], h := [] } k) = fun s_ => optC (S.SecureOk_run4 x0 x1 n s_) (fun (r : (Bool) ⊕ (Unit)) => (sumC r (fun (r : Bool) => k (.ret) { n := 34, t := [(4, (.bool r))], h := [] }) (fun (r : Unit) => k (.exit 0) { n := 34, t := [(4, .junk)], h := [] }))) none := funext ih
    rw [hu, hs]
    exact (S.SecureOk_step4_nat (fun o => optC o (fun (r : (Bool) ⊕ (Unit)) => (sumC r (fun (r : Bool) => k (.ret) { n := 34, t := [(4, (.bool r))], h := [] }) (fun (r : Unit) => k (.exit 0) { n := 34, t := [(4, .junk)], h := [] }))) none) x0 x1 s_ (S.SecureOk_run4 x0 x1 n) (fun d => some ((Sum.inl d))) (fun d => some ((Sum.inr d))) none).symm
noncomputable def S.SecureOk_tree {α : Type} (net : List Int) (set_ : Int) (leaf0_ : Bool → α) (fail_ : α) : α :=
  (optC (S.l1SetOk_t net set_) (fun c_1 => (bif !c_1 then (leaf0_ false) else (optC (S.l2Watch_t net set_) (fun c_2 => (bif !c_2 then (leaf0_ false) else (optC (S.SecureOk_run4 net set_ FUEL 0) (fun qy_4 => (sumC qy_4 (fun (qy_4 : Bool) => (leaf0_ qy_4)) (fun (qy_4 : Unit) => (leaf0_ true)))) fail_))) fail_))) fail_)
theorem S.SecureOk_tree_nat {α γ : Type} (g : α → γ) (net : List Int) (set_ : Int) (leaf0_ : Bool → α) (fail_ : α) : g (S.SecureOk_tree net set_ leaf0_ fail_) = S.SecureOk_tree net set_ (fun d => g (leaf0_ d)) (g fail_) := by
  unfold S.SecureOk_tree; simp only [apply_cnd g, apply_optC g, apply_sumC g]
noncomputable def S.SecureOk_t (net : List Int) (set_ : Int) : Option (Bool) := S.SecureOk_tree net set_ (fun d => some d) none
theorem S.SecureOk_den (net : List Int) (set_ : Int) (κ : V → List E → R) : S.SecureOk_F [.ro false (.ints .i64 net), .int .i64 set_] [] κ = optC (S.SecureOk_t net set_) (fun (r : Bool) => κ (.bool r) []) none := by
  have hu : S.SecureOk_F [.ro false (.ints .i64 net), .int .i64 set_] [] κ = S.SecureOk_tree net set_ (fun d => κ (.bool d) []) none := by
    refine Eq.trans (show S.SecureOk_F [.ro false (.ints .i64 net), .int .i64 set_] [] κ = (optC (S.l1SetOk_t net set_) (fun c_1 => (bif !c_1 then (κ (.bool false) []) else (optC (S.l2Watch_t net set_) (fun c_2 => (bif !c_2 then (κ (.bool false) []) else (S.SecureOk_L4 FUEL { n := 34, t := [(0, (.ro false (.ints .i64 net))), (1, (.int .i64 set_)), (5, (.int .i64 0))], h := [] } (S.SecureOk_k4 κ)))) none))) none) by kernel_rfl) ?_
    refine optC_congr (fun c_1 => ?_)
    refine cnd_congr ?_ ?_
    · kernel_rfl
    · refine optC_congr (fun c_2 => ?_)
      refine cnd_congr ?_ ?_
      · kernel_rfl
      · refine (S.SecureOk_L4_run net set_ FUEL 0 (S.SecureOk_k4 κ)).trans (optC_congr (fun qy_4 => ?_))
        rcases qy_4 with qy_4 | qy_4
        · kernel_rfl
        · kernel_rfl
  rw [hu]
  exact (S.SecureOk_tree_nat (fun o => optC o (fun (r : Bool) => κ (.bool r) []) none) net set_ (fun d => some d) none).symm
noncomputable def S.SecureOk_s : D.Spec where
  keep := false
  pure := true
  ds := [.int .i64, .invalid]
  sp := fun args h κ => match args, h with
    | [.ro false (.ints .i64 net), .int .i64 set_], [] => optC (S.SecureOk_t net set_) (fun (r : Bool) => κ (.bool r) []) none
    | _, _ => none
theorem S.SecureOk_ok : SpecOk Try.prog 22 S.SecureOk_s := by
  refine SpecOk.of TDok mixed (T := S.SecureOk_T) ?_ (ann := S.SecureOk_ann) Try.func22 rfl (by decide +kernel) ?_ ?_ ?_
  · intro p hp
    simp only [S.SecureOk_T, List.mem_cons, List.not_mem_nil, or_false] at hp
    rcases hp with rfl | rfl | rfl
    · exact S.l1SetOk_ok
    · exact S.l2Watch_ok
    · exact S.l8Can_ok
  · intro args h κ r hh
    simp only [S.SecureOk_s] at hh
    split at hh
    · exact (S.SecureOk_den _ _ κ).trans hh
    · cases hh
  · intro args h κ r hh
    simp only [S.SecureOk_s] at hh ⊢
    split at hh
    · exact optC_law2 (F := fun (r : Bool) κ => κ (.bool r) []) (fun b κ r hb => ⟨_, _, hb, fun _ => rfl⟩) hh
    · cases hh
  · intro _ args h κ r hh
    simp only [S.SecureOk_s] at hh
    split at hh
    · exact ⟨rfl, fun _ => rfl⟩
    · cases hh

-- loop.example/guardsonnets/impl.WatchOk
noncomputable def I.WatchOk_T : List (Nat × D.Spec) := [(27, I.NetOk_s), (44, I.setIn_s), (54, I.watchIn_s)]
def I.WatchOk_ann : Nat → List Nat × List Nat
  | _ => ([], [])
noncomputable def I.WatchOk_F (args : List V) (h : List E) (κ : V → List E → R) : R := funC TD (tableK I.WatchOk_T) I.WatchOk_ann (drawOk (tableP I.WatchOk_T)) FUEL Try.f23 args h κ
noncomputable def I.WatchOk_tree {α : Type} (net : List Int) (set_ : Int) (leaf0_ : Bool → α) (fail_ : α) : α :=
  (optC (I.NetOk_t net) (fun c_1 => (bif c_1 then (optC (I.setIn_t net set_) (fun c_2 => (bif c_2 then (optC (I.watchIn_t net set_) (fun c_3 => (leaf0_ c_3)) fail_) else (leaf0_ false))) fail_) else (leaf0_ false))) fail_)
theorem I.WatchOk_tree_nat {α γ : Type} (g : α → γ) (net : List Int) (set_ : Int) (leaf0_ : Bool → α) (fail_ : α) : g (I.WatchOk_tree net set_ leaf0_ fail_) = I.WatchOk_tree net set_ (fun d => g (leaf0_ d)) (g fail_) := by
  unfold I.WatchOk_tree; simp only [apply_cnd g, apply_optC g, apply_sumC g]
noncomputable def I.WatchOk_t (net : List Int) (set_ : Int) : Option (Bool) := I.WatchOk_tree net set_ (fun d => some d) none
theorem I.WatchOk_den (net : List Int) (set_ : Int) (κ : V → List E → R) : I.WatchOk_F [.ro false (.ints .i64 net), .int .i64 set_] [] κ = optC (I.WatchOk_t net set_) (fun (r : Bool) => κ (.bool r) []) none := by
  have hu : I.WatchOk_F [.ro false (.ints .i64 net), .int .i64 set_] [] κ = I.WatchOk_tree net set_ (fun d => κ (.bool d) []) none := by
    kernel_rfl
  rw [hu]
  exact (I.WatchOk_tree_nat (fun o => optC o (fun (r : Bool) => κ (.bool r) []) none) net set_ (fun d => some d) none).symm
noncomputable def I.WatchOk_s : D.Spec where
  keep := false
  pure := true
  ds := [.int .i64, .invalid]
  sp := fun args h κ => match args, h with
    | [.ro false (.ints .i64 net), .int .i64 set_], [] => optC (I.WatchOk_t net set_) (fun (r : Bool) => κ (.bool r) []) none
    | _, _ => none
theorem I.WatchOk_ok : SpecOk Try.prog 23 I.WatchOk_s := by
  refine SpecOk.of TDok mixed (T := I.WatchOk_T) ?_ (ann := I.WatchOk_ann) Try.func23 rfl (by decide +kernel) ?_ ?_ ?_
  · intro p hp
    simp only [I.WatchOk_T, List.mem_cons, List.not_mem_nil, or_false] at hp
    rcases hp with rfl | rfl | rfl
    · exact I.NetOk_ok
    · exact I.setIn_ok
    · exact I.watchIn_ok
  · intro args h κ r hh
    simp only [I.WatchOk_s] at hh
    split at hh
    · exact (I.WatchOk_den _ _ κ).trans hh
    · cases hh
  · intro args h κ r hh
    simp only [I.WatchOk_s] at hh ⊢
    split at hh
    · exact optC_law2 (F := fun (r : Bool) κ => κ (.bool r) []) (fun b κ r hb => ⟨_, _, hb, fun _ => rfl⟩) hh
    · cases hh
  · intro _ args h κ r hh
    simp only [I.WatchOk_s] at hh
    split at hh
    · exact ⟨rfl, fun _ => rfl⟩
    · cases hh

-- loop.example/guardsonnets/laws.FnSecureOk
noncomputable def L.FnSecureOk_T : List (Nat × D.Spec) := [(20, S.DrawSecureOk_s), (21, I.SecureOk_s), (22, S.SecureOk_s), (16, L.alive_s), (14, I.GuardMoved_s), (23, I.WatchOk_s)]
def L.FnSecureOk_ann : Nat → List Nat × List Nat
  | 16 => ([3, 4, 6, 7, 8], [3, 4, 6, 7])
  | 10 => ([3, 4, 6], [2, 3, 4])
  | _ => ([], [])
noncomputable def L.FnSecureOk_F (args : List V) (h : List E) (κ : V → List E → R) : R := funC TD (tableK L.FnSecureOk_T) L.FnSecureOk_ann (drawOk (tableP L.FnSecureOk_T)) FUEL Try.f5 args h κ
noncomputable def L.FnSecureOk_L16 (n : Nat) (σ : St) (k : X → St → R) : R := iterC 0 (fun σ k => denC TD (tableK L.FnSecureOk_T) L.FnSecureOk_ann (drawOk (tableP L.FnSecureOk_T)) 0 FUEL ((findLoop 16 (Try.f5.body.getD .skip)).getD .skip) σ k) [3, 4, 6, 7, 8] [3, 4, 6, 7] n σ k
noncomputable def L.FnSecureOk_L10 (n : Nat) (σ : St) (k : X → St → R) : R := iterC 0 (fun σ k => denC TD (tableK L.FnSecureOk_T) L.FnSecureOk_ann (drawOk (tableP L.FnSecureOk_T)) 0 FUEL ((findLoop 10 (Try.f5.body.getD .skip)).getD .skip) σ k) [3, 4, 6] [2, 3, 4] n σ k
noncomputable def L.FnSecureOk_k16 (c : (St → R) × (X → St → R)) : X → St → R := (afterC TD (tableK L.FnSecureOk_T) L.FnSecureOk_ann (drawOk (tableP L.FnSecureOk_T)) 0 FUEL 16 ((findLoop 10 (Try.f5.body.getD .skip)).getD .skip) (roundC 0 [3, 4, 6] [2, 3, 4] c.1 c.2)).getD (fun _ _ => none)
noncomputable def L.FnSecureOk_k10 (κ : V → List E → R) : X → St → R := (afterC TD (tableK L.FnSecureOk_T) L.FnSecureOk_ann (drawOk (tableP L.FnSecureOk_T)) 0 FUEL 10 (Try.f5.body.getD .skip) (finC TD 0 Try.f5 κ)).getD (fun _ _ => none)
noncomputable def L.FnSecureOk_step16 {α : Type} (x4 : Int) (x6 : Int) (x7 : Bool) (x8 : Int) (r0 : List Int) (next_ : Bool × Int × (List Int) → α) (out0_ : Bool × (List Int) → α) (fail_ : α) : α :=
  (bif decide (x8 < (↑r0.length : Int)) then (optC (I.GuardMoved_t r0 x4 x8 x6) (fun c_6 => (bif x7 then (next_ (true, IntKind.i64.wrap (x8 + 1), r0)) else (bif decide (c_6 ≥ 0) then (optC (I.WatchOk_t r0 c_6) (fun c_7 => (next_ (c_7, IntKind.i64.wrap (x8 + 1), r0))) fail_) else (next_ (false, IntKind.i64.wrap (x8 + 1), r0))))) fail_) else (out0_ (x7, r0)))
theorem L.FnSecureOk_step16_nat {α γ : Type} (g : α → γ) (x4 : Int) (x6 : Int) (x7 : Bool) (x8 : Int) (r0 : List Int) (next_ : Bool × Int × (List Int) → α) (out0_ : Bool × (List Int) → α) (fail_ : α) : g (L.FnSecureOk_step16 x4 x6 x7 x8 r0 next_ out0_ fail_) = L.FnSecureOk_step16 x4 x6 x7 x8 r0 (fun s => g (next_ s)) (fun d => g (out0_ d)) (g fail_) := by
  unfold L.FnSecureOk_step16; simp only [apply_cnd g, apply_optC g, apply_sumC g]
noncomputable def L.FnSecureOk_run16 (x4 : Int) (x6 : Int) : Nat → Bool × Int × (List Int) → Option (Bool × (List Int))
  | 0, _ => none
  | n + 1, s_ => L.FnSecureOk_step16 x4 x6 s_.1 s_.2.1 s_.2.2 (L.FnSecureOk_run16 x4 x6 n) (fun d => some d) none
theorem L.FnSecureOk_L16_run (x4 : Int) (x6 : Int) (n : Nat) (s_ : Bool × Int × (List Int)) (k : X → St → R) : L.FnSecureOk_L16 n { n := 73, t := [(3, (.own 0)), (4, (.int .i64 x4)), (6, (.int .i64 x6)), (7, (.bool s_.1)), (8, (.int .i64 s_.2.1))], h := [.row (.ints .i64 s_.2.2)] } k = optC (L.FnSecureOk_run16 x4 x6 n s_) (fun (r : Bool × (List Int)) => k (.exit 2) { n := 73, t := [(3, (.own 0)), (4, (.int .i64 x4)), (6, (.int .i64 x6)), (7, (.bool r.1))], h := [.row (.ints .i64 r.2)] }) none := by
  induction n generalizing s_ with
  | zero => rfl
  | succ n ih =>
    have hu : L.FnSecureOk_L16 (n + 1) { n := 73, t := [(3, (.own 0)), (4, (.int .i64 x4)), (6, (.int .i64 x6)), (7, (.bool s_.1)), (8, (.int .i64 s_.2.1))], h := [.row (.ints .i64 s_.2.2)] } k = L.FnSecureOk_step16 x4 x6 s_.1 s_.2.1 s_.2.2 (fun s_ => L.FnSecureOk_L16 n { n := 73, t := [(3, (.own 0)), (4, (.int .i64 x4)), (6, (.int .i64 x6)), (7, (.bool s_.1)), (8, (.int .i64 s_.2.1))], h := [.row (.ints .i64 s_.2.2)] } k) (fun d => k (.exit 2) { n := 73, t := [(3, (.own 0)), (4, (.int .i64 x4)), (6, (.int .i64 x6)), (7, (.bool d.1))], h := [.row (.ints .i64 d.2)] }) none := by
      kernel_rfl
    have hs : (fun s_ : Bool × Int × (List Int) => L.FnSecureOk_L16 n { n := 73, t := [(3, (.own 0)), (4, (.int .i64 x4)), (6, (.int .i64 x6)), (7, (.bool s_.1)), (8, (.int .i64 s_.2.1))], h := [.row (.ints .i64 s_.2.2)] } k) = fun s_ => optC (L.FnSecureOk_run16 x4 x6 n s_) (fun (r : Bool × (List Int)) => k (.exit 2) { n := 73, t := [(3, (.own 0)), (4, (.int .i64 x4)), (6, (.int .i64 x6)), (7, (.bool r.1))], h := [.row (.ints .i64 r.2)] }) none := funext ih
    rw [hu, hs]
    exact (L.FnSecureOk_step16_nat (fun o => optC o (fun (r : Bool × (List Int)) => k (.exit 2) { n := 73, t := [(3, (.own 0)), (4, (.int .i64 x4)), (6, (.int .i64 x6)), (7, (.bool r.1))], h := [.row (.ints .i64 r.2)] }) none) x4 x6 s_.1 s_.2.1 s_.2.2 (L.FnSecureOk_run16 x4 x6 n) (fun d => some d) none).symm
noncomputable def L.FnSecureOk_step10 {α : Type} (x4 : Int) (x6 : Int) (r0 : List Int) (next_ : Int × (List Int) → α) (out0_ : Bool × (List Int) → α) (out1_ : List Int → α) (fail_ : α) : α :=
  (bif decide (x6 < (↑r0.length : Int)) then (bif decide (x6 < 0) then fail_ else (optC (I.SecureOk_t r0 (bits BinOp.or IntKind.i64 x4 (IntKind.i64.wrap (1 * 2 ^ min x6.toNat IntKind.i64.bits)))) (fun c_5 => (bif !c_5 then (out0_ (false, r0)) else (bif decide (x6 < 0) then fail_ else (optC (L.FnSecureOk_run16 x4 x6 FUEL ((x4.fdiv (2 ^ min x6.toNat IntKind.i64.bits)).tmod 2 == 1, 0, r0)) (fun qy_8 => (bif !qy_8.1 then (out0_ (false, qy_8.2)) else (next_ (IntKind.i64.wrap (x6 + 1), qy_8.2)))) fail_)))) fail_)) else (out1_ r0))
theorem L.FnSecureOk_step10_nat {α γ : Type} (g : α → γ) (x4 : Int) (x6 : Int) (r0 : List Int) (next_ : Int × (List Int) → α) (out0_ : Bool × (List Int) → α) (out1_ : List Int → α) (fail_ : α) : g (L.FnSecureOk_step10 x4 x6 r0 next_ out0_ out1_ fail_) = L.FnSecureOk_step10 x4 x6 r0 (fun s => g (next_ s)) (fun d => g (out0_ d)) (fun d => g (out1_ d)) (g fail_) := by
  unfold L.FnSecureOk_step10; simp only [apply_cnd g, apply_optC g, apply_sumC g]
noncomputable def L.FnSecureOk_run10 (x4 : Int) : Nat → Int × (List Int) → Option ((Bool × (List Int)) ⊕ (List Int))
  | 0, _ => none
  | n + 1, s_ => L.FnSecureOk_step10 x4 s_.1 s_.2 (L.FnSecureOk_run10 x4 n) (fun d => some ((Sum.inl d))) (fun d => some ((Sum.inr d))) none
theorem L.FnSecureOk_L10_run (x4 : Int) (n : Nat) (s_ : Int × (List Int)) (k : X → St → R) : L.FnSecureOk_L10 n { n := 73, t := [(3, (.own 0)), (4, (.int .i64 x4)), (6, (.int .i64 s_.1))], h := [.row (.ints .i64 s_.2)] } k = optC (L.FnSecureOk_run10 x4 n s_) (fun (r : (Bool × (List Int)) ⊕ (List Int)) => (sumC r (fun (r : Bool × (List Int)) => k (.ret) { n := 73, t := [(2, (.bool r.1)), (3, (.own 0)), (4, (.int .i64 x4))], h := [.row (.ints .i64 r.2)] }) (fun (r : List Int) => k (.exit 0) { n := 73, t := [(2, .junk), (3, (.own 0)), (4, (.int .i64 x4))], h := [.row (.ints .i64 r)] }))) none := by
  induction n generalizing s_ with
  | zero => rfl
  | succ n ih =>
    have hu : L.FnSecureOk_L10 (n + 1) { n := 73, t := [(3, (.own 0)), (4, (.int .i64 x4)), (6, (.int .i64 s_.1))], h := [.row (.ints .i64 s_.2)] } k = L.FnSecureOk_step10 x4 s_.1 s_.2 (fun s_ => L.FnSecureOk_L10 n { n := 73, t := [(3, (.own 0)), (4, (.int .i64 x4)), (6, (.int .i64 s_.1))], h := [.row (.ints .i64 s_.2)] } k) (fun d => k (.ret) { n := 73, t := [(2, (.bool d.1)), (3, (.own 0)), (4, (.int .i64 x4))], h := [.row (.ints .i64 d.2)] }) (fun d => k (.exit 0) { n := 73, t := [(2, .junk), (3, (.own 0)), (4, (.int .i64 x4))], h := [.row (.ints .i64 d)] }) none := by
      refine Eq.trans (show L.FnSecureOk_L10 (n + 1) { n := 73, t := [(3, (.own 0)), (4, (.int .i64 x4)), (6, (.int .i64 s_.1))], h := [.row (.ints .i64 s_.2)] } k = (bif decide (s_.1 < (↑s_.2.length : Int)) then (bif decide (s_.1 < 0) then none else (optC (I.SecureOk_t s_.2 (bits BinOp.or IntKind.i64 x4 (IntKind.i64.wrap (1 * 2 ^ min s_.1.toNat IntKind.i64.bits)))) (fun c_5 => (bif !c_5 then (k (.ret) { n := 73, t := [(2, (.bool false)), (3, (.own 0)), (4, (.int .i64 x4))], h := [.row (.ints .i64 s_.2)] }) else (bif decide (s_.1 < 0) then none else (L.FnSecureOk_L16 FUEL { n := 73, t := [(3, (.own 0)), (4, (.int .i64 x4)), (6, (.int .i64 s_.1)), (7, (.bool ((x4.fdiv (2 ^ min s_.1.toNat IntKind.i64.bits)).tmod 2 == 1))), (8, (.int .i64 0))], h := [.row (.ints .i64 s_.2)] } (L.FnSecureOk_k16 ((fun σ => L.FnSecureOk_L10 n σ k), k)))))) none)) else (k (.exit 0) { n := 73, t := [(2, .junk), (3, (.own 0)), (4, (.int .i64 x4))], h := [.row (.ints .i64 s_.2)] })) by kernel_rfl) ?_
      refine cnd_congr ?_ ?_
      · refine cnd_congr ?_ ?_
        · kernel_rfl
        · refine optC_congr (fun c_5 => ?_)
          refine cnd_congr ?_ ?_
          · kernel_rfl
          · refine cnd_congr ?_ ?_
            · kernel_rfl
            · refine (L.FnSecureOk_L16_run x4 s_.1 FUEL ((x4.fdiv (2 ^ min s_.1.toNat IntKind.i64.bits)).tmod 2 == 1, 0, s_.2) (L.FnSecureOk_k16 ((fun σ => L.FnSecureOk_L10 n σ k), k))).trans (optC_congr (fun qy_8 => ?_))
              kernel_rfl
      · kernel_rfl
    have hs : (fun s_ : Int × (List Int) => L.FnSecureOk_L10 n { n := 73, t := [(3, (.own 0)), (4, (.int .i64 x4)), (6, (.int .i64 s_.1))], h := [.row (.ints .i64 s_.2)] } k) = fun s_ => optC (L.FnSecureOk_run10 x4 n s_) (fun (r : (Bool × (List Int)) ⊕ (List Int)) => (sumC r (fun (r : Bool × (List Int)) => k (.ret) { n := 73, t := [(2, (.bool r.1)), (3, (.own 0)), (4, (.int .i64 x4))], h := [.row (.ints .i64 r.2)] }) (fun (r : List Int) => k (.exit 0) { n := 73, t := [(2, .junk), (3, (.own 0)), (4, (.int .i64 x4))], h := [.row (.ints .i64 r)] }))) none := funext ih
    rw [hu, hs]
    exact (L.FnSecureOk_step10_nat (fun o => optC o (fun (r : (Bool × (List Int)) ⊕ (List Int)) => (sumC r (fun (r : Bool × (List Int)) => k (.ret) { n := 73, t := [(2, (.bool r.1)), (3, (.own 0)), (4, (.int .i64 x4))], h := [.row (.ints .i64 r.2)] }) (fun (r : List Int) => k (.exit 0) { n := 73, t := [(2, .junk), (3, (.own 0)), (4, (.int .i64 x4))], h := [.row (.ints .i64 r)] }))) none) x4 s_.1 s_.2 (L.FnSecureOk_run10 x4 n) (fun d => some ((Sum.inl d))) (fun d => some ((Sum.inr d))) none).symm
noncomputable def L.FnSecureOk_tree {α : Type} (code : List Int) (leaf0_ : Bool → α) (fail_ : α) : α :=
  (bif decide ((↑code.length : Int) > 1048576) then (leaf0_ true) else (optC (S.DrawSecureOk_t code) (fun c_1 => (optC (I.SecureOk_t c_1.snd c_1.fst) (fun c_2 => (optC (S.SecureOk_t c_1.snd c_1.fst) (fun c_3 => (bif !c_2 == c_3 then (leaf0_ false) else (bif !c_2 then (optC (L.alive_t) (fun c_4 => (leaf0_ c_4)) fail_) else (optC (L.FnSecureOk_run10 c_1.fst FUEL (0, c_1.snd)) (fun qy_9 => (sumC qy_9 (fun (qy_9 : Bool × (List Int)) => (leaf0_ qy_9.1)) (fun (qy_9 : List Int) => (optC (I.WatchOk_t qy_9 c_1.fst) (fun c_10 => (leaf0_ c_10)) fail_)))) fail_)))) fail_)) fail_)) fail_))
theorem L.FnSecureOk_tree_nat {α γ : Type} (g : α → γ) (code : List Int) (leaf0_ : Bool → α) (fail_ : α) : g (L.FnSecureOk_tree code leaf0_ fail_) = L.FnSecureOk_tree code (fun d => g (leaf0_ d)) (g fail_) := by
  unfold L.FnSecureOk_tree; simp only [apply_cnd g, apply_optC g, apply_sumC g]
noncomputable def L.FnSecureOk_t (code : List Int) : Option (Bool) := L.FnSecureOk_tree code (fun d => some d) none
theorem L.FnSecureOk_den (code : List Int) (κ : V → List E → R) : L.FnSecureOk_F [.ro true (.ints .u8 code)] [] κ = optC (L.FnSecureOk_t code) (fun (r : Bool) => κ (.bool r) []) none := by
  have hu : L.FnSecureOk_F [.ro true (.ints .u8 code)] [] κ = L.FnSecureOk_tree code (fun d => κ (.bool d) []) none := by
    refine Eq.trans (show L.FnSecureOk_F [.ro true (.ints .u8 code)] [] κ = (bif decide ((↑code.length : Int) > 1048576) then (κ (.bool true) []) else (optC (S.DrawSecureOk_t code) (fun c_1 => (optC (I.SecureOk_t c_1.snd c_1.fst) (fun c_2 => (optC (S.SecureOk_t c_1.snd c_1.fst) (fun c_3 => (bif !c_2 == c_3 then (κ (.bool false) []) else (bif !c_2 then (optC (L.alive_t) (fun c_4 => (κ (.bool c_4) [])) none) else (L.FnSecureOk_L10 FUEL { n := 73, t := [(3, (.own 0)), (4, (.int .i64 c_1.fst)), (6, (.int .i64 0))], h := [.row (.ints .i64 c_1.snd)] } (L.FnSecureOk_k10 κ))))) none)) none)) none)) by kernel_rfl) ?_
    refine cnd_congr ?_ ?_
    · kernel_rfl
    · refine optC_congr (fun c_1 => ?_)
      refine optC_congr (fun c_2 => ?_)
      refine optC_congr (fun c_3 => ?_)
      refine cnd_congr ?_ ?_
      · kernel_rfl
      · refine cnd_congr ?_ ?_
        · kernel_rfl
        · refine (L.FnSecureOk_L10_run c_1.fst FUEL (0, c_1.snd) (L.FnSecureOk_k10 κ)).trans (optC_congr (fun qy_9 => ?_))
          rcases qy_9 with qy_9 | qy_9
          · kernel_rfl
          · kernel_rfl
  rw [hu]
  exact (L.FnSecureOk_tree_nat (fun o => optC o (fun (r : Bool) => κ (.bool r) []) none) code (fun d => some d) none).symm
noncomputable def L.FnSecureOk_s : D.Spec where
  keep := true
  pure := true
  ds := [.int .u8]
  sp := fun args h κ => match args, h with
    | [.ro true (.ints .u8 code)], [] => optC (L.FnSecureOk_t code) (fun (r : Bool) => κ (.bool r) []) none
    | _, _ => none
theorem L.FnSecureOk_ok : SpecOk Try.prog 5 L.FnSecureOk_s := by
  refine SpecOk.of TDok mixed (T := L.FnSecureOk_T) ?_ (ann := L.FnSecureOk_ann) Try.func5 rfl (by decide +kernel) ?_ ?_ ?_
  · intro p hp
    simp only [L.FnSecureOk_T, List.mem_cons, List.not_mem_nil, or_false] at hp
    rcases hp with rfl | rfl | rfl | rfl | rfl | rfl
    · exact S.DrawSecureOk_ok
    · exact I.SecureOk_ok
    · exact S.SecureOk_ok
    · exact L.alive_ok
    · exact I.GuardMoved_ok
    · exact I.WatchOk_ok
  · intro args h κ r hh
    simp only [L.FnSecureOk_s] at hh
    split at hh
    · exact (L.FnSecureOk_den _ κ).trans hh
    · cases hh
  · intro args h κ r hh
    simp only [L.FnSecureOk_s] at hh ⊢
    split at hh
    · exact optC_law2 (F := fun (r : Bool) κ => κ (.bool r) []) (fun b κ r hb => ⟨_, _, hb, fun _ => rfl⟩) hh
    · cases hh
  · intro _ args h κ r hh
    simp only [L.FnSecureOk_s] at hh
    split at hh
    · exact ⟨rfl, fun _ => rfl⟩
    · cases hh

-- loop.example/guardsonnets/laws.FnExactSecureOk
noncomputable def L.FnExactSecureOk_T : List (Nat × D.Spec) := [(18, L.toIntS_s), (22, S.SecureOk_s), (21, I.SecureOk_s), (19, L.eqIntS_s)]
def L.FnExactSecureOk_ann : Nat → List Nat × List Nat
  | _ => ([], [])
noncomputable def L.FnExactSecureOk_F (args : List V) (h : List E) (κ : V → List E → R) : R := funC TD (tableK L.FnExactSecureOk_T) L.FnExactSecureOk_ann (drawOk (tableP L.FnExactSecureOk_T)) FUEL Try.f6 args h κ
noncomputable def L.FnExactSecureOk_tree {α : Type} (aNet : List Int) (aSet : Int) (leaf0_ : Bool → α) (fail_ : α) : α :=
  (bif decide ((↑aNet.length : Int) > 1048576) then (leaf0_ true) else (optC (L.toIntS_t aNet) (fun c_1 => (optC (S.SecureOk_t c_1 aSet) (fun c_2 => (optC (L.toIntS_t aNet) (fun c_3 => (optC (I.SecureOk_t c_3 aSet) (fun c_4 => (bif !c_4 == c_2 then (leaf0_ false) else (optC (L.toIntS_t aNet) (fun c_5 => (optC (L.eqIntS_t c_3 c_5) (fun c_6 => (bif !c_6 then (leaf0_ false) else (leaf0_ true))) fail_)) fail_))) fail_)) fail_)) fail_)) fail_))
theorem L.FnExactSecureOk_tree_nat {α γ : Type} (g : α → γ) (aNet : List Int) (aSet : Int) (leaf0_ : Bool → α) (fail_ : α) : g (L.FnExactSecureOk_tree aNet aSet leaf0_ fail_) = L.FnExactSecureOk_tree aNet aSet (fun d => g (leaf0_ d)) (g fail_) := by
  unfold L.FnExactSecureOk_tree; simp only [apply_cnd g, apply_optC g, apply_sumC g]
noncomputable def L.FnExactSecureOk_t (aNet : List Int) (aSet : Int) : Option (Bool) := L.FnExactSecureOk_tree aNet aSet (fun d => some d) none
theorem L.FnExactSecureOk_den (aNet : List Int) (aSet : Int) (κ : V → List E → R) : L.FnExactSecureOk_F [.ro true (.ints .i64 aNet), .int .i64 aSet] [] κ = optC (L.FnExactSecureOk_t aNet aSet) (fun (r : Bool) => κ (.bool r) []) none := by
  have hu : L.FnExactSecureOk_F [.ro true (.ints .i64 aNet), .int .i64 aSet] [] κ = L.FnExactSecureOk_tree aNet aSet (fun d => κ (.bool d) []) none := by
    kernel_rfl
  rw [hu]
  exact (L.FnExactSecureOk_tree_nat (fun o => optC o (fun (r : Bool) => κ (.bool r) []) none) aNet aSet (fun d => some d) none).symm
noncomputable def L.FnExactSecureOk_s : D.Spec where
  keep := true
  pure := true
  ds := [.int .i64, .invalid]
  sp := fun args h κ => match args, h with
    | [.ro true (.ints .i64 aNet), .int .i64 aSet], [] => optC (L.FnExactSecureOk_t aNet aSet) (fun (r : Bool) => κ (.bool r) []) none
    | _, _ => none
theorem L.FnExactSecureOk_ok : SpecOk Try.prog 6 L.FnExactSecureOk_s := by
  refine SpecOk.of TDok mixed (T := L.FnExactSecureOk_T) ?_ (ann := L.FnExactSecureOk_ann) Try.func6 rfl (by decide +kernel) ?_ ?_ ?_
  · intro p hp
    simp only [L.FnExactSecureOk_T, List.mem_cons, List.not_mem_nil, or_false] at hp
    rcases hp with rfl | rfl | rfl | rfl
    · exact L.toIntS_ok
    · exact S.SecureOk_ok
    · exact I.SecureOk_ok
    · exact L.eqIntS_ok
  · intro args h κ r hh
    simp only [L.FnExactSecureOk_s] at hh
    split at hh
    · exact (L.FnExactSecureOk_den _ _ κ).trans hh
    · cases hh
  · intro args h κ r hh
    simp only [L.FnExactSecureOk_s] at hh ⊢
    split at hh
    · exact optC_law2 (F := fun (r : Bool) κ => κ (.bool r) []) (fun b κ r hb => ⟨_, _, hb, fun _ => rfl⟩) hh
    · cases hh
  · intro _ args h κ r hh
    simp only [L.FnExactSecureOk_s] at hh
    split at hh
    · exact ⟨rfl, fun _ => rfl⟩
    · cases hh

-- loop.example/guardsonnets/spec.DrawFewestSecure
noncomputable def S.DrawFewestSecure_T : List (Nat × D.Spec) := [(39, S.l20Open_s), (55, S.l20Net_s)]
def S.DrawFewestSecure_ann : Nat → List Nat × List Nat
  | _ => ([], [])
noncomputable def S.DrawFewestSecure_F (args : List V) (h : List E) (κ : V → List E → R) : R := funC TD (tableK S.DrawFewestSecure_T) S.DrawFewestSecure_ann (drawOk (tableP S.DrawFewestSecure_T)) FUEL Try.f24 args h κ
noncomputable def S.DrawFewestSecure_tree {α : Type} (code : List Int) (leaf0_ : List Int → α) (fail_ : α) : α :=
  (optC (S.l20Open_t code) (fun c_1 => (optC (S.l20Net_t c_1.fst c_1.snd 9) (fun c_2 => (leaf0_ c_2.snd.snd)) fail_)) fail_)
theorem S.DrawFewestSecure_tree_nat {α γ : Type} (g : α → γ) (code : List Int) (leaf0_ : List Int → α) (fail_ : α) : g (S.DrawFewestSecure_tree code leaf0_ fail_) = S.DrawFewestSecure_tree code (fun d => g (leaf0_ d)) (g fail_) := by
  unfold S.DrawFewestSecure_tree; simp only [apply_cnd g, apply_optC g, apply_sumC g]
noncomputable def S.DrawFewestSecure_t (code : List Int) : Option (List Int) := S.DrawFewestSecure_tree code (fun d => some d) none
theorem S.DrawFewestSecure_den (code : List Int) (κ : V → List E → R) : S.DrawFewestSecure_F [.ro true (.ints .u8 code)] [] κ = optC (S.DrawFewestSecure_t code) (fun (r : List Int) => κ (.own 0) [.row (.ints .i64 r)]) none := by
  have hu : S.DrawFewestSecure_F [.ro true (.ints .u8 code)] [] κ = S.DrawFewestSecure_tree code (fun d => κ (.own 0) [.row (.ints .i64 d)]) none := by
    kernel_rfl
  rw [hu]
  exact (S.DrawFewestSecure_tree_nat (fun o => optC o (fun (r : List Int) => κ (.own 0) [.row (.ints .i64 r)]) none) code (fun d => some d) none).symm
noncomputable def S.DrawFewestSecure_s : D.Spec where
  keep := true
  pure := false
  ds := [.int .u8]
  sp := fun args h κ => match args, h with
    | [.ro true (.ints .u8 code)], [] => optC (S.DrawFewestSecure_t code) (fun (r : List Int) => κ (.own 0) [.row (.ints .i64 r)]) none
    | _, _ => none
theorem S.DrawFewestSecure_ok : SpecOk Try.prog 24 S.DrawFewestSecure_s := by
  refine SpecOk.of TDok mixed (T := S.DrawFewestSecure_T) ?_ (ann := S.DrawFewestSecure_ann) Try.func24 rfl (by decide +kernel) ?_ ?_ ?_
  · intro p hp
    simp only [S.DrawFewestSecure_T, List.mem_cons, List.not_mem_nil, or_false] at hp
    rcases hp with rfl | rfl
    · exact S.l20Open_ok
    · exact S.l20Net_ok
  · intro args h κ r hh
    simp only [S.DrawFewestSecure_s] at hh
    split at hh
    · exact (S.DrawFewestSecure_den _ κ).trans hh
    · cases hh
  · intro args h κ r hh
    simp only [S.DrawFewestSecure_s] at hh ⊢
    split at hh
    · exact optC_law2 (F := fun (r : List Int) κ => κ (.own 0) [.row (.ints .i64 r)]) (fun b κ r hb => ⟨_, _, hb, fun _ => rfl⟩) hh
    · cases hh
  · intro hh; cases hh

-- loop.example/guardsonnets/impl.sizeOf
noncomputable def I.sizeOf_T : List (Nat × D.Spec) := []
def I.sizeOf_ann : Nat → List Nat × List Nat
  | 3 => ([0, 3, 4], [3])
  | _ => ([], [])
noncomputable def I.sizeOf_F (args : List V) (h : List E) (κ : V → List E → R) : R := funC TD (tableK I.sizeOf_T) I.sizeOf_ann (drawOk (tableP I.sizeOf_T)) FUEL Try.f58 args h κ
noncomputable def I.sizeOf_L3 (n : Nat) (σ : St) (k : X → St → R) : R := iterC 0 (fun σ k => denC TD (tableK I.sizeOf_T) I.sizeOf_ann (drawOk (tableP I.sizeOf_T)) 0 FUEL ((findLoop 3 (Try.f58.body.getD .skip)).getD .skip) σ k) [0, 3, 4] [3] n σ k
noncomputable def I.sizeOf_k3 (κ : V → List E → R) : X → St → R := (afterC TD (tableK I.sizeOf_T) I.sizeOf_ann (drawOk (tableP I.sizeOf_T)) 0 FUEL 3 (Try.f58.body.getD .skip) (finC TD 0 Try.f58 κ)).getD (fun _ _ => none)
noncomputable def I.sizeOf_step3 {α : Type} (x0 : Int) (x3 : Int) (x4 : Int) (next_ : Int × Int → α) (out0_ : Int → α) (fail_ : α) : α :=
  (bif decide (x4 < 6) then (bif decide (x4 < 0) then fail_ else (next_ (IntKind.i64.wrap (x3 + bits BinOp.and IntKind.i64 (x0.fdiv (2 ^ min x4.toNat IntKind.i64.bits)) 1), IntKind.i64.wrap (x4 + 1)))) else (out0_ x3))
theorem I.sizeOf_step3_nat {α γ : Type} (g : α → γ) (x0 : Int) (x3 : Int) (x4 : Int) (next_ : Int × Int → α) (out0_ : Int → α) (fail_ : α) : g (I.sizeOf_step3 x0 x3 x4 next_ out0_ fail_) = I.sizeOf_step3 x0 x3 x4 (fun s => g (next_ s)) (fun d => g (out0_ d)) (g fail_) := by
  unfold I.sizeOf_step3; simp only [apply_cnd g, apply_optC g, apply_sumC g]
noncomputable def I.sizeOf_run3 (x0 : Int) : Nat → Int × Int → Option (Int)
  | 0, _ => none
  | n + 1, s_ => I.sizeOf_step3 x0 s_.1 s_.2 (I.sizeOf_run3 x0 n) (fun d => some d) none
theorem I.sizeOf_L3_run (x0 : Int) (n : Nat) (s_ : Int × Int) (k : X → St → R) : I.sizeOf_L3 n { n := 16, t := [(0, (.int .i64 x0)), (3, (.int .i64 s_.1)), (4, (.int .i64 s_.2))], h := [] } k = optC (I.sizeOf_run3 x0 n s_) (fun (r : Int) => k (.exit 0) { n := 16, t := [(3, (.int .i64 r))], h := [] }) none := by
  induction n generalizing s_ with
  | zero => rfl
  | succ n ih =>
    have hu : I.sizeOf_L3 (n + 1) { n := 16, t := [(0, (.int .i64 x0)), (3, (.int .i64 s_.1)), (4, (.int .i64 s_.2))], h := [] } k = I.sizeOf_step3 x0 s_.1 s_.2 (fun s_ => I.sizeOf_L3 n { n := 16, t := [(0, (.int .i64 x0)), (3, (.int .i64 s_.1)), (4, (.int .i64 s_.2))], h := [] } k) (fun d => k (.exit 0) { n := 16, t := [(3, (.int .i64 d))], h := [] }) none := by
      kernel_rfl
    have hs : (fun s_ : Int × Int => I.sizeOf_L3 n { n := 16, t := [(0, (.int .i64 x0)), (3, (.int .i64 s_.1)), (4, (.int .i64 s_.2))], h := [] } k) = fun s_ => optC (I.sizeOf_run3 x0 n s_) (fun (r : Int) => k (.exit 0) { n := 16, t := [(3, (.int .i64 r))], h := [] }) none := funext ih
    rw [hu, hs]
    exact (I.sizeOf_step3_nat (fun o => optC o (fun (r : Int) => k (.exit 0) { n := 16, t := [(3, (.int .i64 r))], h := [] }) none) x0 s_.1 s_.2 (I.sizeOf_run3 x0 n) (fun d => some d) none).symm
noncomputable def I.sizeOf_tree {α : Type} (set_ : Int) (leaf0_ : Int → α) (fail_ : α) : α :=
  (optC (I.sizeOf_run3 set_ FUEL (0, 0)) (fun qy_1 => (leaf0_ qy_1)) fail_)
theorem I.sizeOf_tree_nat {α γ : Type} (g : α → γ) (set_ : Int) (leaf0_ : Int → α) (fail_ : α) : g (I.sizeOf_tree set_ leaf0_ fail_) = I.sizeOf_tree set_ (fun d => g (leaf0_ d)) (g fail_) := by
  unfold I.sizeOf_tree; simp only [apply_cnd g, apply_optC g, apply_sumC g]
noncomputable def I.sizeOf_t (set_ : Int) : Option (Int) := I.sizeOf_tree set_ (fun d => some d) none
theorem I.sizeOf_den (set_ : Int) (κ : V → List E → R) : I.sizeOf_F [.int .i64 set_] [] κ = optC (I.sizeOf_t set_) (fun (r : Int) => κ (.int .i64 r) []) none := by
  have hu : I.sizeOf_F [.int .i64 set_] [] κ = I.sizeOf_tree set_ (fun d => κ (.int .i64 d) []) none := by
    refine Eq.trans (show I.sizeOf_F [.int .i64 set_] [] κ = (I.sizeOf_L3 FUEL { n := 16, t := [(0, (.int .i64 set_)), (3, (.int .i64 0)), (4, (.int .i64 0))], h := [] } (I.sizeOf_k3 κ)) by kernel_rfl) ?_
    refine (I.sizeOf_L3_run set_ FUEL (0, 0) (I.sizeOf_k3 κ)).trans (optC_congr (fun qy_1 => ?_))
    kernel_rfl
  rw [hu]
  exact (I.sizeOf_tree_nat (fun o => optC o (fun (r : Int) => κ (.int .i64 r) []) none) set_ (fun d => some d) none).symm
noncomputable def I.sizeOf_s : D.Spec where
  keep := false
  pure := true
  ds := [.invalid]
  sp := fun args h κ => match args, h with
    | [.int .i64 set_], [] => optC (I.sizeOf_t set_) (fun (r : Int) => κ (.int .i64 r) []) none
    | _, _ => none
theorem I.sizeOf_ok : SpecOk Try.prog 58 I.sizeOf_s := by
  refine SpecOk.of TDok mixed (T := I.sizeOf_T) ?_ (ann := I.sizeOf_ann) Try.func58 rfl (by decide +kernel) ?_ ?_ ?_
  · intro p hp; cases hp
  · intro args h κ r hh
    simp only [I.sizeOf_s] at hh
    split at hh
    · exact (I.sizeOf_den _ κ).trans hh
    · cases hh
  · intro args h κ r hh
    simp only [I.sizeOf_s] at hh ⊢
    split at hh
    · exact optC_law2 (F := fun (r : Int) κ => κ (.int .i64 r) []) (fun b κ r hb => ⟨_, _, hb, fun _ => rfl⟩) hh
    · cases hh
  · intro _ args h κ r hh
    simp only [I.sizeOf_s] at hh
    split at hh
    · exact ⟨rfl, fun _ => rfl⟩
    · cases hh

-- loop.example/guardsonnets/impl.fewerOf
noncomputable def I.fewerOf_T : List (Nat × D.Spec) := []
def I.fewerOf_ann : Nat → List Nat × List Nat
  | _ => ([], [])
noncomputable def I.fewerOf_F (args : List V) (h : List E) (κ : V → List E → R) : R := funC TD (tableK I.fewerOf_T) I.fewerOf_ann (drawOk (tableP I.fewerOf_T)) FUEL Try.f57 args h κ
noncomputable def I.fewerOf_tree {α : Type} (fewest : Int) (number : Int) (leaf0_ : Int → α) (fail_ : α) : α :=
  (bif decide (fewest < 0) then (leaf0_ number) else (bif decide (number < fewest) then (leaf0_ number) else (leaf0_ fewest)))
theorem I.fewerOf_tree_nat {α γ : Type} (g : α → γ) (fewest : Int) (number : Int) (leaf0_ : Int → α) (fail_ : α) : g (I.fewerOf_tree fewest number leaf0_ fail_) = I.fewerOf_tree fewest number (fun d => g (leaf0_ d)) (g fail_) := by
  unfold I.fewerOf_tree; simp only [apply_cnd g, apply_optC g, apply_sumC g]
noncomputable def I.fewerOf_t (fewest : Int) (number : Int) : Option (Int) := I.fewerOf_tree fewest number (fun d => some d) none
theorem I.fewerOf_den (fewest : Int) (number : Int) (κ : V → List E → R) : I.fewerOf_F [.int .i64 fewest, .int .i64 number] [] κ = optC (I.fewerOf_t fewest number) (fun (r : Int) => κ (.int .i64 r) []) none := by
  have hu : I.fewerOf_F [.int .i64 fewest, .int .i64 number] [] κ = I.fewerOf_tree fewest number (fun d => κ (.int .i64 d) []) none := by
    kernel_rfl
  rw [hu]
  exact (I.fewerOf_tree_nat (fun o => optC o (fun (r : Int) => κ (.int .i64 r) []) none) fewest number (fun d => some d) none).symm
noncomputable def I.fewerOf_s : D.Spec where
  keep := false
  pure := true
  ds := [.invalid, .invalid]
  sp := fun args h κ => match args, h with
    | [.int .i64 fewest, .int .i64 number], [] => optC (I.fewerOf_t fewest number) (fun (r : Int) => κ (.int .i64 r) []) none
    | _, _ => none
theorem I.fewerOf_ok : SpecOk Try.prog 57 I.fewerOf_s := by
  refine SpecOk.of TDok mixed (T := I.fewerOf_T) ?_ (ann := I.fewerOf_ann) Try.func57 rfl (by decide +kernel) ?_ ?_ ?_
  · intro p hp; cases hp
  · intro args h κ r hh
    simp only [I.fewerOf_s] at hh
    split at hh
    · exact (I.fewerOf_den _ _ κ).trans hh
    · cases hh
  · intro args h κ r hh
    simp only [I.fewerOf_s] at hh ⊢
    split at hh
    · exact optC_law2 (F := fun (r : Int) κ => κ (.int .i64 r) []) (fun b κ r hb => ⟨_, _, hb, fun _ => rfl⟩) hh
    · cases hh
  · intro _ args h κ r hh
    simp only [I.fewerOf_s] at hh
    split at hh
    · exact ⟨rfl, fun _ => rfl⟩
    · cases hh

-- loop.example/guardsonnets/impl.FewestSecure
noncomputable def I.FewestSecure_T : List (Nat × D.Spec) := [(27, I.NetOk_s), (56, I.allOf_s), (51, I.secureIn_s), (58, I.sizeOf_s), (57, I.fewerOf_s)]
def I.FewestSecure_ann : Nat → List Nat × List Nat
  | 5 => ([0, 3, 4], [3])
  | _ => ([], [])
noncomputable def I.FewestSecure_F (args : List V) (h : List E) (κ : V → List E → R) : R := funC TD (tableK I.FewestSecure_T) I.FewestSecure_ann (drawOk (tableP I.FewestSecure_T)) FUEL Try.f25 args h κ
noncomputable def I.FewestSecure_L5 (n : Nat) (σ : St) (k : X → St → R) : R := iterC 0 (fun σ k => denC TD (tableK I.FewestSecure_T) I.FewestSecure_ann (drawOk (tableP I.FewestSecure_T)) 0 FUEL ((findLoop 5 (Try.f25.body.getD .skip)).getD .skip) σ k) [0, 3, 4] [3] n σ k
noncomputable def I.FewestSecure_k5 (κ : V → List E → R) : X → St → R := (afterC TD (tableK I.FewestSecure_T) I.FewestSecure_ann (drawOk (tableP I.FewestSecure_T)) 0 FUEL 5 (Try.f25.body.getD .skip) (finC TD 0 Try.f25 κ)).getD (fun _ _ => none)
noncomputable def I.FewestSecure_step5 {α : Type} (x0 : List Int) (x3 : Int) (x4 : Int) (next_ : Int × Int → α) (out0_ : Int → α) (fail_ : α) : α :=
  (optC (I.allOf_t x0) (fun c_2 => (bif decide (x4 ≤ c_2) then (optC (I.secureIn_t x0 x4) (fun c_3 => (bif c_3 then (optC (I.sizeOf_t x4) (fun c_4 => (optC (I.fewerOf_t x3 c_4) (fun c_5 => (next_ (c_5, IntKind.i64.wrap (x4 + 1)))) fail_)) fail_) else (next_ (x3, IntKind.i64.wrap (x4 + 1))))) fail_) else (out0_ x3))) fail_)
theorem I.FewestSecure_step5_nat {α γ : Type} (g : α → γ) (x0 : List Int) (x3 : Int) (x4 : Int) (next_ : Int × Int → α) (out0_ : Int → α) (fail_ : α) : g (I.FewestSecure_step5 x0 x3 x4 next_ out0_ fail_) = I.FewestSecure_step5 x0 x3 x4 (fun s => g (next_ s)) (fun d => g (out0_ d)) (g fail_) := by
  unfold I.FewestSecure_step5; simp only [apply_cnd g, apply_optC g, apply_sumC g]
noncomputable def I.FewestSecure_run5 (x0 : List Int) : Nat → Int × Int → Option (Int)
  | 0, _ => none
  | n + 1, s_ => I.FewestSecure_step5 x0 s_.1 s_.2 (I.FewestSecure_run5 x0 n) (fun d => some d) none
theorem I.FewestSecure_L5_run (x0 : List Int) (n : Nat) (s_ : Int × Int) (k : X → St → R) : I.FewestSecure_L5 n { n := 22, t := [(0, (.ro false (.ints .i64 x0))), (3, (.int .i64 s_.1)), (4, (.int .i64 s_.2))], h := [] } k = optC (I.FewestSecure_run5 x0 n s_) (fun (r : Int) => k (.exit 0) { n := 22, t := [(3, (.int .i64 r))], h := [] }) none := by
  induction n generalizing s_ with
  | zero => rfl
  | succ n ih =>
    have hu : I.FewestSecure_L5 (n + 1) { n := 22, t := [(0, (.ro false (.ints .i64 x0))), (3, (.int .i64 s_.1)), (4, (.int .i64 s_.2))], h := [] } k = I.FewestSecure_step5 x0 s_.1 s_.2 (fun s_ => I.FewestSecure_L5 n { n := 22, t := [(0, (.ro false (.ints .i64 x0))), (3, (.int .i64 s_.1)), (4, (.int .i64 s_.2))], h := [] } k) (fun d => k (.exit 0) { n := 22, t := [(3, (.int .i64 d))], h := [] }) none := by
      kernel_rfl
    have hs : (fun s_ : Int × Int => I.FewestSecure_L5 n { n := 22, t := [(0, (.ro false (.ints .i64 x0))), (3, (.int .i64 s_.1)), (4, (.int .i64 s_.2))], h := [] } k) = fun s_ => optC (I.FewestSecure_run5 x0 n s_) (fun (r : Int) => k (.exit 0) { n := 22, t := [(3, (.int .i64 r))], h := [] }) none := funext ih
    rw [hu, hs]
    exact (I.FewestSecure_step5_nat (fun o => optC o (fun (r : Int) => k (.exit 0) { n := 22, t := [(3, (.int .i64 r))], h := [] }) none) x0 s_.1 s_.2 (I.FewestSecure_run5 x0 n) (fun d => some d) none).symm
noncomputable def I.FewestSecure_tree {α : Type} (net : List Int) (leaf0_ : Int → α) (fail_ : α) : α :=
  (optC (I.NetOk_t net) (fun c_1 => (bif !c_1 then (leaf0_ (-1)) else (optC (I.FewestSecure_run5 net FUEL (-1, 0)) (fun qy_6 => (leaf0_ qy_6)) fail_))) fail_)
theorem I.FewestSecure_tree_nat {α γ : Type} (g : α → γ) (net : List Int) (leaf0_ : Int → α) (fail_ : α) : g (I.FewestSecure_tree net leaf0_ fail_) = I.FewestSecure_tree net (fun d => g (leaf0_ d)) (g fail_) := by
  unfold I.FewestSecure_tree; simp only [apply_cnd g, apply_optC g, apply_sumC g]
noncomputable def I.FewestSecure_t (net : List Int) : Option (Int) := I.FewestSecure_tree net (fun d => some d) none
theorem I.FewestSecure_den (net : List Int) (κ : V → List E → R) : I.FewestSecure_F [.ro false (.ints .i64 net)] [] κ = optC (I.FewestSecure_t net) (fun (r : Int) => κ (.int .i64 r) []) none := by
  have hu : I.FewestSecure_F [.ro false (.ints .i64 net)] [] κ = I.FewestSecure_tree net (fun d => κ (.int .i64 d) []) none := by
    refine Eq.trans (show I.FewestSecure_F [.ro false (.ints .i64 net)] [] κ = (optC (I.NetOk_t net) (fun c_1 => (bif !c_1 then (κ (.int .i64 (-1)) []) else (I.FewestSecure_L5 FUEL { n := 22, t := [(0, (.ro false (.ints .i64 net))), (3, (.int .i64 (-1))), (4, (.int .i64 0))], h := [] } (I.FewestSecure_k5 κ)))) none) by kernel_rfl) ?_
    refine optC_congr (fun c_1 => ?_)
    refine cnd_congr ?_ ?_
    · kernel_rfl
    · refine (I.FewestSecure_L5_run net FUEL (-1, 0) (I.FewestSecure_k5 κ)).trans (optC_congr (fun qy_6 => ?_))
      kernel_rfl
  rw [hu]
  exact (I.FewestSecure_tree_nat (fun o => optC o (fun (r : Int) => κ (.int .i64 r) []) none) net (fun d => some d) none).symm
noncomputable def I.FewestSecure_s : D.Spec where
  keep := false
  pure := true
  ds := [.int .i64]
  sp := fun args h κ => match args, h with
    | [.ro false (.ints .i64 net)], [] => optC (I.FewestSecure_t net) (fun (r : Int) => κ (.int .i64 r) []) none
    | _, _ => none
theorem I.FewestSecure_ok : SpecOk Try.prog 25 I.FewestSecure_s := by
  refine SpecOk.of TDok mixed (T := I.FewestSecure_T) ?_ (ann := I.FewestSecure_ann) Try.func25 rfl (by decide +kernel) ?_ ?_ ?_
  · intro p hp
    simp only [I.FewestSecure_T, List.mem_cons, List.not_mem_nil, or_false] at hp
    rcases hp with rfl | rfl | rfl | rfl | rfl
    · exact I.NetOk_ok
    · exact I.allOf_ok
    · exact I.secureIn_ok
    · exact I.sizeOf_ok
    · exact I.fewerOf_ok
  · intro args h κ r hh
    simp only [I.FewestSecure_s] at hh
    split at hh
    · exact (I.FewestSecure_den _ κ).trans hh
    · cases hh
  · intro args h κ r hh
    simp only [I.FewestSecure_s] at hh ⊢
    split at hh
    · exact optC_law2 (F := fun (r : Int) κ => κ (.int .i64 r) []) (fun b κ r hb => ⟨_, _, hb, fun _ => rfl⟩) hh
    · cases hh
  · intro _ args h κ r hh
    simp only [I.FewestSecure_s] at hh
    split at hh
    · exact ⟨rfl, fun _ => rfl⟩
    · cases hh

-- loop.example/guardsonnets/spec.l1Size
noncomputable def S.l1Size_T : List (Nat × D.Spec) := []
def S.l1Size_ann : Nat → List Nat × List Nat
  | 2 => ([0, 3], [3])
  | _ => ([], [])
noncomputable def S.l1Size_F (args : List V) (h : List E) (κ : V → List E → R) : R := funC TD (tableK S.l1Size_T) S.l1Size_ann (drawOk (tableP S.l1Size_T)) FUEL Try.f59 args h κ
noncomputable def S.l1Size_L2 (n : Nat) (σ : St) (k : X → St → R) : R := iterC 0 (fun σ k => denC TD (tableK S.l1Size_T) S.l1Size_ann (drawOk (tableP S.l1Size_T)) 0 FUEL ((findLoop 2 (Try.f59.body.getD .skip)).getD .skip) σ k) [0, 3] [3] n σ k
noncomputable def S.l1Size_k2 (κ : V → List E → R) : X → St → R := (afterC TD (tableK S.l1Size_T) S.l1Size_ann (drawOk (tableP S.l1Size_T)) 0 FUEL 2 (Try.f59.body.getD .skip) (finC TD 0 Try.f59 κ)).getD (fun _ _ => none)
noncomputable def S.l1Size_step2 {α : Type} (x0 : Int) (x3 : Int) (next_ : Int × Int → α) (out0_ : Int → α) (fail_ : α) : α :=
  (bif decide (x0 > 0) then (next_ (IntKind.i64.wrap (x0.tdiv 2), IntKind.i64.wrap (x3 + x0.tmod 2))) else (out0_ x3))
theorem S.l1Size_step2_nat {α γ : Type} (g : α → γ) (x0 : Int) (x3 : Int) (next_ : Int × Int → α) (out0_ : Int → α) (fail_ : α) : g (S.l1Size_step2 x0 x3 next_ out0_ fail_) = S.l1Size_step2 x0 x3 (fun s => g (next_ s)) (fun d => g (out0_ d)) (g fail_) := by
  unfold S.l1Size_step2; simp only [apply_cnd g, apply_optC g, apply_sumC g]
noncomputable def S.l1Size_run2 : Nat → Int × Int → Option (Int)
  | 0, _ => none
  | n + 1, s_ => S.l1Size_step2 s_.1 s_.2 (S.l1Size_run2 n) (fun d => some d) none
theorem S.l1Size_L2_run (n : Nat) (s_ : Int × Int) (k : X → St → R) : S.l1Size_L2 n { n := 13, t := [(0, (.int .i64 s_.1)), (3, (.int .i64 s_.2))], h := [] } k = optC (S.l1Size_run2 n s_) (fun (r : Int) => k (.exit 0) { n := 13, t := [(3, (.int .i64 r))], h := [] }) none := by
  induction n generalizing s_ with
  | zero => rfl
  | succ n ih =>
    have hu : S.l1Size_L2 (n + 1) { n := 13, t := [(0, (.int .i64 s_.1)), (3, (.int .i64 s_.2))], h := [] } k = S.l1Size_step2 s_.1 s_.2 (fun s_ => S.l1Size_L2 n { n := 13, t := [(0, (.int .i64 s_.1)), (3, (.int .i64 s_.2))], h := [] } k) (fun d => k (.exit 0) { n := 13, t := [(3, (.int .i64 d))], h := [] }) none := by
      kernel_rfl
    have hs : (fun s_ : Int × Int => S.l1Size_L2 n { n := 13, t := [(0, (.int .i64 s_.1)), (3, (.int .i64 s_.2))], h := [] } k) = fun s_ => optC (S.l1Size_run2 n s_) (fun (r : Int) => k (.exit 0) { n := 13, t := [(3, (.int .i64 r))], h := [] }) none := funext ih
    rw [hu, hs]
    exact (S.l1Size_step2_nat (fun o => optC o (fun (r : Int) => k (.exit 0) { n := 13, t := [(3, (.int .i64 r))], h := [] }) none) s_.1 s_.2 (S.l1Size_run2 n) (fun d => some d) none).symm
noncomputable def S.l1Size_tree {α : Type} (set_ : Int) (leaf0_ : Int → α) (fail_ : α) : α :=
  (optC (S.l1Size_run2 FUEL (set_, 0)) (fun qy_1 => (leaf0_ qy_1)) fail_)
theorem S.l1Size_tree_nat {α γ : Type} (g : α → γ) (set_ : Int) (leaf0_ : Int → α) (fail_ : α) : g (S.l1Size_tree set_ leaf0_ fail_) = S.l1Size_tree set_ (fun d => g (leaf0_ d)) (g fail_) := by
  unfold S.l1Size_tree; simp only [apply_cnd g, apply_optC g, apply_sumC g]
noncomputable def S.l1Size_t (set_ : Int) : Option (Int) := S.l1Size_tree set_ (fun d => some d) none
theorem S.l1Size_den (set_ : Int) (κ : V → List E → R) : S.l1Size_F [.int .i64 set_] [] κ = optC (S.l1Size_t set_) (fun (r : Int) => κ (.int .i64 r) []) none := by
  have hu : S.l1Size_F [.int .i64 set_] [] κ = S.l1Size_tree set_ (fun d => κ (.int .i64 d) []) none := by
    refine Eq.trans (show S.l1Size_F [.int .i64 set_] [] κ = (S.l1Size_L2 FUEL { n := 13, t := [(0, (.int .i64 set_)), (3, (.int .i64 0))], h := [] } (S.l1Size_k2 κ)) by kernel_rfl) ?_
    refine (S.l1Size_L2_run FUEL (set_, 0) (S.l1Size_k2 κ)).trans (optC_congr (fun qy_1 => ?_))
    kernel_rfl
  rw [hu]
  exact (S.l1Size_tree_nat (fun o => optC o (fun (r : Int) => κ (.int .i64 r) []) none) set_ (fun d => some d) none).symm
noncomputable def S.l1Size_s : D.Spec where
  keep := false
  pure := true
  ds := [.invalid]
  sp := fun args h κ => match args, h with
    | [.int .i64 set_], [] => optC (S.l1Size_t set_) (fun (r : Int) => κ (.int .i64 r) []) none
    | _, _ => none
theorem S.l1Size_ok : SpecOk Try.prog 59 S.l1Size_s := by
  refine SpecOk.of TDok mixed (T := S.l1Size_T) ?_ (ann := S.l1Size_ann) Try.func59 rfl (by decide +kernel) ?_ ?_ ?_
  · intro p hp; cases hp
  · intro args h κ r hh
    simp only [S.l1Size_s] at hh
    split at hh
    · exact (S.l1Size_den _ κ).trans hh
    · cases hh
  · intro args h κ r hh
    simp only [S.l1Size_s] at hh ⊢
    split at hh
    · exact optC_law2 (F := fun (r : Int) κ => κ (.int .i64 r) []) (fun b κ r hb => ⟨_, _, hb, fun _ => rfl⟩) hh
    · cases hh
  · intro _ args h κ r hh
    simp only [S.l1Size_s] at hh
    split at hh
    · exact ⟨rfl, fun _ => rfl⟩
    · cases hh

-- loop.example/guardsonnets/spec.FewestSecure
noncomputable def S.FewestSecure_T : List (Nat × D.Spec) := [(42, S.NetOk_s), (22, S.SecureOk_s), (59, S.l1Size_s)]
def S.FewestSecure_ann : Nat → List Nat × List Nat
  | 5 => ([0, 3, 4], [3])
  | _ => ([], [])
noncomputable def S.FewestSecure_F (args : List V) (h : List E) (κ : V → List E → R) : R := funC TD (tableK S.FewestSecure_T) S.FewestSecure_ann (drawOk (tableP S.FewestSecure_T)) FUEL Try.f26 args h κ
noncomputable def S.FewestSecure_L5 (n : Nat) (σ : St) (k : X → St → R) : R := iterC 0 (fun σ k => denC TD (tableK S.FewestSecure_T) S.FewestSecure_ann (drawOk (tableP S.FewestSecure_T)) 0 FUEL ((findLoop 5 (Try.f26.body.getD .skip)).getD .skip) σ k) [0, 3, 4] [3] n σ k
noncomputable def S.FewestSecure_k5 (κ : V → List E → R) : X → St → R := (afterC TD (tableK S.FewestSecure_T) S.FewestSecure_ann (drawOk (tableP S.FewestSecure_T)) 0 FUEL 5 (Try.f26.body.getD .skip) (finC TD 0 Try.f26 κ)).getD (fun _ _ => none)
noncomputable def S.FewestSecure_step5 {α : Type} (x0 : List Int) (x3 : Int) (x4 : Int) (next_ : Int × Int → α) (out0_ : Int → α) (fail_ : α) : α :=
  (bif decide (x4 < IntKind.i64.wrap (1 * 2 ^ min (↑x0.length : Int).toNat IntKind.i64.bits)) then (optC (S.SecureOk_t x0 x4) (fun c_2 => (bif c_2 then (optC (S.l1Size_t x4) (fun c_3 => (next_ (if c_3 < x3 then c_3 else x3, IntKind.i64.wrap (x4 + 1)))) fail_) else (next_ (x3, IntKind.i64.wrap (x4 + 1))))) fail_) else (out0_ x3))
theorem S.FewestSecure_step5_nat {α γ : Type} (g : α → γ) (x0 : List Int) (x3 : Int) (x4 : Int) (next_ : Int × Int → α) (out0_ : Int → α) (fail_ : α) : g (S.FewestSecure_step5 x0 x3 x4 next_ out0_ fail_) = S.FewestSecure_step5 x0 x3 x4 (fun s => g (next_ s)) (fun d => g (out0_ d)) (g fail_) := by
  unfold S.FewestSecure_step5; simp only [apply_cnd g, apply_optC g, apply_sumC g]
noncomputable def S.FewestSecure_run5 (x0 : List Int) : Nat → Int × Int → Option (Int)
  | 0, _ => none
  | n + 1, s_ => S.FewestSecure_step5 x0 s_.1 s_.2 (S.FewestSecure_run5 x0 n) (fun d => some d) none
theorem S.FewestSecure_L5_run (x0 : List Int) (n : Nat) (s_ : Int × Int) (k : X → St → R) : S.FewestSecure_L5 n { n := 25, t := [(0, (.ro false (.ints .i64 x0))), (3, (.int .i64 s_.1)), (4, (.int .i64 s_.2))], h := [] } k = optC (S.FewestSecure_run5 x0 n s_) (fun (r : Int) => k (.exit 0) { n := 25, t := [(3, (.int .i64 r))], h := [] }) none := by
  induction n generalizing s_ with
  | zero => rfl
  | succ n ih =>
    have hu : S.FewestSecure_L5 (n + 1) { n := 25, t := [(0, (.ro false (.ints .i64 x0))), (3, (.int .i64 s_.1)), (4, (.int .i64 s_.2))], h := [] } k = S.FewestSecure_step5 x0 s_.1 s_.2 (fun s_ => S.FewestSecure_L5 n { n := 25, t := [(0, (.ro false (.ints .i64 x0))), (3, (.int .i64 s_.1)), (4, (.int .i64 s_.2))], h := [] } k) (fun d => k (.exit 0) { n := 25, t := [(3, (.int .i64 d))], h := [] }) none := by
      kernel_rfl
    have hs : (fun s_ : Int × Int => S.FewestSecure_L5 n { n := 25, t := [(0, (.ro false (.ints .i64 x0))), (3, (.int .i64 s_.1)), (4, (.int .i64 s_.2))], h := [] } k) = fun s_ => optC (S.FewestSecure_run5 x0 n s_) (fun (r : Int) => k (.exit 0) { n := 25, t := [(3, (.int .i64 r))], h := [] }) none := funext ih
    rw [hu, hs]
    exact (S.FewestSecure_step5_nat (fun o => optC o (fun (r : Int) => k (.exit 0) { n := 25, t := [(3, (.int .i64 r))], h := [] }) none) x0 s_.1 s_.2 (S.FewestSecure_run5 x0 n) (fun d => some d) none).symm
noncomputable def S.FewestSecure_tree {α : Type} (net : List Int) (leaf0_ : Int → α) (fail_ : α) : α :=
  (optC (S.NetOk_t net) (fun c_1 => (bif !c_1 then (leaf0_ (-1)) else (optC (S.FewestSecure_run5 net FUEL ((↑net.length : Int), 0)) (fun qy_4 => (leaf0_ qy_4)) fail_))) fail_)
theorem S.FewestSecure_tree_nat {α γ : Type} (g : α → γ) (net : List Int) (leaf0_ : Int → α) (fail_ : α) : g (S.FewestSecure_tree net leaf0_ fail_) = S.FewestSecure_tree net (fun d => g (leaf0_ d)) (g fail_) := by
  unfold S.FewestSecure_tree; simp only [apply_cnd g, apply_optC g, apply_sumC g]
noncomputable def S.FewestSecure_t (net : List Int) : Option (Int) := S.FewestSecure_tree net (fun d => some d) none
theorem S.FewestSecure_den (net : List Int) (κ : V → List E → R) : S.FewestSecure_F [.ro false (.ints .i64 net)] [] κ = optC (S.FewestSecure_t net) (fun (r : Int) => κ (.int .i64 r) []) none := by
  have hu : S.FewestSecure_F [.ro false (.ints .i64 net)] [] κ = S.FewestSecure_tree net (fun d => κ (.int .i64 d) []) none := by
    refine Eq.trans (show S.FewestSecure_F [.ro false (.ints .i64 net)] [] κ = (optC (S.NetOk_t net) (fun c_1 => (bif !c_1 then (κ (.int .i64 (-1)) []) else (S.FewestSecure_L5 FUEL { n := 25, t := [(0, (.ro false (.ints .i64 net))), (3, (.int .i64 ((↑net.length : Int)))), (4, (.int .i64 0))], h := [] } (S.FewestSecure_k5 κ)))) none) by kernel_rfl) ?_
    refine optC_congr (fun c_1 => ?_)
    refine cnd_congr ?_ ?_
    · kernel_rfl
    · refine (S.FewestSecure_L5_run net FUEL ((↑net.length : Int), 0) (S.FewestSecure_k5 κ)).trans (optC_congr (fun qy_4 => ?_))
      kernel_rfl
  rw [hu]
  exact (S.FewestSecure_tree_nat (fun o => optC o (fun (r : Int) => κ (.int .i64 r) []) none) net (fun d => some d) none).symm
noncomputable def S.FewestSecure_s : D.Spec where
  keep := false
  pure := true
  ds := [.int .i64]
  sp := fun args h κ => match args, h with
    | [.ro false (.ints .i64 net)], [] => optC (S.FewestSecure_t net) (fun (r : Int) => κ (.int .i64 r) []) none
    | _, _ => none
theorem S.FewestSecure_ok : SpecOk Try.prog 26 S.FewestSecure_s := by
  refine SpecOk.of TDok mixed (T := S.FewestSecure_T) ?_ (ann := S.FewestSecure_ann) Try.func26 rfl (by decide +kernel) ?_ ?_ ?_
  · intro p hp
    simp only [S.FewestSecure_T, List.mem_cons, List.not_mem_nil, or_false] at hp
    rcases hp with rfl | rfl | rfl
    · exact S.NetOk_ok
    · exact S.SecureOk_ok
    · exact S.l1Size_ok
  · intro args h κ r hh
    simp only [S.FewestSecure_s] at hh
    split at hh
    · exact (S.FewestSecure_den _ κ).trans hh
    · cases hh
  · intro args h κ r hh
    simp only [S.FewestSecure_s] at hh ⊢
    split at hh
    · exact optC_law2 (F := fun (r : Int) κ => κ (.int .i64 r) []) (fun b κ r hb => ⟨_, _, hb, fun _ => rfl⟩) hh
    · cases hh
  · intro _ args h κ r hh
    simp only [S.FewestSecure_s] at hh
    split at hh
    · exact ⟨rfl, fun _ => rfl⟩
    · cases hh

-- loop.example/guardsonnets/impl.smallWatchIn
noncomputable def I.smallWatchIn_T : List (Nat × D.Spec) := [(56, I.allOf_s), (58, I.sizeOf_s), (54, I.watchIn_s)]
def I.smallWatchIn_ann : Nat → List Nat × List Nat
  | 3 => ([0, 3, 4], [3])
  | _ => ([], [])
noncomputable def I.smallWatchIn_F (args : List V) (h : List E) (κ : V → List E → R) : R := funC TD (tableK I.smallWatchIn_T) I.smallWatchIn_ann (drawOk (tableP I.smallWatchIn_T)) FUEL Try.f62 args h κ
noncomputable def I.smallWatchIn_L3 (n : Nat) (σ : St) (k : X → St → R) : R := iterC 0 (fun σ k => denC TD (tableK I.smallWatchIn_T) I.smallWatchIn_ann (drawOk (tableP I.smallWatchIn_T)) 0 FUEL ((findLoop 3 (Try.f62.body.getD .skip)).getD .skip) σ k) [0, 3, 4] [3] n σ k
noncomputable def I.smallWatchIn_k3 (κ : V → List E → R) : X → St → R := (afterC TD (tableK I.smallWatchIn_T) I.smallWatchIn_ann (drawOk (tableP I.smallWatchIn_T)) 0 FUEL 3 (Try.f62.body.getD .skip) (finC TD 0 Try.f62 κ)).getD (fun _ _ => none)
noncomputable def I.smallWatchIn_step3 {α : Type} (x0 : List Int) (x3 : Int) (x4 : Int) (next_ : Int × Int → α) (out0_ : Int → α) (fail_ : α) : α :=
  (optC (I.allOf_t x0) (fun c_2 => (bif decide (x4 < c_2) then (optC (I.sizeOf_t x4) (fun c_3 => (optC (I.sizeOf_t x3) (fun c_4 => (bif decide (c_3 < c_4) then (optC (I.watchIn_t x0 x4) (fun c_5 => (bif c_5 then (next_ (x4, IntKind.i64.wrap (x4 + 1))) else (next_ (x3, IntKind.i64.wrap (x4 + 1))))) fail_) else (next_ (x3, IntKind.i64.wrap (x4 + 1))))) fail_)) fail_) else (out0_ x3))) fail_)
theorem I.smallWatchIn_step3_nat {α γ : Type} (g : α → γ) (x0 : List Int) (x3 : Int) (x4 : Int) (next_ : Int × Int → α) (out0_ : Int → α) (fail_ : α) : g (I.smallWatchIn_step3 x0 x3 x4 next_ out0_ fail_) = I.smallWatchIn_step3 x0 x3 x4 (fun s => g (next_ s)) (fun d => g (out0_ d)) (g fail_) := by
  unfold I.smallWatchIn_step3; simp only [apply_cnd g, apply_optC g, apply_sumC g]
noncomputable def I.smallWatchIn_run3 (x0 : List Int) : Nat → Int × Int → Option (Int)
  | 0, _ => none
  | n + 1, s_ => I.smallWatchIn_step3 x0 s_.1 s_.2 (I.smallWatchIn_run3 x0 n) (fun d => some d) none
theorem I.smallWatchIn_L3_run (x0 : List Int) (n : Nat) (s_ : Int × Int) (k : X → St → R) : I.smallWatchIn_L3 n { n := 25, t := [(0, (.ro false (.ints .i64 x0))), (3, (.int .i64 s_.1)), (4, (.int .i64 s_.2))], h := [] } k = optC (I.smallWatchIn_run3 x0 n s_) (fun (r : Int) => k (.exit 0) { n := 25, t := [(3, (.int .i64 r))], h := [] }) none := by
  induction n generalizing s_ with
  | zero => rfl
  | succ n ih =>
    have hu : I.smallWatchIn_L3 (n + 1) { n := 25, t := [(0, (.ro false (.ints .i64 x0))), (3, (.int .i64 s_.1)), (4, (.int .i64 s_.2))], h := [] } k = I.smallWatchIn_step3 x0 s_.1 s_.2 (fun s_ => I.smallWatchIn_L3 n { n := 25, t := [(0, (.ro false (.ints .i64 x0))), (3, (.int .i64 s_.1)), (4, (.int .i64 s_.2))], h := [] } k) (fun d => k (.exit 0) { n := 25, t := [(3, (.int .i64 d))], h := [] }) none := by
      kernel_rfl
    have hs : (fun s_ : Int × Int => I.smallWatchIn_L3 n { n := 25, t := [(0, (.ro false (.ints .i64 x0))), (3, (.int .i64 s_.1)), (4, (.int .i64 s_.2))], h := [] } k) = fun s_ => optC (I.smallWatchIn_run3 x0 n s_) (fun (r : Int) => k (.exit 0) { n := 25, t := [(3, (.int .i64 r))], h := [] }) none := funext ih
    rw [hu, hs]
    exact (I.smallWatchIn_step3_nat (fun o => optC o (fun (r : Int) => k (.exit 0) { n := 25, t := [(3, (.int .i64 r))], h := [] }) none) x0 s_.1 s_.2 (I.smallWatchIn_run3 x0 n) (fun d => some d) none).symm
noncomputable def I.smallWatchIn_tree {α : Type} (net : List Int) (leaf0_ : Int → α) (fail_ : α) : α :=
  (optC (I.allOf_t net) (fun c_1 => (optC (I.smallWatchIn_run3 net FUEL (c_1, 0)) (fun qy_6 => (leaf0_ qy_6)) fail_)) fail_)
theorem I.smallWatchIn_tree_nat {α γ : Type} (g : α → γ) (net : List Int) (leaf0_ : Int → α) (fail_ : α) : g (I.smallWatchIn_tree net leaf0_ fail_) = I.smallWatchIn_tree net (fun d => g (leaf0_ d)) (g fail_) := by
  unfold I.smallWatchIn_tree; simp only [apply_cnd g, apply_optC g, apply_sumC g]
noncomputable def I.smallWatchIn_t (net : List Int) : Option (Int) := I.smallWatchIn_tree net (fun d => some d) none
theorem I.smallWatchIn_den (net : List Int) (κ : V → List E → R) : I.smallWatchIn_F [.ro false (.ints .i64 net)] [] κ = optC (I.smallWatchIn_t net) (fun (r : Int) => κ (.int .i64 r) []) none := by
  have hu : I.smallWatchIn_F [.ro false (.ints .i64 net)] [] κ = I.smallWatchIn_tree net (fun d => κ (.int .i64 d) []) none := by
    refine Eq.trans (show I.smallWatchIn_F [.ro false (.ints .i64 net)] [] κ = (optC (I.allOf_t net) (fun c_1 => (I.smallWatchIn_L3 FUEL { n := 25, t := [(0, (.ro false (.ints .i64 net))), (3, (.int .i64 c_1)), (4, (.int .i64 0))], h := [] } (I.smallWatchIn_k3 κ))) none) by kernel_rfl) ?_
    refine optC_congr (fun c_1 => ?_)
    refine (I.smallWatchIn_L3_run net FUEL (c_1, 0) (I.smallWatchIn_k3 κ)).trans (optC_congr (fun qy_6 => ?_))
    kernel_rfl
  rw [hu]
  exact (I.smallWatchIn_tree_nat (fun o => optC o (fun (r : Int) => κ (.int .i64 r) []) none) net (fun d => some d) none).symm
noncomputable def I.smallWatchIn_s : D.Spec where
  keep := false
  pure := true
  ds := [.int .i64]
  sp := fun args h κ => match args, h with
    | [.ro false (.ints .i64 net)], [] => optC (I.smallWatchIn_t net) (fun (r : Int) => κ (.int .i64 r) []) none
    | _, _ => none
theorem I.smallWatchIn_ok : SpecOk Try.prog 62 I.smallWatchIn_s := by
  refine SpecOk.of TDok mixed (T := I.smallWatchIn_T) ?_ (ann := I.smallWatchIn_ann) Try.func62 rfl (by decide +kernel) ?_ ?_ ?_
  · intro p hp
    simp only [I.smallWatchIn_T, List.mem_cons, List.not_mem_nil, or_false] at hp
    rcases hp with rfl | rfl | rfl
    · exact I.allOf_ok
    · exact I.sizeOf_ok
    · exact I.watchIn_ok
  · intro args h κ r hh
    simp only [I.smallWatchIn_s] at hh
    split at hh
    · exact (I.smallWatchIn_den _ κ).trans hh
    · cases hh
  · intro args h κ r hh
    simp only [I.smallWatchIn_s] at hh ⊢
    split at hh
    · exact optC_law2 (F := fun (r : Int) κ => κ (.int .i64 r) []) (fun b κ r hb => ⟨_, _, hb, fun _ => rfl⟩) hh
    · cases hh
  · intro _ args h κ r hh
    simp only [I.smallWatchIn_s] at hh
    split at hh
    · exact ⟨rfl, fun _ => rfl⟩
    · cases hh

-- loop.example/guardsonnets/impl.FewestWatch
noncomputable def I.FewestWatch_T : List (Nat × D.Spec) := [(27, I.NetOk_s), (62, I.smallWatchIn_s), (58, I.sizeOf_s)]
def I.FewestWatch_ann : Nat → List Nat × List Nat
  | _ => ([], [])
noncomputable def I.FewestWatch_F (args : List V) (h : List E) (κ : V → List E → R) : R := funC TD (tableK I.FewestWatch_T) I.FewestWatch_ann (drawOk (tableP I.FewestWatch_T)) FUEL Try.f28 args h κ
noncomputable def I.FewestWatch_tree {α : Type} (net : List Int) (leaf0_ : Int → α) (fail_ : α) : α :=
  (optC (I.NetOk_t net) (fun c_1 => (bif !c_1 then (leaf0_ (-1)) else (optC (I.smallWatchIn_t net) (fun c_2 => (optC (I.sizeOf_t c_2) (fun c_3 => (leaf0_ c_3)) fail_)) fail_))) fail_)
theorem I.FewestWatch_tree_nat {α γ : Type} (g : α → γ) (net : List Int) (leaf0_ : Int → α) (fail_ : α) : g (I.FewestWatch_tree net leaf0_ fail_) = I.FewestWatch_tree net (fun d => g (leaf0_ d)) (g fail_) := by
  unfold I.FewestWatch_tree; simp only [apply_cnd g, apply_optC g, apply_sumC g]
noncomputable def I.FewestWatch_t (net : List Int) : Option (Int) := I.FewestWatch_tree net (fun d => some d) none
theorem I.FewestWatch_den (net : List Int) (κ : V → List E → R) : I.FewestWatch_F [.ro false (.ints .i64 net)] [] κ = optC (I.FewestWatch_t net) (fun (r : Int) => κ (.int .i64 r) []) none := by
  have hu : I.FewestWatch_F [.ro false (.ints .i64 net)] [] κ = I.FewestWatch_tree net (fun d => κ (.int .i64 d) []) none := by
    kernel_rfl
  rw [hu]
  exact (I.FewestWatch_tree_nat (fun o => optC o (fun (r : Int) => κ (.int .i64 r) []) none) net (fun d => some d) none).symm
noncomputable def I.FewestWatch_s : D.Spec where
  keep := false
  pure := true
  ds := [.int .i64]
  sp := fun args h κ => match args, h with
    | [.ro false (.ints .i64 net)], [] => optC (I.FewestWatch_t net) (fun (r : Int) => κ (.int .i64 r) []) none
    | _, _ => none
theorem I.FewestWatch_ok : SpecOk Try.prog 28 I.FewestWatch_s := by
  refine SpecOk.of TDok mixed (T := I.FewestWatch_T) ?_ (ann := I.FewestWatch_ann) Try.func28 rfl (by decide +kernel) ?_ ?_ ?_
  · intro p hp
    simp only [I.FewestWatch_T, List.mem_cons, List.not_mem_nil, or_false] at hp
    rcases hp with rfl | rfl | rfl
    · exact I.NetOk_ok
    · exact I.smallWatchIn_ok
    · exact I.sizeOf_ok
  · intro args h κ r hh
    simp only [I.FewestWatch_s] at hh
    split at hh
    · exact (I.FewestWatch_den _ κ).trans hh
    · cases hh
  · intro args h κ r hh
    simp only [I.FewestWatch_s] at hh ⊢
    split at hh
    · exact optC_law2 (F := fun (r : Int) κ => κ (.int .i64 r) []) (fun b κ r hb => ⟨_, _, hb, fun _ => rfl⟩) hh
    · cases hh
  · intro _ args h κ r hh
    simp only [I.FewestWatch_s] at hh
    split at hh
    · exact ⟨rfl, fun _ => rfl⟩
    · cases hh

-- loop.example/guardsonnets/impl.WiresOf
noncomputable def I.WiresOf_T : List (Nat × D.Spec) := [(27, I.NetOk_s), (58, I.sizeOf_s)]
def I.WiresOf_ann : Nat → List Nat × List Nat
  | 5 => ([0, 3, 4], [3])
  | _ => ([], [])
noncomputable def I.WiresOf_F (args : List V) (h : List E) (κ : V → List E → R) : R := funC TD (tableK I.WiresOf_T) I.WiresOf_ann (drawOk (tableP I.WiresOf_T)) FUEL Try.f29 args h κ
noncomputable def I.WiresOf_L5 (n : Nat) (σ : St) (k : X → St → R) : R := iterC 0 (fun σ k => denC TD (tableK I.WiresOf_T) I.WiresOf_ann (drawOk (tableP I.WiresOf_T)) 0 FUEL ((findLoop 5 (Try.f29.body.getD .skip)).getD .skip) σ k) [0, 3, 4] [3] n σ k
noncomputable def I.WiresOf_k5 (κ : V → List E → R) : X → St → R := (afterC TD (tableK I.WiresOf_T) I.WiresOf_ann (drawOk (tableP I.WiresOf_T)) 0 FUEL 5 (Try.f29.body.getD .skip) (finC TD 0 Try.f29 κ)).getD (fun _ _ => none)
noncomputable def I.WiresOf_step5 {α : Type} (x0 : List Int) (x3 : Int) (x4 : Int) (next_ : Int × Int → α) (out0_ : Int → α) (fail_ : α) : α :=
  (bif decide (x4 < (↑x0.length : Int)) then (bif decide (0 ≤ x4) && decide (x4 < (↑x0.length : Int)) then (optC (I.sizeOf_t (eli x0 x4.toNat)) (fun c_2 => (next_ (IntKind.i64.wrap (x3 + c_2), IntKind.i64.wrap (x4 + 1)))) fail_) else fail_) else (out0_ x3))
theorem I.WiresOf_step5_nat {α γ : Type} (g : α → γ) (x0 : List Int) (x3 : Int) (x4 : Int) (next_ : Int × Int → α) (out0_ : Int → α) (fail_ : α) : g (I.WiresOf_step5 x0 x3 x4 next_ out0_ fail_) = I.WiresOf_step5 x0 x3 x4 (fun s => g (next_ s)) (fun d => g (out0_ d)) (g fail_) := by
  unfold I.WiresOf_step5; simp only [apply_cnd g, apply_optC g, apply_sumC g]
noncomputable def I.WiresOf_run5 (x0 : List Int) : Nat → Int × Int → Option (Int)
  | 0, _ => none
  | n + 1, s_ => I.WiresOf_step5 x0 s_.1 s_.2 (I.WiresOf_run5 x0 n) (fun d => some d) none
theorem I.WiresOf_L5_run (x0 : List Int) (n : Nat) (s_ : Int × Int) (k : X → St → R) : I.WiresOf_L5 n { n := 23, t := [(0, (.ro false (.ints .i64 x0))), (3, (.int .i64 s_.1)), (4, (.int .i64 s_.2))], h := [] } k = optC (I.WiresOf_run5 x0 n s_) (fun (r : Int) => k (.exit 0) { n := 23, t := [(3, (.int .i64 r))], h := [] }) none := by
  induction n generalizing s_ with
  | zero => rfl
  | succ n ih =>
    have hu : I.WiresOf_L5 (n + 1) { n := 23, t := [(0, (.ro false (.ints .i64 x0))), (3, (.int .i64 s_.1)), (4, (.int .i64 s_.2))], h := [] } k = I.WiresOf_step5 x0 s_.1 s_.2 (fun s_ => I.WiresOf_L5 n { n := 23, t := [(0, (.ro false (.ints .i64 x0))), (3, (.int .i64 s_.1)), (4, (.int .i64 s_.2))], h := [] } k) (fun d => k (.exit 0) { n := 23, t := [(3, (.int .i64 d))], h := [] }) none := by
      kernel_rfl
    have hs : (fun s_ : Int × Int => I.WiresOf_L5 n { n := 23, t := [(0, (.ro false (.ints .i64 x0))), (3, (.int .i64 s_.1)), (4, (.int .i64 s_.2))], h := [] } k) = fun s_ => optC (I.WiresOf_run5 x0 n s_) (fun (r : Int) => k (.exit 0) { n := 23, t := [(3, (.int .i64 r))], h := [] }) none := funext ih
    rw [hu, hs]
    exact (I.WiresOf_step5_nat (fun o => optC o (fun (r : Int) => k (.exit 0) { n := 23, t := [(3, (.int .i64 r))], h := [] }) none) x0 s_.1 s_.2 (I.WiresOf_run5 x0 n) (fun d => some d) none).symm
noncomputable def I.WiresOf_tree {α : Type} (net : List Int) (leaf0_ : Int → α) (fail_ : α) : α :=
  (optC (I.NetOk_t net) (fun c_1 => (bif !c_1 then (leaf0_ (-1)) else (optC (I.WiresOf_run5 net FUEL (0, 0)) (fun qy_3 => (leaf0_ (IntKind.i64.wrap (qy_3.tdiv 2)))) fail_))) fail_)
theorem I.WiresOf_tree_nat {α γ : Type} (g : α → γ) (net : List Int) (leaf0_ : Int → α) (fail_ : α) : g (I.WiresOf_tree net leaf0_ fail_) = I.WiresOf_tree net (fun d => g (leaf0_ d)) (g fail_) := by
  unfold I.WiresOf_tree; simp only [apply_cnd g, apply_optC g, apply_sumC g]
noncomputable def I.WiresOf_t (net : List Int) : Option (Int) := I.WiresOf_tree net (fun d => some d) none
theorem I.WiresOf_den (net : List Int) (κ : V → List E → R) : I.WiresOf_F [.ro false (.ints .i64 net)] [] κ = optC (I.WiresOf_t net) (fun (r : Int) => κ (.int .i64 r) []) none := by
  have hu : I.WiresOf_F [.ro false (.ints .i64 net)] [] κ = I.WiresOf_tree net (fun d => κ (.int .i64 d) []) none := by
    refine Eq.trans (show I.WiresOf_F [.ro false (.ints .i64 net)] [] κ = (optC (I.NetOk_t net) (fun c_1 => (bif !c_1 then (κ (.int .i64 (-1)) []) else (I.WiresOf_L5 FUEL { n := 23, t := [(0, (.ro false (.ints .i64 net))), (3, (.int .i64 0)), (4, (.int .i64 0))], h := [] } (I.WiresOf_k5 κ)))) none) by kernel_rfl) ?_
    refine optC_congr (fun c_1 => ?_)
    refine cnd_congr ?_ ?_
    · kernel_rfl
    · refine (I.WiresOf_L5_run net FUEL (0, 0) (I.WiresOf_k5 κ)).trans (optC_congr (fun qy_3 => ?_))
      kernel_rfl
  rw [hu]
  exact (I.WiresOf_tree_nat (fun o => optC o (fun (r : Int) => κ (.int .i64 r) []) none) net (fun d => some d) none).symm
noncomputable def I.WiresOf_s : D.Spec where
  keep := false
  pure := true
  ds := [.int .i64]
  sp := fun args h κ => match args, h with
    | [.ro false (.ints .i64 net)], [] => optC (I.WiresOf_t net) (fun (r : Int) => κ (.int .i64 r) []) none
    | _, _ => none
theorem I.WiresOf_ok : SpecOk Try.prog 29 I.WiresOf_s := by
  refine SpecOk.of TDok mixed (T := I.WiresOf_T) ?_ (ann := I.WiresOf_ann) Try.func29 rfl (by decide +kernel) ?_ ?_ ?_
  · intro p hp
    simp only [I.WiresOf_T, List.mem_cons, List.not_mem_nil, or_false] at hp
    rcases hp with rfl | rfl
    · exact I.NetOk_ok
    · exact I.sizeOf_ok
  · intro args h κ r hh
    simp only [I.WiresOf_s] at hh
    split at hh
    · exact (I.WiresOf_den _ κ).trans hh
    · cases hh
  · intro args h κ r hh
    simp only [I.WiresOf_s] at hh ⊢
    split at hh
    · exact optC_law2 (F := fun (r : Int) κ => κ (.int .i64 r) []) (fun b κ r hb => ⟨_, _, hb, fun _ => rfl⟩) hh
    · cases hh
  · intro _ args h κ r hh
    simp only [I.WiresOf_s] at hh
    split at hh
    · exact ⟨rfl, fun _ => rfl⟩
    · cases hh

-- loop.example/guardsonnets/laws.FnFewestSecure
noncomputable def L.FnFewestSecure_T : List (Nat × D.Spec) := [(24, S.DrawFewestSecure_s), (25, I.FewestSecure_s), (26, S.FewestSecure_s), (27, I.NetOk_s), (16, L.alive_s), (28, I.FewestWatch_s), (29, I.WiresOf_s)]
def L.FnFewestSecure_ann : Nat → List Nat × List Nat
  | _ => ([], [])
noncomputable def L.FnFewestSecure_F (args : List V) (h : List E) (κ : V → List E → R) : R := funC TD (tableK L.FnFewestSecure_T) L.FnFewestSecure_ann (drawOk (tableP L.FnFewestSecure_T)) FUEL Try.f7 args h κ
noncomputable def L.FnFewestSecure_tree {α : Type} (code : List Int) (leaf0_ : Bool → α) (fail_ : α) : α :=
  (bif decide ((↑code.length : Int) > 1048576) then (leaf0_ true) else (optC (S.DrawFewestSecure_t code) (fun c_1 => (optC (I.FewestSecure_t c_1) (fun c_2 => (optC (S.FewestSecure_t c_1) (fun c_3 => (bif !c_2 == c_3 then (leaf0_ false) else (bif decide (c_2 < 0) then (bif c_2 == -1 then (optC (I.NetOk_t c_1) (fun c_4 => (bif !c_4 then (optC (L.alive_t) (fun c_5 => (leaf0_ c_5)) fail_) else (leaf0_ false))) fail_) else (leaf0_ false)) else (optC (I.FewestWatch_t c_1) (fun c_6 => (bif decide (c_2 ≥ c_6) then (bif decide (c_2 ≤ (↑c_1.length : Int)) then (optC (I.WiresOf_t c_1) (fun c_7 => (leaf0_ ((c_2 == (↑c_1.length : Int)) == (c_7 == 0)))) fail_) else (leaf0_ false)) else (leaf0_ false))) fail_)))) fail_)) fail_)) fail_))
theorem L.FnFewestSecure_tree_nat {α γ : Type} (g : α → γ) (code : List Int) (leaf0_ : Bool → α) (fail_ : α) : g (L.FnFewestSecure_tree code leaf0_ fail_) = L.FnFewestSecure_tree code (fun d => g (leaf0_ d)) (g fail_) := by
  unfold L.FnFewestSecure_tree; simp only [apply_cnd g, apply_optC g, apply_sumC g]
noncomputable def L.FnFewestSecure_t (code : List Int) : Option (Bool) := L.FnFewestSecure_tree code (fun d => some d) none
theorem L.FnFewestSecure_den (code : List Int) (κ : V → List E → R) : L.FnFewestSecure_F [.ro true (.ints .u8 code)] [] κ = optC (L.FnFewestSecure_t code) (fun (r : Bool) => κ (.bool r) []) none := by
  have hu : L.FnFewestSecure_F [.ro true (.ints .u8 code)] [] κ = L.FnFewestSecure_tree code (fun d => κ (.bool d) []) none := by
    kernel_rfl
  rw [hu]
  exact (L.FnFewestSecure_tree_nat (fun o => optC o (fun (r : Bool) => κ (.bool r) []) none) code (fun d => some d) none).symm
noncomputable def L.FnFewestSecure_s : D.Spec where
  keep := true
  pure := true
  ds := [.int .u8]
  sp := fun args h κ => match args, h with
    | [.ro true (.ints .u8 code)], [] => optC (L.FnFewestSecure_t code) (fun (r : Bool) => κ (.bool r) []) none
    | _, _ => none
theorem L.FnFewestSecure_ok : SpecOk Try.prog 7 L.FnFewestSecure_s := by
  refine SpecOk.of TDok mixed (T := L.FnFewestSecure_T) ?_ (ann := L.FnFewestSecure_ann) Try.func7 rfl (by decide +kernel) ?_ ?_ ?_
  · intro p hp
    simp only [L.FnFewestSecure_T, List.mem_cons, List.not_mem_nil, or_false] at hp
    rcases hp with rfl | rfl | rfl | rfl | rfl | rfl | rfl
    · exact S.DrawFewestSecure_ok
    · exact I.FewestSecure_ok
    · exact S.FewestSecure_ok
    · exact I.NetOk_ok
    · exact L.alive_ok
    · exact I.FewestWatch_ok
    · exact I.WiresOf_ok
  · intro args h κ r hh
    simp only [L.FnFewestSecure_s] at hh
    split at hh
    · exact (L.FnFewestSecure_den _ κ).trans hh
    · cases hh
  · intro args h κ r hh
    simp only [L.FnFewestSecure_s] at hh ⊢
    split at hh
    · exact optC_law2 (F := fun (r : Bool) κ => κ (.bool r) []) (fun b κ r hb => ⟨_, _, hb, fun _ => rfl⟩) hh
    · cases hh
  · intro _ args h κ r hh
    simp only [L.FnFewestSecure_s] at hh
    split at hh
    · exact ⟨rfl, fun _ => rfl⟩
    · cases hh

-- loop.example/guardsonnets/laws.FnExactFewestSecure
noncomputable def L.FnExactFewestSecure_T : List (Nat × D.Spec) := [(18, L.toIntS_s), (26, S.FewestSecure_s), (25, I.FewestSecure_s), (19, L.eqIntS_s)]
def L.FnExactFewestSecure_ann : Nat → List Nat × List Nat
  | _ => ([], [])
noncomputable def L.FnExactFewestSecure_F (args : List V) (h : List E) (κ : V → List E → R) : R := funC TD (tableK L.FnExactFewestSecure_T) L.FnExactFewestSecure_ann (drawOk (tableP L.FnExactFewestSecure_T)) FUEL Try.f8 args h κ
noncomputable def L.FnExactFewestSecure_tree {α : Type} (aNet : List Int) (leaf0_ : Bool → α) (fail_ : α) : α :=
  (bif decide ((↑aNet.length : Int) > 1048576) then (leaf0_ true) else (optC (L.toIntS_t aNet) (fun c_1 => (optC (S.FewestSecure_t c_1) (fun c_2 => (optC (L.toIntS_t aNet) (fun c_3 => (optC (I.FewestSecure_t c_3) (fun c_4 => (bif !c_4 == c_2 then (leaf0_ false) else (optC (L.toIntS_t aNet) (fun c_5 => (optC (L.eqIntS_t c_3 c_5) (fun c_6 => (bif !c_6 then (leaf0_ false) else (leaf0_ true))) fail_)) fail_))) fail_)) fail_)) fail_)) fail_))
theorem L.FnExactFewestSecure_tree_nat {α γ : Type} (g : α → γ) (aNet : List Int) (leaf0_ : Bool → α) (fail_ : α) : g (L.FnExactFewestSecure_tree aNet leaf0_ fail_) = L.FnExactFewestSecure_tree aNet (fun d => g (leaf0_ d)) (g fail_) := by
  unfold L.FnExactFewestSecure_tree; simp only [apply_cnd g, apply_optC g, apply_sumC g]
noncomputable def L.FnExactFewestSecure_t (aNet : List Int) : Option (Bool) := L.FnExactFewestSecure_tree aNet (fun d => some d) none
theorem L.FnExactFewestSecure_den (aNet : List Int) (κ : V → List E → R) : L.FnExactFewestSecure_F [.ro true (.ints .i64 aNet)] [] κ = optC (L.FnExactFewestSecure_t aNet) (fun (r : Bool) => κ (.bool r) []) none := by
  have hu : L.FnExactFewestSecure_F [.ro true (.ints .i64 aNet)] [] κ = L.FnExactFewestSecure_tree aNet (fun d => κ (.bool d) []) none := by
    kernel_rfl
  rw [hu]
  exact (L.FnExactFewestSecure_tree_nat (fun o => optC o (fun (r : Bool) => κ (.bool r) []) none) aNet (fun d => some d) none).symm
noncomputable def L.FnExactFewestSecure_s : D.Spec where
  keep := true
  pure := true
  ds := [.int .i64]
  sp := fun args h κ => match args, h with
    | [.ro true (.ints .i64 aNet)], [] => optC (L.FnExactFewestSecure_t aNet) (fun (r : Bool) => κ (.bool r) []) none
    | _, _ => none
theorem L.FnExactFewestSecure_ok : SpecOk Try.prog 8 L.FnExactFewestSecure_s := by
  refine SpecOk.of TDok mixed (T := L.FnExactFewestSecure_T) ?_ (ann := L.FnExactFewestSecure_ann) Try.func8 rfl (by decide +kernel) ?_ ?_ ?_
  · intro p hp
    simp only [L.FnExactFewestSecure_T, List.mem_cons, List.not_mem_nil, or_false] at hp
    rcases hp with rfl | rfl | rfl | rfl
    · exact L.toIntS_ok
    · exact S.FewestSecure_ok
    · exact I.FewestSecure_ok
    · exact L.eqIntS_ok
  · intro args h κ r hh
    simp only [L.FnExactFewestSecure_s] at hh
    split at hh
    · exact (L.FnExactFewestSecure_den _ κ).trans hh
    · cases hh
  · intro args h κ r hh
    simp only [L.FnExactFewestSecure_s] at hh ⊢
    split at hh
    · exact optC_law2 (F := fun (r : Bool) κ => κ (.bool r) []) (fun b κ r hb => ⟨_, _, hb, fun _ => rfl⟩) hh
    · cases hh
  · intro _ args h κ r hh
    simp only [L.FnExactFewestSecure_s] at hh
    split at hh
    · exact ⟨rfl, fun _ => rfl⟩
    · cases hh

-- loop.example/guardsonnets/spec.SeenBy
noncomputable def S.SeenBy_T : List (Nat × D.Spec) := [(48, S.l1SetOk_s), (81, S.l1Near_s)]
def S.SeenBy_ann : Nat → List Nat × List Nat
  | _ => ([], [])
noncomputable def S.SeenBy_F (args : List V) (h : List E) (κ : V → List E → R) : R := funC TD (tableK S.SeenBy_T) S.SeenBy_ann (drawOk (tableP S.SeenBy_T)) FUEL Try.f91 args h κ
noncomputable def S.SeenBy_tree {α : Type} (net : List Int) (set_ : Int) (leaf0_ : Int → α) (fail_ : α) : α :=
  (optC (S.l1SetOk_t net set_) (fun c_1 => (bif !c_1 then (leaf0_ (-1)) else (optC (S.l1Near_t net set_) (fun c_2 => (leaf0_ (bits BinOp.or IntKind.i64 set_ c_2))) fail_))) fail_)
theorem S.SeenBy_tree_nat {α γ : Type} (g : α → γ) (net : List Int) (set_ : Int) (leaf0_ : Int → α) (fail_ : α) : g (S.SeenBy_tree net set_ leaf0_ fail_) = S.SeenBy_tree net set_ (fun d => g (leaf0_ d)) (g fail_) := by
  unfold S.SeenBy_tree; simp only [apply_cnd g, apply_optC g, apply_sumC g]
noncomputable def S.SeenBy_t (net : List Int) (set_ : Int) : Option (Int) := S.SeenBy_tree net set_ (fun d => some d) none
theorem S.SeenBy_den (net : List Int) (set_ : Int) (κ : V → List E → R) : S.SeenBy_F [.ro false (.ints .i64 net), .int .i64 set_] [] κ = optC (S.SeenBy_t net set_) (fun (r : Int) => κ (.int .i64 r) []) none := by
  have hu : S.SeenBy_F [.ro false (.ints .i64 net), .int .i64 set_] [] κ = S.SeenBy_tree net set_ (fun d => κ (.int .i64 d) []) none := by
    kernel_rfl
  rw [hu]
  exact (S.SeenBy_tree_nat (fun o => optC o (fun (r : Int) => κ (.int .i64 r) []) none) net set_ (fun d => some d) none).symm
noncomputable def S.SeenBy_s : D.Spec where
  keep := false
  pure := true
  ds := [.int .i64, .invalid]
  sp := fun args h κ => match args, h with
    | [.ro false (.ints .i64 net), .int .i64 set_], [] => optC (S.SeenBy_t net set_) (fun (r : Int) => κ (.int .i64 r) []) none
    | _, _ => none
theorem S.SeenBy_ok : SpecOk Try.prog 91 S.SeenBy_s := by
  refine SpecOk.of TDok mixed (T := S.SeenBy_T) ?_ (ann := S.SeenBy_ann) Try.func91 rfl (by decide +kernel) ?_ ?_ ?_
  · intro p hp
    simp only [S.SeenBy_T, List.mem_cons, List.not_mem_nil, or_false] at hp
    rcases hp with rfl | rfl
    · exact S.l1SetOk_ok
    · exact S.l1Near_ok
  · intro args h κ r hh
    simp only [S.SeenBy_s] at hh
    split at hh
    · exact (S.SeenBy_den _ _ κ).trans hh
    · cases hh
  · intro args h κ r hh
    simp only [S.SeenBy_s] at hh ⊢
    split at hh
    · exact optC_law2 (F := fun (r : Int) κ => κ (.int .i64 r) []) (fun b κ r hb => ⟨_, _, hb, fun _ => rfl⟩) hh
    · cases hh
  · intro _ args h κ r hh
    simp only [S.SeenBy_s] at hh
    split at hh
    · exact ⟨rfl, fun _ => rfl⟩
    · cases hh

-- loop.example/guardsonnets/spec.RowOfSet
noncomputable def S.RowOfSet_T : List (Nat × D.Spec) := [(48, S.l1SetOk_s), (91, S.SeenBy_s)]
def S.RowOfSet_ann : Nat → List Nat × List Nat
  | 6 => ([0, 1, 5, 6, 7], [5])
  | _ => ([], [])
noncomputable def S.RowOfSet_F (args : List V) (h : List E) (κ : V → List E → R) : R := funC TD (tableK S.RowOfSet_T) S.RowOfSet_ann (drawOk (tableP S.RowOfSet_T)) FUEL Try.f84 args h κ
noncomputable def S.RowOfSet_L6 (n : Nat) (σ : St) (k : X → St → R) : R := iterC 0 (fun σ k => denC TD (tableK S.RowOfSet_T) S.RowOfSet_ann (drawOk (tableP S.RowOfSet_T)) 0 FUEL ((findLoop 6 (Try.f84.body.getD .skip)).getD .skip) σ k) [0, 1, 5, 6, 7] [5] n σ k
noncomputable def S.RowOfSet_k6 (κ : V → List E → R) : X → St → R := (afterC TD (tableK S.RowOfSet_T) S.RowOfSet_ann (drawOk (tableP S.RowOfSet_T)) 0 FUEL 6 (Try.f84.body.getD .skip) (finC TD 0 Try.f84 κ)).getD (fun _ _ => none)
noncomputable def S.RowOfSet_step6 {α : Type} (x0 : List Int) (x1 : Int) (x6 : Int) (x7 : Int) (r0 : List Int) (next_ : Int × (List Int) → α) (out0_ : List Int → α) (fail_ : α) : α :=
  (bif decide (x7 < (↑x0.length : Int)) then (bif decide (x7 < 0) then fail_ else (bif decide (x7 < 0) then fail_ else (bif small (r0 ++ [IntKind.i64.wrap (IntKind.i64.wrap (1 - (x6.fdiv (2 ^ min x7.toNat IntKind.i64.bits)).tmod 2) + IntKind.i64.wrap (2 * (x1.fdiv (2 ^ min x7.toNat IntKind.i64.bits)).tmod 2))]).length then (next_ (IntKind.i64.wrap (x7 + 1), r0 ++ [IntKind.i64.wrap (IntKind.i64.wrap (1 - (x6.fdiv (2 ^ min x7.toNat IntKind.i64.bits)).tmod 2) + IntKind.i64.wrap (2 * (x1.fdiv (2 ^ min x7.toNat IntKind.i64.bits)).tmod 2))])) else fail_))) else (out0_ r0))
theorem S.RowOfSet_step6_nat {α γ : Type} (g : α → γ) (x0 : List Int) (x1 : Int) (x6 : Int) (x7 : Int) (r0 : List Int) (next_ : Int × (List Int) → α) (out0_ : List Int → α) (fail_ : α) : g (S.RowOfSet_step6 x0 x1 x6 x7 r0 next_ out0_ fail_) = S.RowOfSet_step6 x0 x1 x6 x7 r0 (fun s => g (next_ s)) (fun d => g (out0_ d)) (g fail_) := by
  unfold S.RowOfSet_step6; simp only [apply_cnd g, apply_optC g, apply_sumC g]
noncomputable def S.RowOfSet_run6 (x0 : List Int) (x1 : Int) (x6 : Int) : Nat → Int × (List Int) → Option (List Int)
  | 0, _ => none
  | n + 1, s_ => S.RowOfSet_step6 x0 x1 x6 s_.1 s_.2 (S.RowOfSet_run6 x0 x1 x6 n) (fun d => some d) none
theorem S.RowOfSet_L6_run (x0 : List Int) (x1 : Int) (x6 : Int) (n : Nat) (s_ : Int × (List Int)) (k : X → St → R) : S.RowOfSet_L6 n { n := 38, t := [(0, (.ro false (.ints .i64 x0))), (1, (.int .i64 x1)), (5, (.own 0)), (6, (.int .i64 x6)), (7, (.int .i64 s_.1))], h := [.row (.ints .i64 s_.2)] } k = optC (S.RowOfSet_run6 x0 x1 x6 n s_) (fun (r : List Int) => k (.exit 0) { n := 38, t := [(5, (.own 0))], h := [.row (.ints .i64 r)] }) none := by
  induction n generalizing s_ with
  | zero => rfl
  | succ n ih =>
    have hu : S.RowOfSet_L6 (n + 1) { n := 38, t := [(0, (.ro false (.ints .i64 x0))), (1, (.int .i64 x1)), (5, (.own 0)), (6, (.int .i64 x6)), (7, (.int .i64 s_.1))], h := [.row (.ints .i64 s_.2)] } k = S.RowOfSet_step6 x0 x1 x6 s_.1 s_.2 (fun s_ => S.RowOfSet_L6 n { n := 38, t := [(0, (.ro false (.ints .i64 x0))), (1, (.int .i64 x1)), (5, (.own 0)), (6, (.int .i64 x6)), (7, (.int .i64 s_.1))], h := [.row (.ints .i64 s_.2)] } k) (fun d => k (.exit 0) { n := 38, t := [(5, (.own 0))], h := [.row (.ints .i64 d)] }) none := by
      kernel_rfl
    have hs : (fun s_ : Int × (List Int) => S.RowOfSet_L6 n { n := 38, t := [(0, (.ro false (.ints .i64 x0))), (1, (.int .i64 x1)), (5, (.own 0)), (6, (.int .i64 x6)), (7, (.int .i64 s_.1))], h := [.row (.ints .i64 s_.2)] } k) = fun s_ => optC (S.RowOfSet_run6 x0 x1 x6 n s_) (fun (r : List Int) => k (.exit 0) { n := 38, t := [(5, (.own 0))], h := [.row (.ints .i64 r)] }) none := funext ih
    rw [hu, hs]
    exact (S.RowOfSet_step6_nat (fun o => optC o (fun (r : List Int) => k (.exit 0) { n := 38, t := [(5, (.own 0))], h := [.row (.ints .i64 r)] }) none) x0 x1 x6 s_.1 s_.2 (S.RowOfSet_run6 x0 x1 x6 n) (fun d => some d) none).symm
noncomputable def S.RowOfSet_tree {α : Type} (net : List Int) (set_ : Int) (leaf0_ : List Int → α) (fail_ : α) : α :=
  (optC (S.l1SetOk_t net set_) (fun c_1 => (bif !c_1 then (leaf0_ ([])) else (optC (S.SeenBy_t net set_) (fun c_2 => (optC (S.RowOfSet_run6 net set_ c_2 FUEL (0, [])) (fun qy_3 => (leaf0_ qy_3)) fail_)) fail_))) fail_)
theorem S.RowOfSet_tree_nat {α γ : Type} (g : α → γ) (net : List Int) (set_ : Int) (leaf0_ : List Int → α) (fail_ : α) : g (S.RowOfSet_tree net set_ leaf0_ fail_) = S.RowOfSet_tree net set_ (fun d => g (leaf0_ d)) (g fail_) := by
  unfold S.RowOfSet_tree; simp only [apply_cnd g, apply_optC g, apply_sumC g]
noncomputable def S.RowOfSet_t (net : List Int) (set_ : Int) : Option (List Int) := S.RowOfSet_tree net set_ (fun d => some d) none
theorem S.RowOfSet_den (net : List Int) (set_ : Int) (κ : V → List E → R) : S.RowOfSet_F [.ro false (.ints .i64 net), .int .i64 set_] [] κ = optC (S.RowOfSet_t net set_) (fun (r : List Int) => κ (.own 0) [.row (.ints .i64 r)]) none := by
  have hu : S.RowOfSet_F [.ro false (.ints .i64 net), .int .i64 set_] [] κ = S.RowOfSet_tree net set_ (fun d => κ (.own 0) [.row (.ints .i64 d)]) none := by
    refine Eq.trans (show S.RowOfSet_F [.ro false (.ints .i64 net), .int .i64 set_] [] κ = (optC (S.l1SetOk_t net set_) (fun c_1 => (bif !c_1 then (κ (.own 0) [.row (.ints .i64 ([]))]) else (optC (S.SeenBy_t net set_) (fun c_2 => (S.RowOfSet_L6 FUEL { n := 38, t := [(0, (.ro false (.ints .i64 net))), (1, (.int .i64 set_)), (5, (.own 0)), (6, (.int .i64 c_2)), (7, (.int .i64 0))], h := [.row (.ints .i64 ([]))] } (S.RowOfSet_k6 κ))) none))) none) by kernel_rfl) ?_
    refine optC_congr (fun c_1 => ?_)
    refine cnd_congr ?_ ?_
    · kernel_rfl
    · refine optC_congr (fun c_2 => ?_)
      refine (S.RowOfSet_L6_run net set_ c_2 FUEL (0, []) (S.RowOfSet_k6 κ)).trans (optC_congr (fun qy_3 => ?_))
      kernel_rfl
  rw [hu]
  exact (S.RowOfSet_tree_nat (fun o => optC o (fun (r : List Int) => κ (.own 0) [.row (.ints .i64 r)]) none) net set_ (fun d => some d) none).symm
noncomputable def S.RowOfSet_s : D.Spec where
  keep := false
  pure := false
  ds := [.int .i64, .invalid]
  sp := fun args h κ => match args, h with
    | [.ro false (.ints .i64 net), .int .i64 set_], [] => optC (S.RowOfSet_t net set_) (fun (r : List Int) => κ (.own 0) [.row (.ints .i64 r)]) none
    | _, _ => none
theorem S.RowOfSet_ok : SpecOk Try.prog 84 S.RowOfSet_s := by
  refine SpecOk.of TDok mixed (T := S.RowOfSet_T) ?_ (ann := S.RowOfSet_ann) Try.func84 rfl (by decide +kernel) ?_ ?_ ?_
  · intro p hp
    simp only [S.RowOfSet_T, List.mem_cons, List.not_mem_nil, or_false] at hp
    rcases hp with rfl | rfl
    · exact S.l1SetOk_ok
    · exact S.SeenBy_ok
  · intro args h κ r hh
    simp only [S.RowOfSet_s] at hh
    split at hh
    · exact (S.RowOfSet_den _ _ κ).trans hh
    · cases hh
  · intro args h κ r hh
    simp only [S.RowOfSet_s] at hh ⊢
    split at hh
    · exact optC_law2 (F := fun (r : List Int) κ => κ (.own 0) [.row (.ints .i64 r)]) (fun b κ r hb => ⟨_, _, hb, fun _ => rfl⟩) hh
    · cases hh
  · intro hh; cases hh

-- loop.example/guardsonnets/spec.l20Row
noncomputable def S.l20Row_T : List (Nat × D.Spec) := [(76, S.l20Set_s), (42, S.NetOk_s), (41, S.l20Rd_pick_s), (84, S.RowOfSet_s)]
def S.l20Row_ann : Nat → List Nat × List Nat
  | 9 => ([0, 6, 9, 10], [0, 6, 9])
  | _ => ([], [])
noncomputable def S.l20Row_F (args : List V) (h : List E) (κ : V → List E → R) : R := funC TD (tableK S.l20Row_T) S.l20Row_ann (drawOk (tableP S.l20Row_T)) FUEL Try.f63 args h κ
noncomputable def S.l20Row_L9 (n : Nat) (σ : St) (k : X → St → R) : R := iterC 1 (fun σ k => denC TD (tableK S.l20Row_T) S.l20Row_ann (drawOk (tableP S.l20Row_T)) 1 FUEL ((findLoop 9 (Try.f63.body.getD .skip)).getD .skip) σ k) [0, 6, 9, 10] [0, 6, 9] n σ k
noncomputable def S.l20Row_k9 (κ : V → List E → R) : X → St → R := (afterC TD (tableK S.l20Row_T) S.l20Row_ann (drawOk (tableP S.l20Row_T)) 1 FUEL 9 (Try.f63.body.getD .skip) (finC TD 1 Try.f63 κ)).getD (fun _ _ => none)
noncomputable def S.l20Row_step9 {α : Type} (x10 : Int) (r0_0 : List Int) (r0_1 : Int) (r1 : List Int) (r2 : List Int) (next_ : Int × (List Int) × Int × (List Int) × (List Int) → α) (out0_ : (List Int) × Int × (List Int) × (List Int) → α) (fail_ : α) : α :=
  (bif decide (x10 < (↑r1.length : Int)) then (optC (S.l20Rd_pick_t r0_0 r0_1 3) (fun c_8 => (optC (S.l20Rd_pick_t c_8.snd.fst c_8.snd.snd 30) (fun c_9 => (optC (S.l20Rd_pick_t c_9.snd.fst c_9.snd.snd 40) (fun c_10 => (bif small (r2 ++ [IntKind.i64.wrap (IntKind.i64.wrap (c_8.fst + IntKind.i64.wrap (IntKind.i64.wrap (c_9.fst.tdiv 29) * 2)) - IntKind.i64.wrap (c_10.fst.tdiv 39))]).length then (next_ (IntKind.i64.wrap (x10 + 1), c_10.snd.fst, c_10.snd.snd, r1, r2 ++ [IntKind.i64.wrap (IntKind.i64.wrap (c_8.fst + IntKind.i64.wrap (IntKind.i64.wrap (c_9.fst.tdiv 29) * 2)) - IntKind.i64.wrap (c_10.fst.tdiv 39))])) else fail_)) fail_)) fail_)) fail_) else (out0_ (r0_0, r0_1, r1, r2)))
theorem S.l20Row_step9_nat {α γ : Type} (g : α → γ) (x10 : Int) (r0_0 : List Int) (r0_1 : Int) (r1 : List Int) (r2 : List Int) (next_ : Int × (List Int) × Int × (List Int) × (List Int) → α) (out0_ : (List Int) × Int × (List Int) × (List Int) → α) (fail_ : α) : g (S.l20Row_step9 x10 r0_0 r0_1 r1 r2 next_ out0_ fail_) = S.l20Row_step9 x10 r0_0 r0_1 r1 r2 (fun s => g (next_ s)) (fun d => g (out0_ d)) (g fail_) := by
  unfold S.l20Row_step9; simp only [apply_cnd g, apply_optC g, apply_sumC g]
noncomputable def S.l20Row_run9 : Nat → Int × (List Int) × Int × (List Int) × (List Int) → Option ((List Int) × Int × (List Int) × (List Int))
  | 0, _ => none
  | n + 1, s_ => S.l20Row_step9 s_.1 s_.2.1 s_.2.2.1 s_.2.2.2.1 s_.2.2.2.2 (S.l20Row_run9 n) (fun d => some d) none
theorem S.l20Row_L9_run (n : Nat) (s_ : Int × (List Int) × Int × (List Int) × (List Int)) (k : X → St → R) : S.l20Row_L9 n { n := 73, t := [(0, (.ptr 0 0)), (6, (.own 1)), (9, (.own 2)), (10, (.int .i64 s_.1))], h := [.cells [(.ro true (.ints .u8 s_.2.1)), (.int .i64 s_.2.2.1)], .row (.ints .i64 s_.2.2.2.1), .row (.ints .i64 s_.2.2.2.2)] } k = optC (S.l20Row_run9 n s_) (fun (r : (List Int) × Int × (List Int) × (List Int)) => k (.exit 0) { n := 73, t := [(0, (.ptr 0 0)), (6, (.own 1)), (9, (.own 2))], h := [.cells [(.ro true (.ints .u8 r.1)), (.int .i64 r.2.1)], .row (.ints .i64 r.2.2.1), .row (.ints .i64 r.2.2.2)] }) none := by
  induction n generalizing s_ with
  | zero => rfl
  | succ n ih =>
    have hu : S.l20Row_L9 (n + 1) { n := 73, t := [(0, (.ptr 0 0)), (6, (.own 1)), (9, (.own 2)), (10, (.int .i64 s_.1))], h := [.cells [(.ro true (.ints .u8 s_.2.1)), (.int .i64 s_.2.2.1)], .row (.ints .i64 s_.2.2.2.1), .row (.ints .i64 s_.2.2.2.2)] } k = S.l20Row_step9 s_.1 s_.2.1 s_.2.2.1 s_.2.2.2.1 s_.2.2.2.2 (fun s_ => S.l20Row_L9 n { n := 73, t := [(0, (.ptr 0 0)), (6, (.own 1)), (9, (.own 2)), (10, (.int .i64 s_.1))], h := [.cells [(.ro true (.ints .u8 s_.2.1)), (.int .i64 s_.2.2.1)], .row (.ints .i64 s_.2.2.2.1), .row (.ints .i64 s_.2.2.2.2)] } k) (fun d => k (.exit 0) { n := 73, t := [(0, (.ptr 0 0)), (6, (.own 1)), (9, (.own 2))], h := [.cells [(.ro true (.ints .u8 d.1)), (.int .i64 d.2.1)], .row (.ints .i64 d.2.2.1), .row (.ints .i64 d.2.2.2)] }) none := by
      kernel_rfl
    have hs : (fun s_ : Int × (List Int) × Int × (List Int) × (List Int) => S.l20Row_L9 n { n := 73, t := [(0, (.ptr 0 0)), (6, (.own 1)), (9, (.own 2)), (10, (.int .i64 s_.1))], h := [.cells [(.ro true (.ints .u8 s_.2.1)), (.int .i64 s_.2.2.1)], .row (.ints .i64 s_.2.2.2.1), .row (.ints .i64 s_.2.2.2.2)] } k) = fun s_ => optC (S.l20Row_run9 n s_) (fun (r : (List Int) × Int × (List Int) × (List Int)) => k (.exit 0) { n := 73, t := [(0, (.ptr 0 0)), (6, (.own 1)), (9, (.own 2))], h := [.cells [(.ro true (.ints .u8 r.1)), (.int .i64 r.2.1)], .row (.ints .i64 r.2.2.1), .row (.ints .i64 r.2.2.2)] }) none := funext ih
    rw [hu, hs]
    exact (S.l20Row_step9_nat (fun o => optC o (fun (r : (List Int) × Int × (List Int) × (List Int)) => k (.exit 0) { n := 73, t := [(0, (.ptr 0 0)), (6, (.own 1)), (9, (.own 2))], h := [.cells [(.ro true (.ints .u8 r.1)), (.int .i64 r.2.1)], .row (.ints .i64 r.2.2.1), .row (.ints .i64 r.2.2.2)] }) none) s_.1 s_.2.1 s_.2.2.1 s_.2.2.2.1 s_.2.2.2.2 (S.l20Row_run9 n) (fun d => some d) none).symm
noncomputable def S.l20Row_tree {α : Type} (rb : List Int) (rp : Int) (n_ : Int) (leaf0_ : (List Int) × Int × (List Int) × (List Int) → α) (fail_ : α) : α :=
  (optC (S.l20Set_t rb rp n_) (fun c_1 => (optC (S.NetOk_t c_1.snd.snd.snd) (fun c_2 => (bif c_2 then (optC (S.l20Rd_pick_t c_1.snd.fst c_1.snd.snd.fst 3) (fun c_3 => (bif decide (c_3.fst > 0) then (bif IntKind.i64.wrap (1 * 2 ^ min (↑c_1.snd.snd.snd.length : Int).toNat IntKind.i64.bits) == 0 then fail_ else (optC (S.RowOfSet_t c_1.snd.snd.snd (c_1.fst.tmod (IntKind.i64.wrap (1 * 2 ^ min (↑c_1.snd.snd.snd.length : Int).toNat IntKind.i64.bits)))) (fun c_4 => (optC (S.l20Rd_pick_t c_3.snd.fst c_3.snd.snd 3) (fun c_5 => (bif c_5.fst == 0 then (optC (S.l20Rd_pick_t c_5.snd.fst c_5.snd.snd (↑c_4.length : Int)) (fun c_6 => (optC (S.l20Rd_pick_t c_6.snd.fst c_6.snd.snd 3) (fun c_7 => (bif decide (0 ≤ c_6.fst) && decide (c_6.fst < (↑c_4.length : Int)) then (bif decide (c_6.fst.toNat < c_4.length) then (leaf0_ (c_7.snd.fst, c_7.snd.snd, c_1.snd.snd.snd, c_4.set c_6.fst.toNat c_7.fst)) else fail_) else fail_)) fail_)) fail_) else (leaf0_ (c_5.snd.fst, c_5.snd.snd, c_1.snd.snd.snd, c_4)))) fail_)) fail_)) else (optC (S.l20Row_run9 FUEL (0, c_3.snd.fst, c_3.snd.snd, c_1.snd.snd.snd, [])) (fun qy_11 => (optC (S.l20Rd_pick_t qy_11.1 qy_11.2.1 15) (fun c_12 => (bif c_12.fst == 0 then (bif small (qy_11.2.2.2 ++ [2]).length then (leaf0_ (c_12.snd.fst, c_12.snd.snd, qy_11.2.2.1, qy_11.2.2.2 ++ [2])) else fail_) else (leaf0_ (c_12.snd.fst, c_12.snd.snd, qy_11.2.2.1, qy_11.2.2.2)))) fail_)) fail_))) fail_) else (optC (S.l20Row_run9 FUEL (0, c_1.snd.fst, c_1.snd.snd.fst, c_1.snd.snd.snd, [])) (fun qy_13 => (optC (S.l20Rd_pick_t qy_13.1 qy_13.2.1 15) (fun c_14 => (bif c_14.fst == 0 then (bif small (qy_13.2.2.2 ++ [2]).length then (leaf0_ (c_14.snd.fst, c_14.snd.snd, qy_13.2.2.1, qy_13.2.2.2 ++ [2])) else fail_) else (leaf0_ (c_14.snd.fst, c_14.snd.snd, qy_13.2.2.1, qy_13.2.2.2)))) fail_)) fail_))) fail_)) fail_)
theorem S.l20Row_tree_nat {α γ : Type} (g : α → γ) (rb : List Int) (rp : Int) (n_ : Int) (leaf0_ : (List Int) × Int × (List Int) × (List Int) → α) (fail_ : α) : g (S.l20Row_tree rb rp n_ leaf0_ fail_) = S.l20Row_tree rb rp n_ (fun d => g (leaf0_ d)) (g fail_) := by
  unfold S.l20Row_tree; simp only [apply_cnd g, apply_optC g, apply_sumC g]
noncomputable def S.l20Row_t (rb : List Int) (rp : Int) (n_ : Int) : Option ((List Int) × Int × (List Int) × (List Int)) := S.l20Row_tree rb rp n_ (fun d => some d) none
theorem S.l20Row_den (rb : List Int) (rp : Int) (n_ : Int) (κ : V → List E → R) : S.l20Row_F [.ptr 0 0, .int .i64 n_] [.cells [.ro true (.ints .u8 rb), .int .i64 rp]] κ = optC (S.l20Row_t rb rp n_) (fun (r : (List Int) × Int × (List Int) × (List Int)) => κ (.tup [(.own 1), (.own 2)]) [.cells [(.ro true (.ints .u8 r.1)), (.int .i64 r.2.1)], .row (.ints .i64 r.2.2.1), .row (.ints .i64 r.2.2.2)]) none := by
  have hu : S.l20Row_F [.ptr 0 0, .int .i64 n_] [.cells [.ro true (.ints .u8 rb), .int .i64 rp]] κ = S.l20Row_tree rb rp n_ (fun d => κ (.tup [(.own 1), (.own 2)]) [.cells [(.ro true (.ints .u8 d.1)), (.int .i64 d.2.1)], .row (.ints .i64 d.2.2.1), .row (.ints .i64 d.2.2.2)]) none := by
    refine Eq.trans (show S.l20Row_F [.ptr 0 0, .int .i64 n_] [.cells [.ro true (.ints .u8 rb), .int .i64 rp]] κ = (optC (S.l20Set_t rb rp n_) (fun c_1 => (optC (S.NetOk_t c_1.snd.snd.snd) (fun c_2 => (bif c_2 then (optC (S.l20Rd_pick_t c_1.snd.fst c_1.snd.snd.fst 3) (fun c_3 => (bif decide (c_3.fst > 0) then (bif IntKind.i64.wrap (1 * 2 ^ min (↑c_1.snd.snd.snd.length : Int).toNat IntKind.i64.bits) == 0 then none else (optC (S.RowOfSet_t c_1.snd.snd.snd (c_1.fst.tmod (IntKind.i64.wrap (1 * 2 ^ min (↑c_1.snd.snd.snd.length : Int).toNat IntKind.i64.bits)))) (fun c_4 => (optC (S.l20Rd_pick_t c_3.snd.fst c_3.snd.snd 3) (fun c_5 => (bif c_5.fst == 0 then (optC (S.l20Rd_pick_t c_5.snd.fst c_5.snd.snd (↑c_4.length : Int)) (fun c_6 => (optC (S.l20Rd_pick_t c_6.snd.fst c_6.snd.snd 3) (fun c_7 => (bif decide (0 ≤ c_6.fst) && decide (c_6.fst < (↑c_4.length : Int)) then (bif decide (c_6.fst.toNat < c_4.length) then (κ (.tup [(.own 1), (.own 2)]) [.cells [(.ro true (.ints .u8 c_7.snd.fst)), (.int .i64 c_7.snd.snd)], .row (.ints .i64 c_1.snd.snd.snd), .row (.ints .i64 (c_4.set c_6.fst.toNat c_7.fst))]) else none) else none)) none)) none) else (κ (.tup [(.own 1), (.own 2)]) [.cells [(.ro true (.ints .u8 c_5.snd.fst)), (.int .i64 c_5.snd.snd)], .row (.ints .i64 c_1.snd.snd.snd), .row (.ints .i64 c_4)]))) none)) none)) else (S.l20Row_L9 FUEL { n := 73, t := [(0, (.ptr 0 0)), (6, (.own 1)), (9, (.own 2)), (10, (.int .i64 0))], h := [.cells [(.ro true (.ints .u8 c_3.snd.fst)), (.int .i64 c_3.snd.snd)], .row (.ints .i64 c_1.snd.snd.snd), .row (.ints .i64 ([]))] } (S.l20Row_k9 κ)))) none) else (S.l20Row_L9 FUEL { n := 73, t := [(0, (.ptr 0 0)), (6, (.own 1)), (9, (.own 2)), (10, (.int .i64 0))], h := [.cells [(.ro true (.ints .u8 c_1.snd.fst)), (.int .i64 c_1.snd.snd.fst)], .row (.ints .i64 c_1.snd.snd.snd), .row (.ints .i64 ([]))] } (S.l20Row_k9 κ)))) none)) none) by kernel_rfl) ?_
    refine optC_congr (fun c_1 => ?_)
    refine optC_congr (fun c_2 => ?_)
    refine cnd_congr ?_ ?_
    · refine optC_congr (fun c_3 => ?_)
      refine cnd_congr ?_ ?_
      · kernel_rfl
      · refine (S.l20Row_L9_run FUEL (0, c_3.snd.fst, c_3.snd.snd, c_1.snd.snd.snd, []) (S.l20Row_k9 κ)).trans (optC_congr (fun qy_11 => ?_))
        kernel_rfl
    · refine (S.l20Row_L9_run FUEL (0, c_1.snd.fst, c_1.snd.snd.fst, c_1.snd.snd.snd, []) (S.l20Row_k9 κ)).trans (optC_congr (fun qy_13 => ?_))
      kernel_rfl
  rw [hu]
  exact (S.l20Row_tree_nat (fun o => optC o (fun (r : (List Int) × Int × (List Int) × (List Int)) => κ (.tup [(.own 1), (.own 2)]) [.cells [(.ro true (.ints .u8 r.1)), (.int .i64 r.2.1)], .row (.ints .i64 r.2.2.1), .row (.ints .i64 r.2.2.2)]) none) rb rp n_ (fun d => some d) none).symm
noncomputable def S.l20Row_s : D.Spec where
  keep := false
  pure := false
  ds := [.invalid, .invalid]
  sp := fun args h κ => match args, h with
    | [.ptr 0 0, .int .i64 n_], [.cells [.ro true (.ints .u8 rb), .int .i64 rp]] => optC (S.l20Row_t rb rp n_) (fun (r : (List Int) × Int × (List Int) × (List Int)) => κ (.tup [(.own 1), (.own 2)]) [.cells [(.ro true (.ints .u8 r.1)), (.int .i64 r.2.1)], .row (.ints .i64 r.2.2.1), .row (.ints .i64 r.2.2.2)]) none
    | _, _ => none
theorem S.l20Row_ok : SpecOk Try.prog 63 S.l20Row_s := by
  refine SpecOk.of TDok mixed (T := S.l20Row_T) ?_ (ann := S.l20Row_ann) Try.func63 rfl (by decide +kernel) ?_ ?_ ?_
  · intro p hp
    simp only [S.l20Row_T, List.mem_cons, List.not_mem_nil, or_false] at hp
    rcases hp with rfl | rfl | rfl | rfl
    · exact S.l20Set_ok
    · exact S.NetOk_ok
    · exact S.l20Rd_pick_ok
    · exact S.RowOfSet_ok
  · intro args h κ r hh
    simp only [S.l20Row_s] at hh
    split at hh
    · exact (S.l20Row_den _ _ _ κ).trans hh
    · cases hh
  · intro args h κ r hh
    simp only [S.l20Row_s] at hh ⊢
    split at hh
    · exact optC_law2 (F := fun (r : (List Int) × Int × (List Int) × (List Int)) κ => κ (.tup [(.own 1), (.own 2)]) [.cells [(.ro true (.ints .u8 r.1)), (.int .i64 r.2.1)], .row (.ints .i64 r.2.2.1), .row (.ints .i64 r.2.2.2)]) (fun b κ r hb => ⟨_, _, hb, fun _ => rfl⟩) hh
    · cases hh
  · intro hh; cases hh

-- loop.example/guardsonnets/spec.DrawWeakOk
noncomputable def S.DrawWeakOk_T : List (Nat × D.Spec) := [(39, S.l20Open_s), (41, S.l20Rd_pick_s), (63, S.l20Row_s), (40, S.l20Guarded_s)]
def S.DrawWeakOk_ann : Nat → List Nat × List Nat
  | 7 => ([5, 6, 7, 8], [5, 7])
  | _ => ([], [])
noncomputable def S.DrawWeakOk_F (args : List V) (h : List E) (κ : V → List E → R) : R := funC TD (tableK S.DrawWeakOk_T) S.DrawWeakOk_ann (drawOk (tableP S.DrawWeakOk_T)) FUEL Try.f30 args h κ
noncomputable def S.DrawWeakOk_L7 (n : Nat) (σ : St) (k : X → St → R) : R := iterC 0 (fun σ k => denC TD (tableK S.DrawWeakOk_T) S.DrawWeakOk_ann (drawOk (tableP S.DrawWeakOk_T)) 0 FUEL ((findLoop 7 (Try.f30.body.getD .skip)).getD .skip) σ k) [5, 6, 7, 8] [5, 7] n σ k
noncomputable def S.DrawWeakOk_k7 (κ : V → List E → R) : X → St → R := (afterC TD (tableK S.DrawWeakOk_T) S.DrawWeakOk_ann (drawOk (tableP S.DrawWeakOk_T)) 0 FUEL 7 (Try.f30.body.getD .skip) (finC TD 0 Try.f30 κ)).getD (fun _ _ => none)
noncomputable def S.DrawWeakOk_step7 {α : Type} (x6 : Int) (x8 : Int) (r0 : List Int) (r1 : List Int) (next_ : Int × (List Int) × (List Int) → α) (out0_ : (List Int) × (List Int) → α) (fail_ : α) : α :=
  (bif decide (x8 < (↑r0.length : Int)) then (bif decide (x8 < 0) then fail_ else (bif small (r1 ++ [(x6.fdiv (2 ^ min x8.toNat IntKind.i64.bits)).tmod 2]).length then (next_ (IntKind.i64.wrap (x8 + 1), r0, r1 ++ [(x6.fdiv (2 ^ min x8.toNat IntKind.i64.bits)).tmod 2])) else fail_)) else (out0_ (r0, r1)))
theorem S.DrawWeakOk_step7_nat {α γ : Type} (g : α → γ) (x6 : Int) (x8 : Int) (r0 : List Int) (r1 : List Int) (next_ : Int × (List Int) × (List Int) → α) (out0_ : (List Int) × (List Int) → α) (fail_ : α) : g (S.DrawWeakOk_step7 x6 x8 r0 r1 next_ out0_ fail_) = S.DrawWeakOk_step7 x6 x8 r0 r1 (fun s => g (next_ s)) (fun d => g (out0_ d)) (g fail_) := by
  unfold S.DrawWeakOk_step7; simp only [apply_cnd g, apply_optC g, apply_sumC g]
noncomputable def S.DrawWeakOk_run7 (x6 : Int) : Nat → Int × (List Int) × (List Int) → Option ((List Int) × (List Int))
  | 0, _ => none
  | n + 1, s_ => S.DrawWeakOk_step7 x6 s_.1 s_.2.1 s_.2.2 (S.DrawWeakOk_run7 x6 n) (fun d => some d) none
theorem S.DrawWeakOk_L7_run (x6 : Int) (n : Nat) (s_ : Int × (List Int) × (List Int)) (k : X → St → R) : S.DrawWeakOk_L7 n { n := 39, t := [(5, (.own 0)), (6, (.int .i64 x6)), (7, (.own 1)), (8, (.int .i64 s_.1))], h := [.row (.ints .i64 s_.2.1), .row (.ints .i64 s_.2.2)] } k = optC (S.DrawWeakOk_run7 x6 n s_) (fun (r : (List Int) × (List Int)) => k (.exit 0) { n := 39, t := [(5, (.own 0)), (7, (.own 1))], h := [.row (.ints .i64 r.1), .row (.ints .i64 r.2)] }) none := by
  induction n generalizing s_ with
  | zero => rfl
  | succ n ih =>
    have hu : S.DrawWeakOk_L7 (n + 1) { n := 39, t := [(5, (.own 0)), (6, (.int .i64 x6)), (7, (.own 1)), (8, (.int .i64 s_.1))], h := [.row (.ints .i64 s_.2.1), .row (.ints .i64 s_.2.2)] } k = S.DrawWeakOk_step7 x6 s_.1 s_.2.1 s_.2.2 (fun s_ => S.DrawWeakOk_L7 n { n := 39, t := [(5, (.own 0)), (6, (.int .i64 x6)), (7, (.own 1)), (8, (.int .i64 s_.1))], h := [.row (.ints .i64 s_.2.1), .row (.ints .i64 s_.2.2)] } k) (fun d => k (.exit 0) { n := 39, t := [(5, (.own 0)), (7, (.own 1))], h := [.row (.ints .i64 d.1), .row (.ints .i64 d.2)] }) none := by
      kernel_rfl
    have hs : (fun s_ : Int × (List Int) × (List Int) => S.DrawWeakOk_L7 n { n := 39, t := [(5, (.own 0)), (6, (.int .i64 x6)), (7, (.own 1)), (8, (.int .i64 s_.1))], h := [.row (.ints .i64 s_.2.1), .row (.ints .i64 s_.2.2)] } k) = fun s_ => optC (S.DrawWeakOk_run7 x6 n s_) (fun (r : (List Int) × (List Int)) => k (.exit 0) { n := 39, t := [(5, (.own 0)), (7, (.own 1))], h := [.row (.ints .i64 r.1), .row (.ints .i64 r.2)] }) none := funext ih
    rw [hu, hs]
    exact (S.DrawWeakOk_step7_nat (fun o => optC o (fun (r : (List Int) × (List Int)) => k (.exit 0) { n := 39, t := [(5, (.own 0)), (7, (.own 1))], h := [.row (.ints .i64 r.1), .row (.ints .i64 r.2)] }) none) x6 s_.1 s_.2.1 s_.2.2 (S.DrawWeakOk_run7 x6 n) (fun d => some d) none).symm
noncomputable def S.DrawWeakOk_tree {α : Type} (code : List Int) (leaf0_ : (List Int) × (List Int) → α) (fail_ : α) : α :=
  (optC (S.l20Open_t code) (fun c_1 => (optC (S.l20Rd_pick_t c_1.fst c_1.snd 2) (fun c_2 => (bif c_2.fst == 0 then (optC (S.l20Row_t c_2.snd.fst c_2.snd.snd 12) (fun c_3 => (leaf0_ (c_3.snd.snd.fst, c_3.snd.snd.snd))) fail_) else (optC (S.l20Guarded_t c_2.snd.fst c_2.snd.snd 12) (fun c_4 => (optC (S.DrawWeakOk_run7 c_4.fst FUEL (0, c_4.snd.snd.snd, [])) (fun qy_5 => (leaf0_ (qy_5.1, qy_5.2))) fail_)) fail_))) fail_)) fail_)
theorem S.DrawWeakOk_tree_nat {α γ : Type} (g : α → γ) (code : List Int) (leaf0_ : (List Int) × (List Int) → α) (fail_ : α) : g (S.DrawWeakOk_tree code leaf0_ fail_) = S.DrawWeakOk_tree code (fun d => g (leaf0_ d)) (g fail_) := by
  unfold S.DrawWeakOk_tree; simp only [apply_cnd g, apply_optC g, apply_sumC g]
noncomputable def S.DrawWeakOk_t (code : List Int) : Option ((List Int) × (List Int)) := S.DrawWeakOk_tree code (fun d => some d) none
theorem S.DrawWeakOk_den (code : List Int) (κ : V → List E → R) : S.DrawWeakOk_F [.ro true (.ints .u8 code)] [] κ = optC (S.DrawWeakOk_t code) (fun (r : (List Int) × (List Int)) => κ (.tup [(.own 0), (.own 1)]) [.row (.ints .i64 r.1), .row (.ints .i64 r.2)]) none := by
  have hu : S.DrawWeakOk_F [.ro true (.ints .u8 code)] [] κ = S.DrawWeakOk_tree code (fun d => κ (.tup [(.own 0), (.own 1)]) [.row (.ints .i64 d.1), .row (.ints .i64 d.2)]) none := by
    refine Eq.trans (show S.DrawWeakOk_F [.ro true (.ints .u8 code)] [] κ = (optC (S.l20Open_t code) (fun c_1 => (optC (S.l20Rd_pick_t c_1.fst c_1.snd 2) (fun c_2 => (bif c_2.fst == 0 then (optC (S.l20Row_t c_2.snd.fst c_2.snd.snd 12) (fun c_3 => (κ (.tup [(.own 0), (.own 1)]) [.row (.ints .i64 c_3.snd.snd.fst), .row (.ints .i64 c_3.snd.snd.snd)])) none) else (optC (S.l20Guarded_t c_2.snd.fst c_2.snd.snd 12) (fun c_4 => (S.DrawWeakOk_L7 FUEL { n := 39, t := [(5, (.own 0)), (6, (.int .i64 c_4.fst)), (7, (.own 1)), (8, (.int .i64 0))], h := [.row (.ints .i64 c_4.snd.snd.snd), .row (.ints .i64 ([]))] } (S.DrawWeakOk_k7 κ))) none))) none)) none) by kernel_rfl) ?_
    refine optC_congr (fun c_1 => ?_)
    refine optC_congr (fun c_2 => ?_)
    refine cnd_congr ?_ ?_
    · kernel_rfl
    · refine optC_congr (fun c_4 => ?_)
      refine (S.DrawWeakOk_L7_run c_4.fst FUEL (0, c_4.snd.snd.snd, []) (S.DrawWeakOk_k7 κ)).trans (optC_congr (fun qy_5 => ?_))
      kernel_rfl
  rw [hu]
  exact (S.DrawWeakOk_tree_nat (fun o => optC o (fun (r : (List Int) × (List Int)) => κ (.tup [(.own 0), (.own 1)]) [.row (.ints .i64 r.1), .row (.ints .i64 r.2)]) none) code (fun d => some d) none).symm
noncomputable def S.DrawWeakOk_s : D.Spec where
  keep := true
  pure := false
  ds := [.int .u8]
  sp := fun args h κ => match args, h with
    | [.ro true (.ints .u8 code)], [] => optC (S.DrawWeakOk_t code) (fun (r : (List Int) × (List Int)) => κ (.tup [(.own 0), (.own 1)]) [.row (.ints .i64 r.1), .row (.ints .i64 r.2)]) none
    | _, _ => none
theorem S.DrawWeakOk_ok : SpecOk Try.prog 30 S.DrawWeakOk_s := by
  refine SpecOk.of TDok mixed (T := S.DrawWeakOk_T) ?_ (ann := S.DrawWeakOk_ann) Try.func30 rfl (by decide +kernel) ?_ ?_ ?_
  · intro p hp
    simp only [S.DrawWeakOk_T, List.mem_cons, List.not_mem_nil, or_false] at hp
    rcases hp with rfl | rfl | rfl | rfl
    · exact S.l20Open_ok
    · exact S.l20Rd_pick_ok
    · exact S.l20Row_ok
    · exact S.l20Guarded_ok
  · intro args h κ r hh
    simp only [S.DrawWeakOk_s] at hh
    split at hh
    · exact (S.DrawWeakOk_den _ κ).trans hh
    · cases hh
  · intro args h κ r hh
    simp only [S.DrawWeakOk_s] at hh ⊢
    split at hh
    · exact optC_law2 (F := fun (r : (List Int) × (List Int)) κ => κ (.tup [(.own 0), (.own 1)]) [.row (.ints .i64 r.1), .row (.ints .i64 r.2)]) (fun b κ r hb => ⟨_, _, hb, fun _ => rfl⟩) hh
    · cases hh
  · intro hh; cases hh

-- loop.example/guardsonnets/impl.rowIn
noncomputable def I.rowIn_T : List (Nat × D.Spec) := []
def I.rowIn_ann : Nat → List Nat × List Nat
  | 4 => ([1, 5], [4])
  | _ => ([], [])
noncomputable def I.rowIn_F (args : List V) (h : List E) (κ : V → List E → R) : R := funC TD (tableK I.rowIn_T) I.rowIn_ann (drawOk (tableP I.rowIn_T)) FUEL Try.f64 args h κ
noncomputable def I.rowIn_L4 (n : Nat) (σ : St) (k : X → St → R) : R := iterC 0 (fun σ k => denC TD (tableK I.rowIn_T) I.rowIn_ann (drawOk (tableP I.rowIn_T)) 0 FUEL ((findLoop 4 (Try.f64.body.getD .skip)).getD .skip) σ k) [1, 5] [4] n σ k
noncomputable def I.rowIn_k4 (κ : V → List E → R) : X → St → R := (afterC TD (tableK I.rowIn_T) I.rowIn_ann (drawOk (tableP I.rowIn_T)) 0 FUEL 4 (Try.f64.body.getD .skip) (finC TD 0 Try.f64 κ)).getD (fun _ _ => none)
noncomputable def I.rowIn_step4 {α : Type} (x1 : List Int) (x5 : Int) (next_ : Int → α) (out0_ : Bool → α) (out1_ : Unit → α) (fail_ : α) : α :=
  (bif decide (x5 < (↑x1.length : Int)) then (bif decide (0 ≤ x5) && decide (x5 < (↑x1.length : Int)) then (bif decide (eli x1 x5.toNat < 0) then (out0_ false) else (bif decide (0 ≤ x5) && decide (x5 < (↑x1.length : Int)) then (bif decide (eli x1 x5.toNat > 2) then (out0_ false) else (next_ (IntKind.i64.wrap (x5 + 1)))) else fail_)) else fail_) else (out1_ ()))
theorem I.rowIn_step4_nat {α γ : Type} (g : α → γ) (x1 : List Int) (x5 : Int) (next_ : Int → α) (out0_ : Bool → α) (out1_ : Unit → α) (fail_ : α) : g (I.rowIn_step4 x1 x5 next_ out0_ out1_ fail_) = I.rowIn_step4 x1 x5 (fun s => g (next_ s)) (fun d => g (out0_ d)) (fun d => g (out1_ d)) (g fail_) := by
  unfold I.rowIn_step4; simp only [apply_cnd g, apply_optC g, apply_sumC g]
noncomputable def I.rowIn_run4 (x1 : List Int) : Nat → Int → Option ((Bool) ⊕ (Unit))
  | 0, _ => none
  | n + 1, s_ => I.rowIn_step4 x1 s_ (I.rowIn_run4 x1 n) (fun d => some ((Sum.inl d))) (fun d => some ((Sum.inr d))) none
theorem I.rowIn_L4_run (x1 : List Int) (n : Nat) (s_ : Int) (k : X → St → R) : I.rowIn_L4 n { n := 29, t := [(1, (.ro false (.ints .i64 x1))), (5, (.int .i64 s_))], h := [] } k = optC (I.rowIn_run4 x1 n s_) (fun (r : (Bool) ⊕ (Unit)) => (sumC r (fun (r : Bool) => k (.ret) { n := 29, t := [(4, (.bool r))], h := [] }) (fun (r : Unit) => k (.exit 0) { n := 29, t := [(4, .junk)], h := [] }))) none := by
  induction n generalizing s_ with
  | zero => rfl
  | succ n ih =>
    have hu : I.rowIn_L4 (n + 1) { n := 29, t := [(1, (.ro false (.ints .i64 x1))), (5, (.int .i64 s_))], h := [] } k = I.rowIn_step4 x1 s_ (fun s_ => I.rowIn_L4 n { n := 29, t := [(1, (.ro false (.ints .i64 x1))), (5, (.int .i64 s_))], h := [] } k) (fun d => k (.ret) { n := 29, t := [(4, (.bool d))], h := [] }) (fun d => k (.exit 0) { n := 29, t := [(4, .junk)], h := [] }) none := by
      kernel_rfl
    have hs : (fun s_ : Int => I.rowIn_L4 n { n := 29, t := [(1, (.ro false (.ints .i64 x1))), (5, (.int .i64 s_))], h := [] } k) = fun s_ => optC (I.rowIn_run4 x1 n s_) (fun (r : (Bool) ⊕ (Unit)) => (sumC r (fun (r : Bool) => k (.ret) { n := 29, t := [(4, (.bool r))], h := [] }) (fun (r : Unit) => k (.exit 0) { n := 29, t := [(4, .junk)], h := [] }))) none := funext ih
    rw [hu, hs]
    exact (I.rowIn_step4_nat (fun o => optC o (fun (r : (Bool) ⊕ (Unit)) => (sumC r (fun (r : Bool) => k (.ret) { n := 29, t := [(4, (.bool r))], h := [] }) (fun (r : Unit) => k (.exit 0) { n := 29, t := [(4, .junk)], h := [] }))) none) x1 s_ (I.rowIn_run4 x1 n) (fun d => some ((Sum.inl d))) (fun d => some ((Sum.inr d))) none).symm
noncomputable def I.rowIn_tree {α : Type} (net : List Int) (row : List Int) (leaf0_ : Bool → α) (fail_ : α) : α :=
  (bif !(↑row.length : Int) == (↑net.length : Int) then (leaf0_ false) else (optC (I.rowIn_run4 row FUEL 0) (fun qy_1 => (sumC qy_1 (fun (qy_1 : Bool) => (leaf0_ qy_1)) (fun (qy_1 : Unit) => (leaf0_ true)))) fail_))
theorem I.rowIn_tree_nat {α γ : Type} (g : α → γ) (net : List Int) (row : List Int) (leaf0_ : Bool → α) (fail_ : α) : g (I.rowIn_tree net row leaf0_ fail_) = I.rowIn_tree net row (fun d => g (leaf0_ d)) (g fail_) := by
  unfold I.rowIn_tree; simp only [apply_cnd g, apply_optC g, apply_sumC g]
noncomputable def I.rowIn_t (net : List Int) (row : List Int) : Option (Bool) := I.rowIn_tree net row (fun d => some d) none
theorem I.rowIn_den (net : List Int) (row : List Int) (κ : V → List E → R) : I.rowIn_F [.ro false (.ints .i64 net), .ro false (.ints .i64 row)] [] κ = optC (I.rowIn_t net row) (fun (r : Bool) => κ (.bool r) []) none := by
  have hu : I.rowIn_F [.ro false (.ints .i64 net), .ro false (.ints .i64 row)] [] κ = I.rowIn_tree net row (fun d => κ (.bool d) []) none := by
    refine Eq.trans (show I.rowIn_F [.ro false (.ints .i64 net), .ro false (.ints .i64 row)] [] κ = (bif !(↑row.length : Int) == (↑net.length : Int) then (κ (.bool false) []) else (I.rowIn_L4 FUEL { n := 29, t := [(1, (.ro false (.ints .i64 row))), (5, (.int .i64 0))], h := [] } (I.rowIn_k4 κ))) by kernel_rfl) ?_
    refine cnd_congr ?_ ?_
    · kernel_rfl
    · refine (I.rowIn_L4_run row FUEL 0 (I.rowIn_k4 κ)).trans (optC_congr (fun qy_1 => ?_))
      rcases qy_1 with qy_1 | qy_1
      · kernel_rfl
      · kernel_rfl
  rw [hu]
  exact (I.rowIn_tree_nat (fun o => optC o (fun (r : Bool) => κ (.bool r) []) none) net row (fun d => some d) none).symm
noncomputable def I.rowIn_s : D.Spec where
  keep := false
  pure := true
  ds := [.int .i64, .int .i64]
  sp := fun args h κ => match args, h with
    | [.ro false (.ints .i64 net), .ro false (.ints .i64 row)], [] => optC (I.rowIn_t net row) (fun (r : Bool) => κ (.bool r) []) none
    | _, _ => none
theorem I.rowIn_ok : SpecOk Try.prog 64 I.rowIn_s := by
  refine SpecOk.of TDok mixed (T := I.rowIn_T) ?_ (ann := I.rowIn_ann) Try.func64 rfl (by decide +kernel) ?_ ?_ ?_
  · intro p hp; cases hp
  · intro args h κ r hh
    simp only [I.rowIn_s] at hh
    split at hh
    · exact (I.rowIn_den _ _ κ).trans hh
    · cases hh
  · intro args h κ r hh
    simp only [I.rowIn_s] at hh ⊢
    split at hh
    · exact optC_law2 (F := fun (r : Bool) κ => κ (.bool r) []) (fun b κ r hb => ⟨_, _, hb, fun _ => rfl⟩) hh
    · cases hh
  · intro _ args h κ r hh
    simp only [I.rowIn_s] at hh
    split at hh
    · exact ⟨rfl, fun _ => rfl⟩
    · cases hh

-- loop.example/guardsonnets/impl.placesWith
noncomputable def I.placesWith_T : List (Nat × D.Spec) := [(78, I.with_s)]
def I.placesWith_ann : Nat → List Nat × List Nat
  | 3 => ([0, 1, 5, 6], [5])
  | _ => ([], [])
noncomputable def I.placesWith_F (args : List V) (h : List E) (κ : V → List E → R) : R := funC TD (tableK I.placesWith_T) I.placesWith_ann (drawOk (tableP I.placesWith_T)) FUEL Try.f87 args h κ
noncomputable def I.placesWith_L3 (n : Nat) (σ : St) (k : X → St → R) : R := iterC 0 (fun σ k => denC TD (tableK I.placesWith_T) I.placesWith_ann (drawOk (tableP I.placesWith_T)) 0 FUEL ((findLoop 3 (Try.f87.body.getD .skip)).getD .skip) σ k) [0, 1, 5, 6] [5] n σ k
noncomputable def I.placesWith_k3 (κ : V → List E → R) : X → St → R := (afterC TD (tableK I.placesWith_T) I.placesWith_ann (drawOk (tableP I.placesWith_T)) 0 FUEL 3 (Try.f87.body.getD .skip) (finC TD 0 Try.f87 κ)).getD (fun _ _ => none)
noncomputable def I.placesWith_step3 {α : Type} (x0 : List Int) (x1 : Int) (x5 : Int) (x6 : Int) (next_ : Int × Int → α) (out0_ : Int → α) (fail_ : α) : α :=
  (bif decide (x6 < (↑x0.length : Int)) then (bif decide (0 ≤ x6) && decide (x6 < (↑x0.length : Int)) then (bif eli x0 x6.toNat == x1 then (optC (I.with_t x5 x6) (fun c_1 => (next_ (c_1, IntKind.i64.wrap (x6 + 1)))) fail_) else (next_ (x5, IntKind.i64.wrap (x6 + 1)))) else fail_) else (out0_ x5))
theorem I.placesWith_step3_nat {α γ : Type} (g : α → γ) (x0 : List Int) (x1 : Int) (x5 : Int) (x6 : Int) (next_ : Int × Int → α) (out0_ : Int → α) (fail_ : α) : g (I.placesWith_step3 x0 x1 x5 x6 next_ out0_ fail_) = I.placesWith_step3 x0 x1 x5 x6 (fun s => g (next_ s)) (fun d => g (out0_ d)) (g fail_) := by
  unfold I.placesWith_step3; simp only [apply_cnd g, apply_optC g, apply_sumC g]
noncomputable def I.placesWith_run3 (x0 : List Int) (x1 : Int) : Nat → Int × Int → Option (Int)
  | 0, _ => none
  | n + 1, s_ => I.placesWith_step3 x0 x1 s_.1 s_.2 (I.placesWith_run3 x0 x1 n) (fun d => some d) none
theorem I.placesWith_L3_run (x0 : List Int) (x1 : Int) (n : Nat) (s_ : Int × Int) (k : X → St → R) : I.placesWith_L3 n { n := 23, t := [(0, (.ro false (.ints .i64 x0))), (1, (.int .i64 x1)), (5, (.int .i64 s_.1)), (6, (.int .i64 s_.2))], h := [] } k = optC (I.placesWith_run3 x0 x1 n s_) (fun (r : Int) => k (.exit 0) { n := 23, t := [(5, (.int .i64 r))], h := [] }) none := by
  induction n generalizing s_ with
  | zero => rfl
  | succ n ih =>
    have hu : I.placesWith_L3 (n + 1) { n := 23, t := [(0, (.ro false (.ints .i64 x0))), (1, (.int .i64 x1)), (5, (.int .i64 s_.1)), (6, (.int .i64 s_.2))], h := [] } k = I.placesWith_step3 x0 x1 s_.1 s_.2 (fun s_ => I.placesWith_L3 n { n := 23, t := [(0, (.ro false (.ints .i64 x0))), (1, (.int .i64 x1)), (5, (.int .i64 s_.1)), (6, (.int .i64 s_.2))], h := [] } k) (fun d => k (.exit 0) { n := 23, t := [(5, (.int .i64 d))], h := [] }) none := by
      kernel_rfl
    have hs : (fun s_ : Int × Int => I.placesWith_L3 n { n := 23, t := [(0, (.ro false (.ints .i64 x0))), (1, (.int .i64 x1)), (5, (.int .i64 s_.1)), (6, (.int .i64 s_.2))], h := [] } k) = fun s_ => optC (I.placesWith_run3 x0 x1 n s_) (fun (r : Int) => k (.exit 0) { n := 23, t := [(5, (.int .i64 r))], h := [] }) none := funext ih
    rw [hu, hs]
    exact (I.placesWith_step3_nat (fun o => optC o (fun (r : Int) => k (.exit 0) { n := 23, t := [(5, (.int .i64 r))], h := [] }) none) x0 x1 s_.1 s_.2 (I.placesWith_run3 x0 x1 n) (fun d => some d) none).symm
noncomputable def I.placesWith_tree {α : Type} (row : List Int) (number : Int) (leaf0_ : Int → α) (fail_ : α) : α :=
  (optC (I.placesWith_run3 row number FUEL (0, 0)) (fun qy_2 => (leaf0_ qy_2)) fail_)
theorem I.placesWith_tree_nat {α γ : Type} (g : α → γ) (row : List Int) (number : Int) (leaf0_ : Int → α) (fail_ : α) : g (I.placesWith_tree row number leaf0_ fail_) = I.placesWith_tree row number (fun d => g (leaf0_ d)) (g fail_) := by
  unfold I.placesWith_tree; simp only [apply_cnd g, apply_optC g, apply_sumC g]
noncomputable def I.placesWith_t (row : List Int) (number : Int) : Option (Int) := I.placesWith_tree row number (fun d => some d) none
theorem I.placesWith_den (row : List Int) (number : Int) (κ : V → List E → R) : I.placesWith_F [.ro false (.ints .i64 row), .int .i64 number] [] κ = optC (I.placesWith_t row number) (fun (r : Int) => κ (.int .i64 r) []) none := by
  have hu : I.placesWith_F [.ro false (.ints .i64 row), .int .i64 number] [] κ = I.placesWith_tree row number (fun d => κ (.int .i64 d) []) none := by
    refine Eq.trans (show I.placesWith_F [.ro false (.ints .i64 row), .int .i64 number] [] κ = (I.placesWith_L3 FUEL { n := 23, t := [(0, (.ro false (.ints .i64 row))), (1, (.int .i64 number)), (5, (.int .i64 0)), (6, (.int .i64 0))], h := [] } (I.placesWith_k3 κ)) by kernel_rfl) ?_
    refine (I.placesWith_L3_run row number FUEL (0, 0) (I.placesWith_k3 κ)).trans (optC_congr (fun qy_2 => ?_))
    kernel_rfl
  rw [hu]
  exact (I.placesWith_tree_nat (fun o => optC o (fun (r : Int) => κ (.int .i64 r) []) none) row number (fun d => some d) none).symm
noncomputable def I.placesWith_s : D.Spec where
  keep := false
  pure := true
  ds := [.int .i64, .invalid]
  sp := fun args h κ => match args, h with
    | [.ro false (.ints .i64 row), .int .i64 number], [] => optC (I.placesWith_t row number) (fun (r : Int) => κ (.int .i64 r) []) none
    | _, _ => none
theorem I.placesWith_ok : SpecOk Try.prog 87 I.placesWith_s := by
  refine SpecOk.of TDok mixed (T := I.placesWith_T) ?_ (ann := I.placesWith_ann) Try.func87 rfl (by decide +kernel) ?_ ?_ ?_
  · intro p hp
    simp only [I.placesWith_T, List.mem_cons, List.not_mem_nil, or_false] at hp
    rcases hp with rfl
    · exact I.with_ok
  · intro args h κ r hh
    simp only [I.placesWith_s] at hh
    split at hh
    · exact (I.placesWith_den _ _ κ).trans hh
    · cases hh
  · intro args h κ r hh
    simp only [I.placesWith_s] at hh ⊢
    split at hh
    · exact optC_law2 (F := fun (r : Int) κ => κ (.int .i64 r) []) (fun b κ r hb => ⟨_, _, hb, fun _ => rfl⟩) hh
    · cases hh
  · intro _ args h κ r hh
    simp only [I.placesWith_s] at hh
    split at hh
    · exact ⟨rfl, fun _ => rfl⟩
    · cases hh

-- loop.example/guardsonnets/impl.guardedLess
noncomputable def I.guardedLess_T : List (Nat × D.Spec) := [(87, I.placesWith_s), (79, I.without_s)]
def I.guardedLess_ann : Nat → List Nat × List Nat
  | _ => ([], [])
noncomputable def I.guardedLess_F (args : List V) (h : List E) (κ : V → List E → R) : R := funC TD (tableK I.guardedLess_T) I.guardedLess_ann (drawOk (tableP I.guardedLess_T)) FUEL Try.f92 args h κ
noncomputable def I.guardedLess_tree {α : Type} (row : List Int) (from_ : Int) (leaf0_ : Int → α) (fail_ : α) : α :=
  (optC (I.placesWith_t row 1) (fun c_1 => (optC (I.placesWith_t row 2) (fun c_2 => (bif decide (0 ≤ from_) && decide (from_ < (↑row.length : Int)) then (bif eli row from_.toNat == 1 then (optC (I.without_t (bits BinOp.or IntKind.i64 c_1 c_2) from_) (fun c_3 => (leaf0_ c_3)) fail_) else (leaf0_ (bits BinOp.or IntKind.i64 c_1 c_2))) else fail_)) fail_)) fail_)
theorem I.guardedLess_tree_nat {α γ : Type} (g : α → γ) (row : List Int) (from_ : Int) (leaf0_ : Int → α) (fail_ : α) : g (I.guardedLess_tree row from_ leaf0_ fail_) = I.guardedLess_tree row from_ (fun d => g (leaf0_ d)) (g fail_) := by
  unfold I.guardedLess_tree; simp only [apply_cnd g, apply_optC g, apply_sumC g]
noncomputable def I.guardedLess_t (row : List Int) (from_ : Int) : Option (Int) := I.guardedLess_tree row from_ (fun d => some d) none
theorem I.guardedLess_den (row : List Int) (from_ : Int) (κ : V → List E → R) : I.guardedLess_F [.ro false (.ints .i64 row), .int .i64 from_] [] κ = optC (I.guardedLess_t row from_) (fun (r : Int) => κ (.int .i64 r) []) none := by
  have hu : I.guardedLess_F [.ro false (.ints .i64 row), .int .i64 from_] [] κ = I.guardedLess_tree row from_ (fun d => κ (.int .i64 d) []) none := by
    kernel_rfl
  rw [hu]
  exact (I.guardedLess_tree_nat (fun o => optC o (fun (r : Int) => κ (.int .i64 r) []) none) row from_ (fun d => some d) none).symm
noncomputable def I.guardedLess_s : D.Spec where
  keep := false
  pure := true
  ds := [.int .i64, .invalid]
  sp := fun args h κ => match args, h with
    | [.ro false (.ints .i64 row), .int .i64 from_], [] => optC (I.guardedLess_t row from_) (fun (r : Int) => κ (.int .i64 r) []) none
    | _, _ => none
theorem I.guardedLess_ok : SpecOk Try.prog 92 I.guardedLess_s := by
  refine SpecOk.of TDok mixed (T := I.guardedLess_T) ?_ (ann := I.guardedLess_ann) Try.func92 rfl (by decide +kernel) ?_ ?_ ?_
  · intro p hp
    simp only [I.guardedLess_T, List.mem_cons, List.not_mem_nil, or_false] at hp
    rcases hp with rfl | rfl
    · exact I.placesWith_ok
    · exact I.without_ok
  · intro args h κ r hh
    simp only [I.guardedLess_s] at hh
    split at hh
    · exact (I.guardedLess_den _ _ κ).trans hh
    · cases hh
  · intro args h κ r hh
    simp only [I.guardedLess_s] at hh ⊢
    split at hh
    · exact optC_law2 (F := fun (r : Int) κ => κ (.int .i64 r) []) (fun b κ r hb => ⟨_, _, hb, fun _ => rfl⟩) hh
    · cases hh
  · intro _ args h κ r hh
    simp only [I.guardedLess_s] at hh
    split at hh
    · exact ⟨rfl, fun _ => rfl⟩
    · cases hh

-- loop.example/guardsonnets/impl.helpedAt
noncomputable def I.helpedAt_T : List (Nat × D.Spec) := [(60, I.hasPlace_s), (92, I.guardedLess_s), (78, I.with_s), (54, I.watchIn_s)]
def I.helpedAt_ann : Nat → List Nat × List Nat
  | 2 => ([0, 1, 2, 7], [6])
  | _ => ([], [])
noncomputable def I.helpedAt_F (args : List V) (h : List E) (κ : V → List E → R) : R := funC TD (tableK I.helpedAt_T) I.helpedAt_ann (drawOk (tableP I.helpedAt_T)) FUEL Try.f85 args h κ
noncomputable def I.helpedAt_L2 (n : Nat) (σ : St) (k : X → St → R) : R := iterC 0 (fun σ k => denC TD (tableK I.helpedAt_T) I.helpedAt_ann (drawOk (tableP I.helpedAt_T)) 0 FUEL ((findLoop 2 (Try.f85.body.getD .skip)).getD .skip) σ k) [0, 1, 2, 7] [6] n σ k
noncomputable def I.helpedAt_k2 (κ : V → List E → R) : X → St → R := (afterC TD (tableK I.helpedAt_T) I.helpedAt_ann (drawOk (tableP I.helpedAt_T)) 0 FUEL 2 (Try.f85.body.getD .skip) (finC TD 0 Try.f85 κ)).getD (fun _ _ => none)
noncomputable def I.helpedAt_step2 {α : Type} (x0 : List Int) (x1 : List Int) (x2 : Int) (x7 : Int) (next_ : Int → α) (out0_ : Bool → α) (out1_ : Unit → α) (fail_ : α) : α :=
  (bif decide (x7 < (↑x0.length : Int)) then (bif decide (0 ≤ x2) && decide (x2 < (↑x0.length : Int)) then (optC (I.hasPlace_t (eli x0 x2.toNat) x7) (fun c_1 => (bif c_1 then (bif decide (0 ≤ x7) && decide (x7 < (↑x1.length : Int)) then (bif decide (eli x1 x7.toNat > 0) then (optC (I.guardedLess_t x1 x7) (fun c_2 => (optC (I.with_t c_2 x2) (fun c_3 => (optC (I.watchIn_t x0 c_3) (fun c_4 => (bif c_4 then (out0_ true) else (next_ (IntKind.i64.wrap (x7 + 1))))) fail_)) fail_)) fail_) else (next_ (IntKind.i64.wrap (x7 + 1)))) else fail_) else (next_ (IntKind.i64.wrap (x7 + 1))))) fail_) else fail_) else (out1_ ()))
theorem I.helpedAt_step2_nat {α γ : Type} (g : α → γ) (x0 : List Int) (x1 : List Int) (x2 : Int) (x7 : Int) (next_ : Int → α) (out0_ : Bool → α) (out1_ : Unit → α) (fail_ : α) : g (I.helpedAt_step2 x0 x1 x2 x7 next_ out0_ out1_ fail_) = I.helpedAt_step2 x0 x1 x2 x7 (fun s => g (next_ s)) (fun d => g (out0_ d)) (fun d => g (out1_ d)) (g fail_) := by
  unfold I.helpedAt_step2; simp only [apply_cnd g, apply_optC g, apply_sumC g]
noncomputable def I.helpedAt_run2 (x0 : List Int) (x1 : List Int) (x2 : Int) : Nat → Int → Option ((Bool) ⊕ (Unit))
  | 0, _ => none
  | n + 1, s_ => I.helpedAt_step2 x0 x1 x2 s_ (I.helpedAt_run2 x0 x1 x2 n) (fun d => some ((Sum.inl d))) (fun d => some ((Sum.inr d))) none
theorem I.helpedAt_L2_run (x0 : List Int) (x1 : List Int) (x2 : Int) (n : Nat) (s_ : Int) (k : X → St → R) : I.helpedAt_L2 n { n := 36, t := [(0, (.ro false (.ints .i64 x0))), (1, (.ro false (.ints .i64 x1))), (2, (.int .i64 x2)), (7, (.int .i64 s_))], h := [] } k = optC (I.helpedAt_run2 x0 x1 x2 n s_) (fun (r : (Bool) ⊕ (Unit)) => (sumC r (fun (r : Bool) => k (.ret) { n := 36, t := [(6, (.bool r))], h := [] }) (fun (r : Unit) => k (.exit 0) { n := 36, t := [(6, .junk)], h := [] }))) none := by
  induction n generalizing s_ with
  | zero => rfl
  | succ n ih =>
    have hu : I.helpedAt_L2 (n + 1) { n := 36, t := [(0, (.ro false (.ints .i64 x0))), (1, (.ro false (.ints .i64 x1))), (2, (.int .i64 x2)), (7, (.int .i64 s_))], h := [] } k = I.helpedAt_step2 x0 x1 x2 s_ (fun s_ => I.helpedAt_L2 n { n := 36, t := [(0, (.ro false (.ints .i64 x0))), (1, (.ro false (.ints .i64 x1))), (2, (.int .i64 x2)), (7, (.int .i64 s_))], h := [] } k) (fun d => k (.ret) { n := 36, t := [(6, (.bool d))], h := [] }) (fun d => k (.exit 0) { n := 36, t := [(6, .junk)], h := [] }) none := by
      kernel_rfl
    have hs : (fun s_ : Int => I.helpedAt_L2 n { n := 36, t := [(0, (.ro false (.ints .i64 x0))), (1, (.ro false (.ints .i64 x1))), (2, (.int .i64 x2)), (7, (.int .i64 s_))], h := [] } k) = fun s_ => optC (I.helpedAt_run2 x0 x1 x2 n s_) (fun (r : (Bool) ⊕ (Unit)) => (sumC r (fun (r : Bool) => k (.ret) { n := 36, t := [(6, (.bool r))], h := [] }) (fun (r : Unit) => k (.exit 0) { n := 36, t := [(6, .junk)], h := [] }))) none := funext ih
    rw [hu, hs]
    exact (I.helpedAt_step2_nat (fun o => optC o (fun (r : (Bool) ⊕ (Unit)) => (sumC r (fun (r : Bool) => k (.ret) { n := 36, t := [(6, (.bool r))], h := [] }) (fun (r : Unit) => k (.exit 0) { n := 36, t := [(6, .junk)], h := [] }))) none) x0 x1 x2 s_ (I.helpedAt_run2 x0 x1 x2 n) (fun d => some ((Sum.inl d))) (fun d => some ((Sum.inr d))) none).symm
noncomputable def I.helpedAt_tree {α : Type} (net : List Int) (row : List Int) (place : Int) (leaf0_ : Bool → α) (fail_ : α) : α :=
  (optC (I.helpedAt_run2 net row place FUEL 0) (fun qy_5 => (sumC qy_5 (fun (qy_5 : Bool) => (leaf0_ qy_5)) (fun (qy_5 : Unit) => (leaf0_ false)))) fail_)
theorem I.helpedAt_tree_nat {α γ : Type} (g : α → γ) (net : List Int) (row : List Int) (place : Int) (leaf0_ : Bool → α) (fail_ : α) : g (I.helpedAt_tree net row place leaf0_ fail_) = I.helpedAt_tree net row place (fun d => g (leaf0_ d)) (g fail_) := by
  unfold I.helpedAt_tree; simp only [apply_cnd g, apply_optC g, apply_sumC g]
noncomputable def I.helpedAt_t (net : List Int) (row : List Int) (place : Int) : Option (Bool) := I.helpedAt_tree net row place (fun d => some d) none
theorem I.helpedAt_den (net : List Int) (row : List Int) (place : Int) (κ : V → List E → R) : I.helpedAt_F [.ro false (.ints .i64 net), .ro false (.ints .i64 row), .int .i64 place] [] κ = optC (I.helpedAt_t net row place) (fun (r : Bool) => κ (.bool r) []) none := by
  have hu : I.helpedAt_F [.ro false (.ints .i64 net), .ro false (.ints .i64 row), .int .i64 place] [] κ = I.helpedAt_tree net row place (fun d => κ (.bool d) []) none := by
    refine Eq.trans (show I.helpedAt_F [.ro false (.ints .i64 net), .ro false (.ints .i64 row), .int .i64 place] [] κ = (I.helpedAt_L2 FUEL { n := 36, t := [(0, (.ro false (.ints .i64 net))), (1, (.ro false (.ints .i64 row))), (2, (.int .i64 place)), (7, (.int .i64 0))], h := [] } (I.helpedAt_k2 κ)) by kernel_rfl) ?_
    refine (I.helpedAt_L2_run net row place FUEL 0 (I.helpedAt_k2 κ)).trans (optC_congr (fun qy_5 => ?_))
    rcases qy_5 with qy_5 | qy_5
    · kernel_rfl
    · kernel_rfl
  rw [hu]
  exact (I.helpedAt_tree_nat (fun o => optC o (fun (r : Bool) => κ (.bool r) []) none) net row place (fun d => some d) none).symm
noncomputable def I.helpedAt_s : D.Spec where
  keep := false
  pure := true
  ds := [.int .i64, .int .i64, .invalid]
  sp := fun args h κ => match args, h with
    | [.ro false (.ints .i64 net), .ro false (.ints .i64 row), .int .i64 place], [] => optC (I.helpedAt_t net row place) (fun (r : Bool) => κ (.bool r) []) none
    | _, _ => none
theorem I.helpedAt_ok : SpecOk Try.prog 85 I.helpedAt_s := by
  refine SpecOk.of TDok mixed (T := I.helpedAt_T) ?_ (ann := I.helpedAt_ann) Try.func85 rfl (by decide +kernel) ?_ ?_ ?_
  · intro p hp
    simp only [I.helpedAt_T, List.mem_cons, List.not_mem_nil, or_false] at hp
    rcases hp with rfl | rfl | rfl | rfl
    · exact I.hasPlace_ok
    · exact I.guardedLess_ok
    · exact I.with_ok
    · exact I.watchIn_ok
  · intro args h κ r hh
    simp only [I.helpedAt_s] at hh
    split at hh
    · exact (I.helpedAt_den _ _ _ κ).trans hh
    · cases hh
  · intro args h κ r hh
    simp only [I.helpedAt_s] at hh ⊢
    split at hh
    · exact optC_law2 (F := fun (r : Bool) κ => κ (.bool r) []) (fun b κ r hb => ⟨_, _, hb, fun _ => rfl⟩) hh
    · cases hh
  · intro _ args h κ r hh
    simp only [I.helpedAt_s] at hh
    split at hh
    · exact ⟨rfl, fun _ => rfl⟩
    · cases hh

-- loop.example/guardsonnets/impl.weakIn
noncomputable def I.weakIn_T : List (Nat × D.Spec) := [(85, I.helpedAt_s)]
def I.weakIn_ann : Nat → List Nat × List Nat
  | 2 => ([0, 1, 5], [4])
  | _ => ([], [])
noncomputable def I.weakIn_F (args : List V) (h : List E) (κ : V → List E → R) : R := funC TD (tableK I.weakIn_T) I.weakIn_ann (drawOk (tableP I.weakIn_T)) FUEL Try.f65 args h κ
noncomputable def I.weakIn_L2 (n : Nat) (σ : St) (k : X → St → R) : R := iterC 0 (fun σ k => denC TD (tableK I.weakIn_T) I.weakIn_ann (drawOk (tableP I.weakIn_T)) 0 FUEL ((findLoop 2 (Try.f65.body.getD .skip)).getD .skip) σ k) [0, 1, 5] [4] n σ k
noncomputable def I.weakIn_k2 (κ : V → List E → R) : X → St → R := (afterC TD (tableK I.weakIn_T) I.weakIn_ann (drawOk (tableP I.weakIn_T)) 0 FUEL 2 (Try.f65.body.getD .skip) (finC TD 0 Try.f65 κ)).getD (fun _ _ => none)
noncomputable def I.weakIn_step2 {α : Type} (x0 : List Int) (x1 : List Int) (x5 : Int) (next_ : Int → α) (out0_ : Bool → α) (out1_ : Unit → α) (fail_ : α) : α :=
  (bif decide (x5 < (↑x0.length : Int)) then (bif decide (0 ≤ x5) && decide (x5 < (↑x1.length : Int)) then (bif eli x1 x5.toNat == 0 then (optC (I.helpedAt_t x0 x1 x5) (fun c_1 => (bif !c_1 then (out0_ false) else (next_ (IntKind.i64.wrap (x5 + 1))))) fail_) else (next_ (IntKind.i64.wrap (x5 + 1)))) else fail_) else (out1_ ()))
theorem I.weakIn_step2_nat {α γ : Type} (g : α → γ) (x0 : List Int) (x1 : List Int) (x5 : Int) (next_ : Int → α) (out0_ : Bool → α) (out1_ : Unit → α) (fail_ : α) : g (I.weakIn_step2 x0 x1 x5 next_ out0_ out1_ fail_) = I.weakIn_step2 x0 x1 x5 (fun s => g (next_ s)) (fun d => g (out0_ d)) (fun d => g (out1_ d)) (g fail_) := by
  unfold I.weakIn_step2; simp only [apply_cnd g, apply_optC g, apply_sumC g]
noncomputable def I.weakIn_run2 (x0 : List Int) (x1 : List Int) : Nat → Int → Option ((Bool) ⊕ (Unit))
  | 0, _ => none
  | n + 1, s_ => I.weakIn_step2 x0 x1 s_ (I.weakIn_run2 x0 x1 n) (fun d => some ((Sum.inl d))) (fun d => some ((Sum.inr d))) none
theorem I.weakIn_L2_run (x0 : List Int) (x1 : List Int) (n : Nat) (s_ : Int) (k : X → St → R) : I.weakIn_L2 n { n := 24, t := [(0, (.ro false (.ints .i64 x0))), (1, (.ro false (.ints .i64 x1))), (5, (.int .i64 s_))], h := [] } k = optC (I.weakIn_run2 x0 x1 n s_) (fun (r : (Bool) ⊕ (Unit)) => (sumC r (fun (r : Bool) => k (.ret) { n := 24, t := [(4, (.bool r))], h := [] }) (fun (r : Unit) => k (.exit 0) { n := 24, t := [(4, .junk)], h := [] }))) none := by
  induction n generalizing s_ with
  | zero => rfl
  | succ n ih =>
    have hu : I.weakIn_L2 (n + 1) { n := 24, t := [(0, (.ro false (.ints .i64 x0))), (1, (.ro false (.ints .i64 x1))), (5, (.int .i64 s_))], h := [] } k = I.weakIn_step2 x0 x1 s_ (fun s_ => I.weakIn_L2 n { n := 24, t := [(0, (.ro false (.ints .i64 x0))), (1, (.ro false (.ints .i64 x1))), (5, (.int .i64 s_))], h := [] } k) (fun d => k (.ret) { n := 24, t := [(4, (.bool d))], h := [] }) (fun d => k (.exit 0) { n := 24, t := [(4, .junk)], h := [] }) none := by
      kernel_rfl
    have hs : (fun s_ : Int => I.weakIn_L2 n { n := 24, t := [(0, (.ro false (.ints .i64 x0))), (1, (.ro false (.ints .i64 x1))), (5, (.int .i64 s_))], h := [] } k) = fun s_ => optC (I.weakIn_run2 x0 x1 n s_) (fun (r : (Bool) ⊕ (Unit)) => (sumC r (fun (r : Bool) => k (.ret) { n := 24, t := [(4, (.bool r))], h := [] }) (fun (r : Unit) => k (.exit 0) { n := 24, t := [(4, .junk)], h := [] }))) none := funext ih
    rw [hu, hs]
    exact (I.weakIn_step2_nat (fun o => optC o (fun (r : (Bool) ⊕ (Unit)) => (sumC r (fun (r : Bool) => k (.ret) { n := 24, t := [(4, (.bool r))], h := [] }) (fun (r : Unit) => k (.exit 0) { n := 24, t := [(4, .junk)], h := [] }))) none) x0 x1 s_ (I.weakIn_run2 x0 x1 n) (fun d => some ((Sum.inl d))) (fun d => some ((Sum.inr d))) none).symm
noncomputable def I.weakIn_tree {α : Type} (net : List Int) (row : List Int) (leaf0_ : Bool → α) (fail_ : α) : α :=
  (optC (I.weakIn_run2 net row FUEL 0) (fun qy_2 => (sumC qy_2 (fun (qy_2 : Bool) => (leaf0_ qy_2)) (fun (qy_2 : Unit) => (leaf0_ true)))) fail_)
theorem I.weakIn_tree_nat {α γ : Type} (g : α → γ) (net : List Int) (row : List Int) (leaf0_ : Bool → α) (fail_ : α) : g (I.weakIn_tree net row leaf0_ fail_) = I.weakIn_tree net row (fun d => g (leaf0_ d)) (g fail_) := by
  unfold I.weakIn_tree; simp only [apply_cnd g, apply_optC g, apply_sumC g]
noncomputable def I.weakIn_t (net : List Int) (row : List Int) : Option (Bool) := I.weakIn_tree net row (fun d => some d) none
theorem I.weakIn_den (net : List Int) (row : List Int) (κ : V → List E → R) : I.weakIn_F [.ro false (.ints .i64 net), .ro false (.ints .i64 row)] [] κ = optC (I.weakIn_t net row) (fun (r : Bool) => κ (.bool r) []) none := by
  have hu : I.weakIn_F [.ro false (.ints .i64 net), .ro false (.ints .i64 row)] [] κ = I.weakIn_tree net row (fun d => κ (.bool d) []) none := by
    refine Eq.trans (show I.weakIn_F [.ro false (.ints .i64 net), .ro false (.ints .i64 row)] [] κ = (I.weakIn_L2 FUEL { n := 24, t := [(0, (.ro false (.ints .i64 net))), (1, (.ro false (.ints .i64 row))), (5, (.int .i64 0))], h := [] } (I.weakIn_k2 κ)) by kernel_rfl) ?_
    refine (I.weakIn_L2_run net row FUEL 0 (I.weakIn_k2 κ)).trans (optC_congr (fun qy_2 => ?_))
    rcases qy_2 with qy_2 | qy_2
    · kernel_rfl
    · kernel_rfl
  rw [hu]
  exact (I.weakIn_tree_nat (fun o => optC o (fun (r : Bool) => κ (.bool r) []) none) net row (fun d => some d) none).symm
noncomputable def I.weakIn_s : D.Spec where
  keep := false
  pure := true
  ds := [.int .i64, .int .i64]
  sp := fun args h κ => match args, h with
    | [.ro false (.ints .i64 net), .ro false (.ints .i64 row)], [] => optC (I.weakIn_t net row) (fun (r : Bool) => κ (.bool r) []) none
    | _, _ => none
theorem I.weakIn_ok : SpecOk Try.prog 65 I.weakIn_s := by
  refine SpecOk.of TDok mixed (T := I.weakIn_T) ?_ (ann := I.weakIn_ann) Try.func65 rfl (by decide +kernel) ?_ ?_ ?_
  · intro p hp
    simp only [I.weakIn_T, List.mem_cons, List.not_mem_nil, or_false] at hp
    rcases hp with rfl
    · exact I.helpedAt_ok
  · intro args h κ r hh
    simp only [I.weakIn_s] at hh
    split at hh
    · exact (I.weakIn_den _ _ κ).trans hh
    · cases hh
  · intro args h κ r hh
    simp only [I.weakIn_s] at hh ⊢
    split at hh
    · exact optC_law2 (F := fun (r : Bool) κ => κ (.bool r) []) (fun b κ r hb => ⟨_, _, hb, fun _ => rfl⟩) hh
    · cases hh
  · intro _ args h κ r hh
    simp only [I.weakIn_s] at hh
    split at hh
    · exact ⟨rfl, fun _ => rfl⟩
    · cases hh

-- loop.example/guardsonnets/impl.WeakOk
noncomputable def I.WeakOk_T : List (Nat × D.Spec) := [(27, I.NetOk_s), (64, I.rowIn_s), (65, I.weakIn_s)]
def I.WeakOk_ann : Nat → List Nat × List Nat
  | _ => ([], [])
noncomputable def I.WeakOk_F (args : List V) (h : List E) (κ : V → List E → R) : R := funC TD (tableK I.WeakOk_T) I.WeakOk_ann (drawOk (tableP I.WeakOk_T)) FUEL Try.f31 args h κ
noncomputable def I.WeakOk_tree {α : Type} (net : List Int) (row : List Int) (leaf0_ : Bool → α) (fail_ : α) : α :=
  (optC (I.NetOk_t net) (fun c_1 => (bif c_1 then (optC (I.rowIn_t net row) (fun c_2 => (bif c_2 then (optC (I.weakIn_t net row) (fun c_3 => (leaf0_ c_3)) fail_) else (leaf0_ false))) fail_) else (leaf0_ false))) fail_)
theorem I.WeakOk_tree_nat {α γ : Type} (g : α → γ) (net : List Int) (row : List Int) (leaf0_ : Bool → α) (fail_ : α) : g (I.WeakOk_tree net row leaf0_ fail_) = I.WeakOk_tree net row (fun d => g (leaf0_ d)) (g fail_) := by
  unfold I.WeakOk_tree; simp only [apply_cnd g, apply_optC g, apply_sumC g]
noncomputable def I.WeakOk_t (net : List Int) (row : List Int) : Option (Bool) := I.WeakOk_tree net row (fun d => some d) none
theorem I.WeakOk_den (net : List Int) (row : List Int) (κ : V → List E → R) : I.WeakOk_F [.ro false (.ints .i64 net), .ro false (.ints .i64 row)] [] κ = optC (I.WeakOk_t net row) (fun (r : Bool) => κ (.bool r) []) none := by
  have hu : I.WeakOk_F [.ro false (.ints .i64 net), .ro false (.ints .i64 row)] [] κ = I.WeakOk_tree net row (fun d => κ (.bool d) []) none := by
    kernel_rfl
  rw [hu]
  exact (I.WeakOk_tree_nat (fun o => optC o (fun (r : Bool) => κ (.bool r) []) none) net row (fun d => some d) none).symm
noncomputable def I.WeakOk_s : D.Spec where
  keep := false
  pure := true
  ds := [.int .i64, .int .i64]
  sp := fun args h κ => match args, h with
    | [.ro false (.ints .i64 net), .ro false (.ints .i64 row)], [] => optC (I.WeakOk_t net row) (fun (r : Bool) => κ (.bool r) []) none
    | _, _ => none
theorem I.WeakOk_ok : SpecOk Try.prog 31 I.WeakOk_s := by
  refine SpecOk.of TDok mixed (T := I.WeakOk_T) ?_ (ann := I.WeakOk_ann) Try.func31 rfl (by decide +kernel) ?_ ?_ ?_
  · intro p hp
    simp only [I.WeakOk_T, List.mem_cons, List.not_mem_nil, or_false] at hp
    rcases hp with rfl | rfl | rfl
    · exact I.NetOk_ok
    · exact I.rowIn_ok
    · exact I.weakIn_ok
  · intro args h κ r hh
    simp only [I.WeakOk_s] at hh
    split at hh
    · exact (I.WeakOk_den _ _ κ).trans hh
    · cases hh
  · intro args h κ r hh
    simp only [I.WeakOk_s] at hh ⊢
    split at hh
    · exact optC_law2 (F := fun (r : Bool) κ => κ (.bool r) []) (fun b κ r hb => ⟨_, _, hb, fun _ => rfl⟩) hh
    · cases hh
  · intro _ args h κ r hh
    simp only [I.WeakOk_s] at hh
    split at hh
    · exact ⟨rfl, fun _ => rfl⟩
    · cases hh

-- loop.example/guardsonnets/spec.l7Row
noncomputable def S.l7Row_T : List (Nat × D.Spec) := [(42, S.NetOk_s), (49, S.l1In_s)]
def S.l7Row_ann : Nat → List Nat × List Nat
  | 4 => ([1, 5], [4])
  | _ => ([], [])
noncomputable def S.l7Row_F (args : List V) (h : List E) (κ : V → List E → R) : R := funC TD (tableK S.l7Row_T) S.l7Row_ann (drawOk (tableP S.l7Row_T)) FUEL Try.f66 args h κ
noncomputable def S.l7Row_L4 (n : Nat) (σ : St) (k : X → St → R) : R := iterC 0 (fun σ k => denC TD (tableK S.l7Row_T) S.l7Row_ann (drawOk (tableP S.l7Row_T)) 0 FUEL ((findLoop 4 (Try.f66.body.getD .skip)).getD .skip) σ k) [1, 5] [4] n σ k
noncomputable def S.l7Row_k4 (κ : V → List E → R) : X → St → R := (afterC TD (tableK S.l7Row_T) S.l7Row_ann (drawOk (tableP S.l7Row_T)) 0 FUEL 4 (Try.f66.body.getD .skip) (finC TD 0 Try.f66 κ)).getD (fun _ _ => none)
noncomputable def S.l7Row_step4 {α : Type} (x1 : List Int) (x5 : Int) (next_ : Int → α) (out0_ : Bool → α) (out1_ : Unit → α) (fail_ : α) : α :=
  (bif decide (x5 < (↑x1.length : Int)) then (bif decide (0 ≤ x5) && decide (x5 < (↑x1.length : Int)) then (optC (S.l1In_t (eli x1 x5.toNat) 0 2) (fun c_2 => (bif !c_2 then (out0_ false) else (next_ (IntKind.i64.wrap (x5 + 1))))) fail_) else fail_) else (out1_ ()))
theorem S.l7Row_step4_nat {α γ : Type} (g : α → γ) (x1 : List Int) (x5 : Int) (next_ : Int → α) (out0_ : Bool → α) (out1_ : Unit → α) (fail_ : α) : g (S.l7Row_step4 x1 x5 next_ out0_ out1_ fail_) = S.l7Row_step4 x1 x5 (fun s => g (next_ s)) (fun d => g (out0_ d)) (fun d => g (out1_ d)) (g fail_) := by
  unfold S.l7Row_step4; simp only [apply_cnd g, apply_optC g, apply_sumC g]
noncomputable def S.l7Row_run4 (x1 : List Int) : Nat → Int → Option ((Bool) ⊕ (Unit))
  | 0, _ => none
  | n + 1, s_ => S.l7Row_step4 x1 s_ (S.l7Row_run4 x1 n) (fun d => some ((Sum.inl d))) (fun d => some ((Sum.inr d))) none
theorem S.l7Row_L4_run (x1 : List Int) (n : Nat) (s_ : Int) (k : X → St → R) : S.l7Row_L4 n { n := 28, t := [(1, (.ro false (.ints .i64 x1))), (5, (.int .i64 s_))], h := [] } k = optC (S.l7Row_run4 x1 n s_) (fun (r : (Bool) ⊕ (Unit)) => (sumC r (fun (r : Bool) => k (.ret) { n := 28, t := [(4, (.bool r))], h := [] }) (fun (r : Unit) => k (.exit 0) { n := 28, t := [(4, .junk)], h := [] }))) none := by
  induction n generalizing s_ with
  | zero => rfl
  | succ n ih =>
    have hu : S.l7Row_L4 (n + 1) { n := 28, t := [(1, (.ro false (.ints .i64 x1))), (5, (.int .i64 s_))], h := [] } k = S.l7Row_step4 x1 s_ (fun s_ => S.l7Row_L4 n { n := 28, t := [(1, (.ro false (.ints .i64 x1))), (5, (.int .i64 s_))], h := [] } k) (fun d => k (.ret) { n := 28, t := [(4, (.bool d))], h := [] }) (fun d => k (.exit 0) { n := 28, t := [(4, .junk)], h := [] }) none := by
      kernel_rfl
    have hs : (fun s_ : Int => S.l7Row_L4 n { n := 28, t := [(1, (.ro false (.ints .i64 x1))), (5, (.int .i64 s_))], h := [] } k) = fun s_ => optC (S.l7Row_run4 x1 n s_) (fun (r : (Bool) ⊕ (Unit)) => (sumC r (fun (r : Bool) => k (.ret) { n := 28, t := [(4, (.bool r))], h := [] }) (fun (r : Unit) => k (.exit 0) { n := 28, t := [(4, .junk)], h := [] }))) none := funext ih
    rw [hu, hs]
    exact (S.l7Row_step4_nat (fun o => optC o (fun (r : (Bool) ⊕ (Unit)) => (sumC r (fun (r : Bool) => k (.ret) { n := 28, t := [(4, (.bool r))], h := [] }) (fun (r : Unit) => k (.exit 0) { n := 28, t := [(4, .junk)], h := [] }))) none) x1 s_ (S.l7Row_run4 x1 n) (fun d => some ((Sum.inl d))) (fun d => some ((Sum.inr d))) none).symm
noncomputable def S.l7Row_tree {α : Type} (net : List Int) (row : List Int) (leaf0_ : Bool → α) (fail_ : α) : α :=
  (optC (S.NetOk_t net) (fun c_1 => (bif !c_1 then (leaf0_ false) else (bif !(↑row.length : Int) == (↑net.length : Int) then (leaf0_ false) else (optC (S.l7Row_run4 row FUEL 0) (fun qy_3 => (sumC qy_3 (fun (qy_3 : Bool) => (leaf0_ qy_3)) (fun (qy_3 : Unit) => (leaf0_ true)))) fail_)))) fail_)
theorem S.l7Row_tree_nat {α γ : Type} (g : α → γ) (net : List Int) (row : List Int) (leaf0_ : Bool → α) (fail_ : α) : g (S.l7Row_tree net row leaf0_ fail_) = S.l7Row_tree net row (fun d => g (leaf0_ d)) (g fail_) := by
  unfold S.l7Row_tree; simp only [apply_cnd g, apply_optC g, apply_sumC g]
noncomputable def S.l7Row_t (net : List Int) (row : List Int) : Option (Bool) := S.l7Row_tree net row (fun d => some d) none
theorem S.l7Row_den (net : List Int) (row : List Int) (κ : V → List E → R) : S.l7Row_F [.ro false (.ints .i64 net), .ro false (.ints .i64 row)] [] κ = optC (S.l7Row_t net row) (fun (r : Bool) => κ (.bool r) []) none := by
  have hu : S.l7Row_F [.ro false (.ints .i64 net), .ro false (.ints .i64 row)] [] κ = S.l7Row_tree net row (fun d => κ (.bool d) []) none := by
    refine Eq.trans (show S.l7Row_F [.ro false (.ints .i64 net), .ro false (.ints .i64 row)] [] κ = (optC (S.NetOk_t net) (fun c_1 => (bif !c_1 then (κ (.bool false) []) else (bif !(↑row.length : Int) == (↑net.length : Int) then (κ (.bool false) []) else (S.l7Row_L4 FUEL { n := 28, t := [(1, (.ro false (.ints .i64 row))), (5, (.int .i64 0))], h := [] } (S.l7Row_k4 κ))))) none) by kernel_rfl) ?_
    refine optC_congr (fun c_1 => ?_)
    refine cnd_congr ?_ ?_
    · kernel_rfl
    · refine cnd_congr ?_ ?_
      · kernel_rfl
      · refine (S.l7Row_L4_run row FUEL 0 (S.l7Row_k4 κ)).trans (optC_congr (fun qy_3 => ?_))
        rcases qy_3 with qy_3 | qy_3
        · kernel_rfl
        · kernel_rfl
  rw [hu]
  exact (S.l7Row_tree_nat (fun o => optC o (fun (r : Bool) => κ (.bool r) []) none) net row (fun d => some d) none).symm
noncomputable def S.l7Row_s : D.Spec where
  keep := false
  pure := true
  ds := [.int .i64, .int .i64]
  sp := fun args h κ => match args, h with
    | [.ro false (.ints .i64 net), .ro false (.ints .i64 row)], [] => optC (S.l7Row_t net row) (fun (r : Bool) => κ (.bool r) []) none
    | _, _ => none
theorem S.l7Row_ok : SpecOk Try.prog 66 S.l7Row_s := by
  refine SpecOk.of TDok mixed (T := S.l7Row_T) ?_ (ann := S.l7Row_ann) Try.func66 rfl (by decide +kernel) ?_ ?_ ?_
  · intro p hp
    simp only [S.l7Row_T, List.mem_cons, List.not_mem_nil, or_false] at hp
    rcases hp with rfl | rfl
    · exact S.NetOk_ok
    · exact S.l1In_ok
  · intro args h κ r hh
    simp only [S.l7Row_s] at hh
    split at hh
    · exact (S.l7Row_den _ _ κ).trans hh
    · cases hh
  · intro args h κ r hh
    simp only [S.l7Row_s] at hh ⊢
    split at hh
    · exact optC_law2 (F := fun (r : Bool) κ => κ (.bool r) []) (fun b κ r hb => ⟨_, _, hb, fun _ => rfl⟩) hh
    · cases hh
  · intro _ args h κ r hh
    simp only [S.l7Row_s] at hh
    split at hh
    · exact ⟨rfl, fun _ => rfl⟩
    · cases hh

-- loop.example/guardsonnets/spec.l7With
noncomputable def S.l7With_T : List (Nat × D.Spec) := []
def S.l7With_ann : Nat → List Nat × List Nat
  | 3 => ([0, 1, 5, 6], [5])
  | _ => ([], [])
noncomputable def S.l7With_F (args : List V) (h : List E) (κ : V → List E → R) : R := funC TD (tableK S.l7With_T) S.l7With_ann (drawOk (tableP S.l7With_T)) FUEL Try.f86 args h κ
noncomputable def S.l7With_L3 (n : Nat) (σ : St) (k : X → St → R) : R := iterC 0 (fun σ k => denC TD (tableK S.l7With_T) S.l7With_ann (drawOk (tableP S.l7With_T)) 0 FUEL ((findLoop 3 (Try.f86.body.getD .skip)).getD .skip) σ k) [0, 1, 5, 6] [5] n σ k
noncomputable def S.l7With_k3 (κ : V → List E → R) : X → St → R := (afterC TD (tableK S.l7With_T) S.l7With_ann (drawOk (tableP S.l7With_T)) 0 FUEL 3 (Try.f86.body.getD .skip) (finC TD 0 Try.f86 κ)).getD (fun _ _ => none)
noncomputable def S.l7With_step3 {α : Type} (x0 : List Int) (x1 : Int) (x5 : Int) (x6 : Int) (next_ : Int × Int → α) (out0_ : Int → α) (fail_ : α) : α :=
  (bif decide (x6 < (↑x0.length : Int)) then (bif decide (0 ≤ x6) && decide (x6 < (↑x0.length : Int)) then (bif decide (eli x0 x6.toNat ≥ x1) then (bif decide (x6 < 0) then fail_ else (next_ (bits BinOp.or IntKind.i64 x5 (IntKind.i64.wrap (1 * 2 ^ min x6.toNat IntKind.i64.bits)), IntKind.i64.wrap (x6 + 1)))) else (next_ (x5, IntKind.i64.wrap (x6 + 1)))) else fail_) else (out0_ x5))
theorem S.l7With_step3_nat {α γ : Type} (g : α → γ) (x0 : List Int) (x1 : Int) (x5 : Int) (x6 : Int) (next_ : Int × Int → α) (out0_ : Int → α) (fail_ : α) : g (S.l7With_step3 x0 x1 x5 x6 next_ out0_ fail_) = S.l7With_step3 x0 x1 x5 x6 (fun s => g (next_ s)) (fun d => g (out0_ d)) (g fail_) := by
  unfold S.l7With_step3; simp only [apply_cnd g, apply_optC g, apply_sumC g]
noncomputable def S.l7With_run3 (x0 : List Int) (x1 : Int) : Nat → Int × Int → Option (Int)
  | 0, _ => none
  | n + 1, s_ => S.l7With_step3 x0 x1 s_.1 s_.2 (S.l7With_run3 x0 x1 n) (fun d => some d) none
theorem S.l7With_L3_run (x0 : List Int) (x1 : Int) (n : Nat) (s_ : Int × Int) (k : X → St → R) : S.l7With_L3 n { n := 24, t := [(0, (.ro false (.ints .i64 x0))), (1, (.int .i64 x1)), (5, (.int .i64 s_.1)), (6, (.int .i64 s_.2))], h := [] } k = optC (S.l7With_run3 x0 x1 n s_) (fun (r : Int) => k (.exit 0) { n := 24, t := [(5, (.int .i64 r))], h := [] }) none := by
  induction n generalizing s_ with
  | zero => rfl
  | succ n ih =>
    have hu : S.l7With_L3 (n + 1) { n := 24, t := [(0, (.ro false (.ints .i64 x0))), (1, (.int .i64 x1)), (5, (.int .i64 s_.1)), (6, (.int .i64 s_.2))], h := [] } k = S.l7With_step3 x0 x1 s_.1 s_.2 (fun s_ => S.l7With_L3 n { n := 24, t := [(0, (.ro false (.ints .i64 x0))), (1, (.int .i64 x1)), (5, (.int .i64 s_.1)), (6, (.int .i64 s_.2))], h := [] } k) (fun d => k (.exit 0) { n := 24, t := [(5, (.int .i64 d))], h := [] }) none := by
      kernel_rfl
    have hs : (fun s_ : Int × Int => S.l7With_L3 n { n := 24, t := [(0, (.ro false (.ints .i64 x0))), (1, (.int .i64 x1)), (5, (.int .i64 s_.1)), (6, (.int .i64 s_.2))], h := [] } k) = fun s_ => optC (S.l7With_run3 x0 x1 n s_) (fun (r : Int) => k (.exit 0) { n := 24, t := [(5, (.int .i64 r))], h := [] }) none := funext ih
    rw [hu, hs]
    exact (S.l7With_step3_nat (fun o => optC o (fun (r : Int) => k (.exit 0) { n := 24, t := [(5, (.int .i64 r))], h := [] }) none) x0 x1 s_.1 s_.2 (S.l7With_run3 x0 x1 n) (fun d => some d) none).symm
noncomputable def S.l7With_tree {α : Type} (row : List Int) (least : Int) (leaf0_ : Int → α) (fail_ : α) : α :=
  (optC (S.l7With_run3 row least FUEL (0, 0)) (fun qy_1 => (leaf0_ qy_1)) fail_)
theorem S.l7With_tree_nat {α γ : Type} (g : α → γ) (row : List Int) (least : Int) (leaf0_ : Int → α) (fail_ : α) : g (S.l7With_tree row least leaf0_ fail_) = S.l7With_tree row least (fun d => g (leaf0_ d)) (g fail_) := by
  unfold S.l7With_tree; simp only [apply_cnd g, apply_optC g, apply_sumC g]
noncomputable def S.l7With_t (row : List Int) (least : Int) : Option (Int) := S.l7With_tree row least (fun d => some d) none
theorem S.l7With_den (row : List Int) (least : Int) (κ : V → List E → R) : S.l7With_F [.ro false (.ints .i64 row), .int .i64 least] [] κ = optC (S.l7With_t row least) (fun (r : Int) => κ (.int .i64 r) []) none := by
  have hu : S.l7With_F [.ro false (.ints .i64 row), .int .i64 least] [] κ = S.l7With_tree row least (fun d => κ (.int .i64 d) []) none := by
    refine Eq.trans (show S.l7With_F [.ro false (.ints .i64 row), .int .i64 least] [] κ = (S.l7With_L3 FUEL { n := 24, t := [(0, (.ro false (.ints .i64 row))), (1, (.int .i64 least)), (5, (.int .i64 0)), (6, (.int .i64 0))], h := [] } (S.l7With_k3 κ)) by kernel_rfl) ?_
    refine (S.l7With_L3_run row least FUEL (0, 0) (S.l7With_k3 κ)).trans (optC_congr (fun qy_1 => ?_))
    kernel_rfl
  rw [hu]
  exact (S.l7With_tree_nat (fun o => optC o (fun (r : Int) => κ (.int .i64 r) []) none) row least (fun d => some d) none).symm
noncomputable def S.l7With_s : D.Spec where
  keep := false
  pure := true
  ds := [.int .i64, .invalid]
  sp := fun args h κ => match args, h with
    | [.ro false (.ints .i64 row), .int .i64 least], [] => optC (S.l7With_t row least) (fun (r : Int) => κ (.int .i64 r) []) none
    | _, _ => none
theorem S.l7With_ok : SpecOk Try.prog 86 S.l7With_s := by
  refine SpecOk.of TDok mixed (T := S.l7With_T) ?_ (ann := S.l7With_ann) Try.func86 rfl (by decide +kernel) ?_ ?_ ?_
  · intro p hp; cases hp
  · intro args h κ r hh
    simp only [S.l7With_s] at hh
    split at hh
    · exact (S.l7With_den _ _ κ).trans hh
    · cases hh
  · intro args h κ r hh
    simp only [S.l7With_s] at hh ⊢
    split at hh
    · exact optC_law2 (F := fun (r : Int) κ => κ (.int .i64 r) []) (fun b κ r hb => ⟨_, _, hb, fun _ => rfl⟩) hh
    · cases hh
  · intro _ args h κ r hh
    simp only [S.l7With_s] at hh
    split at hh
    · exact ⟨rfl, fun _ => rfl⟩
    · cases hh


end Go.Proofs.Ytmchclkdligifaa
