/- Twins of the translated functions, with their proofs. Conditions: none. -/
import Derived.Test.YtmchclkdligifaaBzT2
set_option linter.unusedVariables false
set_option linter.unusedSimpArgs false
namespace Go.Proofs.Ytmchclkdligifaa
open D Go.RowKit
-- loop.example/guardsonnets/spec.l8Leave
noncomputable def S.l8Leave_T : List (Nat × D.Spec) := [(86, S.l7With_s), (52, S.l2Watch_s)]
def S.l8Leave_ann : Nat → List Nat × List Nat
  | 2 => ([0, 1, 2, 7], [6])
  | _ => ([], [])
noncomputable def S.l8Leave_F (args : List V) (h : List E) (κ : V → List E → R) : R := funC TD (tableK S.l8Leave_T) S.l8Leave_ann (drawOk (tableP S.l8Leave_T)) FUEL Try.f67 args h κ
noncomputable def S.l8Leave_L2 (n : Nat) (σ : St) (k : X → St → R) : R := iterC 0 (fun σ k => denC TD (tableK S.l8Leave_T) S.l8Leave_ann (drawOk (tableP S.l8Leave_T)) 0 FUEL ((findLoop 2 (Try.f67.body.getD .skip)).getD .skip) σ k) [0, 1, 2, 7] [6] n σ k
noncomputable def S.l8Leave_k2 (κ : V → List E → R) : X → St → R := (afterC TD (tableK S.l8Leave_T) S.l8Leave_ann (drawOk (tableP S.l8Leave_T)) 0 FUEL 2 (Try.f67.body.getD .skip) (finC TD 0 Try.f67 κ)).getD (fun _ _ => none)
noncomputable def S.l8Leave_step2 {α : Type} (x0 : List Int) (x1 : List Int) (x2 : Int) (x7 : Int) (next_ : Int → α) (out0_ : Bool → α) (out1_ : Unit → α) (fail_ : α) : α :=
  (bif decide (x7 < (↑x1.length : Int)) then (bif decide (0 ≤ x7) && decide (x7 < (↑x1.length : Int)) then (bif decide (eli x1 x7.toNat > 0) then (bif decide (0 ≤ x2) && decide (x2 < (↑x0.length : Int)) then (bif decide (x7 < 0) then fail_ else (bif ((eli x0 x2.toNat).fdiv (2 ^ min x7.toNat IntKind.i64.bits)).tmod 2 == 1 then (bif small ([] ++ x1).length then (bif decide (0 ≤ x7) && decide (x7 < (↑([] ++ x1).length : Int)) then (bif decide (x7.toNat < ([] ++ x1).length) then (bif decide (0 ≤ x7) && decide (x7 < (↑([] ++ x1).length : Int)) then (bif decide (x7.toNat < ([] ++ x1).length) then (bif decide (0 ≤ x2) && decide (x2 < (↑(([] ++ x1).set x7.toNat (IntKind.i64.wrap (eli ([] ++ x1) x7.toNat - 1))).length : Int)) then (bif decide (x2.toNat < (([] ++ x1).set x7.toNat (IntKind.i64.wrap (eli ([] ++ x1) x7.toNat - 1))).length) then (optC (S.l7With_t ((([] ++ x1).set x7.toNat (IntKind.i64.wrap (eli ([] ++ x1) x7.toNat - 1))).set x2.toNat 1) 1) (fun c_1 => (optC (S.l2Watch_t x0 c_1) (fun c_2 => (bif c_2 then (out0_ true) else (next_ (IntKind.i64.wrap (x7 + 1))))) fail_)) fail_) else fail_) else fail_) else fail_) else fail_) else fail_) else fail_) else fail_) else (next_ (IntKind.i64.wrap (x7 + 1))))) else fail_) else (next_ (IntKind.i64.wrap (x7 + 1)))) else fail_) else (out1_ ()))
theorem S.l8Leave_step2_nat {α γ : Type} (g : α → γ) (x0 : List Int) (x1 : List Int) (x2 : Int) (x7 : Int) (next_ : Int → α) (out0_ : Bool → α) (out1_ : Unit → α) (fail_ : α) : g (S.l8Leave_step2 x0 x1 x2 x7 next_ out0_ out1_ fail_) = S.l8Leave_step2 x0 x1 x2 x7 (fun s => g (next_ s)) (fun d => g (out0_ d)) (fun d => g (out1_ d)) (g fail_) := by
  unfold S.l8Leave_step2; simp only [apply_cnd g, apply_optC g, apply_sumC g]
noncomputable def S.l8Leave_run2 (x0 : List Int) (x1 : List Int) (x2 : Int) : Nat → Int → Option ((Bool) ⊕ (Unit))
  | 0, _ => none
  | n + 1, s_ => S.l8Leave_step2 x0 x1 x2 s_ (S.l8Leave_run2 x0 x1 x2 n) (fun d => some ((Sum.inl d))) (fun d => some ((Sum.inr d))) none
theorem S.l8Leave_L2_run (x0 : List Int) (x1 : List Int) (x2 : Int) (n : Nat) (s_ : Int) (k : X → St → R) : S.l8Leave_L2 n { n := 48, t := [(0, (.ro false (.ints .i64 x0))), (1, (.ro false (.ints .i64 x1))), (2, (.int .i64 x2)), (7, (.int .i64 s_))], h := [] } k = optC (S.l8Leave_run2 x0 x1 x2 n s_) (fun (r : (Bool) ⊕ (Unit)) => (sumC r (fun (r : Bool) => k (.ret) { n := 48, t := [(6, (.bool r))], h := [] }) (fun (r : Unit) => k (.exit 0) { n := 48, t := [(6, .junk)], h := [] }))) none := by
  induction n generalizing s_ with
  | zero => rfl
  | succ n ih =>
    have hu : S.l8Leave_L2 (n + 1) { n := 48, t := [(0, (.ro false (.ints .i64 x0))), (1, (.ro false (.ints .i64 x1))), (2, (.int .i64 x2)), (7, (.int .i64 s_))], h := [] } k = S.l8Leave_step2 x0 x1 x2 s_ (fun s_ => S.l8Leave_L2 n { n := 48, t := [(0, (.ro false (.ints .i64 x0))), (1, (.ro false (.ints .i64 x1))), (2, (.int .i64 x2)), (7, (.int .i64 s_))], h := [] } k) (fun d => k (.ret) { n := 48, t := [(6, (.bool d))], h := [] }) (fun d => k (.exit 0) { n := 48, t := [(6, .junk)], h := [] }) none := by
      kernel_rfl
    have hs : (fun s_ : Int => S.l8Leave_L2 n { n := 48, t := [(0, (.ro false (.ints .i64 x0))), (1, (.ro false (.ints .i64 x1))), (2, (.int .i64 x2)), (7, (.int .i64 s_))], h := [] } k) = fun s_ => optC (S.l8Leave_run2 x0 x1 x2 n s_) (fun (r : (Bool) ⊕ (Unit)) => (sumC r (fun (r : Bool) => k (.ret) { n := 48, t := [(6, (.bool r))], h := [] }) (fun (r : Unit) => k (.exit 0) { n := 48, t := [(6, .junk)], h := [] }))) none := funext ih
    rw [hu, hs]
    exact (S.l8Leave_step2_nat (fun o => optC o (fun (r : (Bool) ⊕ (Unit)) => (sumC r (fun (r : Bool) => k (.ret) { n := 48, t := [(6, (.bool r))], h := [] }) (fun (r : Unit) => k (.exit 0) { n := 48, t := [(6, .junk)], h := [] }))) none) x0 x1 x2 s_ (S.l8Leave_run2 x0 x1 x2 n) (fun d => some ((Sum.inl d))) (fun d => some ((Sum.inr d))) none).symm
noncomputable def S.l8Leave_tree {α : Type} (net : List Int) (row : List Int) (to_ : Int) (leaf0_ : Bool → α) (fail_ : α) : α :=
  (optC (S.l8Leave_run2 net row to_ FUEL 0) (fun qy_3 => (sumC qy_3 (fun (qy_3 : Bool) => (leaf0_ qy_3)) (fun (qy_3 : Unit) => (leaf0_ false)))) fail_)
theorem S.l8Leave_tree_nat {α γ : Type} (g : α → γ) (net : List Int) (row : List Int) (to_ : Int) (leaf0_ : Bool → α) (fail_ : α) : g (S.l8Leave_tree net row to_ leaf0_ fail_) = S.l8Leave_tree net row to_ (fun d => g (leaf0_ d)) (g fail_) := by
  unfold S.l8Leave_tree; simp only [apply_cnd g, apply_optC g, apply_sumC g]
noncomputable def S.l8Leave_t (net : List Int) (row : List Int) (to_ : Int) : Option (Bool) := S.l8Leave_tree net row to_ (fun d => some d) none
theorem S.l8Leave_den (net : List Int) (row : List Int) (to_ : Int) (κ : V → List E → R) : S.l8Leave_F [.ro false (.ints .i64 net), .ro false (.ints .i64 row), .int .i64 to_] [] κ = optC (S.l8Leave_t net row to_) (fun (r : Bool) => κ (.bool r) []) none := by
  have hu : S.l8Leave_F [.ro false (.ints .i64 net), .ro false (.ints .i64 row), .int .i64 to_] [] κ = S.l8Leave_tree net row to_ (fun d => κ (.bool d) []) none := by
    refine Eq.trans (show S.l8Leave_F [.ro false (.ints .i64 net), .ro false (.ints .i64 row), .int .i64 to_] [] κ = (S.l8Leave_L2 FUEL { n := 48, t := [(0, (.ro false (.ints .i64 net))), (1, (.ro false (.ints .i64 row))), (2, (.int .i64 to_)), (7, (.int .i64 0))], h := [] } (S.l8Leave_k2 κ)) by kernel_rfl) ?_
    refine (S.l8Leave_L2_run net row to_ FUEL 0 (S.l8Leave_k2 κ)).trans (optC_congr (fun qy_3 => ?_))
    rcases qy_3 with qy_3 | qy_3
    · kernel_rfl
    · kernel_rfl
  rw [hu]
  exact (S.l8Leave_tree_nat (fun o => optC o (fun (r : Bool) => κ (.bool r) []) none) net row to_ (fun d => some d) none).symm
noncomputable def S.l8Leave_s : D.Spec where
  keep := false
  pure := true
  ds := [.int .i64, .int .i64, .invalid]
  sp := fun args h κ => match args, h with
    | [.ro false (.ints .i64 net), .ro false (.ints .i64 row), .int .i64 to_], [] => optC (S.l8Leave_t net row to_) (fun (r : Bool) => κ (.bool r) []) none
    | _, _ => none
theorem S.l8Leave_ok : SpecOk Try.prog 67 S.l8Leave_s := by
  refine SpecOk.of TDok mixed (T := S.l8Leave_T) ?_ (ann := S.l8Leave_ann) Try.func67 rfl (by decide +kernel) ?_ ?_ ?_
  · intro p hp
    simp only [S.l8Leave_T, List.mem_cons, List.not_mem_nil, or_false] at hp
    rcases hp with rfl | rfl
    · exact S.l7With_ok
    · exact S.l2Watch_ok
  · intro args h κ r hh
    simp only [S.l8Leave_s] at hh
    split at hh
    · exact (S.l8Leave_den _ _ _ κ).trans hh
    · cases hh
  · intro args h κ r hh
    simp only [S.l8Leave_s] at hh ⊢
    split at hh
    · exact optC_law2 (F := fun (r : Bool) κ => κ (.bool r) []) (fun b κ r hb => ⟨_, _, hb, fun _ => rfl⟩) hh
    · cases hh
  · intro _ args h κ r hh
    simp only [S.l8Leave_s] at hh
    split at hh
    · exact ⟨rfl, fun _ => rfl⟩
    · cases hh

-- loop.example/guardsonnets/spec.WeakOk
noncomputable def S.WeakOk_T : List (Nat × D.Spec) := [(66, S.l7Row_s), (67, S.l8Leave_s)]
def S.WeakOk_ann : Nat → List Nat × List Nat
  | 4 => ([0, 1, 5], [4])
  | _ => ([], [])
noncomputable def S.WeakOk_F (args : List V) (h : List E) (κ : V → List E → R) : R := funC TD (tableK S.WeakOk_T) S.WeakOk_ann (drawOk (tableP S.WeakOk_T)) FUEL Try.f32 args h κ
noncomputable def S.WeakOk_L4 (n : Nat) (σ : St) (k : X → St → R) : R := iterC 0 (fun σ k => denC TD (tableK S.WeakOk_T) S.WeakOk_ann (drawOk (tableP S.WeakOk_T)) 0 FUEL ((findLoop 4 (Try.f32.body.getD .skip)).getD .skip) σ k) [0, 1, 5] [4] n σ k
noncomputable def S.WeakOk_k4 (κ : V → List E → R) : X → St → R := (afterC TD (tableK S.WeakOk_T) S.WeakOk_ann (drawOk (tableP S.WeakOk_T)) 0 FUEL 4 (Try.f32.body.getD .skip) (finC TD 0 Try.f32 κ)).getD (fun _ _ => none)
noncomputable def S.WeakOk_step4 {α : Type} (x0 : List Int) (x1 : List Int) (x5 : Int) (next_ : Int → α) (out0_ : Bool → α) (out1_ : Unit → α) (fail_ : α) : α :=
  (bif decide (x5 < (↑x1.length : Int)) then (bif decide (0 ≤ x5) && decide (x5 < (↑x1.length : Int)) then (bif eli x1 x5.toNat == 0 then (optC (S.l8Leave_t x0 x1 x5) (fun c_2 => (bif !c_2 then (out0_ false) else (next_ (IntKind.i64.wrap (x5 + 1))))) fail_) else (next_ (IntKind.i64.wrap (x5 + 1)))) else fail_) else (out1_ ()))
theorem S.WeakOk_step4_nat {α γ : Type} (g : α → γ) (x0 : List Int) (x1 : List Int) (x5 : Int) (next_ : Int → α) (out0_ : Bool → α) (out1_ : Unit → α) (fail_ : α) : g (S.WeakOk_step4 x0 x1 x5 next_ out0_ out1_ fail_) = S.WeakOk_step4 x0 x1 x5 (fun s => g (next_ s)) (fun d => g (out0_ d)) (fun d => g (out1_ d)) (g fail_) := by
  unfold S.WeakOk_step4; simp only [apply_cnd g, apply_optC g, apply_sumC g]
noncomputable def S.WeakOk_run4 (x0 : List Int) (x1 : List Int) : Nat → Int → Option ((Bool) ⊕ (Unit))
  | 0, _ => none
  | n + 1, s_ => S.WeakOk_step4 x0 x1 s_ (S.WeakOk_run4 x0 x1 n) (fun d => some ((Sum.inl d))) (fun d => some ((Sum.inr d))) none
theorem S.WeakOk_L4_run (x0 : List Int) (x1 : List Int) (n : Nat) (s_ : Int) (k : X → St → R) : S.WeakOk_L4 n { n := 28, t := [(0, (.ro false (.ints .i64 x0))), (1, (.ro false (.ints .i64 x1))), (5, (.int .i64 s_))], h := [] } k = optC (S.WeakOk_run4 x0 x1 n s_) (fun (r : (Bool) ⊕ (Unit)) => (sumC r (fun (r : Bool) => k (.ret) { n := 28, t := [(4, (.bool r))], h := [] }) (fun (r : Unit) => k (.exit 0) { n := 28, t := [(4, .junk)], h := [] }))) none := by
  induction n generalizing s_ with
  | zero => rfl
  | succ n ih =>
    have hu : S.WeakOk_L4 (n + 1) { n := 28, t := [(0, (.ro false (.ints .i64 x0))), (1, (.ro false (.ints .i64 x1))), (5, (.int .i64 s_))], h := [] } k = S.WeakOk_step4 x0 x1 s_ (fun s_ => S.WeakOk_L4 n { n := 28, t := [(0, (.ro false (.ints .i64 x0))), (1, (.ro false (.ints .i64 x1))), (5, (.int .i64 s_))], h := [] } k) (fun d => k (.ret) { n := 28, t := [(4, (.bool d))], h := [] }) (fun d => k (.exit 0) { n := 28, t := [(4, .junk)], h := [] }) none := by
      kernel_rfl
    have hs : (fun s_ : Int => S.WeakOk_L4 n { n := 28, t := [(0, (.ro false (.ints .i64 x0))), (1, (.ro false (.ints .i64 x1))), (5, (.int .i64 s_))], h := [] } k) = fun s_ => optC (S.WeakOk_run4 x0 x1 n s_) (fun (r : (Bool) ⊕ (Unit)) => (sumC r (fun (r : Bool) => k (.ret) { n := 28, t := [(4, (.bool r))], h := [] }) (fun (r : Unit) => k (.exit 0) { n := 28, t := [(4, .junk)], h := [] }))) none := funext ih
    rw [hu, hs]
    exact (S.WeakOk_step4_nat (fun o => optC o (fun (r : (Bool) ⊕ (Unit)) => (sumC r (fun (r : Bool) => k (.ret) { n := 28, t := [(4, (.bool r))], h := [] }) (fun (r : Unit) => k (.exit 0) { n := 28, t := [(4, .junk)], h := [] }))) none) x0 x1 s_ (S.WeakOk_run4 x0 x1 n) (fun d => some ((Sum.inl d))) (fun d => some ((Sum.inr d))) none).symm
noncomputable def S.WeakOk_tree {α : Type} (net : List Int) (row : List Int) (leaf0_ : Bool → α) (fail_ : α) : α :=
  (optC (S.l7Row_t net row) (fun c_1 => (bif !c_1 then (leaf0_ false) else (optC (S.WeakOk_run4 net row FUEL 0) (fun qy_3 => (sumC qy_3 (fun (qy_3 : Bool) => (leaf0_ qy_3)) (fun (qy_3 : Unit) => (leaf0_ true)))) fail_))) fail_)
theorem S.WeakOk_tree_nat {α γ : Type} (g : α → γ) (net : List Int) (row : List Int) (leaf0_ : Bool → α) (fail_ : α) : g (S.WeakOk_tree net row leaf0_ fail_) = S.WeakOk_tree net row (fun d => g (leaf0_ d)) (g fail_) := by
  unfold S.WeakOk_tree; simp only [apply_cnd g, apply_optC g, apply_sumC g]
noncomputable def S.WeakOk_t (net : List Int) (row : List Int) : Option (Bool) := S.WeakOk_tree net row (fun d => some d) none
theorem S.WeakOk_den (net : List Int) (row : List Int) (κ : V → List E → R) : S.WeakOk_F [.ro false (.ints .i64 net), .ro false (.ints .i64 row)] [] κ = optC (S.WeakOk_t net row) (fun (r : Bool) => κ (.bool r) []) none := by
  have hu : S.WeakOk_F [.ro false (.ints .i64 net), .ro false (.ints .i64 row)] [] κ = S.WeakOk_tree net row (fun d => κ (.bool d) []) none := by
    refine Eq.trans (show S.WeakOk_F [.ro false (.ints .i64 net), .ro false (.ints .i64 row)] [] κ = (optC (S.l7Row_t net row) (fun c_1 => (bif !c_1 then (κ (.bool false) []) else (S.WeakOk_L4 FUEL { n := 28, t := [(0, (.ro false (.ints .i64 net))), (1, (.ro false (.ints .i64 row))), (5, (.int .i64 0))], h := [] } (S.WeakOk_k4 κ)))) none) by kernel_rfl) ?_
    refine optC_congr (fun c_1 => ?_)
    refine cnd_congr ?_ ?_
    · kernel_rfl
    · refine (S.WeakOk_L4_run net row FUEL 0 (S.WeakOk_k4 κ)).trans (optC_congr (fun qy_3 => ?_))
      rcases qy_3 with qy_3 | qy_3
      · kernel_rfl
      · kernel_rfl
  rw [hu]
  exact (S.WeakOk_tree_nat (fun o => optC o (fun (r : Bool) => κ (.bool r) []) none) net row (fun d => some d) none).symm
noncomputable def S.WeakOk_s : D.Spec where
  keep := false
  pure := true
  ds := [.int .i64, .int .i64]
  sp := fun args h κ => match args, h with
    | [.ro false (.ints .i64 net), .ro false (.ints .i64 row)], [] => optC (S.WeakOk_t net row) (fun (r : Bool) => κ (.bool r) []) none
    | _, _ => none
theorem S.WeakOk_ok : SpecOk Try.prog 32 S.WeakOk_s := by
  refine SpecOk.of TDok mixed (T := S.WeakOk_T) ?_ (ann := S.WeakOk_ann) Try.func32 rfl (by decide +kernel) ?_ ?_ ?_
  · intro p hp
    simp only [S.WeakOk_T, List.mem_cons, List.not_mem_nil, or_false] at hp
    rcases hp with rfl | rfl
    · exact S.l7Row_ok
    · exact S.l8Leave_ok
  · intro args h κ r hh
    simp only [S.WeakOk_s] at hh
    split at hh
    · exact (S.WeakOk_den _ _ κ).trans hh
    · cases hh
  · intro args h κ r hh
    simp only [S.WeakOk_s] at hh ⊢
    split at hh
    · exact optC_law2 (F := fun (r : Bool) κ => κ (.bool r) []) (fun b κ r hb => ⟨_, _, hb, fun _ => rfl⟩) hh
    · cases hh
  · intro _ args h κ r hh
    simp only [S.WeakOk_s] at hh
    split at hh
    · exact ⟨rfl, fun _ => rfl⟩
    · cases hh

-- loop.example/guardsonnets/laws.placesWith
noncomputable def L.placesWith_T : List (Nat × D.Spec) := []
def L.placesWith_ann : Nat → List Nat × List Nat
  | 3 => ([0, 1, 5, 6], [5])
  | _ => ([], [])
noncomputable def L.placesWith_F (args : List V) (h : List E) (κ : V → List E → R) : R := funC TD (tableK L.placesWith_T) L.placesWith_ann (drawOk (tableP L.placesWith_T)) FUEL Try.f33 args h κ
noncomputable def L.placesWith_L3 (n : Nat) (σ : St) (k : X → St → R) : R := iterC 0 (fun σ k => denC TD (tableK L.placesWith_T) L.placesWith_ann (drawOk (tableP L.placesWith_T)) 0 FUEL ((findLoop 3 (Try.f33.body.getD .skip)).getD .skip) σ k) [0, 1, 5, 6] [5] n σ k
noncomputable def L.placesWith_k3 (κ : V → List E → R) : X → St → R := (afterC TD (tableK L.placesWith_T) L.placesWith_ann (drawOk (tableP L.placesWith_T)) 0 FUEL 3 (Try.f33.body.getD .skip) (finC TD 0 Try.f33 κ)).getD (fun _ _ => none)
noncomputable def L.placesWith_step3 {α : Type} (x0 : List Int) (x1 : Int) (x5 : Int) (x6 : Int) (next_ : Int × Int → α) (out0_ : Int → α) (fail_ : α) : α :=
  (bif decide (x6 < (↑x0.length : Int)) then (bif decide (0 ≤ x6) && decide (x6 < (↑x0.length : Int)) then (bif decide (eli x0 x6.toNat ≥ x1) then (bif decide (x6 < 0) then fail_ else (next_ (bits BinOp.or IntKind.i64 x5 (IntKind.i64.wrap (1 * 2 ^ min x6.toNat IntKind.i64.bits)), IntKind.i64.wrap (x6 + 1)))) else (next_ (x5, IntKind.i64.wrap (x6 + 1)))) else fail_) else (out0_ x5))
theorem L.placesWith_step3_nat {α γ : Type} (g : α → γ) (x0 : List Int) (x1 : Int) (x5 : Int) (x6 : Int) (next_ : Int × Int → α) (out0_ : Int → α) (fail_ : α) : g (L.placesWith_step3 x0 x1 x5 x6 next_ out0_ fail_) = L.placesWith_step3 x0 x1 x5 x6 (fun s => g (next_ s)) (fun d => g (out0_ d)) (g fail_) := by
  unfold L.placesWith_step3; simp only [apply_cnd g, apply_optC g, apply_sumC g]
noncomputable def L.placesWith_run3 (x0 : List Int) (x1 : Int) : Nat → Int × Int → Option (Int)
  | 0, _ => none
  | n + 1, s_ => L.placesWith_step3 x0 x1 s_.1 s_.2 (L.placesWith_run3 x0 x1 n) (fun d => some d) none
theorem L.placesWith_L3_run (x0 : List Int) (x1 : Int) (n : Nat) (s_ : Int × Int) (k : X → St → R) : L.placesWith_L3 n { n := 24, t := [(0, (.ro false (.ints .i64 x0))), (1, (.int .i64 x1)), (5, (.int .i64 s_.1)), (6, (.int .i64 s_.2))], h := [] } k = optC (L.placesWith_run3 x0 x1 n s_) (fun (r : Int) => k (.exit 0) { n := 24, t := [(5, (.int .i64 r))], h := [] }) none := by
  induction n generalizing s_ with
  | zero => rfl
  | succ n ih =>
    have hu : L.placesWith_L3 (n + 1) { n := 24, t := [(0, (.ro false (.ints .i64 x0))), (1, (.int .i64 x1)), (5, (.int .i64 s_.1)), (6, (.int .i64 s_.2))], h := [] } k = L.placesWith_step3 x0 x1 s_.1 s_.2 (fun s_ => L.placesWith_L3 n { n := 24, t := [(0, (.ro false (.ints .i64 x0))), (1, (.int .i64 x1)), (5, (.int .i64 s_.1)), (6, (.int .i64 s_.2))], h := [] } k) (fun d => k (.exit 0) { n := 24, t := [(5, (.int .i64 d))], h := [] }) none := by
      kernel_rfl
    have hs : (fun s_ : Int × Int => L.placesWith_L3 n { n := 24, t := [(0, (.ro false (.ints .i64 x0))), (1, (.int .i64 x1)), (5, (.int .i64 s_.1)), (6, (.int .i64 s_.2))], h := [] } k) = fun s_ => optC (L.placesWith_run3 x0 x1 n s_) (fun (r : Int) => k (.exit 0) { n := 24, t := [(5, (.int .i64 r))], h := [] }) none := funext ih
    rw [hu, hs]
    exact (L.placesWith_step3_nat (fun o => optC o (fun (r : Int) => k (.exit 0) { n := 24, t := [(5, (.int .i64 r))], h := [] }) none) x0 x1 s_.1 s_.2 (L.placesWith_run3 x0 x1 n) (fun d => some d) none).symm
noncomputable def L.placesWith_tree {α : Type} (row : List Int) (least : Int) (leaf0_ : Int → α) (fail_ : α) : α :=
  (optC (L.placesWith_run3 row least FUEL (0, 0)) (fun qy_1 => (leaf0_ qy_1)) fail_)
theorem L.placesWith_tree_nat {α γ : Type} (g : α → γ) (row : List Int) (least : Int) (leaf0_ : Int → α) (fail_ : α) : g (L.placesWith_tree row least leaf0_ fail_) = L.placesWith_tree row least (fun d => g (leaf0_ d)) (g fail_) := by
  unfold L.placesWith_tree; simp only [apply_cnd g, apply_optC g, apply_sumC g]
noncomputable def L.placesWith_t (row : List Int) (least : Int) : Option (Int) := L.placesWith_tree row least (fun d => some d) none
theorem L.placesWith_den (row : List Int) (least : Int) (κ : V → List E → R) : L.placesWith_F [.ro false (.ints .i64 row), .int .i64 least] [] κ = optC (L.placesWith_t row least) (fun (r : Int) => κ (.int .i64 r) []) none := by
  have hu : L.placesWith_F [.ro false (.ints .i64 row), .int .i64 least] [] κ = L.placesWith_tree row least (fun d => κ (.int .i64 d) []) none := by
    refine Eq.trans (show L.placesWith_F [.ro false (.ints .i64 row), .int .i64 least] [] κ = (L.placesWith_L3 FUEL { n := 24, t := [(0, (.ro false (.ints .i64 row))), (1, (.int .i64 least)), (5, (.int .i64 0)), (6, (.int .i64 0))], h := [] } (L.placesWith_k3 κ)) by kernel_rfl) ?_
    refine (L.placesWith_L3_run row least FUEL (0, 0) (L.placesWith_k3 κ)).trans (optC_congr (fun qy_1 => ?_))
    kernel_rfl
  rw [hu]
  exact (L.placesWith_tree_nat (fun o => optC o (fun (r : Int) => κ (.int .i64 r) []) none) row least (fun d => some d) none).symm
noncomputable def L.placesWith_s : D.Spec where
  keep := false
  pure := true
  ds := [.int .i64, .invalid]
  sp := fun args h κ => match args, h with
    | [.ro false (.ints .i64 row), .int .i64 least], [] => optC (L.placesWith_t row least) (fun (r : Int) => κ (.int .i64 r) []) none
    | _, _ => none
theorem L.placesWith_ok : SpecOk Try.prog 33 L.placesWith_s := by
  refine SpecOk.of TDok mixed (T := L.placesWith_T) ?_ (ann := L.placesWith_ann) Try.func33 rfl (by decide +kernel) ?_ ?_ ?_
  · intro p hp; cases hp
  · intro args h κ r hh
    simp only [L.placesWith_s] at hh
    split at hh
    · exact (L.placesWith_den _ _ κ).trans hh
    · cases hh
  · intro args h κ r hh
    simp only [L.placesWith_s] at hh ⊢
    split at hh
    · exact optC_law2 (F := fun (r : Int) κ => κ (.int .i64 r) []) (fun b κ r hb => ⟨_, _, hb, fun _ => rfl⟩) hh
    · cases hh
  · intro _ args h κ r hh
    simp only [L.placesWith_s] at hh
    split at hh
    · exact ⟨rfl, fun _ => rfl⟩
    · cases hh

-- loop.example/guardsonnets/impl.nextTo
noncomputable def I.nextTo_T : List (Nat × D.Spec) := [(60, I.hasPlace_s)]
def I.nextTo_ann : Nat → List Nat × List Nat
  | 3 => ([0, 1, 5, 6], [5])
  | _ => ([], [])
noncomputable def I.nextTo_F (args : List V) (h : List E) (κ : V → List E → R) : R := funC TD (tableK I.nextTo_T) I.nextTo_ann (drawOk (tableP I.nextTo_T)) FUEL Try.f88 args h κ
noncomputable def I.nextTo_L3 (n : Nat) (σ : St) (k : X → St → R) : R := iterC 0 (fun σ k => denC TD (tableK I.nextTo_T) I.nextTo_ann (drawOk (tableP I.nextTo_T)) 0 FUEL ((findLoop 3 (Try.f88.body.getD .skip)).getD .skip) σ k) [0, 1, 5, 6] [5] n σ k
noncomputable def I.nextTo_k3 (κ : V → List E → R) : X → St → R := (afterC TD (tableK I.nextTo_T) I.nextTo_ann (drawOk (tableP I.nextTo_T)) 0 FUEL 3 (Try.f88.body.getD .skip) (finC TD 0 Try.f88 κ)).getD (fun _ _ => none)
noncomputable def I.nextTo_step3 {α : Type} (x0 : List Int) (x1 : Int) (x5 : Int) (x6 : Int) (next_ : Int × Int → α) (out0_ : Int → α) (fail_ : α) : α :=
  (bif decide (x6 < (↑x0.length : Int)) then (optC (I.hasPlace_t x1 x6) (fun c_1 => (bif c_1 then (bif decide (0 ≤ x6) && decide (x6 < (↑x0.length : Int)) then (next_ (bits BinOp.or IntKind.i64 x5 (eli x0 x6.toNat), IntKind.i64.wrap (x6 + 1))) else fail_) else (next_ (x5, IntKind.i64.wrap (x6 + 1))))) fail_) else (out0_ x5))
theorem I.nextTo_step3_nat {α γ : Type} (g : α → γ) (x0 : List Int) (x1 : Int) (x5 : Int) (x6 : Int) (next_ : Int × Int → α) (out0_ : Int → α) (fail_ : α) : g (I.nextTo_step3 x0 x1 x5 x6 next_ out0_ fail_) = I.nextTo_step3 x0 x1 x5 x6 (fun s => g (next_ s)) (fun d => g (out0_ d)) (g fail_) := by
  unfold I.nextTo_step3; simp only [apply_cnd g, apply_optC g, apply_sumC g]
noncomputable def I.nextTo_run3 (x0 : List Int) (x1 : Int) : Nat → Int × Int → Option (Int)
  | 0, _ => none
  | n + 1, s_ => I.nextTo_step3 x0 x1 s_.1 s_.2 (I.nextTo_run3 x0 x1 n) (fun d => some d) none
theorem I.nextTo_L3_run (x0 : List Int) (x1 : Int) (n : Nat) (s_ : Int × Int) (k : X → St → R) : I.nextTo_L3 n { n := 23, t := [(0, (.ro false (.ints .i64 x0))), (1, (.int .i64 x1)), (5, (.int .i64 s_.1)), (6, (.int .i64 s_.2))], h := [] } k = optC (I.nextTo_run3 x0 x1 n s_) (fun (r : Int) => k (.exit 0) { n := 23, t := [(5, (.int .i64 r))], h := [] }) none := by
  induction n generalizing s_ with
  | zero => rfl
  | succ n ih =>
    have hu : I.nextTo_L3 (n + 1) { n := 23, t := [(0, (.ro false (.ints .i64 x0))), (1, (.int .i64 x1)), (5, (.int .i64 s_.1)), (6, (.int .i64 s_.2))], h := [] } k = I.nextTo_step3 x0 x1 s_.1 s_.2 (fun s_ => I.nextTo_L3 n { n := 23, t := [(0, (.ro false (.ints .i64 x0))), (1, (.int .i64 x1)), (5, (.int .i64 s_.1)), (6, (.int .i64 s_.2))], h := [] } k) (fun d => k (.exit 0) { n := 23, t := [(5, (.int .i64 d))], h := [] }) none := by
      kernel_rfl
    have hs : (fun s_ : Int × Int => I.nextTo_L3 n { n := 23, t := [(0, (.ro false (.ints .i64 x0))), (1, (.int .i64 x1)), (5, (.int .i64 s_.1)), (6, (.int .i64 s_.2))], h := [] } k) = fun s_ => optC (I.nextTo_run3 x0 x1 n s_) (fun (r : Int) => k (.exit 0) { n := 23, t := [(5, (.int .i64 r))], h := [] }) none := funext ih
    rw [hu, hs]
    exact (I.nextTo_step3_nat (fun o => optC o (fun (r : Int) => k (.exit 0) { n := 23, t := [(5, (.int .i64 r))], h := [] }) none) x0 x1 s_.1 s_.2 (I.nextTo_run3 x0 x1 n) (fun d => some d) none).symm
noncomputable def I.nextTo_tree {α : Type} (net : List Int) (set_ : Int) (leaf0_ : Int → α) (fail_ : α) : α :=
  (optC (I.nextTo_run3 net set_ FUEL (0, 0)) (fun qy_2 => (leaf0_ qy_2)) fail_)
theorem I.nextTo_tree_nat {α γ : Type} (g : α → γ) (net : List Int) (set_ : Int) (leaf0_ : Int → α) (fail_ : α) : g (I.nextTo_tree net set_ leaf0_ fail_) = I.nextTo_tree net set_ (fun d => g (leaf0_ d)) (g fail_) := by
  unfold I.nextTo_tree; simp only [apply_cnd g, apply_optC g, apply_sumC g]
noncomputable def I.nextTo_t (net : List Int) (set_ : Int) : Option (Int) := I.nextTo_tree net set_ (fun d => some d) none
theorem I.nextTo_den (net : List Int) (set_ : Int) (κ : V → List E → R) : I.nextTo_F [.ro false (.ints .i64 net), .int .i64 set_] [] κ = optC (I.nextTo_t net set_) (fun (r : Int) => κ (.int .i64 r) []) none := by
  have hu : I.nextTo_F [.ro false (.ints .i64 net), .int .i64 set_] [] κ = I.nextTo_tree net set_ (fun d => κ (.int .i64 d) []) none := by
    refine Eq.trans (show I.nextTo_F [.ro false (.ints .i64 net), .int .i64 set_] [] κ = (I.nextTo_L3 FUEL { n := 23, t := [(0, (.ro false (.ints .i64 net))), (1, (.int .i64 set_)), (5, (.int .i64 0)), (6, (.int .i64 0))], h := [] } (I.nextTo_k3 κ)) by kernel_rfl) ?_
    refine (I.nextTo_L3_run net set_ FUEL (0, 0) (I.nextTo_k3 κ)).trans (optC_congr (fun qy_2 => ?_))
    kernel_rfl
  rw [hu]
  exact (I.nextTo_tree_nat (fun o => optC o (fun (r : Int) => κ (.int .i64 r) []) none) net set_ (fun d => some d) none).symm
noncomputable def I.nextTo_s : D.Spec where
  keep := false
  pure := true
  ds := [.int .i64, .invalid]
  sp := fun args h κ => match args, h with
    | [.ro false (.ints .i64 net), .int .i64 set_], [] => optC (I.nextTo_t net set_) (fun (r : Int) => κ (.int .i64 r) []) none
    | _, _ => none
theorem I.nextTo_ok : SpecOk Try.prog 88 I.nextTo_s := by
  refine SpecOk.of TDok mixed (T := I.nextTo_T) ?_ (ann := I.nextTo_ann) Try.func88 rfl (by decide +kernel) ?_ ?_ ?_
  · intro p hp
    simp only [I.nextTo_T, List.mem_cons, List.not_mem_nil, or_false] at hp
    rcases hp with rfl
    · exact I.hasPlace_ok
  · intro args h κ r hh
    simp only [I.nextTo_s] at hh
    split at hh
    · exact (I.nextTo_den _ _ κ).trans hh
    · cases hh
  · intro args h κ r hh
    simp only [I.nextTo_s] at hh ⊢
    split at hh
    · exact optC_law2 (F := fun (r : Int) κ => κ (.int .i64 r) []) (fun b κ r hb => ⟨_, _, hb, fun _ => rfl⟩) hh
    · cases hh
  · intro _ args h κ r hh
    simp only [I.nextTo_s] at hh
    split at hh
    · exact ⟨rfl, fun _ => rfl⟩
    · cases hh

-- loop.example/guardsonnets/impl.romanIn
noncomputable def I.romanIn_T : List (Nat × D.Spec) := [(87, I.placesWith_s), (88, I.nextTo_s)]
def I.romanIn_ann : Nat → List Nat × List Nat
  | _ => ([], [])
noncomputable def I.romanIn_F (args : List V) (h : List E) (κ : V → List E → R) : R := funC TD (tableK I.romanIn_T) I.romanIn_ann (drawOk (tableP I.romanIn_T)) FUEL Try.f68 args h κ
noncomputable def I.romanIn_tree {α : Type} (net : List Int) (row : List Int) (leaf0_ : Bool → α) (fail_ : α) : α :=
  (optC (I.placesWith_t row 0) (fun c_1 => (optC (I.placesWith_t row 2) (fun c_2 => (optC (I.nextTo_t net c_2) (fun c_3 => (leaf0_ (bits BinOp.andNot IntKind.i64 c_1 c_3 == 0))) fail_)) fail_)) fail_)
theorem I.romanIn_tree_nat {α γ : Type} (g : α → γ) (net : List Int) (row : List Int) (leaf0_ : Bool → α) (fail_ : α) : g (I.romanIn_tree net row leaf0_ fail_) = I.romanIn_tree net row (fun d => g (leaf0_ d)) (g fail_) := by
  unfold I.romanIn_tree; simp only [apply_cnd g, apply_optC g, apply_sumC g]
noncomputable def I.romanIn_t (net : List Int) (row : List Int) : Option (Bool) := I.romanIn_tree net row (fun d => some d) none
theorem I.romanIn_den (net : List Int) (row : List Int) (κ : V → List E → R) : I.romanIn_F [.ro false (.ints .i64 net), .ro false (.ints .i64 row)] [] κ = optC (I.romanIn_t net row) (fun (r : Bool) => κ (.bool r) []) none := by
  have hu : I.romanIn_F [.ro false (.ints .i64 net), .ro false (.ints .i64 row)] [] κ = I.romanIn_tree net row (fun d => κ (.bool d) []) none := by
    kernel_rfl
  rw [hu]
  exact (I.romanIn_tree_nat (fun o => optC o (fun (r : Bool) => κ (.bool r) []) none) net row (fun d => some d) none).symm
noncomputable def I.romanIn_s : D.Spec where
  keep := false
  pure := true
  ds := [.int .i64, .int .i64]
  sp := fun args h κ => match args, h with
    | [.ro false (.ints .i64 net), .ro false (.ints .i64 row)], [] => optC (I.romanIn_t net row) (fun (r : Bool) => κ (.bool r) []) none
    | _, _ => none
theorem I.romanIn_ok : SpecOk Try.prog 68 I.romanIn_s := by
  refine SpecOk.of TDok mixed (T := I.romanIn_T) ?_ (ann := I.romanIn_ann) Try.func68 rfl (by decide +kernel) ?_ ?_ ?_
  · intro p hp
    simp only [I.romanIn_T, List.mem_cons, List.not_mem_nil, or_false] at hp
    rcases hp with rfl | rfl
    · exact I.placesWith_ok
    · exact I.nextTo_ok
  · intro args h κ r hh
    simp only [I.romanIn_s] at hh
    split at hh
    · exact (I.romanIn_den _ _ κ).trans hh
    · cases hh
  · intro args h κ r hh
    simp only [I.romanIn_s] at hh ⊢
    split at hh
    · exact optC_law2 (F := fun (r : Bool) κ => κ (.bool r) []) (fun b κ r hb => ⟨_, _, hb, fun _ => rfl⟩) hh
    · cases hh
  · intro _ args h κ r hh
    simp only [I.romanIn_s] at hh
    split at hh
    · exact ⟨rfl, fun _ => rfl⟩
    · cases hh

-- loop.example/guardsonnets/impl.RomanOk
noncomputable def I.RomanOk_T : List (Nat × D.Spec) := [(27, I.NetOk_s), (64, I.rowIn_s), (68, I.romanIn_s)]
def I.RomanOk_ann : Nat → List Nat × List Nat
  | _ => ([], [])
noncomputable def I.RomanOk_F (args : List V) (h : List E) (κ : V → List E → R) : R := funC TD (tableK I.RomanOk_T) I.RomanOk_ann (drawOk (tableP I.RomanOk_T)) FUEL Try.f34 args h κ
noncomputable def I.RomanOk_tree {α : Type} (net : List Int) (row : List Int) (leaf0_ : Bool → α) (fail_ : α) : α :=
  (optC (I.NetOk_t net) (fun c_1 => (bif c_1 then (optC (I.rowIn_t net row) (fun c_2 => (bif c_2 then (optC (I.romanIn_t net row) (fun c_3 => (leaf0_ c_3)) fail_) else (leaf0_ false))) fail_) else (leaf0_ false))) fail_)
theorem I.RomanOk_tree_nat {α γ : Type} (g : α → γ) (net : List Int) (row : List Int) (leaf0_ : Bool → α) (fail_ : α) : g (I.RomanOk_tree net row leaf0_ fail_) = I.RomanOk_tree net row (fun d => g (leaf0_ d)) (g fail_) := by
  unfold I.RomanOk_tree; simp only [apply_cnd g, apply_optC g, apply_sumC g]
noncomputable def I.RomanOk_t (net : List Int) (row : List Int) : Option (Bool) := I.RomanOk_tree net row (fun d => some d) none
theorem I.RomanOk_den (net : List Int) (row : List Int) (κ : V → List E → R) : I.RomanOk_F [.ro false (.ints .i64 net), .ro false (.ints .i64 row)] [] κ = optC (I.RomanOk_t net row) (fun (r : Bool) => κ (.bool r) []) none := by
  have hu : I.RomanOk_F [.ro false (.ints .i64 net), .ro false (.ints .i64 row)] [] κ = I.RomanOk_tree net row (fun d => κ (.bool d) []) none := by
    kernel_rfl
  rw [hu]
  exact (I.RomanOk_tree_nat (fun o => optC o (fun (r : Bool) => κ (.bool r) []) none) net row (fun d => some d) none).symm
noncomputable def I.RomanOk_s : D.Spec where
  keep := false
  pure := true
  ds := [.int .i64, .int .i64]
  sp := fun args h κ => match args, h with
    | [.ro false (.ints .i64 net), .ro false (.ints .i64 row)], [] => optC (I.RomanOk_t net row) (fun (r : Bool) => κ (.bool r) []) none
    | _, _ => none
theorem I.RomanOk_ok : SpecOk Try.prog 34 I.RomanOk_s := by
  refine SpecOk.of TDok mixed (T := I.RomanOk_T) ?_ (ann := I.RomanOk_ann) Try.func34 rfl (by decide +kernel) ?_ ?_ ?_
  · intro p hp
    simp only [I.RomanOk_T, List.mem_cons, List.not_mem_nil, or_false] at hp
    rcases hp with rfl | rfl | rfl
    · exact I.NetOk_ok
    · exact I.rowIn_ok
    · exact I.romanIn_ok
  · intro args h κ r hh
    simp only [I.RomanOk_s] at hh
    split at hh
    · exact (I.RomanOk_den _ _ κ).trans hh
    · cases hh
  · intro args h κ r hh
    simp only [I.RomanOk_s] at hh ⊢
    split at hh
    · exact optC_law2 (F := fun (r : Bool) κ => κ (.bool r) []) (fun b κ r hb => ⟨_, _, hb, fun _ => rfl⟩) hh
    · cases hh
  · intro _ args h κ r hh
    simp only [I.RomanOk_s] at hh
    split at hh
    · exact ⟨rfl, fun _ => rfl⟩
    · cases hh

-- loop.example/guardsonnets/laws.FnWeakOk
noncomputable def L.FnWeakOk_T : List (Nat × D.Spec) := [(30, S.DrawWeakOk_s), (31, I.WeakOk_s), (32, S.WeakOk_s), (33, L.placesWith_s), (23, I.WatchOk_s), (34, I.RomanOk_s), (16, L.alive_s), (21, I.SecureOk_s)]
def L.FnWeakOk_ann : Nat → List Nat × List Nat
  | 10 => ([3, 4, 5, 6], [2, 3, 4, 5])
  | _ => ([], [])
noncomputable def L.FnWeakOk_F (args : List V) (h : List E) (κ : V → List E → R) : R := funC TD (tableK L.FnWeakOk_T) L.FnWeakOk_ann (drawOk (tableP L.FnWeakOk_T)) FUEL Try.f9 args h κ
noncomputable def L.FnWeakOk_L10 (n : Nat) (σ : St) (k : X → St → R) : R := iterC 0 (fun σ k => denC TD (tableK L.FnWeakOk_T) L.FnWeakOk_ann (drawOk (tableP L.FnWeakOk_T)) 0 FUEL ((findLoop 10 (Try.f9.body.getD .skip)).getD .skip) σ k) [3, 4, 5, 6] [2, 3, 4, 5] n σ k
noncomputable def L.FnWeakOk_k10 (κ : V → List E → R) : X → St → R := (afterC TD (tableK L.FnWeakOk_T) L.FnWeakOk_ann (drawOk (tableP L.FnWeakOk_T)) 0 FUEL 10 (Try.f9.body.getD .skip) (finC TD 0 Try.f9 κ)).getD (fun _ _ => none)
noncomputable def L.FnWeakOk_step10 {α : Type} (x5 : Bool) (x6 : Int) (r0 : List Int) (r1 : List Int) (next_ : Int × (List Int) × (List Int) → α) (out0_ : Bool × (List Int) × (List Int) → α) (out1_ : (List Int) × (List Int) → α) (fail_ : α) : α :=
  (bif decide (x6 < (↑r1.length : Int)) then (bif decide (0 ≤ x6) && decide (x6 < (↑r1.length : Int)) then (bif decide (x6.toNat < r1.length) then (bif decide (eli r1 x6.toNat < 0) then (optC (L.alive_t) (fun c_7 => (out0_ (c_7, r0, r1))) fail_) else (bif decide (0 ≤ x6) && decide (x6 < (↑r1.length : Int)) then (bif decide (x6.toNat < r1.length) then (bif decide (eli r1 x6.toNat > 1) then (optC (L.alive_t) (fun c_8 => (out0_ (c_8, r0, r1))) fail_) else (next_ (IntKind.i64.wrap (x6 + 1), r0, r1))) else fail_) else fail_)) else fail_) else fail_) else (out1_ (r0, r1)))
theorem L.FnWeakOk_step10_nat {α γ : Type} (g : α → γ) (x5 : Bool) (x6 : Int) (r0 : List Int) (r1 : List Int) (next_ : Int × (List Int) × (List Int) → α) (out0_ : Bool × (List Int) × (List Int) → α) (out1_ : (List Int) × (List Int) → α) (fail_ : α) : g (L.FnWeakOk_step10 x5 x6 r0 r1 next_ out0_ out1_ fail_) = L.FnWeakOk_step10 x5 x6 r0 r1 (fun s => g (next_ s)) (fun d => g (out0_ d)) (fun d => g (out1_ d)) (g fail_) := by
  unfold L.FnWeakOk_step10; simp only [apply_cnd g, apply_optC g, apply_sumC g]
noncomputable def L.FnWeakOk_run10 (x5 : Bool) : Nat → Int × (List Int) × (List Int) → Option ((Bool × (List Int) × (List Int)) ⊕ ((List Int) × (List Int)))
  | 0, _ => none
  | n + 1, s_ => L.FnWeakOk_step10 x5 s_.1 s_.2.1 s_.2.2 (L.FnWeakOk_run10 x5 n) (fun d => some ((Sum.inl d))) (fun d => some ((Sum.inr d))) none
theorem L.FnWeakOk_L10_run (x5 : Bool) (n : Nat) (s_ : Int × (List Int) × (List Int)) (k : X → St → R) : L.FnWeakOk_L10 n { n := 72, t := [(3, (.own 0)), (4, (.own 1)), (5, (.bool x5)), (6, (.int .i64 s_.1))], h := [.row (.ints .i64 s_.2.1), .row (.ints .i64 s_.2.2)] } k = optC (L.FnWeakOk_run10 x5 n s_) (fun (r : (Bool × (List Int) × (List Int)) ⊕ ((List Int) × (List Int))) => (sumC r (fun (r : Bool × (List Int) × (List Int)) => k (.ret) { n := 72, t := [(2, (.bool r.1)), (3, (.own 0)), (4, (.own 1)), (5, (.bool x5))], h := [.row (.ints .i64 r.2.1), .row (.ints .i64 r.2.2)] }) (fun (r : (List Int) × (List Int)) => k (.exit 0) { n := 72, t := [(2, .junk), (3, (.own 0)), (4, (.own 1)), (5, (.bool x5))], h := [.row (.ints .i64 r.1), .row (.ints .i64 r.2)] }))) none := by
  induction n generalizing s_ with
  | zero => rfl
  | succ n ih =>
    have hu : L.FnWeakOk_L10 (n + 1) { n := 72, t := [(3, (.own 0)), (4, (.own 1)), (5, (.bool x5)), (6, (.int .i64 s_.1))], h := [.row (.ints .i64 s_.2.1), .row (.ints .i64 s_.2.2)] } k = L.FnWeakOk_step10 x5 s_.1 s_.2.1 s_.2.2 (fun s_ => L.FnWeakOk_L10 n { n := 72, t := [(3, (.own 0)), (4, (.own 1)), (5, (.bool x5)), (6, (.int .i64 s_.1))], h := [.row (.ints .i64 s_.2.1), .row (.ints .i64 s_.2.2)] } k) (fun d => k (.ret) { n := 72, t := [(2, (.bool d.1)), (3, (.own 0)), (4, (.own 1)), (5, (.bool x5))], h := [.row (.ints .i64 d.2.1), .row (.ints .i64 d.2.2)] }) (fun d => k (.exit 0) { n := 72, t := [(2, .junk), (3, (.own 0)), (4, (.own 1)), (5, (.bool x5))], h := [.row (.ints .i64 d.1), .row (.ints .i64 d.2)] }) none := by
      kernel_rfl
    have hs : (fun s_ : Int × (List Int) × (List Int) => L.FnWeakOk_L10 n { n := 72, t := [(3, (.own 0)), (4, (.own 1)), (5, (.bool x5)), (6, (.int .i64 s_.1))], h := [.row (.ints .i64 s_.2.1), .row (.ints .i64 s_.2.2)] } k) = fun s_ => optC (L.FnWeakOk_run10 x5 n s_) (fun (r : (Bool × (List Int) × (List Int)) ⊕ ((List Int) × (List Int))) => (sumC r (fun (r : Bool × (List Int) × (List Int)) => k (.ret) { n := 72, t := [(2, (.bool r.1)), (3, (.own 0)), (4, (.own 1)), (5, (.bool x5))], h := [.row (.ints .i64 r.2.1), .row (.ints .i64 r.2.2)] }) (fun (r : (List Int) × (List Int)) => k (.exit 0) { n := 72, t := [(2, .junk), (3, (.own 0)), (4, (.own 1)), (5, (.bool x5))], h := [.row (.ints .i64 r.1), .row (.ints .i64 r.2)] }))) none := funext ih
    rw [hu, hs]
    exact (L.FnWeakOk_step10_nat (fun o => optC o (fun (r : (Bool × (List Int) × (List Int)) ⊕ ((List Int) × (List Int))) => (sumC r (fun (r : Bool × (List Int) × (List Int)) => k (.ret) { n := 72, t := [(2, (.bool r.1)), (3, (.own 0)), (4, (.own 1)), (5, (.bool x5))], h := [.row (.ints .i64 r.2.1), .row (.ints .i64 r.2.2)] }) (fun (r : (List Int) × (List Int)) => k (.exit 0) { n := 72, t := [(2, .junk), (3, (.own 0)), (4, (.own 1)), (5, (.bool x5))], h := [.row (.ints .i64 r.1), .row (.ints .i64 r.2)] }))) none) x5 s_.1 s_.2.1 s_.2.2 (L.FnWeakOk_run10 x5 n) (fun d => some ((Sum.inl d))) (fun d => some ((Sum.inr d))) none).symm
noncomputable def L.FnWeakOk_tree {α : Type} (code : List Int) (leaf0_ : Bool → α) (fail_ : α) : α :=
  (bif decide ((↑code.length : Int) > 1048576) then (leaf0_ true) else (optC (S.DrawWeakOk_t code) (fun c_1 => (optC (I.WeakOk_t c_1.fst c_1.snd) (fun c_2 => (optC (S.WeakOk_t c_1.fst c_1.snd) (fun c_3 => (bif !c_2 == c_3 then (leaf0_ false) else (bif c_2 then (optC (L.placesWith_t c_1.snd 1) (fun c_4 => (optC (I.WatchOk_t c_1.fst c_4) (fun c_5 => (bif !c_5 then (leaf0_ false) else (bif !c_2 then (optC (I.RomanOk_t c_1.fst c_1.snd) (fun c_6 => (bif c_6 then (leaf0_ false) else (optC (L.FnWeakOk_run10 c_2 FUEL (0, c_1.fst, c_1.snd)) (fun qy_9 => (sumC qy_9 (fun (qy_9 : Bool × (List Int) × (List Int)) => (leaf0_ qy_9.1)) (fun (qy_9 : (List Int) × (List Int)) => (bif !(↑qy_9.2.length : Int) == (↑qy_9.1.length : Int) then (leaf0_ true) else (optC (L.placesWith_t qy_9.2 1) (fun c_10 => (optC (I.SecureOk_t qy_9.1 c_10) (fun c_11 => (leaf0_ (c_2 == c_11))) fail_)) fail_))))) fail_))) fail_) else (optC (L.FnWeakOk_run10 c_2 FUEL (0, c_1.fst, c_1.snd)) (fun qy_12 => (sumC qy_12 (fun (qy_12 : Bool × (List Int) × (List Int)) => (leaf0_ qy_12.1)) (fun (qy_12 : (List Int) × (List Int)) => (bif !(↑qy_12.2.length : Int) == (↑qy_12.1.length : Int) then (leaf0_ true) else (optC (L.placesWith_t qy_12.2 1) (fun c_13 => (optC (I.SecureOk_t qy_12.1 c_13) (fun c_14 => (leaf0_ (c_2 == c_14))) fail_)) fail_))))) fail_)))) fail_)) fail_) else (bif !c_2 then (optC (I.RomanOk_t c_1.fst c_1.snd) (fun c_15 => (bif c_15 then (leaf0_ false) else (optC (L.FnWeakOk_run10 c_2 FUEL (0, c_1.fst, c_1.snd)) (fun qy_16 => (sumC qy_16 (fun (qy_16 : Bool × (List Int) × (List Int)) => (leaf0_ qy_16.1)) (fun (qy_16 : (List Int) × (List Int)) => (bif !(↑qy_16.2.length : Int) == (↑qy_16.1.length : Int) then (leaf0_ true) else (optC (L.placesWith_t qy_16.2 1) (fun c_17 => (optC (I.SecureOk_t qy_16.1 c_17) (fun c_18 => (leaf0_ (c_2 == c_18))) fail_)) fail_))))) fail_))) fail_) else (optC (L.FnWeakOk_run10 c_2 FUEL (0, c_1.fst, c_1.snd)) (fun qy_19 => (sumC qy_19 (fun (qy_19 : Bool × (List Int) × (List Int)) => (leaf0_ qy_19.1)) (fun (qy_19 : (List Int) × (List Int)) => (bif !(↑qy_19.2.length : Int) == (↑qy_19.1.length : Int) then (leaf0_ true) else (optC (L.placesWith_t qy_19.2 1) (fun c_20 => (optC (I.SecureOk_t qy_19.1 c_20) (fun c_21 => (leaf0_ (c_2 == c_21))) fail_)) fail_))))) fail_))))) fail_)) fail_)) fail_))
theorem L.FnWeakOk_tree_nat {α γ : Type} (g : α → γ) (code : List Int) (leaf0_ : Bool → α) (fail_ : α) : g (L.FnWeakOk_tree code leaf0_ fail_) = L.FnWeakOk_tree code (fun d => g (leaf0_ d)) (g fail_) := by
  unfold L.FnWeakOk_tree; simp only [apply_cnd g, apply_optC g, apply_sumC g]
noncomputable def L.FnWeakOk_t (code : List Int) : Option (Bool) := L.FnWeakOk_tree code (fun d => some d) none
theorem L.FnWeakOk_den (code : List Int) (κ : V → List E → R) : L.FnWeakOk_F [.ro true (.ints .u8 code)] [] κ = optC (L.FnWeakOk_t code) (fun (r : Bool) => κ (.bool r) []) none := by
  have hu : L.FnWeakOk_F [.ro true (.ints .u8 code)] [] κ = L.FnWeakOk_tree code (fun d => κ (.bool d) []) none := by
    refine Eq.trans (show L.FnWeakOk_F [.ro true (.ints .u8 code)] [] κ = (bif decide ((↑code.length : Int) > 1048576) then (κ (.bool true) []) else (optC (S.DrawWeakOk_t code) (fun c_1 => (optC (I.WeakOk_t c_1.fst c_1.snd) (fun c_2 => (optC (S.WeakOk_t c_1.fst c_1.snd) (fun c_3 => (bif !c_2 == c_3 then (κ (.bool false) []) else (bif c_2 then (optC (L.placesWith_t c_1.snd 1) (fun c_4 => (optC (I.WatchOk_t c_1.fst c_4) (fun c_5 => (bif !c_5 then (κ (.bool false) []) else (bif !c_2 then (optC (I.RomanOk_t c_1.fst c_1.snd) (fun c_6 => (bif c_6 then (κ (.bool false) []) else (L.FnWeakOk_L10 FUEL { n := 72, t := [(3, (.own 0)), (4, (.own 1)), (5, (.bool c_2)), (6, (.int .i64 0))], h := [.row (.ints .i64 c_1.fst), .row (.ints .i64 c_1.snd)] } (L.FnWeakOk_k10 κ)))) none) else (L.FnWeakOk_L10 FUEL { n := 72, t := [(3, (.own 0)), (4, (.own 1)), (5, (.bool c_2)), (6, (.int .i64 0))], h := [.row (.ints .i64 c_1.fst), .row (.ints .i64 c_1.snd)] } (L.FnWeakOk_k10 κ))))) none)) none) else (bif !c_2 then (optC (I.RomanOk_t c_1.fst c_1.snd) (fun c_15 => (bif c_15 then (κ (.bool false) []) else (L.FnWeakOk_L10 FUEL { n := 72, t := [(3, (.own 0)), (4, (.own 1)), (5, (.bool c_2)), (6, (.int .i64 0))], h := [.row (.ints .i64 c_1.fst), .row (.ints .i64 c_1.snd)] } (L.FnWeakOk_k10 κ)))) none) else (L.FnWeakOk_L10 FUEL { n := 72, t := [(3, (.own 0)), (4, (.own 1)), (5, (.bool c_2)), (6, (.int .i64 0))], h := [.row (.ints .i64 c_1.fst), .row (.ints .i64 c_1.snd)] } (L.FnWeakOk_k10 κ)))))) none)) none)) none)) by kernel_rfl) ?_
    refine cnd_congr ?_ ?_
    · kernel_rfl
    · refine optC_congr (fun c_1 => ?_)
      refine optC_congr (fun c_2 => ?_)
      refine optC_congr (fun c_3 => ?_)
      refine cnd_congr ?_ ?_
      · kernel_rfl
      · refine cnd_congr ?_ ?_
        · refine optC_congr (fun c_4 => ?_)
          refine optC_congr (fun c_5 => ?_)
          refine cnd_congr ?_ ?_
          · kernel_rfl
          · refine cnd_congr ?_ ?_
            · refine optC_congr (fun c_6 => ?_)
              refine cnd_congr ?_ ?_
              · kernel_rfl
              · refine (L.FnWeakOk_L10_run c_2 FUEL (0, c_1.fst, c_1.snd) (L.FnWeakOk_k10 κ)).trans (optC_congr (fun qy_9 => ?_))
                rcases qy_9 with qy_9 | qy_9
                · kernel_rfl
                · kernel_rfl
            · refine (L.FnWeakOk_L10_run c_2 FUEL (0, c_1.fst, c_1.snd) (L.FnWeakOk_k10 κ)).trans (optC_congr (fun qy_12 => ?_))
              rcases qy_12 with qy_12 | qy_12
              · kernel_rfl
              · kernel_rfl
        · refine cnd_congr ?_ ?_
          · refine optC_congr (fun c_15 => ?_)
            refine cnd_congr ?_ ?_
            · kernel_rfl
            · refine (L.FnWeakOk_L10_run c_2 FUEL (0, c_1.fst, c_1.snd) (L.FnWeakOk_k10 κ)).trans (optC_congr (fun qy_16 => ?_))
              rcases qy_16 with qy_16 | qy_16
              · kernel_rfl
              · kernel_rfl
          · refine (L.FnWeakOk_L10_run c_2 FUEL (0, c_1.fst, c_1.snd) (L.FnWeakOk_k10 κ)).trans (optC_congr (fun qy_19 => ?_))
            rcases qy_19 with qy_19 | qy_19
            · kernel_rfl
            · kernel_rfl
  rw [hu]
  exact (L.FnWeakOk_tree_nat (fun o => optC o (fun (r : Bool) => κ (.bool r) []) none) code (fun d => some d) none).symm
noncomputable def L.FnWeakOk_s : D.Spec where
  keep := true
  pure := true
  ds := [.int .u8]
  sp := fun args h κ => match args, h with
    | [.ro true (.ints .u8 code)], [] => optC (L.FnWeakOk_t code) (fun (r : Bool) => κ (.bool r) []) none
    | _, _ => none
theorem L.FnWeakOk_ok : SpecOk Try.prog 9 L.FnWeakOk_s := by
  refine SpecOk.of TDok mixed (T := L.FnWeakOk_T) ?_ (ann := L.FnWeakOk_ann) Try.func9 rfl (by decide +kernel) ?_ ?_ ?_
  · intro p hp
    simp only [L.FnWeakOk_T, List.mem_cons, List.not_mem_nil, or_false] at hp
    rcases hp with rfl | rfl | rfl | rfl | rfl | rfl | rfl | rfl
    · exact S.DrawWeakOk_ok
    · exact I.WeakOk_ok
    · exact S.WeakOk_ok
    · exact L.placesWith_ok
    · exact I.WatchOk_ok
    · exact I.RomanOk_ok
    · exact L.alive_ok
    · exact I.SecureOk_ok
  · intro args h κ r hh
    simp only [L.FnWeakOk_s] at hh
    split at hh
    · exact (L.FnWeakOk_den _ κ).trans hh
    · cases hh
  · intro args h κ r hh
    simp only [L.FnWeakOk_s] at hh ⊢
    split at hh
    · exact optC_law2 (F := fun (r : Bool) κ => κ (.bool r) []) (fun b κ r hb => ⟨_, _, hb, fun _ => rfl⟩) hh
    · cases hh
  · intro _ args h κ r hh
    simp only [L.FnWeakOk_s] at hh
    split at hh
    · exact ⟨rfl, fun _ => rfl⟩
    · cases hh

-- loop.example/guardsonnets/laws.FnExactWeakOk
noncomputable def L.FnExactWeakOk_T : List (Nat × D.Spec) := [(18, L.toIntS_s), (32, S.WeakOk_s), (31, I.WeakOk_s), (19, L.eqIntS_s)]
def L.FnExactWeakOk_ann : Nat → List Nat × List Nat
  | _ => ([], [])
noncomputable def L.FnExactWeakOk_F (args : List V) (h : List E) (κ : V → List E → R) : R := funC TD (tableK L.FnExactWeakOk_T) L.FnExactWeakOk_ann (drawOk (tableP L.FnExactWeakOk_T)) FUEL Try.f10 args h κ
noncomputable def L.FnExactWeakOk_tree {α : Type} (aNet : List Int) (aRow : List Int) (leaf0_ : Bool → α) (fail_ : α) : α :=
  (bif decide ((↑aNet.length : Int) > 1048576) then (leaf0_ true) else (bif decide ((↑aRow.length : Int) > 1048576) then (leaf0_ true) else (optC (L.toIntS_t aNet) (fun c_1 => (optC (L.toIntS_t aRow) (fun c_2 => (optC (S.WeakOk_t c_1 c_2) (fun c_3 => (optC (L.toIntS_t aNet) (fun c_4 => (optC (L.toIntS_t aRow) (fun c_5 => (optC (I.WeakOk_t c_4 c_5) (fun c_6 => (bif !c_6 == c_3 then (leaf0_ false) else (optC (L.toIntS_t aNet) (fun c_7 => (optC (L.eqIntS_t c_4 c_7) (fun c_8 => (bif !c_8 then (leaf0_ false) else (optC (L.toIntS_t aRow) (fun c_9 => (optC (L.eqIntS_t c_5 c_9) (fun c_10 => (bif !c_10 then (leaf0_ false) else (leaf0_ true))) fail_)) fail_))) fail_)) fail_))) fail_)) fail_)) fail_)) fail_)) fail_)) fail_)))
theorem L.FnExactWeakOk_tree_nat {α γ : Type} (g : α → γ) (aNet : List Int) (aRow : List Int) (leaf0_ : Bool → α) (fail_ : α) : g (L.FnExactWeakOk_tree aNet aRow leaf0_ fail_) = L.FnExactWeakOk_tree aNet aRow (fun d => g (leaf0_ d)) (g fail_) := by
  unfold L.FnExactWeakOk_tree; simp only [apply_cnd g, apply_optC g, apply_sumC g]
noncomputable def L.FnExactWeakOk_t (aNet : List Int) (aRow : List Int) : Option (Bool) := L.FnExactWeakOk_tree aNet aRow (fun d => some d) none
theorem L.FnExactWeakOk_den (aNet : List Int) (aRow : List Int) (κ : V → List E → R) : L.FnExactWeakOk_F [.ro true (.ints .i64 aNet), .ro true (.ints .i64 aRow)] [] κ = optC (L.FnExactWeakOk_t aNet aRow) (fun (r : Bool) => κ (.bool r) []) none := by
  have hu : L.FnExactWeakOk_F [.ro true (.ints .i64 aNet), .ro true (.ints .i64 aRow)] [] κ = L.FnExactWeakOk_tree aNet aRow (fun d => κ (.bool d) []) none := by
    kernel_rfl
  rw [hu]
  exact (L.FnExactWeakOk_tree_nat (fun o => optC o (fun (r : Bool) => κ (.bool r) []) none) aNet aRow (fun d => some d) none).symm
noncomputable def L.FnExactWeakOk_s : D.Spec where
  keep := true
  pure := true
  ds := [.int .i64, .int .i64]
  sp := fun args h κ => match args, h with
    | [.ro true (.ints .i64 aNet), .ro true (.ints .i64 aRow)], [] => optC (L.FnExactWeakOk_t aNet aRow) (fun (r : Bool) => κ (.bool r) []) none
    | _, _ => none
theorem L.FnExactWeakOk_ok : SpecOk Try.prog 10 L.FnExactWeakOk_s := by
  refine SpecOk.of TDok mixed (T := L.FnExactWeakOk_T) ?_ (ann := L.FnExactWeakOk_ann) Try.func10 rfl (by decide +kernel) ?_ ?_ ?_
  · intro p hp
    simp only [L.FnExactWeakOk_T, List.mem_cons, List.not_mem_nil, or_false] at hp
    rcases hp with rfl | rfl | rfl | rfl
    · exact L.toIntS_ok
    · exact S.WeakOk_ok
    · exact I.WeakOk_ok
    · exact L.eqIntS_ok
  · intro args h κ r hh
    simp only [L.FnExactWeakOk_s] at hh
    split at hh
    · exact (L.FnExactWeakOk_den _ _ κ).trans hh
    · cases hh
  · intro args h κ r hh
    simp only [L.FnExactWeakOk_s] at hh ⊢
    split at hh
    · exact optC_law2 (F := fun (r : Bool) κ => κ (.bool r) []) (fun b κ r hb => ⟨_, _, hb, fun _ => rfl⟩) hh
    · cases hh
  · intro _ args h κ r hh
    simp only [L.FnExactWeakOk_s] at hh
    split at hh
    · exact ⟨rfl, fun _ => rfl⟩
    · cases hh

-- loop.example/guardsonnets/spec.DrawFewestWeak
noncomputable def S.DrawFewestWeak_T : List (Nat × D.Spec) := [(39, S.l20Open_s), (55, S.l20Net_s)]
def S.DrawFewestWeak_ann : Nat → List Nat × List Nat
  | _ => ([], [])
noncomputable def S.DrawFewestWeak_F (args : List V) (h : List E) (κ : V → List E → R) : R := funC TD (tableK S.DrawFewestWeak_T) S.DrawFewestWeak_ann (drawOk (tableP S.DrawFewestWeak_T)) FUEL Try.f35 args h κ
noncomputable def S.DrawFewestWeak_tree {α : Type} (code : List Int) (leaf0_ : List Int → α) (fail_ : α) : α :=
  (optC (S.l20Open_t code) (fun c_1 => (optC (S.l20Net_t c_1.fst c_1.snd 9) (fun c_2 => (leaf0_ c_2.snd.snd)) fail_)) fail_)
theorem S.DrawFewestWeak_tree_nat {α γ : Type} (g : α → γ) (code : List Int) (leaf0_ : List Int → α) (fail_ : α) : g (S.DrawFewestWeak_tree code leaf0_ fail_) = S.DrawFewestWeak_tree code (fun d => g (leaf0_ d)) (g fail_) := by
  unfold S.DrawFewestWeak_tree; simp only [apply_cnd g, apply_optC g, apply_sumC g]
noncomputable def S.DrawFewestWeak_t (code : List Int) : Option (List Int) := S.DrawFewestWeak_tree code (fun d => some d) none
theorem S.DrawFewestWeak_den (code : List Int) (κ : V → List E → R) : S.DrawFewestWeak_F [.ro true (.ints .u8 code)] [] κ = optC (S.DrawFewestWeak_t code) (fun (r : List Int) => κ (.own 0) [.row (.ints .i64 r)]) none := by
  have hu : S.DrawFewestWeak_F [.ro true (.ints .u8 code)] [] κ = S.DrawFewestWeak_tree code (fun d => κ (.own 0) [.row (.ints .i64 d)]) none := by
    kernel_rfl
  rw [hu]
  exact (S.DrawFewestWeak_tree_nat (fun o => optC o (fun (r : List Int) => κ (.own 0) [.row (.ints .i64 r)]) none) code (fun d => some d) none).symm
noncomputable def S.DrawFewestWeak_s : D.Spec where
  keep := true
  pure := false
  ds := [.int .u8]
  sp := fun args h κ => match args, h with
    | [.ro true (.ints .u8 code)], [] => optC (S.DrawFewestWeak_t code) (fun (r : List Int) => κ (.own 0) [.row (.ints .i64 r)]) none
    | _, _ => none
theorem S.DrawFewestWeak_ok : SpecOk Try.prog 35 S.DrawFewestWeak_s := by
  refine SpecOk.of TDok mixed (T := S.DrawFewestWeak_T) ?_ (ann := S.DrawFewestWeak_ann) Try.func35 rfl (by decide +kernel) ?_ ?_ ?_
  · intro p hp
    simp only [S.DrawFewestWeak_T, List.mem_cons, List.not_mem_nil, or_false] at hp
    rcases hp with rfl | rfl
    · exact S.l20Open_ok
    · exact S.l20Net_ok
  · intro args h κ r hh
    simp only [S.DrawFewestWeak_s] at hh
    split at hh
    · exact (S.DrawFewestWeak_den _ κ).trans hh
    · cases hh
  · intro args h κ r hh
    simp only [S.DrawFewestWeak_s] at hh ⊢
    split at hh
    · exact optC_law2 (F := fun (r : List Int) κ => κ (.own 0) [.row (.ints .i64 r)]) (fun b κ r hb => ⟨_, _, hb, fun _ => rfl⟩) hh
    · cases hh
  · intro hh; cases hh

-- loop.example/guardsonnets/impl.rowsOf
noncomputable def I.rowsOf_T : List (Nat × D.Spec) := []
def I.rowsOf_ann : Nat → List Nat × List Nat
  | 3 => ([0, 3, 4], [3])
  | _ => ([], [])
noncomputable def I.rowsOf_F (args : List V) (h : List E) (κ : V → List E → R) : R := funC TD (tableK I.rowsOf_T) I.rowsOf_ann (drawOk (tableP I.rowsOf_T)) FUEL Try.f69 args h κ
noncomputable def I.rowsOf_L3 (n : Nat) (σ : St) (k : X → St → R) : R := iterC 0 (fun σ k => denC TD (tableK I.rowsOf_T) I.rowsOf_ann (drawOk (tableP I.rowsOf_T)) 0 FUEL ((findLoop 3 (Try.f69.body.getD .skip)).getD .skip) σ k) [0, 3, 4] [3] n σ k
noncomputable def I.rowsOf_k3 (κ : V → List E → R) : X → St → R := (afterC TD (tableK I.rowsOf_T) I.rowsOf_ann (drawOk (tableP I.rowsOf_T)) 0 FUEL 3 (Try.f69.body.getD .skip) (finC TD 0 Try.f69 κ)).getD (fun _ _ => none)
noncomputable def I.rowsOf_step3 {α : Type} (x0 : List Int) (x3 : Int) (x4 : Int) (next_ : Int × Int → α) (out0_ : Int → α) (fail_ : α) : α :=
  (bif decide (x4 < (↑x0.length : Int)) then (next_ (IntKind.i64.wrap (x3 * 3), IntKind.i64.wrap (x4 + 1))) else (out0_ x3))
theorem I.rowsOf_step3_nat {α γ : Type} (g : α → γ) (x0 : List Int) (x3 : Int) (x4 : Int) (next_ : Int × Int → α) (out0_ : Int → α) (fail_ : α) : g (I.rowsOf_step3 x0 x3 x4 next_ out0_ fail_) = I.rowsOf_step3 x0 x3 x4 (fun s => g (next_ s)) (fun d => g (out0_ d)) (g fail_) := by
  unfold I.rowsOf_step3; simp only [apply_cnd g, apply_optC g, apply_sumC g]
noncomputable def I.rowsOf_run3 (x0 : List Int) : Nat → Int × Int → Option (Int)
  | 0, _ => none
  | n + 1, s_ => I.rowsOf_step3 x0 s_.1 s_.2 (I.rowsOf_run3 x0 n) (fun d => some d) none
theorem I.rowsOf_L3_run (x0 : List Int) (n : Nat) (s_ : Int × Int) (k : X → St → R) : I.rowsOf_L3 n { n := 14, t := [(0, (.ro false (.ints .i64 x0))), (3, (.int .i64 s_.1)), (4, (.int .i64 s_.2))], h := [] } k = optC (I.rowsOf_run3 x0 n s_) (fun (r : Int) => k (.exit 0) { n := 14, t := [(3, (.int .i64 r))], h := [] }) none := by
  induction n generalizing s_ with
  | zero => rfl
  | succ n ih =>
    have hu : I.rowsOf_L3 (n + 1) { n := 14, t := [(0, (.ro false (.ints .i64 x0))), (3, (.int .i64 s_.1)), (4, (.int .i64 s_.2))], h := [] } k = I.rowsOf_step3 x0 s_.1 s_.2 (fun s_ => I.rowsOf_L3 n { n := 14, t := [(0, (.ro false (.ints .i64 x0))), (3, (.int .i64 s_.1)), (4, (.int .i64 s_.2))], h := [] } k) (fun d => k (.exit 0) { n := 14, t := [(3, (.int .i64 d))], h := [] }) none := by
      kernel_rfl
    have hs : (fun s_ : Int × Int => I.rowsOf_L3 n { n := 14, t := [(0, (.ro false (.ints .i64 x0))), (3, (.int .i64 s_.1)), (4, (.int .i64 s_.2))], h := [] } k) = fun s_ => optC (I.rowsOf_run3 x0 n s_) (fun (r : Int) => k (.exit 0) { n := 14, t := [(3, (.int .i64 r))], h := [] }) none := funext ih
    rw [hu, hs]
    exact (I.rowsOf_step3_nat (fun o => optC o (fun (r : Int) => k (.exit 0) { n := 14, t := [(3, (.int .i64 r))], h := [] }) none) x0 s_.1 s_.2 (I.rowsOf_run3 x0 n) (fun d => some d) none).symm
noncomputable def I.rowsOf_tree {α : Type} (net : List Int) (leaf0_ : Int → α) (fail_ : α) : α :=
  (optC (I.rowsOf_run3 net FUEL (1, 0)) (fun qy_1 => (leaf0_ qy_1)) fail_)
theorem I.rowsOf_tree_nat {α γ : Type} (g : α → γ) (net : List Int) (leaf0_ : Int → α) (fail_ : α) : g (I.rowsOf_tree net leaf0_ fail_) = I.rowsOf_tree net (fun d => g (leaf0_ d)) (g fail_) := by
  unfold I.rowsOf_tree; simp only [apply_cnd g, apply_optC g, apply_sumC g]
noncomputable def I.rowsOf_t (net : List Int) : Option (Int) := I.rowsOf_tree net (fun d => some d) none
theorem I.rowsOf_den (net : List Int) (κ : V → List E → R) : I.rowsOf_F [.ro false (.ints .i64 net)] [] κ = optC (I.rowsOf_t net) (fun (r : Int) => κ (.int .i64 r) []) none := by
  have hu : I.rowsOf_F [.ro false (.ints .i64 net)] [] κ = I.rowsOf_tree net (fun d => κ (.int .i64 d) []) none := by
    refine Eq.trans (show I.rowsOf_F [.ro false (.ints .i64 net)] [] κ = (I.rowsOf_L3 FUEL { n := 14, t := [(0, (.ro false (.ints .i64 net))), (3, (.int .i64 1)), (4, (.int .i64 0))], h := [] } (I.rowsOf_k3 κ)) by kernel_rfl) ?_
    refine (I.rowsOf_L3_run net FUEL (1, 0) (I.rowsOf_k3 κ)).trans (optC_congr (fun qy_1 => ?_))
    kernel_rfl
  rw [hu]
  exact (I.rowsOf_tree_nat (fun o => optC o (fun (r : Int) => κ (.int .i64 r) []) none) net (fun d => some d) none).symm
noncomputable def I.rowsOf_s : D.Spec where
  keep := false
  pure := true
  ds := [.int .i64]
  sp := fun args h κ => match args, h with
    | [.ro false (.ints .i64 net)], [] => optC (I.rowsOf_t net) (fun (r : Int) => κ (.int .i64 r) []) none
    | _, _ => none
theorem I.rowsOf_ok : SpecOk Try.prog 69 I.rowsOf_s := by
  refine SpecOk.of TDok mixed (T := I.rowsOf_T) ?_ (ann := I.rowsOf_ann) Try.func69 rfl (by decide +kernel) ?_ ?_ ?_
  · intro p hp; cases hp
  · intro args h κ r hh
    simp only [I.rowsOf_s] at hh
    split at hh
    · exact (I.rowsOf_den _ κ).trans hh
    · cases hh
  · intro args h κ r hh
    simp only [I.rowsOf_s] at hh ⊢
    split at hh
    · exact optC_law2 (F := fun (r : Int) κ => κ (.int .i64 r) []) (fun b κ r hb => ⟨_, _, hb, fun _ => rfl⟩) hh
    · cases hh
  · intro _ args h κ r hh
    simp only [I.rowsOf_s] at hh
    split at hh
    · exact ⟨rfl, fun _ => rfl⟩
    · cases hh

-- loop.example/guardsonnets/impl.rowAt
noncomputable def I.rowAt_T : List (Nat × D.Spec) := []
def I.rowAt_ann : Nat → List Nat × List Nat
  | 4 => ([5, 6, 7], [5])
  | _ => ([], [])
noncomputable def I.rowAt_F (args : List V) (h : List E) (κ : V → List E → R) : R := funC TD (tableK I.rowAt_T) I.rowAt_ann (drawOk (tableP I.rowAt_T)) FUEL Try.f70 args h κ
noncomputable def I.rowAt_L4 (n : Nat) (σ : St) (k : X → St → R) : R := iterC 0 (fun σ k => denC TD (tableK I.rowAt_T) I.rowAt_ann (drawOk (tableP I.rowAt_T)) 0 FUEL ((findLoop 4 (Try.f70.body.getD .skip)).getD .skip) σ k) [5, 6, 7] [5] n σ k
noncomputable def I.rowAt_k4 (κ : V → List E → R) : X → St → R := (afterC TD (tableK I.rowAt_T) I.rowAt_ann (drawOk (tableP I.rowAt_T)) 0 FUEL 4 (Try.f70.body.getD .skip) (finC TD 0 Try.f70 κ)).getD (fun _ _ => none)
noncomputable def I.rowAt_step4 {α : Type} (x6 : Int) (x7 : Int) (r0 : List Int) (next_ : Int × Int × (List Int) → α) (out0_ : List Int → α) (fail_ : α) : α :=
  (bif decide (x7 ≥ 0) then (bif decide (0 ≤ x7) && decide (x7 < (↑r0.length : Int)) then (bif decide (x7.toNat < r0.length) then (next_ (IntKind.i64.wrap (x6.tdiv 3), IntKind.i64.wrap (x7 - 1), r0.set x7.toNat (x6.tmod 3))) else fail_) else fail_) else (out0_ r0))
theorem I.rowAt_step4_nat {α γ : Type} (g : α → γ) (x6 : Int) (x7 : Int) (r0 : List Int) (next_ : Int × Int × (List Int) → α) (out0_ : List Int → α) (fail_ : α) : g (I.rowAt_step4 x6 x7 r0 next_ out0_ fail_) = I.rowAt_step4 x6 x7 r0 (fun s => g (next_ s)) (fun d => g (out0_ d)) (g fail_) := by
  unfold I.rowAt_step4; simp only [apply_cnd g, apply_optC g, apply_sumC g]
noncomputable def I.rowAt_run4 : Nat → Int × Int × (List Int) → Option (List Int)
  | 0, _ => none
  | n + 1, s_ => I.rowAt_step4 s_.1 s_.2.1 s_.2.2 (I.rowAt_run4 n) (fun d => some d) none
theorem I.rowAt_L4_run (n : Nat) (s_ : Int × Int × (List Int)) (k : X → St → R) : I.rowAt_L4 n { n := 27, t := [(5, (.own 0)), (6, (.int .i64 s_.1)), (7, (.int .i64 s_.2.1))], h := [.row (.ints .i64 s_.2.2)] } k = optC (I.rowAt_run4 n s_) (fun (r : List Int) => k (.exit 0) { n := 27, t := [(5, (.own 0))], h := [.row (.ints .i64 r)] }) none := by
  induction n generalizing s_ with
  | zero => rfl
  | succ n ih =>
    have hu : I.rowAt_L4 (n + 1) { n := 27, t := [(5, (.own 0)), (6, (.int .i64 s_.1)), (7, (.int .i64 s_.2.1))], h := [.row (.ints .i64 s_.2.2)] } k = I.rowAt_step4 s_.1 s_.2.1 s_.2.2 (fun s_ => I.rowAt_L4 n { n := 27, t := [(5, (.own 0)), (6, (.int .i64 s_.1)), (7, (.int .i64 s_.2.1))], h := [.row (.ints .i64 s_.2.2)] } k) (fun d => k (.exit 0) { n := 27, t := [(5, (.own 0))], h := [.row (.ints .i64 d)] }) none := by
      kernel_rfl
    have hs : (fun s_ : Int × Int × (List Int) => I.rowAt_L4 n { n := 27, t := [(5, (.own 0)), (6, (.int .i64 s_.1)), (7, (.int .i64 s_.2.1))], h := [.row (.ints .i64 s_.2.2)] } k) = fun s_ => optC (I.rowAt_run4 n s_) (fun (r : List Int) => k (.exit 0) { n := 27, t := [(5, (.own 0))], h := [.row (.ints .i64 r)] }) none := funext ih
    rw [hu, hs]
    exact (I.rowAt_step4_nat (fun o => optC o (fun (r : List Int) => k (.exit 0) { n := 27, t := [(5, (.own 0))], h := [.row (.ints .i64 r)] }) none) s_.1 s_.2.1 s_.2.2 (I.rowAt_run4 n) (fun d => some d) none).symm
noncomputable def I.rowAt_tree {α : Type} (net : List Int) (ahead : Int) (leaf0_ : List Int → α) (fail_ : α) : α :=
  (bif small (↑net.length : Int).toNat && true then (optC (I.rowAt_run4 FUEL (ahead, IntKind.i64.wrap ((↑net.length : Int) - 1), List.replicate (↑net.length : Int).toNat 0)) (fun qy_1 => (leaf0_ qy_1)) fail_) else fail_)
theorem I.rowAt_tree_nat {α γ : Type} (g : α → γ) (net : List Int) (ahead : Int) (leaf0_ : List Int → α) (fail_ : α) : g (I.rowAt_tree net ahead leaf0_ fail_) = I.rowAt_tree net ahead (fun d => g (leaf0_ d)) (g fail_) := by
  unfold I.rowAt_tree; simp only [apply_cnd g, apply_optC g, apply_sumC g]
noncomputable def I.rowAt_t (net : List Int) (ahead : Int) : Option (List Int) := I.rowAt_tree net ahead (fun d => some d) none
theorem I.rowAt_den (net : List Int) (ahead : Int) (κ : V → List E → R) : I.rowAt_F [.ro false (.ints .i64 net), .int .i64 ahead] [] κ = optC (I.rowAt_t net ahead) (fun (r : List Int) => κ (.own 0) [.row (.ints .i64 r)]) none := by
  have hu : I.rowAt_F [.ro false (.ints .i64 net), .int .i64 ahead] [] κ = I.rowAt_tree net ahead (fun d => κ (.own 0) [.row (.ints .i64 d)]) none := by
    refine Eq.trans (show I.rowAt_F [.ro false (.ints .i64 net), .int .i64 ahead] [] κ = (bif small (↑net.length : Int).toNat && true then (I.rowAt_L4 FUEL { n := 27, t := [(5, (.own 0)), (6, (.int .i64 ahead)), (7, (.int .i64 (IntKind.i64.wrap ((↑net.length : Int) - 1))))], h := [.row (.ints .i64 (List.replicate (↑net.length : Int).toNat 0))] } (I.rowAt_k4 κ)) else none) by kernel_rfl) ?_
    refine cnd_congr ?_ ?_
    · refine (I.rowAt_L4_run FUEL (ahead, IntKind.i64.wrap ((↑net.length : Int) - 1), List.replicate (↑net.length : Int).toNat 0) (I.rowAt_k4 κ)).trans (optC_congr (fun qy_1 => ?_))
      kernel_rfl
    · kernel_rfl
  rw [hu]
  exact (I.rowAt_tree_nat (fun o => optC o (fun (r : List Int) => κ (.own 0) [.row (.ints .i64 r)]) none) net ahead (fun d => some d) none).symm
noncomputable def I.rowAt_s : D.Spec where
  keep := false
  pure := false
  ds := [.int .i64, .invalid]
  sp := fun args h κ => match args, h with
    | [.ro false (.ints .i64 net), .int .i64 ahead], [] => optC (I.rowAt_t net ahead) (fun (r : List Int) => κ (.own 0) [.row (.ints .i64 r)]) none
    | _, _ => none
theorem I.rowAt_ok : SpecOk Try.prog 70 I.rowAt_s := by
  refine SpecOk.of TDok mixed (T := I.rowAt_T) ?_ (ann := I.rowAt_ann) Try.func70 rfl (by decide +kernel) ?_ ?_ ?_
  · intro p hp; cases hp
  · intro args h κ r hh
    simp only [I.rowAt_s] at hh
    split at hh
    · exact (I.rowAt_den _ _ κ).trans hh
    · cases hh
  · intro args h κ r hh
    simp only [I.rowAt_s] at hh ⊢
    split at hh
    · exact optC_law2 (F := fun (r : List Int) κ => κ (.own 0) [.row (.ints .i64 r)]) (fun b κ r hb => ⟨_, _, hb, fun _ => rfl⟩) hh
    · cases hh
  · intro hh; cases hh

-- loop.example/guardsonnets/impl.guardsOf
noncomputable def I.guardsOf_T : List (Nat × D.Spec) := []
def I.guardsOf_ann : Nat → List Nat × List Nat
  | 3 => ([0, 3, 4], [3])
  | _ => ([], [])
noncomputable def I.guardsOf_F (args : List V) (h : List E) (κ : V → List E → R) : R := funC TD (tableK I.guardsOf_T) I.guardsOf_ann (drawOk (tableP I.guardsOf_T)) FUEL Try.f71 args h κ
noncomputable def I.guardsOf_L3 (n : Nat) (σ : St) (k : X → St → R) : R := iterC 0 (fun σ k => denC TD (tableK I.guardsOf_T) I.guardsOf_ann (drawOk (tableP I.guardsOf_T)) 0 FUEL ((findLoop 3 (Try.f71.body.getD .skip)).getD .skip) σ k) [0, 3, 4] [3] n σ k
noncomputable def I.guardsOf_k3 (κ : V → List E → R) : X → St → R := (afterC TD (tableK I.guardsOf_T) I.guardsOf_ann (drawOk (tableP I.guardsOf_T)) 0 FUEL 3 (Try.f71.body.getD .skip) (finC TD 0 Try.f71 κ)).getD (fun _ _ => none)
noncomputable def I.guardsOf_step3 {α : Type} (x0 : List Int) (x3 : Int) (x4 : Int) (next_ : Int × Int → α) (out0_ : Int → α) (fail_ : α) : α :=
  (bif decide (x4 < (↑x0.length : Int)) then (bif decide (0 ≤ x4) && decide (x4 < (↑x0.length : Int)) then (next_ (IntKind.i64.wrap (x3 + eli x0 x4.toNat), IntKind.i64.wrap (x4 + 1))) else fail_) else (out0_ x3))
theorem I.guardsOf_step3_nat {α γ : Type} (g : α → γ) (x0 : List Int) (x3 : Int) (x4 : Int) (next_ : Int × Int → α) (out0_ : Int → α) (fail_ : α) : g (I.guardsOf_step3 x0 x3 x4 next_ out0_ fail_) = I.guardsOf_step3 x0 x3 x4 (fun s => g (next_ s)) (fun d => g (out0_ d)) (g fail_) := by
  unfold I.guardsOf_step3; simp only [apply_cnd g, apply_optC g, apply_sumC g]
noncomputable def I.guardsOf_run3 (x0 : List Int) : Nat → Int × Int → Option (Int)
  | 0, _ => none
  | n + 1, s_ => I.guardsOf_step3 x0 s_.1 s_.2 (I.guardsOf_run3 x0 n) (fun d => some d) none
theorem I.guardsOf_L3_run (x0 : List Int) (n : Nat) (s_ : Int × Int) (k : X → St → R) : I.guardsOf_L3 n { n := 18, t := [(0, (.ro false (.ints .i64 x0))), (3, (.int .i64 s_.1)), (4, (.int .i64 s_.2))], h := [] } k = optC (I.guardsOf_run3 x0 n s_) (fun (r : Int) => k (.exit 0) { n := 18, t := [(3, (.int .i64 r))], h := [] }) none := by
  induction n generalizing s_ with
  | zero => rfl
  | succ n ih =>
    have hu : I.guardsOf_L3 (n + 1) { n := 18, t := [(0, (.ro false (.ints .i64 x0))), (3, (.int .i64 s_.1)), (4, (.int .i64 s_.2))], h := [] } k = I.guardsOf_step3 x0 s_.1 s_.2 (fun s_ => I.guardsOf_L3 n { n := 18, t := [(0, (.ro false (.ints .i64 x0))), (3, (.int .i64 s_.1)), (4, (.int .i64 s_.2))], h := [] } k) (fun d => k (.exit 0) { n := 18, t := [(3, (.int .i64 d))], h := [] }) none := by
      kernel_rfl
    have hs : (fun s_ : Int × Int => I.guardsOf_L3 n { n := 18, t := [(0, (.ro false (.ints .i64 x0))), (3, (.int .i64 s_.1)), (4, (.int .i64 s_.2))], h := [] } k) = fun s_ => optC (I.guardsOf_run3 x0 n s_) (fun (r : Int) => k (.exit 0) { n := 18, t := [(3, (.int .i64 r))], h := [] }) none := funext ih
    rw [hu, hs]
    exact (I.guardsOf_step3_nat (fun o => optC o (fun (r : Int) => k (.exit 0) { n := 18, t := [(3, (.int .i64 r))], h := [] }) none) x0 s_.1 s_.2 (I.guardsOf_run3 x0 n) (fun d => some d) none).symm
noncomputable def I.guardsOf_tree {α : Type} (row : List Int) (leaf0_ : Int → α) (fail_ : α) : α :=
  (optC (I.guardsOf_run3 row FUEL (0, 0)) (fun qy_1 => (leaf0_ qy_1)) fail_)
theorem I.guardsOf_tree_nat {α γ : Type} (g : α → γ) (row : List Int) (leaf0_ : Int → α) (fail_ : α) : g (I.guardsOf_tree row leaf0_ fail_) = I.guardsOf_tree row (fun d => g (leaf0_ d)) (g fail_) := by
  unfold I.guardsOf_tree; simp only [apply_cnd g, apply_optC g, apply_sumC g]
noncomputable def I.guardsOf_t (row : List Int) : Option (Int) := I.guardsOf_tree row (fun d => some d) none
theorem I.guardsOf_den (row : List Int) (κ : V → List E → R) : I.guardsOf_F [.ro false (.ints .i64 row)] [] κ = optC (I.guardsOf_t row) (fun (r : Int) => κ (.int .i64 r) []) none := by
  have hu : I.guardsOf_F [.ro false (.ints .i64 row)] [] κ = I.guardsOf_tree row (fun d => κ (.int .i64 d) []) none := by
    refine Eq.trans (show I.guardsOf_F [.ro false (.ints .i64 row)] [] κ = (I.guardsOf_L3 FUEL { n := 18, t := [(0, (.ro false (.ints .i64 row))), (3, (.int .i64 0)), (4, (.int .i64 0))], h := [] } (I.guardsOf_k3 κ)) by kernel_rfl) ?_
    refine (I.guardsOf_L3_run row FUEL (0, 0) (I.guardsOf_k3 κ)).trans (optC_congr (fun qy_1 => ?_))
    kernel_rfl
  rw [hu]
  exact (I.guardsOf_tree_nat (fun o => optC o (fun (r : Int) => κ (.int .i64 r) []) none) row (fun d => some d) none).symm
noncomputable def I.guardsOf_s : D.Spec where
  keep := false
  pure := true
  ds := [.int .i64]
  sp := fun args h κ => match args, h with
    | [.ro false (.ints .i64 row)], [] => optC (I.guardsOf_t row) (fun (r : Int) => κ (.int .i64 r) []) none
    | _, _ => none
theorem I.guardsOf_ok : SpecOk Try.prog 71 I.guardsOf_s := by
  refine SpecOk.of TDok mixed (T := I.guardsOf_T) ?_ (ann := I.guardsOf_ann) Try.func71 rfl (by decide +kernel) ?_ ?_ ?_
  · intro p hp; cases hp
  · intro args h κ r hh
    simp only [I.guardsOf_s] at hh
    split at hh
    · exact (I.guardsOf_den _ κ).trans hh
    · cases hh
  · intro args h κ r hh
    simp only [I.guardsOf_s] at hh ⊢
    split at hh
    · exact optC_law2 (F := fun (r : Int) κ => κ (.int .i64 r) []) (fun b κ r hb => ⟨_, _, hb, fun _ => rfl⟩) hh
    · cases hh
  · intro _ args h κ r hh
    simp only [I.guardsOf_s] at hh
    split at hh
    · exact ⟨rfl, fun _ => rfl⟩
    · cases hh

-- loop.example/guardsonnets/impl.FewestWeak
noncomputable def I.FewestWeak_T : List (Nat × D.Spec) := [(27, I.NetOk_s), (69, I.rowsOf_s), (70, I.rowAt_s), (65, I.weakIn_s), (71, I.guardsOf_s), (57, I.fewerOf_s)]
def I.FewestWeak_ann : Nat → List Nat × List Nat
  | 5 => ([0, 3, 4], [3])
  | _ => ([], [])
noncomputable def I.FewestWeak_F (args : List V) (h : List E) (κ : V → List E → R) : R := funC TD (tableK I.FewestWeak_T) I.FewestWeak_ann (drawOk (tableP I.FewestWeak_T)) FUEL Try.f36 args h κ
noncomputable def I.FewestWeak_L5 (n : Nat) (σ : St) (k : X → St → R) : R := iterC 0 (fun σ k => denC TD (tableK I.FewestWeak_T) I.FewestWeak_ann (drawOk (tableP I.FewestWeak_T)) 0 FUEL ((findLoop 5 (Try.f36.body.getD .skip)).getD .skip) σ k) [0, 3, 4] [3] n σ k
noncomputable def I.FewestWeak_k5 (κ : V → List E → R) : X → St → R := (afterC TD (tableK I.FewestWeak_T) I.FewestWeak_ann (drawOk (tableP I.FewestWeak_T)) 0 FUEL 5 (Try.f36.body.getD .skip) (finC TD 0 Try.f36 κ)).getD (fun _ _ => none)
noncomputable def I.FewestWeak_step5 {α : Type} (x0 : List Int) (x3 : Int) (x4 : Int) (next_ : Int × Int → α) (out0_ : Int → α) (fail_ : α) : α :=
  (optC (I.rowsOf_t x0) (fun c_2 => (bif decide (x4 < c_2) then (optC (I.rowAt_t x0 x4) (fun c_3 => (optC (I.weakIn_t x0 c_3) (fun c_4 => (bif c_4 then (optC (I.guardsOf_t c_3) (fun c_5 => (optC (I.fewerOf_t x3 c_5) (fun c_6 => (next_ (c_6, IntKind.i64.wrap (x4 + 1)))) fail_)) fail_) else (next_ (x3, IntKind.i64.wrap (x4 + 1))))) fail_)) fail_) else (out0_ x3))) fail_)
theorem I.FewestWeak_step5_nat {α γ : Type} (g : α → γ) (x0 : List Int) (x3 : Int) (x4 : Int) (next_ : Int × Int → α) (out0_ : Int → α) (fail_ : α) : g (I.FewestWeak_step5 x0 x3 x4 next_ out0_ fail_) = I.FewestWeak_step5 x0 x3 x4 (fun s => g (next_ s)) (fun d => g (out0_ d)) (g fail_) := by
  unfold I.FewestWeak_step5; simp only [apply_cnd g, apply_optC g, apply_sumC g]
noncomputable def I.FewestWeak_run5 (x0 : List Int) : Nat → Int × Int → Option (Int)
  | 0, _ => none
  | n + 1, s_ => I.FewestWeak_step5 x0 s_.1 s_.2 (I.FewestWeak_run5 x0 n) (fun d => some d) none
theorem I.FewestWeak_L5_run (x0 : List Int) (n : Nat) (s_ : Int × Int) (k : X → St → R) : I.FewestWeak_L5 n { n := 26, t := [(0, (.ro false (.ints .i64 x0))), (3, (.int .i64 s_.1)), (4, (.int .i64 s_.2))], h := [] } k = optC (I.FewestWeak_run5 x0 n s_) (fun (r : Int) => k (.exit 0) { n := 26, t := [(3, (.int .i64 r))], h := [] }) none := by
  induction n generalizing s_ with
  | zero => rfl
  | succ n ih =>
    have hu : I.FewestWeak_L5 (n + 1) { n := 26, t := [(0, (.ro false (.ints .i64 x0))), (3, (.int .i64 s_.1)), (4, (.int .i64 s_.2))], h := [] } k = I.FewestWeak_step5 x0 s_.1 s_.2 (fun s_ => I.FewestWeak_L5 n { n := 26, t := [(0, (.ro false (.ints .i64 x0))), (3, (.int .i64 s_.1)), (4, (.int .i64 s_.2))], h := [] } k) (fun d => k (.exit 0) { n := 26, t := [(3, (.int .i64 d))], h := [] }) none := by
      kernel_rfl
    have hs : (fun s_ : Int × Int => I.FewestWeak_L5 n { n := 26, t := [(0, (.ro false (.ints .i64 x0))), (3, (.int .i64 s_.1)), (4, (.int .i64 s_.2))], h := [] } k) = fun s_ => optC (I.FewestWeak_run5 x0 n s_) (fun (r : Int) => k (.exit 0) { n := 26, t := [(3, (.int .i64 r))], h := [] }) none := funext ih
    rw [hu, hs]
    exact (I.FewestWeak_step5_nat (fun o => optC o (fun (r : Int) => k (.exit 0) { n := 26, t := [(3, (.int .i64 r))], h := [] }) none) x0 s_.1 s_.2 (I.FewestWeak_run5 x0 n) (fun d => some d) none).symm
noncomputable def I.FewestWeak_tree {α : Type} (net : List Int) (leaf0_ : Int → α) (fail_ : α) : α :=
  (optC (I.NetOk_t net) (fun c_1 => (bif !c_1 then (leaf0_ (-1)) else (optC (I.FewestWeak_run5 net FUEL (-1, 0)) (fun qy_7 => (leaf0_ qy_7)) fail_))) fail_)
theorem I.FewestWeak_tree_nat {α γ : Type} (g : α → γ) (net : List Int) (leaf0_ : Int → α) (fail_ : α) : g (I.FewestWeak_tree net leaf0_ fail_) = I.FewestWeak_tree net (fun d => g (leaf0_ d)) (g fail_) := by
  unfold I.FewestWeak_tree; simp only [apply_cnd g, apply_optC g, apply_sumC g]
noncomputable def I.FewestWeak_t (net : List Int) : Option (Int) := I.FewestWeak_tree net (fun d => some d) none
theorem I.FewestWeak_den (net : List Int) (κ : V → List E → R) : I.FewestWeak_F [.ro false (.ints .i64 net)] [] κ = optC (I.FewestWeak_t net) (fun (r : Int) => κ (.int .i64 r) []) none := by
  have hu : I.FewestWeak_F [.ro false (.ints .i64 net)] [] κ = I.FewestWeak_tree net (fun d => κ (.int .i64 d) []) none := by
    refine Eq.trans (show I.FewestWeak_F [.ro false (.ints .i64 net)] [] κ = (optC (I.NetOk_t net) (fun c_1 => (bif !c_1 then (κ (.int .i64 (-1)) []) else (I.FewestWeak_L5 FUEL { n := 26, t := [(0, (.ro false (.ints .i64 net))), (3, (.int .i64 (-1))), (4, (.int .i64 0))], h := [] } (I.FewestWeak_k5 κ)))) none) by kernel_rfl) ?_
    refine optC_congr (fun c_1 => ?_)
    refine cnd_congr ?_ ?_
    · kernel_rfl
    · refine (I.FewestWeak_L5_run net FUEL (-1, 0) (I.FewestWeak_k5 κ)).trans (optC_congr (fun qy_7 => ?_))
      kernel_rfl
  rw [hu]
  exact (I.FewestWeak_tree_nat (fun o => optC o (fun (r : Int) => κ (.int .i64 r) []) none) net (fun d => some d) none).symm
noncomputable def I.FewestWeak_s : D.Spec where
  keep := false
  pure := true
  ds := [.int .i64]
  sp := fun args h κ => match args, h with
    | [.ro false (.ints .i64 net)], [] => optC (I.FewestWeak_t net) (fun (r : Int) => κ (.int .i64 r) []) none
    | _, _ => none
theorem I.FewestWeak_ok : SpecOk Try.prog 36 I.FewestWeak_s := by
  refine SpecOk.of TDok mixed (T := I.FewestWeak_T) ?_ (ann := I.FewestWeak_ann) Try.func36 rfl (by decide +kernel) ?_ ?_ ?_
  · intro p hp
    simp only [I.FewestWeak_T, List.mem_cons, List.not_mem_nil, or_false] at hp
    rcases hp with rfl | rfl | rfl | rfl | rfl | rfl
    · exact I.NetOk_ok
    · exact I.rowsOf_ok
    · exact I.rowAt_ok
    · exact I.weakIn_ok
    · exact I.guardsOf_ok
    · exact I.fewerOf_ok
  · intro args h κ r hh
    simp only [I.FewestWeak_s] at hh
    split at hh
    · exact (I.FewestWeak_den _ κ).trans hh
    · cases hh
  · intro args h κ r hh
    simp only [I.FewestWeak_s] at hh ⊢
    split at hh
    · exact optC_law2 (F := fun (r : Int) κ => κ (.int .i64 r) []) (fun b κ r hb => ⟨_, _, hb, fun _ => rfl⟩) hh
    · cases hh
  · intro _ args h κ r hh
    simp only [I.FewestWeak_s] at hh
    split at hh
    · exact ⟨rfl, fun _ => rfl⟩
    · cases hh

-- loop.example/guardsonnets/spec.l7Rows
noncomputable def S.l7Rows_T : List (Nat × D.Spec) := []
def S.l7Rows_ann : Nat → List Nat × List Nat
  | 3 => ([0, 3, 4], [3])
  | _ => ([], [])
noncomputable def S.l7Rows_F (args : List V) (h : List E) (κ : V → List E → R) : R := funC TD (tableK S.l7Rows_T) S.l7Rows_ann (drawOk (tableP S.l7Rows_T)) FUEL Try.f72 args h κ
noncomputable def S.l7Rows_L3 (n : Nat) (σ : St) (k : X → St → R) : R := iterC 0 (fun σ k => denC TD (tableK S.l7Rows_T) S.l7Rows_ann (drawOk (tableP S.l7Rows_T)) 0 FUEL ((findLoop 3 (Try.f72.body.getD .skip)).getD .skip) σ k) [0, 3, 4] [3] n σ k
noncomputable def S.l7Rows_k3 (κ : V → List E → R) : X → St → R := (afterC TD (tableK S.l7Rows_T) S.l7Rows_ann (drawOk (tableP S.l7Rows_T)) 0 FUEL 3 (Try.f72.body.getD .skip) (finC TD 0 Try.f72 κ)).getD (fun _ _ => none)
noncomputable def S.l7Rows_step3 {α : Type} (x0 : Int) (x3 : Int) (x4 : Int) (next_ : Int × Int → α) (out0_ : Int → α) (fail_ : α) : α :=
  (bif decide (x4 < x0) then (next_ (IntKind.i64.wrap (x3 * 3), IntKind.i64.wrap (x4 + 1))) else (out0_ x3))
theorem S.l7Rows_step3_nat {α γ : Type} (g : α → γ) (x0 : Int) (x3 : Int) (x4 : Int) (next_ : Int × Int → α) (out0_ : Int → α) (fail_ : α) : g (S.l7Rows_step3 x0 x3 x4 next_ out0_ fail_) = S.l7Rows_step3 x0 x3 x4 (fun s => g (next_ s)) (fun d => g (out0_ d)) (g fail_) := by
  unfold S.l7Rows_step3; simp only [apply_cnd g, apply_optC g, apply_sumC g]
noncomputable def S.l7Rows_run3 (x0 : Int) : Nat → Int × Int → Option (Int)
  | 0, _ => none
  | n + 1, s_ => S.l7Rows_step3 x0 s_.1 s_.2 (S.l7Rows_run3 x0 n) (fun d => some d) none
theorem S.l7Rows_L3_run (x0 : Int) (n : Nat) (s_ : Int × Int) (k : X → St → R) : S.l7Rows_L3 n { n := 13, t := [(0, (.int .i64 x0)), (3, (.int .i64 s_.1)), (4, (.int .i64 s_.2))], h := [] } k = optC (S.l7Rows_run3 x0 n s_) (fun (r : Int) => k (.exit 0) { n := 13, t := [(3, (.int .i64 r))], h := [] }) none := by
  induction n generalizing s_ with
  | zero => rfl
  | succ n ih =>
    have hu : S.l7Rows_L3 (n + 1) { n := 13, t := [(0, (.int .i64 x0)), (3, (.int .i64 s_.1)), (4, (.int .i64 s_.2))], h := [] } k = S.l7Rows_step3 x0 s_.1 s_.2 (fun s_ => S.l7Rows_L3 n { n := 13, t := [(0, (.int .i64 x0)), (3, (.int .i64 s_.1)), (4, (.int .i64 s_.2))], h := [] } k) (fun d => k (.exit 0) { n := 13, t := [(3, (.int .i64 d))], h := [] }) none := by
      kernel_rfl
    have hs : (fun s_ : Int × Int => S.l7Rows_L3 n { n := 13, t := [(0, (.int .i64 x0)), (3, (.int .i64 s_.1)), (4, (.int .i64 s_.2))], h := [] } k) = fun s_ => optC (S.l7Rows_run3 x0 n s_) (fun (r : Int) => k (.exit 0) { n := 13, t := [(3, (.int .i64 r))], h := [] }) none := funext ih
    rw [hu, hs]
    exact (S.l7Rows_step3_nat (fun o => optC o (fun (r : Int) => k (.exit 0) { n := 13, t := [(3, (.int .i64 r))], h := [] }) none) x0 s_.1 s_.2 (S.l7Rows_run3 x0 n) (fun d => some d) none).symm
noncomputable def S.l7Rows_tree {α : Type} (places : Int) (leaf0_ : Int → α) (fail_ : α) : α :=
  (optC (S.l7Rows_run3 places FUEL (1, 0)) (fun qy_1 => (leaf0_ qy_1)) fail_)
theorem S.l7Rows_tree_nat {α γ : Type} (g : α → γ) (places : Int) (leaf0_ : Int → α) (fail_ : α) : g (S.l7Rows_tree places leaf0_ fail_) = S.l7Rows_tree places (fun d => g (leaf0_ d)) (g fail_) := by
  unfold S.l7Rows_tree; simp only [apply_cnd g, apply_optC g, apply_sumC g]
noncomputable def S.l7Rows_t (places : Int) : Option (Int) := S.l7Rows_tree places (fun d => some d) none
theorem S.l7Rows_den (places : Int) (κ : V → List E → R) : S.l7Rows_F [.int .i64 places] [] κ = optC (S.l7Rows_t places) (fun (r : Int) => κ (.int .i64 r) []) none := by
  have hu : S.l7Rows_F [.int .i64 places] [] κ = S.l7Rows_tree places (fun d => κ (.int .i64 d) []) none := by
    refine Eq.trans (show S.l7Rows_F [.int .i64 places] [] κ = (S.l7Rows_L3 FUEL { n := 13, t := [(0, (.int .i64 places)), (3, (.int .i64 1)), (4, (.int .i64 0))], h := [] } (S.l7Rows_k3 κ)) by kernel_rfl) ?_
    refine (S.l7Rows_L3_run places FUEL (1, 0) (S.l7Rows_k3 κ)).trans (optC_congr (fun qy_1 => ?_))
    kernel_rfl
  rw [hu]
  exact (S.l7Rows_tree_nat (fun o => optC o (fun (r : Int) => κ (.int .i64 r) []) none) places (fun d => some d) none).symm
noncomputable def S.l7Rows_s : D.Spec where
  keep := false
  pure := true
  ds := [.invalid]
  sp := fun args h κ => match args, h with
    | [.int .i64 places], [] => optC (S.l7Rows_t places) (fun (r : Int) => κ (.int .i64 r) []) none
    | _, _ => none
theorem S.l7Rows_ok : SpecOk Try.prog 72 S.l7Rows_s := by
  refine SpecOk.of TDok mixed (T := S.l7Rows_T) ?_ (ann := S.l7Rows_ann) Try.func72 rfl (by decide +kernel) ?_ ?_ ?_
  · intro p hp; cases hp
  · intro args h κ r hh
    simp only [S.l7Rows_s] at hh
    split at hh
    · exact (S.l7Rows_den _ κ).trans hh
    · cases hh
  · intro args h κ r hh
    simp only [S.l7Rows_s] at hh ⊢
    split at hh
    · exact optC_law2 (F := fun (r : Int) κ => κ (.int .i64 r) []) (fun b κ r hb => ⟨_, _, hb, fun _ => rfl⟩) hh
    · cases hh
  · intro _ args h κ r hh
    simp only [S.l7Rows_s] at hh
    split at hh
    · exact ⟨rfl, fun _ => rfl⟩
    · cases hh

-- loop.example/guardsonnets/spec.l7Of
noncomputable def S.l7Of_T : List (Nat × D.Spec) := []
def S.l7Of_ann : Nat → List Nat × List Nat
  | 3 => ([1, 5, 6], [5])
  | _ => ([], [])
noncomputable def S.l7Of_F (args : List V) (h : List E) (κ : V → List E → R) : R := funC TD (tableK S.l7Of_T) S.l7Of_ann (drawOk (tableP S.l7Of_T)) FUEL Try.f73 args h κ
noncomputable def S.l7Of_L3 (n : Nat) (σ : St) (k : X → St → R) : R := iterC 0 (fun σ k => denC TD (tableK S.l7Of_T) S.l7Of_ann (drawOk (tableP S.l7Of_T)) 0 FUEL ((findLoop 3 (Try.f73.body.getD .skip)).getD .skip) σ k) [1, 5, 6] [5] n σ k
noncomputable def S.l7Of_k3 (κ : V → List E → R) : X → St → R := (afterC TD (tableK S.l7Of_T) S.l7Of_ann (drawOk (tableP S.l7Of_T)) 0 FUEL 3 (Try.f73.body.getD .skip) (finC TD 0 Try.f73 κ)).getD (fun _ _ => none)
noncomputable def S.l7Of_step3 {α : Type} (x1 : Int) (x6 : Int) (r0 : List Int) (next_ : Int × Int × (List Int) → α) (out0_ : List Int → α) (fail_ : α) : α :=
  (bif decide (x6 ≥ 0) then (bif decide (0 ≤ x6) && decide (x6 < (↑r0.length : Int)) then (bif decide (x6.toNat < r0.length) then (next_ (IntKind.i64.wrap (x1.tdiv 3), IntKind.i64.wrap (x6 - 1), r0.set x6.toNat (x1.tmod 3))) else fail_) else fail_) else (out0_ r0))
theorem S.l7Of_step3_nat {α γ : Type} (g : α → γ) (x1 : Int) (x6 : Int) (r0 : List Int) (next_ : Int × Int × (List Int) → α) (out0_ : List Int → α) (fail_ : α) : g (S.l7Of_step3 x1 x6 r0 next_ out0_ fail_) = S.l7Of_step3 x1 x6 r0 (fun s => g (next_ s)) (fun d => g (out0_ d)) (g fail_) := by
  unfold S.l7Of_step3; simp only [apply_cnd g, apply_optC g, apply_sumC g]
noncomputable def S.l7Of_run3 : Nat → Int × Int × (List Int) → Option (List Int)
  | 0, _ => none
  | n + 1, s_ => S.l7Of_step3 s_.1 s_.2.1 s_.2.2 (S.l7Of_run3 n) (fun d => some d) none
theorem S.l7Of_L3_run (n : Nat) (s_ : Int × Int × (List Int)) (k : X → St → R) : S.l7Of_L3 n { n := 23, t := [(1, (.int .i64 s_.1)), (5, (.own 0)), (6, (.int .i64 s_.2.1))], h := [.row (.ints .i64 s_.2.2)] } k = optC (S.l7Of_run3 n s_) (fun (r : List Int) => k (.exit 0) { n := 23, t := [(5, (.own 0))], h := [.row (.ints .i64 r)] }) none := by
  induction n generalizing s_ with
  | zero => rfl
  | succ n ih =>
    have hu : S.l7Of_L3 (n + 1) { n := 23, t := [(1, (.int .i64 s_.1)), (5, (.own 0)), (6, (.int .i64 s_.2.1))], h := [.row (.ints .i64 s_.2.2)] } k = S.l7Of_step3 s_.1 s_.2.1 s_.2.2 (fun s_ => S.l7Of_L3 n { n := 23, t := [(1, (.int .i64 s_.1)), (5, (.own 0)), (6, (.int .i64 s_.2.1))], h := [.row (.ints .i64 s_.2.2)] } k) (fun d => k (.exit 0) { n := 23, t := [(5, (.own 0))], h := [.row (.ints .i64 d)] }) none := by
      kernel_rfl
    have hs : (fun s_ : Int × Int × (List Int) => S.l7Of_L3 n { n := 23, t := [(1, (.int .i64 s_.1)), (5, (.own 0)), (6, (.int .i64 s_.2.1))], h := [.row (.ints .i64 s_.2.2)] } k) = fun s_ => optC (S.l7Of_run3 n s_) (fun (r : List Int) => k (.exit 0) { n := 23, t := [(5, (.own 0))], h := [.row (.ints .i64 r)] }) none := funext ih
    rw [hu, hs]
    exact (S.l7Of_step3_nat (fun o => optC o (fun (r : List Int) => k (.exit 0) { n := 23, t := [(5, (.own 0))], h := [.row (.ints .i64 r)] }) none) s_.1 s_.2.1 s_.2.2 (S.l7Of_run3 n) (fun d => some d) none).symm
noncomputable def S.l7Of_tree {α : Type} (places : Int) (n_ : Int) (leaf0_ : List Int → α) (fail_ : α) : α :=
  (bif decide (0 ≤ places) && small places.toNat && true then (optC (S.l7Of_run3 FUEL (n_, IntKind.i64.wrap (places - 1), List.replicate places.toNat 0)) (fun qy_1 => (leaf0_ qy_1)) fail_) else fail_)
theorem S.l7Of_tree_nat {α γ : Type} (g : α → γ) (places : Int) (n_ : Int) (leaf0_ : List Int → α) (fail_ : α) : g (S.l7Of_tree places n_ leaf0_ fail_) = S.l7Of_tree places n_ (fun d => g (leaf0_ d)) (g fail_) := by
  unfold S.l7Of_tree; simp only [apply_cnd g, apply_optC g, apply_sumC g]
noncomputable def S.l7Of_t (places : Int) (n_ : Int) : Option (List Int) := S.l7Of_tree places n_ (fun d => some d) none
theorem S.l7Of_den (places : Int) (n_ : Int) (κ : V → List E → R) : S.l7Of_F [.int .i64 places, .int .i64 n_] [] κ = optC (S.l7Of_t places n_) (fun (r : List Int) => κ (.own 0) [.row (.ints .i64 r)]) none := by
  have hu : S.l7Of_F [.int .i64 places, .int .i64 n_] [] κ = S.l7Of_tree places n_ (fun d => κ (.own 0) [.row (.ints .i64 d)]) none := by
    refine Eq.trans (show S.l7Of_F [.int .i64 places, .int .i64 n_] [] κ = (bif decide (0 ≤ places) && small places.toNat && true then (S.l7Of_L3 FUEL { n := 23, t := [(1, (.int .i64 n_)), (5, (.own 0)), (6, (.int .i64 (IntKind.i64.wrap (places - 1))))], h := [.row (.ints .i64 (List.replicate places.toNat 0))] } (S.l7Of_k3 κ)) else none) by kernel_rfl) ?_
    refine cnd_congr ?_ ?_
    · refine (S.l7Of_L3_run FUEL (n_, IntKind.i64.wrap (places - 1), List.replicate places.toNat 0) (S.l7Of_k3 κ)).trans (optC_congr (fun qy_1 => ?_))
      kernel_rfl
    · kernel_rfl
  rw [hu]
  exact (S.l7Of_tree_nat (fun o => optC o (fun (r : List Int) => κ (.own 0) [.row (.ints .i64 r)]) none) places n_ (fun d => some d) none).symm
noncomputable def S.l7Of_s : D.Spec where
  keep := false
  pure := false
  ds := [.invalid, .invalid]
  sp := fun args h κ => match args, h with
    | [.int .i64 places, .int .i64 n_], [] => optC (S.l7Of_t places n_) (fun (r : List Int) => κ (.own 0) [.row (.ints .i64 r)]) none
    | _, _ => none
theorem S.l7Of_ok : SpecOk Try.prog 73 S.l7Of_s := by
  refine SpecOk.of TDok mixed (T := S.l7Of_T) ?_ (ann := S.l7Of_ann) Try.func73 rfl (by decide +kernel) ?_ ?_ ?_
  · intro p hp; cases hp
  · intro args h κ r hh
    simp only [S.l7Of_s] at hh
    split at hh
    · exact (S.l7Of_den _ _ κ).trans hh
    · cases hh
  · intro args h κ r hh
    simp only [S.l7Of_s] at hh ⊢
    split at hh
    · exact optC_law2 (F := fun (r : List Int) κ => κ (.own 0) [.row (.ints .i64 r)]) (fun b κ r hb => ⟨_, _, hb, fun _ => rfl⟩) hh
    · cases hh
  · intro hh; cases hh

-- loop.example/guardsonnets/spec.l7Sum
noncomputable def S.l7Sum_T : List (Nat × D.Spec) := []
def S.l7Sum_ann : Nat → List Nat × List Nat
  | 3 => ([0, 3, 4], [3])
  | _ => ([], [])
noncomputable def S.l7Sum_F (args : List V) (h : List E) (κ : V → List E → R) : R := funC TD (tableK S.l7Sum_T) S.l7Sum_ann (drawOk (tableP S.l7Sum_T)) FUEL Try.f74 args h κ
noncomputable def S.l7Sum_L3 (n : Nat) (σ : St) (k : X → St → R) : R := iterC 0 (fun σ k => denC TD (tableK S.l7Sum_T) S.l7Sum_ann (drawOk (tableP S.l7Sum_T)) 0 FUEL ((findLoop 3 (Try.f74.body.getD .skip)).getD .skip) σ k) [0, 3, 4] [3] n σ k
noncomputable def S.l7Sum_k3 (κ : V → List E → R) : X → St → R := (afterC TD (tableK S.l7Sum_T) S.l7Sum_ann (drawOk (tableP S.l7Sum_T)) 0 FUEL 3 (Try.f74.body.getD .skip) (finC TD 0 Try.f74 κ)).getD (fun _ _ => none)
noncomputable def S.l7Sum_step3 {α : Type} (x0 : List Int) (x3 : Int) (x4 : Int) (next_ : Int × Int → α) (out0_ : Int → α) (fail_ : α) : α :=
  (bif decide (x4 < (↑x0.length : Int)) then (bif decide (0 ≤ x4) && decide (x4 < (↑x0.length : Int)) then (next_ (IntKind.i64.wrap (x3 + eli x0 x4.toNat), IntKind.i64.wrap (x4 + 1))) else fail_) else (out0_ x3))
theorem S.l7Sum_step3_nat {α γ : Type} (g : α → γ) (x0 : List Int) (x3 : Int) (x4 : Int) (next_ : Int × Int → α) (out0_ : Int → α) (fail_ : α) : g (S.l7Sum_step3 x0 x3 x4 next_ out0_ fail_) = S.l7Sum_step3 x0 x3 x4 (fun s => g (next_ s)) (fun d => g (out0_ d)) (g fail_) := by
  unfold S.l7Sum_step3; simp only [apply_cnd g, apply_optC g, apply_sumC g]
noncomputable def S.l7Sum_run3 (x0 : List Int) : Nat → Int × Int → Option (Int)
  | 0, _ => none
  | n + 1, s_ => S.l7Sum_step3 x0 s_.1 s_.2 (S.l7Sum_run3 x0 n) (fun d => some d) none
theorem S.l7Sum_L3_run (x0 : List Int) (n : Nat) (s_ : Int × Int) (k : X → St → R) : S.l7Sum_L3 n { n := 18, t := [(0, (.ro false (.ints .i64 x0))), (3, (.int .i64 s_.1)), (4, (.int .i64 s_.2))], h := [] } k = optC (S.l7Sum_run3 x0 n s_) (fun (r : Int) => k (.exit 0) { n := 18, t := [(3, (.int .i64 r))], h := [] }) none := by
  induction n generalizing s_ with
  | zero => rfl
  | succ n ih =>
    have hu : S.l7Sum_L3 (n + 1) { n := 18, t := [(0, (.ro false (.ints .i64 x0))), (3, (.int .i64 s_.1)), (4, (.int .i64 s_.2))], h := [] } k = S.l7Sum_step3 x0 s_.1 s_.2 (fun s_ => S.l7Sum_L3 n { n := 18, t := [(0, (.ro false (.ints .i64 x0))), (3, (.int .i64 s_.1)), (4, (.int .i64 s_.2))], h := [] } k) (fun d => k (.exit 0) { n := 18, t := [(3, (.int .i64 d))], h := [] }) none := by
      kernel_rfl
    have hs : (fun s_ : Int × Int => S.l7Sum_L3 n { n := 18, t := [(0, (.ro false (.ints .i64 x0))), (3, (.int .i64 s_.1)), (4, (.int .i64 s_.2))], h := [] } k) = fun s_ => optC (S.l7Sum_run3 x0 n s_) (fun (r : Int) => k (.exit 0) { n := 18, t := [(3, (.int .i64 r))], h := [] }) none := funext ih
    rw [hu, hs]
    exact (S.l7Sum_step3_nat (fun o => optC o (fun (r : Int) => k (.exit 0) { n := 18, t := [(3, (.int .i64 r))], h := [] }) none) x0 s_.1 s_.2 (S.l7Sum_run3 x0 n) (fun d => some d) none).symm
noncomputable def S.l7Sum_tree {α : Type} (row : List Int) (leaf0_ : Int → α) (fail_ : α) : α :=
  (optC (S.l7Sum_run3 row FUEL (0, 0)) (fun qy_1 => (leaf0_ qy_1)) fail_)
theorem S.l7Sum_tree_nat {α γ : Type} (g : α → γ) (row : List Int) (leaf0_ : Int → α) (fail_ : α) : g (S.l7Sum_tree row leaf0_ fail_) = S.l7Sum_tree row (fun d => g (leaf0_ d)) (g fail_) := by
  unfold S.l7Sum_tree; simp only [apply_cnd g, apply_optC g, apply_sumC g]
noncomputable def S.l7Sum_t (row : List Int) : Option (Int) := S.l7Sum_tree row (fun d => some d) none
theorem S.l7Sum_den (row : List Int) (κ : V → List E → R) : S.l7Sum_F [.ro false (.ints .i64 row)] [] κ = optC (S.l7Sum_t row) (fun (r : Int) => κ (.int .i64 r) []) none := by
  have hu : S.l7Sum_F [.ro false (.ints .i64 row)] [] κ = S.l7Sum_tree row (fun d => κ (.int .i64 d) []) none := by
    refine Eq.trans (show S.l7Sum_F [.ro false (.ints .i64 row)] [] κ = (S.l7Sum_L3 FUEL { n := 18, t := [(0, (.ro false (.ints .i64 row))), (3, (.int .i64 0)), (4, (.int .i64 0))], h := [] } (S.l7Sum_k3 κ)) by kernel_rfl) ?_
    refine (S.l7Sum_L3_run row FUEL (0, 0) (S.l7Sum_k3 κ)).trans (optC_congr (fun qy_1 => ?_))
    kernel_rfl
  rw [hu]
  exact (S.l7Sum_tree_nat (fun o => optC o (fun (r : Int) => κ (.int .i64 r) []) none) row (fun d => some d) none).symm
noncomputable def S.l7Sum_s : D.Spec where
  keep := false
  pure := true
  ds := [.int .i64]
  sp := fun args h κ => match args, h with
    | [.ro false (.ints .i64 row)], [] => optC (S.l7Sum_t row) (fun (r : Int) => κ (.int .i64 r) []) none
    | _, _ => none
theorem S.l7Sum_ok : SpecOk Try.prog 74 S.l7Sum_s := by
  refine SpecOk.of TDok mixed (T := S.l7Sum_T) ?_ (ann := S.l7Sum_ann) Try.func74 rfl (by decide +kernel) ?_ ?_ ?_
  · intro p hp; cases hp
  · intro args h κ r hh
    simp only [S.l7Sum_s] at hh
    split at hh
    · exact (S.l7Sum_den _ κ).trans hh
    · cases hh
  · intro args h κ r hh
    simp only [S.l7Sum_s] at hh ⊢
    split at hh
    · exact optC_law2 (F := fun (r : Int) κ => κ (.int .i64 r) []) (fun b κ r hb => ⟨_, _, hb, fun _ => rfl⟩) hh
    · cases hh
  · intro _ args h κ r hh
    simp only [S.l7Sum_s] at hh
    split at hh
    · exact ⟨rfl, fun _ => rfl⟩
    · cases hh

-- loop.example/guardsonnets/spec.FewestWeak
noncomputable def S.FewestWeak_T : List (Nat × D.Spec) := [(42, S.NetOk_s), (72, S.l7Rows_s), (73, S.l7Of_s), (74, S.l7Sum_s), (32, S.WeakOk_s)]
def S.FewestWeak_ann : Nat → List Nat × List Nat
  | 5 => ([0, 3, 4], [3])
  | _ => ([], [])
noncomputable def S.FewestWeak_F (args : List V) (h : List E) (κ : V → List E → R) : R := funC TD (tableK S.FewestWeak_T) S.FewestWeak_ann (drawOk (tableP S.FewestWeak_T)) FUEL Try.f37 args h κ
noncomputable def S.FewestWeak_L5 (n : Nat) (σ : St) (k : X → St → R) : R := iterC 0 (fun σ k => denC TD (tableK S.FewestWeak_T) S.FewestWeak_ann (drawOk (tableP S.FewestWeak_T)) 0 FUEL ((findLoop 5 (Try.f37.body.getD .skip)).getD .skip) σ k) [0, 3, 4] [3] n σ k
noncomputable def S.FewestWeak_k5 (κ : V → List E → R) : X → St → R := (afterC TD (tableK S.FewestWeak_T) S.FewestWeak_ann (drawOk (tableP S.FewestWeak_T)) 0 FUEL 5 (Try.f37.body.getD .skip) (finC TD 0 Try.f37 κ)).getD (fun _ _ => none)
noncomputable def S.FewestWeak_step5 {α : Type} (x0 : List Int) (x3 : Int) (x4 : Int) (next_ : Int × Int → α) (out0_ : Int → α) (fail_ : α) : α :=
  (optC (S.l7Rows_t (↑x0.length : Int)) (fun c_2 => (bif decide (x4 < c_2) then (optC (S.l7Of_t (↑x0.length : Int) x4) (fun c_3 => (optC (S.l7Sum_t c_3) (fun c_4 => (bif decide (c_4 < x3) then (optC (S.WeakOk_t x0 c_3) (fun c_5 => (bif c_5 then (optC (S.l7Sum_t c_3) (fun c_6 => (next_ (c_6, IntKind.i64.wrap (x4 + 1)))) fail_) else (next_ (x3, IntKind.i64.wrap (x4 + 1))))) fail_) else (next_ (x3, IntKind.i64.wrap (x4 + 1))))) fail_)) fail_) else (out0_ x3))) fail_)
theorem S.FewestWeak_step5_nat {α γ : Type} (g : α → γ) (x0 : List Int) (x3 : Int) (x4 : Int) (next_ : Int × Int → α) (out0_ : Int → α) (fail_ : α) : g (S.FewestWeak_step5 x0 x3 x4 next_ out0_ fail_) = S.FewestWeak_step5 x0 x3 x4 (fun s => g (next_ s)) (fun d => g (out0_ d)) (g fail_) := by
  unfold S.FewestWeak_step5; simp only [apply_cnd g, apply_optC g, apply_sumC g]
noncomputable def S.FewestWeak_run5 (x0 : List Int) : Nat → Int × Int → Option (Int)
  | 0, _ => none
  | n + 1, s_ => S.FewestWeak_step5 x0 s_.1 s_.2 (S.FewestWeak_run5 x0 n) (fun d => some d) none
theorem S.FewestWeak_L5_run (x0 : List Int) (n : Nat) (s_ : Int × Int) (k : X → St → R) : S.FewestWeak_L5 n { n := 34, t := [(0, (.ro false (.ints .i64 x0))), (3, (.int .i64 s_.1)), (4, (.int .i64 s_.2))], h := [] } k = optC (S.FewestWeak_run5 x0 n s_) (fun (r : Int) => k (.exit 0) { n := 34, t := [(3, (.int .i64 r))], h := [] }) none := by
  induction n generalizing s_ with
  | zero => rfl
  | succ n ih =>
    have hu : S.FewestWeak_L5 (n + 1) { n := 34, t := [(0, (.ro false (.ints .i64 x0))), (3, (.int .i64 s_.1)), (4, (.int .i64 s_.2))], h := [] } k = S.FewestWeak_step5 x0 s_.1 s_.2 (fun s_ => S.FewestWeak_L5 n { n := 34, t := [(0, (.ro false (.ints .i64 x0))), (3, (.int .i64 s_.1)), (4, (.int .i64 s_.2))], h := [] } k) (fun d => k (.exit 0) { n := 34, t := [(3, (.int .i64 d))], h := [] }) none := by
      kernel_rfl
    have hs : (fun s_ : Int × Int => S.FewestWeak_L5 n { n := 34, t := [(0, (.ro false (.ints .i64 x0))), (3, (.int .i64 s_.1)), (4, (.int .i64 s_.2))], h := [] } k) = fun s_ => optC (S.FewestWeak_run5 x0 n s_) (fun (r : Int) => k (.exit 0) { n := 34, t := [(3, (.int .i64 r))], h := [] }) none := funext ih
    rw [hu, hs]
    exact (S.FewestWeak_step5_nat (fun o => optC o (fun (r : Int) => k (.exit 0) { n := 34, t := [(3, (.int .i64 r))], h := [] }) none) x0 s_.1 s_.2 (S.FewestWeak_run5 x0 n) (fun d => some d) none).symm
noncomputable def S.FewestWeak_tree {α : Type} (net : List Int) (leaf0_ : Int → α) (fail_ : α) : α :=
  (optC (S.NetOk_t net) (fun c_1 => (bif !c_1 then (leaf0_ (-1)) else (optC (S.FewestWeak_run5 net FUEL ((↑net.length : Int), 0)) (fun qy_7 => (leaf0_ qy_7)) fail_))) fail_)
theorem S.FewestWeak_tree_nat {α γ : Type} (g : α → γ) (net : List Int) (leaf0_ : Int → α) (fail_ : α) : g (S.FewestWeak_tree net leaf0_ fail_) = S.FewestWeak_tree net (fun d => g (leaf0_ d)) (g fail_) := by
  unfold S.FewestWeak_tree; simp only [apply_cnd g, apply_optC g, apply_sumC g]
noncomputable def S.FewestWeak_t (net : List Int) : Option (Int) := S.FewestWeak_tree net (fun d => some d) none
theorem S.FewestWeak_den (net : List Int) (κ : V → List E → R) : S.FewestWeak_F [.ro false (.ints .i64 net)] [] κ = optC (S.FewestWeak_t net) (fun (r : Int) => κ (.int .i64 r) []) none := by
  have hu : S.FewestWeak_F [.ro false (.ints .i64 net)] [] κ = S.FewestWeak_tree net (fun d => κ (.int .i64 d) []) none := by
    refine Eq.trans (show S.FewestWeak_F [.ro false (.ints .i64 net)] [] κ = (optC (S.NetOk_t net) (fun c_1 => (bif !c_1 then (κ (.int .i64 (-1)) []) else (S.FewestWeak_L5 FUEL { n := 34, t := [(0, (.ro false (.ints .i64 net))), (3, (.int .i64 ((↑net.length : Int)))), (4, (.int .i64 0))], h := [] } (S.FewestWeak_k5 κ)))) none) by kernel_rfl) ?_
    refine optC_congr (fun c_1 => ?_)
    refine cnd_congr ?_ ?_
    · kernel_rfl
    · refine (S.FewestWeak_L5_run net FUEL ((↑net.length : Int), 0) (S.FewestWeak_k5 κ)).trans (optC_congr (fun qy_7 => ?_))
      kernel_rfl
  rw [hu]
  exact (S.FewestWeak_tree_nat (fun o => optC o (fun (r : Int) => κ (.int .i64 r) []) none) net (fun d => some d) none).symm
noncomputable def S.FewestWeak_s : D.Spec where
  keep := false
  pure := true
  ds := [.int .i64]
  sp := fun args h κ => match args, h with
    | [.ro false (.ints .i64 net)], [] => optC (S.FewestWeak_t net) (fun (r : Int) => κ (.int .i64 r) []) none
    | _, _ => none
theorem S.FewestWeak_ok : SpecOk Try.prog 37 S.FewestWeak_s := by
  refine SpecOk.of TDok mixed (T := S.FewestWeak_T) ?_ (ann := S.FewestWeak_ann) Try.func37 rfl (by decide +kernel) ?_ ?_ ?_
  · intro p hp
    simp only [S.FewestWeak_T, List.mem_cons, List.not_mem_nil, or_false] at hp
    rcases hp with rfl | rfl | rfl | rfl | rfl
    · exact S.NetOk_ok
    · exact S.l7Rows_ok
    · exact S.l7Of_ok
    · exact S.l7Sum_ok
    · exact S.WeakOk_ok
  · intro args h κ r hh
    simp only [S.FewestWeak_s] at hh
    split at hh
    · exact (S.FewestWeak_den _ κ).trans hh
    · cases hh
  · intro args h κ r hh
    simp only [S.FewestWeak_s] at hh ⊢
    split at hh
    · exact optC_law2 (F := fun (r : Int) κ => κ (.int .i64 r) []) (fun b κ r hb => ⟨_, _, hb, fun _ => rfl⟩) hh
    · cases hh
  · intro _ args h κ r hh
    simp only [S.FewestWeak_s] at hh
    split at hh
    · exact ⟨rfl, fun _ => rfl⟩
    · cases hh

-- loop.example/guardsonnets/impl.romanRowIn
noncomputable def I.romanRowIn_T : List (Nat × D.Spec) := [(69, I.rowsOf_s), (70, I.rowAt_s), (71, I.guardsOf_s), (68, I.romanIn_s)]
def I.romanRowIn_ann : Nat → List Nat × List Nat
  | 4 => ([0, 3, 4, 5], [4])
  | _ => ([], [])
noncomputable def I.romanRowIn_F (args : List V) (h : List E) (κ : V → List E → R) : R := funC TD (tableK I.romanRowIn_T) I.romanRowIn_ann (drawOk (tableP I.romanRowIn_T)) FUEL Try.f75 args h κ
noncomputable def I.romanRowIn_L4 (n : Nat) (σ : St) (k : X → St → R) : R := iterC 0 (fun σ k => denC TD (tableK I.romanRowIn_T) I.romanRowIn_ann (drawOk (tableP I.romanRowIn_T)) 0 FUEL ((findLoop 4 (Try.f75.body.getD .skip)).getD .skip) σ k) [0, 3, 4, 5] [4] n σ k
noncomputable def I.romanRowIn_k4 (κ : V → List E → R) : X → St → R := (afterC TD (tableK I.romanRowIn_T) I.romanRowIn_ann (drawOk (tableP I.romanRowIn_T)) 0 FUEL 4 (Try.f75.body.getD .skip) (finC TD 0 Try.f75 κ)).getD (fun _ _ => none)
noncomputable def I.romanRowIn_step4 {α : Type} (x0 : List Int) (x3 : Int) (x5 : Int) (r0 : List Int) (next_ : Int × (List Int) → α) (out0_ : List Int → α) (fail_ : α) : α :=
  (bif decide (x5 < x3) then (optC (I.rowAt_t x0 x5) (fun c_3 => (optC (I.guardsOf_t c_3) (fun c_4 => (optC (I.guardsOf_t r0) (fun c_5 => (bif decide (c_4 < c_5) then (optC (I.romanIn_t x0 c_3) (fun c_6 => (bif c_6 then (next_ (IntKind.i64.wrap (x5 + 1), c_3)) else (next_ (IntKind.i64.wrap (x5 + 1), r0)))) fail_) else (next_ (IntKind.i64.wrap (x5 + 1), r0)))) fail_)) fail_)) fail_) else (out0_ r0))
theorem I.romanRowIn_step4_nat {α γ : Type} (g : α → γ) (x0 : List Int) (x3 : Int) (x5 : Int) (r0 : List Int) (next_ : Int × (List Int) → α) (out0_ : List Int → α) (fail_ : α) : g (I.romanRowIn_step4 x0 x3 x5 r0 next_ out0_ fail_) = I.romanRowIn_step4 x0 x3 x5 r0 (fun s => g (next_ s)) (fun d => g (out0_ d)) (g fail_) := by
  unfold I.romanRowIn_step4; simp only [apply_cnd g, apply_optC g, apply_sumC g]
noncomputable def I.romanRowIn_run4 (x0 : List Int) (x3 : Int) : Nat → Int × (List Int) → Option (List Int)
  | 0, _ => none
  | n + 1, s_ => I.romanRowIn_step4 x0 x3 s_.1 s_.2 (I.romanRowIn_run4 x0 x3 n) (fun d => some d) none
theorem I.romanRowIn_L4_run (x0 : List Int) (x3 : Int) (n : Nat) (s_ : Int × (List Int)) (k : X → St → R) : I.romanRowIn_L4 n { n := 33, t := [(0, (.ro false (.ints .i64 x0))), (3, (.int .i64 x3)), (4, (.own 0)), (5, (.int .i64 s_.1))], h := [.row (.ints .i64 s_.2)] } k = optC (I.romanRowIn_run4 x0 x3 n s_) (fun (r : List Int) => k (.exit 0) { n := 33, t := [(4, (.own 0))], h := [.row (.ints .i64 r)] }) none := by
  induction n generalizing s_ with
  | zero => rfl
  | succ n ih =>
    have hu : I.romanRowIn_L4 (n + 1) { n := 33, t := [(0, (.ro false (.ints .i64 x0))), (3, (.int .i64 x3)), (4, (.own 0)), (5, (.int .i64 s_.1))], h := [.row (.ints .i64 s_.2)] } k = I.romanRowIn_step4 x0 x3 s_.1 s_.2 (fun s_ => I.romanRowIn_L4 n { n := 33, t := [(0, (.ro false (.ints .i64 x0))), (3, (.int .i64 x3)), (4, (.own 0)), (5, (.int .i64 s_.1))], h := [.row (.ints .i64 s_.2)] } k) (fun d => k (.exit 0) { n := 33, t := [(4, (.own 0))], h := [.row (.ints .i64 d)] }) none := by
      kernel_rfl
    have hs : (fun s_ : Int × (List Int) => I.romanRowIn_L4 n { n := 33, t := [(0, (.ro false (.ints .i64 x0))), (3, (.int .i64 x3)), (4, (.own 0)), (5, (.int .i64 s_.1))], h := [.row (.ints .i64 s_.2)] } k) = fun s_ => optC (I.romanRowIn_run4 x0 x3 n s_) (fun (r : List Int) => k (.exit 0) { n := 33, t := [(4, (.own 0))], h := [.row (.ints .i64 r)] }) none := funext ih
    rw [hu, hs]
    exact (I.romanRowIn_step4_nat (fun o => optC o (fun (r : List Int) => k (.exit 0) { n := 33, t := [(4, (.own 0))], h := [.row (.ints .i64 r)] }) none) x0 x3 s_.1 s_.2 (I.romanRowIn_run4 x0 x3 n) (fun d => some d) none).symm
noncomputable def I.romanRowIn_tree {α : Type} (net : List Int) (leaf0_ : List Int → α) (fail_ : α) : α :=
  (optC (I.rowsOf_t net) (fun c_1 => (optC (I.rowAt_t net (IntKind.i64.wrap (c_1 - 1))) (fun c_2 => (optC (I.romanRowIn_run4 net (IntKind.i64.wrap (c_1 - 1)) FUEL (0, c_2)) (fun qy_7 => (leaf0_ qy_7)) fail_)) fail_)) fail_)
theorem I.romanRowIn_tree_nat {α γ : Type} (g : α → γ) (net : List Int) (leaf0_ : List Int → α) (fail_ : α) : g (I.romanRowIn_tree net leaf0_ fail_) = I.romanRowIn_tree net (fun d => g (leaf0_ d)) (g fail_) := by
  unfold I.romanRowIn_tree; simp only [apply_cnd g, apply_optC g, apply_sumC g]
noncomputable def I.romanRowIn_t (net : List Int) : Option (List Int) := I.romanRowIn_tree net (fun d => some d) none
theorem I.romanRowIn_den (net : List Int) (κ : V → List E → R) : I.romanRowIn_F [.ro false (.ints .i64 net)] [] κ = optC (I.romanRowIn_t net) (fun (r : List Int) => κ (.own 0) [.row (.ints .i64 r)]) none := by
  have hu : I.romanRowIn_F [.ro false (.ints .i64 net)] [] κ = I.romanRowIn_tree net (fun d => κ (.own 0) [.row (.ints .i64 d)]) none := by
    refine Eq.trans (show I.romanRowIn_F [.ro false (.ints .i64 net)] [] κ = (optC (I.rowsOf_t net) (fun c_1 => (optC (I.rowAt_t net (IntKind.i64.wrap (c_1 - 1))) (fun c_2 => (I.romanRowIn_L4 FUEL { n := 33, t := [(0, (.ro false (.ints .i64 net))), (3, (.int .i64 (IntKind.i64.wrap (c_1 - 1)))), (4, (.own 0)), (5, (.int .i64 0))], h := [.row (.ints .i64 c_2)] } (I.romanRowIn_k4 κ))) none)) none) by kernel_rfl) ?_
    refine optC_congr (fun c_1 => ?_)
    refine optC_congr (fun c_2 => ?_)
    refine (I.romanRowIn_L4_run net (IntKind.i64.wrap (c_1 - 1)) FUEL (0, c_2) (I.romanRowIn_k4 κ)).trans (optC_congr (fun qy_7 => ?_))
    kernel_rfl
  rw [hu]
  exact (I.romanRowIn_tree_nat (fun o => optC o (fun (r : List Int) => κ (.own 0) [.row (.ints .i64 r)]) none) net (fun d => some d) none).symm
noncomputable def I.romanRowIn_s : D.Spec where
  keep := false
  pure := false
  ds := [.int .i64]
  sp := fun args h κ => match args, h with
    | [.ro false (.ints .i64 net)], [] => optC (I.romanRowIn_t net) (fun (r : List Int) => κ (.own 0) [.row (.ints .i64 r)]) none
    | _, _ => none
theorem I.romanRowIn_ok : SpecOk Try.prog 75 I.romanRowIn_s := by
  refine SpecOk.of TDok mixed (T := I.romanRowIn_T) ?_ (ann := I.romanRowIn_ann) Try.func75 rfl (by decide +kernel) ?_ ?_ ?_
  · intro p hp
    simp only [I.romanRowIn_T, List.mem_cons, List.not_mem_nil, or_false] at hp
    rcases hp with rfl | rfl | rfl | rfl
    · exact I.rowsOf_ok
    · exact I.rowAt_ok
    · exact I.guardsOf_ok
    · exact I.romanIn_ok
  · intro args h κ r hh
    simp only [I.romanRowIn_s] at hh
    split at hh
    · exact (I.romanRowIn_den _ κ).trans hh
    · cases hh
  · intro args h κ r hh
    simp only [I.romanRowIn_s] at hh ⊢
    split at hh
    · exact optC_law2 (F := fun (r : List Int) κ => κ (.own 0) [.row (.ints .i64 r)]) (fun b κ r hb => ⟨_, _, hb, fun _ => rfl⟩) hh
    · cases hh
  · intro hh; cases hh

-- loop.example/guardsonnets/impl.FewestRoman
noncomputable def I.FewestRoman_T : List (Nat × D.Spec) := [(27, I.NetOk_s), (75, I.romanRowIn_s), (71, I.guardsOf_s)]
def I.FewestRoman_ann : Nat → List Nat × List Nat
  | _ => ([], [])
noncomputable def I.FewestRoman_F (args : List V) (h : List E) (κ : V → List E → R) : R := funC TD (tableK I.FewestRoman_T) I.FewestRoman_ann (drawOk (tableP I.FewestRoman_T)) FUEL Try.f38 args h κ
noncomputable def I.FewestRoman_tree {α : Type} (net : List Int) (leaf0_ : Int → α) (fail_ : α) : α :=
  (optC (I.NetOk_t net) (fun c_1 => (bif !c_1 then (leaf0_ (-1)) else (optC (I.romanRowIn_t net) (fun c_2 => (optC (I.guardsOf_t c_2) (fun c_3 => (leaf0_ c_3)) fail_)) fail_))) fail_)
theorem I.FewestRoman_tree_nat {α γ : Type} (g : α → γ) (net : List Int) (leaf0_ : Int → α) (fail_ : α) : g (I.FewestRoman_tree net leaf0_ fail_) = I.FewestRoman_tree net (fun d => g (leaf0_ d)) (g fail_) := by
  unfold I.FewestRoman_tree; simp only [apply_cnd g, apply_optC g, apply_sumC g]
noncomputable def I.FewestRoman_t (net : List Int) : Option (Int) := I.FewestRoman_tree net (fun d => some d) none
theorem I.FewestRoman_den (net : List Int) (κ : V → List E → R) : I.FewestRoman_F [.ro false (.ints .i64 net)] [] κ = optC (I.FewestRoman_t net) (fun (r : Int) => κ (.int .i64 r) []) none := by
  have hu : I.FewestRoman_F [.ro false (.ints .i64 net)] [] κ = I.FewestRoman_tree net (fun d => κ (.int .i64 d) []) none := by
    kernel_rfl
  rw [hu]
  exact (I.FewestRoman_tree_nat (fun o => optC o (fun (r : Int) => κ (.int .i64 r) []) none) net (fun d => some d) none).symm
noncomputable def I.FewestRoman_s : D.Spec where
  keep := false
  pure := true
  ds := [.int .i64]
  sp := fun args h κ => match args, h with
    | [.ro false (.ints .i64 net)], [] => optC (I.FewestRoman_t net) (fun (r : Int) => κ (.int .i64 r) []) none
    | _, _ => none
theorem I.FewestRoman_ok : SpecOk Try.prog 38 I.FewestRoman_s := by
  refine SpecOk.of TDok mixed (T := I.FewestRoman_T) ?_ (ann := I.FewestRoman_ann) Try.func38 rfl (by decide +kernel) ?_ ?_ ?_
  · intro p hp
    simp only [I.FewestRoman_T, List.mem_cons, List.not_mem_nil, or_false] at hp
    rcases hp with rfl | rfl | rfl
    · exact I.NetOk_ok
    · exact I.romanRowIn_ok
    · exact I.guardsOf_ok
  · intro args h κ r hh
    simp only [I.FewestRoman_s] at hh
    split at hh
    · exact (I.FewestRoman_den _ κ).trans hh
    · cases hh
  · intro args h κ r hh
    simp only [I.FewestRoman_s] at hh ⊢
    split at hh
    · exact optC_law2 (F := fun (r : Int) κ => κ (.int .i64 r) []) (fun b κ r hb => ⟨_, _, hb, fun _ => rfl⟩) hh
    · cases hh
  · intro _ args h κ r hh
    simp only [I.FewestRoman_s] at hh
    split at hh
    · exact ⟨rfl, fun _ => rfl⟩
    · cases hh

-- loop.example/guardsonnets/laws.FnFewestWeak
noncomputable def L.FnFewestWeak_T : List (Nat × D.Spec) := [(35, S.DrawFewestWeak_s), (36, I.FewestWeak_s), (37, S.FewestWeak_s), (27, I.NetOk_s), (16, L.alive_s), (28, I.FewestWatch_s), (38, I.FewestRoman_s), (25, I.FewestSecure_s)]
def L.FnFewestWeak_ann : Nat → List Nat × List Nat
  | _ => ([], [])
noncomputable def L.FnFewestWeak_F (args : List V) (h : List E) (κ : V → List E → R) : R := funC TD (tableK L.FnFewestWeak_T) L.FnFewestWeak_ann (drawOk (tableP L.FnFewestWeak_T)) FUEL Try.f11 args h κ
noncomputable def L.FnFewestWeak_tree {α : Type} (code : List Int) (leaf0_ : Bool → α) (fail_ : α) : α :=
  (bif decide ((↑code.length : Int) > 1048576) then (leaf0_ true) else (optC (S.DrawFewestWeak_t code) (fun c_1 => (optC (I.FewestWeak_t c_1) (fun c_2 => (optC (S.FewestWeak_t c_1) (fun c_3 => (bif !c_2 == c_3 then (leaf0_ false) else (bif decide (c_2 < 0) then (bif c_2 == -1 then (optC (I.NetOk_t c_1) (fun c_4 => (bif !c_4 then (optC (L.alive_t) (fun c_5 => (leaf0_ c_5)) fail_) else (leaf0_ false))) fail_) else (leaf0_ false)) else (optC (I.FewestWatch_t c_1) (fun c_6 => (bif decide (c_2 ≥ c_6) then (optC (I.FewestRoman_t c_1) (fun c_7 => (bif decide (c_2 ≤ c_7) then (optC (I.FewestSecure_t c_1) (fun c_8 => (leaf0_ (decide (c_2 ≤ c_8)))) fail_) else (leaf0_ false))) fail_) else (leaf0_ false))) fail_)))) fail_)) fail_)) fail_))
theorem L.FnFewestWeak_tree_nat {α γ : Type} (g : α → γ) (code : List Int) (leaf0_ : Bool → α) (fail_ : α) : g (L.FnFewestWeak_tree code leaf0_ fail_) = L.FnFewestWeak_tree code (fun d => g (leaf0_ d)) (g fail_) := by
  unfold L.FnFewestWeak_tree; simp only [apply_cnd g, apply_optC g, apply_sumC g]
noncomputable def L.FnFewestWeak_t (code : List Int) : Option (Bool) := L.FnFewestWeak_tree code (fun d => some d) none
theorem L.FnFewestWeak_den (code : List Int) (κ : V → List E → R) : L.FnFewestWeak_F [.ro true (.ints .u8 code)] [] κ = optC (L.FnFewestWeak_t code) (fun (r : Bool) => κ (.bool r) []) none := by
  have hu : L.FnFewestWeak_F [.ro true (.ints .u8 code)] [] κ = L.FnFewestWeak_tree code (fun d => κ (.bool d) []) none := by
    kernel_rfl
  rw [hu]
  exact (L.FnFewestWeak_tree_nat (fun o => optC o (fun (r : Bool) => κ (.bool r) []) none) code (fun d => some d) none).symm
noncomputable def L.FnFewestWeak_s : D.Spec where
  keep := true
  pure := true
  ds := [.int .u8]
  sp := fun args h κ => match args, h with
    | [.ro true (.ints .u8 code)], [] => optC (L.FnFewestWeak_t code) (fun (r : Bool) => κ (.bool r) []) none
    | _, _ => none
theorem L.FnFewestWeak_ok : SpecOk Try.prog 11 L.FnFewestWeak_s := by
  refine SpecOk.of TDok mixed (T := L.FnFewestWeak_T) ?_ (ann := L.FnFewestWeak_ann) Try.func11 rfl (by decide +kernel) ?_ ?_ ?_
  · intro p hp
    simp only [L.FnFewestWeak_T, List.mem_cons, List.not_mem_nil, or_false] at hp
    rcases hp with rfl | rfl | rfl | rfl | rfl | rfl | rfl | rfl
    · exact S.DrawFewestWeak_ok
    · exact I.FewestWeak_ok
    · exact S.FewestWeak_ok
    · exact I.NetOk_ok
    · exact L.alive_ok
    · exact I.FewestWatch_ok
    · exact I.FewestRoman_ok
    · exact I.FewestSecure_ok
  · intro args h κ r hh
    simp only [L.FnFewestWeak_s] at hh
    split at hh
    · exact (L.FnFewestWeak_den _ κ).trans hh
    · cases hh
  · intro args h κ r hh
    simp only [L.FnFewestWeak_s] at hh ⊢
    split at hh
    · exact optC_law2 (F := fun (r : Bool) κ => κ (.bool r) []) (fun b κ r hb => ⟨_, _, hb, fun _ => rfl⟩) hh
    · cases hh
  · intro _ args h κ r hh
    simp only [L.FnFewestWeak_s] at hh
    split at hh
    · exact ⟨rfl, fun _ => rfl⟩
    · cases hh

-- loop.example/guardsonnets/laws.FnExactFewestWeak
noncomputable def L.FnExactFewestWeak_T : List (Nat × D.Spec) := [(18, L.toIntS_s), (37, S.FewestWeak_s), (36, I.FewestWeak_s), (19, L.eqIntS_s)]
def L.FnExactFewestWeak_ann : Nat → List Nat × List Nat
  | _ => ([], [])
noncomputable def L.FnExactFewestWeak_F (args : List V) (h : List E) (κ : V → List E → R) : R := funC TD (tableK L.FnExactFewestWeak_T) L.FnExactFewestWeak_ann (drawOk (tableP L.FnExactFewestWeak_T)) FUEL Try.f12 args h κ
noncomputable def L.FnExactFewestWeak_tree {α : Type} (aNet : List Int) (leaf0_ : Bool → α) (fail_ : α) : α :=
  (bif decide ((↑aNet.length : Int) > 1048576) then (leaf0_ true) else (optC (L.toIntS_t aNet) (fun c_1 => (optC (S.FewestWeak_t c_1) (fun c_2 => (optC (L.toIntS_t aNet) (fun c_3 => (optC (I.FewestWeak_t c_3) (fun c_4 => (bif !c_4 == c_2 then (leaf0_ false) else (optC (L.toIntS_t aNet) (fun c_5 => (optC (L.eqIntS_t c_3 c_5) (fun c_6 => (bif !c_6 then (leaf0_ false) else (leaf0_ true))) fail_)) fail_))) fail_)) fail_)) fail_)) fail_))
theorem L.FnExactFewestWeak_tree_nat {α γ : Type} (g : α → γ) (aNet : List Int) (leaf0_ : Bool → α) (fail_ : α) : g (L.FnExactFewestWeak_tree aNet leaf0_ fail_) = L.FnExactFewestWeak_tree aNet (fun d => g (leaf0_ d)) (g fail_) := by
  unfold L.FnExactFewestWeak_tree; simp only [apply_cnd g, apply_optC g, apply_sumC g]
noncomputable def L.FnExactFewestWeak_t (aNet : List Int) : Option (Bool) := L.FnExactFewestWeak_tree aNet (fun d => some d) none
theorem L.FnExactFewestWeak_den (aNet : List Int) (κ : V → List E → R) : L.FnExactFewestWeak_F [.ro true (.ints .i64 aNet)] [] κ = optC (L.FnExactFewestWeak_t aNet) (fun (r : Bool) => κ (.bool r) []) none := by
  have hu : L.FnExactFewestWeak_F [.ro true (.ints .i64 aNet)] [] κ = L.FnExactFewestWeak_tree aNet (fun d => κ (.bool d) []) none := by
    kernel_rfl
  rw [hu]
  exact (L.FnExactFewestWeak_tree_nat (fun o => optC o (fun (r : Bool) => κ (.bool r) []) none) aNet (fun d => some d) none).symm
noncomputable def L.FnExactFewestWeak_s : D.Spec where
  keep := true
  pure := true
  ds := [.int .i64]
  sp := fun args h κ => match args, h with
    | [.ro true (.ints .i64 aNet)], [] => optC (L.FnExactFewestWeak_t aNet) (fun (r : Bool) => κ (.bool r) []) none
    | _, _ => none
theorem L.FnExactFewestWeak_ok : SpecOk Try.prog 12 L.FnExactFewestWeak_s := by
  refine SpecOk.of TDok mixed (T := L.FnExactFewestWeak_T) ?_ (ann := L.FnExactFewestWeak_ann) Try.func12 rfl (by decide +kernel) ?_ ?_ ?_
  · intro p hp
    simp only [L.FnExactFewestWeak_T, List.mem_cons, List.not_mem_nil, or_false] at hp
    rcases hp with rfl | rfl | rfl | rfl
    · exact L.toIntS_ok
    · exact S.FewestWeak_ok
    · exact I.FewestWeak_ok
    · exact L.eqIntS_ok
  · intro args h κ r hh
    simp only [L.FnExactFewestWeak_s] at hh
    split at hh
    · exact (L.FnExactFewestWeak_den _ κ).trans hh
    · cases hh
  · intro args h κ r hh
    simp only [L.FnExactFewestWeak_s] at hh ⊢
    split at hh
    · exact optC_law2 (F := fun (r : Bool) κ => κ (.bool r) []) (fun b κ r hb => ⟨_, _, hb, fun _ => rfl⟩) hh
    · cases hh
  · intro _ args h κ r hh
    simp only [L.FnExactFewestWeak_s] at hh
    split at hh
    · exact ⟨rfl, fun _ => rfl⟩
    · cases hh


end Go.Proofs.Ytmchclkdligifaa
