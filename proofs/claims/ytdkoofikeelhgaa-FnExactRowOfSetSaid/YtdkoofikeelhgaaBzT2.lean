/- Twins of the translated functions, with their proofs. Conditions: none. -/
import Derived.Test.YtdkoofikeelhgaaBzT1
set_option linter.unusedVariables false
set_option linter.unusedSimpArgs false
namespace Go.Proofs.Ytdkoofikeelhgaa
open D Go.RowKit
-- loop.example/guardsonnets/impl.guardsNear
noncomputable def I.guardsNear_T : List (Nat × D.Spec) := [(64, I.hasPlace_s)]
def I.guardsNear_ann : Nat → List Nat × List Nat
  | 3 => ([0, 1, 2, 7, 8], [7])
  | _ => ([], [])
noncomputable def I.guardsNear_F (args : List V) (h : List E) (κ : V → List E → R) : R := funC TD (tableK I.guardsNear_T) I.guardsNear_ann (drawOk (tableP I.guardsNear_T)) FUEL Try.f80 args h κ
noncomputable def I.guardsNear_L3 (n : Nat) (σ : St) (k : X → St → R) : R := iterC 0 (fun σ k => denC TD (tableK I.guardsNear_T) I.guardsNear_ann (drawOk (tableP I.guardsNear_T)) 0 FUEL ((findLoop 3 (Try.f80.body.getD .skip)).getD .skip) σ k) [0, 1, 2, 7, 8] [7] n σ k
noncomputable def I.guardsNear_k3 (κ : V → List E → R) : X → St → R := (afterC TD (tableK I.guardsNear_T) I.guardsNear_ann (drawOk (tableP I.guardsNear_T)) 0 FUEL 3 (Try.f80.body.getD .skip) (finC TD 0 Try.f80 κ)).getD (fun _ _ => none)
noncomputable def I.guardsNear_step3 {α : Type} (x0 : List Int) (x1 : List Int) (x2 : Int) (x7 : Int) (x8 : Int) (next_ : Int × Int → α) (out0_ : Int → α) (fail_ : α) : α :=
  (bif decide (x8 < (↑x0.length : Int)) then (bif decide (0 ≤ x2) && decide (x2 < (↑x0.length : Int)) then (optC (I.hasPlace_t (eli x0 x2.toNat) x8) (fun c_1 => (bif c_1 then (bif decide (0 ≤ x8) && decide (x8 < (↑x1.length : Int)) then (next_ (IntKind.i64.wrap (x7 + eli x1 x8.toNat), IntKind.i64.wrap (x8 + 1))) else fail_) else (next_ (x7, IntKind.i64.wrap (x8 + 1))))) fail_) else fail_) else (out0_ x7))
theorem I.guardsNear_step3_nat {α γ : Type} (g : α → γ) (x0 : List Int) (x1 : List Int) (x2 : Int) (x7 : Int) (x8 : Int) (next_ : Int × Int → α) (out0_ : Int → α) (fail_ : α) : g (I.guardsNear_step3 x0 x1 x2 x7 x8 next_ out0_ fail_) = I.guardsNear_step3 x0 x1 x2 x7 x8 (fun s => g (next_ s)) (fun d => g (out0_ d)) (g fail_) := by
  unfold I.guardsNear_step3; simp only [apply_cnd g, apply_optC g, apply_sumC g]
noncomputable def I.guardsNear_run3 (x0 : List Int) (x1 : List Int) (x2 : Int) : Nat → Int × Int → Option (Int)
  | 0, _ => none
  | n + 1, s_ => I.guardsNear_step3 x0 x1 x2 s_.1 s_.2 (I.guardsNear_run3 x0 x1 x2 n) (fun d => some d) none
theorem I.guardsNear_L3_run (x0 : List Int) (x1 : List Int) (x2 : Int) (n : Nat) (s_ : Int × Int) (k : X → St → R) : I.guardsNear_L3 n { n := 28, t := [(0, (.ro false (.ints .i64 x0))), (1, (.ro false (.ints .i64 x1))), (2, (.int .i64 x2)), (7, (.int .i64 s_.1)), (8, (.int .i64 s_.2))], h := [] } k = optC (I.guardsNear_run3 x0 x1 x2 n s_) (fun (r : Int) => k (.exit 0) { n := 28, t := [(7, (.int .i64 r))], h := [] }) none := by
  induction n generalizing s_ with
  | zero => rfl
  | succ n ih =>
    have hu : I.guardsNear_L3 (n + 1) { n := 28, t := [(0, (.ro false (.ints .i64 x0))), (1, (.ro false (.ints .i64 x1))), (2, (.int .i64 x2)), (7, (.int .i64 s_.1)), (8, (.int .i64 s_.2))], h := [] } k = I.guardsNear_step3 x0 x1 x2 s_.1 s_.2 (fun s_ => I.guardsNear_L3 n { n := 28, t := [(0, (.ro false (.ints .i64 x0))), (1, (.ro false (.ints .i64 x1))), (2, (.int .i64 x2)), (7, (.int .i64 s_.1)), (8, (.int .i64 s_.2))], h := [] } k) (fun d => k (.exit 0) { n := 28, t := [(7, (.int .i64 d))], h := [] }) none := by
      kernel_rfl
    have hs : (fun s_ : Int × Int => I.guardsNear_L3 n { n := 28, t := [(0, (.ro false (.ints .i64 x0))), (1, (.ro false (.ints .i64 x1))), (2, (.int .i64 x2)), (7, (.int .i64 s_.1)), (8, (.int .i64 s_.2))], h := [] } k) = fun s_ => optC (I.guardsNear_run3 x0 x1 x2 n s_) (fun (r : Int) => k (.exit 0) { n := 28, t := [(7, (.int .i64 r))], h := [] }) none := funext ih
    rw [hu, hs]
    exact (I.guardsNear_step3_nat (fun o => optC o (fun (r : Int) => k (.exit 0) { n := 28, t := [(7, (.int .i64 r))], h := [] }) none) x0 x1 x2 s_.1 s_.2 (I.guardsNear_run3 x0 x1 x2 n) (fun d => some d) none).symm
noncomputable def I.guardsNear_tree {α : Type} (net : List Int) (row : List Int) (place : Int) (leaf0_ : Int → α) (fail_ : α) : α :=
  (optC (I.guardsNear_run3 net row place FUEL (0, 0)) (fun qy_2 => (leaf0_ qy_2)) fail_)
theorem I.guardsNear_tree_nat {α γ : Type} (g : α → γ) (net : List Int) (row : List Int) (place : Int) (leaf0_ : Int → α) (fail_ : α) : g (I.guardsNear_tree net row place leaf0_ fail_) = I.guardsNear_tree net row place (fun d => g (leaf0_ d)) (g fail_) := by
  unfold I.guardsNear_tree; simp only [apply_cnd g, apply_optC g, apply_sumC g]
noncomputable def I.guardsNear_t (net : List Int) (row : List Int) (place : Int) : Option (Int) := I.guardsNear_tree net row place (fun d => some d) none
theorem I.guardsNear_den (net : List Int) (row : List Int) (place : Int) (κ : V → List E → R) : I.guardsNear_F [.ro false (.ints .i64 net), .ro false (.ints .i64 row), .int .i64 place] [] κ = optC (I.guardsNear_t net row place) (fun (r : Int) => κ (.int .i64 r) []) none := by
  have hu : I.guardsNear_F [.ro false (.ints .i64 net), .ro false (.ints .i64 row), .int .i64 place] [] κ = I.guardsNear_tree net row place (fun d => κ (.int .i64 d) []) none := by
    refine Eq.trans (show I.guardsNear_F [.ro false (.ints .i64 net), .ro false (.ints .i64 row), .int .i64 place] [] κ = (I.guardsNear_L3 FUEL { n := 28, t := [(0, (.ro false (.ints .i64 net))), (1, (.ro false (.ints .i64 row))), (2, (.int .i64 place)), (7, (.int .i64 0)), (8, (.int .i64 0))], h := [] } (I.guardsNear_k3 κ)) by kernel_rfl) ?_
    refine (I.guardsNear_L3_run net row place FUEL (0, 0) (I.guardsNear_k3 κ)).trans (optC_congr (fun qy_2 => ?_))
    kernel_rfl
  rw [hu]
  exact (I.guardsNear_tree_nat (fun o => optC o (fun (r : Int) => κ (.int .i64 r) []) none) net row place (fun d => some d) none).symm
noncomputable def I.guardsNear_s : D.Spec where
  keep := false
  pure := true
  ds := [.int .i64, .int .i64, .invalid]
  sp := fun args h κ => match args, h with
    | [.ro false (.ints .i64 net), .ro false (.ints .i64 row), .int .i64 place], [] => optC (I.guardsNear_t net row place) (fun (r : Int) => κ (.int .i64 r) []) none
    | _, _ => none
theorem I.guardsNear_ok : SpecOk Try.prog 80 I.guardsNear_s := by
  refine SpecOk.of TDok mixed (T := I.guardsNear_T) ?_ (ann := I.guardsNear_ann) Try.func80 rfl (by decide +kernel) ?_ ?_ ?_
  · intro p hp
    simp only [I.guardsNear_T, List.mem_cons, List.not_mem_nil, or_false] at hp
    rcases hp with rfl
    · exact I.hasPlace_ok
  · intro args h κ r hh
    simp only [I.guardsNear_s] at hh
    split at hh
    · exact (I.guardsNear_den _ _ _ κ).trans hh
    · cases hh
  · intro args h κ r hh
    simp only [I.guardsNear_s] at hh ⊢
    split at hh
    · exact optC_law2 (F := fun (r : Int) κ => κ (.int .i64 r) []) (fun b κ r hb => ⟨_, _, hb, fun _ => rfl⟩) hh
    · cases hh
  · intro _ args h κ r hh
    simp only [I.guardsNear_s] at hh
    split at hh
    · exact ⟨rfl, fun _ => rfl⟩
    · cases hh

-- loop.example/guardsonnets/impl.italianIn
noncomputable def I.italianIn_T : List (Nat × D.Spec) := [(80, I.guardsNear_s)]
def I.italianIn_ann : Nat → List Nat × List Nat
  | 2 => ([0, 1, 5], [4])
  | _ => ([], [])
noncomputable def I.italianIn_F (args : List V) (h : List E) (κ : V → List E → R) : R := funC TD (tableK I.italianIn_T) I.italianIn_ann (drawOk (tableP I.italianIn_T)) FUEL Try.f55 args h κ
noncomputable def I.italianIn_L2 (n : Nat) (σ : St) (k : X → St → R) : R := iterC 0 (fun σ k => denC TD (tableK I.italianIn_T) I.italianIn_ann (drawOk (tableP I.italianIn_T)) 0 FUEL ((findLoop 2 (Try.f55.body.getD .skip)).getD .skip) σ k) [0, 1, 5] [4] n σ k
noncomputable def I.italianIn_k2 (κ : V → List E → R) : X → St → R := (afterC TD (tableK I.italianIn_T) I.italianIn_ann (drawOk (tableP I.italianIn_T)) 0 FUEL 2 (Try.f55.body.getD .skip) (finC TD 0 Try.f55 κ)).getD (fun _ _ => none)
noncomputable def I.italianIn_step2 {α : Type} (x0 : List Int) (x1 : List Int) (x5 : Int) (next_ : Int → α) (out0_ : Bool → α) (out1_ : Unit → α) (fail_ : α) : α :=
  (bif decide (x5 < (↑x0.length : Int)) then (bif decide (0 ≤ x5) && decide (x5 < (↑x1.length : Int)) then (bif eli x1 x5.toNat == 0 then (optC (I.guardsNear_t x0 x1 x5) (fun c_1 => (bif decide (c_1 < 2) then (out0_ false) else (next_ (IntKind.i64.wrap (x5 + 1))))) fail_) else (next_ (IntKind.i64.wrap (x5 + 1)))) else fail_) else (out1_ ()))
theorem I.italianIn_step2_nat {α γ : Type} (g : α → γ) (x0 : List Int) (x1 : List Int) (x5 : Int) (next_ : Int → α) (out0_ : Bool → α) (out1_ : Unit → α) (fail_ : α) : g (I.italianIn_step2 x0 x1 x5 next_ out0_ out1_ fail_) = I.italianIn_step2 x0 x1 x5 (fun s => g (next_ s)) (fun d => g (out0_ d)) (fun d => g (out1_ d)) (g fail_) := by
  unfold I.italianIn_step2; simp only [apply_cnd g, apply_optC g, apply_sumC g]
noncomputable def I.italianIn_run2 (x0 : List Int) (x1 : List Int) : Nat → Int → Option ((Bool) ⊕ (Unit))
  | 0, _ => none
  | n + 1, s_ => I.italianIn_step2 x0 x1 s_ (I.italianIn_run2 x0 x1 n) (fun d => some ((Sum.inl d))) (fun d => some ((Sum.inr d))) none
theorem I.italianIn_L2_run (x0 : List Int) (x1 : List Int) (n : Nat) (s_ : Int) (k : X → St → R) : I.italianIn_L2 n { n := 24, t := [(0, (.ro false (.ints .i64 x0))), (1, (.ro false (.ints .i64 x1))), (5, (.int .i64 s_))], h := [] } k = optC (I.italianIn_run2 x0 x1 n s_) (fun (r : (Bool) ⊕ (Unit)) => (sumC r (fun (r : Bool) => k (.ret) { n := 24, t := [(4, (.bool r))], h := [] }) (fun (r : Unit) => k (.exit 0) { n := 24, t := [(4, .junk)], h := [] }))) none := by
  induction n generalizing s_ with
  | zero => rfl
  | succ n ih =>
    have hu : I.italianIn_L2 (n + 1) { n := 24, t := [(0, (.ro false (.ints .i64 x0))), (1, (.ro false (.ints .i64 x1))), (5, (.int .i64 s_))], h := [] } k = I.italianIn_step2 x0 x1 s_ (fun s_ => I.italianIn_L2 n { n := 24, t := [(0, (.ro false (.ints .i64 x0))), (1, (.ro false (.ints .i64 x1))), (5, (.int .i64 s_))], h := [] } k) (fun d => k (.ret) { n := 24, t := [(4, (.bool d))], h := [] }) (fun d => k (.exit 0) { n := 24, t := [(4, .junk)], h := [] }) none := by
      kernel_rfl
    have hs : (fun s_ : Int => I.italianIn_L2 n { n := 24, t := [(0, (.ro false (.ints .i64 x0))), (1, (.ro false (.ints .i64 x1))), (5, (.int .i64 s_))], h := [] } k) = fun s_ => optC (I.italianIn_run2 x0 x1 n s_) (fun (r : (Bool) ⊕ (Unit)) => (sumC r (fun (r : Bool) => k (.ret) { n := 24, t := [(4, (.bool r))], h := [] }) (fun (r : Unit) => k (.exit 0) { n := 24, t := [(4, .junk)], h := [] }))) none := funext ih
    rw [hu, hs]
    exact (I.italianIn_step2_nat (fun o => optC o (fun (r : (Bool) ⊕ (Unit)) => (sumC r (fun (r : Bool) => k (.ret) { n := 24, t := [(4, (.bool r))], h := [] }) (fun (r : Unit) => k (.exit 0) { n := 24, t := [(4, .junk)], h := [] }))) none) x0 x1 s_ (I.italianIn_run2 x0 x1 n) (fun d => some ((Sum.inl d))) (fun d => some ((Sum.inr d))) none).symm
noncomputable def I.italianIn_tree {α : Type} (net : List Int) (row : List Int) (leaf0_ : Bool → α) (fail_ : α) : α :=
  (optC (I.italianIn_run2 net row FUEL 0) (fun qy_2 => (sumC qy_2 (fun (qy_2 : Bool) => (leaf0_ qy_2)) (fun (qy_2 : Unit) => (leaf0_ true)))) fail_)
theorem I.italianIn_tree_nat {α γ : Type} (g : α → γ) (net : List Int) (row : List Int) (leaf0_ : Bool → α) (fail_ : α) : g (I.italianIn_tree net row leaf0_ fail_) = I.italianIn_tree net row (fun d => g (leaf0_ d)) (g fail_) := by
  unfold I.italianIn_tree; simp only [apply_cnd g, apply_optC g, apply_sumC g]
noncomputable def I.italianIn_t (net : List Int) (row : List Int) : Option (Bool) := I.italianIn_tree net row (fun d => some d) none
theorem I.italianIn_den (net : List Int) (row : List Int) (κ : V → List E → R) : I.italianIn_F [.ro false (.ints .i64 net), .ro false (.ints .i64 row)] [] κ = optC (I.italianIn_t net row) (fun (r : Bool) => κ (.bool r) []) none := by
  have hu : I.italianIn_F [.ro false (.ints .i64 net), .ro false (.ints .i64 row)] [] κ = I.italianIn_tree net row (fun d => κ (.bool d) []) none := by
    refine Eq.trans (show I.italianIn_F [.ro false (.ints .i64 net), .ro false (.ints .i64 row)] [] κ = (I.italianIn_L2 FUEL { n := 24, t := [(0, (.ro false (.ints .i64 net))), (1, (.ro false (.ints .i64 row))), (5, (.int .i64 0))], h := [] } (I.italianIn_k2 κ)) by kernel_rfl) ?_
    refine (I.italianIn_L2_run net row FUEL 0 (I.italianIn_k2 κ)).trans (optC_congr (fun qy_2 => ?_))
    rcases qy_2 with qy_2 | qy_2
    · kernel_rfl
    · kernel_rfl
  rw [hu]
  exact (I.italianIn_tree_nat (fun o => optC o (fun (r : Bool) => κ (.bool r) []) none) net row (fun d => some d) none).symm
noncomputable def I.italianIn_s : D.Spec where
  keep := false
  pure := true
  ds := [.int .i64, .int .i64]
  sp := fun args h κ => match args, h with
    | [.ro false (.ints .i64 net), .ro false (.ints .i64 row)], [] => optC (I.italianIn_t net row) (fun (r : Bool) => κ (.bool r) []) none
    | _, _ => none
theorem I.italianIn_ok : SpecOk Try.prog 55 I.italianIn_s := by
  refine SpecOk.of TDok mixed (T := I.italianIn_T) ?_ (ann := I.italianIn_ann) Try.func55 rfl (by decide +kernel) ?_ ?_ ?_
  · intro p hp
    simp only [I.italianIn_T, List.mem_cons, List.not_mem_nil, or_false] at hp
    rcases hp with rfl
    · exact I.guardsNear_ok
  · intro args h κ r hh
    simp only [I.italianIn_s] at hh
    split at hh
    · exact (I.italianIn_den _ _ κ).trans hh
    · cases hh
  · intro args h κ r hh
    simp only [I.italianIn_s] at hh ⊢
    split at hh
    · exact optC_law2 (F := fun (r : Bool) κ => κ (.bool r) []) (fun b κ r hb => ⟨_, _, hb, fun _ => rfl⟩) hh
    · cases hh
  · intro _ args h κ r hh
    simp only [I.italianIn_s] at hh
    split at hh
    · exact ⟨rfl, fun _ => rfl⟩
    · cases hh

-- loop.example/guardsonnets/impl.ItalianOk
noncomputable def I.ItalianOk_T : List (Nat × D.Spec) := [(31, I.NetOk_s), (49, I.rowIn_s), (55, I.italianIn_s)]
def I.ItalianOk_ann : Nat → List Nat × List Nat
  | _ => ([], [])
noncomputable def I.ItalianOk_F (args : List V) (h : List E) (κ : V → List E → R) : R := funC TD (tableK I.ItalianOk_T) I.ItalianOk_ann (drawOk (tableP I.ItalianOk_T)) FUEL Try.f21 args h κ
noncomputable def I.ItalianOk_tree {α : Type} (net : List Int) (row : List Int) (leaf0_ : Bool → α) (fail_ : α) : α :=
  (optC (I.NetOk_t net) (fun c_1 => (bif c_1 then (optC (I.rowIn_t net row) (fun c_2 => (bif c_2 then (optC (I.italianIn_t net row) (fun c_3 => (leaf0_ c_3)) fail_) else (leaf0_ false))) fail_) else (leaf0_ false))) fail_)
theorem I.ItalianOk_tree_nat {α γ : Type} (g : α → γ) (net : List Int) (row : List Int) (leaf0_ : Bool → α) (fail_ : α) : g (I.ItalianOk_tree net row leaf0_ fail_) = I.ItalianOk_tree net row (fun d => g (leaf0_ d)) (g fail_) := by
  unfold I.ItalianOk_tree; simp only [apply_cnd g, apply_optC g, apply_sumC g]
noncomputable def I.ItalianOk_t (net : List Int) (row : List Int) : Option (Bool) := I.ItalianOk_tree net row (fun d => some d) none
theorem I.ItalianOk_den (net : List Int) (row : List Int) (κ : V → List E → R) : I.ItalianOk_F [.ro false (.ints .i64 net), .ro false (.ints .i64 row)] [] κ = optC (I.ItalianOk_t net row) (fun (r : Bool) => κ (.bool r) []) none := by
  have hu : I.ItalianOk_F [.ro false (.ints .i64 net), .ro false (.ints .i64 row)] [] κ = I.ItalianOk_tree net row (fun d => κ (.bool d) []) none := by
    kernel_rfl
  rw [hu]
  exact (I.ItalianOk_tree_nat (fun o => optC o (fun (r : Bool) => κ (.bool r) []) none) net row (fun d => some d) none).symm
noncomputable def I.ItalianOk_s : D.Spec where
  keep := false
  pure := true
  ds := [.int .i64, .int .i64]
  sp := fun args h κ => match args, h with
    | [.ro false (.ints .i64 net), .ro false (.ints .i64 row)], [] => optC (I.ItalianOk_t net row) (fun (r : Bool) => κ (.bool r) []) none
    | _, _ => none
theorem I.ItalianOk_ok : SpecOk Try.prog 21 I.ItalianOk_s := by
  refine SpecOk.of TDok mixed (T := I.ItalianOk_T) ?_ (ann := I.ItalianOk_ann) Try.func21 rfl (by decide +kernel) ?_ ?_ ?_
  · intro p hp
    simp only [I.ItalianOk_T, List.mem_cons, List.not_mem_nil, or_false] at hp
    rcases hp with rfl | rfl | rfl
    · exact I.NetOk_ok
    · exact I.rowIn_ok
    · exact I.italianIn_ok
  · intro args h κ r hh
    simp only [I.ItalianOk_s] at hh
    split at hh
    · exact (I.ItalianOk_den _ _ κ).trans hh
    · cases hh
  · intro args h κ r hh
    simp only [I.ItalianOk_s] at hh ⊢
    split at hh
    · exact optC_law2 (F := fun (r : Bool) κ => κ (.bool r) []) (fun b κ r hb => ⟨_, _, hb, fun _ => rfl⟩) hh
    · cases hh
  · intro _ args h κ r hh
    simp only [I.ItalianOk_s] at hh
    split at hh
    · exact ⟨rfl, fun _ => rfl⟩
    · cases hh

-- loop.example/guardsonnets/impl.SeenBy
noncomputable def I.SeenBy_T : List (Nat × D.Spec) := [(31, I.NetOk_s), (53, I.setIn_s), (56, I.seenIn_s)]
def I.SeenBy_ann : Nat → List Nat × List Nat
  | _ => ([], [])
noncomputable def I.SeenBy_F (args : List V) (h : List E) (κ : V → List E → R) : R := funC TD (tableK I.SeenBy_T) I.SeenBy_ann (drawOk (tableP I.SeenBy_T)) FUEL Try.f22 args h κ
noncomputable def I.SeenBy_tree {α : Type} (net : List Int) (set_ : Int) (leaf0_ : Int → α) (fail_ : α) : α :=
  (optC (I.NetOk_t net) (fun c_1 => (bif !c_1 then (leaf0_ (-1)) else (optC (I.setIn_t net set_) (fun c_2 => (bif !c_2 then (leaf0_ (-1)) else (optC (I.seenIn_t net set_) (fun c_3 => (leaf0_ c_3)) fail_))) fail_))) fail_)
theorem I.SeenBy_tree_nat {α γ : Type} (g : α → γ) (net : List Int) (set_ : Int) (leaf0_ : Int → α) (fail_ : α) : g (I.SeenBy_tree net set_ leaf0_ fail_) = I.SeenBy_tree net set_ (fun d => g (leaf0_ d)) (g fail_) := by
  unfold I.SeenBy_tree; simp only [apply_cnd g, apply_optC g, apply_sumC g]
noncomputable def I.SeenBy_t (net : List Int) (set_ : Int) : Option (Int) := I.SeenBy_tree net set_ (fun d => some d) none
theorem I.SeenBy_den (net : List Int) (set_ : Int) (κ : V → List E → R) : I.SeenBy_F [.ro false (.ints .i64 net), .int .i64 set_] [] κ = optC (I.SeenBy_t net set_) (fun (r : Int) => κ (.int .i64 r) []) none := by
  have hu : I.SeenBy_F [.ro false (.ints .i64 net), .int .i64 set_] [] κ = I.SeenBy_tree net set_ (fun d => κ (.int .i64 d) []) none := by
    kernel_rfl
  rw [hu]
  exact (I.SeenBy_tree_nat (fun o => optC o (fun (r : Int) => κ (.int .i64 r) []) none) net set_ (fun d => some d) none).symm
noncomputable def I.SeenBy_s : D.Spec where
  keep := false
  pure := true
  ds := [.int .i64, .invalid]
  sp := fun args h κ => match args, h with
    | [.ro false (.ints .i64 net), .int .i64 set_], [] => optC (I.SeenBy_t net set_) (fun (r : Int) => κ (.int .i64 r) []) none
    | _, _ => none
theorem I.SeenBy_ok : SpecOk Try.prog 22 I.SeenBy_s := by
  refine SpecOk.of TDok mixed (T := I.SeenBy_T) ?_ (ann := I.SeenBy_ann) Try.func22 rfl (by decide +kernel) ?_ ?_ ?_
  · intro p hp
    simp only [I.SeenBy_T, List.mem_cons, List.not_mem_nil, or_false] at hp
    rcases hp with rfl | rfl | rfl
    · exact I.NetOk_ok
    · exact I.setIn_ok
    · exact I.seenIn_ok
  · intro args h κ r hh
    simp only [I.SeenBy_s] at hh
    split at hh
    · exact (I.SeenBy_den _ _ κ).trans hh
    · cases hh
  · intro args h κ r hh
    simp only [I.SeenBy_s] at hh ⊢
    split at hh
    · exact optC_law2 (F := fun (r : Int) κ => κ (.int .i64 r) []) (fun b κ r hb => ⟨_, _, hb, fun _ => rfl⟩) hh
    · cases hh
  · intro _ args h κ r hh
    simp only [I.SeenBy_s] at hh
    split at hh
    · exact ⟨rfl, fun _ => rfl⟩
    · cases hh

-- loop.example/guardsonnets/laws.FnRomanOk
noncomputable def L.FnRomanOk_T : List (Nat × D.Spec) := [(15, S.DrawRomanOk_s), (16, I.RomanOk_s), (17, S.RomanOk_s), (18, L.alive_s), (20, L.placesWith_s), (19, I.WatchOk_s), (21, I.ItalianOk_s), (22, I.SeenBy_s)]
def L.FnRomanOk_ann : Nat → List Nat × List Nat
  | _ => ([], [])
noncomputable def L.FnRomanOk_F (args : List V) (h : List E) (κ : V → List E → R) : R := funC TD (tableK L.FnRomanOk_T) L.FnRomanOk_ann (drawOk (tableP L.FnRomanOk_T)) FUEL Try.f3 args h κ
noncomputable def L.FnRomanOk_tree {α : Type} (code : List Int) (leaf0_ : Bool → α) (fail_ : α) : α :=
  (bif decide ((↑code.length : Int) > 1048576) then (leaf0_ true) else (optC (S.DrawRomanOk_t code) (fun c_1 => (optC (I.RomanOk_t c_1.fst c_1.snd) (fun c_2 => (optC (S.RomanOk_t c_1.fst c_1.snd) (fun c_3 => (bif !c_2 == c_3 then (leaf0_ false) else (bif !c_2 then (optC (L.alive_t) (fun c_4 => (leaf0_ c_4)) fail_) else (optC (L.placesWith_t c_1.snd 1) (fun c_5 => (optC (I.WatchOk_t c_1.fst c_5) (fun c_6 => (bif c_6 then (optC (I.ItalianOk_t c_1.fst c_1.snd) (fun c_7 => (bif c_7 then (optC (L.placesWith_t c_1.snd 1) (fun c_8 => (optC (L.placesWith_t c_1.snd 2) (fun c_9 => (optC (I.SeenBy_t c_1.fst c_9) (fun c_10 => (leaf0_ (bits BinOp.or IntKind.i64 c_8 c_10 == IntKind.i64.wrap (IntKind.i64.wrap (1 * 2 ^ min (↑c_1.fst.length : Int).toNat IntKind.i64.bits) - 1)))) fail_)) fail_)) fail_) else (leaf0_ false))) fail_) else (leaf0_ false))) fail_)) fail_)))) fail_)) fail_)) fail_))
theorem L.FnRomanOk_tree_nat {α γ : Type} (g : α → γ) (code : List Int) (leaf0_ : Bool → α) (fail_ : α) : g (L.FnRomanOk_tree code leaf0_ fail_) = L.FnRomanOk_tree code (fun d => g (leaf0_ d)) (g fail_) := by
  unfold L.FnRomanOk_tree; simp only [apply_cnd g, apply_optC g, apply_sumC g]
noncomputable def L.FnRomanOk_t (code : List Int) : Option (Bool) := L.FnRomanOk_tree code (fun d => some d) none
theorem L.FnRomanOk_den (code : List Int) (κ : V → List E → R) : L.FnRomanOk_F [.ro true (.ints .u8 code)] [] κ = optC (L.FnRomanOk_t code) (fun (r : Bool) => κ (.bool r) []) none := by
  have hu : L.FnRomanOk_F [.ro true (.ints .u8 code)] [] κ = L.FnRomanOk_tree code (fun d => κ (.bool d) []) none := by
    kernel_rfl
  rw [hu]
  exact (L.FnRomanOk_tree_nat (fun o => optC o (fun (r : Bool) => κ (.bool r) []) none) code (fun d => some d) none).symm
noncomputable def L.FnRomanOk_s : D.Spec where
  keep := true
  pure := true
  ds := [.int .u8]
  sp := fun args h κ => match args, h with
    | [.ro true (.ints .u8 code)], [] => optC (L.FnRomanOk_t code) (fun (r : Bool) => κ (.bool r) []) none
    | _, _ => none
theorem L.FnRomanOk_ok : SpecOk Try.prog 3 L.FnRomanOk_s := by
  refine SpecOk.of TDok mixed (T := L.FnRomanOk_T) ?_ (ann := L.FnRomanOk_ann) Try.func3 rfl (by decide +kernel) ?_ ?_ ?_
  · intro p hp
    simp only [L.FnRomanOk_T, List.mem_cons, List.not_mem_nil, or_false] at hp
    rcases hp with rfl | rfl | rfl | rfl | rfl | rfl | rfl | rfl
    · exact S.DrawRomanOk_ok
    · exact I.RomanOk_ok
    · exact S.RomanOk_ok
    · exact L.alive_ok
    · exact L.placesWith_ok
    · exact I.WatchOk_ok
    · exact I.ItalianOk_ok
    · exact I.SeenBy_ok
  · intro args h κ r hh
    simp only [L.FnRomanOk_s] at hh
    split at hh
    · exact (L.FnRomanOk_den _ κ).trans hh
    · cases hh
  · intro args h κ r hh
    simp only [L.FnRomanOk_s] at hh ⊢
    split at hh
    · exact optC_law2 (F := fun (r : Bool) κ => κ (.bool r) []) (fun b κ r hb => ⟨_, _, hb, fun _ => rfl⟩) hh
    · cases hh
  · intro _ args h κ r hh
    simp only [L.FnRomanOk_s] at hh
    split at hh
    · exact ⟨rfl, fun _ => rfl⟩
    · cases hh

-- loop.example/guardsonnets/laws.toIntS
noncomputable def L.toIntS_T : List (Nat × D.Spec) := []
def L.toIntS_ann : Nat → List Nat × List Nat
  | 3 => ([0, 3, 4], [3])
  | _ => ([], [])
noncomputable def L.toIntS_F (args : List V) (h : List E) (κ : V → List E → R) : R := funC TD (tableK L.toIntS_T) L.toIntS_ann (drawOk (tableP L.toIntS_T)) FUEL Try.f23 args h κ
noncomputable def L.toIntS_L3 (n : Nat) (σ : St) (k : X → St → R) : R := iterC 0 (fun σ k => denC TD (tableK L.toIntS_T) L.toIntS_ann (drawOk (tableP L.toIntS_T)) 0 FUEL ((findLoop 3 (Try.f23.body.getD .skip)).getD .skip) σ k) [0, 3, 4] [3] n σ k
noncomputable def L.toIntS_k3 (κ : V → List E → R) : X → St → R := (afterC TD (tableK L.toIntS_T) L.toIntS_ann (drawOk (tableP L.toIntS_T)) 0 FUEL 3 (Try.f23.body.getD .skip) (finC TD 0 Try.f23 κ)).getD (fun _ _ => none)
noncomputable def L.toIntS_step3 {α : Type} (x0 : List Int) (x4 : Int) (r0 : List Int) (next_ : Int × (List Int) → α) (out0_ : List Int → α) (fail_ : α) : α :=
  (bif decide (x4 < (↑x0.length : Int)) then (bif decide (0 ≤ x4) && decide (x4 < (↑x0.length : Int)) then (bif decide (0 ≤ x4) && decide (x4 < (↑r0.length : Int)) then (bif decide (x4.toNat < r0.length) then (next_ (IntKind.i64.wrap (x4 + 1), r0.set x4.toNat (eli x0 x4.toNat))) else fail_) else fail_) else fail_) else (out0_ r0))
theorem L.toIntS_step3_nat {α γ : Type} (g : α → γ) (x0 : List Int) (x4 : Int) (r0 : List Int) (next_ : Int × (List Int) → α) (out0_ : List Int → α) (fail_ : α) : g (L.toIntS_step3 x0 x4 r0 next_ out0_ fail_) = L.toIntS_step3 x0 x4 r0 (fun s => g (next_ s)) (fun d => g (out0_ d)) (g fail_) := by
  unfold L.toIntS_step3; simp only [apply_cnd g, apply_optC g, apply_sumC g]
noncomputable def L.toIntS_run3 (x0 : List Int) : Nat → Int × (List Int) → Option (List Int)
  | 0, _ => none
  | n + 1, s_ => L.toIntS_step3 x0 s_.1 s_.2 (L.toIntS_run3 x0 n) (fun d => some d) none
theorem L.toIntS_L3_run (x0 : List Int) (n : Nat) (s_ : Int × (List Int)) (k : X → St → R) : L.toIntS_L3 n { n := 22, t := [(0, (.ro false (.ints .i64 x0))), (3, (.own 0)), (4, (.int .i64 s_.1))], h := [.row (.ints .i64 s_.2)] } k = optC (L.toIntS_run3 x0 n s_) (fun (r : List Int) => k (.exit 0) { n := 22, t := [(3, (.own 0))], h := [.row (.ints .i64 r)] }) none := by
  induction n generalizing s_ with
  | zero => rfl
  | succ n ih =>
    have hu : L.toIntS_L3 (n + 1) { n := 22, t := [(0, (.ro false (.ints .i64 x0))), (3, (.own 0)), (4, (.int .i64 s_.1))], h := [.row (.ints .i64 s_.2)] } k = L.toIntS_step3 x0 s_.1 s_.2 (fun s_ => L.toIntS_L3 n { n := 22, t := [(0, (.ro false (.ints .i64 x0))), (3, (.own 0)), (4, (.int .i64 s_.1))], h := [.row (.ints .i64 s_.2)] } k) (fun d => k (.exit 0) { n := 22, t := [(3, (.own 0))], h := [.row (.ints .i64 d)] }) none := by
      kernel_rfl
    have hs : (fun s_ : Int × (List Int) => L.toIntS_L3 n { n := 22, t := [(0, (.ro false (.ints .i64 x0))), (3, (.own 0)), (4, (.int .i64 s_.1))], h := [.row (.ints .i64 s_.2)] } k) = fun s_ => optC (L.toIntS_run3 x0 n s_) (fun (r : List Int) => k (.exit 0) { n := 22, t := [(3, (.own 0))], h := [.row (.ints .i64 r)] }) none := funext ih
    rw [hu, hs]
    exact (L.toIntS_step3_nat (fun o => optC o (fun (r : List Int) => k (.exit 0) { n := 22, t := [(3, (.own 0))], h := [.row (.ints .i64 r)] }) none) x0 s_.1 s_.2 (L.toIntS_run3 x0 n) (fun d => some d) none).symm
noncomputable def L.toIntS_tree {α : Type} (a : List Int) (leaf0_ : List Int → α) (fail_ : α) : α :=
  (bif small (↑a.length : Int).toNat && true then (optC (L.toIntS_run3 a FUEL (0, List.replicate (↑a.length : Int).toNat 0)) (fun qy_1 => (leaf0_ qy_1)) fail_) else fail_)
theorem L.toIntS_tree_nat {α γ : Type} (g : α → γ) (a : List Int) (leaf0_ : List Int → α) (fail_ : α) : g (L.toIntS_tree a leaf0_ fail_) = L.toIntS_tree a (fun d => g (leaf0_ d)) (g fail_) := by
  unfold L.toIntS_tree; simp only [apply_cnd g, apply_optC g, apply_sumC g]
noncomputable def L.toIntS_t (a : List Int) : Option (List Int) := L.toIntS_tree a (fun d => some d) none
theorem L.toIntS_den (a : List Int) (κ : V → List E → R) : L.toIntS_F [.ro false (.ints .i64 a)] [] κ = optC (L.toIntS_t a) (fun (r : List Int) => κ (.own 0) [.row (.ints .i64 r)]) none := by
  have hu : L.toIntS_F [.ro false (.ints .i64 a)] [] κ = L.toIntS_tree a (fun d => κ (.own 0) [.row (.ints .i64 d)]) none := by
    refine Eq.trans (show L.toIntS_F [.ro false (.ints .i64 a)] [] κ = (bif small (↑a.length : Int).toNat && true then (L.toIntS_L3 FUEL { n := 22, t := [(0, (.ro false (.ints .i64 a))), (3, (.own 0)), (4, (.int .i64 0))], h := [.row (.ints .i64 (List.replicate (↑a.length : Int).toNat 0))] } (L.toIntS_k3 κ)) else none) by kernel_rfl) ?_
    refine cnd_congr ?_ ?_
    · refine (L.toIntS_L3_run a FUEL (0, List.replicate (↑a.length : Int).toNat 0) (L.toIntS_k3 κ)).trans (optC_congr (fun qy_1 => ?_))
      kernel_rfl
    · kernel_rfl
  rw [hu]
  exact (L.toIntS_tree_nat (fun o => optC o (fun (r : List Int) => κ (.own 0) [.row (.ints .i64 r)]) none) a (fun d => some d) none).symm
noncomputable def L.toIntS_s : D.Spec where
  keep := false
  pure := false
  ds := [.int .i64]
  sp := fun args h κ => match args, h with
    | [.ro false (.ints .i64 a)], [] => optC (L.toIntS_t a) (fun (r : List Int) => κ (.own 0) [.row (.ints .i64 r)]) none
    | _, _ => none
theorem L.toIntS_ok : SpecOk Try.prog 23 L.toIntS_s := by
  refine SpecOk.of TDok mixed (T := L.toIntS_T) ?_ (ann := L.toIntS_ann) Try.func23 rfl (by decide +kernel) ?_ ?_ ?_
  · intro p hp; cases hp
  · intro args h κ r hh
    simp only [L.toIntS_s] at hh
    split at hh
    · exact (L.toIntS_den _ κ).trans hh
    · cases hh
  · intro args h κ r hh
    simp only [L.toIntS_s] at hh ⊢
    split at hh
    · exact optC_law2 (F := fun (r : List Int) κ => κ (.own 0) [.row (.ints .i64 r)]) (fun b κ r hb => ⟨_, _, hb, fun _ => rfl⟩) hh
    · cases hh
  · intro hh; cases hh

-- loop.example/guardsonnets/laws.eqIntS
noncomputable def L.eqIntS_T : List (Nat × D.Spec) := []
def L.eqIntS_ann : Nat → List Nat × List Nat
  | 4 => ([0, 1, 5], [4])
  | _ => ([], [])
noncomputable def L.eqIntS_F (args : List V) (h : List E) (κ : V → List E → R) : R := funC TD (tableK L.eqIntS_T) L.eqIntS_ann (drawOk (tableP L.eqIntS_T)) FUEL Try.f24 args h κ
noncomputable def L.eqIntS_L4 (n : Nat) (σ : St) (k : X → St → R) : R := iterC 0 (fun σ k => denC TD (tableK L.eqIntS_T) L.eqIntS_ann (drawOk (tableP L.eqIntS_T)) 0 FUEL ((findLoop 4 (Try.f24.body.getD .skip)).getD .skip) σ k) [0, 1, 5] [4] n σ k
noncomputable def L.eqIntS_k4 (κ : V → List E → R) : X → St → R := (afterC TD (tableK L.eqIntS_T) L.eqIntS_ann (drawOk (tableP L.eqIntS_T)) 0 FUEL 4 (Try.f24.body.getD .skip) (finC TD 0 Try.f24 κ)).getD (fun _ _ => none)
noncomputable def L.eqIntS_step4 {α : Type} (x0 : List Int) (x1 : List Int) (x5 : Int) (next_ : Int → α) (out0_ : Bool → α) (out1_ : Unit → α) (fail_ : α) : α :=
  (bif decide (x5 < (↑x0.length : Int)) then (bif decide (0 ≤ x5) && decide (x5 < (↑x0.length : Int)) then (bif decide (0 ≤ x5) && decide (x5 < (↑x1.length : Int)) then (bif !eli x0 x5.toNat == eli x1 x5.toNat then (out0_ false) else (next_ (IntKind.i64.wrap (x5 + 1)))) else fail_) else fail_) else (out1_ ()))
theorem L.eqIntS_step4_nat {α γ : Type} (g : α → γ) (x0 : List Int) (x1 : List Int) (x5 : Int) (next_ : Int → α) (out0_ : Bool → α) (out1_ : Unit → α) (fail_ : α) : g (L.eqIntS_step4 x0 x1 x5 next_ out0_ out1_ fail_) = L.eqIntS_step4 x0 x1 x5 (fun s => g (next_ s)) (fun d => g (out0_ d)) (fun d => g (out1_ d)) (g fail_) := by
  unfold L.eqIntS_step4; simp only [apply_cnd g, apply_optC g, apply_sumC g]
noncomputable def L.eqIntS_run4 (x0 : List Int) (x1 : List Int) : Nat → Int → Option ((Bool) ⊕ (Unit))
  | 0, _ => none
  | n + 1, s_ => L.eqIntS_step4 x0 x1 s_ (L.eqIntS_run4 x0 x1 n) (fun d => some ((Sum.inl d))) (fun d => some ((Sum.inr d))) none
theorem L.eqIntS_L4_run (x0 : List Int) (x1 : List Int) (n : Nat) (s_ : Int) (k : X → St → R) : L.eqIntS_L4 n { n := 26, t := [(0, (.ro false (.ints .i64 x0))), (1, (.ro false (.ints .i64 x1))), (5, (.int .i64 s_))], h := [] } k = optC (L.eqIntS_run4 x0 x1 n s_) (fun (r : (Bool) ⊕ (Unit)) => (sumC r (fun (r : Bool) => k (.ret) { n := 26, t := [(4, (.bool r))], h := [] }) (fun (r : Unit) => k (.exit 0) { n := 26, t := [(4, .junk)], h := [] }))) none := by
  induction n generalizing s_ with
  | zero => rfl
  | succ n ih =>
    have hu : L.eqIntS_L4 (n + 1) { n := 26, t := [(0, (.ro false (.ints .i64 x0))), (1, (.ro false (.ints .i64 x1))), (5, (.int .i64 s_))], h := [] } k = L.eqIntS_step4 x0 x1 s_ (fun s_ => L.eqIntS_L4 n { n := 26, t := [(0, (.ro false (.ints .i64 x0))), (1, (.ro false (.ints .i64 x1))), (5, (.int .i64 s_))], h := [] } k) (fun d => k (.ret) { n := 26, t := [(4, (.bool d))], h := [] }) (fun d => k (.exit 0) { n := 26, t := [(4, .junk)], h := [] }) none := by
      kernel_rfl
    have hs : (fun s_ : Int => L.eqIntS_L4 n { n := 26, t := [(0, (.ro false (.ints .i64 x0))), (1, (.ro false (.ints .i64 x1))), (5, (.int .i64 s_))], h := [] } k) = fun s_ => optC (L.eqIntS_run4 x0 x1 n s_) (fun (r : (Bool) ⊕ (Unit)) => (sumC r (fun (r : Bool) => k (.ret) { n := 26, t := [(4, (.bool r))], h := [] }) (fun (r : Unit) => k (.exit 0) { n := 26, t := [(4, .junk)], h := [] }))) none := funext ih
    rw [hu, hs]
    exact (L.eqIntS_step4_nat (fun o => optC o (fun (r : (Bool) ⊕ (Unit)) => (sumC r (fun (r : Bool) => k (.ret) { n := 26, t := [(4, (.bool r))], h := [] }) (fun (r : Unit) => k (.exit 0) { n := 26, t := [(4, .junk)], h := [] }))) none) x0 x1 s_ (L.eqIntS_run4 x0 x1 n) (fun d => some ((Sum.inl d))) (fun d => some ((Sum.inr d))) none).symm
noncomputable def L.eqIntS_tree {α : Type} (a : List Int) (b_ : List Int) (leaf0_ : Bool → α) (fail_ : α) : α :=
  (bif !(↑a.length : Int) == (↑b_.length : Int) then (leaf0_ false) else (optC (L.eqIntS_run4 a b_ FUEL 0) (fun qy_1 => (sumC qy_1 (fun (qy_1 : Bool) => (leaf0_ qy_1)) (fun (qy_1 : Unit) => (leaf0_ true)))) fail_))
theorem L.eqIntS_tree_nat {α γ : Type} (g : α → γ) (a : List Int) (b_ : List Int) (leaf0_ : Bool → α) (fail_ : α) : g (L.eqIntS_tree a b_ leaf0_ fail_) = L.eqIntS_tree a b_ (fun d => g (leaf0_ d)) (g fail_) := by
  unfold L.eqIntS_tree; simp only [apply_cnd g, apply_optC g, apply_sumC g]
noncomputable def L.eqIntS_t (a : List Int) (b_ : List Int) : Option (Bool) := L.eqIntS_tree a b_ (fun d => some d) none
theorem L.eqIntS_den (a : List Int) (b_ : List Int) (κ : V → List E → R) : L.eqIntS_F [.ro false (.ints .i64 a), .ro false (.ints .i64 b_)] [] κ = optC (L.eqIntS_t a b_) (fun (r : Bool) => κ (.bool r) []) none := by
  have hu : L.eqIntS_F [.ro false (.ints .i64 a), .ro false (.ints .i64 b_)] [] κ = L.eqIntS_tree a b_ (fun d => κ (.bool d) []) none := by
    refine Eq.trans (show L.eqIntS_F [.ro false (.ints .i64 a), .ro false (.ints .i64 b_)] [] κ = (bif !(↑a.length : Int) == (↑b_.length : Int) then (κ (.bool false) []) else (L.eqIntS_L4 FUEL { n := 26, t := [(0, (.ro false (.ints .i64 a))), (1, (.ro false (.ints .i64 b_))), (5, (.int .i64 0))], h := [] } (L.eqIntS_k4 κ))) by kernel_rfl) ?_
    refine cnd_congr ?_ ?_
    · kernel_rfl
    · refine (L.eqIntS_L4_run a b_ FUEL 0 (L.eqIntS_k4 κ)).trans (optC_congr (fun qy_1 => ?_))
      rcases qy_1 with qy_1 | qy_1
      · kernel_rfl
      · kernel_rfl
  rw [hu]
  exact (L.eqIntS_tree_nat (fun o => optC o (fun (r : Bool) => κ (.bool r) []) none) a b_ (fun d => some d) none).symm
noncomputable def L.eqIntS_s : D.Spec where
  keep := false
  pure := true
  ds := [.int .i64, .int .i64]
  sp := fun args h κ => match args, h with
    | [.ro false (.ints .i64 a), .ro false (.ints .i64 b_)], [] => optC (L.eqIntS_t a b_) (fun (r : Bool) => κ (.bool r) []) none
    | _, _ => none
theorem L.eqIntS_ok : SpecOk Try.prog 24 L.eqIntS_s := by
  refine SpecOk.of TDok mixed (T := L.eqIntS_T) ?_ (ann := L.eqIntS_ann) Try.func24 rfl (by decide +kernel) ?_ ?_ ?_
  · intro p hp; cases hp
  · intro args h κ r hh
    simp only [L.eqIntS_s] at hh
    split at hh
    · exact (L.eqIntS_den _ _ κ).trans hh
    · cases hh
  · intro args h κ r hh
    simp only [L.eqIntS_s] at hh ⊢
    split at hh
    · exact optC_law2 (F := fun (r : Bool) κ => κ (.bool r) []) (fun b κ r hb => ⟨_, _, hb, fun _ => rfl⟩) hh
    · cases hh
  · intro _ args h κ r hh
    simp only [L.eqIntS_s] at hh
    split at hh
    · exact ⟨rfl, fun _ => rfl⟩
    · cases hh

-- loop.example/guardsonnets/laws.FnExactRomanOk
noncomputable def L.FnExactRomanOk_T : List (Nat × D.Spec) := [(23, L.toIntS_s), (17, S.RomanOk_s), (16, I.RomanOk_s), (24, L.eqIntS_s)]
def L.FnExactRomanOk_ann : Nat → List Nat × List Nat
  | _ => ([], [])
noncomputable def L.FnExactRomanOk_F (args : List V) (h : List E) (κ : V → List E → R) : R := funC TD (tableK L.FnExactRomanOk_T) L.FnExactRomanOk_ann (drawOk (tableP L.FnExactRomanOk_T)) FUEL Try.f4 args h κ
noncomputable def L.FnExactRomanOk_tree {α : Type} (aNet : List Int) (aRow : List Int) (leaf0_ : Bool → α) (fail_ : α) : α :=
  (bif decide ((↑aNet.length : Int) > 1048576) then (leaf0_ true) else (bif decide ((↑aRow.length : Int) > 1048576) then (leaf0_ true) else (optC (L.toIntS_t aNet) (fun c_1 => (optC (L.toIntS_t aRow) (fun c_2 => (optC (S.RomanOk_t c_1 c_2) (fun c_3 => (optC (L.toIntS_t aNet) (fun c_4 => (optC (L.toIntS_t aRow) (fun c_5 => (optC (I.RomanOk_t c_4 c_5) (fun c_6 => (bif !c_6 == c_3 then (leaf0_ false) else (optC (L.toIntS_t aNet) (fun c_7 => (optC (L.eqIntS_t c_4 c_7) (fun c_8 => (bif !c_8 then (leaf0_ false) else (optC (L.toIntS_t aRow) (fun c_9 => (optC (L.eqIntS_t c_5 c_9) (fun c_10 => (bif !c_10 then (leaf0_ false) else (leaf0_ true))) fail_)) fail_))) fail_)) fail_))) fail_)) fail_)) fail_)) fail_)) fail_)) fail_)))
theorem L.FnExactRomanOk_tree_nat {α γ : Type} (g : α → γ) (aNet : List Int) (aRow : List Int) (leaf0_ : Bool → α) (fail_ : α) : g (L.FnExactRomanOk_tree aNet aRow leaf0_ fail_) = L.FnExactRomanOk_tree aNet aRow (fun d => g (leaf0_ d)) (g fail_) := by
  unfold L.FnExactRomanOk_tree; simp only [apply_cnd g, apply_optC g, apply_sumC g]
noncomputable def L.FnExactRomanOk_t (aNet : List Int) (aRow : List Int) : Option (Bool) := L.FnExactRomanOk_tree aNet aRow (fun d => some d) none
theorem L.FnExactRomanOk_den (aNet : List Int) (aRow : List Int) (κ : V → List E → R) : L.FnExactRomanOk_F [.ro true (.ints .i64 aNet), .ro true (.ints .i64 aRow)] [] κ = optC (L.FnExactRomanOk_t aNet aRow) (fun (r : Bool) => κ (.bool r) []) none := by
  have hu : L.FnExactRomanOk_F [.ro true (.ints .i64 aNet), .ro true (.ints .i64 aRow)] [] κ = L.FnExactRomanOk_tree aNet aRow (fun d => κ (.bool d) []) none := by
    kernel_rfl
  rw [hu]
  exact (L.FnExactRomanOk_tree_nat (fun o => optC o (fun (r : Bool) => κ (.bool r) []) none) aNet aRow (fun d => some d) none).symm
noncomputable def L.FnExactRomanOk_s : D.Spec where
  keep := true
  pure := true
  ds := [.int .i64, .int .i64]
  sp := fun args h κ => match args, h with
    | [.ro true (.ints .i64 aNet), .ro true (.ints .i64 aRow)], [] => optC (L.FnExactRomanOk_t aNet aRow) (fun (r : Bool) => κ (.bool r) []) none
    | _, _ => none
theorem L.FnExactRomanOk_ok : SpecOk Try.prog 4 L.FnExactRomanOk_s := by
  refine SpecOk.of TDok mixed (T := L.FnExactRomanOk_T) ?_ (ann := L.FnExactRomanOk_ann) Try.func4 rfl (by decide +kernel) ?_ ?_ ?_
  · intro p hp
    simp only [L.FnExactRomanOk_T, List.mem_cons, List.not_mem_nil, or_false] at hp
    rcases hp with rfl | rfl | rfl | rfl
    · exact L.toIntS_ok
    · exact S.RomanOk_ok
    · exact I.RomanOk_ok
    · exact L.eqIntS_ok
  · intro args h κ r hh
    simp only [L.FnExactRomanOk_s] at hh
    split at hh
    · exact (L.FnExactRomanOk_den _ _ κ).trans hh
    · cases hh
  · intro args h κ r hh
    simp only [L.FnExactRomanOk_s] at hh ⊢
    split at hh
    · exact optC_law2 (F := fun (r : Bool) κ => κ (.bool r) []) (fun b κ r hb => ⟨_, _, hb, fun _ => rfl⟩) hh
    · cases hh
  · intro _ args h κ r hh
    simp only [L.FnExactRomanOk_s] at hh
    split at hh
    · exact ⟨rfl, fun _ => rfl⟩
    · cases hh

-- loop.example/guardsonnets/spec.DrawItalianOk
noncomputable def S.DrawItalianOk_T : List (Nat × D.Spec) := [(48, S.l20Open_s), (47, S.l20Row_s)]
def S.DrawItalianOk_ann : Nat → List Nat × List Nat
  | _ => ([], [])
noncomputable def S.DrawItalianOk_F (args : List V) (h : List E) (κ : V → List E → R) : R := funC TD (tableK S.DrawItalianOk_T) S.DrawItalianOk_ann (drawOk (tableP S.DrawItalianOk_T)) FUEL Try.f25 args h κ
noncomputable def S.DrawItalianOk_tree {α : Type} (code : List Int) (leaf0_ : (List Int) × (List Int) → α) (fail_ : α) : α :=
  (optC (S.l20Open_t code) (fun c_1 => (optC (S.l20Row_t c_1.fst c_1.snd 12) (fun c_2 => (leaf0_ (c_2.snd.snd.fst, c_2.snd.snd.snd))) fail_)) fail_)
theorem S.DrawItalianOk_tree_nat {α γ : Type} (g : α → γ) (code : List Int) (leaf0_ : (List Int) × (List Int) → α) (fail_ : α) : g (S.DrawItalianOk_tree code leaf0_ fail_) = S.DrawItalianOk_tree code (fun d => g (leaf0_ d)) (g fail_) := by
  unfold S.DrawItalianOk_tree; simp only [apply_cnd g, apply_optC g, apply_sumC g]
noncomputable def S.DrawItalianOk_t (code : List Int) : Option ((List Int) × (List Int)) := S.DrawItalianOk_tree code (fun d => some d) none
theorem S.DrawItalianOk_den (code : List Int) (κ : V → List E → R) : S.DrawItalianOk_F [.ro true (.ints .u8 code)] [] κ = optC (S.DrawItalianOk_t code) (fun (r : (List Int) × (List Int)) => κ (.tup [(.own 0), (.own 1)]) [.row (.ints .i64 r.1), .row (.ints .i64 r.2)]) none := by
  have hu : S.DrawItalianOk_F [.ro true (.ints .u8 code)] [] κ = S.DrawItalianOk_tree code (fun d => κ (.tup [(.own 0), (.own 1)]) [.row (.ints .i64 d.1), .row (.ints .i64 d.2)]) none := by
    kernel_rfl
  rw [hu]
  exact (S.DrawItalianOk_tree_nat (fun o => optC o (fun (r : (List Int) × (List Int)) => κ (.tup [(.own 0), (.own 1)]) [.row (.ints .i64 r.1), .row (.ints .i64 r.2)]) none) code (fun d => some d) none).symm
noncomputable def S.DrawItalianOk_s : D.Spec where
  keep := true
  pure := false
  ds := [.int .u8]
  sp := fun args h κ => match args, h with
    | [.ro true (.ints .u8 code)], [] => optC (S.DrawItalianOk_t code) (fun (r : (List Int) × (List Int)) => κ (.tup [(.own 0), (.own 1)]) [.row (.ints .i64 r.1), .row (.ints .i64 r.2)]) none
    | _, _ => none
theorem S.DrawItalianOk_ok : SpecOk Try.prog 25 S.DrawItalianOk_s := by
  refine SpecOk.of TDok mixed (T := S.DrawItalianOk_T) ?_ (ann := S.DrawItalianOk_ann) Try.func25 rfl (by decide +kernel) ?_ ?_ ?_
  · intro p hp
    simp only [S.DrawItalianOk_T, List.mem_cons, List.not_mem_nil, or_false] at hp
    rcases hp with rfl | rfl
    · exact S.l20Open_ok
    · exact S.l20Row_ok
  · intro args h κ r hh
    simp only [S.DrawItalianOk_s] at hh
    split at hh
    · exact (S.DrawItalianOk_den _ κ).trans hh
    · cases hh
  · intro args h κ r hh
    simp only [S.DrawItalianOk_s] at hh ⊢
    split at hh
    · exact optC_law2 (F := fun (r : (List Int) × (List Int)) κ => κ (.tup [(.own 0), (.own 1)]) [.row (.ints .i64 r.1), .row (.ints .i64 r.2)]) (fun b κ r hb => ⟨_, _, hb, fun _ => rfl⟩) hh
    · cases hh
  · intro hh; cases hh

-- loop.example/guardsonnets/spec.l7Help
noncomputable def S.l7Help_T : List (Nat × D.Spec) := []
def S.l7Help_ann : Nat → List Nat × List Nat
  | 3 => ([0, 1, 2, 7, 8], [7])
  | _ => ([], [])
noncomputable def S.l7Help_F (args : List V) (h : List E) (κ : V → List E → R) : R := funC TD (tableK S.l7Help_T) S.l7Help_ann (drawOk (tableP S.l7Help_T)) FUEL Try.f57 args h κ
noncomputable def S.l7Help_L3 (n : Nat) (σ : St) (k : X → St → R) : R := iterC 0 (fun σ k => denC TD (tableK S.l7Help_T) S.l7Help_ann (drawOk (tableP S.l7Help_T)) 0 FUEL ((findLoop 3 (Try.f57.body.getD .skip)).getD .skip) σ k) [0, 1, 2, 7, 8] [7] n σ k
noncomputable def S.l7Help_k3 (κ : V → List E → R) : X → St → R := (afterC TD (tableK S.l7Help_T) S.l7Help_ann (drawOk (tableP S.l7Help_T)) 0 FUEL 3 (Try.f57.body.getD .skip) (finC TD 0 Try.f57 κ)).getD (fun _ _ => none)
noncomputable def S.l7Help_step3 {α : Type} (x0 : List Int) (x1 : List Int) (x2 : Int) (x7 : Int) (x8 : Int) (next_ : Int × Int → α) (out0_ : Int → α) (fail_ : α) : α :=
  (bif decide (x8 < (↑x1.length : Int)) then (bif decide (0 ≤ x2) && decide (x2 < (↑x0.length : Int)) then (bif decide (x8 < 0) then fail_ else (bif decide (0 ≤ x8) && decide (x8 < (↑x1.length : Int)) then (next_ (IntKind.i64.wrap (x7 + IntKind.i64.wrap (((eli x0 x2.toNat).fdiv (2 ^ min x8.toNat IntKind.i64.bits)).tmod 2 * eli x1 x8.toNat)), IntKind.i64.wrap (x8 + 1))) else fail_)) else fail_) else (out0_ x7))
theorem S.l7Help_step3_nat {α γ : Type} (g : α → γ) (x0 : List Int) (x1 : List Int) (x2 : Int) (x7 : Int) (x8 : Int) (next_ : Int × Int → α) (out0_ : Int → α) (fail_ : α) : g (S.l7Help_step3 x0 x1 x2 x7 x8 next_ out0_ fail_) = S.l7Help_step3 x0 x1 x2 x7 x8 (fun s => g (next_ s)) (fun d => g (out0_ d)) (g fail_) := by
  unfold S.l7Help_step3; simp only [apply_cnd g, apply_optC g, apply_sumC g]
noncomputable def S.l7Help_run3 (x0 : List Int) (x1 : List Int) (x2 : Int) : Nat → Int × Int → Option (Int)
  | 0, _ => none
  | n + 1, s_ => S.l7Help_step3 x0 x1 x2 s_.1 s_.2 (S.l7Help_run3 x0 x1 x2 n) (fun d => some d) none
theorem S.l7Help_L3_run (x0 : List Int) (x1 : List Int) (x2 : Int) (n : Nat) (s_ : Int × Int) (k : X → St → R) : S.l7Help_L3 n { n := 30, t := [(0, (.ro false (.ints .i64 x0))), (1, (.ro false (.ints .i64 x1))), (2, (.int .i64 x2)), (7, (.int .i64 s_.1)), (8, (.int .i64 s_.2))], h := [] } k = optC (S.l7Help_run3 x0 x1 x2 n s_) (fun (r : Int) => k (.exit 0) { n := 30, t := [(7, (.int .i64 r))], h := [] }) none := by
  induction n generalizing s_ with
  | zero => rfl
  | succ n ih =>
    have hu : S.l7Help_L3 (n + 1) { n := 30, t := [(0, (.ro false (.ints .i64 x0))), (1, (.ro false (.ints .i64 x1))), (2, (.int .i64 x2)), (7, (.int .i64 s_.1)), (8, (.int .i64 s_.2))], h := [] } k = S.l7Help_step3 x0 x1 x2 s_.1 s_.2 (fun s_ => S.l7Help_L3 n { n := 30, t := [(0, (.ro false (.ints .i64 x0))), (1, (.ro false (.ints .i64 x1))), (2, (.int .i64 x2)), (7, (.int .i64 s_.1)), (8, (.int .i64 s_.2))], h := [] } k) (fun d => k (.exit 0) { n := 30, t := [(7, (.int .i64 d))], h := [] }) none := by
      kernel_rfl
    have hs : (fun s_ : Int × Int => S.l7Help_L3 n { n := 30, t := [(0, (.ro false (.ints .i64 x0))), (1, (.ro false (.ints .i64 x1))), (2, (.int .i64 x2)), (7, (.int .i64 s_.1)), (8, (.int .i64 s_.2))], h := [] } k) = fun s_ => optC (S.l7Help_run3 x0 x1 x2 n s_) (fun (r : Int) => k (.exit 0) { n := 30, t := [(7, (.int .i64 r))], h := [] }) none := funext ih
    rw [hu, hs]
    exact (S.l7Help_step3_nat (fun o => optC o (fun (r : Int) => k (.exit 0) { n := 30, t := [(7, (.int .i64 r))], h := [] }) none) x0 x1 x2 s_.1 s_.2 (S.l7Help_run3 x0 x1 x2 n) (fun d => some d) none).symm
noncomputable def S.l7Help_tree {α : Type} (net : List Int) (row : List Int) (place : Int) (leaf0_ : Int → α) (fail_ : α) : α :=
  (optC (S.l7Help_run3 net row place FUEL (0, 0)) (fun qy_1 => (leaf0_ qy_1)) fail_)
theorem S.l7Help_tree_nat {α γ : Type} (g : α → γ) (net : List Int) (row : List Int) (place : Int) (leaf0_ : Int → α) (fail_ : α) : g (S.l7Help_tree net row place leaf0_ fail_) = S.l7Help_tree net row place (fun d => g (leaf0_ d)) (g fail_) := by
  unfold S.l7Help_tree; simp only [apply_cnd g, apply_optC g, apply_sumC g]
noncomputable def S.l7Help_t (net : List Int) (row : List Int) (place : Int) : Option (Int) := S.l7Help_tree net row place (fun d => some d) none
theorem S.l7Help_den (net : List Int) (row : List Int) (place : Int) (κ : V → List E → R) : S.l7Help_F [.ro false (.ints .i64 net), .ro false (.ints .i64 row), .int .i64 place] [] κ = optC (S.l7Help_t net row place) (fun (r : Int) => κ (.int .i64 r) []) none := by
  have hu : S.l7Help_F [.ro false (.ints .i64 net), .ro false (.ints .i64 row), .int .i64 place] [] κ = S.l7Help_tree net row place (fun d => κ (.int .i64 d) []) none := by
    refine Eq.trans (show S.l7Help_F [.ro false (.ints .i64 net), .ro false (.ints .i64 row), .int .i64 place] [] κ = (S.l7Help_L3 FUEL { n := 30, t := [(0, (.ro false (.ints .i64 net))), (1, (.ro false (.ints .i64 row))), (2, (.int .i64 place)), (7, (.int .i64 0)), (8, (.int .i64 0))], h := [] } (S.l7Help_k3 κ)) by kernel_rfl) ?_
    refine (S.l7Help_L3_run net row place FUEL (0, 0) (S.l7Help_k3 κ)).trans (optC_congr (fun qy_1 => ?_))
    kernel_rfl
  rw [hu]
  exact (S.l7Help_tree_nat (fun o => optC o (fun (r : Int) => κ (.int .i64 r) []) none) net row place (fun d => some d) none).symm
noncomputable def S.l7Help_s : D.Spec where
  keep := false
  pure := true
  ds := [.int .i64, .int .i64, .invalid]
  sp := fun args h κ => match args, h with
    | [.ro false (.ints .i64 net), .ro false (.ints .i64 row), .int .i64 place], [] => optC (S.l7Help_t net row place) (fun (r : Int) => κ (.int .i64 r) []) none
    | _, _ => none
theorem S.l7Help_ok : SpecOk Try.prog 57 S.l7Help_s := by
  refine SpecOk.of TDok mixed (T := S.l7Help_T) ?_ (ann := S.l7Help_ann) Try.func57 rfl (by decide +kernel) ?_ ?_ ?_
  · intro p hp; cases hp
  · intro args h κ r hh
    simp only [S.l7Help_s] at hh
    split at hh
    · exact (S.l7Help_den _ _ _ κ).trans hh
    · cases hh
  · intro args h κ r hh
    simp only [S.l7Help_s] at hh ⊢
    split at hh
    · exact optC_law2 (F := fun (r : Int) κ => κ (.int .i64 r) []) (fun b κ r hb => ⟨_, _, hb, fun _ => rfl⟩) hh
    · cases hh
  · intro _ args h κ r hh
    simp only [S.l7Help_s] at hh
    split at hh
    · exact ⟨rfl, fun _ => rfl⟩
    · cases hh

-- loop.example/guardsonnets/spec.ItalianOk
noncomputable def S.ItalianOk_T : List (Nat × D.Spec) := [(51, S.l7Row_s), (57, S.l7Help_s)]
def S.ItalianOk_ann : Nat → List Nat × List Nat
  | 4 => ([0, 1, 5], [4])
  | _ => ([], [])
noncomputable def S.ItalianOk_F (args : List V) (h : List E) (κ : V → List E → R) : R := funC TD (tableK S.ItalianOk_T) S.ItalianOk_ann (drawOk (tableP S.ItalianOk_T)) FUEL Try.f26 args h κ
noncomputable def S.ItalianOk_L4 (n : Nat) (σ : St) (k : X → St → R) : R := iterC 0 (fun σ k => denC TD (tableK S.ItalianOk_T) S.ItalianOk_ann (drawOk (tableP S.ItalianOk_T)) 0 FUEL ((findLoop 4 (Try.f26.body.getD .skip)).getD .skip) σ k) [0, 1, 5] [4] n σ k
noncomputable def S.ItalianOk_k4 (κ : V → List E → R) : X → St → R := (afterC TD (tableK S.ItalianOk_T) S.ItalianOk_ann (drawOk (tableP S.ItalianOk_T)) 0 FUEL 4 (Try.f26.body.getD .skip) (finC TD 0 Try.f26 κ)).getD (fun _ _ => none)
noncomputable def S.ItalianOk_step4 {α : Type} (x0 : List Int) (x1 : List Int) (x5 : Int) (next_ : Int → α) (out0_ : Bool → α) (out1_ : Unit → α) (fail_ : α) : α :=
  (bif decide (x5 < (↑x1.length : Int)) then (bif decide (0 ≤ x5) && decide (x5 < (↑x1.length : Int)) then (bif eli x1 x5.toNat == 0 then (optC (S.l7Help_t x0 x1 x5) (fun c_2 => (bif decide (c_2 < 2) then (out0_ false) else (next_ (IntKind.i64.wrap (x5 + 1))))) fail_) else (next_ (IntKind.i64.wrap (x5 + 1)))) else fail_) else (out1_ ()))
theorem S.ItalianOk_step4_nat {α γ : Type} (g : α → γ) (x0 : List Int) (x1 : List Int) (x5 : Int) (next_ : Int → α) (out0_ : Bool → α) (out1_ : Unit → α) (fail_ : α) : g (S.ItalianOk_step4 x0 x1 x5 next_ out0_ out1_ fail_) = S.ItalianOk_step4 x0 x1 x5 (fun s => g (next_ s)) (fun d => g (out0_ d)) (fun d => g (out1_ d)) (g fail_) := by
  unfold S.ItalianOk_step4; simp only [apply_cnd g, apply_optC g, apply_sumC g]
noncomputable def S.ItalianOk_run4 (x0 : List Int) (x1 : List Int) : Nat → Int → Option ((Bool) ⊕ (Unit))
  | 0, _ => none
  | n + 1, s_ => S.ItalianOk_step4 x0 x1 s_ (S.ItalianOk_run4 x0 x1 n) (fun d => some ((Sum.inl d))) (fun d => some ((Sum.inr d))) none
theorem S.ItalianOk_L4_run (x0 : List Int) (x1 : List Int) (n : Nat) (s_ : Int) (k : X → St → R) : S.ItalianOk_L4 n { n := 28, t := [(0, (.ro false (.ints .i64 x0))), (1, (.ro false (.ints .i64 x1))), (5, (.int .i64 s_))], h := [] } k = optC (S.ItalianOk_run4 x0 x1 n s_) (fun (r : (Bool) ⊕ (Unit)) => (sumC r (fun (r : Bool) => k (.ret) { n := 28, t := [(4, (.bool r))], h := [] }) (fun (r : Unit) => k (.exit 0) { n := 28, t := [(4, .junk)], h := [] }))) none := by
  induction n generalizing s_ with
  | zero => rfl
  | succ n ih =>
    have hu : S.ItalianOk_L4 (n + 1) { n := 28, t := [(0, (.ro false (.ints .i64 x0))), (1, (.ro false (.ints .i64 x1))), (5, (.int .i64 s_))], h := [] } k = S.ItalianOk_step4 x0 x1 s_ (fun s_ => S.ItalianOk_L4 n { n := 28, t := [(0, (.ro false (.ints .i64 x0))), (1, (.ro false (.ints .i64 x1))), (5, (.int .i64 s_))], h := [] } k) (fun d => k (.ret) { n := 28, t := [(4, (.bool d))], h := [] }) (fun d => k (.exit 0) { n := 28, t := [(4, .junk)], h := [] }) none := by
      kernel_rfl
    have hs : (fun s_ : Int => S.ItalianOk_L4 n { n := 28, t := [(0, (.ro false (.ints .i64 x0))), (1, (.ro false (.ints .i64 x1))), (5, (.int .i64 s_))], h := [] } k) = fun s_ => optC (S.ItalianOk_run4 x0 x1 n s_) (fun (r : (Bool) ⊕ (Unit)) => (sumC r (fun (r : Bool) => k (.ret) { n := 28, t := [(4, (.bool r))], h := [] }) (fun (r : Unit) => k (.exit 0) { n := 28, t := [(4, .junk)], h := [] }))) none := funext ih
    rw [hu, hs]
    exact (S.ItalianOk_step4_nat (fun o => optC o (fun (r : (Bool) ⊕ (Unit)) => (sumC r (fun (r : Bool) => k (.ret) { n := 28, t := [(4, (.bool r))], h := [] }) (fun (r : Unit) => k (.exit 0) { n := 28, t := [(4, .junk)], h := [] }))) none) x0 x1 s_ (S.ItalianOk_run4 x0 x1 n) (fun d => some ((Sum.inl d))) (fun d => some ((Sum.inr d))) none).symm
noncomputable def S.ItalianOk_tree {α : Type} (net : List Int) (row : List Int) (leaf0_ : Bool → α) (fail_ : α) : α :=
  (optC (S.l7Row_t net row) (fun c_1 => (bif !c_1 then (leaf0_ false) else (optC (S.ItalianOk_run4 net row FUEL 0) (fun qy_3 => (sumC qy_3 (fun (qy_3 : Bool) => (leaf0_ qy_3)) (fun (qy_3 : Unit) => (leaf0_ true)))) fail_))) fail_)
theorem S.ItalianOk_tree_nat {α γ : Type} (g : α → γ) (net : List Int) (row : List Int) (leaf0_ : Bool → α) (fail_ : α) : g (S.ItalianOk_tree net row leaf0_ fail_) = S.ItalianOk_tree net row (fun d => g (leaf0_ d)) (g fail_) := by
  unfold S.ItalianOk_tree; simp only [apply_cnd g, apply_optC g, apply_sumC g]
noncomputable def S.ItalianOk_t (net : List Int) (row : List Int) : Option (Bool) := S.ItalianOk_tree net row (fun d => some d) none
theorem S.ItalianOk_den (net : List Int) (row : List Int) (κ : V → List E → R) : S.ItalianOk_F [.ro false (.ints .i64 net), .ro false (.ints .i64 row)] [] κ = optC (S.ItalianOk_t net row) (fun (r : Bool) => κ (.bool r) []) none := by
  have hu : S.ItalianOk_F [.ro false (.ints .i64 net), .ro false (.ints .i64 row)] [] κ = S.ItalianOk_tree net row (fun d => κ (.bool d) []) none := by
    refine Eq.trans (show S.ItalianOk_F [.ro false (.ints .i64 net), .ro false (.ints .i64 row)] [] κ = (optC (S.l7Row_t net row) (fun c_1 => (bif !c_1 then (κ (.bool false) []) else (S.ItalianOk_L4 FUEL { n := 28, t := [(0, (.ro false (.ints .i64 net))), (1, (.ro false (.ints .i64 row))), (5, (.int .i64 0))], h := [] } (S.ItalianOk_k4 κ)))) none) by kernel_rfl) ?_
    refine optC_congr (fun c_1 => ?_)
    refine cnd_congr ?_ ?_
    · kernel_rfl
    · refine (S.ItalianOk_L4_run net row FUEL 0 (S.ItalianOk_k4 κ)).trans (optC_congr (fun qy_3 => ?_))
      rcases qy_3 with qy_3 | qy_3
      · kernel_rfl
      · kernel_rfl
  rw [hu]
  exact (S.ItalianOk_tree_nat (fun o => optC o (fun (r : Bool) => κ (.bool r) []) none) net row (fun d => some d) none).symm
noncomputable def S.ItalianOk_s : D.Spec where
  keep := false
  pure := true
  ds := [.int .i64, .int .i64]
  sp := fun args h κ => match args, h with
    | [.ro false (.ints .i64 net), .ro false (.ints .i64 row)], [] => optC (S.ItalianOk_t net row) (fun (r : Bool) => κ (.bool r) []) none
    | _, _ => none
theorem S.ItalianOk_ok : SpecOk Try.prog 26 S.ItalianOk_s := by
  refine SpecOk.of TDok mixed (T := S.ItalianOk_T) ?_ (ann := S.ItalianOk_ann) Try.func26 rfl (by decide +kernel) ?_ ?_ ?_
  · intro p hp
    simp only [S.ItalianOk_T, List.mem_cons, List.not_mem_nil, or_false] at hp
    rcases hp with rfl | rfl
    · exact S.l7Row_ok
    · exact S.l7Help_ok
  · intro args h κ r hh
    simp only [S.ItalianOk_s] at hh
    split at hh
    · exact (S.ItalianOk_den _ _ κ).trans hh
    · cases hh
  · intro args h κ r hh
    simp only [S.ItalianOk_s] at hh ⊢
    split at hh
    · exact optC_law2 (F := fun (r : Bool) κ => κ (.bool r) []) (fun b κ r hb => ⟨_, _, hb, fun _ => rfl⟩) hh
    · cases hh
  · intro _ args h κ r hh
    simp only [S.ItalianOk_s] at hh
    split at hh
    · exact ⟨rfl, fun _ => rfl⟩
    · cases hh

-- loop.example/guardsonnets/laws.FnItalianOk
noncomputable def L.FnItalianOk_T : List (Nat × D.Spec) := [(25, S.DrawItalianOk_s), (21, I.ItalianOk_s), (26, S.ItalianOk_s), (20, L.placesWith_s), (19, I.WatchOk_s), (18, L.alive_s)]
def L.FnItalianOk_ann : Nat → List Nat × List Nat
  | _ => ([], [])
noncomputable def L.FnItalianOk_F (args : List V) (h : List E) (κ : V → List E → R) : R := funC TD (tableK L.FnItalianOk_T) L.FnItalianOk_ann (drawOk (tableP L.FnItalianOk_T)) FUEL Try.f5 args h κ
noncomputable def L.FnItalianOk_tree {α : Type} (code : List Int) (leaf0_ : Bool → α) (fail_ : α) : α :=
  (bif decide ((↑code.length : Int) > 1048576) then (leaf0_ true) else (optC (S.DrawItalianOk_t code) (fun c_1 => (optC (I.ItalianOk_t c_1.fst c_1.snd) (fun c_2 => (optC (S.ItalianOk_t c_1.fst c_1.snd) (fun c_3 => (bif !c_2 == c_3 then (leaf0_ false) else (bif !c_2 then (optC (L.alive_t) (fun c_4 => (leaf0_ c_4)) fail_) else (optC (L.placesWith_t c_1.snd 1) (fun c_5 => (optC (I.WatchOk_t c_1.fst c_5) (fun c_6 => (bif c_6 then (optC (L.alive_t) (fun c_7 => (leaf0_ c_7)) fail_) else (leaf0_ false))) fail_)) fail_)))) fail_)) fail_)) fail_))
theorem L.FnItalianOk_tree_nat {α γ : Type} (g : α → γ) (code : List Int) (leaf0_ : Bool → α) (fail_ : α) : g (L.FnItalianOk_tree code leaf0_ fail_) = L.FnItalianOk_tree code (fun d => g (leaf0_ d)) (g fail_) := by
  unfold L.FnItalianOk_tree; simp only [apply_cnd g, apply_optC g, apply_sumC g]
noncomputable def L.FnItalianOk_t (code : List Int) : Option (Bool) := L.FnItalianOk_tree code (fun d => some d) none
theorem L.FnItalianOk_den (code : List Int) (κ : V → List E → R) : L.FnItalianOk_F [.ro true (.ints .u8 code)] [] κ = optC (L.FnItalianOk_t code) (fun (r : Bool) => κ (.bool r) []) none := by
  have hu : L.FnItalianOk_F [.ro true (.ints .u8 code)] [] κ = L.FnItalianOk_tree code (fun d => κ (.bool d) []) none := by
    kernel_rfl
  rw [hu]
  exact (L.FnItalianOk_tree_nat (fun o => optC o (fun (r : Bool) => κ (.bool r) []) none) code (fun d => some d) none).symm
noncomputable def L.FnItalianOk_s : D.Spec where
  keep := true
  pure := true
  ds := [.int .u8]
  sp := fun args h κ => match args, h with
    | [.ro true (.ints .u8 code)], [] => optC (L.FnItalianOk_t code) (fun (r : Bool) => κ (.bool r) []) none
    | _, _ => none
theorem L.FnItalianOk_ok : SpecOk Try.prog 5 L.FnItalianOk_s := by
  refine SpecOk.of TDok mixed (T := L.FnItalianOk_T) ?_ (ann := L.FnItalianOk_ann) Try.func5 rfl (by decide +kernel) ?_ ?_ ?_
  · intro p hp
    simp only [L.FnItalianOk_T, List.mem_cons, List.not_mem_nil, or_false] at hp
    rcases hp with rfl | rfl | rfl | rfl | rfl | rfl
    · exact S.DrawItalianOk_ok
    · exact I.ItalianOk_ok
    · exact S.ItalianOk_ok
    · exact L.placesWith_ok
    · exact I.WatchOk_ok
    · exact L.alive_ok
  · intro args h κ r hh
    simp only [L.FnItalianOk_s] at hh
    split at hh
    · exact (L.FnItalianOk_den _ κ).trans hh
    · cases hh
  · intro args h κ r hh
    simp only [L.FnItalianOk_s] at hh ⊢
    split at hh
    · exact optC_law2 (F := fun (r : Bool) κ => κ (.bool r) []) (fun b κ r hb => ⟨_, _, hb, fun _ => rfl⟩) hh
    · cases hh
  · intro _ args h κ r hh
    simp only [L.FnItalianOk_s] at hh
    split at hh
    · exact ⟨rfl, fun _ => rfl⟩
    · cases hh

-- loop.example/guardsonnets/laws.FnExactItalianOk
noncomputable def L.FnExactItalianOk_T : List (Nat × D.Spec) := [(23, L.toIntS_s), (26, S.ItalianOk_s), (21, I.ItalianOk_s), (24, L.eqIntS_s)]
def L.FnExactItalianOk_ann : Nat → List Nat × List Nat
  | _ => ([], [])
noncomputable def L.FnExactItalianOk_F (args : List V) (h : List E) (κ : V → List E → R) : R := funC TD (tableK L.FnExactItalianOk_T) L.FnExactItalianOk_ann (drawOk (tableP L.FnExactItalianOk_T)) FUEL Try.f6 args h κ
noncomputable def L.FnExactItalianOk_tree {α : Type} (aNet : List Int) (aRow : List Int) (leaf0_ : Bool → α) (fail_ : α) : α :=
  (bif decide ((↑aNet.length : Int) > 1048576) then (leaf0_ true) else (bif decide ((↑aRow.length : Int) > 1048576) then (leaf0_ true) else (optC (L.toIntS_t aNet) (fun c_1 => (optC (L.toIntS_t aRow) (fun c_2 => (optC (S.ItalianOk_t c_1 c_2) (fun c_3 => (optC (L.toIntS_t aNet) (fun c_4 => (optC (L.toIntS_t aRow) (fun c_5 => (optC (I.ItalianOk_t c_4 c_5) (fun c_6 => (bif !c_6 == c_3 then (leaf0_ false) else (optC (L.toIntS_t aNet) (fun c_7 => (optC (L.eqIntS_t c_4 c_7) (fun c_8 => (bif !c_8 then (leaf0_ false) else (optC (L.toIntS_t aRow) (fun c_9 => (optC (L.eqIntS_t c_5 c_9) (fun c_10 => (bif !c_10 then (leaf0_ false) else (leaf0_ true))) fail_)) fail_))) fail_)) fail_))) fail_)) fail_)) fail_)) fail_)) fail_)) fail_)))
theorem L.FnExactItalianOk_tree_nat {α γ : Type} (g : α → γ) (aNet : List Int) (aRow : List Int) (leaf0_ : Bool → α) (fail_ : α) : g (L.FnExactItalianOk_tree aNet aRow leaf0_ fail_) = L.FnExactItalianOk_tree aNet aRow (fun d => g (leaf0_ d)) (g fail_) := by
  unfold L.FnExactItalianOk_tree; simp only [apply_cnd g, apply_optC g, apply_sumC g]
noncomputable def L.FnExactItalianOk_t (aNet : List Int) (aRow : List Int) : Option (Bool) := L.FnExactItalianOk_tree aNet aRow (fun d => some d) none
theorem L.FnExactItalianOk_den (aNet : List Int) (aRow : List Int) (κ : V → List E → R) : L.FnExactItalianOk_F [.ro true (.ints .i64 aNet), .ro true (.ints .i64 aRow)] [] κ = optC (L.FnExactItalianOk_t aNet aRow) (fun (r : Bool) => κ (.bool r) []) none := by
  have hu : L.FnExactItalianOk_F [.ro true (.ints .i64 aNet), .ro true (.ints .i64 aRow)] [] κ = L.FnExactItalianOk_tree aNet aRow (fun d => κ (.bool d) []) none := by
    kernel_rfl
  rw [hu]
  exact (L.FnExactItalianOk_tree_nat (fun o => optC o (fun (r : Bool) => κ (.bool r) []) none) aNet aRow (fun d => some d) none).symm
noncomputable def L.FnExactItalianOk_s : D.Spec where
  keep := true
  pure := true
  ds := [.int .i64, .int .i64]
  sp := fun args h κ => match args, h with
    | [.ro true (.ints .i64 aNet), .ro true (.ints .i64 aRow)], [] => optC (L.FnExactItalianOk_t aNet aRow) (fun (r : Bool) => κ (.bool r) []) none
    | _, _ => none
theorem L.FnExactItalianOk_ok : SpecOk Try.prog 6 L.FnExactItalianOk_s := by
  refine SpecOk.of TDok mixed (T := L.FnExactItalianOk_T) ?_ (ann := L.FnExactItalianOk_ann) Try.func6 rfl (by decide +kernel) ?_ ?_ ?_
  · intro p hp
    simp only [L.FnExactItalianOk_T, List.mem_cons, List.not_mem_nil, or_false] at hp
    rcases hp with rfl | rfl | rfl | rfl
    · exact L.toIntS_ok
    · exact S.ItalianOk_ok
    · exact I.ItalianOk_ok
    · exact L.eqIntS_ok
  · intro args h κ r hh
    simp only [L.FnExactItalianOk_s] at hh
    split at hh
    · exact (L.FnExactItalianOk_den _ _ κ).trans hh
    · cases hh
  · intro args h κ r hh
    simp only [L.FnExactItalianOk_s] at hh ⊢
    split at hh
    · exact optC_law2 (F := fun (r : Bool) κ => κ (.bool r) []) (fun b κ r hb => ⟨_, _, hb, fun _ => rfl⟩) hh
    · cases hh
  · intro _ args h κ r hh
    simp only [L.FnExactItalianOk_s] at hh
    split at hh
    · exact ⟨rfl, fun _ => rfl⟩
    · cases hh

-- loop.example/guardsonnets/spec.DrawRomanRow
noncomputable def S.DrawRomanRow_T : List (Nat × D.Spec) := [(48, S.l20Open_s), (58, S.l20Net_s)]
def S.DrawRomanRow_ann : Nat → List Nat × List Nat
  | _ => ([], [])
noncomputable def S.DrawRomanRow_F (args : List V) (h : List E) (κ : V → List E → R) : R := funC TD (tableK S.DrawRomanRow_T) S.DrawRomanRow_ann (drawOk (tableP S.DrawRomanRow_T)) FUEL Try.f27 args h κ
noncomputable def S.DrawRomanRow_tree {α : Type} (code : List Int) (leaf0_ : List Int → α) (fail_ : α) : α :=
  (optC (S.l20Open_t code) (fun c_1 => (optC (S.l20Net_t c_1.fst c_1.snd 9) (fun c_2 => (leaf0_ c_2.snd.snd)) fail_)) fail_)
theorem S.DrawRomanRow_tree_nat {α γ : Type} (g : α → γ) (code : List Int) (leaf0_ : List Int → α) (fail_ : α) : g (S.DrawRomanRow_tree code leaf0_ fail_) = S.DrawRomanRow_tree code (fun d => g (leaf0_ d)) (g fail_) := by
  unfold S.DrawRomanRow_tree; simp only [apply_cnd g, apply_optC g, apply_sumC g]
noncomputable def S.DrawRomanRow_t (code : List Int) : Option (List Int) := S.DrawRomanRow_tree code (fun d => some d) none
theorem S.DrawRomanRow_den (code : List Int) (κ : V → List E → R) : S.DrawRomanRow_F [.ro true (.ints .u8 code)] [] κ = optC (S.DrawRomanRow_t code) (fun (r : List Int) => κ (.own 0) [.row (.ints .i64 r)]) none := by
  have hu : S.DrawRomanRow_F [.ro true (.ints .u8 code)] [] κ = S.DrawRomanRow_tree code (fun d => κ (.own 0) [.row (.ints .i64 d)]) none := by
    kernel_rfl
  rw [hu]
  exact (S.DrawRomanRow_tree_nat (fun o => optC o (fun (r : List Int) => κ (.own 0) [.row (.ints .i64 r)]) none) code (fun d => some d) none).symm
noncomputable def S.DrawRomanRow_s : D.Spec where
  keep := true
  pure := false
  ds := [.int .u8]
  sp := fun args h κ => match args, h with
    | [.ro true (.ints .u8 code)], [] => optC (S.DrawRomanRow_t code) (fun (r : List Int) => κ (.own 0) [.row (.ints .i64 r)]) none
    | _, _ => none
theorem S.DrawRomanRow_ok : SpecOk Try.prog 27 S.DrawRomanRow_s := by
  refine SpecOk.of TDok mixed (T := S.DrawRomanRow_T) ?_ (ann := S.DrawRomanRow_ann) Try.func27 rfl (by decide +kernel) ?_ ?_ ?_
  · intro p hp
    simp only [S.DrawRomanRow_T, List.mem_cons, List.not_mem_nil, or_false] at hp
    rcases hp with rfl | rfl
    · exact S.l20Open_ok
    · exact S.l20Net_ok
  · intro args h κ r hh
    simp only [S.DrawRomanRow_s] at hh
    split at hh
    · exact (S.DrawRomanRow_den _ κ).trans hh
    · cases hh
  · intro args h κ r hh
    simp only [S.DrawRomanRow_s] at hh ⊢
    split at hh
    · exact optC_law2 (F := fun (r : List Int) κ => κ (.own 0) [.row (.ints .i64 r)]) (fun b κ r hb => ⟨_, _, hb, fun _ => rfl⟩) hh
    · cases hh
  · intro hh; cases hh

-- loop.example/guardsonnets/impl.rowsOf
noncomputable def I.rowsOf_T : List (Nat × D.Spec) := []
def I.rowsOf_ann : Nat → List Nat × List Nat
  | 3 => ([0, 3, 4], [3])
  | _ => ([], [])
noncomputable def I.rowsOf_F (args : List V) (h : List E) (κ : V → List E → R) : R := funC TD (tableK I.rowsOf_T) I.rowsOf_ann (drawOk (tableP I.rowsOf_T)) FUEL Try.f69 args h κ
noncomputable def I.rowsOf_L3 (n : Nat) (σ : St) (k : X → St → R) : R := iterC 0 (fun σ k => denC TD (tableK I.rowsOf_T) I.rowsOf_ann (drawOk (tableP I.rowsOf_T)) 0 FUEL ((findLoop 3 (Try.f69.body.getD .skip)).getD .skip) σ k) [0, 3, 4] [3] n σ k
noncomputable def I.rowsOf_k3 (κ : V → List E → R) : X → St → R := (afterC TD (tableK I.rowsOf_T) I.rowsOf_ann (drawOk (tableP I.rowsOf_T)) 0 FUEL 3 (Try.f69.body.getD .skip) (finC TD 0 Try.f69 κ)).getD (fun _ _ => none)
noncomputable def I.rowsOf_step3 {α : Type} (x0 : List Int) (x3 : Int) (x4 : Int) (next_ : Int × Int → α) (out0_ : Int → α) (fail_ : α) : α :=
  (bif decide (x4 < (↑x0.length : Int)) then (next_ (IntKind.i64.wrap (x3 * 3), IntKind.i64.wrap (x4 + 1))) else (out0_ x3))
theorem I.rowsOf_step3_nat {α γ : Type} (g : α → γ) (x0 : List Int) (x3 : Int) (x4 : Int) (next_ : Int × Int → α) (out0_ : Int → α) (fail_ : α) : g (I.rowsOf_step3 x0 x3 x4 next_ out0_ fail_) = I.rowsOf_step3 x0 x3 x4 (fun s => g (next_ s)) (fun d => g (out0_ d)) (g fail_) := by
  unfold I.rowsOf_step3; simp only [apply_cnd g, apply_optC g, apply_sumC g]
noncomputable def I.rowsOf_run3 (x0 : List Int) : Nat → Int × Int → Option (Int)
  | 0, _ => none
  | n + 1, s_ => I.rowsOf_step3 x0 s_.1 s_.2 (I.rowsOf_run3 x0 n) (fun d => some d) none
theorem I.rowsOf_L3_run (x0 : List Int) (n : Nat) (s_ : Int × Int) (k : X → St → R) : I.rowsOf_L3 n { n := 14, t := [(0, (.ro false (.ints .i64 x0))), (3, (.int .i64 s_.1)), (4, (.int .i64 s_.2))], h := [] } k = optC (I.rowsOf_run3 x0 n s_) (fun (r : Int) => k (.exit 0) { n := 14, t := [(3, (.int .i64 r))], h := [] }) none := by
  induction n generalizing s_ with
  | zero => rfl
  | succ n ih =>
    have hu : I.rowsOf_L3 (n + 1) { n := 14, t := [(0, (.ro false (.ints .i64 x0))), (3, (.int .i64 s_.1)), (4, (.int .i64 s_.2))], h := [] } k = I.rowsOf_step3 x0 s_.1 s_.2 (fun s_ => I.rowsOf_L3 n { n := 14, t := [(0, (.ro false (.ints .i64 x0))), (3, (.int .i64 s_.1)), (4, (.int .i64 s_.2))], h := [] } k) (fun d => k (.exit 0) { n := 14, t := [(3, (.int .i64 d))], h := [] }) none := by
      kernel_rfl
    have hs : (fun s_ : Int × Int => I.rowsOf_L3 n { n := 14, t := [(0, (.ro false (.ints .i64 x0))), (3, (.int .i64 s_.1)), (4, (.int .i64 s_.2))], h := [] } k) = fun s_ => optC (I.rowsOf_run3 x0 n s_) (fun (r : Int) => k (.exit 0) { n := 14, t := [(3, (.int .i64 r))], h := [] }) none := funext ih
    rw [hu, hs]
    exact (I.rowsOf_step3_nat (fun o => optC o (fun (r : Int) => k (.exit 0) { n := 14, t := [(3, (.int .i64 r))], h := [] }) none) x0 s_.1 s_.2 (I.rowsOf_run3 x0 n) (fun d => some d) none).symm
noncomputable def I.rowsOf_tree {α : Type} (net : List Int) (leaf0_ : Int → α) (fail_ : α) : α :=
  (optC (I.rowsOf_run3 net FUEL (1, 0)) (fun qy_1 => (leaf0_ qy_1)) fail_)
theorem I.rowsOf_tree_nat {α γ : Type} (g : α → γ) (net : List Int) (leaf0_ : Int → α) (fail_ : α) : g (I.rowsOf_tree net leaf0_ fail_) = I.rowsOf_tree net (fun d => g (leaf0_ d)) (g fail_) := by
  unfold I.rowsOf_tree; simp only [apply_cnd g, apply_optC g, apply_sumC g]
noncomputable def I.rowsOf_t (net : List Int) : Option (Int) := I.rowsOf_tree net (fun d => some d) none
theorem I.rowsOf_den (net : List Int) (κ : V → List E → R) : I.rowsOf_F [.ro false (.ints .i64 net)] [] κ = optC (I.rowsOf_t net) (fun (r : Int) => κ (.int .i64 r) []) none := by
  have hu : I.rowsOf_F [.ro false (.ints .i64 net)] [] κ = I.rowsOf_tree net (fun d => κ (.int .i64 d) []) none := by
    refine Eq.trans (show I.rowsOf_F [.ro false (.ints .i64 net)] [] κ = (I.rowsOf_L3 FUEL { n := 14, t := [(0, (.ro false (.ints .i64 net))), (3, (.int .i64 1)), (4, (.int .i64 0))], h := [] } (I.rowsOf_k3 κ)) by kernel_rfl) ?_
    refine (I.rowsOf_L3_run net FUEL (1, 0) (I.rowsOf_k3 κ)).trans (optC_congr (fun qy_1 => ?_))
    kernel_rfl
  rw [hu]
  exact (I.rowsOf_tree_nat (fun o => optC o (fun (r : Int) => κ (.int .i64 r) []) none) net (fun d => some d) none).symm
noncomputable def I.rowsOf_s : D.Spec where
  keep := false
  pure := true
  ds := [.int .i64]
  sp := fun args h κ => match args, h with
    | [.ro false (.ints .i64 net)], [] => optC (I.rowsOf_t net) (fun (r : Int) => κ (.int .i64 r) []) none
    | _, _ => none
theorem I.rowsOf_ok : SpecOk Try.prog 69 I.rowsOf_s := by
  refine SpecOk.of TDok mixed (T := I.rowsOf_T) ?_ (ann := I.rowsOf_ann) Try.func69 rfl (by decide +kernel) ?_ ?_ ?_
  · intro p hp; cases hp
  · intro args h κ r hh
    simp only [I.rowsOf_s] at hh
    split at hh
    · exact (I.rowsOf_den _ κ).trans hh
    · cases hh
  · intro args h κ r hh
    simp only [I.rowsOf_s] at hh ⊢
    split at hh
    · exact optC_law2 (F := fun (r : Int) κ => κ (.int .i64 r) []) (fun b κ r hb => ⟨_, _, hb, fun _ => rfl⟩) hh
    · cases hh
  · intro _ args h κ r hh
    simp only [I.rowsOf_s] at hh
    split at hh
    · exact ⟨rfl, fun _ => rfl⟩
    · cases hh

-- loop.example/guardsonnets/impl.rowAt
noncomputable def I.rowAt_T : List (Nat × D.Spec) := []
def I.rowAt_ann : Nat → List Nat × List Nat
  | 4 => ([5, 6, 7], [5])
  | _ => ([], [])
noncomputable def I.rowAt_F (args : List V) (h : List E) (κ : V → List E → R) : R := funC TD (tableK I.rowAt_T) I.rowAt_ann (drawOk (tableP I.rowAt_T)) FUEL Try.f70 args h κ
noncomputable def I.rowAt_L4 (n : Nat) (σ : St) (k : X → St → R) : R := iterC 0 (fun σ k => denC TD (tableK I.rowAt_T) I.rowAt_ann (drawOk (tableP I.rowAt_T)) 0 FUEL ((findLoop 4 (Try.f70.body.getD .skip)).getD .skip) σ k) [5, 6, 7] [5] n σ k
noncomputable def I.rowAt_k4 (κ : V → List E → R) : X → St → R := (afterC TD (tableK I.rowAt_T) I.rowAt_ann (drawOk (tableP I.rowAt_T)) 0 FUEL 4 (Try.f70.body.getD .skip) (finC TD 0 Try.f70 κ)).getD (fun _ _ => none)
noncomputable def I.rowAt_step4 {α : Type} (x6 : Int) (x7 : Int) (r0 : List Int) (next_ : Int × Int × (List Int) → α) (out0_ : List Int → α) (fail_ : α) : α :=
  (bif decide (x7 ≥ 0) then (bif decide (0 ≤ x7) && decide (x7 < (↑r0.length : Int)) then (bif decide (x7.toNat < r0.length) then (next_ (IntKind.i64.wrap (x6.tdiv 3), IntKind.i64.wrap (x7 - 1), r0.set x7.toNat (x6.tmod 3))) else fail_) else fail_) else (out0_ r0))
theorem I.rowAt_step4_nat {α γ : Type} (g : α → γ) (x6 : Int) (x7 : Int) (r0 : List Int) (next_ : Int × Int × (List Int) → α) (out0_ : List Int → α) (fail_ : α) : g (I.rowAt_step4 x6 x7 r0 next_ out0_ fail_) = I.rowAt_step4 x6 x7 r0 (fun s => g (next_ s)) (fun d => g (out0_ d)) (g fail_) := by
  unfold I.rowAt_step4; simp only [apply_cnd g, apply_optC g, apply_sumC g]
noncomputable def I.rowAt_run4 : Nat → Int × Int × (List Int) → Option (List Int)
  | 0, _ => none
  | n + 1, s_ => I.rowAt_step4 s_.1 s_.2.1 s_.2.2 (I.rowAt_run4 n) (fun d => some d) none
theorem I.rowAt_L4_run (n : Nat) (s_ : Int × Int × (List Int)) (k : X → St → R) : I.rowAt_L4 n { n := 27, t := [(5, (.own 0)), (6, (.int .i64 s_.1)), (7, (.int .i64 s_.2.1))], h := [.row (.ints .i64 s_.2.2)] } k = optC (I.rowAt_run4 n s_) (fun (r : List Int) => k (.exit 0) { n := 27, t := [(5, (.own 0))], h := [.row (.ints .i64 r)] }) none := by
  induction n generalizing s_ with
  | zero => rfl
  | succ n ih =>
    have hu : I.rowAt_L4 (n + 1) { n := 27, t := [(5, (.own 0)), (6, (.int .i64 s_.1)), (7, (.int .i64 s_.2.1))], h := [.row (.ints .i64 s_.2.2)] } k = I.rowAt_step4 s_.1 s_.2.1 s_.2.2 (fun s_ => I.rowAt_L4 n { n := 27, t := [(5, (.own 0)), (6, (.int .i64 s_.1)), (7, (.int .i64 s_.2.1))], h := [.row (.ints .i64 s_.2.2)] } k) (fun d => k (.exit 0) { n := 27, t := [(5, (.own 0))], h := [.row (.ints .i64 d)] }) none := by
      kernel_rfl
    have hs : (fun s_ : Int × Int × (List Int) => I.rowAt_L4 n { n := 27, t := [(5, (.own 0)), (6, (.int .i64 s_.1)), (7, (.int .i64 s_.2.1))], h := [.row (.ints .i64 s_.2.2)] } k) = fun s_ => optC (I.rowAt_run4 n s_) (fun (r : List Int) => k (.exit 0) { n := 27, t := [(5, (.own 0))], h := [.row (.ints .i64 r)] }) none := funext ih
    rw [hu, hs]
    exact (I.rowAt_step4_nat (fun o => optC o (fun (r : List Int) => k (.exit 0) { n := 27, t := [(5, (.own 0))], h := [.row (.ints .i64 r)] }) none) s_.1 s_.2.1 s_.2.2 (I.rowAt_run4 n) (fun d => some d) none).symm
noncomputable def I.rowAt_tree {α : Type} (net : List Int) (ahead : Int) (leaf0_ : List Int → α) (fail_ : α) : α :=
  (bif small (↑net.length : Int).toNat && true then (optC (I.rowAt_run4 FUEL (ahead, IntKind.i64.wrap ((↑net.length : Int) - 1), List.replicate (↑net.length : Int).toNat 0)) (fun qy_1 => (leaf0_ qy_1)) fail_) else fail_)
theorem I.rowAt_tree_nat {α γ : Type} (g : α → γ) (net : List Int) (ahead : Int) (leaf0_ : List Int → α) (fail_ : α) : g (I.rowAt_tree net ahead leaf0_ fail_) = I.rowAt_tree net ahead (fun d => g (leaf0_ d)) (g fail_) := by
  unfold I.rowAt_tree; simp only [apply_cnd g, apply_optC g, apply_sumC g]
noncomputable def I.rowAt_t (net : List Int) (ahead : Int) : Option (List Int) := I.rowAt_tree net ahead (fun d => some d) none
theorem I.rowAt_den (net : List Int) (ahead : Int) (κ : V → List E → R) : I.rowAt_F [.ro false (.ints .i64 net), .int .i64 ahead] [] κ = optC (I.rowAt_t net ahead) (fun (r : List Int) => κ (.own 0) [.row (.ints .i64 r)]) none := by
  have hu : I.rowAt_F [.ro false (.ints .i64 net), .int .i64 ahead] [] κ = I.rowAt_tree net ahead (fun d => κ (.own 0) [.row (.ints .i64 d)]) none := by
    refine Eq.trans (show I.rowAt_F [.ro false (.ints .i64 net), .int .i64 ahead] [] κ = (bif small (↑net.length : Int).toNat && true then (I.rowAt_L4 FUEL { n := 27, t := [(5, (.own 0)), (6, (.int .i64 ahead)), (7, (.int .i64 (IntKind.i64.wrap ((↑net.length : Int) - 1))))], h := [.row (.ints .i64 (List.replicate (↑net.length : Int).toNat 0))] } (I.rowAt_k4 κ)) else none) by kernel_rfl) ?_
    refine cnd_congr ?_ ?_
    · refine (I.rowAt_L4_run FUEL (ahead, IntKind.i64.wrap ((↑net.length : Int) - 1), List.replicate (↑net.length : Int).toNat 0) (I.rowAt_k4 κ)).trans (optC_congr (fun qy_1 => ?_))
      kernel_rfl
    · kernel_rfl
  rw [hu]
  exact (I.rowAt_tree_nat (fun o => optC o (fun (r : List Int) => κ (.own 0) [.row (.ints .i64 r)]) none) net ahead (fun d => some d) none).symm
noncomputable def I.rowAt_s : D.Spec where
  keep := false
  pure := false
  ds := [.int .i64, .invalid]
  sp := fun args h κ => match args, h with
    | [.ro false (.ints .i64 net), .int .i64 ahead], [] => optC (I.rowAt_t net ahead) (fun (r : List Int) => κ (.own 0) [.row (.ints .i64 r)]) none
    | _, _ => none
theorem I.rowAt_ok : SpecOk Try.prog 70 I.rowAt_s := by
  refine SpecOk.of TDok mixed (T := I.rowAt_T) ?_ (ann := I.rowAt_ann) Try.func70 rfl (by decide +kernel) ?_ ?_ ?_
  · intro p hp; cases hp
  · intro args h κ r hh
    simp only [I.rowAt_s] at hh
    split at hh
    · exact (I.rowAt_den _ _ κ).trans hh
    · cases hh
  · intro args h κ r hh
    simp only [I.rowAt_s] at hh ⊢
    split at hh
    · exact optC_law2 (F := fun (r : List Int) κ => κ (.own 0) [.row (.ints .i64 r)]) (fun b κ r hb => ⟨_, _, hb, fun _ => rfl⟩) hh
    · cases hh
  · intro hh; cases hh

-- loop.example/guardsonnets/impl.guardsOf
noncomputable def I.guardsOf_T : List (Nat × D.Spec) := []
def I.guardsOf_ann : Nat → List Nat × List Nat
  | 3 => ([0, 3, 4], [3])
  | _ => ([], [])
noncomputable def I.guardsOf_F (args : List V) (h : List E) (κ : V → List E → R) : R := funC TD (tableK I.guardsOf_T) I.guardsOf_ann (drawOk (tableP I.guardsOf_T)) FUEL Try.f66 args h κ
noncomputable def I.guardsOf_L3 (n : Nat) (σ : St) (k : X → St → R) : R := iterC 0 (fun σ k => denC TD (tableK I.guardsOf_T) I.guardsOf_ann (drawOk (tableP I.guardsOf_T)) 0 FUEL ((findLoop 3 (Try.f66.body.getD .skip)).getD .skip) σ k) [0, 3, 4] [3] n σ k
noncomputable def I.guardsOf_k3 (κ : V → List E → R) : X → St → R := (afterC TD (tableK I.guardsOf_T) I.guardsOf_ann (drawOk (tableP I.guardsOf_T)) 0 FUEL 3 (Try.f66.body.getD .skip) (finC TD 0 Try.f66 κ)).getD (fun _ _ => none)
noncomputable def I.guardsOf_step3 {α : Type} (x0 : List Int) (x3 : Int) (x4 : Int) (next_ : Int × Int → α) (out0_ : Int → α) (fail_ : α) : α :=
  (bif decide (x4 < (↑x0.length : Int)) then (bif decide (0 ≤ x4) && decide (x4 < (↑x0.length : Int)) then (next_ (IntKind.i64.wrap (x3 + eli x0 x4.toNat), IntKind.i64.wrap (x4 + 1))) else fail_) else (out0_ x3))
theorem I.guardsOf_step3_nat {α γ : Type} (g : α → γ) (x0 : List Int) (x3 : Int) (x4 : Int) (next_ : Int × Int → α) (out0_ : Int → α) (fail_ : α) : g (I.guardsOf_step3 x0 x3 x4 next_ out0_ fail_) = I.guardsOf_step3 x0 x3 x4 (fun s => g (next_ s)) (fun d => g (out0_ d)) (g fail_) := by
  unfold I.guardsOf_step3; simp only [apply_cnd g, apply_optC g, apply_sumC g]
noncomputable def I.guardsOf_run3 (x0 : List Int) : Nat → Int × Int → Option (Int)
  | 0, _ => none
  | n + 1, s_ => I.guardsOf_step3 x0 s_.1 s_.2 (I.guardsOf_run3 x0 n) (fun d => some d) none
theorem I.guardsOf_L3_run (x0 : List Int) (n : Nat) (s_ : Int × Int) (k : X → St → R) : I.guardsOf_L3 n { n := 18, t := [(0, (.ro false (.ints .i64 x0))), (3, (.int .i64 s_.1)), (4, (.int .i64 s_.2))], h := [] } k = optC (I.guardsOf_run3 x0 n s_) (fun (r : Int) => k (.exit 0) { n := 18, t := [(3, (.int .i64 r))], h := [] }) none := by
  induction n generalizing s_ with
  | zero => rfl
  | succ n ih =>
    have hu : I.guardsOf_L3 (n + 1) { n := 18, t := [(0, (.ro false (.ints .i64 x0))), (3, (.int .i64 s_.1)), (4, (.int .i64 s_.2))], h := [] } k = I.guardsOf_step3 x0 s_.1 s_.2 (fun s_ => I.guardsOf_L3 n { n := 18, t := [(0, (.ro false (.ints .i64 x0))), (3, (.int .i64 s_.1)), (4, (.int .i64 s_.2))], h := [] } k) (fun d => k (.exit 0) { n := 18, t := [(3, (.int .i64 d))], h := [] }) none := by
      kernel_rfl
    have hs : (fun s_ : Int × Int => I.guardsOf_L3 n { n := 18, t := [(0, (.ro false (.ints .i64 x0))), (3, (.int .i64 s_.1)), (4, (.int .i64 s_.2))], h := [] } k) = fun s_ => optC (I.guardsOf_run3 x0 n s_) (fun (r : Int) => k (.exit 0) { n := 18, t := [(3, (.int .i64 r))], h := [] }) none := funext ih
    rw [hu, hs]
    exact (I.guardsOf_step3_nat (fun o => optC o (fun (r : Int) => k (.exit 0) { n := 18, t := [(3, (.int .i64 r))], h := [] }) none) x0 s_.1 s_.2 (I.guardsOf_run3 x0 n) (fun d => some d) none).symm
noncomputable def I.guardsOf_tree {α : Type} (row : List Int) (leaf0_ : Int → α) (fail_ : α) : α :=
  (optC (I.guardsOf_run3 row FUEL (0, 0)) (fun qy_1 => (leaf0_ qy_1)) fail_)
theorem I.guardsOf_tree_nat {α γ : Type} (g : α → γ) (row : List Int) (leaf0_ : Int → α) (fail_ : α) : g (I.guardsOf_tree row leaf0_ fail_) = I.guardsOf_tree row (fun d => g (leaf0_ d)) (g fail_) := by
  unfold I.guardsOf_tree; simp only [apply_cnd g, apply_optC g, apply_sumC g]
noncomputable def I.guardsOf_t (row : List Int) : Option (Int) := I.guardsOf_tree row (fun d => some d) none
theorem I.guardsOf_den (row : List Int) (κ : V → List E → R) : I.guardsOf_F [.ro false (.ints .i64 row)] [] κ = optC (I.guardsOf_t row) (fun (r : Int) => κ (.int .i64 r) []) none := by
  have hu : I.guardsOf_F [.ro false (.ints .i64 row)] [] κ = I.guardsOf_tree row (fun d => κ (.int .i64 d) []) none := by
    refine Eq.trans (show I.guardsOf_F [.ro false (.ints .i64 row)] [] κ = (I.guardsOf_L3 FUEL { n := 18, t := [(0, (.ro false (.ints .i64 row))), (3, (.int .i64 0)), (4, (.int .i64 0))], h := [] } (I.guardsOf_k3 κ)) by kernel_rfl) ?_
    refine (I.guardsOf_L3_run row FUEL (0, 0) (I.guardsOf_k3 κ)).trans (optC_congr (fun qy_1 => ?_))
    kernel_rfl
  rw [hu]
  exact (I.guardsOf_tree_nat (fun o => optC o (fun (r : Int) => κ (.int .i64 r) []) none) row (fun d => some d) none).symm
noncomputable def I.guardsOf_s : D.Spec where
  keep := false
  pure := true
  ds := [.int .i64]
  sp := fun args h κ => match args, h with
    | [.ro false (.ints .i64 row)], [] => optC (I.guardsOf_t row) (fun (r : Int) => κ (.int .i64 r) []) none
    | _, _ => none
theorem I.guardsOf_ok : SpecOk Try.prog 66 I.guardsOf_s := by
  refine SpecOk.of TDok mixed (T := I.guardsOf_T) ?_ (ann := I.guardsOf_ann) Try.func66 rfl (by decide +kernel) ?_ ?_ ?_
  · intro p hp; cases hp
  · intro args h κ r hh
    simp only [I.guardsOf_s] at hh
    split at hh
    · exact (I.guardsOf_den _ κ).trans hh
    · cases hh
  · intro args h κ r hh
    simp only [I.guardsOf_s] at hh ⊢
    split at hh
    · exact optC_law2 (F := fun (r : Int) κ => κ (.int .i64 r) []) (fun b κ r hb => ⟨_, _, hb, fun _ => rfl⟩) hh
    · cases hh
  · intro _ args h κ r hh
    simp only [I.guardsOf_s] at hh
    split at hh
    · exact ⟨rfl, fun _ => rfl⟩
    · cases hh

-- loop.example/guardsonnets/impl.romanRowIn
noncomputable def I.romanRowIn_T : List (Nat × D.Spec) := [(69, I.rowsOf_s), (70, I.rowAt_s), (66, I.guardsOf_s), (50, I.romanIn_s)]
def I.romanRowIn_ann : Nat → List Nat × List Nat
  | 4 => ([0, 3, 4, 5], [4])
  | _ => ([], [])
noncomputable def I.romanRowIn_F (args : List V) (h : List E) (κ : V → List E → R) : R := funC TD (tableK I.romanRowIn_T) I.romanRowIn_ann (drawOk (tableP I.romanRowIn_T)) FUEL Try.f59 args h κ
noncomputable def I.romanRowIn_L4 (n : Nat) (σ : St) (k : X → St → R) : R := iterC 0 (fun σ k => denC TD (tableK I.romanRowIn_T) I.romanRowIn_ann (drawOk (tableP I.romanRowIn_T)) 0 FUEL ((findLoop 4 (Try.f59.body.getD .skip)).getD .skip) σ k) [0, 3, 4, 5] [4] n σ k
noncomputable def I.romanRowIn_k4 (κ : V → List E → R) : X → St → R := (afterC TD (tableK I.romanRowIn_T) I.romanRowIn_ann (drawOk (tableP I.romanRowIn_T)) 0 FUEL 4 (Try.f59.body.getD .skip) (finC TD 0 Try.f59 κ)).getD (fun _ _ => none)
noncomputable def I.romanRowIn_step4 {α : Type} (x0 : List Int) (x3 : Int) (x5 : Int) (r0 : List Int) (next_ : Int × (List Int) → α) (out0_ : List Int → α) (fail_ : α) : α :=
  (bif decide (x5 < x3) then (optC (I.rowAt_t x0 x5) (fun c_3 => (optC (I.guardsOf_t c_3) (fun c_4 => (optC (I.guardsOf_t r0) (fun c_5 => (bif decide (c_4 < c_5) then (optC (I.romanIn_t x0 c_3) (fun c_6 => (bif c_6 then (next_ (IntKind.i64.wrap (x5 + 1), c_3)) else (next_ (IntKind.i64.wrap (x5 + 1), r0)))) fail_) else (next_ (IntKind.i64.wrap (x5 + 1), r0)))) fail_)) fail_)) fail_) else (out0_ r0))
theorem I.romanRowIn_step4_nat {α γ : Type} (g : α → γ) (x0 : List Int) (x3 : Int) (x5 : Int) (r0 : List Int) (next_ : Int × (List Int) → α) (out0_ : List Int → α) (fail_ : α) : g (I.romanRowIn_step4 x0 x3 x5 r0 next_ out0_ fail_) = I.romanRowIn_step4 x0 x3 x5 r0 (fun s => g (next_ s)) (fun d => g (out0_ d)) (g fail_) := by
  unfold I.romanRowIn_step4; simp only [apply_cnd g, apply_optC g, apply_sumC g]
noncomputable def I.romanRowIn_run4 (x0 : List Int) (x3 : Int) : Nat → Int × (List Int) → Option (List Int)
  | 0, _ => none
  | n + 1, s_ => I.romanRowIn_step4 x0 x3 s_.1 s_.2 (I.romanRowIn_run4 x0 x3 n) (fun d => some d) none
theorem I.romanRowIn_L4_run (x0 : List Int) (x3 : Int) (n : Nat) (s_ : Int × (List Int)) (k : X → St → R) : I.romanRowIn_L4 n { n := 33, t := [(0, (.ro false (.ints .i64 x0))), (3, (.int .i64 x3)), (4, (.own 0)), (5, (.int .i64 s_.1))], h := [.row (.ints .i64 s_.2)] } k = optC (I.romanRowIn_run4 x0 x3 n s_) (fun (r : List Int) => k (.exit 0) { n := 33, t := [(4, (.own 0))], h := [.row (.ints .i64 r)] }) none := by
  induction n generalizing s_ with
  | zero => rfl
  | succ n ih =>
    have hu : I.romanRowIn_L4 (n + 1) { n := 33, t := [(0, (.ro false (.ints .i64 x0))), (3, (.int .i64 x3)), (4, (.own 0)), (5, (.int .i64 s_.1))], h := [.row (.ints .i64 s_.2)] } k = I.romanRowIn_step4 x0 x3 s_.1 s_.2 (fun s_ => I.romanRowIn_L4 n { n := 33, t := [(0, (.ro false (.ints .i64 x0))), (3, (.int .i64 x3)), (4, (.own 0)), (5, (.int .i64 s_.1))], h := [.row (.ints .i64 s_.2)] } k) (fun d => k (.exit 0) { n := 33, t := [(4, (.own 0))], h := [.row (.ints .i64 d)] }) none := by
      kernel_rfl
    have hs : (fun s_ : Int × (List Int) => I.romanRowIn_L4 n { n := 33, t := [(0, (.ro false (.ints .i64 x0))), (3, (.int .i64 x3)), (4, (.own 0)), (5, (.int .i64 s_.1))], h := [.row (.ints .i64 s_.2)] } k) = fun s_ => optC (I.romanRowIn_run4 x0 x3 n s_) (fun (r : List Int) => k (.exit 0) { n := 33, t := [(4, (.own 0))], h := [.row (.ints .i64 r)] }) none := funext ih
    rw [hu, hs]
    exact (I.romanRowIn_step4_nat (fun o => optC o (fun (r : List Int) => k (.exit 0) { n := 33, t := [(4, (.own 0))], h := [.row (.ints .i64 r)] }) none) x0 x3 s_.1 s_.2 (I.romanRowIn_run4 x0 x3 n) (fun d => some d) none).symm
noncomputable def I.romanRowIn_tree {α : Type} (net : List Int) (leaf0_ : List Int → α) (fail_ : α) : α :=
  (optC (I.rowsOf_t net) (fun c_1 => (optC (I.rowAt_t net (IntKind.i64.wrap (c_1 - 1))) (fun c_2 => (optC (I.romanRowIn_run4 net (IntKind.i64.wrap (c_1 - 1)) FUEL (0, c_2)) (fun qy_7 => (leaf0_ qy_7)) fail_)) fail_)) fail_)
theorem I.romanRowIn_tree_nat {α γ : Type} (g : α → γ) (net : List Int) (leaf0_ : List Int → α) (fail_ : α) : g (I.romanRowIn_tree net leaf0_ fail_) = I.romanRowIn_tree net (fun d => g (leaf0_ d)) (g fail_) := by
  unfold I.romanRowIn_tree; simp only [apply_cnd g, apply_optC g, apply_sumC g]
noncomputable def I.romanRowIn_t (net : List Int) : Option (List Int) := I.romanRowIn_tree net (fun d => some d) none
theorem I.romanRowIn_den (net : List Int) (κ : V → List E → R) : I.romanRowIn_F [.ro false (.ints .i64 net)] [] κ = optC (I.romanRowIn_t net) (fun (r : List Int) => κ (.own 0) [.row (.ints .i64 r)]) none := by
  have hu : I.romanRowIn_F [.ro false (.ints .i64 net)] [] κ = I.romanRowIn_tree net (fun d => κ (.own 0) [.row (.ints .i64 d)]) none := by
    refine Eq.trans (show I.romanRowIn_F [.ro false (.ints .i64 net)] [] κ = (optC (I.rowsOf_t net) (fun c_1 => (optC (I.rowAt_t net (IntKind.i64.wrap (c_1 - 1))) (fun c_2 => (I.romanRowIn_L4 FUEL { n := 33, t := [(0, (.ro false (.ints .i64 net))), (3, (.int .i64 (IntKind.i64.wrap (c_1 - 1)))), (4, (.own 0)), (5, (.int .i64 0))], h := [.row (.ints .i64 c_2)] } (I.romanRowIn_k4 κ))) none)) none) by kernel_rfl) ?_
    refine optC_congr (fun c_1 => ?_)
    refine optC_congr (fun c_2 => ?_)
    refine (I.romanRowIn_L4_run net (IntKind.i64.wrap (c_1 - 1)) FUEL (0, c_2) (I.romanRowIn_k4 κ)).trans (optC_congr (fun qy_7 => ?_))
    kernel_rfl
  rw [hu]
  exact (I.romanRowIn_tree_nat (fun o => optC o (fun (r : List Int) => κ (.own 0) [.row (.ints .i64 r)]) none) net (fun d => some d) none).symm
noncomputable def I.romanRowIn_s : D.Spec where
  keep := false
  pure := false
  ds := [.int .i64]
  sp := fun args h κ => match args, h with
    | [.ro false (.ints .i64 net)], [] => optC (I.romanRowIn_t net) (fun (r : List Int) => κ (.own 0) [.row (.ints .i64 r)]) none
    | _, _ => none
theorem I.romanRowIn_ok : SpecOk Try.prog 59 I.romanRowIn_s := by
  refine SpecOk.of TDok mixed (T := I.romanRowIn_T) ?_ (ann := I.romanRowIn_ann) Try.func59 rfl (by decide +kernel) ?_ ?_ ?_
  · intro p hp
    simp only [I.romanRowIn_T, List.mem_cons, List.not_mem_nil, or_false] at hp
    rcases hp with rfl | rfl | rfl | rfl
    · exact I.rowsOf_ok
    · exact I.rowAt_ok
    · exact I.guardsOf_ok
    · exact I.romanIn_ok
  · intro args h κ r hh
    simp only [I.romanRowIn_s] at hh
    split at hh
    · exact (I.romanRowIn_den _ κ).trans hh
    · cases hh
  · intro args h κ r hh
    simp only [I.romanRowIn_s] at hh ⊢
    split at hh
    · exact optC_law2 (F := fun (r : List Int) κ => κ (.own 0) [.row (.ints .i64 r)]) (fun b κ r hb => ⟨_, _, hb, fun _ => rfl⟩) hh
    · cases hh
  · intro hh; cases hh

-- loop.example/guardsonnets/impl.RomanRow
noncomputable def I.RomanRow_T : List (Nat × D.Spec) := [(31, I.NetOk_s), (59, I.romanRowIn_s)]
def I.RomanRow_ann : Nat → List Nat × List Nat
  | _ => ([], [])
noncomputable def I.RomanRow_F (args : List V) (h : List E) (κ : V → List E → R) : R := funC TD (tableK I.RomanRow_T) I.RomanRow_ann (drawOk (tableP I.RomanRow_T)) FUEL Try.f28 args h κ
noncomputable def I.RomanRow_tree {α : Type} (net : List Int) (leaf0_ : List Int → α) (fail_ : α) : α :=
  (optC (I.NetOk_t net) (fun c_1 => (bif !c_1 then (leaf0_ ([])) else (optC (I.romanRowIn_t net) (fun c_2 => (leaf0_ c_2)) fail_))) fail_)
theorem I.RomanRow_tree_nat {α γ : Type} (g : α → γ) (net : List Int) (leaf0_ : List Int → α) (fail_ : α) : g (I.RomanRow_tree net leaf0_ fail_) = I.RomanRow_tree net (fun d => g (leaf0_ d)) (g fail_) := by
  unfold I.RomanRow_tree; simp only [apply_cnd g, apply_optC g, apply_sumC g]
noncomputable def I.RomanRow_t (net : List Int) : Option (List Int) := I.RomanRow_tree net (fun d => some d) none
theorem I.RomanRow_den (net : List Int) (κ : V → List E → R) : I.RomanRow_F [.ro false (.ints .i64 net)] [] κ = optC (I.RomanRow_t net) (fun (r : List Int) => κ (.own 0) [.row (.ints .i64 r)]) none := by
  have hu : I.RomanRow_F [.ro false (.ints .i64 net)] [] κ = I.RomanRow_tree net (fun d => κ (.own 0) [.row (.ints .i64 d)]) none := by
    kernel_rfl
  rw [hu]
  exact (I.RomanRow_tree_nat (fun o => optC o (fun (r : List Int) => κ (.own 0) [.row (.ints .i64 r)]) none) net (fun d => some d) none).symm
noncomputable def I.RomanRow_s : D.Spec where
  keep := false
  pure := false
  ds := [.int .i64]
  sp := fun args h κ => match args, h with
    | [.ro false (.ints .i64 net)], [] => optC (I.RomanRow_t net) (fun (r : List Int) => κ (.own 0) [.row (.ints .i64 r)]) none
    | _, _ => none
theorem I.RomanRow_ok : SpecOk Try.prog 28 I.RomanRow_s := by
  refine SpecOk.of TDok mixed (T := I.RomanRow_T) ?_ (ann := I.RomanRow_ann) Try.func28 rfl (by decide +kernel) ?_ ?_ ?_
  · intro p hp
    simp only [I.RomanRow_T, List.mem_cons, List.not_mem_nil, or_false] at hp
    rcases hp with rfl | rfl
    · exact I.NetOk_ok
    · exact I.romanRowIn_ok
  · intro args h κ r hh
    simp only [I.RomanRow_s] at hh
    split at hh
    · exact (I.RomanRow_den _ κ).trans hh
    · cases hh
  · intro args h κ r hh
    simp only [I.RomanRow_s] at hh ⊢
    split at hh
    · exact optC_law2 (F := fun (r : List Int) κ => κ (.own 0) [.row (.ints .i64 r)]) (fun b κ r hb => ⟨_, _, hb, fun _ => rfl⟩) hh
    · cases hh
  · intro hh; cases hh

-- loop.example/guardsonnets/spec.l7Rows
noncomputable def S.l7Rows_T : List (Nat × D.Spec) := []
def S.l7Rows_ann : Nat → List Nat × List Nat
  | 3 => ([0, 3, 4], [3])
  | _ => ([], [])
noncomputable def S.l7Rows_F (args : List V) (h : List E) (κ : V → List E → R) : R := funC TD (tableK S.l7Rows_T) S.l7Rows_ann (drawOk (tableP S.l7Rows_T)) FUEL Try.f61 args h κ
noncomputable def S.l7Rows_L3 (n : Nat) (σ : St) (k : X → St → R) : R := iterC 0 (fun σ k => denC TD (tableK S.l7Rows_T) S.l7Rows_ann (drawOk (tableP S.l7Rows_T)) 0 FUEL ((findLoop 3 (Try.f61.body.getD .skip)).getD .skip) σ k) [0, 3, 4] [3] n σ k
noncomputable def S.l7Rows_k3 (κ : V → List E → R) : X → St → R := (afterC TD (tableK S.l7Rows_T) S.l7Rows_ann (drawOk (tableP S.l7Rows_T)) 0 FUEL 3 (Try.f61.body.getD .skip) (finC TD 0 Try.f61 κ)).getD (fun _ _ => none)
noncomputable def S.l7Rows_step3 {α : Type} (x0 : Int) (x3 : Int) (x4 : Int) (next_ : Int × Int → α) (out0_ : Int → α) (fail_ : α) : α :=
  (bif decide (x4 < x0) then (next_ (IntKind.i64.wrap (x3 * 3), IntKind.i64.wrap (x4 + 1))) else (out0_ x3))
theorem S.l7Rows_step3_nat {α γ : Type} (g : α → γ) (x0 : Int) (x3 : Int) (x4 : Int) (next_ : Int × Int → α) (out0_ : Int → α) (fail_ : α) : g (S.l7Rows_step3 x0 x3 x4 next_ out0_ fail_) = S.l7Rows_step3 x0 x3 x4 (fun s => g (next_ s)) (fun d => g (out0_ d)) (g fail_) := by
  unfold S.l7Rows_step3; simp only [apply_cnd g, apply_optC g, apply_sumC g]
noncomputable def S.l7Rows_run3 (x0 : Int) : Nat → Int × Int → Option (Int)
  | 0, _ => none
  | n + 1, s_ => S.l7Rows_step3 x0 s_.1 s_.2 (S.l7Rows_run3 x0 n) (fun d => some d) none
theorem S.l7Rows_L3_run (x0 : Int) (n : Nat) (s_ : Int × Int) (k : X → St → R) : S.l7Rows_L3 n { n := 13, t := [(0, (.int .i64 x0)), (3, (.int .i64 s_.1)), (4, (.int .i64 s_.2))], h := [] } k = optC (S.l7Rows_run3 x0 n s_) (fun (r : Int) => k (.exit 0) { n := 13, t := [(3, (.int .i64 r))], h := [] }) none := by
  induction n generalizing s_ with
  | zero => rfl
  | succ n ih =>
    have hu : S.l7Rows_L3 (n + 1) { n := 13, t := [(0, (.int .i64 x0)), (3, (.int .i64 s_.1)), (4, (.int .i64 s_.2))], h := [] } k = S.l7Rows_step3 x0 s_.1 s_.2 (fun s_ => S.l7Rows_L3 n { n := 13, t := [(0, (.int .i64 x0)), (3, (.int .i64 s_.1)), (4, (.int .i64 s_.2))], h := [] } k) (fun d => k (.exit 0) { n := 13, t := [(3, (.int .i64 d))], h := [] }) none := by
      kernel_rfl
    have hs : (fun s_ : Int × Int => S.l7Rows_L3 n { n := 13, t := [(0, (.int .i64 x0)), (3, (.int .i64 s_.1)), (4, (.int .i64 s_.2))], h := [] } k) = fun s_ => optC (S.l7Rows_run3 x0 n s_) (fun (r : Int) => k (.exit 0) { n := 13, t := [(3, (.int .i64 r))], h := [] }) none := funext ih
    rw [hu, hs]
    exact (S.l7Rows_step3_nat (fun o => optC o (fun (r : Int) => k (.exit 0) { n := 13, t := [(3, (.int .i64 r))], h := [] }) none) x0 s_.1 s_.2 (S.l7Rows_run3 x0 n) (fun d => some d) none).symm
noncomputable def S.l7Rows_tree {α : Type} (places : Int) (leaf0_ : Int → α) (fail_ : α) : α :=
  (optC (S.l7Rows_run3 places FUEL (1, 0)) (fun qy_1 => (leaf0_ qy_1)) fail_)
theorem S.l7Rows_tree_nat {α γ : Type} (g : α → γ) (places : Int) (leaf0_ : Int → α) (fail_ : α) : g (S.l7Rows_tree places leaf0_ fail_) = S.l7Rows_tree places (fun d => g (leaf0_ d)) (g fail_) := by
  unfold S.l7Rows_tree; simp only [apply_cnd g, apply_optC g, apply_sumC g]
noncomputable def S.l7Rows_t (places : Int) : Option (Int) := S.l7Rows_tree places (fun d => some d) none
theorem S.l7Rows_den (places : Int) (κ : V → List E → R) : S.l7Rows_F [.int .i64 places] [] κ = optC (S.l7Rows_t places) (fun (r : Int) => κ (.int .i64 r) []) none := by
  have hu : S.l7Rows_F [.int .i64 places] [] κ = S.l7Rows_tree places (fun d => κ (.int .i64 d) []) none := by
    refine Eq.trans (show S.l7Rows_F [.int .i64 places] [] κ = (S.l7Rows_L3 FUEL { n := 13, t := [(0, (.int .i64 places)), (3, (.int .i64 1)), (4, (.int .i64 0))], h := [] } (S.l7Rows_k3 κ)) by kernel_rfl) ?_
    refine (S.l7Rows_L3_run places FUEL (1, 0) (S.l7Rows_k3 κ)).trans (optC_congr (fun qy_1 => ?_))
    kernel_rfl
  rw [hu]
  exact (S.l7Rows_tree_nat (fun o => optC o (fun (r : Int) => κ (.int .i64 r) []) none) places (fun d => some d) none).symm
noncomputable def S.l7Rows_s : D.Spec where
  keep := false
  pure := true
  ds := [.invalid]
  sp := fun args h κ => match args, h with
    | [.int .i64 places], [] => optC (S.l7Rows_t places) (fun (r : Int) => κ (.int .i64 r) []) none
    | _, _ => none
theorem S.l7Rows_ok : SpecOk Try.prog 61 S.l7Rows_s := by
  refine SpecOk.of TDok mixed (T := S.l7Rows_T) ?_ (ann := S.l7Rows_ann) Try.func61 rfl (by decide +kernel) ?_ ?_ ?_
  · intro p hp; cases hp
  · intro args h κ r hh
    simp only [S.l7Rows_s] at hh
    split at hh
    · exact (S.l7Rows_den _ κ).trans hh
    · cases hh
  · intro args h κ r hh
    simp only [S.l7Rows_s] at hh ⊢
    split at hh
    · exact optC_law2 (F := fun (r : Int) κ => κ (.int .i64 r) []) (fun b κ r hb => ⟨_, _, hb, fun _ => rfl⟩) hh
    · cases hh
  · intro _ args h κ r hh
    simp only [S.l7Rows_s] at hh
    split at hh
    · exact ⟨rfl, fun _ => rfl⟩
    · cases hh

-- loop.example/guardsonnets/spec.l7Of
noncomputable def S.l7Of_T : List (Nat × D.Spec) := []
def S.l7Of_ann : Nat → List Nat × List Nat
  | 3 => ([1, 5, 6], [5])
  | _ => ([], [])
noncomputable def S.l7Of_F (args : List V) (h : List E) (κ : V → List E → R) : R := funC TD (tableK S.l7Of_T) S.l7Of_ann (drawOk (tableP S.l7Of_T)) FUEL Try.f62 args h κ
noncomputable def S.l7Of_L3 (n : Nat) (σ : St) (k : X → St → R) : R := iterC 0 (fun σ k => denC TD (tableK S.l7Of_T) S.l7Of_ann (drawOk (tableP S.l7Of_T)) 0 FUEL ((findLoop 3 (Try.f62.body.getD .skip)).getD .skip) σ k) [1, 5, 6] [5] n σ k
noncomputable def S.l7Of_k3 (κ : V → List E → R) : X → St → R := (afterC TD (tableK S.l7Of_T) S.l7Of_ann (drawOk (tableP S.l7Of_T)) 0 FUEL 3 (Try.f62.body.getD .skip) (finC TD 0 Try.f62 κ)).getD (fun _ _ => none)
noncomputable def S.l7Of_step3 {α : Type} (x1 : Int) (x6 : Int) (r0 : List Int) (next_ : Int × Int × (List Int) → α) (out0_ : List Int → α) (fail_ : α) : α :=
  (bif decide (x6 ≥ 0) then (bif decide (0 ≤ x6) && decide (x6 < (↑r0.length : Int)) then (bif decide (x6.toNat < r0.length) then (next_ (IntKind.i64.wrap (x1.tdiv 3), IntKind.i64.wrap (x6 - 1), r0.set x6.toNat (x1.tmod 3))) else fail_) else fail_) else (out0_ r0))
theorem S.l7Of_step3_nat {α γ : Type} (g : α → γ) (x1 : Int) (x6 : Int) (r0 : List Int) (next_ : Int × Int × (List Int) → α) (out0_ : List Int → α) (fail_ : α) : g (S.l7Of_step3 x1 x6 r0 next_ out0_ fail_) = S.l7Of_step3 x1 x6 r0 (fun s => g (next_ s)) (fun d => g (out0_ d)) (g fail_) := by
  unfold S.l7Of_step3; simp only [apply_cnd g, apply_optC g, apply_sumC g]
noncomputable def S.l7Of_run3 : Nat → Int × Int × (List Int) → Option (List Int)
  | 0, _ => none
  | n + 1, s_ => S.l7Of_step3 s_.1 s_.2.1 s_.2.2 (S.l7Of_run3 n) (fun d => some d) none
theorem S.l7Of_L3_run (n : Nat) (s_ : Int × Int × (List Int)) (k : X → St → R) : S.l7Of_L3 n { n := 23, t := [(1, (.int .i64 s_.1)), (5, (.own 0)), (6, (.int .i64 s_.2.1))], h := [.row (.ints .i64 s_.2.2)] } k = optC (S.l7Of_run3 n s_) (fun (r : List Int) => k (.exit 0) { n := 23, t := [(5, (.own 0))], h := [.row (.ints .i64 r)] }) none := by
  induction n generalizing s_ with
  | zero => rfl
  | succ n ih =>
    have hu : S.l7Of_L3 (n + 1) { n := 23, t := [(1, (.int .i64 s_.1)), (5, (.own 0)), (6, (.int .i64 s_.2.1))], h := [.row (.ints .i64 s_.2.2)] } k = S.l7Of_step3 s_.1 s_.2.1 s_.2.2 (fun s_ => S.l7Of_L3 n { n := 23, t := [(1, (.int .i64 s_.1)), (5, (.own 0)), (6, (.int .i64 s_.2.1))], h := [.row (.ints .i64 s_.2.2)] } k) (fun d => k (.exit 0) { n := 23, t := [(5, (.own 0))], h := [.row (.ints .i64 d)] }) none := by
      kernel_rfl
    have hs : (fun s_ : Int × Int × (List Int) => S.l7Of_L3 n { n := 23, t := [(1, (.int .i64 s_.1)), (5, (.own 0)), (6, (.int .i64 s_.2.1))], h := [.row (.ints .i64 s_.2.2)] } k) = fun s_ => optC (S.l7Of_run3 n s_) (fun (r : List Int) => k (.exit 0) { n := 23, t := [(5, (.own 0))], h := [.row (.ints .i64 r)] }) none := funext ih
    rw [hu, hs]
    exact (S.l7Of_step3_nat (fun o => optC o (fun (r : List Int) => k (.exit 0) { n := 23, t := [(5, (.own 0))], h := [.row (.ints .i64 r)] }) none) s_.1 s_.2.1 s_.2.2 (S.l7Of_run3 n) (fun d => some d) none).symm
noncomputable def S.l7Of_tree {α : Type} (places : Int) (n_ : Int) (leaf0_ : List Int → α) (fail_ : α) : α :=
  (bif decide (0 ≤ places) && small places.toNat && true then (optC (S.l7Of_run3 FUEL (n_, IntKind.i64.wrap (places - 1), List.replicate places.toNat 0)) (fun qy_1 => (leaf0_ qy_1)) fail_) else fail_)
theorem S.l7Of_tree_nat {α γ : Type} (g : α → γ) (places : Int) (n_ : Int) (leaf0_ : List Int → α) (fail_ : α) : g (S.l7Of_tree places n_ leaf0_ fail_) = S.l7Of_tree places n_ (fun d => g (leaf0_ d)) (g fail_) := by
  unfold S.l7Of_tree; simp only [apply_cnd g, apply_optC g, apply_sumC g]
noncomputable def S.l7Of_t (places : Int) (n_ : Int) : Option (List Int) := S.l7Of_tree places n_ (fun d => some d) none
theorem S.l7Of_den (places : Int) (n_ : Int) (κ : V → List E → R) : S.l7Of_F [.int .i64 places, .int .i64 n_] [] κ = optC (S.l7Of_t places n_) (fun (r : List Int) => κ (.own 0) [.row (.ints .i64 r)]) none := by
  have hu : S.l7Of_F [.int .i64 places, .int .i64 n_] [] κ = S.l7Of_tree places n_ (fun d => κ (.own 0) [.row (.ints .i64 d)]) none := by
    refine Eq.trans (show S.l7Of_F [.int .i64 places, .int .i64 n_] [] κ = (bif decide (0 ≤ places) && small places.toNat && true then (S.l7Of_L3 FUEL { n := 23, t := [(1, (.int .i64 n_)), (5, (.own 0)), (6, (.int .i64 (IntKind.i64.wrap (places - 1))))], h := [.row (.ints .i64 (List.replicate places.toNat 0))] } (S.l7Of_k3 κ)) else none) by kernel_rfl) ?_
    refine cnd_congr ?_ ?_
    · refine (S.l7Of_L3_run FUEL (n_, IntKind.i64.wrap (places - 1), List.replicate places.toNat 0) (S.l7Of_k3 κ)).trans (optC_congr (fun qy_1 => ?_))
      kernel_rfl
    · kernel_rfl
  rw [hu]
  exact (S.l7Of_tree_nat (fun o => optC o (fun (r : List Int) => κ (.own 0) [.row (.ints .i64 r)]) none) places n_ (fun d => some d) none).symm
noncomputable def S.l7Of_s : D.Spec where
  keep := false
  pure := false
  ds := [.invalid, .invalid]
  sp := fun args h κ => match args, h with
    | [.int .i64 places, .int .i64 n_], [] => optC (S.l7Of_t places n_) (fun (r : List Int) => κ (.own 0) [.row (.ints .i64 r)]) none
    | _, _ => none
theorem S.l7Of_ok : SpecOk Try.prog 62 S.l7Of_s := by
  refine SpecOk.of TDok mixed (T := S.l7Of_T) ?_ (ann := S.l7Of_ann) Try.func62 rfl (by decide +kernel) ?_ ?_ ?_
  · intro p hp; cases hp
  · intro args h κ r hh
    simp only [S.l7Of_s] at hh
    split at hh
    · exact (S.l7Of_den _ _ κ).trans hh
    · cases hh
  · intro args h κ r hh
    simp only [S.l7Of_s] at hh ⊢
    split at hh
    · exact optC_law2 (F := fun (r : List Int) κ => κ (.own 0) [.row (.ints .i64 r)]) (fun b κ r hb => ⟨_, _, hb, fun _ => rfl⟩) hh
    · cases hh
  · intro hh; cases hh

-- loop.example/guardsonnets/spec.l7Sum
noncomputable def S.l7Sum_T : List (Nat × D.Spec) := []
def S.l7Sum_ann : Nat → List Nat × List Nat
  | 3 => ([0, 3, 4], [3])
  | _ => ([], [])
noncomputable def S.l7Sum_F (args : List V) (h : List E) (κ : V → List E → R) : R := funC TD (tableK S.l7Sum_T) S.l7Sum_ann (drawOk (tableP S.l7Sum_T)) FUEL Try.f63 args h κ
noncomputable def S.l7Sum_L3 (n : Nat) (σ : St) (k : X → St → R) : R := iterC 0 (fun σ k => denC TD (tableK S.l7Sum_T) S.l7Sum_ann (drawOk (tableP S.l7Sum_T)) 0 FUEL ((findLoop 3 (Try.f63.body.getD .skip)).getD .skip) σ k) [0, 3, 4] [3] n σ k
noncomputable def S.l7Sum_k3 (κ : V → List E → R) : X → St → R := (afterC TD (tableK S.l7Sum_T) S.l7Sum_ann (drawOk (tableP S.l7Sum_T)) 0 FUEL 3 (Try.f63.body.getD .skip) (finC TD 0 Try.f63 κ)).getD (fun _ _ => none)
noncomputable def S.l7Sum_step3 {α : Type} (x0 : List Int) (x3 : Int) (x4 : Int) (next_ : Int × Int → α) (out0_ : Int → α) (fail_ : α) : α :=
  (bif decide (x4 < (↑x0.length : Int)) then (bif decide (0 ≤ x4) && decide (x4 < (↑x0.length : Int)) then (next_ (IntKind.i64.wrap (x3 + eli x0 x4.toNat), IntKind.i64.wrap (x4 + 1))) else fail_) else (out0_ x3))
theorem S.l7Sum_step3_nat {α γ : Type} (g : α → γ) (x0 : List Int) (x3 : Int) (x4 : Int) (next_ : Int × Int → α) (out0_ : Int → α) (fail_ : α) : g (S.l7Sum_step3 x0 x3 x4 next_ out0_ fail_) = S.l7Sum_step3 x0 x3 x4 (fun s => g (next_ s)) (fun d => g (out0_ d)) (g fail_) := by
  unfold S.l7Sum_step3; simp only [apply_cnd g, apply_optC g, apply_sumC g]
noncomputable def S.l7Sum_run3 (x0 : List Int) : Nat → Int × Int → Option (Int)
  | 0, _ => none
  | n + 1, s_ => S.l7Sum_step3 x0 s_.1 s_.2 (S.l7Sum_run3 x0 n) (fun d => some d) none
theorem S.l7Sum_L3_run (x0 : List Int) (n : Nat) (s_ : Int × Int) (k : X → St → R) : S.l7Sum_L3 n { n := 18, t := [(0, (.ro false (.ints .i64 x0))), (3, (.int .i64 s_.1)), (4, (.int .i64 s_.2))], h := [] } k = optC (S.l7Sum_run3 x0 n s_) (fun (r : Int) => k (.exit 0) { n := 18, t := [(3, (.int .i64 r))], h := [] }) none := by
  induction n generalizing s_ with
  | zero => rfl
  | succ n ih =>
    have hu : S.l7Sum_L3 (n + 1) { n := 18, t := [(0, (.ro false (.ints .i64 x0))), (3, (.int .i64 s_.1)), (4, (.int .i64 s_.2))], h := [] } k = S.l7Sum_step3 x0 s_.1 s_.2 (fun s_ => S.l7Sum_L3 n { n := 18, t := [(0, (.ro false (.ints .i64 x0))), (3, (.int .i64 s_.1)), (4, (.int .i64 s_.2))], h := [] } k) (fun d => k (.exit 0) { n := 18, t := [(3, (.int .i64 d))], h := [] }) none := by
      kernel_rfl
    have hs : (fun s_ : Int × Int => S.l7Sum_L3 n { n := 18, t := [(0, (.ro false (.ints .i64 x0))), (3, (.int .i64 s_.1)), (4, (.int .i64 s_.2))], h := [] } k) = fun s_ => optC (S.l7Sum_run3 x0 n s_) (fun (r : Int) => k (.exit 0) { n := 18, t := [(3, (.int .i64 r))], h := [] }) none := funext ih
    rw [hu, hs]
    exact (S.l7Sum_step3_nat (fun o => optC o (fun (r : Int) => k (.exit 0) { n := 18, t := [(3, (.int .i64 r))], h := [] }) none) x0 s_.1 s_.2 (S.l7Sum_run3 x0 n) (fun d => some d) none).symm
noncomputable def S.l7Sum_tree {α : Type} (row : List Int) (leaf0_ : Int → α) (fail_ : α) : α :=
  (optC (S.l7Sum_run3 row FUEL (0, 0)) (fun qy_1 => (leaf0_ qy_1)) fail_)
theorem S.l7Sum_tree_nat {α γ : Type} (g : α → γ) (row : List Int) (leaf0_ : Int → α) (fail_ : α) : g (S.l7Sum_tree row leaf0_ fail_) = S.l7Sum_tree row (fun d => g (leaf0_ d)) (g fail_) := by
  unfold S.l7Sum_tree; simp only [apply_cnd g, apply_optC g, apply_sumC g]
noncomputable def S.l7Sum_t (row : List Int) : Option (Int) := S.l7Sum_tree row (fun d => some d) none
theorem S.l7Sum_den (row : List Int) (κ : V → List E → R) : S.l7Sum_F [.ro false (.ints .i64 row)] [] κ = optC (S.l7Sum_t row) (fun (r : Int) => κ (.int .i64 r) []) none := by
  have hu : S.l7Sum_F [.ro false (.ints .i64 row)] [] κ = S.l7Sum_tree row (fun d => κ (.int .i64 d) []) none := by
    refine Eq.trans (show S.l7Sum_F [.ro false (.ints .i64 row)] [] κ = (S.l7Sum_L3 FUEL { n := 18, t := [(0, (.ro false (.ints .i64 row))), (3, (.int .i64 0)), (4, (.int .i64 0))], h := [] } (S.l7Sum_k3 κ)) by kernel_rfl) ?_
    refine (S.l7Sum_L3_run row FUEL (0, 0) (S.l7Sum_k3 κ)).trans (optC_congr (fun qy_1 => ?_))
    kernel_rfl
  rw [hu]
  exact (S.l7Sum_tree_nat (fun o => optC o (fun (r : Int) => κ (.int .i64 r) []) none) row (fun d => some d) none).symm
noncomputable def S.l7Sum_s : D.Spec where
  keep := false
  pure := true
  ds := [.int .i64]
  sp := fun args h κ => match args, h with
    | [.ro false (.ints .i64 row)], [] => optC (S.l7Sum_t row) (fun (r : Int) => κ (.int .i64 r) []) none
    | _, _ => none
theorem S.l7Sum_ok : SpecOk Try.prog 63 S.l7Sum_s := by
  refine SpecOk.of TDok mixed (T := S.l7Sum_T) ?_ (ann := S.l7Sum_ann) Try.func63 rfl (by decide +kernel) ?_ ?_ ?_
  · intro p hp; cases hp
  · intro args h κ r hh
    simp only [S.l7Sum_s] at hh
    split at hh
    · exact (S.l7Sum_den _ κ).trans hh
    · cases hh
  · intro args h κ r hh
    simp only [S.l7Sum_s] at hh ⊢
    split at hh
    · exact optC_law2 (F := fun (r : Int) κ => κ (.int .i64 r) []) (fun b κ r hb => ⟨_, _, hb, fun _ => rfl⟩) hh
    · cases hh
  · intro _ args h κ r hh
    simp only [S.l7Sum_s] at hh
    split at hh
    · exact ⟨rfl, fun _ => rfl⟩
    · cases hh

-- loop.example/guardsonnets/spec.RomanRow
noncomputable def S.RomanRow_T : List (Nat × D.Spec) := [(60, S.NetOk_s), (61, S.l7Rows_s), (62, S.l7Of_s), (17, S.RomanOk_s), (63, S.l7Sum_s)]
def S.RomanRow_ann : Nat → List Nat × List Nat
  | 5 => ([0, 3, 4], [3])
  | _ => ([], [])
noncomputable def S.RomanRow_F (args : List V) (h : List E) (κ : V → List E → R) : R := funC TD (tableK S.RomanRow_T) S.RomanRow_ann (drawOk (tableP S.RomanRow_T)) FUEL Try.f30 args h κ
noncomputable def S.RomanRow_L5 (n : Nat) (σ : St) (k : X → St → R) : R := iterC 0 (fun σ k => denC TD (tableK S.RomanRow_T) S.RomanRow_ann (drawOk (tableP S.RomanRow_T)) 0 FUEL ((findLoop 5 (Try.f30.body.getD .skip)).getD .skip) σ k) [0, 3, 4] [3] n σ k
noncomputable def S.RomanRow_k5 (κ : V → List E → R) : X → St → R := (afterC TD (tableK S.RomanRow_T) S.RomanRow_ann (drawOk (tableP S.RomanRow_T)) 0 FUEL 5 (Try.f30.body.getD .skip) (finC TD 0 Try.f30 κ)).getD (fun _ _ => none)
noncomputable def S.RomanRow_step5 {α : Type} (x0 : List Int) (x4 : Int) (r0 : List Int) (next_ : Int × (List Int) → α) (out0_ : List Int → α) (fail_ : α) : α :=
  (optC (S.l7Rows_t (↑x0.length : Int)) (fun c_2 => (bif decide (x4 < c_2) then (optC (S.l7Of_t (↑x0.length : Int) x4) (fun c_3 => (optC (S.RomanOk_t x0 c_3) (fun c_4 => (bif c_4 then (bif (↑r0.length : Int) == 0 then (next_ (IntKind.i64.wrap (x4 + 1), c_3)) else (optC (S.l7Sum_t c_3) (fun c_5 => (optC (S.l7Sum_t r0) (fun c_6 => (bif decide (c_5 < c_6) then (next_ (IntKind.i64.wrap (x4 + 1), c_3)) else (next_ (IntKind.i64.wrap (x4 + 1), r0)))) fail_)) fail_)) else (next_ (IntKind.i64.wrap (x4 + 1), r0)))) fail_)) fail_) else (out0_ r0))) fail_)
theorem S.RomanRow_step5_nat {α γ : Type} (g : α → γ) (x0 : List Int) (x4 : Int) (r0 : List Int) (next_ : Int × (List Int) → α) (out0_ : List Int → α) (fail_ : α) : g (S.RomanRow_step5 x0 x4 r0 next_ out0_ fail_) = S.RomanRow_step5 x0 x4 r0 (fun s => g (next_ s)) (fun d => g (out0_ d)) (g fail_) := by
  unfold S.RomanRow_step5; simp only [apply_cnd g, apply_optC g, apply_sumC g]
noncomputable def S.RomanRow_run5 (x0 : List Int) : Nat → Int × (List Int) → Option (List Int)
  | 0, _ => none
  | n + 1, s_ => S.RomanRow_step5 x0 s_.1 s_.2 (S.RomanRow_run5 x0 n) (fun d => some d) none
theorem S.RomanRow_L5_run (x0 : List Int) (n : Nat) (s_ : Int × (List Int)) (k : X → St → R) : S.RomanRow_L5 n { n := 39, t := [(0, (.ro false (.ints .i64 x0))), (3, (.own 0)), (4, (.int .i64 s_.1))], h := [.row (.ints .i64 s_.2)] } k = optC (S.RomanRow_run5 x0 n s_) (fun (r : List Int) => k (.exit 0) { n := 39, t := [(3, (.own 0))], h := [.row (.ints .i64 r)] }) none := by
  induction n generalizing s_ with
  | zero => rfl
  | succ n ih =>
    have hu : S.RomanRow_L5 (n + 1) { n := 39, t := [(0, (.ro false (.ints .i64 x0))), (3, (.own 0)), (4, (.int .i64 s_.1))], h := [.row (.ints .i64 s_.2)] } k = S.RomanRow_step5 x0 s_.1 s_.2 (fun s_ => S.RomanRow_L5 n { n := 39, t := [(0, (.ro false (.ints .i64 x0))), (3, (.own 0)), (4, (.int .i64 s_.1))], h := [.row (.ints .i64 s_.2)] } k) (fun d => k (.exit 0) { n := 39, t := [(3, (.own 0))], h := [.row (.ints .i64 d)] }) none := by
      kernel_rfl
    have hs : (fun s_ : Int × (List Int) => S.RomanRow_L5 n { n := 39, t := [(0, (.ro false (.ints .i64 x0))), (3, (.own 0)), (4, (.int .i64 s_.1))], h := [.row (.ints .i64 s_.2)] } k) = fun s_ => optC (S.RomanRow_run5 x0 n s_) (fun (r : List Int) => k (.exit 0) { n := 39, t := [(3, (.own 0))], h := [.row (.ints .i64 r)] }) none := funext ih
    rw [hu, hs]
    exact (S.RomanRow_step5_nat (fun o => optC o (fun (r : List Int) => k (.exit 0) { n := 39, t := [(3, (.own 0))], h := [.row (.ints .i64 r)] }) none) x0 s_.1 s_.2 (S.RomanRow_run5 x0 n) (fun d => some d) none).symm
noncomputable def S.RomanRow_tree {α : Type} (net : List Int) (leaf0_ : List Int → α) (fail_ : α) : α :=
  (optC (S.NetOk_t net) (fun c_1 => (bif !c_1 then (leaf0_ ([])) else (optC (S.RomanRow_run5 net FUEL (0, [])) (fun qy_7 => (leaf0_ qy_7)) fail_))) fail_)
theorem S.RomanRow_tree_nat {α γ : Type} (g : α → γ) (net : List Int) (leaf0_ : List Int → α) (fail_ : α) : g (S.RomanRow_tree net leaf0_ fail_) = S.RomanRow_tree net (fun d => g (leaf0_ d)) (g fail_) := by
  unfold S.RomanRow_tree; simp only [apply_cnd g, apply_optC g, apply_sumC g]
noncomputable def S.RomanRow_t (net : List Int) : Option (List Int) := S.RomanRow_tree net (fun d => some d) none
theorem S.RomanRow_den (net : List Int) (κ : V → List E → R) : S.RomanRow_F [.ro false (.ints .i64 net)] [] κ = optC (S.RomanRow_t net) (fun (r : List Int) => κ (.own 0) [.row (.ints .i64 r)]) none := by
  have hu : S.RomanRow_F [.ro false (.ints .i64 net)] [] κ = S.RomanRow_tree net (fun d => κ (.own 0) [.row (.ints .i64 d)]) none := by
    refine Eq.trans (show S.RomanRow_F [.ro false (.ints .i64 net)] [] κ = (optC (S.NetOk_t net) (fun c_1 => (bif !c_1 then (κ (.own 0) [.row (.ints .i64 ([]))]) else (S.RomanRow_L5 FUEL { n := 39, t := [(0, (.ro false (.ints .i64 net))), (3, (.own 0)), (4, (.int .i64 0))], h := [.row (.ints .i64 ([]))] } (S.RomanRow_k5 κ)))) none) by kernel_rfl) ?_
    refine optC_congr (fun c_1 => ?_)
    refine cnd_congr ?_ ?_
    · kernel_rfl
    · refine (S.RomanRow_L5_run net FUEL (0, []) (S.RomanRow_k5 κ)).trans (optC_congr (fun qy_7 => ?_))
      kernel_rfl
  rw [hu]
  exact (S.RomanRow_tree_nat (fun o => optC o (fun (r : List Int) => κ (.own 0) [.row (.ints .i64 r)]) none) net (fun d => some d) none).symm
noncomputable def S.RomanRow_s : D.Spec where
  keep := false
  pure := false
  ds := [.int .i64]
  sp := fun args h κ => match args, h with
    | [.ro false (.ints .i64 net)], [] => optC (S.RomanRow_t net) (fun (r : List Int) => κ (.own 0) [.row (.ints .i64 r)]) none
    | _, _ => none
theorem S.RomanRow_ok : SpecOk Try.prog 30 S.RomanRow_s := by
  refine SpecOk.of TDok mixed (T := S.RomanRow_T) ?_ (ann := S.RomanRow_ann) Try.func30 rfl (by decide +kernel) ?_ ?_ ?_
  · intro p hp
    simp only [S.RomanRow_T, List.mem_cons, List.not_mem_nil, or_false] at hp
    rcases hp with rfl | rfl | rfl | rfl | rfl
    · exact S.NetOk_ok
    · exact S.l7Rows_ok
    · exact S.l7Of_ok
    · exact S.RomanOk_ok
    · exact S.l7Sum_ok
  · intro args h κ r hh
    simp only [S.RomanRow_s] at hh
    split at hh
    · exact (S.RomanRow_den _ κ).trans hh
    · cases hh
  · intro args h κ r hh
    simp only [S.RomanRow_s] at hh ⊢
    split at hh
    · exact optC_law2 (F := fun (r : List Int) κ => κ (.own 0) [.row (.ints .i64 r)]) (fun b κ r hb => ⟨_, _, hb, fun _ => rfl⟩) hh
    · cases hh
  · intro hh; cases hh

-- loop.example/guardsonnets/laws.sameInts
noncomputable def L.sameInts_T : List (Nat × D.Spec) := []
def L.sameInts_ann : Nat → List Nat × List Nat
  | 4 => ([0, 1, 5], [4])
  | _ => ([], [])
noncomputable def L.sameInts_F (args : List V) (h : List E) (κ : V → List E → R) : R := funC TD (tableK L.sameInts_T) L.sameInts_ann (drawOk (tableP L.sameInts_T)) FUEL Try.f29 args h κ
noncomputable def L.sameInts_L4 (n : Nat) (σ : St) (k : X → St → R) : R := iterC 0 (fun σ k => denC TD (tableK L.sameInts_T) L.sameInts_ann (drawOk (tableP L.sameInts_T)) 0 FUEL ((findLoop 4 (Try.f29.body.getD .skip)).getD .skip) σ k) [0, 1, 5] [4] n σ k
noncomputable def L.sameInts_k4 (κ : V → List E → R) : X → St → R := (afterC TD (tableK L.sameInts_T) L.sameInts_ann (drawOk (tableP L.sameInts_T)) 0 FUEL 4 (Try.f29.body.getD .skip) (finC TD 0 Try.f29 κ)).getD (fun _ _ => none)
noncomputable def L.sameInts_step4 {α : Type} (x0 : List Int) (x1 : List Int) (x5 : Int) (next_ : Int → α) (out0_ : Bool → α) (out1_ : Unit → α) (fail_ : α) : α :=
  (bif decide (x5 < (↑x0.length : Int)) then (bif decide (0 ≤ x5) && decide (x5 < (↑x0.length : Int)) then (bif decide (0 ≤ x5) && decide (x5 < (↑x1.length : Int)) then (bif !eli x0 x5.toNat == eli x1 x5.toNat then (out0_ false) else (next_ (IntKind.i64.wrap (x5 + 1)))) else fail_) else fail_) else (out1_ ()))
theorem L.sameInts_step4_nat {α γ : Type} (g : α → γ) (x0 : List Int) (x1 : List Int) (x5 : Int) (next_ : Int → α) (out0_ : Bool → α) (out1_ : Unit → α) (fail_ : α) : g (L.sameInts_step4 x0 x1 x5 next_ out0_ out1_ fail_) = L.sameInts_step4 x0 x1 x5 (fun s => g (next_ s)) (fun d => g (out0_ d)) (fun d => g (out1_ d)) (g fail_) := by
  unfold L.sameInts_step4; simp only [apply_cnd g, apply_optC g, apply_sumC g]
noncomputable def L.sameInts_run4 (x0 : List Int) (x1 : List Int) : Nat → Int → Option ((Bool) ⊕ (Unit))
  | 0, _ => none
  | n + 1, s_ => L.sameInts_step4 x0 x1 s_ (L.sameInts_run4 x0 x1 n) (fun d => some ((Sum.inl d))) (fun d => some ((Sum.inr d))) none
theorem L.sameInts_L4_run (x0 : List Int) (x1 : List Int) (n : Nat) (s_ : Int) (k : X → St → R) : L.sameInts_L4 n { n := 26, t := [(0, (.ro false (.ints .i64 x0))), (1, (.ro false (.ints .i64 x1))), (5, (.int .i64 s_))], h := [] } k = optC (L.sameInts_run4 x0 x1 n s_) (fun (r : (Bool) ⊕ (Unit)) => (sumC r (fun (r : Bool) => k (.ret) { n := 26, t := [(4, (.bool r))], h := [] }) (fun (r : Unit) => k (.exit 0) { n := 26, t := [(4, .junk)], h := [] }))) none := by
  induction n generalizing s_ with
  | zero => rfl
  | succ n ih =>
    have hu : L.sameInts_L4 (n + 1) { n := 26, t := [(0, (.ro false (.ints .i64 x0))), (1, (.ro false (.ints .i64 x1))), (5, (.int .i64 s_))], h := [] } k = L.sameInts_step4 x0 x1 s_ (fun s_ => L.sameInts_L4 n { n := 26, t := [(0, (.ro false (.ints .i64 x0))), (1, (.ro false (.ints .i64 x1))), (5, (.int .i64 s_))], h := [] } k) (fun d => k (.ret) { n := 26, t := [(4, (.bool d))], h := [] }) (fun d => k (.exit 0) { n := 26, t := [(4, .junk)], h := [] }) none := by
      kernel_rfl
    have hs : (fun s_ : Int => L.sameInts_L4 n { n := 26, t := [(0, (.ro false (.ints .i64 x0))), (1, (.ro false (.ints .i64 x1))), (5, (.int .i64 s_))], h := [] } k) = fun s_ => optC (L.sameInts_run4 x0 x1 n s_) (fun (r : (Bool) ⊕ (Unit)) => (sumC r (fun (r : Bool) => k (.ret) { n := 26, t := [(4, (.bool r))], h := [] }) (fun (r : Unit) => k (.exit 0) { n := 26, t := [(4, .junk)], h := [] }))) none := funext ih
    rw [hu, hs]
    exact (L.sameInts_step4_nat (fun o => optC o (fun (r : (Bool) ⊕ (Unit)) => (sumC r (fun (r : Bool) => k (.ret) { n := 26, t := [(4, (.bool r))], h := [] }) (fun (r : Unit) => k (.exit 0) { n := 26, t := [(4, .junk)], h := [] }))) none) x0 x1 s_ (L.sameInts_run4 x0 x1 n) (fun d => some ((Sum.inl d))) (fun d => some ((Sum.inr d))) none).symm
noncomputable def L.sameInts_tree {α : Type} (a : List Int) (b_ : List Int) (leaf0_ : Bool → α) (fail_ : α) : α :=
  (bif !(↑a.length : Int) == (↑b_.length : Int) then (leaf0_ false) else (optC (L.sameInts_run4 a b_ FUEL 0) (fun qy_1 => (sumC qy_1 (fun (qy_1 : Bool) => (leaf0_ qy_1)) (fun (qy_1 : Unit) => (leaf0_ true)))) fail_))
theorem L.sameInts_tree_nat {α γ : Type} (g : α → γ) (a : List Int) (b_ : List Int) (leaf0_ : Bool → α) (fail_ : α) : g (L.sameInts_tree a b_ leaf0_ fail_) = L.sameInts_tree a b_ (fun d => g (leaf0_ d)) (g fail_) := by
  unfold L.sameInts_tree; simp only [apply_cnd g, apply_optC g, apply_sumC g]
noncomputable def L.sameInts_t (a : List Int) (b_ : List Int) : Option (Bool) := L.sameInts_tree a b_ (fun d => some d) none
theorem L.sameInts_den (a : List Int) (b_ : List Int) (κ : V → List E → R) : L.sameInts_F [.ro false (.ints .i64 a), .ro false (.ints .i64 b_)] [] κ = optC (L.sameInts_t a b_) (fun (r : Bool) => κ (.bool r) []) none := by
  have hu : L.sameInts_F [.ro false (.ints .i64 a), .ro false (.ints .i64 b_)] [] κ = L.sameInts_tree a b_ (fun d => κ (.bool d) []) none := by
    refine Eq.trans (show L.sameInts_F [.ro false (.ints .i64 a), .ro false (.ints .i64 b_)] [] κ = (bif !(↑a.length : Int) == (↑b_.length : Int) then (κ (.bool false) []) else (L.sameInts_L4 FUEL { n := 26, t := [(0, (.ro false (.ints .i64 a))), (1, (.ro false (.ints .i64 b_))), (5, (.int .i64 0))], h := [] } (L.sameInts_k4 κ))) by kernel_rfl) ?_
    refine cnd_congr ?_ ?_
    · kernel_rfl
    · refine (L.sameInts_L4_run a b_ FUEL 0 (L.sameInts_k4 κ)).trans (optC_congr (fun qy_1 => ?_))
      rcases qy_1 with qy_1 | qy_1
      · kernel_rfl
      · kernel_rfl
  rw [hu]
  exact (L.sameInts_tree_nat (fun o => optC o (fun (r : Bool) => κ (.bool r) []) none) a b_ (fun d => some d) none).symm
noncomputable def L.sameInts_s : D.Spec where
  keep := false
  pure := true
  ds := [.int .i64, .int .i64]
  sp := fun args h κ => match args, h with
    | [.ro false (.ints .i64 a), .ro false (.ints .i64 b_)], [] => optC (L.sameInts_t a b_) (fun (r : Bool) => κ (.bool r) []) none
    | _, _ => none
theorem L.sameInts_ok : SpecOk Try.prog 29 L.sameInts_s := by
  refine SpecOk.of TDok mixed (T := L.sameInts_T) ?_ (ann := L.sameInts_ann) Try.func29 rfl (by decide +kernel) ?_ ?_ ?_
  · intro p hp; cases hp
  · intro args h κ r hh
    simp only [L.sameInts_s] at hh
    split at hh
    · exact (L.sameInts_den _ _ κ).trans hh
    · cases hh
  · intro args h κ r hh
    simp only [L.sameInts_s] at hh ⊢
    split at hh
    · exact optC_law2 (F := fun (r : Bool) κ => κ (.bool r) []) (fun b κ r hb => ⟨_, _, hb, fun _ => rfl⟩) hh
    · cases hh
  · intro _ args h κ r hh
    simp only [L.sameInts_s] at hh
    split at hh
    · exact ⟨rfl, fun _ => rfl⟩
    · cases hh

-- loop.example/guardsonnets/laws.sumOf
noncomputable def L.sumOf_T : List (Nat × D.Spec) := []
def L.sumOf_ann : Nat → List Nat × List Nat
  | 3 => ([0, 3, 4], [3])
  | _ => ([], [])
noncomputable def L.sumOf_F (args : List V) (h : List E) (κ : V → List E → R) : R := funC TD (tableK L.sumOf_T) L.sumOf_ann (drawOk (tableP L.sumOf_T)) FUEL Try.f32 args h κ
noncomputable def L.sumOf_L3 (n : Nat) (σ : St) (k : X → St → R) : R := iterC 0 (fun σ k => denC TD (tableK L.sumOf_T) L.sumOf_ann (drawOk (tableP L.sumOf_T)) 0 FUEL ((findLoop 3 (Try.f32.body.getD .skip)).getD .skip) σ k) [0, 3, 4] [3] n σ k
noncomputable def L.sumOf_k3 (κ : V → List E → R) : X → St → R := (afterC TD (tableK L.sumOf_T) L.sumOf_ann (drawOk (tableP L.sumOf_T)) 0 FUEL 3 (Try.f32.body.getD .skip) (finC TD 0 Try.f32 κ)).getD (fun _ _ => none)
noncomputable def L.sumOf_step3 {α : Type} (x0 : List Int) (x3 : Int) (x4 : Int) (next_ : Int × Int → α) (out0_ : Int → α) (fail_ : α) : α :=
  (bif decide (x4 < (↑x0.length : Int)) then (bif decide (0 ≤ x4) && decide (x4 < (↑x0.length : Int)) then (next_ (IntKind.i64.wrap (x3 + eli x0 x4.toNat), IntKind.i64.wrap (x4 + 1))) else fail_) else (out0_ x3))
theorem L.sumOf_step3_nat {α γ : Type} (g : α → γ) (x0 : List Int) (x3 : Int) (x4 : Int) (next_ : Int × Int → α) (out0_ : Int → α) (fail_ : α) : g (L.sumOf_step3 x0 x3 x4 next_ out0_ fail_) = L.sumOf_step3 x0 x3 x4 (fun s => g (next_ s)) (fun d => g (out0_ d)) (g fail_) := by
  unfold L.sumOf_step3; simp only [apply_cnd g, apply_optC g, apply_sumC g]
noncomputable def L.sumOf_run3 (x0 : List Int) : Nat → Int × Int → Option (Int)
  | 0, _ => none
  | n + 1, s_ => L.sumOf_step3 x0 s_.1 s_.2 (L.sumOf_run3 x0 n) (fun d => some d) none
theorem L.sumOf_L3_run (x0 : List Int) (n : Nat) (s_ : Int × Int) (k : X → St → R) : L.sumOf_L3 n { n := 18, t := [(0, (.ro false (.ints .i64 x0))), (3, (.int .i64 s_.1)), (4, (.int .i64 s_.2))], h := [] } k = optC (L.sumOf_run3 x0 n s_) (fun (r : Int) => k (.exit 0) { n := 18, t := [(3, (.int .i64 r))], h := [] }) none := by
  induction n generalizing s_ with
  | zero => rfl
  | succ n ih =>
    have hu : L.sumOf_L3 (n + 1) { n := 18, t := [(0, (.ro false (.ints .i64 x0))), (3, (.int .i64 s_.1)), (4, (.int .i64 s_.2))], h := [] } k = L.sumOf_step3 x0 s_.1 s_.2 (fun s_ => L.sumOf_L3 n { n := 18, t := [(0, (.ro false (.ints .i64 x0))), (3, (.int .i64 s_.1)), (4, (.int .i64 s_.2))], h := [] } k) (fun d => k (.exit 0) { n := 18, t := [(3, (.int .i64 d))], h := [] }) none := by
      kernel_rfl
    have hs : (fun s_ : Int × Int => L.sumOf_L3 n { n := 18, t := [(0, (.ro false (.ints .i64 x0))), (3, (.int .i64 s_.1)), (4, (.int .i64 s_.2))], h := [] } k) = fun s_ => optC (L.sumOf_run3 x0 n s_) (fun (r : Int) => k (.exit 0) { n := 18, t := [(3, (.int .i64 r))], h := [] }) none := funext ih
    rw [hu, hs]
    exact (L.sumOf_step3_nat (fun o => optC o (fun (r : Int) => k (.exit 0) { n := 18, t := [(3, (.int .i64 r))], h := [] }) none) x0 s_.1 s_.2 (L.sumOf_run3 x0 n) (fun d => some d) none).symm
noncomputable def L.sumOf_tree {α : Type} (row : List Int) (leaf0_ : Int → α) (fail_ : α) : α :=
  (optC (L.sumOf_run3 row FUEL (0, 0)) (fun qy_1 => (leaf0_ qy_1)) fail_)
theorem L.sumOf_tree_nat {α γ : Type} (g : α → γ) (row : List Int) (leaf0_ : Int → α) (fail_ : α) : g (L.sumOf_tree row leaf0_ fail_) = L.sumOf_tree row (fun d => g (leaf0_ d)) (g fail_) := by
  unfold L.sumOf_tree; simp only [apply_cnd g, apply_optC g, apply_sumC g]
noncomputable def L.sumOf_t (row : List Int) : Option (Int) := L.sumOf_tree row (fun d => some d) none
theorem L.sumOf_den (row : List Int) (κ : V → List E → R) : L.sumOf_F [.ro false (.ints .i64 row)] [] κ = optC (L.sumOf_t row) (fun (r : Int) => κ (.int .i64 r) []) none := by
  have hu : L.sumOf_F [.ro false (.ints .i64 row)] [] κ = L.sumOf_tree row (fun d => κ (.int .i64 d) []) none := by
    refine Eq.trans (show L.sumOf_F [.ro false (.ints .i64 row)] [] κ = (L.sumOf_L3 FUEL { n := 18, t := [(0, (.ro false (.ints .i64 row))), (3, (.int .i64 0)), (4, (.int .i64 0))], h := [] } (L.sumOf_k3 κ)) by kernel_rfl) ?_
    refine (L.sumOf_L3_run row FUEL (0, 0) (L.sumOf_k3 κ)).trans (optC_congr (fun qy_1 => ?_))
    kernel_rfl
  rw [hu]
  exact (L.sumOf_tree_nat (fun o => optC o (fun (r : Int) => κ (.int .i64 r) []) none) row (fun d => some d) none).symm
noncomputable def L.sumOf_s : D.Spec where
  keep := false
  pure := true
  ds := [.int .i64]
  sp := fun args h κ => match args, h with
    | [.ro false (.ints .i64 row)], [] => optC (L.sumOf_t row) (fun (r : Int) => κ (.int .i64 r) []) none
    | _, _ => none
theorem L.sumOf_ok : SpecOk Try.prog 32 L.sumOf_s := by
  refine SpecOk.of TDok mixed (T := L.sumOf_T) ?_ (ann := L.sumOf_ann) Try.func32 rfl (by decide +kernel) ?_ ?_ ?_
  · intro p hp; cases hp
  · intro args h κ r hh
    simp only [L.sumOf_s] at hh
    split at hh
    · exact (L.sumOf_den _ κ).trans hh
    · cases hh
  · intro args h κ r hh
    simp only [L.sumOf_s] at hh ⊢
    split at hh
    · exact optC_law2 (F := fun (r : Int) κ => κ (.int .i64 r) []) (fun b κ r hb => ⟨_, _, hb, fun _ => rfl⟩) hh
    · cases hh
  · intro _ args h κ r hh
    simp only [L.sumOf_s] at hh
    split at hh
    · exact ⟨rfl, fun _ => rfl⟩
    · cases hh

-- loop.example/guardsonnets/impl.FewestRoman
noncomputable def I.FewestRoman_T : List (Nat × D.Spec) := [(31, I.NetOk_s), (59, I.romanRowIn_s), (66, I.guardsOf_s)]
def I.FewestRoman_ann : Nat → List Nat × List Nat
  | _ => ([], [])
noncomputable def I.FewestRoman_F (args : List V) (h : List E) (κ : V → List E → R) : R := funC TD (tableK I.FewestRoman_T) I.FewestRoman_ann (drawOk (tableP I.FewestRoman_T)) FUEL Try.f33 args h κ
noncomputable def I.FewestRoman_tree {α : Type} (net : List Int) (leaf0_ : Int → α) (fail_ : α) : α :=
  (optC (I.NetOk_t net) (fun c_1 => (bif !c_1 then (leaf0_ (-1)) else (optC (I.romanRowIn_t net) (fun c_2 => (optC (I.guardsOf_t c_2) (fun c_3 => (leaf0_ c_3)) fail_)) fail_))) fail_)
theorem I.FewestRoman_tree_nat {α γ : Type} (g : α → γ) (net : List Int) (leaf0_ : Int → α) (fail_ : α) : g (I.FewestRoman_tree net leaf0_ fail_) = I.FewestRoman_tree net (fun d => g (leaf0_ d)) (g fail_) := by
  unfold I.FewestRoman_tree; simp only [apply_cnd g, apply_optC g, apply_sumC g]
noncomputable def I.FewestRoman_t (net : List Int) : Option (Int) := I.FewestRoman_tree net (fun d => some d) none
theorem I.FewestRoman_den (net : List Int) (κ : V → List E → R) : I.FewestRoman_F [.ro false (.ints .i64 net)] [] κ = optC (I.FewestRoman_t net) (fun (r : Int) => κ (.int .i64 r) []) none := by
  have hu : I.FewestRoman_F [.ro false (.ints .i64 net)] [] κ = I.FewestRoman_tree net (fun d => κ (.int .i64 d) []) none := by
    kernel_rfl
  rw [hu]
  exact (I.FewestRoman_tree_nat (fun o => optC o (fun (r : Int) => κ (.int .i64 r) []) none) net (fun d => some d) none).symm
noncomputable def I.FewestRoman_s : D.Spec where
  keep := false
  pure := true
  ds := [.int .i64]
  sp := fun args h κ => match args, h with
    | [.ro false (.ints .i64 net)], [] => optC (I.FewestRoman_t net) (fun (r : Int) => κ (.int .i64 r) []) none
    | _, _ => none
theorem I.FewestRoman_ok : SpecOk Try.prog 33 I.FewestRoman_s := by
  refine SpecOk.of TDok mixed (T := I.FewestRoman_T) ?_ (ann := I.FewestRoman_ann) Try.func33 rfl (by decide +kernel) ?_ ?_ ?_
  · intro p hp
    simp only [I.FewestRoman_T, List.mem_cons, List.not_mem_nil, or_false] at hp
    rcases hp with rfl | rfl | rfl
    · exact I.NetOk_ok
    · exact I.romanRowIn_ok
    · exact I.guardsOf_ok
  · intro args h κ r hh
    simp only [I.FewestRoman_s] at hh
    split at hh
    · exact (I.FewestRoman_den _ κ).trans hh
    · cases hh
  · intro args h κ r hh
    simp only [I.FewestRoman_s] at hh ⊢
    split at hh
    · exact optC_law2 (F := fun (r : Int) κ => κ (.int .i64 r) []) (fun b κ r hb => ⟨_, _, hb, fun _ => rfl⟩) hh
    · cases hh
  · intro _ args h κ r hh
    simp only [I.FewestRoman_s] at hh
    split at hh
    · exact ⟨rfl, fun _ => rfl⟩
    · cases hh

-- loop.example/guardsonnets/laws.FnRomanRow
noncomputable def L.FnRomanRow_T : List (Nat × D.Spec) := [(27, S.DrawRomanRow_s), (28, I.RomanRow_s), (30, S.RomanRow_s), (29, L.sameInts_s), (31, I.NetOk_s), (18, L.alive_s), (20, L.placesWith_s), (16, I.RomanOk_s), (32, L.sumOf_s), (33, I.FewestRoman_s), (22, I.SeenBy_s)]
def L.FnRomanRow_ann : Nat → List Nat × List Nat
  | _ => ([], [])
noncomputable def L.FnRomanRow_F (args : List V) (h : List E) (κ : V → List E → R) : R := funC TD (tableK L.FnRomanRow_T) L.FnRomanRow_ann (drawOk (tableP L.FnRomanRow_T)) FUEL Try.f7 args h κ
noncomputable def L.FnRomanRow_tree {α : Type} (code : List Int) (leaf0_ : Bool → α) (fail_ : α) : α :=
  (bif decide ((↑code.length : Int) > 1048576) then (leaf0_ true) else (optC (S.DrawRomanRow_t code) (fun c_1 => (optC (I.RomanRow_t c_1) (fun c_2 => (optC (S.RomanRow_t c_1) (fun c_3 => (optC (L.sameInts_t c_2 c_3) (fun c_4 => (bif !c_4 then (leaf0_ false) else (optC (I.NetOk_t c_1) (fun c_5 => (bif !c_5 then (bif (↑c_2.length : Int) == 0 then (optC (L.alive_t) (fun c_6 => (leaf0_ c_6)) fail_) else (leaf0_ false)) else (optC (L.placesWith_t c_2 1) (fun c_7 => (optC (L.placesWith_t c_2 2) (fun c_8 => (optC (I.RomanOk_t c_1 c_2) (fun c_9 => (bif c_9 then (optC (L.sumOf_t c_2) (fun c_10 => (optC (I.FewestRoman_t c_1) (fun c_11 => (bif c_10 == c_11 then (optC (L.placesWith_t c_2 2) (fun c_12 => (optC (I.SeenBy_t c_1 c_12) (fun c_13 => (leaf0_ (bits BinOp.and IntKind.i64 c_13 (IntKind.i64.wrap (c_7 - c_8)) == 0))) fail_)) fail_) else (leaf0_ false))) fail_)) fail_) else (leaf0_ false))) fail_)) fail_)) fail_))) fail_))) fail_)) fail_)) fail_)) fail_))
theorem L.FnRomanRow_tree_nat {α γ : Type} (g : α → γ) (code : List Int) (leaf0_ : Bool → α) (fail_ : α) : g (L.FnRomanRow_tree code leaf0_ fail_) = L.FnRomanRow_tree code (fun d => g (leaf0_ d)) (g fail_) := by
  unfold L.FnRomanRow_tree; simp only [apply_cnd g, apply_optC g, apply_sumC g]
noncomputable def L.FnRomanRow_t (code : List Int) : Option (Bool) := L.FnRomanRow_tree code (fun d => some d) none
theorem L.FnRomanRow_den (code : List Int) (κ : V → List E → R) : L.FnRomanRow_F [.ro true (.ints .u8 code)] [] κ = optC (L.FnRomanRow_t code) (fun (r : Bool) => κ (.bool r) []) none := by
  have hu : L.FnRomanRow_F [.ro true (.ints .u8 code)] [] κ = L.FnRomanRow_tree code (fun d => κ (.bool d) []) none := by
    kernel_rfl
  rw [hu]
  exact (L.FnRomanRow_tree_nat (fun o => optC o (fun (r : Bool) => κ (.bool r) []) none) code (fun d => some d) none).symm
noncomputable def L.FnRomanRow_s : D.Spec where
  keep := true
  pure := true
  ds := [.int .u8]
  sp := fun args h κ => match args, h with
    | [.ro true (.ints .u8 code)], [] => optC (L.FnRomanRow_t code) (fun (r : Bool) => κ (.bool r) []) none
    | _, _ => none
theorem L.FnRomanRow_ok : SpecOk Try.prog 7 L.FnRomanRow_s := by
  refine SpecOk.of TDok mixed (T := L.FnRomanRow_T) ?_ (ann := L.FnRomanRow_ann) Try.func7 rfl (by decide +kernel) ?_ ?_ ?_
  · intro p hp
    simp only [L.FnRomanRow_T, List.mem_cons, List.not_mem_nil, or_false] at hp
    rcases hp with rfl | rfl | rfl | rfl | rfl | rfl | rfl | rfl | rfl | rfl | rfl
    · exact S.DrawRomanRow_ok
    · exact I.RomanRow_ok
    · exact S.RomanRow_ok
    · exact L.sameInts_ok
    · exact I.NetOk_ok
    · exact L.alive_ok
    · exact L.placesWith_ok
    · exact I.RomanOk_ok
    · exact L.sumOf_ok
    · exact I.FewestRoman_ok
    · exact I.SeenBy_ok
  · intro args h κ r hh
    simp only [L.FnRomanRow_s] at hh
    split at hh
    · exact (L.FnRomanRow_den _ κ).trans hh
    · cases hh
  · intro args h κ r hh
    simp only [L.FnRomanRow_s] at hh ⊢
    split at hh
    · exact optC_law2 (F := fun (r : Bool) κ => κ (.bool r) []) (fun b κ r hb => ⟨_, _, hb, fun _ => rfl⟩) hh
    · cases hh
  · intro _ args h κ r hh
    simp only [L.FnRomanRow_s] at hh
    split at hh
    · exact ⟨rfl, fun _ => rfl⟩
    · cases hh

-- loop.example/guardsonnets/laws.markIntS
noncomputable def L.markIntS_T : List (Nat × D.Spec) := []
def L.markIntS_ann : Nat → List Nat × List Nat
  | 2 => ([0, 1, 5], [1])
  | _ => ([], [])
noncomputable def L.markIntS_F (args : List V) (h : List E) (κ : V → List E → R) : R := funC TD (tableK L.markIntS_T) L.markIntS_ann (drawOk (tableP L.markIntS_T)) FUEL Try.f34 args h κ
noncomputable def L.markIntS_L2 (n : Nat) (σ : St) (k : X → St → R) : R := iterC 1 (fun σ k => denC TD (tableK L.markIntS_T) L.markIntS_ann (drawOk (tableP L.markIntS_T)) 1 FUEL ((findLoop 2 (Try.f34.body.getD .skip)).getD .skip) σ k) [0, 1, 5] [1] n σ k
noncomputable def L.markIntS_k2 (κ : V → List E → R) : X → St → R := (afterC TD (tableK L.markIntS_T) L.markIntS_ann (drawOk (tableP L.markIntS_T)) 1 FUEL 2 (Try.f34.body.getD .skip) (finC TD 1 Try.f34 κ)).getD (fun _ _ => none)
noncomputable def L.markIntS_step2 {α : Type} (x1 : Int) (x5 : Int) (r0 : List Int) (next_ : Int × Int × (List Int) → α) (out0_ : Int × (List Int) → α) (fail_ : α) : α :=
  (bif decide (x5 < (↑r0.length : Int)) then (bif decide (0 ≤ x5) && decide (x5 < (↑r0.length : Int)) then (bif decide (x5.toNat < r0.length) then (next_ (IntKind.i64.wrap (x1 + 1), IntKind.i64.wrap (x5 + 1), r0.set x5.toNat x1)) else fail_) else fail_) else (out0_ (x1, r0)))
theorem L.markIntS_step2_nat {α γ : Type} (g : α → γ) (x1 : Int) (x5 : Int) (r0 : List Int) (next_ : Int × Int × (List Int) → α) (out0_ : Int × (List Int) → α) (fail_ : α) : g (L.markIntS_step2 x1 x5 r0 next_ out0_ fail_) = L.markIntS_step2 x1 x5 r0 (fun s => g (next_ s)) (fun d => g (out0_ d)) (g fail_) := by
  unfold L.markIntS_step2; simp only [apply_cnd g, apply_optC g, apply_sumC g]
noncomputable def L.markIntS_run2 : Nat → Int × Int × (List Int) → Option (Int × (List Int))
  | 0, _ => none
  | n + 1, s_ => L.markIntS_step2 s_.1 s_.2.1 s_.2.2 (L.markIntS_run2 n) (fun d => some d) none
theorem L.markIntS_L2_run (n : Nat) (s_ : Int × Int × (List Int)) (k : X → St → R) : L.markIntS_L2 n { n := 19, t := [(0, (.own 0)), (1, (.int .i64 s_.1)), (5, (.int .i64 s_.2.1))], h := [.row (.ints .i64 s_.2.2)] } k = optC (L.markIntS_run2 n s_) (fun (r : Int × (List Int)) => k (.exit 0) { n := 19, t := [(1, (.int .i64 r.1))], h := [.row (.ints .i64 r.2)] }) none := by
  induction n generalizing s_ with
  | zero => rfl
  | succ n ih =>
    have hu : L.markIntS_L2 (n + 1) { n := 19, t := [(0, (.own 0)), (1, (.int .i64 s_.1)), (5, (.int .i64 s_.2.1))], h := [.row (.ints .i64 s_.2.2)] } k = L.markIntS_step2 s_.1 s_.2.1 s_.2.2 (fun s_ => L.markIntS_L2 n { n := 19, t := [(0, (.own 0)), (1, (.int .i64 s_.1)), (5, (.int .i64 s_.2.1))], h := [.row (.ints .i64 s_.2.2)] } k) (fun d => k (.exit 0) { n := 19, t := [(1, (.int .i64 d.1))], h := [.row (.ints .i64 d.2)] }) none := by
      kernel_rfl
    have hs : (fun s_ : Int × Int × (List Int) => L.markIntS_L2 n { n := 19, t := [(0, (.own 0)), (1, (.int .i64 s_.1)), (5, (.int .i64 s_.2.1))], h := [.row (.ints .i64 s_.2.2)] } k) = fun s_ => optC (L.markIntS_run2 n s_) (fun (r : Int × (List Int)) => k (.exit 0) { n := 19, t := [(1, (.int .i64 r.1))], h := [.row (.ints .i64 r.2)] }) none := funext ih
    rw [hu, hs]
    exact (L.markIntS_step2_nat (fun o => optC o (fun (r : Int × (List Int)) => k (.exit 0) { n := 19, t := [(1, (.int .i64 r.1))], h := [.row (.ints .i64 r.2)] }) none) s_.1 s_.2.1 s_.2.2 (L.markIntS_run2 n) (fun d => some d) none).symm
noncomputable def L.markIntS_tree {α : Type} (a : List Int) (k_ : Int) (leaf0_ : Int × (List Int) → α) (fail_ : α) : α :=
  (optC (L.markIntS_run2 FUEL (k_, 0, a)) (fun qy_1 => (leaf0_ (qy_1.1, qy_1.2))) fail_)
theorem L.markIntS_tree_nat {α γ : Type} (g : α → γ) (a : List Int) (k_ : Int) (leaf0_ : Int × (List Int) → α) (fail_ : α) : g (L.markIntS_tree a k_ leaf0_ fail_) = L.markIntS_tree a k_ (fun d => g (leaf0_ d)) (g fail_) := by
  unfold L.markIntS_tree; simp only [apply_cnd g, apply_optC g, apply_sumC g]
noncomputable def L.markIntS_t (a : List Int) (k_ : Int) : Option (Int × (List Int)) := L.markIntS_tree a k_ (fun d => some d) none
theorem L.markIntS_den (a : List Int) (k_ : Int) (κ : V → List E → R) : L.markIntS_F [.own 0, .int .i64 k_] [.row (.ints .i64 a)] κ = optC (L.markIntS_t a k_) (fun (r : Int × (List Int)) => κ (.int .i64 r.1) [.row (.ints .i64 r.2)]) none := by
  have hu : L.markIntS_F [.own 0, .int .i64 k_] [.row (.ints .i64 a)] κ = L.markIntS_tree a k_ (fun d => κ (.int .i64 d.1) [.row (.ints .i64 d.2)]) none := by
    refine Eq.trans (show L.markIntS_F [.own 0, .int .i64 k_] [.row (.ints .i64 a)] κ = (L.markIntS_L2 FUEL { n := 19, t := [(0, (.own 0)), (1, (.int .i64 k_)), (5, (.int .i64 0))], h := [.row (.ints .i64 a)] } (L.markIntS_k2 κ)) by kernel_rfl) ?_
    refine (L.markIntS_L2_run FUEL (k_, 0, a) (L.markIntS_k2 κ)).trans (optC_congr (fun qy_1 => ?_))
    kernel_rfl
  rw [hu]
  exact (L.markIntS_tree_nat (fun o => optC o (fun (r : Int × (List Int)) => κ (.int .i64 r.1) [.row (.ints .i64 r.2)]) none) a k_ (fun d => some d) none).symm
noncomputable def L.markIntS_s : D.Spec where
  keep := false
  pure := false
  ds := [.pointer 0, .invalid]
  sp := fun args h κ => match args, h with
    | [.own 0, .int .i64 k_], [.row (.ints .i64 a)] => optC (L.markIntS_t a k_) (fun (r : Int × (List Int)) => κ (.int .i64 r.1) [.row (.ints .i64 r.2)]) none
    | _, _ => none
theorem L.markIntS_ok : SpecOk Try.prog 34 L.markIntS_s := by
  refine SpecOk.of TDok mixed (T := L.markIntS_T) ?_ (ann := L.markIntS_ann) Try.func34 rfl (by decide +kernel) ?_ ?_ ?_
  · intro p hp; cases hp
  · intro args h κ r hh
    simp only [L.markIntS_s] at hh
    split at hh
    · exact (L.markIntS_den _ _ κ).trans hh
    · cases hh
  · intro args h κ r hh
    simp only [L.markIntS_s] at hh ⊢
    split at hh
    · exact optC_law2 (F := fun (r : Int × (List Int)) κ => κ (.int .i64 r.1) [.row (.ints .i64 r.2)]) (fun b κ r hb => ⟨_, _, hb, fun _ => rfl⟩) hh
    · cases hh
  · intro hh; cases hh

-- loop.example/guardsonnets/laws.heldIntS
noncomputable def L.heldIntS_T : List (Nat × D.Spec) := []
def L.heldIntS_ann : Nat → List Nat × List Nat
  | 2 => ([0, 1, 5], [1, 4])
  | _ => ([], [])
noncomputable def L.heldIntS_F (args : List V) (h : List E) (κ : V → List E → R) : R := funC TD (tableK L.heldIntS_T) L.heldIntS_ann (drawOk (tableP L.heldIntS_T)) FUEL Try.f35 args h κ
noncomputable def L.heldIntS_L2 (n : Nat) (σ : St) (k : X → St → R) : R := iterC 0 (fun σ k => denC TD (tableK L.heldIntS_T) L.heldIntS_ann (drawOk (tableP L.heldIntS_T)) 0 FUEL ((findLoop 2 (Try.f35.body.getD .skip)).getD .skip) σ k) [0, 1, 5] [1, 4] n σ k
noncomputable def L.heldIntS_k2 (κ : V → List E → R) : X → St → R := (afterC TD (tableK L.heldIntS_T) L.heldIntS_ann (drawOk (tableP L.heldIntS_T)) 0 FUEL 2 (Try.f35.body.getD .skip) (finC TD 0 Try.f35 κ)).getD (fun _ _ => none)
noncomputable def L.heldIntS_step2 {α : Type} (x0 : List Int) (x1 : Int) (x5 : Int) (next_ : Int × Int → α) (out0_ : Int × Int → α) (out1_ : Int → α) (fail_ : α) : α :=
  (bif decide (x5 < (↑x0.length : Int)) then (bif decide (0 ≤ x5) && decide (x5 < (↑x0.length : Int)) then (bif !eli x0 x5.toNat == x1 then (out0_ (x1, -1)) else (next_ (IntKind.i64.wrap (x1 + 1), IntKind.i64.wrap (x5 + 1)))) else fail_) else (out1_ x1))
theorem L.heldIntS_step2_nat {α γ : Type} (g : α → γ) (x0 : List Int) (x1 : Int) (x5 : Int) (next_ : Int × Int → α) (out0_ : Int × Int → α) (out1_ : Int → α) (fail_ : α) : g (L.heldIntS_step2 x0 x1 x5 next_ out0_ out1_ fail_) = L.heldIntS_step2 x0 x1 x5 (fun s => g (next_ s)) (fun d => g (out0_ d)) (fun d => g (out1_ d)) (g fail_) := by
  unfold L.heldIntS_step2; simp only [apply_cnd g, apply_optC g, apply_sumC g]
noncomputable def L.heldIntS_run2 (x0 : List Int) : Nat → Int × Int → Option ((Int × Int) ⊕ (Int))
  | 0, _ => none
  | n + 1, s_ => L.heldIntS_step2 x0 s_.1 s_.2 (L.heldIntS_run2 x0 n) (fun d => some ((Sum.inl d))) (fun d => some ((Sum.inr d))) none
theorem L.heldIntS_L2_run (x0 : List Int) (n : Nat) (s_ : Int × Int) (k : X → St → R) : L.heldIntS_L2 n { n := 21, t := [(0, (.ro false (.ints .i64 x0))), (1, (.int .i64 s_.1)), (5, (.int .i64 s_.2))], h := [] } k = optC (L.heldIntS_run2 x0 n s_) (fun (r : (Int × Int) ⊕ (Int)) => (sumC r (fun (r : Int × Int) => k (.ret) { n := 21, t := [(1, (.int .i64 r.1)), (4, (.int .i64 r.2))], h := [] }) (fun (r : Int) => k (.exit 0) { n := 21, t := [(1, (.int .i64 r)), (4, .junk)], h := [] }))) none := by
  induction n generalizing s_ with
  | zero => rfl
  | succ n ih =>
    have hu : L.heldIntS_L2 (n + 1) { n := 21, t := [(0, (.ro false (.ints .i64 x0))), (1, (.int .i64 s_.1)), (5, (.int .i64 s_.2))], h := [] } k = L.heldIntS_step2 x0 s_.1 s_.2 (fun s_ => L.heldIntS_L2 n { n := 21, t := [(0, (.ro false (.ints .i64 x0))), (1, (.int .i64 s_.1)), (5, (.int .i64 s_.2))], h := [] } k) (fun d => k (.ret) { n := 21, t := [(1, (.int .i64 d.1)), (4, (.int .i64 d.2))], h := [] }) (fun d => k (.exit 0) { n := 21, t := [(1, (.int .i64 d)), (4, .junk)], h := [] }) none := by
      kernel_rfl
    have hs : (fun s_ : Int × Int => L.heldIntS_L2 n { n := 21, t := [(0, (.ro false (.ints .i64 x0))), (1, (.int .i64 s_.1)), (5, (.int .i64 s_.2))], h := [] } k) = fun s_ => optC (L.heldIntS_run2 x0 n s_) (fun (r : (Int × Int) ⊕ (Int)) => (sumC r (fun (r : Int × Int) => k (.ret) { n := 21, t := [(1, (.int .i64 r.1)), (4, (.int .i64 r.2))], h := [] }) (fun (r : Int) => k (.exit 0) { n := 21, t := [(1, (.int .i64 r)), (4, .junk)], h := [] }))) none := funext ih
    rw [hu, hs]
    exact (L.heldIntS_step2_nat (fun o => optC o (fun (r : (Int × Int) ⊕ (Int)) => (sumC r (fun (r : Int × Int) => k (.ret) { n := 21, t := [(1, (.int .i64 r.1)), (4, (.int .i64 r.2))], h := [] }) (fun (r : Int) => k (.exit 0) { n := 21, t := [(1, (.int .i64 r)), (4, .junk)], h := [] }))) none) x0 s_.1 s_.2 (L.heldIntS_run2 x0 n) (fun d => some ((Sum.inl d))) (fun d => some ((Sum.inr d))) none).symm
noncomputable def L.heldIntS_tree {α : Type} (a : List Int) (k_ : Int) (leaf0_ : Int → α) (fail_ : α) : α :=
  (optC (L.heldIntS_run2 a FUEL (k_, 0)) (fun qy_1 => (sumC qy_1 (fun (qy_1 : Int × Int) => (leaf0_ qy_1.2)) (fun (qy_1 : Int) => (leaf0_ qy_1)))) fail_)
theorem L.heldIntS_tree_nat {α γ : Type} (g : α → γ) (a : List Int) (k_ : Int) (leaf0_ : Int → α) (fail_ : α) : g (L.heldIntS_tree a k_ leaf0_ fail_) = L.heldIntS_tree a k_ (fun d => g (leaf0_ d)) (g fail_) := by
  unfold L.heldIntS_tree; simp only [apply_cnd g, apply_optC g, apply_sumC g]
noncomputable def L.heldIntS_t (a : List Int) (k_ : Int) : Option (Int) := L.heldIntS_tree a k_ (fun d => some d) none
theorem L.heldIntS_den (a : List Int) (k_ : Int) (κ : V → List E → R) : L.heldIntS_F [.ro false (.ints .i64 a), .int .i64 k_] [] κ = optC (L.heldIntS_t a k_) (fun (r : Int) => κ (.int .i64 r) []) none := by
  have hu : L.heldIntS_F [.ro false (.ints .i64 a), .int .i64 k_] [] κ = L.heldIntS_tree a k_ (fun d => κ (.int .i64 d) []) none := by
    refine Eq.trans (show L.heldIntS_F [.ro false (.ints .i64 a), .int .i64 k_] [] κ = (L.heldIntS_L2 FUEL { n := 21, t := [(0, (.ro false (.ints .i64 a))), (1, (.int .i64 k_)), (5, (.int .i64 0))], h := [] } (L.heldIntS_k2 κ)) by kernel_rfl) ?_
    refine (L.heldIntS_L2_run a FUEL (k_, 0) (L.heldIntS_k2 κ)).trans (optC_congr (fun qy_1 => ?_))
    rcases qy_1 with qy_1 | qy_1
    · kernel_rfl
    · kernel_rfl
  rw [hu]
  exact (L.heldIntS_tree_nat (fun o => optC o (fun (r : Int) => κ (.int .i64 r) []) none) a k_ (fun d => some d) none).symm
noncomputable def L.heldIntS_s : D.Spec where
  keep := false
  pure := true
  ds := [.int .i64, .invalid]
  sp := fun args h κ => match args, h with
    | [.ro false (.ints .i64 a), .int .i64 k_], [] => optC (L.heldIntS_t a k_) (fun (r : Int) => κ (.int .i64 r) []) none
    | _, _ => none
theorem L.heldIntS_ok : SpecOk Try.prog 35 L.heldIntS_s := by
  refine SpecOk.of TDok mixed (T := L.heldIntS_T) ?_ (ann := L.heldIntS_ann) Try.func35 rfl (by decide +kernel) ?_ ?_ ?_
  · intro p hp; cases hp
  · intro args h κ r hh
    simp only [L.heldIntS_s] at hh
    split at hh
    · exact (L.heldIntS_den _ _ κ).trans hh
    · cases hh
  · intro args h κ r hh
    simp only [L.heldIntS_s] at hh ⊢
    split at hh
    · exact optC_law2 (F := fun (r : Int) κ => κ (.int .i64 r) []) (fun b κ r hb => ⟨_, _, hb, fun _ => rfl⟩) hh
    · cases hh
  · intro _ args h κ r hh
    simp only [L.heldIntS_s] at hh
    split at hh
    · exact ⟨rfl, fun _ => rfl⟩
    · cases hh

-- loop.example/guardsonnets/laws.FnExactRomanRow
noncomputable def L.FnExactRomanRow_T : List (Nat × D.Spec) := [(23, L.toIntS_s), (30, S.RomanRow_s), (28, I.RomanRow_s), (24, L.eqIntS_s), (34, L.markIntS_s), (35, L.heldIntS_s)]
def L.FnExactRomanRow_ann : Nat → List Nat × List Nat
  | _ => ([], [])
noncomputable def L.FnExactRomanRow_F (args : List V) (h : List E) (κ : V → List E → R) : R := funC TD (tableK L.FnExactRomanRow_T) L.FnExactRomanRow_ann (drawOk (tableP L.FnExactRomanRow_T)) FUEL Try.f8 args h κ
noncomputable def L.FnExactRomanRow_tree {α : Type} (aNet : List Int) (leaf0_ : Bool → α) (fail_ : α) : α :=
  (bif decide ((↑aNet.length : Int) > 1048576) then (leaf0_ true) else (optC (L.toIntS_t aNet) (fun c_1 => (optC (S.RomanRow_t c_1) (fun c_2 => (optC (L.toIntS_t aNet) (fun c_3 => (optC (I.RomanRow_t c_3) (fun c_4 => (optC (L.eqIntS_t c_4 c_2) (fun c_5 => (bif !c_5 then (leaf0_ false) else (optC (L.toIntS_t aNet) (fun c_6 => (optC (L.eqIntS_t c_3 c_6) (fun c_7 => (bif !c_7 then (leaf0_ false) else (optC (L.markIntS_t c_3 1) (fun c_8 => (bif decide (c_8.fst < 0) then (leaf0_ false) else (optC (L.eqIntS_t c_4 c_2) (fun c_9 => (bif !c_9 then (leaf0_ false) else (optC (L.markIntS_t c_4 1) (fun c_10 => (optC (L.heldIntS_t c_10.snd 1) (fun c_11 => (bif decide (c_11 < 0) then (leaf0_ false) else (bif !c_11 == c_10.fst then (leaf0_ false) else (optC (L.toIntS_t aNet) (fun c_12 => (optC (I.RomanRow_t c_12) (fun c_13 => (optC (L.eqIntS_t c_13 c_2) (fun c_14 => (bif !c_14 then (leaf0_ false) else (optC (L.heldIntS_t c_10.snd 1) (fun c_15 => (bif decide (c_15 < 0) then (leaf0_ false) else (bif !c_15 == c_10.fst then (leaf0_ false) else (leaf0_ true)))) fail_))) fail_)) fail_)) fail_)))) fail_)) fail_))) fail_))) fail_))) fail_)) fail_))) fail_)) fail_)) fail_)) fail_)) fail_))
theorem L.FnExactRomanRow_tree_nat {α γ : Type} (g : α → γ) (aNet : List Int) (leaf0_ : Bool → α) (fail_ : α) : g (L.FnExactRomanRow_tree aNet leaf0_ fail_) = L.FnExactRomanRow_tree aNet (fun d => g (leaf0_ d)) (g fail_) := by
  unfold L.FnExactRomanRow_tree; simp only [apply_cnd g, apply_optC g, apply_sumC g]
noncomputable def L.FnExactRomanRow_t (aNet : List Int) : Option (Bool) := L.FnExactRomanRow_tree aNet (fun d => some d) none
theorem L.FnExactRomanRow_den (aNet : List Int) (κ : V → List E → R) : L.FnExactRomanRow_F [.ro true (.ints .i64 aNet)] [] κ = optC (L.FnExactRomanRow_t aNet) (fun (r : Bool) => κ (.bool r) []) none := by
  have hu : L.FnExactRomanRow_F [.ro true (.ints .i64 aNet)] [] κ = L.FnExactRomanRow_tree aNet (fun d => κ (.bool d) []) none := by
    kernel_rfl
  rw [hu]
  exact (L.FnExactRomanRow_tree_nat (fun o => optC o (fun (r : Bool) => κ (.bool r) []) none) aNet (fun d => some d) none).symm
noncomputable def L.FnExactRomanRow_s : D.Spec where
  keep := true
  pure := true
  ds := [.int .i64]
  sp := fun args h κ => match args, h with
    | [.ro true (.ints .i64 aNet)], [] => optC (L.FnExactRomanRow_t aNet) (fun (r : Bool) => κ (.bool r) []) none
    | _, _ => none
theorem L.FnExactRomanRow_ok : SpecOk Try.prog 8 L.FnExactRomanRow_s := by
  refine SpecOk.of TDok mixed (T := L.FnExactRomanRow_T) ?_ (ann := L.FnExactRomanRow_ann) Try.func8 rfl (by decide +kernel) ?_ ?_ ?_
  · intro p hp
    simp only [L.FnExactRomanRow_T, List.mem_cons, List.not_mem_nil, or_false] at hp
    rcases hp with rfl | rfl | rfl | rfl | rfl | rfl
    · exact L.toIntS_ok
    · exact S.RomanRow_ok
    · exact I.RomanRow_ok
    · exact L.eqIntS_ok
    · exact L.markIntS_ok
    · exact L.heldIntS_ok
  · intro args h κ r hh
    simp only [L.FnExactRomanRow_s] at hh
    split at hh
    · exact (L.FnExactRomanRow_den _ κ).trans hh
    · cases hh
  · intro args h κ r hh
    simp only [L.FnExactRomanRow_s] at hh ⊢
    split at hh
    · exact optC_law2 (F := fun (r : Bool) κ => κ (.bool r) []) (fun b κ r hb => ⟨_, _, hb, fun _ => rfl⟩) hh
    · cases hh
  · intro _ args h κ r hh
    simp only [L.FnExactRomanRow_s] at hh
    split at hh
    · exact ⟨rfl, fun _ => rfl⟩
    · cases hh

-- loop.example/guardsonnets/spec.DrawFewestRoman
noncomputable def S.DrawFewestRoman_T : List (Nat × D.Spec) := [(48, S.l20Open_s), (58, S.l20Net_s)]
def S.DrawFewestRoman_ann : Nat → List Nat × List Nat
  | _ => ([], [])
noncomputable def S.DrawFewestRoman_F (args : List V) (h : List E) (κ : V → List E → R) : R := funC TD (tableK S.DrawFewestRoman_T) S.DrawFewestRoman_ann (drawOk (tableP S.DrawFewestRoman_T)) FUEL Try.f36 args h κ
noncomputable def S.DrawFewestRoman_tree {α : Type} (code : List Int) (leaf0_ : List Int → α) (fail_ : α) : α :=
  (optC (S.l20Open_t code) (fun c_1 => (optC (S.l20Net_t c_1.fst c_1.snd 9) (fun c_2 => (leaf0_ c_2.snd.snd)) fail_)) fail_)
theorem S.DrawFewestRoman_tree_nat {α γ : Type} (g : α → γ) (code : List Int) (leaf0_ : List Int → α) (fail_ : α) : g (S.DrawFewestRoman_tree code leaf0_ fail_) = S.DrawFewestRoman_tree code (fun d => g (leaf0_ d)) (g fail_) := by
  unfold S.DrawFewestRoman_tree; simp only [apply_cnd g, apply_optC g, apply_sumC g]
noncomputable def S.DrawFewestRoman_t (code : List Int) : Option (List Int) := S.DrawFewestRoman_tree code (fun d => some d) none
theorem S.DrawFewestRoman_den (code : List Int) (κ : V → List E → R) : S.DrawFewestRoman_F [.ro true (.ints .u8 code)] [] κ = optC (S.DrawFewestRoman_t code) (fun (r : List Int) => κ (.own 0) [.row (.ints .i64 r)]) none := by
  have hu : S.DrawFewestRoman_F [.ro true (.ints .u8 code)] [] κ = S.DrawFewestRoman_tree code (fun d => κ (.own 0) [.row (.ints .i64 d)]) none := by
    kernel_rfl
  rw [hu]
  exact (S.DrawFewestRoman_tree_nat (fun o => optC o (fun (r : List Int) => κ (.own 0) [.row (.ints .i64 r)]) none) code (fun d => some d) none).symm
noncomputable def S.DrawFewestRoman_s : D.Spec where
  keep := true
  pure := false
  ds := [.int .u8]
  sp := fun args h κ => match args, h with
    | [.ro true (.ints .u8 code)], [] => optC (S.DrawFewestRoman_t code) (fun (r : List Int) => κ (.own 0) [.row (.ints .i64 r)]) none
    | _, _ => none
theorem S.DrawFewestRoman_ok : SpecOk Try.prog 36 S.DrawFewestRoman_s := by
  refine SpecOk.of TDok mixed (T := S.DrawFewestRoman_T) ?_ (ann := S.DrawFewestRoman_ann) Try.func36 rfl (by decide +kernel) ?_ ?_ ?_
  · intro p hp
    simp only [S.DrawFewestRoman_T, List.mem_cons, List.not_mem_nil, or_false] at hp
    rcases hp with rfl | rfl
    · exact S.l20Open_ok
    · exact S.l20Net_ok
  · intro args h κ r hh
    simp only [S.DrawFewestRoman_s] at hh
    split at hh
    · exact (S.DrawFewestRoman_den _ κ).trans hh
    · cases hh
  · intro args h κ r hh
    simp only [S.DrawFewestRoman_s] at hh ⊢
    split at hh
    · exact optC_law2 (F := fun (r : List Int) κ => κ (.own 0) [.row (.ints .i64 r)]) (fun b κ r hb => ⟨_, _, hb, fun _ => rfl⟩) hh
    · cases hh
  · intro hh; cases hh

-- loop.example/guardsonnets/spec.FewestRoman
noncomputable def S.FewestRoman_T : List (Nat × D.Spec) := [(60, S.NetOk_s), (30, S.RomanRow_s), (63, S.l7Sum_s)]
def S.FewestRoman_ann : Nat → List Nat × List Nat
  | _ => ([], [])
noncomputable def S.FewestRoman_F (args : List V) (h : List E) (κ : V → List E → R) : R := funC TD (tableK S.FewestRoman_T) S.FewestRoman_ann (drawOk (tableP S.FewestRoman_T)) FUEL Try.f37 args h κ
noncomputable def S.FewestRoman_tree {α : Type} (net : List Int) (leaf0_ : Int → α) (fail_ : α) : α :=
  (optC (S.NetOk_t net) (fun c_1 => (bif !c_1 then (leaf0_ (-1)) else (optC (S.RomanRow_t net) (fun c_2 => (optC (S.l7Sum_t c_2) (fun c_3 => (leaf0_ c_3)) fail_)) fail_))) fail_)
theorem S.FewestRoman_tree_nat {α γ : Type} (g : α → γ) (net : List Int) (leaf0_ : Int → α) (fail_ : α) : g (S.FewestRoman_tree net leaf0_ fail_) = S.FewestRoman_tree net (fun d => g (leaf0_ d)) (g fail_) := by
  unfold S.FewestRoman_tree; simp only [apply_cnd g, apply_optC g, apply_sumC g]
noncomputable def S.FewestRoman_t (net : List Int) : Option (Int) := S.FewestRoman_tree net (fun d => some d) none
theorem S.FewestRoman_den (net : List Int) (κ : V → List E → R) : S.FewestRoman_F [.ro false (.ints .i64 net)] [] κ = optC (S.FewestRoman_t net) (fun (r : Int) => κ (.int .i64 r) []) none := by
  have hu : S.FewestRoman_F [.ro false (.ints .i64 net)] [] κ = S.FewestRoman_tree net (fun d => κ (.int .i64 d) []) none := by
    kernel_rfl
  rw [hu]
  exact (S.FewestRoman_tree_nat (fun o => optC o (fun (r : Int) => κ (.int .i64 r) []) none) net (fun d => some d) none).symm
noncomputable def S.FewestRoman_s : D.Spec where
  keep := false
  pure := true
  ds := [.int .i64]
  sp := fun args h κ => match args, h with
    | [.ro false (.ints .i64 net)], [] => optC (S.FewestRoman_t net) (fun (r : Int) => κ (.int .i64 r) []) none
    | _, _ => none
theorem S.FewestRoman_ok : SpecOk Try.prog 37 S.FewestRoman_s := by
  refine SpecOk.of TDok mixed (T := S.FewestRoman_T) ?_ (ann := S.FewestRoman_ann) Try.func37 rfl (by decide +kernel) ?_ ?_ ?_
  · intro p hp
    simp only [S.FewestRoman_T, List.mem_cons, List.not_mem_nil, or_false] at hp
    rcases hp with rfl | rfl | rfl
    · exact S.NetOk_ok
    · exact S.RomanRow_ok
    · exact S.l7Sum_ok
  · intro args h κ r hh
    simp only [S.FewestRoman_s] at hh
    split at hh
    · exact (S.FewestRoman_den _ κ).trans hh
    · cases hh
  · intro args h κ r hh
    simp only [S.FewestRoman_s] at hh ⊢
    split at hh
    · exact optC_law2 (F := fun (r : Int) κ => κ (.int .i64 r) []) (fun b κ r hb => ⟨_, _, hb, fun _ => rfl⟩) hh
    · cases hh
  · intro _ args h κ r hh
    simp only [S.FewestRoman_s] at hh
    split at hh
    · exact ⟨rfl, fun _ => rfl⟩
    · cases hh

-- loop.example/guardsonnets/laws.sizeOf
noncomputable def L.sizeOf_T : List (Nat × D.Spec) := []
def L.sizeOf_ann : Nat → List Nat × List Nat
  | 2 => ([0, 3], [3])
  | _ => ([], [])
noncomputable def L.sizeOf_F (args : List V) (h : List E) (κ : V → List E → R) : R := funC TD (tableK L.sizeOf_T) L.sizeOf_ann (drawOk (tableP L.sizeOf_T)) FUEL Try.f38 args h κ
noncomputable def L.sizeOf_L2 (n : Nat) (σ : St) (k : X → St → R) : R := iterC 0 (fun σ k => denC TD (tableK L.sizeOf_T) L.sizeOf_ann (drawOk (tableP L.sizeOf_T)) 0 FUEL ((findLoop 2 (Try.f38.body.getD .skip)).getD .skip) σ k) [0, 3] [3] n σ k
noncomputable def L.sizeOf_k2 (κ : V → List E → R) : X → St → R := (afterC TD (tableK L.sizeOf_T) L.sizeOf_ann (drawOk (tableP L.sizeOf_T)) 0 FUEL 2 (Try.f38.body.getD .skip) (finC TD 0 Try.f38 κ)).getD (fun _ _ => none)
noncomputable def L.sizeOf_step2 {α : Type} (x0 : Int) (x3 : Int) (next_ : Int × Int → α) (out0_ : Int → α) (fail_ : α) : α :=
  (bif decide (x0 > 0) then (next_ (IntKind.i64.wrap (x0.tdiv 2), IntKind.i64.wrap (x3 + x0.tmod 2))) else (out0_ x3))
theorem L.sizeOf_step2_nat {α γ : Type} (g : α → γ) (x0 : Int) (x3 : Int) (next_ : Int × Int → α) (out0_ : Int → α) (fail_ : α) : g (L.sizeOf_step2 x0 x3 next_ out0_ fail_) = L.sizeOf_step2 x0 x3 (fun s => g (next_ s)) (fun d => g (out0_ d)) (g fail_) := by
  unfold L.sizeOf_step2; simp only [apply_cnd g, apply_optC g, apply_sumC g]
noncomputable def L.sizeOf_run2 : Nat → Int × Int → Option (Int)
  | 0, _ => none
  | n + 1, s_ => L.sizeOf_step2 s_.1 s_.2 (L.sizeOf_run2 n) (fun d => some d) none
theorem L.sizeOf_L2_run (n : Nat) (s_ : Int × Int) (k : X → St → R) : L.sizeOf_L2 n { n := 13, t := [(0, (.int .i64 s_.1)), (3, (.int .i64 s_.2))], h := [] } k = optC (L.sizeOf_run2 n s_) (fun (r : Int) => k (.exit 0) { n := 13, t := [(3, (.int .i64 r))], h := [] }) none := by
  induction n generalizing s_ with
  | zero => rfl
  | succ n ih =>
    have hu : L.sizeOf_L2 (n + 1) { n := 13, t := [(0, (.int .i64 s_.1)), (3, (.int .i64 s_.2))], h := [] } k = L.sizeOf_step2 s_.1 s_.2 (fun s_ => L.sizeOf_L2 n { n := 13, t := [(0, (.int .i64 s_.1)), (3, (.int .i64 s_.2))], h := [] } k) (fun d => k (.exit 0) { n := 13, t := [(3, (.int .i64 d))], h := [] }) none := by
      kernel_rfl
    have hs : (fun s_ : Int × Int => L.sizeOf_L2 n { n := 13, t := [(0, (.int .i64 s_.1)), (3, (.int .i64 s_.2))], h := [] } k) = fun s_ => optC (L.sizeOf_run2 n s_) (fun (r : Int) => k (.exit 0) { n := 13, t := [(3, (.int .i64 r))], h := [] }) none := funext ih
    rw [hu, hs]
    exact (L.sizeOf_step2_nat (fun o => optC o (fun (r : Int) => k (.exit 0) { n := 13, t := [(3, (.int .i64 r))], h := [] }) none) s_.1 s_.2 (L.sizeOf_run2 n) (fun d => some d) none).symm
noncomputable def L.sizeOf_tree {α : Type} (n_ : Int) (leaf0_ : Int → α) (fail_ : α) : α :=
  (optC (L.sizeOf_run2 FUEL (n_, 0)) (fun qy_1 => (leaf0_ qy_1)) fail_)
theorem L.sizeOf_tree_nat {α γ : Type} (g : α → γ) (n_ : Int) (leaf0_ : Int → α) (fail_ : α) : g (L.sizeOf_tree n_ leaf0_ fail_) = L.sizeOf_tree n_ (fun d => g (leaf0_ d)) (g fail_) := by
  unfold L.sizeOf_tree; simp only [apply_cnd g, apply_optC g, apply_sumC g]
noncomputable def L.sizeOf_t (n_ : Int) : Option (Int) := L.sizeOf_tree n_ (fun d => some d) none
theorem L.sizeOf_den (n_ : Int) (κ : V → List E → R) : L.sizeOf_F [.int .i64 n_] [] κ = optC (L.sizeOf_t n_) (fun (r : Int) => κ (.int .i64 r) []) none := by
  have hu : L.sizeOf_F [.int .i64 n_] [] κ = L.sizeOf_tree n_ (fun d => κ (.int .i64 d) []) none := by
    refine Eq.trans (show L.sizeOf_F [.int .i64 n_] [] κ = (L.sizeOf_L2 FUEL { n := 13, t := [(0, (.int .i64 n_)), (3, (.int .i64 0))], h := [] } (L.sizeOf_k2 κ)) by kernel_rfl) ?_
    refine (L.sizeOf_L2_run FUEL (n_, 0) (L.sizeOf_k2 κ)).trans (optC_congr (fun qy_1 => ?_))
    kernel_rfl
  rw [hu]
  exact (L.sizeOf_tree_nat (fun o => optC o (fun (r : Int) => κ (.int .i64 r) []) none) n_ (fun d => some d) none).symm
noncomputable def L.sizeOf_s : D.Spec where
  keep := false
  pure := true
  ds := [.invalid]
  sp := fun args h κ => match args, h with
    | [.int .i64 n_], [] => optC (L.sizeOf_t n_) (fun (r : Int) => κ (.int .i64 r) []) none
    | _, _ => none
theorem L.sizeOf_ok : SpecOk Try.prog 38 L.sizeOf_s := by
  refine SpecOk.of TDok mixed (T := L.sizeOf_T) ?_ (ann := L.sizeOf_ann) Try.func38 rfl (by decide +kernel) ?_ ?_ ?_
  · intro p hp; cases hp
  · intro args h κ r hh
    simp only [L.sizeOf_s] at hh
    split at hh
    · exact (L.sizeOf_den _ κ).trans hh
    · cases hh
  · intro args h κ r hh
    simp only [L.sizeOf_s] at hh ⊢
    split at hh
    · exact optC_law2 (F := fun (r : Int) κ => κ (.int .i64 r) []) (fun b κ r hb => ⟨_, _, hb, fun _ => rfl⟩) hh
    · cases hh
  · intro _ args h κ r hh
    simp only [L.sizeOf_s] at hh
    split at hh
    · exact ⟨rfl, fun _ => rfl⟩
    · cases hh

-- loop.example/guardsonnets/impl.sizeOf
noncomputable def I.sizeOf_T : List (Nat × D.Spec) := []
def I.sizeOf_ann : Nat → List Nat × List Nat
  | 3 => ([0, 3, 4], [3])
  | _ => ([], [])
noncomputable def I.sizeOf_F (args : List V) (h : List E) (κ : V → List E → R) : R := funC TD (tableK I.sizeOf_T) I.sizeOf_ann (drawOk (tableP I.sizeOf_T)) FUEL Try.f67 args h κ
noncomputable def I.sizeOf_L3 (n : Nat) (σ : St) (k : X → St → R) : R := iterC 0 (fun σ k => denC TD (tableK I.sizeOf_T) I.sizeOf_ann (drawOk (tableP I.sizeOf_T)) 0 FUEL ((findLoop 3 (Try.f67.body.getD .skip)).getD .skip) σ k) [0, 3, 4] [3] n σ k
noncomputable def I.sizeOf_k3 (κ : V → List E → R) : X → St → R := (afterC TD (tableK I.sizeOf_T) I.sizeOf_ann (drawOk (tableP I.sizeOf_T)) 0 FUEL 3 (Try.f67.body.getD .skip) (finC TD 0 Try.f67 κ)).getD (fun _ _ => none)
noncomputable def I.sizeOf_step3 {α : Type} (x0 : Int) (x3 : Int) (x4 : Int) (next_ : Int × Int → α) (out0_ : Int → α) (fail_ : α) : α :=
  (bif decide (x4 < 6) then (bif decide (x4 < 0) then fail_ else (next_ (IntKind.i64.wrap (x3 + bits BinOp.and IntKind.i64 (x0.fdiv (2 ^ min x4.toNat IntKind.i64.bits)) 1), IntKind.i64.wrap (x4 + 1)))) else (out0_ x3))
theorem I.sizeOf_step3_nat {α γ : Type} (g : α → γ) (x0 : Int) (x3 : Int) (x4 : Int) (next_ : Int × Int → α) (out0_ : Int → α) (fail_ : α) : g (I.sizeOf_step3 x0 x3 x4 next_ out0_ fail_) = I.sizeOf_step3 x0 x3 x4 (fun s => g (next_ s)) (fun d => g (out0_ d)) (g fail_) := by
  unfold I.sizeOf_step3; simp only [apply_cnd g, apply_optC g, apply_sumC g]
noncomputable def I.sizeOf_run3 (x0 : Int) : Nat → Int × Int → Option (Int)
  | 0, _ => none
  | n + 1, s_ => I.sizeOf_step3 x0 s_.1 s_.2 (I.sizeOf_run3 x0 n) (fun d => some d) none
theorem I.sizeOf_L3_run (x0 : Int) (n : Nat) (s_ : Int × Int) (k : X → St → R) : I.sizeOf_L3 n { n := 16, t := [(0, (.int .i64 x0)), (3, (.int .i64 s_.1)), (4, (.int .i64 s_.2))], h := [] } k = optC (I.sizeOf_run3 x0 n s_) (fun (r : Int) => k (.exit 0) { n := 16, t := [(3, (.int .i64 r))], h := [] }) none := by
  induction n generalizing s_ with
  | zero => rfl
  | succ n ih =>
    have hu : I.sizeOf_L3 (n + 1) { n := 16, t := [(0, (.int .i64 x0)), (3, (.int .i64 s_.1)), (4, (.int .i64 s_.2))], h := [] } k = I.sizeOf_step3 x0 s_.1 s_.2 (fun s_ => I.sizeOf_L3 n { n := 16, t := [(0, (.int .i64 x0)), (3, (.int .i64 s_.1)), (4, (.int .i64 s_.2))], h := [] } k) (fun d => k (.exit 0) { n := 16, t := [(3, (.int .i64 d))], h := [] }) none := by
      kernel_rfl
    have hs : (fun s_ : Int × Int => I.sizeOf_L3 n { n := 16, t := [(0, (.int .i64 x0)), (3, (.int .i64 s_.1)), (4, (.int .i64 s_.2))], h := [] } k) = fun s_ => optC (I.sizeOf_run3 x0 n s_) (fun (r : Int) => k (.exit 0) { n := 16, t := [(3, (.int .i64 r))], h := [] }) none := funext ih
    rw [hu, hs]
    exact (I.sizeOf_step3_nat (fun o => optC o (fun (r : Int) => k (.exit 0) { n := 16, t := [(3, (.int .i64 r))], h := [] }) none) x0 s_.1 s_.2 (I.sizeOf_run3 x0 n) (fun d => some d) none).symm
noncomputable def I.sizeOf_tree {α : Type} (set_ : Int) (leaf0_ : Int → α) (fail_ : α) : α :=
  (optC (I.sizeOf_run3 set_ FUEL (0, 0)) (fun qy_1 => (leaf0_ qy_1)) fail_)
theorem I.sizeOf_tree_nat {α γ : Type} (g : α → γ) (set_ : Int) (leaf0_ : Int → α) (fail_ : α) : g (I.sizeOf_tree set_ leaf0_ fail_) = I.sizeOf_tree set_ (fun d => g (leaf0_ d)) (g fail_) := by
  unfold I.sizeOf_tree; simp only [apply_cnd g, apply_optC g, apply_sumC g]
noncomputable def I.sizeOf_t (set_ : Int) : Option (Int) := I.sizeOf_tree set_ (fun d => some d) none
theorem I.sizeOf_den (set_ : Int) (κ : V → List E → R) : I.sizeOf_F [.int .i64 set_] [] κ = optC (I.sizeOf_t set_) (fun (r : Int) => κ (.int .i64 r) []) none := by
  have hu : I.sizeOf_F [.int .i64 set_] [] κ = I.sizeOf_tree set_ (fun d => κ (.int .i64 d) []) none := by
    refine Eq.trans (show I.sizeOf_F [.int .i64 set_] [] κ = (I.sizeOf_L3 FUEL { n := 16, t := [(0, (.int .i64 set_)), (3, (.int .i64 0)), (4, (.int .i64 0))], h := [] } (I.sizeOf_k3 κ)) by kernel_rfl) ?_
    refine (I.sizeOf_L3_run set_ FUEL (0, 0) (I.sizeOf_k3 κ)).trans (optC_congr (fun qy_1 => ?_))
    kernel_rfl
  rw [hu]
  exact (I.sizeOf_tree_nat (fun o => optC o (fun (r : Int) => κ (.int .i64 r) []) none) set_ (fun d => some d) none).symm
noncomputable def I.sizeOf_s : D.Spec where
  keep := false
  pure := true
  ds := [.invalid]
  sp := fun args h κ => match args, h with
    | [.int .i64 set_], [] => optC (I.sizeOf_t set_) (fun (r : Int) => κ (.int .i64 r) []) none
    | _, _ => none
theorem I.sizeOf_ok : SpecOk Try.prog 67 I.sizeOf_s := by
  refine SpecOk.of TDok mixed (T := I.sizeOf_T) ?_ (ann := I.sizeOf_ann) Try.func67 rfl (by decide +kernel) ?_ ?_ ?_
  · intro p hp; cases hp
  · intro args h κ r hh
    simp only [I.sizeOf_s] at hh
    split at hh
    · exact (I.sizeOf_den _ κ).trans hh
    · cases hh
  · intro args h κ r hh
    simp only [I.sizeOf_s] at hh ⊢
    split at hh
    · exact optC_law2 (F := fun (r : Int) κ => κ (.int .i64 r) []) (fun b κ r hb => ⟨_, _, hb, fun _ => rfl⟩) hh
    · cases hh
  · intro _ args h κ r hh
    simp only [I.sizeOf_s] at hh
    split at hh
    · exact ⟨rfl, fun _ => rfl⟩
    · cases hh

-- loop.example/guardsonnets/impl.smallWatchIn
noncomputable def I.smallWatchIn_T : List (Nat × D.Spec) := [(79, I.allOf_s), (67, I.sizeOf_s), (54, I.watchIn_s)]
def I.smallWatchIn_ann : Nat → List Nat × List Nat
  | 3 => ([0, 3, 4], [3])
  | _ => ([], [])
noncomputable def I.smallWatchIn_F (args : List V) (h : List E) (κ : V → List E → R) : R := funC TD (tableK I.smallWatchIn_T) I.smallWatchIn_ann (drawOk (tableP I.smallWatchIn_T)) FUEL Try.f68 args h κ
noncomputable def I.smallWatchIn_L3 (n : Nat) (σ : St) (k : X → St → R) : R := iterC 0 (fun σ k => denC TD (tableK I.smallWatchIn_T) I.smallWatchIn_ann (drawOk (tableP I.smallWatchIn_T)) 0 FUEL ((findLoop 3 (Try.f68.body.getD .skip)).getD .skip) σ k) [0, 3, 4] [3] n σ k
noncomputable def I.smallWatchIn_k3 (κ : V → List E → R) : X → St → R := (afterC TD (tableK I.smallWatchIn_T) I.smallWatchIn_ann (drawOk (tableP I.smallWatchIn_T)) 0 FUEL 3 (Try.f68.body.getD .skip) (finC TD 0 Try.f68 κ)).getD (fun _ _ => none)
noncomputable def I.smallWatchIn_step3 {α : Type} (x0 : List Int) (x3 : Int) (x4 : Int) (next_ : Int × Int → α) (out0_ : Int → α) (fail_ : α) : α :=
  (optC (I.allOf_t x0) (fun c_2 => (bif decide (x4 < c_2) then (optC (I.sizeOf_t x4) (fun c_3 => (optC (I.sizeOf_t x3) (fun c_4 => (bif decide (c_3 < c_4) then (optC (I.watchIn_t x0 x4) (fun c_5 => (bif c_5 then (next_ (x4, IntKind.i64.wrap (x4 + 1))) else (next_ (x3, IntKind.i64.wrap (x4 + 1))))) fail_) else (next_ (x3, IntKind.i64.wrap (x4 + 1))))) fail_)) fail_) else (out0_ x3))) fail_)
theorem I.smallWatchIn_step3_nat {α γ : Type} (g : α → γ) (x0 : List Int) (x3 : Int) (x4 : Int) (next_ : Int × Int → α) (out0_ : Int → α) (fail_ : α) : g (I.smallWatchIn_step3 x0 x3 x4 next_ out0_ fail_) = I.smallWatchIn_step3 x0 x3 x4 (fun s => g (next_ s)) (fun d => g (out0_ d)) (g fail_) := by
  unfold I.smallWatchIn_step3; simp only [apply_cnd g, apply_optC g, apply_sumC g]
noncomputable def I.smallWatchIn_run3 (x0 : List Int) : Nat → Int × Int → Option (Int)
  | 0, _ => none
  | n + 1, s_ => I.smallWatchIn_step3 x0 s_.1 s_.2 (I.smallWatchIn_run3 x0 n) (fun d => some d) none
theorem I.smallWatchIn_L3_run (x0 : List Int) (n : Nat) (s_ : Int × Int) (k : X → St → R) : I.smallWatchIn_L3 n { n := 25, t := [(0, (.ro false (.ints .i64 x0))), (3, (.int .i64 s_.1)), (4, (.int .i64 s_.2))], h := [] } k = optC (I.smallWatchIn_run3 x0 n s_) (fun (r : Int) => k (.exit 0) { n := 25, t := [(3, (.int .i64 r))], h := [] }) none := by
  induction n generalizing s_ with
  | zero => rfl
  | succ n ih =>
    have hu : I.smallWatchIn_L3 (n + 1) { n := 25, t := [(0, (.ro false (.ints .i64 x0))), (3, (.int .i64 s_.1)), (4, (.int .i64 s_.2))], h := [] } k = I.smallWatchIn_step3 x0 s_.1 s_.2 (fun s_ => I.smallWatchIn_L3 n { n := 25, t := [(0, (.ro false (.ints .i64 x0))), (3, (.int .i64 s_.1)), (4, (.int .i64 s_.2))], h := [] } k) (fun d => k (.exit 0) { n := 25, t := [(3, (.int .i64 d))], h := [] }) none := by
      kernel_rfl
    have hs : (fun s_ : Int × Int => I.smallWatchIn_L3 n { n := 25, t := [(0, (.ro false (.ints .i64 x0))), (3, (.int .i64 s_.1)), (4, (.int .i64 s_.2))], h := [] } k) = fun s_ => optC (I.smallWatchIn_run3 x0 n s_) (fun (r : Int) => k (.exit 0) { n := 25, t := [(3, (.int .i64 r))], h := [] }) none := funext ih
    rw [hu, hs]
    exact (I.smallWatchIn_step3_nat (fun o => optC o (fun (r : Int) => k (.exit 0) { n := 25, t := [(3, (.int .i64 r))], h := [] }) none) x0 s_.1 s_.2 (I.smallWatchIn_run3 x0 n) (fun d => some d) none).symm
noncomputable def I.smallWatchIn_tree {α : Type} (net : List Int) (leaf0_ : Int → α) (fail_ : α) : α :=
  (optC (I.allOf_t net) (fun c_1 => (optC (I.smallWatchIn_run3 net FUEL (c_1, 0)) (fun qy_6 => (leaf0_ qy_6)) fail_)) fail_)
theorem I.smallWatchIn_tree_nat {α γ : Type} (g : α → γ) (net : List Int) (leaf0_ : Int → α) (fail_ : α) : g (I.smallWatchIn_tree net leaf0_ fail_) = I.smallWatchIn_tree net (fun d => g (leaf0_ d)) (g fail_) := by
  unfold I.smallWatchIn_tree; simp only [apply_cnd g, apply_optC g, apply_sumC g]
noncomputable def I.smallWatchIn_t (net : List Int) : Option (Int) := I.smallWatchIn_tree net (fun d => some d) none
theorem I.smallWatchIn_den (net : List Int) (κ : V → List E → R) : I.smallWatchIn_F [.ro false (.ints .i64 net)] [] κ = optC (I.smallWatchIn_t net) (fun (r : Int) => κ (.int .i64 r) []) none := by
  have hu : I.smallWatchIn_F [.ro false (.ints .i64 net)] [] κ = I.smallWatchIn_tree net (fun d => κ (.int .i64 d) []) none := by
    refine Eq.trans (show I.smallWatchIn_F [.ro false (.ints .i64 net)] [] κ = (optC (I.allOf_t net) (fun c_1 => (I.smallWatchIn_L3 FUEL { n := 25, t := [(0, (.ro false (.ints .i64 net))), (3, (.int .i64 c_1)), (4, (.int .i64 0))], h := [] } (I.smallWatchIn_k3 κ))) none) by kernel_rfl) ?_
    refine optC_congr (fun c_1 => ?_)
    refine (I.smallWatchIn_L3_run net FUEL (c_1, 0) (I.smallWatchIn_k3 κ)).trans (optC_congr (fun qy_6 => ?_))
    kernel_rfl
  rw [hu]
  exact (I.smallWatchIn_tree_nat (fun o => optC o (fun (r : Int) => κ (.int .i64 r) []) none) net (fun d => some d) none).symm
noncomputable def I.smallWatchIn_s : D.Spec where
  keep := false
  pure := true
  ds := [.int .i64]
  sp := fun args h κ => match args, h with
    | [.ro false (.ints .i64 net)], [] => optC (I.smallWatchIn_t net) (fun (r : Int) => κ (.int .i64 r) []) none
    | _, _ => none
theorem I.smallWatchIn_ok : SpecOk Try.prog 68 I.smallWatchIn_s := by
  refine SpecOk.of TDok mixed (T := I.smallWatchIn_T) ?_ (ann := I.smallWatchIn_ann) Try.func68 rfl (by decide +kernel) ?_ ?_ ?_
  · intro p hp
    simp only [I.smallWatchIn_T, List.mem_cons, List.not_mem_nil, or_false] at hp
    rcases hp with rfl | rfl | rfl
    · exact I.allOf_ok
    · exact I.sizeOf_ok
    · exact I.watchIn_ok
  · intro args h κ r hh
    simp only [I.smallWatchIn_s] at hh
    split at hh
    · exact (I.smallWatchIn_den _ κ).trans hh
    · cases hh
  · intro args h κ r hh
    simp only [I.smallWatchIn_s] at hh ⊢
    split at hh
    · exact optC_law2 (F := fun (r : Int) κ => κ (.int .i64 r) []) (fun b κ r hb => ⟨_, _, hb, fun _ => rfl⟩) hh
    · cases hh
  · intro _ args h κ r hh
    simp only [I.smallWatchIn_s] at hh
    split at hh
    · exact ⟨rfl, fun _ => rfl⟩
    · cases hh

-- loop.example/guardsonnets/impl.FewestWatch
noncomputable def I.FewestWatch_T : List (Nat × D.Spec) := [(31, I.NetOk_s), (68, I.smallWatchIn_s), (67, I.sizeOf_s)]
def I.FewestWatch_ann : Nat → List Nat × List Nat
  | _ => ([], [])
noncomputable def I.FewestWatch_F (args : List V) (h : List E) (κ : V → List E → R) : R := funC TD (tableK I.FewestWatch_T) I.FewestWatch_ann (drawOk (tableP I.FewestWatch_T)) FUEL Try.f39 args h κ
noncomputable def I.FewestWatch_tree {α : Type} (net : List Int) (leaf0_ : Int → α) (fail_ : α) : α :=
  (optC (I.NetOk_t net) (fun c_1 => (bif !c_1 then (leaf0_ (-1)) else (optC (I.smallWatchIn_t net) (fun c_2 => (optC (I.sizeOf_t c_2) (fun c_3 => (leaf0_ c_3)) fail_)) fail_))) fail_)
theorem I.FewestWatch_tree_nat {α γ : Type} (g : α → γ) (net : List Int) (leaf0_ : Int → α) (fail_ : α) : g (I.FewestWatch_tree net leaf0_ fail_) = I.FewestWatch_tree net (fun d => g (leaf0_ d)) (g fail_) := by
  unfold I.FewestWatch_tree; simp only [apply_cnd g, apply_optC g, apply_sumC g]
noncomputable def I.FewestWatch_t (net : List Int) : Option (Int) := I.FewestWatch_tree net (fun d => some d) none
theorem I.FewestWatch_den (net : List Int) (κ : V → List E → R) : I.FewestWatch_F [.ro false (.ints .i64 net)] [] κ = optC (I.FewestWatch_t net) (fun (r : Int) => κ (.int .i64 r) []) none := by
  have hu : I.FewestWatch_F [.ro false (.ints .i64 net)] [] κ = I.FewestWatch_tree net (fun d => κ (.int .i64 d) []) none := by
    kernel_rfl
  rw [hu]
  exact (I.FewestWatch_tree_nat (fun o => optC o (fun (r : Int) => κ (.int .i64 r) []) none) net (fun d => some d) none).symm
noncomputable def I.FewestWatch_s : D.Spec where
  keep := false
  pure := true
  ds := [.int .i64]
  sp := fun args h κ => match args, h with
    | [.ro false (.ints .i64 net)], [] => optC (I.FewestWatch_t net) (fun (r : Int) => κ (.int .i64 r) []) none
    | _, _ => none
theorem I.FewestWatch_ok : SpecOk Try.prog 39 I.FewestWatch_s := by
  refine SpecOk.of TDok mixed (T := I.FewestWatch_T) ?_ (ann := I.FewestWatch_ann) Try.func39 rfl (by decide +kernel) ?_ ?_ ?_
  · intro p hp
    simp only [I.FewestWatch_T, List.mem_cons, List.not_mem_nil, or_false] at hp
    rcases hp with rfl | rfl | rfl
    · exact I.NetOk_ok
    · exact I.smallWatchIn_ok
    · exact I.sizeOf_ok
  · intro args h κ r hh
    simp only [I.FewestWatch_s] at hh
    split at hh
    · exact (I.FewestWatch_den _ κ).trans hh
    · cases hh
  · intro args h κ r hh
    simp only [I.FewestWatch_s] at hh ⊢
    split at hh
    · exact optC_law2 (F := fun (r : Int) κ => κ (.int .i64 r) []) (fun b κ r hb => ⟨_, _, hb, fun _ => rfl⟩) hh
    · cases hh
  · intro _ args h κ r hh
    simp only [I.FewestWatch_s] at hh
    split at hh
    · exact ⟨rfl, fun _ => rfl⟩
    · cases hh

-- loop.example/guardsonnets/impl.WiresOf
noncomputable def I.WiresOf_T : List (Nat × D.Spec) := [(31, I.NetOk_s), (67, I.sizeOf_s)]
def I.WiresOf_ann : Nat → List Nat × List Nat
  | 5 => ([0, 3, 4], [3])
  | _ => ([], [])
noncomputable def I.WiresOf_F (args : List V) (h : List E) (κ : V → List E → R) : R := funC TD (tableK I.WiresOf_T) I.WiresOf_ann (drawOk (tableP I.WiresOf_T)) FUEL Try.f40 args h κ
noncomputable def I.WiresOf_L5 (n : Nat) (σ : St) (k : X → St → R) : R := iterC 0 (fun σ k => denC TD (tableK I.WiresOf_T) I.WiresOf_ann (drawOk (tableP I.WiresOf_T)) 0 FUEL ((findLoop 5 (Try.f40.body.getD .skip)).getD .skip) σ k) [0, 3, 4] [3] n σ k
noncomputable def I.WiresOf_k5 (κ : V → List E → R) : X → St → R := (afterC TD (tableK I.WiresOf_T) I.WiresOf_ann (drawOk (tableP I.WiresOf_T)) 0 FUEL 5 (Try.f40.body.getD .skip) (finC TD 0 Try.f40 κ)).getD (fun _ _ => none)
noncomputable def I.WiresOf_step5 {α : Type} (x0 : List Int) (x3 : Int) (x4 : Int) (next_ : Int × Int → α) (out0_ : Int → α) (fail_ : α) : α :=
  (bif decide (x4 < (↑x0.length : Int)) then (bif decide (0 ≤ x4) && decide (x4 < (↑x0.length : Int)) then (optC (I.sizeOf_t (eli x0 x4.toNat)) (fun c_2 => (next_ (IntKind.i64.wrap (x3 + c_2), IntKind.i64.wrap (x4 + 1)))) fail_) else fail_) else (out0_ x3))
theorem I.WiresOf_step5_nat {α γ : Type} (g : α → γ) (x0 : List Int) (x3 : Int) (x4 : Int) (next_ : Int × Int → α) (out0_ : Int → α) (fail_ : α) : g (I.WiresOf_step5 x0 x3 x4 next_ out0_ fail_) = I.WiresOf_step5 x0 x3 x4 (fun s => g (next_ s)) (fun d => g (out0_ d)) (g fail_) := by
  unfold I.WiresOf_step5; simp only [apply_cnd g, apply_optC g, apply_sumC g]
noncomputable def I.WiresOf_run5 (x0 : List Int) : Nat → Int × Int → Option (Int)
  | 0, _ => none
  | n + 1, s_ => I.WiresOf_step5 x0 s_.1 s_.2 (I.WiresOf_run5 x0 n) (fun d => some d) none
theorem I.WiresOf_L5_run (x0 : List Int) (n : Nat) (s_ : Int × Int) (k : X → St → R) : I.WiresOf_L5 n { n := 23, t := [(0, (.ro false (.ints .i64 x0))), (3, (.int .i64 s_.1)), (4, (.int .i64 s_.2))], h := [] } k = optC (I.WiresOf_run5 x0 n s_) (fun (r : Int) => k (.exit 0) { n := 23, t := [(3, (.int .i64 r))], h := [] }) none := by
  induction n generalizing s_ with
  | zero => rfl
  | succ n ih =>
    have hu : I.WiresOf_L5 (n + 1) { n := 23, t := [(0, (.ro false (.ints .i64 x0))), (3, (.int .i64 s_.1)), (4, (.int .i64 s_.2))], h := [] } k = I.WiresOf_step5 x0 s_.1 s_.2 (fun s_ => I.WiresOf_L5 n { n := 23, t := [(0, (.ro false (.ints .i64 x0))), (3, (.int .i64 s_.1)), (4, (.int .i64 s_.2))], h := [] } k) (fun d => k (.exit 0) { n := 23, t := [(3, (.int .i64 d))], h := [] }) none := by
      kernel_rfl
    have hs : (fun s_ : Int × Int => I.WiresOf_L5 n { n := 23, t := [(0, (.ro false (.ints .i64 x0))), (3, (.int .i64 s_.1)), (4, (.int .i64 s_.2))], h := [] } k) = fun s_ => optC (I.WiresOf_run5 x0 n s_) (fun (r : Int) => k (.exit 0) { n := 23, t := [(3, (.int .i64 r))], h := [] }) none := funext ih
    rw [hu, hs]
    exact (I.WiresOf_step5_nat (fun o => optC o (fun (r : Int) => k (.exit 0) { n := 23, t := [(3, (.int .i64 r))], h := [] }) none) x0 s_.1 s_.2 (I.WiresOf_run5 x0 n) (fun d => some d) none).symm
noncomputable def I.WiresOf_tree {α : Type} (net : List Int) (leaf0_ : Int → α) (fail_ : α) : α :=
  (optC (I.NetOk_t net) (fun c_1 => (bif !c_1 then (leaf0_ (-1)) else (optC (I.WiresOf_run5 net FUEL (0, 0)) (fun qy_3 => (leaf0_ (IntKind.i64.wrap (qy_3.tdiv 2)))) fail_))) fail_)
theorem I.WiresOf_tree_nat {α γ : Type} (g : α → γ) (net : List Int) (leaf0_ : Int → α) (fail_ : α) : g (I.WiresOf_tree net leaf0_ fail_) = I.WiresOf_tree net (fun d => g (leaf0_ d)) (g fail_) := by
  unfold I.WiresOf_tree; simp only [apply_cnd g, apply_optC g, apply_sumC g]
noncomputable def I.WiresOf_t (net : List Int) : Option (Int) := I.WiresOf_tree net (fun d => some d) none
theorem I.WiresOf_den (net : List Int) (κ : V → List E → R) : I.WiresOf_F [.ro false (.ints .i64 net)] [] κ = optC (I.WiresOf_t net) (fun (r : Int) => κ (.int .i64 r) []) none := by
  have hu : I.WiresOf_F [.ro false (.ints .i64 net)] [] κ = I.WiresOf_tree net (fun d => κ (.int .i64 d) []) none := by
    refine Eq.trans (show I.WiresOf_F [.ro false (.ints .i64 net)] [] κ = (optC (I.NetOk_t net) (fun c_1 => (bif !c_1 then (κ (.int .i64 (-1)) []) else (I.WiresOf_L5 FUEL { n := 23, t := [(0, (.ro false (.ints .i64 net))), (3, (.int .i64 0)), (4, (.int .i64 0))], h := [] } (I.WiresOf_k5 κ)))) none) by kernel_rfl) ?_
    refine optC_congr (fun c_1 => ?_)
    refine cnd_congr ?_ ?_
    · kernel_rfl
    · refine (I.WiresOf_L5_run net FUEL (0, 0) (I.WiresOf_k5 κ)).trans (optC_congr (fun qy_3 => ?_))
      kernel_rfl
  rw [hu]
  exact (I.WiresOf_tree_nat (fun o => optC o (fun (r : Int) => κ (.int .i64 r) []) none) net (fun d => some d) none).symm
noncomputable def I.WiresOf_s : D.Spec where
  keep := false
  pure := true
  ds := [.int .i64]
  sp := fun args h κ => match args, h with
    | [.ro false (.ints .i64 net)], [] => optC (I.WiresOf_t net) (fun (r : Int) => κ (.int .i64 r) []) none
    | _, _ => none
theorem I.WiresOf_ok : SpecOk Try.prog 40 I.WiresOf_s := by
  refine SpecOk.of TDok mixed (T := I.WiresOf_T) ?_ (ann := I.WiresOf_ann) Try.func40 rfl (by decide +kernel) ?_ ?_ ?_
  · intro p hp
    simp only [I.WiresOf_T, List.mem_cons, List.not_mem_nil, or_false] at hp
    rcases hp with rfl | rfl
    · exact I.NetOk_ok
    · exact I.sizeOf_ok
  · intro args h κ r hh
    simp only [I.WiresOf_s] at hh
    split at hh
    · exact (I.WiresOf_den _ κ).trans hh
    · cases hh
  · intro args h κ r hh
    simp only [I.WiresOf_s] at hh ⊢
    split at hh
    · exact optC_law2 (F := fun (r : Int) κ => κ (.int .i64 r) []) (fun b κ r hb => ⟨_, _, hb, fun _ => rfl⟩) hh
    · cases hh
  · intro _ args h κ r hh
    simp only [I.WiresOf_s] at hh
    split at hh
    · exact ⟨rfl, fun _ => rfl⟩
    · cases hh


end Go.Proofs.Ytdkoofikeelhgaa
