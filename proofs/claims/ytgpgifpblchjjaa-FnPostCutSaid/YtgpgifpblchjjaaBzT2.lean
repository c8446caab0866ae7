/- Twins of the translated functions, with their proofs. Conditions: none. -/
import Derived.Test.YtgpgifpblchjjaaBzT1
set_option linter.unusedVariables false
set_option linter.unusedSimpArgs false
set_option linter.unusedSectionVars false
namespace Go.Proofs.Ytgpgifpblchjjaa
open D Go.RowKit
-- loop.example/guardsonnets/spec.DrawPostOk
noncomputable def S.DrawPostOk_T : List (Nat × D.Spec) := [(41, S.l20Open_s), (40, S.l20Post_s)]
def S.DrawPostOk_ann : Nat → List Nat × List Nat
  | _ => ([], [])
noncomputable def S.DrawPostOk_F (args : List V) (h : List E) (κ : V → List E → R) : R := funC TD (tableK S.DrawPostOk_T) S.DrawPostOk_ann (drawAny TD (tableP S.DrawPostOk_T)) FUEL Try.f11 args h κ
noncomputable def S.DrawPostOk_tree {α : Type} (code : List Int) (leaf0_ : Int × (List Int) × (List Int) → α) (leaf1_ : Int × Nat × Nat × (List Int) × (List Int) → α) (fail_ : α) : α :=
  (optC (S.l20Open_t code) (fun c_1 => (optC (S.l20Post_t c_1.fst c_1.snd 3) (fun c_2 => (sumC c_2 (fun c_3 => (leaf0_ (c_3.fst, c_3.snd.snd.snd.fst, c_3.snd.snd.snd.snd))) (fun c_3 => (leaf1_ (c_3.fst, c_3.snd.fst, c_3.snd.snd.fst, c_3.snd.snd.snd.snd.snd.fst, c_3.snd.snd.snd.snd.snd.snd))))) fail_)) fail_)
theorem S.DrawPostOk_tree_nat {α γ : Type} (g : α → γ) (code : List Int) (leaf0_ : Int × (List Int) × (List Int) → α) (leaf1_ : Int × Nat × Nat × (List Int) × (List Int) → α) (fail_ : α) : g (S.DrawPostOk_tree code leaf0_ leaf1_ fail_) = S.DrawPostOk_tree code (fun d => g (leaf0_ d)) (fun d => g (leaf1_ d)) (g fail_) := by
  unfold S.DrawPostOk_tree; simp only [apply_cnd g, apply_optC g, apply_sumC g]
noncomputable def S.DrawPostOk_t (code : List Int) : Option ((Int × (List Int) × (List Int)) ⊕ (Int × Nat × Nat × (List Int) × (List Int))) := S.DrawPostOk_tree code (fun d => some ((Sum.inl d))) (fun d => some ((Sum.inr d))) none
theorem S.DrawPostOk_den (code : List Int) (κ : V → List E → R) : S.DrawPostOk_F [.ro true (.ints .u8 code)] [] κ = optC (S.DrawPostOk_t code) (fun (r : (Int × (List Int) × (List Int)) ⊕ (Int × Nat × Nat × (List Int) × (List Int))) => (sumC r (fun (r : Int × (List Int) × (List Int)) => κ (.agg [(.own 0), (.int .i64 r.1), (.own 1)]) [.row (.ints .i64 r.2.1), .row (.ints .u8 r.2.2)]) (fun (r : Int × Nat × Nat × (List Int) × (List Int)) => κ (.agg [(.own 0), (.int .i64 r.1), (.sub 1 r.2.1 r.2.2.1)]) [.row (.ints .i64 r.2.2.2.1), .row (.ints .u8 r.2.2.2.2)]))) none := by
  have hu : S.DrawPostOk_F [.ro true (.ints .u8 code)] [] κ = S.DrawPostOk_tree code (fun d => κ (.agg [(.own 0), (.int .i64 d.1), (.own 1)]) [.row (.ints .i64 d.2.1), .row (.ints .u8 d.2.2)]) (fun d => κ (.agg [(.own 0), (.int .i64 d.1), (.sub 1 d.2.1 d.2.2.1)]) [.row (.ints .i64 d.2.2.2.1), .row (.ints .u8 d.2.2.2.2)]) none := by
    kernel_rfl
  rw [hu]
  exact (S.DrawPostOk_tree_nat (fun o => optC o (fun (r : (Int × (List Int) × (List Int)) ⊕ (Int × Nat × Nat × (List Int) × (List Int))) => (sumC r (fun (r : Int × (List Int) × (List Int)) => κ (.agg [(.own 0), (.int .i64 r.1), (.own 1)]) [.row (.ints .i64 r.2.1), .row (.ints .u8 r.2.2)]) (fun (r : Int × Nat × Nat × (List Int) × (List Int)) => κ (.agg [(.own 0), (.int .i64 r.1), (.sub 1 r.2.1 r.2.2.1)]) [.row (.ints .i64 r.2.2.2.1), .row (.ints .u8 r.2.2.2.2)]))) none) code (fun d => some ((Sum.inl d))) (fun d => some ((Sum.inr d))) none).symm
noncomputable def S.DrawPostOk_s : D.Spec where
  keep := true
  pure := false
  add := true
  ds := [.int .u8]
  sp := fun args h κ => match args, h with
    | [.ro true (.ints .u8 code)], [] => optC (S.DrawPostOk_t code) (fun (r : (Int × (List Int) × (List Int)) ⊕ (Int × Nat × Nat × (List Int) × (List Int))) => (sumC r (fun (r : Int × (List Int) × (List Int)) => κ (.agg [(.own 0), (.int .i64 r.1), (.own 1)]) [.row (.ints .i64 r.2.1), .row (.ints .u8 r.2.2)]) (fun (r : Int × Nat × Nat × (List Int) × (List Int)) => κ (.agg [(.own 0), (.int .i64 r.1), (.sub 1 r.2.1 r.2.2.1)]) [.row (.ints .i64 r.2.2.2.1), .row (.ints .u8 r.2.2.2.2)]))) none
    | _, _ => none
theorem S.DrawPostOk_ok : SpecOk Try.prog 11 S.DrawPostOk_s := by
  refine SpecOk.of TDok mixed (T := S.DrawPostOk_T) ?_ (ann := S.DrawPostOk_ann) Try.func11 rfl (by decide +kernel) ?_ ?_ ?_ ?_
  · intro p hp
    simp only [S.DrawPostOk_T, List.mem_cons, List.not_mem_nil, or_false] at hp
    rcases hp with rfl | rfl
    · exact S.l20Open_ok
    · exact S.l20Post_ok
  · intro args h κ r hh
    simp only [S.DrawPostOk_s] at hh
    split at hh
    · exact (S.DrawPostOk_den _ κ).trans hh
    · cases hh
  · intro args h κ r hh
    simp only [S.DrawPostOk_s] at hh ⊢
    split at hh
    · exact optC_law2 (F := fun (r : (Int × (List Int) × (List Int)) ⊕ (Int × Nat × Nat × (List Int) × (List Int))) κ => (sumC r (fun (r : Int × (List Int) × (List Int)) => κ (.agg [(.own 0), (.int .i64 r.1), (.own 1)]) [.row (.ints .i64 r.2.1), .row (.ints .u8 r.2.2)]) (fun (r : Int × Nat × Nat × (List Int) × (List Int)) => κ (.agg [(.own 0), (.int .i64 r.1), (.sub 1 r.2.1 r.2.2.1)]) [.row (.ints .i64 r.2.2.2.1), .row (.ints .u8 r.2.2.2.2)]))) (fun b κ r hb => by rcases b with b | b <;> exact ⟨_, _, hb, fun _ => rfl⟩) hh
    · cases hh
  · intro hh; cases hh
  · intro _ args h κ r hh
    simp only [S.DrawPostOk_s] at hh
    split at hh
    · rfl
    · cases hh


-- loop.example/guardsonnets/impl.placeAt
noncomputable def I.placeAt_T : List (Nat × D.Spec) := []
def I.placeAt_ann : Nat → List Nat × List Nat
  | _ => ([], [])
noncomputable def I.placeAt_F (args : List V) (h : List E) (κ : V → List E → R) : R := funC TD (tableK I.placeAt_T) I.placeAt_ann (drawAny TD (tableP I.placeAt_T)) FUEL Try.f68 args h κ
noncomputable def I.placeAt_tree {α : Type} (log : List Int) (ahead : Int) (leaf0_ : Int → α) (fail_ : α) : α :=
  (bif decide (0 ≤ IntKind.i64.wrap (3 * ahead)) && decide (IntKind.i64.wrap (3 * ahead) < (↑log.length : Int)) then (leaf0_ (IntKind.i64.wrap (IntKind.i64.wrap (eli log (IntKind.i64.wrap (3 * ahead)).toNat) - 1))) else fail_)
theorem I.placeAt_tree_nat {α γ : Type} (g : α → γ) (log : List Int) (ahead : Int) (leaf0_ : Int → α) (fail_ : α) : g (I.placeAt_tree log ahead leaf0_ fail_) = I.placeAt_tree log ahead (fun d => g (leaf0_ d)) (g fail_) := by
  unfold I.placeAt_tree; simp only [apply_cnd g, apply_optC g, apply_sumC g]
noncomputable def I.placeAt_t (log : List Int) (ahead : Int) : Option (Int) := I.placeAt_tree log ahead (fun d => some d) none
theorem I.placeAt_den (log : List Int) (ahead : Int) (κ : V → List E → R) : I.placeAt_F [.ro false (.ints .u8 log), .int .i64 ahead] [] κ = optC (I.placeAt_t log ahead) (fun (r : Int) => κ (.int .i64 r) []) none := by
  have hu : I.placeAt_F [.ro false (.ints .u8 log), .int .i64 ahead] [] κ = I.placeAt_tree log ahead (fun d => κ (.int .i64 d) []) none := by
    kernel_rfl
  rw [hu]
  exact (I.placeAt_tree_nat (fun o => optC o (fun (r : Int) => κ (.int .i64 r) []) none) log ahead (fun d => some d) none).symm
noncomputable def I.placeAt_s : D.Spec where
  keep := false
  pure := true
  add := true
  ds := [.int .u8, .invalid]
  sp := fun args h κ => match args, h with
    | [.ro false (.ints .u8 log), .int .i64 ahead], [] => optC (I.placeAt_t log ahead) (fun (r : Int) => κ (.int .i64 r) []) none
    | _, _ => none
theorem I.placeAt_ok : SpecOk Try.prog 68 I.placeAt_s := by
  refine SpecOk.of TDok mixed (T := I.placeAt_T) ?_ (ann := I.placeAt_ann) Try.func68 rfl (by decide +kernel) ?_ ?_ ?_ ?_
  · intro p hp; cases hp
  · intro args h κ r hh
    simp only [I.placeAt_s] at hh
    split at hh
    · exact (I.placeAt_den _ _ κ).trans hh
    · cases hh
  · intro args h κ r hh
    simp only [I.placeAt_s] at hh ⊢
    split at hh
    · exact optC_law2 (F := fun (r : Int) κ => κ (.int .i64 r) []) (fun b κ r hb => ⟨_, _, hb, fun _ => rfl⟩) hh
    · cases hh
  · intro _ args h κ r hh
    simp only [I.placeAt_s] at hh
    split at hh
    · exact ⟨rfl, fun _ => rfl⟩
    · cases hh
  · intro _ args h κ r hh
    simp only [I.placeAt_s] at hh
    split at hh
    · rfl
    · cases hh


-- loop.example/guardsonnets/impl.recordOf
noncomputable def I.recordOf_T : List (Nat × D.Spec) := []
def I.recordOf_ann : Nat → List Nat × List Nat
  | _ => ([], [])
noncomputable def I.recordOf_F (args : List V) (h : List E) (κ : V → List E → R) : R := funC TD (tableK I.recordOf_T) I.recordOf_ann (drawAny TD (tableP I.recordOf_T)) FUEL Try.f78 args h κ
noncomputable def I.recordOf_tree {α : Type} (place : Int) (ahead : Int) (leaf0_ : List Int → α) (fail_ : α) : α :=
  (leaf0_ ([IntKind.u8.wrap (IntKind.i64.wrap (place + 1)), IntKind.u8.wrap (IntKind.i64.wrap (ahead + 1)), IntKind.u8.wrap ((IntKind.i64.wrap (IntKind.i64.wrap (place + 1) * IntKind.i64.wrap (ahead + 7))).tmod 251)]))
theorem I.recordOf_tree_nat {α γ : Type} (g : α → γ) (place : Int) (ahead : Int) (leaf0_ : List Int → α) (fail_ : α) : g (I.recordOf_tree place ahead leaf0_ fail_) = I.recordOf_tree place ahead (fun d => g (leaf0_ d)) (g fail_) := by
  unfold I.recordOf_tree; simp only [apply_cnd g, apply_optC g, apply_sumC g]
noncomputable def I.recordOf_t (place : Int) (ahead : Int) : Option (List Int) := I.recordOf_tree place ahead (fun d => some d) none
theorem I.recordOf_den (place : Int) (ahead : Int) (κ : V → List E → R) : I.recordOf_F [.int .i64 place, .int .i64 ahead] [] κ = optC (I.recordOf_t place ahead) (fun (r : List Int) => κ (.own 0) [.row (.ints .u8 r)]) none := by
  have hu : I.recordOf_F [.int .i64 place, .int .i64 ahead] [] κ = I.recordOf_tree place ahead (fun d => κ (.own 0) [.row (.ints .u8 d)]) none := by
    kernel_rfl
  rw [hu]
  exact (I.recordOf_tree_nat (fun o => optC o (fun (r : List Int) => κ (.own 0) [.row (.ints .u8 r)]) none) place ahead (fun d => some d) none).symm
noncomputable def I.recordOf_s : D.Spec where
  keep := false
  pure := false
  add := true
  ds := [.invalid, .invalid]
  sp := fun args h κ => match args, h with
    | [.int .i64 place, .int .i64 ahead], [] => optC (I.recordOf_t place ahead) (fun (r : List Int) => κ (.own 0) [.row (.ints .u8 r)]) none
    | _, _ => none
theorem I.recordOf_ok : SpecOk Try.prog 78 I.recordOf_s := by
  refine SpecOk.of TDok mixed (T := I.recordOf_T) ?_ (ann := I.recordOf_ann) Try.func78 rfl (by decide +kernel) ?_ ?_ ?_ ?_
  · intro p hp; cases hp
  · intro args h κ r hh
    simp only [I.recordOf_s] at hh
    split at hh
    · exact (I.recordOf_den _ _ κ).trans hh
    · cases hh
  · intro args h κ r hh
    simp only [I.recordOf_s] at hh ⊢
    split at hh
    · exact optC_law2 (F := fun (r : List Int) κ => κ (.own 0) [.row (.ints .u8 r)]) (fun b κ r hb => ⟨_, _, hb, fun _ => rfl⟩) hh
    · cases hh
  · intro hh; cases hh
  · intro _ args h κ r hh
    simp only [I.recordOf_s] at hh
    split at hh
    · rfl
    · cases hh


-- loop.example/guardsonnets/impl.recordIn
noncomputable def I.recordIn_T : List (Nat × D.Spec) := [(68, I.placeAt_s), (78, I.recordOf_s)]
def I.recordIn_ann : Nat → List Nat × List Nat
  | _ => ([], [])
noncomputable def I.recordIn_F (args : List V) (h : List E) (κ : V → List E → R) : R := funC TD (tableK I.recordIn_T) I.recordIn_ann (drawAny TD (tableP I.recordIn_T)) FUEL Try.f67 args h κ
noncomputable def I.recordIn_tree {α : Type} (log : List Int) (ahead : Int) (leaf0_ : Bool → α) (fail_ : α) : α :=
  (bif decide (ahead ≥ 40) then (leaf0_ false) else (bif decide (IntKind.i64.wrap (IntKind.i64.wrap (3 * ahead) + 3) > (↑log.length : Int)) then (leaf0_ false) else (optC (I.placeAt_t log ahead) (fun c_1 => (bif decide (c_1 ≥ 0) then (bif decide (c_1 < 6) then (bif decide (0 ≤ IntKind.i64.wrap (3 * ahead)) && decide (IntKind.i64.wrap (3 * ahead) ≤ IntKind.i64.wrap (IntKind.i64.wrap (3 * ahead) + 3)) && decide (IntKind.i64.wrap (IntKind.i64.wrap (3 * ahead) + 3) ≤ (↑log.length : Int)) then (optC (I.recordOf_t c_1 ahead) (fun c_2 => (leaf0_ (strEq (bytesOf (List.take ((IntKind.i64.wrap (IntKind.i64.wrap (3 * ahead) + 3)).toNat - (IntKind.i64.wrap (3 * ahead)).toNat) (List.drop (IntKind.i64.wrap (3 * ahead)).toNat log))) (bytesOf c_2)))) fail_) else fail_) else (leaf0_ false)) else (leaf0_ false))) fail_)))
theorem I.recordIn_tree_nat {α γ : Type} (g : α → γ) (log : List Int) (ahead : Int) (leaf0_ : Bool → α) (fail_ : α) : g (I.recordIn_tree log ahead leaf0_ fail_) = I.recordIn_tree log ahead (fun d => g (leaf0_ d)) (g fail_) := by
  unfold I.recordIn_tree; simp only [apply_cnd g, apply_optC g, apply_sumC g]
noncomputable def I.recordIn_t (log : List Int) (ahead : Int) : Option (Bool) := I.recordIn_tree log ahead (fun d => some d) none
theorem I.recordIn_den (log : List Int) (ahead : Int) (κ : V → List E → R) : I.recordIn_F [.ro false (.ints .u8 log), .int .i64 ahead] [] κ = optC (I.recordIn_t log ahead) (fun (r : Bool) => κ (.bool r) []) none := by
  have hu : I.recordIn_F [.ro false (.ints .u8 log), .int .i64 ahead] [] κ = I.recordIn_tree log ahead (fun d => κ (.bool d) []) none := by
    kernel_rfl
  rw [hu]
  exact (I.recordIn_tree_nat (fun o => optC o (fun (r : Bool) => κ (.bool r) []) none) log ahead (fun d => some d) none).symm
noncomputable def I.recordIn_s : D.Spec where
  keep := false
  pure := true
  add := true
  ds := [.int .u8, .invalid]
  sp := fun args h κ => match args, h with
    | [.ro false (.ints .u8 log), .int .i64 ahead], [] => optC (I.recordIn_t log ahead) (fun (r : Bool) => κ (.bool r) []) none
    | _, _ => none
theorem I.recordIn_ok : SpecOk Try.prog 67 I.recordIn_s := by
  refine SpecOk.of TDok mixed (T := I.recordIn_T) ?_ (ann := I.recordIn_ann) Try.func67 rfl (by decide +kernel) ?_ ?_ ?_ ?_
  · intro p hp
    simp only [I.recordIn_T, List.mem_cons, List.not_mem_nil, or_false] at hp
    rcases hp with rfl | rfl
    · exact I.placeAt_ok
    · exact I.recordOf_ok
  · intro args h κ r hh
    simp only [I.recordIn_s] at hh
    split at hh
    · exact (I.recordIn_den _ _ κ).trans hh
    · cases hh
  · intro args h κ r hh
    simp only [I.recordIn_s] at hh ⊢
    split at hh
    · exact optC_law2 (F := fun (r : Bool) κ => κ (.bool r) []) (fun b κ r hb => ⟨_, _, hb, fun _ => rfl⟩) hh
    · cases hh
  · intro _ args h κ r hh
    simp only [I.recordIn_s] at hh
    split at hh
    · exact ⟨rfl, fun _ => rfl⟩
    · cases hh
  · intro _ args h κ r hh
    simp only [I.recordIn_s] at hh
    split at hh
    · rfl
    · cases hh


-- loop.example/guardsonnets/impl.LogPlaces
noncomputable def I.LogPlaces_T : List (Nat × D.Spec) := [(67, I.recordIn_s), (68, I.placeAt_s)]
def I.LogPlaces_ann : Nat → List Nat × List Nat
  | 2 => ([0, 4], [4])
  | _ => ([], [])
noncomputable def I.LogPlaces_F (args : List V) (h : List E) (κ : V → List E → R) : R := funC TD (tableK I.LogPlaces_T) I.LogPlaces_ann (drawAny TD (tableP I.LogPlaces_T)) FUEL Try.f42 args h κ
noncomputable def I.LogPlaces_L2 (n : Nat) (σ : St) (k : X → St → R) : R := iterC 0 (fun σ k => denC TD (tableK I.LogPlaces_T) I.LogPlaces_ann (drawAny TD (tableP I.LogPlaces_T)) 0 FUEL ((findLoop 2 (Try.f42.body.getD .skip)).getD .skip) σ k) [0, 4] [4] n σ k
noncomputable def I.LogPlaces_k2 (κ : V → List E → R) : X → St → R := (afterC TD (tableK I.LogPlaces_T) I.LogPlaces_ann (drawAny TD (tableP I.LogPlaces_T)) 0 FUEL 2 (Try.f42.body.getD .skip) (finC TD 0 Try.f42 κ)).getD (fun _ _ => none)
noncomputable def I.LogPlaces_step2 {α : Type} (x0 : List Int) (r0 : List Int) (next_ : List Int → α) (out0_ : List Int → α) (fail_ : α) : α :=
  (optC (I.recordIn_t x0 (↑r0.length : Int)) (fun c_1 => (bif c_1 then (optC (I.placeAt_t x0 (↑r0.length : Int)) (fun c_2 => (bif small (r0 ++ [c_2]).length then (next_ (r0 ++ [c_2])) else fail_)) fail_) else (out0_ r0))) fail_)
theorem I.LogPlaces_step2_nat {α γ : Type} (g : α → γ) (x0 : List Int) (r0 : List Int) (next_ : List Int → α) (out0_ : List Int → α) (fail_ : α) : g (I.LogPlaces_step2 x0 r0 next_ out0_ fail_) = I.LogPlaces_step2 x0 r0 (fun s => g (next_ s)) (fun d => g (out0_ d)) (g fail_) := by
  unfold I.LogPlaces_step2; simp only [apply_cnd g, apply_optC g, apply_sumC g]
noncomputable def I.LogPlaces_run2 (x0 : List Int) : Nat → List Int → Option (List Int)
  | 0, _ => none
  | n + 1, s_ => I.LogPlaces_step2 x0 s_ (I.LogPlaces_run2 x0 n) (fun d => some d) none
theorem I.LogPlaces_L2_run (x0 : List Int) (n : Nat) (s_ : List Int) (k : X → St → R) : I.LogPlaces_L2 n { n := 21, t := [(0, (.ro false (.ints .u8 x0))), (4, (.own 0))], h := [.row (.ints .i64 s_)] } k = optC (I.LogPlaces_run2 x0 n s_) (fun (r : List Int) => k (.exit 0) { n := 21, t := [(4, (.own 0))], h := [.row (.ints .i64 r)] }) none := by
  induction n generalizing s_ with
  | zero => rfl
  | succ n ih =>
    have hu : I.LogPlaces_L2 (n + 1) { n := 21, t := [(0, (.ro false (.ints .u8 x0))), (4, (.own 0))], h := [.row (.ints .i64 s_)] } k = I.LogPlaces_step2 x0 s_ (fun s_ => I.LogPlaces_L2 n { n := 21, t := [(0, (.ro false (.ints .u8 x0))), (4, (.own 0))], h := [.row (.ints .i64 s_)] } k) (fun d => k (.exit 0) { n := 21, t := [(4, (.own 0))], h := [.row (.ints .i64 d)] }) none := by
      kernel_rfl
    have hs : (fun s_ : List Int => I.LogPlaces_L2 n { n := 21, t := [(0, (.ro false (.ints .u8 x0))), (4, (.own 0))], h := [.row (.ints .i64 s_)] } k) = fun s_ => optC (I.LogPlaces_run2 x0 n s_) (fun (r : List Int) => k (.exit 0) { n := 21, t := [(4, (.own 0))], h := [.row (.ints .i64 r)] }) none := funext ih
    rw [hu, hs]
    exact (I.LogPlaces_step2_nat (fun o => optC o (fun (r : List Int) => k (.exit 0) { n := 21, t := [(4, (.own 0))], h := [.row (.ints .i64 r)] }) none) x0 s_ (I.LogPlaces_run2 x0 n) (fun d => some d) none).symm
noncomputable def I.LogPlaces_tree {α : Type} (log : List Int) (leaf0_ : Int × (List Int) → α) (fail_ : α) : α :=
  (optC (I.LogPlaces_run2 log FUEL ([])) (fun qy_3 => (leaf0_ (IntKind.i64.wrap (3 * (↑qy_3.length : Int)), qy_3))) fail_)
theorem I.LogPlaces_tree_nat {α γ : Type} (g : α → γ) (log : List Int) (leaf0_ : Int × (List Int) → α) (fail_ : α) : g (I.LogPlaces_tree log leaf0_ fail_) = I.LogPlaces_tree log (fun d => g (leaf0_ d)) (g fail_) := by
  unfold I.LogPlaces_tree; simp only [apply_cnd g, apply_optC g, apply_sumC g]
noncomputable def I.LogPlaces_t (log : List Int) : Option (Int × (List Int)) := I.LogPlaces_tree log (fun d => some d) none
theorem I.LogPlaces_den (log : List Int) (κ : V → List E → R) : I.LogPlaces_F [.ro false (.ints .u8 log)] [] κ = optC (I.LogPlaces_t log) (fun (r : Int × (List Int)) => κ (.tup [(.own 0), (.int .i64 r.1)]) [.row (.ints .i64 r.2)]) none := by
  have hu : I.LogPlaces_F [.ro false (.ints .u8 log)] [] κ = I.LogPlaces_tree log (fun d => κ (.tup [(.own 0), (.int .i64 d.1)]) [.row (.ints .i64 d.2)]) none := by
    refine Eq.trans (show I.LogPlaces_F [.ro false (.ints .u8 log)] [] κ = (I.LogPlaces_L2 FUEL { n := 21, t := [(0, (.ro false (.ints .u8 log))), (4, (.own 0))], h := [.row (.ints .i64 ([]))] } (I.LogPlaces_k2 κ)) by kernel_rfl) ?_
    refine (I.LogPlaces_L2_run log FUEL ([]) (I.LogPlaces_k2 κ)).trans (optC_congr (fun qy_3 => ?_))
    kernel_rfl
  rw [hu]
  exact (I.LogPlaces_tree_nat (fun o => optC o (fun (r : Int × (List Int)) => κ (.tup [(.own 0), (.int .i64 r.1)]) [.row (.ints .i64 r.2)]) none) log (fun d => some d) none).symm
noncomputable def I.LogPlaces_s : D.Spec where
  keep := false
  pure := false
  add := true
  ds := [.int .u8]
  sp := fun args h κ => match args, h with
    | [.ro false (.ints .u8 log)], [] => optC (I.LogPlaces_t log) (fun (r : Int × (List Int)) => κ (.tup [(.own 0), (.int .i64 r.1)]) [.row (.ints .i64 r.2)]) none
    | _, _ => none
theorem I.LogPlaces_ok : SpecOk Try.prog 42 I.LogPlaces_s := by
  refine SpecOk.of TDok mixed (T := I.LogPlaces_T) ?_ (ann := I.LogPlaces_ann) Try.func42 rfl (by decide +kernel) ?_ ?_ ?_ ?_
  · intro p hp
    simp only [I.LogPlaces_T, List.mem_cons, List.not_mem_nil, or_false] at hp
    rcases hp with rfl | rfl
    · exact I.recordIn_ok
    · exact I.placeAt_ok
  · intro args h κ r hh
    simp only [I.LogPlaces_s] at hh
    split at hh
    · exact (I.LogPlaces_den _ κ).trans hh
    · cases hh
  · intro args h κ r hh
    simp only [I.LogPlaces_s] at hh ⊢
    split at hh
    · exact optC_law2 (F := fun (r : Int × (List Int)) κ => κ (.tup [(.own 0), (.int .i64 r.1)]) [.row (.ints .i64 r.2)]) (fun b κ r hb => ⟨_, _, hb, fun _ => rfl⟩) hh
    · cases hh
  · intro hh; cases hh
  · intro _ args h κ r hh
    simp only [I.LogPlaces_s] at hh
    split at hh
    · rfl
    · cases hh


-- loop.example/guardsonnets/impl.setIn
noncomputable def I.setIn_T : List (Nat × D.Spec) := []
def I.setIn_ann : Nat → List Nat × List Nat
  | _ => ([], [])
noncomputable def I.setIn_F (args : List V) (h : List E) (κ : V → List E → R) : R := funC TD (tableK I.setIn_T) I.setIn_ann (drawAny TD (tableP I.setIn_T)) FUEL Try.f49 args h κ
noncomputable def I.setIn_tree {α : Type} (net : List Int) (set_ : Int) (leaf0_ : Bool → α) (fail_ : α) : α :=
  (bif decide (set_ ≥ 0) then (leaf0_ (decide (set_ < IntKind.i64.wrap (1 * 2 ^ min (↑net.length : Int).toNat IntKind.i64.bits)))) else (leaf0_ false))
theorem I.setIn_tree_nat {α γ : Type} (g : α → γ) (net : List Int) (set_ : Int) (leaf0_ : Bool → α) (fail_ : α) : g (I.setIn_tree net set_ leaf0_ fail_) = I.setIn_tree net set_ (fun d => g (leaf0_ d)) (g fail_) := by
  unfold I.setIn_tree; simp only [apply_cnd g, apply_optC g, apply_sumC g]
noncomputable def I.setIn_t (net : List Int) (set_ : Int) : Option (Bool) := I.setIn_tree net set_ (fun d => some d) none
theorem I.setIn_den (net : List Int) (set_ : Int) (κ : V → List E → R) : I.setIn_F [.ro false (.ints .i64 net), .int .i64 set_] [] κ = optC (I.setIn_t net set_) (fun (r : Bool) => κ (.bool r) []) none := by
  have hu : I.setIn_F [.ro false (.ints .i64 net), .int .i64 set_] [] κ = I.setIn_tree net set_ (fun d => κ (.bool d) []) none := by
    kernel_rfl
  rw [hu]
  exact (I.setIn_tree_nat (fun o => optC o (fun (r : Bool) => κ (.bool r) []) none) net set_ (fun d => some d) none).symm
noncomputable def I.setIn_s : D.Spec where
  keep := false
  pure := true
  add := true
  ds := [.int .i64, .invalid]
  sp := fun args h κ => match args, h with
    | [.ro false (.ints .i64 net), .int .i64 set_], [] => optC (I.setIn_t net set_) (fun (r : Bool) => κ (.bool r) []) none
    | _, _ => none
theorem I.setIn_ok : SpecOk Try.prog 49 I.setIn_s := by
  refine SpecOk.of TDok mixed (T := I.setIn_T) ?_ (ann := I.setIn_ann) Try.func49 rfl (by decide +kernel) ?_ ?_ ?_ ?_
  · intro p hp; cases hp
  · intro args h κ r hh
    simp only [I.setIn_s] at hh
    split at hh
    · exact (I.setIn_den _ _ κ).trans hh
    · cases hh
  · intro args h κ r hh
    simp only [I.setIn_s] at hh ⊢
    split at hh
    · exact optC_law2 (F := fun (r : Bool) κ => κ (.bool r) []) (fun b κ r hb => ⟨_, _, hb, fun _ => rfl⟩) hh
    · cases hh
  · intro _ args h κ r hh
    simp only [I.setIn_s] at hh
    split at hh
    · exact ⟨rfl, fun _ => rfl⟩
    · cases hh
  · intro _ args h κ r hh
    simp only [I.setIn_s] at hh
    split at hh
    · rfl
    · cases hh


-- loop.example/guardsonnets/impl.hasPlace
noncomputable def I.hasPlace_T : List (Nat × D.Spec) := []
def I.hasPlace_ann : Nat → List Nat × List Nat
  | _ => ([], [])
noncomputable def I.hasPlace_F (args : List V) (h : List E) (κ : V → List E → R) : R := funC TD (tableK I.hasPlace_T) I.hasPlace_ann (drawAny TD (tableP I.hasPlace_T)) FUEL Try.f69 args h κ
noncomputable def I.hasPlace_tree {α : Type} (set_ : Int) (place : Int) (leaf0_ : Bool → α) (fail_ : α) : α :=
  (bif decide (place < 0) then fail_ else (leaf0_ (bits BinOp.and IntKind.i64 (set_.fdiv (2 ^ min place.toNat IntKind.i64.bits)) 1 == 1)))
theorem I.hasPlace_tree_nat {α γ : Type} (g : α → γ) (set_ : Int) (place : Int) (leaf0_ : Bool → α) (fail_ : α) : g (I.hasPlace_tree set_ place leaf0_ fail_) = I.hasPlace_tree set_ place (fun d => g (leaf0_ d)) (g fail_) := by
  unfold I.hasPlace_tree; simp only [apply_cnd g, apply_optC g, apply_sumC g]
noncomputable def I.hasPlace_t (set_ : Int) (place : Int) : Option (Bool) := I.hasPlace_tree set_ place (fun d => some d) none
theorem I.hasPlace_den (set_ : Int) (place : Int) (κ : V → List E → R) : I.hasPlace_F [.int .i64 set_, .int .i64 place] [] κ = optC (I.hasPlace_t set_ place) (fun (r : Bool) => κ (.bool r) []) none := by
  have hu : I.hasPlace_F [.int .i64 set_, .int .i64 place] [] κ = I.hasPlace_tree set_ place (fun d => κ (.bool d) []) none := by
    kernel_rfl
  rw [hu]
  exact (I.hasPlace_tree_nat (fun o => optC o (fun (r : Bool) => κ (.bool r) []) none) set_ place (fun d => some d) none).symm
noncomputable def I.hasPlace_s : D.Spec where
  keep := false
  pure := true
  add := true
  ds := [.invalid, .invalid]
  sp := fun args h κ => match args, h with
    | [.int .i64 set_, .int .i64 place], [] => optC (I.hasPlace_t set_ place) (fun (r : Bool) => κ (.bool r) []) none
    | _, _ => none
theorem I.hasPlace_ok : SpecOk Try.prog 69 I.hasPlace_s := by
  refine SpecOk.of TDok mixed (T := I.hasPlace_T) ?_ (ann := I.hasPlace_ann) Try.func69 rfl (by decide +kernel) ?_ ?_ ?_ ?_
  · intro p hp; cases hp
  · intro args h κ r hh
    simp only [I.hasPlace_s] at hh
    split at hh
    · exact (I.hasPlace_den _ _ κ).trans hh
    · cases hh
  · intro args h κ r hh
    simp only [I.hasPlace_s] at hh ⊢
    split at hh
    · exact optC_law2 (F := fun (r : Bool) κ => κ (.bool r) []) (fun b κ r hb => ⟨_, _, hb, fun _ => rfl⟩) hh
    · cases hh
  · intro _ args h κ r hh
    simp only [I.hasPlace_s] at hh
    split at hh
    · exact ⟨rfl, fun _ => rfl⟩
    · cases hh
  · intro _ args h κ r hh
    simp only [I.hasPlace_s] at hh
    split at hh
    · rfl
    · cases hh


-- loop.example/guardsonnets/impl.knownBack
noncomputable def I.knownBack_T : List (Nat × D.Spec) := [(69, I.hasPlace_s)]
def I.knownBack_ann : Nat → List Nat × List Nat
  | 2 => ([0, 1, 5], [4])
  | _ => ([], [])
noncomputable def I.knownBack_F (args : List V) (h : List E) (κ : V → List E → R) : R := funC TD (tableK I.knownBack_T) I.knownBack_ann (drawAny TD (tableP I.knownBack_T)) FUEL Try.f70 args h κ
noncomputable def I.knownBack_L2 (n : Nat) (σ : St) (k : X → St → R) : R := iterC 0 (fun σ k => denC TD (tableK I.knownBack_T) I.knownBack_ann (drawAny TD (tableP I.knownBack_T)) 0 FUEL ((findLoop 2 (Try.f70.body.getD .skip)).getD .skip) σ k) [0, 1, 5] [4] n σ k
noncomputable def I.knownBack_k2 (κ : V → List E → R) : X → St → R := (afterC TD (tableK I.knownBack_T) I.knownBack_ann (drawAny TD (tableP I.knownBack_T)) 0 FUEL 2 (Try.f70.body.getD .skip) (finC TD 0 Try.f70 κ)).getD (fun _ _ => none)
noncomputable def I.knownBack_step2 {α : Type} (x0 : List Int) (x1 : Int) (x5 : Int) (next_ : Int → α) (out0_ : Bool → α) (out1_ : Unit → α) (fail_ : α) : α :=
  (bif decide (x5 < (↑x0.length : Int)) then (bif decide (0 ≤ x1) && decide (x1 < (↑x0.length : Int)) then (optC (I.hasPlace_t (eli x0 x1.toNat) x5) (fun c_1 => (bif c_1 then (bif decide (0 ≤ x5) && decide (x5 < (↑x0.length : Int)) then (optC (I.hasPlace_t (eli x0 x5.toNat) x1) (fun c_2 => (bif !c_2 then (out0_ false) else (next_ (IntKind.i64.wrap (x5 + 1))))) fail_) else fail_) else (next_ (IntKind.i64.wrap (x5 + 1))))) fail_) else fail_) else (out1_ ()))
theorem I.knownBack_step2_nat {α γ : Type} (g : α → γ) (x0 : List Int) (x1 : Int) (x5 : Int) (next_ : Int → α) (out0_ : Bool → α) (out1_ : Unit → α) (fail_ : α) : g (I.knownBack_step2 x0 x1 x5 next_ out0_ out1_ fail_) = I.knownBack_step2 x0 x1 x5 (fun s => g (next_ s)) (fun d => g (out0_ d)) (fun d => g (out1_ d)) (g fail_) := by
  unfold I.knownBack_step2; simp only [apply_cnd g, apply_optC g, apply_sumC g]
noncomputable def I.knownBack_run2 (x0 : List Int) (x1 : Int) : Nat → Int → Option ((Bool) ⊕ (Unit))
  | 0, _ => none
  | n + 1, s_ => I.knownBack_step2 x0 x1 s_ (I.knownBack_run2 x0 x1 n) (fun d => some ((Sum.inl d))) (fun d => some ((Sum.inr d))) none
theorem I.knownBack_L2_run (x0 : List Int) (x1 : Int) (n : Nat) (s_ : Int) (k : X → St → R) : I.knownBack_L2 n { n := 27, t := [(0, (.ro false (.ints .i64 x0))), (1, (.int .i64 x1)), (5, (.int .i64 s_))], h := [] } k = optC (I.knownBack_run2 x0 x1 n s_) (fun (r : (Bool) ⊕ (Unit)) => (sumC r (fun (r : Bool) => k (.ret) { n := 27, t := [(4, (.bool r))], h := [] }) (fun (r : Unit) => k (.exit 0) { n := 27, t := [(4, .junk)], h := [] }))) none := by
  induction n generalizing s_ with
  | zero => rfl
  | succ n ih =>
    have hu : I.knownBack_L2 (n + 1) { n := 27, t := [(0, (.ro false (.ints .i64 x0))), (1, (.int .i64 x1)), (5, (.int .i64 s_))], h := [] } k = I.knownBack_step2 x0 x1 s_ (fun s_ => I.knownBack_L2 n { n := 27, t := [(0, (.ro false (.ints .i64 x0))), (1, (.int .i64 x1)), (5, (.int .i64 s_))], h := [] } k) (fun d => k (.ret) { n := 27, t := [(4, (.bool d))], h := [] }) (fun d => k (.exit 0) { n := 27, t := [(4, .junk)], h := [] }) none := by
      kernel_rfl
    have hs : (fun s_ : Int => I.knownBack_L2 n { n := 27, t := [(0, (.ro false (.ints .i64 x0))), (1, (.int .i64 x1)), (5, (.int .i64 s_))], h := [] } k) = fun s_ => optC (I.knownBack_run2 x0 x1 n s_) (fun (r : (Bool) ⊕ (Unit)) => (sumC r (fun (r : Bool) => k (.ret) { n := 27, t := [(4, (.bool r))], h := [] }) (fun (r : Unit) => k (.exit 0) { n := 27, t := [(4, .junk)], h := [] }))) none := funext ih
    rw [hu, hs]
    exact (I.knownBack_step2_nat (fun o => optC o (fun (r : (Bool) ⊕ (Unit)) => (sumC r (fun (r : Bool) => k (.ret) { n := 27, t := [(4, (.bool r))], h := [] }) (fun (r : Unit) => k (.exit 0) { n := 27, t := [(4, .junk)], h := [] }))) none) x0 x1 s_ (I.knownBack_run2 x0 x1 n) (fun d => some ((Sum.inl d))) (fun d => some ((Sum.inr d))) none).symm
noncomputable def I.knownBack_tree {α : Type} (net : List Int) (place : Int) (leaf0_ : Bool → α) (fail_ : α) : α :=
  (optC (I.knownBack_run2 net place FUEL 0) (fun qy_3 => (sumC qy_3 (fun (qy_3 : Bool) => (leaf0_ qy_3)) (fun (qy_3 : Unit) => (leaf0_ true)))) fail_)
theorem I.knownBack_tree_nat {α γ : Type} (g : α → γ) (net : List Int) (place : Int) (leaf0_ : Bool → α) (fail_ : α) : g (I.knownBack_tree net place leaf0_ fail_) = I.knownBack_tree net place (fun d => g (leaf0_ d)) (g fail_) := by
  unfold I.knownBack_tree; simp only [apply_cnd g, apply_optC g, apply_sumC g]
noncomputable def I.knownBack_t (net : List Int) (place : Int) : Option (Bool) := I.knownBack_tree net place (fun d => some d) none
theorem I.knownBack_den (net : List Int) (place : Int) (κ : V → List E → R) : I.knownBack_F [.ro false (.ints .i64 net), .int .i64 place] [] κ = optC (I.knownBack_t net place) (fun (r : Bool) => κ (.bool r) []) none := by
  have hu : I.knownBack_F [.ro false (.ints .i64 net), .int .i64 place] [] κ = I.knownBack_tree net place (fun d => κ (.bool d) []) none := by
    refine Eq.trans (show I.knownBack_F [.ro false (.ints .i64 net), .int .i64 place] [] κ = (I.knownBack_L2 FUEL { n := 27, t := [(0, (.ro false (.ints .i64 net))), (1, (.int .i64 place)), (5, (.int .i64 0))], h := [] } (I.knownBack_k2 κ)) by kernel_rfl) ?_
    refine (I.knownBack_L2_run net place FUEL 0 (I.knownBack_k2 κ)).trans (optC_congr (fun qy_3 => ?_))
    rcases qy_3 with qy_3 | qy_3
    · kernel_rfl
    · kernel_rfl
  rw [hu]
  exact (I.knownBack_tree_nat (fun o => optC o (fun (r : Bool) => κ (.bool r) []) none) net place (fun d => some d) none).symm
noncomputable def I.knownBack_s : D.Spec where
  keep := false
  pure := true
  add := true
  ds := [.int .i64, .invalid]
  sp := fun args h κ => match args, h with
    | [.ro false (.ints .i64 net), .int .i64 place], [] => optC (I.knownBack_t net place) (fun (r : Bool) => κ (.bool r) []) none
    | _, _ => none
theorem I.knownBack_ok : SpecOk Try.prog 70 I.knownBack_s := by
  refine SpecOk.of TDok mixed (T := I.knownBack_T) ?_ (ann := I.knownBack_ann) Try.func70 rfl (by decide +kernel) ?_ ?_ ?_ ?_
  · intro p hp
    simp only [I.knownBack_T, List.mem_cons, List.not_mem_nil, or_false] at hp
    rcases hp with rfl
    · exact I.hasPlace_ok
  · intro args h κ r hh
    simp only [I.knownBack_s] at hh
    split at hh
    · exact (I.knownBack_den _ _ κ).trans hh
    · cases hh
  · intro args h κ r hh
    simp only [I.knownBack_s] at hh ⊢
    split at hh
    · exact optC_law2 (F := fun (r : Bool) κ => κ (.bool r) []) (fun b κ r hb => ⟨_, _, hb, fun _ => rfl⟩) hh
    · cases hh
  · intro _ args h κ r hh
    simp only [I.knownBack_s] at hh
    split at hh
    · exact ⟨rfl, fun _ => rfl⟩
    · cases hh
  · intro _ args h κ r hh
    simp only [I.knownBack_s] at hh
    split at hh
    · rfl
    · cases hh


-- loop.example/guardsonnets/impl.NetOk
noncomputable def I.NetOk_T : List (Nat × D.Spec) := [(49, I.setIn_s), (69, I.hasPlace_s), (70, I.knownBack_s)]
def I.NetOk_ann : Nat → List Nat × List Nat
  | 4 => ([0, 3], [2])
  | _ => ([], [])
noncomputable def I.NetOk_F (args : List V) (h : List E) (κ : V → List E → R) : R := funC TD (tableK I.NetOk_T) I.NetOk_ann (drawAny TD (tableP I.NetOk_T)) FUEL Try.f43 args h κ
noncomputable def I.NetOk_L4 (n : Nat) (σ : St) (k : X → St → R) : R := iterC 0 (fun σ k => denC TD (tableK I.NetOk_T) I.NetOk_ann (drawAny TD (tableP I.NetOk_T)) 0 FUEL ((findLoop 4 (Try.f43.body.getD .skip)).getD .skip) σ k) [0, 3] [2] n σ k
noncomputable def I.NetOk_k4 (κ : V → List E → R) : X → St → R := (afterC TD (tableK I.NetOk_T) I.NetOk_ann (drawAny TD (tableP I.NetOk_T)) 0 FUEL 4 (Try.f43.body.getD .skip) (finC TD 0 Try.f43 κ)).getD (fun _ _ => none)
noncomputable def I.NetOk_step4 {α : Type} (x0 : List Int) (x3 : Int) (next_ : Int → α) (out0_ : Bool → α) (out1_ : Unit → α) (fail_ : α) : α :=
  (bif decide (x3 < (↑x0.length : Int)) then (bif decide (0 ≤ x3) && decide (x3 < (↑x0.length : Int)) then (optC (I.setIn_t x0 (eli x0 x3.toNat)) (fun c_1 => (bif !c_1 then (out0_ false) else (bif decide (0 ≤ x3) && decide (x3 < (↑x0.length : Int)) then (optC (I.hasPlace_t (eli x0 x3.toNat) x3) (fun c_2 => (bif c_2 then (out0_ false) else (optC (I.knownBack_t x0 x3) (fun c_3 => (bif !c_3 then (out0_ false) else (next_ (IntKind.i64.wrap (x3 + 1))))) fail_))) fail_) else fail_))) fail_) else fail_) else (out1_ ()))
theorem I.NetOk_step4_nat {α γ : Type} (g : α → γ) (x0 : List Int) (x3 : Int) (next_ : Int → α) (out0_ : Bool → α) (out1_ : Unit → α) (fail_ : α) : g (I.NetOk_step4 x0 x3 next_ out0_ out1_ fail_) = I.NetOk_step4 x0 x3 (fun s => g (next_ s)) (fun d => g (out0_ d)) (fun d => g (out1_ d)) (g fail_) := by
  unfold I.NetOk_step4; simp only [apply_cnd g, apply_optC g, apply_sumC g]
noncomputable def I.NetOk_run4 (x0 : List Int) : Nat → Int → Option ((Bool) ⊕ (Unit))
  | 0, _ => none
  | n + 1, s_ => I.NetOk_step4 x0 s_ (I.NetOk_run4 x0 n) (fun d => some ((Sum.inl d))) (fun d => some ((Sum.inr d))) none
theorem I.NetOk_L4_run (x0 : List Int) (n : Nat) (s_ : Int) (k : X → St → R) : I.NetOk_L4 n { n := 39, t := [(0, (.ro false (.ints .i64 x0))), (3, (.int .i64 s_))], h := [] } k = optC (I.NetOk_run4 x0 n s_) (fun (r : (Bool) ⊕ (Unit)) => (sumC r (fun (r : Bool) => k (.ret) { n := 39, t := [(2, (.bool r))], h := [] }) (fun (r : Unit) => k (.exit 0) { n := 39, t := [(2, .junk)], h := [] }))) none := by
  induction n generalizing s_ with
  | zero => rfl
  | succ n ih =>
    have hu : I.NetOk_L4 (n + 1) { n := 39, t := [(0, (.ro false (.ints .i64 x0))), (3, (.int .i64 s_))], h := [] } k = I.NetOk_step4 x0 s_ (fun s_ => I.NetOk_L4 n { n := 39, t := [(0, (.ro false (.ints .i64 x0))), (3, (.int .i64 s_))], h := [] } k) (fun d => k (.ret) { n := 39, t := [(2, (.bool d))], h := [] }) (fun d => k (.exit 0) { n := 39, t := [(2, .junk)], h := [] }) none := by
      kernel_rfl
    have hs : (fun s_ : Int => I.NetOk_L4 n { n := 39, t := [(0, (.ro false (.ints .i64 x0))), (3, (.int .i64 s_))], h := [] } k) = fun s_ => optC (I.NetOk_run4 x0 n s_) (fun (r : (Bool) ⊕ (Unit)) => (sumC r (fun (r : Bool) => k (.ret) { n := 39, t := [(2, (.bool r))], h := [] }) (fun (r : Unit) => k (.exit 0) { n := 39, t := [(2, .junk)], h := [] }))) none := funext ih
    rw [hu, hs]
    exact (I.NetOk_step4_nat (fun o => optC o (fun (r : (Bool) ⊕ (Unit)) => (sumC r (fun (r : Bool) => k (.ret) { n := 39, t := [(2, (.bool r))], h := [] }) (fun (r : Unit) => k (.exit 0) { n := 39, t := [(2, .junk)], h := [] }))) none) x0 s_ (I.NetOk_run4 x0 n) (fun d => some ((Sum.inl d))) (fun d => some ((Sum.inr d))) none).symm
noncomputable def I.NetOk_tree {α : Type} (net : List Int) (leaf0_ : Bool → α) (fail_ : α) : α :=
  (bif decide ((↑net.length : Int) < 1) then (leaf0_ false) else (bif decide ((↑net.length : Int) > 6) then (leaf0_ false) else (optC (I.NetOk_run4 net FUEL 0) (fun qy_4 => (sumC qy_4 (fun (qy_4 : Bool) => (leaf0_ qy_4)) (fun (qy_4 : Unit) => (leaf0_ true)))) fail_)))
theorem I.NetOk_tree_nat {α γ : Type} (g : α → γ) (net : List Int) (leaf0_ : Bool → α) (fail_ : α) : g (I.NetOk_tree net leaf0_ fail_) = I.NetOk_tree net (fun d => g (leaf0_ d)) (g fail_) := by
  unfold I.NetOk_tree; simp only [apply_cnd g, apply_optC g, apply_sumC g]
noncomputable def I.NetOk_t (net : List Int) : Option (Bool) := I.NetOk_tree net (fun d => some d) none
theorem I.NetOk_den (net : List Int) (κ : V → List E → R) : I.NetOk_F [.ro false (.ints .i64 net)] [] κ = optC (I.NetOk_t net) (fun (r : Bool) => κ (.bool r) []) none := by
  have hu : I.NetOk_F [.ro false (.ints .i64 net)] [] κ = I.NetOk_tree net (fun d => κ (.bool d) []) none := by
    refine Eq.trans (show I.NetOk_F [.ro false (.ints .i64 net)] [] κ = (bif decide ((↑net.length : Int) < 1) then (κ (.bool false) []) else (bif decide ((↑net.length : Int) > 6) then (κ (.bool false) []) else (I.NetOk_L4 FUEL { n := 39, t := [(0, (.ro false (.ints .i64 net))), (3, (.int .i64 0))], h := [] } (I.NetOk_k4 κ)))) by kernel_rfl) ?_
    refine cnd_congr ?_ ?_
    · kernel_rfl
    · refine cnd_congr ?_ ?_
      · kernel_rfl
      · refine (I.NetOk_L4_run net FUEL 0 (I.NetOk_k4 κ)).trans (optC_congr (fun qy_4 => ?_))
        rcases qy_4 with qy_4 | qy_4
        · kernel_rfl
        · kernel_rfl
  rw [hu]
  exact (I.NetOk_tree_nat (fun o => optC o (fun (r : Bool) => κ (.bool r) []) none) net (fun d => some d) none).symm
noncomputable def I.NetOk_s : D.Spec where
  keep := false
  pure := true
  add := true
  ds := [.int .i64]
  sp := fun args h κ => match args, h with
    | [.ro false (.ints .i64 net)], [] => optC (I.NetOk_t net) (fun (r : Bool) => κ (.bool r) []) none
    | _, _ => none
theorem I.NetOk_ok : SpecOk Try.prog 43 I.NetOk_s := by
  refine SpecOk.of TDok mixed (T := I.NetOk_T) ?_ (ann := I.NetOk_ann) Try.func43 rfl (by decide +kernel) ?_ ?_ ?_ ?_
  · intro p hp
    simp only [I.NetOk_T, List.mem_cons, List.not_mem_nil, or_false] at hp
    rcases hp with rfl | rfl | rfl
    · exact I.setIn_ok
    · exact I.hasPlace_ok
    · exact I.knownBack_ok
  · intro args h κ r hh
    simp only [I.NetOk_s] at hh
    split at hh
    · exact (I.NetOk_den _ κ).trans hh
    · cases hh
  · intro args h κ r hh
    simp only [I.NetOk_s] at hh ⊢
    split at hh
    · exact optC_law2 (F := fun (r : Bool) κ => κ (.bool r) []) (fun b κ r hb => ⟨_, _, hb, fun _ => rfl⟩) hh
    · cases hh
  · intro _ args h κ r hh
    simp only [I.NetOk_s] at hh
    split at hh
    · exact ⟨rfl, fun _ => rfl⟩
    · cases hh
  · intro _ args h κ r hh
    simp only [I.NetOk_s] at hh
    split at hh
    · rfl
    · cases hh


-- loop.example/guardsonnets/impl.placeIn
noncomputable def I.placeIn_T : List (Nat × D.Spec) := []
def I.placeIn_ann : Nat → List Nat × List Nat
  | _ => ([], [])
noncomputable def I.placeIn_F (args : List V) (h : List E) (κ : V → List E → R) : R := funC TD (tableK I.placeIn_T) I.placeIn_ann (drawAny TD (tableP I.placeIn_T)) FUEL Try.f52 args h κ
noncomputable def I.placeIn_tree {α : Type} (net : List Int) (place : Int) (leaf0_ : Bool → α) (fail_ : α) : α :=
  (bif decide (place ≥ 0) then (leaf0_ (decide (place < (↑net.length : Int)))) else (leaf0_ false))
theorem I.placeIn_tree_nat {α γ : Type} (g : α → γ) (net : List Int) (place : Int) (leaf0_ : Bool → α) (fail_ : α) : g (I.placeIn_tree net place leaf0_ fail_) = I.placeIn_tree net place (fun d => g (leaf0_ d)) (g fail_) := by
  unfold I.placeIn_tree; simp only [apply_cnd g, apply_optC g, apply_sumC g]
noncomputable def I.placeIn_t (net : List Int) (place : Int) : Option (Bool) := I.placeIn_tree net place (fun d => some d) none
theorem I.placeIn_den (net : List Int) (place : Int) (κ : V → List E → R) : I.placeIn_F [.ro false (.ints .i64 net), .int .i64 place] [] κ = optC (I.placeIn_t net place) (fun (r : Bool) => κ (.bool r) []) none := by
  have hu : I.placeIn_F [.ro false (.ints .i64 net), .int .i64 place] [] κ = I.placeIn_tree net place (fun d => κ (.bool d) []) none := by
    kernel_rfl
  rw [hu]
  exact (I.placeIn_tree_nat (fun o => optC o (fun (r : Bool) => κ (.bool r) []) none) net place (fun d => some d) none).symm
noncomputable def I.placeIn_s : D.Spec where
  keep := false
  pure := true
  add := true
  ds := [.int .i64, .invalid]
  sp := fun args h κ => match args, h with
    | [.ro false (.ints .i64 net), .int .i64 place], [] => optC (I.placeIn_t net place) (fun (r : Bool) => κ (.bool r) []) none
    | _, _ => none
theorem I.placeIn_ok : SpecOk Try.prog 52 I.placeIn_s := by
  refine SpecOk.of TDok mixed (T := I.placeIn_T) ?_ (ann := I.placeIn_ann) Try.func52 rfl (by decide +kernel) ?_ ?_ ?_ ?_
  · intro p hp; cases hp
  · intro args h κ r hh
    simp only [I.placeIn_s] at hh
    split at hh
    · exact (I.placeIn_den _ _ κ).trans hh
    · cases hh
  · intro args h κ r hh
    simp only [I.placeIn_s] at hh ⊢
    split at hh
    · exact optC_law2 (F := fun (r : Bool) κ => κ (.bool r) []) (fun b κ r hb => ⟨_, _, hb, fun _ => rfl⟩) hh
    · cases hh
  · intro _ args h κ r hh
    simp only [I.placeIn_s] at hh
    split at hh
    · exact ⟨rfl, fun _ => rfl⟩
    · cases hh
  · intro _ args h κ r hh
    simp only [I.placeIn_s] at hh
    split at hh
    · rfl
    · cases hh


-- loop.example/guardsonnets/impl.placesHere
noncomputable def I.placesHere_T : List (Nat × D.Spec) := [(52, I.placeIn_s)]
def I.placesHere_ann : Nat → List Nat × List Nat
  | 3 => ([0, 1, 5, 6], [5])
  | _ => ([], [])
noncomputable def I.placesHere_F (args : List V) (h : List E) (κ : V → List E → R) : R := funC TD (tableK I.placesHere_T) I.placesHere_ann (drawAny TD (tableP I.placesHere_T)) FUEL Try.f44 args h κ
noncomputable def I.placesHere_L3 (n : Nat) (σ : St) (k : X → St → R) : R := iterC 0 (fun σ k => denC TD (tableK I.placesHere_T) I.placesHere_ann (drawAny TD (tableP I.placesHere_T)) 0 FUEL ((findLoop 3 (Try.f44.body.getD .skip)).getD .skip) σ k) [0, 1, 5, 6] [5] n σ k
noncomputable def I.placesHere_k3 (κ : V → List E → R) : X → St → R := (afterC TD (tableK I.placesHere_T) I.placesHere_ann (drawAny TD (tableP I.placesHere_T)) 0 FUEL 3 (Try.f44.body.getD .skip) (finC TD 0 Try.f44 κ)).getD (fun _ _ => none)
noncomputable def I.placesHere_step3 {α : Type} (x0 : List Int) (x1 : List Int) (x6 : Int) (r0 : List Int) (next_ : Int × (List Int) → α) (out0_ : List Int → α) (fail_ : α) : α :=
  (bif decide (x6 < (↑x1.length : Int)) then (bif decide (0 ≤ x6) && decide (x6 < (↑x1.length : Int)) then (optC (I.placeIn_t x0 (eli x1 x6.toNat)) (fun c_1 => (bif c_1 then (bif decide (0 ≤ x6) && decide (x6 < (↑x1.length : Int)) then (bif small (r0 ++ [eli x1 x6.toNat]).length then (next_ (IntKind.i64.wrap (x6 + 1), r0 ++ [eli x1 x6.toNat])) else fail_) else fail_) else (out0_ r0))) fail_) else fail_) else (out0_ r0))
theorem I.placesHere_step3_nat {α γ : Type} (g : α → γ) (x0 : List Int) (x1 : List Int) (x6 : Int) (r0 : List Int) (next_ : Int × (List Int) → α) (out0_ : List Int → α) (fail_ : α) : g (I.placesHere_step3 x0 x1 x6 r0 next_ out0_ fail_) = I.placesHere_step3 x0 x1 x6 r0 (fun s => g (next_ s)) (fun d => g (out0_ d)) (g fail_) := by
  unfold I.placesHere_step3; simp only [apply_cnd g, apply_optC g, apply_sumC g]
noncomputable def I.placesHere_run3 (x0 : List Int) (x1 : List Int) : Nat → Int × (List Int) → Option (List Int)
  | 0, _ => none
  | n + 1, s_ => I.placesHere_step3 x0 x1 s_.1 s_.2 (I.placesHere_run3 x0 x1 n) (fun d => some d) none
theorem I.placesHere_L3_run (x0 : List Int) (x1 : List Int) (n : Nat) (s_ : Int × (List Int)) (k : X → St → R) : I.placesHere_L3 n { n := 30, t := [(0, (.ro false (.ints .i64 x0))), (1, (.ro false (.ints .i64 x1))), (5, (.own 0)), (6, (.int .i64 s_.1))], h := [.row (.ints .i64 s_.2)] } k = optC (I.placesHere_run3 x0 x1 n s_) (fun (r : List Int) => k (.exit 0) { n := 30, t := [(5, (.own 0))], h := [.row (.ints .i64 r)] }) none := by
  induction n generalizing s_ with
  | zero => rfl
  | succ n ih =>
    have hu : I.placesHere_L3 (n + 1) { n := 30, t := [(0, (.ro false (.ints .i64 x0))), (1, (.ro false (.ints .i64 x1))), (5, (.own 0)), (6, (.int .i64 s_.1))], h := [.row (.ints .i64 s_.2)] } k = I.placesHere_step3 x0 x1 s_.1 s_.2 (fun s_ => I.placesHere_L3 n { n := 30, t := [(0, (.ro false (.ints .i64 x0))), (1, (.ro false (.ints .i64 x1))), (5, (.own 0)), (6, (.int .i64 s_.1))], h := [.row (.ints .i64 s_.2)] } k) (fun d => k (.exit 0) { n := 30, t := [(5, (.own 0))], h := [.row (.ints .i64 d)] }) none := by
      kernel_rfl
    have hs : (fun s_ : Int × (List Int) => I.placesHere_L3 n { n := 30, t := [(0, (.ro false (.ints .i64 x0))), (1, (.ro false (.ints .i64 x1))), (5, (.own 0)), (6, (.int .i64 s_.1))], h := [.row (.ints .i64 s_.2)] } k) = fun s_ => optC (I.placesHere_run3 x0 x1 n s_) (fun (r : List Int) => k (.exit 0) { n := 30, t := [(5, (.own 0))], h := [.row (.ints .i64 r)] }) none := funext ih
    rw [hu, hs]
    exact (I.placesHere_step3_nat (fun o => optC o (fun (r : List Int) => k (.exit 0) { n := 30, t := [(5, (.own 0))], h := [.row (.ints .i64 r)] }) none) x0 x1 s_.1 s_.2 (I.placesHere_run3 x0 x1 n) (fun d => some d) none).symm
noncomputable def I.placesHere_tree {α : Type} (net : List Int) (places : List Int) (leaf0_ : List Int → α) (fail_ : α) : α :=
  (optC (I.placesHere_run3 net places FUEL (0, [])) (fun qy_2 => (leaf0_ qy_2)) fail_)
theorem I.placesHere_tree_nat {α γ : Type} (g : α → γ) (net : List Int) (places : List Int) (leaf0_ : List Int → α) (fail_ : α) : g (I.placesHere_tree net places leaf0_ fail_) = I.placesHere_tree net places (fun d => g (leaf0_ d)) (g fail_) := by
  unfold I.placesHere_tree; simp only [apply_cnd g, apply_optC g, apply_sumC g]
noncomputable def I.placesHere_t (net : List Int) (places : List Int) : Option (List Int) := I.placesHere_tree net places (fun d => some d) none
theorem I.placesHere_den (net : List Int) (places : List Int) (κ : V → List E → R) : I.placesHere_F [.ro false (.ints .i64 net), .ro false (.ints .i64 places)] [] κ = optC (I.placesHere_t net places) (fun (r : List Int) => κ (.own 0) [.row (.ints .i64 r)]) none := by
  have hu : I.placesHere_F [.ro false (.ints .i64 net), .ro false (.ints .i64 places)] [] κ = I.placesHere_tree net places (fun d => κ (.own 0) [.row (.ints .i64 d)]) none := by
    refine Eq.trans (show I.placesHere_F [.ro false (.ints .i64 net), .ro false (.ints .i64 places)] [] κ = (I.placesHere_L3 FUEL { n := 30, t := [(0, (.ro false (.ints .i64 net))), (1, (.ro false (.ints .i64 places))), (5, (.own 0)), (6, (.int .i64 0))], h := [.row (.ints .i64 ([]))] } (I.placesHere_k3 κ)) by kernel_rfl) ?_
    refine (I.placesHere_L3_run net places FUEL (0, []) (I.placesHere_k3 κ)).trans (optC_congr (fun qy_2 => ?_))
    kernel_rfl
  rw [hu]
  exact (I.placesHere_tree_nat (fun o => optC o (fun (r : List Int) => κ (.own 0) [.row (.ints .i64 r)]) none) net places (fun d => some d) none).symm
noncomputable def I.placesHere_s : D.Spec where
  keep := false
  pure := false
  add := true
  ds := [.int .i64, .int .i64]
  sp := fun args h κ => match args, h with
    | [.ro false (.ints .i64 net), .ro false (.ints .i64 places)], [] => optC (I.placesHere_t net places) (fun (r : List Int) => κ (.own 0) [.row (.ints .i64 r)]) none
    | _, _ => none
theorem I.placesHere_ok : SpecOk Try.prog 44 I.placesHere_s := by
  refine SpecOk.of TDok mixed (T := I.placesHere_T) ?_ (ann := I.placesHere_ann) Try.func44 rfl (by decide +kernel) ?_ ?_ ?_ ?_
  · intro p hp
    simp only [I.placesHere_T, List.mem_cons, List.not_mem_nil, or_false] at hp
    rcases hp with rfl
    · exact I.placeIn_ok
  · intro args h κ r hh
    simp only [I.placesHere_s] at hh
    split at hh
    · exact (I.placesHere_den _ _ κ).trans hh
    · cases hh
  · intro args h κ r hh
    simp only [I.placesHere_s] at hh ⊢
    split at hh
    · exact optC_law2 (F := fun (r : List Int) κ => κ (.own 0) [.row (.ints .i64 r)]) (fun b κ r hb => ⟨_, _, hb, fun _ => rfl⟩) hh
    · cases hh
  · intro hh; cases hh
  · intro _ args h κ r hh
    simp only [I.placesHere_s] at hh
    split at hh
    · rfl
    · cases hh


-- loop.example/guardsonnets/impl.allOf
noncomputable def I.allOf_T : List (Nat × D.Spec) := []
def I.allOf_ann : Nat → List Nat × List Nat
  | _ => ([], [])
noncomputable def I.allOf_F (args : List V) (h : List E) (κ : V → List E → R) : R := funC TD (tableK I.allOf_T) I.allOf_ann (drawAny TD (tableP I.allOf_T)) FUEL Try.f82 args h κ
noncomputable def I.allOf_tree {α : Type} (net : List Int) (leaf0_ : Int → α) (fail_ : α) : α :=
  (leaf0_ (IntKind.i64.wrap (IntKind.i64.wrap (1 * 2 ^ min (↑net.length : Int).toNat IntKind.i64.bits) - 1)))
theorem I.allOf_tree_nat {α γ : Type} (g : α → γ) (net : List Int) (leaf0_ : Int → α) (fail_ : α) : g (I.allOf_tree net leaf0_ fail_) = I.allOf_tree net (fun d => g (leaf0_ d)) (g fail_) := by
  unfold I.allOf_tree; simp only [apply_cnd g, apply_optC g, apply_sumC g]
noncomputable def I.allOf_t (net : List Int) : Option (Int) := I.allOf_tree net (fun d => some d) none
theorem I.allOf_den (net : List Int) (κ : V → List E → R) : I.allOf_F [.ro false (.ints .i64 net)] [] κ = optC (I.allOf_t net) (fun (r : Int) => κ (.int .i64 r) []) none := by
  have hu : I.allOf_F [.ro false (.ints .i64 net)] [] κ = I.allOf_tree net (fun d => κ (.int .i64 d) []) none := by
    kernel_rfl
  rw [hu]
  exact (I.allOf_tree_nat (fun o => optC o (fun (r : Int) => κ (.int .i64 r) []) none) net (fun d => some d) none).symm
noncomputable def I.allOf_s : D.Spec where
  keep := false
  pure := true
  add := true
  ds := [.int .i64]
  sp := fun args h κ => match args, h with
    | [.ro false (.ints .i64 net)], [] => optC (I.allOf_t net) (fun (r : Int) => κ (.int .i64 r) []) none
    | _, _ => none
theorem I.allOf_ok : SpecOk Try.prog 82 I.allOf_s := by
  refine SpecOk.of TDok mixed (T := I.allOf_T) ?_ (ann := I.allOf_ann) Try.func82 rfl (by decide +kernel) ?_ ?_ ?_ ?_
  · intro p hp; cases hp
  · intro args h κ r hh
    simp only [I.allOf_s] at hh
    split at hh
    · exact (I.allOf_den _ κ).trans hh
    · cases hh
  · intro args h κ r hh
    simp only [I.allOf_s] at hh ⊢
    split at hh
    · exact optC_law2 (F := fun (r : Int) κ => κ (.int .i64 r) []) (fun b κ r hb => ⟨_, _, hb, fun _ => rfl⟩) hh
    · cases hh
  · intro _ args h κ r hh
    simp only [I.allOf_s] at hh
    split at hh
    · exact ⟨rfl, fun _ => rfl⟩
    · cases hh
  · intro _ args h κ r hh
    simp only [I.allOf_s] at hh
    split at hh
    · rfl
    · cases hh


-- loop.example/guardsonnets/impl.moveIn
noncomputable def I.moveIn_T : List (Nat × D.Spec) := [(69, I.hasPlace_s)]
def I.moveIn_ann : Nat → List Nat × List Nat
  | _ => ([], [])
noncomputable def I.moveIn_F (args : List V) (h : List E) (κ : V → List E → R) : R := funC TD (tableK I.moveIn_T) I.moveIn_ann (drawAny TD (tableP I.moveIn_T)) FUEL Try.f92 args h κ
noncomputable def I.moveIn_tree {α : Type} (net : List Int) (set_ : Int) (from_ : Int) (to_ : Int) (leaf0_ : Bool → α) (fail_ : α) : α :=
  (optC (I.hasPlace_t set_ from_) (fun c_1 => (bif c_1 then (optC (I.hasPlace_t set_ to_) (fun c_2 => (bif !c_2 then (bif decide (0 ≤ from_) && decide (from_ < (↑net.length : Int)) then (optC (I.hasPlace_t (eli net from_.toNat) to_) (fun c_3 => (leaf0_ c_3)) fail_) else fail_) else (leaf0_ false))) fail_) else (leaf0_ false))) fail_)
theorem I.moveIn_tree_nat {α γ : Type} (g : α → γ) (net : List Int) (set_ : Int) (from_ : Int) (to_ : Int) (leaf0_ : Bool → α) (fail_ : α) : g (I.moveIn_tree net set_ from_ to_ leaf0_ fail_) = I.moveIn_tree net set_ from_ to_ (fun d => g (leaf0_ d)) (g fail_) := by
  unfold I.moveIn_tree; simp only [apply_cnd g, apply_optC g, apply_sumC g]
noncomputable def I.moveIn_t (net : List Int) (set_ : Int) (from_ : Int) (to_ : Int) : Option (Bool) := I.moveIn_tree net set_ from_ to_ (fun d => some d) none
theorem I.moveIn_den (net : List Int) (set_ : Int) (from_ : Int) (to_ : Int) (κ : V → List E → R) : I.moveIn_F [.ro false (.ints .i64 net), .int .i64 set_, .int .i64 from_, .int .i64 to_] [] κ = optC (I.moveIn_t net set_ from_ to_) (fun (r : Bool) => κ (.bool r) []) none := by
  have hu : I.moveIn_F [.ro false (.ints .i64 net), .int .i64 set_, .int .i64 from_, .int .i64 to_] [] κ = I.moveIn_tree net set_ from_ to_ (fun d => κ (.bool d) []) none := by
    kernel_rfl
  rw [hu]
  exact (I.moveIn_tree_nat (fun o => optC o (fun (r : Bool) => κ (.bool r) []) none) net set_ from_ to_ (fun d => some d) none).symm
noncomputable def I.moveIn_s : D.Spec where
  keep := false
  pure := true
  add := true
  ds := [.int .i64, .invalid, .invalid, .invalid]
  sp := fun args h κ => match args, h with
    | [.ro false (.ints .i64 net), .int .i64 set_, .int .i64 from_, .int .i64 to_], [] => optC (I.moveIn_t net set_ from_ to_) (fun (r : Bool) => κ (.bool r) []) none
    | _, _ => none
theorem I.moveIn_ok : SpecOk Try.prog 92 I.moveIn_s := by
  refine SpecOk.of TDok mixed (T := I.moveIn_T) ?_ (ann := I.moveIn_ann) Try.func92 rfl (by decide +kernel) ?_ ?_ ?_ ?_
  · intro p hp
    simp only [I.moveIn_T, List.mem_cons, List.not_mem_nil, or_false] at hp
    rcases hp with rfl
    · exact I.hasPlace_ok
  · intro args h κ r hh
    simp only [I.moveIn_s] at hh
    split at hh
    · exact (I.moveIn_den _ _ _ _ κ).trans hh
    · cases hh
  · intro args h κ r hh
    simp only [I.moveIn_s] at hh ⊢
    split at hh
    · exact optC_law2 (F := fun (r : Bool) κ => κ (.bool r) []) (fun b κ r hb => ⟨_, _, hb, fun _ => rfl⟩) hh
    · cases hh
  · intro _ args h κ r hh
    simp only [I.moveIn_s] at hh
    split at hh
    · exact ⟨rfl, fun _ => rfl⟩
    · cases hh
  · intro _ args h κ r hh
    simp only [I.moveIn_s] at hh
    split at hh
    · rfl
    · cases hh


-- loop.example/guardsonnets/impl.without
noncomputable def I.without_T : List (Nat × D.Spec) := []
def I.without_ann : Nat → List Nat × List Nat
  | _ => ([], [])
noncomputable def I.without_F (args : List V) (h : List E) (κ : V → List E → R) : R := funC TD (tableK I.without_T) I.without_ann (drawAny TD (tableP I.without_T)) FUEL Try.f91 args h κ
noncomputable def I.without_tree {α : Type} (set_ : Int) (place : Int) (leaf0_ : Int → α) (fail_ : α) : α :=
  (bif decide (place < 0) then fail_ else (leaf0_ (bits BinOp.andNot IntKind.i64 set_ (IntKind.i64.wrap (1 * 2 ^ min place.toNat IntKind.i64.bits)))))
theorem I.without_tree_nat {α γ : Type} (g : α → γ) (set_ : Int) (place : Int) (leaf0_ : Int → α) (fail_ : α) : g (I.without_tree set_ place leaf0_ fail_) = I.without_tree set_ place (fun d => g (leaf0_ d)) (g fail_) := by
  unfold I.without_tree; simp only [apply_cnd g, apply_optC g, apply_sumC g]
noncomputable def I.without_t (set_ : Int) (place : Int) : Option (Int) := I.without_tree set_ place (fun d => some d) none
theorem I.without_den (set_ : Int) (place : Int) (κ : V → List E → R) : I.without_F [.int .i64 set_, .int .i64 place] [] κ = optC (I.without_t set_ place) (fun (r : Int) => κ (.int .i64 r) []) none := by
  have hu : I.without_F [.int .i64 set_, .int .i64 place] [] κ = I.without_tree set_ place (fun d => κ (.int .i64 d) []) none := by
    kernel_rfl
  rw [hu]
  exact (I.without_tree_nat (fun o => optC o (fun (r : Int) => κ (.int .i64 r) []) none) set_ place (fun d => some d) none).symm
noncomputable def I.without_s : D.Spec where
  keep := false
  pure := true
  add := true
  ds := [.invalid, .invalid]
  sp := fun args h κ => match args, h with
    | [.int .i64 set_, .int .i64 place], [] => optC (I.without_t set_ place) (fun (r : Int) => κ (.int .i64 r) []) none
    | _, _ => none
theorem I.without_ok : SpecOk Try.prog 91 I.without_s := by
  refine SpecOk.of TDok mixed (T := I.without_T) ?_ (ann := I.without_ann) Try.func91 rfl (by decide +kernel) ?_ ?_ ?_ ?_
  · intro p hp; cases hp
  · intro args h κ r hh
    simp only [I.without_s] at hh
    split at hh
    · exact (I.without_den _ _ κ).trans hh
    · cases hh
  · intro args h κ r hh
    simp only [I.without_s] at hh ⊢
    split at hh
    · exact optC_law2 (F := fun (r : Int) κ => κ (.int .i64 r) []) (fun b κ r hb => ⟨_, _, hb, fun _ => rfl⟩) hh
    · cases hh
  · intro _ args h κ r hh
    simp only [I.without_s] at hh
    split at hh
    · exact ⟨rfl, fun _ => rfl⟩
    · cases hh
  · intro _ args h κ r hh
    simp only [I.without_s] at hh
    split at hh
    · rfl
    · cases hh


-- loop.example/guardsonnets/impl.with
noncomputable def I.with_T : List (Nat × D.Spec) := []
def I.with_ann : Nat → List Nat × List Nat
  | _ => ([], [])
noncomputable def I.with_F (args : List V) (h : List E) (κ : V → List E → R) : R := funC TD (tableK I.with_T) I.with_ann (drawAny TD (tableP I.with_T)) FUEL Try.f90 args h κ
noncomputable def I.with_tree {α : Type} (set_ : Int) (place : Int) (leaf0_ : Int → α) (fail_ : α) : α :=
  (bif decide (place < 0) then fail_ else (leaf0_ (bits BinOp.or IntKind.i64 set_ (IntKind.i64.wrap (1 * 2 ^ min place.toNat IntKind.i64.bits)))))
theorem I.with_tree_nat {α γ : Type} (g : α → γ) (set_ : Int) (place : Int) (leaf0_ : Int → α) (fail_ : α) : g (I.with_tree set_ place leaf0_ fail_) = I.with_tree set_ place (fun d => g (leaf0_ d)) (g fail_) := by
  unfold I.with_tree; simp only [apply_cnd g, apply_optC g, apply_sumC g]
noncomputable def I.with_t (set_ : Int) (place : Int) : Option (Int) := I.with_tree set_ place (fun d => some d) none
theorem I.with_den (set_ : Int) (place : Int) (κ : V → List E → R) : I.with_F [.int .i64 set_, .int .i64 place] [] κ = optC (I.with_t set_ place) (fun (r : Int) => κ (.int .i64 r) []) none := by
  have hu : I.with_F [.int .i64 set_, .int .i64 place] [] κ = I.with_tree set_ place (fun d => κ (.int .i64 d) []) none := by
    kernel_rfl
  rw [hu]
  exact (I.with_tree_nat (fun o => optC o (fun (r : Int) => κ (.int .i64 r) []) none) set_ place (fun d => some d) none).symm
noncomputable def I.with_s : D.Spec where
  keep := false
  pure := true
  add := true
  ds := [.invalid, .invalid]
  sp := fun args h κ => match args, h with
    | [.int .i64 set_, .int .i64 place], [] => optC (I.with_t set_ place) (fun (r : Int) => κ (.int .i64 r) []) none
    | _, _ => none
theorem I.with_ok : SpecOk Try.prog 90 I.with_s := by
  refine SpecOk.of TDok mixed (T := I.with_T) ?_ (ann := I.with_ann) Try.func90 rfl (by decide +kernel) ?_ ?_ ?_ ?_
  · intro p hp; cases hp
  · intro args h κ r hh
    simp only [I.with_s] at hh
    split at hh
    · exact (I.with_den _ _ κ).trans hh
    · cases hh
  · intro args h κ r hh
    simp only [I.with_s] at hh ⊢
    split at hh
    · exact optC_law2 (F := fun (r : Int) κ => κ (.int .i64 r) []) (fun b κ r hb => ⟨_, _, hb, fun _ => rfl⟩) hh
    · cases hh
  · intro _ args h κ r hh
    simp only [I.with_s] at hh
    split at hh
    · exact ⟨rfl, fun _ => rfl⟩
    · cases hh
  · intro _ args h κ r hh
    simp only [I.with_s] at hh
    split at hh
    · rfl
    · cases hh


-- loop.example/guardsonnets/impl.moved
noncomputable def I.moved_T : List (Nat × D.Spec) := [(91, I.without_s), (90, I.with_s)]
def I.moved_ann : Nat → List Nat × List Nat
  | _ => ([], [])
noncomputable def I.moved_F (args : List V) (h : List E) (κ : V → List E → R) : R := funC TD (tableK I.moved_T) I.moved_ann (drawAny TD (tableP I.moved_T)) FUEL Try.f76 args h κ
noncomputable def I.moved_tree {α : Type} (set_ : Int) (from_ : Int) (to_ : Int) (leaf0_ : Int → α) (fail_ : α) : α :=
  (optC (I.without_t set_ from_) (fun c_1 => (optC (I.with_t c_1 to_) (fun c_2 => (leaf0_ c_2)) fail_)) fail_)
theorem I.moved_tree_nat {α γ : Type} (g : α → γ) (set_ : Int) (from_ : Int) (to_ : Int) (leaf0_ : Int → α) (fail_ : α) : g (I.moved_tree set_ from_ to_ leaf0_ fail_) = I.moved_tree set_ from_ to_ (fun d => g (leaf0_ d)) (g fail_) := by
  unfold I.moved_tree; simp only [apply_cnd g, apply_optC g, apply_sumC g]
noncomputable def I.moved_t (set_ : Int) (from_ : Int) (to_ : Int) : Option (Int) := I.moved_tree set_ from_ to_ (fun d => some d) none
theorem I.moved_den (set_ : Int) (from_ : Int) (to_ : Int) (κ : V → List E → R) : I.moved_F [.int .i64 set_, .int .i64 from_, .int .i64 to_] [] κ = optC (I.moved_t set_ from_ to_) (fun (r : Int) => κ (.int .i64 r) []) none := by
  have hu : I.moved_F [.int .i64 set_, .int .i64 from_, .int .i64 to_] [] κ = I.moved_tree set_ from_ to_ (fun d => κ (.int .i64 d) []) none := by
    kernel_rfl
  rw [hu]
  exact (I.moved_tree_nat (fun o => optC o (fun (r : Int) => κ (.int .i64 r) []) none) set_ from_ to_ (fun d => some d) none).symm
noncomputable def I.moved_s : D.Spec where
  keep := false
  pure := true
  add := true
  ds := [.invalid, .invalid, .invalid]
  sp := fun args h κ => match args, h with
    | [.int .i64 set_, .int .i64 from_, .int .i64 to_], [] => optC (I.moved_t set_ from_ to_) (fun (r : Int) => κ (.int .i64 r) []) none
    | _, _ => none
theorem I.moved_ok : SpecOk Try.prog 76 I.moved_s := by
  refine SpecOk.of TDok mixed (T := I.moved_T) ?_ (ann := I.moved_ann) Try.func76 rfl (by decide +kernel) ?_ ?_ ?_ ?_
  · intro p hp
    simp only [I.moved_T, List.mem_cons, List.not_mem_nil, or_false] at hp
    rcases hp with rfl | rfl
    · exact I.without_ok
    · exact I.with_ok
  · intro args h κ r hh
    simp only [I.moved_s] at hh
    split at hh
    · exact (I.moved_den _ _ _ κ).trans hh
    · cases hh
  · intro args h κ r hh
    simp only [I.moved_s] at hh ⊢
    split at hh
    · exact optC_law2 (F := fun (r : Int) κ => κ (.int .i64 r) []) (fun b κ r hb => ⟨_, _, hb, fun _ => rfl⟩) hh
    · cases hh
  · intro _ args h κ r hh
    simp only [I.moved_s] at hh
    split at hh
    · exact ⟨rfl, fun _ => rfl⟩
    · cases hh
  · intro _ args h κ r hh
    simp only [I.moved_s] at hh
    split at hh
    · rfl
    · cases hh


-- loop.example/guardsonnets/impl.movesOf
noncomputable def I.movesOf_T : List (Nat × D.Spec) := [(92, I.moveIn_s), (76, I.moved_s)]
def I.movesOf_ann : Nat → List Nat × List Nat
  | 6 => ([0, 1, 5, 6, 7], [0, 1, 5, 6])
  | 3 => ([0, 1, 5, 6], [5])
  | _ => ([], [])
noncomputable def I.movesOf_F (args : List V) (h : List E) (κ : V → List E → R) : R := funC TD (tableK I.movesOf_T) I.movesOf_ann (drawAny TD (tableP I.movesOf_T)) FUEL Try.f89 args h κ
noncomputable def I.movesOf_L6 (n : Nat) (σ : St) (k : X → St → R) : R := iterC 0 (fun σ k => denC TD (tableK I.movesOf_T) I.movesOf_ann (drawAny TD (tableP I.movesOf_T)) 0 FUEL ((findLoop 6 (Try.f89.body.getD .skip)).getD .skip) σ k) [0, 1, 5, 6, 7] [0, 1, 5, 6] n σ k
noncomputable def I.movesOf_L3 (n : Nat) (σ : St) (k : X → St → R) : R := iterC 0 (fun σ k => denC TD (tableK I.movesOf_T) I.movesOf_ann (drawAny TD (tableP I.movesOf_T)) 0 FUEL ((findLoop 3 (Try.f89.body.getD .skip)).getD .skip) σ k) [0, 1, 5, 6] [5] n σ k
noncomputable def I.movesOf_k6 (c : (St → R) × (X → St → R)) : X → St → R := (afterC TD (tableK I.movesOf_T) I.movesOf_ann (drawAny TD (tableP I.movesOf_T)) 0 FUEL 6 ((findLoop 3 (Try.f89.body.getD .skip)).getD .skip) (roundC 0 [0, 1, 5, 6] [5] c.1 c.2)).getD (fun _ _ => none)
noncomputable def I.movesOf_k3 (κ : V → List E → R) : X → St → R := (afterC TD (tableK I.movesOf_T) I.movesOf_ann (drawAny TD (tableP I.movesOf_T)) 0 FUEL 3 (Try.f89.body.getD .skip) (finC TD 0 Try.f89 κ)).getD (fun _ _ => none)
noncomputable def I.movesOf_step6 {α : Type} (x0 : List Int) (x1 : Int) (x6 : Int) (x7 : Int) (r0 : List Int) (next_ : Int × (List Int) → α) (out0_ : List Int → α) (fail_ : α) : α :=
  (bif decide (x7 < (↑x0.length : Int)) then (optC (I.moveIn_t x0 x1 x6 x7) (fun c_1 => (bif c_1 then (optC (I.moved_t x1 x6 x7) (fun c_2 => (bif small (r0 ++ [c_2]).length then (next_ (IntKind.i64.wrap (x7 + 1), r0 ++ [c_2])) else fail_)) fail_) else (next_ (IntKind.i64.wrap (x7 + 1), r0)))) fail_) else (out0_ r0))
theorem I.movesOf_step6_nat {α γ : Type} (g : α → γ) (x0 : List Int) (x1 : Int) (x6 : Int) (x7 : Int) (r0 : List Int) (next_ : Int × (List Int) → α) (out0_ : List Int → α) (fail_ : α) : g (I.movesOf_step6 x0 x1 x6 x7 r0 next_ out0_ fail_) = I.movesOf_step6 x0 x1 x6 x7 r0 (fun s => g (next_ s)) (fun d => g (out0_ d)) (g fail_) := by
  unfold I.movesOf_step6; simp only [apply_cnd g, apply_optC g, apply_sumC g]
noncomputable def I.movesOf_run6 (x0 : List Int) (x1 : Int) (x6 : Int) : Nat → Int × (List Int) → Option (List Int)
  | 0, _ => none
  | n + 1, s_ => I.movesOf_step6 x0 x1 x6 s_.1 s_.2 (I.movesOf_run6 x0 x1 x6 n) (fun d => some d) none
theorem I.movesOf_L6_run (x0 : List Int) (x1 : Int) (x6 : Int) (n : Nat) (s_ : Int × (List Int)) (k : X → St → R) : I.movesOf_L6 n { n := 34, t := [(0, (.ro false (.ints .i64 x0))), (1, (.int .i64 x1)), (5, (.own 0)), (6, (.int .i64 x6)), (7, (.int .i64 s_.1))], h := [.row (.ints .i64 s_.2)] } k = optC (I.movesOf_run6 x0 x1 x6 n s_) (fun (r : List Int) => k (.exit 2) { n := 34, t := [(0, (.ro false (.ints .i64 x0))), (1, (.int .i64 x1)), (5, (.own 0)), (6, (.int .i64 x6))], h := [.row (.ints .i64 r)] }) none := by
  induction n generalizing s_ with
  | zero => rfl
  | succ n ih =>
    have hu : I.movesOf_L6 (n + 1) { n := 34, t := [(0, (.ro false (.ints .i64 x0))), (1, (.int .i64 x1)), (5, (.own 0)), (6, (.int .i64 x6)), (7, (.int .i64 s_.1))], h := [.row (.ints .i64 s_.2)] } k = I.movesOf_step6 x0 x1 x6 s_.1 s_.2 (fun s_ => I.movesOf_L6 n { n := 34, t := [(0, (.ro false (.ints .i64 x0))), (1, (.int .i64 x1)), (5, (.own 0)), (6, (.int .i64 x6)), (7, (.int .i64 s_.1))], h := [.row (.ints .i64 s_.2)] } k) (fun d => k (.exit 2) { n := 34, t := [(0, (.ro false (.ints .i64 x0))), (1, (.int .i64 x1)), (5, (.own 0)), (6, (.int .i64 x6))], h := [.row (.ints .i64 d)] }) none := by
      kernel_rfl
    have hs : (fun s_ : Int × (List Int) => I.movesOf_L6 n { n := 34, t := [(0, (.ro false (.ints .i64 x0))), (1, (.int .i64 x1)), (5, (.own 0)), (6, (.int .i64 x6)), (7, (.int .i64 s_.1))], h := [.row (.ints .i64 s_.2)] } k) = fun s_ => optC (I.movesOf_run6 x0 x1 x6 n s_) (fun (r : List Int) => k (.exit 2) { n := 34, t := [(0, (.ro false (.ints .i64 x0))), (1, (.int .i64 x1)), (5, (.own 0)), (6, (.int .i64 x6))], h := [.row (.ints .i64 r)] }) none := funext ih
    rw [hu, hs]
    exact (I.movesOf_step6_nat (fun o => optC o (fun (r : List Int) => k (.exit 2) { n := 34, t := [(0, (.ro false (.ints .i64 x0))), (1, (.int .i64 x1)), (5, (.own 0)), (6, (.int .i64 x6))], h := [.row (.ints .i64 r)] }) none) x0 x1 x6 s_.1 s_.2 (I.movesOf_run6 x0 x1 x6 n) (fun d => some d) none).symm
noncomputable def I.movesOf_step3 {α : Type} (x0 : List Int) (x1 : Int) (x6 : Int) (r0 : List Int) (next_ : Int × (List Int) → α) (out0_ : List Int → α) (fail_ : α) : α :=
  (bif decide (x6 < (↑x0.length : Int)) then (optC (I.movesOf_run6 x0 x1 x6 FUEL (0, r0)) (fun qy_3 => (next_ (IntKind.i64.wrap (x6 + 1), qy_3))) fail_) else (out0_ r0))
theorem I.movesOf_step3_nat {α γ : Type} (g : α → γ) (x0 : List Int) (x1 : Int) (x6 : Int) (r0 : List Int) (next_ : Int × (List Int) → α) (out0_ : List Int → α) (fail_ : α) : g (I.movesOf_step3 x0 x1 x6 r0 next_ out0_ fail_) = I.movesOf_step3 x0 x1 x6 r0 (fun s => g (next_ s)) (fun d => g (out0_ d)) (g fail_) := by
  unfold I.movesOf_step3; simp only [apply_cnd g, apply_optC g, apply_sumC g]
noncomputable def I.movesOf_run3 (x0 : List Int) (x1 : Int) : Nat → Int × (List Int) → Option (List Int)
  | 0, _ => none
  | n + 1, s_ => I.movesOf_step3 x0 x1 s_.1 s_.2 (I.movesOf_run3 x0 x1 n) (fun d => some d) none
theorem I.movesOf_L3_run (x0 : List Int) (x1 : Int) (n : Nat) (s_ : Int × (List Int)) (k : X → St → R) : I.movesOf_L3 n { n := 34, t := [(0, (.ro false (.ints .i64 x0))), (1, (.int .i64 x1)), (5, (.own 0)), (6, (.int .i64 s_.1))], h := [.row (.ints .i64 s_.2)] } k = optC (I.movesOf_run3 x0 x1 n s_) (fun (r : List Int) => k (.exit 0) { n := 34, t := [(5, (.own 0))], h := [.row (.ints .i64 r)] }) none := by
  induction n generalizing s_ with
  | zero => rfl
  | succ n ih =>
    have hu : I.movesOf_L3 (n + 1) { n := 34, t := [(0, (.ro false (.ints .i64 x0))), (1, (.int .i64 x1)), (5, (.own 0)), (6, (.int .i64 s_.1))], h := [.row (.ints .i64 s_.2)] } k = I.movesOf_step3 x0 x1 s_.1 s_.2 (fun s_ => I.movesOf_L3 n { n := 34, t := [(0, (.ro false (.ints .i64 x0))), (1, (.int .i64 x1)), (5, (.own 0)), (6, (.int .i64 s_.1))], h := [.row (.ints .i64 s_.2)] } k) (fun d => k (.exit 0) { n := 34, t := [(5, (.own 0))], h := [.row (.ints .i64 d)] }) none := by
      refine Eq.trans (show I.movesOf_L3 (n + 1) { n := 34, t := [(0, (.ro false (.ints .i64 x0))), (1, (.int .i64 x1)), (5, (.own 0)), (6, (.int .i64 s_.1))], h := [.row (.ints .i64 s_.2)] } k = (bif decide (s_.1 < (↑x0.length : Int)) then (I.movesOf_L6 FUEL { n := 34, t := [(0, (.ro false (.ints .i64 x0))), (1, (.int .i64 x1)), (5, (.own 0)), (6, (.int .i64 s_.1)), (7, (.int .i64 0))], h := [.row (.ints .i64 s_.2)] } (I.movesOf_k6 ((fun σ => I.movesOf_L3 n σ k), k))) else (k (.exit 0) { n := 34, t := [(5, (.own 0))], h := [.row (.ints .i64 s_.2)] })) by kernel_rfl) ?_
      refine cnd_congr ?_ ?_
      · refine (I.movesOf_L6_run x0 x1 s_.1 FUEL (0, s_.2) (I.movesOf_k6 ((fun σ => I.movesOf_L3 n σ k), k))).trans (optC_congr (fun qy_3 => ?_))
        kernel_rfl
      · kernel_rfl
    have hs : (fun s_ : Int × (List Int) => I.movesOf_L3 n { n := 34, t := [(0, (.ro false (.ints .i64 x0))), (1, (.int .i64 x1)), (5, (.own 0)), (6, (.int .i64 s_.1))], h := [.row (.ints .i64 s_.2)] } k) = fun s_ => optC (I.movesOf_run3 x0 x1 n s_) (fun (r : List Int) => k (.exit 0) { n := 34, t := [(5, (.own 0))], h := [.row (.ints .i64 r)] }) none := funext ih
    rw [hu, hs]
    exact (I.movesOf_step3_nat (fun o => optC o (fun (r : List Int) => k (.exit 0) { n := 34, t := [(5, (.own 0))], h := [.row (.ints .i64 r)] }) none) x0 x1 s_.1 s_.2 (I.movesOf_run3 x0 x1 n) (fun d => some d) none).symm
noncomputable def I.movesOf_tree {α : Type} (net : List Int) (set_ : Int) (leaf0_ : List Int → α) (fail_ : α) : α :=
  (optC (I.movesOf_run3 net set_ FUEL (0, [])) (fun qy_4 => (leaf0_ qy_4)) fail_)
theorem I.movesOf_tree_nat {α γ : Type} (g : α → γ) (net : List Int) (set_ : Int) (leaf0_ : List Int → α) (fail_ : α) : g (I.movesOf_tree net set_ leaf0_ fail_) = I.movesOf_tree net set_ (fun d => g (leaf0_ d)) (g fail_) := by
  unfold I.movesOf_tree; simp only [apply_cnd g, apply_optC g, apply_sumC g]
noncomputable def I.movesOf_t (net : List Int) (set_ : Int) : Option (List Int) := I.movesOf_tree net set_ (fun d => some d) none
theorem I.movesOf_den (net : List Int) (set_ : Int) (κ : V → List E → R) : I.movesOf_F [.ro false (.ints .i64 net), .int .i64 set_] [] κ = optC (I.movesOf_t net set_) (fun (r : List Int) => κ (.own 0) [.row (.ints .i64 r)]) none := by
  have hu : I.movesOf_F [.ro false (.ints .i64 net), .int .i64 set_] [] κ = I.movesOf_tree net set_ (fun d => κ (.own 0) [.row (.ints .i64 d)]) none := by
    refine Eq.trans (show I.movesOf_F [.ro false (.ints .i64 net), .int .i64 set_] [] κ = (I.movesOf_L3 FUEL { n := 34, t := [(0, (.ro false (.ints .i64 net))), (1, (.int .i64 set_)), (5, (.own 0)), (6, (.int .i64 0))], h := [.row (.ints .i64 ([]))] } (I.movesOf_k3 κ)) by kernel_rfl) ?_
    refine (I.movesOf_L3_run net set_ FUEL (0, []) (I.movesOf_k3 κ)).trans (optC_congr (fun qy_4 => ?_))
    kernel_rfl
  rw [hu]
  exact (I.movesOf_tree_nat (fun o => optC o (fun (r : List Int) => κ (.own 0) [.row (.ints .i64 r)]) none) net set_ (fun d => some d) none).symm
noncomputable def I.movesOf_s : D.Spec where
  keep := false
  pure := false
  add := true
  ds := [.int .i64, .invalid]
  sp := fun args h κ => match args, h with
    | [.ro false (.ints .i64 net), .int .i64 set_], [] => optC (I.movesOf_t net set_) (fun (r : List Int) => κ (.own 0) [.row (.ints .i64 r)]) none
    | _, _ => none
theorem I.movesOf_ok : SpecOk Try.prog 89 I.movesOf_s := by
  refine SpecOk.of TDok mixed (T := I.movesOf_T) ?_ (ann := I.movesOf_ann) Try.func89 rfl (by decide +kernel) ?_ ?_ ?_ ?_
  · intro p hp
    simp only [I.movesOf_T, List.mem_cons, List.not_mem_nil, or_false] at hp
    rcases hp with rfl | rfl
    · exact I.moveIn_ok
    · exact I.moved_ok
  · intro args h κ r hh
    simp only [I.movesOf_s] at hh
    split at hh
    · exact (I.movesOf_den _ _ κ).trans hh
    · cases hh
  · intro args h κ r hh
    simp only [I.movesOf_s] at hh ⊢
    split at hh
    · exact optC_law2 (F := fun (r : List Int) κ => κ (.own 0) [.row (.ints .i64 r)]) (fun b κ r hb => ⟨_, _, hb, fun _ => rfl⟩) hh
    · cases hh
  · intro hh; cases hh
  · intro _ args h κ r hh
    simp only [I.movesOf_s] at hh
    split at hh
    · rfl
    · cases hh


-- loop.example/guardsonnets/impl.movesIn
noncomputable def I.movesIn_T : List (Nat × D.Spec) := [(82, I.allOf_s), (89, I.movesOf_s)]
def I.movesIn_ann : Nat → List Nat × List Nat
  | 3 => ([0, 3, 4], [3])
  | _ => ([], [])
noncomputable def I.movesIn_F (args : List V) (h : List E) (κ : V → List E → R) : R := funC TD (tableK I.movesIn_T) I.movesIn_ann (drawAny TD (tableP I.movesIn_T)) FUEL Try.f75 args h κ
noncomputable def I.movesIn_L3 (n : Nat) (σ : St) (k : X → St → R) : R := iterC 0 (fun σ k => denC TD (tableK I.movesIn_T) I.movesIn_ann (drawAny TD (tableP I.movesIn_T)) 0 FUEL ((findLoop 3 (Try.f75.body.getD .skip)).getD .skip) σ k) [0, 3, 4] [3] n σ k
noncomputable def I.movesIn_k3 (κ : V → List E → R) : X → St → R := (afterC TD (tableK I.movesIn_T) I.movesIn_ann (drawAny TD (tableP I.movesIn_T)) 0 FUEL 3 (Try.f75.body.getD .skip) (finC TD 0 Try.f75 κ)).getD (fun _ _ => none)
noncomputable def I.movesIn_step3 {α : Type} (x0 : List Int) (x4 : Int) (r0 : List (List Int)) (next_ : Int × (List (List Int)) → α) (out0_ : List (List Int) → α) (fail_ : α) : α :=
  (optC (I.allOf_t x0) (fun c_2 => (bif decide (x4 ≤ c_2) then (optC (I.movesOf_t x0 x4) (fun c_3 => (bif decide (0 ≤ x4) && decide (x4 < (↑r0.length : Int)) then (bif decide (x4.toNat < r0.length) then (next_ (IntKind.i64.wrap (x4 + 1), r0.set x4.toNat c_3)) else fail_) else fail_)) fail_) else (out0_ r0))) fail_)
theorem I.movesIn_step3_nat {α γ : Type} (g : α → γ) (x0 : List Int) (x4 : Int) (r0 : List (List Int)) (next_ : Int × (List (List Int)) → α) (out0_ : List (List Int) → α) (fail_ : α) : g (I.movesIn_step3 x0 x4 r0 next_ out0_ fail_) = I.movesIn_step3 x0 x4 r0 (fun s => g (next_ s)) (fun d => g (out0_ d)) (g fail_) := by
  unfold I.movesIn_step3; simp only [apply_cnd g, apply_optC g, apply_sumC g]
noncomputable def I.movesIn_run3 (x0 : List Int) : Nat → Int × (List (List Int)) → Option (List (List Int))
  | 0, _ => none
  | n + 1, s_ => I.movesIn_step3 x0 s_.1 s_.2 (I.movesIn_run3 x0 n) (fun d => some d) none
theorem I.movesIn_L3_run (x0 : List Int) (n : Nat) (s_ : Int × (List (List Int))) (k : X → St → R) : I.movesIn_L3 n { n := 22, t := [(0, (.ro false (.ints .i64 x0))), (3, (.own 0)), (4, (.int .i64 s_.1))], h := [.row (.rows s_.2)] } k = optC (I.movesIn_run3 x0 n s_) (fun (r : List (List Int)) => k (.exit 0) { n := 22, t := [(3, (.own 0))], h := [.row (.rows r)] }) none := by
  induction n generalizing s_ with
  | zero => rfl
  | succ n ih =>
    have hu : I.movesIn_L3 (n + 1) { n := 22, t := [(0, (.ro false (.ints .i64 x0))), (3, (.own 0)), (4, (.int .i64 s_.1))], h := [.row (.rows s_.2)] } k = I.movesIn_step3 x0 s_.1 s_.2 (fun s_ => I.movesIn_L3 n { n := 22, t := [(0, (.ro false (.ints .i64 x0))), (3, (.own 0)), (4, (.int .i64 s_.1))], h := [.row (.rows s_.2)] } k) (fun d => k (.exit 0) { n := 22, t := [(3, (.own 0))], h := [.row (.rows d)] }) none := by
      kernel_rfl
    have hs : (fun s_ : Int × (List (List Int)) => I.movesIn_L3 n { n := 22, t := [(0, (.ro false (.ints .i64 x0))), (3, (.own 0)), (4, (.int .i64 s_.1))], h := [.row (.rows s_.2)] } k) = fun s_ => optC (I.movesIn_run3 x0 n s_) (fun (r : List (List Int)) => k (.exit 0) { n := 22, t := [(3, (.own 0))], h := [.row (.rows r)] }) none := funext ih
    rw [hu, hs]
    exact (I.movesIn_step3_nat (fun o => optC o (fun (r : List (List Int)) => k (.exit 0) { n := 22, t := [(3, (.own 0))], h := [.row (.rows r)] }) none) x0 s_.1 s_.2 (I.movesIn_run3 x0 n) (fun d => some d) none).symm
noncomputable def I.movesIn_tree {α : Type} (net : List Int) (leaf0_ : List (List Int) → α) (fail_ : α) : α :=
  (optC (I.allOf_t net) (fun c_1 => (bif decide (0 ≤ IntKind.i64.wrap (c_1 + 1)) && small (IntKind.i64.wrap (c_1 + 1)).toNat && true then (optC (I.movesIn_run3 net FUEL (0, List.replicate (IntKind.i64.wrap (c_1 + 1)).toNat [])) (fun qy_4 => (leaf0_ qy_4)) fail_) else fail_)) fail_)
theorem I.movesIn_tree_nat {α γ : Type} (g : α → γ) (net : List Int) (leaf0_ : List (List Int) → α) (fail_ : α) : g (I.movesIn_tree net leaf0_ fail_) = I.movesIn_tree net (fun d => g (leaf0_ d)) (g fail_) := by
  unfold I.movesIn_tree; simp only [apply_cnd g, apply_optC g, apply_sumC g]
noncomputable def I.movesIn_t (net : List Int) : Option (List (List Int)) := I.movesIn_tree net (fun d => some d) none
theorem I.movesIn_den (net : List Int) (κ : V → List E → R) : I.movesIn_F [.ro false (.ints .i64 net)] [] κ = optC (I.movesIn_t net) (fun (r : List (List Int)) => κ (.own 0) [.row (.rows r)]) none := by
  have hu : I.movesIn_F [.ro false (.ints .i64 net)] [] κ = I.movesIn_tree net (fun d => κ (.own 0) [.row (.rows d)]) none := by
    refine Eq.trans (show I.movesIn_F [.ro false (.ints .i64 net)] [] κ = (optC (I.allOf_t net) (fun c_1 => (bif decide (0 ≤ IntKind.i64.wrap (c_1 + 1)) && small (IntKind.i64.wrap (c_1 + 1)).toNat && true then (I.movesIn_L3 FUEL { n := 22, t := [(0, (.ro false (.ints .i64 net))), (3, (.own 0)), (4, (.int .i64 0))], h := [.row (.rows (List.replicate (IntKind.i64.wrap (c_1 + 1)).toNat []))] } (I.movesIn_k3 κ)) else none)) none) by kernel_rfl) ?_
    refine optC_congr (fun c_1 => ?_)
    refine cnd_congr ?_ ?_
    · refine (I.movesIn_L3_run net FUEL (0, List.replicate (IntKind.i64.wrap (c_1 + 1)).toNat []) (I.movesIn_k3 κ)).trans (optC_congr (fun qy_4 => ?_))
      kernel_rfl
    · kernel_rfl
  rw [hu]
  exact (I.movesIn_tree_nat (fun o => optC o (fun (r : List (List Int)) => κ (.own 0) [.row (.rows r)]) none) net (fun d => some d) none).symm
noncomputable def I.movesIn_s : D.Spec where
  keep := false
  pure := false
  add := true
  ds := [.int .i64]
  sp := fun args h κ => match args, h with
    | [.ro false (.ints .i64 net)], [] => optC (I.movesIn_t net) (fun (r : List (List Int)) => κ (.own 0) [.row (.rows r)]) none
    | _, _ => none
theorem I.movesIn_ok : SpecOk Try.prog 75 I.movesIn_s := by
  refine SpecOk.of TDok mixed (T := I.movesIn_T) ?_ (ann := I.movesIn_ann) Try.func75 rfl (by decide +kernel) ?_ ?_ ?_ ?_
  · intro p hp
    simp only [I.movesIn_T, List.mem_cons, List.not_mem_nil, or_false] at hp
    rcases hp with rfl | rfl
    · exact I.allOf_ok
    · exact I.movesOf_ok
  · intro args h κ r hh
    simp only [I.movesIn_s] at hh
    split at hh
    · exact (I.movesIn_den _ κ).trans hh
    · cases hh
  · intro args h κ r hh
    simp only [I.movesIn_s] at hh ⊢
    split at hh
    · exact optC_law2 (F := fun (r : List (List Int)) κ => κ (.own 0) [.row (.rows r)]) (fun b κ r hb => ⟨_, _, hb, fun _ => rfl⟩) hh
    · cases hh
  · intro hh; cases hh
  · intro _ args h κ r hh
    simp only [I.movesIn_s] at hh
    split at hh
    · rfl
    · cases hh


-- loop.example/guardsonnets/impl.answeredBy
noncomputable def I.answeredBy_T : List (Nat × D.Spec) := []
def I.answeredBy_ann : Nat → List Nat × List Nat
  | 3 => ([0, 2, 7, 8], [7])
  | _ => ([], [])
noncomputable def I.answeredBy_F (args : List V) (h : List E) (κ : V → List E → R) : R := funC TD (tableK I.answeredBy_T) I.answeredBy_ann (drawAny TD (tableP I.answeredBy_T)) FUEL Try.f88 args h κ
noncomputable def I.answeredBy_L3 (n : Nat) (σ : St) (k : X → St → R) : R := iterC 0 (fun σ k => denC TD (tableK I.answeredBy_T) I.answeredBy_ann (drawAny TD (tableP I.answeredBy_T)) 0 FUEL ((findLoop 3 (Try.f88.body.getD .skip)).getD .skip) σ k) [0, 2, 7, 8] [7] n σ k
noncomputable def I.answeredBy_k3 (κ : V → List E → R) : X → St → R := (afterC TD (tableK I.answeredBy_T) I.answeredBy_ann (drawAny TD (tableP I.answeredBy_T)) 0 FUEL 3 (Try.f88.body.getD .skip) (finC TD 0 Try.f88 κ)).getD (fun _ _ => none)
noncomputable def I.answeredBy_step3 {α : Type} (x0 : List Bool) (x2 : List Int) (x7 : Int) (x8 : Int) (next_ : Int × Int → α) (out0_ : Int → α) (fail_ : α) : α :=
  (bif decide (x8 < (↑x2.length : Int)) then (bif decide (0 ≤ x8) && decide (x8 < (↑x2.length : Int)) then (bif decide (0 ≤ eli x2 x8.toNat) && decide (eli x2 x8.toNat < (↑x0.length : Int)) then (bif elb x0 (eli x2 x8.toNat).toNat then (bif decide (0 ≤ x8) && decide (x8 < (↑x2.length : Int)) then (next_ (bits BinOp.or IntKind.i64 x7 (eli x2 x8.toNat), IntKind.i64.wrap (x8 + 1))) else fail_) else (next_ (x7, IntKind.i64.wrap (x8 + 1)))) else fail_) else fail_) else (out0_ x7))
theorem I.answeredBy_step3_nat {α γ : Type} (g : α → γ) (x0 : List Bool) (x2 : List Int) (x7 : Int) (x8 : Int) (next_ : Int × Int → α) (out0_ : Int → α) (fail_ : α) : g (I.answeredBy_step3 x0 x2 x7 x8 next_ out0_ fail_) = I.answeredBy_step3 x0 x2 x7 x8 (fun s => g (next_ s)) (fun d => g (out0_ d)) (g fail_) := by
  unfold I.answeredBy_step3; simp only [apply_cnd g, apply_optC g, apply_sumC g]
noncomputable def I.answeredBy_run3 (x0 : List Bool) (x2 : List Int) : Nat → Int × Int → Option (Int)
  | 0, _ => none
  | n + 1, s_ => I.answeredBy_step3 x0 x2 s_.1 s_.2 (I.answeredBy_run3 x0 x2 n) (fun d => some d) none
theorem I.answeredBy_L3_run (x0 : List Bool) (x2 : List Int) (n : Nat) (s_ : Int × Int) (k : X → St → R) : I.answeredBy_L3 n { n := 30, t := [(0, (.ro false (.bools x0))), (2, (.ro false (.ints .i64 x2))), (7, (.int .i64 s_.1)), (8, (.int .i64 s_.2))], h := [] } k = optC (I.answeredBy_run3 x0 x2 n s_) (fun (r : Int) => k (.exit 0) { n := 30, t := [(7, (.int .i64 r))], h := [] }) none := by
  induction n generalizing s_ with
  | zero => rfl
  | succ n ih =>
    have hu : I.answeredBy_L3 (n + 1) { n := 30, t := [(0, (.ro false (.bools x0))), (2, (.ro false (.ints .i64 x2))), (7, (.int .i64 s_.1)), (8, (.int .i64 s_.2))], h := [] } k = I.answeredBy_step3 x0 x2 s_.1 s_.2 (fun s_ => I.answeredBy_L3 n { n := 30, t := [(0, (.ro false (.bools x0))), (2, (.ro false (.ints .i64 x2))), (7, (.int .i64 s_.1)), (8, (.int .i64 s_.2))], h := [] } k) (fun d => k (.exit 0) { n := 30, t := [(7, (.int .i64 d))], h := [] }) none := by
      kernel_rfl
    have hs : (fun s_ : Int × Int => I.answeredBy_L3 n { n := 30, t := [(0, (.ro false (.bools x0))), (2, (.ro false (.ints .i64 x2))), (7, (.int .i64 s_.1)), (8, (.int .i64 s_.2))], h := [] } k) = fun s_ => optC (I.answeredBy_run3 x0 x2 n s_) (fun (r : Int) => k (.exit 0) { n := 30, t := [(7, (.int .i64 r))], h := [] }) none := funext ih
    rw [hu, hs]
    exact (I.answeredBy_step3_nat (fun o => optC o (fun (r : Int) => k (.exit 0) { n := 30, t := [(7, (.int .i64 r))], h := [] }) none) x0 x2 s_.1 s_.2 (I.answeredBy_run3 x0 x2 n) (fun d => some d) none).symm
noncomputable def I.answeredBy_tree {α : Type} (lasting : List Bool) (set_ : Int) (leads : List Int) (leaf0_ : Int → α) (fail_ : α) : α :=
  (optC (I.answeredBy_run3 lasting leads FUEL (set_, 0)) (fun qy_1 => (leaf0_ qy_1)) fail_)
theorem I.answeredBy_tree_nat {α γ : Type} (g : α → γ) (lasting : List Bool) (set_ : Int) (leads : List Int) (leaf0_ : Int → α) (fail_ : α) : g (I.answeredBy_tree lasting set_ leads leaf0_ fail_) = I.answeredBy_tree lasting set_ leads (fun d => g (leaf0_ d)) (g fail_) := by
  unfold I.answeredBy_tree; simp only [apply_cnd g, apply_optC g, apply_sumC g]
noncomputable def I.answeredBy_t (lasting : List Bool) (set_ : Int) (leads : List Int) : Option (Int) := I.answeredBy_tree lasting set_ leads (fun d => some d) none
theorem I.answeredBy_den (lasting : List Bool) (set_ : Int) (leads : List Int) (κ : V → List E → R) : I.answeredBy_F [.ro false (.bools lasting), .int .i64 set_, .ro false (.ints .i64 leads)] [] κ = optC (I.answeredBy_t lasting set_ leads) (fun (r : Int) => κ (.int .i64 r) []) none := by
  have hu : I.answeredBy_F [.ro false (.bools lasting), .int .i64 set_, .ro false (.ints .i64 leads)] [] κ = I.answeredBy_tree lasting set_ leads (fun d => κ (.int .i64 d) []) none := by
    refine Eq.trans (show I.answeredBy_F [.ro false (.bools lasting), .int .i64 set_, .ro false (.ints .i64 leads)] [] κ = (I.answeredBy_L3 FUEL { n := 30, t := [(0, (.ro false (.bools lasting))), (2, (.ro false (.ints .i64 leads))), (7, (.int .i64 set_)), (8, (.int .i64 0))], h := [] } (I.answeredBy_k3 κ)) by kernel_rfl) ?_
    refine (I.answeredBy_L3_run lasting leads FUEL (set_, 0) (I.answeredBy_k3 κ)).trans (optC_congr (fun qy_1 => ?_))
    kernel_rfl
  rw [hu]
  exact (I.answeredBy_tree_nat (fun o => optC o (fun (r : Int) => κ (.int .i64 r) []) none) lasting set_ leads (fun d => some d) none).symm
noncomputable def I.answeredBy_s : D.Spec where
  keep := false
  pure := true
  add := true
  ds := [.bool, .invalid, .int .i64]
  sp := fun args h κ => match args, h with
    | [.ro false (.bools lasting), .int .i64 set_, .ro false (.ints .i64 leads)], [] => optC (I.answeredBy_t lasting set_ leads) (fun (r : Int) => κ (.int .i64 r) []) none
    | _, _ => none
theorem I.answeredBy_ok : SpecOk Try.prog 88 I.answeredBy_s := by
  refine SpecOk.of TDok mixed (T := I.answeredBy_T) ?_ (ann := I.answeredBy_ann) Try.func88 rfl (by decide +kernel) ?_ ?_ ?_ ?_
  · intro p hp; cases hp
  · intro args h κ r hh
    simp only [I.answeredBy_s] at hh
    split at hh
    · exact (I.answeredBy_den _ _ _ κ).trans hh
    · cases hh
  · intro args h κ r hh
    simp only [I.answeredBy_s] at hh ⊢
    split at hh
    · exact optC_law2 (F := fun (r : Int) κ => κ (.int .i64 r) []) (fun b κ r hb => ⟨_, _, hb, fun _ => rfl⟩) hh
    · cases hh
  · intro _ args h κ r hh
    simp only [I.answeredBy_s] at hh
    split at hh
    · exact ⟨rfl, fun _ => rfl⟩
    · cases hh
  · intro _ args h κ r hh
    simp only [I.answeredBy_s] at hh
    split at hh
    · rfl
    · cases hh


-- loop.example/guardsonnets/impl.lastingIn
noncomputable def I.lastingIn_T : List (Nat × D.Spec) := [(82, I.allOf_s), (88, I.answeredBy_s)]
def I.lastingIn_ann : Nat → List Nat × List Nat
  | 10 => ([0, 1, 5, 7, 8], [0, 1, 5, 7])
  | 7 => ([0, 1, 5, 7], [5])
  | 3 => ([0, 1, 5, 6], [0, 1, 5])
  | _ => ([], [])
noncomputable def I.lastingIn_F (args : List V) (h : List E) (κ : V → List E → R) : R := funC TD (tableK I.lastingIn_T) I.lastingIn_ann (drawAny TD (tableP I.lastingIn_T)) FUEL Try.f74 args h κ
noncomputable def I.lastingIn_L10 (n : Nat) (σ : St) (k : X → St → R) : R := iterC 0 (fun σ k => denC TD (tableK I.lastingIn_T) I.lastingIn_ann (drawAny TD (tableP I.lastingIn_T)) 0 FUEL ((findLoop 10 (Try.f74.body.getD .skip)).getD .skip) σ k) [0, 1, 5, 7, 8] [0, 1, 5, 7] n σ k
noncomputable def I.lastingIn_L7 (n : Nat) (σ : St) (k : X → St → R) : R := iterC 0 (fun σ k => denC TD (tableK I.lastingIn_T) I.lastingIn_ann (drawAny TD (tableP I.lastingIn_T)) 0 FUEL ((findLoop 7 (Try.f74.body.getD .skip)).getD .skip) σ k) [0, 1, 5, 7] [5] n σ k
noncomputable def I.lastingIn_L3 (n : Nat) (σ : St) (k : X → St → R) : R := iterC 0 (fun σ k => denC TD (tableK I.lastingIn_T) I.lastingIn_ann (drawAny TD (tableP I.lastingIn_T)) 0 FUEL ((findLoop 3 (Try.f74.body.getD .skip)).getD .skip) σ k) [0, 1, 5, 6] [0, 1, 5] n σ k
noncomputable def I.lastingIn_k3 (κ : V → List E → R) : X → St → R := (afterC TD (tableK I.lastingIn_T) I.lastingIn_ann (drawAny TD (tableP I.lastingIn_T)) 0 FUEL 3 (Try.f74.body.getD .skip) (finC TD 0 Try.f74 κ)).getD (fun _ _ => none)
noncomputable def I.lastingIn_k10 (c : (St → R) × (X → St → R)) : X → St → R := (afterC TD (tableK I.lastingIn_T) I.lastingIn_ann (drawAny TD (tableP I.lastingIn_T)) 0 FUEL 10 ((findLoop 7 (Try.f74.body.getD .skip)).getD .skip) (roundC 0 [0, 1, 5, 7] [5] c.1 c.2)).getD (fun _ _ => none)
noncomputable def I.lastingIn_k7 (κ : V → List E → R) : X → St → R := (afterC TD (tableK I.lastingIn_T) I.lastingIn_ann (drawAny TD (tableP I.lastingIn_T)) 0 FUEL 7 (Try.f74.body.getD .skip) (finC TD 0 Try.f74 κ)).getD (fun _ _ => none)
noncomputable def I.lastingIn_step3 {α : Type} (x0 : List Int) (x1 : List (List Int)) (x6 : Int) (r0 : List Bool) (next_ : Int × (List Bool) → α) (out0_ : List Bool → α) (fail_ : α) : α :=
  (optC (I.allOf_t x0) (fun c_2 => (bif decide (x6 ≤ c_2) then (bif decide (0 ≤ x6) && decide (x6 < (↑r0.length : Int)) then (bif decide (x6.toNat < r0.length) then (next_ (IntKind.i64.wrap (x6 + 1), r0.set x6.toNat true)) else fail_) else fail_) else (out0_ r0))) fail_)
theorem I.lastingIn_step3_nat {α γ : Type} (g : α → γ) (x0 : List Int) (x1 : List (List Int)) (x6 : Int) (r0 : List Bool) (next_ : Int × (List Bool) → α) (out0_ : List Bool → α) (fail_ : α) : g (I.lastingIn_step3 x0 x1 x6 r0 next_ out0_ fail_) = I.lastingIn_step3 x0 x1 x6 r0 (fun s => g (next_ s)) (fun d => g (out0_ d)) (g fail_) := by
  unfold I.lastingIn_step3; simp only [apply_cnd g, apply_optC g, apply_sumC g]
noncomputable def I.lastingIn_run3 (x0 : List Int) (x1 : List (List Int)) : Nat → Int × (List Bool) → Option (List Bool)
  | 0, _ => none
  | n + 1, s_ => I.lastingIn_step3 x0 x1 s_.1 s_.2 (I.lastingIn_run3 x0 x1 n) (fun d => some d) none
theorem I.lastingIn_L3_run (x0 : List Int) (x1 : List (List Int)) (n : Nat) (s_ : Int × (List Bool)) (k : X → St → R) : I.lastingIn_L3 n { n := 49, t := [(0, (.ro false (.ints .i64 x0))), (1, (.ro false (.rows x1))), (5, (.own 0)), (6, (.int .i64 s_.1))], h := [.row (.bools s_.2)] } k = optC (I.lastingIn_run3 x0 x1 n s_) (fun (r : List Bool) => k (.exit 0) { n := 49, t := [(0, (.ro false (.ints .i64 x0))), (1, (.ro false (.rows x1))), (5, (.own 0))], h := [.row (.bools r)] }) none := by
  induction n generalizing s_ with
  | zero => rfl
  | succ n ih =>
    have hu : I.lastingIn_L3 (n + 1) { n := 49, t := [(0, (.ro false (.ints .i64 x0))), (1, (.ro false (.rows x1))), (5, (.own 0)), (6, (.int .i64 s_.1))], h := [.row (.bools s_.2)] } k = I.lastingIn_step3 x0 x1 s_.1 s_.2 (fun s_ => I.lastingIn_L3 n { n := 49, t := [(0, (.ro false (.ints .i64 x0))), (1, (.ro false (.rows x1))), (5, (.own 0)), (6, (.int .i64 s_.1))], h := [.row (.bools s_.2)] } k) (fun d => k (.exit 0) { n := 49, t := [(0, (.ro false (.ints .i64 x0))), (1, (.ro false (.rows x1))), (5, (.own 0))], h := [.row (.bools d)] }) none := by
      kernel_rfl
    have hs : (fun s_ : Int × (List Bool) => I.lastingIn_L3 n { n := 49, t := [(0, (.ro false (.ints .i64 x0))), (1, (.ro false (.rows x1))), (5, (.own 0)), (6, (.int .i64 s_.1))], h := [.row (.bools s_.2)] } k) = fun s_ => optC (I.lastingIn_run3 x0 x1 n s_) (fun (r : List Bool) => k (.exit 0) { n := 49, t := [(0, (.ro false (.ints .i64 x0))), (1, (.ro false (.rows x1))), (5, (.own 0))], h := [.row (.bools r)] }) none := funext ih
    rw [hu, hs]
    exact (I.lastingIn_step3_nat (fun o => optC o (fun (r : List Bool) => k (.exit 0) { n := 49, t := [(0, (.ro false (.ints .i64 x0))), (1, (.ro false (.rows x1))), (5, (.own 0))], h := [.row (.bools r)] }) none) x0 x1 s_.1 s_.2 (I.lastingIn_run3 x0 x1 n) (fun d => some d) none).symm
noncomputable def I.lastingIn_step10 {α : Type} (x0 : List Int) (x1 : List (List Int)) (x7 : Bool) (x8 : Int) (r0 : List Bool) (next_ : Bool × Int × (List Bool) → α) (out0_ : Bool × (List Bool) → α) (fail_ : α) : α :=
  (optC (I.allOf_t x0) (fun c_4 => (bif decide (x8 ≤ c_4) then (bif decide (0 ≤ x8) && decide (x8 < (↑r0.length : Int)) then (bif decide (x8.toNat < r0.length) then (bif elb r0 x8.toNat then (bif decide (0 ≤ x8) && decide (x8 < (↑x1.length : Int)) then (optC (I.answeredBy_t r0 x8 (elr x1 x8.toNat)) (fun c_5 => (optC (I.allOf_t x0) (fun c_6 => (bif !c_5 == c_6 then (bif decide (0 ≤ x8) && decide (x8 < (↑r0.length : Int)) then (bif decide (x8.toNat < r0.length) then (next_ (true, IntKind.i64.wrap (x8 + 1), r0.set x8.toNat false)) else fail_) else fail_) else (next_ (x7, IntKind.i64.wrap (x8 + 1), r0)))) fail_)) fail_) else fail_) else (next_ (x7, IntKind.i64.wrap (x8 + 1), r0))) else fail_) else fail_) else (out0_ (x7, r0)))) fail_)
theorem I.lastingIn_step10_nat {α γ : Type} (g : α → γ) (x0 : List Int) (x1 : List (List Int)) (x7 : Bool) (x8 : Int) (r0 : List Bool) (next_ : Bool × Int × (List Bool) → α) (out0_ : Bool × (List Bool) → α) (fail_ : α) : g (I.lastingIn_step10 x0 x1 x7 x8 r0 next_ out0_ fail_) = I.lastingIn_step10 x0 x1 x7 x8 r0 (fun s => g (next_ s)) (fun d => g (out0_ d)) (g fail_) := by
  unfold I.lastingIn_step10; simp only [apply_cnd g, apply_optC g, apply_sumC g]
noncomputable def I.lastingIn_run10 (x0 : List Int) (x1 : List (List Int)) : Nat → Bool × Int × (List Bool) → Option (Bool × (List Bool))
  | 0, _ => none
  | n + 1, s_ => I.lastingIn_step10 x0 x1 s_.1 s_.2.1 s_.2.2 (I.lastingIn_run10 x0 x1 n) (fun d => some d) none
theorem I.lastingIn_L10_run (x0 : List Int) (x1 : List (List Int)) (n : Nat) (s_ : Bool × Int × (List Bool)) (k : X → St → R) : I.lastingIn_L10 n { n := 49, t := [(0, (.ro false (.ints .i64 x0))), (1, (.ro false (.rows x1))), (5, (.own 0)), (7, (.bool s_.1)), (8, (.int .i64 s_.2.1))], h := [.row (.bools s_.2.2)] } k = optC (I.lastingIn_run10 x0 x1 n s_) (fun (r : Bool × (List Bool)) => k (.exit 4) { n := 49, t := [(0, (.ro false (.ints .i64 x0))), (1, (.ro false (.rows x1))), (5, (.own 0)), (7, (.bool r.1))], h := [.row (.bools r.2)] }) none := by
  induction n generalizing s_ with
  | zero => rfl
  | succ n ih =>
    have hu : I.lastingIn_L10 (n + 1) { n := 49, t := [(0, (.ro false (.ints .i64 x0))), (1, (.ro false (.rows x1))), (5, (.own 0)), (7, (.bool s_.1)), (8, (.int .i64 s_.2.1))], h := [.row (.bools s_.2.2)] } k = I.lastingIn_step10 x0 x1 s_.1 s_.2.1 s_.2.2 (fun s_ => I.lastingIn_L10 n { n := 49, t := [(0, (.ro false (.ints .i64 x0))), (1, (.ro false (.rows x1))), (5, (.own 0)), (7, (.bool s_.1)), (8, (.int .i64 s_.2.1))], h := [.row (.bools s_.2.2)] } k) (fun d => k (.exit 4) { n := 49, t := [(0, (.ro false (.ints .i64 x0))), (1, (.ro false (.rows x1))), (5, (.own 0)), (7, (.bool d.1))], h := [.row (.bools d.2)] }) none := by
      kernel_rfl
    have hs : (fun s_ : Bool × Int × (List Bool) => I.lastingIn_L10 n { n := 49, t := [(0, (.ro false (.ints .i64 x0))), (1, (.ro false (.rows x1))), (5, (.own 0)), (7, (.bool s_.1)), (8, (.int .i64 s_.2.1))], h := [.row (.bools s_.2.2)] } k) = fun s_ => optC (I.lastingIn_run10 x0 x1 n s_) (fun (r : Bool × (List Bool)) => k (.exit 4) { n := 49, t := [(0, (.ro false (.ints .i64 x0))), (1, (.ro false (.rows x1))), (5, (.own 0)), (7, (.bool r.1))], h := [.row (.bools r.2)] }) none := funext ih
    rw [hu, hs]
    exact (I.lastingIn_step10_nat (fun o => optC o (fun (r : Bool × (List Bool)) => k (.exit 4) { n := 49, t := [(0, (.ro false (.ints .i64 x0))), (1, (.ro false (.rows x1))), (5, (.own 0)), (7, (.bool r.1))], h := [.row (.bools r.2)] }) none) x0 x1 s_.1 s_.2.1 s_.2.2 (I.lastingIn_run10 x0 x1 n) (fun d => some d) none).symm
noncomputable def I.lastingIn_step7 {α : Type} (x0 : List Int) (x1 : List (List Int)) (x7 : Bool) (r0 : List Bool) (next_ : Bool × (List Bool) → α) (out0_ : List Bool → α) (fail_ : α) : α :=
  (bif x7 then (optC (I.lastingIn_run10 x0 x1 FUEL (false, 0, r0)) (fun qy_7 => (next_ (qy_7.1, qy_7.2))) fail_) else (out0_ r0))
theorem I.lastingIn_step7_nat {α γ : Type} (g : α → γ) (x0 : List Int) (x1 : List (List Int)) (x7 : Bool) (r0 : List Bool) (next_ : Bool × (List Bool) → α) (out0_ : List Bool → α) (fail_ : α) : g (I.lastingIn_step7 x0 x1 x7 r0 next_ out0_ fail_) = I.lastingIn_step7 x0 x1 x7 r0 (fun s => g (next_ s)) (fun d => g (out0_ d)) (g fail_) := by
  unfold I.lastingIn_step7; simp only [apply_cnd g, apply_optC g, apply_sumC g]
noncomputable def I.lastingIn_run7 (x0 : List Int) (x1 : List (List Int)) : Nat → Bool × (List Bool) → Option (List Bool)
  | 0, _ => none
  | n + 1, s_ => I.lastingIn_step7 x0 x1 s_.1 s_.2 (I.lastingIn_run7 x0 x1 n) (fun d => some d) none
theorem I.lastingIn_L7_run (x0 : List Int) (x1 : List (List Int)) (n : Nat) (s_ : Bool × (List Bool)) (k : X → St → R) : I.lastingIn_L7 n { n := 49, t := [(0, (.ro false (.ints .i64 x0))), (1, (.ro false (.rows x1))), (5, (.own 0)), (7, (.bool s_.1))], h := [.row (.bools s_.2)] } k = optC (I.lastingIn_run7 x0 x1 n s_) (fun (r : List Bool) => k (.exit 2) { n := 49, t := [(5, (.own 0))], h := [.row (.bools r)] }) none := by
  induction n generalizing s_ with
  | zero => rfl
  | succ n ih =>
    have hu : I.lastingIn_L7 (n + 1) { n := 49, t := [(0, (.ro false (.ints .i64 x0))), (1, (.ro false (.rows x1))), (5, (.own 0)), (7, (.bool s_.1))], h := [.row (.bools s_.2)] } k = I.lastingIn_step7 x0 x1 s_.1 s_.2 (fun s_ => I.lastingIn_L7 n { n := 49, t := [(0, (.ro false (.ints .i64 x0))), (1, (.ro false (.rows x1))), (5, (.own 0)), (7, (.bool s_.1))], h := [.row (.bools s_.2)] } k) (fun d => k (.exit 2) { n := 49, t := [(5, (.own 0))], h := [.row (.bools d)] }) none := by
      refine Eq.trans (show I.lastingIn_L7 (n + 1) { n := 49, t := [(0, (.ro false (.ints .i64 x0))), (1, (.ro false (.rows x1))), (5, (.own 0)), (7, (.bool s_.1))], h := [.row (.bools s_.2)] } k = (bif s_.1 then (I.lastingIn_L10 FUEL { n := 49, t := [(0, (.ro false (.ints .i64 x0))), (1, (.ro false (.rows x1))), (5, (.own 0)), (7, (.bool false)), (8, (.int .i64 0))], h := [.row (.bools s_.2)] } (I.lastingIn_k10 ((fun σ => I.lastingIn_L7 n σ k), k))) else (k (.exit 2) { n := 49, t := [(5, (.own 0))], h := [.row (.bools s_.2)] })) by kernel_rfl) ?_
      refine cnd_congr ?_ ?_
      · refine (I.lastingIn_L10_run x0 x1 FUEL (false, 0, s_.2) (I.lastingIn_k10 ((fun σ => I.lastingIn_L7 n σ k), k))).trans (optC_congr (fun qy_7 => ?_))
        kernel_rfl
      · kernel_rfl
    have hs : (fun s_ : Bool × (List Bool) => I.lastingIn_L7 n { n := 49, t := [(0, (.ro false (.ints .i64 x0))), (1, (.ro false (.rows x1))), (5, (.own 0)), (7, (.bool s_.1))], h := [.row (.bools s_.2)] } k) = fun s_ => optC (I.lastingIn_run7 x0 x1 n s_) (fun (r : List Bool) => k (.exit 2) { n := 49, t := [(5, (.own 0))], h := [.row (.bools r)] }) none := funext ih
    rw [hu, hs]
    exact (I.lastingIn_step7_nat (fun o => optC o (fun (r : List Bool) => k (.exit 2) { n := 49, t := [(5, (.own 0))], h := [.row (.bools r)] }) none) x0 x1 s_.1 s_.2 (I.lastingIn_run7 x0 x1 n) (fun d => some d) none).symm
noncomputable def I.lastingIn_tree {α : Type} (net : List Int) (leads : List (List Int)) (leaf0_ : List Bool → α) (fail_ : α) : α :=
  (optC (I.allOf_t net) (fun c_1 => (bif decide (0 ≤ IntKind.i64.wrap (c_1 + 1)) && small (IntKind.i64.wrap (c_1 + 1)).toNat && true then (optC (I.lastingIn_run3 net leads FUEL (0, List.replicate (IntKind.i64.wrap (c_1 + 1)).toNat false)) (fun qy_3 => (optC (I.lastingIn_run7 net leads FUEL (true, qy_3)) (fun qy_8 => (leaf0_ qy_8)) fail_)) fail_) else fail_)) fail_)
theorem I.lastingIn_tree_nat {α γ : Type} (g : α → γ) (net : List Int) (leads : List (List Int)) (leaf0_ : List Bool → α) (fail_ : α) : g (I.lastingIn_tree net leads leaf0_ fail_) = I.lastingIn_tree net leads (fun d => g (leaf0_ d)) (g fail_) := by
  unfold I.lastingIn_tree; simp only [apply_cnd g, apply_optC g, apply_sumC g]
noncomputable def I.lastingIn_t (net : List Int) (leads : List (List Int)) : Option (List Bool) := I.lastingIn_tree net leads (fun d => some d) none
theorem I.lastingIn_den (net : List Int) (leads : List (List Int)) (κ : V → List E → R) : I.lastingIn_F [.ro false (.ints .i64 net), .ro false (.rows leads)] [] κ = optC (I.lastingIn_t net leads) (fun (r : List Bool) => κ (.own 0) [.row (.bools r)]) none := by
  have hu : I.lastingIn_F [.ro false (.ints .i64 net), .ro false (.rows leads)] [] κ = I.lastingIn_tree net leads (fun d => κ (.own 0) [.row (.bools d)]) none := by
    refine Eq.trans (show I.lastingIn_F [.ro false (.ints .i64 net), .ro false (.rows leads)] [] κ = (optC (I.allOf_t net) (fun c_1 => (bif decide (0 ≤ IntKind.i64.wrap (c_1 + 1)) && small (IntKind.i64.wrap (c_1 + 1)).toNat && true then (I.lastingIn_L3 FUEL { n := 49, t := [(0, (.ro false (.ints .i64 net))), (1, (.ro false (.rows leads))), (5, (.own 0)), (6, (.int .i64 0))], h := [.row (.bools (List.replicate (IntKind.i64.wrap (c_1 + 1)).toNat false))] } (I.lastingIn_k3 κ)) else none)) none) by kernel_rfl) ?_
    refine optC_congr (fun c_1 => ?_)
    refine cnd_congr ?_ ?_
    · refine (I.lastingIn_L3_run net leads FUEL (0, List.replicate (IntKind.i64.wrap (c_1 + 1)).toNat false) (I.lastingIn_k3 κ)).trans (optC_congr (fun qy_3 => ?_))
      refine Eq.trans (show (I.lastingIn_k3 κ (.exit 0) { n := 49, t := [(0, (.ro false (.ints .i64 net))), (1, (.ro false (.rows leads))), (5, (.own 0))], h := [.row (.bools qy_3)] }) = (I.lastingIn_L7 FUEL { n := 49, t := [(0, (.ro false (.ints .i64 net))), (1, (.ro false (.rows leads))), (5, (.own 0)), (7, (.bool true))], h := [.row (.bools qy_3)] } (I.lastingIn_k7 κ)) by kernel_rfl) ?_
      refine (I.lastingIn_L7_run net leads FUEL (true, qy_3) (I.lastingIn_k7 κ)).trans (optC_congr (fun qy_8 => ?_))
      kernel_rfl
    · kernel_rfl
  rw [hu]
  exact (I.lastingIn_tree_nat (fun o => optC o (fun (r : List Bool) => κ (.own 0) [.row (.bools r)]) none) net leads (fun d => some d) none).symm
noncomputable def I.lastingIn_s : D.Spec where
  keep := false
  pure := false
  add := true
  ds := [.int .i64, .slice 3]
  sp := fun args h κ => match args, h with
    | [.ro false (.ints .i64 net), .ro false (.rows leads)], [] => optC (I.lastingIn_t net leads) (fun (r : List Bool) => κ (.own 0) [.row (.bools r)]) none
    | _, _ => none
theorem I.lastingIn_ok : SpecOk Try.prog 74 I.lastingIn_s := by
  refine SpecOk.of TDok mixed (T := I.lastingIn_T) ?_ (ann := I.lastingIn_ann) Try.func74 rfl (by decide +kernel) ?_ ?_ ?_ ?_
  · intro p hp
    simp only [I.lastingIn_T, List.mem_cons, List.not_mem_nil, or_false] at hp
    rcases hp with rfl | rfl
    · exact I.allOf_ok
    · exact I.answeredBy_ok
  · intro args h κ r hh
    simp only [I.lastingIn_s] at hh
    split at hh
    · exact (I.lastingIn_den _ _ κ).trans hh
    · cases hh
  · intro args h κ r hh
    simp only [I.lastingIn_s] at hh ⊢
    split at hh
    · exact optC_law2 (F := fun (r : List Bool) κ => κ (.own 0) [.row (.bools r)]) (fun b κ r hb => ⟨_, _, hb, fun _ => rfl⟩) hh
    · cases hh
  · intro hh; cases hh
  · intro _ args h κ r hh
    simp only [I.lastingIn_s] at hh
    split at hh
    · rfl
    · cases hh


-- loop.example/guardsonnets/impl.eternalIn
noncomputable def I.eternalIn_T : List (Nat × D.Spec) := [(75, I.movesIn_s), (74, I.lastingIn_s)]
def I.eternalIn_ann : Nat → List Nat × List Nat
  | _ => ([], [])
noncomputable def I.eternalIn_F (args : List V) (h : List E) (κ : V → List E → R) : R := funC TD (tableK I.eternalIn_T) I.eternalIn_ann (drawAny TD (tableP I.eternalIn_T)) FUEL Try.f50 args h κ
noncomputable def I.eternalIn_tree {α : Type} (net : List Int) (leaf0_ : List Bool → α) (fail_ : α) : α :=
  (optC (I.movesIn_t net) (fun c_1 => (optC (I.lastingIn_t net c_1) (fun c_2 => (leaf0_ c_2)) fail_)) fail_)
theorem I.eternalIn_tree_nat {α γ : Type} (g : α → γ) (net : List Int) (leaf0_ : List Bool → α) (fail_ : α) : g (I.eternalIn_tree net leaf0_ fail_) = I.eternalIn_tree net (fun d => g (leaf0_ d)) (g fail_) := by
  unfold I.eternalIn_tree; simp only [apply_cnd g, apply_optC g, apply_sumC g]
noncomputable def I.eternalIn_t (net : List Int) : Option (List Bool) := I.eternalIn_tree net (fun d => some d) none
theorem I.eternalIn_den (net : List Int) (κ : V → List E → R) : I.eternalIn_F [.ro false (.ints .i64 net)] [] κ = optC (I.eternalIn_t net) (fun (r : List Bool) => κ (.own 0) [.row (.bools r)]) none := by
  have hu : I.eternalIn_F [.ro false (.ints .i64 net)] [] κ = I.eternalIn_tree net (fun d => κ (.own 0) [.row (.bools d)]) none := by
    kernel_rfl
  rw [hu]
  exact (I.eternalIn_tree_nat (fun o => optC o (fun (r : List Bool) => κ (.own 0) [.row (.bools r)]) none) net (fun d => some d) none).symm
noncomputable def I.eternalIn_s : D.Spec where
  keep := false
  pure := false
  add := true
  ds := [.int .i64]
  sp := fun args h κ => match args, h with
    | [.ro false (.ints .i64 net)], [] => optC (I.eternalIn_t net) (fun (r : List Bool) => κ (.own 0) [.row (.bools r)]) none
    | _, _ => none
theorem I.eternalIn_ok : SpecOk Try.prog 50 I.eternalIn_s := by
  refine SpecOk.of TDok mixed (T := I.eternalIn_T) ?_ (ann := I.eternalIn_ann) Try.func50 rfl (by decide +kernel) ?_ ?_ ?_ ?_
  · intro p hp
    simp only [I.eternalIn_T, List.mem_cons, List.not_mem_nil, or_false] at hp
    rcases hp with rfl | rfl
    · exact I.movesIn_ok
    · exact I.lastingIn_ok
  · intro args h κ r hh
    simp only [I.eternalIn_s] at hh
    split at hh
    · exact (I.eternalIn_den _ κ).trans hh
    · cases hh
  · intro args h κ r hh
    simp only [I.eternalIn_s] at hh ⊢
    split at hh
    · exact optC_law2 (F := fun (r : List Bool) κ => κ (.own 0) [.row (.bools r)]) (fun b κ r hb => ⟨_, _, hb, fun _ => rfl⟩) hh
    · cases hh
  · intro hh; cases hh
  · intro _ args h κ r hh
    simp only [I.eternalIn_s] at hh
    split at hh
    · rfl
    · cases hh


-- loop.example/guardsonnets/impl.sizeOf
noncomputable def I.sizeOf_T : List (Nat × D.Spec) := []
def I.sizeOf_ann : Nat → List Nat × List Nat
  | 3 => ([0, 3, 4], [3])
  | _ => ([], [])
noncomputable def I.sizeOf_F (args : List V) (h : List E) (κ : V → List E → R) : R := funC TD (tableK I.sizeOf_T) I.sizeOf_ann (drawAny TD (tableP I.sizeOf_T)) FUEL Try.f83 args h κ
noncomputable def I.sizeOf_L3 (n : Nat) (σ : St) (k : X → St → R) : R := iterC 0 (fun σ k => denC TD (tableK I.sizeOf_T) I.sizeOf_ann (drawAny TD (tableP I.sizeOf_T)) 0 FUEL ((findLoop 3 (Try.f83.body.getD .skip)).getD .skip) σ k) [0, 3, 4] [3] n σ k
noncomputable def I.sizeOf_k3 (κ : V → List E → R) : X → St → R := (afterC TD (tableK I.sizeOf_T) I.sizeOf_ann (drawAny TD (tableP I.sizeOf_T)) 0 FUEL 3 (Try.f83.body.getD .skip) (finC TD 0 Try.f83 κ)).getD (fun _ _ => none)
noncomputable def I.sizeOf_step3 {α : Type} (x0 : Int) (x3 : Int) (x4 : Int) (next_ : Int × Int → α) (out0_ : Int → α) (fail_ : α) : α :=
  (bif decide (x4 < 6) then (bif decide (x4 < 0) then fail_ else (next_ (IntKind.i64.wrap (x3 + bits BinOp.and IntKind.i64 (x0.fdiv (2 ^ min x4.toNat IntKind.i64.bits)) 1), IntKind.i64.wrap (x4 + 1)))) else (out0_ x3))
theorem I.sizeOf_step3_nat {α γ : Type} (g : α → γ) (x0 : Int) (x3 : Int) (x4 : Int) (next_ : Int × Int → α) (out0_ : Int → α) (fail_ : α) : g (I.sizeOf_step3 x0 x3 x4 next_ out0_ fail_) = I.sizeOf_step3 x0 x3 x4 (fun s => g (next_ s)) (fun d => g (out0_ d)) (g fail_) := by
  unfold I.sizeOf_step3; simp only [apply_cnd g, apply_optC g, apply_sumC g]
noncomputable def I.sizeOf_run3 (x0 : Int) : Nat → Int × Int → Option (Int)
  | 0, _ => none
  | n + 1, s_ => I.sizeOf_step3 x0 s_.1 s_.2 (I.sizeOf_run3 x0 n) (fun d => some d) none
theorem I.sizeOf_L3_run (x0 : Int) (n : Nat) (s_ : Int × Int) (k : X → St → R) : I.sizeOf_L3 n { n := 16, t := [(0, (.int .i64 x0)), (3, (.int .i64 s_.1)), (4, (.int .i64 s_.2))], h := [] } k = optC (I.sizeOf_run3 x0 n s_) (fun (r : Int) => k (.exit 0) { n := 16, t := [(3, (.int .i64 r))], h := [] }) none := by
  induction n generalizing s_ with
  | zero => rfl
  | succ n ih =>
    have hu : I.sizeOf_L3 (n + 1) { n := 16, t := [(0, (.int .i64 x0)), (3, (.int .i64 s_.1)), (4, (.int .i64 s_.2))], h := [] } k = I.sizeOf_step3 x0 s_.1 s_.2 (fun s_ => I.sizeOf_L3 n { n := 16, t := [(0, (.int .i64 x0)), (3, (.int .i64 s_.1)), (4, (.int .i64 s_.2))], h := [] } k) (fun d => k (.exit 0) { n := 16, t := [(3, (.int .i64 d))], h := [] }) none := by
      kernel_rfl
    have hs : (fun s_ : Int × Int => I.sizeOf_L3 n { n := 16, t := [(0, (.int .i64 x0)), (3, (.int .i64 s_.1)), (4, (.int .i64 s_.2))], h := [] } k) = fun s_ => optC (I.sizeOf_run3 x0 n s_) (fun (r : Int) => k (.exit 0) { n := 16, t := [(3, (.int .i64 r))], h := [] }) none := funext ih
    rw [hu, hs]
    exact (I.sizeOf_step3_nat (fun o => optC o (fun (r : Int) => k (.exit 0) { n := 16, t := [(3, (.int .i64 r))], h := [] }) none) x0 s_.1 s_.2 (I.sizeOf_run3 x0 n) (fun d => some d) none).symm
noncomputable def I.sizeOf_tree {α : Type} (set_ : Int) (leaf0_ : Int → α) (fail_ : α) : α :=
  (optC (I.sizeOf_run3 set_ FUEL (0, 0)) (fun qy_1 => (leaf0_ qy_1)) fail_)
theorem I.sizeOf_tree_nat {α γ : Type} (g : α → γ) (set_ : Int) (leaf0_ : Int → α) (fail_ : α) : g (I.sizeOf_tree set_ leaf0_ fail_) = I.sizeOf_tree set_ (fun d => g (leaf0_ d)) (g fail_) := by
  unfold I.sizeOf_tree; simp only [apply_cnd g, apply_optC g, apply_sumC g]
noncomputable def I.sizeOf_t (set_ : Int) : Option (Int) := I.sizeOf_tree set_ (fun d => some d) none
theorem I.sizeOf_den (set_ : Int) (κ : V → List E → R) : I.sizeOf_F [.int .i64 set_] [] κ = optC (I.sizeOf_t set_) (fun (r : Int) => κ (.int .i64 r) []) none := by
  have hu : I.sizeOf_F [.int .i64 set_] [] κ = I.sizeOf_tree set_ (fun d => κ (.int .i64 d) []) none := by
    refine Eq.trans (show I.sizeOf_F [.int .i64 set_] [] κ = (I.sizeOf_L3 FUEL { n := 16, t := [(0, (.int .i64 set_)), (3, (.int .i64 0)), (4, (.int .i64 0))], h := [] } (I.sizeOf_k3 κ)) by kernel_rfl) ?_
    refine (I.sizeOf_L3_run set_ FUEL (0, 0) (I.sizeOf_k3 κ)).trans (optC_congr (fun qy_1 => ?_))
    kernel_rfl
  rw [hu]
  exact (I.sizeOf_tree_nat (fun o => optC o (fun (r : Int) => κ (.int .i64 r) []) none) set_ (fun d => some d) none).symm
noncomputable def I.sizeOf_s : D.Spec where
  keep := false
  pure := true
  add := true
  ds := [.invalid]
  sp := fun args h κ => match args, h with
    | [.int .i64 set_], [] => optC (I.sizeOf_t set_) (fun (r : Int) => κ (.int .i64 r) []) none
    | _, _ => none
theorem I.sizeOf_ok : SpecOk Try.prog 83 I.sizeOf_s := by
  refine SpecOk.of TDok mixed (T := I.sizeOf_T) ?_ (ann := I.sizeOf_ann) Try.func83 rfl (by decide +kernel) ?_ ?_ ?_ ?_
  · intro p hp; cases hp
  · intro args h κ r hh
    simp only [I.sizeOf_s] at hh
    split at hh
    · exact (I.sizeOf_den _ κ).trans hh
    · cases hh
  · intro args h κ r hh
    simp only [I.sizeOf_s] at hh ⊢
    split at hh
    · exact optC_law2 (F := fun (r : Int) κ => κ (.int .i64 r) []) (fun b κ r hb => ⟨_, _, hb, fun _ => rfl⟩) hh
    · cases hh
  · intro _ args h κ r hh
    simp only [I.sizeOf_s] at hh
    split at hh
    · exact ⟨rfl, fun _ => rfl⟩
    · cases hh
  · intro _ args h κ r hh
    simp only [I.sizeOf_s] at hh
    split at hh
    · rfl
    · cases hh


-- loop.example/guardsonnets/impl.firstPostIn
noncomputable def I.firstPostIn_T : List (Nat × D.Spec) := [(50, I.eternalIn_s), (82, I.allOf_s), (83, I.sizeOf_s)]
def I.firstPostIn_ann : Nat → List Nat × List Nat
  | 4 => ([0, 3, 4, 5], [4])
  | _ => ([], [])
noncomputable def I.firstPostIn_F (args : List V) (h : List E) (κ : V → List E → R) : R := funC TD (tableK I.firstPostIn_T) I.firstPostIn_ann (drawAny TD (tableP I.firstPostIn_T)) FUEL Try.f72 args h κ
noncomputable def I.firstPostIn_L4 (n : Nat) (σ : St) (k : X → St → R) : R := iterC 0 (fun σ k => denC TD (tableK I.firstPostIn_T) I.firstPostIn_ann (drawAny TD (tableP I.firstPostIn_T)) 0 FUEL ((findLoop 4 (Try.f72.body.getD .skip)).getD .skip) σ k) [0, 3, 4, 5] [4] n σ k
noncomputable def I.firstPostIn_k4 (κ : V → List E → R) : X → St → R := (afterC TD (tableK I.firstPostIn_T) I.firstPostIn_ann (drawAny TD (tableP I.firstPostIn_T)) 0 FUEL 4 (Try.f72.body.getD .skip) (finC TD 0 Try.f72 κ)).getD (fun _ _ => none)
noncomputable def I.firstPostIn_step4 {α : Type} (x0 : List Int) (x4 : Int) (x5 : Int) (r0 : List Bool) (next_ : Int × Int × (List Bool) → α) (out0_ : Int → α) (fail_ : α) : α :=
  (optC (I.allOf_t x0) (fun c_3 => (bif decide (x5 < c_3) then (optC (I.sizeOf_t x5) (fun c_4 => (optC (I.sizeOf_t x4) (fun c_5 => (bif decide (c_4 < c_5) then (bif decide (0 ≤ x5) && decide (x5 < (↑r0.length : Int)) then (bif decide (x5.toNat < r0.length) then (bif elb r0 x5.toNat then (next_ (x5, IntKind.i64.wrap (x5 + 1), r0)) else (next_ (x4, IntKind.i64.wrap (x5 + 1), r0))) else fail_) else fail_) else (next_ (x4, IntKind.i64.wrap (x5 + 1), r0)))) fail_)) fail_) else (out0_ x4))) fail_)
theorem I.firstPostIn_step4_nat {α γ : Type} (g : α → γ) (x0 : List Int) (x4 : Int) (x5 : Int) (r0 : List Bool) (next_ : Int × Int × (List Bool) → α) (out0_ : Int → α) (fail_ : α) : g (I.firstPostIn_step4 x0 x4 x5 r0 next_ out0_ fail_) = I.firstPostIn_step4 x0 x4 x5 r0 (fun s => g (next_ s)) (fun d => g (out0_ d)) (g fail_) := by
  unfold I.firstPostIn_step4; simp only [apply_cnd g, apply_optC g, apply_sumC g]
noncomputable def I.firstPostIn_run4 (x0 : List Int) : Nat → Int × Int × (List Bool) → Option (Int)
  | 0, _ => none
  | n + 1, s_ => I.firstPostIn_step4 x0 s_.1 s_.2.1 s_.2.2 (I.firstPostIn_run4 x0 n) (fun d => some d) none
theorem I.firstPostIn_L4_run (x0 : List Int) (n : Nat) (s_ : Int × Int × (List Bool)) (k : X → St → R) : I.firstPostIn_L4 n { n := 29, t := [(0, (.ro false (.ints .i64 x0))), (3, (.own 0)), (4, (.int .i64 s_.1)), (5, (.int .i64 s_.2.1))], h := [.row (.bools s_.2.2)] } k = optC (I.firstPostIn_run4 x0 n s_) (fun (r : Int) => k (.exit 0) { n := 29, t := [(4, (.int .i64 r))], h := [] }) none := by
  induction n generalizing s_ with
  | zero => rfl
  | succ n ih =>
    have hu : I.firstPostIn_L4 (n + 1) { n := 29, t := [(0, (.ro false (.ints .i64 x0))), (3, (.own 0)), (4, (.int .i64 s_.1)), (5, (.int .i64 s_.2.1))], h := [.row (.bools s_.2.2)] } k = I.firstPostIn_step4 x0 s_.1 s_.2.1 s_.2.2 (fun s_ => I.firstPostIn_L4 n { n := 29, t := [(0, (.ro false (.ints .i64 x0))), (3, (.own 0)), (4, (.int .i64 s_.1)), (5, (.int .i64 s_.2.1))], h := [.row (.bools s_.2.2)] } k) (fun d => k (.exit 0) { n := 29, t := [(4, (.int .i64 d))], h := [] }) none := by
      kernel_rfl
    have hs : (fun s_ : Int × Int × (List Bool) => I.firstPostIn_L4 n { n := 29, t := [(0, (.ro false (.ints .i64 x0))), (3, (.own 0)), (4, (.int .i64 s_.1)), (5, (.int .i64 s_.2.1))], h := [.row (.bools s_.2.2)] } k) = fun s_ => optC (I.firstPostIn_run4 x0 n s_) (fun (r : Int) => k (.exit 0) { n := 29, t := [(4, (.int .i64 r))], h := [] }) none := funext ih
    rw [hu, hs]
    exact (I.firstPostIn_step4_nat (fun o => optC o (fun (r : Int) => k (.exit 0) { n := 29, t := [(4, (.int .i64 r))], h := [] }) none) x0 s_.1 s_.2.1 s_.2.2 (I.firstPostIn_run4 x0 n) (fun d => some d) none).symm
noncomputable def I.firstPostIn_tree {α : Type} (net : List Int) (leaf0_ : Int → α) (fail_ : α) : α :=
  (optC (I.eternalIn_t net) (fun c_1 => (optC (I.allOf_t net) (fun c_2 => (optC (I.firstPostIn_run4 net FUEL (c_2, 0, c_1)) (fun qy_6 => (leaf0_ qy_6)) fail_)) fail_)) fail_)
theorem I.firstPostIn_tree_nat {α γ : Type} (g : α → γ) (net : List Int) (leaf0_ : Int → α) (fail_ : α) : g (I.firstPostIn_tree net leaf0_ fail_) = I.firstPostIn_tree net (fun d => g (leaf0_ d)) (g fail_) := by
  unfold I.firstPostIn_tree; simp only [apply_cnd g, apply_optC g, apply_sumC g]
noncomputable def I.firstPostIn_t (net : List Int) : Option (Int) := I.firstPostIn_tree net (fun d => some d) none
theorem I.firstPostIn_den (net : List Int) (κ : V → List E → R) : I.firstPostIn_F [.ro false (.ints .i64 net)] [] κ = optC (I.firstPostIn_t net) (fun (r : Int) => κ (.int .i64 r) []) none := by
  have hu : I.firstPostIn_F [.ro false (.ints .i64 net)] [] κ = I.firstPostIn_tree net (fun d => κ (.int .i64 d) []) none := by
    refine Eq.trans (show I.firstPostIn_F [.ro false (.ints .i64 net)] [] κ = (optC (I.eternalIn_t net) (fun c_1 => (optC (I.allOf_t net) (fun c_2 => (I.firstPostIn_L4 FUEL { n := 29, t := [(0, (.ro false (.ints .i64 net))), (3, (.own 0)), (4, (.int .i64 c_2)), (5, (.int .i64 0))], h := [.row (.bools c_1)] } (I.firstPostIn_k4 κ))) none)) none) by kernel_rfl) ?_
    refine optC_congr (fun c_1 => ?_)
    refine optC_congr (fun c_2 => ?_)
    refine (I.firstPostIn_L4_run net FUEL (c_2, 0, c_1) (I.firstPostIn_k4 κ)).trans (optC_congr (fun qy_6 => ?_))
    kernel_rfl
  rw [hu]
  exact (I.firstPostIn_tree_nat (fun o => optC o (fun (r : Int) => κ (.int .i64 r) []) none) net (fun d => some d) none).symm
noncomputable def I.firstPostIn_s : D.Spec where
  keep := false
  pure := true
  add := true
  ds := [.int .i64]
  sp := fun args h κ => match args, h with
    | [.ro false (.ints .i64 net)], [] => optC (I.firstPostIn_t net) (fun (r : Int) => κ (.int .i64 r) []) none
    | _, _ => none
theorem I.firstPostIn_ok : SpecOk Try.prog 72 I.firstPostIn_s := by
  refine SpecOk.of TDok mixed (T := I.firstPostIn_T) ?_ (ann := I.firstPostIn_ann) Try.func72 rfl (by decide +kernel) ?_ ?_ ?_ ?_
  · intro p hp
    simp only [I.firstPostIn_T, List.mem_cons, List.not_mem_nil, or_false] at hp
    rcases hp with rfl | rfl | rfl
    · exact I.eternalIn_ok
    · exact I.allOf_ok
    · exact I.sizeOf_ok
  · intro args h κ r hh
    simp only [I.firstPostIn_s] at hh
    split at hh
    · exact (I.firstPostIn_den _ κ).trans hh
    · cases hh
  · intro args h κ r hh
    simp only [I.firstPostIn_s] at hh ⊢
    split at hh
    · exact optC_law2 (F := fun (r : Int) κ => κ (.int .i64 r) []) (fun b κ r hb => ⟨_, _, hb, fun _ => rfl⟩) hh
    · cases hh
  · intro _ args h κ r hh
    simp only [I.firstPostIn_s] at hh
    split at hh
    · exact ⟨rfl, fun _ => rfl⟩
    · cases hh
  · intro _ args h κ r hh
    simp only [I.firstPostIn_s] at hh
    split at hh
    · rfl
    · cases hh


-- loop.example/guardsonnets/impl.answerIn
noncomputable def I.answerIn_T : List (Nat × D.Spec) := [(92, I.moveIn_s), (76, I.moved_s)]
def I.answerIn_ann : Nat → List Nat × List Nat
  | 2 => ([0, 1, 2, 3, 9], [8])
  | _ => ([], [])
noncomputable def I.answerIn_F (args : List V) (h : List E) (κ : V → List E → R) : R := funC TD (tableK I.answerIn_T) I.answerIn_ann (drawAny TD (tableP I.answerIn_T)) FUEL Try.f77 args h κ
noncomputable def I.answerIn_L2 (n : Nat) (σ : St) (k : X → St → R) : R := iterC 0 (fun σ k => denC TD (tableK I.answerIn_T) I.answerIn_ann (drawAny TD (tableP I.answerIn_T)) 0 FUEL ((findLoop 2 (Try.f77.body.getD .skip)).getD .skip) σ k) [0, 1, 2, 3, 9] [8] n σ k
noncomputable def I.answerIn_k2 (κ : V → List E → R) : X → St → R := (afterC TD (tableK I.answerIn_T) I.answerIn_ann (drawAny TD (tableP I.answerIn_T)) 0 FUEL 2 (Try.f77.body.getD .skip) (finC TD 0 Try.f77 κ)).getD (fun _ _ => none)
noncomputable def I.answerIn_step2 {α : Type} (x0 : List Int) (x1 : List Bool) (x2 : Int) (x3 : Int) (x9 : Int) (next_ : Int → α) (out0_ : Int → α) (out1_ : Unit → α) (fail_ : α) : α :=
  (bif decide (x9 < (↑x0.length : Int)) then (optC (I.moveIn_t x0 x2 x9 x3) (fun c_1 => (bif c_1 then (optC (I.moved_t x2 x9 x3) (fun c_2 => (bif decide (0 ≤ c_2) && decide (c_2 < (↑x1.length : Int)) then (bif elb x1 c_2.toNat then (out0_ x9) else (next_ (IntKind.i64.wrap (x9 + 1)))) else fail_)) fail_) else (next_ (IntKind.i64.wrap (x9 + 1))))) fail_) else (out1_ ()))
theorem I.answerIn_step2_nat {α γ : Type} (g : α → γ) (x0 : List Int) (x1 : List Bool) (x2 : Int) (x3 : Int) (x9 : Int) (next_ : Int → α) (out0_ : Int → α) (out1_ : Unit → α) (fail_ : α) : g (I.answerIn_step2 x0 x1 x2 x3 x9 next_ out0_ out1_ fail_) = I.answerIn_step2 x0 x1 x2 x3 x9 (fun s => g (next_ s)) (fun d => g (out0_ d)) (fun d => g (out1_ d)) (g fail_) := by
  unfold I.answerIn_step2; simp only [apply_cnd g, apply_optC g, apply_sumC g]
noncomputable def I.answerIn_run2 (x0 : List Int) (x1 : List Bool) (x2 : Int) (x3 : Int) : Nat → Int → Option ((Int) ⊕ (Unit))
  | 0, _ => none
  | n + 1, s_ => I.answerIn_step2 x0 x1 x2 x3 s_ (I.answerIn_run2 x0 x1 x2 x3 n) (fun d => some ((Sum.inl d))) (fun d => some ((Sum.inr d))) none
theorem I.answerIn_L2_run (x0 : List Int) (x1 : List Bool) (x2 : Int) (x3 : Int) (n : Nat) (s_ : Int) (k : X → St → R) : I.answerIn_L2 n { n := 31, t := [(0, (.ro false (.ints .i64 x0))), (1, (.ro false (.bools x1))), (2, (.int .i64 x2)), (3, (.int .i64 x3)), (9, (.int .i64 s_))], h := [] } k = optC (I.answerIn_run2 x0 x1 x2 x3 n s_) (fun (r : (Int) ⊕ (Unit)) => (sumC r (fun (r : Int) => k (.ret) { n := 31, t := [(8, (.int .i64 r))], h := [] }) (fun (r : Unit) => k (.exit 0) { n := 31, t := [(8, .junk)], h := [] }))) none := by
  induction n generalizing s_ with
  | zero => rfl
  | succ n ih =>
    have hu : I.answerIn_L2 (n + 1) { n := 31, t := [(0, (.ro false (.ints .i64 x0))), (1, (.ro false (.bools x1))), (2, (.int .i64 x2)), (3, (.int .i64 x3)), (9, (.int .i64 s_))], h := [] } k = I.answerIn_step2 x0 x1 x2 x3 s_ (fun s_ => I.answerIn_L2 n { n := 31, t := [(0, (.ro false (.ints .i64 x0))), (1, (.ro false (.bools x1))), (2, (.int .i64 x2)), (3, (.int .i64 x3)), (9, (.int .i64 s_))], h := [] } k) (fun d => k (.ret) { n := 31, t := [(8, (.int .i64 d))], h := [] }) (fun d => k (.exit 0) { n := 31, t := [(8, .junk)], h := [] }) none := by
      kernel_rfl
    have hs : (fun s_ : Int => I.answerIn_L2 n { n := 31, t := [(0, (.ro false (.ints .i64 x0))), (1, (.ro false (.bools x1))), (2, (.int .i64 x2)), (3, (.int .i64 x3)), (9, (.int .i64 s_))], h := [] } k) = fun s_ => optC (I.answerIn_run2 x0 x1 x2 x3 n s_) (fun (r : (Int) ⊕ (Unit)) => (sumC r (fun (r : Int) => k (.ret) { n := 31, t := [(8, (.int .i64 r))], h := [] }) (fun (r : Unit) => k (.exit 0) { n := 31, t := [(8, .junk)], h := [] }))) none := funext ih
    rw [hu, hs]
    exact (I.answerIn_step2_nat (fun o => optC o (fun (r : (Int) ⊕ (Unit)) => (sumC r (fun (r : Int) => k (.ret) { n := 31, t := [(8, (.int .i64 r))], h := [] }) (fun (r : Unit) => k (.exit 0) { n := 31, t := [(8, .junk)], h := [] }))) none) x0 x1 x2 x3 s_ (I.answerIn_run2 x0 x1 x2 x3 n) (fun d => some ((Sum.inl d))) (fun d => some ((Sum.inr d))) none).symm
noncomputable def I.answerIn_tree {α : Type} (net : List Int) (eternal : List Bool) (set_ : Int) (place : Int) (leaf0_ : Int → α) (fail_ : α) : α :=
  (optC (I.answerIn_run2 net eternal set_ place FUEL 0) (fun qy_3 => (sumC qy_3 (fun (qy_3 : Int) => (leaf0_ qy_3)) (fun (qy_3 : Unit) => (leaf0_ (-1))))) fail_)
theorem I.answerIn_tree_nat {α γ : Type} (g : α → γ) (net : List Int) (eternal : List Bool) (set_ : Int) (place : Int) (leaf0_ : Int → α) (fail_ : α) : g (I.answerIn_tree net eternal set_ place leaf0_ fail_) = I.answerIn_tree net eternal set_ place (fun d => g (leaf0_ d)) (g fail_) := by
  unfold I.answerIn_tree; simp only [apply_cnd g, apply_optC g, apply_sumC g]
noncomputable def I.answerIn_t (net : List Int) (eternal : List Bool) (set_ : Int) (place : Int) : Option (Int) := I.answerIn_tree net eternal set_ place (fun d => some d) none
theorem I.answerIn_den (net : List Int) (eternal : List Bool) (set_ : Int) (place : Int) (κ : V → List E → R) : I.answerIn_F [.ro false (.ints .i64 net), .ro false (.bools eternal), .int .i64 set_, .int .i64 place] [] κ = optC (I.answerIn_t net eternal set_ place) (fun (r : Int) => κ (.int .i64 r) []) none := by
  have hu : I.answerIn_F [.ro false (.ints .i64 net), .ro false (.bools eternal), .int .i64 set_, .int .i64 place] [] κ = I.answerIn_tree net eternal set_ place (fun d => κ (.int .i64 d) []) none := by
    refine Eq.trans (show I.answerIn_F [.ro false (.ints .i64 net), .ro false (.bools eternal), .int .i64 set_, .int .i64 place] [] κ = (I.answerIn_L2 FUEL { n := 31, t := [(0, (.ro false (.ints .i64 net))), (1, (.ro false (.bools eternal))), (2, (.int .i64 set_)), (3, (.int .i64 place)), (9, (.int .i64 0))], h := [] } (I.answerIn_k2 κ)) by kernel_rfl) ?_
    refine (I.answerIn_L2_run net eternal set_ place FUEL 0 (I.answerIn_k2 κ)).trans (optC_congr (fun qy_3 => ?_))
    rcases qy_3 with qy_3 | qy_3
    · kernel_rfl
    · kernel_rfl
  rw [hu]
  exact (I.answerIn_tree_nat (fun o => optC o (fun (r : Int) => κ (.int .i64 r) []) none) net eternal set_ place (fun d => some d) none).symm
noncomputable def I.answerIn_s : D.Spec where
  keep := false
  pure := true
  add := true
  ds := [.int .i64, .bool, .invalid, .invalid]
  sp := fun args h κ => match args, h with
    | [.ro false (.ints .i64 net), .ro false (.bools eternal), .int .i64 set_, .int .i64 place], [] => optC (I.answerIn_t net eternal set_ place) (fun (r : Int) => κ (.int .i64 r) []) none
    | _, _ => none
theorem I.answerIn_ok : SpecOk Try.prog 77 I.answerIn_s := by
  refine SpecOk.of TDok mixed (T := I.answerIn_T) ?_ (ann := I.answerIn_ann) Try.func77 rfl (by decide +kernel) ?_ ?_ ?_ ?_
  · intro p hp
    simp only [I.answerIn_T, List.mem_cons, List.not_mem_nil, or_false] at hp
    rcases hp with rfl | rfl
    · exact I.moveIn_ok
    · exact I.moved_ok
  · intro args h κ r hh
    simp only [I.answerIn_s] at hh
    split at hh
    · exact (I.answerIn_den _ _ _ _ κ).trans hh
    · cases hh
  · intro args h κ r hh
    simp only [I.answerIn_s] at hh ⊢
    split at hh
    · exact optC_law2 (F := fun (r : Int) κ => κ (.int .i64 r) []) (fun b κ r hb => ⟨_, _, hb, fun _ => rfl⟩) hh
    · cases hh
  · intro _ args h κ r hh
    simp only [I.answerIn_s] at hh
    split at hh
    · exact ⟨rfl, fun _ => rfl⟩
    · cases hh
  · intro _ args h κ r hh
    simp only [I.answerIn_s] at hh
    split at hh
    · rfl
    · cases hh


-- loop.example/guardsonnets/impl.answeredIn
noncomputable def I.answeredIn_T : List (Nat × D.Spec) := [(69, I.hasPlace_s), (77, I.answerIn_s), (76, I.moved_s)]
def I.answeredIn_ann : Nat → List Nat × List Nat
  | _ => ([], [])
noncomputable def I.answeredIn_F (args : List V) (h : List E) (κ : V → List E → R) : R := funC TD (tableK I.answeredIn_T) I.answeredIn_ann (drawAny TD (tableP I.answeredIn_T)) FUEL Try.f53 args h κ
noncomputable def I.answeredIn_tree {α : Type} (net : List Int) (eternal : List Bool) (set_ : Int) (place : Int) (leaf0_ : Int → α) (fail_ : α) : α :=
  (optC (I.hasPlace_t set_ place) (fun c_1 => (bif c_1 then (leaf0_ set_) else (optC (I.answerIn_t net eternal set_ place) (fun c_2 => (optC (I.moved_t set_ c_2 place) (fun c_3 => (leaf0_ c_3)) fail_)) fail_))) fail_)
theorem I.answeredIn_tree_nat {α γ : Type} (g : α → γ) (net : List Int) (eternal : List Bool) (set_ : Int) (place : Int) (leaf0_ : Int → α) (fail_ : α) : g (I.answeredIn_tree net eternal set_ place leaf0_ fail_) = I.answeredIn_tree net eternal set_ place (fun d => g (leaf0_ d)) (g fail_) := by
  unfold I.answeredIn_tree; simp only [apply_cnd g, apply_optC g, apply_sumC g]
noncomputable def I.answeredIn_t (net : List Int) (eternal : List Bool) (set_ : Int) (place : Int) : Option (Int) := I.answeredIn_tree net eternal set_ place (fun d => some d) none
theorem I.answeredIn_den (net : List Int) (eternal : List Bool) (set_ : Int) (place : Int) (κ : V → List E → R) : I.answeredIn_F [.ro false (.ints .i64 net), .ro false (.bools eternal), .int .i64 set_, .int .i64 place] [] κ = optC (I.answeredIn_t net eternal set_ place) (fun (r : Int) => κ (.int .i64 r) []) none := by
  have hu : I.answeredIn_F [.ro false (.ints .i64 net), .ro false (.bools eternal), .int .i64 set_, .int .i64 place] [] κ = I.answeredIn_tree net eternal set_ place (fun d => κ (.int .i64 d) []) none := by
    kernel_rfl
  rw [hu]
  exact (I.answeredIn_tree_nat (fun o => optC o (fun (r : Int) => κ (.int .i64 r) []) none) net eternal set_ place (fun d => some d) none).symm
noncomputable def I.answeredIn_s : D.Spec where
  keep := false
  pure := true
  add := true
  ds := [.int .i64, .bool, .invalid, .invalid]
  sp := fun args h κ => match args, h with
    | [.ro false (.ints .i64 net), .ro false (.bools eternal), .int .i64 set_, .int .i64 place], [] => optC (I.answeredIn_t net eternal set_ place) (fun (r : Int) => κ (.int .i64 r) []) none
    | _, _ => none
theorem I.answeredIn_ok : SpecOk Try.prog 53 I.answeredIn_s := by
  refine SpecOk.of TDok mixed (T := I.answeredIn_T) ?_ (ann := I.answeredIn_ann) Try.func53 rfl (by decide +kernel) ?_ ?_ ?_ ?_
  · intro p hp
    simp only [I.answeredIn_T, List.mem_cons, List.not_mem_nil, or_false] at hp
    rcases hp with rfl | rfl | rfl
    · exact I.hasPlace_ok
    · exact I.answerIn_ok
    · exact I.moved_ok
  · intro args h κ r hh
    simp only [I.answeredIn_s] at hh
    split at hh
    · exact (I.answeredIn_den _ _ _ _ κ).trans hh
    · cases hh
  · intro args h κ r hh
    simp only [I.answeredIn_s] at hh ⊢
    split at hh
    · exact optC_law2 (F := fun (r : Int) κ => κ (.int .i64 r) []) (fun b κ r hb => ⟨_, _, hb, fun _ => rfl⟩) hh
    · cases hh
  · intro _ args h κ r hh
    simp only [I.answeredIn_s] at hh
    split at hh
    · exact ⟨rfl, fun _ => rfl⟩
    · cases hh
  · intro _ args h κ r hh
    simp only [I.answeredIn_s] at hh
    split at hh
    · rfl
    · cases hh


-- loop.example/guardsonnets/impl.AnsweredAll
noncomputable def I.AnsweredAll_T : List (Nat × D.Spec) := [(43, I.NetOk_s), (49, I.setIn_s), (50, I.eternalIn_s), (52, I.placeIn_s), (53, I.answeredIn_s)]
def I.AnsweredAll_ann : Nat → List Nat × List Nat
  | 8 => ([0, 2, 7, 8, 9], [6, 8])
  | _ => ([], [])
noncomputable def I.AnsweredAll_F (args : List V) (h : List E) (κ : V → List E → R) : R := funC TD (tableK I.AnsweredAll_T) I.AnsweredAll_ann (drawAny TD (tableP I.AnsweredAll_T)) FUEL Try.f71 args h κ
noncomputable def I.AnsweredAll_L8 (n : Nat) (σ : St) (k : X → St → R) : R := iterC 0 (fun σ k => denC TD (tableK I.AnsweredAll_T) I.AnsweredAll_ann (drawAny TD (tableP I.AnsweredAll_T)) 0 FUEL ((findLoop 8 (Try.f71.body.getD .skip)).getD .skip) σ k) [0, 2, 7, 8, 9] [6, 8] n σ k
noncomputable def I.AnsweredAll_k8 (κ : V → List E → R) : X → St → R := (afterC TD (tableK I.AnsweredAll_T) I.AnsweredAll_ann (drawAny TD (tableP I.AnsweredAll_T)) 0 FUEL 8 (Try.f71.body.getD .skip) (finC TD 0 Try.f71 κ)).getD (fun _ _ => none)
noncomputable def I.AnsweredAll_step8 {α : Type} (x0 : List Int) (x2 : List Int) (x9 : Int) (r0 : List Bool) (r1 : List Int) (next_ : Int × (List Bool) × (List Int) → α) (out0_ : (List Int) × (List Int) → α) (out1_ : List Int → α) (fail_ : α) : α :=
  (bif decide (x9 < (↑x2.length : Int)) then (bif decide (0 ≤ x9) && decide (x9 < (↑x2.length : Int)) then (optC (I.placeIn_t x0 (eli x2 x9.toNat)) (fun c_4 => (bif !c_4 then (out0_ ([], r1)) else (bif decide (0 ≤ x9) && decide (x9 < (↑r1.length : Int)) then (bif decide (x9.toNat < r1.length) then (bif decide (0 ≤ x9) && decide (x9 < (↑x2.length : Int)) then (optC (I.answeredIn_t x0 r0 (eli r1 x9.toNat) (eli x2 x9.toNat)) (fun c_5 => (bif small (r1 ++ [c_5]).length then (next_ (IntKind.i64.wrap (x9 + 1), r0, r1 ++ [c_5])) else fail_)) fail_) else fail_) else fail_) else fail_))) fail_) else fail_) else (out1_ r1))
theorem I.AnsweredAll_step8_nat {α γ : Type} (g : α → γ) (x0 : List Int) (x2 : List Int) (x9 : Int) (r0 : List Bool) (r1 : List Int) (next_ : Int × (List Bool) × (List Int) → α) (out0_ : (List Int) × (List Int) → α) (out1_ : List Int → α) (fail_ : α) : g (I.AnsweredAll_step8 x0 x2 x9 r0 r1 next_ out0_ out1_ fail_) = I.AnsweredAll_step8 x0 x2 x9 r0 r1 (fun s => g (next_ s)) (fun d => g (out0_ d)) (fun d => g (out1_ d)) (g fail_) := by
  unfold I.AnsweredAll_step8; simp only [apply_cnd g, apply_optC g, apply_sumC g]
noncomputable def I.AnsweredAll_run8 (x0 : List Int) (x2 : List Int) : Nat → Int × (List Bool) × (List Int) → Option (((List Int) × (List Int)) ⊕ (List Int))
  | 0, _ => none
  | n + 1, s_ => I.AnsweredAll_step8 x0 x2 s_.1 s_.2.1 s_.2.2 (I.AnsweredAll_run8 x0 x2 n) (fun d => some ((Sum.inl d))) (fun d => some ((Sum.inr d))) none
theorem I.AnsweredAll_L8_run (x0 : List Int) (x2 : List Int) (n : Nat) (s_ : Int × (List Bool) × (List Int)) (k : X → St → R) : I.AnsweredAll_L8 n { n := 56, t := [(0, (.ro false (.ints .i64 x0))), (2, (.ro false (.ints .i64 x2))), (7, (.own 0)), (8, (.own 1)), (9, (.int .i64 s_.1))], h := [.row (.bools s_.2.1), .row (.ints .i64 s_.2.2)] } k = optC (I.AnsweredAll_run8 x0 x2 n s_) (fun (r : ((List Int) × (List Int)) ⊕ (List Int)) => (sumC r (fun (r : (List Int) × (List Int)) => k (.ret) { n := 56, t := [(6, (.own 0)), (8, (.own 1))], h := [.row (.ints .i64 r.1), .row (.ints .i64 r.2)] }) (fun (r : List Int) => k (.exit 0) { n := 56, t := [(6, .junk), (8, (.own 0))], h := [.row (.ints .i64 r)] }))) none := by
  induction n generalizing s_ with
  | zero => rfl
  | succ n ih =>
    have hu : I.AnsweredAll_L8 (n + 1) { n := 56, t := [(0, (.ro false (.ints .i64 x0))), (2, (.ro false (.ints .i64 x2))), (7, (.own 0)), (8, (.own 1)), (9, (.int .i64 s_.1))], h := [.row (.bools s_.2.1), .row (.ints .i64 s_.2.2)] } k = I.AnsweredAll_step8 x0 x2 s_.1 s_.2.1 s_.2.2 (fun s_ => I.AnsweredAll_L8 n { n := 56, t := [(0, (.ro false (.ints .i64 x0))), (2, (.ro false (.ints .i64 x2))), (7, (.own 0)), (8, (.own 1)), (9, (.int .i64 s_.1))], h := [.row (.bools s_.2.1), .row (.ints .i64 s_.2.2)] } k) (fun d => k (.ret) { n := 56, t := [(6, (.own 0)), (8, (.own 1))], h := [.row (.ints .i64 d.1), .row (.ints .i64 d.2)] }) (fun d => k (.exit 0) { n := 56, t := [(6, .junk), (8, (.own 0))], h := [.row (.ints .i64 d)] }) none := by
      kernel_rfl
    have hs : (fun s_ : Int × (List Bool) × (List Int) => I.AnsweredAll_L8 n { n := 56, t := [(0, (.ro false (.ints .i64 x0))), (2, (.ro false (.ints .i64 x2))), (7, (.own 0)), (8, (.own 1)), (9, (.int .i64 s_.1))], h := [.row (.bools s_.2.1), .row (.ints .i64 s_.2.2)] } k) = fun s_ => optC (I.AnsweredAll_run8 x0 x2 n s_) (fun (r : ((List Int) × (List Int)) ⊕ (List Int)) => (sumC r (fun (r : (List Int) × (List Int)) => k (.ret) { n := 56, t := [(6, (.own 0)), (8, (.own 1))], h := [.row (.ints .i64 r.1), .row (.ints .i64 r.2)] }) (fun (r : List Int) => k (.exit 0) { n := 56, t := [(6, .junk), (8, (.own 0))], h := [.row (.ints .i64 r)] }))) none := funext ih
    rw [hu, hs]
    exact (I.AnsweredAll_step8_nat (fun o => optC o (fun (r : ((List Int) × (List Int)) ⊕ (List Int)) => (sumC r (fun (r : (List Int) × (List Int)) => k (.ret) { n := 56, t := [(6, (.own 0)), (8, (.own 1))], h := [.row (.ints .i64 r.1), .row (.ints .i64 r.2)] }) (fun (r : List Int) => k (.exit 0) { n := 56, t := [(6, .junk), (8, (.own 0))], h := [.row (.ints .i64 r)] }))) none) x0 x2 s_.1 s_.2.1 s_.2.2 (I.AnsweredAll_run8 x0 x2 n) (fun d => some ((Sum.inl d))) (fun d => some ((Sum.inr d))) none).symm
noncomputable def I.AnsweredAll_tree {α : Type} (net : List Int) (set_ : Int) (places : List Int) (leaf0_ : List Int → α) (fail_ : α) : α :=
  (optC (I.NetOk_t net) (fun c_1 => (bif !c_1 then (leaf0_ ([])) else (optC (I.setIn_t net set_) (fun c_2 => (bif !c_2 then (leaf0_ ([])) else (optC (I.eternalIn_t net) (fun c_3 => (bif decide (0 ≤ set_) && decide (set_ < (↑c_3.length : Int)) then (bif decide (set_.toNat < c_3.length) then (bif !elb c_3 set_.toNat then (leaf0_ ([])) else (optC (I.AnsweredAll_run8 net places FUEL (0, c_3, [set_])) (fun qy_6 => (sumC qy_6 (fun (qy_6 : (List Int) × (List Int)) => (leaf0_ qy_6.1)) (fun (qy_6 : List Int) => (leaf0_ qy_6)))) fail_)) else fail_) else fail_)) fail_))) fail_))) fail_)
theorem I.AnsweredAll_tree_nat {α γ : Type} (g : α → γ) (net : List Int) (set_ : Int) (places : List Int) (leaf0_ : List Int → α) (fail_ : α) : g (I.AnsweredAll_tree net set_ places leaf0_ fail_) = I.AnsweredAll_tree net set_ places (fun d => g (leaf0_ d)) (g fail_) := by
  unfold I.AnsweredAll_tree; simp only [apply_cnd g, apply_optC g, apply_sumC g]
noncomputable def I.AnsweredAll_t (net : List Int) (set_ : Int) (places : List Int) : Option (List Int) := I.AnsweredAll_tree net set_ places (fun d => some d) none
theorem I.AnsweredAll_den (net : List Int) (set_ : Int) (places : List Int) (κ : V → List E → R) : I.AnsweredAll_F [.ro false (.ints .i64 net), .int .i64 set_, .ro false (.ints .i64 places)] [] κ = optC (I.AnsweredAll_t net set_ places) (fun (r : List Int) => κ (.own 0) [.row (.ints .i64 r)]) none := by
  have hu : I.AnsweredAll_F [.ro false (.ints .i64 net), .int .i64 set_, .ro false (.ints .i64 places)] [] κ = I.AnsweredAll_tree net set_ places (fun d => κ (.own 0) [.row (.ints .i64 d)]) none := by
    refine Eq.trans (show I.AnsweredAll_F [.ro false (.ints .i64 net), .int .i64 set_, .ro false (.ints .i64 places)] [] κ = (optC (I.NetOk_t net) (fun c_1 => (bif !c_1 then (κ (.own 0) [.row (.ints .i64 ([]))]) else (optC (I.setIn_t net set_) (fun c_2 => (bif !c_2 then (κ (.own 0) [.row (.ints .i64 ([]))]) else (optC (I.eternalIn_t net) (fun c_3 => (bif decide (0 ≤ set_) && decide (set_ < (↑c_3.length : Int)) then (bif decide (set_.toNat < c_3.length) then (bif !elb c_3 set_.toNat then (κ (.own 0) [.row (.ints .i64 ([]))]) else (I.AnsweredAll_L8 FUEL { n := 56, t := [(0, (.ro false (.ints .i64 net))), (2, (.ro false (.ints .i64 places))), (7, (.own 0)), (8, (.own 1)), (9, (.int .i64 0))], h := [.row (.bools c_3), .row (.ints .i64 ([set_]))] } (I.AnsweredAll_k8 κ))) else none) else none)) none))) none))) none) by kernel_rfl) ?_
    refine optC_congr (fun c_1 => ?_)
    refine cnd_congr ?_ ?_
    · kernel_rfl
    · refine optC_congr (fun c_2 => ?_)
      refine cnd_congr ?_ ?_
      · kernel_rfl
      · refine optC_congr (fun c_3 => ?_)
        refine cnd_congr ?_ ?_
        · refine cnd_congr ?_ ?_
          · refine cnd_congr ?_ ?_
            · kernel_rfl
            · refine (I.AnsweredAll_L8_run net places FUEL (0, c_3, [set_]) (I.AnsweredAll_k8 κ)).trans (optC_congr (fun qy_6 => ?_))
              rcases qy_6 with qy_6 | qy_6
              · kernel_rfl
              · kernel_rfl
          · kernel_rfl
        · kernel_rfl
  rw [hu]
  exact (I.AnsweredAll_tree_nat (fun o => optC o (fun (r : List Int) => κ (.own 0) [.row (.ints .i64 r)]) none) net set_ places (fun d => some d) none).symm
noncomputable def I.AnsweredAll_s : D.Spec where
  keep := false
  pure := false
  add := true
  ds := [.int .i64, .invalid, .int .i64]
  sp := fun args h κ => match args, h with
    | [.ro false (.ints .i64 net), .int .i64 set_, .ro false (.ints .i64 places)], [] => optC (I.AnsweredAll_t net set_ places) (fun (r : List Int) => κ (.own 0) [.row (.ints .i64 r)]) none
    | _, _ => none
theorem I.AnsweredAll_ok : SpecOk Try.prog 71 I.AnsweredAll_s := by
  refine SpecOk.of TDok mixed (T := I.AnsweredAll_T) ?_ (ann := I.AnsweredAll_ann) Try.func71 rfl (by decide +kernel) ?_ ?_ ?_ ?_
  · intro p hp
    simp only [I.AnsweredAll_T, List.mem_cons, List.not_mem_nil, or_false] at hp
    rcases hp with rfl | rfl | rfl | rfl | rfl
    · exact I.NetOk_ok
    · exact I.setIn_ok
    · exact I.eternalIn_ok
    · exact I.placeIn_ok
    · exact I.answeredIn_ok
  · intro args h κ r hh
    simp only [I.AnsweredAll_s] at hh
    split at hh
    · exact (I.AnsweredAll_den _ _ _ κ).trans hh
    · cases hh
  · intro args h κ r hh
    simp only [I.AnsweredAll_s] at hh ⊢
    split at hh
    · exact optC_law2 (F := fun (r : List Int) κ => κ (.own 0) [.row (.ints .i64 r)]) (fun b κ r hb => ⟨_, _, hb, fun _ => rfl⟩) hh
    · cases hh
  · intro hh; cases hh
  · intro _ args h κ r hh
    simp only [I.AnsweredAll_s] at hh
    split at hh
    · rfl
    · cases hh


-- loop.example/guardsonnets/impl.LogOf
noncomputable def I.LogOf_T : List (Nat × D.Spec) := [(78, I.recordOf_s)]
def I.LogOf_ann : Nat → List Nat × List Nat
  | 5 => ([0, 3, 4], [2, 3])
  | _ => ([], [])
noncomputable def I.LogOf_F (args : List V) (h : List E) (κ : V → List E → R) : R := funC TD (tableK I.LogOf_T) I.LogOf_ann (drawAny TD (tableP I.LogOf_T)) FUEL Try.f54 args h κ
noncomputable def I.LogOf_L5 (n : Nat) (σ : St) (k : X → St → R) : R := iterC 0 (fun σ k => denC TD (tableK I.LogOf_T) I.LogOf_ann (drawAny TD (tableP I.LogOf_T)) 0 FUEL ((findLoop 5 (Try.f54.body.getD .skip)).getD .skip) σ k) [0, 3, 4] [2, 3] n σ k
noncomputable def I.LogOf_k5 (κ : V → List E → R) : X → St → R := (afterC TD (tableK I.LogOf_T) I.LogOf_ann (drawAny TD (tableP I.LogOf_T)) 0 FUEL 5 (Try.f54.body.getD .skip) (finC TD 0 Try.f54 κ)).getD (fun _ _ => none)
noncomputable def I.LogOf_step5 {α : Type} (x0 : List Int) (x4 : Int) (r0 : List Int) (next_ : Int × (List Int) → α) (out0_ : (List Int) × (List Int) → α) (out1_ : List Int → α) (fail_ : α) : α :=
  (bif decide (x4 < (↑x0.length : Int)) then (bif decide (0 ≤ x4) && decide (x4 < (↑x0.length : Int)) then (bif decide (eli x0 x4.toNat < 0) then (out0_ ([], r0)) else (bif decide (0 ≤ x4) && decide (x4 < (↑x0.length : Int)) then (bif decide (eli x0 x4.toNat ≥ 6) then (out0_ ([], r0)) else (bif decide (0 ≤ x4) && decide (x4 < (↑x0.length : Int)) then (optC (I.recordOf_t (eli x0 x4.toNat) x4) (fun c_1 => (bif small (r0 ++ c_1).length then (next_ (IntKind.i64.wrap (x4 + 1), r0 ++ c_1)) else fail_)) fail_) else fail_)) else fail_)) else fail_) else (out1_ r0))
theorem I.LogOf_step5_nat {α γ : Type} (g : α → γ) (x0 : List Int) (x4 : Int) (r0 : List Int) (next_ : Int × (List Int) → α) (out0_ : (List Int) × (List Int) → α) (out1_ : List Int → α) (fail_ : α) : g (I.LogOf_step5 x0 x4 r0 next_ out0_ out1_ fail_) = I.LogOf_step5 x0 x4 r0 (fun s => g (next_ s)) (fun d => g (out0_ d)) (fun d => g (out1_ d)) (g fail_) := by
  unfold I.LogOf_step5; simp only [apply_cnd g, apply_optC g, apply_sumC g]
noncomputable def I.LogOf_run5 (x0 : List Int) : Nat → Int × (List Int) → Option (((List Int) × (List Int)) ⊕ (List Int))
  | 0, _ => none
  | n + 1, s_ => I.LogOf_step5 x0 s_.1 s_.2 (I.LogOf_run5 x0 n) (fun d => some ((Sum.inl d))) (fun d => some ((Sum.inr d))) none
theorem I.LogOf_L5_run (x0 : List Int) (n : Nat) (s_ : Int × (List Int)) (k : X → St → R) : I.LogOf_L5 n { n := 36, t := [(0, (.ro false (.ints .i64 x0))), (3, (.own 0)), (4, (.int .i64 s_.1))], h := [.row (.ints .u8 s_.2)] } k = optC (I.LogOf_run5 x0 n s_) (fun (r : ((List Int) × (List Int)) ⊕ (List Int)) => (sumC r (fun (r : (List Int) × (List Int)) => k (.ret) { n := 36, t := [(2, (.own 0)), (3, (.own 1))], h := [.row (.ints .u8 r.1), .row (.ints .u8 r.2)] }) (fun (r : List Int) => k (.exit 0) { n := 36, t := [(2, .junk), (3, (.own 0))], h := [.row (.ints .u8 r)] }))) none := by
  induction n generalizing s_ with
  | zero => rfl
  | succ n ih =>
    have hu : I.LogOf_L5 (n + 1) { n := 36, t := [(0, (.ro false (.ints .i64 x0))), (3, (.own 0)), (4, (.int .i64 s_.1))], h := [.row (.ints .u8 s_.2)] } k = I.LogOf_step5 x0 s_.1 s_.2 (fun s_ => I.LogOf_L5 n { n := 36, t := [(0, (.ro false (.ints .i64 x0))), (3, (.own 0)), (4, (.int .i64 s_.1))], h := [.row (.ints .u8 s_.2)] } k) (fun d => k (.ret) { n := 36, t := [(2, (.own 0)), (3, (.own 1))], h := [.row (.ints .u8 d.1), .row (.ints .u8 d.2)] }) (fun d => k (.exit 0) { n := 36, t := [(2, .junk), (3, (.own 0))], h := [.row (.ints .u8 d)] }) none := by
      kernel_rfl
    have hs : (fun s_ : Int × (List Int) => I.LogOf_L5 n { n := 36, t := [(0, (.ro false (.ints .i64 x0))), (3, (.own 0)), (4, (.int .i64 s_.1))], h := [.row (.ints .u8 s_.2)] } k) = fun s_ => optC (I.LogOf_run5 x0 n s_) (fun (r : ((List Int) × (List Int)) ⊕ (List Int)) => (sumC r (fun (r : (List Int) × (List Int)) => k (.ret) { n := 36, t := [(2, (.own 0)), (3, (.own 1))], h := [.row (.ints .u8 r.1), .row (.ints .u8 r.2)] }) (fun (r : List Int) => k (.exit 0) { n := 36, t := [(2, .junk), (3, (.own 0))], h := [.row (.ints .u8 r)] }))) none := funext ih
    rw [hu, hs]
    exact (I.LogOf_step5_nat (fun o => optC o (fun (r : ((List Int) × (List Int)) ⊕ (List Int)) => (sumC r (fun (r : (List Int) × (List Int)) => k (.ret) { n := 36, t := [(2, (.own 0)), (3, (.own 1))], h := [.row (.ints .u8 r.1), .row (.ints .u8 r.2)] }) (fun (r : List Int) => k (.exit 0) { n := 36, t := [(2, .junk), (3, (.own 0))], h := [.row (.ints .u8 r)] }))) none) x0 s_.1 s_.2 (I.LogOf_run5 x0 n) (fun d => some ((Sum.inl d))) (fun d => some ((Sum.inr d))) none).symm
noncomputable def I.LogOf_tree {α : Type} (places : List Int) (leaf0_ : List Int → α) (fail_ : α) : α :=
  (bif decide ((↑places.length : Int) > 40) then (leaf0_ ([])) else (optC (I.LogOf_run5 places FUEL (0, [])) (fun qy_2 => (sumC qy_2 (fun (qy_2 : (List Int) × (List Int)) => (leaf0_ qy_2.1)) (fun (qy_2 : List Int) => (leaf0_ qy_2)))) fail_))
theorem I.LogOf_tree_nat {α γ : Type} (g : α → γ) (places : List Int) (leaf0_ : List Int → α) (fail_ : α) : g (I.LogOf_tree places leaf0_ fail_) = I.LogOf_tree places (fun d => g (leaf0_ d)) (g fail_) := by
  unfold I.LogOf_tree; simp only [apply_cnd g, apply_optC g, apply_sumC g]
noncomputable def I.LogOf_t (places : List Int) : Option (List Int) := I.LogOf_tree places (fun d => some d) none
theorem I.LogOf_den (places : List Int) (κ : V → List E → R) : I.LogOf_F [.ro false (.ints .i64 places)] [] κ = optC (I.LogOf_t places) (fun (r : List Int) => κ (.own 0) [.row (.ints .u8 r)]) none := by
  have hu : I.LogOf_F [.ro false (.ints .i64 places)] [] κ = I.LogOf_tree places (fun d => κ (.own 0) [.row (.ints .u8 d)]) none := by
    refine Eq.trans (show I.LogOf_F [.ro false (.ints .i64 places)] [] κ = (bif decide ((↑places.length : Int) > 40) then (κ (.own 0) [.row (.ints .u8 ([]))]) else (I.LogOf_L5 FUEL { n := 36, t := [(0, (.ro false (.ints .i64 places))), (3, (.own 0)), (4, (.int .i64 0))], h := [.row (.ints .u8 ([]))] } (I.LogOf_k5 κ))) by kernel_rfl) ?_
    refine cnd_congr ?_ ?_
    · kernel_rfl
    · refine (I.LogOf_L5_run places FUEL (0, []) (I.LogOf_k5 κ)).trans (optC_congr (fun qy_2 => ?_))
      rcases qy_2 with qy_2 | qy_2
      · kernel_rfl
      · kernel_rfl
  rw [hu]
  exact (I.LogOf_tree_nat (fun o => optC o (fun (r : List Int) => κ (.own 0) [.row (.ints .u8 r)]) none) places (fun d => some d) none).symm
noncomputable def I.LogOf_s : D.Spec where
  keep := false
  pure := false
  add := true
  ds := [.int .i64]
  sp := fun args h κ => match args, h with
    | [.ro false (.ints .i64 places)], [] => optC (I.LogOf_t places) (fun (r : List Int) => κ (.own 0) [.row (.ints .u8 r)]) none
    | _, _ => none
theorem I.LogOf_ok : SpecOk Try.prog 54 I.LogOf_s := by
  refine SpecOk.of TDok mixed (T := I.LogOf_T) ?_ (ann := I.LogOf_ann) Try.func54 rfl (by decide +kernel) ?_ ?_ ?_ ?_
  · intro p hp
    simp only [I.LogOf_T, List.mem_cons, List.not_mem_nil, or_false] at hp
    rcases hp with rfl
    · exact I.recordOf_ok
  · intro args h κ r hh
    simp only [I.LogOf_s] at hh
    split at hh
    · exact (I.LogOf_den _ κ).trans hh
    · cases hh
  · intro args h κ r hh
    simp only [I.LogOf_s] at hh ⊢
    split at hh
    · exact optC_law2 (F := fun (r : List Int) κ => κ (.own 0) [.row (.ints .u8 r)]) (fun b κ r hb => ⟨_, _, hb, fun _ => rfl⟩) hh
    · cases hh
  · intro hh; cases hh
  · intro _ args h κ r hh
    simp only [I.LogOf_s] at hh
    split at hh
    · rfl
    · cases hh


-- loop.example/guardsonnets/impl.postBehind
noncomputable def I.postBehind_T : List (Nat × D.Spec) := [(72, I.firstPostIn_s), (71, I.AnsweredAll_s), (54, I.LogOf_s)]
def I.postBehind_ann : Nat → List Nat × List Nat
  | _ => ([], [])
noncomputable def I.postBehind_F (args : List V) (h : List E) (κ : V → List E → R) : R := funC TD (tableK I.postBehind_T) I.postBehind_ann (drawAny TD (tableP I.postBehind_T)) FUEL Try.f45 args h κ
noncomputable def I.postBehind_tree {α : Type} (net : List Int) (places : List Int) (leaf0_ : Int × (List Int) × (List Int) → α) (fail_ : α) : α :=
  (optC (I.firstPostIn_t net) (fun c_1 => (optC (I.AnsweredAll_t net c_1 places) (fun c_2 => (bif small ([] ++ net).length then (bif decide (0 ≤ IntKind.i64.wrap ((↑c_2.length : Int) - 1)) && decide (IntKind.i64.wrap ((↑c_2.length : Int) - 1) < (↑c_2.length : Int)) then (bif decide ((IntKind.i64.wrap ((↑c_2.length : Int) - 1)).toNat < c_2.length) then (optC (I.LogOf_t places) (fun c_3 => (leaf0_ (eli c_2 (IntKind.i64.wrap ((↑c_2.length : Int) - 1)).toNat, [] ++ net, c_3))) fail_) else fail_) else fail_) else fail_)) fail_)) fail_)
theorem I.postBehind_tree_nat {α γ : Type} (g : α → γ) (net : List Int) (places : List Int) (leaf0_ : Int × (List Int) × (List Int) → α) (fail_ : α) : g (I.postBehind_tree net places leaf0_ fail_) = I.postBehind_tree net places (fun d => g (leaf0_ d)) (g fail_) := by
  unfold I.postBehind_tree; simp only [apply_cnd g, apply_optC g, apply_sumC g]
noncomputable def I.postBehind_t (net : List Int) (places : List Int) : Option (Int × (List Int) × (List Int)) := I.postBehind_tree net places (fun d => some d) none
theorem I.postBehind_den (net : List Int) (places : List Int) (κ : V → List E → R) : I.postBehind_F [.ro false (.ints .i64 net), .ro false (.ints .i64 places)] [] κ = optC (I.postBehind_t net places) (fun (r : Int × (List Int) × (List Int)) => κ (.agg [(.own 0), (.int .i64 r.1), (.own 1)]) [.row (.ints .i64 r.2.1), .row (.ints .u8 r.2.2)]) none := by
  have hu : I.postBehind_F [.ro false (.ints .i64 net), .ro false (.ints .i64 places)] [] κ = I.postBehind_tree net places (fun d => κ (.agg [(.own 0), (.int .i64 d.1), (.own 1)]) [.row (.ints .i64 d.2.1), .row (.ints .u8 d.2.2)]) none := by
    kernel_rfl
  rw [hu]
  exact (I.postBehind_tree_nat (fun o => optC o (fun (r : Int × (List Int) × (List Int)) => κ (.agg [(.own 0), (.int .i64 r.1), (.own 1)]) [.row (.ints .i64 r.2.1), .row (.ints .u8 r.2.2)]) none) net places (fun d => some d) none).symm
noncomputable def I.postBehind_s : D.Spec where
  keep := false
  pure := false
  add := true
  ds := [.int .i64, .int .i64]
  sp := fun args h κ => match args, h with
    | [.ro false (.ints .i64 net), .ro false (.ints .i64 places)], [] => optC (I.postBehind_t net places) (fun (r : Int × (List Int) × (List Int)) => κ (.agg [(.own 0), (.int .i64 r.1), (.own 1)]) [.row (.ints .i64 r.2.1), .row (.ints .u8 r.2.2)]) none
    | _, _ => none
theorem I.postBehind_ok : SpecOk Try.prog 45 I.postBehind_s := by
  refine SpecOk.of TDok mixed (T := I.postBehind_T) ?_ (ann := I.postBehind_ann) Try.func45 rfl (by decide +kernel) ?_ ?_ ?_ ?_
  · intro p hp
    simp only [I.postBehind_T, List.mem_cons, List.not_mem_nil, or_false] at hp
    rcases hp with rfl | rfl | rfl
    · exact I.firstPostIn_ok
    · exact I.AnsweredAll_ok
    · exact I.LogOf_ok
  · intro args h κ r hh
    simp only [I.postBehind_s] at hh
    split at hh
    · exact (I.postBehind_den _ _ κ).trans hh
    · cases hh
  · intro args h κ r hh
    simp only [I.postBehind_s] at hh ⊢
    split at hh
    · exact optC_law2 (F := fun (r : Int × (List Int) × (List Int)) κ => κ (.agg [(.own 0), (.int .i64 r.1), (.own 1)]) [.row (.ints .i64 r.2.1), .row (.ints .u8 r.2.2)]) (fun b κ r hb => ⟨_, _, hb, fun _ => rfl⟩) hh
    · cases hh
  · intro hh; cases hh
  · intro _ args h κ r hh
    simp only [I.postBehind_s] at hh
    split at hh
    · rfl
    · cases hh


-- loop.example/guardsonnets/impl.PostOk
noncomputable def I.PostOk_T : List (Nat × D.Spec) := [(42, I.LogPlaces_s), (43, I.NetOk_s), (44, I.placesHere_s), (45, I.postBehind_s)]
def I.PostOk_ann : Nat → List Nat × List Nat
  | _ => ([], [])
noncomputable def I.PostOk_F (args : List V) (h : List E) (κ : V → List E → R) : R := funC TD (tableK I.PostOk_T) I.PostOk_ann (drawAny TD (tableP I.PostOk_T)) FUEL Try.f12 args h κ
noncomputable def I.PostOk_tree {α : Type} (p0 : List Int) (p1 : Int) (p2 : List Int) (leaf0_ : Bool → α) (fail_ : α) : α :=
  (optC (I.LogPlaces_t p2) (fun c_1 => (optC (I.NetOk_t p0) (fun c_2 => (bif !c_2 then (leaf0_ false) else (bif !c_1.fst == (↑p2.length : Int) then (leaf0_ false) else (optC (I.placesHere_t p0 c_1.snd) (fun c_3 => (bif !(↑c_3.length : Int) == (↑c_1.snd.length : Int) then (leaf0_ false) else (optC (I.postBehind_t p0 c_1.snd) (fun c_4 => (leaf0_ (c_4.fst == p1))) fail_))) fail_)))) fail_)) fail_)
theorem I.PostOk_tree_nat {α γ : Type} (g : α → γ) (p0 : List Int) (p1 : Int) (p2 : List Int) (leaf0_ : Bool → α) (fail_ : α) : g (I.PostOk_tree p0 p1 p2 leaf0_ fail_) = I.PostOk_tree p0 p1 p2 (fun d => g (leaf0_ d)) (g fail_) := by
  unfold I.PostOk_tree; simp only [apply_cnd g, apply_optC g, apply_sumC g]
noncomputable def I.PostOk_t (p0 : List Int) (p1 : Int) (p2 : List Int) : Option (Bool) := I.PostOk_tree p0 p1 p2 (fun d => some d) none
theorem I.PostOk_den (p0 : List Int) (p1 : Int) (p2 : List Int) (κ : V → List E → R) : I.PostOk_F [.agg [.ro false (.ints .i64 p0), .int .i64 p1, .ro false (.ints .u8 p2)]] [] κ = optC (I.PostOk_t p0 p1 p2) (fun (r : Bool) => κ (.bool r) []) none := by
  have hu : I.PostOk_F [.agg [.ro false (.ints .i64 p0), .int .i64 p1, .ro false (.ints .u8 p2)]] [] κ = I.PostOk_tree p0 p1 p2 (fun d => κ (.bool d) []) none := by
    kernel_rfl
  rw [hu]
  exact (I.PostOk_tree_nat (fun o => optC o (fun (r : Bool) => κ (.bool r) []) none) p0 p1 p2 (fun d => some d) none).symm
noncomputable def I.PostOk_s : D.Spec where
  keep := false
  pure := true
  add := true
  ds := [.tuple #[1, 0, 2]]
  sp := fun args h κ => match args, h with
    | [.agg [.ro false (.ints .i64 p0), .int .i64 p1, .ro false (.ints .u8 p2)]], [] => optC (I.PostOk_t p0 p1 p2) (fun (r : Bool) => κ (.bool r) []) none
    | _, _ => none
theorem I.PostOk_ok : SpecOk Try.prog 12 I.PostOk_s := by
  refine SpecOk.of TDok mixed (T := I.PostOk_T) ?_ (ann := I.PostOk_ann) Try.func12 rfl (by decide +kernel) ?_ ?_ ?_ ?_
  · intro p hp
    simp only [I.PostOk_T, List.mem_cons, List.not_mem_nil, or_false] at hp
    rcases hp with rfl | rfl | rfl | rfl
    · exact I.LogPlaces_ok
    · exact I.NetOk_ok
    · exact I.placesHere_ok
    · exact I.postBehind_ok
  · intro args h κ r hh
    simp only [I.PostOk_s] at hh
    split at hh
    · exact (I.PostOk_den _ _ _ κ).trans hh
    · cases hh
  · intro args h κ r hh
    simp only [I.PostOk_s] at hh ⊢
    split at hh
    · exact optC_law2 (F := fun (r : Bool) κ => κ (.bool r) []) (fun b κ r hb => ⟨_, _, hb, fun _ => rfl⟩) hh
    · cases hh
  · intro _ args h κ r hh
    simp only [I.PostOk_s] at hh
    split at hh
    · exact ⟨rfl, fun _ => rfl⟩
    · cases hh
  · intro _ args h κ r hh
    simp only [I.PostOk_s] at hh
    split at hh
    · rfl
    · cases hh


-- loop.example/guardsonnets/spec.PostOk
noncomputable def S.PostOk_T : List (Nat × D.Spec) := [(25, S.LogPlaces_s), (46, S.NetOk_s), (47, S.l17Last_s)]
def S.PostOk_ann : Nat → List Nat × List Nat
  | _ => ([], [])
noncomputable def S.PostOk_F (args : List V) (h : List E) (κ : V → List E → R) : R := funC TD (tableK S.PostOk_T) S.PostOk_ann (drawAny TD (tableP S.PostOk_T)) FUEL Try.f13 args h κ
noncomputable def S.PostOk_tree {α : Type} (p0 : List Int) (p1 : Int) (p2 : List Int) (leaf0_ : Bool → α) (fail_ : α) : α :=
  (optC (S.LogPlaces_t p2) (fun c_1 => (optC (S.NetOk_t p0) (fun c_2 => (bif c_2 then (bif c_1.fst == (↑p2.length : Int) then (bif decide (p1 ≥ 0) then (optC (S.l17Last_t p0 c_1.snd) (fun c_3 => (leaf0_ (c_3 == p1))) fail_) else (leaf0_ false)) else (leaf0_ false)) else (leaf0_ false))) fail_)) fail_)
theorem S.PostOk_tree_nat {α γ : Type} (g : α → γ) (p0 : List Int) (p1 : Int) (p2 : List Int) (leaf0_ : Bool → α) (fail_ : α) : g (S.PostOk_tree p0 p1 p2 leaf0_ fail_) = S.PostOk_tree p0 p1 p2 (fun d => g (leaf0_ d)) (g fail_) := by
  unfold S.PostOk_tree; simp only [apply_cnd g, apply_optC g, apply_sumC g]
noncomputable def S.PostOk_t (p0 : List Int) (p1 : Int) (p2 : List Int) : Option (Bool) := S.PostOk_tree p0 p1 p2 (fun d => some d) none
theorem S.PostOk_den (p0 : List Int) (p1 : Int) (p2 : List Int) (κ : V → List E → R) : S.PostOk_F [.agg [.ro false (.ints .i64 p0), .int .i64 p1, .ro false (.ints .u8 p2)]] [] κ = optC (S.PostOk_t p0 p1 p2) (fun (r : Bool) => κ (.bool r) []) none := by
  have hu : S.PostOk_F [.agg [.ro false (.ints .i64 p0), .int .i64 p1, .ro false (.ints .u8 p2)]] [] κ = S.PostOk_tree p0 p1 p2 (fun d => κ (.bool d) []) none := by
    kernel_rfl
  rw [hu]
  exact (S.PostOk_tree_nat (fun o => optC o (fun (r : Bool) => κ (.bool r) []) none) p0 p1 p2 (fun d => some d) none).symm
noncomputable def S.PostOk_s : D.Spec where
  keep := false
  pure := true
  add := true
  ds := [.tuple #[1, 0, 2]]
  sp := fun args h κ => match args, h with
    | [.agg [.ro false (.ints .i64 p0), .int .i64 p1, .ro false (.ints .u8 p2)]], [] => optC (S.PostOk_t p0 p1 p2) (fun (r : Bool) => κ (.bool r) []) none
    | _, _ => none
theorem S.PostOk_ok : SpecOk Try.prog 13 S.PostOk_s := by
  refine SpecOk.of TDok mixed (T := S.PostOk_T) ?_ (ann := S.PostOk_ann) Try.func13 rfl (by decide +kernel) ?_ ?_ ?_ ?_
  · intro p hp
    simp only [S.PostOk_T, List.mem_cons, List.not_mem_nil, or_false] at hp
    rcases hp with rfl | rfl | rfl
    · exact S.LogPlaces_ok
    · exact S.NetOk_ok
    · exact S.l17Last_ok
  · intro args h κ r hh
    simp only [S.PostOk_s] at hh
    split at hh
    · exact (S.PostOk_den _ _ _ κ).trans hh
    · cases hh
  · intro args h κ r hh
    simp only [S.PostOk_s] at hh ⊢
    split at hh
    · exact optC_law2 (F := fun (r : Bool) κ => κ (.bool r) []) (fun b κ r hb => ⟨_, _, hb, fun _ => rfl⟩) hh
    · cases hh
  · intro _ args h κ r hh
    simp only [S.PostOk_s] at hh
    split at hh
    · exact ⟨rfl, fun _ => rfl⟩
    · cases hh
  · intro _ args h κ r hh
    simp only [S.PostOk_s] at hh
    split at hh
    · rfl
    · cases hh


-- loop.example/guardsonnets/impl.PostRise
noncomputable def I.PostRise_T : List (Nat × D.Spec) := [(43, I.NetOk_s), (42, I.LogPlaces_s), (44, I.placesHere_s), (45, I.postBehind_s)]
def I.PostRise_ann : Nat → List Nat × List Nat
  | _ => ([], [])
noncomputable def I.PostRise_F (args : List V) (h : List E) (κ : V → List E → R) : R := funC TD (tableK I.PostRise_T) I.PostRise_ann (drawAny TD (tableP I.PostRise_T)) FUEL Try.f14 args h κ
noncomputable def I.PostRise_tree {α : Type} (net : List Int) (log : List Int) (leaf0_ : Int × Bool × (List Int) × (List Int) → α) (fail_ : α) : α :=
  (optC (I.NetOk_t net) (fun c_1 => (bif !c_1 then (leaf0_ (0, false, [], [])) else (optC (I.LogPlaces_t log) (fun c_2 => (optC (I.placesHere_t net c_2.snd) (fun c_3 => (optC (I.postBehind_t net c_3) (fun c_4 => (leaf0_ (c_4.fst, true, c_4.snd.fst, c_4.snd.snd))) fail_)) fail_)) fail_))) fail_)
theorem I.PostRise_tree_nat {α γ : Type} (g : α → γ) (net : List Int) (log : List Int) (leaf0_ : Int × Bool × (List Int) × (List Int) → α) (fail_ : α) : g (I.PostRise_tree net log leaf0_ fail_) = I.PostRise_tree net log (fun d => g (leaf0_ d)) (g fail_) := by
  unfold I.PostRise_tree; simp only [apply_cnd g, apply_optC g, apply_sumC g]
noncomputable def I.PostRise_t (net : List Int) (log : List Int) : Option (Int × Bool × (List Int) × (List Int)) := I.PostRise_tree net log (fun d => some d) none
theorem I.PostRise_den (net : List Int) (log : List Int) (κ : V → List E → R) : I.PostRise_F [.ro false (.ints .i64 net), .ro false (.ints .u8 log)] [] κ = optC (I.PostRise_t net log) (fun (r : Int × Bool × (List Int) × (List Int)) => κ (.tup [(.agg [(.own 0), (.int .i64 r.1), (.own 1)]), (.bool r.2.1)]) [.row (.ints .i64 r.2.2.1), .row (.ints .u8 r.2.2.2)]) none := by
  have hu : I.PostRise_F [.ro false (.ints .i64 net), .ro false (.ints .u8 log)] [] κ = I.PostRise_tree net log (fun d => κ (.tup [(.agg [(.own 0), (.int .i64 d.1), (.own 1)]), (.bool d.2.1)]) [.row (.ints .i64 d.2.2.1), .row (.ints .u8 d.2.2.2)]) none := by
    kernel_rfl
  rw [hu]
  exact (I.PostRise_tree_nat (fun o => optC o (fun (r : Int × Bool × (List Int) × (List Int)) => κ (.tup [(.agg [(.own 0), (.int .i64 r.1), (.own 1)]), (.bool r.2.1)]) [.row (.ints .i64 r.2.2.1), .row (.ints .u8 r.2.2.2)]) none) net log (fun d => some d) none).symm
noncomputable def I.PostRise_s : D.Spec where
  keep := false
  pure := false
  add := true
  ds := [.int .i64, .int .u8]
  sp := fun args h κ => match args, h with
    | [.ro false (.ints .i64 net), .ro false (.ints .u8 log)], [] => optC (I.PostRise_t net log) (fun (r : Int × Bool × (List Int) × (List Int)) => κ (.tup [(.agg [(.own 0), (.int .i64 r.1), (.own 1)]), (.bool r.2.1)]) [.row (.ints .i64 r.2.2.1), .row (.ints .u8 r.2.2.2)]) none
    | _, _ => none
theorem I.PostRise_ok : SpecOk Try.prog 14 I.PostRise_s := by
  refine SpecOk.of TDok mixed (T := I.PostRise_T) ?_ (ann := I.PostRise_ann) Try.func14 rfl (by decide +kernel) ?_ ?_ ?_ ?_
  · intro p hp
    simp only [I.PostRise_T, List.mem_cons, List.not_mem_nil, or_false] at hp
    rcases hp with rfl | rfl | rfl | rfl
    · exact I.NetOk_ok
    · exact I.LogPlaces_ok
    · exact I.placesHere_ok
    · exact I.postBehind_ok
  · intro args h κ r hh
    simp only [I.PostRise_s] at hh
    split at hh
    · exact (I.PostRise_den _ _ κ).trans hh
    · cases hh
  · intro args h κ r hh
    simp only [I.PostRise_s] at hh ⊢
    split at hh
    · exact optC_law2 (F := fun (r : Int × Bool × (List Int) × (List Int)) κ => κ (.tup [(.agg [(.own 0), (.int .i64 r.1), (.own 1)]), (.bool r.2.1)]) [.row (.ints .i64 r.2.2.1), .row (.ints .u8 r.2.2.2)]) (fun b κ r hb => ⟨_, _, hb, fun _ => rfl⟩) hh
    · cases hh
  · intro hh; cases hh
  · intro _ args h κ r hh
    simp only [I.PostRise_s] at hh
    split at hh
    · rfl
    · cases hh


-- loop.example/guardsonnets/laws.sameInts
noncomputable def L.sameInts_T : List (Nat × D.Spec) := []
def L.sameInts_ann : Nat → List Nat × List Nat
  | 4 => ([0, 1, 5], [4])
  | _ => ([], [])
noncomputable def L.sameInts_F (args : List V) (h : List E) (κ : V → List E → R) : R := funC TD (tableK L.sameInts_T) L.sameInts_ann (drawAny TD (tableP L.sameInts_T)) FUEL Try.f48 args h κ
noncomputable def L.sameInts_L4 (n : Nat) (σ : St) (k : X → St → R) : R := iterC 0 (fun σ k => denC TD (tableK L.sameInts_T) L.sameInts_ann (drawAny TD (tableP L.sameInts_T)) 0 FUEL ((findLoop 4 (Try.f48.body.getD .skip)).getD .skip) σ k) [0, 1, 5] [4] n σ k
noncomputable def L.sameInts_k4 (κ : V → List E → R) : X → St → R := (afterC TD (tableK L.sameInts_T) L.sameInts_ann (drawAny TD (tableP L.sameInts_T)) 0 FUEL 4 (Try.f48.body.getD .skip) (finC TD 0 Try.f48 κ)).getD (fun _ _ => none)
noncomputable def L.sameInts_step4 {α : Type} (x0 : List Int) (x1 : List Int) (x5 : Int) (next_ : Int → α) (out0_ : Bool → α) (out1_ : Unit → α) (fail_ : α) : α :=
  (bif decide (x5 < (↑x0.length : Int)) then (bif decide (0 ≤ x5) && decide (x5 < (↑x0.length : Int)) then (bif decide (0 ≤ x5) && decide (x5 < (↑x1.length : Int)) then (bif !eli x0 x5.toNat == eli x1 x5.toNat then (out0_ false) else (next_ (IntKind.i64.wrap (x5 + 1)))) else fail_) else fail_) else (out1_ ()))
theorem L.sameInts_step4_nat {α γ : Type} (g : α → γ) (x0 : List Int) (x1 : List Int) (x5 : Int) (next_ : Int → α) (out0_ : Bool → α) (out1_ : Unit → α) (fail_ : α) : g (L.sameInts_step4 x0 x1 x5 next_ out0_ out1_ fail_) = L.sameInts_step4 x0 x1 x5 (fun s => g (next_ s)) (fun d => g (out0_ d)) (fun d => g (out1_ d)) (g fail_) := by
  unfold L.sameInts_step4; simp only [apply_cnd g, apply_optC g, apply_sumC g]
noncomputable def L.sameInts_run4 (x0 : List Int) (x1 : List Int) : Nat → Int → Option ((Bool) ⊕ (Unit))
  | 0, _ => none
  | n + 1, s_ => L.sameInts_step4 x0 x1 s_ (L.sameInts_run4 x0 x1 n) (fun d => some ((Sum.inl d))) (fun d => some ((Sum.inr d))) none
theorem L.sameInts_L4_run (x0 : List Int) (x1 : List Int) (n : Nat) (s_ : Int) (k : X → St → R) : L.sameInts_L4 n { n := 26, t := [(0, (.ro false (.ints .i64 x0))), (1, (.ro false (.ints .i64 x1))), (5, (.int .i64 s_))], h := [] } k = optC (L.sameInts_run4 x0 x1 n s_) (fun (r : (Bool) ⊕ (Unit)) => (sumC r (fun (r : Bool) => k (.ret) { n := 26, t := [(4, (.bool r))], h := [] }) (fun (r : Unit) => k (.exit 0) { n := 26, t := [(4, .junk)], h := [] }))) none := by
  induction n generalizing s_ with
  | zero => rfl
  | succ n ih =>
    have hu : L.sameInts_L4 (n + 1) { n := 26, t := [(0, (.ro false (.ints .i64 x0))), (1, (.ro false (.ints .i64 x1))), (5, (.int .i64 s_))], h := [] } k = L.sameInts_step4 x0 x1 s_ (fun s_ => L.sameInts_L4 n { n := 26, t := [(0, (.ro false (.ints .i64 x0))), (1, (.ro false (.ints .i64 x1))), (5, (.int .i64 s_))], h := [] } k) (fun d => k (.ret) { n := 26, t := [(4, (.bool d))], h := [] }) (fun d => k (.exit 0) { n := 26, t := [(4, .junk)], h := [] }) none := by
      kernel_rfl
    have hs : (fun s_ : Int => L.sameInts_L4 n { n := 26, t := [(0, (.ro false (.ints .i64 x0))), (1, (.ro false (.ints .i64 x1))), (5, (.int .i64 s_))], h := [] } k) = fun s_ => optC (L.sameInts_run4 x0 x1 n s_) (fun (r : (Bool) ⊕ (Unit)) => (sumC r (fun (r : Bool) => k (.ret) { n := 26, t := [(4, (.bool r))], h := [] }) (fun (r : Unit) => k (.exit 0) { n := 26, t := [(4, .junk)], h := [] }))) none := funext ih
    rw [hu, hs]
    exact (L.sameInts_step4_nat (fun o => optC o (fun (r : (Bool) ⊕ (Unit)) => (sumC r (fun (r : Bool) => k (.ret) { n := 26, t := [(4, (.bool r))], h := [] }) (fun (r : Unit) => k (.exit 0) { n := 26, t := [(4, .junk)], h := [] }))) none) x0 x1 s_ (L.sameInts_run4 x0 x1 n) (fun d => some ((Sum.inl d))) (fun d => some ((Sum.inr d))) none).symm
noncomputable def L.sameInts_tree {α : Type} (a : List Int) (b_ : List Int) (leaf0_ : Bool → α) (fail_ : α) : α :=
  (bif !(↑a.length : Int) == (↑b_.length : Int) then (leaf0_ false) else (optC (L.sameInts_run4 a b_ FUEL 0) (fun qy_1 => (sumC qy_1 (fun (qy_1 : Bool) => (leaf0_ qy_1)) (fun (qy_1 : Unit) => (leaf0_ true)))) fail_))
theorem L.sameInts_tree_nat {α γ : Type} (g : α → γ) (a : List Int) (b_ : List Int) (leaf0_ : Bool → α) (fail_ : α) : g (L.sameInts_tree a b_ leaf0_ fail_) = L.sameInts_tree a b_ (fun d => g (leaf0_ d)) (g fail_) := by
  unfold L.sameInts_tree; simp only [apply_cnd g, apply_optC g, apply_sumC g]
noncomputable def L.sameInts_t (a : List Int) (b_ : List Int) : Option (Bool) := L.sameInts_tree a b_ (fun d => some d) none
theorem L.sameInts_den (a : List Int) (b_ : List Int) (κ : V → List E → R) : L.sameInts_F [.ro false (.ints .i64 a), .ro false (.ints .i64 b_)] [] κ = optC (L.sameInts_t a b_) (fun (r : Bool) => κ (.bool r) []) none := by
  have hu : L.sameInts_F [.ro false (.ints .i64 a), .ro false (.ints .i64 b_)] [] κ = L.sameInts_tree a b_ (fun d => κ (.bool d) []) none := by
    refine Eq.trans (show L.sameInts_F [.ro false (.ints .i64 a), .ro false (.ints .i64 b_)] [] κ = (bif !(↑a.length : Int) == (↑b_.length : Int) then (κ (.bool false) []) else (L.sameInts_L4 FUEL { n := 26, t := [(0, (.ro false (.ints .i64 a))), (1, (.ro false (.ints .i64 b_))), (5, (.int .i64 0))], h := [] } (L.sameInts_k4 κ))) by kernel_rfl) ?_
    refine cnd_congr ?_ ?_
    · kernel_rfl
    · refine (L.sameInts_L4_run a b_ FUEL 0 (L.sameInts_k4 κ)).trans (optC_congr (fun qy_1 => ?_))
      rcases qy_1 with qy_1 | qy_1
      · kernel_rfl
      · kernel_rfl
  rw [hu]
  exact (L.sameInts_tree_nat (fun o => optC o (fun (r : Bool) => κ (.bool r) []) none) a b_ (fun d => some d) none).symm
noncomputable def L.sameInts_s : D.Spec where
  keep := false
  pure := true
  add := true
  ds := [.int .i64, .int .i64]
  sp := fun args h κ => match args, h with
    | [.ro false (.ints .i64 a), .ro false (.ints .i64 b_)], [] => optC (L.sameInts_t a b_) (fun (r : Bool) => κ (.bool r) []) none
    | _, _ => none
theorem L.sameInts_ok : SpecOk Try.prog 48 L.sameInts_s := by
  refine SpecOk.of TDok mixed (T := L.sameInts_T) ?_ (ann := L.sameInts_ann) Try.func48 rfl (by decide +kernel) ?_ ?_ ?_ ?_
  · intro p hp; cases hp
  · intro args h κ r hh
    simp only [L.sameInts_s] at hh
    split at hh
    · exact (L.sameInts_den _ _ κ).trans hh
    · cases hh
  · intro args h κ r hh
    simp only [L.sameInts_s] at hh ⊢
    split at hh
    · exact optC_law2 (F := fun (r : Bool) κ => κ (.bool r) []) (fun b κ r hb => ⟨_, _, hb, fun _ => rfl⟩) hh
    · cases hh
  · intro _ args h κ r hh
    simp only [L.sameInts_s] at hh
    split at hh
    · exact ⟨rfl, fun _ => rfl⟩
    · cases hh
  · intro _ args h κ r hh
    simp only [L.sameInts_s] at hh
    split at hh
    · rfl
    · cases hh


-- loop.example/guardsonnets/laws.samePost
noncomputable def L.samePost_T : List (Nat × D.Spec) := [(48, L.sameInts_s)]
def L.samePost_ann : Nat → List Nat × List Nat
  | _ => ([], [])
noncomputable def L.samePost_F (args : List V) (h : List E) (κ : V → List E → R) : R := funC TD (tableK L.samePost_T) L.samePost_ann (drawAny TD (tableP L.samePost_T)) FUEL Try.f15 args h κ
noncomputable def L.samePost_tree {α : Type} (a0 : List Int) (a1 : Int) (a2 : List Int) (b_0 : List Int) (b_1 : Int) (b_2 : List Int) (leaf0_ : Bool → α) (fail_ : α) : α :=
  (optC (L.sameInts_t a0 b_0) (fun c_1 => (bif c_1 then (bif a1 == b_1 then (leaf0_ (strEq (bytesOf a2) (bytesOf b_2))) else (leaf0_ false)) else (leaf0_ false))) fail_)
theorem L.samePost_tree_nat {α γ : Type} (g : α → γ) (a0 : List Int) (a1 : Int) (a2 : List Int) (b_0 : List Int) (b_1 : Int) (b_2 : List Int) (leaf0_ : Bool → α) (fail_ : α) : g (L.samePost_tree a0 a1 a2 b_0 b_1 b_2 leaf0_ fail_) = L.samePost_tree a0 a1 a2 b_0 b_1 b_2 (fun d => g (leaf0_ d)) (g fail_) := by
  unfold L.samePost_tree; simp only [apply_cnd g, apply_optC g, apply_sumC g]
noncomputable def L.samePost_t (a0 : List Int) (a1 : Int) (a2 : List Int) (b_0 : List Int) (b_1 : Int) (b_2 : List Int) : Option (Bool) := L.samePost_tree a0 a1 a2 b_0 b_1 b_2 (fun d => some d) none
theorem L.samePost_den (a0 : List Int) (a1 : Int) (a2 : List Int) (b_0 : List Int) (b_1 : Int) (b_2 : List Int) (κ : V → List E → R) : L.samePost_F [.agg [.ro false (.ints .i64 a0), .int .i64 a1, .ro false (.ints .u8 a2)], .agg [.ro false (.ints .i64 b_0), .int .i64 b_1, .ro false (.ints .u8 b_2)]] [] κ = optC (L.samePost_t a0 a1 a2 b_0 b_1 b_2) (fun (r : Bool) => κ (.bool r) []) none := by
  have hu : L.samePost_F [.agg [.ro false (.ints .i64 a0), .int .i64 a1, .ro false (.ints .u8 a2)], .agg [.ro false (.ints .i64 b_0), .int .i64 b_1, .ro false (.ints .u8 b_2)]] [] κ = L.samePost_tree a0 a1 a2 b_0 b_1 b_2 (fun d => κ (.bool d) []) none := by
    kernel_rfl
  rw [hu]
  exact (L.samePost_tree_nat (fun o => optC o (fun (r : Bool) => κ (.bool r) []) none) a0 a1 a2 b_0 b_1 b_2 (fun d => some d) none).symm
noncomputable def L.samePost_s : D.Spec where
  keep := false
  pure := true
  add := true
  ds := [.tuple #[1, 0, 2], .tuple #[1, 0, 2]]
  sp := fun args h κ => match args, h with
    | [.agg [.ro false (.ints .i64 a0), .int .i64 a1, .ro false (.ints .u8 a2)], .agg [.ro false (.ints .i64 b_0), .int .i64 b_1, .ro false (.ints .u8 b_2)]], [] => optC (L.samePost_t a0 a1 a2 b_0 b_1 b_2) (fun (r : Bool) => κ (.bool r) []) none
    | _, _ => none
theorem L.samePost_ok : SpecOk Try.prog 15 L.samePost_s := by
  refine SpecOk.of TDok mixed (T := L.samePost_T) ?_ (ann := L.samePost_ann) Try.func15 rfl (by decide +kernel) ?_ ?_ ?_ ?_
  · intro p hp
    simp only [L.samePost_T, List.mem_cons, List.not_mem_nil, or_false] at hp
    rcases hp with rfl
    · exact L.sameInts_ok
  · intro args h κ r hh
    simp only [L.samePost_s] at hh
    split at hh
    · exact (L.samePost_den _ _ _ _ _ _ κ).trans hh
    · cases hh
  · intro args h κ r hh
    simp only [L.samePost_s] at hh ⊢
    split at hh
    · exact optC_law2 (F := fun (r : Bool) κ => κ (.bool r) []) (fun b κ r hb => ⟨_, _, hb, fun _ => rfl⟩) hh
    · cases hh
  · intro _ args h κ r hh
    simp only [L.samePost_s] at hh
    split at hh
    · exact ⟨rfl, fun _ => rfl⟩
    · cases hh
  · intro _ args h κ r hh
    simp only [L.samePost_s] at hh
    split at hh
    · rfl
    · cases hh


-- loop.example/guardsonnets/impl.EternalOk
noncomputable def I.EternalOk_T : List (Nat × D.Spec) := [(43, I.NetOk_s), (49, I.setIn_s), (50, I.eternalIn_s)]
def I.EternalOk_ann : Nat → List Nat × List Nat
  | _ => ([], [])
noncomputable def I.EternalOk_F (args : List V) (h : List E) (κ : V → List E → R) : R := funC TD (tableK I.EternalOk_T) I.EternalOk_ann (drawAny TD (tableP I.EternalOk_T)) FUEL Try.f16 args h κ
noncomputable def I.EternalOk_tree {α : Type} (net : List Int) (set_ : Int) (leaf0_ : Bool → α) (fail_ : α) : α :=
  (optC (I.NetOk_t net) (fun c_1 => (bif c_1 then (optC (I.setIn_t net set_) (fun c_2 => (bif c_2 then (optC (I.eternalIn_t net) (fun c_3 => (bif decide (0 ≤ set_) && decide (set_ < (↑c_3.length : Int)) then (bif decide (set_.toNat < c_3.length) then (leaf0_ (elb c_3 set_.toNat)) else fail_) else fail_)) fail_) else (leaf0_ false))) fail_) else (leaf0_ false))) fail_)
theorem I.EternalOk_tree_nat {α γ : Type} (g : α → γ) (net : List Int) (set_ : Int) (leaf0_ : Bool → α) (fail_ : α) : g (I.EternalOk_tree net set_ leaf0_ fail_) = I.EternalOk_tree net set_ (fun d => g (leaf0_ d)) (g fail_) := by
  unfold I.EternalOk_tree; simp only [apply_cnd g, apply_optC g, apply_sumC g]
noncomputable def I.EternalOk_t (net : List Int) (set_ : Int) : Option (Bool) := I.EternalOk_tree net set_ (fun d => some d) none
theorem I.EternalOk_den (net : List Int) (set_ : Int) (κ : V → List E → R) : I.EternalOk_F [.ro false (.ints .i64 net), .int .i64 set_] [] κ = optC (I.EternalOk_t net set_) (fun (r : Bool) => κ (.bool r) []) none := by
  have hu : I.EternalOk_F [.ro false (.ints .i64 net), .int .i64 set_] [] κ = I.EternalOk_tree net set_ (fun d => κ (.bool d) []) none := by
    kernel_rfl
  rw [hu]
  exact (I.EternalOk_tree_nat (fun o => optC o (fun (r : Bool) => κ (.bool r) []) none) net set_ (fun d => some d) none).symm
noncomputable def I.EternalOk_s : D.Spec where
  keep := false
  pure := true
  add := true
  ds := [.int .i64, .invalid]
  sp := fun args h κ => match args, h with
    | [.ro false (.ints .i64 net), .int .i64 set_], [] => optC (I.EternalOk_t net set_) (fun (r : Bool) => κ (.bool r) []) none
    | _, _ => none
theorem I.EternalOk_ok : SpecOk Try.prog 16 I.EternalOk_s := by
  refine SpecOk.of TDok mixed (T := I.EternalOk_T) ?_ (ann := I.EternalOk_ann) Try.func16 rfl (by decide +kernel) ?_ ?_ ?_ ?_
  · intro p hp
    simp only [I.EternalOk_T, List.mem_cons, List.not_mem_nil, or_false] at hp
    rcases hp with rfl | rfl | rfl
    · exact I.NetOk_ok
    · exact I.setIn_ok
    · exact I.eternalIn_ok
  · intro args h κ r hh
    simp only [I.EternalOk_s] at hh
    split at hh
    · exact (I.EternalOk_den _ _ κ).trans hh
    · cases hh
  · intro args h κ r hh
    simp only [I.EternalOk_s] at hh ⊢
    split at hh
    · exact optC_law2 (F := fun (r : Bool) κ => κ (.bool r) []) (fun b κ r hb => ⟨_, _, hb, fun _ => rfl⟩) hh
    · cases hh
  · intro _ args h κ r hh
    simp only [I.EternalOk_s] at hh
    split at hh
    · exact ⟨rfl, fun _ => rfl⟩
    · cases hh
  · intro _ args h κ r hh
    simp only [I.EternalOk_s] at hh
    split at hh
    · rfl
    · cases hh


-- loop.example/guardsonnets/laws.alive
noncomputable def L.alive_T : List (Nat × D.Spec) := [(43, I.NetOk_s)]
def L.alive_ann : Nat → List Nat × List Nat
  | _ => ([], [])
noncomputable def L.alive_F (args : List V) (h : List E) (κ : V → List E → R) : R := funC TD (tableK L.alive_T) L.alive_ann (drawAny TD (tableP L.alive_T)) FUEL Try.f17 args h κ
noncomputable def L.alive_tree {α : Type} (leaf0_ : Bool → α) (fail_ : α) : α :=
  (optC (I.NetOk_t [2, 1]) (fun c_1 => (bif c_1 then (optC (I.NetOk_t [1]) (fun c_2 => (leaf0_ (!c_2))) fail_) else (leaf0_ false))) fail_)
theorem L.alive_tree_nat {α γ : Type} (g : α → γ) (leaf0_ : Bool → α) (fail_ : α) : g (L.alive_tree leaf0_ fail_) = L.alive_tree (fun d => g (leaf0_ d)) (g fail_) := by
  unfold L.alive_tree; simp only [apply_cnd g, apply_optC g, apply_sumC g]
noncomputable def L.alive_t : Option (Bool) := L.alive_tree (fun d => some d) none
theorem L.alive_den (κ : V → List E → R) : L.alive_F [] [] κ = optC (L.alive_t) (fun (r : Bool) => κ (.bool r) []) none := by
  have hu : L.alive_F [] [] κ = L.alive_tree (fun d => κ (.bool d) []) none := by
    kernel_rfl
  rw [hu]
  exact (L.alive_tree_nat (fun o => optC o (fun (r : Bool) => κ (.bool r) []) none) (fun d => some d) none).symm
noncomputable def L.alive_s : D.Spec where
  keep := false
  pure := true
  add := true
  ds := []
  sp := fun args h κ => match args, h with
    | [], [] => optC (L.alive_t) (fun (r : Bool) => κ (.bool r) []) none
    | _, _ => none
theorem L.alive_ok : SpecOk Try.prog 17 L.alive_s := by
  refine SpecOk.of TDok mixed (T := L.alive_T) ?_ (ann := L.alive_ann) Try.func17 rfl (by decide +kernel) ?_ ?_ ?_ ?_
  · intro p hp
    simp only [L.alive_T, List.mem_cons, List.not_mem_nil, or_false] at hp
    rcases hp with rfl
    · exact I.NetOk_ok
  · intro args h κ r hh
    simp only [L.alive_s] at hh
    split at hh
    · exact (L.alive_den κ).trans hh
    · cases hh
  · intro args h κ r hh
    simp only [L.alive_s] at hh ⊢
    split at hh
    · exact optC_law2 (F := fun (r : Bool) κ => κ (.bool r) []) (fun b κ r hb => ⟨_, _, hb, fun _ => rfl⟩) hh
    · cases hh
  · intro _ args h κ r hh
    simp only [L.alive_s] at hh
    split at hh
    · exact ⟨rfl, fun _ => rfl⟩
    · cases hh
  · intro _ args h κ r hh
    simp only [L.alive_s] at hh
    split at hh
    · rfl
    · cases hh


-- loop.example/guardsonnets/laws.FnPostOk
noncomputable def L.FnPostOk_T : List (Nat × D.Spec) := [(11, S.DrawPostOk_s), (12, I.PostOk_s), (13, S.PostOk_s), (14, I.PostRise_s), (15, L.samePost_s), (16, I.EternalOk_s), (17, L.alive_s)]
def L.FnPostOk_ann : Nat → List Nat × List Nat
  | _ => ([], [])
noncomputable def L.FnPostOk_F (args : List V) (h : List E) (κ : V → List E → R) : R := funC TD (tableK L.FnPostOk_T) L.FnPostOk_ann (drawAny TD (tableP L.FnPostOk_T)) FUEL Try.f3 args h κ
noncomputable def L.FnPostOk_tree {α : Type} (code : List Int) (leaf0_ : Bool → α) (fail_ : α) : α :=
  (bif decide ((↑code.length : Int) > 1048576) then (leaf0_ true) else (optC (S.DrawPostOk_t code) (fun c_1 => (sumC c_1 (fun c_2 => (optC (I.PostOk_t c_2.snd.fst c_2.fst c_2.snd.snd) (fun c_3 => (optC (S.PostOk_t c_2.snd.fst c_2.fst c_2.snd.snd) (fun c_4 => (bif !c_3 == c_4 then (leaf0_ false) else (optC (I.PostRise_t c_2.snd.fst c_2.snd.snd) (fun c_5 => (bif c_5.snd.fst then (optC (L.samePost_t c_5.snd.snd.fst c_5.fst c_5.snd.snd.snd c_2.snd.fst c_2.fst c_2.snd.snd) (fun c_6 => (bif c_3 == c_6 then (bif !c_3 then (optC (L.alive_t) (fun c_7 => (leaf0_ c_7)) fail_) else (optC (I.EternalOk_t c_2.snd.fst c_2.fst) (fun c_8 => (bif c_8 then (optC (L.alive_t) (fun c_9 => (leaf0_ c_9)) fail_) else (leaf0_ false))) fail_)) else (leaf0_ false))) fail_) else (bif c_3 == false then (bif !c_3 then (optC (L.alive_t) (fun c_10 => (leaf0_ c_10)) fail_) else (optC (I.EternalOk_t c_2.snd.fst c_2.fst) (fun c_11 => (bif c_11 then (optC (L.alive_t) (fun c_12 => (leaf0_ c_12)) fail_) else (leaf0_ false))) fail_)) else (leaf0_ false)))) fail_))) fail_)) fail_)) (fun c_2 => (optC (I.PostOk_t c_2.snd.snd.snd.fst c_2.fst (List.take c_2.snd.snd.fst (List.drop c_2.snd.fst c_2.snd.snd.snd.snd))) (fun c_13 => (optC (S.PostOk_t c_2.snd.snd.snd.fst c_2.fst (List.take c_2.snd.snd.fst (List.drop c_2.snd.fst c_2.snd.snd.snd.snd))) (fun c_14 => (bif !c_13 == c_14 then (leaf0_ false) else (optC (I.PostRise_t c_2.snd.snd.snd.fst (List.take c_2.snd.snd.fst (List.drop c_2.snd.fst c_2.snd.snd.snd.snd))) (fun c_15 => (bif c_15.snd.fst then (optC (L.samePost_t c_15.snd.snd.fst c_15.fst c_15.snd.snd.snd c_2.snd.snd.snd.fst c_2.fst (List.take c_2.snd.snd.fst (List.drop c_2.snd.fst c_2.snd.snd.snd.snd))) (fun c_16 => (bif c_13 == c_16 then (bif !c_13 then (optC (L.alive_t) (fun c_17 => (leaf0_ c_17)) fail_) else (optC (I.EternalOk_t c_2.snd.snd.snd.fst c_2.fst) (fun c_18 => (bif c_18 then (optC (L.alive_t) (fun c_19 => (leaf0_ c_19)) fail_) else (leaf0_ false))) fail_)) else (leaf0_ false))) fail_) else (bif c_13 == false then (bif !c_13 then (optC (L.alive_t) (fun c_20 => (leaf0_ c_20)) fail_) else (optC (I.EternalOk_t c_2.snd.snd.snd.fst c_2.fst) (fun c_21 => (bif c_21 then (optC (L.alive_t) (fun c_22 => (leaf0_ c_22)) fail_) else (leaf0_ false))) fail_)) else (leaf0_ false)))) fail_))) fail_)) fail_)))) fail_))
theorem L.FnPostOk_tree_nat {α γ : Type} (g : α → γ) (code : List Int) (leaf0_ : Bool → α) (fail_ : α) : g (L.FnPostOk_tree code leaf0_ fail_) = L.FnPostOk_tree code (fun d => g (leaf0_ d)) (g fail_) := by
  unfold L.FnPostOk_tree; simp only [apply_cnd g, apply_optC g, apply_sumC g]
noncomputable def L.FnPostOk_t (code : List Int) : Option (Bool) := L.FnPostOk_tree code (fun d => some d) none
theorem L.FnPostOk_den (code : List Int) (κ : V → List E → R) : L.FnPostOk_F [.ro true (.ints .u8 code)] [] κ = optC (L.FnPostOk_t code) (fun (r : Bool) => κ (.bool r) []) none := by
  have hu : L.FnPostOk_F [.ro true (.ints .u8 code)] [] κ = L.FnPostOk_tree code (fun d => κ (.bool d) []) none := by
    kernel_rfl
  rw [hu]
  exact (L.FnPostOk_tree_nat (fun o => optC o (fun (r : Bool) => κ (.bool r) []) none) code (fun d => some d) none).symm
noncomputable def L.FnPostOk_s : D.Spec where
  keep := true
  pure := true
  add := true
  ds := [.int .u8]
  sp := fun args h κ => match args, h with
    | [.ro true (.ints .u8 code)], [] => optC (L.FnPostOk_t code) (fun (r : Bool) => κ (.bool r) []) none
    | _, _ => none
theorem L.FnPostOk_ok : SpecOk Try.prog 3 L.FnPostOk_s := by
  refine SpecOk.of TDok mixed (T := L.FnPostOk_T) ?_ (ann := L.FnPostOk_ann) Try.func3 rfl (by decide +kernel) ?_ ?_ ?_ ?_
  · intro p hp
    simp only [L.FnPostOk_T, List.mem_cons, List.not_mem_nil, or_false] at hp
    rcases hp with rfl | rfl | rfl | rfl | rfl | rfl | rfl
    · exact S.DrawPostOk_ok
    · exact I.PostOk_ok
    · exact S.PostOk_ok
    · exact I.PostRise_ok
    · exact L.samePost_ok
    · exact I.EternalOk_ok
    · exact L.alive_ok
  · intro args h κ r hh
    simp only [L.FnPostOk_s] at hh
    split at hh
    · exact (L.FnPostOk_den _ κ).trans hh
    · cases hh
  · intro args h κ r hh
    simp only [L.FnPostOk_s] at hh ⊢
    split at hh
    · exact optC_law2 (F := fun (r : Bool) κ => κ (.bool r) []) (fun b κ r hb => ⟨_, _, hb, fun _ => rfl⟩) hh
    · cases hh
  · intro _ args h κ r hh
    simp only [L.FnPostOk_s] at hh
    split at hh
    · exact ⟨rfl, fun _ => rfl⟩
    · cases hh
  · intro _ args h κ r hh
    simp only [L.FnPostOk_s] at hh
    split at hh
    · rfl
    · cases hh



end Go.Proofs.Ytgpgifpblchjjaa
