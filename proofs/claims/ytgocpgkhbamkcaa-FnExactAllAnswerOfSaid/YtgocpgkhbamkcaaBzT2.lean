/- Twins of the translated functions, with their proofs. Conditions: none. -/
import Derived.Test.YtgocpgkhbamkcaaBzT1
set_option linter.unusedVariables false
set_option linter.unusedSimpArgs false
set_option linter.unusedSectionVars false
namespace Go.Proofs.Ytgocpgkhbamkcaa
open D Go.RowKit
-- loop.example/guardsonnets/impl.moveIn
noncomputable def I.moveIn_T : List (Nat × D.Spec) := [(53, I.hasPlace_s)]
def I.moveIn_ann : Nat → List Nat × List Nat
  | _ => ([], [])
noncomputable def I.moveIn_F (args : List V) (h : List E) (κ : V → List E → R) : R := funC TD (tableK I.moveIn_T) I.moveIn_ann (drawOk (tableP I.moveIn_T)) FUEL Try.f47 args h κ
noncomputable def I.moveIn_tree {α : Type} (net : List Int) (set_ : Int) (from_ : Int) (to_ : Int) (leaf0_ : Bool → α) (fail_ : α) : α :=
  (optC (I.hasPlace_t set_ from_) (fun c_1 => (bif c_1 then (optC (I.hasPlace_t set_ to_) (fun c_2 => (bif !c_2 then (bif decide (0 ≤ from_) && decide (from_ < (↑net.length : Int)) then (optC (I.hasPlace_t (eli net from_.toNat) to_) (fun c_3 => (leaf0_ c_3)) fail_) else fail_) else (leaf0_ false))) fail_) else (leaf0_ false))) fail_)
theorem I.moveIn_tree_nat {α γ : Type} (g : α → γ) (net : List Int) (set_ : Int) (from_ : Int) (to_ : Int) (leaf0_ : Bool → α) (fail_ : α) : g (I.moveIn_tree net set_ from_ to_ leaf0_ fail_) = I.moveIn_tree net set_ from_ to_ (fun d => g (leaf0_ d)) (g fail_) := by
  unfold I.moveIn_tree; simp only [apply_cnd g, apply_optC g, apply_sumC g]
noncomputable def I.moveIn_t (net : List Int) (set_ : Int) (from_ : Int) (to_ : Int) : Option (Bool) := I.moveIn_tree net set_ from_ to_ (fun d => some d) none
theorem I.moveIn_den (net : List Int) (set_ : Int) (from_ : Int) (to_ : Int) (κ : V → List E → R) : I.moveIn_F [.ro false (.ints .i64 net), .int .i64 set_, .int .i64 from_, .int .i64 to_] [] κ = optC (I.moveIn_t net set_ from_ to_) (fun (r : Bool) => κ (.bool r) []) none := by
  have hu : I.moveIn_F [.ro false (.ints .i64 net), .int .i64 set_, .int .i64 from_, .int .i64 to_] [] κ = I.moveIn_tree net set_ from_ to_ (fun d => κ (.bool d) []) none := by
    kernel_rfl
  rw [hu]
  exact (I.moveIn_tree_nat (fun o => optC o (fun (r : Bool) => κ (.bool r) []) none) net set_ from_ to_ (fun d => some d) none).symm
noncomputable def I.moveIn_s : D.Spec where
  keep := false
  pure := true
  ds := [.int .i64, .invalid, .invalid, .invalid]
  sp := fun args h κ => match args, h with
    | [.ro false (.ints .i64 net), .int .i64 set_, .int .i64 from_, .int .i64 to_], [] => optC (I.moveIn_t net set_ from_ to_) (fun (r : Bool) => κ (.bool r) []) none
    | _, _ => none
theorem I.moveIn_ok : SpecOk Try.prog 47 I.moveIn_s := by
  refine SpecOk.of TDok mixed (T := I.moveIn_T) ?_ (ann := I.moveIn_ann) Try.func47 rfl (by decide +kernel) ?_ ?_ ?_
  · intro p hp
    simp only [I.moveIn_T, List.mem_cons, List.not_mem_nil, or_false] at hp
    rcases hp with rfl
    · exact I.hasPlace_ok
  · intro args h κ r hh
    simp only [I.moveIn_s] at hh
    split at hh
    · exact (I.moveIn_den _ _ _ _ κ).trans hh
    · cases hh
  · intro args h κ r hh
    simp only [I.moveIn_s] at hh ⊢
    split at hh
    · exact optC_law2 (F := fun (r : Bool) κ => κ (.bool r) []) (fun b κ r hb => ⟨_, _, hb, fun _ => rfl⟩) hh
    · cases hh
  · intro _ args h κ r hh
    simp only [I.moveIn_s] at hh
    split at hh
    · exact ⟨rfl, fun _ => rfl⟩
    · cases hh

-- loop.example/guardsonnets/impl.without
noncomputable def I.without_T : List (Nat × D.Spec) := []
def I.without_ann : Nat → List Nat × List Nat
  | _ => ([], [])
noncomputable def I.without_F (args : List V) (h : List E) (κ : V → List E → R) : R := funC TD (tableK I.without_T) I.without_ann (drawOk (tableP I.without_T)) FUEL Try.f72 args h κ
noncomputable def I.without_tree {α : Type} (set_ : Int) (place : Int) (leaf0_ : Int → α) (fail_ : α) : α :=
  (bif decide (place < 0) then fail_ else (leaf0_ (bits BinOp.andNot IntKind.i64 set_ (IntKind.i64.wrap (1 * 2 ^ min place.toNat IntKind.i64.bits)))))
theorem I.without_tree_nat {α γ : Type} (g : α → γ) (set_ : Int) (place : Int) (leaf0_ : Int → α) (fail_ : α) : g (I.without_tree set_ place leaf0_ fail_) = I.without_tree set_ place (fun d => g (leaf0_ d)) (g fail_) := by
  unfold I.without_tree; simp only [apply_cnd g, apply_optC g, apply_sumC g]
noncomputable def I.without_t (set_ : Int) (place : Int) : Option (Int) := I.without_tree set_ place (fun d => some d) none
theorem I.without_den (set_ : Int) (place : Int) (κ : V → List E → R) : I.without_F [.int .i64 set_, .int .i64 place] [] κ = optC (I.without_t set_ place) (fun (r : Int) => κ (.int .i64 r) []) none := by
  have hu : I.without_F [.int .i64 set_, .int .i64 place] [] κ = I.without_tree set_ place (fun d => κ (.int .i64 d) []) none := by
    kernel_rfl
  rw [hu]
  exact (I.without_tree_nat (fun o => optC o (fun (r : Int) => κ (.int .i64 r) []) none) set_ place (fun d => some d) none).symm
noncomputable def I.without_s : D.Spec where
  keep := false
  pure := true
  ds := [.invalid, .invalid]
  sp := fun args h κ => match args, h with
    | [.int .i64 set_, .int .i64 place], [] => optC (I.without_t set_ place) (fun (r : Int) => κ (.int .i64 r) []) none
    | _, _ => none
theorem I.without_ok : SpecOk Try.prog 72 I.without_s := by
  refine SpecOk.of TDok mixed (T := I.without_T) ?_ (ann := I.without_ann) Try.func72 rfl (by decide +kernel) ?_ ?_ ?_
  · intro p hp; cases hp
  · intro args h κ r hh
    simp only [I.without_s] at hh
    split at hh
    · exact (I.without_den _ _ κ).trans hh
    · cases hh
  · intro args h κ r hh
    simp only [I.without_s] at hh ⊢
    split at hh
    · exact optC_law2 (F := fun (r : Int) κ => κ (.int .i64 r) []) (fun b κ r hb => ⟨_, _, hb, fun _ => rfl⟩) hh
    · cases hh
  · intro _ args h κ r hh
    simp only [I.without_s] at hh
    split at hh
    · exact ⟨rfl, fun _ => rfl⟩
    · cases hh

-- loop.example/guardsonnets/impl.moved
noncomputable def I.moved_T : List (Nat × D.Spec) := [(72, I.without_s), (71, I.with_s)]
def I.moved_ann : Nat → List Nat × List Nat
  | _ => ([], [])
noncomputable def I.moved_F (args : List V) (h : List E) (κ : V → List E → R) : R := funC TD (tableK I.moved_T) I.moved_ann (drawOk (tableP I.moved_T)) FUEL Try.f48 args h κ
noncomputable def I.moved_tree {α : Type} (set_ : Int) (from_ : Int) (to_ : Int) (leaf0_ : Int → α) (fail_ : α) : α :=
  (optC (I.without_t set_ from_) (fun c_1 => (optC (I.with_t c_1 to_) (fun c_2 => (leaf0_ c_2)) fail_)) fail_)
theorem I.moved_tree_nat {α γ : Type} (g : α → γ) (set_ : Int) (from_ : Int) (to_ : Int) (leaf0_ : Int → α) (fail_ : α) : g (I.moved_tree set_ from_ to_ leaf0_ fail_) = I.moved_tree set_ from_ to_ (fun d => g (leaf0_ d)) (g fail_) := by
  unfold I.moved_tree; simp only [apply_cnd g, apply_optC g, apply_sumC g]
noncomputable def I.moved_t (set_ : Int) (from_ : Int) (to_ : Int) : Option (Int) := I.moved_tree set_ from_ to_ (fun d => some d) none
theorem I.moved_den (set_ : Int) (from_ : Int) (to_ : Int) (κ : V → List E → R) : I.moved_F [.int .i64 set_, .int .i64 from_, .int .i64 to_] [] κ = optC (I.moved_t set_ from_ to_) (fun (r : Int) => κ (.int .i64 r) []) none := by
  have hu : I.moved_F [.int .i64 set_, .int .i64 from_, .int .i64 to_] [] κ = I.moved_tree set_ from_ to_ (fun d => κ (.int .i64 d) []) none := by
    kernel_rfl
  rw [hu]
  exact (I.moved_tree_nat (fun o => optC o (fun (r : Int) => κ (.int .i64 r) []) none) set_ from_ to_ (fun d => some d) none).symm
noncomputable def I.moved_s : D.Spec where
  keep := false
  pure := true
  ds := [.invalid, .invalid, .invalid]
  sp := fun args h κ => match args, h with
    | [.int .i64 set_, .int .i64 from_, .int .i64 to_], [] => optC (I.moved_t set_ from_ to_) (fun (r : Int) => κ (.int .i64 r) []) none
    | _, _ => none
theorem I.moved_ok : SpecOk Try.prog 48 I.moved_s := by
  refine SpecOk.of TDok mixed (T := I.moved_T) ?_ (ann := I.moved_ann) Try.func48 rfl (by decide +kernel) ?_ ?_ ?_
  · intro p hp
    simp only [I.moved_T, List.mem_cons, List.not_mem_nil, or_false] at hp
    rcases hp with rfl | rfl
    · exact I.without_ok
    · exact I.with_ok
  · intro args h κ r hh
    simp only [I.moved_s] at hh
    split at hh
    · exact (I.moved_den _ _ _ κ).trans hh
    · cases hh
  · intro args h κ r hh
    simp only [I.moved_s] at hh ⊢
    split at hh
    · exact optC_law2 (F := fun (r : Int) κ => κ (.int .i64 r) []) (fun b κ r hb => ⟨_, _, hb, fun _ => rfl⟩) hh
    · cases hh
  · intro _ args h κ r hh
    simp only [I.moved_s] at hh
    split at hh
    · exact ⟨rfl, fun _ => rfl⟩
    · cases hh

-- loop.example/guardsonnets/impl.GuardMoved
noncomputable def I.GuardMoved_T : List (Nat × D.Spec) := [(29, I.NetOk_s), (41, I.setIn_s), (46, I.placeIn_s), (47, I.moveIn_s), (48, I.moved_s)]
def I.GuardMoved_ann : Nat → List Nat × List Nat
  | _ => ([], [])
noncomputable def I.GuardMoved_F (args : List V) (h : List E) (κ : V → List E → R) : R := funC TD (tableK I.GuardMoved_T) I.GuardMoved_ann (drawOk (tableP I.GuardMoved_T)) FUEL Try.f16 args h κ
noncomputable def I.GuardMoved_tree {α : Type} (net : List Int) (set_ : Int) (from_ : Int) (to_ : Int) (leaf0_ : Int → α) (fail_ : α) : α :=
  (optC (I.NetOk_t net) (fun c_1 => (bif !c_1 then (leaf0_ (-1)) else (optC (I.setIn_t net set_) (fun c_2 => (bif !c_2 then (leaf0_ (-1)) else (optC (I.placeIn_t net from_) (fun c_3 => (bif !c_3 then (leaf0_ (-1)) else (optC (I.placeIn_t net to_) (fun c_4 => (bif !c_4 then (leaf0_ (-1)) else (optC (I.moveIn_t net set_ from_ to_) (fun c_5 => (bif !c_5 then (leaf0_ (-1)) else (optC (I.moved_t set_ from_ to_) (fun c_6 => (leaf0_ c_6)) fail_))) fail_))) fail_))) fail_))) fail_))) fail_)
theorem I.GuardMoved_tree_nat {α γ : Type} (g : α → γ) (net : List Int) (set_ : Int) (from_ : Int) (to_ : Int) (leaf0_ : Int → α) (fail_ : α) : g (I.GuardMoved_tree net set_ from_ to_ leaf0_ fail_) = I.GuardMoved_tree net set_ from_ to_ (fun d => g (leaf0_ d)) (g fail_) := by
  unfold I.GuardMoved_tree; simp only [apply_cnd g, apply_optC g, apply_sumC g]
noncomputable def I.GuardMoved_t (net : List Int) (set_ : Int) (from_ : Int) (to_ : Int) : Option (Int) := I.GuardMoved_tree net set_ from_ to_ (fun d => some d) none
theorem I.GuardMoved_den (net : List Int) (set_ : Int) (from_ : Int) (to_ : Int) (κ : V → List E → R) : I.GuardMoved_F [.ro false (.ints .i64 net), .int .i64 set_, .int .i64 from_, .int .i64 to_] [] κ = optC (I.GuardMoved_t net set_ from_ to_) (fun (r : Int) => κ (.int .i64 r) []) none := by
  have hu : I.GuardMoved_F [.ro false (.ints .i64 net), .int .i64 set_, .int .i64 from_, .int .i64 to_] [] κ = I.GuardMoved_tree net set_ from_ to_ (fun d => κ (.int .i64 d) []) none := by
    kernel_rfl
  rw [hu]
  exact (I.GuardMoved_tree_nat (fun o => optC o (fun (r : Int) => κ (.int .i64 r) []) none) net set_ from_ to_ (fun d => some d) none).symm
noncomputable def I.GuardMoved_s : D.Spec where
  keep := false
  pure := true
  ds := [.int .i64, .invalid, .invalid, .invalid]
  sp := fun args h κ => match args, h with
    | [.ro false (.ints .i64 net), .int .i64 set_, .int .i64 from_, .int .i64 to_], [] => optC (I.GuardMoved_t net set_ from_ to_) (fun (r : Int) => κ (.int .i64 r) []) none
    | _, _ => none
theorem I.GuardMoved_ok : SpecOk Try.prog 16 I.GuardMoved_s := by
  refine SpecOk.of TDok mixed (T := I.GuardMoved_T) ?_ (ann := I.GuardMoved_ann) Try.func16 rfl (by decide +kernel) ?_ ?_ ?_
  · intro p hp
    simp only [I.GuardMoved_T, List.mem_cons, List.not_mem_nil, or_false] at hp
    rcases hp with rfl | rfl | rfl | rfl | rfl
    · exact I.NetOk_ok
    · exact I.setIn_ok
    · exact I.placeIn_ok
    · exact I.moveIn_ok
    · exact I.moved_ok
  · intro args h κ r hh
    simp only [I.GuardMoved_s] at hh
    split at hh
    · exact (I.GuardMoved_den _ _ _ _ κ).trans hh
    · cases hh
  · intro args h κ r hh
    simp only [I.GuardMoved_s] at hh ⊢
    split at hh
    · exact optC_law2 (F := fun (r : Int) κ => κ (.int .i64 r) []) (fun b κ r hb => ⟨_, _, hb, fun _ => rfl⟩) hh
    · cases hh
  · intro _ args h κ r hh
    simp only [I.GuardMoved_s] at hh
    split at hh
    · exact ⟨rfl, fun _ => rfl⟩
    · cases hh

-- loop.example/guardsonnets/laws.sizeOf
noncomputable def L.sizeOf_T : List (Nat × D.Spec) := []
def L.sizeOf_ann : Nat → List Nat × List Nat
  | 2 => ([0, 3], [3])
  | _ => ([], [])
noncomputable def L.sizeOf_F (args : List V) (h : List E) (κ : V → List E → R) : R := funC TD (tableK L.sizeOf_T) L.sizeOf_ann (drawOk (tableP L.sizeOf_T)) FUEL Try.f17 args h κ
noncomputable def L.sizeOf_L2 (n : Nat) (σ : St) (k : X → St → R) : R := iterC 0 (fun σ k => denC TD (tableK L.sizeOf_T) L.sizeOf_ann (drawOk (tableP L.sizeOf_T)) 0 FUEL ((findLoop 2 (Try.f17.body.getD .skip)).getD .skip) σ k) [0, 3] [3] n σ k
noncomputable def L.sizeOf_k2 (κ : V → List E → R) : X → St → R := (afterC TD (tableK L.sizeOf_T) L.sizeOf_ann (drawOk (tableP L.sizeOf_T)) 0 FUEL 2 (Try.f17.body.getD .skip) (finC TD 0 Try.f17 κ)).getD (fun _ _ => none)
noncomputable def L.sizeOf_step2 {α : Type} (x0 : Int) (x3 : Int) (next_ : Int × Int → α) (out0_ : Int → α) (fail_ : α) : α :=
  (bif decide (x0 > 0) then (next_ (IntKind.i64.wrap (x0.tdiv 2), IntKind.i64.wrap (x3 + x0.tmod 2))) else (out0_ x3))
theorem L.sizeOf_step2_nat {α γ : Type} (g : α → γ) (x0 : Int) (x3 : Int) (next_ : Int × Int → α) (out0_ : Int → α) (fail_ : α) : g (L.sizeOf_step2 x0 x3 next_ out0_ fail_) = L.sizeOf_step2 x0 x3 (fun s => g (next_ s)) (fun d => g (out0_ d)) (g fail_) := by
  unfold L.sizeOf_step2; simp only [apply_cnd g, apply_optC g, apply_sumC g]
noncomputable def L.sizeOf_run2 : Nat → Int × Int → Option (Int)
  | 0, _ => none
  | n + 1, s_ => L.sizeOf_step2 s_.1 s_.2 (L.sizeOf_run2 n) (fun d => some d) none
theorem L.sizeOf_L2_run (n : Nat) (s_ : Int × Int) (k : X → St → R) : L.sizeOf_L2 n { n := 13, t := [(0, (.int .i64 s_.1)), (3, (.int .i64 s_.2))], h := [] } k = optC (L.sizeOf_run2 n s_) (fun (r : Int) => k (.exit 0) { n := 13, t := [(3, (.int .i64 r))], h := [] }) none := by
  induction n generalizing s_ with
  | zero => rfl
  | succ n ih =>
    have hu : L.sizeOf_L2 (n + 1) { n := 13, t := [(0, (.int .i64 s_.1)), (3, (.int .i64 s_.2))], h := [] } k = L.sizeOf_step2 s_.1 s_.2 (fun s_ => L.sizeOf_L2 n { n := 13, t := [(0, (.int .i64 s_.1)), (3, (.int .i64 s_.2))], h := [] } k) (fun d => k (.exit 0) { n := 13, t := [(3, (.int .i64 d))], h := [] }) none := by
      kernel_rfl
    have hs : (fun s_ : Int × Int => L.sizeOf_L2 n { n := 13, t := [(0, (.int .i64 s_.1)), (3, (.int .i64 s_.2))], h := [] } k) = fun s_ => optC (L.sizeOf_run2 n s_) (fun (r : Int) => k (.exit 0) { n := 13, t := [(3, (.int .i64 r))], h := [] }) none := funext ih
    rw [hu, hs]
    exact (L.sizeOf_step2_nat (fun o => optC o (fun (r : Int) => k (.exit 0) { n := 13, t := [(3, (.int .i64 r))], h := [] }) none) s_.1 s_.2 (L.sizeOf_run2 n) (fun d => some d) none).symm
noncomputable def L.sizeOf_tree {α : Type} (n_ : Int) (leaf0_ : Int → α) (fail_ : α) : α :=
  (optC (L.sizeOf_run2 FUEL (n_, 0)) (fun qy_1 => (leaf0_ qy_1)) fail_)
theorem L.sizeOf_tree_nat {α γ : Type} (g : α → γ) (n_ : Int) (leaf0_ : Int → α) (fail_ : α) : g (L.sizeOf_tree n_ leaf0_ fail_) = L.sizeOf_tree n_ (fun d => g (leaf0_ d)) (g fail_) := by
  unfold L.sizeOf_tree; simp only [apply_cnd g, apply_optC g, apply_sumC g]
noncomputable def L.sizeOf_t (n_ : Int) : Option (Int) := L.sizeOf_tree n_ (fun d => some d) none
theorem L.sizeOf_den (n_ : Int) (κ : V → List E → R) : L.sizeOf_F [.int .i64 n_] [] κ = optC (L.sizeOf_t n_) (fun (r : Int) => κ (.int .i64 r) []) none := by
  have hu : L.sizeOf_F [.int .i64 n_] [] κ = L.sizeOf_tree n_ (fun d => κ (.int .i64 d) []) none := by
    refine Eq.trans (show L.sizeOf_F [.int .i64 n_] [] κ = (L.sizeOf_L2 FUEL { n := 13, t := [(0, (.int .i64 n_)), (3, (.int .i64 0))], h := [] } (L.sizeOf_k2 κ)) by kernel_rfl) ?_
    refine (L.sizeOf_L2_run FUEL (n_, 0) (L.sizeOf_k2 κ)).trans (optC_congr (fun qy_1 => ?_))
    kernel_rfl
  rw [hu]
  exact (L.sizeOf_tree_nat (fun o => optC o (fun (r : Int) => κ (.int .i64 r) []) none) n_ (fun d => some d) none).symm
noncomputable def L.sizeOf_s : D.Spec where
  keep := false
  pure := true
  ds := [.invalid]
  sp := fun args h κ => match args, h with
    | [.int .i64 n_], [] => optC (L.sizeOf_t n_) (fun (r : Int) => κ (.int .i64 r) []) none
    | _, _ => none
theorem L.sizeOf_ok : SpecOk Try.prog 17 L.sizeOf_s := by
  refine SpecOk.of TDok mixed (T := L.sizeOf_T) ?_ (ann := L.sizeOf_ann) Try.func17 rfl (by decide +kernel) ?_ ?_ ?_
  · intro p hp; cases hp
  · intro args h κ r hh
    simp only [L.sizeOf_s] at hh
    split at hh
    · exact (L.sizeOf_den _ κ).trans hh
    · cases hh
  · intro args h κ r hh
    simp only [L.sizeOf_s] at hh ⊢
    split at hh
    · exact optC_law2 (F := fun (r : Int) κ => κ (.int .i64 r) []) (fun b κ r hb => ⟨_, _, hb, fun _ => rfl⟩) hh
    · cases hh
  · intro _ args h κ r hh
    simp only [L.sizeOf_s] at hh
    split at hh
    · exact ⟨rfl, fun _ => rfl⟩
    · cases hh

-- loop.example/guardsonnets/laws.FnAllMoveOk
noncomputable def L.FnAllMoveOk_T : List (Nat × D.Spec) := [(11, S.DrawAllMoveOk_s), (12, I.AllMoveOk_s), (13, S.AllMoveOk_s), (14, I.SeenBy_s), (15, L.alive_s), (16, I.GuardMoved_s), (17, L.sizeOf_s)]
def L.FnAllMoveOk_ann : Nat → List Nat × List Nat
  | 13 => ([3, 4, 5, 6, 7, 8], [2, 3, 4, 5, 6, 7])
  | 10 => ([3, 4, 5, 6, 7], [2, 3, 4, 5, 6])
  | _ => ([], [])
noncomputable def L.FnAllMoveOk_F (args : List V) (h : List E) (κ : V → List E → R) : R := funC TD (tableK L.FnAllMoveOk_T) L.FnAllMoveOk_ann (drawOk (tableP L.FnAllMoveOk_T)) FUEL Try.f3 args h κ
noncomputable def L.FnAllMoveOk_L13 (n : Nat) (σ : St) (k : X → St → R) : R := iterC 0 (fun σ k => denC TD (tableK L.FnAllMoveOk_T) L.FnAllMoveOk_ann (drawOk (tableP L.FnAllMoveOk_T)) 0 FUEL ((findLoop 13 (Try.f3.body.getD .skip)).getD .skip) σ k) [3, 4, 5, 6, 7, 8] [2, 3, 4, 5, 6, 7] n σ k
noncomputable def L.FnAllMoveOk_L10 (n : Nat) (σ : St) (k : X → St → R) : R := iterC 0 (fun σ k => denC TD (tableK L.FnAllMoveOk_T) L.FnAllMoveOk_ann (drawOk (tableP L.FnAllMoveOk_T)) 0 FUEL ((findLoop 10 (Try.f3.body.getD .skip)).getD .skip) σ k) [3, 4, 5, 6, 7] [2, 3, 4, 5, 6] n σ k
noncomputable def L.FnAllMoveOk_k13 (c : (St → R) × (X → St → R)) : X → St → R := (afterC TD (tableK L.FnAllMoveOk_T) L.FnAllMoveOk_ann (drawOk (tableP L.FnAllMoveOk_T)) 0 FUEL 13 ((findLoop 10 (Try.f3.body.getD .skip)).getD .skip) (roundC 0 [3, 4, 5, 6, 7] [2, 3, 4, 5, 6] c.1 c.2)).getD (fun _ _ => none)
noncomputable def L.FnAllMoveOk_k10 (κ : V → List E → R) : X → St → R := (afterC TD (tableK L.FnAllMoveOk_T) L.FnAllMoveOk_ann (drawOk (tableP L.FnAllMoveOk_T)) 0 FUEL 10 (Try.f3.body.getD .skip) (finC TD 0 Try.f3 κ)).getD (fun _ _ => none)
noncomputable def L.FnAllMoveOk_step13 {α : Type} (x4 : Int) (x5 : Int) (x6 : Bool) (x7 : Int) (x8 : Int) (r0 : List Int) (next_ : Int × (List Int) → α) (out0_ : Bool × (List Int) → α) (out1_ : List Int → α) (fail_ : α) : α :=
  (bif decide (x8 < (↑r0.length : Int)) then (optC (I.GuardMoved_t r0 x4 x7 x8) (fun c_6 => (bif decide (c_6 ≥ 0) then (optC (I.AllMoveOk_t r0 x4 c_6) (fun c_7 => (bif !c_7 then (out0_ (false, r0)) else (next_ (IntKind.i64.wrap (x8 + 1), r0)))) fail_) else (next_ (IntKind.i64.wrap (x8 + 1), r0)))) fail_) else (out1_ r0))
theorem L.FnAllMoveOk_step13_nat {α γ : Type} (g : α → γ) (x4 : Int) (x5 : Int) (x6 : Bool) (x7 : Int) (x8 : Int) (r0 : List Int) (next_ : Int × (List Int) → α) (out0_ : Bool × (List Int) → α) (out1_ : List Int → α) (fail_ : α) : g (L.FnAllMoveOk_step13 x4 x5 x6 x7 x8 r0 next_ out0_ out1_ fail_) = L.FnAllMoveOk_step13 x4 x5 x6 x7 x8 r0 (fun s => g (next_ s)) (fun d => g (out0_ d)) (fun d => g (out1_ d)) (g fail_) := by
  unfold L.FnAllMoveOk_step13; simp only [apply_cnd g, apply_optC g, apply_sumC g]
noncomputable def L.FnAllMoveOk_run13 (x4 : Int) (x5 : Int) (x6 : Bool) (x7 : Int) : Nat → Int × (List Int) → Option ((Bool × (List Int)) ⊕ (List Int))
  | 0, _ => none
  | n + 1, s_ => L.FnAllMoveOk_step13 x4 x5 x6 x7 s_.1 s_.2 (L.FnAllMoveOk_run13 x4 x5 x6 x7 n) (fun d => some ((Sum.inl d))) (fun d => some ((Sum.inr d))) none
theorem L.FnAllMoveOk_L13_run (x4 : Int) (x5 : Int) (x6 : Bool) (x7 : Int) (n : Nat) (s_ : Int × (List Int)) (k : X → St → R) : L.FnAllMoveOk_L13 n { n := 94, t := [(3, (.own 0)), (4, (.int .i64 x4)), (5, (.int .i64 x5)), (6, (.bool x6)), (7, (.int .i64 x7)), (8, (.int .i64 s_.1))], h := [.row (.ints .i64 s_.2)] } k = optC (L.FnAllMoveOk_run13 x4 x5 x6 x7 n s_) (fun (r : (Bool × (List Int)) ⊕ (List Int)) => (sumC r (fun (r : Bool × (List Int)) => k (.ret) { n := 94, t := [(2, (.bool r.1)), (3, (.own 0)), (4, (.int .i64 x4)), (5, (.int .i64 x5)), (6, (.bool x6)), (7, (.int .i64 x7))], h := [.row (.ints .i64 r.2)] }) (fun (r : List Int) => k (.exit 2) { n := 94, t := [(2, .junk), (3, (.own 0)), (4, (.int .i64 x4)), (5, (.int .i64 x5)), (6, (.bool x6)), (7, (.int .i64 x7))], h := [.row (.ints .i64 r)] }))) none := by
  induction n generalizing s_ with
  | zero => rfl
  | succ n ih =>
    have hu : L.FnAllMoveOk_L13 (n + 1) { n := 94, t := [(3, (.own 0)), (4, (.int .i64 x4)), (5, (.int .i64 x5)), (6, (.bool x6)), (7, (.int .i64 x7)), (8, (.int .i64 s_.1))], h := [.row (.ints .i64 s_.2)] } k = L.FnAllMoveOk_step13 x4 x5 x6 x7 s_.1 s_.2 (fun s_ => L.FnAllMoveOk_L13 n { n := 94, t := [(3, (.own 0)), (4, (.int .i64 x4)), (5, (.int .i64 x5)), (6, (.bool x6)), (7, (.int .i64 x7)), (8, (.int .i64 s_.1))], h := [.row (.ints .i64 s_.2)] } k) (fun d => k (.ret) { n := 94, t := [(2, (.bool d.1)), (3, (.own 0)), (4, (.int .i64 x4)), (5, (.int .i64 x5)), (6, (.bool x6)), (7, (.int .i64 x7))], h := [.row (.ints .i64 d.2)] }) (fun d => k (.exit 2) { n := 94, t := [(2, .junk), (3, (.own 0)), (4, (.int .i64 x4)), (5, (.int .i64 x5)), (6, (.bool x6)), (7, (.int .i64 x7))], h := [.row (.ints .i64 d)] }) none := by
      kernel_rfl
    have hs : (fun s_ : Int × (List Int) => L.FnAllMoveOk_L13 n { n := 94, t := [(3, (.own 0)), (4, (.int .i64 x4)), (5, (.int .i64 x5)), (6, (.bool x6)), (7, (.int .i64 x7)), (8, (.int .i64 s_.1))], h := [.row (.ints .i64 s_.2)] } k) = fun s_ => optC (L.FnAllMoveOk_run13 x4 x5 x6 x7 n s_) (fun (r : (Bool × (List Int)) ⊕ (List Int)) => (sumC r (fun (r : Bool × (List Int)) => k (.ret) { n := 94, t := [(2, (.bool r.1)), (3, (.own 0)), (4, (.int .i64 x4)), (5, (.int .i64 x5)), (6, (.bool x6)), (7, (.int .i64 x7))], h := [.row (.ints .i64 r.2)] }) (fun (r : List Int) => k (.exit 2) { n := 94, t := [(2, .junk), (3, (.own 0)), (4, (.int .i64 x4)), (5, (.int .i64 x5)), (6, (.bool x6)), (7, (.int .i64 x7))], h := [.row (.ints .i64 r)] }))) none := funext ih
    rw [hu, hs]
    exact (L.FnAllMoveOk_step13_nat (fun o => optC o (fun (r : (Bool × (List Int)) ⊕ (List Int)) => (sumC r (fun (r : Bool × (List Int)) => k (.ret) { n := 94, t := [(2, (.bool r.1)), (3, (.own 0)), (4, (.int .i64 x4)), (5, (.int .i64 x5)), (6, (.bool x6)), (7, (.int .i64 x7))], h := [.row (.ints .i64 r.2)] }) (fun (r : List Int) => k (.exit 2) { n := 94, t := [(2, .junk), (3, (.own 0)), (4, (.int .i64 x4)), (5, (.int .i64 x5)), (6, (.bool x6)), (7, (.int .i64 x7))], h := [.row (.ints .i64 r)] }))) none) x4 x5 x6 x7 s_.1 s_.2 (L.FnAllMoveOk_run13 x4 x5 x6 x7 n) (fun d => some ((Sum.inl d))) (fun d => some ((Sum.inr d))) none).symm
noncomputable def L.FnAllMoveOk_step10 {α : Type} (x4 : Int) (x5 : Int) (x6 : Bool) (x7 : Int) (r0 : List Int) (next_ : Int × (List Int) → α) (out0_ : Bool × (List Int) → α) (out1_ : List Int → α) (fail_ : α) : α :=
  (bif decide (x7 < (↑r0.length : Int)) then (optC (L.FnAllMoveOk_run13 x4 x5 x6 x7 FUEL (0, r0)) (fun qy_8 => (sumC qy_8 (fun (qy_8 : Bool × (List Int)) => (out0_ (qy_8.1, qy_8.2))) (fun (qy_8 : List Int) => (next_ (IntKind.i64.wrap (x7 + 1), qy_8))))) fail_) else (out1_ r0))
theorem L.FnAllMoveOk_step10_nat {α γ : Type} (g : α → γ) (x4 : Int) (x5 : Int) (x6 : Bool) (x7 : Int) (r0 : List Int) (next_ : Int × (List Int) → α) (out0_ : Bool × (List Int) → α) (out1_ : List Int → α) (fail_ : α) : g (L.FnAllMoveOk_step10 x4 x5 x6 x7 r0 next_ out0_ out1_ fail_) = L.FnAllMoveOk_step10 x4 x5 x6 x7 r0 (fun s => g (next_ s)) (fun d => g (out0_ d)) (fun d => g (out1_ d)) (g fail_) := by
  unfold L.FnAllMoveOk_step10; simp only [apply_cnd g, apply_optC g, apply_sumC g]
noncomputable def L.FnAllMoveOk_run10 (x4 : Int) (x5 : Int) (x6 : Bool) : Nat → Int × (List Int) → Option ((Bool × (List Int)) ⊕ (List Int))
  | 0, _ => none
  | n + 1, s_ => L.FnAllMoveOk_step10 x4 x5 x6 s_.1 s_.2 (L.FnAllMoveOk_run10 x4 x5 x6 n) (fun d => some ((Sum.inl d))) (fun d => some ((Sum.inr d))) none
theorem L.FnAllMoveOk_L10_run (x4 : Int) (x5 : Int) (x6 : Bool) (n : Nat) (s_ : Int × (List Int)) (k : X → St → R) : L.FnAllMoveOk_L10 n { n := 94, t := [(3, (.own 0)), (4, (.int .i64 x4)), (5, (.int .i64 x5)), (6, (.bool x6)), (7, (.int .i64 s_.1))], h := [.row (.ints .i64 s_.2)] } k = optC (L.FnAllMoveOk_run10 x4 x5 x6 n s_) (fun (r : (Bool × (List Int)) ⊕ (List Int)) => (sumC r (fun (r : Bool × (List Int)) => k (.ret) { n := 94, t := [(2, (.bool r.1)), (3, (.own 0)), (4, (.int .i64 x4)), (5, (.int .i64 x5)), (6, (.bool x6))], h := [.row (.ints .i64 r.2)] }) (fun (r : List Int) => k (.exit 0) { n := 94, t := [(2, .junk), (3, (.own 0)), (4, (.int .i64 x4)), (5, (.int .i64 x5)), (6, (.bool x6))], h := [.row (.ints .i64 r)] }))) none := by
  induction n generalizing s_ with
  | zero => rfl
  | succ n ih =>
    have hu : L.FnAllMoveOk_L10 (n + 1) { n := 94, t := [(3, (.own 0)), (4, (.int .i64 x4)), (5, (.int .i64 x5)), (6, (.bool x6)), (7, (.int .i64 s_.1))], h := [.row (.ints .i64 s_.2)] } k = L.FnAllMoveOk_step10 x4 x5 x6 s_.1 s_.2 (fun s_ => L.FnAllMoveOk_L10 n { n := 94, t := [(3, (.own 0)), (4, (.int .i64 x4)), (5, (.int .i64 x5)), (6, (.bool x6)), (7, (.int .i64 s_.1))], h := [.row (.ints .i64 s_.2)] } k) (fun d => k (.ret) { n := 94, t := [(2, (.bool d.1)), (3, (.own 0)), (4, (.int .i64 x4)), (5, (.int .i64 x5)), (6, (.bool x6))], h := [.row (.ints .i64 d.2)] }) (fun d => k (.exit 0) { n := 94, t := [(2, .junk), (3, (.own 0)), (4, (.int .i64 x4)), (5, (.int .i64 x5)), (6, (.bool x6))], h := [.row (.ints .i64 d)] }) none := by
      refine Eq.trans (show L.FnAllMoveOk_L10 (n + 1) { n := 94, t := [(3, (.own 0)), (4, (.int .i64 x4)), (5, (.int .i64 x5)), (6, (.bool x6)), (7, (.int .i64 s_.1))], h := [.row (.ints .i64 s_.2)] } k = (bif decide (s_.1 < (↑s_.2.length : Int)) then (L.FnAllMoveOk_L13 FUEL { n := 94, t := [(3, (.own 0)), (4, (.int .i64 x4)), (5, (.int .i64 x5)), (6, (.bool x6)), (7, (.int .i64 s_.1)), (8, (.int .i64 0))], h := [.row (.ints .i64 s_.2)] } (L.FnAllMoveOk_k13 ((fun σ => L.FnAllMoveOk_L10 n σ k), k))) else (k (.exit 0) { n := 94, t := [(2, .junk), (3, (.own 0)), (4, (.int .i64 x4)), (5, (.int .i64 x5)), (6, (.bool x6))], h := [.row (.ints .i64 s_.2)] })) by kernel_rfl) ?_
      refine cnd_congr ?_ ?_
      · refine (L.FnAllMoveOk_L13_run x4 x5 x6 s_.1 FUEL (0, s_.2) (L.FnAllMoveOk_k13 ((fun σ => L.FnAllMoveOk_L10 n σ k), k))).trans (optC_congr (fun qy_8 => ?_))
        rcases qy_8 with qy_8 | qy_8
        · kernel_rfl
        · kernel_rfl
      · kernel_rfl
    have hs : (fun s_ : Int × (List Int) => L.FnAllMoveOk_L10 n { n := 94, t := [(3, (.own 0)), (4, (.int .i64 x4)), (5, (.int .i64 x5)), (6, (.bool x6)), (7, (.int .i64 s_.1))], h := [.row (.ints .i64 s_.2)] } k) = fun s_ => optC (L.FnAllMoveOk_run10 x4 x5 x6 n s_) (fun (r : (Bool × (List Int)) ⊕ (List Int)) => (sumC r (fun (r : Bool × (List Int)) => k (.ret) { n := 94, t := [(2, (.bool r.1)), (3, (.own 0)), (4, (.int .i64 x4)), (5, (.int .i64 x5)), (6, (.bool x6))], h := [.row (.ints .i64 r.2)] }) (fun (r : List Int) => k (.exit 0) { n := 94, t := [(2, .junk), (3, (.own 0)), (4, (.int .i64 x4)), (5, (.int .i64 x5)), (6, (.bool x6))], h := [.row (.ints .i64 r)] }))) none := funext ih
    rw [hu, hs]
    exact (L.FnAllMoveOk_step10_nat (fun o => optC o (fun (r : (Bool × (List Int)) ⊕ (List Int)) => (sumC r (fun (r : Bool × (List Int)) => k (.ret) { n := 94, t := [(2, (.bool r.1)), (3, (.own 0)), (4, (.int .i64 x4)), (5, (.int .i64 x5)), (6, (.bool x6))], h := [.row (.ints .i64 r.2)] }) (fun (r : List Int) => k (.exit 0) { n := 94, t := [(2, .junk), (3, (.own 0)), (4, (.int .i64 x4)), (5, (.int .i64 x5)), (6, (.bool x6))], h := [.row (.ints .i64 r)] }))) none) x4 x5 x6 s_.1 s_.2 (L.FnAllMoveOk_run10 x4 x5 x6 n) (fun d => some ((Sum.inl d))) (fun d => some ((Sum.inr d))) none).symm
noncomputable def L.FnAllMoveOk_tree {α : Type} (code : List Int) (leaf0_ : Bool → α) (fail_ : α) : α :=
  (bif decide ((↑code.length : Int) > 1048576) then (leaf0_ true) else (optC (S.DrawAllMoveOk_t code) (fun c_1 => (optC (I.AllMoveOk_t c_1.snd.snd c_1.fst c_1.snd.fst) (fun c_2 => (optC (S.AllMoveOk_t c_1.snd.snd c_1.fst c_1.snd.fst) (fun c_3 => (bif !c_2 == c_3 then (leaf0_ false) else (optC (I.SeenBy_t c_1.snd.snd c_1.fst) (fun c_4 => (bif decide (c_4 < 0) then (bif !c_2 then (optC (L.alive_t) (fun c_5 => (leaf0_ c_5)) fail_) else (leaf0_ false)) else (optC (L.FnAllMoveOk_run10 c_1.fst c_1.snd.fst c_2 FUEL (0, c_1.snd.snd)) (fun qy_9 => (sumC qy_9 (fun (qy_9 : Bool × (List Int)) => (leaf0_ qy_9.1)) (fun (qy_9 : List Int) => (bif c_2 then (optC (I.AllMoveOk_t qy_9 c_1.snd.fst c_1.fst) (fun c_10 => (bif !c_10 then (leaf0_ false) else (optC (L.sizeOf_t c_1.fst) (fun c_11 => (optC (L.sizeOf_t c_1.snd.fst) (fun c_12 => (bif !c_11 == c_12 then (leaf0_ false) else (optC (I.SeenBy_t qy_9 c_1.fst) (fun c_13 => (bif !bits BinOp.andNot IntKind.i64 c_1.snd.fst c_13 == 0 then (leaf0_ false) else (optC (I.AllMoveOk_t qy_9 c_1.fst c_1.fst) (fun c_14 => (bif c_14 then (optC (L.alive_t) (fun c_15 => (leaf0_ c_15)) fail_) else (leaf0_ false))) fail_))) fail_))) fail_)) fail_))) fail_) else (optC (I.AllMoveOk_t qy_9 c_1.fst c_1.fst) (fun c_16 => (bif c_16 then (optC (L.alive_t) (fun c_17 => (leaf0_ c_17)) fail_) else (leaf0_ false))) fail_))))) fail_))) fail_))) fail_)) fail_)) fail_))
theorem L.FnAllMoveOk_tree_nat {α γ : Type} (g : α → γ) (code : List Int) (leaf0_ : Bool → α) (fail_ : α) : g (L.FnAllMoveOk_tree code leaf0_ fail_) = L.FnAllMoveOk_tree code (fun d => g (leaf0_ d)) (g fail_) := by
  unfold L.FnAllMoveOk_tree; simp only [apply_cnd g, apply_optC g, apply_sumC g]
noncomputable def L.FnAllMoveOk_t (code : List Int) : Option (Bool) := L.FnAllMoveOk_tree code (fun d => some d) none
theorem L.FnAllMoveOk_den (code : List Int) (κ : V → List E → R) : L.FnAllMoveOk_F [.ro true (.ints .u8 code)] [] κ = optC (L.FnAllMoveOk_t code) (fun (r : Bool) => κ (.bool r) []) none := by
  have hu : L.FnAllMoveOk_F [.ro true (.ints .u8 code)] [] κ = L.FnAllMoveOk_tree code (fun d => κ (.bool d) []) none := by
    refine Eq.trans (show L.FnAllMoveOk_F [.ro true (.ints .u8 code)] [] κ = (bif decide ((↑code.length : Int) > 1048576) then (κ (.bool true) []) else (optC (S.DrawAllMoveOk_t code) (fun c_1 => (optC (I.AllMoveOk_t c_1.snd.snd c_1.fst c_1.snd.fst) (fun c_2 => (optC (S.AllMoveOk_t c_1.snd.snd c_1.fst c_1.snd.fst) (fun c_3 => (bif !c_2 == c_3 then (κ (.bool false) []) else (optC (I.SeenBy_t c_1.snd.snd c_1.fst) (fun c_4 => (bif decide (c_4 < 0) then (bif !c_2 then (optC (L.alive_t) (fun c_5 => (κ (.bool c_5) [])) none) else (κ (.bool false) [])) else (L.FnAllMoveOk_L10 FUEL { n := 94, t := [(3, (.own 0)), (4, (.int .i64 c_1.fst)), (5, (.int .i64 c_1.snd.fst)), (6, (.bool c_2)), (7, (.int .i64 0))], h := [.row (.ints .i64 c_1.snd.snd)] } (L.FnAllMoveOk_k10 κ)))) none))) none)) none)) none)) by kernel_rfl) ?_
    refine cnd_congr ?_ ?_
    · kernel_rfl
    · refine optC_congr (fun c_1 => ?_)
      refine optC_congr (fun c_2 => ?_)
      refine optC_congr (fun c_3 => ?_)
      refine cnd_congr ?_ ?_
      · kernel_rfl
      · refine optC_congr (fun c_4 => ?_)
        refine cnd_congr ?_ ?_
        · kernel_rfl
        · refine (L.FnAllMoveOk_L10_run c_1.fst c_1.snd.fst c_2 FUEL (0, c_1.snd.snd) (L.FnAllMoveOk_k10 κ)).trans (optC_congr (fun qy_9 => ?_))
          rcases qy_9 with qy_9 | qy_9
          · kernel_rfl
          · kernel_rfl
  rw [hu]
  exact (L.FnAllMoveOk_tree_nat (fun o => optC o (fun (r : Bool) => κ (.bool r) []) none) code (fun d => some d) none).symm
noncomputable def L.FnAllMoveOk_s : D.Spec where
  keep := true
  pure := true
  ds := [.int .u8]
  sp := fun args h κ => match args, h with
    | [.ro true (.ints .u8 code)], [] => optC (L.FnAllMoveOk_t code) (fun (r : Bool) => κ (.bool r) []) none
    | _, _ => none
theorem L.FnAllMoveOk_ok : SpecOk Try.prog 3 L.FnAllMoveOk_s := by
  refine SpecOk.of TDok mixed (T := L.FnAllMoveOk_T) ?_ (ann := L.FnAllMoveOk_ann) Try.func3 rfl (by decide +kernel) ?_ ?_ ?_
  · intro p hp
    simp only [L.FnAllMoveOk_T, List.mem_cons, List.not_mem_nil, or_false] at hp
    rcases hp with rfl | rfl | rfl | rfl | rfl | rfl | rfl
    · exact S.DrawAllMoveOk_ok
    · exact I.AllMoveOk_ok
    · exact S.AllMoveOk_ok
    · exact I.SeenBy_ok
    · exact L.alive_ok
    · exact I.GuardMoved_ok
    · exact L.sizeOf_ok
  · intro args h κ r hh
    simp only [L.FnAllMoveOk_s] at hh
    split at hh
    · exact (L.FnAllMoveOk_den _ κ).trans hh
    · cases hh
  · intro args h κ r hh
    simp only [L.FnAllMoveOk_s] at hh ⊢
    split at hh
    · exact optC_law2 (F := fun (r : Bool) κ => κ (.bool r) []) (fun b κ r hb => ⟨_, _, hb, fun _ => rfl⟩) hh
    · cases hh
  · intro _ args h κ r hh
    simp only [L.FnAllMoveOk_s] at hh
    split at hh
    · exact ⟨rfl, fun _ => rfl⟩
    · cases hh

-- loop.example/guardsonnets/laws.toIntS
noncomputable def L.toIntS_T : List (Nat × D.Spec) := []
def L.toIntS_ann : Nat → List Nat × List Nat
  | 3 => ([0, 3, 4], [3])
  | _ => ([], [])
noncomputable def L.toIntS_F (args : List V) (h : List E) (κ : V → List E → R) : R := funC TD (tableK L.toIntS_T) L.toIntS_ann (drawOk (tableP L.toIntS_T)) FUEL Try.f18 args h κ
noncomputable def L.toIntS_L3 (n : Nat) (σ : St) (k : X → St → R) : R := iterC 0 (fun σ k => denC TD (tableK L.toIntS_T) L.toIntS_ann (drawOk (tableP L.toIntS_T)) 0 FUEL ((findLoop 3 (Try.f18.body.getD .skip)).getD .skip) σ k) [0, 3, 4] [3] n σ k
noncomputable def L.toIntS_k3 (κ : V → List E → R) : X → St → R := (afterC TD (tableK L.toIntS_T) L.toIntS_ann (drawOk (tableP L.toIntS_T)) 0 FUEL 3 (Try.f18.body.getD .skip) (finC TD 0 Try.f18 κ)).getD (fun _ _ => none)
noncomputable def L.toIntS_step3 {α : Type} (x0 : List Int) (x4 : Int) (r0 : List Int) (next_ : Int × (List Int) → α) (out0_ : List Int → α) (fail_ : α) : α :=
  (bif decide (x4 < (↑x0.length : Int)) then (bif decide (0 ≤ x4) && decide (x4 < (↑x0.length : Int)) then (bif decide (0 ≤ x4) && decide (x4 < (↑r0.length : Int)) then (bif decide (x4.toNat < r0.length) then (next_ (IntKind.i64.wrap (x4 + 1), r0.set x4.toNat (eli x0 x4.toNat))) else fail_) else fail_) else fail_) else (out0_ r0))
theorem L.toIntS_step3_nat {α γ : Type} (g : α → γ) (x0 : List Int) (x4 : Int) (r0 : List Int) (next_ : Int × (List Int) → α) (out0_ : List Int → α) (fail_ : α) : g (L.toIntS_step3 x0 x4 r0 next_ out0_ fail_) = L.toIntS_step3 x0 x4 r0 (fun s => g (next_ s)) (fun d => g (out0_ d)) (g fail_) := by
  unfold L.toIntS_step3; simp only [apply_cnd g, apply_optC g, apply_sumC g]
noncomputable def L.toIntS_run3 (x0 : List Int) : Nat → Int × (List Int) → Option (List Int)
  | 0, _ => none
  | n + 1, s_ => L.toIntS_step3 x0 s_.1 s_.2 (L.toIntS_run3 x0 n) (fun d => some d) none
theorem L.toIntS_L3_run (x0 : List Int) (n : Nat) (s_ : Int × (List Int)) (k : X → St → R) : L.toIntS_L3 n { n := 22, t := [(0, (.ro false (.ints .i64 x0))), (3, (.own 0)), (4, (.int .i64 s_.1))], h := [.row (.ints .i64 s_.2)] } k = optC (L.toIntS_run3 x0 n s_) (fun (r : List Int) => k (.exit 0) { n := 22, t := [(3, (.own 0))], h := [.row (.ints .i64 r)] }) none := by
  induction n generalizing s_ with
  | zero => rfl
  | succ n ih =>
    have hu : L.toIntS_L3 (n + 1) { n := 22, t := [(0, (.ro false (.ints .i64 x0))), (3, (.own 0)), (4, (.int .i64 s_.1))], h := [.row (.ints .i64 s_.2)] } k = L.toIntS_step3 x0 s_.1 s_.2 (fun s_ => L.toIntS_L3 n { n := 22, t := [(0, (.ro false (.ints .i64 x0))), (3, (.own 0)), (4, (.int .i64 s_.1))], h := [.row (.ints .i64 s_.2)] } k) (fun d => k (.exit 0) { n := 22, t := [(3, (.own 0))], h := [.row (.ints .i64 d)] }) none := by
      kernel_rfl
    have hs : (fun s_ : Int × (List Int) => L.toIntS_L3 n { n := 22, t := [(0, (.ro false (.ints .i64 x0))), (3, (.own 0)), (4, (.int .i64 s_.1))], h := [.row (.ints .i64 s_.2)] } k) = fun s_ => optC (L.toIntS_run3 x0 n s_) (fun (r : List Int) => k (.exit 0) { n := 22, t := [(3, (.own 0))], h := [.row (.ints .i64 r)] }) none := funext ih
    rw [hu, hs]
    exact (L.toIntS_step3_nat (fun o => optC o (fun (r : List Int) => k (.exit 0) { n := 22, t := [(3, (.own 0))], h := [.row (.ints .i64 r)] }) none) x0 s_.1 s_.2 (L.toIntS_run3 x0 n) (fun d => some d) none).symm
noncomputable def L.toIntS_tree {α : Type} (a : List Int) (leaf0_ : List Int → α) (fail_ : α) : α :=
  (bif small (↑a.length : Int).toNat && true then (optC (L.toIntS_run3 a FUEL (0, List.replicate (↑a.length : Int).toNat 0)) (fun qy_1 => (leaf0_ qy_1)) fail_) else fail_)
theorem L.toIntS_tree_nat {α γ : Type} (g : α → γ) (a : List Int) (leaf0_ : List Int → α) (fail_ : α) : g (L.toIntS_tree a leaf0_ fail_) = L.toIntS_tree a (fun d => g (leaf0_ d)) (g fail_) := by
  unfold L.toIntS_tree; simp only [apply_cnd g, apply_optC g, apply_sumC g]
noncomputable def L.toIntS_t (a : List Int) : Option (List Int) := L.toIntS_tree a (fun d => some d) none
theorem L.toIntS_den (a : List Int) (κ : V → List E → R) : L.toIntS_F [.ro false (.ints .i64 a)] [] κ = optC (L.toIntS_t a) (fun (r : List Int) => κ (.own 0) [.row (.ints .i64 r)]) none := by
  have hu : L.toIntS_F [.ro false (.ints .i64 a)] [] κ = L.toIntS_tree a (fun d => κ (.own 0) [.row (.ints .i64 d)]) none := by
    refine Eq.trans (show L.toIntS_F [.ro false (.ints .i64 a)] [] κ = (bif small (↑a.length : Int).toNat && true then (L.toIntS_L3 FUEL { n := 22, t := [(0, (.ro false (.ints .i64 a))), (3, (.own 0)), (4, (.int .i64 0))], h := [.row (.ints .i64 (List.replicate (↑a.length : Int).toNat 0))] } (L.toIntS_k3 κ)) else none) by kernel_rfl) ?_
    refine cnd_congr ?_ ?_
    · refine (L.toIntS_L3_run a FUEL (0, List.replicate (↑a.length : Int).toNat 0) (L.toIntS_k3 κ)).trans (optC_congr (fun qy_1 => ?_))
      kernel_rfl
    · kernel_rfl
  rw [hu]
  exact (L.toIntS_tree_nat (fun o => optC o (fun (r : List Int) => κ (.own 0) [.row (.ints .i64 r)]) none) a (fun d => some d) none).symm
noncomputable def L.toIntS_s : D.Spec where
  keep := false
  pure := false
  ds := [.int .i64]
  sp := fun args h κ => match args, h with
    | [.ro false (.ints .i64 a)], [] => optC (L.toIntS_t a) (fun (r : List Int) => κ (.own 0) [.row (.ints .i64 r)]) none
    | _, _ => none
theorem L.toIntS_ok : SpecOk Try.prog 18 L.toIntS_s := by
  refine SpecOk.of TDok mixed (T := L.toIntS_T) ?_ (ann := L.toIntS_ann) Try.func18 rfl (by decide +kernel) ?_ ?_ ?_
  · intro p hp; cases hp
  · intro args h κ r hh
    simp only [L.toIntS_s] at hh
    split at hh
    · exact (L.toIntS_den _ κ).trans hh
    · cases hh
  · intro args h κ r hh
    simp only [L.toIntS_s] at hh ⊢
    split at hh
    · exact optC_law2 (F := fun (r : List Int) κ => κ (.own 0) [.row (.ints .i64 r)]) (fun b κ r hb => ⟨_, _, hb, fun _ => rfl⟩) hh
    · cases hh
  · intro hh; cases hh

-- loop.example/guardsonnets/laws.eqIntS
noncomputable def L.eqIntS_T : List (Nat × D.Spec) := []
def L.eqIntS_ann : Nat → List Nat × List Nat
  | 4 => ([0, 1, 5], [4])
  | _ => ([], [])
noncomputable def L.eqIntS_F (args : List V) (h : List E) (κ : V → List E → R) : R := funC TD (tableK L.eqIntS_T) L.eqIntS_ann (drawOk (tableP L.eqIntS_T)) FUEL Try.f19 args h κ
noncomputable def L.eqIntS_L4 (n : Nat) (σ : St) (k : X → St → R) : R := iterC 0 (fun σ k => denC TD (tableK L.eqIntS_T) L.eqIntS_ann (drawOk (tableP L.eqIntS_T)) 0 FUEL ((findLoop 4 (Try.f19.body.getD .skip)).getD .skip) σ k) [0, 1, 5] [4] n σ k
noncomputable def L.eqIntS_k4 (κ : V → List E → R) : X → St → R := (afterC TD (tableK L.eqIntS_T) L.eqIntS_ann (drawOk (tableP L.eqIntS_T)) 0 FUEL 4 (Try.f19.body.getD .skip) (finC TD 0 Try.f19 κ)).getD (fun _ _ => none)
noncomputable def L.eqIntS_step4 {α : Type} (x0 : List Int) (x1 : List Int) (x5 : Int) (next_ : Int → α) (out0_ : Bool → α) (out1_ : Unit → α) (fail_ : α) : α :=
  (bif decide (x5 < (↑x0.length : Int)) then (bif decide (0 ≤ x5) && decide (x5 < (↑x0.length : Int)) then (bif decide (0 ≤ x5) && decide (x5 < (↑x1.length : Int)) then (bif !eli x0 x5.toNat == eli x1 x5.toNat then (out0_ false) else (next_ (IntKind.i64.wrap (x5 + 1)))) else fail_) else fail_) else (out1_ ()))
theorem L.eqIntS_step4_nat {α γ : Type} (g : α → γ) (x0 : List Int) (x1 : List Int) (x5 : Int) (next_ : Int → α) (out0_ : Bool → α) (out1_ : Unit → α) (fail_ : α) : g (L.eqIntS_step4 x0 x1 x5 next_ out0_ out1_ fail_) = L.eqIntS_step4 x0 x1 x5 (fun s => g (next_ s)) (fun d => g (out0_ d)) (fun d => g (out1_ d)) (g fail_) := by
  unfold L.eqIntS_step4; simp only [apply_cnd g, apply_optC g, apply_sumC g]
noncomputable def L.eqIntS_run4 (x0 : List Int) (x1 : List Int) : Nat → Int → Option ((Bool) ⊕ (Unit))
  | 0, _ => none
  | n + 1, s_ => L.eqIntS_step4 x0 x1 s_ (L.eqIntS_run4 x0 x1 n) (fun d => some ((Sum.inl d))) (fun d => some ((Sum.inr d))) none
theorem L.eqIntS_L4_run (x0 : List Int) (x1 : List Int) (n : Nat) (s_ : Int) (k : X → St → R) : L.eqIntS_L4 n { n := 26, t := [(0, (.ro false (.ints .i64 x0))), (1, (.ro false (.ints .i64 x1))), (5, (.int .i64 s_))], h := [] } k = optC (L.eqIntS_run4 x0 x1 n s_) (fun (r : (Bool) ⊕ (Unit)) => (sumC r (fun (r : Bool) => k (.ret) { n := 26, t := [(4, (.bool r))], h := [] }) (fun (r : Unit) => k (.exit 0) { n := 26, t := [(4, .junk)], h := [] }))) none := by
  induction n generalizing s_ with
  | zero => rfl
  | succ n ih =>
    have hu : L.eqIntS_L4 (n + 1) { n := 26, t := [(0, (.ro false (.ints .i64 x0))), (1, (.ro false (.ints .i64 x1))), (5, (.int .i64 s_))], h := [] } k = L.eqIntS_step4 x0 x1 s_ (fun s_ => L.eqIntS_L4 n { n := 26, t := [(0, (.ro false (.ints .i64 x0))), (1, (.ro false (.ints .i64 x1))), (5, (.int .i64 s_))], h := [] } k) (fun d => k (.ret) { n := 26, t := [(4, (.bool d))], h := [] }) (fun d => k (.exit 0) { n := 26, t := [(4, .junk)], h := [] }) none := by
      kernel_rfl
    have hs : (fun s_ : Int => L.eqIntS_L4 n { n := 26, t := [(0, (.ro false (.ints .i64 x0))), (1, (.ro false (.ints .i64 x1))), (5, (.int .i64 s_))], h := [] } k) = fun s_ => optC (L.eqIntS_run4 x0 x1 n s_) (fun (r : (Bool) ⊕ (Unit)) => (sumC r (fun (r : Bool) => k (.ret) { n := 26, t := [(4, (.bool r))], h := [] }) (fun (r : Unit) => k (.exit 0) { n := 26, t := [(4, .junk)], h := [] }))) none := funext ih
    rw [hu, hs]
    exact (L.eqIntS_step4_nat (fun o => optC o (fun (r : (Bool) ⊕ (Unit)) => (sumC r (fun (r : Bool) => k (.ret) { n := 26, t := [(4, (.bool r))], h := [] }) (fun (r : Unit) => k (.exit 0) { n := 26, t := [(4, .junk)], h := [] }))) none) x0 x1 s_ (L.eqIntS_run4 x0 x1 n) (fun d => some ((Sum.inl d))) (fun d => some ((Sum.inr d))) none).symm
noncomputable def L.eqIntS_tree {α : Type} (a : List Int) (b_ : List Int) (leaf0_ : Bool → α) (fail_ : α) : α :=
  (bif !(↑a.length : Int) == (↑b_.length : Int) then (leaf0_ false) else (optC (L.eqIntS_run4 a b_ FUEL 0) (fun qy_1 => (sumC qy_1 (fun (qy_1 : Bool) => (leaf0_ qy_1)) (fun (qy_1 : Unit) => (leaf0_ true)))) fail_))
theorem L.eqIntS_tree_nat {α γ : Type} (g : α → γ) (a : List Int) (b_ : List Int) (leaf0_ : Bool → α) (fail_ : α) : g (L.eqIntS_tree a b_ leaf0_ fail_) = L.eqIntS_tree a b_ (fun d => g (leaf0_ d)) (g fail_) := by
  unfold L.eqIntS_tree; simp only [apply_cnd g, apply_optC g, apply_sumC g]
noncomputable def L.eqIntS_t (a : List Int) (b_ : List Int) : Option (Bool) := L.eqIntS_tree a b_ (fun d => some d) none
theorem L.eqIntS_den (a : List Int) (b_ : List Int) (κ : V → List E → R) : L.eqIntS_F [.ro false (.ints .i64 a), .ro false (.ints .i64 b_)] [] κ = optC (L.eqIntS_t a b_) (fun (r : Bool) => κ (.bool r) []) none := by
  have hu : L.eqIntS_F [.ro false (.ints .i64 a), .ro false (.ints .i64 b_)] [] κ = L.eqIntS_tree a b_ (fun d => κ (.bool d) []) none := by
    refine Eq.trans (show L.eqIntS_F [.ro false (.ints .i64 a), .ro false (.ints .i64 b_)] [] κ = (bif !(↑a.length : Int) == (↑b_.length : Int) then (κ (.bool false) []) else (L.eqIntS_L4 FUEL { n := 26, t := [(0, (.ro false (.ints .i64 a))), (1, (.ro false (.ints .i64 b_))), (5, (.int .i64 0))], h := [] } (L.eqIntS_k4 κ))) by kernel_rfl) ?_
    refine cnd_congr ?_ ?_
    · kernel_rfl
    · refine (L.eqIntS_L4_run a b_ FUEL 0 (L.eqIntS_k4 κ)).trans (optC_congr (fun qy_1 => ?_))
      rcases qy_1 with qy_1 | qy_1
      · kernel_rfl
      · kernel_rfl
  rw [hu]
  exact (L.eqIntS_tree_nat (fun o => optC o (fun (r : Bool) => κ (.bool r) []) none) a b_ (fun d => some d) none).symm
noncomputable def L.eqIntS_s : D.Spec where
  keep := false
  pure := true
  ds := [.int .i64, .int .i64]
  sp := fun args h κ => match args, h with
    | [.ro false (.ints .i64 a), .ro false (.ints .i64 b_)], [] => optC (L.eqIntS_t a b_) (fun (r : Bool) => κ (.bool r) []) none
    | _, _ => none
theorem L.eqIntS_ok : SpecOk Try.prog 19 L.eqIntS_s := by
  refine SpecOk.of TDok mixed (T := L.eqIntS_T) ?_ (ann := L.eqIntS_ann) Try.func19 rfl (by decide +kernel) ?_ ?_ ?_
  · intro p hp; cases hp
  · intro args h κ r hh
    simp only [L.eqIntS_s] at hh
    split at hh
    · exact (L.eqIntS_den _ _ κ).trans hh
    · cases hh
  · intro args h κ r hh
    simp only [L.eqIntS_s] at hh ⊢
    split at hh
    · exact optC_law2 (F := fun (r : Bool) κ => κ (.bool r) []) (fun b κ r hb => ⟨_, _, hb, fun _ => rfl⟩) hh
    · cases hh
  · intro _ args h κ r hh
    simp only [L.eqIntS_s] at hh
    split at hh
    · exact ⟨rfl, fun _ => rfl⟩
    · cases hh

-- loop.example/guardsonnets/laws.FnExactAllMoveOk
noncomputable def L.FnExactAllMoveOk_T : List (Nat × D.Spec) := [(18, L.toIntS_s), (13, S.AllMoveOk_s), (12, I.AllMoveOk_s), (19, L.eqIntS_s)]
def L.FnExactAllMoveOk_ann : Nat → List Nat × List Nat
  | _ => ([], [])
noncomputable def L.FnExactAllMoveOk_F (args : List V) (h : List E) (κ : V → List E → R) : R := funC TD (tableK L.FnExactAllMoveOk_T) L.FnExactAllMoveOk_ann (drawOk (tableP L.FnExactAllMoveOk_T)) FUEL Try.f4 args h κ
noncomputable def L.FnExactAllMoveOk_tree {α : Type} (aNet : List Int) (aFrom : Int) (aTo : Int) (leaf0_ : Bool → α) (fail_ : α) : α :=
  (bif decide ((↑aNet.length : Int) > 1048576) then (leaf0_ true) else (optC (L.toIntS_t aNet) (fun c_1 => (optC (S.AllMoveOk_t c_1 aFrom aTo) (fun c_2 => (optC (L.toIntS_t aNet) (fun c_3 => (optC (I.AllMoveOk_t c_3 aFrom aTo) (fun c_4 => (bif !c_4 == c_2 then (leaf0_ false) else (optC (L.toIntS_t aNet) (fun c_5 => (optC (L.eqIntS_t c_3 c_5) (fun c_6 => (bif !c_6 then (leaf0_ false) else (leaf0_ true))) fail_)) fail_))) fail_)) fail_)) fail_)) fail_))
theorem L.FnExactAllMoveOk_tree_nat {α γ : Type} (g : α → γ) (aNet : List Int) (aFrom : Int) (aTo : Int) (leaf0_ : Bool → α) (fail_ : α) : g (L.FnExactAllMoveOk_tree aNet aFrom aTo leaf0_ fail_) = L.FnExactAllMoveOk_tree aNet aFrom aTo (fun d => g (leaf0_ d)) (g fail_) := by
  unfold L.FnExactAllMoveOk_tree; simp only [apply_cnd g, apply_optC g, apply_sumC g]
noncomputable def L.FnExactAllMoveOk_t (aNet : List Int) (aFrom : Int) (aTo : Int) : Option (Bool) := L.FnExactAllMoveOk_tree aNet aFrom aTo (fun d => some d) none
theorem L.FnExactAllMoveOk_den (aNet : List Int) (aFrom : Int) (aTo : Int) (κ : V → List E → R) : L.FnExactAllMoveOk_F [.ro true (.ints .i64 aNet), .int .i64 aFrom, .int .i64 aTo] [] κ = optC (L.FnExactAllMoveOk_t aNet aFrom aTo) (fun (r : Bool) => κ (.bool r) []) none := by
  have hu : L.FnExactAllMoveOk_F [.ro true (.ints .i64 aNet), .int .i64 aFrom, .int .i64 aTo] [] κ = L.FnExactAllMoveOk_tree aNet aFrom aTo (fun d => κ (.bool d) []) none := by
    kernel_rfl
  rw [hu]
  exact (L.FnExactAllMoveOk_tree_nat (fun o => optC o (fun (r : Bool) => κ (.bool r) []) none) aNet aFrom aTo (fun d => some d) none).symm
noncomputable def L.FnExactAllMoveOk_s : D.Spec where
  keep := true
  pure := true
  ds := [.int .i64, .invalid, .invalid]
  sp := fun args h κ => match args, h with
    | [.ro true (.ints .i64 aNet), .int .i64 aFrom, .int .i64 aTo], [] => optC (L.FnExactAllMoveOk_t aNet aFrom aTo) (fun (r : Bool) => κ (.bool r) []) none
    | _, _ => none
theorem L.FnExactAllMoveOk_ok : SpecOk Try.prog 4 L.FnExactAllMoveOk_s := by
  refine SpecOk.of TDok mixed (T := L.FnExactAllMoveOk_T) ?_ (ann := L.FnExactAllMoveOk_ann) Try.func4 rfl (by decide +kernel) ?_ ?_ ?_
  · intro p hp
    simp only [L.FnExactAllMoveOk_T, List.mem_cons, List.not_mem_nil, or_false] at hp
    rcases hp with rfl | rfl | rfl | rfl
    · exact L.toIntS_ok
    · exact S.AllMoveOk_ok
    · exact I.AllMoveOk_ok
    · exact L.eqIntS_ok
  · intro args h κ r hh
    simp only [L.FnExactAllMoveOk_s] at hh
    split at hh
    · exact (L.FnExactAllMoveOk_den _ _ _ κ).trans hh
    · cases hh
  · intro args h κ r hh
    simp only [L.FnExactAllMoveOk_s] at hh ⊢
    split at hh
    · exact optC_law2 (F := fun (r : Bool) κ => κ (.bool r) []) (fun b κ r hb => ⟨_, _, hb, fun _ => rfl⟩) hh
    · cases hh
  · intro _ args h κ r hh
    simp only [L.FnExactAllMoveOk_s] at hh
    split at hh
    · exact ⟨rfl, fun _ => rfl⟩
    · cases hh

-- loop.example/guardsonnets/spec.l1Near
noncomputable def S.l1Near_T : List (Nat × D.Spec) := []
def S.l1Near_ann : Nat → List Nat × List Nat
  | 3 => ([0, 1, 5, 6], [5])
  | _ => ([], [])
noncomputable def S.l1Near_F (args : List V) (h : List E) (κ : V → List E → R) : R := funC TD (tableK S.l1Near_T) S.l1Near_ann (drawOk (tableP S.l1Near_T)) FUEL Try.f86 args h κ
noncomputable def S.l1Near_L3 (n : Nat) (σ : St) (k : X → St → R) : R := iterC 0 (fun σ k => denC TD (tableK S.l1Near_T) S.l1Near_ann (drawOk (tableP S.l1Near_T)) 0 FUEL ((findLoop 3 (Try.f86.body.getD .skip)).getD .skip) σ k) [0, 1, 5, 6] [5] n σ k
noncomputable def S.l1Near_k3 (κ : V → List E → R) : X → St → R := (afterC TD (tableK S.l1Near_T) S.l1Near_ann (drawOk (tableP S.l1Near_T)) 0 FUEL 3 (Try.f86.body.getD .skip) (finC TD 0 Try.f86 κ)).getD (fun _ _ => none)
noncomputable def S.l1Near_step3 {α : Type} (x0 : List Int) (x1 : Int) (x5 : Int) (x6 : Int) (next_ : Int × Int → α) (out0_ : Int → α) (fail_ : α) : α :=
  (bif decide (x6 < (↑x0.length : Int)) then (bif decide (x6 < 0) then fail_ else (bif (x1.fdiv (2 ^ min x6.toNat IntKind.i64.bits)).tmod 2 == 1 then (bif decide (0 ≤ x6) && decide (x6 < (↑x0.length : Int)) then (next_ (bits BinOp.or IntKind.i64 x5 (eli x0 x6.toNat), IntKind.i64.wrap (x6 + 1))) else fail_) else (next_ (x5, IntKind.i64.wrap (x6 + 1))))) else (out0_ x5))
theorem S.l1Near_step3_nat {α γ : Type} (g : α → γ) (x0 : List Int) (x1 : Int) (x5 : Int) (x6 : Int) (next_ : Int × Int → α) (out0_ : Int → α) (fail_ : α) : g (S.l1Near_step3 x0 x1 x5 x6 next_ out0_ fail_) = S.l1Near_step3 x0 x1 x5 x6 (fun s => g (next_ s)) (fun d => g (out0_ d)) (g fail_) := by
  unfold S.l1Near_step3; simp only [apply_cnd g, apply_optC g, apply_sumC g]
noncomputable def S.l1Near_run3 (x0 : List Int) (x1 : Int) : Nat → Int × Int → Option (Int)
  | 0, _ => none
  | n + 1, s_ => S.l1Near_step3 x0 x1 s_.1 s_.2 (S.l1Near_run3 x0 x1 n) (fun d => some d) none
theorem S.l1Near_L3_run (x0 : List Int) (x1 : Int) (n : Nat) (s_ : Int × Int) (k : X → St → R) : S.l1Near_L3 n { n := 25, t := [(0, (.ro false (.ints .i64 x0))), (1, (.int .i64 x1)), (5, (.int .i64 s_.1)), (6, (.int .i64 s_.2))], h := [] } k = optC (S.l1Near_run3 x0 x1 n s_) (fun (r : Int) => k (.exit 0) { n := 25, t := [(5, (.int .i64 r))], h := [] }) none := by
  induction n generalizing s_ with
  | zero => rfl
  | succ n ih =>
    have hu : S.l1Near_L3 (n + 1) { n := 25, t := [(0, (.ro false (.ints .i64 x0))), (1, (.int .i64 x1)), (5, (.int .i64 s_.1)), (6, (.int .i64 s_.2))], h := [] } k = S.l1Near_step3 x0 x1 s_.1 s_.2 (fun s_ => S.l1Near_L3 n { n := 25, t := [(0, (.ro false (.ints .i64 x0))), (1, (.int .i64 x1)), (5, (.int .i64 s_.1)), (6, (.int .i64 s_.2))], h := [] } k) (fun d => k (.exit 0) { n := 25, t := [(5, (.int .i64 d))], h := [] }) none := by
      kernel_rfl
    have hs : (fun s_ : Int × Int => S.l1Near_L3 n { n := 25, t := [(0, (.ro false (.ints .i64 x0))), (1, (.int .i64 x1)), (5, (.int .i64 s_.1)), (6, (.int .i64 s_.2))], h := [] } k) = fun s_ => optC (S.l1Near_run3 x0 x1 n s_) (fun (r : Int) => k (.exit 0) { n := 25, t := [(5, (.int .i64 r))], h := [] }) none := funext ih
    rw [hu, hs]
    exact (S.l1Near_step3_nat (fun o => optC o (fun (r : Int) => k (.exit 0) { n := 25, t := [(5, (.int .i64 r))], h := [] }) none) x0 x1 s_.1 s_.2 (S.l1Near_run3 x0 x1 n) (fun d => some d) none).symm
noncomputable def S.l1Near_tree {α : Type} (net : List Int) (set_ : Int) (leaf0_ : Int → α) (fail_ : α) : α :=
  (optC (S.l1Near_run3 net set_ FUEL (0, 0)) (fun qy_1 => (leaf0_ qy_1)) fail_)
theorem S.l1Near_tree_nat {α γ : Type} (g : α → γ) (net : List Int) (set_ : Int) (leaf0_ : Int → α) (fail_ : α) : g (S.l1Near_tree net set_ leaf0_ fail_) = S.l1Near_tree net set_ (fun d => g (leaf0_ d)) (g fail_) := by
  unfold S.l1Near_tree; simp only [apply_cnd g, apply_optC g, apply_sumC g]
noncomputable def S.l1Near_t (net : List Int) (set_ : Int) : Option (Int) := S.l1Near_tree net set_ (fun d => some d) none
theorem S.l1Near_den (net : List Int) (set_ : Int) (κ : V → List E → R) : S.l1Near_F [.ro false (.ints .i64 net), .int .i64 set_] [] κ = optC (S.l1Near_t net set_) (fun (r : Int) => κ (.int .i64 r) []) none := by
  have hu : S.l1Near_F [.ro false (.ints .i64 net), .int .i64 set_] [] κ = S.l1Near_tree net set_ (fun d => κ (.int .i64 d) []) none := by
    refine Eq.trans (show S.l1Near_F [.ro false (.ints .i64 net), .int .i64 set_] [] κ = (S.l1Near_L3 FUEL { n := 25, t := [(0, (.ro false (.ints .i64 net))), (1, (.int .i64 set_)), (5, (.int .i64 0)), (6, (.int .i64 0))], h := [] } (S.l1Near_k3 κ)) by kernel_rfl) ?_
    refine (S.l1Near_L3_run net set_ FUEL (0, 0) (S.l1Near_k3 κ)).trans (optC_congr (fun qy_1 => ?_))
    kernel_rfl
  rw [hu]
  exact (S.l1Near_tree_nat (fun o => optC o (fun (r : Int) => κ (.int .i64 r) []) none) net set_ (fun d => some d) none).symm
noncomputable def S.l1Near_s : D.Spec where
  keep := false
  pure := true
  ds := [.int .i64, .invalid]
  sp := fun args h κ => match args, h with
    | [.ro false (.ints .i64 net), .int .i64 set_], [] => optC (S.l1Near_t net set_) (fun (r : Int) => κ (.int .i64 r) []) none
    | _, _ => none
theorem S.l1Near_ok : SpecOk Try.prog 86 S.l1Near_s := by
  refine SpecOk.of TDok mixed (T := S.l1Near_T) ?_ (ann := S.l1Near_ann) Try.func86 rfl (by decide +kernel) ?_ ?_ ?_
  · intro p hp; cases hp
  · intro args h κ r hh
    simp only [S.l1Near_s] at hh
    split at hh
    · exact (S.l1Near_den _ _ κ).trans hh
    · cases hh
  · intro args h κ r hh
    simp only [S.l1Near_s] at hh ⊢
    split at hh
    · exact optC_law2 (F := fun (r : Int) κ => κ (.int .i64 r) []) (fun b κ r hb => ⟨_, _, hb, fun _ => rfl⟩) hh
    · cases hh
  · intro _ args h κ r hh
    simp only [S.l1Near_s] at hh
    split at hh
    · exact ⟨rfl, fun _ => rfl⟩
    · cases hh

-- loop.example/guardsonnets/spec.l2Watch
noncomputable def S.l2Watch_T : List (Nat × D.Spec) := [(86, S.l1Near_s)]
def S.l2Watch_ann : Nat → List Nat × List Nat
  | _ => ([], [])
noncomputable def S.l2Watch_F (args : List V) (h : List E) (κ : V → List E → R) : R := funC TD (tableK S.l2Watch_T) S.l2Watch_ann (drawOk (tableP S.l2Watch_T)) FUEL Try.f81 args h κ
noncomputable def S.l2Watch_tree {α : Type} (net : List Int) (set_ : Int) (leaf0_ : Bool → α) (fail_ : α) : α :=
  (optC (S.l1Near_t net set_) (fun c_1 => (leaf0_ (bits BinOp.or IntKind.i64 set_ c_1 == IntKind.i64.wrap (IntKind.i64.wrap (1 * 2 ^ min (↑net.length : Int).toNat IntKind.i64.bits) - 1)))) fail_)
theorem S.l2Watch_tree_nat {α γ : Type} (g : α → γ) (net : List Int) (set_ : Int) (leaf0_ : Bool → α) (fail_ : α) : g (S.l2Watch_tree net set_ leaf0_ fail_) = S.l2Watch_tree net set_ (fun d => g (leaf0_ d)) (g fail_) := by
  unfold S.l2Watch_tree; simp only [apply_cnd g, apply_optC g, apply_sumC g]
noncomputable def S.l2Watch_t (net : List Int) (set_ : Int) : Option (Bool) := S.l2Watch_tree net set_ (fun d => some d) none
theorem S.l2Watch_den (net : List Int) (set_ : Int) (κ : V → List E → R) : S.l2Watch_F [.ro false (.ints .i64 net), .int .i64 set_] [] κ = optC (S.l2Watch_t net set_) (fun (r : Bool) => κ (.bool r) []) none := by
  have hu : S.l2Watch_F [.ro false (.ints .i64 net), .int .i64 set_] [] κ = S.l2Watch_tree net set_ (fun d => κ (.bool d) []) none := by
    kernel_rfl
  rw [hu]
  exact (S.l2Watch_tree_nat (fun o => optC o (fun (r : Bool) => κ (.bool r) []) none) net set_ (fun d => some d) none).symm
noncomputable def S.l2Watch_s : D.Spec where
  keep := false
  pure := true
  ds := [.int .i64, .invalid]
  sp := fun args h κ => match args, h with
    | [.ro false (.ints .i64 net), .int .i64 set_], [] => optC (S.l2Watch_t net set_) (fun (r : Bool) => κ (.bool r) []) none
    | _, _ => none
theorem S.l2Watch_ok : SpecOk Try.prog 81 S.l2Watch_s := by
  refine SpecOk.of TDok mixed (T := S.l2Watch_T) ?_ (ann := S.l2Watch_ann) Try.func81 rfl (by decide +kernel) ?_ ?_ ?_
  · intro p hp
    simp only [S.l2Watch_T, List.mem_cons, List.not_mem_nil, or_false] at hp
    rcases hp with rfl
    · exact S.l1Near_ok
  · intro args h κ r hh
    simp only [S.l2Watch_s] at hh
    split at hh
    · exact (S.l2Watch_den _ _ κ).trans hh
    · cases hh
  · intro args h κ r hh
    simp only [S.l2Watch_s] at hh ⊢
    split at hh
    · exact optC_law2 (F := fun (r : Bool) κ => κ (.bool r) []) (fun b κ r hb => ⟨_, _, hb, fun _ => rfl⟩) hh
    · cases hh
  · intro _ args h κ r hh
    simp only [S.l2Watch_s] at hh
    split at hh
    · exact ⟨rfl, fun _ => rfl⟩
    · cases hh

-- loop.example/guardsonnets/spec.WatchOk
noncomputable def S.WatchOk_T : List (Nat × D.Spec) := [(39, S.l1SetOk_s), (81, S.l2Watch_s)]
def S.WatchOk_ann : Nat → List Nat × List Nat
  | _ => ([], [])
noncomputable def S.WatchOk_F (args : List V) (h : List E) (κ : V → List E → R) : R := funC TD (tableK S.WatchOk_T) S.WatchOk_ann (drawOk (tableP S.WatchOk_T)) FUEL Try.f80 args h κ
noncomputable def S.WatchOk_tree {α : Type} (net : List Int) (set_ : Int) (leaf0_ : Bool → α) (fail_ : α) : α :=
  (optC (S.l1SetOk_t net set_) (fun c_1 => (bif c_1 then (optC (S.l2Watch_t net set_) (fun c_2 => (leaf0_ c_2)) fail_) else (leaf0_ false))) fail_)
theorem S.WatchOk_tree_nat {α γ : Type} (g : α → γ) (net : List Int) (set_ : Int) (leaf0_ : Bool → α) (fail_ : α) : g (S.WatchOk_tree net set_ leaf0_ fail_) = S.WatchOk_tree net set_ (fun d => g (leaf0_ d)) (g fail_) := by
  unfold S.WatchOk_tree; simp only [apply_cnd g, apply_optC g, apply_sumC g]
noncomputable def S.WatchOk_t (net : List Int) (set_ : Int) : Option (Bool) := S.WatchOk_tree net set_ (fun d => some d) none
theorem S.WatchOk_den (net : List Int) (set_ : Int) (κ : V → List E → R) : S.WatchOk_F [.ro false (.ints .i64 net), .int .i64 set_] [] κ = optC (S.WatchOk_t net set_) (fun (r : Bool) => κ (.bool r) []) none := by
  have hu : S.WatchOk_F [.ro false (.ints .i64 net), .int .i64 set_] [] κ = S.WatchOk_tree net set_ (fun d => κ (.bool d) []) none := by
    kernel_rfl
  rw [hu]
  exact (S.WatchOk_tree_nat (fun o => optC o (fun (r : Bool) => κ (.bool r) []) none) net set_ (fun d => some d) none).symm
noncomputable def S.WatchOk_s : D.Spec where
  keep := false
  pure := true
  ds := [.int .i64, .invalid]
  sp := fun args h κ => match args, h with
    | [.ro false (.ints .i64 net), .int .i64 set_], [] => optC (S.WatchOk_t net set_) (fun (r : Bool) => κ (.bool r) []) none
    | _, _ => none
theorem S.WatchOk_ok : SpecOk Try.prog 80 S.WatchOk_s := by
  refine SpecOk.of TDok mixed (T := S.WatchOk_T) ?_ (ann := S.WatchOk_ann) Try.func80 rfl (by decide +kernel) ?_ ?_ ?_
  · intro p hp
    simp only [S.WatchOk_T, List.mem_cons, List.not_mem_nil, or_false] at hp
    rcases hp with rfl | rfl
    · exact S.l1SetOk_ok
    · exact S.l2Watch_ok
  · intro args h κ r hh
    simp only [S.WatchOk_s] at hh
    split at hh
    · exact (S.WatchOk_den _ _ κ).trans hh
    · cases hh
  · intro args h κ r hh
    simp only [S.WatchOk_s] at hh ⊢
    split at hh
    · exact optC_law2 (F := fun (r : Bool) κ => κ (.bool r) []) (fun b κ r hb => ⟨_, _, hb, fun _ => rfl⟩) hh
    · cases hh
  · intro _ args h κ r hh
    simp only [S.WatchOk_s] at hh
    split at hh
    · exact ⟨rfl, fun _ => rfl⟩
    · cases hh

-- loop.example/guardsonnets/spec.ThinnedWatch
noncomputable def S.ThinnedWatch_T : List (Nat × D.Spec) := [(80, S.WatchOk_s), (81, S.l2Watch_s)]
def S.ThinnedWatch_ann : Nat → List Nat × List Nat
  | 4 => ([0, 1, 5], [1])
  | _ => ([], [])
noncomputable def S.ThinnedWatch_F (args : List V) (h : List E) (κ : V → List E → R) : R := funC TD (tableK S.ThinnedWatch_T) S.ThinnedWatch_ann (drawOk (tableP S.ThinnedWatch_T)) FUEL Try.f73 args h κ
noncomputable def S.ThinnedWatch_L4 (n : Nat) (σ : St) (k : X → St → R) : R := iterC 0 (fun σ k => denC TD (tableK S.ThinnedWatch_T) S.ThinnedWatch_ann (drawOk (tableP S.ThinnedWatch_T)) 0 FUEL ((findLoop 4 (Try.f73.body.getD .skip)).getD .skip) σ k) [0, 1, 5] [1] n σ k
noncomputable def S.ThinnedWatch_k4 (κ : V → List E → R) : X → St → R := (afterC TD (tableK S.ThinnedWatch_T) S.ThinnedWatch_ann (drawOk (tableP S.ThinnedWatch_T)) 0 FUEL 4 (Try.f73.body.getD .skip) (finC TD 0 Try.f73 κ)).getD (fun _ _ => none)
noncomputable def S.ThinnedWatch_step4 {α : Type} (x0 : List Int) (x1 : Int) (x5 : Int) (next_ : Int × Int → α) (out0_ : Int → α) (fail_ : α) : α :=
  (bif decide (x5 ≥ 0) then (bif decide (x5 < 0) then fail_ else (bif (x1.fdiv (2 ^ min x5.toNat IntKind.i64.bits)).tmod 2 == 1 then (bif decide (x5 < 0) then fail_ else (optC (S.l2Watch_t x0 (IntKind.i64.wrap (x1 - IntKind.i64.wrap (1 * 2 ^ min x5.toNat IntKind.i64.bits)))) (fun c_2 => (bif c_2 then (bif decide (x5 < 0) then fail_ else (next_ (IntKind.i64.wrap (x1 - IntKind.i64.wrap (1 * 2 ^ min x5.toNat IntKind.i64.bits)), IntKind.i64.wrap (x5 - 1)))) else (next_ (x1, IntKind.i64.wrap (x5 - 1))))) fail_)) else (next_ (x1, IntKind.i64.wrap (x5 - 1))))) else (out0_ x1))
theorem S.ThinnedWatch_step4_nat {α γ : Type} (g : α → γ) (x0 : List Int) (x1 : Int) (x5 : Int) (next_ : Int × Int → α) (out0_ : Int → α) (fail_ : α) : g (S.ThinnedWatch_step4 x0 x1 x5 next_ out0_ fail_) = S.ThinnedWatch_step4 x0 x1 x5 (fun s => g (next_ s)) (fun d => g (out0_ d)) (g fail_) := by
  unfold S.ThinnedWatch_step4; simp only [apply_cnd g, apply_optC g, apply_sumC g]
noncomputable def S.ThinnedWatch_run4 (x0 : List Int) : Nat → Int × Int → Option (Int)
  | 0, _ => none
  | n + 1, s_ => S.ThinnedWatch_step4 x0 s_.1 s_.2 (S.ThinnedWatch_run4 x0 n) (fun d => some d) none
theorem S.ThinnedWatch_L4_run (x0 : List Int) (n : Nat) (s_ : Int × Int) (k : X → St → R) : S.ThinnedWatch_L4 n { n := 35, t := [(0, (.ro false (.ints .i64 x0))), (1, (.int .i64 s_.1)), (5, (.int .i64 s_.2))], h := [] } k = optC (S.ThinnedWatch_run4 x0 n s_) (fun (r : Int) => k (.exit 0) { n := 35, t := [(1, (.int .i64 r))], h := [] }) none := by
  induction n generalizing s_ with
  | zero => rfl
  | succ n ih =>
    have hu : S.ThinnedWatch_L4 (n + 1) { n := 35, t := [(0, (.ro false (.ints .i64 x0))), (1, (.int .i64 s_.1)), (5, (.int .i64 s_.2))], h := [] } k = S.ThinnedWatch_step4 x0 s_.1 s_.2 (fun s_ => S.ThinnedWatch_L4 n { n := 35, t := [(0, (.ro false (.ints .i64 x0))), (1, (.int .i64 s_.1)), (5, (.int .i64 s_.2))], h := [] } k) (fun d => k (.exit 0) { n := 35, t := [(1, (.int .i64 d))], h := [] }) none := by
      kernel_rfl
    have hs : (fun s_ : Int × Int => S.ThinnedWatch_L4 n { n := 35, t := [(0, (.ro false (.ints .i64 x0))), (1, (.int .i64 s_.1)), (5, (.int .i64 s_.2))], h := [] } k) = fun s_ => optC (S.ThinnedWatch_run4 x0 n s_) (fun (r : Int) => k (.exit 0) { n := 35, t := [(1, (.int .i64 r))], h := [] }) none := funext ih
    rw [hu, hs]
    exact (S.ThinnedWatch_step4_nat (fun o => optC o (fun (r : Int) => k (.exit 0) { n := 35, t := [(1, (.int .i64 r))], h := [] }) none) x0 s_.1 s_.2 (S.ThinnedWatch_run4 x0 n) (fun d => some d) none).symm
noncomputable def S.ThinnedWatch_tree {α : Type} (net : List Int) (set_ : Int) (leaf0_ : Int → α) (fail_ : α) : α :=
  (optC (S.WatchOk_t net set_) (fun c_1 => (bif !c_1 then (leaf0_ (-1)) else (optC (S.ThinnedWatch_run4 net FUEL (set_, IntKind.i64.wrap ((↑net.length : Int) - 1))) (fun qy_3 => (leaf0_ qy_3)) fail_))) fail_)
theorem S.ThinnedWatch_tree_nat {α γ : Type} (g : α → γ) (net : List Int) (set_ : Int) (leaf0_ : Int → α) (fail_ : α) : g (S.ThinnedWatch_tree net set_ leaf0_ fail_) = S.ThinnedWatch_tree net set_ (fun d => g (leaf0_ d)) (g fail_) := by
  unfold S.ThinnedWatch_tree; simp only [apply_cnd g, apply_optC g, apply_sumC g]
noncomputable def S.ThinnedWatch_t (net : List Int) (set_ : Int) : Option (Int) := S.ThinnedWatch_tree net set_ (fun d => some d) none
theorem S.ThinnedWatch_den (net : List Int) (set_ : Int) (κ : V → List E → R) : S.ThinnedWatch_F [.ro false (.ints .i64 net), .int .i64 set_] [] κ = optC (S.ThinnedWatch_t net set_) (fun (r : Int) => κ (.int .i64 r) []) none := by
  have hu : S.ThinnedWatch_F [.ro false (.ints .i64 net), .int .i64 set_] [] κ = S.ThinnedWatch_tree net set_ (fun d => κ (.int .i64 d) []) none := by
    refine Eq.trans (show S.ThinnedWatch_F [.ro false (.ints .i64 net), .int .i64 set_] [] κ = (optC (S.WatchOk_t net set_) (fun c_1 => (bif !c_1 then (κ (.int .i64 (-1)) []) else (S.ThinnedWatch_L4 FUEL { n := 35, t := [(0, (.ro false (.ints .i64 net))), (1, (.int .i64 set_)), (5, (.int .i64 (IntKind.i64.wrap ((↑net.length : Int) - 1))))], h := [] } (S.ThinnedWatch_k4 κ)))) none) by kernel_rfl) ?_
    refine optC_congr (fun c_1 => ?_)
    refine cnd_congr ?_ ?_
    · kernel_rfl
    · refine (S.ThinnedWatch_L4_run net FUEL (set_, IntKind.i64.wrap ((↑net.length : Int) - 1)) (S.ThinnedWatch_k4 κ)).trans (optC_congr (fun qy_3 => ?_))
      kernel_rfl
  rw [hu]
  exact (S.ThinnedWatch_tree_nat (fun o => optC o (fun (r : Int) => κ (.int .i64 r) []) none) net set_ (fun d => some d) none).symm
noncomputable def S.ThinnedWatch_s : D.Spec where
  keep := false
  pure := true
  ds := [.int .i64, .invalid]
  sp := fun args h κ => match args, h with
    | [.ro false (.ints .i64 net), .int .i64 set_], [] => optC (S.ThinnedWatch_t net set_) (fun (r : Int) => κ (.int .i64 r) []) none
    | _, _ => none
theorem S.ThinnedWatch_ok : SpecOk Try.prog 73 S.ThinnedWatch_s := by
  refine SpecOk.of TDok mixed (T := S.ThinnedWatch_T) ?_ (ann := S.ThinnedWatch_ann) Try.func73 rfl (by decide +kernel) ?_ ?_ ?_
  · intro p hp
    simp only [S.ThinnedWatch_T, List.mem_cons, List.not_mem_nil, or_false] at hp
    rcases hp with rfl | rfl
    · exact S.WatchOk_ok
    · exact S.l2Watch_ok
  · intro args h κ r hh
    simp only [S.ThinnedWatch_s] at hh
    split at hh
    · exact (S.ThinnedWatch_den _ _ κ).trans hh
    · cases hh
  · intro args h κ r hh
    simp only [S.ThinnedWatch_s] at hh ⊢
    split at hh
    · exact optC_law2 (F := fun (r : Int) κ => κ (.int .i64 r) []) (fun b κ r hb => ⟨_, _, hb, fun _ => rfl⟩) hh
    · cases hh
  · intro _ args h κ r hh
    simp only [S.ThinnedWatch_s] at hh
    split at hh
    · exact ⟨rfl, fun _ => rfl⟩
    · cases hh

-- loop.example/guardsonnets/spec.l20Guarded
noncomputable def S.l20Guarded_T : List (Nat × D.Spec) := [(37, S.l20Set_s), (58, S.NetOk_s), (38, S.l20Rd_pick_s), (73, S.ThinnedWatch_s)]
def S.l20Guarded_ann : Nat → List Nat × List Nat
  | _ => ([], [])
noncomputable def S.l20Guarded_F (args : List V) (h : List E) (κ : V → List E → R) : R := funC TD (tableK S.l20Guarded_T) S.l20Guarded_ann (drawOk (tableP S.l20Guarded_T)) FUEL Try.f49 args h κ
noncomputable def S.l20Guarded_tree {α : Type} (rb : List Int) (rp : Int) (n_ : Int) (leaf0_ : Int × (List Int) × Int × (List Int) → α) (fail_ : α) : α :=
  (optC (S.l20Set_t rb rp n_) (fun c_1 => (optC (S.NetOk_t c_1.snd.snd.snd) (fun c_2 => (bif c_2 then (optC (S.l20Rd_pick_t c_1.snd.fst c_1.snd.snd.fst 4) (fun c_3 => (bif decide (c_3.fst > 0) then (optC (S.ThinnedWatch_t c_1.snd.snd.snd (IntKind.i64.wrap (IntKind.i64.wrap (1 * 2 ^ min (↑c_1.snd.snd.snd.length : Int).toNat IntKind.i64.bits) - 1))) (fun c_4 => (leaf0_ (bits BinOp.or IntKind.i64 c_4 (bits BinOp.and IntKind.i64 c_1.fst (IntKind.i64.wrap (IntKind.i64.wrap (1 * 2 ^ min (↑c_1.snd.snd.snd.length : Int).toNat IntKind.i64.bits) - 1))), c_3.snd.fst, c_3.snd.snd, c_1.snd.snd.snd))) fail_) else (leaf0_ (c_1.fst, c_3.snd.fst, c_3.snd.snd, c_1.snd.snd.snd)))) fail_) else (leaf0_ (c_1.fst, c_1.snd.fst, c_1.snd.snd.fst, c_1.snd.snd.snd)))) fail_)) fail_)
theorem S.l20Guarded_tree_nat {α γ : Type} (g : α → γ) (rb : List Int) (rp : Int) (n_ : Int) (leaf0_ : Int × (List Int) × Int × (List Int) → α) (fail_ : α) : g (S.l20Guarded_tree rb rp n_ leaf0_ fail_) = S.l20Guarded_tree rb rp n_ (fun d => g (leaf0_ d)) (g fail_) := by
  unfold S.l20Guarded_tree; simp only [apply_cnd g, apply_optC g, apply_sumC g]
noncomputable def S.l20Guarded_t (rb : List Int) (rp : Int) (n_ : Int) : Option (Int × (List Int) × Int × (List Int)) := S.l20Guarded_tree rb rp n_ (fun d => some d) none
theorem S.l20Guarded_den (rb : List Int) (rp : Int) (n_ : Int) (κ : V → List E → R) : S.l20Guarded_F [.ptr 0 0, .int .i64 n_] [.cells [.ro true (.ints .u8 rb), .int .i64 rp]] κ = optC (S.l20Guarded_t rb rp n_) (fun (r : Int × (List Int) × Int × (List Int)) => κ (.tup [(.own 1), (.int .i64 r.1)]) [.cells [(.ro true (.ints .u8 r.2.1)), (.int .i64 r.2.2.1)], .row (.ints .i64 r.2.2.2)]) none := by
  have hu : S.l20Guarded_F [.ptr 0 0, .int .i64 n_] [.cells [.ro true (.ints .u8 rb), .int .i64 rp]] κ = S.l20Guarded_tree rb rp n_ (fun d => κ (.tup [(.own 1), (.int .i64 d.1)]) [.cells [(.ro true (.ints .u8 d.2.1)), (.int .i64 d.2.2.1)], .row (.ints .i64 d.2.2.2)]) none := by
    kernel_rfl
  rw [hu]
  exact (S.l20Guarded_tree_nat (fun o => optC o (fun (r : Int × (List Int) × Int × (List Int)) => κ (.tup [(.own 1), (.int .i64 r.1)]) [.cells [(.ro true (.ints .u8 r.2.1)), (.int .i64 r.2.2.1)], .row (.ints .i64 r.2.2.2)]) none) rb rp n_ (fun d => some d) none).symm
noncomputable def S.l20Guarded_s : D.Spec where
  keep := false
  pure := false
  ds := [.invalid, .invalid]
  sp := fun args h κ => match args, h with
    | [.ptr 0 0, .int .i64 n_], [.cells [.ro true (.ints .u8 rb), .int .i64 rp]] => optC (S.l20Guarded_t rb rp n_) (fun (r : Int × (List Int) × Int × (List Int)) => κ (.tup [(.own 1), (.int .i64 r.1)]) [.cells [(.ro true (.ints .u8 r.2.1)), (.int .i64 r.2.2.1)], .row (.ints .i64 r.2.2.2)]) none
    | _, _ => none
theorem S.l20Guarded_ok : SpecOk Try.prog 49 S.l20Guarded_s := by
  refine SpecOk.of TDok mixed (T := S.l20Guarded_T) ?_ (ann := S.l20Guarded_ann) Try.func49 rfl (by decide +kernel) ?_ ?_ ?_
  · intro p hp
    simp only [S.l20Guarded_T, List.mem_cons, List.not_mem_nil, or_false] at hp
    rcases hp with rfl | rfl | rfl | rfl
    · exact S.l20Set_ok
    · exact S.NetOk_ok
    · exact S.l20Rd_pick_ok
    · exact S.ThinnedWatch_ok
  · intro args h κ r hh
    simp only [S.l20Guarded_s] at hh
    split at hh
    · exact (S.l20Guarded_den _ _ _ κ).trans hh
    · cases hh
  · intro args h κ r hh
    simp only [S.l20Guarded_s] at hh ⊢
    split at hh
    · exact optC_law2 (F := fun (r : Int × (List Int) × Int × (List Int)) κ => κ (.tup [(.own 1), (.int .i64 r.1)]) [.cells [(.ro true (.ints .u8 r.2.1)), (.int .i64 r.2.2.1)], .row (.ints .i64 r.2.2.2)]) (fun b κ r hb => ⟨_, _, hb, fun _ => rfl⟩) hh
    · cases hh
  · intro hh; cases hh

-- loop.example/guardsonnets/spec.DrawAllEternalOk
noncomputable def S.DrawAllEternalOk_T : List (Nat × D.Spec) := [(36, S.l20Open_s), (49, S.l20Guarded_s)]
def S.DrawAllEternalOk_ann : Nat → List Nat × List Nat
  | _ => ([], [])
noncomputable def S.DrawAllEternalOk_F (args : List V) (h : List E) (κ : V → List E → R) : R := funC TD (tableK S.DrawAllEternalOk_T) S.DrawAllEternalOk_ann (drawOk (tableP S.DrawAllEternalOk_T)) FUEL Try.f20 args h κ
noncomputable def S.DrawAllEternalOk_tree {α : Type} (code : List Int) (leaf0_ : Int × (List Int) → α) (fail_ : α) : α :=
  (optC (S.l20Open_t code) (fun c_1 => (optC (S.l20Guarded_t c_1.fst c_1.snd 12) (fun c_2 => (leaf0_ (c_2.fst, c_2.snd.snd.snd))) fail_)) fail_)
theorem S.DrawAllEternalOk_tree_nat {α γ : Type} (g : α → γ) (code : List Int) (leaf0_ : Int × (List Int) → α) (fail_ : α) : g (S.DrawAllEternalOk_tree code leaf0_ fail_) = S.DrawAllEternalOk_tree code (fun d => g (leaf0_ d)) (g fail_) := by
  unfold S.DrawAllEternalOk_tree; simp only [apply_cnd g, apply_optC g, apply_sumC g]
noncomputable def S.DrawAllEternalOk_t (code : List Int) : Option (Int × (List Int)) := S.DrawAllEternalOk_tree code (fun d => some d) none
theorem S.DrawAllEternalOk_den (code : List Int) (κ : V → List E → R) : S.DrawAllEternalOk_F [.ro true (.ints .u8 code)] [] κ = optC (S.DrawAllEternalOk_t code) (fun (r : Int × (List Int)) => κ (.tup [(.own 0), (.int .i64 r.1)]) [.row (.ints .i64 r.2)]) none := by
  have hu : S.DrawAllEternalOk_F [.ro true (.ints .u8 code)] [] κ = S.DrawAllEternalOk_tree code (fun d => κ (.tup [(.own 0), (.int .i64 d.1)]) [.row (.ints .i64 d.2)]) none := by
    kernel_rfl
  rw [hu]
  exact (S.DrawAllEternalOk_tree_nat (fun o => optC o (fun (r : Int × (List Int)) => κ (.tup [(.own 0), (.int .i64 r.1)]) [.row (.ints .i64 r.2)]) none) code (fun d => some d) none).symm
noncomputable def S.DrawAllEternalOk_s : D.Spec where
  keep := true
  pure := false
  ds := [.int .u8]
  sp := fun args h κ => match args, h with
    | [.ro true (.ints .u8 code)], [] => optC (S.DrawAllEternalOk_t code) (fun (r : Int × (List Int)) => κ (.tup [(.own 0), (.int .i64 r.1)]) [.row (.ints .i64 r.2)]) none
    | _, _ => none
theorem S.DrawAllEternalOk_ok : SpecOk Try.prog 20 S.DrawAllEternalOk_s := by
  refine SpecOk.of TDok mixed (T := S.DrawAllEternalOk_T) ?_ (ann := S.DrawAllEternalOk_ann) Try.func20 rfl (by decide +kernel) ?_ ?_ ?_
  · intro p hp
    simp only [S.DrawAllEternalOk_T, List.mem_cons, List.not_mem_nil, or_false] at hp
    rcases hp with rfl | rfl
    · exact S.l20Open_ok
    · exact S.l20Guarded_ok
  · intro args h κ r hh
    simp only [S.DrawAllEternalOk_s] at hh
    split at hh
    · exact (S.DrawAllEternalOk_den _ κ).trans hh
    · cases hh
  · intro args h κ r hh
    simp only [S.DrawAllEternalOk_s] at hh ⊢
    split at hh
    · exact optC_law2 (F := fun (r : Int × (List Int)) κ => κ (.tup [(.own 0), (.int .i64 r.1)]) [.row (.ints .i64 r.2)]) (fun b κ r hb => ⟨_, _, hb, fun _ => rfl⟩) hh
    · cases hh
  · intro hh; cases hh

-- loop.example/guardsonnets/impl.allOf
noncomputable def I.allOf_T : List (Nat × D.Spec) := []
def I.allOf_ann : Nat → List Nat × List Nat
  | _ => ([], [])
noncomputable def I.allOf_F (args : List V) (h : List E) (κ : V → List E → R) : R := funC TD (tableK I.allOf_T) I.allOf_ann (drawOk (tableP I.allOf_T)) FUEL Try.f61 args h κ
noncomputable def I.allOf_tree {α : Type} (net : List Int) (leaf0_ : Int → α) (fail_ : α) : α :=
  (leaf0_ (IntKind.i64.wrap (IntKind.i64.wrap (1 * 2 ^ min (↑net.length : Int).toNat IntKind.i64.bits) - 1)))
theorem I.allOf_tree_nat {α γ : Type} (g : α → γ) (net : List Int) (leaf0_ : Int → α) (fail_ : α) : g (I.allOf_tree net leaf0_ fail_) = I.allOf_tree net (fun d => g (leaf0_ d)) (g fail_) := by
  unfold I.allOf_tree; simp only [apply_cnd g, apply_optC g, apply_sumC g]
noncomputable def I.allOf_t (net : List Int) : Option (Int) := I.allOf_tree net (fun d => some d) none
theorem I.allOf_den (net : List Int) (κ : V → List E → R) : I.allOf_F [.ro false (.ints .i64 net)] [] κ = optC (I.allOf_t net) (fun (r : Int) => κ (.int .i64 r) []) none := by
  have hu : I.allOf_F [.ro false (.ints .i64 net)] [] κ = I.allOf_tree net (fun d => κ (.int .i64 d) []) none := by
    kernel_rfl
  rw [hu]
  exact (I.allOf_tree_nat (fun o => optC o (fun (r : Int) => κ (.int .i64 r) []) none) net (fun d => some d) none).symm
noncomputable def I.allOf_s : D.Spec where
  keep := false
  pure := true
  ds := [.int .i64]
  sp := fun args h κ => match args, h with
    | [.ro false (.ints .i64 net)], [] => optC (I.allOf_t net) (fun (r : Int) => κ (.int .i64 r) []) none
    | _, _ => none
theorem I.allOf_ok : SpecOk Try.prog 61 I.allOf_s := by
  refine SpecOk.of TDok mixed (T := I.allOf_T) ?_ (ann := I.allOf_ann) Try.func61 rfl (by decide +kernel) ?_ ?_ ?_
  · intro p hp; cases hp
  · intro args h κ r hh
    simp only [I.allOf_s] at hh
    split at hh
    · exact (I.allOf_den _ κ).trans hh
    · cases hh
  · intro args h κ r hh
    simp only [I.allOf_s] at hh ⊢
    split at hh
    · exact optC_law2 (F := fun (r : Int) κ => κ (.int .i64 r) []) (fun b κ r hb => ⟨_, _, hb, fun _ => rfl⟩) hh
    · cases hh
  · intro _ args h κ r hh
    simp only [I.allOf_s] at hh
    split at hh
    · exact ⟨rfl, fun _ => rfl⟩
    · cases hh

-- loop.example/guardsonnets/impl.allMovesOf
noncomputable def I.allMovesOf_T : List (Nat × D.Spec) := [(61, I.allOf_s), (42, I.allMoveIn_s)]
def I.allMovesOf_ann : Nat → List Nat × List Nat
  | 3 => ([0, 1, 5, 6], [5])
  | _ => ([], [])
noncomputable def I.allMovesOf_F (args : List V) (h : List E) (κ : V → List E → R) : R := funC TD (tableK I.allMovesOf_T) I.allMovesOf_ann (drawOk (tableP I.allMovesOf_T)) FUEL Try.f83 args h κ
noncomputable def I.allMovesOf_L3 (n : Nat) (σ : St) (k : X → St → R) : R := iterC 0 (fun σ k => denC TD (tableK I.allMovesOf_T) I.allMovesOf_ann (drawOk (tableP I.allMovesOf_T)) 0 FUEL ((findLoop 3 (Try.f83.body.getD .skip)).getD .skip) σ k) [0, 1, 5, 6] [5] n σ k
noncomputable def I.allMovesOf_k3 (κ : V → List E → R) : X → St → R := (afterC TD (tableK I.allMovesOf_T) I.allMovesOf_ann (drawOk (tableP I.allMovesOf_T)) 0 FUEL 3 (Try.f83.body.getD .skip) (finC TD 0 Try.f83 κ)).getD (fun _ _ => none)
noncomputable def I.allMovesOf_step3 {α : Type} (x0 : List Int) (x1 : Int) (x6 : Int) (r0 : List Int) (next_ : Int × (List Int) → α) (out0_ : List Int → α) (fail_ : α) : α :=
  (optC (I.allOf_t x0) (fun c_1 => (bif decide (x6 ≤ c_1) then (optC (I.allMoveIn_t x0 x1 x6) (fun c_2 => (bif c_2 then (bif small (r0 ++ [x6]).length then (next_ (IntKind.i64.wrap (x6 + 1), r0 ++ [x6])) else fail_) else (next_ (IntKind.i64.wrap (x6 + 1), r0)))) fail_) else (out0_ r0))) fail_)
theorem I.allMovesOf_step3_nat {α γ : Type} (g : α → γ) (x0 : List Int) (x1 : Int) (x6 : Int) (r0 : List Int) (next_ : Int × (List Int) → α) (out0_ : List Int → α) (fail_ : α) : g (I.allMovesOf_step3 x0 x1 x6 r0 next_ out0_ fail_) = I.allMovesOf_step3 x0 x1 x6 r0 (fun s => g (next_ s)) (fun d => g (out0_ d)) (g fail_) := by
  unfold I.allMovesOf_step3; simp only [apply_cnd g, apply_optC g, apply_sumC g]
noncomputable def I.allMovesOf_run3 (x0 : List Int) (x1 : Int) : Nat → Int × (List Int) → Option (List Int)
  | 0, _ => none
  | n + 1, s_ => I.allMovesOf_step3 x0 x1 s_.1 s_.2 (I.allMovesOf_run3 x0 x1 n) (fun d => some d) none
theorem I.allMovesOf_L3_run (x0 : List Int) (x1 : Int) (n : Nat) (s_ : Int × (List Int)) (k : X → St → R) : I.allMovesOf_L3 n { n := 23, t := [(0, (.ro false (.ints .i64 x0))), (1, (.int .i64 x1)), (5, (.own 0)), (6, (.int .i64 s_.1))], h := [.row (.ints .i64 s_.2)] } k = optC (I.allMovesOf_run3 x0 x1 n s_) (fun (r : List Int) => k (.exit 0) { n := 23, t := [(5, (.own 0))], h := [.row (.ints .i64 r)] }) none := by
  induction n generalizing s_ with
  | zero => rfl
  | succ n ih =>
    have hu : I.allMovesOf_L3 (n + 1) { n := 23, t := [(0, (.ro false (.ints .i64 x0))), (1, (.int .i64 x1)), (5, (.own 0)), (6, (.int .i64 s_.1))], h := [.row (.ints .i64 s_.2)] } k = I.allMovesOf_step3 x0 x1 s_.1 s_.2 (fun s_ => I.allMovesOf_L3 n { n := 23, t := [(0, (.ro false (.ints .i64 x0))), (1, (.int .i64 x1)), (5, (.own 0)), (6, (.int .i64 s_.1))], h := [.row (.ints .i64 s_.2)] } k) (fun d => k (.exit 0) { n := 23, t := [(5, (.own 0))], h := [.row (.ints .i64 d)] }) none := by
      kernel_rfl
    have hs : (fun s_ : Int × (List Int) => I.allMovesOf_L3 n { n := 23, t := [(0, (.ro false (.ints .i64 x0))), (1, (.int .i64 x1)), (5, (.own 0)), (6, (.int .i64 s_.1))], h := [.row (.ints .i64 s_.2)] } k) = fun s_ => optC (I.allMovesOf_run3 x0 x1 n s_) (fun (r : List Int) => k (.exit 0) { n := 23, t := [(5, (.own 0))], h := [.row (.ints .i64 r)] }) none := funext ih
    rw [hu, hs]
    exact (I.allMovesOf_step3_nat (fun o => optC o (fun (r : List Int) => k (.exit 0) { n := 23, t := [(5, (.own 0))], h := [.row (.ints .i64 r)] }) none) x0 x1 s_.1 s_.2 (I.allMovesOf_run3 x0 x1 n) (fun d => some d) none).symm
noncomputable def I.allMovesOf_tree {α : Type} (net : List Int) (from_ : Int) (leaf0_ : List Int → α) (fail_ : α) : α :=
  (optC (I.allMovesOf_run3 net from_ FUEL (0, [])) (fun qy_3 => (leaf0_ qy_3)) fail_)
theorem I.allMovesOf_tree_nat {α γ : Type} (g : α → γ) (net : List Int) (from_ : Int) (leaf0_ : List Int → α) (fail_ : α) : g (I.allMovesOf_tree net from_ leaf0_ fail_) = I.allMovesOf_tree net from_ (fun d => g (leaf0_ d)) (g fail_) := by
  unfold I.allMovesOf_tree; simp only [apply_cnd g, apply_optC g, apply_sumC g]
noncomputable def I.allMovesOf_t (net : List Int) (from_ : Int) : Option (List Int) := I.allMovesOf_tree net from_ (fun d => some d) none
theorem I.allMovesOf_den (net : List Int) (from_ : Int) (κ : V → List E → R) : I.allMovesOf_F [.ro false (.ints .i64 net), .int .i64 from_] [] κ = optC (I.allMovesOf_t net from_) (fun (r : List Int) => κ (.own 0) [.row (.ints .i64 r)]) none := by
  have hu : I.allMovesOf_F [.ro false (.ints .i64 net), .int .i64 from_] [] κ = I.allMovesOf_tree net from_ (fun d => κ (.own 0) [.row (.ints .i64 d)]) none := by
    refine Eq.trans (show I.allMovesOf_F [.ro false (.ints .i64 net), .int .i64 from_] [] κ = (I.allMovesOf_L3 FUEL { n := 23, t := [(0, (.ro false (.ints .i64 net))), (1, (.int .i64 from_)), (5, (.own 0)), (6, (.int .i64 0))], h := [.row (.ints .i64 ([]))] } (I.allMovesOf_k3 κ)) by kernel_rfl) ?_
    refine (I.allMovesOf_L3_run net from_ FUEL (0, []) (I.allMovesOf_k3 κ)).trans (optC_congr (fun qy_3 => ?_))
    kernel_rfl
  rw [hu]
  exact (I.allMovesOf_tree_nat (fun o => optC o (fun (r : List Int) => κ (.own 0) [.row (.ints .i64 r)]) none) net from_ (fun d => some d) none).symm
noncomputable def I.allMovesOf_s : D.Spec where
  keep := false
  pure := false
  ds := [.int .i64, .invalid]
  sp := fun args h κ => match args, h with
    | [.ro false (.ints .i64 net), .int .i64 from_], [] => optC (I.allMovesOf_t net from_) (fun (r : List Int) => κ (.own 0) [.row (.ints .i64 r)]) none
    | _, _ => none
theorem I.allMovesOf_ok : SpecOk Try.prog 83 I.allMovesOf_s := by
  refine SpecOk.of TDok mixed (T := I.allMovesOf_T) ?_ (ann := I.allMovesOf_ann) Try.func83 rfl (by decide +kernel) ?_ ?_ ?_
  · intro p hp
    simp only [I.allMovesOf_T, List.mem_cons, List.not_mem_nil, or_false] at hp
    rcases hp with rfl | rfl
    · exact I.allOf_ok
    · exact I.allMoveIn_ok
  · intro args h κ r hh
    simp only [I.allMovesOf_s] at hh
    split at hh
    · exact (I.allMovesOf_den _ _ κ).trans hh
    · cases hh
  · intro args h κ r hh
    simp only [I.allMovesOf_s] at hh ⊢
    split at hh
    · exact optC_law2 (F := fun (r : List Int) κ => κ (.own 0) [.row (.ints .i64 r)]) (fun b κ r hb => ⟨_, _, hb, fun _ => rfl⟩) hh
    · cases hh
  · intro hh; cases hh

-- loop.example/guardsonnets/impl.allMovesIn
noncomputable def I.allMovesIn_T : List (Nat × D.Spec) := [(61, I.allOf_s), (83, I.allMovesOf_s)]
def I.allMovesIn_ann : Nat → List Nat × List Nat
  | 3 => ([0, 3, 4], [3])
  | _ => ([], [])
noncomputable def I.allMovesIn_F (args : List V) (h : List E) (κ : V → List E → R) : R := funC TD (tableK I.allMovesIn_T) I.allMovesIn_ann (drawOk (tableP I.allMovesIn_T)) FUEL Try.f75 args h κ
noncomputable def I.allMovesIn_L3 (n : Nat) (σ : St) (k : X → St → R) : R := iterC 0 (fun σ k => denC TD (tableK I.allMovesIn_T) I.allMovesIn_ann (drawOk (tableP I.allMovesIn_T)) 0 FUEL ((findLoop 3 (Try.f75.body.getD .skip)).getD .skip) σ k) [0, 3, 4] [3] n σ k
noncomputable def I.allMovesIn_k3 (κ : V → List E → R) : X → St → R := (afterC TD (tableK I.allMovesIn_T) I.allMovesIn_ann (drawOk (tableP I.allMovesIn_T)) 0 FUEL 3 (Try.f75.body.getD .skip) (finC TD 0 Try.f75 κ)).getD (fun _ _ => none)
noncomputable def I.allMovesIn_step3 {α : Type} (x0 : List Int) (x4 : Int) (r0 : List (List Int)) (next_ : Int × (List (List Int)) → α) (out0_ : List (List Int) → α) (fail_ : α) : α :=
  (optC (I.allOf_t x0) (fun c_2 => (bif decide (x4 ≤ c_2) then (optC (I.allMovesOf_t x0 x4) (fun c_3 => (bif decide (0 ≤ x4) && decide (x4 < (↑r0.length : Int)) then (bif decide (x4.toNat < r0.length) then (next_ (IntKind.i64.wrap (x4 + 1), r0.set x4.toNat c_3)) else fail_) else fail_)) fail_) else (out0_ r0))) fail_)
theorem I.allMovesIn_step3_nat {α γ : Type} (g : α → γ) (x0 : List Int) (x4 : Int) (r0 : List (List Int)) (next_ : Int × (List (List Int)) → α) (out0_ : List (List Int) → α) (fail_ : α) : g (I.allMovesIn_step3 x0 x4 r0 next_ out0_ fail_) = I.allMovesIn_step3 x0 x4 r0 (fun s => g (next_ s)) (fun d => g (out0_ d)) (g fail_) := by
  unfold I.allMovesIn_step3; simp only [apply_cnd g, apply_optC g, apply_sumC g]
noncomputable def I.allMovesIn_run3 (x0 : List Int) : Nat → Int × (List (List Int)) → Option (List (List Int))
  | 0, _ => none
  | n + 1, s_ => I.allMovesIn_step3 x0 s_.1 s_.2 (I.allMovesIn_run3 x0 n) (fun d => some d) none
theorem I.allMovesIn_L3_run (x0 : List Int) (n : Nat) (s_ : Int × (List (List Int))) (k : X → St → R) : I.allMovesIn_L3 n { n := 22, t := [(0, (.ro false (.ints .i64 x0))), (3, (.own 0)), (4, (.int .i64 s_.1))], h := [.row (.rows s_.2)] } k = optC (I.allMovesIn_run3 x0 n s_) (fun (r : List (List Int)) => k (.exit 0) { n := 22, t := [(3, (.own 0))], h := [.row (.rows r)] }) none := by
  induction n generalizing s_ with
  | zero => rfl
  | succ n ih =>
    have hu : I.allMovesIn_L3 (n + 1) { n := 22, t := [(0, (.ro false (.ints .i64 x0))), (3, (.own 0)), (4, (.int .i64 s_.1))], h := [.row (.rows s_.2)] } k = I.allMovesIn_step3 x0 s_.1 s_.2 (fun s_ => I.allMovesIn_L3 n { n := 22, t := [(0, (.ro false (.ints .i64 x0))), (3, (.own 0)), (4, (.int .i64 s_.1))], h := [.row (.rows s_.2)] } k) (fun d => k (.exit 0) { n := 22, t := [(3, (.own 0))], h := [.row (.rows d)] }) none := by
      kernel_rfl
    have hs : (fun s_ : Int × (List (List Int)) => I.allMovesIn_L3 n { n := 22, t := [(0, (.ro false (.ints .i64 x0))), (3, (.own 0)), (4, (.int .i64 s_.1))], h := [.row (.rows s_.2)] } k) = fun s_ => optC (I.allMovesIn_run3 x0 n s_) (fun (r : List (List Int)) => k (.exit 0) { n := 22, t := [(3, (.own 0))], h := [.row (.rows r)] }) none := funext ih
    rw [hu, hs]
    exact (I.allMovesIn_step3_nat (fun o => optC o (fun (r : List (List Int)) => k (.exit 0) { n := 22, t := [(3, (.own 0))], h := [.row (.rows r)] }) none) x0 s_.1 s_.2 (I.allMovesIn_run3 x0 n) (fun d => some d) none).symm
noncomputable def I.allMovesIn_tree {α : Type} (net : List Int) (leaf0_ : List (List Int) → α) (fail_ : α) : α :=
  (optC (I.allOf_t net) (fun c_1 => (bif decide (0 ≤ IntKind.i64.wrap (c_1 + 1)) && small (IntKind.i64.wrap (c_1 + 1)).toNat && true then (optC (I.allMovesIn_run3 net FUEL (0, List.replicate (IntKind.i64.wrap (c_1 + 1)).toNat [])) (fun qy_4 => (leaf0_ qy_4)) fail_) else fail_)) fail_)
theorem I.allMovesIn_tree_nat {α γ : Type} (g : α → γ) (net : List Int) (leaf0_ : List (List Int) → α) (fail_ : α) : g (I.allMovesIn_tree net leaf0_ fail_) = I.allMovesIn_tree net (fun d => g (leaf0_ d)) (g fail_) := by
  unfold I.allMovesIn_tree; simp only [apply_cnd g, apply_optC g, apply_sumC g]
noncomputable def I.allMovesIn_t (net : List Int) : Option (List (List Int)) := I.allMovesIn_tree net (fun d => some d) none
theorem I.allMovesIn_den (net : List Int) (κ : V → List E → R) : I.allMovesIn_F [.ro false (.ints .i64 net)] [] κ = optC (I.allMovesIn_t net) (fun (r : List (List Int)) => κ (.own 0) [.row (.rows r)]) none := by
  have hu : I.allMovesIn_F [.ro false (.ints .i64 net)] [] κ = I.allMovesIn_tree net (fun d => κ (.own 0) [.row (.rows d)]) none := by
    refine Eq.trans (show I.allMovesIn_F [.ro false (.ints .i64 net)] [] κ = (optC (I.allOf_t net) (fun c_1 => (bif decide (0 ≤ IntKind.i64.wrap (c_1 + 1)) && small (IntKind.i64.wrap (c_1 + 1)).toNat && true then (I.allMovesIn_L3 FUEL { n := 22, t := [(0, (.ro false (.ints .i64 net))), (3, (.own 0)), (4, (.int .i64 0))], h := [.row (.rows (List.replicate (IntKind.i64.wrap (c_1 + 1)).toNat []))] } (I.allMovesIn_k3 κ)) else none)) none) by kernel_rfl) ?_
    refine optC_congr (fun c_1 => ?_)
    refine cnd_congr ?_ ?_
    · refine (I.allMovesIn_L3_run net FUEL (0, List.replicate (IntKind.i64.wrap (c_1 + 1)).toNat []) (I.allMovesIn_k3 κ)).trans (optC_congr (fun qy_4 => ?_))
      kernel_rfl
    · kernel_rfl
  rw [hu]
  exact (I.allMovesIn_tree_nat (fun o => optC o (fun (r : List (List Int)) => κ (.own 0) [.row (.rows r)]) none) net (fun d => some d) none).symm
noncomputable def I.allMovesIn_s : D.Spec where
  keep := false
  pure := false
  ds := [.int .i64]
  sp := fun args h κ => match args, h with
    | [.ro false (.ints .i64 net)], [] => optC (I.allMovesIn_t net) (fun (r : List (List Int)) => κ (.own 0) [.row (.rows r)]) none
    | _, _ => none
theorem I.allMovesIn_ok : SpecOk Try.prog 75 I.allMovesIn_s := by
  refine SpecOk.of TDok mixed (T := I.allMovesIn_T) ?_ (ann := I.allMovesIn_ann) Try.func75 rfl (by decide +kernel) ?_ ?_ ?_
  · intro p hp
    simp only [I.allMovesIn_T, List.mem_cons, List.not_mem_nil, or_false] at hp
    rcases hp with rfl | rfl
    · exact I.allOf_ok
    · exact I.allMovesOf_ok
  · intro args h κ r hh
    simp only [I.allMovesIn_s] at hh
    split at hh
    · exact (I.allMovesIn_den _ κ).trans hh
    · cases hh
  · intro args h κ r hh
    simp only [I.allMovesIn_s] at hh ⊢
    split at hh
    · exact optC_law2 (F := fun (r : List (List Int)) κ => κ (.own 0) [.row (.rows r)]) (fun b κ r hb => ⟨_, _, hb, fun _ => rfl⟩) hh
    · cases hh
  · intro hh; cases hh

-- loop.example/guardsonnets/impl.answeredBy
noncomputable def I.answeredBy_T : List (Nat × D.Spec) := []
def I.answeredBy_ann : Nat → List Nat × List Nat
  | 3 => ([0, 2, 7, 8], [7])
  | _ => ([], [])
noncomputable def I.answeredBy_F (args : List V) (h : List E) (κ : V → List E → R) : R := funC TD (tableK I.answeredBy_T) I.answeredBy_ann (drawOk (tableP I.answeredBy_T)) FUEL Try.f82 args h κ
noncomputable def I.answeredBy_L3 (n : Nat) (σ : St) (k : X → St → R) : R := iterC 0 (fun σ k => denC TD (tableK I.answeredBy_T) I.answeredBy_ann (drawOk (tableP I.answeredBy_T)) 0 FUEL ((findLoop 3 (Try.f82.body.getD .skip)).getD .skip) σ k) [0, 2, 7, 8] [7] n σ k
noncomputable def I.answeredBy_k3 (κ : V → List E → R) : X → St → R := (afterC TD (tableK I.answeredBy_T) I.answeredBy_ann (drawOk (tableP I.answeredBy_T)) 0 FUEL 3 (Try.f82.body.getD .skip) (finC TD 0 Try.f82 κ)).getD (fun _ _ => none)
noncomputable def I.answeredBy_step3 {α : Type} (x0 : List Bool) (x2 : List Int) (x7 : Int) (x8 : Int) (next_ : Int × Int → α) (out0_ : Int → α) (fail_ : α) : α :=
  (bif decide (x8 < (↑x2.length : Int)) then (bif decide (0 ≤ x8) && decide (x8 < (↑x2.length : Int)) then (bif decide (0 ≤ eli x2 x8.toNat) && decide (eli x2 x8.toNat < (↑x0.length : Int)) then (bif elb x0 (eli x2 x8.toNat).toNat then (bif decide (0 ≤ x8) && decide (x8 < (↑x2.length : Int)) then (next_ (bits BinOp.or IntKind.i64 x7 (eli x2 x8.toNat), IntKind.i64.wrap (x8 + 1))) else fail_) else (next_ (x7, IntKind.i64.wrap (x8 + 1)))) else fail_) else fail_) else (out0_ x7))
theorem I.answeredBy_step3_nat {α γ : Type} (g : α → γ) (x0 : List Bool) (x2 : List Int) (x7 : Int) (x8 : Int) (next_ : Int × Int → α) (out0_ : Int → α) (fail_ : α) : g (I.answeredBy_step3 x0 x2 x7 x8 next_ out0_ fail_) = I.answeredBy_step3 x0 x2 x7 x8 (fun s => g (next_ s)) (fun d => g (out0_ d)) (g fail_) := by
  unfold I.answeredBy_step3; simp only [apply_cnd g, apply_optC g, apply_sumC g]
noncomputable def I.answeredBy_run3 (x0 : List Bool) (x2 : List Int) : Nat → Int × Int → Option (Int)
  | 0, _ => none
  | n + 1, s_ => I.answeredBy_step3 x0 x2 s_.1 s_.2 (I.answeredBy_run3 x0 x2 n) (fun d => some d) none
theorem I.answeredBy_L3_run (x0 : List Bool) (x2 : List Int) (n : Nat) (s_ : Int × Int) (k : X → St → R) : I.answeredBy_L3 n { n := 30, t := [(0, (.ro false (.bools x0))), (2, (.ro false (.ints .i64 x2))), (7, (.int .i64 s_.1)), (8, (.int .i64 s_.2))], h := [] } k = optC (I.answeredBy_run3 x0 x2 n s_) (fun (r : Int) => k (.exit 0) { n := 30, t := [(7, (.int .i64 r))], h := [] }) none := by
  induction n generalizing s_ with
  | zero => rfl
  | succ n ih =>
    have hu : I.answeredBy_L3 (n + 1) { n := 30, t := [(0, (.ro false (.bools x0))), (2, (.ro false (.ints .i64 x2))), (7, (.int .i64 s_.1)), (8, (.int .i64 s_.2))], h := [] } k = I.answeredBy_step3 x0 x2 s_.1 s_.2 (fun s_ => I.answeredBy_L3 n { n := 30, t := [(0, (.ro false (.bools x0))), (2, (.ro false (.ints .i64 x2))), (7, (.int .i64 s_.1)), (8, (.int .i64 s_.2))], h := [] } k) (fun d => k (.exit 0) { n := 30, t := [(7, (.int .i64 d))], h := [] }) none := by
      kernel_rfl
    have hs : (fun s_ : Int × Int => I.answeredBy_L3 n { n := 30, t := [(0, (.ro false (.bools x0))), (2, (.ro false (.ints .i64 x2))), (7, (.int .i64 s_.1)), (8, (.int .i64 s_.2))], h := [] } k) = fun s_ => optC (I.answeredBy_run3 x0 x2 n s_) (fun (r : Int) => k (.exit 0) { n := 30, t := [(7, (.int .i64 r))], h := [] }) none := funext ih
    rw [hu, hs]
    exact (I.answeredBy_step3_nat (fun o => optC o (fun (r : Int) => k (.exit 0) { n := 30, t := [(7, (.int .i64 r))], h := [] }) none) x0 x2 s_.1 s_.2 (I.answeredBy_run3 x0 x2 n) (fun d => some d) none).symm
noncomputable def I.answeredBy_tree {α : Type} (lasting : List Bool) (set_ : Int) (leads : List Int) (leaf0_ : Int → α) (fail_ : α) : α :=
  (optC (I.answeredBy_run3 lasting leads FUEL (set_, 0)) (fun qy_1 => (leaf0_ qy_1)) fail_)
theorem I.answeredBy_tree_nat {α γ : Type} (g : α → γ) (lasting : List Bool) (set_ : Int) (leads : List Int) (leaf0_ : Int → α) (fail_ : α) : g (I.answeredBy_tree lasting set_ leads leaf0_ fail_) = I.answeredBy_tree lasting set_ leads (fun d => g (leaf0_ d)) (g fail_) := by
  unfold I.answeredBy_tree; simp only [apply_cnd g, apply_optC g, apply_sumC g]
noncomputable def I.answeredBy_t (lasting : List Bool) (set_ : Int) (leads : List Int) : Option (Int) := I.answeredBy_tree lasting set_ leads (fun d => some d) none
theorem I.answeredBy_den (lasting : List Bool) (set_ : Int) (leads : List Int) (κ : V → List E → R) : I.answeredBy_F [.ro false (.bools lasting), .int .i64 set_, .ro false (.ints .i64 leads)] [] κ = optC (I.answeredBy_t lasting set_ leads) (fun (r : Int) => κ (.int .i64 r) []) none := by
  have hu : I.answeredBy_F [.ro false (.bools lasting), .int .i64 set_, .ro false (.ints .i64 leads)] [] κ = I.answeredBy_tree lasting set_ leads (fun d => κ (.int .i64 d) []) none := by
    refine Eq.trans (show I.answeredBy_F [.ro false (.bools lasting), .int .i64 set_, .ro false (.ints .i64 leads)] [] κ = (I.answeredBy_L3 FUEL { n := 30, t := [(0, (.ro false (.bools lasting))), (2, (.ro false (.ints .i64 leads))), (7, (.int .i64 set_)), (8, (.int .i64 0))], h := [] } (I.answeredBy_k3 κ)) by kernel_rfl) ?_
    refine (I.answeredBy_L3_run lasting leads FUEL (set_, 0) (I.answeredBy_k3 κ)).trans (optC_congr (fun qy_1 => ?_))
    kernel_rfl
  rw [hu]
  exact (I.answeredBy_tree_nat (fun o => optC o (fun (r : Int) => κ (.int .i64 r) []) none) lasting set_ leads (fun d => some d) none).symm
noncomputable def I.answeredBy_s : D.Spec where
  keep := false
  pure := true
  ds := [.bool, .invalid, .int .i64]
  sp := fun args h κ => match args, h with
    | [.ro false (.bools lasting), .int .i64 set_, .ro false (.ints .i64 leads)], [] => optC (I.answeredBy_t lasting set_ leads) (fun (r : Int) => κ (.int .i64 r) []) none
    | _, _ => none
theorem I.answeredBy_ok : SpecOk Try.prog 82 I.answeredBy_s := by
  refine SpecOk.of TDok mixed (T := I.answeredBy_T) ?_ (ann := I.answeredBy_ann) Try.func82 rfl (by decide +kernel) ?_ ?_ ?_
  · intro p hp; cases hp
  · intro args h κ r hh
    simp only [I.answeredBy_s] at hh
    split at hh
    · exact (I.answeredBy_den _ _ _ κ).trans hh
    · cases hh
  · intro args h κ r hh
    simp only [I.answeredBy_s] at hh ⊢
    split at hh
    · exact optC_law2 (F := fun (r : Int) κ => κ (.int .i64 r) []) (fun b κ r hb => ⟨_, _, hb, fun _ => rfl⟩) hh
    · cases hh
  · intro _ args h κ r hh
    simp only [I.answeredBy_s] at hh
    split at hh
    · exact ⟨rfl, fun _ => rfl⟩
    · cases hh

-- loop.example/guardsonnets/impl.lastingIn
noncomputable def I.lastingIn_T : List (Nat × D.Spec) := [(61, I.allOf_s), (82, I.answeredBy_s)]
def I.lastingIn_ann : Nat → List Nat × List Nat
  | 10 => ([0, 1, 5, 7, 8], [0, 1, 5, 7])
  | 7 => ([0, 1, 5, 7], [5])
  | 3 => ([0, 1, 5, 6], [0, 1, 5])
  | _ => ([], [])
noncomputable def I.lastingIn_F (args : List V) (h : List E) (κ : V → List E → R) : R := funC TD (tableK I.lastingIn_T) I.lastingIn_ann (drawOk (tableP I.lastingIn_T)) FUEL Try.f74 args h κ
noncomputable def I.lastingIn_L10 (n : Nat) (σ : St) (k : X → St → R) : R := iterC 0 (fun σ k => denC TD (tableK I.lastingIn_T) I.lastingIn_ann (drawOk (tableP I.lastingIn_T)) 0 FUEL ((findLoop 10 (Try.f74.body.getD .skip)).getD .skip) σ k) [0, 1, 5, 7, 8] [0, 1, 5, 7] n σ k
noncomputable def I.lastingIn_L7 (n : Nat) (σ : St) (k : X → St → R) : R := iterC 0 (fun σ k => denC TD (tableK I.lastingIn_T) I.lastingIn_ann (drawOk (tableP I.lastingIn_T)) 0 FUEL ((findLoop 7 (Try.f74.body.getD .skip)).getD .skip) σ k) [0, 1, 5, 7] [5] n σ k
noncomputable def I.lastingIn_L3 (n : Nat) (σ : St) (k : X → St → R) : R := iterC 0 (fun σ k => denC TD (tableK I.lastingIn_T) I.lastingIn_ann (drawOk (tableP I.lastingIn_T)) 0 FUEL ((findLoop 3 (Try.f74.body.getD .skip)).getD .skip) σ k) [0, 1, 5, 6] [0, 1, 5] n σ k
noncomputable def I.lastingIn_k3 (κ : V → List E → R) : X → St → R := (afterC TD (tableK I.lastingIn_T) I.lastingIn_ann (drawOk (tableP I.lastingIn_T)) 0 FUEL 3 (Try.f74.body.getD .skip) (finC TD 0 Try.f74 κ)).getD (fun _ _ => none)
noncomputable def I.lastingIn_k10 (c : (St → R) × (X → St → R)) : X → St → R := (afterC TD (tableK I.lastingIn_T) I.lastingIn_ann (drawOk (tableP I.lastingIn_T)) 0 FUEL 10 ((findLoop 7 (Try.f74.body.getD .skip)).getD .skip) (roundC 0 [0, 1, 5, 7] [5] c.1 c.2)).getD (fun _ _ => none)
noncomputable def I.lastingIn_k7 (κ : V → List E → R) : X → St → R := (afterC TD (tableK I.lastingIn_T) I.lastingIn_ann (drawOk (tableP I.lastingIn_T)) 0 FUEL 7 (Try.f74.body.getD .skip) (finC TD 0 Try.f74 κ)).getD (fun _ _ => none)
noncomputable def I.lastingIn_step3 {α : Type} (x0 : List Int) (x1 : List (List Int)) (x6 : Int) (r0 : List Bool) (next_ : Int × (List Bool) → α) (out0_ : List Bool → α) (fail_ : α) : α :=
  (optC (I.allOf_t x0) (fun c_2 => (bif decide (x6 ≤ c_2) then (bif decide (0 ≤ x6) && decide (x6 < (↑r0.length : Int)) then (bif decide (x6.toNat < r0.length) then (next_ (IntKind.i64.wrap (x6 + 1), r0.set x6.toNat true)) else fail_) else fail_) else (out0_ r0))) fail_)
theorem I.lastingIn_step3_nat {α γ : Type} (g : α → γ) (x0 : List Int) (x1 : List (List Int)) (x6 : Int) (r0 : List Bool) (next_ : Int × (List Bool) → α) (out0_ : List Bool → α) (fail_ : α) : g (I.lastingIn_step3 x0 x1 x6 r0 next_ out0_ fail_) = I.lastingIn_step3 x0 x1 x6 r0 (fun s => g (next_ s)) (fun d => g (out0_ d)) (g fail_) := by
  unfold I.lastingIn_step3; simp only [apply_cnd g, apply_optC g, apply_sumC g]
noncomputable def I.lastingIn_run3 (x0 : List Int) (x1 : List (List Int)) : Nat → Int × (List Bool) → Option (List Bool)
  | 0, _ => none
  | n + 1, s_ => I.lastingIn_step3 x0 x1 s_.1 s_.2 (I.lastingIn_run3 x0 x1 n) (fun d => some d) none
theorem I.lastingIn_L3_run (x0 : List Int) (x1 : List (List Int)) (n : Nat) (s_ : Int × (List Bool)) (k : X → St → R) : I.lastingIn_L3 n { n := 49, t := [(0, (.ro false (.ints .i64 x0))), (1, (.ro false (.rows x1))), (5, (.own 0)), (6, (.int .i64 s_.1))], h := [.row (.bools s_.2)] } k = optC (I.lastingIn_run3 x0 x1 n s_) (fun (r : List Bool) => k (.exit 0) { n := 49, t := [(0, (.ro false (.ints .i64 x0))), (1, (.ro false (.rows x1))), (5, (.own 0))], h := [.row (.bools r)] }) none := by
  induction n generalizing s_ with
  | zero => rfl
  | succ n ih =>
    have hu : I.lastingIn_L3 (n + 1) { n := 49, t := [(0, (.ro false (.ints .i64 x0))), (1, (.ro false (.rows x1))), (5, (.own 0)), (6, (.int .i64 s_.1))], h := [.row (.bools s_.2)] } k = I.lastingIn_step3 x0 x1 s_.1 s_.2 (fun s_ => I.lastingIn_L3 n { n := 49, t := [(0, (.ro false (.ints .i64 x0))), (1, (.ro false (.rows x1))), (5, (.own 0)), (6, (.int .i64 s_.1))], h := [.row (.bools s_.2)] } k) (fun d => k (.exit 0) { n := 49, t := [(0, (.ro false (.ints .i64 x0))), (1, (.ro false (.rows x1))), (5, (.own 0))], h := [.row (.bools d)] }) none := by
      kernel_rfl
    have hs : (fun s_ : Int × (List Bool) => I.lastingIn_L3 n { n := 49, t := [(0, (.ro false (.ints .i64 x0))), (1, (.ro false (.rows x1))), (5, (.own 0)), (6, (.int .i64 s_.1))], h := [.row (.bools s_.2)] } k) = fun s_ => optC (I.lastingIn_run3 x0 x1 n s_) (fun (r : List Bool) => k (.exit 0) { n := 49, t := [(0, (.ro false (.ints .i64 x0))), (1, (.ro false (.rows x1))), (5, (.own 0))], h := [.row (.bools r)] }) none := funext ih
    rw [hu, hs]
    exact (I.lastingIn_step3_nat (fun o => optC o (fun (r : List Bool) => k (.exit 0) { n := 49, t := [(0, (.ro false (.ints .i64 x0))), (1, (.ro false (.rows x1))), (5, (.own 0))], h := [.row (.bools r)] }) none) x0 x1 s_.1 s_.2 (I.lastingIn_run3 x0 x1 n) (fun d => some d) none).symm
noncomputable def I.lastingIn_step10 {α : Type} (x0 : List Int) (x1 : List (List Int)) (x7 : Bool) (x8 : Int) (r0 : List Bool) (next_ : Bool × Int × (List Bool) → α) (out0_ : Bool × (List Bool) → α) (fail_ : α) : α :=
  (optC (I.allOf_t x0) (fun c_4 => (bif decide (x8 ≤ c_4) then (bif decide (0 ≤ x8) && decide (x8 < (↑r0.length : Int)) then (bif decide (x8.toNat < r0.length) then (bif elb r0 x8.toNat then (bif decide (0 ≤ x8) && decide (x8 < (↑x1.length : Int)) then (optC (I.answeredBy_t r0 x8 (elr x1 x8.toNat)) (fun c_5 => (optC (I.allOf_t x0) (fun c_6 => (bif !c_5 == c_6 then (bif decide (0 ≤ x8) && decide (x8 < (↑r0.length : Int)) then (bif decide (x8.toNat < r0.length) then (next_ (true, IntKind.i64.wrap (x8 + 1), r0.set x8.toNat false)) else fail_) else fail_) else (next_ (x7, IntKind.i64.wrap (x8 + 1), r0)))) fail_)) fail_) else fail_) else (next_ (x7, IntKind.i64.wrap (x8 + 1), r0))) else fail_) else fail_) else (out0_ (x7, r0)))) fail_)
theorem I.lastingIn_step10_nat {α γ : Type} (g : α → γ) (x0 : List Int) (x1 : List (List Int)) (x7 : Bool) (x8 : Int) (r0 : List Bool) (next_ : Bool × Int × (List Bool) → α) (out0_ : Bool × (List Bool) → α) (fail_ : α) : g (I.lastingIn_step10 x0 x1 x7 x8 r0 next_ out0_ fail_) = I.lastingIn_step10 x0 x1 x7 x8 r0 (fun s => g (next_ s)) (fun d => g (out0_ d)) (g fail_) := by
  unfold I.lastingIn_step10; simp only [apply_cnd g, apply_optC g, apply_sumC g]
noncomputable def I.lastingIn_run10 (x0 : List Int) (x1 : List (List Int)) : Nat → Bool × Int × (List Bool) → Option (Bool × (List Bool))
  | 0, _ => none
  | n + 1, s_ => I.lastingIn_step10 x0 x1 s_.1 s_.2.1 s_.2.2 (I.lastingIn_run10 x0 x1 n) (fun d => some d) none
theorem I.lastingIn_L10_run (x0 : List Int) (x1 : List (List Int)) (n : Nat) (s_ : Bool × Int × (List Bool)) (k : X → St → R) : I.lastingIn_L10 n { n := 49, t := [(0, (.ro false (.ints .i64 x0))), (1, (.ro false (.rows x1))), (5, (.own 0)), (7, (.bool s_.1)), (8, (.int .i64 s_.2.1))], h := [.row (.bools s_.2.2)] } k = optC (I.lastingIn_run10 x0 x1 n s_) (fun (r : Bool × (List Bool)) => k (.exit 4) { n := 49, t := [(0, (.ro false (.ints .i64 x0))), (1, (.ro false (.rows x1))), (5, (.own 0)), (7, (.bool r.1))], h := [.row (.bools r.2)] }) none := by
  induction n generalizing s_ with
  | zero => rfl
  | succ n ih =>
    have hu : I.lastingIn_L10 (n + 1) { n := 49, t := [(0, (.ro false (.ints .i64 x0))), (1, (.ro false (.rows x1))), (5, (.own 0)), (7, (.bool s_.1)), (8, (.int .i64 s_.2.1))], h := [.row (.bools s_.2.2)] } k = I.lastingIn_step10 x0 x1 s_.1 s_.2.1 s_.2.2 (fun s_ => I.lastingIn_L10 n { n := 49, t := [(0, (.ro false (.ints .i64 x0))), (1, (.ro false (.rows x1))), (5, (.own 0)), (7, (.bool s_.1)), (8, (.int .i64 s_.2.1))], h := [.row (.bools s_.2.2)] } k) (fun d => k (.exit 4) { n := 49, t := [(0, (.ro false (.ints .i64 x0))), (1, (.ro false (.rows x1))), (5, (.own 0)), (7, (.bool d.1))], h := [.row (.bools d.2)] }) none := by
      kernel_rfl
    have hs : (fun s_ : Bool × Int × (List Bool) => I.lastingIn_L10 n { n := 49, t := [(0, (.ro false (.ints .i64 x0))), (1, (.ro false (.rows x1))), (5, (.own 0)), (7, (.bool s_.1)), (8, (.int .i64 s_.2.1))], h := [.row (.bools s_.2.2)] } k) = fun s_ => optC (I.lastingIn_run10 x0 x1 n s_) (fun (r : Bool × (List Bool)) => k (.exit 4) { n := 49, t := [(0, (.ro false (.ints .i64 x0))), (1, (.ro false (.rows x1))), (5, (.own 0)), (7, (.bool r.1))], h := [.row (.bools r.2)] }) none := funext ih
    rw [hu, hs]
    exact (I.lastingIn_step10_nat (fun o => optC o (fun (r : Bool × (List Bool)) => k (.exit 4) { n := 49, t := [(0, (.ro false (.ints .i64 x0))), (1, (.ro false (.rows x1))), (5, (.own 0)), (7, (.bool r.1))], h := [.row (.bools r.2)] }) none) x0 x1 s_.1 s_.2.1 s_.2.2 (I.lastingIn_run10 x0 x1 n) (fun d => some d) none).symm
noncomputable def I.lastingIn_step7 {α : Type} (x0 : List Int) (x1 : List (List Int)) (x7 : Bool) (r0 : List Bool) (next_ : Bool × (List Bool) → α) (out0_ : List Bool → α) (fail_ : α) : α :=
  (bif x7 then (optC (I.lastingIn_run10 x0 x1 FUEL (false, 0, r0)) (fun qy_7 => (next_ (qy_7.1, qy_7.2))) fail_) else (out0_ r0))
theorem I.lastingIn_step7_nat {α γ : Type} (g : α → γ) (x0 : List Int) (x1 : List (List Int)) (x7 : Bool) (r0 : List Bool) (next_ : Bool × (List Bool) → α) (out0_ : List Bool → α) (fail_ : α) : g (I.lastingIn_step7 x0 x1 x7 r0 next_ out0_ fail_) = I.lastingIn_step7 x0 x1 x7 r0 (fun s => g (next_ s)) (fun d => g (out0_ d)) (g fail_) := by
  unfold I.lastingIn_step7; simp only [apply_cnd g, apply_optC g, apply_sumC g]
noncomputable def I.lastingIn_run7 (x0 : List Int) (x1 : List (List Int)) : Nat → Bool × (List Bool) → Option (List Bool)
  | 0, _ => none
  | n + 1, s_ => I.lastingIn_step7 x0 x1 s_.1 s_.2 (I.lastingIn_run7 x0 x1 n) (fun d => some d) none
theorem I.lastingIn_L7_run (x0 : List Int) (x1 : List (List Int)) (n : Nat) (s_ : Bool × (List Bool)) (k : X → St → R) : I.lastingIn_L7 n { n := 49, t := [(0, (.ro false (.ints .i64 x0))), (1, (.ro false (.rows x1))), (5, (.own 0)), (7, (.bool s_.1))], h := [.row (.bools s_.2)] } k = optC (I.lastingIn_run7 x0 x1 n s_) (fun (r : List Bool) => k (.exit 2) { n := 49, t := [(5, (.own 0))], h := [.row (.bools r)] }) none := by
  induction n generalizing s_ with
  | zero => rfl
  | succ n ih =>
    have hu : I.lastingIn_L7 (n + 1) { n := 49, t := [(0, (.ro false (.ints .i64 x0))), (1, (.ro false (.rows x1))), (5, (.own 0)), (7, (.bool s_.1))], h := [.row (.bools s_.2)] } k = I.lastingIn_step7 x0 x1 s_.1 s_.2 (fun s_ => I.lastingIn_L7 n { n := 49, t := [(0, (.ro false (.ints .i64 x0))), (1, (.ro false (.rows x1))), (5, (.own 0)), (7, (.bool s_.1))], h := [.row (.bools s_.2)] } k) (fun d => k (.exit 2) { n := 49, t := [(5, (.own 0))], h := [.row (.bools d)] }) none := by
      refine Eq.trans (show I.lastingIn_L7 (n + 1) { n := 49, t := [(0, (.ro false (.ints .i64 x0))), (1, (.ro false (.rows x1))), (5, (.own 0)), (7, (.bool s_.1))], h := [.row (.bools s_.2)] } k = (bif s_.1 then (I.lastingIn_L10 FUEL { n := 49, t := [(0, (.ro false (.ints .i64 x0))), (1, (.ro false (.rows x1))), (5, (.own 0)), (7, (.bool false)), (8, (.int .i64 0))], h := [.row (.bools s_.2)] } (I.lastingIn_k10 ((fun σ => I.lastingIn_L7 n σ k), k))) else (k (.exit 2) { n := 49, t := [(5, (.own 0))], h := [.row (.bools s_.2)] })) by kernel_rfl) ?_
      refine cnd_congr ?_ ?_
      · refine (I.lastingIn_L10_run x0 x1 FUEL (false, 0, s_.2) (I.lastingIn_k10 ((fun σ => I.lastingIn_L7 n σ k), k))).trans (optC_congr (fun qy_7 => ?_))
        kernel_rfl
      · kernel_rfl
    have hs : (fun s_ : Bool × (List Bool) => I.lastingIn_L7 n { n := 49, t := [(0, (.ro false (.ints .i64 x0))), (1, (.ro false (.rows x1))), (5, (.own 0)), (7, (.bool s_.1))], h := [.row (.bools s_.2)] } k) = fun s_ => optC (I.lastingIn_run7 x0 x1 n s_) (fun (r : List Bool) => k (.exit 2) { n := 49, t := [(5, (.own 0))], h := [.row (.bools r)] }) none := funext ih
    rw [hu, hs]
    exact (I.lastingIn_step7_nat (fun o => optC o (fun (r : List Bool) => k (.exit 2) { n := 49, t := [(5, (.own 0))], h := [.row (.bools r)] }) none) x0 x1 s_.1 s_.2 (I.lastingIn_run7 x0 x1 n) (fun d => some d) none).symm
noncomputable def I.lastingIn_tree {α : Type} (net : List Int) (leads : List (List Int)) (leaf0_ : List Bool → α) (fail_ : α) : α :=
  (optC (I.allOf_t net) (fun c_1 => (bif decide (0 ≤ IntKind.i64.wrap (c_1 + 1)) && small (IntKind.i64.wrap (c_1 + 1)).toNat && true then (optC (I.lastingIn_run3 net leads FUEL (0, List.replicate (IntKind.i64.wrap (c_1 + 1)).toNat false)) (fun qy_3 => (optC (I.lastingIn_run7 net leads FUEL (true, qy_3)) (fun qy_8 => (leaf0_ qy_8)) fail_)) fail_) else fail_)) fail_)
theorem I.lastingIn_tree_nat {α γ : Type} (g : α → γ) (net : List Int) (leads : List (List Int)) (leaf0_ : List Bool → α) (fail_ : α) : g (I.lastingIn_tree net leads leaf0_ fail_) = I.lastingIn_tree net leads (fun d => g (leaf0_ d)) (g fail_) := by
  unfold I.lastingIn_tree; simp only [apply_cnd g, apply_optC g, apply_sumC g]
noncomputable def I.lastingIn_t (net : List Int) (leads : List (List Int)) : Option (List Bool) := I.lastingIn_tree net leads (fun d => some d) none
theorem I.lastingIn_den (net : List Int) (leads : List (List Int)) (κ : V → List E → R) : I.lastingIn_F [.ro false (.ints .i64 net), .ro false (.rows leads)] [] κ = optC (I.lastingIn_t net leads) (fun (r : List Bool) => κ (.own 0) [.row (.bools r)]) none := by
  have hu : I.lastingIn_F [.ro false (.ints .i64 net), .ro false (.rows leads)] [] κ = I.lastingIn_tree net leads (fun d => κ (.own 0) [.row (.bools d)]) none := by
    refine Eq.trans (show I.lastingIn_F [.ro false (.ints .i64 net), .ro false (.rows leads)] [] κ = (optC (I.allOf_t net) (fun c_1 => (bif decide (0 ≤ IntKind.i64.wrap (c_1 + 1)) && small (IntKind.i64.wrap (c_1 + 1)).toNat && true then (I.lastingIn_L3 FUEL { n := 49, t := [(0, (.ro false (.ints .i64 net))), (1, (.ro false (.rows leads))), (5, (.own 0)), (6, (.int .i64 0))], h := [.row (.bools (List.replicate (IntKind.i64.wrap (c_1 + 1)).toNat false))] } (I.lastingIn_k3 κ)) else none)) none) by kernel_rfl) ?_
    refine optC_congr (fun c_1 => ?_)
    refine cnd_congr ?_ ?_
    · refine (I.lastingIn_L3_run net leads FUEL (0, List.replicate (IntKind.i64.wrap (c_1 + 1)).toNat false) (I.lastingIn_k3 κ)).trans (optC_congr (fun qy_3 => ?_))
      refine Eq.trans (show (I.lastingIn_k3 κ (.exit 0) { n := 49, t := [(0, (.ro false (.ints .i64 net))), (1, (.ro false (.rows leads))), (5, (.own 0))], h := [.row (.bools qy_3)] }) = (I.lastingIn_L7 FUEL { n := 49, t := [(0, (.ro false (.ints .i64 net))), (1, (.ro false (.rows leads))), (5, (.own 0)), (7, (.bool true))], h := [.row (.bools qy_3)] } (I.lastingIn_k7 κ)) by kernel_rfl) ?_
      refine (I.lastingIn_L7_run net leads FUEL (true, qy_3) (I.lastingIn_k7 κ)).trans (optC_congr (fun qy_8 => ?_))
      kernel_rfl
    · kernel_rfl
  rw [hu]
  exact (I.lastingIn_tree_nat (fun o => optC o (fun (r : List Bool) => κ (.own 0) [.row (.bools r)]) none) net leads (fun d => some d) none).symm
noncomputable def I.lastingIn_s : D.Spec where
  keep := false
  pure := false
  ds := [.int .i64, .slice 3]
  sp := fun args h κ => match args, h with
    | [.ro false (.ints .i64 net), .ro false (.rows leads)], [] => optC (I.lastingIn_t net leads) (fun (r : List Bool) => κ (.own 0) [.row (.bools r)]) none
    | _, _ => none
theorem I.lastingIn_ok : SpecOk Try.prog 74 I.lastingIn_s := by
  refine SpecOk.of TDok mixed (T := I.lastingIn_T) ?_ (ann := I.lastingIn_ann) Try.func74 rfl (by decide +kernel) ?_ ?_ ?_
  · intro p hp
    simp only [I.lastingIn_T, List.mem_cons, List.not_mem_nil, or_false] at hp
    rcases hp with rfl | rfl
    · exact I.allOf_ok
    · exact I.answeredBy_ok
  · intro args h κ r hh
    simp only [I.lastingIn_s] at hh
    split at hh
    · exact (I.lastingIn_den _ _ κ).trans hh
    · cases hh
  · intro args h κ r hh
    simp only [I.lastingIn_s] at hh ⊢
    split at hh
    · exact optC_law2 (F := fun (r : List Bool) κ => κ (.own 0) [.row (.bools r)]) (fun b κ r hb => ⟨_, _, hb, fun _ => rfl⟩) hh
    · cases hh
  · intro hh; cases hh

-- loop.example/guardsonnets/impl.allEternalIn
noncomputable def I.allEternalIn_T : List (Nat × D.Spec) := [(75, I.allMovesIn_s), (74, I.lastingIn_s)]
def I.allEternalIn_ann : Nat → List Nat × List Nat
  | _ => ([], [])
noncomputable def I.allEternalIn_F (args : List V) (h : List E) (κ : V → List E → R) : R := funC TD (tableK I.allEternalIn_T) I.allEternalIn_ann (drawOk (tableP I.allEternalIn_T)) FUEL Try.f50 args h κ
noncomputable def I.allEternalIn_tree {α : Type} (net : List Int) (leaf0_ : List Bool → α) (fail_ : α) : α :=
  (optC (I.allMovesIn_t net) (fun c_1 => (optC (I.lastingIn_t net c_1) (fun c_2 => (leaf0_ c_2)) fail_)) fail_)
theorem I.allEternalIn_tree_nat {α γ : Type} (g : α → γ) (net : List Int) (leaf0_ : List Bool → α) (fail_ : α) : g (I.allEternalIn_tree net leaf0_ fail_) = I.allEternalIn_tree net (fun d => g (leaf0_ d)) (g fail_) := by
  unfold I.allEternalIn_tree; simp only [apply_cnd g, apply_optC g, apply_sumC g]
noncomputable def I.allEternalIn_t (net : List Int) : Option (List Bool) := I.allEternalIn_tree net (fun d => some d) none
theorem I.allEternalIn_den (net : List Int) (κ : V → List E → R) : I.allEternalIn_F [.ro false (.ints .i64 net)] [] κ = optC (I.allEternalIn_t net) (fun (r : List Bool) => κ (.own 0) [.row (.bools r)]) none := by
  have hu : I.allEternalIn_F [.ro false (.ints .i64 net)] [] κ = I.allEternalIn_tree net (fun d => κ (.own 0) [.row (.bools d)]) none := by
    kernel_rfl
  rw [hu]
  exact (I.allEternalIn_tree_nat (fun o => optC o (fun (r : List Bool) => κ (.own 0) [.row (.bools r)]) none) net (fun d => some d) none).symm
noncomputable def I.allEternalIn_s : D.Spec where
  keep := false
  pure := false
  ds := [.int .i64]
  sp := fun args h κ => match args, h with
    | [.ro false (.ints .i64 net)], [] => optC (I.allEternalIn_t net) (fun (r : List Bool) => κ (.own 0) [.row (.bools r)]) none
    | _, _ => none
theorem I.allEternalIn_ok : SpecOk Try.prog 50 I.allEternalIn_s := by
  refine SpecOk.of TDok mixed (T := I.allEternalIn_T) ?_ (ann := I.allEternalIn_ann) Try.func50 rfl (by decide +kernel) ?_ ?_ ?_
  · intro p hp
    simp only [I.allEternalIn_T, List.mem_cons, List.not_mem_nil, or_false] at hp
    rcases hp with rfl | rfl
    · exact I.allMovesIn_ok
    · exact I.lastingIn_ok
  · intro args h κ r hh
    simp only [I.allEternalIn_s] at hh
    split at hh
    · exact (I.allEternalIn_den _ κ).trans hh
    · cases hh
  · intro args h κ r hh
    simp only [I.allEternalIn_s] at hh ⊢
    split at hh
    · exact optC_law2 (F := fun (r : List Bool) κ => κ (.own 0) [.row (.bools r)]) (fun b κ r hb => ⟨_, _, hb, fun _ => rfl⟩) hh
    · cases hh
  · intro hh; cases hh

-- loop.example/guardsonnets/impl.AllEternalOk
noncomputable def I.AllEternalOk_T : List (Nat × D.Spec) := [(29, I.NetOk_s), (41, I.setIn_s), (50, I.allEternalIn_s)]
def I.AllEternalOk_ann : Nat → List Nat × List Nat
  | _ => ([], [])
noncomputable def I.AllEternalOk_F (args : List V) (h : List E) (κ : V → List E → R) : R := funC TD (tableK I.AllEternalOk_T) I.AllEternalOk_ann (drawOk (tableP I.AllEternalOk_T)) FUEL Try.f21 args h κ
noncomputable def I.AllEternalOk_tree {α : Type} (net : List Int) (set_ : Int) (leaf0_ : Bool → α) (fail_ : α) : α :=
  (optC (I.NetOk_t net) (fun c_1 => (bif c_1 then (optC (I.setIn_t net set_) (fun c_2 => (bif c_2 then (optC (I.allEternalIn_t net) (fun c_3 => (bif decide (0 ≤ set_) && decide (set_ < (↑c_3.length : Int)) then (bif decide (set_.toNat < c_3.length) then (leaf0_ (elb c_3 set_.toNat)) else fail_) else fail_)) fail_) else (leaf0_ false))) fail_) else (leaf0_ false))) fail_)
theorem I.AllEternalOk_tree_nat {α γ : Type} (g : α → γ) (net : List Int) (set_ : Int) (leaf0_ : Bool → α) (fail_ : α) : g (I.AllEternalOk_tree net set_ leaf0_ fail_) = I.AllEternalOk_tree net set_ (fun d => g (leaf0_ d)) (g fail_) := by
  unfold I.AllEternalOk_tree; simp only [apply_cnd g, apply_optC g, apply_sumC g]
noncomputable def I.AllEternalOk_t (net : List Int) (set_ : Int) : Option (Bool) := I.AllEternalOk_tree net set_ (fun d => some d) none
theorem I.AllEternalOk_den (net : List Int) (set_ : Int) (κ : V → List E → R) : I.AllEternalOk_F [.ro false (.ints .i64 net), .int .i64 set_] [] κ = optC (I.AllEternalOk_t net set_) (fun (r : Bool) => κ (.bool r) []) none := by
  have hu : I.AllEternalOk_F [.ro false (.ints .i64 net), .int .i64 set_] [] κ = I.AllEternalOk_tree net set_ (fun d => κ (.bool d) []) none := by
    kernel_rfl
  rw [hu]
  exact (I.AllEternalOk_tree_nat (fun o => optC o (fun (r : Bool) => κ (.bool r) []) none) net set_ (fun d => some d) none).symm
noncomputable def I.AllEternalOk_s : D.Spec where
  keep := false
  pure := true
  ds := [.int .i64, .invalid]
  sp := fun args h κ => match args, h with
    | [.ro false (.ints .i64 net), .int .i64 set_], [] => optC (I.AllEternalOk_t net set_) (fun (r : Bool) => κ (.bool r) []) none
    | _, _ => none
theorem I.AllEternalOk_ok : SpecOk Try.prog 21 I.AllEternalOk_s := by
  refine SpecOk.of TDok mixed (T := I.AllEternalOk_T) ?_ (ann := I.AllEternalOk_ann) Try.func21 rfl (by decide +kernel) ?_ ?_ ?_
  · intro p hp
    simp only [I.AllEternalOk_T, List.mem_cons, List.not_mem_nil, or_false] at hp
    rcases hp with rfl | rfl | rfl
    · exact I.NetOk_ok
    · exact I.setIn_ok
    · exact I.allEternalIn_ok
  · intro args h κ r hh
    simp only [I.AllEternalOk_s] at hh
    split at hh
    · exact (I.AllEternalOk_den _ _ κ).trans hh
    · cases hh
  · intro args h κ r hh
    simp only [I.AllEternalOk_s] at hh ⊢
    split at hh
    · exact optC_law2 (F := fun (r : Bool) κ => κ (.bool r) []) (fun b κ r hb => ⟨_, _, hb, fun _ => rfl⟩) hh
    · cases hh
  · intro _ args h κ r hh
    simp only [I.AllEternalOk_s] at hh
    split at hh
    · exact ⟨rfl, fun _ => rfl⟩
    · cases hh

-- loop.example/guardsonnets/spec.l10Answer
noncomputable def S.l10Answer_T : List (Nat × D.Spec) := [(43, S.l1Size_s), (44, S.l10Fit_s)]
def S.l10Answer_ann : Nat → List Nat × List Nat
  | 2 => ([0, 1, 2, 3, 9], [8])
  | _ => ([], [])
noncomputable def S.l10Answer_F (args : List V) (h : List E) (κ : V → List E → R) : R := funC TD (tableK S.l10Answer_T) S.l10Answer_ann (drawOk (tableP S.l10Answer_T)) FUEL Try.f68 args h κ
noncomputable def S.l10Answer_L2 (n : Nat) (σ : St) (k : X → St → R) : R := iterC 0 (fun σ k => denC TD (tableK S.l10Answer_T) S.l10Answer_ann (drawOk (tableP S.l10Answer_T)) 0 FUEL ((findLoop 2 (Try.f68.body.getD .skip)).getD .skip) σ k) [0, 1, 2, 3, 9] [8] n σ k
noncomputable def S.l10Answer_k2 (κ : V → List E → R) : X → St → R := (afterC TD (tableK S.l10Answer_T) S.l10Answer_ann (drawOk (tableP S.l10Answer_T)) 0 FUEL 2 (Try.f68.body.getD .skip) (finC TD 0 Try.f68 κ)).getD (fun _ _ => none)
noncomputable def S.l10Answer_step2 {α : Type} (x0 : List Int) (x1 : List Bool) (x2 : Int) (x3 : Int) (x9 : Int) (next_ : Int → α) (out0_ : Int → α) (out1_ : Unit → α) (fail_ : α) : α :=
  (bif decide (x9 < (↑x1.length : Int)) then (bif decide (0 ≤ x9) && decide (x9 < (↑x1.length : Int)) then (bif elb x1 x9.toNat then (bif decide (x3 < 0) then fail_ else (bif (x9.fdiv (2 ^ min x3.toNat IntKind.i64.bits)).tmod 2 == 1 then (optC (S.l1Size_t x9) (fun c_1 => (optC (S.l1Size_t x2) (fun c_2 => (bif c_1 == c_2 then (optC (S.l10Fit_t x0 x2 0 x9) (fun c_3 => (bif c_3 then (out0_ x9) else (next_ (IntKind.i64.wrap (x9 + 1))))) fail_) else (next_ (IntKind.i64.wrap (x9 + 1))))) fail_)) fail_) else (next_ (IntKind.i64.wrap (x9 + 1))))) else (next_ (IntKind.i64.wrap (x9 + 1)))) else fail_) else (out1_ ()))
theorem S.l10Answer_step2_nat {α γ : Type} (g : α → γ) (x0 : List Int) (x1 : List Bool) (x2 : Int) (x3 : Int) (x9 : Int) (next_ : Int → α) (out0_ : Int → α) (out1_ : Unit → α) (fail_ : α) : g (S.l10Answer_step2 x0 x1 x2 x3 x9 next_ out0_ out1_ fail_) = S.l10Answer_step2 x0 x1 x2 x3 x9 (fun s => g (next_ s)) (fun d => g (out0_ d)) (fun d => g (out1_ d)) (g fail_) := by
  unfold S.l10Answer_step2; simp only [apply_cnd g, apply_optC g, apply_sumC g]
noncomputable def S.l10Answer_run2 (x0 : List Int) (x1 : List Bool) (x2 : Int) (x3 : Int) : Nat → Int → Option ((Int) ⊕ (Unit))
  | 0, _ => none
  | n + 1, s_ => S.l10Answer_step2 x0 x1 x2 x3 s_ (S.l10Answer_run2 x0 x1 x2 x3 n) (fun d => some ((Sum.inl d))) (fun d => some ((Sum.inr d))) none
theorem S.l10Answer_L2_run (x0 : List Int) (x1 : List Bool) (x2 : Int) (x3 : Int) (n : Nat) (s_ : Int) (k : X → St → R) : S.l10Answer_L2 n { n := 41, t := [(0, (.ro false (.ints .i64 x0))), (1, (.ro false (.bools x1))), (2, (.int .i64 x2)), (3, (.int .i64 x3)), (9, (.int .i64 s_))], h := [] } k = optC (S.l10Answer_run2 x0 x1 x2 x3 n s_) (fun (r : (Int) ⊕ (Unit)) => (sumC r (fun (r : Int) => k (.ret) { n := 41, t := [(8, (.int .i64 r))], h := [] }) (fun (r : Unit) => k (.exit 0) { n := 41, t := [(8, .junk)], h := [] }))) none := by
  induction n generalizing s_ with
  | zero => rfl
  | succ n ih =>
    have hu : S.l10Answer_L2 (n + 1) { n := 41, t := [(0, (.ro false (.ints .i64 x0))), (1, (.ro false (.bools x1))), (2, (.int .i64 x2)), (3, (.int .i64 x3)), (9, (.int .i64 s_))], h := [] } k = S.l10Answer_step2 x0 x1 x2 x3 s_ (fun s_ => S.l10Answer_L2 n { n := 41, t := [(0, (.ro false (.ints .i64 x0))), (1, (.ro false (.bools x1))), (2, (.int .i64 x2)), (3, (.int .i64 x3)), (9, (.int .i64 s_))], h := [] } k) (fun d => k (.ret) { n := 41, t := [(8, (.int .i64 d))], h := [] }) (fun d => k (.exit 0) { n := 41, t := [(8, .junk)], h := [] }) none := by
      kernel_rfl
    have hs : (fun s_ : Int => S.l10Answer_L2 n { n := 41, t := [(0, (.ro false (.ints .i64 x0))), (1, (.ro false (.bools x1))), (2, (.int .i64 x2)), (3, (.int .i64 x3)), (9, (.int .i64 s_))], h := [] } k) = fun s_ => optC (S.l10Answer_run2 x0 x1 x2 x3 n s_) (fun (r : (Int) ⊕ (Unit)) => (sumC r (fun (r : Int) => k (.ret) { n := 41, t := [(8, (.int .i64 r))], h := [] }) (fun (r : Unit) => k (.exit 0) { n := 41, t := [(8, .junk)], h := [] }))) none := funext ih
    rw [hu, hs]
    exact (S.l10Answer_step2_nat (fun o => optC o (fun (r : (Int) ⊕ (Unit)) => (sumC r (fun (r : Int) => k (.ret) { n := 41, t := [(8, (.int .i64 r))], h := [] }) (fun (r : Unit) => k (.exit 0) { n := 41, t := [(8, .junk)], h := [] }))) none) x0 x1 x2 x3 s_ (S.l10Answer_run2 x0 x1 x2 x3 n) (fun d => some ((Sum.inl d))) (fun d => some ((Sum.inr d))) none).symm
noncomputable def S.l10Answer_tree {α : Type} (net : List Int) (lasts : List Bool) (set_ : Int) (place : Int) (leaf0_ : Int → α) (fail_ : α) : α :=
  (optC (S.l10Answer_run2 net lasts set_ place FUEL 0) (fun qy_4 => (sumC qy_4 (fun (qy_4 : Int) => (leaf0_ qy_4)) (fun (qy_4 : Unit) => (leaf0_ (-1))))) fail_)
theorem S.l10Answer_tree_nat {α γ : Type} (g : α → γ) (net : List Int) (lasts : List Bool) (set_ : Int) (place : Int) (leaf0_ : Int → α) (fail_ : α) : g (S.l10Answer_tree net lasts set_ place leaf0_ fail_) = S.l10Answer_tree net lasts set_ place (fun d => g (leaf0_ d)) (g fail_) := by
  unfold S.l10Answer_tree; simp only [apply_cnd g, apply_optC g, apply_sumC g]
noncomputable def S.l10Answer_t (net : List Int) (lasts : List Bool) (set_ : Int) (place : Int) : Option (Int) := S.l10Answer_tree net lasts set_ place (fun d => some d) none
theorem S.l10Answer_den (net : List Int) (lasts : List Bool) (set_ : Int) (place : Int) (κ : V → List E → R) : S.l10Answer_F [.ro false (.ints .i64 net), .ro false (.bools lasts), .int .i64 set_, .int .i64 place] [] κ = optC (S.l10Answer_t net lasts set_ place) (fun (r : Int) => κ (.int .i64 r) []) none := by
  have hu : S.l10Answer_F [.ro false (.ints .i64 net), .ro false (.bools lasts), .int .i64 set_, .int .i64 place] [] κ = S.l10Answer_tree net lasts set_ place (fun d => κ (.int .i64 d) []) none := by
    refine Eq.trans (show S.l10Answer_F [.ro false (.ints .i64 net), .ro false (.bools lasts), .int .i64 set_, .int .i64 place] [] κ = (S.l10Answer_L2 FUEL { n := 41, t := [(0, (.ro false (.ints .i64 net))), (1, (.ro false (.bools lasts))), (2, (.int .i64 set_)), (3, (.int .i64 place)), (9, (.int .i64 0))], h := [] } (S.l10Answer_k2 κ)) by kernel_rfl) ?_
    refine (S.l10Answer_L2_run net lasts set_ place FUEL 0 (S.l10Answer_k2 κ)).trans (optC_congr (fun qy_4 => ?_))
    rcases qy_4 with qy_4 | qy_4
    · kernel_rfl
    · kernel_rfl
  rw [hu]
  exact (S.l10Answer_tree_nat (fun o => optC o (fun (r : Int) => κ (.int .i64 r) []) none) net lasts set_ place (fun d => some d) none).symm
noncomputable def S.l10Answer_s : D.Spec where
  keep := false
  pure := true
  ds := [.int .i64, .bool, .invalid, .invalid]
  sp := fun args h κ => match args, h with
    | [.ro false (.ints .i64 net), .ro false (.bools lasts), .int .i64 set_, .int .i64 place], [] => optC (S.l10Answer_t net lasts set_ place) (fun (r : Int) => κ (.int .i64 r) []) none
    | _, _ => none
theorem S.l10Answer_ok : SpecOk Try.prog 68 S.l10Answer_s := by
  refine SpecOk.of TDok mixed (T := S.l10Answer_T) ?_ (ann := S.l10Answer_ann) Try.func68 rfl (by decide +kernel) ?_ ?_ ?_
  · intro p hp
    simp only [S.l10Answer_T, List.mem_cons, List.not_mem_nil, or_false] at hp
    rcases hp with rfl | rfl
    · exact S.l1Size_ok
    · exact S.l10Fit_ok
  · intro args h κ r hh
    simp only [S.l10Answer_s] at hh
    split at hh
    · exact (S.l10Answer_den _ _ _ _ κ).trans hh
    · cases hh
  · intro args h κ r hh
    simp only [S.l10Answer_s] at hh ⊢
    split at hh
    · exact optC_law2 (F := fun (r : Int) κ => κ (.int .i64 r) []) (fun b κ r hb => ⟨_, _, hb, fun _ => rfl⟩) hh
    · cases hh
  · intro _ args h κ r hh
    simp only [S.l10Answer_s] at hh
    split at hh
    · exact ⟨rfl, fun _ => rfl⟩
    · cases hh

-- loop.example/guardsonnets/spec.l10Lasts
noncomputable def S.l10Lasts_T : List (Nat × D.Spec) := [(68, S.l10Answer_s)]
def S.l10Lasts_ann : Nat → List Nat × List Nat
  | 13 => ([0, 3, 5, 6, 7], [0, 3, 5, 6])
  | 10 => ([0, 3, 5, 6], [0, 3, 5])
  | 7 => ([0, 3, 5], [3])
  | 3 => ([0, 3, 4], [0, 3])
  | _ => ([], [])
noncomputable def S.l10Lasts_F (args : List V) (h : List E) (κ : V → List E → R) : R := funC TD (tableK S.l10Lasts_T) S.l10Lasts_ann (drawOk (tableP S.l10Lasts_T)) FUEL Try.f51 args h κ
noncomputable def S.l10Lasts_L13 (n : Nat) (σ : St) (k : X → St → R) : R := iterC 0 (fun σ k => denC TD (tableK S.l10Lasts_T) S.l10Lasts_ann (drawOk (tableP S.l10Lasts_T)) 0 FUEL ((findLoop 13 (Try.f51.body.getD .skip)).getD .skip) σ k) [0, 3, 5, 6, 7] [0, 3, 5, 6] n σ k
noncomputable def S.l10Lasts_L10 (n : Nat) (σ : St) (k : X → St → R) : R := iterC 0 (fun σ k => denC TD (tableK S.l10Lasts_T) S.l10Lasts_ann (drawOk (tableP S.l10Lasts_T)) 0 FUEL ((findLoop 10 (Try.f51.body.getD .skip)).getD .skip) σ k) [0, 3, 5, 6] [0, 3, 5] n σ k
noncomputable def S.l10Lasts_L7 (n : Nat) (σ : St) (k : X → St → R) : R := iterC 0 (fun σ k => denC TD (tableK S.l10Lasts_T) S.l10Lasts_ann (drawOk (tableP S.l10Lasts_T)) 0 FUEL ((findLoop 7 (Try.f51.body.getD .skip)).getD .skip) σ k) [0, 3, 5] [3] n σ k
noncomputable def S.l10Lasts_L3 (n : Nat) (σ : St) (k : X → St → R) : R := iterC 0 (fun σ k => denC TD (tableK S.l10Lasts_T) S.l10Lasts_ann (drawOk (tableP S.l10Lasts_T)) 0 FUEL ((findLoop 3 (Try.f51.body.getD .skip)).getD .skip) σ k) [0, 3, 4] [0, 3] n σ k
noncomputable def S.l10Lasts_k3 (κ : V → List E → R) : X → St → R := (afterC TD (tableK S.l10Lasts_T) S.l10Lasts_ann (drawOk (tableP S.l10Lasts_T)) 0 FUEL 3 (Try.f51.body.getD .skip) (finC TD 0 Try.f51 κ)).getD (fun _ _ => none)
noncomputable def S.l10Lasts_k13 (c : (St → R) × (X → St → R)) : X → St → R := (afterC TD (tableK S.l10Lasts_T) S.l10Lasts_ann (drawOk (tableP S.l10Lasts_T)) 0 FUEL 13 ((findLoop 10 (Try.f51.body.getD .skip)).getD .skip) (roundC 0 [0, 3, 5, 6] [0, 3, 5] c.1 c.2)).getD (fun _ _ => none)
noncomputable def S.l10Lasts_k10 (c : (St → R) × (X → St → R)) : X → St → R := (afterC TD (tableK S.l10Lasts_T) S.l10Lasts_ann (drawOk (tableP S.l10Lasts_T)) 0 FUEL 10 ((findLoop 7 (Try.f51.body.getD .skip)).getD .skip) (roundC 0 [0, 3, 5] [3] c.1 c.2)).getD (fun _ _ => none)
noncomputable def S.l10Lasts_k7 (κ : V → List E → R) : X → St → R := (afterC TD (tableK S.l10Lasts_T) S.l10Lasts_ann (drawOk (tableP S.l10Lasts_T)) 0 FUEL 7 (Try.f51.body.getD .skip) (finC TD 0 Try.f51 κ)).getD (fun _ _ => none)
noncomputable def S.l10Lasts_step3 {α : Type} (x0 : List Int) (x4 : Int) (r0 : List Bool) (next_ : Int × (List Bool) → α) (out0_ : List Bool → α) (fail_ : α) : α :=
  (bif decide (x4 < (↑r0.length : Int)) then (bif decide (0 ≤ x4) && decide (x4 < (↑r0.length : Int)) then (bif decide (x4.toNat < r0.length) then (next_ (IntKind.i64.wrap (x4 + 1), r0.set x4.toNat true)) else fail_) else fail_) else (out0_ r0))
theorem S.l10Lasts_step3_nat {α γ : Type} (g : α → γ) (x0 : List Int) (x4 : Int) (r0 : List Bool) (next_ : Int × (List Bool) → α) (out0_ : List Bool → α) (fail_ : α) : g (S.l10Lasts_step3 x0 x4 r0 next_ out0_ fail_) = S.l10Lasts_step3 x0 x4 r0 (fun s => g (next_ s)) (fun d => g (out0_ d)) (g fail_) := by
  unfold S.l10Lasts_step3; simp only [apply_cnd g, apply_optC g, apply_sumC g]
noncomputable def S.l10Lasts_run3 (x0 : List Int) : Nat → Int × (List Bool) → Option (List Bool)
  | 0, _ => none
  | n + 1, s_ => S.l10Lasts_step3 x0 s_.1 s_.2 (S.l10Lasts_run3 x0 n) (fun d => some d) none
theorem S.l10Lasts_L3_run (x0 : List Int) (n : Nat) (s_ : Int × (List Bool)) (k : X → St → R) : S.l10Lasts_L3 n { n := 57, t := [(0, (.ro false (.ints .i64 x0))), (3, (.own 0)), (4, (.int .i64 s_.1))], h := [.row (.bools s_.2)] } k = optC (S.l10Lasts_run3 x0 n s_) (fun (r : List Bool) => k (.exit 0) { n := 57, t := [(0, (.ro false (.ints .i64 x0))), (3, (.own 0))], h := [.row (.bools r)] }) none := by
  induction n generalizing s_ with
  | zero => rfl
  | succ n ih =>
    have hu : S.l10Lasts_L3 (n + 1) { n := 57, t := [(0, (.ro false (.ints .i64 x0))), (3, (.own 0)), (4, (.int .i64 s_.1))], h := [.row (.bools s_.2)] } k = S.l10Lasts_step3 x0 s_.1 s_.2 (fun s_ => S.l10Lasts_L3 n { n := 57, t := [(0, (.ro false (.ints .i64 x0))), (3, (.own 0)), (4, (.int .i64 s_.1))], h := [.row (.bools s_.2)] } k) (fun d => k (.exit 0) { n := 57, t := [(0, (.ro false (.ints .i64 x0))), (3, (.own 0))], h := [.row (.bools d)] }) none := by
      kernel_rfl
    have hs : (fun s_ : Int × (List Bool) => S.l10Lasts_L3 n { n := 57, t := [(0, (.ro false (.ints .i64 x0))), (3, (.own 0)), (4, (.int .i64 s_.1))], h := [.row (.bools s_.2)] } k) = fun s_ => optC (S.l10Lasts_run3 x0 n s_) (fun (r : List Bool) => k (.exit 0) { n := 57, t := [(0, (.ro false (.ints .i64 x0))), (3, (.own 0))], h := [.row (.bools r)] }) none := funext ih
    rw [hu, hs]
    exact (S.l10Lasts_step3_nat (fun o => optC o (fun (r : List Bool) => k (.exit 0) { n := 57, t := [(0, (.ro false (.ints .i64 x0))), (3, (.own 0))], h := [.row (.bools r)] }) none) x0 s_.1 s_.2 (S.l10Lasts_run3 x0 n) (fun d => some d) none).symm
noncomputable def S.l10Lasts_step13 {α : Type} (x0 : List Int) (x6 : Int) (x5 : Bool) (x7 : Int) (r0 : List Bool) (next_ : Bool × Int × (List Bool) → α) (out0_ : Bool × (List Bool) → α) (fail_ : α) : α :=
  (bif decide (x7 < (↑x0.length : Int)) then (bif decide (0 ≤ x6) && decide (x6 < (↑r0.length : Int)) then (bif decide (x6.toNat < r0.length) then (bif elb r0 x6.toNat then (bif decide (x7 < 0) then fail_ else (bif (x6.fdiv (2 ^ min x7.toNat IntKind.i64.bits)).tmod 2 == 0 then (optC (S.l10Answer_t x0 r0 x6 x7) (fun c_2 => (bif decide (c_2 < 0) then (bif decide (0 ≤ x6) && decide (x6 < (↑r0.length : Int)) then (bif decide (x6.toNat < r0.length) then (next_ (true, IntKind.i64.wrap (x7 + 1), r0.set x6.toNat false)) else fail_) else fail_) else (next_ (x5, IntKind.i64.wrap (x7 + 1), r0)))) fail_) else (next_ (x5, IntKind.i64.wrap (x7 + 1), r0)))) else (next_ (x5, IntKind.i64.wrap (x7 + 1), r0))) else fail_) else fail_) else (out0_ (x5, r0)))
theorem S.l10Lasts_step13_nat {α γ : Type} (g : α → γ) (x0 : List Int) (x6 : Int) (x5 : Bool) (x7 : Int) (r0 : List Bool) (next_ : Bool × Int × (List Bool) → α) (out0_ : Bool × (List Bool) → α) (fail_ : α) : g (S.l10Lasts_step13 x0 x6 x5 x7 r0 next_ out0_ fail_) = S.l10Lasts_step13 x0 x6 x5 x7 r0 (fun s => g (next_ s)) (fun d => g (out0_ d)) (g fail_) := by
  unfold S.l10Lasts_step13; simp only [apply_cnd g, apply_optC g, apply_sumC g]
noncomputable def S.l10Lasts_run13 (x0 : List Int) (x6 : Int) : Nat → Bool × Int × (List Bool) → Option (Bool × (List Bool))
  | 0, _ => none
  | n + 1, s_ => S.l10Lasts_step13 x0 x6 s_.1 s_.2.1 s_.2.2 (S.l10Lasts_run13 x0 x6 n) (fun d => some d) none
theorem S.l10Lasts_L13_run (x0 : List Int) (x6 : Int) (n : Nat) (s_ : Bool × Int × (List Bool)) (k : X → St → R) : S.l10Lasts_L13 n { n := 57, t := [(0, (.ro false (.ints .i64 x0))), (3, (.own 0)), (5, (.bool s_.1)), (6, (.int .i64 x6)), (7, (.int .i64 s_.2.1))], h := [.row (.bools s_.2.2)] } k = optC (S.l10Lasts_run13 x0 x6 n s_) (fun (r : Bool × (List Bool)) => k (.exit 6) { n := 57, t := [(0, (.ro false (.ints .i64 x0))), (3, (.own 0)), (5, (.bool r.1)), (6, (.int .i64 x6))], h := [.row (.bools r.2)] }) none := by
  induction n generalizing s_ with
  | zero => rfl
  | succ n ih =>
    have hu : S.l10Lasts_L13 (n + 1) { n := 57, t := [(0, (.ro false (.ints .i64 x0))), (3, (.own 0)), (5, (.bool s_.1)), (6, (.int .i64 x6)), (7, (.int .i64 s_.2.1))], h := [.row (.bools s_.2.2)] } k = S.l10Lasts_step13 x0 x6 s_.1 s_.2.1 s_.2.2 (fun s_ => S.l10Lasts_L13 n { n := 57, t := [(0, (.ro false (.ints .i64 x0))), (3, (.own 0)), (5, (.bool s_.1)), (6, (.int .i64 x6)), (7, (.int .i64 s_.2.1))], h := [.row (.bools s_.2.2)] } k) (fun d => k (.exit 6) { n := 57, t := [(0, (.ro false (.ints .i64 x0))), (3, (.own 0)), (5, (.bool d.1)), (6, (.int .i64 x6))], h := [.row (.bools d.2)] }) none := by
      kernel_rfl
    have hs : (fun s_ : Bool × Int × (List Bool) => S.l10Lasts_L13 n { n := 57, t := [(0, (.ro false (.ints .i64 x0))), (3, (.own 0)), (5, (.bool s_.1)), (6, (.int .i64 x6)), (7, (.int .i64 s_.2.1))], h := [.row (.bools s_.2.2)] } k) = fun s_ => optC (S.l10Lasts_run13 x0 x6 n s_) (fun (r : Bool × (List Bool)) => k (.exit 6) { n := 57, t := [(0, (.ro false (.ints .i64 x0))), (3, (.own 0)), (5, (.bool r.1)), (6, (.int .i64 x6))], h := [.row (.bools r.2)] }) none := funext ih
    rw [hu, hs]
    exact (S.l10Lasts_step13_nat (fun o => optC o (fun (r : Bool × (List Bool)) => k (.exit 6) { n := 57, t := [(0, (.ro false (.ints .i64 x0))), (3, (.own 0)), (5, (.bool r.1)), (6, (.int .i64 x6))], h := [.row (.bools r.2)] }) none) x0 x6 s_.1 s_.2.1 s_.2.2 (S.l10Lasts_run13 x0 x6 n) (fun d => some d) none).symm
noncomputable def S.l10Lasts_step10 {α : Type} (x0 : List Int) (x5 : Bool) (x6 : Int) (r0 : List Bool) (next_ : Bool × Int × (List Bool) → α) (out0_ : Bool × (List Bool) → α) (fail_ : α) : α :=
  (bif decide (x6 < (↑r0.length : Int)) then (optC (S.l10Lasts_run13 x0 x6 FUEL (x5, 0, r0)) (fun qy_3 => (next_ (qy_3.1, IntKind.i64.wrap (x6 + 1), qy_3.2))) fail_) else (out0_ (x5, r0)))
theorem S.l10Lasts_step10_nat {α γ : Type} (g : α → γ) (x0 : List Int) (x5 : Bool) (x6 : Int) (r0 : List Bool) (next_ : Bool × Int × (List Bool) → α) (out0_ : Bool × (List Bool) → α) (fail_ : α) : g (S.l10Lasts_step10 x0 x5 x6 r0 next_ out0_ fail_) = S.l10Lasts_step10 x0 x5 x6 r0 (fun s => g (next_ s)) (fun d => g (out0_ d)) (g fail_) := by
  unfold S.l10Lasts_step10; simp only [apply_cnd g, apply_optC g, apply_sumC g]
noncomputable def S.l10Lasts_run10 (x0 : List Int) : Nat → Bool × Int × (List Bool) → Option (Bool × (List Bool))
  | 0, _ => none
  | n + 1, s_ => S.l10Lasts_step10 x0 s_.1 s_.2.1 s_.2.2 (S.l10Lasts_run10 x0 n) (fun d => some d) none
theorem S.l10Lasts_L10_run (x0 : List Int) (n : Nat) (s_ : Bool × Int × (List Bool)) (k : X → St → R) : S.l10Lasts_L10 n { n := 57, t := [(0, (.ro false (.ints .i64 x0))), (3, (.own 0)), (5, (.bool s_.1)), (6, (.int .i64 s_.2.1))], h := [.row (.bools s_.2.2)] } k = optC (S.l10Lasts_run10 x0 n s_) (fun (r : Bool × (List Bool)) => k (.exit 4) { n := 57, t := [(0, (.ro false (.ints .i64 x0))), (3, (.own 0)), (5, (.bool r.1))], h := [.row (.bools r.2)] }) none := by
  induction n generalizing s_ with
  | zero => rfl
  | succ n ih =>
    have hu : S.l10Lasts_L10 (n + 1) { n := 57, t := [(0, (.ro false (.ints .i64 x0))), (3, (.own 0)), (5, (.bool s_.1)), (6, (.int .i64 s_.2.1))], h := [.row (.bools s_.2.2)] } k = S.l10Lasts_step10 x0 s_.1 s_.2.1 s_.2.2 (fun s_ => S.l10Lasts_L10 n { n := 57, t := [(0, (.ro false (.ints .i64 x0))), (3, (.own 0)), (5, (.bool s_.1)), (6, (.int .i64 s_.2.1))], h := [.row (.bools s_.2.2)] } k) (fun d => k (.exit 4) { n := 57, t := [(0, (.ro false (.ints .i64 x0))), (3, (.own 0)), (5, (.bool d.1))], h := [.row (.bools d.2)] }) none := by
      refine Eq.trans (show S.l10Lasts_L10 (n + 1) { n := 57, t := [(0, (.ro false (.ints .i64 x0))), (3, (.own 0)), (5, (.bool s_.1)), (6, (.int .i64 s_.2.1))], h := [.row (.bools s_.2.2)] } k = (bif decide (s_.2.1 < (↑s_.2.2.length : Int)) then (S.l10Lasts_L13 FUEL { n := 57, t := [(0, (.ro false (.ints .i64 x0))), (3, (.own 0)), (5, (.bool s_.1)), (6, (.int .i64 s_.2.1)), (7, (.int .i64 0))], h := [.row (.bools s_.2.2)] } (S.l10Lasts_k13 ((fun σ => S.l10Lasts_L10 n σ k), k))) else (k (.exit 4) { n := 57, t := [(0, (.ro false (.ints .i64 x0))), (3, (.own 0)), (5, (.bool s_.1))], h := [.row (.bools s_.2.2)] })) by kernel_rfl) ?_
      refine cnd_congr ?_ ?_
      · refine (S.l10Lasts_L13_run x0 s_.2.1 FUEL (s_.1, 0, s_.2.2) (S.l10Lasts_k13 ((fun σ => S.l10Lasts_L10 n σ k), k))).trans (optC_congr (fun qy_3 => ?_))
        kernel_rfl
      · kernel_rfl
    have hs : (fun s_ : Bool × Int × (List Bool) => S.l10Lasts_L10 n { n := 57, t := [(0, (.ro false (.ints .i64 x0))), (3, (.own 0)), (5, (.bool s_.1)), (6, (.int .i64 s_.2.1))], h := [.row (.bools s_.2.2)] } k) = fun s_ => optC (S.l10Lasts_run10 x0 n s_) (fun (r : Bool × (List Bool)) => k (.exit 4) { n := 57, t := [(0, (.ro false (.ints .i64 x0))), (3, (.own 0)), (5, (.bool r.1))], h := [.row (.bools r.2)] }) none := funext ih
    rw [hu, hs]
    exact (S.l10Lasts_step10_nat (fun o => optC o (fun (r : Bool × (List Bool)) => k (.exit 4) { n := 57, t := [(0, (.ro false (.ints .i64 x0))), (3, (.own 0)), (5, (.bool r.1))], h := [.row (.bools r.2)] }) none) x0 s_.1 s_.2.1 s_.2.2 (S.l10Lasts_run10 x0 n) (fun d => some d) none).symm
noncomputable def S.l10Lasts_step7 {α : Type} (x0 : List Int) (x5 : Bool) (r0 : List Bool) (next_ : Bool × (List Bool) → α) (out0_ : List Bool → α) (fail_ : α) : α :=
  (bif x5 then (optC (S.l10Lasts_run10 x0 FUEL (false, 0, r0)) (fun qy_4 => (next_ (qy_4.1, qy_4.2))) fail_) else (out0_ r0))
theorem S.l10Lasts_step7_nat {α γ : Type} (g : α → γ) (x0 : List Int) (x5 : Bool) (r0 : List Bool) (next_ : Bool × (List Bool) → α) (out0_ : List Bool → α) (fail_ : α) : g (S.l10Lasts_step7 x0 x5 r0 next_ out0_ fail_) = S.l10Lasts_step7 x0 x5 r0 (fun s => g (next_ s)) (fun d => g (out0_ d)) (g fail_) := by
  unfold S.l10Lasts_step7; simp only [apply_cnd g, apply_optC g, apply_sumC g]
noncomputable def S.l10Lasts_run7 (x0 : List Int) : Nat → Bool × (List Bool) → Option (List Bool)
  | 0, _ => none
  | n + 1, s_ => S.l10Lasts_step7 x0 s_.1 s_.2 (S.l10Lasts_run7 x0 n) (fun d => some d) none
theorem S.l10Lasts_L7_run (x0 : List Int) (n : Nat) (s_ : Bool × (List Bool)) (k : X → St → R) : S.l10Lasts_L7 n { n := 57, t := [(0, (.ro false (.ints .i64 x0))), (3, (.own 0)), (5, (.bool s_.1))], h := [.row (.bools s_.2)] } k = optC (S.l10Lasts_run7 x0 n s_) (fun (r : List Bool) => k (.exit 2) { n := 57, t := [(3, (.own 0))], h := [.row (.bools r)] }) none := by
  induction n generalizing s_ with
  | zero => rfl
  | succ n ih =>
    have hu : S.l10Lasts_L7 (n + 1) { n := 57, t := [(0, (.ro false (.ints .i64 x0))), (3, (.own 0)), (5, (.bool s_.1))], h := [.row (.bools s_.2)] } k = S.l10Lasts_step7 x0 s_.1 s_.2 (fun s_ => S.l10Lasts_L7 n { n := 57, t := [(0, (.ro false (.ints .i64 x0))), (3, (.own 0)), (5, (.bool s_.1))], h := [.row (.bools s_.2)] } k) (fun d => k (.exit 2) { n := 57, t := [(3, (.own 0))], h := [.row (.bools d)] }) none := by
      refine Eq.trans (show S.l10Lasts_L7 (n + 1) { n := 57, t := [(0, (.ro false (.ints .i64 x0))), (3, (.own 0)), (5, (.bool s_.1))], h := [.row (.bools s_.2)] } k = (bif s_.1 then (S.l10Lasts_L10 FUEL { n := 57, t := [(0, (.ro false (.ints .i64 x0))), (3, (.own 0)), (5, (.bool false)), (6, (.int .i64 0))], h := [.row (.bools s_.2)] } (S.l10Lasts_k10 ((fun σ => S.l10Lasts_L7 n σ k), k))) else (k (.exit 2) { n := 57, t := [(3, (.own 0))], h := [.row (.bools s_.2)] })) by kernel_rfl) ?_
      refine cnd_congr ?_ ?_
      · refine (S.l10Lasts_L10_run x0 FUEL (false, 0, s_.2) (S.l10Lasts_k10 ((fun σ => S.l10Lasts_L7 n σ k), k))).trans (optC_congr (fun qy_4 => ?_))
        kernel_rfl
      · kernel_rfl
    have hs : (fun s_ : Bool × (List Bool) => S.l10Lasts_L7 n { n := 57, t := [(0, (.ro false (.ints .i64 x0))), (3, (.own 0)), (5, (.bool s_.1))], h := [.row (.bools s_.2)] } k) = fun s_ => optC (S.l10Lasts_run7 x0 n s_) (fun (r : List Bool) => k (.exit 2) { n := 57, t := [(3, (.own 0))], h := [.row (.bools r)] }) none := funext ih
    rw [hu, hs]
    exact (S.l10Lasts_step7_nat (fun o => optC o (fun (r : List Bool) => k (.exit 2) { n := 57, t := [(3, (.own 0))], h := [.row (.bools r)] }) none) x0 s_.1 s_.2 (S.l10Lasts_run7 x0 n) (fun d => some d) none).symm
noncomputable def S.l10Lasts_tree {α : Type} (net : List Int) (leaf0_ : List Bool → α) (fail_ : α) : α :=
  (bif decide (0 ≤ IntKind.i64.wrap (1 * 2 ^ min (↑net.length : Int).toNat IntKind.i64.bits)) && small (IntKind.i64.wrap (1 * 2 ^ min (↑net.length : Int).toNat IntKind.i64.bits)).toNat && true then (optC (S.l10Lasts_run3 net FUEL (0, List.replicate (IntKind.i64.wrap (1 * 2 ^ min (↑net.length : Int).toNat IntKind.i64.bits)).toNat false)) (fun qy_1 => (optC (S.l10Lasts_run7 net FUEL (true, qy_1)) (fun qy_5 => (leaf0_ qy_5)) fail_)) fail_) else fail_)
theorem S.l10Lasts_tree_nat {α γ : Type} (g : α → γ) (net : List Int) (leaf0_ : List Bool → α) (fail_ : α) : g (S.l10Lasts_tree net leaf0_ fail_) = S.l10Lasts_tree net (fun d => g (leaf0_ d)) (g fail_) := by
  unfold S.l10Lasts_tree; simp only [apply_cnd g, apply_optC g, apply_sumC g]
noncomputable def S.l10Lasts_t (net : List Int) : Option (List Bool) := S.l10Lasts_tree net (fun d => some d) none
theorem S.l10Lasts_den (net : List Int) (κ : V → List E → R) : S.l10Lasts_F [.ro false (.ints .i64 net)] [] κ = optC (S.l10Lasts_t net) (fun (r : List Bool) => κ (.own 0) [.row (.bools r)]) none := by
  have hu : S.l10Lasts_F [.ro false (.ints .i64 net)] [] κ = S.l10Lasts_tree net (fun d => κ (.own 0) [.row (.bools d)]) none := by
    refine Eq.trans (show S.l10Lasts_F [.ro false (.ints .i64 net)] [] κ = (bif decide (0 ≤ IntKind.i64.wrap (1 * 2 ^ min (↑net.length : Int).toNat IntKind.i64.bits)) && small (IntKind.i64.wrap (1 * 2 ^ min (↑net.length : Int).toNat IntKind.i64.bits)).toNat && true then (S.l10Lasts_L3 FUEL { n := 57, t := [(0, (.ro false (.ints .i64 net))), (3, (.own 0)), (4, (.int .i64 0))], h := [.row (.bools (List.replicate (IntKind.i64.wrap (1 * 2 ^ min (↑net.length : Int).toNat IntKind.i64.bits)).toNat false))] } (S.l10Lasts_k3 κ)) else none) by kernel_rfl) ?_
    refine cnd_congr ?_ ?_
    · refine (S.l10Lasts_L3_run net FUEL (0, List.replicate (IntKind.i64.wrap (1 * 2 ^ min (↑net.length : Int).toNat IntKind.i64.bits)).toNat false) (S.l10Lasts_k3 κ)).trans (optC_congr (fun qy_1 => ?_))
      refine Eq.trans (show (S.l10Lasts_k3 κ (.exit 0) { n := 57, t := [(0, (.ro false (.ints .i64 net))), (3, (.own 0))], h := [.row (.bools qy_1)] }) = (S.l10Lasts_L7 FUEL { n := 57, t := [(0, (.ro false (.ints .i64 net))), (3, (.own 0)), (5, (.bool true))], h := [.row (.bools qy_1)] } (S.l10Lasts_k7 κ)) by kernel_rfl) ?_
      refine (S.l10Lasts_L7_run net FUEL (true, qy_1) (S.l10Lasts_k7 κ)).trans (optC_congr (fun qy_5 => ?_))
      kernel_rfl
    · kernel_rfl
  rw [hu]
  exact (S.l10Lasts_tree_nat (fun o => optC o (fun (r : List Bool) => κ (.own 0) [.row (.bools r)]) none) net (fun d => some d) none).symm
noncomputable def S.l10Lasts_s : D.Spec where
  keep := false
  pure := false
  ds := [.int .i64]
  sp := fun args h κ => match args, h with
    | [.ro false (.ints .i64 net)], [] => optC (S.l10Lasts_t net) (fun (r : List Bool) => κ (.own 0) [.row (.bools r)]) none
    | _, _ => none
theorem S.l10Lasts_ok : SpecOk Try.prog 51 S.l10Lasts_s := by
  refine SpecOk.of TDok mixed (T := S.l10Lasts_T) ?_ (ann := S.l10Lasts_ann) Try.func51 rfl (by decide +kernel) ?_ ?_ ?_
  · intro p hp
    simp only [S.l10Lasts_T, List.mem_cons, List.not_mem_nil, or_false] at hp
    rcases hp with rfl
    · exact S.l10Answer_ok
  · intro args h κ r hh
    simp only [S.l10Lasts_s] at hh
    split at hh
    · exact (S.l10Lasts_den _ κ).trans hh
    · cases hh
  · intro args h κ r hh
    simp only [S.l10Lasts_s] at hh ⊢
    split at hh
    · exact optC_law2 (F := fun (r : List Bool) κ => κ (.own 0) [.row (.bools r)]) (fun b κ r hb => ⟨_, _, hb, fun _ => rfl⟩) hh
    · cases hh
  · intro hh; cases hh

-- loop.example/guardsonnets/spec.AllEternalOk
noncomputable def S.AllEternalOk_T : List (Nat × D.Spec) := [(39, S.l1SetOk_s), (51, S.l10Lasts_s)]
def S.AllEternalOk_ann : Nat → List Nat × List Nat
  | _ => ([], [])
noncomputable def S.AllEternalOk_F (args : List V) (h : List E) (κ : V → List E → R) : R := funC TD (tableK S.AllEternalOk_T) S.AllEternalOk_ann (drawOk (tableP S.AllEternalOk_T)) FUEL Try.f22 args h κ
noncomputable def S.AllEternalOk_tree {α : Type} (net : List Int) (set_ : Int) (leaf0_ : Bool → α) (fail_ : α) : α :=
  (optC (S.l1SetOk_t net set_) (fun c_1 => (bif c_1 then (optC (S.l10Lasts_t net) (fun c_2 => (bif decide (0 ≤ set_) && decide (set_ < (↑c_2.length : Int)) then (bif decide (set_.toNat < c_2.length) then (leaf0_ (elb c_2 set_.toNat)) else fail_) else fail_)) fail_) else (leaf0_ false))) fail_)
theorem S.AllEternalOk_tree_nat {α γ : Type} (g : α → γ) (net : List Int) (set_ : Int) (leaf0_ : Bool → α) (fail_ : α) : g (S.AllEternalOk_tree net set_ leaf0_ fail_) = S.AllEternalOk_tree net set_ (fun d => g (leaf0_ d)) (g fail_) := by
  unfold S.AllEternalOk_tree; simp only [apply_cnd g, apply_optC g, apply_sumC g]
noncomputable def S.AllEternalOk_t (net : List Int) (set_ : Int) : Option (Bool) := S.AllEternalOk_tree net set_ (fun d => some d) none
theorem S.AllEternalOk_den (net : List Int) (set_ : Int) (κ : V → List E → R) : S.AllEternalOk_F [.ro false (.ints .i64 net), .int .i64 set_] [] κ = optC (S.AllEternalOk_t net set_) (fun (r : Bool) => κ (.bool r) []) none := by
  have hu : S.AllEternalOk_F [.ro false (.ints .i64 net), .int .i64 set_] [] κ = S.AllEternalOk_tree net set_ (fun d => κ (.bool d) []) none := by
    kernel_rfl
  rw [hu]
  exact (S.AllEternalOk_tree_nat (fun o => optC o (fun (r : Bool) => κ (.bool r) []) none) net set_ (fun d => some d) none).symm
noncomputable def S.AllEternalOk_s : D.Spec where
  keep := false
  pure := true
  ds := [.int .i64, .invalid]
  sp := fun args h κ => match args, h with
    | [.ro false (.ints .i64 net), .int .i64 set_], [] => optC (S.AllEternalOk_t net set_) (fun (r : Bool) => κ (.bool r) []) none
    | _, _ => none
theorem S.AllEternalOk_ok : SpecOk Try.prog 22 S.AllEternalOk_s := by
  refine SpecOk.of TDok mixed (T := S.AllEternalOk_T) ?_ (ann := S.AllEternalOk_ann) Try.func22 rfl (by decide +kernel) ?_ ?_ ?_
  · intro p hp
    simp only [S.AllEternalOk_T, List.mem_cons, List.not_mem_nil, or_false] at hp
    rcases hp with rfl | rfl
    · exact S.l1SetOk_ok
    · exact S.l10Lasts_ok
  · intro args h κ r hh
    simp only [S.AllEternalOk_s] at hh
    split at hh
    · exact (S.AllEternalOk_den _ _ κ).trans hh
    · cases hh
  · intro args h κ r hh
    simp only [S.AllEternalOk_s] at hh ⊢
    split at hh
    · exact optC_law2 (F := fun (r : Bool) κ => κ (.bool r) []) (fun b κ r hb => ⟨_, _, hb, fun _ => rfl⟩) hh
    · cases hh
  · intro _ args h κ r hh
    simp only [S.AllEternalOk_s] at hh
    split at hh
    · exact ⟨rfl, fun _ => rfl⟩
    · cases hh

-- loop.example/guardsonnets/impl.movesOf
noncomputable def I.movesOf_T : List (Nat × D.Spec) := [(47, I.moveIn_s), (48, I.moved_s)]
def I.movesOf_ann : Nat → List Nat × List Nat
  | 6 => ([0, 1, 5, 6, 7], [0, 1, 5, 6])
  | 3 => ([0, 1, 5, 6], [5])
  | _ => ([], [])
noncomputable def I.movesOf_F (args : List V) (h : List E) (κ : V → List E → R) : R := funC TD (tableK I.movesOf_T) I.movesOf_ann (drawOk (tableP I.movesOf_T)) FUEL Try.f84 args h κ
noncomputable def I.movesOf_L6 (n : Nat) (σ : St) (k : X → St → R) : R := iterC 0 (fun σ k => denC TD (tableK I.movesOf_T) I.movesOf_ann (drawOk (tableP I.movesOf_T)) 0 FUEL ((findLoop 6 (Try.f84.body.getD .skip)).getD .skip) σ k) [0, 1, 5, 6, 7] [0, 1, 5, 6] n σ k
noncomputable def I.movesOf_L3 (n : Nat) (σ : St) (k : X → St → R) : R := iterC 0 (fun σ k => denC TD (tableK I.movesOf_T) I.movesOf_ann (drawOk (tableP I.movesOf_T)) 0 FUEL ((findLoop 3 (Try.f84.body.getD .skip)).getD .skip) σ k) [0, 1, 5, 6] [5] n σ k
noncomputable def I.movesOf_k6 (c : (St → R) × (X → St → R)) : X → St → R := (afterC TD (tableK I.movesOf_T) I.movesOf_ann (drawOk (tableP I.movesOf_T)) 0 FUEL 6 ((findLoop 3 (Try.f84.body.getD .skip)).getD .skip) (roundC 0 [0, 1, 5, 6] [5] c.1 c.2)).getD (fun _ _ => none)
noncomputable def I.movesOf_k3 (κ : V → List E → R) : X → St → R := (afterC TD (tableK I.movesOf_T) I.movesOf_ann (drawOk (tableP I.movesOf_T)) 0 FUEL 3 (Try.f84.body.getD .skip) (finC TD 0 Try.f84 κ)).getD (fun _ _ => none)
noncomputable def I.movesOf_step6 {α : Type} (x0 : List Int) (x1 : Int) (x6 : Int) (x7 : Int) (r0 : List Int) (next_ : Int × (List Int) → α) (out0_ : List Int → α) (fail_ : α) : α :=
  (bif decide (x7 < (↑x0.length : Int)) then (optC (I.moveIn_t x0 x1 x6 x7) (fun c_1 => (bif c_1 then (optC (I.moved_t x1 x6 x7) (fun c_2 => (bif small (r0 ++ [c_2]).length then (next_ (IntKind.i64.wrap (x7 + 1), r0 ++ [c_2])) else fail_)) fail_) else (next_ (IntKind.i64.wrap (x7 + 1), r0)))) fail_) else (out0_ r0))
theorem I.movesOf_step6_nat {α γ : Type} (g : α → γ) (x0 : List Int) (x1 : Int) (x6 : Int) (x7 : Int) (r0 : List Int) (next_ : Int × (List Int) → α) (out0_ : List Int → α) (fail_ : α) : g (I.movesOf_step6 x0 x1 x6 x7 r0 next_ out0_ fail_) = I.movesOf_step6 x0 x1 x6 x7 r0 (fun s => g (next_ s)) (fun d => g (out0_ d)) (g fail_) := by
  unfold I.movesOf_step6; simp only [apply_cnd g, apply_optC g, apply_sumC g]
noncomputable def I.movesOf_run6 (x0 : List Int) (x1 : Int) (x6 : Int) : Nat → Int × (List Int) → Option (List Int)
  | 0, _ => none
  | n + 1, s_ => I.movesOf_step6 x0 x1 x6 s_.1 s_.2 (I.movesOf_run6 x0 x1 x6 n) (fun d => some d) none
theorem I.movesOf_L6_run (x0 : List Int) (x1 : Int) (x6 : Int) (n : Nat) (s_ : Int × (List Int)) (k : X → St → R) : I.movesOf_L6 n { n := 34, t := [(0, (.ro false (.ints .i64 x0))), (1, (.int .i64 x1)), (5, (.own 0)), (6, (.int .i64 x6)), (7, (.int .i64 s_.1))], h := [.row (.ints .i64 s_.2)] } k = optC (I.movesOf_run6 x0 x1 x6 n s_) (fun (r : List Int) => k (.exit 2) { n := 34, t := [(0, (.ro false (.ints .i64 x0))), (1, (.int .i64 x1)), (5, (.own 0)), (6, (.int .i64 x6))], h := [.row (.ints .i64 r)] }) none := by
  induction n generalizing s_ with
  | zero => rfl
  | succ n ih =>
    have hu : I.movesOf_L6 (n + 1) { n := 34, t := [(0, (.ro false (.ints .i64 x0))), (1, (.int .i64 x1)), (5, (.own 0)), (6, (.int .i64 x6)), (7, (.int .i64 s_.1))], h := [.row (.ints .i64 s_.2)] } k = I.movesOf_step6 x0 x1 x6 s_.1 s_.2 (fun s_ => I.movesOf_L6 n { n := 34, t := [(0, (.ro false (.ints .i64 x0))), (1, (.int .i64 x1)), (5, (.own 0)), (6, (.int .i64 x6)), (7, (.int .i64 s_.1))], h := [.row (.ints .i64 s_.2)] } k) (fun d => k (.exit 2) { n := 34, t := [(0, (.ro false (.ints .i64 x0))), (1, (.int .i64 x1)), (5, (.own 0)), (6, (.int .i64 x6))], h := [.row (.ints .i64 d)] }) none := by
      kernel_rfl
    have hs : (fun s_ : Int × (List Int) => I.movesOf_L6 n { n := 34, t := [(0, (.ro false (.ints .i64 x0))), (1, (.int .i64 x1)), (5, (.own 0)), (6, (.int .i64 x6)), (7, (.int .i64 s_.1))], h := [.row (.ints .i64 s_.2)] } k) = fun s_ => optC (I.movesOf_run6 x0 x1 x6 n s_) (fun (r : List Int) => k (.exit 2) { n := 34, t := [(0, (.ro false (.ints .i64 x0))), (1, (.int .i64 x1)), (5, (.own 0)), (6, (.int .i64 x6))], h := [.row (.ints .i64 r)] }) none := funext ih
    rw [hu, hs]
    exact (I.movesOf_step6_nat (fun o => optC o (fun (r : List Int) => k (.exit 2) { n := 34, t := [(0, (.ro false (.ints .i64 x0))), (1, (.int .i64 x1)), (5, (.own 0)), (6, (.int .i64 x6))], h := [.row (.ints .i64 r)] }) none) x0 x1 x6 s_.1 s_.2 (I.movesOf_run6 x0 x1 x6 n) (fun d => some d) none).symm
noncomputable def I.movesOf_step3 {α : Type} (x0 : List Int) (x1 : Int) (x6 : Int) (r0 : List Int) (next_ : Int × (List Int) → α) (out0_ : List Int → α) (fail_ : α) : α :=
  (bif decide (x6 < (↑x0.length : Int)) then (optC (I.movesOf_run6 x0 x1 x6 FUEL (0, r0)) (fun qy_3 => (next_ (IntKind.i64.wrap (x6 + 1), qy_3))) fail_) else (out0_ r0))
theorem I.movesOf_step3_nat {α γ : Type} (g : α → γ) (x0 : List Int) (x1 : Int) (x6 : Int) (r0 : List Int) (next_ : Int × (List Int) → α) (out0_ : List Int → α) (fail_ : α) : g (I.movesOf_step3 x0 x1 x6 r0 next_ out0_ fail_) = I.movesOf_step3 x0 x1 x6 r0 (fun s => g (next_ s)) (fun d => g (out0_ d)) (g fail_) := by
  unfold I.movesOf_step3; simp only [apply_cnd g, apply_optC g, apply_sumC g]
noncomputable def I.movesOf_run3 (x0 : List Int) (x1 : Int) : Nat → Int × (List Int) → Option (List Int)
  | 0, _ => none
  | n + 1, s_ => I.movesOf_step3 x0 x1 s_.1 s_.2 (I.movesOf_run3 x0 x1 n) (fun d => some d) none
theorem I.movesOf_L3_run (x0 : List Int) (x1 : Int) (n : Nat) (s_ : Int × (List Int)) (k : X → St → R) : I.movesOf_L3 n { n := 34, t := [(0, (.ro false (.ints .i64 x0))), (1, (.int .i64 x1)), (5, (.own 0)), (6, (.int .i64 s_.1))], h := [.row (.ints .i64 s_.2)] } k = optC (I.movesOf_run3 x0 x1 n s_) (fun (r : List Int) => k (.exit 0) { n := 34, t := [(5, (.own 0))], h := [.row (.ints .i64 r)] }) none := by
  induction n generalizing s_ with
  | zero => rfl
  | succ n ih =>
    have hu : I.movesOf_L3 (n + 1) { n := 34, t := [(0, (.ro false (.ints .i64 x0))), (1, (.int .i64 x1)), (5, (.own 0)), (6, (.int .i64 s_.1))], h := [.row (.ints .i64 s_.2)] } k = I.movesOf_step3 x0 x1 s_.1 s_.2 (fun s_ => I.movesOf_L3 n { n := 34, t := [(0, (.ro false (.ints .i64 x0))), (1, (.int .i64 x1)), (5, (.own 0)), (6, (.int .i64 s_.1))], h := [.row (.ints .i64 s_.2)] } k) (fun d => k (.exit 0) { n := 34, t := [(5, (.own 0))], h := [.row (.ints .i64 d)] }) none := by
      refine Eq.trans (show I.movesOf_L3 (n + 1) { n := 34, t := [(0, (.ro false (.ints .i64 x0))), (1, (.int .i64 x1)), (5, (.own 0)), (6, (.int .i64 s_.1))], h := [.row (.ints .i64 s_.2)] } k = (bif decide (s_.1 < (↑x0.length : Int)) then (I.movesOf_L6 FUEL { n := 34, t := [(0, (.ro false (.ints .i64 x0))), (1, (.int .i64 x1)), (5, (.own 0)), (6, (.int .i64 s_.1)), (7, (.int .i64 0))], h := [.row (.ints .i64 s_.2)] } (I.movesOf_k6 ((fun σ => I.movesOf_L3 n σ k), k))) else (k (.exit 0) { n := 34, t := [(5, (.own 0))], h := [.row (.ints .i64 s_.2)] })) by kernel_rfl) ?_
      refine cnd_congr ?_ ?_
      · refine (I.movesOf_L6_run x0 x1 s_.1 FUEL (0, s_.2) (I.movesOf_k6 ((fun σ => I.movesOf_L3 n σ k), k))).trans (optC_congr (fun qy_3 => ?_))
        kernel_rfl
      · kernel_rfl
    have hs : (fun s_ : Int × (List Int) => I.movesOf_L3 n { n := 34, t := [(0, (.ro false (.ints .i64 x0))), (1, (.int .i64 x1)), (5, (.own 0)), (6, (.int .i64 s_.1))], h := [.row (.ints .i64 s_.2)] } k) = fun s_ => optC (I.movesOf_run3 x0 x1 n s_) (fun (r : List Int) => k (.exit 0) { n := 34, t := [(5, (.own 0))], h := [.row (.ints .i64 r)] }) none := funext ih
    rw [hu, hs]
    exact (I.movesOf_step3_nat (fun o => optC o (fun (r : List Int) => k (.exit 0) { n := 34, t := [(5, (.own 0))], h := [.row (.ints .i64 r)] }) none) x0 x1 s_.1 s_.2 (I.movesOf_run3 x0 x1 n) (fun d => some d) none).symm
noncomputable def I.movesOf_tree {α : Type} (net : List Int) (set_ : Int) (leaf0_ : List Int → α) (fail_ : α) : α :=
  (optC (I.movesOf_run3 net set_ FUEL (0, [])) (fun qy_4 => (leaf0_ qy_4)) fail_)
theorem I.movesOf_tree_nat {α γ : Type} (g : α → γ) (net : List Int) (set_ : Int) (leaf0_ : List Int → α) (fail_ : α) : g (I.movesOf_tree net set_ leaf0_ fail_) = I.movesOf_tree net set_ (fun d => g (leaf0_ d)) (g fail_) := by
  unfold I.movesOf_tree; simp only [apply_cnd g, apply_optC g, apply_sumC g]
noncomputable def I.movesOf_t (net : List Int) (set_ : Int) : Option (List Int) := I.movesOf_tree net set_ (fun d => some d) none
theorem I.movesOf_den (net : List Int) (set_ : Int) (κ : V → List E → R) : I.movesOf_F [.ro false (.ints .i64 net), .int .i64 set_] [] κ = optC (I.movesOf_t net set_) (fun (r : List Int) => κ (.own 0) [.row (.ints .i64 r)]) none := by
  have hu : I.movesOf_F [.ro false (.ints .i64 net), .int .i64 set_] [] κ = I.movesOf_tree net set_ (fun d => κ (.own 0) [.row (.ints .i64 d)]) none := by
    refine Eq.trans (show I.movesOf_F [.ro false (.ints .i64 net), .int .i64 set_] [] κ = (I.movesOf_L3 FUEL { n := 34, t := [(0, (.ro false (.ints .i64 net))), (1, (.int .i64 set_)), (5, (.own 0)), (6, (.int .i64 0))], h := [.row (.ints .i64 ([]))] } (I.movesOf_k3 κ)) by kernel_rfl) ?_
    refine (I.movesOf_L3_run net set_ FUEL (0, []) (I.movesOf_k3 κ)).trans (optC_congr (fun qy_4 => ?_))
    kernel_rfl
  rw [hu]
  exact (I.movesOf_tree_nat (fun o => optC o (fun (r : List Int) => κ (.own 0) [.row (.ints .i64 r)]) none) net set_ (fun d => some d) none).symm
noncomputable def I.movesOf_s : D.Spec where
  keep := false
  pure := false
  ds := [.int .i64, .invalid]
  sp := fun args h κ => match args, h with
    | [.ro false (.ints .i64 net), .int .i64 set_], [] => optC (I.movesOf_t net set_) (fun (r : List Int) => κ (.own 0) [.row (.ints .i64 r)]) none
    | _, _ => none
theorem I.movesOf_ok : SpecOk Try.prog 84 I.movesOf_s := by
  refine SpecOk.of TDok mixed (T := I.movesOf_T) ?_ (ann := I.movesOf_ann) Try.func84 rfl (by decide +kernel) ?_ ?_ ?_
  · intro p hp
    simp only [I.movesOf_T, List.mem_cons, List.not_mem_nil, or_false] at hp
    rcases hp with rfl | rfl
    · exact I.moveIn_ok
    · exact I.moved_ok
  · intro args h κ r hh
    simp only [I.movesOf_s] at hh
    split at hh
    · exact (I.movesOf_den _ _ κ).trans hh
    · cases hh
  · intro args h κ r hh
    simp only [I.movesOf_s] at hh ⊢
    split at hh
    · exact optC_law2 (F := fun (r : List Int) κ => κ (.own 0) [.row (.ints .i64 r)]) (fun b κ r hb => ⟨_, _, hb, fun _ => rfl⟩) hh
    · cases hh
  · intro hh; cases hh

-- loop.example/guardsonnets/impl.movesIn
noncomputable def I.movesIn_T : List (Nat × D.Spec) := [(61, I.allOf_s), (84, I.movesOf_s)]
def I.movesIn_ann : Nat → List Nat × List Nat
  | 3 => ([0, 3, 4], [3])
  | _ => ([], [])
noncomputable def I.movesIn_F (args : List V) (h : List E) (κ : V → List E → R) : R := funC TD (tableK I.movesIn_T) I.movesIn_ann (drawOk (tableP I.movesIn_T)) FUEL Try.f76 args h κ
noncomputable def I.movesIn_L3 (n : Nat) (σ : St) (k : X → St → R) : R := iterC 0 (fun σ k => denC TD (tableK I.movesIn_T) I.movesIn_ann (drawOk (tableP I.movesIn_T)) 0 FUEL ((findLoop 3 (Try.f76.body.getD .skip)).getD .skip) σ k) [0, 3, 4] [3] n σ k
noncomputable def I.movesIn_k3 (κ : V → List E → R) : X → St → R := (afterC TD (tableK I.movesIn_T) I.movesIn_ann (drawOk (tableP I.movesIn_T)) 0 FUEL 3 (Try.f76.body.getD .skip) (finC TD 0 Try.f76 κ)).getD (fun _ _ => none)
noncomputable def I.movesIn_step3 {α : Type} (x0 : List Int) (x4 : Int) (r0 : List (List Int)) (next_ : Int × (List (List Int)) → α) (out0_ : List (List Int) → α) (fail_ : α) : α :=
  (optC (I.allOf_t x0) (fun c_2 => (bif decide (x4 ≤ c_2) then (optC (I.movesOf_t x0 x4) (fun c_3 => (bif decide (0 ≤ x4) && decide (x4 < (↑r0.length : Int)) then (bif decide (x4.toNat < r0.length) then (next_ (IntKind.i64.wrap (x4 + 1), r0.set x4.toNat c_3)) else fail_) else fail_)) fail_) else (out0_ r0))) fail_)
theorem I.movesIn_step3_nat {α γ : Type} (g : α → γ) (x0 : List Int) (x4 : Int) (r0 : List (List Int)) (next_ : Int × (List (List Int)) → α) (out0_ : List (List Int) → α) (fail_ : α) : g (I.movesIn_step3 x0 x4 r0 next_ out0_ fail_) = I.movesIn_step3 x0 x4 r0 (fun s => g (next_ s)) (fun d => g (out0_ d)) (g fail_) := by
  unfold I.movesIn_step3; simp only [apply_cnd g, apply_optC g, apply_sumC g]
noncomputable def I.movesIn_run3 (x0 : List Int) : Nat → Int × (List (List Int)) → Option (List (List Int))
  | 0, _ => none
  | n + 1, s_ => I.movesIn_step3 x0 s_.1 s_.2 (I.movesIn_run3 x0 n) (fun d => some d) none
theorem I.movesIn_L3_run (x0 : List Int) (n : Nat) (s_ : Int × (List (List Int))) (k : X → St → R) : I.movesIn_L3 n { n := 22, t := [(0, (.ro false (.ints .i64 x0))), (3, (.own 0)), (4, (.int .i64 s_.1))], h := [.row (.rows s_.2)] } k = optC (I.movesIn_run3 x0 n s_) (fun (r : List (List Int)) => k (.exit 0) { n := 22, t := [(3, (.own 0))], h := [.row (.rows r)] }) none := by
  induction n generalizing s_ with
  | zero => rfl
  | succ n ih =>
    have hu : I.movesIn_L3 (n + 1) { n := 22, t := [(0, (.ro false (.ints .i64 x0))), (3, (.own 0)), (4, (.int .i64 s_.1))], h := [.row (.rows s_.2)] } k = I.movesIn_step3 x0 s_.1 s_.2 (fun s_ => I.movesIn_L3 n { n := 22, t := [(0, (.ro false (.ints .i64 x0))), (3, (.own 0)), (4, (.int .i64 s_.1))], h := [.row (.rows s_.2)] } k) (fun d => k (.exit 0) { n := 22, t := [(3, (.own 0))], h := [.row (.rows d)] }) none := by
      kernel_rfl
    have hs : (fun s_ : Int × (List (List Int)) => I.movesIn_L3 n { n := 22, t := [(0, (.ro false (.ints .i64 x0))), (3, (.own 0)), (4, (.int .i64 s_.1))], h := [.row (.rows s_.2)] } k) = fun s_ => optC (I.movesIn_run3 x0 n s_) (fun (r : List (List Int)) => k (.exit 0) { n := 22, t := [(3, (.own 0))], h := [.row (.rows r)] }) none := funext ih
    rw [hu, hs]
    exact (I.movesIn_step3_nat (fun o => optC o (fun (r : List (List Int)) => k (.exit 0) { n := 22, t := [(3, (.own 0))], h := [.row (.rows r)] }) none) x0 s_.1 s_.2 (I.movesIn_run3 x0 n) (fun d => some d) none).symm
noncomputable def I.movesIn_tree {α : Type} (net : List Int) (leaf0_ : List (List Int) → α) (fail_ : α) : α :=
  (optC (I.allOf_t net) (fun c_1 => (bif decide (0 ≤ IntKind.i64.wrap (c_1 + 1)) && small (IntKind.i64.wrap (c_1 + 1)).toNat && true then (optC (I.movesIn_run3 net FUEL (0, List.replicate (IntKind.i64.wrap (c_1 + 1)).toNat [])) (fun qy_4 => (leaf0_ qy_4)) fail_) else fail_)) fail_)
theorem I.movesIn_tree_nat {α γ : Type} (g : α → γ) (net : List Int) (leaf0_ : List (List Int) → α) (fail_ : α) : g (I.movesIn_tree net leaf0_ fail_) = I.movesIn_tree net (fun d => g (leaf0_ d)) (g fail_) := by
  unfold I.movesIn_tree; simp only [apply_cnd g, apply_optC g, apply_sumC g]
noncomputable def I.movesIn_t (net : List Int) : Option (List (List Int)) := I.movesIn_tree net (fun d => some d) none
theorem I.movesIn_den (net : List Int) (κ : V → List E → R) : I.movesIn_F [.ro false (.ints .i64 net)] [] κ = optC (I.movesIn_t net) (fun (r : List (List Int)) => κ (.own 0) [.row (.rows r)]) none := by
  have hu : I.movesIn_F [.ro false (.ints .i64 net)] [] κ = I.movesIn_tree net (fun d => κ (.own 0) [.row (.rows d)]) none := by
    refine Eq.trans (show I.movesIn_F [.ro false (.ints .i64 net)] [] κ = (optC (I.allOf_t net) (fun c_1 => (bif decide (0 ≤ IntKind.i64.wrap (c_1 + 1)) && small (IntKind.i64.wrap (c_1 + 1)).toNat && true then (I.movesIn_L3 FUEL { n := 22, t := [(0, (.ro false (.ints .i64 net))), (3, (.own 0)), (4, (.int .i64 0))], h := [.row (.rows (List.replicate (IntKind.i64.wrap (c_1 + 1)).toNat []))] } (I.movesIn_k3 κ)) else none)) none) by kernel_rfl) ?_
    refine optC_congr (fun c_1 => ?_)
    refine cnd_congr ?_ ?_
    · refine (I.movesIn_L3_run net FUEL (0, List.replicate (IntKind.i64.wrap (c_1 + 1)).toNat []) (I.movesIn_k3 κ)).trans (optC_congr (fun qy_4 => ?_))
      kernel_rfl
    · kernel_rfl
  rw [hu]
  exact (I.movesIn_tree_nat (fun o => optC o (fun (r : List (List Int)) => κ (.own 0) [.row (.rows r)]) none) net (fun d => some d) none).symm
noncomputable def I.movesIn_s : D.Spec where
  keep := false
  pure := false
  ds := [.int .i64]
  sp := fun args h κ => match args, h with
    | [.ro false (.ints .i64 net)], [] => optC (I.movesIn_t net) (fun (r : List (List Int)) => κ (.own 0) [.row (.rows r)]) none
    | _, _ => none
theorem I.movesIn_ok : SpecOk Try.prog 76 I.movesIn_s := by
  refine SpecOk.of TDok mixed (T := I.movesIn_T) ?_ (ann := I.movesIn_ann) Try.func76 rfl (by decide +kernel) ?_ ?_ ?_
  · intro p hp
    simp only [I.movesIn_T, List.mem_cons, List.not_mem_nil, or_false] at hp
    rcases hp with rfl | rfl
    · exact I.allOf_ok
    · exact I.movesOf_ok
  · intro args h κ r hh
    simp only [I.movesIn_s] at hh
    split at hh
    · exact (I.movesIn_den _ κ).trans hh
    · cases hh
  · intro args h κ r hh
    simp only [I.movesIn_s] at hh ⊢
    split at hh
    · exact optC_law2 (F := fun (r : List (List Int)) κ => κ (.own 0) [.row (.rows r)]) (fun b κ r hb => ⟨_, _, hb, fun _ => rfl⟩) hh
    · cases hh
  · intro hh; cases hh

-- loop.example/guardsonnets/impl.eternalIn
noncomputable def I.eternalIn_T : List (Nat × D.Spec) := [(76, I.movesIn_s), (74, I.lastingIn_s)]
def I.eternalIn_ann : Nat → List Nat × List Nat
  | _ => ([], [])
noncomputable def I.eternalIn_F (args : List V) (h : List E) (κ : V → List E → R) : R := funC TD (tableK I.eternalIn_T) I.eternalIn_ann (drawOk (tableP I.eternalIn_T)) FUEL Try.f52 args h κ
noncomputable def I.eternalIn_tree {α : Type} (net : List Int) (leaf0_ : List Bool → α) (fail_ : α) : α :=
  (optC (I.movesIn_t net) (fun c_1 => (optC (I.lastingIn_t net c_1) (fun c_2 => (leaf0_ c_2)) fail_)) fail_)
theorem I.eternalIn_tree_nat {α γ : Type} (g : α → γ) (net : List Int) (leaf0_ : List Bool → α) (fail_ : α) : g (I.eternalIn_tree net leaf0_ fail_) = I.eternalIn_tree net (fun d => g (leaf0_ d)) (g fail_) := by
  unfold I.eternalIn_tree; simp only [apply_cnd g, apply_optC g, apply_sumC g]
noncomputable def I.eternalIn_t (net : List Int) : Option (List Bool) := I.eternalIn_tree net (fun d => some d) none
theorem I.eternalIn_den (net : List Int) (κ : V → List E → R) : I.eternalIn_F [.ro false (.ints .i64 net)] [] κ = optC (I.eternalIn_t net) (fun (r : List Bool) => κ (.own 0) [.row (.bools r)]) none := by
  have hu : I.eternalIn_F [.ro false (.ints .i64 net)] [] κ = I.eternalIn_tree net (fun d => κ (.own 0) [.row (.bools d)]) none := by
    kernel_rfl
  rw [hu]
  exact (I.eternalIn_tree_nat (fun o => optC o (fun (r : List Bool) => κ (.own 0) [.row (.bools r)]) none) net (fun d => some d) none).symm
noncomputable def I.eternalIn_s : D.Spec where
  keep := false
  pure := false
  ds := [.int .i64]
  sp := fun args h κ => match args, h with
    | [.ro false (.ints .i64 net)], [] => optC (I.eternalIn_t net) (fun (r : List Bool) => κ (.own 0) [.row (.bools r)]) none
    | _, _ => none
theorem I.eternalIn_ok : SpecOk Try.prog 52 I.eternalIn_s := by
  refine SpecOk.of TDok mixed (T := I.eternalIn_T) ?_ (ann := I.eternalIn_ann) Try.func52 rfl (by decide +kernel) ?_ ?_ ?_
  · intro p hp
    simp only [I.eternalIn_T, List.mem_cons, List.not_mem_nil, or_false] at hp
    rcases hp with rfl | rfl
    · exact I.movesIn_ok
    · exact I.lastingIn_ok
  · intro args h κ r hh
    simp only [I.eternalIn_s] at hh
    split at hh
    · exact (I.eternalIn_den _ κ).trans hh
    · cases hh
  · intro args h κ r hh
    simp only [I.eternalIn_s] at hh ⊢
    split at hh
    · exact optC_law2 (F := fun (r : List Bool) κ => κ (.own 0) [.row (.bools r)]) (fun b κ r hb => ⟨_, _, hb, fun _ => rfl⟩) hh
    · cases hh
  · intro hh; cases hh

-- loop.example/guardsonnets/impl.EternalOk
noncomputable def I.EternalOk_T : List (Nat × D.Spec) := [(29, I.NetOk_s), (41, I.setIn_s), (52, I.eternalIn_s)]
def I.EternalOk_ann : Nat → List Nat × List Nat
  | _ => ([], [])
noncomputable def I.EternalOk_F (args : List V) (h : List E) (κ : V → List E → R) : R := funC TD (tableK I.EternalOk_T) I.EternalOk_ann (drawOk (tableP I.EternalOk_T)) FUEL Try.f23 args h κ
noncomputable def I.EternalOk_tree {α : Type} (net : List Int) (set_ : Int) (leaf0_ : Bool → α) (fail_ : α) : α :=
  (optC (I.NetOk_t net) (fun c_1 => (bif c_1 then (optC (I.setIn_t net set_) (fun c_2 => (bif c_2 then (optC (I.eternalIn_t net) (fun c_3 => (bif decide (0 ≤ set_) && decide (set_ < (↑c_3.length : Int)) then (bif decide (set_.toNat < c_3.length) then (leaf0_ (elb c_3 set_.toNat)) else fail_) else fail_)) fail_) else (leaf0_ false))) fail_) else (leaf0_ false))) fail_)
theorem I.EternalOk_tree_nat {α γ : Type} (g : α → γ) (net : List Int) (set_ : Int) (leaf0_ : Bool → α) (fail_ : α) : g (I.EternalOk_tree net set_ leaf0_ fail_) = I.EternalOk_tree net set_ (fun d => g (leaf0_ d)) (g fail_) := by
  unfold I.EternalOk_tree; simp only [apply_cnd g, apply_optC g, apply_sumC g]
noncomputable def I.EternalOk_t (net : List Int) (set_ : Int) : Option (Bool) := I.EternalOk_tree net set_ (fun d => some d) none
theorem I.EternalOk_den (net : List Int) (set_ : Int) (κ : V → List E → R) : I.EternalOk_F [.ro false (.ints .i64 net), .int .i64 set_] [] κ = optC (I.EternalOk_t net set_) (fun (r : Bool) => κ (.bool r) []) none := by
  have hu : I.EternalOk_F [.ro false (.ints .i64 net), .int .i64 set_] [] κ = I.EternalOk_tree net set_ (fun d => κ (.bool d) []) none := by
    kernel_rfl
  rw [hu]
  exact (I.EternalOk_tree_nat (fun o => optC o (fun (r : Bool) => κ (.bool r) []) none) net set_ (fun d => some d) none).symm
noncomputable def I.EternalOk_s : D.Spec where
  keep := false
  pure := true
  ds := [.int .i64, .invalid]
  sp := fun args h κ => match args, h with
    | [.ro false (.ints .i64 net), .int .i64 set_], [] => optC (I.EternalOk_t net set_) (fun (r : Bool) => κ (.bool r) []) none
    | _, _ => none
theorem I.EternalOk_ok : SpecOk Try.prog 23 I.EternalOk_s := by
  refine SpecOk.of TDok mixed (T := I.EternalOk_T) ?_ (ann := I.EternalOk_ann) Try.func23 rfl (by decide +kernel) ?_ ?_ ?_
  · intro p hp
    simp only [I.EternalOk_T, List.mem_cons, List.not_mem_nil, or_false] at hp
    rcases hp with rfl | rfl | rfl
    · exact I.NetOk_ok
    · exact I.setIn_ok
    · exact I.eternalIn_ok
  · intro args h κ r hh
    simp only [I.EternalOk_s] at hh
    split at hh
    · exact (I.EternalOk_den _ _ κ).trans hh
    · cases hh
  · intro args h κ r hh
    simp only [I.EternalOk_s] at hh ⊢
    split at hh
    · exact optC_law2 (F := fun (r : Bool) κ => κ (.bool r) []) (fun b κ r hb => ⟨_, _, hb, fun _ => rfl⟩) hh
    · cases hh
  · intro _ args h κ r hh
    simp only [I.EternalOk_s] at hh
    split at hh
    · exact ⟨rfl, fun _ => rfl⟩
    · cases hh

-- loop.example/guardsonnets/impl.allAnswerIn
noncomputable def I.allAnswerIn_T : List (Nat × D.Spec) := [(61, I.allOf_s), (53, I.hasPlace_s), (42, I.allMoveIn_s)]
def I.allAnswerIn_ann : Nat → List Nat × List Nat
  | 2 => ([0, 1, 2, 3, 9], [8])
  | _ => ([], [])
noncomputable def I.allAnswerIn_F (args : List V) (h : List E) (κ : V → List E → R) : R := funC TD (tableK I.allAnswerIn_T) I.allAnswerIn_ann (drawOk (tableP I.allAnswerIn_T)) FUEL Try.f54 args h κ
noncomputable def I.allAnswerIn_L2 (n : Nat) (σ : St) (k : X → St → R) : R := iterC 0 (fun σ k => denC TD (tableK I.allAnswerIn_T) I.allAnswerIn_ann (drawOk (tableP I.allAnswerIn_T)) 0 FUEL ((findLoop 2 (Try.f54.body.getD .skip)).getD .skip) σ k) [0, 1, 2, 3, 9] [8] n σ k
noncomputable def I.allAnswerIn_k2 (κ : V → List E → R) : X → St → R := (afterC TD (tableK I.allAnswerIn_T) I.allAnswerIn_ann (drawOk (tableP I.allAnswerIn_T)) 0 FUEL 2 (Try.f54.body.getD .skip) (finC TD 0 Try.f54 κ)).getD (fun _ _ => none)
noncomputable def I.allAnswerIn_step2 {α : Type} (x0 : List Int) (x1 : List Bool) (x2 : Int) (x3 : Int) (x9 : Int) (next_ : Int → α) (out0_ : Int → α) (out1_ : Unit → α) (fail_ : α) : α :=
  (optC (I.allOf_t x0) (fun c_1 => (bif decide (x9 ≤ c_1) then (bif decide (0 ≤ x9) && decide (x9 < (↑x1.length : Int)) then (bif elb x1 x9.toNat then (optC (I.hasPlace_t x9 x3) (fun c_2 => (bif c_2 then (optC (I.allMoveIn_t x0 x2 x9) (fun c_3 => (bif c_3 then (out0_ x9) else (next_ (IntKind.i64.wrap (x9 + 1))))) fail_) else (next_ (IntKind.i64.wrap (x9 + 1))))) fail_) else (next_ (IntKind.i64.wrap (x9 + 1)))) else fail_) else (out1_ ()))) fail_)
theorem I.allAnswerIn_step2_nat {α γ : Type} (g : α → γ) (x0 : List Int) (x1 : List Bool) (x2 : Int) (x3 : Int) (x9 : Int) (next_ : Int → α) (out0_ : Int → α) (out1_ : Unit → α) (fail_ : α) : g (I.allAnswerIn_step2 x0 x1 x2 x3 x9 next_ out0_ out1_ fail_) = I.allAnswerIn_step2 x0 x1 x2 x3 x9 (fun s => g (next_ s)) (fun d => g (out0_ d)) (fun d => g (out1_ d)) (g fail_) := by
  unfold I.allAnswerIn_step2; simp only [apply_cnd g, apply_optC g, apply_sumC g]
noncomputable def I.allAnswerIn_run2 (x0 : List Int) (x1 : List Bool) (x2 : Int) (x3 : Int) : Nat → Int → Option ((Int) ⊕ (Unit))
  | 0, _ => none
  | n + 1, s_ => I.allAnswerIn_step2 x0 x1 x2 x3 s_ (I.allAnswerIn_run2 x0 x1 x2 x3 n) (fun d => some ((Sum.inl d))) (fun d => some ((Sum.inr d))) none
theorem I.allAnswerIn_L2_run (x0 : List Int) (x1 : List Bool) (x2 : Int) (x3 : Int) (n : Nat) (s_ : Int) (k : X → St → R) : I.allAnswerIn_L2 n { n := 32, t := [(0, (.ro false (.ints .i64 x0))), (1, (.ro false (.bools x1))), (2, (.int .i64 x2)), (3, (.int .i64 x3)), (9, (.int .i64 s_))], h := [] } k = optC (I.allAnswerIn_run2 x0 x1 x2 x3 n s_) (fun (r : (Int) ⊕ (Unit)) => (sumC r (fun (r : Int) => k (.ret) { n := 32, t := [(8, (.int .i64 r))], h := [] }) (fun (r : Unit) => k (.exit 0) { n := 32, t := [(8, .junk)], h := [] }))) none := by
  induction n generalizing s_ with
  | zero => rfl
  | succ n ih =>
    have hu : I.allAnswerIn_L2 (n + 1) { n := 32, t := [(0, (.ro false (.ints .i64 x0))), (1, (.ro false (.bools x1))), (2, (.int .i64 x2)), (3, (.int .i64 x3)), (9, (.int .i64 s_))], h := [] } k = I.allAnswerIn_step2 x0 x1 x2 x3 s_ (fun s_ => I.allAnswerIn_L2 n { n := 32, t := [(0, (.ro false (.ints .i64 x0))), (1, (.ro false (.bools x1))), (2, (.int .i64 x2)), (3, (.int .i64 x3)), (9, (.int .i64 s_))], h := [] } k) (fun d => k (.ret) { n := 32, t := [(8, (.int .i64 d))], h := [] }) (fun d => k (.exit 0) { n := 32, t := [(8, .junk)], h := [] }) none := by
      kernel_rfl
    have hs : (fun s_ : Int => I.allAnswerIn_L2 n { n := 32, t := [(0, (.ro false (.ints .i64 x0))), (1, (.ro false (.bools x1))), (2, (.int .i64 x2)), (3, (.int .i64 x3)), (9, (.int .i64 s_))], h := [] } k) = fun s_ => optC (I.allAnswerIn_run2 x0 x1 x2 x3 n s_) (fun (r : (Int) ⊕ (Unit)) => (sumC r (fun (r : Int) => k (.ret) { n := 32, t := [(8, (.int .i64 r))], h := [] }) (fun (r : Unit) => k (.exit 0) { n := 32, t := [(8, .junk)], h := [] }))) none := funext ih
    rw [hu, hs]
    exact (I.allAnswerIn_step2_nat (fun o => optC o (fun (r : (Int) ⊕ (Unit)) => (sumC r (fun (r : Int) => k (.ret) { n := 32, t := [(8, (.int .i64 r))], h := [] }) (fun (r : Unit) => k (.exit 0) { n := 32, t := [(8, .junk)], h := [] }))) none) x0 x1 x2 x3 s_ (I.allAnswerIn_run2 x0 x1 x2 x3 n) (fun d => some ((Sum.inl d))) (fun d => some ((Sum.inr d))) none).symm
noncomputable def I.allAnswerIn_tree {α : Type} (net : List Int) (eternal : List Bool) (set_ : Int) (place : Int) (leaf0_ : Int → α) (fail_ : α) : α :=
  (optC (I.allAnswerIn_run2 net eternal set_ place FUEL 0) (fun qy_4 => (sumC qy_4 (fun (qy_4 : Int) => (leaf0_ qy_4)) (fun (qy_4 : Unit) => (leaf0_ (-1))))) fail_)
theorem I.allAnswerIn_tree_nat {α γ : Type} (g : α → γ) (net : List Int) (eternal : List Bool) (set_ : Int) (place : Int) (leaf0_ : Int → α) (fail_ : α) : g (I.allAnswerIn_tree net eternal set_ place leaf0_ fail_) = I.allAnswerIn_tree net eternal set_ place (fun d => g (leaf0_ d)) (g fail_) := by
  unfold I.allAnswerIn_tree; simp only [apply_cnd g, apply_optC g, apply_sumC g]
noncomputable def I.allAnswerIn_t (net : List Int) (eternal : List Bool) (set_ : Int) (place : Int) : Option (Int) := I.allAnswerIn_tree net eternal set_ place (fun d => some d) none
theorem I.allAnswerIn_den (net : List Int) (eternal : List Bool) (set_ : Int) (place : Int) (κ : V → List E → R) : I.allAnswerIn_F [.ro false (.ints .i64 net), .ro false (.bools eternal), .int .i64 set_, .int .i64 place] [] κ = optC (I.allAnswerIn_t net eternal set_ place) (fun (r : Int) => κ (.int .i64 r) []) none := by
  have hu : I.allAnswerIn_F [.ro false (.ints .i64 net), .ro false (.bools eternal), .int .i64 set_, .int .i64 place] [] κ = I.allAnswerIn_tree net eternal set_ place (fun d => κ (.int .i64 d) []) none := by
    refine Eq.trans (show I.allAnswerIn_F [.ro false (.ints .i64 net), .ro false (.bools eternal), .int .i64 set_, .int .i64 place] [] κ = (I.allAnswerIn_L2 FUEL { n := 32, t := [(0, (.ro false (.ints .i64 net))), (1, (.ro false (.bools eternal))), (2, (.int .i64 set_)), (3, (.int .i64 place)), (9, (.int .i64 0))], h := [] } (I.allAnswerIn_k2 κ)) by kernel_rfl) ?_
    refine (I.allAnswerIn_L2_run net eternal set_ place FUEL 0 (I.allAnswerIn_k2 κ)).trans (optC_congr (fun qy_4 => ?_))
    rcases qy_4 with qy_4 | qy_4
    · kernel_rfl
    · kernel_rfl
  rw [hu]
  exact (I.allAnswerIn_tree_nat (fun o => optC o (fun (r : Int) => κ (.int .i64 r) []) none) net eternal set_ place (fun d => some d) none).symm
noncomputable def I.allAnswerIn_s : D.Spec where
  keep := false
  pure := true
  ds := [.int .i64, .bool, .invalid, .invalid]
  sp := fun args h κ => match args, h with
    | [.ro false (.ints .i64 net), .ro false (.bools eternal), .int .i64 set_, .int .i64 place], [] => optC (I.allAnswerIn_t net eternal set_ place) (fun (r : Int) => κ (.int .i64 r) []) none
    | _, _ => none
theorem I.allAnswerIn_ok : SpecOk Try.prog 54 I.allAnswerIn_s := by
  refine SpecOk.of TDok mixed (T := I.allAnswerIn_T) ?_ (ann := I.allAnswerIn_ann) Try.func54 rfl (by decide +kernel) ?_ ?_ ?_
  · intro p hp
    simp only [I.allAnswerIn_T, List.mem_cons, List.not_mem_nil, or_false] at hp
    rcases hp with rfl | rfl | rfl
    · exact I.allOf_ok
    · exact I.hasPlace_ok
    · exact I.allMoveIn_ok
  · intro args h κ r hh
    simp only [I.allAnswerIn_s] at hh
    split at hh
    · exact (I.allAnswerIn_den _ _ _ _ κ).trans hh
    · cases hh
  · intro args h κ r hh
    simp only [I.allAnswerIn_s] at hh ⊢
    split at hh
    · exact optC_law2 (F := fun (r : Int) κ => κ (.int .i64 r) []) (fun b κ r hb => ⟨_, _, hb, fun _ => rfl⟩) hh
    · cases hh
  · intro _ args h κ r hh
    simp only [I.allAnswerIn_s] at hh
    split at hh
    · exact ⟨rfl, fun _ => rfl⟩
    · cases hh


end Go.Proofs.Ytgocpgkhbamkcaa
