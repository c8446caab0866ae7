/- Twins of the translated functions, with their proofs. Conditions: none. -/
import Derived.Test.YtleianhibhpgpaaBzT1
set_option linter.unusedVariables false
set_option linter.unusedSimpArgs false
set_option linter.unusedSectionVars false
namespace Go.Proofs.Ytleianhibhpgpaa
open D Go.RowKit
-- loop.example/guardsonnets/impl.MostApart
noncomputable def I.MostApart_T : List (Nat × D.Spec) := [(10, I.NetOk_s), (34, I.allOf_s), (35, I.sizeOf_s), (36, I.apartIn_s)]
def I.MostApart_ann : Nat → List Nat × List Nat
  | 5 => ([0, 3, 4], [3])
  | _ => ([], [])
noncomputable def I.MostApart_F (args : List V) (h : List E) (κ : V → List E → R) : R := funC TD (tableK I.MostApart_T) I.MostApart_ann (drawOk TD (tableP I.MostApart_T)) FUEL Try.f12 args h κ
noncomputable def I.MostApart_L5 (n : Nat) (σ : St) (k : X → St → R) : R := iterC 0 (fun σ k => denC TD (tableK I.MostApart_T) I.MostApart_ann (drawOk TD (tableP I.MostApart_T)) 0 FUEL ((findLoop 5 (Try.f12.body.getD .skip)).getD .skip) σ k) [0, 3, 4] [3] n σ k
noncomputable def I.MostApart_k5 (κ : V → List E → R) : X → St → R := (afterC TD (tableK I.MostApart_T) I.MostApart_ann (drawOk TD (tableP I.MostApart_T)) 0 FUEL 5 (Try.f12.body.getD .skip) (finC TD 0 Try.f12 κ)).getD (fun _ _ => none)
noncomputable def I.MostApart_step5 {α : Type} (x0 : List Int) (x3 : Int) (x4 : Int) (next_ : Int × Int → α) (out0_ : Int → α) (fail_ : α) : α :=
  (optC (I.allOf_t x0) (fun c_2 => (bif decide (x4 ≤ c_2) then (optC (I.sizeOf_t x4) (fun c_3 => (bif decide (c_3 > x3) then (optC (I.apartIn_t x0 x4) (fun c_4 => (bif c_4 then (optC (I.sizeOf_t x4) (fun c_5 => (next_ (c_5, IntKind.i64.wrap (x4 + 1)))) fail_) else (next_ (x3, IntKind.i64.wrap (x4 + 1))))) fail_) else (next_ (x3, IntKind.i64.wrap (x4 + 1))))) fail_) else (out0_ x3))) fail_)
theorem I.MostApart_step5_nat {α γ : Type} (g : α → γ) (x0 : List Int) (x3 : Int) (x4 : Int) (next_ : Int × Int → α) (out0_ : Int → α) (fail_ : α) : g (I.MostApart_step5 x0 x3 x4 next_ out0_ fail_) = I.MostApart_step5 x0 x3 x4 (fun s => g (next_ s)) (fun d => g (out0_ d)) (g fail_) := by
  unfold I.MostApart_step5; simp only [apply_cnd g, apply_optC g, apply_sumC g]
noncomputable def I.MostApart_run5 (x0 : List Int) : Nat → Int × Int → Option (Int)
  | 0, _ => none
  | n + 1, s_ => I.MostApart_step5 x0 s_.1 s_.2 (I.MostApart_run5 x0 n) (fun d => some d) none
theorem I.MostApart_L5_run (x0 : List Int) (n : Nat) (s_ : Int × Int) (k : X → St → R) : I.MostApart_L5 n { n := 26, t := [(0, (.ro false (.ints .i64 x0))), (3, (.int .i64 s_.1)), (4, (.int .i64 s_.2))], h := [] } k = optC (I.MostApart_run5 x0 n s_) (fun (r : Int) => k (.exit 0) { n := 26, t := [(3, (.int .i64 r))], h := [] }) none := by
  induction n generalizing s_ with
  | zero => rfl
  | succ n ih =>
    have hu : I.MostApart_L5 (n + 1) { n := 26, t := [(0, (.ro false (.ints .i64 x0))), (3, (.int .i64 s_.1)), (4, (.int .i64 s_.2))], h := [] } k = I.MostApart_step5 x0 s_.1 s_.2 (fun s_ => I.MostApart_L5 n { n := 26, t := [(0, (.ro false (.ints .i64 x0))), (3, (.int .i64 s_.1)), (4, (.int .i64 s_.2))], h := [] } k) (fun d => k (.exit 0) { n := 26, t := [(3, (.int .i64 d))], h := [] }) none := by
      kernel_rfl
    have hs : (fun s_ : Int × Int => I.MostApart_L5 n { n := 26, t := [(0, (.ro false (.ints .i64 x0))), (3, (.int .i64 s_.1)), (4, (.int .i64 s_.2))], h := [] } k) = fun s_ => optC (I.MostApart_run5 x0 n s_) (fun (r : Int) => k (.exit 0) { n := 26, t := [(3, (.int .i64 r))], h := [] }) none := funext ih
    rw [hu, hs]
    exact (I.MostApart_step5_nat (fun o => optC o (fun (r : Int) => k (.exit 0) { n := 26, t := [(3, (.int .i64 r))], h := [] }) none) x0 s_.1 s_.2 (I.MostApart_run5 x0 n) (fun d => some d) none).symm
noncomputable def I.MostApart_tree {α : Type} (net : List Int) (leaf0_ : Int → α) (fail_ : α) : α :=
  (optC (I.NetOk_t net) (fun c_1 => (bif !c_1 then (leaf0_ (-1)) else (optC (I.MostApart_run5 net FUEL (0, 0)) (fun qy_6 => (leaf0_ qy_6)) fail_))) fail_)
theorem I.MostApart_tree_nat {α γ : Type} (g : α → γ) (net : List Int) (leaf0_ : Int → α) (fail_ : α) : g (I.MostApart_tree net leaf0_ fail_) = I.MostApart_tree net (fun d => g (leaf0_ d)) (g fail_) := by
  unfold I.MostApart_tree; simp only [apply_cnd g, apply_optC g, apply_sumC g]
noncomputable def I.MostApart_t (net : List Int) : Option (Int) := I.MostApart_tree net (fun d => some d) none
theorem I.MostApart_den (net : List Int) (κ : V → List E → R) : I.MostApart_F [.ro false (.ints .i64 net)] [] κ = optC (I.MostApart_t net) (fun (r : Int) => κ (.int .i64 r) []) none := by
  have hu : I.MostApart_F [.ro false (.ints .i64 net)] [] κ = I.MostApart_tree net (fun d => κ (.int .i64 d) []) none := by
    refine Eq.trans (show I.MostApart_F [.ro false (.ints .i64 net)] [] κ = (optC (I.NetOk_t net) (fun c_1 => (bif !c_1 then (κ (.int .i64 (-1)) []) else (I.MostApart_L5 FUEL { n := 26, t := [(0, (.ro false (.ints .i64 net))), (3, (.int .i64 0)), (4, (.int .i64 0))], h := [] } (I.MostApart_k5 κ)))) none) by kernel_rfl) ?_
    refine optC_congr (fun c_1 => ?_)
    refine cnd_congr ?_ ?_
    · kernel_rfl
    · refine (I.MostApart_L5_run net FUEL (0, 0) (I.MostApart_k5 κ)).trans (optC_congr (fun qy_6 => ?_))
      kernel_rfl
  rw [hu]
  exact (I.MostApart_tree_nat (fun o => optC o (fun (r : Int) => κ (.int .i64 r) []) none) net (fun d => some d) none).symm
noncomputable def I.MostApart_s : D.Spec where
  keep := false
  pure := true
  add := true
  ds := [.int .i64]
  sp := fun args h κ => match args, h with
    | [.ro false (.ints .i64 net)], [] => optC (I.MostApart_t net) (fun (r : Int) => κ (.int .i64 r) []) none
    | _, _ => none
theorem I.MostApart_ok : SpecOk Try.prog 12 I.MostApart_s := by
  refine SpecOk.of TDok mixed (T := I.MostApart_T) ?_ (ann := I.MostApart_ann) Try.func12 rfl (by decide +kernel) ?_ ?_ ?_ ?_
  · intro p hp
    simp only [I.MostApart_T, List.mem_cons, List.not_mem_nil, or_false] at hp
    rcases hp with rfl | rfl | rfl | rfl
    · exact I.NetOk_ok
    · exact I.allOf_ok
    · exact I.sizeOf_ok
    · exact I.apartIn_ok
  · intro args h κ r hh
    simp only [I.MostApart_s] at hh
    split at hh
    · exact (I.MostApart_den _ κ).trans hh
    · cases hh
  · intro args h κ r hh
    simp only [I.MostApart_s] at hh ⊢
    split at hh
    · exact optC_law2 (F := fun (r : Int) κ => κ (.int .i64 r) []) (fun b κ r hb => ⟨_, _, hb, fun _ => rfl⟩) hh
    · cases hh
  · intro _ args h κ r hh
    simp only [I.MostApart_s] at hh
    split at hh
    · exact ⟨rfl, fun _ => rfl⟩
    · cases hh
  · intro _ args h κ r hh
    simp only [I.MostApart_s] at hh
    split at hh
    · rfl
    · cases hh

-- loop.example/guardsonnets/impl.moveIn
noncomputable def I.moveIn_T : List (Nat × D.Spec) := [(32, I.hasPlace_s)]
def I.moveIn_ann : Nat → List Nat × List Nat
  | _ => ([], [])
noncomputable def I.moveIn_F (args : List V) (h : List E) (κ : V → List E → R) : R := funC TD (tableK I.moveIn_T) I.moveIn_ann (drawOk TD (tableP I.moveIn_T)) FUEL Try.f78 args h κ
noncomputable def I.moveIn_tree {α : Type} (net : List Int) (set_ : Int) (from_ : Int) (to_ : Int) (leaf0_ : Bool → α) (fail_ : α) : α :=
  (optC (I.hasPlace_t set_ from_) (fun c_1 => (bif c_1 then (optC (I.hasPlace_t set_ to_) (fun c_2 => (bif !c_2 then (bif decide (0 ≤ from_) && decide (from_ < (↑net.length : Int)) then (optC (I.hasPlace_t (eli net from_.toNat) to_) (fun c_3 => (leaf0_ c_3)) fail_) else fail_) else (leaf0_ false))) fail_) else (leaf0_ false))) fail_)
theorem I.moveIn_tree_nat {α γ : Type} (g : α → γ) (net : List Int) (set_ : Int) (from_ : Int) (to_ : Int) (leaf0_ : Bool → α) (fail_ : α) : g (I.moveIn_tree net set_ from_ to_ leaf0_ fail_) = I.moveIn_tree net set_ from_ to_ (fun d => g (leaf0_ d)) (g fail_) := by
  unfold I.moveIn_tree; simp only [apply_cnd g, apply_optC g, apply_sumC g]
noncomputable def I.moveIn_t (net : List Int) (set_ : Int) (from_ : Int) (to_ : Int) : Option (Bool) := I.moveIn_tree net set_ from_ to_ (fun d => some d) none
theorem I.moveIn_den (net : List Int) (set_ : Int) (from_ : Int) (to_ : Int) (κ : V → List E → R) : I.moveIn_F [.ro false (.ints .i64 net), .int .i64 set_, .int .i64 from_, .int .i64 to_] [] κ = optC (I.moveIn_t net set_ from_ to_) (fun (r : Bool) => κ (.bool r) []) none := by
  have hu : I.moveIn_F [.ro false (.ints .i64 net), .int .i64 set_, .int .i64 from_, .int .i64 to_] [] κ = I.moveIn_tree net set_ from_ to_ (fun d => κ (.bool d) []) none := by
    kernel_rfl
  rw [hu]
  exact (I.moveIn_tree_nat (fun o => optC o (fun (r : Bool) => κ (.bool r) []) none) net set_ from_ to_ (fun d => some d) none).symm
noncomputable def I.moveIn_s : D.Spec where
  keep := false
  pure := true
  add := true
  ds := [.int .i64, .invalid, .invalid, .invalid]
  sp := fun args h κ => match args, h with
    | [.ro false (.ints .i64 net), .int .i64 set_, .int .i64 from_, .int .i64 to_], [] => optC (I.moveIn_t net set_ from_ to_) (fun (r : Bool) => κ (.bool r) []) none
    | _, _ => none
theorem I.moveIn_ok : SpecOk Try.prog 78 I.moveIn_s := by
  refine SpecOk.of TDok mixed (T := I.moveIn_T) ?_ (ann := I.moveIn_ann) Try.func78 rfl (by decide +kernel) ?_ ?_ ?_ ?_
  · intro p hp
    simp only [I.moveIn_T, List.mem_cons, List.not_mem_nil, or_false] at hp
    rcases hp with rfl
    · exact I.hasPlace_ok
  · intro args h κ r hh
    simp only [I.moveIn_s] at hh
    split at hh
    · exact (I.moveIn_den _ _ _ _ κ).trans hh
    · cases hh
  · intro args h κ r hh
    simp only [I.moveIn_s] at hh ⊢
    split at hh
    · exact optC_law2 (F := fun (r : Bool) κ => κ (.bool r) []) (fun b κ r hb => ⟨_, _, hb, fun _ => rfl⟩) hh
    · cases hh
  · intro _ args h κ r hh
    simp only [I.moveIn_s] at hh
    split at hh
    · exact ⟨rfl, fun _ => rfl⟩
    · cases hh
  · intro _ args h κ r hh
    simp only [I.moveIn_s] at hh
    split at hh
    · rfl
    · cases hh

-- loop.example/guardsonnets/impl.without
noncomputable def I.without_T : List (Nat × D.Spec) := []
def I.without_ann : Nat → List Nat × List Nat
  | _ => ([], [])
noncomputable def I.without_F (args : List V) (h : List E) (κ : V → List E → R) : R := funC TD (tableK I.without_T) I.without_ann (drawOk TD (tableP I.without_T)) FUEL Try.f58 args h κ
noncomputable def I.without_tree {α : Type} (set_ : Int) (place : Int) (leaf0_ : Int → α) (fail_ : α) : α :=
  (bif decide (place < 0) then fail_ else (leaf0_ (bits BinOp.andNot IntKind.i64 set_ (IntKind.i64.wrap (1 * 2 ^ min place.toNat IntKind.i64.bits)))))
theorem I.without_tree_nat {α γ : Type} (g : α → γ) (set_ : Int) (place : Int) (leaf0_ : Int → α) (fail_ : α) : g (I.without_tree set_ place leaf0_ fail_) = I.without_tree set_ place (fun d => g (leaf0_ d)) (g fail_) := by
  unfold I.without_tree; simp only [apply_cnd g, apply_optC g, apply_sumC g]
noncomputable def I.without_t (set_ : Int) (place : Int) : Option (Int) := I.without_tree set_ place (fun d => some d) none
theorem I.without_den (set_ : Int) (place : Int) (κ : V → List E → R) : I.without_F [.int .i64 set_, .int .i64 place] [] κ = optC (I.without_t set_ place) (fun (r : Int) => κ (.int .i64 r) []) none := by
  have hu : I.without_F [.int .i64 set_, .int .i64 place] [] κ = I.without_tree set_ place (fun d => κ (.int .i64 d) []) none := by
    kernel_rfl
  rw [hu]
  exact (I.without_tree_nat (fun o => optC o (fun (r : Int) => κ (.int .i64 r) []) none) set_ place (fun d => some d) none).symm
noncomputable def I.without_s : D.Spec where
  keep := false
  pure := true
  add := true
  ds := [.invalid, .invalid]
  sp := fun args h κ => match args, h with
    | [.int .i64 set_, .int .i64 place], [] => optC (I.without_t set_ place) (fun (r : Int) => κ (.int .i64 r) []) none
    | _, _ => none
theorem I.without_ok : SpecOk Try.prog 58 I.without_s := by
  refine SpecOk.of TDok mixed (T := I.without_T) ?_ (ann := I.without_ann) Try.func58 rfl (by decide +kernel) ?_ ?_ ?_ ?_
  · intro p hp; cases hp
  · intro args h κ r hh
    simp only [I.without_s] at hh
    split at hh
    · exact (I.without_den _ _ κ).trans hh
    · cases hh
  · intro args h κ r hh
    simp only [I.without_s] at hh ⊢
    split at hh
    · exact optC_law2 (F := fun (r : Int) κ => κ (.int .i64 r) []) (fun b κ r hb => ⟨_, _, hb, fun _ => rfl⟩) hh
    · cases hh
  · intro _ args h κ r hh
    simp only [I.without_s] at hh
    split at hh
    · exact ⟨rfl, fun _ => rfl⟩
    · cases hh
  · intro _ args h κ r hh
    simp only [I.without_s] at hh
    split at hh
    · rfl
    · cases hh

-- loop.example/guardsonnets/impl.moved
noncomputable def I.moved_T : List (Nat × D.Spec) := [(58, I.without_s), (77, I.with_s)]
def I.moved_ann : Nat → List Nat × List Nat
  | _ => ([], [])
noncomputable def I.moved_F (args : List V) (h : List E) (κ : V → List E → R) : R := funC TD (tableK I.moved_T) I.moved_ann (drawOk TD (tableP I.moved_T)) FUEL Try.f79 args h κ
noncomputable def I.moved_tree {α : Type} (set_ : Int) (from_ : Int) (to_ : Int) (leaf0_ : Int → α) (fail_ : α) : α :=
  (optC (I.without_t set_ from_) (fun c_1 => (optC (I.with_t c_1 to_) (fun c_2 => (leaf0_ c_2)) fail_)) fail_)
theorem I.moved_tree_nat {α γ : Type} (g : α → γ) (set_ : Int) (from_ : Int) (to_ : Int) (leaf0_ : Int → α) (fail_ : α) : g (I.moved_tree set_ from_ to_ leaf0_ fail_) = I.moved_tree set_ from_ to_ (fun d => g (leaf0_ d)) (g fail_) := by
  unfold I.moved_tree; simp only [apply_cnd g, apply_optC g, apply_sumC g]
noncomputable def I.moved_t (set_ : Int) (from_ : Int) (to_ : Int) : Option (Int) := I.moved_tree set_ from_ to_ (fun d => some d) none
theorem I.moved_den (set_ : Int) (from_ : Int) (to_ : Int) (κ : V → List E → R) : I.moved_F [.int .i64 set_, .int .i64 from_, .int .i64 to_] [] κ = optC (I.moved_t set_ from_ to_) (fun (r : Int) => κ (.int .i64 r) []) none := by
  have hu : I.moved_F [.int .i64 set_, .int .i64 from_, .int .i64 to_] [] κ = I.moved_tree set_ from_ to_ (fun d => κ (.int .i64 d) []) none := by
    kernel_rfl
  rw [hu]
  exact (I.moved_tree_nat (fun o => optC o (fun (r : Int) => κ (.int .i64 r) []) none) set_ from_ to_ (fun d => some d) none).symm
noncomputable def I.moved_s : D.Spec where
  keep := false
  pure := true
  add := true
  ds := [.invalid, .invalid, .invalid]
  sp := fun args h κ => match args, h with
    | [.int .i64 set_, .int .i64 from_, .int .i64 to_], [] => optC (I.moved_t set_ from_ to_) (fun (r : Int) => κ (.int .i64 r) []) none
    | _, _ => none
theorem I.moved_ok : SpecOk Try.prog 79 I.moved_s := by
  refine SpecOk.of TDok mixed (T := I.moved_T) ?_ (ann := I.moved_ann) Try.func79 rfl (by decide +kernel) ?_ ?_ ?_ ?_
  · intro p hp
    simp only [I.moved_T, List.mem_cons, List.not_mem_nil, or_false] at hp
    rcases hp with rfl | rfl
    · exact I.without_ok
    · exact I.with_ok
  · intro args h κ r hh
    simp only [I.moved_s] at hh
    split at hh
    · exact (I.moved_den _ _ _ κ).trans hh
    · cases hh
  · intro args h κ r hh
    simp only [I.moved_s] at hh ⊢
    split at hh
    · exact optC_law2 (F := fun (r : Int) κ => κ (.int .i64 r) []) (fun b κ r hb => ⟨_, _, hb, fun _ => rfl⟩) hh
    · cases hh
  · intro _ args h κ r hh
    simp only [I.moved_s] at hh
    split at hh
    · exact ⟨rfl, fun _ => rfl⟩
    · cases hh
  · intro _ args h κ r hh
    simp only [I.moved_s] at hh
    split at hh
    · rfl
    · cases hh

-- loop.example/guardsonnets/impl.movesOf
noncomputable def I.movesOf_T : List (Nat × D.Spec) := [(78, I.moveIn_s), (79, I.moved_s)]
def I.movesOf_ann : Nat → List Nat × List Nat
  | 6 => ([0, 1, 5, 6, 7], [0, 1, 5, 6])
  | 3 => ([0, 1, 5, 6], [5])
  | _ => ([], [])
noncomputable def I.movesOf_F (args : List V) (h : List E) (κ : V → List E → R) : R := funC TD (tableK I.movesOf_T) I.movesOf_ann (drawOk TD (tableP I.movesOf_T)) FUEL Try.f71 args h κ
noncomputable def I.movesOf_L6 (n : Nat) (σ : St) (k : X → St → R) : R := iterC 0 (fun σ k => denC TD (tableK I.movesOf_T) I.movesOf_ann (drawOk TD (tableP I.movesOf_T)) 0 FUEL ((findLoop 6 (Try.f71.body.getD .skip)).getD .skip) σ k) [0, 1, 5, 6, 7] [0, 1, 5, 6] n σ k
noncomputable def I.movesOf_L3 (n : Nat) (σ : St) (k : X → St → R) : R := iterC 0 (fun σ k => denC TD (tableK I.movesOf_T) I.movesOf_ann (drawOk TD (tableP I.movesOf_T)) 0 FUEL ((findLoop 3 (Try.f71.body.getD .skip)).getD .skip) σ k) [0, 1, 5, 6] [5] n σ k
noncomputable def I.movesOf_k6 (c : (St → R) × (X → St → R)) : X → St → R := (afterC TD (tableK I.movesOf_T) I.movesOf_ann (drawOk TD (tableP I.movesOf_T)) 0 FUEL 6 ((findLoop 3 (Try.f71.body.getD .skip)).getD .skip) (roundC 0 [0, 1, 5, 6] [5] c.1 c.2)).getD (fun _ _ => none)
noncomputable def I.movesOf_k3 (κ : V → List E → R) : X → St → R := (afterC TD (tableK I.movesOf_T) I.movesOf_ann (drawOk TD (tableP I.movesOf_T)) 0 FUEL 3 (Try.f71.body.getD .skip) (finC TD 0 Try.f71 κ)).getD (fun _ _ => none)
noncomputable def I.movesOf_step6 {α : Type} (x0 : List Int) (x1 : Int) (x6 : Int) (x7 : Int) (r0 : List Int) (next_ : Int × (List Int) → α) (out0_ : List Int → α) (fail_ : α) : α :=
  (bif decide (x7 < (↑x0.length : Int)) then (optC (I.moveIn_t x0 x1 x6 x7) (fun c_1 => (bif c_1 then (optC (I.moved_t x1 x6 x7) (fun c_2 => (bif small (r0 ++ [c_2]).length then (next_ (IntKind.i64.wrap (x7 + 1), r0 ++ [c_2])) else fail_)) fail_) else (next_ (IntKind.i64.wrap (x7 + 1), r0)))) fail_) else (out0_ r0))
theorem I.movesOf_step6_nat {α γ : Type} (g : α → γ) (x0 : List Int) (x1 : Int) (x6 : Int) (x7 : Int) (r0 : List Int) (next_ : Int × (List Int) → α) (out0_ : List Int → α) (fail_ : α) : g (I.movesOf_step6 x0 x1 x6 x7 r0 next_ out0_ fail_) = I.movesOf_step6 x0 x1 x6 x7 r0 (fun s => g (next_ s)) (fun d => g (out0_ d)) (g fail_) := by
  unfold I.movesOf_step6; simp only [apply_cnd g, apply_optC g, apply_sumC g]
noncomputable def I.movesOf_run6 (x0 : List Int) (x1 : Int) (x6 : Int) : Nat → Int × (List Int) → Option (List Int)
  | 0, _ => none
  | n + 1, s_ => I.movesOf_step6 x0 x1 x6 s_.1 s_.2 (I.movesOf_run6 x0 x1 x6 n) (fun d => some d) none
theorem I.movesOf_L6_run (x0 : List Int) (x1 : Int) (x6 : Int) (n : Nat) (s_ : Int × (List Int)) (k : X → St → R) : I.movesOf_L6 n { n := 34, t := [(0, (.ro false (.ints .i64 x0))), (1, (.int .i64 x1)), (5, (.own 0)), (6, (.int .i64 x6)), (7, (.int .i64 s_.1))], h := [.row (.ints .i64 s_.2)] } k = optC (I.movesOf_run6 x0 x1 x6 n s_) (fun (r : List Int) => k (.exit 2) { n := 34, t := [(0, (.ro false (.ints .i64 x0))), (1, (.int .i64 x1)), (5, (.own 0)), (6, (.int .i64 x6))], h := [.row (.ints .i64 r)] }) none := by
  induction n generalizing s_ with
  | zero => rfl
  | succ n ih =>
    have hu : I.movesOf_L6 (n + 1) { n := 34, t := [(0, (.ro false (.ints .i64 x0))), (1, (.int .i64 x1)), (5, (.own 0)), (6, (.int .i64 x6)), (7, (.int .i64 s_.1))], h := [.row (.ints .i64 s_.2)] } k = I.movesOf_step6 x0 x1 x6 s_.1 s_.2 (fun s_ => I.movesOf_L6 n { n := 34, t := [(0, (.ro false (.ints .i64 x0))), (1, (.int .i64 x1)), (5, (.own 0)), (6, (.int .i64 x6)), (7, (.int .i64 s_.1))], h := [.row (.ints .i64 s_.2)] } k) (fun d => k (.exit 2) { n := 34, t := [(0, (.ro false (.ints .i64 x0))), (1, (.int .i64 x1)), (5, (.own 0)), (6, (.int .i64 x6))], h := [.row (.ints .i64 d)] }) none := by
      kernel_rfl
    have hs : (fun s_ : Int × (List Int) => I.movesOf_L6 n { n := 34, t := [(0, (.ro false (.ints .i64 x0))), (1, (.int .i64 x1)), (5, (.own 0)), (6, (.int .i64 x6)), (7, (.int .i64 s_.1))], h := [.row (.ints .i64 s_.2)] } k) = fun s_ => optC (I.movesOf_run6 x0 x1 x6 n s_) (fun (r : List Int) => k (.exit 2) { n := 34, t := [(0, (.ro false (.ints .i64 x0))), (1, (.int .i64 x1)), (5, (.own 0)), (6, (.int .i64 x6))], h := [.row (.ints .i64 r)] }) none := funext ih
    rw [hu, hs]
    exact (I.movesOf_step6_nat (fun o => optC o (fun (r : List Int) => k (.exit 2) { n := 34, t := [(0, (.ro false (.ints .i64 x0))), (1, (.int .i64 x1)), (5, (.own 0)), (6, (.int .i64 x6))], h := [.row (.ints .i64 r)] }) none) x0 x1 x6 s_.1 s_.2 (I.movesOf_run6 x0 x1 x6 n) (fun d => some d) none).symm
noncomputable def I.movesOf_step3 {α : Type} (x0 : List Int) (x1 : Int) (x6 : Int) (r0 : List Int) (next_ : Int × (List Int) → α) (out0_ : List Int → α) (fail_ : α) : α :=
  (bif decide (x6 < (↑x0.length : Int)) then (optC (I.movesOf_run6 x0 x1 x6 FUEL (0, r0)) (fun qy_3 => (next_ (IntKind.i64.wrap (x6 + 1), qy_3))) fail_) else (out0_ r0))
theorem I.movesOf_step3_nat {α γ : Type} (g : α → γ) (x0 : List Int) (x1 : Int) (x6 : Int) (r0 : List Int) (next_ : Int × (List Int) → α) (out0_ : List Int → α) (fail_ : α) : g (I.movesOf_step3 x0 x1 x6 r0 next_ out0_ fail_) = I.movesOf_step3 x0 x1 x6 r0 (fun s => g (next_ s)) (fun d => g (out0_ d)) (g fail_) := by
  unfold I.movesOf_step3; simp only [apply_cnd g, apply_optC g, apply_sumC g]
noncomputable def I.movesOf_run3 (x0 : List Int) (x1 : Int) : Nat → Int × (List Int) → Option (List Int)
  | 0, _ => none
  | n + 1, s_ => I.movesOf_step3 x0 x1 s_.1 s_.2 (I.movesOf_run3 x0 x1 n) (fun d => some d) none
theorem I.movesOf_L3_run (x0 : List Int) (x1 : Int) (n : Nat) (s_ : Int × (List Int)) (k : X → St → R) : I.movesOf_L3 n { n := 34, t := [(0, (.ro false (.ints .i64 x0))), (1, (.int .i64 x1)), (5, (.own 0)), (6, (.int .i64 s_.1))], h := [.row (.ints .i64 s_.2)] } k = optC (I.movesOf_run3 x0 x1 n s_) (fun (r : List Int) => k (.exit 0) { n := 34, t := [(5, (.own 0))], h := [.row (.ints .i64 r)] }) none := by
  induction n generalizing s_ with
  | zero => rfl
  | succ n ih =>
    have hu : I.movesOf_L3 (n + 1) { n := 34, t := [(0, (.ro false (.ints .i64 x0))), (1, (.int .i64 x1)), (5, (.own 0)), (6, (.int .i64 s_.1))], h := [.row (.ints .i64 s_.2)] } k = I.movesOf_step3 x0 x1 s_.1 s_.2 (fun s_ => I.movesOf_L3 n { n := 34, t := [(0, (.ro false (.ints .i64 x0))), (1, (.int .i64 x1)), (5, (.own 0)), (6, (.int .i64 s_.1))], h := [.row (.ints .i64 s_.2)] } k) (fun d => k (.exit 0) { n := 34, t := [(5, (.own 0))], h := [.row (.ints .i64 d)] }) none := by
      refine Eq.trans (show I.movesOf_L3 (n + 1) { n := 34, t := [(0, (.ro false (.ints .i64 x0))), (1, (.int .i64 x1)), (5, (.own 0)), (6, (.int .i64 s_.1))], h := [.row (.ints .i64 s_.2)] } k = (bif decide (s_.1 < (↑x0.length : Int)) then (I.movesOf_L6 FUEL { n := 34, t := [(0, (.ro false (.ints .i64 x0))), (1, (.int .i64 x1)), (5, (.own 0)), (6, (.int .i64 s_.1)), (7, (.int .i64 0))], h := [.row (.ints .i64 s_.2)] } (I.movesOf_k6 ((fun σ => I.movesOf_L3 n σ k), k))) else (k (.exit 0) { n := 34, t := [(5, (.own 0))], h := [.row (.ints .i64 s_.2)] })) by kernel_rfl) ?_
      refine cnd_congr ?_ ?_
      · refine (I.movesOf_L6_run x0 x1 s_.1 FUEL (0, s_.2) (I.movesOf_k6 ((fun σ => I.movesOf_L3 n σ k), k))).trans (optC_congr (fun qy_3 => ?_))
        kernel_rfl
      · kernel_rfl
    have hs : (fun s_ : Int × (List Int) => I.movesOf_L3 n { n := 34, t := [(0, (.ro false (.ints .i64 x0))), (1, (.int .i64 x1)), (5, (.own 0)), (6, (.int .i64 s_.1))], h := [.row (.ints .i64 s_.2)] } k) = fun s_ => optC (I.movesOf_run3 x0 x1 n s_) (fun (r : List Int) => k (.exit 0) { n := 34, t := [(5, (.own 0))], h := [.row (.ints .i64 r)] }) none := funext ih
    rw [hu, hs]
    exact (I.movesOf_step3_nat (fun o => optC o (fun (r : List Int) => k (.exit 0) { n := 34, t := [(5, (.own 0))], h := [.row (.ints .i64 r)] }) none) x0 x1 s_.1 s_.2 (I.movesOf_run3 x0 x1 n) (fun d => some d) none).symm
noncomputable def I.movesOf_tree {α : Type} (net : List Int) (set_ : Int) (leaf0_ : List Int → α) (fail_ : α) : α :=
  (optC (I.movesOf_run3 net set_ FUEL (0, [])) (fun qy_4 => (leaf0_ qy_4)) fail_)
theorem I.movesOf_tree_nat {α γ : Type} (g : α → γ) (net : List Int) (set_ : Int) (leaf0_ : List Int → α) (fail_ : α) : g (I.movesOf_tree net set_ leaf0_ fail_) = I.movesOf_tree net set_ (fun d => g (leaf0_ d)) (g fail_) := by
  unfold I.movesOf_tree; simp only [apply_cnd g, apply_optC g, apply_sumC g]
noncomputable def I.movesOf_t (net : List Int) (set_ : Int) : Option (List Int) := I.movesOf_tree net set_ (fun d => some d) none
theorem I.movesOf_den (net : List Int) (set_ : Int) (κ : V → List E → R) : I.movesOf_F [.ro false (.ints .i64 net), .int .i64 set_] [] κ = optC (I.movesOf_t net set_) (fun (r : List Int) => κ (.own 0) [.row (.ints .i64 r)]) none := by
  have hu : I.movesOf_F [.ro false (.ints .i64 net), .int .i64 set_] [] κ = I.movesOf_tree net set_ (fun d => κ (.own 0) [.row (.ints .i64 d)]) none := by
    refine Eq.trans (show I.movesOf_F [.ro false (.ints .i64 net), .int .i64 set_] [] κ = (I.movesOf_L3 FUEL { n := 34, t := [(0, (.ro false (.ints .i64 net))), (1, (.int .i64 set_)), (5, (.own 0)), (6, (.int .i64 0))], h := [.row (.ints .i64 ([]))] } (I.movesOf_k3 κ)) by kernel_rfl) ?_
    refine (I.movesOf_L3_run net set_ FUEL (0, []) (I.movesOf_k3 κ)).trans (optC_congr (fun qy_4 => ?_))
    kernel_rfl
  rw [hu]
  exact (I.movesOf_tree_nat (fun o => optC o (fun (r : List Int) => κ (.own 0) [.row (.ints .i64 r)]) none) net set_ (fun d => some d) none).symm
noncomputable def I.movesOf_s : D.Spec where
  keep := false
  pure := false
  add := true
  ds := [.int .i64, .invalid]
  sp := fun args h κ => match args, h with
    | [.ro false (.ints .i64 net), .int .i64 set_], [] => optC (I.movesOf_t net set_) (fun (r : List Int) => κ (.own 0) [.row (.ints .i64 r)]) none
    | _, _ => none
theorem I.movesOf_ok : SpecOk Try.prog 71 I.movesOf_s := by
  refine SpecOk.of TDok mixed (T := I.movesOf_T) ?_ (ann := I.movesOf_ann) Try.func71 rfl (by decide +kernel) ?_ ?_ ?_ ?_
  · intro p hp
    simp only [I.movesOf_T, List.mem_cons, List.not_mem_nil, or_false] at hp
    rcases hp with rfl | rfl
    · exact I.moveIn_ok
    · exact I.moved_ok
  · intro args h κ r hh
    simp only [I.movesOf_s] at hh
    split at hh
    · exact (I.movesOf_den _ _ κ).trans hh
    · cases hh
  · intro args h κ r hh
    simp only [I.movesOf_s] at hh ⊢
    split at hh
    · exact optC_law2 (F := fun (r : List Int) κ => κ (.own 0) [.row (.ints .i64 r)]) (fun b κ r hb => ⟨_, _, hb, fun _ => rfl⟩) hh
    · cases hh
  · intro hh; cases hh
  · intro _ args h κ r hh
    simp only [I.movesOf_s] at hh
    split at hh
    · rfl
    · cases hh

-- loop.example/guardsonnets/impl.movesIn
noncomputable def I.movesIn_T : List (Nat × D.Spec) := [(34, I.allOf_s), (71, I.movesOf_s)]
def I.movesIn_ann : Nat → List Nat × List Nat
  | 3 => ([0, 3, 4], [3])
  | _ => ([], [])
noncomputable def I.movesIn_F (args : List V) (h : List E) (κ : V → List E → R) : R := funC TD (tableK I.movesIn_T) I.movesIn_ann (drawOk TD (tableP I.movesIn_T)) FUEL Try.f55 args h κ
noncomputable def I.movesIn_L3 (n : Nat) (σ : St) (k : X → St → R) : R := iterC 0 (fun σ k => denC TD (tableK I.movesIn_T) I.movesIn_ann (drawOk TD (tableP I.movesIn_T)) 0 FUEL ((findLoop 3 (Try.f55.body.getD .skip)).getD .skip) σ k) [0, 3, 4] [3] n σ k
noncomputable def I.movesIn_k3 (κ : V → List E → R) : X → St → R := (afterC TD (tableK I.movesIn_T) I.movesIn_ann (drawOk TD (tableP I.movesIn_T)) 0 FUEL 3 (Try.f55.body.getD .skip) (finC TD 0 Try.f55 κ)).getD (fun _ _ => none)
noncomputable def I.movesIn_step3 {α : Type} (x0 : List Int) (x4 : Int) (r0 : List (List Int)) (next_ : Int × (List (List Int)) → α) (out0_ : List (List Int) → α) (fail_ : α) : α :=
  (optC (I.allOf_t x0) (fun c_2 => (bif decide (x4 ≤ c_2) then (optC (I.movesOf_t x0 x4) (fun c_3 => (bif decide (0 ≤ x4) && decide (x4 < (↑r0.length : Int)) then (bif decide (x4.toNat < r0.length) then (next_ (IntKind.i64.wrap (x4 + 1), r0.set x4.toNat c_3)) else fail_) else fail_)) fail_) else (out0_ r0))) fail_)
theorem I.movesIn_step3_nat {α γ : Type} (g : α → γ) (x0 : List Int) (x4 : Int) (r0 : List (List Int)) (next_ : Int × (List (List Int)) → α) (out0_ : List (List Int) → α) (fail_ : α) : g (I.movesIn_step3 x0 x4 r0 next_ out0_ fail_) = I.movesIn_step3 x0 x4 r0 (fun s => g (next_ s)) (fun d => g (out0_ d)) (g fail_) := by
  unfold I.movesIn_step3; simp only [apply_cnd g, apply_optC g, apply_sumC g]
noncomputable def I.movesIn_run3 (x0 : List Int) : Nat → Int × (List (List Int)) → Option (List (List Int))
  | 0, _ => none
  | n + 1, s_ => I.movesIn_step3 x0 s_.1 s_.2 (I.movesIn_run3 x0 n) (fun d => some d) none
theorem I.movesIn_L3_run (x0 : List Int) (n : Nat) (s_ : Int × (List (List Int))) (k : X → St → R) : I.movesIn_L3 n { n := 22, t := [(0, (.ro false (.ints .i64 x0))), (3, (.own 0)), (4, (.int .i64 s_.1))], h := [.row (.rows s_.2)] } k = optC (I.movesIn_run3 x0 n s_) (fun (r : List (List Int)) => k (.exit 0) { n := 22, t := [(3, (.own 0))], h := [.row (.rows r)] }) none := by
  induction n generalizing s_ with
  | zero => rfl
  | succ n ih =>
    have hu : I.movesIn_L3 (n + 1) { n := 22, t := [(0, (.ro false (.ints .i64 x0))), (3, (.own 0)), (4, (.int .i64 s_.1))], h := [.row (.rows s_.2)] } k = I.movesIn_step3 x0 s_.1 s_.2 (fun s_ => I.movesIn_L3 n { n := 22, t := [(0, (.ro false (.ints .i64 x0))), (3, (.own 0)), (4, (.int .i64 s_.1))], h := [.row (.rows s_.2)] } k) (fun d => k (.exit 0) { n := 22, t := [(3, (.own 0))], h := [.row (.rows d)] }) none := by
      kernel_rfl
    have hs : (fun s_ : Int × (List (List Int)) => I.movesIn_L3 n { n := 22, t := [(0, (.ro false (.ints .i64 x0))), (3, (.own 0)), (4, (.int .i64 s_.1))], h := [.row (.rows s_.2)] } k) = fun s_ => optC (I.movesIn_run3 x0 n s_) (fun (r : List (List Int)) => k (.exit 0) { n := 22, t := [(3, (.own 0))], h := [.row (.rows r)] }) none := funext ih
    rw [hu, hs]
    exact (I.movesIn_step3_nat (fun o => optC o (fun (r : List (List Int)) => k (.exit 0) { n := 22, t := [(3, (.own 0))], h := [.row (.rows r)] }) none) x0 s_.1 s_.2 (I.movesIn_run3 x0 n) (fun d => some d) none).symm
noncomputable def I.movesIn_tree {α : Type} (net : List Int) (leaf0_ : List (List Int) → α) (fail_ : α) : α :=
  (optC (I.allOf_t net) (fun c_1 => (bif decide (0 ≤ IntKind.i64.wrap (c_1 + 1)) && small (IntKind.i64.wrap (c_1 + 1)).toNat && true then (optC (I.movesIn_run3 net FUEL (0, List.replicate (IntKind.i64.wrap (c_1 + 1)).toNat [])) (fun qy_4 => (leaf0_ qy_4)) fail_) else fail_)) fail_)
theorem I.movesIn_tree_nat {α γ : Type} (g : α → γ) (net : List Int) (leaf0_ : List (List Int) → α) (fail_ : α) : g (I.movesIn_tree net leaf0_ fail_) = I.movesIn_tree net (fun d => g (leaf0_ d)) (g fail_) := by
  unfold I.movesIn_tree; simp only [apply_cnd g, apply_optC g, apply_sumC g]
noncomputable def I.movesIn_t (net : List Int) : Option (List (List Int)) := I.movesIn_tree net (fun d => some d) none
theorem I.movesIn_den (net : List Int) (κ : V → List E → R) : I.movesIn_F [.ro false (.ints .i64 net)] [] κ = optC (I.movesIn_t net) (fun (r : List (List Int)) => κ (.own 0) [.row (.rows r)]) none := by
  have hu : I.movesIn_F [.ro false (.ints .i64 net)] [] κ = I.movesIn_tree net (fun d => κ (.own 0) [.row (.rows d)]) none := by
    refine Eq.trans (show I.movesIn_F [.ro false (.ints .i64 net)] [] κ = (optC (I.allOf_t net) (fun c_1 => (bif decide (0 ≤ IntKind.i64.wrap (c_1 + 1)) && small (IntKind.i64.wrap (c_1 + 1)).toNat && true then (I.movesIn_L3 FUEL { n := 22, t := [(0, (.ro false (.ints .i64 net))), (3, (.own 0)), (4, (.int .i64 0))], h := [.row (.rows (List.replicate (IntKind.i64.wrap (c_1 + 1)).toNat []))] } (I.movesIn_k3 κ)) else none)) none) by kernel_rfl) ?_
    refine optC_congr (fun c_1 => ?_)
    refine cnd_congr ?_ ?_
    · refine (I.movesIn_L3_run net FUEL (0, List.replicate (IntKind.i64.wrap (c_1 + 1)).toNat []) (I.movesIn_k3 κ)).trans (optC_congr (fun qy_4 => ?_))
      kernel_rfl
    · kernel_rfl
  rw [hu]
  exact (I.movesIn_tree_nat (fun o => optC o (fun (r : List (List Int)) => κ (.own 0) [.row (.rows r)]) none) net (fun d => some d) none).symm
noncomputable def I.movesIn_s : D.Spec where
  keep := false
  pure := false
  add := true
  ds := [.int .i64]
  sp := fun args h κ => match args, h with
    | [.ro false (.ints .i64 net)], [] => optC (I.movesIn_t net) (fun (r : List (List Int)) => κ (.own 0) [.row (.rows r)]) none
    | _, _ => none
theorem I.movesIn_ok : SpecOk Try.prog 55 I.movesIn_s := by
  refine SpecOk.of TDok mixed (T := I.movesIn_T) ?_ (ann := I.movesIn_ann) Try.func55 rfl (by decide +kernel) ?_ ?_ ?_ ?_
  · intro p hp
    simp only [I.movesIn_T, List.mem_cons, List.not_mem_nil, or_false] at hp
    rcases hp with rfl | rfl
    · exact I.allOf_ok
    · exact I.movesOf_ok
  · intro args h κ r hh
    simp only [I.movesIn_s] at hh
    split at hh
    · exact (I.movesIn_den _ κ).trans hh
    · cases hh
  · intro args h κ r hh
    simp only [I.movesIn_s] at hh ⊢
    split at hh
    · exact optC_law2 (F := fun (r : List (List Int)) κ => κ (.own 0) [.row (.rows r)]) (fun b κ r hb => ⟨_, _, hb, fun _ => rfl⟩) hh
    · cases hh
  · intro hh; cases hh
  · intro _ args h κ r hh
    simp only [I.movesIn_s] at hh
    split at hh
    · rfl
    · cases hh

-- loop.example/guardsonnets/impl.answeredBy
noncomputable def I.answeredBy_T : List (Nat × D.Spec) := []
def I.answeredBy_ann : Nat → List Nat × List Nat
  | 3 => ([0, 2, 7, 8], [7])
  | _ => ([], [])
noncomputable def I.answeredBy_F (args : List V) (h : List E) (κ : V → List E → R) : R := funC TD (tableK I.answeredBy_T) I.answeredBy_ann (drawOk TD (tableP I.answeredBy_T)) FUEL Try.f70 args h κ
noncomputable def I.answeredBy_L3 (n : Nat) (σ : St) (k : X → St → R) : R := iterC 0 (fun σ k => denC TD (tableK I.answeredBy_T) I.answeredBy_ann (drawOk TD (tableP I.answeredBy_T)) 0 FUEL ((findLoop 3 (Try.f70.body.getD .skip)).getD .skip) σ k) [0, 2, 7, 8] [7] n σ k
noncomputable def I.answeredBy_k3 (κ : V → List E → R) : X → St → R := (afterC TD (tableK I.answeredBy_T) I.answeredBy_ann (drawOk TD (tableP I.answeredBy_T)) 0 FUEL 3 (Try.f70.body.getD .skip) (finC TD 0 Try.f70 κ)).getD (fun _ _ => none)
noncomputable def I.answeredBy_step3 {α : Type} (x0 : List Bool) (x2 : List Int) (x7 : Int) (x8 : Int) (next_ : Int × Int → α) (out0_ : Int → α) (fail_ : α) : α :=
  (bif decide (x8 < (↑x2.length : Int)) then (bif decide (0 ≤ x8) && decide (x8 < (↑x2.length : Int)) then (bif decide (0 ≤ eli x2 x8.toNat) && decide (eli x2 x8.toNat < (↑x0.length : Int)) then (bif elb x0 (eli x2 x8.toNat).toNat then (bif decide (0 ≤ x8) && decide (x8 < (↑x2.length : Int)) then (next_ (bits BinOp.or IntKind.i64 x7 (eli x2 x8.toNat), IntKind.i64.wrap (x8 + 1))) else fail_) else (next_ (x7, IntKind.i64.wrap (x8 + 1)))) else fail_) else fail_) else (out0_ x7))
theorem I.answeredBy_step3_nat {α γ : Type} (g : α → γ) (x0 : List Bool) (x2 : List Int) (x7 : Int) (x8 : Int) (next_ : Int × Int → α) (out0_ : Int → α) (fail_ : α) : g (I.answeredBy_step3 x0 x2 x7 x8 next_ out0_ fail_) = I.answeredBy_step3 x0 x2 x7 x8 (fun s => g (next_ s)) (fun d => g (out0_ d)) (g fail_) := by
  unfold I.answeredBy_step3; simp only [apply_cnd g, apply_optC g, apply_sumC g]
noncomputable def I.answeredBy_run3 (x0 : List Bool) (x2 : List Int) : Nat → Int × Int → Option (Int)
  | 0, _ => none
  | n + 1, s_ => I.answeredBy_step3 x0 x2 s_.1 s_.2 (I.answeredBy_run3 x0 x2 n) (fun d => some d) none
theorem I.answeredBy_L3_run (x0 : List Bool) (x2 : List Int) (n : Nat) (s_ : Int × Int) (k : X → St → R) : I.answeredBy_L3 n { n := 30, t := [(0, (.ro false (.bools x0))), (2, (.ro false (.ints .i64 x2))), (7, (.int .i64 s_.1)), (8, (.int .i64 s_.2))], h := [] } k = optC (I.answeredBy_run3 x0 x2 n s_) (fun (r : Int) => k (.exit 0) { n := 30, t := [(7, (.int .i64 r))], h := [] }) none := by
  induction n generalizing s_ with
  | zero => rfl
  | succ n ih =>
    have hu : I.answeredBy_L3 (n + 1) { n := 30, t := [(0, (.ro false (.bools x0))), (2, (.ro false (.ints .i64 x2))), (7, (.int .i64 s_.1)), (8, (.int .i64 s_.2))], h := [] } k = I.answeredBy_step3 x0 x2 s_.1 s_.2 (fun s_ => I.answeredBy_L3 n { n := 30, t := [(0, (.ro false (.bools x0))), (2, (.ro false (.ints .i64 x2))), (7, (.int .i64 s_.1)), (8, (.int .i64 s_.2))], h := [] } k) (fun d => k (.exit 0) { n := 30, t := [(7, (.int .i64 d))], h := [] }) none := by
      kernel_rfl
    have hs : (fun s_ : Int × Int => I.answeredBy_L3 n { n := 30, t := [(0, (.ro false (.bools x0))), (2, (.ro false (.ints .i64 x2))), (7, (.int .i64 s_.1)), (8, (.int .i64 s_.2))], h := [] } k) = fun s_ => optC (I.answeredBy_run3 x0 x2 n s_) (fun (r : Int) => k (.exit 0) { n := 30, t := [(7, (.int .i64 r))], h := [] }) none := funext ih
    rw [hu, hs]
    exact (I.answeredBy_step3_nat (fun o => optC o (fun (r : Int) => k (.exit 0) { n := 30, t := [(7, (.int .i64 r))], h := [] }) none) x0 x2 s_.1 s_.2 (I.answeredBy_run3 x0 x2 n) (fun d => some d) none).symm
noncomputable def I.answeredBy_tree {α : Type} (lasting : List Bool) (set_ : Int) (leads : List Int) (leaf0_ : Int → α) (fail_ : α) : α :=
  (optC (I.answeredBy_run3 lasting leads FUEL (set_, 0)) (fun qy_1 => (leaf0_ qy_1)) fail_)
theorem I.answeredBy_tree_nat {α γ : Type} (g : α → γ) (lasting : List Bool) (set_ : Int) (leads : List Int) (leaf0_ : Int → α) (fail_ : α) : g (I.answeredBy_tree lasting set_ leads leaf0_ fail_) = I.answeredBy_tree lasting set_ leads (fun d => g (leaf0_ d)) (g fail_) := by
  unfold I.answeredBy_tree; simp only [apply_cnd g, apply_optC g, apply_sumC g]
noncomputable def I.answeredBy_t (lasting : List Bool) (set_ : Int) (leads : List Int) : Option (Int) := I.answeredBy_tree lasting set_ leads (fun d => some d) none
theorem I.answeredBy_den (lasting : List Bool) (set_ : Int) (leads : List Int) (κ : V → List E → R) : I.answeredBy_F [.ro false (.bools lasting), .int .i64 set_, .ro false (.ints .i64 leads)] [] κ = optC (I.answeredBy_t lasting set_ leads) (fun (r : Int) => κ (.int .i64 r) []) none := by
  have hu : I.answeredBy_F [.ro false (.bools lasting), .int .i64 set_, .ro false (.ints .i64 leads)] [] κ = I.answeredBy_tree lasting set_ leads (fun d => κ (.int .i64 d) []) none := by
    refine Eq.trans (show I.answeredBy_F [.ro false (.bools lasting), .int .i64 set_, .ro false (.ints .i64 leads)] [] κ = (I.answeredBy_L3 FUEL { n := 30, t := [(0, (.ro false (.bools lasting))), (2, (.ro false (.ints .i64 leads))), (7, (.int .i64 set_)), (8, (.int .i64 0))], h := [] } (I.answeredBy_k3 κ)) by kernel_rfl) ?_
    refine (I.answeredBy_L3_run lasting leads FUEL (set_, 0) (I.answeredBy_k3 κ)).trans (optC_congr (fun qy_1 => ?_))
    kernel_rfl
  rw [hu]
  exact (I.answeredBy_tree_nat (fun o => optC o (fun (r : Int) => κ (.int .i64 r) []) none) lasting set_ leads (fun d => some d) none).symm
noncomputable def I.answeredBy_s : D.Spec where
  keep := false
  pure := true
  add := true
  ds := [.bool, .invalid, .int .i64]
  sp := fun args h κ => match args, h with
    | [.ro false (.bools lasting), .int .i64 set_, .ro false (.ints .i64 leads)], [] => optC (I.answeredBy_t lasting set_ leads) (fun (r : Int) => κ (.int .i64 r) []) none
    | _, _ => none
theorem I.answeredBy_ok : SpecOk Try.prog 70 I.answeredBy_s := by
  refine SpecOk.of TDok mixed (T := I.answeredBy_T) ?_ (ann := I.answeredBy_ann) Try.func70 rfl (by decide +kernel) ?_ ?_ ?_ ?_
  · intro p hp; cases hp
  · intro args h κ r hh
    simp only [I.answeredBy_s] at hh
    split at hh
    · exact (I.answeredBy_den _ _ _ κ).trans hh
    · cases hh
  · intro args h κ r hh
    simp only [I.answeredBy_s] at hh ⊢
    split at hh
    · exact optC_law2 (F := fun (r : Int) κ => κ (.int .i64 r) []) (fun b κ r hb => ⟨_, _, hb, fun _ => rfl⟩) hh
    · cases hh
  · intro _ args h κ r hh
    simp only [I.answeredBy_s] at hh
    split at hh
    · exact ⟨rfl, fun _ => rfl⟩
    · cases hh
  · intro _ args h κ r hh
    simp only [I.answeredBy_s] at hh
    split at hh
    · rfl
    · cases hh

-- loop.example/guardsonnets/impl.lastingIn
noncomputable def I.lastingIn_T : List (Nat × D.Spec) := [(34, I.allOf_s), (70, I.answeredBy_s)]
def I.lastingIn_ann : Nat → List Nat × List Nat
  | 10 => ([0, 1, 5, 7, 8], [0, 1, 5, 7])
  | 7 => ([0, 1, 5, 7], [5])
  | 3 => ([0, 1, 5, 6], [0, 1, 5])
  | _ => ([], [])
noncomputable def I.lastingIn_F (args : List V) (h : List E) (κ : V → List E → R) : R := funC TD (tableK I.lastingIn_T) I.lastingIn_ann (drawOk TD (tableP I.lastingIn_T)) FUEL Try.f54 args h κ
noncomputable def I.lastingIn_L10 (n : Nat) (σ : St) (k : X → St → R) : R := iterC 0 (fun σ k => denC TD (tableK I.lastingIn_T) I.lastingIn_ann (drawOk TD (tableP I.lastingIn_T)) 0 FUEL ((findLoop 10 (Try.f54.body.getD .skip)).getD .skip) σ k) [0, 1, 5, 7, 8] [0, 1, 5, 7] n σ k
noncomputable def I.lastingIn_L7 (n : Nat) (σ : St) (k : X → St → R) : R := iterC 0 (fun σ k => denC TD (tableK I.lastingIn_T) I.lastingIn_ann (drawOk TD (tableP I.lastingIn_T)) 0 FUEL ((findLoop 7 (Try.f54.body.getD .skip)).getD .skip) σ k) [0, 1, 5, 7] [5] n σ k
noncomputable def I.lastingIn_L3 (n : Nat) (σ : St) (k : X → St → R) : R := iterC 0 (fun σ k => denC TD (tableK I.lastingIn_T) I.lastingIn_ann (drawOk TD (tableP I.lastingIn_T)) 0 FUEL ((findLoop 3 (Try.f54.body.getD .skip)).getD .skip) σ k) [0, 1, 5, 6] [0, 1, 5] n σ k
noncomputable def I.lastingIn_k3 (κ : V → List E → R) : X → St → R := (afterC TD (tableK I.lastingIn_T) I.lastingIn_ann (drawOk TD (tableP I.lastingIn_T)) 0 FUEL 3 (Try.f54.body.getD .skip) (finC TD 0 Try.f54 κ)).getD (fun _ _ => none)
noncomputable def I.lastingIn_k10 (c : (St → R) × (X → St → R)) : X → St → R := (afterC TD (tableK I.lastingIn_T) I.lastingIn_ann (drawOk TD (tableP I.lastingIn_T)) 0 FUEL 10 ((findLoop 7 (Try.f54.body.getD .skip)).getD .skip) (roundC 0 [0, 1, 5, 7] [5] c.1 c.2)).getD (fun _ _ => none)
noncomputable def I.lastingIn_k7 (κ : V → List E → R) : X → St → R := (afterC TD (tableK I.lastingIn_T) I.lastingIn_ann (drawOk TD (tableP I.lastingIn_T)) 0 FUEL 7 (Try.f54.body.getD .skip) (finC TD 0 Try.f54 κ)).getD (fun _ _ => none)
noncomputable def I.lastingIn_step3 {α : Type} (x0 : List Int) (x1 : List (List Int)) (x6 : Int) (r0 : List Bool) (next_ : Int × (List Bool) → α) (out0_ : List Bool → α) (fail_ : α) : α :=
  (optC (I.allOf_t x0) (fun c_2 => (bif decide (x6 ≤ c_2) then (bif decide (0 ≤ x6) && decide (x6 < (↑r0.length : Int)) then (bif decide (x6.toNat < r0.length) then (next_ (IntKind.i64.wrap (x6 + 1), r0.set x6.toNat true)) else fail_) else fail_) else (out0_ r0))) fail_)
theorem I.lastingIn_step3_nat {α γ : Type} (g : α → γ) (x0 : List Int) (x1 : List (List Int)) (x6 : Int) (r0 : List Bool) (next_ : Int × (List Bool) → α) (out0_ : List Bool → α) (fail_ : α) : g (I.lastingIn_step3 x0 x1 x6 r0 next_ out0_ fail_) = I.lastingIn_step3 x0 x1 x6 r0 (fun s => g (next_ s)) (fun d => g (out0_ d)) (g fail_) := by
  unfold I.lastingIn_step3; simp only [apply_cnd g, apply_optC g, apply_sumC g]
noncomputable def I.lastingIn_run3 (x0 : List Int) (x1 : List (List Int)) : Nat → Int × (List Bool) → Option (List Bool)
  | 0, _ => none
  | n + 1, s_ => I.lastingIn_step3 x0 x1 s_.1 s_.2 (I.lastingIn_run3 x0 x1 n) (fun d => some d) none
theorem I.lastingIn_L3_run (x0 : List Int) (x1 : List (List Int)) (n : Nat) (s_ : Int × (List Bool)) (k : X → St → R) : I.lastingIn_L3 n { n := 49, t := [(0, (.ro false (.ints .i64 x0))), (1, (.ro false (.rows x1))), (5, (.own 0)), (6, (.int .i64 s_.1))], h := [.row (.bools s_.2)] } k = optC (I.lastingIn_run3 x0 x1 n s_) (fun (r : List Bool) => k (.exit 0) { n := 49, t := [(0, (.ro false (.ints .i64 x0))), (1, (.ro false (.rows x1))), (5, (.own 0))], h := [.row (.bools r)] }) none := by
  induction n generalizing s_ with
  | zero => rfl
  | succ n ih =>
    have hu : I.lastingIn_L3 (n + 1) { n := 49, t := [(0, (.ro false (.ints .i64 x0))), (1, (.ro false (.rows x1))), (5, (.own 0)), (6, (.int .i64 s_.1))], h := [.row (.bools s_.2)] } k = I.lastingIn_step3 x0 x1 s_.1 s_.2 (fun s_ => I.lastingIn_L3 n { n := 49, t := [(0, (.ro false (.ints .i64 x0))), (1, (.ro false (.rows x1))), (5, (.own 0)), (6, (.int .i64 s_.1))], h := [.row (.bools s_.2)] } k) (fun d => k (.exit 0) { n := 49, t := [(0, (.ro false (.ints .i64 x0))), (1, (.ro false (.rows x1))), (5, (.own 0))], h := [.row (.bools d)] }) none := by
      kernel_rfl
    have hs : (fun s_ : Int × (List Bool) => I.lastingIn_L3 n { n := 49, t := [(0, (.ro false (.ints .i64 x0))), (1, (.ro false (.rows x1))), (5, (.own 0)), (6, (.int .i64 s_.1))], h := [.row (.bools s_.2)] } k) = fun s_ => optC (I.lastingIn_run3 x0 x1 n s_) (fun (r : List Bool) => k (.exit 0) { n := 49, t := [(0, (.ro false (.ints .i64 x0))), (1, (.ro false (.rows x1))), (5, (.own 0))], h := [.row (.bools r)] }) none := funext ih
    rw [hu, hs]
    exact (I.lastingIn_step3_nat (fun o => optC o (fun (r : List Bool) => k (.exit 0) { n := 49, t := [(0, (.ro false (.ints .i64 x0))), (1, (.ro false (.rows x1))), (5, (.own 0))], h := [.row (.bools r)] }) none) x0 x1 s_.1 s_.2 (I.lastingIn_run3 x0 x1 n) (fun d => some d) none).symm
noncomputable def I.lastingIn_step10 {α : Type} (x0 : List Int) (x1 : List (List Int)) (x7 : Bool) (x8 : Int) (r0 : List Bool) (next_ : Bool × Int × (List Bool) → α) (out0_ : Bool × (List Bool) → α) (fail_ : α) : α :=
  (optC (I.allOf_t x0) (fun c_4 => (bif decide (x8 ≤ c_4) then (bif decide (0 ≤ x8) && decide (x8 < (↑r0.length : Int)) then (bif decide (x8.toNat < r0.length) then (bif elb r0 x8.toNat then (bif decide (0 ≤ x8) && decide (x8 < (↑x1.length : Int)) then (optC (I.answeredBy_t r0 x8 (elr x1 x8.toNat)) (fun c_5 => (optC (I.allOf_t x0) (fun c_6 => (bif !c_5 == c_6 then (bif decide (0 ≤ x8) && decide (x8 < (↑r0.length : Int)) then (bif decide (x8.toNat < r0.length) then (next_ (true, IntKind.i64.wrap (x8 + 1), r0.set x8.toNat false)) else fail_) else fail_) else (next_ (x7, IntKind.i64.wrap (x8 + 1), r0)))) fail_)) fail_) else fail_) else (next_ (x7, IntKind.i64.wrap (x8 + 1), r0))) else fail_) else fail_) else (out0_ (x7, r0)))) fail_)
theorem I.lastingIn_step10_nat {α γ : Type} (g : α → γ) (x0 : List Int) (x1 : List (List Int)) (x7 : Bool) (x8 : Int) (r0 : List Bool) (next_ : Bool × Int × (List Bool) → α) (out0_ : Bool × (List Bool) → α) (fail_ : α) : g (I.lastingIn_step10 x0 x1 x7 x8 r0 next_ out0_ fail_) = I.lastingIn_step10 x0 x1 x7 x8 r0 (fun s => g (next_ s)) (fun d => g (out0_ d)) (g fail_) := by
  unfold I.lastingIn_step10; simp only [apply_cnd g, apply_optC g, apply_sumC g]
noncomputable def I.lastingIn_run10 (x0 : List Int) (x1 : List (List Int)) : Nat → Bool × Int × (List Bool) → Option (Bool × (List Bool))
  | 0, _ => none
  | n + 1, s_ => I.lastingIn_step10 x0 x1 s_.1 s_.2.1 s_.2.2 (I.lastingIn_run10 x0 x1 n) (fun d => some d) none
theorem I.lastingIn_L10_run (x0 : List Int) (x1 : List (List Int)) (n : Nat) (s_ : Bool × Int × (List Bool)) (k : X → St → R) : I.lastingIn_L10 n { n := 49, t := [(0, (.ro false (.ints .i64 x0))), (1, (.ro false (.rows x1))), (5, (.own 0)), (7, (.bool s_.1)), (8, (.int .i64 s_.2.1))], h := [.row (.bools s_.2.2)] } k = optC (I.lastingIn_run10 x0 x1 n s_) (fun (r : Bool × (List Bool)) => k (.exit 4) { n := 49, t := [(0, (.ro false (.ints .i64 x0))), (1, (.ro false (.rows x1))), (5, (.own 0)), (7, (.bool r.1))], h := [.row (.bools r.2)] }) none := by
  induction n generalizing s_ with
  | zero => rfl
  | succ n ih =>
    have hu : I.lastingIn_L10 (n + 1) { n := 49, t := [(0, (.ro false (.ints .i64 x0))), (1, (.ro false (.rows x1))), (5, (.own 0)), (7, (.bool s_.1)), (8, (.int .i64 s_.2.1))], h := [.row (.bools s_.2.2)] } k = I.lastingIn_step10 x0 x1 s_.1 s_.2.1 s_.2.2 (fun s_ => I.lastingIn_L10 n { n := 49, t := [(0, (.ro false (.ints .i64 x0))), (1, (.ro false (.rows x1))), (5, (.own 0)), (7, (.bool s_.1)), (8, (.int .i64 s_.2.1))], h := [.row (.bools s_.2.2)] } k) (fun d => k (.exit 4) { n := 49, t := [(0, (.ro false (.ints .i64 x0))), (1, (.ro false (.rows x1))), (5, (.own 0)), (7, (.bool d.1))], h := [.row (.bools d.2)] }) none := by
      kernel_rfl
    have hs : (fun s_ : Bool × Int × (List Bool) => I.lastingIn_L10 n { n := 49, t := [(0, (.ro false (.ints .i64 x0))), (1, (.ro false (.rows x1))), (5, (.own 0)), (7, (.bool s_.1)), (8, (.int .i64 s_.2.1))], h := [.row (.bools s_.2.2)] } k) = fun s_ => optC (I.lastingIn_run10 x0 x1 n s_) (fun (r : Bool × (List Bool)) => k (.exit 4) { n := 49, t := [(0, (.ro false (.ints .i64 x0))), (1, (.ro false (.rows x1))), (5, (.own 0)), (7, (.bool r.1))], h := [.row (.bools r.2)] }) none := funext ih
    rw [hu, hs]
    exact (I.lastingIn_step10_nat (fun o => optC o (fun (r : Bool × (List Bool)) => k (.exit 4) { n := 49, t := [(0, (.ro false (.ints .i64 x0))), (1, (.ro false (.rows x1))), (5, (.own 0)), (7, (.bool r.1))], h := [.row (.bools r.2)] }) none) x0 x1 s_.1 s_.2.1 s_.2.2 (I.lastingIn_run10 x0 x1 n) (fun d => some d) none).symm
noncomputable def I.lastingIn_step7 {α : Type} (x0 : List Int) (x1 : List (List Int)) (x7 : Bool) (r0 : List Bool) (next_ : Bool × (List Bool) → α) (out0_ : List Bool → α) (fail_ : α) : α :=
  (bif x7 then (optC (I.lastingIn_run10 x0 x1 FUEL (false, 0, r0)) (fun qy_7 => (next_ (qy_7.1, qy_7.2))) fail_) else (out0_ r0))
theorem I.lastingIn_step7_nat {α γ : Type} (g : α → γ) (x0 : List Int) (x1 : List (List Int)) (x7 : Bool) (r0 : List Bool) (next_ : Bool × (List Bool) → α) (out0_ : List Bool → α) (fail_ : α) : g (I.lastingIn_step7 x0 x1 x7 r0 next_ out0_ fail_) = I.lastingIn_step7 x0 x1 x7 r0 (fun s => g (next_ s)) (fun d => g (out0_ d)) (g fail_) := by
  unfold I.lastingIn_step7; simp only [apply_cnd g, apply_optC g, apply_sumC g]
noncomputable def I.lastingIn_run7 (x0 : List Int) (x1 : List (List Int)) : Nat → Bool × (List Bool) → Option (List Bool)
  | 0, _ => none
  | n + 1, s_ => I.lastingIn_step7 x0 x1 s_.1 s_.2 (I.lastingIn_run7 x0 x1 n) (fun d => some d) none
theorem I.lastingIn_L7_run (x0 : List Int) (x1 : List (List Int)) (n : Nat) (s_ : Bool × (List Bool)) (k : X → St → R) : I.lastingIn_L7 n { n := 49, t := [(0, (.ro false (.ints .i64 x0))), (1, (.ro false (.rows x1))), (5, (.own 0)), (7, (.bool s_.1))], h := [.row (.bools s_.2)] } k = optC (I.lastingIn_run7 x0 x1 n s_) (fun (r : List Bool) => k (.exit 2) { n := 49, t := [(5, (.own 0))], h := [.row (.bools r)] }) none := by
  induction n generalizing s_ with
  | zero => rfl
  | succ n ih =>
    have hu : I.lastingIn_L7 (n + 1) { n := 49, t := [(0, (.ro false (.ints .i64 x0))), (1, (.ro false (.rows x1))), (5, (.own 0)), (7, (.bool s_.1))], h := [.row (.bools s_.2)] } k = I.lastingIn_step7 x0 x1 s_.1 s_.2 (fun s_ => I.lastingIn_L7 n { n := 49, t := [(0, (.ro false (.ints .i64 x0))), (1, (.ro false (.rows x1))), (5, (.own 0)), (7, (.bool s_.1))], h := [.row (.bools s_.2)] } k) (fun d => k (.exit 2) { n := 49, t := [(5, (.own 0))], h := [.row (.bools d)] }) none := by
      refine Eq.trans (show I.lastingIn_L7 (n + 1) { n := 49, t := [(0, (.ro false (.ints .i64 x0))), (1, (.ro false (.rows x1))), (5, (.own 0)), (7, (.bool s_.1))], h := [.row (.bools s_.2)] } k = (bif s_.1 then (I.lastingIn_L10 FUEL { n := 49, t := [(0, (.ro false (.ints .i64 x0))), (1, (.ro false (.rows x1))), (5, (.own 0)), (7, (.bool false)), (8, (.int .i64 0))], h := [.row (.bools s_.2)] } (I.lastingIn_k10 ((fun σ => I.lastingIn_L7 n σ k), k))) else (k (.exit 2) { n := 49, t := [(5, (.own 0))], h := [.row (.bools s_.2)] })) by kernel_rfl) ?_
      refine cnd_congr ?_ ?_
      · refine (I.lastingIn_L10_run x0 x1 FUEL (false, 0, s_.2) (I.lastingIn_k10 ((fun σ => I.lastingIn_L7 n σ k), k))).trans (optC_congr (fun qy_7 => ?_))
        kernel_rfl
      · kernel_rfl
    have hs : (fun s_ : Bool × (List Bool) => I.lastingIn_L7 n { n := 49, t := [(0, (.ro false (.ints .i64 x0))), (1, (.ro false (.rows x1))), (5, (.own 0)), (7, (.bool s_.1))], h := [.row (.bools s_.2)] } k) = fun s_ => optC (I.lastingIn_run7 x0 x1 n s_) (fun (r : List Bool) => k (.exit 2) { n := 49, t := [(5, (.own 0))], h := [.row (.bools r)] }) none := funext ih
    rw [hu, hs]
    exact (I.lastingIn_step7_nat (fun o => optC o (fun (r : List Bool) => k (.exit 2) { n := 49, t := [(5, (.own 0))], h := [.row (.bools r)] }) none) x0 x1 s_.1 s_.2 (I.lastingIn_run7 x0 x1 n) (fun d => some d) none).symm
noncomputable def I.lastingIn_tree {α : Type} (net : List Int) (leads : List (List Int)) (leaf0_ : List Bool → α) (fail_ : α) : α :=
  (optC (I.allOf_t net) (fun c_1 => (bif decide (0 ≤ IntKind.i64.wrap (c_1 + 1)) && small (IntKind.i64.wrap (c_1 + 1)).toNat && true then (optC (I.lastingIn_run3 net leads FUEL (0, List.replicate (IntKind.i64.wrap (c_1 + 1)).toNat false)) (fun qy_3 => (optC (I.lastingIn_run7 net leads FUEL (true, qy_3)) (fun qy_8 => (leaf0_ qy_8)) fail_)) fail_) else fail_)) fail_)
theorem I.lastingIn_tree_nat {α γ : Type} (g : α → γ) (net : List Int) (leads : List (List Int)) (leaf0_ : List Bool → α) (fail_ : α) : g (I.lastingIn_tree net leads leaf0_ fail_) = I.lastingIn_tree net leads (fun d => g (leaf0_ d)) (g fail_) := by
  unfold I.lastingIn_tree; simp only [apply_cnd g, apply_optC g, apply_sumC g]
noncomputable def I.lastingIn_t (net : List Int) (leads : List (List Int)) : Option (List Bool) := I.lastingIn_tree net leads (fun d => some d) none
theorem I.lastingIn_den (net : List Int) (leads : List (List Int)) (κ : V → List E → R) : I.lastingIn_F [.ro false (.ints .i64 net), .ro false (.rows leads)] [] κ = optC (I.lastingIn_t net leads) (fun (r : List Bool) => κ (.own 0) [.row (.bools r)]) none := by
  have hu : I.lastingIn_F [.ro false (.ints .i64 net), .ro false (.rows leads)] [] κ = I.lastingIn_tree net leads (fun d => κ (.own 0) [.row (.bools d)]) none := by
    refine Eq.trans (show I.lastingIn_F [.ro false (.ints .i64 net), .ro false (.rows leads)] [] κ = (optC (I.allOf_t net) (fun c_1 => (bif decide (0 ≤ IntKind.i64.wrap (c_1 + 1)) && small (IntKind.i64.wrap (c_1 + 1)).toNat && true then (I.lastingIn_L3 FUEL { n := 49, t := [(0, (.ro false (.ints .i64 net))), (1, (.ro false (.rows leads))), (5, (.own 0)), (6, (.int .i64 0))], h := [.row (.bools (List.replicate (IntKind.i64.wrap (c_1 + 1)).toNat false))] } (I.lastingIn_k3 κ)) else none)) none) by kernel_rfl) ?_
    refine optC_congr (fun c_1 => ?_)
    refine cnd_congr ?_ ?_
    · refine (I.lastingIn_L3_run net leads FUEL (0, List.replicate (IntKind.i64.wrap (c_1 + 1)).toNat false) (I.lastingIn_k3 κ)).trans (optC_congr (fun qy_3 => ?_))
      refine Eq.trans (show (I.lastingIn_k3 κ (.exit 0) { n := 49, t := [(0, (.ro false (.ints .i64 net))), (1, (.ro false (.rows leads))), (5, (.own 0))], h := [.row (.bools qy_3)] }) = (I.lastingIn_L7 FUEL { n := 49, t := [(0, (.ro false (.ints .i64 net))), (1, (.ro false (.rows leads))), (5, (.own 0)), (7, (.bool true))], h := [.row (.bools qy_3)] } (I.lastingIn_k7 κ)) by kernel_rfl) ?_
      refine (I.lastingIn_L7_run net leads FUEL (true, qy_3) (I.lastingIn_k7 κ)).trans (optC_congr (fun qy_8 => ?_))
      kernel_rfl
    · kernel_rfl
  rw [hu]
  exact (I.lastingIn_tree_nat (fun o => optC o (fun (r : List Bool) => κ (.own 0) [.row (.bools r)]) none) net leads (fun d => some d) none).symm
noncomputable def I.lastingIn_s : D.Spec where
  keep := false
  pure := false
  add := true
  ds := [.int .i64, .slice 3]
  sp := fun args h κ => match args, h with
    | [.ro false (.ints .i64 net), .ro false (.rows leads)], [] => optC (I.lastingIn_t net leads) (fun (r : List Bool) => κ (.own 0) [.row (.bools r)]) none
    | _, _ => none
theorem I.lastingIn_ok : SpecOk Try.prog 54 I.lastingIn_s := by
  refine SpecOk.of TDok mixed (T := I.lastingIn_T) ?_ (ann := I.lastingIn_ann) Try.func54 rfl (by decide +kernel) ?_ ?_ ?_ ?_
  · intro p hp
    simp only [I.lastingIn_T, List.mem_cons, List.not_mem_nil, or_false] at hp
    rcases hp with rfl | rfl
    · exact I.allOf_ok
    · exact I.answeredBy_ok
  · intro args h κ r hh
    simp only [I.lastingIn_s] at hh
    split at hh
    · exact (I.lastingIn_den _ _ κ).trans hh
    · cases hh
  · intro args h κ r hh
    simp only [I.lastingIn_s] at hh ⊢
    split at hh
    · exact optC_law2 (F := fun (r : List Bool) κ => κ (.own 0) [.row (.bools r)]) (fun b κ r hb => ⟨_, _, hb, fun _ => rfl⟩) hh
    · cases hh
  · intro hh; cases hh
  · intro _ args h κ r hh
    simp only [I.lastingIn_s] at hh
    split at hh
    · rfl
    · cases hh

-- loop.example/guardsonnets/impl.eternalIn
noncomputable def I.eternalIn_T : List (Nat × D.Spec) := [(55, I.movesIn_s), (54, I.lastingIn_s)]
def I.eternalIn_ann : Nat → List Nat × List Nat
  | _ => ([], [])
noncomputable def I.eternalIn_F (args : List V) (h : List E) (κ : V → List E → R) : R := funC TD (tableK I.eternalIn_T) I.eternalIn_ann (drawOk TD (tableP I.eternalIn_T)) FUEL Try.f38 args h κ
noncomputable def I.eternalIn_tree {α : Type} (net : List Int) (leaf0_ : List Bool → α) (fail_ : α) : α :=
  (optC (I.movesIn_t net) (fun c_1 => (optC (I.lastingIn_t net c_1) (fun c_2 => (leaf0_ c_2)) fail_)) fail_)
theorem I.eternalIn_tree_nat {α γ : Type} (g : α → γ) (net : List Int) (leaf0_ : List Bool → α) (fail_ : α) : g (I.eternalIn_tree net leaf0_ fail_) = I.eternalIn_tree net (fun d => g (leaf0_ d)) (g fail_) := by
  unfold I.eternalIn_tree; simp only [apply_cnd g, apply_optC g, apply_sumC g]
noncomputable def I.eternalIn_t (net : List Int) : Option (List Bool) := I.eternalIn_tree net (fun d => some d) none
theorem I.eternalIn_den (net : List Int) (κ : V → List E → R) : I.eternalIn_F [.ro false (.ints .i64 net)] [] κ = optC (I.eternalIn_t net) (fun (r : List Bool) => κ (.own 0) [.row (.bools r)]) none := by
  have hu : I.eternalIn_F [.ro false (.ints .i64 net)] [] κ = I.eternalIn_tree net (fun d => κ (.own 0) [.row (.bools d)]) none := by
    kernel_rfl
  rw [hu]
  exact (I.eternalIn_tree_nat (fun o => optC o (fun (r : List Bool) => κ (.own 0) [.row (.bools r)]) none) net (fun d => some d) none).symm
noncomputable def I.eternalIn_s : D.Spec where
  keep := false
  pure := false
  add := true
  ds := [.int .i64]
  sp := fun args h κ => match args, h with
    | [.ro false (.ints .i64 net)], [] => optC (I.eternalIn_t net) (fun (r : List Bool) => κ (.own 0) [.row (.bools r)]) none
    | _, _ => none
theorem I.eternalIn_ok : SpecOk Try.prog 38 I.eternalIn_s := by
  refine SpecOk.of TDok mixed (T := I.eternalIn_T) ?_ (ann := I.eternalIn_ann) Try.func38 rfl (by decide +kernel) ?_ ?_ ?_ ?_
  · intro p hp
    simp only [I.eternalIn_T, List.mem_cons, List.not_mem_nil, or_false] at hp
    rcases hp with rfl | rfl
    · exact I.movesIn_ok
    · exact I.lastingIn_ok
  · intro args h κ r hh
    simp only [I.eternalIn_s] at hh
    split at hh
    · exact (I.eternalIn_den _ κ).trans hh
    · cases hh
  · intro args h κ r hh
    simp only [I.eternalIn_s] at hh ⊢
    split at hh
    · exact optC_law2 (F := fun (r : List Bool) κ => κ (.own 0) [.row (.bools r)]) (fun b κ r hb => ⟨_, _, hb, fun _ => rfl⟩) hh
    · cases hh
  · intro hh; cases hh
  · intro _ args h κ r hh
    simp only [I.eternalIn_s] at hh
    split at hh
    · rfl
    · cases hh

-- loop.example/guardsonnets/impl.fewerOf
noncomputable def I.fewerOf_T : List (Nat × D.Spec) := []
def I.fewerOf_ann : Nat → List Nat × List Nat
  | _ => ([], [])
noncomputable def I.fewerOf_F (args : List V) (h : List E) (κ : V → List E → R) : R := funC TD (tableK I.fewerOf_T) I.fewerOf_ann (drawOk TD (tableP I.fewerOf_T)) FUEL Try.f53 args h κ
noncomputable def I.fewerOf_tree {α : Type} (fewest : Int) (number : Int) (leaf0_ : Int → α) (fail_ : α) : α :=
  (bif decide (fewest < 0) then (leaf0_ number) else (bif decide (number < fewest) then (leaf0_ number) else (leaf0_ fewest)))
theorem I.fewerOf_tree_nat {α γ : Type} (g : α → γ) (fewest : Int) (number : Int) (leaf0_ : Int → α) (fail_ : α) : g (I.fewerOf_tree fewest number leaf0_ fail_) = I.fewerOf_tree fewest number (fun d => g (leaf0_ d)) (g fail_) := by
  unfold I.fewerOf_tree; simp only [apply_cnd g, apply_optC g, apply_sumC g]
noncomputable def I.fewerOf_t (fewest : Int) (number : Int) : Option (Int) := I.fewerOf_tree fewest number (fun d => some d) none
theorem I.fewerOf_den (fewest : Int) (number : Int) (κ : V → List E → R) : I.fewerOf_F [.int .i64 fewest, .int .i64 number] [] κ = optC (I.fewerOf_t fewest number) (fun (r : Int) => κ (.int .i64 r) []) none := by
  have hu : I.fewerOf_F [.int .i64 fewest, .int .i64 number] [] κ = I.fewerOf_tree fewest number (fun d => κ (.int .i64 d) []) none := by
    kernel_rfl
  rw [hu]
  exact (I.fewerOf_tree_nat (fun o => optC o (fun (r : Int) => κ (.int .i64 r) []) none) fewest number (fun d => some d) none).symm
noncomputable def I.fewerOf_s : D.Spec where
  keep := false
  pure := true
  add := true
  ds := [.invalid, .invalid]
  sp := fun args h κ => match args, h with
    | [.int .i64 fewest, .int .i64 number], [] => optC (I.fewerOf_t fewest number) (fun (r : Int) => κ (.int .i64 r) []) none
    | _, _ => none
theorem I.fewerOf_ok : SpecOk Try.prog 53 I.fewerOf_s := by
  refine SpecOk.of TDok mixed (T := I.fewerOf_T) ?_ (ann := I.fewerOf_ann) Try.func53 rfl (by decide +kernel) ?_ ?_ ?_ ?_
  · intro p hp; cases hp
  · intro args h κ r hh
    simp only [I.fewerOf_s] at hh
    split at hh
    · exact (I.fewerOf_den _ _ κ).trans hh
    · cases hh
  · intro args h κ r hh
    simp only [I.fewerOf_s] at hh ⊢
    split at hh
    · exact optC_law2 (F := fun (r : Int) κ => κ (.int .i64 r) []) (fun b κ r hb => ⟨_, _, hb, fun _ => rfl⟩) hh
    · cases hh
  · intro _ args h κ r hh
    simp only [I.fewerOf_s] at hh
    split at hh
    · exact ⟨rfl, fun _ => rfl⟩
    · cases hh
  · intro _ args h κ r hh
    simp only [I.fewerOf_s] at hh
    split at hh
    · rfl
    · cases hh

-- loop.example/guardsonnets/impl.fewestIn
noncomputable def I.fewestIn_T : List (Nat × D.Spec) := [(35, I.sizeOf_s), (53, I.fewerOf_s)]
def I.fewestIn_ann : Nat → List Nat × List Nat
  | 3 => ([0, 3, 4], [3])
  | _ => ([], [])
noncomputable def I.fewestIn_F (args : List V) (h : List E) (κ : V → List E → R) : R := funC TD (tableK I.fewestIn_T) I.fewestIn_ann (drawOk TD (tableP I.fewestIn_T)) FUEL Try.f37 args h κ
noncomputable def I.fewestIn_L3 (n : Nat) (σ : St) (k : X → St → R) : R := iterC 0 (fun σ k => denC TD (tableK I.fewestIn_T) I.fewestIn_ann (drawOk TD (tableP I.fewestIn_T)) 0 FUEL ((findLoop 3 (Try.f37.body.getD .skip)).getD .skip) σ k) [0, 3, 4] [3] n σ k
noncomputable def I.fewestIn_k3 (κ : V → List E → R) : X → St → R := (afterC TD (tableK I.fewestIn_T) I.fewestIn_ann (drawOk TD (tableP I.fewestIn_T)) 0 FUEL 3 (Try.f37.body.getD .skip) (finC TD 0 Try.f37 κ)).getD (fun _ _ => none)
noncomputable def I.fewestIn_step3 {α : Type} (x0 : List Bool) (x3 : Int) (x4 : Int) (next_ : Int × Int → α) (out0_ : Int → α) (fail_ : α) : α :=
  (bif decide (x4 < (↑x0.length : Int)) then (bif decide (0 ≤ x4) && decide (x4 < (↑x0.length : Int)) then (bif elb x0 x4.toNat then (optC (I.sizeOf_t x4) (fun c_1 => (optC (I.fewerOf_t x3 c_1) (fun c_2 => (next_ (c_2, IntKind.i64.wrap (x4 + 1)))) fail_)) fail_) else (next_ (x3, IntKind.i64.wrap (x4 + 1)))) else fail_) else (out0_ x3))
theorem I.fewestIn_step3_nat {α γ : Type} (g : α → γ) (x0 : List Bool) (x3 : Int) (x4 : Int) (next_ : Int × Int → α) (out0_ : Int → α) (fail_ : α) : g (I.fewestIn_step3 x0 x3 x4 next_ out0_ fail_) = I.fewestIn_step3 x0 x3 x4 (fun s => g (next_ s)) (fun d => g (out0_ d)) (g fail_) := by
  unfold I.fewestIn_step3; simp only [apply_cnd g, apply_optC g, apply_sumC g]
noncomputable def I.fewestIn_run3 (x0 : List Bool) : Nat → Int × Int → Option (Int)
  | 0, _ => none
  | n + 1, s_ => I.fewestIn_step3 x0 s_.1 s_.2 (I.fewestIn_run3 x0 n) (fun d => some d) none
theorem I.fewestIn_L3_run (x0 : List Bool) (n : Nat) (s_ : Int × Int) (k : X → St → R) : I.fewestIn_L3 n { n := 20, t := [(0, (.ro false (.bools x0))), (3, (.int .i64 s_.1)), (4, (.int .i64 s_.2))], h := [] } k = optC (I.fewestIn_run3 x0 n s_) (fun (r : Int) => k (.exit 0) { n := 20, t := [(3, (.int .i64 r))], h := [] }) none := by
  induction n generalizing s_ with
  | zero => rfl
  | succ n ih =>
    have hu : I.fewestIn_L3 (n + 1) { n := 20, t := [(0, (.ro false (.bools x0))), (3, (.int .i64 s_.1)), (4, (.int .i64 s_.2))], h := [] } k = I.fewestIn_step3 x0 s_.1 s_.2 (fun s_ => I.fewestIn_L3 n { n := 20, t := [(0, (.ro false (.bools x0))), (3, (.int .i64 s_.1)), (4, (.int .i64 s_.2))], h := [] } k) (fun d => k (.exit 0) { n := 20, t := [(3, (.int .i64 d))], h := [] }) none := by
      kernel_rfl
    have hs : (fun s_ : Int × Int => I.fewestIn_L3 n { n := 20, t := [(0, (.ro false (.bools x0))), (3, (.int .i64 s_.1)), (4, (.int .i64 s_.2))], h := [] } k) = fun s_ => optC (I.fewestIn_run3 x0 n s_) (fun (r : Int) => k (.exit 0) { n := 20, t := [(3, (.int .i64 r))], h := [] }) none := funext ih
    rw [hu, hs]
    exact (I.fewestIn_step3_nat (fun o => optC o (fun (r : Int) => k (.exit 0) { n := 20, t := [(3, (.int .i64 r))], h := [] }) none) x0 s_.1 s_.2 (I.fewestIn_run3 x0 n) (fun d => some d) none).symm
noncomputable def I.fewestIn_tree {α : Type} (lasting : List Bool) (leaf0_ : Int → α) (fail_ : α) : α :=
  (optC (I.fewestIn_run3 lasting FUEL (-1, 0)) (fun qy_3 => (leaf0_ qy_3)) fail_)
theorem I.fewestIn_tree_nat {α γ : Type} (g : α → γ) (lasting : List Bool) (leaf0_ : Int → α) (fail_ : α) : g (I.fewestIn_tree lasting leaf0_ fail_) = I.fewestIn_tree lasting (fun d => g (leaf0_ d)) (g fail_) := by
  unfold I.fewestIn_tree; simp only [apply_cnd g, apply_optC g, apply_sumC g]
noncomputable def I.fewestIn_t (lasting : List Bool) : Option (Int) := I.fewestIn_tree lasting (fun d => some d) none
theorem I.fewestIn_den (lasting : List Bool) (κ : V → List E → R) : I.fewestIn_F [.ro false (.bools lasting)] [] κ = optC (I.fewestIn_t lasting) (fun (r : Int) => κ (.int .i64 r) []) none := by
  have hu : I.fewestIn_F [.ro false (.bools lasting)] [] κ = I.fewestIn_tree lasting (fun d => κ (.int .i64 d) []) none := by
    refine Eq.trans (show I.fewestIn_F [.ro false (.bools lasting)] [] κ = (I.fewestIn_L3 FUEL { n := 20, t := [(0, (.ro false (.bools lasting))), (3, (.int .i64 (-1))), (4, (.int .i64 0))], h := [] } (I.fewestIn_k3 κ)) by kernel_rfl) ?_
    refine (I.fewestIn_L3_run lasting FUEL (-1, 0) (I.fewestIn_k3 κ)).trans (optC_congr (fun qy_3 => ?_))
    kernel_rfl
  rw [hu]
  exact (I.fewestIn_tree_nat (fun o => optC o (fun (r : Int) => κ (.int .i64 r) []) none) lasting (fun d => some d) none).symm
noncomputable def I.fewestIn_s : D.Spec where
  keep := false
  pure := true
  add := true
  ds := [.bool]
  sp := fun args h κ => match args, h with
    | [.ro false (.bools lasting)], [] => optC (I.fewestIn_t lasting) (fun (r : Int) => κ (.int .i64 r) []) none
    | _, _ => none
theorem I.fewestIn_ok : SpecOk Try.prog 37 I.fewestIn_s := by
  refine SpecOk.of TDok mixed (T := I.fewestIn_T) ?_ (ann := I.fewestIn_ann) Try.func37 rfl (by decide +kernel) ?_ ?_ ?_ ?_
  · intro p hp
    simp only [I.fewestIn_T, List.mem_cons, List.not_mem_nil, or_false] at hp
    rcases hp with rfl | rfl
    · exact I.sizeOf_ok
    · exact I.fewerOf_ok
  · intro args h κ r hh
    simp only [I.fewestIn_s] at hh
    split at hh
    · exact (I.fewestIn_den _ κ).trans hh
    · cases hh
  · intro args h κ r hh
    simp only [I.fewestIn_s] at hh ⊢
    split at hh
    · exact optC_law2 (F := fun (r : Int) κ => κ (.int .i64 r) []) (fun b κ r hb => ⟨_, _, hb, fun _ => rfl⟩) hh
    · cases hh
  · intro _ args h κ r hh
    simp only [I.fewestIn_s] at hh
    split at hh
    · exact ⟨rfl, fun _ => rfl⟩
    · cases hh
  · intro _ args h κ r hh
    simp only [I.fewestIn_s] at hh
    split at hh
    · rfl
    · cases hh

-- loop.example/guardsonnets/impl.FewestEternal
noncomputable def I.FewestEternal_T : List (Nat × D.Spec) := [(10, I.NetOk_s), (38, I.eternalIn_s), (37, I.fewestIn_s)]
def I.FewestEternal_ann : Nat → List Nat × List Nat
  | _ => ([], [])
noncomputable def I.FewestEternal_F (args : List V) (h : List E) (κ : V → List E → R) : R := funC TD (tableK I.FewestEternal_T) I.FewestEternal_ann (drawOk TD (tableP I.FewestEternal_T)) FUEL Try.f13 args h κ
noncomputable def I.FewestEternal_tree {α : Type} (net : List Int) (leaf0_ : Int → α) (fail_ : α) : α :=
  (optC (I.NetOk_t net) (fun c_1 => (bif !c_1 then (leaf0_ (-1)) else (optC (I.eternalIn_t net) (fun c_2 => (optC (I.fewestIn_t c_2) (fun c_3 => (leaf0_ c_3)) fail_)) fail_))) fail_)
theorem I.FewestEternal_tree_nat {α γ : Type} (g : α → γ) (net : List Int) (leaf0_ : Int → α) (fail_ : α) : g (I.FewestEternal_tree net leaf0_ fail_) = I.FewestEternal_tree net (fun d => g (leaf0_ d)) (g fail_) := by
  unfold I.FewestEternal_tree; simp only [apply_cnd g, apply_optC g, apply_sumC g]
noncomputable def I.FewestEternal_t (net : List Int) : Option (Int) := I.FewestEternal_tree net (fun d => some d) none
theorem I.FewestEternal_den (net : List Int) (κ : V → List E → R) : I.FewestEternal_F [.ro false (.ints .i64 net)] [] κ = optC (I.FewestEternal_t net) (fun (r : Int) => κ (.int .i64 r) []) none := by
  have hu : I.FewestEternal_F [.ro false (.ints .i64 net)] [] κ = I.FewestEternal_tree net (fun d => κ (.int .i64 d) []) none := by
    kernel_rfl
  rw [hu]
  exact (I.FewestEternal_tree_nat (fun o => optC o (fun (r : Int) => κ (.int .i64 r) []) none) net (fun d => some d) none).symm
noncomputable def I.FewestEternal_s : D.Spec where
  keep := false
  pure := true
  add := true
  ds := [.int .i64]
  sp := fun args h κ => match args, h with
    | [.ro false (.ints .i64 net)], [] => optC (I.FewestEternal_t net) (fun (r : Int) => κ (.int .i64 r) []) none
    | _, _ => none
theorem I.FewestEternal_ok : SpecOk Try.prog 13 I.FewestEternal_s := by
  refine SpecOk.of TDok mixed (T := I.FewestEternal_T) ?_ (ann := I.FewestEternal_ann) Try.func13 rfl (by decide +kernel) ?_ ?_ ?_ ?_
  · intro p hp
    simp only [I.FewestEternal_T, List.mem_cons, List.not_mem_nil, or_false] at hp
    rcases hp with rfl | rfl | rfl
    · exact I.NetOk_ok
    · exact I.eternalIn_ok
    · exact I.fewestIn_ok
  · intro args h κ r hh
    simp only [I.FewestEternal_s] at hh
    split at hh
    · exact (I.FewestEternal_den _ κ).trans hh
    · cases hh
  · intro args h κ r hh
    simp only [I.FewestEternal_s] at hh ⊢
    split at hh
    · exact optC_law2 (F := fun (r : Int) κ => κ (.int .i64 r) []) (fun b κ r hb => ⟨_, _, hb, fun _ => rfl⟩) hh
    · cases hh
  · intro _ args h κ r hh
    simp only [I.FewestEternal_s] at hh
    split at hh
    · exact ⟨rfl, fun _ => rfl⟩
    · cases hh
  · intro _ args h κ r hh
    simp only [I.FewestEternal_s] at hh
    split at hh
    · rfl
    · cases hh

-- loop.example/guardsonnets/impl.ballIn
noncomputable def I.ballIn_T : List (Nat × D.Spec) := []
def I.ballIn_ann : Nat → List Nat × List Nat
  | _ => ([], [])
noncomputable def I.ballIn_F (args : List V) (h : List E) (κ : V → List E → R) : R := funC TD (tableK I.ballIn_T) I.ballIn_ann (drawOk TD (tableP I.ballIn_T)) FUEL Try.f56 args h κ
noncomputable def I.ballIn_tree {α : Type} (net : List Int) (place : Int) (leaf0_ : Int → α) (fail_ : α) : α :=
  (bif decide (0 ≤ place) && decide (place < (↑net.length : Int)) then (bif decide (place < 0) then fail_ else (leaf0_ (bits BinOp.or IntKind.i64 (eli net place.toNat) (IntKind.i64.wrap (1 * 2 ^ min place.toNat IntKind.i64.bits))))) else fail_)
theorem I.ballIn_tree_nat {α γ : Type} (g : α → γ) (net : List Int) (place : Int) (leaf0_ : Int → α) (fail_ : α) : g (I.ballIn_tree net place leaf0_ fail_) = I.ballIn_tree net place (fun d => g (leaf0_ d)) (g fail_) := by
  unfold I.ballIn_tree; simp only [apply_cnd g, apply_optC g, apply_sumC g]
noncomputable def I.ballIn_t (net : List Int) (place : Int) : Option (Int) := I.ballIn_tree net place (fun d => some d) none
theorem I.ballIn_den (net : List Int) (place : Int) (κ : V → List E → R) : I.ballIn_F [.ro false (.ints .i64 net), .int .i64 place] [] κ = optC (I.ballIn_t net place) (fun (r : Int) => κ (.int .i64 r) []) none := by
  have hu : I.ballIn_F [.ro false (.ints .i64 net), .int .i64 place] [] κ = I.ballIn_tree net place (fun d => κ (.int .i64 d) []) none := by
    kernel_rfl
  rw [hu]
  exact (I.ballIn_tree_nat (fun o => optC o (fun (r : Int) => κ (.int .i64 r) []) none) net place (fun d => some d) none).symm
noncomputable def I.ballIn_s : D.Spec where
  keep := false
  pure := true
  add := true
  ds := [.int .i64, .invalid]
  sp := fun args h κ => match args, h with
    | [.ro false (.ints .i64 net), .int .i64 place], [] => optC (I.ballIn_t net place) (fun (r : Int) => κ (.int .i64 r) []) none
    | _, _ => none
theorem I.ballIn_ok : SpecOk Try.prog 56 I.ballIn_s := by
  refine SpecOk.of TDok mixed (T := I.ballIn_T) ?_ (ann := I.ballIn_ann) Try.func56 rfl (by decide +kernel) ?_ ?_ ?_ ?_
  · intro p hp; cases hp
  · intro args h κ r hh
    simp only [I.ballIn_s] at hh
    split at hh
    · exact (I.ballIn_den _ _ κ).trans hh
    · cases hh
  · intro args h κ r hh
    simp only [I.ballIn_s] at hh ⊢
    split at hh
    · exact optC_law2 (F := fun (r : Int) κ => κ (.int .i64 r) []) (fun b κ r hb => ⟨_, _, hb, fun _ => rfl⟩) hh
    · cases hh
  · intro _ args h κ r hh
    simp only [I.ballIn_s] at hh
    split at hh
    · exact ⟨rfl, fun _ => rfl⟩
    · cases hh
  · intro _ args h κ r hh
    simp only [I.ballIn_s] at hh
    split at hh
    · rfl
    · cases hh

-- loop.example/guardsonnets/impl.cliqueIn
noncomputable def I.cliqueIn_T : List (Nat × D.Spec) := [(32, I.hasPlace_s), (56, I.ballIn_s)]
def I.cliqueIn_ann : Nat → List Nat × List Nat
  | 2 => ([0, 1, 5], [4])
  | _ => ([], [])
noncomputable def I.cliqueIn_F (args : List V) (h : List E) (κ : V → List E → R) : R := funC TD (tableK I.cliqueIn_T) I.cliqueIn_ann (drawOk TD (tableP I.cliqueIn_T)) FUEL Try.f39 args h κ
noncomputable def I.cliqueIn_L2 (n : Nat) (σ : St) (k : X → St → R) : R := iterC 0 (fun σ k => denC TD (tableK I.cliqueIn_T) I.cliqueIn_ann (drawOk TD (tableP I.cliqueIn_T)) 0 FUEL ((findLoop 2 (Try.f39.body.getD .skip)).getD .skip) σ k) [0, 1, 5] [4] n σ k
noncomputable def I.cliqueIn_k2 (κ : V → List E → R) : X → St → R := (afterC TD (tableK I.cliqueIn_T) I.cliqueIn_ann (drawOk TD (tableP I.cliqueIn_T)) 0 FUEL 2 (Try.f39.body.getD .skip) (finC TD 0 Try.f39 κ)).getD (fun _ _ => none)
noncomputable def I.cliqueIn_step2 {α : Type} (x0 : List Int) (x1 : Int) (x5 : Int) (next_ : Int → α) (out0_ : Bool → α) (out1_ : Unit → α) (fail_ : α) : α :=
  (bif decide (x5 < (↑x0.length : Int)) then (optC (I.hasPlace_t x1 x5) (fun c_1 => (bif c_1 then (optC (I.ballIn_t x0 x5) (fun c_2 => (bif !bits BinOp.andNot IntKind.i64 x1 c_2 == 0 then (out0_ false) else (next_ (IntKind.i64.wrap (x5 + 1))))) fail_) else (next_ (IntKind.i64.wrap (x5 + 1))))) fail_) else (out1_ ()))
theorem I.cliqueIn_step2_nat {α γ : Type} (g : α → γ) (x0 : List Int) (x1 : Int) (x5 : Int) (next_ : Int → α) (out0_ : Bool → α) (out1_ : Unit → α) (fail_ : α) : g (I.cliqueIn_step2 x0 x1 x5 next_ out0_ out1_ fail_) = I.cliqueIn_step2 x0 x1 x5 (fun s => g (next_ s)) (fun d => g (out0_ d)) (fun d => g (out1_ d)) (g fail_) := by
  unfold I.cliqueIn_step2; simp only [apply_cnd g, apply_optC g, apply_sumC g]
noncomputable def I.cliqueIn_run2 (x0 : List Int) (x1 : Int) : Nat → Int → Option ((Bool) ⊕ (Unit))
  | 0, _ => none
  | n + 1, s_ => I.cliqueIn_step2 x0 x1 s_ (I.cliqueIn_run2 x0 x1 n) (fun d => some ((Sum.inl d))) (fun d => some ((Sum.inr d))) none
theorem I.cliqueIn_L2_run (x0 : List Int) (x1 : Int) (n : Nat) (s_ : Int) (k : X → St → R) : I.cliqueIn_L2 n { n := 23, t := [(0, (.ro false (.ints .i64 x0))), (1, (.int .i64 x1)), (5, (.int .i64 s_))], h := [] } k = optC (I.cliqueIn_run2 x0 x1 n s_) (fun (r : (Bool) ⊕ (Unit)) => (sumC r (fun (r : Bool) => k (.ret) { n := 23, t := [(4, (.bool r))], h := [] }) (fun (r : Unit) => k (.exit 0) { n := 23, t := [(4, .junk)], h := [] }))) none := by
  induction n generalizing s_ with
  | zero => rfl
  | succ n ih =>
    have hu : I.cliqueIn_L2 (n + 1) { n := 23, t := [(0, (.ro false (.ints .i64 x0))), (1, (.int .i64 x1)), (5, (.int .i64 s_))], h := [] } k = I.cliqueIn_step2 x0 x1 s_ (fun s_ => I.cliqueIn_L2 n { n := 23, t := [(0, (.ro false (.ints .i64 x0))), (1, (.int .i64 x1)), (5, (.int .i64 s_))], h := [] } k) (fun d => k (.ret) { n := 23, t := [(4, (.bool d))], h := [] }) (fun d => k (.exit 0) { n := 23, t := [(4, .junk)], h := [] }) none := by
      kernel_rfl
    have hs : (fun s_ : Int => I.cliqueIn_L2 n { n := 23, t := [(0, (.ro false (.ints .i64 x0))), (1, (.int .i64 x1)), (5, (.int .i64 s_))], h := [] } k) = fun s_ => optC (I.cliqueIn_run2 x0 x1 n s_) (fun (r : (Bool) ⊕ (Unit)) => (sumC r (fun (r : Bool) => k (.ret) { n := 23, t := [(4, (.bool r))], h := [] }) (fun (r : Unit) => k (.exit 0) { n := 23, t := [(4, .junk)], h := [] }))) none := funext ih
    rw [hu, hs]
    exact (I.cliqueIn_step2_nat (fun o => optC o (fun (r : (Bool) ⊕ (Unit)) => (sumC r (fun (r : Bool) => k (.ret) { n := 23, t := [(4, (.bool r))], h := [] }) (fun (r : Unit) => k (.exit 0) { n := 23, t := [(4, .junk)], h := [] }))) none) x0 x1 s_ (I.cliqueIn_run2 x0 x1 n) (fun d => some ((Sum.inl d))) (fun d => some ((Sum.inr d))) none).symm
noncomputable def I.cliqueIn_tree {α : Type} (net : List Int) (set_ : Int) (leaf0_ : Bool → α) (fail_ : α) : α :=
  (optC (I.cliqueIn_run2 net set_ FUEL 0) (fun qy_3 => (sumC qy_3 (fun (qy_3 : Bool) => (leaf0_ qy_3)) (fun (qy_3 : Unit) => (leaf0_ true)))) fail_)
theorem I.cliqueIn_tree_nat {α γ : Type} (g : α → γ) (net : List Int) (set_ : Int) (leaf0_ : Bool → α) (fail_ : α) : g (I.cliqueIn_tree net set_ leaf0_ fail_) = I.cliqueIn_tree net set_ (fun d => g (leaf0_ d)) (g fail_) := by
  unfold I.cliqueIn_tree; simp only [apply_cnd g, apply_optC g, apply_sumC g]
noncomputable def I.cliqueIn_t (net : List Int) (set_ : Int) : Option (Bool) := I.cliqueIn_tree net set_ (fun d => some d) none
theorem I.cliqueIn_den (net : List Int) (set_ : Int) (κ : V → List E → R) : I.cliqueIn_F [.ro false (.ints .i64 net), .int .i64 set_] [] κ = optC (I.cliqueIn_t net set_) (fun (r : Bool) => κ (.bool r) []) none := by
  have hu : I.cliqueIn_F [.ro false (.ints .i64 net), .int .i64 set_] [] κ = I.cliqueIn_tree net set_ (fun d => κ (.bool d) []) none := by
    refine Eq.trans (show I.cliqueIn_F [.ro false (.ints .i64 net), .int .i64 set_] [] κ = (I.cliqueIn_L2 FUEL { n := 23, t := [(0, (.ro false (.ints .i64 net))), (1, (.int .i64 set_)), (5, (.int .i64 0))], h := [] } (I.cliqueIn_k2 κ)) by kernel_rfl) ?_
    refine (I.cliqueIn_L2_run net set_ FUEL 0 (I.cliqueIn_k2 κ)).trans (optC_congr (fun qy_3 => ?_))
    rcases qy_3 with qy_3 | qy_3
    · kernel_rfl
    · kernel_rfl
  rw [hu]
  exact (I.cliqueIn_tree_nat (fun o => optC o (fun (r : Bool) => κ (.bool r) []) none) net set_ (fun d => some d) none).symm
noncomputable def I.cliqueIn_s : D.Spec where
  keep := false
  pure := true
  add := true
  ds := [.int .i64, .invalid]
  sp := fun args h κ => match args, h with
    | [.ro false (.ints .i64 net), .int .i64 set_], [] => optC (I.cliqueIn_t net set_) (fun (r : Bool) => κ (.bool r) []) none
    | _, _ => none
theorem I.cliqueIn_ok : SpecOk Try.prog 39 I.cliqueIn_s := by
  refine SpecOk.of TDok mixed (T := I.cliqueIn_T) ?_ (ann := I.cliqueIn_ann) Try.func39 rfl (by decide +kernel) ?_ ?_ ?_ ?_
  · intro p hp
    simp only [I.cliqueIn_T, List.mem_cons, List.not_mem_nil, or_false] at hp
    rcases hp with rfl | rfl
    · exact I.hasPlace_ok
    · exact I.ballIn_ok
  · intro args h κ r hh
    simp only [I.cliqueIn_s] at hh
    split at hh
    · exact (I.cliqueIn_den _ _ κ).trans hh
    · cases hh
  · intro args h κ r hh
    simp only [I.cliqueIn_s] at hh ⊢
    split at hh
    · exact optC_law2 (F := fun (r : Bool) κ => κ (.bool r) []) (fun b κ r hb => ⟨_, _, hb, fun _ => rfl⟩) hh
    · cases hh
  · intro _ args h κ r hh
    simp only [I.cliqueIn_s] at hh
    split at hh
    · exact ⟨rfl, fun _ => rfl⟩
    · cases hh
  · intro _ args h κ r hh
    simp only [I.cliqueIn_s] at hh
    split at hh
    · rfl
    · cases hh

-- loop.example/guardsonnets/impl.MostClique
noncomputable def I.MostClique_T : List (Nat × D.Spec) := [(10, I.NetOk_s), (34, I.allOf_s), (35, I.sizeOf_s), (39, I.cliqueIn_s)]
def I.MostClique_ann : Nat → List Nat × List Nat
  | 5 => ([0, 3, 4], [3])
  | _ => ([], [])
noncomputable def I.MostClique_F (args : List V) (h : List E) (κ : V → List E → R) : R := funC TD (tableK I.MostClique_T) I.MostClique_ann (drawOk TD (tableP I.MostClique_T)) FUEL Try.f14 args h κ
noncomputable def I.MostClique_L5 (n : Nat) (σ : St) (k : X → St → R) : R := iterC 0 (fun σ k => denC TD (tableK I.MostClique_T) I.MostClique_ann (drawOk TD (tableP I.MostClique_T)) 0 FUEL ((findLoop 5 (Try.f14.body.getD .skip)).getD .skip) σ k) [0, 3, 4] [3] n σ k
noncomputable def I.MostClique_k5 (κ : V → List E → R) : X → St → R := (afterC TD (tableK I.MostClique_T) I.MostClique_ann (drawOk TD (tableP I.MostClique_T)) 0 FUEL 5 (Try.f14.body.getD .skip) (finC TD 0 Try.f14 κ)).getD (fun _ _ => none)
noncomputable def I.MostClique_step5 {α : Type} (x0 : List Int) (x3 : Int) (x4 : Int) (next_ : Int × Int → α) (out0_ : Int → α) (fail_ : α) : α :=
  (optC (I.allOf_t x0) (fun c_2 => (bif decide (x4 ≤ c_2) then (optC (I.sizeOf_t x4) (fun c_3 => (bif decide (c_3 > x3) then (optC (I.cliqueIn_t x0 x4) (fun c_4 => (bif c_4 then (optC (I.sizeOf_t x4) (fun c_5 => (next_ (c_5, IntKind.i64.wrap (x4 + 1)))) fail_) else (next_ (x3, IntKind.i64.wrap (x4 + 1))))) fail_) else (next_ (x3, IntKind.i64.wrap (x4 + 1))))) fail_) else (out0_ x3))) fail_)
theorem I.MostClique_step5_nat {α γ : Type} (g : α → γ) (x0 : List Int) (x3 : Int) (x4 : Int) (next_ : Int × Int → α) (out0_ : Int → α) (fail_ : α) : g (I.MostClique_step5 x0 x3 x4 next_ out0_ fail_) = I.MostClique_step5 x0 x3 x4 (fun s => g (next_ s)) (fun d => g (out0_ d)) (g fail_) := by
  unfold I.MostClique_step5; simp only [apply_cnd g, apply_optC g, apply_sumC g]
noncomputable def I.MostClique_run5 (x0 : List Int) : Nat → Int × Int → Option (Int)
  | 0, _ => none
  | n + 1, s_ => I.MostClique_step5 x0 s_.1 s_.2 (I.MostClique_run5 x0 n) (fun d => some d) none
theorem I.MostClique_L5_run (x0 : List Int) (n : Nat) (s_ : Int × Int) (k : X → St → R) : I.MostClique_L5 n { n := 26, t := [(0, (.ro false (.ints .i64 x0))), (3, (.int .i64 s_.1)), (4, (.int .i64 s_.2))], h := [] } k = optC (I.MostClique_run5 x0 n s_) (fun (r : Int) => k (.exit 0) { n := 26, t := [(3, (.int .i64 r))], h := [] }) none := by
  induction n generalizing s_ with
  | zero => rfl
  | succ n ih =>
    have hu : I.MostClique_L5 (n + 1) { n := 26, t := [(0, (.ro false (.ints .i64 x0))), (3, (.int .i64 s_.1)), (4, (.int .i64 s_.2))], h := [] } k = I.MostClique_step5 x0 s_.1 s_.2 (fun s_ => I.MostClique_L5 n { n := 26, t := [(0, (.ro false (.ints .i64 x0))), (3, (.int .i64 s_.1)), (4, (.int .i64 s_.2))], h := [] } k) (fun d => k (.exit 0) { n := 26, t := [(3, (.int .i64 d))], h := [] }) none := by
      kernel_rfl
    have hs : (fun s_ : Int × Int => I.MostClique_L5 n { n := 26, t := [(0, (.ro false (.ints .i64 x0))), (3, (.int .i64 s_.1)), (4, (.int .i64 s_.2))], h := [] } k) = fun s_ => optC (I.MostClique_run5 x0 n s_) (fun (r : Int) => k (.exit 0) { n := 26, t := [(3, (.int .i64 r))], h := [] }) none := funext ih
    rw [hu, hs]
    exact (I.MostClique_step5_nat (fun o => optC o (fun (r : Int) => k (.exit 0) { n := 26, t := [(3, (.int .i64 r))], h := [] }) none) x0 s_.1 s_.2 (I.MostClique_run5 x0 n) (fun d => some d) none).symm
noncomputable def I.MostClique_tree {α : Type} (net : List Int) (leaf0_ : Int → α) (fail_ : α) : α :=
  (optC (I.NetOk_t net) (fun c_1 => (bif !c_1 then (leaf0_ (-1)) else (optC (I.MostClique_run5 net FUEL (0, 0)) (fun qy_6 => (leaf0_ qy_6)) fail_))) fail_)
theorem I.MostClique_tree_nat {α γ : Type} (g : α → γ) (net : List Int) (leaf0_ : Int → α) (fail_ : α) : g (I.MostClique_tree net leaf0_ fail_) = I.MostClique_tree net (fun d => g (leaf0_ d)) (g fail_) := by
  unfold I.MostClique_tree; simp only [apply_cnd g, apply_optC g, apply_sumC g]
noncomputable def I.MostClique_t (net : List Int) : Option (Int) := I.MostClique_tree net (fun d => some d) none
theorem I.MostClique_den (net : List Int) (κ : V → List E → R) : I.MostClique_F [.ro false (.ints .i64 net)] [] κ = optC (I.MostClique_t net) (fun (r : Int) => κ (.int .i64 r) []) none := by
  have hu : I.MostClique_F [.ro false (.ints .i64 net)] [] κ = I.MostClique_tree net (fun d => κ (.int .i64 d) []) none := by
    refine Eq.trans (show I.MostClique_F [.ro false (.ints .i64 net)] [] κ = (optC (I.NetOk_t net) (fun c_1 => (bif !c_1 then (κ (.int .i64 (-1)) []) else (I.MostClique_L5 FUEL { n := 26, t := [(0, (.ro false (.ints .i64 net))), (3, (.int .i64 0)), (4, (.int .i64 0))], h := [] } (I.MostClique_k5 κ)))) none) by kernel_rfl) ?_
    refine optC_congr (fun c_1 => ?_)
    refine cnd_congr ?_ ?_
    · kernel_rfl
    · refine (I.MostClique_L5_run net FUEL (0, 0) (I.MostClique_k5 κ)).trans (optC_congr (fun qy_6 => ?_))
      kernel_rfl
  rw [hu]
  exact (I.MostClique_tree_nat (fun o => optC o (fun (r : Int) => κ (.int .i64 r) []) none) net (fun d => some d) none).symm
noncomputable def I.MostClique_s : D.Spec where
  keep := false
  pure := true
  add := true
  ds := [.int .i64]
  sp := fun args h κ => match args, h with
    | [.ro false (.ints .i64 net)], [] => optC (I.MostClique_t net) (fun (r : Int) => κ (.int .i64 r) []) none
    | _, _ => none
theorem I.MostClique_ok : SpecOk Try.prog 14 I.MostClique_s := by
  refine SpecOk.of TDok mixed (T := I.MostClique_T) ?_ (ann := I.MostClique_ann) Try.func14 rfl (by decide +kernel) ?_ ?_ ?_ ?_
  · intro p hp
    simp only [I.MostClique_T, List.mem_cons, List.not_mem_nil, or_false] at hp
    rcases hp with rfl | rfl | rfl | rfl
    · exact I.NetOk_ok
    · exact I.allOf_ok
    · exact I.sizeOf_ok
    · exact I.cliqueIn_ok
  · intro args h κ r hh
    simp only [I.MostClique_s] at hh
    split at hh
    · exact (I.MostClique_den _ κ).trans hh
    · cases hh
  · intro args h κ r hh
    simp only [I.MostClique_s] at hh ⊢
    split at hh
    · exact optC_law2 (F := fun (r : Int) κ => κ (.int .i64 r) []) (fun b κ r hb => ⟨_, _, hb, fun _ => rfl⟩) hh
    · cases hh
  · intro _ args h κ r hh
    simp only [I.MostClique_s] at hh
    split at hh
    · exact ⟨rfl, fun _ => rfl⟩
    · cases hh
  · intro _ args h κ r hh
    simp only [I.MostClique_s] at hh
    split at hh
    · rfl
    · cases hh

-- loop.example/guardsonnets/impl.leafIn
noncomputable def I.leafIn_T : List (Nat × D.Spec) := [(32, I.hasPlace_s), (35, I.sizeOf_s)]
def I.leafIn_ann : Nat → List Nat × List Nat
  | 2 => ([0, 1, 5], [4])
  | _ => ([], [])
noncomputable def I.leafIn_F (args : List V) (h : List E) (κ : V → List E → R) : R := funC TD (tableK I.leafIn_T) I.leafIn_ann (drawOk TD (tableP I.leafIn_T)) FUEL Try.f57 args h κ
noncomputable def I.leafIn_L2 (n : Nat) (σ : St) (k : X → St → R) : R := iterC 0 (fun σ k => denC TD (tableK I.leafIn_T) I.leafIn_ann (drawOk TD (tableP I.leafIn_T)) 0 FUEL ((findLoop 2 (Try.f57.body.getD .skip)).getD .skip) σ k) [0, 1, 5] [4] n σ k
noncomputable def I.leafIn_k2 (κ : V → List E → R) : X → St → R := (afterC TD (tableK I.leafIn_T) I.leafIn_ann (drawOk TD (tableP I.leafIn_T)) 0 FUEL 2 (Try.f57.body.getD .skip) (finC TD 0 Try.f57 κ)).getD (fun _ _ => none)
noncomputable def I.leafIn_step2 {α : Type} (x0 : List Int) (x1 : Int) (x5 : Int) (next_ : Int → α) (out0_ : Int → α) (out1_ : Unit → α) (fail_ : α) : α :=
  (bif decide (x5 < (↑x0.length : Int)) then (optC (I.hasPlace_t x1 x5) (fun c_1 => (bif c_1 then (bif decide (0 ≤ x5) && decide (x5 < (↑x0.length : Int)) then (optC (I.sizeOf_t (bits BinOp.and IntKind.i64 (eli x0 x5.toNat) x1)) (fun c_2 => (bif decide (c_2 ≤ 1) then (out0_ x5) else (next_ (IntKind.i64.wrap (x5 + 1))))) fail_) else fail_) else (next_ (IntKind.i64.wrap (x5 + 1))))) fail_) else (out1_ ()))
theorem I.leafIn_step2_nat {α γ : Type} (g : α → γ) (x0 : List Int) (x1 : Int) (x5 : Int) (next_ : Int → α) (out0_ : Int → α) (out1_ : Unit → α) (fail_ : α) : g (I.leafIn_step2 x0 x1 x5 next_ out0_ out1_ fail_) = I.leafIn_step2 x0 x1 x5 (fun s => g (next_ s)) (fun d => g (out0_ d)) (fun d => g (out1_ d)) (g fail_) := by
  unfold I.leafIn_step2; simp only [apply_cnd g, apply_optC g, apply_sumC g]
noncomputable def I.leafIn_run2 (x0 : List Int) (x1 : Int) : Nat → Int → Option ((Int) ⊕ (Unit))
  | 0, _ => none
  | n + 1, s_ => I.leafIn_step2 x0 x1 s_ (I.leafIn_run2 x0 x1 n) (fun d => some ((Sum.inl d))) (fun d => some ((Sum.inr d))) none
theorem I.leafIn_L2_run (x0 : List Int) (x1 : Int) (n : Nat) (s_ : Int) (k : X → St → R) : I.leafIn_L2 n { n := 26, t := [(0, (.ro false (.ints .i64 x0))), (1, (.int .i64 x1)), (5, (.int .i64 s_))], h := [] } k = optC (I.leafIn_run2 x0 x1 n s_) (fun (r : (Int) ⊕ (Unit)) => (sumC r (fun (r : Int) => k (.ret) { n := 26, t := [(4, (.int .i64 r))], h := [] }) (fun (r : Unit) => k (.exit 0) { n := 26, t := [(4, .junk)], h := [] }))) none := by
  induction n generalizing s_ with
  | zero => rfl
  | succ n ih =>
    have hu : I.leafIn_L2 (n + 1) { n := 26, t := [(0, (.ro false (.ints .i64 x0))), (1, (.int .i64 x1)), (5, (.int .i64 s_))], h := [] } k = I.leafIn_step2 x0 x1 s_ (fun s_ => I.leafIn_L2 n { n := 26, t := [(0, (.ro false (.ints .i64 x0))), (1, (.int .i64 x1)), (5, (.int .i64 s_))], h := [] } k) (fun d => k (.ret) { n := 26, t := [(4, (.int .i64 d))], h := [] }) (fun d => k (.exit 0) { n := 26, t := [(4, .junk)], h := [] }) none := by
      kernel_rfl
    have hs : (fun s_ : Int => I.leafIn_L2 n { n := 26, t := [(0, (.ro false (.ints .i64 x0))), (1, (.int .i64 x1)), (5, (.int .i64 s_))], h := [] } k) = fun s_ => optC (I.leafIn_run2 x0 x1 n s_) (fun (r : (Int) ⊕ (Unit)) => (sumC r (fun (r : Int) => k (.ret) { n := 26, t := [(4, (.int .i64 r))], h := [] }) (fun (r : Unit) => k (.exit 0) { n := 26, t := [(4, .junk)], h := [] }))) none := funext ih
    rw [hu, hs]
    exact (I.leafIn_step2_nat (fun o => optC o (fun (r : (Int) ⊕ (Unit)) => (sumC r (fun (r : Int) => k (.ret) { n := 26, t := [(4, (.int .i64 r))], h := [] }) (fun (r : Unit) => k (.exit 0) { n := 26, t := [(4, .junk)], h := [] }))) none) x0 x1 s_ (I.leafIn_run2 x0 x1 n) (fun d => some ((Sum.inl d))) (fun d => some ((Sum.inr d))) none).symm
noncomputable def I.leafIn_tree {α : Type} (net : List Int) (set_ : Int) (leaf0_ : Int → α) (fail_ : α) : α :=
  (optC (I.leafIn_run2 net set_ FUEL 0) (fun qy_3 => (sumC qy_3 (fun (qy_3 : Int) => (leaf0_ qy_3)) (fun (qy_3 : Unit) => (leaf0_ (-1))))) fail_)
theorem I.leafIn_tree_nat {α γ : Type} (g : α → γ) (net : List Int) (set_ : Int) (leaf0_ : Int → α) (fail_ : α) : g (I.leafIn_tree net set_ leaf0_ fail_) = I.leafIn_tree net set_ (fun d => g (leaf0_ d)) (g fail_) := by
  unfold I.leafIn_tree; simp only [apply_cnd g, apply_optC g, apply_sumC g]
noncomputable def I.leafIn_t (net : List Int) (set_ : Int) : Option (Int) := I.leafIn_tree net set_ (fun d => some d) none
theorem I.leafIn_den (net : List Int) (set_ : Int) (κ : V → List E → R) : I.leafIn_F [.ro false (.ints .i64 net), .int .i64 set_] [] κ = optC (I.leafIn_t net set_) (fun (r : Int) => κ (.int .i64 r) []) none := by
  have hu : I.leafIn_F [.ro false (.ints .i64 net), .int .i64 set_] [] κ = I.leafIn_tree net set_ (fun d => κ (.int .i64 d) []) none := by
    refine Eq.trans (show I.leafIn_F [.ro false (.ints .i64 net), .int .i64 set_] [] κ = (I.leafIn_L2 FUEL { n := 26, t := [(0, (.ro false (.ints .i64 net))), (1, (.int .i64 set_)), (5, (.int .i64 0))], h := [] } (I.leafIn_k2 κ)) by kernel_rfl) ?_
    refine (I.leafIn_L2_run net set_ FUEL 0 (I.leafIn_k2 κ)).trans (optC_congr (fun qy_3 => ?_))
    rcases qy_3 with qy_3 | qy_3
    · kernel_rfl
    · kernel_rfl
  rw [hu]
  exact (I.leafIn_tree_nat (fun o => optC o (fun (r : Int) => κ (.int .i64 r) []) none) net set_ (fun d => some d) none).symm
noncomputable def I.leafIn_s : D.Spec where
  keep := false
  pure := true
  add := true
  ds := [.int .i64, .invalid]
  sp := fun args h κ => match args, h with
    | [.ro false (.ints .i64 net), .int .i64 set_], [] => optC (I.leafIn_t net set_) (fun (r : Int) => κ (.int .i64 r) []) none
    | _, _ => none
theorem I.leafIn_ok : SpecOk Try.prog 57 I.leafIn_s := by
  refine SpecOk.of TDok mixed (T := I.leafIn_T) ?_ (ann := I.leafIn_ann) Try.func57 rfl (by decide +kernel) ?_ ?_ ?_ ?_
  · intro p hp
    simp only [I.leafIn_T, List.mem_cons, List.not_mem_nil, or_false] at hp
    rcases hp with rfl | rfl
    · exact I.hasPlace_ok
    · exact I.sizeOf_ok
  · intro args h κ r hh
    simp only [I.leafIn_s] at hh
    split at hh
    · exact (I.leafIn_den _ _ κ).trans hh
    · cases hh
  · intro args h κ r hh
    simp only [I.leafIn_s] at hh ⊢
    split at hh
    · exact optC_law2 (F := fun (r : Int) κ => κ (.int .i64 r) []) (fun b κ r hb => ⟨_, _, hb, fun _ => rfl⟩) hh
    · cases hh
  · intro _ args h κ r hh
    simp only [I.leafIn_s] at hh
    split at hh
    · exact ⟨rfl, fun _ => rfl⟩
    · cases hh
  · intro _ args h κ r hh
    simp only [I.leafIn_s] at hh
    split at hh
    · rfl
    · cases hh

-- loop.example/guardsonnets/impl.prunedIn
noncomputable def I.prunedIn_T : List (Nat × D.Spec) := [(34, I.allOf_s), (57, I.leafIn_s), (58, I.without_s)]
def I.prunedIn_ann : Nat → List Nat × List Nat
  | 3 => ([0, 3, 4], [3])
  | _ => ([], [])
noncomputable def I.prunedIn_F (args : List V) (h : List E) (κ : V → List E → R) : R := funC TD (tableK I.prunedIn_T) I.prunedIn_ann (drawOk TD (tableP I.prunedIn_T)) FUEL Try.f40 args h κ
noncomputable def I.prunedIn_L3 (n : Nat) (σ : St) (k : X → St → R) : R := iterC 0 (fun σ k => denC TD (tableK I.prunedIn_T) I.prunedIn_ann (drawOk TD (tableP I.prunedIn_T)) 0 FUEL ((findLoop 3 (Try.f40.body.getD .skip)).getD .skip) σ k) [0, 3, 4] [3] n σ k
noncomputable def I.prunedIn_k3 (κ : V → List E → R) : X → St → R := (afterC TD (tableK I.prunedIn_T) I.prunedIn_ann (drawOk TD (tableP I.prunedIn_T)) 0 FUEL 3 (Try.f40.body.getD .skip) (finC TD 0 Try.f40 κ)).getD (fun _ _ => none)
noncomputable def I.prunedIn_step3 {α : Type} (x0 : List Int) (x3 : Int) (x4 : Int) (next_ : Int × Int → α) (out0_ : Int → α) (fail_ : α) : α :=
  (bif decide (x4 ≥ 0) then (optC (I.without_t x3 x4) (fun c_3 => (optC (I.leafIn_t x0 c_3) (fun c_4 => (next_ (c_3, c_4))) fail_)) fail_) else (out0_ x3))
theorem I.prunedIn_step3_nat {α γ : Type} (g : α → γ) (x0 : List Int) (x3 : Int) (x4 : Int) (next_ : Int × Int → α) (out0_ : Int → α) (fail_ : α) : g (I.prunedIn_step3 x0 x3 x4 next_ out0_ fail_) = I.prunedIn_step3 x0 x3 x4 (fun s => g (next_ s)) (fun d => g (out0_ d)) (g fail_) := by
  unfold I.prunedIn_step3; simp only [apply_cnd g, apply_optC g, apply_sumC g]
noncomputable def I.prunedIn_run3 (x0 : List Int) : Nat → Int × Int → Option (Int)
  | 0, _ => none
  | n + 1, s_ => I.prunedIn_step3 x0 s_.1 s_.2 (I.prunedIn_run3 x0 n) (fun d => some d) none
theorem I.prunedIn_L3_run (x0 : List Int) (n : Nat) (s_ : Int × Int) (k : X → St → R) : I.prunedIn_L3 n { n := 19, t := [(0, (.ro false (.ints .i64 x0))), (3, (.int .i64 s_.1)), (4, (.int .i64 s_.2))], h := [] } k = optC (I.prunedIn_run3 x0 n s_) (fun (r : Int) => k (.exit 0) { n := 19, t := [(3, (.int .i64 r))], h := [] }) none := by
  induction n generalizing s_ with
  | zero => rfl
  | succ n ih =>
    have hu : I.prunedIn_L3 (n + 1) { n := 19, t := [(0, (.ro false (.ints .i64 x0))), (3, (.int .i64 s_.1)), (4, (.int .i64 s_.2))], h := [] } k = I.prunedIn_step3 x0 s_.1 s_.2 (fun s_ => I.prunedIn_L3 n { n := 19, t := [(0, (.ro false (.ints .i64 x0))), (3, (.int .i64 s_.1)), (4, (.int .i64 s_.2))], h := [] } k) (fun d => k (.exit 0) { n := 19, t := [(3, (.int .i64 d))], h := [] }) none := by
      kernel_rfl
    have hs : (fun s_ : Int × Int => I.prunedIn_L3 n { n := 19, t := [(0, (.ro false (.ints .i64 x0))), (3, (.int .i64 s_.1)), (4, (.int .i64 s_.2))], h := [] } k) = fun s_ => optC (I.prunedIn_run3 x0 n s_) (fun (r : Int) => k (.exit 0) { n := 19, t := [(3, (.int .i64 r))], h := [] }) none := funext ih
    rw [hu, hs]
    exact (I.prunedIn_step3_nat (fun o => optC o (fun (r : Int) => k (.exit 0) { n := 19, t := [(3, (.int .i64 r))], h := [] }) none) x0 s_.1 s_.2 (I.prunedIn_run3 x0 n) (fun d => some d) none).symm
noncomputable def I.prunedIn_tree {α : Type} (net : List Int) (leaf0_ : Int → α) (fail_ : α) : α :=
  (optC (I.allOf_t net) (fun c_1 => (optC (I.leafIn_t net c_1) (fun c_2 => (optC (I.prunedIn_run3 net FUEL (c_1, c_2)) (fun qy_5 => (leaf0_ qy_5)) fail_)) fail_)) fail_)
theorem I.prunedIn_tree_nat {α γ : Type} (g : α → γ) (net : List Int) (leaf0_ : Int → α) (fail_ : α) : g (I.prunedIn_tree net leaf0_ fail_) = I.prunedIn_tree net (fun d => g (leaf0_ d)) (g fail_) := by
  unfold I.prunedIn_tree; simp only [apply_cnd g, apply_optC g, apply_sumC g]
noncomputable def I.prunedIn_t (net : List Int) : Option (Int) := I.prunedIn_tree net (fun d => some d) none
theorem I.prunedIn_den (net : List Int) (κ : V → List E → R) : I.prunedIn_F [.ro false (.ints .i64 net)] [] κ = optC (I.prunedIn_t net) (fun (r : Int) => κ (.int .i64 r) []) none := by
  have hu : I.prunedIn_F [.ro false (.ints .i64 net)] [] κ = I.prunedIn_tree net (fun d => κ (.int .i64 d) []) none := by
    refine Eq.trans (show I.prunedIn_F [.ro false (.ints .i64 net)] [] κ = (optC (I.allOf_t net) (fun c_1 => (optC (I.leafIn_t net c_1) (fun c_2 => (I.prunedIn_L3 FUEL { n := 19, t := [(0, (.ro false (.ints .i64 net))), (3, (.int .i64 c_1)), (4, (.int .i64 c_2))], h := [] } (I.prunedIn_k3 κ))) none)) none) by kernel_rfl) ?_
    refine optC_congr (fun c_1 => ?_)
    refine optC_congr (fun c_2 => ?_)
    refine (I.prunedIn_L3_run net FUEL (c_1, c_2) (I.prunedIn_k3 κ)).trans (optC_congr (fun qy_5 => ?_))
    kernel_rfl
  rw [hu]
  exact (I.prunedIn_tree_nat (fun o => optC o (fun (r : Int) => κ (.int .i64 r) []) none) net (fun d => some d) none).symm
noncomputable def I.prunedIn_s : D.Spec where
  keep := false
  pure := true
  add := true
  ds := [.int .i64]
  sp := fun args h κ => match args, h with
    | [.ro false (.ints .i64 net)], [] => optC (I.prunedIn_t net) (fun (r : Int) => κ (.int .i64 r) []) none
    | _, _ => none
theorem I.prunedIn_ok : SpecOk Try.prog 40 I.prunedIn_s := by
  refine SpecOk.of TDok mixed (T := I.prunedIn_T) ?_ (ann := I.prunedIn_ann) Try.func40 rfl (by decide +kernel) ?_ ?_ ?_ ?_
  · intro p hp
    simp only [I.prunedIn_T, List.mem_cons, List.not_mem_nil, or_false] at hp
    rcases hp with rfl | rfl | rfl
    · exact I.allOf_ok
    · exact I.leafIn_ok
    · exact I.without_ok
  · intro args h κ r hh
    simp only [I.prunedIn_s] at hh
    split at hh
    · exact (I.prunedIn_den _ κ).trans hh
    · cases hh
  · intro args h κ r hh
    simp only [I.prunedIn_s] at hh ⊢
    split at hh
    · exact optC_law2 (F := fun (r : Int) κ => κ (.int .i64 r) []) (fun b κ r hb => ⟨_, _, hb, fun _ => rfl⟩) hh
    · cases hh
  · intro _ args h κ r hh
    simp only [I.prunedIn_s] at hh
    split at hh
    · exact ⟨rfl, fun _ => rfl⟩
    · cases hh
  · intro _ args h κ r hh
    simp only [I.prunedIn_s] at hh
    split at hh
    · rfl
    · cases hh

-- loop.example/guardsonnets/impl.ForestOk
noncomputable def I.ForestOk_T : List (Nat × D.Spec) := [(10, I.NetOk_s), (40, I.prunedIn_s)]
def I.ForestOk_ann : Nat → List Nat × List Nat
  | _ => ([], [])
noncomputable def I.ForestOk_F (args : List V) (h : List E) (κ : V → List E → R) : R := funC TD (tableK I.ForestOk_T) I.ForestOk_ann (drawOk TD (tableP I.ForestOk_T)) FUEL Try.f15 args h κ
noncomputable def I.ForestOk_tree {α : Type} (net : List Int) (leaf0_ : Bool → α) (fail_ : α) : α :=
  (optC (I.NetOk_t net) (fun c_1 => (bif c_1 then (optC (I.prunedIn_t net) (fun c_2 => (leaf0_ (c_2 == 0))) fail_) else (leaf0_ false))) fail_)
theorem I.ForestOk_tree_nat {α γ : Type} (g : α → γ) (net : List Int) (leaf0_ : Bool → α) (fail_ : α) : g (I.ForestOk_tree net leaf0_ fail_) = I.ForestOk_tree net (fun d => g (leaf0_ d)) (g fail_) := by
  unfold I.ForestOk_tree; simp only [apply_cnd g, apply_optC g, apply_sumC g]
noncomputable def I.ForestOk_t (net : List Int) : Option (Bool) := I.ForestOk_tree net (fun d => some d) none
theorem I.ForestOk_den (net : List Int) (κ : V → List E → R) : I.ForestOk_F [.ro false (.ints .i64 net)] [] κ = optC (I.ForestOk_t net) (fun (r : Bool) => κ (.bool r) []) none := by
  have hu : I.ForestOk_F [.ro false (.ints .i64 net)] [] κ = I.ForestOk_tree net (fun d => κ (.bool d) []) none := by
    kernel_rfl
  rw [hu]
  exact (I.ForestOk_tree_nat (fun o => optC o (fun (r : Bool) => κ (.bool r) []) none) net (fun d => some d) none).symm
noncomputable def I.ForestOk_s : D.Spec where
  keep := false
  pure := true
  add := true
  ds := [.int .i64]
  sp := fun args h κ => match args, h with
    | [.ro false (.ints .i64 net)], [] => optC (I.ForestOk_t net) (fun (r : Bool) => κ (.bool r) []) none
    | _, _ => none
theorem I.ForestOk_ok : SpecOk Try.prog 15 I.ForestOk_s := by
  refine SpecOk.of TDok mixed (T := I.ForestOk_T) ?_ (ann := I.ForestOk_ann) Try.func15 rfl (by decide +kernel) ?_ ?_ ?_ ?_
  · intro p hp
    simp only [I.ForestOk_T, List.mem_cons, List.not_mem_nil, or_false] at hp
    rcases hp with rfl | rfl
    · exact I.NetOk_ok
    · exact I.prunedIn_ok
  · intro args h κ r hh
    simp only [I.ForestOk_s] at hh
    split at hh
    · exact (I.ForestOk_den _ κ).trans hh
    · cases hh
  · intro args h κ r hh
    simp only [I.ForestOk_s] at hh ⊢
    split at hh
    · exact optC_law2 (F := fun (r : Bool) κ => κ (.bool r) []) (fun b κ r hb => ⟨_, _, hb, fun _ => rfl⟩) hh
    · cases hh
  · intro _ args h κ r hh
    simp only [I.ForestOk_s] at hh
    split at hh
    · exact ⟨rfl, fun _ => rfl⟩
    · cases hh
  · intro _ args h κ r hh
    simp only [I.ForestOk_s] at hh
    split at hh
    · rfl
    · cases hh

-- loop.example/guardsonnets/laws.FnFewestCliques
noncomputable def L.FnFewestCliques_T : List (Nat × D.Spec) := [(7, S.DrawFewestCliques_s), (8, I.FewestCliques_s), (9, S.FewestCliques_s), (10, I.NetOk_s), (11, L.alive_s), (12, I.MostApart_s), (13, I.FewestEternal_s), (14, I.MostClique_s), (15, I.ForestOk_s)]
def L.FnFewestCliques_ann : Nat → List Nat × List Nat
  | _ => ([], [])
noncomputable def L.FnFewestCliques_F (args : List V) (h : List E) (κ : V → List E → R) : R := funC TD (tableK L.FnFewestCliques_T) L.FnFewestCliques_ann (drawOk TD (tableP L.FnFewestCliques_T)) FUEL Try.f3 args h κ
noncomputable def L.FnFewestCliques_tree {α : Type} (code : List Int) (leaf0_ : Bool → α) (fail_ : α) : α :=
  (bif decide ((↑code.length : Int) > 1048576) then (leaf0_ true) else (optC (S.DrawFewestCliques_t code) (fun c_1 => (optC (I.FewestCliques_t c_1) (fun c_2 => (optC (S.FewestCliques_t c_1) (fun c_3 => (bif !c_2 == c_3 then (leaf0_ false) else (bif decide (c_2 < 0) then (bif c_2 == -1 then (optC (I.NetOk_t c_1) (fun c_4 => (bif !c_4 then (optC (L.alive_t) (fun c_5 => (leaf0_ c_5)) fail_) else (leaf0_ false))) fail_) else (leaf0_ false)) else (optC (I.MostApart_t c_1) (fun c_6 => (bif decide (c_2 ≥ c_6) then (optC (I.FewestEternal_t c_1) (fun c_7 => (bif decide (c_2 ≥ c_7) then (optC (I.MostClique_t c_1) (fun c_8 => (bif decide (IntKind.i64.wrap (c_2 * c_8) ≥ (↑c_1.length : Int)) then (optC (I.ForestOk_t c_1) (fun c_9 => (bif !c_9 then (leaf0_ true) else (optC (I.MostApart_t c_1) (fun c_10 => (leaf0_ (c_2 == c_10))) fail_))) fail_) else (leaf0_ false))) fail_) else (leaf0_ false))) fail_) else (leaf0_ false))) fail_)))) fail_)) fail_)) fail_))
theorem L.FnFewestCliques_tree_nat {α γ : Type} (g : α → γ) (code : List Int) (leaf0_ : Bool → α) (fail_ : α) : g (L.FnFewestCliques_tree code leaf0_ fail_) = L.FnFewestCliques_tree code (fun d => g (leaf0_ d)) (g fail_) := by
  unfold L.FnFewestCliques_tree; simp only [apply_cnd g, apply_optC g, apply_sumC g]
noncomputable def L.FnFewestCliques_t (code : List Int) : Option (Bool) := L.FnFewestCliques_tree code (fun d => some d) none
theorem L.FnFewestCliques_den (code : List Int) (κ : V → List E → R) : L.FnFewestCliques_F [.ro true (.ints .u8 code)] [] κ = optC (L.FnFewestCliques_t code) (fun (r : Bool) => κ (.bool r) []) none := by
  have hu : L.FnFewestCliques_F [.ro true (.ints .u8 code)] [] κ = L.FnFewestCliques_tree code (fun d => κ (.bool d) []) none := by
    kernel_rfl
  rw [hu]
  exact (L.FnFewestCliques_tree_nat (fun o => optC o (fun (r : Bool) => κ (.bool r) []) none) code (fun d => some d) none).symm
noncomputable def L.FnFewestCliques_s : D.Spec where
  keep := true
  pure := true
  add := true
  ds := [.int .u8]
  sp := fun args h κ => match args, h with
    | [.ro true (.ints .u8 code)], [] => optC (L.FnFewestCliques_t code) (fun (r : Bool) => κ (.bool r) []) none
    | _, _ => none
theorem L.FnFewestCliques_ok : SpecOk Try.prog 3 L.FnFewestCliques_s := by
  refine SpecOk.of TDok mixed (T := L.FnFewestCliques_T) ?_ (ann := L.FnFewestCliques_ann) Try.func3 rfl (by decide +kernel) ?_ ?_ ?_ ?_
  · intro p hp
    simp only [L.FnFewestCliques_T, List.mem_cons, List.not_mem_nil, or_false] at hp
    rcases hp with rfl | rfl | rfl | rfl | rfl | rfl | rfl | rfl | rfl
    · exact S.DrawFewestCliques_ok
    · exact I.FewestCliques_ok
    · exact S.FewestCliques_ok
    · exact I.NetOk_ok
    · exact L.alive_ok
    · exact I.MostApart_ok
    · exact I.FewestEternal_ok
    · exact I.MostClique_ok
    · exact I.ForestOk_ok
  · intro args h κ r hh
    simp only [L.FnFewestCliques_s] at hh
    split at hh
    · exact (L.FnFewestCliques_den _ κ).trans hh
    · cases hh
  · intro args h κ r hh
    simp only [L.FnFewestCliques_s] at hh ⊢
    split at hh
    · exact optC_law2 (F := fun (r : Bool) κ => κ (.bool r) []) (fun b κ r hb => ⟨_, _, hb, fun _ => rfl⟩) hh
    · cases hh
  · intro _ args h κ r hh
    simp only [L.FnFewestCliques_s] at hh
    split at hh
    · exact ⟨rfl, fun _ => rfl⟩
    · cases hh
  · intro _ args h κ r hh
    simp only [L.FnFewestCliques_s] at hh
    split at hh
    · rfl
    · cases hh

-- loop.example/guardsonnets/laws.toIntS
noncomputable def L.toIntS_T : List (Nat × D.Spec) := []
def L.toIntS_ann : Nat → List Nat × List Nat
  | 3 => ([0, 3, 4], [3])
  | _ => ([], [])
noncomputable def L.toIntS_F (args : List V) (h : List E) (κ : V → List E → R) : R := funC TD (tableK L.toIntS_T) L.toIntS_ann (drawOk TD (tableP L.toIntS_T)) FUEL Try.f16 args h κ
noncomputable def L.toIntS_L3 (n : Nat) (σ : St) (k : X → St → R) : R := iterC 0 (fun σ k => denC TD (tableK L.toIntS_T) L.toIntS_ann (drawOk TD (tableP L.toIntS_T)) 0 FUEL ((findLoop 3 (Try.f16.body.getD .skip)).getD .skip) σ k) [0, 3, 4] [3] n σ k
noncomputable def L.toIntS_k3 (κ : V → List E → R) : X → St → R := (afterC TD (tableK L.toIntS_T) L.toIntS_ann (drawOk TD (tableP L.toIntS_T)) 0 FUEL 3 (Try.f16.body.getD .skip) (finC TD 0 Try.f16 κ)).getD (fun _ _ => none)
noncomputable def L.toIntS_step3 {α : Type} (x0 : List Int) (x4 : Int) (r0 : List Int) (next_ : Int × (List Int) → α) (out0_ : List Int → α) (fail_ : α) : α :=
  (bif decide (x4 < (↑x0.length : Int)) then (bif decide (0 ≤ x4) && decide (x4 < (↑x0.length : Int)) then (bif decide (0 ≤ x4) && decide (x4 < (↑r0.length : Int)) then (bif decide (x4.toNat < r0.length) then (next_ (IntKind.i64.wrap (x4 + 1), r0.set x4.toNat (eli x0 x4.toNat))) else fail_) else fail_) else fail_) else (out0_ r0))
theorem L.toIntS_step3_nat {α γ : Type} (g : α → γ) (x0 : List Int) (x4 : Int) (r0 : List Int) (next_ : Int × (List Int) → α) (out0_ : List Int → α) (fail_ : α) : g (L.toIntS_step3 x0 x4 r0 next_ out0_ fail_) = L.toIntS_step3 x0 x4 r0 (fun s => g (next_ s)) (fun d => g (out0_ d)) (g fail_) := by
  unfold L.toIntS_step3; simp only [apply_cnd g, apply_optC g, apply_sumC g]
noncomputable def L.toIntS_run3 (x0 : List Int) : Nat → Int × (List Int) → Option (List Int)
  | 0, _ => none
  | n + 1, s_ => L.toIntS_step3 x0 s_.1 s_.2 (L.toIntS_run3 x0 n) (fun d => some d) none
theorem L.toIntS_L3_run (x0 : List Int) (n : Nat) (s_ : Int × (List Int)) (k : X → St → R) : L.toIntS_L3 n { n := 22, t := [(0, (.ro false (.ints .i64 x0))), (3, (.own 0)), (4, (.int .i64 s_.1))], h := [.row (.ints .i64 s_.2)] } k = optC (L.toIntS_run3 x0 n s_) (fun (r : List Int) => k (.exit 0) { n := 22, t := [(3, (.own 0))], h := [.row (.ints .i64 r)] }) none := by
  induction n generalizing s_ with
  | zero => rfl
  | succ n ih =>
    have hu : L.toIntS_L3 (n + 1) { n := 22, t := [(0, (.ro false (.ints .i64 x0))), (3, (.own 0)), (4, (.int .i64 s_.1))], h := [.row (.ints .i64 s_.2)] } k = L.toIntS_step3 x0 s_.1 s_.2 (fun s_ => L.toIntS_L3 n { n := 22, t := [(0, (.ro false (.ints .i64 x0))), (3, (.own 0)), (4, (.int .i64 s_.1))], h := [.row (.ints .i64 s_.2)] } k) (fun d => k (.exit 0) { n := 22, t := [(3, (.own 0))], h := [.row (.ints .i64 d)] }) none := by
      kernel_rfl
    have hs : (fun s_ : Int × (List Int) => L.toIntS_L3 n { n := 22, t := [(0, (.ro false (.ints .i64 x0))), (3, (.own 0)), (4, (.int .i64 s_.1))], h := [.row (.ints .i64 s_.2)] } k) = fun s_ => optC (L.toIntS_run3 x0 n s_) (fun (r : List Int) => k (.exit 0) { n := 22, t := [(3, (.own 0))], h := [.row (.ints .i64 r)] }) none := funext ih
    rw [hu, hs]
    exact (L.toIntS_step3_nat (fun o => optC o (fun (r : List Int) => k (.exit 0) { n := 22, t := [(3, (.own 0))], h := [.row (.ints .i64 r)] }) none) x0 s_.1 s_.2 (L.toIntS_run3 x0 n) (fun d => some d) none).symm
noncomputable def L.toIntS_tree {α : Type} (a : List Int) (leaf0_ : List Int → α) (fail_ : α) : α :=
  (bif small (↑a.length : Int).toNat && true then (optC (L.toIntS_run3 a FUEL (0, List.replicate (↑a.length : Int).toNat 0)) (fun qy_1 => (leaf0_ qy_1)) fail_) else fail_)
theorem L.toIntS_tree_nat {α γ : Type} (g : α → γ) (a : List Int) (leaf0_ : List Int → α) (fail_ : α) : g (L.toIntS_tree a leaf0_ fail_) = L.toIntS_tree a (fun d => g (leaf0_ d)) (g fail_) := by
  unfold L.toIntS_tree; simp only [apply_cnd g, apply_optC g, apply_sumC g]
noncomputable def L.toIntS_t (a : List Int) : Option (List Int) := L.toIntS_tree a (fun d => some d) none
theorem L.toIntS_den (a : List Int) (κ : V → List E → R) : L.toIntS_F [.ro false (.ints .i64 a)] [] κ = optC (L.toIntS_t a) (fun (r : List Int) => κ (.own 0) [.row (.ints .i64 r)]) none := by
  have hu : L.toIntS_F [.ro false (.ints .i64 a)] [] κ = L.toIntS_tree a (fun d => κ (.own 0) [.row (.ints .i64 d)]) none := by
    refine Eq.trans (show L.toIntS_F [.ro false (.ints .i64 a)] [] κ = (bif small (↑a.length : Int).toNat && true then (L.toIntS_L3 FUEL { n := 22, t := [(0, (.ro false (.ints .i64 a))), (3, (.own 0)), (4, (.int .i64 0))], h := [.row (.ints .i64 (List.replicate (↑a.length : Int).toNat 0))] } (L.toIntS_k3 κ)) else none) by kernel_rfl) ?_
    refine cnd_congr ?_ ?_
    · refine (L.toIntS_L3_run a FUEL (0, List.replicate (↑a.length : Int).toNat 0) (L.toIntS_k3 κ)).trans (optC_congr (fun qy_1 => ?_))
      kernel_rfl
    · kernel_rfl
  rw [hu]
  exact (L.toIntS_tree_nat (fun o => optC o (fun (r : List Int) => κ (.own 0) [.row (.ints .i64 r)]) none) a (fun d => some d) none).symm
noncomputable def L.toIntS_s : D.Spec where
  keep := false
  pure := false
  add := true
  ds := [.int .i64]
  sp := fun args h κ => match args, h with
    | [.ro false (.ints .i64 a)], [] => optC (L.toIntS_t a) (fun (r : List Int) => κ (.own 0) [.row (.ints .i64 r)]) none
    | _, _ => none
theorem L.toIntS_ok : SpecOk Try.prog 16 L.toIntS_s := by
  refine SpecOk.of TDok mixed (T := L.toIntS_T) ?_ (ann := L.toIntS_ann) Try.func16 rfl (by decide +kernel) ?_ ?_ ?_ ?_
  · intro p hp; cases hp
  · intro args h κ r hh
    simp only [L.toIntS_s] at hh
    split at hh
    · exact (L.toIntS_den _ κ).trans hh
    · cases hh
  · intro args h κ r hh
    simp only [L.toIntS_s] at hh ⊢
    split at hh
    · exact optC_law2 (F := fun (r : List Int) κ => κ (.own 0) [.row (.ints .i64 r)]) (fun b κ r hb => ⟨_, _, hb, fun _ => rfl⟩) hh
    · cases hh
  · intro hh; cases hh
  · intro _ args h κ r hh
    simp only [L.toIntS_s] at hh
    split at hh
    · rfl
    · cases hh

-- loop.example/guardsonnets/laws.eqIntS
noncomputable def L.eqIntS_T : List (Nat × D.Spec) := []
def L.eqIntS_ann : Nat → List Nat × List Nat
  | 4 => ([0, 1, 5], [4])
  | _ => ([], [])
noncomputable def L.eqIntS_F (args : List V) (h : List E) (κ : V → List E → R) : R := funC TD (tableK L.eqIntS_T) L.eqIntS_ann (drawOk TD (tableP L.eqIntS_T)) FUEL Try.f17 args h κ
noncomputable def L.eqIntS_L4 (n : Nat) (σ : St) (k : X → St → R) : R := iterC 0 (fun σ k => denC TD (tableK L.eqIntS_T) L.eqIntS_ann (drawOk TD (tableP L.eqIntS_T)) 0 FUEL ((findLoop 4 (Try.f17.body.getD .skip)).getD .skip) σ k) [0, 1, 5] [4] n σ k
noncomputable def L.eqIntS_k4 (κ : V → List E → R) : X → St → R := (afterC TD (tableK L.eqIntS_T) L.eqIntS_ann (drawOk TD (tableP L.eqIntS_T)) 0 FUEL 4 (Try.f17.body.getD .skip) (finC TD 0 Try.f17 κ)).getD (fun _ _ => none)
noncomputable def L.eqIntS_step4 {α : Type} (x0 : List Int) (x1 : List Int) (x5 : Int) (next_ : Int → α) (out0_ : Bool → α) (out1_ : Unit → α) (fail_ : α) : α :=
  (bif decide (x5 < (↑x0.length : Int)) then (bif decide (0 ≤ x5) && decide (x5 < (↑x0.length : Int)) then (bif decide (0 ≤ x5) && decide (x5 < (↑x1.length : Int)) then (bif !eli x0 x5.toNat == eli x1 x5.toNat then (out0_ false) else (next_ (IntKind.i64.wrap (x5 + 1)))) else fail_) else fail_) else (out1_ ()))
theorem L.eqIntS_step4_nat {α γ : Type} (g : α → γ) (x0 : List Int) (x1 : List Int) (x5 : Int) (next_ : Int → α) (out0_ : Bool → α) (out1_ : Unit → α) (fail_ : α) : g (L.eqIntS_step4 x0 x1 x5 next_ out0_ out1_ fail_) = L.eqIntS_step4 x0 x1 x5 (fun s => g (next_ s)) (fun d => g (out0_ d)) (fun d => g (out1_ d)) (g fail_) := by
  unfold L.eqIntS_step4; simp only [apply_cnd g, apply_optC g, apply_sumC g]
noncomputable def L.eqIntS_run4 (x0 : List Int) (x1 : List Int) : Nat → Int → Option ((Bool) ⊕ (Unit))
  | 0, _ => none
  | n + 1, s_ => L.eqIntS_step4 x0 x1 s_ (L.eqIntS_run4 x0 x1 n) (fun d => some ((Sum.inl d))) (fun d => some ((Sum.inr d))) none
theorem L.eqIntS_L4_run (x0 : List Int) (x1 : List Int) (n : Nat) (s_ : Int) (k : X → St → R) : L.eqIntS_L4 n { n := 26, t := [(0, (.ro false (.ints .i64 x0))), (1, (.ro false (.ints .i64 x1))), (5, (.int .i64 s_))], h := [] } k = optC (L.eqIntS_run4 x0 x1 n s_) (fun (r : (Bool) ⊕ (Unit)) => (sumC r (fun (r : Bool) => k (.ret) { n := 26, t := [(4, (.bool r))], h := [] }) (fun (r : Unit) => k (.exit 0) { n := 26, t := [(4, .junk)], h := [] }))) none := by
  induction n generalizing s_ with
  | zero => rfl
  | succ n ih =>
    have hu : L.eqIntS_L4 (n + 1) { n := 26, t := [(0, (.ro false (.ints .i64 x0))), (1, (.ro false (.ints .i64 x1))), (5, (.int .i64 s_))], h := [] } k = L.eqIntS_step4 x0 x1 s_ (fun s_ => L.eqIntS_L4 n { n := 26, t := [(0, (.ro false (.ints .i64 x0))), (1, (.ro false (.ints .i64 x1))), (5, (.int .i64 s_))], h := [] } k) (fun d => k (.ret) { n := 26, t := [(4, (.bool d))], h := [] }) (fun d => k (.exit 0) { n := 26, t := [(4, .junk)], h := [] }) none := by
      kernel_rfl
    have hs : (fun s_ : Int => L.eqIntS_L4 n { n := 26, t := [(0, (.ro false (.ints .i64 x0))), (1, (.ro false (.ints .i64 x1))), (5, (.int .i64 s_))], h := [] } k) = fun s_ => optC (L.eqIntS_run4 x0 x1 n s_) (fun (r : (Bool) ⊕ (Unit)) => (sumC r (fun (r : Bool) => k (.ret) { n := 26, t := [(4, (.bool r))], h := [] }) (fun (r : Unit) => k (.exit 0) { n := 26, t := [(4, .junk)], h := [] }))) none := funext ih
    rw [hu, hs]
    exact (L.eqIntS_step4_nat (fun o => optC o (fun (r : (Bool) ⊕ (Unit)) => (sumC r (fun (r : Bool) => k (.ret) { n := 26, t := [(4, (.bool r))], h := [] }) (fun (r : Unit) => k (.exit 0) { n := 26, t := [(4, .junk)], h := [] }))) none) x0 x1 s_ (L.eqIntS_run4 x0 x1 n) (fun d => some ((Sum.inl d))) (fun d => some ((Sum.inr d))) none).symm
noncomputable def L.eqIntS_tree {α : Type} (a : List Int) (b_ : List Int) (leaf0_ : Bool → α) (fail_ : α) : α :=
  (bif !(↑a.length : Int) == (↑b_.length : Int) then (leaf0_ false) else (optC (L.eqIntS_run4 a b_ FUEL 0) (fun qy_1 => (sumC qy_1 (fun (qy_1 : Bool) => (leaf0_ qy_1)) (fun (qy_1 : Unit) => (leaf0_ true)))) fail_))
theorem L.eqIntS_tree_nat {α γ : Type} (g : α → γ) (a : List Int) (b_ : List Int) (leaf0_ : Bool → α) (fail_ : α) : g (L.eqIntS_tree a b_ leaf0_ fail_) = L.eqIntS_tree a b_ (fun d => g (leaf0_ d)) (g fail_) := by
  unfold L.eqIntS_tree; simp only [apply_cnd g, apply_optC g, apply_sumC g]
noncomputable def L.eqIntS_t (a : List Int) (b_ : List Int) : Option (Bool) := L.eqIntS_tree a b_ (fun d => some d) none
theorem L.eqIntS_den (a : List Int) (b_ : List Int) (κ : V → List E → R) : L.eqIntS_F [.ro false (.ints .i64 a), .ro false (.ints .i64 b_)] [] κ = optC (L.eqIntS_t a b_) (fun (r : Bool) => κ (.bool r) []) none := by
  have hu : L.eqIntS_F [.ro false (.ints .i64 a), .ro false (.ints .i64 b_)] [] κ = L.eqIntS_tree a b_ (fun d => κ (.bool d) []) none := by
    refine Eq.trans (show L.eqIntS_F [.ro false (.ints .i64 a), .ro false (.ints .i64 b_)] [] κ = (bif !(↑a.length : Int) == (↑b_.length : Int) then (κ (.bool false) []) else (L.eqIntS_L4 FUEL { n := 26, t := [(0, (.ro false (.ints .i64 a))), (1, (.ro false (.ints .i64 b_))), (5, (.int .i64 0))], h := [] } (L.eqIntS_k4 κ))) by kernel_rfl) ?_
    refine cnd_congr ?_ ?_
    · kernel_rfl
    · refine (L.eqIntS_L4_run a b_ FUEL 0 (L.eqIntS_k4 κ)).trans (optC_congr (fun qy_1 => ?_))
      rcases qy_1 with qy_1 | qy_1
      · kernel_rfl
      · kernel_rfl
  rw [hu]
  exact (L.eqIntS_tree_nat (fun o => optC o (fun (r : Bool) => κ (.bool r) []) none) a b_ (fun d => some d) none).symm
noncomputable def L.eqIntS_s : D.Spec where
  keep := false
  pure := true
  add := true
  ds := [.int .i64, .int .i64]
  sp := fun args h κ => match args, h with
    | [.ro false (.ints .i64 a), .ro false (.ints .i64 b_)], [] => optC (L.eqIntS_t a b_) (fun (r : Bool) => κ (.bool r) []) none
    | _, _ => none
theorem L.eqIntS_ok : SpecOk Try.prog 17 L.eqIntS_s := by
  refine SpecOk.of TDok mixed (T := L.eqIntS_T) ?_ (ann := L.eqIntS_ann) Try.func17 rfl (by decide +kernel) ?_ ?_ ?_ ?_
  · intro p hp; cases hp
  · intro args h κ r hh
    simp only [L.eqIntS_s] at hh
    split at hh
    · exact (L.eqIntS_den _ _ κ).trans hh
    · cases hh
  · intro args h κ r hh
    simp only [L.eqIntS_s] at hh ⊢
    split at hh
    · exact optC_law2 (F := fun (r : Bool) κ => κ (.bool r) []) (fun b κ r hb => ⟨_, _, hb, fun _ => rfl⟩) hh
    · cases hh
  · intro _ args h κ r hh
    simp only [L.eqIntS_s] at hh
    split at hh
    · exact ⟨rfl, fun _ => rfl⟩
    · cases hh
  · intro _ args h κ r hh
    simp only [L.eqIntS_s] at hh
    split at hh
    · rfl
    · cases hh

-- loop.example/guardsonnets/laws.FnExactFewestCliques
noncomputable def L.FnExactFewestCliques_T : List (Nat × D.Spec) := [(16, L.toIntS_s), (9, S.FewestCliques_s), (8, I.FewestCliques_s), (17, L.eqIntS_s)]
def L.FnExactFewestCliques_ann : Nat → List Nat × List Nat
  | _ => ([], [])
noncomputable def L.FnExactFewestCliques_F (args : List V) (h : List E) (κ : V → List E → R) : R := funC TD (tableK L.FnExactFewestCliques_T) L.FnExactFewestCliques_ann (drawOk TD (tableP L.FnExactFewestCliques_T)) FUEL Try.f4 args h κ
noncomputable def L.FnExactFewestCliques_tree {α : Type} (aNet : List Int) (leaf0_ : Bool → α) (fail_ : α) : α :=
  (bif decide ((↑aNet.length : Int) > 1048576) then (leaf0_ true) else (optC (L.toIntS_t aNet) (fun c_1 => (optC (S.FewestCliques_t c_1) (fun c_2 => (optC (L.toIntS_t aNet) (fun c_3 => (optC (I.FewestCliques_t c_3) (fun c_4 => (bif !c_4 == c_2 then (leaf0_ false) else (optC (L.toIntS_t aNet) (fun c_5 => (optC (L.eqIntS_t c_3 c_5) (fun c_6 => (bif !c_6 then (leaf0_ false) else (leaf0_ true))) fail_)) fail_))) fail_)) fail_)) fail_)) fail_))
theorem L.FnExactFewestCliques_tree_nat {α γ : Type} (g : α → γ) (aNet : List Int) (leaf0_ : Bool → α) (fail_ : α) : g (L.FnExactFewestCliques_tree aNet leaf0_ fail_) = L.FnExactFewestCliques_tree aNet (fun d => g (leaf0_ d)) (g fail_) := by
  unfold L.FnExactFewestCliques_tree; simp only [apply_cnd g, apply_optC g, apply_sumC g]
noncomputable def L.FnExactFewestCliques_t (aNet : List Int) : Option (Bool) := L.FnExactFewestCliques_tree aNet (fun d => some d) none
theorem L.FnExactFewestCliques_den (aNet : List Int) (κ : V → List E → R) : L.FnExactFewestCliques_F [.ro true (.ints .i64 aNet)] [] κ = optC (L.FnExactFewestCliques_t aNet) (fun (r : Bool) => κ (.bool r) []) none := by
  have hu : L.FnExactFewestCliques_F [.ro true (.ints .i64 aNet)] [] κ = L.FnExactFewestCliques_tree aNet (fun d => κ (.bool d) []) none := by
    kernel_rfl
  rw [hu]
  exact (L.FnExactFewestCliques_tree_nat (fun o => optC o (fun (r : Bool) => κ (.bool r) []) none) aNet (fun d => some d) none).symm
noncomputable def L.FnExactFewestCliques_s : D.Spec where
  keep := true
  pure := true
  add := true
  ds := [.int .i64]
  sp := fun args h κ => match args, h with
    | [.ro true (.ints .i64 aNet)], [] => optC (L.FnExactFewestCliques_t aNet) (fun (r : Bool) => κ (.bool r) []) none
    | _, _ => none
theorem L.FnExactFewestCliques_ok : SpecOk Try.prog 4 L.FnExactFewestCliques_s := by
  refine SpecOk.of TDok mixed (T := L.FnExactFewestCliques_T) ?_ (ann := L.FnExactFewestCliques_ann) Try.func4 rfl (by decide +kernel) ?_ ?_ ?_ ?_
  · intro p hp
    simp only [L.FnExactFewestCliques_T, List.mem_cons, List.not_mem_nil, or_false] at hp
    rcases hp with rfl | rfl | rfl | rfl
    · exact L.toIntS_ok
    · exact S.FewestCliques_ok
    · exact I.FewestCliques_ok
    · exact L.eqIntS_ok
  · intro args h κ r hh
    simp only [L.FnExactFewestCliques_s] at hh
    split at hh
    · exact (L.FnExactFewestCliques_den _ κ).trans hh
    · cases hh
  · intro args h κ r hh
    simp only [L.FnExactFewestCliques_s] at hh ⊢
    split at hh
    · exact optC_law2 (F := fun (r : Bool) κ => κ (.bool r) []) (fun b κ r hb => ⟨_, _, hb, fun _ => rfl⟩) hh
    · cases hh
  · intro _ args h κ r hh
    simp only [L.FnExactFewestCliques_s] at hh
    split at hh
    · exact ⟨rfl, fun _ => rfl⟩
    · cases hh
  · intro _ args h κ r hh
    simp only [L.FnExactFewestCliques_s] at hh
    split at hh
    · rfl
    · cases hh

-- loop.example/guardsonnets/spec.DrawGuardRow
noncomputable def S.DrawGuardRow_T : List (Nat × D.Spec) := [(26, S.l20Open_s), (25, S.l20Net_s)]
def S.DrawGuardRow_ann : Nat → List Nat × List Nat
  | _ => ([], [])
noncomputable def S.DrawGuardRow_F (args : List V) (h : List E) (κ : V → List E → R) : R := funC TD (tableK S.DrawGuardRow_T) S.DrawGuardRow_ann (drawOk TD (tableP S.DrawGuardRow_T)) FUEL Try.f18 args h κ
noncomputable def S.DrawGuardRow_tree {α : Type} (code : List Int) (leaf0_ : List Int → α) (fail_ : α) : α :=
  (optC (S.l20Open_t code) (fun c_1 => (optC (S.l20Net_t c_1.fst c_1.snd 9) (fun c_2 => (leaf0_ c_2.snd.snd)) fail_)) fail_)
theorem S.DrawGuardRow_tree_nat {α γ : Type} (g : α → γ) (code : List Int) (leaf0_ : List Int → α) (fail_ : α) : g (S.DrawGuardRow_tree code leaf0_ fail_) = S.DrawGuardRow_tree code (fun d => g (leaf0_ d)) (g fail_) := by
  unfold S.DrawGuardRow_tree; simp only [apply_cnd g, apply_optC g, apply_sumC g]
noncomputable def S.DrawGuardRow_t (code : List Int) : Option (List Int) := S.DrawGuardRow_tree code (fun d => some d) none
theorem S.DrawGuardRow_den (code : List Int) (κ : V → List E → R) : S.DrawGuardRow_F [.ro true (.ints .u8 code)] [] κ = optC (S.DrawGuardRow_t code) (fun (r : List Int) => κ (.own 0) [.row (.ints .i64 r)]) none := by
  have hu : S.DrawGuardRow_F [.ro true (.ints .u8 code)] [] κ = S.DrawGuardRow_tree code (fun d => κ (.own 0) [.row (.ints .i64 d)]) none := by
    kernel_rfl
  rw [hu]
  exact (S.DrawGuardRow_tree_nat (fun o => optC o (fun (r : List Int) => κ (.own 0) [.row (.ints .i64 r)]) none) code (fun d => some d) none).symm
noncomputable def S.DrawGuardRow_s : D.Spec where
  keep := true
  pure := false
  add := true
  ds := [.int .u8]
  sp := fun args h κ => match args, h with
    | [.ro true (.ints .u8 code)], [] => optC (S.DrawGuardRow_t code) (fun (r : List Int) => κ (.own 0) [.row (.ints .i64 r)]) none
    | _, _ => none
theorem S.DrawGuardRow_ok : SpecOk Try.prog 18 S.DrawGuardRow_s := by
  refine SpecOk.of TDok mixed (T := S.DrawGuardRow_T) ?_ (ann := S.DrawGuardRow_ann) Try.func18 rfl (by decide +kernel) ?_ ?_ ?_ ?_
  · intro p hp
    simp only [S.DrawGuardRow_T, List.mem_cons, List.not_mem_nil, or_false] at hp
    rcases hp with rfl | rfl
    · exact S.l20Open_ok
    · exact S.l20Net_ok
  · intro args h κ r hh
    simp only [S.DrawGuardRow_s] at hh
    split at hh
    · exact (S.DrawGuardRow_den _ κ).trans hh
    · cases hh
  · intro args h κ r hh
    simp only [S.DrawGuardRow_s] at hh ⊢
    split at hh
    · exact optC_law2 (F := fun (r : List Int) κ => κ (.own 0) [.row (.ints .i64 r)]) (fun b κ r hb => ⟨_, _, hb, fun _ => rfl⟩) hh
    · cases hh
  · intro hh; cases hh
  · intro _ args h κ r hh
    simp only [S.DrawGuardRow_s] at hh
    split at hh
    · rfl
    · cases hh

-- loop.example/guardsonnets/impl.seenIn
noncomputable def I.seenIn_T : List (Nat × D.Spec) := [(32, I.hasPlace_s), (56, I.ballIn_s)]
def I.seenIn_ann : Nat → List Nat × List Nat
  | 3 => ([0, 1, 5, 6], [5])
  | _ => ([], [])
noncomputable def I.seenIn_F (args : List V) (h : List E) (κ : V → List E → R) : R := funC TD (tableK I.seenIn_T) I.seenIn_ann (drawOk TD (tableP I.seenIn_T)) FUEL Try.f76 args h κ
noncomputable def I.seenIn_L3 (n : Nat) (σ : St) (k : X → St → R) : R := iterC 0 (fun σ k => denC TD (tableK I.seenIn_T) I.seenIn_ann (drawOk TD (tableP I.seenIn_T)) 0 FUEL ((findLoop 3 (Try.f76.body.getD .skip)).getD .skip) σ k) [0, 1, 5, 6] [5] n σ k
noncomputable def I.seenIn_k3 (κ : V → List E → R) : X → St → R := (afterC TD (tableK I.seenIn_T) I.seenIn_ann (drawOk TD (tableP I.seenIn_T)) 0 FUEL 3 (Try.f76.body.getD .skip) (finC TD 0 Try.f76 κ)).getD (fun _ _ => none)
noncomputable def I.seenIn_step3 {α : Type} (x0 : List Int) (x1 : Int) (x5 : Int) (x6 : Int) (next_ : Int × Int → α) (out0_ : Int → α) (fail_ : α) : α :=
  (bif decide (x6 < (↑x0.length : Int)) then (optC (I.hasPlace_t x1 x6) (fun c_1 => (bif c_1 then (optC (I.ballIn_t x0 x6) (fun c_2 => (next_ (bits BinOp.or IntKind.i64 x5 c_2, IntKind.i64.wrap (x6 + 1)))) fail_) else (next_ (x5, IntKind.i64.wrap (x6 + 1))))) fail_) else (out0_ x5))
theorem I.seenIn_step3_nat {α γ : Type} (g : α → γ) (x0 : List Int) (x1 : Int) (x5 : Int) (x6 : Int) (next_ : Int × Int → α) (out0_ : Int → α) (fail_ : α) : g (I.seenIn_step3 x0 x1 x5 x6 next_ out0_ fail_) = I.seenIn_step3 x0 x1 x5 x6 (fun s => g (next_ s)) (fun d => g (out0_ d)) (g fail_) := by
  unfold I.seenIn_step3; simp only [apply_cnd g, apply_optC g, apply_sumC g]
noncomputable def I.seenIn_run3 (x0 : List Int) (x1 : Int) : Nat → Int × Int → Option (Int)
  | 0, _ => none
  | n + 1, s_ => I.seenIn_step3 x0 x1 s_.1 s_.2 (I.seenIn_run3 x0 x1 n) (fun d => some d) none
theorem I.seenIn_L3_run (x0 : List Int) (x1 : Int) (n : Nat) (s_ : Int × Int) (k : X → St → R) : I.seenIn_L3 n { n := 22, t := [(0, (.ro false (.ints .i64 x0))), (1, (.int .i64 x1)), (5, (.int .i64 s_.1)), (6, (.int .i64 s_.2))], h := [] } k = optC (I.seenIn_run3 x0 x1 n s_) (fun (r : Int) => k (.exit 0) { n := 22, t := [(5, (.int .i64 r))], h := [] }) none := by
  induction n generalizing s_ with
  | zero => rfl
  | succ n ih =>
    have hu : I.seenIn_L3 (n + 1) { n := 22, t := [(0, (.ro false (.ints .i64 x0))), (1, (.int .i64 x1)), (5, (.int .i64 s_.1)), (6, (.int .i64 s_.2))], h := [] } k = I.seenIn_step3 x0 x1 s_.1 s_.2 (fun s_ => I.seenIn_L3 n { n := 22, t := [(0, (.ro false (.ints .i64 x0))), (1, (.int .i64 x1)), (5, (.int .i64 s_.1)), (6, (.int .i64 s_.2))], h := [] } k) (fun d => k (.exit 0) { n := 22, t := [(5, (.int .i64 d))], h := [] }) none := by
      kernel_rfl
    have hs : (fun s_ : Int × Int => I.seenIn_L3 n { n := 22, t := [(0, (.ro false (.ints .i64 x0))), (1, (.int .i64 x1)), (5, (.int .i64 s_.1)), (6, (.int .i64 s_.2))], h := [] } k) = fun s_ => optC (I.seenIn_run3 x0 x1 n s_) (fun (r : Int) => k (.exit 0) { n := 22, t := [(5, (.int .i64 r))], h := [] }) none := funext ih
    rw [hu, hs]
    exact (I.seenIn_step3_nat (fun o => optC o (fun (r : Int) => k (.exit 0) { n := 22, t := [(5, (.int .i64 r))], h := [] }) none) x0 x1 s_.1 s_.2 (I.seenIn_run3 x0 x1 n) (fun d => some d) none).symm
noncomputable def I.seenIn_tree {α : Type} (net : List Int) (set_ : Int) (leaf0_ : Int → α) (fail_ : α) : α :=
  (optC (I.seenIn_run3 net set_ FUEL (0, 0)) (fun qy_3 => (leaf0_ qy_3)) fail_)
theorem I.seenIn_tree_nat {α γ : Type} (g : α → γ) (net : List Int) (set_ : Int) (leaf0_ : Int → α) (fail_ : α) : g (I.seenIn_tree net set_ leaf0_ fail_) = I.seenIn_tree net set_ (fun d => g (leaf0_ d)) (g fail_) := by
  unfold I.seenIn_tree; simp only [apply_cnd g, apply_optC g, apply_sumC g]
noncomputable def I.seenIn_t (net : List Int) (set_ : Int) : Option (Int) := I.seenIn_tree net set_ (fun d => some d) none
theorem I.seenIn_den (net : List Int) (set_ : Int) (κ : V → List E → R) : I.seenIn_F [.ro false (.ints .i64 net), .int .i64 set_] [] κ = optC (I.seenIn_t net set_) (fun (r : Int) => κ (.int .i64 r) []) none := by
  have hu : I.seenIn_F [.ro false (.ints .i64 net), .int .i64 set_] [] κ = I.seenIn_tree net set_ (fun d => κ (.int .i64 d) []) none := by
    refine Eq.trans (show I.seenIn_F [.ro false (.ints .i64 net), .int .i64 set_] [] κ = (I.seenIn_L3 FUEL { n := 22, t := [(0, (.ro false (.ints .i64 net))), (1, (.int .i64 set_)), (5, (.int .i64 0)), (6, (.int .i64 0))], h := [] } (I.seenIn_k3 κ)) by kernel_rfl) ?_
    refine (I.seenIn_L3_run net set_ FUEL (0, 0) (I.seenIn_k3 κ)).trans (optC_congr (fun qy_3 => ?_))
    kernel_rfl
  rw [hu]
  exact (I.seenIn_tree_nat (fun o => optC o (fun (r : Int) => κ (.int .i64 r) []) none) net set_ (fun d => some d) none).symm
noncomputable def I.seenIn_s : D.Spec where
  keep := false
  pure := true
  add := true
  ds := [.int .i64, .invalid]
  sp := fun args h κ => match args, h with
    | [.ro false (.ints .i64 net), .int .i64 set_], [] => optC (I.seenIn_t net set_) (fun (r : Int) => κ (.int .i64 r) []) none
    | _, _ => none
theorem I.seenIn_ok : SpecOk Try.prog 76 I.seenIn_s := by
  refine SpecOk.of TDok mixed (T := I.seenIn_T) ?_ (ann := I.seenIn_ann) Try.func76 rfl (by decide +kernel) ?_ ?_ ?_ ?_
  · intro p hp
    simp only [I.seenIn_T, List.mem_cons, List.not_mem_nil, or_false] at hp
    rcases hp with rfl | rfl
    · exact I.hasPlace_ok
    · exact I.ballIn_ok
  · intro args h κ r hh
    simp only [I.seenIn_s] at hh
    split at hh
    · exact (I.seenIn_den _ _ κ).trans hh
    · cases hh
  · intro args h κ r hh
    simp only [I.seenIn_s] at hh ⊢
    split at hh
    · exact optC_law2 (F := fun (r : Int) κ => κ (.int .i64 r) []) (fun b κ r hb => ⟨_, _, hb, fun _ => rfl⟩) hh
    · cases hh
  · intro _ args h κ r hh
    simp only [I.seenIn_s] at hh
    split at hh
    · exact ⟨rfl, fun _ => rfl⟩
    · cases hh
  · intro _ args h κ r hh
    simp only [I.seenIn_s] at hh
    split at hh
    · rfl
    · cases hh

-- loop.example/guardsonnets/impl.watchIn
noncomputable def I.watchIn_T : List (Nat × D.Spec) := [(76, I.seenIn_s), (34, I.allOf_s)]
def I.watchIn_ann : Nat → List Nat × List Nat
  | _ => ([], [])
noncomputable def I.watchIn_F (args : List V) (h : List E) (κ : V → List E → R) : R := funC TD (tableK I.watchIn_T) I.watchIn_ann (drawOk TD (tableP I.watchIn_T)) FUEL Try.f65 args h κ
noncomputable def I.watchIn_tree {α : Type} (net : List Int) (set_ : Int) (leaf0_ : Bool → α) (fail_ : α) : α :=
  (optC (I.seenIn_t net set_) (fun c_1 => (optC (I.allOf_t net) (fun c_2 => (leaf0_ (c_1 == c_2))) fail_)) fail_)
theorem I.watchIn_tree_nat {α γ : Type} (g : α → γ) (net : List Int) (set_ : Int) (leaf0_ : Bool → α) (fail_ : α) : g (I.watchIn_tree net set_ leaf0_ fail_) = I.watchIn_tree net set_ (fun d => g (leaf0_ d)) (g fail_) := by
  unfold I.watchIn_tree; simp only [apply_cnd g, apply_optC g, apply_sumC g]
noncomputable def I.watchIn_t (net : List Int) (set_ : Int) : Option (Bool) := I.watchIn_tree net set_ (fun d => some d) none
theorem I.watchIn_den (net : List Int) (set_ : Int) (κ : V → List E → R) : I.watchIn_F [.ro false (.ints .i64 net), .int .i64 set_] [] κ = optC (I.watchIn_t net set_) (fun (r : Bool) => κ (.bool r) []) none := by
  have hu : I.watchIn_F [.ro false (.ints .i64 net), .int .i64 set_] [] κ = I.watchIn_tree net set_ (fun d => κ (.bool d) []) none := by
    kernel_rfl
  rw [hu]
  exact (I.watchIn_tree_nat (fun o => optC o (fun (r : Bool) => κ (.bool r) []) none) net set_ (fun d => some d) none).symm
noncomputable def I.watchIn_s : D.Spec where
  keep := false
  pure := true
  add := true
  ds := [.int .i64, .invalid]
  sp := fun args h κ => match args, h with
    | [.ro false (.ints .i64 net), .int .i64 set_], [] => optC (I.watchIn_t net set_) (fun (r : Bool) => κ (.bool r) []) none
    | _, _ => none
theorem I.watchIn_ok : SpecOk Try.prog 65 I.watchIn_s := by
  refine SpecOk.of TDok mixed (T := I.watchIn_T) ?_ (ann := I.watchIn_ann) Try.func65 rfl (by decide +kernel) ?_ ?_ ?_ ?_
  · intro p hp
    simp only [I.watchIn_T, List.mem_cons, List.not_mem_nil, or_false] at hp
    rcases hp with rfl | rfl
    · exact I.seenIn_ok
    · exact I.allOf_ok
  · intro args h κ r hh
    simp only [I.watchIn_s] at hh
    split at hh
    · exact (I.watchIn_den _ _ κ).trans hh
    · cases hh
  · intro args h κ r hh
    simp only [I.watchIn_s] at hh ⊢
    split at hh
    · exact optC_law2 (F := fun (r : Bool) κ => κ (.bool r) []) (fun b κ r hb => ⟨_, _, hb, fun _ => rfl⟩) hh
    · cases hh
  · intro _ args h κ r hh
    simp only [I.watchIn_s] at hh
    split at hh
    · exact ⟨rfl, fun _ => rfl⟩
    · cases hh
  · intro _ args h κ r hh
    simp only [I.watchIn_s] at hh
    split at hh
    · rfl
    · cases hh

-- loop.example/guardsonnets/impl.smallWatchIn
noncomputable def I.smallWatchIn_T : List (Nat × D.Spec) := [(34, I.allOf_s), (35, I.sizeOf_s), (65, I.watchIn_s)]
def I.smallWatchIn_ann : Nat → List Nat × List Nat
  | 3 => ([0, 3, 4], [3])
  | _ => ([], [])
noncomputable def I.smallWatchIn_F (args : List V) (h : List E) (κ : V → List E → R) : R := funC TD (tableK I.smallWatchIn_T) I.smallWatchIn_ann (drawOk TD (tableP I.smallWatchIn_T)) FUEL Try.f46 args h κ
noncomputable def I.smallWatchIn_L3 (n : Nat) (σ : St) (k : X → St → R) : R := iterC 0 (fun σ k => denC TD (tableK I.smallWatchIn_T) I.smallWatchIn_ann (drawOk TD (tableP I.smallWatchIn_T)) 0 FUEL ((findLoop 3 (Try.f46.body.getD .skip)).getD .skip) σ k) [0, 3, 4] [3] n σ k
noncomputable def I.smallWatchIn_k3 (κ : V → List E → R) : X → St → R := (afterC TD (tableK I.smallWatchIn_T) I.smallWatchIn_ann (drawOk TD (tableP I.smallWatchIn_T)) 0 FUEL 3 (Try.f46.body.getD .skip) (finC TD 0 Try.f46 κ)).getD (fun _ _ => none)
noncomputable def I.smallWatchIn_step3 {α : Type} (x0 : List Int) (x3 : Int) (x4 : Int) (next_ : Int × Int → α) (out0_ : Int → α) (fail_ : α) : α :=
  (optC (I.allOf_t x0) (fun c_2 => (bif decide (x4 < c_2) then (optC (I.sizeOf_t x4) (fun c_3 => (optC (I.sizeOf_t x3) (fun c_4 => (bif decide (c_3 < c_4) then (optC (I.watchIn_t x0 x4) (fun c_5 => (bif c_5 then (next_ (x4, IntKind.i64.wrap (x4 + 1))) else (next_ (x3, IntKind.i64.wrap (x4 + 1))))) fail_) else (next_ (x3, IntKind.i64.wrap (x4 + 1))))) fail_)) fail_) else (out0_ x3))) fail_)
theorem I.smallWatchIn_step3_nat {α γ : Type} (g : α → γ) (x0 : List Int) (x3 : Int) (x4 : Int) (next_ : Int × Int → α) (out0_ : Int → α) (fail_ : α) : g (I.smallWatchIn_step3 x0 x3 x4 next_ out0_ fail_) = I.smallWatchIn_step3 x0 x3 x4 (fun s => g (next_ s)) (fun d => g (out0_ d)) (g fail_) := by
  unfold I.smallWatchIn_step3; simp only [apply_cnd g, apply_optC g, apply_sumC g]
noncomputable def I.smallWatchIn_run3 (x0 : List Int) : Nat → Int × Int → Option (Int)
  | 0, _ => none
  | n + 1, s_ => I.smallWatchIn_step3 x0 s_.1 s_.2 (I.smallWatchIn_run3 x0 n) (fun d => some d) none
theorem I.smallWatchIn_L3_run (x0 : List Int) (n : Nat) (s_ : Int × Int) (k : X → St → R) : I.smallWatchIn_L3 n { n := 25, t := [(0, (.ro false (.ints .i64 x0))), (3, (.int .i64 s_.1)), (4, (.int .i64 s_.2))], h := [] } k = optC (I.smallWatchIn_run3 x0 n s_) (fun (r : Int) => k (.exit 0) { n := 25, t := [(3, (.int .i64 r))], h := [] }) none := by
  induction n generalizing s_ with
  | zero => rfl
  | succ n ih =>
    have hu : I.smallWatchIn_L3 (n + 1) { n := 25, t := [(0, (.ro false (.ints .i64 x0))), (3, (.int .i64 s_.1)), (4, (.int .i64 s_.2))], h := [] } k = I.smallWatchIn_step3 x0 s_.1 s_.2 (fun s_ => I.smallWatchIn_L3 n { n := 25, t := [(0, (.ro false (.ints .i64 x0))), (3, (.int .i64 s_.1)), (4, (.int .i64 s_.2))], h := [] } k) (fun d => k (.exit 0) { n := 25, t := [(3, (.int .i64 d))], h := [] }) none := by
      kernel_rfl
    have hs : (fun s_ : Int × Int => I.smallWatchIn_L3 n { n := 25, t := [(0, (.ro false (.ints .i64 x0))), (3, (.int .i64 s_.1)), (4, (.int .i64 s_.2))], h := [] } k) = fun s_ => optC (I.smallWatchIn_run3 x0 n s_) (fun (r : Int) => k (.exit 0) { n := 25, t := [(3, (.int .i64 r))], h := [] }) none := funext ih
    rw [hu, hs]
    exact (I.smallWatchIn_step3_nat (fun o => optC o (fun (r : Int) => k (.exit 0) { n := 25, t := [(3, (.int .i64 r))], h := [] }) none) x0 s_.1 s_.2 (I.smallWatchIn_run3 x0 n) (fun d => some d) none).symm
noncomputable def I.smallWatchIn_tree {α : Type} (net : List Int) (leaf0_ : Int → α) (fail_ : α) : α :=
  (optC (I.allOf_t net) (fun c_1 => (optC (I.smallWatchIn_run3 net FUEL (c_1, 0)) (fun qy_6 => (leaf0_ qy_6)) fail_)) fail_)
theorem I.smallWatchIn_tree_nat {α γ : Type} (g : α → γ) (net : List Int) (leaf0_ : Int → α) (fail_ : α) : g (I.smallWatchIn_tree net leaf0_ fail_) = I.smallWatchIn_tree net (fun d => g (leaf0_ d)) (g fail_) := by
  unfold I.smallWatchIn_tree; simp only [apply_cnd g, apply_optC g, apply_sumC g]
noncomputable def I.smallWatchIn_t (net : List Int) : Option (Int) := I.smallWatchIn_tree net (fun d => some d) none
theorem I.smallWatchIn_den (net : List Int) (κ : V → List E → R) : I.smallWatchIn_F [.ro false (.ints .i64 net)] [] κ = optC (I.smallWatchIn_t net) (fun (r : Int) => κ (.int .i64 r) []) none := by
  have hu : I.smallWatchIn_F [.ro false (.ints .i64 net)] [] κ = I.smallWatchIn_tree net (fun d => κ (.int .i64 d) []) none := by
    refine Eq.trans (show I.smallWatchIn_F [.ro false (.ints .i64 net)] [] κ = (optC (I.allOf_t net) (fun c_1 => (I.smallWatchIn_L3 FUEL { n := 25, t := [(0, (.ro false (.ints .i64 net))), (3, (.int .i64 c_1)), (4, (.int .i64 0))], h := [] } (I.smallWatchIn_k3 κ))) none) by kernel_rfl) ?_
    refine optC_congr (fun c_1 => ?_)
    refine (I.smallWatchIn_L3_run net FUEL (c_1, 0) (I.smallWatchIn_k3 κ)).trans (optC_congr (fun qy_6 => ?_))
    kernel_rfl
  rw [hu]
  exact (I.smallWatchIn_tree_nat (fun o => optC o (fun (r : Int) => κ (.int .i64 r) []) none) net (fun d => some d) none).symm
noncomputable def I.smallWatchIn_s : D.Spec where
  keep := false
  pure := true
  add := true
  ds := [.int .i64]
  sp := fun args h κ => match args, h with
    | [.ro false (.ints .i64 net)], [] => optC (I.smallWatchIn_t net) (fun (r : Int) => κ (.int .i64 r) []) none
    | _, _ => none
theorem I.smallWatchIn_ok : SpecOk Try.prog 46 I.smallWatchIn_s := by
  refine SpecOk.of TDok mixed (T := I.smallWatchIn_T) ?_ (ann := I.smallWatchIn_ann) Try.func46 rfl (by decide +kernel) ?_ ?_ ?_ ?_
  · intro p hp
    simp only [I.smallWatchIn_T, List.mem_cons, List.not_mem_nil, or_false] at hp
    rcases hp with rfl | rfl | rfl
    · exact I.allOf_ok
    · exact I.sizeOf_ok
    · exact I.watchIn_ok
  · intro args h κ r hh
    simp only [I.smallWatchIn_s] at hh
    split at hh
    · exact (I.smallWatchIn_den _ κ).trans hh
    · cases hh
  · intro args h κ r hh
    simp only [I.smallWatchIn_s] at hh ⊢
    split at hh
    · exact optC_law2 (F := fun (r : Int) κ => κ (.int .i64 r) []) (fun b κ r hb => ⟨_, _, hb, fun _ => rfl⟩) hh
    · cases hh
  · intro _ args h κ r hh
    simp only [I.smallWatchIn_s] at hh
    split at hh
    · exact ⟨rfl, fun _ => rfl⟩
    · cases hh
  · intro _ args h κ r hh
    simp only [I.smallWatchIn_s] at hh
    split at hh
    · rfl
    · cases hh

-- loop.example/guardsonnets/impl.FewestWatch
noncomputable def I.FewestWatch_T : List (Nat × D.Spec) := [(10, I.NetOk_s), (46, I.smallWatchIn_s), (35, I.sizeOf_s)]
def I.FewestWatch_ann : Nat → List Nat × List Nat
  | _ => ([], [])
noncomputable def I.FewestWatch_F (args : List V) (h : List E) (κ : V → List E → R) : R := funC TD (tableK I.FewestWatch_T) I.FewestWatch_ann (drawOk TD (tableP I.FewestWatch_T)) FUEL Try.f22 args h κ
noncomputable def I.FewestWatch_tree {α : Type} (net : List Int) (leaf0_ : Int → α) (fail_ : α) : α :=
  (optC (I.NetOk_t net) (fun c_1 => (bif !c_1 then (leaf0_ (-1)) else (optC (I.smallWatchIn_t net) (fun c_2 => (optC (I.sizeOf_t c_2) (fun c_3 => (leaf0_ c_3)) fail_)) fail_))) fail_)
theorem I.FewestWatch_tree_nat {α γ : Type} (g : α → γ) (net : List Int) (leaf0_ : Int → α) (fail_ : α) : g (I.FewestWatch_tree net leaf0_ fail_) = I.FewestWatch_tree net (fun d => g (leaf0_ d)) (g fail_) := by
  unfold I.FewestWatch_tree; simp only [apply_cnd g, apply_optC g, apply_sumC g]
noncomputable def I.FewestWatch_t (net : List Int) : Option (Int) := I.FewestWatch_tree net (fun d => some d) none
theorem I.FewestWatch_den (net : List Int) (κ : V → List E → R) : I.FewestWatch_F [.ro false (.ints .i64 net)] [] κ = optC (I.FewestWatch_t net) (fun (r : Int) => κ (.int .i64 r) []) none := by
  have hu : I.FewestWatch_F [.ro false (.ints .i64 net)] [] κ = I.FewestWatch_tree net (fun d => κ (.int .i64 d) []) none := by
    kernel_rfl
  rw [hu]
  exact (I.FewestWatch_tree_nat (fun o => optC o (fun (r : Int) => κ (.int .i64 r) []) none) net (fun d => some d) none).symm
noncomputable def I.FewestWatch_s : D.Spec where
  keep := false
  pure := true
  add := true
  ds := [.int .i64]
  sp := fun args h κ => match args, h with
    | [.ro false (.ints .i64 net)], [] => optC (I.FewestWatch_t net) (fun (r : Int) => κ (.int .i64 r) []) none
    | _, _ => none
theorem I.FewestWatch_ok : SpecOk Try.prog 22 I.FewestWatch_s := by
  refine SpecOk.of TDok mixed (T := I.FewestWatch_T) ?_ (ann := I.FewestWatch_ann) Try.func22 rfl (by decide +kernel) ?_ ?_ ?_ ?_
  · intro p hp
    simp only [I.FewestWatch_T, List.mem_cons, List.not_mem_nil, or_false] at hp
    rcases hp with rfl | rfl | rfl
    · exact I.NetOk_ok
    · exact I.smallWatchIn_ok
    · exact I.sizeOf_ok
  · intro args h κ r hh
    simp only [I.FewestWatch_s] at hh
    split at hh
    · exact (I.FewestWatch_den _ κ).trans hh
    · cases hh
  · intro args h κ r hh
    simp only [I.FewestWatch_s] at hh ⊢
    split at hh
    · exact optC_law2 (F := fun (r : Int) κ => κ (.int .i64 r) []) (fun b κ r hb => ⟨_, _, hb, fun _ => rfl⟩) hh
    · cases hh
  · intro _ args h κ r hh
    simp only [I.FewestWatch_s] at hh
    split at hh
    · exact ⟨rfl, fun _ => rfl⟩
    · cases hh
  · intro _ args h κ r hh
    simp only [I.FewestWatch_s] at hh
    split at hh
    · rfl
    · cases hh

-- loop.example/guardsonnets/impl.matchedWith
class I.matchedWith_r_R where
  r : (List Int) → Int → Int → Int → Int → Int → Int → Int → Int → Int → Bool → Option (Int × Int × Int × Int × Int × Int × Int × Bool)
section
variable [c_ : I.matchedWith_r_R]
noncomputable def I.matchedWith_r0_t (net : List Int) (to_ : Int) (guard : Int) (before0 : Int) (before1 : Int) (before2 : Int) (before3 : Int) (before4 : Int) (before5 : Int) (before6 : Int) (before7 : Bool) : Option (Int × Int × Int × Int × Int × Int × Int × Bool) := I.matchedWith_r_R.r net to_ guard before0 before1 before2 before3 before4 before5 before6 before7
noncomputable def I.matchedWith_r0_s : D.Spec where
  keep := false
  pure := true
  add := true
  ds := [.int .i64, .invalid, .invalid, .invalid]
  sp := fun args h κ => match args, h with
    | [.ro false (.ints .i64 net), .int .i64 to_, .int .i64 guard, .agg [.int .i64 before0, .int .i64 before1, .int .i64 before2, .int .i64 before3, .int .i64 before4, .int .i64 before5, .int .i64 before6, .bool before7]], [] => optC (I.matchedWith_r0_t net to_ guard before0 before1 before2 before3 before4 before5 before6 before7) (fun (r : Int × Int × Int × Int × Int × Int × Int × Bool) => κ (.agg [.int .i64 r.1, .int .i64 r.2.1, .int .i64 r.2.2.1, .int .i64 r.2.2.2.1, .int .i64 r.2.2.2.2.1, .int .i64 r.2.2.2.2.2.1, .int .i64 r.2.2.2.2.2.2.1, .bool r.2.2.2.2.2.2.2]) []) none
    | _, _ => none
end
section
variable [c_ : I.matchedWith_r_R]
noncomputable def I.matchedWith_r_T : List (Nat × D.Spec) := [(56, I.ballIn_s), (32, I.hasPlace_s), (77, I.with_s), (85, I.matchedWith_r0_s)]
def I.matchedWith_r_ann : Nat → List Nat × List Nat
  | 3 => ([0, 1, 2, 8, 9, 10], [8, 9])
  | _ => ([], [])
noncomputable def I.matchedWith_r_F (args : List V) (h : List E) (κ : V → List E → R) : R := funC TD (tableK I.matchedWith_r_T) I.matchedWith_r_ann (drawOk TD (tableP I.matchedWith_r_T)) FUEL Try.f85 args h κ
noncomputable def I.matchedWith_r_L3 (n : Nat) (σ : St) (k : X → St → R) : R := iterC 0 (fun σ k => denC TD (tableK I.matchedWith_r_T) I.matchedWith_r_ann (drawOk TD (tableP I.matchedWith_r_T)) 0 FUEL ((findLoop 3 (Try.f85.body.getD .skip)).getD .skip) σ k) [0, 1, 2, 8, 9, 10] [8, 9] n σ k
end
section
variable [c_ : I.matchedWith_r_R]
noncomputable def I.matchedWith_r_k3 (κ : V → List E → R) : X → St → R := (afterC TD (tableK I.matchedWith_r_T) I.matchedWith_r_ann (drawOk TD (tableP I.matchedWith_r_T)) 0 FUEL 3 (Try.f85.body.getD .skip) (finC TD 0 Try.f85 κ)).getD (fun _ _ => none)
noncomputable def I.matchedWith_r_step3 {α : Type} (x0 : List Int) (x1 : Int) (x2 : Int) (x10 : Int) (r0_0 : Int) (r0_1 : Int) (r0_2 : Int) (r0_3 : Int) (r0_4 : Int) (r0_5 : Int) (r0_6 : Int) (r0_7 : Bool) (r1_0 : Int) (r1_1 : Int) (r1_2 : Int) (r1_3 : Int) (r1_4 : Int) (r1_5 : Int) (r1_6 : Int) (r1_7 : Bool) (next_ : Int × Int × Int × Int × Int × Int × Int × Int × Bool × Int × Int × Int × Int × Int × Int × Int × Bool → α) (out0_ : Int × Int × Int × Int × Int × Int × Int × Bool × Int × Int × Int × Int × Int × Int × Int × Bool → α) (out1_ : Int × Int × Int × Int × Int × Int × Int × Bool × Int × Int × Int × Int × Int × Int × Int × Bool → α) (fail_ : α) : α :=
  (bif decide (x10 < (↑x0.length : Int)) then (optC (I.ballIn_t x0 x2) (fun c_1 => (optC (I.hasPlace_t (bits BinOp.andNot IntKind.i64 (bits BinOp.and IntKind.i64 x1 c_1) r1_6) x10) (fun c_2 => (bif !c_2 then (next_ (IntKind.i64.wrap (x10 + 1), r0_0, r0_1, r0_2, r0_3, r0_4, r0_5, r0_6, r0_7, r1_0, r1_1, r1_2, r1_3, r1_4, r1_5, r1_6, r1_7)) else (optC (I.with_t r1_6 x10) (fun c_3 => (bif decide (0 ≤ x10) && decide (x10 < (↑6 : Int)) then (bif eli [r1_0, r1_1, r1_2, r1_3, r1_4, r1_5] x10.toNat == 0 then (bif decide (0 ≤ x10) && decide (x10 < (↑6 : Int)) then (out0_ (bif x10 == (↑0 : Int) then IntKind.i64.wrap (x2 + 1) else r1_0, bif x10 == (↑(0 + 1) : Int) then IntKind.i64.wrap (x2 + 1) else r1_1, bif x10 == (↑(0 + 1 + 1) : Int) then IntKind.i64.wrap (x2 + 1) else r1_2, bif x10 == (↑(0 + 1 + 1 + 1) : Int) then IntKind.i64.wrap (x2 + 1) else r1_3, bif x10 == (↑(0 + 1 + 1 + 1 + 1) : Int) then IntKind.i64.wrap (x2 + 1) else r1_4, bif x10 == (↑(0 + 1 + 1 + 1 + 1 + 1) : Int) then IntKind.i64.wrap (x2 + 1) else r1_5, c_3, true, bif x10 == (↑0 : Int) then IntKind.i64.wrap (x2 + 1) else r1_0, bif x10 == (↑(0 + 1) : Int) then IntKind.i64.wrap (x2 + 1) else r1_1, bif x10 == (↑(0 + 1 + 1) : Int) then IntKind.i64.wrap (x2 + 1) else r1_2, bif x10 == (↑(0 + 1 + 1 + 1) : Int) then IntKind.i64.wrap (x2 + 1) else r1_3, bif x10 == (↑(0 + 1 + 1 + 1 + 1) : Int) then IntKind.i64.wrap (x2 + 1) else r1_4, bif x10 == (↑(0 + 1 + 1 + 1 + 1 + 1) : Int) then IntKind.i64.wrap (x2 + 1) else r1_5, c_3, true)) else fail_) else (bif decide (0 ≤ x10) && decide (x10 < (↑6 : Int)) then (optC (I.matchedWith_r0_t x0 x1 (IntKind.i64.wrap (eli [r1_0, r1_1, r1_2, r1_3, r1_4, r1_5] x10.toNat - 1)) r1_0 r1_1 r1_2 r1_3 r1_4 r1_5 c_3 r1_7) (fun c_4 => (bif c_4.snd.snd.snd.snd.snd.snd.snd then (bif decide (0 ≤ x10) && decide (x10 < (↑6 : Int)) then (out0_ (bif x10 == (↑0 : Int) then IntKind.i64.wrap (x2 + 1) else c_4.fst, bif x10 == (↑(0 + 1) : Int) then IntKind.i64.wrap (x2 + 1) else c_4.snd.fst, bif x10 == (↑(0 + 1 + 1) : Int) then IntKind.i64.wrap (x2 + 1) else c_4.snd.snd.fst, bif x10 == (↑(0 + 1 + 1 + 1) : Int) then IntKind.i64.wrap (x2 + 1) else c_4.snd.snd.snd.fst, bif x10 == (↑(0 + 1 + 1 + 1 + 1) : Int) then IntKind.i64.wrap (x2 + 1) else c_4.snd.snd.snd.snd.fst, bif x10 == (↑(0 + 1 + 1 + 1 + 1 + 1) : Int) then IntKind.i64.wrap (x2 + 1) else c_4.snd.snd.snd.snd.snd.fst, c_4.snd.snd.snd.snd.snd.snd.fst, c_4.snd.snd.snd.snd.snd.snd.snd, bif x10 == (↑0 : Int) then IntKind.i64.wrap (x2 + 1) else c_4.fst, bif x10 == (↑(0 + 1) : Int) then IntKind.i64.wrap (x2 + 1) else c_4.snd.fst, bif x10 == (↑(0 + 1 + 1) : Int) then IntKind.i64.wrap (x2 + 1) else c_4.snd.snd.fst, bif x10 == (↑(0 + 1 + 1 + 1) : Int) then IntKind.i64.wrap (x2 + 1) else c_4.snd.snd.snd.fst, bif x10 == (↑(0 + 1 + 1 + 1 + 1) : Int) then IntKind.i64.wrap (x2 + 1) else c_4.snd.snd.snd.snd.fst, bif x10 == (↑(0 + 1 + 1 + 1 + 1 + 1) : Int) then IntKind.i64.wrap (x2 + 1) else c_4.snd.snd.snd.snd.snd.fst, c_4.snd.snd.snd.snd.snd.snd.fst, c_4.snd.snd.snd.snd.snd.snd.snd)) else fail_) else (next_ (IntKind.i64.wrap (x10 + 1), r0_0, r0_1, r0_2, r0_3, r0_4, r0_5, r0_6, r0_7, c_4.fst, c_4.snd.fst, c_4.snd.snd.fst, c_4.snd.snd.snd.fst, c_4.snd.snd.snd.snd.fst, c_4.snd.snd.snd.snd.snd.fst, c_4.snd.snd.snd.snd.snd.snd.fst, c_4.snd.snd.snd.snd.snd.snd.snd)))) fail_) else fail_)) else fail_)) fail_))) fail_)) fail_) else (out1_ (r0_0, r0_1, r0_2, r0_3, r0_4, r0_5, r0_6, r0_7, r1_0, r1_1, r1_2, r1_3, r1_4, r1_5, r1_6, r1_7)))
theorem I.matchedWith_r_step3_nat {α γ : Type} (g : α → γ) (x0 : List Int) (x1 : Int) (x2 : Int) (x10 : Int) (r0_0 : Int) (r0_1 : Int) (r0_2 : Int) (r0_3 : Int) (r0_4 : Int) (r0_5 : Int) (r0_6 : Int) (r0_7 : Bool) (r1_0 : Int) (r1_1 : Int) (r1_2 : Int) (r1_3 : Int) (r1_4 : Int) (r1_5 : Int) (r1_6 : Int) (r1_7 : Bool) (next_ : Int × Int × Int × Int × Int × Int × Int × Int × Bool × Int × Int × Int × Int × Int × Int × Int × Bool → α) (out0_ : Int × Int × Int × Int × Int × Int × Int × Bool × Int × Int × Int × Int × Int × Int × Int × Bool → α) (out1_ : Int × Int × Int × Int × Int × Int × Int × Bool × Int × Int × Int × Int × Int × Int × Int × Bool → α) (fail_ : α) : g (I.matchedWith_r_step3 x0 x1 x2 x10 r0_0 r0_1 r0_2 r0_3 r0_4 r0_5 r0_6 r0_7 r1_0 r1_1 r1_2 r1_3 r1_4 r1_5 r1_6 r1_7 next_ out0_ out1_ fail_) = I.matchedWith_r_step3 x0 x1 x2 x10 r0_0 r0_1 r0_2 r0_3 r0_4 r0_5 r0_6 r0_7 r1_0 r1_1 r1_2 r1_3 r1_4 r1_5 r1_6 r1_7 (fun s => g (next_ s)) (fun d => g (out0_ d)) (fun d => g (out1_ d)) (g fail_) := by
  unfold I.matchedWith_r_step3; simp only [apply_cnd g, apply_optC g, apply_sumC g]
noncomputable def I.matchedWith_r_run3 (x0 : List Int) (x1 : Int) (x2 : Int) : Nat → Int × Int × Int × Int × Int × Int × Int × Int × Bool × Int × Int × Int × Int × Int × Int × Int × Bool → Option ((Int × Int × Int × Int × Int × Int × Int × Bool × Int × Int × Int × Int × Int × Int × Int × Bool) ⊕ (Int × Int × Int × Int × Int × Int × Int × Bool × Int × Int × Int × Int × Int × Int × Int × Bool))
  | 0, _ => none
  | n + 1, s_ => I.matchedWith_r_step3 x0 x1 x2 s_.1 s_.2.1 s_.2.2.1 s_.2.2.2.1 s_.2.2.2.2.1 s_.2.2.2.2.2.1 s_.2.2.2.2.2.2.1 s_.2.2.2.2.2.2.2.1 s_.2.2.2.2.2.2.2.2.1 s_.2.2.2.2.2.2.2.2.2.1 s_.2.2.2.2.2.2.2.2.2.2.1 s_.2.2.2.2.2.2.2.2.2.2.2.1 s_.2.2.2.2.2.2.2.2.2.2.2.2.1 s_.2.2.2.2.2.2.2.2.2.2.2.2.2.1 s_.2.2.2.2.2.2.2.2.2.2.2.2.2.2.1 s_.2.2.2.2.2.2.2.2.2.2.2.2.2.2.2.1 s_.2.2.2.2.2.2.2.2.2.2.2.2.2.2.2.2 (I.matchedWith_r_run3 x0 x1 x2 n) (fun d => some ((Sum.inl d))) (fun d => some ((Sum.inr d))) none
theorem I.matchedWith_r_L3_run (x0 : List Int) (x1 : Int) (x2 : Int) (n : Nat) (s_ : Int × Int × Int × Int × Int × Int × Int × Int × Bool × Int × Int × Int × Int × Int × Int × Int × Bool) (k : X → St → R) : I.matchedWith_r_L3 n { n := 58, t := [(0, (.ro false (.ints .i64 x0))), (1, (.int .i64 x1)), (2, (.int .i64 x2)), (8, (.ptr 0 0)), (9, (.ptr 1 0)), (10, (.int .i64 s_.1))], h := [.cells [(.int .i64 s_.2.1), (.int .i64 s_.2.2.1), (.int .i64 s_.2.2.2.1), (.int .i64 s_.2.2.2.2.1), (.int .i64 s_.2.2.2.2.2.1), (.int .i64 s_.2.2.2.2.2.2.1), (.int .i64 s_.2.2.2.2.2.2.2.1), (.bool s_.2.2.2.2.2.2.2.2.1)], .cells [(.int .i64 s_.2.2.2.2.2.2.2.2.2.1), (.int .i64 s_.2.2.2.2.2.2.2.2.2.2.1), (.int .i64 s_.2.2.2.2.2.2.2.2.2.2.2.1), (.int .i64 s_.2.2.2.2.2.2.2.2.2.2.2.2.1), (.int .i64 s_.2.2.2.2.2.2.2.2.2.2.2.2.2.1), (.int .i64 s_.2.2.2.2.2.2.2.2.2.2.2.2.2.2.1), (.int .i64 s_.2.2.2.2.2.2.2.2.2.2.2.2.2.2.2.1), (.bool s_.2.2.2.2.2.2.2.2.2.2.2.2.2.2.2.2)]] } k = optC (I.matchedWith_r_run3 x0 x1 x2 n s_) (fun (r : (Int × Int × Int × Int × Int × Int × Int × Bool × Int × Int × Int × Int × Int × Int × Int × Bool) ⊕ (Int × Int × Int × Int × Int × Int × Int × Bool × Int × Int × Int × Int × Int × Int × Int × Bool)) => (sumC r (fun (r : Int × Int × Int × Int × Int × Int × Int × Bool × Int × Int × Int × Int × Int × Int × Int × Bool) => k (.ret) { n := 58, t := [(8, (.ptr 0 0)), (9, (.ptr 1 0))], h := [.cells [(.int .i64 r.1), (.int .i64 r.2.1), (.int .i64 r.2.2.1), (.int .i64 r.2.2.2.1), (.int .i64 r.2.2.2.2.1), (.int .i64 r.2.2.2.2.2.1), (.int .i64 r.2.2.2.2.2.2.1), (.bool r.2.2.2.2.2.2.2.1)], .cells [(.int .i64 r.2.2.2.2.2.2.2.2.1), (.int .i64 r.2.2.2.2.2.2.2.2.2.1), (.int .i64 r.2.2.2.2.2.2.2.2.2.2.1), (.int .i64 r.2.2.2.2.2.2.2.2.2.2.2.1), (.int .i64 r.2.2.2.2.2.2.2.2.2.2.2.2.1), (.int .i64 r.2.2.2.2.2.2.2.2.2.2.2.2.2.1), (.int .i64 r.2.2.2.2.2.2.2.2.2.2.2.2.2.2.1), (.bool r.2.2.2.2.2.2.2.2.2.2.2.2.2.2.2)]] }) (fun (r : Int × Int × Int × Int × Int × Int × Int × Bool × Int × Int × Int × Int × Int × Int × Int × Bool) => k (.exit 0) { n := 58, t := [(8, (.ptr 0 0)), (9, (.ptr 1 0))], h := [.cells [(.int .i64 r.1), (.int .i64 r.2.1), (.int .i64 r.2.2.1), (.int .i64 r.2.2.2.1), (.int .i64 r.2.2.2.2.1), (.int .i64 r.2.2.2.2.2.1), (.int .i64 r.2.2.2.2.2.2.1), (.bool r.2.2.2.2.2.2.2.1)], .cells [(.int .i64 r.2.2.2.2.2.2.2.2.1), (.int .i64 r.2.2.2.2.2.2.2.2.2.1), (.int .i64 r.2.2.2.2.2.2.2.2.2.2.1), (.int .i64 r.2.2.2.2.2.2.2.2.2.2.2.1), (.int .i64 r.2.2.2.2.2.2.2.2.2.2.2.2.1), (.int .i64 r.2.2.2.2.2.2.2.2.2.2.2.2.2.1), (.int .i64 r.2.2.2.2.2.2.2.2.2.2.2.2.2.2.1), (.bool r.2.2.2.2.2.2.2.2.2.2.2.2.2.2.2)]] }))) none := by
  induction n generalizing s_ with
  | zero => rfl
  | succ n ih =>
    have hu : I.matchedWith_r_L3 (n + 1) { n := 58, t := [(0, (.ro false (.ints .i64 x0))), (1, (.int .i64 x1)), (2, (.int .i64 x2)), (8, (.ptr 0 0)), (9, (.ptr 1 0)), (10, (.int .i64 s_.1))], h := [.cells [(.int .i64 s_.2.1), (.int .i64 s_.2.2.1), (.int .i64 s_.2.2.2.1), (.int .i64 s_.2.2.2.2.1), (.int .i64 s_.2.2.2.2.2.1), (.int .i64 s_.2.2.2.2.2.2.1), (.int .i64 s_.2.2.2.2.2.2.2.1), (.bool s_.2.2.2.2.2.2.2.2.1)], .cells [(.int .i64 s_.2.2.2.2.2.2.2.2.2.1), (.int .i64 s_.2.2.2.2.2.2.2.2.2.2.1), (.int .i64 s_.2.2.2.2.2.2.2.2.2.2.2.1), (.int .i64 s_.2.2.2.2.2.2.2.2.2.2.2.2.1), (.int .i64 s_.2.2.2.2.2.2.2.2.2.2.2.2.2.1), (.int .i64 s_.2.2.2.2.2.2.2.2.2.2.2.2.2.2.1), (.int .i64 s_.2.2.2.2.2.2.2.2.2.2.2.2.2.2.2.1), (.bool s_.2.2.2.2.2.2.2.2.2.2.2.2.2.2.2.2)]] } k = I.matchedWith_r_step3 x0 x1 x2 s_.1 s_.2.1 s_.2.2.1 s_.2.2.2.1 s_.2.2.2.2.1 s_.2.2.2.2.2.1 s_.2.2.2.2.2.2.1 s_.2.2.2.2.2.2.2.1 s_.2.2.2.2.2.2.2.2.1 s_.2.2.2.2.2.2.2.2.2.1 s_.2.2.2.2.2.2.2.2.2.2.1 s_.2.2.2.2.2.2.2.2.2.2.2.1 s_.2.2.2.2.2.2.2.2.2.2.2.2.1 s_.2.2.2.2.2.2.2.2.2.2.2.2.2.1 s_.2.2.2.2.2.2.2.2.2.2.2.2.2.2.1 s_.2.2.2.2.2.2.2.2.2.2.2.2.2.2.2.1 s_.2.2.2.2.2.2.2.2.2.2.2.2.2.2.2.2 (fun s_ => I.matchedWith_r_L3 n { n := 58, t := [(0, (.ro false (.ints .i64 x0))), (1, (.int .i64 x1)), (2, (.int .i64 x2)), (8, (.ptr 0 0)), (9, (.ptr 1 0)), (10, (.int .i64 s_.1))], h := [.cells [(.int .i64 s_.2.1), (.int .i64 s_.2.2.1), (.int .i64 s_.2.2.2.1), (.int .i64 s_.2.2.2.2.1), (.int .i64 s_.2.2.2.2.2.1), (.int .i64 s_.2.2.2.2.2.2.1), (.int .i64 s_.2.2.2.2.2.2.2.1), (.bool s_.2.2.2.2.2.2.2.2.1)], .cells [(.int .i64 s_.2.2.2.2.2.2.2.2.2.1), (.int .i64 s_.2.2.2.2.2.2.2.2.2.2.1), (.int .i64 s_.2.2.2.2.2.2.2.2.2.2.2.1), (.int .i64 s_.2.2.2.2.2.2.2.2.2.2.2.2.1), (.int .i64 s_.2.2.2.2.2.2.2.2.2.2.2.2.2.1), (.int .i64 s_.2.2.2.2.2.2.2.2.2.2.2.2.2.2.1), (.int .i64 s_.2.2.2.2.2.2.2.2.2.2.2.2.2.2.2.1), (.bool s_.2.2.2.2.2.2.2.2.2.2.2.2.2.2.2.2)]] } k) (fun d => k (.ret) { n := 58, t := [(8, (.ptr 0 0)), (9, (.ptr 1 0))], h := [.cells [(.int .i64 d.1), (.int .i64 d.2.1), (.int .i64 d.2.2.1), (.int .i64 d.2.2.2.1), (.int .i64 d.2.2.2.2.1), (.int .i64 d.2.2.2.2.2.1), (.int .i64 d.2.2.2.2.2.2.1), (.bool d.2.2.2.2.2.2.2.1)], .cells [(.int .i64 d.2.2.2.2.2.2.2.2.1), (.int .i64 d.2.2.2.2.2.2.2.2.2.1), (.int .i64 d.2.2.2.2.2.2.2.2.2.2.1), (.int .i64 d.2.2.2.2.2.2.2.2.2.2.2.1), (.int .i64 d.2.2.2.2.2.2.2.2.2.2.2.2.1), (.int .i64 d.2.2.2.2.2.2.2.2.2.2.2.2.2.1), (.int .i64 d.2.2.2.2.2.2.2.2.2.2.2.2.2.2.1), (.bool d.2.2.2.2.2.2.2.2.2.2.2.2.2.2.2)]] }) (fun d => k (.exit 0) { n := 58, t := [(8, (.ptr 0 0)), (9, (.ptr 1 0))], h := [.cells [(.int .i64 d.1), (.int .i64 d.2.1), (.int .i64 d.2.2.1), (.int .i64 d.2.2.2.1), (.int .i64 d.2.2.2.2.1), (.int .i64 d.2.2.2.2.2.1), (.int .i64 d.2.2.2.2.2.2.1), (.bool d.2.2.2.2.2.2.2.1)], .cells [(.int .i64 d.2.2.2.2.2.2.2.2.1), (.int .i64 d.2.2.2.2.2.2.2.2.2.1), (.int .i64 d.2.2.2.2.2.2.2.2.2.2.1), (.int .i64 d.2.2.2.2.2.2.2.2.2.2.2.1), (.int .i64 d.2.2.2.2.2.2.2.2.2.2.2.2.1), (.int .i64 d.2.2.2.2.2.2.2.2.2.2.2.2.2.1), (.int .i64 d.2.2.2.2.2.2.2.2.2.2.2.2.2.2.1), (.bool d.2.2.2.2.2.2.2.2.2.2.2.2.2.2.2)]] }) none := by
      kernel_rfl
    have hs : (fun s_ : Int × Int × Int × Int × Int × Int × Int × Int × Bool × Int × Int × Int × Int × Int × Int × Int × Bool => I.matchedWith_r_L3 n { n := 58, t := [(0, (.ro false (.ints .i64 x0))), (1, (.int .i64 x1)), (2, (.int .i64 x2)), (8, (.ptr 0 0)), (9, (.ptr 1 0)), (10, (.int .i64 s_.1))], h := [.cells [(.int .i64 s_.2.1), (.int .i64 s_.2.2.1), (.int .i64 s_.2.2.2.1), (.int .i64 s_.2.2.2.2.1), (.int .i64 s_.2.2.2.2.2.1), (.int .i64 s_.2.2.2.2.2.2.1), (.int .i64 s_.2.2.2.2.2.2.2.1), (.bool s_.2.2.2.2.2.2.2.2.1)], .cells [(.int .i64 s_.2.2.2.2.2.2.2.2.2.1), (.int .i64 s_.2.2.2.2.2.2.2.2.2.2.1), (.int .i64 s_.2.2.2.2.2.2.2.2.2.2.2.1), (.int .i64 s_.2.2.2.2.2.2.2.2.2.2.2.2.1), (.int .i64 s_.2.2.2.2.2.2.2.2.2.2.2.2.2.1), (.int .i64 s_.2.2.2.2.2.2.2.2.2.2.2.2.2.2.1), (.int .i64 s_.2.2.2.2.2.2.2.2.2.2.2.2.2.2.2.1), (.bool s_.2.2.2.2.2.2.2.2.2.2.2.2.2.2.2.2)]] } k) = fun s_ => optC (I.matchedWith_r_run3 x0 x1 x2 n s_) (fun (r : (Int × Int × Int × Int × Int × Int × Int × Bool × Int × Int × Int × Int × Int × Int × Int × Bool) ⊕ (Int × Int × Int × Int × Int × Int × Int × Bool × Int × Int × Int × Int × Int × Int × Int × Bool)) => (sumC r (fun (r : Int × Int × Int × Int × Int × Int × Int × Bool × Int × Int × Int × Int × Int × Int × Int × Bool) => k (.ret) { n := 58, t := [(8, (.ptr 0 0)), (9, (.ptr 1 0))], h := [.cells [(.int .i64 r.1), (.int .i64 r.2.1), (.int .i64 r.2.2.1), (.int .i64 r.2.2.2.1), (.int .i64 r.2.2.2.2.1), (.int .i64 r.2.2.2.2.2.1), (.int .i64 r.2.2.2.2.2.2.1), (.bool r.2.2.2.2.2.2.2.1)], .cells [(.int .i64 r.2.2.2.2.2.2.2.2.1), (.int .i64 r.2.2.2.2.2.2.2.2.2.1), (.int .i64 r.2.2.2.2.2.2.2.2.2.2.1), (.int .i64 r.2.2.2.2.2.2.2.2.2.2.2.1), (.int .i64 r.2.2.2.2.2.2.2.2.2.2.2.2.1), (.int .i64 r.2.2.2.2.2.2.2.2.2.2.2.2.2.1), (.int .i64 r.2.2.2.2.2.2.2.2.2.2.2.2.2.2.1), (.bool r.2.2.2.2.2.2.2.2.2.2.2.2.2.2.2)]] }) (fun (r : Int × Int × Int × Int × Int × Int × Int × Bool × Int × Int × Int × Int × Int × Int × Int × Bool) => k (.exit 0) { n := 58, t := [(8, (.ptr 0 0)), (9, (.ptr 1 0))], h := [.cells [(.int .i64 r.1), (.int .i64 r.2.1), (.int .i64 r.2.2.1), (.int .i64 r.2.2.2.1), (.int .i64 r.2.2.2.2.1), (.int .i64 r.2.2.2.2.2.1), (.int .i64 r.2.2.2.2.2.2.1), (.bool r.2.2.2.2.2.2.2.1)], .cells [(.int .i64 r.2.2.2.2.2.2.2.2.1), (.int .i64 r.2.2.2.2.2.2.2.2.2.1), (.int .i64 r.2.2.2.2.2.2.2.2.2.2.1), (.int .i64 r.2.2.2.2.2.2.2.2.2.2.2.1), (.int .i64 r.2.2.2.2.2.2.2.2.2.2.2.2.1), (.int .i64 r.2.2.2.2.2.2.2.2.2.2.2.2.2.1), (.int .i64 r.2.2.2.2.2.2.2.2.2.2.2.2.2.2.1), (.bool r.2.2.2.2.2.2.2.2.2.2.2.2.2.2.2)]] }))) none := funext ih
    rw [hu, hs]
    exact (I.matchedWith_r_step3_nat (fun o => optC o (fun (r : (Int × Int × Int × Int × Int × Int × Int × Bool × Int × Int × Int × Int × Int × Int × Int × Bool) ⊕ (Int × Int × Int × Int × Int × Int × Int × Bool × Int × Int × Int × Int × Int × Int × Int × Bool)) => (sumC r (fun (r : Int × Int × Int × Int × Int × Int × Int × Bool × Int × Int × Int × Int × Int × Int × Int × Bool) => k (.ret) { n := 58, t := [(8, (.ptr 0 0)), (9, (.ptr 1 0))], h := [.cells [(.int .i64 r.1), (.int .i64 r.2.1), (.int .i64 r.2.2.1), (.int .i64 r.2.2.2.1), (.int .i64 r.2.2.2.2.1), (.int .i64 r.2.2.2.2.2.1), (.int .i64 r.2.2.2.2.2.2.1), (.bool r.2.2.2.2.2.2.2.1)], .cells [(.int .i64 r.2.2.2.2.2.2.2.2.1), (.int .i64 r.2.2.2.2.2.2.2.2.2.1), (.int .i64 r.2.2.2.2.2.2.2.2.2.2.1), (.int .i64 r.2.2.2.2.2.2.2.2.2.2.2.1), (.int .i64 r.2.2.2.2.2.2.2.2.2.2.2.2.1), (.int .i64 r.2.2.2.2.2.2.2.2.2.2.2.2.2.1), (.int .i64 r.2.2.2.2.2.2.2.2.2.2.2.2.2.2.1), (.bool r.2.2.2.2.2.2.2.2.2.2.2.2.2.2.2)]] }) (fun (r : Int × Int × Int × Int × Int × Int × Int × Bool × Int × Int × Int × Int × Int × Int × Int × Bool) => k (.exit 0) { n := 58, t := [(8, (.ptr 0 0)), (9, (.ptr 1 0))], h := [.cells [(.int .i64 r.1), (.int .i64 r.2.1), (.int .i64 r.2.2.1), (.int .i64 r.2.2.2.1), (.int .i64 r.2.2.2.2.1), (.int .i64 r.2.2.2.2.2.1), (.int .i64 r.2.2.2.2.2.2.1), (.bool r.2.2.2.2.2.2.2.1)], .cells [(.int .i64 r.2.2.2.2.2.2.2.2.1), (.int .i64 r.2.2.2.2.2.2.2.2.2.1), (.int .i64 r.2.2.2.2.2.2.2.2.2.2.1), (.int .i64 r.2.2.2.2.2.2.2.2.2.2.2.1), (.int .i64 r.2.2.2.2.2.2.2.2.2.2.2.2.1), (.int .i64 r.2.2.2.2.2.2.2.2.2.2.2.2.2.1), (.int .i64 r.2.2.2.2.2.2.2.2.2.2.2.2.2.2.1), (.bool r.2.2.2.2.2.2.2.2.2.2.2.2.2.2.2)]] }))) none) x0 x1 x2 s_.1 s_.2.1 s_.2.2.1 s_.2.2.2.1 s_.2.2.2.2.1 s_.2.2.2.2.2.1 s_.2.2.2.2.2.2.1 s_.2.2.2.2.2.2.2.1 s_.2.2.2.2.2.2.2.2.1 s_.2.2.2.2.2.2.2.2.2.1 s_.2.2.2.2.2.2.2.2.2.2.1 s_.2.2.2.2.2.2.2.2.2.2.2.1 s_.2.2.2.2.2.2.2.2.2.2.2.2.1 s_.2.2.2.2.2.2.2.2.2.2.2.2.2.1 s_.2.2.2.2.2.2.2.2.2.2.2.2.2.2.1 s_.2.2.2.2.2.2.2.2.2.2.2.2.2.2.2.1 s_.2.2.2.2.2.2.2.2.2.2.2.2.2.2.2.2 (I.matchedWith_r_run3 x0 x1 x2 n) (fun d => some ((Sum.inl d))) (fun d => some ((Sum.inr d))) none).symm
noncomputable def I.matchedWith_r_tree {α : Type} (net : List Int) (to_ : Int) (guard : Int) (before0 : Int) (before1 : Int) (before2 : Int) (before3 : Int) (before4 : Int) (before5 : Int) (before6 : Int) (before7 : Bool) (leaf0_ : Int × Int × Int × Int × Int × Int × Int × Bool → α) (fail_ : α) : α :=
  (optC (I.matchedWith_r_run3 net to_ guard FUEL (0, 0, 0, 0, 0, 0, 0, 0, false, before0, before1, before2, before3, before4, before5, before6, before7)) (fun qy_5 => (sumC qy_5 (fun (qy_5 : Int × Int × Int × Int × Int × Int × Int × Bool × Int × Int × Int × Int × Int × Int × Int × Bool) => (leaf0_ (qy_5.1, qy_5.2.1, qy_5.2.2.1, qy_5.2.2.2.1, qy_5.2.2.2.2.1, qy_5.2.2.2.2.2.1, qy_5.2.2.2.2.2.2.1, qy_5.2.2.2.2.2.2.2.1))) (fun (qy_5 : Int × Int × Int × Int × Int × Int × Int × Bool × Int × Int × Int × Int × Int × Int × Int × Bool) => (leaf0_ (qy_5.2.2.2.2.2.2.2.2.1, qy_5.2.2.2.2.2.2.2.2.2.1, qy_5.2.2.2.2.2.2.2.2.2.2.1, qy_5.2.2.2.2.2.2.2.2.2.2.2.1, qy_5.2.2.2.2.2.2.2.2.2.2.2.2.1, qy_5.2.2.2.2.2.2.2.2.2.2.2.2.2.1, qy_5.2.2.2.2.2.2.2.2.2.2.2.2.2.2.1, qy_5.2.2.2.2.2.2.2.2.2.2.2.2.2.2.2))))) fail_)
theorem I.matchedWith_r_tree_nat {α γ : Type} (g : α → γ) (net : List Int) (to_ : Int) (guard : Int) (before0 : Int) (before1 : Int) (before2 : Int) (before3 : Int) (before4 : Int) (before5 : Int) (before6 : Int) (before7 : Bool) (leaf0_ : Int × Int × Int × Int × Int × Int × Int × Bool → α) (fail_ : α) : g (I.matchedWith_r_tree net to_ guard before0 before1 before2 before3 before4 before5 before6 before7 leaf0_ fail_) = I.matchedWith_r_tree net to_ guard before0 before1 before2 before3 before4 before5 before6 before7 (fun d => g (leaf0_ d)) (g fail_) := by
  unfold I.matchedWith_r_tree; simp only [apply_cnd g, apply_optC g, apply_sumC g]
noncomputable def I.matchedWith_r_t (net : List Int) (to_ : Int) (guard : Int) (before0 : Int) (before1 : Int) (before2 : Int) (before3 : Int) (before4 : Int) (before5 : Int) (before6 : Int) (before7 : Bool) : Option (Int × Int × Int × Int × Int × Int × Int × Bool) := I.matchedWith_r_tree net to_ guard before0 before1 before2 before3 before4 before5 before6 before7 (fun d => some d) none
theorem I.matchedWith_r_den (net : List Int) (to_ : Int) (guard : Int) (before0 : Int) (before1 : Int) (before2 : Int) (before3 : Int) (before4 : Int) (before5 : Int) (before6 : Int) (before7 : Bool) (κ : V → List E → R) : I.matchedWith_r_F [.ro false (.ints .i64 net), .int .i64 to_, .int .i64 guard, .agg [.int .i64 before0, .int .i64 before1, .int .i64 before2, .int .i64 before3, .int .i64 before4, .int .i64 before5, .int .i64 before6, .bool before7]] [] κ = optC (I.matchedWith_r_t net to_ guard before0 before1 before2 before3 before4 before5 before6 before7) (fun (r : Int × Int × Int × Int × Int × Int × Int × Bool) => κ (.agg [(.int .i64 r.1), (.int .i64 r.2.1), (.int .i64 r.2.2.1), (.int .i64 r.2.2.2.1), (.int .i64 r.2.2.2.2.1), (.int .i64 r.2.2.2.2.2.1), (.int .i64 r.2.2.2.2.2.2.1), (.bool r.2.2.2.2.2.2.2)]) []) none := by
  have hu : I.matchedWith_r_F [.ro false (.ints .i64 net), .int .i64 to_, .int .i64 guard, .agg [.int .i64 before0, .int .i64 before1, .int .i64 before2, .int .i64 before3, .int .i64 before4, .int .i64 before5, .int .i64 before6, .bool before7]] [] κ = I.matchedWith_r_tree net to_ guard before0 before1 before2 before3 before4 before5 before6 before7 (fun d => κ (.agg [(.int .i64 d.1), (.int .i64 d.2.1), (.int .i64 d.2.2.1), (.int .i64 d.2.2.2.1), (.int .i64 d.2.2.2.2.1), (.int .i64 d.2.2.2.2.2.1), (.int .i64 d.2.2.2.2.2.2.1), (.bool d.2.2.2.2.2.2.2)]) []) none := by
    refine Eq.trans (show I.matchedWith_r_F [.ro false (.ints .i64 net), .int .i64 to_, .int .i64 guard, .agg [.int .i64 before0, .int .i64 before1, .int .i64 before2, .int .i64 before3, .int .i64 before4, .int .i64 before5, .int .i64 before6, .bool before7]] [] κ = (I.matchedWith_r_L3 FUEL { n := 58, t := [(0, (.ro false (.ints .i64 net))), (1, (.int .i64 to_)), (2, (.int .i64 guard)), (8, (.ptr 0 0)), (9, (.ptr 1 0)), (10, (.int .i64 0))], h := [.cells [(.int .i64 0), (.int .i64 0), (.int .i64 0), (.int .i64 0), (.int .i64 0), (.int .i64 0), (.int .i64 0), (.bool false)], .cells [(.int .i64 before0), (.int .i64 before1), (.int .i64 before2), (.int .i64 before3), (.int .i64 before4), (.int .i64 before5), (.int .i64 before6), (.bool before7)]] } (I.matchedWith_r_k3 κ)) by kernel_rfl) ?_
    refine (I.matchedWith_r_L3_run net to_ guard FUEL (0, 0, 0, 0, 0, 0, 0, 0, false, before0, before1, before2, before3, before4, before5, before6, before7) (I.matchedWith_r_k3 κ)).trans (optC_congr (fun qy_5 => ?_))
    rcases qy_5 with qy_5 | qy_5
    · kernel_rfl
    · kernel_rfl
  rw [hu]
  exact (I.matchedWith_r_tree_nat (fun o => optC o (fun (r : Int × Int × Int × Int × Int × Int × Int × Bool) => κ (.agg [(.int .i64 r.1), (.int .i64 r.2.1), (.int .i64 r.2.2.1), (.int .i64 r.2.2.2.1), (.int .i64 r.2.2.2.2.1), (.int .i64 r.2.2.2.2.2.1), (.int .i64 r.2.2.2.2.2.2.1), (.bool r.2.2.2.2.2.2.2)]) []) none) net to_ guard before0 before1 before2 before3 before4 before5 before6 before7 (fun d => some d) none).symm
noncomputable def I.matchedWith_r_s : D.Spec where
  keep := false
  pure := true
  add := true
  ds := [.int .i64, .invalid, .invalid, .invalid]
  sp := fun args h κ => match args, h with
    | [.ro false (.ints .i64 net), .int .i64 to_, .int .i64 guard, .agg [.int .i64 before0, .int .i64 before1, .int .i64 before2, .int .i64 before3, .int .i64 before4, .int .i64 before5, .int .i64 before6, .bool before7]], [] => optC (I.matchedWith_r_t net to_ guard before0 before1 before2 before3 before4 before5 before6 before7) (fun (r : Int × Int × Int × Int × Int × Int × Int × Bool) => κ (.agg [(.int .i64 r.1), (.int .i64 r.2.1), (.int .i64 r.2.2.1), (.int .i64 r.2.2.2.1), (.int .i64 r.2.2.2.2.1), (.int .i64 r.2.2.2.2.2.1), (.int .i64 r.2.2.2.2.2.2.1), (.bool r.2.2.2.2.2.2.2)]) []) none
    | _, _ => none
theorem I.matchedWith_r_ok (hrec_ : SpecOk Try.prog 85 I.matchedWith_r0_s) : SpecOk Try.prog 85 I.matchedWith_r_s := by
  refine SpecOk.of TDok mixed (T := I.matchedWith_r_T) ?_ (ann := I.matchedWith_r_ann) Try.func85 rfl (by decide +kernel) ?_ ?_ ?_ ?_
  · intro p hp
    simp only [I.matchedWith_r_T, List.mem_cons, List.not_mem_nil, or_false] at hp
    rcases hp with rfl | rfl | rfl | rfl
    · exact I.ballIn_ok
    · exact I.hasPlace_ok
    · exact I.with_ok
    · exact hrec_
  · intro args h κ r hh
    simp only [I.matchedWith_r_s] at hh
    split at hh
    · exact (I.matchedWith_r_den _ _ _ _ _ _ _ _ _ _ _ κ).trans hh
    · cases hh
  · intro args h κ r hh
    simp only [I.matchedWith_r_s] at hh ⊢
    split at hh
    · exact optC_law2 (F := fun (r : Int × Int × Int × Int × Int × Int × Int × Bool) κ => κ (.agg [(.int .i64 r.1), (.int .i64 r.2.1), (.int .i64 r.2.2.1), (.int .i64 r.2.2.2.1), (.int .i64 r.2.2.2.2.1), (.int .i64 r.2.2.2.2.2.1), (.int .i64 r.2.2.2.2.2.2.1), (.bool r.2.2.2.2.2.2.2)]) []) (fun b κ r hb => ⟨_, _, hb, fun _ => rfl⟩) hh
    · cases hh
  · intro _ args h κ r hh
    simp only [I.matchedWith_r_s] at hh
    split at hh
    · exact ⟨rfl, fun _ => rfl⟩
    · cases hh
  · intro _ args h κ r hh
    simp only [I.matchedWith_r_s] at hh
    split at hh
    · rfl
    · cases hh
end
noncomputable def I.matchedWith_td : Nat → (List Int) → Int → Int → Int → Int → Int → Int → Int → Int → Int → Bool → Option (Int × Int × Int × Int × Int × Int × Int × Bool)
  | 0 => fun _ _ _ _ _ _ _ _ _ _ _ => none
  | d + 1 => @I.matchedWith_r_t ⟨I.matchedWith_td d⟩
noncomputable def I.matchedWith_t (net : List Int) (to_ : Int) (guard : Int) (before0 : Int) (before1 : Int) (before2 : Int) (before3 : Int) (before4 : Int) (before5 : Int) (before6 : Int) (before7 : Bool) : Option (Int × Int × Int × Int × Int × Int × Int × Bool) := I.matchedWith_td FUEL net to_ guard before0 before1 before2 before3 before4 before5 before6 before7
noncomputable def I.matchedWith_s : D.Spec where
  keep := false
  pure := true
  add := true
  ds := [.int .i64, .invalid, .invalid, .invalid]
  sp := fun args h κ => match args, h with
    | [.ro false (.ints .i64 net), .int .i64 to_, .int .i64 guard, .agg [.int .i64 before0, .int .i64 before1, .int .i64 before2, .int .i64 before3, .int .i64 before4, .int .i64 before5, .int .i64 before6, .bool before7]], [] => optC (I.matchedWith_t net to_ guard before0 before1 before2 before3 before4 before5 before6 before7) (fun (r : Int × Int × Int × Int × Int × Int × Int × Bool) => κ (.agg [.int .i64 r.1, .int .i64 r.2.1, .int .i64 r.2.2.1, .int .i64 r.2.2.2.1, .int .i64 r.2.2.2.2.1, .int .i64 r.2.2.2.2.2.1, .int .i64 r.2.2.2.2.2.2.1, .bool r.2.2.2.2.2.2.2]) []) none
    | _, _ => none
theorem I.matchedWith_okd : ∀ d : Nat, SpecOk Try.prog 85 (@I.matchedWith_r0_s ⟨I.matchedWith_td d⟩)
  | 0 => SpecOk.zero Try.func85 rfl (by decide +kernel) (fun args h κ => by
      simp only [I.matchedWith_r0_s]
      split
      · rfl
      · rfl)
  | d + 1 => @I.matchedWith_r_ok ⟨I.matchedWith_td d⟩ (I.matchedWith_okd d)
theorem I.matchedWith_ok : SpecOk Try.prog 85 I.matchedWith_s := I.matchedWith_okd FUEL

-- loop.example/guardsonnets/impl.allMoveIn
noncomputable def I.allMoveIn_T : List (Nat × D.Spec) := [(35, I.sizeOf_s), (32, I.hasPlace_s), (85, I.matchedWith_s)]
def I.allMoveIn_ann : Nat → List Nat × List Nat
  | 5 => ([0, 1, 2, 7, 8], [6])
  | _ => ([], [])
noncomputable def I.allMoveIn_F (args : List V) (h : List E) (κ : V → List E → R) : R := funC TD (tableK I.allMoveIn_T) I.allMoveIn_ann (drawOk TD (tableP I.allMoveIn_T)) FUEL Try.f83 args h κ
noncomputable def I.allMoveIn_L5 (n : Nat) (σ : St) (k : X → St → R) : R := iterC 0 (fun σ k => denC TD (tableK I.allMoveIn_T) I.allMoveIn_ann (drawOk TD (tableP I.allMoveIn_T)) 0 FUEL ((findLoop 5 (Try.f83.body.getD .skip)).getD .skip) σ k) [0, 1, 2, 7, 8] [6] n σ k
noncomputable def I.allMoveIn_k5 (κ : V → List E → R) : X → St → R := (afterC TD (tableK I.allMoveIn_T) I.allMoveIn_ann (drawOk TD (tableP I.allMoveIn_T)) 0 FUEL 5 (Try.f83.body.getD .skip) (finC TD 0 Try.f83 κ)).getD (fun _ _ => none)
noncomputable def I.allMoveIn_step5 {α : Type} (x0 : List Int) (x1 : Int) (x2 : Int) (x8 : Int) (r0_0 : Int) (r0_1 : Int) (r0_2 : Int) (r0_3 : Int) (r0_4 : Int) (r0_5 : Int) (r0_6 : Int) (r0_7 : Bool) (next_ : Int × Int × Int × Int × Int × Int × Int × Int × Bool → α) (out0_ : Bool → α) (out1_ : Unit → α) (fail_ : α) : α :=
  (bif decide (x8 < (↑x0.length : Int)) then (optC (I.hasPlace_t x1 x8) (fun c_3 => (bif !c_3 then (next_ (IntKind.i64.wrap (x8 + 1), r0_0, r0_1, r0_2, r0_3, r0_4, r0_5, r0_6, r0_7)) else (optC (I.matchedWith_t x0 x2 x8 r0_0 r0_1 r0_2 r0_3 r0_4 r0_5 0 false) (fun c_4 => (bif !c_4.snd.snd.snd.snd.snd.snd.snd then (out0_ false) else (next_ (IntKind.i64.wrap (x8 + 1), c_4.fst, c_4.snd.fst, c_4.snd.snd.fst, c_4.snd.snd.snd.fst, c_4.snd.snd.snd.snd.fst, c_4.snd.snd.snd.snd.snd.fst, c_4.snd.snd.snd.snd.snd.snd.fst, c_4.snd.snd.snd.snd.snd.snd.snd)))) fail_))) fail_) else (out1_ ()))
theorem I.allMoveIn_step5_nat {α γ : Type} (g : α → γ) (x0 : List Int) (x1 : Int) (x2 : Int) (x8 : Int) (r0_0 : Int) (r0_1 : Int) (r0_2 : Int) (r0_3 : Int) (r0_4 : Int) (r0_5 : Int) (r0_6 : Int) (r0_7 : Bool) (next_ : Int × Int × Int × Int × Int × Int × Int × Int × Bool → α) (out0_ : Bool → α) (out1_ : Unit → α) (fail_ : α) : g (I.allMoveIn_step5 x0 x1 x2 x8 r0_0 r0_1 r0_2 r0_3 r0_4 r0_5 r0_6 r0_7 next_ out0_ out1_ fail_) = I.allMoveIn_step5 x0 x1 x2 x8 r0_0 r0_1 r0_2 r0_3 r0_4 r0_5 r0_6 r0_7 (fun s => g (next_ s)) (fun d => g (out0_ d)) (fun d => g (out1_ d)) (g fail_) := by
  unfold I.allMoveIn_step5; simp only [apply_cnd g, apply_optC g, apply_sumC g]
noncomputable def I.allMoveIn_run5 (x0 : List Int) (x1 : Int) (x2 : Int) : Nat → Int × Int × Int × Int × Int × Int × Int × Int × Bool → Option ((Bool) ⊕ (Unit))
  | 0, _ => none
  | n + 1, s_ => I.allMoveIn_step5 x0 x1 x2 s_.1 s_.2.1 s_.2.2.1 s_.2.2.2.1 s_.2.2.2.2.1 s_.2.2.2.2.2.1 s_.2.2.2.2.2.2.1 s_.2.2.2.2.2.2.2.1 s_.2.2.2.2.2.2.2.2 (I.allMoveIn_run5 x0 x1 x2 n) (fun d => some ((Sum.inl d))) (fun d => some ((Sum.inr d))) none
theorem I.allMoveIn_L5_run (x0 : List Int) (x1 : Int) (x2 : Int) (n : Nat) (s_ : Int × Int × Int × Int × Int × Int × Int × Int × Bool) (k : X → St → R) : I.allMoveIn_L5 n { n := 35, t := [(0, (.ro false (.ints .i64 x0))), (1, (.int .i64 x1)), (2, (.int .i64 x2)), (7, (.ptr 0 0)), (8, (.int .i64 s_.1))], h := [.cells [(.int .i64 s_.2.1), (.int .i64 s_.2.2.1), (.int .i64 s_.2.2.2.1), (.int .i64 s_.2.2.2.2.1), (.int .i64 s_.2.2.2.2.2.1), (.int .i64 s_.2.2.2.2.2.2.1), (.int .i64 s_.2.2.2.2.2.2.2.1), (.bool s_.2.2.2.2.2.2.2.2)]] } k = optC (I.allMoveIn_run5 x0 x1 x2 n s_) (fun (r : (Bool) ⊕ (Unit)) => (sumC r (fun (r : Bool) => k (.ret) { n := 35, t := [(6, (.bool r))], h := [] }) (fun (r : Unit) => k (.exit 0) { n := 35, t := [(6, .junk)], h := [] }))) none := by
  induction n generalizing s_ with
  | zero => rfl
  | succ n ih =>
    have hu : I.allMoveIn_L5 (n + 1) { n := 35, t := [(0, (.ro false (.ints .i64 x0))), (1, (.int .i64 x1)), (2, (.int .i64 x2)), (7, (.ptr 0 0)), (8, (.int .i64 s_.1))], h := [.cells [(.int .i64 s_.2.1), (.int .i64 s_.2.2.1), (.int .i64 s_.2.2.2.1), (.int .i64 s_.2.2.2.2.1), (.int .i64 s_.2.2.2.2.2.1), (.int .i64 s_.2.2.2.2.2.2.1), (.int .i64 s_.2.2.2.2.2.2.2.1), (.bool s_.2.2.2.2.2.2.2.2)]] } k = I.allMoveIn_step5 x0 x1 x2 s_.1 s_.2.1 s_.2.2.1 s_.2.2.2.1 s_.2.2.2.2.1 s_.2.2.2.2.2.1 s_.2.2.2.2.2.2.1 s_.2.2.2.2.2.2.2.1 s_.2.2.2.2.2.2.2.2 (fun s_ => I.allMoveIn_L5 n { n := 35, t := [(0, (.ro false (.ints .i64 x0))), (1, (.int .i64 x1)), (2, (.int .i64 x2)), (7, (.ptr 0 0)), (8, (.int .i64 s_.1))], h := [.cells [(.int .i64 s_.2.1), (.int .i64 s_.2.2.1), (.int .i64 s_.2.2.2.1), (.int .i64 s_.2.2.2.2.1), (.int .i64 s_.2.2.2.2.2.1), (.int .i64 s_.2.2.2.2.2.2.1), (.int .i64 s_.2.2.2.2.2.2.2.1), (.bool s_.2.2.2.2.2.2.2.2)]] } k) (fun d => k (.ret) { n := 35, t := [(6, (.bool d))], h := [] }) (fun d => k (.exit 0) { n := 35, t := [(6, .junk)], h := [] }) none := by
      kernel_rfl
    have hs : (fun s_ : Int × Int × Int × Int × Int × Int × Int × Int × Bool => I.allMoveIn_L5 n { n := 35, t := [(0, (.ro false (.ints .i64 x0))), (1, (.int .i64 x1)), (2, (.int .i64 x2)), (7, (.ptr 0 0)), (8, (.int .i64 s_.1))], h := [.cells [(.int .i64 s_.2.1), (.int .i64 s_.2.2.1), (.int .i64 s_.2.2.2.1), (.int .i64 s_.2.2.2.2.1), (.int .i64 s_.2.2.2.2.2.1), (.int .i64 s_.2.2.2.2.2.2.1), (.int .i64 s_.2.2.2.2.2.2.2.1), (.bool s_.2.2.2.2.2.2.2.2)]] } k) = fun s_ => optC (I.allMoveIn_run5 x0 x1 x2 n s_) (fun (r : (Bool) ⊕ (Unit)) => (sumC r (fun (r : Bool) => k (.ret) { n := 35, t := [(6, (.bool r))], h := [] }) (fun (r : Unit) => k (.exit 0) { n := 35, t := [(6, .junk)], h := [] }))) none := funext ih
    rw [hu, hs]
    exact (I.allMoveIn_step5_nat (fun o => optC o (fun (r : (Bool) ⊕ (Unit)) => (sumC r (fun (r : Bool) => k (.ret) { n := 35, t := [(6, (.bool r))], h := [] }) (fun (r : Unit) => k (.exit 0) { n := 35, t := [(6, .junk)], h := [] }))) none) x0 x1 x2 s_.1 s_.2.1 s_.2.2.1 s_.2.2.2.1 s_.2.2.2.2.1 s_.2.2.2.2.2.1 s_.2.2.2.2.2.2.1 s_.2.2.2.2.2.2.2.1 s_.2.2.2.2.2.2.2.2 (I.allMoveIn_run5 x0 x1 x2 n) (fun d => some ((Sum.inl d))) (fun d => some ((Sum.inr d))) none).symm
noncomputable def I.allMoveIn_tree {α : Type} (net : List Int) (from_ : Int) (to_ : Int) (leaf0_ : Bool → α) (fail_ : α) : α :=
  (optC (I.sizeOf_t from_) (fun c_1 => (optC (I.sizeOf_t to_) (fun c_2 => (bif !c_1 == c_2 then (leaf0_ false) else (optC (I.allMoveIn_run5 net from_ to_ FUEL (0, 0, 0, 0, 0, 0, 0, 0, false)) (fun qy_5 => (sumC qy_5 (fun (qy_5 : Bool) => (leaf0_ qy_5)) (fun (qy_5 : Unit) => (leaf0_ true)))) fail_))) fail_)) fail_)
theorem I.allMoveIn_tree_nat {α γ : Type} (g : α → γ) (net : List Int) (from_ : Int) (to_ : Int) (leaf0_ : Bool → α) (fail_ : α) : g (I.allMoveIn_tree net from_ to_ leaf0_ fail_) = I.allMoveIn_tree net from_ to_ (fun d => g (leaf0_ d)) (g fail_) := by
  unfold I.allMoveIn_tree; simp only [apply_cnd g, apply_optC g, apply_sumC g]
noncomputable def I.allMoveIn_t (net : List Int) (from_ : Int) (to_ : Int) : Option (Bool) := I.allMoveIn_tree net from_ to_ (fun d => some d) none
theorem I.allMoveIn_den (net : List Int) (from_ : Int) (to_ : Int) (κ : V → List E → R) : I.allMoveIn_F [.ro false (.ints .i64 net), .int .i64 from_, .int .i64 to_] [] κ = optC (I.allMoveIn_t net from_ to_) (fun (r : Bool) => κ (.bool r) []) none := by
  have hu : I.allMoveIn_F [.ro false (.ints .i64 net), .int .i64 from_, .int .i64 to_] [] κ = I.allMoveIn_tree net from_ to_ (fun d => κ (.bool d) []) none := by
    refine Eq.trans (show I.allMoveIn_F [.ro false (.ints .i64 net), .int .i64 from_, .int .i64 to_] [] κ = (optC (I.sizeOf_t from_) (fun c_1 => (optC (I.sizeOf_t to_) (fun c_2 => (bif !c_1 == c_2 then (κ (.bool false) []) else (I.allMoveIn_L5 FUEL { n := 35, t := [(0, (.ro false (.ints .i64 net))), (1, (.int .i64 from_)), (2, (.int .i64 to_)), (7, (.ptr 0 0)), (8, (.int .i64 0))], h := [.cells [(.int .i64 0), (.int .i64 0), (.int .i64 0), (.int .i64 0), (.int .i64 0), (.int .i64 0), (.int .i64 0), (.bool false)]] } (I.allMoveIn_k5 κ)))) none)) none) by kernel_rfl) ?_
    refine optC_congr (fun c_1 => ?_)
    refine optC_congr (fun c_2 => ?_)
    refine cnd_congr ?_ ?_
    · kernel_rfl
    · refine (I.allMoveIn_L5_run net from_ to_ FUEL (0, 0, 0, 0, 0, 0, 0, 0, false) (I.allMoveIn_k5 κ)).trans (optC_congr (fun qy_5 => ?_))
      rcases qy_5 with qy_5 | qy_5
      · kernel_rfl
      · kernel_rfl
  rw [hu]
  exact (I.allMoveIn_tree_nat (fun o => optC o (fun (r : Bool) => κ (.bool r) []) none) net from_ to_ (fun d => some d) none).symm
noncomputable def I.allMoveIn_s : D.Spec where
  keep := false
  pure := true
  add := true
  ds := [.int .i64, .invalid, .invalid]
  sp := fun args h κ => match args, h with
    | [.ro false (.ints .i64 net), .int .i64 from_, .int .i64 to_], [] => optC (I.allMoveIn_t net from_ to_) (fun (r : Bool) => κ (.bool r) []) none
    | _, _ => none
theorem I.allMoveIn_ok : SpecOk Try.prog 83 I.allMoveIn_s := by
  refine SpecOk.of TDok mixed (T := I.allMoveIn_T) ?_ (ann := I.allMoveIn_ann) Try.func83 rfl (by decide +kernel) ?_ ?_ ?_ ?_
  · intro p hp
    simp only [I.allMoveIn_T, List.mem_cons, List.not_mem_nil, or_false] at hp
    rcases hp with rfl | rfl | rfl
    · exact I.sizeOf_ok
    · exact I.hasPlace_ok
    · exact I.matchedWith_ok
  · intro args h κ r hh
    simp only [I.allMoveIn_s] at hh
    split at hh
    · exact (I.allMoveIn_den _ _ _ κ).trans hh
    · cases hh
  · intro args h κ r hh
    simp only [I.allMoveIn_s] at hh ⊢
    split at hh
    · exact optC_law2 (F := fun (r : Bool) κ => κ (.bool r) []) (fun b κ r hb => ⟨_, _, hb, fun _ => rfl⟩) hh
    · cases hh
  · intro _ args h κ r hh
    simp only [I.allMoveIn_s] at hh
    split at hh
    · exact ⟨rfl, fun _ => rfl⟩
    · cases hh
  · intro _ args h κ r hh
    simp only [I.allMoveIn_s] at hh
    split at hh
    · rfl
    · cases hh


end Go.Proofs.Ytleianhibhpgpaa
