/- Twins of the translated functions, with their proofs. Conditions: none. -/
import Derived.Test.YtpmiinabjkdggaaBzT1
set_option linter.unusedVariables false
set_option linter.unusedSimpArgs false
namespace Go.Proofs.Ytpmiinabjkdggaa
open D Go.RowKit
-- loop.example/guardsonnets/impl.smallWatchIn
noncomputable def I.smallWatchIn_T : List (Nat × D.Spec) := [(50, I.allOf_s), (52, I.sizeOf_s), (48, I.watchIn_s)]
def I.smallWatchIn_ann : Nat → List Nat × List Nat
  | 3 => ([0, 3, 4], [3])
  | _ => ([], [])
noncomputable def I.smallWatchIn_F (args : List V) (h : List E) (κ : V → List E → R) : R := funC TD (tableK I.smallWatchIn_T) I.smallWatchIn_ann (drawOk (tableP I.smallWatchIn_T)) FUEL Try.f54 args h κ
noncomputable def I.smallWatchIn_L3 (n : Nat) (σ : St) (k : X → St → R) : R := iterC 0 (fun σ k => denC TD (tableK I.smallWatchIn_T) I.smallWatchIn_ann (drawOk (tableP I.smallWatchIn_T)) 0 FUEL ((findLoop 3 (Try.f54.body.getD .skip)).getD .skip) σ k) [0, 3, 4] [3] n σ k
noncomputable def I.smallWatchIn_k3 (κ : V → List E → R) : X → St → R := (afterC TD (tableK I.smallWatchIn_T) I.smallWatchIn_ann (drawOk (tableP I.smallWatchIn_T)) 0 FUEL 3 (Try.f54.body.getD .skip) (finC TD 0 Try.f54 κ)).getD (fun _ _ => none)
noncomputable def I.smallWatchIn_step3 {α : Type} (x0 : List Int) (x3 : Int) (x4 : Int) (next_ : Int × Int → α) (out0_ : Int → α) (fail_ : α) : α :=
  (optC (I.allOf_t x0) (fun c_2 => (bif decide (x4 < c_2) then (optC (I.sizeOf_t x4) (fun c_3 => (optC (I.sizeOf_t x3) (fun c_4 => (bif decide (c_3 < c_4) then (optC (I.watchIn_t x0 x4) (fun c_5 => (bif c_5 then (next_ (x4, IntKind.i64.wrap (x4 + 1))) else (next_ (x3, IntKind.i64.wrap (x4 + 1))))) fail_) else (next_ (x3, IntKind.i64.wrap (x4 + 1))))) fail_)) fail_) else (out0_ x3))) fail_)
theorem I.smallWatchIn_step3_nat {α γ : Type} (g : α → γ) (x0 : List Int) (x3 : Int) (x4 : Int) (next_ : Int × Int → α) (out0_ : Int → α) (fail_ : α) : g (I.smallWatchIn_step3 x0 x3 x4 next_ out0_ fail_) = I.smallWatchIn_step3 x0 x3 x4 (fun s => g (next_ s)) (fun d => g (out0_ d)) (g fail_) := by
  unfold I.smallWatchIn_step3; simp only [apply_cnd g, apply_optC g, apply_sumC g]
noncomputable def I.smallWatchIn_run3 (x0 : List Int) : Nat → Int × Int → Option (Int)
  | 0, _ => none
  | n + 1, s_ => I.smallWatchIn_step3 x0 s_.1 s_.2 (I.smallWatchIn_run3 x0 n) (fun d => some d) none
theorem I.smallWatchIn_L3_run (x0 : List Int) (n : Nat) (s_ : Int × Int) (k : X → St → R) : I.smallWatchIn_L3 n { n := 25, t := [(0, (.ro false (.ints .i64 x0))), (3, (.int .i64 s_.1)), (4, (.int .i64 s_.2))], h := [] } k = optC (I.smallWatchIn_run3 x0 n s_) (fun (r : Int) => k (.exit 0) { n := 25, t := [(3, (.int .i64 r))], h := [] }) none := by
  induction n generalizing s_ with
  | zero => rfl
  | succ n ih =>
    have hu : I.smallWatchIn_L3 (n + 1) { n := 25, t := [(0, (.ro false (.ints .i64 x0))), (3, (.int .i64 s_.1)), (4, (.int .i64 s_.2))], h := [] } k = I.smallWatchIn_step3 x0 s_.1 s_.2 (fun s_ => I.smallWatchIn_L3 n { n := 25, t := [(0, (.ro false (.ints .i64 x0))), (3, (.int .i64 s_.1)), (4, (.int .i64 s_.2))], h := [] } k) (fun d => k (.exit 0) { n := 25, t := [(3, (.int .i64 d))], h := [] }) none := by
      kernel_rfl
    have hs : (fun s_ : Int × Int => I.smallWatchIn_L3 n { n := 25, t := [(0, (.ro false (.ints .i64 x0))), (3, (.int .i64 s_.1)), (4, (.int .i64 s_.2))], h := [] } k) = fun s_ => optC (I.smallWatchIn_run3 x0 n s_) (fun (r : Int) => k (.exit 0) { n := 25, t := [(3, (.int .i64 r))], h := [] }) none := funext ih
    rw [hu, hs]
    exact (I.smallWatchIn_step3_nat (fun o => optC o (fun (r : Int) => k (.exit 0) { n := 25, t := [(3, (.int .i64 r))], h := [] }) none) x0 s_.1 s_.2 (I.smallWatchIn_run3 x0 n) (fun d => some d) none).symm
noncomputable def I.smallWatchIn_tree {α : Type} (net : List Int) (leaf0_ : Int → α) (fail_ : α) : α :=
  (optC (I.allOf_t net) (fun c_1 => (optC (I.smallWatchIn_run3 net FUEL (c_1, 0)) (fun qy_6 => (leaf0_ qy_6)) fail_)) fail_)
theorem I.smallWatchIn_tree_nat {α γ : Type} (g : α → γ) (net : List Int) (leaf0_ : Int → α) (fail_ : α) : g (I.smallWatchIn_tree net leaf0_ fail_) = I.smallWatchIn_tree net (fun d => g (leaf0_ d)) (g fail_) := by
  unfold I.smallWatchIn_tree; simp only [apply_cnd g, apply_optC g, apply_sumC g]
noncomputable def I.smallWatchIn_t (net : List Int) : Option (Int) := I.smallWatchIn_tree net (fun d => some d) none
theorem I.smallWatchIn_den (net : List Int) (κ : V → List E → R) : I.smallWatchIn_F [.ro false (.ints .i64 net)] [] κ = optC (I.smallWatchIn_t net) (fun (r : Int) => κ (.int .i64 r) []) none := by
  have hu : I.smallWatchIn_F [.ro false (.ints .i64 net)] [] κ = I.smallWatchIn_tree net (fun d => κ (.int .i64 d) []) none := by
    refine Eq.trans (show I.smallWatchIn_F [.ro false (.ints .i64 net)] [] κ = (optC (I.allOf_t net) (fun c_1 => (I.smallWatchIn_L3 FUEL { n := 25, t := [(0, (.ro false (.ints .i64 net))), (3, (.int .i64 c_1)), (4, (.int .i64 0))], h := [] } (I.smallWatchIn_k3 κ))) none) by kernel_rfl) ?_
    refine optC_congr (fun c_1 => ?_)
    refine (I.smallWatchIn_L3_run net FUEL (c_1, 0) (I.smallWatchIn_k3 κ)).trans (optC_congr (fun qy_6 => ?_))
    kernel_rfl
  rw [hu]
  exact (I.smallWatchIn_tree_nat (fun o => optC o (fun (r : Int) => κ (.int .i64 r) []) none) net (fun d => some d) none).symm
noncomputable def I.smallWatchIn_s : D.Spec where
  keep := false
  pure := true
  ds := [.int .i64]
  sp := fun args h κ => match args, h with
    | [.ro false (.ints .i64 net)], [] => optC (I.smallWatchIn_t net) (fun (r : Int) => κ (.int .i64 r) []) none
    | _, _ => none
theorem I.smallWatchIn_ok : SpecOk Try.prog 54 I.smallWatchIn_s := by
  refine SpecOk.of TDok mixed (T := I.smallWatchIn_T) ?_ (ann := I.smallWatchIn_ann) Try.func54 rfl (by decide +kernel) ?_ ?_ ?_
  · intro p hp
    simp only [I.smallWatchIn_T, List.mem_cons, List.not_mem_nil, or_false] at hp
    rcases hp with rfl | rfl | rfl
    · exact I.allOf_ok
    · exact I.sizeOf_ok
    · exact I.watchIn_ok
  · intro args h κ r hh
    simp only [I.smallWatchIn_s] at hh
    split at hh
    · exact (I.smallWatchIn_den _ κ).trans hh
    · cases hh
  · intro args h κ r hh
    simp only [I.smallWatchIn_s] at hh ⊢
    split at hh
    · exact optC_law2 (F := fun (r : Int) κ => κ (.int .i64 r) []) (fun b κ r hb => ⟨_, _, hb, fun _ => rfl⟩) hh
    · cases hh
  · intro _ args h κ r hh
    simp only [I.smallWatchIn_s] at hh
    split at hh
    · exact ⟨rfl, fun _ => rfl⟩
    · cases hh

-- loop.example/guardsonnets/impl.FewestWatch
noncomputable def I.FewestWatch_T : List (Nat × D.Spec) := [(16, I.NetOk_s), (54, I.smallWatchIn_s), (52, I.sizeOf_s)]
def I.FewestWatch_ann : Nat → List Nat × List Nat
  | _ => ([], [])
noncomputable def I.FewestWatch_F (args : List V) (h : List E) (κ : V → List E → R) : R := funC TD (tableK I.FewestWatch_T) I.FewestWatch_ann (drawOk (tableP I.FewestWatch_T)) FUEL Try.f25 args h κ
noncomputable def I.FewestWatch_tree {α : Type} (net : List Int) (leaf0_ : Int → α) (fail_ : α) : α :=
  (optC (I.NetOk_t net) (fun c_1 => (bif !c_1 then (leaf0_ (-1)) else (optC (I.smallWatchIn_t net) (fun c_2 => (optC (I.sizeOf_t c_2) (fun c_3 => (leaf0_ c_3)) fail_)) fail_))) fail_)
theorem I.FewestWatch_tree_nat {α γ : Type} (g : α → γ) (net : List Int) (leaf0_ : Int → α) (fail_ : α) : g (I.FewestWatch_tree net leaf0_ fail_) = I.FewestWatch_tree net (fun d => g (leaf0_ d)) (g fail_) := by
  unfold I.FewestWatch_tree; simp only [apply_cnd g, apply_optC g, apply_sumC g]
noncomputable def I.FewestWatch_t (net : List Int) : Option (Int) := I.FewestWatch_tree net (fun d => some d) none
theorem I.FewestWatch_den (net : List Int) (κ : V → List E → R) : I.FewestWatch_F [.ro false (.ints .i64 net)] [] κ = optC (I.FewestWatch_t net) (fun (r : Int) => κ (.int .i64 r) []) none := by
  have hu : I.FewestWatch_F [.ro false (.ints .i64 net)] [] κ = I.FewestWatch_tree net (fun d => κ (.int .i64 d) []) none := by
    kernel_rfl
  rw [hu]
  exact (I.FewestWatch_tree_nat (fun o => optC o (fun (r : Int) => κ (.int .i64 r) []) none) net (fun d => some d) none).symm
noncomputable def I.FewestWatch_s : D.Spec where
  keep := false
  pure := true
  ds := [.int .i64]
  sp := fun args h κ => match args, h with
    | [.ro false (.ints .i64 net)], [] => optC (I.FewestWatch_t net) (fun (r : Int) => κ (.int .i64 r) []) none
    | _, _ => none
theorem I.FewestWatch_ok : SpecOk Try.prog 25 I.FewestWatch_s := by
  refine SpecOk.of TDok mixed (T := I.FewestWatch_T) ?_ (ann := I.FewestWatch_ann) Try.func25 rfl (by decide +kernel) ?_ ?_ ?_
  · intro p hp
    simp only [I.FewestWatch_T, List.mem_cons, List.not_mem_nil, or_false] at hp
    rcases hp with rfl | rfl | rfl
    · exact I.NetOk_ok
    · exact I.smallWatchIn_ok
    · exact I.sizeOf_ok
  · intro args h κ r hh
    simp only [I.FewestWatch_s] at hh
    split at hh
    · exact (I.FewestWatch_den _ κ).trans hh
    · cases hh
  · intro args h κ r hh
    simp only [I.FewestWatch_s] at hh ⊢
    split at hh
    · exact optC_law2 (F := fun (r : Int) κ => κ (.int .i64 r) []) (fun b κ r hb => ⟨_, _, hb, fun _ => rfl⟩) hh
    · cases hh
  · intro _ args h κ r hh
    simp only [I.FewestWatch_s] at hh
    split at hh
    · exact ⟨rfl, fun _ => rfl⟩
    · cases hh

-- loop.example/guardsonnets/laws.FnFewestTotal
noncomputable def L.FnFewestTotal_T : List (Nat × D.Spec) := [(22, S.DrawFewestTotal_s), (23, I.FewestTotal_s), (24, S.FewestTotal_s), (16, I.NetOk_s), (17, L.alive_s), (19, I.LoneOf_s), (25, I.FewestWatch_s)]
def L.FnFewestTotal_ann : Nat → List Nat × List Nat
  | _ => ([], [])
noncomputable def L.FnFewestTotal_F (args : List V) (h : List E) (κ : V → List E → R) : R := funC TD (tableK L.FnFewestTotal_T) L.FnFewestTotal_ann (drawOk (tableP L.FnFewestTotal_T)) FUEL Try.f5 args h κ
noncomputable def L.FnFewestTotal_tree {α : Type} (code : List Int) (leaf0_ : Bool → α) (fail_ : α) : α :=
  (bif decide ((↑code.length : Int) > 1048576) then (leaf0_ true) else (optC (S.DrawFewestTotal_t code) (fun c_1 => (optC (I.FewestTotal_t c_1) (fun c_2 => (optC (S.FewestTotal_t c_1) (fun c_3 => (bif !c_2 == c_3 then (leaf0_ false) else (optC (I.NetOk_t c_1) (fun c_4 => (bif !c_4 then (bif c_2 == -1 then (optC (L.alive_t) (fun c_5 => (leaf0_ c_5)) fail_) else (leaf0_ false)) else (optC (I.LoneOf_t c_1) (fun c_6 => (bif !c_6 == 0 then (leaf0_ (c_2 == -1)) else (bif decide (c_2 ≥ 2) then (optC (I.FewestWatch_t c_1) (fun c_7 => (bif decide (c_2 ≥ c_7) then (optC (I.FewestWatch_t c_1) (fun c_8 => (leaf0_ (decide (c_2 ≤ IntKind.i64.wrap (2 * c_8))))) fail_) else (leaf0_ false))) fail_) else (leaf0_ false)))) fail_))) fail_))) fail_)) fail_)) fail_))
theorem L.FnFewestTotal_tree_nat {α γ : Type} (g : α → γ) (code : List Int) (leaf0_ : Bool → α) (fail_ : α) : g (L.FnFewestTotal_tree code leaf0_ fail_) = L.FnFewestTotal_tree code (fun d => g (leaf0_ d)) (g fail_) := by
  unfold L.FnFewestTotal_tree; simp only [apply_cnd g, apply_optC g, apply_sumC g]
noncomputable def L.FnFewestTotal_t (code : List Int) : Option (Bool) := L.FnFewestTotal_tree code (fun d => some d) none
theorem L.FnFewestTotal_den (code : List Int) (κ : V → List E → R) : L.FnFewestTotal_F [.ro true (.ints .u8 code)] [] κ = optC (L.FnFewestTotal_t code) (fun (r : Bool) => κ (.bool r) []) none := by
  have hu : L.FnFewestTotal_F [.ro true (.ints .u8 code)] [] κ = L.FnFewestTotal_tree code (fun d => κ (.bool d) []) none := by
    kernel_rfl
  rw [hu]
  exact (L.FnFewestTotal_tree_nat (fun o => optC o (fun (r : Bool) => κ (.bool r) []) none) code (fun d => some d) none).symm
noncomputable def L.FnFewestTotal_s : D.Spec where
  keep := true
  pure := true
  ds := [.int .u8]
  sp := fun args h κ => match args, h with
    | [.ro true (.ints .u8 code)], [] => optC (L.FnFewestTotal_t code) (fun (r : Bool) => κ (.bool r) []) none
    | _, _ => none
theorem L.FnFewestTotal_ok : SpecOk Try.prog 5 L.FnFewestTotal_s := by
  refine SpecOk.of TDok mixed (T := L.FnFewestTotal_T) ?_ (ann := L.FnFewestTotal_ann) Try.func5 rfl (by decide +kernel) ?_ ?_ ?_
  · intro p hp
    simp only [L.FnFewestTotal_T, List.mem_cons, List.not_mem_nil, or_false] at hp
    rcases hp with rfl | rfl | rfl | rfl | rfl | rfl | rfl
    · exact S.DrawFewestTotal_ok
    · exact I.FewestTotal_ok
    · exact S.FewestTotal_ok
    · exact I.NetOk_ok
    · exact L.alive_ok
    · exact I.LoneOf_ok
    · exact I.FewestWatch_ok
  · intro args h κ r hh
    simp only [L.FnFewestTotal_s] at hh
    split at hh
    · exact (L.FnFewestTotal_den _ κ).trans hh
    · cases hh
  · intro args h κ r hh
    simp only [L.FnFewestTotal_s] at hh ⊢
    split at hh
    · exact optC_law2 (F := fun (r : Bool) κ => κ (.bool r) []) (fun b κ r hb => ⟨_, _, hb, fun _ => rfl⟩) hh
    · cases hh
  · intro _ args h κ r hh
    simp only [L.FnFewestTotal_s] at hh
    split at hh
    · exact ⟨rfl, fun _ => rfl⟩
    · cases hh

-- loop.example/guardsonnets/laws.FnExactFewestTotal
noncomputable def L.FnExactFewestTotal_T : List (Nat × D.Spec) := [(20, L.toIntS_s), (24, S.FewestTotal_s), (23, I.FewestTotal_s), (21, L.eqIntS_s)]
def L.FnExactFewestTotal_ann : Nat → List Nat × List Nat
  | _ => ([], [])
noncomputable def L.FnExactFewestTotal_F (args : List V) (h : List E) (κ : V → List E → R) : R := funC TD (tableK L.FnExactFewestTotal_T) L.FnExactFewestTotal_ann (drawOk (tableP L.FnExactFewestTotal_T)) FUEL Try.f6 args h κ
noncomputable def L.FnExactFewestTotal_tree {α : Type} (aNet : List Int) (leaf0_ : Bool → α) (fail_ : α) : α :=
  (bif decide ((↑aNet.length : Int) > 1048576) then (leaf0_ true) else (optC (L.toIntS_t aNet) (fun c_1 => (optC (S.FewestTotal_t c_1) (fun c_2 => (optC (L.toIntS_t aNet) (fun c_3 => (optC (I.FewestTotal_t c_3) (fun c_4 => (bif !c_4 == c_2 then (leaf0_ false) else (optC (L.toIntS_t aNet) (fun c_5 => (optC (L.eqIntS_t c_3 c_5) (fun c_6 => (bif !c_6 then (leaf0_ false) else (leaf0_ true))) fail_)) fail_))) fail_)) fail_)) fail_)) fail_))
theorem L.FnExactFewestTotal_tree_nat {α γ : Type} (g : α → γ) (aNet : List Int) (leaf0_ : Bool → α) (fail_ : α) : g (L.FnExactFewestTotal_tree aNet leaf0_ fail_) = L.FnExactFewestTotal_tree aNet (fun d => g (leaf0_ d)) (g fail_) := by
  unfold L.FnExactFewestTotal_tree; simp only [apply_cnd g, apply_optC g, apply_sumC g]
noncomputable def L.FnExactFewestTotal_t (aNet : List Int) : Option (Bool) := L.FnExactFewestTotal_tree aNet (fun d => some d) none
theorem L.FnExactFewestTotal_den (aNet : List Int) (κ : V → List E → R) : L.FnExactFewestTotal_F [.ro true (.ints .i64 aNet)] [] κ = optC (L.FnExactFewestTotal_t aNet) (fun (r : Bool) => κ (.bool r) []) none := by
  have hu : L.FnExactFewestTotal_F [.ro true (.ints .i64 aNet)] [] κ = L.FnExactFewestTotal_tree aNet (fun d => κ (.bool d) []) none := by
    kernel_rfl
  rw [hu]
  exact (L.FnExactFewestTotal_tree_nat (fun o => optC o (fun (r : Bool) => κ (.bool r) []) none) aNet (fun d => some d) none).symm
noncomputable def L.FnExactFewestTotal_s : D.Spec where
  keep := true
  pure := true
  ds := [.int .i64]
  sp := fun args h κ => match args, h with
    | [.ro true (.ints .i64 aNet)], [] => optC (L.FnExactFewestTotal_t aNet) (fun (r : Bool) => κ (.bool r) []) none
    | _, _ => none
theorem L.FnExactFewestTotal_ok : SpecOk Try.prog 6 L.FnExactFewestTotal_s := by
  refine SpecOk.of TDok mixed (T := L.FnExactFewestTotal_T) ?_ (ann := L.FnExactFewestTotal_ann) Try.func6 rfl (by decide +kernel) ?_ ?_ ?_
  · intro p hp
    simp only [L.FnExactFewestTotal_T, List.mem_cons, List.not_mem_nil, or_false] at hp
    rcases hp with rfl | rfl | rfl | rfl
    · exact L.toIntS_ok
    · exact S.FewestTotal_ok
    · exact I.FewestTotal_ok
    · exact L.eqIntS_ok
  · intro args h κ r hh
    simp only [L.FnExactFewestTotal_s] at hh
    split at hh
    · exact (L.FnExactFewestTotal_den _ κ).trans hh
    · cases hh
  · intro args h κ r hh
    simp only [L.FnExactFewestTotal_s] at hh ⊢
    split at hh
    · exact optC_law2 (F := fun (r : Bool) κ => κ (.bool r) []) (fun b κ r hb => ⟨_, _, hb, fun _ => rfl⟩) hh
    · cases hh
  · intro _ args h κ r hh
    simp only [L.FnExactFewestTotal_s] at hh
    split at hh
    · exact ⟨rfl, fun _ => rfl⟩
    · cases hh

-- loop.example/guardsonnets/spec.l20Joined
noncomputable def S.l20Joined_T : List (Nat × D.Spec) := [(39, S.l20Set_s), (40, S.NetOk_s), (41, S.l20Rd_pick_s)]
def S.l20Joined_ann : Nat → List Nat × List Nat
  | 5 => ([0, 6, 8, 9], [6, 8])
  | _ => ([], [])
noncomputable def S.l20Joined_F (args : List V) (h : List E) (κ : V → List E → R) : R := funC TD (tableK S.l20Joined_T) S.l20Joined_ann (drawOk (tableP S.l20Joined_T)) FUEL Try.f55 args h κ
noncomputable def S.l20Joined_L5 (n : Nat) (σ : St) (k : X → St → R) : R := iterC 1 (fun σ k => denC TD (tableK S.l20Joined_T) S.l20Joined_ann (drawOk (tableP S.l20Joined_T)) 1 FUEL ((findLoop 5 (Try.f55.body.getD .skip)).getD .skip) σ k) [0, 6, 8, 9] [6, 8] n σ k
noncomputable def S.l20Joined_k5 (κ : V → List E → R) : X → St → R := (afterC TD (tableK S.l20Joined_T) S.l20Joined_ann (drawOk (tableP S.l20Joined_T)) 1 FUEL 5 (Try.f55.body.getD .skip) (finC TD 1 Try.f55 κ)).getD (fun _ _ => none)
noncomputable def S.l20Joined_step5 {α : Type} (x8 : Int) (x9 : Int) (r0_0 : List Int) (r0_1 : Int) (r1 : List Int) (next_ : Int × Int × (List Int) × Int × (List Int) → α) (out0_ : Int × (List Int) × Int × (List Int) → α) (fail_ : α) : α :=
  (bif decide (x9 < 6) then (optC (S.l20Rd_pick_t r0_0 r0_1 (↑r1.length : Int)) (fun c_5 => (bif decide (0 ≤ c_5.fst) && decide (c_5.fst < (↑r1.length : Int)) then (bif decide (c_5.fst.toNat < r1.length) then (bif decide (bits BinOp.and IntKind.i64 (eli r1 c_5.fst.toNat) x8 > 0) then (optC (S.l20Rd_pick_t c_5.snd.fst c_5.snd.snd 3) (fun c_6 => (bif decide (c_6.fst > 0) then (bif decide (c_5.fst < 0) then fail_ else (next_ (bits BinOp.or IntKind.i64 x8 (IntKind.i64.wrap (1 * 2 ^ min c_5.fst.toNat IntKind.i64.bits)), IntKind.i64.wrap (x9 + 1), c_6.snd.fst, c_6.snd.snd, r1))) else (next_ (x8, IntKind.i64.wrap (x9 + 1), c_6.snd.fst, c_6.snd.snd, r1)))) fail_) else (next_ (x8, IntKind.i64.wrap (x9 + 1), c_5.snd.fst, c_5.snd.snd, r1))) else fail_) else fail_)) fail_) else (out0_ (x8, r0_0, r0_1, r1)))
theorem S.l20Joined_step5_nat {α γ : Type} (g : α → γ) (x8 : Int) (x9 : Int) (r0_0 : List Int) (r0_1 : Int) (r1 : List Int) (next_ : Int × Int × (List Int) × Int × (List Int) → α) (out0_ : Int × (List Int) × Int × (List Int) → α) (fail_ : α) : g (S.l20Joined_step5 x8 x9 r0_0 r0_1 r1 next_ out0_ fail_) = S.l20Joined_step5 x8 x9 r0_0 r0_1 r1 (fun s => g (next_ s)) (fun d => g (out0_ d)) (g fail_) := by
  unfold S.l20Joined_step5; simp only [apply_cnd g, apply_optC g, apply_sumC g]
noncomputable def S.l20Joined_run5 : Nat → Int × Int × (List Int) × Int × (List Int) → Option (Int × (List Int) × Int × (List Int))
  | 0, _ => none
  | n + 1, s_ => S.l20Joined_step5 s_.1 s_.2.1 s_.2.2.1 s_.2.2.2.1 s_.2.2.2.2 (S.l20Joined_run5 n) (fun d => some d) none
theorem S.l20Joined_L5_run (n : Nat) (s_ : Int × Int × (List Int) × Int × (List Int)) (k : X → St → R) : S.l20Joined_L5 n { n := 57, t := [(0, (.ptr 0 0)), (6, (.own 1)), (8, (.int .i64 s_.1)), (9, (.int .i64 s_.2.1))], h := [.cells [(.ro true (.ints .u8 s_.2.2.1)), (.int .i64 s_.2.2.2.1)], .row (.ints .i64 s_.2.2.2.2)] } k = optC (S.l20Joined_run5 n s_) (fun (r : Int × (List Int) × Int × (List Int)) => k (.exit 0) { n := 57, t := [(6, (.own 1)), (8, (.int .i64 r.1))], h := [.cells [(.ro true (.ints .u8 r.2.1)), (.int .i64 r.2.2.1)], .row (.ints .i64 r.2.2.2)] }) none := by
  induction n generalizing s_ with
  | zero => rfl
  | succ n ih =>
    have hu : S.l20Joined_L5 (n + 1) { n := 57, t := [(0, (.ptr 0 0)), (6, (.own 1)), (8, (.int .i64 s_.1)), (9, (.int .i64 s_.2.1))], h := [.cells [(.ro true (.ints .u8 s_.2.2.1)), (.int .i64 s_.2.2.2.1)], .row (.ints .i64 s_.2.2.2.2)] } k = S.l20Joined_step5 s_.1 s_.2.1 s_.2.2.1 s_.2.2.2.1 s_.2.2.2.2 (fun s_ => S.l20Joined_L5 n { n := 57, t := [(0, (.ptr 0 0)), (6, (.own 1)), (8, (.int .i64 s_.1)), (9, (.int .i64 s_.2.1))], h := [.cells [(.ro true (.ints .u8 s_.2.2.1)), (.int .i64 s_.2.2.2.1)], .row (.ints .i64 s_.2.2.2.2)] } k) (fun d => k (.exit 0) { n := 57, t := [(6, (.own 1)), (8, (.int .i64 d.1))], h := [.cells [(.ro true (.ints .u8 d.2.1)), (.int .i64 d.2.2.1)], .row (.ints .i64 d.2.2.2)] }) none := by
      kernel_rfl
    have hs : (fun s_ : Int × Int × (List Int) × Int × (List Int) => S.l20Joined_L5 n { n := 57, t := [(0, (.ptr 0 0)), (6, (.own 1)), (8, (.int .i64 s_.1)), (9, (.int .i64 s_.2.1))], h := [.cells [(.ro true (.ints .u8 s_.2.2.1)), (.int .i64 s_.2.2.2.1)], .row (.ints .i64 s_.2.2.2.2)] } k) = fun s_ => optC (S.l20Joined_run5 n s_) (fun (r : Int × (List Int) × Int × (List Int)) => k (.exit 0) { n := 57, t := [(6, (.own 1)), (8, (.int .i64 r.1))], h := [.cells [(.ro true (.ints .u8 r.2.1)), (.int .i64 r.2.2.1)], .row (.ints .i64 r.2.2.2)] }) none := funext ih
    rw [hu, hs]
    exact (S.l20Joined_step5_nat (fun o => optC o (fun (r : Int × (List Int) × Int × (List Int)) => k (.exit 0) { n := 57, t := [(6, (.own 1)), (8, (.int .i64 r.1))], h := [.cells [(.ro true (.ints .u8 r.2.1)), (.int .i64 r.2.2.1)], .row (.ints .i64 r.2.2.2)] }) none) s_.1 s_.2.1 s_.2.2.1 s_.2.2.2.1 s_.2.2.2.2 (S.l20Joined_run5 n) (fun d => some d) none).symm
noncomputable def S.l20Joined_tree {α : Type} (rb : List Int) (rp : Int) (n_ : Int) (leaf0_ : Int × (List Int) × Int × (List Int) → α) (fail_ : α) : α :=
  (optC (S.l20Set_t rb rp n_) (fun c_1 => (optC (S.NetOk_t c_1.snd.snd.snd) (fun c_2 => (bif c_2 then (optC (S.l20Rd_pick_t c_1.snd.fst c_1.snd.snd.fst 3) (fun c_3 => (bif decide (c_3.fst > 0) then (optC (S.l20Rd_pick_t c_3.snd.fst c_3.snd.snd (↑c_1.snd.snd.snd.length : Int)) (fun c_4 => (bif decide (c_4.fst < 0) then fail_ else (optC (S.l20Joined_run5 FUEL (IntKind.i64.wrap (1 * 2 ^ min c_4.fst.toNat IntKind.i64.bits), 0, c_4.snd.fst, c_4.snd.snd, c_1.snd.snd.snd)) (fun qy_7 => (leaf0_ (qy_7.1, qy_7.2.1, qy_7.2.2.1, qy_7.2.2.2))) fail_))) fail_) else (leaf0_ (c_1.fst, c_3.snd.fst, c_3.snd.snd, c_1.snd.snd.snd)))) fail_) else (leaf0_ (c_1.fst, c_1.snd.fst, c_1.snd.snd.fst, c_1.snd.snd.snd)))) fail_)) fail_)
theorem S.l20Joined_tree_nat {α γ : Type} (g : α → γ) (rb : List Int) (rp : Int) (n_ : Int) (leaf0_ : Int × (List Int) × Int × (List Int) → α) (fail_ : α) : g (S.l20Joined_tree rb rp n_ leaf0_ fail_) = S.l20Joined_tree rb rp n_ (fun d => g (leaf0_ d)) (g fail_) := by
  unfold S.l20Joined_tree; simp only [apply_cnd g, apply_optC g, apply_sumC g]
noncomputable def S.l20Joined_t (rb : List Int) (rp : Int) (n_ : Int) : Option (Int × (List Int) × Int × (List Int)) := S.l20Joined_tree rb rp n_ (fun d => some d) none
theorem S.l20Joined_den (rb : List Int) (rp : Int) (n_ : Int) (κ : V → List E → R) : S.l20Joined_F [.ptr 0 0, .int .i64 n_] [.cells [.ro true (.ints .u8 rb), .int .i64 rp]] κ = optC (S.l20Joined_t rb rp n_) (fun (r : Int × (List Int) × Int × (List Int)) => κ (.tup [(.own 1), (.int .i64 r.1)]) [.cells [(.ro true (.ints .u8 r.2.1)), (.int .i64 r.2.2.1)], .row (.ints .i64 r.2.2.2)]) none := by
  have hu : S.l20Joined_F [.ptr 0 0, .int .i64 n_] [.cells [.ro true (.ints .u8 rb), .int .i64 rp]] κ = S.l20Joined_tree rb rp n_ (fun d => κ (.tup [(.own 1), (.int .i64 d.1)]) [.cells [(.ro true (.ints .u8 d.2.1)), (.int .i64 d.2.2.1)], .row (.ints .i64 d.2.2.2)]) none := by
    refine Eq.trans (show S.l20Joined_F [.ptr 0 0, .int .i64 n_] [.cells [.ro true (.ints .u8 rb), .int .i64 rp]] κ = (optC (S.l20Set_t rb rp n_) (fun c_1 => (optC (S.NetOk_t c_1.snd.snd.snd) (fun c_2 => (bif c_2 then (optC (S.l20Rd_pick_t c_1.snd.fst c_1.snd.snd.fst 3) (fun c_3 => (bif decide (c_3.fst > 0) then (optC (S.l20Rd_pick_t c_3.snd.fst c_3.snd.snd (↑c_1.snd.snd.snd.length : Int)) (fun c_4 => (bif decide (c_4.fst < 0) then none else (S.l20Joined_L5 FUEL { n := 57, t := [(0, (.ptr 0 0)), (6, (.own 1)), (8, (.int .i64 (IntKind.i64.wrap (1 * 2 ^ min c_4.fst.toNat IntKind.i64.bits)))), (9, (.int .i64 0))], h := [.cells [(.ro true (.ints .u8 c_4.snd.fst)), (.int .i64 c_4.snd.snd)], .row (.ints .i64 c_1.snd.snd.snd)] } (S.l20Joined_k5 κ)))) none) else (κ (.tup [(.own 1), (.int .i64 c_1.fst)]) [.cells [(.ro true (.ints .u8 c_3.snd.fst)), (.int .i64 c_3.snd.snd)], .row (.ints .i64 c_1.snd.snd.snd)]))) none) else (κ (.tup [(.own 1), (.int .i64 c_1.fst)]) [.cells [(.ro true (.ints .u8 c_1.snd.fst)), (.int .i64 c_1.snd.snd.fst)], .row (.ints .i64 c_1.snd.snd.snd)]))) none)) none) by kernel_rfl) ?_
    refine optC_congr (fun c_1 => ?_)
    refine optC_congr (fun c_2 => ?_)
    refine cnd_congr ?_ ?_
    · refine optC_congr (fun c_3 => ?_)
      refine cnd_congr ?_ ?_
      · refine optC_congr (fun c_4 => ?_)
        refine cnd_congr ?_ ?_
        · kernel_rfl
        · refine (S.l20Joined_L5_run FUEL (IntKind.i64.wrap (1 * 2 ^ min c_4.fst.toNat IntKind.i64.bits), 0, c_4.snd.fst, c_4.snd.snd, c_1.snd.snd.snd) (S.l20Joined_k5 κ)).trans (optC_congr (fun qy_7 => ?_))
          kernel_rfl
      · kernel_rfl
    · kernel_rfl
  rw [hu]
  exact (S.l20Joined_tree_nat (fun o => optC o (fun (r : Int × (List Int) × Int × (List Int)) => κ (.tup [(.own 1), (.int .i64 r.1)]) [.cells [(.ro true (.ints .u8 r.2.1)), (.int .i64 r.2.2.1)], .row (.ints .i64 r.2.2.2)]) none) rb rp n_ (fun d => some d) none).symm
noncomputable def S.l20Joined_s : D.Spec where
  keep := false
  pure := false
  ds := [.invalid, .invalid]
  sp := fun args h κ => match args, h with
    | [.ptr 0 0, .int .i64 n_], [.cells [.ro true (.ints .u8 rb), .int .i64 rp]] => optC (S.l20Joined_t rb rp n_) (fun (r : Int × (List Int) × Int × (List Int)) => κ (.tup [(.own 1), (.int .i64 r.1)]) [.cells [(.ro true (.ints .u8 r.2.1)), (.int .i64 r.2.2.1)], .row (.ints .i64 r.2.2.2)]) none
    | _, _ => none
theorem S.l20Joined_ok : SpecOk Try.prog 55 S.l20Joined_s := by
  refine SpecOk.of TDok mixed (T := S.l20Joined_T) ?_ (ann := S.l20Joined_ann) Try.func55 rfl (by decide +kernel) ?_ ?_ ?_
  · intro p hp
    simp only [S.l20Joined_T, List.mem_cons, List.not_mem_nil, or_false] at hp
    rcases hp with rfl | rfl | rfl
    · exact S.l20Set_ok
    · exact S.NetOk_ok
    · exact S.l20Rd_pick_ok
  · intro args h κ r hh
    simp only [S.l20Joined_s] at hh
    split at hh
    · exact (S.l20Joined_den _ _ _ κ).trans hh
    · cases hh
  · intro args h κ r hh
    simp only [S.l20Joined_s] at hh ⊢
    split at hh
    · exact optC_law2 (F := fun (r : Int × (List Int) × Int × (List Int)) κ => κ (.tup [(.own 1), (.int .i64 r.1)]) [.cells [(.ro true (.ints .u8 r.2.1)), (.int .i64 r.2.2.1)], .row (.ints .i64 r.2.2.2)]) (fun b κ r hb => ⟨_, _, hb, fun _ => rfl⟩) hh
    · cases hh
  · intro hh; cases hh

-- loop.example/guardsonnets/spec.DrawTogetherOk
noncomputable def S.DrawTogetherOk_T : List (Nat × D.Spec) := [(38, S.l20Open_s), (55, S.l20Joined_s)]
def S.DrawTogetherOk_ann : Nat → List Nat × List Nat
  | _ => ([], [])
noncomputable def S.DrawTogetherOk_F (args : List V) (h : List E) (κ : V → List E → R) : R := funC TD (tableK S.DrawTogetherOk_T) S.DrawTogetherOk_ann (drawOk (tableP S.DrawTogetherOk_T)) FUEL Try.f26 args h κ
noncomputable def S.DrawTogetherOk_tree {α : Type} (code : List Int) (leaf0_ : Int × (List Int) → α) (fail_ : α) : α :=
  (optC (S.l20Open_t code) (fun c_1 => (optC (S.l20Joined_t c_1.fst c_1.snd 12) (fun c_2 => (leaf0_ (c_2.fst, c_2.snd.snd.snd))) fail_)) fail_)
theorem S.DrawTogetherOk_tree_nat {α γ : Type} (g : α → γ) (code : List Int) (leaf0_ : Int × (List Int) → α) (fail_ : α) : g (S.DrawTogetherOk_tree code leaf0_ fail_) = S.DrawTogetherOk_tree code (fun d => g (leaf0_ d)) (g fail_) := by
  unfold S.DrawTogetherOk_tree; simp only [apply_cnd g, apply_optC g, apply_sumC g]
noncomputable def S.DrawTogetherOk_t (code : List Int) : Option (Int × (List Int)) := S.DrawTogetherOk_tree code (fun d => some d) none
theorem S.DrawTogetherOk_den (code : List Int) (κ : V → List E → R) : S.DrawTogetherOk_F [.ro true (.ints .u8 code)] [] κ = optC (S.DrawTogetherOk_t code) (fun (r : Int × (List Int)) => κ (.tup [(.own 0), (.int .i64 r.1)]) [.row (.ints .i64 r.2)]) none := by
  have hu : S.DrawTogetherOk_F [.ro true (.ints .u8 code)] [] κ = S.DrawTogetherOk_tree code (fun d => κ (.tup [(.own 0), (.int .i64 d.1)]) [.row (.ints .i64 d.2)]) none := by
    kernel_rfl
  rw [hu]
  exact (S.DrawTogetherOk_tree_nat (fun o => optC o (fun (r : Int × (List Int)) => κ (.tup [(.own 0), (.int .i64 r.1)]) [.row (.ints .i64 r.2)]) none) code (fun d => some d) none).symm
noncomputable def S.DrawTogetherOk_s : D.Spec where
  keep := true
  pure := false
  ds := [.int .u8]
  sp := fun args h κ => match args, h with
    | [.ro true (.ints .u8 code)], [] => optC (S.DrawTogetherOk_t code) (fun (r : Int × (List Int)) => κ (.tup [(.own 0), (.int .i64 r.1)]) [.row (.ints .i64 r.2)]) none
    | _, _ => none
theorem S.DrawTogetherOk_ok : SpecOk Try.prog 26 S.DrawTogetherOk_s := by
  refine SpecOk.of TDok mixed (T := S.DrawTogetherOk_T) ?_ (ann := S.DrawTogetherOk_ann) Try.func26 rfl (by decide +kernel) ?_ ?_ ?_
  · intro p hp
    simp only [S.DrawTogetherOk_T, List.mem_cons, List.not_mem_nil, or_false] at hp
    rcases hp with rfl | rfl
    · exact S.l20Open_ok
    · exact S.l20Joined_ok
  · intro args h κ r hh
    simp only [S.DrawTogetherOk_s] at hh
    split at hh
    · exact (S.DrawTogetherOk_den _ κ).trans hh
    · cases hh
  · intro args h κ r hh
    simp only [S.DrawTogetherOk_s] at hh ⊢
    split at hh
    · exact optC_law2 (F := fun (r : Int × (List Int)) κ => κ (.tup [(.own 0), (.int .i64 r.1)]) [.row (.ints .i64 r.2)]) (fun b κ r hb => ⟨_, _, hb, fun _ => rfl⟩) hh
    · cases hh
  · intro hh; cases hh

-- loop.example/guardsonnets/impl.reachedIn
noncomputable def I.reachedIn_T : List (Nat × D.Spec) := [(63, I.nextTo_s)]
def I.reachedIn_ann : Nat → List Nat × List Nat
  | 3 => ([0, 1, 5, 6], [5])
  | _ => ([], [])
noncomputable def I.reachedIn_F (args : List V) (h : List E) (κ : V → List E → R) : R := funC TD (tableK I.reachedIn_T) I.reachedIn_ann (drawOk (tableP I.reachedIn_T)) FUEL Try.f67 args h κ
noncomputable def I.reachedIn_L3 (n : Nat) (σ : St) (k : X → St → R) : R := iterC 0 (fun σ k => denC TD (tableK I.reachedIn_T) I.reachedIn_ann (drawOk (tableP I.reachedIn_T)) 0 FUEL ((findLoop 3 (Try.f67.body.getD .skip)).getD .skip) σ k) [0, 1, 5, 6] [5] n σ k
noncomputable def I.reachedIn_k3 (κ : V → List E → R) : X → St → R := (afterC TD (tableK I.reachedIn_T) I.reachedIn_ann (drawOk (tableP I.reachedIn_T)) 0 FUEL 3 (Try.f67.body.getD .skip) (finC TD 0 Try.f67 κ)).getD (fun _ _ => none)
noncomputable def I.reachedIn_step3 {α : Type} (x0 : List Int) (x1 : Int) (x5 : Int) (x6 : Int) (next_ : Int × Int → α) (out0_ : Int → α) (fail_ : α) : α :=
  (bif decide (x6 < (↑x0.length : Int)) then (optC (I.nextTo_t x0 x5) (fun c_1 => (next_ (bits BinOp.or IntKind.i64 x5 (bits BinOp.and IntKind.i64 x1 c_1), IntKind.i64.wrap (x6 + 1)))) fail_) else (out0_ x5))
theorem I.reachedIn_step3_nat {α γ : Type} (g : α → γ) (x0 : List Int) (x1 : Int) (x5 : Int) (x6 : Int) (next_ : Int × Int → α) (out0_ : Int → α) (fail_ : α) : g (I.reachedIn_step3 x0 x1 x5 x6 next_ out0_ fail_) = I.reachedIn_step3 x0 x1 x5 x6 (fun s => g (next_ s)) (fun d => g (out0_ d)) (g fail_) := by
  unfold I.reachedIn_step3; simp only [apply_cnd g, apply_optC g, apply_sumC g]
noncomputable def I.reachedIn_run3 (x0 : List Int) (x1 : Int) : Nat → Int × Int → Option (Int)
  | 0, _ => none
  | n + 1, s_ => I.reachedIn_step3 x0 x1 s_.1 s_.2 (I.reachedIn_run3 x0 x1 n) (fun d => some d) none
theorem I.reachedIn_L3_run (x0 : List Int) (x1 : Int) (n : Nat) (s_ : Int × Int) (k : X → St → R) : I.reachedIn_L3 n { n := 25, t := [(0, (.ro false (.ints .i64 x0))), (1, (.int .i64 x1)), (5, (.int .i64 s_.1)), (6, (.int .i64 s_.2))], h := [] } k = optC (I.reachedIn_run3 x0 x1 n s_) (fun (r : Int) => k (.exit 0) { n := 25, t := [(5, (.int .i64 r))], h := [] }) none := by
  induction n generalizing s_ with
  | zero => rfl
  | succ n ih =>
    have hu : I.reachedIn_L3 (n + 1) { n := 25, t := [(0, (.ro false (.ints .i64 x0))), (1, (.int .i64 x1)), (5, (.int .i64 s_.1)), (6, (.int .i64 s_.2))], h := [] } k = I.reachedIn_step3 x0 x1 s_.1 s_.2 (fun s_ => I.reachedIn_L3 n { n := 25, t := [(0, (.ro false (.ints .i64 x0))), (1, (.int .i64 x1)), (5, (.int .i64 s_.1)), (6, (.int .i64 s_.2))], h := [] } k) (fun d => k (.exit 0) { n := 25, t := [(5, (.int .i64 d))], h := [] }) none := by
      kernel_rfl
    have hs : (fun s_ : Int × Int => I.reachedIn_L3 n { n := 25, t := [(0, (.ro false (.ints .i64 x0))), (1, (.int .i64 x1)), (5, (.int .i64 s_.1)), (6, (.int .i64 s_.2))], h := [] } k) = fun s_ => optC (I.reachedIn_run3 x0 x1 n s_) (fun (r : Int) => k (.exit 0) { n := 25, t := [(5, (.int .i64 r))], h := [] }) none := funext ih
    rw [hu, hs]
    exact (I.reachedIn_step3_nat (fun o => optC o (fun (r : Int) => k (.exit 0) { n := 25, t := [(5, (.int .i64 r))], h := [] }) none) x0 x1 s_.1 s_.2 (I.reachedIn_run3 x0 x1 n) (fun d => some d) none).symm
noncomputable def I.reachedIn_tree {α : Type} (net : List Int) (set_ : Int) (leaf0_ : Int → α) (fail_ : α) : α :=
  (optC (I.reachedIn_run3 net set_ FUEL (bits BinOp.and IntKind.i64 set_ (IntKind.i64.wrap (0 - set_)), 1)) (fun qy_2 => (leaf0_ qy_2)) fail_)
theorem I.reachedIn_tree_nat {α γ : Type} (g : α → γ) (net : List Int) (set_ : Int) (leaf0_ : Int → α) (fail_ : α) : g (I.reachedIn_tree net set_ leaf0_ fail_) = I.reachedIn_tree net set_ (fun d => g (leaf0_ d)) (g fail_) := by
  unfold I.reachedIn_tree; simp only [apply_cnd g, apply_optC g, apply_sumC g]
noncomputable def I.reachedIn_t (net : List Int) (set_ : Int) : Option (Int) := I.reachedIn_tree net set_ (fun d => some d) none
theorem I.reachedIn_den (net : List Int) (set_ : Int) (κ : V → List E → R) : I.reachedIn_F [.ro false (.ints .i64 net), .int .i64 set_] [] κ = optC (I.reachedIn_t net set_) (fun (r : Int) => κ (.int .i64 r) []) none := by
  have hu : I.reachedIn_F [.ro false (.ints .i64 net), .int .i64 set_] [] κ = I.reachedIn_tree net set_ (fun d => κ (.int .i64 d) []) none := by
    refine Eq.trans (show I.reachedIn_F [.ro false (.ints .i64 net), .int .i64 set_] [] κ = (I.reachedIn_L3 FUEL { n := 25, t := [(0, (.ro false (.ints .i64 net))), (1, (.int .i64 set_)), (5, (.int .i64 (bits BinOp.and IntKind.i64 set_ (IntKind.i64.wrap (0 - set_))))), (6, (.int .i64 1))], h := [] } (I.reachedIn_k3 κ)) by kernel_rfl) ?_
    refine (I.reachedIn_L3_run net set_ FUEL (bits BinOp.and IntKind.i64 set_ (IntKind.i64.wrap (0 - set_)), 1) (I.reachedIn_k3 κ)).trans (optC_congr (fun qy_2 => ?_))
    kernel_rfl
  rw [hu]
  exact (I.reachedIn_tree_nat (fun o => optC o (fun (r : Int) => κ (.int .i64 r) []) none) net set_ (fun d => some d) none).symm
noncomputable def I.reachedIn_s : D.Spec where
  keep := false
  pure := true
  ds := [.int .i64, .invalid]
  sp := fun args h κ => match args, h with
    | [.ro false (.ints .i64 net), .int .i64 set_], [] => optC (I.reachedIn_t net set_) (fun (r : Int) => κ (.int .i64 r) []) none
    | _, _ => none
theorem I.reachedIn_ok : SpecOk Try.prog 67 I.reachedIn_s := by
  refine SpecOk.of TDok mixed (T := I.reachedIn_T) ?_ (ann := I.reachedIn_ann) Try.func67 rfl (by decide +kernel) ?_ ?_ ?_
  · intro p hp
    simp only [I.reachedIn_T, List.mem_cons, List.not_mem_nil, or_false] at hp
    rcases hp with rfl
    · exact I.nextTo_ok
  · intro args h κ r hh
    simp only [I.reachedIn_s] at hh
    split at hh
    · exact (I.reachedIn_den _ _ κ).trans hh
    · cases hh
  · intro args h κ r hh
    simp only [I.reachedIn_s] at hh ⊢
    split at hh
    · exact optC_law2 (F := fun (r : Int) κ => κ (.int .i64 r) []) (fun b κ r hb => ⟨_, _, hb, fun _ => rfl⟩) hh
    · cases hh
  · intro _ args h κ r hh
    simp only [I.reachedIn_s] at hh
    split at hh
    · exact ⟨rfl, fun _ => rfl⟩
    · cases hh

-- loop.example/guardsonnets/impl.togetherIn
noncomputable def I.togetherIn_T : List (Nat × D.Spec) := [(67, I.reachedIn_s)]
def I.togetherIn_ann : Nat → List Nat × List Nat
  | _ => ([], [])
noncomputable def I.togetherIn_F (args : List V) (h : List E) (κ : V → List E → R) : R := funC TD (tableK I.togetherIn_T) I.togetherIn_ann (drawOk (tableP I.togetherIn_T)) FUEL Try.f56 args h κ
noncomputable def I.togetherIn_tree {α : Type} (net : List Int) (set_ : Int) (leaf0_ : Bool → α) (fail_ : α) : α :=
  (bif !set_ == 0 then (optC (I.reachedIn_t net set_) (fun c_1 => (leaf0_ (c_1 == set_))) fail_) else (leaf0_ false))
theorem I.togetherIn_tree_nat {α γ : Type} (g : α → γ) (net : List Int) (set_ : Int) (leaf0_ : Bool → α) (fail_ : α) : g (I.togetherIn_tree net set_ leaf0_ fail_) = I.togetherIn_tree net set_ (fun d => g (leaf0_ d)) (g fail_) := by
  unfold I.togetherIn_tree; simp only [apply_cnd g, apply_optC g, apply_sumC g]
noncomputable def I.togetherIn_t (net : List Int) (set_ : Int) : Option (Bool) := I.togetherIn_tree net set_ (fun d => some d) none
theorem I.togetherIn_den (net : List Int) (set_ : Int) (κ : V → List E → R) : I.togetherIn_F [.ro false (.ints .i64 net), .int .i64 set_] [] κ = optC (I.togetherIn_t net set_) (fun (r : Bool) => κ (.bool r) []) none := by
  have hu : I.togetherIn_F [.ro false (.ints .i64 net), .int .i64 set_] [] κ = I.togetherIn_tree net set_ (fun d => κ (.bool d) []) none := by
    kernel_rfl
  rw [hu]
  exact (I.togetherIn_tree_nat (fun o => optC o (fun (r : Bool) => κ (.bool r) []) none) net set_ (fun d => some d) none).symm
noncomputable def I.togetherIn_s : D.Spec where
  keep := false
  pure := true
  ds := [.int .i64, .invalid]
  sp := fun args h κ => match args, h with
    | [.ro false (.ints .i64 net), .int .i64 set_], [] => optC (I.togetherIn_t net set_) (fun (r : Bool) => κ (.bool r) []) none
    | _, _ => none
theorem I.togetherIn_ok : SpecOk Try.prog 56 I.togetherIn_s := by
  refine SpecOk.of TDok mixed (T := I.togetherIn_T) ?_ (ann := I.togetherIn_ann) Try.func56 rfl (by decide +kernel) ?_ ?_ ?_
  · intro p hp
    simp only [I.togetherIn_T, List.mem_cons, List.not_mem_nil, or_false] at hp
    rcases hp with rfl
    · exact I.reachedIn_ok
  · intro args h κ r hh
    simp only [I.togetherIn_s] at hh
    split at hh
    · exact (I.togetherIn_den _ _ κ).trans hh
    · cases hh
  · intro args h κ r hh
    simp only [I.togetherIn_s] at hh ⊢
    split at hh
    · exact optC_law2 (F := fun (r : Bool) κ => κ (.bool r) []) (fun b κ r hb => ⟨_, _, hb, fun _ => rfl⟩) hh
    · cases hh
  · intro _ args h κ r hh
    simp only [I.togetherIn_s] at hh
    split at hh
    · exact ⟨rfl, fun _ => rfl⟩
    · cases hh

-- loop.example/guardsonnets/impl.TogetherOk
noncomputable def I.TogetherOk_T : List (Nat × D.Spec) := [(16, I.NetOk_s), (42, I.setIn_s), (56, I.togetherIn_s)]
def I.TogetherOk_ann : Nat → List Nat × List Nat
  | _ => ([], [])
noncomputable def I.TogetherOk_F (args : List V) (h : List E) (κ : V → List E → R) : R := funC TD (tableK I.TogetherOk_T) I.TogetherOk_ann (drawOk (tableP I.TogetherOk_T)) FUEL Try.f27 args h κ
noncomputable def I.TogetherOk_tree {α : Type} (net : List Int) (set_ : Int) (leaf0_ : Bool → α) (fail_ : α) : α :=
  (optC (I.NetOk_t net) (fun c_1 => (bif c_1 then (optC (I.setIn_t net set_) (fun c_2 => (bif c_2 then (optC (I.togetherIn_t net set_) (fun c_3 => (leaf0_ c_3)) fail_) else (leaf0_ false))) fail_) else (leaf0_ false))) fail_)
theorem I.TogetherOk_tree_nat {α γ : Type} (g : α → γ) (net : List Int) (set_ : Int) (leaf0_ : Bool → α) (fail_ : α) : g (I.TogetherOk_tree net set_ leaf0_ fail_) = I.TogetherOk_tree net set_ (fun d => g (leaf0_ d)) (g fail_) := by
  unfold I.TogetherOk_tree; simp only [apply_cnd g, apply_optC g, apply_sumC g]
noncomputable def I.TogetherOk_t (net : List Int) (set_ : Int) : Option (Bool) := I.TogetherOk_tree net set_ (fun d => some d) none
theorem I.TogetherOk_den (net : List Int) (set_ : Int) (κ : V → List E → R) : I.TogetherOk_F [.ro false (.ints .i64 net), .int .i64 set_] [] κ = optC (I.TogetherOk_t net set_) (fun (r : Bool) => κ (.bool r) []) none := by
  have hu : I.TogetherOk_F [.ro false (.ints .i64 net), .int .i64 set_] [] κ = I.TogetherOk_tree net set_ (fun d => κ (.bool d) []) none := by
    kernel_rfl
  rw [hu]
  exact (I.TogetherOk_tree_nat (fun o => optC o (fun (r : Bool) => κ (.bool r) []) none) net set_ (fun d => some d) none).symm
noncomputable def I.TogetherOk_s : D.Spec where
  keep := false
  pure := true
  ds := [.int .i64, .invalid]
  sp := fun args h κ => match args, h with
    | [.ro false (.ints .i64 net), .int .i64 set_], [] => optC (I.TogetherOk_t net set_) (fun (r : Bool) => κ (.bool r) []) none
    | _, _ => none
theorem I.TogetherOk_ok : SpecOk Try.prog 27 I.TogetherOk_s := by
  refine SpecOk.of TDok mixed (T := I.TogetherOk_T) ?_ (ann := I.TogetherOk_ann) Try.func27 rfl (by decide +kernel) ?_ ?_ ?_
  · intro p hp
    simp only [I.TogetherOk_T, List.mem_cons, List.not_mem_nil, or_false] at hp
    rcases hp with rfl | rfl | rfl
    · exact I.NetOk_ok
    · exact I.setIn_ok
    · exact I.togetherIn_ok
  · intro args h κ r hh
    simp only [I.TogetherOk_s] at hh
    split at hh
    · exact (I.TogetherOk_den _ _ κ).trans hh
    · cases hh
  · intro args h κ r hh
    simp only [I.TogetherOk_s] at hh ⊢
    split at hh
    · exact optC_law2 (F := fun (r : Bool) κ => κ (.bool r) []) (fun b κ r hb => ⟨_, _, hb, fun _ => rfl⟩) hh
    · cases hh
  · intro _ args h κ r hh
    simp only [I.TogetherOk_s] at hh
    split at hh
    · exact ⟨rfl, fun _ => rfl⟩
    · cases hh

-- loop.example/guardsonnets/spec.l6First
noncomputable def S.l6First_T : List (Nat × D.Spec) := []
def S.l6First_ann : Nat → List Nat × List Nat
  | 2 => ([0, 3], [3])
  | _ => ([], [])
noncomputable def S.l6First_F (args : List V) (h : List E) (κ : V → List E → R) : R := funC TD (tableK S.l6First_T) S.l6First_ann (drawOk (tableP S.l6First_T)) FUEL Try.f69 args h κ
noncomputable def S.l6First_L2 (n : Nat) (σ : St) (k : X → St → R) : R := iterC 0 (fun σ k => denC TD (tableK S.l6First_T) S.l6First_ann (drawOk (tableP S.l6First_T)) 0 FUEL ((findLoop 2 (Try.f69.body.getD .skip)).getD .skip) σ k) [0, 3] [3] n σ k
noncomputable def S.l6First_k2 (κ : V → List E → R) : X → St → R := (afterC TD (tableK S.l6First_T) S.l6First_ann (drawOk (tableP S.l6First_T)) 0 FUEL 2 (Try.f69.body.getD .skip) (finC TD 0 Try.f69 κ)).getD (fun _ _ => none)
noncomputable def S.l6First_step2 {α : Type} (x0 : Int) (x3 : Int) (next_ : Int → α) (out0_ : Int → α) (fail_ : α) : α :=
  (bif decide (x3 < 0) then fail_ else (bif (x0.fdiv (2 ^ min x3.toNat IntKind.i64.bits)).tmod 2 == 0 then (next_ (IntKind.i64.wrap (x3 + 1))) else (out0_ x3)))
theorem S.l6First_step2_nat {α γ : Type} (g : α → γ) (x0 : Int) (x3 : Int) (next_ : Int → α) (out0_ : Int → α) (fail_ : α) : g (S.l6First_step2 x0 x3 next_ out0_ fail_) = S.l6First_step2 x0 x3 (fun s => g (next_ s)) (fun d => g (out0_ d)) (g fail_) := by
  unfold S.l6First_step2; simp only [apply_cnd g, apply_optC g, apply_sumC g]
noncomputable def S.l6First_run2 (x0 : Int) : Nat → Int → Option (Int)
  | 0, _ => none
  | n + 1, s_ => S.l6First_step2 x0 s_ (S.l6First_run2 x0 n) (fun d => some d) none
theorem S.l6First_L2_run (x0 : Int) (n : Nat) (s_ : Int) (k : X → St → R) : S.l6First_L2 n { n := 12, t := [(0, (.int .i64 x0)), (3, (.int .i64 s_))], h := [] } k = optC (S.l6First_run2 x0 n s_) (fun (r : Int) => k (.exit 0) { n := 12, t := [(3, (.int .i64 r))], h := [] }) none := by
  induction n generalizing s_ with
  | zero => rfl
  | succ n ih =>
    have hu : S.l6First_L2 (n + 1) { n := 12, t := [(0, (.int .i64 x0)), (3, (.int .i64 s_))], h := [] } k = S.l6First_step2 x0 s_ (fun s_ => S.l6First_L2 n { n := 12, t := [(0, (.int .i64 x0)), (3, (.int .i64 s_))], h := [] } k) (fun d => k (.exit 0) { n := 12, t := [(3, (.int .i64 d))], h := [] }) none := by
      kernel_rfl
    have hs : (fun s_ : Int => S.l6First_L2 n { n := 12, t := [(0, (.int .i64 x0)), (3, (.int .i64 s_))], h := [] } k) = fun s_ => optC (S.l6First_run2 x0 n s_) (fun (r : Int) => k (.exit 0) { n := 12, t := [(3, (.int .i64 r))], h := [] }) none := funext ih
    rw [hu, hs]
    exact (S.l6First_step2_nat (fun o => optC o (fun (r : Int) => k (.exit 0) { n := 12, t := [(3, (.int .i64 r))], h := [] }) none) x0 s_ (S.l6First_run2 x0 n) (fun d => some d) none).symm
noncomputable def S.l6First_tree {α : Type} (set_ : Int) (leaf0_ : Int → α) (fail_ : α) : α :=
  (optC (S.l6First_run2 set_ FUEL 0) (fun qy_1 => (leaf0_ qy_1)) fail_)
theorem S.l6First_tree_nat {α γ : Type} (g : α → γ) (set_ : Int) (leaf0_ : Int → α) (fail_ : α) : g (S.l6First_tree set_ leaf0_ fail_) = S.l6First_tree set_ (fun d => g (leaf0_ d)) (g fail_) := by
  unfold S.l6First_tree; simp only [apply_cnd g, apply_optC g, apply_sumC g]
noncomputable def S.l6First_t (set_ : Int) : Option (Int) := S.l6First_tree set_ (fun d => some d) none
theorem S.l6First_den (set_ : Int) (κ : V → List E → R) : S.l6First_F [.int .i64 set_] [] κ = optC (S.l6First_t set_) (fun (r : Int) => κ (.int .i64 r) []) none := by
  have hu : S.l6First_F [.int .i64 set_] [] κ = S.l6First_tree set_ (fun d => κ (.int .i64 d) []) none := by
    refine Eq.trans (show S.l6First_F [.int .i64 set_] [] κ = (S.l6First_L2 FUEL { n := 12, t := [(0, (.int .i64 set_)), (3, (.int .i64 0))], h := [] } (S.l6First_k2 κ)) by kernel_rfl) ?_
    refine (S.l6First_L2_run set_ FUEL 0 (S.l6First_k2 κ)).trans (optC_congr (fun qy_1 => ?_))
    kernel_rfl
  rw [hu]
  exact (S.l6First_tree_nat (fun o => optC o (fun (r : Int) => κ (.int .i64 r) []) none) set_ (fun d => some d) none).symm
noncomputable def S.l6First_s : D.Spec where
  keep := false
  pure := true
  ds := [.invalid]
  sp := fun args h κ => match args, h with
    | [.int .i64 set_], [] => optC (S.l6First_t set_) (fun (r : Int) => κ (.int .i64 r) []) none
    | _, _ => none
theorem S.l6First_ok : SpecOk Try.prog 69 S.l6First_s := by
  refine SpecOk.of TDok mixed (T := S.l6First_T) ?_ (ann := S.l6First_ann) Try.func69 rfl (by decide +kernel) ?_ ?_ ?_
  · intro p hp; cases hp
  · intro args h κ r hh
    simp only [S.l6First_s] at hh
    split at hh
    · exact (S.l6First_den _ κ).trans hh
    · cases hh
  · intro args h κ r hh
    simp only [S.l6First_s] at hh ⊢
    split at hh
    · exact optC_law2 (F := fun (r : Int) κ => κ (.int .i64 r) []) (fun b κ r hb => ⟨_, _, hb, fun _ => rfl⟩) hh
    · cases hh
  · intro _ args h κ r hh
    simp only [S.l6First_s] at hh
    split at hh
    · exact ⟨rfl, fun _ => rfl⟩
    · cases hh

-- loop.example/guardsonnets/spec.l1Part
noncomputable def S.l1Part_T : List (Nat × D.Spec) := [(64, S.l1Near_s)]
def S.l1Part_ann : Nat → List Nat × List Nat
  | 3 => ([0, 1, 7, 8], [7])
  | _ => ([], [])
noncomputable def S.l1Part_F (args : List V) (h : List E) (κ : V → List E → R) : R := funC TD (tableK S.l1Part_T) S.l1Part_ann (drawOk (tableP S.l1Part_T)) FUEL Try.f68 args h κ
noncomputable def S.l1Part_L3 (n : Nat) (σ : St) (k : X → St → R) : R := iterC 0 (fun σ k => denC TD (tableK S.l1Part_T) S.l1Part_ann (drawOk (tableP S.l1Part_T)) 0 FUEL ((findLoop 3 (Try.f68.body.getD .skip)).getD .skip) σ k) [0, 1, 7, 8] [7] n σ k
noncomputable def S.l1Part_k3 (κ : V → List E → R) : X → St → R := (afterC TD (tableK S.l1Part_T) S.l1Part_ann (drawOk (tableP S.l1Part_T)) 0 FUEL 3 (Try.f68.body.getD .skip) (finC TD 0 Try.f68 κ)).getD (fun _ _ => none)
noncomputable def S.l1Part_step3 {α : Type} (x0 : List Int) (x1 : Int) (x7 : Int) (x8 : Bool) (next_ : Int × Bool → α) (out0_ : Int → α) (fail_ : α) : α :=
  (bif x8 then (optC (S.l1Near_t x0 x7) (fun c_1 => (next_ (bits BinOp.or IntKind.i64 x7 (bits BinOp.and IntKind.i64 c_1 x1), bits BinOp.or IntKind.i64 x7 (bits BinOp.and IntKind.i64 c_1 x1) != x7))) fail_) else (out0_ x7))
theorem S.l1Part_step3_nat {α γ : Type} (g : α → γ) (x0 : List Int) (x1 : Int) (x7 : Int) (x8 : Bool) (next_ : Int × Bool → α) (out0_ : Int → α) (fail_ : α) : g (S.l1Part_step3 x0 x1 x7 x8 next_ out0_ fail_) = S.l1Part_step3 x0 x1 x7 x8 (fun s => g (next_ s)) (fun d => g (out0_ d)) (g fail_) := by
  unfold S.l1Part_step3; simp only [apply_cnd g, apply_optC g, apply_sumC g]
noncomputable def S.l1Part_run3 (x0 : List Int) (x1 : Int) : Nat → Int × Bool → Option (Int)
  | 0, _ => none
  | n + 1, s_ => S.l1Part_step3 x0 x1 s_.1 s_.2 (S.l1Part_run3 x0 x1 n) (fun d => some d) none
theorem S.l1Part_L3_run (x0 : List Int) (x1 : Int) (n : Nat) (s_ : Int × Bool) (k : X → St → R) : S.l1Part_L3 n { n := 27, t := [(0, (.ro false (.ints .i64 x0))), (1, (.int .i64 x1)), (7, (.int .i64 s_.1)), (8, (.bool s_.2))], h := [] } k = optC (S.l1Part_run3 x0 x1 n s_) (fun (r : Int) => k (.exit 0) { n := 27, t := [(7, (.int .i64 r))], h := [] }) none := by
  induction n generalizing s_ with
  | zero => rfl
  | succ n ih =>
    have hu : S.l1Part_L3 (n + 1) { n := 27, t := [(0, (.ro false (.ints .i64 x0))), (1, (.int .i64 x1)), (7, (.int .i64 s_.1)), (8, (.bool s_.2))], h := [] } k = S.l1Part_step3 x0 x1 s_.1 s_.2 (fun s_ => S.l1Part_L3 n { n := 27, t := [(0, (.ro false (.ints .i64 x0))), (1, (.int .i64 x1)), (7, (.int .i64 s_.1)), (8, (.bool s_.2))], h := [] } k) (fun d => k (.exit 0) { n := 27, t := [(7, (.int .i64 d))], h := [] }) none := by
      kernel_rfl
    have hs : (fun s_ : Int × Bool => S.l1Part_L3 n { n := 27, t := [(0, (.ro false (.ints .i64 x0))), (1, (.int .i64 x1)), (7, (.int .i64 s_.1)), (8, (.bool s_.2))], h := [] } k) = fun s_ => optC (S.l1Part_run3 x0 x1 n s_) (fun (r : Int) => k (.exit 0) { n := 27, t := [(7, (.int .i64 r))], h := [] }) none := funext ih
    rw [hu, hs]
    exact (S.l1Part_step3_nat (fun o => optC o (fun (r : Int) => k (.exit 0) { n := 27, t := [(7, (.int .i64 r))], h := [] }) none) x0 x1 s_.1 s_.2 (S.l1Part_run3 x0 x1 n) (fun d => some d) none).symm
noncomputable def S.l1Part_tree {α : Type} (net : List Int) (among : Int) (place : Int) (leaf0_ : Int → α) (fail_ : α) : α :=
  (bif decide (place < 0) then fail_ else (optC (S.l1Part_run3 net among FUEL (bits BinOp.and IntKind.i64 (IntKind.i64.wrap (1 * 2 ^ min place.toNat IntKind.i64.bits)) among, true)) (fun qy_2 => (leaf0_ qy_2)) fail_))
theorem S.l1Part_tree_nat {α γ : Type} (g : α → γ) (net : List Int) (among : Int) (place : Int) (leaf0_ : Int → α) (fail_ : α) : g (S.l1Part_tree net among place leaf0_ fail_) = S.l1Part_tree net among place (fun d => g (leaf0_ d)) (g fail_) := by
  unfold S.l1Part_tree; simp only [apply_cnd g, apply_optC g, apply_sumC g]
noncomputable def S.l1Part_t (net : List Int) (among : Int) (place : Int) : Option (Int) := S.l1Part_tree net among place (fun d => some d) none
theorem S.l1Part_den (net : List Int) (among : Int) (place : Int) (κ : V → List E → R) : S.l1Part_F [.ro false (.ints .i64 net), .int .i64 among, .int .i64 place] [] κ = optC (S.l1Part_t net among place) (fun (r : Int) => κ (.int .i64 r) []) none := by
  have hu : S.l1Part_F [.ro false (.ints .i64 net), .int .i64 among, .int .i64 place] [] κ = S.l1Part_tree net among place (fun d => κ (.int .i64 d) []) none := by
    refine Eq.trans (show S.l1Part_F [.ro false (.ints .i64 net), .int .i64 among, .int .i64 place] [] κ = (bif decide (place < 0) then none else (S.l1Part_L3 FUEL { n := 27, t := [(0, (.ro false (.ints .i64 net))), (1, (.int .i64 among)), (7, (.int .i64 (bits BinOp.and IntKind.i64 (IntKind.i64.wrap (1 * 2 ^ min place.toNat IntKind.i64.bits)) among))), (8, (.bool true))], h := [] } (S.l1Part_k3 κ))) by kernel_rfl) ?_
    refine cnd_congr ?_ ?_
    · kernel_rfl
    · refine (S.l1Part_L3_run net among FUEL (bits BinOp.and IntKind.i64 (IntKind.i64.wrap (1 * 2 ^ min place.toNat IntKind.i64.bits)) among, true) (S.l1Part_k3 κ)).trans (optC_congr (fun qy_2 => ?_))
      kernel_rfl
  rw [hu]
  exact (S.l1Part_tree_nat (fun o => optC o (fun (r : Int) => κ (.int .i64 r) []) none) net among place (fun d => some d) none).symm
noncomputable def S.l1Part_s : D.Spec where
  keep := false
  pure := true
  ds := [.int .i64, .invalid, .invalid]
  sp := fun args h κ => match args, h with
    | [.ro false (.ints .i64 net), .int .i64 among, .int .i64 place], [] => optC (S.l1Part_t net among place) (fun (r : Int) => κ (.int .i64 r) []) none
    | _, _ => none
theorem S.l1Part_ok : SpecOk Try.prog 68 S.l1Part_s := by
  refine SpecOk.of TDok mixed (T := S.l1Part_T) ?_ (ann := S.l1Part_ann) Try.func68 rfl (by decide +kernel) ?_ ?_ ?_
  · intro p hp
    simp only [S.l1Part_T, List.mem_cons, List.not_mem_nil, or_false] at hp
    rcases hp with rfl
    · exact S.l1Near_ok
  · intro args h κ r hh
    simp only [S.l1Part_s] at hh
    split at hh
    · exact (S.l1Part_den _ _ _ κ).trans hh
    · cases hh
  · intro args h κ r hh
    simp only [S.l1Part_s] at hh ⊢
    split at hh
    · exact optC_law2 (F := fun (r : Int) κ => κ (.int .i64 r) []) (fun b κ r hb => ⟨_, _, hb, fun _ => rfl⟩) hh
    · cases hh
  · intro _ args h κ r hh
    simp only [S.l1Part_s] at hh
    split at hh
    · exact ⟨rfl, fun _ => rfl⟩
    · cases hh

-- loop.example/guardsonnets/spec.l6Joined
noncomputable def S.l6Joined_T : List (Nat × D.Spec) := [(69, S.l6First_s), (68, S.l1Part_s)]
def S.l6Joined_ann : Nat → List Nat × List Nat
  | _ => ([], [])
noncomputable def S.l6Joined_F (args : List V) (h : List E) (κ : V → List E → R) : R := funC TD (tableK S.l6Joined_T) S.l6Joined_ann (drawOk (tableP S.l6Joined_T)) FUEL Try.f57 args h κ
noncomputable def S.l6Joined_tree {α : Type} (net : List Int) (set_ : Int) (leaf0_ : Bool → α) (fail_ : α) : α :=
  (bif decide (set_ > 0) then (optC (S.l6First_t set_) (fun c_1 => (optC (S.l1Part_t net set_ c_1) (fun c_2 => (leaf0_ (c_2 == set_))) fail_)) fail_) else (leaf0_ false))
theorem S.l6Joined_tree_nat {α γ : Type} (g : α → γ) (net : List Int) (set_ : Int) (leaf0_ : Bool → α) (fail_ : α) : g (S.l6Joined_tree net set_ leaf0_ fail_) = S.l6Joined_tree net set_ (fun d => g (leaf0_ d)) (g fail_) := by
  unfold S.l6Joined_tree; simp only [apply_cnd g, apply_optC g, apply_sumC g]
noncomputable def S.l6Joined_t (net : List Int) (set_ : Int) : Option (Bool) := S.l6Joined_tree net set_ (fun d => some d) none
theorem S.l6Joined_den (net : List Int) (set_ : Int) (κ : V → List E → R) : S.l6Joined_F [.ro false (.ints .i64 net), .int .i64 set_] [] κ = optC (S.l6Joined_t net set_) (fun (r : Bool) => κ (.bool r) []) none := by
  have hu : S.l6Joined_F [.ro false (.ints .i64 net), .int .i64 set_] [] κ = S.l6Joined_tree net set_ (fun d => κ (.bool d) []) none := by
    kernel_rfl
  rw [hu]
  exact (S.l6Joined_tree_nat (fun o => optC o (fun (r : Bool) => κ (.bool r) []) none) net set_ (fun d => some d) none).symm
noncomputable def S.l6Joined_s : D.Spec where
  keep := false
  pure := true
  ds := [.int .i64, .invalid]
  sp := fun args h κ => match args, h with
    | [.ro false (.ints .i64 net), .int .i64 set_], [] => optC (S.l6Joined_t net set_) (fun (r : Bool) => κ (.bool r) []) none
    | _, _ => none
theorem S.l6Joined_ok : SpecOk Try.prog 57 S.l6Joined_s := by
  refine SpecOk.of TDok mixed (T := S.l6Joined_T) ?_ (ann := S.l6Joined_ann) Try.func57 rfl (by decide +kernel) ?_ ?_ ?_
  · intro p hp
    simp only [S.l6Joined_T, List.mem_cons, List.not_mem_nil, or_false] at hp
    rcases hp with rfl | rfl
    · exact S.l6First_ok
    · exact S.l1Part_ok
  · intro args h κ r hh
    simp only [S.l6Joined_s] at hh
    split at hh
    · exact (S.l6Joined_den _ _ κ).trans hh
    · cases hh
  · intro args h κ r hh
    simp only [S.l6Joined_s] at hh ⊢
    split at hh
    · exact optC_law2 (F := fun (r : Bool) κ => κ (.bool r) []) (fun b κ r hb => ⟨_, _, hb, fun _ => rfl⟩) hh
    · cases hh
  · intro _ args h κ r hh
    simp only [S.l6Joined_s] at hh
    split at hh
    · exact ⟨rfl, fun _ => rfl⟩
    · cases hh

-- loop.example/guardsonnets/spec.TogetherOk
noncomputable def S.TogetherOk_T : List (Nat × D.Spec) := [(44, S.l1SetOk_s), (57, S.l6Joined_s)]
def S.TogetherOk_ann : Nat → List Nat × List Nat
  | _ => ([], [])
noncomputable def S.TogetherOk_F (args : List V) (h : List E) (κ : V → List E → R) : R := funC TD (tableK S.TogetherOk_T) S.TogetherOk_ann (drawOk (tableP S.TogetherOk_T)) FUEL Try.f28 args h κ
noncomputable def S.TogetherOk_tree {α : Type} (net : List Int) (set_ : Int) (leaf0_ : Bool → α) (fail_ : α) : α :=
  (optC (S.l1SetOk_t net set_) (fun c_1 => (bif c_1 then (optC (S.l6Joined_t net set_) (fun c_2 => (leaf0_ c_2)) fail_) else (leaf0_ false))) fail_)
theorem S.TogetherOk_tree_nat {α γ : Type} (g : α → γ) (net : List Int) (set_ : Int) (leaf0_ : Bool → α) (fail_ : α) : g (S.TogetherOk_tree net set_ leaf0_ fail_) = S.TogetherOk_tree net set_ (fun d => g (leaf0_ d)) (g fail_) := by
  unfold S.TogetherOk_tree; simp only [apply_cnd g, apply_optC g, apply_sumC g]
noncomputable def S.TogetherOk_t (net : List Int) (set_ : Int) : Option (Bool) := S.TogetherOk_tree net set_ (fun d => some d) none
theorem S.TogetherOk_den (net : List Int) (set_ : Int) (κ : V → List E → R) : S.TogetherOk_F [.ro false (.ints .i64 net), .int .i64 set_] [] κ = optC (S.TogetherOk_t net set_) (fun (r : Bool) => κ (.bool r) []) none := by
  have hu : S.TogetherOk_F [.ro false (.ints .i64 net), .int .i64 set_] [] κ = S.TogetherOk_tree net set_ (fun d => κ (.bool d) []) none := by
    kernel_rfl
  rw [hu]
  exact (S.TogetherOk_tree_nat (fun o => optC o (fun (r : Bool) => κ (.bool r) []) none) net set_ (fun d => some d) none).symm
noncomputable def S.TogetherOk_s : D.Spec where
  keep := false
  pure := true
  ds := [.int .i64, .invalid]
  sp := fun args h κ => match args, h with
    | [.ro false (.ints .i64 net), .int .i64 set_], [] => optC (S.TogetherOk_t net set_) (fun (r : Bool) => κ (.bool r) []) none
    | _, _ => none
theorem S.TogetherOk_ok : SpecOk Try.prog 28 S.TogetherOk_s := by
  refine SpecOk.of TDok mixed (T := S.TogetherOk_T) ?_ (ann := S.TogetherOk_ann) Try.func28 rfl (by decide +kernel) ?_ ?_ ?_
  · intro p hp
    simp only [S.TogetherOk_T, List.mem_cons, List.not_mem_nil, or_false] at hp
    rcases hp with rfl | rfl
    · exact S.l1SetOk_ok
    · exact S.l6Joined_ok
  · intro args h κ r hh
    simp only [S.TogetherOk_s] at hh
    split at hh
    · exact (S.TogetherOk_den _ _ κ).trans hh
    · cases hh
  · intro args h κ r hh
    simp only [S.TogetherOk_s] at hh ⊢
    split at hh
    · exact optC_law2 (F := fun (r : Bool) κ => κ (.bool r) []) (fun b κ r hb => ⟨_, _, hb, fun _ => rfl⟩) hh
    · cases hh
  · intro _ args h κ r hh
    simp only [S.TogetherOk_s] at hh
    split at hh
    · exact ⟨rfl, fun _ => rfl⟩
    · cases hh

-- loop.example/guardsonnets/impl.placeIn
noncomputable def I.placeIn_T : List (Nat × D.Spec) := []
def I.placeIn_ann : Nat → List Nat × List Nat
  | _ => ([], [])
noncomputable def I.placeIn_F (args : List V) (h : List E) (κ : V → List E → R) : R := funC TD (tableK I.placeIn_T) I.placeIn_ann (drawOk (tableP I.placeIn_T)) FUEL Try.f58 args h κ
noncomputable def I.placeIn_tree {α : Type} (net : List Int) (place : Int) (leaf0_ : Bool → α) (fail_ : α) : α :=
  (bif decide (place ≥ 0) then (leaf0_ (decide (place < (↑net.length : Int)))) else (leaf0_ false))
theorem I.placeIn_tree_nat {α γ : Type} (g : α → γ) (net : List Int) (place : Int) (leaf0_ : Bool → α) (fail_ : α) : g (I.placeIn_tree net place leaf0_ fail_) = I.placeIn_tree net place (fun d => g (leaf0_ d)) (g fail_) := by
  unfold I.placeIn_tree; simp only [apply_cnd g, apply_optC g, apply_sumC g]
noncomputable def I.placeIn_t (net : List Int) (place : Int) : Option (Bool) := I.placeIn_tree net place (fun d => some d) none
theorem I.placeIn_den (net : List Int) (place : Int) (κ : V → List E → R) : I.placeIn_F [.ro false (.ints .i64 net), .int .i64 place] [] κ = optC (I.placeIn_t net place) (fun (r : Bool) => κ (.bool r) []) none := by
  have hu : I.placeIn_F [.ro false (.ints .i64 net), .int .i64 place] [] κ = I.placeIn_tree net place (fun d => κ (.bool d) []) none := by
    kernel_rfl
  rw [hu]
  exact (I.placeIn_tree_nat (fun o => optC o (fun (r : Bool) => κ (.bool r) []) none) net place (fun d => some d) none).symm
noncomputable def I.placeIn_s : D.Spec where
  keep := false
  pure := true
  ds := [.int .i64, .invalid]
  sp := fun args h κ => match args, h with
    | [.ro false (.ints .i64 net), .int .i64 place], [] => optC (I.placeIn_t net place) (fun (r : Bool) => κ (.bool r) []) none
    | _, _ => none
theorem I.placeIn_ok : SpecOk Try.prog 58 I.placeIn_s := by
  refine SpecOk.of TDok mixed (T := I.placeIn_T) ?_ (ann := I.placeIn_ann) Try.func58 rfl (by decide +kernel) ?_ ?_ ?_
  · intro p hp; cases hp
  · intro args h κ r hh
    simp only [I.placeIn_s] at hh
    split at hh
    · exact (I.placeIn_den _ _ κ).trans hh
    · cases hh
  · intro args h κ r hh
    simp only [I.placeIn_s] at hh ⊢
    split at hh
    · exact optC_law2 (F := fun (r : Bool) κ => κ (.bool r) []) (fun b κ r hb => ⟨_, _, hb, fun _ => rfl⟩) hh
    · cases hh
  · intro _ args h κ r hh
    simp only [I.placeIn_s] at hh
    split at hh
    · exact ⟨rfl, fun _ => rfl⟩
    · cases hh

-- loop.example/guardsonnets/impl.partIn
noncomputable def I.partIn_T : List (Nat × D.Spec) := [(65, I.seenIn_s)]
def I.partIn_ann : Nat → List Nat × List Nat
  | 3 => ([0, 5, 6], [5])
  | _ => ([], [])
noncomputable def I.partIn_F (args : List V) (h : List E) (κ : V → List E → R) : R := funC TD (tableK I.partIn_T) I.partIn_ann (drawOk (tableP I.partIn_T)) FUEL Try.f59 args h κ
noncomputable def I.partIn_L3 (n : Nat) (σ : St) (k : X → St → R) : R := iterC 0 (fun σ k => denC TD (tableK I.partIn_T) I.partIn_ann (drawOk (tableP I.partIn_T)) 0 FUEL ((findLoop 3 (Try.f59.body.getD .skip)).getD .skip) σ k) [0, 5, 6] [5] n σ k
noncomputable def I.partIn_k3 (κ : V → List E → R) : X → St → R := (afterC TD (tableK I.partIn_T) I.partIn_ann (drawOk (tableP I.partIn_T)) 0 FUEL 3 (Try.f59.body.getD .skip) (finC TD 0 Try.f59 κ)).getD (fun _ _ => none)
noncomputable def I.partIn_step3 {α : Type} (x0 : List Int) (x5 : Int) (x6 : Int) (next_ : Int × Int → α) (out0_ : Int → α) (fail_ : α) : α :=
  (bif decide (x6 < (↑x0.length : Int)) then (optC (I.seenIn_t x0 x5) (fun c_1 => (next_ (c_1, IntKind.i64.wrap (x6 + 1)))) fail_) else (out0_ x5))
theorem I.partIn_step3_nat {α γ : Type} (g : α → γ) (x0 : List Int) (x5 : Int) (x6 : Int) (next_ : Int × Int → α) (out0_ : Int → α) (fail_ : α) : g (I.partIn_step3 x0 x5 x6 next_ out0_ fail_) = I.partIn_step3 x0 x5 x6 (fun s => g (next_ s)) (fun d => g (out0_ d)) (g fail_) := by
  unfold I.partIn_step3; simp only [apply_cnd g, apply_optC g, apply_sumC g]
noncomputable def I.partIn_run3 (x0 : List Int) : Nat → Int × Int → Option (Int)
  | 0, _ => none
  | n + 1, s_ => I.partIn_step3 x0 s_.1 s_.2 (I.partIn_run3 x0 n) (fun d => some d) none
theorem I.partIn_L3_run (x0 : List Int) (n : Nat) (s_ : Int × Int) (k : X → St → R) : I.partIn_L3 n { n := 19, t := [(0, (.ro false (.ints .i64 x0))), (5, (.int .i64 s_.1)), (6, (.int .i64 s_.2))], h := [] } k = optC (I.partIn_run3 x0 n s_) (fun (r : Int) => k (.exit 0) { n := 19, t := [(5, (.int .i64 r))], h := [] }) none := by
  induction n generalizing s_ with
  | zero => rfl
  | succ n ih =>
    have hu : I.partIn_L3 (n + 1) { n := 19, t := [(0, (.ro false (.ints .i64 x0))), (5, (.int .i64 s_.1)), (6, (.int .i64 s_.2))], h := [] } k = I.partIn_step3 x0 s_.1 s_.2 (fun s_ => I.partIn_L3 n { n := 19, t := [(0, (.ro false (.ints .i64 x0))), (5, (.int .i64 s_.1)), (6, (.int .i64 s_.2))], h := [] } k) (fun d => k (.exit 0) { n := 19, t := [(5, (.int .i64 d))], h := [] }) none := by
      kernel_rfl
    have hs : (fun s_ : Int × Int => I.partIn_L3 n { n := 19, t := [(0, (.ro false (.ints .i64 x0))), (5, (.int .i64 s_.1)), (6, (.int .i64 s_.2))], h := [] } k) = fun s_ => optC (I.partIn_run3 x0 n s_) (fun (r : Int) => k (.exit 0) { n := 19, t := [(5, (.int .i64 r))], h := [] }) none := funext ih
    rw [hu, hs]
    exact (I.partIn_step3_nat (fun o => optC o (fun (r : Int) => k (.exit 0) { n := 19, t := [(5, (.int .i64 r))], h := [] }) none) x0 s_.1 s_.2 (I.partIn_run3 x0 n) (fun d => some d) none).symm
noncomputable def I.partIn_tree {α : Type} (net : List Int) (place : Int) (leaf0_ : Int → α) (fail_ : α) : α :=
  (bif decide (place < 0) then fail_ else (optC (I.partIn_run3 net FUEL (IntKind.i64.wrap (1 * 2 ^ min place.toNat IntKind.i64.bits), 1)) (fun qy_2 => (leaf0_ qy_2)) fail_))
theorem I.partIn_tree_nat {α γ : Type} (g : α → γ) (net : List Int) (place : Int) (leaf0_ : Int → α) (fail_ : α) : g (I.partIn_tree net place leaf0_ fail_) = I.partIn_tree net place (fun d => g (leaf0_ d)) (g fail_) := by
  unfold I.partIn_tree; simp only [apply_cnd g, apply_optC g, apply_sumC g]
noncomputable def I.partIn_t (net : List Int) (place : Int) : Option (Int) := I.partIn_tree net place (fun d => some d) none
theorem I.partIn_den (net : List Int) (place : Int) (κ : V → List E → R) : I.partIn_F [.ro false (.ints .i64 net), .int .i64 place] [] κ = optC (I.partIn_t net place) (fun (r : Int) => κ (.int .i64 r) []) none := by
  have hu : I.partIn_F [.ro false (.ints .i64 net), .int .i64 place] [] κ = I.partIn_tree net place (fun d => κ (.int .i64 d) []) none := by
    refine Eq.trans (show I.partIn_F [.ro false (.ints .i64 net), .int .i64 place] [] κ = (bif decide (place < 0) then none else (I.partIn_L3 FUEL { n := 19, t := [(0, (.ro false (.ints .i64 net))), (5, (.int .i64 (IntKind.i64.wrap (1 * 2 ^ min place.toNat IntKind.i64.bits)))), (6, (.int .i64 1))], h := [] } (I.partIn_k3 κ))) by kernel_rfl) ?_
    refine cnd_congr ?_ ?_
    · kernel_rfl
    · refine (I.partIn_L3_run net FUEL (IntKind.i64.wrap (1 * 2 ^ min place.toNat IntKind.i64.bits), 1) (I.partIn_k3 κ)).trans (optC_congr (fun qy_2 => ?_))
      kernel_rfl
  rw [hu]
  exact (I.partIn_tree_nat (fun o => optC o (fun (r : Int) => κ (.int .i64 r) []) none) net place (fun d => some d) none).symm
noncomputable def I.partIn_s : D.Spec where
  keep := false
  pure := true
  ds := [.int .i64, .invalid]
  sp := fun args h κ => match args, h with
    | [.ro false (.ints .i64 net), .int .i64 place], [] => optC (I.partIn_t net place) (fun (r : Int) => κ (.int .i64 r) []) none
    | _, _ => none
theorem I.partIn_ok : SpecOk Try.prog 59 I.partIn_s := by
  refine SpecOk.of TDok mixed (T := I.partIn_T) ?_ (ann := I.partIn_ann) Try.func59 rfl (by decide +kernel) ?_ ?_ ?_
  · intro p hp
    simp only [I.partIn_T, List.mem_cons, List.not_mem_nil, or_false] at hp
    rcases hp with rfl
    · exact I.seenIn_ok
  · intro args h κ r hh
    simp only [I.partIn_s] at hh
    split at hh
    · exact (I.partIn_den _ _ κ).trans hh
    · cases hh
  · intro args h κ r hh
    simp only [I.partIn_s] at hh ⊢
    split at hh
    · exact optC_law2 (F := fun (r : Int) κ => κ (.int .i64 r) []) (fun b κ r hb => ⟨_, _, hb, fun _ => rfl⟩) hh
    · cases hh
  · intro _ args h κ r hh
    simp only [I.partIn_s] at hh
    split at hh
    · exact ⟨rfl, fun _ => rfl⟩
    · cases hh

-- loop.example/guardsonnets/impl.PartOf
noncomputable def I.PartOf_T : List (Nat × D.Spec) := [(16, I.NetOk_s), (58, I.placeIn_s), (59, I.partIn_s)]
def I.PartOf_ann : Nat → List Nat × List Nat
  | _ => ([], [])
noncomputable def I.PartOf_F (args : List V) (h : List E) (κ : V → List E → R) : R := funC TD (tableK I.PartOf_T) I.PartOf_ann (drawOk (tableP I.PartOf_T)) FUEL Try.f29 args h κ
noncomputable def I.PartOf_tree {α : Type} (net : List Int) (place : Int) (leaf0_ : Int → α) (fail_ : α) : α :=
  (optC (I.NetOk_t net) (fun c_1 => (bif !c_1 then (leaf0_ (-1)) else (optC (I.placeIn_t net place) (fun c_2 => (bif !c_2 then (leaf0_ (-1)) else (optC (I.partIn_t net place) (fun c_3 => (leaf0_ c_3)) fail_))) fail_))) fail_)
theorem I.PartOf_tree_nat {α γ : Type} (g : α → γ) (net : List Int) (place : Int) (leaf0_ : Int → α) (fail_ : α) : g (I.PartOf_tree net place leaf0_ fail_) = I.PartOf_tree net place (fun d => g (leaf0_ d)) (g fail_) := by
  unfold I.PartOf_tree; simp only [apply_cnd g, apply_optC g, apply_sumC g]
noncomputable def I.PartOf_t (net : List Int) (place : Int) : Option (Int) := I.PartOf_tree net place (fun d => some d) none
theorem I.PartOf_den (net : List Int) (place : Int) (κ : V → List E → R) : I.PartOf_F [.ro false (.ints .i64 net), .int .i64 place] [] κ = optC (I.PartOf_t net place) (fun (r : Int) => κ (.int .i64 r) []) none := by
  have hu : I.PartOf_F [.ro false (.ints .i64 net), .int .i64 place] [] κ = I.PartOf_tree net place (fun d => κ (.int .i64 d) []) none := by
    kernel_rfl
  rw [hu]
  exact (I.PartOf_tree_nat (fun o => optC o (fun (r : Int) => κ (.int .i64 r) []) none) net place (fun d => some d) none).symm
noncomputable def I.PartOf_s : D.Spec where
  keep := false
  pure := true
  ds := [.int .i64, .invalid]
  sp := fun args h κ => match args, h with
    | [.ro false (.ints .i64 net), .int .i64 place], [] => optC (I.PartOf_t net place) (fun (r : Int) => κ (.int .i64 r) []) none
    | _, _ => none
theorem I.PartOf_ok : SpecOk Try.prog 29 I.PartOf_s := by
  refine SpecOk.of TDok mixed (T := I.PartOf_T) ?_ (ann := I.PartOf_ann) Try.func29 rfl (by decide +kernel) ?_ ?_ ?_
  · intro p hp
    simp only [I.PartOf_T, List.mem_cons, List.not_mem_nil, or_false] at hp
    rcases hp with rfl | rfl | rfl
    · exact I.NetOk_ok
    · exact I.placeIn_ok
    · exact I.partIn_ok
  · intro args h κ r hh
    simp only [I.PartOf_s] at hh
    split at hh
    · exact (I.PartOf_den _ _ κ).trans hh
    · cases hh
  · intro args h κ r hh
    simp only [I.PartOf_s] at hh ⊢
    split at hh
    · exact optC_law2 (F := fun (r : Int) κ => κ (.int .i64 r) []) (fun b κ r hb => ⟨_, _, hb, fun _ => rfl⟩) hh
    · cases hh
  · intro _ args h κ r hh
    simp only [I.PartOf_s] at hh
    split at hh
    · exact ⟨rfl, fun _ => rfl⟩
    · cases hh

-- loop.example/guardsonnets/laws.FnTogetherOk
noncomputable def L.FnTogetherOk_T : List (Nat × D.Spec) := [(26, S.DrawTogetherOk_s), (27, I.TogetherOk_s), (28, S.TogetherOk_s), (16, I.NetOk_s), (17, L.alive_s), (29, I.PartOf_s)]
def L.FnTogetherOk_ann : Nat → List Nat × List Nat
  | 10 => ([3, 4, 5, 6], [2, 3])
  | _ => ([], [])
noncomputable def L.FnTogetherOk_F (args : List V) (h : List E) (κ : V → List E → R) : R := funC TD (tableK L.FnTogetherOk_T) L.FnTogetherOk_ann (drawOk (tableP L.FnTogetherOk_T)) FUEL Try.f7 args h κ
noncomputable def L.FnTogetherOk_L10 (n : Nat) (σ : St) (k : X → St → R) : R := iterC 0 (fun σ k => denC TD (tableK L.FnTogetherOk_T) L.FnTogetherOk_ann (drawOk (tableP L.FnTogetherOk_T)) 0 FUEL ((findLoop 10 (Try.f7.body.getD .skip)).getD .skip) σ k) [3, 4, 5, 6] [2, 3] n σ k
noncomputable def L.FnTogetherOk_k10 (κ : V → List E → R) : X → St → R := (afterC TD (tableK L.FnTogetherOk_T) L.FnTogetherOk_ann (drawOk (tableP L.FnTogetherOk_T)) 0 FUEL 10 (Try.f7.body.getD .skip) (finC TD 0 Try.f7 κ)).getD (fun _ _ => none)
noncomputable def L.FnTogetherOk_step10 {α : Type} (x4 : Int) (x5 : Bool) (x6 : Int) (r0 : List Int) (next_ : Int × (List Int) → α) (out0_ : Bool × (List Int) → α) (out1_ : List Int → α) (fail_ : α) : α :=
  (bif decide (x6 < (↑r0.length : Int)) then (bif decide (x6 < 0) then fail_ else (optC (I.TogetherOk_t r0 (IntKind.i64.wrap (1 * 2 ^ min x6.toNat IntKind.i64.bits))) (fun c_6 => (bif !c_6 then (out0_ (false, r0)) else (optC (I.PartOf_t r0 x6) (fun c_7 => (optC (I.TogetherOk_t r0 c_7) (fun c_8 => (bif !c_8 then (out0_ (false, r0)) else (bif x5 then (bif decide (x6 < 0) then fail_ else (bif (x4.fdiv (2 ^ min x6.toNat IntKind.i64.bits)).tmod 2 == 1 then (optC (I.PartOf_t r0 x6) (fun c_9 => (bif !bits BinOp.andNot IntKind.i64 x4 c_9 == 0 then (out0_ (false, r0)) else (next_ (IntKind.i64.wrap (x6 + 1), r0)))) fail_) else (next_ (IntKind.i64.wrap (x6 + 1), r0)))) else (next_ (IntKind.i64.wrap (x6 + 1), r0))))) fail_)) fail_))) fail_)) else (out1_ r0))
theorem L.FnTogetherOk_step10_nat {α γ : Type} (g : α → γ) (x4 : Int) (x5 : Bool) (x6 : Int) (r0 : List Int) (next_ : Int × (List Int) → α) (out0_ : Bool × (List Int) → α) (out1_ : List Int → α) (fail_ : α) : g (L.FnTogetherOk_step10 x4 x5 x6 r0 next_ out0_ out1_ fail_) = L.FnTogetherOk_step10 x4 x5 x6 r0 (fun s => g (next_ s)) (fun d => g (out0_ d)) (fun d => g (out1_ d)) (g fail_) := by
  unfold L.FnTogetherOk_step10; simp only [apply_cnd g, apply_optC g, apply_sumC g]
noncomputable def L.FnTogetherOk_run10 (x4 : Int) (x5 : Bool) : Nat → Int × (List Int) → Option ((Bool × (List Int)) ⊕ (List Int))
  | 0, _ => none
  | n + 1, s_ => L.FnTogetherOk_step10 x4 x5 s_.1 s_.2 (L.FnTogetherOk_run10 x4 x5 n) (fun d => some ((Sum.inl d))) (fun d => some ((Sum.inr d))) none
theorem L.FnTogetherOk_L10_run (x4 : Int) (x5 : Bool) (n : Nat) (s_ : Int × (List Int)) (k : X → St → R) : L.FnTogetherOk_L10 n { n := 72, t := [(3, (.own 0)), (4, (.int .i64 x4)), (5, (.bool x5)), (6, (.int .i64 s_.1))], h := [.row (.ints .i64 s_.2)] } k = optC (L.FnTogetherOk_run10 x4 x5 n s_) (fun (r : (Bool × (List Int)) ⊕ (List Int)) => (sumC r (fun (r : Bool × (List Int)) => k (.ret) { n := 72, t := [(2, (.bool r.1)), (3, (.own 0))], h := [.row (.ints .i64 r.2)] }) (fun (r : List Int) => k (.exit 0) { n := 72, t := [(2, .junk), (3, (.own 0))], h := [.row (.ints .i64 r)] }))) none := by
  induction n generalizing s_ with
  | zero => rfl
  | succ n ih =>
    have hu : L.FnTogetherOk_L10 (n + 1) { n := 72, t := [(3, (.own 0)), (4, (.int .i64 x4)), (5, (.bool x5)), (6, (.int .i64 s_.1))], h := [.row (.ints .i64 s_.2)] } k = L.FnTogetherOk_step10 x4 x5 s_.1 s_.2 (fun s_ => L.FnTogetherOk_L10 n { n := 72, t := [(3, (.own 0)), (4, (.int .i64 x4)), (5, (.bool x5)), (6, (.int .i64 s_.1))], h := [.row (.ints .i64 s_.2)] } k) (fun d => k (.ret) { n := 72, t := [(2, (.bool d.1)), (3, (.own 0))], h := [.row (.ints .i64 d.2)] }) (fun d => k (.exit 0) { n := 72, t := [(2, .junk), (3, (.own 0))], h := [.row (.ints .i64 d)] }) none := by
      kernel_rfl
    have hs : (fun s_ : Int × (List Int) => L.FnTogetherOk_L10 n { n := 72, t := [(3, (.own 0)), (4, (.int .i64 x4)), (5, (.bool x5)), (6, (.int .i64 s_.1))], h := [.row (.ints .i64 s_.2)] } k) = fun s_ => optC (L.FnTogetherOk_run10 x4 x5 n s_) (fun (r : (Bool × (List Int)) ⊕ (List Int)) => (sumC r (fun (r : Bool × (List Int)) => k (.ret) { n := 72, t := [(2, (.bool r.1)), (3, (.own 0))], h := [.row (.ints .i64 r.2)] }) (fun (r : List Int) => k (.exit 0) { n := 72, t := [(2, .junk), (3, (.own 0))], h := [.row (.ints .i64 r)] }))) none := funext ih
    rw [hu, hs]
    exact (L.FnTogetherOk_step10_nat (fun o => optC o (fun (r : (Bool × (List Int)) ⊕ (List Int)) => (sumC r (fun (r : Bool × (List Int)) => k (.ret) { n := 72, t := [(2, (.bool r.1)), (3, (.own 0))], h := [.row (.ints .i64 r.2)] }) (fun (r : List Int) => k (.exit 0) { n := 72, t := [(2, .junk), (3, (.own 0))], h := [.row (.ints .i64 r)] }))) none) x4 x5 s_.1 s_.2 (L.FnTogetherOk_run10 x4 x5 n) (fun d => some ((Sum.inl d))) (fun d => some ((Sum.inr d))) none).symm
noncomputable def L.FnTogetherOk_tree {α : Type} (code : List Int) (leaf0_ : Bool → α) (fail_ : α) : α :=
  (bif decide ((↑code.length : Int) > 1048576) then (leaf0_ true) else (optC (S.DrawTogetherOk_t code) (fun c_1 => (optC (I.TogetherOk_t c_1.snd c_1.fst) (fun c_2 => (optC (S.TogetherOk_t c_1.snd c_1.fst) (fun c_3 => (bif !c_2 == c_3 then (leaf0_ false) else (optC (I.NetOk_t c_1.snd) (fun c_4 => (bif !c_4 then (bif !c_2 then (optC (L.alive_t) (fun c_5 => (leaf0_ c_5)) fail_) else (leaf0_ false)) else (optC (L.FnTogetherOk_run10 c_1.fst c_2 FUEL (0, c_1.snd)) (fun qy_10 => (sumC qy_10 (fun (qy_10 : Bool × (List Int)) => (leaf0_ qy_10.1)) (fun (qy_10 : List Int) => (optC (I.TogetherOk_t qy_10 0) (fun c_11 => (bif !c_11 then (optC (L.alive_t) (fun c_12 => (leaf0_ c_12)) fail_) else (leaf0_ false))) fail_)))) fail_))) fail_))) fail_)) fail_)) fail_))
theorem L.FnTogetherOk_tree_nat {α γ : Type} (g : α → γ) (code : List Int) (leaf0_ : Bool → α) (fail_ : α) : g (L.FnTogetherOk_tree code leaf0_ fail_) = L.FnTogetherOk_tree code (fun d => g (leaf0_ d)) (g fail_) := by
  unfold L.FnTogetherOk_tree; simp only [apply_cnd g, apply_optC g, apply_sumC g]
noncomputable def L.FnTogetherOk_t (code : List Int) : Option (Bool) := L.FnTogetherOk_tree code (fun d => some d) none
theorem L.FnTogetherOk_den (code : List Int) (κ : V → List E → R) : L.FnTogetherOk_F [.ro true (.ints .u8 code)] [] κ = optC (L.FnTogetherOk_t code) (fun (r : Bool) => κ (.bool r) []) none := by
  have hu : L.FnTogetherOk_F [.ro true (.ints .u8 code)] [] κ = L.FnTogetherOk_tree code (fun d => κ (.bool d) []) none := by
    refine Eq.trans (show L.FnTogetherOk_F [.ro true (.ints .u8 code)] [] κ = (bif decide ((↑code.length : Int) > 1048576) then (κ (.bool true) []) else (optC (S.DrawTogetherOk_t code) (fun c_1 => (optC (I.TogetherOk_t c_1.snd c_1.fst) (fun c_2 => (optC (S.TogetherOk_t c_1.snd c_1.fst) (fun c_3 => (bif !c_2 == c_3 then (κ (.bool false) []) else (optC (I.NetOk_t c_1.snd) (fun c_4 => (bif !c_4 then (bif !c_2 then (optC (L.alive_t) (fun c_5 => (κ (.bool c_5) [])) none) else (κ (.bool false) [])) else (L.FnTogetherOk_L10 FUEL { n := 72, t := [(3, (.own 0)), (4, (.int .i64 c_1.fst)), (5, (.bool c_2)), (6, (.int .i64 0))], h := [.row (.ints .i64 c_1.snd)] } (L.FnTogetherOk_k10 κ)))) none))) none)) none)) none)) by kernel_rfl) ?_
    refine cnd_congr ?_ ?_
    · kernel_rfl
    · refine optC_congr (fun c_1 => ?_)
      refine optC_congr (fun c_2 => ?_)
      refine optC_congr (fun c_3 => ?_)
      refine cnd_congr ?_ ?_
      · kernel_rfl
      · refine optC_congr (fun c_4 => ?_)
        refine cnd_congr ?_ ?_
        · kernel_rfl
        · refine (L.FnTogetherOk_L10_run c_1.fst c_2 FUEL (0, c_1.snd) (L.FnTogetherOk_k10 κ)).trans (optC_congr (fun qy_10 => ?_))
          rcases qy_10 with qy_10 | qy_10
          · kernel_rfl
          · kernel_rfl
  rw [hu]
  exact (L.FnTogetherOk_tree_nat (fun o => optC o (fun (r : Bool) => κ (.bool r) []) none) code (fun d => some d) none).symm
noncomputable def L.FnTogetherOk_s : D.Spec where
  keep := true
  pure := true
  ds := [.int .u8]
  sp := fun args h κ => match args, h with
    | [.ro true (.ints .u8 code)], [] => optC (L.FnTogetherOk_t code) (fun (r : Bool) => κ (.bool r) []) none
    | _, _ => none
theorem L.FnTogetherOk_ok : SpecOk Try.prog 7 L.FnTogetherOk_s := by
  refine SpecOk.of TDok mixed (T := L.FnTogetherOk_T) ?_ (ann := L.FnTogetherOk_ann) Try.func7 rfl (by decide +kernel) ?_ ?_ ?_
  · intro p hp
    simp only [L.FnTogetherOk_T, List.mem_cons, List.not_mem_nil, or_false] at hp
    rcases hp with rfl | rfl | rfl | rfl | rfl | rfl
    · exact S.DrawTogetherOk_ok
    · exact I.TogetherOk_ok
    · exact S.TogetherOk_ok
    · exact I.NetOk_ok
    · exact L.alive_ok
    · exact I.PartOf_ok
  · intro args h κ r hh
    simp only [L.FnTogetherOk_s] at hh
    split at hh
    · exact (L.FnTogetherOk_den _ κ).trans hh
    · cases hh
  · intro args h κ r hh
    simp only [L.FnTogetherOk_s] at hh ⊢
    split at hh
    · exact optC_law2 (F := fun (r : Bool) κ => κ (.bool r) []) (fun b κ r hb => ⟨_, _, hb, fun _ => rfl⟩) hh
    · cases hh
  · intro _ args h κ r hh
    simp only [L.FnTogetherOk_s] at hh
    split at hh
    · exact ⟨rfl, fun _ => rfl⟩
    · cases hh

-- loop.example/guardsonnets/laws.FnExactTogetherOk
noncomputable def L.FnExactTogetherOk_T : List (Nat × D.Spec) := [(20, L.toIntS_s), (28, S.TogetherOk_s), (27, I.TogetherOk_s), (21, L.eqIntS_s)]
def L.FnExactTogetherOk_ann : Nat → List Nat × List Nat
  | _ => ([], [])
noncomputable def L.FnExactTogetherOk_F (args : List V) (h : List E) (κ : V → List E → R) : R := funC TD (tableK L.FnExactTogetherOk_T) L.FnExactTogetherOk_ann (drawOk (tableP L.FnExactTogetherOk_T)) FUEL Try.f8 args h κ
noncomputable def L.FnExactTogetherOk_tree {α : Type} (aNet : List Int) (aSet : Int) (leaf0_ : Bool → α) (fail_ : α) : α :=
  (bif decide ((↑aNet.length : Int) > 1048576) then (leaf0_ true) else (optC (L.toIntS_t aNet) (fun c_1 => (optC (S.TogetherOk_t c_1 aSet) (fun c_2 => (optC (L.toIntS_t aNet) (fun c_3 => (optC (I.TogetherOk_t c_3 aSet) (fun c_4 => (bif !c_4 == c_2 then (leaf0_ false) else (optC (L.toIntS_t aNet) (fun c_5 => (optC (L.eqIntS_t c_3 c_5) (fun c_6 => (bif !c_6 then (leaf0_ false) else (leaf0_ true))) fail_)) fail_))) fail_)) fail_)) fail_)) fail_))
theorem L.FnExactTogetherOk_tree_nat {α γ : Type} (g : α → γ) (aNet : List Int) (aSet : Int) (leaf0_ : Bool → α) (fail_ : α) : g (L.FnExactTogetherOk_tree aNet aSet leaf0_ fail_) = L.FnExactTogetherOk_tree aNet aSet (fun d => g (leaf0_ d)) (g fail_) := by
  unfold L.FnExactTogetherOk_tree; simp only [apply_cnd g, apply_optC g, apply_sumC g]
noncomputable def L.FnExactTogetherOk_t (aNet : List Int) (aSet : Int) : Option (Bool) := L.FnExactTogetherOk_tree aNet aSet (fun d => some d) none
theorem L.FnExactTogetherOk_den (aNet : List Int) (aSet : Int) (κ : V → List E → R) : L.FnExactTogetherOk_F [.ro true (.ints .i64 aNet), .int .i64 aSet] [] κ = optC (L.FnExactTogetherOk_t aNet aSet) (fun (r : Bool) => κ (.bool r) []) none := by
  have hu : L.FnExactTogetherOk_F [.ro true (.ints .i64 aNet), .int .i64 aSet] [] κ = L.FnExactTogetherOk_tree aNet aSet (fun d => κ (.bool d) []) none := by
    kernel_rfl
  rw [hu]
  exact (L.FnExactTogetherOk_tree_nat (fun o => optC o (fun (r : Bool) => κ (.bool r) []) none) aNet aSet (fun d => some d) none).symm
noncomputable def L.FnExactTogetherOk_s : D.Spec where
  keep := true
  pure := true
  ds := [.int .i64, .invalid]
  sp := fun args h κ => match args, h with
    | [.ro true (.ints .i64 aNet), .int .i64 aSet], [] => optC (L.FnExactTogetherOk_t aNet aSet) (fun (r : Bool) => κ (.bool r) []) none
    | _, _ => none
theorem L.FnExactTogetherOk_ok : SpecOk Try.prog 8 L.FnExactTogetherOk_s := by
  refine SpecOk.of TDok mixed (T := L.FnExactTogetherOk_T) ?_ (ann := L.FnExactTogetherOk_ann) Try.func8 rfl (by decide +kernel) ?_ ?_ ?_
  · intro p hp
    simp only [L.FnExactTogetherOk_T, List.mem_cons, List.not_mem_nil, or_false] at hp
    rcases hp with rfl | rfl | rfl | rfl
    · exact L.toIntS_ok
    · exact S.TogetherOk_ok
    · exact I.TogetherOk_ok
    · exact L.eqIntS_ok
  · intro args h κ r hh
    simp only [L.FnExactTogetherOk_s] at hh
    split at hh
    · exact (L.FnExactTogetherOk_den _ _ κ).trans hh
    · cases hh
  · intro args h κ r hh
    simp only [L.FnExactTogetherOk_s] at hh ⊢
    split at hh
    · exact optC_law2 (F := fun (r : Bool) κ => κ (.bool r) []) (fun b κ r hb => ⟨_, _, hb, fun _ => rfl⟩) hh
    · cases hh
  · intro _ args h κ r hh
    simp only [L.FnExactTogetherOk_s] at hh
    split at hh
    · exact ⟨rfl, fun _ => rfl⟩
    · cases hh

-- loop.example/guardsonnets/spec.DrawJoinedWatchOk
noncomputable def S.DrawJoinedWatchOk_T : List (Nat × D.Spec) := [(38, S.l20Open_s), (55, S.l20Joined_s)]
def S.DrawJoinedWatchOk_ann : Nat → List Nat × List Nat
  | _ => ([], [])
noncomputable def S.DrawJoinedWatchOk_F (args : List V) (h : List E) (κ : V → List E → R) : R := funC TD (tableK S.DrawJoinedWatchOk_T) S.DrawJoinedWatchOk_ann (drawOk (tableP S.DrawJoinedWatchOk_T)) FUEL Try.f30 args h κ
noncomputable def S.DrawJoinedWatchOk_tree {α : Type} (code : List Int) (leaf0_ : Int × (List Int) → α) (fail_ : α) : α :=
  (optC (S.l20Open_t code) (fun c_1 => (optC (S.l20Joined_t c_1.fst c_1.snd 12) (fun c_2 => (leaf0_ (c_2.fst, c_2.snd.snd.snd))) fail_)) fail_)
theorem S.DrawJoinedWatchOk_tree_nat {α γ : Type} (g : α → γ) (code : List Int) (leaf0_ : Int × (List Int) → α) (fail_ : α) : g (S.DrawJoinedWatchOk_tree code leaf0_ fail_) = S.DrawJoinedWatchOk_tree code (fun d => g (leaf0_ d)) (g fail_) := by
  unfold S.DrawJoinedWatchOk_tree; simp only [apply_cnd g, apply_optC g, apply_sumC g]
noncomputable def S.DrawJoinedWatchOk_t (code : List Int) : Option (Int × (List Int)) := S.DrawJoinedWatchOk_tree code (fun d => some d) none
theorem S.DrawJoinedWatchOk_den (code : List Int) (κ : V → List E → R) : S.DrawJoinedWatchOk_F [.ro true (.ints .u8 code)] [] κ = optC (S.DrawJoinedWatchOk_t code) (fun (r : Int × (List Int)) => κ (.tup [(.own 0), (.int .i64 r.1)]) [.row (.ints .i64 r.2)]) none := by
  have hu : S.DrawJoinedWatchOk_F [.ro true (.ints .u8 code)] [] κ = S.DrawJoinedWatchOk_tree code (fun d => κ (.tup [(.own 0), (.int .i64 d.1)]) [.row (.ints .i64 d.2)]) none := by
    kernel_rfl
  rw [hu]
  exact (S.DrawJoinedWatchOk_tree_nat (fun o => optC o (fun (r : Int × (List Int)) => κ (.tup [(.own 0), (.int .i64 r.1)]) [.row (.ints .i64 r.2)]) none) code (fun d => some d) none).symm
noncomputable def S.DrawJoinedWatchOk_s : D.Spec where
  keep := true
  pure := false
  ds := [.int .u8]
  sp := fun args h κ => match args, h with
    | [.ro true (.ints .u8 code)], [] => optC (S.DrawJoinedWatchOk_t code) (fun (r : Int × (List Int)) => κ (.tup [(.own 0), (.int .i64 r.1)]) [.row (.ints .i64 r.2)]) none
    | _, _ => none
theorem S.DrawJoinedWatchOk_ok : SpecOk Try.prog 30 S.DrawJoinedWatchOk_s := by
  refine SpecOk.of TDok mixed (T := S.DrawJoinedWatchOk_T) ?_ (ann := S.DrawJoinedWatchOk_ann) Try.func30 rfl (by decide +kernel) ?_ ?_ ?_
  · intro p hp
    simp only [S.DrawJoinedWatchOk_T, List.mem_cons, List.not_mem_nil, or_false] at hp
    rcases hp with rfl | rfl
    · exact S.l20Open_ok
    · exact S.l20Joined_ok
  · intro args h κ r hh
    simp only [S.DrawJoinedWatchOk_s] at hh
    split at hh
    · exact (S.DrawJoinedWatchOk_den _ κ).trans hh
    · cases hh
  · intro args h κ r hh
    simp only [S.DrawJoinedWatchOk_s] at hh ⊢
    split at hh
    · exact optC_law2 (F := fun (r : Int × (List Int)) κ => κ (.tup [(.own 0), (.int .i64 r.1)]) [.row (.ints .i64 r.2)]) (fun b κ r hb => ⟨_, _, hb, fun _ => rfl⟩) hh
    · cases hh
  · intro hh; cases hh

-- loop.example/guardsonnets/impl.joinedWatchIn
noncomputable def I.joinedWatchIn_T : List (Nat × D.Spec) := [(56, I.togetherIn_s), (48, I.watchIn_s)]
def I.joinedWatchIn_ann : Nat → List Nat × List Nat
  | _ => ([], [])
noncomputable def I.joinedWatchIn_F (args : List V) (h : List E) (κ : V → List E → R) : R := funC TD (tableK I.joinedWatchIn_T) I.joinedWatchIn_ann (drawOk (tableP I.joinedWatchIn_T)) FUEL Try.f60 args h κ
noncomputable def I.joinedWatchIn_tree {α : Type} (net : List Int) (set_ : Int) (leaf0_ : Bool → α) (fail_ : α) : α :=
  (optC (I.togetherIn_t net set_) (fun c_1 => (bif c_1 then (optC (I.watchIn_t net set_) (fun c_2 => (leaf0_ c_2)) fail_) else (leaf0_ false))) fail_)
theorem I.joinedWatchIn_tree_nat {α γ : Type} (g : α → γ) (net : List Int) (set_ : Int) (leaf0_ : Bool → α) (fail_ : α) : g (I.joinedWatchIn_tree net set_ leaf0_ fail_) = I.joinedWatchIn_tree net set_ (fun d => g (leaf0_ d)) (g fail_) := by
  unfold I.joinedWatchIn_tree; simp only [apply_cnd g, apply_optC g, apply_sumC g]
noncomputable def I.joinedWatchIn_t (net : List Int) (set_ : Int) : Option (Bool) := I.joinedWatchIn_tree net set_ (fun d => some d) none
theorem I.joinedWatchIn_den (net : List Int) (set_ : Int) (κ : V → List E → R) : I.joinedWatchIn_F [.ro false (.ints .i64 net), .int .i64 set_] [] κ = optC (I.joinedWatchIn_t net set_) (fun (r : Bool) => κ (.bool r) []) none := by
  have hu : I.joinedWatchIn_F [.ro false (.ints .i64 net), .int .i64 set_] [] κ = I.joinedWatchIn_tree net set_ (fun d => κ (.bool d) []) none := by
    kernel_rfl
  rw [hu]
  exact (I.joinedWatchIn_tree_nat (fun o => optC o (fun (r : Bool) => κ (.bool r) []) none) net set_ (fun d => some d) none).symm
noncomputable def I.joinedWatchIn_s : D.Spec where
  keep := false
  pure := true
  ds := [.int .i64, .invalid]
  sp := fun args h κ => match args, h with
    | [.ro false (.ints .i64 net), .int .i64 set_], [] => optC (I.joinedWatchIn_t net set_) (fun (r : Bool) => κ (.bool r) []) none
    | _, _ => none
theorem I.joinedWatchIn_ok : SpecOk Try.prog 60 I.joinedWatchIn_s := by
  refine SpecOk.of TDok mixed (T := I.joinedWatchIn_T) ?_ (ann := I.joinedWatchIn_ann) Try.func60 rfl (by decide +kernel) ?_ ?_ ?_
  · intro p hp
    simp only [I.joinedWatchIn_T, List.mem_cons, List.not_mem_nil, or_false] at hp
    rcases hp with rfl | rfl
    · exact I.togetherIn_ok
    · exact I.watchIn_ok
  · intro args h κ r hh
    simp only [I.joinedWatchIn_s] at hh
    split at hh
    · exact (I.joinedWatchIn_den _ _ κ).trans hh
    · cases hh
  · intro args h κ r hh
    simp only [I.joinedWatchIn_s] at hh ⊢
    split at hh
    · exact optC_law2 (F := fun (r : Bool) κ => κ (.bool r) []) (fun b κ r hb => ⟨_, _, hb, fun _ => rfl⟩) hh
    · cases hh
  · intro _ args h κ r hh
    simp only [I.joinedWatchIn_s] at hh
    split at hh
    · exact ⟨rfl, fun _ => rfl⟩
    · cases hh

-- loop.example/guardsonnets/impl.JoinedWatchOk
noncomputable def I.JoinedWatchOk_T : List (Nat × D.Spec) := [(16, I.NetOk_s), (42, I.setIn_s), (60, I.joinedWatchIn_s)]
def I.JoinedWatchOk_ann : Nat → List Nat × List Nat
  | _ => ([], [])
noncomputable def I.JoinedWatchOk_F (args : List V) (h : List E) (κ : V → List E → R) : R := funC TD (tableK I.JoinedWatchOk_T) I.JoinedWatchOk_ann (drawOk (tableP I.JoinedWatchOk_T)) FUEL Try.f31 args h κ
noncomputable def I.JoinedWatchOk_tree {α : Type} (net : List Int) (set_ : Int) (leaf0_ : Bool → α) (fail_ : α) : α :=
  (optC (I.NetOk_t net) (fun c_1 => (bif c_1 then (optC (I.setIn_t net set_) (fun c_2 => (bif c_2 then (optC (I.joinedWatchIn_t net set_) (fun c_3 => (leaf0_ c_3)) fail_) else (leaf0_ false))) fail_) else (leaf0_ false))) fail_)
theorem I.JoinedWatchOk_tree_nat {α γ : Type} (g : α → γ) (net : List Int) (set_ : Int) (leaf0_ : Bool → α) (fail_ : α) : g (I.JoinedWatchOk_tree net set_ leaf0_ fail_) = I.JoinedWatchOk_tree net set_ (fun d => g (leaf0_ d)) (g fail_) := by
  unfold I.JoinedWatchOk_tree; simp only [apply_cnd g, apply_optC g, apply_sumC g]
noncomputable def I.JoinedWatchOk_t (net : List Int) (set_ : Int) : Option (Bool) := I.JoinedWatchOk_tree net set_ (fun d => some d) none
theorem I.JoinedWatchOk_den (net : List Int) (set_ : Int) (κ : V → List E → R) : I.JoinedWatchOk_F [.ro false (.ints .i64 net), .int .i64 set_] [] κ = optC (I.JoinedWatchOk_t net set_) (fun (r : Bool) => κ (.bool r) []) none := by
  have hu : I.JoinedWatchOk_F [.ro false (.ints .i64 net), .int .i64 set_] [] κ = I.JoinedWatchOk_tree net set_ (fun d => κ (.bool d) []) none := by
    kernel_rfl
  rw [hu]
  exact (I.JoinedWatchOk_tree_nat (fun o => optC o (fun (r : Bool) => κ (.bool r) []) none) net set_ (fun d => some d) none).symm
noncomputable def I.JoinedWatchOk_s : D.Spec where
  keep := false
  pure := true
  ds := [.int .i64, .invalid]
  sp := fun args h κ => match args, h with
    | [.ro false (.ints .i64 net), .int .i64 set_], [] => optC (I.JoinedWatchOk_t net set_) (fun (r : Bool) => κ (.bool r) []) none
    | _, _ => none
theorem I.JoinedWatchOk_ok : SpecOk Try.prog 31 I.JoinedWatchOk_s := by
  refine SpecOk.of TDok mixed (T := I.JoinedWatchOk_T) ?_ (ann := I.JoinedWatchOk_ann) Try.func31 rfl (by decide +kernel) ?_ ?_ ?_
  · intro p hp
    simp only [I.JoinedWatchOk_T, List.mem_cons, List.not_mem_nil, or_false] at hp
    rcases hp with rfl | rfl | rfl
    · exact I.NetOk_ok
    · exact I.setIn_ok
    · exact I.joinedWatchIn_ok
  · intro args h κ r hh
    simp only [I.JoinedWatchOk_s] at hh
    split at hh
    · exact (I.JoinedWatchOk_den _ _ κ).trans hh
    · cases hh
  · intro args h κ r hh
    simp only [I.JoinedWatchOk_s] at hh ⊢
    split at hh
    · exact optC_law2 (F := fun (r : Bool) κ => κ (.bool r) []) (fun b κ r hb => ⟨_, _, hb, fun _ => rfl⟩) hh
    · cases hh
  · intro _ args h κ r hh
    simp only [I.JoinedWatchOk_s] at hh
    split at hh
    · exact ⟨rfl, fun _ => rfl⟩
    · cases hh

-- loop.example/guardsonnets/spec.l2Watch
noncomputable def S.l2Watch_T : List (Nat × D.Spec) := [(64, S.l1Near_s)]
def S.l2Watch_ann : Nat → List Nat × List Nat
  | _ => ([], [])
noncomputable def S.l2Watch_F (args : List V) (h : List E) (κ : V → List E → R) : R := funC TD (tableK S.l2Watch_T) S.l2Watch_ann (drawOk (tableP S.l2Watch_T)) FUEL Try.f61 args h κ
noncomputable def S.l2Watch_tree {α : Type} (net : List Int) (set_ : Int) (leaf0_ : Bool → α) (fail_ : α) : α :=
  (optC (S.l1Near_t net set_) (fun c_1 => (leaf0_ (bits BinOp.or IntKind.i64 set_ c_1 == IntKind.i64.wrap (IntKind.i64.wrap (1 * 2 ^ min (↑net.length : Int).toNat IntKind.i64.bits) - 1)))) fail_)
theorem S.l2Watch_tree_nat {α γ : Type} (g : α → γ) (net : List Int) (set_ : Int) (leaf0_ : Bool → α) (fail_ : α) : g (S.l2Watch_tree net set_ leaf0_ fail_) = S.l2Watch_tree net set_ (fun d => g (leaf0_ d)) (g fail_) := by
  unfold S.l2Watch_tree; simp only [apply_cnd g, apply_optC g, apply_sumC g]
noncomputable def S.l2Watch_t (net : List Int) (set_ : Int) : Option (Bool) := S.l2Watch_tree net set_ (fun d => some d) none
theorem S.l2Watch_den (net : List Int) (set_ : Int) (κ : V → List E → R) : S.l2Watch_F [.ro false (.ints .i64 net), .int .i64 set_] [] κ = optC (S.l2Watch_t net set_) (fun (r : Bool) => κ (.bool r) []) none := by
  have hu : S.l2Watch_F [.ro false (.ints .i64 net), .int .i64 set_] [] κ = S.l2Watch_tree net set_ (fun d => κ (.bool d) []) none := by
    kernel_rfl
  rw [hu]
  exact (S.l2Watch_tree_nat (fun o => optC o (fun (r : Bool) => κ (.bool r) []) none) net set_ (fun d => some d) none).symm
noncomputable def S.l2Watch_s : D.Spec where
  keep := false
  pure := true
  ds := [.int .i64, .invalid]
  sp := fun args h κ => match args, h with
    | [.ro false (.ints .i64 net), .int .i64 set_], [] => optC (S.l2Watch_t net set_) (fun (r : Bool) => κ (.bool r) []) none
    | _, _ => none
theorem S.l2Watch_ok : SpecOk Try.prog 61 S.l2Watch_s := by
  refine SpecOk.of TDok mixed (T := S.l2Watch_T) ?_ (ann := S.l2Watch_ann) Try.func61 rfl (by decide +kernel) ?_ ?_ ?_
  · intro p hp
    simp only [S.l2Watch_T, List.mem_cons, List.not_mem_nil, or_false] at hp
    rcases hp with rfl
    · exact S.l1Near_ok
  · intro args h κ r hh
    simp only [S.l2Watch_s] at hh
    split at hh
    · exact (S.l2Watch_den _ _ κ).trans hh
    · cases hh
  · intro args h κ r hh
    simp only [S.l2Watch_s] at hh ⊢
    split at hh
    · exact optC_law2 (F := fun (r : Bool) κ => κ (.bool r) []) (fun b κ r hb => ⟨_, _, hb, fun _ => rfl⟩) hh
    · cases hh
  · intro _ args h κ r hh
    simp only [S.l2Watch_s] at hh
    split at hh
    · exact ⟨rfl, fun _ => rfl⟩
    · cases hh

-- loop.example/guardsonnets/spec.JoinedWatchOk
noncomputable def S.JoinedWatchOk_T : List (Nat × D.Spec) := [(28, S.TogetherOk_s), (61, S.l2Watch_s)]
def S.JoinedWatchOk_ann : Nat → List Nat × List Nat
  | _ => ([], [])
noncomputable def S.JoinedWatchOk_F (args : List V) (h : List E) (κ : V → List E → R) : R := funC TD (tableK S.JoinedWatchOk_T) S.JoinedWatchOk_ann (drawOk (tableP S.JoinedWatchOk_T)) FUEL Try.f32 args h κ
noncomputable def S.JoinedWatchOk_tree {α : Type} (net : List Int) (set_ : Int) (leaf0_ : Bool → α) (fail_ : α) : α :=
  (optC (S.TogetherOk_t net set_) (fun c_1 => (bif c_1 then (optC (S.l2Watch_t net set_) (fun c_2 => (leaf0_ c_2)) fail_) else (leaf0_ false))) fail_)
theorem S.JoinedWatchOk_tree_nat {α γ : Type} (g : α → γ) (net : List Int) (set_ : Int) (leaf0_ : Bool → α) (fail_ : α) : g (S.JoinedWatchOk_tree net set_ leaf0_ fail_) = S.JoinedWatchOk_tree net set_ (fun d => g (leaf0_ d)) (g fail_) := by
  unfold S.JoinedWatchOk_tree; simp only [apply_cnd g, apply_optC g, apply_sumC g]
noncomputable def S.JoinedWatchOk_t (net : List Int) (set_ : Int) : Option (Bool) := S.JoinedWatchOk_tree net set_ (fun d => some d) none
theorem S.JoinedWatchOk_den (net : List Int) (set_ : Int) (κ : V → List E → R) : S.JoinedWatchOk_F [.ro false (.ints .i64 net), .int .i64 set_] [] κ = optC (S.JoinedWatchOk_t net set_) (fun (r : Bool) => κ (.bool r) []) none := by
  have hu : S.JoinedWatchOk_F [.ro false (.ints .i64 net), .int .i64 set_] [] κ = S.JoinedWatchOk_tree net set_ (fun d => κ (.bool d) []) none := by
    kernel_rfl
  rw [hu]
  exact (S.JoinedWatchOk_tree_nat (fun o => optC o (fun (r : Bool) => κ (.bool r) []) none) net set_ (fun d => some d) none).symm
noncomputable def S.JoinedWatchOk_s : D.Spec where
  keep := false
  pure := true
  ds := [.int .i64, .invalid]
  sp := fun args h κ => match args, h with
    | [.ro false (.ints .i64 net), .int .i64 set_], [] => optC (S.JoinedWatchOk_t net set_) (fun (r : Bool) => κ (.bool r) []) none
    | _, _ => none
theorem S.JoinedWatchOk_ok : SpecOk Try.prog 32 S.JoinedWatchOk_s := by
  refine SpecOk.of TDok mixed (T := S.JoinedWatchOk_T) ?_ (ann := S.JoinedWatchOk_ann) Try.func32 rfl (by decide +kernel) ?_ ?_ ?_
  · intro p hp
    simp only [S.JoinedWatchOk_T, List.mem_cons, List.not_mem_nil, or_false] at hp
    rcases hp with rfl | rfl
    · exact S.TogetherOk_ok
    · exact S.l2Watch_ok
  · intro args h κ r hh
    simp only [S.JoinedWatchOk_s] at hh
    split at hh
    · exact (S.JoinedWatchOk_den _ _ κ).trans hh
    · cases hh
  · intro args h κ r hh
    simp only [S.JoinedWatchOk_s] at hh ⊢
    split at hh
    · exact optC_law2 (F := fun (r : Bool) κ => κ (.bool r) []) (fun b κ r hb => ⟨_, _, hb, fun _ => rfl⟩) hh
    · cases hh
  · intro _ args h κ r hh
    simp only [S.JoinedWatchOk_s] at hh
    split at hh
    · exact ⟨rfl, fun _ => rfl⟩
    · cases hh

-- loop.example/guardsonnets/impl.PartMany
noncomputable def I.PartMany_T : List (Nat × D.Spec) := [(16, I.NetOk_s), (46, I.hasPlace_s), (59, I.partIn_s)]
def I.PartMany_ann : Nat → List Nat × List Nat
  | 6 => ([0, 3, 4, 5], [3])
  | _ => ([], [])
noncomputable def I.PartMany_F (args : List V) (h : List E) (κ : V → List E → R) : R := funC TD (tableK I.PartMany_T) I.PartMany_ann (drawOk (tableP I.PartMany_T)) FUEL Try.f33 args h κ
noncomputable def I.PartMany_L6 (n : Nat) (σ : St) (k : X → St → R) : R := iterC 0 (fun σ k => denC TD (tableK I.PartMany_T) I.PartMany_ann (drawOk (tableP I.PartMany_T)) 0 FUEL ((findLoop 6 (Try.f33.body.getD .skip)).getD .skip) σ k) [0, 3, 4, 5] [3] n σ k
noncomputable def I.PartMany_k6 (κ : V → List E → R) : X → St → R := (afterC TD (tableK I.PartMany_T) I.PartMany_ann (drawOk (tableP I.PartMany_T)) 0 FUEL 6 (Try.f33.body.getD .skip) (finC TD 0 Try.f33 κ)).getD (fun _ _ => none)
noncomputable def I.PartMany_step6 {α : Type} (x0 : List Int) (x3 : Int) (x4 : Int) (x5 : Int) (next_ : Int × Int × Int → α) (out0_ : Int → α) (fail_ : α) : α :=
  (bif decide (x5 < (↑x0.length : Int)) then (optC (I.hasPlace_t x4 x5) (fun c_2 => (bif !c_2 then (optC (I.partIn_t x0 x5) (fun c_3 => (next_ (IntKind.i64.wrap (x3 + 1), bits BinOp.or IntKind.i64 x4 c_3, IntKind.i64.wrap (x5 + 1)))) fail_) else (next_ (x3, x4, IntKind.i64.wrap (x5 + 1))))) fail_) else (out0_ x3))
theorem I.PartMany_step6_nat {α γ : Type} (g : α → γ) (x0 : List Int) (x3 : Int) (x4 : Int) (x5 : Int) (next_ : Int × Int × Int → α) (out0_ : Int → α) (fail_ : α) : g (I.PartMany_step6 x0 x3 x4 x5 next_ out0_ fail_) = I.PartMany_step6 x0 x3 x4 x5 (fun s => g (next_ s)) (fun d => g (out0_ d)) (g fail_) := by
  unfold I.PartMany_step6; simp only [apply_cnd g, apply_optC g, apply_sumC g]
noncomputable def I.PartMany_run6 (x0 : List Int) : Nat → Int × Int × Int → Option (Int)
  | 0, _ => none
  | n + 1, s_ => I.PartMany_step6 x0 s_.1 s_.2.1 s_.2.2 (I.PartMany_run6 x0 n) (fun d => some d) none
theorem I.PartMany_L6_run (x0 : List Int) (n : Nat) (s_ : Int × Int × Int) (k : X → St → R) : I.PartMany_L6 n { n := 27, t := [(0, (.ro false (.ints .i64 x0))), (3, (.int .i64 s_.1)), (4, (.int .i64 s_.2.1)), (5, (.int .i64 s_.2.2))], h := [] } k = optC (I.PartMany_run6 x0 n s_) (fun (r : Int) => k (.exit 0) { n := 27, t := [(3, (.int .i64 r))], h := [] }) none := by
  induction n generalizing s_ with
  | zero => rfl
  | succ n ih =>
    have hu : I.PartMany_L6 (n + 1) { n := 27, t := [(0, (.ro false (.ints .i64 x0))), (3, (.int .i64 s_.1)), (4, (.int .i64 s_.2.1)), (5, (.int .i64 s_.2.2))], h := [] } k = I.PartMany_step6 x0 s_.1 s_.2.1 s_.2.2 (fun s_ => I.PartMany_L6 n { n := 27, t := [(0, (.ro false (.ints .i64 x0))), (3, (.int .i64 s_.1)), (4, (.int .i64 s_.2.1)), (5, (.int .i64 s_.2.2))], h := [] } k) (fun d => k (.exit 0) { n := 27, t := [(3, (.int .i64 d))], h := [] }) none := by
      kernel_rfl
    have hs : (fun s_ : Int × Int × Int => I.PartMany_L6 n { n := 27, t := [(0, (.ro false (.ints .i64 x0))), (3, (.int .i64 s_.1)), (4, (.int .i64 s_.2.1)), (5, (.int .i64 s_.2.2))], h := [] } k) = fun s_ => optC (I.PartMany_run6 x0 n s_) (fun (r : Int) => k (.exit 0) { n := 27, t := [(3, (.int .i64 r))], h := [] }) none := funext ih
    rw [hu, hs]
    exact (I.PartMany_step6_nat (fun o => optC o (fun (r : Int) => k (.exit 0) { n := 27, t := [(3, (.int .i64 r))], h := [] }) none) x0 s_.1 s_.2.1 s_.2.2 (I.PartMany_run6 x0 n) (fun d => some d) none).symm
noncomputable def I.PartMany_tree {α : Type} (net : List Int) (leaf0_ : Int → α) (fail_ : α) : α :=
  (optC (I.NetOk_t net) (fun c_1 => (bif !c_1 then (leaf0_ (-1)) else (optC (I.PartMany_run6 net FUEL (0, 0, 0)) (fun qy_4 => (leaf0_ qy_4)) fail_))) fail_)
theorem I.PartMany_tree_nat {α γ : Type} (g : α → γ) (net : List Int) (leaf0_ : Int → α) (fail_ : α) : g (I.PartMany_tree net leaf0_ fail_) = I.PartMany_tree net (fun d => g (leaf0_ d)) (g fail_) := by
  unfold I.PartMany_tree; simp only [apply_cnd g, apply_optC g, apply_sumC g]
noncomputable def I.PartMany_t (net : List Int) : Option (Int) := I.PartMany_tree net (fun d => some d) none
theorem I.PartMany_den (net : List Int) (κ : V → List E → R) : I.PartMany_F [.ro false (.ints .i64 net)] [] κ = optC (I.PartMany_t net) (fun (r : Int) => κ (.int .i64 r) []) none := by
  have hu : I.PartMany_F [.ro false (.ints .i64 net)] [] κ = I.PartMany_tree net (fun d => κ (.int .i64 d) []) none := by
    refine Eq.trans (show I.PartMany_F [.ro false (.ints .i64 net)] [] κ = (optC (I.NetOk_t net) (fun c_1 => (bif !c_1 then (κ (.int .i64 (-1)) []) else (I.PartMany_L6 FUEL { n := 27, t := [(0, (.ro false (.ints .i64 net))), (3, (.int .i64 0)), (4, (.int .i64 0)), (5, (.int .i64 0))], h := [] } (I.PartMany_k6 κ)))) none) by kernel_rfl) ?_
    refine optC_congr (fun c_1 => ?_)
    refine cnd_congr ?_ ?_
    · kernel_rfl
    · refine (I.PartMany_L6_run net FUEL (0, 0, 0) (I.PartMany_k6 κ)).trans (optC_congr (fun qy_4 => ?_))
      kernel_rfl
  rw [hu]
  exact (I.PartMany_tree_nat (fun o => optC o (fun (r : Int) => κ (.int .i64 r) []) none) net (fun d => some d) none).symm
noncomputable def I.PartMany_s : D.Spec where
  keep := false
  pure := true
  ds := [.int .i64]
  sp := fun args h κ => match args, h with
    | [.ro false (.ints .i64 net)], [] => optC (I.PartMany_t net) (fun (r : Int) => κ (.int .i64 r) []) none
    | _, _ => none
theorem I.PartMany_ok : SpecOk Try.prog 33 I.PartMany_s := by
  refine SpecOk.of TDok mixed (T := I.PartMany_T) ?_ (ann := I.PartMany_ann) Try.func33 rfl (by decide +kernel) ?_ ?_ ?_
  · intro p hp
    simp only [I.PartMany_T, List.mem_cons, List.not_mem_nil, or_false] at hp
    rcases hp with rfl | rfl | rfl
    · exact I.NetOk_ok
    · exact I.hasPlace_ok
    · exact I.partIn_ok
  · intro args h κ r hh
    simp only [I.PartMany_s] at hh
    split at hh
    · exact (I.PartMany_den _ κ).trans hh
    · cases hh
  · intro args h κ r hh
    simp only [I.PartMany_s] at hh ⊢
    split at hh
    · exact optC_law2 (F := fun (r : Int) κ => κ (.int .i64 r) []) (fun b κ r hb => ⟨_, _, hb, fun _ => rfl⟩) hh
    · cases hh
  · intro _ args h κ r hh
    simp only [I.PartMany_s] at hh
    split at hh
    · exact ⟨rfl, fun _ => rfl⟩
    · cases hh

-- loop.example/guardsonnets/laws.sizeOf
noncomputable def L.sizeOf_T : List (Nat × D.Spec) := []
def L.sizeOf_ann : Nat → List Nat × List Nat
  | 2 => ([0, 3], [3])
  | _ => ([], [])
noncomputable def L.sizeOf_F (args : List V) (h : List E) (κ : V → List E → R) : R := funC TD (tableK L.sizeOf_T) L.sizeOf_ann (drawOk (tableP L.sizeOf_T)) FUEL Try.f34 args h κ
noncomputable def L.sizeOf_L2 (n : Nat) (σ : St) (k : X → St → R) : R := iterC 0 (fun σ k => denC TD (tableK L.sizeOf_T) L.sizeOf_ann (drawOk (tableP L.sizeOf_T)) 0 FUEL ((findLoop 2 (Try.f34.body.getD .skip)).getD .skip) σ k) [0, 3] [3] n σ k
noncomputable def L.sizeOf_k2 (κ : V → List E → R) : X → St → R := (afterC TD (tableK L.sizeOf_T) L.sizeOf_ann (drawOk (tableP L.sizeOf_T)) 0 FUEL 2 (Try.f34.body.getD .skip) (finC TD 0 Try.f34 κ)).getD (fun _ _ => none)
noncomputable def L.sizeOf_step2 {α : Type} (x0 : Int) (x3 : Int) (next_ : Int × Int → α) (out0_ : Int → α) (fail_ : α) : α :=
  (bif decide (x0 > 0) then (next_ (IntKind.i64.wrap (x0.tdiv 2), IntKind.i64.wrap (x3 + x0.tmod 2))) else (out0_ x3))
theorem L.sizeOf_step2_nat {α γ : Type} (g : α → γ) (x0 : Int) (x3 : Int) (next_ : Int × Int → α) (out0_ : Int → α) (fail_ : α) : g (L.sizeOf_step2 x0 x3 next_ out0_ fail_) = L.sizeOf_step2 x0 x3 (fun s => g (next_ s)) (fun d => g (out0_ d)) (g fail_) := by
  unfold L.sizeOf_step2; simp only [apply_cnd g, apply_optC g, apply_sumC g]
noncomputable def L.sizeOf_run2 : Nat → Int × Int → Option (Int)
  | 0, _ => none
  | n + 1, s_ => L.sizeOf_step2 s_.1 s_.2 (L.sizeOf_run2 n) (fun d => some d) none
theorem L.sizeOf_L2_run (n : Nat) (s_ : Int × Int) (k : X → St → R) : L.sizeOf_L2 n { n := 13, t := [(0, (.int .i64 s_.1)), (3, (.int .i64 s_.2))], h := [] } k = optC (L.sizeOf_run2 n s_) (fun (r : Int) => k (.exit 0) { n := 13, t := [(3, (.int .i64 r))], h := [] }) none := by
  induction n generalizing s_ with
  | zero => rfl
  | succ n ih =>
    have hu : L.sizeOf_L2 (n + 1) { n := 13, t := [(0, (.int .i64 s_.1)), (3, (.int .i64 s_.2))], h := [] } k = L.sizeOf_step2 s_.1 s_.2 (fun s_ => L.sizeOf_L2 n { n := 13, t := [(0, (.int .i64 s_.1)), (3, (.int .i64 s_.2))], h := [] } k) (fun d => k (.exit 0) { n := 13, t := [(3, (.int .i64 d))], h := [] }) none := by
      kernel_rfl
    have hs : (fun s_ : Int × Int => L.sizeOf_L2 n { n := 13, t := [(0, (.int .i64 s_.1)), (3, (.int .i64 s_.2))], h := [] } k) = fun s_ => optC (L.sizeOf_run2 n s_) (fun (r : Int) => k (.exit 0) { n := 13, t := [(3, (.int .i64 r))], h := [] }) none := funext ih
    rw [hu, hs]
    exact (L.sizeOf_step2_nat (fun o => optC o (fun (r : Int) => k (.exit 0) { n := 13, t := [(3, (.int .i64 r))], h := [] }) none) s_.1 s_.2 (L.sizeOf_run2 n) (fun d => some d) none).symm
noncomputable def L.sizeOf_tree {α : Type} (n_ : Int) (leaf0_ : Int → α) (fail_ : α) : α :=
  (optC (L.sizeOf_run2 FUEL (n_, 0)) (fun qy_1 => (leaf0_ qy_1)) fail_)
theorem L.sizeOf_tree_nat {α γ : Type} (g : α → γ) (n_ : Int) (leaf0_ : Int → α) (fail_ : α) : g (L.sizeOf_tree n_ leaf0_ fail_) = L.sizeOf_tree n_ (fun d => g (leaf0_ d)) (g fail_) := by
  unfold L.sizeOf_tree; simp only [apply_cnd g, apply_optC g, apply_sumC g]
noncomputable def L.sizeOf_t (n_ : Int) : Option (Int) := L.sizeOf_tree n_ (fun d => some d) none
theorem L.sizeOf_den (n_ : Int) (κ : V → List E → R) : L.sizeOf_F [.int .i64 n_] [] κ = optC (L.sizeOf_t n_) (fun (r : Int) => κ (.int .i64 r) []) none := by
  have hu : L.sizeOf_F [.int .i64 n_] [] κ = L.sizeOf_tree n_ (fun d => κ (.int .i64 d) []) none := by
    refine Eq.trans (show L.sizeOf_F [.int .i64 n_] [] κ = (L.sizeOf_L2 FUEL { n := 13, t := [(0, (.int .i64 n_)), (3, (.int .i64 0))], h := [] } (L.sizeOf_k2 κ)) by kernel_rfl) ?_
    refine (L.sizeOf_L2_run FUEL (n_, 0) (L.sizeOf_k2 κ)).trans (optC_congr (fun qy_1 => ?_))
    kernel_rfl
  rw [hu]
  exact (L.sizeOf_tree_nat (fun o => optC o (fun (r : Int) => κ (.int .i64 r) []) none) n_ (fun d => some d) none).symm
noncomputable def L.sizeOf_s : D.Spec where
  keep := false
  pure := true
  ds := [.invalid]
  sp := fun args h κ => match args, h with
    | [.int .i64 n_], [] => optC (L.sizeOf_t n_) (fun (r : Int) => κ (.int .i64 r) []) none
    | _, _ => none
theorem L.sizeOf_ok : SpecOk Try.prog 34 L.sizeOf_s := by
  refine SpecOk.of TDok mixed (T := L.sizeOf_T) ?_ (ann := L.sizeOf_ann) Try.func34 rfl (by decide +kernel) ?_ ?_ ?_
  · intro p hp; cases hp
  · intro args h κ r hh
    simp only [L.sizeOf_s] at hh
    split at hh
    · exact (L.sizeOf_den _ κ).trans hh
    · cases hh
  · intro args h κ r hh
    simp only [L.sizeOf_s] at hh ⊢
    split at hh
    · exact optC_law2 (F := fun (r : Int) κ => κ (.int .i64 r) []) (fun b κ r hb => ⟨_, _, hb, fun _ => rfl⟩) hh
    · cases hh
  · intro _ args h κ r hh
    simp only [L.sizeOf_s] at hh
    split at hh
    · exact ⟨rfl, fun _ => rfl⟩
    · cases hh

-- loop.example/guardsonnets/laws.FnJoinedWatchOk
noncomputable def L.FnJoinedWatchOk_T : List (Nat × D.Spec) := [(30, S.DrawJoinedWatchOk_s), (31, I.JoinedWatchOk_s), (32, S.JoinedWatchOk_s), (27, I.TogetherOk_s), (18, I.WatchOk_s), (17, L.alive_s), (33, I.PartMany_s), (34, L.sizeOf_s), (14, I.TotalOk_s)]
def L.FnJoinedWatchOk_ann : Nat → List Nat × List Nat
  | _ => ([], [])
noncomputable def L.FnJoinedWatchOk_F (args : List V) (h : List E) (κ : V → List E → R) : R := funC TD (tableK L.FnJoinedWatchOk_T) L.FnJoinedWatchOk_ann (drawOk (tableP L.FnJoinedWatchOk_T)) FUEL Try.f9 args h κ
noncomputable def L.FnJoinedWatchOk_tree {α : Type} (code : List Int) (leaf0_ : Bool → α) (fail_ : α) : α :=
  (bif decide ((↑code.length : Int) > 1048576) then (leaf0_ true) else (optC (S.DrawJoinedWatchOk_t code) (fun c_1 => (optC (I.JoinedWatchOk_t c_1.snd c_1.fst) (fun c_2 => (optC (S.JoinedWatchOk_t c_1.snd c_1.fst) (fun c_3 => (bif !c_2 == c_3 then (leaf0_ false) else (optC (I.TogetherOk_t c_1.snd c_1.fst) (fun c_4 => (bif c_4 then (optC (I.WatchOk_t c_1.snd c_1.fst) (fun c_5 => (bif !c_2 == c_5 then (leaf0_ false) else (bif !c_2 then (optC (L.alive_t) (fun c_6 => (leaf0_ c_6)) fail_) else (optC (I.PartMany_t c_1.snd) (fun c_7 => (bif c_7 == 1 then (optC (L.sizeOf_t c_1.fst) (fun c_8 => (bif decide (c_8 < 2) then (leaf0_ true) else (optC (I.TotalOk_t c_1.snd c_1.fst) (fun c_9 => (leaf0_ c_9)) fail_))) fail_) else (leaf0_ false))) fail_)))) fail_) else (bif !c_2 == false then (leaf0_ false) else (bif !c_2 then (optC (L.alive_t) (fun c_10 => (leaf0_ c_10)) fail_) else (optC (I.PartMany_t c_1.snd) (fun c_11 => (bif c_11 == 1 then (optC (L.sizeOf_t c_1.fst) (fun c_12 => (bif decide (c_12 < 2) then (leaf0_ true) else (optC (I.TotalOk_t c_1.snd c_1.fst) (fun c_13 => (leaf0_ c_13)) fail_))) fail_) else (leaf0_ false))) fail_))))) fail_))) fail_)) fail_)) fail_))
theorem L.FnJoinedWatchOk_tree_nat {α γ : Type} (g : α → γ) (code : List Int) (leaf0_ : Bool → α) (fail_ : α) : g (L.FnJoinedWatchOk_tree code leaf0_ fail_) = L.FnJoinedWatchOk_tree code (fun d => g (leaf0_ d)) (g fail_) := by
  unfold L.FnJoinedWatchOk_tree; simp only [apply_cnd g, apply_optC g, apply_sumC g]
noncomputable def L.FnJoinedWatchOk_t (code : List Int) : Option (Bool) := L.FnJoinedWatchOk_tree code (fun d => some d) none
theorem L.FnJoinedWatchOk_den (code : List Int) (κ : V → List E → R) : L.FnJoinedWatchOk_F [.ro true (.ints .u8 code)] [] κ = optC (L.FnJoinedWatchOk_t code) (fun (r : Bool) => κ (.bool r) []) none := by
  have hu : L.FnJoinedWatchOk_F [.ro true (.ints .u8 code)] [] κ = L.FnJoinedWatchOk_tree code (fun d => κ (.bool d) []) none := by
    kernel_rfl
  rw [hu]
  exact (L.FnJoinedWatchOk_tree_nat (fun o => optC o (fun (r : Bool) => κ (.bool r) []) none) code (fun d => some d) none).symm
noncomputable def L.FnJoinedWatchOk_s : D.Spec where
  keep := true
  pure := true
  ds := [.int .u8]
  sp := fun args h κ => match args, h with
    | [.ro true (.ints .u8 code)], [] => optC (L.FnJoinedWatchOk_t code) (fun (r : Bool) => κ (.bool r) []) none
    | _, _ => none
theorem L.FnJoinedWatchOk_ok : SpecOk Try.prog 9 L.FnJoinedWatchOk_s := by
  refine SpecOk.of TDok mixed (T := L.FnJoinedWatchOk_T) ?_ (ann := L.FnJoinedWatchOk_ann) Try.func9 rfl (by decide +kernel) ?_ ?_ ?_
  · intro p hp
    simp only [L.FnJoinedWatchOk_T, List.mem_cons, List.not_mem_nil, or_false] at hp
    rcases hp with rfl | rfl | rfl | rfl | rfl | rfl | rfl | rfl | rfl
    · exact S.DrawJoinedWatchOk_ok
    · exact I.JoinedWatchOk_ok
    · exact S.JoinedWatchOk_ok
    · exact I.TogetherOk_ok
    · exact I.WatchOk_ok
    · exact L.alive_ok
    · exact I.PartMany_ok
    · exact L.sizeOf_ok
    · exact I.TotalOk_ok
  · intro args h κ r hh
    simp only [L.FnJoinedWatchOk_s] at hh
    split at hh
    · exact (L.FnJoinedWatchOk_den _ κ).trans hh
    · cases hh
  · intro args h κ r hh
    simp only [L.FnJoinedWatchOk_s] at hh ⊢
    split at hh
    · exact optC_law2 (F := fun (r : Bool) κ => κ (.bool r) []) (fun b κ r hb => ⟨_, _, hb, fun _ => rfl⟩) hh
    · cases hh
  · intro _ args h κ r hh
    simp only [L.FnJoinedWatchOk_s] at hh
    split at hh
    · exact ⟨rfl, fun _ => rfl⟩
    · cases hh

-- loop.example/guardsonnets/laws.FnExactJoinedWatchOk
noncomputable def L.FnExactJoinedWatchOk_T : List (Nat × D.Spec) := [(20, L.toIntS_s), (32, S.JoinedWatchOk_s), (31, I.JoinedWatchOk_s), (21, L.eqIntS_s)]
def L.FnExactJoinedWatchOk_ann : Nat → List Nat × List Nat
  | _ => ([], [])
noncomputable def L.FnExactJoinedWatchOk_F (args : List V) (h : List E) (κ : V → List E → R) : R := funC TD (tableK L.FnExactJoinedWatchOk_T) L.FnExactJoinedWatchOk_ann (drawOk (tableP L.FnExactJoinedWatchOk_T)) FUEL Try.f10 args h κ
noncomputable def L.FnExactJoinedWatchOk_tree {α : Type} (aNet : List Int) (aSet : Int) (leaf0_ : Bool → α) (fail_ : α) : α :=
  (bif decide ((↑aNet.length : Int) > 1048576) then (leaf0_ true) else (optC (L.toIntS_t aNet) (fun c_1 => (optC (S.JoinedWatchOk_t c_1 aSet) (fun c_2 => (optC (L.toIntS_t aNet) (fun c_3 => (optC (I.JoinedWatchOk_t c_3 aSet) (fun c_4 => (bif !c_4 == c_2 then (leaf0_ false) else (optC (L.toIntS_t aNet) (fun c_5 => (optC (L.eqIntS_t c_3 c_5) (fun c_6 => (bif !c_6 then (leaf0_ false) else (leaf0_ true))) fail_)) fail_))) fail_)) fail_)) fail_)) fail_))
theorem L.FnExactJoinedWatchOk_tree_nat {α γ : Type} (g : α → γ) (aNet : List Int) (aSet : Int) (leaf0_ : Bool → α) (fail_ : α) : g (L.FnExactJoinedWatchOk_tree aNet aSet leaf0_ fail_) = L.FnExactJoinedWatchOk_tree aNet aSet (fun d => g (leaf0_ d)) (g fail_) := by
  unfold L.FnExactJoinedWatchOk_tree; simp only [apply_cnd g, apply_optC g, apply_sumC g]
noncomputable def L.FnExactJoinedWatchOk_t (aNet : List Int) (aSet : Int) : Option (Bool) := L.FnExactJoinedWatchOk_tree aNet aSet (fun d => some d) none
theorem L.FnExactJoinedWatchOk_den (aNet : List Int) (aSet : Int) (κ : V → List E → R) : L.FnExactJoinedWatchOk_F [.ro true (.ints .i64 aNet), .int .i64 aSet] [] κ = optC (L.FnExactJoinedWatchOk_t aNet aSet) (fun (r : Bool) => κ (.bool r) []) none := by
  have hu : L.FnExactJoinedWatchOk_F [.ro true (.ints .i64 aNet), .int .i64 aSet] [] κ = L.FnExactJoinedWatchOk_tree aNet aSet (fun d => κ (.bool d) []) none := by
    kernel_rfl
  rw [hu]
  exact (L.FnExactJoinedWatchOk_tree_nat (fun o => optC o (fun (r : Bool) => κ (.bool r) []) none) aNet aSet (fun d => some d) none).symm
noncomputable def L.FnExactJoinedWatchOk_s : D.Spec where
  keep := true
  pure := true
  ds := [.int .i64, .invalid]
  sp := fun args h κ => match args, h with
    | [.ro true (.ints .i64 aNet), .int .i64 aSet], [] => optC (L.FnExactJoinedWatchOk_t aNet aSet) (fun (r : Bool) => κ (.bool r) []) none
    | _, _ => none
theorem L.FnExactJoinedWatchOk_ok : SpecOk Try.prog 10 L.FnExactJoinedWatchOk_s := by
  refine SpecOk.of TDok mixed (T := L.FnExactJoinedWatchOk_T) ?_ (ann := L.FnExactJoinedWatchOk_ann) Try.func10 rfl (by decide +kernel) ?_ ?_ ?_
  · intro p hp
    simp only [L.FnExactJoinedWatchOk_T, List.mem_cons, List.not_mem_nil, or_false] at hp
    rcases hp with rfl | rfl | rfl | rfl
    · exact L.toIntS_ok
    · exact S.JoinedWatchOk_ok
    · exact I.JoinedWatchOk_ok
    · exact L.eqIntS_ok
  · intro args h κ r hh
    simp only [L.FnExactJoinedWatchOk_s] at hh
    split at hh
    · exact (L.FnExactJoinedWatchOk_den _ _ κ).trans hh
    · cases hh
  · intro args h κ r hh
    simp only [L.FnExactJoinedWatchOk_s] at hh ⊢
    split at hh
    · exact optC_law2 (F := fun (r : Bool) κ => κ (.bool r) []) (fun b κ r hb => ⟨_, _, hb, fun _ => rfl⟩) hh
    · cases hh
  · intro _ args h κ r hh
    simp only [L.FnExactJoinedWatchOk_s] at hh
    split at hh
    · exact ⟨rfl, fun _ => rfl⟩
    · cases hh

-- loop.example/guardsonnets/spec.DrawFewestJoined
noncomputable def S.DrawFewestJoined_T : List (Nat × D.Spec) := [(38, S.l20Open_s), (49, S.l20Net_s)]
def S.DrawFewestJoined_ann : Nat → List Nat × List Nat
  | _ => ([], [])
noncomputable def S.DrawFewestJoined_F (args : List V) (h : List E) (κ : V → List E → R) : R := funC TD (tableK S.DrawFewestJoined_T) S.DrawFewestJoined_ann (drawOk (tableP S.DrawFewestJoined_T)) FUEL Try.f35 args h κ
noncomputable def S.DrawFewestJoined_tree {α : Type} (code : List Int) (leaf0_ : List Int → α) (fail_ : α) : α :=
  (optC (S.l20Open_t code) (fun c_1 => (optC (S.l20Net_t c_1.fst c_1.snd 9) (fun c_2 => (leaf0_ c_2.snd.snd)) fail_)) fail_)
theorem S.DrawFewestJoined_tree_nat {α γ : Type} (g : α → γ) (code : List Int) (leaf0_ : List Int → α) (fail_ : α) : g (S.DrawFewestJoined_tree code leaf0_ fail_) = S.DrawFewestJoined_tree code (fun d => g (leaf0_ d)) (g fail_) := by
  unfold S.DrawFewestJoined_tree; simp only [apply_cnd g, apply_optC g, apply_sumC g]
noncomputable def S.DrawFewestJoined_t (code : List Int) : Option (List Int) := S.DrawFewestJoined_tree code (fun d => some d) none
theorem S.DrawFewestJoined_den (code : List Int) (κ : V → List E → R) : S.DrawFewestJoined_F [.ro true (.ints .u8 code)] [] κ = optC (S.DrawFewestJoined_t code) (fun (r : List Int) => κ (.own 0) [.row (.ints .i64 r)]) none := by
  have hu : S.DrawFewestJoined_F [.ro true (.ints .u8 code)] [] κ = S.DrawFewestJoined_tree code (fun d => κ (.own 0) [.row (.ints .i64 d)]) none := by
    kernel_rfl
  rw [hu]
  exact (S.DrawFewestJoined_tree_nat (fun o => optC o (fun (r : List Int) => κ (.own 0) [.row (.ints .i64 r)]) none) code (fun d => some d) none).symm
noncomputable def S.DrawFewestJoined_s : D.Spec where
  keep := true
  pure := false
  ds := [.int .u8]
  sp := fun args h κ => match args, h with
    | [.ro true (.ints .u8 code)], [] => optC (S.DrawFewestJoined_t code) (fun (r : List Int) => κ (.own 0) [.row (.ints .i64 r)]) none
    | _, _ => none
theorem S.DrawFewestJoined_ok : SpecOk Try.prog 35 S.DrawFewestJoined_s := by
  refine SpecOk.of TDok mixed (T := S.DrawFewestJoined_T) ?_ (ann := S.DrawFewestJoined_ann) Try.func35 rfl (by decide +kernel) ?_ ?_ ?_
  · intro p hp
    simp only [S.DrawFewestJoined_T, List.mem_cons, List.not_mem_nil, or_false] at hp
    rcases hp with rfl | rfl
    · exact S.l20Open_ok
    · exact S.l20Net_ok
  · intro args h κ r hh
    simp only [S.DrawFewestJoined_s] at hh
    split at hh
    · exact (S.DrawFewestJoined_den _ κ).trans hh
    · cases hh
  · intro args h κ r hh
    simp only [S.DrawFewestJoined_s] at hh ⊢
    split at hh
    · exact optC_law2 (F := fun (r : List Int) κ => κ (.own 0) [.row (.ints .i64 r)]) (fun b κ r hb => ⟨_, _, hb, fun _ => rfl⟩) hh
    · cases hh
  · intro hh; cases hh

-- loop.example/guardsonnets/impl.FewestJoined
noncomputable def I.FewestJoined_T : List (Nat × D.Spec) := [(16, I.NetOk_s), (50, I.allOf_s), (60, I.joinedWatchIn_s), (52, I.sizeOf_s), (51, I.fewerOf_s)]
def I.FewestJoined_ann : Nat → List Nat × List Nat
  | 5 => ([0, 3, 4], [3])
  | _ => ([], [])
noncomputable def I.FewestJoined_F (args : List V) (h : List E) (κ : V → List E → R) : R := funC TD (tableK I.FewestJoined_T) I.FewestJoined_ann (drawOk (tableP I.FewestJoined_T)) FUEL Try.f36 args h κ
noncomputable def I.FewestJoined_L5 (n : Nat) (σ : St) (k : X → St → R) : R := iterC 0 (fun σ k => denC TD (tableK I.FewestJoined_T) I.FewestJoined_ann (drawOk (tableP I.FewestJoined_T)) 0 FUEL ((findLoop 5 (Try.f36.body.getD .skip)).getD .skip) σ k) [0, 3, 4] [3] n σ k
noncomputable def I.FewestJoined_k5 (κ : V → List E → R) : X → St → R := (afterC TD (tableK I.FewestJoined_T) I.FewestJoined_ann (drawOk (tableP I.FewestJoined_T)) 0 FUEL 5 (Try.f36.body.getD .skip) (finC TD 0 Try.f36 κ)).getD (fun _ _ => none)
noncomputable def I.FewestJoined_step5 {α : Type} (x0 : List Int) (x3 : Int) (x4 : Int) (next_ : Int × Int → α) (out0_ : Int → α) (fail_ : α) : α :=
  (optC (I.allOf_t x0) (fun c_2 => (bif decide (x4 ≤ c_2) then (optC (I.joinedWatchIn_t x0 x4) (fun c_3 => (bif c_3 then (optC (I.sizeOf_t x4) (fun c_4 => (optC (I.fewerOf_t x3 c_4) (fun c_5 => (next_ (c_5, IntKind.i64.wrap (x4 + 1)))) fail_)) fail_) else (next_ (x3, IntKind.i64.wrap (x4 + 1))))) fail_) else (out0_ x3))) fail_)
theorem I.FewestJoined_step5_nat {α γ : Type} (g : α → γ) (x0 : List Int) (x3 : Int) (x4 : Int) (next_ : Int × Int → α) (out0_ : Int → α) (fail_ : α) : g (I.FewestJoined_step5 x0 x3 x4 next_ out0_ fail_) = I.FewestJoined_step5 x0 x3 x4 (fun s => g (next_ s)) (fun d => g (out0_ d)) (g fail_) := by
  unfold I.FewestJoined_step5; simp only [apply_cnd g, apply_optC g, apply_sumC g]
noncomputable def I.FewestJoined_run5 (x0 : List Int) : Nat → Int × Int → Option (Int)
  | 0, _ => none
  | n + 1, s_ => I.FewestJoined_step5 x0 s_.1 s_.2 (I.FewestJoined_run5 x0 n) (fun d => some d) none
theorem I.FewestJoined_L5_run (x0 : List Int) (n : Nat) (s_ : Int × Int) (k : X → St → R) : I.FewestJoined_L5 n { n := 22, t := [(0, (.ro false (.ints .i64 x0))), (3, (.int .i64 s_.1)), (4, (.int .i64 s_.2))], h := [] } k = optC (I.FewestJoined_run5 x0 n s_) (fun (r : Int) => k (.exit 0) { n := 22, t := [(3, (.int .i64 r))], h := [] }) none := by
  induction n generalizing s_ with
  | zero => rfl
  | succ n ih =>
    have hu : I.FewestJoined_L5 (n + 1) { n := 22, t := [(0, (.ro false (.ints .i64 x0))), (3, (.int .i64 s_.1)), (4, (.int .i64 s_.2))], h := [] } k = I.FewestJoined_step5 x0 s_.1 s_.2 (fun s_ => I.FewestJoined_L5 n { n := 22, t := [(0, (.ro false (.ints .i64 x0))), (3, (.int .i64 s_.1)), (4, (.int .i64 s_.2))], h := [] } k) (fun d => k (.exit 0) { n := 22, t := [(3, (.int .i64 d))], h := [] }) none := by
      kernel_rfl
    have hs : (fun s_ : Int × Int => I.FewestJoined_L5 n { n := 22, t := [(0, (.ro false (.ints .i64 x0))), (3, (.int .i64 s_.1)), (4, (.int .i64 s_.2))], h := [] } k) = fun s_ => optC (I.FewestJoined_run5 x0 n s_) (fun (r : Int) => k (.exit 0) { n := 22, t := [(3, (.int .i64 r))], h := [] }) none := funext ih
    rw [hu, hs]
    exact (I.FewestJoined_step5_nat (fun o => optC o (fun (r : Int) => k (.exit 0) { n := 22, t := [(3, (.int .i64 r))], h := [] }) none) x0 s_.1 s_.2 (I.FewestJoined_run5 x0 n) (fun d => some d) none).symm
noncomputable def I.FewestJoined_tree {α : Type} (net : List Int) (leaf0_ : Int → α) (fail_ : α) : α :=
  (optC (I.NetOk_t net) (fun c_1 => (bif !c_1 then (leaf0_ (-1)) else (optC (I.FewestJoined_run5 net FUEL (-1, 0)) (fun qy_6 => (leaf0_ qy_6)) fail_))) fail_)
theorem I.FewestJoined_tree_nat {α γ : Type} (g : α → γ) (net : List Int) (leaf0_ : Int → α) (fail_ : α) : g (I.FewestJoined_tree net leaf0_ fail_) = I.FewestJoined_tree net (fun d => g (leaf0_ d)) (g fail_) := by
  unfold I.FewestJoined_tree; simp only [apply_cnd g, apply_optC g, apply_sumC g]
noncomputable def I.FewestJoined_t (net : List Int) : Option (Int) := I.FewestJoined_tree net (fun d => some d) none
theorem I.FewestJoined_den (net : List Int) (κ : V → List E → R) : I.FewestJoined_F [.ro false (.ints .i64 net)] [] κ = optC (I.FewestJoined_t net) (fun (r : Int) => κ (.int .i64 r) []) none := by
  have hu : I.FewestJoined_F [.ro false (.ints .i64 net)] [] κ = I.FewestJoined_tree net (fun d => κ (.int .i64 d) []) none := by
    refine Eq.trans (show I.FewestJoined_F [.ro false (.ints .i64 net)] [] κ = (optC (I.NetOk_t net) (fun c_1 => (bif !c_1 then (κ (.int .i64 (-1)) []) else (I.FewestJoined_L5 FUEL { n := 22, t := [(0, (.ro false (.ints .i64 net))), (3, (.int .i64 (-1))), (4, (.int .i64 0))], h := [] } (I.FewestJoined_k5 κ)))) none) by kernel_rfl) ?_
    refine optC_congr (fun c_1 => ?_)
    refine cnd_congr ?_ ?_
    · kernel_rfl
    · refine (I.FewestJoined_L5_run net FUEL (-1, 0) (I.FewestJoined_k5 κ)).trans (optC_congr (fun qy_6 => ?_))
      kernel_rfl
  rw [hu]
  exact (I.FewestJoined_tree_nat (fun o => optC o (fun (r : Int) => κ (.int .i64 r) []) none) net (fun d => some d) none).symm
noncomputable def I.FewestJoined_s : D.Spec where
  keep := false
  pure := true
  ds := [.int .i64]
  sp := fun args h κ => match args, h with
    | [.ro false (.ints .i64 net)], [] => optC (I.FewestJoined_t net) (fun (r : Int) => κ (.int .i64 r) []) none
    | _, _ => none
theorem I.FewestJoined_ok : SpecOk Try.prog 36 I.FewestJoined_s := by
  refine SpecOk.of TDok mixed (T := I.FewestJoined_T) ?_ (ann := I.FewestJoined_ann) Try.func36 rfl (by decide +kernel) ?_ ?_ ?_
  · intro p hp
    simp only [I.FewestJoined_T, List.mem_cons, List.not_mem_nil, or_false] at hp
    rcases hp with rfl | rfl | rfl | rfl | rfl
    · exact I.NetOk_ok
    · exact I.allOf_ok
    · exact I.joinedWatchIn_ok
    · exact I.sizeOf_ok
    · exact I.fewerOf_ok
  · intro args h κ r hh
    simp only [I.FewestJoined_s] at hh
    split at hh
    · exact (I.FewestJoined_den _ κ).trans hh
    · cases hh
  · intro args h κ r hh
    simp only [I.FewestJoined_s] at hh ⊢
    split at hh
    · exact optC_law2 (F := fun (r : Int) κ => κ (.int .i64 r) []) (fun b κ r hb => ⟨_, _, hb, fun _ => rfl⟩) hh
    · cases hh
  · intro _ args h κ r hh
    simp only [I.FewestJoined_s] at hh
    split at hh
    · exact ⟨rfl, fun _ => rfl⟩
    · cases hh

-- loop.example/guardsonnets/spec.FewestJoined
noncomputable def S.FewestJoined_T : List (Nat × D.Spec) := [(40, S.NetOk_s), (32, S.JoinedWatchOk_s), (53, S.l1Size_s)]
def S.FewestJoined_ann : Nat → List Nat × List Nat
  | 5 => ([0, 3, 4], [3])
  | _ => ([], [])
noncomputable def S.FewestJoined_F (args : List V) (h : List E) (κ : V → List E → R) : R := funC TD (tableK S.FewestJoined_T) S.FewestJoined_ann (drawOk (tableP S.FewestJoined_T)) FUEL Try.f37 args h κ
noncomputable def S.FewestJoined_L5 (n : Nat) (σ : St) (k : X → St → R) : R := iterC 0 (fun σ k => denC TD (tableK S.FewestJoined_T) S.FewestJoined_ann (drawOk (tableP S.FewestJoined_T)) 0 FUEL ((findLoop 5 (Try.f37.body.getD .skip)).getD .skip) σ k) [0, 3, 4] [3] n σ k
noncomputable def S.FewestJoined_k5 (κ : V → List E → R) : X → St → R := (afterC TD (tableK S.FewestJoined_T) S.FewestJoined_ann (drawOk (tableP S.FewestJoined_T)) 0 FUEL 5 (Try.f37.body.getD .skip) (finC TD 0 Try.f37 κ)).getD (fun _ _ => none)
noncomputable def S.FewestJoined_step5 {α : Type} (x0 : List Int) (x3 : Int) (x4 : Int) (next_ : Int × Int → α) (out0_ : Int → α) (fail_ : α) : α :=
  (bif decide (x4 < IntKind.i64.wrap (1 * 2 ^ min (↑x0.length : Int).toNat IntKind.i64.bits)) then (optC (S.JoinedWatchOk_t x0 x4) (fun c_2 => (bif c_2 then (bif decide (x3 < 0) then (optC (S.l1Size_t x4) (fun c_3 => (next_ (c_3, IntKind.i64.wrap (x4 + 1)))) fail_) else (optC (S.l1Size_t x4) (fun c_4 => (bif decide (c_4 < x3) then (optC (S.l1Size_t x4) (fun c_5 => (next_ (c_5, IntKind.i64.wrap (x4 + 1)))) fail_) else (next_ (x3, IntKind.i64.wrap (x4 + 1))))) fail_)) else (next_ (x3, IntKind.i64.wrap (x4 + 1))))) fail_) else (out0_ x3))
theorem S.FewestJoined_step5_nat {α γ : Type} (g : α → γ) (x0 : List Int) (x3 : Int) (x4 : Int) (next_ : Int × Int → α) (out0_ : Int → α) (fail_ : α) : g (S.FewestJoined_step5 x0 x3 x4 next_ out0_ fail_) = S.FewestJoined_step5 x0 x3 x4 (fun s => g (next_ s)) (fun d => g (out0_ d)) (g fail_) := by
  unfold S.FewestJoined_step5; simp only [apply_cnd g, apply_optC g, apply_sumC g]
noncomputable def S.FewestJoined_run5 (x0 : List Int) : Nat → Int × Int → Option (Int)
  | 0, _ => none
  | n + 1, s_ => S.FewestJoined_step5 x0 s_.1 s_.2 (S.FewestJoined_run5 x0 n) (fun d => some d) none
theorem S.FewestJoined_L5_run (x0 : List Int) (n : Nat) (s_ : Int × Int) (k : X → St → R) : S.FewestJoined_L5 n { n := 31, t := [(0, (.ro false (.ints .i64 x0))), (3, (.int .i64 s_.1)), (4, (.int .i64 s_.2))], h := [] } k = optC (S.FewestJoined_run5 x0 n s_) (fun (r : Int) => k (.exit 0) { n := 31, t := [(3, (.int .i64 r))], h := [] }) none := by
  induction n generalizing s_ with
  | zero => rfl
  | succ n ih =>
    have hu : S.FewestJoined_L5 (n + 1) { n := 31, t := [(0, (.ro false (.ints .i64 x0))), (3, (.int .i64 s_.1)), (4, (.int .i64 s_.2))], h := [] } k = S.FewestJoined_step5 x0 s_.1 s_.2 (fun s_ => S.FewestJoined_L5 n { n := 31, t := [(0, (.ro false (.ints .i64 x0))), (3, (.int .i64 s_.1)), (4, (.int .i64 s_.2))], h := [] } k) (fun d => k (.exit 0) { n := 31, t := [(3, (.int .i64 d))], h := [] }) none := by
      kernel_rfl
    have hs : (fun s_ : Int × Int => S.FewestJoined_L5 n { n := 31, t := [(0, (.ro false (.ints .i64 x0))), (3, (.int .i64 s_.1)), (4, (.int .i64 s_.2))], h := [] } k) = fun s_ => optC (S.FewestJoined_run5 x0 n s_) (fun (r : Int) => k (.exit 0) { n := 31, t := [(3, (.int .i64 r))], h := [] }) none := funext ih
    rw [hu, hs]
    exact (S.FewestJoined_step5_nat (fun o => optC o (fun (r : Int) => k (.exit 0) { n := 31, t := [(3, (.int .i64 r))], h := [] }) none) x0 s_.1 s_.2 (S.FewestJoined_run5 x0 n) (fun d => some d) none).symm
noncomputable def S.FewestJoined_tree {α : Type} (net : List Int) (leaf0_ : Int → α) (fail_ : α) : α :=
  (optC (S.NetOk_t net) (fun c_1 => (bif !c_1 then (leaf0_ (-1)) else (optC (S.FewestJoined_run5 net FUEL (-1, 1)) (fun qy_6 => (leaf0_ qy_6)) fail_))) fail_)
theorem S.FewestJoined_tree_nat {α γ : Type} (g : α → γ) (net : List Int) (leaf0_ : Int → α) (fail_ : α) : g (S.FewestJoined_tree net leaf0_ fail_) = S.FewestJoined_tree net (fun d => g (leaf0_ d)) (g fail_) := by
  unfold S.FewestJoined_tree; simp only [apply_cnd g, apply_optC g, apply_sumC g]
noncomputable def S.FewestJoined_t (net : List Int) : Option (Int) := S.FewestJoined_tree net (fun d => some d) none
theorem S.FewestJoined_den (net : List Int) (κ : V → List E → R) : S.FewestJoined_F [.ro false (.ints .i64 net)] [] κ = optC (S.FewestJoined_t net) (fun (r : Int) => κ (.int .i64 r) []) none := by
  have hu : S.FewestJoined_F [.ro false (.ints .i64 net)] [] κ = S.FewestJoined_tree net (fun d => κ (.int .i64 d) []) none := by
    refine Eq.trans (show S.FewestJoined_F [.ro false (.ints .i64 net)] [] κ = (optC (S.NetOk_t net) (fun c_1 => (bif !c_1 then (κ (.int .i64 (-1)) []) else (S.FewestJoined_L5 FUEL { n := 31, t := [(0, (.ro false (.ints .i64 net))), (3, (.int .i64 (-1))), (4, (.int .i64 1))], h := [] } (S.FewestJoined_k5 κ)))) none) by kernel_rfl) ?_
    refine optC_congr (fun c_1 => ?_)
    refine cnd_congr ?_ ?_
    · kernel_rfl
    · refine (S.FewestJoined_L5_run net FUEL (-1, 1) (S.FewestJoined_k5 κ)).trans (optC_congr (fun qy_6 => ?_))
      kernel_rfl
  rw [hu]
  exact (S.FewestJoined_tree_nat (fun o => optC o (fun (r : Int) => κ (.int .i64 r) []) none) net (fun d => some d) none).symm
noncomputable def S.FewestJoined_s : D.Spec where
  keep := false
  pure := true
  ds := [.int .i64]
  sp := fun args h κ => match args, h with
    | [.ro false (.ints .i64 net)], [] => optC (S.FewestJoined_t net) (fun (r : Int) => κ (.int .i64 r) []) none
    | _, _ => none
theorem S.FewestJoined_ok : SpecOk Try.prog 37 S.FewestJoined_s := by
  refine SpecOk.of TDok mixed (T := S.FewestJoined_T) ?_ (ann := S.FewestJoined_ann) Try.func37 rfl (by decide +kernel) ?_ ?_ ?_
  · intro p hp
    simp only [S.FewestJoined_T, List.mem_cons, List.not_mem_nil, or_false] at hp
    rcases hp with rfl | rfl | rfl
    · exact S.NetOk_ok
    · exact S.JoinedWatchOk_ok
    · exact S.l1Size_ok
  · intro args h κ r hh
    simp only [S.FewestJoined_s] at hh
    split at hh
    · exact (S.FewestJoined_den _ κ).trans hh
    · cases hh
  · intro args h κ r hh
    simp only [S.FewestJoined_s] at hh ⊢
    split at hh
    · exact optC_law2 (F := fun (r : Int) κ => κ (.int .i64 r) []) (fun b κ r hb => ⟨_, _, hb, fun _ => rfl⟩) hh
    · cases hh
  · intro _ args h κ r hh
    simp only [S.FewestJoined_s] at hh
    split at hh
    · exact ⟨rfl, fun _ => rfl⟩
    · cases hh

-- loop.example/guardsonnets/laws.FnFewestJoined
noncomputable def L.FnFewestJoined_T : List (Nat × D.Spec) := [(35, S.DrawFewestJoined_s), (36, I.FewestJoined_s), (37, S.FewestJoined_s), (16, I.NetOk_s), (17, L.alive_s), (33, I.PartMany_s), (25, I.FewestWatch_s), (23, I.FewestTotal_s)]
def L.FnFewestJoined_ann : Nat → List Nat × List Nat
  | _ => ([], [])
noncomputable def L.FnFewestJoined_F (args : List V) (h : List E) (κ : V → List E → R) : R := funC TD (tableK L.FnFewestJoined_T) L.FnFewestJoined_ann (drawOk (tableP L.FnFewestJoined_T)) FUEL Try.f11 args h κ
noncomputable def L.FnFewestJoined_tree {α : Type} (code : List Int) (leaf0_ : Bool → α) (fail_ : α) : α :=
  (bif decide ((↑code.length : Int) > 1048576) then (leaf0_ true) else (optC (S.DrawFewestJoined_t code) (fun c_1 => (optC (I.FewestJoined_t c_1) (fun c_2 => (optC (S.FewestJoined_t c_1) (fun c_3 => (bif !c_2 == c_3 then (leaf0_ false) else (optC (I.NetOk_t c_1) (fun c_4 => (bif !c_4 then (bif c_2 == -1 then (optC (L.alive_t) (fun c_5 => (leaf0_ c_5)) fail_) else (leaf0_ false)) else (optC (I.PartMany_t c_1) (fun c_6 => (bif !c_6 == 1 then (leaf0_ (c_2 == -1)) else (optC (I.FewestWatch_t c_1) (fun c_7 => (bif decide (c_2 ≥ c_7) then (bif decide (c_2 ≤ IntKind.i64.wrap (IntKind.i64.wrap (3 * c_7) - 2)) then (bif decide (c_2 < 2) then (leaf0_ true) else (optC (I.FewestTotal_t c_1) (fun c_8 => (leaf0_ (decide (c_2 ≥ c_8)))) fail_)) else (leaf0_ false)) else (leaf0_ false))) fail_))) fail_))) fail_))) fail_)) fail_)) fail_))
theorem L.FnFewestJoined_tree_nat {α γ : Type} (g : α → γ) (code : List Int) (leaf0_ : Bool → α) (fail_ : α) : g (L.FnFewestJoined_tree code leaf0_ fail_) = L.FnFewestJoined_tree code (fun d => g (leaf0_ d)) (g fail_) := by
  unfold L.FnFewestJoined_tree; simp only [apply_cnd g, apply_optC g, apply_sumC g]
noncomputable def L.FnFewestJoined_t (code : List Int) : Option (Bool) := L.FnFewestJoined_tree code (fun d => some d) none
theorem L.FnFewestJoined_den (code : List Int) (κ : V → List E → R) : L.FnFewestJoined_F [.ro true (.ints .u8 code)] [] κ = optC (L.FnFewestJoined_t code) (fun (r : Bool) => κ (.bool r) []) none := by
  have hu : L.FnFewestJoined_F [.ro true (.ints .u8 code)] [] κ = L.FnFewestJoined_tree code (fun d => κ (.bool d) []) none := by
    kernel_rfl
  rw [hu]
  exact (L.FnFewestJoined_tree_nat (fun o => optC o (fun (r : Bool) => κ (.bool r) []) none) code (fun d => some d) none).symm
noncomputable def L.FnFewestJoined_s : D.Spec where
  keep := true
  pure := true
  ds := [.int .u8]
  sp := fun args h κ => match args, h with
    | [.ro true (.ints .u8 code)], [] => optC (L.FnFewestJoined_t code) (fun (r : Bool) => κ (.bool r) []) none
    | _, _ => none
theorem L.FnFewestJoined_ok : SpecOk Try.prog 11 L.FnFewestJoined_s := by
  refine SpecOk.of TDok mixed (T := L.FnFewestJoined_T) ?_ (ann := L.FnFewestJoined_ann) Try.func11 rfl (by decide +kernel) ?_ ?_ ?_
  · intro p hp
    simp only [L.FnFewestJoined_T, List.mem_cons, List.not_mem_nil, or_false] at hp
    rcases hp with rfl | rfl | rfl | rfl | rfl | rfl | rfl | rfl
    · exact S.DrawFewestJoined_ok
    · exact I.FewestJoined_ok
    · exact S.FewestJoined_ok
    · exact I.NetOk_ok
    · exact L.alive_ok
    · exact I.PartMany_ok
    · exact I.FewestWatch_ok
    · exact I.FewestTotal_ok
  · intro args h κ r hh
    simp only [L.FnFewestJoined_s] at hh
    split at hh
    · exact (L.FnFewestJoined_den _ κ).trans hh
    · cases hh
  · intro args h κ r hh
    simp only [L.FnFewestJoined_s] at hh ⊢
    split at hh
    · exact optC_law2 (F := fun (r : Bool) κ => κ (.bool r) []) (fun b κ r hb => ⟨_, _, hb, fun _ => rfl⟩) hh
    · cases hh
  · intro _ args h κ r hh
    simp only [L.FnFewestJoined_s] at hh
    split at hh
    · exact ⟨rfl, fun _ => rfl⟩
    · cases hh

-- loop.example/guardsonnets/laws.FnExactFewestJoined
noncomputable def L.FnExactFewestJoined_T : List (Nat × D.Spec) := [(20, L.toIntS_s), (37, S.FewestJoined_s), (36, I.FewestJoined_s), (21, L.eqIntS_s)]
def L.FnExactFewestJoined_ann : Nat → List Nat × List Nat
  | _ => ([], [])
noncomputable def L.FnExactFewestJoined_F (args : List V) (h : List E) (κ : V → List E → R) : R := funC TD (tableK L.FnExactFewestJoined_T) L.FnExactFewestJoined_ann (drawOk (tableP L.FnExactFewestJoined_T)) FUEL Try.f12 args h κ
noncomputable def L.FnExactFewestJoined_tree {α : Type} (aNet : List Int) (leaf0_ : Bool → α) (fail_ : α) : α :=
  (bif decide ((↑aNet.length : Int) > 1048576) then (leaf0_ true) else (optC (L.toIntS_t aNet) (fun c_1 => (optC (S.FewestJoined_t c_1) (fun c_2 => (optC (L.toIntS_t aNet) (fun c_3 => (optC (I.FewestJoined_t c_3) (fun c_4 => (bif !c_4 == c_2 then (leaf0_ false) else (optC (L.toIntS_t aNet) (fun c_5 => (optC (L.eqIntS_t c_3 c_5) (fun c_6 => (bif !c_6 then (leaf0_ false) else (leaf0_ true))) fail_)) fail_))) fail_)) fail_)) fail_)) fail_))
theorem L.FnExactFewestJoined_tree_nat {α γ : Type} (g : α → γ) (aNet : List Int) (leaf0_ : Bool → α) (fail_ : α) : g (L.FnExactFewestJoined_tree aNet leaf0_ fail_) = L.FnExactFewestJoined_tree aNet (fun d => g (leaf0_ d)) (g fail_) := by
  unfold L.FnExactFewestJoined_tree; simp only [apply_cnd g, apply_optC g, apply_sumC g]
noncomputable def L.FnExactFewestJoined_t (aNet : List Int) : Option (Bool) := L.FnExactFewestJoined_tree aNet (fun d => some d) none
theorem L.FnExactFewestJoined_den (aNet : List Int) (κ : V → List E → R) : L.FnExactFewestJoined_F [.ro true (.ints .i64 aNet)] [] κ = optC (L.FnExactFewestJoined_t aNet) (fun (r : Bool) => κ (.bool r) []) none := by
  have hu : L.FnExactFewestJoined_F [.ro true (.ints .i64 aNet)] [] κ = L.FnExactFewestJoined_tree aNet (fun d => κ (.bool d) []) none := by
    kernel_rfl
  rw [hu]
  exact (L.FnExactFewestJoined_tree_nat (fun o => optC o (fun (r : Bool) => κ (.bool r) []) none) aNet (fun d => some d) none).symm
noncomputable def L.FnExactFewestJoined_s : D.Spec where
  keep := true
  pure := true
  ds := [.int .i64]
  sp := fun args h κ => match args, h with
    | [.ro true (.ints .i64 aNet)], [] => optC (L.FnExactFewestJoined_t aNet) (fun (r : Bool) => κ (.bool r) []) none
    | _, _ => none
theorem L.FnExactFewestJoined_ok : SpecOk Try.prog 12 L.FnExactFewestJoined_s := by
  refine SpecOk.of TDok mixed (T := L.FnExactFewestJoined_T) ?_ (ann := L.FnExactFewestJoined_ann) Try.func12 rfl (by decide +kernel) ?_ ?_ ?_
  · intro p hp
    simp only [L.FnExactFewestJoined_T, List.mem_cons, List.not_mem_nil, or_false] at hp
    rcases hp with rfl | rfl | rfl | rfl
    · exact L.toIntS_ok
    · exact S.FewestJoined_ok
    · exact I.FewestJoined_ok
    · exact L.eqIntS_ok
  · intro args h κ r hh
    simp only [L.FnExactFewestJoined_s] at hh
    split at hh
    · exact (L.FnExactFewestJoined_den _ κ).trans hh
    · cases hh
  · intro args h κ r hh
    simp only [L.FnExactFewestJoined_s] at hh ⊢
    split at hh
    · exact optC_law2 (F := fun (r : Bool) κ => κ (.bool r) []) (fun b κ r hb => ⟨_, _, hb, fun _ => rfl⟩) hh
    · cases hh
  · intro _ args h κ r hh
    simp only [L.FnExactFewestJoined_s] at hh
    split at hh
    · exact ⟨rfl, fun _ => rfl⟩
    · cases hh


end Go.Proofs.Ytpmiinabjkdggaa
